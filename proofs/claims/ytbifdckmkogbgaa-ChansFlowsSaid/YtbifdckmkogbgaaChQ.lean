/- Package chans: an end that is none; what goes out of one end comes to the other one; the laws' opening. -/
import Derived.Test.YtbifdckmkogbgaaChN
namespace Go.Proofs.Ytbifdckmkogbgaa
open Go Go.RowKit
theorem state_nil (w : World) : Calls Try.prog 26 #[.pointer none] w fun e w' => e = .returned (.int .i64 0) ∧ w = w' := by
  go_enter Try.func26, Try.ntmps26
  go_wp2
  go_ret
  exact ⟨rfl, rfl⟩
theorem ready_nil (w : World) : Calls Try.prog 27 #[.pointer none] w fun e w' => e = .returned (.bool false) ∧ w = w' := by
  go_enter Try.func27, Try.ntmps27
  go_wp2
  go_ret
  exact ⟨rfl, rfl⟩
theorem out_nil (w : World) : Calls Try.prog 20 #[.pointer none] w fun e w' => e = .returned (.slice none 0 0) ∧ w = w' := by
  go_enter Try.func20, Try.ntmps20
  go_wp2
  go_ret
  exact ⟨rfl, rfl⟩
theorem begin_nil (w : World) : Calls Try.prog 11 #[.pointer none] w fun e w' => e = .returned (.int .i64 8) ∧ w = w' := by
  go_enter Try.func11, Try.ntmps11
  go_wp2
  go_ret
  exact ⟨rfl, rfl⟩
theorem send_nil (v : Value) (w : World) : Calls Try.prog 14 #[.pointer none, v] w fun e w' => e = .returned (.int .i64 8) ∧ w = w' := by
  go_enter Try.func14, Try.ntmps14
  go_wp2
  go_ret
  exact ⟨rfl, rfl⟩
theorem recv_nil (w : World) : Calls Try.prog 13 #[.pointer none] w fun e w' => e = .returned (.slice none 0 0) ∧ w = w' := by
  go_enter Try.func13, Try.ntmps13
  go_wp2
  go_ret
  exact ⟨rfl, rfl⟩
theorem pending_nil (w : World) : Calls Try.prog 15 #[.pointer none] w fun e w' => e = .returned (.int .i64 0) ∧ w = w' := by
  go_enter Try.func15, Try.ntmps15
  go_wp2
  go_ret
  exact ⟨rfl, rfl⟩
theorem close_nil (w : World) : Calls Try.prog 25 #[.pointer none] w fun e w' => e = .returned (.int .i64 8) ∧ w = w' := by
  go_enter Try.func25, Try.ntmps25
  go_wp2
  go_ret
  exact ⟨rfl, rfl⟩
theorem Rd.range2 {w : World} {b o n cap : Nat} {xs : List Value} (h : Rd w (.slice (some ⟨b, o, none⟩) n cap) xs) : w.rangeAt b o xs := by
  obtain ⟨ao', cap', e, g1, g2, g3, g4⟩ := h
  simp only [Value.slice.injEq] at e
  obtain ⟨e1, _, _⟩ := e
  intro j v hv
  have := g4 ⟨b, o, none⟩ e1.symm j v hv
  rwa [Addr.add_lit] at this
/-- Two ends, apart. -/
structure Pair (B : Nat) (w : World) (ba bb : Nat) (x : Ch × Ch) : Prop where
  p : ∃ Fa Fb, Cm B w ba Fa x.1 ∧ Cm B w bb Fb x.2 ∧ ∀ i, Fa i → ¬ Fb i
theorem Pair.swap {B : Nat} {w : World} {ba bb : Nat} {x : Ch × Ch} (h : Pair B w ba bb x) : Pair B w bb ba (x.2, x.1) := by
  obtain ⟨Fa, Fb, h1, h2, h3⟩ := h.p
  exact ⟨Fb, Fa, h2, h1, fun i hb ha => h3 i ha hb⟩
abbrev GE (B : Nat) : Nat → Prop := fun i => B ≤ i
theorem Cm.fB {B : Nat} {w : World} {b : Nat} {F : Nat → Prop} {c : Ch} (h : Cm B w b F c) : ∀ i, F i → B ≤ i ∧ i < w.heap.size := by obtain ⟨_, _, _, _, h⟩ := h; exact h.fB
theorem Cm.fb {B : Nat} {w : World} {b : Nat} {F : Nat → Prop} {c : Ch} (h : Cm B w b F c) : F b := by obtain ⟨_, _, _, _, h⟩ := h; exact h.fb
theorem Cm.base {B : Nat} {w : World} {b : Nat} {F : Nat → Prop} {c : Ch} (h : Cm B w b F c) : B ≤ w.heap.size := by obtain ⟨_, _, _, _, h⟩ := h; exact h.base
theorem Cm.kge {B : Nat} {w w1 : World} {b : Nat} {F : Nat → Prop} {c : Ch} (h : Cm B w b F c) (hk : Kp F w w1) : Kp (GE B) w w1 := hk.mono (fun i _ hi => (h.fB i hi).1)
theorem Pair.kp0 {B : Nat} {w w1 : World} {ba bb : Nat} {x : Ch × Ch} (h : Pair B w ba bb x) (hk : Kp0 w w1) : Pair B w1 ba bb x := by
  obtain ⟨Fa, Fb, h1, h2, h3⟩ := h.p
  exact ⟨Fa, Fb, h1.kp0 hk, h2.kp0 hk, h3⟩
/-- A call on one of the two. -/
theorem Pair.first {B : Nat} {w w1 : World} {ba bb : Nat} {x : Ch × Ch} {c : Ch} {Fa Fb : Nat → Prop} (_h1 : Cm B w ba Fa x.1) (h2 : Cm B w bb Fb x.2) (h3 : ∀ i, Fa i → ¬ Fb i) (hp : CmP B ba Fa w c w1) : Pair B w1 ba bb (c, x.2) := by
  obtain ⟨F', q1, q2, q3⟩ := hp
  exact ⟨F', Fb, q1, h2.keep q3 (fun i hb ha => h3 i ha hb), fun i hi hb => (q2 i hi).elim (fun h => h3 i h hb) (fun h => by have := (h2.fB i hb).2; omega)⟩
/-- While one end takes what the other one said. -/
structure CarI (B : Nat) (w wr : World) (ba bb : Nat) (vl : Value) (rows : List Value) (ca cb : Ch) (Fa Fb : Nat → Prop) : Prop where
  a : Cm B wr ba Fa { ca with out := [] }
  b : Cm B wr bb Fb cb
  d : ∀ i, Fa i → ¬ Fb i
  l : Rd wr vl rows
  r : RowsR wr rows ca.out
  nl : ∀ g, vl.ownBlock = some g → ¬ Fb g ∧ g < wr.heap.size
  nr : ∀ r, r ∈ rows → ∀ g, r.ownBlock = some g → ¬ Fb g ∧ g < wr.heap.size
  k : Kp (GE B) w wr
theorem CarI.step {B : Nat} {w wr w1 : World} {ba bb : Nat} {vl : Value} {rows : List Value} {ca cb cb' : Ch} {Fa Fb : Nat → Prop} (h : CarI B w wr ba bb vl rows ca cb Fa Fb) (hp : CmP B bb Fb wr cb' w1) : ∃ Fb', CarI B w w1 ba bb vl rows ca cb' Fa Fb' := by
  obtain ⟨F', q1, q2, q3⟩ := hp
  refine ⟨F', h.a.keep q3 h.d, q1, fun i hi hb => (q2 i hb).elim (fun h1 => h.d i hi h1) (fun h1 => by have := (h.a.fB i hi).2; omega), h.l.keep q3 (fun g hg _ => (h.nl g hg).1), h.r.keep q3 (fun v hv g hg => (h.nr v hv g hg).1), fun g hg => ⟨fun hb => (q2 g hb).elim (h.nl g hg).1 (fun h1 => by have := (h.nl g hg).2; omega), Nat.lt_of_lt_of_le (h.nl g hg).2 q3.size⟩,
    fun r hr g hg => ⟨fun hb => (q2 g hb).elim (h.nr r hr g hg).1 (fun h1 => by have := (h.nr r hr g hg).2; omega), Nat.lt_of_lt_of_le (h.nr r hr g hg).2 q3.size⟩, h.k.tr (h.b.kge q3)⟩
def CarryP (B ba bb : Nat) (x : Ch × Ch) (w : World) (e : Ending) (w' : World) : Prop := e = .returned (.tuple #[]) ∧ Pair B w' ba bb x ∧ Kp (GE B) w w'
theorem CarI.start {B : Nat} {w w1 : World} {ba bb : Nat} {ca cb : Ch} {Fa Fb : Nat → Prop} {e : Ending} (h1 : Cm B w ba Fa ca) (h2 : Cm B w bb Fb cb) (h3 : ∀ i, Fa i → ¬ Fb i) (ho : OutP B ba Fa w ca e w1) : ∃ vl rows Fa', e = .returned vl ∧ CarI B w w1 ba bb vl rows ca cb Fa' Fb := by
  obtain ⟨v, rows, F', he, q1, q2, q3, q4, q5, q6, q7, q8⟩ := ho
  have hs := q7.size
  have hk : Kp Fa w w1 := q7.mono (fun i _ hi => by subst hi; exact h1.fb)
  exact ⟨v, rows, F', he, q3, h2.keep hk (fun i hb ha => h3 i ha hb), fun i hi => h3 i (q4 i hi), q1, q2, fun g hg => ⟨h3 g (q5 g hg).1, by have := (h1.fB g (q5 g hg).1).2; omega⟩, fun r hr g hg => ⟨h3 g (q6 r hr g hg).1, by have := (h1.fB g (q6 r hr g hg).1).2; omega⟩, h1.kge hk⟩
theorem takesC_take {cb : Ch} {l : List (List UInt8)} {k : Nat} {p : List UInt8} (h : l[k]? = some p) : takesC cb (l.take (k + 1)) = (takeC (takesC cb (l.take k)) p).1 := by
  obtain ⟨hk, rfl⟩ := List.getElem?_eq_some_iff.1 h
  rw [List.take_succ_eq_append_getElem hk, takesC_app, takesC_cons, takesC_nil]
set_option maxRecDepth 20000 in
set_option maxHeartbeats 2000000 in
theorem carry_any (B ba bb : Nat) (x : Ch × Ch) (w : World) (h : Pair B w ba bb x) (hok : ∀ k, k < x.1.out.length → TakeOk (takesC x.2 (x.1.out.take k))) :
    Calls Try.prog 12 #[.pointer (some ⟨ba, 0, none⟩), .pointer (some ⟨bb, 0, none⟩)] w (CarryP B ba bb (carryS x.1 x.2) w) := by
  obtain ⟨ca, cb⟩ := x
  obtain ⟨Fa, Fb, h1, h2, h3⟩ := h.p
  have H1 := Lib.hid h1
  have H2 := Lib.hid h2
  have H3 := Lib.hid h3
  have HOK := Lib.hid hok
  clear h h1 h2 h3 hok
  simp only [] at H1 H2 HOK
  go_enter Try.func12, Try.ntmps12
  go_wp2_with fail
  refine (out_any B ba Fa ca _ H1.out).mono ?_
  rintro e w1 ho
  obtain ⟨vl, rows, Fa', rfl, hi⟩ := CarI.start H1.out H2.out H3.out ho
  have HI := Lib.hid hi
  obtain ⟨ao, cap, rfl, hc1, hc2, _⟩ := hi.l.shape
  have hrl : (rows.length : Int) ≤ 9223372036854775807 := by unfold maxLen at hc2; omega
  have HRL : Hid (rows.length = ca.out.length) := Lib.hid hi.r.1
  clear ho hi hc2 H1 H2 H3
  go_wp2
  go_loopg [9] rows.length (fun gg i wr => ∃ (k : Nat) (Fb : Nat → Prop), i = .int .i64 k ∧ gg = rows.length - k ∧ k ≤ rows.length ∧ CarI B w wr ba bb (.slice ao rows.length cap) rows ca (takesC cb (ca.out.take k)) Fa' Fb)
  case atStart => exact ⟨0, Fb, rfl, rfl, Nat.zero_le _, by rw [List.take_zero, takesC_nil]; exact HI.out⟩
  case round =>
    obtain ⟨k, Fk, rfl, rfl, hk, hi⟩ := hrel
    have HK := Lib.hid hi
    clear hi HI
    by_cases hlt : k < rows.length
    · have hlti : (k : Int) < rows.length := by omega
      obtain ⟨bp, op, xp, e, _, _, _⟩ := HK.out.l.pos (by omega)
      simp only [Value.slice.injEq] at e
      obtain ⟨rfl, _, rfl⟩ := e
      obtain ⟨v, hv⟩ : ∃ v, rows[k]? = some v := ⟨_, List.getElem?_eq_getElem hlt⟩
      obtain ⟨p, hp, hrd⟩ := HK.out.r.2 k v hv
      obtain ⟨av, cv, rfl, _, _, _⟩ := hrd.shapeB
      have hcp := HK.out.l.range2 k _ hv
      have HT := Lib.hid (takesC_take (cb := cb) hp)
      have HRD := Lib.hid hrd
      have HOKk := Lib.hid (HOK.out k (by have := HRL.out; omega))
      have HE := Lib.hid hlt
      clear hv hp hrd hlt
      go_wp2_with fail
      refine (take_any B bb Fk _ _ p _ HK.out.b HRD.out HOKk.out).mono ?_
      rintro e w2 ⟨rfl, hp⟩
      obtain ⟨Fb', hs⟩ := HK.out.step hp
      rw [← HT.out] at hs
      have HS := Lib.hid hs
      clear hp hs
      go_wp2
      go_roundg (rows.length - (k + 1))
      case measure => have := HE.out; omega
      case rel => exact ⟨k + 1, Fb', by go_num, rfl, HE.out, HS.out⟩
    · obtain rfl : k = rows.length := by omega
      have HP : Hid (Pair B wr ba bb (carryS ca cb)) := Lib.hid ⟨Fa', Fk, HK.out.a, by have := HK.out.b; rw [List.take_of_length_le (by have := HRL.out; omega)] at this; exact this, HK.out.d⟩
      clear hk hlt
      go_wp2
      go_end0
      exact ⟨rfl, HP.out, HK.out.k⟩
end Go.Proofs.Ytbifdckmkogbgaa
