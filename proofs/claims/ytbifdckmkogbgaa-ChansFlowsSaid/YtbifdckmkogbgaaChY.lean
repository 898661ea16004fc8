/- Carrying, with the blocks that it may change. -/
import Derived.Test.YtbifdckmkogbgaaChV
import Derived.Test.YtbifdckmkogbgaaChG
namespace Go.Proofs.Ytbifdckmkogbgaa
open Go Go.RowKit
/-- The two ends; their blocks lie in S. -/
structure PairF (B : Nat) (S : Nat → Prop) (w : World) (ba bb : Nat) (x : Ch × Ch) : Prop where
  p : ∃ Fa Fb, Cm B w ba Fa x.1 ∧ Cm B w bb Fb x.2 ∧ (∀ i, Fa i → ¬ Fb i) ∧ (∀ i, Fa i → S i) ∧ ∀ i, Fb i → S i
theorem PairF.swap {B : Nat} {S : Nat → Prop} {w : World} {ba bb : Nat} {x : Ch × Ch} (h : PairF B S w ba bb x) : PairF B S w bb ba (x.2, x.1) := by
  obtain ⟨Fa, Fb, h1, h2, h3, h4, h5⟩ := h.p
  exact ⟨Fb, Fa, h2, h1, fun i hb ha => h3 i ha hb, h5, h4⟩
theorem PairF.kp {B : Nat} {S U : Nat → Prop} {w w1 : World} {ba bb : Nat} {x : Ch × Ch} (h : PairF B S w ba bb x) (hk : Kp U w w1) (hu : ∀ i, U i → ¬ S i) : PairF B S w1 ba bb x := by
  obtain ⟨Fa, Fb, h1, h2, h3, h4, h5⟩ := h.p
  exact ⟨Fa, Fb, h1.keep hk (fun i hi hu2 => hu i hu2 (h4 i hi)), h2.keep hk (fun i hi hu2 => hu i hu2 (h5 i hi)), h3, h4, h5⟩
/-- A call on the first of the two. -/
theorem PairF.first {B : Nat} {S : Nat → Prop} {w w1 : World} {ba bb : Nat} {x : Ch × Ch} {c : Ch} {Fa Fb F' : Nat → Prop} (h2 : Cm B w bb Fb x.2) (h3 : ∀ i, Fa i → ¬ Fb i) (h4 : ∀ i, Fa i → S i) (h5 : ∀ i, Fb i → S i) (hS : ∀ i, w.heap.size ≤ i → S i) (q1 : Cm B w1 ba F' c) (q2 : ∀ i, F' i → Fa i ∨ w.heap.size ≤ i) (q3 : Kp Fa w w1) : PairF B S w1 ba bb (c, x.2) ∧ Kp S w w1 :=
  ⟨⟨F', Fb, q1, h2.keep q3 (fun i hb ha => h3 i ha hb), fun i hi hb => (q2 i hi).elim (fun h => h3 i h hb) (fun h => by have := (h2.fB i hb).2; omega), fun i hi => (q2 i hi).elim (h4 i) (hS i), h5⟩, q3.mono (fun i _ hi => h4 i hi)⟩
/-- While one end takes what the other one said. -/
structure CarJ (B : Nat) (S : Nat → Prop) (w wr : World) (ba bb : Nat) (vl : Value) (rows : List Value) (ca cb : Ch) (Fa Fb : Nat → Prop) : Prop where
  a : Cm B wr ba Fa { ca with out := [] }
  b : Cm B wr bb Fb cb
  d : ∀ i, Fa i → ¬ Fb i
  l : Rd wr vl rows
  r : RowsR wr rows ca.out
  nl : ∀ g, vl.ownBlock = some g → ¬ Fb g ∧ g < wr.heap.size
  nr : ∀ r, r ∈ rows → ∀ g, r.ownBlock = some g → ¬ Fb g ∧ g < wr.heap.size
  k : Kp S w wr
  sa : ∀ i, Fa i → S i
  sb : ∀ i, Fb i → S i
theorem CarJ.step {B : Nat} {S : Nat → Prop} {w wr w1 : World} {ba bb : Nat} {vl : Value} {rows : List Value} {ca cb cb' : Ch} {Fa Fb : Nat → Prop} (h : CarJ B S w wr ba bb vl rows ca cb Fa Fb) (hS : ∀ i, w.heap.size ≤ i → S i) (hp : CmP B bb Fb wr cb' w1) : ∃ Fb', CarJ B S w w1 ba bb vl rows ca cb' Fa Fb' := by
  obtain ⟨F', q1, q2, q3⟩ := hp
  refine ⟨F', h.a.keep q3 h.d, q1, fun i hi hb => (q2 i hb).elim (fun h1 => h.d i hi h1) (fun h1 => by have := (h.a.fB i hi).2; omega), h.l.keep q3 (fun g hg _ => (h.nl g hg).1), h.r.keep q3 (fun v hv g hg => (h.nr v hv g hg).1), fun g hg => ⟨fun hb => (q2 g hb).elim (h.nl g hg).1 (fun h1 => by have := (h.nl g hg).2; omega), Nat.lt_of_lt_of_le (h.nl g hg).2 q3.size⟩,
    fun r hr g hg => ⟨fun hb => (q2 g hb).elim (h.nr r hr g hg).1 (fun h1 => by have := (h.nr r hr g hg).2; omega), Nat.lt_of_lt_of_le (h.nr r hr g hg).2 q3.size⟩, h.k.tr (q3.mono (fun i _ hi => h.sb i hi)), h.sa, fun i hi => (q2 i hi).elim (h.sb i) (fun h1 => hS i (Nat.le_trans h.k.size h1))⟩
theorem CarJ.start {B : Nat} {S : Nat → Prop} {w w1 : World} {ba bb : Nat} {ca cb : Ch} {Fa Fb : Nat → Prop} {e : Ending} (h1 : Cm B w ba Fa ca) (h2 : Cm B w bb Fb cb) (h3 : ∀ i, Fa i → ¬ Fb i) (h4 : ∀ i, Fa i → S i) (h5 : ∀ i, Fb i → S i) (ho : OutP B ba Fa w ca e w1) : ∃ vl rows Fa', e = .returned vl ∧ CarJ B S w w1 ba bb vl rows ca cb Fa' Fb := by
  obtain ⟨v, rows, F', he, q1, q2, q3, q4, q5, q6, q7, q8⟩ := ho
  have hs := q7.size
  have hk : Kp Fa w w1 := q7.mono (fun i _ hi => by subst hi; exact h1.fb)
  exact ⟨v, rows, F', he, q3, h2.keep hk (fun i hb ha => h3 i ha hb), fun i hi => h3 i (q4 i hi), q1, q2, fun g hg => ⟨h3 g (q5 g hg).1, by have := (h1.fB g (q5 g hg).1).2; omega⟩, fun r hr g hg => ⟨h3 g (q6 r hr g hg).1, by have := (h1.fB g (q6 r hr g hg).1).2; omega⟩, hk.mono (fun i _ hi => h4 i hi), fun i hi => h4 i (q4 i hi), h5⟩
set_option maxRecDepth 20000 in
set_option maxHeartbeats 2000000 in
theorem carry_fr (B : Nat) (S : Nat → Prop) (ba bb : Nat) (x : Ch × Ch) (w : World) (h : PairF B S w ba bb x) (hS : ∀ i, w.heap.size ≤ i → S i) (hok : ∀ k, k < x.1.out.length → TakeOk (takesC x.2 (x.1.out.take k))) :
    Calls Try.prog 12 #[.pointer (some ⟨ba, 0, none⟩), .pointer (some ⟨bb, 0, none⟩)] w (fun e w' => e = .returned (.tuple #[]) ∧ PairF B S w' ba bb (carryS x.1 x.2) ∧ Kp S w w') := by
  obtain ⟨ca, cb⟩ := x
  obtain ⟨Fa, Fb, h1, h2, h3, h4, h5⟩ := h.p
  have H4 := Lib.hid h4
  have H5 := Lib.hid h5
  have HSS := Lib.hid hS
  have H1 := Lib.hid h1
  have H2 := Lib.hid h2
  have H3 := Lib.hid h3
  have HOK := Lib.hid hok
  clear h h1 h2 h3 h4 h5 hS hok
  simp only [] at H1 H2 HOK
  go_enter Try.func12, Try.ntmps12
  go_wp2_with fail
  refine (out_any B ba Fa ca _ H1.out).mono ?_
  rintro e w1 ho
  obtain ⟨vl, rows, Fa', rfl, hi⟩ := CarJ.start H1.out H2.out H3.out H4.out H5.out ho
  have HI := Lib.hid hi
  obtain ⟨ao, cap, rfl, hc1, hc2, _⟩ := hi.l.shape
  have hrl : (rows.length : Int) ≤ 9223372036854775807 := by unfold maxLen at hc2; omega
  have HRL : Hid (rows.length = ca.out.length) := Lib.hid hi.r.1
  clear ho hi hc2 H1 H2 H3
  go_wp2
  go_loopg [9] rows.length (fun gg i wr => ∃ (k : Nat) (Fb : Nat → Prop), i = .int .i64 k ∧ gg = rows.length - k ∧ k ≤ rows.length ∧ CarJ B S w wr ba bb (.slice ao rows.length cap) rows ca (takesC cb (ca.out.take k)) Fa' Fb)
  case atStart => exact ⟨0, Fb, rfl, rfl, Nat.zero_le _, by rw [List.take_zero, takesC_nil]; exact HI.out⟩
  case round =>
    obtain ⟨k, Fk, rfl, rfl, hk, hi⟩ := hrel
    have HK := Lib.hid hi
    clear hi HI
    by_cases hlt : k < rows.length
    · have hlti : (k : Int) < rows.length := by omega
      obtain ⟨bp, op, xp, e, _, _, _⟩ := HK.out.l.pos (by omega)
      simp only [Value.slice.injEq] at e
      obtain ⟨rfl, _, rfl⟩ := e
      obtain ⟨v, hv⟩ : ∃ v, rows[k]? = some v := ⟨_, List.getElem?_eq_getElem hlt⟩
      obtain ⟨p, hp, hrd⟩ := HK.out.r.2 k v hv
      obtain ⟨av, cv, rfl, _, _, _⟩ := hrd.shapeB
      have hcp := HK.out.l.range2 k _ hv
      have HT := Lib.hid (takesC_take (cb := cb) hp)
      have HRD := Lib.hid hrd
      have HOKk := Lib.hid (HOK.out k (by have := HRL.out; omega))
      have HE := Lib.hid hlt
      clear hv hp hrd hlt
      go_wp2_with fail
      refine (take_any B bb Fk _ _ p _ HK.out.b HRD.out HOKk.out).mono ?_
      rintro e w2 ⟨rfl, hp⟩
      obtain ⟨Fb', hs⟩ := HK.out.step HSS.out hp
      rw [← HT.out] at hs
      have HS := Lib.hid hs
      clear hp hs
      go_wp2
      go_roundg (rows.length - (k + 1))
      case measure => have := HE.out; omega
      case rel => exact ⟨k + 1, Fb', by go_num, rfl, HE.out, HS.out⟩
    · obtain rfl : k = rows.length := by omega
      have HP : Hid (PairF B S wr ba bb (carryS ca cb)) := Lib.hid ⟨Fa', Fk, HK.out.a, by have := HK.out.b; rw [List.take_of_length_le (by have := HRL.out; omega)] at this; exact this, HK.out.d, HK.out.sa, HK.out.sb⟩
      clear hk hlt
      go_wp2
      go_end0
      exact ⟨rfl, HP.out, HK.out.k⟩
end Go.Proofs.Ytbifdckmkogbgaa
