/- The reference's reader: Byte, U32, Text, End. -/
import Derived.Test.YtcbkaamcjogbgaaDoorCur
namespace Go.Proofs.YtcbkaamcjogbgaaDoor
open Go Go.RowKit

theorem takeS_none {st : Option (List UInt8)} {n : Int} (h : (takeS st n).2 = none) : (takeS st n).1 = [] := by
  unfold takeS at *
  split
  · rfl
  · split
    · rename_i h1; simp [h1] at h
    · rfl
theorem takeS_some {st : Option (List UInt8)} {n : Int} {l : List UInt8} (h : (takeS st n).2 = some l) : (takeS st n).1.length = n.toNat ∧ 0 ≤ n := by
  unfold takeS at *
  split
  · simp at h
  · split
    · simp; omega
    · rename_i h1; simp [h1] at h
/-- What the cell says of the state. -/
theorem Cs.bad {w : World} {c : Nat} {v : Value} {lb : List UInt8} {st : Option (List UInt8)} (h : Cs w c v lb st) : w.cell? ⟨c, 2, none⟩ = some (.bool (!st.isSome)) := by
  obtain ⟨⟨n, f, h1, h2, rfl⟩, _⟩ := h
  rw [h1.facts.2.2.1]
  cases f <;> rfl
theorem Cs.fail {w : World} {c : Nat} {v : Value} {lb : List UInt8} {st : Option (List UInt8)} (h : Cs w c v lb st) : Cs (w.setCell ⟨c, 2, none⟩ (.bool true)) c v lb none ∧ Kp (At c) w (w.setCell ⟨c, 2, none⟩ (.bool true)) ∧ w.frozen? ⟨c, 2, none⟩ = false := by
  obtain ⟨⟨n, f, h1, h2, rfl⟩, hv, hf⟩ := h
  have hkk : Kp (At c) w (w.setCell ⟨c, 2, none⟩ (.bool true)) := (Kp.refl (At c) w).setCell (fun _ => rfl) _
  exact ⟨⟨⟨n, true, h1.bad, h2, rfl⟩, hv.keep hkk (fun g h1 _ h2 => hf g h1 h2), hf⟩, hkk, h1.facts.2.2.2.2.2⟩

theorem byte_cs (c : Nat) (v : Value) (lb : List UInt8) (st : Option (List UInt8)) (w : World) (h : Cs w c v lb st) (hlb : lb.length ≤ 140737488351232) :
    Calls Tryd.prog 45 #[.pointer (some ⟨c, 0, none⟩)] w fun e w' => e = .returned (.int .i64 ((byteS st).1 : Int)) ∧ Cs w' c v lb (byteS st).2 ∧ Kp (At c) w w' := by
  have H := Lib.hid h
  clear h
  go_enter Tryd.func45, Tryd.ntmps45
  go_wp2_with fail
  refine (take_cs c v lb 1 st _ H.out hlb).mono ?_
  rintro e w' ⟨x, rfl, hx, hc, hk, _⟩
  have hbad := hc.bad
  have HC := Lib.hid hc
  have HK := Lib.hid hk
  cases hs : (takeS st 1).2 with
  | none =>
    rw [hs] at hbad
    have HB : Hid ((byteS st).1 = 0) := Lib.hid (by unfold byteS; rw [takeS_none hs]; rfl)
    clear hx hc hk hs
    go_wp2
    go_ret
    exact ⟨by rw [HB.out]; rfl, HC.out, HK.out⟩
  | some l =>
    rw [hs] at hbad
    have hl := (takeS_some hs).1
    rw [show (1 : Int).toNat = 1 from rfl] at hl
    obtain ⟨b8, o8, cap, rfl, h1, h2, h3⟩ := hx.posB (by omega)
    have hcell := h3 0 (by omega)
    obtain ⟨u, ha⟩ : ∃ u, (takeS st 1).1 = [u] := by
      match hm : (takeS st 1).1, hl with
      | [u], _ => exact ⟨u, rfl⟩
    have g : ∀ i (hi : i < 1) (hi2 : i < (takeS st 1).1.length), (takeS st 1).1[i]'hi2 = [u][i]'hi := fun i hi hi2 => by
      congr 1
    rw [g 0 (by omega)] at hcell
    simp only [List.getElem_cons_zero, Nat.add_zero] at hcell
    rw [hl] at h1 ⊢
    have HB : Hid ((byteS st).1 = u.toNat) := Lib.hid (by unfold byteS; rw [ha]; rfl)
    have hu2 := u.toNat_lt
    clear hx hc hk hs h3 hl ha g
    go_wp2
    go_ret
    exact ⟨by rw [HB.out]; first | rfl | (congr; omega), HC.out, HK.out⟩

set_option maxHeartbeats 4000000 in
theorem u32_cs (c : Nat) (v : Value) (lb : List UInt8) (st : Option (List UInt8)) (w : World) (h : Cs w c v lb st) (hlb : lb.length ≤ 140737488351232) :
    Calls Tryd.prog 48 #[.pointer (some ⟨c, 0, none⟩)] w fun e w' => e = .returned (.int .i64 ((u32S st).1 : Int)) ∧ Cs w' c v lb (u32S st).2 ∧ Kp (At c) w w' := by
  have H := Lib.hid h
  clear h
  go_enter Tryd.func48, Tryd.ntmps48
  go_wp2_with fail
  refine (take_cs c v lb 4 st _ H.out hlb).mono ?_
  rintro e w' ⟨x, rfl, hx, hc, hk, _⟩
  have hbad := hc.bad
  have HC := Lib.hid hc
  have HK := Lib.hid hk
  cases hs : (takeS st 4).2 with
  | none =>
    rw [hs] at hbad
    have HB : Hid ((u32S st).1 = 0) := Lib.hid (by unfold u32S; rw [takeS_none hs]; rfl)
    clear hx hc hk hs
    go_wp2
    go_ret
    exact ⟨by rw [HB.out]; rfl, HC.out, HK.out⟩
  | some l =>
    rw [hs] at hbad
    have hl := (takeS_some hs).1
    rw [show (4 : Int).toNat = 4 from rfl] at hl
    obtain ⟨b8, o8, cap, rfl, h1, h2, h3⟩ := hx.posB (by omega)
    obtain ⟨a0, a1, a2, a3, ha⟩ : ∃ a0 a1 a2 a3, (takeS st 4).1 = [a0, a1, a2, a3] := by
      match hm : (takeS st 4).1, hl with
      | [a0, a1, a2, a3], _ => exact ⟨a0, a1, a2, a3, rfl⟩
    have HB : Hid ((u32S st).1 = a0.toNat * 16777216 + a1.toNat * 65536 + a2.toNat * 256 + a3.toNat) := Lib.hid (by unfold u32S; rw [ha]; rfl)
    have g : ∀ i (hi : i < 4) (hi2 : i < (takeS st 4).1.length), (takeS st 4).1[i]'hi2 = [a0, a1, a2, a3][i]'hi := fun i hi hi2 => by
      congr 1
    have e0 := h3 0 (by omega)
    have e1 := h3 1 (by omega)
    have e2 := h3 2 (by omega)
    have e3 := h3 3 (by omega)
    rw [g 0 (by omega)] at e0
    rw [g 1 (by omega)] at e1
    rw [g 2 (by omega)] at e2
    rw [g 3 (by omega)] at e3
    simp only [List.getElem_cons_zero, List.getElem_cons_succ, Nat.add_zero] at e0 e1 e2 e3
    rw [hl] at h1 ⊢
    have b0 := a0.toNat_lt
    have b1 := a1.toNat_lt
    have b2 := a2.toNat_lt
    have b3 := a3.toNat_lt
    clear hx hc hk hs h3 hl ha g
    have w0 : IntKind.i64.wrap (a0.toNat : Int) = (a0.toNat : Int) := by rw [IntKind.wrap_i64]; omega
    have w1 : IntKind.i64.wrap (a1.toNat : Int) = (a1.toNat : Int) := by rw [IntKind.wrap_i64]; omega
    have w2 : IntKind.i64.wrap (a2.toNat : Int) = (a2.toNat : Int) := by rw [IntKind.wrap_i64]; omega
    have w3 : IntKind.i64.wrap (a3.toNat : Int) = (a3.toNat : Int) := by rw [IntKind.wrap_i64]; omega
    have m0 : IntKind.i64.wrap ((a0.toNat : Int) * 16777216) = (a0.toNat : Int) * 16777216 := by rw [IntKind.wrap_i64]; omega
    have m1 : IntKind.i64.wrap ((a1.toNat : Int) * 65536) = (a1.toNat : Int) * 65536 := by rw [IntKind.wrap_i64]; omega
    have m2 : IntKind.i64.wrap ((a2.toNat : Int) * 256) = (a2.toNat : Int) * 256 := by rw [IntKind.wrap_i64]; omega
    have s1 : IntKind.i64.wrap ((a0.toNat : Int) * 16777216 + (a1.toNat : Int) * 65536) = (a0.toNat : Int) * 16777216 + (a1.toNat : Int) * 65536 := by rw [IntKind.wrap_i64]; omega
    have s2 : IntKind.i64.wrap ((a0.toNat : Int) * 16777216 + (a1.toNat : Int) * 65536 + (a2.toNat : Int) * 256) = (a0.toNat : Int) * 16777216 + (a1.toNat : Int) * 65536 + (a2.toNat : Int) * 256 := by rw [IntKind.wrap_i64]; omega
    have s3 : IntKind.i64.wrap ((a0.toNat : Int) * 16777216 + (a1.toNat : Int) * 65536 + (a2.toNat : Int) * 256 + (a3.toNat : Int)) = (a0.toNat : Int) * 16777216 + (a1.toNat : Int) * 65536 + (a2.toNat : Int) * 256 + (a3.toNat : Int) := by rw [IntKind.wrap_i64]; omega
    go_upto_region 4 with (fail)
    obtain ⟨wn, hwn⟩ : ∃ wn : World, wn = w' := ⟨_, rfl⟩
    have k0 : ∀ w2 : World, w2.heap = w'.heap → w2.cell? ⟨b8, o8, none⟩ = some (.int .u8 (a0.toNat : Int)) := fun w' h => cell_heap h e0
    have k1 : ∀ w2 : World, w2.heap = w'.heap → w2.cell? ⟨b8, o8 + 1, none⟩ = some (.int .u8 (a1.toNat : Int)) := fun w' h => cell_heap h e1
    have k2 : ∀ w2 : World, w2.heap = w'.heap → w2.cell? ⟨b8, o8 + 2, none⟩ = some (.int .u8 (a2.toNat : Int)) := fun w' h => cell_heap h e2
    have k3 : ∀ w2 : World, w2.heap = w'.heap → w2.cell? ⟨b8, o8 + 3, none⟩ = some (.int .u8 (a3.toNat : Int)) := fun w' h => cell_heap h e3
    refine wp_region_plan (fun w2 : World => w2.heap = w'.heap) [(0, true), (1, true), (2, true), (3, true), (4, true), (5, true), (6, true), (7, true), (8, true), (9, true), (10, true), (11, true), (12, true), (13, true), (14, true), (15, true), (16, true), (17, true), (18, true), (19, true), (20, true), (21, true), (22, true)] (by kernel_rfl) (by kernel_rfl) (by kernel_rfl) (by kernel_rfl) (fun _ d _ _ _ h => by cases d <;> exact h) rfl ?_
    simp only [List.map_cons, List.map_nil, List.getElem?_toArray, List.getElem?_cons_zero, List.getElem?_cons_succ, Option.getD_some]
    repeat (first
            | (refine plan_quiet (v := ?_) (by rfl) (fun wq hwq => ?_) ?_; rotate_left 1; (focus (go_simp; try (with_reducible rfl); done)); simp only [Act.put, List.setIfInBounds_toArray, List.set_cons_zero, List.set_cons_succ])
            | (refine plan_skip (by rfl) ?_; simp only [Act.put, List.setIfInBounds_toArray, List.set_cons_zero, List.set_cons_succ]))
    refine plan_nil ?_
    clear k0 k1 k2 k3
    go_wp2
    go_ret
    exact ⟨by rw [HB.out]; first | rfl | (simp only [Int.natCast_add, Int.natCast_mul]; rfl), HC.out, HK.out.drew⟩

theorem end_cs (c : Nat) (v : Value) (lb : List UInt8) (st : Option (List UInt8)) (w : World) (h : Cs w c v lb st) (_ : lb.length ≤ 140737488351232) :
    Calls Tryd.prog 49 #[.pointer (some ⟨c, 0, none⟩)] w fun e w' => e = .returned (.bool (decide (st = some []))) ∧ Kp0 w w' := by
  obtain ⟨⟨k, f, hb, hk, rfl⟩, hv, hf⟩ := h
  obtain ⟨c0, c1, c2, f0, f1, f2⟩ := hb.facts
  obtain ⟨ao, cap, rfl, hc1, hc2, hc3⟩ := hv.shapeB
  have HE : Hid (decide (cview lb k f = some []) = ((!f) && ((k : Int) == (lb.length : Int)))) := Lib.hid (by
    rw [Bool.eq_iff_iff, decide_eq_true_iff, Bool.and_eq_true, beq_iff_eq]
    cases f
    · simp [cview]; omega
    · simp [cview])
  rw [HE.out]
  clear hb hv hf HE
  cases f
  all_goals
    go_enter Tryd.func49, Tryd.ntmps49
    go_upto_region 1 with (fail)
    have g0 : ∀ w' : World, w'.heap = w.heap → w'.cell? ⟨c, 0, none⟩ = some (.slice ao lb.length cap) := fun w' h => cell_heap h c0
    have g1 : ∀ w' : World, w'.heap = w.heap → w'.cell? ⟨c, 1, none⟩ = some (.int .i64 (k : Int)) := fun w' h => cell_heap h c1
    have g2 : ∀ w' : World, w'.heap = w.heap → w'.cell? ⟨c, 2, none⟩ = some _ := fun w' h => cell_heap h c2
    refine wp_region_plan (fun w' : World => w'.heap = w.heap) [(0, true), (1, true), (2, true), (3, true), (4, true), (5, true), (6, true), (7, true), (8, true), (9, true), (10, true), (11, true), (12, true), (13, true), (14, true), (15, true), (16, true), (17, true)] (by kernel_rfl) (by kernel_rfl) (by kernel_rfl) (by kernel_rfl) (fun _ d _ _ _ h => by cases d <;> exact h) rfl ?_
    simp only [List.map_cons, List.map_nil, List.getElem?_toArray, List.getElem?_cons_zero, List.getElem?_cons_succ, Option.getD_some]
    repeat (first
            | (refine plan_quiet (v := ?_) (by rfl) (fun wq hwq => ?_) ?_; rotate_left 1; (focus (go_simp; try (with_reducible rfl); done)); simp only [Act.put, List.setIfInBounds_toArray, List.set_cons_zero, List.set_cons_succ])
            | (refine plan_skip (by rfl) ?_; simp only [Act.put, List.setIfInBounds_toArray, List.set_cons_zero, List.set_cons_succ]))
    refine plan_nil ?_
    clear g0 g1 g2
    go_wp2
    go_ret
    exact ⟨by simp, (Kp.refl _ w).drew⟩

theorem text_cs (c : Nat) (v : Value) (lb : List UInt8) (st : Option (List UInt8)) (w : World) (h : Cs w c v lb st) (hlb : lb.length ≤ 140737488351232) :
    Calls Tryd.prog 57 #[.pointer (some ⟨c, 0, none⟩)] w fun e w' => ∃ t, e = .returned (.string t) ∧ t.toList = (textS st).1 ∧ Cs w' c v lb (textS st).2 ∧ Kp (At c) w w' := by
  have H := Lib.hid h
  clear h
  obtain ⟨n, hn⟩ : ∃ n, n = (u32S st).1 := ⟨_, rfl⟩
  have hlt : n < 4294967296 := by rw [hn]; exact beNat_lt _
  have HN := Lib.hid hn
  clear hn
  go_enter Tryd.func57, Tryd.ntmps57
  go_wp2_with fail
  refine (u32_cs c v lb st _ H.out hlb).mono ?_
  rintro e w1 ⟨rfl, hc, hk⟩
  rw [← HN.out]
  have HC := Lib.hid hc
  have HK := Lib.hid hk
  clear hc hk
  by_cases h : 16384 < n
  · have HT : Hid (textS st = ([], none)) := Lib.hid (by unfold textS; rw [if_pos (by rw [← HN.out]; exact h)])
    obtain ⟨hc2, hk2, hfz⟩ := HC.out.fail
    have HC2 := Lib.hid hc2
    have HK2 := Lib.hid hk2
    have hbad := HC.out.bad
    clear hc2 hk2
    go_wp2_with fail
    refine (take_cs c v lb _ none _ HC2.out hlb).mono ?_
    rintro e w2 ⟨x, rfl, hx, hc3, hk3, _⟩
    have HC3 := Lib.hid hc3
    have HK3 := Lib.hid hk3
    have HX := Lib.hid hx
    clear hc3 hk3 hx
    go_wp2_with (refine wl_str_of (l := []) (o := ⟨some 14, _, _, _, _, _⟩) rfl _ 24 9 5 rfl Tryd.underlying24 Tryd.underlying5 Tryd.underlying9 rfl HX.out ?_)
    intro s hs
    have HS := Lib.hid hs
    clear hs
    go_wp2
    go_ret
    exact ⟨_, rfl, by rw [HT.out]; exact HS.out, by rw [HT.out]; exact HC3.out, (HK.out.tr HK2.out).tr HK3.out⟩
  · have HT : Hid (textS st = takeS (u32S st).2 n) := Lib.hid (by unfold textS; rw [if_neg (by rw [← HN.out]; exact h), ← HN.out])
    go_wp2_with fail
    refine (take_cs c v lb _ _ _ HC.out hlb).mono ?_
    rintro e w2 ⟨x, rfl, hx, hc3, hk3, _⟩
    have HC3 := Lib.hid hc3
    have HK3 := Lib.hid hk3
    have HX := Lib.hid hx
    clear hc3 hk3 hx
    go_wp2_with (refine wl_str_of (o := ⟨some 14, _, _, _, _, _⟩) rfl _ 24 9 5 rfl Tryd.underlying24 Tryd.underlying5 Tryd.underlying9 rfl HX.out ?_)
    intro s hs
    have HS := Lib.hid hs
    clear hs
    go_wp2
    go_ret
    exact ⟨_, rfl, by rw [HT.out]; exact HS.out, by rw [HT.out]; exact HC3.out, HK.out.tr HK3.out⟩
end Go.Proofs.YtcbkaamcjogbgaaDoor
