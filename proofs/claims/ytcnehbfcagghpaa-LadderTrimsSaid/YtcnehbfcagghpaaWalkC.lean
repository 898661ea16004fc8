/- The laws of package ladder: LadderTrims. -/
import Derived.Test.YtcnehbfcagghpaaWalkA
namespace Go.Proofs.Ytcnehbfcagghpaa
open Go Go.RowKit
theorem bys_ints (l : List UInt8) : bys l = (l.map (fun c => (c.toNat : Int))).map (Value.int .u8) := by simp [bys]
theorem xor128 (x : Nat) (hx : x < 256) : bits .xor .u8 (x : Int) 128 = (((UInt8.ofNat ((x + 128) % 256)).toNat : Nat) : Int) := by
  have : ∀ x : Fin 256, bits .xor .u8 ((x.val : Nat) : Int) 128 = (((UInt8.ofNat ((x.val + 128) % 256)).toNat : Nat) : Int) := by decide +kernel
  exact this ⟨x, hx⟩
theorem trimB_ends {l : List UInt8} (h : l.length = 32) : ((trimB l)[0]'(by rw [trimB_len h]; omega)).toNat % 8 = 0 ∧ ((trimB l)[31]'(by rw [trimB_len h]; omega)).toNat / 64 = 1 := by
  obtain ⟨a, m, z, rfl, hm⟩ := trim_form h
  have ha := UInt8.toNat_lt a
  have hz := UInt8.toNat_lt z
  have e := trimB_form a z m hm
  constructor
  · simp only [e, List.getElem_cons_zero]
    rw [UInt8.toNat_ofNat']
    omega
  · simp only [e, List.getElem_cons_succ]
    rw [List.getElem_append_right (by omega)]
    simp only [hm, List.getElem_cons_zero, Nat.sub_self]
    rw [UInt8.toNat_ofNat']
    omega
set_option maxRecDepth 20000 in
set_option maxHeartbeats 8000000 in
theorem ltrims_walk (l : List UInt8) (vu : Value) (lu : List UInt8) (w : World) (hl : l.length = 32) (hu : Rd w vu (bys lu)) (ou : ∀ g, vu.ownBlock = some g → g < w.heap.size) :
    Calls Try.prog 5 #[.agg (bys l).toArray, vu] w fun e w' => e = .returned (.bool true) ∧ Kp0 w w' := by
  obtain ⟨au, cu, rfl, _, _, _⟩ := hu.shapeB
  have Hu := Lib.hid hu
  have Ou := Lib.hid ou
  clear hu ou
  have HL := Lib.hid hl
  obtain ⟨T, hT⟩ : ∃ T, T = trimB l := ⟨_, rfl⟩
  have HT := Lib.hid hT
  have HTL : Hid (T.length = 32) := Lib.hid (by rw [hT]; exact trimB_len hl)
  have HTT : Hid (trimB T = T) := Lib.hid (by rw [hT]; exact trimB_twice hl)
  obtain ⟨y0, hy0⟩ : ∃ y, y = (T[0]'(by rw [HTL.out]; omega)).toNat := ⟨_, rfl⟩
  obtain ⟨y31, hy31⟩ : ∃ y, y = (T[31]'(by rw [HTL.out]; omega)).toNat := ⟨_, rfl⟩
  have HY0 := Lib.hid hy0
  have HY31 := Lib.hid hy31
  have HE : Hid (y0 % 8 = 0 ∧ y31 / 64 = 1 ∧ y0 < 256 ∧ y31 < 256) := Lib.hid (by
    have h1 := trimB_ends hl
    refine ⟨?_, ?_, by rw [hy0]; exact UInt8.toNat_lt _, by rw [hy31]; exact UInt8.toNat_lt _⟩
    · subst hT hy0; exact h1.1
    · subst hT hy31; exact h1.2)
  clear hl hT hy0 hy31
  go_enter Try.func5, Try.ntmps5
  go_upto_region 1 with (fail)
  have BI0 := Lib.hid (blk0 w 32 (bys l))
  have KI0 := Lib.hid ((Kp.refl (fun _ => False) w).alloc (.cells (bys l).toArray 32))
  change Code.wp _ _ _ _ (w.alloc (.cells (bys l).toArray 32))
  generalize (w.alloc (.cells (bys l).toArray 32)) = w0 at BI0 KI0
  go_upto_region 4 with (first
    | (go_at_call 8; refine (fit4_any _).mono ?_; rintro e w1 ⟨rfl, hk⟩; have BI1 := Lib.hid (BI0.out.kp0 hk); have KI1 := Lib.hid (KI0.out.tr hk); clear hk)
    | (refine wl_load_blk rfl 32 (.tmp 2) rfl w.heap.size _ (bys l) rfl BI1.out _ Try.underlying32 rfl (infoA32 _ HL.out) ?_)
    | (go_at_call 14; refine (trim4_any l _ HL.out).mono ?_; rw [← HT.out]; rintro e w2 ⟨rfl, hk⟩; have BI2 := Lib.hid (BI1.out.kp0 hk); have KI2 := Lib.hid (KI1.out.tr hk); clear hk)
    | (refine wl_store_blk rfl 32 (.tmp 5) (.tmp 14) rfl w2.heap.size _ (bys z32) (bys T) rfl rfl (blk0 w2 _ _) (infoA32 _ HTL.out) (by rw [bys_len, bys_len, HTL.out]; rfl) (bysOnes _) ?_; intro w3 hA hS; have BN3 := Lib.hid hA; have hz : Kp0 w2 w3 := ((Kp.refl (fun _ => False) w2).alloc _).trans hS (fun _ _ h => h) (fun i hi e => by omega); have BI3 := Lib.hid (BI2.out.kp0 hz); have KI3 := Lib.hid (KI2.out.tr hz); have HLT := Lib.hid BI2.out.lt; clear hA hS hz))
  try simp only [Act.put]
  obtain ⟨g5, hg5⟩ : ∃ g, g = w2.heap.size := ⟨_, rfl⟩
  rw [← hg5] at BN3
  rw [← hg5]
  clear hg5 HLT BI0 KI0 BI1 KI1 BI2 KI2
  obtain ⟨s, hs⟩ : ∃ x, x = tx T := ⟨_, rfl⟩
  have HSX := Lib.hid hs
  clear hs
  have hcn : ∀ w' : World, Kp0 w3 w' → (convert 22 9 (.slice (some ⟨g5, 0, none⟩) 32 32)).run Try.prog w' = .ok (.string s) w' := fun w' hw => by rw [HSX.out]; exact cv_tx ((blk_rd32 BN3.out HTL.out).keep0 hw)
  have hce0 : ∀ w' : World, Kp0 w3 w' → w'.cell? ⟨g5, 0, none⟩ = some (.int .u8 (y0 : Int)) := fun w' hw => by rw [HY0.out]; exact (BN3.out.kp0 hw).cellB 0 (by rw [HTL.out]; omega)
  have hce31 : ∀ w' : World, Kp0 w3 w' → w'.cell? ⟨g5, 31, none⟩ = some (.int .u8 (y31 : Int)) := fun w' hw => by rw [HY31.out]; exact (BN3.out.kp0 hw).cellB 31 (by rw [HTL.out]; omega)
  have hm0 : (y0 : Int).tmod 8 = 0 := by rw [Int.tmod_eq_emod_of_nonneg (by omega)]; have := HE.out.1; omega
  have hm31 : (y31 : Int) / 64 = 1 := by have := HE.out.2.1; omega
  have HS0 : Hid (Kp0 w3 w3.drew) := Lib.hid ((Kp.refl _ _).drew)
  refine wp_region_px 24 [] (fun w' : World => Kp0 w3 w') (.quiet 0 (.quiet 2 (.quiet 1 (.eff 3 (.quiet 4 (.quiet 5 (.quiet 6 (.quiet 7 (.quiet 8 (.quiet 9 (.quiet 10 (.quiet 11 (.quiet 12 (.quiet 13 (.quiet 14 (.quiet 15 (.quiet 16 (.quiet 17 (.quiet 18 (.quiet 19 (.quiet 21 (.eff 20 (.quiet 22 (.quiet 23 .done)))))))))))))))))))))))) (by kernel_rfl) (by kernel_rfl) (by kernel_rfl) (by kernel_rfl) (fun _ d _ _ _ h => by cases d <;> exact h) HS0.out ?_
  repeat (first
    | (refine px_quiet (v := .agg (bys T).toArray) rfl (by rfl) (fun wq hwq => run_load_blk 32 (.tmp 5) rfl g5 _ (bys T) rfl (BN3.out.kp0 (HS1.out.tr hwq)) _ Try.underlying32 rfl (infoA32 _ HTL.out)) rfl ?_; try simp only [List.setIfInBounds_toArray, List.set_cons_zero, List.set_cons_succ])
    | (refine px_quiet (v := .agg (bys T).toArray) rfl (by rfl) (fun wq hwq => run_load_blk 32 (.tmp 5) rfl g5 _ (bys T) rfl (BN3.out.kp0 ((HS1.out.tr HS2.out).tr hwq)) _ Try.underlying32 rfl (infoA32 _ HTL.out)) rfl ?_; try simp only [List.setIfInBounds_toArray, List.set_cons_zero, List.set_cons_succ])
    | (refine px_quiet (v := .bool (!((T.map (fun c => (c.toNat : Int))) == (T.map (fun c => (c.toNat : Int)))))) rfl (by rfl) (fun wq _ => run_op_neq wq (.tmp 35) (.tmp 36) rfl (T.map (fun c => (c.toNat : Int))) (T.map (fun c => (c.toNat : Int))) (by rw [← bys_ints]; rfl) (by rw [← bys_ints]; rfl) Try.underlying32 Try.underlying5 (by kernel_rfl) (by kernel_rfl) (by rw [List.length_map]; exact HTL.out) (by rw [List.length_map]; exact HTL.out)) rfl ?_; rw [beq_self_eq_true]; simp only [List.setIfInBounds_toArray, List.set_cons_zero, List.set_cons_succ, Bool.not_true])
    | (refine px_quiet (v := ?_) rfl (by rfl) (fun wq hwq => ?_) rfl ?_; rotate_left 1; (focus (go_simp; try (with_reducible rfl); done)); try simp only [List.setIfInBounds_toArray, List.set_cons_zero, List.set_cons_succ])
    | (refine px_skip rfl (by rfl) rfl ?_; try simp only [List.setIfInBounds_toArray, List.set_cons_zero, List.set_cons_succ]))
  refine px_eff rfl (by rfl) (fun K hK => ?_)
  go_simp
  refine (trim_any _ l _ (blk_rd32 (BI3.out.kp0 HS0.out) HL.out) HL.out).mono ?_
  rw [← HT.out]
  rintro e z1 ⟨v1, rfl, hv, hk⟩
  simp only []
  have HV := Lib.hid hv
  have HS1 : Hid (Kp0 w3 z1) := Lib.hid (HS0.out.tr hk)
  clear hv hk hcn
  have hcv : ∀ w' : World, Kp0 z1 w' → (convert 22 9 v1).run Try.prog w' = .ok (.string s) w' := fun w' hw => by rw [HSX.out]; exact cv_tx (HV.out.rd.keep0 hw)
  have hcf0 : ∀ w' : World, Kp0 z1 w' → w'.cell? ⟨g5, 0, none⟩ = some (.int .u8 (y0 : Int)) := fun w' hw => hce0 w' (HS1.out.tr hw)
  have hcf31 : ∀ w' : World, Kp0 z1 w' → w'.cell? ⟨g5, 31, none⟩ = some (.int .u8 (y31 : Int)) := fun w' hw => hce31 w' (HS1.out.tr hw)
  clear hce0 hce31
  refine hK (fun w' : World => Kp0 z1 w') _ _ (fun x h => HS1.out.tr h) (Kp.refl _ _) ?_
  clear hK K
  repeat (first
    | (refine px_quiet (v := .agg (bys T).toArray) rfl (by rfl) (fun wq hwq => run_load_blk 32 (.tmp 5) rfl g5 _ (bys T) rfl (BN3.out.kp0 (HS1.out.tr hwq)) _ Try.underlying32 rfl (infoA32 _ HTL.out)) rfl ?_; try simp only [List.setIfInBounds_toArray, List.set_cons_zero, List.set_cons_succ])
    | (refine px_quiet (v := .agg (bys T).toArray) rfl (by rfl) (fun wq hwq => run_load_blk 32 (.tmp 5) rfl g5 _ (bys T) rfl (BN3.out.kp0 ((HS1.out.tr HS2.out).tr hwq)) _ Try.underlying32 rfl (infoA32 _ HTL.out)) rfl ?_; try simp only [List.setIfInBounds_toArray, List.set_cons_zero, List.set_cons_succ])
    | (refine px_quiet (v := .bool (!((T.map (fun c => (c.toNat : Int))) == (T.map (fun c => (c.toNat : Int)))))) rfl (by rfl) (fun wq _ => run_op_neq wq (.tmp 35) (.tmp 36) rfl (T.map (fun c => (c.toNat : Int))) (T.map (fun c => (c.toNat : Int))) (by rw [← bys_ints]; rfl) (by rw [← bys_ints]; rfl) Try.underlying32 Try.underlying5 (by kernel_rfl) (by kernel_rfl) (by rw [List.length_map]; exact HTL.out) (by rw [List.length_map]; exact HTL.out)) rfl ?_; rw [beq_self_eq_true]; simp only [List.setIfInBounds_toArray, List.set_cons_zero, List.set_cons_succ, Bool.not_true])
    | (refine px_quiet (v := ?_) rfl (by rfl) (fun wq hwq => ?_) rfl ?_; rotate_left 1; (focus (go_simp; try (with_reducible rfl); done)); try simp only [List.setIfInBounds_toArray, List.set_cons_zero, List.set_cons_succ])
    | (refine px_skip rfl (by rfl) rfl ?_; try simp only [List.setIfInBounds_toArray, List.set_cons_zero, List.set_cons_succ]))
  refine px_eff rfl (by rfl) (fun K hK => ?_)
  go_simp
  refine (trim4_any T _ HTL.out).mono ?_
  rw [HTT.out]
  rintro e z2 ⟨rfl, hk⟩
  simp only []
  have HS2 : Hid (Kp0 z1 z2) := Lib.hid hk
  clear hk hcv hcf0 hcf31
  refine hK (fun w' : World => Kp0 z2 w') _ _ (fun x h => HS2.out.tr h) (Kp.refl _ _) ?_
  clear hK K
  repeat (first
    | (refine px_quiet (v := .agg (bys T).toArray) rfl (by rfl) (fun wq hwq => run_load_blk 32 (.tmp 5) rfl g5 _ (bys T) rfl (BN3.out.kp0 (HS1.out.tr hwq)) _ Try.underlying32 rfl (infoA32 _ HTL.out)) rfl ?_; try simp only [List.setIfInBounds_toArray, List.set_cons_zero, List.set_cons_succ])
    | (refine px_quiet (v := .agg (bys T).toArray) rfl (by rfl) (fun wq hwq => run_load_blk 32 (.tmp 5) rfl g5 _ (bys T) rfl (BN3.out.kp0 ((HS1.out.tr HS2.out).tr hwq)) _ Try.underlying32 rfl (infoA32 _ HTL.out)) rfl ?_; try simp only [List.setIfInBounds_toArray, List.set_cons_zero, List.set_cons_succ])
    | (refine px_quiet (v := .bool (!((T.map (fun c => (c.toNat : Int))) == (T.map (fun c => (c.toNat : Int)))))) rfl (by rfl) (fun wq _ => run_op_neq wq (.tmp 35) (.tmp 36) rfl (T.map (fun c => (c.toNat : Int))) (T.map (fun c => (c.toNat : Int))) (by rw [← bys_ints]; rfl) (by rw [← bys_ints]; rfl) Try.underlying32 Try.underlying5 (by kernel_rfl) (by kernel_rfl) (by rw [List.length_map]; exact HTL.out) (by rw [List.length_map]; exact HTL.out)) rfl ?_; rw [beq_self_eq_true]; simp only [List.setIfInBounds_toArray, List.set_cons_zero, List.set_cons_succ, Bool.not_true])
    | (refine px_quiet (v := ?_) rfl (by rfl) (fun wq hwq => ?_) rfl ?_; rotate_left 1; (focus (go_simp; try (with_reducible rfl); done)); try simp only [List.setIfInBounds_toArray, List.set_cons_zero, List.set_cons_succ])
    | (refine px_skip rfl (by rfl) rfl ?_; try simp only [List.setIfInBounds_toArray, List.set_cons_zero, List.set_cons_succ]))
  refine px_done ?_
  have KI4 := Lib.hid (KI3.out.tr (HS1.out.tr HS2.out))
  have BI4 := Lib.hid (BI3.out.kp0 (HS1.out.tr HS2.out))
  have BN4 := Lib.hid (BN3.out.kp0 (HS1.out.tr HS2.out))
  clear hm0 hm31 HV HSX HS0 HS1 HS2 BI3 BN3 KI3 HY0 HY31 HE
  by_cases h : lu.length = 32
  · have HU := Lib.hid h
    have bu : ((lu.length : Int) != 32) = false := by rw [bne_eq_false_iff_eq]; omega
    clear h
    go_upto_region 9 with (at_builtin; refine wl_append_own rfl _ _ 22 rfl Try.underlying22 infoB rfl rfl rfl (Own.nil z2.heap.size 5 z2) (Hu.out.keep0 KI4.out) (bys_one _) (by rw [bys_len]; simp [maxLen]; have := HU.out; omega) (by rw [bys_len]; simp; have := HU.out; omega) (Nat.le_refl _) ?_; intro v5 w5 ho hg; rw [List.nil_append] at ho; have HO5 := Lib.hid ho; have HK5 : Hid (Kp0 z2 w5) := Lib.hid ((Kp.refl _ z2).grown hg (fun k hk _ => by cases hk)); clear ho hg)
    obtain ⟨g6, cap6, rfl, hgB, hcell, hfr⟩ := HO5.out.pos32 HU.out
    obtain ⟨x31, hx31⟩ : ∃ x, x = (lu[31]'(by rw [HU.out]; omega)).toNat := ⟨_, rfl⟩
    have hb31 : x31 < 256 := by rw [hx31]; exact UInt8.toNat_lt _
    have hc31 := hcell 31 (by rw [HU.out]; omega)
    rw [← hx31] at hc31
    have hf31 := hfr 31
    have hxor := xor128 x31 hb31
    obtain ⟨xb, hxb⟩ : ∃ xb, xb = UInt8.ofNat ((x31 + 128) % 256) := ⟨_, rfl⟩
    rw [← hxb] at hxor
    have HXB : Hid (xb.toNat % 128 = (lu.getD 31 0).toNat % 128) := Lib.hid (by
      rw [hxb, UInt8.toNat_ofNat', List.getD_eq_getElem?_getD, List.getElem?_eq_getElem (show 31 < lu.length by rw [HU.out]; omega), Option.getD_some, ← hx31]
      omega)
    have BI5 := Lib.hid (BI4.out.kp0 HK5.out)
    have BN5 := Lib.hid (BN4.out.kp0 HK5.out)
    have KI5 := Lib.hid (KI4.out.tr HK5.out)
    have o1 : w.heap.size < g6 := Nat.lt_of_lt_of_le BI4.out.lt hgB
    have o2 : g5 < g6 := Nat.lt_of_lt_of_le BN4.out.lt hgB
    have o3 : w.heap.size ≤ z2.heap.size := KI4.out.size
    clear hx31 hxb hcell hfr BI4 BN4 KI4
    go_upto_region 10 with (fail)
    obtain ⟨w6, hw6⟩ : ∃ w6, w6 = w5.setCell ⟨g6, 31, none⟩ (.int .u8 ((xb.toNat : Nat) : Int)) := ⟨_, rfl⟩
    have HO6 : Hid (Own z2.heap.size 5 w6 (.slice (some ⟨g6, 0, none⟩) 32 cap6) (bys (lu.set 31 xb))) := Lib.hid (by
      have h1 := HO5.out.put 31 (.int .u8 ((xb.toNat : Nat) : Int)) (by omega)
      rw [hw6]
      have e : bys (lu.set 31 xb) = (bys lu).set 31 (.int .u8 ((xb.toNat : Nat) : Int)) := by simp only [bys, List.map_set]
      rw [e]
      exact h1)
    have HK6 : Hid (Kp (fun b => b = g6) w5 w6) := Lib.hid (by rw [hw6]; exact (Kp.refl (fun b => b = g6) w5).setCell (p := ⟨g6, 31, none⟩) (fun _ => rfl) _)
    rw [← hw6]
    clear hw6 hc31 hf31 hxor hb31
    have BI6 := Lib.hid (BI5.out.keep HK6.out (fun e => by omega))
    have BN6 := Lib.hid (BN5.out.keep HK6.out (fun e => by omega))
    have KI6 : Hid (Kp0 w w6) := Lib.hid (KI5.out.trans HK6.out (fun _ _ h => h) (fun i hi e => by omega))
    have HLX : Hid ((lu.set 31 xb).length = 32) := Lib.hid (by rw [List.length_set]; exact HU.out)
    clear BI5 BN5 KI5 HO5 HK5 HK6
    have HHx : Hid (l.length = 32 ∧ lu.length = 32) := Lib.hid ⟨HL.out, HU.out⟩
    have HHy : Hid (T.length = 32 ∧ (lu.set 31 xb).length = 32) := Lib.hid ⟨HTL.out, HLX.out⟩
    go_wp2_with fail
    refine (mult4_any _ _ l lu _ (blk_rd32 BI6.out HL.out) (Hu.out.keep0 KI6.out) (fun g hg => Nat.lt_of_lt_of_le (Ou.out g hg) KI6.out.size)).mono ?_
    rintro e w7 ⟨vx, lx, nx, rfl, hs, hi⟩
    have Sx := Lib.hid hs
    have Ix := Lib.hid hi
    clear hs hi
    have hi := Ix.out
    rw [if_pos HHx.out] at hi
    obtain ⟨rfl, rfl⟩ := hi
    clear Ix
    go_wp2_with fail
    refine (mult4_any _ _ T (lu.set 31 xb) _ ((blk_rd32 BN6.out HTL.out).keep0 Sx.out.2.2) (HO6.out.rd.keep0 Sx.out.2.2) (fun g hg => Nat.lt_of_lt_of_le (HO6.out.lt g hg).2 Sx.out.2.2.size)).mono ?_
    rintro e w8 ⟨vy, ly, ny, rfl, hs, hi⟩
    have Sy := Lib.hid hs
    have Iy := Lib.hid hi
    clear hs hi
    have hi := Iy.out
    rw [if_pos HHy.out] at hi
    obtain ⟨rfl, rfl⟩ := hi
    clear Iy
    obtain ⟨x, hx⟩ : ∃ x, x = tx (mulB l lu) := ⟨_, rfl⟩
    have cx := cv_tx (Sx.out.1.keep0 Sy.out.2.2)
    have cy := cv_tx Sy.out.1
    rw [HT.out, mulB_trim HL.out HU.out xb HXB.out, ← hx] at cy
    rw [← hx] at cx
    have KF := Lib.hid ((KI6.out.tr Sx.out.2.2).tr Sy.out.2.2)
    clear hx Sx Sy
    go_wp2
    go_ret
    exact ⟨rfl, KF.out⟩
  · have bu : ((lu.length : Int) != 32) = true := by rw [bne_iff_ne]; omega
    clear h
    go_wp2
    go_ret
    exact ⟨rfl, KI4.out⟩
end Go.Proofs.Ytcnehbfcagghpaa
