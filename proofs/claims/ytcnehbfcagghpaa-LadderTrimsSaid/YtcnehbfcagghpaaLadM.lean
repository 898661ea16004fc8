/- Package ladder: Mult, Public, Shared; the reference's Public. -/
import Derived.Test.YtcnehbfcagghpaaLadF
import Derived.Test.YtcnehbfcagghpaaTimes
import Derived.Laws.Cover3
namespace Go.Proofs.Ytcnehbfcagghpaa
open Go Go.RowKit
theorem mulB_prog (lk lu : List UInt8) (hlu : lu.length = 32) : leB 32 (Edw.multP 57896044618658097711785492504343953926634992332820282019728792003956564819949 (readN lu) (Edw.bitsN 255 (leN (trimB lk)))) = mulB lk lu := by
  have e : readN lu = readU lu := by rw [readN, if_pos hlu, readU]
  rw [e, Edw.multP_eq Edw.two_ne _ (readU_lt lu)]
  rfl
theorem bytes_mulB (lk lu : List UInt8) (hlu : lu.length = 32) (cs : List Value) (w : World) (h : Fe El cs (Edw.multP 57896044618658097711785492504343953926634992332820282019728792003956564819949 (readN lu) (Edw.bitsN 255 (leN (trimB lk))))) : Calls Try.prog 18 #[.agg cs.toArray] w fun e w' => e = .returned (.agg (bys (mulB lk lu)).toArray) ∧ Kp0 w w' := by
  have := bytes_fe cs _ w h
  rwa [mulB_prog lk lu hlu] at this
theorem rd_range {w : World} {b o cap n : Nat} {xs : List Value} (h : Rd w (.slice (some ⟨b, o, none⟩) n cap) xs) : w.rangeAt b o xs := by
  intro j v hv
  obtain ⟨ao, c2, e, h1, h2, h3, h4⟩ := h
  simp only [Value.slice.injEq] at e
  have := h4 ⟨b, o, none⟩ (by rw [← e.1]) j v hv
  rwa [show ((⟨b, o, none⟩ : Addr).add j) = ⟨b, o + j, none⟩ by unfold Addr.add; split <;> simp_all] at this
theorem blk_rd32 {w : World} {g : Nat} {T : TypeId} {l : List UInt8} (h : Blk w g T (bys l)) (hl : l.length = 32) : Rd w (.slice (some ⟨g, 0, none⟩) 32 32) (bys l) := by
  refine ⟨some ⟨g, 0, none⟩, 32, by rw [bys_len, hl], by rw [bys_len, hl]; omega, by unfold maxLen; omega, by simp, ?_⟩
  intro ad e i u hu
  cases e
  rw [show ((⟨g, 0, none⟩ : Addr).add i) = ⟨g, i, none⟩ by unfold Addr.add; split <;> simp_all, blk_cell h i]
  simpa using hu
/-- A slice that the call made, or none, and what it holds. -/
def Sl (w w' : World) (v : Value) (l : List UInt8) : Prop := Rd w' v (bys l) ∧ (∀ g, v.ownBlock = some g → g < w'.heap.size) ∧ Kp0 w w'
theorem Sl.none {w : World} : Sl w w (.slice none 0 0) [] := ⟨Rd.nil w, (fun _ h => (by cases h)), Kp.refl _ _⟩
theorem mult4_no (vk vu : Value) (lk lu : List UInt8) (w : World) (hk : Rd w vk (bys lk)) (hu : Rd w vu (bys lu)) (hou : ∀ g, vu.ownBlock = some g → g < w.heap.size) (hn : lk.length ≠ 32 ∨ lu.length ≠ 32) :
    Calls Try.prog 9 #[vk, vu] w fun e w' => e = .returned (.tuple #[.slice none 0 0, .int .i64 2]) ∧ Kp0 w w' := by
  obtain ⟨ao, cap, rfl, hc1, hc2, hc3⟩ := hk.shapeB
  have HU := Lib.hid hu
  have HOU := Lib.hid hou
  have HK := Lib.hid hk
  clear hk hu hou
  by_cases h1 : lk.length = 32
  · have hlu : lu.length ≠ 32 := by omega
    have hd : decide (lu.length = 32) = false := decide_eq_false hlu
    have hb : ((lk.length : Int) != 32) = false := by rw [bne_eq_false_iff_eq]; omega
    clear h1 hlu hn
    go_enter Try.func9, Try.ntmps9
    go_wp2_with (first
      | (go_at_call 16; refine (read_fe vu lu _ HU.out HOU.out).mono ?_; rw [hd]; rintro e w1 ⟨cs, rfl, hc, hk1⟩; have HC := Lib.hid hc; have HK1 := Lib.hid hk1; clear hc hk1)
      | (refine wl_store_blk rfl 40 (.tmp 6) (.tmp 15) rfl w1.heap.size _ (kis .u64 z5) cs rfl rfl (blk0 w1 _ _) HC.out.2.2.1 (len_of (T := 40) fe_z5.2.2.1 HC.out.2.2.1) HC.out.2.2.2 ?_; intro w2 hA hS; have HK2 : Hid (Kp0 w w2) := Lib.hid (((HK1.out.alloc _)).trans hS (fun _ _ h => h) (fun i hi e => by have := HK1.out.size; omega)); clear hA hS))
    go_ret2
    exact ⟨rfl, HK2.out⟩
  · have hb : ((lk.length : Int) != 32) = true := by rw [bne_iff_ne]; omega
    clear hn
    go_enter Try.func9, Try.ntmps9
    go_wp2
    go_ret2
    exact ⟨rfl, Kp.refl _ _⟩
set_option maxRecDepth 20000 in
set_option maxHeartbeats 4000000 in
theorem mult4_yes (vk vu : Value) (lk lu : List UInt8) (w : World) (hk : Rd w vk (bys lk)) (hu : Rd w vu (bys lu)) (hou : ∀ g, vu.ownBlock = some g → g < w.heap.size) (h1 : lk.length = 32) (h2 : lu.length = 32) :
    Calls Try.prog 9 #[vk, vu] w fun e w' => ∃ v, e = .returned (.tuple #[v, .int .i64 0]) ∧ Sl w w' v (mulB lk lu) := by
  obtain ⟨b, o, cap, rfl, hc1, hc2, _⟩ := hk.posB (by omega)
  have HU := Lib.hid hu
  have HOU := Lib.hid hou
  have HK := Lib.hid hk
  have HL1 := Lib.hid h1
  have HL2 := Lib.hid h2
  have hd : decide (lu.length = 32) = true := decide_eq_true h2
  rw [h1] at hc1
  rw [h1] at HK ⊢
  have hat : ∀ w : World, (Instr.arrayAt 32 (.slice (some ⟨b, o, none⟩) 32 cap)).run Try.prog w = .ok (.pointer (some ⟨b, o, none⟩)) w := fun w => run_arrayAt w 32 _ 32 _ 32 cap Try.underlying32 (Nat.le_refl _)
  clear hk hu hou h1 h2
  go_enter Try.func9, Try.ntmps9
  go_upto_region 6 with (first
    | (go_at_call 16; refine (read_fe vu lu _ HU.out HOU.out).mono ?_; rw [hd]; rintro e w1 ⟨cs, rfl, hc, hk1⟩; have HC := Lib.hid hc; have HK1 := Lib.hid hk1; clear hc hk1)
    | (refine wl_store_blk rfl 40 (.tmp 6) (.tmp 15) rfl w1.heap.size _ (kis .u64 z5) cs rfl rfl (blk0 w1 _ _) HC.out.2.2.1 (len_of (T := 40) fe_z5.2.2.1 HC.out.2.2.1) HC.out.2.2.2 ?_; intro w2 hA hS; have HKA : Hid (Kp0 w w2) := Lib.hid (((HK1.out.alloc _)).trans hS (fun _ _ h => h) (fun i hi e => by have := HK1.out.size; omega)); have B6_0 := Lib.hid hA; have HW := Lib.hid HK1.out.size; clear hA hS))
  try simp only [Act.put]
  obtain ⟨g6, hg6⟩ : ∃ g, g = w1.heap.size := ⟨_, rfl⟩
  rw [← hg6] at B6_0 HW
  rw [← hg6]
  have hwg : w.heap.size ≤ g6 := HW.out
  have HR : Hid (w2.rangeAt b o (bys lk)) := Lib.hid (rd_range (HK.out.keep0 HKA.out))
  clear hg6 HW HK1 hd
  go_cut [8] (fun p8 wx => ∃ g8 : Nat, p8 = .pointer (some ⟨g8, 0, none⟩) ∧ Blk wx g8 32 (bys (mulB lk lu)) ∧ Kp0 w wx)
  case first =>
    have HK1_0 : Hid (Kp0 w2.drew w2.drew) := Lib.hid (Kp.refl _ _)
    refine wp_region_px 9 [] (fun w' : World => Kp0 w2.drew w') (.quiet 0 (.quiet 4 (.quiet 1 (.quiet 2 (.two 3 (.two 5 (.two 6 (.eff 7 (.eff 8 .done)) 7 (.eff 6 (.eff 8 .done))) 7 (.eff 5 (.eff 6 (.eff 8 .done)))) 7 (.eff 3 (.eff 5 (.eff 6 (.eff 8 .done))))))))) (by kernel_rfl) (by kernel_rfl) (by kernel_rfl) (by kernel_rfl) (fun _ d _ _ _ h => by cases d <;> exact h) HK1_0.out ?_
    refine px_quiet (v := ?_) rfl (by rfl) (fun wq hwq => ?_) rfl ?_; rotate_left 1; (focus (go_simp; try (with_reducible rfl); done)); try simp only [List.setIfInBounds_toArray, List.set_cons_zero, List.set_cons_succ]
    refine px_quiet (v := .agg (cs).toArray) rfl (by rfl) (fun wq hwq => run_load_blk 40 (.tmp 6) rfl g6 _ (cs) rfl (B6_0.out.kp0 ((Kp.refl _ w2).drew.tr hwq)) _ Try.underlying40 rfl HC.out.2.2.1) rfl ?_
    try simp only [List.setIfInBounds_toArray, List.set_cons_zero, List.set_cons_succ]
    refine px_quiet (v := ?_) rfl (by rfl) (fun wq hwq => ?_) rfl ?_; rotate_left 1; (focus (go_simp; try (with_reducible rfl); done)); try simp only [List.setIfInBounds_toArray, List.set_cons_zero, List.set_cons_succ]
    refine px_quiet (v := .agg (bys lk).toArray) rfl (by rfl) (fun wq hwq => run_load_mid 32 (.tmp 20) rfl b o (bys lk) rfl (rd_range (HK.out.keep0 (HKA.out.tr ((Kp.refl _ w2).drew.tr hwq)))) _ Try.underlying32 rfl (infoA32 _ HL1.out)) rfl ?_
    try simp only [List.setIfInBounds_toArray, List.set_cons_zero, List.set_cons_succ]
    refine ⟨px_one rfl (by rfl) (fun K hK => ?_), px_one rfl (by rfl) (fun K hK => ?_)⟩
    · go_simp
      refine (trim4_any lk _ HL1.out).mono ?_
      rintro e ww2 ⟨rfl, hk⟩
      simp only []
      have HK2 : Hid (Kp0 w2.drew ww2) := Lib.hid (HK1_0.out.tr hk)
      clear hk
      refine hK (fun w' : World => Kp0 w2.drew w') _ _ (fun x h => h) HK2.out ?_
      clear hK K
      refine ⟨px_one rfl (by rfl) (fun K hK => ?_), px_one rfl (by rfl) (fun K hK => ?_)⟩
      · go_simp
        refine (times_any (trimB lk) cs _ _ (trimB_len HL1.out) HC.out).mono ?_
        rintro e ww3 ⟨c3, rfl, hc, hk⟩
        simp only []
        have HC3 := Lib.hid hc
        clear hc
        have HK3 : Hid (Kp0 w2.drew ww3) := Lib.hid (HK2.out.tr hk)
        clear hk
        refine hK (fun w' : World => Kp0 w2.drew w') _ _ (fun x h => h) HK3.out ?_
        clear hK K
        refine ⟨px_one rfl (by rfl) (fun K hK => ?_), px_one rfl (by rfl) (fun K hK => ?_)⟩
        · go_simp
          refine (bytes_mulB lk lu HL2.out c3 _ HC3.out).mono ?_
          rintro e ww4 ⟨rfl, hk⟩
          simp only []
          have HK4 : Hid (Kp0 w2.drew ww4) := Lib.hid (HK3.out.tr hk)
          clear hk
          refine hK (fun w' : World => Kp0 w2.drew w') _ _ (fun x h => h) HK4.out ?_
          clear hK K
          refine px_eff rfl (by rfl) (fun K hK => ?_)
          go_simp
          refine hK (fun w' : World => Kp0 w2.drew w') _ _ (fun x h => h) (HK4.out.alloc _) ?_
          clear hK K
          have L8_5 : w2.drew.heap.size ≤ ww4.heap.size := HK4.out.size
          have HK5 : Hid (Kp0 w2.drew (ww4.alloc (.cells ((bys z32)).toArray 32))) := Lib.hid (HK4.out.alloc _)
          have B8_5 : Hid (Blk (ww4.alloc (.cells ((bys z32)).toArray 32)) ww4.heap.size 32 ((bys z32))) := Lib.hid (blk0 ww4 _ _)
          change PX.wp _ _ _ _ _ _ (ww4.alloc (.cells ((bys z32)).toArray 32))
          generalize (ww4.alloc (.cells ((bys z32)).toArray 32)) = ww5 at HK5 B8_5 ⊢
          refine px_eff rfl (by rfl) (fun K hK => ?_)
          refine wp_store_blk 32 (.tmp 8) (.tmp 25) rfl ww4.heap.size _ ((bys z32)) ((bys (mulB lk lu))) rfl rfl B8_5.out (infoA32 _ (mulB_len lk lu)) (len_of (T := 32) (infoA32 _ rfl) (infoA32 _ (mulB_len lk lu))) (bysOnes _) ?_
          intro ww6 hA hS
          have B8_6 := Lib.hid hA
          have HK6 : Hid (Kp0 w2.drew ww6) := Lib.hid (HK5.out.trans hS (fun _ _ h => h) (fun i hi e => by omega))
          clear hA hS
          refine hK (fun w' : World => Kp0 w2.drew w') _ _ (fun x h => h) HK6.out ?_
          clear hK K
          refine px_done ?_
          go_wp2
          go_meet
          exact ⟨ww4.heap.size, rfl, B8_6.out, HKA.out.tr ((Kp.refl _ w2).drew.tr HK6.out)⟩
        · go_simp
          refine hK (fun w' : World => Kp0 w2.drew w') _ _ (fun x h => h) (HK3.out.alloc _) ?_
          clear hK K
          have L8_7 : w2.drew.heap.size ≤ ww3.heap.size := HK3.out.size
          have HK7 : Hid (Kp0 w2.drew (ww3.alloc (.cells ((bys z32)).toArray 32))) := Lib.hid (HK3.out.alloc _)
          have B8_7 : Hid (Blk (ww3.alloc (.cells ((bys z32)).toArray 32)) ww3.heap.size 32 ((bys z32))) := Lib.hid (blk0 ww3 _ _)
          change PX.wp _ _ _ _ _ _ (ww3.alloc (.cells ((bys z32)).toArray 32))
          generalize (ww3.alloc (.cells ((bys z32)).toArray 32)) = ww7 at HK7 B8_7 ⊢
          refine px_eff rfl (by rfl) (fun K hK => ?_)
          go_simp
          refine (bytes_mulB lk lu HL2.out c3 _ HC3.out).mono ?_
          rintro e ww8 ⟨rfl, hk⟩
          simp only []
          have HK8 : Hid (Kp0 w2.drew ww8) := Lib.hid (HK7.out.tr hk)
          have B8_8 := Lib.hid (B8_7.out.kp0 hk)
          clear hk
          refine hK (fun w' : World => Kp0 w2.drew w') _ _ (fun x h => h) HK8.out ?_
          clear hK K
          refine px_eff rfl (by rfl) (fun K hK => ?_)
          refine wp_store_blk 32 (.tmp 8) (.tmp 25) rfl ww3.heap.size _ ((bys z32)) ((bys (mulB lk lu))) rfl rfl B8_8.out (infoA32 _ (mulB_len lk lu)) (len_of (T := 32) (infoA32 _ rfl) (infoA32 _ (mulB_len lk lu))) (bysOnes _) ?_
          intro ww9 hA hS
          have B8_9 := Lib.hid hA
          have HK9 : Hid (Kp0 w2.drew ww9) := Lib.hid (HK8.out.trans hS (fun _ _ h => h) (fun i hi e => by omega))
          clear hA hS
          refine hK (fun w' : World => Kp0 w2.drew w') _ _ (fun x h => h) HK9.out ?_
          clear hK K
          refine px_done ?_
          go_wp2
          go_meet
          exact ⟨ww3.heap.size, rfl, B8_9.out, HKA.out.tr ((Kp.refl _ w2).drew.tr HK9.out)⟩
      · go_simp
        refine hK (fun w' : World => Kp0 w2.drew w') _ _ (fun x h => h) (HK2.out.alloc _) ?_
        clear hK K
        have L8_10 : w2.drew.heap.size ≤ ww2.heap.size := HK2.out.size
        have HK10 : Hid (Kp0 w2.drew (ww2.alloc (.cells ((bys z32)).toArray 32))) := Lib.hid (HK2.out.alloc _)
        have B8_10 : Hid (Blk (ww2.alloc (.cells ((bys z32)).toArray 32)) ww2.heap.size 32 ((bys z32))) := Lib.hid (blk0 ww2 _ _)
        change PX.wp _ _ _ _ _ _ (ww2.alloc (.cells ((bys z32)).toArray 32))
        generalize (ww2.alloc (.cells ((bys z32)).toArray 32)) = ww10 at HK10 B8_10 ⊢
        refine px_eff rfl (by rfl) (fun K hK => ?_)
        go_simp
        refine (times_any (trimB lk) cs _ _ (trimB_len HL1.out) HC.out).mono ?_
        rintro e ww11 ⟨c11, rfl, hc, hk⟩
        simp only []
        have HC11 := Lib.hid hc
        clear hc
        have HK11 : Hid (Kp0 w2.drew ww11) := Lib.hid (HK10.out.tr hk)
        have B8_11 := Lib.hid (B8_10.out.kp0 hk)
        clear hk
        refine hK (fun w' : World => Kp0 w2.drew w') _ _ (fun x h => h) HK11.out ?_
        clear hK K
        refine px_eff rfl (by rfl) (fun K hK => ?_)
        go_simp
        refine (bytes_mulB lk lu HL2.out c11 _ HC11.out).mono ?_
        rintro e ww12 ⟨rfl, hk⟩
        simp only []
        have HK12 : Hid (Kp0 w2.drew ww12) := Lib.hid (HK11.out.tr hk)
        have B8_12 := Lib.hid (B8_11.out.kp0 hk)
        clear hk
        refine hK (fun w' : World => Kp0 w2.drew w') _ _ (fun x h => h) HK12.out ?_
        clear hK K
        refine px_eff rfl (by rfl) (fun K hK => ?_)
        refine wp_store_blk 32 (.tmp 8) (.tmp 25) rfl ww2.heap.size _ ((bys z32)) ((bys (mulB lk lu))) rfl rfl B8_12.out (infoA32 _ (mulB_len lk lu)) (len_of (T := 32) (infoA32 _ rfl) (infoA32 _ (mulB_len lk lu))) (bysOnes _) ?_
        intro ww13 hA hS
        have B8_13 := Lib.hid hA
        have HK13 : Hid (Kp0 w2.drew ww13) := Lib.hid (HK12.out.trans hS (fun _ _ h => h) (fun i hi e => by omega))
        clear hA hS
        refine hK (fun w' : World => Kp0 w2.drew w') _ _ (fun x h => h) HK13.out ?_
        clear hK K
        refine px_done ?_
        go_wp2
        go_meet
        exact ⟨ww2.heap.size, rfl, B8_13.out, HKA.out.tr ((Kp.refl _ w2).drew.tr HK13.out)⟩
    · go_simp
      refine hK (fun w' : World => Kp0 w2.drew w') _ _ (fun x h => h) (HK1_0.out.alloc _) ?_
      clear hK K
      have L8_14 : w2.drew.heap.size ≤ w2.drew.heap.size := HK1_0.out.size
      have HK14 : Hid (Kp0 w2.drew (w2.drew.alloc (.cells ((bys z32)).toArray 32))) := Lib.hid (HK1_0.out.alloc _)
      have B8_14 : Hid (Blk (w2.drew.alloc (.cells ((bys z32)).toArray 32)) w2.drew.heap.size 32 ((bys z32))) := Lib.hid (blk0 w2.drew _ _)
      change PX.wp _ _ _ _ _ _ (w2.drew.alloc (.cells ((bys z32)).toArray 32))
      generalize (w2.drew.alloc (.cells ((bys z32)).toArray 32)) = ww14 at HK14 B8_14 ⊢
      refine px_eff rfl (by rfl) (fun K hK => ?_)
      go_simp
      refine (trim4_any lk _ HL1.out).mono ?_
      rintro e ww15 ⟨rfl, hk⟩
      simp only []
      have HK15 : Hid (Kp0 w2.drew ww15) := Lib.hid (HK14.out.tr hk)
      have B8_15 := Lib.hid (B8_14.out.kp0 hk)
      clear hk
      refine hK (fun w' : World => Kp0 w2.drew w') _ _ (fun x h => h) HK15.out ?_
      clear hK K
      refine px_eff rfl (by rfl) (fun K hK => ?_)
      go_simp
      refine (times_any (trimB lk) cs _ _ (trimB_len HL1.out) HC.out).mono ?_
      rintro e ww16 ⟨c16, rfl, hc, hk⟩
      simp only []
      have HC16 := Lib.hid hc
      clear hc
      have HK16 : Hid (Kp0 w2.drew ww16) := Lib.hid (HK15.out.tr hk)
      have B8_16 := Lib.hid (B8_15.out.kp0 hk)
      clear hk
      refine hK (fun w' : World => Kp0 w2.drew w') _ _ (fun x h => h) HK16.out ?_
      clear hK K
      refine px_eff rfl (by rfl) (fun K hK => ?_)
      go_simp
      refine (bytes_mulB lk lu HL2.out c16 _ HC16.out).mono ?_
      rintro e ww17 ⟨rfl, hk⟩
      simp only []
      have HK17 : Hid (Kp0 w2.drew ww17) := Lib.hid (HK16.out.tr hk)
      have B8_17 := Lib.hid (B8_16.out.kp0 hk)
      clear hk
      refine hK (fun w' : World => Kp0 w2.drew w') _ _ (fun x h => h) HK17.out ?_
      clear hK K
      refine px_eff rfl (by rfl) (fun K hK => ?_)
      refine wp_store_blk 32 (.tmp 8) (.tmp 25) rfl w2.drew.heap.size _ ((bys z32)) ((bys (mulB lk lu))) rfl rfl B8_17.out (infoA32 _ (mulB_len lk lu)) (len_of (T := 32) (infoA32 _ rfl) (infoA32 _ (mulB_len lk lu))) (bysOnes _) ?_
      intro ww18 hA hS
      have B8_18 := Lib.hid hA
      have HK18 : Hid (Kp0 w2.drew ww18) := Lib.hid (HK17.out.trans hS (fun _ _ h => h) (fun i hi e => by omega))
      clear hA hS
      refine hK (fun w' : World => Kp0 w2.drew w') _ _ (fun x h => h) HK18.out ?_
      clear hK K
      refine px_done ?_
      go_wp2
      go_meet
      exact ⟨w2.drew.heap.size, rfl, B8_18.out, HKA.out.tr ((Kp.refl _ w2).drew.tr HK18.out)⟩
  case rest =>
    obtain ⟨g8, rfl, hb8, hkw⟩ := hcut
    have HB8 := Lib.hid hb8
    have HKW := Lib.hid hkw
    clear hb8 hkw
    go_wp2
    go_ret2
    exact ⟨.slice (some ⟨g8, 0, none⟩) 32 32, rfl, blk_rd32 HB8.out (mulB_len lk lu), (fun g hg => (by simp only [Value.ownBlock, Option.some.injEq] at hg; subst hg; exact HB8.out.lt)), HKW.out⟩
/-- What Mult answers. -/
def MulP (lk lu : List UInt8) (w : World) (e : Ending) (w' : World) : Prop := ∃ v l n, e = .returned (.tuple #[v, .int .i64 n]) ∧ Sl w w' v l ∧ (if lk.length = 32 ∧ lu.length = 32 then l = mulB lk lu ∧ n = 0 else v = .slice none 0 0 ∧ l = [] ∧ n = 2)
theorem mult4_any (vk vu : Value) (lk lu : List UInt8) (w : World) (hk : Rd w vk (bys lk)) (hu : Rd w vu (bys lu)) (hou : ∀ g, vu.ownBlock = some g → g < w.heap.size) :
    Calls Try.prog 9 #[vk, vu] w (MulP lk lu w) := by
  by_cases h : lk.length = 32 ∧ lu.length = 32
  · refine (mult4_yes vk vu lk lu w hk hu hou h.1 h.2).mono fun e w' ⟨v, he, hs⟩ => ⟨v, _, 0, he, hs, ?_⟩
    rw [if_pos h]
    exact ⟨rfl, rfl⟩
  · refine (mult4_no vk vu lk lu w hk hu hou (by omega)).mono fun e w' ⟨he, hs⟩ => ⟨_, [], 2, he, ⟨Rd.nil w', (fun _ h => (by cases h)), hs⟩, ?_⟩
    rw [if_neg h]
    exact ⟨rfl, rfl, rfl⟩
theorem nine_len : nineB.length = 32 := rfl
theorem build9 (w : World) : (Instr.build 32 #[(0, .int .u8 9)]).run Try.prog w = .ok (.agg (bys nineB).toArray) w := by kernel_rfl
theorem run_build9 (w : World) (op : Oper) (a : Act) (ho : op.op = .build 32 #[(0, .const (.int .u8 9))]) : (execOp a.eval op).run Try.prog w = .ok (.value (.agg (bys nineB).toArray)) w := by
  have hb := build9 w
  unfold execOp
  simp only [ho]
  simp [hb, Act.eval]
theorem mulP_sl {lk lu : List UInt8} {w w' : World} {e : Ending} (h : MulP lk lu w e w') : ∃ v l n, e = .returned (.tuple #[v, .int .i64 n]) ∧ Sl w w' v l ∧ (if lk.length = 32 ∧ lu.length = 32 then l = mulB lk lu ∧ n = 0 else v = .slice none 0 0 ∧ l = [] ∧ n = 2) := h
theorem pub4_any (vk : Value) (lk : List UInt8) (w : World) (hk : Rd w vk (bys lk)) :
    Calls Try.prog 11 #[vk] w (MulP lk nineB w) := by
  have HK := Lib.hid hk
  clear hk
  go_enter Try.func11, Try.ntmps11
  go_upto_region 2 with (first
    | (refine wl_quiet_val (v := .agg (bys nineB).toArray) rfl (fun wq => run_build9 wq _ _ rfl) ?_)
    | (refine wl_store_blk rfl 32 (.tmp 4) (.tmp 5) rfl w.heap.size _ (bys z32) (bys nineB) rfl rfl (blk0 w _ _) (infoA32 _ rfl) rfl (bysOnes _) ?_; intro w1 hA hS; have HA := Lib.hid hA; have HK1 : Hid (Kp0 w w1) := Lib.hid ((((Kp.refl _ w).alloc _)).trans hS (fun _ _ h => h) (fun i hi e => by omega)); clear hA hS))
  try simp only [Act.put]
  obtain ⟨g, hg⟩ : ∃ g, g = w.heap.size := ⟨_, rfl⟩
  rw [← hg] at HA
  rw [← hg]
  clear hg
  go_wp2_with (go_at_call 9; refine (mult4_any vk _ lk nineB _ (HK.out.keep0 HK1.out) (blk_rd32 HA.out rfl) (fun g hg => (by simp only [Value.ownBlock, Option.some.injEq] at hg; subst hg; exact HA.out.lt))).mono ?_; rintro e w2 ⟨v, l, n, rfl, hs, hi⟩; have HS := Lib.hid hs; have HI := Lib.hid hi; clear hs hi)
  go_ret2
  exact ⟨v, l, n, rfl, ⟨HS.out.1, HS.out.2.1, HK1.out.tr HS.out.2.2⟩, HI.out⟩
/-- What Shared answers. -/
def ShaP (lk lu : List UInt8) (w : World) (e : Ending) (w' : World) : Prop := ∃ v l n, e = .returned (.tuple #[v, .int .i64 n]) ∧ Sl w w' v l ∧ (if lk.length = 32 ∧ lu.length = 32 then (if allZ (mulB lk lu) then v = .slice none 0 0 ∧ l = [] ∧ n = 3 else l = mulB lk lu ∧ n = 0) else v = .slice none 0 0 ∧ l = [] ∧ n = 2)
set_option maxHeartbeats 1000000 in
theorem sha4_any (vk vu : Value) (lk lu : List UInt8) (w : World) (hk : Rd w vk (bys lk)) (hu : Rd w vu (bys lu)) (hou : ∀ g, vu.ownBlock = some g → g < w.heap.size) :
    Calls Try.prog 12 #[vk, vu] w (ShaP lk lu w) := by
  have HK := Lib.hid hk
  have HU := Lib.hid hu
  have HO := Lib.hid hou
  clear hk hu hou
  go_enter Try.func12, Try.ntmps12
  go_upto_region 2 with (go_at_call 9; refine (mult4_any vk vu lk lu _ HK.out HU.out HO.out).mono ?_; rintro e w2 ⟨v, l, n, rfl, hs, hi⟩; have HS := Lib.hid hs; have HI := Lib.hid hi; clear hs hi)
  by_cases h : lk.length = 32 ∧ lu.length = 32
  · have hi := HI.out
    rw [if_pos h] at hi
    obtain ⟨rfl, rfl⟩ := hi
    have HH := Lib.hid h
    clear HI h
    obtain ⟨z, hz⟩ : ∃ z, z = allZ (mulB lk lu) := ⟨_, rfl⟩
    have HZ := Lib.hid hz
    have HLN : Hid (0 < (mulB lk lu).length) := Lib.hid (by rw [mulB_len]; omega)
    clear hz
    cases z
    all_goals
      go_wp2_with (go_at_call 26; refine (isZero_any v (mulB lk lu) _ HS.out.1 HLN.out).mono ?_; rw [← HZ.out]; rintro e w' ⟨rfl, rfl⟩)
      go_ret2
    · exact ⟨v, mulB lk lu, 0, rfl, HS.out, by rw [if_pos HH.out, if_neg (by rw [← HZ.out]; simp)]; exact ⟨rfl, rfl⟩⟩
    · exact ⟨.slice none 0 0, [], 3, rfl, ⟨Rd.nil w2, (fun _ h => (by cases h)), HS.out.2.2⟩, by rw [if_pos HH.out, if_pos HZ.out.symm]; exact ⟨rfl, rfl, rfl⟩⟩
  · have hi := HI.out
    rw [if_neg h] at hi
    obtain ⟨rfl, rfl, rfl⟩ := hi
    have HH := Lib.hid h
    clear HI h
    go_wp2
    go_ret2
    exact ⟨.slice none 0 0, [], 2, rfl, HS.out, by rw [if_neg HH.out]; exact ⟨rfl, rfl, rfl⟩⟩
theorem rpub_any (vk : Value) (lk : List UInt8) (w : World) (hk : Rd w vk (bys lk)) (hlk : lk.length = 32) (hok : ∀ g, vk.ownBlock = some g → g < w.heap.size) :
    Calls Try.prog 13 #[vk] w fun e w' => ∃ v, e = .returned v ∧ Rd w' v (bys (mulB lk nineB)) ∧ Kp0 w w' := by
  have HK := Lib.hid hk
  have HL := Lib.hid hlk
  have HO := Lib.hid hok
  clear hk hlk hok
  have hmk : ∀ u : World, (Instr.makeSlice 22 (.int .i64 32) (.int .i64 32)).run Try.prog u =
      .ok (.slice (some ⟨u.heap.size, 0, none⟩) 32 32) (u.alloc (.cells (bys (List.replicate 32 0)).toArray 5)) := fun u => by
    obtain ⟨i0, hi, hz0, hz1, hz2⟩ := info_parts infoB
    have h := run_make (P := Try.prog) u 22 5 i0 (.int .u8 0) Try.underlying22 hi hz0 .i64 .i64 (32 : Int) (32 : Int) (by omega) (Int.le_refl _) (by rw [hz2]; omega) (by omega)
    have e : (32 : Int).toNat = 32 := by omega
    rw [e] at h
    rw [show (bys (List.replicate 32 0)).toArray = madeCells #[.int .u8 0] 32 by kernel_rfl]
    simpa [hz1, Value.cells] using h
  go_enter Try.func13, Try.ntmps13
  go_upto_region 2 with (fail)
  clear hmk
  obtain ⟨w1, hw1⟩ : ∃ w1, w1 = w.alloc (.cells (bys z32).toArray 5) := ⟨_, rfl⟩
  have HB : Hid (Blk w1 w.heap.size 5 (bys z32)) := Lib.hid (by rw [hw1]; exact blk0 w _ _)
  have HK1 : Hid (Kp0 w w1) := Lib.hid (by rw [hw1]; exact (Kp.refl _ w).alloc _)
  change Code.wp _ _ _ _ (w.alloc (.cells (bys z32).toArray 5))
  rw [← hw1]
  clear hw1
  have hc0 := HB.out.cellB 0 (by decide)
  have hf0 := blk_frozen HB.out 0
  obtain ⟨g, hg⟩ : ∃ g, g = w.heap.size := ⟨_, rfl⟩
  have HG := Lib.hid hg
  rw [← hg] at HB hc0 hf0
  rw [← hg]
  clear hg
  go_upto_region 3 with (fail)
  have HB2 := Lib.hid (HB.out.setB 0 9)
  have HK2 : Hid (Kp0 w (w1.setCell ⟨g, 0, none⟩ (.int .u8 9))) := Lib.hid (HK1.out.setCell (p := ⟨g, 0, none⟩) (fun hlt => absurd hlt (by have := HG.out; simp; omega)) _)
  rw [show (z32.set 0 9) = nineB from rfl] at HB2
  have HB3 : Hid (Blk (w1.setCell ⟨g, 0, none⟩ (.int .u8 9)) g 5 (bys nineB)) := Lib.hid HB2.out
  clear HB2 hc0 hf0
  generalize (w1.setCell ⟨g, 0, none⟩ (.int .u8 9)) = w2 at HB3 HK2 ⊢
  go_wp2_with (go_at_call 10; refine (mult_any vk _ lk nineB _ (HK.out.keep0 HK2.out) (blk_rd32 HB3.out rfl) HL.out rfl (fun g hg => Nat.lt_of_lt_of_le (HO.out g hg) HK2.out.size) (fun g hg => (by simp only [Value.ownBlock, Option.some.injEq] at hg; subst hg; exact HB3.out.lt))).mono ?_; rintro e w3 ⟨v, rfl, hs, hkk⟩; have HS := Lib.hid hs; have HKK := Lib.hid hkk; clear hs hkk)
  go_ret
  exact ⟨_, rfl, HS.out, HK2.out.tr HKK.out⟩
end Go.Proofs.Ytcnehbfcagghpaa
