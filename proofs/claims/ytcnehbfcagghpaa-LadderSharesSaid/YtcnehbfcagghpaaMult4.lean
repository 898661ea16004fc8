/- The reference's ladder: Mult. -/
import Derived.Test.YtcnehbfcagghpaaSum4
import Derived.Test.YtcnehbfcagghpaaTr4
namespace Go.Proofs.Ytcnehbfcagghpaa
open Go Go.RowKit
/-- The number that the reference reads. -/
def readU (l : List UInt8) : Nat := leN l % 57896044618658097711785492504343953926634992332820282019728792003956564819968 % 57896044618658097711785492504343953926634992332820282019728792003956564819949
theorem infoT' (x z : Nat) : (Try.prog.info? 50).map (·.size) = some (i64s (ptL x z)).toArray.size := by rw [List.size_toArray]; exact infoT x z
theorem ptL_z (x z : Nat) : zpt.length = (ptL x z).length := by rw [ptL_len]; rfl
/-- What the ladder's rounds keep. -/
def LadS (w : World) (x : Nat) (vn : Value) (ln : List UInt8) (g5 g9 g10 : Nat) (s : Nat × Nat × Nat × Nat) (wx : World) : Prop :=
  Arr wx g5 46 (F3.digs 16 (x : Int)) ∧ Own w.heap.size 5 wx vn (bys ln) ∧ Arr wx g9 50 (ptL s.1 s.2.1) ∧ Arr wx g10 50 (ptL s.2.2.1 s.2.2.2) ∧ Kp0 w wx ∧ w.heap.size ≤ g5
theorem LadS.kp0 {w wx wy : World} {x g5 g9 g10 : Nat} {vn : Value} {ln : List UInt8} {s : Nat × Nat × Nat × Nat} (h : LadS w x vn ln g5 g9 g10 s wx) (hk : Kp0 wx wy) : LadS w x vn ln g5 g9 g10 s wy :=
  ⟨h.1.kp0 hk, h.2.1.keep0 hk, h.2.2.1.kp0 hk, h.2.2.2.1.kp0 hk, h.2.2.2.2.1.tr hk, h.2.2.2.2.2⟩
instance prm25 : Edw.Prm 57896044618658097711785492504343953926634992332820282019728792003956564819949 := ⟨Nt.pr25519, by omega⟩
theorem lad_lt (x : Nat) (l : List Bool) (hx : x < 57896044618658097711785492504343953926634992332820282019728792003956564819949) : (Edw.ladN 57896044618658097711785492504343953926634992332820282019728792003956564819949 x l).1 < 57896044618658097711785492504343953926634992332820282019728792003956564819949 ∧ (Edw.ladN 57896044618658097711785492504343953926634992332820282019728792003956564819949 x l).2.1 < 57896044618658097711785492504343953926634992332820282019728792003956564819949 ∧ (Edw.ladN 57896044618658097711785492504343953926634992332820282019728792003956564819949 x l).2.2.1 < 57896044618658097711785492504343953926634992332820282019728792003956564819949 ∧ (Edw.ladN 57896044618658097711785492504343953926634992332820282019728792003956564819949 x l).2.2.2 < 57896044618658097711785492504343953926634992332820282019728792003956564819949 :=
  (Edw.ladN_inv x hx l).1
theorem LadS.put9 {w wx wy : World} {x g5 g9 g10 gn cn a b : Nat} {ln : List UInt8} {s : Nat × Nat × Nat × Nat} (h : LadS w x (.slice (some ⟨gn, 0, none⟩) 32 cn) ln g5 g9 g10 s wx) (hg : g9 ≠ g5 ∧ g9 ≠ g10 ∧ g9 ≠ gn ∧ g10 ≠ g5 ∧ g10 ≠ gn ∧ w.heap.size ≤ g9 ∧ w.heap.size ≤ g10)
    (hA : Arr wy g9 50 (ptL a b)) (hk : Kp (fun c => c = g9) wx wy) : LadS w x (.slice (some ⟨gn, 0, none⟩) 32 cn) ln g5 g9 g10 (a, b, s.2.2.1, s.2.2.2) wy :=
  ⟨h.1.keep hk (fun e => hg.1 e.symm), h.2.1.keep hk (fun c hc _ _ e => by simp [Value.ownBlock] at hc; omega), hA, h.2.2.2.1.keep hk (fun e => hg.2.1 e.symm), h.2.2.2.2.1.trans hk (fun _ _ h => h) (fun i hi e => by omega), h.2.2.2.2.2⟩
theorem LadS.put10 {w wx wy : World} {x g5 g9 g10 gn cn a b : Nat} {ln : List UInt8} {s : Nat × Nat × Nat × Nat} (h : LadS w x (.slice (some ⟨gn, 0, none⟩) 32 cn) ln g5 g9 g10 s wx) (hg : g9 ≠ g5 ∧ g9 ≠ g10 ∧ g9 ≠ gn ∧ g10 ≠ g5 ∧ g10 ≠ gn ∧ w.heap.size ≤ g9 ∧ w.heap.size ≤ g10)
    (hA : Arr wy g10 50 (ptL a b)) (hk : Kp (fun c => c = g10) wx wy) : LadS w x (.slice (some ⟨gn, 0, none⟩) 32 cn) ln g5 g9 g10 (s.1, s.2.1, a, b) wy :=
  ⟨h.1.keep hk (fun e => hg.2.2.2.1 e.symm), h.2.1.keep hk (fun c hc _ _ e => by simp [Value.ownBlock] at hc; omega), h.2.2.1.keep hk (fun e => hg.2.1 e), hA, h.2.2.2.2.1.trans hk (fun _ _ h => h) (fun i hi e => by omega), h.2.2.2.2.2⟩
/-- The reference's inverse. -/
def powM (e z : Nat) : Nat := z ^ e % 57896044618658097711785492504343953926634992332820282019728792003956564819949
theorem powM_lt (e z : Nat) : powM e z < 57896044618658097711785492504343953926634992332820282019728792003956564819949 := Nat.mod_lt _ (by omega)
def eM : Nat := 57896044618658097711785492504343953926634992332820282019728792003956564819947
def invM (z : Nat) : Nat := powM eM z
theorem invM_lt (z : Nat) : invM z < 57896044618658097711785492504343953926634992332820282019728792003956564819949 := powM_lt _ _
theorem inv_anyM (a : Nat) (w : World) (ha : a < 57896044618658097711785492504343953926634992332820282019728792003956564819949) :
    Calls Try.prog 25 #[numV a] w fun e w' => e = .returned (numV (invM a)) ∧ Kp0 w w' := by
  unfold invM powM eM
  exact inv_any a w ha
theorem multN_m {x : Nat} {l : List Bool} : (Edw.ladN 57896044618658097711785492504343953926634992332820282019728792003956564819949 x l).1 * invM (Edw.ladN 57896044618658097711785492504343953926634992332820282019728792003956564819949 x l).2.1 % 57896044618658097711785492504343953926634992332820282019728792003956564819949 = Edw.multN 57896044618658097711785492504343953926634992332820282019728792003956564819949 x l := by
  unfold invM powM
  exact Edw.multN_e (by unfold eM; omega)
theorem bit8 (y k : Nat) : ((y : Int) / 2 ^ k).tmod 2 = ((y / 2 ^ k % 2 : Nat) : Int) := by
  rw [show ((2 : Int) ^ k) = ((2 ^ k : Nat) : Int) by simp, ← Int.natCast_ediv, Int.tmod_eq_emod_of_nonneg (Int.natCast_nonneg _)]
  rfl
theorem lad_fin (x n : Nat) (hx : x < 57896044618658097711785492504343953926634992332820282019728792003956564819949) : ∃ X Z : Nat, (∀ l0, l0 = Edw.ladN 57896044618658097711785492504343953926634992332820282019728792003956564819949 x (Edw.bitsN 255 n) → l0.1 = X ∧ l0.2.1 = Z) ∧ Z < 57896044618658097711785492504343953926634992332820282019728792003956564819949 ∧ X < 57896044618658097711785492504343953926634992332820282019728792003956564819949 ∧ Hid (∃ zi m : Nat, (∀ w : World, Calls Try.prog 25 #[.agg (i64s (F3.digs 16 ((Z : Nat) : Int))).toArray] w fun e w' => e = .returned (.agg (i64s (F3.digs 16 ((zi : Nat) : Int))).toArray) ∧ Kp0 w w') ∧
    (∀ w : World, Calls Try.prog 24 #[.agg (i64s (F3.digs 16 ((X : Nat) : Int))).toArray, .agg (i64s (F3.digs 16 ((zi : Nat) : Int))).toArray] w fun e w' => e = .returned (.agg (i64s (F3.digs 16 ((m : Nat) : Int))).toArray) ∧ Kp0 w w') ∧
    (∀ w : World, Calls Try.prog 23 #[.agg (i64s (F3.digs 16 ((m : Nat) : Int))).toArray] w fun e w' => ∃ v, e = .returned v ∧ Rd w' v (bys (leB 32 m)) ∧ Kp0 w w') ∧ m = Edw.multN 57896044618658097711785492504343953926634992332820282019728792003956564819949 x (Edw.bitsN 255 n)) := by
  obtain ⟨l0, h0⟩ : ∃ l0, l0 = Edw.ladN 57896044618658097711785492504343953926634992332820282019728792003956564819949 x (Edw.bitsN 255 n) := ⟨_, rfl⟩
  have hm := multN_m (x := x) (l := Edw.bitsN 255 n)
  have hlt := lad_lt x (Edw.bitsN 255 n) hx
  rw [← h0] at hm hlt
  obtain ⟨zi, hz⟩ : ∃ zi, zi = invM l0.2.1 := ⟨_, rfl⟩
  rw [← hz] at hm
  refine ⟨l0.1, l0.2.1, fun l1 h1 => by rw [h1, h0]; exact ⟨rfl, rfl⟩, hlt.2.1, hlt.1, Lib.hid ⟨zi, Edw.multN 57896044618658097711785492504343953926634992332820282019728792003956564819949 x (Edw.bitsN 255 n), fun w => ?_, fun w => ?_, fun w => bytes_any _ w, rfl⟩⟩
  · rw [hz]
    exact inv_anyM _ w hlt.2.1
  · have h := mul_any l0.1 zi w hlt.1 (by rw [hz]; exact invM_lt _)
    rw [hm] at h
    exact h
set_option maxRecDepth 20000 in
set_option maxHeartbeats 8000000 in
theorem mult_any (vk vu : Value) (lk lu : List UInt8) (w : World) (hk : Rd w vk (bys lk)) (hu : Rd w vu (bys lu)) (hlk : lk.length = 32) (hlu : lu.length = 32) (hok : ∀ g, vk.ownBlock = some g → g < w.heap.size) (hou : ∀ g, vu.ownBlock = some g → g < w.heap.size) :
    Calls Try.prog 10 #[vk, vu] w fun e w' => ∃ v', e = .returned v' ∧ Rd w' v' (bys (leB 32 (Edw.multN 57896044618658097711785492504343953926634992332820282019728792003956564819949 (readU lu) (Edw.bitsN 255 (leN (trimB lk)))))) ∧ Kp0 w w' := by
  obtain ⟨x, hx⟩ : ∃ x, x = readU lu := ⟨_, rfl⟩
  have HX := Lib.hid hx
  have hxl : x < 57896044618658097711785492504343953926634992332820282019728792003956564819949 := by rw [hx]; exact Nat.mod_lt _ (by omega)
  have HXL := Lib.hid hxl
  have HKR := Lib.hid hk
  have HUR := Lib.hid hu
  have HOK := Lib.hid hok
  have HOU := Lib.hid hou
  have HLK := Lib.hid hlk
  have HLU := Lib.hid hlu
  rw [← hx]
  clear hx hxl hk hu hok hou hlk hlu
  go_enter Try.func10, Try.ntmps10
  go_upto_region 2 with (first
    | (go_at_call 19; refine (read_any vu lu _ HUR.out HLU.out HOU.out).mono ?_; rw [show leN lu % 57896044618658097711785492504343953926634992332820282019728792003956564819968 % 57896044618658097711785492504343953926634992332820282019728792003956564819949 = x from HX.out.symm]; unfold numV; rintro e w1 ⟨rfl, hk1⟩; have HK1 := Lib.hid hk1; clear hk1)
    | (refine wl_store_arr rfl 46 (.tmp 5) (.tmp 14) rfl w1.heap.size _ (zeros 16) (F3.digs 16 (x : Int)) rfl rfl (arr0 w1 _ (zeros 16)) (infoN' _ (numLen _)) (numLen _).symm ?_; intro v1 hA hS; have hh : Kp0 w1 v1 := ((Kp.refl (fun _ => False) w1).alloc _).trans hS (fun _ _ h => h) (fun i hi e => by omega); have HA5 := Lib.hid hA; have HW1 := Lib.hid (HK1.out.tr hh); clear hA hS hh))
  have HGG : Hid (w.heap.size ≤ w1.heap.size) := Lib.hid HK1.out.size
  obtain ⟨g5, hg5⟩ : ∃ g, g = w1.heap.size := ⟨_, rfl⟩
  rw [← hg5] at HA5 HGG
  try simp only [Act.put]
  rw [← hg5]
  clear HK1 hg5
  go_upto_region 3 with (
    (go_at_call 15; refine (trim_any vk lk _ (HKR.out.keep0 HW1.out) HLK.out).mono ?_; rintro e v2 ⟨vn, rfl, ho, hk2⟩; have HN2 := Lib.hid (Own.base ho HW1.out.size); have HA52 := Lib.hid (HA5.out.kp0 hk2); have HW2 := Lib.hid (HW1.out.tr hk2); clear ho hk2))
  clear HA5 HW1
  have HG5 : Hid (w.heap.size ≤ g5) := Lib.hid HGG.out
  go_upto_region 4 with (first
    | (go_at_call 20; refine (small_any 0 _ (by omega)).mono ?_; unfold numV; rintro e w3 ⟨rfl, hk3⟩; have HN3 := Lib.hid (HN2.out.keep0 hk3); have HA53 := Lib.hid (HA52.out.kp0 hk3); have HW3 := Lib.hid (HW2.out.tr hk3); clear hk3)
    | (refine wl_store_arr rfl 46 (.tmp 7) (.tmp 17) rfl w3.heap.size _ (zeros 16) (F3.digs 16 ((0 : Nat) : Int)) rfl rfl (arr0 w3 _ (zeros 16)) (infoN' _ (numLen _)) (numLen _).symm ?_; intro v3 hA hS; have hh : Kp0 w3 v3 := ((Kp.refl (fun _ => False) w3).alloc _).trans hS (fun _ _ h => h) (fun i hi e => by omega); have HZ3 := Lib.hid hA; have HN4 := Lib.hid (HN3.out.keep0 hh); have HA54 := Lib.hid (HA53.out.kp0 hh); have HW4 := Lib.hid (HW3.out.tr hh); clear hA hS hh))
  try simp only [Act.put]
  obtain ⟨g7, hg7⟩ : ∃ g, g = w3.heap.size := ⟨_, rfl⟩
  rw [← hg7] at HZ3
  rw [← hg7]
  clear hg7 HN2 HA52 HW2 HN3 HA53 HW3
  go_upto_region 5 with (first
    | (go_at_call 20; refine (small_any 1 _ (by omega)).mono ?_; unfold numV; rintro e w4 ⟨rfl, hk4⟩; have HN5 := Lib.hid (HN4.out.keep0 hk4); have HA55 := Lib.hid (HA54.out.kp0 hk4); have HZ5 := Lib.hid (HZ3.out.kp0 hk4); have HW5 := Lib.hid (HW4.out.tr hk4); clear hk4)
    | (refine wl_store_arr rfl 46 (.tmp 8) (.tmp 18) rfl w4.heap.size _ (zeros 16) (F3.digs 16 ((1 : Nat) : Int)) rfl rfl (arr0 w4 _ (zeros 16)) (infoN' _ (numLen _)) (numLen _).symm ?_; intro v4 hA hS; have hh : Kp0 w4 v4 := ((Kp.refl (fun _ => False) w4).alloc _).trans hS (fun _ _ h => h) (fun i hi e => by omega); have HO6 := Lib.hid hA; have HN6 := Lib.hid (HN5.out.keep0 hh); have HA56 := Lib.hid (HA55.out.kp0 hh); have HZ6 := Lib.hid (HZ5.out.kp0 hh); have HW6 := Lib.hid (HW5.out.tr hh); clear hA hS hh))
  try simp only [Act.put]
  obtain ⟨g8, hg8⟩ : ∃ g, g = w4.heap.size := ⟨_, rfl⟩
  rw [← hg8] at HO6
  rw [← hg8]
  clear hg8 HN4 HA54 HZ3 HW4 HN5 HA55 HZ5 HW5
  go_cut [9, 10] (fun p q wx => ∃ g9 g10, p = .pointer (some ⟨g9, 0, none⟩) ∧ q = .pointer (some ⟨g10, 0, none⟩) ∧ (g9 ≠ g10 ∧ v4.heap.size ≤ g9 ∧ v4.heap.size ≤ g10) ∧ LadS w x vn (trimB lk) g5 g9 g10 (1, 0, x, 1) wx)
  case first =>
    have HK0 : Hid (Kp0 v4.drew v4.drew) := Lib.hid (Kp.refl _ _)
    refine wp_region_tree3 (fun w' : World => Kp0 v4.drew w') (.quiet 0 (.quiet 1 (.quiet 2 (.quiet 3 (.quiet 4 (.quiet 5 (.two 6 (.eff 7 (.eff 8 (.eff 9 .done))) 7 (.eff 6 (.eff 8 (.eff 9 .done)))))))))) (by kernel_rfl) (by kernel_rfl) (by kernel_rfl) (by kernel_rfl) (fun _ d _ _ _ h => by cases d <;> exact h) HK0.out ?_
    repeat (first
      | (refine pu_quiet (v := .agg (i64s (F3.digs 16 ((1 : Nat) : Int))).toArray) rfl (by rfl) (fun wq hwq => run_load_arr 46 (.tmp 8) rfl g8 _ (F3.digs 16 ((1 : Nat) : Int)) rfl (HO6.out.kp0 ((Kp.refl _ v4).drew.tr hwq)) _ Try.underlying46 rfl (infoN _ (numLen _))) rfl ?_; try simp only [List.setIfInBounds_toArray, List.set_cons_zero, List.set_cons_succ])
      | (refine pu_quiet (v := .agg (i64s (F3.digs 16 ((0 : Nat) : Int))).toArray) rfl (by rfl) (fun wq hwq => run_load_arr 46 (.tmp 7) rfl g7 _ (F3.digs 16 ((0 : Nat) : Int)) rfl (HZ6.out.kp0 ((Kp.refl _ v4).drew.tr hwq)) _ Try.underlying46 rfl (infoN _ (numLen _))) rfl ?_; try simp only [List.setIfInBounds_toArray, List.set_cons_zero, List.set_cons_succ])
      | (refine pu_quiet (v := .agg (i64s (F3.digs 16 ((x : Nat) : Int))).toArray) rfl (by rfl) (fun wq hwq => run_load_arr 46 (.tmp 5) rfl g5 _ (F3.digs 16 ((x : Nat) : Int)) rfl (HA56.out.kp0 ((Kp.refl _ v4).drew.tr hwq)) _ Try.underlying46 rfl (infoN _ (numLen _))) rfl ?_; try simp only [List.setIfInBounds_toArray, List.set_cons_zero, List.set_cons_succ])
      | (refine pu_quiet (v := .agg (i64s (ptL 1 0)).toArray) rfl (by rfl) (fun wq hwq => run_build_pt wq _ _ 19 20 rfl 1 0 rfl rfl) rfl ?_; try simp only [List.setIfInBounds_toArray, List.set_cons_zero, List.set_cons_succ])
      | (refine pu_quiet (v := .agg (i64s (ptL x 1)).toArray) rfl (by rfl) (fun wq hwq => run_build_pt wq _ _ 22 23 rfl x 1 rfl rfl) rfl ?_; try simp only [List.setIfInBounds_toArray, List.set_cons_zero, List.set_cons_succ])
      | (refine pu_quiet (v := ?_) rfl (by rfl) (fun wq hwq => ?_) rfl ?_; rotate_left 1; (focus (go_simp; try (with_reducible rfl); done)); try simp only [List.setIfInBounds_toArray, List.set_cons_zero, List.set_cons_succ]))
    refine ⟨pu_one rfl (by rfl) (fun K hK => ?_), pu_one rfl (by rfl) (fun K hK => ?_)⟩
    · go_simp
      refine hK (fun w' : World => Kp0 v4.drew w') _ _ (fun x h => h) (HK0.out.alloc _) ?_
      clear hK K
      have L6 : v4.drew.heap.size ≤ v4.drew.heap.size := HK0.out.size
      have HK1 : Hid (Kp0 v4.drew (v4.drew.alloc (.cells (i64s zpt).toArray 50))) := Lib.hid (HK0.out.alloc _)
      have F61 : Hid (Arr (v4.drew.alloc (.cells (i64s zpt).toArray 50)) v4.drew.heap.size 50 zpt) := Lib.hid (arr0 v4.drew _ _)
      change PU.wp _ _ _ _ _ _ (v4.drew.alloc (.cells (i64s zpt).toArray 50))
      generalize (v4.drew.alloc (.cells (i64s zpt).toArray 50)) = x1 at HK1 F61 ⊢
      refine pu_eff rfl (by rfl) (fun K hK => ?_)
      go_simp
      refine hK (fun w' : World => Kp0 v4.drew w') _ _ (fun x h => h) (HK1.out.alloc _) ?_
      clear hK K
      have L7 : v4.drew.heap.size ≤ x1.heap.size := HK1.out.size
      have N67 : v4.drew.heap.size < x1.heap.size := F61.out.lt
      have HK2 : Hid (Kp0 v4.drew (x1.alloc (.cells (i64s zpt).toArray 50))) := Lib.hid (HK1.out.alloc _)
      have F72 : Hid (Arr (x1.alloc (.cells (i64s zpt).toArray 50)) x1.heap.size 50 zpt) := Lib.hid (arr0 x1 _ _)
      have F62 := Lib.hid (F61.out.kp0 ((Kp.refl (fun _ => False) x1).alloc (.cells (i64s zpt).toArray 50)))
      change PU.wp _ _ _ _ _ _ (x1.alloc (.cells (i64s zpt).toArray 50))
      generalize (x1.alloc (.cells (i64s zpt).toArray 50)) = x2 at HK2 F62 F72 ⊢
      refine pu_eff rfl (by rfl) (fun K hK => ?_)
      refine wp_store_arr 50 (.tmp 9) (.tmp 21) rfl v4.drew.heap.size _ zpt (ptL 1 0) rfl rfl F62.out (infoT' _ _) (ptL_z _ _) ?_
      intro y3 hA hS
      have HS3 := Lib.hid hS
      have G63 := Lib.hid hA
      have F73 := Lib.hid (F72.out.keep hS (fun e => by omega))
      have HK3 : Hid (Kp0 v4.drew y3) := Lib.hid (HK2.out.trans hS (fun _ _ h => h) (fun i hi e => by omega))
      clear hA hS
      refine hK (fun w' : World => Kp0 v4.drew w') _ _ (fun x h => h) HK3.out ?_
      clear hK K
      refine pu_eff rfl (by rfl) (fun K hK => ?_)
      refine wp_store_arr 50 (.tmp 10) (.tmp 24) rfl x1.heap.size _ zpt (ptL x 1) rfl rfl F73.out (infoT' _ _) (ptL_z _ _) ?_
      intro y4 hA hS
      have HS4 := Lib.hid hS
      have G74 := Lib.hid hA
      have F64 := Lib.hid (G63.out.keep hS (fun e => by omega))
      have HK4 : Hid (Kp0 v4.drew y4) := Lib.hid (HK3.out.trans hS (fun _ _ h => h) (fun i hi e => by omega))
      clear hA hS
      refine hK (fun w' : World => Kp0 v4.drew w') _ _ (fun x h => h) HK4.out ?_
      clear hK K
      refine pu_done ?_
      go_wp2
      go_meet
      exact ⟨v4.drew.heap.size, x1.heap.size, rfl, rfl, ⟨by omega, by have e9 : v4.drew.heap.size = v4.heap.size := rfl; omega, by have e9 : v4.drew.heap.size = v4.heap.size := rfl; omega⟩, HA56.out.kp0 ((Kp.refl _ v4).drew.tr HK4.out), HN6.out.keep0 ((Kp.refl _ v4).drew.tr HK4.out), F64.out, G74.out, HW6.out.tr ((Kp.refl _ v4).drew.tr HK4.out), HG5.out⟩
    · go_simp
      refine hK (fun w' : World => Kp0 v4.drew w') _ _ (fun x h => h) (HK0.out.alloc _) ?_
      clear hK K
      have L7 : v4.drew.heap.size ≤ v4.drew.heap.size := HK0.out.size
      have HK5 : Hid (Kp0 v4.drew (v4.drew.alloc (.cells (i64s zpt).toArray 50))) := Lib.hid (HK0.out.alloc _)
      have F75 : Hid (Arr (v4.drew.alloc (.cells (i64s zpt).toArray 50)) v4.drew.heap.size 50 zpt) := Lib.hid (arr0 v4.drew _ _)
      change PU.wp _ _ _ _ _ _ (v4.drew.alloc (.cells (i64s zpt).toArray 50))
      generalize (v4.drew.alloc (.cells (i64s zpt).toArray 50)) = x5 at HK5 F75 ⊢
      refine pu_eff rfl (by rfl) (fun K hK => ?_)
      go_simp
      refine hK (fun w' : World => Kp0 v4.drew w') _ _ (fun x h => h) (HK5.out.alloc _) ?_
      clear hK K
      have L6 : v4.drew.heap.size ≤ x5.heap.size := HK5.out.size
      have N76 : v4.drew.heap.size < x5.heap.size := F75.out.lt
      have HK6 : Hid (Kp0 v4.drew (x5.alloc (.cells (i64s zpt).toArray 50))) := Lib.hid (HK5.out.alloc _)
      have F66 : Hid (Arr (x5.alloc (.cells (i64s zpt).toArray 50)) x5.heap.size 50 zpt) := Lib.hid (arr0 x5 _ _)
      have F76 := Lib.hid (F75.out.kp0 ((Kp.refl (fun _ => False) x5).alloc (.cells (i64s zpt).toArray 50)))
      change PU.wp _ _ _ _ _ _ (x5.alloc (.cells (i64s zpt).toArray 50))
      generalize (x5.alloc (.cells (i64s zpt).toArray 50)) = x6 at HK6 F76 F66 ⊢
      refine pu_eff rfl (by rfl) (fun K hK => ?_)
      refine wp_store_arr 50 (.tmp 9) (.tmp 21) rfl x5.heap.size _ zpt (ptL 1 0) rfl rfl F66.out (infoT' _ _) (ptL_z _ _) ?_
      intro y7 hA hS
      have HS7 := Lib.hid hS
      have G67 := Lib.hid hA
      have F77 := Lib.hid (F76.out.keep hS (fun e => by omega))
      have HK7 : Hid (Kp0 v4.drew y7) := Lib.hid (HK6.out.trans hS (fun _ _ h => h) (fun i hi e => by omega))
      clear hA hS
      refine hK (fun w' : World => Kp0 v4.drew w') _ _ (fun x h => h) HK7.out ?_
      clear hK K
      refine pu_eff rfl (by rfl) (fun K hK => ?_)
      refine wp_store_arr 50 (.tmp 10) (.tmp 24) rfl v4.drew.heap.size _ zpt (ptL x 1) rfl rfl F77.out (infoT' _ _) (ptL_z _ _) ?_
      intro y8 hA hS
      have HS8 := Lib.hid hS
      have G78 := Lib.hid hA
      have F68 := Lib.hid (G67.out.keep hS (fun e => by omega))
      have HK8 : Hid (Kp0 v4.drew y8) := Lib.hid (HK7.out.trans hS (fun _ _ h => h) (fun i hi e => by omega))
      clear hA hS
      refine hK (fun w' : World => Kp0 v4.drew w') _ _ (fun x h => h) HK8.out ?_
      clear hK K
      refine pu_done ?_
      go_wp2
      go_meet
      exact ⟨x5.heap.size, v4.drew.heap.size, rfl, rfl, ⟨by omega, by have e9 : v4.drew.heap.size = v4.heap.size := rfl; omega, by have e9 : v4.drew.heap.size = v4.heap.size := rfl; omega⟩, HA56.out.kp0 ((Kp.refl _ v4).drew.tr HK8.out), HN6.out.keep0 ((Kp.refl _ v4).drew.tr HK8.out), F68.out, G78.out, HW6.out.tr ((Kp.refl _ v4).drew.tr HK8.out), HG5.out⟩
  case rest =>
    obtain ⟨g9, g10, rfl, rfl, hgg, hl⟩ := hcut
    have HLS := Lib.hid hl
    have HGG9 := Lib.hid hgg
    have HL5 := Lib.hid HA56.out.lt
    have HLW := Lib.hid HW6.out.size
    have HNV := HN6
    clear hl hgg HO6 HA56 HZ6 HW6
    obtain ⟨n, hn⟩ : ∃ n, n = leN (trimB lk) := ⟨_, rfl⟩
    have HNN := Lib.hid hn
    have HTL : Hid ((trimB lk).length = 32) := Lib.hid (by rw [trimB, List.length_set, List.length_set, HLK.out])
    obtain ⟨ln, hln⟩ : ∃ l, l = trimB lk := ⟨_, rfl⟩
    rw [← hln] at HTL HLS HNN
    have HLN := Lib.hid hln
    clear hn hln
    obtain ⟨gn, capn, rfl, hgn, _, _⟩ := HLS.out.2.1.pos32 HTL.out
    have HGS : Hid (g9 ≠ g5 ∧ g9 ≠ g10 ∧ g9 ≠ gn ∧ g10 ≠ g5 ∧ g10 ≠ gn ∧ w.heap.size ≤ g9 ∧ w.heap.size ≤ g10) := Lib.hid (by have h1 := HGG9.out; have h2 := HL5.out; have h3 := HLW.out; have h4 := (HNV.out.lt gn rfl).2; omega)
    clear HNV HL5 HLW HGG9
    obtain ⟨bl, hbl⟩ : ∃ l, l = Edw.bitsN 255 n := ⟨_, rfl⟩
    obtain ⟨F, hF⟩ : ∃ F : List Bool → Nat × Nat × Nat × Nat, F = Edw.ladN 57896044618658097711785492504343953926634992332820282019728792003956564819949 x := ⟨_, rfl⟩
    obtain ⟨G, hG⟩ : ∃ G : Nat × Nat × Nat × Nat → Bool → Nat × Nat × Nat × Nat, G = Edw.stpN 57896044618658097711785492504343953926634992332820282019728792003956564819949 x := ⟨_, rfl⟩
    have HSTEP : Hid (∀ (k q r y : Nat), k < 255 → 254 - k = 8 * q + r → r < 8 → (hq : q < ln.length) → y = (ln[q]'hq).toNat → F (bl.take (k + 1)) = G (F (bl.take k)) (y / 2 ^ r % 2 == 1)) := Lib.hid (by
      intro k q r y h hj hr8 hq hy
      rw [hF, hG, hbl]
      refine Edw.ladN_take 57896044618658097711785492504343953926634992332820282019728792003956564819949 x (Edw.bitsN 255 n) k _ ?_
      rw [Edw.bitsN_get 255 n k h, HNN.out, hy, leN_byte ln q hq, byte_bit _ _ _ hr8, show 8 * q + r = 255 - 1 - k by omega])
    have HLTT : Hid (∀ l, (F l).1 < 57896044618658097711785492504343953926634992332820282019728792003956564819949 ∧ (F l).2.1 < 57896044618658097711785492504343953926634992332820282019728792003956564819949 ∧ (F l).2.2.1 < 57896044618658097711785492504343953926634992332820282019728792003956564819949 ∧ (F l).2.2.2 < 57896044618658097711785492504343953926634992332820282019728792003956564819949) := Lib.hid (fun l => by rw [hF]; exact lad_lt x l HXL.out)
    have HSX0 : Hid (∀ s : Nat × Nat × Nat × Nat, s.1 < 57896044618658097711785492504343953926634992332820282019728792003956564819949 ∧ s.2.1 < 57896044618658097711785492504343953926634992332820282019728792003956564819949 ∧ s.2.2.1 < 57896044618658097711785492504343953926634992332820282019728792003956564819949 ∧ s.2.2.2 < 57896044618658097711785492504343953926634992332820282019728792003956564819949 → ∃ sx sz px pz qx qz : Nat, G s true = (sx, sz, qx, qz) ∧ G s false = (px, pz, sx, sz) ∧
        (∀ w : World, Calls Try.prog 21 #[.agg (i64s (ptL s.1 s.2.1)).toArray, .agg (i64s (ptL s.2.2.1 s.2.2.2)).toArray, .agg (i64s (F3.digs 16 (x : Int))).toArray] w fun e w' => e = .returned (.agg (i64s (ptL sx sz)).toArray) ∧ Kp0 w w') ∧
        (∀ w : World, Calls Try.prog 22 #[.agg (i64s (ptL s.1 s.2.1)).toArray] w fun e w' => e = .returned (.agg (i64s (ptL px pz)).toArray) ∧ Kp0 w w') ∧
        (∀ w : World, Calls Try.prog 22 #[.agg (i64s (ptL s.2.2.1 s.2.2.2)).toArray] w fun e w' => e = .returned (.agg (i64s (ptL qx qz)).toArray) ∧ Kp0 w w')) := Lib.hid (by
      intro s ⟨h1, h2, h3, h4⟩
      rw [hG]
      exact ⟨_, _, _, _, _, _, rfl, rfl, fun w => sum_any s.1 s.2.1 s.2.2.1 s.2.2.2 x w h1 h2 h3 h4 HXL.out, fun w => dbl_any s.1 s.2.1 w h1 h2, fun w => dbl_any s.2.2.1 s.2.2.2 w h3 h4⟩)
    have HST0 : Hid (F (bl.take 0) = (1, 0, x, 1)) := Lib.hid (by rw [hF, List.take_zero]; rfl)
    have HFIN : Hid (F (bl.take 255) = Edw.ladN 57896044618658097711785492504343953926634992332820282019728792003956564819949 x (Edw.bitsN 255 n)) := Lib.hid (by rw [hF, hbl, List.take_of_length_le (by rw [Edw.bitsN_len]; exact Nat.le_refl _)])
    clear hF hG hbl
    go_wp2
    go_loopg [11] 255 (fun gg i wr => ∃ (k : Nat), i = .int .i64 (254 - (k : Int)) ∧ k ≤ 255 ∧ gg = 255 - k ∧ LadS w x (.slice (some ⟨gn, 0, none⟩) 32 capn) ln g5 g9 g10 (F (bl.take k)) wr)
    case atStart => exact ⟨0, rfl, by omega, rfl, by rw [HST0.out]; exact HLS.out⟩
    case round =>
      obtain ⟨k, rfl, hk, rfl, hr⟩ := hrel
      have HR := Lib.hid hr
      clear hr HLS
      by_cases h : k < 255
      · obtain ⟨j, hj⟩ : ∃ j : Nat, (254 : Int) - (k : Int) = (j : Int) := ⟨254 - k, by omega⟩
        obtain ⟨q, hq⟩ : ∃ q, q = j / 8 := ⟨_, rfl⟩
        obtain ⟨r, hr⟩ : ∃ r, r = j % 8 := ⟨_, rfl⟩
        have hq1 : (j : Int).tdiv 8 = (q : Int) := by rw [Int.tdiv_eq_ediv_of_nonneg (by omega)]; omega
        have hr1 : (j : Int).tmod 8 = (r : Int) := by rw [Int.tmod_eq_emod_of_nonneg (by omega)]; omega
        have hq32 : (q : Int) < 32 := by omega
        have hr8 : r < 8 := by omega
        have HQR : Hid (254 - k = 8 * q + r) := Lib.hid (by omega)
        clear hq hr
        obtain ⟨y, hy⟩ : ∃ y, y = (ln[q]'(by rw [HTL.out]; omega)).toNat := ⟨_, rfl⟩
        have hyb : y < 256 := by rw [hy]; exact UInt8.toNat_lt _
        have HST := Lib.hid (HSTEP.out k q r y h HQR.out hr8 (by rw [HTL.out]; omega) hy)
        have HY := Lib.hid hy
        clear hy
        obtain ⟨s, hs⟩ : ∃ s, s = F (bl.take k) := ⟨_, rfl⟩
        rw [← hs] at HR HST
        obtain ⟨sx, sz, px, pz, qx, qz, e1, e2, c1, c2, c3⟩ := HSX0.out s (by rw [hs]; exact HLTT.out _)
        have E1 := Lib.hid e1
        have E2 := Lib.hid e2
        have CS := Lib.hid c1
        have CP := Lib.hid c2
        have CQ := Lib.hid c3
        clear e1 e2 c1 c2 c3 hs
        rw [hj]
        go_upto_region 10 with (first
          | (refine wl_load_arr rfl 50 (.tmp 9) rfl g9 _ (ptL s.1 s.2.1) rfl HR.out.2.2.1 _ Try.underlying50 rfl (infoT _ _) ?_)
          | (refine wl_load_arr rfl 50 (.tmp 10) rfl g10 _ (ptL s.2.2.1 s.2.2.2) rfl HR.out.2.2.2.1 _ Try.underlying50 rfl (infoT _ _) ?_)
          | (refine wl_load_arr rfl 46 (.tmp 5) rfl g5 _ (F3.digs 16 (x : Int)) rfl HR.out.1 _ Try.underlying46 rfl (infoN _ (numLen _)) ?_)
          | (go_at_call 21; refine (CS.out _).mono ?_; rintro e z1 ⟨rfl, hk1⟩; have HR1 := Lib.hid (HR.out.kp0 hk1); clear hk1)
          | (refine wl_store_arr rfl 50 (.tmp 12) (.tmp 32) rfl z1.heap.size _ zpt (ptL sx sz) rfl rfl (arr0 z1 _ zpt) (infoT' _ _) (ptL_z _ _) ?_; intro z2 hA hS; have hh : Kp0 z1 z2 := ((Kp.refl (fun _ => False) z1).alloc _).trans hS (fun _ _ h => h) (fun i hi e => by omega); have HA12 := Lib.hid hA; have HR2 := Lib.hid (HR1.out.kp0 hh); clear hA hS hh))
        try simp only [Act.put]
        obtain ⟨g12, hg12⟩ : ∃ g, g = z1.heap.size := ⟨_, rfl⟩
        rw [← hg12] at HA12
        rw [← hg12]
        have HG12 : Hid (g12 ≠ g9 ∧ g12 ≠ g10) := Lib.hid (by have := HR1.out.2.2.1.lt; have := HR1.out.2.2.2.1.lt; omega)
        clear hg12 HR1
        obtain ⟨gm, capm, em, _, hcm, _⟩ := HR2.out.2.1.pos32 HTL.out
        simp only [Value.slice.injEq, Option.some.injEq, Addr.mk.injEq] at em
        obtain ⟨⟨rfl, _⟩, _, rfl⟩ := em
        have hcy := hcm q (by rw [HTL.out]; omega)
        rw [← HY.out] at hcy
        clear hcm
        have hbc := bit8 y r
        by_cases hb : y / 2 ^ r % 2 = 1
        · rw [hb] at hbc
          have HS1 : Hid (F (bl.take (k + 1)) = (sx, sz, qx, qz)) := Lib.hid (by rw [HST.out, hb]; exact E1.out)
          clear hb
          go_upto_region 12 with (fail)
          refine wp_region_wall [3] (fun w' : World => Arr w' g12 50 (ptL sx sz) ∧ LadS w x (.slice (some ⟨gn, 0, none⟩) 32 capn) ln g5 g9 g10 s w') (.quiet 0 (.quiet 1 (.eff 2 (.wall 3 (.eff 4 .done))))) (by kernel_rfl) (by kernel_rfl) (by kernel_rfl) (by kernel_rfl) (fun _ d _ _ _ h => by cases d <;> exact h) ⟨HA12.out.drew, HR2.out.kp0 (Kp.refl _ z2).drew⟩ ?_
          refine pw_quiet (v := .agg (i64s (ptL sx sz)).toArray) rfl (by rfl) (fun wq hwq => run_load_arr 50 (.tmp 12) rfl g12 _ (ptL sx sz) rfl hwq.1 _ Try.underlying50 rfl (infoT _ _)) rfl ?_
          try simp only [List.setIfInBounds_toArray, List.set_cons_zero, List.set_cons_succ]
          refine pw_quiet (v := .agg (i64s (ptL s.2.2.1 s.2.2.2)).toArray) rfl (by rfl) (fun wq hwq => run_load_arr 50 (.tmp 10) rfl g10 _ (ptL s.2.2.1 s.2.2.2) rfl hwq.2.2.2.2.1 _ Try.underlying50 rfl (infoT _ _)) rfl ?_
          try simp only [List.setIfInBounds_toArray, List.set_cons_zero, List.set_cons_succ]
          refine pw_eff rfl (by rfl) (fun K hK => ?_)
          go_simp
          refine (CQ.out _).mono ?_
          rintro e z3 ⟨rfl, hk3⟩
          simp only []
          have hk3' : Kp0 z2 z3 := (Kp.refl _ z2).drew.tr hk3
          have HA13 := Lib.hid (HA12.out.kp0 hk3')
          have HR3 := Lib.hid (HR2.out.kp0 hk3')
          clear hk3 hk3'
          refine hK (fun w' : World => Arr w' g12 50 (ptL sx sz) ∧ LadS w x (.slice (some ⟨gn, 0, none⟩) 32 capn) ln g5 g9 g10 s w') _ _ (fun x h => h) ⟨HA13.out, HR3.out⟩ ?_
          clear hK K
          refine pw_wall rfl (by rfl) (fun K hK => ?_)
          refine wp_store_arr 50 (.tmp 9) (.tmp 46) rfl g9 _ (ptL s.1 s.2.1) (ptL sx sz) rfl rfl HR3.out.2.2.1 (infoT' _ _) (by rw [ptL_len, ptL_len]) ?_
          intro z4 hA4 hS4
          have HR4 := Lib.hid (HR3.out.put9 HGS.out hA4 hS4)
          clear hA4 hS4
          refine hK _ _ ?_
          clear hK K
          refine pw_eff rfl (by rfl) (fun K hK => ?_)
          refine wp_store_arr 50 (.tmp 10) (.tmp 48) rfl g10 _ (ptL s.2.2.1 s.2.2.2) (ptL qx qz) rfl rfl HR4.out.2.2.2.1 (infoT' _ _) (by rw [ptL_len, ptL_len]) ?_
          intro z5 hA5 hS5
          have HR5 := Lib.hid (HR4.out.put10 HGS.out hA5 hS5)
          clear hA5 hS5
          refine hK (fun _ => True) _ _ (fun _ _ => trivial) trivial ?_
          clear hK K
          refine pw_done ?_
          go_wp2
          go_roundg (255 - (k + 1))
          case measure => omega
          case rel => exact ⟨k + 1, by go_num, by omega, rfl, by rw [HS1.out]; exact HR5.out⟩
        · have hb0 : y / 2 ^ r % 2 = 0 := by omega
          rw [hb0] at hbc
          have HS1 : Hid (F (bl.take (k + 1)) = (px, pz, sx, sz)) := Lib.hid (by rw [HST.out, hb0]; exact E2.out)
          clear hb0 hb
          go_upto_region 11 with (fail)
          refine wp_region_tree3 (fun w' : World => Arr w' g12 50 (ptL sx sz)) (.quiet 2 (.eff 0 (.eff 1 (.eff 3 (.eff 4 .done))))) (by kernel_rfl) (by kernel_rfl) (by kernel_rfl) (by kernel_rfl) (fun _ d _ _ _ h => by cases d <;> exact h) HA12.out.drew ?_
          refine pu_quiet (v := .agg (i64s (ptL sx sz)).toArray) rfl (by rfl) (fun wq hwq => run_load_arr 50 (.tmp 12) rfl g12 _ (ptL sx sz) rfl hwq _ Try.underlying50 rfl (infoT _ _)) rfl ?_
          try simp only [List.setIfInBounds_toArray, List.set_cons_zero, List.set_cons_succ]
          refine pu_eff rfl (by rfl) (fun K hK => ?_)
          refine wp_load_arrk 50 (.tmp 9) rfl g9 _ (ptL s.1 s.2.1) rfl HR2.out.2.2.1.drew _ Try.underlying50 rfl (infoT _ _) rfl ?_
          try simp only [List.setIfInBounds_toArray, List.set_cons_zero, List.set_cons_succ]
          refine hK (fun w' : World => Arr w' g12 50 (ptL sx sz)) _ _ (fun x h => h) HA12.out.drew ?_
          clear hK K
          refine pu_eff rfl (by rfl) (fun K hK => ?_)
          go_simp
          refine (CP.out _).mono ?_
          rintro e z3 ⟨rfl, hk3⟩
          simp only []
          have hk3' : Kp0 z2 z3 := (Kp.refl _ z2).drew.tr hk3
          have HA13 := Lib.hid (HA12.out.kp0 hk3')
          have HR3 := Lib.hid (HR2.out.kp0 hk3')
          clear hk3 hk3'
          refine hK (fun w' : World => Arr w' g12 50 (ptL sx sz)) _ _ (fun x h => h) HA13.out ?_
          clear hK K
          refine pu_eff rfl (by rfl) (fun K hK => ?_)
          refine wp_store_arr 50 (.tmp 9) (.tmp 44) rfl g9 _ (ptL s.1 s.2.1) (ptL px pz) rfl rfl HR3.out.2.2.1 (infoT' _ _) (by rw [ptL_len, ptL_len]) ?_
          intro z4 hA4 hS4
          have HA14 := Lib.hid (HA13.out.keep hS4 (fun e => HG12.out.1 e))
          have HR4 := Lib.hid (HR3.out.put9 HGS.out hA4 hS4)
          clear hA4 hS4
          refine hK (fun w' : World => Arr w' g12 50 (ptL sx sz)) _ _ (fun x h => h) HA14.out ?_
          clear hK K
          refine pu_eff rfl (by rfl) (fun K hK => ?_)
          refine wp_store_arr 50 (.tmp 10) (.tmp 45) rfl g10 _ (ptL s.2.2.1 s.2.2.2) (ptL sx sz) rfl rfl HR4.out.2.2.2.1 (infoT' _ _) (by rw [ptL_len, ptL_len]) ?_
          intro z5 hA5 hS5
          have HA15 := Lib.hid (HA14.out.keep hS5 (fun e => HG12.out.2 e))
          have HR5 := Lib.hid (HR4.out.put10 HGS.out hA5 hS5)
          clear hA5 hS5
          refine hK (fun w' : World => Arr w' g12 50 (ptL sx sz)) _ _ (fun x h => h) HA15.out ?_
          clear hK K
          refine pu_done ?_
          go_wp2
          go_roundg (255 - (k + 1))
          case measure => omega
          case rel => exact ⟨k + 1, by go_num, by omega, rfl, by rw [HS1.out]; exact HR5.out⟩
      · have hk255 : k = 255 := by omega
        subst hk255
        rw [HFIN.out] at HR
        clear h hk
        have hm : (254 : Int) - ((255 : Nat) : Int) = -1 := by omega
        rw [hm]
        go_upto_region 13 with (fail)
        obtain ⟨X, Z, hX, hZl, hXl, HM⟩ := lad_fin x n HXL.out
        obtain ⟨zi, m, ci, cm, cb, hm⟩ := HM.out
        have CI := Lib.hid ci
        have CM := Lib.hid cm
        have CB := Lib.hid cb
        have HMM := Lib.hid hm
        clear ci cm cb hm HM
        obtain ⟨s, hs⟩ : ∃ s, s = Edw.ladN 57896044618658097711785492504343953926634992332820282019728792003956564819949 x (Edw.bitsN 255 n) := ⟨_, rfl⟩
        obtain ⟨hX1, hZ1⟩ := hX s hs
        rw [← hs] at HR
        have HRL : Hid (LadS w x (.slice (some ⟨gn, 0, none⟩) 32 capn) ln g5 g9 g10 (X, Z, s.2.2.1, s.2.2.2) wr) := Lib.hid (by rw [← hX1, ← hZ1]; exact HR.out)
        clear hX hZl hXl HR hX1 hZ1 hs
        have HK0 : Hid (Kp0 wr wr.drew) := Lib.hid (Kp.refl _ wr).drew
        refine wp_region_tree3 (fun w' : World => Kp0 wr w') (.quiet 0 (.quiet 1 (.quiet 2 (.quiet 3 (.eff 4 (.eff 5 (.eff 6 (.quiet 7 .done)))))))) (by kernel_rfl) (by kernel_rfl) (by kernel_rfl) (by kernel_rfl) (fun _ d _ _ _ h => by cases d <;> exact h) HK0.out ?_
        repeat (first
          | (refine pu_quiet (v := .agg (i64s (F3.digs 16 ((X : Nat) : Int))).toArray) rfl (by rfl) (fun wq hwq => run_load_mid 46 (.tmp 49) rfl g9 0 _ rfl (pt_x (HRL.out.2.2.1.kp0 hwq)) _ Try.underlying46 rfl (infoN _ (numLen _))) rfl ?_; try simp only [List.setIfInBounds_toArray, List.set_cons_zero, List.set_cons_succ])
          | (refine pu_quiet (v := .agg (i64s (F3.digs 16 ((Z : Nat) : Int))).toArray) rfl (by rfl) (fun wq hwq => run_load_mid 46 (.tmp 51) rfl g9 16 _ rfl (pt_z (HRL.out.2.2.1.kp0 hwq)) _ Try.underlying46 rfl (infoN _ (numLen _))) rfl ?_; try simp only [List.setIfInBounds_toArray, List.set_cons_zero, List.set_cons_succ])
          | (refine pu_quiet (v := ?_) rfl (by rfl) (fun wq hwq => ?_) rfl ?_; rotate_left 1; (focus (go_simp; try (with_reducible rfl); done)); try simp only [List.setIfInBounds_toArray, List.set_cons_zero, List.set_cons_succ]))
        refine pu_eff rfl (by rfl) (fun K hK => ?_)
        go_simp
        refine (CI.out _).mono ?_
        rintro e y1 ⟨rfl, hk1⟩
        simp only []
        have HK1 : Hid (Kp0 wr y1) := Lib.hid (HK0.out.tr hk1)
        
        clear hk1
        refine hK (fun w' : World => Kp0 wr w') _ _ (fun x h => h) HK1.out ?_
        clear hK K
        refine pu_eff rfl (by rfl) (fun K hK => ?_)
        go_simp
        refine (CM.out _).mono ?_
        rintro e y2 ⟨rfl, hk2⟩
        simp only []
        have HK2 : Hid (Kp0 wr y2) := Lib.hid (HK1.out.tr hk2)
        
        clear hk2
        refine hK (fun w' : World => Kp0 wr w') _ _ (fun x h => h) HK2.out ?_
        clear hK K
        refine pu_eff rfl (by rfl) (fun K hK => ?_)
        go_simp
        refine (CB.out _).mono ?_
        rintro e y3 ⟨vr, rfl, hrd, hk3⟩
        simp only []
        have HK3 : Hid (Kp0 wr y3) := Lib.hid (HK2.out.tr hk3)
        have HRD := Lib.hid hrd; clear hrd
        clear hk3
        refine hK (fun w' : World => Kp0 wr w') _ _ (fun x h => h) HK3.out ?_
        clear hK K
        (refine pu_quiet (v := ?_) rfl (by rfl) (fun wq hwq => ?_) rfl ?_; rotate_left 1; (focus (go_simp; try (with_reducible rfl); done)); try simp only [List.setIfInBounds_toArray, List.set_cons_zero, List.set_cons_succ])
        refine pu_done ?_
        go_wp2
        go_ret
        exact ⟨_, rfl, by rw [← HLN.out, ← HNN.out, ← HMM.out]; exact HRD.out, HRL.out.2.2.2.2.1.tr HK3.out⟩
end Go.Proofs.Ytcnehbfcagghpaa
