/- The reference's powers. Two arrays of numbers, held against each other. -/
import Derived.Test.YtcnehbfcagghpaaRd3m
import Derived.ChangeKeysEq
namespace Go.Proofs.Ytcnehbfcagghpaa
open Go Go.RowKit
/-- Block g holds these bytes. -/
def Byt (w : World) (g : Nat) (l : List UInt8) : Prop := w.heap[g]? = some (.cells (bys l).toArray 5 (0, 0))
theorem Byt.cell {w : World} {g : Nat} {l : List UInt8} (h : Byt w g l) (i : Nat) (hi : i < l.length) : w.cell? ⟨g, i, none⟩ = some (.int .u8 ((l[i]'hi).toNat : Int)) := by
  rw [blk_cell h i]
  simp [bys, hi]
theorem Byt.frozen {w : World} {g : Nat} {l : List UInt8} (h : Byt w g l) (i : Nat) : w.frozen? ⟨g, i, none⟩ = false := blk_frozen h i
theorem Byt.set {w : World} {g : Nat} {l : List UInt8} (h : Byt w g l) (i : Nat) (x : UInt8) : Byt (w.setCell ⟨g, i, none⟩ (.int .u8 (x.toNat : Int))) g (l.set i x) := by
  have := blk_set h i (.int .u8 (x.toNat : Int))
  unfold Byt
  rw [this]
  simp [bys, List.map_set]
theorem Byt.rd {w : World} {g : Nat} {l : List UInt8} (h : Byt w g l) (hl : l.length = 32) : Rd w (.slice (some ⟨g, 0, none⟩) 32 32) (bys l) := by
  refine ⟨some ⟨g, 0, none⟩, 32, by rw [bys_len, hl], by rw [bys_len, hl]; omega, by unfold maxLen; omega, by simp, ?_⟩
  intro ad e i u hu
  cases e
  rw [show ((⟨g, 0, none⟩ : Addr).add i) = ⟨g, i, none⟩ by unfold Addr.add; split <;> simp_all, blk_cell h i]
  simpa using hu
theorem leN_ones (n : Nat) : leN (List.replicate n 255) + 1 = 256 ^ n := by
  induction n with
  | zero => rfl
  | succ n ih => rw [List.replicate_succ, leN, Nat.pow_succ, ← ih, show (255 : UInt8).toNat = 255 from rfl]; omega
/-- The bytes of 2^n - less. -/
def allB (n less : Nat) : List UInt8 := UInt8.ofNat (256 - less) :: (List.replicate 30 255 ++ [UInt8.ofNat (2 ^ (n - 248) - 1)])
theorem allB_len (n less : Nat) : (allB n less).length = 32 := by simp [allB]
theorem allB_val (n less : Nat) (h1 : 1 ≤ less) (h2 : less ≤ 255) (h3 : 248 ≤ n) (h4 : n ≤ 255) : leN (allB n less) + less = 2 ^ n := by
  obtain ⟨m, rfl⟩ : ∃ m, n = 248 + m := ⟨n - 248, by omega⟩
  have hm : 2 ^ m ≤ 128 := Nat.pow_le_pow_right (show 0 < 2 by omega) (show m ≤ 7 by omega)
  have hm0 : 0 < 2 ^ m := Nat.pow_pos (by omega)
  have ho := leN_ones 30
  rw [allB, leN, leN_append, List.length_replicate, leN, leN, UInt8.toNat_ofNat', UInt8.toNat_ofNat', Nat.add_sub_cancel_left, Nat.mod_eq_of_lt (show 256 - less < 2 ^ 8 by omega), Nat.mod_eq_of_lt (show 2 ^ m - 1 < 2 ^ 8 by omega), Nat.pow_add]
  have e1 : 256 ^ 30 = 1766847064778384329583297500742918515827483896875618958121606201292619776 := by decide +kernel
  have e2 : 2 ^ 248 = 452312848583266388373324160190187140051835877600158453279131187530910662656 := by decide +kernel
  rw [e1] at *
  rw [e2]
  generalize 2 ^ m = q at *
  generalize leN (List.replicate 30 255) = z at *
  omega
theorem allB_loop (x y : UInt8) : ((List.replicate 31 (255 : UInt8) ++ [0]).set 0 x).set 31 y = x :: (List.replicate 30 255 ++ [y]) := rfl
theorem ones_set (n : Nat) (h : n < 31) : (List.replicate n (255 : UInt8) ++ List.replicate (32 - n) 0).set n 255 = List.replicate (n + 1) 255 ++ List.replicate (32 - (n + 1)) 0 := by
  rw [List.set_append_right _ _ (by simp), List.length_replicate, Nat.sub_self, List.replicate_succ', show 32 - n = (32 - (n + 1)) + 1 by omega, List.replicate_succ, List.set_cons_zero, List.append_assoc]
  rfl
theorem ones_at (k : Nat) (_ : k < 31) {hk : k < (List.replicate k (255 : UInt8) ++ List.replicate (32 - k) 0).length} : (List.replicate k (255 : UInt8) ++ List.replicate (32 - k) 0)[k]'hk = 0 := by
  rw [List.getElem_append_right (by simp)]
  simp
set_option maxRecDepth 20000 in
set_option maxHeartbeats 4000000 in
theorem all_any (n less : Nat) (w : World) (h1 : 1 ≤ less) (h2 : less ≤ 255) (h3 : 249 ≤ n) (h4 : n ≤ 255) :
    Calls Try.prog 38 #[.int .i64 n, .int .u8 less] w fun e w' => ∃ v, e = .returned v ∧ Rd w' v (bys (allB n less)) ∧ Kp0 w w' ∧ ∀ g, v.ownBlock = some g → g < w'.heap.size := by
  have hmk : ∀ u : World, (Instr.makeSlice 22 (.int .i64 32) (.int .i64 32)).run Try.prog u =
      .ok (.slice (some ⟨u.heap.size, 0, none⟩) 32 32) (u.alloc (.cells (bys (List.replicate 32 0)).toArray 5)) := fun u => by
    obtain ⟨i0, hi, hz0, hz1, hz2⟩ := info_parts infoB
    have h := run_make (P := Try.prog) u 22 5 i0 (.int .u8 0) Try.underlying22 hi hz0 .i64 .i64 (32 : Int) (32 : Int) (by omega) (Int.le_refl _) (by rw [hz2]; omega) (by omega)
    have e : (32 : Int).toNat = 32 := by omega
    rw [e] at h
    rw [show (bys (List.replicate 32 0)).toArray = madeCells #[.int .u8 0] 32 by kernel_rfl]
    simpa [hz1, Value.cells] using h
  go_enter Try.func38, Try.ntmps38
  go_wp2
  clear hmk
  go_loopg [6] 31 (fun g i wr => ∃ (k : Nat), i = .int .i64 k ∧ k ≤ 31 ∧ g = 31 - k ∧ Byt wr w.heap.size (List.replicate k 255 ++ List.replicate (32 - k) 0) ∧ Kp0 w wr)
  case atStart => exact ⟨0, rfl, by omega, rfl, heap_alloc_new w _, (Kp.refl _ w).alloc _⟩
  case round =>
    obtain ⟨k, rfl, hk, rfl, hB, hK⟩ := hrel
    have HB := Lib.hid hB
    have HK := Lib.hid hK
    clear hB hK
    by_cases h : k < 31
    · have hc := HB.out.cell k (by simp; omega)
      have hf := HB.out.frozen k
      rw [ones_at k h] at hc
      go_wp2
      go_roundg (31 - (k + 1))
      case measure => omega
      case rel =>
        refine ⟨k + 1, by go_num, by omega, rfl, ?_, HK.out.setCell (p := ⟨w.heap.size, k, none⟩) (fun hlt => absurd hlt (Nat.lt_irrefl _)) _⟩
        rw [← ones_set k h]
        exact HB.out.set k 255
    · obtain rfl : k = 31 := by omega
      have hc := HB.out.cell 0 (by simp)
      have hc2 := HB.out.cell 31 (by simp)
      have hf := HB.out.frozen 0
      have hf2 := HB.out.frozen 31
      have e1 : ((UInt8.ofNat (256 - less)).toNat : Int) = 255 - (less : Int) + 1 := by rw [UInt8.toNat_ofNat']; omega
      have e2 : ((UInt8.ofNat (2 ^ (n - 248) - 1)).toNat : Int) = (2 ^ (n - 248) - 1) % 256 := by
        have h0 : 0 < 2 ^ (n - 248) := Nat.pow_pos (by omega)
        rw [UInt8.toNat_ofNat', show ((2 : Int) ^ (n - 248)) = ((2 ^ (n - 248) : Nat) : Int) by simp]
        omega
      have HE1 := Lib.hid e1
      have HE2 := Lib.hid e2
      clear e1 e2
      go_wp2
      go_ret
      have hb2 := (HB.out.set 0 (UInt8.ofNat (256 - less))).set 31 (UInt8.ofNat (2 ^ (n - 248) - 1))
      rw [HE1.out, HE2.out] at hb2
      refine ⟨_, rfl, Byt.rd hb2 (allB_len n less), (HK.out.setCell (p := ⟨w.heap.size, 0, none⟩) (fun hlt => absurd hlt (Nat.lt_irrefl _)) _).setCell (p := ⟨w.heap.size, 31, none⟩) (fun hlt => absurd hlt (Nat.lt_irrefl _)) _, fun g hg => ?_⟩
      have := blk_lt hb2
      simp [Value.ownBlock] at hg
      omega
/-- What raising to a power keeps. -/
def PowR (w : World) (v : Value) (l : List UInt8) (gr : Nat) (A R : Nat) (wr : World) : Prop := Arr wr w.heap.size 46 (F3.digs 16 (A : Int)) ∧ Arr wr gr 46 (F3.digs 16 (R : Int)) ∧ Arr wr (w.heap.size + 1) 46 (zeros 16) ∧ Rd wr v (bys l) ∧ Kp0 w wr ∧ (∀ g, v.ownBlock = some g → g < w.heap.size) ∧ w.heap.size + 1 < gr
theorem PowR.kp0 {w wr wx : World} {v : Value} {l : List UInt8} {gr A R : Nat} (h : PowR w v l gr A R wr) (hk : Kp0 wr wx) : PowR w v l gr A R wx :=
  ⟨h.1.kp0 hk, h.2.1.kp0 hk, h.2.2.1.kp0 hk, h.2.2.2.1.keep0 hk, h.2.2.2.2.1.tr hk, h.2.2.2.2.2.1, h.2.2.2.2.2.2⟩
theorem PowR.putA {w wr wx : World} {v : Value} {l : List UInt8} {gr A R B : Nat} (h : PowR w v l gr A R wr) (ha : Arr wx w.heap.size 46 (F3.digs 16 (B : Int))) (hk : Kp (fun b => b = w.heap.size) wr wx) : PowR w v l gr B R wx :=
  ⟨ha, h.2.1.keep hk (fun e => by have := h.2.2.2.2.2.2; omega), h.2.2.1.keep hk (fun e => by omega), h.2.2.2.1.keep hk (fun b hb _ e => by have := h.2.2.2.2.2.1 b hb; omega), h.2.2.2.2.1.trans hk (fun _ _ h => h) (fun i hi e => by omega), h.2.2.2.2.2.1, h.2.2.2.2.2.2⟩
theorem PowR.putR {w wr wx : World} {v : Value} {l : List UInt8} {gr A R B : Nat} (h : PowR w v l gr A R wr) (ha : Arr wx gr 46 (F3.digs 16 (B : Int))) (hk : Kp (fun b => b = gr) wr wx) : PowR w v l gr A B wx :=
  ⟨h.1.keep hk (fun e => by have := h.2.2.2.2.2.2; omega), ha, h.2.2.1.keep hk (fun e => by have := h.2.2.2.2.2.2; omega), h.2.2.2.1.keep hk (fun b hb _ e => by have := h.2.2.2.2.2.1 b hb; have := h.2.2.2.2.2.2; omega), h.2.2.2.2.1.trans hk (fun _ _ h => h) (fun i hi e => by have := h.2.2.2.2.2.2; omega), h.2.2.2.2.2.1, h.2.2.2.2.2.2⟩
/-- The exponent behind i bytes and k bits. -/
def expo (l : List UInt8) (i k : Nat) : Nat := leN (l.take i) + 256 ^ i * ((l.getD i 0).toNat % 2 ^ k)
theorem expo_next (l : List UInt8) (n : Nat) (h : n < l.length) : expo l n 8 = expo l (n + 1) 0 := by
  have hb := UInt8.toNat_lt (l[n]'h)
  unfold expo
  rw [List.take_succ_eq_append_getElem h, leN_append, List.length_take, Nat.min_eq_left (by omega), List.getD_eq_getElem?_getD, List.getElem?_eq_getElem h, Option.getD_some, leN, leN, Nat.pow_zero, Nat.mod_one, Nat.mod_eq_of_lt (by omega)]
  simp
theorem expo_end (l : List UInt8) : expo l l.length 0 = leN l := by
  unfold expo
  rw [List.take_of_length_le (Nat.le_refl _), Nat.pow_zero, Nat.mod_one, Nat.mul_zero, Nat.add_zero]
theorem bit_one (y k : Nat) (h : y / 2 ^ k % 2 = 1) : y % 2 ^ (k + 1) = y % 2 ^ k + 2 ^ k := by
  rw [Nat.mod_pow_succ, h, Nat.mul_one]
theorem bit_zero (y k : Nat) (h : ¬ y / 2 ^ k % 2 = 1) : y % 2 ^ (k + 1) = y % 2 ^ k := by
  rw [Nat.mod_pow_succ, show y / 2 ^ k % 2 = 0 by omega, Nat.mul_zero, Nat.add_zero]
theorem expo_one (l : List UInt8) (n k : Nat) (h : (l.getD n 0).toNat / 2 ^ k % 2 = 1) : expo l n (k + 1) = expo l n k + 2 ^ (8 * n + k) := by
  unfold expo
  rw [bit_one _ _ h, Nat.mul_add, Nat.pow_add, Nat.pow_mul, show 2 ^ 8 = 256 from rfl]
  omega
theorem expo_zero (l : List UInt8) (n k : Nat) (h : ¬ (l.getD n 0).toNat / 2 ^ k % 2 = 1) : expo l n (k + 1) = expo l n k := by
  unfold expo
  rw [bit_zero _ _ h]
theorem pow_mul_mod (a x y p : Nat) : (a ^ x % p) * (a ^ y % p) % p = a ^ (x + y) % p := by
  rw [← Nat.mul_mod, ← Nat.pow_add]
theorem bit_cast (y k : Nat) : ((y : Int) / 2 ^ k).tmod 2 = ((y / 2 ^ k % 2 : Nat) : Int) := by
  rw [show ((2 : Int) ^ k) = ((2 ^ k : Nat) : Int) by simp, ← Int.natCast_ediv, Int.tmod_eq_emod_of_nonneg (Int.natCast_nonneg _)]
  rfl
theorem bit_true {y k : Nat} (h : y / 2 ^ k % 2 = 1) : (((y : Int) / 2 ^ k).tmod 2 == 1) = true := by rw [bit_cast, h]; rfl
theorem bit_false {y k : Nat} (h : ¬ y / 2 ^ k % 2 = 1) : (((y : Int) / 2 ^ k).tmod 2 == 1) = false := by rw [bit_cast, show y / 2 ^ k % 2 = 0 by omega]; rfl
set_option maxRecDepth 20000 in
set_option maxHeartbeats 4000000 in
theorem pow_any (a : Nat) (v : Value) (l : List UInt8) (w : World) (ha : a < 57896044618658097711785492504343953926634992332820282019728792003956564819949) (hv : Rd w v (bys l)) (hvo : ∀ g, v.ownBlock = some g → g < w.heap.size) :
    Calls Try.prog 37 #[numV a, v] w fun e w' => e = .returned (numV (a ^ leN l % 57896044618658097711785492504343953926634992332820282019728792003956564819949)) ∧ Kp0 w w' := by
  obtain ⟨ao, cap, rfl, hc1, hc2, hc3⟩ := hv.shapeB
  have HV := Lib.hid hv
  have HVO := Lib.hid hvo
  have HLa := Lib.hid ha
  clear hv hvo ha
  unfold numV
  go_enter Try.func37, Try.ntmps37
  go_wp2_with fail
  refine (small_any 1 _ (by omega)).mono ?_
  rintro e w1 ⟨rfl, hk1⟩
  obtain ⟨g, hg⟩ : ∃ g, g = w1.heap.size := ⟨_, rfl⟩
  have HA : Hid (Arr (w1.alloc (.cells (i64s (zeros 16)).toArray 46)) g 46 (zeros 16)) := Lib.hid (by rw [hg]; exact arr0 _ _ _)
  have HP : Hid (∀ wx R, Arr wx g 46 (F3.digs 16 ((R : Nat) : Int)) → Kp (fun b => b = g) (w1.alloc (.cells (i64s (zeros 16)).toArray 46)) wx → PowR w (.slice ao l.length cap) l g a R wx) := Lib.hid (by
    intro wx R h1 h2
    have hs := hk1.size
    simp at hs
    have hw : Kp0 w w1 := (((Kp.refl _ w).alloc _).alloc _).tr hk1
    have hk : Kp (fun b => b = g) w1 wx := ((Kp.refl (fun b => b = g) w1).alloc _).tr h2
    have hz : w.heap.size + 1 < g := by omega
    refine ⟨?_, h1, ?_, (HV.out.keep0 hw).keep hk (fun b hb _ e => by have := HVO.out b hb; omega), hw.trans hk (fun _ _ h => h) (fun i hi e => by omega), HVO.out, hz⟩
    · exact ((((arr0 w _ (F3.digs 16 (a : Int))).kp0 ((Kp.refl _ _).alloc _)).kp0 hk1).keep hk (fun e => by omega))
    · exact (((arr1 w _ _ (zeros 16)).kp0 hk1).keep hk (fun e => by omega)))
  go_wp2_with (
    (refine wl_store_arr rfl 46 (.tmp 5) (.tmp 8) rfl w1.heap.size _ (zeros 16) (F3.digs 16 ((1 : Nat) : Int)) rfl rfl (arr0 w1 _ (zeros 16)) (infoN' _ (numLen _)) (numLen _).symm ?_
     intro w7 hA7 hK7
     have HR := Lib.hid (HP.out w7 1 (by rw [hg]; exact hA7) (by rw [hg]; exact hK7))
     clear hA7 hK7))
  rw [← hg]
  clear HA HP hk1 hg
  go_loopg [6] l.length (fun gg i wr => ∃ (n A R : Nat), i = .int .i64 n ∧ n ≤ l.length ∧ gg = l.length - n ∧ PowR w (.slice ao l.length cap) l g A R wr ∧ Hid (A = a ^ 2 ^ (8 * n) % 57896044618658097711785492504343953926634992332820282019728792003956564819949 ∧ R = a ^ expo l n 0 % 57896044618658097711785492504343953926634992332820282019728792003956564819949))
  case atStart => exact ⟨0, a, 1, rfl, by omega, rfl, HR.out, Lib.hid ⟨by rw [Nat.mul_zero, Nat.pow_zero, Nat.pow_one, Nat.mod_eq_of_lt HLa.out], by simp [expo, leN, Nat.mod_one]⟩⟩
  case round =>
    obtain ⟨n, A0, R0, rfl, hn, rfl, hr, HC0⟩ := hrel
    have HR0 := Lib.hid hr
    clear hr HR
    by_cases h : n < l.length
    · obtain ⟨b2, o2, c2, e2, _, _, hcell⟩ := HR0.out.2.2.2.1.posB (by omega)
      simp only [Value.slice.injEq] at e2
      obtain ⟨rfl, _, rfl⟩ := e2
      obtain ⟨y, hy⟩ : ∃ y, y = (l[n]'h).toNat := ⟨_, rfl⟩
      have hby : y < 256 := by rw [hy]; exact UInt8.toNat_lt _
      have HY : Hid (y = (l.getD n 0).toNat) := Lib.hid (by rw [hy, List.getD_eq_getElem?_getD, List.getElem?_eq_getElem h]; rfl)
      have HCL : Hid (∀ wx, Rd wx (.slice (some ⟨b2, o2, none⟩) l.length cap) (bys l) → wx.cell? ⟨b2, o2 + n, none⟩ = some (.int .u8 (y : Int))) := Lib.hid (fun wx hx => by
        obtain ⟨b3, o3, c3, e3, _, _, hcell3⟩ := hx.posB (by omega)
        simp only [Value.slice.injEq, Option.some.injEq, Addr.mk.injEq] at e3
        obtain ⟨⟨rfl, rfl, _⟩, _, rfl⟩ := e3
        rw [hcell3 n h, hy])
      clear hcell hy
      go_wp2
      go_loopg [7] 8 (fun gg i wr => ∃ (k A R : Nat), i = .int .i64 k ∧ k ≤ 8 ∧ gg = 8 - k ∧ PowR w (.slice (some ⟨b2, o2, none⟩) l.length cap) l g A R wr ∧ Hid (A = a ^ 2 ^ (8 * n + k) % 57896044618658097711785492504343953926634992332820282019728792003956564819949 ∧ R = a ^ expo l n k % 57896044618658097711785492504343953926634992332820282019728792003956564819949))
      case atStart => exact ⟨0, A0, R0, rfl, by omega, rfl, HR0.out, Lib.hid HC0.out⟩
      case round =>
        obtain ⟨k, A, R, rfl, hk, rfl, hr, HC⟩ := hrel
        have HR := Lib.hid hr
        clear hr
        by_cases h2 : k < 8
        · have hc := HCL.out _ HR.out.2.2.2.1
          by_cases hbit : y / 2 ^ k % 2 = 1
          · have hB : (((y : Int) / 2 ^ k).tmod 2 == 1) = true := bit_true hbit
            have HBT := Lib.hid hbit
            clear hbit
            go_wp2_with (first
              | (refine wl_load_arr rfl 46 (.tmp 5) rfl g _ (F3.digs 16 (R : Int)) rfl HR.out.2.1 _ Try.underlying46 rfl (infoN _ (numLen _)) ?_)
              | (refine wl_load_arr rfl 46 (.tmp 2) rfl w.heap.size _ (F3.digs 16 (A : Int)) rfl HR.out.1 _ Try.underlying46 rfl (infoN _ (numLen _)) ?_))
            refine (mul_any R A _ (by rw [HC.out.2]; exact Nat.mod_lt _ (by omega)) (by rw [HC.out.1]; exact Nat.mod_lt _ (by omega))).mono ?_
            rintro e w5 ⟨rfl, hk5⟩
            have HR5 := Lib.hid (HR.out.kp0 hk5)
            clear hk5
            go_wp2_with (first
              | (refine wl_store_arr rfl 46 (.tmp 5) (.tmp 29) rfl g _ (F3.digs 16 (R : Int)) (F3.digs 16 ((R * A % 57896044618658097711785492504343953926634992332820282019728792003956564819949 : Nat) : Int)) rfl rfl HR5.out.2.1 (infoN' _ (numLen _)) (by rw [numLen, numLen]) ?_
                 intro w6 hA6 hK6
                 have HR6 := Lib.hid (HR5.out.putR hA6 hK6)
                 clear hA6 hK6)
              | (refine wl_load_arr rfl 46 (.tmp 2) rfl w.heap.size _ (F3.digs 16 (A : Int)) rfl HR6.out.1 _ Try.underlying46 rfl (infoN _ (numLen _)) ?_)
              | (refine wl_load_arr rfl 46 (.tmp 2) rfl w.heap.size _ (F3.digs 16 (A : Int)) rfl HR6.out.1 _ Try.underlying46 rfl (infoN _ (numLen _)) ?_))
            refine (mul_any A A _ (by rw [HC.out.1]; exact Nat.mod_lt _ (by omega)) (by rw [HC.out.1]; exact Nat.mod_lt _ (by omega))).mono ?_
            rintro e w8 ⟨rfl, hk8⟩
            have HR8 := Lib.hid (HR6.out.kp0 hk8)
            clear hk8
            go_wp2_with (
              (refine wl_store_arr rfl 46 (.tmp 2) (.tmp 32) rfl w.heap.size _ (F3.digs 16 (A : Int)) (F3.digs 16 ((A * A % 57896044618658097711785492504343953926634992332820282019728792003956564819949 : Nat) : Int)) rfl rfl HR8.out.1 (infoN' _ (numLen _)) (by rw [numLen, numLen]) ?_
               intro w9 hA9 hK9
               have HR9 := Lib.hid (HR8.out.putA hA9 hK9)
               clear hA9 hK9))
            go_roundg (8 - (k + 1))
            case measure => omega
            case rel => exact ⟨k + 1, _, _, by go_num, by omega, rfl, HR9.out, Lib.hid ⟨by rw [HC.out.1, pow_mul_mod]; congr 2; rw [← Nat.add_assoc, Nat.pow_succ]; omega, by rw [HC.out.1, HC.out.2, pow_mul_mod, expo_one l n k (by rw [← HY.out]; exact HBT.out)]⟩⟩
          · have hB : (((y : Int) / 2 ^ k).tmod 2 == 1) = false := bit_false hbit
            have HBT := Lib.hid hbit
            clear hbit
            go_wp2_with (first
              | (refine wl_load_arr rfl 46 (.tmp 2) rfl w.heap.size _ (F3.digs 16 (A : Int)) rfl HR.out.1 _ Try.underlying46 rfl (infoN _ (numLen _)) ?_)
              | (refine wl_load_arr rfl 46 (.tmp 2) rfl w.heap.size _ (F3.digs 16 (A : Int)) rfl HR.out.1 _ Try.underlying46 rfl (infoN _ (numLen _)) ?_))
            refine (mul_any A A _ (by rw [HC.out.1]; exact Nat.mod_lt _ (by omega)) (by rw [HC.out.1]; exact Nat.mod_lt _ (by omega))).mono ?_
            rintro e w8 ⟨rfl, hk8⟩
            have HR8 := Lib.hid (HR.out.kp0 hk8)
            clear hk8
            go_wp2_with (
              (refine wl_store_arr rfl 46 (.tmp 2) (.tmp 32) rfl w.heap.size _ (F3.digs 16 (A : Int)) (F3.digs 16 ((A * A % 57896044618658097711785492504343953926634992332820282019728792003956564819949 : Nat) : Int)) rfl rfl HR8.out.1 (infoN' _ (numLen _)) (by rw [numLen, numLen]) ?_
               intro w9 hA9 hK9
               have HR9 := Lib.hid (HR8.out.putA hA9 hK9)
               clear hA9 hK9))
            go_roundg (8 - (k + 1))
            case measure => omega
            case rel => exact ⟨k + 1, _, _, by go_num, by omega, rfl, HR9.out, Lib.hid ⟨by rw [HC.out.1, pow_mul_mod]; congr 2; rw [← Nat.add_assoc, Nat.pow_succ]; omega, by rw [HC.out.2, expo_zero l n k (by rw [← HY.out]; exact HBT.out)]⟩⟩
        · obtain rfl : k = 8 := by omega
          go_wp2
          go_roundg (l.length - (n + 1))
          case measure => omega
          case rel => exact ⟨n + 1, A, R, by go_num, by omega, rfl, HR.out, Lib.hid ⟨HC.out.1, by rw [HC.out.2, expo_next l n h]⟩⟩
    · obtain rfl : n = l.length := by omega
      go_wp2_with (first
        | (refine wl_load_arr rfl 46 (.tmp 5) rfl g _ (F3.digs 16 (R0 : Int)) rfl HR0.out.2.1 _ Try.underlying46 rfl (infoN _ (numLen _)) ?_)
        | (refine wl_store_arr rfl 46 (.tmp 4) (.tmp 33) rfl (w.heap.size + 1) _ (zeros 16) (F3.digs 16 (R0 : Int)) rfl rfl HR0.out.2.2.1 (infoN' _ (numLen _)) (numLen _).symm ?_
           intro w6 hA6 hK6
           have HA6 := Lib.hid hA6
           have HK6 := Lib.hid hK6
           clear hA6 hK6))
      refine ret_arr 4 46 46 (w.heap.size + 1) (F3.digs 16 (R0 : Int)) _ rfl rfl HA6.out Try.underlying46 rfl (infoN _ (numLen _)) rfl ?_
      exact ⟨by rw [← expo_end l, ← HC0.out.2], HR0.out.2.2.2.2.1.trans HK6.out (fun _ _ h => h) (fun i hi e => by omega)⟩
end Go.Proofs.Ytcnehbfcagghpaa
namespace Go.Proofs.Ytcnehbfcagghpaa
open Go Go.RowKit
theorem run_eqItems_ints {P : Program} (w : World) (d : Nat) {e : TypeId} {k : IntKind} (hu : P.underlying e = some (.int k)) (us vs : List Int) : ∀ (js : List Nat), (∀ j, j ∈ js → j < us.length ∧ j < vs.length) →
    (Op.eqItems (d + 1) e 1 (us.map (Value.int k)).toArray (vs.map (Value.int k)).toArray js).run P w = .ok (js.all (fun j => us.getD j 0 == vs.getD j 0)) w
  | [], _ => by simp [Op.eqItems]
  | j :: js, h => by
    have he : P.plainKey e = true := by unfold Program.plainKey; rw [hu]
    obtain ⟨h1, h2⟩ := h j (by simp)
    have p1 := run_part_plain w he (xs := (us.map (Value.int k)).toArray) (off := j * 1) (v := .int k us[j]) (by simp [h1])
    have p2 := run_part_plain w he (xs := (vs.map (Value.int k)).toArray) (off := j * 1) (v := .int k vs[j]) (by simp [h2])
    have p3 := run_equalIn_int (P := P) w d e k k us[j] vs[j] hu
    have ih := run_eqItems_ints w d hu us vs js (fun i hi => h i (by simp [hi]))
    have e1 : us.getD j 0 = us[j] := by rw [List.getD_eq_getElem?_getD, List.getElem?_eq_getElem h1]; rfl
    have e2 : vs.getD j 0 = vs[j] := by rw [List.getD_eq_getElem?_getD, List.getElem?_eq_getElem h2]; rfl
    simp only [Op.eqItems, Sem.run_bind, p1, p2, p3, Result.andThen_ok, List.all_cons, e1, e2]
    cases hb : us[j] == vs[j]
    · simp
    · simpa using ih
theorem all_eq (us vs : List Int) (h : us.length = vs.length) : (List.range us.length).all (fun j => us.getD j 0 == vs.getD j 0) = (us == vs) := by
  rw [Bool.eq_iff_iff, List.all_eq_true, beq_iff_eq]
  constructor
  · intro hj
    refine List.ext_getElem h fun i h1 h2 => ?_
    have := hj i (List.mem_range.2 h1)
    rw [beq_iff_eq, List.getD_eq_getElem?_getD, List.getD_eq_getElem?_getD, List.getElem?_eq_getElem h1, List.getElem?_eq_getElem h2] at this
    exact this
  · rintro rfl j _
    exact beq_self_eq_true _
theorem run_equal_ints {P : Program} (w : World) {t e : TypeId} {n : Nat} {k : IntKind} (ht : P.underlying t = some (.array n e)) (hu : P.underlying e = some (.int k)) (hc : (P.info? e).map (·.size) = some 1) (us vs : List Int) (ha : us.length = n) (hb : vs.length = n) :
    (Op.equal t (.agg (us.map (Value.int k)).toArray) (.agg (vs.map (Value.int k)).toArray)).run P w = .ok (us == vs) w := by
  cases hi : P.info? e with
  | none => simp [hi] at hc
  | some i =>
    have hcs : P.cellsOf e = 1 := by simp [Program.cellsOf, hi] at hc ⊢; exact hc
    unfold Op.equal
    rw [show Op.maxDepth = 9998 + 1 + 1 from rfl, run_equalIn_array w _ _ _ ht hi, hcs, run_eqItems_ints w _ hu us vs _ (fun j hj => by rw [List.mem_range] at hj; omega), ← ha, all_eq us vs (by omega)]
theorem run_op_eql {P : Program} {op : Oper} {a : Act} (w : World) {t e u : TypeId} {n : Nat} {k : IntKind} (x y : Operand) (ho : op.op = .binOp .eql t x y u) (us vs : List Int) (hx : a.eval x = .agg (us.map (Value.int k)).toArray) (hy : a.eval y = .agg (vs.map (Value.int k)).toArray)
    (ht : P.underlying t = some (.array n e)) (hu : P.underlying e = some (.int k)) (hc : (P.info? e).map (·.size) = some 1) (hg : P.eqGuardType P.depth t = false) (ha : us.length = n) (hb : vs.length = n) :
    (execOp a.eval op).run P w = .ok (.value (.bool (us == vs))) w := by
  unfold execOp
  simp only [ho, hx, hy]
  simp [eqGuard, binOp, hg, run_equal_ints w ht hu hc us vs ha hb]
theorem run_op_neq {P : Program} {op : Oper} {a : Act} (w : World) {t e u : TypeId} {n : Nat} {k : IntKind} (x y : Operand) (ho : op.op = .binOp .neq t x y u) (us vs : List Int) (hx : a.eval x = .agg (us.map (Value.int k)).toArray) (hy : a.eval y = .agg (vs.map (Value.int k)).toArray)
    (ht : P.underlying t = some (.array n e)) (hu : P.underlying e = some (.int k)) (hc : (P.info? e).map (·.size) = some 1) (hg : P.eqGuardType P.depth t = false) (ha : us.length = n) (hb : vs.length = n) :
    (execOp a.eval op).run P w = .ok (.value (.bool (!(us == vs)))) w := by
  unfold execOp
  simp only [ho, hx, hy]
  simp [eqGuard, binOp, hg, run_equal_ints w ht hu hc us vs ha hb]
theorem digs_beq (m n : Nat) (hm : m < 57896044618658097711785492504343953926634992332820282019728792003956564819949) (hn : n < 57896044618658097711785492504343953926634992332820282019728792003956564819949) : (F3.digs 16 (m : Int) == F3.digs 16 (n : Int)) = decide (m = n) := by
  rw [Bool.eq_iff_iff, beq_iff_eq, decide_eq_true_iff]
  constructor
  · intro h
    have := congrArg F3.val h
    rw [num_val m hm, num_val n hn] at this
    omega
  · rintro rfl
    rfl
end Go.Proofs.Ytcnehbfcagghpaa
