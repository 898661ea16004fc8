/- Package cipher: the key's words. -/
import Derived.Test.YtomlednobmaaeaaDoorCiG
namespace Go.Proofs.YtomlednobmaaeaaDoor
open Go Go.RowKit
open Aes (otB twB)
/-- A value of several cells goes into a part of a block. -/
theorem wl_store_part {P : Program} {ops : Array Oper} {rest : List Oper} {op : Oper} {a : Act} {w : World} {Q : Exit → Act → World → Prop} (hgd : op.guard = none) (ty : TypeId) (x y : Operand) (ho : op.op = .store ty x y)
    (g o : Nat) (T : TypeId) (old cs : List Value) (hx : a.eval x = .pointer (some ⟨g, o, none⟩)) (hy : a.eval y = .agg cs.toArray) (hA : Blk w g T old)
    (hi : (P.info? ty).map (·.size) = some cs.length) (hl : o + cs.length ≤ old.length) (h1 : Ones cs)
    (h : ∀ w', Blk w' g T (old.take o ++ cs ++ old.drop (o + cs.length)) → Kp (fun b => b = g) w w' → wpList P ops Q rest (a.put op.dst undef) w') : wpList P ops Q (op :: rest) a w := by
  have hs := run_storeCells_at (P := P) g o T cs 0 old.toArray w hA (by simpa using hl) h1
  have hst : (storeVar ty ⟨g, o, none⟩ (.agg cs.toArray)).run P w = .ok () (w.setRow g (old.take o ++ cs ++ old.drop (o + cs.length)).toArray) := by
    cases hq : P.info? ty with
    | none => simp [hq] at hi
    | some i =>
      have hz : cs.length = i.size := by simp [hq] at hi; omega
      simp only [Nat.add_zero] at hs
      simp [storeVar, sizeOf, typeInfo, hq, Value.cells, hz] at hs ⊢
      exact hs
  refine wpList_plain hgd fun _ hK => ?_
  unfold Oper.wp execOp
  simp only [ho, hx, hy, Instr.storeAt, Instr.sureAddr, Sem.run_bind, Sem.run_pure, Result.andThen_ok, hst]
  exact hK _ _ (h _ (set_blk hA).1 (set_blk hA).2)
def z44 : List (BitVec 32) := List.replicate 44 0#32
def rt1 (x : BitVec 32) : BitVec 64 := (rot x 8).setWidth 64
def rt2 (x : BitVec 32) (p : BitVec 64) : BitVec 64 := otB (rt1 x) ^^^ p
def rt3 (x : BitVec 32) (p : BitVec 64) : BitVec 32 := (rt2 x p).setWidth 32
def kx (x y : BitVec 32) : BitVec 32 := x ^^^ y
theorem rt1_val (x : BitVec 32) : IntKind.u64.wrap ((rot x 8).toNat : Int) = ((rt1 x).toNat : Int) := by
  rw [f_widen, wrap64]
  rfl
theorem rt2_val (x : BitVec 32) (p : BitVec 64) : bits .xor .u64 ((otB (rt1 x)).toNat : Int) (p.toNat : Int) = ((rt2 x p).toNat : Int) := f64_xor _ _
theorem rt3_val (x : BitVec 32) (p : BitVec 64) : ((rt2 x p).toNat : Int) % 4294967296 = ((rt3 x p).toNat : Int) := by
  rw [← IntKind.wrap_u32', f_trunc]
  rfl
theorem kx_val (x y : BitVec 32) : bits .xor .u32 (x.toNat : Int) (y.toNat : Int) = ((kx x y).toNat : Int) := f32_xor _ _
def pwF : Nat → BitVec 64
  | 0 => 16777216#64
  | i + 1 => twB (pwF i)
/-- The words and the last one made, behind m of them. -/
def kst (c : List (BitVec 32)) : Nat → List (BitVec 32) × BitVec 32
  | 0 => (c ++ z44.drop 4, 0#32)
  | m + 1 =>
    let t := kx (if m % 4 = 0 then rt3 ((kst c m).1.getD (m + 3) 0#32) (pwF (m / 4)) else (kst c m).2) ((kst c m).1.getD m 0#32)
    ((kst c m).1.set (m + 4) t, t)
theorem kst_len {c : List (BitVec 32)} (hc : c.length = 4) : ∀ m, (kst c m).1.length = 44
  | 0 => by rw [kst]; simp [hc, z44]
  | m + 1 => by rw [kst]; simp only []; rw [List.length_set, kst_len hc m]
theorem kst_old (c : List (BitVec 32)) (m p : Nat) (h : p ≠ m + 4) : (kst c (m + 1)).1[p]? = (kst c m).1[p]? := by
  rw [kst]
  simp only []
  rw [List.getElem?_set_ne (by omega)]
def tIn (c : List (BitVec 32)) (i j : Nat) : BitVec 32 := if j = 0 then rt3 ((kst c (4 * i)).1.getD (4 * i + 3) 0#32) (pwF i) else (kst c (4 * i + j)).2
theorem kst_row (c : List (BitVec 32)) (i p : Nat) (hp : p < 4) : ∀ j, (kst c (4 * i + j)).1[4 * i + p]? = (kst c (4 * i)).1[4 * i + p]?
  | 0 => rfl
  | j + 1 => by rw [← Nat.add_assoc, kst_old c (4 * i + j) (4 * i + p) (by omega), kst_row c i p hp j]
theorem k_step {c : List (BitVec 32)} (hc : c.length = 4) (i j : Nat) (hi : i < 10) (hj : j < 4) : ∃ (x y : BitVec 32) (k : Nat), (keyAt (kst c (4 * i)).1 i)[j]? = some x ∧ (kst c (4 * i + j)).1[k]? = some y ∧ k = (i + 1) * 4 + j ∧ kx (tIn c i j) x = tIn c i (j + 1) ∧ (kst c (4 * i + j)).1.set k (tIn c i (j + 1)) = (kst c (4 * i + (j + 1))).1 := by
  have hl := kst_len hc (4 * i)
  have hl2 := kst_len hc (4 * i + j)
  have hx : (kst c (4 * i)).1[4 * i + j]? = some ((kst c (4 * i)).1.getD (4 * i + j) 0#32) := getD_some (by rw [hl]; omega) _
  have hw : (kst c (4 * i + j)).1.getD (4 * i + j) 0#32 = (kst c (4 * i)).1.getD (4 * i + j) 0#32 := by
    rw [List.getD_eq_getElem?_getD, List.getD_eq_getElem?_getD, kst_row c i j hj j]
  have ht : tIn c i (j + 1) = kx (tIn c i j) ((kst c (4 * i)).1.getD (4 * i + j) 0#32) := by
    show (if j + 1 = 0 then _ else (kst c (4 * i + (j + 1))).2) = _
    rw [if_neg (by omega), ← Nat.add_assoc, kst]
    simp only []
    rw [hw]
    congr 1
    unfold tIn
    by_cases h0 : j = 0
    · subst h0
      rw [if_pos (by omega), if_pos rfl, show (4 * i + 0) / 4 = i by omega]
      rfl
    · rw [if_neg (by omega), if_neg h0]
  refine ⟨_, _, (i + 1) * 4 + j, ?_, getD_some (by rw [hl2]; omega) 0#32, rfl, ht.symm, ?_⟩
  · rw [keyAt, List.getElem?_take, if_pos hj, List.getElem?_drop, Nat.mul_comm i 4]
    exact hx
  · rw [← Nat.add_assoc, kst]
    simp only []
    have he : tIn c i (j + 1) = (kst c (4 * i + j + 1)).2 := by
      unfold tIn
      rw [if_neg (by omega)]
      rfl
    rw [he, kst]
    simp only []
    congr 1
    omega
/-- The key's words. -/
def kyW (c : List (BitVec 32)) : List (BitVec 32) := (kst c 40).1
theorem kyW_len {c : List (BitVec 32)} (hc : c.length = 4) : (kyW c).length = 44 := kst_len hc 40
theorem kst_hd {c : List (BitVec 32)} (hc : c.length = 4) : (u32s z44).take 0 ++ u32s c ++ (u32s z44).drop (0 + (u32s c).length) = u32s (kst c 0).1 := by
  rw [u32s_len, hc, kst]
  simp [kis, zi, z44]
attribute [local irreducible] keyAt
set_option maxRecDepth 20000 in
set_option maxHeartbeats 4000000 in
theorem kof_any (key : List UInt8) (w : World) (hl : key.length = 16) (hq : Sqr w) :
    Calls Tryd.prog 15 #[.agg (bys key).toArray] w fun e w' => e = .returned (.agg (u32s (kyW (colsW key))).toArray) ∧ Kp0 w w' := by
  obtain ⟨c, hc⟩ : ∃ c, c = colsW key := ⟨_, rfl⟩
  have hc4 : c.length = 4 := by rw [hc]; exact colsW_len hl
  have HC := Lib.hid hc
  have HC4 := Lib.hid hc4
  have HL := Lib.hid hl
  have HQ := Lib.hid hq
  have HHD := Lib.hid (kst_hd hc4)
  have HKEY : Hid (∀ m i, i < 11 → (keyAt (kst c m).1 i).length = 4 ∧ u32s (keyAt (kst c m).1 i) = ((u32s (kst c m).1).drop (i * 4)).take (u32s (keyAt (kst c m).1 i)).length) := Lib.hid (fun m i hi => keyAt_ok (kst_len hc4 m) i hi)
  have HST := Lib.hid (k_step hc4)
  have HT0 : Hid (∀ i, i < 10 → ∃ x, (kst c (4 * i)).1[i * 4 + 3]? = some x ∧ tIn c i 0 = rt3 x (pwF i)) := Lib.hid (by
    intro i hi
    refine ⟨_, getD_some (by rw [kst_len hc4]; omega) 0#32, ?_⟩
    unfold tIn
    rw [if_pos rfl, Nat.mul_comm i 4])
  have HLEN : Hid (∀ m, (kst c m).1.length = 44) := Lib.hid (kst_len hc4)
  rw [← hc, show kyW c = (kst c (4 * 10)).1 from rfl]
  obtain ⟨F, hF⟩ : ∃ F : Nat → List (BitVec 32), F = fun m => (kst c m).1 := ⟨_, rfl⟩
  have hFm : ∀ m, (kst c m).1 = F m := by rw [hF]; intro m; rfl
  simp only [hFm] at HHD HKEY HST HT0 HLEN ⊢
  clear hc hc4 hl hq hF hFm
  go_enter Tryd.func15, Tryd.ntmps15
  go_upto_region 2 with (fail)
  have HR := Lib.hid (rows3 w 23 (bys key) 44 (u32s z44) 44 (u32s z44))
  change Code.wp _ _ _ _ (((w.alloc (.cells (bys key).toArray 23)).alloc (.cells (u32s z44).toArray 44)).alloc (.cells (u32s z44).toArray 44))
  generalize (((w.alloc (.cells (bys key).toArray 23)).alloc (.cells (u32s z44).toArray 44)).alloc (.cells (u32s z44).toArray 44)) = w1 at HR
  go_upto_region 3 with (first
    | (refine wl_load_blk rfl 23 (.tmp 1) rfl (w.heap.size) _ (bys key) rfl (HR.out.blk 0 rfl rfl) _ Tryd.underlying23 rfl (info16 HL.out) ?_)
    | (go_at_call 16; refine (bof_any key _ HL.out).mono ?_; rintro e y1 ⟨rfl, hk⟩; rw [← HC.out]; have HR1 := Lib.hid (HR.out.kp0 hk); clear hk)
    | (refine wl_store_part rfl 43 (.tmp 11) (.tmp 10) rfl (w.heap.size + 1 + 1) 0 _ (u32s z44) (u32s c) rfl rfl (HR1.out.blk 2 rfl rfl) (infoBk HC4.out) (by rw [u32s_len, u32s_len, HC4.out]; decide) (kis_ones _ _) ?_
       intro w7 hA7 hK7
       rw [HHD.out] at hA7
       have HR2 := Lib.hid (HR1.out.store 2 rfl (g := w.heap.size + 1 + 1) rfl hA7 hK7)
       clear hA7 hK7))
  go_wp2
  go_loopg [4, 12] 10 (fun g p i wr => ∃ (n : Nat), p = .int .u64 ((pwF n).toNat : Int) ∧ i = .int .i64 n ∧ n ≤ 10 ∧ g = 10 - n ∧ Rows' w wr [(23, bys key), (44, u32s z44), (44, u32s (F (4 * n)))])
  case atStart => exact ⟨0, rfl, rfl, by omega, rfl, HR2.out⟩
  case round =>
    obtain ⟨n, rfl, rfl, hn, rfl, hr⟩ := hrel
    have HR3 := Lib.hid hr
    clear hr HR HR1 HR2
    obtain ⟨p, hp⟩ : ∃ p, p = pwF n := ⟨_, rfl⟩
    rw [← hp]
    have HP := Lib.hid hp
    clear hp
    by_cases h : n < 10
    · obtain ⟨x, hx1, hx2⟩ := HT0.out n h
      rw [← HP.out] at hx2
      have HT1 := Lib.hid hx2
      have hc1 := (HR3.out.blk 2 rfl (g := w.heap.size + 1 + 1) rfl).cellV (n * 4 + 3) (u32s_get hx1)
      have hn10 : (n : Int) < 10 := by omega
      have hn11 : (n : Int) < 11 := by omega
      have v1 := rt1_val x
      have v2 := rt2_val x p
      have v3 := rt3_val x p
      have HN := Lib.hid h
      clear hx1 hx2 h
      go_upto_region 9 with (first
        | (go_at_call 22; refine (rot_int _ _ _ (by decide)).mono ?_; rintro e w2 ⟨rfl, hk⟩; have HR4 := Lib.hid (HR3.out.kp0 hk); clear hk)
        | (go_at_call 23; refine (ot_any _ _ (HQ.out.kp0 HR4.out.kp)).mono ?_; rintro e w3 ⟨rfl, hk⟩; have HR5 := Lib.hid (HR4.out.kp0 hk); clear hk))
      rw [v3, ← HT1.out]
      clear v1 v2 v3 hc1 HR3 HR4
      go_upto_region 10 with (refine wpList_load_mid rfl 43 (.tmp 27) rfl (w.heap.size + 1 + 1) (n * 4) rfl (u32s (keyAt (F (4 * n)) n)) _ ((HR5.out.blk 2 rfl rfl).part (n * 4) (HKEY.out (4 * n) n (by omega)).2) Tryd.underlying43 rfl (infoBk (HKEY.out (4 * n) n (by omega)).1) ?_)
      go_loopg [6, 29] 4 (fun g t j wr => ∃ (m : Nat), t = .int .u32 ((tIn c n m).toNat : Int) ∧ j = .int .i64 m ∧ m ≤ 4 ∧ g = 4 - m ∧ Rows' w wr [(23, bys key), (44, u32s z44), (44, u32s (F (4 * n + m)))])
      case atStart => exact ⟨0, rfl, rfl, by omega, rfl, HR5.out⟩
      case round =>
        obtain ⟨m, rfl, rfl, hm, rfl, hr⟩ := hrel
        have HR6 := Lib.hid hr
        clear hr HR5
        obtain ⟨t, ht⟩ : ∃ t, t = tIn c n m := ⟨_, rfl⟩
        rw [← ht]
        have HTT := Lib.hid ht
        clear ht
        by_cases h : m < 4
        · obtain ⟨x2, y, k, h1, h2, h3, h4, h5⟩ := HST.out n m HN.out h
          rw [← HTT.out] at h4
          rw [← h4] at h5
          have hix := bk_index h1 h wr
          have hc1 := (HR6.out.blk 2 rfl (g := w.heap.size + 1 + 1) rfl).cellV k (u32s_get h2)
          have hf1 := blk_frozen (HR6.out.blk 2 rfl (g := w.heap.size + 1 + 1) rfl) k
          rw [h3] at hc1 hf1
          have hn11' : (n : Int) + 1 < 11 := by omega
          have hn0' : 0 ≤ (n : Int) + 1 := by omega
          have hm4' : (m : Int) < 4 := by omega
          have vk := kx_val t x2
          have H4 := Lib.hid h4
          have H5 := Lib.hid h5
          have H3 := Lib.hid h3
          clear h1 h2 h3 h4 h5
          go_wp2
          go_roundg (4 - (m + 1))
          case measure => omega
          case rel =>
            refine ⟨m + 1, by rw [H4.out], by go_num, by omega, rfl, ?_⟩
            have hs := HR6.out.set 2 rfl k (.int .u32 ((kx t x2).toNat : Int)) (g := w.heap.size + 1 + 1) rfl
            rw [u32s_set, H5.out] at hs
            rw [← H3.out]
            exact hs
        · obtain rfl : m = 4 := by omega
          have HR7 : Hid (Rows' w wr [(23, bys key), (44, u32s z44), (44, u32s (F (4 * (n + 1))))]) := Lib.hid HR6.out
          clear h HR6 hm
          go_upto_region 15 with (fail)
          go_wp2_with (go_at_call 24; refine (twice_any _ _).mono ?_; rintro e w8 ⟨rfl, hk⟩; have HR8 := Lib.hid (HR7.out.kp0 hk); clear hk)
          have HNo := HN.out
          go_roundg (10 - (n + 1))
          case measure => omega
          case rel => exact ⟨n + 1, by rw [pwF, ← HP.out], by go_num, by omega, rfl, HR8.out⟩
    · obtain rfl : n = 10 := by omega
      obtain ⟨rs, hrs⟩ : ∃ rs, rs = F (4 * 10) := ⟨_, rfl⟩
      have HXL : Hid (rs.length = 44) := Lib.hid (by rw [hrs]; exact HLEN.out _)
      have HR4 : Hid (Rows' w _ [(23, bys key), (44, u32s z44), (44, u32s rs)]) := Lib.hid (by rw [hrs]; exact HR3.out)
      have HE := Lib.hid hrs
      clear HST HT0 HKEY HHD hrs HR3 h hn
      go_wp2_with (first
        | (refine wl_load_blk rfl 44 (.tmp 3) rfl (w.heap.size + 1 + 1) _ _ rfl (HR4.out.blk 2 rfl rfl) _ Tryd.underlying44 rfl (info11 HXL.out) ?_)
        | (refine wl_store_blk rfl 44 (.tmp 2) (.tmp 46) rfl (w.heap.size + 1) _ _ (u32s rs) rfl rfl (HR4.out.blk 1 rfl rfl) (info11 HXL.out) (len_of (T := 44) (info11 (ks := z44) rfl) (info11 HXL.out)) (kis_ones _ _) ?_
           intro w7 hA7 hK7
           have HA7 := Lib.hid hA7
           have HK7 := Lib.hid hK7
           clear hA7 hK7))
      refine ret_blk 2 44 44 (w.heap.size + 1) (u32s rs) _ rfl rfl HA7.out Tryd.underlying44 rfl (info11 HXL.out) rfl ?_
      exact ⟨by rw [HE.out], HR4.out.kp.trans HK7.out (fun _ _ h => h) (fun i hi e => by omega)⟩
end Go.Proofs.YtomlednobmaaeaaDoor
