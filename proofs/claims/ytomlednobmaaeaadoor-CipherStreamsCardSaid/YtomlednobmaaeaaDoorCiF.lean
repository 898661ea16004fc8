/- Package cipher: the counter and one. -/
import Derived.Test.YtomlednobmaaeaaDoorCiE
namespace Go.Proofs.YtomlednobmaaeaaDoor
open Go Go.RowKit
/-- One more, of the first k bytes, the highest first. -/
def incAt (l : List UInt8) : Nat → List UInt8
  | 0 => l
  | k + 1 => if l.getD k 0 + 1 = 0 then incAt (l.set k 0) k else l.set k (l.getD k 0 + 1)
theorem incAt_len (l : List UInt8) : ∀ k, (incAt l k).length = l.length := by
  intro k
  induction k generalizing l with
  | zero => rfl
  | succ k ih =>
    rw [incAt]
    split
    · rw [ih, List.length_set]
    · rw [List.length_set]
def incB (l : List UInt8) : List UInt8 := incAt l 16
theorem incB_len (l : List UInt8) : (incB l).length = l.length := incAt_len l 16
theorem u8_succ (x : UInt8) : (x.toNat + 1 : Int) % 256 = ((x + 1).toNat : Int) := by
  rw [UInt8.toNat_add, Int.natCast_emod]
  rfl
theorem u8_ne {x : UInt8} (h : x ≠ 0) : ((x.toNat : Int) != 0) = true := by
  rw [bne_iff_ne]
  intro e
  apply h
  apply UInt8.toNat_inj.1
  show x.toNat = 0
  omega
theorem inc_step {cur rs : List UInt8} {k : Nat} (hl : cur.length = 16) (hk : k + 1 ≤ 16) (h : incAt cur (k + 1) = rs) :
    ∃ x y : UInt8, cur[k]? = some x ∧ (x.toNat + 1 : Int) % 256 = (y.toNat : Int) ∧ (y = 0 → incAt (cur.set k 0) k = rs) ∧ (y ≠ 0 → cur.set k y = rs) := by
  refine ⟨_, cur.getD k 0 + 1, getD_some (by omega) 0, u8_succ _, fun hy => ?_, fun hy => ?_⟩
  · rw [← h, incAt, if_pos hy]
  · rw [← h, incAt, if_neg hy]
set_option maxRecDepth 20000 in
set_option maxHeartbeats 4000000 in
theorem one_any (l : List UInt8) (w : World) (hl : l.length = 16) :
    Calls Tryd.prog 29 #[.agg (bys l).toArray] w fun e w' => e = .returned (.agg (bys (incB l)).toArray) ∧ Kp0 w w' := by
  obtain ⟨rs, hrs⟩ : ∃ rs, rs = incB l := ⟨_, rfl⟩
  have HX : Hid (rs.length = 16) := Lib.hid (by rw [hrs, incB_len, hl])
  have H0 : Hid (l.length = 16 ∧ incAt l 16 = rs) := Lib.hid ⟨hl, by rw [hrs]; rfl⟩
  rw [← hrs]
  clear hl hrs
  go_enter Tryd.func29, Tryd.ntmps29
  go_upto_region 1 with (fail)
  have HR := Lib.hid (rows2 w 23 (bys l) 23 (bys z16))
  change Code.wp _ _ _ _ ((w.alloc (.cells (bys l).toArray 23)).alloc (.cells (bys z16).toArray 23))
  generalize ((w.alloc (.cells (bys l).toArray 23)).alloc (.cells (bys z16).toArray 23)) = w1 at HR
  go_wp2
  go_loopg [3] 16 (fun g i wr => ∃ (k : Nat) (cur : List UInt8), i = .int .i64 ((k : Int) - 1) ∧ k ≤ 16 ∧ g = k ∧ (cur.length = 16 ∧ incAt cur k = rs) ∧ Rows' w wr [(23, bys cur), (23, bys z16)])
  case atStart => exact ⟨16, l, rfl, by omega, rfl, H0.out, HR.out⟩
  case round =>
    obtain ⟨k, cur, rfl, hk, rfl, hcur, hr⟩ := hrel
    have HR1 := Lib.hid hr
    have HC := Lib.hid hcur
    clear hr HR H0 hcur
    cases gk with
    | succ m =>
      obtain ⟨x, y, h1, h2, h3, h4⟩ := inc_step HC.out.1 hk HC.out.2
      have hm : (((m + 1 : Nat) : Int) - 1) = (m : Int) := by omega
      rw [hm]
      have hm16 : (m : Int) < 16 := by omega
      have hc1 := (HR1.out.blk 0 rfl (g := w.heap.size) rfl).cellV m (bys_getV h1)
      have hf1 := blk_frozen (HR1.out.blk 0 rfl (g := w.heap.size) rfl) m
      have HM := Lib.hid hk
      clear h1 hm hk
      by_cases hy : y = 0
      · have H3 := Lib.hid (h3 hy)
        clear h3 h4
        subst hy
        rw [show (((0 : UInt8).toNat : Nat) : Int) = 0 from rfl] at h2
        go_wp2
        go_roundg m
        case measure => omega
        case rel =>
          have HMo := HM.out
          refine ⟨m, cur.set m 0, rfl, by omega, rfl, ⟨by rw [List.length_set]; exact HC.out.1, H3.out⟩, ?_⟩
          have hs := HR1.out.set 0 rfl m (.int .u8 (((0 : UInt8).toNat : Nat) : Int)) (g := w.heap.size) rfl
          rw [bys_setV] at hs
          exact hs
      · have H4 := Lib.hid (h4 hy)
        have hne := u8_ne hy
        clear h3 h4 hy
        have HR2 : Hid (Rows' w (wr.setCell ⟨w.heap.size, m, none⟩ (.int .u8 (y.toNat : Int))) [(23, bys rs), (23, bys z16)]) := Lib.hid (by
          have hs := HR1.out.set 0 rfl m (.int .u8 (y.toNat : Int)) (g := w.heap.size) rfl
          rw [bys_setV, H4.out] at hs
          exact hs)
        go_wp2_with (first
          | (refine wl_load_blk rfl 23 (.tmp 1) rfl (w.heap.size) _ _ rfl (HR2.out.blk 0 rfl rfl) _ Tryd.underlying23 rfl (info16 HX.out) ?_)
          | (refine wl_store_blk rfl 23 (.tmp 2) (.tmp 17) rfl (w.heap.size + 1) _ _ (bys rs) rfl rfl (HR2.out.blk 1 rfl rfl) (info16 HX.out) (len_of (T := 23) (info16 (l := z16) rfl) (info16 HX.out)) (bys_onesV _) ?_
             intro w7 hA7 hK7
             have HA7 := Lib.hid hA7
             have HK7 := Lib.hid hK7
             clear hA7 hK7))
        refine ret_blk 2 23 23 (w.heap.size + 1) (bys rs) _ rfl rfl HA7.out Tryd.underlying23 rfl (info16 HX.out) rfl ?_
        exact ⟨rfl, HR2.out.kp.trans HK7.out (fun _ _ h => h) (fun i hi e => by omega)⟩
    | zero =>
      have HR2 : Hid (Rows' w wr [(23, bys rs), (23, bys z16)]) := Lib.hid (by rw [← HC.out.2]; exact HR1.out)
      clear HR1 HC
      go_wp2_with (first
        | (refine wl_load_blk rfl 23 (.tmp 1) rfl (w.heap.size) _ _ rfl (HR2.out.blk 0 rfl rfl) _ Tryd.underlying23 rfl (info16 HX.out) ?_)
        | (refine wl_store_blk rfl 23 (.tmp 2) (.tmp 17) rfl (w.heap.size + 1) _ _ (bys rs) rfl rfl (HR2.out.blk 1 rfl rfl) (info16 HX.out) (len_of (T := 23) (info16 (l := z16) rfl) (info16 HX.out)) (bys_onesV _) ?_
           intro w7 hA7 hK7
           have HA7 := Lib.hid hA7
           have HK7 := Lib.hid hK7
           clear hA7 hK7))
      refine ret_blk 2 23 23 (w.heap.size + 1) (bys rs) _ rfl rfl HA7.out Tryd.underlying23 rfl (info16 HX.out) rfl ?_
      exact ⟨rfl, HR2.out.kp.trans HK7.out (fun _ _ h => h) (fun i hi e => by omega)⟩
end Go.Proofs.YtomlednobmaaeaaDoor
