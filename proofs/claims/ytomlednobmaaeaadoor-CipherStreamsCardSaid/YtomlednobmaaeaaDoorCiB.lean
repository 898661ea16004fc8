/- Package cipher: blocks. -/
import Derived.Test.YtomlednobmaaeaaDoorCiA
import Derived.Test.YtomlednobmaaeaaDoorRw
namespace Go.Proofs.YtomlednobmaaeaaDoor
open Go Go.RowKit
def zi {m : Nat} (cs : List (BitVec m)) : List Int := cs.map fun c => (c.toNat : Int)
theorem zi_len {m : Nat} (cs : List (BitVec m)) : (zi cs).length = cs.length := by simp [zi]
theorem zi_get {m : Nat} {cs : List (BitVec m)} {n : Nat} {c : BitVec m} (h : cs[n]? = some c) : (zi cs)[n]? = some (c.toNat : Int) := by simp [zi, h]
theorem zi_set {m : Nat} (cs : List (BitVec m)) (n : Nat) (c : BitVec m) : (zi cs).set n (c.toNat : Int) = zi (cs.set n c) := by simp [zi, List.map_set]
abbrev u32s (cs : List (BitVec 32)) : List Value := kis .u32 (zi cs)
theorem u32s_get {cs : List (BitVec 32)} {n : Nat} {c : BitVec 32} (h : cs[n]? = some c) : (u32s cs)[n]? = some (.int .u32 (c.toNat : Int)) := kis_get (zi_get h)
theorem u32s_set (cs : List (BitVec 32)) (n : Nat) (c : BitVec 32) : (u32s cs).set n (.int .u32 (c.toNat : Int)) = u32s (cs.set n c) := by rw [kis_set, zi_set]
theorem u32s_len (cs : List (BitVec 32)) : (u32s cs).length = cs.length := by rw [kis_len, zi_len]
theorem infoBk {cs : List (BitVec 32)} (h : cs.length = 4) : (Tryd.prog.info? 43).map (·.size) = some (u32s cs).length := by
  rw [u32s_len, h]; kernel_rfl
def z4 : List (BitVec 32) := [0#32, 0#32, 0#32, 0#32]
/-- The first n of m, the others of l. -/
def upT {α : Type} (n : Nat) (l m : List α) : List α := m.take n ++ l.drop n
theorem upT_step {α : Type} {l m : List α} {n : Nat} {x y : α} (h : l.length = m.length) (hl : l[n]? = some x) (hm : m[n]? = some y) : (upT n l m)[n]? = some x ∧ (upT n l m).set n y = upT (n + 1) l m := by
  obtain ⟨hn, rfl⟩ := List.getElem?_eq_some_iff.1 hl
  obtain ⟨hn2, rfl⟩ := List.getElem?_eq_some_iff.1 hm
  have h1 : (m.take n).length = n := by rw [List.length_take]; omega
  constructor
  · rw [upT, List.getElem?_append_right (by omega), h1, Nat.sub_self, List.drop_eq_getElem_cons hn]
    rfl
  · rw [upT, List.set_append_right _ _ (by omega), h1, Nat.sub_self, List.drop_eq_getElem_cons hn, List.set_cons_zero, upT, List.take_succ_eq_append_getElem (by omega), List.append_assoc, List.singleton_append]
theorem upT_zero {α : Type} (l m : List α) : upT 0 l m = l := by simp [upT]
theorem upT_all {α : Type} {l m : List α} {n : Nat} (h : l.length ≤ n) (h2 : m.length ≤ n) : upT n l m = m := by
  rw [upT, List.take_of_length_le h2, List.drop_eq_nil_of_le h, List.append_nil]
def xorW (cs ks : List (BitVec 32)) : List (BitVec 32) := List.zipWith (· ^^^ ·) cs ks
set_option maxRecDepth 20000 in
set_option maxHeartbeats 4000000 in
theorem bxor_any (cs ks : List (BitVec 32)) (w : World) (hc : cs.length = 4) (hk : ks.length = 4) :
    Calls Tryd.prog 25 #[.agg (u32s cs).toArray, .agg (u32s ks).toArray] w fun e w' => e = .returned (.agg (u32s (xorW cs ks)).toArray) ∧ Kp0 w w' := by
  have HX : Hid ((xorW cs ks).length = 4) := Lib.hid (by simp [xorW, hc, hk])
  have HS : Hid (∀ n, n < 4 → ∃ x y, (upT n cs (xorW cs ks))[n]? = some x ∧ ks[n]? = some y ∧ (upT n cs (xorW cs ks)).set n (x ^^^ y) = upT (n + 1) cs (xorW cs ks)) := Lib.hid (by
    intro n hn
    have h1 : cs[n]? = some (cs[n]'(by omega)) := List.getElem?_eq_getElem _
    have h2 : ks[n]? = some (ks[n]'(by omega)) := List.getElem?_eq_getElem _
    have h3 : (xorW cs ks)[n]? = some (cs[n]'(by omega) ^^^ ks[n]'(by omega)) := by simp [xorW, List.getElem?_zipWith, h1, h2]
    have := upT_step (l := cs) (m := xorW cs ks) (by rw [HX.out, hc]) h1 h3
    exact ⟨_, _, this.1, h2, this.2⟩)
  have HC := Lib.hid hc
  have HKs := Lib.hid hk
  obtain ⟨rs, hrs⟩ : ∃ rs, rs = xorW cs ks := ⟨_, rfl⟩
  rw [← hrs] at HX HS ⊢
  clear hc hk hrs
  go_enter Tryd.func25, Tryd.ntmps25
  go_upto_region 1 with (fail)
  have HR := Lib.hid (rows3 w 43 (u32s cs) 43 (u32s ks) 43 (u32s z4))
  change Code.wp _ _ _ _ (((w.alloc (.cells (u32s cs).toArray 43)).alloc (.cells (u32s ks).toArray 43)).alloc (.cells (u32s z4).toArray 43))
  generalize (((w.alloc (.cells (u32s cs).toArray 43)).alloc (.cells (u32s ks).toArray 43)).alloc (.cells (u32s z4).toArray 43)) = w1 at HR
  go_wp2
  go_loopg [6] 4 (fun g i wr => ∃ (n : Nat), i = .int .i64 n ∧ n ≤ 4 ∧ g = 4 - n ∧ Rows' w wr [(43, u32s (upT n cs rs)), (43, u32s ks), (43, u32s z4)])
  case atStart => exact ⟨0, rfl, by omega, rfl, by rw [upT_zero]; exact HR.out⟩
  case round =>
    obtain ⟨n, rfl, hn, rfl, hr⟩ := hrel
    have HR1 := Lib.hid hr
    clear hr HR
    by_cases h : n < 4
    · obtain ⟨x, y, h1, h2, h3⟩ := HS.out n h
      have hc1 := (HR1.out.blk 0 rfl (g := w.heap.size) rfl).cellV n (u32s_get h1)
      have hf1 := blk_frozen (HR1.out.blk 0 rfl (g := w.heap.size) rfl) n
      have hc2 := (HR1.out.blk 1 rfl (g := w.heap.size + 1) rfl).cellV n (u32s_get h2)
      have H3 := Lib.hid h3
      clear h1 h2 h3
      go_upto_region 4 with (fail)
      go_region
      go_wp2
      go_roundg (4 - (n + 1))
      case measure => omega
      case rel =>
        refine ⟨n + 1, by go_num, by omega, rfl, ?_⟩
        have hs := HR1.out.drew.set 0 rfl n (.int .u32 ((x ^^^ y).toNat : Int)) (g := w.heap.size) rfl
        rw [f32_xor]
        rw [u32s_set, H3.out] at hs
        exact hs
    · obtain rfl : n = 4 := by omega
      rw [upT_all (by rw [HC.out]; exact Nat.le_refl _) (by rw [HX.out]; exact Nat.le_refl _)] at HR1
      go_wp2_with (first
        | (refine wl_load_blk rfl 43 (.tmp 2) rfl (w.heap.size) _ _ rfl (HR1.out.blk 0 rfl rfl) _ Tryd.underlying43 rfl (infoBk HX.out) ?_)
        | (refine wl_store_blk rfl 43 (.tmp 4) (.tmp 18) rfl (w.heap.size + 1 + 1) _ _ (u32s rs) rfl rfl (HR1.out.blk 2 rfl rfl) (infoBk HX.out) (len_of (T := 43) (infoBk (cs := z4) rfl) (infoBk HX.out)) (kis_ones _ _) ?_
           intro w7 hA7 hK7
           have HA7 := Lib.hid hA7
           have HK7 := Lib.hid hK7
           clear hA7 hK7))
      refine ret_blk 4 43 43 (w.heap.size + 1 + 1) (u32s rs) _ rfl rfl HA7.out Tryd.underlying43 rfl (infoBk HX.out) rfl ?_
      exact ⟨rfl, HR1.out.kp.trans HK7.out (fun _ _ h => h) (fun i hi e => by omega)⟩
end Go.Proofs.YtomlednobmaaeaaDoor
