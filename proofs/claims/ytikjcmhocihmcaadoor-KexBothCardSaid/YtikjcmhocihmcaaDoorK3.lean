/- Package digest: the small hash, its words turned. Package digest: a number in eight bytes; what follows a text. Package digest: the small hash, the words of a block. -/
import Derived.Test.YtikjcmhocihmcaaDoorChecked
import Derived.Test.YtikjcmhocihmcaaDoorK2
import Derived.Test.YtikjcmhocihmcaaDoorK1
import Derived.BigRegion
import Derived.Deep.DeepCutAuto
import Derived.Deep.LoopGhost
import Derived.Lib.Hide
namespace Go.Proofs.YtikjcmhocihmcaaDoor
open Go Go.RowKit
/-- Words of 32 bits as values. -/
def w32 (l : List (BitVec 32)) : List Value := l.map fun x => .int .u32 (x.toNat : Int)
theorem w32_len (l : List (BitVec 32)) : (w32 l).length = l.length := by simp [w32]
theorem w32_get {l : List (BitVec 32)} {n : Nat} {x : BitVec 32} (h : l[n]? = some x) : (w32 l)[n]? = some (.int .u32 (x.toNat : Int)) := by simp [w32, h]
theorem w32_set (l : List (BitVec 32)) (n : Nat) (x : BitVec 32) : (w32 l).set n (.int .u32 (x.toNat : Int)) = w32 (l.set n x) := by simp [w32, List.map_set]
theorem w32_ones (l : List (BitVec 32)) : Ones (w32 l) := by
  intro v hv
  simp only [w32, List.mem_map] at hv
  obtain ⟨x, _, rfl⟩ := hv
  rfl
theorem f32_com (a : BitVec 32) : bits .xor .u32 (if IntKind.u32.signed = true then -1 else IntKind.u32.max) (a.toNat : Int) = ((~~~a).toNat : Int) := by
  have h : (if IntKind.u32.signed = true then -1 else IntKind.u32.max) = (((BitVec.allOnes 32).toNat : Nat) : Int) := by decide
  rw [h, f32_xor, BitVec.allOnes_xor]
theorem rr32_val (x : BitVec 32) (n : Nat) {a b : Int} (ha : a = ((2 ^ (32 - n) : Nat) : Int)) (hb : b = ((2 ^ n : Nat) : Int)) :
    bits .or .u32 (IntKind.u32.wrap (x.toNat * a)) (x.toNat / b) = ((rr x n).toNat : Int) := by
  rw [f_shr x n hb, f32_shl x (32 - n) (by rw [ha]), f32_or]
  unfold rr
  rw [BitVec.or_comm]
attribute [local irreducible] rr
set_option maxRecDepth 20000 in
set_option maxHeartbeats 4000000 in
theorem rs7_any (x : BitVec 32) (w : World) :
    Calls Tryd.prog 101 #[.int .u32 (x.toNat : Int), .int .i64 (-7)] w fun e w' => e = .returned (.int .u32 ((rr x 7).toNat : Int)) ∧ Kp0 w w' := by
  rw [← rr32_val x 7 (a := 33554432) (b := 128) (by decide) (by decide)]
  have hb : bits .and .u64 (IntKind.u64.wrap (-7)) 31 = 25 := by decide
  go_enter Tryd.func101, Tryd.ntmps101
  go_wp2
  go_ret
  exact ⟨rfl, Kp.refl _ _⟩
set_option maxRecDepth 20000 in
set_option maxHeartbeats 4000000 in
theorem rs18_any (x : BitVec 32) (w : World) :
    Calls Tryd.prog 101 #[.int .u32 (x.toNat : Int), .int .i64 (-18)] w fun e w' => e = .returned (.int .u32 ((rr x 18).toNat : Int)) ∧ Kp0 w w' := by
  rw [← rr32_val x 18 (a := 16384) (b := 262144) (by decide) (by decide)]
  have hb : bits .and .u64 (IntKind.u64.wrap (-18)) 31 = 14 := by decide
  go_enter Tryd.func101, Tryd.ntmps101
  go_wp2
  go_ret
  exact ⟨rfl, Kp.refl _ _⟩
set_option maxRecDepth 20000 in
set_option maxHeartbeats 4000000 in
theorem rs17_any (x : BitVec 32) (w : World) :
    Calls Tryd.prog 101 #[.int .u32 (x.toNat : Int), .int .i64 (-17)] w fun e w' => e = .returned (.int .u32 ((rr x 17).toNat : Int)) ∧ Kp0 w w' := by
  rw [← rr32_val x 17 (a := 32768) (b := 131072) (by decide) (by decide)]
  have hb : bits .and .u64 (IntKind.u64.wrap (-17)) 31 = 15 := by decide
  go_enter Tryd.func101, Tryd.ntmps101
  go_wp2
  go_ret
  exact ⟨rfl, Kp.refl _ _⟩
set_option maxRecDepth 20000 in
set_option maxHeartbeats 4000000 in
theorem rs19_any (x : BitVec 32) (w : World) :
    Calls Tryd.prog 101 #[.int .u32 (x.toNat : Int), .int .i64 (-19)] w fun e w' => e = .returned (.int .u32 ((rr x 19).toNat : Int)) ∧ Kp0 w w' := by
  rw [← rr32_val x 19 (a := 8192) (b := 524288) (by decide) (by decide)]
  have hb : bits .and .u64 (IntKind.u64.wrap (-19)) 31 = 13 := by decide
  go_enter Tryd.func101, Tryd.ntmps101
  go_wp2
  go_ret
  exact ⟨rfl, Kp.refl _ _⟩
set_option maxRecDepth 20000 in
set_option maxHeartbeats 4000000 in
theorem rs6_any (x : BitVec 32) (w : World) :
    Calls Tryd.prog 101 #[.int .u32 (x.toNat : Int), .int .i64 (-6)] w fun e w' => e = .returned (.int .u32 ((rr x 6).toNat : Int)) ∧ Kp0 w w' := by
  rw [← rr32_val x 6 (a := 67108864) (b := 64) (by decide) (by decide)]
  have hb : bits .and .u64 (IntKind.u64.wrap (-6)) 31 = 26 := by decide
  go_enter Tryd.func101, Tryd.ntmps101
  go_wp2
  go_ret
  exact ⟨rfl, Kp.refl _ _⟩
set_option maxRecDepth 20000 in
set_option maxHeartbeats 4000000 in
theorem rs11_any (x : BitVec 32) (w : World) :
    Calls Tryd.prog 101 #[.int .u32 (x.toNat : Int), .int .i64 (-11)] w fun e w' => e = .returned (.int .u32 ((rr x 11).toNat : Int)) ∧ Kp0 w w' := by
  rw [← rr32_val x 11 (a := 2097152) (b := 2048) (by decide) (by decide)]
  have hb : bits .and .u64 (IntKind.u64.wrap (-11)) 31 = 21 := by decide
  go_enter Tryd.func101, Tryd.ntmps101
  go_wp2
  go_ret
  exact ⟨rfl, Kp.refl _ _⟩
set_option maxRecDepth 20000 in
set_option maxHeartbeats 4000000 in
theorem rs25_any (x : BitVec 32) (w : World) :
    Calls Tryd.prog 101 #[.int .u32 (x.toNat : Int), .int .i64 (-25)] w fun e w' => e = .returned (.int .u32 ((rr x 25).toNat : Int)) ∧ Kp0 w w' := by
  rw [← rr32_val x 25 (a := 128) (b := 33554432) (by decide) (by decide)]
  have hb : bits .and .u64 (IntKind.u64.wrap (-25)) 31 = 7 := by decide
  go_enter Tryd.func101, Tryd.ntmps101
  go_wp2
  go_ret
  exact ⟨rfl, Kp.refl _ _⟩
set_option maxRecDepth 20000 in
set_option maxHeartbeats 4000000 in
theorem rs2_any (x : BitVec 32) (w : World) :
    Calls Tryd.prog 101 #[.int .u32 (x.toNat : Int), .int .i64 (-2)] w fun e w' => e = .returned (.int .u32 ((rr x 2).toNat : Int)) ∧ Kp0 w w' := by
  rw [← rr32_val x 2 (a := 1073741824) (b := 4) (by decide) (by decide)]
  have hb : bits .and .u64 (IntKind.u64.wrap (-2)) 31 = 30 := by decide
  go_enter Tryd.func101, Tryd.ntmps101
  go_wp2
  go_ret
  exact ⟨rfl, Kp.refl _ _⟩
set_option maxRecDepth 20000 in
set_option maxHeartbeats 4000000 in
theorem rs13_any (x : BitVec 32) (w : World) :
    Calls Tryd.prog 101 #[.int .u32 (x.toNat : Int), .int .i64 (-13)] w fun e w' => e = .returned (.int .u32 ((rr x 13).toNat : Int)) ∧ Kp0 w w' := by
  rw [← rr32_val x 13 (a := 524288) (b := 8192) (by decide) (by decide)]
  have hb : bits .and .u64 (IntKind.u64.wrap (-13)) 31 = 19 := by decide
  go_enter Tryd.func101, Tryd.ntmps101
  go_wp2
  go_ret
  exact ⟨rfl, Kp.refl _ _⟩
set_option maxRecDepth 20000 in
set_option maxHeartbeats 4000000 in
theorem rs22_any (x : BitVec 32) (w : World) :
    Calls Tryd.prog 101 #[.int .u32 (x.toNat : Int), .int .i64 (-22)] w fun e w' => e = .returned (.int .u32 ((rr x 22).toNat : Int)) ∧ Kp0 w w' := by
  rw [← rr32_val x 22 (a := 1024) (b := 4194304) (by decide) (by decide)]
  have hb : bits .and .u64 (IntKind.u64.wrap (-22)) 31 = 10 := by decide
  go_enter Tryd.func101, Tryd.ntmps101
  go_wp2
  go_ret
  exact ⟨rfl, Kp.refl _ _⟩
theorem rs_int (x : BitVec 32) (m : Int) (w : World) (hm : m = -7 ∨ m = -18 ∨ m = -17 ∨ m = -19 ∨ m = -6 ∨ m = -11 ∨ m = -25 ∨ m = -2 ∨ m = -13 ∨ m = -22) :
    Calls Tryd.prog 101 #[.int .u32 (x.toNat : Int), .int .i64 m] w fun e w' => e = .returned (.int .u32 ((rr x m.natAbs).toNat : Int)) ∧ Kp0 w w' := by
  rcases hm with rfl | rfl | rfl | rfl | rfl | rfl | rfl | rfl | rfl | rfl
  · exact rs7_any x w
  · exact rs18_any x w
  · exact rs17_any x w
  · exact rs19_any x w
  · exact rs6_any x w
  · exact rs11_any x w
  · exact rs25_any x w
  · exact rs2_any x w
  · exact rs13_any x w
  · exact rs22_any x w
end Go.Proofs.YtikjcmhocihmcaaDoor
namespace Go.Proofs.YtikjcmhocihmcaaDoor
open Go Go.RowKit
def zb8 : List UInt8 := List.replicate 8 0
theorem infoB8 {l : List UInt8} (h : l.length = 8) : (Tryd.prog.info? 95).map (·.size) = some (bys l).length := by
  rw [bys_len, h]
  kernel_rfl
theorem asB8 : AllocAs 95 (bys zb8) := by
  intro w ev op ho
  unfold execOp
  simp only [ho]
  kernel_rfl
theorem be8_len (n : Nat) : (be8 n).length = 8 := by simp [be8]
theorem be8_get (n : Nat) {i : Nat} (h : i < 8) : (be8 n)[i]? = some (UInt8.ofNat (n / 2 ^ (56 - 8 * i))) := by
  unfold be8
  rw [List.getElem?_map, List.getElem?_range h]
  rfl
set_option maxRecDepth 20000 in
set_option maxHeartbeats 4000000 in
theorem be_any (n : Nat) (w : World) (hn : n < 18446744073709551616) :
    Calls Tryd.prog 69 #[.int .u64 (n : Int)] w fun e w' => e = .returned (.agg (bys (be8 n)).toArray) ∧ Kp0 w w' := by
  have HST : Hid (∀ i, i < 8 → (upT i zb8 (be8 n))[i]? = some 0 ∧ (upT i zb8 (be8 n)).set i (UInt8.ofNat (n / 2 ^ (56 - 8 * i))) = upT (i + 1) zb8 (be8 n)) := Lib.hid (fun i hi => upT_step (l := zb8) (m := be8 n) (x := 0) (by rw [be8_len]; rfl) (by unfold zb8; rw [List.getElem?_replicate, if_pos hi]) (be8_get n hi))
  obtain ⟨L, hL⟩ : ∃ L, L = be8 n := ⟨_, rfl⟩
  have HLL : Hid (L.length = 8) := Lib.hid (by rw [hL, be8_len])
  rw [← hL] at HST ⊢
  clear hL
  go_enter Tryd.func69, Tryd.ntmps69
  go_upto_region 1 with (refine wl_alloc_as asB8 rfl rfl ?_
                         intro w1 g2 hw hg
                         have HB1 : Hid (Bks w w1 [(g2, 95, bys zb8)]) := Lib.hid (by rw [hw]; exact (Bks.nil w).push 95 (bys zb8) hg)
                         clear hw hg)
  go_upto_region 2 with (refine wl_alloc_as asB8 rfl rfl ?_
                         intro w2 g3 hw hg
                         have HB2 : Hid (Bks w w2 [(g2, 95, bys zb8), (g3, 95, bys zb8)]) := Lib.hid (by rw [hw]; exact HB1.out.push 95 (bys zb8) hg)
                         clear hw hg)
  simp only [Act.put]
  clear HB1
  go_wp2
  go_loopg [5] 8 (fun gg i wr => ∃ (k : Nat), i = .int .i64 k ∧ k ≤ 8 ∧ gg = 8 - k ∧ Bks w wr [(g2, 95, bys zb8), (g3, 95, bys (upT k zb8 L))])
  case atStart => exact ⟨0, rfl, by omega, rfl, by rw [upT_zero]; exact HB2.out⟩
  case round =>
    obtain ⟨k, rfl, hk, rfl, hr⟩ := hrel
    have HB3 := Lib.hid hr
    clear hr HB2
    by_cases h : k < 8
    · obtain ⟨s1, s2⟩ := HST.out k h
      have hc := (HB3.out.at 1 rfl).cellV k (bys_getV s1)
      have hf := blk_frozen (HB3.out.at 1 rfl) k
      obtain ⟨s, hs⟩ : ∃ s, s = 56 - 8 * k := ⟨_, rfl⟩
      rw [← hs] at s2
      obtain ⟨q, hq⟩ : ∃ q, q = n / 2 ^ s := ⟨_, rfl⟩
      have hqn : q ≤ n := by rw [hq]; exact Nat.div_le_self _ _
      have h8 : 8 * (k : Int) ≤ 56 := by omega
      have e1 : 56 - 8 * (k : Int) = (s : Int) := by omega
      have e2 : (n : Int) / 2 ^ s = (q : Int) := by rw [hq, Int.natCast_ediv, Int.natCast_pow]; rfl
      obtain ⟨y, hy⟩ : ∃ y, y = UInt8.ofNat q := ⟨_, rfl⟩
      have e3 : (q : Int) % 256 = (y.toNat : Int) := by rw [hy, UInt8.toNat_ofNat']; omega
      have hs64 : (s : Int) < 64 := by omega
      have hk8 : (k : Int) < 8 := by omega
      rw [← hq, ← hy] at s2
      have HS := Lib.hid s2
      have HK := Lib.hid h
      clear s1 s2 hs hq hy h
      go_wp2
      have hko := HK.out
      go_roundg (8 - (k + 1))
      case measure => omega
      case rel =>
        refine ⟨k + 1, by go_num, by omega, rfl, ?_⟩
        have hx := HB3.out.set 1 rfl k (.int .u8 (y.toNat : Int))
        rw [bys_setV, HS.out] at hx
        exact hx
    · obtain rfl : k = 8 := by omega
      rw [upT_all (by simp [zb8]) (by rw [HLL.out]; exact Nat.le_refl _)] at HB3
      clear h hk HST
      go_wp2_with (first
        | (refine wl_load_blk rfl 95 (.tmp 3) rfl g3 _ (bys L) rfl (HB3.out.at 1 rfl) _ Tryd.underlying95 rfl (infoB8 HLL.out) ?_)
        | (refine wl_store_blk rfl 95 (.tmp 2) (.tmp 17) rfl g2 _ (bys zb8) (bys L) rfl rfl (HB3.out.at 0 rfl) (infoB8 HLL.out) (len_of (T := 95) (infoB8 (l := zb8) rfl) (infoB8 HLL.out)) (bys_onesV _) ?_
           intro w8 hA8 hK8
           have HB8 := Lib.hid (HB3.out.store 0 rfl hA8 hK8)
           clear hA8 hK8))
      refine ret_blk 2 95 95 g2 (bys L) _ rfl rfl (HB8.out.at 0 rfl) Tryd.underlying95 rfl (infoB8 HLL.out) rfl ?_
      exact ⟨rfl, HB8.out.kp⟩
end Go.Proofs.YtikjcmhocihmcaaDoor
namespace Go.Proofs.YtikjcmhocihmcaaDoor
open Go Go.RowKit
/-- The words of the first n bytes. -/
def wFs (b : List UInt8) (n : Nat) : List (BitVec 32) := (List.range 64).map fun q => wdB 32 (((b.take n).drop (4 * q)).take 4)
theorem wF_lens (b : List UInt8) (n : Nat) : (wFs b n).length = 64 := by simp [wFs]
theorem wF_gets (b : List UInt8) (n q : Nat) (h : q < 64) : (wFs b n)[q]? = some (wdB 32 (((b.take n).drop (4 * q)).take 4)) := by
  unfold wFs
  rw [List.getElem?_map, List.getElem?_range h]
  rfl
theorem wdB_snocs (w : Nat) (l : List UInt8) (y : UInt8) : wdB w (l ++ [y]) = wdB w l <<< 8 ||| BitVec.ofNat w y.toNat := by
  unfold wdB
  rw [List.foldl_append]
  rfl
theorem part_gets (b : List UInt8) (n m j : Nat) : (((b.take n).drop m).take 4)[j]? = if j < 4 then (if m + j < n then b[m + j]? else none) else none := by
  rw [List.getElem?_take, List.getElem?_drop, List.getElem?_take]
theorem part_lens (b : List UInt8) (n m : Nat) : (((b.take n).drop m).take 4).length = min 4 (min n b.length - m) := by simp
theorem part_nexts {b : List UInt8} {n : Nat} {y : UInt8} (hy : b[n]? = some y) : ((b.take n).drop (4 * (n / 4))).take 4 ++ [y] = ((b.take (n + 1)).drop (4 * (n / 4))).take 4 := by
  have hn := (List.getElem?_eq_some_iff.1 hy).1
  apply List.ext_getElem?
  intro j
  have hl := part_lens b n (4 * (n / 4))
  rw [part_gets]
  by_cases h1 : j < n % 4
  · rw [List.getElem?_append_left (by omega), part_gets, if_pos (by omega), if_pos (by omega), if_pos (by omega), if_pos (by omega)]
  · rw [List.getElem?_append_right (by omega)]
    by_cases h2 : j = n % 4
    · rw [show j - _ = 0 by omega, if_pos (by omega), if_pos (by omega), show 4 * (n / 4) + j = n by omega, hy]
      rfl
    · rw [List.getElem?_eq_none (by simp; omega)]
      split
      · rw [if_neg (by omega)]
      · rfl
theorem part_sames (b : List UInt8) {n q : Nat} (h : n / 4 ≠ q) : ((b.take n).drop (4 * q)).take 4 = ((b.take (n + 1)).drop (4 * q)).take 4 := by
  apply List.ext_getElem?
  intro j
  rw [part_gets, part_gets]
  by_cases h1 : j < 4
  · rw [if_pos h1, if_pos h1]
    by_cases h2 : 4 * q + j < n
    · rw [if_pos h2, if_pos (by omega)]
    · rw [if_neg h2, if_neg (by omega)]
  · rw [if_neg h1, if_neg h1]
theorem wF_steps {b : List UInt8} (_ : b.length = 64) {n : Nat} (hn : n < 64) {y : UInt8} (hy : b[n]? = some y) :
    ∃ x, (wFs b n)[n / 4]? = some x ∧ (wFs b n).set (n / 4) (x <<< 8 ||| BitVec.ofNat 32 y.toNat) = wFs b (n + 1) := by
  refine ⟨_, wF_gets b n (n / 4) (by omega), ?_⟩
  rw [← wdB_snocs, part_nexts hy]
  apply List.ext_getElem?
  intro q
  by_cases hq : q < 64
  · rw [List.getElem?_set, wF_gets b (n + 1) q hq]
    by_cases e : n / 4 = q
    · rw [if_pos e, if_pos (by rw [wF_lens]; omega)]
      subst e
      rfl
    · rw [if_neg e, wF_gets b n q hq, part_sames b e]
  · rw [List.getElem?_eq_none (by rw [List.length_set, wF_lens]; omega), List.getElem?_eq_none (by rw [wF_lens]; omega)]
theorem wF_zeros (b : List UInt8) : wFs b 0 = List.replicate 64 0#32 := by
  apply List.ext_getElem?
  intro q
  by_cases hq : q < 64
  · rw [wF_gets b 0 q hq, List.getElem?_replicate, if_pos hq]
    simp [wdB]
  · rw [List.getElem?_eq_none (by rw [wF_lens]; omega), List.getElem?_eq_none (by simp; omega)]
theorem wF_alls {b : List UInt8} (hb : b.length = 64) : wFs b 64 = wsB 32 4 b 16 ++ List.replicate 48 0#32 := by
  apply List.ext_getElem?
  intro q
  have hl : (wsB 32 4 b 16).length = 16 := by simp [wsB]
  by_cases hq : q < 64
  · have ht : b.take 64 = b := List.take_of_length_le (by omega)
    rw [wF_gets b 64 q hq, ht]
    by_cases h16 : q < 16
    · rw [List.getElem?_append_left (by omega)]
      unfold wsB
      rw [List.getElem?_map, List.getElem?_range h16]
      rfl
    · rw [List.getElem?_append_right (by omega), List.getElem?_replicate, if_pos (by omega), List.drop_eq_nil_of_le (by omega)]
      rfl
  · rw [List.getElem?_eq_none (by rw [wF_lens]; omega), List.getElem?_eq_none (by simp [hl]; omega)]
/-- The words made, n of them behind the sixteen. -/
def sFs (l : List (BitVec 32)) (n : Nat) : List (BitVec 32) := scW K32 l n ++ List.replicate (48 - n) 0#32
theorem sF_steps {l : List (BitVec 32)} (hl : l.length = 16) {n : Nat} (hn : n < 48) :
    ∃ a c x y, (sFs l n)[n]? = some a ∧ (sFs l n)[n + 9]? = some c ∧ (sFs l n)[n + 1]? = some x ∧ (sFs l n)[n + 14]? = some y ∧ (sFs l n).set (16 + n) (a + c + mS x 7 18 3 + mS y 17 19 10) = sFs l (n + 1) := by
  have hs := scW_len K32 l n
  have hg : ∀ i, i < 16 + n → (sFs l n)[i]? = some ((scW K32 l n).getD i 0) := by
    intro i hi
    unfold sFs
    rw [List.getElem?_append_left (by omega), List.getD_eq_getElem?_getD, List.getElem?_eq_getElem (by omega)]
    rfl
  refine ⟨_, _, _, _, hg n (by omega), hg (n + 9) (by omega), hg (n + 1) (by omega), hg (n + 14) (by omega), ?_⟩
  have e : (scW K32 l n).getD n 0 + (scW K32 l n).getD (n + 9) 0 + mS ((scW K32 l n).getD (n + 1) 0) 7 18 3 + mS ((scW K32 l n).getD (n + 14) 0) 17 19 10 = nxW K32 (scW K32 l n) := by
    unfold nxW
    rw [hs, hl, show 16 + n - 16 = n by omega, show 16 + n - 7 = n + 9 by omega, show 16 + n - 15 = n + 1 by omega, show 16 + n - 2 = n + 14 by omega]
    rfl
  rw [e]
  unfold sFs
  rw [List.set_append_right _ _ (by omega), show 16 + n - (scW K32 l n).length = 0 by omega, show 48 - n = (48 - (n + 1)) + 1 by omega, List.replicate_succ, List.set_cons_zero]
  show _ = (scW K32 l n ++ [nxW K32 (scW K32 l n)]) ++ _
  rw [List.append_assoc]
  rfl
theorem sF_zeros (l : List (BitVec 32)) : sFs l 0 = l ++ List.replicate 48 0#32 := rfl
theorem sF_alls (l : List (BitVec 32)) : sFs l 48 = scW K32 l 48 := by
  unfold sFs
  rw [Nat.sub_self, List.replicate_zero, List.append_nil]
theorem sF_lens {l : List (BitVec 32)} (hl : l.length = 16) {n : Nat} (hn : n ≤ 48) : (sFs l n).length = 64 := by
  unfold sFs
  rw [List.length_append, scW_len, List.length_replicate]
  omega
/-- A block's words. -/
def wdss (b : List UInt8) : List (BitVec 32) := scW K32 (wsB 32 4 b 16) 48
theorem wds_lens (b : List UInt8) : (wdss b).length = 64 := by
  unfold wdss
  rw [scW_len]
  simp [wsB]
def z64s : List (BitVec 32) := List.replicate 64 0#32
theorem as64s : AllocAs 132 (w32 z64s) := by
  intro w ev op ho
  unfold execOp
  simp only [ho]
  kernel_rfl
theorem info64s {l : List (BitVec 32)} (h : l.length = 64) : (Tryd.prog.info? 132).map (·.size) = some (w32 l).length := by
  rw [w32_len, h]
  kernel_rfl
attribute [local irreducible] wFs sFs wdss rr
set_option maxRecDepth 20000 in
set_option maxHeartbeats 4000000 in
theorem gw_anys (v : Value) (b : List UInt8) (w : World) (hv : Rd w v (bys b)) (hb : b.length = 64) :
    Calls Tryd.prog 100 #[v] w fun e w' => e = .returned (.agg (w32 (wdss b)).toArray) ∧ Kp0 w w' := by
  obtain ⟨bb, ob, cb, rfl, _, _, _⟩ := hv.posB (by omega)
  have HV := Lib.hid hv
  have HBL := Lib.hid hb
  rw [hb]
  clear hv
  go_enter Tryd.func100, Tryd.ntmps100
  go_upto_region 1 with (refine wl_alloc_as as64s rfl rfl ?_
                         intro w1 g2 hw hg
                         have HB1 : Hid (Bks w w1 [(g2, 132, w32 z64s)]) := Lib.hid (by rw [hw]; exact (Bks.nil w).push 132 (w32 z64s) hg)
                         clear hw hg)
  go_upto_region 2 with (refine wl_alloc_as as64s rfl rfl ?_
                         intro w2 g3 hw hg
                         have HB2 : Hid (Bks w w2 [(g2, 132, w32 z64s), (g3, 132, w32 z64s)]) := Lib.hid (by rw [hw]; exact HB1.out.push 132 (w32 z64s) hg)
                         clear hw hg)
  simp only [Act.put]
  clear HB1
  have HSTEP : Hid (∀ n, n < 64 → ∀ y, b[n]? = some y → ∃ x, (wFs b n)[n / 4]? = some x ∧ (wFs b n).set (n / 4) (x <<< 8 ||| BitVec.ofNat 32 y.toNat) = wFs b (n + 1)) := Lib.hid (fun n hn y hy => wF_steps hb hn hy)
  have HZ : Hid (wFs b 0 = z64s ∧ wFs b 64 = sFs (wsB 32 4 b 16) 0) := Lib.hid ⟨by rw [wF_zeros]; rfl, by rw [wF_alls hb, sF_zeros]⟩
  go_wp2
  go_loopg [13] 64 (fun gg i wr => ∃ (n : Nat), i = .int .i64 n ∧ n ≤ 64 ∧ gg = 64 - n ∧ Bks w wr [(g2, 132, w32 z64s), (g3, 132, w32 (wFs b n))])
  case atStart => exact ⟨0, rfl, by omega, rfl, by rw [HZ.out.1]; exact HB2.out⟩
  case round =>
    obtain ⟨n, rfl, hn, rfl, hr⟩ := hrel
    have HB3 := Lib.hid hr
    clear hr HB2
    by_cases h : n < 64
    · obtain ⟨y, hy⟩ : ∃ y, b[n]? = some y := ⟨_, List.getElem?_eq_getElem (by rw [HBL.out]; exact h)⟩
      obtain ⟨x, hx1, hx2⟩ := HSTEP.out n h y hy
      obtain ⟨q, hq⟩ : ∃ q, q = n / 4 := ⟨_, rfl⟩
      rw [← hq] at hx1 hx2
      have hqi : (n : Int).tdiv 4 = (q : Int) := by rw [Int.tdiv_eq_ediv_of_nonneg (by omega)]; omega
      have hq80 : (q : Int) < 64 := by omega
      have hcy := (HV.out.keep0 HB3.out.kp).range n _ (bys_getV hy)
      have hcx := (HB3.out.at 1 rfl).cellV q (w32_get hx1)
      have hfx := blk_frozen (HB3.out.at 1 rfl) q
      obtain ⟨z, hz⟩ : ∃ z, z = x <<< 8 ||| BitVec.ofNat 32 y.toNat := ⟨_, rfl⟩
      have hv : bits .or .u32 (IntKind.u32.wrap (x.toNat * 256)) (IntKind.u32.wrap (y.toNat : Int)) = (z.toNat : Int) := by rw [hz, f32_shl x 8 (c := (x.toNat : Int) * 256) rfl, f32_byte y, wrap32, f32_or]
      rw [IntKind.wrap_u32', IntKind.wrap_u32'] at hv
      rw [← hz] at hx2
      have HX := Lib.hid hx2
      have HNN := Lib.hid h
      have hn128 : (n : Int) < 64 := by omega
      clear hy hx1 hx2 hz hq h
      go_wp2
      have hno := HNN.out
      go_roundg (64 - (n + 1))
      case measure => omega
      case rel =>
        refine ⟨n + 1, by go_num, by omega, rfl, ?_⟩
        have hs := HB3.out.set 1 rfl q (.int .u32 (z.toNat : Int))
        rw [w32_set, HX.out] at hs
        exact hs
    · obtain rfl : n = 64 := by omega
      clear h hn HSTEP
      obtain ⟨l, hl⟩ : ∃ l, l = wsB 32 4 b 16 := ⟨_, rfl⟩
      have HLL : Hid (l.length = 16) := Lib.hid (by rw [hl]; simp [wsB])
      have HSS : Hid (∀ n, n < 48 → ∃ a c x y, (sFs l n)[n]? = some a ∧ (sFs l n)[n + 9]? = some c ∧ (sFs l n)[n + 1]? = some x ∧ (sFs l n)[n + 14]? = some y ∧ (sFs l n).set (16 + n) (a + c + mS x 7 18 3 + mS y 17 19 10) = sFs l (n + 1)) := Lib.hid (fun n hn => sF_steps HLL.out hn)
      have HWD : Hid (sFs l 48 = wdss b) := Lib.hid (by rw [sF_alls, hl]; unfold wdss; rfl)
      rw [HZ.out.2, ← hl] at HB3
      clear hl HZ
      go_wp2
      go_loopg [6] 48 (fun gg i wr => ∃ (n : Nat), i = .int .i64 ((16 + n : Nat) : Int) ∧ n ≤ 48 ∧ gg = 48 - n ∧ Bks w wr [(g2, 132, w32 z64s), (g3, 132, w32 (sFs l n))])
      case atStart => exact ⟨0, rfl, by omega, rfl, HB3.out⟩
      case round =>
        obtain ⟨n, rfl, hn, rfl, hr⟩ := hrel
        have HB4 := Lib.hid hr
        clear hr HB3
        by_cases h : n < 48
        · obtain ⟨a, c, x, y, h1, h2, h3, h4, h5⟩ := HSS.out n h
          have HC1 := (HB4.out.at 1 rfl).cellV n (w32_get h1)
          have HC2 := (HB4.out.at 1 rfl).cellV (n + 9) (w32_get h2)
          have HC3 := (HB4.out.at 1 rfl).cellV (n + 1) (w32_get h3)
          have HC4 := (HB4.out.at 1 rfl).cellV (n + 14) (w32_get h4)
          have HFX := blk_frozen (HB4.out.at 1 rfl) (16 + n)
          obtain ⟨m, hm⟩ : ∃ m, m = 16 + n := ⟨_, rfl⟩
          obtain ⟨m1, hm1⟩ : ∃ m, m = n + 1 := ⟨_, rfl⟩
          obtain ⟨m2, hm2⟩ : ∃ m, m = n + 14 := ⟨_, rfl⟩
          obtain ⟨m3, hm3⟩ : ∃ m, m = n + 9 := ⟨_, rfl⟩
          have HS5 := Lib.hid h5
          rw [← hm] at HFX HS5 ⊢
          rw [← hm1] at HC3
          rw [← hm2] at HC4
          rw [← hm3] at HC2
          have i0 : (m : Int) < 64 := by omega
          have i1 : (m : Int) - 15 = (m1 : Int) := by omega
          have i2 : (m : Int) - 2 = (m2 : Int) := by omega
          have i3 : (m : Int) - 16 = (n : Int) := by omega
          have i4 : (m : Int) - 7 = (m3 : Int) := by omega
          have j1 : (m1 : Int) < 64 := by omega
          have j2 : (m2 : Int) < 64 := by omega
          have j3 : (n : Int) < 64 := by omega
          have j4 : (m3 : Int) < 64 := by omega
          have j5 : 16 ≤ (m : Int) := by omega
          have HM := Lib.hid hm
          have HNN := Lib.hid h
          clear h h1 h2 h3 h4 h5 hm hm1 hm2 hm3 hn
          go_upto_region 10 with (fail)
          go_region
          have HK0 : Hid (Kp0 wr.drew wr.drew) := Lib.hid (Kp.refl _ _)
          obtain ⟨u1, hu1⟩ : ∃ u, u = rr x 7 ^^^ rr x 18 := ⟨_, rfl⟩
          obtain ⟨s1, hs1⟩ : ∃ u, u = x >>> 3 := ⟨_, rfl⟩
          obtain ⟨p1, hp1⟩ : ∃ u, u = u1 ^^^ s1 := ⟨_, rfl⟩
          obtain ⟨u2, hu2⟩ : ∃ u, u = rr y 17 ^^^ rr y 19 := ⟨_, rfl⟩
          obtain ⟨s2, hs2⟩ : ∃ u, u = y >>> 10 := ⟨_, rfl⟩
          obtain ⟨p2, hp2⟩ : ∃ u, u = u2 ^^^ s2 := ⟨_, rfl⟩
          obtain ⟨a1, ha1⟩ : ∃ u, u = a + c := ⟨_, rfl⟩
          obtain ⟨a2, ha2⟩ : ∃ u, u = a1 + p1 := ⟨_, rfl⟩
          obtain ⟨a3, ha3⟩ : ∃ u, u = a2 + p2 := ⟨_, rfl⟩
          have HA3 : Hid (a + c + mS x 7 18 3 + mS y 17 19 10 = a3) := Lib.hid (by rw [ha3, ha2, ha1, hp1, hp2, hu1, hu2, hs1, hs2]; rfl)
          have e1 : bits .xor .u32 ((rr x 7).toNat : Int) ((rr x 18).toNat : Int) = (u1.toNat : Int) := by rw [hu1, f32_xor]
          have e2 : (x.toNat : Int) / 8 = (s1.toNat : Int) := by rw [hs1, f_shr x 3 (by decide)]
          have e3 : bits .xor .u32 (u1.toNat : Int) (s1.toNat : Int) = (p1.toNat : Int) := by rw [hp1, f32_xor]
          have e4 : bits .xor .u32 ((rr y 17).toNat : Int) ((rr y 19).toNat : Int) = (u2.toNat : Int) := by rw [hu2, f32_xor]
          have e5 : (y.toNat : Int) / 1024 = (s2.toNat : Int) := by rw [hs2, f_shr y 10 (by decide)]
          have e6 : bits .xor .u32 (u2.toNat : Int) (s2.toNat : Int) = (p2.toNat : Int) := by rw [hp2, f32_xor]
          have e7 : ((a.toNat : Int) + (c.toNat : Int)) % 4294967296 = (a1.toNat : Int) := by rw [← IntKind.wrap_u32', ha1, f32_add a c rfl]
          have e8 : ((a1.toNat : Int) + (p1.toNat : Int)) % 4294967296 = (a2.toNat : Int) := by rw [← IntKind.wrap_u32', ha2, f32_add a1 p1 rfl]
          have e9 : ((a2.toNat : Int) + (p2.toNat : Int)) % 4294967296 = (a3.toNat : Int) := by rw [← IntKind.wrap_u32', ha3, f32_add a2 p2 rfl]
          clear hu1 hs1 hp1 hu2 hs2 hp2 ha1 ha2 ha3
          have HC1h := Lib.hid HC1
          have HC2h := Lib.hid HC2
          clear HC1 HC2 HC3 HC4
          go_upto_region 12 with (go_at_call 101; refine (rs_int _ _ _ (by decide)).mono ?_; rintro e wy ⟨rfl, hk⟩; have HK0 := Lib.hid (HK0.out.tr hk); clear hk)
          go_upto_region 13 with (go_at_call 101; refine (rs_int _ _ _ (by decide)).mono ?_; rintro e wy ⟨rfl, hk⟩; have HK0 := Lib.hid (HK0.out.tr hk); clear hk)
          have HB5 : Hid (Bks w wy [(g2, 132, w32 z64s), (g3, 132, w32 (sFs l n))]) := Lib.hid (HB4.out.drew.kp0 HK0.out)
          have hc1 := HK0.out.cell HC1h.out (fun h => h)
          have hc2 := HK0.out.cell HC2h.out (fun h => h)
          have hfx := blk_frozen (HB5.out.at 1 rfl) m
          have hcm := (HB5.out.at 1 rfl).cellV m (w32_get (getD_some (by rw [sF_lens HLL.out (by have := HNN.out; omega)]; omega) 0#32))
          clear HC1h HC2h HK0 HB4 HFX e1 e2 e3 e4 e5 e6
          go_region
          go_wp2
          have hno := HNN.out
          go_roundg (48 - (n + 1))
          case measure => omega
          case rel =>
            refine ⟨n + 1, by rw [← Nat.add_assoc, ← HM.out]; go_num, by omega, rfl, ?_⟩
            have hs := HB5.out.set 1 rfl m (.int .u32 (a3.toNat : Int))
            rw [HA3.out] at HS5
            rw [w32_set, HS5.out] at hs
            exact hs.drew
        · obtain rfl : n = 48 := by omega
          rw [HWD.out] at HB4
          clear h hn HSS HWD
          have HWL : Hid ((wdss b).length = 64) := Lib.hid (wds_lens b)
          go_wp2_with (first
            | (refine wl_load_blk rfl 132 (.tmp 3) rfl g3 _ (w32 (wdss b)) rfl (HB4.out.at 1 rfl) _ Tryd.underlying132 rfl (info64s HWL.out) ?_)
            | (refine wl_store_blk rfl 132 (.tmp 2) (.tmp 73) rfl g2 _ (w32 z64s) (w32 (wdss b)) rfl rfl (HB4.out.at 0 rfl) (info64s HWL.out) (len_of (T := 132) (info64s (l := z64s) rfl) (info64s HWL.out)) (w32_ones _) ?_
               intro w8 hA8 hK8
               have HB8 := Lib.hid (HB4.out.store 0 rfl hA8 hK8)
               clear hA8 hK8))
          refine ret_blk 2 132 132 g2 (w32 (wdss b)) _ rfl rfl (HB8.out.at 0 rfl) Tryd.underlying132 rfl (info64s HWL.out) rfl ?_
          exact ⟨rfl, HB8.out.kp⟩
end Go.Proofs.YtikjcmhocihmcaaDoor
