/- The reference's block: rounds, by places. -/
import Derived.Test.YtomlednobmaaeaaDoorRfF
namespace Go.Proofs.YtomlednobmaaeaaDoor
open Go Go.RowKit
/-- The first n by f, the others 0. -/
def PS (f : Nat → Nat) (n : Nat) : List Nat := rm 16 fun m => if m < n then f m else 0
theorem PS_set (f : Nat → Nat) {n : Nat} (h : n < 16) : (PS f n).set n (f n) = PS f (n + 1) := by
  refine rm_set (fun m hm hne => ?_) ?_
  · by_cases h1 : m < n
    · rw [if_pos h1, if_pos (by omega)]
    · rw [if_neg h1, if_neg (by omega)]
  · rw [if_pos (by omega)]
theorem PS_new (f : Nat → Nat) {n : Nat} (h : n < 16) : (PS f n)[n]? = some 0 := by
  rw [PS, rm_get _ h, if_neg (by omega)]
theorem PS_zero (f : Nat → Nat) : PS f 0 = nz16 := by
  apply List.ext_getElem?
  intro n
  by_cases hn : n < 16
  · rw [PS, rm_get _ hn, if_neg (by omega), nz16, List.getElem?_replicate, if_pos hn]
  · rw [List.getElem?_eq_none (by rw [PS, rm_len]; omega), List.getElem?_eq_none (by rw [nz16, List.length_replicate]; omega)]
theorem PS_all (f : Nat → Nat) : PS f 16 = rm 16 f := rm_ext fun m hm => if_pos hm
theorem set2 {α : Type} (l : List α) (n : Nat) (x y : α) : (l.set n x).set n y = l.set n y := List.set_set ..
section
variable (b : List UInt8) (c : List (BitVec 32))
/-- What stands there behind n rounds. -/
def sN (n i : Nat) : Nat := if n = 10 then ((aesK (kyW c) b).getD i 0).toNat else sB b c n i
def mB (n i : Nat) : Nat := xN (xN (xN (tmR 8 2 (uB b c n i) 0) (tmR 8 3 (uB b c n (i - i % 4 + (i + 1) % 4)) 0)) (uB b c n (i - i % 4 + (i + 2) % 4))) (uB b c n (i - i % 4 + (i + 3) % 4))
end
theorem sN_lt (b : List UInt8) (c : List (BitVec 32)) (n i : Nat) : sN b c n i < 256 := by
  unfold sN
  split
  · exact UInt8.toNat_lt _
  · exact sB_lt b c n i
theorem sN_sB {b : List UInt8} {c : List (BitVec 32)} {n : Nat} (h : n < 10) (i : Nat) : sN b c n i = sB b c n i := if_neg (by omega)
theorem mB_lt (b : List UInt8) (c : List (BitVec 32)) (n i : Nat) : mB b c n i < 256 := by
  have h1 := uB_lt b c n i
  have h2 := uB_lt b c n (i - i % 4 + (i + 1) % 4)
  exact xN_lt (n := 8) (xN_lt (n := 8) (xN_lt (n := 8) (tmR_lt _ _ _ _ (by omega) (by omega)) (tmR_lt _ _ _ _ (by omega) (by omega))) (uB_lt _ _ _ _)) (uB_lt _ _ _ _)
theorem first_val {b : List UInt8} {c : List (BitVec 32)} (hb : b.length = 16) (hc : c.length = 4) (i : Nat) (hi : i < 16) : ∃ x : UInt8, b[i]? = some x ∧ bits .xor .i64 (x.toNat : Int) ((wB c (i / 4) (i % 4) : Nat) : Int) = ((sB b c 0 i : Nat) : Int) := by
  refine ⟨_, getD_some (by omega) 0, ?_⟩
  rw [← sB_zero hb hc i hi]
  have h1 := (b.getD i 0).toNat_lt
  have h2 := wB_lt c (i / 4) (i % 4)
  exact xN_val (by omega) (by omega)
theorem sub_val {b : List UInt8} {c : List (BitVec 32)} (n i : Nat) : sbT[sB b c n ((i + 4 * (i % 4)) % 16)]? = some (uB b c n i) := by
  unfold uB
  exact getD_some (by rw [sbT_len]; exact sB_lt _ _ _ _) 0
theorem mix_val1 (b : List UInt8) (c : List (BitVec 32)) (n i j : Nat) : bits .xor .i64 ((tmR 8 2 (uB b c n i) 0 : Nat) : Int) ((tmR 8 3 (uB b c n j) 0 : Nat) : Int) = ((xN (tmR 8 2 (uB b c n i) 0) (tmR 8 3 (uB b c n j) 0) : Nat) : Int) := by
  have h1 := tmR_lt 8 2 (uB b c n i) 0 (by omega) (by omega)
  have h2 := tmR_lt 8 3 (uB b c n j) 0 (by omega) (by omega)
  exact xN_val (by omega) (by omega)
theorem mix_val2 (b : List UInt8) (c : List (BitVec 32)) (n j x : Nat) (hx : x < 256) : bits .xor .i64 (x : Int) ((uB b c n j : Nat) : Int) = ((xN x (uB b c n j) : Nat) : Int) := by
  have h2 := uB_lt b c n j
  exact xN_val (by omega) (by omega)
theorem round_val {b : List UInt8} {c : List (BitVec 32)} (hb : b.length = 16) (hc : c.length = 4) (n i : Nat) (hn : n < 9) (hi : i < 16) : bits .xor .i64 ((mB b c n i : Nat) : Int) ((wB c (4 * (n + 1) + i / 4) (i % 4) : Nat) : Int) = ((sN b c (n + 1) i : Nat) : Int) := by
  rw [sN_sB (by omega), ← sB_next hb hc n i (by omega) hi]
  have h1 := mB_lt b c n i
  have h2 := wB_lt c (4 * (n + 1) + i / 4) (i % 4)
  exact xN_val (by omega) (by omega)
theorem last_val {b : List UInt8} {c : List (BitVec 32)} (hb : b.length = 16) (hc : c.length = 4) (i : Nat) (hi : i < 16) : bits .xor .i64 ((uB b c 9 i : Nat) : Int) ((wB c (40 + i / 4) (i % 4) : Nat) : Int) = ((sN b c 10 i : Nat) : Int) := by
  rw [sN, if_pos rfl, ← out_next hb hc i hi]
  have h1 := uB_lt b c 9 i
  have h2 := wB_lt c (40 + i / 4) (i % 4)
  exact xN_val (by omega) (by omega)
theorem WC_all (c : List (BitVec 32)) {j l : Nat} (hj : j < 44) (hl : l < 4) : (WC c 44 0)[j * 4 + l]? = some (wB c j l) := WC_old c (by omega) hj hl
theorem infoS {l : List Nat} (h : l.length = 16) : (Tryd.prog.info? 57).map (·.size) = some (i64v l).length := by
  rw [i64v_len, h]; kernel_rfl
theorem bys_rm (l : List UInt8) (h : l.length = 16) (n : Nat) (hn : n < 16) : ∃ x, l[n]? = some x ∧ l.getD n 0 = x := ⟨_, getD_some (by omega) 0, rfl⟩
theorem mx_lt1 (b : List UInt8) (c : List (BitVec 32)) (n i j : Nat) : xN (tmR 8 2 (uB b c n i) 0) (tmR 8 3 (uB b c n j) 0) < 256 :=
  xN_lt (n := 8) (tmR_lt _ _ _ _ (by omega) (by omega)) (tmR_lt _ _ _ _ (by omega) (by omega))
theorem mx_lt2 (b : List UInt8) (c : List (BitVec 32)) (n i j k : Nat) : xN (xN (tmR 8 2 (uB b c n i) 0) (tmR 8 3 (uB b c n j) 0)) (uB b c n k) < 256 :=
  xN_lt (n := 8) (mx_lt1 b c n i j) (uB_lt _ _ _ _)
theorem col_ix (b : List UInt8) (c : List (BitVec 32)) (n : Nat) {i r ba : Nat} (hi : i < 16) (hr : r = i % 4) (hba : ba = i - r) : ∃ a1 a2 a3 j1 j2 j3 : Nat,
    (((i : Int) + 1).tmod 4 = (a1 : Int) ∧ ((i : Int) + 2).tmod 4 = (a2 : Int) ∧ ((i : Int) + 3).tmod 4 = (a3 : Int)) ∧
    ((ba : Int) + (a1 : Int) = (j1 : Int) ∧ (ba : Int) + (a2 : Int) = (j2 : Int) ∧ (ba : Int) + (a3 : Int) = (j3 : Int)) ∧
    ((j1 : Int) < 16 ∧ (j2 : Int) < 16 ∧ (j3 : Int) < 16) ∧
    (IntKind.i64.wrap ((i : Int) + 1) = (i : Int) + 1 ∧ IntKind.i64.wrap ((i : Int) + 2) = (i : Int) + 2 ∧ IntKind.i64.wrap ((i : Int) + 3) = (i : Int) + 3) ∧
    (IntKind.i64.wrap (j1 : Int) = (j1 : Int) ∧ IntKind.i64.wrap (j2 : Int) = (j2 : Int) ∧ IntKind.i64.wrap (j3 : Int) = (j3 : Int)) ∧
    (i < 16 ∧ j1 < 16 ∧ j2 < 16 ∧ j3 < 16) ∧
    mB b c n i = xN (xN (xN (tmR 8 2 (uB b c n i) 0) (tmR 8 3 (uB b c n j1) 0)) (uB b c n j2)) (uB b c n j3) := by
  subst hr
  subst hba
  refine ⟨(i + 1) % 4, (i + 2) % 4, (i + 3) % 4, i - i % 4 + (i + 1) % 4, i - i % 4 + (i + 2) % 4, i - i % 4 + (i + 3) % 4, ⟨?_, ?_, ?_⟩, ⟨?_, ?_, ?_⟩, ⟨?_, ?_, ?_⟩, ⟨?_, ?_, ?_⟩, ⟨?_, ?_, ?_⟩, ⟨hi, ?_, ?_, ?_⟩, rfl⟩
  · rw [Int.tmod_eq_emod_of_nonneg (by omega)]; omega
  · rw [Int.tmod_eq_emod_of_nonneg (by omega)]; omega
  · rw [Int.tmod_eq_emod_of_nonneg (by omega)]; omega
  · omega
  · omega
  · omega
  · omega
  · omega
  · omega
  · rw [IntKind.wrap_i64]; omega
  · rw [IntKind.wrap_i64]; omega
  · rw [IntKind.wrap_i64]; omega
  · exact wrapI _ (by omega)
  · exact wrapI _ (by omega)
  · exact wrapI _ (by omega)
  · omega
  · omega
  · omega
end Go.Proofs.YtomlednobmaaeaaDoor
