/- The reference's block: what its places hold. -/
import Derived.Test.YtomlednobmaaeaaDoorRfE
import Derived.Test.YtomlednobmaaeaaDoorBks
namespace Go.Proofs.YtomlednobmaaeaaDoor
open Go Go.RowKit
def WC (c : List (BitVec 32)) (i k : Nat) : List Nat := rm 176 fun m => if m < 4 * i then wB c (m / 4) (m % 4) else if m < 4 * i + k then wP c i (m - 4 * i) else 0
theorem WC_set (c : List (BitVec 32)) {i k : Nat} (hi : i < 44) (hk : k < 4) : (WC c i k).set (i * 4 + k) (wP c i k) = WC c i (k + 1) := by
  refine rm_set (fun n hn hne => ?_) ?_
  · by_cases h1 : n < 4 * i
    · rw [if_pos h1, if_pos h1]
    · rw [if_neg h1, if_neg h1]
      by_cases h2 : n < 4 * i + k
      · rw [if_pos h2, if_pos (by omega)]
      · rw [if_neg h2, if_neg (by omega)]
  · rw [if_neg (by omega), if_pos (by omega), show i * 4 + k - 4 * i = k by omega]
theorem WC_new (c : List (BitVec 32)) {i k : Nat} (hi : i < 44) (hk : k < 4) : (WC c i k)[i * 4 + k]? = some 0 := by
  rw [WC, rm_get _ (by omega), if_neg (by omega), if_neg (by omega)]
theorem WC_old (c : List (BitVec 32)) {i k j l : Nat} (hi : i ≤ 44) (hj : j < i) (hl : l < 4) : (WC c i k)[j * 4 + l]? = some (wB c j l) := by
  rw [WC, rm_get _ (by omega), if_pos (by omega), show (j * 4 + l) / 4 = j by omega, show (j * 4 + l) % 4 = l by omega]
theorem WC_next {c : List (BitVec 32)} {i : Nat} (h : ¬ (4 ≤ i ∧ i % 4 = 0)) : WC c i 4 = WC c (i + 1) 0 := by
  refine rm_ext fun n hn => ?_
  by_cases h1 : n < 4 * i
  · rw [if_pos h1, if_pos (by omega)]
  · rw [if_neg h1]
    by_cases h2 : n < 4 * i + 4
    · rw [if_pos h2, if_pos (by omega), wP_not (fun x => h ⟨x.1, x.2.1⟩), show n / 4 = i by omega, show n % 4 = n - 4 * i by omega]
    · rw [if_neg h2, if_neg (by omega), if_neg (by omega)]
theorem WC_head {c : List (BitVec 32)} {i : Nat} (hi : i < 44) : (WC c i 4)[i * 4]? = some (wP c i 0) := by
  rw [WC, rm_get _ (by omega), if_neg (by omega), if_pos (by omega), show i * 4 - 4 * i = 0 by omega]
theorem WC_c {c : List (BitVec 32)} {i : Nat} (hi : i < 44) (h : 4 ≤ i) (hm : i % 4 = 0) : (WC c i 4).set (i * 4) (wB c i 0) = WC c (i + 1) 0 := by
  refine rm_set (fun n hn hne => ?_) ?_
  · by_cases h1 : n < 4 * i
    · rw [if_pos h1, if_pos (by omega)]
    · rw [if_neg h1]
      by_cases h2 : n < 4 * i + 4
      · rw [if_pos h2, if_pos (by omega), wP_not (fun x => by omega), show n / 4 = i by omega, show n % 4 = n - 4 * i by omega]
      · rw [if_neg h2, if_neg (by omega), if_neg (by omega)]
  · rw [if_pos (by omega), show i * 4 / 4 = i by omega, show i * 4 % 4 = 0 by omega]
def n176 : List Nat := List.replicate 176 0
theorem WC_zero (c : List (BitVec 32)) : WC c 0 0 = n176 := by
  apply List.ext_getElem?
  intro n
  by_cases hn : n < 176
  · rw [WC, rm_get _ hn, n176, List.getElem?_replicate]
    simp [hn]
  · rw [List.getElem?_eq_none (by rw [WC, rm_len]; omega), List.getElem?_eq_none (by rw [n176, List.length_replicate]; omega)]
/-- What the four branches make. -/
theorem w_key {key : List UInt8} (h : key.length = 16) {i k : Nat} (hi : i < 4) (hk : k < 4) : ∃ x : UInt8, key[4 * i + k]? = some x ∧ x.toNat = wP (colsW key) i k := by
  refine ⟨_, getD_some (by omega) 0, ?_⟩
  rw [wP_not (fun x => by omega), wB_key h i k hi hk]
theorem w_xor {c : List (BitVec 32)} (hc : c.length = 4) {i k : Nat} (h4 : 4 ≤ i) (hi : i < 44) (hm : i % 4 ≠ 0) : bits .xor .i64 ((wB c (i - 4) k : Nat) : Int) ((wB c (i - 1) k : Nat) : Int) = ((wP c i k : Nat) : Int) := by
  rw [wP_not (fun x => hm x.2.1), ← wB_x hc i k h4 hi hm]
  have h1 := wB_lt c (i - 4) k
  have h2 := wB_lt c (i - 1) k
  exact xN_val (by omega) (by omega)
theorem sbT_all : sbT.all (· < 256) = true := by decide +kernel
theorem sbT_lt (n : Nat) (hn : n < 256) : sbT.getD n 0 < 256 := by
  have h := List.all_eq_true.1 sbT_all
  rw [List.getD_eq_getElem?_getD, List.getElem?_eq_getElem (by rw [sbT_len]; exact hn)]
  exact of_decide_eq_true (h _ (List.getElem_mem _))
theorem w_sub {c : List (BitVec 32)} (hc : c.length = 4) {i k : Nat} (h4 : 4 ≤ i) (hi : i < 44) (hm : i % 4 = 0) (hk : k < 4) : ∃ y, sbT[wB c (i - 1) ((k + 1) % 4)]? = some y ∧ bits .xor .i64 ((wB c (i - 4) k : Nat) : Int) ((y : Nat) : Int) = ((wP c i k : Nat) : Int) := by
  have h1 := wB_lt c (i - 4) k
  have h2 := wB_lt c (i - 1) ((k + 1) % 4)
  refine ⟨_, getD_some (by rw [sbT_len]; exact h2) 0, ?_⟩
  rw [← wB_s hc i k h4 hi hm hk]
  have h3 := sbT_lt _ h2
  exact xN_val (by omega) (by omega)
theorem w_pow {c : List (BitVec 32)} {i : Nat} (h : 4 ≤ i) (hm : i % 4 = 0) : bits .xor .i64 ((wP c i 0 : Nat) : Int) ((cR i : Nat) : Int) = ((wB c i 0 : Nat) : Int) := by
  have h1 := wP_lt c i 0
  have h2 := cR_lt i
  rw [← wP_c h hm]
  exact xN_val (by omega) (by omega)
theorem cR_pow {i : Nat} (h : 4 ≤ i) (hm : i % 4 = 0) : tmR 8 (cR i) 2 0 = cR (i + 1) := by
  rw [cR, if_pos ⟨h, hm⟩]
theorem cR_same {i : Nat} (h : ¬ (4 ≤ i ∧ i % 4 = 0)) : cR i = cR (i + 1) := by
  rw [cR, if_neg h]
def AllocAs (T : TypeId) (cs : List Value) : Prop := ∀ (w : World) (ev : Operand → Value) (op : Oper), op.op = .alloc T → (execOp ev op).run Tryd.prog w = .ok (.value (.pointer (some ⟨w.heap.size, 0, none⟩))) (w.alloc (.cells cs.toArray T))
theorem as256 : AllocAs 52 (i64v n256) := alloc256
theorem as176 : AllocAs 55 (i64v n176) := by
  intro w ev op ho
  unfold execOp
  simp only [ho]
  kernel_rfl
def nz16 : List Nat := List.replicate 16 0
theorem as16 : AllocAs 57 (i64v nz16) := by
  intro w ev op ho
  unfold execOp
  simp only [ho]
  kernel_rfl
theorem asB : AllocAs 23 (bys z16) := by
  intro w ev op ho
  unfold execOp
  simp only [ho]
  kernel_rfl
theorem wl_alloc_as {T : TypeId} {cs : List Value} (hA : AllocAs T cs) {ops : Array Oper} {rest : List Oper} {op : Oper} {a : Act} {w : World} {Q : Exit → Act → World → Prop} (hgd : op.guard = none) (ho : op.op = .alloc T)
    (h : ∀ w' g, w' = w.alloc (.cells cs.toArray T) → g = w.heap.size → wpList Tryd.prog ops Q rest (a.put op.dst (.pointer (some ⟨g, 0, none⟩))) w') : wpList Tryd.prog ops Q (op :: rest) a w := by
  refine wpList_plain hgd fun _ hK => ?_
  unfold Oper.wp
  rw [hA w a.eval op ho]
  exact hK _ _ (h _ _ rfl rfl)
end Go.Proofs.YtomlednobmaaeaaDoor
