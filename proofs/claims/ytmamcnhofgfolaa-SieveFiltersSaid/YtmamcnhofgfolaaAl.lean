/- An alloc of many cells, as one step. -/
import Derived.Test.YtmamcnhofgfolaaChecked
import Derived.Test.YtmamcnhofgfolaaSa
namespace Go.Proofs.Ytmamcnhofgfolaa
open Go Go.RowKit
def AllocAs (T : TypeId) (cs : List Value) : Prop := ∀ (w : World) (ev : Operand → Value) (op : Oper), op.op = .alloc T → (execOp ev op).run Try.prog w = .ok (.value (.pointer (some ⟨w.heap.size, 0, none⟩))) (w.alloc (.cells cs.toArray T))
theorem wl_alloc_as {T : TypeId} {cs : List Value} (hA : AllocAs T cs) {ops : Array Oper} {rest : List Oper} {op : Oper} {a : Act} {w : World} {Q : Exit → Act → World → Prop} (hgd : op.guard = none) (ho : op.op = .alloc T)
    (h : ∀ w' g, w' = w.alloc (.cells cs.toArray T) → g = w.heap.size → wpList Try.prog ops Q rest (a.put op.dst (.pointer (some ⟨g, 0, none⟩))) w') : wpList Try.prog ops Q (op :: rest) a w := by
  refine wpList_plain hgd fun _ hK => ?_
  unfold Oper.wp
  rw [hA w a.eval op ho]
  exact hK _ _ (h _ _ rfl rfl)
theorem wp_alloc_as {T : TypeId} {cs : List Value} (hA : AllocAs T cs) {op : Oper} {a : Act} {w : World} {K : Act → World → Prop} {Q : Exit → Act → World → Prop} (ho : op.op = .alloc T)
    (h : ∀ w' g, w' = w.alloc (.cells cs.toArray T) → g = w.heap.size → K (a.put op.dst (.pointer (some ⟨g, 0, none⟩))) w') : Oper.wp Try.prog op a w K Q := by
  unfold Oper.wp
  rw [hA w a.eval op ho]
  exact h _ _ rfl rfl
end Go.Proofs.Ytmamcnhofgfolaa
