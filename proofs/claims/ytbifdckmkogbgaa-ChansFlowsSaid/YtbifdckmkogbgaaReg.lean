/- A region that draws its order, walked once in an order of our own: operations that yield the same in every world that meets S are taken as soon as they may come up; every other one when nothing else may. Nothing of the program stands here. -/
import Derived.OrdersHeld
import Derived.WalkKit
namespace Go.Proofs.Ytbifdckmkogbgaa
open Go

/-- Is it an order in which each quiet operation is free, and each other one alone? -/
def planOk (md : Region.Mode) (ops : Array Oper) : List (Nat × Bool) → Array Bool → Bool
  | [], listed => (Region.ready md ops listed).isEmpty
  | (i, q) :: rest, listed => (if q then Region.free md ops listed i && (Region.ready md ops listed).contains i else Region.ready md ops listed == [i]) && planOk md ops rest (listed.setIfInBounds i true)

/-- The walk in that order. -/
def wpPlan (P : Program) (ops : Array Oper) (Q : Exit → Act → World → Prop) (S : World → Prop) : List (Oper × Bool) → Act → World → Prop
  | [], a, w => Q .normal a w
  | (o, q) :: rest, a, w =>
    (Region.wanted o (yielded ops a.tmps) = false ∧ wpPlan P ops Q S rest (a.put o.dst undef) w) ∨
    (Region.wanted o (yielded ops a.tmps) = true ∧
      ((q = true ∧ ∃ v, (∀ w', S w' → (execOp a.eval o).run P w' = .ok (.value v) w') ∧ wpPlan P ops Q S rest (a.put o.dst v) w) ∨
       (q = false ∧ o.wp P a w (fun a' w' => S w' ∧ wpPlan P ops Q S rest a' w') Q)))

section
variable {P : Program} {ops : Array Oper} {Q : Exit → Act → World → Prop} {S : World → Prop} {o : Oper} {q : Bool} {rest : List (Oper × Bool)} {a : Act} {w : World}
theorem plan_skip (hw : Region.wanted o (yielded ops a.tmps) = false) (h : wpPlan P ops Q S rest (a.put o.dst undef) w) : wpPlan P ops Q S ((o, q) :: rest) a w := .inl ⟨hw, h⟩
theorem plan_quiet {v : Value} (hw : Region.wanted o (yielded ops a.tmps) = true) (hv : ∀ w', S w' → (execOp a.eval o).run P w' = .ok (.value v) w') (h : wpPlan P ops Q S rest (a.put o.dst v) w) :
    wpPlan P ops Q S ((o, true) :: rest) a w := .inr ⟨hw, .inl ⟨rfl, v, hv, h⟩⟩
theorem plan_eff (hw : Region.wanted o (yielded ops a.tmps) = true) (h : ∀ K : Act → World → Prop, (∀ a' w', S w' → wpPlan P ops Q S rest a' w' → K a' w') → o.wp P a w K Q) :
    wpPlan P ops Q S ((o, false) :: rest) a w := .inr ⟨hw, .inr ⟨rfl, h _ (fun _ _ h1 h2 => ⟨h1, h2⟩)⟩⟩
theorem plan_nil (h : Q .normal a w) : wpPlan P ops Q S [] a w := h

theorem plan_sound (md : Region.Mode) (hs : Region.noSelect ops = true) (hQ : ∀ c d v a w, Q (.panic c) (Act.put a d v) w → Q (.panic c) a w) :
    ∀ (plan : List (Nat × Bool)) (fuel : Nat) (listed : Array Bool) (a : Act) (w : World), plan.length ≤ fuel → planOk md ops plan listed = true → S w →
      wpPlan P ops Q S (plan.map fun x => ((ops[x.1]?).getD default, x.2)) a w → wpAnyH P md ops Q S fuel listed a w := by
  intro plan
  induction plan with
  | nil =>
    intro fuel listed a w _ hp _ h
    exact wpAnyH_done (by simpa [planOk] using hp) h fuel
  | cons x rest ih =>
    obtain ⟨i, q⟩ := x
    intro fuel listed a w hf hp hS h
    cases fuel with
    | zero => simp at hf
    | succ fuel =>
      simp only [List.length_cons, Nat.add_le_add_iff_right] at hf
      simp only [planOk, Bool.and_eq_true] at hp
      obtain ⟨hp1, hp2⟩ := hp
      simp only [List.map_cons, wpPlan] at h
      cases q with
      | true =>
        simp only [if_true, Bool.and_eq_true] at hp1
        have hi : ∃ o, ops[i]? = some o := by
          cases hoi : ops[i]? with
          | none => have := hp1.1; unfold Region.free at this; rw [hoi] at this; simp at this
          | some o => exact ⟨o, rfl⟩
        obtain ⟨o, ho⟩ := hi
        rw [ho] at h
        simp only [Option.getD_some] at h
        rcases h with ⟨hw, h⟩ | ⟨hw, ⟨_, v, hv, h⟩ | ⟨hq, _⟩⟩
        · exact wpAnyH_take ho hs hp1.1 hp1.2 (fun c a w h => hQ c _ _ a w h) (.inr ⟨hw, rfl⟩) hS (ih fuel _ _ _ hf hp2 hS h)
        · exact wpAnyH_take ho hs hp1.1 hp1.2 (fun c a w h => hQ c _ _ a w h) (.inl ⟨hw, hv⟩) hS (ih fuel _ _ _ hf hp2 hS h)
        · cases hq
      | false =>
        simp only [Bool.false_eq_true, if_false] at hp1
        have hr : Region.ready md ops listed = [i] := by simpa using hp1
        refine wpAnyH_all hr (by simp) (fun j hj => ?_)
        obtain rfl : j = i := by simpa using hj
        unfold wpOp
        have hi : ∃ o, ops[j]? = some o := by
          have hm : j ∈ Region.ready md ops listed := by rw [hr]; simp
          obtain ⟨_, oj, hoj, _⟩ := mem_ready.1 hm
          exact ⟨oj, hoj⟩
        obtain ⟨o, ho⟩ := hi
        rw [ho] at h ⊢
        simp only [Option.getD_some] at h
        simp only []
        rcases h with ⟨hw, h⟩ | ⟨hw, ⟨hq, _⟩ | ⟨_, h⟩⟩
        · rw [if_neg (by rw [hw]; simp)]
          exact ⟨hS, ih fuel _ _ _ hf hp2 hS h⟩
        · cases hq
        · rw [if_pos hw]
          exact .inl (Oper.wp_mono (fun a' w' ⟨h1, h2⟩ => ⟨h1, ih fuel _ _ _ hf hp2 h1 h2⟩) h)

/-- The region, by a plan. -/
theorem wp_region_plan {id : Nat} (S : World → Prop) (plan : List (Nat × Bool)) (hm : P.follows .mixedOrders = true) (hs : Region.noSelect ops = true)
    (hp : planOk .any ops plan (Array.replicate ops.size false) = true) (hn : decide (plan.length ≤ ops.size) = true) (hQ : ∀ c d v a w, Q (.panic c) (Act.put a d v) w → Q (.panic c) a w) (hS : S w.drew)
    (h : wpPlan P ops Q S (plan.map fun x => ((ops[x.1]?).getD default, x.2)) a w.drew) : (Code.region id ops true).wp P Q a w :=
  wp_region_held hm (plan_sound .any hs hQ plan _ _ _ _ (of_decide_eq_true hn) hp hS h)
end
end Go.Proofs.Ytbifdckmkogbgaa
