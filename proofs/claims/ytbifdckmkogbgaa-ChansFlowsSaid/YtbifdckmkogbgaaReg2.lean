/- As XReg, but the condition on the worlds may grow stronger behind each operation that is no quiet one. Nothing of the program stands here. -/
import Derived.Test.YtbifdckmkogbgaaReg
namespace Go.Proofs.Ytbifdckmkogbgaa
open Go

theorem wpAnyH_mono {P : Program} {md : Region.Mode} {ops : Array Oper} {Q : Exit → Act → World → Prop} {S S' : World → Prop} (hSS : ∀ w, S' w → S w) :
    ∀ (fuel : Nat) (listed : Array Bool) (a : Act) (w : World), wpAnyH P md ops Q S' fuel listed a w → wpAnyH P md ops Q S fuel listed a w
  | 0, _, _, _, h => h
  | fuel + 1, _, _, _, h => ⟨h.1, fun i hi => wpOp_mono (fun a' w' h' => ⟨hSS _ h'.1, wpAnyH_mono hSS fuel _ a' w' h'.2⟩) (h.2 i hi)⟩

def wpPlanS (P : Program) (ops : Array Oper) (Q : Exit → Act → World → Prop) : List (Oper × Bool) → (World → Prop) → Act → World → Prop
  | [], _, a, w => Q .normal a w
  | (o, q) :: rest, S, a, w =>
    (Region.wanted o (yielded ops a.tmps) = false ∧ wpPlanS P ops Q rest S (a.put o.dst undef) w) ∨
    (Region.wanted o (yielded ops a.tmps) = true ∧
      ((q = true ∧ ∃ v, (∀ w', S w' → (execOp a.eval o).run P w' = .ok (.value v) w') ∧ wpPlanS P ops Q rest S (a.put o.dst v) w) ∨
       (q = false ∧ o.wp P a w (fun a' w' => ∃ S' : World → Prop, (∀ x, S' x → S x) ∧ S' w' ∧ wpPlanS P ops Q rest S' a' w') Q)))

section
variable {P : Program} {ops : Array Oper} {Q : Exit → Act → World → Prop} {S : World → Prop} {o : Oper} {q : Bool} {rest : List (Oper × Bool)} {a : Act} {w : World}
theorem planS_skip (hw : Region.wanted o (yielded ops a.tmps) = false) (h : wpPlanS P ops Q rest S (a.put o.dst undef) w) : wpPlanS P ops Q ((o, q) :: rest) S a w := .inl ⟨hw, h⟩
theorem planS_quiet {v : Value} (hw : Region.wanted o (yielded ops a.tmps) = true) (hv : ∀ w', S w' → (execOp a.eval o).run P w' = .ok (.value v) w') (h : wpPlanS P ops Q rest S (a.put o.dst v) w) :
    wpPlanS P ops Q ((o, true) :: rest) S a w := .inr ⟨hw, .inl ⟨rfl, v, hv, h⟩⟩
theorem planS_eff (hw : Region.wanted o (yielded ops a.tmps) = true) (h : ∀ K : Act → World → Prop, (∀ (S' : World → Prop) a' w', (∀ x, S' x → S x) → S' w' → wpPlanS P ops Q rest S' a' w' → K a' w') → o.wp P a w K Q) :
    wpPlanS P ops Q ((o, false) :: rest) S a w := .inr ⟨hw, .inr ⟨rfl, h _ (fun S' _ _ h0 h1 h2 => ⟨S', h0, h1, h2⟩)⟩⟩
theorem planS_nil (h : Q .normal a w) : wpPlanS P ops Q [] S a w := h

theorem planS_sound (md : Region.Mode) (hs : Region.noSelect ops = true) (hQ : ∀ c d v a w, Q (.panic c) (Act.put a d v) w → Q (.panic c) a w) :
    ∀ (plan : List (Nat × Bool)) (S : World → Prop) (fuel : Nat) (listed : Array Bool) (a : Act) (w : World), plan.length ≤ fuel → planOk md ops plan listed = true → S w →
      wpPlanS P ops Q (plan.map fun x => ((ops[x.1]?).getD default, x.2)) S a w → wpAnyH P md ops Q S fuel listed a w := by
  intro plan
  induction plan with
  | nil =>
    intro S fuel listed a w _ hp _ h
    exact wpAnyH_done (by simpa [planOk] using hp) h fuel
  | cons x rest ih =>
    obtain ⟨i, q⟩ := x
    intro S fuel listed a w hf hp hS h
    cases fuel with
    | zero => simp at hf
    | succ fuel =>
      simp only [List.length_cons, Nat.add_le_add_iff_right] at hf
      simp only [planOk, Bool.and_eq_true] at hp
      obtain ⟨hp1, hp2⟩ := hp
      simp only [List.map_cons, wpPlanS] at h
      cases q with
      | true =>
        simp only [if_true, Bool.and_eq_true] at hp1
        have hi : ∃ o, ops[i]? = some o := by
          cases hoi : ops[i]? with
          | none => have := hp1.1; unfold Region.free at this; rw [hoi] at this; simp at this
          | some o => exact ⟨o, rfl⟩
        obtain ⟨o, ho⟩ := hi
        rw [ho] at h
        simp only [Option.getD_some] at h
        rcases h with ⟨hw, h⟩ | ⟨hw, ⟨_, v, hv, h⟩ | ⟨hq, _⟩⟩
        · exact wpAnyH_take ho hs hp1.1 hp1.2 (fun c a w h => hQ c _ _ a w h) (.inr ⟨hw, rfl⟩) hS (ih S fuel _ _ _ hf hp2 hS h)
        · exact wpAnyH_take ho hs hp1.1 hp1.2 (fun c a w h => hQ c _ _ a w h) (.inl ⟨hw, hv⟩) hS (ih S fuel _ _ _ hf hp2 hS h)
        · cases hq
      | false =>
        simp only [Bool.false_eq_true, if_false] at hp1
        have hr : Region.ready md ops listed = [i] := by simpa using hp1
        refine wpAnyH_all hr (by simp) (fun j hj => ?_)
        obtain rfl : j = i := by simpa using hj
        unfold wpOp
        have hi : ∃ o, ops[j]? = some o := by
          have hm : j ∈ Region.ready md ops listed := by rw [hr]; simp
          obtain ⟨_, oj, hoj, _⟩ := mem_ready.1 hm
          exact ⟨oj, hoj⟩
        obtain ⟨o, ho⟩ := hi
        rw [ho] at h ⊢
        simp only [Option.getD_some] at h
        simp only []
        rcases h with ⟨hw, h⟩ | ⟨hw, ⟨hq, _⟩ | ⟨_, h⟩⟩
        · rw [if_neg (by rw [hw]; simp)]
          exact ⟨hS, ih S fuel _ _ _ hf hp2 hS h⟩
        · cases hq
        · rw [if_pos hw]
          exact .inl (Oper.wp_mono (fun a' w' ⟨S', h0, h1, h2⟩ => ⟨h0 _ h1, wpAnyH_mono h0 _ _ _ _ (ih S' fuel _ _ _ hf hp2 h1 h2)⟩) h)

/-- The region, by a plan. -/
theorem wp_region_planS {id : Nat} (S : World → Prop) (plan : List (Nat × Bool)) (hm : P.follows .mixedOrders = true) (hs : Region.noSelect ops = true)
    (hp : planOk .any ops plan (Array.replicate ops.size false) = true) (hn : decide (plan.length ≤ ops.size) = true) (hQ : ∀ c d v a w, Q (.panic c) (Act.put a d v) w → Q (.panic c) a w) (hS : S w.drew)
    (h : wpPlanS P ops Q (plan.map fun x => ((ops[x.1]?).getD default, x.2)) S a w.drew) : (Code.region id ops true).wp P Q a w :=
  wp_region_held hm (planS_sound .any hs hQ plan S _ _ _ _ (of_decide_eq_true hn) hp hS h)
end
end Go.Proofs.Ytbifdckmkogbgaa
