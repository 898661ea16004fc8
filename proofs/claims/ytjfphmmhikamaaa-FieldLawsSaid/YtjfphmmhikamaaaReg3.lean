/- A region that draws its order, walked by a tree: where two operations may come up, both are walked. Nothing of the program stands here. -/
import Derived.Test.YtjfphmmhikamaaaReg2
namespace Go.Proofs.Ytjfphmmhikamaaa
open Go
inductive PT where
  | done
  | quiet (i : Nat) (t : PT)
  | eff (i : Nat) (t : PT)
  | two (i : Nat) (t : PT) (j : Nat) (u : PT)
def PT.len : PT → Nat
  | .done => 0
  | .quiet _ t => t.len + 1
  | .eff _ t => t.len + 1
  | .two _ t _ u => Nat.max t.len u.len + 1
def PT.ok (md : Region.Mode) (ops : Array Oper) : PT → Array Bool → Bool
  | .done, l => (Region.ready md ops l).isEmpty
  | .quiet i t, l => Region.free md ops l i && (Region.ready md ops l).contains i && t.ok md ops (l.setIfInBounds i true)
  | .eff i t, l => Region.ready md ops l == [i] && t.ok md ops (l.setIfInBounds i true)
  | .two i t j u, l => Region.ready md ops l == [i, j] && t.ok md ops (l.setIfInBounds i true) && u.ok md ops (l.setIfInBounds j true)
def PT.wp (P : Program) (ops : Array Oper) (Q : Exit → Act → World → Prop) : PT → (World → Prop) → Act → World → Prop
  | .done, _, a, w => Q .normal a w
  | .quiet i t, S, a, w => ∃ o, ops[i]? = some o ∧ Region.wanted o (yielded ops a.tmps) = true ∧ ∃ v, (∀ w', S w' → (execOp a.eval o).run P w' = .ok (.value v) w') ∧ t.wp P ops Q S (a.put o.dst v) w
  | .eff i t, S, a, w => ∃ o, ops[i]? = some o ∧ Region.wanted o (yielded ops a.tmps) = true ∧ o.wp P a w (fun a' w' => ∃ S' : World → Prop, (∀ x, S' x → S x) ∧ S' w' ∧ t.wp P ops Q S' a' w') Q
  | .two i t j u, S, a, w => (∃ o, ops[i]? = some o ∧ Region.wanted o (yielded ops a.tmps) = true ∧ o.wp P a w (fun a' w' => ∃ S' : World → Prop, (∀ x, S' x → S x) ∧ S' w' ∧ t.wp P ops Q S' a' w') Q) ∧
    (∃ o, ops[j]? = some o ∧ Region.wanted o (yielded ops a.tmps) = true ∧ o.wp P a w (fun a' w' => ∃ S' : World → Prop, (∀ x, S' x → S x) ∧ S' w' ∧ u.wp P ops Q S' a' w') Q)
section
variable {P : Program} {ops : Array Oper} {Q : Exit → Act → World → Prop} {S : World → Prop} {o : Oper} {a : Act} {w : World} {i : Nat} {t : PT}
theorem pt_quiet {v : Value} (ho : ops[i]? = some o) (hw : Region.wanted o (yielded ops a.tmps) = true) (hv : ∀ w', S w' → (execOp a.eval o).run P w' = .ok (.value v) w') {k : Tmp} (hk : o.dst = some k) (h : t.wp P ops Q S { a with tmps := a.tmps.setIfInBounds k v } w) : (PT.quiet i t).wp P ops Q S a w :=
  ⟨o, ho, hw, v, hv, by rw [hk]; exact h⟩
theorem pt_one (ho : ops[i]? = some o) (hw : Region.wanted o (yielded ops a.tmps) = true) (h : ∀ K : Act → World → Prop, (∀ (S' : World → Prop) a' w', (∀ x, S' x → S x) → S' w' → t.wp P ops Q S' a' w' → K a' w') → o.wp P a w K Q) :
    ∃ o, ops[i]? = some o ∧ Region.wanted o (yielded ops a.tmps) = true ∧ o.wp P a w (fun a' w' => ∃ S' : World → Prop, (∀ x, S' x → S x) ∧ S' w' ∧ t.wp P ops Q S' a' w') Q :=
  ⟨o, ho, hw, h _ (fun S' _ _ h0 h1 h2 => ⟨S', h0, h1, h2⟩)⟩
theorem pt_eff (ho : ops[i]? = some o) (hw : Region.wanted o (yielded ops a.tmps) = true) (h : ∀ K : Act → World → Prop, (∀ (S' : World → Prop) a' w', (∀ x, S' x → S x) → S' w' → t.wp P ops Q S' a' w' → K a' w') → o.wp P a w K Q) : (PT.eff i t).wp P ops Q S a w :=
  pt_one ho hw h
theorem pt_done (h : Q .normal a w) : PT.done.wp P ops Q S a w := h
theorem pt_sound (md : Region.Mode) (hs : Region.noSelect ops = true) (hQ : ∀ c d v a w, Q (.panic c) (Act.put a d v) w → Q (.panic c) a w) :
    ∀ (t : PT) (S : World → Prop) (fuel : Nat) (listed : Array Bool) (a : Act) (w : World), t.len ≤ fuel → t.ok md ops listed = true → S w → t.wp P ops Q S a w → wpAnyH P md ops Q S fuel listed a w := by
  have step : ∀ (i : Nat) (t : PT) (S : World → Prop) (fuel : Nat) (listed : Array Bool) (a : Act) (w : World),
      (∀ S' a w, S' w → t.wp P ops Q S' a w → wpAnyH P md ops Q S' fuel (listed.setIfInBounds i true) a w) →
      (∃ o, ops[i]? = some o ∧ Region.wanted o (yielded ops a.tmps) = true ∧ o.wp P a w (fun a' w' => ∃ S' : World → Prop, (∀ x, S' x → S x) ∧ S' w' ∧ t.wp P ops Q S' a' w') Q) →
      wpOp P ops Q i (fun a' w' => S w' ∧ wpAnyH P md ops Q S fuel (listed.setIfInBounds i true) a' w') a w := by
    intro i t S fuel listed a w ih ⟨o, ho, hw, h⟩
    unfold wpOp
    rw [ho]
    simp only []
    rw [if_pos hw]
    exact .inl (Oper.wp_mono (fun a' w' ⟨S', h0, h1, h2⟩ => ⟨h0 _ h1, wpAnyH_mono h0 _ _ _ _ (ih S' a' w' h1 h2)⟩) h)
  intro t
  induction t with
  | done =>
    intro S fuel listed a w _ hp _ h
    exact wpAnyH_done (by simpa [PT.ok] using hp) h fuel
  | quiet i t ih =>
    intro S fuel listed a w hf hp hS h
    cases fuel with
    | zero => simp [PT.len] at hf
    | succ fuel =>
      simp only [PT.len, Nat.add_le_add_iff_right] at hf
      simp only [PT.ok, Bool.and_eq_true] at hp
      obtain ⟨o, ho, hw, v, hv, h⟩ := h
      exact wpAnyH_take ho hs hp.1.1 hp.1.2 (fun c a w h => hQ c _ _ a w h) (.inl ⟨hw, hv⟩) hS (ih S fuel _ _ _ hf hp.2 hS h)
  | eff i t ih =>
    intro S fuel listed a w hf hp hS h
    cases fuel with
    | zero => simp [PT.len] at hf
    | succ fuel =>
      simp only [PT.len, Nat.add_le_add_iff_right] at hf
      simp only [PT.ok, Bool.and_eq_true] at hp
      have hr : Region.ready md ops listed = [i] := by simpa using hp.1
      refine wpAnyH_all hr (by simp) (fun j hj => ?_)
      obtain rfl : j = i := by simpa using hj
      exact step j t S fuel listed a w (fun S' a w hS' h' => ih S' fuel _ a w hf hp.2 hS' h') h
  | two i t j u iht ihu =>
    intro S fuel listed a w hf hp hS h
    cases fuel with
    | zero => simp [PT.len] at hf
    | succ fuel =>
      simp only [PT.len, Nat.add_le_add_iff_right] at hf
      have hf1 : t.len ≤ fuel := Nat.le_trans (Nat.le_max_left _ _) hf
      have hf2 : u.len ≤ fuel := Nat.le_trans (Nat.le_max_right _ _) hf
      simp only [PT.ok, Bool.and_eq_true] at hp
      have hr : Region.ready md ops listed = [i, j] := by simpa using hp.1.1
      refine wpAnyH_all hr (by simp) (fun k hk => ?_)
      rw [List.mem_cons, List.mem_singleton] at hk
      rcases hk with rfl | rfl
      · exact step k t S fuel listed a w (fun S' a w hS' h' => iht S' fuel _ a w hf1 hp.1.2 hS' h') h.1
      · exact step k u S fuel listed a w (fun S' a w hS' h' => ihu S' fuel _ a w hf2 hp.2 hS' h') h.2
/-- The region, by a tree. -/
theorem wp_region_tree {id : Nat} (S : World → Prop) (t : PT) (hm : P.follows .mixedOrders = true) (hs : Region.noSelect ops = true)
    (hp : t.ok .any ops (Array.replicate ops.size false) = true) (hn : decide (t.len ≤ ops.size) = true) (hQ : ∀ c d v a w, Q (.panic c) (Act.put a d v) w → Q (.panic c) a w) (hS : S w.drew)
    (h : t.wp P ops Q S a w.drew) : (Code.region id ops true).wp P Q a w :=
  wp_region_held hm (pt_sound .any hs hQ t S _ _ _ _ (of_decide_eq_true hn) hp hS h)
end
end Go.Proofs.Ytjfphmmhikamaaa
