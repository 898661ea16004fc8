/- A region that draws its order, walked by a tree: where two operations may come up, both are walked. Nothing of the program stands here. A region that draws its order, walked in one order: what is read ahead of the stores needs its condition only till the first of them (the wall). Nothing of the program stands here. A region that draws its order, walked by a tree: where two or three operations may come up, all are walked. Nothing of the program stands here. A region that draws its order, walked by a tree, with walls: what is read ahead of a store needs its condition only till then; an operation may wait for another one through any between. Nothing of the program stands here. -/
import Derived.Test.YtbifdckmkogbgaaReg2
namespace Go.Proofs.Ytbifdckmkogbgaa
open Go
inductive PT where
  | done
  | quiet (i : Nat) (t : PT)
  | eff (i : Nat) (t : PT)
  | two (i : Nat) (t : PT) (j : Nat) (u : PT)
def PT.len : PT → Nat
  | .done => 0
  | .quiet _ t => t.len + 1
  | .eff _ t => t.len + 1
  | .two _ t _ u => Nat.max t.len u.len + 1
def PT.ok (md : Region.Mode) (ops : Array Oper) : PT → Array Bool → Bool
  | .done, l => (Region.ready md ops l).isEmpty
  | .quiet i t, l => Region.free md ops l i && (Region.ready md ops l).contains i && t.ok md ops (l.setIfInBounds i true)
  | .eff i t, l => Region.ready md ops l == [i] && t.ok md ops (l.setIfInBounds i true)
  | .two i t j u, l => Region.ready md ops l == [i, j] && t.ok md ops (l.setIfInBounds i true) && u.ok md ops (l.setIfInBounds j true)
def PT.wp (P : Program) (ops : Array Oper) (Q : Exit → Act → World → Prop) : PT → (World → Prop) → Act → World → Prop
  | .done, _, a, w => Q .normal a w
  | .quiet i t, S, a, w => ∃ o, ops[i]? = some o ∧ Region.wanted o (yielded ops a.tmps) = true ∧ ∃ v, (∀ w', S w' → (execOp a.eval o).run P w' = .ok (.value v) w') ∧ t.wp P ops Q S (a.put o.dst v) w
  | .eff i t, S, a, w => ∃ o, ops[i]? = some o ∧ Region.wanted o (yielded ops a.tmps) = true ∧ o.wp P a w (fun a' w' => ∃ S' : World → Prop, (∀ x, S' x → S x) ∧ S' w' ∧ t.wp P ops Q S' a' w') Q
  | .two i t j u, S, a, w => (∃ o, ops[i]? = some o ∧ Region.wanted o (yielded ops a.tmps) = true ∧ o.wp P a w (fun a' w' => ∃ S' : World → Prop, (∀ x, S' x → S x) ∧ S' w' ∧ t.wp P ops Q S' a' w') Q) ∧
    (∃ o, ops[j]? = some o ∧ Region.wanted o (yielded ops a.tmps) = true ∧ o.wp P a w (fun a' w' => ∃ S' : World → Prop, (∀ x, S' x → S x) ∧ S' w' ∧ u.wp P ops Q S' a' w') Q)
section
variable {P : Program} {ops : Array Oper} {Q : Exit → Act → World → Prop} {S : World → Prop} {o : Oper} {a : Act} {w : World} {i : Nat} {t : PT}
theorem pt_quiet {v : Value} (ho : ops[i]? = some o) (hw : Region.wanted o (yielded ops a.tmps) = true) (hv : ∀ w', S w' → (execOp a.eval o).run P w' = .ok (.value v) w') {k : Tmp} (hk : o.dst = some k) (h : t.wp P ops Q S { a with tmps := a.tmps.setIfInBounds k v } w) : (PT.quiet i t).wp P ops Q S a w :=
  ⟨o, ho, hw, v, hv, by rw [hk]; exact h⟩
theorem pt_one (ho : ops[i]? = some o) (hw : Region.wanted o (yielded ops a.tmps) = true) (h : ∀ K : Act → World → Prop, (∀ (S' : World → Prop) a' w', (∀ x, S' x → S x) → S' w' → t.wp P ops Q S' a' w' → K a' w') → o.wp P a w K Q) :
    ∃ o, ops[i]? = some o ∧ Region.wanted o (yielded ops a.tmps) = true ∧ o.wp P a w (fun a' w' => ∃ S' : World → Prop, (∀ x, S' x → S x) ∧ S' w' ∧ t.wp P ops Q S' a' w') Q :=
  ⟨o, ho, hw, h _ (fun S' _ _ h0 h1 h2 => ⟨S', h0, h1, h2⟩)⟩
theorem pt_eff (ho : ops[i]? = some o) (hw : Region.wanted o (yielded ops a.tmps) = true) (h : ∀ K : Act → World → Prop, (∀ (S' : World → Prop) a' w', (∀ x, S' x → S x) → S' w' → t.wp P ops Q S' a' w' → K a' w') → o.wp P a w K Q) : (PT.eff i t).wp P ops Q S a w :=
  pt_one ho hw h
theorem pt_done (h : Q .normal a w) : PT.done.wp P ops Q S a w := h
theorem pt_sound (md : Region.Mode) (hs : Region.noSelect ops = true) (hQ : ∀ c d v a w, Q (.panic c) (Act.put a d v) w → Q (.panic c) a w) :
    ∀ (t : PT) (S : World → Prop) (fuel : Nat) (listed : Array Bool) (a : Act) (w : World), t.len ≤ fuel → t.ok md ops listed = true → S w → t.wp P ops Q S a w → wpAnyH P md ops Q S fuel listed a w := by
  have step : ∀ (i : Nat) (t : PT) (S : World → Prop) (fuel : Nat) (listed : Array Bool) (a : Act) (w : World),
      (∀ S' a w, S' w → t.wp P ops Q S' a w → wpAnyH P md ops Q S' fuel (listed.setIfInBounds i true) a w) →
      (∃ o, ops[i]? = some o ∧ Region.wanted o (yielded ops a.tmps) = true ∧ o.wp P a w (fun a' w' => ∃ S' : World → Prop, (∀ x, S' x → S x) ∧ S' w' ∧ t.wp P ops Q S' a' w') Q) →
      wpOp P ops Q i (fun a' w' => S w' ∧ wpAnyH P md ops Q S fuel (listed.setIfInBounds i true) a' w') a w := by
    intro i t S fuel listed a w ih ⟨o, ho, hw, h⟩
    unfold wpOp
    rw [ho]
    simp only []
    rw [if_pos hw]
    exact .inl (Oper.wp_mono (fun a' w' ⟨S', h0, h1, h2⟩ => ⟨h0 _ h1, wpAnyH_mono h0 _ _ _ _ (ih S' a' w' h1 h2)⟩) h)
  intro t
  induction t with
  | done =>
    intro S fuel listed a w _ hp _ h
    exact wpAnyH_done (by simpa [PT.ok] using hp) h fuel
  | quiet i t ih =>
    intro S fuel listed a w hf hp hS h
    cases fuel with
    | zero => simp [PT.len] at hf
    | succ fuel =>
      simp only [PT.len, Nat.add_le_add_iff_right] at hf
      simp only [PT.ok, Bool.and_eq_true] at hp
      obtain ⟨o, ho, hw, v, hv, h⟩ := h
      exact wpAnyH_take ho hs hp.1.1 hp.1.2 (fun c a w h => hQ c _ _ a w h) (.inl ⟨hw, hv⟩) hS (ih S fuel _ _ _ hf hp.2 hS h)
  | eff i t ih =>
    intro S fuel listed a w hf hp hS h
    cases fuel with
    | zero => simp [PT.len] at hf
    | succ fuel =>
      simp only [PT.len, Nat.add_le_add_iff_right] at hf
      simp only [PT.ok, Bool.and_eq_true] at hp
      have hr : Region.ready md ops listed = [i] := by simpa using hp.1
      refine wpAnyH_all hr (by simp) (fun j hj => ?_)
      obtain rfl : j = i := by simpa using hj
      exact step j t S fuel listed a w (fun S' a w hS' h' => ih S' fuel _ a w hf hp.2 hS' h') h
  | two i t j u iht ihu =>
    intro S fuel listed a w hf hp hS h
    cases fuel with
    | zero => simp [PT.len] at hf
    | succ fuel =>
      simp only [PT.len, Nat.add_le_add_iff_right] at hf
      have hf1 : t.len ≤ fuel := Nat.le_trans (Nat.le_max_left _ _) hf
      have hf2 : u.len ≤ fuel := Nat.le_trans (Nat.le_max_right _ _) hf
      simp only [PT.ok, Bool.and_eq_true] at hp
      have hr : Region.ready md ops listed = [i, j] := by simpa using hp.1.1
      refine wpAnyH_all hr (by simp) (fun k hk => ?_)
      rw [List.mem_cons, List.mem_singleton] at hk
      rcases hk with rfl | rfl
      · exact step k t S fuel listed a w (fun S' a w hS' h' => iht S' fuel _ a w hf1 hp.1.2 hS' h') h.1
      · exact step k u S fuel listed a w (fun S' a w hS' h' => ihu S' fuel _ a w hf2 hp.2 hS' h') h.2
/-- The region, by a tree. -/
theorem wp_region_tree {id : Nat} (S : World → Prop) (t : PT) (hm : P.follows .mixedOrders = true) (hs : Region.noSelect ops = true)
    (hp : t.ok .any ops (Array.replicate ops.size false) = true) (hn : decide (t.len ≤ ops.size) = true) (hQ : ∀ c d v a w, Q (.panic c) (Act.put a d v) w → Q (.panic c) a w) (hS : S w.drew)
    (h : t.wp P ops Q S a w.drew) : (Code.region id ops true).wp P Q a w :=
  wp_region_held hm (pt_sound .any hs hQ t S _ _ _ _ (of_decide_eq_true hn) hp hS h)
end
end Go.Proofs.Ytbifdckmkogbgaa
namespace Go.Proofs.Ytbifdckmkogbgaa
open Go
section
variable {P : Program} {ops : Array Oper} {Q : Exit → Act → World → Prop} {md : Region.Mode}
/-- As long as none of B has come up, S holds. -/
def heldTill (B : List Nat) (S : World → Prop) (l : Array Bool) (w : World) : Prop := (∀ b, b ∈ B → l.getD b true = false) → S w
def wpAnyG (P : Program) (md : Region.Mode) (ops : Array Oper) (Q : Exit → Act → World → Prop) (B : List Nat) (S : World → Prop) : Nat → Array Bool → Act → World → Prop
  | 0, listed, a, w => Region.ready md ops listed = [] ∧ Q .normal a w
  | fuel + 1, listed, a, w =>
    (Region.ready md ops listed = [] → Q .normal a w) ∧
    ∀ i ∈ Region.ready md ops listed, wpOp P ops Q i (fun a' w' => heldTill B S (listed.setIfInBounds i true) w' ∧ wpAnyG P md ops Q B S fuel (listed.setIfInBounds i true) a' w') a w
theorem wpAny_of_G {B : List Nat} {S : World → Prop} : ∀ (fuel : Nat) (listed : Array Bool) (a : Act) (w : World), wpAnyG P md ops Q B S fuel listed a w → wpAny P md ops Q fuel listed a w
  | 0, _, _, _, h => h
  | fuel + 1, _, _, _, h => ⟨h.1, fun i hi => wpOp_mono (fun a' w' h' => wpAny_of_G fuel _ a' w' h'.2) (h.2 i hi)⟩
theorem wpAnyG_mono {B : List Nat} {S S' : World → Prop} (hSS : ∀ w, S' w → S w) :
    ∀ (fuel : Nat) (listed : Array Bool) (a : Act) (w : World), wpAnyG P md ops Q B S' fuel listed a w → wpAnyG P md ops Q B S fuel listed a w
  | 0, _, _, _, h => h
  | fuel + 1, _, _, _, h => ⟨h.1, fun i hi => wpOp_mono (fun a' w' h' => ⟨fun hb => hSS _ (h'.1 hb), wpAnyG_mono hSS fuel _ a' w' h'.2⟩) (h.2 i hi)⟩
theorem set_true {l : Array Bool} {b i : Nat} (h : l.getD b true = true) : (l.setIfInBounds i true).getD b true = true := by
  by_cases hib : i = b
  · subst hib
    by_cases hl : i < l.size
    · simp [hl]
    · simp [hl]
  · rw [getD_set_ne true hib]
    exact h
theorem wpAnyG_drop {B : List Nat} {S : World → Prop} {b : Nat} (hb : b ∈ B) : ∀ (fuel : Nat) (listed : Array Bool) (a : Act) (w : World), listed.getD b true = true → wpAnyG P md ops Q [] (fun _ => True) fuel listed a w → wpAnyG P md ops Q B S fuel listed a w
  | 0, _, _, _, _, h => h
  | fuel + 1, _, _, _, hl, h => ⟨h.1, fun i hi => wpOp_mono (fun a' w' h' => ⟨(fun hn => (by have := hn b hb; rw [set_true hl] at this; cases this)), wpAnyG_drop hb fuel _ a' w' (set_true hl) h'.2⟩) (h.2 i hi)⟩
/-- Does b wait for i, at once? -/
def waits1 (md : Region.Mode) (ops : Array Oper) (b i : Nat) : Bool := match ops[b]? with
  | some o => o.after.any (fun e => Region.binds md e && Nat.beq e.on i)
  | none => false
/-- Does b wait for i, at once or by one between? -/
def waits (md : Region.Mode) (ops : Array Oper) (b i : Nat) : Bool := waits1 md ops b i || (match ops[b]? with
  | some o => o.after.any (fun e => Region.binds md e && waits1 md ops e.on i)
  | none => false)
/-- Whatever has come up, what it waits for has come up. -/
def Closed (md : Region.Mode) (ops : Array Oper) (l : Array Bool) : Prop := ∀ j o, ops[j]? = some o → l.getD j false = true → ∀ e ∈ o.after, Region.binds md e = true → l.getD e.on false = true
theorem getD_set_true {l : Array Bool} {k i : Nat} (h : l.getD k false = true) : (l.setIfInBounds i true).getD k false = true := by
  by_cases hik : i = k
  · subst hik
    by_cases hl : i < l.size
    · simp [hl]
    · simp [hl] at h
  · rw [getD_set_ne false hik]
    exact h
theorem Closed.set {l : Array Bool} (h : Closed md ops l) {i : Nat} (hi : i ∈ Region.ready md ops l) : Closed md ops (l.setIfInBounds i true) := by
  intro j o hj hlj e he hb
  by_cases hij : i = j
  · subst hij
    obtain ⟨_, oi, hoi, hall⟩ := mem_ready.1 hi
    rw [hj] at hoi
    cases hoi
    have := hall e he hb
    exact getD_set_true (by simpa using this)
  · rw [getD_set_ne false hij] at hlj
    exact getD_set_true (h j o hj hlj e he hb)
theorem listed_no {i : Nat} {listed : Array Bool} (hi : listed.getD i true = false) (h : listed.getD i false = true) : False := by
  rcases Nat.lt_or_ge i listed.size with h' | h'
  · simp [h'] at hi h
    rw [hi] at h
    cases h
  · simp [Array.getElem?_eq_none h'] at hi
theorem waits_not {b i : Nat} {listed : Array Bool} (hc : Closed md ops listed) (hw : waits md ops b i = true) (hi : listed.getD i true = false) : ¬ b ∈ Region.ready md ops listed := by
  intro hb
  obtain ⟨_, ob, hob, hall⟩ := mem_ready.1 hb
  unfold waits at hw
  rw [hob, Bool.or_eq_true] at hw
  rcases hw with hw | hw
  · unfold waits1 at hw
    rw [hob] at hw
    simp only [Array.any_eq_true', Bool.and_eq_true] at hw
    obtain ⟨e, he, hbind, hon⟩ := hw
    have := hall e he hbind
    rw [Nat.eq_of_beq_eq_true hon] at this
    exact listed_no hi (by simpa using this)
  · simp only [Array.any_eq_true', Bool.and_eq_true] at hw
    obtain ⟨e, he, hbind, hon⟩ := hw
    have h1 := hall e he hbind
    unfold waits1 at hon
    cases hm : ops[e.on]? with
    | none => rw [hm] at hon; cases hon
    | some om =>
      rw [hm] at hon
      simp only [Array.any_eq_true', Bool.and_eq_true] at hon
      obtain ⟨e2, he2, hb2, hon2⟩ := hon
      have h2 := hc e.on om hm (by simpa using h1) e2 he2 hb2
      rw [Nat.eq_of_beq_eq_true hon2] at h2
      exact listed_no hi h2
/-- Whoever could still come ahead of i is apart from it. -/
def Lone (md : Region.Mode) (ops : Array Oper) (i : Nat) (oi : Oper) (l : Array Bool) : Prop := ∀ j oj, ops[j]? = some oj → j ≠ i → l.getD j true = false → (∀ e ∈ oj.after, Region.binds md e = true → e.on ≠ i) → oi.apart ops oj = true
theorem unset {l : Array Bool} {j k : Nat} (h : (l.setIfInBounds j true).getD k true = false) : l.getD k true = false := by
  cases hk : l.getD k true
  · rfl
  · rw [set_true hk] at h
    exact h
theorem Lone.set {i j : Nat} {oi : Oper} {l : Array Bool} (h : Lone md ops i oi l) : Lone md ops i oi (l.setIfInBounds j true) := fun k ok hk hki hun hno => h k ok hk hki (unset hun) hno
theorem none_waits {i j : Nat} {oj : Oper} {l : Array Bool} (hi : l.getD i true = false) (hj : j ∈ Region.ready md ops l) (hoj : ops[j]? = some oj) : ∀ e ∈ oj.after, Region.binds md e = true → e.on ≠ i := by
  intro e he hb heq
  obtain ⟨_, o, ho, hall⟩ := mem_ready.1 hj
  rw [hoj] at ho
  cases ho
  exact listed_no hi (heq ▸ hall e he hb)
/-- What yields its value as long as S holds may be taken first, if all of B wait for it. -/
theorem wpAnyG_first {B : List Nat} {S : World → Prop} {i : Nat} {oi : Oper} {v : Value} (hi : ops[i]? = some oi) (hsel : ∀ (j : Nat) (o : Oper) cs b, ops[j]? = some o → o.op ≠ .select cs b)
    (hQ : ∀ c a w, Q (.panic c) (a.put oi.dst v) w → Q (.panic c) a w) (hwait : ∀ b, b ∈ B → waits md ops b i = true ∧ b ≠ i) (fuel : Nat) :
    ∀ (l : Array Bool) (a : Act) (w : World), Lone md ops i oi l → (∀ b, b ∈ B → l.getD b true = false) → Closed md ops l → i ∈ Region.ready md ops l → YieldsIf P ops S oi v a → S w →
      wpAnyG P md ops Q B S fuel (l.setIfInBounds i true) (a.put oi.dst v) w → wpAnyG P md ops Q B S (fuel + 1) l a w := by
  induction fuel with
  | zero =>
    intro l a w _ _ _ hr hy hS H
    constructor
    · intro h
      rw [h] at hr
      exact absurd hr List.not_mem_nil
    · intro j hj
      rcases Decidable.em (j = i) with rfl | hne
      · exact YieldsIf.wpOp hi hy hS ⟨fun _ => hS, H⟩
      · have := ready_mono hj hne
        rw [H.1] at this
        exact absurd this List.not_mem_nil
  | succ n ih =>
    intro l a w hl hB hcl hr hy hS H
    constructor
    · intro h
      rw [h] at hr
      exact absurd hr List.not_mem_nil
    · intro j hj
      rcases Decidable.em (j = i) with rfl | hne
      · exact YieldsIf.wpOp hi hy hS ⟨fun _ => hS, H⟩
      · have hiu := (mem_ready.1 hr).1
        obtain ⟨hju, oj, hoj, _⟩ := mem_ready.1 hj
        have hw := none_waits hiu hj hoj
        have out : ∀ b, b ∈ B → j ≠ b := by
          rintro b hb rfl
          exact waits_not hcl (hwait j hb).1 hiu hj
        have step := wpOp_putIf hoj (hl j oj hoj hne hju hw) (fun cs b => hsel i oi cs b hi) (fun cs b => hsel j oj cs b hoj) hQ hy (H.2 j (ready_mono hj hne))
        apply wpOp_mono _ step
        rintro a' w' ⟨y', s', H'⟩
        have S' : S w' := s' (fun b hb => by
          rw [getD_set_ne true (out b hb), getD_set_ne true (Ne.symm (hwait b hb).2)]
          exact hB b hb)
        refine ⟨fun _ => S', ih _ a' w' hl.set (fun b hb => ?_) (hcl.set hj) (ready_mono hr (Ne.symm hne)) y' S' ?_⟩
        · rw [getD_set_ne true (out b hb)]
          exact hB b hb
        · rw [Array.setIfInBounds_comm _ _ hne]
          exact H'
inductive PW where
  | done
  | quiet (i : Nat) (t : PW)
  | eff (i : Nat) (t : PW)
  | wall (i : Nat) (t : PW)
def PW.len : PW → Nat
  | .done => 0
  | .quiet _ t => t.len + 1
  | .eff _ t => t.len + 1
  | .wall _ t => t.len + 1
def PW.ok (md : Region.Mode) (ops : Array Oper) : PW → List Nat → Array Bool → Bool
  | .done, _, l => (Region.ready md ops l).isEmpty
  | .quiet i t, B, l => Region.free md ops l i && (Region.ready md ops l).contains i && B.all (fun b => waits md ops b i && !(Nat.beq b i) && !(l.getD b true)) && t.ok md ops B (l.setIfInBounds i true)
  | .eff i t, B, l => Region.ready md ops l == [i] && t.ok md ops B (l.setIfInBounds i true)
  | .wall i t, B, l => Region.ready md ops l == [i] && B.contains i && decide (i < l.size) && t.ok md ops [] (l.setIfInBounds i true)
def PW.wp (P : Program) (ops : Array Oper) (Q : Exit → Act → World → Prop) : PW → (World → Prop) → Act → World → Prop
  | .done, _, a, w => Q .normal a w
  | .quiet i t, S, a, w => ∃ o, ops[i]? = some o ∧ ((Region.wanted o (yielded ops a.tmps) = false ∧ t.wp P ops Q S (a.put o.dst undef) w) ∨ (Region.wanted o (yielded ops a.tmps) = true ∧ ∃ v, (∀ w', S w' → (execOp a.eval o).run P w' = .ok (.value v) w') ∧ t.wp P ops Q S (a.put o.dst v) w))
  | .eff i t, S, a, w => ∃ o, ops[i]? = some o ∧ ((Region.wanted o (yielded ops a.tmps) = false ∧ t.wp P ops Q S (a.put o.dst undef) w) ∨ Region.wanted o (yielded ops a.tmps) = true ∧ o.wp P a w (fun a' w' => ∃ S' : World → Prop, (∀ x, S' x → S x) ∧ S' w' ∧ t.wp P ops Q S' a' w') Q)
  | .wall i t, _, a, w => ∃ o, ops[i]? = some o ∧ Region.wanted o (yielded ops a.tmps) = true ∧ o.wp P a w (fun a' w' => t.wp P ops Q (fun _ => True) a' w') Q
variable {S : World → Prop} {o : Oper} {a : Act} {w : World} {i : Nat} {t : PW}
theorem pw_quiet {v : Value} (ho : ops[i]? = some o) (hw : Region.wanted o (yielded ops a.tmps) = true) (hv : ∀ w', S w' → (execOp a.eval o).run P w' = .ok (.value v) w') {k : Tmp} (hk : o.dst = some k) (h : t.wp P ops Q S { a with tmps := a.tmps.setIfInBounds k v } w) : (PW.quiet i t).wp P ops Q S a w :=
  ⟨o, ho, .inr ⟨hw, v, hv, by rw [hk]; exact h⟩⟩
theorem pw_skip (ho : ops[i]? = some o) (hw : Region.wanted o (yielded ops a.tmps) = false) {k : Tmp} (hk : o.dst = some k) (h : t.wp P ops Q S { a with tmps := a.tmps.setIfInBounds k undef } w) : (PW.quiet i t).wp P ops Q S a w :=
  ⟨o, ho, .inl ⟨hw, by rw [hk]; exact h⟩⟩
theorem pw_skipE (ho : ops[i]? = some o) (hw : Region.wanted o (yielded ops a.tmps) = false) {k : Tmp} (hk : o.dst = some k) (h : t.wp P ops Q S { a with tmps := a.tmps.setIfInBounds k undef } w) : (PW.eff i t).wp P ops Q S a w :=
  ⟨o, ho, .inl ⟨hw, by rw [hk]; exact h⟩⟩
theorem pw_eff (ho : ops[i]? = some o) (hw : Region.wanted o (yielded ops a.tmps) = true) (h : ∀ K : Act → World → Prop, (∀ (S' : World → Prop) a' w', (∀ x, S' x → S x) → S' w' → t.wp P ops Q S' a' w' → K a' w') → o.wp P a w K Q) : (PW.eff i t).wp P ops Q S a w :=
  ⟨o, ho, .inr ⟨hw, h _ (fun S' _ _ h0 h1 h2 => ⟨S', h0, h1, h2⟩)⟩⟩
theorem pw_wall (ho : ops[i]? = some o) (hw : Region.wanted o (yielded ops a.tmps) = true) (h : ∀ K : Act → World → Prop, (∀ a' w', t.wp P ops Q (fun _ => True) a' w' → K a' w') → o.wp P a w K Q) : (PW.wall i t).wp P ops Q S a w :=
  ⟨o, ho, hw, h _ (fun _ _ h => h)⟩
theorem pw_done (h : Q .normal a w) : PW.done.wp P ops Q S a w := h
theorem wpAnyG_done {B : List Nat} {listed : Array Bool} (hr : Region.ready md ops listed = []) (h : Q .normal a w) :
    ∀ fuel, wpAnyG P md ops Q B S fuel listed a w
  | 0 => ⟨hr, h⟩
  | _ + 1 => ⟨fun _ => h, by rw [hr]; simp⟩
theorem pw_sound (md : Region.Mode) (hs : Region.noSelect ops = true) (hQ : ∀ c d v a w, Q (.panic c) (Act.put a d v) w → Q (.panic c) a w) :
    ∀ (t : PW) (B : List Nat) (S : World → Prop) (fuel : Nat) (listed : Array Bool) (a : Act) (w : World), t.len ≤ fuel → t.ok md ops B listed = true → Closed md ops listed → S w → t.wp P ops Q S a w → wpAnyG P md ops Q B S fuel listed a w := by
  intro t
  induction t with
  | done =>
    intro B S fuel listed a w _ hp _ _ h
    exact wpAnyG_done (by simpa [PW.ok] using hp) h fuel
  | quiet i t ih =>
    intro B S fuel listed a w hf hp hcl hS h
    cases fuel with
    | zero => simp [PW.len] at hf
    | succ fuel =>
      simp only [PW.len, Nat.add_le_add_iff_right] at hf
      simp only [PW.ok, Bool.and_eq_true, List.all_eq_true, Bool.not_eq_true'] at hp
      obtain ⟨⟨⟨p1, p2⟩, p3⟩, p4⟩ := hp
      obtain ⟨o, ho, hh⟩ := h
      have key : ∀ v, YieldsIf P ops S o v a → t.wp P ops Q S (a.put o.dst v) w → wpAnyG P md ops Q B S (fuel + 1) listed a w := fun v hy h => wpAnyG_first ho (Region.noSelect_spec hs) (fun c a w h => hQ c _ _ a w h) (fun b hb => ⟨(p3 b hb).1.1, (fun e => (by have := (p3 b hb).1.2; rw [e, Nat.beq_refl] at this; cases this))⟩) fuel listed a w (Region.free_spec ho p1) (fun b hb => (p3 b hb).2) hcl (by simpa using p2) hy hS (ih B S fuel _ _ _ hf p4 (hcl.set (by simpa using p2)) hS h)
      rcases hh with ⟨hw, h⟩ | ⟨hw, v, hv, h⟩
      · exact key _ (.inr ⟨hw, rfl⟩) h
      · exact key v (.inl ⟨hw, hv⟩) h
  | eff i t ih =>
    intro B S fuel listed a w hf hp hcl hS h
    cases fuel with
    | zero => simp [PW.len] at hf
    | succ fuel =>
      simp only [PW.len, Nat.add_le_add_iff_right] at hf
      simp only [PW.ok, Bool.and_eq_true] at hp
      have hr : Region.ready md ops listed = [i] := by simpa using hp.1
      refine ⟨(fun h0 => (by rw [hr] at h0; cases h0)), fun j hj => ?_⟩
      obtain rfl : j = i := by have hj2 := hj; rw [hr] at hj2; simpa using hj2
      obtain ⟨o, ho, ⟨hw, h⟩ | ⟨hw, h⟩⟩ := h
      · unfold wpOp
        rw [ho]
        simp only []
        rw [if_neg (by rw [hw]; simp)]
        exact ⟨fun _ => hS, ih B S fuel _ _ _ hf hp.2 (hcl.set hj) hS h⟩
      unfold wpOp
      rw [ho]
      simp only []
      rw [if_pos hw]
      exact .inl (Oper.wp_mono (fun a' w' ⟨S', h0, h1, h2⟩ => ⟨fun _ => h0 _ h1, wpAnyG_mono h0 _ _ _ _ (ih B S' fuel _ a' w' hf hp.2 (hcl.set hj) h1 h2)⟩) h)
  | wall i t ih =>
    intro B S fuel listed a w hf hp hcl hS h
    cases fuel with
    | zero => simp [PW.len] at hf
    | succ fuel =>
      simp only [PW.len, Nat.add_le_add_iff_right] at hf
      simp only [PW.ok, Bool.and_eq_true, decide_eq_true_eq] at hp
      obtain ⟨⟨⟨p1, p2⟩, p3⟩, p4⟩ := hp
      have hr : Region.ready md ops listed = [i] := by simpa using p1
      refine ⟨(fun h0 => (by rw [hr] at h0; cases h0)), fun j hj => ?_⟩
      obtain rfl : j = i := by have hj2 := hj; rw [hr] at hj2; simpa using hj2
      obtain ⟨o, ho, hw, h⟩ := h
      have hjB : j ∈ B := by simpa using p2
      have hset : (listed.setIfInBounds j true).getD j true = true := by simp [p3]
      unfold wpOp
      rw [ho]
      simp only []
      rw [if_pos hw]
      exact .inl (Oper.wp_mono (fun a' w' h2 => ⟨(fun hn => (by have := hn j hjB; rw [hset] at this; cases this)), wpAnyG_drop hjB _ _ _ _ hset (ih [] (fun _ => True) fuel _ a' w' hf p4 (hcl.set hj) trivial h2)⟩) h)
theorem closed_none (md : Region.Mode) (ops : Array Oper) (n : Nat) : Closed md ops (Array.replicate n false) := by
  intro j o _ h
  exfalso
  by_cases hj : j < n
  · simp [hj] at h
  · simp [hj] at h
/-- The region, in one order, with a wall. -/
theorem wp_region_wall {id : Nat} (B : List Nat) (S : World → Prop) (t : PW) (hm : P.follows .mixedOrders = true) (hs : Region.noSelect ops = true)
    (hp : t.ok .any ops B (Array.replicate ops.size false) = true) (hn : decide (t.len ≤ ops.size) = true) (hQ : ∀ c d v a w, Q (.panic c) (Act.put a d v) w → Q (.panic c) a w) (hS : S w.drew)
    (h : t.wp P ops Q S a w.drew) : (Code.region id ops true).wp P Q a w :=
  wp_region_any hm (wpAny_of_G _ _ _ _ (pw_sound .any hs hQ t B S _ _ _ _ (of_decide_eq_true hn) hp (closed_none _ _ _) hS h))
end
end Go.Proofs.Ytbifdckmkogbgaa
namespace Go.Proofs.Ytbifdckmkogbgaa
open Go
inductive PU where
  | done
  | quiet (i : Nat) (t : PU)
  | eff (i : Nat) (t : PU)
  | two (i : Nat) (t : PU) (j : Nat) (u : PU)
  | three (i : Nat) (t : PU) (j : Nat) (u : PU) (k : Nat) (v : PU)
def PU.len : PU → Nat
  | .done => 0
  | .quiet _ t => t.len + 1
  | .eff _ t => t.len + 1
  | .two _ t _ u => Nat.max t.len u.len + 1
  | .three _ t _ u _ v => Nat.max t.len (Nat.max u.len v.len) + 1
def PU.ok (md : Region.Mode) (ops : Array Oper) : PU → Array Bool → Bool
  | .done, l => (Region.ready md ops l).isEmpty
  | .quiet i t, l => Region.free md ops l i && (Region.ready md ops l).contains i && t.ok md ops (l.setIfInBounds i true)
  | .eff i t, l => Region.ready md ops l == [i] && t.ok md ops (l.setIfInBounds i true)
  | .two i t j u, l => Region.ready md ops l == [i, j] && t.ok md ops (l.setIfInBounds i true) && u.ok md ops (l.setIfInBounds j true)
  | .three i t j u k v, l => Region.ready md ops l == [i, j, k] && t.ok md ops (l.setIfInBounds i true) && u.ok md ops (l.setIfInBounds j true) && v.ok md ops (l.setIfInBounds k true)
def PU.wp (P : Program) (ops : Array Oper) (Q : Exit → Act → World → Prop) : PU → (World → Prop) → Act → World → Prop
  | .done, _, a, w => Q .normal a w
  | .quiet i t, S, a, w => ∃ o, ops[i]? = some o ∧ Region.wanted o (yielded ops a.tmps) = true ∧ ∃ v, (∀ w', S w' → (execOp a.eval o).run P w' = .ok (.value v) w') ∧ t.wp P ops Q S (a.put o.dst v) w
  | .eff i t, S, a, w => ∃ o, ops[i]? = some o ∧ Region.wanted o (yielded ops a.tmps) = true ∧ o.wp P a w (fun a' w' => ∃ S' : World → Prop, (∀ x, S' x → S x) ∧ S' w' ∧ t.wp P ops Q S' a' w') Q
  | .two i t j u, S, a, w => (∃ o, ops[i]? = some o ∧ Region.wanted o (yielded ops a.tmps) = true ∧ o.wp P a w (fun a' w' => ∃ S' : World → Prop, (∀ x, S' x → S x) ∧ S' w' ∧ t.wp P ops Q S' a' w') Q) ∧
    (∃ o, ops[j]? = some o ∧ Region.wanted o (yielded ops a.tmps) = true ∧ o.wp P a w (fun a' w' => ∃ S' : World → Prop, (∀ x, S' x → S x) ∧ S' w' ∧ u.wp P ops Q S' a' w') Q)
  | .three i t j u k v, S, a, w => (∃ o, ops[i]? = some o ∧ Region.wanted o (yielded ops a.tmps) = true ∧ o.wp P a w (fun a' w' => ∃ S' : World → Prop, (∀ x, S' x → S x) ∧ S' w' ∧ t.wp P ops Q S' a' w') Q) ∧
    (∃ o, ops[j]? = some o ∧ Region.wanted o (yielded ops a.tmps) = true ∧ o.wp P a w (fun a' w' => ∃ S' : World → Prop, (∀ x, S' x → S x) ∧ S' w' ∧ u.wp P ops Q S' a' w') Q) ∧
    (∃ o, ops[k]? = some o ∧ Region.wanted o (yielded ops a.tmps) = true ∧ o.wp P a w (fun a' w' => ∃ S' : World → Prop, (∀ x, S' x → S x) ∧ S' w' ∧ v.wp P ops Q S' a' w') Q)
section
variable {P : Program} {ops : Array Oper} {Q : Exit → Act → World → Prop} {S : World → Prop} {o : Oper} {a : Act} {w : World} {i : Nat} {t : PU}
theorem pu_quiet {v : Value} (ho : ops[i]? = some o) (hw : Region.wanted o (yielded ops a.tmps) = true) (hv : ∀ w', S w' → (execOp a.eval o).run P w' = .ok (.value v) w') {k : Tmp} (hk : o.dst = some k) (h : t.wp P ops Q S { a with tmps := a.tmps.setIfInBounds k v } w) : (PU.quiet i t).wp P ops Q S a w :=
  ⟨o, ho, hw, v, hv, by rw [hk]; exact h⟩
theorem pu_one (ho : ops[i]? = some o) (hw : Region.wanted o (yielded ops a.tmps) = true) (h : ∀ K : Act → World → Prop, (∀ (S' : World → Prop) a' w', (∀ x, S' x → S x) → S' w' → t.wp P ops Q S' a' w' → K a' w') → o.wp P a w K Q) :
    ∃ o, ops[i]? = some o ∧ Region.wanted o (yielded ops a.tmps) = true ∧ o.wp P a w (fun a' w' => ∃ S' : World → Prop, (∀ x, S' x → S x) ∧ S' w' ∧ t.wp P ops Q S' a' w') Q :=
  ⟨o, ho, hw, h _ (fun S' _ _ h0 h1 h2 => ⟨S', h0, h1, h2⟩)⟩
theorem pu_eff (ho : ops[i]? = some o) (hw : Region.wanted o (yielded ops a.tmps) = true) (h : ∀ K : Act → World → Prop, (∀ (S' : World → Prop) a' w', (∀ x, S' x → S x) → S' w' → t.wp P ops Q S' a' w' → K a' w') → o.wp P a w K Q) : (PU.eff i t).wp P ops Q S a w :=
  pu_one ho hw h
theorem pu_done (h : Q .normal a w) : PU.done.wp P ops Q S a w := h
theorem pu_sound (md : Region.Mode) (hs : Region.noSelect ops = true) (hQ : ∀ c d v a w, Q (.panic c) (Act.put a d v) w → Q (.panic c) a w) :
    ∀ (t : PU) (S : World → Prop) (fuel : Nat) (listed : Array Bool) (a : Act) (w : World), t.len ≤ fuel → t.ok md ops listed = true → S w → t.wp P ops Q S a w → wpAnyH P md ops Q S fuel listed a w := by
  have step : ∀ (i : Nat) (t : PU) (S : World → Prop) (fuel : Nat) (listed : Array Bool) (a : Act) (w : World),
      (∀ S' a w, S' w → t.wp P ops Q S' a w → wpAnyH P md ops Q S' fuel (listed.setIfInBounds i true) a w) →
      (∃ o, ops[i]? = some o ∧ Region.wanted o (yielded ops a.tmps) = true ∧ o.wp P a w (fun a' w' => ∃ S' : World → Prop, (∀ x, S' x → S x) ∧ S' w' ∧ t.wp P ops Q S' a' w') Q) →
      wpOp P ops Q i (fun a' w' => S w' ∧ wpAnyH P md ops Q S fuel (listed.setIfInBounds i true) a' w') a w := by
    intro i t S fuel listed a w ih ⟨o, ho, hw, h⟩
    unfold wpOp
    rw [ho]
    simp only []
    rw [if_pos hw]
    exact .inl (Oper.wp_mono (fun a' w' ⟨S', h0, h1, h2⟩ => ⟨h0 _ h1, wpAnyH_mono h0 _ _ _ _ (ih S' a' w' h1 h2)⟩) h)
  intro t
  induction t with
  | done =>
    intro S fuel listed a w _ hp _ h
    exact wpAnyH_done (by simpa [PU.ok] using hp) h fuel
  | quiet i t ih =>
    intro S fuel listed a w hf hp hS h
    cases fuel with
    | zero => simp [PU.len] at hf
    | succ fuel =>
      simp only [PU.len, Nat.add_le_add_iff_right] at hf
      simp only [PU.ok, Bool.and_eq_true] at hp
      obtain ⟨o, ho, hw, v, hv, h⟩ := h
      exact wpAnyH_take ho hs hp.1.1 hp.1.2 (fun c a w h => hQ c _ _ a w h) (.inl ⟨hw, hv⟩) hS (ih S fuel _ _ _ hf hp.2 hS h)
  | eff i t ih =>
    intro S fuel listed a w hf hp hS h
    cases fuel with
    | zero => simp [PU.len] at hf
    | succ fuel =>
      simp only [PU.len, Nat.add_le_add_iff_right] at hf
      simp only [PU.ok, Bool.and_eq_true] at hp
      have hr : Region.ready md ops listed = [i] := by simpa using hp.1
      refine wpAnyH_all hr (by simp) (fun j hj => ?_)
      obtain rfl : j = i := by simpa using hj
      exact step j t S fuel listed a w (fun S' a w hS' h' => ih S' fuel _ a w hf hp.2 hS' h') h
  | two i t j u iht ihu =>
    intro S fuel listed a w hf hp hS h
    cases fuel with
    | zero => simp [PU.len] at hf
    | succ fuel =>
      simp only [PU.len, Nat.add_le_add_iff_right] at hf
      have hf1 : t.len ≤ fuel := Nat.le_trans (Nat.le_max_left _ _) hf
      have hf2 : u.len ≤ fuel := Nat.le_trans (Nat.le_max_right _ _) hf
      simp only [PU.ok, Bool.and_eq_true] at hp
      have hr : Region.ready md ops listed = [i, j] := by simpa using hp.1.1
      refine wpAnyH_all hr (by simp) (fun k hk => ?_)
      rw [List.mem_cons, List.mem_singleton] at hk
      rcases hk with rfl | rfl
      · exact step k t S fuel listed a w (fun S' a w hS' h' => iht S' fuel _ a w hf1 hp.1.2 hS' h') h.1
      · exact step k u S fuel listed a w (fun S' a w hS' h' => ihu S' fuel _ a w hf2 hp.2 hS' h') h.2
  | three i t j u k v iht ihu ihv =>
    intro S fuel listed a w hf hp hS h
    cases fuel with
    | zero => simp [PU.len] at hf
    | succ fuel =>
      simp only [PU.len, Nat.add_le_add_iff_right] at hf
      have hf1 : t.len ≤ fuel := Nat.le_trans (Nat.le_max_left _ _) hf
      have hf2 : u.len ≤ fuel := Nat.le_trans (Nat.le_trans (Nat.le_max_left _ _) (Nat.le_max_right _ _)) hf
      have hf3 : v.len ≤ fuel := Nat.le_trans (Nat.le_trans (Nat.le_max_right _ _) (Nat.le_max_right _ _)) hf
      simp only [PU.ok, Bool.and_eq_true] at hp
      have hr : Region.ready md ops listed = [i, j, k] := by simpa using hp.1.1.1
      refine wpAnyH_all hr (by simp) (fun m hm => ?_)
      rw [List.mem_cons, List.mem_cons, List.mem_singleton] at hm
      rcases hm with rfl | rfl | rfl
      · exact step m t S fuel listed a w (fun S' a w hS' h' => iht S' fuel _ a w hf1 hp.1.1.2 hS' h') h.1
      · exact step m u S fuel listed a w (fun S' a w hS' h' => ihu S' fuel _ a w hf2 hp.1.2 hS' h') h.2.1
      · exact step m v S fuel listed a w (fun S' a w hS' h' => ihv S' fuel _ a w hf3 hp.2 hS' h') h.2.2
/-- The region, by a tree. -/
theorem wp_region_tree3 {id : Nat} (S : World → Prop) (t : PU) (hm : P.follows .mixedOrders = true) (hs : Region.noSelect ops = true)
    (hp : t.ok .any ops (Array.replicate ops.size false) = true) (hn : decide (t.len ≤ ops.size) = true) (hQ : ∀ c d v a w, Q (.panic c) (Act.put a d v) w → Q (.panic c) a w) (hS : S w.drew)
    (h : t.wp P ops Q S a w.drew) : (Code.region id ops true).wp P Q a w :=
  wp_region_held hm (pu_sound .any hs hQ t S _ _ _ _ (of_decide_eq_true hn) hp hS h)
end
end Go.Proofs.Ytbifdckmkogbgaa
namespace Go.Proofs.Ytbifdckmkogbgaa
open Go
section
variable {P : Program} {ops : Array Oper} {Q : Exit → Act → World → Prop} {md : Region.Mode}
/-- Does b wait for i, through at most n? -/
def waitsN (md : Region.Mode) (ops : Array Oper) (i : Nat) : Nat → Nat → Bool
  | 0, _ => false
  | n + 1, b => match ops[b]? with
    | some o => o.after.any (fun e => Region.binds md e && (Nat.beq e.on i || waitsN md ops i n e.on))
    | none => false
theorem waitsN_listed {i : Nat} {l : Array Bool} (hc : Closed md ops l) : ∀ (n b : Nat) (o : Oper), ops[b]? = some o → (∀ e ∈ o.after, Region.binds md e = true → l.getD e.on false = true) → waitsN md ops i n b = true → l.getD i false = true := by
  intro n
  induction n with
  | zero => intro b o _ _ h; simp [waitsN] at h
  | succ n ih =>
    intro b o ho hall h
    unfold waitsN at h
    rw [ho] at h
    simp only [Array.any_eq_true', Bool.and_eq_true, Bool.or_eq_true] at h
    obtain ⟨e, he, hb, hh⟩ := h
    have h1 := hall e he hb
    rcases hh with hh | hh
    · rwa [Nat.eq_of_beq_eq_true hh] at h1
    · cases hm : ops[e.on]? with
      | none =>
        cases n with
        | zero => simp [waitsN] at hh
        | succ n => unfold waitsN at hh; rw [hm] at hh; cases hh
      | some om => exact ih e.on om hm (fun e2 he2 hb2 => hc e.on om hm h1 e2 he2 hb2) hh
theorem waitsN_not {b i n : Nat} {listed : Array Bool} (hc : Closed md ops listed) (hw : waitsN md ops i n b = true) (hi : listed.getD i true = false) : ¬ b ∈ Region.ready md ops listed := by
  intro hb
  obtain ⟨_, ob, hob, hall⟩ := mem_ready.1 hb
  exact listed_no hi (waitsN_listed hc n b ob hob (fun e he hb2 => by simpa using hall e he hb2) hw)
/-- Whoever could still come ahead of i is apart from it, or waits for it. -/
def Lone6 (md : Region.Mode) (ops : Array Oper) (n : Nat) (i : Nat) (oi : Oper) (l : Array Bool) : Prop := ∀ j oj, ops[j]? = some oj → j ≠ i → l.getD j true = false → waitsN md ops i n j = false → oi.apart ops oj = true
def free6 (md : Region.Mode) (ops : Array Oper) (n : Nat) (l : Array Bool) (i : Nat) : Bool := match ops[i]? with
  | none => false
  | some oi => (List.range ops.size).all fun j => match ops[j]? with
    | none => true
    | some oj => Nat.beq j i || l.getD j true || waitsN md ops i n j || oi.apart ops oj
theorem free6_spec {n i : Nat} {oi : Oper} {l : Array Bool} (hi : ops[i]? = some oi) (h : free6 md ops n l i = true) : Lone6 md ops n i oi l := by
  intro j oj hoj hne hun hw
  unfold free6 at h
  rw [hi] at h
  simp only [List.all_eq_true, List.mem_range] at h
  have hj : j < ops.size := (Array.getElem?_eq_some_iff.1 hoj).1
  have := h j hj
  rw [hoj] at this
  simp only [hun, hw, Bool.or_false, Bool.or_eq_true] at this
  rcases this with h1 | h1
  · exact absurd (Nat.eq_of_beq_eq_true h1) hne
  · exact h1
theorem Lone6.set {n i j : Nat} {oi : Oper} {l : Array Bool} (h : Lone6 md ops n i oi l) : Lone6 md ops n i oi (l.setIfInBounds j true) := fun k ok hk hki hun hno => h k ok hk hki (unset hun) hno
/-- What yields its value as long as S holds may be taken first, if all of B wait for it. -/
theorem wpAnyG_first6 {N : Nat} {B : List Nat} {S : World → Prop} {i : Nat} {oi : Oper} {v : Value} (hi : ops[i]? = some oi) (hsel : ∀ (j : Nat) (o : Oper) cs b, ops[j]? = some o → o.op ≠ .select cs b)
    (hQ : ∀ c a w, Q (.panic c) (a.put oi.dst v) w → Q (.panic c) a w) (hwait : ∀ b, b ∈ B → waitsN md ops i N b = true ∧ b ≠ i) (fuel : Nat) :
    ∀ (l : Array Bool) (a : Act) (w : World), Lone6 md ops N i oi l → (∀ b, b ∈ B → l.getD b true = false) → Closed md ops l → i ∈ Region.ready md ops l → YieldsIf P ops S oi v a → S w →
      wpAnyG P md ops Q B S fuel (l.setIfInBounds i true) (a.put oi.dst v) w → wpAnyG P md ops Q B S (fuel + 1) l a w := by
  induction fuel with
  | zero =>
    intro l a w _ _ _ hr hy hS H
    constructor
    · intro h
      rw [h] at hr
      exact absurd hr List.not_mem_nil
    · intro j hj
      rcases Decidable.em (j = i) with rfl | hne
      · exact YieldsIf.wpOp hi hy hS ⟨fun _ => hS, H⟩
      · have := ready_mono hj hne
        rw [H.1] at this
        exact absurd this List.not_mem_nil
  | succ n ih =>
    intro l a w hl hB hcl hr hy hS H
    constructor
    · intro h
      rw [h] at hr
      exact absurd hr List.not_mem_nil
    · intro j hj
      rcases Decidable.em (j = i) with rfl | hne
      · exact YieldsIf.wpOp hi hy hS ⟨fun _ => hS, H⟩
      · have hiu := (mem_ready.1 hr).1
        obtain ⟨hju, oj, hoj, _⟩ := mem_ready.1 hj
        have hw : waitsN md ops i N j = false := by
          cases hb : waitsN md ops i N j
          · rfl
          · exact absurd hj (waitsN_not hcl hb hiu)
        have out : ∀ b, b ∈ B → j ≠ b := by
          rintro b hb rfl
          exact waitsN_not hcl (hwait j hb).1 hiu hj
        have step := wpOp_putIf hoj (hl j oj hoj hne hju hw) (fun cs b => hsel i oi cs b hi) (fun cs b => hsel j oj cs b hoj) hQ hy (H.2 j (ready_mono hj hne))
        apply wpOp_mono _ step
        rintro a' w' ⟨y', s', H'⟩
        have S' : S w' := s' (fun b hb => by
          rw [getD_set_ne true (out b hb), getD_set_ne true (Ne.symm (hwait b hb).2)]
          exact hB b hb)
        refine ⟨fun _ => S', ih _ a' w' hl.set (fun b hb => ?_) (hcl.set hj) (ready_mono hr (Ne.symm hne)) y' S' ?_⟩
        · rw [getD_set_ne true (out b hb)]
          exact hB b hb
        · rw [Array.setIfInBounds_comm _ _ hne]
          exact H'
inductive PX where
  | done
  | quiet (i : Nat) (t : PX)
  | eff (i : Nat) (t : PX)
  | wall (i : Nat) (t : PX)
  | two (i : Nat) (t : PX) (j : Nat) (u : PX)
  | three (i : Nat) (t : PX) (j : Nat) (u : PX) (k : Nat) (v : PX)
  | four (i : Nat) (t : PX) (j : Nat) (u : PX) (k : Nat) (v : PX) (m : Nat) (x : PX)
def PX.len : PX → Nat
  | .done => 0
  | .quiet _ t => t.len + 1
  | .eff _ t => t.len + 1
  | .wall _ t => t.len + 1
  | .two _ t _ u => Nat.max t.len u.len + 1
  | .three _ t _ u _ v => Nat.max t.len (Nat.max u.len v.len) + 1
  | .four _ t _ u _ v _ x => Nat.max (Nat.max t.len u.len) (Nat.max v.len x.len) + 1
def PX.ok (md : Region.Mode) (ops : Array Oper) (N : Nat) : PX → List Nat → Array Bool → Bool
  | .done, _, l => (Region.ready md ops l).isEmpty
  | .quiet i t, B, l => free6 md ops N l i && (Region.ready md ops l).contains i && B.all (fun b => waitsN md ops i N b && !(Nat.beq b i) && !(l.getD b true)) && t.ok md ops N B (l.setIfInBounds i true)
  | .eff i t, B, l => Region.ready md ops l == [i] && t.ok md ops N B (l.setIfInBounds i true)
  | .wall i t, B, l => Region.ready md ops l == [i] && B.contains i && decide (i < l.size) && t.ok md ops N [] (l.setIfInBounds i true)
  | .two i t j u, B, l => Region.ready md ops l == [i, j] && t.ok md ops N B (l.setIfInBounds i true) && u.ok md ops N B (l.setIfInBounds j true)
  | .three i t j u k v, B, l => Region.ready md ops l == [i, j, k] && t.ok md ops N B (l.setIfInBounds i true) && u.ok md ops N B (l.setIfInBounds j true) && v.ok md ops N B (l.setIfInBounds k true)
  | .four i t j u k v m x, B, l => Region.ready md ops l == [i, j, k, m] && t.ok md ops N B (l.setIfInBounds i true) && u.ok md ops N B (l.setIfInBounds j true) && v.ok md ops N B (l.setIfInBounds k true) && x.ok md ops N B (l.setIfInBounds m true)
/-- One operation, and what comes behind it. -/
def PX.one (P : Program) (ops : Array Oper) (Q : Exit → Act → World → Prop) (i : Nat) (S : World → Prop) (F : (World → Prop) → Act → World → Prop) (a : Act) (w : World) : Prop :=
  ∃ o, ops[i]? = some o ∧ ((Region.wanted o (yielded ops a.tmps) = false ∧ F S (a.put o.dst undef) w) ∨ (Region.wanted o (yielded ops a.tmps) = true ∧ o.wp P a w (fun a' w' => ∃ S' : World → Prop, (∀ x, S' x → S x) ∧ S' w' ∧ F S' a' w') Q))
def PX.wp (P : Program) (ops : Array Oper) (Q : Exit → Act → World → Prop) : PX → (World → Prop) → Act → World → Prop
  | .done, _, a, w => Q .normal a w
  | .quiet i t, S, a, w => ∃ o, ops[i]? = some o ∧ ((Region.wanted o (yielded ops a.tmps) = false ∧ t.wp P ops Q S (a.put o.dst undef) w) ∨ (Region.wanted o (yielded ops a.tmps) = true ∧ ∃ v, (∀ w', S w' → (execOp a.eval o).run P w' = .ok (.value v) w') ∧ t.wp P ops Q S (a.put o.dst v) w))
  | .eff i t, S, a, w => PX.one P ops Q i S (fun S a w => t.wp P ops Q S a w) a w
  | .wall i t, _, a, w => ∃ o, ops[i]? = some o ∧ Region.wanted o (yielded ops a.tmps) = true ∧ o.wp P a w (fun a' w' => ∃ S' : World → Prop, S' w' ∧ t.wp P ops Q S' a' w') Q
  | .two i t j u, S, a, w => PX.one P ops Q i S (fun S a w => t.wp P ops Q S a w) a w ∧ PX.one P ops Q j S (fun S a w => u.wp P ops Q S a w) a w
  | .three i t j u k v, S, a, w => PX.one P ops Q i S (fun S a w => t.wp P ops Q S a w) a w ∧ PX.one P ops Q j S (fun S a w => u.wp P ops Q S a w) a w ∧ PX.one P ops Q k S (fun S a w => v.wp P ops Q S a w) a w
  | .four i t j u k v m x, S, a, w => PX.one P ops Q i S (fun S a w => t.wp P ops Q S a w) a w ∧ PX.one P ops Q j S (fun S a w => u.wp P ops Q S a w) a w ∧ PX.one P ops Q k S (fun S a w => v.wp P ops Q S a w) a w ∧ PX.one P ops Q m S (fun S a w => x.wp P ops Q S a w) a w
variable {S : World → Prop} {o : Oper} {a : Act} {w : World} {i : Nat} {t : PX}
theorem px_quiet {v : Value} (ho : ops[i]? = some o) (hw : Region.wanted o (yielded ops a.tmps) = true) (hv : ∀ w', S w' → (execOp a.eval o).run P w' = .ok (.value v) w') {k : Tmp} (hk : o.dst = some k) (h : t.wp P ops Q S { a with tmps := a.tmps.setIfInBounds k v } w) : (PX.quiet i t).wp P ops Q S a w :=
  ⟨o, ho, .inr ⟨hw, v, hv, by rw [hk]; exact h⟩⟩
theorem px_skip (ho : ops[i]? = some o) (hw : Region.wanted o (yielded ops a.tmps) = false) {k : Tmp} (hk : o.dst = some k) (h : t.wp P ops Q S { a with tmps := a.tmps.setIfInBounds k undef } w) : (PX.quiet i t).wp P ops Q S a w :=
  ⟨o, ho, .inl ⟨hw, by rw [hk]; exact h⟩⟩
theorem px_one (ho : ops[i]? = some o) (hw : Region.wanted o (yielded ops a.tmps) = true) (h : ∀ K : Act → World → Prop, (∀ (S' : World → Prop) a' w', (∀ x, S' x → S x) → S' w' → t.wp P ops Q S' a' w' → K a' w') → o.wp P a w K Q) :
    PX.one P ops Q i S (fun S a w => t.wp P ops Q S a w) a w :=
  ⟨o, ho, .inr ⟨hw, h _ (fun S' _ _ h0 h1 h2 => ⟨S', h0, h1, h2⟩)⟩⟩
theorem px_skip1 (ho : ops[i]? = some o) (hw : Region.wanted o (yielded ops a.tmps) = false) {k : Tmp} (hk : o.dst = some k) (h : t.wp P ops Q S { a with tmps := a.tmps.setIfInBounds k undef } w) :
    PX.one P ops Q i S (fun S a w => t.wp P ops Q S a w) a w :=
  ⟨o, ho, .inl ⟨hw, by rw [hk]; exact h⟩⟩
theorem px_eff (ho : ops[i]? = some o) (hw : Region.wanted o (yielded ops a.tmps) = true) (h : ∀ K : Act → World → Prop, (∀ (S' : World → Prop) a' w', (∀ x, S' x → S x) → S' w' → t.wp P ops Q S' a' w' → K a' w') → o.wp P a w K Q) : (PX.eff i t).wp P ops Q S a w :=
  px_one ho hw h
theorem px_skipE (ho : ops[i]? = some o) (hw : Region.wanted o (yielded ops a.tmps) = false) {k : Tmp} (hk : o.dst = some k) (h : t.wp P ops Q S { a with tmps := a.tmps.setIfInBounds k undef } w) : (PX.eff i t).wp P ops Q S a w :=
  px_skip1 ho hw hk h
theorem px_wall (ho : ops[i]? = some o) (hw : Region.wanted o (yielded ops a.tmps) = true) (h : ∀ K : Act → World → Prop, (∀ (S' : World → Prop) a' w', S' w' → t.wp P ops Q S' a' w' → K a' w') → o.wp P a w K Q) : (PX.wall i t).wp P ops Q S a w :=
  ⟨o, ho, hw, h _ (fun S' _ _ h1 h2 => ⟨S', h1, h2⟩)⟩
theorem px_done (h : Q .normal a w) : PX.done.wp P ops Q S a w := h
theorem px_step {B : List Nat} {S : World → Prop} {fuel j : Nat} {t : PX} {listed : Array Bool} {a : Act} {w : World} (hS : S w)
    (ih : ∀ (S' : World → Prop) a w, S' w → t.wp P ops Q S' a w → wpAnyG P md ops Q B S' fuel (listed.setIfInBounds j true) a w)
    (h : PX.one P ops Q j S (fun S a w => t.wp P ops Q S a w) a w) :
    wpOp P ops Q j (fun a' w' => heldTill B S (listed.setIfInBounds j true) w' ∧ wpAnyG P md ops Q B S fuel (listed.setIfInBounds j true) a' w') a w := by
  obtain ⟨o, ho, ⟨hw, h⟩ | ⟨hw, h⟩⟩ := h
  · unfold wpOp
    rw [ho]
    simp only []
    rw [if_neg (by rw [hw]; simp)]
    exact ⟨fun _ => hS, ih S _ _ hS h⟩
  · unfold wpOp
    rw [ho]
    simp only []
    rw [if_pos hw]
    exact .inl (Oper.wp_mono (fun a' w' ⟨S', h0, h1, h2⟩ => ⟨fun _ => h0 _ h1, wpAnyG_mono h0 _ _ _ _ (ih S' a' w' h1 h2)⟩) h)
theorem px_sound (md : Region.Mode) (N : Nat) (hs : Region.noSelect ops = true) (hQ : ∀ c d v a w, Q (.panic c) (Act.put a d v) w → Q (.panic c) a w) :
    ∀ (t : PX) (B : List Nat) (S : World → Prop) (fuel : Nat) (listed : Array Bool) (a : Act) (w : World), t.len ≤ fuel → t.ok md ops N B listed = true → Closed md ops listed → S w → t.wp P ops Q S a w → wpAnyG P md ops Q B S fuel listed a w := by
  intro t
  induction t with
  | done =>
    intro B S fuel listed a w _ hp _ _ h
    exact wpAnyG_done (by simpa [PX.ok] using hp) h fuel
  | quiet i t ih =>
    intro B S fuel listed a w hf hp hcl hS h
    cases fuel with
    | zero => simp [PX.len] at hf
    | succ fuel =>
      simp only [PX.len, Nat.add_le_add_iff_right] at hf
      simp only [PX.ok, Bool.and_eq_true, List.all_eq_true, Bool.not_eq_true'] at hp
      obtain ⟨⟨⟨p1, p2⟩, p3⟩, p4⟩ := hp
      obtain ⟨o, ho, hh⟩ := h
      have key : ∀ v, YieldsIf P ops S o v a → t.wp P ops Q S (a.put o.dst v) w → wpAnyG P md ops Q B S (fuel + 1) listed a w := fun v hy h => wpAnyG_first6 ho (Region.noSelect_spec hs) (fun c a w h => hQ c _ _ a w h) (fun b hb => ⟨(p3 b hb).1.1, (fun e => (by have := (p3 b hb).1.2; rw [e, Nat.beq_refl] at this; cases this))⟩) fuel listed a w (free6_spec ho p1) (fun b hb => (p3 b hb).2) hcl (by simpa using p2) hy hS (ih B S fuel _ _ _ hf p4 (hcl.set (by simpa using p2)) hS h)
      rcases hh with ⟨hw, h⟩ | ⟨hw, v, hv, h⟩
      · exact key _ (.inr ⟨hw, rfl⟩) h
      · exact key v (.inl ⟨hw, hv⟩) h
  | eff i t ih =>
    intro B S fuel listed a w hf hp hcl hS h
    cases fuel with
    | zero => simp [PX.len] at hf
    | succ fuel =>
      simp only [PX.len, Nat.add_le_add_iff_right] at hf
      simp only [PX.ok, Bool.and_eq_true] at hp
      have hr : Region.ready md ops listed = [i] := by simpa using hp.1
      refine ⟨(fun h0 => (by rw [hr] at h0; cases h0)), fun j hj => ?_⟩
      obtain rfl : j = i := by have hj2 := hj; rw [hr] at hj2; simpa using hj2
      exact px_step hS (fun S' a w hS' h' => ih B S' fuel _ a w hf hp.2 (hcl.set hj) hS' h') h
  | wall i t ih =>
    intro B S fuel listed a w hf hp hcl hS h
    cases fuel with
    | zero => simp [PX.len] at hf
    | succ fuel =>
      simp only [PX.len, Nat.add_le_add_iff_right] at hf
      simp only [PX.ok, Bool.and_eq_true, decide_eq_true_eq] at hp
      obtain ⟨⟨⟨p1, p2⟩, p3⟩, p4⟩ := hp
      have hr : Region.ready md ops listed = [i] := by simpa using p1
      refine ⟨(fun h0 => (by rw [hr] at h0; cases h0)), fun j hj => ?_⟩
      obtain rfl : j = i := by have hj2 := hj; rw [hr] at hj2; simpa using hj2
      obtain ⟨o, ho, hw, h⟩ := h
      have hjB : j ∈ B := by simpa using p2
      have hset : (listed.setIfInBounds j true).getD j true = true := by simp [p3]
      unfold wpOp
      rw [ho]
      simp only []
      rw [if_pos hw]
      exact .inl (Oper.wp_mono (fun a' w' ⟨S', h1, h2⟩ => ⟨(fun hn => (by have := hn j hjB; rw [hset] at this; cases this)), wpAnyG_drop hjB _ _ _ _ hset (wpAnyG_mono (fun _ _ => trivial) _ _ _ _ (ih [] S' fuel _ a' w' hf p4 (hcl.set hj) h1 h2))⟩) h)
  | two i t j u iht ihu =>
    intro B S fuel listed a w hf hp hcl hS h
    cases fuel with
    | zero => simp [PX.len] at hf
    | succ fuel =>
      simp only [PX.len, Nat.add_le_add_iff_right] at hf
      have hf1 : t.len ≤ fuel := Nat.le_trans (Nat.le_max_left _ _) hf
      have hf2 : u.len ≤ fuel := Nat.le_trans (Nat.le_max_right _ _) hf
      simp only [PX.ok, Bool.and_eq_true] at hp
      have hr : Region.ready md ops listed = [i, j] := by simpa using hp.1.1
      refine ⟨(fun h0 => (by rw [hr] at h0; cases h0)), fun k hk => ?_⟩
      have hc := hcl.set hk
      rw [hr, List.mem_cons, List.mem_singleton] at hk
      rcases hk with rfl | rfl
      · exact px_step hS (fun S' a w hS' h' => iht B S' fuel _ a w hf1 hp.1.2 hc hS' h') h.1
      · exact px_step hS (fun S' a w hS' h' => ihu B S' fuel _ a w hf2 hp.2 hc hS' h') h.2
  | three i t j u k v iht ihu ihv =>
    intro B S fuel listed a w hf hp hcl hS h
    cases fuel with
    | zero => simp [PX.len] at hf
    | succ fuel =>
      simp only [PX.len, Nat.add_le_add_iff_right] at hf
      have hf1 : t.len ≤ fuel := Nat.le_trans (Nat.le_max_left _ _) hf
      have hf2 : u.len ≤ fuel := Nat.le_trans (Nat.le_trans (Nat.le_max_left _ _) (Nat.le_max_right _ _)) hf
      have hf3 : v.len ≤ fuel := Nat.le_trans (Nat.le_trans (Nat.le_max_right _ _) (Nat.le_max_right _ _)) hf
      simp only [PX.ok, Bool.and_eq_true] at hp
      have hr : Region.ready md ops listed = [i, j, k] := by simpa using hp.1.1.1
      refine ⟨(fun h0 => (by rw [hr] at h0; cases h0)), fun m hm => ?_⟩
      have hc := hcl.set hm
      rw [hr, List.mem_cons, List.mem_cons, List.mem_singleton] at hm
      rcases hm with rfl | rfl | rfl
      · exact px_step hS (fun S' a w hS' h' => iht B S' fuel _ a w hf1 hp.1.1.2 hc hS' h') h.1
      · exact px_step hS (fun S' a w hS' h' => ihu B S' fuel _ a w hf2 hp.1.2 hc hS' h') h.2.1
      · exact px_step hS (fun S' a w hS' h' => ihv B S' fuel _ a w hf3 hp.2 hc hS' h') h.2.2
  | four i t j u k v m x iht ihu ihv ihx =>
    intro B S fuel listed a w hf hp hcl hS h
    cases fuel with
    | zero => simp [PX.len] at hf
    | succ fuel =>
      simp only [PX.len, Nat.add_le_add_iff_right] at hf
      have hf1 : t.len ≤ fuel := Nat.le_trans (Nat.le_trans (Nat.le_max_left _ _) (Nat.le_max_left _ _)) hf
      have hf2 : u.len ≤ fuel := Nat.le_trans (Nat.le_trans (Nat.le_max_right _ _) (Nat.le_max_left _ _)) hf
      have hf3 : v.len ≤ fuel := Nat.le_trans (Nat.le_trans (Nat.le_max_left _ _) (Nat.le_max_right _ _)) hf
      have hf4 : x.len ≤ fuel := Nat.le_trans (Nat.le_trans (Nat.le_max_right _ _) (Nat.le_max_right _ _)) hf
      simp only [PX.ok, Bool.and_eq_true] at hp
      have hr : Region.ready md ops listed = [i, j, k, m] := by simpa using hp.1.1.1.1
      refine ⟨(fun h0 => (by rw [hr] at h0; cases h0)), fun n hn => ?_⟩
      have hc := hcl.set hn
      rw [hr, List.mem_cons, List.mem_cons, List.mem_cons, List.mem_singleton] at hn
      rcases hn with rfl | rfl | rfl | rfl
      · exact px_step hS (fun S' a w hS' h' => iht B S' fuel _ a w hf1 hp.1.1.1.2 hc hS' h') h.1
      · exact px_step hS (fun S' a w hS' h' => ihu B S' fuel _ a w hf2 hp.1.1.2 hc hS' h') h.2.1
      · exact px_step hS (fun S' a w hS' h' => ihv B S' fuel _ a w hf3 hp.1.2 hc hS' h') h.2.2.1
      · exact px_step hS (fun S' a w hS' h' => ihx B S' fuel _ a w hf4 hp.2 hc hS' h') h.2.2.2
/-- The region, by a tree with walls. -/
theorem wp_region_px {id : Nat} (N : Nat) (B : List Nat) (S : World → Prop) (t : PX) (hm : P.follows .mixedOrders = true) (hs : Region.noSelect ops = true)
    (hp : t.ok .any ops N B (Array.replicate ops.size false) = true) (hn : decide (t.len ≤ ops.size) = true) (hQ : ∀ c d v a w, Q (.panic c) (Act.put a d v) w → Q (.panic c) a w) (hS : S w.drew)
    (h : t.wp P ops Q S a w.drew) : (Code.region id ops true).wp P Q a w :=
  wp_region_any hm (wpAny_of_G _ _ _ _ (px_sound .any N hs hQ t B S _ _ _ _ (of_decide_eq_true hn) hp (closed_none _ _ _) hS h))
end
end Go.Proofs.Ytbifdckmkogbgaa
