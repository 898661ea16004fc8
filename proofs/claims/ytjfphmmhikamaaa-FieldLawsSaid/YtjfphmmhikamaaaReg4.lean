/- A region that draws its order, walked in one order: what is read ahead of the stores needs its condition only till the first of them (the wall). Nothing of the program stands here. -/
import Derived.Test.YtjfphmmhikamaaaReg2
namespace Go.Proofs.Ytjfphmmhikamaaa
open Go
section
variable {P : Program} {ops : Array Oper} {Q : Exit → Act → World → Prop} {md : Region.Mode}
/-- As long as none of B has come up, S holds. -/
def heldTill (B : List Nat) (S : World → Prop) (l : Array Bool) (w : World) : Prop := (∀ b, b ∈ B → l.getD b true = false) → S w
def wpAnyG (P : Program) (md : Region.Mode) (ops : Array Oper) (Q : Exit → Act → World → Prop) (B : List Nat) (S : World → Prop) : Nat → Array Bool → Act → World → Prop
  | 0, listed, a, w => Region.ready md ops listed = [] ∧ Q .normal a w
  | fuel + 1, listed, a, w =>
    (Region.ready md ops listed = [] → Q .normal a w) ∧
    ∀ i ∈ Region.ready md ops listed, wpOp P ops Q i (fun a' w' => heldTill B S (listed.setIfInBounds i true) w' ∧ wpAnyG P md ops Q B S fuel (listed.setIfInBounds i true) a' w') a w
theorem wpAny_of_G {B : List Nat} {S : World → Prop} : ∀ (fuel : Nat) (listed : Array Bool) (a : Act) (w : World), wpAnyG P md ops Q B S fuel listed a w → wpAny P md ops Q fuel listed a w
  | 0, _, _, _, h => h
  | fuel + 1, _, _, _, h => ⟨h.1, fun i hi => wpOp_mono (fun a' w' h' => wpAny_of_G fuel _ a' w' h'.2) (h.2 i hi)⟩
theorem wpAnyG_mono {B : List Nat} {S S' : World → Prop} (hSS : ∀ w, S' w → S w) :
    ∀ (fuel : Nat) (listed : Array Bool) (a : Act) (w : World), wpAnyG P md ops Q B S' fuel listed a w → wpAnyG P md ops Q B S fuel listed a w
  | 0, _, _, _, h => h
  | fuel + 1, _, _, _, h => ⟨h.1, fun i hi => wpOp_mono (fun a' w' h' => ⟨fun hb => hSS _ (h'.1 hb), wpAnyG_mono hSS fuel _ a' w' h'.2⟩) (h.2 i hi)⟩
theorem set_true {l : Array Bool} {b i : Nat} (h : l.getD b true = true) : (l.setIfInBounds i true).getD b true = true := by
  by_cases hib : i = b
  · subst hib
    by_cases hl : i < l.size
    · simp [hl]
    · simp [hl]
  · rw [getD_set_ne true hib]
    exact h
theorem wpAnyG_drop {B : List Nat} {S : World → Prop} {b : Nat} (hb : b ∈ B) : ∀ (fuel : Nat) (listed : Array Bool) (a : Act) (w : World), listed.getD b true = true → wpAnyG P md ops Q [] (fun _ => True) fuel listed a w → wpAnyG P md ops Q B S fuel listed a w
  | 0, _, _, _, _, h => h
  | fuel + 1, _, _, _, hl, h => ⟨h.1, fun i hi => wpOp_mono (fun a' w' h' => ⟨(fun hn => (by have := hn b hb; rw [set_true hl] at this; cases this)), wpAnyG_drop hb fuel _ a' w' (set_true hl) h'.2⟩) (h.2 i hi)⟩
/-- Does b wait for i, at once? -/
def waits1 (md : Region.Mode) (ops : Array Oper) (b i : Nat) : Bool := match ops[b]? with
  | some o => o.after.any (fun e => Region.binds md e && Nat.beq e.on i)
  | none => false
/-- Does b wait for i, at once or by one between? -/
def waits (md : Region.Mode) (ops : Array Oper) (b i : Nat) : Bool := waits1 md ops b i || (match ops[b]? with
  | some o => o.after.any (fun e => Region.binds md e && waits1 md ops e.on i)
  | none => false)
/-- Whatever has come up, what it waits for has come up. -/
def Closed (md : Region.Mode) (ops : Array Oper) (l : Array Bool) : Prop := ∀ j o, ops[j]? = some o → l.getD j false = true → ∀ e ∈ o.after, Region.binds md e = true → l.getD e.on false = true
theorem getD_set_true {l : Array Bool} {k i : Nat} (h : l.getD k false = true) : (l.setIfInBounds i true).getD k false = true := by
  by_cases hik : i = k
  · subst hik
    by_cases hl : i < l.size
    · simp [hl]
    · simp [hl] at h
  · rw [getD_set_ne false hik]
    exact h
theorem Closed.set {l : Array Bool} (h : Closed md ops l) {i : Nat} (hi : i ∈ Region.ready md ops l) : Closed md ops (l.setIfInBounds i true) := by
  intro j o hj hlj e he hb
  by_cases hij : i = j
  · subst hij
    obtain ⟨_, oi, hoi, hall⟩ := mem_ready.1 hi
    rw [hj] at hoi
    cases hoi
    have := hall e he hb
    exact getD_set_true (by simpa using this)
  · rw [getD_set_ne false hij] at hlj
    exact getD_set_true (h j o hj hlj e he hb)
theorem listed_no {i : Nat} {listed : Array Bool} (hi : listed.getD i true = false) (h : listed.getD i false = true) : False := by
  rcases Nat.lt_or_ge i listed.size with h' | h'
  · simp [h'] at hi h
    rw [hi] at h
    cases h
  · simp [Array.getElem?_eq_none h'] at hi
theorem waits_not {b i : Nat} {listed : Array Bool} (hc : Closed md ops listed) (hw : waits md ops b i = true) (hi : listed.getD i true = false) : ¬ b ∈ Region.ready md ops listed := by
  intro hb
  obtain ⟨_, ob, hob, hall⟩ := mem_ready.1 hb
  unfold waits at hw
  rw [hob, Bool.or_eq_true] at hw
  rcases hw with hw | hw
  · unfold waits1 at hw
    rw [hob] at hw
    simp only [Array.any_eq_true', Bool.and_eq_true] at hw
    obtain ⟨e, he, hbind, hon⟩ := hw
    have := hall e he hbind
    rw [Nat.eq_of_beq_eq_true hon] at this
    exact listed_no hi (by simpa using this)
  · simp only [Array.any_eq_true', Bool.and_eq_true] at hw
    obtain ⟨e, he, hbind, hon⟩ := hw
    have h1 := hall e he hbind
    unfold waits1 at hon
    cases hm : ops[e.on]? with
    | none => rw [hm] at hon; cases hon
    | some om =>
      rw [hm] at hon
      simp only [Array.any_eq_true', Bool.and_eq_true] at hon
      obtain ⟨e2, he2, hb2, hon2⟩ := hon
      have h2 := hc e.on om hm (by simpa using h1) e2 he2 hb2
      rw [Nat.eq_of_beq_eq_true hon2] at h2
      exact listed_no hi h2
/-- Whoever could still come ahead of i is apart from it. -/
def Lone (md : Region.Mode) (ops : Array Oper) (i : Nat) (oi : Oper) (l : Array Bool) : Prop := ∀ j oj, ops[j]? = some oj → j ≠ i → l.getD j true = false → (∀ e ∈ oj.after, Region.binds md e = true → e.on ≠ i) → oi.apart ops oj = true
theorem unset {l : Array Bool} {j k : Nat} (h : (l.setIfInBounds j true).getD k true = false) : l.getD k true = false := by
  cases hk : l.getD k true
  · rfl
  · rw [set_true hk] at h
    exact h
theorem Lone.set {i j : Nat} {oi : Oper} {l : Array Bool} (h : Lone md ops i oi l) : Lone md ops i oi (l.setIfInBounds j true) := fun k ok hk hki hun hno => h k ok hk hki (unset hun) hno
theorem none_waits {i j : Nat} {oj : Oper} {l : Array Bool} (hi : l.getD i true = false) (hj : j ∈ Region.ready md ops l) (hoj : ops[j]? = some oj) : ∀ e ∈ oj.after, Region.binds md e = true → e.on ≠ i := by
  intro e he hb heq
  obtain ⟨_, o, ho, hall⟩ := mem_ready.1 hj
  rw [hoj] at ho
  cases ho
  exact listed_no hi (heq ▸ hall e he hb)
/-- What yields its value as long as S holds may be taken first, if all of B wait for it. -/
theorem wpAnyG_first {B : List Nat} {S : World → Prop} {i : Nat} {oi : Oper} {v : Value} (hi : ops[i]? = some oi) (hsel : ∀ (j : Nat) (o : Oper) cs b, ops[j]? = some o → o.op ≠ .select cs b)
    (hQ : ∀ c a w, Q (.panic c) (a.put oi.dst v) w → Q (.panic c) a w) (hwait : ∀ b, b ∈ B → waits md ops b i = true ∧ b ≠ i) (fuel : Nat) :
    ∀ (l : Array Bool) (a : Act) (w : World), Lone md ops i oi l → (∀ b, b ∈ B → l.getD b true = false) → Closed md ops l → i ∈ Region.ready md ops l → YieldsIf P ops S oi v a → S w →
      wpAnyG P md ops Q B S fuel (l.setIfInBounds i true) (a.put oi.dst v) w → wpAnyG P md ops Q B S (fuel + 1) l a w := by
  induction fuel with
  | zero =>
    intro l a w _ _ _ hr hy hS H
    constructor
    · intro h
      rw [h] at hr
      exact absurd hr List.not_mem_nil
    · intro j hj
      rcases Decidable.em (j = i) with rfl | hne
      · exact YieldsIf.wpOp hi hy hS ⟨fun _ => hS, H⟩
      · have := ready_mono hj hne
        rw [H.1] at this
        exact absurd this List.not_mem_nil
  | succ n ih =>
    intro l a w hl hB hcl hr hy hS H
    constructor
    · intro h
      rw [h] at hr
      exact absurd hr List.not_mem_nil
    · intro j hj
      rcases Decidable.em (j = i) with rfl | hne
      · exact YieldsIf.wpOp hi hy hS ⟨fun _ => hS, H⟩
      · have hiu := (mem_ready.1 hr).1
        obtain ⟨hju, oj, hoj, _⟩ := mem_ready.1 hj
        have hw := none_waits hiu hj hoj
        have out : ∀ b, b ∈ B → j ≠ b := by
          rintro b hb rfl
          exact waits_not hcl (hwait j hb).1 hiu hj
        have step := wpOp_putIf hoj (hl j oj hoj hne hju hw) (fun cs b => hsel i oi cs b hi) (fun cs b => hsel j oj cs b hoj) hQ hy (H.2 j (ready_mono hj hne))
        apply wpOp_mono _ step
        rintro a' w' ⟨y', s', H'⟩
        have S' : S w' := s' (fun b hb => by
          rw [getD_set_ne true (out b hb), getD_set_ne true (Ne.symm (hwait b hb).2)]
          exact hB b hb)
        refine ⟨fun _ => S', ih _ a' w' hl.set (fun b hb => ?_) (hcl.set hj) (ready_mono hr (Ne.symm hne)) y' S' ?_⟩
        · rw [getD_set_ne true (out b hb)]
          exact hB b hb
        · rw [Array.setIfInBounds_comm _ _ hne]
          exact H'
inductive PW where
  | done
  | quiet (i : Nat) (t : PW)
  | eff (i : Nat) (t : PW)
  | wall (i : Nat) (t : PW)
def PW.len : PW → Nat
  | .done => 0
  | .quiet _ t => t.len + 1
  | .eff _ t => t.len + 1
  | .wall _ t => t.len + 1
def PW.ok (md : Region.Mode) (ops : Array Oper) : PW → List Nat → Array Bool → Bool
  | .done, _, l => (Region.ready md ops l).isEmpty
  | .quiet i t, B, l => Region.free md ops l i && (Region.ready md ops l).contains i && B.all (fun b => waits md ops b i && !(Nat.beq b i) && !(l.getD b true)) && t.ok md ops B (l.setIfInBounds i true)
  | .eff i t, B, l => Region.ready md ops l == [i] && t.ok md ops B (l.setIfInBounds i true)
  | .wall i t, B, l => Region.ready md ops l == [i] && B.contains i && decide (i < l.size) && t.ok md ops [] (l.setIfInBounds i true)
def PW.wp (P : Program) (ops : Array Oper) (Q : Exit → Act → World → Prop) : PW → (World → Prop) → Act → World → Prop
  | .done, _, a, w => Q .normal a w
  | .quiet i t, S, a, w => ∃ o, ops[i]? = some o ∧ ((Region.wanted o (yielded ops a.tmps) = false ∧ t.wp P ops Q S (a.put o.dst undef) w) ∨ (Region.wanted o (yielded ops a.tmps) = true ∧ ∃ v, (∀ w', S w' → (execOp a.eval o).run P w' = .ok (.value v) w') ∧ t.wp P ops Q S (a.put o.dst v) w))
  | .eff i t, S, a, w => ∃ o, ops[i]? = some o ∧ ((Region.wanted o (yielded ops a.tmps) = false ∧ t.wp P ops Q S (a.put o.dst undef) w) ∨ Region.wanted o (yielded ops a.tmps) = true ∧ o.wp P a w (fun a' w' => ∃ S' : World → Prop, (∀ x, S' x → S x) ∧ S' w' ∧ t.wp P ops Q S' a' w') Q)
  | .wall i t, _, a, w => ∃ o, ops[i]? = some o ∧ Region.wanted o (yielded ops a.tmps) = true ∧ o.wp P a w (fun a' w' => t.wp P ops Q (fun _ => True) a' w') Q
variable {S : World → Prop} {o : Oper} {a : Act} {w : World} {i : Nat} {t : PW}
theorem pw_quiet {v : Value} (ho : ops[i]? = some o) (hw : Region.wanted o (yielded ops a.tmps) = true) (hv : ∀ w', S w' → (execOp a.eval o).run P w' = .ok (.value v) w') {k : Tmp} (hk : o.dst = some k) (h : t.wp P ops Q S { a with tmps := a.tmps.setIfInBounds k v } w) : (PW.quiet i t).wp P ops Q S a w :=
  ⟨o, ho, .inr ⟨hw, v, hv, by rw [hk]; exact h⟩⟩
theorem pw_skip (ho : ops[i]? = some o) (hw : Region.wanted o (yielded ops a.tmps) = false) {k : Tmp} (hk : o.dst = some k) (h : t.wp P ops Q S { a with tmps := a.tmps.setIfInBounds k undef } w) : (PW.quiet i t).wp P ops Q S a w :=
  ⟨o, ho, .inl ⟨hw, by rw [hk]; exact h⟩⟩
theorem pw_skipE (ho : ops[i]? = some o) (hw : Region.wanted o (yielded ops a.tmps) = false) {k : Tmp} (hk : o.dst = some k) (h : t.wp P ops Q S { a with tmps := a.tmps.setIfInBounds k undef } w) : (PW.eff i t).wp P ops Q S a w :=
  ⟨o, ho, .inl ⟨hw, by rw [hk]; exact h⟩⟩
theorem pw_eff (ho : ops[i]? = some o) (hw : Region.wanted o (yielded ops a.tmps) = true) (h : ∀ K : Act → World → Prop, (∀ (S' : World → Prop) a' w', (∀ x, S' x → S x) → S' w' → t.wp P ops Q S' a' w' → K a' w') → o.wp P a w K Q) : (PW.eff i t).wp P ops Q S a w :=
  ⟨o, ho, .inr ⟨hw, h _ (fun S' _ _ h0 h1 h2 => ⟨S', h0, h1, h2⟩)⟩⟩
theorem pw_wall (ho : ops[i]? = some o) (hw : Region.wanted o (yielded ops a.tmps) = true) (h : ∀ K : Act → World → Prop, (∀ a' w', t.wp P ops Q (fun _ => True) a' w' → K a' w') → o.wp P a w K Q) : (PW.wall i t).wp P ops Q S a w :=
  ⟨o, ho, hw, h _ (fun _ _ h => h)⟩
theorem pw_done (h : Q .normal a w) : PW.done.wp P ops Q S a w := h
theorem wpAnyG_done {B : List Nat} {listed : Array Bool} (hr : Region.ready md ops listed = []) (h : Q .normal a w) :
    ∀ fuel, wpAnyG P md ops Q B S fuel listed a w
  | 0 => ⟨hr, h⟩
  | _ + 1 => ⟨fun _ => h, by rw [hr]; simp⟩
theorem pw_sound (md : Region.Mode) (hs : Region.noSelect ops = true) (hQ : ∀ c d v a w, Q (.panic c) (Act.put a d v) w → Q (.panic c) a w) :
    ∀ (t : PW) (B : List Nat) (S : World → Prop) (fuel : Nat) (listed : Array Bool) (a : Act) (w : World), t.len ≤ fuel → t.ok md ops B listed = true → Closed md ops listed → S w → t.wp P ops Q S a w → wpAnyG P md ops Q B S fuel listed a w := by
  intro t
  induction t with
  | done =>
    intro B S fuel listed a w _ hp _ _ h
    exact wpAnyG_done (by simpa [PW.ok] using hp) h fuel
  | quiet i t ih =>
    intro B S fuel listed a w hf hp hcl hS h
    cases fuel with
    | zero => simp [PW.len] at hf
    | succ fuel =>
      simp only [PW.len, Nat.add_le_add_iff_right] at hf
      simp only [PW.ok, Bool.and_eq_true, List.all_eq_true, Bool.not_eq_true'] at hp
      obtain ⟨⟨⟨p1, p2⟩, p3⟩, p4⟩ := hp
      obtain ⟨o, ho, hh⟩ := h
      have key : ∀ v, YieldsIf P ops S o v a → t.wp P ops Q S (a.put o.dst v) w → wpAnyG P md ops Q B S (fuel + 1) listed a w := fun v hy h => wpAnyG_first ho (Region.noSelect_spec hs) (fun c a w h => hQ c _ _ a w h) (fun b hb => ⟨(p3 b hb).1.1, (fun e => (by have := (p3 b hb).1.2; rw [e, Nat.beq_refl] at this; cases this))⟩) fuel listed a w (Region.free_spec ho p1) (fun b hb => (p3 b hb).2) hcl (by simpa using p2) hy hS (ih B S fuel _ _ _ hf p4 (hcl.set (by simpa using p2)) hS h)
      rcases hh with ⟨hw, h⟩ | ⟨hw, v, hv, h⟩
      · exact key _ (.inr ⟨hw, rfl⟩) h
      · exact key v (.inl ⟨hw, hv⟩) h
  | eff i t ih =>
    intro B S fuel listed a w hf hp hcl hS h
    cases fuel with
    | zero => simp [PW.len] at hf
    | succ fuel =>
      simp only [PW.len, Nat.add_le_add_iff_right] at hf
      simp only [PW.ok, Bool.and_eq_true] at hp
      have hr : Region.ready md ops listed = [i] := by simpa using hp.1
      refine ⟨(fun h0 => (by rw [hr] at h0; cases h0)), fun j hj => ?_⟩
      obtain rfl : j = i := by have hj2 := hj; rw [hr] at hj2; simpa using hj2
      obtain ⟨o, ho, ⟨hw, h⟩ | ⟨hw, h⟩⟩ := h
      · unfold wpOp
        rw [ho]
        simp only []
        rw [if_neg (by rw [hw]; simp)]
        exact ⟨fun _ => hS, ih B S fuel _ _ _ hf hp.2 (hcl.set hj) hS h⟩
      unfold wpOp
      rw [ho]
      simp only []
      rw [if_pos hw]
      exact .inl (Oper.wp_mono (fun a' w' ⟨S', h0, h1, h2⟩ => ⟨fun _ => h0 _ h1, wpAnyG_mono h0 _ _ _ _ (ih B S' fuel _ a' w' hf hp.2 (hcl.set hj) h1 h2)⟩) h)
  | wall i t ih =>
    intro B S fuel listed a w hf hp hcl hS h
    cases fuel with
    | zero => simp [PW.len] at hf
    | succ fuel =>
      simp only [PW.len, Nat.add_le_add_iff_right] at hf
      simp only [PW.ok, Bool.and_eq_true, decide_eq_true_eq] at hp
      obtain ⟨⟨⟨p1, p2⟩, p3⟩, p4⟩ := hp
      have hr : Region.ready md ops listed = [i] := by simpa using p1
      refine ⟨(fun h0 => (by rw [hr] at h0; cases h0)), fun j hj => ?_⟩
      obtain rfl : j = i := by have hj2 := hj; rw [hr] at hj2; simpa using hj2
      obtain ⟨o, ho, hw, h⟩ := h
      have hjB : j ∈ B := by simpa using p2
      have hset : (listed.setIfInBounds j true).getD j true = true := by simp [p3]
      unfold wpOp
      rw [ho]
      simp only []
      rw [if_pos hw]
      exact .inl (Oper.wp_mono (fun a' w' h2 => ⟨(fun hn => (by have := hn j hjB; rw [hset] at this; cases this)), wpAnyG_drop hjB _ _ _ _ hset (ih [] (fun _ => True) fuel _ a' w' hf p4 (hcl.set hj) trivial h2)⟩) h)
theorem closed_none (md : Region.Mode) (ops : Array Oper) (n : Nat) : Closed md ops (Array.replicate n false) := by
  intro j o _ h
  exfalso
  by_cases hj : j < n
  · simp [hj] at h
  · simp [hj] at h
/-- The region, in one order, with a wall. -/
theorem wp_region_wall {id : Nat} (B : List Nat) (S : World → Prop) (t : PW) (hm : P.follows .mixedOrders = true) (hs : Region.noSelect ops = true)
    (hp : t.ok .any ops B (Array.replicate ops.size false) = true) (hn : decide (t.len ≤ ops.size) = true) (hQ : ∀ c d v a w, Q (.panic c) (Act.put a d v) w → Q (.panic c) a w) (hS : S w.drew)
    (h : t.wp P ops Q S a w.drew) : (Code.region id ops true).wp P Q a w :=
  wp_region_any hm (wpAny_of_G _ _ _ _ (pw_sound .any hs hQ t B S _ _ _ _ (of_decide_eq_true hn) hp (closed_none _ _ _) hS h))
end
end Go.Proofs.Ytjfphmmhikamaaa
