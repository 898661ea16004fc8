/- A region of many operations: what waits for what is given, and looked over once. -/
import Derived.Test.YtbifdckmkogbgaaRegs
namespace Go.Proofs.Ytbifdckmkogbgaa
open Go Go.RowKit
/-- D: operations that wait for operation i, each through an earlier one. -/
def chkD (md : Region.Mode) (ops : Array Oper) (i : Nat) (D : List Nat) : Bool :=
  D.all fun j => match ops[j]? with
    | some o => o.after.any (fun e => Region.binds md e && (Nat.beq e.on i || (Nat.blt e.on j && D.any (Nat.beq e.on))))
    | none => false
theorem waitsN_succ {md : Region.Mode} {ops : Array Oper} {i : Nat} : ∀ (n j : Nat), waitsN md ops i n j = true → waitsN md ops i (n + 1) j = true := by
  intro n
  induction n with
  | zero => intro j h; simp [waitsN] at h
  | succ n ih =>
    intro j h
    rw [waitsN]
    rw [waitsN] at h
    cases hj : ops[j]? with
    | none => rw [hj] at h; cases h
    | some o =>
      rw [hj] at h
      simp only [Array.any_eq_true', Bool.and_eq_true, Bool.or_eq_true] at h ⊢
      obtain ⟨e, he, hb, hh⟩ := h
      exact ⟨e, he, hb, hh.imp id (ih e.on)⟩
theorem waitsN_mono {md : Region.Mode} {ops : Array Oper} {i j n m : Nat} (h : waitsN md ops i n j = true) (hnm : n ≤ m) : waitsN md ops i m j = true := by
  induction hnm with
  | refl => exact h
  | step _ ih => exact waitsN_succ _ _ ih
theorem chkD_spec {md : Region.Mode} {ops : Array Oper} {i : Nat} {D : List Nat} (h : chkD md ops i D = true) : ∀ j, j ∈ D → waitsN md ops i (j + 1) j = true := by
  intro j
  induction j using Nat.strongRecOn with
  | _ j ih =>
    intro hj
    have h1 := List.all_eq_true.1 h j hj
    rw [waitsN]
    cases ho : ops[j]? with
    | none => simp [ho] at h1
    | some o =>
      simp only [ho] at h1
      simp only [Array.any_eq_true', Bool.and_eq_true, Bool.or_eq_true] at h1 ⊢
      obtain ⟨e, he, hb, hh⟩ := h1
      refine ⟨e, he, hb, hh.imp id fun ⟨hlt, hin⟩ => ?_⟩
      have hlt' : e.on < j := by rw [Nat.blt_eq] at hlt; exact hlt
      have hin' : e.on ∈ D := by
        obtain ⟨x, hx, hxe⟩ := List.any_eq_true.1 hin
        rw [Nat.beq_eq] at hxe
        rw [hxe]
        exact hx
      exact waitsN_mono (ih e.on hlt' hin') (by omega)
def free7 (ops : Array Oper) (D : List Nat) (l : Array Bool) (i : Nat) : Bool := match ops[i]? with
  | none => false
  | some oi => (List.range ops.size).all fun j => match ops[j]? with
    | none => true
    | some oj => Nat.beq j i || l.getD j true || D.any (Nat.beq j) || oi.apart ops oj
theorem free7_spec {md : Region.Mode} {ops : Array Oper} {i : Nat} {D : List Nat} {l : Array Bool} (hD : chkD md ops i D = true) (h : free7 ops D l i = true) : free6 md ops ops.size l i = true := by
  unfold free7 at h
  unfold free6
  cases ho : ops[i]? with
  | none => simp [ho] at h
  | some oi =>
    simp only [ho] at h ⊢
    rw [List.all_eq_true] at h ⊢
    intro j hj
    have h1 := h j hj
    rw [List.mem_range] at hj
    cases hoj : ops[j]? with
    | none => rfl
    | some oj =>
      simp only [hoj, Bool.or_eq_true] at h1 ⊢
      rcases h1 with ((h1 | h1) | h1) | h1
      · exact .inl (.inl (.inl h1))
      · exact .inl (.inl (.inr h1))
      · refine .inl (.inr ?_)
        obtain ⟨x, hx, hxe⟩ := List.any_eq_true.1 h1
        rw [Nat.beq_eq] at hxe
        subst hxe
        exact waitsN_mono (chkD_spec hD _ hx) (by omega)
      · exact .inr h1
/-- As PX.ok, without walls. -/
def PX.ok7 (md : Region.Mode) (ops : Array Oper) (dt : List (List Nat)) : PX → Array Bool → Bool
  | .done, l => (Region.ready md ops l).isEmpty
  | .quiet i t, l => chkD md ops i (dt.getD i []) && free7 ops (dt.getD i []) l i && (Region.ready md ops l).contains i && t.ok7 md ops dt (l.setIfInBounds i true)
  | .eff i t, l => Region.ready md ops l == [i] && t.ok7 md ops dt (l.setIfInBounds i true)
  | _, _ => false
theorem ok7_ok {md : Region.Mode} {ops : Array Oper} {dt : List (List Nat)} : ∀ (t : PX) (l : Array Bool), t.ok7 md ops dt l = true → t.ok md ops ops.size [] l = true := by
  intro t
  induction t with
  | done => intro l h; exact h
  | quiet i t ih =>
    intro l h
    simp only [PX.ok7, Bool.and_eq_true] at h
    simp only [PX.ok, Bool.and_eq_true]
    exact ⟨⟨⟨free7_spec h.1.1.1 h.1.1.2, h.1.2⟩, rfl⟩, ih _ h.2⟩
  | eff i t ih =>
    intro l h
    simp only [PX.ok7, Bool.and_eq_true] at h
    simp only [PX.ok, Bool.and_eq_true]
    exact ⟨h.1, ih _ h.2⟩
  | wall i t ih => intro l h; cases h
  | two => intro l h; cases h
  | three => intro l h; cases h
  | four => intro l h; cases h
variable {P : Program} {ops : Array Oper} {Q : Exit → Act → World → Prop} {a : Act} {w : World}
theorem wp_region_px7 {id : Nat} (dt : List (List Nat)) (S : World → Prop) (t : PX) (hm : P.follows .mixedOrders = true) (hs : Region.noSelect ops = true)
    (hp : t.ok7 .any ops dt (Array.replicate ops.size false) = true) (hn : decide (t.len ≤ ops.size) = true) (hQ : ∀ c d v a w, Q (.panic c) (Act.put a d v) w → Q (.panic c) a w) (hS : S w.drew)
    (h : t.wp P ops Q S a w.drew) : (Code.region id ops true).wp P Q a w :=
  wp_region_px ops.size [] S t hm hs (ok7_ok t _ hp) hn hQ hS h
end Go.Proofs.Ytbifdckmkogbgaa
