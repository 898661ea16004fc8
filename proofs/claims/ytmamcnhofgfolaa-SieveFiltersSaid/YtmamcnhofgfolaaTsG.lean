/- Layer 16: what the program chooses is what the marks leave (plain functions alone). -/
import Derived.Test.YtmamcnhofgfolaaTsB
namespace Go.Proofs.Ytmamcnhofgfolaa
open Go Go.RowKit
mutual
theorem bothT_comm : ∀ a b : PM, bothT a b = bothT b a
  | .mk x y ks, .mk u v ls => by
    unfold bothT
    simp only [PM.on, PM.al, PM.ks]
    rw [bothsT_comm ks ls, Bool.or_comm x u, Bool.or_comm y v]
theorem bothsT_comm : ∀ k l : List PM, bothsT k l = bothsT l k
  | [], l => by rw [bothsT_r0]; rfl
  | x :: xs, [] => rfl
  | x :: xs, y :: ys => by
    simp only [bothsT]
    rw [bothT_comm x y, bothsT_comm xs ys]
end
mutual
theorem bothT_assoc : ∀ a b c : PM, bothT (bothT a b) c = bothT a (bothT b c)
  | .mk x y ks, .mk x2 y2 ls, .mk x3 y3 ms => by
    simp only [bothT, PM.on, PM.al, PM.ks]
    rw [bothsT_assoc ks ls ms, Bool.or_assoc, Bool.or_assoc]
theorem bothsT_assoc : ∀ k l m : List PM, bothsT (bothsT k l) m = bothsT k (bothsT l m)
  | [], l, m => rfl
  | x :: xs, [], m => by rw [bothsT_r0]; rfl
  | x :: xs, y :: ys, [] => by rw [bothsT_r0, bothsT_r0]
  | x :: xs, y :: ys, z :: zs => by
    simp only [bothsT]
    rw [bothT_assoc x y z, bothsT_assoc xs ys zs]
end
/-- What is not chosen marks nothing. -/
def NZ (m : PM) : Prop := m.on = false → m = pm0
theorem NZ.both {a b : PM} (ha : NZ a) (hb : NZ b) : NZ (bothT a b) := by
  intro h
  rw [bothT_ks] at h
  have h' := Bool.or_eq_false_iff.1 h
  rw [ha h'.1, hb h'.2]
  rfl
theorem both_on (a b : PM) : (bothT a b).on = (a.on || b.on) := by rw [bothT_ks]; rfl
theorem oneT_nz (d : PD) (n : PN) (e : PE) : NZ (oneT d n e) := by
  intro h
  cases n with
  | mk nm vl ks =>
    unfold oneT at h ⊢
    split at h
    · rename_i h3
      rw [if_pos h3]
      rw [show (_ && _ : Bool) = false from h]
      rfl
    · rename_i h3
      rw [if_neg h3]
      split at h
      · rename_i ht
        rw [if_pos ht]
      · rename_i ht
        rw [if_neg ht]
        split at h
        · cases h
        · rename_i hk
          rw [if_neg hk]
          split at h
          · rfl
          · rename_i M r s hl
            split at h
            · cases h
            · rename_i hs
              rw [if_neg hs]
              split at h
              · cases h
              · rename_i hq
                rw [if_neg hq]
theorem accT_fold (d : PD) (n : PN) : ∀ (es : List PE) (m : PM), es.foldl (fun m e => if e.nm == n.nm then bothT m (oneT d n e) else m) m = bothT m (accT d n es)
  | [], m => by unfold accT; rw [List.foldl_nil, List.foldl_nil, bothT_r0]
  | e :: es, m => by
    unfold accT
    rw [List.foldl_cons, List.foldl_cons]
    split
    · rw [accT_fold d n es, accT_fold d n es, bothT_l0, bothT_assoc]
    · rw [accT_fold d n es, accT_fold d n es, bothT_l0]
theorem accT_cons (d : PD) (n : PN) (e : PE) (es : List PE) : accT d n (e :: es) = if e.nm == n.nm then bothT (oneT d n e) (accT d n es) else accT d n es := by
  rw [accT, List.foldl_cons, accT_fold]
  split
  · rw [bothT_l0]
  · rw [bothT_l0]
theorem accT_app (d : PD) (n : PN) (es fs : List PE) : accT d n (es ++ fs) = bothT (accT d n es) (accT d n fs) := by
  unfold accT
  rw [List.foldl_append, accT_fold d n fs]
  rfl
theorem accT_nz (d : PD) (n : PN) : ∀ es : List PE, NZ (accT d n es)
  | [] => fun _ => rfl
  | e :: es => by
    rw [accT_cons]
    split
    · exact (oneT_nz d n e).both (accT_nz d n es)
    · exact accT_nz d n es
theorem mkT_app (ds : List PD) (n : PN) (es fs : List PE) : mkT ds n (es ++ fs) = bothT (mkT ds n es) (mkT ds n fs) := by
  unfold mkT
  split
  · rfl
  · split
    · rfl
    · exact accT_app _ _ _ _
theorem mkT_nz (ds : List PD) (n : PN) (es : List PE) : NZ (mkT ds n es) := by
  unfold mkT
  split
  · exact fun _ => rfl
  · split
    · exact fun _ => rfl
    · exact accT_nz _ _ _
theorem mkT_nil (ds : List PD) (n : PN) : mkT ds n [] = pm0 := by
  unfold mkT
  split
  · rfl
  · split <;> rfl
theorem bothsT_map {α : Type} (f g : α → PM) : ∀ l : List α, bothsT (l.map f) (l.map g) = l.map fun x => bothT (f x) (g x)
  | [] => rfl
  | x :: l => by simp only [List.map_cons, bothsT, bothsT_map f g l]
/-- A node of whose nodes elements choose. -/
def mkB (d : PD) (n : PN) (ins : List PE) : PM := if n.ks.any (fun k => (mkT d.ks k ins).on) then .mk true false (n.ks.map fun k => if hasT d.ky k.nm then pm1 else mkT d.ks k ins) else pm0
theorem mkB_none {d : PD} {n : PN} {ins : List PE} (h : n.ks.any (fun k => (mkT d.ks k ins).on) = false) : mkB d n ins = pm0 ∧ ∀ k ∈ n.ks, mkT d.ks k ins = pm0 := by
  refine ⟨by unfold mkB; rw [h]; rfl, fun k hk => mkT_nz _ _ _ ?_⟩
  rw [List.any_eq_false] at h
  simpa using h k hk
theorem mkB_some {d : PD} {n : PN} {ins : List PE} (h : n.ks.any (fun k => (mkT d.ks k ins).on) = true) : mkB d n ins = .mk true false (n.ks.map fun k => if hasT d.ky k.nm then pm1 else mkT d.ks k ins) := by
  unfold mkB
  rw [h]
  rfl
theorem any_congr' {α : Type} {p q : α → Bool} : ∀ {l : List α}, (∀ x ∈ l, p x = q x) → l.any p = l.any q
  | [], _ => rfl
  | x :: l, h => by rw [List.any_cons, List.any_cons, h x (by simp), any_congr' (fun y hy => h y (by simp [hy]))]
theorem mkB_congr {d : PD} {n : PN} {a b : List PE} (h : ∀ k ∈ n.ks, mkT d.ks k a = mkT d.ks k b) : mkB d n a = mkB d n b := by
  have h1 : n.ks.any (fun k => (mkT d.ks k a).on) = n.ks.any (fun k => (mkT d.ks k b).on) := any_congr' (fun k hk => by rw [h k hk])
  have h2 : (n.ks.map fun k => if hasT d.ky k.nm then pm1 else mkT d.ks k a) = n.ks.map fun k => if hasT d.ky k.nm then pm1 else mkT d.ks k b := List.map_congr_left (fun k hk => by rw [h k hk])
  unfold mkB
  rw [h1, h2]
theorem mkB_app (d : PD) (n : PN) (a b : List PE) : bothT (mkB d n a) (mkB d n b) = mkB d n (a ++ b) := by
  cases ha : n.ks.any (fun k => (mkT d.ks k a).on)
  · have h := mkB_none ha
    rw [h.1, bothT_l0]
    exact (mkB_congr (fun k hk => by rw [mkT_app, h.2 k hk, bothT_l0])).symm
  · cases hb : n.ks.any (fun k => (mkT d.ks k b).on)
    · have h := mkB_none hb
      rw [h.1, bothT_r0]
      exact (mkB_congr (fun k hk => by rw [mkT_app, h.2 k hk, bothT_r0])).symm
    · have hab : n.ks.any (fun k => (mkT d.ks k (a ++ b)).on) = true := by
        rw [List.any_eq_true] at ha ⊢
        obtain ⟨k, hk, h⟩ := ha
        exact ⟨k, hk, by rw [mkT_app, both_on, h]; rfl⟩
      rw [mkB_some ha, mkB_some hb, mkB_some hab]
      unfold bothT
      simp only [PM.on, PM.al, PM.ks, Bool.or_self]
      rw [bothsT_map]
      congr 1
      refine List.map_congr_left (fun k _ => ?_)
      split
      · rfl
      · rw [mkT_app]
end Go.Proofs.Ytmamcnhofgfolaa
