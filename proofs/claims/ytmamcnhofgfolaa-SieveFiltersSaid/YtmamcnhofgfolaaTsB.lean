/- The reference of layer 16: marks as plain functions; the marks of nodes. -/
import Derived.Test.YtmamcnhofgfolaaTsA
namespace Go.Proofs.Ytmamcnhofgfolaa
open Go Go.RowKit
/-- What elements that match leaves mark, the others, and whether any matches. -/
def lvsT (d : PD) (ks : List PN) : List PE → List PM → List PE → Bool → Option (List PM × List PE × Bool)
  | [], M, r, s => some (M, r, s)
  | f :: fs, M, r, s => if isMatch d f then (match lfP ks f.nm f.tx with
    | none => none
    | some p => lvsT d ks fs (M.set p pm1) r true) else lvsT d ks fs M (r ++ [f]) s
/-- Marks joined with others, those of keys set: so many of them. -/
def finN (d : PD) (ks : List PN) (R : List PM) : Nat → List PM → List PM
  | 0, M => M
  | k + 1, M => let A := finN d ks R k M
    let B := A.set k (bothT (A.getD k pm0) (R.getD k pm0))
    match ks[k]? with
    | none => B
    | some x => if hasT d.ky x.nm then B.set k pm1 else B
mutual
def oneT (d : PD) : PN → PE → PM
  | .mk _ vl ks, f => if d.kd = 3 then .mk (f.ks.isEmpty && (f.tx.isEmpty || f.tx == vl)) (f.ks.isEmpty && (f.tx.isEmpty || f.tx == vl)) [] else if !f.tx.isEmpty then pm0 else if f.ks.isEmpty then pm1 else
    match lvsT d ks f.ks (List.replicate ks.length pm0) [] false with
    | none => pm0
    | some (M, r, s) => if s && r.isEmpty then pm1 else if s || (marksT d.ks ks r).any PM.on then .mk true false (finN d ks (marksT d.ks ks r) ks.length M) else pm0
def marksT (ds : List PD) : List PN → List PE → List PM
  | [], _ => []
  | n :: ns, es => (match plc ds n.nm with
    | none => pm0
    | some i => match ds[i]? with
      | none => pm0
      | some d => es.foldl (fun m e => if e.nm == n.nm then bothT m (oneT d n e) else m) pm0) :: marksT ds ns es
end
/-- What elements mark of a node. -/
def accT (d : PD) (n : PN) (es : List PE) : PM := es.foldl (fun m e => if e.nm == n.nm then bothT m (oneT d n e) else m) pm0
def mkT (ds : List PD) (n : PN) (es : List PE) : PM := match plc ds n.nm with
  | none => pm0
  | some i => match ds[i]? with
    | none => pm0
    | some d => accT d n es
theorem marksT_map (ds : List PD) (es : List PE) : ∀ ns : List PN, marksT ds ns es = ns.map fun n => mkT ds n es
  | [] => rfl
  | n :: ns => by
    rw [marksT, marksT_map ds es ns]
    rfl
theorem accT_step (d : PD) (n : PN) (es : List PE) (k : Nat) (hk : k < es.length) : accT d n (es.take (k + 1)) = if es[k].nm == n.nm then bothT (accT d n (es.take k)) (oneT d n es[k]) else accT d n (es.take k) := by
  unfold accT
  rw [List.take_succ_eq_append_getElem hk, List.foldl_append]
  rfl
theorem isMatch_ok (d : PD) (e : PE) : isMatch d e = true → ∃ i k, plc d.ks e.nm = some i ∧ d.ks[i]? = some k ∧ k.kd = 3 ∧ e.tx.isEmpty = false := by
  intro h
  unfold isMatch at h
  cases hp : plc d.ks e.nm with
  | none => rw [hp] at h; cases h
  | some i =>
    rw [hp] at h
    cases hk : d.ks[i]? with
    | none => simp only [hk] at h; cases h
    | some k =>
      simp only [hk, Bool.and_eq_true, beq_iff_eq, Bool.not_eq_true'] at h
      exact ⟨i, k, rfl, hk, h.1, h.2⟩
theorem finN_len (d : PD) (ks : List PN) (R : List PM) : ∀ (k : Nat) (M : List PM), (finN d ks R k M).length = M.length
  | 0, M => rfl
  | k + 1, M => by
    unfold finN
    simp only []
    split
    · rw [List.length_set, finN_len d ks R k M]
    · split
      · rw [List.length_set, List.length_set, finN_len d ks R k M]
      · rw [List.length_set, finN_len d ks R k M]
theorem msOk_set {l : List PM} (h : msOk l = true) (i : Nat) {m : PM} (hm : mOk m = true) : msOk (l.set i m) = true :=
  msOk_of (fun n hn => by
    rcases List.mem_or_eq_of_mem_set hn with h' | h'
    · exact msOk_mem h h'
    · rw [h']; exact hm)
theorem finN_ok (d : PD) (ks : List PN) {R : List PM} (hR : msOk R = true) : ∀ (k : Nat) {M : List PM}, msOk M = true → msOk (finN d ks R k M) = true
  | 0, M, h => h
  | k + 1, M, h => by
    have ih := finN_ok d ks hR k h
    have hb := msOk_set ih k (bothT_ok _ _ (msOk_getD ih k) (msOk_getD hR k))
    unfold finN
    simp only []
    split
    · exact hb
    · split
      · exact msOk_set hb k mOk1
      · exact hb
theorem lvsT_ok (d : PD) (ks : List PN) : ∀ (fs : List PE) (M : List PM) (r : List PE) (s : Bool) (M' : List PM) (r' : List PE) (s' : Bool), lvsT d ks fs M r s = some (M', r', s') → (msOk M = true → msOk M' = true) ∧ M'.length = M.length ∧ (esOk fs = true → esOk r = true → esOk r' = true) ∧ r'.length ≤ r.length + fs.length
  | [], M, r, s, M', r', s', h => by
    unfold lvsT at h
    cases h
    exact ⟨id, rfl, fun _ h => h, Nat.le_add_right _ _⟩
  | f :: fs, M, r, s, M', r', s', h => by
    unfold lvsT at h
    split at h
    · split at h
      · cases h
      · have ih := lvsT_ok d ks fs _ _ _ _ _ _ h
        refine ⟨fun hm => ih.1 (msOk_set hm _ mOk1), by rw [ih.2.1, List.length_set], fun h1 h2 => ih.2.2.1 (by unfold esOk at h1; rw [Bool.and_eq_true] at h1; exact h1.2) h2, ?_⟩
        have := ih.2.2.2
        rw [List.length_cons]
        omega
    · have ih := lvsT_ok d ks fs _ _ _ _ _ _ h
      refine ⟨ih.1, ih.2.1, fun h1 h2 => ?_, ?_⟩
      · unfold esOk at h1
        rw [Bool.and_eq_true] at h1
        refine ih.2.2.1 h1.2 ?_
        clear ih h
        induction r with
        | nil => simp only [List.nil_append]; unfold esOk; rw [h1.1]; rfl
        | cons x r ihr =>
          unfold esOk at h2
          rw [Bool.and_eq_true] at h2
          rw [List.cons_append]
          unfold esOk
          rw [h2.1, ihr h2.2]
          rfl
      · have := ih.2.2.2
        rw [List.length_append, List.length_singleton] at this
        rw [List.length_cons]
        omega
theorem rep_ok (n : Nat) : msOk (List.replicate n pm0) = true := msOk_of (fun m hm => by rw [(List.mem_replicate.1 hm).2]; rfl)
mutual
theorem oneT_ok : ∀ (d : PD) (n : PN) (f : PE), kOk n = true → mOk (oneT d n f) = true
  | d, .mk nm vl ks, f, h => by
    have hk := kOk_ks h
    unfold oneT
    split
    · rfl
    · split
      · rfl
      · split
        · rfl
        · split
          · rfl
          · rename_i M r s hl
            have hl' := lvsT_ok d ks _ _ _ _ _ _ _ hl
            split
            · rfl
            · split
              · refine mOk_of ?_ (finN_ok d ks (marksT_ok d.ks ks r hk.2) _ (hl'.1 (rep_ok _)))
                show (finN d ks _ ks.length M).length ≤ _
                rw [finN_len, hl'.2.1, List.length_replicate]
                exact hk.1
              · rfl
theorem marksT_ok : ∀ (ds : List PD) (ns : List PN) (es : List PE), ksOk ns = true → msOk (marksT ds ns es) = true
  | ds, [], es, _ => rfl
  | ds, n :: ns, es, h => by
    unfold ksOk at h
    rw [Bool.and_eq_true] at h
    rw [marksT]
    unfold msOk
    rw [Bool.and_eq_true]
    refine ⟨?_, marksT_ok ds ns es h.2⟩
    split
    · rfl
    · split
      · rfl
      · rename_i d _
        have hd := fun e => oneT_ok d n e h.1
        have : ∀ (l : List PE) (m : PM), mOk m = true → mOk (l.foldl (fun m e => if e.nm == n.nm then bothT m (oneT d n e) else m) m) = true := by
          intro l
          induction l with
          | nil => exact fun m h => h
          | cons e l ih =>
            intro m hm
            rw [List.foldl_cons]
            refine ih _ ?_
            split
            · exact bothT_ok _ _ hm (hd e)
            · exact hm
        exact this es pm0 rfl
end
theorem accT_ok (d : PD) (n : PN) (h : kOk n = true) (es : List PE) : mOk (accT d n es) = true := by
  unfold accT
  have : ∀ (l : List PE) (m : PM), mOk m = true → mOk (l.foldl (fun m e => if e.nm == n.nm then bothT m (oneT d n e) else m) m) = true := by
    intro l
    induction l with
    | nil => exact fun m h => h
    | cons e l ih =>
      intro m hm
      rw [List.foldl_cons]
      refine ih _ ?_
      split
      · exact bothT_ok _ _ hm (oneT_ok d n e h)
      · exact hm
  exact this es pm0 rfl
def OneP (n : PN) : Prop := ∀ (F G H : Nat → Prop) (d : PD) (e : PE) (da db dc kv ea ec : Value) (w : World), DfR F w d da db dc → RowN G w kv n.ks → ElR H w e ea ec → kOk n = true → eOk e = true →
  Calls Try.prog 37 #[DefA d da db dc, NodA n kv, ElmA e ea ec] w fun r w' => NewM w w' r (oneT d n e) ∧ Kp0 w w'
def MarksP (ns : List PN) : Prop := ∀ (F G H : Nat → Prop) (ds : List PD) (es : List PE) (dv nv ev : Value) (w : World), RowD F w dv ds → RowN G w nv ns → RowE H w ev es → ksOk ns = true → ns.length ≤ 1000000 → esOk es = true →
  Calls Try.prog 23 #[dv, nv, ev] w fun r w' => (∃ v, r = .returned v ∧ RowM (fun i => w.heap.size ≤ i) w' v (marksT ds ns es)) ∧ Kp0 w w'
end Go.Proofs.Ytmamcnhofgfolaa
