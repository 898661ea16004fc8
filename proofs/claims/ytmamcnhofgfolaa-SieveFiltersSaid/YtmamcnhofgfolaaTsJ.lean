/- Layer 16: trees that were read are good (plain functions alone). -/
import Derived.Test.YtmamcnhofgfolaaTsI
namespace Go.Proofs.Ytmamcnhofgfolaa
open Go Go.RowKit
/-- A definition of so many levels, whose keys are leaves. -/
def wfD : Nat → PD → Bool
  | 0, _ => false
  | lv + 1, d => d.ky.all (fun k => d.kd == 2 && lfNm d.ks k) && d.ks.all (wfD lv)
theorem wfD_parts {lv : Nat} {d : PD} (h : wfD lv d = true) : 0 < lv ∧ (∀ nm, hasT d.ky nm = true → (d.kd == 2) = true ∧ lfNm d.ks nm = true) ∧ ∀ k ∈ d.ks, wfD (lv - 1) k = true := by
  cases lv with
  | zero => cases h
  | succ lv =>
    unfold wfD at h
    rw [Bool.and_eq_true, List.all_eq_true, List.all_eq_true] at h
    refine ⟨Nat.succ_pos lv, fun nm hn => ?_, h.2⟩
    unfold hasT at hn
    rw [List.any_eq_true] at hn
    obtain ⟨k, hk, he⟩ := hn
    have := h.1 k hk
    rw [Bool.and_eq_true] at this
    rw [← beq_iff_eq.1 he]
    exact this
theorem insT_perm (ds : List PD) (out : List PN) (n : PN) : (insT ds out n).Perm (n :: out) := by
  unfold insT
  refine List.perm_middle.trans ?_
  rw [List.take_append_drop]
theorem ordT_perm (ds : List PD) : ∀ (ns : List PN) (out : List PN), (ns.foldl (insT ds) out).Perm (out ++ ns)
  | [], out => by rw [List.foldl_nil, List.append_nil]
  | n :: ns, out => by
    rw [List.foldl_cons]
    refine (ordT_perm ds ns _).trans ?_
    refine ((insT_perm ds out n).append_right ns).trans ?_
    exact List.perm_middle.symm
theorem UQ_perm {ds : List PD} {a b : List PN} (h : a.Perm b) (ha : UQ ds a) : UQ ds b :=
  (h.pairwise_iff (fun {x y} hxy e => by rw [← e] at hxy; rw [e] at hxy ⊢; exact hxy rfl)).1 ha
theorem ksOk_of : ∀ {ns : List PN}, (∀ n ∈ ns, kOk n = true) → ksOk ns = true
  | [], _ => rfl
  | m :: ns, h => by
    unfold ksOk
    rw [Bool.and_eq_true]
    exact ⟨h m (by simp), ksOk_of (fun n hn => h n (by simp [hn]))⟩
def Good (ds : List PD) (lv : Nat) (n : PN) : Prop := (∃ i d, plc ds n.nm = some i ∧ ds[i]? = some d ∧ GdN n d lv) ∧ kOk n = true
theorem rdFin_good {ds : List PD} {lv : Nat} {out ns : List PN} (h : rdFin ds out = .ok ns) (hg : ∀ x ∈ out, Good ds lv x) (hu : UQ ds out) : GdL ns ds lv ∧ UQ ds ns ∧ ksOk ns = true ∧ ns.length ≤ 256 := by
  unfold rdFin at h
  split at h
  · cases h
  · rename_i hl
    cases h
    have hp : (ordT ds out).Perm out := by
      have := ordT_perm ds out []
      rw [List.nil_append] at this
      exact this
    refine ⟨GdL.of (fun n hn => (hg n (hp.mem_iff.1 hn)).1), UQ_perm hp.symm hu, ksOk_of (fun n hn => (hg n (hp.mem_iff.1 hn)).2), ?_⟩
    rw [hp.length_eq]
    omega
theorem UQ_snoc {ds : List PD} {lv : Nat} {out all : List PN} {p : PD × PN} (hw : ∀ d ∈ ds, wfD lv d = true) (hin : ∀ x ∈ out, x ∈ all) (hu : UQ ds out) (hp : ∃ i, plc ds p.2.nm = some i ∧ ds[i]? = some p.1) (hs : sameT p.1 all p.2 = none) : UQ ds (out ++ [p.2]) := by
  refine List.pairwise_append.2 ⟨hu, List.pairwise_singleton _ _, fun x hx y hy e => ?_⟩
  rw [List.mem_singleton] at hy
  subst hy
  cases hl : lfNm ds x.nm
  · rfl
  · exfalso
    rw [e] at hl
    obtain ⟨i, hi, hd⟩ := hp
    have hk : (p.1.kd == 3) = true := by
      unfold lfNm at hl
      rw [hi] at hl
      simp only [hd] at hl
      exact hl
    have hwf := wfD_parts (hw p.1 (List.mem_of_getElem? hd))
    have hky : p.1.ky = [] := by
      cases hq : p.1.ky with
      | nil => rfl
      | cons k l =>
        have := (hwf.2.1 k (by unfold hasT; rw [hq, List.any_cons]; simp)).1
        have h2 := beq_iff_eq.1 this
        have h3 := beq_iff_eq.1 hk
        rw [h2] at h3
        cases h3
    have := List.findIdx?_eq_none_iff.1 hs x (hin x hx)
    rw [isSame, keyG, keyG, hky, e] at this
    simp [keyT, cmpT] at this
mutual
theorem rdOne_good : ∀ (e : PE) (ds : List PD) (lv : Nat) (p : PD × PN), (∀ d ∈ ds, wfD lv d = true) → rdOne ds e = .ok p → (∃ i, plc ds p.2.nm = some i ∧ ds[i]? = some p.1) ∧ GdN p.2 p.1 lv ∧ kOk p.2 = true
  | .mk sp nm at_ tx ks, ds, lv, p, hw, h => by
    unfold rdOne at h
    cases hp : plc ds nm with
    | none => rw [hp] at h; cases h
    | some i =>
      rw [hp] at h
      cases hd : ds[i]? with
      | none => simp only [hd] at h; cases h
      | some d =>
        simp only [hd] at h
        have hwf := wfD_parts (hw d (List.mem_of_getElem? hd))
        split at h
        · unfold rdLeaf at h
          split at h
          · cases h
            refine ⟨⟨i, hp, hd⟩, ?_, rfl⟩
            unfold GdN
            exact ⟨hwf.1, fun _ => rfl, List.Pairwise.nil, fun k hk => (by cases hk), by unfold GdL; trivial⟩
          · cases h
        · rename_i h3
          split at h
          · cases hr : rdAll d.ks ks [] [] with
            | er x => rw [hr] at h; cases h
            | ok kids =>
              rw [hr] at h
              have hg := rdAll_good ks d.ks (lv - 1) [] [] kids hwf.2.2 (fun x hx => (by cases hx)) (fun x hx => (by cases hx)) List.Pairwise.nil hr
              simp only [] at h
              unfold rdKeys at h
              split at h
              · cases h
              · cases h
                refine ⟨⟨i, hp, hd⟩, ?_, ?_⟩
                · unfold GdN
                  refine ⟨hwf.1, fun hk => absurd (beq_iff_eq.1 hk) h3, hg.2.1, fun k hk hky => ?_, hg.1⟩
                  have hkk := hwf.2.1 k.nm hky
                  obtain ⟨j, dk, h4, h5, h6⟩ := hg.1.mem k hk
                  refine ⟨hkk.1, h6.parts.2.1 ?_⟩
                  have := hkk.2
                  unfold lfNm at this
                  rw [h4] at this
                  simp only [h5] at this
                  exact this
                · unfold kOk
                  rw [Bool.and_eq_true, decide_eq_true_eq]
                  exact ⟨by have := hg.2.2.2; omega, hg.2.2.1⟩
          · cases h
theorem rdAll_good : ∀ (es : List PE) (ds : List PD) (lv : Nat) (all out ns : List PN), (∀ d ∈ ds, wfD lv d = true) → (∀ x ∈ out, Good ds lv x) → (∀ x ∈ out, x ∈ all) → UQ ds out → rdAll ds es all out = .ok ns → GdL ns ds lv ∧ UQ ds ns ∧ ksOk ns = true ∧ ns.length ≤ 256
  | [], ds, lv, all, out, ns, hw, hg, hin, hu, h => by
    unfold rdAll at h
    exact rdFin_good h hg hu
  | e :: es, ds, lv, all, out, ns, hw, hg, hin, hu, h => by
    unfold rdAll at h
    cases h1 : rdOne ds e with
    | er x => rw [h1] at h; cases h
    | ok p =>
      rw [h1] at h
      simp only [] at h
      have hp := rdOne_good e ds lv p hw h1
      cases hs : sameT p.1 all p.2 with
      | some i => rw [hs] at h; cases h
      | none =>
        rw [hs] at h
        simp only [] at h
        obtain ⟨⟨i, hi, hd⟩, hn, hok⟩ := hp
        refine rdAll_good es ds lv _ _ ns hw ?_ ?_ ?_ h
        · split
          · intro x hx
            rcases List.mem_append.1 hx with hx | hx
            · exact hg x hx
            · rw [List.mem_singleton] at hx
              subst hx
              exact ⟨⟨i, p.1, hi, hd, hn⟩, hok⟩
          · exact hg
        · split
          · intro x hx
            rcases List.mem_append.1 hx with hx | hx
            · exact List.mem_append_left _ (hin x hx)
            · exact List.mem_append_right _ hx
          · exact fun x hx => List.mem_append_left _ (hin x hx)
        · split
          · exact UQ_snoc hw hin hu ⟨i, hi, hd⟩ hs
          · exact hu
end
theorem schD_wf : ∀ d ∈ schD, wfD 10 d = true := by
  have h : schD.all (wfD 10) = true := by decide +kernel
  rw [List.all_eq_true] at h
  exact h
theorem readD_good {es : List PE} {ns : List PN} (h : readT schD es = .ok ns) : GdL ns schD 10 ∧ ksOk ns = true ∧ ns.length ≤ 256 := by
  have := rdAll_good es schD 10 [] [] ns schD_wf (fun x hx => (by cases hx)) (fun x hx => (by cases hx)) List.Pairwise.nil h
  exact ⟨this.1, this.2.2.1, this.2.2.2⟩
mutual
theorem smOne_cnt : ∀ (e : PE) (n : Int), 0 ≤ smOne e n → (cntEs e.ks : Int) ≤ n - smOne e n
  | .mk sp nm at_ tx ks, n, h => by
    unfold smOne at h ⊢
    exact smAll_cnt ks n h
theorem smAll_cnt : ∀ (es : List PE) (n : Int), 0 ≤ smAll es n → (cntEs es : Int) ≤ n - smAll es n
  | [], n, h => by
    unfold smAll
    rw [cntEs]
    omega
  | e :: es, n, h => by
    have hc1 := smC_pos e
    unfold smAll at h ⊢
    by_cases hm : n - smC e < 0
    · rw [if_pos hm] at h
      omega
    · rw [if_neg hm] at h ⊢
      have h1 := smAll_le es (smOne e (n - smC e))
      have h3 := smOne_cnt e (n - smC e) (by omega)
      have h4 := smAll_cnt es (smOne e (n - smC e)) h
      rw [cntEs, cntE_ks]
      omega
end
end Go.Proofs.Ytmamcnhofgfolaa
