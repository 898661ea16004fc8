/- Layer 16: what an element asks of a node is what it marks of it (plain functions alone). -/
import Derived.Test.YtmamcnhofgfolaaTsG
import Derived.Test.YtmamcnhofgfolaaTsD
namespace Go.Proofs.Ytmamcnhofgfolaa
open Go Go.RowKit
/-- Is it a leaf's name? -/
def lfNm (ds : List PD) (nm : List UInt8) : Bool := match plc ds nm with
  | some i => match ds[i]? with
    | some k => k.kd == 3
    | none => false
  | none => false
theorem isMatch_eq (d : PD) (e : PE) : isMatch d e = (lfNm d.ks e.nm && !e.tx.isEmpty) := by
  unfold isMatch lfNm
  cases plc d.ks e.nm with
  | none => rfl
  | some i =>
    cases h : d.ks[i]? with
    | none => simp only [h]; rfl
    | some k => simp only [h]
/-- Leaves' names stand once. -/
def UQ (ds : List PD) (ks : List PN) : Prop := ks.Pairwise fun a b => a.nm = b.nm → lfNm ds a.nm = false
theorem lfNm_some {ds : List PD} {nm : List UInt8} (h : lfNm ds nm = true) : ∃ i k, plc ds nm = some i ∧ ds[i]? = some k ∧ (k.kd == 3) = true := by
  unfold lfNm at h
  cases hp : plc ds nm with
  | none => rw [hp] at h; cases h
  | some i =>
    rw [hp] at h
    cases hk : ds[i]? with
    | none => simp only [hk] at h; cases h
    | some k =>
      simp only [hk] at h
      exact ⟨i, k, rfl, hk, h⟩
theorem mkT_made {ds : List PD} {f : PE} (hl : lfNm ds f.nm = true) (ht : f.tx.isEmpty = false) (k : PN) : mkT ds k [madeE f] = if k.nm == f.nm && k.vl == f.tx then pm1 else pm0 := by
  obtain ⟨i, dk, hp, hg, hkd⟩ := lfNm_some hl
  by_cases hn : k.nm = f.nm
  · unfold mkT
    rw [hn, hp]
    simp only [hg]
    rw [accT_cons, show (madeE f).nm = f.nm from rfl, hn, beq_self_eq_true, if_pos rfl, show accT dk k [] = pm0 from rfl, bothT_r0, oneT_leaf hkd]
    rw [show (madeE f).ks.isEmpty = true from rfl, show (madeE f).tx = f.tx from rfl, ht, Bool.true_and, Bool.false_or, Bool.true_and, beq_turn k.vl f.tx]
    cases f.tx == k.vl <;> rfl
  · have hb : (k.nm == f.nm) = false := by rw [beq_eq_false_iff_ne]; exact hn
    have hb2 : ((madeE f).nm == k.nm) = false := by rw [beq_eq_false_iff_ne]; exact fun h => hn h.symm
    rw [hb, Bool.false_and, if_neg (by decide)]
    unfold mkT
    split
    · rfl
    · split
      · rfl
      · rw [accT_cons, hb2]
        rfl
theorem lfP_uniq {ds : List PD} {ks : List PN} {nm vl : List UInt8} {p : Nat} (hu : UQ ds ks) (hl : lfNm ds nm = true) (hp : lfP ks nm vl = some p) (i : Nat) (hi : i < ks.length) : (ks[i].nm == nm && ks[i].vl == vl) = decide (i = p) := by
  obtain ⟨h1, h2, _⟩ := List.findIdx?_eq_some_iff_getElem.1 hp
  have hpn : ks[p].nm = nm := by
    have := (Bool.and_eq_true _ _).mp h2
    exact beq_iff_eq.1 this.1
  rcases Nat.lt_trichotomy i p with h | h | h
  · rw [decide_eq_false (by omega)]
    cases hq : (ks[i].nm == nm && ks[i].vl == vl)
    · rfl
    · have hin : ks[i].nm = nm := beq_iff_eq.1 ((Bool.and_eq_true _ _).mp hq).1
      have := List.pairwise_iff_getElem.1 hu i p hi h1 h (by rw [hin, hpn])
      rw [hin, hl] at this
      cases this
  · subst h
    rw [decide_eq_true rfl]
    exact h2
  · rw [decide_eq_false (by omega)]
    cases hq : (ks[i].nm == nm && ks[i].vl == vl)
    · rfl
    · have hin : ks[i].nm = nm := beq_iff_eq.1 ((Bool.and_eq_true _ _).mp hq).1
      have := List.pairwise_iff_getElem.1 hu p i h1 hi h (by rw [hin, hpn])
      rw [hpn, hl] at this
      cases this
structure LInv (d : PD) (ks : List PN) (M : List PM) (r : List PE) (s : Bool) (ins : List PE) : Prop where
  len : M.length = ks.length
  two : ∀ m ∈ M, m = pm0 ∨ m = pm1
  sm : s = M.any PM.on
  eq : ∀ (i : Nat) (hi : i < ks.length), mkT d.ks ks[i] ins = bothT (M.getD i pm0) (mkT d.ks ks[i] r)
theorem getD_two {M : List PM} (h : ∀ m ∈ M, m = pm0 ∨ m = pm1) (i : Nat) : M.getD i pm0 = pm0 ∨ M.getD i pm0 = pm1 := by
  rw [List.getD_eq_getElem?_getD]
  rcases Nat.lt_or_ge i M.length with hi | hi
  · rw [List.getElem?_eq_getElem hi]
    exact h _ (List.getElem_mem hi)
  · rw [List.getElem?_eq_none hi]
    exact .inl rfl
theorem getD_set_self {M : List PM} {i : Nat} (h : i < M.length) (m : PM) : (M.set i m).getD i pm0 = m := by
  rw [List.getD_eq_getElem?_getD, List.getElem?_set_self h]
  rfl
theorem getD_set_other {M : List PM} {i j : Nat} (h : j ≠ i) (m : PM) : (M.set i m).getD j pm0 = M.getD j pm0 := by
  rw [List.getD_eq_getElem?_getD, List.getD_eq_getElem?_getD, List.getElem?_set_ne (fun e => h e.symm)]
theorem any_set_on {M : List PM} {i : Nat} (h : i < M.length) : (M.set i pm1).any PM.on = true :=
  List.any_eq_true.2 ⟨pm1, by rw [List.mem_iff_getElem]; exact ⟨i, by simpa using h, by simp⟩, rfl⟩
theorem LInv.other {d : PD} {ks : List PN} {M : List PM} {r : List PE} {s : Bool} {ins : List PE} (h : LInv d ks M r s ins) (f : PE) : LInv d ks M (r ++ [f]) s (ins ++ [f]) :=
  ⟨h.len, h.two, h.sm, fun i hi => by rw [mkT_app, mkT_app, h.eq i hi, bothT_assoc]⟩
theorem LInv.hit {d : PD} {ks : List PN} {M : List PM} {r : List PE} {s : Bool} {ins : List PE} (h : LInv d ks M r s ins) (hu : UQ d.ks ks) {f : PE} (hl : lfNm d.ks f.nm = true) (ht : f.tx.isEmpty = false) {p : Nat} (hp : lfP ks f.nm f.tx = some p) : LInv d ks (M.set p pm1) r true (ins ++ [madeE f]) := by
  have hpl : p < M.length := by rw [h.len]; exact (List.findIdx?_eq_some_iff_getElem.1 hp).1
  refine ⟨by rw [List.length_set]; exact h.len, fun m hm => ?_, (any_set_on hpl).symm, fun i hi => ?_⟩
  · rcases List.mem_or_eq_of_mem_set hm with h' | h'
    · exact h.two m h'
    · exact .inr h'
  · rw [mkT_app, h.eq i hi, mkT_made hl ht, lfP_uniq hu hl hp i hi]
    by_cases hip : i = p
    · subst hip
      rw [decide_eq_true rfl, if_pos rfl, getD_set_self hpl]
      rcases getD_two h.two i with hm | hm
      · rw [hm, bothT_l0, bothT_comm]
      · rw [hm, bothT_comm (bothT pm1 _) pm1, ← bothT_assoc]
        rfl
    · rw [decide_eq_false hip, if_neg (by decide), bothT_r0, getD_set_other hip]
theorem lvs_ask (d : PD) (ks : List PN) (hu : UQ d.ks ks) : ∀ (fs : List PE) (M : List PM) (r : List PE) (s : Bool) (ins : List PE), LInv d ks M r s ins →
    (lvsT d ks fs M r s = none ∧ askL d ks fs ins r.isEmpty = ([], false)) ∨ ∃ M' r' s' ins', lvsT d ks fs M r s = some (M', r', s') ∧ LInv d ks M' r' s' ins' ∧ askL d ks fs ins r.isEmpty = if r'.isEmpty then ([], true) else (ins', false)
  | [], M, r, s, ins, h => .inr ⟨M, r, s, ins, rfl, h, rfl⟩
  | f :: fs, M, r, s, ins, h => by
    unfold lvsT askL
    cases hm : isMatch d f with
    | false =>
      have := lvs_ask d ks hu fs M (r ++ [f]) s (ins ++ [f]) (h.other f)
      rw [show (r ++ [f]).isEmpty = false by simp] at this
      simp only [Bool.false_eq_true, if_false]
      exact this
    | true =>
      rw [isMatch_eq, Bool.and_eq_true, Bool.not_eq_true'] at hm
      simp only [if_true]
      cases hp : lfP ks f.nm f.tx with
      | none =>
        have hh : hasL ks f.nm f.tx = false := by
          have : hasL ks f.nm f.tx = (lfP ks f.nm f.tx).isSome := rfl
          rw [this, hp]
          rfl
        rw [hh]
        exact .inl ⟨rfl, rfl⟩
      | some p =>
        have hh : hasL ks f.nm f.tx = true := by
          have : hasL ks f.nm f.tx = (lfP ks f.nm f.tx).isSome := rfl
          rw [this, hp]
          rfl
        rw [hh]
        exact lvs_ask d ks hu fs (M.set p pm1) r true (ins ++ [madeE f]) (h.hit hu hm.1 hm.2 hp)
theorem LInv.start (d : PD) (ks : List PN) : LInv d ks (List.replicate ks.length pm0) [] false [] := by
  refine ⟨List.length_replicate, fun m hm => .inl (List.mem_replicate.1 hm).2, ?_, fun i hi => ?_⟩
  · symm
    rw [List.any_eq_false]
    intro m hm
    rw [(List.mem_replicate.1 hm).2]
    decide
  · rw [mkT_nil]
    rcases getD_two (M := List.replicate ks.length pm0) (fun m hm => .inl (List.mem_replicate.1 hm).2) i with h | h
    · rw [h]
      rfl
    · rw [List.getD_eq_getElem?_getD, List.getElem?_replicate, if_pos hi] at h
      cases h
theorem finN_get (d : PD) (ks : List PN) (R M : List PM) (hM : M.length = ks.length) : ∀ (k : Nat), k ≤ ks.length → ∀ (j : Nat) (hj : j < ks.length), (finN d ks R k M).getD j pm0 = if j < k then (if hasT d.ky ks[j].nm then pm1 else bothT (M.getD j pm0) (R.getD j pm0)) else M.getD j pm0
  | 0, _, j, hj => by rw [if_neg (Nat.not_lt_zero j)]; rfl
  | k + 1, hk, j, hj => by
    have ih := finN_get d ks R M hM k (by omega)
    have hkl : k < ks.length := by omega
    have hlen : k < (finN d ks R k M).length := by rw [finN_len, hM]; exact hkl
    rw [finN]
    simp only [List.getElem?_eq_getElem hkl]
    have ihk := ih k hkl
    rw [if_neg (Nat.lt_irrefl k)] at ihk
    by_cases hjk : j = k
    · subst hjk
      rw [if_pos (Nat.lt_succ_self j)]
      split
      · rw [getD_set_self (by rw [List.length_set]; exact hlen)]
      · rw [getD_set_self hlen, ihk]
    · have hb : ∀ m m' : PM, (if hasT d.ky ks[k].nm = true then (((finN d ks R k M).set k m).set k m') else (finN d ks R k M).set k m).getD j pm0 = (finN d ks R k M).getD j pm0 := fun m m' => by
        split
        · rw [getD_set_other hjk, getD_set_other hjk]
        · rw [getD_set_other hjk]
      rw [hb, ih j hj]
      by_cases h1 : j < k
      · rw [if_pos h1, if_pos (show j < k + 1 by omega)]
      · rw [if_neg h1, if_neg (show ¬ j < k + 1 by omega)]
end Go.Proofs.Ytmamcnhofgfolaa
