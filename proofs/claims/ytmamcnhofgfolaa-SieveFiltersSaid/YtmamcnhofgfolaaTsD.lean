/- The reference of layer 16: what an element marks of a node. -/
import Derived.Test.YtmamcnhofgfolaaTsC
namespace Go.Proofs.Ytmamcnhofgfolaa
open Go Go.RowKit
section
variable {P : Program} {ops : Array Oper} {Q : Exit → Act → World → Prop} {rest l : List Oper} {o : Oper} {a : Act} {w : World}
/-- The walk of a list of operations, behind a name that is not opened: what a guard asks is looked at once only. -/
@[irreducible] def WL (P : Program) (ops : Array Oper) (Q : Exit → Act → World → Prop) (l : List Oper) (a : Act) (w : World) : Prop := wpList P ops Q l a w
theorem WL.enter {id : Nat} {l : List Oper} (h : WL P l.toArray Q l a w) : (Code.region id l.toArray false).wp P Q a w := by
  unfold WL at h
  exact wp_region_lit h
theorem WL.of (h : wpList P ops Q l a w) : WL P ops Q l a w := by
  unfold WL
  exact h
/-- A quiet operation of a region in its one order; one that its guard leaves out. -/
theorem WL.q {v : Value} (hw : Region.wanted o (yielded ops a.tmps) = true) (hv : (execOp a.eval o).run P w = .ok (.value v) w) {k : Tmp} (hk : o.dst = some k) (h : WL P ops Q rest { a with tmps := a.tmps.setIfInBounds k v } w) : WL P ops Q (o :: rest) a w := by
  unfold WL at h ⊢
  exact wpList_step fun K hK => by
    rw [if_pos hw]
    unfold Oper.wp
    rw [hv]
    refine hK _ _ ?_
    rw [hk]
    exact h
theorem WL.s (hw : Region.wanted o (yielded ops a.tmps) = false) {k : Tmp} (hk : o.dst = some k) (h : WL P ops Q rest { a with tmps := a.tmps.setIfInBounds k undef } w) : WL P ops Q (o :: rest) a w := by
  unfold WL at h ⊢
  unfold wpList
  rw [hw]
  simp only [Bool.false_eq_true, if_false]
  rw [hk]
  exact h
end
theorem dvl_ones {F : Nat → Prop} {w : World} {d : PD} {a b c : Value} (h : DfR F w d a b c) : Ones (dvl d a b c) := h.ones
theorem ArrM.row2 {B g : Nat} {w : World} {ms : List PM} (h : ArrM B g w ms) (hl : ms.length ≤ 1000000) : RowM (fun i => i = g ∨ B ≤ i) w (.slice (some ⟨g, 0, none⟩) ms.length ms.length) ms := by
  obtain ⟨vs, h1, h2⟩ := h
  refine ⟨vs, ⟨some ⟨g, 0, none⟩, ms.length, rfl, mcs_len _ _ h2, Nat.le_refl _, by omega, by simp, fun ad e i u hu => ?_⟩, MksV.keep (Kp.refl (fun _ => False) w) (fun _ _ _ h => h) (fun i hi _ => .inr hi.1) _ _ h2⟩
  cases e
  exact ⟨.inl rfl, by rw [Addr.add_lit, Nat.zero_add]; exact h1.cellV i hu⟩
theorem m0_ones : Ones (mvl pm0 (.slice none 0 0)) := by
  intro u hu
  simp only [mvl, List.mem_cons, List.not_mem_nil, or_false] at hu
  rcases hu with rfl | rfl | rfl <;> rfl
theorem m1_ones : Ones (mvl pm1 (.slice none 0 0)) := by
  intro u hu
  simp only [mvl, List.mem_cons, List.not_mem_nil, or_false] at hu
  rcases hu with rfl | rfl | rfl <;> rfl
theorem mb_ones (x y : Bool) (v : Value) (h : v.oneCell' = true) : Ones [.bool x, .bool y, v] := by
  intro u hu
  simp only [List.mem_cons, List.not_mem_nil, or_false] at hu
  rcases hu with rfl | rfl | rfl
  · rfl
  · rfl
  · exact h
theorem oneT_leaf {d : PD} {n : PN} {f : PE} (h : (d.kd == 3) = true) : oneT d n f = .mk (f.ks.isEmpty && (f.tx.isEmpty || f.tx == n.vl)) (f.ks.isEmpty && (f.tx.isEmpty || f.tx == n.vl)) [] := by
  cases n
  unfold oneT
  rw [if_pos (beq_iff_eq.1 h)]
  rfl
theorem oneT_text {d : PD} {n : PN} {f : PE} (h : (d.kd == 3) = false) (ht : f.tx.isEmpty = false) : oneT d n f = pm0 := by
  cases n
  unfold oneT
  rw [if_neg (fun h1 => by rw [beq_iff_eq.2 h1] at h; cases h), ht]
  rfl
theorem oneT_all {d : PD} {n : PN} {f : PE} (h : (d.kd == 3) = false) (ht : f.tx.isEmpty = true) (hk : f.ks = []) : oneT d n f = pm1 := by
  cases n
  unfold oneT
  rw [if_neg (fun h1 => by rw [beq_iff_eq.2 h1] at h; cases h), ht, hk]
  rfl
theorem oneT_kids {d : PD} {n : PN} {f : PE} (h : (d.kd == 3) = false) (ht : f.tx.isEmpty = true) (hk : f.ks ≠ []) : oneT d n f = match lvsT d n.ks f.ks (List.replicate n.ks.length pm0) [] false with
    | none => pm0
    | some (M, r, s) => if s && r.isEmpty then pm1 else if s || (marksT d.ks n.ks r).any PM.on then .mk true false (finN d n.ks (marksT d.ks n.ks r) n.ks.length M) else pm0 := by
  cases n
  unfold oneT
  rw [if_neg (fun h1 => by rw [beq_iff_eq.2 h1] at h; cases h), ht]
  cases hf : f.ks with
  | nil => exact absurd hf hk
  | cons x l => rfl
set_option maxRecDepth 20000 in
set_option maxHeartbeats 4000000 in
theorem one_low (n : PN) (ih : MarksP n.ks) (F G H : Nat → Prop) (d : PD) (e : PE) (da db dc kv ea ec : Value) (w : World) (hd : DfR F w d da db dc) (hn : RowN G w kv n.ks) (he : ElR H w e ea ec) (hok : kOk n = true) (heo : eOk e = true) (hlow : (d.kd == 3) = false → ((S e.tx).toList == []) = true → 0 < e.ks.length → False) :
    Calls Try.prog 37 #[DefA d da db dc, NodA n kv, ElmA e ea ec] w fun r w' => NewM w w' r (oneT d n e) ∧ Kp0 w w' := by
  have HLOW := Lib.hid hlow
  clear hlow
  have HD := Lib.hid hd
  have HN := Lib.hid hn
  have HE := Lib.hid he
  have HOK := Lib.hid (kOk_ks hok)
  have HEO := Lib.hid (esOk_mem (es := [e]) (by unfold esOk; rw [heo]; rfl) (List.mem_singleton.2 rfl))
  have HIH := Lib.hid ih
  have hmk : ∀ u : World, (Instr.makeSlice 55 (.int .i64 (n.ks.length : Int)) (.int .i64 (n.ks.length : Int))).run Try.prog u = .ok (.slice (some ⟨u.heap.size, 0, none⟩) n.ks.length n.ks.length) (u.alloc (.cells (mcs (List.replicate n.ks.length pm0) (List.replicate n.ks.length (.slice none 0 0))).toArray 74)) := fun u => mkM n.ks.length HOK.out.1 u
  obtain ⟨no, nc, rfl, _, _, _⟩ := hn.shape
  obtain ⟨eo, ecp, rfl, _, _, _⟩ := he.ks.shape
  clear hd hn he hok heo ih
  unfold DefA NodA ElmA
  go_enter Try.func37, Try.ntmps37
  go_upto_region 1 with (refine wl_alloc_as asMk rfl rfl ?_
                         intro w2 g6 hw hg
                         have HB : Hid (Bks w w2 [(w.heap.size, 35, dvl d da db dc), (w.heap.size + 1, 40, nvl n (.slice no n.ks.length nc)), (w.heap.size + 1 + 1, 38, evl e ea (.slice eo e.ks.length ecp)), (g6, 74, mk0)]) := Lib.hid (by
                           rw [hw]
                           exact ((((Bks.nil w).push 35 (dvl d da db dc) rfl).push 40 (nvl n (.slice no n.ks.length nc)) (g := w.heap.size + 1) (by simp)).push 38 (evl e ea (.slice eo e.ks.length ecp)) (g := w.heap.size + 1 + 1) (by simp)).push 74 mk0 (g := g6) hg)
                         have HG6 : Hid (w.heap.size + 1 + 1 < g6 ∧ g6 < w2.heap.size) := Lib.hid (by rw [hw, hg]; simp)
                         clear hw hg)
  try simp only [Act.put]
  try simp only [List.setIfInBounds_toArray, List.set_cons_zero, List.set_cons_succ]
  obtain ⟨g5, hg5⟩ : ∃ x, x = w.heap.size + 1 + 1 := ⟨_, rfl⟩
  obtain ⟨g4, hg4⟩ : ∃ x, x = w.heap.size + 1 := ⟨_, rfl⟩
  obtain ⟨g3, hg3⟩ : ∃ x, x = w.heap.size := ⟨_, rfl⟩
  rw [← hg5, ← hg4, ← hg3] at HB
  rw [← hg5] at HG6
  rw [← hg5, ← hg4, ← hg3]
  have HG : Hid (w.heap.size = g3 ∧ g4 = g3 + 1 ∧ g5 = g3 + 2 ∧ g5 < g6 ∧ g6 < w2.heap.size) := Lib.hid (by have := HG6.out; omega)
  clear hg5 hg4 hg3 HG6
  obtain ⟨m, hm⟩ : ∃ x, x = e.ks.length := ⟨_, rfl⟩
  rw [← hm] at HB
  rw [← hm]
  have HM := Lib.hid hm
  clear hm
  have HB6Z := Lib.hid (HB.out.at 3 rfl)
  have HKWZ := Lib.hid HB.out.kp
  have k1 := (HB.out.at 0 rfl).cellV 1 (v := .int .i64 d.kd) rfl
  have n1 := (HB.out.at 1 rfl).cellV 1 (v := .string (S n.vl)) rfl
  have n2 := (HB.out.at 1 rfl).cellV 2 (v := .slice no n.ks.length nc) rfl
  have e3 := (HB.out.at 2 rfl).cellV 3 (v := .string (S e.tx)) rfl
  have e4 := (HB.out.at 2 rfl).cellV 4 (v := .slice eo m ecp) rfl
  cases h3 : (d.kd == 3)
  · have H3 := Lib.hid h3
    cases ht : ((S e.tx).toList == [])
    · have HR : Hid (oneT d n e = pm0) := Lib.hid (oneT_text H3.out (by rw [← tx_empty]; exact ht))
      have t1 : ((S e.tx).toList != []) = true := by rw [bne, ht]; rfl
      clear H3
      go_wp2_with (refine wl_store_blk rfl 74 (.tmp 6) (.tmp 56) rfl g6 _ mk0 (mvl pm0 (.slice none 0 0)) rfl rfl HB6Z.out infoMk rfl (by first | exact m0_ones | exact m1_ones) ?_
                   intro w5 hA hk5
                   have HB9 := Lib.hid hA
                   have HK5 : Hid (Kp0 w w5) := Lib.hid (HKWZ.out.trans hk5 (fun _ _ h => h) (fun i hi e => by have := HG.out; omega))
                   clear hA hk5)
      refine ret_blk 6 74 74 g6 (mvl pm0 (.slice none 0 0)) _ rfl rfl HB9.out Try.underlying74 rfl infoMk rfl ?_
      exact ⟨⟨.slice none 0 0, by rw [HR.out]; rfl, by rw [HR.out]; exact RowM.nil _ _⟩, HK5.out⟩
    · have t1 : ((S e.tx).toList != []) = false := by rw [bne, ht]; rfl
      rcases Nat.eq_zero_or_pos m with hm0 | hm0
      · subst hm0
        have HR : Hid (oneT d n e = pm1) := Lib.hid (oneT_all H3.out (by rw [← tx_empty]; exact ht) (List.length_eq_zero_iff.1 HM.out.symm))
        have f1 : (((0 : Nat) : Int) == 0) = true := rfl
        clear H3
        go_wp2_with (refine wl_store_blk rfl 74 (.tmp 6) (.tmp 61) rfl g6 _ mk0 (mvl pm1 (.slice none 0 0)) rfl rfl HB6Z.out infoMk rfl (by first | exact m0_ones | exact m1_ones) ?_
                     intro w5 hA hk5
                     have HB9 := Lib.hid hA
                     have HK5 : Hid (Kp0 w w5) := Lib.hid (HKWZ.out.trans hk5 (fun _ _ h => h) (fun i hi e => by have := HG.out; omega))
                     clear hA hk5)
        refine ret_blk 6 74 74 g6 (mvl pm1 (.slice none 0 0)) _ rfl rfl HB9.out Try.underlying74 rfl infoMk rfl ?_
        exact ⟨⟨.slice none 0 0, by rw [HR.out]; rfl, by rw [HR.out]; exact RowM.nil _ _⟩, HK5.out⟩
      · have f1 : ((m : Int) == 0) = false := by rw [beq_eq_false_iff_ne]; omega
        have HF0 := Lib.hid (oneT_kids (n := n) H3.out (by rw [← tx_empty]; exact ht) (fun h => by have := HM.out; rw [h] at this; simp at this; omega))
        exact (HLOW.out h3 ht (by rw [← HM.out]; exact hm0)).elim
  · have HR0 : Hid (oneT d n e = .mk (e.ks.isEmpty && (e.tx.isEmpty || e.tx == n.vl)) (e.ks.isEmpty && (e.tx.isEmpty || e.tx == n.vl)) []) := Lib.hid (oneT_leaf h3)
    rcases Nat.eq_zero_or_pos m with hm0 | hm0
    rotate_left 1
    · have HR : Hid (oneT d n e = pm0) := Lib.hid (by
        rw [HR0.out]
        cases hks : e.ks with
        | nil => have := HM.out; rw [hks] at this; simp at this; omega
        | cons x l => rfl)
      have f1 : ((m : Int) == 0) = false := by rw [beq_eq_false_iff_ne]; omega
      go_upto_region 2 with (fail)
      refine WL.enter ?_
      iterate 5 (refine WL.q (v := ?_) (by rfl) ?_ rfl ?_; rotate_left 1; (focus (go_simp; try (with_reducible rfl); done)); try simp only [List.setIfInBounds_toArray, List.set_cons_zero, List.set_cons_succ])
      iterate 10 (refine WL.s (by rfl) rfl ?_; try simp only [List.setIfInBounds_toArray, List.set_cons_zero, List.set_cons_succ])
      iterate 6 (refine WL.q (v := ?_) (by rfl) ?_ rfl ?_; rotate_left 1; (focus (go_simp; try (with_reducible rfl); done)); try simp only [List.setIfInBounds_toArray, List.set_cons_zero, List.set_cons_succ])
      iterate 10 (refine WL.s (by rfl) rfl ?_; try simp only [List.setIfInBounds_toArray, List.set_cons_zero, List.set_cons_succ])
      iterate 2 (refine WL.q (v := ?_) (by rfl) ?_ rfl ?_; rotate_left 1; (focus (go_simp; try (with_reducible rfl); done)); try simp only [List.setIfInBounds_toArray, List.set_cons_zero, List.set_cons_succ])
      refine WL.of ?_
      refine wl_store_blk rfl 74 (.tmp 6) (.tmp 52) rfl g6 _ mk0 (mvl pm0 (.slice none 0 0)) rfl rfl HB6Z.out infoMk rfl (by first | exact m0_ones | exact m1_ones) ?_
      intro w5 hA hk5
      have HB9 := Lib.hid hA
      have HK5 : Hid (Kp0 w w5) := Lib.hid (HKWZ.out.trans hk5 (fun _ _ h => h) (fun i hi e => by have := HG.out; omega))
      clear hA hk5
      try simp only [Act.put]
      refine wpList_nil ?_
      go_wp2
      refine ret_blk 6 74 74 g6 (mvl pm0 (.slice none 0 0)) _ rfl rfl HB9.out Try.underlying74 rfl infoMk rfl ?_
      exact ⟨⟨.slice none 0 0, by rw [HR.out]; rfl, by rw [HR.out]; exact RowM.nil _ _⟩, HK5.out⟩
    · subst hm0
      have HKS : Hid (e.ks.isEmpty = true) := Lib.hid (by
        cases hks : e.ks with
        | nil => rfl
        | cons x l => have := HM.out; rw [hks] at this; simp at this)
      have f1 : (((0 : Nat) : Int) == 0) = true := rfl
      cases ht : ((S e.tx).toList == [])
      · have HR1 : Hid (oneT d n e = .mk ((S e.tx).toList == (S n.vl).toList) ((S e.tx).toList == (S n.vl).toList) []) := Lib.hid (by rw [HR0.out, HKS.out, ← tx_empty, ht, S_beq]; simp)
        cases hv : ((S e.tx).toList == (S n.vl).toList)
        · have HR : Hid (oneT d n e = pm0) := Lib.hid (by rw [HR1.out, hv]; rfl)
          go_upto_region 2 with (fail)
          refine WL.enter ?_
          iterate 33 (refine WL.q (v := ?_) (by rfl) ?_ rfl ?_; rotate_left 1; (focus (go_simp; try (with_reducible rfl); done)); try simp only [List.setIfInBounds_toArray, List.set_cons_zero, List.set_cons_succ])
          refine WL.of ?_
          refine wl_store_blk rfl 74 (.tmp 6) (.tmp 52) rfl g6 _ mk0 (mvl pm0 (.slice none 0 0)) rfl rfl HB6Z.out infoMk rfl (by first | exact m0_ones | exact m1_ones) ?_
          intro w5 hA hk5
          have HB9 := Lib.hid hA
          have HK5 : Hid (Kp0 w w5) := Lib.hid (HKWZ.out.trans hk5 (fun _ _ h => h) (fun i hi e => by have := HG.out; omega))
          clear hA hk5
          try simp only [Act.put]
          refine wpList_nil ?_
          go_wp2
          refine ret_blk 6 74 74 g6 (mvl pm0 (.slice none 0 0)) _ rfl rfl HB9.out Try.underlying74 rfl infoMk rfl ?_
          exact ⟨⟨.slice none 0 0, by rw [HR.out]; rfl, by rw [HR.out]; exact RowM.nil _ _⟩, HK5.out⟩
        · have HR : Hid (oneT d n e = pm1) := Lib.hid (by rw [HR1.out, hv]; rfl)
          go_upto_region 2 with (fail)
          refine WL.enter ?_
          iterate 33 (refine WL.q (v := ?_) (by rfl) ?_ rfl ?_; rotate_left 1; (focus (go_simp; try (with_reducible rfl); done)); try simp only [List.setIfInBounds_toArray, List.set_cons_zero, List.set_cons_succ])
          refine WL.of ?_
          refine wl_store_blk rfl 74 (.tmp 6) (.tmp 52) rfl g6 _ mk0 (mvl pm1 (.slice none 0 0)) rfl rfl HB6Z.out infoMk rfl (by first | exact m0_ones | exact m1_ones) ?_
          intro w5 hA hk5
          have HB9 := Lib.hid hA
          have HK5 : Hid (Kp0 w w5) := Lib.hid (HKWZ.out.trans hk5 (fun _ _ h => h) (fun i hi e => by have := HG.out; omega))
          clear hA hk5
          try simp only [Act.put]
          refine wpList_nil ?_
          go_wp2
          refine ret_blk 6 74 74 g6 (mvl pm1 (.slice none 0 0)) _ rfl rfl HB9.out Try.underlying74 rfl infoMk rfl ?_
          exact ⟨⟨.slice none 0 0, by rw [HR.out]; rfl, by rw [HR.out]; exact RowM.nil _ _⟩, HK5.out⟩
      · have HR : Hid (oneT d n e = pm1) := Lib.hid (by rw [HR0.out, HKS.out, ← tx_empty, ht]; rfl)
        go_upto_region 2 with (fail)
        refine WL.enter ?_
        iterate 9 (refine WL.q (v := ?_) (by rfl) ?_ rfl ?_; rotate_left 1; (focus (go_simp; try (with_reducible rfl); done)); try simp only [List.setIfInBounds_toArray, List.set_cons_zero, List.set_cons_succ])
        iterate 5 (refine WL.s (by rfl) rfl ?_; try simp only [List.setIfInBounds_toArray, List.set_cons_zero, List.set_cons_succ])
        iterate 11 (refine WL.q (v := ?_) (by rfl) ?_ rfl ?_; rotate_left 1; (focus (go_simp; try (with_reducible rfl); done)); try simp only [List.setIfInBounds_toArray, List.set_cons_zero, List.set_cons_succ])
        iterate 5 (refine WL.s (by rfl) rfl ?_; try simp only [List.setIfInBounds_toArray, List.set_cons_zero, List.set_cons_succ])
        iterate 3 (refine WL.q (v := ?_) (by rfl) ?_ rfl ?_; rotate_left 1; (focus (go_simp; try (with_reducible rfl); done)); try simp only [List.setIfInBounds_toArray, List.set_cons_zero, List.set_cons_succ])
        refine WL.of ?_
        refine wl_store_blk rfl 74 (.tmp 6) (.tmp 52) rfl g6 _ mk0 (mvl pm1 (.slice none 0 0)) rfl rfl HB6Z.out infoMk rfl (by first | exact m0_ones | exact m1_ones) ?_
        intro w5 hA hk5
        have HB9 := Lib.hid hA
        have HK5 : Hid (Kp0 w w5) := Lib.hid (HKWZ.out.trans hk5 (fun _ _ h => h) (fun i hi e => by have := HG.out; omega))
        clear hA hk5
        try simp only [Act.put]
        refine wpList_nil ?_
        go_wp2
        refine ret_blk 6 74 74 g6 (mvl pm1 (.slice none 0 0)) _ rfl rfl HB9.out Try.underlying74 rfl infoMk rfl ?_
        exact ⟨⟨.slice none 0 0, by rw [HR.out]; rfl, by rw [HR.out]; exact RowM.nil _ _⟩, HK5.out⟩
end Go.Proofs.Ytmamcnhofgfolaa
