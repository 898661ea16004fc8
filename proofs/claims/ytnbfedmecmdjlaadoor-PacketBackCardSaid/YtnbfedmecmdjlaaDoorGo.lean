/- Package packet: a packet's code. -/
import Derived.Test.YtnbfedmecmdjlaaDoorGn
namespace Go.Proofs.YtnbfedmecmdjlaaDoor
open Go Go.RowKit
theorem wp_alloc_as {T : TypeId} {cs : List Value} (hA : AllocAs T cs) {op : Oper} {a : Act} {w : World} {K : Act → World → Prop} {Q : Exit → Act → World → Prop} (ho : op.op = .alloc T)
    (h : ∀ w' g, w' = w.alloc (.cells cs.toArray T) → g = w.heap.size → K (a.put op.dst (.pointer (some ⟨g, 0, none⟩))) w') : Oper.wp Tryd.prog op a w K Q := by
  unfold Oper.wp
  rw [hA w a.eval op ho]
  exact h _ _ rfl rfl
set_option maxRecDepth 20000 in
set_option maxHeartbeats 8000000 in
theorem code_any (B b : Nat) (T : TypeId) (rest : List Value) (d : Dn) (sg : Option Nat) (v : Value) (l : List UInt8) (w : World) (h : DirM B w b T rest d sg) (ht : TabM B w) (hv : Rd w v (bys l)) (hl : l.length ≤ 140737488351232) :
    Calls Tryd.prog 23 #[.pointer (some ⟨b, 0, none⟩), v] w fun e w' => ∃ v', e = .returned v' ∧ Rd w' v' (bys (codeB d l)) ∧ Kp0 w w' := by
  have hc := h.c0
  have H := Lib.hid h
  have HT := Lib.hid ht
  have HV := Lib.hid hv
  have HL := Lib.hid hl
  have HN := Lib.hid h.num
  have HCN := Lib.hid h.num'
  rcases h.key.none_iff with ⟨h1, rfl⟩ | ⟨ks, c, p, g, h1, rfl, h2, h3, h4⟩
  · have hu : codeB d l = [] := by unfold codeB; rw [h1]; rfl
    rw [hu]
    clear h1 hu h ht hv hl
    unfold spV at hc
    go_enter Tryd.func23, Tryd.ntmps23
    go_wp2
    go_ret
    exact ⟨_, rfl, Rd.nil _, Kp.refl _ _⟩
  have hu : codeB d l = macB d.mac (be4 d.num ++ l) := by unfold codeB; rw [h1]; rfl
  have HM : Hid (macB d.mac [be4 d.num, l].flatten = macB d.mac (be4 d.num ++ l)) := Lib.hid (by simp)
  rw [hu]
  clear h1 hu h2 h3 h4 hl ht
  unfold spV at hc
  obtain ⟨ao, cap, rfl, -, -, -⟩ := hv.shapeB
  clear h hv
  go_enter Tryd.func23, Tryd.ntmps23
  go_upto_region 3 with (fail)
  have hcn : ∀ wq, Kp0 w wq → wq.cell? ⟨b, 34, none⟩ = some (.int .u32 (d.num : Int)) := fun wq hq => hq.cell HCN.out (fun h => h)
  have hw1 : Kp0 w w.drew := (Kp.refl _ _).drew
  clear hc
  refine wp_region_px 14 [13] (fun w' : World => Kp0 w w') (.quiet 0 (.quiet 1 (.quiet 2 (.quiet 3 (.quiet 4 (.quiet 5 (.quiet 6 (.quiet 7 (.quiet 9 (.two 8 (.two 10 (.two 11 (.eff 12 (.wall 13 .done)) 12 (.eff 11 (.wall 13 .done))) 12 (.eff 10 (.eff 11 (.wall 13 .done)))) 12 (.eff 8 (.eff 10 (.eff 11 (.wall 13 .done)))))))))))))) (by kernel_rfl) (by kernel_rfl) (by kernel_rfl) (by kernel_rfl) (fun _ d _ _ _ h => by cases d <;> exact h) (Kp.refl _ _).drew ?_
  iterate 9 (refine px_quiet (v := ?_) rfl (by rfl) (fun wq hwq => ?_) rfl ?_; rotate_left 1; (focus (have hq := hcn wq hwq; go_simp; try (with_reducible rfl); done)); try simp only [List.setIfInBounds_toArray, List.set_cons_zero, List.set_cons_succ])
  refine ⟨px_one rfl (by rfl) (fun K hK => ?_), px_one rfl (by rfl) (fun K hK => ?_)⟩
  · skip
    go_simp
    refine (u32_any (.slice none 0 0) [] d.num w.drew (Rd.nil _) HN.out (by simp)).mono ?_
    rintro e v1 ⟨s8, rfl, ho8, hk1⟩
    rw [List.nil_append] at ho8
    obtain ⟨a8, c8, e8, -, -, -⟩ := ho8.rd.shapeB
    rw [be4_l4] at e8
    subst e8
    simp only []
    have HO8 := Lib.hid ho8
    clear ho8
    refine hK (fun w' => Kp0 v1 w') _ _ (fun x hx => (hw1.tr hk1).tr hx) (Kp.refl _ _) ?_
    clear hK K
    try simp only [List.setIfInBounds_toArray, List.set_cons_zero, List.set_cons_succ]
    refine ⟨px_one rfl (by rfl) (fun K hK => ?_), px_one rfl (by rfl) (fun K hK => ?_)⟩
    · skip
      go_simp
      have hk2 : Kp0 v1 (v1.alloc (.cells #[.slice a8 4 c8, .slice ao l.length cap] 32)) := (Kp.refl _ _).alloc _
      have HRW := Lib.hid (rdSlice v1 [.slice a8 4 c8, .slice ao l.length cap] 2 32 rfl (by decide))
      obtain ⟨v2, hnw2⟩ : ∃ x, x = v1.alloc (.cells #[.slice a8 4 c8, .slice ao l.length cap] 32) := ⟨_, rfl⟩
      have hrw2 : Rd v2 (.slice (some ⟨v1.heap.size, 0, none⟩) 2 2) [.slice a8 4 c8, .slice ao l.length cap] := by rw [hnw2]; exact HRW.out
      rw [← hnw2] at hk2 ⊢
      have HRX := Lib.hid hrw2
      clear HRW hrw2 hnw2
      generalize v1.heap.size = gr at HRX ⊢
      refine hK (fun w' => Kp0 v2 w') _ _ (fun x hx => hk2.tr hx) (Kp.refl _ _) ?_
      clear hK K
      try simp only [List.setIfInBounds_toArray, List.set_cons_zero, List.set_cons_succ]
      refine ⟨px_one rfl (by rfl) (fun K hK => ?_), px_one rfl (by rfl) (fun K hK => ?_)⟩
      · skip
        go_simp
        refine (mac_any (.slice (some ⟨b, 1, none⟩) 32 32) (.slice (some ⟨gr, 0, none⟩) 2 2) d.mac [.slice a8 4 c8, .slice ao l.length cap] [be4 d.num, l] v2 (HT.out.sqd.kp0 ((hw1.tr hk1).tr hk2)) (HT.out.cub.kp0 ((hw1.tr hk1).tr hk2)) (H.out.macRd.keep0 ((hw1.tr hk1).tr hk2)) (HRX.out.keep0 (Kp.refl _ _)) (rows_two (HO8.out.rd.keep0 hk2) (HV.out.keep0 ((hw1.tr hk1).tr hk2)) (by rw [be4_l4]; decide) HL.out) (by rw [H.out.mac]; decide) (by rw [H.out.mac]; decide) (by simp) (by have := HL.out; simp only [List.flatten_cons, List.flatten_nil, List.append_nil, List.length_append, be4_l4]; omega)).mono ?_
        rintro e v3 ⟨rfl, hk3⟩
        simp only []
        rw [HM.out]
        refine hK (fun w' => Kp0 v3 w') _ _ (fun x hx => hk3.tr hx) (Kp.refl _ _) ?_
        clear hK K
        try simp only [List.setIfInBounds_toArray, List.set_cons_zero, List.set_cons_succ]
        refine px_eff rfl (by rfl) (fun K hK => ?_)
        refine wp_alloc_as asB32 rfl ?_
        intro v4 g5 hw4 hg4
        have hk4 : Kp0 v3 v4 := by rw [hw4]; exact (Kp.refl _ _).alloc _
        have HG5 : Hid (Blk v4 g5 26 (bys zb32) ∧ w.heap.size ≤ g5) := Lib.hid ⟨by rw [hw4, hg4]; exact blk0 _ _ _, by rw [hg4]; exact ((((hw1.tr hk1).tr hk2).tr hk3)).size⟩
        clear hw4 hg4
        simp only [Act.put, List.getElem_toArray, List.getElem_cons_succ, List.getElem_cons_zero]
        refine hK (fun w' => Kp0 v4 w') _ _ (fun x hx => hk4.tr hx) (Kp.refl _ _) ?_
        clear hK K
        try simp only [List.setIfInBounds_toArray, List.set_cons_zero, List.set_cons_succ]
        refine px_wall rfl (by rfl) (fun K hK => ?_)
        refine wp_store_blk 26 (.tmp 5) (.tmp 22) rfl g5 _ (bys zb32) (bys (macB d.mac (be4 d.num ++ l))) rfl rfl (HG5.out.1.kp0 (Kp.refl _ _)) (infoB32 (macB_len _ _)) (len_of (T := 26) (infoB32 (l := zb32) rfl) (infoB32 (macB_len d.mac (be4 d.num ++ l)))) (bys_onesV _) ?_
        intro w8 hA hK8
        refine hK (fun _ => True) _ _ trivial (px_done ?_)
        have HX : Hid (Kp0 w w8) := Lib.hid (((((hw1.tr hk1).tr hk2).tr hk3).tr hk4).trans hK8 (fun _ _ h => h) (fun i hi e => by have h1 := HG5.out.2; have h2 := hw1.size; omega))
        have HA := Lib.hid hA
        clear hA hK8 hK
        go_wp2
        go_ret
        refine ⟨_, rfl, ?_, HX.out⟩
        have := rd_blk (n := 32) HA.out (macB_len _ _)
        exact this
      · skip
        refine wp_alloc_as asB32 rfl ?_
        intro v5 g5 hw5 hg5
        have hk5 : Kp0 v2 v5 := by rw [hw5]; exact (Kp.refl _ _).alloc _
        have HG5 : Hid (Blk v5 g5 26 (bys zb32) ∧ w.heap.size ≤ g5) := Lib.hid ⟨by rw [hw5, hg5]; exact blk0 _ _ _, by rw [hg5]; exact (((hw1.tr hk1).tr hk2)).size⟩
        clear hw5 hg5
        simp only [Act.put, List.getElem_toArray, List.getElem_cons_succ, List.getElem_cons_zero]
        refine hK (fun w' => Kp0 v5 w') _ _ (fun x hx => hk5.tr hx) (Kp.refl _ _) ?_
        clear hK K
        try simp only [List.setIfInBounds_toArray, List.set_cons_zero, List.set_cons_succ]
        refine px_eff rfl (by rfl) (fun K hK => ?_)
        go_simp
        refine (mac_any (.slice (some ⟨b, 1, none⟩) 32 32) (.slice (some ⟨gr, 0, none⟩) 2 2) d.mac [.slice a8 4 c8, .slice ao l.length cap] [be4 d.num, l] v5 (HT.out.sqd.kp0 (((hw1.tr hk1).tr hk2).tr hk5)) (HT.out.cub.kp0 (((hw1.tr hk1).tr hk2).tr hk5)) (H.out.macRd.keep0 (((hw1.tr hk1).tr hk2).tr hk5)) (HRX.out.keep0 hk5) (rows_two (HO8.out.rd.keep0 (hk2.tr hk5)) (HV.out.keep0 (((hw1.tr hk1).tr hk2).tr hk5)) (by rw [be4_l4]; decide) HL.out) (by rw [H.out.mac]; decide) (by rw [H.out.mac]; decide) (by simp) (by have := HL.out; simp only [List.flatten_cons, List.flatten_nil, List.append_nil, List.length_append, be4_l4]; omega)).mono ?_
        rintro e v6 ⟨rfl, hk6⟩
        simp only []
        rw [HM.out]
        refine hK (fun w' => Kp0 v6 w') _ _ (fun x hx => hk6.tr hx) (Kp.refl _ _) ?_
        clear hK K
        try simp only [List.setIfInBounds_toArray, List.set_cons_zero, List.set_cons_succ]
        refine px_wall rfl (by rfl) (fun K hK => ?_)
        refine wp_store_blk 26 (.tmp 5) (.tmp 22) rfl g5 _ (bys zb32) (bys (macB d.mac (be4 d.num ++ l))) rfl rfl (HG5.out.1.kp0 hk6) (infoB32 (macB_len _ _)) (len_of (T := 26) (infoB32 (l := zb32) rfl) (infoB32 (macB_len d.mac (be4 d.num ++ l)))) (bys_onesV _) ?_
        intro w8 hA hK8
        refine hK (fun _ => True) _ _ trivial (px_done ?_)
        have HX : Hid (Kp0 w w8) := Lib.hid (((((hw1.tr hk1).tr hk2).tr hk5).tr hk6).trans hK8 (fun _ _ h => h) (fun i hi e => by have h1 := HG5.out.2; have h2 := hw1.size; omega))
        have HA := Lib.hid hA
        clear hA hK8 hK
        go_wp2
        go_ret
        refine ⟨_, rfl, ?_, HX.out⟩
        have := rd_blk (n := 32) HA.out (macB_len _ _)
        exact this
    · skip
      refine wp_alloc_as asB32 rfl ?_
      intro v7 g5 hw7 hg7
      have hk7 : Kp0 v1 v7 := by rw [hw7]; exact (Kp.refl _ _).alloc _
      have HG5 : Hid (Blk v7 g5 26 (bys zb32) ∧ w.heap.size ≤ g5) := Lib.hid ⟨by rw [hw7, hg7]; exact blk0 _ _ _, by rw [hg7]; exact ((hw1.tr hk1)).size⟩
      clear hw7 hg7
      simp only [Act.put, List.getElem_toArray, List.getElem_cons_succ, List.getElem_cons_zero]
      refine hK (fun w' => Kp0 v7 w') _ _ (fun x hx => hk7.tr hx) (Kp.refl _ _) ?_
      clear hK K
      try simp only [List.setIfInBounds_toArray, List.set_cons_zero, List.set_cons_succ]
      refine px_eff rfl (by rfl) (fun K hK => ?_)
      go_simp
      have hk8 : Kp0 v7 (v7.alloc (.cells #[.slice a8 4 c8, .slice ao l.length cap] 32)) := (Kp.refl _ _).alloc _
      have HRW := Lib.hid (rdSlice v7 [.slice a8 4 c8, .slice ao l.length cap] 2 32 rfl (by decide))
      obtain ⟨v8, hnw8⟩ : ∃ x, x = v7.alloc (.cells #[.slice a8 4 c8, .slice ao l.length cap] 32) := ⟨_, rfl⟩
      have hrw8 : Rd v8 (.slice (some ⟨v7.heap.size, 0, none⟩) 2 2) [.slice a8 4 c8, .slice ao l.length cap] := by rw [hnw8]; exact HRW.out
      rw [← hnw8] at hk8 ⊢
      have HRX := Lib.hid hrw8
      clear HRW hrw8 hnw8
      generalize v7.heap.size = gr at HRX ⊢
      refine hK (fun w' => Kp0 v8 w') _ _ (fun x hx => hk8.tr hx) (Kp.refl _ _) ?_
      clear hK K
      try simp only [List.setIfInBounds_toArray, List.set_cons_zero, List.set_cons_succ]
      refine px_eff rfl (by rfl) (fun K hK => ?_)
      go_simp
      refine (mac_any (.slice (some ⟨b, 1, none⟩) 32 32) (.slice (some ⟨gr, 0, none⟩) 2 2) d.mac [.slice a8 4 c8, .slice ao l.length cap] [be4 d.num, l] v8 (HT.out.sqd.kp0 (((hw1.tr hk1).tr hk7).tr hk8)) (HT.out.cub.kp0 (((hw1.tr hk1).tr hk7).tr hk8)) (H.out.macRd.keep0 (((hw1.tr hk1).tr hk7).tr hk8)) (HRX.out.keep0 (Kp.refl _ _)) (rows_two (HO8.out.rd.keep0 (hk7.tr hk8)) (HV.out.keep0 (((hw1.tr hk1).tr hk7).tr hk8)) (by rw [be4_l4]; decide) HL.out) (by rw [H.out.mac]; decide) (by rw [H.out.mac]; decide) (by simp) (by have := HL.out; simp only [List.flatten_cons, List.flatten_nil, List.append_nil, List.length_append, be4_l4]; omega)).mono ?_
      rintro e v9 ⟨rfl, hk9⟩
      simp only []
      rw [HM.out]
      refine hK (fun w' => Kp0 v9 w') _ _ (fun x hx => hk9.tr hx) (Kp.refl _ _) ?_
      clear hK K
      try simp only [List.setIfInBounds_toArray, List.set_cons_zero, List.set_cons_succ]
      refine px_wall rfl (by rfl) (fun K hK => ?_)
      refine wp_store_blk 26 (.tmp 5) (.tmp 22) rfl g5 _ (bys zb32) (bys (macB d.mac (be4 d.num ++ l))) rfl rfl (HG5.out.1.kp0 (hk8.tr hk9)) (infoB32 (macB_len _ _)) (len_of (T := 26) (infoB32 (l := zb32) rfl) (infoB32 (macB_len d.mac (be4 d.num ++ l)))) (bys_onesV _) ?_
      intro w8 hA hK8
      refine hK (fun _ => True) _ _ trivial (px_done ?_)
      have HX : Hid (Kp0 w w8) := Lib.hid (((((hw1.tr hk1).tr hk7).tr hk8).tr hk9).trans hK8 (fun _ _ h => h) (fun i hi e => by have h1 := HG5.out.2; have h2 := hw1.size; omega))
      have HA := Lib.hid hA
      clear hA hK8 hK
      go_wp2
      go_ret
      refine ⟨_, rfl, ?_, HX.out⟩
      have := rd_blk (n := 32) HA.out (macB_len _ _)
      exact this
  · skip
    refine wp_alloc_as asB32 rfl ?_
    intro v10 g5 hw10 hg10
    have hk10 : Kp0 w.drew v10 := by rw [hw10]; exact (Kp.refl _ _).alloc _
    have HG5 : Hid (Blk v10 g5 26 (bys zb32) ∧ w.heap.size ≤ g5) := Lib.hid ⟨by rw [hw10, hg10]; exact blk0 _ _ _, by rw [hg10]; exact (hw1).size⟩
    clear hw10 hg10
    simp only [Act.put, List.getElem_toArray, List.getElem_cons_succ, List.getElem_cons_zero]
    refine hK (fun w' => Kp0 v10 w') _ _ (fun x hx => (hw1.tr hk10).tr hx) (Kp.refl _ _) ?_
    clear hK K
    try simp only [List.setIfInBounds_toArray, List.set_cons_zero, List.set_cons_succ]
    refine px_eff rfl (by rfl) (fun K hK => ?_)
    go_simp
    refine (u32_any (.slice none 0 0) [] d.num v10 (Rd.nil _) HN.out (by simp)).mono ?_
    rintro e v11 ⟨s8, rfl, ho8, hk11⟩
    rw [List.nil_append] at ho8
    obtain ⟨a8, c8, e8, -, -, -⟩ := ho8.rd.shapeB
    rw [be4_l4] at e8
    subst e8
    simp only []
    have HO8 := Lib.hid ho8
    clear ho8
    refine hK (fun w' => Kp0 v11 w') _ _ (fun x hx => hk11.tr hx) (Kp.refl _ _) ?_
    clear hK K
    try simp only [List.setIfInBounds_toArray, List.set_cons_zero, List.set_cons_succ]
    refine px_eff rfl (by rfl) (fun K hK => ?_)
    go_simp
    have hk12 : Kp0 v11 (v11.alloc (.cells #[.slice a8 4 c8, .slice ao l.length cap] 32)) := (Kp.refl _ _).alloc _
    have HRW := Lib.hid (rdSlice v11 [.slice a8 4 c8, .slice ao l.length cap] 2 32 rfl (by decide))
    obtain ⟨v12, hnw12⟩ : ∃ x, x = v11.alloc (.cells #[.slice a8 4 c8, .slice ao l.length cap] 32) := ⟨_, rfl⟩
    have hrw12 : Rd v12 (.slice (some ⟨v11.heap.size, 0, none⟩) 2 2) [.slice a8 4 c8, .slice ao l.length cap] := by rw [hnw12]; exact HRW.out
    rw [← hnw12] at hk12 ⊢
    have HRX := Lib.hid hrw12
    clear HRW hrw12 hnw12
    generalize v11.heap.size = gr at HRX ⊢
    refine hK (fun w' => Kp0 v12 w') _ _ (fun x hx => hk12.tr hx) (Kp.refl _ _) ?_
    clear hK K
    try simp only [List.setIfInBounds_toArray, List.set_cons_zero, List.set_cons_succ]
    refine px_eff rfl (by rfl) (fun K hK => ?_)
    go_simp
    refine (mac_any (.slice (some ⟨b, 1, none⟩) 32 32) (.slice (some ⟨gr, 0, none⟩) 2 2) d.mac [.slice a8 4 c8, .slice ao l.length cap] [be4 d.num, l] v12 (HT.out.sqd.kp0 (((hw1.tr hk10).tr hk11).tr hk12)) (HT.out.cub.kp0 (((hw1.tr hk10).tr hk11).tr hk12)) (H.out.macRd.keep0 (((hw1.tr hk10).tr hk11).tr hk12)) (HRX.out.keep0 (Kp.refl _ _)) (rows_two (HO8.out.rd.keep0 hk12) (HV.out.keep0 (((hw1.tr hk10).tr hk11).tr hk12)) (by rw [be4_l4]; decide) HL.out) (by rw [H.out.mac]; decide) (by rw [H.out.mac]; decide) (by simp) (by have := HL.out; simp only [List.flatten_cons, List.flatten_nil, List.append_nil, List.length_append, be4_l4]; omega)).mono ?_
    rintro e v13 ⟨rfl, hk13⟩
    simp only []
    rw [HM.out]
    refine hK (fun w' => Kp0 v13 w') _ _ (fun x hx => hk13.tr hx) (Kp.refl _ _) ?_
    clear hK K
    try simp only [List.setIfInBounds_toArray, List.set_cons_zero, List.set_cons_succ]
    refine px_wall rfl (by rfl) (fun K hK => ?_)
    refine wp_store_blk 26 (.tmp 5) (.tmp 22) rfl g5 _ (bys zb32) (bys (macB d.mac (be4 d.num ++ l))) rfl rfl (HG5.out.1.kp0 ((hk11.tr hk12).tr hk13)) (infoB32 (macB_len _ _)) (len_of (T := 26) (infoB32 (l := zb32) rfl) (infoB32 (macB_len d.mac (be4 d.num ++ l)))) (bys_onesV _) ?_
    intro w8 hA hK8
    refine hK (fun _ => True) _ _ trivial (px_done ?_)
    have HX : Hid (Kp0 w w8) := Lib.hid (((((hw1.tr hk10).tr hk11).tr hk12).tr hk13).trans hK8 (fun _ _ h => h) (fun i hi e => by have h1 := HG5.out.2; have h2 := hw1.size; omega))
    have HA := Lib.hid hA
    clear hA hK8 hK
    go_wp2
    go_ret
    refine ⟨_, rfl, ?_, HX.out⟩
    have := rd_blk (n := 32) HA.out (macB_len _ _)
    exact this
end Go.Proofs.YtnbfedmecmdjlaaDoor
