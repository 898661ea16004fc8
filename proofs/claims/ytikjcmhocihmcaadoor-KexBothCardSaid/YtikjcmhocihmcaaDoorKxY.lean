/- The law KexBoth: two sides with the same talk have the same keys. -/
import Derived.Test.YtikjcmhocihmcaaDoorKc
namespace Go.Proofs.YtikjcmhocihmcaaDoor
open Go Go.RowKit
attribute [local irreducible] sha256
theorem asKs : AllocAs 55 nil6 := by
  intro w ev op ho
  unfold execOp
  simp only [ho]
  kernel_rfl
/-- None of these slices lies in that block. -/
def KsA (cs : List Value) (g : Nat) : Prop := ∀ v, v ∈ cs → ∀ b, v.ownBlock = some b → b ≠ g
theorem ksa_of {k1 k2 k3 k4 k5 k6 n1 n2 n3 n4 n5 n6 g : Nat} (h1 : k1 ≠ g) (h2 : k2 ≠ g) (h3 : k3 ≠ g) (h4 : k4 ≠ g) (h5 : k5 ≠ g) (h6 : k6 ≠ g) :
    KsA [.slice (some ⟨k1, 0, none⟩) n1 n1, .slice (some ⟨k2, 0, none⟩) n2 n2, .slice (some ⟨k3, 0, none⟩) n3 n3, .slice (some ⟨k4, 0, none⟩) n4 n4, .slice (some ⟨k5, 0, none⟩) n5 n5, .slice (some ⟨k6, 0, none⟩) n6 n6] g := by
  intro v hv b hb
  simp only [List.mem_cons, List.not_mem_nil, or_false] at hv
  rcases hv with rfl | rfl | rfl | rfl | rfl | rfl <;> (cases hb; assumption)
section
variable {B g : Nat} {w w' : World} {t : TalkP} {ls : List UInt8} {cs : List Value}
theorem KsM.off_old (h : KsM B w t ls cs) (hg : g < B) : KsA cs g := by
  obtain ⟨k1, k2, k3, k4, k5, k6, rfl, hr, b1, b2, b3, b4, b5, b6⟩ := h
  exact ksa_of (by omega) (by omega) (by omega) (by omega) (by omega) (by omega)
theorem KsM.off_new (h : KsM B w t ls cs) (hg : w.heap.size ≤ g) : KsA cs g := by
  obtain ⟨k1, k2, k3, k4, k5, k6, rfl, ⟨r1, r2, r3, r4, r5, r6⟩, hb⟩ := h
  have l1 := r1.2
  have l2 := r2.2
  have l3 := r3.2
  have l4 := r4.2
  have l5 := r5.2
  have l6 := r6.2
  exact ksa_of (by omega) (by omega) (by omega) (by omega) (by omega) (by omega)
theorem KsM.keepA (h : KsM B w t ls cs) (hk : Kp (fun b => b = g) w w') (ha : KsA cs g) : KsM B w' t ls cs := by
  obtain ⟨k1, k2, k3, k4, k5, k6, rfl, ⟨r1, r2, r3, r4, r5, r6⟩, hb⟩ := h
  exact ⟨k1, k2, k3, k4, k5, k6, rfl, ⟨r1.keep hk (ha (.slice (some ⟨k1, 0, none⟩) 16 16) (by simp) k1 rfl), r2.keep hk (ha (.slice (some ⟨k2, 0, none⟩) 16 16) (by simp) k2 rfl), r3.keep hk (ha (.slice (some ⟨k3, 0, none⟩) 32 32) (by simp) k3 rfl), r4.keep hk (ha (.slice (some ⟨k4, 0, none⟩) 16 16) (by simp) k4 rfl), r5.keep hk (ha (.slice (some ⟨k5, 0, none⟩) 16 16) (by simp) k5 rfl), r6.keep hk (ha (.slice (some ⟨k6, 0, none⟩) 32 32) (by simp) k6 rfl)⟩, hb⟩
theorem KsM.len6 (h : KsM B w t ls cs) : nil6.length = cs.length := by
  obtain ⟨k1, k2, k3, k4, k5, k6, rfl, _⟩ := h
  rfl
theorem KsM.info (h : KsM B w t ls cs) : (Tryd.prog.info? 55).map (·.size) = some cs.length := by
  obtain ⟨k1, k2, k3, k4, k5, k6, rfl, _⟩ := h
  exact infoKeys
theorem KsM.ones (h : KsM B w t ls cs) : Ones cs := by
  obtain ⟨k1, k2, k3, k4, k5, k6, rfl, _⟩ := h
  intro u hu
  simp only [List.mem_cons, List.not_mem_nil, or_false] at hu
  rcases hu with rfl | rfl | rfl | rfl | rfl | rfl <;> rfl
end
theorem cvt {w : World} {v : Value} {l : List UInt8} (h : Rd w v (bys l)) : (convert 24 9 v).run Tryd.prog w = .ok (.string (tx l)) w :=
  run_string_of 24 5 9 Tryd.underlying24 Tryd.underlying5 Tryd.underlying9 h
theorem tx_self (x : ByteArray) : (x.toList != x.toList) = false := by simp
set_option maxRecDepth 20000 in
set_option maxHeartbeats 4000000 in
theorem kboth_walk (t : TalkP) (i0 i1 sh sv : Value) (ls : List UInt8) (w : World) (hq : Sqd w) (hc : Cub w) (hg : Gm w) (ht : TalkM w t i0 i1 sh) (hz : t.size ≤ 1125899906809856) (hs : Rd w sv (bys ls)) (hl : ls.length ≤ 140737488351232) :
    Calls Tryd.prog 7 #[.agg (t.vals i0 i1 sh).toArray, sv] w fun e w' => e = .returned (.bool true) ∧ Kp0 w w' := by
  have HQ := Lib.hid hq
  have HC := Lib.hid hc
  have HG := Lib.hid hg
  have HT := Lib.hid ht
  have HS := Lib.hid hs
  have HL := Lib.hid hl
  have HZ : Hid (t.size ≤ 4611686018427387904) := Lib.hid (by omega)
  obtain ⟨a0, d0, rfl, -, -, -⟩ := ht.r0.shapeB
  obtain ⟨a1, d1, rfl, -, -, -⟩ := ht.r1.shapeB
  obtain ⟨a2, d2, rfl, -, -, -⟩ := ht.r2.shapeB
  obtain ⟨sq, sc, rfl, -, -, -⟩ := hs.shapeB
  clear hq hc hg ht hs hl hz
  go_enter Tryd.func7, Tryd.ntmps7
  go_upto_region 1 with (fail)
  obtain ⟨w1, hw1⟩ : ∃ x, x = w.alloc (.cells (t.vals (.slice a0 t.b0.length d0) (.slice a1 t.b1.length d1) (.slice a2 t.sh.length d2)).toArray 48) := ⟨_, rfl⟩
  rw [← hw1]
  have HB1 : Hid (Bks w w1 [(w.heap.size, 48, t.vals (.slice a0 t.b0.length d0) (.slice a1 t.b1.length d1) (.slice a2 t.sh.length d2))]) := Lib.hid (by rw [hw1]; exact (Bks.nil w).push 48 (t.vals (.slice a0 t.b0.length d0) (.slice a1 t.b1.length d1) (.slice a2 t.sh.length d2)) rfl)
  obtain ⟨g, hg⟩ : ∃ x, x = w.heap.size := ⟨_, rfl⟩
  rw [← hg] at HB1 ⊢
  clear hw1 hg
  by_cases h2 : t.size < 2000
  · have H2 := Lib.hid h2
    have hd : decide (t.size < 2000) = true := decide_eq_true h2
    by_cases h3 : ls.length ≤ 300
    · have H3 := Lib.hid h3
      have i3 : ¬ (300 : Int) < (ls.length : Int) := by omega
      clear h2 h3
      have T0 : Hid True := Lib.hid trivial
      go_wp2_with (first
        | (go_at_call 9; refine (fit_any _ (HQ.out.kp0 HB1.out.kp) (HC.out.kp0 HB1.out.kp) (HG.out.keep HB1.out.kp (fun h => h))).mono ?_; rintro e w2 ⟨rfl, hk⟩; have HB2 := Lib.hid (HB1.out.kp0 hk); clear hk HB1)
        | (clear T0; refine wl_load_blk rfl 48 (.tmp 2) rfl g _ (t.vals (.slice a0 t.b0.length d0) (.slice a1 t.b1.length d1) (.slice a2 t.sh.length d2)) rfl (HB2.out.at 0 rfl) _ Tryd.underlying48 rfl infoTk ?_)
        | (go_at_call 26; refine (short_any t _ _ _ _ (HT.out.kp0 HB2.out.kp) HZ.out).mono ?_; rintro e w3 ⟨rfl, hk⟩; have HB3 := Lib.hid (HB2.out.kp0 hk); rw [hd]; have T1 : Hid True := Lib.hid trivial; clear hk HB2)
        | (clear T1; refine wl_load_blk rfl 48 (.tmp 2) rfl g _ (t.vals (.slice a0 t.b0.length d0) (.slice a1 t.b1.length d1) (.slice a2 t.sh.length d2)) rfl (HB3.out.at 0 rfl) _ Tryd.underlying48 rfl infoTk ?_)
        | (refine wl_alloc_as asTk rfl rfl ?_
           intro w4 gu hw hgu
           have HB4 : Hid (Bks w w4 [(g, 48, t.vals (.slice a0 t.b0.length d0) (.slice a1 t.b1.length d1) (.slice a2 t.sh.length d2)), (gu, 48, tk0)]) := Lib.hid (by rw [hw]; exact HB3.out.push 48 tk0 hgu)
           clear hw hgu HB3)
        | (refine wl_store_blk rfl 48 (.tmp 5) (.tmp 19) rfl gu _ tk0 (t.vals (.slice a0 t.b0.length d0) (.slice a1 t.b1.length d1) (.slice a2 t.sh.length d2)) rfl rfl (HB4.out.at 1 rfl) infoTk rfl onesTk ?_
           intro w5 hA hK
           have HB5 := Lib.hid (HB4.out.store 1 rfl hA hK)
           clear hA hK HB4))
      have HB5 : Hid (Bks w w5 [(g, 48, t.vals (.slice a0 t.b0.length d0) (.slice a1 t.b1.length d1) (.slice a2 t.sh.length d2)), (gu, 48, t.vals (.slice a0 t.b0.length d0) (.slice a1 t.b1.length d1) (.slice a2 t.sh.length d2))]) := Lib.hid HB5.out
      simp only [Act.put]
      try simp only [List.setIfInBounds_toArray, List.set_cons_zero, List.set_cons_succ]
      refine wp_region_px 11 [10] (fun w' : World => Kp0 w5 w') (.quiet 0 (.quiet 1 (.quiet 2 (.quiet 4 (.quiet 5 (.quiet 6 (.eff 3 (.eff 7 (.quiet 8 (.quiet 9 (.wall 10 .done))))))))))) (by kernel_rfl) (by kernel_rfl) (by kernel_rfl) (by kernel_rfl) (fun _ d _ _ _ h => by cases d <;> exact h) (Kp.refl _ _).drew ?_
      have HK : Hid (Kp0 w5 w5.drew) := Lib.hid (Kp.refl _ _).drew
      generalize w5.drew = v0 at HK ⊢
      iterate 6 (refine px_quiet (v := ?_) rfl (by rfl) (fun wq hwq => ?_) rfl ?_; rotate_left 1; (focus (have c2 := ((HB5.out.kp0 hwq).at 0 rfl).cellV 2 (v := .slice a0 t.b0.length d0) rfl; have c3 := ((HB5.out.kp0 hwq).at 0 rfl).cellV 3 (v := .slice a1 t.b1.length d1) rfl; go_simp; try (with_reducible rfl); done)); try simp only [List.setIfInBounds_toArray, List.set_cons_zero, List.set_cons_succ])
      have HLB : Hid (t.b0.length ≤ 140737488351232 ∧ t.b1.length ≤ 140737488351232 ∧ t.sh.length ≤ 140737488351232) := Lib.hid (by have := H2.out; unfold TalkP.size at this; omega)
      refine px_eff rfl (by rfl) (fun K hK => ?_)
      refine append_new (x := .tmp 22) (y := .slice a0 t.b0.length d0) (l := t.b0) ?_ ?_ ?_ ?_ ?_
      rfl
      rfl
      exact (HT.out.kp0 (HB5.out.kp.tr HK.out)).r0
      exact HLB.out.1
      intro e0 f0 v1 hr hb hk
      have HR0 := Lib.hid hr
      have HN0 : Hid (∀ b, (Value.slice e0 t.b0.length f0).ownBlock = some b → w5.heap.size ≤ b) := Lib.hid (fun b h => Nat.le_trans HK.out.size (hb b h))
      have HK := Lib.hid (HK.out.tr hk)
      refine hK (fun w' => Kp0 w5 w') _ _ (fun _ h => h) HK.out ?_
      clear hK K hr hb hk
      simp only [Act.put, List.getElem_toArray, List.getElem_cons_succ, List.getElem_cons_zero]
      try simp only [List.setIfInBounds_toArray, List.set_cons_zero, List.set_cons_succ]
      refine px_eff rfl (by rfl) (fun K hK => ?_)
      refine append_new (x := .tmp 26) (y := .slice a1 t.b1.length d1) (l := t.b1) ?_ ?_ ?_ ?_ ?_
      rfl
      rfl
      exact (HT.out.kp0 (HB5.out.kp.tr HK.out)).r1
      exact HLB.out.2.1
      intro e1 f1 v2 hr hb hk
      have HR1 := Lib.hid hr
      have HR0 := Lib.hid (HR0.out.keep0 hk)
      have HN1 : Hid (∀ b, (Value.slice e1 t.b1.length f1).ownBlock = some b → w5.heap.size ≤ b) := Lib.hid (fun b h => Nat.le_trans HK.out.size (hb b h))
      have HK := Lib.hid (HK.out.tr hk)
      refine hK (fun w' => Kp0 w5 w') _ _ (fun _ h => h) HK.out ?_
      clear hK K hr hb hk
      simp only [Act.put, List.getElem_toArray, List.getElem_cons_succ, List.getElem_cons_zero]
      try simp only [List.setIfInBounds_toArray, List.set_cons_zero, List.set_cons_succ]
      iterate 2 (refine px_quiet (v := ?_) rfl (by rfl) (fun wq hwq => ?_) rfl ?_; rotate_left 1; (focus (clear hwq; go_simp; try (with_reducible rfl); done)); try simp only [List.setIfInBounds_toArray, List.set_cons_zero, List.set_cons_succ])
      refine px_wall rfl (by rfl) (fun K hK => ?_)
      have hb := (HB5.out.kp0 HK.out).at 1 rfl
      have q2 : v2.cell? ⟨gu, 2, none⟩ = some (.slice a0 t.b0.length d0) := hb.cellV 2 rfl
      have q3 : v2.cell? ⟨gu, 3, none⟩ = some (.slice a1 t.b1.length d1) := hb.cellV 3 rfl
      have z2 := blk_frozen hb 2
      have z3 := blk_frozen hb 3
      clear hb
      go_simp
      clear q2 q3 z2 z3
      refine hK (fun _ => True) _ _ trivial (px_done ?_)
      clear hK K
      have HG5 : Hid (gu < w5.heap.size) := Lib.hid ((Array.getElem?_eq_some_iff.1 (HB5.out.at 1 rfl)).1)
      have kk : Kp (fun b => b = gu) v2 ((v2.setCell ⟨gu, 2, none⟩ (.slice e0 t.b0.length f0)).setCell ⟨gu, 3, none⟩ (.slice e1 t.b1.length f1)) := ((Kp.refl (fun b => b = gu) v2).setCell (p := ⟨gu, 2, none⟩) (fun _ => rfl) _).setCell (p := ⟨gu, 3, none⟩) (fun _ => rfl) _
      have HB6 : Hid (Bks w ((v2.setCell ⟨gu, 2, none⟩ (.slice e0 t.b0.length f0)).setCell ⟨gu, 3, none⟩ (.slice e1 t.b1.length f1)) [(g, 48, t.vals (.slice a0 t.b0.length d0) (.slice a1 t.b1.length d1) (.slice a2 t.sh.length d2)), (gu, 48, t.vals (.slice e0 t.b0.length f0) (.slice e1 t.b1.length f1) (.slice a2 t.sh.length d2))]) := Lib.hid (((HB5.out.kp0 HK.out).set 1 rfl 2 _).set 1 rfl 3 _)
      have HR0 := Lib.hid (HR0.out.keep kk (fun b hb _ (e : b = gu) => by have := HN0.out b hb; have := HG5.out; omega))
      have HR1 := Lib.hid (HR1.out.keep kk (fun b hb _ (e : b = gu) => by have := HN1.out b hb; have := HG5.out; omega))
      have HSZ : Hid (w5.heap.size ≤ ((v2.setCell ⟨gu, 2, none⟩ (.slice e0 t.b0.length f0)).setCell ⟨gu, 3, none⟩ (.slice e1 t.b1.length f1)).heap.size) := Lib.hid (Nat.le_trans HK.out.size kk.size)
      generalize (v2.setCell ⟨gu, 2, none⟩ (.slice e0 t.b0.length f0)).setCell ⟨gu, 3, none⟩ (.slice e1 t.b1.length f1) = w6 at HB6 HR0 HR1 HSZ ⊢
      clear kk HK HB5
      have c7 := (HB6.out.at 0 rfl).cellV 7 (v := .slice a2 t.sh.length d2) rfl
      go_wp2_with (first
        | (at_builtin
           refine wl_append_own (v := .slice none 0 0) rfl _ _ 24 rfl Tryd.underlying24 infoU8 rfl rfl rfl (Own.nil w6.heap.size 5 w6) (HT.out.kp0 HB6.out.kp).r2 (bys_one _) (by rw [bys_len]; have := HLB.out.2.2; simp only [List.length_nil]; unfold maxLen; omega) (by rw [bys_len]; have := HLB.out.2.2; simp only [List.length_nil]; omega) (Nat.le_refl _) ?_
           intro v7 w7 ho hgr
           rw [List.nil_append] at ho
           obtain ⟨e2, f2, rfl, -, -, -⟩ := ho.rd.shapeB
           have HK7 : Hid (Kp0 w6 w7) := Lib.hid ((Kp.refl _ w6).grown hgr (fun k hk _ => by cases hk))
           have HN2 : Hid (∀ b, (Value.slice e2 t.sh.length f2).ownBlock = some b → w5.heap.size ≤ b) := Lib.hid (fun b h => Nat.le_trans HSZ.out ((ho.lt b h).1))
           have HR2 := Lib.hid ho.rd
           have HB7 := Lib.hid (HB6.out.kp0 HK7.out)
           have HR0 := Lib.hid (HR0.out.keep0 HK7.out)
           have HR1 := Lib.hid (HR1.out.keep0 HK7.out)
           have q7 : w7.cell? ⟨gu, 7, none⟩ = some (.slice a2 t.sh.length d2) := (HB7.out.at 1 rfl).cellV 7 rfl
           have z7 := blk_frozen (HB7.out.at 1 rfl) 7
           clear ho hgr c7))
      
      have HB8 : Hid (Bks w (w7.setCell ⟨gu, 7, none⟩ (.slice e2 t.sh.length f2)) [(g, 48, t.vals (.slice a0 t.b0.length d0) (.slice a1 t.b1.length d1) (.slice a2 t.sh.length d2)), (gu, 48, t.vals (.slice e0 t.b0.length f0) (.slice e1 t.b1.length f1) (.slice e2 t.sh.length f2))]) := Lib.hid (HB7.out.set 1 rfl 7 _)
      have kk : Kp (fun b => b = gu) w7 (w7.setCell ⟨gu, 7, none⟩ (.slice e2 t.sh.length f2)) := (Kp.refl (fun b => b = gu) w7).setCell (p := ⟨gu, 7, none⟩) (fun _ => rfl) _
      have HU : Hid (TalkM (w7.setCell ⟨gu, 7, none⟩ (.slice e2 t.sh.length f2)) t (.slice e0 t.b0.length f0) (.slice e1 t.b1.length f1) (.slice e2 t.sh.length f2)) := Lib.hid
        ⟨HR0.out.keep kk (fun b hb _ (e : b = gu) => by have := HN0.out b hb; have := HG5.out; omega),
         HR1.out.keep kk (fun b hb _ (e : b = gu) => by have := HN1.out b hb; have := HG5.out; omega),
         HR2.out.keep kk (fun b hb _ (e : b = gu) => by have := HN2.out b hb; have := HG5.out; omega)⟩
      generalize w7.setCell ⟨gu, 7, none⟩ (.slice e2 t.sh.length f2) = w8 at HB8 HU ⊢
      clear kk HB6 HB7 HR0 HR1 HR2 HN0 HN1 HN2 HK7 HSZ q7 z7
      have HZ8 : Hid (t.size ≤ 100000000) := Lib.hid (by have := H2.out; omega)
      have HL8 : Hid (ls.length ≤ 100000000) := Lib.hid (by have := H3.out; omega)
      have HLA : Hid (ls.length ≤ 140737488351232) := Lib.hid (by have := H3.out; omega)
      try simp only [Act.put]
      try simp only [List.setIfInBounds_toArray, List.set_cons_zero, List.set_cons_succ]
      go_cut [6, 7] from 9 (fun s6 s7 wc => ∃ (g6 g7 : Nat) (cs ds : List Value), s6 = .pointer (some ⟨g6, 0, none⟩) ∧ s7 = .pointer (some ⟨g7, 0, none⟩) ∧ Hid (Blk wc g6 55 cs) ∧ Hid (Blk wc g7 55 ds) ∧ Hid (KsM 0 wc t ls cs) ∧ Hid (KsM 0 wc t ls ds) ∧ Hid (Kp0 w8 wc))
      case first =>
        refine wp_region_px 11 [9] (fun w' : World => Kp0 w8 w') (.quiet 0 (.quiet 1 (.quiet 3 (.quiet 4 (.three 2 (.three 5 (.three 6 (.two 7 (.eff 8 (.wall 9 (.eff 10 .done))) 8 (.eff 7 (.wall 9 (.eff 10 .done)))) 7 (.two 6 (.eff 8 (.wall 9 (.eff 10 .done))) 8 (.eff 6 (.wall 9 (.eff 10 .done)))) 8 (.two 6 (.eff 7 (.wall 9 (.eff 10 .done))) 7 (.eff 6 (.wall 9 (.eff 10 .done))))) 7 (.two 5 (.two 6 (.eff 8 (.wall 9 (.eff 10 .done))) 8 (.eff 6 (.wall 9 (.eff 10 .done)))) 8 (.eff 5 (.eff 6 (.wall 9 (.eff 10 .done))))) 8 (.two 5 (.two 6 (.eff 7 (.wall 9 (.eff 10 .done))) 7 (.eff 6 (.wall 9 (.eff 10 .done)))) 7 (.eff 5 (.eff 6 (.wall 9 (.eff 10 .done)))))) 7 (.two 2 (.two 5 (.two 6 (.eff 8 (.wall 9 (.eff 10 .done))) 8 (.eff 6 (.wall 9 (.eff 10 .done)))) 8 (.eff 5 (.eff 6 (.wall 9 (.eff 10 .done))))) 8 (.eff 2 (.eff 5 (.eff 6 (.wall 9 (.eff 10 .done)))))) 8 (.two 2 (.two 5 (.two 6 (.eff 7 (.wall 9 (.eff 10 .done))) 7 (.eff 6 (.wall 9 (.eff 10 .done)))) 7 (.eff 5 (.eff 6 (.wall 9 (.eff 10 .done))))) 7 (.eff 2 (.eff 5 (.eff 6 (.wall 9 (.eff 10 .done))))))))))) (by kernel_rfl) (by kernel_rfl) (by kernel_rfl) (by kernel_rfl) (fun _ d _ _ _ h => by cases d <;> exact h) (Kp.refl _ _).drew ?_
        have HK : Hid (Kp0 w8 w8.drew) := Lib.hid (Kp.refl _ _).drew
        generalize w8.drew = v0 at HK ⊢
        refine px_quiet (v := .agg (t.vals (.slice a0 t.b0.length d0) (.slice a1 t.b1.length d1) (.slice a2 t.sh.length d2)).toArray) rfl (by rfl) (fun wq hwq => ?_) rfl ?_
        focus exact run_load_blk 48 (.tmp 2) rfl g _ (t.vals (.slice a0 t.b0.length d0) (.slice a1 t.b1.length d1) (.slice a2 t.sh.length d2)) rfl ((HB8.out.kp0 hwq).at 0 rfl) _ Tryd.underlying48 rfl infoTk
        try simp only [List.setIfInBounds_toArray, List.set_cons_zero, List.set_cons_succ]
        refine px_quiet (v := .slice sq ls.length sc) rfl (by rfl) (fun wq hwq => ?_) rfl ?_
        focus rfl
        try simp only [List.setIfInBounds_toArray, List.set_cons_zero, List.set_cons_succ]
        refine px_quiet (v := .agg (t.vals (.slice e0 t.b0.length f0) (.slice e1 t.b1.length f1) (.slice e2 t.sh.length f2)).toArray) rfl (by rfl) (fun wq hwq => ?_) rfl ?_
        focus exact run_load_blk 48 (.tmp 5) rfl gu _ (t.vals (.slice e0 t.b0.length f0) (.slice e1 t.b1.length f1) (.slice e2 t.sh.length f2)) rfl ((HB8.out.kp0 hwq).at 1 rfl) _ Tryd.underlying48 rfl infoTk
        try simp only [List.setIfInBounds_toArray, List.set_cons_zero, List.set_cons_succ]
        refine px_quiet (v := .slice sq ls.length sc) rfl (by rfl) (fun wq hwq => ?_) rfl ?_
        focus rfl
        try simp only [List.setIfInBounds_toArray, List.set_cons_zero, List.set_cons_succ]
        refine ⟨px_one rfl (by rfl) (fun K hK => ?_), px_one rfl (by rfl) (fun K hK => ?_), px_one rfl (by rfl) (fun K hK => ?_)⟩
        · skip
          go_simp
          refine (keys_any t (.slice a0 t.b0.length d0) (.slice a1 t.b1.length d1) (.slice a2 t.sh.length d2) (.slice sq ls.length sc) ls v0 (HQ.out.kp0 (HB8.out.kp.tr HK.out)) (HC.out.kp0 (HB8.out.kp.tr HK.out)) (HT.out.kp0 (HB8.out.kp.tr HK.out)) (HS.out.keep0 (HB8.out.kp.tr HK.out)) HZ8.out HL8.out).mono ?_
          rintro e v21 ⟨cs, rfl, hm, hk⟩
          simp only []
          have HC1 := Lib.hid (hm.base (C := 0) (Nat.zero_le _))
          have HK := Lib.hid (HK.out.tr hk)
          clear hm hk
          refine hK (fun w' => Kp0 w8 w') _ _ (fun _ h => h) HK.out ?_
          clear hK K
          try simp only [List.setIfInBounds_toArray, List.set_cons_zero, List.set_cons_succ]
          refine ⟨px_one rfl (by rfl) (fun K hK => ?_), px_one rfl (by rfl) (fun K hK => ?_), px_one rfl (by rfl) (fun K hK => ?_)⟩
          · skip
            refine append_new (x := .tmp 38) (y := .slice sq ls.length sc) (l := ls) ?_ ?_ ?_ ?_ ?_
            rfl
            rfl
            exact HS.out.keep0 (HB8.out.kp.tr HK.out)
            exact HLA.out
            intro e3 f3 v22 hr hb hk
            have HC1 := Lib.hid (HC1.out.keep0 hk)
            have HS2 := Lib.hid hr
            have HK := Lib.hid (HK.out.tr hk)
            clear hr hb hk
            simp only [Act.put, List.getElem_toArray, List.getElem_cons_succ, List.getElem_cons_zero]
            refine hK (fun w' => Kp0 w8 w') _ _ (fun _ h => h) HK.out ?_
            clear hK K
            try simp only [List.setIfInBounds_toArray, List.set_cons_zero, List.set_cons_succ]
            refine ⟨px_one rfl (by rfl) (fun K hK => ?_), px_one rfl (by rfl) (fun K hK => ?_), px_one rfl (by rfl) (fun K hK => ?_)⟩
            · skip
              go_simp
              refine (keys_any t (.slice e0 t.b0.length f0) (.slice e1 t.b1.length f1) (.slice e2 t.sh.length f2) (.slice e3 ls.length f3) ls v22 (HQ.out.kp0 (HB8.out.kp.tr HK.out)) (HC.out.kp0 (HB8.out.kp.tr HK.out)) (HU.out.kp0 HK.out) HS2.out HZ8.out HL8.out).mono ?_
              rintro e v23 ⟨ds, rfl, hm, hk⟩
              simp only []
              have HC1 := Lib.hid (HC1.out.keep0 hk)
              have HS2 := Lib.hid (HS2.out.keep0 hk)
              have HC2 := Lib.hid (hm.base (C := 0) (Nat.zero_le _))
              have HK := Lib.hid (HK.out.tr hk)
              clear hm hk
              refine hK (fun w' => Kp0 w8 w') _ _ (fun _ h => h) HK.out ?_
              clear hK K
              try simp only [List.setIfInBounds_toArray, List.set_cons_zero, List.set_cons_succ]
              refine ⟨px_one rfl (by rfl) (fun K hK => ?_), px_one rfl (by rfl) (fun K hK => ?_)⟩
              · skip
                refine wp_alloc_as asKs rfl ?_
                intro v24 g6 hw hg
                have hk : Kp0 v23 v24 := by rw [hw]; exact (Kp.refl _ _).alloc _
                have HA16 : Hid (KsA cs g6) := Lib.hid (HC1.out.off_new (by rw [hg]; exact Nat.le_refl _))
                have HA26 : Hid (KsA ds g6) := Lib.hid (HC2.out.off_new (by rw [hg]; exact Nat.le_refl _))
                have HN6 : Hid (w8.heap.size ≤ g6) := Lib.hid (by rw [hg]; exact HK.out.size)
                have HG6 : Hid (Blk v24 g6 55 nil6) := Lib.hid (by rw [hw, hg]; exact blk0 _ _ _)
                have HC1 := Lib.hid (HC1.out.keep0 hk)
                have HC2 := Lib.hid (HC2.out.keep0 hk)
                have HK := Lib.hid (HK.out.tr hk)
                clear hw hg hk
                simp only [Act.put, List.getElem_toArray, List.getElem_cons_succ, List.getElem_cons_zero]
                refine hK (fun w' => Kp0 w8 w') _ _ (fun _ h => h) HK.out ?_
                clear hK K
                try simp only [List.setIfInBounds_toArray, List.set_cons_zero, List.set_cons_succ]
                refine px_eff rfl (by rfl) (fun K hK => ?_)
                refine wp_alloc_as asKs rfl ?_
                intro v25 g7 hw hg
                have hk : Kp0 v24 v25 := by rw [hw]; exact (Kp.refl _ _).alloc _
                have HA17 : Hid (KsA cs g7) := Lib.hid (HC1.out.off_new (by rw [hg]; exact Nat.le_refl _))
                have HA27 : Hid (KsA ds g7) := Lib.hid (HC2.out.off_new (by rw [hg]; exact Nat.le_refl _))
                have HNE : Hid (g6 ≠ g7) := Lib.hid (by have := HG6.out.lt; omega)
                have HN7 : Hid (w8.heap.size ≤ g7) := Lib.hid (by rw [hg]; exact HK.out.size)
                have HG7 : Hid (Blk v25 g7 55 nil6) := Lib.hid (by rw [hw, hg]; exact blk0 _ _ _)
                have HC1 := Lib.hid (HC1.out.keep0 hk)
                have HC2 := Lib.hid (HC2.out.keep0 hk)
                have HG6 := Lib.hid (HG6.out.kp0 hk)
                have HK := Lib.hid (HK.out.tr hk)
                clear hw hg hk
                simp only [Act.put, List.getElem_toArray, List.getElem_cons_succ, List.getElem_cons_zero]
                refine hK (fun w' => Kp0 w8 w') _ _ (fun _ h => h) HK.out ?_
                clear hK K
                try simp only [List.setIfInBounds_toArray, List.set_cons_zero, List.set_cons_succ]
                refine px_wall rfl (by rfl) (fun K hK => ?_)
                refine wp_store_blk 55 (.tmp 6) (.tmp 36) rfl g6 _ nil6 cs rfl rfl HG6.out (HC1.out.info) HC1.out.len6 HC1.out.ones ?_
                intro va hA hk9
                have HC1 := Lib.hid (HC1.out.keepA hk9 HA16.out)
                have HC2 := Lib.hid (HC2.out.keepA hk9 HA26.out)
                have HG7 := Lib.hid (HG7.out.keep hk9 (fun e => HNE.out e.symm))
                have HG6 := Lib.hid hA
                have HK := Lib.hid (HK.out.trans hk9 (fun _ _ h => h) (fun i hi e => by have := HN6.out; omega))
                clear hA hk9
                refine hK (fun _ => True) _ _ trivial ?_
                clear hK K
                try simp only [Act.put]
                refine px_eff rfl (by rfl) (fun K hK => ?_)
                refine wp_store_blk 55 (.tmp 7) (.tmp 40) rfl g7 _ nil6 ds rfl rfl HG7.out (HC2.out.info) HC2.out.len6 HC2.out.ones ?_
                intro vb hA hk9
                have HC1 := Lib.hid (HC1.out.keepA hk9 HA17.out)
                have HC2 := Lib.hid (HC2.out.keepA hk9 HA27.out)
                have HG6 := Lib.hid (HG6.out.keep hk9 (fun e => HNE.out e))
                have HG7 := Lib.hid hA
                have HK := Lib.hid (HK.out.trans hk9 (fun _ _ h => h) (fun i hi e => by have := HN7.out; omega))
                clear hA hk9
                refine hK (fun _ => True) _ _ (fun _ h => h) trivial (px_done ?_)
                clear hK K
                try simp only [Act.put]
                go_wp2
                go_meet
                case rel =>
                  exact ⟨g6, g7, cs, ds, rfl, rfl, HG6, HG7, HC1, HC2, HK⟩
              · skip
                refine wp_alloc_as asKs rfl ?_
                intro v26 g7 hw hg
                have hk : Kp0 v23 v26 := by rw [hw]; exact (Kp.refl _ _).alloc _
                have HA17 : Hid (KsA cs g7) := Lib.hid (HC1.out.off_new (by rw [hg]; exact Nat.le_refl _))
                have HA27 : Hid (KsA ds g7) := Lib.hid (HC2.out.off_new (by rw [hg]; exact Nat.le_refl _))
                have HN7 : Hid (w8.heap.size ≤ g7) := Lib.hid (by rw [hg]; exact HK.out.size)
                have HG7 : Hid (Blk v26 g7 55 nil6) := Lib.hid (by rw [hw, hg]; exact blk0 _ _ _)
                have HC1 := Lib.hid (HC1.out.keep0 hk)
                have HC2 := Lib.hid (HC2.out.keep0 hk)
                have HK := Lib.hid (HK.out.tr hk)
                clear hw hg hk
                simp only [Act.put, List.getElem_toArray, List.getElem_cons_succ, List.getElem_cons_zero]
                refine hK (fun w' => Kp0 w8 w') _ _ (fun _ h => h) HK.out ?_
                clear hK K
                try simp only [List.setIfInBounds_toArray, List.set_cons_zero, List.set_cons_succ]
                refine px_eff rfl (by rfl) (fun K hK => ?_)
                refine wp_alloc_as asKs rfl ?_
                intro v27 g6 hw hg
                have hk : Kp0 v26 v27 := by rw [hw]; exact (Kp.refl _ _).alloc _
                have HA16 : Hid (KsA cs g6) := Lib.hid (HC1.out.off_new (by rw [hg]; exact Nat.le_refl _))
                have HA26 : Hid (KsA ds g6) := Lib.hid (HC2.out.off_new (by rw [hg]; exact Nat.le_refl _))
                have HNE : Hid (g6 ≠ g7) := Lib.hid (by have := HG7.out.lt; omega)
                have HN6 : Hid (w8.heap.size ≤ g6) := Lib.hid (by rw [hg]; exact HK.out.size)
                have HG6 : Hid (Blk v27 g6 55 nil6) := Lib.hid (by rw [hw, hg]; exact blk0 _ _ _)
                have HC1 := Lib.hid (HC1.out.keep0 hk)
                have HC2 := Lib.hid (HC2.out.keep0 hk)
                have HG7 := Lib.hid (HG7.out.kp0 hk)
                have HK := Lib.hid (HK.out.tr hk)
                clear hw hg hk
                simp only [Act.put, List.getElem_toArray, List.getElem_cons_succ, List.getElem_cons_zero]
                refine hK (fun w' => Kp0 w8 w') _ _ (fun _ h => h) HK.out ?_
                clear hK K
                try simp only [List.setIfInBounds_toArray, List.set_cons_zero, List.set_cons_succ]
                refine px_wall rfl (by rfl) (fun K hK => ?_)
                refine wp_store_blk 55 (.tmp 6) (.tmp 36) rfl g6 _ nil6 cs rfl rfl HG6.out (HC1.out.info) HC1.out.len6 HC1.out.ones ?_
                intro va hA hk9
                have HC1 := Lib.hid (HC1.out.keepA hk9 HA16.out)
                have HC2 := Lib.hid (HC2.out.keepA hk9 HA26.out)
                have HG7 := Lib.hid (HG7.out.keep hk9 (fun e => HNE.out e.symm))
                have HG6 := Lib.hid hA
                have HK := Lib.hid (HK.out.trans hk9 (fun _ _ h => h) (fun i hi e => by have := HN6.out; omega))
                clear hA hk9
                refine hK (fun _ => True) _ _ trivial ?_
                clear hK K
                try simp only [Act.put]
                refine px_eff rfl (by rfl) (fun K hK => ?_)
                refine wp_store_blk 55 (.tmp 7) (.tmp 40) rfl g7 _ nil6 ds rfl rfl HG7.out (HC2.out.info) HC2.out.len6 HC2.out.ones ?_
                intro vb hA hk9
                have HC1 := Lib.hid (HC1.out.keepA hk9 HA17.out)
                have HC2 := Lib.hid (HC2.out.keepA hk9 HA27.out)
                have HG6 := Lib.hid (HG6.out.keep hk9 (fun e => HNE.out e))
                have HG7 := Lib.hid hA
                have HK := Lib.hid (HK.out.trans hk9 (fun _ _ h => h) (fun i hi e => by have := HN7.out; omega))
                clear hA hk9
                refine hK (fun _ => True) _ _ (fun _ h => h) trivial (px_done ?_)
                clear hK K
                try simp only [Act.put]
                go_wp2
                go_meet
                case rel =>
                  exact ⟨g6, g7, cs, ds, rfl, rfl, HG6, HG7, HC1, HC2, HK⟩
            · skip
              refine wp_alloc_as asKs rfl ?_
              intro v28 g6 hw hg
              have hk : Kp0 v22 v28 := by rw [hw]; exact (Kp.refl _ _).alloc _
              have HA16 : Hid (KsA cs g6) := Lib.hid (HC1.out.off_new (by rw [hg]; exact Nat.le_refl _))
              have HN6 : Hid (w8.heap.size ≤ g6) := Lib.hid (by rw [hg]; exact HK.out.size)
              have HG6 : Hid (Blk v28 g6 55 nil6) := Lib.hid (by rw [hw, hg]; exact blk0 _ _ _)
              have HC1 := Lib.hid (HC1.out.keep0 hk)
              have HS2 := Lib.hid (HS2.out.keep0 hk)
              have HK := Lib.hid (HK.out.tr hk)
              clear hw hg hk
              simp only [Act.put, List.getElem_toArray, List.getElem_cons_succ, List.getElem_cons_zero]
              refine hK (fun w' => Kp0 w8 w') _ _ (fun _ h => h) HK.out ?_
              clear hK K
              try simp only [List.setIfInBounds_toArray, List.set_cons_zero, List.set_cons_succ]
              refine ⟨px_one rfl (by rfl) (fun K hK => ?_), px_one rfl (by rfl) (fun K hK => ?_)⟩
              · skip
                go_simp
                refine (keys_any t (.slice e0 t.b0.length f0) (.slice e1 t.b1.length f1) (.slice e2 t.sh.length f2) (.slice e3 ls.length f3) ls v28 (HQ.out.kp0 (HB8.out.kp.tr HK.out)) (HC.out.kp0 (HB8.out.kp.tr HK.out)) (HU.out.kp0 HK.out) HS2.out HZ8.out HL8.out).mono ?_
                rintro e v29 ⟨ds, rfl, hm, hk⟩
                simp only []
                have HA26 : Hid (KsA ds g6) := Lib.hid (hm.off_old HG6.out.lt)
                have HC1 := Lib.hid (HC1.out.keep0 hk)
                have HS2 := Lib.hid (HS2.out.keep0 hk)
                have HG6 := Lib.hid (HG6.out.kp0 hk)
                have HC2 := Lib.hid (hm.base (C := 0) (Nat.zero_le _))
                have HK := Lib.hid (HK.out.tr hk)
                clear hm hk
                refine hK (fun w' => Kp0 w8 w') _ _ (fun _ h => h) HK.out ?_
                clear hK K
                try simp only [List.setIfInBounds_toArray, List.set_cons_zero, List.set_cons_succ]
                refine px_eff rfl (by rfl) (fun K hK => ?_)
                refine wp_alloc_as asKs rfl ?_
                intro v30 g7 hw hg
                have hk : Kp0 v29 v30 := by rw [hw]; exact (Kp.refl _ _).alloc _
                have HA17 : Hid (KsA cs g7) := Lib.hid (HC1.out.off_new (by rw [hg]; exact Nat.le_refl _))
                have HA27 : Hid (KsA ds g7) := Lib.hid (HC2.out.off_new (by rw [hg]; exact Nat.le_refl _))
                have HNE : Hid (g6 ≠ g7) := Lib.hid (by have := HG6.out.lt; omega)
                have HN7 : Hid (w8.heap.size ≤ g7) := Lib.hid (by rw [hg]; exact HK.out.size)
                have HG7 : Hid (Blk v30 g7 55 nil6) := Lib.hid (by rw [hw, hg]; exact blk0 _ _ _)
                have HC1 := Lib.hid (HC1.out.keep0 hk)
                have HC2 := Lib.hid (HC2.out.keep0 hk)
                have HG6 := Lib.hid (HG6.out.kp0 hk)
                have HK := Lib.hid (HK.out.tr hk)
                clear hw hg hk
                simp only [Act.put, List.getElem_toArray, List.getElem_cons_succ, List.getElem_cons_zero]
                refine hK (fun w' => Kp0 w8 w') _ _ (fun _ h => h) HK.out ?_
                clear hK K
                try simp only [List.setIfInBounds_toArray, List.set_cons_zero, List.set_cons_succ]
                refine px_wall rfl (by rfl) (fun K hK => ?_)
                refine wp_store_blk 55 (.tmp 6) (.tmp 36) rfl g6 _ nil6 cs rfl rfl HG6.out (HC1.out.info) HC1.out.len6 HC1.out.ones ?_
                intro va hA hk9
                have HC1 := Lib.hid (HC1.out.keepA hk9 HA16.out)
                have HC2 := Lib.hid (HC2.out.keepA hk9 HA26.out)
                have HG7 := Lib.hid (HG7.out.keep hk9 (fun e => HNE.out e.symm))
                have HG6 := Lib.hid hA
                have HK := Lib.hid (HK.out.trans hk9 (fun _ _ h => h) (fun i hi e => by have := HN6.out; omega))
                clear hA hk9
                refine hK (fun _ => True) _ _ trivial ?_
                clear hK K
                try simp only [Act.put]
                refine px_eff rfl (by rfl) (fun K hK => ?_)
                refine wp_store_blk 55 (.tmp 7) (.tmp 40) rfl g7 _ nil6 ds rfl rfl HG7.out (HC2.out.info) HC2.out.len6 HC2.out.ones ?_
                intro vb hA hk9
                have HC1 := Lib.hid (HC1.out.keepA hk9 HA17.out)
                have HC2 := Lib.hid (HC2.out.keepA hk9 HA27.out)
                have HG6 := Lib.hid (HG6.out.keep hk9 (fun e => HNE.out e))
                have HG7 := Lib.hid hA
                have HK := Lib.hid (HK.out.trans hk9 (fun _ _ h => h) (fun i hi e => by have := HN7.out; omega))
                clear hA hk9
                refine hK (fun _ => True) _ _ (fun _ h => h) trivial (px_done ?_)
                clear hK K
                try simp only [Act.put]
                go_wp2
                go_meet
                case rel =>
                  exact ⟨g6, g7, cs, ds, rfl, rfl, HG6, HG7, HC1, HC2, HK⟩
              · skip
                refine wp_alloc_as asKs rfl ?_
                intro v31 g7 hw hg
                have hk : Kp0 v28 v31 := by rw [hw]; exact (Kp.refl _ _).alloc _
                have HA17 : Hid (KsA cs g7) := Lib.hid (HC1.out.off_new (by rw [hg]; exact Nat.le_refl _))
                have HNE : Hid (g6 ≠ g7) := Lib.hid (by have := HG6.out.lt; omega)
                have HN7 : Hid (w8.heap.size ≤ g7) := Lib.hid (by rw [hg]; exact HK.out.size)
                have HG7 : Hid (Blk v31 g7 55 nil6) := Lib.hid (by rw [hw, hg]; exact blk0 _ _ _)
                have HC1 := Lib.hid (HC1.out.keep0 hk)
                have HS2 := Lib.hid (HS2.out.keep0 hk)
                have HG6 := Lib.hid (HG6.out.kp0 hk)
                have HK := Lib.hid (HK.out.tr hk)
                clear hw hg hk
                simp only [Act.put, List.getElem_toArray, List.getElem_cons_succ, List.getElem_cons_zero]
                refine hK (fun w' => Kp0 w8 w') _ _ (fun _ h => h) HK.out ?_
                clear hK K
                try simp only [List.setIfInBounds_toArray, List.set_cons_zero, List.set_cons_succ]
                refine px_eff rfl (by rfl) (fun K hK => ?_)
                go_simp
                refine (keys_any t (.slice e0 t.b0.length f0) (.slice e1 t.b1.length f1) (.slice e2 t.sh.length f2) (.slice e3 ls.length f3) ls v31 (HQ.out.kp0 (HB8.out.kp.tr HK.out)) (HC.out.kp0 (HB8.out.kp.tr HK.out)) (HU.out.kp0 HK.out) HS2.out HZ8.out HL8.out).mono ?_
                rintro e v32 ⟨ds, rfl, hm, hk⟩
                simp only []
                have HA26 : Hid (KsA ds g6) := Lib.hid (hm.off_old HG6.out.lt)
                have HA27 : Hid (KsA ds g7) := Lib.hid (hm.off_old HG7.out.lt)
                have HC1 := Lib.hid (HC1.out.keep0 hk)
                have HS2 := Lib.hid (HS2.out.keep0 hk)
                have HG6 := Lib.hid (HG6.out.kp0 hk)
                have HG7 := Lib.hid (HG7.out.kp0 hk)
                have HC2 := Lib.hid (hm.base (C := 0) (Nat.zero_le _))
                have HK := Lib.hid (HK.out.tr hk)
                clear hm hk
                refine hK (fun w' => Kp0 w8 w') _ _ (fun _ h => h) HK.out ?_
                clear hK K
                try simp only [List.setIfInBounds_toArray, List.set_cons_zero, List.set_cons_succ]
                refine px_wall rfl (by rfl) (fun K hK => ?_)
                refine wp_store_blk 55 (.tmp 6) (.tmp 36) rfl g6 _ nil6 cs rfl rfl HG6.out (HC1.out.info) HC1.out.len6 HC1.out.ones ?_
                intro va hA hk9
                have HC1 := Lib.hid (HC1.out.keepA hk9 HA16.out)
                have HC2 := Lib.hid (HC2.out.keepA hk9 HA26.out)
                have HG7 := Lib.hid (HG7.out.keep hk9 (fun e => HNE.out e.symm))
                have HG6 := Lib.hid hA
                have HK := Lib.hid (HK.out.trans hk9 (fun _ _ h => h) (fun i hi e => by have := HN6.out; omega))
                clear hA hk9
                refine hK (fun _ => True) _ _ trivial ?_
                clear hK K
                try simp only [Act.put]
                refine px_eff rfl (by rfl) (fun K hK => ?_)
                refine wp_store_blk 55 (.tmp 7) (.tmp 40) rfl g7 _ nil6 ds rfl rfl HG7.out (HC2.out.info) HC2.out.len6 HC2.out.ones ?_
                intro vb hA hk9
                have HC1 := Lib.hid (HC1.out.keepA hk9 HA17.out)
                have HC2 := Lib.hid (HC2.out.keepA hk9 HA27.out)
                have HG6 := Lib.hid (HG6.out.keep hk9 (fun e => HNE.out e))
                have HG7 := Lib.hid hA
                have HK := Lib.hid (HK.out.trans hk9 (fun _ _ h => h) (fun i hi e => by have := HN7.out; omega))
                clear hA hk9
                refine hK (fun _ => True) _ _ (fun _ h => h) trivial (px_done ?_)
                clear hK K
                try simp only [Act.put]
                go_wp2
                go_meet
                case rel =>
                  exact ⟨g6, g7, cs, ds, rfl, rfl, HG6, HG7, HC1, HC2, HK⟩
            · skip
              refine wp_alloc_as asKs rfl ?_
              intro v33 g7 hw hg
              have hk : Kp0 v22 v33 := by rw [hw]; exact (Kp.refl _ _).alloc _
              have HA17 : Hid (KsA cs g7) := Lib.hid (HC1.out.off_new (by rw [hg]; exact Nat.le_refl _))
              have HN7 : Hid (w8.heap.size ≤ g7) := Lib.hid (by rw [hg]; exact HK.out.size)
              have HG7 : Hid (Blk v33 g7 55 nil6) := Lib.hid (by rw [hw, hg]; exact blk0 _ _ _)
              have HC1 := Lib.hid (HC1.out.keep0 hk)
              have HS2 := Lib.hid (HS2.out.keep0 hk)
              have HK := Lib.hid (HK.out.tr hk)
              clear hw hg hk
              simp only [Act.put, List.getElem_toArray, List.getElem_cons_succ, List.getElem_cons_zero]
              refine hK (fun w' => Kp0 w8 w') _ _ (fun _ h => h) HK.out ?_
              clear hK K
              try simp only [List.setIfInBounds_toArray, List.set_cons_zero, List.set_cons_succ]
              refine ⟨px_one rfl (by rfl) (fun K hK => ?_), px_one rfl (by rfl) (fun K hK => ?_)⟩
              · skip
                go_simp
                refine (keys_any t (.slice e0 t.b0.length f0) (.slice e1 t.b1.length f1) (.slice e2 t.sh.length f2) (.slice e3 ls.length f3) ls v33 (HQ.out.kp0 (HB8.out.kp.tr HK.out)) (HC.out.kp0 (HB8.out.kp.tr HK.out)) (HU.out.kp0 HK.out) HS2.out HZ8.out HL8.out).mono ?_
                rintro e v34 ⟨ds, rfl, hm, hk⟩
                simp only []
                have HA27 : Hid (KsA ds g7) := Lib.hid (hm.off_old HG7.out.lt)
                have HC1 := Lib.hid (HC1.out.keep0 hk)
                have HS2 := Lib.hid (HS2.out.keep0 hk)
                have HG7 := Lib.hid (HG7.out.kp0 hk)
                have HC2 := Lib.hid (hm.base (C := 0) (Nat.zero_le _))
                have HK := Lib.hid (HK.out.tr hk)
                clear hm hk
                refine hK (fun w' => Kp0 w8 w') _ _ (fun _ h => h) HK.out ?_
                clear hK K
                try simp only [List.setIfInBounds_toArray, List.set_cons_zero, List.set_cons_succ]
                refine px_eff rfl (by rfl) (fun K hK => ?_)
                refine wp_alloc_as asKs rfl ?_
                intro v35 g6 hw hg
                have hk : Kp0 v34 v35 := by rw [hw]; exact (Kp.refl _ _).alloc _
                have HA16 : Hid (KsA cs g6) := Lib.hid (HC1.out.off_new (by rw [hg]; exact Nat.le_refl _))
                have HA26 : Hid (KsA ds g6) := Lib.hid (HC2.out.off_new (by rw [hg]; exact Nat.le_refl _))
                have HNE : Hid (g6 ≠ g7) := Lib.hid (by have := HG7.out.lt; omega)
                have HN6 : Hid (w8.heap.size ≤ g6) := Lib.hid (by rw [hg]; exact HK.out.size)
                have HG6 : Hid (Blk v35 g6 55 nil6) := Lib.hid (by rw [hw, hg]; exact blk0 _ _ _)
                have HC1 := Lib.hid (HC1.out.keep0 hk)
                have HC2 := Lib.hid (HC2.out.keep0 hk)
                have HG7 := Lib.hid (HG7.out.kp0 hk)
                have HK := Lib.hid (HK.out.tr hk)
                clear hw hg hk
                simp only [Act.put, List.getElem_toArray, List.getElem_cons_succ, List.getElem_cons_zero]
                refine hK (fun w' => Kp0 w8 w') _ _ (fun _ h => h) HK.out ?_
                clear hK K
                try simp only [List.setIfInBounds_toArray, List.set_cons_zero, List.set_cons_succ]
                refine px_wall rfl (by rfl) (fun K hK => ?_)
                refine wp_store_blk 55 (.tmp 6) (.tmp 36) rfl g6 _ nil6 cs rfl rfl HG6.out (HC1.out.info) HC1.out.len6 HC1.out.ones ?_
                intro va hA hk9
                have HC1 := Lib.hid (HC1.out.keepA hk9 HA16.out)
                have HC2 := Lib.hid (HC2.out.keepA hk9 HA26.out)
                have HG7 := Lib.hid (HG7.out.keep hk9 (fun e => HNE.out e.symm))
                have HG6 := Lib.hid hA
                have HK := Lib.hid (HK.out.trans hk9 (fun _ _ h => h) (fun i hi e => by have := HN6.out; omega))
                clear hA hk9
                refine hK (fun _ => True) _ _ trivial ?_
                clear hK K
                try simp only [Act.put]
                refine px_eff rfl (by rfl) (fun K hK => ?_)
                refine wp_store_blk 55 (.tmp 7) (.tmp 40) rfl g7 _ nil6 ds rfl rfl HG7.out (HC2.out.info) HC2.out.len6 HC2.out.ones ?_
                intro vb hA hk9
                have HC1 := Lib.hid (HC1.out.keepA hk9 HA17.out)
                have HC2 := Lib.hid (HC2.out.keepA hk9 HA27.out)
                have HG6 := Lib.hid (HG6.out.keep hk9 (fun e => HNE.out e))
                have HG7 := Lib.hid hA
                have HK := Lib.hid (HK.out.trans hk9 (fun _ _ h => h) (fun i hi e => by have := HN7.out; omega))
                clear hA hk9
                refine hK (fun _ => True) _ _ (fun _ h => h) trivial (px_done ?_)
                clear hK K
                try simp only [Act.put]
                go_wp2
                go_meet
                case rel =>
                  exact ⟨g6, g7, cs, ds, rfl, rfl, HG6, HG7, HC1, HC2, HK⟩
              · skip
                refine wp_alloc_as asKs rfl ?_
                intro v36 g6 hw hg
                have hk : Kp0 v33 v36 := by rw [hw]; exact (Kp.refl _ _).alloc _
                have HA16 : Hid (KsA cs g6) := Lib.hid (HC1.out.off_new (by rw [hg]; exact Nat.le_refl _))
                have HNE : Hid (g6 ≠ g7) := Lib.hid (by have := HG7.out.lt; omega)
                have HN6 : Hid (w8.heap.size ≤ g6) := Lib.hid (by rw [hg]; exact HK.out.size)
                have HG6 : Hid (Blk v36 g6 55 nil6) := Lib.hid (by rw [hw, hg]; exact blk0 _ _ _)
                have HC1 := Lib.hid (HC1.out.keep0 hk)
                have HS2 := Lib.hid (HS2.out.keep0 hk)
                have HG7 := Lib.hid (HG7.out.kp0 hk)
                have HK := Lib.hid (HK.out.tr hk)
                clear hw hg hk
                simp only [Act.put, List.getElem_toArray, List.getElem_cons_succ, List.getElem_cons_zero]
                refine hK (fun w' => Kp0 w8 w') _ _ (fun _ h => h) HK.out ?_
                clear hK K
                try simp only [List.setIfInBounds_toArray, List.set_cons_zero, List.set_cons_succ]
                refine px_eff rfl (by rfl) (fun K hK => ?_)
                go_simp
                refine (keys_any t (.slice e0 t.b0.length f0) (.slice e1 t.b1.length f1) (.slice e2 t.sh.length f2) (.slice e3 ls.length f3) ls v36 (HQ.out.kp0 (HB8.out.kp.tr HK.out)) (HC.out.kp0 (HB8.out.kp.tr HK.out)) (HU.out.kp0 HK.out) HS2.out HZ8.out HL8.out).mono ?_
                rintro e v37 ⟨ds, rfl, hm, hk⟩
                simp only []
                have HA26 : Hid (KsA ds g6) := Lib.hid (hm.off_old HG6.out.lt)
                have HA27 : Hid (KsA ds g7) := Lib.hid (hm.off_old HG7.out.lt)
                have HC1 := Lib.hid (HC1.out.keep0 hk)
                have HS2 := Lib.hid (HS2.out.keep0 hk)
                have HG6 := Lib.hid (HG6.out.kp0 hk)
                have HG7 := Lib.hid (HG7.out.kp0 hk)
                have HC2 := Lib.hid (hm.base (C := 0) (Nat.zero_le _))
                have HK := Lib.hid (HK.out.tr hk)
                clear hm hk
                refine hK (fun w' => Kp0 w8 w') _ _ (fun _ h => h) HK.out ?_
                clear hK K
                try simp only [List.setIfInBounds_toArray, List.set_cons_zero, List.set_cons_succ]
                refine px_wall rfl (by rfl) (fun K hK => ?_)
                refine wp_store_blk 55 (.tmp 6) (.tmp 36) rfl g6 _ nil6 cs rfl rfl HG6.out (HC1.out.info) HC1.out.len6 HC1.out.ones ?_
                intro va hA hk9
                have HC1 := Lib.hid (HC1.out.keepA hk9 HA16.out)
                have HC2 := Lib.hid (HC2.out.keepA hk9 HA26.out)
                have HG7 := Lib.hid (HG7.out.keep hk9 (fun e => HNE.out e.symm))
                have HG6 := Lib.hid hA
                have HK := Lib.hid (HK.out.trans hk9 (fun _ _ h => h) (fun i hi e => by have := HN6.out; omega))
                clear hA hk9
                refine hK (fun _ => True) _ _ trivial ?_
                clear hK K
                try simp only [Act.put]
                refine px_eff rfl (by rfl) (fun K hK => ?_)
                refine wp_store_blk 55 (.tmp 7) (.tmp 40) rfl g7 _ nil6 ds rfl rfl HG7.out (HC2.out.info) HC2.out.len6 HC2.out.ones ?_
                intro vb hA hk9
                have HC1 := Lib.hid (HC1.out.keepA hk9 HA17.out)
                have HC2 := Lib.hid (HC2.out.keepA hk9 HA27.out)
                have HG6 := Lib.hid (HG6.out.keep hk9 (fun e => HNE.out e))
                have HG7 := Lib.hid hA
                have HK := Lib.hid (HK.out.trans hk9 (fun _ _ h => h) (fun i hi e => by have := HN7.out; omega))
                clear hA hk9
                refine hK (fun _ => True) _ _ (fun _ h => h) trivial (px_done ?_)
                clear hK K
                try simp only [Act.put]
                go_wp2
                go_meet
                case rel =>
                  exact ⟨g6, g7, cs, ds, rfl, rfl, HG6, HG7, HC1, HC2, HK⟩
          · skip
            refine wp_alloc_as asKs rfl ?_
            intro v38 g6 hw hg
            have hk : Kp0 v21 v38 := by rw [hw]; exact (Kp.refl _ _).alloc _
            have HA16 : Hid (KsA cs g6) := Lib.hid (HC1.out.off_new (by rw [hg]; exact Nat.le_refl _))
            have HN6 : Hid (w8.heap.size ≤ g6) := Lib.hid (by rw [hg]; exact HK.out.size)
            have HG6 : Hid (Blk v38 g6 55 nil6) := Lib.hid (by rw [hw, hg]; exact blk0 _ _ _)
            have HC1 := Lib.hid (HC1.out.keep0 hk)
            have HK := Lib.hid (HK.out.tr hk)
            clear hw hg hk
            simp only [Act.put, List.getElem_toArray, List.getElem_cons_succ, List.getElem_cons_zero]
            refine hK (fun w' => Kp0 w8 w') _ _ (fun _ h => h) HK.out ?_
            clear hK K
            try simp only [List.setIfInBounds_toArray, List.set_cons_zero, List.set_cons_succ]
            refine ⟨px_one rfl (by rfl) (fun K hK => ?_), px_one rfl (by rfl) (fun K hK => ?_)⟩
            · skip
              refine append_new (x := .tmp 38) (y := .slice sq ls.length sc) (l := ls) ?_ ?_ ?_ ?_ ?_
              rfl
              rfl
              exact HS.out.keep0 (HB8.out.kp.tr HK.out)
              exact HLA.out
              intro e3 f3 v39 hr hb hk
              have HC1 := Lib.hid (HC1.out.keep0 hk)
              have HG6 := Lib.hid (HG6.out.kp0 hk)
              have HS2 := Lib.hid hr
              have HK := Lib.hid (HK.out.tr hk)
              clear hr hb hk
              simp only [Act.put, List.getElem_toArray, List.getElem_cons_succ, List.getElem_cons_zero]
              refine hK (fun w' => Kp0 w8 w') _ _ (fun _ h => h) HK.out ?_
              clear hK K
              try simp only [List.setIfInBounds_toArray, List.set_cons_zero, List.set_cons_succ]
              refine ⟨px_one rfl (by rfl) (fun K hK => ?_), px_one rfl (by rfl) (fun K hK => ?_)⟩
              · skip
                go_simp
                refine (keys_any t (.slice e0 t.b0.length f0) (.slice e1 t.b1.length f1) (.slice e2 t.sh.length f2) (.slice e3 ls.length f3) ls v39 (HQ.out.kp0 (HB8.out.kp.tr HK.out)) (HC.out.kp0 (HB8.out.kp.tr HK.out)) (HU.out.kp0 HK.out) HS2.out HZ8.out HL8.out).mono ?_
                rintro e v40 ⟨ds, rfl, hm, hk⟩
                simp only []
                have HA26 : Hid (KsA ds g6) := Lib.hid (hm.off_old HG6.out.lt)
                have HC1 := Lib.hid (HC1.out.keep0 hk)
                have HS2 := Lib.hid (HS2.out.keep0 hk)
                have HG6 := Lib.hid (HG6.out.kp0 hk)
                have HC2 := Lib.hid (hm.base (C := 0) (Nat.zero_le _))
                have HK := Lib.hid (HK.out.tr hk)
                clear hm hk
                refine hK (fun w' => Kp0 w8 w') _ _ (fun _ h => h) HK.out ?_
                clear hK K
                try simp only [List.setIfInBounds_toArray, List.set_cons_zero, List.set_cons_succ]
                refine px_eff rfl (by rfl) (fun K hK => ?_)
                refine wp_alloc_as asKs rfl ?_
                intro v41 g7 hw hg
                have hk : Kp0 v40 v41 := by rw [hw]; exact (Kp.refl _ _).alloc _
                have HA17 : Hid (KsA cs g7) := Lib.hid (HC1.out.off_new (by rw [hg]; exact Nat.le_refl _))
                have HA27 : Hid (KsA ds g7) := Lib.hid (HC2.out.off_new (by rw [hg]; exact Nat.le_refl _))
                have HNE : Hid (g6 ≠ g7) := Lib.hid (by have := HG6.out.lt; omega)
                have HN7 : Hid (w8.heap.size ≤ g7) := Lib.hid (by rw [hg]; exact HK.out.size)
                have HG7 : Hid (Blk v41 g7 55 nil6) := Lib.hid (by rw [hw, hg]; exact blk0 _ _ _)
                have HC1 := Lib.hid (HC1.out.keep0 hk)
                have HC2 := Lib.hid (HC2.out.keep0 hk)
                have HG6 := Lib.hid (HG6.out.kp0 hk)
                have HK := Lib.hid (HK.out.tr hk)
                clear hw hg hk
                simp only [Act.put, List.getElem_toArray, List.getElem_cons_succ, List.getElem_cons_zero]
                refine hK (fun w' => Kp0 w8 w') _ _ (fun _ h => h) HK.out ?_
                clear hK K
                try simp only [List.setIfInBounds_toArray, List.set_cons_zero, List.set_cons_succ]
                refine px_wall rfl (by rfl) (fun K hK => ?_)
                refine wp_store_blk 55 (.tmp 6) (.tmp 36) rfl g6 _ nil6 cs rfl rfl HG6.out (HC1.out.info) HC1.out.len6 HC1.out.ones ?_
                intro va hA hk9
                have HC1 := Lib.hid (HC1.out.keepA hk9 HA16.out)
                have HC2 := Lib.hid (HC2.out.keepA hk9 HA26.out)
                have HG7 := Lib.hid (HG7.out.keep hk9 (fun e => HNE.out e.symm))
                have HG6 := Lib.hid hA
                have HK := Lib.hid (HK.out.trans hk9 (fun _ _ h => h) (fun i hi e => by have := HN6.out; omega))
                clear hA hk9
                refine hK (fun _ => True) _ _ trivial ?_
                clear hK K
                try simp only [Act.put]
                refine px_eff rfl (by rfl) (fun K hK => ?_)
                refine wp_store_blk 55 (.tmp 7) (.tmp 40) rfl g7 _ nil6 ds rfl rfl HG7.out (HC2.out.info) HC2.out.len6 HC2.out.ones ?_
                intro vb hA hk9
                have HC1 := Lib.hid (HC1.out.keepA hk9 HA17.out)
                have HC2 := Lib.hid (HC2.out.keepA hk9 HA27.out)
                have HG6 := Lib.hid (HG6.out.keep hk9 (fun e => HNE.out e))
                have HG7 := Lib.hid hA
                have HK := Lib.hid (HK.out.trans hk9 (fun _ _ h => h) (fun i hi e => by have := HN7.out; omega))
                clear hA hk9
                refine hK (fun _ => True) _ _ (fun _ h => h) trivial (px_done ?_)
                clear hK K
                try simp only [Act.put]
                go_wp2
                go_meet
                case rel =>
                  exact ⟨g6, g7, cs, ds, rfl, rfl, HG6, HG7, HC1, HC2, HK⟩
              · skip
                refine wp_alloc_as asKs rfl ?_
                intro v42 g7 hw hg
                have hk : Kp0 v39 v42 := by rw [hw]; exact (Kp.refl _ _).alloc _
                have HA17 : Hid (KsA cs g7) := Lib.hid (HC1.out.off_new (by rw [hg]; exact Nat.le_refl _))
                have HNE : Hid (g6 ≠ g7) := Lib.hid (by have := HG6.out.lt; omega)
                have HN7 : Hid (w8.heap.size ≤ g7) := Lib.hid (by rw [hg]; exact HK.out.size)
                have HG7 : Hid (Blk v42 g7 55 nil6) := Lib.hid (by rw [hw, hg]; exact blk0 _ _ _)
                have HC1 := Lib.hid (HC1.out.keep0 hk)
                have HS2 := Lib.hid (HS2.out.keep0 hk)
                have HG6 := Lib.hid (HG6.out.kp0 hk)
                have HK := Lib.hid (HK.out.tr hk)
                clear hw hg hk
                simp only [Act.put, List.getElem_toArray, List.getElem_cons_succ, List.getElem_cons_zero]
                refine hK (fun w' => Kp0 w8 w') _ _ (fun _ h => h) HK.out ?_
                clear hK K
                try simp only [List.setIfInBounds_toArray, List.set_cons_zero, List.set_cons_succ]
                refine px_eff rfl (by rfl) (fun K hK => ?_)
                go_simp
                refine (keys_any t (.slice e0 t.b0.length f0) (.slice e1 t.b1.length f1) (.slice e2 t.sh.length f2) (.slice e3 ls.length f3) ls v42 (HQ.out.kp0 (HB8.out.kp.tr HK.out)) (HC.out.kp0 (HB8.out.kp.tr HK.out)) (HU.out.kp0 HK.out) HS2.out HZ8.out HL8.out).mono ?_
                rintro e v43 ⟨ds, rfl, hm, hk⟩
                simp only []
                have HA26 : Hid (KsA ds g6) := Lib.hid (hm.off_old HG6.out.lt)
                have HA27 : Hid (KsA ds g7) := Lib.hid (hm.off_old HG7.out.lt)
                have HC1 := Lib.hid (HC1.out.keep0 hk)
                have HS2 := Lib.hid (HS2.out.keep0 hk)
                have HG6 := Lib.hid (HG6.out.kp0 hk)
                have HG7 := Lib.hid (HG7.out.kp0 hk)
                have HC2 := Lib.hid (hm.base (C := 0) (Nat.zero_le _))
                have HK := Lib.hid (HK.out.tr hk)
                clear hm hk
                refine hK (fun w' => Kp0 w8 w') _ _ (fun _ h => h) HK.out ?_
                clear hK K
                try simp only [List.setIfInBounds_toArray, List.set_cons_zero, List.set_cons_succ]
                refine px_wall rfl (by rfl) (fun K hK => ?_)
                refine wp_store_blk 55 (.tmp 6) (.tmp 36) rfl g6 _ nil6 cs rfl rfl HG6.out (HC1.out.info) HC1.out.len6 HC1.out.ones ?_
                intro va hA hk9
                have HC1 := Lib.hid (HC1.out.keepA hk9 HA16.out)
                have HC2 := Lib.hid (HC2.out.keepA hk9 HA26.out)
                have HG7 := Lib.hid (HG7.out.keep hk9 (fun e => HNE.out e.symm))
                have HG6 := Lib.hid hA
                have HK := Lib.hid (HK.out.trans hk9 (fun _ _ h => h) (fun i hi e => by have := HN6.out; omega))
                clear hA hk9
                refine hK (fun _ => True) _ _ trivial ?_
                clear hK K
                try simp only [Act.put]
                refine px_eff rfl (by rfl) (fun K hK => ?_)
                refine wp_store_blk 55 (.tmp 7) (.tmp 40) rfl g7 _ nil6 ds rfl rfl HG7.out (HC2.out.info) HC2.out.len6 HC2.out.ones ?_
                intro vb hA hk9
                have HC1 := Lib.hid (HC1.out.keepA hk9 HA17.out)
                have HC2 := Lib.hid (HC2.out.keepA hk9 HA27.out)
                have HG6 := Lib.hid (HG6.out.keep hk9 (fun e => HNE.out e))
                have HG7 := Lib.hid hA
                have HK := Lib.hid (HK.out.trans hk9 (fun _ _ h => h) (fun i hi e => by have := HN7.out; omega))
                clear hA hk9
                refine hK (fun _ => True) _ _ (fun _ h => h) trivial (px_done ?_)
                clear hK K
                try simp only [Act.put]
                go_wp2
                go_meet
                case rel =>
                  exact ⟨g6, g7, cs, ds, rfl, rfl, HG6, HG7, HC1, HC2, HK⟩
            · skip
              refine wp_alloc_as asKs rfl ?_
              intro v44 g7 hw hg
              have hk : Kp0 v38 v44 := by rw [hw]; exact (Kp.refl _ _).alloc _
              have HA17 : Hid (KsA cs g7) := Lib.hid (HC1.out.off_new (by rw [hg]; exact Nat.le_refl _))
              have HNE : Hid (g6 ≠ g7) := Lib.hid (by have := HG6.out.lt; omega)
              have HN7 : Hid (w8.heap.size ≤ g7) := Lib.hid (by rw [hg]; exact HK.out.size)
              have HG7 : Hid (Blk v44 g7 55 nil6) := Lib.hid (by rw [hw, hg]; exact blk0 _ _ _)
              have HC1 := Lib.hid (HC1.out.keep0 hk)
              have HG6 := Lib.hid (HG6.out.kp0 hk)
              have HK := Lib.hid (HK.out.tr hk)
              clear hw hg hk
              simp only [Act.put, List.getElem_toArray, List.getElem_cons_succ, List.getElem_cons_zero]
              refine hK (fun w' => Kp0 w8 w') _ _ (fun _ h => h) HK.out ?_
              clear hK K
              try simp only [List.setIfInBounds_toArray, List.set_cons_zero, List.set_cons_succ]
              refine px_eff rfl (by rfl) (fun K hK => ?_)
              refine append_new (x := .tmp 38) (y := .slice sq ls.length sc) (l := ls) ?_ ?_ ?_ ?_ ?_
              rfl
              rfl
              exact HS.out.keep0 (HB8.out.kp.tr HK.out)
              exact HLA.out
              intro e3 f3 v45 hr hb hk
              have HC1 := Lib.hid (HC1.out.keep0 hk)
              have HG6 := Lib.hid (HG6.out.kp0 hk)
              have HG7 := Lib.hid (HG7.out.kp0 hk)
              have HS2 := Lib.hid hr
              have HK := Lib.hid (HK.out.tr hk)
              clear hr hb hk
              simp only [Act.put, List.getElem_toArray, List.getElem_cons_succ, List.getElem_cons_zero]
              refine hK (fun w' => Kp0 w8 w') _ _ (fun _ h => h) HK.out ?_
              clear hK K
              try simp only [List.setIfInBounds_toArray, List.set_cons_zero, List.set_cons_succ]
              refine px_eff rfl (by rfl) (fun K hK => ?_)
              go_simp
              refine (keys_any t (.slice e0 t.b0.length f0) (.slice e1 t.b1.length f1) (.slice e2 t.sh.length f2) (.slice e3 ls.length f3) ls v45 (HQ.out.kp0 (HB8.out.kp.tr HK.out)) (HC.out.kp0 (HB8.out.kp.tr HK.out)) (HU.out.kp0 HK.out) HS2.out HZ8.out HL8.out).mono ?_
              rintro e v46 ⟨ds, rfl, hm, hk⟩
              simp only []
              have HA26 : Hid (KsA ds g6) := Lib.hid (hm.off_old HG6.out.lt)
              have HA27 : Hid (KsA ds g7) := Lib.hid (hm.off_old HG7.out.lt)
              have HC1 := Lib.hid (HC1.out.keep0 hk)
              have HS2 := Lib.hid (HS2.out.keep0 hk)
              have HG6 := Lib.hid (HG6.out.kp0 hk)
              have HG7 := Lib.hid (HG7.out.kp0 hk)
              have HC2 := Lib.hid (hm.base (C := 0) (Nat.zero_le _))
              have HK := Lib.hid (HK.out.tr hk)
              clear hm hk
              refine hK (fun w' => Kp0 w8 w') _ _ (fun _ h => h) HK.out ?_
              clear hK K
              try simp only [List.setIfInBounds_toArray, List.set_cons_zero, List.set_cons_succ]
              refine px_wall rfl (by rfl) (fun K hK => ?_)
              refine wp_store_blk 55 (.tmp 6) (.tmp 36) rfl g6 _ nil6 cs rfl rfl HG6.out (HC1.out.info) HC1.out.len6 HC1.out.ones ?_
              intro va hA hk9
              have HC1 := Lib.hid (HC1.out.keepA hk9 HA16.out)
              have HC2 := Lib.hid (HC2.out.keepA hk9 HA26.out)
              have HG7 := Lib.hid (HG7.out.keep hk9 (fun e => HNE.out e.symm))
              have HG6 := Lib.hid hA
              have HK := Lib.hid (HK.out.trans hk9 (fun _ _ h => h) (fun i hi e => by have := HN6.out; omega))
              clear hA hk9
              refine hK (fun _ => True) _ _ trivial ?_
              clear hK K
              try simp only [Act.put]
              refine px_eff rfl (by rfl) (fun K hK => ?_)
              refine wp_store_blk 55 (.tmp 7) (.tmp 40) rfl g7 _ nil6 ds rfl rfl HG7.out (HC2.out.info) HC2.out.len6 HC2.out.ones ?_
              intro vb hA hk9
              have HC1 := Lib.hid (HC1.out.keepA hk9 HA17.out)
              have HC2 := Lib.hid (HC2.out.keepA hk9 HA27.out)
              have HG6 := Lib.hid (HG6.out.keep hk9 (fun e => HNE.out e))
              have HG7 := Lib.hid hA
              have HK := Lib.hid (HK.out.trans hk9 (fun _ _ h => h) (fun i hi e => by have := HN7.out; omega))
              clear hA hk9
              refine hK (fun _ => True) _ _ (fun _ h => h) trivial (px_done ?_)
              clear hK K
              try simp only [Act.put]
              go_wp2
              go_meet
              case rel =>
                exact ⟨g6, g7, cs, ds, rfl, rfl, HG6, HG7, HC1, HC2, HK⟩
          · skip
            refine wp_alloc_as asKs rfl ?_
            intro v47 g7 hw hg
            have hk : Kp0 v21 v47 := by rw [hw]; exact (Kp.refl _ _).alloc _
            have HA17 : Hid (KsA cs g7) := Lib.hid (HC1.out.off_new (by rw [hg]; exact Nat.le_refl _))
            have HN7 : Hid (w8.heap.size ≤ g7) := Lib.hid (by rw [hg]; exact HK.out.size)
            have HG7 : Hid (Blk v47 g7 55 nil6) := Lib.hid (by rw [hw, hg]; exact blk0 _ _ _)
            have HC1 := Lib.hid (HC1.out.keep0 hk)
            have HK := Lib.hid (HK.out.tr hk)
            clear hw hg hk
            simp only [Act.put, List.getElem_toArray, List.getElem_cons_succ, List.getElem_cons_zero]
            refine hK (fun w' => Kp0 w8 w') _ _ (fun _ h => h) HK.out ?_
            clear hK K
            try simp only [List.setIfInBounds_toArray, List.set_cons_zero, List.set_cons_succ]
            refine ⟨px_one rfl (by rfl) (fun K hK => ?_), px_one rfl (by rfl) (fun K hK => ?_)⟩
            · skip
              refine append_new (x := .tmp 38) (y := .slice sq ls.length sc) (l := ls) ?_ ?_ ?_ ?_ ?_
              rfl
              rfl
              exact HS.out.keep0 (HB8.out.kp.tr HK.out)
              exact HLA.out
              intro e3 f3 v48 hr hb hk
              have HC1 := Lib.hid (HC1.out.keep0 hk)
              have HG7 := Lib.hid (HG7.out.kp0 hk)
              have HS2 := Lib.hid hr
              have HK := Lib.hid (HK.out.tr hk)
              clear hr hb hk
              simp only [Act.put, List.getElem_toArray, List.getElem_cons_succ, List.getElem_cons_zero]
              refine hK (fun w' => Kp0 w8 w') _ _ (fun _ h => h) HK.out ?_
              clear hK K
              try simp only [List.setIfInBounds_toArray, List.set_cons_zero, List.set_cons_succ]
              refine ⟨px_one rfl (by rfl) (fun K hK => ?_), px_one rfl (by rfl) (fun K hK => ?_)⟩
              · skip
                go_simp
                refine (keys_any t (.slice e0 t.b0.length f0) (.slice e1 t.b1.length f1) (.slice e2 t.sh.length f2) (.slice e3 ls.length f3) ls v48 (HQ.out.kp0 (HB8.out.kp.tr HK.out)) (HC.out.kp0 (HB8.out.kp.tr HK.out)) (HU.out.kp0 HK.out) HS2.out HZ8.out HL8.out).mono ?_
                rintro e v49 ⟨ds, rfl, hm, hk⟩
                simp only []
                have HA27 : Hid (KsA ds g7) := Lib.hid (hm.off_old HG7.out.lt)
                have HC1 := Lib.hid (HC1.out.keep0 hk)
                have HS2 := Lib.hid (HS2.out.keep0 hk)
                have HG7 := Lib.hid (HG7.out.kp0 hk)
                have HC2 := Lib.hid (hm.base (C := 0) (Nat.zero_le _))
                have HK := Lib.hid (HK.out.tr hk)
                clear hm hk
                refine hK (fun w' => Kp0 w8 w') _ _ (fun _ h => h) HK.out ?_
                clear hK K
                try simp only [List.setIfInBounds_toArray, List.set_cons_zero, List.set_cons_succ]
                refine px_eff rfl (by rfl) (fun K hK => ?_)
                refine wp_alloc_as asKs rfl ?_
                intro v50 g6 hw hg
                have hk : Kp0 v49 v50 := by rw [hw]; exact (Kp.refl _ _).alloc _
                have HA16 : Hid (KsA cs g6) := Lib.hid (HC1.out.off_new (by rw [hg]; exact Nat.le_refl _))
                have HA26 : Hid (KsA ds g6) := Lib.hid (HC2.out.off_new (by rw [hg]; exact Nat.le_refl _))
                have HNE : Hid (g6 ≠ g7) := Lib.hid (by have := HG7.out.lt; omega)
                have HN6 : Hid (w8.heap.size ≤ g6) := Lib.hid (by rw [hg]; exact HK.out.size)
                have HG6 : Hid (Blk v50 g6 55 nil6) := Lib.hid (by rw [hw, hg]; exact blk0 _ _ _)
                have HC1 := Lib.hid (HC1.out.keep0 hk)
                have HC2 := Lib.hid (HC2.out.keep0 hk)
                have HG7 := Lib.hid (HG7.out.kp0 hk)
                have HK := Lib.hid (HK.out.tr hk)
                clear hw hg hk
                simp only [Act.put, List.getElem_toArray, List.getElem_cons_succ, List.getElem_cons_zero]
                refine hK (fun w' => Kp0 w8 w') _ _ (fun _ h => h) HK.out ?_
                clear hK K
                try simp only [List.setIfInBounds_toArray, List.set_cons_zero, List.set_cons_succ]
                refine px_wall rfl (by rfl) (fun K hK => ?_)
                refine wp_store_blk 55 (.tmp 6) (.tmp 36) rfl g6 _ nil6 cs rfl rfl HG6.out (HC1.out.info) HC1.out.len6 HC1.out.ones ?_
                intro va hA hk9
                have HC1 := Lib.hid (HC1.out.keepA hk9 HA16.out)
                have HC2 := Lib.hid (HC2.out.keepA hk9 HA26.out)
                have HG7 := Lib.hid (HG7.out.keep hk9 (fun e => HNE.out e.symm))
                have HG6 := Lib.hid hA
                have HK := Lib.hid (HK.out.trans hk9 (fun _ _ h => h) (fun i hi e => by have := HN6.out; omega))
                clear hA hk9
                refine hK (fun _ => True) _ _ trivial ?_
                clear hK K
                try simp only [Act.put]
                refine px_eff rfl (by rfl) (fun K hK => ?_)
                refine wp_store_blk 55 (.tmp 7) (.tmp 40) rfl g7 _ nil6 ds rfl rfl HG7.out (HC2.out.info) HC2.out.len6 HC2.out.ones ?_
                intro vb hA hk9
                have HC1 := Lib.hid (HC1.out.keepA hk9 HA17.out)
                have HC2 := Lib.hid (HC2.out.keepA hk9 HA27.out)
                have HG6 := Lib.hid (HG6.out.keep hk9 (fun e => HNE.out e))
                have HG7 := Lib.hid hA
                have HK := Lib.hid (HK.out.trans hk9 (fun _ _ h => h) (fun i hi e => by have := HN7.out; omega))
                clear hA hk9
                refine hK (fun _ => True) _ _ (fun _ h => h) trivial (px_done ?_)
                clear hK K
                try simp only [Act.put]
                go_wp2
                go_meet
                case rel =>
                  exact ⟨g6, g7, cs, ds, rfl, rfl, HG6, HG7, HC1, HC2, HK⟩
              · skip
                refine wp_alloc_as asKs rfl ?_
                intro v51 g6 hw hg
                have hk : Kp0 v48 v51 := by rw [hw]; exact (Kp.refl _ _).alloc _
                have HA16 : Hid (KsA cs g6) := Lib.hid (HC1.out.off_new (by rw [hg]; exact Nat.le_refl _))
                have HNE : Hid (g6 ≠ g7) := Lib.hid (by have := HG7.out.lt; omega)
                have HN6 : Hid (w8.heap.size ≤ g6) := Lib.hid (by rw [hg]; exact HK.out.size)
                have HG6 : Hid (Blk v51 g6 55 nil6) := Lib.hid (by rw [hw, hg]; exact blk0 _ _ _)
                have HC1 := Lib.hid (HC1.out.keep0 hk)
                have HS2 := Lib.hid (HS2.out.keep0 hk)
                have HG7 := Lib.hid (HG7.out.kp0 hk)
                have HK := Lib.hid (HK.out.tr hk)
                clear hw hg hk
                simp only [Act.put, List.getElem_toArray, List.getElem_cons_succ, List.getElem_cons_zero]
                refine hK (fun w' => Kp0 w8 w') _ _ (fun _ h => h) HK.out ?_
                clear hK K
                try simp only [List.setIfInBounds_toArray, List.set_cons_zero, List.set_cons_succ]
                refine px_eff rfl (by rfl) (fun K hK => ?_)
                go_simp
                refine (keys_any t (.slice e0 t.b0.length f0) (.slice e1 t.b1.length f1) (.slice e2 t.sh.length f2) (.slice e3 ls.length f3) ls v51 (HQ.out.kp0 (HB8.out.kp.tr HK.out)) (HC.out.kp0 (HB8.out.kp.tr HK.out)) (HU.out.kp0 HK.out) HS2.out HZ8.out HL8.out).mono ?_
                rintro e v52 ⟨ds, rfl, hm, hk⟩
                simp only []
                have HA26 : Hid (KsA ds g6) := Lib.hid (hm.off_old HG6.out.lt)
                have HA27 : Hid (KsA ds g7) := Lib.hid (hm.off_old HG7.out.lt)
                have HC1 := Lib.hid (HC1.out.keep0 hk)
                have HS2 := Lib.hid (HS2.out.keep0 hk)
                have HG6 := Lib.hid (HG6.out.kp0 hk)
                have HG7 := Lib.hid (HG7.out.kp0 hk)
                have HC2 := Lib.hid (hm.base (C := 0) (Nat.zero_le _))
                have HK := Lib.hid (HK.out.tr hk)
                clear hm hk
                refine hK (fun w' => Kp0 w8 w') _ _ (fun _ h => h) HK.out ?_
                clear hK K
                try simp only [List.setIfInBounds_toArray, List.set_cons_zero, List.set_cons_succ]
                refine px_wall rfl (by rfl) (fun K hK => ?_)
                refine wp_store_blk 55 (.tmp 6) (.tmp 36) rfl g6 _ nil6 cs rfl rfl HG6.out (HC1.out.info) HC1.out.len6 HC1.out.ones ?_
                intro va hA hk9
                have HC1 := Lib.hid (HC1.out.keepA hk9 HA16.out)
                have HC2 := Lib.hid (HC2.out.keepA hk9 HA26.out)
                have HG7 := Lib.hid (HG7.out.keep hk9 (fun e => HNE.out e.symm))
                have HG6 := Lib.hid hA
                have HK := Lib.hid (HK.out.trans hk9 (fun _ _ h => h) (fun i hi e => by have := HN6.out; omega))
                clear hA hk9
                refine hK (fun _ => True) _ _ trivial ?_
                clear hK K
                try simp only [Act.put]
                refine px_eff rfl (by rfl) (fun K hK => ?_)
                refine wp_store_blk 55 (.tmp 7) (.tmp 40) rfl g7 _ nil6 ds rfl rfl HG7.out (HC2.out.info) HC2.out.len6 HC2.out.ones ?_
                intro vb hA hk9
                have HC1 := Lib.hid (HC1.out.keepA hk9 HA17.out)
                have HC2 := Lib.hid (HC2.out.keepA hk9 HA27.out)
                have HG6 := Lib.hid (HG6.out.keep hk9 (fun e => HNE.out e))
                have HG7 := Lib.hid hA
                have HK := Lib.hid (HK.out.trans hk9 (fun _ _ h => h) (fun i hi e => by have := HN7.out; omega))
                clear hA hk9
                refine hK (fun _ => True) _ _ (fun _ h => h) trivial (px_done ?_)
                clear hK K
                try simp only [Act.put]
                go_wp2
                go_meet
                case rel =>
                  exact ⟨g6, g7, cs, ds, rfl, rfl, HG6, HG7, HC1, HC2, HK⟩
            · skip
              refine wp_alloc_as asKs rfl ?_
              intro v53 g6 hw hg
              have hk : Kp0 v47 v53 := by rw [hw]; exact (Kp.refl _ _).alloc _
              have HA16 : Hid (KsA cs g6) := Lib.hid (HC1.out.off_new (by rw [hg]; exact Nat.le_refl _))
              have HNE : Hid (g6 ≠ g7) := Lib.hid (by have := HG7.out.lt; omega)
              have HN6 : Hid (w8.heap.size ≤ g6) := Lib.hid (by rw [hg]; exact HK.out.size)
              have HG6 : Hid (Blk v53 g6 55 nil6) := Lib.hid (by rw [hw, hg]; exact blk0 _ _ _)
              have HC1 := Lib.hid (HC1.out.keep0 hk)
              have HG7 := Lib.hid (HG7.out.kp0 hk)
              have HK := Lib.hid (HK.out.tr hk)
              clear hw hg hk
              simp only [Act.put, List.getElem_toArray, List.getElem_cons_succ, List.getElem_cons_zero]
              refine hK (fun w' => Kp0 w8 w') _ _ (fun _ h => h) HK.out ?_
              clear hK K
              try simp only [List.setIfInBounds_toArray, List.set_cons_zero, List.set_cons_succ]
              refine px_eff rfl (by rfl) (fun K hK => ?_)
              refine append_new (x := .tmp 38) (y := .slice sq ls.length sc) (l := ls) ?_ ?_ ?_ ?_ ?_
              rfl
              rfl
              exact HS.out.keep0 (HB8.out.kp.tr HK.out)
              exact HLA.out
              intro e3 f3 v54 hr hb hk
              have HC1 := Lib.hid (HC1.out.keep0 hk)
              have HG6 := Lib.hid (HG6.out.kp0 hk)
              have HG7 := Lib.hid (HG7.out.kp0 hk)
              have HS2 := Lib.hid hr
              have HK := Lib.hid (HK.out.tr hk)
              clear hr hb hk
              simp only [Act.put, List.getElem_toArray, List.getElem_cons_succ, List.getElem_cons_zero]
              refine hK (fun w' => Kp0 w8 w') _ _ (fun _ h => h) HK.out ?_
              clear hK K
              try simp only [List.setIfInBounds_toArray, List.set_cons_zero, List.set_cons_succ]
              refine px_eff rfl (by rfl) (fun K hK => ?_)
              go_simp
              refine (keys_any t (.slice e0 t.b0.length f0) (.slice e1 t.b1.length f1) (.slice e2 t.sh.length f2) (.slice e3 ls.length f3) ls v54 (HQ.out.kp0 (HB8.out.kp.tr HK.out)) (HC.out.kp0 (HB8.out.kp.tr HK.out)) (HU.out.kp0 HK.out) HS2.out HZ8.out HL8.out).mono ?_
              rintro e v55 ⟨ds, rfl, hm, hk⟩
              simp only []
              have HA26 : Hid (KsA ds g6) := Lib.hid (hm.off_old HG6.out.lt)
              have HA27 : Hid (KsA ds g7) := Lib.hid (hm.off_old HG7.out.lt)
              have HC1 := Lib.hid (HC1.out.keep0 hk)
              have HS2 := Lib.hid (HS2.out.keep0 hk)
              have HG6 := Lib.hid (HG6.out.kp0 hk)
              have HG7 := Lib.hid (HG7.out.kp0 hk)
              have HC2 := Lib.hid (hm.base (C := 0) (Nat.zero_le _))
              have HK := Lib.hid (HK.out.tr hk)
              clear hm hk
              refine hK (fun w' => Kp0 w8 w') _ _ (fun _ h => h) HK.out ?_
              clear hK K
              try simp only [List.setIfInBounds_toArray, List.set_cons_zero, List.set_cons_succ]
              refine px_wall rfl (by rfl) (fun K hK => ?_)
              refine wp_store_blk 55 (.tmp 6) (.tmp 36) rfl g6 _ nil6 cs rfl rfl HG6.out (HC1.out.info) HC1.out.len6 HC1.out.ones ?_
              intro va hA hk9
              have HC1 := Lib.hid (HC1.out.keepA hk9 HA16.out)
              have HC2 := Lib.hid (HC2.out.keepA hk9 HA26.out)
              have HG7 := Lib.hid (HG7.out.keep hk9 (fun e => HNE.out e.symm))
              have HG6 := Lib.hid hA
              have HK := Lib.hid (HK.out.trans hk9 (fun _ _ h => h) (fun i hi e => by have := HN6.out; omega))
              clear hA hk9
              refine hK (fun _ => True) _ _ trivial ?_
              clear hK K
              try simp only [Act.put]
              refine px_eff rfl (by rfl) (fun K hK => ?_)
              refine wp_store_blk 55 (.tmp 7) (.tmp 40) rfl g7 _ nil6 ds rfl rfl HG7.out (HC2.out.info) HC2.out.len6 HC2.out.ones ?_
              intro vb hA hk9
              have HC1 := Lib.hid (HC1.out.keepA hk9 HA17.out)
              have HC2 := Lib.hid (HC2.out.keepA hk9 HA27.out)
              have HG6 := Lib.hid (HG6.out.keep hk9 (fun e => HNE.out e))
              have HG7 := Lib.hid hA
              have HK := Lib.hid (HK.out.trans hk9 (fun _ _ h => h) (fun i hi e => by have := HN7.out; omega))
              clear hA hk9
              refine hK (fun _ => True) _ _ (fun _ h => h) trivial (px_done ?_)
              clear hK K
              try simp only [Act.put]
              go_wp2
              go_meet
              case rel =>
                exact ⟨g6, g7, cs, ds, rfl, rfl, HG6, HG7, HC1, HC2, HK⟩
        · skip
          refine wp_alloc_as asKs rfl ?_
          intro v56 g6 hw hg
          have hk : Kp0 v0 v56 := by rw [hw]; exact (Kp.refl _ _).alloc _
          have HN6 : Hid (w8.heap.size ≤ g6) := Lib.hid (by rw [hg]; exact HK.out.size)
          have HG6 : Hid (Blk v56 g6 55 nil6) := Lib.hid (by rw [hw, hg]; exact blk0 _ _ _)
          have HK := Lib.hid (HK.out.tr hk)
          clear hw hg hk
          simp only [Act.put, List.getElem_toArray, List.getElem_cons_succ, List.getElem_cons_zero]
          refine hK (fun w' => Kp0 w8 w') _ _ (fun _ h => h) HK.out ?_
          clear hK K
          try simp only [List.setIfInBounds_toArray, List.set_cons_zero, List.set_cons_succ]
          refine ⟨px_one rfl (by rfl) (fun K hK => ?_), px_one rfl (by rfl) (fun K hK => ?_)⟩
          · skip
            go_simp
            refine (keys_any t (.slice a0 t.b0.length d0) (.slice a1 t.b1.length d1) (.slice a2 t.sh.length d2) (.slice sq ls.length sc) ls v56 (HQ.out.kp0 (HB8.out.kp.tr HK.out)) (HC.out.kp0 (HB8.out.kp.tr HK.out)) (HT.out.kp0 (HB8.out.kp.tr HK.out)) (HS.out.keep0 (HB8.out.kp.tr HK.out)) HZ8.out HL8.out).mono ?_
            rintro e v57 ⟨cs, rfl, hm, hk⟩
            simp only []
            have HA16 : Hid (KsA cs g6) := Lib.hid (hm.off_old HG6.out.lt)
            have HG6 := Lib.hid (HG6.out.kp0 hk)
            have HC1 := Lib.hid (hm.base (C := 0) (Nat.zero_le _))
            have HK := Lib.hid (HK.out.tr hk)
            clear hm hk
            refine hK (fun w' => Kp0 w8 w') _ _ (fun _ h => h) HK.out ?_
            clear hK K
            try simp only [List.setIfInBounds_toArray, List.set_cons_zero, List.set_cons_succ]
            refine ⟨px_one rfl (by rfl) (fun K hK => ?_), px_one rfl (by rfl) (fun K hK => ?_)⟩
            · skip
              refine append_new (x := .tmp 38) (y := .slice sq ls.length sc) (l := ls) ?_ ?_ ?_ ?_ ?_
              rfl
              rfl
              exact HS.out.keep0 (HB8.out.kp.tr HK.out)
              exact HLA.out
              intro e3 f3 v58 hr hb hk
              have HC1 := Lib.hid (HC1.out.keep0 hk)
              have HG6 := Lib.hid (HG6.out.kp0 hk)
              have HS2 := Lib.hid hr
              have HK := Lib.hid (HK.out.tr hk)
              clear hr hb hk
              simp only [Act.put, List.getElem_toArray, List.getElem_cons_succ, List.getElem_cons_zero]
              refine hK (fun w' => Kp0 w8 w') _ _ (fun _ h => h) HK.out ?_
              clear hK K
              try simp only [List.setIfInBounds_toArray, List.set_cons_zero, List.set_cons_succ]
              refine ⟨px_one rfl (by rfl) (fun K hK => ?_), px_one rfl (by rfl) (fun K hK => ?_)⟩
              · skip
                go_simp
                refine (keys_any t (.slice e0 t.b0.length f0) (.slice e1 t.b1.length f1) (.slice e2 t.sh.length f2) (.slice e3 ls.length f3) ls v58 (HQ.out.kp0 (HB8.out.kp.tr HK.out)) (HC.out.kp0 (HB8.out.kp.tr HK.out)) (HU.out.kp0 HK.out) HS2.out HZ8.out HL8.out).mono ?_
                rintro e v59 ⟨ds, rfl, hm, hk⟩
                simp only []
                have HA26 : Hid (KsA ds g6) := Lib.hid (hm.off_old HG6.out.lt)
                have HC1 := Lib.hid (HC1.out.keep0 hk)
                have HS2 := Lib.hid (HS2.out.keep0 hk)
                have HG6 := Lib.hid (HG6.out.kp0 hk)
                have HC2 := Lib.hid (hm.base (C := 0) (Nat.zero_le _))
                have HK := Lib.hid (HK.out.tr hk)
                clear hm hk
                refine hK (fun w' => Kp0 w8 w') _ _ (fun _ h => h) HK.out ?_
                clear hK K
                try simp only [List.setIfInBounds_toArray, List.set_cons_zero, List.set_cons_succ]
                refine px_eff rfl (by rfl) (fun K hK => ?_)
                refine wp_alloc_as asKs rfl ?_
                intro v60 g7 hw hg
                have hk : Kp0 v59 v60 := by rw [hw]; exact (Kp.refl _ _).alloc _
                have HA17 : Hid (KsA cs g7) := Lib.hid (HC1.out.off_new (by rw [hg]; exact Nat.le_refl _))
                have HA27 : Hid (KsA ds g7) := Lib.hid (HC2.out.off_new (by rw [hg]; exact Nat.le_refl _))
                have HNE : Hid (g6 ≠ g7) := Lib.hid (by have := HG6.out.lt; omega)
                have HN7 : Hid (w8.heap.size ≤ g7) := Lib.hid (by rw [hg]; exact HK.out.size)
                have HG7 : Hid (Blk v60 g7 55 nil6) := Lib.hid (by rw [hw, hg]; exact blk0 _ _ _)
                have HC1 := Lib.hid (HC1.out.keep0 hk)
                have HC2 := Lib.hid (HC2.out.keep0 hk)
                have HG6 := Lib.hid (HG6.out.kp0 hk)
                have HK := Lib.hid (HK.out.tr hk)
                clear hw hg hk
                simp only [Act.put, List.getElem_toArray, List.getElem_cons_succ, List.getElem_cons_zero]
                refine hK (fun w' => Kp0 w8 w') _ _ (fun _ h => h) HK.out ?_
                clear hK K
                try simp only [List.setIfInBounds_toArray, List.set_cons_zero, List.set_cons_succ]
                refine px_wall rfl (by rfl) (fun K hK => ?_)
                refine wp_store_blk 55 (.tmp 6) (.tmp 36) rfl g6 _ nil6 cs rfl rfl HG6.out (HC1.out.info) HC1.out.len6 HC1.out.ones ?_
                intro va hA hk9
                have HC1 := Lib.hid (HC1.out.keepA hk9 HA16.out)
                have HC2 := Lib.hid (HC2.out.keepA hk9 HA26.out)
                have HG7 := Lib.hid (HG7.out.keep hk9 (fun e => HNE.out e.symm))
                have HG6 := Lib.hid hA
                have HK := Lib.hid (HK.out.trans hk9 (fun _ _ h => h) (fun i hi e => by have := HN6.out; omega))
                clear hA hk9
                refine hK (fun _ => True) _ _ trivial ?_
                clear hK K
                try simp only [Act.put]
                refine px_eff rfl (by rfl) (fun K hK => ?_)
                refine wp_store_blk 55 (.tmp 7) (.tmp 40) rfl g7 _ nil6 ds rfl rfl HG7.out (HC2.out.info) HC2.out.len6 HC2.out.ones ?_
                intro vb hA hk9
                have HC1 := Lib.hid (HC1.out.keepA hk9 HA17.out)
                have HC2 := Lib.hid (HC2.out.keepA hk9 HA27.out)
                have HG6 := Lib.hid (HG6.out.keep hk9 (fun e => HNE.out e))
                have HG7 := Lib.hid hA
                have HK := Lib.hid (HK.out.trans hk9 (fun _ _ h => h) (fun i hi e => by have := HN7.out; omega))
                clear hA hk9
                refine hK (fun _ => True) _ _ (fun _ h => h) trivial (px_done ?_)
                clear hK K
                try simp only [Act.put]
                go_wp2
                go_meet
                case rel =>
                  exact ⟨g6, g7, cs, ds, rfl, rfl, HG6, HG7, HC1, HC2, HK⟩
              · skip
                refine wp_alloc_as asKs rfl ?_
                intro v61 g7 hw hg
                have hk : Kp0 v58 v61 := by rw [hw]; exact (Kp.refl _ _).alloc _
                have HA17 : Hid (KsA cs g7) := Lib.hid (HC1.out.off_new (by rw [hg]; exact Nat.le_refl _))
                have HNE : Hid (g6 ≠ g7) := Lib.hid (by have := HG6.out.lt; omega)
                have HN7 : Hid (w8.heap.size ≤ g7) := Lib.hid (by rw [hg]; exact HK.out.size)
                have HG7 : Hid (Blk v61 g7 55 nil6) := Lib.hid (by rw [hw, hg]; exact blk0 _ _ _)
                have HC1 := Lib.hid (HC1.out.keep0 hk)
                have HS2 := Lib.hid (HS2.out.keep0 hk)
                have HG6 := Lib.hid (HG6.out.kp0 hk)
                have HK := Lib.hid (HK.out.tr hk)
                clear hw hg hk
                simp only [Act.put, List.getElem_toArray, List.getElem_cons_succ, List.getElem_cons_zero]
                refine hK (fun w' => Kp0 w8 w') _ _ (fun _ h => h) HK.out ?_
                clear hK K
                try simp only [List.setIfInBounds_toArray, List.set_cons_zero, List.set_cons_succ]
                refine px_eff rfl (by rfl) (fun K hK => ?_)
                go_simp
                refine (keys_any t (.slice e0 t.b0.length f0) (.slice e1 t.b1.length f1) (.slice e2 t.sh.length f2) (.slice e3 ls.length f3) ls v61 (HQ.out.kp0 (HB8.out.kp.tr HK.out)) (HC.out.kp0 (HB8.out.kp.tr HK.out)) (HU.out.kp0 HK.out) HS2.out HZ8.out HL8.out).mono ?_
                rintro e v62 ⟨ds, rfl, hm, hk⟩
                simp only []
                have HA26 : Hid (KsA ds g6) := Lib.hid (hm.off_old HG6.out.lt)
                have HA27 : Hid (KsA ds g7) := Lib.hid (hm.off_old HG7.out.lt)
                have HC1 := Lib.hid (HC1.out.keep0 hk)
                have HS2 := Lib.hid (HS2.out.keep0 hk)
                have HG6 := Lib.hid (HG6.out.kp0 hk)
                have HG7 := Lib.hid (HG7.out.kp0 hk)
                have HC2 := Lib.hid (hm.base (C := 0) (Nat.zero_le _))
                have HK := Lib.hid (HK.out.tr hk)
                clear hm hk
                refine hK (fun w' => Kp0 w8 w') _ _ (fun _ h => h) HK.out ?_
                clear hK K
                try simp only [List.setIfInBounds_toArray, List.set_cons_zero, List.set_cons_succ]
                refine px_wall rfl (by rfl) (fun K hK => ?_)
                refine wp_store_blk 55 (.tmp 6) (.tmp 36) rfl g6 _ nil6 cs rfl rfl HG6.out (HC1.out.info) HC1.out.len6 HC1.out.ones ?_
                intro va hA hk9
                have HC1 := Lib.hid (HC1.out.keepA hk9 HA16.out)
                have HC2 := Lib.hid (HC2.out.keepA hk9 HA26.out)
                have HG7 := Lib.hid (HG7.out.keep hk9 (fun e => HNE.out e.symm))
                have HG6 := Lib.hid hA
                have HK := Lib.hid (HK.out.trans hk9 (fun _ _ h => h) (fun i hi e => by have := HN6.out; omega))
                clear hA hk9
                refine hK (fun _ => True) _ _ trivial ?_
                clear hK K
                try simp only [Act.put]
                refine px_eff rfl (by rfl) (fun K hK => ?_)
                refine wp_store_blk 55 (.tmp 7) (.tmp 40) rfl g7 _ nil6 ds rfl rfl HG7.out (HC2.out.info) HC2.out.len6 HC2.out.ones ?_
                intro vb hA hk9
                have HC1 := Lib.hid (HC1.out.keepA hk9 HA17.out)
                have HC2 := Lib.hid (HC2.out.keepA hk9 HA27.out)
                have HG6 := Lib.hid (HG6.out.keep hk9 (fun e => HNE.out e))
                have HG7 := Lib.hid hA
                have HK := Lib.hid (HK.out.trans hk9 (fun _ _ h => h) (fun i hi e => by have := HN7.out; omega))
                clear hA hk9
                refine hK (fun _ => True) _ _ (fun _ h => h) trivial (px_done ?_)
                clear hK K
                try simp only [Act.put]
                go_wp2
                go_meet
                case rel =>
                  exact ⟨g6, g7, cs, ds, rfl, rfl, HG6, HG7, HC1, HC2, HK⟩
            · skip
              refine wp_alloc_as asKs rfl ?_
              intro v63 g7 hw hg
              have hk : Kp0 v57 v63 := by rw [hw]; exact (Kp.refl _ _).alloc _
              have HA17 : Hid (KsA cs g7) := Lib.hid (HC1.out.off_new (by rw [hg]; exact Nat.le_refl _))
              have HNE : Hid (g6 ≠ g7) := Lib.hid (by have := HG6.out.lt; omega)
              have HN7 : Hid (w8.heap.size ≤ g7) := Lib.hid (by rw [hg]; exact HK.out.size)
              have HG7 : Hid (Blk v63 g7 55 nil6) := Lib.hid (by rw [hw, hg]; exact blk0 _ _ _)
              have HC1 := Lib.hid (HC1.out.keep0 hk)
              have HG6 := Lib.hid (HG6.out.kp0 hk)
              have HK := Lib.hid (HK.out.tr hk)
              clear hw hg hk
              simp only [Act.put, List.getElem_toArray, List.getElem_cons_succ, List.getElem_cons_zero]
              refine hK (fun w' => Kp0 w8 w') _ _ (fun _ h => h) HK.out ?_
              clear hK K
              try simp only [List.setIfInBounds_toArray, List.set_cons_zero, List.set_cons_succ]
              refine px_eff rfl (by rfl) (fun K hK => ?_)
              refine append_new (x := .tmp 38) (y := .slice sq ls.length sc) (l := ls) ?_ ?_ ?_ ?_ ?_
              rfl
              rfl
              exact HS.out.keep0 (HB8.out.kp.tr HK.out)
              exact HLA.out
              intro e3 f3 v64 hr hb hk
              have HC1 := Lib.hid (HC1.out.keep0 hk)
              have HG6 := Lib.hid (HG6.out.kp0 hk)
              have HG7 := Lib.hid (HG7.out.kp0 hk)
              have HS2 := Lib.hid hr
              have HK := Lib.hid (HK.out.tr hk)
              clear hr hb hk
              simp only [Act.put, List.getElem_toArray, List.getElem_cons_succ, List.getElem_cons_zero]
              refine hK (fun w' => Kp0 w8 w') _ _ (fun _ h => h) HK.out ?_
              clear hK K
              try simp only [List.setIfInBounds_toArray, List.set_cons_zero, List.set_cons_succ]
              refine px_eff rfl (by rfl) (fun K hK => ?_)
              go_simp
              refine (keys_any t (.slice e0 t.b0.length f0) (.slice e1 t.b1.length f1) (.slice e2 t.sh.length f2) (.slice e3 ls.length f3) ls v64 (HQ.out.kp0 (HB8.out.kp.tr HK.out)) (HC.out.kp0 (HB8.out.kp.tr HK.out)) (HU.out.kp0 HK.out) HS2.out HZ8.out HL8.out).mono ?_
              rintro e v65 ⟨ds, rfl, hm, hk⟩
              simp only []
              have HA26 : Hid (KsA ds g6) := Lib.hid (hm.off_old HG6.out.lt)
              have HA27 : Hid (KsA ds g7) := Lib.hid (hm.off_old HG7.out.lt)
              have HC1 := Lib.hid (HC1.out.keep0 hk)
              have HS2 := Lib.hid (HS2.out.keep0 hk)
              have HG6 := Lib.hid (HG6.out.kp0 hk)
              have HG7 := Lib.hid (HG7.out.kp0 hk)
              have HC2 := Lib.hid (hm.base (C := 0) (Nat.zero_le _))
              have HK := Lib.hid (HK.out.tr hk)
              clear hm hk
              refine hK (fun w' => Kp0 w8 w') _ _ (fun _ h => h) HK.out ?_
              clear hK K
              try simp only [List.setIfInBounds_toArray, List.set_cons_zero, List.set_cons_succ]
              refine px_wall rfl (by rfl) (fun K hK => ?_)
              refine wp_store_blk 55 (.tmp 6) (.tmp 36) rfl g6 _ nil6 cs rfl rfl HG6.out (HC1.out.info) HC1.out.len6 HC1.out.ones ?_
              intro va hA hk9
              have HC1 := Lib.hid (HC1.out.keepA hk9 HA16.out)
              have HC2 := Lib.hid (HC2.out.keepA hk9 HA26.out)
              have HG7 := Lib.hid (HG7.out.keep hk9 (fun e => HNE.out e.symm))
              have HG6 := Lib.hid hA
              have HK := Lib.hid (HK.out.trans hk9 (fun _ _ h => h) (fun i hi e => by have := HN6.out; omega))
              clear hA hk9
              refine hK (fun _ => True) _ _ trivial ?_
              clear hK K
              try simp only [Act.put]
              refine px_eff rfl (by rfl) (fun K hK => ?_)
              refine wp_store_blk 55 (.tmp 7) (.tmp 40) rfl g7 _ nil6 ds rfl rfl HG7.out (HC2.out.info) HC2.out.len6 HC2.out.ones ?_
              intro vb hA hk9
              have HC1 := Lib.hid (HC1.out.keepA hk9 HA17.out)
              have HC2 := Lib.hid (HC2.out.keepA hk9 HA27.out)
              have HG6 := Lib.hid (HG6.out.keep hk9 (fun e => HNE.out e))
              have HG7 := Lib.hid hA
              have HK := Lib.hid (HK.out.trans hk9 (fun _ _ h => h) (fun i hi e => by have := HN7.out; omega))
              clear hA hk9
              refine hK (fun _ => True) _ _ (fun _ h => h) trivial (px_done ?_)
              clear hK K
              try simp only [Act.put]
              go_wp2
              go_meet
              case rel =>
                exact ⟨g6, g7, cs, ds, rfl, rfl, HG6, HG7, HC1, HC2, HK⟩
          · skip
            refine wp_alloc_as asKs rfl ?_
            intro v66 g7 hw hg
            have hk : Kp0 v56 v66 := by rw [hw]; exact (Kp.refl _ _).alloc _
            have HNE : Hid (g6 ≠ g7) := Lib.hid (by have := HG6.out.lt; omega)
            have HN7 : Hid (w8.heap.size ≤ g7) := Lib.hid (by rw [hg]; exact HK.out.size)
            have HG7 : Hid (Blk v66 g7 55 nil6) := Lib.hid (by rw [hw, hg]; exact blk0 _ _ _)
            have HG6 := Lib.hid (HG6.out.kp0 hk)
            have HK := Lib.hid (HK.out.tr hk)
            clear hw hg hk
            simp only [Act.put, List.getElem_toArray, List.getElem_cons_succ, List.getElem_cons_zero]
            refine hK (fun w' => Kp0 w8 w') _ _ (fun _ h => h) HK.out ?_
            clear hK K
            try simp only [List.setIfInBounds_toArray, List.set_cons_zero, List.set_cons_succ]
            refine px_eff rfl (by rfl) (fun K hK => ?_)
            go_simp
            refine (keys_any t (.slice a0 t.b0.length d0) (.slice a1 t.b1.length d1) (.slice a2 t.sh.length d2) (.slice sq ls.length sc) ls v66 (HQ.out.kp0 (HB8.out.kp.tr HK.out)) (HC.out.kp0 (HB8.out.kp.tr HK.out)) (HT.out.kp0 (HB8.out.kp.tr HK.out)) (HS.out.keep0 (HB8.out.kp.tr HK.out)) HZ8.out HL8.out).mono ?_
            rintro e v67 ⟨cs, rfl, hm, hk⟩
            simp only []
            have HA16 : Hid (KsA cs g6) := Lib.hid (hm.off_old HG6.out.lt)
            have HA17 : Hid (KsA cs g7) := Lib.hid (hm.off_old HG7.out.lt)
            have HG6 := Lib.hid (HG6.out.kp0 hk)
            have HG7 := Lib.hid (HG7.out.kp0 hk)
            have HC1 := Lib.hid (hm.base (C := 0) (Nat.zero_le _))
            have HK := Lib.hid (HK.out.tr hk)
            clear hm hk
            refine hK (fun w' => Kp0 w8 w') _ _ (fun _ h => h) HK.out ?_
            clear hK K
            try simp only [List.setIfInBounds_toArray, List.set_cons_zero, List.set_cons_succ]
            refine px_eff rfl (by rfl) (fun K hK => ?_)
            refine append_new (x := .tmp 38) (y := .slice sq ls.length sc) (l := ls) ?_ ?_ ?_ ?_ ?_
            rfl
            rfl
            exact HS.out.keep0 (HB8.out.kp.tr HK.out)
            exact HLA.out
            intro e3 f3 v68 hr hb hk
            have HC1 := Lib.hid (HC1.out.keep0 hk)
            have HG6 := Lib.hid (HG6.out.kp0 hk)
            have HG7 := Lib.hid (HG7.out.kp0 hk)
            have HS2 := Lib.hid hr
            have HK := Lib.hid (HK.out.tr hk)
            clear hr hb hk
            simp only [Act.put, List.getElem_toArray, List.getElem_cons_succ, List.getElem_cons_zero]
            refine hK (fun w' => Kp0 w8 w') _ _ (fun _ h => h) HK.out ?_
            clear hK K
            try simp only [List.setIfInBounds_toArray, List.set_cons_zero, List.set_cons_succ]
            refine px_eff rfl (by rfl) (fun K hK => ?_)
            go_simp
            refine (keys_any t (.slice e0 t.b0.length f0) (.slice e1 t.b1.length f1) (.slice e2 t.sh.length f2) (.slice e3 ls.length f3) ls v68 (HQ.out.kp0 (HB8.out.kp.tr HK.out)) (HC.out.kp0 (HB8.out.kp.tr HK.out)) (HU.out.kp0 HK.out) HS2.out HZ8.out HL8.out).mono ?_
            rintro e v69 ⟨ds, rfl, hm, hk⟩
            simp only []
            have HA26 : Hid (KsA ds g6) := Lib.hid (hm.off_old HG6.out.lt)
            have HA27 : Hid (KsA ds g7) := Lib.hid (hm.off_old HG7.out.lt)
            have HC1 := Lib.hid (HC1.out.keep0 hk)
            have HS2 := Lib.hid (HS2.out.keep0 hk)
            have HG6 := Lib.hid (HG6.out.kp0 hk)
            have HG7 := Lib.hid (HG7.out.kp0 hk)
            have HC2 := Lib.hid (hm.base (C := 0) (Nat.zero_le _))
            have HK := Lib.hid (HK.out.tr hk)
            clear hm hk
            refine hK (fun w' => Kp0 w8 w') _ _ (fun _ h => h) HK.out ?_
            clear hK K
            try simp only [List.setIfInBounds_toArray, List.set_cons_zero, List.set_cons_succ]
            refine px_wall rfl (by rfl) (fun K hK => ?_)
            refine wp_store_blk 55 (.tmp 6) (.tmp 36) rfl g6 _ nil6 cs rfl rfl HG6.out (HC1.out.info) HC1.out.len6 HC1.out.ones ?_
            intro va hA hk9
            have HC1 := Lib.hid (HC1.out.keepA hk9 HA16.out)
            have HC2 := Lib.hid (HC2.out.keepA hk9 HA26.out)
            have HG7 := Lib.hid (HG7.out.keep hk9 (fun e => HNE.out e.symm))
            have HG6 := Lib.hid hA
            have HK := Lib.hid (HK.out.trans hk9 (fun _ _ h => h) (fun i hi e => by have := HN6.out; omega))
            clear hA hk9
            refine hK (fun _ => True) _ _ trivial ?_
            clear hK K
            try simp only [Act.put]
            refine px_eff rfl (by rfl) (fun K hK => ?_)
            refine wp_store_blk 55 (.tmp 7) (.tmp 40) rfl g7 _ nil6 ds rfl rfl HG7.out (HC2.out.info) HC2.out.len6 HC2.out.ones ?_
            intro vb hA hk9
            have HC1 := Lib.hid (HC1.out.keepA hk9 HA17.out)
            have HC2 := Lib.hid (HC2.out.keepA hk9 HA27.out)
            have HG6 := Lib.hid (HG6.out.keep hk9 (fun e => HNE.out e))
            have HG7 := Lib.hid hA
            have HK := Lib.hid (HK.out.trans hk9 (fun _ _ h => h) (fun i hi e => by have := HN7.out; omega))
            clear hA hk9
            refine hK (fun _ => True) _ _ (fun _ h => h) trivial (px_done ?_)
            clear hK K
            try simp only [Act.put]
            go_wp2
            go_meet
            case rel =>
              exact ⟨g6, g7, cs, ds, rfl, rfl, HG6, HG7, HC1, HC2, HK⟩
        · skip
          refine wp_alloc_as asKs rfl ?_
          intro v70 g7 hw hg
          have hk : Kp0 v0 v70 := by rw [hw]; exact (Kp.refl _ _).alloc _
          have HN7 : Hid (w8.heap.size ≤ g7) := Lib.hid (by rw [hg]; exact HK.out.size)
          have HG7 : Hid (Blk v70 g7 55 nil6) := Lib.hid (by rw [hw, hg]; exact blk0 _ _ _)
          have HK := Lib.hid (HK.out.tr hk)
          clear hw hg hk
          simp only [Act.put, List.getElem_toArray, List.getElem_cons_succ, List.getElem_cons_zero]
          refine hK (fun w' => Kp0 w8 w') _ _ (fun _ h => h) HK.out ?_
          clear hK K
          try simp only [List.setIfInBounds_toArray, List.set_cons_zero, List.set_cons_succ]
          refine ⟨px_one rfl (by rfl) (fun K hK => ?_), px_one rfl (by rfl) (fun K hK => ?_)⟩
          · skip
            go_simp
            refine (keys_any t (.slice a0 t.b0.length d0) (.slice a1 t.b1.length d1) (.slice a2 t.sh.length d2) (.slice sq ls.length sc) ls v70 (HQ.out.kp0 (HB8.out.kp.tr HK.out)) (HC.out.kp0 (HB8.out.kp.tr HK.out)) (HT.out.kp0 (HB8.out.kp.tr HK.out)) (HS.out.keep0 (HB8.out.kp.tr HK.out)) HZ8.out HL8.out).mono ?_
            rintro e v71 ⟨cs, rfl, hm, hk⟩
            simp only []
            have HA17 : Hid (KsA cs g7) := Lib.hid (hm.off_old HG7.out.lt)
            have HG7 := Lib.hid (HG7.out.kp0 hk)
            have HC1 := Lib.hid (hm.base (C := 0) (Nat.zero_le _))
            have HK := Lib.hid (HK.out.tr hk)
            clear hm hk
            refine hK (fun w' => Kp0 w8 w') _ _ (fun _ h => h) HK.out ?_
            clear hK K
            try simp only [List.setIfInBounds_toArray, List.set_cons_zero, List.set_cons_succ]
            refine ⟨px_one rfl (by rfl) (fun K hK => ?_), px_one rfl (by rfl) (fun K hK => ?_)⟩
            · skip
              refine append_new (x := .tmp 38) (y := .slice sq ls.length sc) (l := ls) ?_ ?_ ?_ ?_ ?_
              rfl
              rfl
              exact HS.out.keep0 (HB8.out.kp.tr HK.out)
              exact HLA.out
              intro e3 f3 v72 hr hb hk
              have HC1 := Lib.hid (HC1.out.keep0 hk)
              have HG7 := Lib.hid (HG7.out.kp0 hk)
              have HS2 := Lib.hid hr
              have HK := Lib.hid (HK.out.tr hk)
              clear hr hb hk
              simp only [Act.put, List.getElem_toArray, List.getElem_cons_succ, List.getElem_cons_zero]
              refine hK (fun w' => Kp0 w8 w') _ _ (fun _ h => h) HK.out ?_
              clear hK K
              try simp only [List.setIfInBounds_toArray, List.set_cons_zero, List.set_cons_succ]
              refine ⟨px_one rfl (by rfl) (fun K hK => ?_), px_one rfl (by rfl) (fun K hK => ?_)⟩
              · skip
                go_simp
                refine (keys_any t (.slice e0 t.b0.length f0) (.slice e1 t.b1.length f1) (.slice e2 t.sh.length f2) (.slice e3 ls.length f3) ls v72 (HQ.out.kp0 (HB8.out.kp.tr HK.out)) (HC.out.kp0 (HB8.out.kp.tr HK.out)) (HU.out.kp0 HK.out) HS2.out HZ8.out HL8.out).mono ?_
                rintro e v73 ⟨ds, rfl, hm, hk⟩
                simp only []
                have HA27 : Hid (KsA ds g7) := Lib.hid (hm.off_old HG7.out.lt)
                have HC1 := Lib.hid (HC1.out.keep0 hk)
                have HS2 := Lib.hid (HS2.out.keep0 hk)
                have HG7 := Lib.hid (HG7.out.kp0 hk)
                have HC2 := Lib.hid (hm.base (C := 0) (Nat.zero_le _))
                have HK := Lib.hid (HK.out.tr hk)
                clear hm hk
                refine hK (fun w' => Kp0 w8 w') _ _ (fun _ h => h) HK.out ?_
                clear hK K
                try simp only [List.setIfInBounds_toArray, List.set_cons_zero, List.set_cons_succ]
                refine px_eff rfl (by rfl) (fun K hK => ?_)
                refine wp_alloc_as asKs rfl ?_
                intro v74 g6 hw hg
                have hk : Kp0 v73 v74 := by rw [hw]; exact (Kp.refl _ _).alloc _
                have HA16 : Hid (KsA cs g6) := Lib.hid (HC1.out.off_new (by rw [hg]; exact Nat.le_refl _))
                have HA26 : Hid (KsA ds g6) := Lib.hid (HC2.out.off_new (by rw [hg]; exact Nat.le_refl _))
                have HNE : Hid (g6 ≠ g7) := Lib.hid (by have := HG7.out.lt; omega)
                have HN6 : Hid (w8.heap.size ≤ g6) := Lib.hid (by rw [hg]; exact HK.out.size)
                have HG6 : Hid (Blk v74 g6 55 nil6) := Lib.hid (by rw [hw, hg]; exact blk0 _ _ _)
                have HC1 := Lib.hid (HC1.out.keep0 hk)
                have HC2 := Lib.hid (HC2.out.keep0 hk)
                have HG7 := Lib.hid (HG7.out.kp0 hk)
                have HK := Lib.hid (HK.out.tr hk)
                clear hw hg hk
                simp only [Act.put, List.getElem_toArray, List.getElem_cons_succ, List.getElem_cons_zero]
                refine hK (fun w' => Kp0 w8 w') _ _ (fun _ h => h) HK.out ?_
                clear hK K
                try simp only [List.setIfInBounds_toArray, List.set_cons_zero, List.set_cons_succ]
                refine px_wall rfl (by rfl) (fun K hK => ?_)
                refine wp_store_blk 55 (.tmp 6) (.tmp 36) rfl g6 _ nil6 cs rfl rfl HG6.out (HC1.out.info) HC1.out.len6 HC1.out.ones ?_
                intro va hA hk9
                have HC1 := Lib.hid (HC1.out.keepA hk9 HA16.out)
                have HC2 := Lib.hid (HC2.out.keepA hk9 HA26.out)
                have HG7 := Lib.hid (HG7.out.keep hk9 (fun e => HNE.out e.symm))
                have HG6 := Lib.hid hA
                have HK := Lib.hid (HK.out.trans hk9 (fun _ _ h => h) (fun i hi e => by have := HN6.out; omega))
                clear hA hk9
                refine hK (fun _ => True) _ _ trivial ?_
                clear hK K
                try simp only [Act.put]
                refine px_eff rfl (by rfl) (fun K hK => ?_)
                refine wp_store_blk 55 (.tmp 7) (.tmp 40) rfl g7 _ nil6 ds rfl rfl HG7.out (HC2.out.info) HC2.out.len6 HC2.out.ones ?_
                intro vb hA hk9
                have HC1 := Lib.hid (HC1.out.keepA hk9 HA17.out)
                have HC2 := Lib.hid (HC2.out.keepA hk9 HA27.out)
                have HG6 := Lib.hid (HG6.out.keep hk9 (fun e => HNE.out e))
                have HG7 := Lib.hid hA
                have HK := Lib.hid (HK.out.trans hk9 (fun _ _ h => h) (fun i hi e => by have := HN7.out; omega))
                clear hA hk9
                refine hK (fun _ => True) _ _ (fun _ h => h) trivial (px_done ?_)
                clear hK K
                try simp only [Act.put]
                go_wp2
                go_meet
                case rel =>
                  exact ⟨g6, g7, cs, ds, rfl, rfl, HG6, HG7, HC1, HC2, HK⟩
              · skip
                refine wp_alloc_as asKs rfl ?_
                intro v75 g6 hw hg
                have hk : Kp0 v72 v75 := by rw [hw]; exact (Kp.refl _ _).alloc _
                have HA16 : Hid (KsA cs g6) := Lib.hid (HC1.out.off_new (by rw [hg]; exact Nat.le_refl _))
                have HNE : Hid (g6 ≠ g7) := Lib.hid (by have := HG7.out.lt; omega)
                have HN6 : Hid (w8.heap.size ≤ g6) := Lib.hid (by rw [hg]; exact HK.out.size)
                have HG6 : Hid (Blk v75 g6 55 nil6) := Lib.hid (by rw [hw, hg]; exact blk0 _ _ _)
                have HC1 := Lib.hid (HC1.out.keep0 hk)
                have HS2 := Lib.hid (HS2.out.keep0 hk)
                have HG7 := Lib.hid (HG7.out.kp0 hk)
                have HK := Lib.hid (HK.out.tr hk)
                clear hw hg hk
                simp only [Act.put, List.getElem_toArray, List.getElem_cons_succ, List.getElem_cons_zero]
                refine hK (fun w' => Kp0 w8 w') _ _ (fun _ h => h) HK.out ?_
                clear hK K
                try simp only [List.setIfInBounds_toArray, List.set_cons_zero, List.set_cons_succ]
                refine px_eff rfl (by rfl) (fun K hK => ?_)
                go_simp
                refine (keys_any t (.slice e0 t.b0.length f0) (.slice e1 t.b1.length f1) (.slice e2 t.sh.length f2) (.slice e3 ls.length f3) ls v75 (HQ.out.kp0 (HB8.out.kp.tr HK.out)) (HC.out.kp0 (HB8.out.kp.tr HK.out)) (HU.out.kp0 HK.out) HS2.out HZ8.out HL8.out).mono ?_
                rintro e v76 ⟨ds, rfl, hm, hk⟩
                simp only []
                have HA26 : Hid (KsA ds g6) := Lib.hid (hm.off_old HG6.out.lt)
                have HA27 : Hid (KsA ds g7) := Lib.hid (hm.off_old HG7.out.lt)
                have HC1 := Lib.hid (HC1.out.keep0 hk)
                have HS2 := Lib.hid (HS2.out.keep0 hk)
                have HG6 := Lib.hid (HG6.out.kp0 hk)
                have HG7 := Lib.hid (HG7.out.kp0 hk)
                have HC2 := Lib.hid (hm.base (C := 0) (Nat.zero_le _))
                have HK := Lib.hid (HK.out.tr hk)
                clear hm hk
                refine hK (fun w' => Kp0 w8 w') _ _ (fun _ h => h) HK.out ?_
                clear hK K
                try simp only [List.setIfInBounds_toArray, List.set_cons_zero, List.set_cons_succ]
                refine px_wall rfl (by rfl) (fun K hK => ?_)
                refine wp_store_blk 55 (.tmp 6) (.tmp 36) rfl g6 _ nil6 cs rfl rfl HG6.out (HC1.out.info) HC1.out.len6 HC1.out.ones ?_
                intro va hA hk9
                have HC1 := Lib.hid (HC1.out.keepA hk9 HA16.out)
                have HC2 := Lib.hid (HC2.out.keepA hk9 HA26.out)
                have HG7 := Lib.hid (HG7.out.keep hk9 (fun e => HNE.out e.symm))
                have HG6 := Lib.hid hA
                have HK := Lib.hid (HK.out.trans hk9 (fun _ _ h => h) (fun i hi e => by have := HN6.out; omega))
                clear hA hk9
                refine hK (fun _ => True) _ _ trivial ?_
                clear hK K
                try simp only [Act.put]
                refine px_eff rfl (by rfl) (fun K hK => ?_)
                refine wp_store_blk 55 (.tmp 7) (.tmp 40) rfl g7 _ nil6 ds rfl rfl HG7.out (HC2.out.info) HC2.out.len6 HC2.out.ones ?_
                intro vb hA hk9
                have HC1 := Lib.hid (HC1.out.keepA hk9 HA17.out)
                have HC2 := Lib.hid (HC2.out.keepA hk9 HA27.out)
                have HG6 := Lib.hid (HG6.out.keep hk9 (fun e => HNE.out e))
                have HG7 := Lib.hid hA
                have HK := Lib.hid (HK.out.trans hk9 (fun _ _ h => h) (fun i hi e => by have := HN7.out; omega))
                clear hA hk9
                refine hK (fun _ => True) _ _ (fun _ h => h) trivial (px_done ?_)
                clear hK K
                try simp only [Act.put]
                go_wp2
                go_meet
                case rel =>
                  exact ⟨g6, g7, cs, ds, rfl, rfl, HG6, HG7, HC1, HC2, HK⟩
            · skip
              refine wp_alloc_as asKs rfl ?_
              intro v77 g6 hw hg
              have hk : Kp0 v71 v77 := by rw [hw]; exact (Kp.refl _ _).alloc _
              have HA16 : Hid (KsA cs g6) := Lib.hid (HC1.out.off_new (by rw [hg]; exact Nat.le_refl _))
              have HNE : Hid (g6 ≠ g7) := Lib.hid (by have := HG7.out.lt; omega)
              have HN6 : Hid (w8.heap.size ≤ g6) := Lib.hid (by rw [hg]; exact HK.out.size)
              have HG6 : Hid (Blk v77 g6 55 nil6) := Lib.hid (by rw [hw, hg]; exact blk0 _ _ _)
              have HC1 := Lib.hid (HC1.out.keep0 hk)
              have HG7 := Lib.hid (HG7.out.kp0 hk)
              have HK := Lib.hid (HK.out.tr hk)
              clear hw hg hk
              simp only [Act.put, List.getElem_toArray, List.getElem_cons_succ, List.getElem_cons_zero]
              refine hK (fun w' => Kp0 w8 w') _ _ (fun _ h => h) HK.out ?_
              clear hK K
              try simp only [List.setIfInBounds_toArray, List.set_cons_zero, List.set_cons_succ]
              refine px_eff rfl (by rfl) (fun K hK => ?_)
              refine append_new (x := .tmp 38) (y := .slice sq ls.length sc) (l := ls) ?_ ?_ ?_ ?_ ?_
              rfl
              rfl
              exact HS.out.keep0 (HB8.out.kp.tr HK.out)
              exact HLA.out
              intro e3 f3 v78 hr hb hk
              have HC1 := Lib.hid (HC1.out.keep0 hk)
              have HG6 := Lib.hid (HG6.out.kp0 hk)
              have HG7 := Lib.hid (HG7.out.kp0 hk)
              have HS2 := Lib.hid hr
              have HK := Lib.hid (HK.out.tr hk)
              clear hr hb hk
              simp only [Act.put, List.getElem_toArray, List.getElem_cons_succ, List.getElem_cons_zero]
              refine hK (fun w' => Kp0 w8 w') _ _ (fun _ h => h) HK.out ?_
              clear hK K
              try simp only [List.setIfInBounds_toArray, List.set_cons_zero, List.set_cons_succ]
              refine px_eff rfl (by rfl) (fun K hK => ?_)
              go_simp
              refine (keys_any t (.slice e0 t.b0.length f0) (.slice e1 t.b1.length f1) (.slice e2 t.sh.length f2) (.slice e3 ls.length f3) ls v78 (HQ.out.kp0 (HB8.out.kp.tr HK.out)) (HC.out.kp0 (HB8.out.kp.tr HK.out)) (HU.out.kp0 HK.out) HS2.out HZ8.out HL8.out).mono ?_
              rintro e v79 ⟨ds, rfl, hm, hk⟩
              simp only []
              have HA26 : Hid (KsA ds g6) := Lib.hid (hm.off_old HG6.out.lt)
              have HA27 : Hid (KsA ds g7) := Lib.hid (hm.off_old HG7.out.lt)
              have HC1 := Lib.hid (HC1.out.keep0 hk)
              have HS2 := Lib.hid (HS2.out.keep0 hk)
              have HG6 := Lib.hid (HG6.out.kp0 hk)
              have HG7 := Lib.hid (HG7.out.kp0 hk)
              have HC2 := Lib.hid (hm.base (C := 0) (Nat.zero_le _))
              have HK := Lib.hid (HK.out.tr hk)
              clear hm hk
              refine hK (fun w' => Kp0 w8 w') _ _ (fun _ h => h) HK.out ?_
              clear hK K
              try simp only [List.setIfInBounds_toArray, List.set_cons_zero, List.set_cons_succ]
              refine px_wall rfl (by rfl) (fun K hK => ?_)
              refine wp_store_blk 55 (.tmp 6) (.tmp 36) rfl g6 _ nil6 cs rfl rfl HG6.out (HC1.out.info) HC1.out.len6 HC1.out.ones ?_
              intro va hA hk9
              have HC1 := Lib.hid (HC1.out.keepA hk9 HA16.out)
              have HC2 := Lib.hid (HC2.out.keepA hk9 HA26.out)
              have HG7 := Lib.hid (HG7.out.keep hk9 (fun e => HNE.out e.symm))
              have HG6 := Lib.hid hA
              have HK := Lib.hid (HK.out.trans hk9 (fun _ _ h => h) (fun i hi e => by have := HN6.out; omega))
              clear hA hk9
              refine hK (fun _ => True) _ _ trivial ?_
              clear hK K
              try simp only [Act.put]
              refine px_eff rfl (by rfl) (fun K hK => ?_)
              refine wp_store_blk 55 (.tmp 7) (.tmp 40) rfl g7 _ nil6 ds rfl rfl HG7.out (HC2.out.info) HC2.out.len6 HC2.out.ones ?_
              intro vb hA hk9
              have HC1 := Lib.hid (HC1.out.keepA hk9 HA17.out)
              have HC2 := Lib.hid (HC2.out.keepA hk9 HA27.out)
              have HG6 := Lib.hid (HG6.out.keep hk9 (fun e => HNE.out e))
              have HG7 := Lib.hid hA
              have HK := Lib.hid (HK.out.trans hk9 (fun _ _ h => h) (fun i hi e => by have := HN7.out; omega))
              clear hA hk9
              refine hK (fun _ => True) _ _ (fun _ h => h) trivial (px_done ?_)
              clear hK K
              try simp only [Act.put]
              go_wp2
              go_meet
              case rel =>
                exact ⟨g6, g7, cs, ds, rfl, rfl, HG6, HG7, HC1, HC2, HK⟩
          · skip
            refine wp_alloc_as asKs rfl ?_
            intro v80 g6 hw hg
            have hk : Kp0 v70 v80 := by rw [hw]; exact (Kp.refl _ _).alloc _
            have HNE : Hid (g6 ≠ g7) := Lib.hid (by have := HG7.out.lt; omega)
            have HN6 : Hid (w8.heap.size ≤ g6) := Lib.hid (by rw [hg]; exact HK.out.size)
            have HG6 : Hid (Blk v80 g6 55 nil6) := Lib.hid (by rw [hw, hg]; exact blk0 _ _ _)
            have HG7 := Lib.hid (HG7.out.kp0 hk)
            have HK := Lib.hid (HK.out.tr hk)
            clear hw hg hk
            simp only [Act.put, List.getElem_toArray, List.getElem_cons_succ, List.getElem_cons_zero]
            refine hK (fun w' => Kp0 w8 w') _ _ (fun _ h => h) HK.out ?_
            clear hK K
            try simp only [List.setIfInBounds_toArray, List.set_cons_zero, List.set_cons_succ]
            refine px_eff rfl (by rfl) (fun K hK => ?_)
            go_simp
            refine (keys_any t (.slice a0 t.b0.length d0) (.slice a1 t.b1.length d1) (.slice a2 t.sh.length d2) (.slice sq ls.length sc) ls v80 (HQ.out.kp0 (HB8.out.kp.tr HK.out)) (HC.out.kp0 (HB8.out.kp.tr HK.out)) (HT.out.kp0 (HB8.out.kp.tr HK.out)) (HS.out.keep0 (HB8.out.kp.tr HK.out)) HZ8.out HL8.out).mono ?_
            rintro e v81 ⟨cs, rfl, hm, hk⟩
            simp only []
            have HA16 : Hid (KsA cs g6) := Lib.hid (hm.off_old HG6.out.lt)
            have HA17 : Hid (KsA cs g7) := Lib.hid (hm.off_old HG7.out.lt)
            have HG6 := Lib.hid (HG6.out.kp0 hk)
            have HG7 := Lib.hid (HG7.out.kp0 hk)
            have HC1 := Lib.hid (hm.base (C := 0) (Nat.zero_le _))
            have HK := Lib.hid (HK.out.tr hk)
            clear hm hk
            refine hK (fun w' => Kp0 w8 w') _ _ (fun _ h => h) HK.out ?_
            clear hK K
            try simp only [List.setIfInBounds_toArray, List.set_cons_zero, List.set_cons_succ]
            refine px_eff rfl (by rfl) (fun K hK => ?_)
            refine append_new (x := .tmp 38) (y := .slice sq ls.length sc) (l := ls) ?_ ?_ ?_ ?_ ?_
            rfl
            rfl
            exact HS.out.keep0 (HB8.out.kp.tr HK.out)
            exact HLA.out
            intro e3 f3 v82 hr hb hk
            have HC1 := Lib.hid (HC1.out.keep0 hk)
            have HG6 := Lib.hid (HG6.out.kp0 hk)
            have HG7 := Lib.hid (HG7.out.kp0 hk)
            have HS2 := Lib.hid hr
            have HK := Lib.hid (HK.out.tr hk)
            clear hr hb hk
            simp only [Act.put, List.getElem_toArray, List.getElem_cons_succ, List.getElem_cons_zero]
            refine hK (fun w' => Kp0 w8 w') _ _ (fun _ h => h) HK.out ?_
            clear hK K
            try simp only [List.setIfInBounds_toArray, List.set_cons_zero, List.set_cons_succ]
            refine px_eff rfl (by rfl) (fun K hK => ?_)
            go_simp
            refine (keys_any t (.slice e0 t.b0.length f0) (.slice e1 t.b1.length f1) (.slice e2 t.sh.length f2) (.slice e3 ls.length f3) ls v82 (HQ.out.kp0 (HB8.out.kp.tr HK.out)) (HC.out.kp0 (HB8.out.kp.tr HK.out)) (HU.out.kp0 HK.out) HS2.out HZ8.out HL8.out).mono ?_
            rintro e v83 ⟨ds, rfl, hm, hk⟩
            simp only []
            have HA26 : Hid (KsA ds g6) := Lib.hid (hm.off_old HG6.out.lt)
            have HA27 : Hid (KsA ds g7) := Lib.hid (hm.off_old HG7.out.lt)
            have HC1 := Lib.hid (HC1.out.keep0 hk)
            have HS2 := Lib.hid (HS2.out.keep0 hk)
            have HG6 := Lib.hid (HG6.out.kp0 hk)
            have HG7 := Lib.hid (HG7.out.kp0 hk)
            have HC2 := Lib.hid (hm.base (C := 0) (Nat.zero_le _))
            have HK := Lib.hid (HK.out.tr hk)
            clear hm hk
            refine hK (fun w' => Kp0 w8 w') _ _ (fun _ h => h) HK.out ?_
            clear hK K
            try simp only [List.setIfInBounds_toArray, List.set_cons_zero, List.set_cons_succ]
            refine px_wall rfl (by rfl) (fun K hK => ?_)
            refine wp_store_blk 55 (.tmp 6) (.tmp 36) rfl g6 _ nil6 cs rfl rfl HG6.out (HC1.out.info) HC1.out.len6 HC1.out.ones ?_
            intro va hA hk9
            have HC1 := Lib.hid (HC1.out.keepA hk9 HA16.out)
            have HC2 := Lib.hid (HC2.out.keepA hk9 HA26.out)
            have HG7 := Lib.hid (HG7.out.keep hk9 (fun e => HNE.out e.symm))
            have HG6 := Lib.hid hA
            have HK := Lib.hid (HK.out.trans hk9 (fun _ _ h => h) (fun i hi e => by have := HN6.out; omega))
            clear hA hk9
            refine hK (fun _ => True) _ _ trivial ?_
            clear hK K
            try simp only [Act.put]
            refine px_eff rfl (by rfl) (fun K hK => ?_)
            refine wp_store_blk 55 (.tmp 7) (.tmp 40) rfl g7 _ nil6 ds rfl rfl HG7.out (HC2.out.info) HC2.out.len6 HC2.out.ones ?_
            intro vb hA hk9
            have HC1 := Lib.hid (HC1.out.keepA hk9 HA17.out)
            have HC2 := Lib.hid (HC2.out.keepA hk9 HA27.out)
            have HG6 := Lib.hid (HG6.out.keep hk9 (fun e => HNE.out e))
            have HG7 := Lib.hid hA
            have HK := Lib.hid (HK.out.trans hk9 (fun _ _ h => h) (fun i hi e => by have := HN7.out; omega))
            clear hA hk9
            refine hK (fun _ => True) _ _ (fun _ h => h) trivial (px_done ?_)
            clear hK K
            try simp only [Act.put]
            go_wp2
            go_meet
            case rel =>
              exact ⟨g6, g7, cs, ds, rfl, rfl, HG6, HG7, HC1, HC2, HK⟩
      case rest =>
        obtain ⟨g6, g7, cs, ds, rfl, rfl, HG6, HG7, HC1, HC2, HKC⟩ := hcut
        have HB9 := Lib.hid (HB8.out.kp0 HKC.out)
        have HU9 := Lib.hid (HU.out.kp0 HKC.out)
        have HQ9 := Lib.hid (HQ.out.kp0 HB9.out.kp)
        have HC9 := Lib.hid (HC.out.kp0 HB9.out.kp)
        have HT9 := Lib.hid (HT.out.kp0 HB9.out.kp)
        clear HB8 HU HKC HQ HC HT HS HG HL HL8 HLA
        have hm1 := HC1.out
        have hm2 := HC2.out
        clear HC1 HC2
        obtain ⟨k1, k2, k3, k4, k5, k6, rfl, ⟨r1, r2, r3, r4, r5, r6⟩, -⟩ := hm1
        obtain ⟨m1, m2, m3, m4, m5, m6, rfl, ⟨q1, q2, q3, q4, q5, q6⟩, -⟩ := hm2
        obtain ⟨x1, hx1⟩ : ∃ x, x = tx (keyB t ls 67 16) := ⟨_, rfl⟩
        have cr1 := fun n : Nat => cvt (r1.1.keep0 ((Kp.refl (fun _ => False) wc).drewN n))
        have cq1 := fun n : Nat => cvt (q1.1.keep0 ((Kp.refl (fun _ => False) wc).drewN n))
        rw [← hx1] at cr1 cq1
        clear hx1 r1 q1
        have nx1 : (x1.toList != x1.toList) = false := tx_self x1
        obtain ⟨x2, hx2⟩ : ∃ x, x = tx (keyB t ls 65 16) := ⟨_, rfl⟩
        have cr2 := fun n : Nat => cvt (r2.1.keep0 ((Kp.refl (fun _ => False) wc).drewN n))
        have cq2 := fun n : Nat => cvt (q2.1.keep0 ((Kp.refl (fun _ => False) wc).drewN n))
        rw [← hx2] at cr2 cq2
        clear hx2 r2 q2
        have nx2 : (x2.toList != x2.toList) = false := tx_self x2
        obtain ⟨x3, hx3⟩ : ∃ x, x = tx (keyB t ls 69 32) := ⟨_, rfl⟩
        have cr3 := fun n : Nat => cvt (r3.1.keep0 ((Kp.refl (fun _ => False) wc).drewN n))
        have cq3 := fun n : Nat => cvt (q3.1.keep0 ((Kp.refl (fun _ => False) wc).drewN n))
        rw [← hx3] at cr3 cq3
        clear hx3 r3 q3
        have nx3 : (x3.toList != x3.toList) = false := tx_self x3
        obtain ⟨x4, hx4⟩ : ∃ x, x = tx (keyB t ls 68 16) := ⟨_, rfl⟩
        have cr4 := fun n : Nat => cvt (r4.1.keep0 ((Kp.refl (fun _ => False) wc).drewN n))
        have cq4 := fun n : Nat => cvt (q4.1.keep0 ((Kp.refl (fun _ => False) wc).drewN n))
        rw [← hx4] at cr4 cq4
        clear hx4 r4 q4
        have nx4 : (x4.toList != x4.toList) = false := tx_self x4
        obtain ⟨x5, hx5⟩ : ∃ x, x = tx (keyB t ls 66 16) := ⟨_, rfl⟩
        have cr5 := fun n : Nat => cvt (r5.1.keep0 ((Kp.refl (fun _ => False) wc).drewN n))
        have cq5 := fun n : Nat => cvt (q5.1.keep0 ((Kp.refl (fun _ => False) wc).drewN n))
        rw [← hx5] at cr5 cq5
        clear hx5 r5 q5
        have nx5 : (x5.toList != x5.toList) = false := tx_self x5
        obtain ⟨x6, hx6⟩ : ∃ x, x = tx (keyB t ls 70 32) := ⟨_, rfl⟩
        have cr6 := fun n : Nat => cvt (r6.1.keep0 ((Kp.refl (fun _ => False) wc).drewN n))
        have cq6 := fun n : Nat => cvt (q6.1.keep0 ((Kp.refl (fun _ => False) wc).drewN n))
        rw [← hx6] at cr6 cq6
        clear hx6 r6 q6
        have nx6 : (x6.toList != x6.toList) = false := tx_self x6
        have ca0 : wc.cell? ⟨g6, 0, none⟩ = some (.slice (some ⟨k1, 0, none⟩) 16 16) := HG6.out.cellV 0 rfl
        have cb0 : wc.cell? ⟨g7, 0, none⟩ = some (.slice (some ⟨m1, 0, none⟩) 16 16) := HG7.out.cellV 0 rfl
        have ca1 : wc.cell? ⟨g6, 1, none⟩ = some (.slice (some ⟨k2, 0, none⟩) 16 16) := HG6.out.cellV 1 rfl
        have cb1 : wc.cell? ⟨g7, 1, none⟩ = some (.slice (some ⟨m2, 0, none⟩) 16 16) := HG7.out.cellV 1 rfl
        have ca2 : wc.cell? ⟨g6, 2, none⟩ = some (.slice (some ⟨k3, 0, none⟩) 32 32) := HG6.out.cellV 2 rfl
        have cb2 : wc.cell? ⟨g7, 2, none⟩ = some (.slice (some ⟨m3, 0, none⟩) 32 32) := HG7.out.cellV 2 rfl
        have ca3 : wc.cell? ⟨g6, 3, none⟩ = some (.slice (some ⟨k4, 0, none⟩) 16 16) := HG6.out.cellV 3 rfl
        have cb3 : wc.cell? ⟨g7, 3, none⟩ = some (.slice (some ⟨m4, 0, none⟩) 16 16) := HG7.out.cellV 3 rfl
        have ca4 : wc.cell? ⟨g6, 4, none⟩ = some (.slice (some ⟨k5, 0, none⟩) 16 16) := HG6.out.cellV 4 rfl
        have cb4 : wc.cell? ⟨g7, 4, none⟩ = some (.slice (some ⟨m5, 0, none⟩) 16 16) := HG7.out.cellV 4 rfl
        have ca5 : wc.cell? ⟨g6, 5, none⟩ = some (.slice (some ⟨k6, 0, none⟩) 32 32) := HG6.out.cellV 5 rfl
        have cb5 : wc.cell? ⟨g7, 5, none⟩ = some (.slice (some ⟨m6, 0, none⟩) 32 32) := HG7.out.cellV 5 rfl
        go_wp2
        refine wp_loop_rounds 3 ?_
        rw [rounds_succ]
        go_wp2
        go_quiet (fail)
        go_wp2
        rw [rounds_succ]
        go_wp2
        go_quiet (fail)
        go_wp2
        rw [rounds_succ]
        go_wp2
        clear ca0 cb0 ca1 cb1 ca2 cb2 ca3 cb3 ca4 cb4 ca5 cb5 cr1 cq1 cr2 cq2 cr3 cq3 cr4 cq4 cr5 cq5 cr6 cq6 nx1 nx2 nx3 nx4 nx5 nx6
        have HKN : Hid (∀ n, Kp0 wc (wc.drewN n)) := Lib.hid (fun n => (Kp.refl _ wc).drewN n)
        refine wp_region_px 8 [] (fun w' : World => Kp0 wc w') (.quiet 0 (.quiet 3 (.eff 1 (.quiet 2 (.eff 4 (.quiet 5 (.quiet 6 (.quiet 7 .done)))))))) (by kernel_rfl) (by kernel_rfl) (by kernel_rfl) (by kernel_rfl) (fun _ d _ _ _ h => by cases d <;> exact h) (HKN.out _).drew ?_
        obtain ⟨v0, HK, hv0⟩ : ∃ v, Hid (Kp0 wc v) ∧ v = (wc.drewN _).drew := ⟨_, Lib.hid (HKN.out _).drew, rfl⟩
        rw [← hv0]
        clear hv0 HKN
        refine px_quiet (v := .agg (t.vals (.slice a0 t.b0.length d0) (.slice a1 t.b1.length d1) (.slice a2 t.sh.length d2)).toArray) rfl (by rfl) (fun wq hwq => ?_) rfl ?_
        focus exact run_load_blk 48 (.tmp 2) rfl g _ (t.vals (.slice a0 t.b0.length d0) (.slice a1 t.b1.length d1) (.slice a2 t.sh.length d2)) rfl ((HB9.out.kp0 hwq).at 0 rfl) _ Tryd.underlying48 rfl infoTk
        try simp only [List.setIfInBounds_toArray, List.set_cons_zero, List.set_cons_succ]
        refine px_quiet (v := .agg (t.vals (.slice e0 t.b0.length f0) (.slice e1 t.b1.length f1) (.slice e2 t.sh.length f2)).toArray) rfl (by rfl) (fun wq hwq => ?_) rfl ?_
        focus exact run_load_blk 48 (.tmp 5) rfl gu _ (t.vals (.slice e0 t.b0.length f0) (.slice e1 t.b1.length f1) (.slice e2 t.sh.length f2)) rfl ((HB9.out.kp0 hwq).at 1 rfl) _ Tryd.underlying48 rfl infoTk
        try simp only [List.setIfInBounds_toArray, List.set_cons_zero, List.set_cons_succ]
        refine px_eff rfl (by rfl) (fun K hK => ?_)
        go_simp
        refine (hash_any t (.slice a0 t.b0.length d0) (.slice a1 t.b1.length d1) (.slice a2 t.sh.length d2) v0 (HQ9.out.kp0 HK.out) (HC9.out.kp0 HK.out) (HT9.out.kp0 HK.out) HZ8.out).mono ?_
        rintro e v1 ⟨gh, rfl, hgh, hbh, hk⟩
        simp only []
        have HH := Lib.hid (rd_take hbh (n := 32) (cap := 32) (by rw [sha256_len]; decide) (Nat.le_refl _) (by decide))
        have HK1 := Lib.hid (HK.out.tr hk)
        refine hK (fun w' => Kp0 v1 w') _ _ (fun x hx => HK1.out.tr hx) (Kp.refl _ _) ?_
        clear hK K hgh hbh hk
        try simp only [List.setIfInBounds_toArray, List.set_cons_zero, List.set_cons_succ]
        obtain ⟨z, hz⟩ : ∃ z, z = tx ((sha256 (hashIn t)).take 32) := ⟨_, rfl⟩
        have HZ := Lib.hid hz
        clear hz
        refine px_quiet (v := .string z) rfl (by rfl) (fun wq hwq => ?_) rfl ?_
        focus (have hcv := cvt (HH.out.keep0 hwq); rw [← HZ.out] at hcv; go_simp; try (with_reducible rfl); done)
        try simp only [List.setIfInBounds_toArray, List.set_cons_zero, List.set_cons_succ]
        refine px_eff rfl (by rfl) (fun K hK => ?_)
        go_simp
        refine (hash_any t (.slice e0 t.b0.length f0) (.slice e1 t.b1.length f1) (.slice e2 t.sh.length f2) v1 (HQ9.out.kp0 HK1.out) (HC9.out.kp0 HK1.out) (HU9.out.kp0 HK1.out) HZ8.out).mono ?_
        rintro e v2 ⟨gi, rfl, hgh, hbh, hk⟩
        simp only []
        have HH := Lib.hid (rd_take hbh (n := 32) (cap := 32) (by rw [sha256_len]; decide) (Nat.le_refl _) (by decide))
        have HK2 := Lib.hid (HK1.out.tr hk)
        refine hK (fun w' => Kp0 v2 w') _ _ (fun x hx => hk.tr hx) (Kp.refl _ _) ?_
        clear hK K hgh hbh hk
        try simp only [List.setIfInBounds_toArray, List.set_cons_zero, List.set_cons_succ]
        refine px_quiet (v := .string z) rfl (by rfl) (fun wq hwq => ?_) rfl ?_
        focus (have hcv := cvt (HH.out.keep0 hwq); rw [← HZ.out] at hcv; go_simp; try (with_reducible rfl); done)
        try simp only [List.setIfInBounds_toArray, List.set_cons_zero, List.set_cons_succ]
        refine px_quiet (v := .bool true) rfl (by rfl) (fun wq hwq => ?_) rfl ?_
        focus (go_simp; try (with_reducible rfl); done)
        try simp only [List.setIfInBounds_toArray, List.set_cons_zero, List.set_cons_succ]
        refine px_quiet (v := .bool true) rfl (by rfl) (fun wq hwq => ?_) rfl ?_
        focus (go_simp; try (with_reducible rfl); done)
        try simp only [List.setIfInBounds_toArray, List.set_cons_zero, List.set_cons_succ]
        refine px_done ?_
        go_wp2
        go_ret
        exact ⟨rfl, HB9.out.kp.tr HK2.out⟩
    · have H3 := Lib.hid h3
      have i3 : (300 : Int) < (ls.length : Int) := by omega
      have T0 : Hid True := Lib.hid trivial
      go_wp2_with (first
        | (go_at_call 9; refine (fit_any _ (HQ.out.kp0 HB1.out.kp) (HC.out.kp0 HB1.out.kp) (HG.out.keep HB1.out.kp (fun h => h))).mono ?_; rintro e w2 ⟨rfl, hk⟩; have HB2 := Lib.hid (HB1.out.kp0 hk); clear hk HB1)
        | (clear T0; refine wl_load_blk rfl 48 (.tmp 2) rfl g _ (t.vals (.slice a0 t.b0.length d0) (.slice a1 t.b1.length d1) (.slice a2 t.sh.length d2)) rfl (HB2.out.at 0 rfl) _ Tryd.underlying48 rfl infoTk ?_)
        | (go_at_call 26; refine (short_any t _ _ _ _ (HT.out.kp0 HB2.out.kp) HZ.out).mono ?_; rintro e w3 ⟨rfl, hk⟩; have HB3 := Lib.hid (HB2.out.kp0 hk); rw [hd]; clear hk HB2))
      go_ret
      exact ⟨rfl, HB3.out.kp⟩
  · have hd : decide (t.size < 2000) = false := decide_eq_false h2
    have T0 : Hid True := Lib.hid trivial
    go_wp2_with (first
      | (go_at_call 9; refine (fit_any _ (HQ.out.kp0 HB1.out.kp) (HC.out.kp0 HB1.out.kp) (HG.out.keep HB1.out.kp (fun h => h))).mono ?_; rintro e w2 ⟨rfl, hk⟩; have HB2 := Lib.hid (HB1.out.kp0 hk); clear hk HB1)
      | (clear T0; refine wl_load_blk rfl 48 (.tmp 2) rfl g _ (t.vals (.slice a0 t.b0.length d0) (.slice a1 t.b1.length d1) (.slice a2 t.sh.length d2)) rfl (HB2.out.at 0 rfl) _ Tryd.underlying48 rfl infoTk ?_)
      | (go_at_call 26; refine (short_any t _ _ _ _ (HT.out.kp0 HB2.out.kp) HZ.out).mono ?_; rintro e w3 ⟨rfl, hk⟩; have HB3 := Lib.hid (HB2.out.kp0 hk); rw [hd]; clear hk HB2))
    go_ret
    exact ⟨rfl, HB3.out.kp⟩
end Go.Proofs.YtikjcmhocihmcaaDoor
