/- The law's own helpers: two. -/
import Derived.Test.YtjfphmmhikamaaaLike
namespace Go.Proofs.Ytjfphmmhikamaaa
open Go Go.RowKit
theorem size_alloc (w : World) (o : Obj) : (w.alloc o).heap.size = w.heap.size + 1 := by simp
theorem abs4 {P : Program} {c : Code} {Q : Exit → Act → World → Prop} {a : Act} {w : World} {z1 z2 z3 z4 : List Value} {T1 T2 T3 T4 : TypeId}
    (h : ∀ w0, Blk w0 w.heap.size T1 z1 → Blk w0 (w.heap.size + 1) T2 z2 → Blk w0 (w.heap.size + 1 + 1) T3 z3 → Blk w0 (w.heap.size + 1 + 1 + 1) T4 z4 → Kp0 w w0 → c.wp P Q a w0) :
    c.wp P Q a ((((w.alloc (.cells z1.toArray T1)).alloc (.cells z2.toArray T2)).alloc (.cells z3.toArray T3)).alloc (.cells z4.toArray T4)) := by
  refine h _ ?_ ?_ ?_ ?_ ((((Kp.refl _ w).alloc _).alloc _).alloc _ |>.alloc _)
  · exact (blk0 w _ _).kp0 (((Kp.refl _ _).alloc _).alloc _ |>.alloc _)
  · have := (blk0 (w.alloc (.cells z1.toArray T1)) T2 z2).kp0 (((Kp.refl _ _).alloc (.cells z3.toArray T3)).alloc (.cells z4.toArray T4))
    rwa [size_alloc] at this
  · have := (blk0 ((w.alloc (.cells z1.toArray T1)).alloc (.cells z2.toArray T2)) T3 z3).kp0 ((Kp.refl _ _).alloc (.cells z4.toArray T4))
    rwa [size_alloc, size_alloc] at this
  · have := blk0 (((w.alloc (.cells z1.toArray T1)).alloc (.cells z2.toArray T2)).alloc (.cells z3.toArray T3)) T4 z4
    rwa [size_alloc, size_alloc, size_alloc] at this
/-- Are both 32 bytes? -/
def ok2 (la lb : List UInt8) : Bool := decide (la.length = 32 ∧ lb.length = 32)
def okN (la lb : List UInt8) (x : Nat) : Nat := if la.length = 32 ∧ lb.length = 32 then x else 0
/-- The four results' blocks. -/
def TwoR (w : World) (a4 a5 a6 a7 : List Value) (wx : World) : Prop := Blk wx w.heap.size 45 a4 ∧ Blk wx (w.heap.size + 1) 45 a5 ∧ Blk wx (w.heap.size + 1 + 1) 47 a6 ∧ Blk wx (w.heap.size + 1 + 1 + 1) 47 a7 ∧ Kp0 w wx
section
variable {w wx wy : World} {a4 a5 a6 a7 b : List Value}
theorem TwoR.kp {S : Nat → Prop} (h : TwoR w a4 a5 a6 a7 wx) (hk : Kp S wx wy) (hs : ∀ b, S b → w.heap.size + 1 + 1 + 1 < b) : TwoR w a4 a5 a6 a7 wy :=
  ⟨h.1.keep hk (fun e => by have := hs _ e; omega), h.2.1.keep hk (fun e => by have := hs _ e; omega), h.2.2.1.keep hk (fun e => by have := hs _ e; omega), h.2.2.2.1.keep hk (fun e => by have := hs _ e; omega), h.2.2.2.2.trans hk (fun _ _ h => h) (fun i hi e => by have := hs _ e; omega)⟩
theorem TwoR.kp0 (h : TwoR w a4 a5 a6 a7 wx) (hk : Kp0 wx wy) : TwoR w a4 a5 a6 a7 wy := h.kp hk (fun _ h => h.elim)
theorem TwoR.put4 (h : TwoR w a4 a5 a6 a7 wx) (hb : Blk wy w.heap.size 45 b) (hk : Kp (fun b => b = w.heap.size) wx wy) : TwoR w b a5 a6 a7 wy :=
  ⟨hb, h.2.1.keep hk (fun e => by omega), h.2.2.1.keep hk (fun e => by omega), h.2.2.2.1.keep hk (fun e => by omega), h.2.2.2.2.trans hk (fun _ _ h => h) (fun i hi e => by omega)⟩
theorem TwoR.put5 (h : TwoR w a4 a5 a6 a7 wx) (hb : Blk wy (w.heap.size + 1) 45 b) (hk : Kp (fun b => b = w.heap.size + 1) wx wy) : TwoR w a4 b a6 a7 wy :=
  ⟨h.1.keep hk (fun e => by omega), hb, h.2.2.1.keep hk (fun e => by omega), h.2.2.2.1.keep hk (fun e => by omega), h.2.2.2.2.trans hk (fun _ _ h => h) (fun i hi e => by omega)⟩
theorem TwoR.put6 (h : TwoR w a4 a5 a6 a7 wx) (hb : Blk wy (w.heap.size + 1 + 1) 47 b) (hk : Kp (fun b => b = w.heap.size + 1 + 1) wx wy) : TwoR w a4 a5 b a7 wy :=
  ⟨h.1.keep hk (fun e => by omega), h.2.1.keep hk (fun e => by omega), hb, h.2.2.2.1.keep hk (fun e => by omega), h.2.2.2.2.trans hk (fun _ _ h => h) (fun i hi e => by omega)⟩
theorem TwoR.put7 (h : TwoR w a4 a5 a6 a7 wx) (hb : Blk wy (w.heap.size + 1 + 1 + 1) 47 b) (hk : Kp (fun b => b = w.heap.size + 1 + 1 + 1) wx wy) : TwoR w a4 a5 a6 b wy :=
  ⟨h.1.keep hk (fun e => by omega), h.2.1.keep hk (fun e => by omega), h.2.2.1.keep hk (fun e => by omega), hb, h.2.2.2.2.trans hk (fun _ _ h => h) (fun i hi e => by omega)⟩
end
theorem ret_two {P : Program} {fn : Func} {R : Ending → World → Prop} {a : Act} {w : World} (t1 t2 t3 t4 u : Tmp) (T1 T2 T3 T4 U1 U2 U3 U4 : TypeId) (g1 g2 g3 g4 : Nat) (c1 c2 c3 c4 : List Value) (d1 d2 d3 d4 : TypeDesc) (hr : fn.results = #[.cell t1 T1, .cell t2 T2, .cell t3 T3, .cell t4 T4, .tmp u])
    (x1 : a.tmps.getD t1 undef = .pointer (some ⟨g1, 0, none⟩)) (x2 : a.tmps.getD t2 undef = .pointer (some ⟨g2, 0, none⟩)) (x3 : a.tmps.getD t3 undef = .pointer (some ⟨g3, 0, none⟩)) (x4 : a.tmps.getD t4 undef = .pointer (some ⟨g4, 0, none⟩))
    (h1 : Blk w g1 U1 c1) (h2 : Blk w g2 U2 c2) (h3 : Blk w g3 U3 c3) (h4 : Blk w g4 U4 c4)
    (u1 : P.underlying T1 = some d1) (u2 : P.underlying T2 = some d2) (u3 : P.underlying T3 = some d3) (u4 : P.underlying T4 = some d4) (r1 : d1.isRow = true) (r2 : d2.isRow = true) (r3 : d3.isRow = true) (r4 : d4.isRow = true)
    (i1 : (P.info? T1).map (·.size) = some c1.length) (i2 : (P.info? T2).map (·.size) = some c2.length) (i3 : (P.info? T3).map (·.size) = some c3.length) (i4 : (P.info? T4).map (·.size) = some c4.length)
    (hdf : a.defers = []) (v : Value) (hv : a.tmps.getD u undef = v) (hR : R (.returned (.tuple #[.agg c1.toArray, .agg c2.toArray, .agg c3.toArray, .agg c4.toArray, v])) w) : bodyPost P fn R .ret a w := by
  subst hv
  refine ⟨hdf, _, ?_, hR⟩
  have e1 := run_loadVar_mid (P := P) w g1 0 T1 c1 d1 h1.range u1 r1 i1
  have e2 := run_loadVar_mid (P := P) w g2 0 T2 c2 d2 h2.range u2 r2 i2
  have e3 := run_loadVar_mid (P := P) w g3 0 T3 c3 d3 h3.range u3 r3 i3
  have e4 := run_loadVar_mid (P := P) w g4 0 T4 c4 d4 h4.range u4 r4 i4
  rw [Array.getD_eq_getD_getElem?] at x1 x2 x3 x4
  simp [results, hr, x1, x2, x3, x4, asAddr, e1, e2, e3, e4]
theorem i64s_ones (ds : List Int) : Ones (i64s ds) := by
  intro v hv
  simp only [i64s, List.mem_map] at hv
  obtain ⟨x, _, rfl⟩ := hv
  rfl
variable {R : List Value → Nat → Prop}
set_option maxRecDepth 20000 in
set_option maxHeartbeats 4000000 in
theorem two_any (F : Fld R) (va vb : Value) (la lb : List UInt8) (w : World) (hva : Rd w va (bys la)) (hvb : Rd w vb (bys lb)) (hoa : ∀ g, va.ownBlock = some g → g < w.heap.size) (hob : ∀ g, vb.ownBlock = some g → g < w.heap.size) :
    Calls Try.prog 26 #[va, vb] w fun e w' => ∃ ca cb, e = .returned (.tuple #[.agg ca.toArray, .agg cb.toArray, numV (okN la lb (readN la)), numV (okN la lb (readN lb)), .bool (ok2 la lb)]) ∧ Fe R ca (readN la) ∧ Fe R cb (readN lb) ∧ Kp0 w w' := by
  have HF := Lib.hid F
  have HA := Lib.hid hva
  have HB := Lib.hid hvb
  have HOA := Lib.hid hoa
  have HOB := Lib.hid hob
  clear hva hvb hoa hob F
  go_enter Try.func26, Try.ntmps26
  go_upto_region 1 with (fail)
  refine abs4 (fun w0 b1 b2 b3 b4 k0 => ?_)
  have H0 : Hid (TwoR w _ _ _ _ w0) := Lib.hid ⟨b1, b2, b3, b4, k0⟩
  clear b1 b2 b3 b4 k0
  obtain ⟨ba, hba⟩ : ∃ ba, ba = decide (la.length = 32) := ⟨_, rfl⟩
  obtain ⟨bb, hbb⟩ : ∃ bb, bb = decide (lb.length = 32) := ⟨_, rfl⟩
  have HBA := Lib.hid hba
  have HBB := Lib.hid hbb
  clear hba hbb
  go_wp2_with fail
  refine (HF.out.read va la w0 (HA.out.keep0 H0.out.2.2.2.2) (fun g hg => by have := HOA.out g hg; have := H0.out.1.lt; omega)).mono ?_
  rw [← HBA.out]
  rintro e w1 ⟨ca, rfl, hca, hk1⟩
  have HCA := Lib.hid hca
  obtain ⟨g9, hg9⟩ : ∃ g, g = w1.heap.size := ⟨_, rfl⟩
  have HG9 : Hid (w.heap.size + 1 + 1 + 1 < g9) := Lib.hid (by have := H0.out.2.2.2.1.lt; have := hk1.size; omega)
  have HK1 := Lib.hid hk1
  have HE9 := Lib.hid hg9
  clear hca hk1 hg9
  go_wp2_with (
    (refine wl_store_blk rfl 45 (.tmp 9) (.tmp 16) rfl w1.heap.size _ _ ca rfl rfl (blk0 w1 _ _) HCA.out.2.2.1 (len_of (T := 45) (by kernel_rfl) HCA.out.2.2.1) HCA.out.2.2.2 ?_
     intro w2 hA2 hK2
     rw [← HE9.out]
     rw [← HE9.out] at hA2 hK2
     have HA2 := Lib.hid hA2
     have HK2 : Hid (TwoR w _ _ _ _ w2) := Lib.hid (((H0.out.kp0 HK1.out).kp0 ((Kp.refl _ w1).alloc _)).kp hK2 (fun b e => by have := HG9.out; omega))
     clear hA2 hK2))
  refine (HF.out.read vb lb w2 (HB.out.keep0 HK2.out.2.2.2.2) (fun g hg => by have := HOB.out g hg; have := HK2.out.1.lt; omega)).mono ?_
  rw [← HBB.out]
  rintro e w3 ⟨cb, rfl, hcb, hk3⟩
  have HCB := Lib.hid hcb
  obtain ⟨g11, hg11⟩ : ∃ g, g = w3.heap.size := ⟨_, rfl⟩
  have HG11 : Hid (g9 < g11) := Lib.hid (by have := HA2.out.lt; have := hk3.size; omega)
  have HK3 := Lib.hid hk3
  have HE11 := Lib.hid hg11
  clear hcb hk3 hg11
  cases ba
  · cases bb
    · have HDA : Hid (¬ la.length = 32) := Lib.hid (of_decide_eq_false HBA.out.symm)
      have HDB : Hid (¬ lb.length = 32) := Lib.hid (of_decide_eq_false HBB.out.symm)
      go_upto_region 4 with (
        (refine wl_store_blk rfl 45 (.tmp 11) (.tmp 21) rfl w3.heap.size _ _ cb rfl rfl (blk0 w3 _ _) HCB.out.2.2.1 (len_of (T := 45) (by kernel_rfl) HCB.out.2.2.1) HCB.out.2.2.2 ?_
         intro w4 hA4 hK4
         rw [← HE11.out]
         rw [← HE11.out] at hA4 hK4
         have HA4 := Lib.hid hA4
         have HK4 : Hid (TwoR w _ _ _ _ w4) := Lib.hid (((HK2.out.kp0 HK3.out).kp0 ((Kp.refl _ w3).alloc _)).kp hK4 (fun b e => by have := HG9.out; have := HG11.out; omega))
         have HX4 : Hid (Blk w4 g9 45 ca) := Lib.hid (((HA2.out.kp0 HK3.out).kp0 ((Kp.refl _ w3).alloc _)).keep hK4 (fun e => by have := HG11.out; omega))
         clear hA4 hK4))
      try simp only [Act.put]
      refine wp_region_wall [] (fun w' : World => Kp (fun b => b ≤ w.heap.size + 1 + 1 + 1) w4 w') (.quiet 0 (.quiet 1 (.quiet 2 (.quiet 3 (.eff 4 (.eff 5 (.eff 6 (.eff 7 (.quiet 8 .done))))))))) (by kernel_rfl) (by kernel_rfl) (by kernel_rfl) (by kernel_rfl) (fun _ d _ _ _ h => by cases d <;> exact h) ((Kp.refl _ _).drew) ?_
      refine pw_quiet (v := .agg ca.toArray) rfl (by rfl) (fun wq hwq => run_load_blk 45 (.tmp 9) rfl g9 _ ca rfl (HX4.out.keep hwq (fun e => by have := HG9.out; omega)) _ Try.underlying45 rfl HCA.out.2.2.1) rfl ?_
      simp only [List.setIfInBounds_toArray, List.set_cons_zero, List.set_cons_succ]
      refine pw_quiet (v := .agg cb.toArray) rfl (by rfl) (fun wq hwq => run_load_blk 45 (.tmp 11) rfl g11 _ cb rfl (HA4.out.keep hwq (fun e => by have := HG9.out; have := HG11.out; omega)) _ Try.underlying45 rfl HCB.out.2.2.1) rfl ?_
      simp only [List.setIfInBounds_toArray, List.set_cons_zero, List.set_cons_succ]
      repeat (first
              | (refine pw_quiet (v := ?_) rfl (by rfl) (fun wq hwq => ?_) rfl ?_; rotate_left 1; (focus (go_simp; try (with_reducible rfl); done)); simp only [List.setIfInBounds_toArray, List.set_cons_zero, List.set_cons_succ])
              | (refine pw_skip rfl (by rfl) rfl ?_; simp only [List.setIfInBounds_toArray, List.set_cons_zero, List.set_cons_succ]))
      have HT0 := Lib.hid (HK4.out.kp0 ((Kp.refl _ w4).drew))
      have HS0 : Hid (Kp (fun b => b ≤ w.heap.size + 1 + 1 + 1) w4 w4.drew) := Lib.hid ((Kp.refl _ w4).drew)
      refine pw_eff rfl (by rfl) (fun K hK => ?_)
      refine wp_store_blk 45 (.tmp 4) (.tmp 29) rfl w.heap.size _ _ ca rfl rfl HT0.out.1 HCA.out.2.2.1 (len_of (T := 45) (by kernel_rfl) HCA.out.2.2.1) HCA.out.2.2.2 ?_
      intro x1 hA1 hK1
      have HT1 := Lib.hid (HT0.out.put4 hA1 hK1)
      have HS1 : Hid (Kp (fun b => b ≤ w.heap.size + 1 + 1 + 1) w4 x1) := Lib.hid (HS0.out.tr (hK1.mono (fun i hi e => by omega)))
      clear hA1 hK1
      refine hK (fun w' : World => Kp (fun b => b ≤ w.heap.size + 1 + 1 + 1) w4 w') _ _ (fun x h => h) HS1.out ?_
      clear hK K
      simp only [Act.put]
      refine pw_eff rfl (by rfl) (fun K hK => ?_)
      refine wp_store_blk 45 (.tmp 5) (.tmp 30) rfl (w.heap.size + 1) _ _ cb rfl rfl HT1.out.2.1 HCB.out.2.2.1 (len_of (T := 45) (by kernel_rfl) HCB.out.2.2.1) HCB.out.2.2.2 ?_
      intro x2 hA2 hK2
      have HT2 := Lib.hid (HT1.out.put5 hA2 hK2)
      have HS2 : Hid (Kp (fun b => b ≤ w.heap.size + 1 + 1 + 1) w4 x2) := Lib.hid (HS1.out.tr (hK2.mono (fun i hi e => by omega)))
      clear hA2 hK2
      refine hK (fun w' : World => Kp (fun b => b ≤ w.heap.size + 1 + 1 + 1) w4 w') _ _ (fun x h => h) HS2.out ?_
      clear hK K
      simp only [Act.put]
      refine pw_eff rfl (by rfl) (fun K hK => ?_)
      refine wp_store_blk 47 (.tmp 6) (.tmp 31) rfl (w.heap.size + 1 + 1) _ _ (i64s (F3.digs 16 ((0 : Nat) : Int))) rfl rfl HT2.out.2.2.1 (infoN _ (numLen _)) (by rw [i64s_len, numLen]; rfl) (i64s_ones _) ?_
      intro x3 hA3 hK3
      have HT3 := Lib.hid (HT2.out.put6 hA3 hK3)
      have HS3 : Hid (Kp (fun b => b ≤ w.heap.size + 1 + 1 + 1) w4 x3) := Lib.hid (HS2.out.tr (hK3.mono (fun i hi e => by omega)))
      clear hA3 hK3
      refine hK (fun w' : World => Kp (fun b => b ≤ w.heap.size + 1 + 1 + 1) w4 w') _ _ (fun x h => h) HS3.out ?_
      clear hK K
      simp only [Act.put]
      refine pw_eff rfl (by rfl) (fun K hK => ?_)
      refine wp_store_blk 47 (.tmp 7) (.tmp 32) rfl (w.heap.size + 1 + 1 + 1) _ _ (i64s (F3.digs 16 ((0 : Nat) : Int))) rfl rfl HT3.out.2.2.2.1 (infoN _ (numLen _)) (by rw [i64s_len, numLen]; rfl) (i64s_ones _) ?_
      intro x4 hA4 hK4
      have HT4 := Lib.hid (HT3.out.put7 hA4 hK4)
      have HS4 : Hid (Kp (fun b => b ≤ w.heap.size + 1 + 1 + 1) w4 x4) := Lib.hid (HS3.out.tr (hK4.mono (fun i hi e => by omega)))
      clear hA4 hK4
      refine hK (fun w' : World => Kp (fun b => b ≤ w.heap.size + 1 + 1 + 1) w4 w') _ _ (fun x h => h) HS4.out ?_
      clear hK K
      simp only [Act.put]
      refine pw_quiet (v := .bool false) rfl (by rfl) (fun wq _ => by rfl) rfl ?_
      refine pw_done ?_
      go_wp2
      refine ret_two 4 5 6 7 8 45 45 47 47 _ _ _ _ w.heap.size (w.heap.size + 1) (w.heap.size + 1 + 1) (w.heap.size + 1 + 1 + 1) ca cb (i64s (F3.digs 16 ((0 : Nat) : Int))) (i64s (F3.digs 16 ((0 : Nat) : Int))) _ _ _ _ rfl rfl rfl rfl rfl HT4.out.1 HT4.out.2.1 HT4.out.2.2.1 HT4.out.2.2.2.1 Try.underlying45 Try.underlying45 Try.underlying47 Try.underlying47 rfl rfl rfl rfl HCA.out.2.2.1 HCB.out.2.2.1 (infoN _ (numLen _)) (infoN _ (numLen _)) rfl (.bool false) rfl ?_
      refine ⟨ca, cb, ?_, HCA.out, HCB.out, HT4.out.2.2.2.2⟩
      rw [okN, if_neg (fun h => HDA.out h.1), okN, if_neg (fun h => HDA.out h.1), ok2, decide_eq_false (show ¬ (la.length = 32 ∧ lb.length = 32) from (fun h => HDA.out h.1))]
      rfl
    · have HDA : Hid (¬ la.length = 32) := Lib.hid (of_decide_eq_false HBA.out.symm)
      have HDB : Hid (lb.length = 32) := Lib.hid (of_decide_eq_true HBB.out.symm)
      go_upto_region 4 with (
        (refine wl_store_blk rfl 45 (.tmp 11) (.tmp 21) rfl w3.heap.size _ _ cb rfl rfl (blk0 w3 _ _) HCB.out.2.2.1 (len_of (T := 45) (by kernel_rfl) HCB.out.2.2.1) HCB.out.2.2.2 ?_
         intro w4 hA4 hK4
         rw [← HE11.out]
         rw [← HE11.out] at hA4 hK4
         have HA4 := Lib.hid hA4
         have HK4 : Hid (TwoR w _ _ _ _ w4) := Lib.hid (((HK2.out.kp0 HK3.out).kp0 ((Kp.refl _ w3).alloc _)).kp hK4 (fun b e => by have := HG9.out; have := HG11.out; omega))
         have HX4 : Hid (Blk w4 g9 45 ca) := Lib.hid (((HA2.out.kp0 HK3.out).kp0 ((Kp.refl _ w3).alloc _)).keep hK4 (fun e => by have := HG11.out; omega))
         clear hA4 hK4))
      try simp only [Act.put]
      refine wp_region_wall [] (fun w' : World => Kp (fun b => b ≤ w.heap.size + 1 + 1 + 1) w4 w') (.quiet 0 (.quiet 1 (.quiet 2 (.quiet 3 (.eff 4 (.eff 5 (.eff 6 (.eff 7 (.quiet 8 .done))))))))) (by kernel_rfl) (by kernel_rfl) (by kernel_rfl) (by kernel_rfl) (fun _ d _ _ _ h => by cases d <;> exact h) ((Kp.refl _ _).drew) ?_
      refine pw_quiet (v := .agg ca.toArray) rfl (by rfl) (fun wq hwq => run_load_blk 45 (.tmp 9) rfl g9 _ ca rfl (HX4.out.keep hwq (fun e => by have := HG9.out; omega)) _ Try.underlying45 rfl HCA.out.2.2.1) rfl ?_
      simp only [List.setIfInBounds_toArray, List.set_cons_zero, List.set_cons_succ]
      refine pw_quiet (v := .agg cb.toArray) rfl (by rfl) (fun wq hwq => run_load_blk 45 (.tmp 11) rfl g11 _ cb rfl (HA4.out.keep hwq (fun e => by have := HG9.out; have := HG11.out; omega)) _ Try.underlying45 rfl HCB.out.2.2.1) rfl ?_
      simp only [List.setIfInBounds_toArray, List.set_cons_zero, List.set_cons_succ]
      repeat (first
              | (refine pw_quiet (v := ?_) rfl (by rfl) (fun wq hwq => ?_) rfl ?_; rotate_left 1; (focus (go_simp; try (with_reducible rfl); done)); simp only [List.setIfInBounds_toArray, List.set_cons_zero, List.set_cons_succ])
              | (refine pw_skip rfl (by rfl) rfl ?_; simp only [List.setIfInBounds_toArray, List.set_cons_zero, List.set_cons_succ]))
      have HT0 := Lib.hid (HK4.out.kp0 ((Kp.refl _ w4).drew))
      have HS0 : Hid (Kp (fun b => b ≤ w.heap.size + 1 + 1 + 1) w4 w4.drew) := Lib.hid ((Kp.refl _ w4).drew)
      refine pw_eff rfl (by rfl) (fun K hK => ?_)
      refine wp_store_blk 45 (.tmp 4) (.tmp 29) rfl w.heap.size _ _ ca rfl rfl HT0.out.1 HCA.out.2.2.1 (len_of (T := 45) (by kernel_rfl) HCA.out.2.2.1) HCA.out.2.2.2 ?_
      intro x1 hA1 hK1
      have HT1 := Lib.hid (HT0.out.put4 hA1 hK1)
      have HS1 : Hid (Kp (fun b => b ≤ w.heap.size + 1 + 1 + 1) w4 x1) := Lib.hid (HS0.out.tr (hK1.mono (fun i hi e => by omega)))
      clear hA1 hK1
      refine hK (fun w' : World => Kp (fun b => b ≤ w.heap.size + 1 + 1 + 1) w4 w') _ _ (fun x h => h) HS1.out ?_
      clear hK K
      simp only [Act.put]
      refine pw_eff rfl (by rfl) (fun K hK => ?_)
      refine wp_store_blk 45 (.tmp 5) (.tmp 30) rfl (w.heap.size + 1) _ _ cb rfl rfl HT1.out.2.1 HCB.out.2.2.1 (len_of (T := 45) (by kernel_rfl) HCB.out.2.2.1) HCB.out.2.2.2 ?_
      intro x2 hA2 hK2
      have HT2 := Lib.hid (HT1.out.put5 hA2 hK2)
      have HS2 : Hid (Kp (fun b => b ≤ w.heap.size + 1 + 1 + 1) w4 x2) := Lib.hid (HS1.out.tr (hK2.mono (fun i hi e => by omega)))
      clear hA2 hK2
      refine hK (fun w' : World => Kp (fun b => b ≤ w.heap.size + 1 + 1 + 1) w4 w') _ _ (fun x h => h) HS2.out ?_
      clear hK K
      simp only [Act.put]
      refine pw_eff rfl (by rfl) (fun K hK => ?_)
      refine wp_store_blk 47 (.tmp 6) (.tmp 31) rfl (w.heap.size + 1 + 1) _ _ (i64s (F3.digs 16 ((0 : Nat) : Int))) rfl rfl HT2.out.2.2.1 (infoN _ (numLen _)) (by rw [i64s_len, numLen]; rfl) (i64s_ones _) ?_
      intro x3 hA3 hK3
      have HT3 := Lib.hid (HT2.out.put6 hA3 hK3)
      have HS3 : Hid (Kp (fun b => b ≤ w.heap.size + 1 + 1 + 1) w4 x3) := Lib.hid (HS2.out.tr (hK3.mono (fun i hi e => by omega)))
      clear hA3 hK3
      refine hK (fun w' : World => Kp (fun b => b ≤ w.heap.size + 1 + 1 + 1) w4 w') _ _ (fun x h => h) HS3.out ?_
      clear hK K
      simp only [Act.put]
      refine pw_eff rfl (by rfl) (fun K hK => ?_)
      refine wp_store_blk 47 (.tmp 7) (.tmp 32) rfl (w.heap.size + 1 + 1 + 1) _ _ (i64s (F3.digs 16 ((0 : Nat) : Int))) rfl rfl HT3.out.2.2.2.1 (infoN _ (numLen _)) (by rw [i64s_len, numLen]; rfl) (i64s_ones _) ?_
      intro x4 hA4 hK4
      have HT4 := Lib.hid (HT3.out.put7 hA4 hK4)
      have HS4 : Hid (Kp (fun b => b ≤ w.heap.size + 1 + 1 + 1) w4 x4) := Lib.hid (HS3.out.tr (hK4.mono (fun i hi e => by omega)))
      clear hA4 hK4
      refine hK (fun w' : World => Kp (fun b => b ≤ w.heap.size + 1 + 1 + 1) w4 w') _ _ (fun x h => h) HS4.out ?_
      clear hK K
      simp only [Act.put]
      refine pw_quiet (v := .bool false) rfl (by rfl) (fun wq _ => by rfl) rfl ?_
      refine pw_done ?_
      go_wp2
      refine ret_two 4 5 6 7 8 45 45 47 47 _ _ _ _ w.heap.size (w.heap.size + 1) (w.heap.size + 1 + 1) (w.heap.size + 1 + 1 + 1) ca cb (i64s (F3.digs 16 ((0 : Nat) : Int))) (i64s (F3.digs 16 ((0 : Nat) : Int))) _ _ _ _ rfl rfl rfl rfl rfl HT4.out.1 HT4.out.2.1 HT4.out.2.2.1 HT4.out.2.2.2.1 Try.underlying45 Try.underlying45 Try.underlying47 Try.underlying47 rfl rfl rfl rfl HCA.out.2.2.1 HCB.out.2.2.1 (infoN _ (numLen _)) (infoN _ (numLen _)) rfl (.bool false) rfl ?_
      refine ⟨ca, cb, ?_, HCA.out, HCB.out, HT4.out.2.2.2.2⟩
      rw [okN, if_neg (fun h => HDA.out h.1), okN, if_neg (fun h => HDA.out h.1), ok2, decide_eq_false (show ¬ (la.length = 32 ∧ lb.length = 32) from (fun h => HDA.out h.1))]
      rfl
  · cases bb
    · have HDA : Hid (la.length = 32) := Lib.hid (of_decide_eq_true HBA.out.symm)
      have HDB : Hid (¬ lb.length = 32) := Lib.hid (of_decide_eq_false HBB.out.symm)
      go_upto_region 4 with (
        (refine wl_store_blk rfl 45 (.tmp 11) (.tmp 21) rfl w3.heap.size _ _ cb rfl rfl (blk0 w3 _ _) HCB.out.2.2.1 (len_of (T := 45) (by kernel_rfl) HCB.out.2.2.1) HCB.out.2.2.2 ?_
         intro w4 hA4 hK4
         rw [← HE11.out]
         rw [← HE11.out] at hA4 hK4
         have HA4 := Lib.hid hA4
         have HK4 : Hid (TwoR w _ _ _ _ w4) := Lib.hid (((HK2.out.kp0 HK3.out).kp0 ((Kp.refl _ w3).alloc _)).kp hK4 (fun b e => by have := HG9.out; have := HG11.out; omega))
         have HX4 : Hid (Blk w4 g9 45 ca) := Lib.hid (((HA2.out.kp0 HK3.out).kp0 ((Kp.refl _ w3).alloc _)).keep hK4 (fun e => by have := HG11.out; omega))
         clear hA4 hK4))
      try simp only [Act.put]
      refine wp_region_wall [] (fun w' : World => Kp (fun b => b ≤ w.heap.size + 1 + 1 + 1) w4 w') (.quiet 0 (.quiet 1 (.quiet 2 (.quiet 3 (.eff 4 (.eff 5 (.eff 6 (.eff 7 (.quiet 8 .done))))))))) (by kernel_rfl) (by kernel_rfl) (by kernel_rfl) (by kernel_rfl) (fun _ d _ _ _ h => by cases d <;> exact h) ((Kp.refl _ _).drew) ?_
      refine pw_quiet (v := .agg ca.toArray) rfl (by rfl) (fun wq hwq => run_load_blk 45 (.tmp 9) rfl g9 _ ca rfl (HX4.out.keep hwq (fun e => by have := HG9.out; omega)) _ Try.underlying45 rfl HCA.out.2.2.1) rfl ?_
      simp only [List.setIfInBounds_toArray, List.set_cons_zero, List.set_cons_succ]
      refine pw_quiet (v := .agg cb.toArray) rfl (by rfl) (fun wq hwq => run_load_blk 45 (.tmp 11) rfl g11 _ cb rfl (HA4.out.keep hwq (fun e => by have := HG9.out; have := HG11.out; omega)) _ Try.underlying45 rfl HCB.out.2.2.1) rfl ?_
      simp only [List.setIfInBounds_toArray, List.set_cons_zero, List.set_cons_succ]
      repeat (first
              | (refine pw_quiet (v := ?_) rfl (by rfl) (fun wq hwq => ?_) rfl ?_; rotate_left 1; (focus (go_simp; try (with_reducible rfl); done)); simp only [List.setIfInBounds_toArray, List.set_cons_zero, List.set_cons_succ])
              | (refine pw_skip rfl (by rfl) rfl ?_; simp only [List.setIfInBounds_toArray, List.set_cons_zero, List.set_cons_succ]))
      have HT0 := Lib.hid (HK4.out.kp0 ((Kp.refl _ w4).drew))
      have HS0 : Hid (Kp (fun b => b ≤ w.heap.size + 1 + 1 + 1) w4 w4.drew) := Lib.hid ((Kp.refl _ w4).drew)
      refine pw_eff rfl (by rfl) (fun K hK => ?_)
      refine wp_store_blk 45 (.tmp 4) (.tmp 29) rfl w.heap.size _ _ ca rfl rfl HT0.out.1 HCA.out.2.2.1 (len_of (T := 45) (by kernel_rfl) HCA.out.2.2.1) HCA.out.2.2.2 ?_
      intro x1 hA1 hK1
      have HT1 := Lib.hid (HT0.out.put4 hA1 hK1)
      have HS1 : Hid (Kp (fun b => b ≤ w.heap.size + 1 + 1 + 1) w4 x1) := Lib.hid (HS0.out.tr (hK1.mono (fun i hi e => by omega)))
      clear hA1 hK1
      refine hK (fun w' : World => Kp (fun b => b ≤ w.heap.size + 1 + 1 + 1) w4 w') _ _ (fun x h => h) HS1.out ?_
      clear hK K
      simp only [Act.put]
      refine pw_eff rfl (by rfl) (fun K hK => ?_)
      refine wp_store_blk 45 (.tmp 5) (.tmp 30) rfl (w.heap.size + 1) _ _ cb rfl rfl HT1.out.2.1 HCB.out.2.2.1 (len_of (T := 45) (by kernel_rfl) HCB.out.2.2.1) HCB.out.2.2.2 ?_
      intro x2 hA2 hK2
      have HT2 := Lib.hid (HT1.out.put5 hA2 hK2)
      have HS2 : Hid (Kp (fun b => b ≤ w.heap.size + 1 + 1 + 1) w4 x2) := Lib.hid (HS1.out.tr (hK2.mono (fun i hi e => by omega)))
      clear hA2 hK2
      refine hK (fun w' : World => Kp (fun b => b ≤ w.heap.size + 1 + 1 + 1) w4 w') _ _ (fun x h => h) HS2.out ?_
      clear hK K
      simp only [Act.put]
      refine pw_eff rfl (by rfl) (fun K hK => ?_)
      refine wp_store_blk 47 (.tmp 6) (.tmp 31) rfl (w.heap.size + 1 + 1) _ _ (i64s (F3.digs 16 ((0 : Nat) : Int))) rfl rfl HT2.out.2.2.1 (infoN _ (numLen _)) (by rw [i64s_len, numLen]; rfl) (i64s_ones _) ?_
      intro x3 hA3 hK3
      have HT3 := Lib.hid (HT2.out.put6 hA3 hK3)
      have HS3 : Hid (Kp (fun b => b ≤ w.heap.size + 1 + 1 + 1) w4 x3) := Lib.hid (HS2.out.tr (hK3.mono (fun i hi e => by omega)))
      clear hA3 hK3
      refine hK (fun w' : World => Kp (fun b => b ≤ w.heap.size + 1 + 1 + 1) w4 w') _ _ (fun x h => h) HS3.out ?_
      clear hK K
      simp only [Act.put]
      refine pw_eff rfl (by rfl) (fun K hK => ?_)
      refine wp_store_blk 47 (.tmp 7) (.tmp 32) rfl (w.heap.size + 1 + 1 + 1) _ _ (i64s (F3.digs 16 ((0 : Nat) : Int))) rfl rfl HT3.out.2.2.2.1 (infoN _ (numLen _)) (by rw [i64s_len, numLen]; rfl) (i64s_ones _) ?_
      intro x4 hA4 hK4
      have HT4 := Lib.hid (HT3.out.put7 hA4 hK4)
      have HS4 : Hid (Kp (fun b => b ≤ w.heap.size + 1 + 1 + 1) w4 x4) := Lib.hid (HS3.out.tr (hK4.mono (fun i hi e => by omega)))
      clear hA4 hK4
      refine hK (fun w' : World => Kp (fun b => b ≤ w.heap.size + 1 + 1 + 1) w4 w') _ _ (fun x h => h) HS4.out ?_
      clear hK K
      simp only [Act.put]
      refine pw_quiet (v := .bool false) rfl (by rfl) (fun wq _ => by rfl) rfl ?_
      refine pw_done ?_
      go_wp2
      refine ret_two 4 5 6 7 8 45 45 47 47 _ _ _ _ w.heap.size (w.heap.size + 1) (w.heap.size + 1 + 1) (w.heap.size + 1 + 1 + 1) ca cb (i64s (F3.digs 16 ((0 : Nat) : Int))) (i64s (F3.digs 16 ((0 : Nat) : Int))) _ _ _ _ rfl rfl rfl rfl rfl HT4.out.1 HT4.out.2.1 HT4.out.2.2.1 HT4.out.2.2.2.1 Try.underlying45 Try.underlying45 Try.underlying47 Try.underlying47 rfl rfl rfl rfl HCA.out.2.2.1 HCB.out.2.2.1 (infoN _ (numLen _)) (infoN _ (numLen _)) rfl (.bool false) rfl ?_
      refine ⟨ca, cb, ?_, HCA.out, HCB.out, HT4.out.2.2.2.2⟩
      rw [okN, if_neg (fun h => HDB.out h.2), okN, if_neg (fun h => HDB.out h.2), ok2, decide_eq_false (show ¬ (la.length = 32 ∧ lb.length = 32) from (fun h => HDB.out h.2))]
      rfl
    · have HDA : Hid (la.length = 32) := Lib.hid (of_decide_eq_true HBA.out.symm)
      have HDB : Hid (lb.length = 32) := Lib.hid (of_decide_eq_true HBB.out.symm)
      go_upto_region 5 with (
        (refine wl_store_blk rfl 45 (.tmp 11) (.tmp 21) rfl w3.heap.size _ _ cb rfl rfl (blk0 w3 _ _) HCB.out.2.2.1 (len_of (T := 45) (by kernel_rfl) HCB.out.2.2.1) HCB.out.2.2.2 ?_
         intro w4 hA4 hK4
         rw [← HE11.out]
         rw [← HE11.out] at hA4 hK4
         have HA4 := Lib.hid hA4
         have HK4 : Hid (TwoR w _ _ _ _ w4) := Lib.hid (((HK2.out.kp0 HK3.out).kp0 ((Kp.refl _ w3).alloc _)).kp hK4 (fun b e => by have := HG9.out; have := HG11.out; omega))
         have HX4 : Hid (Blk w4 g9 45 ca) := Lib.hid (((HA2.out.kp0 HK3.out).kp0 ((Kp.refl _ w3).alloc _)).keep hK4 (fun e => by have := HG11.out; omega))
         clear hA4 hK4))
      try simp only [Act.put]
      refine wp_region_wall [] (fun w' : World => Kp (fun b => b ≤ w.heap.size + 1 + 1 + 1) w4 w') (.quiet 0 (.quiet 1 (.quiet 2 (.quiet 4 (.eff 3 (.eff 5 (.eff 6 (.eff 7 (.eff 8 (.eff 9 (.quiet 10 .done))))))))))) (by kernel_rfl) (by kernel_rfl) (by kernel_rfl) (by kernel_rfl) (fun _ d _ _ _ h => by cases d <;> exact h) ((Kp.refl _ _).drew) ?_
      refine pw_quiet (v := .agg ca.toArray) rfl (by rfl) (fun wq hwq => run_load_blk 45 (.tmp 9) rfl g9 _ ca rfl (HX4.out.keep hwq (fun e => by have := HG9.out; omega)) _ Try.underlying45 rfl HCA.out.2.2.1) rfl ?_
      simp only [List.setIfInBounds_toArray, List.set_cons_zero, List.set_cons_succ]
      refine pw_quiet (v := .agg cb.toArray) rfl (by rfl) (fun wq hwq => run_load_blk 45 (.tmp 11) rfl g11 _ cb rfl (HA4.out.keep hwq (fun e => by have := HG9.out; have := HG11.out; omega)) _ Try.underlying45 rfl HCB.out.2.2.1) rfl ?_
      simp only [List.setIfInBounds_toArray, List.set_cons_zero, List.set_cons_succ]
      repeat (first
              | (refine pw_quiet (v := ?_) rfl (by rfl) (fun wq hwq => ?_) rfl ?_; rotate_left 1; (focus (go_simp; try (with_reducible rfl); done)); simp only [List.setIfInBounds_toArray, List.set_cons_zero, List.set_cons_succ])
              | (refine pw_skip rfl (by rfl) rfl ?_; simp only [List.setIfInBounds_toArray, List.set_cons_zero, List.set_cons_succ]))
      refine pw_eff rfl (by rfl) (fun K hK => ?_)
      go_simp
      refine (read_any va la _ ((HA.out.keep0 HK4.out.2.2.2.2).drew) HDA.out (fun g hg => by have := HOA.out g hg; have := HK4.out.1.lt; simp; omega)).mono ?_
      obtain ⟨na, hna⟩ : ∃ n, n = leN la % 57896044618658097711785492504343953926634992332820282019728792003956564819968 % 57896044618658097711785492504343953926634992332820282019728792003956564819949 := ⟨_, rfl⟩
      rw [← hna]
      have HNA := Lib.hid hna
      clear hna
      rintro e w5 ⟨rfl, hk5⟩
      simp only []
      have HK5 : Hid (Kp0 w4 w5) := Lib.hid ((Kp.refl _ w4).drew.tr hk5)
      clear hk5
      refine hK (fun w' : World => Kp (fun b => b ≤ w.heap.size + 1 + 1 + 1) w4 w') _ _ (fun x h => h) (HK5.out.nil _) ?_
      clear hK K
      refine pw_eff rfl (by rfl) (fun K hK => ?_)
      go_simp
      refine (read_any vb lb _ ((HB.out.keep0 HK4.out.2.2.2.2).keep0 HK5.out) HDB.out (fun g hg => by have := HOB.out g hg; have := HK4.out.1.lt; have := HK5.out.size; omega)).mono ?_
      obtain ⟨nb, hnb⟩ : ∃ n, n = leN lb % 57896044618658097711785492504343953926634992332820282019728792003956564819968 % 57896044618658097711785492504343953926634992332820282019728792003956564819949 := ⟨_, rfl⟩
      rw [← hnb]
      have HNB := Lib.hid hnb
      clear hnb
      rintro e w6 ⟨rfl, hk6⟩
      simp only []
      have HK6 : Hid (Kp0 w4 w6) := Lib.hid (HK5.out.tr hk6)
      clear hk6
      refine hK (fun w' : World => Kp (fun b => b ≤ w.heap.size + 1 + 1 + 1) w4 w') _ _ (fun x h => h) (HK6.out.nil _) ?_
      clear hK K
      have HT0 := Lib.hid (HK4.out.kp0 HK6.out)
      have HS0 : Hid (Kp (fun b => b ≤ w.heap.size + 1 + 1 + 1) w4 w6) := Lib.hid (HK6.out.nil _)
      refine pw_eff rfl (by rfl) (fun K hK => ?_)
      refine wp_store_blk 45 (.tmp 4) (.tmp 33) rfl w.heap.size _ _ ca rfl rfl HT0.out.1 HCA.out.2.2.1 (len_of (T := 45) (by kernel_rfl) HCA.out.2.2.1) HCA.out.2.2.2 ?_
      intro x1 hA1 hK1
      have HT1 := Lib.hid (HT0.out.put4 hA1 hK1)
      have HS1 : Hid (Kp (fun b => b ≤ w.heap.size + 1 + 1 + 1) w4 x1) := Lib.hid (HS0.out.tr (hK1.mono (fun i hi e => by omega)))
      clear hA1 hK1
      refine hK (fun w' : World => Kp (fun b => b ≤ w.heap.size + 1 + 1 + 1) w4 w') _ _ (fun x h => h) HS1.out ?_
      clear hK K
      simp only [Act.put]
      refine pw_eff rfl (by rfl) (fun K hK => ?_)
      refine wp_store_blk 45 (.tmp 5) (.tmp 34) rfl (w.heap.size + 1) _ _ cb rfl rfl HT1.out.2.1 HCB.out.2.2.1 (len_of (T := 45) (by kernel_rfl) HCB.out.2.2.1) HCB.out.2.2.2 ?_
      intro x2 hA2 hK2
      have HT2 := Lib.hid (HT1.out.put5 hA2 hK2)
      have HS2 : Hid (Kp (fun b => b ≤ w.heap.size + 1 + 1 + 1) w4 x2) := Lib.hid (HS1.out.tr (hK2.mono (fun i hi e => by omega)))
      clear hA2 hK2
      refine hK (fun w' : World => Kp (fun b => b ≤ w.heap.size + 1 + 1 + 1) w4 w') _ _ (fun x h => h) HS2.out ?_
      clear hK K
      simp only [Act.put]
      refine pw_eff rfl (by rfl) (fun K hK => ?_)
      refine wp_store_blk 47 (.tmp 6) (.tmp 36) rfl (w.heap.size + 1 + 1) _ _ (i64s (F3.digs 16 (na : Int))) rfl rfl HT2.out.2.2.1 (infoN _ (numLen _)) (by rw [i64s_len, numLen]; rfl) (i64s_ones _) ?_
      intro x3 hA3 hK3
      have HT3 := Lib.hid (HT2.out.put6 hA3 hK3)
      have HS3 : Hid (Kp (fun b => b ≤ w.heap.size + 1 + 1 + 1) w4 x3) := Lib.hid (HS2.out.tr (hK3.mono (fun i hi e => by omega)))
      clear hA3 hK3
      refine hK (fun w' : World => Kp (fun b => b ≤ w.heap.size + 1 + 1 + 1) w4 w') _ _ (fun x h => h) HS3.out ?_
      clear hK K
      simp only [Act.put]
      refine pw_eff rfl (by rfl) (fun K hK => ?_)
      refine wp_store_blk 47 (.tmp 7) (.tmp 38) rfl (w.heap.size + 1 + 1 + 1) _ _ (i64s (F3.digs 16 (nb : Int))) rfl rfl HT3.out.2.2.2.1 (infoN _ (numLen _)) (by rw [i64s_len, numLen]; rfl) (i64s_ones _) ?_
      intro x4 hA4 hK4
      have HT4 := Lib.hid (HT3.out.put7 hA4 hK4)
      have HS4 : Hid (Kp (fun b => b ≤ w.heap.size + 1 + 1 + 1) w4 x4) := Lib.hid (HS3.out.tr (hK4.mono (fun i hi e => by omega)))
      clear hA4 hK4
      refine hK (fun w' : World => Kp (fun b => b ≤ w.heap.size + 1 + 1 + 1) w4 w') _ _ (fun x h => h) HS4.out ?_
      clear hK K
      simp only [Act.put]
      refine pw_quiet (v := .bool true) rfl (by rfl) (fun wq _ => by rfl) rfl ?_
      refine pw_done ?_
      go_wp2
      refine ret_two 4 5 6 7 8 45 45 47 47 _ _ _ _ w.heap.size (w.heap.size + 1) (w.heap.size + 1 + 1) (w.heap.size + 1 + 1 + 1) ca cb (i64s (F3.digs 16 (na : Int))) (i64s (F3.digs 16 (nb : Int))) _ _ _ _ rfl rfl rfl rfl rfl HT4.out.1 HT4.out.2.1 HT4.out.2.2.1 HT4.out.2.2.2.1 Try.underlying45 Try.underlying45 Try.underlying47 Try.underlying47 rfl rfl rfl rfl HCA.out.2.2.1 HCB.out.2.2.1 (infoN _ (numLen _)) (infoN _ (numLen _)) rfl (.bool true) rfl ?_
      refine ⟨ca, cb, ?_, HCA.out, HCB.out, HT4.out.2.2.2.2⟩
      rw [okN, if_pos ⟨HDA.out, HDB.out⟩, okN, if_pos ⟨HDA.out, HDB.out⟩, ok2, decide_eq_true (show la.length = 32 ∧ lb.length = 32 from ⟨HDA.out, HDB.out⟩), readN, if_pos HDA.out, readN, if_pos HDB.out, ← HNA.out, ← HNB.out]
      rfl
end Go.Proofs.Ytjfphmmhikamaaa
