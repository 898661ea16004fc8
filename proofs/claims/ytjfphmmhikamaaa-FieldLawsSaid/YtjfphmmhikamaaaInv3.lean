/- The reference's inverse and root. -/
import Derived.Test.YtjfphmmhikamaaaPow3
import Derived.Test.YtjfphmmhikamaaaReg3
import Derived.Test.YtjfphmmhikamaaaEq3
import Derived.Deep.DeepCutAuto
namespace Go.Proofs.Ytjfphmmhikamaaa
open Go Go.RowKit
theorem run_load_arr {P : Program} {op : Oper} {a : Act} {w : World} (ty : TypeId) (x : Operand) (ho : op.op = .load ty x)
    (g : Nat) (T : TypeId) (ds : List Int) (hx : a.eval x = .pointer (some ⟨g, 0, none⟩)) (hA : Arr w g T ds) (d : TypeDesc)
    (hu : P.underlying ty = some d) (hd : d.isRow = true) (hi : (P.info? ty).map (·.size) = some (i64s ds).length) : (execOp a.eval op).run P w = .ok (.value (.agg (i64s ds).toArray)) w := by
  unfold execOp
  simp only [ho, hx, Instr.loadAt, Instr.sureAddr, Sem.run_bind, Sem.run_pure, Result.andThen_ok, run_loadVar_mid w g 0 ty (i64s ds) d hA.range hu hd hi]
set_option maxRecDepth 20000 in
set_option maxHeartbeats 4000000 in
theorem inv_any (a : Nat) (w : World) (ha : a < 57896044618658097711785492504343953926634992332820282019728792003956564819949) :
    Calls Try.prog 42 #[numV a] w fun e w' => e = .returned (numV (a ^ 57896044618658097711785492504343953926634992332820282019728792003956564819947 % 57896044618658097711785492504343953926634992332820282019728792003956564819949)) ∧ Kp0 w w' := by
  have HLa := Lib.hid ha
  clear ha
  unfold numV
  go_enter Try.func42, Try.ntmps42
  go_upto_region 1 with (fail)
  obtain ⟨w0, hw0⟩ : ∃ w0, w0 = (w.alloc (.cells (i64s (F3.digs 16 (a : Int))).toArray 47)).alloc (.cells (i64s (zeros 16)).toArray 47) := ⟨_, rfl⟩
  have HA0 : Hid (Arr w0 w.heap.size 47 (F3.digs 16 (a : Int)) ∧ Arr w0 (w.heap.size + 1) 47 (zeros 16) ∧ Kp0 w w0) := Lib.hid (by rw [hw0]; exact ⟨(arr0 w _ _).kp0 ((Kp.refl _ _).alloc _), arr1 w _ _ _, ((Kp.refl _ w).alloc _).alloc _⟩)
  change Code.wp _ _ _ _ ((w.alloc (.cells (i64s (F3.digs 16 (a : Int))).toArray 47)).alloc (.cells (i64s (zeros 16)).toArray 47))
  rw [← hw0]
  clear hw0
  refine wp_region_planS (fun w' : World => Kp (fun b => b = w.heap.size + 1) w0 w') [(0, true), (1, false), (2, false), (3, false)] (by kernel_rfl) (by kernel_rfl) (by kernel_rfl) (by kernel_rfl) (fun _ d _ _ _ h => by cases d <;> exact h) ((Kp.refl _ _).drew) ?_
  simp only [List.map_cons, List.map_nil, List.getElem?_toArray, List.getElem?_cons_zero, List.getElem?_cons_succ, Option.getD_some]
  refine planS_quiet (v := .agg (i64s (F3.digs 16 (a : Int))).toArray) (by rfl) (fun wq hwq => run_load_arr 47 (.tmp 1) rfl w.heap.size _ (F3.digs 16 (a : Int)) rfl (HA0.out.1.keep hwq (fun e => by omega)) _ Try.underlying47 rfl (infoN _ (numLen _))) ?_
  simp only [Act.put, List.setIfInBounds_toArray, List.set_cons_zero, List.set_cons_succ]
  refine planS_eff (by rfl) (fun K hK => ?_)
  go_simp
  refine (all_any 255 21 _ (by omega) (by omega) (by omega) (by omega)).mono ?_
  rintro e w1 ⟨v1, rfl, hv1, hk1, ho1⟩
  simp only []
  have hk1' : Kp0 w0 w1 := (Kp.refl _ w0).drew.tr hk1
  have HK1 := Lib.hid hk1'
  have HV1 := Lib.hid hv1
  have HO1 := Lib.hid ho1
  clear hk1 hk1' hv1 ho1
  refine hK (fun w' : World => Kp (fun b => b = w.heap.size + 1) w0 w') _ _ (fun x h => h) (HK1.out.nil _) ?_
  clear hK K
  refine planS_eff (by rfl) (fun K hK => ?_)
  go_simp
  refine (pow_any a v1 _ w1 HLa.out HV1.out HO1.out).mono ?_
  rw [show leN (allB 255 21) = 57896044618658097711785492504343953926634992332820282019728792003956564819947 by have := allB_val 255 21 (by omega) (by omega) (by omega) (by omega); omega]
  obtain ⟨m, hm⟩ : ∃ m, m = a ^ 57896044618658097711785492504343953926634992332820282019728792003956564819947 % 57896044618658097711785492504343953926634992332820282019728792003956564819949 := ⟨_, rfl⟩
  rw [← hm]
  have HM := Lib.hid hm
  clear hm
  rintro e w2 ⟨rfl, hk2⟩
  simp only []
  have HK2 : Hid (Kp0 w0 w2) := Lib.hid (HK1.out.tr hk2)
  clear hk2
  refine hK (fun w' : World => Kp (fun b => b = w.heap.size + 1) w0 w') _ _ (fun x h => h) (HK2.out.nil _) ?_
  clear hK K
  refine planS_eff (by rfl) (fun K hK => ?_)
  refine wp_store_arr 47 (.tmp 2) (.tmp 5) rfl (w.heap.size + 1) _ (zeros 16) (F3.digs 16 (m : Int)) rfl rfl (HA0.out.2.1.kp0 HK2.out) (infoN' _ (numLen _)) (numLen _).symm ?_
  intro w3 hA3 hK3
  have HA3 := Lib.hid hA3
  have HK3 : Hid (Kp (fun b => b = w.heap.size + 1) w0 w3) := Lib.hid ((HK2.out.nil _).tr hK3)
  clear hA3 hK3
  refine hK (fun w' : World => Kp (fun b => b = w.heap.size + 1) w0 w') _ _ (fun x h => h) HK3.out ?_
  clear hK K
  refine planS_nil ?_
  go_wp2
  refine ret_arr 2 47 47 (w.heap.size + 1) (F3.digs 16 (m : Int)) _ rfl rfl HA3.out Try.underlying47 rfl (infoN _ (numLen _)) rfl ?_
  exact ⟨by rw [← HM.out], HA0.out.2.2.trans HK3.out (fun _ _ h => h) (fun i hi e => by omega)⟩
theorem ret_arr2 {P : Program} {fn : Func} {R : Ending → World → Prop} {a : Act} {w : World} (t u : Tmp) (T U : TypeId) (g : Nat) (ds : List Int) (d : TypeDesc) (hr : fn.results = #[.cell t T, .tmp u]) (hx : a.tmps.getD t undef = .pointer (some ⟨g, 0, none⟩))
    (hA : Arr w g U ds) (hu : P.underlying T = some d) (hd : d.isRow = true) (hi : (P.info? T).map (·.size) = some (i64s ds).length) (hdf : a.defers = []) (v : Value) (hv : a.tmps.getD u undef = v) (hR : R (.returned (.tuple #[.agg (i64s ds).toArray, v])) w) : bodyPost P fn R .ret a w := by
  subst hv
  refine ⟨hdf, _, ?_, hR⟩
  have := run_loadVar_mid (P := P) w g 0 T (i64s ds) d hA.range hu hd hi
  rw [Array.getD_eq_getD_getElem?] at hx
  simp [results, hr, hx, asAddr, this]
section
variable {P : Program} {ops : Array Oper} {op : Oper} {a : Act} {w : World} {K : Act → World → Prop} {Q : Exit → Act → World → Prop} {E : Prop}
theorem step_load_arr (hgd : op.guard = none) (ty : TypeId) (x : Operand) (ho : op.op = .load ty x)
    (g : Nat) (T : TypeId) (ds : List Int) (hx : a.eval x = .pointer (some ⟨g, 0, none⟩)) (hA : Arr w g T ds) (d : TypeDesc)
    (hu : P.underlying ty = some d) (hd : d.isRow = true) (hi : (P.info? ty).map (·.size) = some (i64s ds).length)
    (h : K (a.put op.dst (.agg (i64s ds).toArray)) w) : if Region.wanted op (yielded ops a.tmps) = true then Oper.wp P op a w K Q else E := by
  rw [if_pos (by simp [Region.wanted, hgd])]
  exact wp_load_mid ty x ho g 0 hx (i64s ds) d hA.range hu hd hi h
theorem step_store_arr (hgd : op.guard = none) (ty : TypeId) (x y : Operand) (ho : op.op = .store ty x y)
    (g : Nat) (T : TypeId) (old ds : List Int) (hx : a.eval x = .pointer (some ⟨g, 0, none⟩)) (hy : a.eval y = .agg (i64s ds).toArray) (hA : Arr w g T old)
    (hi : (P.info? ty).map (·.size) = some (i64s ds).toArray.size) (hl : old.length = ds.length)
    (h : ∀ w', Arr w' g T ds → Kp (fun b => b = g) w w' → K (a.put op.dst undef) w') : if Region.wanted op (yielded ops a.tmps) = true then Oper.wp P op a w K Q else E := by
  rw [if_pos (by simp [Region.wanted, hgd])]
  exact wp_store_arr ty x y ho g T old ds hx hy hA hi hl h
end
theorem two_pow (e : Nat) (he : e = 14474011154664524427946373126085988481658748083205070504932198000989141204987) : 2 ^ e % 57896044618658097711785492504343953926634992332820282019728792003956564819949 = 19681161376707505956807079304988542015446066515923890162744021073123829784752 := by
  rw [← Nat.one_mul (2 ^ e), ← Nt.pm_eq 256 2 e _ 1 (by subst he; decide +kernel)]
  subst he
  decide +kernel
/-- What the root's steps keep. -/
def RootR (w : World) (g : Nat) (a X : Nat) (wx : World) : Prop := Arr wx w.heap.size 47 (F3.digs 16 (a : Int)) ∧ Arr wx (w.heap.size + 1) 47 (zeros 16) ∧ Arr wx g 47 (F3.digs 16 (X : Int)) ∧ Kp0 w wx ∧ w.heap.size + 1 < g
theorem RootR.kp0 {w wx wy : World} {g a X : Nat} (h : RootR w g a X wx) (hk : Kp0 wx wy) : RootR w g a X wy := ⟨h.1.kp0 hk, h.2.1.kp0 hk, h.2.2.1.kp0 hk, h.2.2.2.1.tr hk, h.2.2.2.2⟩
theorem RootR.put {w wx wy : World} {g a X Y : Nat} (h : RootR w g a X wx) (hA : Arr wy g 47 (F3.digs 16 (Y : Int))) (hk : Kp (fun b => b = g) wx wy) : RootR w g a Y wy :=
  ⟨h.1.keep hk (fun e => by have := h.2.2.2.2; omega), h.2.1.keep hk (fun e => by have := h.2.2.2.2; omega), hA, h.2.2.2.1.trans hk (fun _ _ h => h) (fun i hi e => by have := h.2.2.2.2; omega), h.2.2.2.2⟩
theorem wp_load_arrk {P : Program} {op : Oper} {a : Act} {w : World} {K : Act → World → Prop} {Q : Exit → Act → World → Prop} (ty : TypeId) (x : Operand) (ho : op.op = .load ty x)
    (g : Nat) (T : TypeId) (ds : List Int) (hx : a.eval x = .pointer (some ⟨g, 0, none⟩)) (hA : Arr w g T ds) (d : TypeDesc)
    (hu : P.underlying ty = some d) (hd : d.isRow = true) (hi : (P.info? ty).map (·.size) = some (i64s ds).length) {k : Tmp} (hk : op.dst = some k)
    (h : K { a with tmps := a.tmps.setIfInBounds k (.agg (i64s ds).toArray) } w) : op.wp P a w K Q :=
  wp_load_mid ty x ho g 0 hx (i64s ds) d hA.range hu hd hi (by rw [hk]; exact h)
theorem root_leaf {w w0 wx wy : World} {g a X : Nat} (h : Arr w0 w.heap.size 47 (F3.digs 16 (a : Int)) ∧ Arr w0 (w.heap.size + 1) 47 (zeros 16) ∧ Kp0 w w0) (hk : Kp0 w0 wx) (hg : w0.heap.size ≤ g) (hA : Arr wy g 47 (F3.digs 16 (X : Int))) (hs : Kp (fun b => b = g) wx wy) : RootR w g a X wy := by
  have h2 := h.2.1.lt
  exact ⟨(h.1.kp0 hk).keep hs (fun e => by omega), (h.2.1.kp0 hk).keep hs (fun e => by omega), hA, (h.2.2.tr hk).trans hs (fun _ _ h => h) (fun i hi e => by omega), by omega⟩
set_option maxRecDepth 20000 in
set_option maxHeartbeats 4000000 in
theorem root_any (a : Nat) (w : World) (ha : a < 57896044618658097711785492504343953926634992332820282019728792003956564819949) :
    Calls Try.prog 45 #[numV a] w fun e w' => (∃ X, X = Nt.rootOf 57896044618658097711785492504343953926634992332820282019728792003956564819949 19681161376707505956807079304988542015446066515923890162744021073123829784752 a ∧ e = .returned (.tuple #[numV X, .bool (decide (X * X % 57896044618658097711785492504343953926634992332820282019728792003956564819949 = a))])) ∧ Kp0 w w' := by
  have HLa := Lib.hid ha
  clear ha
  unfold numV
  go_enter Try.func45, Try.ntmps45
  go_upto_region 1 with (fail)
  obtain ⟨w0, hw0⟩ : ∃ w0, w0 = (w.alloc (.cells (i64s (F3.digs 16 (a : Int))).toArray 47)).alloc (.cells (i64s (zeros 16)).toArray 47) := ⟨_, rfl⟩
  have HA0 : Hid (Arr w0 w.heap.size 47 (F3.digs 16 (a : Int)) ∧ Arr w0 (w.heap.size + 1) 47 (zeros 16) ∧ Kp0 w w0) := Lib.hid (by rw [hw0]; exact ⟨(arr0 w _ _).kp0 ((Kp.refl _ _).alloc _), arr1 w _ _ _, ((Kp.refl _ w).alloc _).alloc _⟩)
  change Code.wp _ _ _ _ ((w.alloc (.cells (i64s (F3.digs 16 (a : Int))).toArray 47)).alloc (.cells (i64s (zeros 16)).toArray 47))
  rw [← hw0]
  clear hw0
  obtain ⟨X, hX⟩ : ∃ X, X = a ^ leN (allB 252 2) % 57896044618658097711785492504343953926634992332820282019728792003956564819949 := ⟨_, rfl⟩
  have HX := Lib.hid hX
  clear hX
  go_cut [4] (fun p wx => ∃ g, p = .pointer (some ⟨g, 0, none⟩) ∧ RootR w g a X wx)
  case first =>
    refine wp_region_tree (fun w' : World => Kp0 w0 w') (.quiet 0 (.two 1 (.two 2 (.eff 3 (.eff 4 .done)) 3 (.eff 2 (.eff 4 .done))) 3 (.eff 1 (.eff 2 (.eff 4 .done))))) (by kernel_rfl) (by kernel_rfl) (by kernel_rfl) (by kernel_rfl) (fun _ d _ _ _ h => by cases d <;> exact h) ((Kp.refl _ _).drew) ?_
    refine pt_quiet (v := .agg (i64s (F3.digs 16 (a : Int))).toArray) rfl (by rfl) (fun wq hwq => run_load_arr 47 (.tmp 1) rfl w.heap.size _ (F3.digs 16 (a : Int)) rfl (HA0.out.1.kp0 hwq) _ Try.underlying47 rfl (infoN _ (numLen _))) rfl ?_
    simp only [List.setIfInBounds_toArray, List.set_cons_zero, List.set_cons_succ]
    refine ⟨pt_one rfl (by rfl) (fun K hK => ?_), pt_one rfl (by rfl) (fun K hK => ?_)⟩
    · go_simp
      refine (all_any 252 2 _ (by omega) (by omega) (by omega) (by omega)).mono ?_
      rintro e wa ⟨va, rfl, hva, hka, hoa⟩
      simp only []
      have HVA := Lib.hid hva
      have HOA := Lib.hid hoa
      have HKA := Lib.hid hka
      clear hva hoa hka
      refine hK (fun w' : World => Kp0 w0 w') _ _ (fun x h => h) ((Kp.refl _ w0).drew.tr HKA.out) ?_
      clear hK K
      refine ⟨pt_one rfl (by rfl) (fun K hK => ?_), pt_one rfl (by rfl) (fun K hK => ?_)⟩
      · go_simp
        refine (pow_any a va (allB 252 2) _ HLa.out HVA.out HOA.out).mono ?_
        rw [← HX.out]
        rintro e wp ⟨rfl, hkp⟩
        simp only []
        have HKP := Lib.hid hkp
        clear hkp
        refine hK (fun w' : World => Kp0 w0 w') _ _ (fun x h => h) (((Kp.refl _ w0).drew.tr HKA.out).tr HKP.out) ?_
        clear hK K
        refine pt_eff rfl (by rfl) (fun K hK => ?_)
        go_simp
        refine hK (fun w' : World => Kp0 w0 w') _ _ (fun x h => h) ((((Kp.refl _ w0).drew.tr HKA.out).tr HKP.out).alloc _) ?_
        clear hK K
        refine pt_eff rfl (by rfl) (fun K hK => ?_)
        refine wp_store_arr 47 (.tmp 4) (.tmp 7) rfl wp.heap.size _ (zeros 16) (F3.digs 16 (X : Int)) rfl rfl (arr0 wp _ (zeros 16)) (infoN' _ (numLen _)) (numLen _).symm ?_
        intro w7 hA7 hK7
        have hlt : w0.heap.size ≤ wp.heap.size := by have := (((Kp.refl _ w0).drew.tr HKA.out).tr HKP.out).size; omega
        have HR7 : Hid (RootR w wp.heap.size a X w7) := Lib.hid (root_leaf HA0.out ((((Kp.refl _ w0).drew.tr HKA.out).tr HKP.out).alloc _) hlt hA7 hK7)
        refine hK (fun w' : World => Kp0 w0 w') _ _ (fun x h => h) (((((Kp.refl _ w0).drew.tr HKA.out).tr HKP.out).alloc _).trans hK7 (fun _ _ h => h) (fun i hi e => by omega)) ?_
        clear hK K hA7 hK7 hlt
        refine pt_done ?_
        go_wp2
        go_meet
        exact ⟨_, rfl, HR7.out⟩
      · go_simp
        refine hK (fun w' : World => Kp0 w0 w') _ _ (fun x h => h) (((Kp.refl _ w0).drew.tr HKA.out).alloc _) ?_
        clear hK K
        refine pt_eff rfl (by rfl) (fun K hK => ?_)
        go_simp
        refine (pow_any a va (allB 252 2) _ HLa.out (HVA.out.alloc _) (fun g hg => by have := HOA.out g hg; simp; omega)).mono ?_
        rw [← HX.out]
        rintro e wp ⟨rfl, hkp⟩
        simp only []
        have HKP := Lib.hid hkp
        clear hkp
        refine hK (fun w' : World => Kp0 w0 w') _ _ (fun x h => h) ((((Kp.refl _ w0).drew.tr HKA.out).alloc _).tr HKP.out) ?_
        clear hK K
        refine pt_eff rfl (by rfl) (fun K hK => ?_)
        refine wp_store_arr 47 (.tmp 4) (.tmp 7) rfl wa.heap.size _ (zeros 16) (F3.digs 16 (X : Int)) rfl rfl ((arr0 wa _ (zeros 16)).kp0 HKP.out) (infoN' _ (numLen _)) (numLen _).symm ?_
        intro w7 hA7 hK7
        have hlt : w0.heap.size ≤ wa.heap.size := by have := ((Kp.refl _ w0).drew.tr HKA.out).size; omega
        have HR7 : Hid (RootR w wa.heap.size a X w7) := Lib.hid (root_leaf HA0.out ((((Kp.refl _ w0).drew.tr HKA.out).alloc _).tr HKP.out) hlt hA7 hK7)
        refine hK (fun w' : World => Kp0 w0 w') _ _ (fun x h => h) (((((Kp.refl _ w0).drew.tr HKA.out).alloc _).tr HKP.out).trans hK7 (fun _ _ h => h) (fun i hi e => by omega)) ?_
        clear hK K hA7 hK7 hlt
        refine pt_done ?_
        go_wp2
        go_meet
        exact ⟨_, rfl, HR7.out⟩
    · go_simp
      refine hK (fun w' : World => Kp0 w0 w') _ _ (fun x h => h) ((Kp.refl _ w0).drew.alloc _) ?_
      clear hK K
      refine pt_eff rfl (by rfl) (fun K hK => ?_)
      go_simp
      refine (all_any 252 2 _ (by omega) (by omega) (by omega) (by omega)).mono ?_
      rintro e wa ⟨va, rfl, hva, hka, hoa⟩
      simp only []
      have HVA := Lib.hid hva
      have HOA := Lib.hid hoa
      have HKA := Lib.hid hka
      clear hva hoa hka
      refine hK (fun w' : World => Kp0 w0 w') _ _ (fun x h => h) (((Kp.refl _ w0).drew.alloc _).tr HKA.out) ?_
      clear hK K
      refine pt_eff rfl (by rfl) (fun K hK => ?_)
      go_simp
      refine (pow_any a va (allB 252 2) _ HLa.out HVA.out HOA.out).mono ?_
      rw [← HX.out]
      rintro e wp ⟨rfl, hkp⟩
      simp only []
      have HKP := Lib.hid hkp
      clear hkp
      refine hK (fun w' : World => Kp0 w0 w') _ _ (fun x h => h) ((((Kp.refl _ w0).drew.alloc _).tr HKA.out).tr HKP.out) ?_
      clear hK K
      refine pt_eff rfl (by rfl) (fun K hK => ?_)
      refine wp_store_arr 47 (.tmp 4) (.tmp 7) rfl w0.heap.size _ (zeros 16) (F3.digs 16 (X : Int)) rfl rfl (((arr0 w0.drew _ (zeros 16)).kp0 HKA.out).kp0 HKP.out) (infoN' _ (numLen _)) (numLen _).symm ?_
      intro w7 hA7 hK7
      have hlt : w0.heap.size ≤ w0.heap.size := by omega
      have HR7 : Hid (RootR w w0.heap.size a X w7) := Lib.hid (root_leaf HA0.out ((((Kp.refl _ w0).drew.alloc _).tr HKA.out).tr HKP.out) hlt hA7 hK7)
      refine hK (fun w' : World => Kp0 w0 w') _ _ (fun x h => h) (((((Kp.refl _ w0).drew.alloc _).tr HKA.out).tr HKP.out).trans hK7 (fun _ _ h => h) (fun i hi e => by omega)) ?_
      clear hK K hA7 hK7 hlt
      refine pt_done ?_
      go_wp2
      go_meet
      exact ⟨_, rfl, HR7.out⟩
  case rest =>
    obtain ⟨g, rfl, hr⟩ := hcut
    have HR := Lib.hid hr
    clear hr
    have hxl : X < 57896044618658097711785492504343953926634992332820282019728792003956564819949 := by rw [HX.out]; exact Nat.mod_lt _ (by omega)
    have HXL := Lib.hid hxl
    obtain ⟨m, hm⟩ : ∃ m, m = X * X % 57896044618658097711785492504343953926634992332820282019728792003956564819949 := ⟨_, rfl⟩
    have HM := Lib.hid hm
    have HML : Hid (m < 57896044618658097711785492504343953926634992332820282019728792003956564819949) := Lib.hid (by rw [hm]; exact Nat.mod_lt _ (by omega))
    clear hm hxl
    go_upto_region 2 with (fail)
    refine wp_region_tree (fun w' : World => Kp0 wc w') (.quiet 0 (.quiet 1 (.quiet 3 (.eff 2 (.quiet 4 .done))))) (by kernel_rfl) (by kernel_rfl) (by kernel_rfl) (by kernel_rfl) (fun _ d _ _ _ h => by cases d <;> exact h) ((Kp.refl _ _).drew) ?_
    refine pt_quiet (v := .agg (i64s (F3.digs 16 (X : Int))).toArray) rfl (by rfl) (fun wq hwq => run_load_arr 47 (.tmp 4) rfl g _ (F3.digs 16 (X : Int)) rfl (HR.out.2.2.1.kp0 hwq) _ Try.underlying47 rfl (infoN _ (numLen _))) rfl ?_
    simp only [List.setIfInBounds_toArray, List.set_cons_zero, List.set_cons_succ]
    refine pt_quiet (v := .agg (i64s (F3.digs 16 (X : Int))).toArray) rfl (by rfl) (fun wq hwq => run_load_arr 47 (.tmp 4) rfl g _ (F3.digs 16 (X : Int)) rfl (HR.out.2.2.1.kp0 hwq) _ Try.underlying47 rfl (infoN _ (numLen _))) rfl ?_
    simp only [List.setIfInBounds_toArray, List.set_cons_zero, List.set_cons_succ]
    refine pt_quiet (v := .agg (i64s (F3.digs 16 (a : Int))).toArray) rfl (by rfl) (fun wq hwq => run_load_arr 47 (.tmp 1) rfl w.heap.size _ (F3.digs 16 (a : Int)) rfl (HR.out.1.kp0 hwq) _ Try.underlying47 rfl (infoN _ (numLen _))) rfl ?_
    simp only [List.setIfInBounds_toArray, List.set_cons_zero, List.set_cons_succ]
    refine pt_eff rfl (by rfl) (fun K hK => ?_)
    go_simp
    refine (mul_any X X _ HXL.out HXL.out).mono ?_
    rw [← HM.out]
    rintro e w2 ⟨rfl, hk2⟩
    simp only []
    have HR2 := Lib.hid ((HR.out.kp0 (Kp.refl _ wc).drew).kp0 hk2)
    refine hK (fun w' : World => Kp0 wc w') _ _ (fun x h => h) ((Kp.refl _ wc).drew.tr hk2) ?_
    clear hK K hk2
    refine pt_quiet (v := .bool (!(F3.digs 16 (m : Int) == F3.digs 16 (a : Int)))) rfl (by rfl) (fun wq _ => run_op_neq wq (.tmp 10) (.tmp 11) rfl (F3.digs 16 (m : Int)) (F3.digs 16 (a : Int)) rfl rfl Try.underlying47 Try.underlying2 (by kernel_rfl) (by kernel_rfl) (numLen _) (numLen _)) rfl ?_
    simp only [List.setIfInBounds_toArray, List.set_cons_zero, List.set_cons_succ]
    refine pt_done ?_
    rw [digs_beq m a HML.out HLa.out]
    obtain ⟨bq, hbq⟩ : ∃ bq, bq = decide (m = a) := ⟨_, rfl⟩
    rw [← hbq]
    have HBQ := Lib.hid hbq
    clear hbq
    go_upto_if 12 with (fail)
    obtain ⟨I, hI⟩ : ∃ I, I = 19681161376707505956807079304988542015446066515923890162744021073123829784752 := ⟨_, rfl⟩
    have HI := Lib.hid hI
    have HIL : Hid (I < 57896044618658097711785492504343953926634992332820282019728792003956564819949) := Lib.hid (by omega)
    clear hI
    obtain ⟨Y, hY⟩ : ∃ Y, Y = if m = a then X else X * I % 57896044618658097711785492504343953926634992332820282019728792003956564819949 := ⟨_, rfl⟩
    have HY := Lib.hid hY
    have HYL : Hid (Y < 57896044618658097711785492504343953926634992332820282019728792003956564819949) := Lib.hid (by
      rw [hY]
      split
      · exact HXL.out
      · exact Nat.mod_lt _ (by omega))
    clear hY
    go_cut [] (fun wx => RootR w g a Y wx)
    case first =>
      cases bq
      case true =>
        have HMA : Hid (m = a) := Lib.hid (of_decide_eq_true HBQ.out.symm)
        go_wp2
        go_meet
        rw [HY.out, if_pos HMA.out]
        exact HR2.out
      case false =>
        have HMA : Hid (¬ m = a) := Lib.hid (of_decide_eq_false HBQ.out.symm)
        go_upto_region 3 with (fail)
        refine wp_region_tree (fun _ : World => True) (.two 0 (.eff 1 (.eff 2 (.eff 3 (.eff 4 (.eff 5 .done))))) 1 (.two 0 (.eff 2 (.eff 3 (.eff 4 (.eff 5 .done)))) 2 (.two 0 (.eff 3 (.eff 4 (.eff 5 .done))) 3 (.eff 0 (.eff 4 (.eff 5 .done)))))) (by kernel_rfl) (by kernel_rfl) (by kernel_rfl) (by kernel_rfl) (fun _ d _ _ _ h => by cases d <;> exact h) trivial ?_
        refine ⟨pt_one rfl (by rfl) (fun K hK => ?_), pt_one rfl (by rfl) (fun K hK => ?_)⟩
        · refine wp_load_arrk 47 (.tmp 4) rfl g _ (F3.digs 16 (X : Int)) rfl (HR2.out.2.2.1.kp0 (Kp.refl _ w2).drew) _ Try.underlying47 rfl (infoN _ (numLen _)) rfl ?_
          simp only [List.setIfInBounds_toArray, List.set_cons_zero, List.set_cons_succ]
          refine hK (fun _ : World => True) _ _ (fun x h => h) trivial ?_
          clear hK K
          refine pt_eff rfl (by rfl) (fun K hK => ?_)
          go_simp
          refine (small_any 2 _ (by omega)).mono ?_
          rintro e w3 ⟨rfl, hk3⟩
          simp only []
          have HK3 : Hid (Kp0 w2 w3) := Lib.hid ((Kp.refl _ w2).drew.tr hk3)
          clear hk3
          refine hK (fun _ : World => True) _ _ (fun x h => h) trivial ?_
          clear hK K
          refine pt_eff rfl (by rfl) (fun K hK => ?_)
          go_simp
          refine (all_any 253 5 _ (by omega) (by omega) (by omega) (by omega)).mono ?_
          rintro e w4 ⟨v4, rfl, hv4, hk4, ho4⟩
          simp only []
          have HK4 : Hid (Kp0 w2 w4) := Lib.hid (HK3.out.tr hk4)
          have HV4 := Lib.hid hv4
          have HO4 := Lib.hid ho4
          clear hk4 hv4 ho4
          refine hK (fun _ : World => True) _ _ (fun x h => h) trivial ?_
          clear hK K
          refine pt_eff rfl (by rfl) (fun K hK => ?_)
          go_simp
          refine (pow_any 2 v4 (allB 253 5) _ (by omega) HV4.out HO4.out).mono ?_
          rw [two_pow (leN (allB 253 5)) (by have := allB_val 253 5 (by omega) (by omega) (by omega) (by omega); omega), ← HI.out]
          rintro e w5 ⟨rfl, hk5⟩
          simp only []
          have HK5 : Hid (Kp0 w2 w5) := Lib.hid (HK4.out.tr hk5)
          clear hk5
          refine hK (fun _ : World => True) _ _ (fun x h => h) trivial ?_
          clear hK K
          refine pt_eff rfl (by rfl) (fun K hK => ?_)
          go_simp
          refine (mul_any X I _ HXL.out HIL.out).mono ?_
          rintro e w6 ⟨rfl, hk6⟩
          simp only []
          have HR6 := Lib.hid (HR2.out.kp0 (HK5.out.tr hk6))
          clear hk6
          refine hK (fun _ : World => True) _ _ (fun x h => h) trivial ?_
          clear hK K
          obtain ⟨Z, hZ⟩ : ∃ Z, Z = X * I % 57896044618658097711785492504343953926634992332820282019728792003956564819949 := ⟨_, rfl⟩
          rw [← hZ]
          have HZ := Lib.hid hZ
          clear hZ
          refine pt_eff rfl (by rfl) (fun K hK => ?_)
          refine wp_store_arr 47 (.tmp 4) (.tmp 17) rfl g _ (F3.digs 16 (X : Int)) (F3.digs 16 (Z : Int)) rfl rfl HR6.out.2.2.1 (infoN' _ (numLen _)) (by rw [numLen, numLen]) ?_
          intro w7 hA7 hK7
          have HR7 := Lib.hid (HR6.out.put hA7 hK7)
          clear hA7 hK7
          refine hK (fun _ : World => True) _ _ (fun x h => h) trivial ?_
          clear hK K
          refine pt_done ?_
          go_wp2
          go_meet
          rw [HY.out, if_neg HMA.out, ← HZ.out]
          exact HR7.out
        · go_simp
          refine (small_any 2 _ (by omega)).mono ?_
          rintro e w3 ⟨rfl, hk3⟩
          simp only []
          have HK3 : Hid (Kp0 w2 w3) := Lib.hid ((Kp.refl _ w2).drew.tr hk3)
          clear hk3
          refine hK (fun _ : World => True) _ _ (fun x h => h) trivial ?_
          clear hK K
          refine ⟨pt_one rfl (by rfl) (fun K hK => ?_), pt_one rfl (by rfl) (fun K hK => ?_)⟩
          · refine wp_load_arrk 47 (.tmp 4) rfl g _ (F3.digs 16 (X : Int)) rfl (HR2.out.2.2.1.kp0 HK3.out) _ Try.underlying47 rfl (infoN _ (numLen _)) rfl ?_
            simp only [List.setIfInBounds_toArray, List.set_cons_zero, List.set_cons_succ]
            refine hK (fun _ : World => True) _ _ (fun x h => h) trivial ?_
            clear hK K
            refine pt_eff rfl (by rfl) (fun K hK => ?_)
            go_simp
            refine (all_any 253 5 _ (by omega) (by omega) (by omega) (by omega)).mono ?_
            rintro e w4 ⟨v4, rfl, hv4, hk4, ho4⟩
            simp only []
            have HK4 : Hid (Kp0 w2 w4) := Lib.hid (HK3.out.tr hk4)
            have HV4 := Lib.hid hv4
            have HO4 := Lib.hid ho4
            clear hk4 hv4 ho4
            refine hK (fun _ : World => True) _ _ (fun x h => h) trivial ?_
            clear hK K
            refine pt_eff rfl (by rfl) (fun K hK => ?_)
            go_simp
            refine (pow_any 2 v4 (allB 253 5) _ (by omega) HV4.out HO4.out).mono ?_
            rw [two_pow (leN (allB 253 5)) (by have := allB_val 253 5 (by omega) (by omega) (by omega) (by omega); omega), ← HI.out]
            rintro e w5 ⟨rfl, hk5⟩
            simp only []
            have HK5 : Hid (Kp0 w2 w5) := Lib.hid (HK4.out.tr hk5)
            clear hk5
            refine hK (fun _ : World => True) _ _ (fun x h => h) trivial ?_
            clear hK K
            refine pt_eff rfl (by rfl) (fun K hK => ?_)
            go_simp
            refine (mul_any X I _ HXL.out HIL.out).mono ?_
            rintro e w6 ⟨rfl, hk6⟩
            simp only []
            have HR6 := Lib.hid (HR2.out.kp0 (HK5.out.tr hk6))
            clear hk6
            refine hK (fun _ : World => True) _ _ (fun x h => h) trivial ?_
            clear hK K
            obtain ⟨Z, hZ⟩ : ∃ Z, Z = X * I % 57896044618658097711785492504343953926634992332820282019728792003956564819949 := ⟨_, rfl⟩
            rw [← hZ]
            have HZ := Lib.hid hZ
            clear hZ
            refine pt_eff rfl (by rfl) (fun K hK => ?_)
            refine wp_store_arr 47 (.tmp 4) (.tmp 17) rfl g _ (F3.digs 16 (X : Int)) (F3.digs 16 (Z : Int)) rfl rfl HR6.out.2.2.1 (infoN' _ (numLen _)) (by rw [numLen, numLen]) ?_
            intro w7 hA7 hK7
            have HR7 := Lib.hid (HR6.out.put hA7 hK7)
            clear hA7 hK7
            refine hK (fun _ : World => True) _ _ (fun x h => h) trivial ?_
            clear hK K
            refine pt_done ?_
            go_wp2
            go_meet
            rw [HY.out, if_neg HMA.out, ← HZ.out]
            exact HR7.out
          · go_simp
            refine (all_any 253 5 _ (by omega) (by omega) (by omega) (by omega)).mono ?_
            rintro e w4 ⟨v4, rfl, hv4, hk4, ho4⟩
            simp only []
            have HK4 : Hid (Kp0 w2 w4) := Lib.hid (HK3.out.tr hk4)
            have HV4 := Lib.hid hv4
            have HO4 := Lib.hid ho4
            clear hk4 hv4 ho4
            refine hK (fun _ : World => True) _ _ (fun x h => h) trivial ?_
            clear hK K
            refine ⟨pt_one rfl (by rfl) (fun K hK => ?_), pt_one rfl (by rfl) (fun K hK => ?_)⟩
            · refine wp_load_arrk 47 (.tmp 4) rfl g _ (F3.digs 16 (X : Int)) rfl (HR2.out.2.2.1.kp0 HK4.out) _ Try.underlying47 rfl (infoN _ (numLen _)) rfl ?_
              simp only [List.setIfInBounds_toArray, List.set_cons_zero, List.set_cons_succ]
              refine hK (fun _ : World => True) _ _ (fun x h => h) trivial ?_
              clear hK K
              refine pt_eff rfl (by rfl) (fun K hK => ?_)
              go_simp
              refine (pow_any 2 v4 (allB 253 5) _ (by omega) HV4.out HO4.out).mono ?_
              rw [two_pow (leN (allB 253 5)) (by have := allB_val 253 5 (by omega) (by omega) (by omega) (by omega); omega), ← HI.out]
              rintro e w5 ⟨rfl, hk5⟩
              simp only []
              have HK5 : Hid (Kp0 w2 w5) := Lib.hid (HK4.out.tr hk5)
              clear hk5
              refine hK (fun _ : World => True) _ _ (fun x h => h) trivial ?_
              clear hK K
              refine pt_eff rfl (by rfl) (fun K hK => ?_)
              go_simp
              refine (mul_any X I _ HXL.out HIL.out).mono ?_
              rintro e w6 ⟨rfl, hk6⟩
              simp only []
              have HR6 := Lib.hid (HR2.out.kp0 (HK5.out.tr hk6))
              clear hk6
              refine hK (fun _ : World => True) _ _ (fun x h => h) trivial ?_
              clear hK K
              obtain ⟨Z, hZ⟩ : ∃ Z, Z = X * I % 57896044618658097711785492504343953926634992332820282019728792003956564819949 := ⟨_, rfl⟩
              rw [← hZ]
              have HZ := Lib.hid hZ
              clear hZ
              refine pt_eff rfl (by rfl) (fun K hK => ?_)
              refine wp_store_arr 47 (.tmp 4) (.tmp 17) rfl g _ (F3.digs 16 (X : Int)) (F3.digs 16 (Z : Int)) rfl rfl HR6.out.2.2.1 (infoN' _ (numLen _)) (by rw [numLen, numLen]) ?_
              intro w7 hA7 hK7
              have HR7 := Lib.hid (HR6.out.put hA7 hK7)
              clear hA7 hK7
              refine hK (fun _ : World => True) _ _ (fun x h => h) trivial ?_
              clear hK K
              refine pt_done ?_
              go_wp2
              go_meet
              rw [HY.out, if_neg HMA.out, ← HZ.out]
              exact HR7.out
            · go_simp
              refine (pow_any 2 v4 (allB 253 5) _ (by omega) HV4.out HO4.out).mono ?_
              rw [two_pow (leN (allB 253 5)) (by have := allB_val 253 5 (by omega) (by omega) (by omega) (by omega); omega), ← HI.out]
              rintro e w5 ⟨rfl, hk5⟩
              simp only []
              have HK5 : Hid (Kp0 w2 w5) := Lib.hid (HK4.out.tr hk5)
              clear hk5
              refine hK (fun _ : World => True) _ _ (fun x h => h) trivial ?_
              clear hK K
              refine pt_eff rfl (by rfl) (fun K hK => ?_)
              refine wp_load_arrk 47 (.tmp 4) rfl g _ (F3.digs 16 (X : Int)) rfl (HR2.out.2.2.1.kp0 HK5.out) _ Try.underlying47 rfl (infoN _ (numLen _)) rfl ?_
              simp only [List.setIfInBounds_toArray, List.set_cons_zero, List.set_cons_succ]
              refine hK (fun _ : World => True) _ _ (fun x h => h) trivial ?_
              clear hK K
              refine pt_eff rfl (by rfl) (fun K hK => ?_)
              go_simp
              refine (mul_any X I _ HXL.out HIL.out).mono ?_
              rintro e w6 ⟨rfl, hk6⟩
              simp only []
              have HR6 := Lib.hid (HR2.out.kp0 (HK5.out.tr hk6))
              clear hk6
              refine hK (fun _ : World => True) _ _ (fun x h => h) trivial ?_
              clear hK K
              obtain ⟨Z, hZ⟩ : ∃ Z, Z = X * I % 57896044618658097711785492504343953926634992332820282019728792003956564819949 := ⟨_, rfl⟩
              rw [← hZ]
              have HZ := Lib.hid hZ
              clear hZ
              refine pt_eff rfl (by rfl) (fun K hK => ?_)
              refine wp_store_arr 47 (.tmp 4) (.tmp 17) rfl g _ (F3.digs 16 (X : Int)) (F3.digs 16 (Z : Int)) rfl rfl HR6.out.2.2.1 (infoN' _ (numLen _)) (by rw [numLen, numLen]) ?_
              intro w7 hA7 hK7
              have HR7 := Lib.hid (HR6.out.put hA7 hK7)
              clear hA7 hK7
              refine hK (fun _ : World => True) _ _ (fun x h => h) trivial ?_
              clear hK K
              refine pt_done ?_
              go_wp2
              go_meet
              rw [HY.out, if_neg HMA.out, ← HZ.out]
              exact HR7.out
    case rest =>
      have HR4 := Lib.hid hcut
      clear hcut
      obtain ⟨m2, hm2⟩ : ∃ m, m = Y * Y % 57896044618658097711785492504343953926634992332820282019728792003956564819949 := ⟨_, rfl⟩
      have HM2 := Lib.hid hm2
      have HML2 : Hid (m2 < 57896044618658097711785492504343953926634992332820282019728792003956564819949) := Lib.hid (by rw [hm2]; exact Nat.mod_lt _ (by omega))
      clear hm2
      go_upto_region 4 with (fail)
      refine wp_region_tree (fun w' : World => Kp (fun b => b = w.heap.size + 1) wc w') (.quiet 0 (.quiet 1 (.quiet 2 (.quiet 4 (.eff 3 (.quiet 5 (.eff 6 (.quiet 7 .done)))))))) (by kernel_rfl) (by kernel_rfl) (by kernel_rfl) (by kernel_rfl) (fun _ d _ _ _ h => by cases d <;> exact h) ((Kp.refl _ _).drew) ?_
      refine pt_quiet (v := .agg (i64s (F3.digs 16 (Y : Int))).toArray) rfl (by rfl) (fun wq hwq => run_load_arr 47 (.tmp 4) rfl g _ (F3.digs 16 (Y : Int)) rfl (HR4.out.2.2.1.keep hwq (fun e => by have := HR4.out.2.2.2.2; omega)) _ Try.underlying47 rfl (infoN _ (numLen _))) rfl ?_
      simp only [List.setIfInBounds_toArray, List.set_cons_zero, List.set_cons_succ]
      refine pt_quiet (v := .agg (i64s (F3.digs 16 (Y : Int))).toArray) rfl (by rfl) (fun wq hwq => run_load_arr 47 (.tmp 4) rfl g _ (F3.digs 16 (Y : Int)) rfl (HR4.out.2.2.1.keep hwq (fun e => by have := HR4.out.2.2.2.2; omega)) _ Try.underlying47 rfl (infoN _ (numLen _))) rfl ?_
      simp only [List.setIfInBounds_toArray, List.set_cons_zero, List.set_cons_succ]
      refine pt_quiet (v := .agg (i64s (F3.digs 16 (Y : Int))).toArray) rfl (by rfl) (fun wq hwq => run_load_arr 47 (.tmp 4) rfl g _ (F3.digs 16 (Y : Int)) rfl (HR4.out.2.2.1.keep hwq (fun e => by have := HR4.out.2.2.2.2; omega)) _ Try.underlying47 rfl (infoN _ (numLen _))) rfl ?_
      simp only [List.setIfInBounds_toArray, List.set_cons_zero, List.set_cons_succ]
      refine pt_quiet (v := .agg (i64s (F3.digs 16 (a : Int))).toArray) rfl (by rfl) (fun wq hwq => run_load_arr 47 (.tmp 1) rfl w.heap.size _ (F3.digs 16 (a : Int)) rfl (HR4.out.1.keep hwq (fun e => by omega)) _ Try.underlying47 rfl (infoN _ (numLen _))) rfl ?_
      simp only [List.setIfInBounds_toArray, List.set_cons_zero, List.set_cons_succ]
      refine pt_eff rfl (by rfl) (fun K hK => ?_)
      go_simp
      refine (mul_any Y Y _ HYL.out HYL.out).mono ?_
      rw [← HM2.out]
      rintro e w5 ⟨rfl, hk5⟩
      simp only []
      have HR5 := Lib.hid ((HR4.out.kp0 (Kp.refl _ wc).drew).kp0 hk5)
      have HK5 : Hid (Kp0 wc w5) := Lib.hid ((Kp.refl _ wc).drew.tr hk5)
      clear hk5
      refine hK (fun w' : World => Kp (fun b => b = w.heap.size + 1) wc w') _ _ (fun x h => h) (HK5.out.nil _) ?_
      clear hK K
      refine pt_quiet (v := .bool (F3.digs 16 (m2 : Int) == F3.digs 16 (a : Int))) rfl (by rfl) (fun wq _ => run_op_eql wq (.tmp 21) (.tmp 22) rfl (F3.digs 16 (m2 : Int)) (F3.digs 16 (a : Int)) rfl rfl Try.underlying47 Try.underlying2 (by kernel_rfl) (by kernel_rfl) (numLen _) (numLen _)) rfl ?_
      simp only [List.setIfInBounds_toArray, List.set_cons_zero, List.set_cons_succ]
      refine pt_eff rfl (by rfl) (fun K hK => ?_)
      refine wp_store_arr 47 (.tmp 2) (.tmp 18) rfl (w.heap.size + 1) _ (zeros 16) (F3.digs 16 (Y : Int)) rfl rfl HR5.out.2.1 (infoN' _ (numLen _)) (numLen _).symm ?_
      intro w7 hA7 hK7
      have HA7 := Lib.hid hA7
      have HK7 : Hid (Kp (fun b => b = w.heap.size + 1) wc w7) := Lib.hid ((HK5.out.nil _).tr hK7)
      clear hA7 hK7
      refine hK (fun w' : World => Kp (fun b => b = w.heap.size + 1) wc w') _ _ (fun x h => h) HK7.out ?_
      clear hK K
      refine pt_quiet (v := .bool (F3.digs 16 (m2 : Int) == F3.digs 16 (a : Int))) rfl (by rfl) (fun wq _ => by rfl) rfl ?_
      refine pt_done ?_
      go_wp2
      refine ret_arr2 2 3 47 47 (w.heap.size + 1) (F3.digs 16 (Y : Int)) _ rfl rfl HA7.out Try.underlying47 rfl (infoN _ (numLen _)) rfl (.bool (F3.digs 16 (m2 : Int) == F3.digs 16 (a : Int))) rfl ?_
      refine ⟨⟨Y, ?_, ?_⟩, HR4.out.2.2.2.1.trans HK7.out (fun _ _ h => h) (fun i hi e => by omega)⟩
      · rw [HY.out, HM.out, HX.out, HI.out, Nt.rootOf, show leN (allB 252 2) = (57896044618658097711785492504343953926634992332820282019728792003956564819949 + 3) / 8 by have := allB_val 252 2 (by omega) (by omega) (by omega) (by omega); omega]
      · rw [digs_beq m2 a HML2.out HLa.out, HM2.out]
end Go.Proofs.Ytjfphmmhikamaaa
