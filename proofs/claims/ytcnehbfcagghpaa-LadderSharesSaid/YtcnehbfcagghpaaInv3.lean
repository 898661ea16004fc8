/- The reference's inverse and root. -/
import Derived.Test.YtcnehbfcagghpaaPw3
import Derived.Test.YtcnehbfcagghpaaRegs
import Derived.Deep.DeepCutAuto
namespace Go.Proofs.Ytcnehbfcagghpaa
open Go Go.RowKit
theorem run_load_arr {P : Program} {op : Oper} {a : Act} {w : World} (ty : TypeId) (x : Operand) (ho : op.op = .load ty x)
    (g : Nat) (T : TypeId) (ds : List Int) (hx : a.eval x = .pointer (some ⟨g, 0, none⟩)) (hA : Arr w g T ds) (d : TypeDesc)
    (hu : P.underlying ty = some d) (hd : d.isRow = true) (hi : (P.info? ty).map (·.size) = some (i64s ds).length) : (execOp a.eval op).run P w = .ok (.value (.agg (i64s ds).toArray)) w := by
  unfold execOp
  simp only [ho, hx, Instr.loadAt, Instr.sureAddr, Sem.run_bind, Sem.run_pure, Result.andThen_ok, run_loadVar_mid w g 0 ty (i64s ds) d hA.range hu hd hi]
set_option maxRecDepth 20000 in
set_option maxHeartbeats 4000000 in
theorem inv_any (a : Nat) (w : World) (ha : a < 57896044618658097711785492504343953926634992332820282019728792003956564819949) :
    Calls Try.prog 25 #[numV a] w fun e w' => e = .returned (numV (a ^ 57896044618658097711785492504343953926634992332820282019728792003956564819947 % 57896044618658097711785492504343953926634992332820282019728792003956564819949)) ∧ Kp0 w w' := by
  have HLa := Lib.hid ha
  clear ha
  unfold numV
  go_enter Try.func25, Try.ntmps25
  go_upto_region 1 with (fail)
  obtain ⟨w0, hw0⟩ : ∃ w0, w0 = (w.alloc (.cells (i64s (F3.digs 16 (a : Int))).toArray 46)).alloc (.cells (i64s (zeros 16)).toArray 46) := ⟨_, rfl⟩
  have HA0 : Hid (Arr w0 w.heap.size 46 (F3.digs 16 (a : Int)) ∧ Arr w0 (w.heap.size + 1) 46 (zeros 16) ∧ Kp0 w w0) := Lib.hid (by rw [hw0]; exact ⟨(arr0 w _ _).kp0 ((Kp.refl _ _).alloc _), arr1 w _ _ _, ((Kp.refl _ w).alloc _).alloc _⟩)
  change Code.wp _ _ _ _ ((w.alloc (.cells (i64s (F3.digs 16 (a : Int))).toArray 46)).alloc (.cells (i64s (zeros 16)).toArray 46))
  rw [← hw0]
  clear hw0
  refine wp_region_planS (fun w' : World => Kp (fun b => b = w.heap.size + 1) w0 w') [(0, true), (1, false), (2, false), (3, false)] (by kernel_rfl) (by kernel_rfl) (by kernel_rfl) (by kernel_rfl) (fun _ d _ _ _ h => by cases d <;> exact h) ((Kp.refl _ _).drew) ?_
  simp only [List.map_cons, List.map_nil, List.getElem?_toArray, List.getElem?_cons_zero, List.getElem?_cons_succ, Option.getD_some]
  refine planS_quiet (v := .agg (i64s (F3.digs 16 (a : Int))).toArray) (by rfl) (fun wq hwq => run_load_arr 46 (.tmp 1) rfl w.heap.size _ (F3.digs 16 (a : Int)) rfl (HA0.out.1.keep hwq (fun e => by omega)) _ Try.underlying46 rfl (infoN _ (numLen _))) ?_
  simp only [Act.put, List.setIfInBounds_toArray, List.set_cons_zero, List.set_cons_succ]
  refine planS_eff (by rfl) (fun K hK => ?_)
  go_simp
  refine (all_any 255 21 _ (by omega) (by omega) (by omega) (by omega)).mono ?_
  rintro e w1 ⟨v1, rfl, hv1, hk1, ho1⟩
  simp only []
  have hk1' : Kp0 w0 w1 := (Kp.refl _ w0).drew.tr hk1
  have HK1 := Lib.hid hk1'
  have HV1 := Lib.hid hv1
  have HO1 := Lib.hid ho1
  clear hk1 hk1' hv1 ho1
  refine hK (fun w' : World => Kp (fun b => b = w.heap.size + 1) w0 w') _ _ (fun x h => h) (HK1.out.nil _) ?_
  clear hK K
  refine planS_eff (by rfl) (fun K hK => ?_)
  go_simp
  refine (pow_any a v1 _ w1 HLa.out HV1.out HO1.out).mono ?_
  rw [show leN (allB 255 21) = 57896044618658097711785492504343953926634992332820282019728792003956564819947 by have := allB_val 255 21 (by omega) (by omega) (by omega) (by omega); omega]
  obtain ⟨m, hm⟩ : ∃ m, m = a ^ 57896044618658097711785492504343953926634992332820282019728792003956564819947 % 57896044618658097711785492504343953926634992332820282019728792003956564819949 := ⟨_, rfl⟩
  rw [← hm]
  have HM := Lib.hid hm
  clear hm
  rintro e w2 ⟨rfl, hk2⟩
  simp only []
  have HK2 : Hid (Kp0 w0 w2) := Lib.hid (HK1.out.tr hk2)
  clear hk2
  refine hK (fun w' : World => Kp (fun b => b = w.heap.size + 1) w0 w') _ _ (fun x h => h) (HK2.out.nil _) ?_
  clear hK K
  refine planS_eff (by rfl) (fun K hK => ?_)
  refine wp_store_arr 46 (.tmp 2) (.tmp 5) rfl (w.heap.size + 1) _ (zeros 16) (F3.digs 16 (m : Int)) rfl rfl (HA0.out.2.1.kp0 HK2.out) (infoN' _ (numLen _)) (numLen _).symm ?_
  intro w3 hA3 hK3
  have HA3 := Lib.hid hA3
  have HK3 : Hid (Kp (fun b => b = w.heap.size + 1) w0 w3) := Lib.hid ((HK2.out.nil _).tr hK3)
  clear hA3 hK3
  refine hK (fun w' : World => Kp (fun b => b = w.heap.size + 1) w0 w') _ _ (fun x h => h) HK3.out ?_
  clear hK K
  refine planS_nil ?_
  go_wp2
  refine ret_arr 2 46 46 (w.heap.size + 1) (F3.digs 16 (m : Int)) _ rfl rfl HA3.out Try.underlying46 rfl (infoN _ (numLen _)) rfl ?_
  exact ⟨by rw [← HM.out], HA0.out.2.2.trans HK3.out (fun _ _ h => h) (fun i hi e => by omega)⟩
theorem ret_arr2 {P : Program} {fn : Func} {R : Ending → World → Prop} {a : Act} {w : World} (t u : Tmp) (T U : TypeId) (g : Nat) (ds : List Int) (d : TypeDesc) (hr : fn.results = #[.cell t T, .tmp u]) (hx : a.tmps.getD t undef = .pointer (some ⟨g, 0, none⟩))
    (hA : Arr w g U ds) (hu : P.underlying T = some d) (hd : d.isRow = true) (hi : (P.info? T).map (·.size) = some (i64s ds).length) (hdf : a.defers = []) (v : Value) (hv : a.tmps.getD u undef = v) (hR : R (.returned (.tuple #[.agg (i64s ds).toArray, v])) w) : bodyPost P fn R .ret a w := by
  subst hv
  refine ⟨hdf, _, ?_, hR⟩
  have := run_loadVar_mid (P := P) w g 0 T (i64s ds) d hA.range hu hd hi
  rw [Array.getD_eq_getD_getElem?] at hx
  simp [results, hr, hx, asAddr, this]
section
variable {P : Program} {ops : Array Oper} {op : Oper} {a : Act} {w : World} {K : Act → World → Prop} {Q : Exit → Act → World → Prop} {E : Prop}
theorem step_load_arr (hgd : op.guard = none) (ty : TypeId) (x : Operand) (ho : op.op = .load ty x)
    (g : Nat) (T : TypeId) (ds : List Int) (hx : a.eval x = .pointer (some ⟨g, 0, none⟩)) (hA : Arr w g T ds) (d : TypeDesc)
    (hu : P.underlying ty = some d) (hd : d.isRow = true) (hi : (P.info? ty).map (·.size) = some (i64s ds).length)
    (h : K (a.put op.dst (.agg (i64s ds).toArray)) w) : if Region.wanted op (yielded ops a.tmps) = true then Oper.wp P op a w K Q else E := by
  rw [if_pos (by simp [Region.wanted, hgd])]
  exact wp_load_mid ty x ho g 0 hx (i64s ds) d hA.range hu hd hi h
theorem step_store_arr (hgd : op.guard = none) (ty : TypeId) (x y : Operand) (ho : op.op = .store ty x y)
    (g : Nat) (T : TypeId) (old ds : List Int) (hx : a.eval x = .pointer (some ⟨g, 0, none⟩)) (hy : a.eval y = .agg (i64s ds).toArray) (hA : Arr w g T old)
    (hi : (P.info? ty).map (·.size) = some (i64s ds).toArray.size) (hl : old.length = ds.length)
    (h : ∀ w', Arr w' g T ds → Kp (fun b => b = g) w w' → K (a.put op.dst undef) w') : if Region.wanted op (yielded ops a.tmps) = true then Oper.wp P op a w K Q else E := by
  rw [if_pos (by simp [Region.wanted, hgd])]
  exact wp_store_arr ty x y ho g T old ds hx hy hA hi hl h
end
theorem two_pow (e : Nat) (he : e = 14474011154664524427946373126085988481658748083205070504932198000989141204987) : 2 ^ e % 57896044618658097711785492504343953926634992332820282019728792003956564819949 = 19681161376707505956807079304988542015446066515923890162744021073123829784752 := by
  rw [← Nat.one_mul (2 ^ e), ← Nt.pm_eq 256 2 e _ 1 (by subst he; decide +kernel)]
  subst he
  decide +kernel
/-- What the root's steps keep. -/
def RootR (w : World) (g : Nat) (a X : Nat) (wx : World) : Prop := Arr wx w.heap.size 46 (F3.digs 16 (a : Int)) ∧ Arr wx (w.heap.size + 1) 46 (zeros 16) ∧ Arr wx g 46 (F3.digs 16 (X : Int)) ∧ Kp0 w wx ∧ w.heap.size + 1 < g
theorem RootR.kp0 {w wx wy : World} {g a X : Nat} (h : RootR w g a X wx) (hk : Kp0 wx wy) : RootR w g a X wy := ⟨h.1.kp0 hk, h.2.1.kp0 hk, h.2.2.1.kp0 hk, h.2.2.2.1.tr hk, h.2.2.2.2⟩
theorem RootR.put {w wx wy : World} {g a X Y : Nat} (h : RootR w g a X wx) (hA : Arr wy g 46 (F3.digs 16 (Y : Int))) (hk : Kp (fun b => b = g) wx wy) : RootR w g a Y wy :=
  ⟨h.1.keep hk (fun e => by have := h.2.2.2.2; omega), h.2.1.keep hk (fun e => by have := h.2.2.2.2; omega), hA, h.2.2.2.1.trans hk (fun _ _ h => h) (fun i hi e => by have := h.2.2.2.2; omega), h.2.2.2.2⟩
theorem wp_load_arrk {P : Program} {op : Oper} {a : Act} {w : World} {K : Act → World → Prop} {Q : Exit → Act → World → Prop} (ty : TypeId) (x : Operand) (ho : op.op = .load ty x)
    (g : Nat) (T : TypeId) (ds : List Int) (hx : a.eval x = .pointer (some ⟨g, 0, none⟩)) (hA : Arr w g T ds) (d : TypeDesc)
    (hu : P.underlying ty = some d) (hd : d.isRow = true) (hi : (P.info? ty).map (·.size) = some (i64s ds).length) {k : Tmp} (hk : op.dst = some k)
    (h : K { a with tmps := a.tmps.setIfInBounds k (.agg (i64s ds).toArray) } w) : op.wp P a w K Q :=
  wp_load_mid ty x ho g 0 hx (i64s ds) d hA.range hu hd hi (by rw [hk]; exact h)
theorem root_leaf {w w0 wx wy : World} {g a X : Nat} (h : Arr w0 w.heap.size 46 (F3.digs 16 (a : Int)) ∧ Arr w0 (w.heap.size + 1) 46 (zeros 16) ∧ Kp0 w w0) (hk : Kp0 w0 wx) (hg : w0.heap.size ≤ g) (hA : Arr wy g 46 (F3.digs 16 (X : Int))) (hs : Kp (fun b => b = g) wx wy) : RootR w g a X wy := by
  have h2 := h.2.1.lt
  exact ⟨(h.1.kp0 hk).keep hs (fun e => by omega), (h.2.1.kp0 hk).keep hs (fun e => by omega), hA, (h.2.2.tr hk).trans hs (fun _ _ h => h) (fun i hi e => by omega), by omega⟩
end Go.Proofs.Ytcnehbfcagghpaa
