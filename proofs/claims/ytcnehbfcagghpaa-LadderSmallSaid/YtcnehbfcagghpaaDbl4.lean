/- The reference's ladder: doubling. -/
import Derived.Test.YtcnehbfcagghpaaInv3
import Derived.Test.YtcnehbfcagghpaaBlk
import Derived.Test.YtcnehbfcagghpaaRegs
import Derived.Test.YtcnehbfcagghpaaCurve
import Derived.Deep.DeepCutAuto
namespace Go.Proofs.Ytcnehbfcagghpaa
open Go Go.RowKit
open Edw (nA nS nM)
/-- A point of the reference: X and Z. -/
def ptL (x z : Nat) : List Int := F3.digs 16 (x : Int) ++ F3.digs 16 (z : Int)
def ptV (x z : Nat) : Value := .agg (i64s (ptL x z)).toArray
def zpt : List Int := zeros 16 ++ zeros 16
theorem ptL_len (x z : Nat) : (ptL x z).length = 32 := by simp [ptL, numLen]
theorem infoT (x z : Nat) : (Try.prog.info? 50).map (·.size) = some (i64s (ptL x z)).length := by rw [i64s_len, ptL_len]; kernel_rfl
theorem pt_x {w : World} {g : Nat} {T : TypeId} {x z : Nat} (h : Arr w g T (ptL x z)) : w.rangeAt g 0 (i64s (F3.digs 16 (x : Int))) := by
  intro j v hv
  have hj : j < 16 := by
    have := (List.getElem?_eq_some_iff.1 hv).1
    rwa [i64s_len, numLen] at this
  rw [Nat.zero_add, blk_cell h j, ← hv]
  simp only [i64s, ptL, List.map_append, List.getElem?_toArray]
  rw [List.getElem?_append_left (by simp [numLen]; omega)]
theorem pt_z {w : World} {g : Nat} {T : TypeId} {x z : Nat} (h : Arr w g T (ptL x z)) : w.rangeAt g 16 (i64s (F3.digs 16 (z : Int))) := by
  intro j v hv
  rw [blk_cell h, ← hv]
  simp only [i64s, ptL, List.map_append, List.getElem?_toArray]
  rw [List.getElem?_append_right (by simp [numLen])]
  simp [numLen]
theorem run_load_mid {P : Program} {op : Oper} {a : Act} {w : World} (ty : TypeId) (x : Operand) (ho : op.op = .load ty x)
    (g o : Nat) (cs : List Value) (hx : a.eval x = .pointer (some ⟨g, o, none⟩)) (hA : w.rangeAt g o cs) (d : TypeDesc)
    (hu : P.underlying ty = some d) (hd : d.isRow = true) (hi : (P.info? ty).map (·.size) = some cs.length) : (execOp a.eval op).run P w = .ok (.value (.agg cs.toArray)) w := by
  unfold execOp
  simp only [ho, hx, Instr.loadAt, Instr.sureAddr, Sem.run_bind, Sem.run_pure, Result.andThen_ok, run_loadVar_mid w g o ty cs d hA hu hd hi]
theorem build_pt (X Z : Nat) (w : World) : (Instr.build 50 #[(0, .agg (i64s (F3.digs 16 (X : Int))).toArray), (1, .agg (i64s (F3.digs 16 (Z : Int))).toArray)]).run Try.prog w = .ok (.agg (i64s (ptL X Z)).toArray) w := by kernel_rfl
theorem run_build_pt (w : World) (op : Oper) (a : Act) (t u : Tmp) (ho : op.op = .build 50 #[(0, .tmp t), (1, .tmp u)]) (X Z : Nat) (hx : a.eval (.tmp t) = .agg (i64s (F3.digs 16 (X : Int))).toArray) (hz : a.eval (.tmp u) = .agg (i64s (F3.digs 16 (Z : Int))).toArray) :
    (execOp a.eval op).run Try.prog w = .ok (.value (.agg (i64s (ptL X Z)).toArray)) w := by
  have e : Array.map (fun x : Nat × Operand => (x.1, a.eval x.2)) #[(0, .tmp t), (1, .tmp u)] = #[(0, .agg (i64s (F3.digs 16 (X : Int))).toArray), (1, .agg (i64s (F3.digs 16 (Z : Int))).toArray)] := by
    simp [hx, hz]
  have hb := build_pt X Z w
  unfold execOp
  simp only [ho]
  rw [e]
  simp [hb]
/-- What doubling keeps: the point, the result. -/
def DblS (w : World) (x z : Nat) (wx : World) : Prop := Arr wx w.heap.size 50 (ptL x z) ∧ Arr wx (w.heap.size + 1) 50 zpt ∧ Kp0 w wx
theorem DblS.start (w : World) (x z : Nat) : DblS w x z ((w.alloc (.cells (i64s (ptL x z)).toArray 50)).alloc (.cells (i64s zpt).toArray 50)) :=
  ⟨(arr0 w _ _).kp0 ((Kp.refl _ _).alloc _), arr1 w _ _ _, ((Kp.refl _ w).alloc _).alloc _⟩
theorem DblS.kp0 {w wx wy : World} {x z : Nat} (h : DblS w x z wx) (hk : Kp0 wx wy) : DblS w x z wy := ⟨h.1.kp0 hk, h.2.1.kp0 hk, h.2.2.tr hk⟩
abbrev pN : Nat := 57896044618658097711785492504343953926634992332820282019728792003956564819949
set_option maxRecDepth 20000 in
set_option maxHeartbeats 8000000 in
theorem dbl_any (x z : Nat) (w : World) (hx : x < 57896044618658097711785492504343953926634992332820282019728792003956564819949) (hz : z < 57896044618658097711785492504343953926634992332820282019728792003956564819949) :
    Calls Try.prog 22 #[ptV x z] w fun e w' => e = .returned (ptV (Edw.dXN 57896044618658097711785492504343953926634992332820282019728792003956564819949 x z) (Edw.dZN 57896044618658097711785492504343953926634992332820282019728792003956564819949 x z)) ∧ Kp0 w w' := by
  obtain ⟨s, hs⟩ : ∃ v, v = nA 57896044618658097711785492504343953926634992332820282019728792003956564819949 x z := ⟨_, rfl⟩
  obtain ⟨d, hd⟩ : ∃ v, v = nS 57896044618658097711785492504343953926634992332820282019728792003956564819949 x z := ⟨_, rfl⟩
  obtain ⟨ss, hss⟩ : ∃ v, v = nM 57896044618658097711785492504343953926634992332820282019728792003956564819949 s s := ⟨_, rfl⟩
  obtain ⟨dd, hdd⟩ : ∃ v, v = nM 57896044618658097711785492504343953926634992332820282019728792003956564819949 d d := ⟨_, rfl⟩
  obtain ⟨c, hc⟩ : ∃ v, v = nS 57896044618658097711785492504343953926634992332820282019728792003956564819949 ss dd := ⟨_, rfl⟩
  obtain ⟨X, hX⟩ : ∃ v, v = nM 57896044618658097711785492504343953926634992332820282019728792003956564819949 ss dd := ⟨_, rfl⟩
  obtain ⟨m, hm⟩ : ∃ v, v = nM 57896044618658097711785492504343953926634992332820282019728792003956564819949 121666 c := ⟨_, rfl⟩
  obtain ⟨t, ht⟩ : ∃ v, v = nA 57896044618658097711785492504343953926634992332820282019728792003956564819949 dd m := ⟨_, rfl⟩
  obtain ⟨Z, hZ⟩ : ∃ v, v = nM 57896044618658097711785492504343953926634992332820282019728792003956564819949 c t := ⟨_, rfl⟩
  have bs : s < 57896044618658097711785492504343953926634992332820282019728792003956564819949 := by rw [hs]; exact Nat.mod_lt _ (by omega)
  have bd : d < 57896044618658097711785492504343953926634992332820282019728792003956564819949 := by rw [hd]; exact Nat.mod_lt _ (by omega)
  have bss : ss < 57896044618658097711785492504343953926634992332820282019728792003956564819949 := by rw [hss]; exact Nat.mod_lt _ (by omega)
  have bdd : dd < 57896044618658097711785492504343953926634992332820282019728792003956564819949 := by rw [hdd]; exact Nat.mod_lt _ (by omega)
  have bc : c < 57896044618658097711785492504343953926634992332820282019728792003956564819949 := by rw [hc]; exact Nat.mod_lt _ (by omega)
  have bX : X < 57896044618658097711785492504343953926634992332820282019728792003956564819949 := by rw [hX]; exact Nat.mod_lt _ (by omega)
  have bm : m < 57896044618658097711785492504343953926634992332820282019728792003956564819949 := by rw [hm]; exact Nat.mod_lt _ (by omega)
  have bt : t < 57896044618658097711785492504343953926634992332820282019728792003956564819949 := by rw [ht]; exact Nat.mod_lt _ (by omega)
  have bZ : Z < 57896044618658097711785492504343953926634992332820282019728792003956564819949 := by rw [hZ]; exact Nat.mod_lt _ (by omega)
  have Cs : Hid (∀ w : World, Calls Try.prog 36 #[numV x, numV z] w fun e w' => e = .returned (numV s) ∧ Kp0 w w') := Lib.hid (fun w => by rw [hs]; exact add_any x z _ hx hz)
  have Cd : Hid (∀ w : World, Calls Try.prog 35 #[numV x, numV z] w fun e w' => e = .returned (numV d) ∧ Kp0 w w') := Lib.hid (fun w => by rw [hd]; exact sub_any x z _ hx hz)
  have Css : Hid (∀ w : World, Calls Try.prog 24 #[numV s, numV s] w fun e w' => e = .returned (numV ss) ∧ Kp0 w w') := Lib.hid (fun w => by rw [hss]; exact mul_any s s _ bs bs)
  have Cdd : Hid (∀ w : World, Calls Try.prog 24 #[numV d, numV d] w fun e w' => e = .returned (numV dd) ∧ Kp0 w w') := Lib.hid (fun w => by rw [hdd]; exact mul_any d d _ bd bd)
  have Cc : Hid (∀ w : World, Calls Try.prog 35 #[numV ss, numV dd] w fun e w' => e = .returned (numV c) ∧ Kp0 w w') := Lib.hid (fun w => by rw [hc]; exact sub_any ss dd _ bss bdd)
  have CX : Hid (∀ w : World, Calls Try.prog 24 #[numV ss, numV dd] w fun e w' => e = .returned (numV X) ∧ Kp0 w w') := Lib.hid (fun w => by rw [hX]; exact mul_any ss dd _ bss bdd)
  have Cm : Hid (∀ w : World, Calls Try.prog 24 #[numV (121666), numV c] w fun e w' => e = .returned (numV m) ∧ Kp0 w w') := Lib.hid (fun w => by rw [hm]; exact mul_any 121666 c _ (by omega) bc)
  have Ct : Hid (∀ w : World, Calls Try.prog 36 #[numV dd, numV m] w fun e w' => e = .returned (numV t) ∧ Kp0 w w') := Lib.hid (fun w => by rw [ht]; exact add_any dd m _ bdd bm)
  have CZ : Hid (∀ w : World, Calls Try.prog 24 #[numV c, numV t] w fun e w' => e = .returned (numV Z) ∧ Kp0 w w') := Lib.hid (fun w => by rw [hZ]; exact mul_any c t _ bc bt)
  have C1 : Hid (∀ w : World, Calls Try.prog 20 #[.int .i64 121666] w fun e w' => e = .returned (numV 121666) ∧ Kp0 w w') := Lib.hid (fun w => small_any 121666 w (by omega))
  have HR : Hid (Edw.dXN 57896044618658097711785492504343953926634992332820282019728792003956564819949 x z = X ∧ Edw.dZN 57896044618658097711785492504343953926634992332820282019728792003956564819949 x z = Z) := Lib.hid (by subst hZ ht hm hX hc hdd hss hd hs; exact ⟨rfl, rfl⟩)
  rw [HR.out.1, HR.out.2]
  clear HR hs hd hss hdd hc hX hm ht hZ bs bd bss bdd bc bX bm bt bZ hx hz
  unfold ptV
  go_enter Try.func22, Try.ntmps22
  go_upto_region 1 with (fail)
  have HD0 := Lib.hid (DblS.start w x z)
  change Code.wp _ _ _ _ ((w.alloc (.cells (i64s (ptL x z)).toArray 50)).alloc (.cells (i64s zpt).toArray 50))
  generalize ((w.alloc (.cells (i64s (ptL x z)).toArray 50)).alloc (.cells (i64s zpt).toArray 50)) = w0 at HD0
  unfold numV at Cs Cd Css Cdd Cc CX Cm Ct CZ C1
  go_cut [3, 4] (fun p q wx => ∃ g h, p = .pointer (some ⟨g, 0, none⟩) ∧ q = .pointer (some ⟨h, 0, none⟩) ∧ Arr wx g 46 (F3.digs 16 (s : Int)) ∧ Arr wx h 46 (F3.digs 16 (d : Int)) ∧ DblS w x z wx)
  case first =>
    have HK0 : Hid (Kp0 w0.drew w0.drew) := Lib.hid (Kp.refl _ _)
    refine wp_region_tree3 (fun w' : World => Kp0 w0.drew w') (.quiet 0 (.quiet 1 (.quiet 2 (.quiet 3 (.quiet 5 (.quiet 6 (.quiet 7 (.quiet 8 (.three 4 (.three 9 (.two 10 (.eff 11 (.eff 12 (.eff 13 .done))) 11 (.eff 10 (.eff 12 (.eff 13 .done)))) 10 (.two 9 (.eff 11 (.eff 12 (.eff 13 .done))) 11 (.eff 9 (.eff 12 (.eff 13 .done)))) 11 (.two 9 (.eff 10 (.eff 12 (.eff 13 .done))) 10 (.eff 9 (.eff 12 (.eff 13 .done))))) 10 (.two 4 (.two 9 (.eff 11 (.eff 12 (.eff 13 .done))) 11 (.eff 9 (.eff 12 (.eff 13 .done)))) 11 (.eff 4 (.eff 9 (.eff 12 (.eff 13 .done))))) 11 (.two 4 (.two 9 (.eff 10 (.eff 12 (.eff 13 .done))) 10 (.eff 9 (.eff 12 (.eff 13 .done)))) 10 (.eff 4 (.eff 9 (.eff 12 (.eff 13 .done)))))))))))))) (by kernel_rfl) (by kernel_rfl) (by kernel_rfl) (by kernel_rfl) (fun _ d _ _ _ h => by cases d <;> exact h) HK0.out ?_
    repeat (first
      | (refine pu_quiet (v := .agg (i64s (F3.digs 16 (x : Int))).toArray) rfl (by rfl) (fun wq hwq => run_load_mid 46 (.tmp 8) rfl w.heap.size 0 _ rfl (pt_x (HD0.out.1.kp0 ((Kp.refl _ w0).drew.tr hwq))) _ Try.underlying46 rfl (infoN _ (numLen _))) rfl ?_; try simp only [List.setIfInBounds_toArray, List.set_cons_zero, List.set_cons_succ])
      | (refine pu_quiet (v := .agg (i64s (F3.digs 16 (z : Int))).toArray) rfl (by rfl) (fun wq hwq => run_load_mid 46 (.tmp 10) rfl w.heap.size 16 _ rfl (pt_z (HD0.out.1.kp0 ((Kp.refl _ w0).drew.tr hwq))) _ Try.underlying46 rfl (infoN _ (numLen _))) rfl ?_; try simp only [List.setIfInBounds_toArray, List.set_cons_zero, List.set_cons_succ])
      | (refine pu_quiet (v := .agg (i64s (F3.digs 16 (x : Int))).toArray) rfl (by rfl) (fun wq hwq => run_load_mid 46 (.tmp 13) rfl w.heap.size 0 _ rfl (pt_x (HD0.out.1.kp0 ((Kp.refl _ w0).drew.tr hwq))) _ Try.underlying46 rfl (infoN _ (numLen _))) rfl ?_; try simp only [List.setIfInBounds_toArray, List.set_cons_zero, List.set_cons_succ])
      | (refine pu_quiet (v := .agg (i64s (F3.digs 16 (z : Int))).toArray) rfl (by rfl) (fun wq hwq => run_load_mid 46 (.tmp 15) rfl w.heap.size 16 _ rfl (pt_z (HD0.out.1.kp0 ((Kp.refl _ w0).drew.tr hwq))) _ Try.underlying46 rfl (infoN _ (numLen _))) rfl ?_; try simp only [List.setIfInBounds_toArray, List.set_cons_zero, List.set_cons_succ])
      | (refine pu_quiet (v := ?_) rfl (by rfl) (fun wq hwq => ?_) rfl ?_; rotate_left 1; (focus (go_simp; try (with_reducible rfl); done)); try simp only [List.setIfInBounds_toArray, List.set_cons_zero, List.set_cons_succ]))
    refine ⟨pu_one rfl (by rfl) (fun K hK => ?_), pu_one rfl (by rfl) (fun K hK => ?_), pu_one rfl (by rfl) (fun K hK => ?_)⟩
    · go_simp
      refine (Cs.out _).mono ?_
      rintro e x1 ⟨rfl, hk⟩
      simp only []
      have HK1 : Hid (Kp0 w0.drew x1) := Lib.hid (HK0.out.tr hk)
      clear hk
      refine hK (fun w' : World => Kp0 w0.drew w') _ _ (fun x h => h) HK1.out ?_
      clear hK K
      refine ⟨pu_one rfl (by rfl) (fun K hK => ?_), pu_one rfl (by rfl) (fun K hK => ?_), pu_one rfl (by rfl) (fun K hK => ?_)⟩
      · go_simp
        refine (Cd.out _).mono ?_
        rintro e x2 ⟨rfl, hk⟩
        simp only []
        have HK2 : Hid (Kp0 w0.drew x2) := Lib.hid (HK1.out.tr hk)
        clear hk
        refine hK (fun w' : World => Kp0 w0.drew w') _ _ (fun x h => h) HK2.out ?_
        clear hK K
        refine ⟨pu_one rfl (by rfl) (fun K hK => ?_), pu_one rfl (by rfl) (fun K hK => ?_)⟩
        · go_simp
          refine hK (fun w' : World => Kp0 w0.drew w') _ _ (fun x h => h) (HK2.out.alloc _) ?_
          clear hK K
          have L10 : w0.drew.heap.size ≤ x2.heap.size := HK2.out.size
          have HK3 : Hid (Kp0 w0.drew (x2.alloc (.cells (i64s (zeros 16)).toArray 46))) := Lib.hid (HK2.out.alloc _)
          have F103 : Hid (Arr (x2.alloc (.cells (i64s (zeros 16)).toArray 46)) x2.heap.size 46 (zeros 16)) := Lib.hid (arr0 x2 _ _)
          change PU.wp _ _ _ _ _ _ (x2.alloc (.cells (i64s (zeros 16)).toArray 46))
          generalize (x2.alloc (.cells (i64s (zeros 16)).toArray 46)) = x3 at HK3 F103 ⊢
          refine pu_eff rfl (by rfl) (fun K hK => ?_)
          go_simp
          refine hK (fun w' : World => Kp0 w0.drew w') _ _ (fun x h => h) (HK3.out.alloc _) ?_
          clear hK K
          have L11 : w0.drew.heap.size ≤ x3.heap.size := HK3.out.size
          have N1011 : x2.heap.size < x3.heap.size := F103.out.lt
          have HK4 : Hid (Kp0 w0.drew (x3.alloc (.cells (i64s (zeros 16)).toArray 46))) := Lib.hid (HK3.out.alloc _)
          have F114 : Hid (Arr (x3.alloc (.cells (i64s (zeros 16)).toArray 46)) x3.heap.size 46 (zeros 16)) := Lib.hid (arr0 x3 _ _)
          have F104 := Lib.hid (F103.out.kp0 ((Kp.refl (fun _ => False) x3).alloc (.cells (i64s (zeros 16)).toArray 46)))
          change PU.wp _ _ _ _ _ _ (x3.alloc (.cells (i64s (zeros 16)).toArray 46))
          generalize (x3.alloc (.cells (i64s (zeros 16)).toArray 46)) = x4 at HK4 F104 F114 ⊢
          refine pu_eff rfl (by rfl) (fun K hK => ?_)
          refine wp_store_arr 46 (.tmp 3) (.tmp 12) rfl x2.heap.size _ (zeros 16) (F3.digs 16 (s : Int)) rfl rfl F104.out (infoN' _ (numLen _)) (numLen _).symm ?_
          intro y5 hA hS
          have HS5 := Lib.hid hS
          have G105 := Lib.hid hA
          have F115 := Lib.hid (F114.out.keep hS (fun e => by omega))
          have HK5 : Hid (Kp0 w0.drew y5) := Lib.hid (HK4.out.trans hS (fun _ _ h => h) (fun i hi e => by omega))
          clear hA hS
          refine hK (fun w' : World => Kp0 w0.drew w') _ _ (fun x h => h) HK5.out ?_
          clear hK K
          refine pu_eff rfl (by rfl) (fun K hK => ?_)
          refine wp_store_arr 46 (.tmp 4) (.tmp 17) rfl x3.heap.size _ (zeros 16) (F3.digs 16 (d : Int)) rfl rfl F115.out (infoN' _ (numLen _)) (numLen _).symm ?_
          intro y6 hA hS
          have HS6 := Lib.hid hS
          have G116 := Lib.hid hA
          have F106 := Lib.hid (G105.out.keep hS (fun e => by omega))
          have HK6 : Hid (Kp0 w0.drew y6) := Lib.hid (HK5.out.trans hS (fun _ _ h => h) (fun i hi e => by omega))
          clear hA hS
          refine hK (fun w' : World => Kp0 w0.drew w') _ _ (fun x h => h) HK6.out ?_
          clear hK K
          refine pu_done ?_
          go_wp2
          go_meet
          exact ⟨x2.heap.size, x3.heap.size, rfl, rfl, F106.out, G116.out, HD0.out.kp0 ((Kp.refl _ w0).drew.tr HK6.out)⟩
        · go_simp
          refine hK (fun w' : World => Kp0 w0.drew w') _ _ (fun x h => h) (HK2.out.alloc _) ?_
          clear hK K
          have L11 : w0.drew.heap.size ≤ x2.heap.size := HK2.out.size
          have HK7 : Hid (Kp0 w0.drew (x2.alloc (.cells (i64s (zeros 16)).toArray 46))) := Lib.hid (HK2.out.alloc _)
          have F117 : Hid (Arr (x2.alloc (.cells (i64s (zeros 16)).toArray 46)) x2.heap.size 46 (zeros 16)) := Lib.hid (arr0 x2 _ _)
          change PU.wp _ _ _ _ _ _ (x2.alloc (.cells (i64s (zeros 16)).toArray 46))
          generalize (x2.alloc (.cells (i64s (zeros 16)).toArray 46)) = x7 at HK7 F117 ⊢
          refine pu_eff rfl (by rfl) (fun K hK => ?_)
          go_simp
          refine hK (fun w' : World => Kp0 w0.drew w') _ _ (fun x h => h) (HK7.out.alloc _) ?_
          clear hK K
          have L10 : w0.drew.heap.size ≤ x7.heap.size := HK7.out.size
          have N1110 : x2.heap.size < x7.heap.size := F117.out.lt
          have HK8 : Hid (Kp0 w0.drew (x7.alloc (.cells (i64s (zeros 16)).toArray 46))) := Lib.hid (HK7.out.alloc _)
          have F108 : Hid (Arr (x7.alloc (.cells (i64s (zeros 16)).toArray 46)) x7.heap.size 46 (zeros 16)) := Lib.hid (arr0 x7 _ _)
          have F118 := Lib.hid (F117.out.kp0 ((Kp.refl (fun _ => False) x7).alloc (.cells (i64s (zeros 16)).toArray 46)))
          change PU.wp _ _ _ _ _ _ (x7.alloc (.cells (i64s (zeros 16)).toArray 46))
          generalize (x7.alloc (.cells (i64s (zeros 16)).toArray 46)) = x8 at HK8 F118 F108 ⊢
          refine pu_eff rfl (by rfl) (fun K hK => ?_)
          refine wp_store_arr 46 (.tmp 3) (.tmp 12) rfl x7.heap.size _ (zeros 16) (F3.digs 16 (s : Int)) rfl rfl F108.out (infoN' _ (numLen _)) (numLen _).symm ?_
          intro y9 hA hS
          have HS9 := Lib.hid hS
          have G109 := Lib.hid hA
          have F119 := Lib.hid (F118.out.keep hS (fun e => by omega))
          have HK9 : Hid (Kp0 w0.drew y9) := Lib.hid (HK8.out.trans hS (fun _ _ h => h) (fun i hi e => by omega))
          clear hA hS
          refine hK (fun w' : World => Kp0 w0.drew w') _ _ (fun x h => h) HK9.out ?_
          clear hK K
          refine pu_eff rfl (by rfl) (fun K hK => ?_)
          refine wp_store_arr 46 (.tmp 4) (.tmp 17) rfl x2.heap.size _ (zeros 16) (F3.digs 16 (d : Int)) rfl rfl F119.out (infoN' _ (numLen _)) (numLen _).symm ?_
          intro y10 hA hS
          have HS10 := Lib.hid hS
          have G1110 := Lib.hid hA
          have F1010 := Lib.hid (G109.out.keep hS (fun e => by omega))
          have HK10 : Hid (Kp0 w0.drew y10) := Lib.hid (HK9.out.trans hS (fun _ _ h => h) (fun i hi e => by omega))
          clear hA hS
          refine hK (fun w' : World => Kp0 w0.drew w') _ _ (fun x h => h) HK10.out ?_
          clear hK K
          refine pu_done ?_
          go_wp2
          go_meet
          exact ⟨x7.heap.size, x2.heap.size, rfl, rfl, F1010.out, G1110.out, HD0.out.kp0 ((Kp.refl _ w0).drew.tr HK10.out)⟩
      · go_simp
        refine hK (fun w' : World => Kp0 w0.drew w') _ _ (fun x h => h) (HK1.out.alloc _) ?_
        clear hK K
        have L10 : w0.drew.heap.size ≤ x1.heap.size := HK1.out.size
        have HK11 : Hid (Kp0 w0.drew (x1.alloc (.cells (i64s (zeros 16)).toArray 46))) := Lib.hid (HK1.out.alloc _)
        have F1011 : Hid (Arr (x1.alloc (.cells (i64s (zeros 16)).toArray 46)) x1.heap.size 46 (zeros 16)) := Lib.hid (arr0 x1 _ _)
        change PU.wp _ _ _ _ _ _ (x1.alloc (.cells (i64s (zeros 16)).toArray 46))
        generalize (x1.alloc (.cells (i64s (zeros 16)).toArray 46)) = x11 at HK11 F1011 ⊢
        refine ⟨pu_one rfl (by rfl) (fun K hK => ?_), pu_one rfl (by rfl) (fun K hK => ?_)⟩
        · go_simp
          refine (Cd.out _).mono ?_
          rintro e x12 ⟨rfl, hk⟩
          simp only []
          have HK12 : Hid (Kp0 w0.drew x12) := Lib.hid (HK11.out.tr hk)
          have F1012 := Lib.hid (F1011.out.kp0 hk)
          clear hk
          refine hK (fun w' : World => Kp0 w0.drew w') _ _ (fun x h => h) HK12.out ?_
          clear hK K
          refine pu_eff rfl (by rfl) (fun K hK => ?_)
          go_simp
          refine hK (fun w' : World => Kp0 w0.drew w') _ _ (fun x h => h) (HK12.out.alloc _) ?_
          clear hK K
          have L11 : w0.drew.heap.size ≤ x12.heap.size := HK12.out.size
          have N1011 : x1.heap.size < x12.heap.size := F1012.out.lt
          have HK13 : Hid (Kp0 w0.drew (x12.alloc (.cells (i64s (zeros 16)).toArray 46))) := Lib.hid (HK12.out.alloc _)
          have F1113 : Hid (Arr (x12.alloc (.cells (i64s (zeros 16)).toArray 46)) x12.heap.size 46 (zeros 16)) := Lib.hid (arr0 x12 _ _)
          have F1013 := Lib.hid (F1012.out.kp0 ((Kp.refl (fun _ => False) x12).alloc (.cells (i64s (zeros 16)).toArray 46)))
          change PU.wp _ _ _ _ _ _ (x12.alloc (.cells (i64s (zeros 16)).toArray 46))
          generalize (x12.alloc (.cells (i64s (zeros 16)).toArray 46)) = x13 at HK13 F1013 F1113 ⊢
          refine pu_eff rfl (by rfl) (fun K hK => ?_)
          refine wp_store_arr 46 (.tmp 3) (.tmp 12) rfl x1.heap.size _ (zeros 16) (F3.digs 16 (s : Int)) rfl rfl F1013.out (infoN' _ (numLen _)) (numLen _).symm ?_
          intro y14 hA hS
          have HS14 := Lib.hid hS
          have G1014 := Lib.hid hA
          have F1114 := Lib.hid (F1113.out.keep hS (fun e => by omega))
          have HK14 : Hid (Kp0 w0.drew y14) := Lib.hid (HK13.out.trans hS (fun _ _ h => h) (fun i hi e => by omega))
          clear hA hS
          refine hK (fun w' : World => Kp0 w0.drew w') _ _ (fun x h => h) HK14.out ?_
          clear hK K
          refine pu_eff rfl (by rfl) (fun K hK => ?_)
          refine wp_store_arr 46 (.tmp 4) (.tmp 17) rfl x12.heap.size _ (zeros 16) (F3.digs 16 (d : Int)) rfl rfl F1114.out (infoN' _ (numLen _)) (numLen _).symm ?_
          intro y15 hA hS
          have HS15 := Lib.hid hS
          have G1115 := Lib.hid hA
          have F1015 := Lib.hid (G1014.out.keep hS (fun e => by omega))
          have HK15 : Hid (Kp0 w0.drew y15) := Lib.hid (HK14.out.trans hS (fun _ _ h => h) (fun i hi e => by omega))
          clear hA hS
          refine hK (fun w' : World => Kp0 w0.drew w') _ _ (fun x h => h) HK15.out ?_
          clear hK K
          refine pu_done ?_
          go_wp2
          go_meet
          exact ⟨x1.heap.size, x12.heap.size, rfl, rfl, F1015.out, G1115.out, HD0.out.kp0 ((Kp.refl _ w0).drew.tr HK15.out)⟩
        · go_simp
          refine hK (fun w' : World => Kp0 w0.drew w') _ _ (fun x h => h) (HK11.out.alloc _) ?_
          clear hK K
          have L11 : w0.drew.heap.size ≤ x11.heap.size := HK11.out.size
          have N1011 : x1.heap.size < x11.heap.size := F1011.out.lt
          have HK16 : Hid (Kp0 w0.drew (x11.alloc (.cells (i64s (zeros 16)).toArray 46))) := Lib.hid (HK11.out.alloc _)
          have F1116 : Hid (Arr (x11.alloc (.cells (i64s (zeros 16)).toArray 46)) x11.heap.size 46 (zeros 16)) := Lib.hid (arr0 x11 _ _)
          have F1016 := Lib.hid (F1011.out.kp0 ((Kp.refl (fun _ => False) x11).alloc (.cells (i64s (zeros 16)).toArray 46)))
          change PU.wp _ _ _ _ _ _ (x11.alloc (.cells (i64s (zeros 16)).toArray 46))
          generalize (x11.alloc (.cells (i64s (zeros 16)).toArray 46)) = x16 at HK16 F1016 F1116 ⊢
          refine pu_eff rfl (by rfl) (fun K hK => ?_)
          go_simp
          refine (Cd.out _).mono ?_
          rintro e x17 ⟨rfl, hk⟩
          simp only []
          have HK17 : Hid (Kp0 w0.drew x17) := Lib.hid (HK16.out.tr hk)
          have F1017 := Lib.hid (F1016.out.kp0 hk)
          have F1117 := Lib.hid (F1116.out.kp0 hk)
          clear hk
          refine hK (fun w' : World => Kp0 w0.drew w') _ _ (fun x h => h) HK17.out ?_
          clear hK K
          refine pu_eff rfl (by rfl) (fun K hK => ?_)
          refine wp_store_arr 46 (.tmp 3) (.tmp 12) rfl x1.heap.size _ (zeros 16) (F3.digs 16 (s : Int)) rfl rfl F1017.out (infoN' _ (numLen _)) (numLen _).symm ?_
          intro y18 hA hS
          have HS18 := Lib.hid hS
          have G1018 := Lib.hid hA
          have F1118 := Lib.hid (F1117.out.keep hS (fun e => by omega))
          have HK18 : Hid (Kp0 w0.drew y18) := Lib.hid (HK17.out.trans hS (fun _ _ h => h) (fun i hi e => by omega))
          clear hA hS
          refine hK (fun w' : World => Kp0 w0.drew w') _ _ (fun x h => h) HK18.out ?_
          clear hK K
          refine pu_eff rfl (by rfl) (fun K hK => ?_)
          refine wp_store_arr 46 (.tmp 4) (.tmp 17) rfl x11.heap.size _ (zeros 16) (F3.digs 16 (d : Int)) rfl rfl F1118.out (infoN' _ (numLen _)) (numLen _).symm ?_
          intro y19 hA hS
          have HS19 := Lib.hid hS
          have G1119 := Lib.hid hA
          have F1019 := Lib.hid (G1018.out.keep hS (fun e => by omega))
          have HK19 : Hid (Kp0 w0.drew y19) := Lib.hid (HK18.out.trans hS (fun _ _ h => h) (fun i hi e => by omega))
          clear hA hS
          refine hK (fun w' : World => Kp0 w0.drew w') _ _ (fun x h => h) HK19.out ?_
          clear hK K
          refine pu_done ?_
          go_wp2
          go_meet
          exact ⟨x1.heap.size, x11.heap.size, rfl, rfl, F1019.out, G1119.out, HD0.out.kp0 ((Kp.refl _ w0).drew.tr HK19.out)⟩
      · go_simp
        refine hK (fun w' : World => Kp0 w0.drew w') _ _ (fun x h => h) (HK1.out.alloc _) ?_
        clear hK K
        have L11 : w0.drew.heap.size ≤ x1.heap.size := HK1.out.size
        have HK20 : Hid (Kp0 w0.drew (x1.alloc (.cells (i64s (zeros 16)).toArray 46))) := Lib.hid (HK1.out.alloc _)
        have F1120 : Hid (Arr (x1.alloc (.cells (i64s (zeros 16)).toArray 46)) x1.heap.size 46 (zeros 16)) := Lib.hid (arr0 x1 _ _)
        change PU.wp _ _ _ _ _ _ (x1.alloc (.cells (i64s (zeros 16)).toArray 46))
        generalize (x1.alloc (.cells (i64s (zeros 16)).toArray 46)) = x20 at HK20 F1120 ⊢
        refine ⟨pu_one rfl (by rfl) (fun K hK => ?_), pu_one rfl (by rfl) (fun K hK => ?_)⟩
        · go_simp
          refine (Cd.out _).mono ?_
          rintro e x21 ⟨rfl, hk⟩
          simp only []
          have HK21 : Hid (Kp0 w0.drew x21) := Lib.hid (HK20.out.tr hk)
          have F1121 := Lib.hid (F1120.out.kp0 hk)
          clear hk
          refine hK (fun w' : World => Kp0 w0.drew w') _ _ (fun x h => h) HK21.out ?_
          clear hK K
          refine pu_eff rfl (by rfl) (fun K hK => ?_)
          go_simp
          refine hK (fun w' : World => Kp0 w0.drew w') _ _ (fun x h => h) (HK21.out.alloc _) ?_
          clear hK K
          have L10 : w0.drew.heap.size ≤ x21.heap.size := HK21.out.size
          have N1110 : x1.heap.size < x21.heap.size := F1121.out.lt
          have HK22 : Hid (Kp0 w0.drew (x21.alloc (.cells (i64s (zeros 16)).toArray 46))) := Lib.hid (HK21.out.alloc _)
          have F1022 : Hid (Arr (x21.alloc (.cells (i64s (zeros 16)).toArray 46)) x21.heap.size 46 (zeros 16)) := Lib.hid (arr0 x21 _ _)
          have F1122 := Lib.hid (F1121.out.kp0 ((Kp.refl (fun _ => False) x21).alloc (.cells (i64s (zeros 16)).toArray 46)))
          change PU.wp _ _ _ _ _ _ (x21.alloc (.cells (i64s (zeros 16)).toArray 46))
          generalize (x21.alloc (.cells (i64s (zeros 16)).toArray 46)) = x22 at HK22 F1122 F1022 ⊢
          refine pu_eff rfl (by rfl) (fun K hK => ?_)
          refine wp_store_arr 46 (.tmp 3) (.tmp 12) rfl x21.heap.size _ (zeros 16) (F3.digs 16 (s : Int)) rfl rfl F1022.out (infoN' _ (numLen _)) (numLen _).symm ?_
          intro y23 hA hS
          have HS23 := Lib.hid hS
          have G1023 := Lib.hid hA
          have F1123 := Lib.hid (F1122.out.keep hS (fun e => by omega))
          have HK23 : Hid (Kp0 w0.drew y23) := Lib.hid (HK22.out.trans hS (fun _ _ h => h) (fun i hi e => by omega))
          clear hA hS
          refine hK (fun w' : World => Kp0 w0.drew w') _ _ (fun x h => h) HK23.out ?_
          clear hK K
          refine pu_eff rfl (by rfl) (fun K hK => ?_)
          refine wp_store_arr 46 (.tmp 4) (.tmp 17) rfl x1.heap.size _ (zeros 16) (F3.digs 16 (d : Int)) rfl rfl F1123.out (infoN' _ (numLen _)) (numLen _).symm ?_
          intro y24 hA hS
          have HS24 := Lib.hid hS
          have G1124 := Lib.hid hA
          have F1024 := Lib.hid (G1023.out.keep hS (fun e => by omega))
          have HK24 : Hid (Kp0 w0.drew y24) := Lib.hid (HK23.out.trans hS (fun _ _ h => h) (fun i hi e => by omega))
          clear hA hS
          refine hK (fun w' : World => Kp0 w0.drew w') _ _ (fun x h => h) HK24.out ?_
          clear hK K
          refine pu_done ?_
          go_wp2
          go_meet
          exact ⟨x21.heap.size, x1.heap.size, rfl, rfl, F1024.out, G1124.out, HD0.out.kp0 ((Kp.refl _ w0).drew.tr HK24.out)⟩
        · go_simp
          refine hK (fun w' : World => Kp0 w0.drew w') _ _ (fun x h => h) (HK20.out.alloc _) ?_
          clear hK K
          have L10 : w0.drew.heap.size ≤ x20.heap.size := HK20.out.size
          have N1110 : x1.heap.size < x20.heap.size := F1120.out.lt
          have HK25 : Hid (Kp0 w0.drew (x20.alloc (.cells (i64s (zeros 16)).toArray 46))) := Lib.hid (HK20.out.alloc _)
          have F1025 : Hid (Arr (x20.alloc (.cells (i64s (zeros 16)).toArray 46)) x20.heap.size 46 (zeros 16)) := Lib.hid (arr0 x20 _ _)
          have F1125 := Lib.hid (F1120.out.kp0 ((Kp.refl (fun _ => False) x20).alloc (.cells (i64s (zeros 16)).toArray 46)))
          change PU.wp _ _ _ _ _ _ (x20.alloc (.cells (i64s (zeros 16)).toArray 46))
          generalize (x20.alloc (.cells (i64s (zeros 16)).toArray 46)) = x25 at HK25 F1125 F1025 ⊢
          refine pu_eff rfl (by rfl) (fun K hK => ?_)
          go_simp
          refine (Cd.out _).mono ?_
          rintro e x26 ⟨rfl, hk⟩
          simp only []
          have HK26 : Hid (Kp0 w0.drew x26) := Lib.hid (HK25.out.tr hk)
          have F1126 := Lib.hid (F1125.out.kp0 hk)
          have F1026 := Lib.hid (F1025.out.kp0 hk)
          clear hk
          refine hK (fun w' : World => Kp0 w0.drew w') _ _ (fun x h => h) HK26.out ?_
          clear hK K
          refine pu_eff rfl (by rfl) (fun K hK => ?_)
          refine wp_store_arr 46 (.tmp 3) (.tmp 12) rfl x20.heap.size _ (zeros 16) (F3.digs 16 (s : Int)) rfl rfl F1026.out (infoN' _ (numLen _)) (numLen _).symm ?_
          intro y27 hA hS
          have HS27 := Lib.hid hS
          have G1027 := Lib.hid hA
          have F1127 := Lib.hid (F1126.out.keep hS (fun e => by omega))
          have HK27 : Hid (Kp0 w0.drew y27) := Lib.hid (HK26.out.trans hS (fun _ _ h => h) (fun i hi e => by omega))
          clear hA hS
          refine hK (fun w' : World => Kp0 w0.drew w') _ _ (fun x h => h) HK27.out ?_
          clear hK K
          refine pu_eff rfl (by rfl) (fun K hK => ?_)
          refine wp_store_arr 46 (.tmp 4) (.tmp 17) rfl x1.heap.size _ (zeros 16) (F3.digs 16 (d : Int)) rfl rfl F1127.out (infoN' _ (numLen _)) (numLen _).symm ?_
          intro y28 hA hS
          have HS28 := Lib.hid hS
          have G1128 := Lib.hid hA
          have F1028 := Lib.hid (G1027.out.keep hS (fun e => by omega))
          have HK28 : Hid (Kp0 w0.drew y28) := Lib.hid (HK27.out.trans hS (fun _ _ h => h) (fun i hi e => by omega))
          clear hA hS
          refine hK (fun w' : World => Kp0 w0.drew w') _ _ (fun x h => h) HK28.out ?_
          clear hK K
          refine pu_done ?_
          go_wp2
          go_meet
          exact ⟨x20.heap.size, x1.heap.size, rfl, rfl, F1028.out, G1128.out, HD0.out.kp0 ((Kp.refl _ w0).drew.tr HK28.out)⟩
    · go_simp
      refine hK (fun w' : World => Kp0 w0.drew w') _ _ (fun x h => h) (HK0.out.alloc _) ?_
      clear hK K
      have L10 : w0.drew.heap.size ≤ w0.drew.heap.size := HK0.out.size
      have HK29 : Hid (Kp0 w0.drew (w0.drew.alloc (.cells (i64s (zeros 16)).toArray 46))) := Lib.hid (HK0.out.alloc _)
      have F1029 : Hid (Arr (w0.drew.alloc (.cells (i64s (zeros 16)).toArray 46)) w0.drew.heap.size 46 (zeros 16)) := Lib.hid (arr0 w0.drew _ _)
      change PU.wp _ _ _ _ _ _ (w0.drew.alloc (.cells (i64s (zeros 16)).toArray 46))
      generalize (w0.drew.alloc (.cells (i64s (zeros 16)).toArray 46)) = x29 at HK29 F1029 ⊢
      refine ⟨pu_one rfl (by rfl) (fun K hK => ?_), pu_one rfl (by rfl) (fun K hK => ?_)⟩
      · go_simp
        refine (Cs.out _).mono ?_
        rintro e x30 ⟨rfl, hk⟩
        simp only []
        have HK30 : Hid (Kp0 w0.drew x30) := Lib.hid (HK29.out.tr hk)
        have F1030 := Lib.hid (F1029.out.kp0 hk)
        clear hk
        refine hK (fun w' : World => Kp0 w0.drew w') _ _ (fun x h => h) HK30.out ?_
        clear hK K
        refine ⟨pu_one rfl (by rfl) (fun K hK => ?_), pu_one rfl (by rfl) (fun K hK => ?_)⟩
        · go_simp
          refine (Cd.out _).mono ?_
          rintro e x31 ⟨rfl, hk⟩
          simp only []
          have HK31 : Hid (Kp0 w0.drew x31) := Lib.hid (HK30.out.tr hk)
          have F1031 := Lib.hid (F1030.out.kp0 hk)
          clear hk
          refine hK (fun w' : World => Kp0 w0.drew w') _ _ (fun x h => h) HK31.out ?_
          clear hK K
          refine pu_eff rfl (by rfl) (fun K hK => ?_)
          go_simp
          refine hK (fun w' : World => Kp0 w0.drew w') _ _ (fun x h => h) (HK31.out.alloc _) ?_
          clear hK K
          have L11 : w0.drew.heap.size ≤ x31.heap.size := HK31.out.size
          have N1011 : w0.drew.heap.size < x31.heap.size := F1031.out.lt
          have HK32 : Hid (Kp0 w0.drew (x31.alloc (.cells (i64s (zeros 16)).toArray 46))) := Lib.hid (HK31.out.alloc _)
          have F1132 : Hid (Arr (x31.alloc (.cells (i64s (zeros 16)).toArray 46)) x31.heap.size 46 (zeros 16)) := Lib.hid (arr0 x31 _ _)
          have F1032 := Lib.hid (F1031.out.kp0 ((Kp.refl (fun _ => False) x31).alloc (.cells (i64s (zeros 16)).toArray 46)))
          change PU.wp _ _ _ _ _ _ (x31.alloc (.cells (i64s (zeros 16)).toArray 46))
          generalize (x31.alloc (.cells (i64s (zeros 16)).toArray 46)) = x32 at HK32 F1032 F1132 ⊢
          refine pu_eff rfl (by rfl) (fun K hK => ?_)
          refine wp_store_arr 46 (.tmp 3) (.tmp 12) rfl w0.drew.heap.size _ (zeros 16) (F3.digs 16 (s : Int)) rfl rfl F1032.out (infoN' _ (numLen _)) (numLen _).symm ?_
          intro y33 hA hS
          have HS33 := Lib.hid hS
          have G1033 := Lib.hid hA
          have F1133 := Lib.hid (F1132.out.keep hS (fun e => by omega))
          have HK33 : Hid (Kp0 w0.drew y33) := Lib.hid (HK32.out.trans hS (fun _ _ h => h) (fun i hi e => by omega))
          clear hA hS
          refine hK (fun w' : World => Kp0 w0.drew w') _ _ (fun x h => h) HK33.out ?_
          clear hK K
          refine pu_eff rfl (by rfl) (fun K hK => ?_)
          refine wp_store_arr 46 (.tmp 4) (.tmp 17) rfl x31.heap.size _ (zeros 16) (F3.digs 16 (d : Int)) rfl rfl F1133.out (infoN' _ (numLen _)) (numLen _).symm ?_
          intro y34 hA hS
          have HS34 := Lib.hid hS
          have G1134 := Lib.hid hA
          have F1034 := Lib.hid (G1033.out.keep hS (fun e => by omega))
          have HK34 : Hid (Kp0 w0.drew y34) := Lib.hid (HK33.out.trans hS (fun _ _ h => h) (fun i hi e => by omega))
          clear hA hS
          refine hK (fun w' : World => Kp0 w0.drew w') _ _ (fun x h => h) HK34.out ?_
          clear hK K
          refine pu_done ?_
          go_wp2
          go_meet
          exact ⟨w0.drew.heap.size, x31.heap.size, rfl, rfl, F1034.out, G1134.out, HD0.out.kp0 ((Kp.refl _ w0).drew.tr HK34.out)⟩
        · go_simp
          refine hK (fun w' : World => Kp0 w0.drew w') _ _ (fun x h => h) (HK30.out.alloc _) ?_
          clear hK K
          have L11 : w0.drew.heap.size ≤ x30.heap.size := HK30.out.size
          have N1011 : w0.drew.heap.size < x30.heap.size := F1030.out.lt
          have HK35 : Hid (Kp0 w0.drew (x30.alloc (.cells (i64s (zeros 16)).toArray 46))) := Lib.hid (HK30.out.alloc _)
          have F1135 : Hid (Arr (x30.alloc (.cells (i64s (zeros 16)).toArray 46)) x30.heap.size 46 (zeros 16)) := Lib.hid (arr0 x30 _ _)
          have F1035 := Lib.hid (F1030.out.kp0 ((Kp.refl (fun _ => False) x30).alloc (.cells (i64s (zeros 16)).toArray 46)))
          change PU.wp _ _ _ _ _ _ (x30.alloc (.cells (i64s (zeros 16)).toArray 46))
          generalize (x30.alloc (.cells (i64s (zeros 16)).toArray 46)) = x35 at HK35 F1035 F1135 ⊢
          refine pu_eff rfl (by rfl) (fun K hK => ?_)
          go_simp
          refine (Cd.out _).mono ?_
          rintro e x36 ⟨rfl, hk⟩
          simp only []
          have HK36 : Hid (Kp0 w0.drew x36) := Lib.hid (HK35.out.tr hk)
          have F1036 := Lib.hid (F1035.out.kp0 hk)
          have F1136 := Lib.hid (F1135.out.kp0 hk)
          clear hk
          refine hK (fun w' : World => Kp0 w0.drew w') _ _ (fun x h => h) HK36.out ?_
          clear hK K
          refine pu_eff rfl (by rfl) (fun K hK => ?_)
          refine wp_store_arr 46 (.tmp 3) (.tmp 12) rfl w0.drew.heap.size _ (zeros 16) (F3.digs 16 (s : Int)) rfl rfl F1036.out (infoN' _ (numLen _)) (numLen _).symm ?_
          intro y37 hA hS
          have HS37 := Lib.hid hS
          have G1037 := Lib.hid hA
          have F1137 := Lib.hid (F1136.out.keep hS (fun e => by omega))
          have HK37 : Hid (Kp0 w0.drew y37) := Lib.hid (HK36.out.trans hS (fun _ _ h => h) (fun i hi e => by omega))
          clear hA hS
          refine hK (fun w' : World => Kp0 w0.drew w') _ _ (fun x h => h) HK37.out ?_
          clear hK K
          refine pu_eff rfl (by rfl) (fun K hK => ?_)
          refine wp_store_arr 46 (.tmp 4) (.tmp 17) rfl x30.heap.size _ (zeros 16) (F3.digs 16 (d : Int)) rfl rfl F1137.out (infoN' _ (numLen _)) (numLen _).symm ?_
          intro y38 hA hS
          have HS38 := Lib.hid hS
          have G1138 := Lib.hid hA
          have F1038 := Lib.hid (G1037.out.keep hS (fun e => by omega))
          have HK38 : Hid (Kp0 w0.drew y38) := Lib.hid (HK37.out.trans hS (fun _ _ h => h) (fun i hi e => by omega))
          clear hA hS
          refine hK (fun w' : World => Kp0 w0.drew w') _ _ (fun x h => h) HK38.out ?_
          clear hK K
          refine pu_done ?_
          go_wp2
          go_meet
          exact ⟨w0.drew.heap.size, x30.heap.size, rfl, rfl, F1038.out, G1138.out, HD0.out.kp0 ((Kp.refl _ w0).drew.tr HK38.out)⟩
      · go_simp
        refine hK (fun w' : World => Kp0 w0.drew w') _ _ (fun x h => h) (HK29.out.alloc _) ?_
        clear hK K
        have L11 : w0.drew.heap.size ≤ x29.heap.size := HK29.out.size
        have N1011 : w0.drew.heap.size < x29.heap.size := F1029.out.lt
        have HK39 : Hid (Kp0 w0.drew (x29.alloc (.cells (i64s (zeros 16)).toArray 46))) := Lib.hid (HK29.out.alloc _)
        have F1139 : Hid (Arr (x29.alloc (.cells (i64s (zeros 16)).toArray 46)) x29.heap.size 46 (zeros 16)) := Lib.hid (arr0 x29 _ _)
        have F1039 := Lib.hid (F1029.out.kp0 ((Kp.refl (fun _ => False) x29).alloc (.cells (i64s (zeros 16)).toArray 46)))
        change PU.wp _ _ _ _ _ _ (x29.alloc (.cells (i64s (zeros 16)).toArray 46))
        generalize (x29.alloc (.cells (i64s (zeros 16)).toArray 46)) = x39 at HK39 F1039 F1139 ⊢
        refine pu_eff rfl (by rfl) (fun K hK => ?_)
        go_simp
        refine (Cs.out _).mono ?_
        rintro e x40 ⟨rfl, hk⟩
        simp only []
        have HK40 : Hid (Kp0 w0.drew x40) := Lib.hid (HK39.out.tr hk)
        have F1040 := Lib.hid (F1039.out.kp0 hk)
        have F1140 := Lib.hid (F1139.out.kp0 hk)
        clear hk
        refine hK (fun w' : World => Kp0 w0.drew w') _ _ (fun x h => h) HK40.out ?_
        clear hK K
        refine pu_eff rfl (by rfl) (fun K hK => ?_)
        go_simp
        refine (Cd.out _).mono ?_
        rintro e x41 ⟨rfl, hk⟩
        simp only []
        have HK41 : Hid (Kp0 w0.drew x41) := Lib.hid (HK40.out.tr hk)
        have F1041 := Lib.hid (F1040.out.kp0 hk)
        have F1141 := Lib.hid (F1140.out.kp0 hk)
        clear hk
        refine hK (fun w' : World => Kp0 w0.drew w') _ _ (fun x h => h) HK41.out ?_
        clear hK K
        refine pu_eff rfl (by rfl) (fun K hK => ?_)
        refine wp_store_arr 46 (.tmp 3) (.tmp 12) rfl w0.drew.heap.size _ (zeros 16) (F3.digs 16 (s : Int)) rfl rfl F1041.out (infoN' _ (numLen _)) (numLen _).symm ?_
        intro y42 hA hS
        have HS42 := Lib.hid hS
        have G1042 := Lib.hid hA
        have F1142 := Lib.hid (F1141.out.keep hS (fun e => by omega))
        have HK42 : Hid (Kp0 w0.drew y42) := Lib.hid (HK41.out.trans hS (fun _ _ h => h) (fun i hi e => by omega))
        clear hA hS
        refine hK (fun w' : World => Kp0 w0.drew w') _ _ (fun x h => h) HK42.out ?_
        clear hK K
        refine pu_eff rfl (by rfl) (fun K hK => ?_)
        refine wp_store_arr 46 (.tmp 4) (.tmp 17) rfl x29.heap.size _ (zeros 16) (F3.digs 16 (d : Int)) rfl rfl F1142.out (infoN' _ (numLen _)) (numLen _).symm ?_
        intro y43 hA hS
        have HS43 := Lib.hid hS
        have G1143 := Lib.hid hA
        have F1043 := Lib.hid (G1042.out.keep hS (fun e => by omega))
        have HK43 : Hid (Kp0 w0.drew y43) := Lib.hid (HK42.out.trans hS (fun _ _ h => h) (fun i hi e => by omega))
        clear hA hS
        refine hK (fun w' : World => Kp0 w0.drew w') _ _ (fun x h => h) HK43.out ?_
        clear hK K
        refine pu_done ?_
        go_wp2
        go_meet
        exact ⟨w0.drew.heap.size, x29.heap.size, rfl, rfl, F1043.out, G1143.out, HD0.out.kp0 ((Kp.refl _ w0).drew.tr HK43.out)⟩
    · go_simp
      refine hK (fun w' : World => Kp0 w0.drew w') _ _ (fun x h => h) (HK0.out.alloc _) ?_
      clear hK K
      have L11 : w0.drew.heap.size ≤ w0.drew.heap.size := HK0.out.size
      have HK44 : Hid (Kp0 w0.drew (w0.drew.alloc (.cells (i64s (zeros 16)).toArray 46))) := Lib.hid (HK0.out.alloc _)
      have F1144 : Hid (Arr (w0.drew.alloc (.cells (i64s (zeros 16)).toArray 46)) w0.drew.heap.size 46 (zeros 16)) := Lib.hid (arr0 w0.drew _ _)
      change PU.wp _ _ _ _ _ _ (w0.drew.alloc (.cells (i64s (zeros 16)).toArray 46))
      generalize (w0.drew.alloc (.cells (i64s (zeros 16)).toArray 46)) = x44 at HK44 F1144 ⊢
      refine ⟨pu_one rfl (by rfl) (fun K hK => ?_), pu_one rfl (by rfl) (fun K hK => ?_)⟩
      · go_simp
        refine (Cs.out _).mono ?_
        rintro e x45 ⟨rfl, hk⟩
        simp only []
        have HK45 : Hid (Kp0 w0.drew x45) := Lib.hid (HK44.out.tr hk)
        have F1145 := Lib.hid (F1144.out.kp0 hk)
        clear hk
        refine hK (fun w' : World => Kp0 w0.drew w') _ _ (fun x h => h) HK45.out ?_
        clear hK K
        refine ⟨pu_one rfl (by rfl) (fun K hK => ?_), pu_one rfl (by rfl) (fun K hK => ?_)⟩
        · go_simp
          refine (Cd.out _).mono ?_
          rintro e x46 ⟨rfl, hk⟩
          simp only []
          have HK46 : Hid (Kp0 w0.drew x46) := Lib.hid (HK45.out.tr hk)
          have F1146 := Lib.hid (F1145.out.kp0 hk)
          clear hk
          refine hK (fun w' : World => Kp0 w0.drew w') _ _ (fun x h => h) HK46.out ?_
          clear hK K
          refine pu_eff rfl (by rfl) (fun K hK => ?_)
          go_simp
          refine hK (fun w' : World => Kp0 w0.drew w') _ _ (fun x h => h) (HK46.out.alloc _) ?_
          clear hK K
          have L10 : w0.drew.heap.size ≤ x46.heap.size := HK46.out.size
          have N1110 : w0.drew.heap.size < x46.heap.size := F1146.out.lt
          have HK47 : Hid (Kp0 w0.drew (x46.alloc (.cells (i64s (zeros 16)).toArray 46))) := Lib.hid (HK46.out.alloc _)
          have F1047 : Hid (Arr (x46.alloc (.cells (i64s (zeros 16)).toArray 46)) x46.heap.size 46 (zeros 16)) := Lib.hid (arr0 x46 _ _)
          have F1147 := Lib.hid (F1146.out.kp0 ((Kp.refl (fun _ => False) x46).alloc (.cells (i64s (zeros 16)).toArray 46)))
          change PU.wp _ _ _ _ _ _ (x46.alloc (.cells (i64s (zeros 16)).toArray 46))
          generalize (x46.alloc (.cells (i64s (zeros 16)).toArray 46)) = x47 at HK47 F1147 F1047 ⊢
          refine pu_eff rfl (by rfl) (fun K hK => ?_)
          refine wp_store_arr 46 (.tmp 3) (.tmp 12) rfl x46.heap.size _ (zeros 16) (F3.digs 16 (s : Int)) rfl rfl F1047.out (infoN' _ (numLen _)) (numLen _).symm ?_
          intro y48 hA hS
          have HS48 := Lib.hid hS
          have G1048 := Lib.hid hA
          have F1148 := Lib.hid (F1147.out.keep hS (fun e => by omega))
          have HK48 : Hid (Kp0 w0.drew y48) := Lib.hid (HK47.out.trans hS (fun _ _ h => h) (fun i hi e => by omega))
          clear hA hS
          refine hK (fun w' : World => Kp0 w0.drew w') _ _ (fun x h => h) HK48.out ?_
          clear hK K
          refine pu_eff rfl (by rfl) (fun K hK => ?_)
          refine wp_store_arr 46 (.tmp 4) (.tmp 17) rfl w0.drew.heap.size _ (zeros 16) (F3.digs 16 (d : Int)) rfl rfl F1148.out (infoN' _ (numLen _)) (numLen _).symm ?_
          intro y49 hA hS
          have HS49 := Lib.hid hS
          have G1149 := Lib.hid hA
          have F1049 := Lib.hid (G1048.out.keep hS (fun e => by omega))
          have HK49 : Hid (Kp0 w0.drew y49) := Lib.hid (HK48.out.trans hS (fun _ _ h => h) (fun i hi e => by omega))
          clear hA hS
          refine hK (fun w' : World => Kp0 w0.drew w') _ _ (fun x h => h) HK49.out ?_
          clear hK K
          refine pu_done ?_
          go_wp2
          go_meet
          exact ⟨x46.heap.size, w0.drew.heap.size, rfl, rfl, F1049.out, G1149.out, HD0.out.kp0 ((Kp.refl _ w0).drew.tr HK49.out)⟩
        · go_simp
          refine hK (fun w' : World => Kp0 w0.drew w') _ _ (fun x h => h) (HK45.out.alloc _) ?_
          clear hK K
          have L10 : w0.drew.heap.size ≤ x45.heap.size := HK45.out.size
          have N1110 : w0.drew.heap.size < x45.heap.size := F1145.out.lt
          have HK50 : Hid (Kp0 w0.drew (x45.alloc (.cells (i64s (zeros 16)).toArray 46))) := Lib.hid (HK45.out.alloc _)
          have F1050 : Hid (Arr (x45.alloc (.cells (i64s (zeros 16)).toArray 46)) x45.heap.size 46 (zeros 16)) := Lib.hid (arr0 x45 _ _)
          have F1150 := Lib.hid (F1145.out.kp0 ((Kp.refl (fun _ => False) x45).alloc (.cells (i64s (zeros 16)).toArray 46)))
          change PU.wp _ _ _ _ _ _ (x45.alloc (.cells (i64s (zeros 16)).toArray 46))
          generalize (x45.alloc (.cells (i64s (zeros 16)).toArray 46)) = x50 at HK50 F1150 F1050 ⊢
          refine pu_eff rfl (by rfl) (fun K hK => ?_)
          go_simp
          refine (Cd.out _).mono ?_
          rintro e x51 ⟨rfl, hk⟩
          simp only []
          have HK51 : Hid (Kp0 w0.drew x51) := Lib.hid (HK50.out.tr hk)
          have F1151 := Lib.hid (F1150.out.kp0 hk)
          have F1051 := Lib.hid (F1050.out.kp0 hk)
          clear hk
          refine hK (fun w' : World => Kp0 w0.drew w') _ _ (fun x h => h) HK51.out ?_
          clear hK K
          refine pu_eff rfl (by rfl) (fun K hK => ?_)
          refine wp_store_arr 46 (.tmp 3) (.tmp 12) rfl x45.heap.size _ (zeros 16) (F3.digs 16 (s : Int)) rfl rfl F1051.out (infoN' _ (numLen _)) (numLen _).symm ?_
          intro y52 hA hS
          have HS52 := Lib.hid hS
          have G1052 := Lib.hid hA
          have F1152 := Lib.hid (F1151.out.keep hS (fun e => by omega))
          have HK52 : Hid (Kp0 w0.drew y52) := Lib.hid (HK51.out.trans hS (fun _ _ h => h) (fun i hi e => by omega))
          clear hA hS
          refine hK (fun w' : World => Kp0 w0.drew w') _ _ (fun x h => h) HK52.out ?_
          clear hK K
          refine pu_eff rfl (by rfl) (fun K hK => ?_)
          refine wp_store_arr 46 (.tmp 4) (.tmp 17) rfl w0.drew.heap.size _ (zeros 16) (F3.digs 16 (d : Int)) rfl rfl F1152.out (infoN' _ (numLen _)) (numLen _).symm ?_
          intro y53 hA hS
          have HS53 := Lib.hid hS
          have G1153 := Lib.hid hA
          have F1053 := Lib.hid (G1052.out.keep hS (fun e => by omega))
          have HK53 : Hid (Kp0 w0.drew y53) := Lib.hid (HK52.out.trans hS (fun _ _ h => h) (fun i hi e => by omega))
          clear hA hS
          refine hK (fun w' : World => Kp0 w0.drew w') _ _ (fun x h => h) HK53.out ?_
          clear hK K
          refine pu_done ?_
          go_wp2
          go_meet
          exact ⟨x45.heap.size, w0.drew.heap.size, rfl, rfl, F1053.out, G1153.out, HD0.out.kp0 ((Kp.refl _ w0).drew.tr HK53.out)⟩
      · go_simp
        refine hK (fun w' : World => Kp0 w0.drew w') _ _ (fun x h => h) (HK44.out.alloc _) ?_
        clear hK K
        have L10 : w0.drew.heap.size ≤ x44.heap.size := HK44.out.size
        have N1110 : w0.drew.heap.size < x44.heap.size := F1144.out.lt
        have HK54 : Hid (Kp0 w0.drew (x44.alloc (.cells (i64s (zeros 16)).toArray 46))) := Lib.hid (HK44.out.alloc _)
        have F1054 : Hid (Arr (x44.alloc (.cells (i64s (zeros 16)).toArray 46)) x44.heap.size 46 (zeros 16)) := Lib.hid (arr0 x44 _ _)
        have F1154 := Lib.hid (F1144.out.kp0 ((Kp.refl (fun _ => False) x44).alloc (.cells (i64s (zeros 16)).toArray 46)))
        change PU.wp _ _ _ _ _ _ (x44.alloc (.cells (i64s (zeros 16)).toArray 46))
        generalize (x44.alloc (.cells (i64s (zeros 16)).toArray 46)) = x54 at HK54 F1154 F1054 ⊢
        refine pu_eff rfl (by rfl) (fun K hK => ?_)
        go_simp
        refine (Cs.out _).mono ?_
        rintro e x55 ⟨rfl, hk⟩
        simp only []
        have HK55 : Hid (Kp0 w0.drew x55) := Lib.hid (HK54.out.tr hk)
        have F1155 := Lib.hid (F1154.out.kp0 hk)
        have F1055 := Lib.hid (F1054.out.kp0 hk)
        clear hk
        refine hK (fun w' : World => Kp0 w0.drew w') _ _ (fun x h => h) HK55.out ?_
        clear hK K
        refine pu_eff rfl (by rfl) (fun K hK => ?_)
        go_simp
        refine (Cd.out _).mono ?_
        rintro e x56 ⟨rfl, hk⟩
        simp only []
        have HK56 : Hid (Kp0 w0.drew x56) := Lib.hid (HK55.out.tr hk)
        have F1156 := Lib.hid (F1155.out.kp0 hk)
        have F1056 := Lib.hid (F1055.out.kp0 hk)
        clear hk
        refine hK (fun w' : World => Kp0 w0.drew w') _ _ (fun x h => h) HK56.out ?_
        clear hK K
        refine pu_eff rfl (by rfl) (fun K hK => ?_)
        refine wp_store_arr 46 (.tmp 3) (.tmp 12) rfl x44.heap.size _ (zeros 16) (F3.digs 16 (s : Int)) rfl rfl F1056.out (infoN' _ (numLen _)) (numLen _).symm ?_
        intro y57 hA hS
        have HS57 := Lib.hid hS
        have G1057 := Lib.hid hA
        have F1157 := Lib.hid (F1156.out.keep hS (fun e => by omega))
        have HK57 : Hid (Kp0 w0.drew y57) := Lib.hid (HK56.out.trans hS (fun _ _ h => h) (fun i hi e => by omega))
        clear hA hS
        refine hK (fun w' : World => Kp0 w0.drew w') _ _ (fun x h => h) HK57.out ?_
        clear hK K
        refine pu_eff rfl (by rfl) (fun K hK => ?_)
        refine wp_store_arr 46 (.tmp 4) (.tmp 17) rfl w0.drew.heap.size _ (zeros 16) (F3.digs 16 (d : Int)) rfl rfl F1157.out (infoN' _ (numLen _)) (numLen _).symm ?_
        intro y58 hA hS
        have HS58 := Lib.hid hS
        have G1158 := Lib.hid hA
        have F1058 := Lib.hid (G1057.out.keep hS (fun e => by omega))
        have HK58 : Hid (Kp0 w0.drew y58) := Lib.hid (HK57.out.trans hS (fun _ _ h => h) (fun i hi e => by omega))
        clear hA hS
        refine hK (fun w' : World => Kp0 w0.drew w') _ _ (fun x h => h) HK58.out ?_
        clear hK K
        refine pu_done ?_
        go_wp2
        go_meet
        exact ⟨x44.heap.size, w0.drew.heap.size, rfl, rfl, F1058.out, G1158.out, HD0.out.kp0 ((Kp.refl _ w0).drew.tr HK58.out)⟩
  case rest =>
    obtain ⟨g, h, rfl, rfl, hg, hh, hd⟩ := hcut
    have HG := Lib.hid hg
    have HH := Lib.hid hh
    have HD := Lib.hid hd
    clear hg hh hd HD0
    go_upto_region 2 with (fail)
    go_cut [5, 6] (fun p q wx => ∃ g h, p = .pointer (some ⟨g, 0, none⟩) ∧ q = .pointer (some ⟨h, 0, none⟩) ∧ Arr wx g 46 (F3.digs 16 (ss : Int)) ∧ Arr wx h 46 (F3.digs 16 (dd : Int)) ∧ DblS w x z wx)
    case first =>
      have HK0 : Hid (Kp0 wc.drew wc.drew) := Lib.hid (Kp.refl _ _)
      refine wp_region_tree3 (fun w' : World => Kp0 wc.drew w') (.quiet 0 (.quiet 1 (.quiet 3 (.quiet 4 (.three 2 (.three 5 (.two 6 (.eff 7 (.eff 8 (.eff 9 .done))) 7 (.eff 6 (.eff 8 (.eff 9 .done)))) 6 (.two 5 (.eff 7 (.eff 8 (.eff 9 .done))) 7 (.eff 5 (.eff 8 (.eff 9 .done)))) 7 (.two 5 (.eff 6 (.eff 8 (.eff 9 .done))) 6 (.eff 5 (.eff 8 (.eff 9 .done))))) 6 (.two 2 (.two 5 (.eff 7 (.eff 8 (.eff 9 .done))) 7 (.eff 5 (.eff 8 (.eff 9 .done)))) 7 (.eff 2 (.eff 5 (.eff 8 (.eff 9 .done))))) 7 (.two 2 (.two 5 (.eff 6 (.eff 8 (.eff 9 .done))) 6 (.eff 5 (.eff 8 (.eff 9 .done)))) 6 (.eff 2 (.eff 5 (.eff 8 (.eff 9 .done)))))))))) (by kernel_rfl) (by kernel_rfl) (by kernel_rfl) (by kernel_rfl) (fun _ d _ _ _ h => by cases d <;> exact h) HK0.out ?_
      repeat (first
        | (refine pu_quiet (v := .agg (i64s (F3.digs 16 (s : Int))).toArray) rfl (by rfl) (fun wq hwq => run_load_arr 46 (.tmp 3) rfl g _ (F3.digs 16 (s : Int)) rfl (HG.out.kp0 ((Kp.refl _ wc).drew.tr hwq)) _ Try.underlying46 rfl (infoN _ (numLen _))) rfl ?_; try simp only [List.setIfInBounds_toArray, List.set_cons_zero, List.set_cons_succ])
        | (refine pu_quiet (v := .agg (i64s (F3.digs 16 (d : Int))).toArray) rfl (by rfl) (fun wq hwq => run_load_arr 46 (.tmp 4) rfl h _ (F3.digs 16 (d : Int)) rfl (HH.out.kp0 ((Kp.refl _ wc).drew.tr hwq)) _ Try.underlying46 rfl (infoN _ (numLen _))) rfl ?_; try simp only [List.setIfInBounds_toArray, List.set_cons_zero, List.set_cons_succ])
        | (refine pu_quiet (v := ?_) rfl (by rfl) (fun wq hwq => ?_) rfl ?_; rotate_left 1; (focus (go_simp; try (with_reducible rfl); done)); try simp only [List.setIfInBounds_toArray, List.set_cons_zero, List.set_cons_succ]))
      refine ⟨pu_one rfl (by rfl) (fun K hK => ?_), pu_one rfl (by rfl) (fun K hK => ?_), pu_one rfl (by rfl) (fun K hK => ?_)⟩
      · go_simp
        refine (Css.out _).mono ?_
        rintro e x1 ⟨rfl, hk⟩
        simp only []
        have HK1 : Hid (Kp0 wc.drew x1) := Lib.hid (HK0.out.tr hk)
        clear hk
        refine hK (fun w' : World => Kp0 wc.drew w') _ _ (fun x h => h) HK1.out ?_
        clear hK K
        refine ⟨pu_one rfl (by rfl) (fun K hK => ?_), pu_one rfl (by rfl) (fun K hK => ?_), pu_one rfl (by rfl) (fun K hK => ?_)⟩
        · go_simp
          refine (Cdd.out _).mono ?_
          rintro e x2 ⟨rfl, hk⟩
          simp only []
          have HK2 : Hid (Kp0 wc.drew x2) := Lib.hid (HK1.out.tr hk)
          clear hk
          refine hK (fun w' : World => Kp0 wc.drew w') _ _ (fun x h => h) HK2.out ?_
          clear hK K
          refine ⟨pu_one rfl (by rfl) (fun K hK => ?_), pu_one rfl (by rfl) (fun K hK => ?_)⟩
          · go_simp
            refine hK (fun w' : World => Kp0 wc.drew w') _ _ (fun x h => h) (HK2.out.alloc _) ?_
            clear hK K
            have L6 : wc.drew.heap.size ≤ x2.heap.size := HK2.out.size
            have HK3 : Hid (Kp0 wc.drew (x2.alloc (.cells (i64s (zeros 16)).toArray 46))) := Lib.hid (HK2.out.alloc _)
            have F63 : Hid (Arr (x2.alloc (.cells (i64s (zeros 16)).toArray 46)) x2.heap.size 46 (zeros 16)) := Lib.hid (arr0 x2 _ _)
            change PU.wp _ _ _ _ _ _ (x2.alloc (.cells (i64s (zeros 16)).toArray 46))
            generalize (x2.alloc (.cells (i64s (zeros 16)).toArray 46)) = x3 at HK3 F63 ⊢
            refine pu_eff rfl (by rfl) (fun K hK => ?_)
            go_simp
            refine hK (fun w' : World => Kp0 wc.drew w') _ _ (fun x h => h) (HK3.out.alloc _) ?_
            clear hK K
            have L7 : wc.drew.heap.size ≤ x3.heap.size := HK3.out.size
            have N67 : x2.heap.size < x3.heap.size := F63.out.lt
            have HK4 : Hid (Kp0 wc.drew (x3.alloc (.cells (i64s (zeros 16)).toArray 46))) := Lib.hid (HK3.out.alloc _)
            have F74 : Hid (Arr (x3.alloc (.cells (i64s (zeros 16)).toArray 46)) x3.heap.size 46 (zeros 16)) := Lib.hid (arr0 x3 _ _)
            have F64 := Lib.hid (F63.out.kp0 ((Kp.refl (fun _ => False) x3).alloc (.cells (i64s (zeros 16)).toArray 46)))
            change PU.wp _ _ _ _ _ _ (x3.alloc (.cells (i64s (zeros 16)).toArray 46))
            generalize (x3.alloc (.cells (i64s (zeros 16)).toArray 46)) = x4 at HK4 F64 F74 ⊢
            refine pu_eff rfl (by rfl) (fun K hK => ?_)
            refine wp_store_arr 46 (.tmp 5) (.tmp 20) rfl x2.heap.size _ (zeros 16) (F3.digs 16 (ss : Int)) rfl rfl F64.out (infoN' _ (numLen _)) (numLen _).symm ?_
            intro y5 hA hS
            have HS5 := Lib.hid hS
            have G65 := Lib.hid hA
            have F75 := Lib.hid (F74.out.keep hS (fun e => by omega))
            have HK5 : Hid (Kp0 wc.drew y5) := Lib.hid (HK4.out.trans hS (fun _ _ h => h) (fun i hi e => by omega))
            clear hA hS
            refine hK (fun w' : World => Kp0 wc.drew w') _ _ (fun x h => h) HK5.out ?_
            clear hK K
            refine pu_eff rfl (by rfl) (fun K hK => ?_)
            refine wp_store_arr 46 (.tmp 6) (.tmp 23) rfl x3.heap.size _ (zeros 16) (F3.digs 16 (dd : Int)) rfl rfl F75.out (infoN' _ (numLen _)) (numLen _).symm ?_
            intro y6 hA hS
            have HS6 := Lib.hid hS
            have G76 := Lib.hid hA
            have F66 := Lib.hid (G65.out.keep hS (fun e => by omega))
            have HK6 : Hid (Kp0 wc.drew y6) := Lib.hid (HK5.out.trans hS (fun _ _ h => h) (fun i hi e => by omega))
            clear hA hS
            refine hK (fun w' : World => Kp0 wc.drew w') _ _ (fun x h => h) HK6.out ?_
            clear hK K
            refine pu_done ?_
            go_wp2
            go_meet
            exact ⟨x2.heap.size, x3.heap.size, rfl, rfl, F66.out, G76.out, HD.out.kp0 ((Kp.refl _ wc).drew.tr HK6.out)⟩
          · go_simp
            refine hK (fun w' : World => Kp0 wc.drew w') _ _ (fun x h => h) (HK2.out.alloc _) ?_
            clear hK K
            have L7 : wc.drew.heap.size ≤ x2.heap.size := HK2.out.size
            have HK7 : Hid (Kp0 wc.drew (x2.alloc (.cells (i64s (zeros 16)).toArray 46))) := Lib.hid (HK2.out.alloc _)
            have F77 : Hid (Arr (x2.alloc (.cells (i64s (zeros 16)).toArray 46)) x2.heap.size 46 (zeros 16)) := Lib.hid (arr0 x2 _ _)
            change PU.wp _ _ _ _ _ _ (x2.alloc (.cells (i64s (zeros 16)).toArray 46))
            generalize (x2.alloc (.cells (i64s (zeros 16)).toArray 46)) = x7 at HK7 F77 ⊢
            refine pu_eff rfl (by rfl) (fun K hK => ?_)
            go_simp
            refine hK (fun w' : World => Kp0 wc.drew w') _ _ (fun x h => h) (HK7.out.alloc _) ?_
            clear hK K
            have L6 : wc.drew.heap.size ≤ x7.heap.size := HK7.out.size
            have N76 : x2.heap.size < x7.heap.size := F77.out.lt
            have HK8 : Hid (Kp0 wc.drew (x7.alloc (.cells (i64s (zeros 16)).toArray 46))) := Lib.hid (HK7.out.alloc _)
            have F68 : Hid (Arr (x7.alloc (.cells (i64s (zeros 16)).toArray 46)) x7.heap.size 46 (zeros 16)) := Lib.hid (arr0 x7 _ _)
            have F78 := Lib.hid (F77.out.kp0 ((Kp.refl (fun _ => False) x7).alloc (.cells (i64s (zeros 16)).toArray 46)))
            change PU.wp _ _ _ _ _ _ (x7.alloc (.cells (i64s (zeros 16)).toArray 46))
            generalize (x7.alloc (.cells (i64s (zeros 16)).toArray 46)) = x8 at HK8 F78 F68 ⊢
            refine pu_eff rfl (by rfl) (fun K hK => ?_)
            refine wp_store_arr 46 (.tmp 5) (.tmp 20) rfl x7.heap.size _ (zeros 16) (F3.digs 16 (ss : Int)) rfl rfl F68.out (infoN' _ (numLen _)) (numLen _).symm ?_
            intro y9 hA hS
            have HS9 := Lib.hid hS
            have G69 := Lib.hid hA
            have F79 := Lib.hid (F78.out.keep hS (fun e => by omega))
            have HK9 : Hid (Kp0 wc.drew y9) := Lib.hid (HK8.out.trans hS (fun _ _ h => h) (fun i hi e => by omega))
            clear hA hS
            refine hK (fun w' : World => Kp0 wc.drew w') _ _ (fun x h => h) HK9.out ?_
            clear hK K
            refine pu_eff rfl (by rfl) (fun K hK => ?_)
            refine wp_store_arr 46 (.tmp 6) (.tmp 23) rfl x2.heap.size _ (zeros 16) (F3.digs 16 (dd : Int)) rfl rfl F79.out (infoN' _ (numLen _)) (numLen _).symm ?_
            intro y10 hA hS
            have HS10 := Lib.hid hS
            have G710 := Lib.hid hA
            have F610 := Lib.hid (G69.out.keep hS (fun e => by omega))
            have HK10 : Hid (Kp0 wc.drew y10) := Lib.hid (HK9.out.trans hS (fun _ _ h => h) (fun i hi e => by omega))
            clear hA hS
            refine hK (fun w' : World => Kp0 wc.drew w') _ _ (fun x h => h) HK10.out ?_
            clear hK K
            refine pu_done ?_
            go_wp2
            go_meet
            exact ⟨x7.heap.size, x2.heap.size, rfl, rfl, F610.out, G710.out, HD.out.kp0 ((Kp.refl _ wc).drew.tr HK10.out)⟩
        · go_simp
          refine hK (fun w' : World => Kp0 wc.drew w') _ _ (fun x h => h) (HK1.out.alloc _) ?_
          clear hK K
          have L6 : wc.drew.heap.size ≤ x1.heap.size := HK1.out.size
          have HK11 : Hid (Kp0 wc.drew (x1.alloc (.cells (i64s (zeros 16)).toArray 46))) := Lib.hid (HK1.out.alloc _)
          have F611 : Hid (Arr (x1.alloc (.cells (i64s (zeros 16)).toArray 46)) x1.heap.size 46 (zeros 16)) := Lib.hid (arr0 x1 _ _)
          change PU.wp _ _ _ _ _ _ (x1.alloc (.cells (i64s (zeros 16)).toArray 46))
          generalize (x1.alloc (.cells (i64s (zeros 16)).toArray 46)) = x11 at HK11 F611 ⊢
          refine ⟨pu_one rfl (by rfl) (fun K hK => ?_), pu_one rfl (by rfl) (fun K hK => ?_)⟩
          · go_simp
            refine (Cdd.out _).mono ?_
            rintro e x12 ⟨rfl, hk⟩
            simp only []
            have HK12 : Hid (Kp0 wc.drew x12) := Lib.hid (HK11.out.tr hk)
            have F612 := Lib.hid (F611.out.kp0 hk)
            clear hk
            refine hK (fun w' : World => Kp0 wc.drew w') _ _ (fun x h => h) HK12.out ?_
            clear hK K
            refine pu_eff rfl (by rfl) (fun K hK => ?_)
            go_simp
            refine hK (fun w' : World => Kp0 wc.drew w') _ _ (fun x h => h) (HK12.out.alloc _) ?_
            clear hK K
            have L7 : wc.drew.heap.size ≤ x12.heap.size := HK12.out.size
            have N67 : x1.heap.size < x12.heap.size := F612.out.lt
            have HK13 : Hid (Kp0 wc.drew (x12.alloc (.cells (i64s (zeros 16)).toArray 46))) := Lib.hid (HK12.out.alloc _)
            have F713 : Hid (Arr (x12.alloc (.cells (i64s (zeros 16)).toArray 46)) x12.heap.size 46 (zeros 16)) := Lib.hid (arr0 x12 _ _)
            have F613 := Lib.hid (F612.out.kp0 ((Kp.refl (fun _ => False) x12).alloc (.cells (i64s (zeros 16)).toArray 46)))
            change PU.wp _ _ _ _ _ _ (x12.alloc (.cells (i64s (zeros 16)).toArray 46))
            generalize (x12.alloc (.cells (i64s (zeros 16)).toArray 46)) = x13 at HK13 F613 F713 ⊢
            refine pu_eff rfl (by rfl) (fun K hK => ?_)
            refine wp_store_arr 46 (.tmp 5) (.tmp 20) rfl x1.heap.size _ (zeros 16) (F3.digs 16 (ss : Int)) rfl rfl F613.out (infoN' _ (numLen _)) (numLen _).symm ?_
            intro y14 hA hS
            have HS14 := Lib.hid hS
            have G614 := Lib.hid hA
            have F714 := Lib.hid (F713.out.keep hS (fun e => by omega))
            have HK14 : Hid (Kp0 wc.drew y14) := Lib.hid (HK13.out.trans hS (fun _ _ h => h) (fun i hi e => by omega))
            clear hA hS
            refine hK (fun w' : World => Kp0 wc.drew w') _ _ (fun x h => h) HK14.out ?_
            clear hK K
            refine pu_eff rfl (by rfl) (fun K hK => ?_)
            refine wp_store_arr 46 (.tmp 6) (.tmp 23) rfl x12.heap.size _ (zeros 16) (F3.digs 16 (dd : Int)) rfl rfl F714.out (infoN' _ (numLen _)) (numLen _).symm ?_
            intro y15 hA hS
            have HS15 := Lib.hid hS
            have G715 := Lib.hid hA
            have F615 := Lib.hid (G614.out.keep hS (fun e => by omega))
            have HK15 : Hid (Kp0 wc.drew y15) := Lib.hid (HK14.out.trans hS (fun _ _ h => h) (fun i hi e => by omega))
            clear hA hS
            refine hK (fun w' : World => Kp0 wc.drew w') _ _ (fun x h => h) HK15.out ?_
            clear hK K
            refine pu_done ?_
            go_wp2
            go_meet
            exact ⟨x1.heap.size, x12.heap.size, rfl, rfl, F615.out, G715.out, HD.out.kp0 ((Kp.refl _ wc).drew.tr HK15.out)⟩
          · go_simp
            refine hK (fun w' : World => Kp0 wc.drew w') _ _ (fun x h => h) (HK11.out.alloc _) ?_
            clear hK K
            have L7 : wc.drew.heap.size ≤ x11.heap.size := HK11.out.size
            have N67 : x1.heap.size < x11.heap.size := F611.out.lt
            have HK16 : Hid (Kp0 wc.drew (x11.alloc (.cells (i64s (zeros 16)).toArray 46))) := Lib.hid (HK11.out.alloc _)
            have F716 : Hid (Arr (x11.alloc (.cells (i64s (zeros 16)).toArray 46)) x11.heap.size 46 (zeros 16)) := Lib.hid (arr0 x11 _ _)
            have F616 := Lib.hid (F611.out.kp0 ((Kp.refl (fun _ => False) x11).alloc (.cells (i64s (zeros 16)).toArray 46)))
            change PU.wp _ _ _ _ _ _ (x11.alloc (.cells (i64s (zeros 16)).toArray 46))
            generalize (x11.alloc (.cells (i64s (zeros 16)).toArray 46)) = x16 at HK16 F616 F716 ⊢
            refine pu_eff rfl (by rfl) (fun K hK => ?_)
            go_simp
            refine (Cdd.out _).mono ?_
            rintro e x17 ⟨rfl, hk⟩
            simp only []
            have HK17 : Hid (Kp0 wc.drew x17) := Lib.hid (HK16.out.tr hk)
            have F617 := Lib.hid (F616.out.kp0 hk)
            have F717 := Lib.hid (F716.out.kp0 hk)
            clear hk
            refine hK (fun w' : World => Kp0 wc.drew w') _ _ (fun x h => h) HK17.out ?_
            clear hK K
            refine pu_eff rfl (by rfl) (fun K hK => ?_)
            refine wp_store_arr 46 (.tmp 5) (.tmp 20) rfl x1.heap.size _ (zeros 16) (F3.digs 16 (ss : Int)) rfl rfl F617.out (infoN' _ (numLen _)) (numLen _).symm ?_
            intro y18 hA hS
            have HS18 := Lib.hid hS
            have G618 := Lib.hid hA
            have F718 := Lib.hid (F717.out.keep hS (fun e => by omega))
            have HK18 : Hid (Kp0 wc.drew y18) := Lib.hid (HK17.out.trans hS (fun _ _ h => h) (fun i hi e => by omega))
            clear hA hS
            refine hK (fun w' : World => Kp0 wc.drew w') _ _ (fun x h => h) HK18.out ?_
            clear hK K
            refine pu_eff rfl (by rfl) (fun K hK => ?_)
            refine wp_store_arr 46 (.tmp 6) (.tmp 23) rfl x11.heap.size _ (zeros 16) (F3.digs 16 (dd : Int)) rfl rfl F718.out (infoN' _ (numLen _)) (numLen _).symm ?_
            intro y19 hA hS
            have HS19 := Lib.hid hS
            have G719 := Lib.hid hA
            have F619 := Lib.hid (G618.out.keep hS (fun e => by omega))
            have HK19 : Hid (Kp0 wc.drew y19) := Lib.hid (HK18.out.trans hS (fun _ _ h => h) (fun i hi e => by omega))
            clear hA hS
            refine hK (fun w' : World => Kp0 wc.drew w') _ _ (fun x h => h) HK19.out ?_
            clear hK K
            refine pu_done ?_
            go_wp2
            go_meet
            exact ⟨x1.heap.size, x11.heap.size, rfl, rfl, F619.out, G719.out, HD.out.kp0 ((Kp.refl _ wc).drew.tr HK19.out)⟩
        · go_simp
          refine hK (fun w' : World => Kp0 wc.drew w') _ _ (fun x h => h) (HK1.out.alloc _) ?_
          clear hK K
          have L7 : wc.drew.heap.size ≤ x1.heap.size := HK1.out.size
          have HK20 : Hid (Kp0 wc.drew (x1.alloc (.cells (i64s (zeros 16)).toArray 46))) := Lib.hid (HK1.out.alloc _)
          have F720 : Hid (Arr (x1.alloc (.cells (i64s (zeros 16)).toArray 46)) x1.heap.size 46 (zeros 16)) := Lib.hid (arr0 x1 _ _)
          change PU.wp _ _ _ _ _ _ (x1.alloc (.cells (i64s (zeros 16)).toArray 46))
          generalize (x1.alloc (.cells (i64s (zeros 16)).toArray 46)) = x20 at HK20 F720 ⊢
          refine ⟨pu_one rfl (by rfl) (fun K hK => ?_), pu_one rfl (by rfl) (fun K hK => ?_)⟩
          · go_simp
            refine (Cdd.out _).mono ?_
            rintro e x21 ⟨rfl, hk⟩
            simp only []
            have HK21 : Hid (Kp0 wc.drew x21) := Lib.hid (HK20.out.tr hk)
            have F721 := Lib.hid (F720.out.kp0 hk)
            clear hk
            refine hK (fun w' : World => Kp0 wc.drew w') _ _ (fun x h => h) HK21.out ?_
            clear hK K
            refine pu_eff rfl (by rfl) (fun K hK => ?_)
            go_simp
            refine hK (fun w' : World => Kp0 wc.drew w') _ _ (fun x h => h) (HK21.out.alloc _) ?_
            clear hK K
            have L6 : wc.drew.heap.size ≤ x21.heap.size := HK21.out.size
            have N76 : x1.heap.size < x21.heap.size := F721.out.lt
            have HK22 : Hid (Kp0 wc.drew (x21.alloc (.cells (i64s (zeros 16)).toArray 46))) := Lib.hid (HK21.out.alloc _)
            have F622 : Hid (Arr (x21.alloc (.cells (i64s (zeros 16)).toArray 46)) x21.heap.size 46 (zeros 16)) := Lib.hid (arr0 x21 _ _)
            have F722 := Lib.hid (F721.out.kp0 ((Kp.refl (fun _ => False) x21).alloc (.cells (i64s (zeros 16)).toArray 46)))
            change PU.wp _ _ _ _ _ _ (x21.alloc (.cells (i64s (zeros 16)).toArray 46))
            generalize (x21.alloc (.cells (i64s (zeros 16)).toArray 46)) = x22 at HK22 F722 F622 ⊢
            refine pu_eff rfl (by rfl) (fun K hK => ?_)
            refine wp_store_arr 46 (.tmp 5) (.tmp 20) rfl x21.heap.size _ (zeros 16) (F3.digs 16 (ss : Int)) rfl rfl F622.out (infoN' _ (numLen _)) (numLen _).symm ?_
            intro y23 hA hS
            have HS23 := Lib.hid hS
            have G623 := Lib.hid hA
            have F723 := Lib.hid (F722.out.keep hS (fun e => by omega))
            have HK23 : Hid (Kp0 wc.drew y23) := Lib.hid (HK22.out.trans hS (fun _ _ h => h) (fun i hi e => by omega))
            clear hA hS
            refine hK (fun w' : World => Kp0 wc.drew w') _ _ (fun x h => h) HK23.out ?_
            clear hK K
            refine pu_eff rfl (by rfl) (fun K hK => ?_)
            refine wp_store_arr 46 (.tmp 6) (.tmp 23) rfl x1.heap.size _ (zeros 16) (F3.digs 16 (dd : Int)) rfl rfl F723.out (infoN' _ (numLen _)) (numLen _).symm ?_
            intro y24 hA hS
            have HS24 := Lib.hid hS
            have G724 := Lib.hid hA
            have F624 := Lib.hid (G623.out.keep hS (fun e => by omega))
            have HK24 : Hid (Kp0 wc.drew y24) := Lib.hid (HK23.out.trans hS (fun _ _ h => h) (fun i hi e => by omega))
            clear hA hS
            refine hK (fun w' : World => Kp0 wc.drew w') _ _ (fun x h => h) HK24.out ?_
            clear hK K
            refine pu_done ?_
            go_wp2
            go_meet
            exact ⟨x21.heap.size, x1.heap.size, rfl, rfl, F624.out, G724.out, HD.out.kp0 ((Kp.refl _ wc).drew.tr HK24.out)⟩
          · go_simp
            refine hK (fun w' : World => Kp0 wc.drew w') _ _ (fun x h => h) (HK20.out.alloc _) ?_
            clear hK K
            have L6 : wc.drew.heap.size ≤ x20.heap.size := HK20.out.size
            have N76 : x1.heap.size < x20.heap.size := F720.out.lt
            have HK25 : Hid (Kp0 wc.drew (x20.alloc (.cells (i64s (zeros 16)).toArray 46))) := Lib.hid (HK20.out.alloc _)
            have F625 : Hid (Arr (x20.alloc (.cells (i64s (zeros 16)).toArray 46)) x20.heap.size 46 (zeros 16)) := Lib.hid (arr0 x20 _ _)
            have F725 := Lib.hid (F720.out.kp0 ((Kp.refl (fun _ => False) x20).alloc (.cells (i64s (zeros 16)).toArray 46)))
            change PU.wp _ _ _ _ _ _ (x20.alloc (.cells (i64s (zeros 16)).toArray 46))
            generalize (x20.alloc (.cells (i64s (zeros 16)).toArray 46)) = x25 at HK25 F725 F625 ⊢
            refine pu_eff rfl (by rfl) (fun K hK => ?_)
            go_simp
            refine (Cdd.out _).mono ?_
            rintro e x26 ⟨rfl, hk⟩
            simp only []
            have HK26 : Hid (Kp0 wc.drew x26) := Lib.hid (HK25.out.tr hk)
            have F726 := Lib.hid (F725.out.kp0 hk)
            have F626 := Lib.hid (F625.out.kp0 hk)
            clear hk
            refine hK (fun w' : World => Kp0 wc.drew w') _ _ (fun x h => h) HK26.out ?_
            clear hK K
            refine pu_eff rfl (by rfl) (fun K hK => ?_)
            refine wp_store_arr 46 (.tmp 5) (.tmp 20) rfl x20.heap.size _ (zeros 16) (F3.digs 16 (ss : Int)) rfl rfl F626.out (infoN' _ (numLen _)) (numLen _).symm ?_
            intro y27 hA hS
            have HS27 := Lib.hid hS
            have G627 := Lib.hid hA
            have F727 := Lib.hid (F726.out.keep hS (fun e => by omega))
            have HK27 : Hid (Kp0 wc.drew y27) := Lib.hid (HK26.out.trans hS (fun _ _ h => h) (fun i hi e => by omega))
            clear hA hS
            refine hK (fun w' : World => Kp0 wc.drew w') _ _ (fun x h => h) HK27.out ?_
            clear hK K
            refine pu_eff rfl (by rfl) (fun K hK => ?_)
            refine wp_store_arr 46 (.tmp 6) (.tmp 23) rfl x1.heap.size _ (zeros 16) (F3.digs 16 (dd : Int)) rfl rfl F727.out (infoN' _ (numLen _)) (numLen _).symm ?_
            intro y28 hA hS
            have HS28 := Lib.hid hS
            have G728 := Lib.hid hA
            have F628 := Lib.hid (G627.out.keep hS (fun e => by omega))
            have HK28 : Hid (Kp0 wc.drew y28) := Lib.hid (HK27.out.trans hS (fun _ _ h => h) (fun i hi e => by omega))
            clear hA hS
            refine hK (fun w' : World => Kp0 wc.drew w') _ _ (fun x h => h) HK28.out ?_
            clear hK K
            refine pu_done ?_
            go_wp2
            go_meet
            exact ⟨x20.heap.size, x1.heap.size, rfl, rfl, F628.out, G728.out, HD.out.kp0 ((Kp.refl _ wc).drew.tr HK28.out)⟩
      · go_simp
        refine hK (fun w' : World => Kp0 wc.drew w') _ _ (fun x h => h) (HK0.out.alloc _) ?_
        clear hK K
        have L6 : wc.drew.heap.size ≤ wc.drew.heap.size := HK0.out.size
        have HK29 : Hid (Kp0 wc.drew (wc.drew.alloc (.cells (i64s (zeros 16)).toArray 46))) := Lib.hid (HK0.out.alloc _)
        have F629 : Hid (Arr (wc.drew.alloc (.cells (i64s (zeros 16)).toArray 46)) wc.drew.heap.size 46 (zeros 16)) := Lib.hid (arr0 wc.drew _ _)
        change PU.wp _ _ _ _ _ _ (wc.drew.alloc (.cells (i64s (zeros 16)).toArray 46))
        generalize (wc.drew.alloc (.cells (i64s (zeros 16)).toArray 46)) = x29 at HK29 F629 ⊢
        refine ⟨pu_one rfl (by rfl) (fun K hK => ?_), pu_one rfl (by rfl) (fun K hK => ?_)⟩
        · go_simp
          refine (Css.out _).mono ?_
          rintro e x30 ⟨rfl, hk⟩
          simp only []
          have HK30 : Hid (Kp0 wc.drew x30) := Lib.hid (HK29.out.tr hk)
          have F630 := Lib.hid (F629.out.kp0 hk)
          clear hk
          refine hK (fun w' : World => Kp0 wc.drew w') _ _ (fun x h => h) HK30.out ?_
          clear hK K
          refine ⟨pu_one rfl (by rfl) (fun K hK => ?_), pu_one rfl (by rfl) (fun K hK => ?_)⟩
          · go_simp
            refine (Cdd.out _).mono ?_
            rintro e x31 ⟨rfl, hk⟩
            simp only []
            have HK31 : Hid (Kp0 wc.drew x31) := Lib.hid (HK30.out.tr hk)
            have F631 := Lib.hid (F630.out.kp0 hk)
            clear hk
            refine hK (fun w' : World => Kp0 wc.drew w') _ _ (fun x h => h) HK31.out ?_
            clear hK K
            refine pu_eff rfl (by rfl) (fun K hK => ?_)
            go_simp
            refine hK (fun w' : World => Kp0 wc.drew w') _ _ (fun x h => h) (HK31.out.alloc _) ?_
            clear hK K
            have L7 : wc.drew.heap.size ≤ x31.heap.size := HK31.out.size
            have N67 : wc.drew.heap.size < x31.heap.size := F631.out.lt
            have HK32 : Hid (Kp0 wc.drew (x31.alloc (.cells (i64s (zeros 16)).toArray 46))) := Lib.hid (HK31.out.alloc _)
            have F732 : Hid (Arr (x31.alloc (.cells (i64s (zeros 16)).toArray 46)) x31.heap.size 46 (zeros 16)) := Lib.hid (arr0 x31 _ _)
            have F632 := Lib.hid (F631.out.kp0 ((Kp.refl (fun _ => False) x31).alloc (.cells (i64s (zeros 16)).toArray 46)))
            change PU.wp _ _ _ _ _ _ (x31.alloc (.cells (i64s (zeros 16)).toArray 46))
            generalize (x31.alloc (.cells (i64s (zeros 16)).toArray 46)) = x32 at HK32 F632 F732 ⊢
            refine pu_eff rfl (by rfl) (fun K hK => ?_)
            refine wp_store_arr 46 (.tmp 5) (.tmp 20) rfl wc.drew.heap.size _ (zeros 16) (F3.digs 16 (ss : Int)) rfl rfl F632.out (infoN' _ (numLen _)) (numLen _).symm ?_
            intro y33 hA hS
            have HS33 := Lib.hid hS
            have G633 := Lib.hid hA
            have F733 := Lib.hid (F732.out.keep hS (fun e => by omega))
            have HK33 : Hid (Kp0 wc.drew y33) := Lib.hid (HK32.out.trans hS (fun _ _ h => h) (fun i hi e => by omega))
            clear hA hS
            refine hK (fun w' : World => Kp0 wc.drew w') _ _ (fun x h => h) HK33.out ?_
            clear hK K
            refine pu_eff rfl (by rfl) (fun K hK => ?_)
            refine wp_store_arr 46 (.tmp 6) (.tmp 23) rfl x31.heap.size _ (zeros 16) (F3.digs 16 (dd : Int)) rfl rfl F733.out (infoN' _ (numLen _)) (numLen _).symm ?_
            intro y34 hA hS
            have HS34 := Lib.hid hS
            have G734 := Lib.hid hA
            have F634 := Lib.hid (G633.out.keep hS (fun e => by omega))
            have HK34 : Hid (Kp0 wc.drew y34) := Lib.hid (HK33.out.trans hS (fun _ _ h => h) (fun i hi e => by omega))
            clear hA hS
            refine hK (fun w' : World => Kp0 wc.drew w') _ _ (fun x h => h) HK34.out ?_
            clear hK K
            refine pu_done ?_
            go_wp2
            go_meet
            exact ⟨wc.drew.heap.size, x31.heap.size, rfl, rfl, F634.out, G734.out, HD.out.kp0 ((Kp.refl _ wc).drew.tr HK34.out)⟩
          · go_simp
            refine hK (fun w' : World => Kp0 wc.drew w') _ _ (fun x h => h) (HK30.out.alloc _) ?_
            clear hK K
            have L7 : wc.drew.heap.size ≤ x30.heap.size := HK30.out.size
            have N67 : wc.drew.heap.size < x30.heap.size := F630.out.lt
            have HK35 : Hid (Kp0 wc.drew (x30.alloc (.cells (i64s (zeros 16)).toArray 46))) := Lib.hid (HK30.out.alloc _)
            have F735 : Hid (Arr (x30.alloc (.cells (i64s (zeros 16)).toArray 46)) x30.heap.size 46 (zeros 16)) := Lib.hid (arr0 x30 _ _)
            have F635 := Lib.hid (F630.out.kp0 ((Kp.refl (fun _ => False) x30).alloc (.cells (i64s (zeros 16)).toArray 46)))
            change PU.wp _ _ _ _ _ _ (x30.alloc (.cells (i64s (zeros 16)).toArray 46))
            generalize (x30.alloc (.cells (i64s (zeros 16)).toArray 46)) = x35 at HK35 F635 F735 ⊢
            refine pu_eff rfl (by rfl) (fun K hK => ?_)
            go_simp
            refine (Cdd.out _).mono ?_
            rintro e x36 ⟨rfl, hk⟩
            simp only []
            have HK36 : Hid (Kp0 wc.drew x36) := Lib.hid (HK35.out.tr hk)
            have F636 := Lib.hid (F635.out.kp0 hk)
            have F736 := Lib.hid (F735.out.kp0 hk)
            clear hk
            refine hK (fun w' : World => Kp0 wc.drew w') _ _ (fun x h => h) HK36.out ?_
            clear hK K
            refine pu_eff rfl (by rfl) (fun K hK => ?_)
            refine wp_store_arr 46 (.tmp 5) (.tmp 20) rfl wc.drew.heap.size _ (zeros 16) (F3.digs 16 (ss : Int)) rfl rfl F636.out (infoN' _ (numLen _)) (numLen _).symm ?_
            intro y37 hA hS
            have HS37 := Lib.hid hS
            have G637 := Lib.hid hA
            have F737 := Lib.hid (F736.out.keep hS (fun e => by omega))
            have HK37 : Hid (Kp0 wc.drew y37) := Lib.hid (HK36.out.trans hS (fun _ _ h => h) (fun i hi e => by omega))
            clear hA hS
            refine hK (fun w' : World => Kp0 wc.drew w') _ _ (fun x h => h) HK37.out ?_
            clear hK K
            refine pu_eff rfl (by rfl) (fun K hK => ?_)
            refine wp_store_arr 46 (.tmp 6) (.tmp 23) rfl x30.heap.size _ (zeros 16) (F3.digs 16 (dd : Int)) rfl rfl F737.out (infoN' _ (numLen _)) (numLen _).symm ?_
            intro y38 hA hS
            have HS38 := Lib.hid hS
            have G738 := Lib.hid hA
            have F638 := Lib.hid (G637.out.keep hS (fun e => by omega))
            have HK38 : Hid (Kp0 wc.drew y38) := Lib.hid (HK37.out.trans hS (fun _ _ h => h) (fun i hi e => by omega))
            clear hA hS
            refine hK (fun w' : World => Kp0 wc.drew w') _ _ (fun x h => h) HK38.out ?_
            clear hK K
            refine pu_done ?_
            go_wp2
            go_meet
            exact ⟨wc.drew.heap.size, x30.heap.size, rfl, rfl, F638.out, G738.out, HD.out.kp0 ((Kp.refl _ wc).drew.tr HK38.out)⟩
        · go_simp
          refine hK (fun w' : World => Kp0 wc.drew w') _ _ (fun x h => h) (HK29.out.alloc _) ?_
          clear hK K
          have L7 : wc.drew.heap.size ≤ x29.heap.size := HK29.out.size
          have N67 : wc.drew.heap.size < x29.heap.size := F629.out.lt
          have HK39 : Hid (Kp0 wc.drew (x29.alloc (.cells (i64s (zeros 16)).toArray 46))) := Lib.hid (HK29.out.alloc _)
          have F739 : Hid (Arr (x29.alloc (.cells (i64s (zeros 16)).toArray 46)) x29.heap.size 46 (zeros 16)) := Lib.hid (arr0 x29 _ _)
          have F639 := Lib.hid (F629.out.kp0 ((Kp.refl (fun _ => False) x29).alloc (.cells (i64s (zeros 16)).toArray 46)))
          change PU.wp _ _ _ _ _ _ (x29.alloc (.cells (i64s (zeros 16)).toArray 46))
          generalize (x29.alloc (.cells (i64s (zeros 16)).toArray 46)) = x39 at HK39 F639 F739 ⊢
          refine pu_eff rfl (by rfl) (fun K hK => ?_)
          go_simp
          refine (Css.out _).mono ?_
          rintro e x40 ⟨rfl, hk⟩
          simp only []
          have HK40 : Hid (Kp0 wc.drew x40) := Lib.hid (HK39.out.tr hk)
          have F640 := Lib.hid (F639.out.kp0 hk)
          have F740 := Lib.hid (F739.out.kp0 hk)
          clear hk
          refine hK (fun w' : World => Kp0 wc.drew w') _ _ (fun x h => h) HK40.out ?_
          clear hK K
          refine pu_eff rfl (by rfl) (fun K hK => ?_)
          go_simp
          refine (Cdd.out _).mono ?_
          rintro e x41 ⟨rfl, hk⟩
          simp only []
          have HK41 : Hid (Kp0 wc.drew x41) := Lib.hid (HK40.out.tr hk)
          have F641 := Lib.hid (F640.out.kp0 hk)
          have F741 := Lib.hid (F740.out.kp0 hk)
          clear hk
          refine hK (fun w' : World => Kp0 wc.drew w') _ _ (fun x h => h) HK41.out ?_
          clear hK K
          refine pu_eff rfl (by rfl) (fun K hK => ?_)
          refine wp_store_arr 46 (.tmp 5) (.tmp 20) rfl wc.drew.heap.size _ (zeros 16) (F3.digs 16 (ss : Int)) rfl rfl F641.out (infoN' _ (numLen _)) (numLen _).symm ?_
          intro y42 hA hS
          have HS42 := Lib.hid hS
          have G642 := Lib.hid hA
          have F742 := Lib.hid (F741.out.keep hS (fun e => by omega))
          have HK42 : Hid (Kp0 wc.drew y42) := Lib.hid (HK41.out.trans hS (fun _ _ h => h) (fun i hi e => by omega))
          clear hA hS
          refine hK (fun w' : World => Kp0 wc.drew w') _ _ (fun x h => h) HK42.out ?_
          clear hK K
          refine pu_eff rfl (by rfl) (fun K hK => ?_)
          refine wp_store_arr 46 (.tmp 6) (.tmp 23) rfl x29.heap.size _ (zeros 16) (F3.digs 16 (dd : Int)) rfl rfl F742.out (infoN' _ (numLen _)) (numLen _).symm ?_
          intro y43 hA hS
          have HS43 := Lib.hid hS
          have G743 := Lib.hid hA
          have F643 := Lib.hid (G642.out.keep hS (fun e => by omega))
          have HK43 : Hid (Kp0 wc.drew y43) := Lib.hid (HK42.out.trans hS (fun _ _ h => h) (fun i hi e => by omega))
          clear hA hS
          refine hK (fun w' : World => Kp0 wc.drew w') _ _ (fun x h => h) HK43.out ?_
          clear hK K
          refine pu_done ?_
          go_wp2
          go_meet
          exact ⟨wc.drew.heap.size, x29.heap.size, rfl, rfl, F643.out, G743.out, HD.out.kp0 ((Kp.refl _ wc).drew.tr HK43.out)⟩
      · go_simp
        refine hK (fun w' : World => Kp0 wc.drew w') _ _ (fun x h => h) (HK0.out.alloc _) ?_
        clear hK K
        have L7 : wc.drew.heap.size ≤ wc.drew.heap.size := HK0.out.size
        have HK44 : Hid (Kp0 wc.drew (wc.drew.alloc (.cells (i64s (zeros 16)).toArray 46))) := Lib.hid (HK0.out.alloc _)
        have F744 : Hid (Arr (wc.drew.alloc (.cells (i64s (zeros 16)).toArray 46)) wc.drew.heap.size 46 (zeros 16)) := Lib.hid (arr0 wc.drew _ _)
        change PU.wp _ _ _ _ _ _ (wc.drew.alloc (.cells (i64s (zeros 16)).toArray 46))
        generalize (wc.drew.alloc (.cells (i64s (zeros 16)).toArray 46)) = x44 at HK44 F744 ⊢
        refine ⟨pu_one rfl (by rfl) (fun K hK => ?_), pu_one rfl (by rfl) (fun K hK => ?_)⟩
        · go_simp
          refine (Css.out _).mono ?_
          rintro e x45 ⟨rfl, hk⟩
          simp only []
          have HK45 : Hid (Kp0 wc.drew x45) := Lib.hid (HK44.out.tr hk)
          have F745 := Lib.hid (F744.out.kp0 hk)
          clear hk
          refine hK (fun w' : World => Kp0 wc.drew w') _ _ (fun x h => h) HK45.out ?_
          clear hK K
          refine ⟨pu_one rfl (by rfl) (fun K hK => ?_), pu_one rfl (by rfl) (fun K hK => ?_)⟩
          · go_simp
            refine (Cdd.out _).mono ?_
            rintro e x46 ⟨rfl, hk⟩
            simp only []
            have HK46 : Hid (Kp0 wc.drew x46) := Lib.hid (HK45.out.tr hk)
            have F746 := Lib.hid (F745.out.kp0 hk)
            clear hk
            refine hK (fun w' : World => Kp0 wc.drew w') _ _ (fun x h => h) HK46.out ?_
            clear hK K
            refine pu_eff rfl (by rfl) (fun K hK => ?_)
            go_simp
            refine hK (fun w' : World => Kp0 wc.drew w') _ _ (fun x h => h) (HK46.out.alloc _) ?_
            clear hK K
            have L6 : wc.drew.heap.size ≤ x46.heap.size := HK46.out.size
            have N76 : wc.drew.heap.size < x46.heap.size := F746.out.lt
            have HK47 : Hid (Kp0 wc.drew (x46.alloc (.cells (i64s (zeros 16)).toArray 46))) := Lib.hid (HK46.out.alloc _)
            have F647 : Hid (Arr (x46.alloc (.cells (i64s (zeros 16)).toArray 46)) x46.heap.size 46 (zeros 16)) := Lib.hid (arr0 x46 _ _)
            have F747 := Lib.hid (F746.out.kp0 ((Kp.refl (fun _ => False) x46).alloc (.cells (i64s (zeros 16)).toArray 46)))
            change PU.wp _ _ _ _ _ _ (x46.alloc (.cells (i64s (zeros 16)).toArray 46))
            generalize (x46.alloc (.cells (i64s (zeros 16)).toArray 46)) = x47 at HK47 F747 F647 ⊢
            refine pu_eff rfl (by rfl) (fun K hK => ?_)
            refine wp_store_arr 46 (.tmp 5) (.tmp 20) rfl x46.heap.size _ (zeros 16) (F3.digs 16 (ss : Int)) rfl rfl F647.out (infoN' _ (numLen _)) (numLen _).symm ?_
            intro y48 hA hS
            have HS48 := Lib.hid hS
            have G648 := Lib.hid hA
            have F748 := Lib.hid (F747.out.keep hS (fun e => by omega))
            have HK48 : Hid (Kp0 wc.drew y48) := Lib.hid (HK47.out.trans hS (fun _ _ h => h) (fun i hi e => by omega))
            clear hA hS
            refine hK (fun w' : World => Kp0 wc.drew w') _ _ (fun x h => h) HK48.out ?_
            clear hK K
            refine pu_eff rfl (by rfl) (fun K hK => ?_)
            refine wp_store_arr 46 (.tmp 6) (.tmp 23) rfl wc.drew.heap.size _ (zeros 16) (F3.digs 16 (dd : Int)) rfl rfl F748.out (infoN' _ (numLen _)) (numLen _).symm ?_
            intro y49 hA hS
            have HS49 := Lib.hid hS
            have G749 := Lib.hid hA
            have F649 := Lib.hid (G648.out.keep hS (fun e => by omega))
            have HK49 : Hid (Kp0 wc.drew y49) := Lib.hid (HK48.out.trans hS (fun _ _ h => h) (fun i hi e => by omega))
            clear hA hS
            refine hK (fun w' : World => Kp0 wc.drew w') _ _ (fun x h => h) HK49.out ?_
            clear hK K
            refine pu_done ?_
            go_wp2
            go_meet
            exact ⟨x46.heap.size, wc.drew.heap.size, rfl, rfl, F649.out, G749.out, HD.out.kp0 ((Kp.refl _ wc).drew.tr HK49.out)⟩
          · go_simp
            refine hK (fun w' : World => Kp0 wc.drew w') _ _ (fun x h => h) (HK45.out.alloc _) ?_
            clear hK K
            have L6 : wc.drew.heap.size ≤ x45.heap.size := HK45.out.size
            have N76 : wc.drew.heap.size < x45.heap.size := F745.out.lt
            have HK50 : Hid (Kp0 wc.drew (x45.alloc (.cells (i64s (zeros 16)).toArray 46))) := Lib.hid (HK45.out.alloc _)
            have F650 : Hid (Arr (x45.alloc (.cells (i64s (zeros 16)).toArray 46)) x45.heap.size 46 (zeros 16)) := Lib.hid (arr0 x45 _ _)
            have F750 := Lib.hid (F745.out.kp0 ((Kp.refl (fun _ => False) x45).alloc (.cells (i64s (zeros 16)).toArray 46)))
            change PU.wp _ _ _ _ _ _ (x45.alloc (.cells (i64s (zeros 16)).toArray 46))
            generalize (x45.alloc (.cells (i64s (zeros 16)).toArray 46)) = x50 at HK50 F750 F650 ⊢
            refine pu_eff rfl (by rfl) (fun K hK => ?_)
            go_simp
            refine (Cdd.out _).mono ?_
            rintro e x51 ⟨rfl, hk⟩
            simp only []
            have HK51 : Hid (Kp0 wc.drew x51) := Lib.hid (HK50.out.tr hk)
            have F751 := Lib.hid (F750.out.kp0 hk)
            have F651 := Lib.hid (F650.out.kp0 hk)
            clear hk
            refine hK (fun w' : World => Kp0 wc.drew w') _ _ (fun x h => h) HK51.out ?_
            clear hK K
            refine pu_eff rfl (by rfl) (fun K hK => ?_)
            refine wp_store_arr 46 (.tmp 5) (.tmp 20) rfl x45.heap.size _ (zeros 16) (F3.digs 16 (ss : Int)) rfl rfl F651.out (infoN' _ (numLen _)) (numLen _).symm ?_
            intro y52 hA hS
            have HS52 := Lib.hid hS
            have G652 := Lib.hid hA
            have F752 := Lib.hid (F751.out.keep hS (fun e => by omega))
            have HK52 : Hid (Kp0 wc.drew y52) := Lib.hid (HK51.out.trans hS (fun _ _ h => h) (fun i hi e => by omega))
            clear hA hS
            refine hK (fun w' : World => Kp0 wc.drew w') _ _ (fun x h => h) HK52.out ?_
            clear hK K
            refine pu_eff rfl (by rfl) (fun K hK => ?_)
            refine wp_store_arr 46 (.tmp 6) (.tmp 23) rfl wc.drew.heap.size _ (zeros 16) (F3.digs 16 (dd : Int)) rfl rfl F752.out (infoN' _ (numLen _)) (numLen _).symm ?_
            intro y53 hA hS
            have HS53 := Lib.hid hS
            have G753 := Lib.hid hA
            have F653 := Lib.hid (G652.out.keep hS (fun e => by omega))
            have HK53 : Hid (Kp0 wc.drew y53) := Lib.hid (HK52.out.trans hS (fun _ _ h => h) (fun i hi e => by omega))
            clear hA hS
            refine hK (fun w' : World => Kp0 wc.drew w') _ _ (fun x h => h) HK53.out ?_
            clear hK K
            refine pu_done ?_
            go_wp2
            go_meet
            exact ⟨x45.heap.size, wc.drew.heap.size, rfl, rfl, F653.out, G753.out, HD.out.kp0 ((Kp.refl _ wc).drew.tr HK53.out)⟩
        · go_simp
          refine hK (fun w' : World => Kp0 wc.drew w') _ _ (fun x h => h) (HK44.out.alloc _) ?_
          clear hK K
          have L6 : wc.drew.heap.size ≤ x44.heap.size := HK44.out.size
          have N76 : wc.drew.heap.size < x44.heap.size := F744.out.lt
          have HK54 : Hid (Kp0 wc.drew (x44.alloc (.cells (i64s (zeros 16)).toArray 46))) := Lib.hid (HK44.out.alloc _)
          have F654 : Hid (Arr (x44.alloc (.cells (i64s (zeros 16)).toArray 46)) x44.heap.size 46 (zeros 16)) := Lib.hid (arr0 x44 _ _)
          have F754 := Lib.hid (F744.out.kp0 ((Kp.refl (fun _ => False) x44).alloc (.cells (i64s (zeros 16)).toArray 46)))
          change PU.wp _ _ _ _ _ _ (x44.alloc (.cells (i64s (zeros 16)).toArray 46))
          generalize (x44.alloc (.cells (i64s (zeros 16)).toArray 46)) = x54 at HK54 F754 F654 ⊢
          refine pu_eff rfl (by rfl) (fun K hK => ?_)
          go_simp
          refine (Css.out _).mono ?_
          rintro e x55 ⟨rfl, hk⟩
          simp only []
          have HK55 : Hid (Kp0 wc.drew x55) := Lib.hid (HK54.out.tr hk)
          have F755 := Lib.hid (F754.out.kp0 hk)
          have F655 := Lib.hid (F654.out.kp0 hk)
          clear hk
          refine hK (fun w' : World => Kp0 wc.drew w') _ _ (fun x h => h) HK55.out ?_
          clear hK K
          refine pu_eff rfl (by rfl) (fun K hK => ?_)
          go_simp
          refine (Cdd.out _).mono ?_
          rintro e x56 ⟨rfl, hk⟩
          simp only []
          have HK56 : Hid (Kp0 wc.drew x56) := Lib.hid (HK55.out.tr hk)
          have F756 := Lib.hid (F755.out.kp0 hk)
          have F656 := Lib.hid (F655.out.kp0 hk)
          clear hk
          refine hK (fun w' : World => Kp0 wc.drew w') _ _ (fun x h => h) HK56.out ?_
          clear hK K
          refine pu_eff rfl (by rfl) (fun K hK => ?_)
          refine wp_store_arr 46 (.tmp 5) (.tmp 20) rfl x44.heap.size _ (zeros 16) (F3.digs 16 (ss : Int)) rfl rfl F656.out (infoN' _ (numLen _)) (numLen _).symm ?_
          intro y57 hA hS
          have HS57 := Lib.hid hS
          have G657 := Lib.hid hA
          have F757 := Lib.hid (F756.out.keep hS (fun e => by omega))
          have HK57 : Hid (Kp0 wc.drew y57) := Lib.hid (HK56.out.trans hS (fun _ _ h => h) (fun i hi e => by omega))
          clear hA hS
          refine hK (fun w' : World => Kp0 wc.drew w') _ _ (fun x h => h) HK57.out ?_
          clear hK K
          refine pu_eff rfl (by rfl) (fun K hK => ?_)
          refine wp_store_arr 46 (.tmp 6) (.tmp 23) rfl wc.drew.heap.size _ (zeros 16) (F3.digs 16 (dd : Int)) rfl rfl F757.out (infoN' _ (numLen _)) (numLen _).symm ?_
          intro y58 hA hS
          have HS58 := Lib.hid hS
          have G758 := Lib.hid hA
          have F658 := Lib.hid (G657.out.keep hS (fun e => by omega))
          have HK58 : Hid (Kp0 wc.drew y58) := Lib.hid (HK57.out.trans hS (fun _ _ h => h) (fun i hi e => by omega))
          clear hA hS
          refine hK (fun w' : World => Kp0 wc.drew w') _ _ (fun x h => h) HK58.out ?_
          clear hK K
          refine pu_done ?_
          go_wp2
          go_meet
          exact ⟨x44.heap.size, wc.drew.heap.size, rfl, rfl, F658.out, G758.out, HD.out.kp0 ((Kp.refl _ wc).drew.tr HK58.out)⟩
    case rest =>
      obtain ⟨g5, h5, rfl, rfl, hg, hh, hd⟩ := hcut
      have HG5 := Lib.hid hg
      have HH5 := Lib.hid hh
      have HD5 := Lib.hid hd
      clear hg hh hd HG HH HD
      go_upto_region 4 with (first
        | (refine wl_load_arr rfl 46 (.tmp 5) rfl g5 _ (F3.digs 16 (ss : Int)) rfl HG5.out _ Try.underlying46 rfl (infoN _ (numLen _)) ?_)
        | (refine wl_load_arr rfl 46 (.tmp 6) rfl h5 _ (F3.digs 16 (dd : Int)) rfl HH5.out _ Try.underlying46 rfl (infoN _ (numLen _)) ?_)
        | (go_at_call 35; refine (Cc.out _).mono ?_; rintro e w5 ⟨rfl, hk⟩; have HG6 := Lib.hid (HG5.out.kp0 hk); have HH6 := Lib.hid (HH5.out.kp0 hk); have HD6 := Lib.hid (HD5.out.kp0 hk); clear hk)
        | (refine wl_store_arr rfl 46 (.tmp 7) (.tmp 26) rfl w5.heap.size _ (zeros 16) (F3.digs 16 (c : Int)) rfl rfl (arr0 w5 _ (zeros 16)) (infoN' _ (numLen _)) (numLen _).symm ?_; intro w6 hA hS; have hh : Kp0 w5 w6 := ((Kp.refl (fun _ => False) w5).alloc _).trans hS (fun _ _ h => h) (fun i hi e => by omega); have HC7 := Lib.hid hA; have HG7 := Lib.hid (HG6.out.kp0 hh); have HH7 := Lib.hid (HH6.out.kp0 hh); have HD7 := Lib.hid (HD6.out.kp0 hh); clear hA hS hh))

      try simp only [Act.put]
      have HK0 : Hid (Kp0 w6.drew w6.drew) := Lib.hid (Kp.refl _ _)
      refine wp_region_wall [11] (fun w' : World => Kp0 w6.drew w') (.quiet 0 (.quiet 1 (.quiet 3 (.quiet 4 (.quiet 6 (.eff 2 (.eff 5 (.eff 7 (.eff 8 (.eff 9 (.quiet 10 (.wall 11 .done)))))))))))) (by kernel_rfl) (by kernel_rfl) (by kernel_rfl) (by kernel_rfl) (fun _ d _ _ _ h => by cases d <;> exact h) HK0.out ?_
      repeat (first
        | (refine pw_quiet (v := .agg (i64s (F3.digs 16 (ss : Int))).toArray) rfl (by rfl) (fun wq hwq => run_load_arr 46 (.tmp 5) rfl g5 _ (F3.digs 16 (ss : Int)) rfl (HG7.out.kp0 ((Kp.refl _ w6).drew.tr hwq)) _ Try.underlying46 rfl (infoN _ (numLen _))) rfl ?_; try simp only [List.setIfInBounds_toArray, List.set_cons_zero, List.set_cons_succ])
        | (refine pw_quiet (v := .agg (i64s (F3.digs 16 (dd : Int))).toArray) rfl (by rfl) (fun wq hwq => run_load_arr 46 (.tmp 6) rfl h5 _ (F3.digs 16 (dd : Int)) rfl (HH7.out.kp0 ((Kp.refl _ w6).drew.tr hwq)) _ Try.underlying46 rfl (infoN _ (numLen _))) rfl ?_; try simp only [List.setIfInBounds_toArray, List.set_cons_zero, List.set_cons_succ])
        | (refine pw_quiet (v := .agg (i64s (F3.digs 16 (c : Int))).toArray) rfl (by rfl) (fun wq hwq => run_load_arr 46 (.tmp 7) rfl w5.heap.size _ (F3.digs 16 (c : Int)) rfl (HC7.out.kp0 ((Kp.refl _ w6).drew.tr hwq)) _ Try.underlying46 rfl (infoN _ (numLen _))) rfl ?_; try simp only [List.setIfInBounds_toArray, List.set_cons_zero, List.set_cons_succ])
        | (refine pw_quiet (v := ?_) rfl (by rfl) (fun wq hwq => ?_) rfl ?_; rotate_left 1; (focus (go_simp; try (with_reducible rfl); done)); try simp only [List.setIfInBounds_toArray, List.set_cons_zero, List.set_cons_succ]))
      refine pw_eff rfl (by rfl) (fun K hK => ?_)
      go_simp
      refine (CX.out _).mono ?_
      rintro e z1 ⟨rfl, hk⟩
      simp only []
      have HK1 : Hid (Kp0 w6.drew z1) := Lib.hid (HK0.out.tr hk)
      clear hk
      refine hK (fun w' : World => Kp0 w6.drew w') _ _ (fun x h => h) HK1.out ?_
      clear hK K
      refine pw_eff rfl (by rfl) (fun K hK => ?_)
      go_simp
      refine (C1.out _).mono ?_
      rintro e z2 ⟨rfl, hk⟩
      simp only []
      have HK2 : Hid (Kp0 w6.drew z2) := Lib.hid (HK1.out.tr hk)
      clear hk
      refine hK (fun w' : World => Kp0 w6.drew w') _ _ (fun x h => h) HK2.out ?_
      clear hK K
      refine pw_eff rfl (by rfl) (fun K hK => ?_)
      go_simp
      refine (Cm.out _).mono ?_
      rintro e z3 ⟨rfl, hk⟩
      simp only []
      have HK3 : Hid (Kp0 w6.drew z3) := Lib.hid (HK2.out.tr hk)
      clear hk
      refine hK (fun w' : World => Kp0 w6.drew w') _ _ (fun x h => h) HK3.out ?_
      clear hK K
      refine pw_eff rfl (by rfl) (fun K hK => ?_)
      go_simp
      refine (Ct.out _).mono ?_
      rintro e z4 ⟨rfl, hk⟩
      simp only []
      have HK4 : Hid (Kp0 w6.drew z4) := Lib.hid (HK3.out.tr hk)
      clear hk
      refine hK (fun w' : World => Kp0 w6.drew w') _ _ (fun x h => h) HK4.out ?_
      clear hK K
      refine pw_eff rfl (by rfl) (fun K hK => ?_)
      go_simp
      refine (CZ.out _).mono ?_
      rintro e z5 ⟨rfl, hk⟩
      simp only []
      have HK5 : Hid (Kp0 w6.drew z5) := Lib.hid (HK4.out.tr hk)
      clear hk
      refine hK (fun w' : World => Kp0 w6.drew w') _ _ (fun x h => h) HK5.out ?_
      clear hK K
      refine pw_quiet (v := .agg (i64s (ptL X Z)).toArray) rfl (by rfl) (fun wq hwq => run_build_pt wq _ _ 29 36 rfl X Z rfl rfl) rfl ?_
      try simp only [List.setIfInBounds_toArray, List.set_cons_zero, List.set_cons_succ]
      have HD8 := Lib.hid (HD7.out.kp0 ((Kp.refl _ w6).drew.tr HK5.out))
      refine pw_wall rfl (by rfl) (fun K hK => ?_)
      refine wp_store_arr 50 (.tmp 2) (.tmp 37) rfl (w.heap.size + 1) _ zpt (ptL X Z) rfl rfl HD8.out.2.1 (by rw [List.size_toArray]; exact infoT X Z) (by rw [ptL_len]; rfl) ?_
      intro w9 hA hS
      have HA9 := Lib.hid hA
      have HS9 := Lib.hid hS
      clear hA hS
      refine hK _ _ ?_
      clear hK K
      refine pw_done ?_
      go_wp2
      refine ret_arr 2 50 50 (w.heap.size + 1) (ptL X Z) _ rfl rfl HA9.out Try.underlying50 rfl (infoT X Z) rfl ?_
      exact ⟨rfl, HD8.out.2.2.trans HS9.out (fun _ _ h => h) (fun i hi e => by omega)⟩
end Go.Proofs.Ytcnehbfcagghpaa
