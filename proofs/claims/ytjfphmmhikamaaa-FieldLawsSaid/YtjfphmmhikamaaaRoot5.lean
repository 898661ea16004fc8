/- Package field: roots; the contracts of the package. -/
import Derived.Test.YtjfphmmhikamaaaInv5
import Derived.Test.YtjfphmmhikamaaaReg3
import Derived.Deep.DeepCutAuto
namespace Go.Proofs.Ytjfphmmhikamaaa
open Go Go.RowKit
theorem leN_253 : leN (allB 253 5) = 14474011154664524427946373126085988481658748083205070504932198000989141204987 := by
  have := allB_val 253 5 (by omega) (by omega) (by omega) (by omega)
  omega
theorem leN_252 : leN (allB 252 2) = (57896044618658097711785492504343953926634992332820282019728792003956564819949 + 3) / 8 := by
  have := allB_val 252 2 (by omega) (by omega) (by omega) (by omega)
  omega
/-- A root of -1. -/
def eyeN : Nat := 19681161376707505956807079304988542015446066515923890162744021073123829784752
theorem powN_two (e : Nat) (he : e = 14474011154664524427946373126085988481658748083205070504932198000989141204987) : powN e 2 = eyeN := by
  unfold powN eyeN
  exact two_pow e he
theorem powN_def (e m : Nat) : powN e m = m ^ e % 57896044618658097711785492504343953926634992332820282019728792003956564819949 := rfl
def RmS (w : World) (bs : List Value) (g : Nat) (wr : World) : Prop := Blk wr w.heap.size 45 (kis .u64 z5) ∧ Blk wr g 70 bs ∧ Kp0 w wr ∧ w.heap.size < g
theorem RmS.kp0 {w wr wx : World} {bs : List Value} {g : Nat} (h : RmS w bs g wr) (hk : Kp0 wr wx) : RmS w bs g wx := ⟨h.1.kp0 hk, h.2.1.kp0 hk, h.2.2.1.tr hk, h.2.2.2⟩
theorem RmS.drew {w wr : World} {bs : List Value} {g : Nat} (h : RmS w bs g wr) : RmS w bs g wr.drew := h.kp0 ((Kp.refl _ wr).drew)
set_option maxRecDepth 20000 in
set_option maxHeartbeats 4000000 in
theorem eye_fe (w : World) : Calls Try.prog 64 #[] w fun e w' => ∃ es, e = .returned (.agg es.toArray) ∧ Fe El es eyeN ∧ Kp0 w w' := by
  have HQ : Hid (powN (leN (allB 253 5)) 2 = eyeN) := Lib.hid (powN_two _ leN_253)
  go_enter Try.func64, Try.ntmps64
  go_upto_region 1 with (fail)
  have HB0 := Lib.hid (ark0 (k := .u64) w 45 z5)
  have HK0 := Lib.hid ((Kp.refl (fun _ => False) w).alloc (.cells (kis .u64 z5).toArray 45))
  change Code.wp _ _ _ _ (w.alloc (.cells (kis .u64 z5).toArray 45))
  generalize (w.alloc (.cells (kis .u64 z5).toArray 45)) = w0 at HB0 HK0
  go_upto_region 2 with (first
    | (go_at_call 62; refine (below253 _).mono ?_; rintro e w1 ⟨rfl, hk1⟩; have HK1 := Lib.hid hk1; clear hk1)
    | (refine wl_store_blk rfl 70 (.tmp 1) (.tmp 2) rfl w1.heap.size _ (kis .u8 zs32) (bys (allB 253 5)) rfl rfl (ark0 w1 _ zs32) (infoB32 _ _) (by rw [kis_len, bys_len, allB_len]; rfl) (bys_one _) ?_; intro w2 hA2 hK2; have HA2 := Lib.hid hA2; have HK2 := Lib.hid hK2; clear hA2 hK2))
  obtain ⟨g, hg⟩ : ∃ g, g = w1.heap.size := ⟨_, rfl⟩
  have HS : Hid (RmS w (bys (allB 253 5)) g w2) := Lib.hid (by
    have hk : Kp (fun b => b = g) w1 w2 := ((Kp.refl (fun b => b = g) w1).alloc _).tr (by rw [hg]; exact HK2.out)
    have hlt := (HB0.out.kp0 HK1.out).lt
    exact ⟨(HB0.out.kp0 HK1.out).keep hk (fun e => by omega), by rw [hg]; exact HA2.out, (HK0.out.tr HK1.out).trans hk (fun _ _ h => h) (fun i hi e => by omega), by omega⟩)
  rw [← hg]
  clear HB0 HK0 HK1 HA2 HK2 hg
  refine wp_region_wall [3] (fun w' : World => RmS w (bys (allB 253 5)) g w') (.quiet 1 (.eff 0 (.eff 2 (.wall 3 .done)))) (by kernel_rfl) (by kernel_rfl) (by kernel_rfl) (by kernel_rfl) (fun _ d _ _ _ h => by cases d <;> exact h) HS.out.drew ?_
  repeat (first | (refine pw_quiet (v := ?_) rfl (by rfl) (fun wq hwq => ?_) rfl ?_; rotate_left 1; (focus (go_simp; try (with_reducible rfl); done))))
  refine pw_eff rfl (by rfl) (fun K hK => ?_)
  go_simp
  refine (small_fe 2 _ (by omega)).mono ?_
  rintro e x1 ⟨c2, rfl, hf2, hk1⟩
  simp only []
  have HX1 := Lib.hid (HS.out.drew.kp0 hk1)
  clear hk1
  refine hK (fun w' : World => RmS w (bys (allB 253 5)) g w') _ _ (fun x h => h) HX1.out ?_
  clear hK K
  have HF2 := Lib.hid hf2
  clear hf2
  refine pw_eff rfl (by rfl) (fun K hK => ?_)
  go_simp
  refine (pow_fe c2 2 _ (allB 253 5) _ HF2.out (rd_arr HX1.out.2.1 (allB_len _ _)) (fun g' hg' => ?_)).mono ?_
  · have := HX1.out.2.1.lt
    simp [Value.ownBlock] at hg'
    omega
  rw [HQ.out]
  rintro e x3 ⟨es, rfl, hfe, hk3⟩
  simp only []
  have HE := Lib.hid hfe
  have HX := Lib.hid (HX1.out.kp0 hk3)
  clear hk3 hfe
  refine hK (fun w' : World => RmS w (bys (allB 253 5)) g w') _ _ (fun x h => h) HX.out ?_
  clear hK K
  refine pw_wall rfl (by rfl) (fun K hK => ?_)
  refine wp_store_blk 45 (.tmp 0) (.tmp 5) rfl w.heap.size _ (kis .u64 z5) es rfl rfl HX.out.1 HE.out.2.2.1 (len_of fe_z5.2.2.1 HE.out.2.2.1) HE.out.2.2.2 ?_
  intro w7 hA7 hK7
  have HA7 := Lib.hid hA7
  have HK7 := Lib.hid hK7
  clear hA7 hK7
  refine hK _ _ ?_
  clear hK K
  refine pw_done ?_
  go_wp2
  refine ret_blk 0 45 45 w.heap.size es _ rfl rfl HA7.out Try.underlying45 rfl HE.out.2.2.1 rfl ?_
  exact ⟨es, rfl, HE.out, HX.out.2.2.1.trans HK7.out (fun _ _ h => h) (fun i hi e => by omega)⟩
theorem ret_blk2 {P : Program} {fn : Func} {R : Ending → World → Prop} {a : Act} {w : World} (t u : Tmp) (T U : TypeId) (g : Nat) (cs : List Value) (d : TypeDesc) (hr : fn.results = #[.cell t T, .tmp u]) (hx : a.tmps.getD t undef = .pointer (some ⟨g, 0, none⟩))
    (hA : Blk w g U cs) (hu : P.underlying T = some d) (hd : d.isRow = true) (hi : (P.info? T).map (·.size) = some cs.length) (hdf : a.defers = []) (v : Value) (hv : a.tmps.getD u undef = v) (hR : R (.returned (.tuple #[.agg cs.toArray, v])) w) : bodyPost P fn R .ret a w := by
  subst hv
  refine ⟨hdf, _, ?_, hR⟩
  have := run_loadVar_mid (P := P) w g 0 T cs d hA.range hu hd hi
  rw [Array.getD_eq_getD_getElem?] at hx
  simp [results, hr, hx, asAddr, this]
/-- What the root's steps keep. -/
def RootF (w : World) (g : Nat) (cs cx : List Value) (wx : World) : Prop := Blk wx w.heap.size 45 cs ∧ Blk wx (w.heap.size + 1) 45 (kis .u64 z5) ∧ Blk wx g 45 cx ∧ Kp0 w wx ∧ w.heap.size + 1 < g
theorem RootF.kp0 {w wx wy : World} {g : Nat} {cs cx : List Value} (h : RootF w g cs cx wx) (hk : Kp0 wx wy) : RootF w g cs cx wy := ⟨h.1.kp0 hk, h.2.1.kp0 hk, h.2.2.1.kp0 hk, h.2.2.2.1.tr hk, h.2.2.2.2⟩
theorem RootF.drew {w wx : World} {g : Nat} {cs cx : List Value} (h : RootF w g cs cx wx) : RootF w g cs cx wx.drew := h.kp0 ((Kp.refl _ wx).drew)
theorem RootF.put {w wx wy : World} {g : Nat} {cs cx cy : List Value} (h : RootF w g cs cx wx) (hA : Blk wy g 45 cy) (hk : Kp (fun b => b = g) wx wy) : RootF w g cs cy wy :=
  ⟨h.1.keep hk (fun e => by have := h.2.2.2.2; omega), h.2.1.keep hk (fun e => by have := h.2.2.2.2; omega), hA, h.2.2.2.1.trans hk (fun _ _ h => h) (fun i hi e => by have := h.2.2.2.2; omega), h.2.2.2.2⟩
theorem RootF.first {w wx wy : World} {g g0 : Nat} {cs bs cx : List Value} (h : InvS w cs bs g0 wx) (hg : g0 < g) (hA : Blk wy g 45 cx) (hk : Kp (fun b => b = g) wx wy) : RootF w g cs cx wy ∧ InvS w cs bs g0 wy := by
  have h5 := h.2.2.2.2
  have q1 : Blk wy w.heap.size 45 cs := h.1.keep hk (fun e => by omega)
  have q2 : Blk wy (w.heap.size + 1) 45 (kis .u64 z5) := h.2.1.keep hk (fun e => by omega)
  have q3 : Kp0 w wy := h.2.2.2.1.trans hk (fun _ _ h => h) (fun i hi e => by omega)
  exact ⟨⟨q1, q2, hA, q3, by omega⟩, q1, q2, h.2.2.1.keep hk (fun e => by omega), q3, h5⟩
theorem root_fin {m X Y : Nat} (hm : m < 57896044618658097711785492504343953926634992332820282019728792003956564819949) (hX : X = powN (leN (allB 252 2)) m) (hY : Y = X * eyeN % 57896044618658097711785492504343953926634992332820282019728792003956564819949) (h1 : ¬ X * X % 57896044618658097711785492504343953926634992332820282019728792003956564819949 = m) (h2 : ¬ Y * Y % 57896044618658097711785492504343953926634992332820282019728792003956564819949 = m) : ¬ ∃ y, y * y % 57896044618658097711785492504343953926634992332820282019728792003956564819949 = m := by
  intro hy
  have := (Nt.rootOf_iff (i := eyeN) Nt.pr25519 (by decide) (by unfold eyeN; decide +kernel) hm).2 hy
  rw [Nt.rootOf] at this
  rw [leN_252, powN_def] at hX
  rw [← hX, if_neg h1, ← hY] at this
  exact h2 this
set_option maxRecDepth 20000 in
set_option maxHeartbeats 4000000 in
theorem root_fe (cs : List Value) (m : Nat) (w : World) (h1 : Fe El cs m) : Calls Try.prog 44 #[.agg cs.toArray] w fun e w' => ∃ es x b, e = .returned (.tuple #[.agg es.toArray, .bool b]) ∧ Fe El es x ∧ (b = true → x * x % 57896044618658097711785492504343953926634992332820282019728792003956564819949 = m) ∧ (b = false → ¬ ∃ y, y * y % 57896044618658097711785492504343953926634992332820282019728792003956564819949 = m) ∧ Kp0 w w' := by
  obtain ⟨X, hX⟩ : ∃ X, X = powN (leN (allB 252 2)) m := ⟨_, rfl⟩
  have HX := Lib.hid hX
  have HC := Lib.hid h1
  clear h1 hX
  go_enter Try.func44, Try.ntmps44
  go_upto_region 1 with (fail)
  have HB0 : Hid (Blk ((w.alloc (.cells cs.toArray 45)).alloc (.cells (kis .u64 z5).toArray 45)) w.heap.size 45 cs) := Lib.hid ((blk0 w 45 cs).kp0 ((Kp.refl _ _).alloc _))
  have HB1 : Hid (Blk ((w.alloc (.cells cs.toArray 45)).alloc (.cells (kis .u64 z5).toArray 45)) (w.heap.size + 1) 45 (kis .u64 z5)) := Lib.hid (ark1 w _ _ z5)
  have HK0 := Lib.hid (((Kp.refl (fun _ => False) w).alloc (.cells cs.toArray 45)).alloc (.cells (kis .u64 z5).toArray 45))
  change Code.wp _ _ _ _ ((w.alloc (.cells cs.toArray 45)).alloc (.cells (kis .u64 z5).toArray 45))
  generalize ((w.alloc (.cells cs.toArray 45)).alloc (.cells (kis .u64 z5).toArray 45)) = w0 at HB0 HB1 HK0
  go_upto_region 2 with (first
    | (go_at_call 62; refine (below252 _).mono ?_; rintro e w1 ⟨rfl, hk1⟩; have HK1 := Lib.hid hk1; clear hk1)
    | (refine wl_store_blk rfl 70 (.tmp 4) (.tmp 6) rfl w1.heap.size _ (kis .u8 zs32) (bys (allB 252 2)) rfl rfl (ark0 w1 _ zs32) (infoB32 _ _) (by rw [kis_len, bys_len, allB_len]; rfl) (bys_one _) ?_; intro w2 hA2 hK2; have HA2 := Lib.hid hA2; have HK2 := Lib.hid hK2; clear hA2 hK2))
  obtain ⟨g0, hg⟩ : ∃ g, g = w1.heap.size := ⟨_, rfl⟩
  have HS : Hid (InvS w cs (bys (allB 252 2)) g0 w2) := Lib.hid (InvS.put (HB0.out.kp0 HK1.out) (HB1.out.kp0 HK1.out) (HK0.out.tr HK1.out) hg (by rw [hg]; exact HA2.out) (((Kp.refl (fun b => b = g0) w1).alloc _).tr (by rw [hg]; exact HK2.out)))
  rw [← hg]
  clear HB0 HB1 HK0 HK1 HA2 HK2 hg
  go_simp
  go_cut [5] (fun p wx => ∃ g es, p = .pointer (some ⟨g, 0, none⟩) ∧ Fe El es X ∧ RootF w g cs es wx)
  case first =>
    refine wp_region_tree (fun w' : World => InvS w cs (bys (allB 252 2)) g0 w') (.quiet 0 (.quiet 1 (.two 2 (.eff 3 (.eff 4 .done)) 3 (.eff 2 (.eff 4 .done))))) (by kernel_rfl) (by kernel_rfl) (by kernel_rfl) (by kernel_rfl) (fun _ d _ _ _ h => by cases d <;> exact h) HS.out.drew ?_
    refine pt_quiet (v := .agg cs.toArray) rfl (by rfl) (fun wq hwq => run_load_blk 45 (.tmp 1) rfl w.heap.size _ _ rfl hwq.1 _ Try.underlying45 rfl HC.out.2.2.1) rfl ?_
    repeat (first | (refine pt_quiet (v := ?_) rfl (by rfl) (fun wq hwq => ?_) rfl ?_; rotate_left 1; (focus (go_simp; try (with_reducible rfl); done))))
    refine ⟨pt_one rfl (by rfl) (fun K hK => ?_), pt_one rfl (by rfl) (fun K hK => ?_)⟩
    · go_simp
      refine (pow_fe cs m _ (allB 252 2) _ HC.out (rd_arr HS.out.drew.2.2.1 (allB_len _ _)) (fun g' hg' => ?_)).mono ?_
      · have := HS.out.drew.2.2.1.lt
        simp [Value.ownBlock] at hg'
        omega
      rw [← HX.out]
      rintro e wp ⟨es, rfl, hfe, hkp⟩
      simp only []
      have HE := Lib.hid hfe
      have HS2 := Lib.hid (HS.out.drew.kp0 hkp)
      clear hkp hfe
      refine hK (fun w' : World => InvS w cs (bys (allB 252 2)) g0 w') _ _ (fun x h => h) HS2.out ?_
      clear hK K
      refine pt_eff rfl (by rfl) (fun K hK => ?_)
      go_simp
      refine hK (fun w' : World => InvS w cs (bys (allB 252 2)) g0 w') _ _ (fun x h => h) (HS2.out.kp0 ((Kp.refl _ wp).alloc _)) ?_
      clear hK K
      refine pt_eff rfl (by rfl) (fun K hK => ?_)
      refine wp_store_blk 45 (.tmp 5) (.tmp 9) rfl wp.heap.size _ (kis .u64 z5) es rfl rfl (ark0 wp _ z5) HE.out.2.2.1 (len_of fe_z5.2.2.1 HE.out.2.2.1) HE.out.2.2.2 ?_
      intro w7 hA7 hK7
      have HR7 := Lib.hid (RootF.first HS2.out HS2.out.2.2.1.lt hA7 (((Kp.refl (fun b => b = wp.heap.size) wp).alloc _).tr hK7))
      clear hA7 hK7
      refine hK (fun w' : World => InvS w cs (bys (allB 252 2)) g0 w') _ _ (fun x h => h) HR7.out.2 ?_
      clear hK K
      refine pt_done ?_
      go_wp2
      go_meet
      exact ⟨_, es, rfl, HE.out, HR7.out.1⟩
    · go_simp
      have HS1 := Lib.hid (HS.out.drew.kp0 ((Kp.refl _ w2.drew).alloc (.cells (kis .u64 z5).toArray 45)))
      refine hK (fun w' : World => InvS w cs (bys (allB 252 2)) g0 w') _ _ (fun x h => h) HS1.out ?_
      clear hK K
      refine pt_eff rfl (by rfl) (fun K hK => ?_)
      go_simp
      refine (pow_fe cs m _ (allB 252 2) _ HC.out (rd_arr HS1.out.2.2.1 (allB_len _ _)) (fun g' hg' => ?_)).mono ?_
      · have := HS.out.drew.2.2.1.lt
        have hds : w2.drew.heap.size = w2.heap.size := rfl
        simp [Value.ownBlock] at hg'
        simp
        omega
      rw [← HX.out]
      rintro e wp ⟨es, rfl, hfe, hkp⟩
      simp only []
      have HE := Lib.hid hfe
      have HS2 := Lib.hid (HS1.out.kp0 hkp)
      have HZ := Lib.hid ((ark0 (k := .u64) w2.drew 45 z5).kp0 hkp)
      have hlt := HS.out.drew.2.2.1.lt
      clear hkp hfe
      refine hK (fun w' : World => InvS w cs (bys (allB 252 2)) g0 w') _ _ (fun x h => h) HS2.out ?_
      clear hK K
      refine pt_eff rfl (by rfl) (fun K hK => ?_)
      refine wp_store_blk 45 (.tmp 5) (.tmp 9) rfl w2.drew.heap.size _ (kis .u64 z5) es rfl rfl HZ.out HE.out.2.2.1 (len_of fe_z5.2.2.1 HE.out.2.2.1) HE.out.2.2.2 ?_
      intro w7 hA7 hK7
      have HR7 := Lib.hid (RootF.first HS2.out hlt hA7 hK7)
      clear hA7 hK7
      refine hK (fun w' : World => InvS w cs (bys (allB 252 2)) g0 w') _ _ (fun x h => h) HR7.out.2 ?_
      clear hK K
      refine pt_done ?_
      go_wp2
      go_meet
      exact ⟨_, es, rfl, HE.out, HR7.out.1⟩
  case rest =>
    obtain ⟨g, ex, rfl, hex, hr⟩ := hcut
    have HR := Lib.hid hr
    have HEX := Lib.hid hex
    clear hr hex HS
    go_upto_region 3 with (fail)
    refine wp_region_wall [] (fun w' : World => RootF w g cs ex w') (.quiet 0 (.quiet 1 (.quiet 3 (.eff 2 (.eff 4 .done))))) (by kernel_rfl) (by kernel_rfl) (by kernel_rfl) (by kernel_rfl) (fun _ d _ _ _ h => by cases d <;> exact h) HR.out.drew ?_
    refine pw_quiet (v := .agg ex.toArray) rfl (by rfl) (fun wq hwq => run_load_blk 45 (.tmp 5) rfl g _ _ rfl hwq.2.2.1 _ Try.underlying45 rfl HEX.out.2.2.1) rfl ?_
    refine pw_quiet (v := .agg ex.toArray) rfl (by rfl) (fun wq hwq => run_load_blk 45 (.tmp 5) rfl g _ _ rfl hwq.2.2.1 _ Try.underlying45 rfl HEX.out.2.2.1) rfl ?_
    refine pw_quiet (v := .agg cs.toArray) rfl (by rfl) (fun wq hwq => run_load_blk 45 (.tmp 1) rfl w.heap.size _ _ rfl hwq.1 _ Try.underlying45 rfl HC.out.2.2.1) rfl ?_
    refine pw_eff rfl (by rfl) (fun K hK => ?_)
    go_simp
    refine (mul_fe ex ex X X _ HEX.out HEX.out).mono ?_
    rintro e x3 ⟨es3, rfl, hfe, hk3⟩
    simp only []
    have HX3 := Lib.hid (HR.out.drew.kp0 hk3)
    clear hk3
    refine hK (fun w' : World => RootF w g cs ex w') _ _ (fun x h => h) HX3.out ?_
    clear hK K
    have HE3 := Lib.hid hfe
    clear hfe
    refine pw_eff rfl (by rfl) (fun K hK => ?_)
    go_simp
    refine (same5_any es3 cs (X * X % 57896044618658097711785492504343953926634992332820282019728792003956564819949) m _ HE3.out HC.out).mono ?_
    rintro e x3s ⟨rfl, hk3s⟩
    simp only []
    have HX3s := Lib.hid (HX3.out.kp0 hk3s)
    clear hk3s
    refine hK (fun w' : World => RootF w g cs ex w') _ _ (fun x h => h) HX3s.out ?_
    clear hK K
    refine pw_done ?_
    obtain ⟨b1, hb1⟩ : ∃ b : Bool, b = decide (X * X % 57896044618658097711785492504343953926634992332820282019728792003956564819949 = m) := ⟨_, rfl⟩
    rw [← hb1]
    have HB1 := Lib.hid hb1
    clear hb1
    cases b1
    case true =>
      have HT : Hid (X * X % 57896044618658097711785492504343953926634992332820282019728792003956564819949 = m) := Lib.hid (of_decide_eq_true HB1.out.symm)
      go_wp2_with (first
        | (refine wl_load_blk rfl 45 (.tmp 5) rfl g _ ex rfl HX3s.out.2.2.1 _ Try.underlying45 rfl HEX.out.2.2.1 ?_)
        | (refine wl_store_blk rfl 45 (.tmp 2) (.tmp 15) rfl (w.heap.size + 1) _ (kis .u64 z5) ex rfl rfl HX3s.out.2.1 HEX.out.2.2.1 (len_of fe_z5.2.2.1 HEX.out.2.2.1) HEX.out.2.2.2 ?_; intro w6 hA6 hK6; have HA6 := Lib.hid hA6; have HK6 := Lib.hid hK6; clear hA6 hK6))
      refine ret_blk2 2 3 45 45 (w.heap.size + 1) ex _ rfl rfl HA6.out Try.underlying45 rfl HEX.out.2.2.1 rfl _ rfl ?_
      exact ⟨ex, X, true, rfl, HEX.out, fun _ => HT.out, (by intro h; cases h), HX3s.out.2.2.2.1.trans HK6.out (fun _ _ h => h) (fun i hi e => by omega)⟩
    case false =>
      have HT : Hid (¬ X * X % 57896044618658097711785492504343953926634992332820282019728792003956564819949 = m) := Lib.hid (of_decide_eq_false HB1.out.symm)
      go_upto_region 5 with (fail)
      refine wp_region_wall [3] (fun w' : World => RootF w g cs ex w') (.quiet 0 (.eff 1 (.eff 2 (.wall 3 .done)))) (by kernel_rfl) (by kernel_rfl) (by kernel_rfl) (by kernel_rfl) (fun _ d _ _ _ h => by cases d <;> exact h) HX3s.out.drew ?_
      refine pw_quiet (v := .agg ex.toArray) rfl (by rfl) (fun wq hwq => run_load_blk 45 (.tmp 5) rfl g _ _ rfl hwq.2.2.1 _ Try.underlying45 rfl HEX.out.2.2.1) rfl ?_
      refine pw_eff rfl (by rfl) (fun K hK => ?_)
      go_simp
      refine (eye_fe _).mono ?_
      rintro e x4 ⟨ei, rfl, hfi, hk4⟩
      simp only []
      have HX4 := Lib.hid (HX3s.out.drew.kp0 hk4)
      clear hk4
      refine hK (fun w' : World => RootF w g cs ex w') _ _ (fun x h => h) HX4.out ?_
      clear hK K
      have HI := Lib.hid hfi
      clear hfi
      refine pw_eff rfl (by rfl) (fun K hK => ?_)
      go_simp
      refine (mul_fe ex ei X eyeN _ HEX.out HI.out).mono ?_
      rintro e x5 ⟨ey, rfl, hfy, hk5⟩
      simp only []
      have HX5 := Lib.hid (HX4.out.kp0 hk5)
      clear hk5
      refine hK (fun w' : World => RootF w g cs ex w') _ _ (fun x h => h) HX5.out ?_
      clear hK K
      have HY := Lib.hid hfy
      clear hfy
      refine pw_wall rfl (by rfl) (fun K hK => ?_)
      refine wp_store_blk 45 (.tmp 5) (.tmp 18) rfl g _ ex ey rfl rfl HX5.out.2.2.1 HY.out.2.2.1 (len_of HEX.out.2.2.1 HY.out.2.2.1) HY.out.2.2.2 ?_
      intro w7 hA7 hK7
      have HR7 := Lib.hid (HX5.out.put hA7 hK7)
      clear hA7 hK7
      refine hK _ _ ?_
      clear hK K
      refine pw_done ?_
      obtain ⟨Y, hY⟩ : ∃ Y, Y = X * eyeN % 57896044618658097711785492504343953926634992332820282019728792003956564819949 := ⟨_, rfl⟩
      rw [← hY] at HY
      have HYY := Lib.hid hY
      clear hY
      go_upto_region 6 with (fail)
      refine wp_region_wall [] (fun w' : World => RootF w g cs ey w') (.quiet 0 (.quiet 1 (.quiet 3 (.eff 2 (.eff 4 .done))))) (by kernel_rfl) (by kernel_rfl) (by kernel_rfl) (by kernel_rfl) (fun _ d _ _ _ h => by cases d <;> exact h) HR7.out.drew ?_
      refine pw_quiet (v := .agg ey.toArray) rfl (by rfl) (fun wq hwq => run_load_blk 45 (.tmp 5) rfl g _ _ rfl hwq.2.2.1 _ Try.underlying45 rfl HY.out.2.2.1) rfl ?_
      refine pw_quiet (v := .agg ey.toArray) rfl (by rfl) (fun wq hwq => run_load_blk 45 (.tmp 5) rfl g _ _ rfl hwq.2.2.1 _ Try.underlying45 rfl HY.out.2.2.1) rfl ?_
      refine pw_quiet (v := .agg cs.toArray) rfl (by rfl) (fun wq hwq => run_load_blk 45 (.tmp 1) rfl w.heap.size _ _ rfl hwq.1 _ Try.underlying45 rfl HC.out.2.2.1) rfl ?_
      refine pw_eff rfl (by rfl) (fun K hK => ?_)
      go_simp
      refine (mul_fe ey ey Y Y _ HY.out HY.out).mono ?_
      rintro e x8 ⟨es8, rfl, hfe, hk8⟩
      simp only []
      have HX8 := Lib.hid (HR7.out.drew.kp0 hk8)
      clear hk8
      refine hK (fun w' : World => RootF w g cs ey w') _ _ (fun x h => h) HX8.out ?_
      clear hK K
      have HE8 := Lib.hid hfe
      clear hfe
      refine pw_eff rfl (by rfl) (fun K hK => ?_)
      go_simp
      refine (same5_any es8 cs (Y * Y % 57896044618658097711785492504343953926634992332820282019728792003956564819949) m _ HE8.out HC.out).mono ?_
      rintro e x8s ⟨rfl, hk8s⟩
      simp only []
      have HX8s := Lib.hid (HX8.out.kp0 hk8s)
      clear hk8s
      refine hK (fun w' : World => RootF w g cs ey w') _ _ (fun x h => h) HX8s.out ?_
      clear hK K
      refine pw_done ?_
      obtain ⟨b2, hb2⟩ : ∃ b : Bool, b = decide (Y * Y % 57896044618658097711785492504343953926634992332820282019728792003956564819949 = m) := ⟨_, rfl⟩
      rw [← hb2]
      have HB2 := Lib.hid hb2
      clear hb2
      cases b2
      case true =>
        have HT2 : Hid (Y * Y % 57896044618658097711785492504343953926634992332820282019728792003956564819949 = m) := Lib.hid (of_decide_eq_true HB2.out.symm)
        go_wp2_with (first
          | (refine wl_load_blk rfl 45 (.tmp 5) rfl g _ ey rfl HX8s.out.2.2.1 _ Try.underlying45 rfl HY.out.2.2.1 ?_)
          | (refine wl_store_blk rfl 45 (.tmp 2) (.tmp 24) rfl (w.heap.size + 1) _ (kis .u64 z5) ey rfl rfl HX8s.out.2.1 HY.out.2.2.1 (len_of fe_z5.2.2.1 HY.out.2.2.1) HY.out.2.2.2 ?_; intro w6 hA6 hK6; have HA6 := Lib.hid hA6; have HK6 := Lib.hid hK6; clear hA6 hK6))
        refine ret_blk2 2 3 45 45 (w.heap.size + 1) ey _ rfl rfl HA6.out Try.underlying45 rfl HY.out.2.2.1 rfl _ rfl ?_
        exact ⟨ey, Y, true, rfl, HY.out, fun _ => HT2.out, (by intro h; cases h), HX8s.out.2.2.2.1.trans HK6.out (fun _ _ h => h) (fun i hi e => by omega)⟩
      case false =>
        have HT2 : Hid (¬ Y * Y % 57896044618658097711785492504343953926634992332820282019728792003956564819949 = m) := Lib.hid (of_decide_eq_false HB2.out.symm)
        go_wp2_with (
          (refine wl_store_blk rfl 45 (.tmp 2) (.tmp 25) rfl (w.heap.size + 1) _ (kis .u64 z5) (kis .u64 z5) rfl rfl HX8s.out.2.1 fe_z5.2.2.1 rfl fe_z5.2.2.2 ?_; intro w6 hA6 hK6; have HA6 := Lib.hid hA6; have HK6 := Lib.hid hK6; clear hA6 hK6))
        refine ret_blk2 2 3 45 45 (w.heap.size + 1) (kis .u64 z5) _ rfl rfl HA6.out Try.underlying45 rfl fe_z5.2.2.1 rfl _ rfl ?_
        exact ⟨kis .u64 z5, 0, false, rfl, fe_z5, (by intro h; cases h), fun _ => root_fin HC.out.2.1 HX.out HYY.out HT.out HT2.out, HX8s.out.2.2.2.1.trans HK6.out (fun _ _ h => h) (fun i hi e => by omega)⟩
end Go.Proofs.Ytjfphmmhikamaaa
