/- Package field: inverses, a root of -1. -/
import Derived.Test.YtjfphmmhikamaaaBelow5
namespace Go.Proofs.Ytjfphmmhikamaaa
open Go Go.RowKit
theorem rd_arr {w : World} {g : Nat} {T : TypeId} {l : List UInt8} (h : Blk w g T (bys l)) (hl : l.length = 32) : Rd w (.slice (some ⟨g, 0, none⟩) 32 32) (bys l) := by
  refine ⟨some ⟨g, 0, none⟩, 32, by rw [bys_len, hl], by rw [bys_len, hl]; omega, by unfold maxLen; omega, by simp, ?_⟩
  intro ad e i u hu
  cases e
  rw [show ((⟨g, 0, none⟩ : Addr).add i) = ⟨g, i, none⟩ by unfold Addr.add; split <;> simp_all, blk_cell h i]
  simpa using hu
theorem infoB32 (n less : Nat) : (Try.prog.info? 70).map (·.size) = some (bys (allB n less)).length := by rw [bys_len, allB_len]; kernel_rfl
theorem p255 (n : Nat) (h : n = 255) : 2 ^ n = 57896044618658097711785492504343953926634992332820282019728792003956564819968 := by subst h; decide +kernel
theorem leN_255 : leN (allB 255 21) = eInv := by
  have := allB_val 255 21 (by omega) (by omega) (by omega) (by omega)
  rw [p255 255 rfl] at this
  unfold eInv
  omega
theorem pow_fe (cs : List Value) (m : Nat) (v : Value) (l : List UInt8) (w : World) (h1 : Fe El cs m) (hv : Rd w v (bys l)) (hvo : ∀ g, v.ownBlock = some g → g < w.heap.size) : Calls Try.prog 40 #[.agg cs.toArray, v] w fun e w' => ∃ es, e = .returned (.agg es.toArray) ∧ Fe El es (powN (leN l) m) ∧ Kp0 w w' := by
  unfold powN
  exact pow5_any cs m v l w h1 hv hvo
/-- What stands behind the bytes of the exponent. -/
def InvS (w : World) (cs bs : List Value) (g : Nat) (wr : World) : Prop := Blk wr w.heap.size 45 cs ∧ Blk wr (w.heap.size + 1) 45 (kis .u64 z5) ∧ Blk wr g 70 bs ∧ Kp0 w wr ∧ w.heap.size + 1 < g
theorem InvS.kp0 {w wr wx : World} {cs bs : List Value} {g : Nat} (h : InvS w cs bs g wr) (hk : Kp0 wr wx) : InvS w cs bs g wx := ⟨h.1.kp0 hk, h.2.1.kp0 hk, h.2.2.1.kp0 hk, h.2.2.2.1.tr hk, h.2.2.2.2⟩
theorem InvS.drew {w wr : World} {cs bs : List Value} {g : Nat} (h : InvS w cs bs g wr) : InvS w cs bs g wr.drew := h.kp0 ((Kp.refl _ wr).drew)
theorem InvS.put {w w1 wr : World} {cs bs : List Value} {g : Nat} (h1 : Blk w1 w.heap.size 45 cs) (h2 : Blk w1 (w.heap.size + 1) 45 (kis .u64 z5)) (h3 : Kp0 w w1) (hg : g = w1.heap.size) (hb : Blk wr g 70 bs) (hk : Kp (fun b => b = g) w1 wr) : InvS w cs bs g wr := by
  have hlt := h2.lt
  exact ⟨h1.keep hk (fun e => by omega), h2.keep hk (fun e => by omega), hb, h3.trans hk (fun _ _ h => h) (fun i hi e => by have := h3.size; omega), by omega⟩
set_option maxRecDepth 20000 in
set_option maxHeartbeats 4000000 in
theorem inv_fe (cs : List Value) (m : Nat) (w : World) (h1 : Fe El cs m) : Calls Try.prog 39 #[.agg cs.toArray] w fun e w' => ∃ es, e = .returned (.agg es.toArray) ∧ Fe El es (invN m) ∧ Kp0 w w' := by
  unfold invN
  rw [← leN_255]
  have HC := Lib.hid h1
  clear h1
  go_enter Try.func39, Try.ntmps39
  go_upto_region 1 with (fail)
  have HB0 : Hid (Blk ((w.alloc (.cells cs.toArray 45)).alloc (.cells (kis .u64 z5).toArray 45)) w.heap.size 45 cs) := Lib.hid ((blk0 w 45 cs).kp0 ((Kp.refl _ _).alloc _))
  have HB1 : Hid (Blk ((w.alloc (.cells cs.toArray 45)).alloc (.cells (kis .u64 z5).toArray 45)) (w.heap.size + 1) 45 (kis .u64 z5)) := Lib.hid (ark1 w _ _ z5)
  have HK0 := Lib.hid (((Kp.refl (fun _ => False) w).alloc (.cells cs.toArray 45)).alloc (.cells (kis .u64 z5).toArray 45))
  change Code.wp _ _ _ _ ((w.alloc (.cells cs.toArray 45)).alloc (.cells (kis .u64 z5).toArray 45))
  generalize ((w.alloc (.cells cs.toArray 45)).alloc (.cells (kis .u64 z5).toArray 45)) = w0 at HB0 HB1 HK0
  go_upto_region 2 with (first
    | (go_at_call 62; refine (below255 _).mono ?_; rintro e w1 ⟨rfl, hk1⟩; have HK1 := Lib.hid hk1; clear hk1)
    | (refine wl_store_blk rfl 70 (.tmp 3) (.tmp 4) rfl w1.heap.size _ (kis .u8 zs32) (bys (allB 255 21)) rfl rfl (ark0 w1 _ zs32) (infoB32 _ _) (by rw [kis_len, bys_len, allB_len]; rfl) (bys_one _) ?_; intro w2 hA2 hK2; have HA2 := Lib.hid hA2; have HK2 := Lib.hid hK2; clear hA2 hK2))
  obtain ⟨g, hg⟩ : ∃ g, g = w1.heap.size := ⟨_, rfl⟩
  have HS : Hid (InvS w cs (bys (allB 255 21)) g w2) := Lib.hid (InvS.put (HB0.out.kp0 HK1.out) (HB1.out.kp0 HK1.out) (HK0.out.tr HK1.out) hg (by rw [hg]; exact HA2.out) (((Kp.refl (fun b => b = g) w1).alloc _).tr (by rw [hg]; exact HK2.out)))
  rw [← hg]
  clear HB0 HB1 HK0 HK1 HA2 HK2 hg
  refine wp_region_wall [3] (fun w' : World => InvS w cs (bys (allB 255 21)) g w') (.quiet 0 (.quiet 1 (.eff 2 (.wall 3 .done)))) (by kernel_rfl) (by kernel_rfl) (by kernel_rfl) (by kernel_rfl) (fun _ d _ _ _ h => by cases d <;> exact h) HS.out.drew ?_
  refine pw_quiet (v := .agg cs.toArray) rfl (by rfl) (fun wq hwq => run_load_blk 45 (.tmp 1) rfl w.heap.size _ _ rfl hwq.1 _ Try.underlying45 rfl HC.out.2.2.1) rfl ?_

  repeat (first | (refine pw_quiet (v := ?_) rfl (by rfl) (fun wq hwq => ?_) rfl ?_; rotate_left 1; (focus (go_simp; try (with_reducible rfl); done))))
  refine pw_eff rfl (by rfl) (fun K hK => ?_)
  go_simp
  refine (pow_fe cs m _ (allB 255 21) _ HC.out (rd_arr HS.out.drew.2.2.1 (allB_len _ _)) (fun g' hg' => ?_)).mono ?_
  · have := HS.out.drew.2.2.1.lt
    simp [Value.ownBlock] at hg'
    omega
  rintro e x1 ⟨es, rfl, hfe, hk1⟩
  simp only []
  have HE := Lib.hid hfe
  have HX := Lib.hid (HS.out.drew.kp0 hk1)
  clear hk1 hfe
  refine hK (fun w' : World => InvS w cs (bys (allB 255 21)) g w') _ _ (fun x h => h) HX.out ?_
  clear hK K
  refine pw_wall rfl (by rfl) (fun K hK => ?_)
  refine wp_store_blk 45 (.tmp 2) (.tmp 7) rfl (w.heap.size + 1) _ (kis .u64 z5) es rfl rfl HX.out.2.1 HE.out.2.2.1 (len_of fe_z5.2.2.1 HE.out.2.2.1) HE.out.2.2.2 ?_
  intro w7 hA7 hK7
  have HA7 := Lib.hid hA7
  have HK7 := Lib.hid hK7
  clear hA7 hK7
  refine hK _ _ ?_
  clear hK K
  refine pw_done ?_
  go_wp2
  refine ret_blk 2 45 45 (w.heap.size + 1) es _ rfl rfl HA7.out Try.underlying45 rfl HE.out.2.2.1 rfl ?_
  exact ⟨es, rfl, HE.out, HX.out.2.2.2.1.trans HK7.out (fun _ _ h => h) (fun i hi e => by omega)⟩
end Go.Proofs.Ytjfphmmhikamaaa
