/- Package digest: the small hash, the state behind a block. Package digest: the small hash, what is done with a block. -/
import Derived.Test.YtikjcmhocihmcaaDoorK3
import Derived.Test.YtikjcmhocihmcaaDoorK2
import Derived.Test.YtikjcmhocihmcaaDoorK1
namespace Go.Proofs.YtikjcmhocihmcaaDoor
open Go Go.RowKit
def z8s : List (BitVec 32) := List.replicate 8 0#32
theorem info8s {l : List (BitVec 32)} (h : l.length = 8) : (Tryd.prog.info? 116).map (·.size) = some (w32 l).length := by
  rw [w32_len, h]
  kernel_rfl
theorem as8s : AllocAs 116 (w32 z8s) := by
  intro w ev op ho
  unfold execOp
  simp only [ho]
  kernel_rfl
/-- One operation of a round. -/
theorem rnd_eqs (a b c d e f g h k x : BitVec 32) : rnd K32 ⟨a, b, c, d, e, f, g, h⟩ k x =
    ⟨(h + (rr e 6 ^^^ rr e 11 ^^^ rr e 25) + ((e &&& f) ^^^ (~~~e &&& g)) + k + x) + ((rr a 2 ^^^ rr a 13 ^^^ rr a 22) + ((a &&& b) ||| (a &&& c) ||| (b &&& c))), a, b, c, d + (h + (rr e 6 ^^^ rr e 11 ^^^ rr e 25) + ((e &&& f) ^^^ (~~~e &&& g)) + k + x), e, f, g⟩ := by
  rw [ch_xor, mj_perm]
  rfl
theorem l8_somes {l : List (BitVec 32)} (h : l.length = 8) : ∀ j, j < 8 → l[j]? = some (l.getD j 0) := fun j hj => getD_some (by rw [h]; exact hj) 0
theorem behind_eqs (st : List (BitVec 32)) (b : List UInt8) : behind K32 st b = List.zipWith (· + ·) st (v8L (rdN K32 (wdss b) (l8V st) 64)) := rfl
attribute [local irreducible] wdss rr K32 rnd rdN
set_option maxRecDepth 20000 in
set_option maxHeartbeats 4000000 in
theorem gb_anys (st : List (BitVec 32)) (v : Value) (b : List UInt8) (w : World) (hs : st.length = 8) (hv : Rd w v (bys b)) (hb : b.length = 64) (hc : Cub w) :
    Calls Tryd.prog 91 #[.agg (w32 st).toArray, v] w fun e w' => e = .returned (.agg (w32 (behind K32 st b)).toArray) ∧ Kp0 w w' := by
  have HV := Lib.hid hv
  have HC := Lib.hid hc
  have HSL := Lib.hid hs
  have HBL := Lib.hid hb
  have HWL : Hid ((wdss b).length = 64) := Lib.hid (wds_lens b)
  clear hv hc
  obtain ⟨W, hW⟩ : ∃ W, W = wdss b := ⟨_, rfl⟩
  have HW := Lib.hid hW
  rw [← hW] at HWL
  clear hW
  go_enter Tryd.func91, Tryd.ntmps91
  go_upto_region 1 with (refine wl_alloc_as as8s rfl rfl ?_
                         intro w1 g4 hw hg
                         have HB1 : Hid (Bks w w1 [(w.heap.size, 116, w32 st), (g4, 116, w32 z8s)]) := Lib.hid (by rw [hw]; exact ((Bks.nil w).push 116 (w32 st) rfl).push 116 (w32 z8s) hg)
                         clear hw hg)
  simp only [Act.put]
  go_upto_region 2 with (first
    | (go_at_call 100
       refine (gw_anys v b _ (HV.out.keep0 HB1.out.kp) HBL.out).mono ?_
       rintro e w2 ⟨rfl, hk⟩
       rw [← HW.out]
       have HB2 := Lib.hid (HB1.out.kp0 hk)
       clear hk)
    | (refine wl_alloc_as as64s rfl rfl ?_
       intro w3 g5 hw hg
       have HB3 : Hid (Bks w w3 [(w.heap.size, 116, w32 st), (g4, 116, w32 z8s), (g5, 132, w32 z64s)]) := Lib.hid (by rw [hw]; exact HB2.out.push 132 (w32 z64s) hg)
       clear hw hg)
    | (refine wl_store_blk rfl 132 (.tmp 5) (.tmp 20) rfl g5 _ (w32 z64s) (w32 W) rfl rfl (HB3.out.at 2 rfl) (info64s HWL.out) (len_of (T := 132) (info64s (l := z64s) rfl) (info64s HWL.out)) (w32_ones _) ?_
       intro w4 hA hK
       have HB4 : Hid (Bks w w4 [(w.heap.size, 116, w32 st), (g4, 116, w32 z8s), (g5, 132, w32 W)]) := Lib.hid (HB3.out.store 2 rfl hA hK)
       clear hA hK))
  clear HB1 HB2 HB3
  simp only [Act.put]
  obtain ⟨V0, hV0⟩ : ∃ V, V = l8V st := ⟨_, rfl⟩
  have HV0 := Lib.hid hV0
  have hg : ∀ j, j < 8 → st[j]? = some (st.getD j 0) := l8_somes HSL.out
  have s0 : st[0]? = some V0.a := by rw [hV0]; exact hg 0 (by omega)
  have s1 : st[1]? = some V0.b := by rw [hV0]; exact hg 1 (by omega)
  have s2 : st[2]? = some V0.c := by rw [hV0]; exact hg 2 (by omega)
  have s3 : st[3]? = some V0.d := by rw [hV0]; exact hg 3 (by omega)
  have s4 : st[4]? = some V0.e := by rw [hV0]; exact hg 4 (by omega)
  have s5 : st[5]? = some V0.f := by rw [hV0]; exact hg 5 (by omega)
  have s6 : st[6]? = some V0.g := by rw [hV0]; exact hg 6 (by omega)
  have s7 : st[7]? = some V0.h := by rw [hV0]; exact hg 7 (by omega)
  obtain ⟨a0, b0, c0, d0, e0, f0, g0, h0⟩ := V0
  simp only [] at s0 s1 s2 s3 s4 s5 s6 s7
  have kc0 := (HB4.out.at 0 rfl).cellV 0 (w32_get s0)
  have kc1 := (HB4.out.at 0 rfl).cellV 1 (w32_get s1)
  have kc2 := (HB4.out.at 0 rfl).cellV 2 (w32_get s2)
  have kc3 := (HB4.out.at 0 rfl).cellV 3 (w32_get s3)
  have kc4 := (HB4.out.at 0 rfl).cellV 4 (w32_get s4)
  have kc5 := (HB4.out.at 0 rfl).cellV 5 (w32_get s5)
  have kc6 := (HB4.out.at 0 rfl).cellV 6 (w32_get s6)
  have kc7 := (HB4.out.at 0 rfl).cellV 7 (w32_get s7)
  have HG : Hid (st[0]? = some a0 ∧ st[1]? = some b0 ∧ st[2]? = some c0 ∧ st[3]? = some d0 ∧ st[4]? = some e0 ∧ st[5]? = some f0 ∧ st[6]? = some g0 ∧ st[7]? = some h0) := Lib.hid ⟨s0, s1, s2, s3, s4, s5, s6, s7⟩
  clear hg hV0 s0 s1 s2 s3 s4 s5 s6 s7
  refine wp_region_px 12 [] (fun w' : World => w' = w4.drew) (.quiet 0 (.quiet 1 (.quiet 2 (.quiet 3 (.quiet 4 (.quiet 5 (.quiet 6 (.quiet 7 (.quiet 8 (.quiet 9 (.quiet 10 (.quiet 11 .done)))))))))))) (by kernel_rfl) (by kernel_rfl) (by kernel_rfl) (by kernel_rfl) (fun _ d _ _ _ h => by cases d <;> exact h) rfl ?_
  iterate 12 (refine px_quiet (v := ?_) rfl (by rfl) (fun wq hwq => ?_) rfl ?_; rotate_left 1; (focus (subst hwq; go_simp; try (with_reducible rfl); done)); try simp only [List.setIfInBounds_toArray, List.set_cons_zero, List.set_cons_succ])
  refine px_done ?_
  go_upto_region 3 with (fail)
  refine wp_region_px 12 [] (fun w' : World => w' = w4.drew.drew) (.quiet 0 (.quiet 1 (.quiet 2 (.quiet 3 (.quiet 4 (.quiet 5 (.quiet 6 (.quiet 7 (.quiet 8 (.quiet 9 (.quiet 10 (.quiet 11 .done)))))))))))) (by kernel_rfl) (by kernel_rfl) (by kernel_rfl) (by kernel_rfl) (fun _ d _ _ _ h => by cases d <;> exact h) rfl ?_
  iterate 12 (refine px_quiet (v := ?_) rfl (by rfl) (fun wq hwq => ?_) rfl ?_; rotate_left 1; (focus (subst hwq; go_simp; try (with_reducible rfl); done)); try simp only [List.setIfInBounds_toArray, List.set_cons_zero, List.set_cons_succ])
  refine px_done ?_
  go_upto_region 4 with (fail)
  have HB5 : Hid (Bks w w4.drew.drew [(w.heap.size, 116, w32 st), (g4, 116, w32 z8s), (g5, 132, w32 W)]) := Lib.hid HB4.out.drew.drew
  clear HB4 kc0 kc1 kc2 kc3 kc4 kc5 kc6 kc7
  generalize w4.drew.drew = w5 at HB5 ⊢
  obtain ⟨F, hF⟩ : ∃ F, F = rdN K32 W ⟨a0, b0, c0, d0, e0, f0, g0, h0⟩ := ⟨_, rfl⟩
  have HF0 : Hid (F 0 = ⟨a0, b0, c0, d0, e0, f0, g0, h0⟩) := Lib.hid (by rw [hF]; unfold rdN; rfl)
  have HFS : Hid (∀ n, F (n + 1) = rnd K32 (F n) (K32.ks.getD n 0) (W.getD n 0)) := Lib.hid (fun n => by rw [hF]; conv => lhs; unfold rdN)
  have HFE : Hid (F 64 = rdN K32 (wdss b) (l8V st) 64) := Lib.hid (by rw [hF, HW.out, HV0.out])
  clear hF
  go_wp2
  go_loopg [6, 7, 8, 9, 10, 11, 12, 13, 37] 64 (fun gg va vb vc vd ve vf vg vh i wr => ∃ (n : Nat), i = .int .i64 n ∧ n ≤ 64 ∧ gg = 64 - n ∧ (va = .int .u32 ((F n).a.toNat : Int) ∧ vb = .int .u32 ((F n).b.toNat : Int) ∧ vc = .int .u32 ((F n).c.toNat : Int) ∧ vd = .int .u32 ((F n).d.toNat : Int) ∧ ve = .int .u32 ((F n).e.toNat : Int) ∧ vf = .int .u32 ((F n).f.toNat : Int) ∧ vg = .int .u32 ((F n).g.toNat : Int) ∧ vh = .int .u32 ((F n).h.toNat : Int)) ∧ Bks w wr [(w.heap.size, 116, w32 st), (g4, 116, w32 z8s), (g5, 132, w32 W)])
  case atStart => exact ⟨0, rfl, by omega, rfl, by rw [HF0.out]; exact ⟨rfl, rfl, rfl, rfl, rfl, rfl, rfl, rfl⟩, HB5.out⟩
  case round =>
    obtain ⟨n, rfl, hn, rfl, ⟨rfl, rfl, rfl, rfl, rfl, rfl, rfl, rfl⟩, hr⟩ := hrel
    have HB6 := Lib.hid hr
    clear hr HB5 HF0
    by_cases hlt : n < 64
    · obtain ⟨k, hk⟩ : ∃ k, k = K32.ks.getD n 0 := ⟨_, rfl⟩
      obtain ⟨x, hx⟩ : ∃ x, x = W.getD n 0 := ⟨_, rfl⟩
      have hkk : K64.ks[n]? = some (K64.ks.getD n 0) := ks_get (by omega)
      have hkh : k = ((K64.ks.getD n 0) >>> 32).setWidth 32 := by rw [hk]; exact ks_half (by omega)
      obtain ⟨kk, hkd⟩ : ∃ x, x = K64.ks.getD n 0 := ⟨_, rfl⟩
      rw [← hkd] at hkk hkh
      have hxx : W[n]? = some x := by rw [hx]; exact getD_some (by rw [HWL.out]; exact hlt) 0
      have hfs := HFS.out n
      rw [← hk, ← hx] at hfs
      have HKC := Lib.hid ((HC.out.kp0 HB6.out.kp) n _ (w64_get hkk))
      have HXC := Lib.hid ((HB6.out.at 2 rfl).cellV n (w32_get hxx))
      obtain ⟨v0, hv0⟩ : ∃ v, v = F n := ⟨_, rfl⟩
      rw [← hv0] at hfs ⊢
      obtain ⟨a, b, c, d, e, f, g, h⟩ := v0
      simp only []
      rw [rnd_eqs] at hfs
      have hn80 : (n : Int) < 64 := by omega
      have HNN := Lib.hid hlt
      have ekq : (kk.toNat : Int) / 4294967296 = (k.toNat : Int) := by rw [f_shr kk 32 (by decide), hkh, BitVec.toNat_setWidth, Nat.mod_eq_of_lt]; rw [BitVec.toNat_ushiftRight, Nat.shiftRight_eq_div_pow]; have := kk.isLt; omega
      have ekr : (k.toNat : Int) % 4294967296 = (k.toNat : Int) := by have := k.isLt; omega
      clear hk hx hkk hxx hv0 hlt hkh hkd
      obtain ⟨u1, hu1⟩ : ∃ u, u = rr e 6 ^^^ rr e 11 := ⟨_, rfl⟩
      obtain ⟨m1, hm1⟩ : ∃ u, u = u1 ^^^ rr e 25 := ⟨_, rfl⟩
      obtain ⟨q1, hq1⟩ : ∃ u, u = e &&& f := ⟨_, rfl⟩
      obtain ⟨q2, hq2⟩ : ∃ u, u = ~~~e := ⟨_, rfl⟩
      obtain ⟨q3, hq3⟩ : ∃ u, u = q2 &&& g := ⟨_, rfl⟩
      obtain ⟨q4, hq4⟩ : ∃ u, u = q1 ^^^ q3 := ⟨_, rfl⟩
      obtain ⟨t1, ht1⟩ : ∃ u, u = h + m1 := ⟨_, rfl⟩
      obtain ⟨t2, ht2⟩ : ∃ u, u = t1 + q4 := ⟨_, rfl⟩
      obtain ⟨t3, ht3⟩ : ∃ u, u = t2 + k := ⟨_, rfl⟩
      obtain ⟨tt, htt⟩ : ∃ u, u = t3 + x := ⟨_, rfl⟩
      obtain ⟨u2, hu2⟩ : ∃ u, u = rr a 2 ^^^ rr a 13 := ⟨_, rfl⟩
      obtain ⟨m2, hm2⟩ : ∃ u, u = u2 ^^^ rr a 22 := ⟨_, rfl⟩
      obtain ⟨r1, hr1⟩ : ∃ u, u = a &&& b := ⟨_, rfl⟩
      obtain ⟨r2, hr2⟩ : ∃ u, u = a &&& c := ⟨_, rfl⟩
      obtain ⟨r3, hr3⟩ : ∃ u, u = r1 ||| r2 := ⟨_, rfl⟩
      obtain ⟨r4, hr4⟩ : ∃ u, u = b &&& c := ⟨_, rfl⟩
      obtain ⟨r5, hr5⟩ : ∃ u, u = r3 ||| r4 := ⟨_, rfl⟩
      obtain ⟨uu, huu⟩ : ∃ u, u = m2 + r5 := ⟨_, rfl⟩
      obtain ⟨na, hna⟩ : ∃ u, u = tt + uu := ⟨_, rfl⟩
      obtain ⟨ne, hne⟩ : ∃ u, u = d + tt := ⟨_, rfl⟩
      have HFS1 : Hid (F (n + 1) = ⟨na, a, b, c, ne, e, f, g⟩) := Lib.hid (by rw [hfs, hne, hna, huu, hr5, hr4, hr3, hr2, hr1, hm2, hu2, htt, ht3, ht2, ht1, hq4, hq3, hq2, hq1, hm1, hu1])
      have eu1 : bits .xor .u32 ((rr e 6).toNat : Int) ((rr e 11).toNat : Int) = ((u1).toNat : Int) := by rw [hu1, f32_xor]
      have em1 : bits .xor .u32 ((u1).toNat : Int) ((rr e 25).toNat : Int) = ((m1).toNat : Int) := by rw [hm1, f32_xor]
      have eq1 : bits .and .u32 ((e).toNat : Int) ((f).toNat : Int) = ((q1).toNat : Int) := by rw [hq1, f32_and]
      have eq2 : bits .xor .u32 (if IntKind.u32.signed = true then -1 else IntKind.u32.max) (e.toNat : Int) = (q2.toNat : Int) := by rw [hq2]; exact f32_com e
      have eq3 : bits .and .u32 ((q2).toNat : Int) ((g).toNat : Int) = ((q3).toNat : Int) := by rw [hq3, f32_and]
      have eq4 : bits .xor .u32 ((q1).toNat : Int) ((q3).toNat : Int) = ((q4).toNat : Int) := by rw [hq4, f32_xor]
      have et1 : (((h).toNat : Int) + ((m1).toNat : Int)) % 4294967296 = ((t1).toNat : Int) := by rw [← IntKind.wrap_u32', ht1, f32_add h m1 rfl]
      have et2 : (((t1).toNat : Int) + ((q4).toNat : Int)) % 4294967296 = ((t2).toNat : Int) := by rw [← IntKind.wrap_u32', ht2, f32_add t1 q4 rfl]
      have et3 : (((t2).toNat : Int) + ((k).toNat : Int)) % 4294967296 = ((t3).toNat : Int) := by rw [← IntKind.wrap_u32', ht3, f32_add t2 k rfl]
      have ett : (((t3).toNat : Int) + ((x).toNat : Int)) % 4294967296 = ((tt).toNat : Int) := by rw [← IntKind.wrap_u32', htt, f32_add t3 x rfl]
      have eu2 : bits .xor .u32 ((rr a 2).toNat : Int) ((rr a 13).toNat : Int) = ((u2).toNat : Int) := by rw [hu2, f32_xor]
      have em2 : bits .xor .u32 ((u2).toNat : Int) ((rr a 22).toNat : Int) = ((m2).toNat : Int) := by rw [hm2, f32_xor]
      have er1 : bits .and .u32 ((a).toNat : Int) ((b).toNat : Int) = ((r1).toNat : Int) := by rw [hr1, f32_and]
      have er2 : bits .and .u32 ((a).toNat : Int) ((c).toNat : Int) = ((r2).toNat : Int) := by rw [hr2, f32_and]
      have er3 : bits .or .u32 ((r1).toNat : Int) ((r2).toNat : Int) = ((r3).toNat : Int) := by rw [hr3, f32_or]
      have er4 : bits .and .u32 ((b).toNat : Int) ((c).toNat : Int) = ((r4).toNat : Int) := by rw [hr4, f32_and]
      have er5 : bits .or .u32 ((r3).toNat : Int) ((r4).toNat : Int) = ((r5).toNat : Int) := by rw [hr5, f32_or]
      have euu : (((m2).toNat : Int) + ((r5).toNat : Int)) % 4294967296 = ((uu).toNat : Int) := by rw [← IntKind.wrap_u32', huu, f32_add m2 r5 rfl]
      have ena : (((tt).toNat : Int) + ((uu).toNat : Int)) % 4294967296 = ((na).toNat : Int) := by rw [← IntKind.wrap_u32', hna, f32_add tt uu rfl]
      have ene : (((d).toNat : Int) + ((tt).toNat : Int)) % 4294967296 = ((ne).toNat : Int) := by rw [← IntKind.wrap_u32', hne, f32_add d tt rfl]
      clear hfs hu1 hm1 hq1 hq2 hq3 hq4 ht1 ht2 ht3 htt hu2 hm2 hr1 hr2 hr3 hr4 hr5 huu hna hne
      have HK0 : Hid (Kp0 wr wr) := Lib.hid (Kp.refl _ _)
      have hkc := HKC.out
      rw [Nat.zero_add] at hkc
      go_upto_region 9 with (go_at_call 101; refine (rs_int _ _ _ (by decide)).mono ?_; rintro e wy ⟨rfl, hk⟩; have HK0 := Lib.hid (HK0.out.tr hk); clear hk)
      have hxc := HK0.out.cell HXC.out (fun h => h)
      clear hkc ekq ekr
      go_upto_region 10 with (fail)
      clear hxc
      go_upto_region 11 with (go_at_call 101; refine (rs_int _ _ _ (by decide)).mono ?_; rintro e' wz ⟨rfl, hk⟩; have HK0 := Lib.hid (HK0.out.tr hk); clear hk)
      go_upto_region 12 with (fail)
      rw [euu]
      clear eu1 em1 eq1 eq2 eq3 eq4 et1 et2 et3 ett eu2 em2 er1 er2 er3 er4 er5 euu
      go_upto_region 13 with (fail)
      rw [ena, ene]
      clear ena ene
      go_wp2
      have hno := HNN.out
      go_roundg (64 - (n + 1))
      case measure => omega
      case rel => exact ⟨n + 1, by go_num, by omega, rfl, by rw [HFS1.out]; exact ⟨rfl, rfl, rfl, rfl, rfl, rfl, rfl, rfl⟩, HB6.out.kp0 HK0.out⟩
    · obtain rfl : n = 64 := by omega
      have HBE : Hid (behind K32 st b = List.zipWith (· + ·) st (v8L (F 64))) := Lib.hid (by rw [HFE.out]; exact behind_eqs st b)
      generalize F 64 = vf at HBE ⊢
      obtain ⟨a, b', c, d, e, f, g, h⟩ := vf
      simp only []
      have hst : st = [a0, b0, c0, d0, e0, f0, g0, h0] := by
        rw [← v8_l8 HSL.out, ← HV0.out]
        rfl
      obtain ⟨y0, hy0⟩ : ∃ y, y = a0 + a := ⟨_, rfl⟩
      obtain ⟨y1, hy1⟩ : ∃ y, y = b0 + b' := ⟨_, rfl⟩
      obtain ⟨y2, hy2⟩ : ∃ y, y = c0 + c := ⟨_, rfl⟩
      obtain ⟨y3, hy3⟩ : ∃ y, y = d0 + d := ⟨_, rfl⟩
      obtain ⟨y4, hy4⟩ : ∃ y, y = e0 + e := ⟨_, rfl⟩
      obtain ⟨y5, hy5⟩ : ∃ y, y = f0 + f := ⟨_, rfl⟩
      obtain ⟨y6, hy6⟩ : ∃ y, y = g0 + g := ⟨_, rfl⟩
      obtain ⟨y7, hy7⟩ : ∃ y, y = h0 + h := ⟨_, rfl⟩
      have HBF : Hid (behind K32 st b = [y0, y1, y2, y3, y4, y5, y6, y7]) := Lib.hid (by
        rw [HBE.out, hst, hy0, hy1, hy2, hy3, hy4, hy5, hy6, hy7]
        rfl)
      have ey0 : ((a0.toNat : Int) + (a.toNat : Int)) % 4294967296 = (y0.toNat : Int) := by rw [← IntKind.wrap_u32', hy0, f32_add a0 a rfl]
      have ey1 : ((b0.toNat : Int) + (b'.toNat : Int)) % 4294967296 = (y1.toNat : Int) := by rw [← IntKind.wrap_u32', hy1, f32_add b0 b' rfl]
      have ey2 : ((c0.toNat : Int) + (c.toNat : Int)) % 4294967296 = (y2.toNat : Int) := by rw [← IntKind.wrap_u32', hy2, f32_add c0 c rfl]
      have ey3 : ((d0.toNat : Int) + (d.toNat : Int)) % 4294967296 = (y3.toNat : Int) := by rw [← IntKind.wrap_u32', hy3, f32_add d0 d rfl]
      have ey4 : ((e0.toNat : Int) + (e.toNat : Int)) % 4294967296 = (y4.toNat : Int) := by rw [← IntKind.wrap_u32', hy4, f32_add e0 e rfl]
      have ey5 : ((f0.toNat : Int) + (f.toNat : Int)) % 4294967296 = (y5.toNat : Int) := by rw [← IntKind.wrap_u32', hy5, f32_add f0 f rfl]
      have ey6 : ((g0.toNat : Int) + (g.toNat : Int)) % 4294967296 = (y6.toNat : Int) := by rw [← IntKind.wrap_u32', hy6, f32_add g0 g rfl]
      have ey7 : ((h0.toNat : Int) + (h.toNat : Int)) % 4294967296 = (y7.toNat : Int) := by rw [← IntKind.wrap_u32', hy7, f32_add h0 h rfl]
      obtain ⟨s0, s1, s2, s3, s4, s5, s6, s7⟩ := HG.out
      have kc0 := (HB6.out.at 0 rfl).cellV 0 (w32_get s0)
      have kc1 := (HB6.out.at 0 rfl).cellV 1 (w32_get s1)
      have kc2 := (HB6.out.at 0 rfl).cellV 2 (w32_get s2)
      have kc3 := (HB6.out.at 0 rfl).cellV 3 (w32_get s3)
      have kc4 := (HB6.out.at 0 rfl).cellV 4 (w32_get s4)
      have kc5 := (HB6.out.at 0 rfl).cellV 5 (w32_get s5)
      have kc6 := (HB6.out.at 0 rfl).cellV 6 (w32_get s6)
      have kc7 := (HB6.out.at 0 rfl).cellV 7 (w32_get s7)
      clear HBE HFS HFE hst hn hy0 s0 hy1 s1 hy2 s2 hy3 s3 hy4 s4 hy5 s5 hy6 s6 hy7 s7
      go_wp2_with (refine wl_store_blk rfl 116 (.tmp 4) (.tmp 137) rfl g4 _ (w32 z8s) (w32 [y0, y1, y2, y3, y4, y5, y6, y7]) rfl rfl (HB6.out.at 1 rfl) (info8s rfl) (len_of (T := 116) (info8s (l := z8s) rfl) (info8s rfl)) (w32_ones _) ?_
                   intro w8 hA8 hK8
                   have HB8 := Lib.hid (HB6.out.store 1 rfl hA8 hK8)
                   clear hA8 hK8)
      refine ret_blk 4 116 116 g4 (w32 [y0, y1, y2, y3, y4, y5, y6, y7]) _ rfl rfl (HB8.out.at 1 rfl) Tryd.underlying116 rfl (info8s rfl) rfl ?_
      exact ⟨by rw [HBF.out], HB8.out.kp⟩
end Go.Proofs.YtikjcmhocihmcaaDoor
namespace Go.Proofs.YtikjcmhocihmcaaDoor
open Go Go.RowKit
/-- The state's block holds what comes of the whole blocks t. -/
def AtS (gs : Nat) (w : World) (t : List UInt8) : Prop := Blk w gs 116 (w32 (stB K32 64 t)) ∧ Cub w
theorem AtS.keep {gs : Nat} {w w' : World} {t : List UInt8} {S : Nat → Prop} (h : AtS gs w t) (hk : Kp S w w') (h1 : ¬ S gs) (h2 : ¬ S 1) : AtS gs w' t := ⟨h.1.keep hk h1, h.2.keep hk h2⟩
theorem stB_len32 (t : List UInt8) : (stB K32 64 t).length = 8 := blocks_len K32 64 _ _ _ (by decide)
theorem AtS.ne {gs : Nat} {w : World} {t : List UInt8} (h : AtS gs w t) : gs ≠ 1 := by
  intro e
  have h1 := h.1.cellV 0 (w32_get (getD_some (by rw [stB_len32]; decide) 0))
  have h2 := h.2 0 (.int .u64 ((K64.ks.getD 0 0).toNat : Int)) (by rfl)
  rw [e, h2] at h1
  simp at h1
attribute [local irreducible] stB
set_option maxRecDepth 20000 in
set_option maxHeartbeats 4000000 in
theorem use_any (gs : Nat) (v : Value) (t b : List UInt8) (w : World) (h : AtS gs w t) (ht : t.length % 64 = 0) (hv : Rd w v (bys b)) (hb : b.length = 64) :
    Calls Tryd.prog 90 #[v, .pointer (some ⟨gs, 0, none⟩)] w fun e w' => e = .returned (.tuple #[]) ∧ AtS gs w' (t ++ b) ∧ Kp (fun k => k = gs) w w' := by
  have HS : Hid (stB K32 64 (t ++ b) = behind K32 (stB K32 64 t) b) := Lib.hid (stB_snoc K32 (by decide) ht hb)
  have HL : Hid ((stB K32 64 t).length = 8) := Lib.hid (stB_len32 t)
  have HNE := Lib.hid h.ne
  obtain ⟨h1, h2⟩ := h
  obtain ⟨st, hst⟩ : ∃ st, st = stB K32 64 t := ⟨_, rfl⟩
  rw [← hst] at HS HL h1
  unfold AtS
  rw [HS.out]
  have H1 := Lib.hid h1
  have H2 := Lib.hid h2
  have HV := Lib.hid hv
  have HB := Lib.hid hb
  clear h1 h2 hv hb hst ht
  go_enter Tryd.func90, Tryd.ntmps90
  go_wp2_with (first
    | (go_at_call 91
       refine (gb_anys st v b _ HL.out HV.out HB.out H2.out).mono ?_
       rintro e w2 ⟨rfl, hk⟩
       have HK := Lib.hid hk
       clear hk)
    | (refine wl_load_blk rfl 116 (.tmp 1) rfl gs _ (w32 st) rfl H1.out _ Tryd.underlying116 rfl (info8s HL.out) ?_)
    | (refine wl_store_blk rfl 116 (.tmp 1) (.tmp 5) rfl gs _ (w32 st) (w32 (behind K32 st b)) rfl rfl (H1.out.kp0 HK.out) (info8s (behind_len K32 HL.out b)) (by rw [w32_len, w32_len, HL.out, behind_len K32 HL.out b]) (w32_ones _) ?_
       intro w8 hA8 hK8
       have HA8 := Lib.hid hA8
       have HK8 := Lib.hid hK8
       clear hA8 hK8))
  go_end0
  exact ⟨rfl, ⟨HA8.out, (H2.out.kp0 HK.out).keep HK8.out (fun e => HNE.out e.symm)⟩, (HK.out.nil _).tr HK8.out⟩
end Go.Proofs.YtikjcmhocihmcaaDoor
