/- The laws of package cipher: behind the greatest counter. -/
import Derived.Test.YtomlednobmaaeaaDoorCL4
import Derived.Test.YtomlednobmaaeaaDoorCiF
import Derived.Test.YtomlednobmaaeaaDoorReg7
import Derived.Deep.CutBlock
import Derived.Deep.DeepCutAuto
namespace Go.Proofs.YtomlednobmaaeaaDoor
open Go Go.RowKit
def ffs : List UInt8 := List.replicate 16 255
def cbk (n : Nat) : List UInt8 := ffs.set 15 (UInt8.ofNat (255 - n))
def one16 : List UInt8 := [0, 0, 0, 0, 0, 0, 0, 0, 0, 0, 0, 0, 0, 0, 0, 1]
theorem ffs_len : ffs.length = 16 := rfl
theorem ffs_get {n : Nat} (h : n < 16) : ffs[n]? = some 255 := by
  unfold ffs
  rw [List.getElem?_replicate]
  simp [h]
theorem zs_get {m n : Nat} (h : n < m) : (zs m)[n]? = some 0 := by
  unfold zs
  rw [List.getElem?_replicate]
  simp [h]
theorem zs_len (n : Nat) : (zs n).length = n := by simp [zs]
theorem cbk_len (n : Nat) : (cbk n).length = 16 := by simp [cbk, ffs]
theorem incB_cbk (n : Nat) (h : n < 199) : incB (cbk (n + 1)) = cbk n :=
  (by decide +kernel : ∀ m : Fin 199, incB (cbk (m.val + 1)) = cbk m.val) ⟨n, h⟩
theorem incN_comm (c : List UInt8) : ∀ n, incN (incB c) n = incN c (n + 1)
  | 0 => rfl
  | n + 1 => by
    show incB (incN (incB c) n) = incB (incN c (n + 1))
    rw [incN_comm c n]
theorem incN_cbk : ∀ n, n < 200 → incN (cbk n) n = ffs
  | 0, _ => by decide +kernel
  | n + 1, h => by rw [← incN_comm, incB_cbk n (by omega), incN_cbk n (by omega)]
theorem incN_end (n : Nat) (h : n < 200) : incN (cbk n) (n + 2) = one16 := by
  rw [incN, incN, incN_cbk n h]
  decide +kernel
theorem kb_inc (ks : List (BitVec 32)) (c : List UInt8) (p : Nat) : kb ks (incB c) p = kb ks c (16 + p) := by
  unfold kb
  rw [incN_comm, show (16 + p) / 16 = p / 16 + 1 by omega, show (16 + p) % 16 = p % 16 by omega]
attribute [local irreducible] kb aesK
theorem strm_inc (ks : List (BitVec 32)) (c : List UInt8) (n : Nat) : (strm ks (incB c) n).take (n - 16) = (strm ks c n).drop 16 := by
  apply List.ext_getElem?
  intro i
  unfold strm
  rw [List.getElem?_take, List.getElem?_drop]
  simp only [List.getElem?_map]
  by_cases h : i < n - 16
  · rw [if_pos h, List.getElem?_range (by omega), List.getElem?_range (by omega)]
    simp only [Option.map_some, kb_inc]
  · rw [if_neg h, List.getElem?_eq_none (by simp; omega)]
    rfl
theorem strm_first {ks : List (BitVec 32)} (hk : ks.length = 44) (c : List UInt8) {n : Nat} (h : 16 ≤ n) : (strm ks c n).take 16 = aesK ks c := by
  have h0 : strm ks c (16 * 0) = [] := by simp [strm]
  have h1 := strm_block hk c 0
  rw [h0, List.nil_append] at h1
  rw [strm_take ks c h]
  exact h1
theorem strm_last {ks : List (BitVec 32)} (hk : ks.length = 44) (c : List UInt8) (m : Nat) : (strm ks c (16 * (m + 1))).drop (16 * m) = aesK ks (incN c m) := by
  rw [strm_block hk c m, List.drop_left' (by rw [strm_len])]
theorem back_num (a : Int) : ∃ (t : Int) (n : Nat), a.tmod 200 = t ∧ -200 < t ∧ t < 200 ∧ (t + 200).tmod 200 = (n : Int) ∧ n < 200 := by
  have h1 := Int.lt_tmod_of_pos a (show (0 : Int) < 200 by omega)
  have h2 := Int.tmod_lt_of_pos a (show (0 : Int) < 200 by omega)
  refine ⟨a.tmod 200, ((a.tmod 200 + 200) % 200).toNat, rfl, by omega, h2, ?_, ?_⟩
  · rw [Int.tmod_eq_emod_of_nonneg (by omega)]
    have := Int.emod_nonneg (a.tmod 200 + 200) (show (200 : Int) ≠ 0 by omega)
    omega
  · have := Int.emod_lt_of_pos (a.tmod 200 + 200) (show (0 : Int) < 200 by omega)
    omega
theorem blk_pre {w : World} {g : Nat} {T : TypeId} {l : List UInt8} {rest : List Value} {n cap : Nat} (h : Blk w g T (bys l ++ rest)) (hn : l.length = n) (h1 : n ≤ cap) (h2 : cap ≤ 9223372036854775807) : Rd w (.slice (some ⟨g, 0, none⟩) n cap) (bys l) := by
  subst hn
  refine ⟨some ⟨g, 0, none⟩, cap, by rw [bys_len], by rw [bys_len]; exact h1, by unfold maxLen; omega, by simp, fun ad e i u hu => ?_⟩
  cases e
  have := h.cellV i (v := u) (by
    have hi := (List.getElem?_eq_some_iff.1 hu).1
    rw [List.getElem?_append_left hi]
    exact hu)
  rw [Addr.add_lit, Nat.zero_add]
  exact this
attribute [local irreducible] kyW colsW xorB strm xz tx incB incN cbk ffs
set_option maxRecDepth 20000 in
set_option maxHeartbeats 4000000 in
theorem cwraps_walk (vk : Value) (lk b : List UInt8) (a : Int) (w : World) (hk : Rd w vk (bys lk)) (hbl : b.length = 16) (ha : -9223372036854775808 ≤ a ∧ a ≤ 9223372036854775807) (hq : Sqr w) :
    Calls Tryd.prog 7 #[vk, .int .i64 a, .agg (bys b).toArray] w fun e w' => e = .returned (.bool true) ∧ Kp0 w w' := by
  obtain ⟨ak, ck, rfl, _, _, _⟩ := hk.shapeB
  have Hk := Lib.hid hk
  have HBL := Lib.hid hbl
  have HQ := Lib.hid hq
  have HW0 := Lib.hid hq.lt
  have ha1 := ha.1
  have ha2 := ha.2
  clear hk hbl hq ha
  go_enter Tryd.func7, Tryd.ntmps7
  go_upto_region 1 with (fail)
  have HB0 : Hid (Blk (w.alloc (.cells (bys b).toArray 23)) w.heap.size 23 (bys b)) := Lib.hid (blk0 w _ _)
  have HK0 : Hid (Kp0 w (w.alloc (.cells (bys b).toArray 23))) := Lib.hid ((Kp.refl _ w).alloc _)
  change Code.wp _ _ _ _ (w.alloc (.cells (bys b).toArray 23))
  generalize (w.alloc (.cells (bys b).toArray 23)) = w1 at HB0 HK0 ⊢
  go_wp2_with fail
  refine (fit6_any _ (HQ.out.kp0 HK0.out)).mono ?_
  rintro e w2 ⟨rfl, hk2⟩
  have HK2 := Lib.hid (HK0.out.tr hk2)
  have HB2 := Lib.hid (HB0.out.kp0 hk2)
  clear hk2 HK0 HB0
  by_cases h : lk.length = 16
  · have HH := Lib.hid h
    have b1 : ((lk.length : Int) != 16) = false := by rw [bne_eq_false_iff_eq]; omega
    have hmk : ∀ u : World, (Instr.makeSlice 22 (.int .i64 16) (.int .i64 16)).run Tryd.prog u = .ok (.slice (some ⟨u.heap.size, 0, none⟩) 16 16) (u.alloc (.cells (bys (zs 16)).toArray 5)) := mkB 16 (by omega)
    clear h
    go_upto_region 6 with (fail)
    have HBC : Hid (Blk (w2.alloc (.cells (bys (zs 16)).toArray 5)) w2.heap.size 5 (bys (zs 16))) := Lib.hid (blk0 w2 _ _)
    have HKC : Hid (Kp0 w (w2.alloc (.cells (bys (zs 16)).toArray 5))) := Lib.hid (HK2.out.alloc _)
    have HBb : Hid (Blk (w2.alloc (.cells (bys (zs 16)).toArray 5)) w.heap.size 23 (bys b)) := Lib.hid (HB2.out.kp0 ((Kp.refl _ w2).alloc _))
    have HGC : Hid (w.heap.size < w2.heap.size) := Lib.hid HB2.out.lt
    change Code.wp _ _ _ _ (w2.alloc (.cells (bys (zs 16)).toArray 5))
    generalize (w2.alloc (.cells (bys (zs 16)).toArray 5)) = w3 at HBC HKC HBb ⊢
    clear HK2 HB2
    generalize w2.heap.size = gc at HBC HGC ⊢
    clear hmk
    have HST : Hid (∀ n : Nat, n < 16 → (upT n (zs 16) ffs)[n]? = some 0 ∧ (upT n (zs 16) ffs).set n 255 = upT (n + 1) (zs 16) ffs) := Lib.hid (fun n hn => upT_step (l := zs 16) (m := ffs) (x := 0) (y := 255) (by simp [zs, ffs_len]) (zs_get hn) (ffs_get hn))
    go_wp2
    go_loopg [28] 16 (fun gg i wr => ∃ (n : Nat), i = .int .i64 n ∧ n ≤ 16 ∧ gg = 16 - n ∧ Blk wr gc 5 (bys (upT n (zs 16) ffs)) ∧ Blk wr w.heap.size 23 (bys b) ∧ Kp0 w wr)
    case atStart => exact ⟨0, rfl, by omega, rfl, by rw [upT_zero]; exact HBC.out, HBb.out, HKC.out⟩
    case round =>
      obtain ⟨n, rfl, hn, rfl, h1, h2, h3⟩ := hrel
      have HB4 := Lib.hid h1
      have HBb4 := Lib.hid h2
      have HK4 := Lib.hid h3
      clear h1 h2 h3 HBC HKC HBb
      by_cases h : n < 16
      · have hst := HST.out n h
        have hcl := HB4.out.cellV n (bys_getV hst.1)
        have hfr := blk_frozen HB4.out n
        have hni : (n : Int) < 16 := by omega
        have HNN := Lib.hid h
        have HSS := Lib.hid hst.2
        clear hst h
        go_wp2
        go_roundg (16 - (n + 1))
        case measure => have := HNN.out; omega
        case rel =>
          have := HNN.out
          have hk5 := (Kp.refl (fun b => b = gc) wr).setCell (p := ⟨gc, n, none⟩) (fun _ => rfl) (.int .u8 255)
          refine ⟨n + 1, by go_num, by omega, rfl, ?_, HBb4.out.keep hk5 (fun e => by have := HGC.out; omega), HK4.out.trans hk5 (fun _ _ h => h) (fun i hi e => by have := HGC.out; omega)⟩
          have hs := HB4.out.set' n (.int .u8 ((255 : UInt8).toNat : Int))
          rw [bys_setV, HSS.out] at hs
          exact hs
      · obtain rfl : n = 16 := by omega
        rw [upT_all (by simp [zs]) (by rw [ffs_len]; exact Nat.le_refl _)] at HB4
        clear h hn HST
        obtain ⟨t, n, ht0, ht1, ht2, hn0, hn1⟩ := back_num a
        have hN : (RowKit.wrap64 (a.tmod 200 + 200)).tmod 200 = (n : Int) := by rw [ht0, IntWalk.wrap64_in (t + 200) (by omega), hn0]
        clear ht0 ht1 ht2 hn0
        go_upto_region 12 with (fail)
        have hcl : wr.cell? ⟨gc, 15, none⟩ = some (.int .u8 255) := HB4.out.cellV 15 (bys_getV (ffs_get (n := 15) (by omega)))
        have hfr := blk_frozen HB4.out 15
        have hni : (n : Int) < 200 := by omega
        go_upto_region 13 with (fail)
        have hv : 255 - (n : Int) = (((UInt8.ofNat (255 - n)).toNat : Nat) : Int) := by rw [UInt8.toNat_ofNat']; omega
        rw [hv]
        have hk5 := (Kp.refl (fun b => b = gc) wr).setCell (p := ⟨gc, 15, none⟩) (fun _ => rfl) (.int .u8 (((UInt8.ofNat (255 - n)).toNat : Nat) : Int))
        have HB5 : Hid (Blk (wr.setCell ⟨gc, 15, none⟩ (.int .u8 (((UInt8.ofNat (255 - n)).toNat : Nat) : Int))) gc 5 (bys (cbk n))) := Lib.hid (by
          have hs := HB4.out.set' 15 (.int .u8 (((UInt8.ofNat (255 - n)).toNat : Nat) : Int))
          rw [bys_setV] at hs
          unfold cbk
          exact hs)
        have HBb5 := Lib.hid (HBb4.out.keep hk5 (fun e => by have := HGC.out; omega))
        have HK5 : Hid (Kp0 w (wr.setCell ⟨gc, 15, none⟩ (.int .u8 (((UInt8.ofNat (255 - n)).toNat : Nat) : Int)))) := Lib.hid (HK4.out.trans hk5 (fun _ _ h => h) (fun i hi e => by have := HGC.out; omega))
        clear hk5 HB4 HBb4 HK4 hcl hfr hv hN
        generalize (wr.setCell ⟨gc, 15, none⟩ (.int .u8 (((UInt8.ofNat (255 - n)).toNat : Nat) : Int))) = w5 at HB5 HBb5 HK5 ⊢
        generalize UInt8.ofNat (255 - n) = y15
        obtain ⟨c, hc⟩ : ∃ c, c = cbk n := ⟨_, rfl⟩
        have HCL : Hid (c.length = 16) := Lib.hid (by rw [hc]; exact cbk_len n)
        have HCE : Hid (incN c (n + 2) = one16) := Lib.hid (by rw [hc]; exact incN_end n hn1)
        rw [← hc] at HB5
        clear hc
        have HRC := Lib.hid (blk_rd HB5.out HCL.out (by omega))
        go_wp2_with fail
        go_at_call 9
        refine (new_any _ _ lk c _ (Hk.out.keep0 HK5.out) HRC.out (HQ.out.kp0 HK5.out) ⟨HH.out, HCL.out⟩).mono ?_
        rintro e w6 ⟨g, rfl, hs, hg, hk⟩
        obtain ⟨ks, hks⟩ : ∃ ks, ks = kyW (colsW lk) := ⟨_, rfl⟩
        have HKS := Lib.hid hks
        rw [← hks] at hs
        have HKL : Hid (ks.length = 44) := Lib.hid hs.2.1
        have HA6 := Lib.hid (At.start hs)
        have HB6 := Lib.hid (HB5.out.kp0 hk)
        have HBb6 := Lib.hid (HBb5.out.kp0 hk)
        have HRC6 := Lib.hid (HRC.out.keep0 hk)
        have HK6 := Lib.hid (HK5.out.tr hk)
        have HNG : Hid (w.heap.size < gc ∧ gc < g ∧ g < w6.heap.size) := Lib.hid (by
          have h1 := HB5.out.lt
          have h2 := HGC.out
          have h3 := (At.start hs).lt
          exact ⟨h2, by omega, h3⟩)
        clear hs hg hk hks HB5 HBb5 HK5 HRC HGC
        go_upto_region 14 with (fail)
        go_upto_region 15 with (refine wl_append_own rfl (.const (.slice none 0 0)) (.tmp 52) 22 rfl Tryd.underlying22 infoB' rfl (v := .slice none 0 0) (xs := []) rfl rfl (Own.nil w6.heap.size 5 w6) HRC6.out (bys_onesV _) (by rw [bys_len, HCL.out]; simp; unfold maxLen; omega) (by rw [bys_len, HCL.out]; simp) (Nat.le_refl _) ?_
                                intro vd w7 hO hG
                                rw [List.nil_append] at hO
                                have hk7 : Kp0 w6 w7 := (Kp.refl _ _).grown hG (fun k hk _ => by cases hk)
                                obtain ⟨gd, cd, rd, rfl, hbd, hgd, hcd⟩ := own_blk hO (by rw [HCL.out]; omega)
                                have HBD := Lib.hid hbd
                                have HGD := Lib.hid hgd
                                have HCD : Hid (16 ≤ cd ∧ cd ≤ 9223372036854775807) := Lib.hid (by
                                  obtain ⟨_, _, e, _, hm, _⟩ := hO.rd.shapeB
                                  simp only [Value.slice.injEq] at e
                                  rw [HCL.out] at hcd
                                  exact ⟨hcd, by omega⟩)
                                have HB7 := Lib.hid (HB6.out.kp0 hk7)
                                have HBb7 := Lib.hid (HBb6.out.kp0 hk7)
                                have HA7 := Lib.hid (HA6.out.kp0 hk7)
                                have HK7 := Lib.hid (HK6.out.tr hk7)
                                clear hO hG hk7 hbd hgd hcd)
        clear HB6 HBb6 HA6 HK6 HRC6
        rw [HCL.out]
        obtain ⟨rs, hrs⟩ : ∃ rs, rs = incB c := ⟨_, rfl⟩
        have HRS := Lib.hid hrs
        have HRL : Hid (rs.length = 16) := Lib.hid (by rw [hrs, incB_len, HCL.out])
        have H0 : Hid (c.length = 16 ∧ incAt c 16 = rs) := Lib.hid ⟨HCL.out, by rw [hrs]; unfold incB; rfl⟩
        clear hrs
        go_upto_block 2 with (fail)
        have HGW : Hid (w.heap.size < gd ∧ gc ≠ gd ∧ g ≠ gd) := Lib.hid (by
          have h1 := HGD.out
          have h2 := HNG.out
          exact ⟨by omega, by omega, by omega⟩)
        have HSTO : Hid (∀ (wr : World) (m : Nat) (v : Value), Blk wr gc 5 (bys c) → Blk wr w.heap.size 23 (bys b) → At wr g ks c 0 → Kp0 w wr → Blk (wr.setCell ⟨gd, m, none⟩ v) gc 5 (bys c) ∧ Blk (wr.setCell ⟨gd, m, none⟩ v) w.heap.size 23 (bys b) ∧ At (wr.setCell ⟨gd, m, none⟩ v) g ks c 0 ∧ Kp0 w (wr.setCell ⟨gd, m, none⟩ v)) := Lib.hid (by
          intro wr m v h1 h2 h3 h4
          have hk := (Kp.refl (fun b => b = gd) wr).setCell (p := ⟨gd, m, none⟩) (fun _ => rfl) v
          exact ⟨h1.keep hk HGW.out.2.1, h2.keep hk (fun e => by have := HGW.out.1; omega), h3.kp0' hk HGW.out.2.2, h4.trans hk (fun _ _ h => h) (fun i hi e => by have := HGW.out.1; omega)⟩)
        go_cut [12] (fun j wx => Blk wx gd 5 (bys rs ++ rd) ∧ Blk wx gc 5 (bys c) ∧ Blk wx w.heap.size 23 (bys b) ∧ At wx g ks c 0 ∧ Kp0 w wx)
        case first =>
          go_wp2_with fail
          go_loopg [12] 16 (fun gg j wx => ∃ (k : Nat) (cur : List UInt8), j = .int .i64 ((k : Int) - 1) ∧ k ≤ 16 ∧ gg = k ∧ (cur.length = 16 ∧ incAt cur k = rs) ∧ Blk wx gd 5 (bys cur ++ rd) ∧ Blk wx gc 5 (bys c) ∧ Blk wx w.heap.size 23 (bys b) ∧ At wx g ks c 0 ∧ Kp0 w wx)
          case atStart => exact ⟨16, c, rfl, by omega, rfl, H0.out, HBD.out, HB7.out, HBb7.out, HA7.out, HK7.out⟩
          case round =>
            obtain ⟨k, cur, rfl, hk, rfl, hcur, h1, h2, h3, h4, h5⟩ := hrel
            have HR1 := Lib.hid h1
            have HX := Lib.hid (HSTO.out wr · · h2 h3 h4 h5)
            have HC := Lib.hid hcur
            have HRE := Lib.hid (And.intro h2 (And.intro h3 (And.intro h4 h5)))
            clear h1 h2 h3 h4 h5 H0 hcur HBD HB7 HBb7 HA7 HK7 HSTO
            cases gk with
            | succ m =>
              obtain ⟨x, y, h1, h2, h3, h4⟩ := inc_step HC.out.1 hk HC.out.2
              have hm : (((m + 1 : Nat) : Int) - 1) = (m : Int) := by omega
              rw [hm]
              have hm16 : (m : Int) < 16 := by omega
              have hc1 := HR1.out.cellV m (app_get h1)
              have hf1 := blk_frozen HR1.out m
              have HM := Lib.hid hk
              clear h1 hm hk
              by_cases hy : y = 0
              · have H3 := Lib.hid (h3 hy)
                clear h3 h4
                subst hy
                rw [show (((0 : UInt8).toNat : Nat) : Int) = 0 from rfl] at h2
                go_wp2
                go_roundg m
                case measure => omega
                case rel =>
                  have HMo := HM.out
                  refine ⟨m, cur.set m 0, rfl, by omega, rfl, ⟨by rw [List.length_set]; exact HC.out.1, H3.out⟩, ?_, HX.out _ _⟩
                  have hs := HR1.out.set' m (.int .u8 (((0 : UInt8).toNat : Nat) : Int))
                  rw [app_set (by rw [HC.out.1]; omega)] at hs
                  exact hs
              · have H4 := Lib.hid (h4 hy)
                have hne := u8_ne hy
                clear h3 h4 hy
                go_wp2_with fail
                go_meet
                refine ⟨?_, HX.out _ _⟩
                have hs := HR1.out.set' m (.int .u8 (y.toNat : Int))
                rw [app_set (by rw [HC.out.1]; have := HM.out; omega), H4.out] at hs
                exact hs
            | zero =>
              go_wp2_with fail
              go_meet
              refine ⟨?_, HRE.out⟩
              rw [← HC.out.2]
              exact HR1.out
        case rest =>
          obtain ⟨h1, h2, h3, h4, h5⟩ := hcut
          have HRD := Lib.hid (blk_pre h1 HRL.out HCD.out.1 HCD.out.2)
          have HB8 := Lib.hid h2
          have HBb8 := Lib.hid h3
          have HA8 := Lib.hid h4
          have HK8 := Lib.hid h5
          clear h1 h2 h3 h4 h5 HBD HB7 HBb7 HA7 HK7 HSTO H0 HGW
          go_wp2_with fail
          go_at_call 9
          refine (new_any _ _ lk rs _ (Hk.out.keep0 HK8.out) HRD.out (HQ.out.kp0 HK8.out) ⟨HH.out, HRL.out⟩).mono ?_
          rintro e w9 ⟨g2, rfl, hs, hg, hk⟩
          rw [← HKS.out] at hs
          have HA9b := Lib.hid (At.start hs)
          have HA9 := Lib.hid (HA8.out.kp0 hk)
          have HB9 := Lib.hid (HB8.out.kp0 hk)
          have HBb9 := Lib.hid (HBb8.out.kp0 hk)
          have HK9 := Lib.hid (HK8.out.tr hk)
          have HNG2 : Hid (w.heap.size < gc ∧ gc < g ∧ g < g2 ∧ g2 < w9.heap.size) := Lib.hid (by
            have h1 := HNG.out
            have h2 := HA8.out.lt
            have h3 := (At.start hs).lt
            exact ⟨h1.1, h1.2.1, by omega, h3⟩)
          clear hs hg hk HA8 HB8 HBb8 HK8 HRD HNG
          go_upto_region 21 with (fail)
          obtain ⟨n3, hn3⟩ : ∃ n3, n3 = 16 * (n + 2 + 1) := ⟨_, rfl⟩
          have hi3 : 16 * ((n : Int) + 3) = (n3 : Int) := by omega
          have HN3 := Lib.hid hn3
          have HN3L : Hid (n3 ≤ 4000) := Lib.hid (by omega)
          have hmk : ∀ u : World, (Instr.makeSlice 22 (.int .i64 (n3 : Int)) (.int .i64 (n3 : Int))).run Tryd.prog u = .ok (.slice (some ⟨u.heap.size, 0, none⟩) n3 n3) (u.alloc (.cells (bys (zs n3)).toArray 5)) := mkB n3 (by omega)
          clear hn3
          go_upto_region 22 with (fail)
          have HZB : Hid (Blk (w9.alloc (.cells (bys (zs n3)).toArray 5)) w9.heap.size 5 (bys (zs n3))) := Lib.hid (blk0 w9 _ _)
          have hka : Kp0 w9 (w9.alloc (.cells (bys (zs n3)).toArray 5)) := (Kp.refl _ w9).alloc _
          have HA10b := Lib.hid (HA9b.out.kp0 hka)
          have HA10 := Lib.hid (HA9.out.kp0 hka)
          have HB10 := Lib.hid (HB9.out.kp0 hka)
          have HBb10 := Lib.hid (HBb9.out.kp0 hka)
          have HK10 := Lib.hid (HK9.out.tr hka)
          clear hka HA9b HA9 HB9 HBb9 HK9 hmk
          change Code.wp _ _ _ _ (w9.alloc (.cells (bys (zs n3)).toArray 5))
          generalize (w9.alloc (.cells (bys (zs n3)).toArray 5)) = w10 at HZB HA10b HA10 HB10 HBb10 HK10 ⊢
          generalize hgz : w9.heap.size = gz at HZB HNG2 ⊢
          have HGZ : Hid (gz < w10.heap.size) := Lib.hid HZB.out.lt
          clear hgz
          go_wp2_with fail
          go_at_call 11
          refine (turn_any g ks c 0 _ (zs n3) _ HA10.out (blk_rd HZB.out (zs_len n3) (by have := HN3L.out; omega)) (fun b hb e => by rw [own_at b hb] at e; have := HNG2.out; omega) (HQ.out.kp0 HK10.out) (by have := HNG2.out; omega) (by rw [zs_len]; have := HN3L.out; omega)).mono ?_
          rintro e w11 ⟨gx, rfl, hb, hh, hat, hk⟩
          rw [zs_len]
          have HX11 := Lib.hid hb
          have HGX : Hid (w10.heap.size ≤ gx) := Lib.hid hh
          have HA11 := Lib.hid hat
          have HA11b := Lib.hid (HA10b.out.kp0' hk (fun e => by have := HNG2.out; omega))
          have HZ11 := Lib.hid (HZB.out.keep hk (fun e => by have := HNG2.out; omega))
          have HB11 := Lib.hid (HB10.out.keep hk (fun e => by have := HNG2.out; omega))
          have HBb11 := Lib.hid (HBb10.out.keep hk (fun e => by have := HNG2.out; omega))
          have HK11 : Hid (Kp0 w w11) := Lib.hid (HK10.out.trans hk (fun _ _ h => h) (fun i hi e => by have := HNG2.out; omega))
          clear hb hh hat hk HA10 HA10b HZB HB10 HBb10 HK10
          go_wp2_with fail
          go_at_call 11
          refine (turn_any g2 ks rs 0 _ (zs n3) _ HA11b.out (blk_rd HZ11.out (zs_len n3) (by have := HN3L.out; omega)) (fun b hb e => by rw [own_at b hb] at e; have := HNG2.out; omega) (HQ.out.kp0 HK11.out) (by have := HNG2.out; omega) (by rw [zs_len]; have := HN3L.out; omega)).mono ?_
          rintro e w12 ⟨gy, rfl, hb, hh, hat, hk⟩
          rw [zs_len]
          have HY12 := Lib.hid hb
          have HX12 := Lib.hid (HX11.out.keep hk (fun e => by have h1 := HNG2.out; have h2 := HGX.out; have h3 := HGZ.out; omega))
          have HA12 := Lib.hid (HA11.out.kp0' hk (fun e => by have := HNG2.out; omega))
          have HA12b := Lib.hid hat
          have HB12 := Lib.hid (HB11.out.keep hk (fun e => by have := HNG2.out; omega))
          have HBb12 := Lib.hid (HBb11.out.keep hk (fun e => by have := HNG2.out; omega))
          have HK12 : Hid (Kp0 w w12) := Lib.hid (HK11.out.trans hk (fun _ _ h => h) (fun i hi e => by have := HNG2.out; omega))
          clear hb hh hat hk HA11 HA11b HZ11 HB11 HBb11 HK11 HX11
          obtain ⟨X, hX⟩ : ∃ X, X = xorB ks c 0 (zs n3) := ⟨_, rfl⟩
          have HX := Lib.hid hX
          have HXL : Hid (X.length = n3) := Lib.hid (by rw [hX, xorB_len, zs_len])
          rw [← hX] at HX12
          obtain ⟨Y, hY⟩ : ∃ Y, Y = xorB ks rs 0 (zs n3) := ⟨_, rfl⟩
          have HY := Lib.hid hY
          have HYL : Hid (Y.length = n3) := Lib.hid (by rw [hY, xorB_len, zs_len])
          rw [← hY] at HY12
          clear hX hY
          go_upto_region 23 with (fail)
          have ha1 : ∀ wq : World, (Instr.arrayAt 23 (.slice (some ⟨gc, 0, none⟩) 16 16)).run Tryd.prog wq = .ok (.pointer (some ⟨gc, 0, none⟩)) wq := fun wq => run_arrayAt _ 23 _ 16 _ 16 16 Tryd.underlying23 (Nat.le_refl _)
          obtain ⟨S1, hS1⟩ : ∃ S1, S1 = aesK ks c := ⟨_, rfl⟩
          have HS1 := Lib.hid hS1
          have HS1L : Hid (S1.length = 16) := Lib.hid (by rw [hS1]; exact aesK_len HKL.out c)
          obtain ⟨last, hst, _⟩ := HA12.out
          have HST := Lib.hid hst
          clear hst hS1
          go_upto_region 24 with (first
            | (refine wl_load_blk rfl 23 (.tmp 87) rfl gc _ (bys c) rfl HB12.out _ Tryd.underlying23 rfl (info16 HCL.out) ?_)
            | (go_at_call 10
               refine (blk_any g ks _ _ _ c _ HST.out HCL.out (HQ.out.kp0 HK12.out)).mono ?_
               rintro e w13 ⟨rfl, hk⟩
               rw [← HS1.out]
               have HX13 := Lib.hid (HX12.out.kp0 hk)
               have HY13 := Lib.hid (HY12.out.kp0 hk)
               have HA13 := Lib.hid (HA12.out.kp0 hk)
               have HA13b := Lib.hid (HA12b.out.kp0 hk)
               have HBb13 := Lib.hid (HBb12.out.kp0 hk)
               have HK13 := Lib.hid (HK12.out.tr hk)
               clear hk)
            | (refine wl_store_blk rfl 23 (.tmp 18) (.tmp 89) rfl (w13.heap.size) _ (bys z16) (bys S1) rfl rfl (blk0 w13 _ _) (info16 HS1L.out) (len_of (T := 23) (info16 (l := z16) rfl) (info16 HS1L.out)) (bys_onesV _) ?_
               intro w14 hA14 hK14
               have hk14 : Kp (fun b => b = w13.heap.size) w13 w14 := ((Kp.refl _ w13).alloc _).tr hK14
               have HF14 := Lib.hid hA14
               have HX14 := Lib.hid (HX13.out.keep hk14 (fun e => by have := HX13.out.lt; omega))
               have HY14 := Lib.hid (HY13.out.keep hk14 (fun e => by have := HY13.out.lt; omega))
               have HA14 := Lib.hid (HA13.out.kp0' hk14 (fun e => by have := HA13.out.lt; omega))
               have HA14b := Lib.hid (HA13b.out.kp0' hk14 (fun e => by have := HA13b.out.lt; omega))
               have HBb14 := Lib.hid (HBb13.out.keep hk14 (fun e => by have := HBb13.out.lt; omega))
               have HK14 : Hid (Kp0 w w14) := Lib.hid (HK13.out.trans hk14 (fun _ _ h => h) (fun i hi e => by have := HK13.out.size; omega))
               clear hA14 hK14 hk14))
          clear HX12 HY12 HA12 HA12b HB12 HBb12 HK12 HX13 HY13 HA13 HA13b HBb13 HK13 HST ha1
          obtain ⟨S2, hS2⟩ : ∃ S2, S2 = aesK ks one16 := ⟨_, rfl⟩
          have HS2 := Lib.hid hS2
          have HS2L : Hid (S2.length = 16) := Lib.hid (by rw [hS2]; exact aesK_len HKL.out one16)
          obtain ⟨last2, hst, _⟩ := HA14.out
          have HST := Lib.hid hst
          clear hst hS2
          go_upto_region 25 with (first
            | (go_at_call 10
               refine (blk_any g ks _ _ _ [0, 0, 0, 0, 0, 0, 0, 0, 0, 0, 0, 0, 0, 0, 0, 1] _ HST.out rfl (HQ.out.kp0 HK14.out)).mono ?_
               rintro e w15 ⟨rfl, hk⟩
               rw [show ([0, 0, 0, 0, 0, 0, 0, 0, 0, 0, 0, 0, 0, 0, 0, 1] : List UInt8) = one16 from rfl, ← HS2.out]
               have HX15 := Lib.hid (HX14.out.kp0 hk)
               have HY15 := Lib.hid (HY14.out.kp0 hk)
               have HA15 := Lib.hid (HA14.out.kp0 hk)
               have HA15b := Lib.hid (HA14b.out.kp0 hk)
               have HBb15 := Lib.hid (HBb14.out.kp0 hk)
               have HF15 := Lib.hid (HF14.out.kp0 hk)
               have HK15 := Lib.hid (HK14.out.tr hk)
               clear hk)
            | (refine wl_store_blk rfl 23 (.tmp 19) (.tmp 92) rfl (w15.heap.size) _ (bys z16) (bys S2) rfl rfl (blk0 w15 _ _) (info16 HS2L.out) (len_of (T := 23) (info16 (l := z16) rfl) (info16 HS2L.out)) (bys_onesV _) ?_
               intro w16 hA16 hK16
               have hk16 : Kp (fun b => b = w15.heap.size) w15 w16 := ((Kp.refl _ w15).alloc _).tr hK16
               have HL16 := Lib.hid hA16
               have HX16 := Lib.hid (HX15.out.keep hk16 (fun e => by have := HX15.out.lt; omega))
               have HY16 := Lib.hid (HY15.out.keep hk16 (fun e => by have := HY15.out.lt; omega))
               have HA16 := Lib.hid (HA15.out.kp0' hk16 (fun e => by have := HA15.out.lt; omega))
               have HA16b := Lib.hid (HA15b.out.kp0' hk16 (fun e => by have := HA15b.out.lt; omega))
               have HBb16 := Lib.hid (HBb15.out.keep hk16 (fun e => by have := HBb15.out.lt; omega))
               have HF16 := Lib.hid (HF15.out.keep hk16 (fun e => by have := HF15.out.lt; omega))
               have HK16 : Hid (Kp0 w w16) := Lib.hid (HK15.out.trans hk16 (fun _ _ h => h) (fun i hi e => by have := HK15.out.size; omega))
               clear hA16 hK16 hk16))
          clear HX14 HY14 HA14 HA14b HBb14 HK14 HX15 HY15 HA15 HA15b HBb15 HF15 HK15 HF14 HST
          generalize w13.heap.size = gf at HF16 ⊢
          generalize w15.heap.size = gl at HL16 ⊢
          obtain ⟨m, hm⟩ : ∃ m, m = 16 * (n + 2) := ⟨_, rfl⟩
          have HM3 : Hid (n3 = m + 16) := Lib.hid (by have := HN3.out; omega)
          have hXe : X = strm ks c n3 := by
            have h1 := zero_strm ks c 0 n3
            rw [Nat.zero_add, List.drop_zero] at h1
            rw [HX.out, h1]
          have hYe : Y = strm ks (incB c) n3 := by
            have h1 := zero_strm ks rs 0 n3
            rw [Nat.zero_add, List.drop_zero] at h1
            rw [HY.out, h1, HRS.out]
          have hD1 : Y.take m = X.drop 16 := by
            have h1 := strm_inc ks c n3
            rw [hXe, hYe, ← h1, show n3 - 16 = m by have := HM3.out; omega]
          have hD2 : X.take 16 = S1 := by
            rw [hXe, HS1.out]
            exact strm_first HKL.out c (by have := HM3.out; omega)
          have hD3 : X.drop m = S2 := by
            rw [hXe, HS2.out, HN3.out, hm, strm_last HKL.out c (n + 2), HCE.out]
          obtain ⟨D, hD⟩ : ∃ D, D = X.drop 16 := ⟨_, rfl⟩
          rw [← hD] at hD1
          have HRX := blk_rd HX16.out HXL.out (by have := HN3L.out; omega)
          have HRY := blk_rd HY16.out HYL.out (by have := HN3L.out; omega)
          have r1 := HRX.afterB 16 (by have := HM3.out; omega)
          have r2 := rd_less (n := m) HRY (by rw [HYL.out]; have := HM3.out; omega)
          have r3 := rd_less (n := 16) HRX (by rw [HXL.out]; have := HM3.out; omega)
          have r5 := HRX.afterB m (by have := HM3.out; omega)
          rw [Nat.zero_add, ← hD, show n3 - 16 = m by have := HM3.out; omega] at r1
          rw [hD1] at r2
          rw [hD2] at r3
          rw [Nat.zero_add, hD3, show n3 - m = 16 by have := HM3.out; omega] at r5
          have R1 := Lib.hid r1
          have R2 := Lib.hid r2
          have R3 := Lib.hid r3
          have R5 := Lib.hid r5
          have R4 := Lib.hid (blk_rd HF16.out HS1L.out (by omega))
          have R6 := Lib.hid (blk_rd HL16.out HS2L.out (by omega))
          have hi1 : (n3 : Int) - 16 = (m : Int) := by have := HM3.out; omega
          have hi2 : 16 * ((n : Int) + 2) = (m : Int) := by omega
          have hwm : IntKind.i64.wrap (m : Int) = (m : Int) := wrapI m (by have h1 := HM3.out; have h2 := HN3L.out; omega)
          have hw2 : IntKind.i64.wrap (16 * IntKind.i64.wrap ((n : Int) + 2)) = (m : Int) := by
            have e1 : IntKind.i64.wrap ((n : Int) + 2) = (n : Int) + 2 := by rw [IntKind.wrap_i64]; omega
            rw [e1, hi2, hwm]
          have hi4 : n3 - 16 = m := by have := HM3.out; omega
          have hi5 : n3 - m = 16 := by have := HM3.out; omega
          have hi6 : ¬ n3 = 16 := by have := HM3.out; omega
          have hi7 : ¬ n3 = m := by have := HM3.out; omega
          have hi8 : (m : Int) ≤ (n3 : Int) := by have := HM3.out; omega
          have hi9 : (16 : Int) ≤ (n3 : Int) := by have := HM3.out; omega
          have hi10 : m ≤ n3 := by have := HM3.out; omega
          have hi11 : 16 ≤ n3 := by have := HM3.out; omega
          clear hXe hYe hD1 hD2 hD3 hD HRX HRY r1 r2 r3 r5 hm HX16 HY16 HF16 HL16
          have heq : ∀ wq : World, (Op.equalIn 10000 23 (.agg (bys (aesK ks b)).toArray) (.agg (bys (aesK ks b)).toArray)).run Tryd.prog wq = .ok true wq := fun wq => eq16 (aesK_len HKL.out b) wq
          have c1 : ∀ wq, Kp0 w16.drew wq → (convert 22 9 (.slice (some ⟨gx, 16, none⟩) m m)).run Tryd.prog wq = .ok (.string (tx D)) wq := fun wq hk => cv_tx ((R1.out.keep0 (Kp.refl _ _).drew).keep0 hk)
          have c2 : ∀ wq, Kp0 w16.drew wq → (convert 22 9 (.slice (some ⟨gy, 0, none⟩) m n3)).run Tryd.prog wq = .ok (.string (tx D)) wq := fun wq hk => cv_tx ((R2.out.keep0 (Kp.refl _ _).drew).keep0 hk)
          have c3 : ∀ wq, Kp0 w16.drew wq → (convert 22 9 (.slice (some ⟨gx, 0, none⟩) 16 n3)).run Tryd.prog wq = .ok (.string (tx S1)) wq := fun wq hk => cv_tx ((R3.out.keep0 (Kp.refl _ _).drew).keep0 hk)
          have c4 : ∀ wq, Kp0 w16.drew wq → (convert 22 9 (.slice (some ⟨gf, 0, none⟩) 16 16)).run Tryd.prog wq = .ok (.string (tx S1)) wq := fun wq hk => cv_tx ((R4.out.keep0 (Kp.refl _ _).drew).keep0 hk)
          have c5 : ∀ wq, Kp0 w16.drew wq → (convert 22 9 (.slice (some ⟨gx, m, none⟩) 16 16)).run Tryd.prog wq = .ok (.string (tx S2)) wq := fun wq hk => cv_tx ((R5.out.keep0 (Kp.refl _ _).drew).keep0 hk)
          have c6 : ∀ wq, Kp0 w16.drew wq → (convert 22 9 (.slice (some ⟨gl, 0, none⟩) 16 16)).run Tryd.prog wq = .ok (.string (tx S2)) wq := fun wq hk => cv_tx ((R6.out.keep0 (Kp.refl _ _).drew).keep0 hk)
          have HK0 : Hid (Kp0 w16.drew w16.drew) := Lib.hid (Kp.refl _ _)
          simp only [Act.put]
          refine wp_region_px7 [[1,4,5,6,7,8,9,10,11,12,13,14,15,16,17,18,19,20,21,22,23,24,25,26,27,28,29,30,31,32,33,34,35,36,37,38,39,40,41,42,43,44,45],[4,5,6,7,8,9,10,11,12,13,14,15,16,17,18,19,20,21,22,23,24,25,26,27,28,29,30,31,32,33,34,35,36,37,38,39,40,41,42,43,44,45],[3,4,5,6,7,8,9,10,11,12,13,14,15,16,17,18,19,20,21,22,23,24,25,26,27,28,29,30,31,32,33,34,35,36,37,38,39,40,41,42,43,44,45],[4,5,6,7,8,9,10,11,12,13,14,15,16,17,18,19,20,21,22,23,24,25,26,27,28,29,30,31,32,33,34,35,36,37,38,39,40,41,42,43,44,45],[5,6,7,8,9,10,11,12,13,14,15,16,17,18,19,20,21,22,23,24,25,26,27,28,29,30,31,32,33,34,35,36,37,38,39,40,41,42,43,44,45],[6,7,8,9,10,11,12,13,14,15,16,17,18,19,20,21,22,23,24,25,26,27,28,29,30,31,32,33,34,35,36,37,38,39,40,41,42,43,44,45],[7,8,15,16,17,18,19,20,21,22,23,24,25,26,27,28,29,30,31,32,33,34,35,36,37,38,39,40,41,42,43,44,45],[8,15,16,17,18,19,20,21,22,23,24,25,26,27,28,29,30,31,32,33,34,35,36,37,38,39,40,41,42,43,44,45],[15,16,17,18,19,20,21,22,23,24,25,26,27,28,29,30,31,32,33,34,35,36,37,38,39,40,41,42,43,44,45],[13,14,15,16,17,18,19,20,21,22,23,24,25,26,27,28,29,30,31,32,33,34,35,36,37,38,39,40,41,42,43,44,45],[11,12,13,14,15,16,17,18,19,20,21,22,23,24,25,26,27,28,29,30,31,32,33,34,35,36,37,38,39,40,41,42,43,44,45],[12,13,14,15,16,17,18,19,20,21,22,23,24,25,26,27,28,29,30,31,32,33,34,35,36,37,38,39,40,41,42,43,44,45],[13,14,15,16,17,18,19,20,21,22,23,24,25,26,27,28,29,30,31,32,33,34,35,36,37,38,39,40,41,42,43,44,45],[14,15,16,17,18,19,20,21,22,23,24,25,26,27,28,29,30,31,32,33,34,35,36,37,38,39,40,41,42,43,44,45],[15,16,17,18,19,20,21,22,23,24,25,26,27,28,29,30,31,32,33,34,35,36,37,38,39,40,41,42,43,44,45],[16,17,18,19,20,21,22,23,24,25,26,27,28,29,30,31,32,33,34,35,36,37,38,39,40,41,42,43,44,45],[17,18,19,20,21,22,23,24,25,26,27,28,29,30,31,32,33,34,35,36,37,38,39,40,41,42,43,44,45],[18,19,20,21,22,23,24,25,26,27,28,29,30,31,32,33,34,35,36,37,38,39,40,41,42,43,44,45],[19,20,23,24,25,26,27,28,29,30,31,32,33,34,35,36,37,38,39,40,41,42,43,44,45],[20,23,24,25,26,27,28,29,30,31,32,33,34,35,36,37,38,39,40,41,42,43,44,45],[23,24,25,26,27,28,29,30,31,32,33,34,35,36,37,38,39,40,41,42,43,44,45],[22,23,24,25,26,27,28,29,30,31,32,33,34,35,36,37,38,39,40,41,42,43,44,45],[23,24,25,26,27,28,29,30,31,32,33,34,35,36,37,38,39,40,41,42,43,44,45],[24,25,26,27,28,29,30,31,32,33,34,35,36,37,38,39,40,41,42,43,44,45],[25,26,27,28,29,30,31,32,33,34,35,36,37,38,39,40,41,42,43,44,45],[26,27,28,29,30,31,32,33,34,35,36,37,38,39,40,41,42,43,44,45],[30,31,34,35,36,37,38,39,40,41,42,43,44,45],[28,29,30,31,34,35,36,37,38,39,40,41,42,43,44,45],[29,30,31,34,35,36,37,38,39,40,41,42,43,44,45],[30,31,34,35,36,37,38,39,40,41,42,43,44,45],[31,34,35,36,37,38,39,40,41,42,43,44,45],[34,35,36,37,38,39,40,41,42,43,44,45],[33,34,35,36,37,38,39,40,41,42,43,44,45],[34,35,36,37,38,39,40,41,42,43,44,45],[35,36,37,38,39,40,41,42,43,44,45],[36,37,38,39,40,41,42,43,44,45],[37,38,39,40,41,42,43,44,45],[39,42,43,44,45],[39,42,43,44,45],[42,43,44,45],[42,43,44,45],[42,43,44,45],[43,44,45],[44,45],[45],[]] (fun w' : World => Kp0 w16.drew w') (.quiet 0 (.quiet 1 (.quiet 2 (.quiet 3 (.quiet 4 (.quiet 5 (.quiet 6 (.quiet 7 (.quiet 8 (.quiet 9 (.quiet 10 (.quiet 11 (.quiet 12 (.quiet 13 (.quiet 14 (.quiet 15 (.quiet 16 (.quiet 17 (.quiet 18 (.quiet 19 (.quiet 20 (.quiet 21 (.quiet 22 (.quiet 23 (.quiet 24 (.quiet 25 (.quiet 26 (.quiet 27 (.quiet 28 (.quiet 29 (.quiet 30 (.quiet 31 (.quiet 32 (.quiet 33 (.quiet 34 (.quiet 35 (.quiet 36 (.quiet 37 (.quiet 38 (.quiet 40 (.quiet 41 (.eff 39 (.eff 42 (.quiet 43 (.quiet 44 (.quiet 45 .done)))))))))))))))))))))))))))))))))))))))))))))) (by kernel_rfl) (by kernel_rfl) (by kernel_rfl) (by kernel_rfl) (fun _ d _ _ _ h => by cases d <;> exact h) HK0.out ?_
          iterate 38 (refine px_quiet (v := ?_) rfl (by rfl) (fun wq hwq => ?_) rfl ?_; rotate_left 1; (focus (go_simp; try (with_reducible rfl); done)); try simp only [List.setIfInBounds_toArray, List.set_cons_zero, List.set_cons_succ])
          refine px_quiet (v := .agg (bys b).toArray) rfl (by rfl) (fun wq hwq => run_load_blk 23 (.tmp 5) rfl w.heap.size _ (bys b) rfl (HBb16.out.kp0 ((Kp.refl _ _).drew.tr hwq)) _ Tryd.underlying23 rfl (info16 HBL.out)) rfl ?_
          try simp only [List.setIfInBounds_toArray, List.set_cons_zero, List.set_cons_succ]
          iterate 1 (refine px_quiet (v := ?_) rfl (by rfl) (fun wq hwq => ?_) rfl ?_; rotate_left 1; (focus (go_simp; try (with_reducible rfl); done)); try simp only [List.setIfInBounds_toArray, List.set_cons_zero, List.set_cons_succ])
          refine px_quiet (v := .agg (bys b).toArray) rfl (by rfl) (fun wq hwq => run_load_blk 23 (.tmp 5) rfl w.heap.size _ (bys b) rfl (HBb16.out.kp0 ((Kp.refl _ _).drew.tr hwq)) _ Tryd.underlying23 rfl (info16 HBL.out)) rfl ?_
          try simp only [List.setIfInBounds_toArray, List.set_cons_zero, List.set_cons_succ]
          obtain ⟨last3, hs3, _⟩ := HA16.out
          obtain ⟨last4, hs4, _⟩ := HA16b.out
          have HS3 := Lib.hid hs3
          have HS4 := Lib.hid hs4
          clear hs3 hs4
          refine px_eff rfl (by rfl) (fun K hK => ?_)
          go_simp
          refine (blk_any g ks _ _ _ b _ (HS3.out.kp0 (Kp.refl _ _).drew) HBL.out ((HQ.out.kp0 HK16.out).kp0 (Kp.refl _ _).drew)).mono ?_
          rintro e z1 ⟨rfl, hk⟩
          simp only []
          have HZ1 : Hid (Kp0 w16.drew z1) := Lib.hid hk
          clear hk
          refine hK (fun w' : World => Kp0 w16.drew w') _ _ (fun x h => h) HZ1.out ?_
          clear hK K
          refine px_eff rfl (by rfl) (fun K hK => ?_)
          go_simp
          refine (blk_any g2 ks _ _ _ b _ ((HS4.out.kp0 (Kp.refl _ _).drew).kp0 HZ1.out) HBL.out (((HQ.out.kp0 HK16.out).kp0 (Kp.refl _ _).drew).kp0 HZ1.out)).mono ?_
          rintro e z2 ⟨rfl, hk⟩
          simp only []
          have HZ2 : Hid (Kp0 w16.drew z2) := Lib.hid (HZ1.out.tr hk)
          clear hk
          refine hK (fun w' : World => Kp0 w16.drew w') _ _ (fun x h => h) HZ2.out ?_
          clear hK K
          repeat (refine px_quiet (v := ?_) rfl (by rfl) (fun wq hwq => ?_) rfl ?_; rotate_left 1; (focus (go_simp; try (with_reducible rfl); done)); try simp only [List.setIfInBounds_toArray, List.set_cons_zero, List.set_cons_succ])
          refine px_done ?_
          go_wp2
          go_ret
          exact ⟨rfl, HK16.out.tr ((Kp.refl _ w16).drew.tr HZ2.out)⟩
  · have b1 : ((lk.length : Int) != 16) = true := by rw [bne_iff_ne]; omega
    clear h
    go_wp2
    go_ret
    exact ⟨rfl, HK2.out⟩
end Go.Proofs.YtomlednobmaaeaaDoor
