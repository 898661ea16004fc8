/- The reference's block, walked. -/
import Derived.Test.YtomlednobmaaeaaDoorRfF2
namespace Go.Proofs.YtomlednobmaaeaaDoor
open Go Go.RowKit
attribute [local irreducible] wB wP WC cR kyW aesK sbT n176 n256 colsW sB uB sN mB PS nz16 tmR
set_option maxRecDepth 20000 in
set_option maxHeartbeats 8000000 in
theorem rblk_any (vk : Value) (key b : List UInt8) (w : World) (hk : Rd w vk (bys key)) (hkl : key.length = 16) (hbl : b.length = 16) :
    Calls Tryd.prog 12 #[vk, .agg (bys b).toArray] w fun e w' => e = .returned (.agg (bys (aesK (kyW (colsW key)) b)).toArray) ∧ Kp0 w w' := by
  obtain ⟨bk, ok, ck, rfl, _, _, _⟩ := hk.posB (by omega)
  have HK := Lib.hid hk.range
  have HKEY : Hid (∀ i k, i < 4 → k < 4 → _) := Lib.hid (fun i k (hi : i < 4) (hk : k < 4) => w_key hkl hi hk)
  obtain ⟨c, hc⟩ : ∃ c, c = colsW key := ⟨_, rfl⟩
  have hc4 : c.length = 4 := by rw [hc]; exact colsW_len hkl
  rw [← hc] at HKEY ⊢
  have HC := Lib.hid hc4
  have HBL := Lib.hid hbl
  rw [hkl]
  clear hc hc4 hk hkl hbl
  go_enter Tryd.func12, Tryd.ntmps12
  go_upto_region 1 with (fail)
  have HB0 : Hid (Bks w ((w.alloc (.cells (bys b).toArray 23)).alloc (.cells (bys z16).toArray 23)) [(w.heap.size, 23, bys b), (w.heap.size + 1, 23, bys z16)]) := Lib.hid (((Bks.nil w).push 23 (bys b) rfl).push 23 (bys z16) (by simp))
  change Code.wp _ _ _ _ ((w.alloc (.cells (bys b).toArray 23)).alloc (.cells (bys z16).toArray 23))
  generalize ((w.alloc (.cells (bys b).toArray 23)).alloc (.cells (bys z16).toArray 23)) = w1 at HB0 ⊢
  go_upto_region 2 with (first
    | (go_at_call 20; refine (rot_tab _).mono ?_; rintro e w2 ⟨rfl, hk⟩; have HB1 := Lib.hid (HB0.out.kp0 hk); clear hk)
    | (refine wl_alloc_as as256 rfl rfl ?_
       intro w3 g5 hw hg
       have HB2 : Hid (Bks w w3 [(w.heap.size, 23, bys b), (w.heap.size + 1, 23, bys z16), (g5, 52, i64v n256)]) := Lib.hid (by rw [hw]; exact HB1.out.push 52 (i64v n256) hg)
       clear hw hg)
    | (refine wl_store_blk rfl 52 (.tmp 5) (.tmp 20) rfl g5 _ (i64v n256) (i64v sbT) rfl rfl (HB2.out.at 2 rfl) (info256 sbT_len) (len_of (T := 52) (info256 (by rw [n256]; exact List.length_replicate)) (info256 sbT_len)) (kis_ones _ _) ?_
       intro w4 hA hK
       have HB3 := Lib.hid (HB2.out.store 2 rfl hA hK)
       clear hA hK))
  go_upto_region 3 with (refine wl_alloc_as as176 rfl rfl ?_
                         intro w5 g6 hw hg
                         have HB4 : Hid (Bks w w5 [(w.heap.size, 23, bys b), (w.heap.size + 1, 23, bys z16), (g5, 52, i64v sbT), (g6, 55, i64v n176)]) := Lib.hid (by rw [hw]; exact HB3.out.push 55 (i64v n176) hg)
                         clear hw hg)
  simp only [Act.put]
  clear HB0 HB1 HB2 HB3
  go_wp2
  go_loopg [7, 8] 44 (fun g x y wr => ∃ (n : Nat), x = .int .i64 ((cR n : Nat) : Int) ∧ y = .int .i64 (n : Int) ∧ n ≤ 44 ∧ g = 44 - n ∧ Bks w wr [(w.heap.size, 23, bys b), (w.heap.size + 1, 23, bys z16), (g5, 52, i64v sbT), (g6, 55, i64v (WC c n 0))])
  case atStart => exact ⟨0, by rw [cR]; rfl, rfl, by omega, rfl, by rw [WC_zero]; exact HB4.out⟩
  case round =>
    obtain ⟨i, rfl, rfl, hn, rfl, hr⟩ := hrel
    have HB1 := Lib.hid hr
    clear hr HB4
    by_cases h : i < 44
    · have hi44 : (i : Int) < 44 := by omega
      go_wp2
      go_loopg [9] 4 (fun g y wr => ∃ (k : Nat), y = .int .i64 (k : Int) ∧ k ≤ 4 ∧ g = 4 - k ∧ Bks w wr [(w.heap.size, 23, bys b), (w.heap.size + 1, 23, bys z16), (g5, 52, i64v sbT), (g6, 55, i64v (WC c i k))])
      case atStart => exact ⟨0, rfl, by omega, rfl, HB1.out⟩
      case round =>
        obtain ⟨k, rfl, hk, rfl, hr⟩ := hrel
        have HB2 := Lib.hid hr
        clear hr HB1
        by_cases h2 : k < 4
        · have hk4 : (k : Int) < 4 := by omega
          have HSET := Lib.hid (WC_set c h h2)
          have hcn := (HB2.out.at 3 rfl).cellV (i * 4 + k) (i64v_get (WC_new c h h2))
          have hfn := blk_frozen (HB2.out.at 3 rfl) (i * 4 + k)
          by_cases h4 : i < 4
          · obtain ⟨x, hx1, hx2⟩ := HKEY.out i k h4 h2
            have hi4 : (i : Int) < 4 := by omega
            obtain ⟨m, hm⟩ : ∃ m, m = 4 * i + k := ⟨_, rfl⟩
            rw [← hm] at hx1
            have hm1 : 4 * (i : Int) + (k : Int) = (m : Int) := by omega
            have hm2 : (m : Int) < 16 := by omega
            have hck := (((Kp.refl (fun _ => False) w).tr HB2.out.kp).cell (HK.out m _ (bys_getV hx1)) (fun h => h))
            rw [hx2] at hck
            have hw8 : IntKind.i64.wrap ((wP c i k : Nat) : Int) = ((wP c i k : Nat) : Int) := wrapI _ (by have := wP_lt c i k; omega)
            clear hx1 hx2 hm h h2
            go_upto_region 11 with (fail)
            go_region
            go_wp2
            go_roundg (4 - (k + 1))
            case measure => omega
            case rel =>
              refine ⟨k + 1, by go_num, by omega, rfl, ?_⟩
              have hs := HB2.out.drew.set 3 rfl (i * 4 + k) (.int .i64 ((wP c i k : Nat) : Int))
              rw [i64v_set, HSET.out] at hs
              exact hs
          · have hi4 : ¬ (i : Int) < 4 := by omega
            obtain ⟨i4, e4⟩ : ∃ j, j = i - 4 := ⟨_, rfl⟩
            obtain ⟨i1, e1⟩ : ∃ j, j = i - 1 := ⟨_, rfl⟩
            have hi4' : (i : Int) - 4 = (i4 : Int) := by omega
            have hi1' : (i : Int) - 1 = (i1 : Int) := by omega
            have hi4b : (i4 : Int) < 44 := by omega
            have hi1b : (i1 : Int) < 44 := by omega
            have hco := (HB2.out.at 3 rfl).cellV (i4 * 4 + k) (i64v_get (WC_old c (i := i) (k := k) (by omega) (j := i4) (by omega) h2))
            by_cases hm : i % 4 = 0
            · have htm : (i : Int).tmod 4 = 0 := by rw [Int.tmod_eq_emod_of_nonneg (by omega)]; omega
              obtain ⟨y, hy1, hy2⟩ := w_sub HC.out (i := i) (k := k) (by omega) h hm h2
              rw [← e4] at hy2
              obtain ⟨k1, ek1⟩ : ∃ j, j = (k + 1) % 4 := ⟨_, rfl⟩
              rw [← e1, ← ek1] at hy1
              have hk1 : ((k : Int) + 1).tmod 4 = (k1 : Int) := by rw [Int.tmod_eq_emod_of_nonneg (by omega)]; omega
              have hk1b : (k1 : Int) < 4 := by omega
              have hco2 := (HB2.out.at 3 rfl).cellV (i1 * 4 + k1) (i64v_get (WC_old c (i := i) (k := k) (by omega) (j := i1) (by omega) (l := k1) (by omega)))
              have hct := (HB2.out.at 2 rfl).cellV (wB c i1 k1) (i64v_get hy1)
              have hwl : ((wB c i1 k1 : Nat) : Int) < 256 := by have := wB_lt c i1 k1; omega
              clear hy1 e4 e1 ek1 hm h h2
              go_upto_region 14 with (fail)
              go_region
              go_wp2
              go_roundg (4 - (k + 1))
              case measure => omega
              case rel =>
                refine ⟨k + 1, by go_num, by omega, rfl, ?_⟩
                have hs := HB2.out.drew.set 3 rfl (i * 4 + k) (.int .i64 ((wP c i k : Nat) : Int))
                rw [i64v_set, HSET.out] at hs
                exact hs
            · obtain ⟨q, hq⟩ : ∃ q, q = i % 4 := ⟨_, rfl⟩
              have htm : (i : Int).tmod 4 = (q : Int) := by rw [Int.tmod_eq_emod_of_nonneg (by omega)]; omega
              have hq0 : 0 < (q : Int) := by omega
              have hv := w_xor HC.out (i := i) (k := k) (by omega) h hm
              rw [← e4, ← e1] at hv
              have hco2 := (HB2.out.at 3 rfl).cellV (i1 * 4 + k) (i64v_get (WC_old c (i := i) (k := k) (by omega) (j := i1) (by omega) h2))
              clear e4 e1 hq hm h h2
              go_upto_region 13 with (fail)
              go_region
              go_wp2
              go_roundg (4 - (k + 1))
              case measure => omega
              case rel =>
                refine ⟨k + 1, by go_num, by omega, rfl, ?_⟩
                have hs := HB2.out.drew.set 3 rfl (i * 4 + k) (.int .i64 ((wP c i k : Nat) : Int))
                rw [i64v_set, HSET.out] at hs
                exact hs
        · obtain rfl : k = 4 := by omega
          clear h2 hk
          by_cases hcd : 4 ≤ i ∧ i % 4 = 0
          · have hge : 4 ≤ (i : Int) := by omega
            have htm : (i : Int).tmod 4 = 0 := by rw [Int.tmod_eq_emod_of_nonneg (by omega)]; omega
            have hc1 := (HB2.out.at 3 rfl).cellV (i * 4) (i64v_get (WC_head h))
            have hf1 := blk_frozen (HB2.out.at 3 rfl) (i * 4)
            have hv := w_pow (c := c) hcd.1 hcd.2
            have HSET := Lib.hid (WC_c (c := c) h hcd.1 hcd.2)
            have HPW := Lib.hid (cR_pow hcd.1 hcd.2)
            have HB3 := Lib.hid (HB2.out.set 3 rfl (i * 4) (.int .i64 ((wB c i 0 : Nat) : Int))).drew
            clear hcd h
            go_upto_region 16 with (fail)
            go_region
            go_upto_region 17 with (fail)
            go_wp2_with (go_at_call 21; refine (rtm_any (cR i) 2 _ (cR_lt i) (by omega)).mono ?_; rintro e z1 ⟨rfl, hk⟩; have HB4 := Lib.hid (HB3.out.kp0 hk); clear hk)
            go_roundg (44 - (i + 1))
            case measure => omega
            case rel =>
              refine ⟨i + 1, by rw [HPW.out], by go_num, by omega, rfl, ?_⟩
              have hs := HB4.out
              rw [i64v_set, HSET.out] at hs
              exact hs
          · have HN := Lib.hid (WC_next (c := c) hcd)
            have HP := Lib.hid (cR_same hcd)
            by_cases h4 : 4 ≤ i
            · have hge : 4 ≤ (i : Int) := by omega
              obtain ⟨q, hq⟩ : ∃ q, q = i % 4 := ⟨_, rfl⟩
              have htm : (i : Int).tmod 4 = (q : Int) := by rw [Int.tmod_eq_emod_of_nonneg (by omega)]; omega
              have hq0 : ((q : Int) == 0) = false := by rw [beq_eq_false_iff_ne]; omega
              clear hcd hq h h4
              go_wp2
              go_roundg (44 - (i + 1))
              case measure => omega
              case rel => exact ⟨i + 1, by rw [HP.out], by go_num, by omega, rfl, by rw [← HN.out]; exact HB2.out⟩
            · have hge : (i : Int) < 4 := by omega
              clear hcd h h4
              go_wp2
              go_roundg (44 - (i + 1))
              case measure => omega
              case rel => exact ⟨i + 1, by rw [HP.out], by go_num, by omega, rfl, by rw [← HN.out]; exact HB2.out⟩
    · obtain rfl : i = 44 := by omega
      clear HKEY HK h hn
      go_upto_region 19 with (refine wl_alloc_as as16 rfl rfl ?_
                              intro w7 g10 hw hg
                              have HB2 : Hid (Bks w w7 [(w.heap.size, 23, bys b), (w.heap.size + 1, 23, bys z16), (g5, 52, i64v sbT), (g6, 55, i64v (WC c 44 0)), (g10, 57, i64v nz16)]) := Lib.hid (by rw [hw]; exact HB1.out.push 57 (i64v nz16) hg)
                              clear hw hg)
      simp only [Act.put]
      clear HB1
      have HB3 : Hid (Bks w w7 [(w.heap.size, 23, bys b), (w.heap.size + 1, 23, bys z16), (g5, 52, i64v sbT), (g6, 55, i64v (WC c 44 0)), (g10, 57, i64v (PS (sB b c 0) 0))]) := Lib.hid (by rw [PS_zero]; exact HB2.out)
      clear HB2
      go_wp2
      go_loopg [11] 16 (fun g y wr => ∃ (n : Nat), y = .int .i64 (n : Int) ∧ n ≤ 16 ∧ g = 16 - n ∧ Bks w wr [(w.heap.size, 23, bys b), (w.heap.size + 1, 23, bys z16), (g5, 52, i64v sbT), (g6, 55, i64v (WC c 44 0)), (g10, 57, i64v (PS (sB b c 0) n))])
      case atStart => exact ⟨0, rfl, by omega, rfl, HB3.out⟩
      case round =>
        obtain ⟨n, rfl, hn, rfl, hr⟩ := hrel
        have HB4 := Lib.hid hr
        clear hr HB3
        by_cases h : n < 16
        · obtain ⟨x, hx1, hx2⟩ := first_val (c := c) HBL.out HC.out n h
          obtain ⟨q, hq⟩ : ∃ q, q = n / 4 := ⟨_, rfl⟩
          obtain ⟨r, hr⟩ : ∃ r, r = n % 4 := ⟨_, rfl⟩
          rw [← hq, ← hr] at hx2
          have hq1 : (n : Int).tdiv 4 = (q : Int) := by rw [Int.tdiv_eq_ediv_of_nonneg (by omega)]; omega
          have hr1 : (n : Int).tmod 4 = (r : Int) := by rw [Int.tmod_eq_emod_of_nonneg (by omega)]; omega
          have hq2 : (q : Int) < 44 := by omega
          have hr2 : (r : Int) < 4 := by omega
          have hn16 : (n : Int) < 16 := by omega
          have hcb := (HB4.out.at 0 rfl).cellV n (bys_getV hx1)
          have hcw := (HB4.out.at 3 rfl).cellV (q * 4 + r) (i64v_get (WC_all c (j := q) (l := r) (by omega) (by omega)))
          have hcs := (HB4.out.at 4 rfl).cellV n (i64v_get (PS_new (sB b c 0) h))
          have hfs := blk_frozen (HB4.out.at 4 rfl) n
          have hw8 : IntKind.i64.wrap (x.toNat : Int) = (x.toNat : Int) := wrapI _ (by have := x.toNat_lt; omega)
          have HSET := Lib.hid (PS_set (sB b c 0) h)
          clear hx1 hq hr h
          go_upto_region 22 with (fail)
          go_region
          go_wp2
          go_roundg (16 - (n + 1))
          case measure => omega
          case rel =>
            refine ⟨n + 1, by go_num, by omega, rfl, ?_⟩
            have hs := HB4.out.drew.set 4 rfl n (.int .i64 ((sB b c 0 n : Nat) : Int))
            rw [i64v_set, HSET.out] at hs
            exact hs
        · obtain rfl : n = 16 := by omega
          rw [PS_all] at HB4
          have HB5 : Hid (Bks w wr [(w.heap.size, 23, bys b), (w.heap.size + 1, 23, bys z16), (g5, 52, i64v sbT), (g6, 55, i64v (WC c 44 0)), (g10, 57, i64v (rm 16 (sN b c 0)))]) := Lib.hid (by rw [show sN b c 0 = sB b c 0 from funext fun i => sN_sB (by omega) i]; exact HB4.out)
          clear HB4 h hn
          go_wp2
          go_loopg [12] 10 (fun g y wr => ∃ (n : Nat), y = .int .i64 ((n + 1 : Nat) : Int) ∧ n ≤ 10 ∧ g = 10 - n ∧ Bks w wr [(w.heap.size, 23, bys b), (w.heap.size + 1, 23, bys z16), (g5, 52, i64v sbT), (g6, 55, i64v (WC c 44 0)), (g10, 57, i64v (rm 16 (sN b c n)))])
          case atStart => exact ⟨0, rfl, by omega, rfl, HB5.out⟩
          case round =>
            obtain ⟨n, rfl, hn, rfl, hr⟩ := hrel
            have HB6 := Lib.hid hr
            clear hr HB5
            obtain ⟨rr, hrr⟩ : ∃ rr, rr = n + 1 := ⟨_, rfl⟩
            rw [← hrr]
            have HRR := Lib.hid hrr
            by_cases h : n < 10
            · have hr11 : (rr : Int) ≤ 10 := by omega
              clear hrr
              go_upto_region 27 with (first
                | (have HB8 := HB7
                   refine wl_alloc_as as16 rfl rfl ?_
                   intro wv g14 hw hg
                   have HB9 : Hid (Bks w wv [(w.heap.size, 23, bys b), (w.heap.size + 1, 23, bys z16), (g5, 52, i64v sbT), (g6, 55, i64v (WC c 44 0)), (g10, 57, i64v (rm 16 (sN b c n))), (g13, 57, i64v (PS (uB b c n) 0)), (g14, 57, i64v (PS (sN b c (n + 1)) 0))]) := Lib.hid (by rw [hw, PS_zero, PS_zero]; exact HB8.out.push 57 (i64v nz16) hg)
                   clear hw hg HB7 HB8)
                | (refine wl_alloc_as as16 rfl rfl ?_
                   intro wu g13 hw hg
                   have HB7 : Hid (Bks w wu [(w.heap.size, 23, bys b), (w.heap.size + 1, 23, bys z16), (g5, 52, i64v sbT), (g6, 55, i64v (WC c 44 0)), (g10, 57, i64v (rm 16 (sN b c n))), (g13, 57, i64v nz16)]) := Lib.hid (by rw [hw]; exact HB6.out.push 57 (i64v nz16) hg)
                   clear hw hg))
              simp only [Act.put]
              go_wp2
              go_loopg [15] 16 (fun g y wr => ∃ (i : Nat), y = .int .i64 (i : Int) ∧ i ≤ 16 ∧ g = 16 - i ∧ Bks w wr [(w.heap.size, 23, bys b), (w.heap.size + 1, 23, bys z16), (g5, 52, i64v sbT), (g6, 55, i64v (WC c 44 0)), (g10, 57, i64v (rm 16 (sN b c n))), (g13, 57, i64v (PS (uB b c n) i)), (g14, 57, i64v (PS (sN b c (n + 1)) 0))])
              case atStart => exact ⟨0, rfl, by omega, rfl, HB9.out⟩
              case round =>
                obtain ⟨i, rfl, hi, rfl, hr⟩ := hrel
                have HBA := Lib.hid hr
                clear hr HB9 HB6
                by_cases h2 : i < 16
                · obtain ⟨r, hr⟩ : ∃ r, r = i % 4 := ⟨_, rfl⟩
                  obtain ⟨pp, hp⟩ : ∃ pp, pp = (i + 4 * r) % 16 := ⟨_, rfl⟩
                  have hv := sub_val (b := b) (c := c) n i
                  rw [← hr, ← hp] at hv
                  have hr1 : (i : Int).tmod 4 = (r : Int) := by rw [Int.tmod_eq_emod_of_nonneg (by omega)]; omega
                  have hp1 : ((i : Int) + 4 * (r : Int)).tmod 16 = (pp : Int) := by rw [Int.tmod_eq_emod_of_nonneg (by omega)]; omega
                  have hr2 : (r : Int) < 4 := by omega
                  have hp2 : (pp : Int) < 16 := by omega
                  have hi16 : (i : Int) < 16 := by omega
                  have hcs := (HBA.out.at 4 rfl).cellV pp (i64v_get (rm_get (sN b c n) (by omega)))
                  rw [sN_sB h] at hcs
                  have hct := (HBA.out.at 2 rfl).cellV (sB b c n pp) (i64v_get hv)
                  have hsl : ((sB b c n pp : Nat) : Int) < 256 := by have := sB_lt b c n pp; omega
                  have hcu := (HBA.out.at 5 rfl).cellV i (i64v_get (PS_new (uB b c n) h2))
                  have hfu := blk_frozen (HBA.out.at 5 rfl) i
                  have HSET := Lib.hid (PS_set (uB b c n) h2)
                  have HH := Lib.hid h
                  clear hv hr hp h2 h
                  go_wp2
                  go_roundg (16 - (i + 1))
                  case measure => omega
                  case rel =>
                    refine ⟨i + 1, by go_num, by omega, rfl, ?_⟩
                    have hs := HBA.out.set 5 rfl i (.int .i64 ((uB b c n i : Nat) : Int))
                    rw [i64v_set, HSET.out] at hs
                    exact hs
                · obtain rfl : i = 16 := by omega
                  rw [PS_all] at HBA
                  clear h2 hi
                  go_wp2
                  go_loopg [16] 16 (fun g y wr => ∃ (i : Nat), y = .int .i64 (i : Int) ∧ i ≤ 16 ∧ g = 16 - i ∧ Bks w wr [(w.heap.size, 23, bys b), (w.heap.size + 1, 23, bys z16), (g5, 52, i64v sbT), (g6, 55, i64v (WC c 44 0)), (g10, 57, i64v (rm 16 (sN b c n))), (g13, 57, i64v (rm 16 (uB b c n))), (g14, 57, i64v (PS (sN b c (n + 1)) i))])
                  case atStart => exact ⟨0, rfl, by omega, rfl, HBA.out⟩
                  case round =>
                    obtain ⟨i, rfl, hi, rfl, hr⟩ := hrel
                    have HBC := Lib.hid hr
                    clear hr HBA
                    by_cases h2 : i < 16
                    · obtain ⟨r, hr⟩ : ∃ r, r = i % 4 := ⟨_, rfl⟩
                      obtain ⟨q, hq⟩ : ∃ q, q = i / 4 := ⟨_, rfl⟩
                      obtain ⟨ba, hba⟩ : ∃ ba, ba = i - r := ⟨_, rfl⟩
                      have hr1 : (i : Int).tmod 4 = (r : Int) := by rw [Int.tmod_eq_emod_of_nonneg (by omega)]; omega
                      have hq1 : (i : Int).tdiv 4 = (q : Int) := by rw [Int.tdiv_eq_ediv_of_nonneg (by omega)]; omega
                      have hba1 : (i : Int) - (r : Int) = (ba : Int) := by omega
                      have hi16 : (i : Int) < 16 := by omega
                      have hr2 : (r : Int) < 4 := by omega
                      have HSET := Lib.hid (PS_set (sN b c (n + 1)) h2)
                      have HB16 := Lib.hid h2
                      have hcu := (HBC.out.at 5 rfl).cellV i (i64v_get (rm_get (uB b c n) h2))
                      have hcv := (HBC.out.at 6 rfl).cellV i (i64v_get (PS_new (sN b c (n + 1)) h2))
                      have hfv := blk_frozen (HBC.out.at 6 rfl) i
                      have hrr := HRR.out
                      obtain ⟨jj, hjj⟩ : ∃ jj, jj = 4 * rr + q := ⟨_, rfl⟩
                      have hjj1 : 4 * (rr : Int) + (q : Int) = (jj : Int) := by omega
                      have hjj2 : (jj : Int) < 44 := by omega
                      clear hrr
                      have HJ := Lib.hid hjj
                      have HQ := Lib.hid hq
                      have HR := Lib.hid hr
                      have HBA := Lib.hid hba
                      by_cases h9 : n < 9
                      · have hr10 : (rr : Int) < 10 := by have hrr := HRR.out; omega
                        have HN9 := Lib.hid h9
                        clear hjj hq hr hba h2 h9 h hn
                        go_upto_region 37 with (fail)
                        have HBD := Lib.hid (HBC.out.set 6 rfl i (.int .i64 ((uB b c n i : Nat) : Int)))
                        generalize hwz : (wr.setCell ⟨g14, i, none⟩ (.int .i64 ((uB b c n i : Nat) : Int))) = wz at HBD ⊢
                        clear hwz hcu hcv hfv HBC
                        obtain ⟨a1, a2, a3, j1, j2, j3, ⟨t1, t2, t3⟩, ⟨u1, u2, u3⟩, ⟨x1, x2, x3⟩, ⟨y1, y2, y3⟩, ⟨z1, z2, z3⟩, ⟨n0, n1, n2, n3⟩, me⟩ := col_ix b c n HB16.out HR.out HBA.out
                        have q0 : ∀ wq, Kp0 wz.drew wq → wq.cell? ⟨g13, i, none⟩ = some (.int .i64 ((uB b c n i : Nat) : Int)) := fun wq hk => ((HBD.out.drew.kp0 hk).at 5 rfl).cellV i (i64v_get (rm_get (uB b c n) n0))
                        have q1 : ∀ wq, Kp0 wz.drew wq → wq.cell? ⟨g13, j1, none⟩ = some (.int .i64 ((uB b c n j1 : Nat) : Int)) := fun wq hk => ((HBD.out.drew.kp0 hk).at 5 rfl).cellV j1 (i64v_get (rm_get (uB b c n) n1))
                        have q2 : ∀ wq, Kp0 wz.drew wq → wq.cell? ⟨g13, j2, none⟩ = some (.int .i64 ((uB b c n j2 : Nat) : Int)) := fun wq hk => ((HBD.out.drew.kp0 hk).at 5 rfl).cellV j2 (i64v_get (rm_get (uB b c n) n2))
                        have q3 : ∀ wq, Kp0 wz.drew wq → wq.cell? ⟨g13, j3, none⟩ = some (.int .i64 ((uB b c n j3 : Nat) : Int)) := fun wq hk => ((HBD.out.drew.kp0 hk).at 5 rfl).cellV j3 (i64v_get (rm_get (uB b c n) n3))
                        have m1 := mix_val1 b c n i j1
                        have m2 := mix_val2 b c n j2 _ (mx_lt1 b c n i j1)
                        have m3 := mix_val2 b c n j3 _ (mx_lt2 b c n i j1 j2)
                        rw [← me] at m3
                        clear me n0 n1 n2 n3
                        have HK0 : Hid (Kp0 wz.drew wz.drew) := Lib.hid (Kp.refl _ _)
                        refine wp_region_px 32 [31] (fun w' : World => Kp0 wz.drew w') (.quiet 0 (.quiet 1 (.quiet 2 (.quiet 3 (.quiet 5 (.quiet 6 (.quiet 7 (.quiet 8 (.quiet 9 (.quiet 10 (.quiet 11 (.quiet 14 (.quiet 15 (.quiet 16 (.quiet 17 (.quiet 18 (.quiet 19 (.quiet 20 (.quiet 22 (.quiet 23 (.quiet 24 (.quiet 25 (.quiet 26 (.quiet 27 (.quiet 28 (.eff 4 (.eff 12 (.quiet 13 (.quiet 21 (.quiet 29 (.quiet 30 (.wall 31 .done)))))))))))))))))))))))))))))))) (by kernel_rfl) (by kernel_rfl) (by kernel_rfl) (by kernel_rfl) (fun _ d _ _ _ h => by cases d <;> exact h) HK0.out ?_
                        repeat (refine px_quiet (v := ?_) rfl (by rfl) (fun wq hwq => ?_) rfl ?_; rotate_left 1; (focus (go_simp; try (with_reducible rfl); done)); try simp only [List.setIfInBounds_toArray, List.set_cons_zero, List.set_cons_succ])
                        refine px_eff rfl (by rfl) (fun K hK => ?_)
                        go_simp
                        refine (rtm_any 2 (uB b c n i) _ (by omega) (uB_lt _ _ _ _)).mono ?_
                        rintro e za ⟨rfl, hk⟩
                        simp only []
                        have HKa : Hid (Kp0 wz.drew za) := Lib.hid (HK0.out.tr hk)
                        clear hk
                        refine hK (fun w' : World => Kp0 wz.drew w') _ _ (fun x h => h) HKa.out ?_
                        clear hK K
                        refine px_eff rfl (by rfl) (fun K hK => ?_)
                        go_simp
                        refine (rtm_any 3 (uB b c n j1) _ (by omega) (uB_lt _ _ _ _)).mono ?_
                        rintro e zb ⟨rfl, hk⟩
                        simp only []
                        have HKb : Hid (Kp0 wz.drew zb) := Lib.hid (HKa.out.tr hk)
                        clear hk
                        refine hK (fun w' : World => Kp0 wz.drew w') _ _ (fun x h => h) HKb.out ?_
                        clear hK K
                        repeat (refine px_quiet (v := ?_) rfl (by rfl) (fun wq hwq => ?_) rfl ?_; rotate_left 1; (focus (go_simp; try (with_reducible rfl); done)); try simp only [List.setIfInBounds_toArray, List.set_cons_zero, List.set_cons_succ])
                        have HBE := Lib.hid (HBD.out.kp0 ((Kp.refl _ _).drew.tr HKb.out))
                        clear q0 q1 q2 q3
                        have hcv := (HBE.out.at 6 rfl).cellV i (v := .int .i64 ((uB b c n i : Nat) : Int)) (by rw [List.getElem?_set_self (by rw [i64v_len, PS, rm_len]; exact HB16.out)])
                        have hfv := blk_frozen (HBE.out.at 6 rfl) i
                        refine px_wall rfl (by rfl) (fun K hK => ?_)
                        go_simp
                        refine hK (fun _ => True) _ _ trivial ?_
                        clear hK K
                        refine px_done ?_
                        have HBF := Lib.hid (HBE.out.set 6 rfl i (.int .i64 ((mB b c n i : Nat) : Int)))
                        clear hcv hfv m1 m2 m3 t1 t2 t3 u1 u2 u3 x1 x2 x3 y1 y2 y3 z1 z2 z3 HBD HBE
                        generalize (zb.setCell ⟨g14, i, none⟩ (.int .i64 ((mB b c n i : Nat) : Int))) = wy at HBF ⊢
                        have hcv := (HBF.out.at 6 rfl).cellV i (v := .int .i64 ((mB b c n i : Nat) : Int)) (by rw [List.getElem?_set_self (by rw [List.length_set, i64v_len, PS, rm_len]; exact HB16.out)])
                        have hfv := blk_frozen (HBF.out.at 6 rfl) i
                        have hcw := (HBF.out.at 3 rfl).cellV (jj * 4 + r) (i64v_get (WC_all c (j := jj) (l := r) (by have := hjj2; omega) (by have := hr2; omega)))
                        have hv := round_val HBL.out HC.out n i HN9.out HB16.out
                        rw [← HRR.out, ← HQ.out, ← HR.out, ← HJ.out] at hv
                        go_upto_region 38 with (fail)
                        go_region
                        go_wp2
                        go_roundg (16 - (i + 1))
                        case measure => have := HB16.out; omega
                        case rel =>
                          refine ⟨i + 1, by go_num, by have := HB16.out; omega, rfl, ?_⟩
                          have hs := HBF.out.set 6 rfl i (.int .i64 ((sN b c rr i : Nat) : Int))
                          have hS2 : (PS (sN b c (n + 1)) i).set i (sN b c rr i) = PS (sN b c (n + 1)) (i + 1) := by rw [HRR.out]; exact HSET.out
                          simp only [List.set_cons_succ, List.set_cons_zero] at hs
                          rw [set2, set2, i64v_set, hS2] at hs
                          exact hs.drew
                      · obtain rfl : n = 9 := by omega
                        obtain rfl : rr = 10 := HRR.out
                        have hv := last_val HBL.out HC.out i h2
                        rw [← hq, ← hr, ← (show jj = 40 + q by omega)] at hv
                        have hjj3 : (40 : Int) + (q : Int) = (jj : Int) := by omega
                        clear hjj hq hr hba h2 h9 h hn
                        go_upto_region 38 with (fail)
                        have HBF := Lib.hid (HBC.out.set 6 rfl i (.int .i64 ((uB b c 9 i : Nat) : Int)))
                        generalize hwz : (wr.setCell ⟨g14, i, none⟩ (.int .i64 ((uB b c 9 i : Nat) : Int))) = wy at HBF ⊢
                        clear hwz hcu hcv hfv HBC
                        have hcv := (HBF.out.at 6 rfl).cellV i (v := .int .i64 ((uB b c 9 i : Nat) : Int)) (by rw [List.getElem?_set_self (by rw [i64v_len, PS, rm_len]; exact HB16.out)])
                        have hfv := blk_frozen (HBF.out.at 6 rfl) i
                        have hcw := (HBF.out.at 3 rfl).cellV (jj * 4 + r) (i64v_get (WC_all c (j := jj) (l := r) (by have := hjj2; omega) (by have := hr2; omega)))
                        go_region
                        go_wp2
                        go_roundg (16 - (i + 1))
                        case measure => have := HB16.out; omega
                        case rel =>
                          refine ⟨i + 1, by go_num, by have := HB16.out; omega, rfl, ?_⟩
                          have hs := HBF.out.set 6 rfl i (.int .i64 ((sN b c 10 i : Nat) : Int))
                          have hS2 : (PS (sN b c 10) i).set i (sN b c 10 i) = PS (sN b c 10) (i + 1) := HSET.out
                          simp only [List.set_cons_succ, List.set_cons_zero] at hs
                          rw [set2, i64v_set, hS2] at hs
                          exact hs.drew
                    · obtain rfl : i = 16 := by omega
                      rw [PS_all] at HBC
                      have HL16 : Hid ((rm 16 (sN b c (n + 1))).length = 16) := Lib.hid (rm_len _ _)
                      have HL17 : Hid ((rm 16 (sN b c n)).length = 16) := Lib.hid (rm_len _ _)
                      obtain ⟨S1, hS1⟩ : ∃ S, S = rm 16 (sN b c (n + 1)) := ⟨_, rfl⟩
                      rw [← hS1] at HBC HL16
                      have HS1 := Lib.hid hS1
                      have HNN := Lib.hid h
                      clear h2 hi hS1 h hn
                      go_wp2_with (first
                        | (refine wl_load_blk rfl 57 (.tmp 14) rfl g14 _ (i64v S1) rfl (HBC.out.at 6 rfl) _ Tryd.underlying57 rfl (infoS HL16.out) ?_)
                        | (refine wl_store_blk rfl 57 (.tmp 10) (.tmp 202) rfl g10 _ (i64v (rm 16 (sN b c n))) (i64v S1) rfl rfl (HBC.out.at 4 rfl) (infoS HL16.out) (len_of (T := 57) (infoS HL17.out) (infoS HL16.out)) (kis_ones _ _) ?_
                           intro wx hA hK
                           have HBG : Hid (Bks w wx [(w.heap.size, 23, bys b), (w.heap.size + 1, 23, bys z16), (g5, 52, i64v sbT), (g6, 55, i64v (WC c 44 0)), (g10, 57, i64v S1)]) := Lib.hid ((HBC.out.store 4 rfl hA hK).take 5)
                           clear hA hK))
                      have hrr := HRR.out
                      go_roundg (10 - (n + 1))
                      case measure => have := HNN.out; omega
                      case rel => exact ⟨n + 1, by rw [hrr]; go_num, by have := HNN.out; omega, rfl, by rw [← HS1.out]; exact HBG.out⟩
            · obtain rfl : n = 10 := by omega
              obtain rfl : rr = 11 := HRR.out
              clear h hn hrr
              have HB7 : Hid (Bks w wr [(w.heap.size, 23, bys b), (w.heap.size + 1, 23, bys z16), (g5, 52, i64v sbT), (g6, 55, i64v (WC c 44 0)), (g10, 57, i64v (rm 16 (sN b c 10)))]) := Lib.hid HB6.out
              clear HB6
              go_upto_region 41 with (refine wl_alloc_as asB rfl rfl ?_
                                      intro wv g18 hw hg
                                      have HB8 : Hid (Bks w wv [(w.heap.size, 23, bys b), (w.heap.size + 1, 23, bys z16), (g5, 52, i64v sbT), (g6, 55, i64v (WC c 44 0)), (g10, 57, i64v (rm 16 (sN b c 10))), (g18, 23, bys z16)]) := Lib.hid (by rw [hw]; exact HB7.out.push 23 (bys z16) hg)
                                      clear hw hg HB7)
              simp only [Act.put]
              have HOUT : Hid ((aesK (kyW c) b).length = 16) := Lib.hid (aesK_len (kyW_len HC.out) b)
              have HSN : Hid (∀ i, i < 16 → sN b c 10 i = ((aesK (kyW c) b).getD i 0).toNat) := Lib.hid (fun i _ => by rw [sN, if_pos rfl])
              obtain ⟨rs, hrs⟩ : ∃ rs, rs = aesK (kyW c) b := ⟨_, rfl⟩
              rw [← hrs] at HOUT HSN
              have HRS := Lib.hid hrs
              clear hrs
              go_wp2
              go_loopg [19] 16 (fun g y wr => ∃ (i : Nat), y = .int .i64 (i : Int) ∧ i ≤ 16 ∧ g = 16 - i ∧ Bks w wr [(w.heap.size, 23, bys b), (w.heap.size + 1, 23, bys z16), (g5, 52, i64v sbT), (g6, 55, i64v (WC c 44 0)), (g10, 57, i64v (rm 16 (sN b c 10))), (g18, 23, bys (upT i z16 rs))])
              case atStart => exact ⟨0, rfl, by omega, rfl, by rw [upT_zero]; exact HB8.out⟩
              case round =>
                obtain ⟨i, rfl, hi, rfl, hr⟩ := hrel
                have HB9 := Lib.hid hr
                clear hr HB8
                by_cases h2 : i < 16
                · have hi16 : (i : Int) < 16 := by omega
                  obtain ⟨y, hy⟩ : ∃ y, y = rs.getD i 0 := ⟨_, rfl⟩
                  have hy1 : rs[i]? = some y := by rw [hy]; exact getD_some (by rw [HOUT.out]; exact h2) 0
                  have hst := upT_step (l := z16) (m := rs) (n := i) (x := 0) (by rw [HOUT.out]; rfl) (by unfold z16; rw [List.getElem?_replicate]; simp [h2]) hy1
                  have hcs := (HB9.out.at 4 rfl).cellV i (i64v_get (rm_get (sN b c 10) h2))
                  rw [HSN.out i h2, ← hy] at hcs
                  have hco := (HB9.out.at 5 rfl).cellV i (bys_getV hst.1)
                  have hfo := blk_frozen (HB9.out.at 5 rfl) i
                  have HST := Lib.hid hst.2
                  have hw1 : IntKind.u8.wrap (y.toNat : Int) = (y.toNat : Int) := by rw [IntKind.wrap_u8']; have := y.toNat_lt; omega
                  have hw2 : (y.toNat : Int) % 256 = (y.toNat : Int) := by have := y.toNat_lt; omega
                  clear hst hy hy1 h2
                  go_wp2
                  go_roundg (16 - (i + 1))
                  case measure => omega
                  case rel =>
                    refine ⟨i + 1, by go_num, by omega, rfl, ?_⟩
                    have hs := HB9.out.set 5 rfl i (.int .u8 (y.toNat : Int))
                    rw [bys_setV, HST.out] at hs
                    exact hs
                · obtain rfl : i = 16 := by omega
                  rw [upT_all (by decide) (by rw [HOUT.out]; exact Nat.le_refl _)] at HB9
                  clear HSN h2 hi
                  go_wp2_with (first
                    | (refine wl_load_blk rfl 23 (.tmp 18) rfl g18 _ (bys rs) rfl (HB9.out.at 5 rfl) _ Tryd.underlying23 rfl (info16 HOUT.out) ?_)
                    | (refine wl_store_blk rfl 23 (.tmp 4) (.tmp 213) rfl (w.heap.size + 1) _ (bys z16) (bys rs) rfl rfl (HB9.out.at 1 rfl) (info16 HOUT.out) (len_of (T := 23) (info16 (l := z16) rfl) (info16 HOUT.out)) (bys_onesV _) ?_
                       intro wx hA hK
                       have HA7 := Lib.hid hA
                       have HK7 : Hid (Kp0 w wx) := Lib.hid (HB9.out.store 1 rfl hA hK).kp
                       clear hA hK))
                  refine ret_blk 4 23 23 (w.heap.size + 1) (bys rs) _ rfl rfl HA7.out Tryd.underlying23 rfl (info16 HOUT.out) rfl ?_
                  exact ⟨by rw [HRS.out], HK7.out⟩
end Go.Proofs.YtomlednobmaaeaaDoor
