/- The reference's bytes: others, walked. -/
import Derived.Test.YtomlednobmaaeaaDoorRfB
namespace Go.Proofs.YtomlednobmaaeaaDoor
open Go Go.RowKit
theorem o1_step (n : Nat) : (o1 (n + 1)).1 = tmR 8 (o1 n).1 3 0 ∧ (o1 (n + 1)).2.1 = tmR 8 (o1 n).2.1 246 0 ∧ (o1 (n + 1)).2.2 = (o1 n).2.2.set (o1 n).1 (o1 n).2.1 := ⟨rfl, rfl, rfl⟩
theorem rp_val {x k s : Nat} (hx : x < 256) (hs : s = 8 - k) (hk : k < 5) : bits .or .i64 (bits .and .i64 ((x : Int) * 2 ^ k) 255) ((x : Int) / 2 ^ s) = ((rp x k : Nat) : Int) := by
  have hp : 2 ^ k ≤ 2 ^ 4 := Nat.pow_le_pow_right (by omega) (by omega)
  have h1 : x * 2 ^ k < 9223372036854775808 := by
    have : x * 2 ^ k ≤ 255 * 2 ^ 4 := Nat.mul_le_mul (by omega) hp
    omega
  have h2 : x / 2 ^ s < 9223372036854775808 := Nat.lt_of_le_of_lt (Nat.div_le_self _ _) (by omega)
  have e1 : (x : Int) * 2 ^ k = ((x * 2 ^ k : Nat) : Int) := by rw [Int.natCast_mul, Int.natCast_pow]; rfl
  have e2 : (x : Int) / 2 ^ s = ((x / 2 ^ s : Nat) : Int) := by rw [Int.natCast_ediv, Int.natCast_pow]; rfl
  have h3 : (x * 2 ^ k) &&& 255 < 2 ^ 8 := Nat.and_lt_two_pow _ (by omega)
  rw [e1, e2, show (255 : Int) = ((255 : Nat) : Int) from rfl, i_and _ _ h1 (by omega), i_or _ _ (by omega) h2, hs]
  rfl
theorem shl_wrap {x k : Nat} (hx : x < 256) (hk : k < 5) : IntKind.i64.wrap ((x : Int) * 2 ^ k) = (x : Int) * 2 ^ k := by
  have hp : 2 ^ k ≤ 2 ^ 4 := Nat.pow_le_pow_right (by omega) (by omega)
  have h1 : x * 2 ^ k ≤ 255 * 2 ^ 4 := Nat.mul_le_mul (by omega) hp
  have e1 : (x : Int) * 2 ^ k = ((x * 2 ^ k : Nat) : Int) := by rw [Int.natCast_mul, Int.natCast_pow]; rfl
  rw [e1]
  exact wrapI _ (by omega)
theorem ro_step1 (n : Nat) (hn : n < 255) : ∃ p q : Nat, (o1 n).1 = p ∧ (o1 n).2.1 = q ∧ p < 256 ∧ q < 256 ∧ (o1 n).2.2[p]? = some ((o1 n).2.2.getD p 0) ∧ (o1 n).2.2.set p q = (o1 (n + 1)).2.2 ∧ tmR 8 p 3 0 = (o1 (n + 1)).1 ∧ tmR 8 q 246 0 = (o1 (n + 1)).2.1 :=
  ⟨_, _, rfl, rfl, (o1_lt n).1, (o1_lt n).2.1, getD_some (by rw [(o1_lt n).2.2]; exact (o1_lt n).1) 0, rfl, rfl, rfl⟩
theorem invs_get (n : Nat) (hn : n < 256) : ∃ x, invs[n]? = some x ∧ x < 256 := by
  have hl : invs.length = 256 := (o1_lt 255).2.2
  refine ⟨_, getD_some (by omega) 0, ?_⟩
  have := List.all_eq_true.1 invs_lt
  rw [List.getD_eq_getElem?_getD, List.getElem?_eq_getElem (by omega)]
  exact of_decide_eq_true (this _ (List.getElem_mem _))
theorem sbT_len : sbT.length = 256 := by
  have hl : invs.length = 256 := (o1_lt 255).2.2
  simp [sbT, hl]
theorem ro_step2 (n : Nat) (hn : n < 256) : ∃ x, invs[n]? = some x ∧ x < 256 ∧ (upT n n256 sbT)[n]? = some 0 ∧ (upT n n256 sbT).set n (sbN x) = upT (n + 1) n256 sbT := by
  obtain ⟨x, h1, h2⟩ := invs_get n hn
  have h3 : sbT[n]? = some (sbN x) := by simp [sbT, h1]
  have := upT_step (l := n256) (m := sbT) (n := n) (x := 0) (by rw [sbT_len]; exact List.length_replicate) (by unfold n256; rw [List.getElem?_replicate]; simp [hn]) h3
  exact ⟨x, h1, h2, this.1, this.2⟩
theorem alloc256 (w : World) (ev : Operand → Value) (op : Oper) (ho : op.op = .alloc 52) : (execOp ev op).run Tryd.prog w = .ok (.value (.pointer (some ⟨w.heap.size, 0, none⟩))) (w.alloc (.cells (i64v n256).toArray 52)) := by
  unfold execOp
  simp only [ho]
  kernel_rfl
theorem wl_alloc256 {ops : Array Oper} {rest : List Oper} {op : Oper} {a : Act} {w : World} {Q : Exit → Act → World → Prop} (hgd : op.guard = none) (ho : op.op = .alloc 52)
    (h : ∀ w', w' = w.alloc (.cells (i64v n256).toArray 52) → wpList Tryd.prog ops Q rest (a.put op.dst (.pointer (some ⟨w.heap.size, 0, none⟩))) w') : wpList Tryd.prog ops Q (op :: rest) a w := by
  refine wpList_plain hgd fun _ hK => ?_
  unfold Oper.wp
  rw [alloc256 w a.eval op ho]
  exact hK _ _ (h _ rfl)
attribute [local irreducible] o1 invs sbT n256
set_option maxRecDepth 20000 in
set_option maxHeartbeats 4000000 in
theorem rot_tab (w : World) :
    Calls Tryd.prog 20 #[] w fun e w' => e = .returned (.agg (i64v sbT).toArray) ∧ Kp0 w w' := by
  have H0 : Hid ((o1 0).1 = 1 ∧ (o1 0).2.1 = 1 ∧ (o1 0).2.2 = n256) := Lib.hid (by rw [o1]; exact ⟨rfl, rfl, rfl⟩)
  have HE : Hid ((o1 255).2.2 = invs) := Lib.hid (by rw [invs])
  have HST1 := Lib.hid ro_step1
  have HST2 := Lib.hid ro_step2
  have HLT : Hid (n256.length = 256) := Lib.hid (by rw [n256]; exact List.length_replicate)
  have HZ : Hid ((List.replicate 256 (Value.int .i64 0)).toArray = (i64v n256).toArray) := Lib.hid (by rw [n256]; simp [kis, natI])
  go_enter Tryd.func20, Tryd.ntmps20
  go_upto_region 1 with (refine wl_alloc256 rfl rfl ?_; intro w1 hw1)
  go_upto_region 2 with (refine wl_alloc256 rfl rfl ?_; intro w2 hw2)
  go_upto_region 3 with (refine wl_alloc256 rfl rfl ?_; intro w3 hw3)
  have e1 : w1.heap.size = w.heap.size + 1 := by rw [hw1]; simp
  have e2 : w2.heap.size = w.heap.size + 1 + 1 := by rw [hw2]; simp [e1]
  have HR : Hid (Rows' w w3 [(52, i64v n256), (52, i64v n256), (52, i64v n256)]) := Lib.hid (by rw [hw3, hw2, hw1]; exact rows3 w _ _ _ _ _ _)
  rw [e1, e2]
  clear hw1 hw2 hw3 e1 e2 HZ
  simp only [Act.put]
  go_wp2
  go_loopg [3, 4, 5] 255 (fun g x y i wr => ∃ (n : Nat), x = .int .i64 ((o1 n).1 : Int) ∧ y = .int .i64 ((o1 n).2.1 : Int) ∧ i = .int .i64 (n : Int) ∧ n ≤ 255 ∧ g = 255 - n ∧ Rows' w wr [(52, i64v n256), (52, i64v n256), (52, i64v (o1 n).2.2)])
  case atStart => exact ⟨0, by rw [H0.out.1]; rfl, by rw [H0.out.2.1]; rfl, rfl, by omega, rfl, by rw [H0.out.2.2]; exact HR.out⟩
  case round =>
    obtain ⟨n, rfl, rfl, rfl, hn, rfl, hr⟩ := hrel
    have HR1 := Lib.hid hr
    clear hr HR
    by_cases h : n < 255
    · obtain ⟨p, q, h1, h2, h3, h4, h5, h6, h7, h8⟩ := HST1.out n h
      rw [h1, h2]
      have hc1 := (HR1.out.blk 2 rfl (g := w.heap.size + 1 + 1) rfl).cellV p (i64v_get h5)
      have hf1 := blk_frozen (HR1.out.blk 2 rfl (g := w.heap.size + 1 + 1) rfl) p
      have hp256 : (p : Int) < 256 := by omega
      have hn255 : (n : Int) < 255 := by omega
      have HS := Lib.hid (HR1.out.set 2 rfl p (.int .i64 (q : Int)) (g := w.heap.size + 1 + 1) rfl)
      have H6 := Lib.hid h6
      have H7 := Lib.hid h7
      have H8 := Lib.hid h8
      have HP := Lib.hid h3
      have HQ := Lib.hid h4
      clear h1 h2 h3 h4 h5 h6 h7 h8
      go_upto_region 8 with (fail)
      go_upto_region 9 with (go_at_call 21; refine (rtm_any p 3 _ HP.out (by omega)).mono ?_; rintro e z1 ⟨rfl, hk⟩; have HS1 := Lib.hid (HS.out.kp0 hk); clear hk)
      go_wp2_with (go_at_call 21; refine (rtm_any q 246 _ HQ.out (by omega)).mono ?_; rintro e z2 ⟨rfl, hk⟩; have HS2 := Lib.hid (HS1.out.kp0 hk); clear hk)
      go_roundg (255 - (n + 1))
      case measure => omega
      case rel =>
        refine ⟨n + 1, by rw [H7.out], by rw [H8.out], by go_num, by omega, rfl, ?_⟩
        have hs := HS2.out
        rw [i64v_set, H6.out] at hs
        exact hs
    · obtain rfl : n = 255 := by omega
      rw [HE.out] at HR1
      clear HST1 H0 HE h hn
      go_wp2
      go_loopg [6] 256 (fun g i wr => ∃ (n : Nat), i = .int .i64 (n : Int) ∧ n ≤ 256 ∧ g = 256 - n ∧ Rows' w wr [(52, i64v n256), (52, i64v (upT n n256 sbT)), (52, i64v invs)])
      case atStart => exact ⟨0, rfl, by omega, rfl, by rw [upT_zero]; exact HR1.out⟩
      case round =>
        obtain ⟨n, rfl, hn, rfl, hr⟩ := hrel
        have HR2 := Lib.hid hr
        clear hr HR1
        by_cases h : n < 256
        · obtain ⟨x, h1, h2, h3, h4⟩ := HST2.out n h
          have hc1 := (HR2.out.blk 2 rfl (g := w.heap.size + 1 + 1) rfl).cellV n (i64v_get h1)
          have hn256 : (n : Int) < 256 := by omega
          have HX := Lib.hid h2
          have H3 := Lib.hid h3
          have H4 := Lib.hid h4
          have HYL := Lib.hid (yF_lt h2)
          clear h1 h2 h3 h4
          go_wp2
          go_loopg [8, 9] 4 (fun g y k wr2 => ∃ (m : Nat), y = .int .i64 ((yF x m : Nat) : Int) ∧ k = .int .i64 ((m + 1 : Nat) : Int) ∧ m ≤ 4 ∧ g = 4 - m ∧ Kp0 wr wr2)
          case atStart => exact ⟨0, rfl, rfl, by omega, rfl, Kp.refl _ _⟩
          case round =>
            obtain ⟨m, rfl, rfl, hm, rfl, hk⟩ := hrel
            have HK := Lib.hid hk
            clear hk hc1
            by_cases hm4 : m < 4
            · obtain ⟨k, hk⟩ : ∃ k, k = m + 1 := ⟨_, rfl⟩
              have hx256 := HX.out
              have hs : (8 : Int) - (k : Int) = ((8 - k : Nat) : Int) := by omega
              obtain ⟨s, hss⟩ : ∃ s, s = 8 - k := ⟨_, rfl⟩
              rw [← hss] at hs
              have hs8 : (s : Int) ≤ 8 := by omega
              have hk5 : (k : Int) < 5 := by omega
              have hk0 : 0 < (k : Int) := by omega
              have hv1 := shl_wrap (x := x) (k := k) hx256 (by omega)
              have hv2 := rp_val (x := x) (k := k) (s := s) hx256 hss (by omega)
              have hv3 := xN_val (a := yF x m) (b := rp x k) (by have := HYL.out m; omega) (by have := rp_lt (x := x) (k := k) hx256; omega)
              have HN : Hid (xN (yF x m) (rp x k) = yF x (m + 1)) := Lib.hid (by rw [yF, hk])
              obtain ⟨ym, hym⟩ : ∃ ym, ym = yF x m := ⟨_, rfl⟩
              rw [← hym] at hv3 HN ⊢
              have HKM := Lib.hid hk
              rw [← hk]
              clear hss hym hx256 hk
              go_upto_region 18 with (fail)
              go_region
              go_wp2
              go_roundg (4 - (m + 1))
              case measure => omega
              case rel =>
                have hkk := HKM.out
                exact ⟨m + 1, by rw [HN.out], by go_num, by omega, rfl, HK.out.drew⟩
            · obtain rfl : m = 4 := by omega
              have hv := xN_val (a := yF x 4) (b := 99) (by have := HYL.out 4; omega) (by omega)
              have HN : Hid (xN (yF x 4) 99 = sbN x) := Lib.hid rfl
              have HR3 := Lib.hid (HR2.out.kp0 HK.out)
              have hc2 := (HR3.out.blk 1 rfl (g := w.heap.size + 1) rfl).cellV n (i64v_get H3.out)
              have hf2 := blk_frozen (HR3.out.blk 1 rfl (g := w.heap.size + 1) rfl) n
              obtain ⟨ym, hym⟩ : ∃ ym, ym = yF x 4 := ⟨_, rfl⟩
              rw [← hym] at hv HN ⊢
              clear hym hm4 hm HK
              have hv' : bits .xor .i64 (ym : Int) 99 = ((xN ym 99 : Nat) : Int) := hv
              clear hv
              go_wp2
              go_roundg (256 - (n + 1))
              case measure => omega
              case rel =>
                refine ⟨n + 1, by go_num, by omega, rfl, ?_⟩
                have hs := HR3.out.set 1 rfl n (.int .i64 ((xN ym 99 : Nat) : Int)) (g := w.heap.size + 1) rfl
                rw [HN.out, i64v_set, H4.out, ← HN.out] at hs
                exact hs
        · obtain rfl : n = 256 := by omega
          rw [upT_all (by rw [HLT.out]; exact Nat.le_refl _) (by rw [sbT_len]; exact Nat.le_refl _)] at HR2
          clear HST2 h hn
          go_wp2_with (first
            | (refine wl_load_blk rfl 52 (.tmp 1) rfl (w.heap.size + 1) _ (i64v sbT) rfl (HR2.out.blk 1 rfl rfl) _ Tryd.underlying52 rfl (info256 sbT_len) ?_)
            | (refine wl_store_blk rfl 52 (.tmp 0) (.tmp 48) rfl (w.heap.size) _ (i64v n256) (i64v sbT) rfl rfl (HR2.out.blk 0 rfl rfl) (info256 sbT_len) (len_of (T := 52) (info256 HLT.out) (info256 sbT_len)) (kis_ones _ _) ?_
               intro w7 hA7 hK7
               have HA7 := Lib.hid hA7
               have HK7 := Lib.hid hK7
               clear hA7 hK7))
          refine ret_blk 0 52 52 (w.heap.size) (i64v sbT) _ rfl rfl HA7.out Tryd.underlying52 rfl (info256 sbT_len) rfl ?_
          exact ⟨rfl, HR2.out.kp.trans HK7.out (fun _ _ h => h) (fun i hi e => by omega)⟩
end Go.Proofs.YtomlednobmaaeaaDoor
