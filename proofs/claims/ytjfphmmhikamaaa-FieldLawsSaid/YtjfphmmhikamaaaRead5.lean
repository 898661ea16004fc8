/- Package field: Read. -/
import Derived.Test.YtjfphmmhikamaaaBytes5
import Derived.Test.YtjfphmmhikamaaaRoot5
namespace Go.Proofs.Ytjfphmmhikamaaa
open Go Go.RowKit
theorem leB_leN (l : List UInt8) : leB l.length (leN l) = l := by
  induction l with
  | nil => rfl
  | cons c t ih =>
    have hc := UInt8.toNat_lt c
    rw [List.length_cons, leB, leN, show (c.toNat + 256 * leN t) % 256 = c.toNat by omega, show (c.toNat + 256 * leN t) / 256 = leN t by omega, ih]
    simp
theorem byte_at {l : List UInt8} (hl : l.length = 32) {q : Nat} (hq : q < 32) : ((l[q]'(by omega)).toNat : Int) = (dig 8 q (leN l) : Int) := by
  have h := leB_digL 32 (leN l)
  rw [show leB 32 (leN l) = l from by have := leB_leN l; rwa [hl] at this] at h
  have h2 := congrArg (fun c : List Value => c[q]?) h
  simp only [kis, bys, List.getElem?_map, digL_get 8 32 (leN l) q hq, List.getElem?_eq_getElem (show q < l.length by omega), Option.map_some] at h2
  have h3 := Option.some.inj h2
  simp only [Value.int.injEq] at h3
  exact h3.2.symm
theorem read_step5 {N n : Nat} (hn : n < 255) : ∃ q r q8 r8 x b y : Nat, n = 51 * q + r ∧ r < 51 ∧ q < 5 ∧ n = 8 * q8 + r8 ∧ r8 < 8 ∧ q8 < 32 ∧ x = dig 8 q8 N ∧ x / 2 ^ r8 % 2 = b ∧ b ≤ 1 ∧ (digL 51 5 (N % 2 ^ n))[q]? = some (y : Int) ∧ y < 2 ^ r ∧ (digL 51 5 (N % 2 ^ n)).set q ((y + b * 2 ^ r : Nat) : Int) = digL 51 5 (N % 2 ^ (n + 1)) := by
  refine ⟨n / 51, n % 51, n / 8, n % 8, dig 8 (n / 8) N, N / 2 ^ n % 2, N / 2 ^ (51 * (n / 51)) % 2 ^ (n % 51), by omega, by omega, by omega, by omega, by omega, by omega, rfl, ?_, by omega, ?_, Nat.mod_lt _ (Nat.two_pow_pos _), ?_⟩
  · rw [bit_at 8 (n / 8) (n % 8) N (by omega), show 8 * (n / 8) + n % 8 = n by omega]
  · rw [digL_get _ _ _ _ (by omega)]
    have := dig_mod_at (w := 51) (q := n / 51) (r := n % 51) (N := N) (by omega)
    rw [show 51 * (n / 51) + n % 51 = n by omega] at this
    rw [this]
  · have := digL_bit (w := 51) (k := 5) (N := N) (q := n / 51) (r := n % 51) (by omega) (by omega)
    rw [show 51 * (n / 51) + n % 51 = n by omega] at this
    exact this.symm
theorem and1_div8 (x r b : Nat) (hx : x < 256) (hb : x / 2 ^ r % 2 = b) : bits .and .u8 ((x : Int) / 2 ^ r) 1 = (b : Int) := by
  rw [bit_u8 x r hx, hb]
theorem read_num {l : List UInt8} (hl : l.length = 32) : F5.Ok (digL 51 5 (leN l % 2 ^ 255)) ∧ F5.val (digL 51 5 (leN l % 2 ^ 255)) % 57896044618658097711785492504343953926634992332820282019728792003956564819949 = (readN l : Int) := by
  rw [p255 255 rfl, ← digs_digL]
  refine ⟨(F5.digs_dig _).ok, ?_⟩
  rw [F5.val_digs5 _ (by omega) (by omega), readN, if_pos hl]
  simp
theorem or_u64 (y b r : Nat) (hy : y < 2 ^ r) (hb : b ≤ 1) (hr : r < 64) : bits .or .u64 (y : Int) (IntKind.u64.wrap ((b : Int) * 2 ^ r)) = ((y + b * 2 ^ r : Nat) : Int) := by
  have h8 : b * 2 ^ r < 18446744073709551616 := by
    have := Nat.pow_lt_pow_right (show 1 < 2 by omega) hr
    have : b = 0 ∨ b = 1 := by omega
    rcases this with rfl | rfl <;> omega
  rw [← or_bit .u64 64 (by decide) (fun n h0 h1 => by simp [IntKind.wrap, IntKind.bits, IntKind.signed] at h1 ⊢; omega) y b r hy hb hr]
  refine congrArg _ ?_
  rw [show ((b : Int) * 2 ^ r) = ((b * 2 ^ r : Nat) : Int) by simp, M64.wrapN _ h8]
def ReaS (w : World) (v : Value) (l : List UInt8) (ds : List Int) (wr : World) : Prop := ArK .u64 wr w.heap.size 45 z5 ∧ ArK .u64 wr (w.heap.size + 1) 45 ds ∧ Rd wr v (bys l) ∧ Kp0 w wr ∧ (∀ g, v.ownBlock = some g → g < w.heap.size)
theorem ReaS.start {w : World} {v : Value} {l : List UInt8} (hv : Rd w v (bys l)) (ho : ∀ g, v.ownBlock = some g → g < w.heap.size) : ReaS w v l z5 ((w.alloc (.cells (kis .u64 z5).toArray 45)).alloc (.cells (kis .u64 z5).toArray 45)) :=
  ⟨(ark0 w _ _).kp0 ((Kp.refl _ _).alloc _), ark1 w _ _ _, (hv.alloc _).alloc _, ((Kp.refl _ w).alloc _).alloc _, ho⟩
theorem ReaS.set {w wr : World} {v : Value} {l : List UInt8} {ds : List Int} (h : ReaS w v l ds wr) (i : Nat) (x : Int) : ReaS w v l (ds.set i x) (wr.setCell ⟨w.heap.size + 1, i, none⟩ (.int .u64 x)) := by
  obtain ⟨h1, h2, h3, h4, h5⟩ := h
  have hk := (Kp.refl (fun b => b = w.heap.size + 1) wr).setCell (p := ⟨w.heap.size + 1, i, none⟩) (fun _ => rfl) (.int .u64 x)
  exact ⟨h1.other (by omega) _, h2.set i x, h3.keep hk (fun b hb _ e => by have := h5 b hb; omega), h4.at (by omega) _, h5⟩
theorem ReaS.drew {w wr : World} {v : Value} {l : List UInt8} {ds : List Int} (h : ReaS w v l ds wr) : ReaS w v l ds wr.drew := ⟨h.1, h.2.1, h.2.2.1, h.2.2.2.1.drew, h.2.2.2.2⟩
set_option maxRecDepth 20000 in
set_option maxHeartbeats 4000000 in
theorem read_fe (v : Value) (l : List UInt8) (w : World) (hv : Rd w v (bys l)) (hvo : ∀ g, v.ownBlock = some g → g < w.heap.size) : Calls Try.prog 27 #[v] w fun e w' => ∃ cs, e = .returned (.tuple #[.agg cs.toArray, .bool (decide (l.length = 32))]) ∧ Fe El cs (readN l) ∧ Kp0 w w' := by
  obtain ⟨ao, cap, rfl, hc1, hc2, hc3⟩ := hv.shapeB
  have HV := Lib.hid hv
  have HVO := Lib.hid hvo
  obtain ⟨bl, hbl⟩ : ∃ bl : Bool, bl = decide (l.length = 32) := ⟨_, rfl⟩
  rw [← hbl]
  have HBL := Lib.hid hbl
  clear hv hvo hbl
  go_enter Try.func27, Try.ntmps27
  go_upto_region 2 with (fail)
  have HS : Hid (ReaS w (.slice ao l.length cap) l z5 _) := Lib.hid (ReaS.start HV.out HVO.out)
  change Code.wp _ _ _ _ ((w.alloc (.cells (kis .u64 z5).toArray 45)).alloc (.cells (kis .u64 z5).toArray 45))
  generalize ((w.alloc (.cells (kis .u64 z5).toArray 45)).alloc (.cells (kis .u64 z5).toArray 45)) = w1 at HS
  by_cases hl : l.length = 32
  case neg =>
    have hli : ¬ (l.length : Int) = 32 := by omega
    have HNR : Hid (readN l = 0) := Lib.hid (by rw [readN, if_neg hl])
    have HBF : Hid (bl = false) := Lib.hid (by rw [HBL.out, decide_eq_false hl])
    clear HV HVO
    go_wp2_with (first
      | (refine wl_load_blk rfl 45 (.tmp 4) rfl (w.heap.size + 1) _ (kis .u64 z5) rfl HS.out.2.1 _ Try.underlying45 rfl fe_z5.2.2.1 ?_)
      | (refine wl_store_blk rfl 45 (.tmp 2) (.tmp 10) rfl w.heap.size _ (kis .u64 z5) (kis .u64 z5) rfl rfl HS.out.1 fe_z5.2.2.1 rfl fe_z5.2.2.2 ?_; intro w6 hA6 hK6; have HA6 := Lib.hid hA6; have HK6 := Lib.hid hK6; clear hA6 hK6))
    refine ret_blk2 2 3 45 45 w.heap.size (kis .u64 z5) _ rfl rfl HA6.out Try.underlying45 rfl fe_z5.2.2.1 rfl _ rfl ?_
    exact ⟨kis .u64 z5, by rw [HBF.out]; rfl, by rw [HNR.out]; exact fe_z5, HS.out.2.2.2.1.trans HK6.out (fun _ _ h => h) (fun i hi e => by omega)⟩
  case pos =>
    obtain ⟨b2, o2, c2, e2, _, _, hcell⟩ := HV.out.posB (by omega)
    simp only [Value.slice.injEq] at e2
    obtain ⟨rfl, _, rfl⟩ := e2
    have HLL := Lib.hid hl
    have HBT : Hid (bl = true) := Lib.hid (by rw [HBL.out, decide_eq_true hl])
    rw [hl] at hc1 ⊢
    clear hl hcell
    have HS' : Hid (ReaS w (.slice (some ⟨b2, o2, none⟩) 32 cap) l z5 w1) := Lib.hid (by have := HS.out; rwa [HLL.out] at this)
    clear HV HVO HS
    go_wp2
    go_loopg [11] 255 (fun gg i wr => ∃ (k : Nat), i = .int .i64 k ∧ k ≤ 255 ∧ gg = 255 - k ∧ ReaS w (.slice (some ⟨b2, o2, none⟩) 32 cap) l (digL 51 5 (leN l % 2 ^ k)) wr)
    case atStart => exact ⟨0, rfl, by omega, rfl, by rw [digL_zero]; exact HS'.out⟩
    case round =>
      obtain ⟨k, rfl, hk, rfl, hr⟩ := hrel
      have HR := Lib.hid hr
      clear hr HS'
      by_cases h : k < 255
      · obtain ⟨q, r, q8, r8, x, b, y, hn1, hr1, hq1, hn8, hr8, hq8, hx, hb, hb1, hc2', hy, hs⟩ := read_step5 (N := leN l) h
        obtain ⟨b3, o3, c3, e3, _, _, hcell⟩ := HR.out.2.2.1.posB (by rw [HLL.out]; omega)
        rw [HLL.out] at e3
        simp only [Value.slice.injEq, Option.some.injEq, Addr.mk.injEq] at e3
        obtain ⟨⟨rfl, rfl, _⟩, _, rfl⟩ := e3
        have hcx := hcell q8 (by rw [HLL.out]; exact hq8)
        rw [byte_at HLL.out hq8, ← hx] at hcx
        have hxb : x < 256 := by rw [hx]; exact dig_lt 8 _ _
        have hcell2 := HR.out.2.1.cell' q hc2'
        have hf2 := HR.out.2.1.frozen q
        have hq51 : (k : Int).tdiv 51 = (q : Int) := by rw [Int.tdiv_eq_ediv_of_nonneg (by omega)]; omega
        have hr51 : (k : Int).tmod 51 = (r : Int) := by rw [Int.tmod_eq_emod_of_nonneg (by omega)]; omega
        have hq88 : (k : Int).tdiv 8 = (q8 : Int) := by rw [Int.tdiv_eq_ediv_of_nonneg (by omega)]; omega
        have hr88 : (k : Int).tmod 8 = (r8 : Int) := by rw [Int.tmod_eq_emod_of_nonneg (by omega)]; omega
        have HS3 := Lib.hid hs
        have hqi : (q : Int) < 5 := by omega
        have hqi8 : (q8 : Int) < 32 := by omega
        have hband := and1_div8 x r8 b hxb hb
        clear hs hn1 hn8 hx hc2' hb hcell
        go_upto_region 8 with (fail)
        clear hband hcx
        have HOR := Lib.hid (or_u64 y b r hy hb1 (by omega))
        go_region
        all_goals
          go_wp2
          go_roundg (255 - (k + 1))
          case measure => omega
          case rel => exact ⟨k + 1, by go_num, by omega, rfl, by rw [← HS3.out, ← HOR.out]; exact (HR.out.set q _).drew⟩
      · obtain rfl : k = 255 := by omega
        have HRN := Lib.hid (read_num HLL.out)
        have HBL : Hid ((digL 51 5 (leN l % 2 ^ 255)).length = 5) := Lib.hid (digL_len _ _ _)
        obtain ⟨bs, hbs⟩ : ∃ bs, bs = digL 51 5 (leN l % 2 ^ 255) := ⟨_, rfl⟩
        rw [← hbs] at HR HBL HRN
        clear hbs
        go_wp2_with (first
          | (refine wl_load_blk rfl 45 (.tmp 4) rfl (w.heap.size + 1) _ (kis .u64 bs) rfl HR.out.2.1 _ Try.underlying45 rfl (infoE _ HBL.out) ?_)
          | (refine wl_store_blk rfl 45 (.tmp 2) (.tmp 37) rfl w.heap.size _ (kis .u64 z5) (kis .u64 bs) rfl rfl HR.out.1 (infoE _ HBL.out) (by rw [kis_len, kis_len, HBL.out]; rfl) (kis_ones _ _) ?_; intro w6 hA6 hK6; have HA6 := Lib.hid hA6; have HK6 := Lib.hid hK6; clear hA6 hK6))
        refine ret_blk2 2 3 45 45 w.heap.size (kis .u64 bs) _ rfl rfl HA6.out Try.underlying45 rfl (infoE _ HBL.out) rfl _ rfl ?_
        exact ⟨kis .u64 bs, by rw [HBT.out]; rfl, fe_mk HRN.out.1 HRN.out.2, HR.out.2.2.2.1.trans HK6.out (fun _ _ h => h) (fun i hi e => by omega)⟩
/-- The package's contracts. -/
theorem fld : Fld El where
  small := small_fe
  read := read_fe
  bytes := bytes_fe
  same := same5_any
  odd := odd5_any
  add := add_fe
  sub := sub_fe
  mul := mul_fe
  pow := pow_fe
  inv := inv_fe
  root := root_fe
  pick := pick_fe
end Go.Proofs.Ytjfphmmhikamaaa
