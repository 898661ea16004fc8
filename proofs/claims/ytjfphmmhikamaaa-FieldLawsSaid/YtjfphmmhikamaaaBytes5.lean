/- Package field: bytes. -/
import Derived.Test.YtjfphmmhikamaaaBits5
namespace Go.Proofs.Ytjfphmmhikamaaa
open Go Go.RowKit
theorem digs_digL (N : Nat) : F5.digs 5 (N : Int) = digL 51 5 N := by
  rw [F5.digs5]
  simp [digL, dig, List.range, List.range.loop]
theorem leB_digL (k N : Nat) : kis .u8 (digL 8 k N) = bys (leB k N) := by
  induction k with
  | zero => rfl
  | succ k ih =>
    rw [leB_succ, bys_app, ← ih, digL, List.range_succ, List.map_append, kis, List.map_append]
    refine congrArg _ ?_
    simp only [List.map_cons, List.map_nil, bys, dig, UInt8.toNat_ofNat']
    rw [Nat.pow_mul]
    simp
/-- What a round turns of the bytes. -/
theorem bytes_step {N n : Nat} (hn : n < 255) : ∃ q r q8 r8 x b y : Nat, n = 51 * q + r ∧ r < 51 ∧ q < 5 ∧ n = 8 * q8 + r8 ∧ r8 < 8 ∧ q8 < 32 ∧ x < 2251799813685248 ∧ (digL 51 5 N)[q]? = some (x : Int) ∧ x / 2 ^ r % 2 = b ∧ b ≤ 1 ∧ (digL 8 32 (N % 2 ^ n))[q8]? = some (y : Int) ∧ y < 2 ^ r8 ∧ (digL 8 32 (N % 2 ^ n)).set q8 ((y + b * 2 ^ r8 : Nat) : Int) = digL 8 32 (N % 2 ^ (n + 1)) := by
  refine ⟨n / 51, n % 51, n / 8, n % 8, dig 51 (n / 51) N, N / 2 ^ n % 2, N / 2 ^ (8 * (n / 8)) % 2 ^ (n % 8), by omega, by omega, by omega, by omega, by omega, by omega, dig_lt 51 _ _, digL_get _ _ _ _ (by omega), ?_, by omega, ?_, Nat.mod_lt _ (Nat.two_pow_pos _), ?_⟩
  · rw [bit_at 51 (n / 51) (n % 51) N (by omega), show 51 * (n / 51) + n % 51 = n by omega]
  · rw [digL_get _ _ _ _ (by omega)]
    have := dig_mod_at (w := 8) (q := n / 8) (r := n % 8) (N := N) (by omega)
    rw [show 8 * (n / 8) + n % 8 = n by omega] at this
    rw [this]
  · have := digL_bit (w := 8) (k := 32) (N := N) (q := n / 8) (r := n % 8) (by omega) (by omega)
    rw [show 8 * (n / 8) + n % 8 = n by omega] at this
    exact this.symm
theorem and1_div (x r b : Nat) (hx : x < 18446744073709551616) (hb : x / 2 ^ r % 2 = b) : bits .and .u64 ((x : Int) / 2 ^ r) 1 = (b : Int) := by
  rw [show ((x : Int) / 2 ^ r) = ((x / 2 ^ r : Nat) : Int) by simp]
  have hle : x / 2 ^ r ≤ x := Nat.div_le_self _ _
  generalize x / 2 ^ r = z at *
  rw [and1 _ (by omega) (by omega), ← hb]
  rfl
theorem or_u8 (y b r : Nat) (hy : y < 2 ^ r) (hb : b ≤ 1) (hr : r < 8) : bits .or .u8 (y : Int) ((b : Int) * 2 ^ r % 256) = ((y + b * 2 ^ r : Nat) : Int) := by
  have h8 : b * 2 ^ r < 256 := by
    have := Nat.pow_lt_pow_right (show 1 < 2 by omega) hr
    have : b = 0 ∨ b = 1 := by omega
    rcases this with rfl | rfl <;> omega
  rw [← or_bit .u8 8 (by decide) (fun n h0 h1 => by simp [IntKind.wrap, IntKind.bits, IntKind.signed] at h1 ⊢; omega) y b r hy hb hr]
  refine congrArg _ ?_
  rw [show ((b : Int) * 2 ^ r) = ((b * 2 ^ r : Nat) : Int) by simp]
  omega
def BytS (w : World) (g : Nat) (l bs : List Int) (wr : World) : Prop := ArK .u64 wr w.heap.size 45 l ∧ ArK .u8 wr (w.heap.size + 1) 70 zs32 ∧ ArK .u8 wr g 70 bs ∧ Kp0 w wr ∧ w.heap.size + 1 < g
theorem BytS.set {w wr : World} {g : Nat} {l bs : List Int} (h : BytS w g l bs wr) (i : Nat) (x : Int) : BytS w g l (bs.set i x) (wr.setCell ⟨g, i, none⟩ (.int .u8 x)) := by
  obtain ⟨h1, h2, h3, h4, h5⟩ := h
  exact ⟨h1.other (by omega) _, h2.other (by omega) _, h3.set i x, h4.at (by omega) _, h5⟩
theorem BytS.drew {w wr : World} {g : Nat} {l bs : List Int} (h : BytS w g l bs wr) : BytS w g l bs wr.drew := ⟨h.1, h.2.1, h.2.2.1, h.2.2.2.1.drew, h.2.2.2.2⟩
set_option maxRecDepth 20000 in
set_option maxHeartbeats 4000000 in
theorem bytes_fe (cs : List Value) (n : Nat) (w : World) (h1 : Fe El cs n) : Calls Try.prog 47 #[.agg cs.toArray] w fun e w' => e = .returned (.agg (bys (leB 32 n)).toArray) ∧ Kp0 w w' := by
  obtain ⟨l, hl, rfl, hlv⟩ := fe_inv h1
  have HN := Lib.hid h1.2.1
  have HL := Lib.hid hl
  have HLV := Lib.hid hlv
  clear hl hlv h1
  go_enter Try.func47, Try.ntmps47
  go_upto_region 1 with (fail)
  have HA0 : Hid (ArK .u64 ((w.alloc (.cells (kis .u64 l).toArray 45)).alloc (.cells (kis .u8 zs32).toArray 70)) w.heap.size 45 l) := Lib.hid ((ark0 w _ l).kp0 ((Kp.refl _ _).alloc _))
  have HA1 : Hid (ArK .u8 ((w.alloc (.cells (kis .u64 l).toArray 45)).alloc (.cells (kis .u8 zs32).toArray 70)) (w.heap.size + 1) 70 zs32) := Lib.hid (ark1 w _ _ zs32)
  have HK0 := Lib.hid (((Kp.refl (fun _ => False) w).alloc (.cells (kis .u64 l).toArray 45)).alloc (.cells (kis .u8 zs32).toArray 70))
  change Code.wp _ _ _ _ ((w.alloc (.cells (kis .u64 l).toArray 45)).alloc (.cells (kis .u8 zs32).toArray 70))
  generalize ((w.alloc (.cells (kis .u64 l).toArray 45)).alloc (.cells (kis .u8 zs32).toArray 70)) = w0 at HA0 HA1 HK0
  obtain ⟨ds, hds⟩ : ∃ ds, ds = digL 51 5 n := ⟨_, rfl⟩
  have HD := Lib.hid hds
  have HDL : Hid (ds.length = 5) := Lib.hid (by rw [hds, digL_len])
  clear hds
  go_upto_region 2 with (first
    | (refine wl_load_blk rfl 45 (.tmp 1) rfl w.heap.size _ _ rfl HA0.out _ Try.underlying45 rfl (infoE _ HL.out.1) ?_)
    | (go_at_call 55; refine (least_fe l n _ HL.out HLV.out).mono ?_; rw [digs_digL, ← HD.out]; rintro e w1 ⟨rfl, hk1⟩; have HB0 := Lib.hid (HA0.out.kp0 hk1); have HB1 := Lib.hid (HA1.out.kp0 hk1); have HK1 := Lib.hid (HK0.out.tr hk1); clear hk1)
    | (refine wl_store_blk rfl 45 (.tmp 1) (.tmp 7) rfl w.heap.size _ _ (kis .u64 ds) rfl rfl HB0.out (infoE _ HDL.out) (by rw [kis_len, kis_len, HDL.out, HL.out.1]) (kis_ones _ _) ?_; intro w6 hA6 hK6; have HC0 : Hid (ArK .u64 w6 w.heap.size 45 ds) := Lib.hid hA6; have HC1 := Lib.hid (HB1.out.keep hK6 (fun e => by omega)); have HK6 : Hid (Kp0 w w6) := Lib.hid (HK1.out.trans hK6 (fun _ _ h => h) (fun i hi e => by omega)); clear hA6 hK6))
  go_upto_region 3 with (fail)
  obtain ⟨g, hg⟩ : ∃ g, g = w6.heap.size := ⟨_, rfl⟩
  have HS : Hid (BytS w g ds zs32 (w6.alloc (.cells (kis .u8 zs32).toArray 70))) := Lib.hid (by
    have hlt := HC1.out.lt
    exact ⟨HC0.out.kp0 ((Kp.refl _ _).alloc _), HC1.out.kp0 ((Kp.refl _ _).alloc _), by rw [hg]; exact ark0 w6 _ _, HK6.out.alloc _, by omega⟩)
  change Code.wp _ _ _ _ (w6.alloc (.cells (kis .u8 zs32).toArray 70))
  rw [← hg]
  clear hg HC0 HC1 HK6 HB0 HB1 HK1 HA0 HA1 HK0
  generalize (w6.alloc (.cells (kis .u8 zs32).toArray 70)) = w7 at HS
  go_wp2
  go_loopg [8] 255 (fun gg i wr => ∃ (k : Nat), i = .int .i64 k ∧ k ≤ 255 ∧ gg = 255 - k ∧ BytS w g ds (digL 8 32 (n % 2 ^ k)) wr)
  case atStart => exact ⟨0, rfl, by omega, rfl, by rw [digL_zero]; exact HS.out⟩
  case round =>
    obtain ⟨k, rfl, hk, rfl, hr⟩ := hrel
    have HR := Lib.hid hr
    clear hr HS
    by_cases h : k < 255
    · obtain ⟨q, r, q8, r8, x, b, y, hn1, hr1, hq1, hn8, hr8, hq8, hx, hc1, hb, hb1, hc2, hy, hs⟩ := bytes_step (N := n) h
      rw [← HD.out] at hc1
      have hcell1 := HR.out.1.cell' q hc1
      have hcell2 := HR.out.2.2.1.cell' q8 hc2
      have hf2 := HR.out.2.2.1.frozen q8
      have hq51 : (k : Int).tdiv 51 = (q : Int) := by rw [Int.tdiv_eq_ediv_of_nonneg (by omega)]; omega
      have hr51 : (k : Int).tmod 51 = (r : Int) := by rw [Int.tmod_eq_emod_of_nonneg (by omega)]; omega
      have hq88 : (k : Int).tdiv 8 = (q8 : Int) := by rw [Int.tdiv_eq_ediv_of_nonneg (by omega)]; omega
      have hr88 : (k : Int).tmod 8 = (r8 : Int) := by rw [Int.tmod_eq_emod_of_nonneg (by omega)]; omega
      have HS3 := Lib.hid hs
      have hqi : (q : Int) < 5 := by omega
      have hqi8 : (q8 : Int) < 32 := by omega
      have HN1 := Lib.hid hn1
      have HN8 := Lib.hid hn8
      have hband := and1_div x r b (by omega) hb
      clear hs hn1 hn8 hc1 hc2 hb
      go_upto_region 7 with (fail)
      clear hband
      have HOR := Lib.hid (or_u8 y b r8 hy hb1 hr8)
      go_region
      all_goals
        go_wp2
        go_roundg (255 - (k + 1))
        case measure => omega
        case rel => exact ⟨k + 1, by go_num, by omega, rfl, by rw [← HS3.out, ← HOR.out]; exact (HR.out.set q8 _).drew⟩
    · obtain rfl : k = 255 := by omega
      have HE : Hid (digL 8 32 (n % 2 ^ 255) = digL 8 32 n) := Lib.hid (by rw [Nat.mod_eq_of_lt (by have := HN.out; omega)])
      rw [HE.out] at HR
      have HBL : Hid ((digL 8 32 n).length = 32) := Lib.hid (digL_len _ _ _)
      have HBB := Lib.hid (leB_digL 32 n)
      obtain ⟨bs, hbs⟩ : ∃ bs, bs = digL 8 32 n := ⟨_, rfl⟩
      rw [← hbs] at HR HBL HBB
      clear HE hbs
      go_wp2_with (first
        | (refine wl_load_blk rfl 70 (.tmp 3) rfl g _ (kis .u8 bs) rfl HR.out.2.2.1 _ Try.underlying70 rfl (info32 _ HBL.out) ?_)
        | (refine wl_store_blk rfl 70 (.tmp 2) (.tmp 32) rfl (w.heap.size + 1) _ (kis .u8 zs32) (kis .u8 bs) rfl rfl HR.out.2.1 (info32 _ HBL.out) (by rw [kis_len, kis_len, HBL.out]; rfl) (kis_ones _ _) ?_; intro w6 hA6 hK6; have HA6 := Lib.hid hA6; have HK6 := Lib.hid hK6; clear hA6 hK6))
      refine ret_blk 2 70 70 (w.heap.size + 1) (kis .u8 bs) _ rfl rfl HA6.out Try.underlying70 rfl (info32 _ HBL.out) rfl ?_
      exact ⟨by rw [HBB.out], HR.out.2.2.2.1.trans HK6.out (fun _ _ h => h) (fun i hi e => by omega)⟩
end Go.Proofs.Ytjfphmmhikamaaa
