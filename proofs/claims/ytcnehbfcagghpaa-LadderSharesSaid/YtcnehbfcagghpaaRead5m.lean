/- Digits of any width, bit by bit. Package field: bytes. Package field: Read. -/
import Derived.Test.YtcnehbfcagghpaaInv5m
namespace Go.Proofs.Ytcnehbfcagghpaa
open Go Go.RowKit
/-- A digit of w bits. -/
def dig (w j x : Nat) : Nat := x / 2 ^ (w * j) % 2 ^ w
def digL (w k x : Nat) : List Int := (List.range k).map fun j => (dig w j x : Int)
theorem digL_len (w k x : Nat) : (digL w k x).length = k := by simp [digL]
theorem digL_get (w k x j : Nat) (h : j < k) : (digL w k x)[j]? = some (dig w j x : Int) := by simp [digL, h]
theorem dig_lt (w j x : Nat) : dig w j x < 2 ^ w := Nat.mod_lt _ (Nat.two_pow_pos w)
theorem low_div {N n a : Nat} (h : n ≤ a) : N % 2 ^ n / 2 ^ a = 0 := Nat.div_eq_of_lt (Nat.lt_of_lt_of_le (Nat.mod_lt _ (Nat.two_pow_pos n)) (Nat.pow_le_pow_right (by omega) h))
theorem mod_div (N a b : Nat) : N % 2 ^ (a + b) / 2 ^ a = N / 2 ^ a % 2 ^ b := by rw [Nat.pow_add, Nat.mod_mul_right_div_self]
/-- A digit of the lowest n bits. -/
theorem dig_mod_high {w q r N j : Nat} (hr : r < w) (hj : q < j) : dig w j (N % 2 ^ (w * q + r)) = 0 := by
  rw [dig, low_div (by have := Nat.mul_le_mul_left w (show q + 1 ≤ j by omega); rw [Nat.mul_succ] at this; omega), Nat.zero_mod]
theorem dig_mod_at {w q r N : Nat} (hr : r ≤ w) : dig w q (N % 2 ^ (w * q + r)) = N / 2 ^ (w * q) % 2 ^ r := by
  rw [dig, mod_div, Nat.mod_eq_of_lt (Nat.lt_of_lt_of_le (Nat.mod_lt _ (Nat.two_pow_pos r)) (Nat.pow_le_pow_right (by omega) hr))]
theorem dig_mod_low {w q r N j : Nat} (hj : j < q) : dig w j (N % 2 ^ (w * q + r)) = dig w j N := by
  obtain ⟨c, rfl⟩ : ∃ c, q = j + 1 + c := ⟨q - (j + 1), by omega⟩
  rw [dig, dig, show w * (j + 1 + c) + r = w * j + (w + (w * c + r)) by rw [Nat.mul_add, Nat.mul_succ]; omega, mod_div, Nat.pow_add, Nat.mod_mul_right_mod]
theorem bit_at (w q r N : Nat) (hr : r < w) : dig w q N / 2 ^ r % 2 = N / 2 ^ (w * q + r) % 2 := by
  obtain ⟨c, rfl⟩ : ∃ c, w = r + (1 + c) := ⟨w - (r + 1), by omega⟩
  rw [dig, mod_div, Nat.pow_add 2 1 c, Nat.mod_mul_right_mod, Nat.pow_one, Nat.div_div_eq_div_mul, ← Nat.pow_add]
/-- One more bit. -/
theorem digL_bit {w k N q r : Nat} (hr : r < w) (_hq : q < k) :
    digL w k (N % 2 ^ (w * q + r + 1)) = (digL w k (N % 2 ^ (w * q + r))).set q ((N / 2 ^ (w * q) % 2 ^ r + N / 2 ^ (w * q + r) % 2 * 2 ^ r : Nat) : Int) := by
  refine List.ext_getElem? fun j => ?_
  rw [List.getElem?_set, digL_len]
  by_cases hjk : j < k
  · rw [digL_get _ _ _ _ hjk, digL_get _ _ _ _ hjk]
    by_cases hj : q = j
    · subst hj
      rw [if_pos rfl, if_pos hjk]
      refine congrArg (fun x : Nat => some (x : Int)) ?_
      rw [Nat.add_assoc, dig_mod_at (by omega), Nat.mod_pow_succ, Nat.div_div_eq_div_mul, ← Nat.pow_add, Nat.mul_comm (2 ^ r)]
    · rw [if_neg hj]
      refine congrArg (fun x : Nat => some (x : Int)) ?_
      by_cases h2 : j < q
      · rw [Nat.add_assoc, dig_mod_low h2, dig_mod_low h2]
      · by_cases h3 : r + 1 < w
        · rw [Nat.add_assoc, dig_mod_high h3 (by omega), dig_mod_high hr (by omega)]
        · rw [dig_mod_high hr (by omega), dig, low_div (by have := Nat.mul_le_mul_left w (show q + 1 ≤ j by omega); rw [Nat.mul_succ] at this; omega), Nat.zero_mod]
  · rw [List.getElem?_eq_none (by rw [digL_len]; omega), List.getElem?_eq_none (by rw [digL_len]; omega)]
    split
    · exfalso
      omega
    · rfl
theorem digL_zero (w k : Nat) (x : Nat) : digL w k (x % 2 ^ 0) = List.replicate k 0 := by
  rw [Nat.pow_zero, Nat.mod_one]
  refine List.ext_getElem (by simp [digL_len]) fun j h1 h2 => ?_
  simp [digL, dig]
theorem or_bit (k : IntKind) (j : Nat) (hj : j ≤ k.bits) (hk : ∀ n : Int, 0 ≤ n → n < 2 ^ j → k.wrap n = n) (x b r : Nat) (hx : x < 2 ^ r) (hb : b ≤ 1) (hr : r < j) : bits .or k (x : Int) ((b * 2 ^ r : Nat) : Int) = ((x + b * 2 ^ r : Nat) : Int) := by
  have hp : 2 ^ r < 2 ^ j := Nat.pow_lt_pow_right (by omega) hr
  have hbr : b * 2 ^ r < 2 ^ j := by
    have : b = 0 ∨ b = 1 := by omega
    rcases this with rfl | rfl <;> omega
  rw [(bits_nat k j hj hk x (b * 2 ^ r) (by omega) hbr).2]
  rw [Nat.or_comm, Nat.mul_comm, ← Nat.two_pow_add_eq_or_of_lt hx, Nat.add_comm]
end Go.Proofs.Ytcnehbfcagghpaa
namespace Go.Proofs.Ytcnehbfcagghpaa
open Go Go.RowKit
theorem digs_digL (N : Nat) : F5.digs 5 (N : Int) = digL 51 5 N := by
  rw [F5.digs5]
  simp [digL, dig, List.range, List.range.loop]
theorem leB_digL (k N : Nat) : kis .u8 (digL 8 k N) = bys (leB k N) := by
  induction k with
  | zero => rfl
  | succ k ih =>
    rw [leB_succ, bys_app, ← ih, digL, List.range_succ, List.map_append, kis, List.map_append]
    refine congrArg _ ?_
    simp only [List.map_cons, List.map_nil, bys, dig, UInt8.toNat_ofNat']
    rw [Nat.pow_mul]
    simp
/-- What a round turns of the bytes. -/
theorem bytes_step {N n : Nat} (hn : n < 255) : ∃ q r q8 r8 x b y : Nat, n = 51 * q + r ∧ r < 51 ∧ q < 5 ∧ n = 8 * q8 + r8 ∧ r8 < 8 ∧ q8 < 32 ∧ x < 2251799813685248 ∧ (digL 51 5 N)[q]? = some (x : Int) ∧ x / 2 ^ r % 2 = b ∧ b ≤ 1 ∧ (digL 8 32 (N % 2 ^ n))[q8]? = some (y : Int) ∧ y < 2 ^ r8 ∧ (digL 8 32 (N % 2 ^ n)).set q8 ((y + b * 2 ^ r8 : Nat) : Int) = digL 8 32 (N % 2 ^ (n + 1)) := by
  refine ⟨n / 51, n % 51, n / 8, n % 8, dig 51 (n / 51) N, N / 2 ^ n % 2, N / 2 ^ (8 * (n / 8)) % 2 ^ (n % 8), by omega, by omega, by omega, by omega, by omega, by omega, dig_lt 51 _ _, digL_get _ _ _ _ (by omega), ?_, by omega, ?_, Nat.mod_lt _ (Nat.two_pow_pos _), ?_⟩
  · rw [bit_at 51 (n / 51) (n % 51) N (by omega), show 51 * (n / 51) + n % 51 = n by omega]
  · rw [digL_get _ _ _ _ (by omega)]
    have := dig_mod_at (w := 8) (q := n / 8) (r := n % 8) (N := N) (by omega)
    rw [show 8 * (n / 8) + n % 8 = n by omega] at this
    rw [this]
  · have := digL_bit (w := 8) (k := 32) (N := N) (q := n / 8) (r := n % 8) (by omega) (by omega)
    rw [show 8 * (n / 8) + n % 8 = n by omega] at this
    exact this.symm
theorem and1_div (x r b : Nat) (hx : x < 18446744073709551616) (hb : x / 2 ^ r % 2 = b) : bits .and .u64 ((x : Int) / 2 ^ r) 1 = (b : Int) := by
  rw [show ((x : Int) / 2 ^ r) = ((x / 2 ^ r : Nat) : Int) by simp]
  have hle : x / 2 ^ r ≤ x := Nat.div_le_self _ _
  generalize x / 2 ^ r = z at *
  rw [and1 _ (by omega) (by omega), ← hb]
  rfl
theorem or_u8 (y b r : Nat) (hy : y < 2 ^ r) (hb : b ≤ 1) (hr : r < 8) : bits .or .u8 (y : Int) ((b : Int) * 2 ^ r % 256) = ((y + b * 2 ^ r : Nat) : Int) := by
  have h8 : b * 2 ^ r < 256 := by
    have := Nat.pow_lt_pow_right (show 1 < 2 by omega) hr
    have : b = 0 ∨ b = 1 := by omega
    rcases this with rfl | rfl <;> omega
  rw [← or_bit .u8 8 (by decide) (fun n h0 h1 => by simp [IntKind.wrap, IntKind.bits, IntKind.signed] at h1 ⊢; omega) y b r hy hb hr]
  refine congrArg _ ?_
  rw [show ((b : Int) * 2 ^ r) = ((b * 2 ^ r : Nat) : Int) by simp]
  omega
def BytS (w : World) (g : Nat) (l bs : List Int) (wr : World) : Prop := ArK .u64 wr w.heap.size 40 l ∧ ArK .u8 wr (w.heap.size + 1) 32 zs32 ∧ ArK .u8 wr g 32 bs ∧ Kp0 w wr ∧ w.heap.size + 1 < g
theorem BytS.set {w wr : World} {g : Nat} {l bs : List Int} (h : BytS w g l bs wr) (i : Nat) (x : Int) : BytS w g l (bs.set i x) (wr.setCell ⟨g, i, none⟩ (.int .u8 x)) := by
  obtain ⟨h1, h2, h3, h4, h5⟩ := h
  exact ⟨h1.other (by omega) _, h2.other (by omega) _, h3.set i x, h4.at (by omega) _, h5⟩
theorem BytS.drew {w wr : World} {g : Nat} {l bs : List Int} (h : BytS w g l bs wr) : BytS w g l bs wr.drew := ⟨h.1, h.2.1, h.2.2.1, h.2.2.2.1.drew, h.2.2.2.2⟩
set_option maxRecDepth 20000 in
set_option maxHeartbeats 4000000 in
theorem bytes_fe (cs : List Value) (n : Nat) (w : World) (h1 : Fe El cs n) : Calls Try.prog 18 #[.agg cs.toArray] w fun e w' => e = .returned (.agg (bys (leB 32 n)).toArray) ∧ Kp0 w w' := by
  obtain ⟨l, hl, rfl, hlv⟩ := fe_inv h1
  have HN := Lib.hid h1.2.1
  have HL := Lib.hid hl
  have HLV := Lib.hid hlv
  clear hl hlv h1
  go_enter Try.func18, Try.ntmps18
  go_upto_region 1 with (fail)
  have HA0 : Hid (ArK .u64 ((w.alloc (.cells (kis .u64 l).toArray 40)).alloc (.cells (kis .u8 zs32).toArray 32)) w.heap.size 40 l) := Lib.hid ((ark0 w _ l).kp0 ((Kp.refl _ _).alloc _))
  have HA1 : Hid (ArK .u8 ((w.alloc (.cells (kis .u64 l).toArray 40)).alloc (.cells (kis .u8 zs32).toArray 32)) (w.heap.size + 1) 32 zs32) := Lib.hid (ark1 w _ _ zs32)
  have HK0 := Lib.hid (((Kp.refl (fun _ => False) w).alloc (.cells (kis .u64 l).toArray 40)).alloc (.cells (kis .u8 zs32).toArray 32))
  change Code.wp _ _ _ _ ((w.alloc (.cells (kis .u64 l).toArray 40)).alloc (.cells (kis .u8 zs32).toArray 32))
  generalize ((w.alloc (.cells (kis .u64 l).toArray 40)).alloc (.cells (kis .u8 zs32).toArray 32)) = w0 at HA0 HA1 HK0
  obtain ⟨ds, hds⟩ : ∃ ds, ds = digL 51 5 n := ⟨_, rfl⟩
  have HD := Lib.hid hds
  have HDL : Hid (ds.length = 5) := Lib.hid (by rw [hds, digL_len])
  clear hds
  go_upto_region 2 with (first
    | (refine wl_load_blk rfl 40 (.tmp 1) rfl w.heap.size _ _ rfl HA0.out _ Try.underlying40 rfl (infoE _ HL.out.1) ?_)
    | (go_at_call 33; refine (least_fe l n _ HL.out HLV.out).mono ?_; rw [digs_digL, ← HD.out]; rintro e w1 ⟨rfl, hk1⟩; have HB0 := Lib.hid (HA0.out.kp0 hk1); have HB1 := Lib.hid (HA1.out.kp0 hk1); have HK1 := Lib.hid (HK0.out.tr hk1); clear hk1)
    | (refine wl_store_blk rfl 40 (.tmp 1) (.tmp 7) rfl w.heap.size _ _ (kis .u64 ds) rfl rfl HB0.out (infoE _ HDL.out) (by rw [kis_len, kis_len, HDL.out, HL.out.1]) (kis_ones _ _) ?_; intro w6 hA6 hK6; have HC0 : Hid (ArK .u64 w6 w.heap.size 40 ds) := Lib.hid hA6; have HC1 := Lib.hid (HB1.out.keep hK6 (fun e => by omega)); have HK6 : Hid (Kp0 w w6) := Lib.hid (HK1.out.trans hK6 (fun _ _ h => h) (fun i hi e => by omega)); clear hA6 hK6))
  go_upto_region 3 with (fail)
  obtain ⟨g, hg⟩ : ∃ g, g = w6.heap.size := ⟨_, rfl⟩
  have HS : Hid (BytS w g ds zs32 (w6.alloc (.cells (kis .u8 zs32).toArray 32))) := Lib.hid (by
    have hlt := HC1.out.lt
    exact ⟨HC0.out.kp0 ((Kp.refl _ _).alloc _), HC1.out.kp0 ((Kp.refl _ _).alloc _), by rw [hg]; exact ark0 w6 _ _, HK6.out.alloc _, by omega⟩)
  change Code.wp _ _ _ _ (w6.alloc (.cells (kis .u8 zs32).toArray 32))
  rw [← hg]
  clear hg HC0 HC1 HK6 HB0 HB1 HK1 HA0 HA1 HK0
  generalize (w6.alloc (.cells (kis .u8 zs32).toArray 32)) = w7 at HS
  go_wp2
  go_loopg [8] 255 (fun gg i wr => ∃ (k : Nat), i = .int .i64 k ∧ k ≤ 255 ∧ gg = 255 - k ∧ BytS w g ds (digL 8 32 (n % 2 ^ k)) wr)
  case atStart => exact ⟨0, rfl, by omega, rfl, by rw [digL_zero]; exact HS.out⟩
  case round =>
    obtain ⟨k, rfl, hk, rfl, hr⟩ := hrel
    have HR := Lib.hid hr
    clear hr HS
    by_cases h : k < 255
    · obtain ⟨q, r, q8, r8, x, b, y, hn1, hr1, hq1, hn8, hr8, hq8, hx, hc1, hb, hb1, hc2, hy, hs⟩ := bytes_step (N := n) h
      rw [← HD.out] at hc1
      have hcell1 := HR.out.1.cell' q hc1
      have hcell2 := HR.out.2.2.1.cell' q8 hc2
      have hf2 := HR.out.2.2.1.frozen q8
      have hq51 : (k : Int).tdiv 51 = (q : Int) := by rw [Int.tdiv_eq_ediv_of_nonneg (by omega)]; omega
      have hr51 : (k : Int).tmod 51 = (r : Int) := by rw [Int.tmod_eq_emod_of_nonneg (by omega)]; omega
      have hq88 : (k : Int).tdiv 8 = (q8 : Int) := by rw [Int.tdiv_eq_ediv_of_nonneg (by omega)]; omega
      have hr88 : (k : Int).tmod 8 = (r8 : Int) := by rw [Int.tmod_eq_emod_of_nonneg (by omega)]; omega
      have HS3 := Lib.hid hs
      have hqi : (q : Int) < 5 := by omega
      have hqi8 : (q8 : Int) < 32 := by omega
      have HN1 := Lib.hid hn1
      have HN8 := Lib.hid hn8
      have hband := and1_div x r b (by omega) hb
      clear hs hn1 hn8 hc1 hc2 hb
      go_upto_region 7 with (fail)
      clear hband
      have HOR := Lib.hid (or_u8 y b r8 hy hb1 hr8)
      go_region
      all_goals
        go_wp2
        go_roundg (255 - (k + 1))
        case measure => omega
        case rel => exact ⟨k + 1, by go_num, by omega, rfl, by rw [← HS3.out, ← HOR.out]; exact (HR.out.set q8 _).drew⟩
    · obtain rfl : k = 255 := by omega
      have HE : Hid (digL 8 32 (n % 2 ^ 255) = digL 8 32 n) := Lib.hid (by rw [Nat.mod_eq_of_lt (by have := HN.out; omega)])
      rw [HE.out] at HR
      have HBL : Hid ((digL 8 32 n).length = 32) := Lib.hid (digL_len _ _ _)
      have HBB := Lib.hid (leB_digL 32 n)
      obtain ⟨bs, hbs⟩ : ∃ bs, bs = digL 8 32 n := ⟨_, rfl⟩
      rw [← hbs] at HR HBL HBB
      clear HE hbs
      go_wp2_with (first
        | (refine wl_load_blk rfl 32 (.tmp 3) rfl g _ (kis .u8 bs) rfl HR.out.2.2.1 _ Try.underlying32 rfl (info32 _ HBL.out) ?_)
        | (refine wl_store_blk rfl 32 (.tmp 2) (.tmp 32) rfl (w.heap.size + 1) _ (kis .u8 zs32) (kis .u8 bs) rfl rfl HR.out.2.1 (info32 _ HBL.out) (by rw [kis_len, kis_len, HBL.out]; rfl) (kis_ones _ _) ?_; intro w6 hA6 hK6; have HA6 := Lib.hid hA6; have HK6 := Lib.hid hK6; clear hA6 hK6))
      refine ret_blk 2 32 32 (w.heap.size + 1) (kis .u8 bs) _ rfl rfl HA6.out Try.underlying32 rfl (info32 _ HBL.out) rfl ?_
      exact ⟨by rw [HBB.out], HR.out.2.2.2.1.trans HK6.out (fun _ _ h => h) (fun i hi e => by omega)⟩
end Go.Proofs.Ytcnehbfcagghpaa
namespace Go.Proofs.Ytcnehbfcagghpaa
open Go Go.RowKit
theorem leB_leN (l : List UInt8) : leB l.length (leN l) = l := by
  induction l with
  | nil => rfl
  | cons c t ih =>
    have hc := UInt8.toNat_lt c
    rw [List.length_cons, leB, leN, show (c.toNat + 256 * leN t) % 256 = c.toNat by omega, show (c.toNat + 256 * leN t) / 256 = leN t by omega, ih]
    simp
theorem byte_at {l : List UInt8} (hl : l.length = 32) {q : Nat} (hq : q < 32) : ((l[q]'(by omega)).toNat : Int) = (dig 8 q (leN l) : Int) := by
  have h := leB_digL 32 (leN l)
  rw [show leB 32 (leN l) = l from by have := leB_leN l; rwa [hl] at this] at h
  have h2 := congrArg (fun c : List Value => c[q]?) h
  simp only [kis, bys, List.getElem?_map, digL_get 8 32 (leN l) q hq, List.getElem?_eq_getElem (show q < l.length by omega), Option.map_some] at h2
  have h3 := Option.some.inj h2
  simp only [Value.int.injEq] at h3
  exact h3.2.symm
theorem read_step5 {N n : Nat} (hn : n < 255) : ∃ q r q8 r8 x b y : Nat, n = 51 * q + r ∧ r < 51 ∧ q < 5 ∧ n = 8 * q8 + r8 ∧ r8 < 8 ∧ q8 < 32 ∧ x = dig 8 q8 N ∧ x / 2 ^ r8 % 2 = b ∧ b ≤ 1 ∧ (digL 51 5 (N % 2 ^ n))[q]? = some (y : Int) ∧ y < 2 ^ r ∧ (digL 51 5 (N % 2 ^ n)).set q ((y + b * 2 ^ r : Nat) : Int) = digL 51 5 (N % 2 ^ (n + 1)) := by
  refine ⟨n / 51, n % 51, n / 8, n % 8, dig 8 (n / 8) N, N / 2 ^ n % 2, N / 2 ^ (51 * (n / 51)) % 2 ^ (n % 51), by omega, by omega, by omega, by omega, by omega, by omega, rfl, ?_, by omega, ?_, Nat.mod_lt _ (Nat.two_pow_pos _), ?_⟩
  · rw [bit_at 8 (n / 8) (n % 8) N (by omega), show 8 * (n / 8) + n % 8 = n by omega]
  · rw [digL_get _ _ _ _ (by omega)]
    have := dig_mod_at (w := 51) (q := n / 51) (r := n % 51) (N := N) (by omega)
    rw [show 51 * (n / 51) + n % 51 = n by omega] at this
    rw [this]
  · have := digL_bit (w := 51) (k := 5) (N := N) (q := n / 51) (r := n % 51) (by omega) (by omega)
    rw [show 51 * (n / 51) + n % 51 = n by omega] at this
    exact this.symm
theorem and1_div8 (x r b : Nat) (hx : x < 256) (hb : x / 2 ^ r % 2 = b) : bits .and .u8 ((x : Int) / 2 ^ r) 1 = (b : Int) := by
  rw [bit_u8 x r hx, hb]
theorem read_num {l : List UInt8} (hl : l.length = 32) : F5.Ok (digL 51 5 (leN l % 2 ^ 255)) ∧ F5.val (digL 51 5 (leN l % 2 ^ 255)) % 57896044618658097711785492504343953926634992332820282019728792003956564819949 = (readN l : Int) := by
  rw [p255 255 rfl, ← digs_digL]
  refine ⟨(F5.digs_dig _).ok, ?_⟩
  rw [F5.val_digs5 _ (by omega) (by omega), readN, if_pos hl]
  simp
theorem or_u64 (y b r : Nat) (hy : y < 2 ^ r) (hb : b ≤ 1) (hr : r < 64) : bits .or .u64 (y : Int) (IntKind.u64.wrap ((b : Int) * 2 ^ r)) = ((y + b * 2 ^ r : Nat) : Int) := by
  have h8 : b * 2 ^ r < 18446744073709551616 := by
    have := Nat.pow_lt_pow_right (show 1 < 2 by omega) hr
    have : b = 0 ∨ b = 1 := by omega
    rcases this with rfl | rfl <;> omega
  rw [← or_bit .u64 64 (by decide) (fun n h0 h1 => by simp [IntKind.wrap, IntKind.bits, IntKind.signed] at h1 ⊢; omega) y b r hy hb hr]
  refine congrArg _ ?_
  rw [show ((b : Int) * 2 ^ r) = ((b * 2 ^ r : Nat) : Int) by simp, M64.wrapN _ h8]
def ReaS (w : World) (v : Value) (l : List UInt8) (ds : List Int) (wr : World) : Prop := ArK .u64 wr w.heap.size 40 z5 ∧ ArK .u64 wr (w.heap.size + 1) 40 ds ∧ Rd wr v (bys l) ∧ Kp0 w wr ∧ (∀ g, v.ownBlock = some g → g < w.heap.size)
theorem ReaS.start {w : World} {v : Value} {l : List UInt8} (hv : Rd w v (bys l)) (ho : ∀ g, v.ownBlock = some g → g < w.heap.size) : ReaS w v l z5 ((w.alloc (.cells (kis .u64 z5).toArray 40)).alloc (.cells (kis .u64 z5).toArray 40)) :=
  ⟨(ark0 w _ _).kp0 ((Kp.refl _ _).alloc _), ark1 w _ _ _, (hv.alloc _).alloc _, ((Kp.refl _ w).alloc _).alloc _, ho⟩
theorem ReaS.set {w wr : World} {v : Value} {l : List UInt8} {ds : List Int} (h : ReaS w v l ds wr) (i : Nat) (x : Int) : ReaS w v l (ds.set i x) (wr.setCell ⟨w.heap.size + 1, i, none⟩ (.int .u64 x)) := by
  obtain ⟨h1, h2, h3, h4, h5⟩ := h
  have hk := (Kp.refl (fun b => b = w.heap.size + 1) wr).setCell (p := ⟨w.heap.size + 1, i, none⟩) (fun _ => rfl) (.int .u64 x)
  exact ⟨h1.other (by omega) _, h2.set i x, h3.keep hk (fun b hb _ e => by have := h5 b hb; omega), h4.at (by omega) _, h5⟩
theorem ReaS.drew {w wr : World} {v : Value} {l : List UInt8} {ds : List Int} (h : ReaS w v l ds wr) : ReaS w v l ds wr.drew := ⟨h.1, h.2.1, h.2.2.1, h.2.2.2.1.drew, h.2.2.2.2⟩
set_option maxRecDepth 20000 in
set_option maxHeartbeats 4000000 in
theorem read_fe (v : Value) (l : List UInt8) (w : World) (hv : Rd w v (bys l)) (hvo : ∀ g, v.ownBlock = some g → g < w.heap.size) : Calls Try.prog 16 #[v] w fun e w' => ∃ cs, e = .returned (.tuple #[.agg cs.toArray, .bool (decide (l.length = 32))]) ∧ Fe El cs (readN l) ∧ Kp0 w w' := by
  obtain ⟨ao, cap, rfl, hc1, hc2, hc3⟩ := hv.shapeB
  have HV := Lib.hid hv
  have HVO := Lib.hid hvo
  obtain ⟨bl, hbl⟩ : ∃ bl : Bool, bl = decide (l.length = 32) := ⟨_, rfl⟩
  rw [← hbl]
  have HBL := Lib.hid hbl
  clear hv hvo hbl
  go_enter Try.func16, Try.ntmps16
  go_upto_region 2 with (fail)
  have HS : Hid (ReaS w (.slice ao l.length cap) l z5 _) := Lib.hid (ReaS.start HV.out HVO.out)
  change Code.wp _ _ _ _ ((w.alloc (.cells (kis .u64 z5).toArray 40)).alloc (.cells (kis .u64 z5).toArray 40))
  generalize ((w.alloc (.cells (kis .u64 z5).toArray 40)).alloc (.cells (kis .u64 z5).toArray 40)) = w1 at HS
  by_cases hl : l.length = 32
  case neg =>
    have hli : ¬ (l.length : Int) = 32 := by omega
    have HNR : Hid (readN l = 0) := Lib.hid (by rw [readN, if_neg hl])
    have HBF : Hid (bl = false) := Lib.hid (by rw [HBL.out, decide_eq_false hl])
    clear HV HVO
    go_wp2_with (first
      | (refine wl_load_blk rfl 40 (.tmp 4) rfl (w.heap.size + 1) _ (kis .u64 z5) rfl HS.out.2.1 _ Try.underlying40 rfl fe_z5.2.2.1 ?_)
      | (refine wl_store_blk rfl 40 (.tmp 2) (.tmp 10) rfl w.heap.size _ (kis .u64 z5) (kis .u64 z5) rfl rfl HS.out.1 fe_z5.2.2.1 rfl fe_z5.2.2.2 ?_; intro w6 hA6 hK6; have HA6 := Lib.hid hA6; have HK6 := Lib.hid hK6; clear hA6 hK6))
    refine ret_blk2 2 3 40 40 w.heap.size (kis .u64 z5) _ rfl rfl HA6.out Try.underlying40 rfl fe_z5.2.2.1 rfl _ rfl ?_
    exact ⟨kis .u64 z5, by rw [HBF.out]; rfl, by rw [HNR.out]; exact fe_z5, HS.out.2.2.2.1.trans HK6.out (fun _ _ h => h) (fun i hi e => by omega)⟩
  case pos =>
    obtain ⟨b2, o2, c2, e2, _, _, hcell⟩ := HV.out.posB (by omega)
    simp only [Value.slice.injEq] at e2
    obtain ⟨rfl, _, rfl⟩ := e2
    have HLL := Lib.hid hl
    have HBT : Hid (bl = true) := Lib.hid (by rw [HBL.out, decide_eq_true hl])
    rw [hl] at hc1 ⊢
    clear hl hcell
    have HS' : Hid (ReaS w (.slice (some ⟨b2, o2, none⟩) 32 cap) l z5 w1) := Lib.hid (by have := HS.out; rwa [HLL.out] at this)
    clear HV HVO HS
    go_wp2
    go_loopg [11] 255 (fun gg i wr => ∃ (k : Nat), i = .int .i64 k ∧ k ≤ 255 ∧ gg = 255 - k ∧ ReaS w (.slice (some ⟨b2, o2, none⟩) 32 cap) l (digL 51 5 (leN l % 2 ^ k)) wr)
    case atStart => exact ⟨0, rfl, by omega, rfl, by rw [digL_zero]; exact HS'.out⟩
    case round =>
      obtain ⟨k, rfl, hk, rfl, hr⟩ := hrel
      have HR := Lib.hid hr
      clear hr HS'
      by_cases h : k < 255
      · obtain ⟨q, r, q8, r8, x, b, y, hn1, hr1, hq1, hn8, hr8, hq8, hx, hb, hb1, hc2', hy, hs⟩ := read_step5 (N := leN l) h
        obtain ⟨b3, o3, c3, e3, _, _, hcell⟩ := HR.out.2.2.1.posB (by rw [HLL.out]; omega)
        rw [HLL.out] at e3
        simp only [Value.slice.injEq, Option.some.injEq, Addr.mk.injEq] at e3
        obtain ⟨⟨rfl, rfl, _⟩, _, rfl⟩ := e3
        have hcx := hcell q8 (by rw [HLL.out]; exact hq8)
        rw [byte_at HLL.out hq8, ← hx] at hcx
        have hxb : x < 256 := by rw [hx]; exact dig_lt 8 _ _
        have hcell2 := HR.out.2.1.cell' q hc2'
        have hf2 := HR.out.2.1.frozen q
        have hq51 : (k : Int).tdiv 51 = (q : Int) := by rw [Int.tdiv_eq_ediv_of_nonneg (by omega)]; omega
        have hr51 : (k : Int).tmod 51 = (r : Int) := by rw [Int.tmod_eq_emod_of_nonneg (by omega)]; omega
        have hq88 : (k : Int).tdiv 8 = (q8 : Int) := by rw [Int.tdiv_eq_ediv_of_nonneg (by omega)]; omega
        have hr88 : (k : Int).tmod 8 = (r8 : Int) := by rw [Int.tmod_eq_emod_of_nonneg (by omega)]; omega
        have HS3 := Lib.hid hs
        have hqi : (q : Int) < 5 := by omega
        have hqi8 : (q8 : Int) < 32 := by omega
        have hband := and1_div8 x r8 b hxb hb
        clear hs hn1 hn8 hx hc2' hb hcell
        go_upto_region 8 with (fail)
        clear hband hcx
        have HOR := Lib.hid (or_u64 y b r hy hb1 (by omega))
        go_region
        all_goals
          go_wp2
          go_roundg (255 - (k + 1))
          case measure => omega
          case rel => exact ⟨k + 1, by go_num, by omega, rfl, by rw [← HS3.out, ← HOR.out]; exact (HR.out.set q _).drew⟩
      · obtain rfl : k = 255 := by omega
        have HRN := Lib.hid (read_num HLL.out)
        have HBL : Hid ((digL 51 5 (leN l % 2 ^ 255)).length = 5) := Lib.hid (digL_len _ _ _)
        obtain ⟨bs, hbs⟩ : ∃ bs, bs = digL 51 5 (leN l % 2 ^ 255) := ⟨_, rfl⟩
        rw [← hbs] at HR HBL HRN
        clear hbs
        go_wp2_with (first
          | (refine wl_load_blk rfl 40 (.tmp 4) rfl (w.heap.size + 1) _ (kis .u64 bs) rfl HR.out.2.1 _ Try.underlying40 rfl (infoE _ HBL.out) ?_)
          | (refine wl_store_blk rfl 40 (.tmp 2) (.tmp 37) rfl w.heap.size _ (kis .u64 z5) (kis .u64 bs) rfl rfl HR.out.1 (infoE _ HBL.out) (by rw [kis_len, kis_len, HBL.out]; rfl) (kis_ones _ _) ?_; intro w6 hA6 hK6; have HA6 := Lib.hid hA6; have HK6 := Lib.hid hK6; clear hA6 hK6))
        refine ret_blk2 2 3 40 40 w.heap.size (kis .u64 bs) _ rfl rfl HA6.out Try.underlying40 rfl (infoE _ HBL.out) rfl _ rfl ?_
        exact ⟨kis .u64 bs, by rw [HBT.out]; rfl, fe_mk HRN.out.1 HRN.out.2, HR.out.2.2.2.1.trans HK6.out (fun _ _ h => h) (fun i hi e => by omega)⟩
/-- The package's contracts. -/
theorem fld : Fld El where
  small := small_fe
  read := read_fe
  bytes := bytes_fe
  add := add_fe
  sub := sub_fe
  mul := mul_fe
  pow := pow_fe
  inv := inv_fe
  pick := pick_fe
end Go.Proofs.Ytcnehbfcagghpaa
