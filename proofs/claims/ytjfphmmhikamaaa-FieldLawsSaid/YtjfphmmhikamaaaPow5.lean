/- Package field: powers. -/
import Derived.Test.YtjfphmmhikamaaaPick5
namespace Go.Proofs.Ytjfphmmhikamaaa
open Go Go.RowKit
theorem and1_u8 (x : Int) (h0 : 0 ≤ x) (h : x < 256) : bits .and .u8 x 1 = x % 2 := by
  have := bits_mask .u8 8 (by decide) (fun n h0 h1 => by simp [IntKind.wrap, IntKind.bits, IntKind.signed] at h1 ⊢; omega) 1 (by decide) x h0 (by omega)
  simpa using this
theorem bit_u8 (y k : Nat) (hy : y < 256) : bits .and .u8 ((y : Int) / 2 ^ k) 1 = ((y / 2 ^ k % 2 : Nat) : Int) := by
  have hq : y / 2 ^ k ≤ y := Nat.div_le_self _ _
  rw [show ((y : Int) / 2 ^ k) = ((y / 2 ^ k : Nat) : Int) by simp]
  generalize y / 2 ^ k = q at *
  rw [and1_u8 _ (by omega) (by omega)]
  rfl
theorem bit8_true {y k : Nat} (hy : y < 256) (h : y / 2 ^ k % 2 = 1) : (bits .and .u8 ((y : Int) / 2 ^ k) 1 == 1) = true := by rw [bit_u8 y k hy, h]; rfl
theorem bit8_false {y k : Nat} (hy : y < 256) (h : ¬ y / 2 ^ k % 2 = 1) : (bits .and .u8 ((y : Int) / 2 ^ k) 1 == 1) = false := by rw [bit_u8 y k hy, show y / 2 ^ k % 2 = 0 by omega]; rfl
/-- What raising to a power keeps. -/
def PowF (w : World) (v : Value) (l : List UInt8) (gr : Nat) (ca cr : List Value) (wr : World) : Prop := Blk wr w.heap.size 45 ca ∧ Blk wr gr 45 cr ∧ Blk wr (w.heap.size + 1) 45 (kis .u64 z5) ∧ Rd wr v (bys l) ∧ Kp0 w wr ∧ (∀ g, v.ownBlock = some g → g < w.heap.size) ∧ w.heap.size + 1 < gr
theorem PowF.kp0 {w wr wx : World} {v : Value} {l : List UInt8} {gr : Nat} {ca cr : List Value} (h : PowF w v l gr ca cr wr) (hk : Kp0 wr wx) : PowF w v l gr ca cr wx :=
  ⟨h.1.kp0 hk, h.2.1.kp0 hk, h.2.2.1.kp0 hk, h.2.2.2.1.keep0 hk, h.2.2.2.2.1.tr hk, h.2.2.2.2.2.1, h.2.2.2.2.2.2⟩
theorem PowF.putA {w wr wx : World} {v : Value} {l : List UInt8} {gr : Nat} {ca cr cb : List Value} (h : PowF w v l gr ca cr wr) (ha : Blk wx w.heap.size 45 cb) (hk : Kp (fun b => b = w.heap.size) wr wx) : PowF w v l gr cb cr wx :=
  ⟨ha, h.2.1.keep hk (fun e => by have := h.2.2.2.2.2.2; omega), h.2.2.1.keep hk (fun e => by omega), h.2.2.2.1.keep hk (fun b hb _ e => by have := h.2.2.2.2.2.1 b hb; omega), h.2.2.2.2.1.trans hk (fun _ _ h => h) (fun i hi e => by omega), h.2.2.2.2.2.1, h.2.2.2.2.2.2⟩
theorem PowF.putR {w wr wx : World} {v : Value} {l : List UInt8} {gr : Nat} {ca cr cb : List Value} (h : PowF w v l gr ca cr wr) (ha : Blk wx gr 45 cb) (hk : Kp (fun b => b = gr) wr wx) : PowF w v l gr ca cb wx :=
  ⟨h.1.keep hk (fun e => by have := h.2.2.2.2.2.2; omega), ha, h.2.2.1.keep hk (fun e => by have := h.2.2.2.2.2.2; omega), h.2.2.2.1.keep hk (fun b hb _ e => by have := h.2.2.2.2.2.1 b hb; have := h.2.2.2.2.2.2; omega), h.2.2.2.2.1.trans hk (fun _ _ h => h) (fun i hi e => by have := h.2.2.2.2.2.2; omega), h.2.2.2.2.2.1, h.2.2.2.2.2.2⟩
theorem fe_z5 : Fe El (kis .u64 z5) 0 := fe_mk ⟨rfl, fun x hx => by simp [z5] at hx; omega⟩ (by decide)
set_option maxRecDepth 20000 in
set_option maxHeartbeats 4000000 in
theorem pow5_any (cs : List Value) (a : Nat) (v : Value) (l : List UInt8) (w : World) (ha : Fe El cs a) (hv : Rd w v (bys l)) (hvo : ∀ g, v.ownBlock = some g → g < w.heap.size) :
    Calls Try.prog 40 #[.agg cs.toArray, v] w fun e w' => ∃ es, e = .returned (.agg es.toArray) ∧ Fe El es (a ^ leN l % 57896044618658097711785492504343953926634992332820282019728792003956564819949) ∧ Kp0 w w' := by
  obtain ⟨ao, cap, rfl, hc1, hc2, hc3⟩ := hv.shapeB
  have HV := Lib.hid hv
  have HVO := Lib.hid hvo
  have HLa := Lib.hid ha
  clear hv hvo ha
  go_enter Try.func40, Try.ntmps40
  go_upto_region 1 with (fail)
  have HB0 := Lib.hid (blk0 w 45 cs)
  have HB1 : Hid (Blk ((w.alloc (.cells cs.toArray 45)).alloc (.cells (kis .u64 z5).toArray 45)) (w.heap.size + 1) 45 (kis .u64 z5)) := Lib.hid (ark1 w _ _ z5)
  have HK0 := Lib.hid (((Kp.refl (fun _ => False) w).alloc (.cells cs.toArray 45)).alloc (.cells (kis .u64 z5).toArray 45))
  have HB0' := Lib.hid (HB0.out.kp0 ((Kp.refl (fun _ => False) _).alloc (.cells (kis .u64 z5).toArray 45)))
  clear HB0
  change Code.wp _ _ _ _ ((w.alloc (.cells cs.toArray 45)).alloc (.cells (kis .u64 z5).toArray 45))
  generalize ((w.alloc (.cells cs.toArray 45)).alloc (.cells (kis .u64 z5).toArray 45)) = w0 at HB0' HB1 HK0
  go_wp2_with (first
    | (go_at_call 43
       refine (small_fe 1 _ (by omega)).mono ?_
       rintro e w1 ⟨c1, rfl, hfe1, hk1⟩
       have HE1 := Lib.hid hfe1
       have HK1 := Lib.hid hk1
       clear hfe1 hk1)
    | (refine wl_store_blk rfl 45 (.tmp 5) (.tmp 9) rfl w1.heap.size _ (kis .u64 z5) c1 rfl rfl (blk0 w1 _ (kis .u64 z5)) HE1.out.2.2.1 (len_of fe_z5.2.2.1 HE1.out.2.2.1) HE1.out.2.2.2 ?_
       intro w7 hA7 hK7
       have HA7 := Lib.hid hA7
       have HK7 := Lib.hid hK7
       clear hA7 hK7))
  obtain ⟨g, hg⟩ : ∃ g, g = w1.heap.size := ⟨_, rfl⟩
  have HR : Hid (PowF w (.slice ao l.length cap) l g cs c1 w7) := Lib.hid (by
    have hs := HK1.out.size
    have hs0 := HB1.out.lt
    have hz : w.heap.size + 1 < g := by omega
    have hk : Kp (fun b => b = g) w1 w7 := ((Kp.refl (fun b => b = g) w1).alloc _).tr (by rw [hg]; exact HK7.out)
    have hw : Kp0 w w1 := HK0.out.tr HK1.out
    exact ⟨(HB0'.out.kp0 HK1.out).keep hk (fun e => by omega), by rw [hg]; exact HA7.out, (HB1.out.kp0 HK1.out).keep hk (fun e => by omega), (HV.out.keep0 hw).keep hk (fun b hb _ e => by have := HVO.out b hb; omega), hw.trans hk (fun _ _ h => h) (fun i hi e => by omega), HVO.out, hz⟩)
  rw [← hg]
  clear HA7 HK7 hg
  go_loopg [12] l.length (fun gg i wr => ∃ (n A R : Nat) (ca cr : List Value), i = .int .i64 n ∧ n ≤ l.length ∧ gg = l.length - n ∧ PowF w (.slice ao l.length cap) l g ca cr wr ∧ Hid (Fe El ca A ∧ Fe El cr R ∧ A = a ^ 2 ^ (8 * n) % 57896044618658097711785492504343953926634992332820282019728792003956564819949 ∧ R = a ^ expo l n 0 % 57896044618658097711785492504343953926634992332820282019728792003956564819949))
  case atStart => exact ⟨0, a, 1, cs, c1, rfl, by omega, rfl, HR.out, Lib.hid ⟨HLa.out, HE1.out, by rw [Nat.mul_zero, Nat.pow_zero, Nat.pow_one, Nat.mod_eq_of_lt HLa.out.2.1], by simp [expo, leN, Nat.mod_one]⟩⟩
  case round =>
    obtain ⟨n, A0, R0, ca0, cr0, rfl, hn, rfl, hr, HC0⟩ := hrel
    have HR0 := Lib.hid hr
    clear hr HR
    by_cases h : n < l.length
    · obtain ⟨b2, o2, c2, e2, _, _, hcell⟩ := HR0.out.2.2.2.1.posB (by omega)
      simp only [Value.slice.injEq] at e2
      obtain ⟨rfl, _, rfl⟩ := e2
      obtain ⟨y, hy⟩ : ∃ y, y = (l[n]'h).toNat := ⟨_, rfl⟩
      have hby : y < 256 := by rw [hy]; exact UInt8.toNat_lt _
      have HY : Hid (y = (l.getD n 0).toNat) := Lib.hid (by rw [hy, List.getD_eq_getElem?_getD, List.getElem?_eq_getElem h]; rfl)
      have hc := hcell n h
      rw [← hy] at hc
      clear hcell hy
      go_wp2
      clear hc
      go_loopg [16] 8 (fun gg i wr => ∃ (k A R : Nat) (ca cr : List Value), i = .int .i64 k ∧ k ≤ 8 ∧ gg = 8 - k ∧ PowF w (.slice (some ⟨b2, o2, none⟩) l.length cap) l g ca cr wr ∧ Hid (Fe El ca A ∧ Fe El cr R ∧ A = a ^ 2 ^ (8 * n + k) % 57896044618658097711785492504343953926634992332820282019728792003956564819949 ∧ R = a ^ expo l n k % 57896044618658097711785492504343953926634992332820282019728792003956564819949))
      case atStart => exact ⟨0, A0, R0, ca0, cr0, rfl, by omega, rfl, HR0.out, HC0⟩
      case round =>
        obtain ⟨k, A, R, ca, cr, rfl, hk, rfl, hr, HC⟩ := hrel
        have HR := Lib.hid hr
        clear hr
        by_cases h2 : k < 8
        · by_cases hbit : y / 2 ^ k % 2 = 1
          · have hB := bit8_true hby hbit
            have HBT := Lib.hid hbit
            clear hbit
            go_upto_region 10 with (first
              | (refine wl_load_blk rfl 45 (.tmp 5) rfl g _ cr rfl HR.out.2.1 _ Try.underlying45 rfl HC.out.2.1.2.2.1 ?_)
              | (refine wl_load_blk rfl 45 (.tmp 2) rfl w.heap.size _ ca rfl HR.out.1 _ Try.underlying45 rfl HC.out.1.2.2.1 ?_)
              | (go_at_call 36; refine (mul_fe cr ca R A _ HC.out.2.1 HC.out.1).mono ?_; rintro e w5 ⟨es, rfl, hfe, hk5⟩; have HE5 := Lib.hid hfe; have HR5 := Lib.hid (HR.out.kp0 hk5); clear hk5 hfe)
              | (refine wl_store_blk rfl 45 (.tmp 5) (.tmp 26) rfl g _ cr es rfl rfl HR5.out.2.1 HE5.out.2.2.1 (len_of HC.out.2.1.2.2.1 HE5.out.2.2.1) HE5.out.2.2.2 ?_; intro w6 hA6 hK6; have HR6 := Lib.hid (HR5.out.putR hA6 hK6); clear hA6 hK6))
            go_wp2_with (first
              | (refine wl_load_blk rfl 45 (.tmp 2) rfl w.heap.size _ ca rfl HR6.out.1 _ Try.underlying45 rfl HC.out.1.2.2.1 ?_)
              | (go_at_call 36; refine (mul_fe ca ca A A _ HC.out.1 HC.out.1).mono ?_; rintro e w8 ⟨es2, rfl, hfe, hk8⟩; have HE8 := Lib.hid hfe; have HR8 := Lib.hid (HR6.out.kp0 hk8); clear hk8 hfe)
              | (refine wl_store_blk rfl 45 (.tmp 2) (.tmp 29) rfl w.heap.size _ ca es2 rfl rfl HR8.out.1 HE8.out.2.2.1 (len_of HC.out.1.2.2.1 HE8.out.2.2.1) HE8.out.2.2.2 ?_; intro w6 hA6 hK6; have HR9 := Lib.hid (HR8.out.putA hA6 hK6); clear hA6 hK6))
            go_roundg (8 - (k + 1))
            case measure => omega
            case rel => exact ⟨k + 1, _, _, es2, es, by go_num, by omega, rfl, HR9.out, Lib.hid ⟨HE8.out, HE5.out, by rw [HC.out.2.2.1, pow_mul_mod]; congr 2; rw [← Nat.add_assoc, Nat.pow_succ]; omega, by rw [HC.out.2.2.1, HC.out.2.2.2, pow_mul_mod, expo_one l n k (by rw [← HY.out]; exact HBT.out)]⟩⟩
          · have hB := bit8_false hby hbit
            have HBT := Lib.hid hbit
            clear hbit
            go_wp2_with (first
              | (refine wl_load_blk rfl 45 (.tmp 2) rfl w.heap.size _ ca rfl HR.out.1 _ Try.underlying45 rfl HC.out.1.2.2.1 ?_)
              | (go_at_call 36; refine (mul_fe ca ca A A _ HC.out.1 HC.out.1).mono ?_; rintro e w8 ⟨es2, rfl, hfe, hk8⟩; have HE8 := Lib.hid hfe; have HR8 := Lib.hid (HR.out.kp0 hk8); clear hk8 hfe)
              | (refine wl_store_blk rfl 45 (.tmp 2) (.tmp 29) rfl w.heap.size _ ca es2 rfl rfl HR8.out.1 HE8.out.2.2.1 (len_of HC.out.1.2.2.1 HE8.out.2.2.1) HE8.out.2.2.2 ?_; intro w6 hA6 hK6; have HR9 := Lib.hid (HR8.out.putA hA6 hK6); clear hA6 hK6))
            go_roundg (8 - (k + 1))
            case measure => omega
            case rel => exact ⟨k + 1, _, _, es2, cr, by go_num, by omega, rfl, HR9.out, Lib.hid ⟨HE8.out, HC.out.2.1, by rw [HC.out.2.2.1, pow_mul_mod]; congr 2; rw [← Nat.add_assoc, Nat.pow_succ]; omega, by rw [HC.out.2.2.2, expo_zero l n k (by rw [← HY.out]; exact HBT.out)]⟩⟩
        · obtain rfl : k = 8 := by omega
          go_wp2
          go_roundg (l.length - (n + 1))
          case measure => omega
          case rel => exact ⟨n + 1, A, R, ca, cr, by go_num, by omega, rfl, HR.out, Lib.hid ⟨HC.out.1, HC.out.2.1, HC.out.2.2.1, by rw [HC.out.2.2.2, expo_next l n h]⟩⟩
    · obtain rfl : n = l.length := by omega
      go_wp2_with (first
        | (refine wl_load_blk rfl 45 (.tmp 5) rfl g _ cr0 rfl HR0.out.2.1 _ Try.underlying45 rfl HC0.out.2.1.2.2.1 ?_)
        | (refine wl_store_blk rfl 45 (.tmp 4) (.tmp 32) rfl (w.heap.size + 1) _ (kis .u64 z5) cr0 rfl rfl HR0.out.2.2.1 HC0.out.2.1.2.2.1 (len_of fe_z5.2.2.1 HC0.out.2.1.2.2.1) HC0.out.2.1.2.2.2 ?_; intro w6 hA6 hK6; have HA6 := Lib.hid hA6; have HK6 := Lib.hid hK6; clear hA6 hK6))
      refine ret_blk 4 45 45 (w.heap.size + 1) cr0 _ rfl rfl HA6.out Try.underlying45 rfl HC0.out.2.1.2.2.1 rfl ?_
      exact ⟨cr0, rfl, by rw [← expo_end l, ← HC0.out.2.2.2]; exact HC0.out.2.1, HR0.out.2.2.2.2.1.trans HK6.out (fun _ _ h => h) (fun i hi e => by omega)⟩
end Go.Proofs.Ytjfphmmhikamaaa
