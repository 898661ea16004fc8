/- Package field: powers. Package field: the bytes of 2^n - less. Package field: inverses, a root of -1. -/
import Derived.Test.YtcnehbfcagghpaaPick5m
namespace Go.Proofs.Ytcnehbfcagghpaa
open Go Go.RowKit
theorem and1_u8 (x : Int) (h0 : 0 ≤ x) (h : x < 256) : bits .and .u8 x 1 = x % 2 := by
  have := bits_mask .u8 8 (by decide) (fun n h0 h1 => by simp [IntKind.wrap, IntKind.bits, IntKind.signed] at h1 ⊢; omega) 1 (by decide) x h0 (by omega)
  simpa using this
theorem bit_u8 (y k : Nat) (hy : y < 256) : bits .and .u8 ((y : Int) / 2 ^ k) 1 = ((y / 2 ^ k % 2 : Nat) : Int) := by
  have hq : y / 2 ^ k ≤ y := Nat.div_le_self _ _
  rw [show ((y : Int) / 2 ^ k) = ((y / 2 ^ k : Nat) : Int) by simp]
  generalize y / 2 ^ k = q at *
  rw [and1_u8 _ (by omega) (by omega)]
  rfl
theorem bit8_true {y k : Nat} (hy : y < 256) (h : y / 2 ^ k % 2 = 1) : (bits .and .u8 ((y : Int) / 2 ^ k) 1 == 1) = true := by rw [bit_u8 y k hy, h]; rfl
theorem bit8_false {y k : Nat} (hy : y < 256) (h : ¬ y / 2 ^ k % 2 = 1) : (bits .and .u8 ((y : Int) / 2 ^ k) 1 == 1) = false := by rw [bit_u8 y k hy, show y / 2 ^ k % 2 = 0 by omega]; rfl
/-- What raising to a power keeps. -/
def PowF (w : World) (v : Value) (l : List UInt8) (gr : Nat) (ca cr : List Value) (wr : World) : Prop := Blk wr w.heap.size 40 ca ∧ Blk wr gr 40 cr ∧ Blk wr (w.heap.size + 1) 40 (kis .u64 z5) ∧ Rd wr v (bys l) ∧ Kp0 w wr ∧ (∀ g, v.ownBlock = some g → g < w.heap.size) ∧ w.heap.size + 1 < gr
theorem PowF.kp0 {w wr wx : World} {v : Value} {l : List UInt8} {gr : Nat} {ca cr : List Value} (h : PowF w v l gr ca cr wr) (hk : Kp0 wr wx) : PowF w v l gr ca cr wx :=
  ⟨h.1.kp0 hk, h.2.1.kp0 hk, h.2.2.1.kp0 hk, h.2.2.2.1.keep0 hk, h.2.2.2.2.1.tr hk, h.2.2.2.2.2.1, h.2.2.2.2.2.2⟩
theorem PowF.putA {w wr wx : World} {v : Value} {l : List UInt8} {gr : Nat} {ca cr cb : List Value} (h : PowF w v l gr ca cr wr) (ha : Blk wx w.heap.size 40 cb) (hk : Kp (fun b => b = w.heap.size) wr wx) : PowF w v l gr cb cr wx :=
  ⟨ha, h.2.1.keep hk (fun e => by have := h.2.2.2.2.2.2; omega), h.2.2.1.keep hk (fun e => by omega), h.2.2.2.1.keep hk (fun b hb _ e => by have := h.2.2.2.2.2.1 b hb; omega), h.2.2.2.2.1.trans hk (fun _ _ h => h) (fun i hi e => by omega), h.2.2.2.2.2.1, h.2.2.2.2.2.2⟩
theorem PowF.putR {w wr wx : World} {v : Value} {l : List UInt8} {gr : Nat} {ca cr cb : List Value} (h : PowF w v l gr ca cr wr) (ha : Blk wx gr 40 cb) (hk : Kp (fun b => b = gr) wr wx) : PowF w v l gr ca cb wx :=
  ⟨h.1.keep hk (fun e => by have := h.2.2.2.2.2.2; omega), ha, h.2.2.1.keep hk (fun e => by have := h.2.2.2.2.2.2; omega), h.2.2.2.1.keep hk (fun b hb _ e => by have := h.2.2.2.2.2.1 b hb; have := h.2.2.2.2.2.2; omega), h.2.2.2.2.1.trans hk (fun _ _ h => h) (fun i hi e => by have := h.2.2.2.2.2.2; omega), h.2.2.2.2.2.1, h.2.2.2.2.2.2⟩
theorem fe_z5 : Fe El (kis .u64 z5) 0 := fe_mk ⟨rfl, fun x hx => by simp [z5] at hx; omega⟩ (by decide)
set_option maxRecDepth 20000 in
set_option maxHeartbeats 4000000 in
theorem pow5_any (cs : List Value) (a : Nat) (v : Value) (l : List UInt8) (w : World) (ha : Fe El cs a) (hv : Rd w v (bys l)) (hvo : ∀ g, v.ownBlock = some g → g < w.heap.size) :
    Calls Try.prog 47 #[.agg cs.toArray, v] w fun e w' => ∃ es, e = .returned (.agg es.toArray) ∧ Fe El es (a ^ leN l % 57896044618658097711785492504343953926634992332820282019728792003956564819949) ∧ Kp0 w w' := by
  obtain ⟨ao, cap, rfl, hc1, hc2, hc3⟩ := hv.shapeB
  have HV := Lib.hid hv
  have HVO := Lib.hid hvo
  have HLa := Lib.hid ha
  clear hv hvo ha
  go_enter Try.func47, Try.ntmps47
  go_upto_region 1 with (fail)
  have HB0 := Lib.hid (blk0 w 40 cs)
  have HB1 : Hid (Blk ((w.alloc (.cells cs.toArray 40)).alloc (.cells (kis .u64 z5).toArray 40)) (w.heap.size + 1) 40 (kis .u64 z5)) := Lib.hid (ark1 w _ _ z5)
  have HK0 := Lib.hid (((Kp.refl (fun _ => False) w).alloc (.cells cs.toArray 40)).alloc (.cells (kis .u64 z5).toArray 40))
  have HB0' := Lib.hid (HB0.out.kp0 ((Kp.refl (fun _ => False) _).alloc (.cells (kis .u64 z5).toArray 40)))
  clear HB0
  change Code.wp _ _ _ _ ((w.alloc (.cells cs.toArray 40)).alloc (.cells (kis .u64 z5).toArray 40))
  generalize ((w.alloc (.cells cs.toArray 40)).alloc (.cells (kis .u64 z5).toArray 40)) = w0 at HB0' HB1 HK0
  go_wp2_with (first
    | (go_at_call 27
       refine (small_fe 1 _ (by omega)).mono ?_
       rintro e w1 ⟨c1, rfl, hfe1, hk1⟩
       have HE1 := Lib.hid hfe1
       have HK1 := Lib.hid hk1
       clear hfe1 hk1)
    | (refine wl_store_blk rfl 40 (.tmp 5) (.tmp 9) rfl w1.heap.size _ (kis .u64 z5) c1 rfl rfl (blk0 w1 _ (kis .u64 z5)) HE1.out.2.2.1 (len_of fe_z5.2.2.1 HE1.out.2.2.1) HE1.out.2.2.2 ?_
       intro w7 hA7 hK7
       have HA7 := Lib.hid hA7
       have HK7 := Lib.hid hK7
       clear hA7 hK7))
  obtain ⟨g, hg⟩ : ∃ g, g = w1.heap.size := ⟨_, rfl⟩
  have HR : Hid (PowF w (.slice ao l.length cap) l g cs c1 w7) := Lib.hid (by
    have hs := HK1.out.size
    have hs0 := HB1.out.lt
    have hz : w.heap.size + 1 < g := by omega
    have hk : Kp (fun b => b = g) w1 w7 := ((Kp.refl (fun b => b = g) w1).alloc _).tr (by rw [hg]; exact HK7.out)
    have hw : Kp0 w w1 := HK0.out.tr HK1.out
    exact ⟨(HB0'.out.kp0 HK1.out).keep hk (fun e => by omega), by rw [hg]; exact HA7.out, (HB1.out.kp0 HK1.out).keep hk (fun e => by omega), (HV.out.keep0 hw).keep hk (fun b hb _ e => by have := HVO.out b hb; omega), hw.trans hk (fun _ _ h => h) (fun i hi e => by omega), HVO.out, hz⟩)
  rw [← hg]
  clear HA7 HK7 hg
  go_loopg [12] l.length (fun gg i wr => ∃ (n A R : Nat) (ca cr : List Value), i = .int .i64 n ∧ n ≤ l.length ∧ gg = l.length - n ∧ PowF w (.slice ao l.length cap) l g ca cr wr ∧ Hid (Fe El ca A ∧ Fe El cr R ∧ A = a ^ 2 ^ (8 * n) % 57896044618658097711785492504343953926634992332820282019728792003956564819949 ∧ R = a ^ expo l n 0 % 57896044618658097711785492504343953926634992332820282019728792003956564819949))
  case atStart => exact ⟨0, a, 1, cs, c1, rfl, by omega, rfl, HR.out, Lib.hid ⟨HLa.out, HE1.out, by rw [Nat.mul_zero, Nat.pow_zero, Nat.pow_one, Nat.mod_eq_of_lt HLa.out.2.1], by simp [expo, leN, Nat.mod_one]⟩⟩
  case round =>
    obtain ⟨n, A0, R0, ca0, cr0, rfl, hn, rfl, hr, HC0⟩ := hrel
    have HR0 := Lib.hid hr
    clear hr HR
    by_cases h : n < l.length
    · obtain ⟨b2, o2, c2, e2, _, _, hcell⟩ := HR0.out.2.2.2.1.posB (by omega)
      simp only [Value.slice.injEq] at e2
      obtain ⟨rfl, _, rfl⟩ := e2
      obtain ⟨y, hy⟩ : ∃ y, y = (l[n]'h).toNat := ⟨_, rfl⟩
      have hby : y < 256 := by rw [hy]; exact UInt8.toNat_lt _
      have HY : Hid (y = (l.getD n 0).toNat) := Lib.hid (by rw [hy, List.getD_eq_getElem?_getD, List.getElem?_eq_getElem h]; rfl)
      have hc := hcell n h
      rw [← hy] at hc
      clear hcell hy
      go_wp2
      clear hc
      go_loopg [16] 8 (fun gg i wr => ∃ (k A R : Nat) (ca cr : List Value), i = .int .i64 k ∧ k ≤ 8 ∧ gg = 8 - k ∧ PowF w (.slice (some ⟨b2, o2, none⟩) l.length cap) l g ca cr wr ∧ Hid (Fe El ca A ∧ Fe El cr R ∧ A = a ^ 2 ^ (8 * n + k) % 57896044618658097711785492504343953926634992332820282019728792003956564819949 ∧ R = a ^ expo l n k % 57896044618658097711785492504343953926634992332820282019728792003956564819949))
      case atStart => exact ⟨0, A0, R0, ca0, cr0, rfl, by omega, rfl, HR0.out, HC0⟩
      case round =>
        obtain ⟨k, A, R, ca, cr, rfl, hk, rfl, hr, HC⟩ := hrel
        have HR := Lib.hid hr
        clear hr
        by_cases h2 : k < 8
        · by_cases hbit : y / 2 ^ k % 2 = 1
          · have hB := bit8_true hby hbit
            have HBT := Lib.hid hbit
            clear hbit
            go_upto_region 10 with (first
              | (refine wl_load_blk rfl 40 (.tmp 5) rfl g _ cr rfl HR.out.2.1 _ Try.underlying40 rfl HC.out.2.1.2.2.1 ?_)
              | (refine wl_load_blk rfl 40 (.tmp 2) rfl w.heap.size _ ca rfl HR.out.1 _ Try.underlying40 rfl HC.out.1.2.2.1 ?_)
              | (go_at_call 31; refine (mul_fe cr ca R A _ HC.out.2.1 HC.out.1).mono ?_; rintro e w5 ⟨es, rfl, hfe, hk5⟩; have HE5 := Lib.hid hfe; have HR5 := Lib.hid (HR.out.kp0 hk5); clear hk5 hfe)
              | (refine wl_store_blk rfl 40 (.tmp 5) (.tmp 26) rfl g _ cr es rfl rfl HR5.out.2.1 HE5.out.2.2.1 (len_of HC.out.2.1.2.2.1 HE5.out.2.2.1) HE5.out.2.2.2 ?_; intro w6 hA6 hK6; have HR6 := Lib.hid (HR5.out.putR hA6 hK6); clear hA6 hK6))
            go_wp2_with (first
              | (refine wl_load_blk rfl 40 (.tmp 2) rfl w.heap.size _ ca rfl HR6.out.1 _ Try.underlying40 rfl HC.out.1.2.2.1 ?_)
              | (go_at_call 31; refine (mul_fe ca ca A A _ HC.out.1 HC.out.1).mono ?_; rintro e w8 ⟨es2, rfl, hfe, hk8⟩; have HE8 := Lib.hid hfe; have HR8 := Lib.hid (HR6.out.kp0 hk8); clear hk8 hfe)
              | (refine wl_store_blk rfl 40 (.tmp 2) (.tmp 29) rfl w.heap.size _ ca es2 rfl rfl HR8.out.1 HE8.out.2.2.1 (len_of HC.out.1.2.2.1 HE8.out.2.2.1) HE8.out.2.2.2 ?_; intro w6 hA6 hK6; have HR9 := Lib.hid (HR8.out.putA hA6 hK6); clear hA6 hK6))
            go_roundg (8 - (k + 1))
            case measure => omega
            case rel => exact ⟨k + 1, _, _, es2, es, by go_num, by omega, rfl, HR9.out, Lib.hid ⟨HE8.out, HE5.out, by rw [HC.out.2.2.1, pow_mul_mod]; congr 2; rw [← Nat.add_assoc, Nat.pow_succ]; omega, by rw [HC.out.2.2.1, HC.out.2.2.2, pow_mul_mod, expo_one l n k (by rw [← HY.out]; exact HBT.out)]⟩⟩
          · have hB := bit8_false hby hbit
            have HBT := Lib.hid hbit
            clear hbit
            go_wp2_with (first
              | (refine wl_load_blk rfl 40 (.tmp 2) rfl w.heap.size _ ca rfl HR.out.1 _ Try.underlying40 rfl HC.out.1.2.2.1 ?_)
              | (go_at_call 31; refine (mul_fe ca ca A A _ HC.out.1 HC.out.1).mono ?_; rintro e w8 ⟨es2, rfl, hfe, hk8⟩; have HE8 := Lib.hid hfe; have HR8 := Lib.hid (HR.out.kp0 hk8); clear hk8 hfe)
              | (refine wl_store_blk rfl 40 (.tmp 2) (.tmp 29) rfl w.heap.size _ ca es2 rfl rfl HR8.out.1 HE8.out.2.2.1 (len_of HC.out.1.2.2.1 HE8.out.2.2.1) HE8.out.2.2.2 ?_; intro w6 hA6 hK6; have HR9 := Lib.hid (HR8.out.putA hA6 hK6); clear hA6 hK6))
            go_roundg (8 - (k + 1))
            case measure => omega
            case rel => exact ⟨k + 1, _, _, es2, cr, by go_num, by omega, rfl, HR9.out, Lib.hid ⟨HE8.out, HC.out.2.1, by rw [HC.out.2.2.1, pow_mul_mod]; congr 2; rw [← Nat.add_assoc, Nat.pow_succ]; omega, by rw [HC.out.2.2.2, expo_zero l n k (by rw [← HY.out]; exact HBT.out)]⟩⟩
        · obtain rfl : k = 8 := by omega
          go_wp2
          go_roundg (l.length - (n + 1))
          case measure => omega
          case rel => exact ⟨n + 1, A, R, ca, cr, by go_num, by omega, rfl, HR.out, Lib.hid ⟨HC.out.1, HC.out.2.1, HC.out.2.2.1, by rw [HC.out.2.2.2, expo_next l n h]⟩⟩
    · obtain rfl : n = l.length := by omega
      go_wp2_with (first
        | (refine wl_load_blk rfl 40 (.tmp 5) rfl g _ cr0 rfl HR0.out.2.1 _ Try.underlying40 rfl HC0.out.2.1.2.2.1 ?_)
        | (refine wl_store_blk rfl 40 (.tmp 4) (.tmp 32) rfl (w.heap.size + 1) _ (kis .u64 z5) cr0 rfl rfl HR0.out.2.2.1 HC0.out.2.1.2.2.1 (len_of fe_z5.2.2.1 HC0.out.2.1.2.2.1) HC0.out.2.1.2.2.2 ?_; intro w6 hA6 hK6; have HA6 := Lib.hid hA6; have HK6 := Lib.hid hK6; clear hA6 hK6))
      refine ret_blk 4 40 40 (w.heap.size + 1) cr0 _ rfl rfl HA6.out Try.underlying40 rfl HC0.out.2.1.2.2.1 rfl ?_
      exact ⟨cr0, rfl, by rw [← expo_end l, ← HC0.out.2.2.2]; exact HC0.out.2.1, HR0.out.2.2.2.2.1.trans HK6.out (fun _ _ h => h) (fun i hi e => by omega)⟩
end Go.Proofs.Ytcnehbfcagghpaa
namespace Go.Proofs.Ytcnehbfcagghpaa
open Go Go.RowKit
def zs32 : List Int := List.replicate 32 0
def os32 : List Int := List.replicate 32 255
theorem info32 (l : List Int) (h : l.length = 32) : (Try.prog.info? 32).map (·.size) = some (kis .u8 l).length := by rw [kis_len, h]; kernel_rfl
theorem low32 (n : Nat) (hn : n < 32) : (upTo n zs32 os32)[n]? = some 0 ∧ (upTo n zs32 os32).set n 255 = upTo (n + 1) zs32 os32 := by
  obtain ⟨e1, e2⟩ := upTo_step (l := zs32) (m := os32) (n := n) rfl hn
  refine ⟨by rw [e1]; exact congrArg some (show zs32[n]'hn = 0 from List.getElem_replicate (a := (0 : Int)) (n := 32) hn), ?_⟩
  rw [← e2]
  exact congrArg ((upTo n zs32 os32).set n) (show (255 : Int) = os32[n]'hn from (List.getElem_replicate (a := (255 : Int)) (n := 32) hn).symm)
def BelR (w : World) (l : List Int) (wr : World) : Prop := ArK .u8 wr w.heap.size 32 zs32 ∧ ArK .u8 wr (w.heap.size + 1) 32 l ∧ Kp0 w wr
theorem BelR.start (w : World) : BelR w zs32 ((w.alloc (.cells (kis .u8 zs32).toArray 32)).alloc (.cells (kis .u8 zs32).toArray 32)) :=
  ⟨(ark0 w _ _).kp0 ((Kp.refl _ _).alloc _), ark1 w _ _ _, ((Kp.refl _ w).alloc _).alloc _⟩
theorem BelR.set {w wr : World} {l : List Int} (h : BelR w l wr) (i : Nat) (x : Int) : BelR w (l.set i x) (wr.setCell ⟨w.heap.size + 1, i, none⟩ (.int .u8 x)) := by
  obtain ⟨h1, h2, h3⟩ := h
  exact ⟨h1.other (by omega) _, h2.set i x, h3.at (by omega) _⟩
def bel255 : List Int := (os32.set 0 235).set 31 127
theorem bel255_bys : kis .u8 bel255 = bys (allB 255 21) := by kernel_rfl
set_option maxRecDepth 20000 in
set_option maxHeartbeats 4000000 in
theorem below255 (w : World) : Calls Try.prog 46 #[.int .i64 255, .int .i64 21] w fun x w' => x = .returned (.agg (bys (allB 255 21)).toArray) ∧ Kp0 w w' := by
  rw [← bel255_bys]
  have HB : Hid (bel255 = (os32.set 0 235).set 31 127) := Lib.hid rfl
  have HBL : Hid (bel255.length = 32) := Lib.hid rfl
  generalize bel255 = bl at *
  go_enter Try.func46, Try.ntmps46
  go_upto_region 2 with (fail)
  have HR0 := Lib.hid (BelR.start w)
  change Code.wp _ _ _ _ ((w.alloc (.cells (kis .u8 zs32).toArray 32)).alloc (.cells (kis .u8 zs32).toArray 32))
  generalize ((w.alloc (.cells (kis .u8 zs32).toArray 32)).alloc (.cells (kis .u8 zs32).toArray 32)) = w1 at HR0
  go_wp2
  go_loopg [7] 32 (fun g i wr => ∃ (k : Nat), i = .int .i64 k ∧ k ≤ 32 ∧ g = 32 - k ∧ BelR w (upTo k zs32 os32) wr)
  case atStart => exact ⟨0, rfl, by omega, rfl, by rw [upTo_zero]; exact HR0.out⟩
  case round =>
    obtain ⟨k, rfl, hk, rfl, hr⟩ := hrel
    have HR := Lib.hid hr
    clear hr
    by_cases h : k < 32
    · have hc1 := HR.out.2.1.cell' k (low32 k h).1
      have hf1 := HR.out.2.1.frozen k
      have H3 := Lib.hid (low32 k h).2
      go_wp2
      go_roundg (32 - (k + 1))
      case measure => omega
      case rel => exact ⟨k + 1, by go_num, by omega, rfl, H3.out ▸ HR.out.set k 255⟩
    · obtain rfl : k = 32 := by omega
      rw [upTo_all (by decide) (by decide)] at HR
      have hc0 := HR.out.2.1.cell' 0 (x := 255) rfl
      have hf0 := HR.out.2.1.frozen 0
      have hc1 := HR.out.2.1.cell' 31 (x := 255) rfl
      have hf1 := HR.out.2.1.frozen 31
      have HR2 := Lib.hid ((HR.out.set 0 235).set 31 127)
      rw [← HB.out] at HR2
      go_wp2_with (first
        | (refine wl_load_blk rfl 32 (.tmp 5) rfl (w.heap.size + 1) _ (kis .u8 bl) rfl HR2.out.2.1 _ Try.underlying32 rfl (info32 _ HBL.out) ?_)
        | (refine wl_store_blk rfl 32 (.tmp 4) (.tmp 23) rfl w.heap.size _ (kis .u8 zs32) (kis .u8 bl) rfl rfl HR2.out.1 (info32 _ HBL.out) (by rw [kis_len, kis_len, HBL.out]; rfl) (kis_ones _ _) ?_; intro w6 hA6 hK6; have HA6 := Lib.hid hA6; have HK6 := Lib.hid hK6; clear hA6 hK6))
      refine ret_blk 4 32 32 w.heap.size (kis .u8 bl) _ rfl rfl HA6.out Try.underlying32 rfl (info32 _ HBL.out) rfl ?_
      exact ⟨rfl, HR2.out.2.2.trans HK6.out (fun _ _ h => h) (fun i hi e => by omega)⟩
def bel252 : List Int := (os32.set 0 254).set 31 15
theorem bel252_bys : kis .u8 bel252 = bys (allB 252 2) := by kernel_rfl
set_option maxRecDepth 20000 in
set_option maxHeartbeats 4000000 in
theorem below252 (w : World) : Calls Try.prog 46 #[.int .i64 252, .int .i64 2] w fun x w' => x = .returned (.agg (bys (allB 252 2)).toArray) ∧ Kp0 w w' := by
  rw [← bel252_bys]
  have HB : Hid (bel252 = (os32.set 0 254).set 31 15) := Lib.hid rfl
  have HBL : Hid (bel252.length = 32) := Lib.hid rfl
  generalize bel252 = bl at *
  go_enter Try.func46, Try.ntmps46
  go_upto_region 2 with (fail)
  have HR0 := Lib.hid (BelR.start w)
  change Code.wp _ _ _ _ ((w.alloc (.cells (kis .u8 zs32).toArray 32)).alloc (.cells (kis .u8 zs32).toArray 32))
  generalize ((w.alloc (.cells (kis .u8 zs32).toArray 32)).alloc (.cells (kis .u8 zs32).toArray 32)) = w1 at HR0
  go_wp2
  go_loopg [7] 32 (fun g i wr => ∃ (k : Nat), i = .int .i64 k ∧ k ≤ 32 ∧ g = 32 - k ∧ BelR w (upTo k zs32 os32) wr)
  case atStart => exact ⟨0, rfl, by omega, rfl, by rw [upTo_zero]; exact HR0.out⟩
  case round =>
    obtain ⟨k, rfl, hk, rfl, hr⟩ := hrel
    have HR := Lib.hid hr
    clear hr
    by_cases h : k < 32
    · have hc1 := HR.out.2.1.cell' k (low32 k h).1
      have hf1 := HR.out.2.1.frozen k
      have H3 := Lib.hid (low32 k h).2
      go_wp2
      go_roundg (32 - (k + 1))
      case measure => omega
      case rel => exact ⟨k + 1, by go_num, by omega, rfl, H3.out ▸ HR.out.set k 255⟩
    · obtain rfl : k = 32 := by omega
      rw [upTo_all (by decide) (by decide)] at HR
      have hc0 := HR.out.2.1.cell' 0 (x := 255) rfl
      have hf0 := HR.out.2.1.frozen 0
      have hc1 := HR.out.2.1.cell' 31 (x := 255) rfl
      have hf1 := HR.out.2.1.frozen 31
      have HR2 := Lib.hid ((HR.out.set 0 254).set 31 15)
      rw [← HB.out] at HR2
      go_wp2_with (first
        | (refine wl_load_blk rfl 32 (.tmp 5) rfl (w.heap.size + 1) _ (kis .u8 bl) rfl HR2.out.2.1 _ Try.underlying32 rfl (info32 _ HBL.out) ?_)
        | (refine wl_store_blk rfl 32 (.tmp 4) (.tmp 23) rfl w.heap.size _ (kis .u8 zs32) (kis .u8 bl) rfl rfl HR2.out.1 (info32 _ HBL.out) (by rw [kis_len, kis_len, HBL.out]; rfl) (kis_ones _ _) ?_; intro w6 hA6 hK6; have HA6 := Lib.hid hA6; have HK6 := Lib.hid hK6; clear hA6 hK6))
      refine ret_blk 4 32 32 w.heap.size (kis .u8 bl) _ rfl rfl HA6.out Try.underlying32 rfl (info32 _ HBL.out) rfl ?_
      exact ⟨rfl, HR2.out.2.2.trans HK6.out (fun _ _ h => h) (fun i hi e => by omega)⟩
def bel253 : List Int := (os32.set 0 251).set 31 31
theorem bel253_bys : kis .u8 bel253 = bys (allB 253 5) := by kernel_rfl
set_option maxRecDepth 20000 in
set_option maxHeartbeats 4000000 in
theorem below253 (w : World) : Calls Try.prog 46 #[.int .i64 253, .int .i64 5] w fun x w' => x = .returned (.agg (bys (allB 253 5)).toArray) ∧ Kp0 w w' := by
  rw [← bel253_bys]
  have HB : Hid (bel253 = (os32.set 0 251).set 31 31) := Lib.hid rfl
  have HBL : Hid (bel253.length = 32) := Lib.hid rfl
  generalize bel253 = bl at *
  go_enter Try.func46, Try.ntmps46
  go_upto_region 2 with (fail)
  have HR0 := Lib.hid (BelR.start w)
  change Code.wp _ _ _ _ ((w.alloc (.cells (kis .u8 zs32).toArray 32)).alloc (.cells (kis .u8 zs32).toArray 32))
  generalize ((w.alloc (.cells (kis .u8 zs32).toArray 32)).alloc (.cells (kis .u8 zs32).toArray 32)) = w1 at HR0
  go_wp2
  go_loopg [7] 32 (fun g i wr => ∃ (k : Nat), i = .int .i64 k ∧ k ≤ 32 ∧ g = 32 - k ∧ BelR w (upTo k zs32 os32) wr)
  case atStart => exact ⟨0, rfl, by omega, rfl, by rw [upTo_zero]; exact HR0.out⟩
  case round =>
    obtain ⟨k, rfl, hk, rfl, hr⟩ := hrel
    have HR := Lib.hid hr
    clear hr
    by_cases h : k < 32
    · have hc1 := HR.out.2.1.cell' k (low32 k h).1
      have hf1 := HR.out.2.1.frozen k
      have H3 := Lib.hid (low32 k h).2
      go_wp2
      go_roundg (32 - (k + 1))
      case measure => omega
      case rel => exact ⟨k + 1, by go_num, by omega, rfl, H3.out ▸ HR.out.set k 255⟩
    · obtain rfl : k = 32 := by omega
      rw [upTo_all (by decide) (by decide)] at HR
      have hc0 := HR.out.2.1.cell' 0 (x := 255) rfl
      have hf0 := HR.out.2.1.frozen 0
      have hc1 := HR.out.2.1.cell' 31 (x := 255) rfl
      have hf1 := HR.out.2.1.frozen 31
      have HR2 := Lib.hid ((HR.out.set 0 251).set 31 31)
      rw [← HB.out] at HR2
      go_wp2_with (first
        | (refine wl_load_blk rfl 32 (.tmp 5) rfl (w.heap.size + 1) _ (kis .u8 bl) rfl HR2.out.2.1 _ Try.underlying32 rfl (info32 _ HBL.out) ?_)
        | (refine wl_store_blk rfl 32 (.tmp 4) (.tmp 23) rfl w.heap.size _ (kis .u8 zs32) (kis .u8 bl) rfl rfl HR2.out.1 (info32 _ HBL.out) (by rw [kis_len, kis_len, HBL.out]; rfl) (kis_ones _ _) ?_; intro w6 hA6 hK6; have HA6 := Lib.hid hA6; have HK6 := Lib.hid hK6; clear hA6 hK6))
      refine ret_blk 4 32 32 w.heap.size (kis .u8 bl) _ rfl rfl HA6.out Try.underlying32 rfl (info32 _ HBL.out) rfl ?_
      exact ⟨rfl, HR2.out.2.2.trans HK6.out (fun _ _ h => h) (fun i hi e => by omega)⟩
end Go.Proofs.Ytcnehbfcagghpaa
namespace Go.Proofs.Ytcnehbfcagghpaa
open Go Go.RowKit
theorem ret_blk2 {P : Program} {fn : Func} {R : Ending → World → Prop} {a : Act} {w : World} (t u : Tmp) (T U : TypeId) (g : Nat) (cs : List Value) (d : TypeDesc) (hr : fn.results = #[.cell t T, .tmp u]) (hx : a.tmps.getD t undef = .pointer (some ⟨g, 0, none⟩))
    (hA : Blk w g U cs) (hu : P.underlying T = some d) (hd : d.isRow = true) (hi : (P.info? T).map (·.size) = some cs.length) (hdf : a.defers = []) (v : Value) (hv : a.tmps.getD u undef = v) (hR : R (.returned (.tuple #[.agg cs.toArray, v])) w) : bodyPost P fn R .ret a w := by
  subst hv
  refine ⟨hdf, _, ?_, hR⟩
  have := run_loadVar_mid (P := P) w g 0 T cs d hA.range hu hd hi
  rw [Array.getD_eq_getD_getElem?] at hx
  simp [results, hr, hx, asAddr, this]
theorem rd_arr {w : World} {g : Nat} {T : TypeId} {l : List UInt8} (h : Blk w g T (bys l)) (hl : l.length = 32) : Rd w (.slice (some ⟨g, 0, none⟩) 32 32) (bys l) := by
  refine ⟨some ⟨g, 0, none⟩, 32, by rw [bys_len, hl], by rw [bys_len, hl]; omega, by unfold maxLen; omega, by simp, ?_⟩
  intro ad e i u hu
  cases e
  rw [show ((⟨g, 0, none⟩ : Addr).add i) = ⟨g, i, none⟩ by unfold Addr.add; split <;> simp_all, blk_cell h i]
  simpa using hu
theorem infoB32 (n less : Nat) : (Try.prog.info? 32).map (·.size) = some (bys (allB n less)).length := by rw [bys_len, allB_len]; kernel_rfl
theorem p255 (n : Nat) (h : n = 255) : 2 ^ n = 57896044618658097711785492504343953926634992332820282019728792003956564819968 := by subst h; decide +kernel
theorem leN_255 : leN (allB 255 21) = eInv := by
  have := allB_val 255 21 (by omega) (by omega) (by omega) (by omega)
  rw [p255 255 rfl] at this
  unfold eInv
  omega
theorem pow_fe (cs : List Value) (m : Nat) (v : Value) (l : List UInt8) (w : World) (h1 : Fe El cs m) (hv : Rd w v (bys l)) (hvo : ∀ g, v.ownBlock = some g → g < w.heap.size) : Calls Try.prog 47 #[.agg cs.toArray, v] w fun e w' => ∃ es, e = .returned (.agg es.toArray) ∧ Fe El es (powN (leN l) m) ∧ Kp0 w w' := by
  unfold powN
  exact pow5_any cs m v l w h1 hv hvo
/-- What stands behind the bytes of the exponent. -/
def InvS (w : World) (cs bs : List Value) (g : Nat) (wr : World) : Prop := Blk wr w.heap.size 40 cs ∧ Blk wr (w.heap.size + 1) 40 (kis .u64 z5) ∧ Blk wr g 32 bs ∧ Kp0 w wr ∧ w.heap.size + 1 < g
theorem InvS.kp0 {w wr wx : World} {cs bs : List Value} {g : Nat} (h : InvS w cs bs g wr) (hk : Kp0 wr wx) : InvS w cs bs g wx := ⟨h.1.kp0 hk, h.2.1.kp0 hk, h.2.2.1.kp0 hk, h.2.2.2.1.tr hk, h.2.2.2.2⟩
theorem InvS.drew {w wr : World} {cs bs : List Value} {g : Nat} (h : InvS w cs bs g wr) : InvS w cs bs g wr.drew := h.kp0 ((Kp.refl _ wr).drew)
theorem InvS.put {w w1 wr : World} {cs bs : List Value} {g : Nat} (h1 : Blk w1 w.heap.size 40 cs) (h2 : Blk w1 (w.heap.size + 1) 40 (kis .u64 z5)) (h3 : Kp0 w w1) (hg : g = w1.heap.size) (hb : Blk wr g 32 bs) (hk : Kp (fun b => b = g) w1 wr) : InvS w cs bs g wr := by
  have hlt := h2.lt
  exact ⟨h1.keep hk (fun e => by omega), h2.keep hk (fun e => by omega), hb, h3.trans hk (fun _ _ h => h) (fun i hi e => by have := h3.size; omega), by omega⟩
set_option maxRecDepth 20000 in
set_option maxHeartbeats 4000000 in
theorem inv_fe (cs : List Value) (m : Nat) (w : World) (h1 : Fe El cs m) : Calls Try.prog 32 #[.agg cs.toArray] w fun e w' => ∃ es, e = .returned (.agg es.toArray) ∧ Fe El es (invN m) ∧ Kp0 w w' := by
  unfold invN
  rw [← leN_255]
  have HC := Lib.hid h1
  clear h1
  go_enter Try.func32, Try.ntmps32
  go_upto_region 1 with (fail)
  have HB0 : Hid (Blk ((w.alloc (.cells cs.toArray 40)).alloc (.cells (kis .u64 z5).toArray 40)) w.heap.size 40 cs) := Lib.hid ((blk0 w 40 cs).kp0 ((Kp.refl _ _).alloc _))
  have HB1 : Hid (Blk ((w.alloc (.cells cs.toArray 40)).alloc (.cells (kis .u64 z5).toArray 40)) (w.heap.size + 1) 40 (kis .u64 z5)) := Lib.hid (ark1 w _ _ z5)
  have HK0 := Lib.hid (((Kp.refl (fun _ => False) w).alloc (.cells cs.toArray 40)).alloc (.cells (kis .u64 z5).toArray 40))
  change Code.wp _ _ _ _ ((w.alloc (.cells cs.toArray 40)).alloc (.cells (kis .u64 z5).toArray 40))
  generalize ((w.alloc (.cells cs.toArray 40)).alloc (.cells (kis .u64 z5).toArray 40)) = w0 at HB0 HB1 HK0
  go_upto_region 2 with (first
    | (go_at_call 46; refine (below255 _).mono ?_; rintro e w1 ⟨rfl, hk1⟩; have HK1 := Lib.hid hk1; clear hk1)
    | (refine wl_store_blk rfl 32 (.tmp 3) (.tmp 4) rfl w1.heap.size _ (kis .u8 zs32) (bys (allB 255 21)) rfl rfl (ark0 w1 _ zs32) (infoB32 _ _) (by rw [kis_len, bys_len, allB_len]; rfl) (bys_one _) ?_; intro w2 hA2 hK2; have HA2 := Lib.hid hA2; have HK2 := Lib.hid hK2; clear hA2 hK2))
  obtain ⟨g, hg⟩ : ∃ g, g = w1.heap.size := ⟨_, rfl⟩
  have HS : Hid (InvS w cs (bys (allB 255 21)) g w2) := Lib.hid (InvS.put (HB0.out.kp0 HK1.out) (HB1.out.kp0 HK1.out) (HK0.out.tr HK1.out) hg (by rw [hg]; exact HA2.out) (((Kp.refl (fun b => b = g) w1).alloc _).tr (by rw [hg]; exact HK2.out)))
  rw [← hg]
  clear HB0 HB1 HK0 HK1 HA2 HK2 hg
  refine wp_region_wall [3] (fun w' : World => InvS w cs (bys (allB 255 21)) g w') (.quiet 0 (.quiet 1 (.eff 2 (.wall 3 .done)))) (by kernel_rfl) (by kernel_rfl) (by kernel_rfl) (by kernel_rfl) (fun _ d _ _ _ h => by cases d <;> exact h) HS.out.drew ?_
  refine pw_quiet (v := .agg cs.toArray) rfl (by rfl) (fun wq hwq => run_load_blk 40 (.tmp 1) rfl w.heap.size _ _ rfl hwq.1 _ Try.underlying40 rfl HC.out.2.2.1) rfl ?_

  repeat (first | (refine pw_quiet (v := ?_) rfl (by rfl) (fun wq hwq => ?_) rfl ?_; rotate_left 1; (focus (go_simp; try (with_reducible rfl); done))))
  refine pw_eff rfl (by rfl) (fun K hK => ?_)
  go_simp
  refine (pow_fe cs m _ (allB 255 21) _ HC.out (rd_arr HS.out.drew.2.2.1 (allB_len _ _)) (fun g' hg' => ?_)).mono ?_
  · have := HS.out.drew.2.2.1.lt
    simp [Value.ownBlock] at hg'
    omega
  rintro e x1 ⟨es, rfl, hfe, hk1⟩
  simp only []
  have HE := Lib.hid hfe
  have HX := Lib.hid (HS.out.drew.kp0 hk1)
  clear hk1 hfe
  refine hK (fun w' : World => InvS w cs (bys (allB 255 21)) g w') _ _ (fun x h => h) HX.out ?_
  clear hK K
  refine pw_wall rfl (by rfl) (fun K hK => ?_)
  refine wp_store_blk 40 (.tmp 2) (.tmp 7) rfl (w.heap.size + 1) _ (kis .u64 z5) es rfl rfl HX.out.2.1 HE.out.2.2.1 (len_of fe_z5.2.2.1 HE.out.2.2.1) HE.out.2.2.2 ?_
  intro w7 hA7 hK7
  have HA7 := Lib.hid hA7
  have HK7 := Lib.hid hK7
  clear hA7 hK7
  refine hK _ _ ?_
  clear hK K
  refine pw_done ?_
  go_wp2
  refine ret_blk 2 40 40 (w.heap.size + 1) es _ rfl rfl HA7.out Try.underlying40 rfl HE.out.2.2.1 rfl ?_
  exact ⟨es, rfl, HE.out, HX.out.2.2.2.1.trans HK7.out (fun _ _ h => h) (fun i hi e => by omega)⟩
end Go.Proofs.Ytcnehbfcagghpaa
