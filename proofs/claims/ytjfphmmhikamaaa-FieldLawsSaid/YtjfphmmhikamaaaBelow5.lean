/- Package field: the bytes of 2^n - less. -/
import Derived.Test.YtjfphmmhikamaaaPow5
namespace Go.Proofs.Ytjfphmmhikamaaa
open Go Go.RowKit
def zs32 : List Int := List.replicate 32 0
def os32 : List Int := List.replicate 32 255
theorem info32 (l : List Int) (h : l.length = 32) : (Try.prog.info? 70).map (·.size) = some (kis .u8 l).length := by rw [kis_len, h]; kernel_rfl
theorem low32 (n : Nat) (hn : n < 32) : (upTo n zs32 os32)[n]? = some 0 ∧ (upTo n zs32 os32).set n 255 = upTo (n + 1) zs32 os32 := by
  obtain ⟨e1, e2⟩ := upTo_step (l := zs32) (m := os32) (n := n) rfl hn
  refine ⟨by rw [e1]; exact congrArg some (show zs32[n]'hn = 0 from List.getElem_replicate (a := (0 : Int)) (n := 32) hn), ?_⟩
  rw [← e2]
  exact congrArg ((upTo n zs32 os32).set n) (show (255 : Int) = os32[n]'hn from (List.getElem_replicate (a := (255 : Int)) (n := 32) hn).symm)
def BelR (w : World) (l : List Int) (wr : World) : Prop := ArK .u8 wr w.heap.size 70 zs32 ∧ ArK .u8 wr (w.heap.size + 1) 70 l ∧ Kp0 w wr
theorem BelR.start (w : World) : BelR w zs32 ((w.alloc (.cells (kis .u8 zs32).toArray 70)).alloc (.cells (kis .u8 zs32).toArray 70)) :=
  ⟨(ark0 w _ _).kp0 ((Kp.refl _ _).alloc _), ark1 w _ _ _, ((Kp.refl _ w).alloc _).alloc _⟩
theorem BelR.set {w wr : World} {l : List Int} (h : BelR w l wr) (i : Nat) (x : Int) : BelR w (l.set i x) (wr.setCell ⟨w.heap.size + 1, i, none⟩ (.int .u8 x)) := by
  obtain ⟨h1, h2, h3⟩ := h
  exact ⟨h1.other (by omega) _, h2.set i x, h3.at (by omega) _⟩
def bel255 : List Int := (os32.set 0 235).set 31 127
theorem bel255_bys : kis .u8 bel255 = bys (allB 255 21) := by kernel_rfl
set_option maxRecDepth 20000 in
set_option maxHeartbeats 4000000 in
theorem below255 (w : World) : Calls Try.prog 62 #[.int .i64 255, .int .i64 21] w fun x w' => x = .returned (.agg (bys (allB 255 21)).toArray) ∧ Kp0 w w' := by
  rw [← bel255_bys]
  have HB : Hid (bel255 = (os32.set 0 235).set 31 127) := Lib.hid rfl
  have HBL : Hid (bel255.length = 32) := Lib.hid rfl
  generalize bel255 = bl at *
  go_enter Try.func62, Try.ntmps62
  go_upto_region 2 with (fail)
  have HR0 := Lib.hid (BelR.start w)
  change Code.wp _ _ _ _ ((w.alloc (.cells (kis .u8 zs32).toArray 70)).alloc (.cells (kis .u8 zs32).toArray 70))
  generalize ((w.alloc (.cells (kis .u8 zs32).toArray 70)).alloc (.cells (kis .u8 zs32).toArray 70)) = w1 at HR0
  go_wp2
  go_loopg [7] 32 (fun g i wr => ∃ (k : Nat), i = .int .i64 k ∧ k ≤ 32 ∧ g = 32 - k ∧ BelR w (upTo k zs32 os32) wr)
  case atStart => exact ⟨0, rfl, by omega, rfl, by rw [upTo_zero]; exact HR0.out⟩
  case round =>
    obtain ⟨k, rfl, hk, rfl, hr⟩ := hrel
    have HR := Lib.hid hr
    clear hr
    by_cases h : k < 32
    · have hc1 := HR.out.2.1.cell' k (low32 k h).1
      have hf1 := HR.out.2.1.frozen k
      have H3 := Lib.hid (low32 k h).2
      go_wp2
      go_roundg (32 - (k + 1))
      case measure => omega
      case rel => exact ⟨k + 1, by go_num, by omega, rfl, H3.out ▸ HR.out.set k 255⟩
    · obtain rfl : k = 32 := by omega
      rw [upTo_all (by decide) (by decide)] at HR
      have hc0 := HR.out.2.1.cell' 0 (x := 255) rfl
      have hf0 := HR.out.2.1.frozen 0
      have hc1 := HR.out.2.1.cell' 31 (x := 255) rfl
      have hf1 := HR.out.2.1.frozen 31
      have HR2 := Lib.hid ((HR.out.set 0 235).set 31 127)
      rw [← HB.out] at HR2
      go_wp2_with (first
        | (refine wl_load_blk rfl 70 (.tmp 5) rfl (w.heap.size + 1) _ (kis .u8 bl) rfl HR2.out.2.1 _ Try.underlying70 rfl (info32 _ HBL.out) ?_)
        | (refine wl_store_blk rfl 70 (.tmp 4) (.tmp 23) rfl w.heap.size _ (kis .u8 zs32) (kis .u8 bl) rfl rfl HR2.out.1 (info32 _ HBL.out) (by rw [kis_len, kis_len, HBL.out]; rfl) (kis_ones _ _) ?_; intro w6 hA6 hK6; have HA6 := Lib.hid hA6; have HK6 := Lib.hid hK6; clear hA6 hK6))
      refine ret_blk 4 70 70 w.heap.size (kis .u8 bl) _ rfl rfl HA6.out Try.underlying70 rfl (info32 _ HBL.out) rfl ?_
      exact ⟨rfl, HR2.out.2.2.trans HK6.out (fun _ _ h => h) (fun i hi e => by omega)⟩
def bel252 : List Int := (os32.set 0 254).set 31 15
theorem bel252_bys : kis .u8 bel252 = bys (allB 252 2) := by kernel_rfl
set_option maxRecDepth 20000 in
set_option maxHeartbeats 4000000 in
theorem below252 (w : World) : Calls Try.prog 62 #[.int .i64 252, .int .i64 2] w fun x w' => x = .returned (.agg (bys (allB 252 2)).toArray) ∧ Kp0 w w' := by
  rw [← bel252_bys]
  have HB : Hid (bel252 = (os32.set 0 254).set 31 15) := Lib.hid rfl
  have HBL : Hid (bel252.length = 32) := Lib.hid rfl
  generalize bel252 = bl at *
  go_enter Try.func62, Try.ntmps62
  go_upto_region 2 with (fail)
  have HR0 := Lib.hid (BelR.start w)
  change Code.wp _ _ _ _ ((w.alloc (.cells (kis .u8 zs32).toArray 70)).alloc (.cells (kis .u8 zs32).toArray 70))
  generalize ((w.alloc (.cells (kis .u8 zs32).toArray 70)).alloc (.cells (kis .u8 zs32).toArray 70)) = w1 at HR0
  go_wp2
  go_loopg [7] 32 (fun g i wr => ∃ (k : Nat), i = .int .i64 k ∧ k ≤ 32 ∧ g = 32 - k ∧ BelR w (upTo k zs32 os32) wr)
  case atStart => exact ⟨0, rfl, by omega, rfl, by rw [upTo_zero]; exact HR0.out⟩
  case round =>
    obtain ⟨k, rfl, hk, rfl, hr⟩ := hrel
    have HR := Lib.hid hr
    clear hr
    by_cases h : k < 32
    · have hc1 := HR.out.2.1.cell' k (low32 k h).1
      have hf1 := HR.out.2.1.frozen k
      have H3 := Lib.hid (low32 k h).2
      go_wp2
      go_roundg (32 - (k + 1))
      case measure => omega
      case rel => exact ⟨k + 1, by go_num, by omega, rfl, H3.out ▸ HR.out.set k 255⟩
    · obtain rfl : k = 32 := by omega
      rw [upTo_all (by decide) (by decide)] at HR
      have hc0 := HR.out.2.1.cell' 0 (x := 255) rfl
      have hf0 := HR.out.2.1.frozen 0
      have hc1 := HR.out.2.1.cell' 31 (x := 255) rfl
      have hf1 := HR.out.2.1.frozen 31
      have HR2 := Lib.hid ((HR.out.set 0 254).set 31 15)
      rw [← HB.out] at HR2
      go_wp2_with (first
        | (refine wl_load_blk rfl 70 (.tmp 5) rfl (w.heap.size + 1) _ (kis .u8 bl) rfl HR2.out.2.1 _ Try.underlying70 rfl (info32 _ HBL.out) ?_)
        | (refine wl_store_blk rfl 70 (.tmp 4) (.tmp 23) rfl w.heap.size _ (kis .u8 zs32) (kis .u8 bl) rfl rfl HR2.out.1 (info32 _ HBL.out) (by rw [kis_len, kis_len, HBL.out]; rfl) (kis_ones _ _) ?_; intro w6 hA6 hK6; have HA6 := Lib.hid hA6; have HK6 := Lib.hid hK6; clear hA6 hK6))
      refine ret_blk 4 70 70 w.heap.size (kis .u8 bl) _ rfl rfl HA6.out Try.underlying70 rfl (info32 _ HBL.out) rfl ?_
      exact ⟨rfl, HR2.out.2.2.trans HK6.out (fun _ _ h => h) (fun i hi e => by omega)⟩
def bel253 : List Int := (os32.set 0 251).set 31 31
theorem bel253_bys : kis .u8 bel253 = bys (allB 253 5) := by kernel_rfl
set_option maxRecDepth 20000 in
set_option maxHeartbeats 4000000 in
theorem below253 (w : World) : Calls Try.prog 62 #[.int .i64 253, .int .i64 5] w fun x w' => x = .returned (.agg (bys (allB 253 5)).toArray) ∧ Kp0 w w' := by
  rw [← bel253_bys]
  have HB : Hid (bel253 = (os32.set 0 251).set 31 31) := Lib.hid rfl
  have HBL : Hid (bel253.length = 32) := Lib.hid rfl
  generalize bel253 = bl at *
  go_enter Try.func62, Try.ntmps62
  go_upto_region 2 with (fail)
  have HR0 := Lib.hid (BelR.start w)
  change Code.wp _ _ _ _ ((w.alloc (.cells (kis .u8 zs32).toArray 70)).alloc (.cells (kis .u8 zs32).toArray 70))
  generalize ((w.alloc (.cells (kis .u8 zs32).toArray 70)).alloc (.cells (kis .u8 zs32).toArray 70)) = w1 at HR0
  go_wp2
  go_loopg [7] 32 (fun g i wr => ∃ (k : Nat), i = .int .i64 k ∧ k ≤ 32 ∧ g = 32 - k ∧ BelR w (upTo k zs32 os32) wr)
  case atStart => exact ⟨0, rfl, by omega, rfl, by rw [upTo_zero]; exact HR0.out⟩
  case round =>
    obtain ⟨k, rfl, hk, rfl, hr⟩ := hrel
    have HR := Lib.hid hr
    clear hr
    by_cases h : k < 32
    · have hc1 := HR.out.2.1.cell' k (low32 k h).1
      have hf1 := HR.out.2.1.frozen k
      have H3 := Lib.hid (low32 k h).2
      go_wp2
      go_roundg (32 - (k + 1))
      case measure => omega
      case rel => exact ⟨k + 1, by go_num, by omega, rfl, H3.out ▸ HR.out.set k 255⟩
    · obtain rfl : k = 32 := by omega
      rw [upTo_all (by decide) (by decide)] at HR
      have hc0 := HR.out.2.1.cell' 0 (x := 255) rfl
      have hf0 := HR.out.2.1.frozen 0
      have hc1 := HR.out.2.1.cell' 31 (x := 255) rfl
      have hf1 := HR.out.2.1.frozen 31
      have HR2 := Lib.hid ((HR.out.set 0 251).set 31 31)
      rw [← HB.out] at HR2
      go_wp2_with (first
        | (refine wl_load_blk rfl 70 (.tmp 5) rfl (w.heap.size + 1) _ (kis .u8 bl) rfl HR2.out.2.1 _ Try.underlying70 rfl (info32 _ HBL.out) ?_)
        | (refine wl_store_blk rfl 70 (.tmp 4) (.tmp 23) rfl w.heap.size _ (kis .u8 zs32) (kis .u8 bl) rfl rfl HR2.out.1 (info32 _ HBL.out) (by rw [kis_len, kis_len, HBL.out]; rfl) (kis_ones _ _) ?_; intro w6 hA6 hK6; have HA6 := Lib.hid hA6; have HK6 := Lib.hid hK6; clear hA6 hK6))
      refine ret_blk 4 70 70 w.heap.size (kis .u8 bl) _ rfl rfl HA6.out Try.underlying70 rfl (info32 _ HBL.out) rfl ?_
      exact ⟨rfl, HR2.out.2.2.trans HK6.out (fun _ _ h => h) (fun i hi e => by omega)⟩
end Go.Proofs.Ytjfphmmhikamaaa
