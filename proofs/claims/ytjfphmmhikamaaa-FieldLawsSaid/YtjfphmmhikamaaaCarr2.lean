/- Package field: carried. -/
import Derived.Test.YtjfphmmhikamaaaCarr
namespace Go.Proofs.Ytjfphmmhikamaaa
open Go Go.RowKit
/-- What the loop has made: the parts' own bits, what is over. -/
def lowK (n : Nat) (a b c d e : Int) : List Int := [if 0 < n then a % 2251799813685248 else 0, if 1 < n then b % 2251799813685248 else 0, if 2 < n then c % 2251799813685248 else 0, if 3 < n then d % 2251799813685248 else 0, if 4 < n then e % 2251799813685248 else 0]
def overK (n : Nat) (a b c d e : Int) : List Int := [if 0 < n then a / 2251799813685248 else 0, if 1 < n then b / 2251799813685248 else 0, if 2 < n then c / 2251799813685248 else 0, if 3 < n then d / 2251799813685248 else 0, if 4 < n then e / 2251799813685248 else 0]
theorem carr_step {n : Nat} (hn : n < 5) (a b c d e : Int) (h : ∀ x, x ∈ [a, b, c, d, e] → 0 ≤ x ∧ x < 18446744073709551616) :
    ∃ x, [a, b, c, d, e][n]? = some x ∧ (0 ≤ x ∧ x < 18446744073709551616) ∧ (lowK n a b c d e).set n (x % 2251799813685248) = lowK (n + 1) a b c d e ∧ (overK n a b c d e).set n (x / 2251799813685248) = overK (n + 1) a b c d e := by
  match n, hn with
  | 0, _ => exact ⟨a, rfl, h a (by simp), by simp [lowK], by simp [overK]⟩
  | 1, _ => exact ⟨b, rfl, h b (by simp), by simp [lowK], by simp [overK]⟩
  | 2, _ => exact ⟨c, rfl, h c (by simp), by simp [lowK], by simp [overK]⟩
  | 3, _ => exact ⟨d, rfl, h d (by simp), by simp [lowK], by simp [overK]⟩
  | 4, _ => exact ⟨e, rfl, h e (by simp), by simp [lowK], by simp [overK]⟩
def CarrR (w : World) (l lo ov : List Int) (wr : World) : Prop := ArK .u64 wr w.heap.size 45 l ∧ ArK .u64 wr (w.heap.size + 1) 45 z5 ∧ ArK .u64 wr (w.heap.size + 1 + 1) 43 lo ∧ ArK .u64 wr (w.heap.size + 1 + 1 + 1) 43 ov ∧ Kp0 w wr
theorem CarrR.start (w : World) (l : List Int) : CarrR w l z5 z5 ((((w.alloc (.cells (kis .u64 l).toArray 45)).alloc (.cells (kis .u64 z5).toArray 45)).alloc (.cells (kis .u64 z5).toArray 43)).alloc (.cells (kis .u64 z5).toArray 43)) :=
  ⟨(ark0 w _ l).kp0 ((((Kp.refl _ _).alloc _).alloc _).alloc _), (ark1 w _ _ z5).kp0 (((Kp.refl _ _).alloc _).alloc _), (ark2 w _ _ _ z5).kp0 ((Kp.refl _ _).alloc _), ark3 w _ _ _ _ z5, ((((Kp.refl _ w).alloc _).alloc _).alloc _).alloc _⟩
theorem CarrR.set {w wr : World} {l lo ov : List Int} (h : CarrR w l lo ov wr) (i : Nat) (x : Int) : CarrR w l (lo.set i x) ov (wr.setCell ⟨w.heap.size + 1 + 1, i, none⟩ (.int .u64 x)) := by
  obtain ⟨h1, h2, h3, h4, h5⟩ := h
  exact ⟨h1.other (by omega) _, h2.other (by omega) _, h3.set i x, h4.other (by omega) _, h5.at (by omega) _⟩
theorem CarrR.set2 {w wr : World} {l lo ov : List Int} (h : CarrR w l lo ov wr) (i : Nat) (x : Int) : CarrR w l lo (ov.set i x) (wr.setCell ⟨w.heap.size + 1 + 1 + 1, i, none⟩ (.int .u64 x)) := by
  obtain ⟨h1, h2, h3, h4, h5⟩ := h
  exact ⟨h1.other (by omega) _, h2.other (by omega) _, h3.other (by omega) _, h4.set i x, h5.at (by omega) _⟩
theorem CarrR.drew {w wr : World} {l lo ov : List Int} (h : CarrR w l lo ov wr) : CarrR w l lo ov wr.drew := ⟨h.1, h.2.1, h.2.2.1, h.2.2.2.1, h.2.2.2.2.drew⟩
theorem carr_fin (a b c d e : Int) (h : ∀ x, x ∈ [a, b, c, d, e] → 0 ≤ x ∧ x < 18446744073709551616) : (∀ x, x ∈ [a % 2251799813685248, b % 2251799813685248, c % 2251799813685248, d % 2251799813685248, e % 2251799813685248] → 0 ≤ x ∧ x < 2251799813685248) ∧ (∀ x, x ∈ [a / 2251799813685248, b / 2251799813685248, c / 2251799813685248, d / 2251799813685248] → 0 ≤ x ∧ x < 4611686018427387904) ∧ 0 ≤ e / 2251799813685248 ∧ e / 2251799813685248 < 72057594037927936 := by
  have ha := h a (by simp); have hb := h b (by simp); have hc := h c (by simp); have hd := h d (by simp); have he := h e (by simp)
  clear h
  refine ⟨fun x hx => ?_, fun x hx => ?_, by omega, by omega⟩ <;> simp only [List.mem_cons, List.not_mem_nil, or_false] at hx <;> omega
set_option maxRecDepth 20000 in
set_option maxHeartbeats 4000000 in
theorem carried_any (a b c d e : Int) (w : World) (h : ∀ x, x ∈ [a, b, c, d, e] → 0 ≤ x ∧ x < 18446744073709551616) :
    Calls Try.prog 56 #[.agg (kis .u64 [a, b, c, d, e]).toArray] w fun x w' => x = .returned (.agg (kis .u64 (F5.carried [a, b, c, d, e])).toArray) ∧ Kp0 w w' := by
  have HS : Hid (∀ n, n < 5 → _) := Lib.hid (fun n (hn : n < 5) => carr_step hn a b c d e h)
  have HF := Lib.hid (carr_fin a b c d e h)
  clear h
  go_enter Try.func56, Try.ntmps56
  go_upto_region 2 with (fail)
  have HR0 := Lib.hid (CarrR.start w [a, b, c, d, e])
  change Code.wp _ _ _ _ ((((w.alloc (.cells (kis .u64 [a, b, c, d, e]).toArray 45)).alloc (.cells (kis .u64 z5).toArray 45)).alloc (.cells (kis .u64 z5).toArray 43)).alloc (.cells (kis .u64 z5).toArray 43))
  generalize ((((w.alloc (.cells (kis .u64 [a, b, c, d, e]).toArray 45)).alloc (.cells (kis .u64 z5).toArray 45)).alloc (.cells (kis .u64 z5).toArray 43)).alloc (.cells (kis .u64 z5).toArray 43)) = w1 at HR0
  obtain ⟨l, hl⟩ : ∃ l, l = [a, b, c, d, e] := ⟨_, rfl⟩
  rw [← hl] at HR0
  rw [← hl] at HS
  have HL := Lib.hid hl
  clear hl
  go_wp2
  go_loopg [6] 5 (fun g i wr => ∃ (n : Nat), i = .int .i64 n ∧ n ≤ 5 ∧ g = 5 - n ∧ CarrR w l (lowK n a b c d e) (overK n a b c d e) wr)
  case atStart => exact ⟨0, rfl, by omega, rfl, HR0.out⟩
  case round =>
    obtain ⟨n, rfl, hn, rfl, hr⟩ := hrel
    have HR := Lib.hid hr
    clear hr
    by_cases h : n < 5
    · obtain ⟨x, h1, hx, h2, h3⟩ := HS.out n h
      have hc1 := HR.out.1.cell' n h1
      have hf1 := HR.out.2.2.1.frozen n
      have hf2 := HR.out.2.2.2.1.frozen n
      have hl1 : n < (lowK n a b c d e).length := h
      have hl2 : n < (overK n a b c d e).length := h
      have hc2 := HR.out.2.2.1.cell n hl1
      have hc3 := HR.out.2.2.2.1.cell n hl2
      have hm := F5.and51 x hx.1 hx.2
      have H2 := Lib.hid h2
      have H3 := Lib.hid h3
      clear h1 h2 h3
      go_upto_region 5 with (fail)
      go_region
      all_goals
        go_wp2
        go_roundg (5 - (n + 1))
        case measure => omega
        case rel => exact ⟨n + 1, by go_num, by omega, rfl, (H2.out ▸ H3.out ▸ (HR.out.set n _).set2 n _).drew⟩
    · obtain rfl : n = 5 := by omega
      have HE : Hid (lowK 5 a b c d e = [a % 2251799813685248, b % 2251799813685248, c % 2251799813685248, d % 2251799813685248, e % 2251799813685248] ∧ overK 5 a b c d e = [a / 2251799813685248, b / 2251799813685248, c / 2251799813685248, d / 2251799813685248, e / 2251799813685248]) := Lib.hid ⟨rfl, rfl⟩
      rw [HE.out.1, HE.out.2] at HR
      go_wp2_with (first
        | (refine wl_load_blk rfl 43 (.tmp 3) rfl (w.heap.size + 1 + 1) _ _ rfl HR.out.2.2.1 _ Try.underlying43 rfl (infoP _ rfl) ?_)
        | (refine wl_load_blk rfl 43 (.tmp 4) rfl (w.heap.size + 1 + 1 + 1) _ _ rfl HR.out.2.2.2.1 _ Try.underlying43 rfl (infoP _ rfl) ?_))
      refine (joined_any _ _ _ _ _ _ _ _ _ _ _ HF.out.1 HF.out.2.1 HF.out.2.2).mono ?_
      rintro x w2 ⟨rfl, hk⟩
      have HR2 := Lib.hid (HR.out.2.1.kp0 hk)
      have HK2 := Lib.hid (HR.out.2.2.2.2.tr hk)
      clear hk
      go_wp2_with (
        (refine wl_store_blk rfl 45 (.tmp 2) (.tmp 26) rfl (w.heap.size + 1) _ _ (kis .u64 (F5.carried [a, b, c, d, e])) rfl rfl HR2.out (infoE _ rfl) rfl (kis_ones _ _) ?_
         intro w7 hA7 hK7
         have HA7 := Lib.hid hA7
         have HK7 := Lib.hid hK7
         clear hA7 hK7))
      refine ret_blk 2 45 45 (w.heap.size + 1) (kis .u64 (F5.carried [a, b, c, d, e])) _ rfl rfl HA7.out Try.underlying45 rfl (infoE _ rfl) rfl ?_
      exact ⟨rfl, HK2.out.trans HK7.out (fun _ _ h => h) (fun i hi e => by omega)⟩
end Go.Proofs.Ytjfphmmhikamaaa
