/- Package field: differences. -/
import Derived.Test.YtjfphmmhikamaaaAdd5
namespace Go.Proofs.Ytjfphmmhikamaaa
open Go Go.RowKit
def pp2 (n : Nat) : Int := if n = 0 then 2251799813685229 else 2251799813685247
/-- The differences, part by part, with twice the prime. -/
def diff5 : List Int → List Int → List Int
  | [a, b, c, d, e], [p, q, r, s, t] => [a + (4503599627370458 - p), b + (4503599627370494 - q), c + (4503599627370494 - r), d + (4503599627370494 - s), e + (4503599627370494 - t)]
  | l, _ => l
theorem diff5_ok {l f : List Int} (hl : F5.Ok l) (hf : F5.Ok f) : (diff5 l f).length = 5 ∧ (∀ x, x ∈ diff5 l f → 0 ≤ x ∧ x < 18446744073709551616) ∧ F5.val (diff5 l f) = F5.val l - F5.val f + 115792089237316195423570985008687907853269984665640564039457584007913129639898 := by
  obtain ⟨a, b, c, d, e, rfl, ha, hb, hc, hd, he⟩ := hl.five
  obtain ⟨p, q, r, s, t, rfl, hp, hq, hr, hs, ht⟩ := hf.five
  refine ⟨rfl, fun x hx => ?_, ?_⟩
  · simp only [diff5, List.mem_cons, List.not_mem_nil, or_false] at hx
    omega
  · simp only [diff5, F5.val]
    omega
theorem diff5_step {l f : List Int} (hl : F5.Ok l) (hf : F5.Ok f) {n : Nat} (hn : n < 5) : ∃ x y c, (upTo n l (diff5 l f))[n]? = some x ∧ f[n]? = some y ∧ (0 ≤ x ∧ x < 2251799813947392) ∧ (0 ≤ y ∧ y < 2251799813947392) ∧ (2251799813685229 ≤ c ∧ c ≤ 2251799813685247) ∧ c = pp2 n ∧ (upTo n l (diff5 l f)).set n (x + (2 * c - y)) = upTo (n + 1) l (diff5 l f) := by
  obtain ⟨a, b, c, d, e, rfl, ha, hb, hc, hd, he⟩ := hl.five
  obtain ⟨p, q, r, s, t, rfl, hp, hq, hr, hs, ht⟩ := hf.five
  match n, hn with
  | 0, _ => exact ⟨a, p, _, rfl, rfl, ha, hp, ⟨by decide, by decide⟩, rfl, rfl⟩
  | 1, _ => exact ⟨b, q, _, rfl, rfl, hb, hq, ⟨by decide, by decide⟩, rfl, rfl⟩
  | 2, _ => exact ⟨c, r, _, rfl, rfl, hc, hr, ⟨by decide, by decide⟩, rfl, rfl⟩
  | 3, _ => exact ⟨d, s, _, rfl, rfl, hd, hs, ⟨by decide, by decide⟩, rfl, rfl⟩
  | 4, _ => exact ⟨e, t, _, rfl, rfl, he, ht, ⟨by decide, by decide⟩, rfl, rfl⟩
set_option maxRecDepth 20000 in
set_option maxHeartbeats 4000000 in
theorem sub5_any (l f : List Int) (w : World) (hl : F5.Ok l) (hf : F5.Ok f) :
    Calls Try.prog 34 #[.agg (kis .u64 l).toArray, .agg (kis .u64 f).toArray] w fun x w' => x = .returned (.agg (kis .u64 (F5.carried (diff5 l f))).toArray) ∧ Kp0 w w' := by
  have HS : Hid (∀ n, n < 5 → _) := Lib.hid (fun n (hn : n < 5) => diff5_step hl hf hn)
  have HF := Lib.hid (diff5_ok hl hf)
  have HL := Lib.hid hl.1
  clear hl hf
  go_enter Try.func34, Try.ntmps34
  go_upto_region 1 with (fail)
  have HR0 := Lib.hid (AddR.start w l f)
  change Code.wp _ _ _ _ (((w.alloc (.cells (kis .u64 l).toArray 45)).alloc (.cells (kis .u64 f).toArray 45)).alloc (.cells (kis .u64 z5).toArray 45))
  generalize (((w.alloc (.cells (kis .u64 l).toArray 45)).alloc (.cells (kis .u64 f).toArray 45)).alloc (.cells (kis .u64 z5).toArray 45)) = w1 at HR0
  go_wp2
  go_loopg [6] 5 (fun g i wr => ∃ (n : Nat), i = .int .i64 n ∧ n ≤ 5 ∧ g = 5 - n ∧ AddR w (upTo n l (diff5 l f)) f wr)
  case atStart => exact ⟨0, rfl, by omega, rfl, by rw [upTo_zero]; exact HR0.out⟩
  case round =>
    obtain ⟨n, rfl, hn, rfl, hr⟩ := hrel
    have HR := Lib.hid hr
    clear hr
    by_cases h : n < 5
    · obtain ⟨x, y, c, h1, h2, hx, hy, hc, h4, h3⟩ := HS.out n h
      obtain ⟨cur, hcur⟩ : ∃ cur, cur = upTo n l (diff5 l f) := ⟨_, rfl⟩
      rw [← hcur] at HR h1 h3
      have H1 := Lib.hid h1
      have H2 := Lib.hid h2
      have H3 := Lib.hid h3
      have H4 := Lib.hid h4
      clear h1 h2 h3 h4 hcur
      go_upto_region 4 with (fail)
      refine wp_region_wall [15] (fun w' : World => AddR w cur f w') (.quiet 0 (.quiet 1 (.quiet 2 (.quiet 3 (.quiet 4 (.quiet 7 (.quiet 8 (.quiet 9 (.quiet 10 (.quiet 13 (.eff 5 (.quiet 6 (.quiet 11 (.quiet 12 (.quiet 14 (.wall 15 .done)))))))))))))))) (by kernel_rfl) (by kernel_rfl) (by kernel_rfl) (by kernel_rfl) (fun _ d _ _ _ h => by cases d <;> exact h) HR.out.drew ?_
      repeat (first
        | (refine pw_quiet (v := .int .u64 x) rfl (by rfl) (fun wq hwq => ?_) rfl ?_; focus (have hcq := hwq.1.cell' n H1.out; go_simp; done))
        | (refine pw_quiet (v := .int .u64 y) rfl (by rfl) (fun wq hwq => ?_) rfl ?_; focus (have hcq := hwq.2.1.cell' n H2.out; go_simp; done))
        | (refine pw_quiet (v := ?_) rfl (by rfl) (fun wq hwq => ?_) rfl ?_; rotate_left 1; (focus (go_simp; try (with_reducible rfl); done)); simp only [List.setIfInBounds_toArray, List.set_cons_zero, List.set_cons_succ]))
      refine pw_eff rfl (by rfl) (fun K hK => ?_)
      go_simp
      refine (prime_part n _ h).mono ?_
      rintro e x1 ⟨rfl, rfl⟩
      simp only []
      rw [show (if n = 0 then (2251799813685229 : Int) else 2251799813685247) = c from H4.out.symm]
      refine hK (fun w' : World => AddR w cur f w') _ _ (fun x h => h) HR.out.drew ?_
      clear hK K
      repeat (first
        | (refine pw_quiet (v := ?_) rfl (by rfl) (fun wq hwq => ?_) rfl ?_; rotate_left 1; (focus (go_simp; try (with_reducible rfl); done)); simp only [List.setIfInBounds_toArray, List.set_cons_zero, List.set_cons_succ]))
      have hc1 := HR.out.1.drew.cell' n H1.out
      have hf1 := HR.out.1.drew.frozen n
      refine pw_wall rfl (by rfl) (fun K hK => ?_)
      go_simp
      refine hK _ _ ?_
      clear hK K
      refine pw_done ?_
      go_simp
      go_wp2
      go_roundg (5 - (n + 1))
      case measure => omega
      case rel => exact ⟨n + 1, by go_num, by omega, rfl, (H3.out ▸ HR.out.set n (x + (2 * c - y))).drew⟩
    · obtain rfl : n = 5 := by omega
      rw [upTo_all (by rw [HL.out]; omega) (by rw [HF.out.1]; omega)] at HR
      obtain ⟨m, hm⟩ : ∃ m, m = diff5 l f := ⟨_, rfl⟩
      rw [← hm] at HR HF
      have HM := Lib.hid hm
      clear hm
      go_wp2_with (refine wl_load_blk rfl 45 (.tmp 2) rfl w.heap.size _ _ rfl HR.out.1 _ Try.underlying45 rfl (infoE _ HF.out.1) ?_)
      refine (carried_ok5 m _ HF.out.1 HF.out.2.1).mono ?_
      rintro x w2 ⟨rfl, hk⟩
      have HR2 := Lib.hid (HR.out.kp0 hk)
      have HC := Lib.hid (F5.carried_ok m HF.out.1 HF.out.2.1).1
      clear hk
      go_wp2_with (
        (refine wl_store_blk rfl 45 (.tmp 4) (.tmp 26) rfl (w.heap.size + 1 + 1) _ _ (kis .u64 (F5.carried m)) rfl rfl HR2.out.2.2.1 (infoE _ HC.out) (by rw [kis_len, kis_len, HC.out]; rfl) (kis_ones _ _) ?_
         intro w7 hA7 hK7
         have HA7 := Lib.hid hA7
         have HK7 := Lib.hid hK7
         clear hA7 hK7))
      refine ret_blk 4 45 45 (w.heap.size + 1 + 1) (kis .u64 (F5.carried m)) _ rfl rfl HA7.out Try.underlying45 rfl (infoE _ HC.out) rfl ?_
      exact ⟨by rw [HM.out], HR2.out.2.2.2.trans HK7.out (fun _ _ h => h) (fun i hi e => by omega)⟩
end Go.Proofs.Ytjfphmmhikamaaa
