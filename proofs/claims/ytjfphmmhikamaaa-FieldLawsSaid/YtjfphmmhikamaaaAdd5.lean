/- Package field: sums and differences. -/
import Derived.Test.YtjfphmmhikamaaaCarr2
import Derived.Test.YtjfphmmhikamaaaReg4
namespace Go.Proofs.Ytjfphmmhikamaaa
open Go Go.RowKit
def AddR (w : World) (l f : List Int) (wr : World) : Prop := ArK .u64 wr w.heap.size 45 l ∧ ArK .u64 wr (w.heap.size + 1) 45 f ∧ ArK .u64 wr (w.heap.size + 1 + 1) 45 z5 ∧ Kp0 w wr
theorem AddR.start (w : World) (l f : List Int) : AddR w l f (((w.alloc (.cells (kis .u64 l).toArray 45)).alloc (.cells (kis .u64 f).toArray 45)).alloc (.cells (kis .u64 z5).toArray 45)) :=
  ⟨(ark0 w _ l).kp0 (((Kp.refl _ _).alloc _).alloc _), (ark1 w _ _ f).kp0 ((Kp.refl _ _).alloc _), ark2 w _ _ _ z5, (((Kp.refl _ w).alloc _).alloc _).alloc _⟩
theorem AddR.set {w wr : World} {l f : List Int} (h : AddR w l f wr) (i : Nat) (x : Int) : AddR w (l.set i x) f (wr.setCell ⟨w.heap.size, i, none⟩ (.int .u64 x)) := by
  obtain ⟨h1, h2, h3, h4⟩ := h
  exact ⟨h1.set i x, h2.other (by omega) _, h3.other (by omega) _, h4.at (by omega) _⟩
theorem AddR.drew {w wr : World} {l f : List Int} (h : AddR w l f wr) : AddR w l f wr.drew := ⟨h.1, h.2.1, h.2.2.1, h.2.2.2.drew⟩
theorem AddR.kp0 {w wr wx : World} {l f : List Int} (h : AddR w l f wr) (hk : Kp0 wr wx) : AddR w l f wx := ⟨h.1.kp0 hk, h.2.1.kp0 hk, h.2.2.1.kp0 hk, h.2.2.2.tr hk⟩
theorem ok_five {l : List Int} (h : F5.Ok l) : ∃ a b c d e, l = [a, b, c, d, e] := F5.five l h.1
theorem carried_ok5 (m : List Int) (w : World) (hl : m.length = 5) (h : ∀ x, x ∈ m → 0 ≤ x ∧ x < 18446744073709551616) :
    Calls Try.prog 56 #[.agg (kis .u64 m).toArray] w fun x w' => x = .returned (.agg (kis .u64 (F5.carried m)).toArray) ∧ Kp0 w w' := by
  obtain ⟨a, b, c, d, e, rfl⟩ := F5.five m hl
  exact carried_any a b c d e w h
/-- The sums, part by part. -/
def sum5 (l f : List Int) : List Int := List.zipWith (· + ·) l f
theorem sum5_ok {l f : List Int} (hl : F5.Ok l) (hf : F5.Ok f) : (sum5 l f).length = 5 ∧ (∀ x, x ∈ sum5 l f → 0 ≤ x ∧ x < 18446744073709551616) ∧ F5.val (sum5 l f) = F5.val l + F5.val f := by
  obtain ⟨a, b, c, d, e, rfl, ha, hb, hc, hd, he⟩ := hl.five
  obtain ⟨p, q, r, s, t, rfl, hp, hq, hr, hs, ht⟩ := hf.five
  refine ⟨rfl, fun x hx => ?_, ?_⟩
  · simp only [sum5, List.zipWith, List.mem_cons, List.not_mem_nil, or_false] at hx
    omega
  · simp only [sum5, List.zipWith, F5.val]
    omega
theorem sum5_step {l f : List Int} (hl : F5.Ok l) (hf : F5.Ok f) {n : Nat} (hn : n < 5) : ∃ x y, (upTo n l (sum5 l f))[n]? = some x ∧ f[n]? = some y ∧ (0 ≤ x ∧ x < 2251799813947392) ∧ (0 ≤ y ∧ y < 2251799813947392) ∧ (upTo n l (sum5 l f)).set n (x + y) = upTo (n + 1) l (sum5 l f) := by
  have h1 : n < l.length := by rw [hl.1]; exact hn
  have h2 : n < f.length := by rw [hf.1]; exact hn
  obtain ⟨e1, e2⟩ := upTo_step (l := l) (m := sum5 l f) (n := n) (by rw [(sum5_ok hl hf).1, hl.1]) h1
  refine ⟨_, _, e1, List.getElem?_eq_getElem h2, hl.2 _ (List.getElem_mem _), hf.2 _ (List.getElem_mem _), ?_⟩
  rw [← e2]
  simp [sum5]
set_option maxRecDepth 20000 in
set_option maxHeartbeats 4000000 in
theorem add5_any (l f : List Int) (w : World) (hl : F5.Ok l) (hf : F5.Ok f) :
    Calls Try.prog 32 #[.agg (kis .u64 l).toArray, .agg (kis .u64 f).toArray] w fun x w' => x = .returned (.agg (kis .u64 (F5.carried (sum5 l f))).toArray) ∧ Kp0 w w' := by
  have HS : Hid (∀ n, n < 5 → _) := Lib.hid (fun n (hn : n < 5) => sum5_step hl hf hn)
  have HF := Lib.hid (sum5_ok hl hf)
  have HL := Lib.hid hl.1
  clear hl hf
  go_enter Try.func32, Try.ntmps32
  go_upto_region 1 with (fail)
  have HR0 := Lib.hid (AddR.start w l f)
  change Code.wp _ _ _ _ (((w.alloc (.cells (kis .u64 l).toArray 45)).alloc (.cells (kis .u64 f).toArray 45)).alloc (.cells (kis .u64 z5).toArray 45))
  generalize (((w.alloc (.cells (kis .u64 l).toArray 45)).alloc (.cells (kis .u64 f).toArray 45)).alloc (.cells (kis .u64 z5).toArray 45)) = w1 at HR0
  go_wp2
  go_loopg [6] 5 (fun g i wr => ∃ (n : Nat), i = .int .i64 n ∧ n ≤ 5 ∧ g = 5 - n ∧ AddR w (upTo n l (sum5 l f)) f wr)
  case atStart => exact ⟨0, rfl, by omega, rfl, by rw [upTo_zero]; exact HR0.out⟩
  case round =>
    obtain ⟨n, rfl, hn, rfl, hr⟩ := hrel
    have HR := Lib.hid hr
    clear hr
    by_cases h : n < 5
    · obtain ⟨x, y, h1, h2, hx, hy, h3⟩ := HS.out n h
      have hc1 := HR.out.1.cell' n h1
      have hc2 := HR.out.2.1.cell' n h2
      have hf1 := HR.out.1.frozen n
      have H3 := Lib.hid h3
      clear h1 h2 h3
      go_upto_region 4 with (fail)
      go_region
      all_goals
        go_wp2
        go_roundg (5 - (n + 1))
        case measure => omega
        case rel => exact ⟨n + 1, by go_num, by omega, rfl, (H3.out ▸ HR.out.set n (x + y)).drew⟩
    · obtain rfl : n = 5 := by omega
      rw [upTo_all (by rw [HL.out]; omega) (by rw [HF.out.1]; omega)] at HR
      obtain ⟨m, hm⟩ : ∃ m, m = sum5 l f := ⟨_, rfl⟩
      rw [← hm] at HR HF
      have HM := Lib.hid hm
      clear hm
      go_wp2_with (refine wl_load_blk rfl 45 (.tmp 2) rfl w.heap.size _ _ rfl HR.out.1 _ Try.underlying45 rfl (infoE _ HF.out.1) ?_)
      refine (carried_ok5 m _ HF.out.1 HF.out.2.1).mono ?_
      rintro x w2 ⟨rfl, hk⟩
      have HR2 := Lib.hid (HR.out.kp0 hk)
      have HC := Lib.hid (F5.carried_ok m HF.out.1 HF.out.2.1).1
      clear hk
      go_wp2_with (
        (refine wl_store_blk rfl 45 (.tmp 4) (.tmp 22) rfl (w.heap.size + 1 + 1) _ _ (kis .u64 (F5.carried m)) rfl rfl HR2.out.2.2.1 (infoE _ HC.out) (by rw [kis_len, kis_len, HC.out]; rfl) (kis_ones _ _) ?_
         intro w7 hA7 hK7
         have HA7 := Lib.hid hA7
         have HK7 := Lib.hid hK7
         clear hA7 hK7))
      refine ret_blk 4 45 45 (w.heap.size + 1 + 1) (kis .u64 (F5.carried m)) _ rfl rfl HA7.out Try.underlying45 rfl (infoE _ HC.out) rfl ?_
      exact ⟨by rw [HM.out], HR2.out.2.2.2.trans HK7.out (fun _ _ h => h) (fun i hi e => by omega)⟩
set_option maxHeartbeats 4000000 in
theorem prime_part (n : Nat) (w : World) (hn : n < 5) :
    Calls Try.prog 58 #[.int .i64 n] w fun x w' => x = .returned (.int .u64 (if n = 0 then 2251799813685229 else 2251799813685247)) ∧ w' = w := by
  go_enter Try.func58, Try.ntmps58
  by_cases h : n = 0
  · subst h
    go_wp2
    go_ret
    exact ⟨rfl, rfl⟩
  · rw [if_neg h]
    go_wp2
    go_ret
    exact ⟨rfl, rfl⟩
end Go.Proofs.Ytjfphmmhikamaaa
