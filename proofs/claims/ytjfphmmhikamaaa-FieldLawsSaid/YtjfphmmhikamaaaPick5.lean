/- Package field: Pick. -/
import Derived.Test.YtjfphmmhikamaaaOdd5
namespace Go.Proofs.Ytjfphmmhikamaaa
open Go Go.RowKit
def AddR' (w : World) (e f : List Int) (wr : World) : Prop := ArK .u64 wr w.heap.size 45 e ∧ ArK .u64 wr (w.heap.size + 1) 45 f ∧ ArK .u64 wr (w.heap.size + 1 + 1) 45 z5 ∧ Kp0 w wr
theorem AddR.swap {w wr : World} {e f : List Int} (h : AddR w e f wr) : AddR' w e f wr := h
theorem AddR'.set {w wr : World} {e f : List Int} (h : AddR' w e f wr) (i : Nat) (x : Int) : AddR' w e (f.set i x) (wr.setCell ⟨w.heap.size + 1, i, none⟩ (.int .u64 x)) := by
  obtain ⟨h1, h2, h3, h4⟩ := h
  exact ⟨h1.other (by omega) _, h2.set i x, h3.other (by omega) _, h4.at (by omega) _⟩
theorem AddR'.drew {w wr : World} {e f : List Int} (h : AddR' w e f wr) : AddR' w e f wr.drew := ⟨h.1, h.2.1, h.2.2.1, h.2.2.2.drew⟩
theorem xor_facts (b : Bool) (x y : Int) (hx : 0 ≤ x ∧ x < 18446744073709551616) (hy : 0 ≤ y ∧ y < 18446744073709551616) :
    ∃ q q' : Int, bits .xor .u64 x y = q ∧ bits .and .u64 (if b then 18446744073709551615 else 0) q = q' ∧ bits .xor .u64 y q' = (if b then x else y) := by
  obtain ⟨m, rfl⟩ := Int.eq_ofNat_of_zero_le hx.1
  obtain ⟨n, rfl⟩ := Int.eq_ofNat_of_zero_le hy.1
  have hm : m < 18446744073709551616 := by omega
  have hn : n < 18446744073709551616 := by omega
  have hq : m ^^^ n < 18446744073709551616 := Nat.xor_lt_two_pow (n := 64) hm hn
  refine ⟨((m ^^^ n : Nat) : Int), _, bits_xor_u64_nat m n hm hn, rfl, ?_⟩
  cases b with
  | true =>
    simp only [if_true]
    have := bits_and_u64_nat 18446744073709551615 (m ^^^ n) (by omega) hq
    rw [show ((18446744073709551615 : Nat) : Int) = 18446744073709551615 from rfl] at this
    rw [this, Nat.and_comm, show (m ^^^ n) &&& 18446744073709551615 = m ^^^ n from Nat.and_two_pow_sub_one_of_lt_two_pow (n := 64) hq, bits_xor_u64_nat n _ hn hq, Nat.xor_comm m n, ← Nat.xor_assoc, Nat.xor_self, Nat.zero_xor]
  | false =>
    simp only [Bool.false_eq_true, if_false]
    have := bits_and_u64_nat 0 (m ^^^ n) (by omega) hq
    rw [show ((0 : Nat) : Int) = 0 from rfl, Nat.zero_and] at this
    rw [this, bits_xor_u64_nat n 0 hn (by omega), Nat.xor_zero]
theorem pick_step (b : Bool) {e f : List Int} (he : F5.Ok e) (hf : F5.Ok f) {n : Nat} (hn : n < 5) : ∃ x y q q' r : Int, e[n]? = some x ∧ (upTo n f (if b then e else f))[n]? = some y ∧ bits .xor .u64 x y = q ∧ bits .and .u64 (if b then 18446744073709551615 else 0) q = q' ∧ bits .xor .u64 y q' = r ∧ (upTo n f (if b then e else f)).set n r = upTo (n + 1) f (if b then e else f) := by
  have h1 : n < e.length := by rw [he.1]; exact hn
  have h2 : n < f.length := by rw [hf.1]; exact hn
  obtain ⟨e1, e2⟩ := upTo_step (l := f) (m := if b then e else f) (n := n) (by cases b <;> simp [he.1, hf.1]) h2
  have hx := he.2 _ (List.getElem_mem h1)
  have hy := hf.2 _ (List.getElem_mem h2)
  obtain ⟨q, q', g1, g2, g3⟩ := xor_facts b e[n] f[n] (by omega) (by omega)
  refine ⟨_, _, q, q', _, List.getElem?_eq_getElem h1, e1, g1, g2, g3, ?_⟩
  rw [← e2]
  cases b <;> rfl
set_option maxRecDepth 20000 in
set_option maxHeartbeats 4000000 in
theorem pick5_any (b : Bool) (e f : List Int) (w : World) (he : F5.Ok e) (hf : F5.Ok f) :
    Calls Try.prog 31 #[.bool b, .agg (kis .u64 e).toArray, .agg (kis .u64 f).toArray] w fun x w' => x = .returned (.agg (kis .u64 (if b then e else f)).toArray) ∧ Kp0 w w' := by
  have HS : Hid (∀ n, n < 5 → _) := Lib.hid (fun n (hn : n < 5) => pick_step b he hf hn)
  obtain ⟨r5, hr5⟩ : ∃ r, r = (if b then e else f) := ⟨_, rfl⟩
  rw [← hr5] at HS ⊢
  have HL : Hid (e.length = 5 ∧ f.length = 5 ∧ r5.length = 5) := Lib.hid ⟨he.1, hf.1, by rw [hr5]; cases b <;> simp [he.1, hf.1]⟩
  clear he hf hr5
  go_enter Try.func31, Try.ntmps31
  go_upto_region 1 with (fail)
  have HR0 := Lib.hid (AddR.start w e f)
  change Code.wp _ _ _ _ (((w.alloc (.cells (kis .u64 e).toArray 45)).alloc (.cells (kis .u64 f).toArray 45)).alloc (.cells (kis .u64 z5).toArray 45))
  generalize (((w.alloc (.cells (kis .u64 e).toArray 45)).alloc (.cells (kis .u64 f).toArray 45)).alloc (.cells (kis .u64 z5).toArray 45)) = w1 at HR0
  have go : ∀ M : Int, M = (if b then 18446744073709551615 else 0) → Hid (∀ n, n < 5 → ∃ x y q q' r : Int, e[n]? = some x ∧ (upTo n f r5)[n]? = some y ∧ bits .xor .u64 x y = q ∧ bits .and .u64 M q = q' ∧ bits .xor .u64 y q' = r ∧ (upTo n f r5).set n r = upTo (n + 1) f r5) := fun M hM => by subst hM; exact HS
  clear HS
  cases b
  case' false => have HS := go 0 rfl
  case' true => have HS := go 18446744073709551615 rfl
  all_goals
    clear go
    go_wp2
    go_loopg [10] 5 (fun g i wr => ∃ (n : Nat), i = .int .i64 n ∧ n ≤ 5 ∧ g = 5 - n ∧ AddR' w e (upTo n f r5) wr)
    case atStart => exact ⟨0, rfl, by omega, rfl, by rw [upTo_zero]; exact HR0.out.swap⟩
    case round =>
      obtain ⟨n, rfl, hn, rfl, hr⟩ := hrel
      have HR := Lib.hid hr
      clear hr
      by_cases h : n < 5
      · obtain ⟨x, y, q, q', r, h1, h2, h3, h4, h5, h6⟩ := HS.out n h
        have hc1 := HR.out.1.cell' n h1
        have hc2 := HR.out.2.1.cell' n h2
        have hf1 := HR.out.2.1.frozen n
        have H6 := Lib.hid h6
        clear h1 h2 h6
        go_upto_region 7 with (fail)
        go_region
        all_goals
          go_wp2
          go_roundg (5 - (n + 1))
          case measure => omega
          case rel => exact ⟨n + 1, by go_num, by omega, rfl, (H6.out ▸ HR.out.set n r).drew⟩
      · obtain rfl : n = 5 := by omega
        rw [upTo_all (by rw [HL.out.2.1]; omega) (by rw [HL.out.2.2]; omega)] at HR
        go_wp2_with (first
          | (refine wl_load_blk rfl 45 (.tmp 5) rfl (w.heap.size + 1) _ _ rfl HR.out.2.1 _ Try.underlying45 rfl (infoE _ HL.out.2.2) ?_)
          | (refine wl_store_blk rfl 45 (.tmp 6) (.tmp 32) rfl (w.heap.size + 1 + 1) _ _ (kis .u64 r5) rfl rfl HR.out.2.2.1 (infoE _ HL.out.2.2) (by rw [kis_len, kis_len, HL.out.2.2]; rfl) (kis_ones _ _) ?_
             intro w7 hA7 hK7
             have HA7 := Lib.hid hA7
             have HK7 := Lib.hid hK7
             clear hA7 hK7))
        refine ret_blk 6 45 45 (w.heap.size + 1 + 1) (kis .u64 r5) _ rfl rfl HA7.out Try.underlying45 rfl (infoE _ HL.out.2.2) rfl ?_
        exact ⟨rfl, HR.out.2.2.2.trans HK7.out (fun _ _ h => h) (fun i hi e => by omega)⟩
theorem pick_fe (b : Bool) (cs ds : List Value) (m n : Nat) (w : World) (h1 : Fe El cs m) (h2 : Fe El ds n) : Calls Try.prog 31 #[.bool b, .agg cs.toArray, .agg ds.toArray] w fun e w' => e = .returned (.agg (if b then cs else ds).toArray) ∧ Kp0 w w' := by
  obtain ⟨l, hl, rfl, hlv⟩ := fe_inv h1
  obtain ⟨f, hf, rfl, hfv⟩ := fe_inv h2
  refine (pick5_any b l f w hl hf).mono fun _ _ ⟨h3, h4⟩ => ⟨?_, h4⟩
  rw [h3]
  cases b <;> rfl
end Go.Proofs.Ytjfphmmhikamaaa
