/- Package field: joined, carried. -/
import Derived.Test.YtjfphmmhikamaaaArK
import Derived.Test.YtjfphmmhikamaaaF5
import Derived.Test.YtjfphmmhikamaaaChecked
import Derived.WalkKit
import Derived.BigRegion
import Derived.Deep.DeepCutAuto
import Derived.Deep.LoopGhost
namespace Go.Proofs.Ytjfphmmhikamaaa
open Go Go.RowKit
theorem infoP (ds : List Int) (h : ds.length = 5) : (Try.prog.info? 43).map (·.size) = some (kis .u64 ds).length := by rw [kis_len, h]; kernel_rfl
theorem infoE (ds : List Int) (h : ds.length = 5) : (Try.prog.info? 45).map (·.size) = some (kis .u64 ds).length := by rw [kis_len, h]; kernel_rfl
def z5 : List Int := [0, 0, 0, 0, 0]
/-- What joined's loop has made. -/
def joinK (n : Nat) (a b c d e p q r s t : Int) : List Int := [a + t * 19, b + (if 0 < n then p else 0), c + (if 1 < n then q else 0), d + (if 2 < n then r else 0), e + (if 3 < n then s else 0)]
theorem join_step {n : Nat} (hn : n < 4) (a b c d e p q r s t : Int) (hb : ∀ x, x ∈ [b, c, d, e] → 0 ≤ x ∧ x < 2251799813685248) (hp : ∀ x, x ∈ [p, q, r, s] → 0 ≤ x ∧ x < 4611686018427387904) :
    ∃ x y, (joinK n a b c d e p q r s t)[n + 1]? = some x ∧ [p, q, r, s, t][n]? = some y ∧ (0 ≤ x ∧ x < 2251799813685248) ∧ (0 ≤ y ∧ y < 4611686018427387904) ∧ (joinK n a b c d e p q r s t).set (n + 1) (x + y) = joinK (n + 1) a b c d e p q r s t := by
  have := hb b (by simp); have := hb c (by simp); have := hb d (by simp); have := hb e (by simp)
  have := hp p (by simp); have := hp q (by simp); have := hp r (by simp); have := hp s (by simp)
  match n, hn with
  | 0, _ => exact ⟨b, p, by simp [joinK], rfl, by omega, by omega, by simp [joinK]⟩
  | 1, _ => exact ⟨c, q, by simp [joinK], rfl, by omega, by omega, by simp [joinK]⟩
  | 2, _ => exact ⟨d, r, by simp [joinK], rfl, by omega, by omega, by simp [joinK]⟩
  | 3, _ => exact ⟨e, s, by simp [joinK], rfl, by omega, by omega, by simp [joinK]⟩
/-- What joined's loop keeps. -/
def JoinR (w : World) (cur o : List Int) (wr : World) : Prop := ArK .u64 wr w.heap.size 43 cur ∧ ArK .u64 wr (w.heap.size + 1) 43 o ∧ ArK .u64 wr (w.heap.size + 1 + 1) 45 z5 ∧ Kp0 w wr
theorem JoinR.set {w wr : World} {cur o : List Int} (h : JoinR w cur o wr) (i : Nat) (x : Int) : JoinR w (cur.set i x) o (wr.setCell ⟨w.heap.size, i, none⟩ (.int .u64 x)) := by
  obtain ⟨h1, h2, h3, h4⟩ := h
  exact ⟨h1.set i x, h2.other (by omega) _, h3.other (by omega) _, h4.at (by omega) _⟩
theorem JoinR.start (w : World) (cur o : List Int) : JoinR w cur o (((w.alloc (.cells (kis .u64 cur).toArray 43)).alloc (.cells (kis .u64 o).toArray 43)).alloc (.cells (kis .u64 z5).toArray 45)) := by
  refine ⟨?_, ?_, ?_, (((Kp.refl _ w).alloc _).alloc _).alloc _⟩
  · exact (ark0 w _ cur).kp0 (((Kp.refl _ _).alloc _).alloc _)
  · have := (ark0 (k := .u64) (w.alloc (.cells (kis .u64 cur).toArray 43)) 43 o).kp0 ((Kp.refl _ _).alloc (.cells (kis .u64 z5).toArray 45))
    rwa [show (w.alloc (.cells (kis .u64 cur).toArray 43)).heap.size = w.heap.size + 1 from by simp] at this
  · have := ark0 (k := .u64) ((w.alloc (.cells (kis .u64 cur).toArray 43)).alloc (.cells (kis .u64 o).toArray 43)) 45 z5
    rwa [show ((w.alloc (.cells (kis .u64 cur).toArray 43)).alloc (.cells (kis .u64 o).toArray 43)).heap.size = w.heap.size + 1 + 1 from by simp] at this
theorem JoinR.drew {w wr : World} {cur o : List Int} (h : JoinR w cur o wr) : JoinR w cur o wr.drew := ⟨h.1, h.2.1, h.2.2.1, h.2.2.2.drew⟩
set_option maxRecDepth 20000 in
set_option maxHeartbeats 4000000 in
theorem joined_any (a b c d e p q r s t : Int) (w : World) (hl : ∀ x, x ∈ [a, b, c, d, e] → 0 ≤ x ∧ x < 2251799813685248) (ho : ∀ x, x ∈ [p, q, r, s] → 0 ≤ x ∧ x < 4611686018427387904) (ht : 0 ≤ t ∧ t < 72057594037927936) :
    Calls Try.prog 61 #[.agg (kis .u64 [a, b, c, d, e]).toArray, .agg (kis .u64 [p, q, r, s, t]).toArray] w fun x w' => x = .returned (.agg (kis .u64 [a + t * 19, b + p, c + q, d + r, e + s]).toArray) ∧ Kp0 w w' := by
  have ha := hl a (by simp)
  have HS : Hid (∀ n, n < 4 → _) := Lib.hid (fun n (hn : n < 4) => join_step hn a b c d e p q r s t (fun x hx => hl x (by simp at hx ⊢; exact .inr hx)) ho)
  clear hl ho
  go_enter Try.func61, Try.ntmps61
  go_upto_region 1 with (fail)
  have HR0 : Hid (JoinR w [a, b, c, d, e] [p, q, r, s, t] _) := Lib.hid (JoinR.start w [a, b, c, d, e] [p, q, r, s, t])
  change Code.wp _ _ _ _ (((w.alloc (.cells (kis .u64 [a, b, c, d, e]).toArray 43)).alloc (.cells (kis .u64 [p, q, r, s, t]).toArray 43)).alloc (.cells (kis .u64 z5).toArray 45))
  generalize (((w.alloc (.cells (kis .u64 [a, b, c, d, e]).toArray 43)).alloc (.cells (kis .u64 [p, q, r, s, t]).toArray 43)).alloc (.cells (kis .u64 z5).toArray 45)) = w1 at HR0
  have hc1 := HR0.out.1.cell' 0 (x := a) rfl
  have hc2 := HR0.out.2.1.cell' 4 (x := t) rfl
  have hf1 := HR0.out.1.frozen 0
  have HR1 : Hid (JoinR w (joinK 0 a b c d e p q r s t) [p, q, r, s, t] (w1.setCell ⟨w.heap.size, 0, none⟩ (.int .u64 (a + t * 19)))) := Lib.hid (by
    have := HR0.out.set 0 (a + t * 19)
    simpa [joinK] using this)
  obtain ⟨o, ho⟩ : ∃ o, o = [p, q, r, s, t] := ⟨_, rfl⟩
  rw [← ho] at HR1
  rw [← ho] at HS
  have HO := Lib.hid ho
  clear HR0 ho
  go_upto_region 2 with (fail)
  clear hc1 hc2 hf1
  generalize w1.setCell ⟨w.heap.size, 0, none⟩ (.int .u64 (a + t * 19)) = w2 at HR1
  go_wp2
  go_loopg [13] 4 (fun g i wr => ∃ (n : Nat), i = .int .i64 n ∧ n ≤ 4 ∧ g = 4 - n ∧ JoinR w (joinK n a b c d e p q r s t) o wr)
  case atStart => exact ⟨0, rfl, by omega, rfl, HR1.out⟩
  case round =>
    obtain ⟨n, rfl, hn, rfl, hr⟩ := hrel
    have HR := Lib.hid hr
    clear hr
    by_cases h : n < 4
    · obtain ⟨x, y, h1, h2, hx, hy, h3⟩ := HS.out n h
      have hc1 := HR.out.1.cell' (n + 1) h1
      have hc2 := HR.out.2.1.cell' n h2
      have hf1 := HR.out.1.frozen (n + 1)
      have H3 := Lib.hid h3
      clear h1 h2 h3
      go_upto_region 5 with (fail)
      go_region
      all_goals
        go_wp2
        go_roundg (4 - (n + 1))
        case measure => omega
        case rel => exact ⟨n + 1, by go_num, by omega, rfl, (H3.out ▸ HR.out.set (n + 1) (x + y)).drew⟩
    · obtain rfl : n = 4 := by omega
      have HE : Hid (joinK 4 a b c d e p q r s t = [a + t * 19, b + p, c + q, d + r, e + s]) := Lib.hid rfl
      rw [HE.out] at HR
      have h5 : (kis .u64 [a + t * 19, b + p, c + q, d + r, e + s]).length = 5 := rfl
      go_wp2_with (first
        | (refine wl_load_blk rfl 43 (.tmp 2) rfl w.heap.size _ _ rfl HR.out.1 _ Try.underlying43 rfl (infoP _ rfl) ?_)
        | (refine wl_store_blk rfl 45 (.tmp 4) (.tmp 27) rfl (w.heap.size + 1 + 1) _ _ (kis .u64 [a + t * 19, b + p, c + q, d + r, e + s]) rfl rfl HR.out.2.2.1 (infoE _ rfl) rfl (kis_ones _ _) ?_
           intro w7 hA7 hK7
           have HA7 := Lib.hid hA7
           have HK7 := Lib.hid hK7
           clear hA7 hK7))
      refine ret_blk 4 45 45 (w.heap.size + 1 + 1) (kis .u64 [a + t * 19, b + p, c + q, d + r, e + s]) _ rfl rfl HA7.out Try.underlying45 rfl (infoE _ rfl) rfl ?_
      exact ⟨rfl, HR.out.2.2.2.trans HK7.out (fun _ _ h => h) (fun i hi e => by omega)⟩
end Go.Proofs.Ytjfphmmhikamaaa
