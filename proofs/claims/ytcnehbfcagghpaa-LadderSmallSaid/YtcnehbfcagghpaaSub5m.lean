/- Package field: joined, carried. Package field: carried. Package field: sums and differences. Package field: differences. -/
import Derived.Test.YtcnehbfcagghpaaArK
import Derived.Test.YtcnehbfcagghpaaF5
import Derived.Test.YtcnehbfcagghpaaChecked
import Derived.WalkKit
import Derived.BigRegion
import Derived.Deep.DeepCutAuto
import Derived.Deep.LoopGhost
import Derived.Test.YtcnehbfcagghpaaRegs
namespace Go.Proofs.Ytcnehbfcagghpaa
open Go Go.RowKit
theorem infoP (ds : List Int) (h : ds.length = 5) : (Try.prog.info? 38).map (·.size) = some (kis .u64 ds).length := by rw [kis_len, h]; kernel_rfl
theorem infoE (ds : List Int) (h : ds.length = 5) : (Try.prog.info? 40).map (·.size) = some (kis .u64 ds).length := by rw [kis_len, h]; kernel_rfl
def z5 : List Int := [0, 0, 0, 0, 0]
/-- What joined's loop has made. -/
def joinK (n : Nat) (a b c d e p q r s t : Int) : List Int := [a + t * 19, b + (if 0 < n then p else 0), c + (if 1 < n then q else 0), d + (if 2 < n then r else 0), e + (if 3 < n then s else 0)]
theorem join_step {n : Nat} (hn : n < 4) (a b c d e p q r s t : Int) (hb : ∀ x, x ∈ [b, c, d, e] → 0 ≤ x ∧ x < 2251799813685248) (hp : ∀ x, x ∈ [p, q, r, s] → 0 ≤ x ∧ x < 4611686018427387904) :
    ∃ x y, (joinK n a b c d e p q r s t)[n + 1]? = some x ∧ [p, q, r, s, t][n]? = some y ∧ (0 ≤ x ∧ x < 2251799813685248) ∧ (0 ≤ y ∧ y < 4611686018427387904) ∧ (joinK n a b c d e p q r s t).set (n + 1) (x + y) = joinK (n + 1) a b c d e p q r s t := by
  have := hb b (by simp); have := hb c (by simp); have := hb d (by simp); have := hb e (by simp)
  have := hp p (by simp); have := hp q (by simp); have := hp r (by simp); have := hp s (by simp)
  match n, hn with
  | 0, _ => exact ⟨b, p, by simp [joinK], rfl, by omega, by omega, by simp [joinK]⟩
  | 1, _ => exact ⟨c, q, by simp [joinK], rfl, by omega, by omega, by simp [joinK]⟩
  | 2, _ => exact ⟨d, r, by simp [joinK], rfl, by omega, by omega, by simp [joinK]⟩
  | 3, _ => exact ⟨e, s, by simp [joinK], rfl, by omega, by omega, by simp [joinK]⟩
/-- What joined's loop keeps. -/
def JoinR (w : World) (cur o : List Int) (wr : World) : Prop := ArK .u64 wr w.heap.size 38 cur ∧ ArK .u64 wr (w.heap.size + 1) 38 o ∧ ArK .u64 wr (w.heap.size + 1 + 1) 40 z5 ∧ Kp0 w wr
theorem JoinR.set {w wr : World} {cur o : List Int} (h : JoinR w cur o wr) (i : Nat) (x : Int) : JoinR w (cur.set i x) o (wr.setCell ⟨w.heap.size, i, none⟩ (.int .u64 x)) := by
  obtain ⟨h1, h2, h3, h4⟩ := h
  exact ⟨h1.set i x, h2.other (by omega) _, h3.other (by omega) _, h4.at (by omega) _⟩
theorem JoinR.start (w : World) (cur o : List Int) : JoinR w cur o (((w.alloc (.cells (kis .u64 cur).toArray 38)).alloc (.cells (kis .u64 o).toArray 38)).alloc (.cells (kis .u64 z5).toArray 40)) := by
  refine ⟨?_, ?_, ?_, (((Kp.refl _ w).alloc _).alloc _).alloc _⟩
  · exact (ark0 w _ cur).kp0 (((Kp.refl _ _).alloc _).alloc _)
  · have := (ark0 (k := .u64) (w.alloc (.cells (kis .u64 cur).toArray 38)) 38 o).kp0 ((Kp.refl _ _).alloc (.cells (kis .u64 z5).toArray 40))
    rwa [show (w.alloc (.cells (kis .u64 cur).toArray 38)).heap.size = w.heap.size + 1 from by simp] at this
  · have := ark0 (k := .u64) ((w.alloc (.cells (kis .u64 cur).toArray 38)).alloc (.cells (kis .u64 o).toArray 38)) 40 z5
    rwa [show ((w.alloc (.cells (kis .u64 cur).toArray 38)).alloc (.cells (kis .u64 o).toArray 38)).heap.size = w.heap.size + 1 + 1 from by simp] at this
theorem JoinR.drew {w wr : World} {cur o : List Int} (h : JoinR w cur o wr) : JoinR w cur o wr.drew := ⟨h.1, h.2.1, h.2.2.1, h.2.2.2.drew⟩
set_option maxRecDepth 20000 in
set_option maxHeartbeats 4000000 in
theorem joined_any (a b c d e p q r s t : Int) (w : World) (hl : ∀ x, x ∈ [a, b, c, d, e] → 0 ≤ x ∧ x < 2251799813685248) (ho : ∀ x, x ∈ [p, q, r, s] → 0 ≤ x ∧ x < 4611686018427387904) (ht : 0 ≤ t ∧ t < 72057594037927936) :
    Calls Try.prog 44 #[.agg (kis .u64 [a, b, c, d, e]).toArray, .agg (kis .u64 [p, q, r, s, t]).toArray] w fun x w' => x = .returned (.agg (kis .u64 [a + t * 19, b + p, c + q, d + r, e + s]).toArray) ∧ Kp0 w w' := by
  have ha := hl a (by simp)
  have HS : Hid (∀ n, n < 4 → _) := Lib.hid (fun n (hn : n < 4) => join_step hn a b c d e p q r s t (fun x hx => hl x (by simp at hx ⊢; exact .inr hx)) ho)
  clear hl ho
  go_enter Try.func44, Try.ntmps44
  go_upto_region 1 with (fail)
  have HR0 : Hid (JoinR w [a, b, c, d, e] [p, q, r, s, t] _) := Lib.hid (JoinR.start w [a, b, c, d, e] [p, q, r, s, t])
  change Code.wp _ _ _ _ (((w.alloc (.cells (kis .u64 [a, b, c, d, e]).toArray 38)).alloc (.cells (kis .u64 [p, q, r, s, t]).toArray 38)).alloc (.cells (kis .u64 z5).toArray 40))
  generalize (((w.alloc (.cells (kis .u64 [a, b, c, d, e]).toArray 38)).alloc (.cells (kis .u64 [p, q, r, s, t]).toArray 38)).alloc (.cells (kis .u64 z5).toArray 40)) = w1 at HR0
  have hc1 := HR0.out.1.cell' 0 (x := a) rfl
  have hc2 := HR0.out.2.1.cell' 4 (x := t) rfl
  have hf1 := HR0.out.1.frozen 0
  have HR1 : Hid (JoinR w (joinK 0 a b c d e p q r s t) [p, q, r, s, t] (w1.setCell ⟨w.heap.size, 0, none⟩ (.int .u64 (a + t * 19)))) := Lib.hid (by
    have := HR0.out.set 0 (a + t * 19)
    simpa [joinK] using this)
  obtain ⟨o, ho⟩ : ∃ o, o = [p, q, r, s, t] := ⟨_, rfl⟩
  rw [← ho] at HR1
  rw [← ho] at HS
  have HO := Lib.hid ho
  clear HR0 ho
  go_upto_region 2 with (fail)
  clear hc1 hc2 hf1
  generalize w1.setCell ⟨w.heap.size, 0, none⟩ (.int .u64 (a + t * 19)) = w2 at HR1
  go_wp2
  go_loopg [13] 4 (fun g i wr => ∃ (n : Nat), i = .int .i64 n ∧ n ≤ 4 ∧ g = 4 - n ∧ JoinR w (joinK n a b c d e p q r s t) o wr)
  case atStart => exact ⟨0, rfl, by omega, rfl, HR1.out⟩
  case round =>
    obtain ⟨n, rfl, hn, rfl, hr⟩ := hrel
    have HR := Lib.hid hr
    clear hr
    by_cases h : n < 4
    · obtain ⟨x, y, h1, h2, hx, hy, h3⟩ := HS.out n h
      have hc1 := HR.out.1.cell' (n + 1) h1
      have hc2 := HR.out.2.1.cell' n h2
      have hf1 := HR.out.1.frozen (n + 1)
      have H3 := Lib.hid h3
      clear h1 h2 h3
      go_upto_region 5 with (fail)
      go_region
      all_goals
        go_wp2
        go_roundg (4 - (n + 1))
        case measure => omega
        case rel => exact ⟨n + 1, by go_num, by omega, rfl, (H3.out ▸ HR.out.set (n + 1) (x + y)).drew⟩
    · obtain rfl : n = 4 := by omega
      have HE : Hid (joinK 4 a b c d e p q r s t = [a + t * 19, b + p, c + q, d + r, e + s]) := Lib.hid rfl
      rw [HE.out] at HR
      have h5 : (kis .u64 [a + t * 19, b + p, c + q, d + r, e + s]).length = 5 := rfl
      go_wp2_with (first
        | (refine wl_load_blk rfl 38 (.tmp 2) rfl w.heap.size _ _ rfl HR.out.1 _ Try.underlying38 rfl (infoP _ rfl) ?_)
        | (refine wl_store_blk rfl 40 (.tmp 4) (.tmp 27) rfl (w.heap.size + 1 + 1) _ _ (kis .u64 [a + t * 19, b + p, c + q, d + r, e + s]) rfl rfl HR.out.2.2.1 (infoE _ rfl) rfl (kis_ones _ _) ?_
           intro w7 hA7 hK7
           have HA7 := Lib.hid hA7
           have HK7 := Lib.hid hK7
           clear hA7 hK7))
      refine ret_blk 4 40 40 (w.heap.size + 1 + 1) (kis .u64 [a + t * 19, b + p, c + q, d + r, e + s]) _ rfl rfl HA7.out Try.underlying40 rfl (infoE _ rfl) rfl ?_
      exact ⟨rfl, HR.out.2.2.2.trans HK7.out (fun _ _ h => h) (fun i hi e => by omega)⟩
end Go.Proofs.Ytcnehbfcagghpaa
namespace Go.Proofs.Ytcnehbfcagghpaa
open Go Go.RowKit
/-- What the loop has made: the parts' own bits, what is over. -/
def lowK (n : Nat) (a b c d e : Int) : List Int := [if 0 < n then a % 2251799813685248 else 0, if 1 < n then b % 2251799813685248 else 0, if 2 < n then c % 2251799813685248 else 0, if 3 < n then d % 2251799813685248 else 0, if 4 < n then e % 2251799813685248 else 0]
def overK (n : Nat) (a b c d e : Int) : List Int := [if 0 < n then a / 2251799813685248 else 0, if 1 < n then b / 2251799813685248 else 0, if 2 < n then c / 2251799813685248 else 0, if 3 < n then d / 2251799813685248 else 0, if 4 < n then e / 2251799813685248 else 0]
theorem carr_step {n : Nat} (hn : n < 5) (a b c d e : Int) (h : ∀ x, x ∈ [a, b, c, d, e] → 0 ≤ x ∧ x < 18446744073709551616) :
    ∃ x, [a, b, c, d, e][n]? = some x ∧ (0 ≤ x ∧ x < 18446744073709551616) ∧ (lowK n a b c d e).set n (x % 2251799813685248) = lowK (n + 1) a b c d e ∧ (overK n a b c d e).set n (x / 2251799813685248) = overK (n + 1) a b c d e := by
  match n, hn with
  | 0, _ => exact ⟨a, rfl, h a (by simp), by simp [lowK], by simp [overK]⟩
  | 1, _ => exact ⟨b, rfl, h b (by simp), by simp [lowK], by simp [overK]⟩
  | 2, _ => exact ⟨c, rfl, h c (by simp), by simp [lowK], by simp [overK]⟩
  | 3, _ => exact ⟨d, rfl, h d (by simp), by simp [lowK], by simp [overK]⟩
  | 4, _ => exact ⟨e, rfl, h e (by simp), by simp [lowK], by simp [overK]⟩
def CarrR (w : World) (l lo ov : List Int) (wr : World) : Prop := ArK .u64 wr w.heap.size 40 l ∧ ArK .u64 wr (w.heap.size + 1) 40 z5 ∧ ArK .u64 wr (w.heap.size + 1 + 1) 38 lo ∧ ArK .u64 wr (w.heap.size + 1 + 1 + 1) 38 ov ∧ Kp0 w wr
theorem CarrR.start (w : World) (l : List Int) : CarrR w l z5 z5 ((((w.alloc (.cells (kis .u64 l).toArray 40)).alloc (.cells (kis .u64 z5).toArray 40)).alloc (.cells (kis .u64 z5).toArray 38)).alloc (.cells (kis .u64 z5).toArray 38)) :=
  ⟨(ark0 w _ l).kp0 ((((Kp.refl _ _).alloc _).alloc _).alloc _), (ark1 w _ _ z5).kp0 (((Kp.refl _ _).alloc _).alloc _), (ark2 w _ _ _ z5).kp0 ((Kp.refl _ _).alloc _), ark3 w _ _ _ _ z5, ((((Kp.refl _ w).alloc _).alloc _).alloc _).alloc _⟩
theorem CarrR.set {w wr : World} {l lo ov : List Int} (h : CarrR w l lo ov wr) (i : Nat) (x : Int) : CarrR w l (lo.set i x) ov (wr.setCell ⟨w.heap.size + 1 + 1, i, none⟩ (.int .u64 x)) := by
  obtain ⟨h1, h2, h3, h4, h5⟩ := h
  exact ⟨h1.other (by omega) _, h2.other (by omega) _, h3.set i x, h4.other (by omega) _, h5.at (by omega) _⟩
theorem CarrR.set2 {w wr : World} {l lo ov : List Int} (h : CarrR w l lo ov wr) (i : Nat) (x : Int) : CarrR w l lo (ov.set i x) (wr.setCell ⟨w.heap.size + 1 + 1 + 1, i, none⟩ (.int .u64 x)) := by
  obtain ⟨h1, h2, h3, h4, h5⟩ := h
  exact ⟨h1.other (by omega) _, h2.other (by omega) _, h3.other (by omega) _, h4.set i x, h5.at (by omega) _⟩
theorem CarrR.drew {w wr : World} {l lo ov : List Int} (h : CarrR w l lo ov wr) : CarrR w l lo ov wr.drew := ⟨h.1, h.2.1, h.2.2.1, h.2.2.2.1, h.2.2.2.2.drew⟩
theorem carr_fin (a b c d e : Int) (h : ∀ x, x ∈ [a, b, c, d, e] → 0 ≤ x ∧ x < 18446744073709551616) : (∀ x, x ∈ [a % 2251799813685248, b % 2251799813685248, c % 2251799813685248, d % 2251799813685248, e % 2251799813685248] → 0 ≤ x ∧ x < 2251799813685248) ∧ (∀ x, x ∈ [a / 2251799813685248, b / 2251799813685248, c / 2251799813685248, d / 2251799813685248] → 0 ≤ x ∧ x < 4611686018427387904) ∧ 0 ≤ e / 2251799813685248 ∧ e / 2251799813685248 < 72057594037927936 := by
  have ha := h a (by simp); have hb := h b (by simp); have hc := h c (by simp); have hd := h d (by simp); have he := h e (by simp)
  clear h
  refine ⟨fun x hx => ?_, fun x hx => ?_, by omega, by omega⟩ <;> simp only [List.mem_cons, List.not_mem_nil, or_false] at hx <;> omega
set_option maxRecDepth 20000 in
set_option maxHeartbeats 4000000 in
theorem carried_any (a b c d e : Int) (w : World) (h : ∀ x, x ∈ [a, b, c, d, e] → 0 ≤ x ∧ x < 18446744073709551616) :
    Calls Try.prog 45 #[.agg (kis .u64 [a, b, c, d, e]).toArray] w fun x w' => x = .returned (.agg (kis .u64 (F5.carried [a, b, c, d, e])).toArray) ∧ Kp0 w w' := by
  have HS : Hid (∀ n, n < 5 → _) := Lib.hid (fun n (hn : n < 5) => carr_step hn a b c d e h)
  have HF := Lib.hid (carr_fin a b c d e h)
  clear h
  go_enter Try.func45, Try.ntmps45
  go_upto_region 2 with (fail)
  have HR0 := Lib.hid (CarrR.start w [a, b, c, d, e])
  change Code.wp _ _ _ _ ((((w.alloc (.cells (kis .u64 [a, b, c, d, e]).toArray 40)).alloc (.cells (kis .u64 z5).toArray 40)).alloc (.cells (kis .u64 z5).toArray 38)).alloc (.cells (kis .u64 z5).toArray 38))
  generalize ((((w.alloc (.cells (kis .u64 [a, b, c, d, e]).toArray 40)).alloc (.cells (kis .u64 z5).toArray 40)).alloc (.cells (kis .u64 z5).toArray 38)).alloc (.cells (kis .u64 z5).toArray 38)) = w1 at HR0
  obtain ⟨l, hl⟩ : ∃ l, l = [a, b, c, d, e] := ⟨_, rfl⟩
  rw [← hl] at HR0
  rw [← hl] at HS
  have HL := Lib.hid hl
  clear hl
  go_wp2
  go_loopg [6] 5 (fun g i wr => ∃ (n : Nat), i = .int .i64 n ∧ n ≤ 5 ∧ g = 5 - n ∧ CarrR w l (lowK n a b c d e) (overK n a b c d e) wr)
  case atStart => exact ⟨0, rfl, by omega, rfl, HR0.out⟩
  case round =>
    obtain ⟨n, rfl, hn, rfl, hr⟩ := hrel
    have HR := Lib.hid hr
    clear hr
    by_cases h : n < 5
    · obtain ⟨x, h1, hx, h2, h3⟩ := HS.out n h
      have hc1 := HR.out.1.cell' n h1
      have hf1 := HR.out.2.2.1.frozen n
      have hf2 := HR.out.2.2.2.1.frozen n
      have hl1 : n < (lowK n a b c d e).length := h
      have hl2 : n < (overK n a b c d e).length := h
      have hc2 := HR.out.2.2.1.cell n hl1
      have hc3 := HR.out.2.2.2.1.cell n hl2
      have hm := F5.and51 x hx.1 hx.2
      have H2 := Lib.hid h2
      have H3 := Lib.hid h3
      clear h1 h2 h3
      go_upto_region 5 with (fail)
      go_region
      all_goals
        go_wp2
        go_roundg (5 - (n + 1))
        case measure => omega
        case rel => exact ⟨n + 1, by go_num, by omega, rfl, (H2.out ▸ H3.out ▸ (HR.out.set n _).set2 n _).drew⟩
    · obtain rfl : n = 5 := by omega
      have HE : Hid (lowK 5 a b c d e = [a % 2251799813685248, b % 2251799813685248, c % 2251799813685248, d % 2251799813685248, e % 2251799813685248] ∧ overK 5 a b c d e = [a / 2251799813685248, b / 2251799813685248, c / 2251799813685248, d / 2251799813685248, e / 2251799813685248]) := Lib.hid ⟨rfl, rfl⟩
      rw [HE.out.1, HE.out.2] at HR
      go_wp2_with (first
        | (refine wl_load_blk rfl 38 (.tmp 3) rfl (w.heap.size + 1 + 1) _ _ rfl HR.out.2.2.1 _ Try.underlying38 rfl (infoP _ rfl) ?_)
        | (refine wl_load_blk rfl 38 (.tmp 4) rfl (w.heap.size + 1 + 1 + 1) _ _ rfl HR.out.2.2.2.1 _ Try.underlying38 rfl (infoP _ rfl) ?_))
      refine (joined_any _ _ _ _ _ _ _ _ _ _ _ HF.out.1 HF.out.2.1 HF.out.2.2).mono ?_
      rintro x w2 ⟨rfl, hk⟩
      have HR2 := Lib.hid (HR.out.2.1.kp0 hk)
      have HK2 := Lib.hid (HR.out.2.2.2.2.tr hk)
      clear hk
      go_wp2_with (
        (refine wl_store_blk rfl 40 (.tmp 2) (.tmp 26) rfl (w.heap.size + 1) _ _ (kis .u64 (F5.carried [a, b, c, d, e])) rfl rfl HR2.out (infoE _ rfl) rfl (kis_ones _ _) ?_
         intro w7 hA7 hK7
         have HA7 := Lib.hid hA7
         have HK7 := Lib.hid hK7
         clear hA7 hK7))
      refine ret_blk 2 40 40 (w.heap.size + 1) (kis .u64 (F5.carried [a, b, c, d, e])) _ rfl rfl HA7.out Try.underlying40 rfl (infoE _ rfl) rfl ?_
      exact ⟨rfl, HK2.out.trans HK7.out (fun _ _ h => h) (fun i hi e => by omega)⟩
end Go.Proofs.Ytcnehbfcagghpaa
namespace Go.Proofs.Ytcnehbfcagghpaa
open Go Go.RowKit
def AddR (w : World) (l f : List Int) (wr : World) : Prop := ArK .u64 wr w.heap.size 40 l ∧ ArK .u64 wr (w.heap.size + 1) 40 f ∧ ArK .u64 wr (w.heap.size + 1 + 1) 40 z5 ∧ Kp0 w wr
theorem AddR.start (w : World) (l f : List Int) : AddR w l f (((w.alloc (.cells (kis .u64 l).toArray 40)).alloc (.cells (kis .u64 f).toArray 40)).alloc (.cells (kis .u64 z5).toArray 40)) :=
  ⟨(ark0 w _ l).kp0 (((Kp.refl _ _).alloc _).alloc _), (ark1 w _ _ f).kp0 ((Kp.refl _ _).alloc _), ark2 w _ _ _ z5, (((Kp.refl _ w).alloc _).alloc _).alloc _⟩
theorem AddR.set {w wr : World} {l f : List Int} (h : AddR w l f wr) (i : Nat) (x : Int) : AddR w (l.set i x) f (wr.setCell ⟨w.heap.size, i, none⟩ (.int .u64 x)) := by
  obtain ⟨h1, h2, h3, h4⟩ := h
  exact ⟨h1.set i x, h2.other (by omega) _, h3.other (by omega) _, h4.at (by omega) _⟩
theorem AddR.drew {w wr : World} {l f : List Int} (h : AddR w l f wr) : AddR w l f wr.drew := ⟨h.1, h.2.1, h.2.2.1, h.2.2.2.drew⟩
theorem AddR.kp0 {w wr wx : World} {l f : List Int} (h : AddR w l f wr) (hk : Kp0 wr wx) : AddR w l f wx := ⟨h.1.kp0 hk, h.2.1.kp0 hk, h.2.2.1.kp0 hk, h.2.2.2.tr hk⟩
theorem ok_five {l : List Int} (h : F5.Ok l) : ∃ a b c d e, l = [a, b, c, d, e] := F5.five l h.1
theorem carried_ok5 (m : List Int) (w : World) (hl : m.length = 5) (h : ∀ x, x ∈ m → 0 ≤ x ∧ x < 18446744073709551616) :
    Calls Try.prog 45 #[.agg (kis .u64 m).toArray] w fun x w' => x = .returned (.agg (kis .u64 (F5.carried m)).toArray) ∧ Kp0 w w' := by
  obtain ⟨a, b, c, d, e, rfl⟩ := F5.five m hl
  exact carried_any a b c d e w h
/-- The sums, part by part. -/
def sum5 (l f : List Int) : List Int := List.zipWith (· + ·) l f
theorem sum5_ok {l f : List Int} (hl : F5.Ok l) (hf : F5.Ok f) : (sum5 l f).length = 5 ∧ (∀ x, x ∈ sum5 l f → 0 ≤ x ∧ x < 18446744073709551616) ∧ F5.val (sum5 l f) = F5.val l + F5.val f := by
  obtain ⟨a, b, c, d, e, rfl, ha, hb, hc, hd, he⟩ := hl.five
  obtain ⟨p, q, r, s, t, rfl, hp, hq, hr, hs, ht⟩ := hf.five
  refine ⟨rfl, fun x hx => ?_, ?_⟩
  · simp only [sum5, List.zipWith, List.mem_cons, List.not_mem_nil, or_false] at hx
    omega
  · simp only [sum5, List.zipWith, F5.val]
    omega
theorem sum5_step {l f : List Int} (hl : F5.Ok l) (hf : F5.Ok f) {n : Nat} (hn : n < 5) : ∃ x y, (upTo n l (sum5 l f))[n]? = some x ∧ f[n]? = some y ∧ (0 ≤ x ∧ x < 2251799813947392) ∧ (0 ≤ y ∧ y < 2251799813947392) ∧ (upTo n l (sum5 l f)).set n (x + y) = upTo (n + 1) l (sum5 l f) := by
  have h1 : n < l.length := by rw [hl.1]; exact hn
  have h2 : n < f.length := by rw [hf.1]; exact hn
  obtain ⟨e1, e2⟩ := upTo_step (l := l) (m := sum5 l f) (n := n) (by rw [(sum5_ok hl hf).1, hl.1]) h1
  refine ⟨_, _, e1, List.getElem?_eq_getElem h2, hl.2 _ (List.getElem_mem _), hf.2 _ (List.getElem_mem _), ?_⟩
  rw [← e2]
  simp [sum5]
set_option maxRecDepth 20000 in
set_option maxHeartbeats 4000000 in
theorem add5_any (l f : List Int) (w : World) (hl : F5.Ok l) (hf : F5.Ok f) :
    Calls Try.prog 40 #[.agg (kis .u64 l).toArray, .agg (kis .u64 f).toArray] w fun x w' => x = .returned (.agg (kis .u64 (F5.carried (sum5 l f))).toArray) ∧ Kp0 w w' := by
  have HS : Hid (∀ n, n < 5 → _) := Lib.hid (fun n (hn : n < 5) => sum5_step hl hf hn)
  have HF := Lib.hid (sum5_ok hl hf)
  have HL := Lib.hid hl.1
  clear hl hf
  go_enter Try.func40, Try.ntmps40
  go_upto_region 1 with (fail)
  have HR0 := Lib.hid (AddR.start w l f)
  change Code.wp _ _ _ _ (((w.alloc (.cells (kis .u64 l).toArray 40)).alloc (.cells (kis .u64 f).toArray 40)).alloc (.cells (kis .u64 z5).toArray 40))
  generalize (((w.alloc (.cells (kis .u64 l).toArray 40)).alloc (.cells (kis .u64 f).toArray 40)).alloc (.cells (kis .u64 z5).toArray 40)) = w1 at HR0
  go_wp2
  go_loopg [6] 5 (fun g i wr => ∃ (n : Nat), i = .int .i64 n ∧ n ≤ 5 ∧ g = 5 - n ∧ AddR w (upTo n l (sum5 l f)) f wr)
  case atStart => exact ⟨0, rfl, by omega, rfl, by rw [upTo_zero]; exact HR0.out⟩
  case round =>
    obtain ⟨n, rfl, hn, rfl, hr⟩ := hrel
    have HR := Lib.hid hr
    clear hr
    by_cases h : n < 5
    · obtain ⟨x, y, h1, h2, hx, hy, h3⟩ := HS.out n h
      have hc1 := HR.out.1.cell' n h1
      have hc2 := HR.out.2.1.cell' n h2
      have hf1 := HR.out.1.frozen n
      have H3 := Lib.hid h3
      clear h1 h2 h3
      go_upto_region 4 with (fail)
      go_region
      all_goals
        go_wp2
        go_roundg (5 - (n + 1))
        case measure => omega
        case rel => exact ⟨n + 1, by go_num, by omega, rfl, (H3.out ▸ HR.out.set n (x + y)).drew⟩
    · obtain rfl : n = 5 := by omega
      rw [upTo_all (by rw [HL.out]; omega) (by rw [HF.out.1]; omega)] at HR
      obtain ⟨m, hm⟩ : ∃ m, m = sum5 l f := ⟨_, rfl⟩
      rw [← hm] at HR HF
      have HM := Lib.hid hm
      clear hm
      go_wp2_with (refine wl_load_blk rfl 40 (.tmp 2) rfl w.heap.size _ _ rfl HR.out.1 _ Try.underlying40 rfl (infoE _ HF.out.1) ?_)
      refine (carried_ok5 m _ HF.out.1 HF.out.2.1).mono ?_
      rintro x w2 ⟨rfl, hk⟩
      have HR2 := Lib.hid (HR.out.kp0 hk)
      have HC := Lib.hid (F5.carried_ok m HF.out.1 HF.out.2.1).1
      clear hk
      go_wp2_with (
        (refine wl_store_blk rfl 40 (.tmp 4) (.tmp 22) rfl (w.heap.size + 1 + 1) _ _ (kis .u64 (F5.carried m)) rfl rfl HR2.out.2.2.1 (infoE _ HC.out) (by rw [kis_len, kis_len, HC.out]; rfl) (kis_ones _ _) ?_
         intro w7 hA7 hK7
         have HA7 := Lib.hid hA7
         have HK7 := Lib.hid hK7
         clear hA7 hK7))
      refine ret_blk 4 40 40 (w.heap.size + 1 + 1) (kis .u64 (F5.carried m)) _ rfl rfl HA7.out Try.underlying40 rfl (infoE _ HC.out) rfl ?_
      exact ⟨by rw [HM.out], HR2.out.2.2.2.trans HK7.out (fun _ _ h => h) (fun i hi e => by omega)⟩
set_option maxHeartbeats 4000000 in
theorem prime_part (n : Nat) (w : World) (hn : n < 5) :
    Calls Try.prog 49 #[.int .i64 n] w fun x w' => x = .returned (.int .u64 (if n = 0 then 2251799813685229 else 2251799813685247)) ∧ w' = w := by
  go_enter Try.func49, Try.ntmps49
  by_cases h : n = 0
  · subst h
    go_wp2
    go_ret
    exact ⟨rfl, rfl⟩
  · rw [if_neg h]
    go_wp2
    go_ret
    exact ⟨rfl, rfl⟩
end Go.Proofs.Ytcnehbfcagghpaa
namespace Go.Proofs.Ytcnehbfcagghpaa
open Go Go.RowKit
def pp2 (n : Nat) : Int := if n = 0 then 2251799813685229 else 2251799813685247
/-- The differences, part by part, with twice the prime. -/
def diff5 : List Int → List Int → List Int
  | [a, b, c, d, e], [p, q, r, s, t] => [a + (4503599627370458 - p), b + (4503599627370494 - q), c + (4503599627370494 - r), d + (4503599627370494 - s), e + (4503599627370494 - t)]
  | l, _ => l
theorem diff5_ok {l f : List Int} (hl : F5.Ok l) (hf : F5.Ok f) : (diff5 l f).length = 5 ∧ (∀ x, x ∈ diff5 l f → 0 ≤ x ∧ x < 18446744073709551616) ∧ F5.val (diff5 l f) = F5.val l - F5.val f + 115792089237316195423570985008687907853269984665640564039457584007913129639898 := by
  obtain ⟨a, b, c, d, e, rfl, ha, hb, hc, hd, he⟩ := hl.five
  obtain ⟨p, q, r, s, t, rfl, hp, hq, hr, hs, ht⟩ := hf.five
  refine ⟨rfl, fun x hx => ?_, ?_⟩
  · simp only [diff5, List.mem_cons, List.not_mem_nil, or_false] at hx
    omega
  · simp only [diff5, F5.val]
    omega
theorem diff5_step {l f : List Int} (hl : F5.Ok l) (hf : F5.Ok f) {n : Nat} (hn : n < 5) : ∃ x y c, (upTo n l (diff5 l f))[n]? = some x ∧ f[n]? = some y ∧ (0 ≤ x ∧ x < 2251799813947392) ∧ (0 ≤ y ∧ y < 2251799813947392) ∧ (2251799813685229 ≤ c ∧ c ≤ 2251799813685247) ∧ c = pp2 n ∧ (upTo n l (diff5 l f)).set n (x + (2 * c - y)) = upTo (n + 1) l (diff5 l f) := by
  obtain ⟨a, b, c, d, e, rfl, ha, hb, hc, hd, he⟩ := hl.five
  obtain ⟨p, q, r, s, t, rfl, hp, hq, hr, hs, ht⟩ := hf.five
  match n, hn with
  | 0, _ => exact ⟨a, p, _, rfl, rfl, ha, hp, ⟨by decide, by decide⟩, rfl, rfl⟩
  | 1, _ => exact ⟨b, q, _, rfl, rfl, hb, hq, ⟨by decide, by decide⟩, rfl, rfl⟩
  | 2, _ => exact ⟨c, r, _, rfl, rfl, hc, hr, ⟨by decide, by decide⟩, rfl, rfl⟩
  | 3, _ => exact ⟨d, s, _, rfl, rfl, hd, hs, ⟨by decide, by decide⟩, rfl, rfl⟩
  | 4, _ => exact ⟨e, t, _, rfl, rfl, he, ht, ⟨by decide, by decide⟩, rfl, rfl⟩
set_option maxRecDepth 20000 in
set_option maxHeartbeats 4000000 in
theorem sub5_any (l f : List Int) (w : World) (hl : F5.Ok l) (hf : F5.Ok f) :
    Calls Try.prog 41 #[.agg (kis .u64 l).toArray, .agg (kis .u64 f).toArray] w fun x w' => x = .returned (.agg (kis .u64 (F5.carried (diff5 l f))).toArray) ∧ Kp0 w w' := by
  have HS : Hid (∀ n, n < 5 → _) := Lib.hid (fun n (hn : n < 5) => diff5_step hl hf hn)
  have HF := Lib.hid (diff5_ok hl hf)
  have HL := Lib.hid hl.1
  clear hl hf
  go_enter Try.func41, Try.ntmps41
  go_upto_region 1 with (fail)
  have HR0 := Lib.hid (AddR.start w l f)
  change Code.wp _ _ _ _ (((w.alloc (.cells (kis .u64 l).toArray 40)).alloc (.cells (kis .u64 f).toArray 40)).alloc (.cells (kis .u64 z5).toArray 40))
  generalize (((w.alloc (.cells (kis .u64 l).toArray 40)).alloc (.cells (kis .u64 f).toArray 40)).alloc (.cells (kis .u64 z5).toArray 40)) = w1 at HR0
  go_wp2
  go_loopg [6] 5 (fun g i wr => ∃ (n : Nat), i = .int .i64 n ∧ n ≤ 5 ∧ g = 5 - n ∧ AddR w (upTo n l (diff5 l f)) f wr)
  case atStart => exact ⟨0, rfl, by omega, rfl, by rw [upTo_zero]; exact HR0.out⟩
  case round =>
    obtain ⟨n, rfl, hn, rfl, hr⟩ := hrel
    have HR := Lib.hid hr
    clear hr
    by_cases h : n < 5
    · obtain ⟨x, y, c, h1, h2, hx, hy, hc, h4, h3⟩ := HS.out n h
      obtain ⟨cur, hcur⟩ : ∃ cur, cur = upTo n l (diff5 l f) := ⟨_, rfl⟩
      rw [← hcur] at HR h1 h3
      have H1 := Lib.hid h1
      have H2 := Lib.hid h2
      have H3 := Lib.hid h3
      have H4 := Lib.hid h4
      clear h1 h2 h3 h4 hcur
      go_upto_region 4 with (fail)
      refine wp_region_wall [15] (fun w' : World => AddR w cur f w') (.quiet 0 (.quiet 1 (.quiet 2 (.quiet 3 (.quiet 4 (.quiet 7 (.quiet 8 (.quiet 9 (.quiet 10 (.quiet 13 (.eff 5 (.quiet 6 (.quiet 11 (.quiet 12 (.quiet 14 (.wall 15 .done)))))))))))))))) (by kernel_rfl) (by kernel_rfl) (by kernel_rfl) (by kernel_rfl) (fun _ d _ _ _ h => by cases d <;> exact h) HR.out.drew ?_
      repeat (first
        | (refine pw_quiet (v := .int .u64 x) rfl (by rfl) (fun wq hwq => ?_) rfl ?_; focus (have hcq := hwq.1.cell' n H1.out; go_simp; done))
        | (refine pw_quiet (v := .int .u64 y) rfl (by rfl) (fun wq hwq => ?_) rfl ?_; focus (have hcq := hwq.2.1.cell' n H2.out; go_simp; done))
        | (refine pw_quiet (v := ?_) rfl (by rfl) (fun wq hwq => ?_) rfl ?_; rotate_left 1; (focus (go_simp; try (with_reducible rfl); done)); simp only [List.setIfInBounds_toArray, List.set_cons_zero, List.set_cons_succ]))
      refine pw_eff rfl (by rfl) (fun K hK => ?_)
      go_simp
      refine (prime_part n _ h).mono ?_
      rintro e x1 ⟨rfl, rfl⟩
      simp only []
      rw [show (if n = 0 then (2251799813685229 : Int) else 2251799813685247) = c from H4.out.symm]
      refine hK (fun w' : World => AddR w cur f w') _ _ (fun x h => h) HR.out.drew ?_
      clear hK K
      repeat (first
        | (refine pw_quiet (v := ?_) rfl (by rfl) (fun wq hwq => ?_) rfl ?_; rotate_left 1; (focus (go_simp; try (with_reducible rfl); done)); simp only [List.setIfInBounds_toArray, List.set_cons_zero, List.set_cons_succ]))
      have hc1 := HR.out.1.drew.cell' n H1.out
      have hf1 := HR.out.1.drew.frozen n
      refine pw_wall rfl (by rfl) (fun K hK => ?_)
      go_simp
      refine hK _ _ ?_
      clear hK K
      refine pw_done ?_
      go_simp
      go_wp2
      go_roundg (5 - (n + 1))
      case measure => omega
      case rel => exact ⟨n + 1, by go_num, by omega, rfl, (H3.out ▸ HR.out.set n (x + (2 * c - y))).drew⟩
    · obtain rfl : n = 5 := by omega
      rw [upTo_all (by rw [HL.out]; omega) (by rw [HF.out.1]; omega)] at HR
      obtain ⟨m, hm⟩ : ∃ m, m = diff5 l f := ⟨_, rfl⟩
      rw [← hm] at HR HF
      have HM := Lib.hid hm
      clear hm
      go_wp2_with (refine wl_load_blk rfl 40 (.tmp 2) rfl w.heap.size _ _ rfl HR.out.1 _ Try.underlying40 rfl (infoE _ HF.out.1) ?_)
      refine (carried_ok5 m _ HF.out.1 HF.out.2.1).mono ?_
      rintro x w2 ⟨rfl, hk⟩
      have HR2 := Lib.hid (HR.out.kp0 hk)
      have HC := Lib.hid (F5.carried_ok m HF.out.1 HF.out.2.1).1
      clear hk
      go_wp2_with (
        (refine wl_store_blk rfl 40 (.tmp 4) (.tmp 26) rfl (w.heap.size + 1 + 1) _ _ (kis .u64 (F5.carried m)) rfl rfl HR2.out.2.2.1 (infoE _ HC.out) (by rw [kis_len, kis_len, HC.out]; rfl) (kis_ones _ _) ?_
         intro w7 hA7 hK7
         have HA7 := Lib.hid hA7
         have HK7 := Lib.hid hK7
         clear hA7 hK7))
      refine ret_blk 4 40 40 (w.heap.size + 1 + 1) (kis .u64 (F5.carried m)) _ rfl rfl HA7.out Try.underlying40 rfl (infoE _ HC.out) rfl ?_
      exact ⟨by rw [HM.out], HR2.out.2.2.2.trans HK7.out (fun _ _ h => h) (fun i hi e => by omega)⟩
end Go.Proofs.Ytcnehbfcagghpaa
