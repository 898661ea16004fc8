/- Package field: the least way to tell a number. -/
import Derived.Test.YtjfphmmhikamaaaMulE
import Derived.Test.YtjfphmmhikamaaaEq3
namespace Go.Proofs.Ytjfphmmhikamaaa
open Go Go.RowKit
namespace F5
theorem over_bound (l : List Int) (h : ∀ x, x ∈ l → 0 ≤ x ∧ x < 2251799813947392) (c : Int) (hc : 0 ≤ c ∧ c ≤ 19) : 0 ≤ over l c ∧ over l c ≤ 19 := by
  induction l generalizing c with
  | nil => exact hc
  | cons d t ih =>
    have := h d (by simp)
    exact ih (fun x hx => h x (by simp [hx])) _ (by omega)
theorem carry_b (l : List Int) (h : ∀ x, x ∈ l → 0 ≤ x ∧ x < 2251799813947392) (c : Int) (hc : 0 ≤ c ∧ c ≤ 361) : 0 ≤ (carry l c).2 ∧ (carry l c).2 ≤ 361 := by
  induction l generalizing c with
  | nil => exact hc
  | cons d t ih =>
    have := h d (by simp)
    exact ih (fun x hx => h x (by simp [hx])) _ (by omega)
theorem over_step {l : List Int} (h : Ok l) {n : Nat} (hn : n < 5) : ∃ x c, l[n]? = some x ∧ c = over (l.take n) 19 ∧ (0 ≤ x ∧ x < 2251799813947392) ∧ (0 ≤ c ∧ c ≤ 19) ∧ (x + c) / 2251799813685248 = over (l.take (n + 1)) 19 := by
  have h1 : n < l.length := by rw [h.1]; exact hn
  refine ⟨_, _, List.getElem?_eq_getElem h1, rfl, h.2 _ (List.getElem_mem _), over_bound _ (fun x hx => h.2 x (List.mem_of_mem_take hx)) 19 (by omega), ?_⟩
  rw [List.take_succ_eq_append_getElem h1, over_append]
theorem carry_step {l : List Int} (h : Ok l) {c0 : Int} (hc0 : 0 ≤ c0 ∧ c0 ≤ 361) {n : Nat} (hn : n < 5) : ∃ x c, ((carry (l.take n) c0).1 ++ l.drop n)[n]? = some x ∧ c = (carry (l.take n) c0).2 ∧ (0 ≤ x ∧ x < 2251799813947392) ∧ (0 ≤ c ∧ c ≤ 361) ∧ (c + x) / 2251799813685248 = (carry (l.take (n + 1)) c0).2 ∧ ((carry (l.take n) c0).1 ++ l.drop n).set n ((c + x) % 2251799813685248) = (carry (l.take (n + 1)) c0).1 ++ l.drop (n + 1) := by
  have h1 : n < l.length := by rw [h.1]; exact hn
  have h2 : (carry (l.take n) c0).1.length = n := by rw [carry_len, List.length_take]; omega
  refine ⟨l[n], _, ?_, rfl, h.2 _ (List.getElem_mem _), carry_b _ (fun x hx => h.2 x (List.mem_of_mem_take hx)) c0 hc0, ?_, ?_⟩
  · rw [List.getElem?_append_right (by omega), h2, Nat.sub_self, List.drop_eq_getElem_cons h1]
    rfl
  · rw [List.take_succ_eq_append_getElem h1, carry_append, Int.add_comm]
  · rw [List.take_succ_eq_append_getElem h1, carry_append, List.set_append_right _ _ (by omega), h2, Nat.sub_self, List.drop_eq_getElem_cons h1, List.set_cons_zero, Int.add_comm, List.append_assoc, List.singleton_append]
end F5
def LeaR (w : World) (l : List Int) (wr : World) : Prop := ArK .u64 wr w.heap.size 45 l ∧ ArK .u64 wr (w.heap.size + 1) 45 z5 ∧ Kp0 w wr
theorem LeaR.start (w : World) (l : List Int) : LeaR w l ((w.alloc (.cells (kis .u64 l).toArray 45)).alloc (.cells (kis .u64 z5).toArray 45)) :=
  ⟨(ark0 w _ l).kp0 ((Kp.refl _ _).alloc _), ark1 w _ _ z5, ((Kp.refl _ w).alloc _).alloc _⟩
theorem LeaR.set {w wr : World} {l : List Int} (h : LeaR w l wr) (i : Nat) (x : Int) : LeaR w (l.set i x) (wr.setCell ⟨w.heap.size, i, none⟩ (.int .u64 x)) := by
  obtain ⟨h1, h2, h3⟩ := h
  exact ⟨h1.set i x, h2.other (by omega) _, h3.at (by omega) _⟩
set_option maxRecDepth 20000 in
set_option maxHeartbeats 4000000 in
theorem least_any (l : List Int) (w : World) (hl : F5.Ok l) :
    Calls Try.prog 55 #[.agg (kis .u64 l).toArray] w fun x w' => x = .returned (.agg (kis .u64 (F5.least l)).toArray) ∧ Kp0 w w' := by
  have HS : Hid (∀ n, n < 5 → _) := Lib.hid (fun n (hn : n < 5) => F5.over_step hl hn)
  obtain ⟨c0, hc0⟩ : ∃ c0, c0 = F5.over l 19 := ⟨_, rfl⟩
  have hb0 : 0 ≤ c0 ∧ c0 ≤ 19 := by rw [hc0]; exact F5.over_bound l hl.2 19 (by omega)
  have HS2 : Hid (∀ n, n < 5 → _) := Lib.hid (fun n (hn : n < 5) => F5.carry_step hl (c0 := c0 * 19) (by omega) hn)
  have HC0 := Lib.hid hc0
  have HL := Lib.hid hl
  clear hl hc0
  go_enter Try.func55, Try.ntmps55
  go_upto_region 1 with (fail)
  have HR0 := Lib.hid (LeaR.start w l)
  change Code.wp _ _ _ _ ((w.alloc (.cells (kis .u64 l).toArray 45)).alloc (.cells (kis .u64 z5).toArray 45))
  generalize ((w.alloc (.cells (kis .u64 l).toArray 45)).alloc (.cells (kis .u64 z5).toArray 45)) = w1 at HR0
  go_wp2
  go_loopg [3, 6] 5 (fun g c i wr => ∃ (n : Nat), c = .int .u64 (F5.over (l.take n) 19) ∧ i = .int .i64 n ∧ n ≤ 5 ∧ g = 5 - n ∧ wr = w1)
  case atStart => exact ⟨0, rfl, rfl, by omega, rfl, rfl⟩
  case round =>
    obtain ⟨n, rfl, rfl, hn, rfl, rfl⟩ := hrel
    by_cases h : n < 5
    · obtain ⟨x, c, h1, h2, hx, hc, h3⟩ := HS.out n h
      rw [← h2]
      have hc1 := HR0.out.1.cell' n h1
      have H3 := Lib.hid h3
      clear h1 h2 h3
      go_wp2
      go_roundg (5 - (n + 1))
      case measure => omega
      case rel => exact ⟨n + 1, by rw [H3.out], by go_num, by omega, rfl, rfl⟩
    · obtain rfl : n = 5 := by omega
      rw [show F5.over (l.take 5) 19 = c0 by rw [HC0.out, List.take_of_length_le (by rw [HL.out.1]; omega)]]
      clear h HS
      go_wp2
      go_loopg [3, 19] 5 (fun g c i wx => ∃ (n : Nat), c = .int .u64 (F5.carry (l.take n) (c0 * 19)).2 ∧ i = .int .i64 n ∧ n ≤ 5 ∧ g = 5 - n ∧ LeaR w ((F5.carry (l.take n) (c0 * 19)).1 ++ l.drop n) wx)
      case atStart => exact ⟨0, rfl, rfl, by omega, rfl, HR0.out⟩
      case round =>
        obtain ⟨n, rfl, rfl, hn, rfl, hr⟩ := hrel
        have HR := Lib.hid hr
        clear hr
        by_cases h : n < 5
        · obtain ⟨x, c, h1, h2, hx, hc, h3, h4⟩ := HS2.out n h
          rw [← h2]
          have hc1 := HR.out.1.cell' n h1
          have hf1 := HR.out.1.frozen n
          have hm := F5.and51 (c + x) (by omega) (by omega)
          have H3 := Lib.hid h3
          have H4 := Lib.hid h4
          clear h1 h2 h3 h4
          go_wp2
          go_roundg (5 - (n + 1))
          case measure => omega
          case rel => exact ⟨n + 1, by rw [← H3.out], by go_num, by omega, rfl, H4.out ▸ HR.out.set n _⟩
        · obtain rfl : n = 5 := by omega
          have HE : Hid ((F5.carry (l.take 5) (c0 * 19)).1 ++ l.drop 5 = F5.least l) := Lib.hid (by rw [F5.least, ← HC0.out, List.take_of_length_le (by rw [HL.out.1]; omega), List.drop_eq_nil_of_le (by rw [HL.out.1]; omega), List.append_nil])
          have HLL : Hid ((F5.least l).length = 5) := Lib.hid (by rw [F5.least, F5.carry_len, HL.out.1])
          rw [HE.out] at HR
          generalize (F5.carry (l.take 5) (c0 * 19)).2 = cz
          go_wp2_with (first
            | (refine wl_load_blk rfl 45 (.tmp 1) rfl w.heap.size _ _ rfl HR.out.1 _ Try.underlying45 rfl (infoE _ HLL.out) ?_)
            | (refine wl_store_blk rfl 45 (.tmp 2) (.tmp 36) rfl (w.heap.size + 1) _ _ (kis .u64 (F5.least l)) rfl rfl HR.out.2.1 (infoE _ HLL.out) (by rw [kis_len, kis_len, HLL.out]; rfl) (kis_ones _ _) ?_
               intro w7 hA7 hK7
               have HA7 := Lib.hid hA7
               have HK7 := Lib.hid hK7
               clear hA7 hK7))
          refine ret_blk 2 45 45 (w.heap.size + 1) (kis .u64 (F5.least l)) _ rfl rfl HA7.out Try.underlying45 rfl (infoE _ HLL.out) rfl ?_
          exact ⟨rfl, HR.out.2.2.trans HK7.out (fun _ _ h => h) (fun i hi e => by omega)⟩
end Go.Proofs.Ytjfphmmhikamaaa
