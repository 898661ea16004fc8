/- The reference's low. The reference's sums and products. -/
import Derived.Test.YtcnehbfcagghpaaArr
import Derived.Test.YtcnehbfcagghpaaChecked
import Derived.WalkKit
import Derived.BigRegion
import Derived.Deep.DeepCutAuto
import Derived.Deep.LoopGhost
import Derived.Lib.Hide
import Derived.Test.YtcnehbfcagghpaaNt
namespace Go.Proofs.Ytcnehbfcagghpaa
open Go Go.RowKit
theorem arr0 (w : World) (T : TypeId) (ds : List Int) : Arr (w.alloc (.cells (i64s ds).toArray T)) w.heap.size T ds := heap_alloc_new w _
theorem arr1 (w : World) (o : Obj) (T : TypeId) (ds : List Int) : Arr ((w.alloc o).alloc (.cells (i64s ds).toArray T)) (w.heap.size + 1) T ds := by
  have := heap_alloc_new (w.alloc o) (.cells (i64s ds).toArray T)
  rw [show (w.alloc o).heap.size = w.heap.size + 1 from by simp] at this
  exact this
def zeros (n : Nat) : List Int := List.replicate n 0
/-- What the rounds keep. -/
def LowR (w : World) (ds : List Int) (wr : World) : Prop := Arr wr w.heap.size 45 ds ∧ Arr wr (w.heap.size + 1) 46 (zeros 16) ∧ Kp0 w wr
theorem LowR.set {w wr : World} {ds : List Int} (h : LowR w ds wr) (i : Nat) (x : Int) : LowR w (ds.set i x) (wr.setCell ⟨w.heap.size, i, none⟩ (.int .i64 x)) := by
  obtain ⟨h1, h2, h3⟩ := h
  refine ⟨h1.set i x, h2.keep ((Kp.refl (fun b => b = w.heap.size) wr).setCell (fun _ => rfl) _) (fun e => ?_), h3.setCell (p := ⟨w.heap.size, i, none⟩) (fun hlt => ?_) _⟩
  · have : w.heap.size + 1 = w.heap.size := e
    omega
  · exact absurd hlt (Nat.lt_irrefl _)
/-- What the last carrying keeps. -/
def LowE (w : World) (g : Nat) (d cur : List Int) (wx : World) : Prop := Arr wx g 45 cur ∧ LowR w d wx ∧ w.heap.size + 1 < g
theorem LowR.keep {w wr wx : World} {ds : List Int} (h : LowR w ds wr) {S : Nat → Prop} (hk : Kp S wr wx) (hs : ∀ b, S b → w.heap.size + 1 < b) : LowR w ds wx := by
  obtain ⟨h1, h2, h3⟩ := h
  exact ⟨h1.keep hk (fun h => by have := hs _ h; omega), h2.keep hk (fun h => by have := hs _ h; omega), h3.trans hk (fun _ _ h => h) (fun i hi h => by have := hs _ h; omega)⟩
theorem LowE.set {w wx : World} {g : Nat} {d cur : List Int} (h : LowE w g d cur wx) (i : Nat) (x : Int) : LowE w g d (cur.set i x) (wx.setCell ⟨g, i, none⟩ (.int .i64 x)) := by
  obtain ⟨h1, h2, h3⟩ := h
  exact ⟨h1.set i x, h2.keep ((Kp.refl (fun b => b = g) wx).setCell (fun _ => rfl) _) (fun b e => by omega), h3⟩
theorem low_step {d cur : List Int} {cc : Int} {n N : Nat} (hl : d.length = N) (h : n < N) (hb : ∀ x, x ∈ d → -8796093085000 ≤ x ∧ x ≤ 8796093085000) (hc : cur = (F3.carry (d.take n) 0).1 ++ d.drop n ∧ cc = (F3.carry (d.take n) 0).2) :
    ∃ y, ∃ hy : n < cur.length, cur[n]'hy = y ∧ (-8796093085000 ≤ y ∧ y ≤ 8796093085000) ∧ -134219778 ≤ cc ∧ cc ≤ 134219778 := by
  obtain ⟨rfl, rfl⟩ := hc
  have hcl := F3.carry_len (d.take n) 0
  rw [List.length_take, hl, Nat.min_eq_left (by omega)] at hcl
  have hy : n < ((F3.carry (d.take n) 0).1 ++ d.drop n).length := by rw [List.length_append, List.length_drop, hl, hcl]; omega
  have hbd := F3.carry_bound 134219777 (d.take n) 0 (fun x hx => by have := hb x (List.mem_of_mem_take hx); omega) (by omega)
  refine ⟨_, hy, rfl, ?_, by omega, by omega⟩
  rw [List.getElem_append_right (by omega), List.getElem_drop]
  exact hb _ (List.getElem_mem _)
theorem low_next {d cur : List Int} {cc : Int} {n N : Nat} (hl : d.length = N) (h : n < N) (hc : cur = (F3.carry (d.take n) 0).1 ++ d.drop n ∧ cc = (F3.carry (d.take n) 0).2) {y : Int} {hy : n < cur.length} (he : cur[n]'hy = y) :
    cur.set n (y + cc - (y + cc) / 65536 * 65536) = (F3.carry (d.take (n + 1)) 0).1 ++ d.drop (n + 1) ∧ (y + cc) / 65536 = (F3.carry (d.take (n + 1)) 0).2 := by
  obtain ⟨rfl, rfl⟩ := hc
  have hcl := F3.carry_len (d.take n) 0
  rw [List.length_take, hl, Nat.min_eq_left (by omega)] at hcl
  have hnd : n < d.length := by omega
  have e : y = d[n] := by
    rw [← he, List.getElem_append_right (by omega), List.getElem_drop]
    congr 1
    omega
  rw [List.take_succ_eq_append_getElem hnd, F3.carry_append, ← e]
  refine ⟨?_, rfl⟩
  rw [List.set_append_right _ _ (by omega), hcl, Nat.sub_self, List.drop_eq_getElem_cons hnd, List.set_cons_zero, List.append_assoc, List.singleton_append]
  congr 2
  omega
theorem low_end {d cur : List Int} {cc : Int} (hl : d.length = 16) (hb : ∀ x, x ∈ d → -8796093085000 ≤ x ∧ x ≤ 8796093085000) (hc : cur = (F3.carry (d.take 16) 0).1 ++ d.drop 16 ∧ cc = (F3.carry (d.take 16) 0).2) :
    ∃ a m z, cur = a :: (m ++ [z]) ∧ (m.length = 14 ∧ F3.Dig m) ∧ F3.round d = (a + (19 * (z / 32768) + 38 * cc)) :: (m ++ [z - z / 32768 * 32768]) ∧ (0 ≤ a ∧ a < 65536) ∧ (0 ≤ z ∧ z < 65536) ∧ -134219778 ≤ cc ∧ cc ≤ 134219778 := by
  obtain ⟨rfl, rfl⟩ := hc
  rw [List.take_of_length_le (by omega), List.drop_eq_nil_of_le (by omega), List.append_nil]
  obtain ⟨a, m, z, e0, hm, e⟩ := F3.round_form d hl
  have hd := F3.carry_dig d 0
  have hbd := F3.carry_bound 134219777 d 0 (fun x hx => by have := hb x hx; omega) (by omega)
  exact ⟨a, m, z, e0, ⟨hm, fun x hx => hd x (by rw [e0]; simp [hx])⟩, e, hd a (by rw [e0]; simp), hd z (by rw [e0]; simp), by omega, by omega⟩
theorem fifteen {a z : Int} {m : List Int} (hm : m.length = 14) : ∃ h : 15 < (a :: (m ++ [z])).length, (a :: (m ++ [z]))[15]'h = z := by
  refine ⟨by simp [hm], ?_⟩
  rw [List.getElem_cons_succ, List.getElem_append_right (by omega)]
  simp [hm]
theorem low_nxt {d cur : List Int} {cc : Int} {a z : Int} {m : List Int} (hcur : cur = a :: (m ++ [z])) (hm : m.length = 14) (hr : F3.round d = (a + (19 * (z / 32768) + 38 * cc)) :: (m ++ [z - z / 32768 * 32768])) :
    (cur.set 15 (z - z / 32768 * 32768)).set 0 (a + (19 * (z / 32768) + 38 * cc)) = F3.round d := by
  rw [hr, hcur, List.set_cons_succ, List.set_append_right _ _ (by omega), hm]
  rfl
theorem low_keep {d : List Int} {cc : Int} {a z : Int} {m : List Int} (hm : m.length = 14 ∧ F3.Dig m) (hr : F3.round d = (a + (19 * (z / 32768) + 38 * cc)) :: (m ++ [z - z / 32768 * 32768])) (ha : 0 ≤ a ∧ a < 65536) (hz : 0 ≤ z ∧ z < 65536) (h1 : -134219778 ≤ cc) (h2 : cc ≤ 134219778) :
    ∀ x, x ∈ F3.round d → -8796093022208 ≤ x ∧ x ≤ 8796093022208 := by
  intro x hx
  rw [hr, List.mem_cons, List.mem_append, List.mem_singleton] at hx
  rcases hx with rfl | hx | rfl
  · omega
  · have := hm.2 x hx
    omega
  · omega
theorem low_cur {d cur : List Int} (hl : d.length = 16) (h : cur = (F3.carry (d.take 16) 0).1 ++ d.drop 16) : cur = (F3.carry d 0).1 := by
  rw [h, List.take_of_length_le (by omega), List.drop_eq_nil_of_le (by omega), List.append_nil]
theorem rep4 (ds : List Int) : Nat.repeat F3.round 4 ds = F3.round (F3.round (F3.round (F3.round ds))) := rfl
theorem low_bound (ds : List Int) (hl : ds.length = 16) (hb : ∀ d, d ∈ ds → -8796093022208 ≤ d ∧ d ≤ 8796093022208) : F3.val ds < 62165404551223330269422781018352605012557018849668464680057997111644937126566671941632 := by
  obtain ⟨x0, x1, x2, x3, x4, x5, x6, x7, x8, x9, x10, x11, x12, x13, x14, x15, rfl⟩ := sixteen ds hl
  have h0 := hb x0 (by simp)
  have h1 := hb x1 (by simp)
  have h2 := hb x2 (by simp)
  have h3 := hb x3 (by simp)
  have h4 := hb x4 (by simp)
  have h5 := hb x5 (by simp)
  have h6 := hb x6 (by simp)
  have h7 := hb x7 (by simp)
  have h8 := hb x8 (by simp)
  have h9 := hb x9 (by simp)
  have h10 := hb x10 (by simp)
  have h11 := hb x11 (by simp)
  have h12 := hb x12 (by simp)
  have h13 := hb x13 (by simp)
  have h14 := hb x14 (by simp)
  have h15 := hb x15 (by simp)
  clear hb hl
  simp only [F3.val]
  omega
theorem low_fin {ds d1 d2 cur : List Int} {x0 a z : Int} {m : List Int} (hl : ds.length = 16) (hb : ∀ d, d ∈ ds → -8796093022208 ≤ d ∧ d ≤ 8796093022208) (h0 : 0 ≤ F3.val ds) (h1 : d1 = Nat.repeat F3.round 4 ds) {hd : 0 < d1.length} (hx : x0 = d1[0]'hd) (h2 : d2 = d1.set 0 (x0 + 19)) (h3 : cur = (F3.carry d2 0).1) (h4 : cur = a :: (m ++ [z])) (hm : m.length = 14) :
    (if z ≥ 32768 then cur.set 15 (z - 32768) else d1) = F3.digs 16 (F3.val ds % 57896044618658097711785492504343953926634992332820282019728792003956564819949) := by
  have e := F3.low_eq ds hl h0 (low_bound ds hl hb)
  unfold F3.lowL at e
  simp only [← rep4, ← h1] at e
  have e0 : d1.getD 0 0 = x0 := by rw [List.getD_eq_getElem?_getD, List.getElem?_eq_getElem hd, hx]; rfl
  rw [e0, ← h2, ← h3] at e
  have e15 : cur.getD 15 0 = z := by
    rw [h4, List.getD_eq_getElem?_getD, List.getElem?_cons_succ, List.getElem?_append_right (by omega), hm]
    rfl
  rw [e15] at e
  exact e
theorem low_fin_a {ds d1 d2 cur : List Int} {x0 a z : Int} {m : List Int} (hl : ds.length = 16) (hb : ∀ d, d ∈ ds → -8796093022208 ≤ d ∧ d ≤ 8796093022208) (h0 : 0 ≤ F3.val ds) (h1 : d1 = Nat.repeat F3.round 4 ds) {hd : 0 < d1.length} (hx : x0 = d1[0]'hd) (h2 : d2 = d1.set 0 (x0 + 19)) (h3 : cur = (F3.carry d2 0).1) (h4 : cur = a :: (m ++ [z])) (hm : m.length = 14) (hz : 32768 ≤ z) :
    cur.set 15 (z - 32768) = F3.digs 16 (F3.val ds % 57896044618658097711785492504343953926634992332820282019728792003956564819949) := by
  have := low_fin hl hb h0 h1 hx h2 h3 h4 hm
  rwa [if_pos hz] at this
theorem low_fin_b {ds d1 d2 cur : List Int} {x0 a z : Int} {m : List Int} (hl : ds.length = 16) (hb : ∀ d, d ∈ ds → -8796093022208 ≤ d ∧ d ≤ 8796093022208) (h0 : 0 ≤ F3.val ds) (h1 : d1 = Nat.repeat F3.round 4 ds) {hd : 0 < d1.length} (hx : x0 = d1[0]'hd) (h2 : d2 = d1.set 0 (x0 + 19)) (h3 : cur = (F3.carry d2 0).1) (h4 : cur = a :: (m ++ [z])) (hm : m.length = 14) (hz : ¬ 32768 ≤ z) :
    d1 = F3.digs 16 (F3.val ds % 57896044618658097711785492504343953926634992332820282019728792003956564819949) := by
  have := low_fin hl hb h0 h1 hx h2 h3 h4 hm
  rwa [if_neg hz] at this
set_option maxRecDepth 20000 in
set_option maxHeartbeats 4000000 in
theorem low_any (ds : List Int) (w : World) (hl : ds.length = 16) (hb : ∀ d, d ∈ ds → -8796093022208 ≤ d ∧ d ≤ 8796093022208) (h0 : 0 ≤ F3.val ds) :
    Calls Try.prog 34 #[.agg (i64s ds).toArray] w fun e w' => e = .returned (.agg (i64s (F3.digs 16 (F3.val ds % 57896044618658097711785492504343953926634992332820282019728792003956564819949))).toArray) ∧ Kp0 w w' := by
  have HL := Lib.hid hl
  have HB := Lib.hid hb
  have H0 := Lib.hid h0
  clear hl hb h0
  go_enter Try.func34, Try.ntmps34
  go_wp2
  go_loopg [3] 4 (fun g r wr => ∃ (k : Nat) (ds' : List Int), r = .int .i64 k ∧ k ≤ 4 ∧ g = 4 - k ∧ LowR w ds' wr ∧ Hid (ds' = Nat.repeat F3.round k ds ∧ ds'.length = 16) ∧ Hid (∀ d, d ∈ ds' → -8796093022208 ≤ d ∧ d ≤ 8796093022208))
  case atStart =>
    refine ⟨0, ds, rfl, by omega, rfl, ⟨?_, ?_, ?_⟩, Lib.hid ⟨rfl, HL.out⟩, HB⟩
    · exact (arr0 w _ ds).keep ((Kp.refl (fun _ => False) _).alloc _) (fun h => h)
    · exact arr1 w _ _ (zeros 16)
    · exact ((Kp.refl _ w).alloc _).alloc _
  case round =>
    obtain ⟨k, d1, rfl, hk, rfl, hr, HD, HB1⟩ := hrel
    have HR := Lib.hid hr
    clear hr
    by_cases h : k < 4
    · go_wp2
      go_loopg [4, 5] 16 (fun g c i wx => ∃ (n : Nat) (cc : Int) (cur : List Int), c = .int .i64 cc ∧ i = .int .i64 n ∧ n ≤ 16 ∧ g = 16 - n ∧ LowR w cur wx ∧ Hid (cur = (F3.carry (d1.take n) 0).1 ++ d1.drop n ∧ cc = (F3.carry (d1.take n) 0).2))
      case atStart => exact ⟨0, 0, d1, rfl, rfl, by omega, rfl, HR.out, Lib.hid ⟨rfl, rfl⟩⟩
      case round =>
        obtain ⟨n, cc, cur, rfl, rfl, hn, rfl, hr, HC⟩ := hrel
        have HR2 := Lib.hid hr
        clear hr
        by_cases h2 : n < 16
        · obtain ⟨y, hy1, hy2, hy3, hc1, hc2⟩ := low_step HD.out.2 h2 (fun x hx => by have := HB1.out x hx; omega) HC.out
          have hcell := HR2.out.1.cell n hy1
          rw [hy2] at hcell
          have hfr := HR2.out.1.frozen n
          have hlt := HR2.out.1.lt
          go_wp2
          go_roundg (16 - (n + 1))
          case measure => omega
          case rel => exact ⟨n + 1, _, _, rfl, by go_num, by omega, rfl, HR2.out.set n _, Lib.hid (low_next HD.out.2 h2 HC.out hy2)⟩
        · obtain rfl : n = 16 := by omega
          obtain ⟨a, m, z, hcur, hm, hrd, ha, hz, hc1, hc2⟩ := low_end HD.out.2 (fun x hx => by have := HB1.out x hx; omega) HC.out
          have hc0 := HR2.out.1.cell 0 (by rw [hcur]; simp)
          have hc15 := HR2.out.1.cell 15 (by rw [hcur]; simp [hm.1])
          simp only [hcur, List.getElem_cons_zero, (fifteen hm.1).2] at hc0 hc15
          have HN := Lib.hid (low_nxt hcur hm.1 hrd)
          have hf0 := HR2.out.1.frozen 0
          have hf15 := HR2.out.1.frozen 15
          have HM := Lib.hid hm
          have HU := Lib.hid hcur
          have HRD := Lib.hid hrd
          clear hm hcur hrd
          go_wp2
          go_roundg (4 - (k + 1))
          case measure => omega
          case rel =>
            refine ⟨k + 1, F3.round d1, by go_num, by omega, rfl, ?_, Lib.hid ⟨by rw [HD.out.1]; rfl, F3.round_len _ HD.out.2⟩, Lib.hid (low_keep HM.out HRD.out ha hz hc1 hc2)⟩
            rw [← HN.out]
            exact (HR2.out.set 15 _).set 0 _
    · obtain rfl : k = 4 := by omega
      obtain ⟨x0, hx0⟩ : ∃ x0, x0 = d1[0]'(by rw [HD.out.2]; omega) := ⟨_, rfl⟩
      have hb0 : -8796093022208 ≤ x0 ∧ x0 ≤ 8796093022208 := by rw [hx0]; exact HB1.out _ (List.getElem_mem _)
      have HX := Lib.hid hx0
      have e16 : (Try.prog.info? 45).map (·.size) = some (i64s d1).length := by rw [i64s_len, HD.out.2]; kernel_rfl
      have e16' : (Try.prog.info? 45).map (·.size) = some (i64s d1).toArray.size := by rw [List.size_toArray]; exact e16
      clear hx0
      go_wp2_with (first
        | (refine wl_load_arr rfl 45 (.tmp 1) rfl w.heap.size _ d1 rfl HR.out.1 _ Try.underlying45 rfl e16 ?_)
        | (refine wl_store_arr rfl 45 (.tmp 8) (.tmp 51) rfl wr.heap.size _ (zeros 16) d1 rfl rfl (arr0 wr _ (zeros 16)) e16' HD.out.2.symm ?_
           intro w5 hA5 hK5
           have hc50 := hA5.cell 0 (by rw [HD.out.2]; omega)
           rw [← HX.out] at hc50
           have hf50 := hA5.frozen 0
           have HA5 := Lib.hid hA5
           have HK5 := Lib.hid hK5
           clear hA5 hK5))
      have HE : Hid (LowE w wr.heap.size d1 (d1.set 0 (x0 + 19)) (w5.setCell ⟨wr.heap.size, 0, none⟩ (.int .i64 (x0 + 19)))) := Lib.hid (by
        have hlt := HR.out.2.1.lt
        have h5 : LowE w wr.heap.size d1 d1 w5 := ⟨HA5.out, (HR.out.keep ((Kp.refl (fun _ => False) wr).alloc _) (fun b h => h.elim)).keep HK5.out (fun b e => by omega), hlt⟩
        exact h5.set 0 _)
      obtain ⟨d2, hd2⟩ : ∃ d2, d2 = d1.set 0 (x0 + 19) := ⟨_, rfl⟩
      rw [← hd2] at HE
      have HD2 : Hid (d2.length = 16) := Lib.hid (by rw [hd2, List.length_set]; exact HD.out.2)
      have HB2 : Hid (∀ d, d ∈ d2 → -8796093085000 ≤ d ∧ d ≤ 8796093085000) := Lib.hid (fun d hd => by
        rw [hd2] at hd
        rcases List.mem_or_eq_of_mem_set hd with h | rfl
        · have := HB1.out d h
          omega
        · omega)
      have HS2 := Lib.hid hd2
      obtain ⟨g, hg⟩ : ∃ g, g = wr.heap.size := ⟨_, rfl⟩
      rw [← hg] at HE
      rw [← hg]
      clear hd2 hc50 hf50 HA5 HK5 hg e16 e16'
      generalize w5.setCell ⟨g, 0, none⟩ (.int .i64 (x0 + 19)) = w6 at HE
      go_loopg [9, 10] 16 (fun gg c i wx => ∃ (n : Nat) (cc : Int) (cur : List Int), c = .int .i64 cc ∧ i = .int .i64 n ∧ n ≤ 16 ∧ gg = 16 - n ∧ LowE w g d1 cur wx ∧ Hid (cur = (F3.carry (d2.take n) 0).1 ++ d2.drop n ∧ cc = (F3.carry (d2.take n) 0).2))
      case atStart => exact ⟨0, 0, d2, rfl, rfl, by omega, rfl, HE.out, Lib.hid ⟨rfl, rfl⟩⟩
      case round =>
        obtain ⟨n, cc, cur, rfl, rfl, hn, rfl, hr, HC⟩ := hrel
        have HR2 := Lib.hid hr
        clear hr
        by_cases h2 : n < 16
        · obtain ⟨y, hy1, hy2, hy3, hc1, hc2⟩ := low_step HD2.out h2 HB2.out HC.out
          have hcell := HR2.out.1.cell n hy1
          rw [hy2] at hcell
          have hfr := HR2.out.1.frozen n
          go_wp2
          go_roundg (16 - (n + 1))
          case measure => omega
          case rel => exact ⟨n + 1, _, _, rfl, by go_num, by omega, rfl, HR2.out.set n _, Lib.hid (low_next HD2.out h2 HC.out hy2)⟩
        · obtain rfl : n = 16 := by omega
          obtain ⟨a, m, z, hcur, hm, _, ha, hz, hc1, hc2⟩ := low_end HD2.out HB2.out HC.out
          have hc15 := HR2.out.1.cell 15 (by rw [hcur]; simp [hm.1])
          simp only [hcur, (fifteen hm.1).2] at hc15
          have hf15 := HR2.out.1.frozen 15
          have HM := Lib.hid hm
          have HU := Lib.hid hcur
          clear hm hcur
          by_cases hz2 : 32768 ≤ z
          · obtain ⟨r, hr⟩ : ∃ r, r = cur.set 15 (z - 32768) := ⟨_, rfl⟩
            have HV := HR2.out.set 15 (z - 32768)
            rw [← hr] at HV
            have hl : (zeros 16).length = r.length := by rw [hr, HU.out]; simp [HM.out.1, zeros]
            have e1 : (Try.prog.info? 45).map (·.size) = some (i64s r).length := by rw [i64s_len, ← hl]; kernel_rfl
            have e2 : (Try.prog.info? 46).map (·.size) = some (i64s r).toArray.size := by rw [List.size_toArray, i64s_len, ← hl]; kernel_rfl
            have HR3 := Lib.hid hr
            have HV3 := Lib.hid HV
            have HL3 := Lib.hid hl
            have HE1 := Lib.hid e1
            have HE2 := Lib.hid e2
            clear hr HV hl e1 e2
            go_wp2_with (first
              | (refine wl_load_arr rfl 45 (.tmp 8) rfl g _ r rfl HV3.out.1 _ Try.underlying45 rfl HE1.out ?_)
              | (refine wl_store_arr rfl 46 (.tmp 2) (.tmp 80) rfl (w.heap.size + 1) _ (zeros 16) r rfl rfl HV3.out.2.1.2.1 HE2.out HL3.out ?_
                 intro w7 hA7 hK7
                 have HA7 := Lib.hid hA7
                 have HK7 := Lib.hid hK7
                 clear hA7 hK7))
            refine ret_arr 2 46 46 (w.heap.size + 1) r _ rfl rfl HA7.out Try.underlying46 rfl (HE2.out.trans (congrArg some List.size_toArray)) rfl ?_
            refine ⟨?_, ?_⟩
            · rw [← low_fin_a HL.out HB.out H0.out HD.out.1 HX.out HS2.out (low_cur HD2.out HC.out.1) HU.out HM.out.1 (by omega), HR3.out]
            · exact HV3.out.2.1.2.2.trans HK7.out (fun _ _ h => h) (fun i hi e => by omega)
          · have hl : (zeros 16).length = d1.length := HD.out.2.symm
            have e1 : (Try.prog.info? 45).map (·.size) = some (i64s d1).length := by rw [i64s_len, ← hl]; kernel_rfl
            have e2 : (Try.prog.info? 46).map (·.size) = some (i64s d1).toArray.size := by rw [List.size_toArray, i64s_len, ← hl]; kernel_rfl
            have HL3 := Lib.hid hl
            have HE1 := Lib.hid e1
            have HE2 := Lib.hid e2
            clear hl e1 e2
            go_wp2_with (first
              | (refine wl_load_arr rfl 45 (.tmp 1) rfl w.heap.size _ d1 rfl HR2.out.2.1.1 _ Try.underlying45 rfl HE1.out ?_)
              | (refine wl_store_arr rfl 46 (.tmp 2) (.tmp 81) rfl (w.heap.size + 1) _ (zeros 16) d1 rfl rfl HR2.out.2.1.2.1 HE2.out HL3.out ?_
                 intro w7 hA7 hK7
                 have HA7 := Lib.hid hA7
                 have HK7 := Lib.hid hK7
                 clear hA7 hK7))
            refine ret_arr 2 46 46 (w.heap.size + 1) d1 _ rfl rfl HA7.out Try.underlying46 rfl (HE2.out.trans (congrArg some List.size_toArray)) rfl ?_
            refine ⟨?_, ?_⟩
            · rw [← low_fin_b HL.out HB.out H0.out HD.out.1 HX.out HS2.out (low_cur HD2.out HC.out.1) HU.out HM.out.1 (by omega)]
            · exact HR2.out.2.1.2.2.trans HK7.out (fun _ _ h => h) (fun i hi e => by omega)
end Go.Proofs.Ytcnehbfcagghpaa
namespace Go.Proofs.Ytcnehbfcagghpaa
open Go Go.RowKit
/-- A number below the prime, as the reference holds it. -/
def numV (n : Nat) : Value := .agg (i64s (F3.digs 16 (n : Int))).toArray
theorem numLen (n : Int) : (F3.digs 16 n).length = 16 := F3.digs_len 16 n
theorem infoA (ds : List Int) (h : ds.length = 16) : (Try.prog.info? 45).map (·.size) = some (i64s ds).length := by rw [i64s_len, h]; kernel_rfl
theorem infoN (ds : List Int) (h : ds.length = 16) : (Try.prog.info? 46).map (·.size) = some (i64s ds).length := by rw [i64s_len, h]; kernel_rfl
theorem infoN' (ds : List Int) (h : ds.length = 16) : (Try.prog.info? 46).map (·.size) = some (i64s ds).toArray.size := by rw [List.size_toArray]; exact infoN ds h
theorem low_num (ds : List Int) (n : Nat) (w : World) (hl : ds.length = 16) (hb : ∀ d, d ∈ ds → -8796093022208 ≤ d ∧ d ≤ 8796093022208) (h0 : F3.val ds = (n : Int)) :
    Calls Try.prog 34 #[.agg (i64s ds).toArray] w fun e w' => e = .returned (numV (n % 57896044618658097711785492504343953926634992332820282019728792003956564819949)) ∧ Kp0 w w' := by
  refine (low_any ds w hl hb (by omega)).mono fun e w' ⟨h1, h2⟩ => ⟨?_, h2⟩
  rw [h1, h0, numV, Int.natCast_emod]
  rfl
theorem num_val (n : Nat) (h : n < 57896044618658097711785492504343953926634992332820282019728792003956564819949) : F3.val (F3.digs 16 (n : Int)) = n := by
  rw [F3.digs_val, F3.p16]
  omega
theorem Arr.kp0 {w w' : World} {g : Nat} {T : TypeId} {ds : List Int} (h : Arr w g T ds) (hk : Kp0 w w') : Arr w' g T ds := h.keep hk (fun h => h)
theorem arr2 (w : World) (o o2 : Obj) (T : TypeId) (ds : List Int) : Arr (((w.alloc o).alloc o2).alloc (.cells (i64s ds).toArray T)) (w.heap.size + 1 + 1) T ds := by
  have := heap_alloc_new ((w.alloc o).alloc o2) (.cells (i64s ds).toArray T)
  rw [show ((w.alloc o).alloc o2).heap.size = w.heap.size + 1 + 1 from by simp] at this
  exact this
theorem nokp (P : Nat → Prop) : ∀ b, False → P b := fun _ h => h.elim
set_option maxHeartbeats 4000000 in
theorem small_any (n : Nat) (w : World) (hn : n ≤ 8796093022208) :
    Calls Try.prog 20 #[.int .i64 n] w fun e w' => e = .returned (numV n) ∧ Kp0 w w' := by
  go_enter Try.func20, Try.ntmps20
  go_wp2_with fail
  refine (low_num ((n : Int) :: zeros 15) n _ rfl (fun d hd => ?_) ?_).mono ?_
  · rw [List.mem_cons] at hd
    rcases hd with rfl | hd
    · omega
    · have := List.eq_of_mem_replicate hd
      omega
  · rw [F3.val, zeros, F3.val_zeros]
    omega
  rintro e w1 ⟨rfl, hk⟩
  rw [Nat.mod_eq_of_lt (by omega)]
  have HK := Lib.hid hk
  have HA := Lib.hid ((arr0 w 46 (zeros 16)).kp0 hk)
  clear hk
  go_wp2_with (
    (refine wl_store_arr rfl 46 (.tmp 2) (.tmp 5) rfl w.heap.size _ (zeros 16) (F3.digs 16 (n : Int)) rfl rfl HA.out (infoN' _ (numLen _)) (numLen _).symm ?_
     intro w7 hA7 hK7
     have HA7 := Lib.hid hA7
     have HK7 := Lib.hid hK7
     clear hA7 hK7))
  refine ret_arr 2 46 46 w.heap.size (F3.digs 16 (n : Int)) _ rfl rfl HA7.out Try.underlying46 rfl (infoN _ (numLen _)) rfl ?_
  exact ⟨rfl, (((Kp.refl _ w).alloc _).tr HK.out).trans HK7.out (fun _ _ h => h) (fun i hi e => by omega)⟩
/-- What a sum's loop keeps. -/
def SumR (w : World) (cur db : List Int) (wr : World) : Prop := Arr wr w.heap.size 46 cur ∧ Arr wr (w.heap.size + 1) 46 db ∧ Arr wr (w.heap.size + 1 + 1) 46 (zeros 16) ∧ Kp0 w wr
theorem SumR.start (w : World) (da db : List Int) : SumR w da db (((w.alloc (.cells (i64s da).toArray 46)).alloc (.cells (i64s db).toArray 46)).alloc (.cells (i64s (zeros 16)).toArray 46)) :=
  ⟨(arr0 w _ da).kp0 (((Kp.refl _ _).alloc _).alloc _), (arr1 w _ _ db).kp0 ((Kp.refl _ _).alloc _), arr2 w _ _ _ _, (((Kp.refl _ w).alloc _).alloc _).alloc _⟩
theorem SumR.set {w wr : World} {cur db : List Int} (h : SumR w cur db wr) (i : Nat) (x : Int) : SumR w (cur.set i x) db (wr.setCell ⟨w.heap.size, i, none⟩ (.int .i64 x)) := by
  obtain ⟨h1, h2, h3, h4⟩ := h
  have hk := (Kp.refl (fun b => b = w.heap.size) wr).setCell (p := ⟨w.heap.size, i, none⟩) (fun _ => rfl) (.int .i64 x)
  exact ⟨h1.set i x, h2.keep hk (fun e => by omega), h3.keep hk (fun e => by omega), h4.setCell (p := ⟨w.heap.size, i, none⟩) (fun hlt => absurd hlt (Nat.lt_irrefl _)) _⟩
theorem SumR.drew {w wr : World} {cur db : List Int} (h : SumR w cur db wr) : SumR w cur db wr.drew := ⟨h.1, h.2.1, h.2.2.1, h.2.2.2.drew⟩
theorem SumR.kp0 {w wr wx : World} {cur db : List Int} (h : SumR w cur db wr) (hk : Kp0 wr wx) : SumR w cur db wx := ⟨h.1.kp0 hk, h.2.1.kp0 hk, h.2.2.1.kp0 hk, h.2.2.2.tr hk⟩
/-- A digit of a second number goes into a digit. -/
theorem sum_step {cur db : List Int} {n : Nat} (s : Int) (hc : cur.length = 16) (hd : db.length = 16) (hn : n < 16) {x y : Int} (hx : cur[n] = x) (hy : db[n] = y) {V : Int} (hv : F3.val cur = V + s * F3.val (db.take n)) :
    F3.val (cur.set n (x + s * y)) = V + s * F3.val (db.take (n + 1)) := by
  rw [F3.val_set _ _ _ (by omega), F3.val_take _ _ (by omega), hx, hy, hv, Int.mul_add, Int.add_assoc, show x + s * y - x = s * y by omega, Int.mul_left_comm]
set_option maxRecDepth 20000 in
set_option maxHeartbeats 4000000 in
theorem add_any (a b : Nat) (w : World) (ha : a < 57896044618658097711785492504343953926634992332820282019728792003956564819949) (hb : b < 57896044618658097711785492504343953926634992332820282019728792003956564819949) :
    Calls Try.prog 36 #[numV a, numV b] w fun e w' => e = .returned (numV ((a + b) % 57896044618658097711785492504343953926634992332820282019728792003956564819949)) ∧ Kp0 w w' := by
  obtain ⟨da, hda⟩ : ∃ d, d = F3.digs 16 (a : Int) := ⟨_, rfl⟩
  obtain ⟨db, hdb⟩ : ∃ d, d = F3.digs 16 (b : Int) := ⟨_, rfl⟩
  have HVa : Hid (da.length = 16 ∧ F3.val da = a ∧ F3.Dig da) := Lib.hid (by rw [hda]; exact ⟨numLen _, num_val _ ha, F3.digs_dig _ _⟩)
  have HVb : Hid (db.length = 16 ∧ F3.val db = b ∧ F3.Dig db) := Lib.hid (by rw [hdb]; exact ⟨numLen _, num_val _ hb, F3.digs_dig _ _⟩)
  unfold numV
  rw [← hda, ← hdb]
  clear hda hdb ha hb
  go_enter Try.func36, Try.ntmps36
  go_wp2
  go_loopg [5] 16 (fun g i wr => ∃ (n : Nat) (cur : List Int), i = .int .i64 n ∧ n ≤ 16 ∧ g = 16 - n ∧ SumR w cur db wr ∧ Hid (cur.length = 16 ∧ F3.val cur = F3.val da + 1 * F3.val (db.take n) ∧ ∀ d, d ∈ cur → 0 ≤ d ∧ d ≤ 65536 * (n + 1)))
  case atStart => exact ⟨0, da, rfl, by omega, rfl, SumR.start w da db, Lib.hid ⟨HVa.out.1, by simp [F3.val], fun d hd => by have := HVa.out.2.2 d hd; omega⟩⟩
  case round =>
    obtain ⟨n, cur, rfl, hn, rfl, hr, HC⟩ := hrel
    have HR := Lib.hid hr
    clear hr
    by_cases h : n < 16
    · obtain ⟨x, hx⟩ : ∃ x, x = cur[n]'(by rw [HC.out.1]; exact h) := ⟨_, rfl⟩
      obtain ⟨y, hy⟩ : ∃ y, y = db[n]'(by rw [HVb.out.1]; exact h) := ⟨_, rfl⟩
      have hc1 := HR.out.1.cell n (by rw [HC.out.1]; exact h)
      have hc2 := HR.out.2.1.cell n (by rw [HVb.out.1]; exact h)
      have hf1 := HR.out.1.frozen n
      rw [← hx] at hc1
      rw [← hy] at hc2
      have hbx : 0 ≤ x ∧ x ≤ 65536 * (n + 1) := by rw [hx]; exact HC.out.2.2 _ (List.getElem_mem _)
      have hby : 0 ≤ y ∧ y < 65536 := by rw [hy]; exact HVb.out.2.2 _ (List.getElem_mem _)
      have HX := Lib.hid hx
      have HY := Lib.hid hy
      clear hx hy
      go_upto_region 4 with (fail)
      go_region
      all_goals
        go_wp2
        go_roundg (16 - (n + 1))
        case measure => omega
        case rel =>
          refine ⟨n + 1, _, by go_num, by omega, rfl, (HR.out.set n _).drew, Lib.hid ⟨by rw [List.length_set]; exact HC.out.1, ?_, fun d hd => ?_⟩⟩
          · rw [show x + y = x + 1 * y by omega]
            exact sum_step 1 HC.out.1 HVb.out.1 h HX.out.symm HY.out.symm HC.out.2.1
          · rcases List.mem_or_eq_of_mem_set hd with hd | rfl
            · have := HC.out.2.2 d hd
              omega
            · omega
    · obtain rfl : n = 16 := by omega
      go_wp2_with (refine wl_load_arr rfl 46 (.tmp 2) rfl w.heap.size _ cur rfl HR.out.1 _ Try.underlying46 rfl (infoN _ HC.out.1) ?_)
      refine (low_num cur (a + b) _ HC.out.1 (fun d hd => by have := HC.out.2.2 d hd; omega) ?_).mono ?_
      · rw [HC.out.2.1, List.take_of_length_le (by rw [HVb.out.1]; omega), HVa.out.2.1, HVb.out.2.1]
        omega
      rintro e w1 ⟨rfl, hk⟩
      have HR1 := Lib.hid (HR.out.kp0 hk)
      clear hk
      go_wp2_with (
        (refine wl_store_arr rfl 46 (.tmp 4) (.tmp 19) rfl (w.heap.size + 1 + 1) _ (zeros 16) (F3.digs 16 (((a + b) % 57896044618658097711785492504343953926634992332820282019728792003956564819949 : Nat) : Int)) rfl rfl HR1.out.2.2.1 (infoN' _ (numLen _)) (numLen _).symm ?_
         intro w7 hA7 hK7
         have HA7 := Lib.hid hA7
         have HK7 := Lib.hid hK7
         clear hA7 hK7))
      refine ret_arr 4 46 46 (w.heap.size + 1 + 1) (F3.digs 16 (((a + b) % 57896044618658097711785492504343953926634992332820282019728792003956564819949 : Nat) : Int)) _ rfl rfl HA7.out Try.underlying46 rfl (infoN _ (numLen _)) rfl ?_
      exact ⟨rfl, HR1.out.2.2.2.trans HK7.out (fun _ _ h => h) (fun i hi e => by omega)⟩
theorem ones_succ (n : Nat) (h : 1 ≤ n) : F3.val (0 :: List.replicate (n + 1 - 1) 1) = F3.val (0 :: List.replicate (n - 1) 1) + 65536 ^ n := by
  obtain ⟨m, rfl⟩ : ∃ m, n = m + 1 := ⟨n - 1, by omega⟩
  rw [show m + 1 + 1 - 1 = m + 1 by omega, show m + 1 - 1 = m by omega, List.replicate_succ', ← List.cons_append, F3.val_append, List.length_cons, List.length_replicate]
  simp only [F3.val, Int.mul_zero, Int.add_zero, Int.mul_one]
theorem ones15 : (131070 : Int) * F3.val (0 :: List.replicate (15 - 1) 1) + 65536 ^ 15 * 65534 + 131034 = 2 * 57896044618658097711785492504343953926634992332820282019728792003956564819949 := by decide +kernel
set_option maxRecDepth 20000 in
set_option maxHeartbeats 4000000 in
theorem sub_any (a b : Nat) (w : World) (ha : a < 57896044618658097711785492504343953926634992332820282019728792003956564819949) (hb : b < 57896044618658097711785492504343953926634992332820282019728792003956564819949) :
    Calls Try.prog 35 #[numV a, numV b] w fun e w' => e = .returned (numV ((a + 57896044618658097711785492504343953926634992332820282019728792003956564819949 - b) % 57896044618658097711785492504343953926634992332820282019728792003956564819949)) ∧ Kp0 w w' := by
  obtain ⟨da, hda⟩ : ∃ d, d = F3.digs 16 (a : Int) := ⟨_, rfl⟩
  obtain ⟨db, hdb⟩ : ∃ d, d = F3.digs 16 (b : Int) := ⟨_, rfl⟩
  have HVa : Hid (da.length = 16 ∧ F3.val da = a ∧ F3.Dig da) := Lib.hid (by rw [hda]; exact ⟨numLen _, num_val _ ha, F3.digs_dig _ _⟩)
  have HVb : Hid (db.length = 16 ∧ F3.val db = b ∧ F3.Dig db) := Lib.hid (by rw [hdb]; exact ⟨numLen _, num_val _ hb, F3.digs_dig _ _⟩)
  have HLb := Lib.hid hb
  unfold numV
  rw [← hda, ← hdb]
  clear hda hdb ha hb
  go_enter Try.func35, Try.ntmps35
  go_wp2
  go_loopg [5] 16 (fun g i wr => ∃ (n : Nat) (cur : List Int), i = .int .i64 n ∧ n ≤ 16 ∧ g = 16 - n ∧ SumR w cur db wr ∧ Hid (cur.length = 16 ∧ F3.val cur = F3.val da + -1 * F3.val (db.take n) ∧ ∀ d, d ∈ cur → -65536 * n ≤ d ∧ d ≤ 65536))
  case atStart => exact ⟨0, da, rfl, by omega, rfl, SumR.start w da db, Lib.hid ⟨HVa.out.1, by simp [F3.val], fun d hd => by have := HVa.out.2.2 d hd; omega⟩⟩
  case round =>
    obtain ⟨n, cur, rfl, hn, rfl, hr, HC⟩ := hrel
    have HR := Lib.hid hr
    clear hr
    by_cases h : n < 16
    · obtain ⟨x, hx⟩ : ∃ x, x = cur[n]'(by rw [HC.out.1]; exact h) := ⟨_, rfl⟩
      obtain ⟨y, hy⟩ : ∃ y, y = db[n]'(by rw [HVb.out.1]; exact h) := ⟨_, rfl⟩
      have hc1 := HR.out.1.cell n (by rw [HC.out.1]; exact h)
      have hc2 := HR.out.2.1.cell n (by rw [HVb.out.1]; exact h)
      have hf1 := HR.out.1.frozen n
      rw [← hx] at hc1
      rw [← hy] at hc2
      have hbx : -65536 * n ≤ x ∧ x ≤ 65536 := by rw [hx]; exact HC.out.2.2 _ (List.getElem_mem _)
      have hby : 0 ≤ y ∧ y < 65536 := by rw [hy]; exact HVb.out.2.2 _ (List.getElem_mem _)
      have HX := Lib.hid hx
      have HY := Lib.hid hy
      clear hx hy
      go_upto_region 4 with (fail)
      go_region
      all_goals
        go_wp2
        go_roundg (16 - (n + 1))
        case measure => omega
        case rel =>
          refine ⟨n + 1, _, by go_num, by omega, rfl, (HR.out.set n _).drew, Lib.hid ⟨by rw [List.length_set]; exact HC.out.1, ?_, fun d hd => ?_⟩⟩
          · rw [show x - y = x + -1 * y by omega]
            exact sum_step (-1) HC.out.1 HVb.out.1 h HX.out.symm HY.out.symm HC.out.2.1
          · rcases List.mem_or_eq_of_mem_set hd with hd | rfl
            · have := HC.out.2.2 d hd
              omega
            · omega
    · obtain rfl : n = 16 := by omega
      obtain ⟨x0, hx0⟩ : ∃ x, x = cur[0]'(by rw [HC.out.1]; omega) := ⟨_, rfl⟩
      have hc0 := HR.out.1.cell 0 (by rw [HC.out.1]; omega)
      have hf0 := HR.out.1.frozen 0
      rw [← hx0] at hc0
      have hb0 : -1048576 ≤ x0 ∧ x0 ≤ 65536 := by have := HC.out.2.2 _ (List.getElem_mem (l := cur) (n := 0) (by rw [HC.out.1]; omega)); rw [← hx0] at this; omega
      have HX0 := Lib.hid hx0
      clear hx0
      go_wp2
      go_loopg [6] 15 (fun g i wr => ∃ (n : Nat) (cu2 : List Int), i = .int .i64 n ∧ 1 ≤ n ∧ n ≤ 15 ∧ g = 16 - n ∧ SumR w cu2 db wr ∧ Hid (cu2.length = 16 ∧ F3.val cu2 = (a : Int) - b + 131034 + 131070 * F3.val (0 :: List.replicate (n - 1) 1) ∧ ∀ d, d ∈ cu2 → -1048576 ≤ d ∧ d ≤ 65536 + 131070 * n))
      case atStart =>
        refine ⟨1, _, rfl, by omega, by omega, rfl, HR.out.set 0 _, Lib.hid ⟨by rw [List.length_set]; exact HC.out.1, ?_, fun d hd => ?_⟩⟩
        · rw [F3.val_set _ _ _ (by rw [HC.out.1]; omega), ← HX0.out, HC.out.2.1, List.take_of_length_le (by rw [HVb.out.1]; omega), HVa.out.2.1, HVb.out.2.1]
          simp [F3.val]
          omega
        · rcases List.mem_or_eq_of_mem_set hd with hd | rfl
          · have := HC.out.2.2 d hd
            omega
          · omega
      case round =>
        obtain ⟨n, cu2, rfl, hn1, hn, rfl, hr, HC2⟩ := hrel
        have HR2 := Lib.hid hr
        clear hr
        by_cases h2 : n < 15
        · obtain ⟨x, hx⟩ : ∃ x, x = cu2[n]'(by rw [HC2.out.1]; omega) := ⟨_, rfl⟩
          have hc1 := HR2.out.1.cell n (by rw [HC2.out.1]; omega)
          have hf1 := HR2.out.1.frozen n
          rw [← hx] at hc1
          have hbx : -1048576 ≤ x ∧ x ≤ 65536 + 131070 * n := by rw [hx]; exact HC2.out.2.2 _ (List.getElem_mem _)
          have HX := Lib.hid hx
          clear hx
          go_wp2
          go_roundg (16 - (n + 1))
          case measure => omega
          case rel =>
            refine ⟨n + 1, _, by go_num, by omega, by omega, rfl, HR2.out.set n _, Lib.hid ⟨by rw [List.length_set]; exact HC2.out.1, ?_, fun d hd => ?_⟩⟩
            · rw [F3.val_set _ _ _ (by rw [HC2.out.1]; omega), ← HX.out, HC2.out.2.1, ones_succ n hn1]
              rw [show x + 131070 - x = 131070 by omega, Int.mul_add, Int.mul_comm (65536 ^ n)]
              omega
            · rcases List.mem_or_eq_of_mem_set hd with hd | rfl
              · have := HC2.out.2.2 d hd
                omega
              · omega
        · obtain rfl : n = 15 := by omega
          obtain ⟨x15, hx15⟩ : ∃ x, x = cu2[15]'(by rw [HC2.out.1]; omega) := ⟨_, rfl⟩
          have hc15 := HR2.out.1.cell 15 (by rw [HC2.out.1]; omega)
          have hf15 := HR2.out.1.frozen 15
          rw [← hx15] at hc15
          have hb15 : -1048576 ≤ x15 ∧ x15 ≤ 65536 + 131070 * 15 := by rw [hx15]; exact HC2.out.2.2 _ (List.getElem_mem _)
          obtain ⟨cu3, hcu3⟩ : ∃ c, c = cu2.set 15 (x15 + 65534) := ⟨_, rfl⟩
          have HC3 : Hid (cu3.length = 16 ∧ F3.val cu3 = (a : Int) - b + 2 * 57896044618658097711785492504343953926634992332820282019728792003956564819949 ∧ ∀ d, d ∈ cu3 → -1048576 ≤ d ∧ d ≤ 3145728) := Lib.hid (by
            rw [hcu3]
            refine ⟨by rw [List.length_set]; exact HC2.out.1, ?_, fun d hd => ?_⟩
            · rw [F3.val_set _ _ _ (by rw [HC2.out.1]; omega), ← hx15, HC2.out.2.1, show x15 + 65534 - x15 = 65534 by omega]
              have := ones15
              omega
            · rcases List.mem_or_eq_of_mem_set hd with hd | rfl
              · have := HC2.out.2.2 d hd
                omega
              · omega)
          have HR3 := Lib.hid (HR2.out.set 15 (x15 + 65534))
          rw [← hcu3] at HR3
          clear hcu3 hx15
          go_wp2_with (refine wl_load_arr rfl 46 (.tmp 2) rfl w.heap.size _ cu3 rfl HR3.out.1 _ Try.underlying46 rfl (infoN _ HC3.out.1) ?_)
          refine (low_num cu3 (a + 2 * 57896044618658097711785492504343953926634992332820282019728792003956564819949 - b) _ HC3.out.1 (fun d hd => by have := HC3.out.2.2 d hd; omega) ?_).mono ?_
          · rw [HC3.out.2.1]
            have := HLb.out
            omega
          rintro e w1 ⟨rfl, hk⟩
          rw [show (a + 2 * 57896044618658097711785492504343953926634992332820282019728792003956564819949 - b) % 57896044618658097711785492504343953926634992332820282019728792003956564819949 = (a + 57896044618658097711785492504343953926634992332820282019728792003956564819949 - b) % 57896044618658097711785492504343953926634992332820282019728792003956564819949 by have := HLb.out; omega]
          have HR1 := Lib.hid (HR3.out.kp0 hk)
          clear hk
          go_wp2_with (
            (refine wl_store_arr rfl 46 (.tmp 4) (.tmp 37) rfl (w.heap.size + 1 + 1) _ (zeros 16) (F3.digs 16 (((a + 57896044618658097711785492504343953926634992332820282019728792003956564819949 - b) % 57896044618658097711785492504343953926634992332820282019728792003956564819949 : Nat) : Int)) rfl rfl HR1.out.2.2.1 (infoN' _ (numLen _)) (numLen _).symm ?_
             intro w7 hA7 hK7
             have HA7 := Lib.hid hA7
             have HK7 := Lib.hid hK7
             clear hA7 hK7))
          refine ret_arr 4 46 46 (w.heap.size + 1 + 1) (F3.digs 16 (((a + 57896044618658097711785492504343953926634992332820282019728792003956564819949 - b) % 57896044618658097711785492504343953926634992332820282019728792003956564819949 : Nat) : Int)) _ rfl rfl HA7.out Try.underlying46 rfl (infoN _ (numLen _)) rfl ?_
          exact ⟨rfl, HR1.out.2.2.2.trans HK7.out (fun _ _ h => h) (fun i hi e => by omega)⟩
end Go.Proofs.Ytcnehbfcagghpaa
