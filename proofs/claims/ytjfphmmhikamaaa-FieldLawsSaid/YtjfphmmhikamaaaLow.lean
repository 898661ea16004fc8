/- The reference's low. -/
import Derived.Test.YtjfphmmhikamaaaArr
import Derived.Test.YtjfphmmhikamaaaChecked
import Derived.WalkKit
import Derived.BigRegion
import Derived.Deep.DeepCutAuto
import Derived.Deep.LoopGhost
import Derived.Deep.LoopGhost
import Derived.Lib.Hide
namespace Go.Proofs.Ytjfphmmhikamaaa
open Go Go.RowKit
theorem arr0 (w : World) (T : TypeId) (ds : List Int) : Arr (w.alloc (.cells (i64s ds).toArray T)) w.heap.size T ds := heap_alloc_new w _
theorem arr1 (w : World) (o : Obj) (T : TypeId) (ds : List Int) : Arr ((w.alloc o).alloc (.cells (i64s ds).toArray T)) (w.heap.size + 1) T ds := by
  have := heap_alloc_new (w.alloc o) (.cells (i64s ds).toArray T)
  rw [show (w.alloc o).heap.size = w.heap.size + 1 from by simp] at this
  exact this
def zeros (n : Nat) : List Int := List.replicate n 0
/-- What the rounds keep. -/
def LowR (w : World) (ds : List Int) (wr : World) : Prop := Arr wr w.heap.size 46 ds ∧ Arr wr (w.heap.size + 1) 47 (zeros 16) ∧ Kp0 w wr
theorem LowR.set {w wr : World} {ds : List Int} (h : LowR w ds wr) (i : Nat) (x : Int) : LowR w (ds.set i x) (wr.setCell ⟨w.heap.size, i, none⟩ (.int .i64 x)) := by
  obtain ⟨h1, h2, h3⟩ := h
  refine ⟨h1.set i x, h2.keep ((Kp.refl (fun b => b = w.heap.size) wr).setCell (fun _ => rfl) _) (fun e => ?_), h3.setCell (p := ⟨w.heap.size, i, none⟩) (fun hlt => ?_) _⟩
  · have : w.heap.size + 1 = w.heap.size := e
    omega
  · exact absurd hlt (Nat.lt_irrefl _)
/-- What the last carrying keeps. -/
def LowE (w : World) (g : Nat) (d cur : List Int) (wx : World) : Prop := Arr wx g 46 cur ∧ LowR w d wx ∧ w.heap.size + 1 < g
theorem LowR.keep {w wr wx : World} {ds : List Int} (h : LowR w ds wr) {S : Nat → Prop} (hk : Kp S wr wx) (hs : ∀ b, S b → w.heap.size + 1 < b) : LowR w ds wx := by
  obtain ⟨h1, h2, h3⟩ := h
  exact ⟨h1.keep hk (fun h => by have := hs _ h; omega), h2.keep hk (fun h => by have := hs _ h; omega), h3.trans hk (fun _ _ h => h) (fun i hi h => by have := hs _ h; omega)⟩
theorem LowE.set {w wx : World} {g : Nat} {d cur : List Int} (h : LowE w g d cur wx) (i : Nat) (x : Int) : LowE w g d (cur.set i x) (wx.setCell ⟨g, i, none⟩ (.int .i64 x)) := by
  obtain ⟨h1, h2, h3⟩ := h
  exact ⟨h1.set i x, h2.keep ((Kp.refl (fun b => b = g) wx).setCell (fun _ => rfl) _) (fun b e => by omega), h3⟩
theorem low_step {d cur : List Int} {cc : Int} {n N : Nat} (hl : d.length = N) (h : n < N) (hb : ∀ x, x ∈ d → -8796093085000 ≤ x ∧ x ≤ 8796093085000) (hc : cur = (F3.carry (d.take n) 0).1 ++ d.drop n ∧ cc = (F3.carry (d.take n) 0).2) :
    ∃ y, ∃ hy : n < cur.length, cur[n]'hy = y ∧ (-8796093085000 ≤ y ∧ y ≤ 8796093085000) ∧ -134219778 ≤ cc ∧ cc ≤ 134219778 := by
  obtain ⟨rfl, rfl⟩ := hc
  have hcl := F3.carry_len (d.take n) 0
  rw [List.length_take, hl, Nat.min_eq_left (by omega)] at hcl
  have hy : n < ((F3.carry (d.take n) 0).1 ++ d.drop n).length := by rw [List.length_append, List.length_drop, hl, hcl]; omega
  have hbd := F3.carry_bound 134219777 (d.take n) 0 (fun x hx => by have := hb x (List.mem_of_mem_take hx); omega) (by omega)
  refine ⟨_, hy, rfl, ?_, by omega, by omega⟩
  rw [List.getElem_append_right (by omega), List.getElem_drop]
  exact hb _ (List.getElem_mem _)
theorem low_next {d cur : List Int} {cc : Int} {n N : Nat} (hl : d.length = N) (h : n < N) (hc : cur = (F3.carry (d.take n) 0).1 ++ d.drop n ∧ cc = (F3.carry (d.take n) 0).2) {y : Int} {hy : n < cur.length} (he : cur[n]'hy = y) :
    cur.set n (y + cc - (y + cc) / 65536 * 65536) = (F3.carry (d.take (n + 1)) 0).1 ++ d.drop (n + 1) ∧ (y + cc) / 65536 = (F3.carry (d.take (n + 1)) 0).2 := by
  obtain ⟨rfl, rfl⟩ := hc
  have hcl := F3.carry_len (d.take n) 0
  rw [List.length_take, hl, Nat.min_eq_left (by omega)] at hcl
  have hnd : n < d.length := by omega
  have e : y = d[n] := by
    rw [← he, List.getElem_append_right (by omega), List.getElem_drop]
    congr 1
    omega
  rw [List.take_succ_eq_append_getElem hnd, F3.carry_append, ← e]
  refine ⟨?_, rfl⟩
  rw [List.set_append_right _ _ (by omega), hcl, Nat.sub_self, List.drop_eq_getElem_cons hnd, List.set_cons_zero, List.append_assoc, List.singleton_append]
  congr 2
  omega
theorem low_end {d cur : List Int} {cc : Int} (hl : d.length = 16) (hb : ∀ x, x ∈ d → -8796093085000 ≤ x ∧ x ≤ 8796093085000) (hc : cur = (F3.carry (d.take 16) 0).1 ++ d.drop 16 ∧ cc = (F3.carry (d.take 16) 0).2) :
    ∃ a m z, cur = a :: (m ++ [z]) ∧ (m.length = 14 ∧ F3.Dig m) ∧ F3.round d = (a + (19 * (z / 32768) + 38 * cc)) :: (m ++ [z - z / 32768 * 32768]) ∧ (0 ≤ a ∧ a < 65536) ∧ (0 ≤ z ∧ z < 65536) ∧ -134219778 ≤ cc ∧ cc ≤ 134219778 := by
  obtain ⟨rfl, rfl⟩ := hc
  rw [List.take_of_length_le (by omega), List.drop_eq_nil_of_le (by omega), List.append_nil]
  obtain ⟨a, m, z, e0, hm, e⟩ := F3.round_form d hl
  have hd := F3.carry_dig d 0
  have hbd := F3.carry_bound 134219777 d 0 (fun x hx => by have := hb x hx; omega) (by omega)
  exact ⟨a, m, z, e0, ⟨hm, fun x hx => hd x (by rw [e0]; simp [hx])⟩, e, hd a (by rw [e0]; simp), hd z (by rw [e0]; simp), by omega, by omega⟩
theorem fifteen {a z : Int} {m : List Int} (hm : m.length = 14) : ∃ h : 15 < (a :: (m ++ [z])).length, (a :: (m ++ [z]))[15]'h = z := by
  refine ⟨by simp [hm], ?_⟩
  rw [List.getElem_cons_succ, List.getElem_append_right (by omega)]
  simp [hm]
theorem low_nxt {d cur : List Int} {cc : Int} {a z : Int} {m : List Int} (hcur : cur = a :: (m ++ [z])) (hm : m.length = 14) (hr : F3.round d = (a + (19 * (z / 32768) + 38 * cc)) :: (m ++ [z - z / 32768 * 32768])) :
    (cur.set 15 (z - z / 32768 * 32768)).set 0 (a + (19 * (z / 32768) + 38 * cc)) = F3.round d := by
  rw [hr, hcur, List.set_cons_succ, List.set_append_right _ _ (by omega), hm]
  rfl
theorem low_keep {d : List Int} {cc : Int} {a z : Int} {m : List Int} (hm : m.length = 14 ∧ F3.Dig m) (hr : F3.round d = (a + (19 * (z / 32768) + 38 * cc)) :: (m ++ [z - z / 32768 * 32768])) (ha : 0 ≤ a ∧ a < 65536) (hz : 0 ≤ z ∧ z < 65536) (h1 : -134219778 ≤ cc) (h2 : cc ≤ 134219778) :
    ∀ x, x ∈ F3.round d → -8796093022208 ≤ x ∧ x ≤ 8796093022208 := by
  intro x hx
  rw [hr, List.mem_cons, List.mem_append, List.mem_singleton] at hx
  rcases hx with rfl | hx | rfl
  · omega
  · have := hm.2 x hx
    omega
  · omega
theorem low_cur {d cur : List Int} (hl : d.length = 16) (h : cur = (F3.carry (d.take 16) 0).1 ++ d.drop 16) : cur = (F3.carry d 0).1 := by
  rw [h, List.take_of_length_le (by omega), List.drop_eq_nil_of_le (by omega), List.append_nil]
theorem rep4 (ds : List Int) : Nat.repeat F3.round 4 ds = F3.round (F3.round (F3.round (F3.round ds))) := rfl
theorem low_bound (ds : List Int) (hl : ds.length = 16) (hb : ∀ d, d ∈ ds → -8796093022208 ≤ d ∧ d ≤ 8796093022208) : F3.val ds < 62165404551223330269422781018352605012557018849668464680057997111644937126566671941632 := by
  obtain ⟨x0, x1, x2, x3, x4, x5, x6, x7, x8, x9, x10, x11, x12, x13, x14, x15, rfl⟩ := sixteen ds hl
  have h0 := hb x0 (by simp)
  have h1 := hb x1 (by simp)
  have h2 := hb x2 (by simp)
  have h3 := hb x3 (by simp)
  have h4 := hb x4 (by simp)
  have h5 := hb x5 (by simp)
  have h6 := hb x6 (by simp)
  have h7 := hb x7 (by simp)
  have h8 := hb x8 (by simp)
  have h9 := hb x9 (by simp)
  have h10 := hb x10 (by simp)
  have h11 := hb x11 (by simp)
  have h12 := hb x12 (by simp)
  have h13 := hb x13 (by simp)
  have h14 := hb x14 (by simp)
  have h15 := hb x15 (by simp)
  clear hb hl
  simp only [F3.val]
  omega
theorem low_fin {ds d1 d2 cur : List Int} {x0 a z : Int} {m : List Int} (hl : ds.length = 16) (hb : ∀ d, d ∈ ds → -8796093022208 ≤ d ∧ d ≤ 8796093022208) (h0 : 0 ≤ F3.val ds) (h1 : d1 = Nat.repeat F3.round 4 ds) {hd : 0 < d1.length} (hx : x0 = d1[0]'hd) (h2 : d2 = d1.set 0 (x0 + 19)) (h3 : cur = (F3.carry d2 0).1) (h4 : cur = a :: (m ++ [z])) (hm : m.length = 14) :
    (if z ≥ 32768 then cur.set 15 (z - 32768) else d1) = F3.digs 16 (F3.val ds % 57896044618658097711785492504343953926634992332820282019728792003956564819949) := by
  have e := F3.low_eq ds hl h0 (low_bound ds hl hb)
  unfold F3.lowL at e
  simp only [← rep4, ← h1] at e
  have e0 : d1.getD 0 0 = x0 := by rw [List.getD_eq_getElem?_getD, List.getElem?_eq_getElem hd, hx]; rfl
  rw [e0, ← h2, ← h3] at e
  have e15 : cur.getD 15 0 = z := by
    rw [h4, List.getD_eq_getElem?_getD, List.getElem?_cons_succ, List.getElem?_append_right (by omega), hm]
    rfl
  rw [e15] at e
  exact e
theorem low_fin_a {ds d1 d2 cur : List Int} {x0 a z : Int} {m : List Int} (hl : ds.length = 16) (hb : ∀ d, d ∈ ds → -8796093022208 ≤ d ∧ d ≤ 8796093022208) (h0 : 0 ≤ F3.val ds) (h1 : d1 = Nat.repeat F3.round 4 ds) {hd : 0 < d1.length} (hx : x0 = d1[0]'hd) (h2 : d2 = d1.set 0 (x0 + 19)) (h3 : cur = (F3.carry d2 0).1) (h4 : cur = a :: (m ++ [z])) (hm : m.length = 14) (hz : 32768 ≤ z) :
    cur.set 15 (z - 32768) = F3.digs 16 (F3.val ds % 57896044618658097711785492504343953926634992332820282019728792003956564819949) := by
  have := low_fin hl hb h0 h1 hx h2 h3 h4 hm
  rwa [if_pos hz] at this
theorem low_fin_b {ds d1 d2 cur : List Int} {x0 a z : Int} {m : List Int} (hl : ds.length = 16) (hb : ∀ d, d ∈ ds → -8796093022208 ≤ d ∧ d ≤ 8796093022208) (h0 : 0 ≤ F3.val ds) (h1 : d1 = Nat.repeat F3.round 4 ds) {hd : 0 < d1.length} (hx : x0 = d1[0]'hd) (h2 : d2 = d1.set 0 (x0 + 19)) (h3 : cur = (F3.carry d2 0).1) (h4 : cur = a :: (m ++ [z])) (hm : m.length = 14) (hz : ¬ 32768 ≤ z) :
    d1 = F3.digs 16 (F3.val ds % 57896044618658097711785492504343953926634992332820282019728792003956564819949) := by
  have := low_fin hl hb h0 h1 hx h2 h3 h4 hm
  rwa [if_neg hz] at this
set_option maxRecDepth 20000 in
set_option maxHeartbeats 4000000 in
theorem low_any (ds : List Int) (w : World) (hl : ds.length = 16) (hb : ∀ d, d ∈ ds → -8796093022208 ≤ d ∧ d ≤ 8796093022208) (h0 : 0 ≤ F3.val ds) :
    Calls Try.prog 57 #[.agg (i64s ds).toArray] w fun e w' => e = .returned (.agg (i64s (F3.digs 16 (F3.val ds % 57896044618658097711785492504343953926634992332820282019728792003956564819949))).toArray) ∧ Kp0 w w' := by
  have HL := Lib.hid hl
  have HB := Lib.hid hb
  have H0 := Lib.hid h0
  clear hl hb h0
  go_enter Try.func57, Try.ntmps57
  go_wp2
  go_loopg [3] 4 (fun g r wr => ∃ (k : Nat) (ds' : List Int), r = .int .i64 k ∧ k ≤ 4 ∧ g = 4 - k ∧ LowR w ds' wr ∧ Hid (ds' = Nat.repeat F3.round k ds ∧ ds'.length = 16) ∧ Hid (∀ d, d ∈ ds' → -8796093022208 ≤ d ∧ d ≤ 8796093022208))
  case atStart =>
    refine ⟨0, ds, rfl, by omega, rfl, ⟨?_, ?_, ?_⟩, Lib.hid ⟨rfl, HL.out⟩, HB⟩
    · exact (arr0 w _ ds).keep ((Kp.refl (fun _ => False) _).alloc _) (fun h => h)
    · exact arr1 w _ _ (zeros 16)
    · exact ((Kp.refl _ w).alloc _).alloc _
  case round =>
    obtain ⟨k, d1, rfl, hk, rfl, hr, HD, HB1⟩ := hrel
    have HR := Lib.hid hr
    clear hr
    by_cases h : k < 4
    · go_wp2
      go_loopg [4, 5] 16 (fun g c i wx => ∃ (n : Nat) (cc : Int) (cur : List Int), c = .int .i64 cc ∧ i = .int .i64 n ∧ n ≤ 16 ∧ g = 16 - n ∧ LowR w cur wx ∧ Hid (cur = (F3.carry (d1.take n) 0).1 ++ d1.drop n ∧ cc = (F3.carry (d1.take n) 0).2))
      case atStart => exact ⟨0, 0, d1, rfl, rfl, by omega, rfl, HR.out, Lib.hid ⟨rfl, rfl⟩⟩
      case round =>
        obtain ⟨n, cc, cur, rfl, rfl, hn, rfl, hr, HC⟩ := hrel
        have HR2 := Lib.hid hr
        clear hr
        by_cases h2 : n < 16
        · obtain ⟨y, hy1, hy2, hy3, hc1, hc2⟩ := low_step HD.out.2 h2 (fun x hx => by have := HB1.out x hx; omega) HC.out
          have hcell := HR2.out.1.cell n hy1
          rw [hy2] at hcell
          have hfr := HR2.out.1.frozen n
          have hlt := HR2.out.1.lt
          go_wp2
          go_roundg (16 - (n + 1))
          case measure => omega
          case rel => exact ⟨n + 1, _, _, rfl, by go_num, by omega, rfl, HR2.out.set n _, Lib.hid (low_next HD.out.2 h2 HC.out hy2)⟩
        · obtain rfl : n = 16 := by omega
          obtain ⟨a, m, z, hcur, hm, hrd, ha, hz, hc1, hc2⟩ := low_end HD.out.2 (fun x hx => by have := HB1.out x hx; omega) HC.out
          have hc0 := HR2.out.1.cell 0 (by rw [hcur]; simp)
          have hc15 := HR2.out.1.cell 15 (by rw [hcur]; simp [hm.1])
          simp only [hcur, List.getElem_cons_zero, (fifteen hm.1).2] at hc0 hc15
          have HN := Lib.hid (low_nxt hcur hm.1 hrd)
          have hf0 := HR2.out.1.frozen 0
          have hf15 := HR2.out.1.frozen 15
          have HM := Lib.hid hm
          have HU := Lib.hid hcur
          have HRD := Lib.hid hrd
          clear hm hcur hrd
          go_wp2
          go_roundg (4 - (k + 1))
          case measure => omega
          case rel =>
            refine ⟨k + 1, F3.round d1, by go_num, by omega, rfl, ?_, Lib.hid ⟨by rw [HD.out.1]; rfl, F3.round_len _ HD.out.2⟩, Lib.hid (low_keep HM.out HRD.out ha hz hc1 hc2)⟩
            rw [← HN.out]
            exact (HR2.out.set 15 _).set 0 _
    · obtain rfl : k = 4 := by omega
      obtain ⟨x0, hx0⟩ : ∃ x0, x0 = d1[0]'(by rw [HD.out.2]; omega) := ⟨_, rfl⟩
      have hb0 : -8796093022208 ≤ x0 ∧ x0 ≤ 8796093022208 := by rw [hx0]; exact HB1.out _ (List.getElem_mem _)
      have HX := Lib.hid hx0
      have e16 : (Try.prog.info? 46).map (·.size) = some (i64s d1).length := by rw [i64s_len, HD.out.2]; kernel_rfl
      have e16' : (Try.prog.info? 46).map (·.size) = some (i64s d1).toArray.size := by rw [List.size_toArray]; exact e16
      clear hx0
      go_wp2_with (first
        | (refine wl_load_arr rfl 46 (.tmp 1) rfl w.heap.size _ d1 rfl HR.out.1 _ Try.underlying46 rfl e16 ?_)
        | (refine wl_store_arr rfl 46 (.tmp 8) (.tmp 51) rfl wr.heap.size _ (zeros 16) d1 rfl rfl (arr0 wr _ (zeros 16)) e16' HD.out.2.symm ?_
           intro w5 hA5 hK5
           have hc50 := hA5.cell 0 (by rw [HD.out.2]; omega)
           rw [← HX.out] at hc50
           have hf50 := hA5.frozen 0
           have HA5 := Lib.hid hA5
           have HK5 := Lib.hid hK5
           clear hA5 hK5))
      have HE : Hid (LowE w wr.heap.size d1 (d1.set 0 (x0 + 19)) (w5.setCell ⟨wr.heap.size, 0, none⟩ (.int .i64 (x0 + 19)))) := Lib.hid (by
        have hlt := HR.out.2.1.lt
        have h5 : LowE w wr.heap.size d1 d1 w5 := ⟨HA5.out, (HR.out.keep ((Kp.refl (fun _ => False) wr).alloc _) (fun b h => h.elim)).keep HK5.out (fun b e => by omega), hlt⟩
        exact h5.set 0 _)
      obtain ⟨d2, hd2⟩ : ∃ d2, d2 = d1.set 0 (x0 + 19) := ⟨_, rfl⟩
      rw [← hd2] at HE
      have HD2 : Hid (d2.length = 16) := Lib.hid (by rw [hd2, List.length_set]; exact HD.out.2)
      have HB2 : Hid (∀ d, d ∈ d2 → -8796093085000 ≤ d ∧ d ≤ 8796093085000) := Lib.hid (fun d hd => by
        rw [hd2] at hd
        rcases List.mem_or_eq_of_mem_set hd with h | rfl
        · have := HB1.out d h
          omega
        · omega)
      have HS2 := Lib.hid hd2
      obtain ⟨g, hg⟩ : ∃ g, g = wr.heap.size := ⟨_, rfl⟩
      rw [← hg] at HE
      rw [← hg]
      clear hd2 hc50 hf50 HA5 HK5 hg e16 e16'
      generalize w5.setCell ⟨g, 0, none⟩ (.int .i64 (x0 + 19)) = w6 at HE
      go_loopg [9, 10] 16 (fun gg c i wx => ∃ (n : Nat) (cc : Int) (cur : List Int), c = .int .i64 cc ∧ i = .int .i64 n ∧ n ≤ 16 ∧ gg = 16 - n ∧ LowE w g d1 cur wx ∧ Hid (cur = (F3.carry (d2.take n) 0).1 ++ d2.drop n ∧ cc = (F3.carry (d2.take n) 0).2))
      case atStart => exact ⟨0, 0, d2, rfl, rfl, by omega, rfl, HE.out, Lib.hid ⟨rfl, rfl⟩⟩
      case round =>
        obtain ⟨n, cc, cur, rfl, rfl, hn, rfl, hr, HC⟩ := hrel
        have HR2 := Lib.hid hr
        clear hr
        by_cases h2 : n < 16
        · obtain ⟨y, hy1, hy2, hy3, hc1, hc2⟩ := low_step HD2.out h2 HB2.out HC.out
          have hcell := HR2.out.1.cell n hy1
          rw [hy2] at hcell
          have hfr := HR2.out.1.frozen n
          go_wp2
          go_roundg (16 - (n + 1))
          case measure => omega
          case rel => exact ⟨n + 1, _, _, rfl, by go_num, by omega, rfl, HR2.out.set n _, Lib.hid (low_next HD2.out h2 HC.out hy2)⟩
        · obtain rfl : n = 16 := by omega
          obtain ⟨a, m, z, hcur, hm, _, ha, hz, hc1, hc2⟩ := low_end HD2.out HB2.out HC.out
          have hc15 := HR2.out.1.cell 15 (by rw [hcur]; simp [hm.1])
          simp only [hcur, (fifteen hm.1).2] at hc15
          have hf15 := HR2.out.1.frozen 15
          have HM := Lib.hid hm
          have HU := Lib.hid hcur
          clear hm hcur
          by_cases hz2 : 32768 ≤ z
          · obtain ⟨r, hr⟩ : ∃ r, r = cur.set 15 (z - 32768) := ⟨_, rfl⟩
            have HV := HR2.out.set 15 (z - 32768)
            rw [← hr] at HV
            have hl : (zeros 16).length = r.length := by rw [hr, HU.out]; simp [HM.out.1, zeros]
            have e1 : (Try.prog.info? 46).map (·.size) = some (i64s r).length := by rw [i64s_len, ← hl]; kernel_rfl
            have e2 : (Try.prog.info? 47).map (·.size) = some (i64s r).toArray.size := by rw [List.size_toArray, i64s_len, ← hl]; kernel_rfl
            have HR3 := Lib.hid hr
            have HV3 := Lib.hid HV
            have HL3 := Lib.hid hl
            have HE1 := Lib.hid e1
            have HE2 := Lib.hid e2
            clear hr HV hl e1 e2
            go_wp2_with (first
              | (refine wl_load_arr rfl 46 (.tmp 8) rfl g _ r rfl HV3.out.1 _ Try.underlying46 rfl HE1.out ?_)
              | (refine wl_store_arr rfl 47 (.tmp 2) (.tmp 80) rfl (w.heap.size + 1) _ (zeros 16) r rfl rfl HV3.out.2.1.2.1 HE2.out HL3.out ?_
                 intro w7 hA7 hK7
                 have HA7 := Lib.hid hA7
                 have HK7 := Lib.hid hK7
                 clear hA7 hK7))
            refine ret_arr 2 47 47 (w.heap.size + 1) r _ rfl rfl HA7.out Try.underlying47 rfl (HE2.out.trans (congrArg some List.size_toArray)) rfl ?_
            refine ⟨?_, ?_⟩
            · rw [← low_fin_a HL.out HB.out H0.out HD.out.1 HX.out HS2.out (low_cur HD2.out HC.out.1) HU.out HM.out.1 (by omega), HR3.out]
            · exact HV3.out.2.1.2.2.trans HK7.out (fun _ _ h => h) (fun i hi e => by omega)
          · have hl : (zeros 16).length = d1.length := HD.out.2.symm
            have e1 : (Try.prog.info? 46).map (·.size) = some (i64s d1).length := by rw [i64s_len, ← hl]; kernel_rfl
            have e2 : (Try.prog.info? 47).map (·.size) = some (i64s d1).toArray.size := by rw [List.size_toArray, i64s_len, ← hl]; kernel_rfl
            have HL3 := Lib.hid hl
            have HE1 := Lib.hid e1
            have HE2 := Lib.hid e2
            clear hl e1 e2
            go_wp2_with (first
              | (refine wl_load_arr rfl 46 (.tmp 1) rfl w.heap.size _ d1 rfl HR2.out.2.1.1 _ Try.underlying46 rfl HE1.out ?_)
              | (refine wl_store_arr rfl 47 (.tmp 2) (.tmp 81) rfl (w.heap.size + 1) _ (zeros 16) d1 rfl rfl HR2.out.2.1.2.1 HE2.out HL3.out ?_
                 intro w7 hA7 hK7
                 have HA7 := Lib.hid hA7
                 have HK7 := Lib.hid hK7
                 clear hA7 hK7))
            refine ret_arr 2 47 47 (w.heap.size + 1) d1 _ rfl rfl HA7.out Try.underlying47 rfl (HE2.out.trans (congrArg some List.size_toArray)) rfl ?_
            refine ⟨?_, ?_⟩
            · rw [← low_fin_b HL.out HB.out H0.out HD.out.1 HX.out HS2.out (low_cur HD2.out HC.out.1) HU.out HM.out.1 (by omega)]
            · exact HR2.out.2.1.2.2.trans HK7.out (fun _ _ h => h) (fun i hi e => by omega)
end Go.Proofs.Ytjfphmmhikamaaa
