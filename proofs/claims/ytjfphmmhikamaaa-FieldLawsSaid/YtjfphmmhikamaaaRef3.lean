/- The reference's sums and products. -/
import Derived.Test.YtjfphmmhikamaaaLow
import Derived.Test.YtjfphmmhikamaaaNt
import Derived.BigRegion
namespace Go.Proofs.Ytjfphmmhikamaaa
open Go Go.RowKit
/-- A number below the prime, as the reference holds it. -/
def numV (n : Nat) : Value := .agg (i64s (F3.digs 16 (n : Int))).toArray
theorem numLen (n : Int) : (F3.digs 16 n).length = 16 := F3.digs_len 16 n
theorem infoA (ds : List Int) (h : ds.length = 16) : (Try.prog.info? 46).map (·.size) = some (i64s ds).length := by rw [i64s_len, h]; kernel_rfl
theorem infoN (ds : List Int) (h : ds.length = 16) : (Try.prog.info? 47).map (·.size) = some (i64s ds).length := by rw [i64s_len, h]; kernel_rfl
theorem infoN' (ds : List Int) (h : ds.length = 16) : (Try.prog.info? 47).map (·.size) = some (i64s ds).toArray.size := by rw [List.size_toArray]; exact infoN ds h
theorem low_num (ds : List Int) (n : Nat) (w : World) (hl : ds.length = 16) (hb : ∀ d, d ∈ ds → -8796093022208 ≤ d ∧ d ≤ 8796093022208) (h0 : F3.val ds = (n : Int)) :
    Calls Try.prog 57 #[.agg (i64s ds).toArray] w fun e w' => e = .returned (numV (n % 57896044618658097711785492504343953926634992332820282019728792003956564819949)) ∧ Kp0 w w' := by
  refine (low_any ds w hl hb (by omega)).mono fun e w' ⟨h1, h2⟩ => ⟨?_, h2⟩
  rw [h1, h0, numV, Int.natCast_emod]
  rfl
theorem num_val (n : Nat) (h : n < 57896044618658097711785492504343953926634992332820282019728792003956564819949) : F3.val (F3.digs 16 (n : Int)) = n := by
  rw [F3.digs_val, F3.p16]
  omega
theorem Arr.kp0 {w w' : World} {g : Nat} {T : TypeId} {ds : List Int} (h : Arr w g T ds) (hk : Kp0 w w') : Arr w' g T ds := h.keep hk (fun h => h)
theorem arr2 (w : World) (o o2 : Obj) (T : TypeId) (ds : List Int) : Arr (((w.alloc o).alloc o2).alloc (.cells (i64s ds).toArray T)) (w.heap.size + 1 + 1) T ds := by
  have := heap_alloc_new ((w.alloc o).alloc o2) (.cells (i64s ds).toArray T)
  rw [show ((w.alloc o).alloc o2).heap.size = w.heap.size + 1 + 1 from by simp] at this
  exact this
theorem nokp (P : Nat → Prop) : ∀ b, False → P b := fun _ h => h.elim
set_option maxHeartbeats 4000000 in
theorem small_any (n : Nat) (w : World) (hn : n ≤ 8796093022208) :
    Calls Try.prog 46 #[.int .i64 n] w fun e w' => e = .returned (numV n) ∧ Kp0 w w' := by
  go_enter Try.func46, Try.ntmps46
  go_wp2_with fail
  refine (low_num ((n : Int) :: zeros 15) n _ rfl (fun d hd => ?_) ?_).mono ?_
  · rw [List.mem_cons] at hd
    rcases hd with rfl | hd
    · omega
    · have := List.eq_of_mem_replicate hd
      omega
  · rw [F3.val, zeros, F3.val_zeros]
    omega
  rintro e w1 ⟨rfl, hk⟩
  rw [Nat.mod_eq_of_lt (by omega)]
  have HK := Lib.hid hk
  have HA := Lib.hid ((arr0 w 47 (zeros 16)).kp0 hk)
  clear hk
  go_wp2_with (
    (refine wl_store_arr rfl 47 (.tmp 2) (.tmp 5) rfl w.heap.size _ (zeros 16) (F3.digs 16 (n : Int)) rfl rfl HA.out (infoN' _ (numLen _)) (numLen _).symm ?_
     intro w7 hA7 hK7
     have HA7 := Lib.hid hA7
     have HK7 := Lib.hid hK7
     clear hA7 hK7))
  refine ret_arr 2 47 47 w.heap.size (F3.digs 16 (n : Int)) _ rfl rfl HA7.out Try.underlying47 rfl (infoN _ (numLen _)) rfl ?_
  exact ⟨rfl, (((Kp.refl _ w).alloc _).tr HK.out).trans HK7.out (fun _ _ h => h) (fun i hi e => by omega)⟩
/-- What a sum's loop keeps. -/
def SumR (w : World) (cur db : List Int) (wr : World) : Prop := Arr wr w.heap.size 47 cur ∧ Arr wr (w.heap.size + 1) 47 db ∧ Arr wr (w.heap.size + 1 + 1) 47 (zeros 16) ∧ Kp0 w wr
theorem SumR.start (w : World) (da db : List Int) : SumR w da db (((w.alloc (.cells (i64s da).toArray 47)).alloc (.cells (i64s db).toArray 47)).alloc (.cells (i64s (zeros 16)).toArray 47)) :=
  ⟨(arr0 w _ da).kp0 (((Kp.refl _ _).alloc _).alloc _), (arr1 w _ _ db).kp0 ((Kp.refl _ _).alloc _), arr2 w _ _ _ _, (((Kp.refl _ w).alloc _).alloc _).alloc _⟩
theorem SumR.set {w wr : World} {cur db : List Int} (h : SumR w cur db wr) (i : Nat) (x : Int) : SumR w (cur.set i x) db (wr.setCell ⟨w.heap.size, i, none⟩ (.int .i64 x)) := by
  obtain ⟨h1, h2, h3, h4⟩ := h
  have hk := (Kp.refl (fun b => b = w.heap.size) wr).setCell (p := ⟨w.heap.size, i, none⟩) (fun _ => rfl) (.int .i64 x)
  exact ⟨h1.set i x, h2.keep hk (fun e => by omega), h3.keep hk (fun e => by omega), h4.setCell (p := ⟨w.heap.size, i, none⟩) (fun hlt => absurd hlt (Nat.lt_irrefl _)) _⟩
theorem SumR.drew {w wr : World} {cur db : List Int} (h : SumR w cur db wr) : SumR w cur db wr.drew := ⟨h.1, h.2.1, h.2.2.1, h.2.2.2.drew⟩
theorem SumR.kp0 {w wr wx : World} {cur db : List Int} (h : SumR w cur db wr) (hk : Kp0 wr wx) : SumR w cur db wx := ⟨h.1.kp0 hk, h.2.1.kp0 hk, h.2.2.1.kp0 hk, h.2.2.2.tr hk⟩
/-- A digit of a second number goes into a digit. -/
theorem sum_step {cur db : List Int} {n : Nat} (s : Int) (hc : cur.length = 16) (hd : db.length = 16) (hn : n < 16) {x y : Int} (hx : cur[n] = x) (hy : db[n] = y) {V : Int} (hv : F3.val cur = V + s * F3.val (db.take n)) :
    F3.val (cur.set n (x + s * y)) = V + s * F3.val (db.take (n + 1)) := by
  rw [F3.val_set _ _ _ (by omega), F3.val_take _ _ (by omega), hx, hy, hv, Int.mul_add, Int.add_assoc, show x + s * y - x = s * y by omega, Int.mul_left_comm]
set_option maxRecDepth 20000 in
set_option maxHeartbeats 4000000 in
theorem add_any (a b : Nat) (w : World) (ha : a < 57896044618658097711785492504343953926634992332820282019728792003956564819949) (hb : b < 57896044618658097711785492504343953926634992332820282019728792003956564819949) :
    Calls Try.prog 33 #[numV a, numV b] w fun e w' => e = .returned (numV ((a + b) % 57896044618658097711785492504343953926634992332820282019728792003956564819949)) ∧ Kp0 w w' := by
  obtain ⟨da, hda⟩ : ∃ d, d = F3.digs 16 (a : Int) := ⟨_, rfl⟩
  obtain ⟨db, hdb⟩ : ∃ d, d = F3.digs 16 (b : Int) := ⟨_, rfl⟩
  have HVa : Hid (da.length = 16 ∧ F3.val da = a ∧ F3.Dig da) := Lib.hid (by rw [hda]; exact ⟨numLen _, num_val _ ha, F3.digs_dig _ _⟩)
  have HVb : Hid (db.length = 16 ∧ F3.val db = b ∧ F3.Dig db) := Lib.hid (by rw [hdb]; exact ⟨numLen _, num_val _ hb, F3.digs_dig _ _⟩)
  unfold numV
  rw [← hda, ← hdb]
  clear hda hdb ha hb
  go_enter Try.func33, Try.ntmps33
  go_wp2
  go_loopg [5] 16 (fun g i wr => ∃ (n : Nat) (cur : List Int), i = .int .i64 n ∧ n ≤ 16 ∧ g = 16 - n ∧ SumR w cur db wr ∧ Hid (cur.length = 16 ∧ F3.val cur = F3.val da + 1 * F3.val (db.take n) ∧ ∀ d, d ∈ cur → 0 ≤ d ∧ d ≤ 65536 * (n + 1)))
  case atStart => exact ⟨0, da, rfl, by omega, rfl, SumR.start w da db, Lib.hid ⟨HVa.out.1, by simp [F3.val], fun d hd => by have := HVa.out.2.2 d hd; omega⟩⟩
  case round =>
    obtain ⟨n, cur, rfl, hn, rfl, hr, HC⟩ := hrel
    have HR := Lib.hid hr
    clear hr
    by_cases h : n < 16
    · obtain ⟨x, hx⟩ : ∃ x, x = cur[n]'(by rw [HC.out.1]; exact h) := ⟨_, rfl⟩
      obtain ⟨y, hy⟩ : ∃ y, y = db[n]'(by rw [HVb.out.1]; exact h) := ⟨_, rfl⟩
      have hc1 := HR.out.1.cell n (by rw [HC.out.1]; exact h)
      have hc2 := HR.out.2.1.cell n (by rw [HVb.out.1]; exact h)
      have hf1 := HR.out.1.frozen n
      rw [← hx] at hc1
      rw [← hy] at hc2
      have hbx : 0 ≤ x ∧ x ≤ 65536 * (n + 1) := by rw [hx]; exact HC.out.2.2 _ (List.getElem_mem _)
      have hby : 0 ≤ y ∧ y < 65536 := by rw [hy]; exact HVb.out.2.2 _ (List.getElem_mem _)
      have HX := Lib.hid hx
      have HY := Lib.hid hy
      clear hx hy
      go_upto_region 4 with (fail)
      go_region
      all_goals
        go_wp2
        go_roundg (16 - (n + 1))
        case measure => omega
        case rel =>
          refine ⟨n + 1, _, by go_num, by omega, rfl, (HR.out.set n _).drew, Lib.hid ⟨by rw [List.length_set]; exact HC.out.1, ?_, fun d hd => ?_⟩⟩
          · rw [show x + y = x + 1 * y by omega]
            exact sum_step 1 HC.out.1 HVb.out.1 h HX.out.symm HY.out.symm HC.out.2.1
          · rcases List.mem_or_eq_of_mem_set hd with hd | rfl
            · have := HC.out.2.2 d hd
              omega
            · omega
    · obtain rfl : n = 16 := by omega
      go_wp2_with (refine wl_load_arr rfl 47 (.tmp 2) rfl w.heap.size _ cur rfl HR.out.1 _ Try.underlying47 rfl (infoN _ HC.out.1) ?_)
      refine (low_num cur (a + b) _ HC.out.1 (fun d hd => by have := HC.out.2.2 d hd; omega) ?_).mono ?_
      · rw [HC.out.2.1, List.take_of_length_le (by rw [HVb.out.1]; omega), HVa.out.2.1, HVb.out.2.1]
        omega
      rintro e w1 ⟨rfl, hk⟩
      have HR1 := Lib.hid (HR.out.kp0 hk)
      clear hk
      go_wp2_with (
        (refine wl_store_arr rfl 47 (.tmp 4) (.tmp 19) rfl (w.heap.size + 1 + 1) _ (zeros 16) (F3.digs 16 (((a + b) % 57896044618658097711785492504343953926634992332820282019728792003956564819949 : Nat) : Int)) rfl rfl HR1.out.2.2.1 (infoN' _ (numLen _)) (numLen _).symm ?_
         intro w7 hA7 hK7
         have HA7 := Lib.hid hA7
         have HK7 := Lib.hid hK7
         clear hA7 hK7))
      refine ret_arr 4 47 47 (w.heap.size + 1 + 1) (F3.digs 16 (((a + b) % 57896044618658097711785492504343953926634992332820282019728792003956564819949 : Nat) : Int)) _ rfl rfl HA7.out Try.underlying47 rfl (infoN _ (numLen _)) rfl ?_
      exact ⟨rfl, HR1.out.2.2.2.trans HK7.out (fun _ _ h => h) (fun i hi e => by omega)⟩
theorem ones_succ (n : Nat) (h : 1 ≤ n) : F3.val (0 :: List.replicate (n + 1 - 1) 1) = F3.val (0 :: List.replicate (n - 1) 1) + 65536 ^ n := by
  obtain ⟨m, rfl⟩ : ∃ m, n = m + 1 := ⟨n - 1, by omega⟩
  rw [show m + 1 + 1 - 1 = m + 1 by omega, show m + 1 - 1 = m by omega, List.replicate_succ', ← List.cons_append, F3.val_append, List.length_cons, List.length_replicate]
  simp only [F3.val, Int.mul_zero, Int.add_zero, Int.mul_one]
theorem ones15 : (131070 : Int) * F3.val (0 :: List.replicate (15 - 1) 1) + 65536 ^ 15 * 65534 + 131034 = 2 * 57896044618658097711785492504343953926634992332820282019728792003956564819949 := by decide +kernel
set_option maxRecDepth 20000 in
set_option maxHeartbeats 4000000 in
theorem sub_any (a b : Nat) (w : World) (ha : a < 57896044618658097711785492504343953926634992332820282019728792003956564819949) (hb : b < 57896044618658097711785492504343953926634992332820282019728792003956564819949) :
    Calls Try.prog 35 #[numV a, numV b] w fun e w' => e = .returned (numV ((a + 57896044618658097711785492504343953926634992332820282019728792003956564819949 - b) % 57896044618658097711785492504343953926634992332820282019728792003956564819949)) ∧ Kp0 w w' := by
  obtain ⟨da, hda⟩ : ∃ d, d = F3.digs 16 (a : Int) := ⟨_, rfl⟩
  obtain ⟨db, hdb⟩ : ∃ d, d = F3.digs 16 (b : Int) := ⟨_, rfl⟩
  have HVa : Hid (da.length = 16 ∧ F3.val da = a ∧ F3.Dig da) := Lib.hid (by rw [hda]; exact ⟨numLen _, num_val _ ha, F3.digs_dig _ _⟩)
  have HVb : Hid (db.length = 16 ∧ F3.val db = b ∧ F3.Dig db) := Lib.hid (by rw [hdb]; exact ⟨numLen _, num_val _ hb, F3.digs_dig _ _⟩)
  have HLb := Lib.hid hb
  unfold numV
  rw [← hda, ← hdb]
  clear hda hdb ha hb
  go_enter Try.func35, Try.ntmps35
  go_wp2
  go_loopg [5] 16 (fun g i wr => ∃ (n : Nat) (cur : List Int), i = .int .i64 n ∧ n ≤ 16 ∧ g = 16 - n ∧ SumR w cur db wr ∧ Hid (cur.length = 16 ∧ F3.val cur = F3.val da + -1 * F3.val (db.take n) ∧ ∀ d, d ∈ cur → -65536 * n ≤ d ∧ d ≤ 65536))
  case atStart => exact ⟨0, da, rfl, by omega, rfl, SumR.start w da db, Lib.hid ⟨HVa.out.1, by simp [F3.val], fun d hd => by have := HVa.out.2.2 d hd; omega⟩⟩
  case round =>
    obtain ⟨n, cur, rfl, hn, rfl, hr, HC⟩ := hrel
    have HR := Lib.hid hr
    clear hr
    by_cases h : n < 16
    · obtain ⟨x, hx⟩ : ∃ x, x = cur[n]'(by rw [HC.out.1]; exact h) := ⟨_, rfl⟩
      obtain ⟨y, hy⟩ : ∃ y, y = db[n]'(by rw [HVb.out.1]; exact h) := ⟨_, rfl⟩
      have hc1 := HR.out.1.cell n (by rw [HC.out.1]; exact h)
      have hc2 := HR.out.2.1.cell n (by rw [HVb.out.1]; exact h)
      have hf1 := HR.out.1.frozen n
      rw [← hx] at hc1
      rw [← hy] at hc2
      have hbx : -65536 * n ≤ x ∧ x ≤ 65536 := by rw [hx]; exact HC.out.2.2 _ (List.getElem_mem _)
      have hby : 0 ≤ y ∧ y < 65536 := by rw [hy]; exact HVb.out.2.2 _ (List.getElem_mem _)
      have HX := Lib.hid hx
      have HY := Lib.hid hy
      clear hx hy
      go_upto_region 4 with (fail)
      go_region
      all_goals
        go_wp2
        go_roundg (16 - (n + 1))
        case measure => omega
        case rel =>
          refine ⟨n + 1, _, by go_num, by omega, rfl, (HR.out.set n _).drew, Lib.hid ⟨by rw [List.length_set]; exact HC.out.1, ?_, fun d hd => ?_⟩⟩
          · rw [show x - y = x + -1 * y by omega]
            exact sum_step (-1) HC.out.1 HVb.out.1 h HX.out.symm HY.out.symm HC.out.2.1
          · rcases List.mem_or_eq_of_mem_set hd with hd | rfl
            · have := HC.out.2.2 d hd
              omega
            · omega
    · obtain rfl : n = 16 := by omega
      obtain ⟨x0, hx0⟩ : ∃ x, x = cur[0]'(by rw [HC.out.1]; omega) := ⟨_, rfl⟩
      have hc0 := HR.out.1.cell 0 (by rw [HC.out.1]; omega)
      have hf0 := HR.out.1.frozen 0
      rw [← hx0] at hc0
      have hb0 : -1048576 ≤ x0 ∧ x0 ≤ 65536 := by have := HC.out.2.2 _ (List.getElem_mem (l := cur) (n := 0) (by rw [HC.out.1]; omega)); rw [← hx0] at this; omega
      have HX0 := Lib.hid hx0
      clear hx0
      go_wp2
      go_loopg [6] 15 (fun g i wr => ∃ (n : Nat) (cu2 : List Int), i = .int .i64 n ∧ 1 ≤ n ∧ n ≤ 15 ∧ g = 16 - n ∧ SumR w cu2 db wr ∧ Hid (cu2.length = 16 ∧ F3.val cu2 = (a : Int) - b + 131034 + 131070 * F3.val (0 :: List.replicate (n - 1) 1) ∧ ∀ d, d ∈ cu2 → -1048576 ≤ d ∧ d ≤ 65536 + 131070 * n))
      case atStart =>
        refine ⟨1, _, rfl, by omega, by omega, rfl, HR.out.set 0 _, Lib.hid ⟨by rw [List.length_set]; exact HC.out.1, ?_, fun d hd => ?_⟩⟩
        · rw [F3.val_set _ _ _ (by rw [HC.out.1]; omega), ← HX0.out, HC.out.2.1, List.take_of_length_le (by rw [HVb.out.1]; omega), HVa.out.2.1, HVb.out.2.1]
          simp [F3.val]
          omega
        · rcases List.mem_or_eq_of_mem_set hd with hd | rfl
          · have := HC.out.2.2 d hd
            omega
          · omega
      case round =>
        obtain ⟨n, cu2, rfl, hn1, hn, rfl, hr, HC2⟩ := hrel
        have HR2 := Lib.hid hr
        clear hr
        by_cases h2 : n < 15
        · obtain ⟨x, hx⟩ : ∃ x, x = cu2[n]'(by rw [HC2.out.1]; omega) := ⟨_, rfl⟩
          have hc1 := HR2.out.1.cell n (by rw [HC2.out.1]; omega)
          have hf1 := HR2.out.1.frozen n
          rw [← hx] at hc1
          have hbx : -1048576 ≤ x ∧ x ≤ 65536 + 131070 * n := by rw [hx]; exact HC2.out.2.2 _ (List.getElem_mem _)
          have HX := Lib.hid hx
          clear hx
          go_wp2
          go_roundg (16 - (n + 1))
          case measure => omega
          case rel =>
            refine ⟨n + 1, _, by go_num, by omega, by omega, rfl, HR2.out.set n _, Lib.hid ⟨by rw [List.length_set]; exact HC2.out.1, ?_, fun d hd => ?_⟩⟩
            · rw [F3.val_set _ _ _ (by rw [HC2.out.1]; omega), ← HX.out, HC2.out.2.1, ones_succ n hn1]
              rw [show x + 131070 - x = 131070 by omega, Int.mul_add, Int.mul_comm (65536 ^ n)]
              omega
            · rcases List.mem_or_eq_of_mem_set hd with hd | rfl
              · have := HC2.out.2.2 d hd
                omega
              · omega
        · obtain rfl : n = 15 := by omega
          obtain ⟨x15, hx15⟩ : ∃ x, x = cu2[15]'(by rw [HC2.out.1]; omega) := ⟨_, rfl⟩
          have hc15 := HR2.out.1.cell 15 (by rw [HC2.out.1]; omega)
          have hf15 := HR2.out.1.frozen 15
          rw [← hx15] at hc15
          have hb15 : -1048576 ≤ x15 ∧ x15 ≤ 65536 + 131070 * 15 := by rw [hx15]; exact HC2.out.2.2 _ (List.getElem_mem _)
          obtain ⟨cu3, hcu3⟩ : ∃ c, c = cu2.set 15 (x15 + 65534) := ⟨_, rfl⟩
          have HC3 : Hid (cu3.length = 16 ∧ F3.val cu3 = (a : Int) - b + 2 * 57896044618658097711785492504343953926634992332820282019728792003956564819949 ∧ ∀ d, d ∈ cu3 → -1048576 ≤ d ∧ d ≤ 3145728) := Lib.hid (by
            rw [hcu3]
            refine ⟨by rw [List.length_set]; exact HC2.out.1, ?_, fun d hd => ?_⟩
            · rw [F3.val_set _ _ _ (by rw [HC2.out.1]; omega), ← hx15, HC2.out.2.1, show x15 + 65534 - x15 = 65534 by omega]
              have := ones15
              omega
            · rcases List.mem_or_eq_of_mem_set hd with hd | rfl
              · have := HC2.out.2.2 d hd
                omega
              · omega)
          have HR3 := Lib.hid (HR2.out.set 15 (x15 + 65534))
          rw [← hcu3] at HR3
          clear hcu3 hx15
          go_wp2_with (refine wl_load_arr rfl 47 (.tmp 2) rfl w.heap.size _ cu3 rfl HR3.out.1 _ Try.underlying47 rfl (infoN _ HC3.out.1) ?_)
          refine (low_num cu3 (a + 2 * 57896044618658097711785492504343953926634992332820282019728792003956564819949 - b) _ HC3.out.1 (fun d hd => by have := HC3.out.2.2 d hd; omega) ?_).mono ?_
          · rw [HC3.out.2.1]
            have := HLb.out
            omega
          rintro e w1 ⟨rfl, hk⟩
          rw [show (a + 2 * 57896044618658097711785492504343953926634992332820282019728792003956564819949 - b) % 57896044618658097711785492504343953926634992332820282019728792003956564819949 = (a + 57896044618658097711785492504343953926634992332820282019728792003956564819949 - b) % 57896044618658097711785492504343953926634992332820282019728792003956564819949 by have := HLb.out; omega]
          have HR1 := Lib.hid (HR3.out.kp0 hk)
          clear hk
          go_wp2_with (
            (refine wl_store_arr rfl 47 (.tmp 4) (.tmp 37) rfl (w.heap.size + 1 + 1) _ (zeros 16) (F3.digs 16 (((a + 57896044618658097711785492504343953926634992332820282019728792003956564819949 - b) % 57896044618658097711785492504343953926634992332820282019728792003956564819949 : Nat) : Int)) rfl rfl HR1.out.2.2.1 (infoN' _ (numLen _)) (numLen _).symm ?_
             intro w7 hA7 hK7
             have HA7 := Lib.hid hA7
             have HK7 := Lib.hid hK7
             clear hA7 hK7))
          refine ret_arr 4 47 47 (w.heap.size + 1 + 1) (F3.digs 16 (((a + 57896044618658097711785492504343953926634992332820282019728792003956564819949 - b) % 57896044618658097711785492504343953926634992332820282019728792003956564819949 : Nat) : Int)) _ rfl rfl HA7.out Try.underlying47 rfl (infoN _ (numLen _)) rfl ?_
          exact ⟨rfl, HR1.out.2.2.2.trans HK7.out (fun _ _ h => h) (fun i hi e => by omega)⟩
end Go.Proofs.Ytjfphmmhikamaaa
