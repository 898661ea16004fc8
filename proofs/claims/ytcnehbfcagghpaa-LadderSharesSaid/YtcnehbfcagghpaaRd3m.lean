/- The reference's product. The reference reads and writes bytes. -/
import Derived.Test.YtcnehbfcagghpaaLow3
namespace Go.Proofs.Ytcnehbfcagghpaa
open Go Go.RowKit
theorem arr3 (w : World) (o o2 o3 : Obj) (T : TypeId) (ds : List Int) : Arr ((((w.alloc o).alloc o2).alloc o3).alloc (.cells (i64s ds).toArray T)) (w.heap.size + 1 + 1 + 1) T ds := by
  have := heap_alloc_new (((w.alloc o).alloc o2).alloc o3) (.cells (i64s ds).toArray T)
  rw [show (((w.alloc o).alloc o2).alloc o3).heap.size = w.heap.size + 1 + 1 + 1 from by simp] at this
  exact this
/-- What a product's loops keep. -/
def MulR (w : World) (da db cur : List Int) (wr : World) : Prop := SumR w da db wr ∧ Arr wr (w.heap.size + 1 + 1 + 1) 68 cur
theorem MulR.start (w : World) (da db : List Int) : MulR w da db (zeros 32) ((((w.alloc (.cells (i64s da).toArray 46)).alloc (.cells (i64s db).toArray 46)).alloc (.cells (i64s (zeros 16)).toArray 46)).alloc (.cells (i64s (zeros 32)).toArray 68)) :=
  ⟨(SumR.start w da db).kp0 ((Kp.refl _ _).alloc _), arr3 w _ _ _ _ _⟩
theorem SumR.keep {w wr wx : World} {cur db : List Int} (h : SumR w cur db wr) {S : Nat → Prop} (hk : Kp S wr wx) (hs : ∀ b, S b → w.heap.size + 1 + 1 < b) : SumR w cur db wx := by
  obtain ⟨h1, h2, h3, h4⟩ := h
  exact ⟨h1.keep hk (fun h => by have := hs _ h; omega), h2.keep hk (fun h => by have := hs _ h; omega), h3.keep hk (fun h => by have := hs _ h; omega), h4.trans hk (fun _ _ h => h) (fun i hi h => by have := hs _ h; omega)⟩
theorem MulR.set {w wr : World} {da db cur : List Int} (h : MulR w da db cur wr) (i : Nat) (x : Int) : MulR w da db (cur.set i x) (wr.setCell ⟨w.heap.size + 1 + 1 + 1, i, none⟩ (.int .i64 x)) :=
  ⟨h.1.keep ((Kp.refl (fun b => b = w.heap.size + 1 + 1 + 1) wr).setCell (p := ⟨w.heap.size + 1 + 1 + 1, i, none⟩) (fun _ => rfl) _) (fun b e => by omega), h.2.set i x⟩
theorem MulR.drew {w wr : World} {da db cur : List Int} (h : MulR w da db cur wr) : MulR w da db cur wr.drew := ⟨h.1.drew, h.2⟩
theorem MulR.keep {w wr wx : World} {da db cur : List Int} (h : MulR w da db cur wr) {S : Nat → Prop} (hk : Kp S wr wx) (hs : ∀ b, S b → w.heap.size + 1 + 1 + 1 < b) : MulR w da db cur wx :=
  ⟨h.1.keep hk (fun b hb => by have := hs b hb; omega), h.2.keep hk (fun h => by have := hs _ h; omega)⟩
theorem mul_step {cur db : List Int} {i k : Nat} (hc : cur.length = 32) (hb : db.length = 16) (hi : i < 16) (hk : k < 16) {c x y V : Int} (hcc : cur[i + k] = c) (hy : db[k] = y) (hv : F3.val cur = V + 65536 ^ i * x * F3.val (db.take k)) :
    F3.val (cur.set (i + k) (c + x * y)) = V + 65536 ^ i * x * F3.val (db.take (k + 1)) := by
  rw [F3.val_set _ _ _ (by omega), F3.val_take _ _ (by omega), hcc, hy, hv, Int.mul_add, Int.add_assoc, show c + x * y - c = x * y by omega, Int.pow_add]
  congr 2
  simp only [Int.mul_assoc, Int.mul_left_comm]
theorem mul_row {da db : List Int} {i : Nat} (ha : da.length = 16) (hb : db.length = 16) (hi : i < 16) {x : Int} (hx : da[i] = x) :
    F3.val (da.take i) * F3.val db + 65536 ^ i * x * F3.val (db.take 16) = F3.val (da.take (i + 1)) * F3.val db := by
  rw [List.take_of_length_le (by omega : db.length ≤ 16), F3.val_take _ _ (by omega), hx, Int.add_mul]
theorem prod_bound {x y : Int} (hx : 0 ≤ x ∧ x < 65536) (hy : 0 ≤ y ∧ y < 65536) : 0 ≤ x * y ∧ x * y ≤ 4294836225 := by
  refine ⟨Int.mul_nonneg hx.1 hy.1, ?_⟩
  have := Int.mul_le_mul (show x ≤ 65535 by omega) (show y ≤ 65535 by omega) hy.1 (by omega)
  omega
theorem mul_whole {da db cur : List Int} {a b : Nat} (ha : da.length = 16 ∧ F3.val da = a ∧ F3.Dig da) (hb : db.length = 16 ∧ F3.val db = b ∧ F3.Dig db) (hc : cur.length = 32 ∧ F3.val cur = F3.val (da.take 16) * F3.val db ∧ ∀ d, d ∈ cur → 0 ≤ d ∧ d ≤ 4294967296 * (16 * ((16 : Nat) : Int))) :
    cur.length = 32 ∧ F3.val cur = (a : Int) * b ∧ (a : Int) * b < 65536 ^ 32 := by
  have va := F3.val_bound _ ha.2.2
  have vb := F3.val_bound _ hb.2.2
  rw [ha.1, ha.2.1] at va
  rw [hb.1, hb.2.1] at vb
  refine ⟨hc.1, by rw [hc.2.1, List.take_of_length_le (by rw [ha.1]; omega), ha.2.1, hb.2.1], ?_⟩
  have := Int.mul_le_mul (show (a : Int) ≤ 65536 ^ 16 - 1 by omega) (show (b : Int) ≤ 65536 ^ 16 - 1 by omega) (by omega) (by decide +kernel)
  have h2 : ((65536 : Int) ^ 16 - 1) * (65536 ^ 16 - 1) < 65536 ^ 32 := by decide +kernel
  omega
theorem mul_carried {cur0 cur : List Int} {V cc : Int} (h : cur0.length = 32 ∧ F3.val cur0 = V ∧ V < 65536 ^ 32) (hc : cur = (F3.carry (cur0.take 32) 0).1 ++ cur0.drop 32 ∧ cc = (F3.carry (cur0.take 32) 0).2) (h0 : 0 ≤ V) :
    cur.length = 32 ∧ F3.val cur = V ∧ F3.Dig cur := by
  obtain ⟨h1, h2, h3⟩ := h
  have e : cur = (F3.carry cur0 0).1 := by rw [hc.1, List.take_of_length_le (by omega), List.drop_eq_nil_of_le (by omega), List.append_nil]
  have hd := F3.carry_dig cur0 0
  have hv := F3.carry_val cur0 0
  have hb := F3.val_bound _ hd
  rw [F3.carry_len, h1] at hb
  rw [h1, h2] at hv
  refine ⟨by rw [e, F3.carry_len, h1], ?_, by rw [e]; exact hd⟩
  rw [e]
  generalize (F3.carry cur0 0).2 = c at hv
  generalize F3.val (F3.carry cur0 0).1 = X at hv hb
  have hp : (65536 : Int) ^ 32 = 13407807929942597099574024998205846127479365820592393377723561443721764030073546976801874298166903427690031858186486050853753882811946569946433649006084096 := by decide +kernel
  rw [hp] at *
  omega
theorem out_step {cur o : List Int} {n : Nat} (hc : cur.length = 32) (ho : o.length = 16) (hn : n < 16) {x y : Int} (hx : cur[n] = x) (hy : cur[n + 16] = y) (hv : F3.val o = F3.val (cur.take n) + 38 * F3.val ((cur.drop 16).take n)) (hz : ∀ (j : Nat) (hj : j < o.length), n ≤ j → o[j] = 0) :
    F3.val (o.set n (x + 38 * y)) = F3.val (cur.take (n + 1)) + 38 * F3.val ((cur.drop 16).take (n + 1)) := by
  rw [F3.val_set _ _ _ (by omega), hz n (by omega) (Nat.le_refl _), F3.val_take _ _ (by omega), F3.val_take _ _ (by rw [List.length_drop]; omega), List.getElem_drop, hx, show cur[16 + n]'(by omega) = y by rw [← hy]; congr 1; omega, hv]
  rw [Int.sub_zero, Int.mul_add, Int.mul_add, Int.mul_left_comm]
  omega
theorem out_num {cur o : List Int} {a b : Nat} (hc : cur.length = 32 ∧ F3.val cur = (a : Int) * b ∧ F3.Dig cur) (ho : o.length = 16 ∧ F3.val o = F3.val (cur.take 16) + 38 * F3.val ((cur.drop 16).take 16) ∧ (∀ d, d ∈ o → 0 ≤ d ∧ d ≤ 2555904) ∧ ∀ (j : Nat) (hj : j < o.length), 16 ≤ j → o[j] = 0) :
    ∃ v : Nat, F3.val o = v ∧ v % 57896044618658097711785492504343953926634992332820282019728792003956564819949 = a * b % 57896044618658097711785492504343953926634992332820282019728792003956564819949 := by
  have h1 := F3.val_append (cur.take 16) (cur.drop 16)
  rw [List.take_append_drop, List.length_take, hc.1, Nat.min_eq_left (by omega), hc.2.1, F3.p16, ← Int.natCast_mul] at h1
  have h2 := ho.2.1
  rw [List.take_of_length_le (l := cur.drop 16) (by rw [List.length_drop]; omega)] at h2
  have b1 := (F3.val_bound (cur.take 16) (fun d hd => hc.2.2 d (List.mem_of_mem_take hd))).1
  have b2 := (F3.val_bound (cur.drop 16) (fun d hd => hc.2.2 d (List.mem_of_mem_drop hd))).1
  generalize F3.val (cur.take 16) = lo at *
  generalize F3.val (cur.drop 16) = hi at *
  generalize a * b = M at *
  exact ⟨(F3.val o).toNat, by omega, by omega⟩
set_option maxRecDepth 20000 in
set_option maxHeartbeats 4000000 in
theorem mul_any (a b : Nat) (w : World) (ha : a < 57896044618658097711785492504343953926634992332820282019728792003956564819949) (hb : b < 57896044618658097711785492504343953926634992332820282019728792003956564819949) :
    Calls Try.prog 24 #[numV a, numV b] w fun e w' => e = .returned (numV (a * b % 57896044618658097711785492504343953926634992332820282019728792003956564819949)) ∧ Kp0 w w' := by
  obtain ⟨da, hda⟩ : ∃ d, d = F3.digs 16 (a : Int) := ⟨_, rfl⟩
  obtain ⟨db, hdb⟩ : ∃ d, d = F3.digs 16 (b : Int) := ⟨_, rfl⟩
  have HVa : Hid (da.length = 16 ∧ F3.val da = a ∧ F3.Dig da) := Lib.hid (by rw [hda]; exact ⟨numLen _, num_val _ ha, F3.digs_dig _ _⟩)
  have HVb : Hid (db.length = 16 ∧ F3.val db = b ∧ F3.Dig db) := Lib.hid (by rw [hdb]; exact ⟨numLen _, num_val _ hb, F3.digs_dig _ _⟩)
  have HLa := Lib.hid ha
  have HLb := Lib.hid hb
  unfold numV
  rw [← hda, ← hdb]
  clear hda hdb ha hb
  go_enter Try.func24, Try.ntmps24
  go_wp2
  go_loopg [6] 16 (fun g i wr => ∃ (n : Nat) (cur : List Int), i = .int .i64 n ∧ n ≤ 16 ∧ g = 16 - n ∧ MulR w da db cur wr ∧ Hid (cur.length = 32 ∧ F3.val cur = F3.val (da.take n) * F3.val db ∧ ∀ d, d ∈ cur → 0 ≤ d ∧ d ≤ 4294967296 * (16 * n)))
  case atStart => exact ⟨0, zeros 32, rfl, by omega, rfl, MulR.start w da db, Lib.hid ⟨rfl, by rw [zeros, F3.val_zeros, List.take_zero, F3.val, Int.zero_mul], fun d hd => by have := List.eq_of_mem_replicate hd; omega⟩⟩
  case round =>
    obtain ⟨n, cur0, rfl, hn, rfl, hr, HC0⟩ := hrel
    have HR0 := Lib.hid hr
    clear hr
    by_cases h : n < 16
    · obtain ⟨x, hx⟩ : ∃ x, x = da[n]'(by rw [HVa.out.1]; exact h) := ⟨_, rfl⟩
      have hbx : 0 ≤ x ∧ x < 65536 := by rw [hx]; exact HVa.out.2.2 _ (List.getElem_mem _)
      have HX := Lib.hid hx
      clear hx
      go_wp2
      go_loopg [7] 16 (fun g i wr => ∃ (k : Nat) (cur : List Int), i = .int .i64 k ∧ k ≤ 16 ∧ g = 16 - k ∧ MulR w da db cur wr ∧ Hid (cur.length = 32 ∧ F3.val cur = F3.val (da.take n) * F3.val db + 65536 ^ n * x * F3.val (db.take k) ∧ ∀ d, d ∈ cur → 0 ≤ d ∧ d ≤ 4294967296 * (16 * n + k)))
      case atStart => exact ⟨0, cur0, rfl, by omega, rfl, HR0.out, Lib.hid ⟨HC0.out.1, by rw [HC0.out.2.1, List.take_zero, F3.val, Int.mul_zero, Int.add_zero], fun d hd => by have := HC0.out.2.2 d hd; omega⟩⟩
      case round =>
        obtain ⟨k, cur, rfl, hk, rfl, hr, HC⟩ := hrel
        have HR := Lib.hid hr
        clear hr
        by_cases h2 : k < 16
        · obtain ⟨c, hc⟩ : ∃ c, c = cur[n + k]'(by rw [HC.out.1]; omega) := ⟨_, rfl⟩
          obtain ⟨y, hy⟩ : ∃ y, y = db[k]'(by rw [HVb.out.1]; exact h2) := ⟨_, rfl⟩
          have hc1 := HR.out.2.cell (n + k) (by rw [HC.out.1]; omega)
          have hc2 := HR.out.1.1.cell n (by rw [HVa.out.1]; exact h)
          have hc3 := HR.out.1.2.1.cell k (by rw [HVb.out.1]; exact h2)
          have hf1 := HR.out.2.frozen (n + k)
          rw [← hc] at hc1
          rw [← HX.out] at hc2
          rw [← hy] at hc3
          have hbc : 0 ≤ c ∧ c ≤ 4294967296 * (16 * n + k) := by rw [hc]; exact HC.out.2.2 _ (List.getElem_mem _)
          have hby : 0 ≤ y ∧ y < 65536 := by rw [hy]; exact HVb.out.2.2 _ (List.getElem_mem _)
          have hxy := prod_bound hbx hby
          have HCC := Lib.hid hc
          have HY := Lib.hid hy
          clear hc hy
          go_upto_region 8 with (fail)
          go_region
          all_goals
            go_wp2
            go_roundg (16 - (k + 1))
            case measure => omega
            case rel =>
              refine ⟨k + 1, _, by go_num, by omega, rfl, (HR.out.set (n + k) _).drew, Lib.hid ⟨by rw [List.length_set]; exact HC.out.1, mul_step HC.out.1 HVb.out.1 h h2 HCC.out.symm HY.out.symm HC.out.2.1, fun d hd => ?_⟩⟩
              rcases List.mem_or_eq_of_mem_set hd with hd | rfl
              · have := HC.out.2.2 d hd
                omega
              · omega
        · obtain rfl : k = 16 := by omega
          go_wp2
          go_roundg (16 - (n + 1))
          case measure => omega
          case rel => exact ⟨n + 1, cur, by go_num, by omega, rfl, HR.out, Lib.hid ⟨HC.out.1, by rw [HC.out.2.1]; exact mul_row HVa.out.1 HVb.out.1 h HX.out.symm, fun d hd => by have := HC.out.2.2 d hd; omega⟩⟩
    · obtain rfl : n = 16 := by omega
      have HM := Lib.hid (mul_whole HVa.out HVb.out HC0.out)
      clear h
      go_wp2
      go_loopg [8, 9] 32 (fun g c i wx => ∃ (n : Nat) (cc : Int) (cur : List Int), c = .int .i64 cc ∧ i = .int .i64 n ∧ n ≤ 32 ∧ g = 32 - n ∧ MulR w da db cur wx ∧ Hid (cur = (F3.carry (cur0.take n) 0).1 ++ cur0.drop n ∧ cc = (F3.carry (cur0.take n) 0).2))
      case atStart => exact ⟨0, 0, cur0, rfl, rfl, by omega, rfl, HR0.out, Lib.hid ⟨rfl, rfl⟩⟩
      case round =>
        obtain ⟨n, cc, cur, rfl, rfl, hn, rfl, hr, HC⟩ := hrel
        have HR2 := Lib.hid hr
        clear hr
        by_cases h2 : n < 32
        · obtain ⟨y, hy1, hy2, hy3, hc1, hc2⟩ := low_step HC0.out.1 h2 (fun x hx => by have := HC0.out.2.2 x hx; omega) HC.out
          have hcell := HR2.out.2.cell n hy1
          rw [hy2] at hcell
          have hfr := HR2.out.2.frozen n
          go_wp2
          go_roundg (32 - (n + 1))
          case measure => omega
          case rel => exact ⟨n + 1, _, _, rfl, by go_num, by omega, rfl, HR2.out.set n _, Lib.hid (low_next HC0.out.1 h2 HC.out hy2)⟩
        · obtain rfl : n = 32 := by omega
          have HD : Hid (cur.length = 32 ∧ F3.val cur = (a : Int) * b ∧ F3.Dig cur) := Lib.hid (mul_carried HM.out HC.out (Int.mul_nonneg (by omega) (by omega)))
          have HG := Lib.hid HR2.out.2.lt
          clear HC h2 hn
          go_wp2
          obtain ⟨g, hg⟩ : ∃ g, g = wr.heap.size := ⟨_, rfl⟩
          have HO : Hid (Arr (wr.alloc (.cells (i64s (zeros 16)).toArray 45)) g 45 (zeros 16) ∧ MulR w da db cur (wr.alloc (.cells (i64s (zeros 16)).toArray 45)) ∧ w.heap.size + 1 + 1 + 1 < g) := Lib.hid ⟨by rw [hg]; exact arr0 wr _ _, HR2.out.keep ((Kp.refl (fun _ => False) wr).alloc _) (fun b h => h.elim), by rw [hg]; exact HG.out⟩
          change Code.wp _ _ _ _ (wr.alloc (.cells (i64s (zeros 16)).toArray 45))
          rw [← hg]
          clear hg HG
          generalize wr.alloc (.cells (i64s (zeros 16)).toArray 45) = w5 at HO
          go_loopg [12] 16 (fun gg i wx => ∃ (n : Nat) (o : List Int), i = .int .i64 n ∧ n ≤ 16 ∧ gg = 16 - n ∧ (Arr wx g 45 o ∧ MulR w da db cur wx ∧ w.heap.size + 1 + 1 + 1 < g) ∧ Hid (o.length = 16 ∧ F3.val o = F3.val (cur.take n) + 38 * F3.val ((cur.drop 16).take n) ∧ (∀ d, d ∈ o → 0 ≤ d ∧ d ≤ 2555904) ∧ ∀ (j : Nat) (hj : j < o.length), n ≤ j → o[j] = 0))
          case atStart => exact ⟨0, zeros 16, rfl, by omega, rfl, HO.out, Lib.hid ⟨rfl, by simp [zeros, F3.val], fun d hd => by have := List.eq_of_mem_replicate hd; omega, fun j hj _ => List.getElem_replicate _⟩⟩
          case round =>
            obtain ⟨n, o, rfl, hn, rfl, hr, HQ⟩ := hrel
            have HR3 := Lib.hid hr
            clear hr
            by_cases h3 : n < 16
            · obtain ⟨x, hx⟩ : ∃ x, x = cur[n]'(by rw [HD.out.1]; omega) := ⟨_, rfl⟩
              obtain ⟨y, hy⟩ : ∃ y, y = cur[n + 16]'(by rw [HD.out.1]; omega) := ⟨_, rfl⟩
              have hc1 := HR3.out.2.1.2.cell n (by rw [HD.out.1]; omega)
              have hc2 := HR3.out.2.1.2.cell (n + 16) (by rw [HD.out.1]; omega)
              have hc3 := HR3.out.1.cell n (by rw [HQ.out.1]; omega)
              have hf3 := HR3.out.1.frozen n
              rw [← hx] at hc1
              rw [← hy] at hc2
              rw [HQ.out.2.2.2 n (by rw [HQ.out.1]; omega) (Nat.le_refl _)] at hc3
              have hbx : 0 ≤ x ∧ x < 65536 := by rw [hx]; exact HD.out.2.2 _ (List.getElem_mem _)
              have hby : 0 ≤ y ∧ y < 65536 := by rw [hy]; exact HD.out.2.2 _ (List.getElem_mem _)
              have HX := Lib.hid hx
              have HY := Lib.hid hy
              clear hx hy
              go_upto_region 20 with (fail)
              go_region
              all_goals
                go_wp2
                go_roundg (16 - (n + 1))
                case measure => omega
                case rel =>
                  refine ⟨n + 1, _, by go_num, by omega, rfl, ⟨Arr.drew (HR3.out.1.set n (x + 38 * y)), MulR.drew (HR3.out.2.1.keep ((Kp.refl (fun b => b = g) wr).setCell (p := ⟨g, n, none⟩) (fun _ => rfl) _) (fun b e => by have := HR3.out.2.2; omega)), HR3.out.2.2⟩, Lib.hid ⟨by rw [List.length_set]; exact HQ.out.1, out_step HD.out.1 HQ.out.1 h3 HX.out.symm HY.out.symm HQ.out.2.1 HQ.out.2.2.2, fun d hd => ?_, fun j hj hnj => ?_⟩⟩
                  · rcases List.mem_or_eq_of_mem_set hd with hd | rfl
                    · exact HQ.out.2.2.1 d hd
                    · omega
                  · rw [List.getElem_set, if_neg (by omega)]
                    exact HQ.out.2.2.2 j _ (by omega)
            · obtain rfl : n = 16 := by omega
              obtain ⟨v, hv1, hv2⟩ := out_num HD.out HQ.out
              have HV1 := Lib.hid hv1
              have HV2 := Lib.hid hv2
              clear hv1 hv2
              go_wp2_with (refine wl_load_arr rfl 45 (.tmp 11) rfl g _ o rfl HR3.out.1 _ Try.underlying45 rfl (infoA _ HQ.out.1) ?_)
              refine (low_num o v _ HQ.out.1 (fun d hd => by have := HQ.out.2.2.1 d hd; omega) HV1.out).mono ?_
              rintro e w1 ⟨rfl, hk⟩
              rw [HV2.out]
              have HR1 := Lib.hid (HR3.out.2.1.1.kp0 hk)
              clear hk
              go_wp2_with (
                (refine wl_store_arr rfl 46 (.tmp 4) (.tmp 68) rfl (w.heap.size + 1 + 1) _ (zeros 16) (F3.digs 16 ((a * b % 57896044618658097711785492504343953926634992332820282019728792003956564819949 : Nat) : Int)) rfl rfl HR1.out.2.2.1 (infoN' _ (numLen _)) (numLen _).symm ?_
                 intro w7 hA7 hK7
                 have HA7 := Lib.hid hA7
                 have HK7 := Lib.hid hK7
                 clear hA7 hK7))
              refine ret_arr 4 46 46 (w.heap.size + 1 + 1) (F3.digs 16 ((a * b % 57896044618658097711785492504343953926634992332820282019728792003956564819949 : Nat) : Int)) _ rfl rfl HA7.out Try.underlying46 rfl (infoN _ (numLen _)) rfl ?_
              exact ⟨rfl, HR1.out.2.2.2.trans HK7.out (fun _ _ h => h) (fun i hi e => by omega)⟩
end Go.Proofs.Ytcnehbfcagghpaa
namespace Go.Proofs.Ytcnehbfcagghpaa
open Go Go.RowKit
/-- The number that bytes are, the lowest first. -/
def leN : List UInt8 → Nat
  | [] => 0
  | b :: t => b.toNat + 256 * leN t
theorem leN_append (a b : List UInt8) : leN (a ++ b) = leN a + 256 ^ a.length * leN b := by
  induction a with
  | nil => simp [leN]
  | cons x t ih => simp only [List.cons_append, leN, ih, List.length_cons, Nat.pow_succ]; rw [Nat.mul_add, Nat.add_assoc, ← Nat.mul_assoc, Nat.mul_comm (256 ^ t.length)]
theorem leN_take2 (l : List UInt8) (n : Nat) (h : 2 * n + 1 < l.length) : leN (l.take (2 * (n + 1))) = leN (l.take (2 * n)) + 65536 ^ n * ((l[2 * n]).toNat + 256 * (l[2 * n + 1]).toNat) := by
  rw [show 2 * (n + 1) = 2 * n + 1 + 1 by omega, List.take_succ_eq_append_getElem h, List.take_succ_eq_append_getElem (by omega), List.append_assoc, leN_append, List.length_take, Nat.min_eq_left (by omega), Nat.pow_mul]
  simp [leN]
/-- What reading keeps: the digits that are made, the result, the bytes. -/
def ReadR (w : World) (v : Value) (l : List UInt8) (cur : List Int) (wr : World) : Prop := Arr wr (w.heap.size + 1) 45 cur ∧ Arr wr w.heap.size 46 (zeros 16) ∧ Rd wr v (bys l) ∧ Kp0 w wr ∧ (∀ g, v.ownBlock = some g → g < w.heap.size)
theorem ReadR.set {w wr : World} {v : Value} {l : List UInt8} {cur : List Int} (h : ReadR w v l cur wr) (i : Nat) (x : Int) : ReadR w v l (cur.set i x) (wr.setCell ⟨w.heap.size + 1, i, none⟩ (.int .i64 x)) := by
  obtain ⟨h1, h2, h3, h4, h5⟩ := h
  have hk := (Kp.refl (fun b => b = w.heap.size + 1) wr).setCell (p := ⟨w.heap.size + 1, i, none⟩) (fun _ => rfl) (.int .i64 x)
  exact ⟨h1.set i x, h2.keep hk (fun e => by omega), h3.keep hk (fun b hb _ e => by have := h5 b hb; omega), h4.trans hk (fun _ _ h => h) (fun i hi e => by omega), h5⟩
theorem ReadR.drew {w wr : World} {v : Value} {l : List UInt8} {cur : List Int} (h : ReadR w v l cur wr) : ReadR w v l cur wr.drew := ⟨h.1, h.2.1, h.2.2.1, h.2.2.2.1.drew, h.2.2.2.2⟩
theorem read_step {l : List UInt8} {o : List Int} {n : Nat} (hl : l.length = 32) (ho : o.length = 16) (hn : n < 16) {x y : Nat} (hx : (l[2 * n]).toNat = x) (hy : (l[2 * n + 1]).toNat = y) (hv : F3.val o = leN (l.take (2 * n))) (hz : ∀ (j : Nat) (hj : j < o.length), n ≤ j → o[j] = 0) :
    F3.val (o.set n ((x : Int) + 256 * y)) = leN (l.take (2 * (n + 1))) := by
  rw [F3.val_set _ _ _ (by omega), hz n (by omega) (Nat.le_refl _), leN_take2 l n (by omega), hx, hy, hv, Int.sub_zero]
  simp
theorem read_end {l : List UInt8} {o : List Int} (hl : l.length = 32) (ho : o.length = 16) (hb : ∀ d, d ∈ o → 0 ≤ d ∧ d ≤ 65535) (hv : F3.val o = leN (l.take (2 * 16))) {x : Int} (hx : o[15] = x) :
    F3.val (o.set 15 (x % 32768)) = ((leN l % 57896044618658097711785492504343953926634992332820282019728792003956564819968 : Nat) : Int) := by
  rw [F3.val_set _ _ _ (by omega), hx]
  have h1 := F3.val_take o 15 (by omega)
  rw [List.take_of_length_le (by omega : o.length ≤ 15 + 1), hx] at h1
  have h2 := F3.val_bound (o.take 15) (fun d hd => by have := hb d (List.mem_of_mem_take hd); omega)
  rw [List.length_take, Nat.min_eq_left (by omega)] at h2
  rw [List.take_of_length_le (by omega)] at hv
  have h3 := hb x (by rw [← hx]; exact List.getElem_mem _)
  generalize F3.val (o.take 15) = A at *
  generalize F3.val o = V at *
  simp only [show (65536 : Int) ^ 15 = 1766847064778384329583297500742918515827483896875618958121606201292619776 from by decide +kernel] at *
  omega
set_option maxRecDepth 20000 in
set_option maxHeartbeats 4000000 in
theorem read_any (v : Value) (l : List UInt8) (w : World) (hv : Rd w v (bys l)) (hl : l.length = 32) (hvo : ∀ g, v.ownBlock = some g → g < w.heap.size) :
    Calls Try.prog 19 #[v] w fun e w' => e = .returned (numV (leN l % 57896044618658097711785492504343953926634992332820282019728792003956564819968 % 57896044618658097711785492504343953926634992332820282019728792003956564819949)) ∧ Kp0 w w' := by
  obtain ⟨b, o, cap, rfl, hc1, hc2, _⟩ := hv.posB (by omega)
  have HV := Lib.hid hv
  have HL := Lib.hid hl
  have HVO := Lib.hid hvo
  clear hv hvo
  rw [hl] at hc1 ⊢
  clear hl
  go_enter Try.func19, Try.ntmps19
  go_wp2
  go_loopg [4] 16 (fun g i wr => ∃ (n : Nat) (cur : List Int), i = .int .i64 n ∧ n ≤ 16 ∧ g = 16 - n ∧ ReadR w (.slice (some ⟨b, o, none⟩) 32 cap) l cur wr ∧ Hid (cur.length = 16 ∧ F3.val cur = leN (l.take (2 * n)) ∧ (∀ d, d ∈ cur → 0 ≤ d ∧ d ≤ 65535) ∧ ∀ (j : Nat) (hj : j < cur.length), n ≤ j → cur[j] = 0))
  case atStart =>
    refine ⟨0, zeros 16, rfl, by omega, rfl, ⟨arr1 w _ _ (zeros 16), (arr0 w _ (zeros 16)).kp0 ((Kp.refl _ _).alloc _), ?_, ((Kp.refl _ w).alloc _).alloc _, by have := HVO.out; rwa [HL.out] at this⟩, Lib.hid ⟨rfl, by simp [zeros, F3.val, leN], fun d hd => by have := List.eq_of_mem_replicate hd; omega, fun j hj _ => List.getElem_replicate _⟩⟩
    have := HV.out
    rw [HL.out] at this
    exact (this.alloc _).alloc _
  case round =>
    obtain ⟨n, cur, rfl, hn, rfl, hr, HC⟩ := hrel
    have HR := Lib.hid hr
    clear hr
    by_cases h : n < 16
    · obtain ⟨b2, o2, c2, e2, _, _, hcell⟩ := HR.out.2.2.1.posB (by rw [HL.out]; omega)
      rw [HL.out] at e2
      simp only [Value.slice.injEq, Option.some.injEq, Addr.mk.injEq] at e2
      obtain ⟨⟨rfl, rfl, _⟩, _, rfl⟩ := e2
      obtain ⟨x, hx⟩ : ∃ x, x = (l[2 * n]'(by rw [HL.out]; omega)).toNat := ⟨_, rfl⟩
      obtain ⟨y, hy⟩ : ∃ y, y = (l[2 * n + 1]'(by rw [HL.out]; omega)).toNat := ⟨_, rfl⟩
      have hc3 := hcell (2 * n) (by rw [HL.out]; omega)
      have hc4 := hcell (2 * n + 1) (by rw [HL.out]; omega)
      have hc5 := HR.out.1.cell n (by rw [HC.out.1]; exact h)
      have hf5 := HR.out.1.frozen n
      rw [HC.out.2.2.2 n (by rw [HC.out.1]; exact h) (Nat.le_refl _)] at hc5
      rw [← hx] at hc3
      rw [← hy] at hc4
      have hbx : x < 256 := by rw [hx]; exact UInt8.toNat_lt _
      have hby : y < 256 := by rw [hy]; exact UInt8.toNat_lt _
      have HX := Lib.hid hx
      have HY := Lib.hid hy
      clear hx hy hcell
      go_upto_region 5 with (fail)
      go_region
      all_goals
        go_wp2
        go_roundg (16 - (n + 1))
        case measure => omega
        case rel =>
          refine ⟨n + 1, _, by go_num, by omega, rfl, (HR.out.set n _).drew, Lib.hid ⟨by rw [List.length_set]; exact HC.out.1, read_step HL.out HC.out.1 h HX.out.symm HY.out.symm HC.out.2.1 HC.out.2.2.2, fun d hd => ?_, fun j hj hnj => ?_⟩⟩
          · rcases List.mem_or_eq_of_mem_set hd with hd | rfl
            · exact HC.out.2.2.1 d hd
            · omega
          · rw [List.getElem_set, if_neg (by omega)]
            exact HC.out.2.2.2 j _ (by omega)
    · obtain rfl : n = 16 := by omega
      obtain ⟨x, hx⟩ : ∃ x, x = cur[15]'(by rw [HC.out.1]; omega) := ⟨_, rfl⟩
      have hc5 := HR.out.1.cell 15 (by rw [HC.out.1]; omega)
      have hf5 := HR.out.1.frozen 15
      rw [← hx] at hc5
      have hbx : 0 ≤ x ∧ x ≤ 65535 := by rw [hx]; exact HC.out.2.2.1 _ (List.getElem_mem _)
      have HX := Lib.hid hx
      clear hx
      obtain ⟨u, hu⟩ : ∃ u, u = cur.set 15 (x % 32768) := ⟨_, rfl⟩
      have HU := Lib.hid hu
      have HR1 := Lib.hid (HR.out.set 15 (x % 32768))
      rw [← hu] at HR1
      have hul : u.length = 16 := by rw [hu, List.length_set]; exact HC.out.1
      have HUL := Lib.hid hul
      have HUV := Lib.hid (read_end HL.out HC.out.1 HC.out.2.2.1 HC.out.2.1 HX.out.symm)
      rw [← hu] at HUV
      have HUB : Hid (∀ d, d ∈ u → 0 ≤ d ∧ d ≤ 65535) := Lib.hid (fun d hd => by
        rw [hu] at hd
        rcases List.mem_or_eq_of_mem_set hd with hd | rfl
        · exact HC.out.2.2.1 d hd
        · omega)
      clear hu hul
      go_wp2_with (refine wl_load_arr rfl 45 (.tmp 3) rfl (w.heap.size + 1) _ u rfl HR1.out.1 _ Try.underlying45 rfl (infoA _ HUL.out) ?_)
      refine (low_num u _ _ HUL.out (fun d hd => by have := HUB.out d hd; omega) HUV.out).mono ?_
      rintro e w1 ⟨rfl, hk⟩
      have HA1 := Lib.hid (HR1.out.2.1.kp0 hk)
      have HK1 := Lib.hid (HR1.out.2.2.2.1.tr hk)
      clear hk
      obtain ⟨m, hm⟩ : ∃ m, m = leN l % 57896044618658097711785492504343953926634992332820282019728792003956564819968 % 57896044618658097711785492504343953926634992332820282019728792003956564819949 := ⟨_, rfl⟩
      rw [← hm]
      have HM := Lib.hid hm
      clear hm
      go_wp2_with (
        (refine wl_store_arr rfl 46 (.tmp 2) (.tmp 31) rfl w.heap.size _ (zeros 16) (F3.digs 16 (m : Int)) rfl rfl HA1.out (infoN' _ (numLen _)) (numLen _).symm ?_
         intro w7 hA7 hK7
         have HA7 := Lib.hid hA7
         have HK7 := Lib.hid hK7
         clear hA7 hK7))
      refine ret_arr 2 46 46 w.heap.size (F3.digs 16 (m : Int)) _ rfl rfl HA7.out Try.underlying46 rfl (infoN _ (numLen _)) rfl ?_
      exact ⟨by rw [← HM.out]; rfl, HK1.out.trans HK7.out (fun _ _ h => h) (fun i hi e => by omega)⟩
/-- The bytes of a number, the lowest first. -/
def leB : Nat → Nat → List UInt8
  | 0, _ => []
  | k + 1, n => UInt8.ofNat (n % 256) :: leB k (n / 256)
theorem leB_len (k n : Nat) : (leB k n).length = k := by
  induction k generalizing n with
  | zero => rfl
  | succ k ih => simp [leB, ih]
theorem leB_take (k n : Nat) : ∀ j, j ≤ k → (leB k n).take j = leB j n := by
  induction k generalizing n with
  | zero =>
    intro j hj
    rw [show j = 0 by omega]
    rfl
  | succ k ih =>
    intro j hj
    cases j with
    | zero => rfl
    | succ j => simp [leB, ih (n / 256) j (by omega)]
theorem leB_succ (j n : Nat) : leB (j + 1) n = leB j n ++ [UInt8.ofNat (n / 256 ^ j % 256)] := by
  induction j generalizing n with
  | zero => simp [leB]
  | succ j ih => rw [leB, ih (n / 256), leB, List.cons_append, Nat.div_div_eq_div_mul, Nat.pow_succ, Nat.mul_comm 256]
theorem digs_get? (k n j : Nat) (h : j < k) : (F3.digs k (n : Int))[j]? = some ((n / 65536 ^ j % 65536 : Nat) : Int) := by
  induction k generalizing n j with
  | zero => omega
  | succ k ih =>
    cases j with
    | zero => simp [F3.digs]
    | succ j =>
      simp only [F3.digs, List.getElem?_cons_succ]
      rw [show ((n : Int) / 65536) = ((n / 65536 : Nat) : Int) by simp, ih (n / 65536) j (by omega), Nat.div_div_eq_div_mul, Nat.pow_succ, Nat.mul_comm 65536]
theorem digs_get (k n j : Nat) (h : j < k) : (F3.digs k (n : Int))[j]'(by rw [F3.digs_len]; exact h) = ((n / 65536 ^ j % 65536 : Nat) : Int) :=
  Option.some.inj ((List.getElem?_eq_getElem _).symm.trans (digs_get? k n j h))
theorem two_a (q : Nat) : q % 256 = q % 65536 % 256 := by omega
theorem two_b (q : Nat) : q / 256 % 256 = q % 65536 / 256 := by omega
theorem leB_two (n j : Nat) : leB (2 * (j + 1)) n = leB (2 * j) n ++ [UInt8.ofNat (n / 65536 ^ j % 65536 % 256), UInt8.ofNat (n / 65536 ^ j % 65536 / 256)] := by
  rw [show 2 * (j + 1) = 2 * j + 1 + 1 by omega, leB_succ, leB_succ, List.append_assoc, List.singleton_append]
  have e1 : 256 ^ (2 * j) = 65536 ^ j := by rw [Nat.pow_mul]
  have e2 : n / 256 ^ (2 * j + 1) = n / 65536 ^ j / 256 := by rw [Nat.pow_succ, e1, Nat.div_div_eq_div_mul]
  rw [e1, e2, two_b, two_a (n / 65536 ^ j)]
theorem bytes_two {x : Nat} (hx : x < 65536) : [Value.int .u8 (IntKind.u8.wrap ((x : Int).tmod 256)), Value.int .u8 (IntKind.u8.wrap (IntKind.i64.wrap ((x : Int) / 256)))] = bys [UInt8.ofNat (x % 256), UInt8.ofNat (x / 256)] := by
  have e1 : IntKind.u8.wrap ((x : Int).tmod 256) = ((UInt8.ofNat (x % 256)).toNat : Int) := by
    rw [Int.tmod_eq_emod_of_nonneg (by omega), UInt8.toNat_ofNat', IntKind.wrap_u8]
    omega
  have e2 : IntKind.u8.wrap (IntKind.i64.wrap ((x : Int) / 256)) = ((UInt8.ofNat (x / 256)).toNat : Int) := by
    rw [IntKind.wrap_i64, UInt8.toNat_ofNat', IntKind.wrap_u8]
    omega
  simp only [bys, List.map_cons, List.map_nil, e1, e2]
theorem infoB : (Try.prog.info? 5).map (fun i => (i.zero, i.size, i.bytes)) = some (some (.int .u8 0), 1, 1) := by kernel_rfl
set_option maxRecDepth 20000 in
set_option maxHeartbeats 4000000 in
theorem bytes_any (a : Nat) (w : World) :
    Calls Try.prog 23 #[numV a] w fun e w' => ∃ v, e = .returned v ∧ Rd w' v (bys (leB 32 a)) ∧ Kp0 w w' := by
  obtain ⟨da, hda⟩ : ∃ d, d = F3.digs 16 (a : Int) := ⟨_, rfl⟩
  have HD := Lib.hid hda
  unfold numV
  rw [← hda]
  clear hda
  go_enter Try.func23, Try.ntmps23
  go_wp2
  go_loopg [3, 4] 16 (fun g s i wr => ∃ (n : Nat), i = .int .i64 n ∧ n ≤ 16 ∧ g = 16 - n ∧ Arr wr w.heap.size 46 da ∧ Own (w.heap.size + 1) 5 wr s (bys (leB (2 * n) a)) ∧ Kp0 w wr)
  case atStart => exact ⟨0, rfl, by omega, rfl, arr0 w _ da, Own.nil _ _ _, (Kp.refl _ w).alloc _⟩
  case round =>
    obtain ⟨n, rfl, hn, rfl, hA, hO, hK⟩ := hrel
    have HA := Lib.hid hA
    have HO := Lib.hid hO
    have HK := Lib.hid hK
    clear hA hO hK
    by_cases h : n < 16
    · obtain ⟨x, hx⟩ : ∃ x, x = a / 65536 ^ n % 65536 := ⟨_, rfl⟩
      have hc := HA.out.cell n (by rw [HD.out, numLen]; exact h)
      simp only [HD.out] at hc
      rw [digs_get 16 a n h, ← hx] at hc
      have hbx : x < 65536 := by rw [hx]; omega
      have HX := Lib.hid hx
      clear hx
      go_upto_region 5 with (fail)
      go_region_law (first
        | (refine step_append_any rfl (.tmp 9) (.tmp 20) 22 rfl Try.underlying22 infoB rfl rfl rfl (by first | exact HO.out.keep0 ((Kp.refl _ _).drew.alloc _) | exact HO.out.keep0 (((Kp.refl _ _).alloc _).drew)) (Rd.lit _ _ _ _ 2 rfl (by omega)) (by simp [Value.oneCell']) (by rw [bys_len, leB_len]; simp; unfold maxLen; omega) (by rw [bys_len, leB_len]; simp; omega) (by have := HA.out.lt; simp; omega) ?_; intro vx wx hox hgx))
      all_goals
        go_simp
        go_wp2
        go_roundg (16 - (n + 1))
        case measure => omega
        case rel =>
          refine ⟨n + 1, by go_num, by omega, rfl, ?_, ?_, ?_⟩
          · exact HA.out.keep (((Kp.refl (fun b => w.heap.size + 1 ≤ b) wr).drew.alloc _).grown hgx (fun k hk _ => (HO.out.lt k hk).1)) (by omega)
          · rw [bytes_two hbx, HX.out] at hox
            rw [leB_two, bys_app]
            exact hox
          · exact HK.out.trans (((Kp.refl (fun b => w.heap.size + 1 ≤ b) wr).drew.alloc _).grown hgx (fun k hk _ => (HO.out.lt k hk).1)) (fun _ _ h => h) (fun i hi e => by omega)
    · obtain rfl : n = 16 := by omega
      go_wp2
      go_ret
      exact ⟨_, rfl, HO.out.rd, HK.out⟩
end Go.Proofs.Ytcnehbfcagghpaa
