/- The reference reads and writes bytes. -/
import Derived.Test.YtjfphmmhikamaaaMul3
namespace Go.Proofs.Ytjfphmmhikamaaa
open Go Go.RowKit
/-- The number that bytes are, the lowest first. -/
def leN : List UInt8 → Nat
  | [] => 0
  | b :: t => b.toNat + 256 * leN t
theorem leN_append (a b : List UInt8) : leN (a ++ b) = leN a + 256 ^ a.length * leN b := by
  induction a with
  | nil => simp [leN]
  | cons x t ih => simp only [List.cons_append, leN, ih, List.length_cons, Nat.pow_succ]; rw [Nat.mul_add, Nat.add_assoc, ← Nat.mul_assoc, Nat.mul_comm (256 ^ t.length)]
theorem leN_take2 (l : List UInt8) (n : Nat) (h : 2 * n + 1 < l.length) : leN (l.take (2 * (n + 1))) = leN (l.take (2 * n)) + 65536 ^ n * ((l[2 * n]).toNat + 256 * (l[2 * n + 1]).toNat) := by
  rw [show 2 * (n + 1) = 2 * n + 1 + 1 by omega, List.take_succ_eq_append_getElem h, List.take_succ_eq_append_getElem (by omega), List.append_assoc, leN_append, List.length_take, Nat.min_eq_left (by omega), Nat.pow_mul]
  simp [leN]
/-- What reading keeps: the digits that are made, the result, the bytes. -/
def ReadR (w : World) (v : Value) (l : List UInt8) (cur : List Int) (wr : World) : Prop := Arr wr (w.heap.size + 1) 46 cur ∧ Arr wr w.heap.size 47 (zeros 16) ∧ Rd wr v (bys l) ∧ Kp0 w wr ∧ (∀ g, v.ownBlock = some g → g < w.heap.size)
theorem ReadR.set {w wr : World} {v : Value} {l : List UInt8} {cur : List Int} (h : ReadR w v l cur wr) (i : Nat) (x : Int) : ReadR w v l (cur.set i x) (wr.setCell ⟨w.heap.size + 1, i, none⟩ (.int .i64 x)) := by
  obtain ⟨h1, h2, h3, h4, h5⟩ := h
  have hk := (Kp.refl (fun b => b = w.heap.size + 1) wr).setCell (p := ⟨w.heap.size + 1, i, none⟩) (fun _ => rfl) (.int .i64 x)
  exact ⟨h1.set i x, h2.keep hk (fun e => by omega), h3.keep hk (fun b hb _ e => by have := h5 b hb; omega), h4.trans hk (fun _ _ h => h) (fun i hi e => by omega), h5⟩
theorem ReadR.drew {w wr : World} {v : Value} {l : List UInt8} {cur : List Int} (h : ReadR w v l cur wr) : ReadR w v l cur wr.drew := ⟨h.1, h.2.1, h.2.2.1, h.2.2.2.1.drew, h.2.2.2.2⟩
theorem read_step {l : List UInt8} {o : List Int} {n : Nat} (hl : l.length = 32) (ho : o.length = 16) (hn : n < 16) {x y : Nat} (hx : (l[2 * n]).toNat = x) (hy : (l[2 * n + 1]).toNat = y) (hv : F3.val o = leN (l.take (2 * n))) (hz : ∀ (j : Nat) (hj : j < o.length), n ≤ j → o[j] = 0) :
    F3.val (o.set n ((x : Int) + 256 * y)) = leN (l.take (2 * (n + 1))) := by
  rw [F3.val_set _ _ _ (by omega), hz n (by omega) (Nat.le_refl _), leN_take2 l n (by omega), hx, hy, hv, Int.sub_zero]
  simp
theorem read_end {l : List UInt8} {o : List Int} (hl : l.length = 32) (ho : o.length = 16) (hb : ∀ d, d ∈ o → 0 ≤ d ∧ d ≤ 65535) (hv : F3.val o = leN (l.take (2 * 16))) {x : Int} (hx : o[15] = x) :
    F3.val (o.set 15 (x % 32768)) = ((leN l % 57896044618658097711785492504343953926634992332820282019728792003956564819968 : Nat) : Int) := by
  rw [F3.val_set _ _ _ (by omega), hx]
  have h1 := F3.val_take o 15 (by omega)
  rw [List.take_of_length_le (by omega : o.length ≤ 15 + 1), hx] at h1
  have h2 := F3.val_bound (o.take 15) (fun d hd => by have := hb d (List.mem_of_mem_take hd); omega)
  rw [List.length_take, Nat.min_eq_left (by omega)] at h2
  rw [List.take_of_length_le (by omega)] at hv
  have h3 := hb x (by rw [← hx]; exact List.getElem_mem _)
  generalize F3.val (o.take 15) = A at *
  generalize F3.val o = V at *
  simp only [show (65536 : Int) ^ 15 = 1766847064778384329583297500742918515827483896875618958121606201292619776 from by decide +kernel] at *
  omega
set_option maxRecDepth 20000 in
set_option maxHeartbeats 4000000 in
theorem read_any (v : Value) (l : List UInt8) (w : World) (hv : Rd w v (bys l)) (hl : l.length = 32) (hvo : ∀ g, v.ownBlock = some g → g < w.heap.size) :
    Calls Try.prog 38 #[v] w fun e w' => e = .returned (numV (leN l % 57896044618658097711785492504343953926634992332820282019728792003956564819968 % 57896044618658097711785492504343953926634992332820282019728792003956564819949)) ∧ Kp0 w w' := by
  obtain ⟨b, o, cap, rfl, hc1, hc2, _⟩ := hv.posB (by omega)
  have HV := Lib.hid hv
  have HL := Lib.hid hl
  have HVO := Lib.hid hvo
  clear hv hvo
  rw [hl] at hc1 ⊢
  clear hl
  go_enter Try.func38, Try.ntmps38
  go_wp2
  go_loopg [4] 16 (fun g i wr => ∃ (n : Nat) (cur : List Int), i = .int .i64 n ∧ n ≤ 16 ∧ g = 16 - n ∧ ReadR w (.slice (some ⟨b, o, none⟩) 32 cap) l cur wr ∧ Hid (cur.length = 16 ∧ F3.val cur = leN (l.take (2 * n)) ∧ (∀ d, d ∈ cur → 0 ≤ d ∧ d ≤ 65535) ∧ ∀ (j : Nat) (hj : j < cur.length), n ≤ j → cur[j] = 0))
  case atStart =>
    refine ⟨0, zeros 16, rfl, by omega, rfl, ⟨arr1 w _ _ (zeros 16), (arr0 w _ (zeros 16)).kp0 ((Kp.refl _ _).alloc _), ?_, ((Kp.refl _ w).alloc _).alloc _, by have := HVO.out; rwa [HL.out] at this⟩, Lib.hid ⟨rfl, by simp [zeros, F3.val, leN], fun d hd => by have := List.eq_of_mem_replicate hd; omega, fun j hj _ => List.getElem_replicate _⟩⟩
    have := HV.out
    rw [HL.out] at this
    exact (this.alloc _).alloc _
  case round =>
    obtain ⟨n, cur, rfl, hn, rfl, hr, HC⟩ := hrel
    have HR := Lib.hid hr
    clear hr
    by_cases h : n < 16
    · obtain ⟨b2, o2, c2, e2, _, _, hcell⟩ := HR.out.2.2.1.posB (by rw [HL.out]; omega)
      rw [HL.out] at e2
      simp only [Value.slice.injEq, Option.some.injEq, Addr.mk.injEq] at e2
      obtain ⟨⟨rfl, rfl, _⟩, _, rfl⟩ := e2
      obtain ⟨x, hx⟩ : ∃ x, x = (l[2 * n]'(by rw [HL.out]; omega)).toNat := ⟨_, rfl⟩
      obtain ⟨y, hy⟩ : ∃ y, y = (l[2 * n + 1]'(by rw [HL.out]; omega)).toNat := ⟨_, rfl⟩
      have hc3 := hcell (2 * n) (by rw [HL.out]; omega)
      have hc4 := hcell (2 * n + 1) (by rw [HL.out]; omega)
      have hc5 := HR.out.1.cell n (by rw [HC.out.1]; exact h)
      have hf5 := HR.out.1.frozen n
      rw [HC.out.2.2.2 n (by rw [HC.out.1]; exact h) (Nat.le_refl _)] at hc5
      rw [← hx] at hc3
      rw [← hy] at hc4
      have hbx : x < 256 := by rw [hx]; exact UInt8.toNat_lt _
      have hby : y < 256 := by rw [hy]; exact UInt8.toNat_lt _
      have HX := Lib.hid hx
      have HY := Lib.hid hy
      clear hx hy hcell
      go_upto_region 5 with (fail)
      go_region
      all_goals
        go_wp2
        go_roundg (16 - (n + 1))
        case measure => omega
        case rel =>
          refine ⟨n + 1, _, by go_num, by omega, rfl, (HR.out.set n _).drew, Lib.hid ⟨by rw [List.length_set]; exact HC.out.1, read_step HL.out HC.out.1 h HX.out.symm HY.out.symm HC.out.2.1 HC.out.2.2.2, fun d hd => ?_, fun j hj hnj => ?_⟩⟩
          · rcases List.mem_or_eq_of_mem_set hd with hd | rfl
            · exact HC.out.2.2.1 d hd
            · omega
          · rw [List.getElem_set, if_neg (by omega)]
            exact HC.out.2.2.2 j _ (by omega)
    · obtain rfl : n = 16 := by omega
      obtain ⟨x, hx⟩ : ∃ x, x = cur[15]'(by rw [HC.out.1]; omega) := ⟨_, rfl⟩
      have hc5 := HR.out.1.cell 15 (by rw [HC.out.1]; omega)
      have hf5 := HR.out.1.frozen 15
      rw [← hx] at hc5
      have hbx : 0 ≤ x ∧ x ≤ 65535 := by rw [hx]; exact HC.out.2.2.1 _ (List.getElem_mem _)
      have HX := Lib.hid hx
      clear hx
      obtain ⟨u, hu⟩ : ∃ u, u = cur.set 15 (x % 32768) := ⟨_, rfl⟩
      have HU := Lib.hid hu
      have HR1 := Lib.hid (HR.out.set 15 (x % 32768))
      rw [← hu] at HR1
      have hul : u.length = 16 := by rw [hu, List.length_set]; exact HC.out.1
      have HUL := Lib.hid hul
      have HUV := Lib.hid (read_end HL.out HC.out.1 HC.out.2.2.1 HC.out.2.1 HX.out.symm)
      rw [← hu] at HUV
      have HUB : Hid (∀ d, d ∈ u → 0 ≤ d ∧ d ≤ 65535) := Lib.hid (fun d hd => by
        rw [hu] at hd
        rcases List.mem_or_eq_of_mem_set hd with hd | rfl
        · exact HC.out.2.2.1 d hd
        · omega)
      clear hu hul
      go_wp2_with (refine wl_load_arr rfl 46 (.tmp 3) rfl (w.heap.size + 1) _ u rfl HR1.out.1 _ Try.underlying46 rfl (infoA _ HUL.out) ?_)
      refine (low_num u _ _ HUL.out (fun d hd => by have := HUB.out d hd; omega) HUV.out).mono ?_
      rintro e w1 ⟨rfl, hk⟩
      have HA1 := Lib.hid (HR1.out.2.1.kp0 hk)
      have HK1 := Lib.hid (HR1.out.2.2.2.1.tr hk)
      clear hk
      obtain ⟨m, hm⟩ : ∃ m, m = leN l % 57896044618658097711785492504343953926634992332820282019728792003956564819968 % 57896044618658097711785492504343953926634992332820282019728792003956564819949 := ⟨_, rfl⟩
      rw [← hm]
      have HM := Lib.hid hm
      clear hm
      go_wp2_with (
        (refine wl_store_arr rfl 47 (.tmp 2) (.tmp 31) rfl w.heap.size _ (zeros 16) (F3.digs 16 (m : Int)) rfl rfl HA1.out (infoN' _ (numLen _)) (numLen _).symm ?_
         intro w7 hA7 hK7
         have HA7 := Lib.hid hA7
         have HK7 := Lib.hid hK7
         clear hA7 hK7))
      refine ret_arr 2 47 47 w.heap.size (F3.digs 16 (m : Int)) _ rfl rfl HA7.out Try.underlying47 rfl (infoN _ (numLen _)) rfl ?_
      exact ⟨by rw [← HM.out]; rfl, HK1.out.trans HK7.out (fun _ _ h => h) (fun i hi e => by omega)⟩
/-- The bytes of a number, the lowest first. -/
def leB : Nat → Nat → List UInt8
  | 0, _ => []
  | k + 1, n => UInt8.ofNat (n % 256) :: leB k (n / 256)
theorem leB_len (k n : Nat) : (leB k n).length = k := by
  induction k generalizing n with
  | zero => rfl
  | succ k ih => simp [leB, ih]
theorem leB_take (k n : Nat) : ∀ j, j ≤ k → (leB k n).take j = leB j n := by
  induction k generalizing n with
  | zero =>
    intro j hj
    rw [show j = 0 by omega]
    rfl
  | succ k ih =>
    intro j hj
    cases j with
    | zero => rfl
    | succ j => simp [leB, ih (n / 256) j (by omega)]
theorem leB_succ (j n : Nat) : leB (j + 1) n = leB j n ++ [UInt8.ofNat (n / 256 ^ j % 256)] := by
  induction j generalizing n with
  | zero => simp [leB]
  | succ j ih => rw [leB, ih (n / 256), leB, List.cons_append, Nat.div_div_eq_div_mul, Nat.pow_succ, Nat.mul_comm 256]
theorem digs_get? (k n j : Nat) (h : j < k) : (F3.digs k (n : Int))[j]? = some ((n / 65536 ^ j % 65536 : Nat) : Int) := by
  induction k generalizing n j with
  | zero => omega
  | succ k ih =>
    cases j with
    | zero => simp [F3.digs]
    | succ j =>
      simp only [F3.digs, List.getElem?_cons_succ]
      rw [show ((n : Int) / 65536) = ((n / 65536 : Nat) : Int) by simp, ih (n / 65536) j (by omega), Nat.div_div_eq_div_mul, Nat.pow_succ, Nat.mul_comm 65536]
theorem digs_get (k n j : Nat) (h : j < k) : (F3.digs k (n : Int))[j]'(by rw [F3.digs_len]; exact h) = ((n / 65536 ^ j % 65536 : Nat) : Int) :=
  Option.some.inj ((List.getElem?_eq_getElem _).symm.trans (digs_get? k n j h))
theorem two_a (q : Nat) : q % 256 = q % 65536 % 256 := by omega
theorem two_b (q : Nat) : q / 256 % 256 = q % 65536 / 256 := by omega
theorem leB_two (n j : Nat) : leB (2 * (j + 1)) n = leB (2 * j) n ++ [UInt8.ofNat (n / 65536 ^ j % 65536 % 256), UInt8.ofNat (n / 65536 ^ j % 65536 / 256)] := by
  rw [show 2 * (j + 1) = 2 * j + 1 + 1 by omega, leB_succ, leB_succ, List.append_assoc, List.singleton_append]
  have e1 : 256 ^ (2 * j) = 65536 ^ j := by rw [Nat.pow_mul]
  have e2 : n / 256 ^ (2 * j + 1) = n / 65536 ^ j / 256 := by rw [Nat.pow_succ, e1, Nat.div_div_eq_div_mul]
  rw [e1, e2, two_b, two_a (n / 65536 ^ j)]
theorem bytes_two {x : Nat} (hx : x < 65536) : [Value.int .u8 (IntKind.u8.wrap ((x : Int).tmod 256)), Value.int .u8 (IntKind.u8.wrap (IntKind.i64.wrap ((x : Int) / 256)))] = bys [UInt8.ofNat (x % 256), UInt8.ofNat (x / 256)] := by
  have e1 : IntKind.u8.wrap ((x : Int).tmod 256) = ((UInt8.ofNat (x % 256)).toNat : Int) := by
    rw [Int.tmod_eq_emod_of_nonneg (by omega), UInt8.toNat_ofNat', IntKind.wrap_u8]
    omega
  have e2 : IntKind.u8.wrap (IntKind.i64.wrap ((x : Int) / 256)) = ((UInt8.ofNat (x / 256)).toNat : Int) := by
    rw [IntKind.wrap_i64, UInt8.toNat_ofNat', IntKind.wrap_u8]
    omega
  simp only [bys, List.map_cons, List.map_nil, e1, e2]
theorem infoB : (Try.prog.info? 5).map (fun i => (i.zero, i.size, i.bytes)) = some (some (.int .u8 0), 1, 1) := by kernel_rfl
set_option maxRecDepth 20000 in
set_option maxHeartbeats 4000000 in
theorem bytes_any (a : Nat) (w : World) :
    Calls Try.prog 54 #[numV a] w fun e w' => ∃ v, e = .returned v ∧ Rd w' v (bys (leB 32 a)) ∧ Kp0 w w' := by
  obtain ⟨da, hda⟩ : ∃ d, d = F3.digs 16 (a : Int) := ⟨_, rfl⟩
  have HD := Lib.hid hda
  unfold numV
  rw [← hda]
  clear hda
  go_enter Try.func54, Try.ntmps54
  go_wp2
  go_loopg [3, 4] 16 (fun g s i wr => ∃ (n : Nat), i = .int .i64 n ∧ n ≤ 16 ∧ g = 16 - n ∧ Arr wr w.heap.size 47 da ∧ Own (w.heap.size + 1) 5 wr s (bys (leB (2 * n) a)) ∧ Kp0 w wr)
  case atStart => exact ⟨0, rfl, by omega, rfl, arr0 w _ da, Own.nil _ _ _, (Kp.refl _ w).alloc _⟩
  case round =>
    obtain ⟨n, rfl, hn, rfl, hA, hO, hK⟩ := hrel
    have HA := Lib.hid hA
    have HO := Lib.hid hO
    have HK := Lib.hid hK
    clear hA hO hK
    by_cases h : n < 16
    · obtain ⟨x, hx⟩ : ∃ x, x = a / 65536 ^ n % 65536 := ⟨_, rfl⟩
      have hc := HA.out.cell n (by rw [HD.out, numLen]; exact h)
      simp only [HD.out] at hc
      rw [digs_get 16 a n h, ← hx] at hc
      have hbx : x < 65536 := by rw [hx]; omega
      have HX := Lib.hid hx
      clear hx
      go_upto_region 5 with (fail)
      go_region_law (first
        | (refine step_append_any rfl (.tmp 9) (.tmp 20) 22 rfl Try.underlying22 infoB rfl rfl rfl (by first | exact HO.out.keep0 ((Kp.refl _ _).drew.alloc _) | exact HO.out.keep0 (((Kp.refl _ _).alloc _).drew)) (Rd.lit _ _ _ _ 2 rfl (by omega)) (by simp [Value.oneCell']) (by rw [bys_len, leB_len]; simp; unfold maxLen; omega) (by rw [bys_len, leB_len]; simp; omega) (by have := HA.out.lt; simp; omega) ?_; intro vx wx hox hgx))
      all_goals
        go_simp
        go_wp2
        go_roundg (16 - (n + 1))
        case measure => omega
        case rel =>
          refine ⟨n + 1, by go_num, by omega, rfl, ?_, ?_, ?_⟩
          · exact HA.out.keep (((Kp.refl (fun b => w.heap.size + 1 ≤ b) wr).drew.alloc _).grown hgx (fun k hk _ => (HO.out.lt k hk).1)) (by omega)
          · rw [bytes_two hbx, HX.out] at hox
            rw [leB_two, bys_app]
            exact hox
          · exact HK.out.trans (((Kp.refl (fun b => w.heap.size + 1 ≤ b) wr).drew.alloc _).grown hgx (fun k hk _ => (HO.out.lt k hk).1)) (fun _ _ h => h) (fun i hi e => by omega)
    · obtain rfl : n = 16 := by omega
      go_wp2
      go_ret
      exact ⟨_, rfl, HO.out.rd, HK.out⟩
end Go.Proofs.Ytjfphmmhikamaaa
