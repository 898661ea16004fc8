/- The law FrameLong: its walk. -/
import Derived.Test.YtdjknljhpbebiaaDoorRefE
import Derived.Test.YtdjknljhpbebiaaDoorFSd
import Derived.Test.YtdjknljhpbebiaaDoorFNone
namespace Go.Proofs.YtdjknljhpbebiaaDoor
open Go Go.RowKit
/-- The k first of n cells hold x. -/
def fillX (n k : Nat) : List Value := List.replicate k (.int .u8 120) ++ List.replicate (n - k) (.int .u8 0)
theorem fillX_zero (n : Nat) : fillX n 0 = List.replicate n (.int .u8 0) := by simp [fillX]
theorem fillX_all (n : Nat) : fillX n n = bys (xs n) := by simp [fillX, bys]
theorem fillX_len {n k : Nat} (h : k ≤ n) : (fillX n k).length = n := by simp [fillX]; omega
theorem fillX_set {n k : Nat} (h : k < n) : (fillX n k).set k (.int .u8 120) = fillX n (k + 1) := by
  unfold fillX
  rw [List.set_append_right _ _ (by simp), List.length_replicate, Nat.sub_self, show n - k = (n - (k + 1)) + 1 by omega, List.replicate_succ, List.set_cons_zero, List.replicate_succ', List.append_assoc]
  rfl
theorem fillX_get {n k : Nat} (h : k < n) : (fillX n k)[k]? = some (.int .u8 0) := by
  unfold fillX
  rw [List.getElem?_append_right (by simp), List.length_replicate, Nat.sub_self, show n - k = (n - (k + 1)) + 1 by omega, List.replicate_succ]
  rfl
theorem made_blk (w : World) (n : Nat) (T : TypeId) : Blk (w.alloc (.cells (fillX n 0).toArray T)) w.heap.size T (fillX n 0) := blk0 w T _
theorem mk_fill (n : Nat) (w : World) (hn : n ≤ 100000) : (Instr.makeSlice 24 (.int .i64 (n : Int)) (.int .i64 (n : Int))).run Tryd.prog w = .ok (.slice (some ⟨w.heap.size, 0, none⟩) n n) (w.alloc (.cells (fillX n 0).toArray 5)) := by
  obtain ⟨i, hi, h0, h1, h2⟩ := info_parts (infoB w)
  have hr := run_make (P := Tryd.prog) w 24 5 i (.int .u8 0) Tryd.underlying24 hi h0 .i64 .i64 (n : Int) (n : Int) (by omega) (Int.le_refl _) (by rw [h2]; omega) (by omega)
  have e3 : madeCells #[Value.int .u8 0] n = (fillX n 0).toArray := by
    apply Array.ext'
    rw [toList_madeCells_one, fillX_zero]
  have e : (n : Int).toNat = n := by omega
  rw [e] at hr
  rw [← e3]
  simpa [h1, Value.cells] using hr
theorem blk_rd {w : World} {g : Nat} {T : TypeId} {n : Nat} (h : Blk w g T (bys (xs n))) (hn : n ≤ 100000) : Rd w (.slice (some ⟨g, 0, none⟩) n n) (bys (xs n)) := by
  have e : (bys (xs n)).length = n := by rw [bys_len, List.length_replicate]
  refine ⟨some ⟨g, 0, none⟩, n, by rw [e], by rw [e]; exact Nat.le_refl _, by unfold maxLen; omega, by simp, fun ad e' i u hu => ?_⟩
  cases e'
  rw [Addr.add_lit]
  exact h.cellV _ (by rw [Nat.zero_add]; exact hu)
/-- n mod d, at least 0. -/
theorem mod_pos (n : Int) (d : Nat) (hd : 0 < d) : ∃ (q : Int) (m : Nat), n.tmod (d : Int) = q ∧ -(d : Int) < q ∧ q < d ∧ (q + (d : Int)).tmod (d : Int) = (m : Int) ∧ (q + (d : Int)) % (d : Int) = (m : Int) ∧ m < d := by
  have hk : (0 : Int) < (d : Int) := by omega
  have h1 : n.tmod (d : Int) < (d : Int) := Int.tmod_lt_of_pos n hk
  have h2 : -(d : Int) < n.tmod (d : Int) := by
    have := Int.tmod_lt_of_pos (-n) hk
    rw [Int.neg_tmod] at this
    omega
  have h3 : 0 ≤ n.tmod (d : Int) + (d : Int) := by omega
  have h4 := Int.emod_nonneg (n.tmod (d : Int) + (d : Int)) (by omega : (d : Int) ≠ 0)
  have h5 := Int.emod_lt_of_pos (n.tmod (d : Int) + (d : Int)) hk
  refine ⟨_, ((n.tmod (d : Int) + (d : Int)) % (d : Int)).toNat, rfl, by omega, by omega, ?_, by omega, by omega⟩
  rw [Int.tmod_eq_emod_of_nonneg h3]
  omega
abbrev ZG (g : Nat) : Nat → Prop := fun i => i = g
theorem kp0_of_fz {w w1 w2 : World} {Z : Nat → Prop} (h : Kp0 w w1) (hk : Kp (FB w.heap.size Z) w1 w2) : Kp0 w w2 := h.trans hk (fun _ _ h => h) (fun i hi h2 => by have := h2.1; omega)
theorem blk_fz {B g : Nat} {w1 w2 : World} {T : TypeId} {cs : List Value} (h : Blk w1 g T cs) (hk : Kp (FB B (ZG g)) w1 w2) : Blk w2 g T cs := h.keep hk (fun h2 => h2.2 rfl)
/-- What the two framings come to. -/
theorem long_f0 {S : Nat} : nextS ⟨xs S, [], false, false⟩ = if 16390 ≤ S then ([], 2, ⟨[], [], false, true⟩) else ([], 4, ⟨xs S, [], false, false⟩) := by
  by_cases h : 16390 ≤ S
  · rw [if_pos h]
    exact next_of_err rfl (by show (cutS (xs S) []).2.1 = 2; rw [cut_x, if_pos h])
  · rw [if_neg h]
    exact next_of_ok rfl (by show cutS (xs S) [] = _; rw [cut_x, if_neg h]) ⟨by decide, by decide⟩
theorem long_f1 {S : Nat} (h : S ≤ 16384) : nextS ⟨xs S ++ endM, [], false, false⟩ = (xs S, 0, ⟨[], [], false, false⟩) :=
  next_of_ok rfl (by show cutS (xs S ++ endM) [] = _; exact cut_e h []) ⟨by decide, by decide⟩
theorem long_f2 {S : Nat} (h1 : 16384 < S) (h2 : S < 16390) : nextS ⟨xs S ++ endM, [], false, false⟩ = ([], 2, ⟨[], [], false, true⟩) :=
  next_of_err rfl (by show (cutS (xs S ++ endM) []).2.1 = 2; rw [cut_l h1 h2])
theorem xs_ne {S : Nat} (h : 0 < S) : xs S ≠ [] := by
  intro h2
  have := congrArg List.length h2
  rw [List.length_replicate] at this
  simp at this
  omega
theorem long_c {S p : Nat} (hp : 1 ≤ p) (hp4 : p ≤ 4) (hs : 16374 ≤ S) (hs2 : S ≤ 16393) :
    nextS ⟨piecesS S p p ++ [10, 35, 35, 10], [], true, false⟩ = if S ≤ 16384 then (xs S, 0, ⟨[], [], true, false⟩) else ([], 2, ⟨[], [], false, true⟩) := by
  have hd : S * p / p = S := Nat.mul_div_cancel S (by omega)
  have hh := gather_pieces hp hp4 hs (by omega) p (Nat.le_refl _) [10, 35, 35, 10]
  rw [hd] at hh
  by_cases h : S ≤ 16384
  · rw [if_pos h]
    rcases hh with ⟨_, h2⟩ | ⟨h1, _⟩
    · have h3 := gather_end [] (M := xs S) (xs_ne (by omega))
      rw [List.append_nil] at h3
      exact next_of_ok rfl (by show gatherS _ [] = _; rw [h2, h3]) ⟨by decide, by decide⟩
    · omega
  · rw [if_neg h]
    rcases hh with ⟨h1, _⟩ | ⟨_, h2⟩
    · omega
    · exact next_of_err rfl h2
theorem xs_cut {S lo hi : Nat} (h : hi ≤ S) : bys (xs (hi - lo)) = ((bys (xs S)).drop lo).take (hi - lo) := by
  unfold bys xs
  rw [List.map_replicate, List.map_replicate, List.drop_replicate, List.take_replicate]
  congr 1
  omega
theorem piece_at {S p k : Nat} (hp : 1 ≤ p) (hp4 : p ≤ 4) (hs : 16374 ≤ S) (hs2 : S ≤ 16393) (hk : k < p) : ∃ lo hi a1 a2 k1 : Nat,
    (S : Int) * (k : Int) = (a1 : Int) ∧ (k : Int) + 1 = (k1 : Int) ∧ (S : Int) * (k1 : Int) = (a2 : Int) ∧ (a1 : Int).tdiv (p : Int) = (lo : Int) ∧ (a1 : Int) / (p : Int) = (lo : Int) ∧ (a2 : Int).tdiv (p : Int) = (hi : Int) ∧ (a2 : Int) / (p : Int) = (hi : Int) ∧
    (lo : Int) ≤ hi ∧ (hi : Int) ≤ S ∧ (a1 : Int) ≤ 100000 ∧ (a2 : Int) ≤ 100000 ∧ lo < hi ∧ hi - lo = pieceN S p k := by
  have h1 := piece_pos (j := k) hp hp4 hs
  have h2 := piece_le S p hp (k + 1) hk
  have e1 : S * k ≤ 16393 * 4 := Nat.mul_le_mul hs2 (by omega)
  have e2 : S * (k + 1) ≤ 16393 * 4 := Nat.mul_le_mul hs2 (by omega)
  refine ⟨S * k / p, S * (k + 1) / p, S * k, S * (k + 1), k + 1, by rw [Int.natCast_mul], by omega, by rw [Int.natCast_mul], ?_, by rw [Int.natCast_ediv], ?_, by rw [Int.natCast_ediv], ?_, ?_, ?_, ?_, ?_, rfl⟩
  · rw [Int.tdiv_eq_ediv_of_nonneg (by omega), Int.natCast_ediv]
  · rw [Int.tdiv_eq_ediv_of_nonneg (by omega), Int.natCast_ediv]
  · exact Int.ofNat_le.2 (piece_mono S p k)
  · exact Int.ofNat_le.2 h2
  · exact Int.le_trans (Int.ofNat_le.2 e1) (by decide)
  · exact Int.le_trans (Int.ofNat_le.2 e2) (by decide)
  · unfold pieceN at h1; omega
theorem long_l {S : Nat} {s : St} (hs : s.W.length ≤ 30000) (l : List UInt8) (hl : l.length ≤ 30000) (_ : S = S) : s.W.length + l.length ≤ 140737488355328 := by omega
theorem run_op_str {op : Oper} {a : Act} {w : World} (x : Operand) (ho : op.op = .convert 24 9 x) {v : Value} {l : List UInt8} (hx : a.eval x = v) (hr : Rd w v (bys l)) :
    (execOp a.eval op).run Tryd.prog w = .ok (.value (.string ⟨l.toArray⟩)) w := by
  have hrun := run_string_of (P := Tryd.prog) (w := w) 24 5 9 Tryd.underlying24 Tryd.underlying5 Tryd.underlying9 hr
  unfold execOp
  simp only [ho, hx, Sem.run_bind, hrun, Result.andThen_ok, Sem.run_pure]
/- Of the next message: all of it; nothing; the end fed. -/
set_option maxRecDepth 20000 in
set_option maxHeartbeats 4000000 in
theorem flong_walk (n : Int) (ch : Bool) (pc : Int) (w : World) (hg : Gw w) :
    Calls Tryd.prog 5 #[.int .i64 n, .bool ch, .int .i64 pc] w fun e w' => e = .returned (.bool true) ∧ Kp0 w w' := by
  have HG := Lib.hid hg
  clear hg
  obtain ⟨q, m, hq, hq1, hq2, hq3, hq4, hq5⟩ := mod_pos n 20 (by decide)
  have hqa : -20 ≤ q := by omega
  have hqb : q ≤ 20 := by omega
  have hmi : (m : Int) ≤ 19 := by omega
  obtain ⟨S, hS⟩ : ∃ S, S = 16374 + m := ⟨_, rfl⟩
  have hSi : (16374 : Int) + (m : Int) = (S : Int) := by omega
  have hS2 : (S : Int) ≤ 16393 := by omega
  have hS1 : (16374 : Int) ≤ S := by omega
  have HS : Hid (16374 ≤ S ∧ S ≤ 16393) := Lib.hid (by omega)
  simp only [Int.cast_ofNat_Int] at hq hq3 hq4
  clear hq1 hq2 hq5 hS
  go_enter Tryd.func5, Tryd.ntmps5
  go_wp2_with fail
  refine (fit_any _ HG.out).mono ?_
  rintro e w1 ⟨rfl, hk⟩
  have HK1 := Lib.hid hk
  clear hk
  have hmk := mk_fill S w1 (by have := HS.out; omega)
  go_wp2
  clear hmk hq hq3 hq4 hSi hqa hqb hmi
  obtain ⟨g, hgd⟩ : ∃ g, g = w1.heap.size := ⟨_, rfl⟩
  have HGB : Hid (w.heap.size ≤ g) := Lib.hid (by rw [hgd]; exact HK1.out.size)
  have HB0 := Lib.hid (made_blk w1 S 5)
  have HK2 : Hid (Kp0 w (w1.alloc (.cells (fillX S 0).toArray 5))) := Lib.hid (HK1.out.alloc _)
  rw [← hgd] at HB0
  rw [← hgd]
  clear hgd
  go_loopg [9, 31] S (fun gg x i wr => ∃ k : Nat, i = .int .i64 k ∧ gg = S - k ∧ k ≤ S ∧ Blk wr g 5 (fillX S k) ∧ Kp0 w wr)
  case atStart => exact ⟨0, rfl, rfl, Nat.zero_le _, HB0.out, HK2.out⟩
  case round =>
    obtain ⟨k, rfl, rfl, hkS, hb, hk⟩ := hrel
    have HB := Lib.hid hb
    have HK := Lib.hid hk
    clear hb hk HB0 HK2
    by_cases hlt : k < S
    · have hlti : (k : Int) < S := by omega
      have hc : wr.cell? ⟨g, k, none⟩ = some (.int .u8 0) := HB.out.cellV k (fillX_get hlt)
      have hf : wr.frozen? ⟨g, k, none⟩ = false := blk_frozen HB.out k
      have HB2 : Hid (Blk (wr.setCell ⟨g, k, none⟩ (.int .u8 120)) g 5 (fillX S (k + 1))) := Lib.hid (by rw [← fillX_set hlt]; exact HB.out.set' k _)
      have HKK := Lib.hid (HK.out.at HGB.out (b := g) (i := k) (.int .u8 120))
      go_wp2
      go_roundg (S - (k + 1))
      case measure => omega
      case rel => exact ⟨k + 1, by go_num, rfl, by omega, HB2.out, HKK.out⟩
    · obtain rfl : S = k := by omega
      have hlti : ¬ (S : Int) < S := by omega
      rw [fillX_all] at HB
      have HZ : Hid (∀ i, ZG g i → i < wr.heap.size) := Lib.hid (fun i hi => by rw [hi]; exact HB.out.lt)
      obtain ⟨bd, hbd⟩ : ∃ bd, bd = wr.heap.size := ⟨_, rfl⟩
      have HD3 := Lib.hid (dc_new (B := w.heap.size) (Z := ZG g) (w := wr) HK.out.size HZ.out)
      have HK3 : Hid (Kp0 w (wr.alloc (.cells #[.slice none 0 0, .slice none 0 0, .bool false, .bool false] 26))) := Lib.hid (HK.out.alloc _)
      have HB3 : Hid (Blk (wr.alloc (.cells #[.slice none 0 0, .slice none 0 0, .bool false, .bool false] 26)) g 5 (bys (xs S))) := Lib.hid (HB.out.kp0 ((Kp.refl _ _).alloc _))
      rw [← hbd] at HD3
      cases ch with
      | false =>
        go_wp2_with fail
        rw [← hbd]
        clear hbd
        generalize (wr.alloc (.cells #[.slice none 0 0, .slice none 0 0, .bool false, .bool false] 26)) = w3 at HD3 HK3 HB3 ⊢
        refine (feed_any w.heap.size (ZG g) bd ⟨[], [], false, false⟩ _ (xs S) _ HD3.out (blk_rd HB3.out (by have := HS.out; omega)) (by rw [List.length_replicate]; have := HS.out; simp only [List.length_nil]; omega)).mono ?_
        rintro e w4 ⟨rfl, hd, hk4⟩
        have HK4 := Lib.hid (kp0_of_fz HK3.out hk4)
        have HB4 := Lib.hid (blk_fz HB3.out hk4)
        have HD4 : Hid (Dc w.heap.size (ZG g) w4 bd ⟨xs S, [], false, false⟩) := Lib.hid hd
        clear hd hk4
        go_wp2_with fail
        refine (Next_any w.heap.size (ZG g) bd _ _ HD4.out (HG.out.kp0 HK4.out) HG.out.sz ⟨by simp, by have := HS.out; simp only [List.length_replicate]; omega⟩).mono ?_
        rw [long_f0]
        by_cases hbig : 16390 ≤ S
        · rw [if_pos hbig]
          rintro e w5 ⟨s5, rfl, hs5, hd, hk5⟩
          have HK5 := Lib.hid (kp0_of_fz HK4.out hk5)
          have HB5 := Lib.hid (blk_fz HB4.out hk5)
          have HD5 : Hid (Dc w.heap.size (ZG g) w5 bd ⟨[], [], false, true⟩) := Lib.hid hd
          have hA : (16390 : Int) ≤ S := by omega
          have hB : (16384 : Int) < S := by omega
          clear hd hk5 hs5 hbig
          simp only []
          have HW : Hid (feedS ⟨[], [], false, true⟩ endM = ⟨[], [], false, true⟩) := Lib.hid rfl
          have HFL : Hid ((St.mk [] [] false true).W.length + endM.length ≤ 140737488355328) := Lib.hid (by show 0 + 6 ≤ _; omega)
          have HK6 : Hid (Kp0 w (w5.alloc (.cells (bys endM).toArray 5 (6, 7)))) := Lib.hid (HK5.out.alloc _)
          have HB6 : Hid (Blk (w5.alloc (.cells (bys endM).toArray 5 (6, 7))) g 5 (bys (xs S))) := Lib.hid (HB5.out.kp0 ((Kp.refl _ _).alloc _))
          have HM6 : Hid (Rd (w5.alloc (.cells (bys endM).toArray 5 (6, 7))) (.slice (some ⟨w5.heap.size, 0, none⟩) 6 6) (bys endM)) := Lib.hid (Rd.lit w5 (bys endM).toArray 5 (6, 7) 6 rfl (by decide))
          have HD6 := Lib.hid (HD5.out.kp0 ((Kp.refl _ _).alloc (.cells (bys endM).toArray 5 (6, 7))))
          go_wp2_with (refine wl_const (o := ⟨some 87, _, _, _, _, _⟩) rfl _ 24 5 rfl Tryd.underlying24 Tryd.underlying5 (w1 := w5) (C := (bys endM).toArray) rfl rfl ?_)
          refine (feed_any w.heap.size (ZG g) bd _ _ endM _ HD6.out HM6.out HFL.out).mono ?_
          rw [HW.out]
          rintro e w7 ⟨rfl, hd, hk7⟩
          have HKT := Lib.hid (kp0_of_fz HK6.out hk7)
          have HBT := Lib.hid (blk_fz HB6.out hk7)
          have HDT := Lib.hid hd
          clear hd hk7 HM6 HD6 HB6 HK6 HFL HW
          have HFT := Lib.hid none_f2
          have HNT := Lib.hid none_2
          go_wp2_with fail
          refine (Next_any w.heap.size (ZG g) bd _ _ HDT.out (HG.out.kp0 HKT.out) HG.out.sz HFT.out).mono ?_
          rw [HNT.out]
          rintro e wz ⟨sm, rfl, hsm, hd, hkz⟩
          have HKZ := Lib.hid (kp0_of_fz HKT.out hkz)
          have HDZ := Lib.hid hd
          obtain rfl : sm = { data := #[] } := str_ext (by rw [hsm, lit_toList])
          clear hd hkz hsm
          simp only [] at HDZ ⊢
          go_wp2_with fail
          refine (Next_any w.heap.size (ZG g) bd _ _ HDZ.out (HG.out.kp0 HKZ.out) HG.out.sz none_f2).mono ?_
          rw [none_2]
          rintro e wy ⟨sy, rfl, hsy, hd, hky⟩
          have HKY := Lib.hid (kp0_of_fz HKZ.out hky)
          clear hd hky hsy
          simp only []
          go_wp2
          all_goals go_ret
          all_goals exact ⟨rfl, HKY.out⟩
        · rw [if_neg hbig]
          rintro e w5 ⟨s5, rfl, hs5, hd, hk5⟩
          have HK5 := Lib.hid (kp0_of_fz HK4.out hk5)
          have HB5 := Lib.hid (blk_fz HB4.out hk5)
          have HD5 : Hid (Dc w.heap.size (ZG g) w5 bd ⟨xs S, [], false, false⟩) := Lib.hid hd
          have hA : ¬ (16390 : Int) ≤ S := by omega
          have HBG := Lib.hid hbig
          clear hd hk5 hs5 hbig
          simp only []
          have HW : Hid (feedS ⟨xs S, [], false, false⟩ endM = ⟨xs S ++ endM, [], false, false⟩) := Lib.hid rfl
          have HFL : Hid ((St.mk (xs S) [] false false).W.length + endM.length ≤ 140737488355328) := Lib.hid (by show (xs S).length + 6 ≤ _; rw [List.length_replicate]; have := HS.out; omega)
          have HK6 : Hid (Kp0 w (w5.alloc (.cells (bys endM).toArray 5 (6, 7)))) := Lib.hid (HK5.out.alloc _)
          have HB6 : Hid (Blk (w5.alloc (.cells (bys endM).toArray 5 (6, 7))) g 5 (bys (xs S))) := Lib.hid (HB5.out.kp0 ((Kp.refl _ _).alloc _))
          have HM6 : Hid (Rd (w5.alloc (.cells (bys endM).toArray 5 (6, 7))) (.slice (some ⟨w5.heap.size, 0, none⟩) 6 6) (bys endM)) := Lib.hid (Rd.lit w5 (bys endM).toArray 5 (6, 7) 6 rfl (by decide))
          have HD6 := Lib.hid (HD5.out.kp0 ((Kp.refl _ _).alloc (.cells (bys endM).toArray 5 (6, 7))))
          go_wp2_with (refine wl_const (o := ⟨some 87, _, _, _, _, _⟩) rfl _ 24 5 rfl Tryd.underlying24 Tryd.underlying5 (w1 := w5) (C := (bys endM).toArray) rfl rfl ?_)
          refine (feed_any w.heap.size (ZG g) bd _ _ endM _ HD6.out HM6.out HFL.out).mono ?_
          rw [HW.out]
          rintro e w7 ⟨rfl, hd, hk7⟩
          have HKT := Lib.hid (kp0_of_fz HK6.out hk7)
          have HBT := Lib.hid (blk_fz HB6.out hk7)
          have HDT := Lib.hid hd
          clear hd hk7 HM6 HD6 HB6 HK6 HFL HW
          have HFT : Hid (Fine ⟨xs S ++ endM, [], false, false⟩) := Lib.hid ⟨by simp, by have := HS.out; simp only [List.length_append, List.length_replicate]; show S + 6 ≤ _; omega⟩
          by_cases hok : S ≤ 16384
          · have hB : ¬ (16384 : Int) < S := by omega
            have HNT := Lib.hid (long_f1 hok)
            clear hok hA
            go_wp2_with fail
            refine (Next_any w.heap.size (ZG g) bd _ _ HDT.out (HG.out.kp0 HKT.out) HG.out.sz HFT.out).mono ?_
            rw [HNT.out]
            rintro e wz ⟨sm, rfl, hsm, hd, hkz⟩
            have HKZ := Lib.hid (kp0_of_fz HKT.out hkz)
            have HBZ := Lib.hid (blk_fz HBT.out hkz)
            have hcv : (convert 24 9 (.slice (some ⟨g, 0, none⟩) S S)).run Tryd.prog wz = .ok (.string sm) wz := by
              rw [run_string_of 24 5 9 Tryd.underlying24 Tryd.underlying5 Tryd.underlying9 (blk_rd HBZ.out (by have := HS.out; omega))]
              congr 2
              exact str_ext (by rw [ByteArray.toList_mk, hsm])
            clear hd hkz hsm hS1 hS2
            simp only []
            go_wp2
            all_goals go_ret
            all_goals exact ⟨rfl, HKZ.out⟩
          · have hB : (16384 : Int) < S := by omega
            have HNT := Lib.hid (long_f2 (S := S) (by omega) (by have := HBG.out; omega))
            clear hok
            go_wp2_with fail
            refine (Next_any w.heap.size (ZG g) bd _ _ HDT.out (HG.out.kp0 HKT.out) HG.out.sz HFT.out).mono ?_
            rw [HNT.out]
            rintro e wz ⟨sm, rfl, hsm, hd, hkz⟩
            have HKZ := Lib.hid (kp0_of_fz HKT.out hkz)
            have HDZ := Lib.hid hd
            obtain rfl : sm = { data := #[] } := str_ext (by rw [hsm, lit_toList])
            clear hd hkz hsm
            simp only [] at HDZ ⊢
            go_wp2_with fail
            refine (Next_any w.heap.size (ZG g) bd _ _ HDZ.out (HG.out.kp0 HKZ.out) HG.out.sz none_f2).mono ?_
            rw [none_2]
            rintro e wy ⟨sy, rfl, hsy, hd, hky⟩
            have HKY := Lib.hid (kp0_of_fz HKZ.out hky)
            clear hd hky hsy
            simp only []
            go_wp2
            all_goals go_ret
            all_goals exact ⟨rfl, HKY.out⟩
      | true =>
        obtain ⟨q2, m2, hr, hr1, hr2, hr3, hr4, hr5⟩ := mod_pos pc 4 (by decide)
        obtain ⟨p, hp⟩ : ∃ p, p = m2 + 1 := ⟨_, rfl⟩
        have hrp : (m2 : Int) + 1 = (p : Int) := by omega
        have hp1 : (1 : Int) ≤ p := by omega
        have hp4 : (p : Int) ≤ 4 := by omega
        have hra : -4 ≤ q2 := by omega
        have hrb : q2 ≤ 4 := by omega
        have hrc : (m2 : Int) ≤ 3 := by omega
        have HP : Hid (1 ≤ p ∧ p ≤ 4) := Lib.hid (by omega)
        simp only [Int.cast_ofNat_Int] at hr hr3 hr4
        clear hr1 hr2 hr5 hp
        go_wp2_with fail
        rw [← hbd]
        clear hbd
        generalize (wr.alloc (.cells #[.slice none 0 0, .slice none 0 0, .bool false, .bool false] 26)) = w3 at HD3 HK3 HB3 ⊢
        refine (switch_any w.heap.size (ZG g) bd _ _ HD3.out).mono ?_
        rintro e w4 ⟨rfl, hd, hk4⟩
        have HK4 := Lib.hid (kp0_of_fz HK3.out hk4)
        have HB4 := Lib.hid (blk_fz HB3.out hk4)
        have HD4 : Hid (Dc w.heap.size (ZG g) w4 bd ⟨[], [], true, false⟩) := Lib.hid hd
        clear hd hk4
        go_wp2
        go_loopg [11, 12, 46] p (fun gg a x i wr => ∃ k : Nat, i = .int .i64 k ∧ gg = p - k ∧ k ≤ p ∧ Dc w.heap.size (ZG g) wr bd ⟨piecesS S p k, [], true, false⟩ ∧ Blk wr g 5 (bys (xs S)) ∧ Kp0 w wr)
        case atStart => exact ⟨0, rfl, rfl, Nat.zero_le _, HD4.out, HB4.out, HK4.out⟩
        case round =>
          obtain ⟨k, rfl, rfl, hkp, hd, hb, hk⟩ := hrel
          have HDk := Lib.hid hd
          have HBk := Lib.hid hb
          have HKk := Lib.hid hk
          clear hd hb hk
          by_cases hlt : k < p
          · have hlti2 : (k : Int) < p := by omega
            obtain ⟨lo, hi, a1, a2, k1, hm1, hs1, hm2, hv1, hv2, hv3, hv4, hlo, hhi, ha1, ha2, hn, hpn⟩ := piece_at HP.out.1 HP.out.2 HS.out.1 HS.out.2 hlt
            have HPN := Lib.hid hpn
            have HLH : Hid (lo ≤ hi ∧ hi ≤ S) := Lib.hid ⟨by omega, by omega⟩
            go_upto_region 18 with (fail)
            have HSB : Hid (∀ w', Kp0 wr w' → Rd w' (sliced (some ⟨g, 0, none⟩) lo hi S 1) (bys (xs (pieceN S p k)))) := Lib.hid (fun w' hk' => by
              have := (blk_rd (HBk.out.kp0 hk') (by have := HS.out; omega)).cut lo hi S (by omega) (by omega) (by omega) (Nat.le_refl _)
              rwa [← hpn, xs_cut (S := S) (by omega)])
            refine wp_region_px 15 [] (fun w' : World => Kp0 wr.drew w') (.quiet 0 (.quiet 1 (.quiet 2 (.quiet 3 (.quiet 4 (.quiet 5 (.quiet 6 (.quiet 7 (.quiet 8 (.quiet 9 (.quiet 10 (.quiet 11 (.quiet 12 (.quiet 13 (.eff 14 (.quiet 15 .done)))))))))))))))) (by kernel_rfl) (by kernel_rfl) (by kernel_rfl) (by kernel_rfl) (fun _ d _ _ _ h => by cases d <;> exact h) (Kp.refl _ _) ?_
            have hp0 : ¬ p = 0 := by omega
            have hwr : ∀ x : Nat, (x : Int) ≤ 100000 → IntKind.i64.wrap (x : Int) = (x : Int) := fun x hx => by rw [IntKind.wrap_i64]; omega
            have hwa := hwr a1 ha1
            have hwb := hwr a2 ha2
            have hwc := hwr lo (by omega)
            have hwd := hwr hi (by omega)
            have hwe := hwr k1 (by omega)
            clear hwr hv2 hv4
            iterate 12 (refine px_quiet (v := ?_) rfl (by rfl) (fun wq hwq => ?_) rfl ?_; rotate_left 1; (focus (go_simp; try (with_reducible rfl); done)); try simp only [List.setIfInBounds_toArray, List.set_cons_zero, List.set_cons_succ])
            clear hwa hwb hwc hwd hwe hv1 hv3 hm1 hm2 hs1 ha1 ha2 hp0
            refine px_quiet (v := sliced (some ⟨g, 0, none⟩) lo hi S 1) rfl (by rfl) (fun wq hwq => run_op_cut (.tmp 49) (.tmp 54) (.tmp 60) rfl lo hi rfl rfl rfl rfl rfl (by omega) (by omega)) rfl ?_
            try simp only [List.setIfInBounds_toArray, List.set_cons_zero, List.set_cons_succ]
            refine px_quiet (v := .string ⟨(xs (pieceN S p k)).toArray⟩) rfl (by rfl) (fun wq hwq => run_op_str (.tmp 61) rfl rfl (HSB.out wq ((Kp.refl _ _).drew.tr hwq))) rfl ?_
            try simp only [List.setIfInBounds_toArray, List.set_cons_zero, List.set_cons_succ]
            have HSP : Hid ((({ data := (xs (pieceN S p k)).toArray } : ByteArray)).toList = xs (pieceN S p k)) := Lib.hid (lit_toList _)
            generalize ({ data := (xs (pieceN S p k)).toArray } : ByteArray) = sp at HSP ⊢
            generalize sliced (some ⟨g, 0, none⟩) lo hi S 1 = vsl
            have HPL : Hid (1 ≤ pieceN S p k ∧ pieceN S p k ≤ 16393) := Lib.hid (by rw [← HPN.out]; have := HLH.out; have := HS.out; omega)
            have HSS : Hid (sp.size ≤ 1000000) := Lib.hid (by rw [← size_toList, HSP.out, List.length_replicate]; have := HPL.out; omega)
            refine px_eff rfl (by rfl) (fun K hK => ?_)
            go_simp
            refine (refEnc_any sp true _ HSS.out).mono ?_
            rintro e w5 ⟨x, rfl, hx, hk5⟩
            rw [HSP.out] at hx
            simp only []
            have HK5 : Hid (Kp0 wr.drew w5) := Lib.hid hk5
            refine hK (fun w' : World => Kp0 wr.drew w') _ _ (fun x h => h) HK5.out ?_
            clear hK K hk5
            try simp only [Act.put, List.setIfInBounds_toArray, List.set_cons_zero, List.set_cons_succ]
            refine px_quiet (v := ?_) rfl (by rfl) (fun wq hwq => ?_) rfl ?_; rotate_left 1; (focus (go_simp; try (with_reducible rfl); done)); try simp only [List.setIfInBounds_toArray, List.set_cons_zero, List.set_cons_succ]
            refine px_done ?_
            have hxl : x.size = (chunkE (xs (pieceN S p k))).length + 4 := by
              rw [← size_toList, hx, encS_chunk (xs_ne (by have := HPL.out; omega)), List.length_append]
              rfl
            have hcl := chunkE_len2 (p := xs (pieceN S p k)) (by rw [List.length_replicate]; have := HPL.out; omega)
            rw [List.length_replicate] at hcl
            obtain ⟨xm, hxm⟩ : ∃ xm, xm = x.size - 4 := ⟨_, rfl⟩
            have hxe : (x.extract 0 xm).toList = chunkE (xs (pieceN S p k)) := by
              rw [extract_toList, List.drop_zero, hx, encS_chunk (xs_ne (by have := HPL.out; omega)), List.take_append_of_le_length (by omega), List.take_of_length_le (by omega)]
            have hx4 : (x.size : Int) - 4 = (xm : Int) := by omega
            have hx5 : (x.size : Int) ≤ 20000 := by have := HPL.out; omega
            have hx6 : (4 : Int) ≤ x.size := by omega
            have hx7 : (xm : Int) ≤ x.size := by omega
            have HXS : Hid ((x.extract 0 xm).size ≤ 9223372036854775807) := Lib.hid (by rw [ByteArray.size_extract]; omega)
            have HXE := Lib.hid hxe
            have HDx := Lib.hid (HDk.out.kp0 ((Kp.refl _ _).drew.tr HK5.out))
            have HBx := Lib.hid (HBk.out.kp0 ((Kp.refl _ _).drew.tr HK5.out))
            have HKx := Lib.hid (HKk.out.tr ((Kp.refl _ _).drew.tr HK5.out))
            have HPS : Hid ((piecesS S p k).length + (chunkE (xs (pieceN S p k))).length ≤ 140737488355328) := Lib.hid (by
              have h1 := pieces_len (s := S) HP.out.1 (by have := HS.out; omega) k hkp
              have h2 := piece_le S p HP.out.1 k hkp
              have := HS.out
              have := HP.out
              have := HPL.out
              omega)
            clear hxe hcl hxl hxm hx HSB HK5
            go_wp2_with (refine wl_bytes_of_str (o := ⟨some 69, _, _, _, _, _⟩) rfl _ 9 24 5 rfl Tryd.underlying9 Tryd.underlying24 Tryd.underlying5 (x.extract 0 xm) rfl HXS.out ?_; intro cap5 w6 hrd hgr; have HK6 := Lib.hid (HKx.out.grown hgr (by simp)); have HD6 := Lib.hid (HDx.out.kp0 ((Kp.refl _ _).grown hgr (by simp))); have HB6 := Lib.hid (HBx.out.kp0 ((Kp.refl _ _).grown hgr (by simp))); rw [HXE.out] at hrd; (obtain ⟨v6, hv6⟩ : ∃ v, v = Value.slice (some ⟨w5.heap.size, 0, none⟩) (x.extract 0 xm).size cap5 := ⟨_, rfl⟩); rw [← hv6] at hrd ⊢; clear hv6; have HR6 := Lib.hid hrd; clear hrd hgr)
            go_at_call 11
            refine (feed_any w.heap.size (ZG g) bd ⟨piecesS S p k, [], true, false⟩ _ (chunkE (xs (pieceN S p k))) _ HD6.out HR6.out HPS.out).mono ?_
            rintro e w7 ⟨rfl, hd, hk7⟩
            have HK7 := Lib.hid (kp0_of_fz HK6.out hk7)
            have HB7 := Lib.hid (blk_fz HB6.out hk7)
            have HD7 : Hid (Dc w.heap.size (ZG g) w7 bd ⟨piecesS S p (k + 1), [], true, false⟩) := Lib.hid hd
            clear hd hk7
            go_wp2
            go_roundg (p - (k + 1))
            case measure => omega
            case rel => exact ⟨k + 1, by go_num, rfl, by omega, HD7.out, HB7.out, HK7.out⟩
          · obtain rfl : p = k := by omega
            have hlti2 : ¬ (p : Int) < p := by omega
            have HK6 : Hid (Kp0 w (wr.alloc (.cells (bys [10, 35, 35, 10]).toArray 5 (4, 5)))) := Lib.hid (HKk.out.alloc _)
            have HB6 : Hid (Blk (wr.alloc (.cells (bys [10, 35, 35, 10]).toArray 5 (4, 5))) g 5 (bys (xs S))) := Lib.hid (HBk.out.kp0 ((Kp.refl _ _).alloc _))
            have HM6 : Hid (Rd (wr.alloc (.cells (bys [10, 35, 35, 10]).toArray 5 (4, 5))) (.slice (some ⟨wr.heap.size, 0, none⟩) 4 4) (bys [10, 35, 35, 10])) := Lib.hid (Rd.lit wr (bys [10, 35, 35, 10]).toArray 5 (4, 5) 4 rfl (by decide))
            have HD6 := Lib.hid (HDk.out.kp0 ((Kp.refl _ _).alloc (.cells (bys [10, 35, 35, 10]).toArray 5 (4, 5))))
            have HPL : Hid ((piecesS S p p).length ≤ 17000) := Lib.hid (by
              have h1 := pieces_len (s := S) HP.out.1 (by have := HS.out; omega) p (Nat.le_refl _)
              have h2 := piece_le S p HP.out.1 p (Nat.le_refl _)
              have := HS.out
              have := HP.out
              omega)
            go_wp2_with (refine wl_const (o := ⟨some 73, _, _, _, _, _⟩) rfl _ 24 5 rfl Tryd.underlying24 Tryd.underlying5 (w1 := wr) (C := (bys [10, 35, 35, 10]).toArray) rfl rfl ?_)
            refine (feed_any w.heap.size (ZG g) bd ⟨piecesS S p p, [], true, false⟩ _ [10, 35, 35, 10] _ HD6.out HM6.out (by have := HPL.out; simp only [List.length_cons, List.length_nil]; omega)).mono ?_
            rintro e w7 ⟨rfl, hd, hk7⟩
            have HKT := Lib.hid (kp0_of_fz HK6.out hk7)
            have HBT := Lib.hid (blk_fz HB6.out hk7)
            have HDT : Hid (Dc w.heap.size (ZG g) w7 bd ⟨piecesS S p p ++ [10, 35, 35, 10], [], true, false⟩) := Lib.hid hd
            clear hd hk7 HM6 HD6 HB6 HK6
            have HFT : Hid (Fine ⟨piecesS S p p ++ [10, 35, 35, 10], [], true, false⟩) := Lib.hid ⟨by simp, by have := HPL.out; simp only [List.length_append, List.length_cons, List.length_nil]; omega⟩
            have hlc := long_c HP.out.1 HP.out.2 HS.out.1 HS.out.2
            by_cases hok : S ≤ 16384
            · have hB : ¬ (16384 : Int) < S := by omega
              rw [if_pos hok] at hlc
              have HNT := Lib.hid hlc
              clear hok hlc
              go_wp2_with fail
              refine (Next_any w.heap.size (ZG g) bd _ _ HDT.out (HG.out.kp0 HKT.out) HG.out.sz HFT.out).mono ?_
              rw [HNT.out]
              rintro e wz ⟨sm, rfl, hsm, hd, hkz⟩
              have HKZ := Lib.hid (kp0_of_fz HKT.out hkz)
              have HBZ := Lib.hid (blk_fz HBT.out hkz)
              have hcv : (convert 24 9 (.slice (some ⟨g, 0, none⟩) S S)).run Tryd.prog wz = .ok (.string sm) wz := by
                rw [run_string_of 24 5 9 Tryd.underlying24 Tryd.underlying5 Tryd.underlying9 (blk_rd HBZ.out (by have := HS.out; omega))]
                congr 2
                exact str_ext (by rw [ByteArray.toList_mk, hsm])
              clear hd hkz hsm hS1 hS2
              simp only []
              go_wp2
              all_goals go_ret
              all_goals exact ⟨rfl, HKZ.out⟩
            · have hB : (16384 : Int) < S := by omega
              rw [if_neg hok] at hlc
              have HNT := Lib.hid hlc
              clear hok hlc
              go_wp2_with fail
              refine (Next_any w.heap.size (ZG g) bd _ _ HDT.out (HG.out.kp0 HKT.out) HG.out.sz HFT.out).mono ?_
              rw [HNT.out]
              rintro e wz ⟨sm, rfl, hsm, hd, hkz⟩
              have HKZ := Lib.hid (kp0_of_fz HKT.out hkz)
              have HDZ := Lib.hid hd
              obtain rfl : sm = { data := #[] } := str_ext (by rw [hsm, lit_toList])
              clear hd hkz hsm
              simp only [] at HDZ ⊢
              go_wp2_with fail
              refine (Next_any w.heap.size (ZG g) bd _ _ HDZ.out (HG.out.kp0 HKZ.out) HG.out.sz none_f2).mono ?_
              rw [none_2]
              rintro e wy ⟨sy, rfl, hsy, hd, hky⟩
              have HKY := Lib.hid (kp0_of_fz HKZ.out hky)
              clear hd hky hsy
              simp only []
              go_wp2
              all_goals go_ret
              all_goals exact ⟨rfl, HKY.out⟩
end Go.Proofs.YtdjknljhpbebiaaDoor
