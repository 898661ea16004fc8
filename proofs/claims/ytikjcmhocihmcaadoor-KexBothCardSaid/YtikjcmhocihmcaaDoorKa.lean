/- Package kex: a payload read as an offer. The laws of layer 8: their opening. An array of eight []string that came in; what a card's condition tells of the tables of layer 2. -/
import Derived.Test.YtikjcmhocihmcaaDoorK9
import Derived.Test.YtikjcmhocihmcaaDoorK7
import Derived.Test.YtikjcmhocihmcaaDoorK2
import Derived.Test.YtikjcmhocihmcaaDoorK8
import Derived.Test.YtikjcmhocihmcaaDoorK1
import Derived.Test.YtikjcmhocihmcaaDoorRows
import Derived.Lib.LaidTab
import Derived.MakeChecks
import Derived.LaidLaws
namespace Go.Proofs.YtikjcmhocihmcaaDoor
open Go Go.RowKit
/-- The reader's state behind k lists of names. -/
def stN (st : Option (List UInt8)) : Nat → Option (List UInt8)
  | 0 => st
  | k + 1 => (namesS (stN st k)).2
def nmAt (st : Option (List UInt8)) (i : Nat) : List (List UInt8) := (namesS (stN st i)).1
def stH (xs : List UInt8) : Option (List UInt8) := (takeS (byteS (some xs)).2 16).2
def stE (xs : List UInt8) : Option (List UInt8) := (u32S (byteS (stN (stH xs) 10)).2).2
def readOk (xs : List UInt8) : Bool := decide (stE xs = some []) && decide ((byteS (some xs)).1 = 20)
/-- Rows that lie off the blocks Z. -/
def RowsN (Z : Nat → Prop) (w : World) (vs : List Value) (L : List (List ByteArray)) : Prop := vs.length = 8 ∧ L.length = 8 ∧ ∀ i v, vs[i]? = some v → Rd w v (strs (L.getD i [])) ∧ ∀ g, v.ownBlock = some g → ¬ Z g
theorem RowsN.rows {Z : Nat → Prop} {w : World} {vs : List Value} {L : List (List ByteArray)} (h : RowsN Z w vs L) : Rows8 w vs L := ⟨h.1, h.2.1, fun i v hv => (h.2.2 i v hv).1⟩
theorem RowsN.keep {Z S : Nat → Prop} {w w' : World} {vs : List Value} {L : List (List ByteArray)} (h : RowsN Z w vs L) (hk : Kp S w w') (hs : ∀ g, S g → Z g) : RowsN Z w' vs L :=
  ⟨h.1, h.2.1, fun i v hv => by obtain ⟨h1, h3⟩ := h.2.2 i v hv; exact ⟨h1.keep hk (fun g hg _ h => h3 g hg (hs g h)), h3⟩⟩
theorem RowsN.set {Z : Nat → Prop} {w : World} {vs : List Value} {L : List (List ByteArray)} (h : RowsN Z w vs L) (k : Nat) {v : Value} {l : List ByteArray} (hk : k < 8) (hv : Rd w v (strs l)) (hb : ∀ g, v.ownBlock = some g → ¬ Z g) : RowsN Z w (vs.set k v) (L.set k l) := by
  refine ⟨by simp [h.1], by simp [h.2.1], fun i u hu => ?_⟩
  by_cases hi : i = k
  · subst hi
    rw [List.getElem?_set_self (by rw [h.1]; exact hk)] at hu
    cases hu
    rw [List.getD_eq_getElem?_getD, List.getElem?_set_self (by rw [h.2.1]; exact hk), Option.getD_some]
    exact ⟨hv, hb⟩
  · rw [List.getElem?_set_ne (fun e => hi e.symm)] at hu
    have := h.2.2 i u hu
    rw [List.getD_eq_getElem?_getD, List.getElem?_set_ne (fun e => hi e.symm), ← List.getD_eq_getElem?_getD]
    exact this
theorem getD_set_eq {α : Type} {L : List (List α)} {k : Nat} {l : List α} (h : k < L.length) : (L.set k l).getD k [] = l := by
  rw [List.getD_eq_getElem?_getD, List.getElem?_set_self h, Option.getD_some]
theorem getD_set_ne {α : Type} {L : List (List α)} {k i : Nat} {l : List α} (h : i ≠ k) : (L.set k l).getD i [] = L.getD i [] := by
  rw [List.getD_eq_getElem?_getD, List.getElem?_set_ne (fun e => h e.symm), ← List.getD_eq_getElem?_getD]
theorem nil_rowsN (Z : Nat → Prop) (w : World) : RowsN Z w nil8 (List.replicate 8 []) := by
  refine ⟨rfl, rfl, fun i v hv => ?_⟩
  have e : v = .slice none 0 0 := by
    have : ∀ u ∈ nil8, u = .slice none 0 0 := by
      intro u hu
      simp only [nil8, List.mem_cons, List.not_mem_nil, or_false, or_self] at hu
      exact hu
    obtain ⟨hi, rfl⟩ := List.getElem?_eq_some_iff.1 hv
    exact this _ (List.getElem_mem hi)
  have e2 : (List.replicate 8 ([] : List ByteArray)).getD i [] = [] := by
    rw [List.getD_eq_getElem?_getD, List.getElem?_replicate]
    split <;> rfl
  rw [e, e2]
  exact ⟨Rd.nil _, fun g hg => by cases hg⟩
theorem RowsN.ones {b : Nat → Prop} {w : World} {vs : List Value} {L : List (List ByteArray)} (h : RowsN b w vs L) : Ones vs := h.rows.ones
theorem asL8 : AllocAs 30 nil8 := by
  intro w ev op ho
  unfold execOp
  simp only [ho]
  kernel_rfl
theorem ret_blk2 {P : Program} {fn : Func} {R : Ending → World → Prop} {a : Act} {w : World} (t u : Tmp) (T U : TypeId) (g : Nat) (cs : List Value) (d : TypeDesc) (v : Value) (hr : fn.results = #[.cell t T, .tmp u]) (hx : a.tmps.getD t undef = .pointer (some ⟨g, 0, none⟩)) (hv : a.tmps.getD u undef = v)
    (hA : Blk w g U cs) (hu : P.underlying T = some d) (hd : d.isRow = true) (hi : (P.info? T).map (·.size) = some cs.length) (hdf : a.defers = []) (hR : R (.returned (.tuple #[.agg cs.toArray, v])) w) : bodyPost P fn R .ret a w := by
  refine ⟨hdf, _, ?_, hR⟩
  have := run_loadVar_mid (P := P) w g 0 T cs d hA.range hu hd hi
  rw [Array.getD_eq_getD_getElem?] at hx hv
  simp [results, hr, hx, hv, asAddr, this]
/-- What reading answers. -/
def readP (xs : List UInt8) (en : Int) (L : List (List ByteArray)) : Prop :=
  (readOk xs = true ∧ en = 0 ∧ ∀ i, i < 8 → lists (L.getD i []) = nmAt (stH xs) i) ∨ (readOk xs = false ∧ en = 3 ∧ L = List.replicate 8 [])
set_option maxRecDepth 20000 in
set_option maxHeartbeats 8000000 in
theorem readInit_any (v : Value) (xs : List UInt8) (w : World) (hg : Gm w) (hv : Rd w v (bys xs)) :
    Calls Tryd.prog 13 #[v] w fun e w' => ∃ vs L en, e = .returned (.tuple #[.agg vs.toArray, .int .i64 en]) ∧ Rows8 w' vs L ∧ readP xs en L ∧ Kp0 w w' := by
  have HV := Lib.hid hv
  have HGM := Lib.hid hg
  have HGL : Hid (2 < w.heap.size) := Lib.hid (by obtain ⟨m, hm⟩ := hg; exact World.block_lt_of_cell? w _ hm)
  clear hv hg
  go_enter Tryd.func13, Tryd.ntmps13
  go_upto_region 2 with (first
    | (refine wl_alloc_as asL8 rfl rfl ?_
       intro w1 g2 hw hg2
       have HB1 : Hid (Bks w w1 [(g2, 30, nil8)]) := Lib.hid (by rw [hw]; exact (Bks.nil w).push 30 nil8 hg2)
       have HG2 : Hid (g2 = w.heap.size) := Lib.hid hg2
       clear hw hg2)
    | (refine wl_alloc_as asL8 rfl rfl ?_
       intro w2 g4 hw hg4
       have HB2 : Hid (Bks w w2 [(g2, 30, nil8), (g4, 30, nil8)]) := Lib.hid (by rw [hw]; exact HB1.out.push 30 nil8 hg4)
       have HG4 : Hid (w.heap.size + 1 ≤ g4) := Lib.hid (by have := (HB1.out.at 0 rfl).lt; have := HG2.out; omega)
       clear hw hg4 HB1))
  simp only [Act.put]
  have hln : (takeS (byteS (some xs)).2 16).1 = [] ∨ (takeS (byteS (some xs)).2 16).1.length = 16 := takeS_len _ 16
  have HLN : Hid ((takeS (byteS (some xs)).2 16).1.length ≤ 9223372036854775807) := Lib.hid (by rcases hln with h | h <;> rw [h] <;> decide)
  clear hln
  go_upto_region 5 with (first
    | (go_at_call 38
       refine (from_any _ xs _ (HV.out.keep0 HB2.out.kp)).mono ?_
       rintro e w3 ⟨b, rfl, hb, hr, hk⟩
       have HR3 := Lib.hid hr
       have HK3 := Lib.hid (HB2.out.kp.tr hk)
       have HB3 := Lib.hid (HB2.out.kp0 hk)
       have HNB : Hid (¬ g2 = b ∧ ¬ g4 = b ∧ w.heap.size ≤ b ∧ ¬ b = 2) := Lib.hid ⟨fun e => by have := (HB2.out.at 0 rfl).lt; omega, fun e => by have := (HB2.out.at 1 rfl).lt; omega, Nat.le_trans HB2.out.kp.size hb, fun e => by have := HGL.out; have := HB2.out.kp.size; omega⟩
       clear hb hr hk HB2)
    | (go_at_call 39
       refine (byte_rs b (some xs) _ HR3.out).mono ?_
       rintro e w4 ⟨rfl, hr, hk⟩
       have HR4 := Lib.hid hr
       have HK4 : Hid (Kp0 w w4) := Lib.hid (HK3.out.trans hk (fun _ _ h => h) (fun i hi h => by have := HNB.out.2.2.1; omega))
       have H2B4 := Lib.hid ((HB3.out.at 0 rfl).keep hk HNB.out.1)
       have H4B4 := Lib.hid ((HB3.out.at 1 rfl).keep hk HNB.out.2.1)
       clear hr hk HR3 HK3 HB3)
    | (go_at_call 40
       refine (bytes_rs b 16 (byteS (some xs)).2 _ HR4.out HLN.out).mono ?_
       rintro e w5 ⟨v5, rfl, _, hr, hk, _⟩
       have HR5 : Hid (Rs w5 b (stH xs)) := Lib.hid hr
       have HK5 : Hid (Kp0 w w5) := Lib.hid (HK4.out.trans hk (fun _ _ h => h) (fun i hi h => by have := HNB.out.2.2.1; omega))
       have H2B5 := Lib.hid (H2B4.out.keep hk HNB.out.1)
       have H4B5 := Lib.hid (H4B4.out.keep hk HNB.out.2.1)
       clear hr hk HR4 HK4 H2B4 H4B4))
  clear HLN
  have HR0 := Lib.hid (nil_rowsN (fun g => g = b ∨ g = g4 ∨ g = g2) w5)
  go_wp2
  go_loopw [14] (fun i wr => ∃ (k : Nat) (vs : List Value) (L : List (List ByteArray)), i = .int .i64 k ∧ k ≤ 8 ∧ Hid (RowsN (fun g => g = b ∨ g = g4 ∨ g = g2) wr vs L) ∧ Hid (Blk wr g2 30 nil8) ∧ Hid (Blk wr g4 30 vs) ∧ Hid (Rs wr b (stN (stH xs) k)) ∧ Hid (∀ i, i < k → lists (L.getD i []) = nmAt (stH xs) i) ∧ Hid (Kp0 w wr)) (fun i _ => 8 - (intOf i).toNat)
  case atStart => exact ⟨0, nil8, List.replicate 8 [], rfl, Nat.zero_le _, HR0, H2B5, H4B5, HR5, Lib.hid (fun i h => absurd h (Nat.not_lt_zero _)), HK5⟩
  case round =>
    obtain ⟨k, vs, L, rfl, hk, HRN, H2, H4, HRS, HNM, HK⟩ := hrel
    by_cases h : k < 8
    · have hk8 : (k : Int) < 8 := by omega
      have hcell := H4.out.cellV k (getD_row (by rw [HRN.out.1]; exact h))
      generalize vs.getD k undef = old at hcell
      have hfz := blk_frozen H4.out k
      have HGK := Lib.hid (HGM.out.keep HK.out (fun h => h))
      go_wp2_with (go_at_call 41; refine (names_rs b _ _ HRS.out HGK.out HNB.out.2.2.2).mono ?_; rintro e w6 ⟨v6, ls, rfl, hrd, hls, hr6, hk6, how⟩; obtain ⟨a6, c6, rfl, -, -, -⟩ := hrd.shapeS; have HR6 := Lib.hid hr6; have HK6 := Lib.hid hk6; have HRD := Lib.hid hrd; have HLS := Lib.hid hls; have HOW := Lib.hid how; have hcell6 := (H4.out.keep hk6 HNB.out.2.1).cellV k (getD_row (by rw [HRN.out.1]; exact h)); have hfz6 := blk_frozen (H4.out.keep hk6 HNB.out.2.1) k; clear hr6 hk6 hrd hls how hcell hfz)
      have HST : Hid (Kp (fun g => g = g4) w6 (w6.setCell ⟨g4, k, none⟩ (.slice a6 ls.length c6))) := Lib.hid ((Kp.refl (fun g => g = g4) w6).setCell (p := ⟨g4, k, none⟩) (fun _ => rfl) _)
      have HNR : Hid (RowsN (fun g => g = b ∨ g = g4 ∨ g = g2) (w6.setCell ⟨g4, k, none⟩ (.slice a6 ls.length c6)) (vs.set k (.slice a6 ls.length c6)) (L.set k ls)) := Lib.hid (by
        have h1 := HRN.out.keep HK6.out (fun g hg => .inl hg)
        have hlt := HRS.out.lt
        have hlt4 := H4.out.lt
        have hlt2 := H2.out.lt
        have h2 := h1.set k h HRD.out (fun g hg e => by have := HOW.out g hg; rcases e with e | e | e <;> omega)
        exact h2.keep HST.out (fun g hg => .inr (.inl hg)))
      have HG24 : Hid (¬ g2 = g4) := Lib.hid (fun e => by have := HG2.out; have := HG4.out; omega)
      have HNX : Hid (∀ i, i < k + 1 → lists ((L.set k ls).getD i []) = nmAt (stH xs) i) := Lib.hid (fun i hi => by
        by_cases e : i = k
        · subst e; rw [getD_set_eq (by rw [HRN.out.2.1]; exact h)]; exact HLS.out
        · rw [getD_set_ne e]; exact HNM.out i (by omega))
      go_roundw
      case rel => exact ⟨k + 1, vs.set k (.slice a6 ls.length c6), L.set k ls, by go_num, by omega, HNR, Lib.hid ((H2.out.keep HK6.out HNB.out.1).keep HST.out HG24.out), Lib.hid ((H4.out.keep HK6.out HNB.out.2.1).set' k _), Lib.hid (HR6.out.keep HST.out (fun e => HNB.out.2.1 e.symm)), HNX, Lib.hid ((HK.out.trans HK6.out (fun _ _ h => h) (fun i hi h => by have := HNB.out.2.2.1; omega)).trans HST.out (fun _ _ h => h) (fun i hi h => by have := HG4.out; omega))⟩
      case measure => simp [intOf]; omega
    · obtain rfl : k = 8 := by omega
      have HGK := Lib.hid (HGM.out.keep HK.out (fun h => h))
      obtain ⟨kd, hkd⟩ : ∃ x, x = (byteS (some xs)).1 := ⟨_, rfl⟩
      have HKD := Lib.hid hkd
      rw [← hkd]
      clear hkd
      go_wp2
      refine wp_loop_rounds 3 ?_
      rw [rounds_succ]
      go_wp2_with (go_at_call 41; refine (names_rs b _ _ HRS.out HGK.out HNB.out.2.2.2).mono ?_; rintro e w6 ⟨v6, ls6, rfl, -, -, hr6, hk6, -⟩; have HR6 : Hid (Rs w6 b (stN (stH xs) 9)) := Lib.hid hr6; have HQ6 : Hid (Kp (At b) wr w6) := Lib.hid hk6; have HK6 : Hid (Kp0 w w6) := Lib.hid (HK.out.trans hk6 (fun _ _ h => h) (fun i hi h => by have := HNB.out.2.2.1; omega)); clear hr6 hk6 HRS)
      rw [rounds_succ]
      have HGK6 := Lib.hid (HGM.out.keep HK6.out (fun h => h))
      go_wp2_with (go_at_call 41; refine (names_rs b _ _ HR6.out HGK6.out HNB.out.2.2.2).mono ?_; rintro e w7 ⟨v7, ls7, rfl, -, -, hr7, hk7, -⟩; have HR7 : Hid (Rs w7 b (stN (stH xs) 10)) := Lib.hid hr7; have HQ7 : Hid (Kp (At b) wr w7) := Lib.hid (HQ6.out.tr hk7); have HK7 : Hid (Kp0 w w7) := Lib.hid (HK6.out.trans hk7 (fun _ _ h => h) (fun i hi h => by have := HNB.out.2.2.1; omega)); clear hr7 hk7 HR6 HQ6)
      rw [rounds_succ]
      go_upto_region 16 with (first
        | (go_at_call 42; refine (flag_rs b _ _ HR7.out).mono ?_; rintro e w8 ⟨rfl, hr8, hk8⟩; have HR8 := Lib.hid hr8; have HQ8 : Hid (Kp (At b) wr w8) := Lib.hid (HQ7.out.tr hk8); have HK8 : Hid (Kp0 w w8) := Lib.hid (HK7.out.trans hk8 (fun _ _ h => h) (fun i hi h => by have := HNB.out.2.2.1; omega)); clear hr8 hk8 HR7 HQ7)
        | (go_at_call 43; refine (u32_rs b _ _ HR8.out).mono ?_; rintro e w9 ⟨rfl, hr9, hk9⟩; have HR9 : Hid (Rs w9 b (stE xs)) := Lib.hid hr9; have HQ9 : Hid (Kp (At b) wr w9) := Lib.hid (HQ8.out.tr hk9); have HK9 : Hid (Kp0 w w9) := Lib.hid (HK8.out.trans hk9 (fun _ _ h => h) (fun i hi h => by have := HNB.out.2.2.1; omega)); clear hr9 hk9 HR8 HQ8))
      have H29 := Lib.hid (H2.out.keep HQ9.out HNB.out.1)
      have H49 := Lib.hid (H4.out.keep HQ9.out HNB.out.2.1)
      have HRN9 := Lib.hid (HRN.out.keep HQ9.out (fun g hg => .inl hg))
      have HRO : Hid (readOk xs = (decide (stE xs = some []) && decide (kd = 20))) := Lib.hid (by rw [HKD.out]; rfl)
      obtain ⟨st, hst⟩ : ∃ x, x = stE xs := ⟨_, rfl⟩
      rw [← hst] at HR9 HRO
      clear hst
      have HI := Lib.hid (infoL8 HRN.out.1)
      by_cases h1 : st = some []
      · have HD : Hid (decide (st = some []) = true) := Lib.hid (decide_eq_true h1)
        by_cases h2 : kd = 20
        · have hb : ((kd : Int) == 20) = true := by rw [h2]; rfl
          have HF : Hid (readOk xs = true) := Lib.hid (by rw [HRO.out, HD.out, decide_eq_true h2]; rfl)
          clear h1 h2
          go_wp2_with (first
            | (go_at_call 44; refine (end_rs b st _ HR9.out).mono ?_; rintro e w10 ⟨rfl, rfl⟩; rw [HD.out])
            | (refine wl_load_blk rfl 30 (.tmp 4) rfl g4 30 vs rfl H49.out _ Tryd.underlying30 rfl HI.out ?_)
            | (refine wl_store_blk rfl 30 (.tmp 2) (.tmp 39) rfl g2 _ nil8 vs rfl rfl H29.out HI.out HRN.out.1.symm HRN.out.ones ?_
               intro w11 hA hK
               have HA11 := Lib.hid hA
               have HRW : Hid (Rows8 w11 vs L) := Lib.hid (by
                 exact (HRN9.out.keep hK (fun g hg => .inr (.inr hg))).rows)
               have HK11 : Hid (Kp0 w w11) := Lib.hid (HK9.out.trans hK (fun _ _ h => h) (fun i hi h => by have := HG2.out; omega))
               clear hA hK))
          refine ret_blk2 2 3 30 30 g2 vs _ (.int .i64 0) rfl rfl rfl HA11.out Tryd.underlying30 rfl HI.out rfl ?_
          exact ⟨vs, L, 0, rfl, HRW.out, .inl ⟨HF.out, rfl, HNM.out⟩, HK11.out⟩
        · have hb : ((kd : Int) == 20) = false := by rw [beq_eq_false_iff_ne]; omega
          have HF : Hid (readOk xs = false) := Lib.hid (by rw [HRO.out, decide_eq_false h2, Bool.and_false])
          clear h1 h2
          go_wp2_with (first
            | (go_at_call 44; refine (end_rs b st _ HR9.out).mono ?_; rintro e w10 ⟨rfl, rfl⟩; rw [HD.out])
            | (refine wl_store_blk rfl 30 (.tmp 2) (.tmp 38) rfl g2 _ nil8 nil8 rfl rfl (H29.out) (infoL8 rfl) rfl (nil_rowsN (fun _ => False) w9).ones ?_
               intro w11 hA hK
               have HA11 := Lib.hid hA
               have HK11 : Hid (Kp0 w w11) := Lib.hid (HK9.out.trans hK (fun _ _ h => h) (fun i hi h => by have := HG2.out; omega))
               clear hA hK))
          refine ret_blk2 2 3 30 30 g2 nil8 _ (.int .i64 3) rfl rfl rfl HA11.out Tryd.underlying30 rfl (infoL8 rfl) rfl ?_
          exact ⟨nil8, List.replicate 8 [], 3, rfl, (nil_rowsN (fun _ => False) w11).rows, .inr ⟨HF.out, rfl, rfl⟩, HK11.out⟩
      · have HD : Hid (decide (st = some []) = false) := Lib.hid (decide_eq_false h1)
        have HF : Hid (readOk xs = false) := Lib.hid (by rw [HRO.out, HD.out]; rfl)
        clear h1
        go_wp2_with (first
          | (go_at_call 44; refine (end_rs b st _ HR9.out).mono ?_; rintro e w10 ⟨rfl, rfl⟩; rw [HD.out])
          | (refine wl_store_blk rfl 30 (.tmp 2) (.tmp 38) rfl g2 _ nil8 nil8 rfl rfl (H29.out) (infoL8 rfl) rfl (nil_rowsN (fun _ => False) w9).ones ?_
             intro w11 hA hK
             have HA11 := Lib.hid hA
             have HK11 : Hid (Kp0 w w11) := Lib.hid (HK9.out.trans hK (fun _ _ h => h) (fun i hi h => by have := HG2.out; omega))
             clear hA hK))
        refine ret_blk2 2 3 30 30 g2 nil8 _ (.int .i64 3) rfl rfl rfl HA11.out Tryd.underlying30 rfl (infoL8 rfl) rfl ?_
        exact ⟨nil8, List.replicate 8 [], 3, rfl, (nil_rowsN (fun _ => False) w11).rows, .inr ⟨HF.out, rfl, rfl⟩, HK11.out⟩
end Go.Proofs.YtikjcmhocihmcaaDoor
namespace Go.Proofs.YtikjcmhocihmcaaDoor
open Go Go.RowKit
attribute [local irreducible] sha256 drawB
def ownCL : List UInt8 := [99, 117, 114, 118, 101, 50, 53, 53, 49, 57, 45, 115, 104, 97, 50, 53, 54]
def ownEL : List UInt8 := [115, 115, 104, 45, 101, 100, 50, 53, 53, 49, 57]
def ownAL : List UInt8 := [97, 101, 115, 49, 50, 56, 45, 99, 116, 114]
def ownML : List UInt8 := [104, 109, 97, 99, 45, 115, 104, 97, 50, 45, 50, 53, 54]
def ownNL : List UInt8 := [110, 111, 110, 101]
def ownL : List (List UInt8) := [ownCL, ownEL, ownAL, ownAL, ownML, ownML, ownNL, ownNL]
theorem lists_own (i : Nat) (h : i < 8) : lists (ownS.getD i []) = [ownL.getD i []] := by
  have e1 : ownC.toList = ownCL := by rw [ByteArray.toList_eq]; rfl
  have e2 : ownE.toList = ownEL := by rw [ByteArray.toList_eq]; rfl
  have e3 : ownA.toList = ownAL := by rw [ByteArray.toList_eq]; rfl
  have e4 : ownM.toList = ownML := by rw [ByteArray.toList_eq]; rfl
  have e5 : ownN.toList = ownNL := by rw [ByteArray.toList_eq]; rfl
  have hx : i = 0 ∨ i = 1 ∨ i = 2 ∨ i = 3 ∨ i = 4 ∨ i = 5 ∨ i = 6 ∨ i = 7 := by omega
  rcases hx with rfl | rfl | rfl | rfl | rfl | rfl | rfl | rfl
  · show [ownC.toList] = [ownCL]; rw [e1]
  · show [ownE.toList] = [ownEL]; rw [e2]
  · show [ownA.toList] = [ownAL]; rw [e3]
  · show [ownA.toList] = [ownAL]; rw [e3]
  · show [ownM.toList] = [ownML]; rw [e4]
  · show [ownM.toList] = [ownML]; rw [e4]
  · show [ownN.toList] = [ownNL]; rw [e5]
  · show [ownN.toList] = [ownNL]; rw [e5]
theorem enc_own (i : Nat) (h : i < 8) : encNames (ownS.getD i []) = encText (ownL.getD i []) := by
  unfold encNames
  rw [lists_own i h]
  simp [Lib.join]
def ownR : List UInt8 := (ownL.map encText).flatten ++ encText [] ++ encText [] ++ [0] ++ be4 0
theorem namesAll_own : namesAll ownS 8 = (ownL.map encText).flatten := by
  have h : ∀ k, k ≤ 8 → namesAll ownS k = ((ownL.take k).map encText).flatten := by
    intro k
    induction k with
    | zero => intro _; rfl
    | succ k ih =>
      intro hk
      have hl : k < ownL.length := by show k < 8; omega
      rw [namesAll_succ, ih (by omega), enc_own k (by omega), List.take_succ_eq_append_getElem hl, List.map_append, List.flatten_append, List.getD_eq_getElem?_getD, List.getElem?_eq_getElem hl]
      simp
  exact h 8 (Nat.le_refl _)
theorem initB_own (d : List UInt8) : initB ownS d = 20 :: (d.take 16 ++ ownR) := by
  unfold initB initH
  rw [namesAll_own]
  have : encNames [] = encText [] := rfl
  rw [this]
  simp [ownR]
theorem stH_own (d : List UInt8) (h : d.length = 32) : stH (initB ownS d) = some ownR := by
  unfold stH
  rw [initB_own]
  have e : (byteS (some (20 :: (d.take 16 ++ ownR)))).2 = some (d.take 16 ++ ownR) := by
    unfold byteS
    rw [show (20 : UInt8) :: (d.take 16 ++ ownR) = [20] ++ (d.take 16 ++ ownR) from rfl, takeS_app [20] _ 1 rfl]
  rw [e, takeS_app (d.take 16) ownR 16 (by rw [List.length_take, h]; rfl)]
theorem readOk_own (d : List UInt8) (h : d.length = 32) : readOk (initB ownS d) = true := by
  unfold readOk stE
  rw [stH_own d h, initB_own]
  have e : (byteS (some (20 :: (d.take 16 ++ ownR)))).1 = 20 := by
    unfold byteS
    rw [show (20 : UInt8) :: (d.take 16 ++ ownR) = [20] ++ (d.take 16 ++ ownR) from rfl, takeS_app [20] _ 1 rfl]
    rfl
  rw [e]
  have e2 : (u32S (byteS (stN (some ownR) 10)).2).2 = some [] := by kernel_rfl
  rw [e2]
  rfl
theorem nmAt_all : ((List.range 8).all fun i => nmAt (some ownR) i == [ownL.getD i []]) = true := by kernel_rfl
theorem nmAt_own (i : Nat) (h : i < 8) : nmAt (some ownR) i = [ownL.getD i []] := by
  have h2 := List.all_eq_true.1 nmAt_all i (List.mem_range.2 h)
  simpa using h2
theorem lists_inj : ∀ {a b : List ByteArray}, lists a = lists b → a = b
  | [], [], _ => rfl
  | [], _ :: _, h => by simp [lists] at h
  | _ :: _, [], h => by simp [lists] at h
  | x :: a, y :: b, h => by
    simp only [lists, List.map_cons, List.cons.injEq] at h
    rw [str_ext h.1, lists_inj (a := a) (b := b) h.2]
theorem okS_self (o : ByteArray) : okS [o] [o] [o] = true := by
  have h : hasS [o] o = true := by simp [hasS]
  have hf : firstS [o] [o] = some o := by unfold firstS; rw [List.find?_cons_of_pos h]
  rw [okS_some hf]
  simp
theorem fit_read {d : List UInt8} {en : Int} {L : List (List ByteArray)} (h : d.length = 32) (hp : readP (initB ownS d) en L) : en = 0 ∧ agreeR L ownS = 0 := by
  rcases hp with ⟨-, rfl, hn⟩ | ⟨hr, _⟩
  · refine ⟨rfl, agreeR_yes ?_⟩
    unfold agreeK
    rw [List.all_eq_true]
    intro i hi
    have hi8 : i < 8 := by simpa using hi
    have e : L.getD i [] = ownS.getD i [] := lists_inj (by rw [hn i hi8, stH_own d h, nmAt_own i hi8, lists_own i hi8])
    obtain ⟨o, ho⟩ := own_head i hi8
    rw [okK_eq, e, ho]
    exact okS_self o
  · rw [readOk_own d h] at hr
    cases hr
theorem readT_told (l : List UInt8) (h : l.length ≤ 16384) : readT (toldB l) l.length = l := by
  have e1 : textS (some (toldB l)) = (ownE.toList, some (encText l)) := by
    unfold toldB
    exact textS_enc ownE.toList (encText l) (by rw [size_toList]; decide)
  have e2 : textS (some (encText l)) = (l, some []) := by
    have := textS_enc l [] h
    rwa [List.append_nil] at this
  rw [readT_eq]
  rw [e1]
  simp only [e2, readTB]
  simp
def lineX : ByteArray := { data := #[83, 83, 72, 45, 50, 46, 48, 45, 120] }
theorem lineX_ok : lineS lineX = lineX := lineS_yes (by unfold lineOk; rw [ByteArray.toList_eq]; kernel_rfl)
theorem wideK_own : wideK ownS 8 = 90 := by kernel_rfl
theorem line_x (w : World) : Calls Tryd.prog 24 #[.string { data := #[83, 83, 72, 45, 50, 46, 48, 45, 120] }] w fun e w' => e = .returned (.string { data := #[83, 83, 72, 45, 50, 46, 48, 45, 120] }) ∧ Kp0 w w' := by
  have h := line_any lineX w
  rw [lineX_ok] at h
  exact h
def talk0 : TalkP := ⟨.empty, .empty, [], [], .empty, .empty, .empty, []⟩
set_option maxRecDepth 100000 in
set_option maxHeartbeats 8000000 in
theorem fit_any (w : World) (hq : Sqd w) (hc : Cub w) (hg : Gm w) :
    Calls Tryd.prog 9 #[] w fun e w' => e = .returned (.bool true) ∧ Kp0 w w' := by
  have HQ := Lib.hid hq
  have HC := Lib.hid hc
  have HG := Lib.hid hg
  clear hq hc hg
  obtain ⟨sd, hsd⟩ : ∃ x : ByteArray, x = { data := #[100] } := ⟨_, rfl⟩
  have HSD : Hid (sd.size ≤ 140737488351232) := Lib.hid (by rw [hsd]; decide)
  obtain ⟨d, hd⟩ : ∃ x, x = drawB sd.toList 0 := ⟨_, rfl⟩
  have HD := Lib.hid hd
  have HDL : Hid (d.length = 32) := Lib.hid (by rw [hd]; exact drawB_len _ _)
  have HWK : Hid (wideK ownS 8 ≤ 100000000) := Lib.hid (by rw [wideK_own]; decide)
  clear hd
  go_enter Tryd.func9, Tryd.ntmps9
  rw [← hsd]
  clear hsd
  go_upto_region 2 with (first
    | (go_at_call 31; refine (own_any _).mono ?_; rintro e w1 ⟨vo, rfl, hro, hk⟩; have HO := Lib.hid hro; have HK1 := Lib.hid hk; clear hro hk)
    | (go_at_call 11; refine (init_any vo ownS sd _ (HQ.out.kp0 HK1.out) (HC.out.kp0 HK1.out) HO.out HSD.out HWK.out).mono ?_; rw [← HD.out]; rintro e w2 ⟨vi, rfl, hri, hk⟩; have HI2 := Lib.hid hri; have HK2 := Lib.hid (HK1.out.tr hk); clear hri hk HK1)
    | (go_at_call 13; refine (readInit_any vi (initB ownS d) _ (HG.out.keep HK2.out (fun h => h)) HI2.out.rd).mono ?_; rintro e w3 ⟨vs, L, en, rfl, hrs, hp, hk⟩; obtain ⟨rfl, hag⟩ := fit_read HDL.out hp; have HAG := Lib.hid hag; have HR3 := Lib.hid hrs; have HK3 := Lib.hid (HK2.out.tr hk); clear hrs hk hp hag HK2)
    | (refine wl_alloc_as asL8 rfl rfl ?_
       intro w4 g1 hw hg1
       have HB4 : Hid (Bks w w4 [(g1, 30, nil8)]) := Lib.hid (by rw [hw]; exact ((Bks.nil w).kp0 HK3.out).push 30 nil8 hg1)
       have HR4 : Hid (Rows8 w4 vs L) := Lib.hid (by rw [hw]; exact HR3.out.kp0 ((Kp.refl _ _).alloc _))
       have HK34 : Hid (Kp0 w3 w4) := Lib.hid (by rw [hw]; exact (Kp.refl _ _).alloc _)
       have HG1 : Hid (g1 = w3.heap.size) := Lib.hid hg1
       clear hw hg1)
    | (refine wl_store_blk rfl 30 (.tmp 1) (.tmp 7) rfl g1 _ nil8 vs rfl rfl (HB4.out.at 0 rfl) (infoL8 HR4.out.1) HR4.out.1.symm HR4.out.ones ?_
       intro w5 hA hK
       have HB5 := Lib.hid (HB4.out.store 0 rfl hA hK)
       have HR5 : Hid (Rows8 w5 vs L) := Lib.hid (HR3.out.kp0 (HK34.out.trans hK (fun _ _ h => h) (fun i hi h => by have := HG1.out; omega)))
       clear hA hK))
  have HI := Lib.hid (infoL8 HR5.out.1)
  have HKD := Lib.hid (HB5.out.drew)
  have HRD : Hid (Rows8 w5.drew vs L) := Lib.hid (HR5.out.kp0 (Kp.refl _ _).drew)
  refine wp_region_px 25 [] (fun w' : World => Kp0 w5.drew w') (.quiet 0 (.quiet 1 (.quiet 2 (.quiet 3 (.eff 4 (.eff 5 (.quiet 6 (.quiet 7 (.quiet 8 (.quiet 9 (.eff 10 (.quiet 11 (.quiet 12 (.quiet 13 (.quiet 14 (.eff 15 (.quiet 16 (.quiet 17 (.quiet 18 (.eff 19 (.quiet 20 (.eff 21 (.eff 22 (.quiet 23 (.quiet 24 (.quiet 25 .done)))))))))))))))))))))))))) (by kernel_rfl) (by kernel_rfl) (by kernel_rfl) (by kernel_rfl) (fun _ d _ _ _ h => by cases d <;> exact h) (Kp.refl _ _) ?_
  generalize w5.drew = wd at HKD HRD ⊢
  iterate 3 (refine px_quiet (v := ?_) rfl (by rfl) (fun wq hwq => ?_) rfl ?_; rotate_left 1; (focus (clear hwq; go_simp; with_reducible rfl)); try simp only [List.setIfInBounds_toArray, List.set_cons_zero, List.set_cons_succ])
  refine px_quiet (v := ?_) rfl (by rfl) (fun wq hwq => ?_) rfl ?_
  rotate_left 1
  · refine run_load_blk 30 (.tmp 1) ?_ g1 30 vs ?_ ((HKD.out.at 0 rfl).kp0 hwq) _ Tryd.underlying30 rfl HI.out <;> rfl
  try simp only [List.setIfInBounds_toArray, List.set_cons_zero, List.set_cons_succ]
  refine px_eff rfl (by rfl) (fun K hK => ?_)
  go_simp
  refine (own_any _).mono ?_
  rintro e w6 ⟨vo2, rfl, hro, hk6⟩
  have HO6 := Lib.hid hro
  have HK6 := Lib.hid hk6
  simp only []
  refine hK (fun w' : World => Kp0 w6 w') _ _ (fun x hx => hk6.tr hx) (Kp.refl _ _) ?_
  clear hK K hk6 hro
  refine px_eff rfl (by rfl) (fun K hK => ?_)
  go_simp
  refine (agree_any vs vo2 L ownS _ (HRD.out.kp0 HK6.out) HO6.out).mono ?_
  rw [HAG.out]
  rintro e w7 ⟨rfl, hk7⟩
  have HK7 := Lib.hid (HK6.out.tr hk7)
  simp only []
  refine hK (fun w' : World => Kp0 w7 w') _ _ (fun x hx => hk7.tr hx) (Kp.refl _ _) ?_
  clear hK K hk7
  iterate 4 (refine px_quiet (v := ?_) rfl (by rfl) (fun wq hwq => ?_) rfl ?_; rotate_left 1; (focus (clear hwq; go_simp; with_reducible rfl)); try simp only [List.setIfInBounds_toArray, List.set_cons_zero, List.set_cons_succ])
  have HKW7 := Lib.hid (HB5.out.kp.tr ((Kp.refl _ w5).drew))
  refine px_eff rfl (by rfl) (fun K hK => ?_)
  go_simp
  refine (hash_any talk0 (.slice none 0 0) (.slice none 0 0) (.slice none 0 0) _ (HQ.out.kp0 (HKD.out.kp.tr HK7.out)) (HC.out.kp0 (HKD.out.kp.tr HK7.out)) ⟨Rd.nil _, Rd.nil _, Rd.nil _⟩ (by decide)).mono ?_
  rintro e w8 ⟨g8, rfl, -, -, hk8⟩
  have HK8 := Lib.hid (HK7.out.tr hk8)
  simp only []
  refine hK (fun w' : World => Kp0 w8 w') _ _ (fun x hx => hk8.tr hx) (Kp.refl _ _) ?_
  clear hK K hk8
  iterate 4 (refine px_quiet (v := ?_) rfl (by rfl) (fun wq hwq => ?_) rfl ?_; rotate_left 1; (focus (clear hwq; go_simp; with_reducible rfl)); try simp only [List.setIfInBounds_toArray, List.set_cons_zero, List.set_cons_succ])
  refine px_eff rfl (by rfl) (fun K hK => ?_)
  go_simp
  refine (line_x _).mono ?_
  rintro e w9 ⟨rfl, hk9⟩
  have HK9 := Lib.hid (HK8.out.tr hk9)
  simp only []
  refine hK (fun w' : World => Kp0 w9 w') _ _ (fun x hx => hk9.tr hx) (Kp.refl _ _) ?_
  clear hK K hk9
  iterate 3 (refine px_quiet (v := ?_) rfl (by rfl) (fun wq hwq => ?_) rfl ?_; rotate_left 1; (focus (clear hwq; go_simp; with_reducible rfl)); try simp only [List.setIfInBounds_toArray, List.set_cons_zero, List.set_cons_succ])
  have hmk : ∀ u : World, (Instr.makeSlice 24 (.int .i64 32) (.int .i64 32)).run Tryd.prog u = .ok (.slice (some ⟨u.heap.size, 0, none⟩) 32 32) (u.alloc (.cells (bys (zs 32)).toArray 5)) := fun u => mkB 32 (by decide) u
  refine px_eff rfl (by rfl) (fun K hK => ?_)
  go_simp
  refine hK (fun w' : World => Kp0 (w9.alloc (.cells (bys (zs 32)).toArray 5)) w') _ _ (fun x hx => ((Kp.refl _ w9).alloc _).tr hx) (Kp.refl _ _) ?_
  clear hK K hmk
  have hb10 := blk0 w9 5 (bys (zs 32))
  have HK10 := Lib.hid (HK9.out.alloc (.cells (bys (zs 32)).toArray 5))
  obtain ⟨g10, hg10⟩ : ∃ x, x = w9.heap.size := ⟨_, rfl⟩
  rw [← hg10] at hb10 ⊢
  clear hg10
  generalize w9.alloc (.cells (bys (zs 32)).toArray 5) = w10 at HK10 hb10 ⊢
  have HB10 := Lib.hid hb10
  clear hb10
  obtain ⟨z, hz⟩ : ∃ z : ByteArray, z = ⟨(zs 32).toArray⟩ := ⟨_, rfl⟩
  have HZL : Hid (z.toList = zs 32) := Lib.hid (by rw [hz]; exact ByteArray.toList_mk _)
  have HZS : Hid (z.size = 32) := Lib.hid (by rw [← size_toList, HZL.out]; rfl)
  have hcv : ∀ w' : World, Kp0 w10 w' → (convert 24 9 (.slice (some ⟨g10, 0, none⟩) 32 32)).run Tryd.prog w' = .ok (.string z) w' := fun w' hw => by
    rw [hz]
    exact run_string_of 24 5 9 Tryd.underlying24 Tryd.underlying5 Tryd.underlying9 (rd_blk (HB10.out.kp0 hw) rfl)
  clear hz
  refine px_quiet (v := ?_) rfl (by rfl) (fun wq hwq => ?_) rfl ?_
  rotate_left 1
  · have hq := hcv _ hwq
    go_simp
    with_reducible rfl
  try simp only [List.setIfInBounds_toArray, List.set_cons_zero, List.set_cons_succ]
  clear hcv
  refine px_eff rfl (by rfl) (fun K hK => ?_)
  go_simp
  refine (blob_any z _ (by rw [HZS.out]; decide)).mono ?_
  rintro e w11 ⟨t1, rfl, ht1, hk11⟩
  have HT1 := Lib.hid ht1
  have HT1S : Hid (t1.size ≤ 140737488351232) := Lib.hid (by rw [← size_toList, ht1]; unfold toldB; rw [List.length_append, encText_len, encText_len, size_toList, size_toList, HZS.out]; decide)
  have HK11 := Lib.hid (HK10.out.tr hk11)
  simp only []
  refine hK (fun w' : World => Kp0 w11 w') _ _ (fun x hx => hk11.tr hx) (Kp.refl _ _) ?_
  clear hK K hk11 ht1
  refine px_eff rfl (by rfl) (fun K hK => ?_)
  go_simp
  refine (readBlob_any t1 _ HT1S.out).mono ?_
  rintro e w12 ⟨t2, rfl, ht2, hk12⟩
  have hne : (t2.toList == []) = false := by
    have h32 : (zs 32).length = 32 := rfl
    have h := readT_told (zs 32) (by rw [h32]; decide)
    rw [h32] at h
    rw [ht2, HT1.out, HZL.out, h]
    rfl
  have HK12 := Lib.hid (HK11.out.tr hk12)
  simp only []
  refine hK (fun w' : World => Kp0 w12 w') _ _ (fun x hx => hk12.tr hx) (Kp.refl _ _) ?_
  clear hK K hk12 ht2
  iterate 3 (refine px_quiet (v := ?_) rfl (by rfl) (fun wq hwq => ?_) rfl ?_; rotate_left 1; (focus (clear hwq; go_simp; with_reducible rfl)); try simp only [List.setIfInBounds_toArray, List.set_cons_zero, List.set_cons_succ])
  refine px_done ?_
  go_wp2
  go_ret
  exact ⟨rfl, HKD.out.kp.tr HK12.out⟩
end Go.Proofs.YtikjcmhocihmcaaDoor
namespace Go.Proofs.YtikjcmhocihmcaaDoor
open Go Go.RowKit
theorem okWide_arr {P : Program} {w : World} {r : Reach} {b0 : Nat} {t : TypeId} {v : Value} (hu : ∃ n e, P.underlying t = some (.array n e)) (hval : Value.okWide P w r b0 t v) : ∃ cs, v = .agg cs := by
  obtain ⟨n, e, hu⟩ := hu
  simp only [Value.okWide, hu] at hval
  obtain ⟨cs, rfl, _⟩ := hval
  exact ⟨cs, rfl⟩
theorem okWide_str {P : Program} {w : World} {r : Reach} {b0 : Nat} {t : TypeId} {v : Value} (hu : ∃ fs, P.underlying t = some (.struct fs)) (hval : Value.okWide P w r b0 t v) : ∃ cs, v = .agg cs := by
  obtain ⟨fs, hu⟩ := hu
  simp only [Value.okWide, hu] at hval
  obtain ⟨cs, rfl, _⟩ := hval
  exact ⟨cs, rfl⟩
section
variable {H : Type} {enc : TypeId × Value → H} {P : Program} {w : World} {base : Nat} {held : Bool}
theorem came_scell {s e : TypeId} {fuel : Nat} {c : Value} {x : DataW H × List MemPlace} (hs : P.underlying s = some (.slice e)) (he : P.underlying e = some .string) (ce : P.cellsOf e = 1)
    (h : DataW.trod enc P w base (fun _ => true) held fuel s [c] = some x) (hz : ∀ n ∈ x.1.weights P s, n ≤ reachBytes) : ∃ l : List ByteArray, Rd w c (strs l) ∧ ∀ y ∈ l, y.size ≤ 140737488351232 := by
  have key : ∀ a len cap, c = .slice a len cap → ∃ l : List ByteArray, Rd w c (strs l) ∧ ∀ y ∈ l, y.size ≤ 140737488351232 := by
    intro a len cap e1
    subst e1
    obtain ⟨l, _, h2, h3⟩ := came_strs (P := P) (d := x.1) (ps := x.2) hs he ce ⟨fuel, h⟩ hz
    exact ⟨l, h3, h2⟩
  rcases DataW.trod_slice hs h with ⟨h0, _⟩ | ⟨ad, len', cap', elems, rest, n, _, hcs, _⟩
  · exact key none 0 0 (by simpa using h0)
  · exact key (some ad) len' cap' (by simpa using hcs)
theorem weights_all {s : TypeId} : ∀ (A : List (DataW H)) (y : DataW H), y ∈ A → ∀ m ∈ y.weights P s, m ∈ DataW.weightsAll P s A
  | [], y, h, _, _ => by cases h
  | z :: A, y, h, m, hm => by
    simp only [DataW.weightsAll, List.mem_append]
    rcases List.mem_cons.1 h with rfl | h
    · exact .inl hm
    · exact .inr (weights_all A y h m hm)
theorem came_rows8 {t s e : TypeId} {v : Value} {d : DataW H} {ps : List MemPlace} (ht : P.underlying t = some (.array 8 s)) (hs : P.underlying s = some (.slice e)) (he : P.underlying e = some .string) (c8 : P.cellsOf t = 8) (c1 : P.cellsOf s = 1) (ce : P.cellsOf e = 1)
    (hv : ∃ cs, v = .agg cs) (h : DataW.Trod enc P w base (fun _ => true) held t v d ps) (hz : ∀ n ∈ d.weights P t, n ≤ reachBytes) :
    ∃ (vs : List Value) (ls : List (List ByteArray)), v = .agg vs.toArray ∧ Rows8 w vs ls ∧ ∀ l ∈ ls, ∀ x ∈ l, x.size ≤ 140737488351232 := by
  obtain ⟨cs, rfl⟩ := hv
  obtain ⟨k, hk⟩ := h
  obtain ⟨xs, k1, rfl, hx0, hl, hxl, hx⟩ := DataW.trod_array ht hk
  simp only [Prod.mk.injEq] at hx0
  obtain ⟨rfl, _⟩ := hx0
  rw [c8] at hl
  simp only [Value.cells] at hl hx
  have each : ∀ i, (hi : i < 8) → ∃ l : List ByteArray, Rd w (cs.toList.getD i undef) (strs l) ∧ ∀ y ∈ l, y.size ≤ 140737488351232 := by
    intro i hi
    have h1 := hx i hi
    have hi2 : i < cs.toList.length := by omega
    rw [c1, Nat.mul_one, List.getElem?_eq_getElem (show i < xs.length by omega), List.drop_eq_getElem_cons hi2] at h1
    simp only [List.take_succ_cons, List.take_zero] at h1
    rw [List.getD_eq_getElem?_getD, List.getElem?_eq_getElem hi2, Option.getD_some]
    refine came_scell hs he ce h1 (fun n hn => hz n ?_)
    simp only [DataW.weights, ht]
    exact weights_all _ _ (List.mem_map.2 ⟨_, List.getElem_mem _, rfl⟩) n hn
  refine ⟨cs.toList, (List.range 8).map (fun i => if h : i < 8 then (each i h).choose else []), rfl, ⟨hl, by simp, fun i v hv => ?_⟩, fun l hl2 x hx2 => ?_⟩
  · have hi : i < 8 := by have := (List.getElem?_eq_some_iff.1 hv).1; omega
    have e1 : cs.toList.getD i undef = v := by rw [List.getD_eq_getElem?_getD, hv, Option.getD_some]
    have e2 : ((List.range 8).map (fun i => if h : i < 8 then (each i h).choose else [])).getD i [] = (each i hi).choose := by
      rw [List.getD_eq_getElem?_getD, List.getElem?_map, List.getElem?_range hi, Option.map_some, Option.getD_some, dif_pos hi]
    rw [e2, ← e1]
    exact (each i hi).choose_spec.1
  · obtain ⟨i, hi, rfl⟩ := List.mem_map.1 hl2
    have hi8 : i < 8 := List.mem_range.1 hi
    rw [dif_pos hi8] at hx2
    exact (each i hi8).choose_spec.2 x hx2
end
def sqI : List Int := sqR.map Int.ofNat
def cuI : List Int := cubR.map Int.ofNat
theorem sq_eq : w64 K64.h0 = kis .u64 sqI := by kernel_rfl
theorem cu_eq : w64 K64.ks = kis .u64 cuI := by kernel_rfl
theorem range_of_tab {W : World} {name : String} {zs : List Int} {g : Nat} (h : Lib.TabIs Tryd.prog W name .u64 zs) (hg : Tryd.prog.globalNamed name = some g) : W.rangeAt g 0 (kis .u64 zs) := by
  intro j v hv
  have hj : j < zs.length := by have := (List.getElem?_eq_some_iff.1 hv).1; rwa [kis_len] at this
  have := h.cell (g := g) hg j hj
  rw [Nat.zero_add, this, ← hv]
  simp only [kis, List.getElem?_map, List.getElem?_eq_getElem hj, Option.map_some, List.getD_eq_getElem?_getD, Option.getD_some]
def laids : List (String × DataW Unit) := [("tabulary/digest.squareRoots", Rows.laid_tabulary_digest_squareRoots), ("tabulary/digest.cubeRoots", Rows.laid_tabulary_digest_cubeRoots), ("unicode/utf8.acceptRanges", Rows.laid_unicode_utf8_acceptRanges), ("unicode/utf8.first", Rows.laid_unicode_utf8_first)]
theorem tab_of_laid {W : World} (h : laidMetH Tryd.prog laids W) : Sqd W ∧ Cub W := by
  rw [MakeChecks.laidMetH_plain _ _ _ rfl] at h
  obtain ⟨ps, hl, _, _⟩ := h
  obtain ⟨g1, t1, cs1, f1, p1, q1, hg1, ht1, hv1, hd1, hl, _⟩ := hl
  obtain ⟨g2, t2, cs2, f2, p2, q2, hg2, ht2, hv2, hd2, hl, _⟩ := hl
  obtain rfl : 111 = t1 := Option.some.inj ((show (Tryd.prog.globals[0]?).map (·.type) = some 111 by kernel_rfl).symm.trans (by
    rw [← ht1]
    obtain rfl := Option.some.inj ((show Tryd.prog.globalNamed "tabulary/digest.squareRoots" = some 0 by kernel_rfl).symm.trans hg1)
    rfl))
  obtain rfl : 113 = t2 := Option.some.inj ((show (Tryd.prog.globals[1]?).map (·.type) = some 113 by kernel_rfl).symm.trans (by
    rw [← ht2]
    obtain rfl := Option.some.inj ((show Tryd.prog.globalNamed "tabulary/digest.cubeRoots" = some 1 by kernel_rfl).symm.trans hg2)
    rfl))
  have hd1' : DataW.trod (fun _ => ()) Tryd.prog W 0 (fun _ => true) false f1 111 cs1.toList = some (Lib.tabData .u64 sqI, p1) := by rw [hd1]; congr 2
  have hd2' : DataW.trod (fun _ => ()) Tryd.prog W 0 (fun _ => true) false f2 113 cs2.toList = some (Lib.tabData .u64 cuI, p2) := by rw [hd2]; congr 2
  have t1 : Lib.TabIs Tryd.prog W "tabulary/digest.squareRoots" .u64 sqI := by
    unfold Lib.TabIs
    rw [hv1, ← Lib.cells_of_tab Tryd.underlying111 Tryd.underlying63 (by kernel_rfl) (by kernel_rfl) hd1']
  have t2 : Lib.TabIs Tryd.prog W "tabulary/digest.cubeRoots" .u64 cuI := by
    unfold Lib.TabIs
    rw [hv2, ← Lib.cells_of_tab Tryd.underlying113 Tryd.underlying63 (by kernel_rfl) (by kernel_rfl) hd2']
  have s1 : Sqd W := by unfold Sqd; rw [sq_eq]; exact range_of_tab t1 (by kernel_rfl)
  have s2 : Cub W := by unfold Cub; rw [cu_eq]; exact range_of_tab t2 (by kernel_rfl)
  exact ⟨s1, s2⟩
end Go.Proofs.YtikjcmhocihmcaaDoor
