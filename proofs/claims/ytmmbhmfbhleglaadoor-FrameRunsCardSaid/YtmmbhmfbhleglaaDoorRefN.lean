/- The document's decoder. -/
import Derived.Test.YtmmbhmfbhleglaaDoorRefE
import Derived.Test.YtmmbhmfbhleglaaDoorFSc
import Derived.Deep.QuietTactic
import Derived.BigQuiet
namespace Go.Proofs.YtmmbhmfbhleglaaDoor
open Go Go.RowKit
def Rf (w : World) (c : Nat) (s : St) : Prop :=
  if s.ov then ∃ x b m y, Blk w c 29 [.bool x, .string b, .string m, .bool y, .bool true]
  else ∃ b m, Blk w c 29 [.bool s.ch, .string b, .string m, .bool (!s.M.isEmpty), .bool false] ∧ b.toList = s.W ∧ m.toList = s.M
theorem rf_over {w : World} {c : Nat} {x y : Bool} {b m : ByteArray} {s : St} (h : Blk w c 29 [.bool x, .string b, .string m, .bool y, .bool true]) (hs : s.ov = true) : Rf w c s := by
  unfold Rf
  rw [if_pos hs]
  exact ⟨x, b, m, y, h⟩
theorem rf_live {w : World} {c : Nat} {b m : ByteArray} {W M : List UInt8} {ch : Bool} (h : Blk w c 29 [.bool ch, .string b, .string m, .bool (!M.isEmpty), .bool false]) (hb : b.toList = W) (hm : m.toList = M) : Rf w c ⟨W, M, ch, false⟩ := by
  unfold Rf
  rw [if_neg (by simp)]
  exact ⟨b, m, h, hb, hm⟩
/- The first place of the end. -/
theorem occ_eq {s x : ByteArray} {i : Nat} (hx : 0 < x.size) (h : i + x.size ≤ s.size) : Lib.occAt s.toList x.toList i = ((s.extract i (i + x.size)).toList == x.toList) := by
  have hl : x.toList.length = x.size := size_toList x
  unfold Lib.occAt
  rw [extract_toList, Nat.add_sub_cancel_left, Bool.eq_iff_iff, List.isPrefixOf_iff_prefix, beq_iff_eq]
  constructor
  · rintro ⟨t, ht⟩
    rw [← ht, ← hl, List.take_left]
  · intro h2
    rw [← h2]
    exact List.take_prefix _ _
set_option maxRecDepth 20000 in
set_option maxHeartbeats 1000000 in
theorem find_any (s x : ByteArray) (w : World) (hs : s.size ≤ 1000000) (hx : 0 < x.size) (hx2 : x.size ≤ 100) : Calls Tryd.prog 13 #[.string s, .string x] w fun e w' => e = .returned (.int .i64 (Lib.index s.toList x.toList)) ∧ w = w' := by
  have hsi : (s.size : Int) ≤ 1000000 := by omega
  have hxi : (x.size : Int) ≤ 100 := by omega
  have HX := Lib.hid hx
  obtain ⟨r, hr⟩ : ∃ r, r = Lib.index s.toList x.toList := ⟨_, rfl⟩
  have HR := Lib.hid hr
  rw [← hr]
  clear hr hx hs hx2
  go_enter Tryd.func13, Tryd.ntmps13
  go_wp2
  go_loopg [5] (s.size + 1) (fun gg i wr => ∃ k : Nat, i = .int .i64 k ∧ gg = s.size + 1 - k ∧ k ≤ s.size ∧ Hid (Lib.NoOcc s.toList x.toList k) ∧ wr = w)
  case atStart => exact ⟨0, rfl, rfl, Nat.zero_le _, Lib.hid (Lib.NoOcc.zero _ _), rfl⟩
  case round =>
    obtain ⟨k, rfl, rfl, hk, HN, rfl⟩ := hrel
    have hki : (k : Int) ≤ s.size := by omega
    by_cases hlt : k + x.size ≤ s.size
    · have hlti : ¬ (s.size : Int) < (k : Int) + x.size := by omega
      have ho := occ_eq HX.out hlt
      obtain ⟨kx, hkx⟩ : ∃ kx, kx = k + x.size := ⟨_, rfl⟩
      have hkxi : (k : Int) + (x.size : Int) = (kx : Int) := by omega
      have hkx2 : (kx : Int) ≤ s.size := by omega
      have hkx3 : (k : Int) ≤ kx := by omega
      rw [← hkx] at ho
      have HKX := Lib.hid hkx
      clear hkx hlti hlt
      cases hc : Lib.occAt s.toList x.toList k with
      | true =>
        rw [hc] at ho
        have hb := ho.symm
        have HI : Hid (r = (k : Int)) := Lib.hid (by rw [HR.out]; exact Lib.index_hit HN.out (by rw [size_toList]; omega) hc)
        clear ho hc HN hk
        go_wp2
        all_goals go_ret
        all_goals exact ⟨by rw [HI.out]; rfl, rfl⟩
      | false =>
        rw [hc] at ho
        have hb := ho.symm
        have HN2 := Lib.hid (HN.out.succ hc)
        have hks : (k : Int) + 1 ≤ s.size := by have := HX.out; have := HKX.out; omega
        clear ho hc HN hk
        go_wp2
        go_roundg (s.size + 1 - (k + 1))
        case measure => omega
        case rel => exact ⟨k + 1, by go_num, rfl, by omega, HN2.out, rfl⟩
    · have hlti : (s.size : Int) < (k : Int) + x.size := by omega
      have HI : Hid (r = -1) := Lib.hid (by rw [HR.out]; exact Lib.index_past (by intro h; have := size_toList x; rw [h] at this; simp at this; have := HX.out; omega) HN.out (by rw [size_toList, size_toList]; omega))
      clear HN hk hlt
      go_wp2
      all_goals go_ret
      all_goals exact ⟨by rw [HI.out]; rfl, rfl⟩
def DiesPost (c : Nat) (x y : Bool) (b m : ByteArray) (e : Int) (w : World) (en : Ending) (w' : World) : Prop :=
  en = .returned (.tuple #[.string { data := #[] }, .int .i64 e]) ∧ Blk w' c 29 [.bool x, .string b, .string m, .bool y, .bool true] ∧ Kp (fun g => g = c) w w'
theorem dies_any (c : Nat) (x y z : Bool) (b m : ByteArray) (e : Int) (w : World) (h : Blk w c 29 [.bool x, .string b, .string m, .bool y, .bool z]) :
    Calls Tryd.prog 14 #[.pointer (some ⟨c, 0, none⟩), .int .i64 e] w (DiesPost c x y b m e w) := by
  have H := Lib.hid h
  have hc := h.cellV 4 rfl
  have hf := blk_frozen h 4
  clear h
  go_enter Tryd.func14, Tryd.ntmps14
  go_wp2
  go_ret2
  exact ⟨rfl, H.out.set' 4 (.bool true), (Kp.refl (fun g => g = c) w).setCell (p := ⟨c, 4, none⟩) (fun _ => rfl) _⟩
theorem occ_take {W sub : List UInt8} {n j : Nat} (h : Lib.occAt (W.take n) sub j = true) : Lib.occAt W sub j = true := by
  unfold Lib.occAt at h ⊢
  rw [List.isPrefixOf_iff_prefix] at h ⊢
  rw [List.drop_take] at h
  exact h.trans (List.take_prefix _ _)
theorem index_take_none {W : List UInt8} {n : Nat} (h : ∀ j, j + 6 ≤ n → Lib.occAt W endM j = false) : Lib.index (W.take n) endM = -1 := by
  rcases Lib.index_spec (W.take n) endM with ⟨h1, _⟩ | ⟨i, hi, hl, ho, _⟩
  · exact h1
  · exfalso
    have h6 : i + 6 ≤ n := by
      have := Lib.index_room (W.take n) endM (by omega)
      rw [hi, List.length_take] at this
      have h7 : endM.length = 6 := rfl
      omega
    have := occ_take ho
    rw [h i h6] at this
    cases this
theorem cut_ref (W M : List UInt8) : (∃ i : Nat, Lib.index W endM = i ∧ i ≤ 16384 ∧ i + 6 ≤ W.length ∧ cutS W M = (W.take i, 0, W.drop (i + 6), M)) ∨ (∃ i : Nat, Lib.index W endM = i ∧ 16384 < i ∧ cutS W M = ([], 2, W, M)) ∨
    (Lib.index W endM = -1 ∧ 16390 ≤ W.length ∧ cutS W M = ([], 2, W, M)) ∨ (Lib.index W endM = -1 ∧ W.length < 16390 ∧ cutS W M = ([], 4, W, M)) := by
  rcases Lib.index_spec W endM with ⟨h1, h2⟩ | ⟨i, hi, hl, ho, hn⟩
  · have ht : Lib.index (W.take 16390) endM = -1 := index_take_none (fun j _ => by
      by_cases hj : j ≤ W.length
      · exact h2 j hj
      · unfold Lib.occAt
        rw [List.drop_of_length_le (by omega)]
        rfl)
    by_cases hb : 16390 ≤ W.length
    · exact .inr (.inr (.inl ⟨h1, hb, by unfold cutS; rw [ht, if_neg (by decide), if_pos hb]⟩))
    · exact .inr (.inr (.inr ⟨h1, by omega, by unfold cutS; rw [ht, if_neg (by decide), if_neg hb]⟩))
  · have hroom : i + 6 ≤ W.length := by
      have := Lib.index_room W endM (by omega)
      rw [hi] at this
      have h7 : endM.length = 6 := rfl
      omega
    by_cases hb : i ≤ 16384
    · have ht : Lib.index (W.take 16390) endM = i := by
        refine Lib.index_hit (fun j hj => ?_) (by rw [List.length_take]; omega) ?_
        · cases hc : Lib.occAt (W.take 16390) endM j with
          | false => rfl
          | true => have := occ_take hc; rw [hn j hj] at this; cases this
        · unfold Lib.occAt at ho ⊢
          rw [List.isPrefixOf_iff_prefix] at ho ⊢
          obtain ⟨t, ht⟩ := ho
          rw [List.drop_take, ← ht, List.take_append, List.take_of_length_le (l := endM) (by show 6 ≤ _; omega)]
          exact ⟨_, rfl⟩
      refine .inl ⟨i, hi, hb, hroom, ?_⟩
      unfold cutS
      rw [ht, if_pos (by omega), Int.toNat_natCast]
    · have ht : Lib.index (W.take 16390) endM = -1 := index_take_none (fun j hj => hn j (by omega))
      refine .inr (.inl ⟨i, hi, by omega, ?_⟩)
      unfold cutS
      rw [ht, if_neg (by decide), if_pos (by omega)]
end Go.Proofs.YtmmbhmfbhleglaaDoor
