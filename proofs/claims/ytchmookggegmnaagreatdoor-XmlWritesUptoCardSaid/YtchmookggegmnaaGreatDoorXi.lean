/- The reference's texts. The reference's Text. The law of layer 13: how many elements there are. The law of layer 13: elements are written. An element that came in. An element that came in as an argument, and the law XmlWrites for it, where what came in is of bulk at most 1048576. -/
import Derived.Test.YtchmookggegmnaaGreatDoorXf
import Derived.Test.YtchmookggegmnaaGreatDoorRows
import Derived.ChangeArms
namespace Go.Proofs.YtchmookggegmnaaGreatDoor
open Go Go.RowKit
theorem spaces_all (s : List UInt8) : spaces s = s.all (· == 32) := by
  unfold spaces Lib.trimS Lib.trimLeftS Lib.trimRightS
  have hp : (fun x : UInt8 => ([32] : List UInt8).contains x) = (· == 32) := by
    funext x
    by_cases h : x = 32
    · subst h; rfl
    · simp [h]
  rw [hp]
  cases h : s.all (· == 32) with
  | true =>
    have h1 : s.reverse.dropWhile (· == 32) = [] := by
      have h0 : ∀ l : List UInt8, l.all (· == 32) = true → l.dropWhile (· == 32) = [] := by
        intro l
        induction l with
        | nil => intro _; rfl
        | cons a l ih =>
          intro hl
          rw [List.all_cons, Bool.and_eq_true] at hl
          have e : (a :: l).dropWhile (· == 32) = l.dropWhile (· == 32) := List.dropWhile_cons_of_pos (p := (· == 32)) hl.1
          rw [e]
          exact ih hl.2
      exact h0 _ (by rw [List.all_reverse]; exact h)
    rw [h1]
    rfl
  | false =>
    obtain ⟨x, hx, hne⟩ := List.all_eq_false.1 h
    have hx2 : x ∈ s.reverse.dropWhile (· == 32) := by
      have h2 := List.takeWhile_append_dropWhile (p := (· == 32)) (l := s.reverse)
      have h3 : x ∈ s.reverse.takeWhile (· == 32) ++ s.reverse.dropWhile (· == 32) := by rw [h2]; exact List.mem_reverse.2 hx
      rcases List.mem_append.1 h3 with h4 | h4
      · exact absurd (List.all_eq_true.1 List.all_takeWhile x h4) hne
      · exact h4
    have hx3 : x ∈ (s.reverse.dropWhile (· == 32)).reverse.dropWhile (· == 32) := by
      have h2 := List.takeWhile_append_dropWhile (p := (· == 32)) (l := (s.reverse.dropWhile (· == 32)).reverse)
      have h3 : x ∈ (s.reverse.dropWhile (· == 32)).reverse.takeWhile (· == 32) ++ (s.reverse.dropWhile (· == 32)).reverse.dropWhile (· == 32) := by rw [h2]; exact List.mem_reverse.2 hx2
      rcases List.mem_append.1 h3 with h4 | h4
      · exact absurd (List.all_eq_true.1 List.all_takeWhile x h4) hne
      · exact h4
    cases hd : (s.reverse.dropWhile (· == 32)).reverse.dropWhile (· == 32) with
    | nil => rw [hd] at hx3; cases hx3
    | cons a l => rfl
theorem extract_one (s : List UInt8) (k : Nat) (h : k < s.length) : (S s).extract k (k + 1) = S [s[k]] := by
  apply str_ext
  rw [S_toList, extract_toList, S_toList, List.drop_eq_getElem_cons h, show k + 1 - k = 1 by omega]
  rfl
set_option maxRecDepth 20000 in
set_option maxHeartbeats 8000000 in
theorem plain_any (s : List UInt8) (w : World) (hs : s.length ≤ 100000000) : Calls Tryz.prog 24 #[.string (S s)] w fun e w' => e = .returned (.string (S (escX s))) ∧ w = w' := by
  obtain ⟨n, hn⟩ : ∃ n, n = s.length := ⟨_, rfl⟩
  have hsz : (S s).size = n := by rw [S_size, hn]
  have hni : (n : Int) ≤ 100000000 := by omega
  have HNL := Lib.hid hn
  obtain ⟨sp, hsp⟩ : ∃ b, b = spaces s := ⟨_, rfl⟩
  have HSP : Hid (sp = s.all (· == 32)) := Lib.hid (by rw [hsp, spaces_all])
  have HE : Hid (escX s = escs sp s) := Lib.hid (by rw [hsp]; rfl)
  rw [HE.out]
  clear hs hn hsp
  go_enter Tryz.func24, Tryz.ntmps24
  go_wp2
  go_loopg [3, 4] n (fun gg o i wr => ∃ (k : Nat), o = .bool ((s.take k).all (· == 32)) ∧ i = .int .i64 k ∧ k ≤ n ∧ gg = n - k ∧ w = wr)
  case atStart => exact ⟨0, by simp, rfl, Nat.zero_le _, rfl, rfl⟩
  case round =>
    obtain ⟨k, rfl, rfl, hk, rfl, rfl⟩ := hrel
    by_cases hlt : k < n
    · have hlt' : k < s.length := by rw [← HNL.out]; exact hlt
      have hki : (k : Int) < n := by omega
      have HST : Hid ((s.take (k + 1)).all (· == 32) = ((s.take k).all (· == 32) && s[k] == 32)) := Lib.hid (by rw [List.take_succ_eq_append_getElem hlt', List.all_append]; simp)
      have hgx := S_get s k (by rw [hsz]; exact hlt) hlt'
      obtain ⟨o, ho⟩ : ∃ o, o = (s.take k).all (· == 32) := ⟨_, rfl⟩
      rw [← ho] at HST ⊢
      clear ho
      cases o with
      | false =>
        go_wp2
        go_roundg (n - (k + 1))
        case measure => omega
        case rel => exact ⟨k + 1, by rw [HST.out]; rfl, by go_num, by omega, rfl, rfl⟩
      | true =>
        go_wp2
        go_roundg (n - (k + 1))
        case measure => omega
        case rel =>
          refine ⟨k + 1, ?_, by go_num, by omega, rfl, rfl⟩
          rw [HST.out, Bool.true_and]
          congr 1
          rw [Bool.eq_iff_iff, beq_iff_eq, beq_iff_eq]
          exact ⟨fun h => UInt8.toNat_inj.1 (by show (s[k]).toNat = 32; omega), fun h => by rw [h]; rfl⟩
    · obtain rfl : n = k := by omega
      have HF : Hid ((s.take n).all (· == 32) = sp) := Lib.hid (by rw [HSP.out, HNL.out, List.take_length])
      rw [HF.out]
      have hkk : ¬ (n : Int) < n := by omega
      go_wp2
      go_loopg [5, 6] n (fun gg o i wr => ∃ (k : Nat), o = .string (S (escs sp (s.take k))) ∧ i = .int .i64 k ∧ k ≤ n ∧ gg = n - k ∧ w = wr)
      case atStart => exact ⟨0, rfl, rfl, Nat.zero_le _, rfl, rfl⟩
      case round =>
        obtain ⟨k, rfl, rfl, hk, rfl, rfl⟩ := hrel
        have hse : (S (escs sp (s.take k))).size ≤ 1000000000 := by
          rw [S_size]
          have h1 := escs_len sp (s.take k)
          rw [List.length_take] at h1
          omega
        by_cases hlt : k < n
        · have hlt' : k < s.length := by rw [← HNL.out]; exact hlt
          have hki : (k : Int) < n := by omega
          go_upto_region 12 with (fail)
          rw [S_get s k (by rw [hsz]; exact hlt) hlt']
          obtain ⟨x, hx⟩ : ∃ x, x = (s[k]).toNat := ⟨_, rfl⟩
          rw [← hx]
          have HX := Lib.hid hx
          clear hx
          by_cases h32 : x = 32
          · have hc32 : s[k] = 32 := UInt8.toNat_inj.1 (by rw [← HX.out]; exact h32)
            have g38 : ((x : Int) == 38) = false := by rw [beq_eq_false_iff_ne]; omega
            have g60 : ((x : Int) == 60) = false := by rw [beq_eq_false_iff_ne]; omega
            have g62 : ((x : Int) == 62) = false := by rw [beq_eq_false_iff_ne]; omega
            have g34 : ((x : Int) == 34) = false := by rw [beq_eq_false_iff_ne]; omega
            have g13 : ((x : Int) == 13) = false := by rw [beq_eq_false_iff_ne]; omega
            have g10 : ((x : Int) == 10) = false := by rw [beq_eq_false_iff_ne]; omega
            have g9 : ((x : Int) == 9) = false := by rw [beq_eq_false_iff_ne]; omega
            have g32 : ((x : Int) == 32) = true := by rw [beq_iff_eq]; omega
            have HC32 := Lib.hid hc32
            clear hc32 h32
            obtain ⟨sq, hsq⟩ : ∃ q, q = sp := ⟨_, rfl⟩
            have HSQ := Lib.hid hsq
            cases sp with
            | true =>
              have HEC : Hid (escC true (s[k]) = sp32) := Lib.hid (by rw [HC32.out]; rfl)
              go_wp2
              go_roundg (n - (k + 1))
              case measure => omega
              case rel => exact ⟨k + 1, by rw [escs_step _ s k hlt', HEC.out]; first | rfl | (rw [S_lit, S_app]) | (rw [S_app]), by go_num, by omega, rfl, rfl⟩
            | false =>
              have HEC : Hid (escC false (s[k]) = [32]) := Lib.hid (by rw [HC32.out]; rfl)
              go_wp2
              go_roundg (n - (k + 1))
              case measure => omega
              case rel => exact ⟨k + 1, by rw [escs_step _ s k hlt', HEC.out]; first | rfl | (rw [S_lit, S_app]) | (rw [S_app]), by go_num, by omega, rfl, rfl⟩
          · have hsp0 : sp = false := by
              rw [HSP.out, List.all_eq_false]
              exact ⟨s[k], List.getElem_mem hlt', fun e => h32 (by rw [HX.out, beq_iff_eq.1 e]; rfl)⟩
            subst hsp0
            by_cases h38 : x = 38
            · have HEC : Hid (escC false (s[k]) = [38, 97, 109, 112, 59]) := Lib.hid (by unfold escC; rw [if_neg (by simp), ← HX.out, h38]; rfl)
              have g38 : ((x : Int) == 38) = true := by rw [beq_iff_eq]; omega
              have g60 : ((x : Int) == 60) = false := by rw [beq_eq_false_iff_ne]; omega
              have g62 : ((x : Int) == 62) = false := by rw [beq_eq_false_iff_ne]; omega
              have g34 : ((x : Int) == 34) = false := by rw [beq_eq_false_iff_ne]; omega
              have g13 : ((x : Int) == 13) = false := by rw [beq_eq_false_iff_ne]; omega
              have g10 : ((x : Int) == 10) = false := by rw [beq_eq_false_iff_ne]; omega
              have g9 : ((x : Int) == 9) = false := by rw [beq_eq_false_iff_ne]; omega
              have g32 : ((x : Int) == 32) = false := by rw [beq_eq_false_iff_ne]; omega
              go_wp2
              go_roundg (n - (k + 1))
              case measure => omega
              case rel => exact ⟨k + 1, by rw [escs_step _ s k hlt', HEC.out]; first | rfl | (rw [S_lit, S_app]) | (rw [S_app]), by go_num, by omega, rfl, rfl⟩
            by_cases h60 : x = 60
            · have HEC : Hid (escC false (s[k]) = [38, 108, 116, 59]) := Lib.hid (by unfold escC; rw [if_neg (by simp), ← HX.out, h60]; rfl)
              have g38 : ((x : Int) == 38) = false := by rw [beq_eq_false_iff_ne]; omega
              have g60 : ((x : Int) == 60) = true := by rw [beq_iff_eq]; omega
              have g62 : ((x : Int) == 62) = false := by rw [beq_eq_false_iff_ne]; omega
              have g34 : ((x : Int) == 34) = false := by rw [beq_eq_false_iff_ne]; omega
              have g13 : ((x : Int) == 13) = false := by rw [beq_eq_false_iff_ne]; omega
              have g10 : ((x : Int) == 10) = false := by rw [beq_eq_false_iff_ne]; omega
              have g9 : ((x : Int) == 9) = false := by rw [beq_eq_false_iff_ne]; omega
              have g32 : ((x : Int) == 32) = false := by rw [beq_eq_false_iff_ne]; omega
              go_wp2
              go_roundg (n - (k + 1))
              case measure => omega
              case rel => exact ⟨k + 1, by rw [escs_step _ s k hlt', HEC.out]; first | rfl | (rw [S_lit, S_app]) | (rw [S_app]), by go_num, by omega, rfl, rfl⟩
            by_cases h62 : x = 62
            · have HEC : Hid (escC false (s[k]) = [38, 103, 116, 59]) := Lib.hid (by unfold escC; rw [if_neg (by simp), ← HX.out, h62]; rfl)
              have g38 : ((x : Int) == 38) = false := by rw [beq_eq_false_iff_ne]; omega
              have g60 : ((x : Int) == 60) = false := by rw [beq_eq_false_iff_ne]; omega
              have g62 : ((x : Int) == 62) = true := by rw [beq_iff_eq]; omega
              have g34 : ((x : Int) == 34) = false := by rw [beq_eq_false_iff_ne]; omega
              have g13 : ((x : Int) == 13) = false := by rw [beq_eq_false_iff_ne]; omega
              have g10 : ((x : Int) == 10) = false := by rw [beq_eq_false_iff_ne]; omega
              have g9 : ((x : Int) == 9) = false := by rw [beq_eq_false_iff_ne]; omega
              have g32 : ((x : Int) == 32) = false := by rw [beq_eq_false_iff_ne]; omega
              go_wp2
              go_roundg (n - (k + 1))
              case measure => omega
              case rel => exact ⟨k + 1, by rw [escs_step _ s k hlt', HEC.out]; first | rfl | (rw [S_lit, S_app]) | (rw [S_app]), by go_num, by omega, rfl, rfl⟩
            by_cases h34 : x = 34
            · have HEC : Hid (escC false (s[k]) = [38, 113, 117, 111, 116, 59]) := Lib.hid (by unfold escC; rw [if_neg (by simp), ← HX.out, h34]; rfl)
              have g38 : ((x : Int) == 38) = false := by rw [beq_eq_false_iff_ne]; omega
              have g60 : ((x : Int) == 60) = false := by rw [beq_eq_false_iff_ne]; omega
              have g62 : ((x : Int) == 62) = false := by rw [beq_eq_false_iff_ne]; omega
              have g34 : ((x : Int) == 34) = true := by rw [beq_iff_eq]; omega
              have g13 : ((x : Int) == 13) = false := by rw [beq_eq_false_iff_ne]; omega
              have g10 : ((x : Int) == 10) = false := by rw [beq_eq_false_iff_ne]; omega
              have g9 : ((x : Int) == 9) = false := by rw [beq_eq_false_iff_ne]; omega
              have g32 : ((x : Int) == 32) = false := by rw [beq_eq_false_iff_ne]; omega
              go_wp2
              go_roundg (n - (k + 1))
              case measure => omega
              case rel => exact ⟨k + 1, by rw [escs_step _ s k hlt', HEC.out]; first | rfl | (rw [S_lit, S_app]) | (rw [S_app]), by go_num, by omega, rfl, rfl⟩
            by_cases h13 : x = 13
            · have HEC : Hid (escC false (s[k]) = [38, 35, 49, 51, 59]) := Lib.hid (by unfold escC; rw [if_neg (by simp), ← HX.out, h13]; rfl)
              have g38 : ((x : Int) == 38) = false := by rw [beq_eq_false_iff_ne]; omega
              have g60 : ((x : Int) == 60) = false := by rw [beq_eq_false_iff_ne]; omega
              have g62 : ((x : Int) == 62) = false := by rw [beq_eq_false_iff_ne]; omega
              have g34 : ((x : Int) == 34) = false := by rw [beq_eq_false_iff_ne]; omega
              have g13 : ((x : Int) == 13) = true := by rw [beq_iff_eq]; omega
              have g10 : ((x : Int) == 10) = false := by rw [beq_eq_false_iff_ne]; omega
              have g9 : ((x : Int) == 9) = false := by rw [beq_eq_false_iff_ne]; omega
              have g32 : ((x : Int) == 32) = false := by rw [beq_eq_false_iff_ne]; omega
              go_wp2
              go_roundg (n - (k + 1))
              case measure => omega
              case rel => exact ⟨k + 1, by rw [escs_step _ s k hlt', HEC.out]; first | rfl | (rw [S_lit, S_app]) | (rw [S_app]), by go_num, by omega, rfl, rfl⟩
            by_cases h10 : x = 10
            · have HEC : Hid (escC false (s[k]) = [38, 35, 49, 48, 59]) := Lib.hid (by unfold escC; rw [if_neg (by simp), ← HX.out, h10]; rfl)
              have g38 : ((x : Int) == 38) = false := by rw [beq_eq_false_iff_ne]; omega
              have g60 : ((x : Int) == 60) = false := by rw [beq_eq_false_iff_ne]; omega
              have g62 : ((x : Int) == 62) = false := by rw [beq_eq_false_iff_ne]; omega
              have g34 : ((x : Int) == 34) = false := by rw [beq_eq_false_iff_ne]; omega
              have g13 : ((x : Int) == 13) = false := by rw [beq_eq_false_iff_ne]; omega
              have g10 : ((x : Int) == 10) = true := by rw [beq_iff_eq]; omega
              have g9 : ((x : Int) == 9) = false := by rw [beq_eq_false_iff_ne]; omega
              have g32 : ((x : Int) == 32) = false := by rw [beq_eq_false_iff_ne]; omega
              go_wp2
              go_roundg (n - (k + 1))
              case measure => omega
              case rel => exact ⟨k + 1, by rw [escs_step _ s k hlt', HEC.out]; first | rfl | (rw [S_lit, S_app]) | (rw [S_app]), by go_num, by omega, rfl, rfl⟩
            by_cases h9 : x = 9
            · have HEC : Hid (escC false (s[k]) = [38, 35, 57, 59]) := Lib.hid (by unfold escC; rw [if_neg (by simp), ← HX.out, h9]; rfl)
              have g38 : ((x : Int) == 38) = false := by rw [beq_eq_false_iff_ne]; omega
              have g60 : ((x : Int) == 60) = false := by rw [beq_eq_false_iff_ne]; omega
              have g62 : ((x : Int) == 62) = false := by rw [beq_eq_false_iff_ne]; omega
              have g34 : ((x : Int) == 34) = false := by rw [beq_eq_false_iff_ne]; omega
              have g13 : ((x : Int) == 13) = false := by rw [beq_eq_false_iff_ne]; omega
              have g10 : ((x : Int) == 10) = false := by rw [beq_eq_false_iff_ne]; omega
              have g9 : ((x : Int) == 9) = true := by rw [beq_iff_eq]; omega
              have g32 : ((x : Int) == 32) = false := by rw [beq_eq_false_iff_ne]; omega
              go_wp2
              go_roundg (n - (k + 1))
              case measure => omega
              case rel => exact ⟨k + 1, by rw [escs_step _ s k hlt', HEC.out]; first | rfl | (rw [S_lit, S_app]) | (rw [S_app]), by go_num, by omega, rfl, rfl⟩
            have HEC : Hid (escC false (s[k]) = [s[k]]) := Lib.hid (by unfold escC entN; rw [if_neg (by simp), ← HX.out, if_pos (by rw [if_neg h38, if_neg h60, if_neg h62, if_neg h34, if_neg h13, if_neg h10, if_neg h9])])
            have g38 : ((x : Int) == 38) = false := by rw [beq_eq_false_iff_ne]; omega
            have g60 : ((x : Int) == 60) = false := by rw [beq_eq_false_iff_ne]; omega
            have g62 : ((x : Int) == 62) = false := by rw [beq_eq_false_iff_ne]; omega
            have g34 : ((x : Int) == 34) = false := by rw [beq_eq_false_iff_ne]; omega
            have g13 : ((x : Int) == 13) = false := by rw [beq_eq_false_iff_ne]; omega
            have g10 : ((x : Int) == 10) = false := by rw [beq_eq_false_iff_ne]; omega
            have g9 : ((x : Int) == 9) = false := by rw [beq_eq_false_iff_ne]; omega
            have g32 : ((x : Int) == 32) = false := by rw [beq_eq_false_iff_ne]; omega
            have hex := extract_one s k hlt'
            have hz1 : (S [s[k]]).size = 1 := by rw [S_size]; rfl
            have hk1 : (k : Int) + 1 ≤ n := by omega
            go_wp2
            go_roundg (n - (k + 1))
            case measure => omega
            case rel => exact ⟨k + 1, by rw [escs_step _ s k hlt', HEC.out]; first | rfl | (rw [S_lit, S_app]) | (rw [S_app]), by go_num, by omega, rfl, rfl⟩
        · obtain rfl : k = n := by omega
          have HF : Hid (escs sp (s.take k) = escs sp s) := Lib.hid (by rw [HNL.out, List.take_length])
          have hkk : ¬ (k : Int) < k := by omega
          go_wp2
          all_goals go_ret
          all_goals exact ⟨by rw [← HF.out]; rfl, rfl⟩
end Go.Proofs.YtchmookggegmnaaGreatDoor
namespace Go.Proofs.YtchmookggegmnaaGreatDoor
open Go Go.RowKit
def WrC (e : PE) : Prop := ∀ (F : Nat → Prop) (c0 c1 c2 c3 c4 : Value) (ar : List UInt8) (w : World), ElV F w e c0 c1 c2 c3 c4 → (textW e ar).length ≤ 100000000 →
  Calls Tryz.prog 16 #[.agg #[c0, c1, c2, c3, c4], .string (S ar)] w fun e' w' => e' = .returned (.string (S (textW e ar))) ∧ Kp0 w w'
theorem textsW_app : ∀ (a b : List PE) (sp : List UInt8), textsW (a ++ b) sp = textsW a sp ++ textsW b sp
  | [], b, sp => by simp [textsW]
  | x :: a, b, sp => by simp only [List.cons_append, textsW, textsW_app a b sp, List.append_assoc]
theorem textsW_step (s : List PE) (sp : List UInt8) (k : Nat) (h : k < s.length) : textsW (s.take (k + 1)) sp = textsW (s.take k) sp ++ textW (s[k]) sp := by
  rw [List.take_succ_eq_append_getElem h, textsW_app]
  simp [textsW]
theorem textsW_le (s : List PE) (sp : List UInt8) (k : Nat) : (textsW (s.take k) sp).length ≤ (textsW s sp).length := by
  have h := congrArg List.length (textsW_app (s.take k) (s.drop k) sp)
  rw [List.take_append_drop, List.length_append] at h
  omega
theorem textW_one (s : List PE) (sp : List UInt8) (k : Nat) (h : k < s.length) : (textW (s[k]) sp).length ≤ (textsW s sp).length := by
  have h1 := textsW_step s sp k h
  have h2 := textsW_le s sp (k + 1)
  rw [h1, List.length_append] at h2
  omega
theorem S_lit2 (a : List UInt8) : ({ data := a.toArray } : ByteArray) = S a := rfl
theorem head1 (nm : List UInt8) : ({ data := #[60] } : ByteArray) ++ S nm = S ([60] ++ nm) := by rw [S_lit2, S_app]
theorem head2 (nm sp : List UInt8) : ({ data := #[60] } : ByteArray) ++ S nm ++ ({ data := #[32, 120, 109, 108, 110, 115, 61, 34] } ++ S (escX sp) ++ { data := #[34] }) = S ([60] ++ nm ++ attW xmlnsL sp) := by
  rw [S_lit2, S_lit2, S_lit2, S_app, S_app, S_app, S_app]
  rfl
theorem attr1 (s n x : List UInt8) : S s ++ (({ data := #[32] } : ByteArray) ++ S n ++ { data := #[61, 34] } ++ S (escX x) ++ { data := #[34] }) = S (s ++ attW n x) := by
  rw [S_lit2, S_lit2, S_lit2, S_app, S_app, S_app, S_app, S_app]
  rfl
theorem attW_esc (n v : List UInt8) : n.length + (escX v).length + 4 ≤ (attW n v).length := by
  simp only [attW, List.length_append, List.length_cons, List.length_nil]
  omega
theorem tail1 (s : List UInt8) : S s ++ ({ data := #[47, 62] } : ByteArray) = S (s ++ [47, 62]) := by rw [S_lit2, S_app]
theorem tail2 (s x : List UInt8) : S s ++ (({ data := #[62] } : ByteArray) ++ S (escX x)) = S (s ++ ([62] ++ escX x)) := by rw [S_lit2, S_app, S_app]
theorem tail3 (s nm : List UInt8) : S s ++ ({ data := #[60, 47] } : ByteArray) ++ S nm ++ { data := #[62] } = S (s ++ endT nm) := by
  rw [S_lit2, S_lit2, S_app, S_app, S_app]
  simp only [endT, List.append_assoc]
theorem textW_ge (e : PE) (ar : List UInt8) : 1 ≤ (textW e ar).length := by
  obtain ⟨s, nm, at_, tx, ks⟩ := e
  unfold textW tagW
  simp only [List.length_append, List.length_cons, List.length_nil]
  omega
theorem textsW_ge (sp : List UInt8) : ∀ s : List PE, s.length ≤ (textsW s sp).length
  | [] => by simp
  | a :: s => by
    have h1 := textsW_ge sp s
    have h2 := textW_ge a sp
    simp only [textsW, List.length_append, List.length_cons]
    omega
set_option maxRecDepth 20000 in
set_option maxHeartbeats 8000000 in
theorem write_step (sp nm : List UInt8) (at_ : List (List UInt8 × List UInt8)) (tx : List UInt8) (ks : List PE) (ih : ∀ (i : Nat) (h : i < ks.length), WrC (ks[i])) : WrC (.mk sp nm at_ tx ks) := by
  intro F c0 c1 c2 c3 c4 ar w he hl
  obtain ⟨T, hT⟩ : ∃ x, x = textW (.mk sp nm at_ tx ks) ar := ⟨_, rfl⟩
  have HT : Hid (T = [60] ++ nm ++ spW sp ar ++ attsW at_ ++ endW tx ks ++ (if tx = [] ∧ ks = [] then [] else textsW ks sp ++ endT nm)) := Lib.hid (by rw [hT]; unfold textW tagW; rfl)
  rw [← hT] at hl ⊢
  have HL := Lib.hid hl
  have HIH := Lib.hid ih
  have hlen : ([60] ++ nm).length + (spW sp ar).length + (attsW at_).length + (endW tx ks).length ≤ T.length := by
    rw [HT.out]
    simp only [List.length_append]
    omega
  have HLEN := Lib.hid hlen
  unfold ElV at he
  obtain ⟨rfl, rfl, hra, rfl, cs, hrk, hek⟩ := he
  obtain ⟨a2, p2, rfl, hp2, -⟩ := hra.sl
  obtain ⟨a4, p4, rfl, hp4, -⟩ := hrk.sl
  obtain ⟨eb, heb⟩ : ∃ g, g = w.heap.size := ⟨_, rfl⟩
  obtain ⟨w0, hw0⟩ : ∃ x, x = w.alloc (.cells #[.string (S sp), .string (S nm), .slice a2 at_.length p2, .string (S tx), .slice a4 ks.length p4] 25) := ⟨_, rfl⟩
  have hkA : Kp0 w w0 := by rw [hw0]; exact (Kp.refl _ _).alloc _
  have HBE : Hid (Blk w0 eb 25 [.string (S sp), .string (S nm), .slice a2 at_.length p2, .string (S tx), .slice a4 ks.length p4]) := Lib.hid (by rw [hw0, heb]; exact blk0 w _ _)
  have HKA := Lib.hid hkA
  have HRA := Lib.hid (hra.keep hkA (fun _ _ h => h))
  have HRK := Lib.hid (hrk.keep hkA (fun _ _ h => h))
  have HEK := Lib.hid (ElsV.keep hkA (fun _ _ h => h) (fun _ h => h) _ _ hek)
  have hsn : (S nm).size ≤ 100000000 := by
    rw [S_size]
    simp only [List.length_append] at hlen
    omega
  obtain ⟨nk, hnk⟩ : ∃ n, n = ks.length := ⟨_, rfl⟩
  have HNK := Lib.hid hnk
  obtain ⟨na, hna⟩ : ∃ n, n = at_.length := ⟨_, rfl⟩
  have HNA := Lib.hid hna
  rw [← hna] at HRA HBE hw0 ⊢
  rw [← hnk] at HRK HBE hw0 ⊢
  have hnab : (na : Int) ≤ 100000000 := by
    have h1 := attsW_ge at_
    omega
  have hnai : (na : Int) ≤ p2 := by omega
  have hnki2 : (nk : Int) ≤ p4 := by omega
  clear hra hrk hek hl hkA hp2 hp4 hna hnk hT ih
  go_enter Tryz.func16, Tryz.ntmps16
  go_upto_region 1 with (fail)
  rw [← hw0, ← heb]
  clear hw0 heb
  have b0 := HBE.out.cellV 0 rfl
  have b1 := HBE.out.cellV 1 rfl
  by_cases hsa : sp = ar
  · have HSP : Hid (spW sp ar = []) := Lib.hid (if_pos hsa)
    have t1 : ((S sp).toList == (S ar).toList) = true := by rw [hsa]; simp
    have t2 : (S sp).toList = (S ar).toList := by rw [hsa]
    clear hsa
    go_upto_region 4 with (fail)
    rw [head1]
    obtain ⟨L0, hL0⟩ : ∃ x, x = [60] ++ nm := ⟨_, rfl⟩
    rw [← hL0]
    have HTL : Hid (T = L0 ++ attsW at_ ++ endW tx ks ++ (if tx = [] ∧ ks = [] then [] else textsW ks sp ++ endT nm)) := Lib.hid (by rw [hL0, HT.out, HSP.out, List.append_nil])
    clear hL0 b0 b1 t1 t2
    have b2 := HBE.out.cellV 2 rfl
    have hs0 : (S L0).size ≤ 100000000 := by
      rw [S_size]
      have h1 := congrArg List.length HTL.out
      have h2 := HL.out
      simp only [List.length_append] at h1
      omega
    go_wp2
    go_loopg [5, 6] na (fun gg o i wr => ∃ (k : Nat), o = .string (S (L0 ++ attsW (at_.take k))) ∧ i = .int .i64 k ∧ k ≤ na ∧ gg = na - k ∧ Kp0 w0 wr)
    case atStart => exact ⟨0, by rw [List.take_zero]; show _ = Value.string (S (L0 ++ [])); rw [List.append_nil], rfl, Nat.zero_le _, rfl, Kp.refl _ _⟩
    case round =>
      obtain ⟨k, rfl, rfl, hk, rfl, hkp⟩ := hrel
      have HKP := Lib.hid hkp
      have hra := HRA.out.keep hkp (fun _ _ h => h)
      have HB := Lib.hid (HBE.out.kp0 hkp)
      have b2 := HB.out.cellV 2 rfl
      clear hkp
      by_cases hlt : k < na
      · have hlt' : k < at_.length := by rw [← HNA.out]; exact hlt
        have hki : (k : Int) < na := by omega
        go_upto_region 7 with (fail)
        obtain ⟨ao, cap, h1, h2, h3, h4, h5, h6⟩ := hra
        simp only [Value.slice.injEq] at h1
        obtain ⟨rfl, -, rfl⟩ := h1
        obtain ⟨ad, rfl⟩ : ∃ ad, a2 = some ad := by
          cases a2 with
          | none => have := h5 rfl; omega
          | some ad => exact ⟨ad, rfl⟩
        obtain ⟨g1, g2⟩ := prs_get at_ k hlt'
        have c0 := (h6 ad rfl _ _ g1).2
        have c1 := (h6 ad rfl _ _ g2).2
        have c1b : wr.cell? ((ad.add (k * 2)).add 1) = some (.string (S (at_[k]).2)) := by rw [Addr.add_add]; exact c1
        have C0 : Hid (wr.cell? (ad.add (k * 2)) = some (.string (S (at_[k]).1))) := Lib.hid c0
        have C1 : Hid (wr.cell? ⟨(ad.add (k * 2)).block, (ad.add (k * 2)).off + 1, none⟩ = some (.string (S (at_[k]).2))) := Lib.hid c1b
        have HGE := Lib.hid (atts_get at_ k hlt')
        have HSTEP := Lib.hid (attsW_step at_ k hlt')
        have HLE := Lib.hid (attsW_le at_ (k + 1))
        have HESC := Lib.hid (attW_esc (at_[k]).1 (at_[k]).2)
        obtain ⟨an, hxan⟩ : ∃ x, x = (at_[k]).1 := ⟨_, rfl⟩
        obtain ⟨av, hxav⟩ : ∃ x, x = (at_[k]).2 := ⟨_, rfl⟩
        rw [← hxan, ← hxav] at HSTEP HGE HESC
        rw [← hxan] at C0
        rw [← hxav] at C1
        obtain ⟨sk, hsk⟩ : ∃ x, x = L0 ++ attsW (at_.take k) := ⟨_, rfl⟩
        have HLK : Hid (sk.length + (attW an av).length ≤ 100000000) := Lib.hid (by
          have e1 := HTL.out
          have e2 := HL.out
          have e3 := HLE.out
          rw [HSTEP.out] at e3
          rw [e1] at e2
          rw [hsk]
          simp only [List.length_append] at e2 e3 ⊢
          omega)
        have HSK : Hid (S (sk ++ attW an av) = S (L0 ++ attsW (at_.take (k + 1)))) := Lib.hid (by rw [HSTEP.out, hsk, List.append_assoc])
        rw [← hsk]
        clear hsk c0 c1 c1b h2 h4 h5 h6 g1 g2 hxan hxav b2
        have z1 : (S sk).size ≤ 100000000 := by rw [S_size]; have := HLK.out; omega
        have z2 : (S an).size ≤ 100000000 := by rw [S_size]; have := HLK.out; have := HESC.out; omega
        have z3 : (S (escX av)).size ≤ 100000000 := by rw [S_size]; have := HLK.out; have := HESC.out; omega
        refine wp_region_px 19 [] (fun w' : World => w' = wr.drew) (.quiet 0 (.quiet 1 (.quiet 2 (.quiet 3 (.quiet 4 (.quiet 5 (.quiet 6 (.quiet 7 (.quiet 8 (.quiet 9 (.quiet 10 (.quiet 11 (.quiet 12 (.quiet 13 (.quiet 14 (.eff 15 (.quiet 16 (.quiet 17 (.quiet 18 (.quiet 19 .done)))))))))))))))))))) (by kernel_rfl) (by kernel_rfl) (by kernel_rfl) (by kernel_rfl) (fun _ d _ _ _ h => by cases d <;> exact h) rfl ?_
        have HBD := Lib.hid (HB.out.kp0 (Kp.refl _ _).drew)
        have HKD := Lib.hid (HKP.out.drew)
        have D0 : Hid (wr.drew.cell? (ad.add (k * 2)) = some (.string (S an))) := Lib.hid C0.out
        have D1 : Hid (wr.drew.cell? ⟨(ad.add (k * 2)).block, (ad.add (k * 2)).off + 1, none⟩ = some (.string (S av))) := Lib.hid C1.out
        generalize wr.drew = wd at HBD HKD D0 D1 ⊢
        iterate 15 (refine px_quiet (v := ?_) rfl (by rfl) (fun wq hwq => ?_) rfl ?_; rotate_left 1; (focus (subst hwq; have q2 := HBD.out.cellV 2 rfl; have q5 := D0.out; have q6 := D1.out; go_simp; first | (with_reducible rfl) | (split <;> first | (exfalso; omega) | rfl))); try simp only [List.setIfInBounds_toArray, List.set_cons_zero, List.set_cons_succ])
        refine px_eff rfl (by rfl) (fun K hK => ?_)
        go_simp
        refine (plain_any av _ (by have h1 := escs_ge (spaces av) av; have h2 := HESC.out; have h3 := HLK.out; simp only [escX] at h2; omega)).mono ?_
        rintro e2 w2 ⟨rfl, rfl⟩
        simp only []
        refine hK (fun w' : World => w' = wd) _ _ (fun _ h => h) rfl ?_
        clear hK K
        iterate 4 (refine px_quiet (v := ?_) rfl (by rfl) (fun wq hwq => ?_) rfl ?_; rotate_left 1; (focus (subst hwq; go_simp; first | (with_reducible rfl) | (split <;> first | (exfalso; omega) | rfl))); try simp only [List.setIfInBounds_toArray, List.set_cons_zero, List.set_cons_succ])
        refine px_done ?_
        rw [attr1]
        go_wp2
        go_roundg (na - (k + 1))
        case measure => omega
        case rel => exact ⟨k + 1, by rw [HSK.out], by go_num, by omega, rfl, HKD.out⟩
      · obtain rfl : na = k := by omega
        have HF : Hid (attsW (at_.take na) = attsW at_) := Lib.hid (by rw [HNA.out, List.take_length])
        rw [HF.out]
        obtain ⟨L1, hL1⟩ : ∃ x, x = L0 ++ attsW at_ := ⟨_, rfl⟩
        rw [← hL1]
        have HTL1 : Hid (T = L1 ++ endW tx ks ++ (if tx = [] ∧ ks = [] then [] else textsW ks sp ++ endT nm)) := Lib.hid (by rw [hL1]; exact HTL.out)
        have z1 : (S L1).size ≤ 100000000 := by
          rw [S_size]
          have h1 := congrArg List.length HTL1.out
          have h2 := HL.out
          simp only [List.length_append] at h1
          omega
        have b3 := HB.out.cellV 3 rfl
        have b4 := HB.out.cellV 4 rfl
        have b1 := HB.out.cellV 1 rfl
        have hkk : ¬ (na : Int) < na := by omega
        clear hL1 hra
        cases tx with
        | nil =>
          have t3 : (S ([] : List UInt8)).toList = [] := S_toList _
          have t4 : ((S ([] : List UInt8)).toList == []) = true := by rw [S_toList]; rfl
          by_cases hnk : nk = 0
          · have hks : ks = [] := List.eq_nil_of_length_eq_zero (by rw [← HNK.out]; exact hnk)
            have HTF : Hid (T = L1 ++ [47, 62]) := Lib.hid (by rw [HTL1.out, if_pos ⟨rfl, hks⟩, show endW ([] : List UInt8) ks = [47, 62] from if_pos ⟨rfl, hks⟩, List.append_nil])
            have hnki : ((nk : Int) == 0) = true := by rw [beq_iff_eq]; omega
            clear hks hnk
            go_wp2
            all_goals go_ret
            all_goals exact ⟨by rw [HTF.out, ← tail1]; rfl, HKA.out.tr HKP.out⟩
          · have hks : ¬ ks = [] := fun e => hnk (by rw [HNK.out, e]; rfl)
            have HTF : Hid (T = L1 ++ ([62] ++ escX []) ++ (textsW ks sp ++ endT nm)) := Lib.hid (by rw [HTL1.out, if_neg (fun h => hks h.2), show endW ([] : List UInt8) ks = [62] ++ escX [] from if_neg (fun h => hks h.2)])
            have hnki : ((nk : Int) == 0) = false := by rw [beq_eq_false_iff_ne]; omega
            clear hks hnk
            obtain ⟨tx, htx⟩ : ∃ x : List UInt8, x = [] := ⟨_, rfl⟩
            have HTF : Hid (T = L1 ++ ([62] ++ escX tx) ++ (textsW ks sp ++ endT nm)) := Lib.hid (by rw [HTF.out, htx])
            have HTX := Lib.hid htx
            clear htx
            go_wp2_with fail
            rw [show S ([] : List UInt8) = S tx by rw [HTX.out]]
            have HLB : Hid (L1.length + (escX tx).length + (textsW ks sp).length + nm.length + 4 ≤ 100000000) := Lib.hid (by
              have h1 := congrArg List.length HTF.out
              have h2 := HL.out
              simp only [List.length_append, endT, List.length_cons, List.length_nil] at h1
              omega)
            have z3 : (S (escX tx)).size ≤ 100000000 := by rw [S_size]; have := HLB.out; omega
            refine (plain_any tx _ (by have h1 := escs_ge (spaces tx) tx; have h3 := HLB.out; simp only [escX] at h3; omega)).mono ?_
            rintro e2 w2 ⟨rfl, rfl⟩
            go_upto_region 11 with (fail)
            rw [tail2]
            obtain ⟨L2, hL2⟩ : ∃ x, x = L1 ++ ([62] ++ escX tx) := ⟨_, rfl⟩
            rw [← hL2] at HTF ⊢
            have HL2 : Hid (L2.length + (textsW ks sp).length + nm.length + 3 ≤ 100000000) := Lib.hid (by
              rw [hL2]
              have h1 := HLB.out
              simp only [List.length_append, List.length_cons, List.length_nil]
              omega)
            have z4 : (S L2).size ≤ 100000000 := by rw [S_size]; have := HL2.out; omega
            have hnkb : (nk : Int) ≤ 100000000 := by have h1 := textsW_ge sp ks; have h2 := HL2.out; have h3 := HNK.out; omega
            clear hL2 z3
            go_wp2
            go_loopg [5, 7] nk (fun gg o i wk => ∃ (k : Nat), o = .string (S (L2 ++ textsW (ks.take k) sp)) ∧ i = .int .i64 k ∧ k ≤ nk ∧ gg = nk - k ∧ Kp0 wr wk)
            case atStart => exact ⟨0, by rw [List.take_zero]; show _ = Value.string (S (L2 ++ [])); rw [List.append_nil], rfl, Nat.zero_le _, rfl, Kp.refl _ _⟩
            case round =>
              obtain ⟨k, rfl, rfl, hk, rfl, hkp2⟩ := hrel
              have HKP2 := Lib.hid hkp2
              have HB2 := Lib.hid (HB.out.kp0 hkp2)
              have b4 := HB2.out.cellV 4 rfl
              have b1 := HB2.out.cellV 1 rfl
              clear hkp2
              by_cases hlt : k < nk
              · have hlt' : k < ks.length := by rw [← HNK.out]; exact hlt
                have hki : (k : Int) < nk := by omega
                have hrk := HRK.out.keep (HKP.out.tr HKP2.out) (fun _ _ h => h)
                have hek := ElsV.keep (HKP.out.tr HKP2.out) (fun _ _ h => h) (fun _ h => h) _ _ HEK.out
                obtain ⟨d0, d1, d2, d3, d4, g0, g1, g2, g3, g4, hkv⟩ := ElsV.get ks cs hek k hlt'
                obtain ⟨ao, cap, h1, h2, h3, h4, h5, h6⟩ := hrk
                simp only [Value.slice.injEq] at h1
                obtain ⟨rfl, -, rfl⟩ := h1
                obtain ⟨ad, rfl⟩ : ∃ ad, a4 = some ad := by
                  cases a4 with
                  | none => have := h5 rfl; omega
                  | some ad => exact ⟨ad, rfl⟩
                have c0 := (h6 ad rfl _ _ g0).2
                have c1 : wr.cell? ((ad.add (k * 5)).add 1) = some d1 := by rw [Addr.add_add]; exact (h6 ad rfl _ _ g1).2
                have c2 : wr.cell? ((ad.add (k * 5)).add 2) = some d2 := by rw [Addr.add_add]; exact (h6 ad rfl _ _ g2).2
                have c3 : wr.cell? ((ad.add (k * 5)).add 3) = some d3 := by rw [Addr.add_add]; exact (h6 ad rfl _ _ g3).2
                have c4 : wr.cell? ((ad.add (k * 5)).add 4) = some d4 := by rw [Addr.add_add]; exact (h6 ad rfl _ _ g4).2
                obtain ⟨kid, hkid⟩ : ∃ x, x = ks[k] := ⟨_, rfl⟩
                have HIK : Hid (WrC kid) := Lib.hid (by rw [hkid]; exact HIH.out k hlt')
                have HST : Hid (textsW (ks.take (k + 1)) sp = textsW (ks.take k) sp ++ textW kid sp) := Lib.hid (by rw [hkid]; exact textsW_step _ _ _ hlt')
                have HTO : Hid ((textW kid sp).length ≤ (textsW ks sp).length ∧ (textsW (ks.take (k + 1)) sp).length ≤ (textsW ks sp).length) := Lib.hid ⟨by rw [hkid]; exact textW_one _ _ _ hlt', textsW_le _ _ _⟩
                rw [← hkid] at hkv
                clear hkid
                obtain ⟨ksp, knm, kat, ktx, kks⟩ := kid
                have HKV := Lib.hid hkv
                unfold ElV at hkv
                obtain ⟨rfl, rfl, hka, rfl, kcs, hkk, -⟩ := hkv
                obtain ⟨ka2, kp2, rfl, -⟩ := hka.sl
                obtain ⟨ka4, kp4, rfl, -⟩ := hkk.sl
                have b0 := HB2.out.cellV 0 rfl
                go_upto_region 14 with (fail)
                have C0 : Hid (wr.cell? (ad.add (k * 5)) = _) := Lib.hid c0
                have C1 : Hid (wr.cell? ⟨(ad.add (k * 5)).block, (ad.add (k * 5)).off + 1, none⟩ = _) := Lib.hid c1
                have C2 : Hid (wr.cell? ⟨(ad.add (k * 5)).block, (ad.add (k * 5)).off + 2, none⟩ = _) := Lib.hid c2
                have C3 : Hid (wr.cell? ⟨(ad.add (k * 5)).block, (ad.add (k * 5)).off + 3, none⟩ = _) := Lib.hid c3
                have C4 : Hid (wr.cell? ⟨(ad.add (k * 5)).block, (ad.add (k * 5)).off + 4, none⟩ = _) := Lib.hid c4
                clear c0 c1 c2 c3 c4 g0 g1 g2 g3 g4 h2 h4 h5 h6 hka hkk hek b0 b1 b4
                have z5 : (S (L2 ++ textsW (ks.take k) sp)).size ≤ 100000000 := by
                  rw [S_size, List.length_append]
                  have h1 := HTO.out.2
                  rw [HST.out, List.length_append] at h1
                  have := HL2.out
                  omega
                have z6 : (S (textW (.mk ksp knm kat ktx kks) sp)).size ≤ 100000000 := by rw [S_size]; have := HTO.out.1; have := HL2.out; omega
                refine wp_region_px 10 [] (fun w' : World => Kp0 wr.drew w') (.quiet 0 (.quiet 1 (.quiet 2 (.quiet 3 (.quiet 4 (.quiet 5 (.quiet 6 (.quiet 7 (.eff 8 (.quiet 9 (.quiet 10 .done))))))))))) (by kernel_rfl) (by kernel_rfl) (by kernel_rfl) (by kernel_rfl) (fun _ d _ _ _ h => by cases d <;> exact h) (Kp.refl _ _) ?_
                have HBD := Lib.hid (HB2.out.kp0 (Kp.refl _ _).drew)
                have HKD := Lib.hid (HKP2.out.drew)
                have D0 : Hid (wr.drew.cell? (ad.add (k * 5)) = _) := Lib.hid C0.out
                have D1 : Hid (wr.drew.cell? ⟨(ad.add (k * 5)).block, (ad.add (k * 5)).off + 1, none⟩ = _) := Lib.hid C1.out
                have D2 : Hid (wr.drew.cell? ⟨(ad.add (k * 5)).block, (ad.add (k * 5)).off + 2, none⟩ = _) := Lib.hid C2.out
                have D3 : Hid (wr.drew.cell? ⟨(ad.add (k * 5)).block, (ad.add (k * 5)).off + 3, none⟩ = _) := Lib.hid C3.out
                have D4 : Hid (wr.drew.cell? ⟨(ad.add (k * 5)).block, (ad.add (k * 5)).off + 4, none⟩ = _) := Lib.hid C4.out
                have HVD : Hid (ElV F wr.drew (.mk ksp knm kat ktx kks) (.string (S ksp)) (.string (S knm)) (.slice ka2 kat.length kp2) (.string (S ktx)) (.slice ka4 kks.length kp4)) := Lib.hid (ElV.keep (Kp.refl (fun _ => False) wr).drew (fun _ _ h => h) (fun _ h => h) _ _ _ _ _ _ HKV.out)
                generalize wr.drew = wd at HBD HKD D0 D1 D2 D3 D4 HVD ⊢
                iterate 8 (refine px_quiet (v := ?_) rfl (by rfl) (fun wq hwq => ?_) rfl ?_; rotate_left 1; (focus (have hbq := HBD.out.kp0 hwq; have q0 := hbq.cellV 0 rfl; have q4 := hbq.cellV 4 rfl; have r0 := hwq.cell D0.out (fun h => h); have r1 := hwq.cell D1.out (fun h => h); have r2 := hwq.cell D2.out (fun h => h); have r3 := hwq.cell D3.out (fun h => h); have r4 := hwq.cell D4.out (fun h => h); go_simp; first | (with_reducible rfl) | (split <;> first | (exfalso; omega) | rfl))); try simp only [List.setIfInBounds_toArray, List.set_cons_zero, List.set_cons_succ])
                refine px_eff rfl (by rfl) (fun K hK => ?_)
                go_simp
                refine (HIK.out F _ _ _ _ _ sp _ HVD.out (by have := HTO.out.1; have := HL2.out; omega)).mono ?_
                rintro e3 w3 ⟨rfl, hk3⟩
                have HK3 := Lib.hid hk3
                simp only []
                refine hK (fun w' : World => Kp0 wd w') _ _ (fun _ h => h) hk3 ?_
                clear hK K hk3
                iterate 2 (refine px_quiet (v := ?_) rfl (by rfl) (fun wq hwq => ?_) rfl ?_; rotate_left 1; (focus (clear hwq; go_simp; first | (with_reducible rfl) | (split <;> first | (exfalso; omega) | rfl))); try simp only [List.setIfInBounds_toArray, List.set_cons_zero, List.set_cons_succ])
                refine px_done ?_
                rw [S_app]
                go_wp2
                go_roundg (nk - (k + 1))
                case measure => omega
                case rel => exact ⟨k + 1, by rw [HST.out, List.append_assoc], by go_num, by omega, rfl, HKD.out.tr HK3.out⟩
              · obtain rfl : nk = k := by omega
                have HF : Hid (textsW (ks.take nk) sp = textsW ks sp) := Lib.hid (by rw [HNK.out, List.take_length])
                rw [HF.out]
                have hkk : ¬ (nk : Int) < nk := by omega
                have z5 : (S (L2 ++ textsW ks sp)).size ≤ 100000000 := by rw [S_size, List.length_append]; have := HL2.out; omega
                go_wp2
                all_goals go_ret
                all_goals exact ⟨by rw [HTF.out, ← List.append_assoc, ← tail3]; rfl, HKA.out.tr (HKP.out.tr HKP2.out)⟩
        | cons ch tx =>
          have t3 : ¬ (S (ch :: tx)).toList = [] := by rw [S_toList]; simp
          have t4 : ((S (ch :: tx)).toList == []) = false := by rw [S_toList]; rfl
          have HTF : Hid (T = L1 ++ ([62] ++ escX (ch :: tx)) ++ (textsW ks sp ++ endT nm)) := Lib.hid (by rw [HTL1.out, if_neg (by simp), show endW (ch :: tx) ks = [62] ++ escX (ch :: tx) from if_neg (fun h => by cases h.1)])
          generalize (ch :: tx) = tx at *
          go_wp2_with fail
          have HLB : Hid (L1.length + (escX tx).length + (textsW ks sp).length + nm.length + 4 ≤ 100000000) := Lib.hid (by
            have h1 := congrArg List.length HTF.out
            have h2 := HL.out
            simp only [List.length_append, endT, List.length_cons, List.length_nil] at h1
            omega)
          have z3 : (S (escX tx)).size ≤ 100000000 := by rw [S_size]; have := HLB.out; omega
          refine (plain_any tx _ (by have h1 := escs_ge (spaces tx) tx; have h3 := HLB.out; simp only [escX] at h3; omega)).mono ?_
          rintro e2 w2 ⟨rfl, rfl⟩
          go_upto_region 11 with (fail)
          rw [tail2]
          obtain ⟨L2, hL2⟩ : ∃ x, x = L1 ++ ([62] ++ escX tx) := ⟨_, rfl⟩
          rw [← hL2] at HTF ⊢
          have HL2 : Hid (L2.length + (textsW ks sp).length + nm.length + 3 ≤ 100000000) := Lib.hid (by
            rw [hL2]
            have h1 := HLB.out
            simp only [List.length_append, List.length_cons, List.length_nil]
            omega)
          have z4 : (S L2).size ≤ 100000000 := by rw [S_size]; have := HL2.out; omega
          have hnkb : (nk : Int) ≤ 100000000 := by have h1 := textsW_ge sp ks; have h2 := HL2.out; have h3 := HNK.out; omega
          clear hL2 z3
          go_wp2
          go_loopg [5, 7] nk (fun gg o i wk => ∃ (k : Nat), o = .string (S (L2 ++ textsW (ks.take k) sp)) ∧ i = .int .i64 k ∧ k ≤ nk ∧ gg = nk - k ∧ Kp0 wr wk)
          case atStart => exact ⟨0, by rw [List.take_zero]; show _ = Value.string (S (L2 ++ [])); rw [List.append_nil], rfl, Nat.zero_le _, rfl, Kp.refl _ _⟩
          case round =>
            obtain ⟨k, rfl, rfl, hk, rfl, hkp2⟩ := hrel
            have HKP2 := Lib.hid hkp2
            have HB2 := Lib.hid (HB.out.kp0 hkp2)
            have b4 := HB2.out.cellV 4 rfl
            have b1 := HB2.out.cellV 1 rfl
            clear hkp2
            by_cases hlt : k < nk
            · have hlt' : k < ks.length := by rw [← HNK.out]; exact hlt
              have hki : (k : Int) < nk := by omega
              have hrk := HRK.out.keep (HKP.out.tr HKP2.out) (fun _ _ h => h)
              have hek := ElsV.keep (HKP.out.tr HKP2.out) (fun _ _ h => h) (fun _ h => h) _ _ HEK.out
              obtain ⟨d0, d1, d2, d3, d4, g0, g1, g2, g3, g4, hkv⟩ := ElsV.get ks cs hek k hlt'
              obtain ⟨ao, cap, h1, h2, h3, h4, h5, h6⟩ := hrk
              simp only [Value.slice.injEq] at h1
              obtain ⟨rfl, -, rfl⟩ := h1
              obtain ⟨ad, rfl⟩ : ∃ ad, a4 = some ad := by
                cases a4 with
                | none => have := h5 rfl; omega
                | some ad => exact ⟨ad, rfl⟩
              have c0 := (h6 ad rfl _ _ g0).2
              have c1 : wr.cell? ((ad.add (k * 5)).add 1) = some d1 := by rw [Addr.add_add]; exact (h6 ad rfl _ _ g1).2
              have c2 : wr.cell? ((ad.add (k * 5)).add 2) = some d2 := by rw [Addr.add_add]; exact (h6 ad rfl _ _ g2).2
              have c3 : wr.cell? ((ad.add (k * 5)).add 3) = some d3 := by rw [Addr.add_add]; exact (h6 ad rfl _ _ g3).2
              have c4 : wr.cell? ((ad.add (k * 5)).add 4) = some d4 := by rw [Addr.add_add]; exact (h6 ad rfl _ _ g4).2
              obtain ⟨kid, hkid⟩ : ∃ x, x = ks[k] := ⟨_, rfl⟩
              have HIK : Hid (WrC kid) := Lib.hid (by rw [hkid]; exact HIH.out k hlt')
              have HST : Hid (textsW (ks.take (k + 1)) sp = textsW (ks.take k) sp ++ textW kid sp) := Lib.hid (by rw [hkid]; exact textsW_step _ _ _ hlt')
              have HTO : Hid ((textW kid sp).length ≤ (textsW ks sp).length ∧ (textsW (ks.take (k + 1)) sp).length ≤ (textsW ks sp).length) := Lib.hid ⟨by rw [hkid]; exact textW_one _ _ _ hlt', textsW_le _ _ _⟩
              rw [← hkid] at hkv
              clear hkid
              obtain ⟨ksp, knm, kat, ktx, kks⟩ := kid
              have HKV := Lib.hid hkv
              unfold ElV at hkv
              obtain ⟨rfl, rfl, hka, rfl, kcs, hkk, -⟩ := hkv
              obtain ⟨ka2, kp2, rfl, -⟩ := hka.sl
              obtain ⟨ka4, kp4, rfl, -⟩ := hkk.sl
              have b0 := HB2.out.cellV 0 rfl
              go_upto_region 14 with (fail)
              have C0 : Hid (wr.cell? (ad.add (k * 5)) = _) := Lib.hid c0
              have C1 : Hid (wr.cell? ⟨(ad.add (k * 5)).block, (ad.add (k * 5)).off + 1, none⟩ = _) := Lib.hid c1
              have C2 : Hid (wr.cell? ⟨(ad.add (k * 5)).block, (ad.add (k * 5)).off + 2, none⟩ = _) := Lib.hid c2
              have C3 : Hid (wr.cell? ⟨(ad.add (k * 5)).block, (ad.add (k * 5)).off + 3, none⟩ = _) := Lib.hid c3
              have C4 : Hid (wr.cell? ⟨(ad.add (k * 5)).block, (ad.add (k * 5)).off + 4, none⟩ = _) := Lib.hid c4
              clear c0 c1 c2 c3 c4 g0 g1 g2 g3 g4 h2 h4 h5 h6 hka hkk hek b0 b1 b4
              have z5 : (S (L2 ++ textsW (ks.take k) sp)).size ≤ 100000000 := by
                rw [S_size, List.length_append]
                have h1 := HTO.out.2
                rw [HST.out, List.length_append] at h1
                have := HL2.out
                omega
              have z6 : (S (textW (.mk ksp knm kat ktx kks) sp)).size ≤ 100000000 := by rw [S_size]; have := HTO.out.1; have := HL2.out; omega
              refine wp_region_px 10 [] (fun w' : World => Kp0 wr.drew w') (.quiet 0 (.quiet 1 (.quiet 2 (.quiet 3 (.quiet 4 (.quiet 5 (.quiet 6 (.quiet 7 (.eff 8 (.quiet 9 (.quiet 10 .done))))))))))) (by kernel_rfl) (by kernel_rfl) (by kernel_rfl) (by kernel_rfl) (fun _ d _ _ _ h => by cases d <;> exact h) (Kp.refl _ _) ?_
              have HBD := Lib.hid (HB2.out.kp0 (Kp.refl _ _).drew)
              have HKD := Lib.hid (HKP2.out.drew)
              have D0 : Hid (wr.drew.cell? (ad.add (k * 5)) = _) := Lib.hid C0.out
              have D1 : Hid (wr.drew.cell? ⟨(ad.add (k * 5)).block, (ad.add (k * 5)).off + 1, none⟩ = _) := Lib.hid C1.out
              have D2 : Hid (wr.drew.cell? ⟨(ad.add (k * 5)).block, (ad.add (k * 5)).off + 2, none⟩ = _) := Lib.hid C2.out
              have D3 : Hid (wr.drew.cell? ⟨(ad.add (k * 5)).block, (ad.add (k * 5)).off + 3, none⟩ = _) := Lib.hid C3.out
              have D4 : Hid (wr.drew.cell? ⟨(ad.add (k * 5)).block, (ad.add (k * 5)).off + 4, none⟩ = _) := Lib.hid C4.out
              have HVD : Hid (ElV F wr.drew (.mk ksp knm kat ktx kks) (.string (S ksp)) (.string (S knm)) (.slice ka2 kat.length kp2) (.string (S ktx)) (.slice ka4 kks.length kp4)) := Lib.hid (ElV.keep (Kp.refl (fun _ => False) wr).drew (fun _ _ h => h) (fun _ h => h) _ _ _ _ _ _ HKV.out)
              generalize wr.drew = wd at HBD HKD D0 D1 D2 D3 D4 HVD ⊢
              iterate 8 (refine px_quiet (v := ?_) rfl (by rfl) (fun wq hwq => ?_) rfl ?_; rotate_left 1; (focus (have hbq := HBD.out.kp0 hwq; have q0 := hbq.cellV 0 rfl; have q4 := hbq.cellV 4 rfl; have r0 := hwq.cell D0.out (fun h => h); have r1 := hwq.cell D1.out (fun h => h); have r2 := hwq.cell D2.out (fun h => h); have r3 := hwq.cell D3.out (fun h => h); have r4 := hwq.cell D4.out (fun h => h); go_simp; first | (with_reducible rfl) | (split <;> first | (exfalso; omega) | rfl))); try simp only [List.setIfInBounds_toArray, List.set_cons_zero, List.set_cons_succ])
              refine px_eff rfl (by rfl) (fun K hK => ?_)
              go_simp
              refine (HIK.out F _ _ _ _ _ sp _ HVD.out (by have := HTO.out.1; have := HL2.out; omega)).mono ?_
              rintro e3 w3 ⟨rfl, hk3⟩
              have HK3 := Lib.hid hk3
              simp only []
              refine hK (fun w' : World => Kp0 wd w') _ _ (fun _ h => h) hk3 ?_
              clear hK K hk3
              iterate 2 (refine px_quiet (v := ?_) rfl (by rfl) (fun wq hwq => ?_) rfl ?_; rotate_left 1; (focus (clear hwq; go_simp; first | (with_reducible rfl) | (split <;> first | (exfalso; omega) | rfl))); try simp only [List.setIfInBounds_toArray, List.set_cons_zero, List.set_cons_succ])
              refine px_done ?_
              rw [S_app]
              go_wp2
              go_roundg (nk - (k + 1))
              case measure => omega
              case rel => exact ⟨k + 1, by rw [HST.out, List.append_assoc], by go_num, by omega, rfl, HKD.out.tr HK3.out⟩
            · obtain rfl : nk = k := by omega
              have HF : Hid (textsW (ks.take nk) sp = textsW ks sp) := Lib.hid (by rw [HNK.out, List.take_length])
              rw [HF.out]
              have hkk : ¬ (nk : Int) < nk := by omega
              have z5 : (S (L2 ++ textsW ks sp)).size ≤ 100000000 := by rw [S_size, List.length_append]; have := HL2.out; omega
              go_wp2
              all_goals go_ret
              all_goals exact ⟨by rw [HTF.out, ← List.append_assoc, ← tail3]; rfl, HKA.out.tr (HKP.out.tr HKP2.out)⟩
  · have HSP : Hid (spW sp ar = attW xmlnsL sp) := Lib.hid (if_neg hsa)
    have t1 : ((S sp).toList == (S ar).toList) = false := by rw [S_toList, S_toList, beq_eq_false_iff_ne]; exact hsa
    have t2 : ¬ (S sp).toList = (S ar).toList := by rw [S_toList, S_toList]; exact hsa
    clear hsa
    have HSL : Hid ((escX sp).length + 9 ≤ (spW sp ar).length) := Lib.hid (by
      rw [HSP.out]
      have h1 := attW_esc xmlnsL sp
      have h2 : xmlnsL.length = 5 := rfl
      simp only [attW, List.length_append, List.length_cons, List.length_nil] at h1 ⊢
      omega)
    have z0 : (S (escX sp)).size ≤ 100000000 := by rw [S_size]; have := HSL.out; have := HL.out; have := HLEN.out; omega
    go_wp2_with fail
    refine (plain_any sp _ (by have h1 := escs_ge (spaces sp) sp; have h3 := HSL.out; have h4 := HL.out; have h5 := HLEN.out; simp only [escX] at h3; omega)).mono ?_
    rintro e2 w2 ⟨rfl, rfl⟩
    go_upto_region 4 with (fail)
    rw [head2]
    obtain ⟨L0, hL0⟩ : ∃ x, x = [60] ++ nm ++ attW xmlnsL sp := ⟨_, rfl⟩
    rw [← hL0]
    have HTL : Hid (T = L0 ++ attsW at_ ++ endW tx ks ++ (if tx = [] ∧ ks = [] then [] else textsW ks sp ++ endT nm)) := Lib.hid (by rw [hL0, HT.out, HSP.out])
    clear hL0 b0 b1 t1 t2 z0
    have b2 := HBE.out.cellV 2 rfl
    have hs0 : (S L0).size ≤ 100000000 := by
      rw [S_size]
      have h1 := congrArg List.length HTL.out
      have h2 := HL.out
      simp only [List.length_append] at h1
      omega
    go_wp2
    go_loopg [5, 6] na (fun gg o i wr => ∃ (k : Nat), o = .string (S (L0 ++ attsW (at_.take k))) ∧ i = .int .i64 k ∧ k ≤ na ∧ gg = na - k ∧ Kp0 w0 wr)
    case atStart => exact ⟨0, by rw [List.take_zero]; show _ = Value.string (S (L0 ++ [])); rw [List.append_nil], rfl, Nat.zero_le _, rfl, Kp.refl _ _⟩
    case round =>
      obtain ⟨k, rfl, rfl, hk, rfl, hkp⟩ := hrel
      have HKP := Lib.hid hkp
      have hra := HRA.out.keep hkp (fun _ _ h => h)
      have HB := Lib.hid (HBE.out.kp0 hkp)
      have b2 := HB.out.cellV 2 rfl
      clear hkp
      by_cases hlt : k < na
      · have hlt' : k < at_.length := by rw [← HNA.out]; exact hlt
        have hki : (k : Int) < na := by omega
        go_upto_region 7 with (fail)
        obtain ⟨ao, cap, h1, h2, h3, h4, h5, h6⟩ := hra
        simp only [Value.slice.injEq] at h1
        obtain ⟨rfl, -, rfl⟩ := h1
        obtain ⟨ad, rfl⟩ : ∃ ad, a2 = some ad := by
          cases a2 with
          | none => have := h5 rfl; omega
          | some ad => exact ⟨ad, rfl⟩
        obtain ⟨g1, g2⟩ := prs_get at_ k hlt'
        have c0 := (h6 ad rfl _ _ g1).2
        have c1 := (h6 ad rfl _ _ g2).2
        have c1b : wr.cell? ((ad.add (k * 2)).add 1) = some (.string (S (at_[k]).2)) := by rw [Addr.add_add]; exact c1
        have C0 : Hid (wr.cell? (ad.add (k * 2)) = some (.string (S (at_[k]).1))) := Lib.hid c0
        have C1 : Hid (wr.cell? ⟨(ad.add (k * 2)).block, (ad.add (k * 2)).off + 1, none⟩ = some (.string (S (at_[k]).2))) := Lib.hid c1b
        have HGE := Lib.hid (atts_get at_ k hlt')
        have HSTEP := Lib.hid (attsW_step at_ k hlt')
        have HLE := Lib.hid (attsW_le at_ (k + 1))
        have HESC := Lib.hid (attW_esc (at_[k]).1 (at_[k]).2)
        obtain ⟨an, hxan⟩ : ∃ x, x = (at_[k]).1 := ⟨_, rfl⟩
        obtain ⟨av, hxav⟩ : ∃ x, x = (at_[k]).2 := ⟨_, rfl⟩
        rw [← hxan, ← hxav] at HSTEP HGE HESC
        rw [← hxan] at C0
        rw [← hxav] at C1
        obtain ⟨sk, hsk⟩ : ∃ x, x = L0 ++ attsW (at_.take k) := ⟨_, rfl⟩
        have HLK : Hid (sk.length + (attW an av).length ≤ 100000000) := Lib.hid (by
          have e1 := HTL.out
          have e2 := HL.out
          have e3 := HLE.out
          rw [HSTEP.out] at e3
          rw [e1] at e2
          rw [hsk]
          simp only [List.length_append] at e2 e3 ⊢
          omega)
        have HSK : Hid (S (sk ++ attW an av) = S (L0 ++ attsW (at_.take (k + 1)))) := Lib.hid (by rw [HSTEP.out, hsk, List.append_assoc])
        rw [← hsk]
        clear hsk c0 c1 c1b h2 h4 h5 h6 g1 g2 hxan hxav b2
        have z1 : (S sk).size ≤ 100000000 := by rw [S_size]; have := HLK.out; omega
        have z2 : (S an).size ≤ 100000000 := by rw [S_size]; have := HLK.out; have := HESC.out; omega
        have z3 : (S (escX av)).size ≤ 100000000 := by rw [S_size]; have := HLK.out; have := HESC.out; omega
        refine wp_region_px 19 [] (fun w' : World => w' = wr.drew) (.quiet 0 (.quiet 1 (.quiet 2 (.quiet 3 (.quiet 4 (.quiet 5 (.quiet 6 (.quiet 7 (.quiet 8 (.quiet 9 (.quiet 10 (.quiet 11 (.quiet 12 (.quiet 13 (.quiet 14 (.eff 15 (.quiet 16 (.quiet 17 (.quiet 18 (.quiet 19 .done)))))))))))))))))))) (by kernel_rfl) (by kernel_rfl) (by kernel_rfl) (by kernel_rfl) (fun _ d _ _ _ h => by cases d <;> exact h) rfl ?_
        have HBD := Lib.hid (HB.out.kp0 (Kp.refl _ _).drew)
        have HKD := Lib.hid (HKP.out.drew)
        have D0 : Hid (wr.drew.cell? (ad.add (k * 2)) = some (.string (S an))) := Lib.hid C0.out
        have D1 : Hid (wr.drew.cell? ⟨(ad.add (k * 2)).block, (ad.add (k * 2)).off + 1, none⟩ = some (.string (S av))) := Lib.hid C1.out
        generalize wr.drew = wd at HBD HKD D0 D1 ⊢
        iterate 15 (refine px_quiet (v := ?_) rfl (by rfl) (fun wq hwq => ?_) rfl ?_; rotate_left 1; (focus (subst hwq; have q2 := HBD.out.cellV 2 rfl; have q5 := D0.out; have q6 := D1.out; go_simp; first | (with_reducible rfl) | (split <;> first | (exfalso; omega) | rfl))); try simp only [List.setIfInBounds_toArray, List.set_cons_zero, List.set_cons_succ])
        refine px_eff rfl (by rfl) (fun K hK => ?_)
        go_simp
        refine (plain_any av _ (by have h1 := escs_ge (spaces av) av; have h2 := HESC.out; have h3 := HLK.out; simp only [escX] at h2; omega)).mono ?_
        rintro e2 w2 ⟨rfl, rfl⟩
        simp only []
        refine hK (fun w' : World => w' = wd) _ _ (fun _ h => h) rfl ?_
        clear hK K
        iterate 4 (refine px_quiet (v := ?_) rfl (by rfl) (fun wq hwq => ?_) rfl ?_; rotate_left 1; (focus (subst hwq; go_simp; first | (with_reducible rfl) | (split <;> first | (exfalso; omega) | rfl))); try simp only [List.setIfInBounds_toArray, List.set_cons_zero, List.set_cons_succ])
        refine px_done ?_
        rw [attr1]
        go_wp2
        go_roundg (na - (k + 1))
        case measure => omega
        case rel => exact ⟨k + 1, by rw [HSK.out], by go_num, by omega, rfl, HKD.out⟩
      · obtain rfl : na = k := by omega
        have HF : Hid (attsW (at_.take na) = attsW at_) := Lib.hid (by rw [HNA.out, List.take_length])
        rw [HF.out]
        obtain ⟨L1, hL1⟩ : ∃ x, x = L0 ++ attsW at_ := ⟨_, rfl⟩
        rw [← hL1]
        have HTL1 : Hid (T = L1 ++ endW tx ks ++ (if tx = [] ∧ ks = [] then [] else textsW ks sp ++ endT nm)) := Lib.hid (by rw [hL1]; exact HTL.out)
        have z1 : (S L1).size ≤ 100000000 := by
          rw [S_size]
          have h1 := congrArg List.length HTL1.out
          have h2 := HL.out
          simp only [List.length_append] at h1
          omega
        have b3 := HB.out.cellV 3 rfl
        have b4 := HB.out.cellV 4 rfl
        have b1 := HB.out.cellV 1 rfl
        have hkk : ¬ (na : Int) < na := by omega
        clear hL1 hra
        cases tx with
        | nil =>
          have t3 : (S ([] : List UInt8)).toList = [] := S_toList _
          have t4 : ((S ([] : List UInt8)).toList == []) = true := by rw [S_toList]; rfl
          by_cases hnk : nk = 0
          · have hks : ks = [] := List.eq_nil_of_length_eq_zero (by rw [← HNK.out]; exact hnk)
            have HTF : Hid (T = L1 ++ [47, 62]) := Lib.hid (by rw [HTL1.out, if_pos ⟨rfl, hks⟩, show endW ([] : List UInt8) ks = [47, 62] from if_pos ⟨rfl, hks⟩, List.append_nil])
            have hnki : ((nk : Int) == 0) = true := by rw [beq_iff_eq]; omega
            clear hks hnk
            go_wp2
            all_goals go_ret
            all_goals exact ⟨by rw [HTF.out, ← tail1]; rfl, HKA.out.tr HKP.out⟩
          · have hks : ¬ ks = [] := fun e => hnk (by rw [HNK.out, e]; rfl)
            have HTF : Hid (T = L1 ++ ([62] ++ escX []) ++ (textsW ks sp ++ endT nm)) := Lib.hid (by rw [HTL1.out, if_neg (fun h => hks h.2), show endW ([] : List UInt8) ks = [62] ++ escX [] from if_neg (fun h => hks h.2)])
            have hnki : ((nk : Int) == 0) = false := by rw [beq_eq_false_iff_ne]; omega
            clear hks hnk
            obtain ⟨tx, htx⟩ : ∃ x : List UInt8, x = [] := ⟨_, rfl⟩
            have HTF : Hid (T = L1 ++ ([62] ++ escX tx) ++ (textsW ks sp ++ endT nm)) := Lib.hid (by rw [HTF.out, htx])
            have HTX := Lib.hid htx
            clear htx
            go_wp2_with fail
            rw [show S ([] : List UInt8) = S tx by rw [HTX.out]]
            have HLB : Hid (L1.length + (escX tx).length + (textsW ks sp).length + nm.length + 4 ≤ 100000000) := Lib.hid (by
              have h1 := congrArg List.length HTF.out
              have h2 := HL.out
              simp only [List.length_append, endT, List.length_cons, List.length_nil] at h1
              omega)
            have z3 : (S (escX tx)).size ≤ 100000000 := by rw [S_size]; have := HLB.out; omega
            refine (plain_any tx _ (by have h1 := escs_ge (spaces tx) tx; have h3 := HLB.out; simp only [escX] at h3; omega)).mono ?_
            rintro e2 w2 ⟨rfl, rfl⟩
            go_upto_region 11 with (fail)
            rw [tail2]
            obtain ⟨L2, hL2⟩ : ∃ x, x = L1 ++ ([62] ++ escX tx) := ⟨_, rfl⟩
            rw [← hL2] at HTF ⊢
            have HL2 : Hid (L2.length + (textsW ks sp).length + nm.length + 3 ≤ 100000000) := Lib.hid (by
              rw [hL2]
              have h1 := HLB.out
              simp only [List.length_append, List.length_cons, List.length_nil]
              omega)
            have z4 : (S L2).size ≤ 100000000 := by rw [S_size]; have := HL2.out; omega
            have hnkb : (nk : Int) ≤ 100000000 := by have h1 := textsW_ge sp ks; have h2 := HL2.out; have h3 := HNK.out; omega
            clear hL2 z3
            go_wp2
            go_loopg [5, 7] nk (fun gg o i wk => ∃ (k : Nat), o = .string (S (L2 ++ textsW (ks.take k) sp)) ∧ i = .int .i64 k ∧ k ≤ nk ∧ gg = nk - k ∧ Kp0 wr wk)
            case atStart => exact ⟨0, by rw [List.take_zero]; show _ = Value.string (S (L2 ++ [])); rw [List.append_nil], rfl, Nat.zero_le _, rfl, Kp.refl _ _⟩
            case round =>
              obtain ⟨k, rfl, rfl, hk, rfl, hkp2⟩ := hrel
              have HKP2 := Lib.hid hkp2
              have HB2 := Lib.hid (HB.out.kp0 hkp2)
              have b4 := HB2.out.cellV 4 rfl
              have b1 := HB2.out.cellV 1 rfl
              clear hkp2
              by_cases hlt : k < nk
              · have hlt' : k < ks.length := by rw [← HNK.out]; exact hlt
                have hki : (k : Int) < nk := by omega
                have hrk := HRK.out.keep (HKP.out.tr HKP2.out) (fun _ _ h => h)
                have hek := ElsV.keep (HKP.out.tr HKP2.out) (fun _ _ h => h) (fun _ h => h) _ _ HEK.out
                obtain ⟨d0, d1, d2, d3, d4, g0, g1, g2, g3, g4, hkv⟩ := ElsV.get ks cs hek k hlt'
                obtain ⟨ao, cap, h1, h2, h3, h4, h5, h6⟩ := hrk
                simp only [Value.slice.injEq] at h1
                obtain ⟨rfl, -, rfl⟩ := h1
                obtain ⟨ad, rfl⟩ : ∃ ad, a4 = some ad := by
                  cases a4 with
                  | none => have := h5 rfl; omega
                  | some ad => exact ⟨ad, rfl⟩
                have c0 := (h6 ad rfl _ _ g0).2
                have c1 : wr.cell? ((ad.add (k * 5)).add 1) = some d1 := by rw [Addr.add_add]; exact (h6 ad rfl _ _ g1).2
                have c2 : wr.cell? ((ad.add (k * 5)).add 2) = some d2 := by rw [Addr.add_add]; exact (h6 ad rfl _ _ g2).2
                have c3 : wr.cell? ((ad.add (k * 5)).add 3) = some d3 := by rw [Addr.add_add]; exact (h6 ad rfl _ _ g3).2
                have c4 : wr.cell? ((ad.add (k * 5)).add 4) = some d4 := by rw [Addr.add_add]; exact (h6 ad rfl _ _ g4).2
                obtain ⟨kid, hkid⟩ : ∃ x, x = ks[k] := ⟨_, rfl⟩
                have HIK : Hid (WrC kid) := Lib.hid (by rw [hkid]; exact HIH.out k hlt')
                have HST : Hid (textsW (ks.take (k + 1)) sp = textsW (ks.take k) sp ++ textW kid sp) := Lib.hid (by rw [hkid]; exact textsW_step _ _ _ hlt')
                have HTO : Hid ((textW kid sp).length ≤ (textsW ks sp).length ∧ (textsW (ks.take (k + 1)) sp).length ≤ (textsW ks sp).length) := Lib.hid ⟨by rw [hkid]; exact textW_one _ _ _ hlt', textsW_le _ _ _⟩
                rw [← hkid] at hkv
                clear hkid
                obtain ⟨ksp, knm, kat, ktx, kks⟩ := kid
                have HKV := Lib.hid hkv
                unfold ElV at hkv
                obtain ⟨rfl, rfl, hka, rfl, kcs, hkk, -⟩ := hkv
                obtain ⟨ka2, kp2, rfl, -⟩ := hka.sl
                obtain ⟨ka4, kp4, rfl, -⟩ := hkk.sl
                have b0 := HB2.out.cellV 0 rfl
                go_upto_region 14 with (fail)
                have C0 : Hid (wr.cell? (ad.add (k * 5)) = _) := Lib.hid c0
                have C1 : Hid (wr.cell? ⟨(ad.add (k * 5)).block, (ad.add (k * 5)).off + 1, none⟩ = _) := Lib.hid c1
                have C2 : Hid (wr.cell? ⟨(ad.add (k * 5)).block, (ad.add (k * 5)).off + 2, none⟩ = _) := Lib.hid c2
                have C3 : Hid (wr.cell? ⟨(ad.add (k * 5)).block, (ad.add (k * 5)).off + 3, none⟩ = _) := Lib.hid c3
                have C4 : Hid (wr.cell? ⟨(ad.add (k * 5)).block, (ad.add (k * 5)).off + 4, none⟩ = _) := Lib.hid c4
                clear c0 c1 c2 c3 c4 g0 g1 g2 g3 g4 h2 h4 h5 h6 hka hkk hek b0 b1 b4
                have z5 : (S (L2 ++ textsW (ks.take k) sp)).size ≤ 100000000 := by
                  rw [S_size, List.length_append]
                  have h1 := HTO.out.2
                  rw [HST.out, List.length_append] at h1
                  have := HL2.out
                  omega
                have z6 : (S (textW (.mk ksp knm kat ktx kks) sp)).size ≤ 100000000 := by rw [S_size]; have := HTO.out.1; have := HL2.out; omega
                refine wp_region_px 10 [] (fun w' : World => Kp0 wr.drew w') (.quiet 0 (.quiet 1 (.quiet 2 (.quiet 3 (.quiet 4 (.quiet 5 (.quiet 6 (.quiet 7 (.eff 8 (.quiet 9 (.quiet 10 .done))))))))))) (by kernel_rfl) (by kernel_rfl) (by kernel_rfl) (by kernel_rfl) (fun _ d _ _ _ h => by cases d <;> exact h) (Kp.refl _ _) ?_
                have HBD := Lib.hid (HB2.out.kp0 (Kp.refl _ _).drew)
                have HKD := Lib.hid (HKP2.out.drew)
                have D0 : Hid (wr.drew.cell? (ad.add (k * 5)) = _) := Lib.hid C0.out
                have D1 : Hid (wr.drew.cell? ⟨(ad.add (k * 5)).block, (ad.add (k * 5)).off + 1, none⟩ = _) := Lib.hid C1.out
                have D2 : Hid (wr.drew.cell? ⟨(ad.add (k * 5)).block, (ad.add (k * 5)).off + 2, none⟩ = _) := Lib.hid C2.out
                have D3 : Hid (wr.drew.cell? ⟨(ad.add (k * 5)).block, (ad.add (k * 5)).off + 3, none⟩ = _) := Lib.hid C3.out
                have D4 : Hid (wr.drew.cell? ⟨(ad.add (k * 5)).block, (ad.add (k * 5)).off + 4, none⟩ = _) := Lib.hid C4.out
                have HVD : Hid (ElV F wr.drew (.mk ksp knm kat ktx kks) (.string (S ksp)) (.string (S knm)) (.slice ka2 kat.length kp2) (.string (S ktx)) (.slice ka4 kks.length kp4)) := Lib.hid (ElV.keep (Kp.refl (fun _ => False) wr).drew (fun _ _ h => h) (fun _ h => h) _ _ _ _ _ _ HKV.out)
                generalize wr.drew = wd at HBD HKD D0 D1 D2 D3 D4 HVD ⊢
                iterate 8 (refine px_quiet (v := ?_) rfl (by rfl) (fun wq hwq => ?_) rfl ?_; rotate_left 1; (focus (have hbq := HBD.out.kp0 hwq; have q0 := hbq.cellV 0 rfl; have q4 := hbq.cellV 4 rfl; have r0 := hwq.cell D0.out (fun h => h); have r1 := hwq.cell D1.out (fun h => h); have r2 := hwq.cell D2.out (fun h => h); have r3 := hwq.cell D3.out (fun h => h); have r4 := hwq.cell D4.out (fun h => h); go_simp; first | (with_reducible rfl) | (split <;> first | (exfalso; omega) | rfl))); try simp only [List.setIfInBounds_toArray, List.set_cons_zero, List.set_cons_succ])
                refine px_eff rfl (by rfl) (fun K hK => ?_)
                go_simp
                refine (HIK.out F _ _ _ _ _ sp _ HVD.out (by have := HTO.out.1; have := HL2.out; omega)).mono ?_
                rintro e3 w3 ⟨rfl, hk3⟩
                have HK3 := Lib.hid hk3
                simp only []
                refine hK (fun w' : World => Kp0 wd w') _ _ (fun _ h => h) hk3 ?_
                clear hK K hk3
                iterate 2 (refine px_quiet (v := ?_) rfl (by rfl) (fun wq hwq => ?_) rfl ?_; rotate_left 1; (focus (clear hwq; go_simp; first | (with_reducible rfl) | (split <;> first | (exfalso; omega) | rfl))); try simp only [List.setIfInBounds_toArray, List.set_cons_zero, List.set_cons_succ])
                refine px_done ?_
                rw [S_app]
                go_wp2
                go_roundg (nk - (k + 1))
                case measure => omega
                case rel => exact ⟨k + 1, by rw [HST.out, List.append_assoc], by go_num, by omega, rfl, HKD.out.tr HK3.out⟩
              · obtain rfl : nk = k := by omega
                have HF : Hid (textsW (ks.take nk) sp = textsW ks sp) := Lib.hid (by rw [HNK.out, List.take_length])
                rw [HF.out]
                have hkk : ¬ (nk : Int) < nk := by omega
                have z5 : (S (L2 ++ textsW ks sp)).size ≤ 100000000 := by rw [S_size, List.length_append]; have := HL2.out; omega
                go_wp2
                all_goals go_ret
                all_goals exact ⟨by rw [HTF.out, ← List.append_assoc, ← tail3]; rfl, HKA.out.tr (HKP.out.tr HKP2.out)⟩
        | cons ch tx =>
          have t3 : ¬ (S (ch :: tx)).toList = [] := by rw [S_toList]; simp
          have t4 : ((S (ch :: tx)).toList == []) = false := by rw [S_toList]; rfl
          have HTF : Hid (T = L1 ++ ([62] ++ escX (ch :: tx)) ++ (textsW ks sp ++ endT nm)) := Lib.hid (by rw [HTL1.out, if_neg (by simp), show endW (ch :: tx) ks = [62] ++ escX (ch :: tx) from if_neg (fun h => by cases h.1)])
          generalize (ch :: tx) = tx at *
          go_wp2_with fail
          have HLB : Hid (L1.length + (escX tx).length + (textsW ks sp).length + nm.length + 4 ≤ 100000000) := Lib.hid (by
            have h1 := congrArg List.length HTF.out
            have h2 := HL.out
            simp only [List.length_append, endT, List.length_cons, List.length_nil] at h1
            omega)
          have z3 : (S (escX tx)).size ≤ 100000000 := by rw [S_size]; have := HLB.out; omega
          refine (plain_any tx _ (by have h1 := escs_ge (spaces tx) tx; have h3 := HLB.out; simp only [escX] at h3; omega)).mono ?_
          rintro e2 w2 ⟨rfl, rfl⟩
          go_upto_region 11 with (fail)
          rw [tail2]
          obtain ⟨L2, hL2⟩ : ∃ x, x = L1 ++ ([62] ++ escX tx) := ⟨_, rfl⟩
          rw [← hL2] at HTF ⊢
          have HL2 : Hid (L2.length + (textsW ks sp).length + nm.length + 3 ≤ 100000000) := Lib.hid (by
            rw [hL2]
            have h1 := HLB.out
            simp only [List.length_append, List.length_cons, List.length_nil]
            omega)
          have z4 : (S L2).size ≤ 100000000 := by rw [S_size]; have := HL2.out; omega
          have hnkb : (nk : Int) ≤ 100000000 := by have h1 := textsW_ge sp ks; have h2 := HL2.out; have h3 := HNK.out; omega
          clear hL2 z3
          go_wp2
          go_loopg [5, 7] nk (fun gg o i wk => ∃ (k : Nat), o = .string (S (L2 ++ textsW (ks.take k) sp)) ∧ i = .int .i64 k ∧ k ≤ nk ∧ gg = nk - k ∧ Kp0 wr wk)
          case atStart => exact ⟨0, by rw [List.take_zero]; show _ = Value.string (S (L2 ++ [])); rw [List.append_nil], rfl, Nat.zero_le _, rfl, Kp.refl _ _⟩
          case round =>
            obtain ⟨k, rfl, rfl, hk, rfl, hkp2⟩ := hrel
            have HKP2 := Lib.hid hkp2
            have HB2 := Lib.hid (HB.out.kp0 hkp2)
            have b4 := HB2.out.cellV 4 rfl
            have b1 := HB2.out.cellV 1 rfl
            clear hkp2
            by_cases hlt : k < nk
            · have hlt' : k < ks.length := by rw [← HNK.out]; exact hlt
              have hki : (k : Int) < nk := by omega
              have hrk := HRK.out.keep (HKP.out.tr HKP2.out) (fun _ _ h => h)
              have hek := ElsV.keep (HKP.out.tr HKP2.out) (fun _ _ h => h) (fun _ h => h) _ _ HEK.out
              obtain ⟨d0, d1, d2, d3, d4, g0, g1, g2, g3, g4, hkv⟩ := ElsV.get ks cs hek k hlt'
              obtain ⟨ao, cap, h1, h2, h3, h4, h5, h6⟩ := hrk
              simp only [Value.slice.injEq] at h1
              obtain ⟨rfl, -, rfl⟩ := h1
              obtain ⟨ad, rfl⟩ : ∃ ad, a4 = some ad := by
                cases a4 with
                | none => have := h5 rfl; omega
                | some ad => exact ⟨ad, rfl⟩
              have c0 := (h6 ad rfl _ _ g0).2
              have c1 : wr.cell? ((ad.add (k * 5)).add 1) = some d1 := by rw [Addr.add_add]; exact (h6 ad rfl _ _ g1).2
              have c2 : wr.cell? ((ad.add (k * 5)).add 2) = some d2 := by rw [Addr.add_add]; exact (h6 ad rfl _ _ g2).2
              have c3 : wr.cell? ((ad.add (k * 5)).add 3) = some d3 := by rw [Addr.add_add]; exact (h6 ad rfl _ _ g3).2
              have c4 : wr.cell? ((ad.add (k * 5)).add 4) = some d4 := by rw [Addr.add_add]; exact (h6 ad rfl _ _ g4).2
              obtain ⟨kid, hkid⟩ : ∃ x, x = ks[k] := ⟨_, rfl⟩
              have HIK : Hid (WrC kid) := Lib.hid (by rw [hkid]; exact HIH.out k hlt')
              have HST : Hid (textsW (ks.take (k + 1)) sp = textsW (ks.take k) sp ++ textW kid sp) := Lib.hid (by rw [hkid]; exact textsW_step _ _ _ hlt')
              have HTO : Hid ((textW kid sp).length ≤ (textsW ks sp).length ∧ (textsW (ks.take (k + 1)) sp).length ≤ (textsW ks sp).length) := Lib.hid ⟨by rw [hkid]; exact textW_one _ _ _ hlt', textsW_le _ _ _⟩
              rw [← hkid] at hkv
              clear hkid
              obtain ⟨ksp, knm, kat, ktx, kks⟩ := kid
              have HKV := Lib.hid hkv
              unfold ElV at hkv
              obtain ⟨rfl, rfl, hka, rfl, kcs, hkk, -⟩ := hkv
              obtain ⟨ka2, kp2, rfl, -⟩ := hka.sl
              obtain ⟨ka4, kp4, rfl, -⟩ := hkk.sl
              have b0 := HB2.out.cellV 0 rfl
              go_upto_region 14 with (fail)
              have C0 : Hid (wr.cell? (ad.add (k * 5)) = _) := Lib.hid c0
              have C1 : Hid (wr.cell? ⟨(ad.add (k * 5)).block, (ad.add (k * 5)).off + 1, none⟩ = _) := Lib.hid c1
              have C2 : Hid (wr.cell? ⟨(ad.add (k * 5)).block, (ad.add (k * 5)).off + 2, none⟩ = _) := Lib.hid c2
              have C3 : Hid (wr.cell? ⟨(ad.add (k * 5)).block, (ad.add (k * 5)).off + 3, none⟩ = _) := Lib.hid c3
              have C4 : Hid (wr.cell? ⟨(ad.add (k * 5)).block, (ad.add (k * 5)).off + 4, none⟩ = _) := Lib.hid c4
              clear c0 c1 c2 c3 c4 g0 g1 g2 g3 g4 h2 h4 h5 h6 hka hkk hek b0 b1 b4
              have z5 : (S (L2 ++ textsW (ks.take k) sp)).size ≤ 100000000 := by
                rw [S_size, List.length_append]
                have h1 := HTO.out.2
                rw [HST.out, List.length_append] at h1
                have := HL2.out
                omega
              have z6 : (S (textW (.mk ksp knm kat ktx kks) sp)).size ≤ 100000000 := by rw [S_size]; have := HTO.out.1; have := HL2.out; omega
              refine wp_region_px 10 [] (fun w' : World => Kp0 wr.drew w') (.quiet 0 (.quiet 1 (.quiet 2 (.quiet 3 (.quiet 4 (.quiet 5 (.quiet 6 (.quiet 7 (.eff 8 (.quiet 9 (.quiet 10 .done))))))))))) (by kernel_rfl) (by kernel_rfl) (by kernel_rfl) (by kernel_rfl) (fun _ d _ _ _ h => by cases d <;> exact h) (Kp.refl _ _) ?_
              have HBD := Lib.hid (HB2.out.kp0 (Kp.refl _ _).drew)
              have HKD := Lib.hid (HKP2.out.drew)
              have D0 : Hid (wr.drew.cell? (ad.add (k * 5)) = _) := Lib.hid C0.out
              have D1 : Hid (wr.drew.cell? ⟨(ad.add (k * 5)).block, (ad.add (k * 5)).off + 1, none⟩ = _) := Lib.hid C1.out
              have D2 : Hid (wr.drew.cell? ⟨(ad.add (k * 5)).block, (ad.add (k * 5)).off + 2, none⟩ = _) := Lib.hid C2.out
              have D3 : Hid (wr.drew.cell? ⟨(ad.add (k * 5)).block, (ad.add (k * 5)).off + 3, none⟩ = _) := Lib.hid C3.out
              have D4 : Hid (wr.drew.cell? ⟨(ad.add (k * 5)).block, (ad.add (k * 5)).off + 4, none⟩ = _) := Lib.hid C4.out
              have HVD : Hid (ElV F wr.drew (.mk ksp knm kat ktx kks) (.string (S ksp)) (.string (S knm)) (.slice ka2 kat.length kp2) (.string (S ktx)) (.slice ka4 kks.length kp4)) := Lib.hid (ElV.keep (Kp.refl (fun _ => False) wr).drew (fun _ _ h => h) (fun _ h => h) _ _ _ _ _ _ HKV.out)
              generalize wr.drew = wd at HBD HKD D0 D1 D2 D3 D4 HVD ⊢
              iterate 8 (refine px_quiet (v := ?_) rfl (by rfl) (fun wq hwq => ?_) rfl ?_; rotate_left 1; (focus (have hbq := HBD.out.kp0 hwq; have q0 := hbq.cellV 0 rfl; have q4 := hbq.cellV 4 rfl; have r0 := hwq.cell D0.out (fun h => h); have r1 := hwq.cell D1.out (fun h => h); have r2 := hwq.cell D2.out (fun h => h); have r3 := hwq.cell D3.out (fun h => h); have r4 := hwq.cell D4.out (fun h => h); go_simp; first | (with_reducible rfl) | (split <;> first | (exfalso; omega) | rfl))); try simp only [List.setIfInBounds_toArray, List.set_cons_zero, List.set_cons_succ])
              refine px_eff rfl (by rfl) (fun K hK => ?_)
              go_simp
              refine (HIK.out F _ _ _ _ _ sp _ HVD.out (by have := HTO.out.1; have := HL2.out; omega)).mono ?_
              rintro e3 w3 ⟨rfl, hk3⟩
              have HK3 := Lib.hid hk3
              simp only []
              refine hK (fun w' : World => Kp0 wd w') _ _ (fun _ h => h) hk3 ?_
              clear hK K hk3
              iterate 2 (refine px_quiet (v := ?_) rfl (by rfl) (fun wq hwq => ?_) rfl ?_; rotate_left 1; (focus (clear hwq; go_simp; first | (with_reducible rfl) | (split <;> first | (exfalso; omega) | rfl))); try simp only [List.setIfInBounds_toArray, List.set_cons_zero, List.set_cons_succ])
              refine px_done ?_
              rw [S_app]
              go_wp2
              go_roundg (nk - (k + 1))
              case measure => omega
              case rel => exact ⟨k + 1, by rw [HST.out, List.append_assoc], by go_num, by omega, rfl, HKD.out.tr HK3.out⟩
            · obtain rfl : nk = k := by omega
              have HF : Hid (textsW (ks.take nk) sp = textsW ks sp) := Lib.hid (by rw [HNK.out, List.take_length])
              rw [HF.out]
              have hkk : ¬ (nk : Int) < nk := by omega
              have z5 : (S (L2 ++ textsW ks sp)).size ≤ 100000000 := by rw [S_size, List.length_append]; have := HL2.out; omega
              go_wp2
              all_goals go_ret
              all_goals exact ⟨by rw [HTF.out, ← List.append_assoc, ← tail3]; rfl, HKA.out.tr (HKP.out.tr HKP2.out)⟩
theorem nodes_get2 : ∀ (l : List PE) (i : Nat) (h : i < l.length), nodes (l[i]) ≤ nodesL l
  | [], i, h => by simp at h
  | a :: l, 0, h => by simp only [List.getElem_cons_zero, nodesL]; omega
  | a :: l, i + 1, h => by have := nodes_get2 l i (by simpa using h); simp only [List.getElem_cons_succ, nodesL]; omega
theorem write_any : ∀ (n : Nat) (e : PE), nodes e ≤ n → WrC e
  | 0, .mk sp nm at_ tx ks, h => by
    have h3 : nodes (.mk sp nm at_ tx ks) = 2 + nodesL ks := by rw [nodes]
    omega
  | n + 1, .mk sp nm at_ tx ks, h => by
    have h3 : nodes (.mk sp nm at_ tx ks) = 2 + nodesL ks := by rw [nodes]
    exact write_step sp nm at_ tx ks (fun i hi => write_any n (ks[i]) (by have := nodes_get2 ks i hi; omega))
end Go.Proofs.YtchmookggegmnaaGreatDoor
namespace Go.Proofs.YtchmookggegmnaaGreatDoor
open Go Go.RowKit
def SmC (e : PE) : Prop := ∀ (F : Nat → Prop) (c0 c1 c2 c3 c4 : Value) (n : Int) (w : World), ElV F w e c0 c1 c2 c3 c4 →
  Calls Tryz.prog 7 #[.agg #[c0, c1, c2, c3, c4], .int .i64 n] w fun e' w' => (∃ m, e' = .returned (.int .i64 m)) ∧ Kp0 w w'
set_option maxRecDepth 20000 in
set_option maxHeartbeats 8000000 in
theorem small_step (sp nm : List UInt8) (at_ : List (List UInt8 × List UInt8)) (tx : List UInt8) (ks : List PE) (hkl : ks.length ≤ 100000000) (ih : ∀ (i : Nat) (h : i < ks.length), SmC (ks[i])) : SmC (.mk sp nm at_ tx ks) := by
  intro F c0 c1 c2 c3 c4 n w he
  have HIH := Lib.hid ih
  unfold ElV at he
  obtain ⟨rfl, rfl, hra, rfl, cs, hrk, hek⟩ := he
  obtain ⟨a2, p2, rfl, hp2, -⟩ := hra.sl
  obtain ⟨a4, p4, rfl, hp4, -⟩ := hrk.sl
  obtain ⟨eb, heb⟩ : ∃ g, g = w.heap.size := ⟨_, rfl⟩
  obtain ⟨w0, hw0⟩ : ∃ x, x = w.alloc (.cells #[.string (S sp), .string (S nm), .slice a2 at_.length p2, .string (S tx), .slice a4 ks.length p4] 25) := ⟨_, rfl⟩
  have hkA : Kp0 w w0 := by rw [hw0]; exact (Kp.refl _ _).alloc _
  have HBE : Hid (Blk w0 eb 25 [.string (S sp), .string (S nm), .slice a2 at_.length p2, .string (S tx), .slice a4 ks.length p4]) := Lib.hid (by rw [hw0, heb]; exact blk0 w _ _)
  have HKA := Lib.hid hkA
  have HRK := Lib.hid (hrk.keep hkA (fun _ _ h => h))
  have HEK := Lib.hid (ElsV.keep hkA (fun _ _ h => h) (fun _ h => h) _ _ hek)
  obtain ⟨nk, hnk⟩ : ∃ n, n = ks.length := ⟨_, rfl⟩
  have HNK := Lib.hid hnk
  rw [← hnk] at HRK HBE hw0 ⊢
  have hnkb : (nk : Int) ≤ 100000000 := by omega
  have hnki2 : (nk : Int) ≤ p4 := by omega
  clear hra hrk hek hkA hp2 hp4 hnk hkl ih
  have b0 := HBE.out.cellV 0 rfl
  have b1 := HBE.out.cellV 1 rfl
  have b2 := HBE.out.cellV 2 rfl
  have b3 := HBE.out.cellV 3 rfl
  have b4 := HBE.out.cellV 4 rfl
  go_enter Tryz.func7, Tryz.ntmps7
  go_upto_region 1 with (fail)
  rw [← hw0, ← heb]
  clear hw0 heb
  go_upto_region 2 with (fail)
  go_wp2
  go_loopg [1, 29] nk (fun gg m i wr => ∃ (k : Nat) (mv : Int), m = .int .i64 mv ∧ i = .int .i64 k ∧ k ≤ nk ∧ gg = nk - k ∧ Kp0 w0 wr)
  case atStart => exact ⟨0, _, rfl, rfl, Nat.zero_le _, rfl, Kp.refl _ _⟩
  case round =>
    obtain ⟨k, mv, rfl, rfl, hk, rfl, hkp⟩ := hrel
    have HKP := Lib.hid hkp
    clear b0 b1 b2 b3 b4
    by_cases hlt : k < nk
    · have hlt' : k < ks.length := by rw [← HNK.out]; exact hlt
      have hki : (k : Int) < nk := by omega
      have hrk := HRK.out.keep hkp (fun _ _ h => h)
      have hek := ElsV.keep hkp (fun _ _ h => h) (fun _ h => h) _ _ HEK.out
      obtain ⟨d0, d1, d2, d3, d4, g0, g1, g2, g3, g4, hkv⟩ := ElsV.get ks cs hek k hlt'
      obtain ⟨ao, cap, h1, h2, h3, h4, h5, h6⟩ := hrk
      simp only [Value.slice.injEq] at h1
      obtain ⟨rfl, -, rfl⟩ := h1
      obtain ⟨ad, rfl⟩ : ∃ ad, a4 = some ad := by
        cases a4 with
        | none => have := h5 rfl; omega
        | some ad => exact ⟨ad, rfl⟩
      have c0 := (h6 ad rfl _ _ g0).2
      have c1 : wr.cell? ((ad.add (k * 5)).add 1) = some d1 := by rw [Addr.add_add]; exact (h6 ad rfl _ _ g1).2
      have c2 : wr.cell? ((ad.add (k * 5)).add 2) = some d2 := by rw [Addr.add_add]; exact (h6 ad rfl _ _ g2).2
      have c3 : wr.cell? ((ad.add (k * 5)).add 3) = some d3 := by rw [Addr.add_add]; exact (h6 ad rfl _ _ g3).2
      have c4 : wr.cell? ((ad.add (k * 5)).add 4) = some d4 := by rw [Addr.add_add]; exact (h6 ad rfl _ _ g4).2
      obtain ⟨kid, hkid⟩ : ∃ x, x = ks[k] := ⟨_, rfl⟩
      have HIK : Hid (SmC kid) := Lib.hid (by rw [hkid]; exact HIH.out k hlt')
      rw [← hkid] at hkv
      clear hkid
      obtain ⟨ksp, knm, kat, ktx, kks⟩ := kid
      have HKV := Lib.hid hkv
      unfold ElV at hkv
      obtain ⟨rfl, rfl, hka, rfl, kcs, hkk, -⟩ := hkv
      obtain ⟨ka2, kp2, rfl, -⟩ := hka.sl
      obtain ⟨ka4, kp4, rfl, -⟩ := hkk.sl
      have C1 : wr.cell? ⟨(ad.add (k * 5)).block, (ad.add (k * 5)).off + 1, none⟩ = _ := c1
      have C2 : wr.cell? ⟨(ad.add (k * 5)).block, (ad.add (k * 5)).off + 2, none⟩ = _ := c2
      have C3 : wr.cell? ⟨(ad.add (k * 5)).block, (ad.add (k * 5)).off + 3, none⟩ = _ := c3
      have C4 : wr.cell? ⟨(ad.add (k * 5)).block, (ad.add (k * 5)).off + 4, none⟩ = _ := c4
      have hk2 : Kp0 wr (wr.alloc (.cells #[.string (S ksp), .string (S knm), .slice ka2 kat.length kp2, .string (S ktx), .slice ka4 kks.length kp4] 25)) := (Kp.refl _ _).alloc _
      have HK2 := Lib.hid (hkp.tr hk2)
      have HVD := Lib.hid (ElV.keep hk2 (fun _ _ h => h) (fun _ h => h) _ _ _ _ _ _ HKV.out)
      clear c1 c2 c3 c4 g0 g1 g2 g3 g4 h2 h4 h5 h6 hka hkk hek hk2 hkp
      by_cases hneg : mv < 0
      · go_wp2
        all_goals go_ret
        all_goals exact ⟨⟨_, rfl⟩, HKA.out.tr HK2.out⟩
      · go_wp2_with fail
        refine (HIK.out F _ _ _ _ _ mv _ HVD.out).mono ?_
        rintro e3 w3 ⟨⟨m3, rfl⟩, hk3⟩
        have HK3 := Lib.hid (HK2.out.tr hk3)
        clear hk3
        go_wp2
        go_roundg (nk - (k + 1))
        case measure => omega
        case rel => exact ⟨k + 1, m3, rfl, by go_num, by omega, rfl, HK3.out⟩
    · obtain rfl : nk = k := by omega
      have hkk : ¬ (nk : Int) < nk := by omega
      clear hkp
      go_wp2
      all_goals go_ret
      all_goals exact ⟨⟨_, rfl⟩, HKA.out.tr HKP.out⟩
theorem nodes_get : ∀ (l : List PE) (i : Nat) (h : i < l.length), nodes (l[i]) ≤ nodesL l
  | [], i, h => by simp at h
  | a :: l, 0, h => by simp only [List.getElem_cons_zero, nodesL]; omega
  | a :: l, i + 1, h => by have := nodes_get l i (by simpa using h); simp only [List.getElem_cons_succ, nodesL]; omega
theorem nodes_len : ∀ l : List PE, l.length ≤ nodesL l
  | [] => by simp
  | .mk sp nm at_ tx ks :: l => by have := nodes_len l; simp only [List.length_cons, nodesL, nodes]; omega
theorem small_any : ∀ (n : Nat) (e : PE), nodes e ≤ n → n ≤ 100000000 → SmC e
  | 0, .mk sp nm at_ tx ks, h, _ => by have h3 : nodes (.mk sp nm at_ tx ks) = 2 + nodesL ks := by rw [nodes]
                                       omega
  | n + 1, .mk sp nm at_ tx ks, h, hn => by
    have h3 : nodes (.mk sp nm at_ tx ks) = 2 + nodesL ks := by rw [nodes]
    have h4 := nodes_len ks
    exact small_step sp nm at_ tx ks (by omega) (fun i hi => small_any n (ks[i]) (by have := nodes_get ks i hi; omega) (by omega))
end Go.Proofs.YtchmookggegmnaaGreatDoor
namespace Go.Proofs.YtchmookggegmnaaGreatDoor
open Go Go.RowKit
set_option maxRecDepth 20000 in
set_option maxHeartbeats 4000000 in
theorem refText_any (F : Nat → Prop) (e : PE) (c0 c1 c2 c3 c4 : Value) (w : World) (he : ElV F w e c0 c1 c2 c3 c4) (hl : (textW e []).length ≤ 100000000) :
    Calls Tryz.prog 9 #[.agg #[c0, c1, c2, c3, c4]] w fun e' w' => e' = .returned (.string (S (textW e []))) ∧ Kp0 w w' := by
  obtain ⟨T, hT⟩ : ∃ x, x = textW e [] := ⟨_, rfl⟩
  have hW := write_any (nodes e) e (Nat.le_refl _)
  obtain ⟨sp, nm, at_, tx, ks⟩ := e
  have HW := Lib.hid (fun w' h => hW F c0 c1 c2 c3 c4 [] w' h hl)
  rw [← hT] at HW ⊢
  have he2 := he
  unfold ElV at he2
  obtain ⟨rfl, rfl, hra, rfl, cs, hrk, -⟩ := he2
  obtain ⟨a2, p2, rfl, -⟩ := hra.sl
  obtain ⟨a4, p4, rfl, -⟩ := hrk.sl
  obtain ⟨w0, hw0⟩ : ∃ x, x = w.alloc (.cells #[.string (S sp), .string (S nm), .slice a2 at_.length p2, .string (S tx), .slice a4 ks.length p4] 25) := ⟨_, rfl⟩
  obtain ⟨eb, heb⟩ : ∃ g, g = w.heap.size := ⟨_, rfl⟩
  have HK1 : Hid (Kp0 w w0) := Lib.hid (by rw [hw0]; exact (Kp.refl _ _).alloc _)
  have HBE : Hid (Blk w0 eb 25 [.string (S sp), .string (S nm), .slice a2 at_.length p2, .string (S tx), .slice a4 ks.length p4]) := Lib.hid (by rw [hw0, heb]; exact blk0 w _ _)
  have HE1 := Lib.hid (ElV.keep HK1.out (fun _ _ h => h) (fun _ h => h) _ _ _ _ _ _ he)
  have e0 := HBE.out.cellV 0 rfl
  have e1 := HBE.out.cellV 1 rfl
  have e2 := HBE.out.cellV 2 rfl
  have e3 := HBE.out.cellV 3 rfl
  have e4 := HBE.out.cellV 4 rfl
  clear he hra hrk hT hl hW
  go_enter Tryz.func9, Tryz.ntmps9
  go_upto_region 1 with (fail)
  rw [← hw0, ← heb]
  clear hw0 heb
  go_wp2_with fail
  refine (HW.out _ HE1.out).mono ?_
  rintro e5 w5 ⟨rfl, hk⟩
  have HK5 := Lib.hid (HK1.out.tr hk)
  clear hk
  go_wp2
  all_goals go_ret
  all_goals exact ⟨rfl, HK5.out⟩
set_option maxRecDepth 20000 in
set_option maxHeartbeats 4000000 in
theorem writes_any (F : Nat → Prop) (e : PE) (c0 c1 c2 c3 c4 : Value) (w : World) (ml : Ml w) (he : ElV F w e c0 c1 c2 c3 c4) (hF : ∀ i, F i → i < w.heap.size) (hl : (textW e []).length ≤ 100000000) (hn : nodes e ≤ 100000000) :
    Calls Tryz.prog 3 #[.agg #[c0, c1, c2, c3, c4]] w fun e' w' => e' = .returned (.bool true) ∧ Kp0 w w' := by
  have HL := Lib.hid hl
  have HF := Lib.hid hF
  have HSM := Lib.hid (small_any (nodes e) e (Nat.le_refl _) hn)
  obtain ⟨T, hT⟩ : ∃ x, x = textW e [] := ⟨_, rfl⟩
  have HT := Lib.hid hT
  obtain ⟨sp, nm, at_, tx, ks⟩ := e
  have he2 := he
  unfold ElV at he2
  obtain ⟨rfl, rfl, hra, rfl, cs, hrk, -⟩ := he2
  obtain ⟨a2, p2, rfl, -⟩ := hra.sl
  obtain ⟨a4, p4, rfl, -⟩ := hrk.sl
  obtain ⟨w0, hw0⟩ : ∃ x, x = w.alloc (.cells #[.string (S sp), .string (S nm), .slice a2 at_.length p2, .string (S tx), .slice a4 ks.length p4] 25) := ⟨_, rfl⟩
  obtain ⟨eb, heb⟩ : ∃ g, g = w.heap.size := ⟨_, rfl⟩
  have HK1 : Hid (Kp0 w w0) := Lib.hid (by rw [hw0]; exact (Kp.refl _ _).alloc _)
  have HBE : Hid (Blk w0 eb 25 [.string (S sp), .string (S nm), .slice a2 at_.length p2, .string (S tx), .slice a4 ks.length p4]) := Lib.hid (by rw [hw0, heb]; exact blk0 w _ _)
  have HE1 := Lib.hid (ElV.keep HK1.out (fun _ _ h => h) (fun _ h => h) _ _ _ _ _ _ he)
  have HM := Lib.hid (ml.kp0 HK1.out)
  clear he hra hrk hT hl hF hn
  go_enter Tryz.func3, Tryz.ntmps3
  go_upto_region 1 with (fail)
  rw [← hw0, ← heb]
  clear hw0 heb
  go_upto_region 3 with (go_at_call 6; refine (fit_any _ HM.out).mono ?_; rintro e1 w1 ⟨rfl, hk⟩; have HK2 := Lib.hid hk; clear hk)
  refine wp_region_px 10 [] (fun w' : World => Kp0 w1.drew w') (.quiet 0 (.eff 1 (.quiet 2 (.quiet 3 (.quiet 4 (.quiet 6 (.eff 5 (.eff 7 (.quiet 8 (.quiet 9 (.quiet 10 .done))))))))))) (by kernel_rfl) (by kernel_rfl) (by kernel_rfl) (by kernel_rfl) (fun _ d _ _ _ h => by cases d <;> exact h) (Kp.refl _ _) ?_
  have HEW := Lib.hid (ElV.keep HK2.out (fun _ _ h => h) (fun _ h => h) _ _ _ _ _ _ HE1.out)
  have HBD := Lib.hid ((HBE.out.kp0 HK2.out).kp0 (Kp.refl _ _).drew)
  have HED := Lib.hid (ElV.keep (Kp.refl (fun _ => False) w1).drew (fun _ _ h => h) (fun _ h => h) _ _ _ _ _ _ HEW.out)
  have HKD := Lib.hid ((HK1.out.tr HK2.out).drew)
  generalize w1.drew = wd at HBD HED HKD ⊢
  iterate 1 (refine px_quiet (v := ?_) rfl (by rfl) (fun wq hwq => ?_) rfl ?_; rotate_left 1; (focus (have hbq := HBD.out.kp0 hwq; have q0 := hbq.cellV 0 rfl; have q1 := hbq.cellV 1 rfl; have q2 := hbq.cellV 2 rfl; have q3 := hbq.cellV 3 rfl; have q4 := hbq.cellV 4 rfl; go_simp; with_reducible rfl)); try simp only [List.setIfInBounds_toArray, List.set_cons_zero, List.set_cons_succ])
  refine px_eff rfl (by rfl) (fun K hK => ?_)
  go_simp
  refine (HSM.out F _ _ _ _ _ 200 _ HED.out).mono ?_
  rintro e3 w3 ⟨⟨m, rfl⟩, hk3⟩
  have HK3 := Lib.hid hk3
  simp only []
  refine hK (fun w' : World => Kp0 w3 w') _ _ (fun x hx => hk3.tr hx) (Kp.refl _ _) ?_
  clear hK K hk3
  have HB3 := Lib.hid (HBD.out.kp0 HK3.out)
  have HE3 := Lib.hid (ElV.keep HK3.out (fun _ _ h => h) (fun _ h => h) _ _ _ _ _ _ HED.out)
  by_cases hm0 : m < 0
  · have hm1 : decide (m < 0) = true := decide_eq_true hm0
    iterate 2 (refine px_quiet (v := ?_) rfl (by rfl) (fun wq hwq => ?_) rfl ?_; rotate_left 1; (focus (clear hwq; go_simp; first | (with_reducible rfl) | (rw [hm1]; rfl))); try simp only [List.setIfInBounds_toArray, List.set_cons_zero, List.set_cons_succ])
    iterate 2 (refine px_skip rfl (by rfl) rfl ?_; try simp only [List.setIfInBounds_toArray, List.set_cons_zero, List.set_cons_succ])
    iterate 2 (refine px_skipE rfl (by rfl) rfl ?_; try simp only [List.setIfInBounds_toArray, List.set_cons_zero, List.set_cons_succ])
    refine px_skip rfl (by rfl) rfl ?_
    try simp only [List.setIfInBounds_toArray, List.set_cons_zero, List.set_cons_succ]
    iterate 2 (refine px_quiet (v := ?_) rfl (by rfl) (fun wq hwq => ?_) rfl ?_; rotate_left 1; (focus (clear hwq; go_simp; with_reducible rfl)); try simp only [List.setIfInBounds_toArray, List.set_cons_zero, List.set_cons_succ])
    refine px_done ?_
    go_wp2
    all_goals go_ret
    all_goals exact ⟨rfl, HKD.out.tr HK3.out⟩
  · have hm1 : decide (m < 0) = false := decide_eq_false hm0
    iterate 2 (refine px_quiet (v := ?_) rfl (by rfl) (fun wq hwq => ?_) rfl ?_; rotate_left 1; (focus (clear hwq; go_simp; first | (with_reducible rfl) | (rw [hm1]; rfl))); try simp only [List.setIfInBounds_toArray, List.set_cons_zero, List.set_cons_succ])
    iterate 2 (refine px_quiet (v := ?_) rfl (by rfl) (fun wq hwq => ?_) rfl ?_; rotate_left 1; (focus (have hbq := HB3.out.kp0 hwq; have q0 := hbq.cellV 0 rfl; have q1 := hbq.cellV 1 rfl; have q2 := hbq.cellV 2 rfl; have q3 := hbq.cellV 3 rfl; have q4 := hbq.cellV 4 rfl; go_simp; with_reducible rfl)); try simp only [List.setIfInBounds_toArray, List.set_cons_zero, List.set_cons_succ])
    have hcall := Text_any F (.mk sp nm at_ tx ks) _ _ _ _ _ w3 HE3.out (fun i hi => Nat.lt_of_lt_of_le (HF.out i hi) (Nat.le_trans HKD.out.size HK3.out.size)) (by have := HL.out; omega)
    rw [← HT.out] at hcall
    refine px_eff rfl (by rfl) (fun K hK => ?_)
    go_simp
    refine hcall.mono ?_
    clear hcall
    rintro e4 w4 ⟨rfl, hk4⟩
    have HK4 := Lib.hid hk4
    simp only []
    refine hK (fun w' : World => Kp0 w4 w') _ _ (fun x hx => hk4.tr hx) (Kp.refl _ _) ?_
    clear hK K hk4
    have HE4 := ElV.keep HK4.out (fun _ _ h => h) (fun _ h => h) _ _ _ _ _ _ HE3.out
    have hcall := refText_any F (.mk sp nm at_ tx ks) _ _ _ _ _ w4 HE4 HL.out
    rw [← HT.out] at hcall
    refine px_eff rfl (by rfl) (fun K hK => ?_)
    go_simp
    refine hcall.mono ?_
    clear hcall
    rintro e5 w5 ⟨rfl, hk5⟩
    have HK5 := Lib.hid hk5
    simp only []
    refine hK (fun w' : World => Kp0 w5 w') _ _ (fun x hx => hk5.tr hx) (Kp.refl _ _) ?_
    clear hK K hk5
    iterate 3 (refine px_quiet (v := ?_) rfl (by rfl) (fun wq hwq => ?_) rfl ?_; rotate_left 1; (focus (clear hwq; go_simp; with_reducible rfl)); try simp only [List.setIfInBounds_toArray, List.set_cons_zero, List.set_cons_succ])
    refine px_done ?_
    go_wp2
    all_goals go_ret
    all_goals exact ⟨rfl, HKD.out.tr (HK3.out.tr (HK4.out.tr HK5.out))⟩
end Go.Proofs.YtchmookggegmnaaGreatDoor
namespace Go.Proofs.YtchmookggegmnaaGreatDoor
open Go Go.RowKit
/-- How much an element is. -/
def esp : List (List UInt8 × List UInt8) → Nat
  | [] => 0
  | a :: l => a.1.length + a.2.length + 1 + esp l
mutual
def esz : PE → Nat
  | .mk sp nm at_ tx ks => sp.length + nm.length + tx.length + esp at_ + 1 + eszL ks
def eszL : List PE → Nat
  | [] => 0
  | e :: es => esz e + eszL es
end
theorem attsW_esp : ∀ l, (attsW l).length ≤ 6 * esp l
  | [] => by simp [attsW]
  | a :: l => by
    have h1 := attsW_esp l
    have h2 := attW_len a.1 a.2
    simp only [attsW, esp, List.length_append]
    omega
mutual
theorem textW_esz : ∀ (e : PE) (ar : List UInt8), (textW e ar).length ≤ 32 * esz e
  | .mk sp nm at_ tx ks, ar => by
    have h1 := attsW_esp at_
    have h2 : (spW sp ar).length ≤ 6 * sp.length + 9 := by
      unfold spW
      split
      · simp
      · have := attW_len xmlnsL sp
        have h : xmlnsL.length = 5 := rfl
        omega
    have h3 : (endW tx ks).length ≤ 6 * tx.length + 2 := by
      unfold endW
      split
      · simp
      · have := escs_len (spaces tx) tx
        simp only [escX, List.length_append, List.length_cons, List.length_nil]
        omega
    have h4 := textsW_esz ks sp
    unfold textW esz
    split
    · simp only [tagW, List.length_append, List.length_cons, List.length_nil]
      omega
    · simp only [tagW, endT, List.length_append, List.length_cons, List.length_nil]
      omega
theorem textsW_esz : ∀ (l : List PE) (ar : List UInt8), (textsW l ar).length ≤ 32 * eszL l
  | [], ar => by simp [textsW]
  | e :: l, ar => by
    have h1 := textW_esz e ar
    have h2 := textsW_esz l ar
    simp only [textsW, eszL, List.length_append]
    omega
end
mutual
theorem nodes_esz : ∀ e : PE, nodes e ≤ 2 * esz e
  | .mk sp nm at_ tx ks => by
    have h := nodesL_esz ks
    unfold nodes esz
    omega
theorem nodesL_esz : ∀ l : List PE, nodesL l ≤ 2 * eszL l
  | [] => by simp [nodesL]
  | e :: l => by
    have h1 := nodes_esz e
    have h2 := nodesL_esz l
    simp only [nodesL, eszL]
    omega
end
theorem came_cells {w : World} {base n : Nat} {a : Addr} {cs : List Value} (h : w.cells? base a n = some cs) : cs.length = n ∧ ∀ i, i < n → w.cell? (a.add i) = cs[i]? := by
  unfold World.cells? at h
  split at h
  · refine ⟨by have := mapM_some_length h; simpa using this, fun i hi => ?_⟩
    exact mapM_some_get h i i (by simp [hi])
  · cases h
theorem two_of {α : Type} {l : List α} (h : l.length = 2) : ∃ a b, l = [a, b] := by
  match l, h with
  | [a, b], _ => exact ⟨a, b, rfl⟩
theorem five_of {α : Type} {l : List α} (h : l.length = 5) : ∃ a b c d e, l = [a, b, c, d, e] := by
  match l, h with
  | [a, b, c, d, e], _ => exact ⟨a, b, c, d, e, rfl⟩
section
variable {H : Type} {enc : TypeId × Value → H} {w : World} {held : Bool}
theorem came_str1 {fuel : Nat} {c : Value} {x : DataW H × List MemPlace} (h : DataW.trod enc Tryz.prog w 0 (fun _ => true) held fuel 9 [c] = some x) : ∃ l : List UInt8, c = .string (S l) ∧ Rows.uptoBulk x.1 = l.length + 1 := by
  obtain ⟨s, e, rfl, _⟩ := DataW.trod_string Tryz.underlying9 h
  refine ⟨s.toList, ?_, ?_⟩
  · rw [S_of]
    simpa using e
  · simp only [Rows.uptoBulk]
    rw [ByteArray.toList_eq]
theorem came_attr {fuel : Nat} {cs : List Value} {x : DataW H × List MemPlace} (h : DataW.trod enc Tryz.prog w 0 (fun _ => true) held fuel 62 cs = some x) :
    ∃ p : List UInt8 × List UInt8, cs = [.string (S p.1), .string (S p.2)] ∧ p.1.length + p.2.length + 1 ≤ Rows.uptoBulk x.1 := by
  obtain ⟨xs, n, rfl, rfl, hl, hxs, hf⟩ := DataW.trod_struct Tryz.underlying62 h
  have hc : Tryz.prog.cellsOf 62 = 2 := by kernel_rfl
  have hc1 : Tryz.prog.cellsOf 9 = 1 := by kernel_rfl
  rw [hc] at hl
  have h0 : DataW.trod enc Tryz.prog w 0 (fun _ => true) held n 9 ((cs.drop 0).take (Tryz.prog.cellsOf 9)) = xs[0]? := hf 0 _ rfl
  have h1 : DataW.trod enc Tryz.prog w 0 (fun _ => true) held n 9 ((cs.drop 1).take (Tryz.prog.cellsOf 9)) = xs[1]? := hf 1 _ rfl
  rw [hc1] at h0 h1
  obtain ⟨a, b, rfl⟩ := two_of hl
  obtain ⟨x0, x1, rfl⟩ := two_of (show xs.length = 2 from hxs)
  ·
    obtain ⟨l0, rfl, b0⟩ := came_str1 (c := a) (by simpa using h0)
    obtain ⟨l1, rfl, b1⟩ := came_str1 (c := b) (by simpa using h1)
    refine ⟨(l0, l1), rfl, ?_⟩
    simp only [List.map_cons, List.map_nil, Rows.uptoBulk, Rows.uptoBulkAll, b0, b1]
    omega
theorem attrs_row {n : Nat} {a : Addr} : ∀ (E : List (DataW H × List MemPlace)) (o : Nat), (∀ i, i < E.length → (w.cells? 0 (a.add ((o + i) * 2)) 2).bind (DataW.trod enc Tryz.prog w 0 (fun _ => true) held n 62) = E[i]?) →
    ∃ l : List (List UInt8 × List UInt8), l.length = E.length ∧ (∀ (i : Nat) u, (prs l)[i]? = some u → w.cell? (a.add (o * 2 + i)) = some u) ∧ esp l ≤ Rows.uptoBulkAll (E.map (·.1))
  | [], o, _ => ⟨[], rfl, fun i u hu => by simp [prs] at hu, by simp [esp]⟩
  | x :: E, o, h => by
    have h0 := h 0 (by simp)
    simp only [Nat.add_zero, List.getElem?_cons_zero, Option.bind_eq_some_iff] at h0
    obtain ⟨cs, hc, ht⟩ := h0
    obtain ⟨p, rfl, hb⟩ := came_attr ht
    obtain ⟨l, h1, h2, h3⟩ := attrs_row E (o + 1) (fun i hi => by
      have := h (i + 1) (by simpa using hi)
      rw [List.getElem?_cons_succ] at this
      rw [← this, show o + 1 + i = o + (i + 1) by omega])
    obtain ⟨_, hcc⟩ := came_cells hc
    refine ⟨p :: l, by simp [h1], fun i u hu => ?_, ?_⟩
    · match i, hu with
      | 0, hu => have := hcc 0 (by omega); rw [Addr.add_add] at this; rw [this]; exact hu
      | 1, hu => have := hcc 1 (by omega); rw [Addr.add_add] at this; rw [this]; exact hu
      | i + 2, hu => rw [show o * 2 + (i + 2) = (o + 1) * 2 + i by omega]; exact h2 i u hu
    · simp only [esp, List.map_cons, Rows.uptoBulkAll]
      omega
theorem came_attrs {fuel : Nat} {c : Value} {x : DataW H × List MemPlace} (h : DataW.trod enc Tryz.prog w 0 (fun _ => true) held fuel 22 [c] = some x) :
    ∃ l, RdF (fun i => i < w.heap.size) w 2 c l.length (prs l) ∧ esp l + 1 ≤ Rows.uptoBulk x.1 := by
  have hc : Tryz.prog.cellsOf 62 = 2 := by kernel_rfl
  rcases DataW.trod_slice Tryz.underlying22 h with ⟨hcs, rfl⟩ | ⟨a, len, cap, elems, rest, n, rfl, hcs, rfl, _, hl, hm, hlen, hel, _, _⟩
  · obtain rfl : c = .slice none 0 0 := by simpa using hcs
    exact ⟨[], RdF.nil _ _ _, by simp [esp, Rows.uptoBulk]⟩
  · obtain rfl : c = .slice (some a) len cap := by simpa using hcs
    rw [hc] at hel
    obtain ⟨l, h1, h2, h3⟩ := attrs_row (a := a) elems 0 (fun i hi => by rw [Nat.zero_add]; exact hel i (by omega))
    refine ⟨l, ⟨some a, cap, by rw [h1, hlen], prs_len l, by omega, by unfold maxLen at hm; omega, (fun e => by cases e), fun ad e i u hu => ?_⟩, ?_⟩
    · cases e
      have := h2 i u hu
      rw [Nat.zero_mul, Nat.zero_add] at this
      have hb := World.block_lt_of_cell? w _ this
      rw [add_block] at hb
      exact ⟨hb, this⟩
    · simp only [Rows.uptoBulk]
      omega
/-- What is to be shown of an element's reading. -/
def CameE (w : World) (cs : List Value) (x : DataW H × List MemPlace) : Prop :=
  ∃ pe c0 c1 c2 c3 c4, cs = [c0, c1, c2, c3, c4] ∧ ElV (fun i => i < w.heap.size) w pe c0 c1 c2 c3 c4 ∧ esz pe ≤ Rows.uptoBulk x.1
theorem elems_row {n : Nat} {a : Addr} (ih : ∀ cs x, DataW.trod enc Tryz.prog w 0 (fun _ => true) held n 25 cs = some x → CameE w cs x) : ∀ (E : List (DataW H × List MemPlace)) (o : Nat), (∀ i, i < E.length → (w.cells? 0 (a.add ((o + i) * 5)) 5).bind (DataW.trod enc Tryz.prog w 0 (fun _ => true) held n 25) = E[i]?) →
    ∃ (l : List PE) (cs : List Value), l.length = E.length ∧ cs.length = l.length * 5 ∧ (∀ (i : Nat) u, cs[i]? = some u → w.cell? (a.add (o * 5 + i)) = some u) ∧ ElsV (fun i => i < w.heap.size) w l cs ∧ eszL l ≤ Rows.uptoBulkAll (E.map (·.1))
  | [], o, _ => ⟨[], [], rfl, rfl, fun i u hu => by simp at hu, by unfold ElsV; rfl, by simp [eszL]⟩
  | x :: E, o, h => by
    have h0 := h 0 (by simp)
    simp only [Nat.add_zero, List.getElem?_cons_zero, Option.bind_eq_some_iff] at h0
    obtain ⟨cs0, hc, ht⟩ := h0
    obtain ⟨pe, c0, c1, c2, c3, c4, rfl, hel, hb⟩ := ih _ _ ht
    obtain ⟨l, cs, h1, h2, h3, h4, h5⟩ := elems_row ih E (o + 1) (fun i hi => by
      have := h (i + 1) (by simpa using hi)
      rw [List.getElem?_cons_succ] at this
      rw [← this, show o + 1 + i = o + (i + 1) by omega])
    obtain ⟨_, hcc⟩ := came_cells hc
    refine ⟨pe :: l, c0 :: c1 :: c2 :: c3 :: c4 :: cs, by simp [h1], by simp only [List.length_cons, h2]; omega, fun i u hu => ?_, ?_, ?_⟩
    · match i, hu with
      | 0, hu => have := hcc 0 (by omega); rw [Addr.add_add] at this; rw [this]; exact hu
      | 1, hu => have := hcc 1 (by omega); rw [Addr.add_add] at this; rw [this]; exact hu
      | 2, hu => have := hcc 2 (by omega); rw [Addr.add_add] at this; rw [this]; exact hu
      | 3, hu => have := hcc 3 (by omega); rw [Addr.add_add] at this; rw [this]; exact hu
      | 4, hu => have := hcc 4 (by omega); rw [Addr.add_add] at this; rw [this]; exact hu
      | i + 5, hu => rw [show o * 5 + (i + 5) = (o + 1) * 5 + i by omega]; exact h3 i u hu
    · unfold ElsV
      exact ⟨c0, c1, c2, c3, c4, cs, rfl, hel, h4⟩
    · simp only [eszL, List.map_cons, Rows.uptoBulkAll]
      omega
theorem came_kids {fuel : Nat} {c : Value} {x : DataW H × List MemPlace} (ih : ∀ m, m < fuel → ∀ cs x, DataW.trod enc Tryz.prog w 0 (fun _ => true) held m 25 cs = some x → CameE w cs x) (h : DataW.trod enc Tryz.prog w 0 (fun _ => true) held fuel 23 [c] = some x) :
    ∃ l cs, RdF (fun i => i < w.heap.size) w 5 c l.length cs ∧ ElsV (fun i => i < w.heap.size) w l cs ∧ eszL l + 1 ≤ Rows.uptoBulk x.1 := by
  have hc : Tryz.prog.cellsOf 25 = 5 := by kernel_rfl
  rcases DataW.trod_slice Tryz.underlying23 h with ⟨hcs, rfl⟩ | ⟨a, len, cap, elems, rest, n, rfl, hcs, rfl, _, hl, hm, hlen, hel, _, _⟩
  · obtain rfl : c = .slice none 0 0 := by simpa using hcs
    exact ⟨[], [], RdF.nil _ _ _, by unfold ElsV; rfl, by simp [eszL, Rows.uptoBulk]⟩
  · obtain rfl : c = .slice (some a) len cap := by simpa using hcs
    rw [hc] at hel
    obtain ⟨l, cs, h1, h2, h3, h4, h5⟩ := elems_row (a := a) (ih n (by omega)) elems 0 (fun i hi => by rw [Nat.zero_add]; exact hel i (by omega))
    refine ⟨l, cs, ⟨some a, cap, by rw [h1, hlen], h2, by omega, by unfold maxLen at hm; omega, (fun e => by cases e), fun ad e i u hu => ?_⟩, h4, ?_⟩
    · cases e
      have := h3 i u hu
      rw [Nat.zero_mul, Nat.zero_add] at this
      have hb := World.block_lt_of_cell? w _ this
      rw [add_block] at hb
      exact ⟨hb, this⟩
    · simp only [Rows.uptoBulk]
      omega
set_option maxRecDepth 20000 in
theorem came_elem (fuel : Nat) : ∀ (cs : List Value) (x : DataW H × List MemPlace), DataW.trod enc Tryz.prog w 0 (fun _ => true) held fuel 25 cs = some x → CameE w cs x := by
  induction fuel using Nat.strongRecOn with
  | _ fuel ih =>
    intro cs x h
    obtain ⟨xs, n, rfl, rfl, hl, hxs, hf⟩ := DataW.trod_struct Tryz.underlying25 h
    have hc : Tryz.prog.cellsOf 25 = 5 := by kernel_rfl
    have hc1 : Tryz.prog.cellsOf 9 = 1 := by kernel_rfl
    have hc2 : Tryz.prog.cellsOf 22 = 1 := by kernel_rfl
    have hc3 : Tryz.prog.cellsOf 23 = 1 := by kernel_rfl
    rw [hc] at hl
    have h0 : DataW.trod enc Tryz.prog w 0 (fun _ => true) held n 9 ((cs.drop 0).take (Tryz.prog.cellsOf 9)) = xs[0]? := hf 0 _ rfl
    have h1 : DataW.trod enc Tryz.prog w 0 (fun _ => true) held n 9 ((cs.drop 1).take (Tryz.prog.cellsOf 9)) = xs[1]? := hf 1 _ rfl
    have h2 : DataW.trod enc Tryz.prog w 0 (fun _ => true) held n 22 ((cs.drop 2).take (Tryz.prog.cellsOf 22)) = xs[2]? := hf 2 _ rfl
    have h3 : DataW.trod enc Tryz.prog w 0 (fun _ => true) held n 9 ((cs.drop 3).take (Tryz.prog.cellsOf 9)) = xs[3]? := hf 3 _ rfl
    have h4 : DataW.trod enc Tryz.prog w 0 (fun _ => true) held n 23 ((cs.drop 4).take (Tryz.prog.cellsOf 23)) = xs[4]? := hf 4 _ rfl
    rw [hc1] at h0 h1 h3
    rw [hc2] at h2
    rw [hc3] at h4
    obtain ⟨a, b, c, d, e, rfl⟩ := five_of hl
    obtain ⟨x0, x1, x2, x3, x4, rfl⟩ := five_of (show xs.length = 5 from hxs)
    obtain ⟨l0, rfl, b0⟩ := came_str1 (c := a) (by simpa using h0)
    obtain ⟨l1, rfl, b1⟩ := came_str1 (c := b) (by simpa using h1)
    obtain ⟨at_, hra, b2⟩ := came_attrs (c := c) (by simpa using h2)
    obtain ⟨l3, rfl, b3⟩ := came_str1 (c := d) (by simpa using h3)
    obtain ⟨ks, ks2, hrk, hek, b4⟩ := came_kids (fuel := n) (x := x4) (c := e) (fun m hm => ih m (by omega)) (by simpa using h4)
    refine ⟨.mk l0 l1 at_ l3 ks, _, _, _, _, _, rfl, ?_, ?_⟩
    · unfold ElV
      exact ⟨rfl, rfl, hra, rfl, ks2, hrk, hek⟩
    · unfold esz
      simp only [List.map_cons, List.map_nil, Rows.uptoBulk, Rows.uptoBulkAll, b0, b1, b3]
      omega
end
end Go.Proofs.YtchmookggegmnaaGreatDoor
namespace Go.Proofs.YtchmookggegmnaaGreatDoor
open Go Go.RowKit
theorem okWide_agg {P : Program} {w : World} {r : Reach} {b0 : Nat} {t : TypeId} {v : Value} (hu : ∃ fs, P.underlying t = some (.struct fs)) (hval : Value.okWide P w r b0 t v) : ∃ cs, v = .agg cs := by
  obtain ⟨fs, hu⟩ := hu
  simp only [Value.okWide, hu] at hval
  obtain ⟨cs, rfl, _⟩ := hval
  exact ⟨cs, rfl⟩
theorem came_elemT {H : Type} {enc : TypeId × Value → H} {w : World} {held : Bool} {v : Value} {d : DataW H} {ps : List MemPlace}
    (hv : ∃ cs, v = .agg cs) (h : DataW.Trod enc Tryz.prog w 0 (fun _ => true) held 25 v d ps) :
    ∃ pe c0 c1 c2 c3 c4, v = .agg #[c0, c1, c2, c3, c4] ∧ ElV (fun i => i < w.heap.size) w pe c0 c1 c2 c3 c4 ∧ esz pe ≤ Rows.uptoBulk d := by
  obtain ⟨cs, rfl⟩ := hv
  obtain ⟨k, hk⟩ := h
  obtain ⟨pe, c0, c1, c2, c3, c4, e, he, hb⟩ := came_elem k _ _ hk
  refine ⟨pe, c0, c1, c2, c3, c4, ?_, he, hb⟩
  congr 1
  apply Array.ext'
  exact e
theorem writes_walk (e : PE) (c0 c1 c2 c3 c4 : Value) (w : World) (ml : Ml w) (he : ElV (fun i => i < w.heap.size) w e c0 c1 c2 c3 c4) (hb : esz e ≤ 1048576) :
    Calls Tryz.prog 3 #[.agg #[c0, c1, c2, c3, c4]] w fun e' w' => e' = .returned (.bool true) ∧ Kp0 w w' :=
  writes_any _ e c0 c1 c2 c3 c4 w ml he (fun _ h => h) (by have := textW_esz e []; omega) (by have := nodes_esz e; omega)
theorem bulk_one {H : Type} {d : DataW H} (hk : Rows.uptoSmall H [d] = true) : Rows.uptoBulk d ≤ 1048576 := by
  have h := of_decide_eq_true hk
  simp only [Rows.uptoBulkAll] at h
  omega
end Go.Proofs.YtchmookggegmnaaGreatDoor
