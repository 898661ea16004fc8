/- Namespaces: how they are read. The law of layer 13: namespaces. -/
import Derived.Test.YtchmookggegmnaaGreatDoorXg
namespace Go.Proofs.YtchmookggegmnaaGreatDoor
open Go Go.RowKit
theorem index_at {c : UInt8} {r : List UInt8} : ∀ {v : List UInt8}, v.contains c = false → Lib.index (v ++ c :: r) [c] = v.length
  | [], _ => by
    have h1 : ([c] : List UInt8).isPrefixOf (c :: r) = true := by simp [List.isPrefixOf]
    show Lib.index (c :: r) [c] = _
    unfold Lib.index
    rw [h1]
    rfl
  | a :: v, h => by
    simp only [List.contains_cons, Bool.or_eq_false_iff] at h
    have h1 : ([c] : List UInt8).isPrefixOf (a :: (v ++ c :: r)) = false := by simp [List.isPrefixOf, h.1]
    have h2 := index_at (r := r) h.2
    show Lib.index (a :: (v ++ c :: r)) [c] = _
    unfold Lib.index
    rw [h1, h2]
    have h3 : ((v.length : Int) == -1) = false := by rw [beq_eq_false_iff_ne]; omega
    simp [h3]
theorem cut_at {c : UInt8} {r v : List UInt8} (h : v.contains c = false) : Lib.cut (v ++ c :: r) [c] = (v, r, true) := by
  unfold Lib.cut
  rw [index_at h, if_pos (by omega)]
  have h1 : ((v.length : Int)).toNat = v.length := by omega
  rw [h1, List.take_left]
  have h2 : (v ++ c :: r).drop (v.length + ([c] : List UInt8).length) = r := by
    have : v ++ c :: r = (v ++ [c]) ++ r := by simp
    rw [this, show v.length + ([c] : List UInt8).length = (v ++ [c]).length by simp, List.drop_left]
  rw [h2]
/-- Letters and colons. -/
def lowC (c : UInt8) : Bool := (decide (97 ≤ c.toNat) && decide (c.toNat ≤ 122)) || c == 58
theorem low_no {v : List UInt8} (h : v.all lowC = true) {c : UInt8} (hc : lowC c = false) : v.contains c = false := by
  rw [List.contains_eq_any_beq, List.any_eq_false]
  intro x hx e
  rw [beq_iff_eq] at e
  subst e
  have := List.all_eq_true.1 h _ hx
  rw [hc] at this
  cases this
theorem valueX_low {v r : List UInt8} (h : v.all lowC = true) : valueX (39 :: (v ++ 39 :: r)) = .ok (v, r) := by
  have h1 := cut_at (r := r) (low_no h (c := 39) (by decide))
  have h2 : Lib.contains v [60] = false := by
    unfold Lib.contains
    rw [index_none (low_no h (c := 60) (by decide))]
    rfl
  have h3 : entX v = .ok v := by unfold entX; rw [low_no h (c := 38) (by decide)]; rfl
  have hq : quoteX (39 :: (v ++ 39 :: r)) = some [39] := rfl
  have hd : (39 :: (v ++ 39 :: r)).drop 1 = v ++ 39 :: r := rfl
  unfold valueX
  rw [hq]
  simp only [hd, h1, h2, h3]
  rfl
def atX (v r : List UInt8) : List UInt8 := 32 :: 120 :: 109 :: 108 :: 110 :: 115 :: 61 :: 39 :: (v ++ 39 :: r)
def atP (v r : List UInt8) : List UInt8 := 32 :: 120 :: 109 :: 108 :: 110 :: 115 :: 58 :: 112 :: 61 :: 39 :: (v ++ 39 :: r)
theorem attr_low {n : Wn} {v r s : List UInt8} {l : List Att} (hw : writtenX s = ((n, true), 61 :: 39 :: (v ++ 39 :: r))) (hx : hasX l n = false) (hl : ¬ l.length = 32) (h : v.all lowC = true) : attrX l s = .ok (l ++ [(n, v)], r) := by
  have e1 : dropB (61 :: 39 :: (v ++ 39 :: r)) = 61 :: 39 :: (v ++ 39 :: r) := dropB_of (by decide)
  have e2 : Lib.hasPrefix (61 :: 39 :: (v ++ 39 :: r)) [61] = true := by rw [pre_eq, pre_nil]
  have e3 : dropB (39 :: (v ++ 39 :: r)) = 39 :: (v ++ 39 :: r) := dropB_of (by decide)
  have e4 : (61 :: 39 :: (v ++ 39 :: r)).drop 1 = 39 :: (v ++ 39 :: r) := rfl
  unfold attrX
  rw [hw]
  simp only [hx, hl, e1, e2, e3, e4, valueX_low h]
  simp [R.bind]
theorem loop_at {n : Wn} {v r t : List UInt8} {c : UInt8} {l : List Att} {f : Nat} (hc : ([32, 9, 10, 13] : List UInt8).contains c = false) (h62 : ¬ 62 = c) (h47 : ¬ 47 = c) (hw : writtenX (c :: t) = ((n, true), 61 :: 39 :: (v ++ 39 :: r))) (hx : hasX l n = false) (hl : ¬ l.length = 32) (h : v.all lowC = true) : tagLoop (f + 1) l (32 :: c :: t) = tagLoop f (l ++ [(n, v)]) r := by
  have e1 : dropB (32 :: c :: t) = c :: t := by
    have : dropB (32 :: c :: t) = dropB (c :: t) := rfl
    rw [this, dropB_of hc]
  conv => lhs; unfold tagLoop
  rw [e1, pre_ne h62, pre_ne h47, if_neg (by simp), if_neg (by simp), if_pos (by simp), attr_low hw hx hl h]
  rfl
theorem loop_x {v r : List UInt8} {l : List Att} {f : Nat} (hx : hasX l ([], xmlnsC) = false) (hl : ¬ l.length = 32) (h : v.all lowC = true) : tagLoop (f + 1) l (atX v r) = tagLoop f (l ++ [(([], xmlnsC), v)]) r := loop_at (by decide) (by decide) (by decide) rfl hx hl h
theorem loop_p {v r : List UInt8} {l : List Att} {f : Nat} (hx : hasX l (xmlnsC, [112]) = false) (hl : ¬ l.length = 32) (h : v.all lowC = true) : tagLoop (f + 1) l (atP v r) = tagLoop f (l ++ [((xmlnsC, [112]), v)]) r := loop_at (by decide) (by decide) (by decide) rfl hx hl h
/-- A tag that says what no prefix, and p, mean. -/
theorem tag_low {c : UInt8} {a r : List UInt8} (_hc : beginsC c = true) (h : a.all lowC = true) (hw : writtenX (c :: atX a (atP a (62 :: r))) = ((([], [c]), true), atX a (atP a (62 :: r)))) : tagX (60 :: c :: atX a (atP a (62 :: r))) = .ok (⟨([], [c]), [(([], xmlnsC), a), ((xmlnsC, [112]), a)], false⟩, r) := by
  have e : (60 :: c :: atX a (atP a (62 :: r))).drop 1 = c :: atX a (atP a (62 :: r)) := rfl
  have e5 : Lib.hasPrefix (60 :: c :: atX a (atP a (62 :: r))) [60] = true := by rw [pre_eq, pre_nil]
  unfold tagX
  rw [e5, e, hw, if_neg (by simp), if_neg (by simp)]
  simp only []
  rw [loop_x rfl (by decide) h, loop_p rfl (by simp) h]
  rfl
def T0 : List UInt8 := [62, 60, 122, 47, 62, 60, 112, 58, 122, 47, 62, 60, 47, 121, 62, 60, 119, 47, 62, 60, 47, 120, 62]
def restY : List UInt8 := [60, 119, 47, 62, 60, 47, 120, 62]
def sdoc (a m : List UInt8) : List UInt8 := 60 :: 120 :: atX a (atP a (62 :: 60 :: 121 :: m))
def resE (a b : List UInt8) : PE := .mk a [120] [] [] [.mk b [121] [] [] [.mk b [122] [] [] [], .mk b [122] [] [] []], .mk a [119] [] [] []]
def said1 (a : List UInt8) : Say := [([], a), ([112], a)]
def said2 (a b : List UInt8) : Say := [([], a), ([112], a), ([], b), ([112], b)]
theorem begin_x {a : List UInt8} (ha : a ≠ []) : beginX [] ⟨([], [120]), [(([], xmlnsC), a), ((xmlnsC, [112]), a)], false⟩ = .ok (said1 a, .mk a [120] [] [] []) := by
  cases a with
  | nil => exact absurd rfl ha
  | cons c a => rfl
theorem begin_y {a b : List UInt8} (hb : b ≠ []) : beginX (said1 a) ⟨([], [121]), [(([], xmlnsC), b), ((xmlnsC, [112]), b)], false⟩ = .ok (said2 a b, .mk b [121] [] [] []) := by
  cases b with
  | nil => exact absurd rfl hb
  | cons c b => rfl
theorem bind_okE {α β : Type} (x : α) (f : α → R β) : R.bind (.ok x) f = f x := rfl
theorem content_y (a b : List UInt8) : contentX (elemX 14 (said2 a b)) ([], [121]) (T0.drop 1) = .ok (([], [.mk b [122] [] [] [], .mk b [122] [] [] []]), restY) := by kernel_rfl
theorem content_x1 (a : List UInt8) : contentX (elemX 15 (said1 a)) ([], [120]) (60 :: 121 :: T0) = .ok (([], [.mk a [121] [] [] [.mk a [122] [] [] [], .mk a [122] [] [] []], .mk a [119] [] [] []]), []) := by kernel_rfl
theorem elem_y {a b : List UInt8} (hb : b ≠ []) (h : b.all lowC = true) : elemX 15 (said1 a) (60 :: 121 :: atX b (atP b T0)) = .ok (.mk b [121] [] [] [.mk b [122] [] [] [], .mk b [122] [] [] []], restY) := by
  rw [elemX_eq, show T0 = 62 :: T0.drop 1 from rfl, tag_low (by decide) h rfl]
  rw [bind_okE, begin_y hb, bind_okE, if_neg (by simp)]
  simp only []
  rw [content_y]
  rfl
theorem content_x2 {a b : List UInt8} (hb : b ≠ []) (h : b.all lowC = true) : contentX (elemX 15 (said1 a)) ([], [120]) (60 :: 121 :: atX b (atP b T0)) = .ok (([], [.mk b [121] [] [] [.mk b [122] [] [] [], .mk b [122] [] [] []], .mk a [119] [] [] []]), []) := by
  have hk := kid_parts (elemX 15 (said1 a)) (60 :: 121 :: atX b (atP b T0)).length ⟨[], false, []⟩ (nm := [121]) (t := atX b (atP b T0)) (by decide) (by simp)
  have he : ([60] ++ [121] ++ atX b (atP b T0) : List UInt8) = 60 :: 121 :: atX b (atP b T0) := rfl
  rw [he, elem_y hb h] at hk
  obtain ⟨k, hl⟩ : ∃ k, (60 :: 121 :: atX b (atP b T0)).length = k + 5 := ⟨(60 :: 121 :: atX b (atP b T0)).length - 5, by simp only [atX, List.length_cons]; omega⟩
  rw [hl] at hk
  unfold contentX
  rw [hl, hk]
  rfl
theorem elem_x {a : List UInt8} (ha : a ≠ []) (h : a.all lowC = true) {m : List UInt8} {ks : List PE} (hc : contentX (elemX 15 (said1 a)) ([], [120]) (60 :: 121 :: m) = .ok (([], ks), [])) : elemX 16 [] (sdoc a m) = .ok (.mk a [120] [] [] ks, []) := by
  unfold sdoc
  rw [elemX_eq, tag_low (by decide) h rfl]
  rw [bind_okE, begin_x ha, bind_okE, if_neg (by simp)]
  simp only []
  rw [hc]
  rfl
theorem low_sign {v : List UInt8} (h : v.all lowC = true) : v.all signC = true := List.all_eq_true.2 fun c hc => by
  have := List.all_eq_true.1 h c hc
  unfold lowC at this
  unfold signC signN
  by_cases h58 : c = 58
  · subst h58; rfl
  · have h59 : (c == 58) = false := beq_eq_false_iff_ne.2 h58
    rw [h59, Bool.or_false, Bool.and_eq_true, decide_eq_true_eq, decide_eq_true_eq] at this
    simp only [Bool.or_eq_true, Bool.and_eq_true, decide_eq_true_eq, beq_iff_eq]
    omega
theorem sign_X {v r : List UInt8} (h : v.all lowC = true) (hr : r.all signC = true) : (atX v r).all signC = true := by
  unfold atX
  simp only [List.all_cons, List.all_append, low_sign h, hr]
  decide
theorem sign_P {v r : List UInt8} (h : v.all lowC = true) (hr : r.all signC = true) : (atP v r).all signC = true := by
  unfold atP
  simp only [List.all_cons, List.all_append, low_sign h, hr]
  decide
theorem parse_s {a : List UInt8} (ha : a ≠ []) (h : a.all lowC = true) (hal : a.length ≤ 30) {m : List UInt8} {ks : List PE} (hm : m.all signC = true) (hml : m.length ≤ 200) (hc : contentX (elemX 15 (said1 a)) ([], [120]) (60 :: 121 :: m) = .ok (([], ks), [])) : parseX (sdoc a m) = .ok (.mk a [120] [] [] ks) := by
  have hs : (sdoc a m).all signC = true := by
    unfold sdoc
    rw [List.all_cons, List.all_cons, sign_X h (sign_P h (by rw [List.all_cons, List.all_cons, List.all_cons, hm]; decide))]
    decide
  have hl : ¬ 16384 < (sdoc a m).length := by
    simp only [sdoc, atX, atP, List.length_cons, List.length_append]
    omega
  unfold parseX
  rw [if_neg hl, hs, if_neg (by simp), docX_of (l := sdoc a m) (c := 120) rfl (by decide) (by decide), elem_x ha h hc]
  rfl
end Go.Proofs.YtchmookggegmnaaGreatDoor
namespace Go.Proofs.YtchmookggegmnaaGreatDoor
open Go Go.RowKit
def good (v : List UInt8) : Prop := v ≠ [] ∧ v.length ≤ 30 ∧ v.all lowC = true
theorem more_eq (b : List UInt8) : ({ data := #[32, 120, 109, 108, 110, 115, 61, 39] } : ByteArray) ++ S b ++ ({ data := #[39, 32, 120, 109, 108, 110, 115, 58, 112, 61, 39] } : ByteArray) ++ S b ++ ({ data := #[39] } : ByteArray) = S ([32, 120, 109, 108, 110, 115, 61, 39] ++ b ++ [39, 32, 120, 109, 108, 110, 115, 58, 112, 61, 39] ++ b ++ [39]) := by
  rw [S_lit, S_lit, S_lit, S_app, S_app, S_app, S_app]
theorem doc_eq (a m : List UInt8) : ({ data := #[60, 120, 32, 120, 109, 108, 110, 115, 61, 39] } : ByteArray) ++ S a ++ ({ data := #[39, 32, 120, 109, 108, 110, 115, 58, 112, 61, 39] } : ByteArray) ++ S a ++ ({ data := #[39, 62, 60, 121] } : ByteArray) ++ S m ++ ({ data := #[62, 60, 122, 47, 62, 60, 112, 58, 122, 47, 62, 60, 47, 121, 62, 60, 119, 47, 62, 60, 47, 120, 62] } : ByteArray) = S (sdoc a (m ++ T0)) := by
  rw [S_lit, S_lit, S_lit, S_lit, S_app, S_app, S_app, S_app, S_app, S_app]
  congr 1
  simp [sdoc, atX, atP, T0]
theorem more_T0 (b : List UInt8) : ([32, 120, 109, 108, 110, 115, 61, 39] ++ b ++ [39, 32, 120, 109, 108, 110, 115, 58, 112, 61, 39] ++ b ++ [39]) ++ T0 = atX b (atP b T0) := by
  simp [atX, atP, T0]
set_option maxRecDepth 20000 in
set_option maxHeartbeats 8000000 in
theorem spaces_any (a b : List UInt8) (inner : Bool) (w : World) (hm : Ml w) (ha : a.length ≤ 9223372036854775807) (hb : b.length ≤ 9223372036854775807) : Calls Tryz.prog 5 #[.string (S a), .string (S b), .bool inner] w fun e w' => e = .returned (.bool true) ∧ Kp0 w w' := by
  have HM := Lib.hid hm
  have HAL := Lib.hid ha
  have HBL := Lib.hid hb
  clear hm ha hb
  go_enter Tryz.func5, Tryz.ntmps5
  go_wp2_with (go_at_call 6; refine (fit_any _ HM.out).mono ?_; rintro e1 w1 ⟨rfl, hk⟩; have HK1 := Lib.hid hk; clear hk)
  obtain ⟨gb, hgb⟩ : ∃ x, x = w1.heap.size := ⟨_, rfl⟩
  obtain ⟨wA, hwA⟩ : ∃ x, x = w1.alloc (.cells #[.string (S a), .string (S b)] 9) := ⟨_, rfl⟩
  have HBK : Hid (Blk wA gb 9 [.string (S a), .string (S b)]) := Lib.hid (by rw [hwA, hgb]; exact blk0 w1 _ _)
  have HKA : Hid (Kp0 w wA) := Lib.hid (by rw [hwA]; exact HK1.out.alloc _)
  rw [← hwA, ← hgb]
  clear hwA hgb
  go_loopg [22] 2 (fun gg i wr => ∃ (k : Nat), i = .int .i64 k ∧ k ≤ 2 ∧ gg = 2 - k ∧ (0 < k → good a) ∧ (1 < k → good b) ∧ wA = wr)
  case atStart => exact ⟨0, rfl, by omega, rfl, fun h => absurd h (by omega), fun h => absurd h (by omega), rfl⟩
  case round =>
    obtain ⟨k, rfl, hk, rfl, hga, hgb, rfl⟩ := hrel
    by_cases hlt : k < 2
    · obtain ⟨v, hv⟩ : ∃ v, v = if k = 0 then a else b := ⟨_, rfl⟩
      have hc : wA.cell? ⟨gb, k, none⟩ = some (.string (S v)) := by
        rw [hv]
        rcases Nat.lt_succ_iff_lt_or_eq.1 hlt with h | h
        · have : k = 0 := by omega
          subst this
          exact HBK.out.cellV 0 rfl
        · subst h
          exact HBK.out.cellV 1 rfl
      have hvl : v.length ≤ 9223372036854775807 := by
        rw [hv]
        split
        · exact HAL.out
        · exact HBL.out
      have HV := Lib.hid hv
      have HGA := Lib.hid hga
      have HGB := Lib.hid hgb
      have HVL := Lib.hid hvl
      clear hv hga hgb
      have hki : (k : Int) < 2 := by omega
      cases v with
      | nil =>
        have t3 : (S ([] : List UInt8)).toList = [] := S_toList _
        have t4 : ((S ([] : List UInt8)).toList == []) = true := by rw [S_toList]; rfl
        go_wp2
        all_goals go_ret
        all_goals exact ⟨rfl, HKA.out⟩
      | cons ch v =>
        have t3 : ¬ (S (ch :: v)).toList = [] := by rw [S_toList]; simp
        have t4 : ((S (ch :: v)).toList == []) = false := by rw [S_toList]; rfl
        have HCV : Hid (ch :: v ≠ []) := Lib.hid (by simp)
        generalize (ch :: v) = v at *
        obtain ⟨n, hn⟩ : ∃ n, n = v.length := ⟨_, rfl⟩
        have hsz : (S v).size = n := by rw [S_size, hn]
        have HNL := Lib.hid hn
        by_cases h30 : 30 < n
        · have h30i : (30 : Int) < n := by omega
          go_wp2
          all_goals go_ret
          all_goals exact ⟨rfl, HKA.out⟩
        · have h30i : ¬ (30 : Int) < n := by omega
          have hg0 : ∀ x : UInt8, (97 ≤ x.toNat ∧ x.toNat ≤ 122 ∨ x.toNat = 58) → lowC x = true := fun x h => by
            unfold lowC
            simp only [Bool.or_eq_true, Bool.and_eq_true, decide_eq_true_eq, beq_iff_eq]
            rcases h with h | h
            · exact .inl h
            · exact .inr (UInt8.toNat_inj.1 h)
          have HLO := Lib.hid hg0
          have HN30 := Lib.hid h30
          clear hg0
          go_wp2
          go_loopg [35] n (fun gg i wr => ∃ (j : Nat), i = .int .i64 j ∧ j ≤ n ∧ gg = n - j ∧ (v.take j).all lowC = true ∧ wA = wr)
          case atStart => exact ⟨0, rfl, Nat.zero_le _, rfl, by simp, rfl⟩
          case round =>
            obtain ⟨j, rfl, hj, rfl, hall, rfl⟩ := hrel
            have HALL := Lib.hid hall
            clear hall
            by_cases hjt : j < n
            · have hjt' : j < v.length := by rw [← HNL.out]; exact hjt
              have hji : (j : Int) < n := by omega
              go_upto_region 12 with (fail)
              rw [S_get v j (by rw [hsz]; exact hjt) hjt']
              obtain ⟨x, hx⟩ : ∃ x, x = (v[j]).toNat := ⟨_, rfl⟩
              rw [← hx]
              have HX := Lib.hid hx
              clear hx
              have hcl : (x < 97 ∧ x ≠ 58) ∨ x = 58 ∨ (97 ≤ x ∧ x ≤ 122) ∨ 122 < x := by omega
              rcases hcl with hc1 | hc1 | hc1 | hc1
              · have a0 : (x : Int) < 97 := by omega
                have a1 : ¬ (122 : Int) < x := by omega
                have a2 : ((x : Int) == 58) = false := by rw [beq_eq_false_iff_ne]; omega
                have a3 : ((x : Int) != 58) = true := by rw [bne_iff_ne]; omega
                go_wp2
                all_goals go_ret
                all_goals exact ⟨rfl, HKA.out⟩
              · have HLX := Lib.hid (HLO.out (v[j]) (.inr (by rw [← HX.out]; exact hc1)))
                have a0 : (x : Int) < 97 := by omega
                have a1 : ¬ (122 : Int) < x := by omega
                have a2 : ((x : Int) == 58) = true := by rw [beq_iff_eq]; omega
                have a3 : ((x : Int) != 58) = false := by rw [bne_eq_false_iff_eq]; omega
                go_wp2
                go_roundg (n - (j + 1))
                case measure => omega
                case rel => exact ⟨j + 1, by go_num, by omega, rfl, by rw [List.take_succ_eq_append_getElem hjt', List.all_append, HALL.out]; simp [HLX.out], rfl⟩
              · have HLX := Lib.hid (HLO.out (v[j]) (.inl (by rw [← HX.out]; exact hc1)))
                have a0 : ¬ (x : Int) < 97 := by omega
                have a1 : ¬ (122 : Int) < x := by omega
                have a2 : ((x : Int) == 58) = false := by rw [beq_eq_false_iff_ne]; omega
                have a3 : ((x : Int) != 58) = true := by rw [bne_iff_ne]; omega
                go_wp2
                go_roundg (n - (j + 1))
                case measure => omega
                case rel => exact ⟨j + 1, by go_num, by omega, rfl, by rw [List.take_succ_eq_append_getElem hjt', List.all_append, HALL.out]; simp [HLX.out], rfl⟩
              · have a0 : ¬ (x : Int) < 97 := by omega
                have a1 : (122 : Int) < x := by omega
                have a2 : ((x : Int) == 58) = false := by rw [beq_eq_false_iff_ne]; omega
                have a3 : ((x : Int) != 58) = true := by rw [bne_iff_ne]; omega
                go_wp2
                all_goals go_ret
                all_goals exact ⟨rfl, HKA.out⟩
            · obtain rfl : j = n := by omega
              have hjn : ¬ (j : Int) < j := by omega
              have HGV : Hid (good v) := Lib.hid ⟨HCV.out, by rw [← HNL.out]; have := HN30.out; omega, by have h := HALL.out; rw [HNL.out, List.take_length] at h; exact h⟩
              go_wp2
              go_roundg (2 - (k + 1))
              case measure => omega
              case rel =>
                refine ⟨k + 1, by go_num, by omega, rfl, fun _ => ?_, fun h => ?_, rfl⟩
                · by_cases h0 : k = 0
                  · have h := HGV.out
                    rw [HV.out, if_pos h0] at h
                    exact h
                  · exact HGA.out (by omega)
                · have h2 := HGV.out
                  rw [HV.out, if_neg (by omega)] at h2
                  exact h2
    · obtain rfl : k = 2 := by omega
      obtain ⟨ha1, ha2, ha3⟩ := hga (by omega)
      obtain ⟨hb1, hb2, hb3⟩ := hgb (by omega)
      have hsa : (S a).size ≤ 30 := by rw [S_size]; exact ha2
      have hsb : (S b).size ≤ 30 := by rw [S_size]; exact hb2
      have hkk : ¬ ((2 : Nat) : Int) < 2 := by omega
      cases inner with
      | true =>
        go_upto_region 20 with (fail)
        rw [more_eq b]
        obtain ⟨M, hM⟩ : ∃ M, M = ([32, 120, 109, 108, 110, 115, 61, 39] ++ b ++ [39, 32, 120, 109, 108, 110, 115, 58, 112, 61, 39] ++ b ++ [39]) := ⟨_, rfl⟩
        rw [← hM]
        have hsm : (S M).size ≤ 100 := by
          rw [S_size, hM]
          simp only [List.length_append, List.length_cons, List.length_nil]
          omega
        have HMT : Hid (M ++ T0 = atX b (atP b T0)) := Lib.hid (by rw [hM, more_T0])
        clear hM
        go_wp2_with fail
        rw [doc_eq, HMT.out]
        have HPS : Hid (parseX (sdoc a (atX b (atP b T0))) = .ok (resE a b)) := Lib.hid (parse_s ha1 ha3 ha2 (sign_X hb3 (sign_P hb3 (by decide))) (by simp only [atX, atP, T0, List.length_cons, List.length_append, List.length_nil]; omega) (content_x2 hb1 hb3))
        have hcall := parse_any (sdoc a (atX b (atP b T0))) wA (HM.out.kp0 HKA.out) (by rw [HPS.out]; exact fun h => by cases h)
        rw [HPS.out] at hcall
        generalize sdoc a (atX b (atP b T0)) = dd at HPS hcall ⊢
        refine hcall.mono ?_
        clear hcall
        rintro e3 w3 ⟨c0, c1, c2, c3, c4, rfl, hel, hk⟩
        have HK3 := Lib.hid (HKA.out.tr hk)
        unfold resE ElV at hel
        obtain ⟨rfl, rfl, hat, rfl, cs, hkd, hks⟩ := hel
        obtain ⟨ax, px, rfl, -⟩ := hat.sl
        unfold ElsV at hks
        obtain ⟨d0, d1, d2, d3, d4, rest, rfl, hy, hks⟩ := hks
        unfold ElsV at hks
        obtain ⟨f0, f1, f2, f3, f4, rest, rfl, hww, -⟩ := hks
        unfold ElV at hy hww
        obtain ⟨rfl, rfl, hay, rfl, cy, hky, hyk⟩ := hy
        obtain ⟨rfl, -⟩ := hww
        obtain ⟨ay, py, rfl, -⟩ := hay.sl
        unfold ElsV at hyk
        obtain ⟨g0, g1, g2, g3, g4, rest2, rfl, hz1, hyk⟩ := hyk
        unfold ElsV at hyk
        obtain ⟨i0, i1, i2, i3, i4, rest3, rfl, hz2, -⟩ := hyk
        unfold ElV at hz1 hz2
        obtain ⟨rfl, -⟩ := hz1
        obtain ⟨rfl, rfl, -⟩ := hz2
        obtain ⟨ao, p4, rfl, h2, h3, h4, h5, h6⟩ := hkd
        obtain ⟨ao2, p5, rfl, i2', i3', i4', i5, i6⟩ := hky
        obtain ⟨ad, rfl⟩ : ∃ ad, ao = some ad := by
          cases ao with
          | none => have := h5 rfl; simp at h3; omega
          | some ad => exact ⟨ad, rfl⟩
        obtain ⟨ae, rfl⟩ : ∃ ad, ao2 = some ad := by
          cases ao2 with
          | none => have := i5 rfl; simp at i3'; omega
          | some ad => exact ⟨ad, rfl⟩
        have hcd := fun i u hu => (h6 ad rfl i u hu).2
        have hce := fun i u hu => (i6 ae rfl i u hu).2
        have Q0 : Hid (w3.cell? ad = _) := Lib.hid (hcd 0 _ rfl)
        have Q1 : Hid (w3.cell? ⟨ad.block, ad.off + 1, none⟩ = _) := Lib.hid (hcd 1 _ rfl)
        have Q2 : Hid (w3.cell? ⟨ad.block, ad.off + 2, none⟩ = _) := Lib.hid (hcd 2 _ rfl)
        have Q3 : Hid (w3.cell? ⟨ad.block, ad.off + 3, none⟩ = _) := Lib.hid (hcd 3 _ rfl)
        have Q4 : Hid (w3.cell? ⟨ad.block, ad.off + 4, none⟩ = _) := Lib.hid (hcd 4 _ rfl)
        have Q5 : Hid (w3.cell? ⟨ad.block, ad.off + 5, none⟩ = _) := Lib.hid (hcd 5 _ rfl)
        have R0 : Hid (w3.cell? ae = _) := Lib.hid (hce 0 _ rfl)
        have R5 : Hid (w3.cell? ⟨ae.block, ae.off + 5, none⟩ = _) := Lib.hid (hce 5 _ rfl)
        have R6 : Hid (w3.cell? ⟨ae.block, ae.off + 6, none⟩ = _) := Lib.hid (hce 6 _ rfl)
        clear hcd hce h2 h3 h4 h5 h6 i2' i3' i4' i5 i6 hat hay hk
        go_upto_region 21 with (fail)
        obtain ⟨wE, hwE⟩ : ∃ x, x = w3.alloc (.cells #[.string (S a), .string (S [120]), .slice ax 0 px, .string (S []), .slice (some ad) 2 p4] 25) := ⟨_, rfl⟩
        obtain ⟨eb, heb⟩ : ∃ x, x = w3.heap.size := ⟨_, rfl⟩
        have HBE : Hid (Blk wE eb 25 [.string (S a), .string (S [120]), .slice ax 0 px, .string (S []), .slice (some ad) 2 p4]) := Lib.hid (by rw [hwE, heb]; exact blk0 w3 _ _)
        have hkE : Kp0 w3 wE := by rw [hwE]; exact (Kp.refl _ _).alloc _
        have HKE := Lib.hid hkE
        have HKW := Lib.hid (HK3.out.tr hkE)
        have e0 := HBE.out.cellV 0 rfl
        have e1 := HBE.out.cellV 1 rfl
        have e2 := HBE.out.cellV 2 rfl
        have e3 := HBE.out.cellV 3 rfl
        have e4 := HBE.out.cellV 4 rfl
        have q0 := hkE.cell Q0.out (fun h => h)
        have q1 := hkE.cell Q1.out (fun h => h)
        have q2 := hkE.cell Q2.out (fun h => h)
        have q3 := hkE.cell Q3.out (fun h => h)
        have q4 := hkE.cell Q4.out (fun h => h)
        have q5 := hkE.cell Q5.out (fun h => h)
        rw [← hwE, ← heb]
        clear hwE heb hkE
        go_upto_region 24 with (fail)
        obtain ⟨wF, hwF⟩ : ∃ x, x = wE.alloc (.cells #[.string (S b), .string (S [121]), .slice ay 0 py, .string (S []), .slice (some ae) 2 p5] 25) := ⟨_, rfl⟩
        obtain ⟨yb, hyb⟩ : ∃ x, x = wE.heap.size := ⟨_, rfl⟩
        have HBY : Hid (Blk wF yb 25 [.string (S b), .string (S [121]), .slice ay 0 py, .string (S []), .slice (some ae) 2 p5]) := Lib.hid (by rw [hwF, hyb]; exact blk0 wE _ _)
        have hkF : Kp0 wE wF := by rw [hwF]; exact (Kp.refl _ _).alloc _
        have HKX := Lib.hid (HKW.out.tr hkF)
        have HBE2 := Lib.hid (HBE.out.kp0 hkF)
        clear e0 e1 e2 e3 e4 q0 q1 q2 q3 q4 q5
        have y0 := HBY.out.cellV 0 rfl
        have y2 := HBY.out.cellV 2 rfl
        have y4 := HBY.out.cellV 4 rfl
        have e4 := HBE2.out.cellV 4 rfl
        have q5 := hkF.cell (HKE.out.cell Q5.out (fun h => h)) (fun h => h)
        have r0 := hkF.cell (HKE.out.cell R0.out (fun h => h)) (fun h => h)
        have r5 := hkF.cell (HKE.out.cell R5.out (fun h => h)) (fun h => h)
        have r6 := hkF.cell (HKE.out.cell R6.out (fun h => h)) (fun h => h)
        have z1 : ((S [122]).toList == [122]) = true := by rw [S_toList]; rfl
        have z2 : (S [122]).toList = [122] := S_toList _
        rw [← hwF, ← hyb]
        clear hwF hyb hkF
        go_wp2
        all_goals go_ret
        all_goals exact ⟨rfl, HKX.out⟩
      | false =>
        have HPS : Hid (parseX (sdoc a T0) = .ok (resE a a)) := Lib.hid (parse_s ha1 ha3 ha2 (by decide) (by decide) (content_x1 a))
        have hcall := parse_any (sdoc a T0) wA (HM.out.kp0 HKA.out) (by rw [HPS.out]; exact fun h => by cases h)
        rw [HPS.out] at hcall
        go_wp2_with fail
        rw [show ({ data := #[] } : ByteArray) = S [] from rfl, doc_eq, List.nil_append]
        generalize sdoc a T0 = dd at HPS hcall ⊢
        refine hcall.mono ?_
        clear hcall
        rintro e3 w3 ⟨c0, c1, c2, c3, c4, rfl, hel, hk⟩
        have HK3 := Lib.hid (HKA.out.tr hk)
        unfold resE ElV at hel
        obtain ⟨rfl, rfl, hat, rfl, cs, hkd, hks⟩ := hel
        obtain ⟨ax, px, rfl, -⟩ := hat.sl
        unfold ElsV at hks
        obtain ⟨d0, d1, d2, d3, d4, rest, rfl, hy, hks⟩ := hks
        unfold ElsV at hks
        obtain ⟨f0, f1, f2, f3, f4, rest, rfl, hww, -⟩ := hks
        unfold ElV at hy hww
        obtain ⟨rfl, rfl, hay, rfl, cy, hky, hyk⟩ := hy
        obtain ⟨rfl, -⟩ := hww
        obtain ⟨ay, py, rfl, -⟩ := hay.sl
        unfold ElsV at hyk
        obtain ⟨g0, g1, g2, g3, g4, rest2, rfl, hz1, hyk⟩ := hyk
        unfold ElsV at hyk
        obtain ⟨i0, i1, i2, i3, i4, rest3, rfl, hz2, -⟩ := hyk
        unfold ElV at hz1 hz2
        obtain ⟨rfl, -⟩ := hz1
        obtain ⟨rfl, rfl, -⟩ := hz2
        obtain ⟨ao, p4, rfl, h2, h3, h4, h5, h6⟩ := hkd
        obtain ⟨ao2, p5, rfl, i2', i3', i4', i5, i6⟩ := hky
        obtain ⟨ad, rfl⟩ : ∃ ad, ao = some ad := by
          cases ao with
          | none => have := h5 rfl; simp at h3; omega
          | some ad => exact ⟨ad, rfl⟩
        obtain ⟨ae, rfl⟩ : ∃ ad, ao2 = some ad := by
          cases ao2 with
          | none => have := i5 rfl; simp at i3'; omega
          | some ad => exact ⟨ad, rfl⟩
        have hcd := fun i u hu => (h6 ad rfl i u hu).2
        have hce := fun i u hu => (i6 ae rfl i u hu).2
        have Q0 : Hid (w3.cell? ad = _) := Lib.hid (hcd 0 _ rfl)
        have Q1 : Hid (w3.cell? ⟨ad.block, ad.off + 1, none⟩ = _) := Lib.hid (hcd 1 _ rfl)
        have Q2 : Hid (w3.cell? ⟨ad.block, ad.off + 2, none⟩ = _) := Lib.hid (hcd 2 _ rfl)
        have Q3 : Hid (w3.cell? ⟨ad.block, ad.off + 3, none⟩ = _) := Lib.hid (hcd 3 _ rfl)
        have Q4 : Hid (w3.cell? ⟨ad.block, ad.off + 4, none⟩ = _) := Lib.hid (hcd 4 _ rfl)
        have Q5 : Hid (w3.cell? ⟨ad.block, ad.off + 5, none⟩ = _) := Lib.hid (hcd 5 _ rfl)
        have R0 : Hid (w3.cell? ae = _) := Lib.hid (hce 0 _ rfl)
        have R5 : Hid (w3.cell? ⟨ae.block, ae.off + 5, none⟩ = _) := Lib.hid (hce 5 _ rfl)
        have R6 : Hid (w3.cell? ⟨ae.block, ae.off + 6, none⟩ = _) := Lib.hid (hce 6 _ rfl)
        clear hcd hce h2 h3 h4 h5 h6 i2' i3' i4' i5 i6 hat hay hk
        go_upto_region 21 with (fail)
        obtain ⟨wE, hwE⟩ : ∃ x, x = w3.alloc (.cells #[.string (S a), .string (S [120]), .slice ax 0 px, .string (S []), .slice (some ad) 2 p4] 25) := ⟨_, rfl⟩
        obtain ⟨eb, heb⟩ : ∃ x, x = w3.heap.size := ⟨_, rfl⟩
        have HBE : Hid (Blk wE eb 25 [.string (S a), .string (S [120]), .slice ax 0 px, .string (S []), .slice (some ad) 2 p4]) := Lib.hid (by rw [hwE, heb]; exact blk0 w3 _ _)
        have hkE : Kp0 w3 wE := by rw [hwE]; exact (Kp.refl _ _).alloc _
        have HKE := Lib.hid hkE
        have HKW := Lib.hid (HK3.out.tr hkE)
        have e0 := HBE.out.cellV 0 rfl
        have e1 := HBE.out.cellV 1 rfl
        have e2 := HBE.out.cellV 2 rfl
        have e3 := HBE.out.cellV 3 rfl
        have e4 := HBE.out.cellV 4 rfl
        have q0 := hkE.cell Q0.out (fun h => h)
        have q1 := hkE.cell Q1.out (fun h => h)
        have q2 := hkE.cell Q2.out (fun h => h)
        have q3 := hkE.cell Q3.out (fun h => h)
        have q4 := hkE.cell Q4.out (fun h => h)
        have q5 := hkE.cell Q5.out (fun h => h)
        rw [← hwE, ← heb]
        clear hwE heb hkE
        go_upto_region 24 with (fail)
        obtain ⟨wF, hwF⟩ : ∃ x, x = wE.alloc (.cells #[.string (S a), .string (S [121]), .slice ay 0 py, .string (S []), .slice (some ae) 2 p5] 25) := ⟨_, rfl⟩
        obtain ⟨yb, hyb⟩ : ∃ x, x = wE.heap.size := ⟨_, rfl⟩
        have HBY : Hid (Blk wF yb 25 [.string (S a), .string (S [121]), .slice ay 0 py, .string (S []), .slice (some ae) 2 p5]) := Lib.hid (by rw [hwF, hyb]; exact blk0 wE _ _)
        have hkF : Kp0 wE wF := by rw [hwF]; exact (Kp.refl _ _).alloc _
        have HKX := Lib.hid (HKW.out.tr hkF)
        have HBE2 := Lib.hid (HBE.out.kp0 hkF)
        clear e0 e1 e2 e3 e4 q0 q1 q2 q3 q4 q5
        have y0 := HBY.out.cellV 0 rfl
        have y2 := HBY.out.cellV 2 rfl
        have y4 := HBY.out.cellV 4 rfl
        have e4 := HBE2.out.cellV 4 rfl
        have q5 := hkF.cell (HKE.out.cell Q5.out (fun h => h)) (fun h => h)
        have r0 := hkF.cell (HKE.out.cell R0.out (fun h => h)) (fun h => h)
        have r5 := hkF.cell (HKE.out.cell R5.out (fun h => h)) (fun h => h)
        have r6 := hkF.cell (HKE.out.cell R6.out (fun h => h)) (fun h => h)
        have z1 : ((S [122]).toList == [122]) = true := by rw [S_toList]; rfl
        have z2 : (S [122]).toList = [122] := S_toList _
        rw [← hwF, ← hyb]
        clear hwF hyb hkF
        go_wp2
        all_goals go_ret
        all_goals exact ⟨rfl, HKX.out⟩
theorem spaces_walk (s0 s1 : ByteArray) (a2 : Bool) (W : World) (ml : Ml W) (b0 : s0.size ≤ 140737488351232) (b1 : s1.size ≤ 140737488351232) : Calls Tryz.prog 5 #[.string s0, .string s1, .bool a2] W fun e w' => e = .returned (.bool true) ∧ Kp0 W w' := by
  have h := spaces_any s0.toList s1.toList a2 W ml (by rw [size_toList]; omega) (by rw [size_toList]; omega)
  rw [S_of, S_of] at h
  exact h
end Go.Proofs.YtchmookggegmnaaGreatDoor
