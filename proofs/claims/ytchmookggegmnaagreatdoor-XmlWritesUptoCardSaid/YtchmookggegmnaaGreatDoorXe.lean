/- XML in plain words: how much is left; which errors. Package xml: a part of an element's content. Package xml: an element's content. Package xml: an element. Package xml: a document. Package xml: Parse. What the card's condition tells of the program's own variables. -/
import Derived.Test.YtchmookggegmnaaGreatDoorXd
import Derived.LaidLaws
namespace Go.Proofs.YtchmookggegmnaaGreatDoor
open Go Go.RowKit
theorem bind_bad {α β : Type} {x : R α} {f : α → R β} {e : Nat} (h : x.bind f = .bad e) : x = .bad e ∨ ∃ a, x = .ok a ∧ f a = .bad e := by
  cases x with
  | no => cases h
  | bad e' => left; cases h; rfl
  | ok a => right; exact ⟨a, rfl, h⟩
theorem entX_bad {l : List UInt8} {e : Nat} (h : entX l = .bad e) : False := by
  unfold entX at h
  split at h <;> cases h
theorem valueX_bad {l : List UInt8} {e : Nat} (h : valueX l = .bad e) : e = 3 := by
  unfold valueX at h
  split at h
  · cases h; rfl
  · split at h
    · cases h; rfl
    · split at h
      · cases h; rfl
      · rcases bind_bad h with h1 | ⟨a, _, h2⟩
        · exact (entX_bad h1).elim
        · cases h2
theorem attrX_bad {l : List Att} {s : List UInt8} {e : Nat} (h : attrX l s = .bad e) : e = 3 := by
  unfold attrX at h
  split at h
  · cases h; rfl
  · split at h
    · cases h; rfl
    · rcases bind_bad h with h1 | ⟨a, _, h2⟩
      · exact valueX_bad h1
      · cases h2
theorem tagLoop_bad : ∀ (f : Nat) (l : List Att) (s : List UInt8) (e : Nat), tagLoop f l s = .bad e → e = 3
  | 0, _, _, _, h => by cases h
  | f + 1, l, s, e, h => by
    unfold tagLoop at h
    split at h
    · cases h
    · split at h
      · cases h
      · split at h
        · rcases bind_bad h with h1 | ⟨a, _, h2⟩
          · exact attrX_bad h1
          · exact tagLoop_bad f _ _ e h2
        · cases h; rfl
theorem tagX_bad {s : List UInt8} {e : Nat} (h : tagX s = .bad e) : e = 3 := by
  unfold tagX at h
  split at h
  · cases h; rfl
  · split at h
    · cases h; rfl
    · rcases bind_bad h with h1 | ⟨a, _, h2⟩
      · exact tagLoop_bad _ _ _ _ h1
      · cases h2
theorem attrsX_bad3 {said : Say} {l : List Att} {e : Nat} (h : attrsX said l = .bad e) : e = 3 := by
  unfold attrsX at h
  split at h
  · cases h; rfl
  · split at h <;> cases h
theorem beginX_bad {said : Say} {t : Tg} {e : Nat} (h : beginX said t = .bad e) : e = 3 := by
  unfold beginX at h
  split at h
  · cases h; rfl
  · split at h
    · cases h; rfl
    · rcases bind_bad h with h1 | ⟨a, _, h2⟩
      · exact attrsX_bad3 h1
      · cases h2
theorem betweenX_bad : ∀ (f : Nat) (l : List UInt8) (e : Nat), betweenX f l = .bad e → e = 3
  | 0, _, _, h => by cases h
  | f + 1, l, e, h => by
    unfold betweenX at h
    split at h
    · split at h
      · cases h; rfl
      · exact betweenX_bad f _ e h
    · cases h
theorem betweenX_le : ∀ (f : Nat) (l r : List UInt8), betweenX f l = .ok r → r.length ≤ l.length
  | 0, _, _, h => by cases h
  | f + 1, l, r, h => by
    unfold betweenX at h
    have h1 := dropB_le l
    split at h
    · split at h
      · cases h
      · rename_i r' hc
        have h2 := commentX_le hc
        have h3 := betweenX_le f _ _ h
        rw [List.length_drop] at h2
        omega
    · cases h
      exact h1
theorem tagLoop_le : ∀ (f : Nat) (l : List Att) (s : List UInt8) (x : List Att × Bool) (r : List UInt8), l.length ≤ 32 → tagLoop f l s = .ok (x, r) → x.1.length ≤ 32 ∧ r.length ≤ s.length
  | 0, _, _, _, _, _, h => by cases h
  | f + 1, l, s, x, r, hl, h => by
    have h1 := dropB_le s
    unfold tagLoop at h
    split at h
    · cases h
      exact ⟨hl, by rw [List.length_drop]; omega⟩
    · split at h
      · cases h
        exact ⟨hl, by rw [List.length_drop]; omega⟩
      · split at h
        · obtain ⟨⟨l', r'⟩, h2, h3⟩ := bind_ok h
          have h4 := attrX_le h2 hl
          have h5 := tagLoop_le f l' r' x r h4.1 h3
          exact ⟨h5.1, by omega⟩
        · cases h
theorem tagX_le {s : List UInt8} {t : Tg} {r : List UInt8} (h : tagX s = .ok (t, r)) : t.attrs.length ≤ 32 ∧ r.length ≤ s.length := by
  unfold tagX at h
  split at h
  · cases h
  · split at h
    · cases h
    · obtain ⟨⟨x, r'⟩, h2, h3⟩ := bind_ok h
      have h4 := tagLoop_le _ _ _ _ _ (Nat.zero_le _) h2
      have h5 := writtenX_le (s.drop 1)
      rw [List.length_drop] at h5
      cases h3
      exact ⟨h4.1, by simp only []; omega⟩
theorem beginX_len {said s' : Say} {t : Tg} {e : PE} (h : beginX said t = .ok (s', e)) : s'.length ≤ said.length + t.attrs.length ∧ ∃ sp nm a, e = .mk sp nm a [] [] := by
  unfold beginX at h
  split at h
  · cases h
  · rename_i s1 hs
    split at h
    · cases h
    · obtain ⟨a, _, h3⟩ := bind_ok h
      cases h3
      exact ⟨hearsX_len _ _ _ hs, _, _, _, rfl⟩
theorem endX_le {n : Wn} {l r : List UInt8} (h : endX n l = some r) : r.length ≤ l.length := by
  unfold endX at h
  have h1 := writtenX_le l
  have h2 := dropB_le (writtenX l).2
  split at h
  · cases h
    rw [List.length_drop]
    omega
  · cases h
theorem partX_eq (el : List UInt8 → R (PE × List UInt8)) (c : Ct) (l : List UInt8) : partX el c l =
    if Lib.hasPrefix l [60, 33, 45, 45] then (match commentX (l.drop 4) with | none => .bad 3 | some r => .ok (c, r))
    else if Lib.hasPrefix l [60, 33, 91, 67, 68, 65, 84, 65, 91] then cdataX c (l.drop 9)
    else if Lib.hasPrefix l [60] then kidX el c l else textX c l := rfl
theorem cut_sum (l x : List UInt8) : (Lib.cut l x).1.length + (Lib.cut l x).2.1.length ≤ l.length := by
  unfold Lib.cut
  split
  · simp only [List.length_take, List.length_drop]
    omega
  · simp
/-- What an element leaves is no more than what there was. -/
def Shr (el : List UInt8 → R (PE × List UInt8)) : Prop := ∀ l k r, el l = .ok (k, r) → r.length ≤ l.length
def Er (el : List UInt8 → R (PE × List UInt8)) : Prop := ∀ l e, el l = .bad e → e ≠ 0 ∧ e < 100
theorem partX_le {el : List UInt8 → R (PE × List UInt8)} (hel : Shr el) {c c' : Ct} {l r : List UInt8} (h : partX el c l = .ok (c', r)) (hk : c.kids.length ≤ 256) : c'.text.length + r.length ≤ c.text.length + l.length ∧ c'.kids.length ≤ 256 := by
  rw [partX_eq] at h
  split at h
  · split at h
    · cases h
    · rename_i r' hc
      have h1 := commentX_le hc
      rw [List.length_drop] at h1
      cases h
      omega
  · split at h
    · unfold cdataX at h
      have h1 := cut_sum (l.drop 9) [93, 93, 62]
      split at h
      · cases h
      · rename_i t r' hq
        rw [hq] at h1
        simp only [List.length_drop] at h1
        cases h
        simp only [List.length_append]
        omega
    · split at h
      · unfold kidX at h
        obtain ⟨⟨k, r'⟩, h1, h2⟩ := bind_ok h
        have h3 := hel _ _ _ h1
        split at h2
        · cases h2
        · rename_i h4
          cases h2
          simp only [] at h4 ⊢
          simp only [List.length_append, List.length_singleton]
          omega
      · unfold textX at h
        split at h
        · cases h
        · obtain ⟨t, h1, h2⟩ := bind_ok h
          have h3 := entX_le h1
          cases h2
          simp only [List.length_append, List.length_drop, List.length_take] at h3 ⊢
          omega
theorem partX_bad {el : List UInt8 → R (PE × List UInt8)} (hel : Er el) {c : Ct} {l : List UInt8} {e : Nat} (h : partX el c l = .bad e) : e ≠ 0 ∧ e < 100 := by
  rw [partX_eq] at h
  split at h
  · split at h
    · cases h; decide
    · cases h
  · split at h
    · unfold cdataX at h
      split at h
      · cases h; decide
      · cases h
    · split at h
      · unfold kidX at h
        rcases bind_bad h with h1 | ⟨a, _, h2⟩
        · exact hel _ _ h1
        · split at h2
          · cases h2; decide
          · cases h2
      · unfold textX at h
        split at h
        · cases h; decide
        · rcases bind_bad h with h1 | ⟨a, _, h2⟩
          · exact (entX_bad h1).elim
          · cases h2
theorem partsX_le {el : List UInt8 → R (PE × List UInt8)} (hel : Shr el) : ∀ (f : Nat) (c c' : Ct) (l r : List UInt8), c.kids.length ≤ 256 → partsX el f c l = .ok (c', r) → c'.text.length + r.length ≤ c.text.length + l.length ∧ c'.kids.length ≤ 256
  | 0, _, _, _, _, _, h => by cases h
  | f + 1, c, c', l, r, hk, h => by
    unfold partsX at h
    split at h
    · cases h
      exact ⟨by rw [List.length_drop]; omega, hk⟩
    · obtain ⟨⟨c1, l1⟩, h1, h2⟩ := bind_ok h
      have h3 := partX_le hel h1 hk
      have h4 := partsX_le hel f c1 c' l1 r h3.2 h2
      exact ⟨by omega, h4.2⟩
theorem partsX_bad {el : List UInt8 → R (PE × List UInt8)} (hel : Er el) : ∀ (f : Nat) (c : Ct) (l : List UInt8) (e : Nat), partsX el f c l = .bad e → e ≠ 0 ∧ e < 100
  | 0, _, _, _, h => by cases h
  | f + 1, c, l, e, h => by
    unfold partsX at h
    split at h
    · cases h
    · rcases bind_bad h with h1 | ⟨a, _, h2⟩
      · exact partX_bad hel h1
      · exact partsX_bad hel f _ _ e h2
theorem contentX_le {el : List UInt8 → R (PE × List UInt8)} (hel : Shr el) {n : Wn} {l r : List UInt8} {x : List UInt8 × List PE} (h : contentX el n l = .ok (x, r)) : r.length ≤ l.length := by
  unfold contentX at h
  obtain ⟨⟨c, l1⟩, h1, h2⟩ := bind_ok h
  have h3 := partsX_le hel _ _ _ _ _ (Nat.zero_le _) h1
  simp only [List.length_nil] at h3
  split at h2
  · cases h2
  · rename_i r2 he
    have h4 := endX_le he
    simp only [] at h4
    split at h2
    · cases h2; omega
    · split at h2
      · cases h2
      · cases h2; omega
theorem contentX_bad {el : List UInt8 → R (PE × List UInt8)} (hel : Er el) {n : Wn} {l : List UInt8} {e : Nat} (h : contentX el n l = .bad e) : e ≠ 0 ∧ e < 100 := by
  unfold contentX at h
  rcases bind_bad h with h1 | ⟨a, _, h2⟩
  · exact partsX_bad hel _ _ _ _ h1
  · split at h2
    · cases h2; decide
    · split at h2
      · cases h2
      · split at h2
        · cases h2; decide
        · cases h2
theorem elemX_le : ∀ (f : Nat) (said : Say), Shr (elemX f said)
  | 0, _ => fun l k r h => by cases h
  | f + 1, said => fun l k r h => by
    unfold elemX at h
    obtain ⟨⟨t, r1⟩, h1, h2⟩ := bind_ok h
    have h3 := (tagX_le h1).2
    obtain ⟨⟨s, e⟩, h4, h5⟩ := bind_ok h2
    simp only [] at h5
    split at h5
    · cases h5; exact h3
    · obtain ⟨⟨z, r2⟩, h6, h7⟩ := bind_ok h5
      have h8 := contentX_le (elemX_le f s) h6
      cases h7
      simp only []
      omega
theorem elemX_bad : ∀ (f : Nat) (said : Say), Er (elemX f said)
  | 0, _ => fun l e h => by cases h; decide
  | f + 1, said => fun l e h => by
    unfold elemX at h
    rcases bind_bad h with h1 | ⟨⟨t, r1⟩, h1, h2⟩
    · rw [tagX_bad h1]; decide
    · rcases bind_bad h2 with h3 | ⟨⟨s, e'⟩, h4, h5⟩
      · rw [beginX_bad h3]; decide
      · simp only [] at h5
        split at h5
        · cases h5
        · rcases bind_bad h5 with h6 | ⟨a, _, h7⟩
          · exact contentX_bad (elemX_bad f s) h6
          · cases h7
end Go.Proofs.YtchmookggegmnaaGreatDoor
namespace Go.Proofs.YtchmookggegmnaaGreatDoor
open Go Go.RowKit
theorem hasP_any (l : List UInt8) (w : World) : Calls Tryz.prog 75 #[.string (S l), .string { data := #[60] }] w fun e w' => e = .returned (.bool (Lib.hasPrefix l [60])) ∧ w = w' := by
  refine (Tryz.strings_HasPrefix (S l) _ w).mono ?_
  rw [S_data]
  rintro e w' ⟨rfl, rfl⟩
  exact ⟨rfl, rfl⟩
theorem CtPost.pre {B : Nat} {Z : Nat → Prop} {w0 w w1 w2 : World} {b cb : Nat} {vs : Value} {said : Say} {c : Ct} {l : List UInt8} (h : CtPost B Z w0 b cb vs said w1 w2 c l) (hk : Kp (SP w0 b vs) w w1) : CtPost B Z w0 b cb vs said w w2 c l := by
  obtain ⟨vs', p, v, vk, kc, h1, h2, h3⟩ := h
  exact ⟨vs', p, v, vk, kc, h1, h2, hk.tr h3⟩
set_option maxRecDepth 20000 in
set_option maxHeartbeats 4000000 in
theorem part_any (f : Nat) (hE : ElemC f) (B : Nat) (Z : Nat → Prop) (w0 : World) (b cb : Nat) (vs p v vk : Value) (l : List UInt8) (said : Say) (c : Ct) (kc : List Value) (w : World) (d : Nat) (hd : d + f = 16) (h : RC B Z w0 w b cb vs p v vk l said c kc) (hl : l.length ≤ 16384) (hct : c.text.length ≤ 16384) (hs : said.length + 32 * f ≤ 512) (hkn : c.kids.length ≤ 256) (hn : partX (elemX f said) c l ≠ .no) :
    Calls Tryz.prog 58 #[.pointer (some ⟨b, 0, none⟩), .pointer (some ⟨cb, 0, none⟩), .int .i64 d] w fun e w' => KdPost B Z w0 b cb vs said w e w' (partX (elemX f said) c l) := by
  have H := Lib.hid h
  have HE := Lib.hid hE
  have HD := Lib.hid hd
  have HL := Lib.hid hl
  have HCT := Lib.hid hct
  have HS := Lib.hid hs
  have HKN := Lib.hid hkn
  have hpx := partX_eq (elemX f said) c l
  clear h hE hd hl hct hs hkn
  obtain ⟨f1, hf1⟩ : ∃ f, f = Lib.hasPrefix l [60, 33, 45, 45] := ⟨_, rfl⟩
  have HF1 := Lib.hid hf1.symm
  cases f1 with
  | true =>
    have HT1 := Lib.hid (trimP_yes HF1.out)
    have HLC : Hid ((l.drop 4).length ≤ 16384) := Lib.hid (drop_len HL.out)
    obtain ⟨cx, hcx⟩ : ∃ c, c = commentX (l.drop 4) := ⟨_, rfl⟩
    have HCX : Hid (commentX (l.drop 4) = cx) := Lib.hid hcx.symm
    cases cx with
    | none =>
      have HR : Hid (partX (elemX f said) c l = .bad 3) := Lib.hid (by rw [hpx, ← hf1, ← hcx]; rfl)
      clear hpx hf1 hcx hn
      rw [HR.out]
      go_enter Tryz.func58, Tryz.ntmps58
      go_wp2_with fail
      refine (take_any B Z b l said vs _ [60, 33, 45, 45] _ (lit1 [60, 33, 45, 45]) H.out.x).mono ?_
      rw [HF1.out]
      rintro e1 w1 ⟨rfl, h1, hk⟩
      rw [HT1.out] at h1
      have H1 := Lib.hid (H.out.read h1 hk)
      have HK1 := Lib.hid (H.out.sp hk (fun _ h => .inl h))
      clear h1 hk
      go_wp2_with fail
      refine (comment_any B Z b _ said vs _ H1.out.x HLC.out).mono ?_
      show ∀ e w', EnPost _ _ _ _ _ _ e w' (commentX (l.drop 4)) → _
      rw [HCX.out]
      rintro e3 w3 ⟨rfl, hk⟩
      have HK3 := Lib.hid (HK1.out.tr (H1.out.sp hk (fun _ h => .inl h)))
      clear hk
      go_wp2
      go_ret
      exact ⟨rfl, by decide, by decide, HK3.out⟩
    | some r =>
      have HR : Hid (partX (elemX f said) c l = .ok (c, r)) := Lib.hid (by rw [hpx, ← hf1, ← hcx]; rfl)
      clear hpx hf1 hcx hn
      rw [HR.out]
      go_enter Tryz.func58, Tryz.ntmps58
      go_wp2_with fail
      refine (take_any B Z b l said vs _ [60, 33, 45, 45] _ (lit1 [60, 33, 45, 45]) H.out.x).mono ?_
      rw [HF1.out]
      rintro e1 w1 ⟨rfl, h1, hk⟩
      rw [HT1.out] at h1
      have H1 := Lib.hid (H.out.read h1 hk)
      have HK1 := Lib.hid (H.out.sp hk (fun _ h => .inl h))
      clear h1 hk
      go_wp2_with fail
      refine (comment_any B Z b _ said vs _ H1.out.x HLC.out).mono ?_
      show ∀ e w', EnPost _ _ _ _ _ _ e w' (commentX (l.drop 4)) → _
      rw [HCX.out]
      rintro e3 w3 ⟨rfl, h3, hk⟩
      have H3 := Lib.hid (H1.out.read h3 hk)
      have HK3 := Lib.hid (HK1.out.tr (H1.out.sp hk (fun _ h => .inl h)))
      clear h3 hk
      go_wp2
      go_ret
      exact ⟨rfl, vs, p, v, vk, kc, H3.out, fun _ h => .inl h, HK3.out⟩
  | false =>
    have HT1 := Lib.hid (trimP_no HF1.out)
    obtain ⟨f2, hf2⟩ : ∃ f, f = Lib.hasPrefix l [60, 33, 91, 67, 68, 65, 84, 65, 91] := ⟨_, rfl⟩
    have HF2 := Lib.hid hf2.symm
    cases f2 with
    | true =>
      have HT2 : Hid (Lib.trimPrefix l [60, 33, 91, 67, 68, 65, 84, 65, 91] = l.drop 9) := Lib.hid (trimP_yes HF2.out)
      have HLC : Hid ((l.drop 9).length ≤ 16384) := Lib.hid (drop_len HL.out)
      obtain ⟨px, hpx2⟩ : ∃ x, x = cdataX c (l.drop 9) := ⟨_, rfl⟩
      have HPX : Hid (cdataX c (l.drop 9) = px) := Lib.hid hpx2.symm
      have HR : Hid (partX (elemX f said) c l = px) := Lib.hid (by rw [hpx, ← hf1, ← hf2, hpx2]; rfl)
      have HN : Hid (px ≠ .no) := Lib.hid (by rw [← HR.out]; exact hn)
      clear hpx hf1 hf2 hpx2 hn
      rw [HR.out]
      cases px with
      | no => exact absurd rfl HN.out
      | bad e =>
        have he : e = 3 := by
          have := HPX.out
          unfold cdataX at this
          split at this
          · cases this; rfl
          · cases this
        subst he
        go_enter Tryz.func58, Tryz.ntmps58
        go_wp2_with fail
        refine (take_any B Z b l said vs _ [60, 33, 45, 45] _ (lit1 [60, 33, 45, 45]) H.out.x).mono ?_
        rw [HF1.out]
        rintro e1 w1 ⟨rfl, h1, hk⟩
        rw [HT1.out] at h1
        have H1 := Lib.hid (H.out.read h1 hk)
        have HK1 := Lib.hid (H.out.sp hk (fun _ h => .inl h))
        clear h1 hk
        go_wp2_with fail
        refine (take_any B Z b l said vs _ [60, 33, 91, 67, 68, 65, 84, 65, 91] _ (lit1 [60, 33, 91, 67, 68, 65, 84, 65, 91]) H1.out.x).mono ?_
        rw [HF2.out]
        rintro e2 w2 ⟨rfl, h2, hk⟩
        rw [HT2.out] at h2
        have H2 := Lib.hid (H1.out.read h2 hk)
        have HK2 := Lib.hid (HK1.out.tr (H1.out.sp hk (fun _ h => .inl h)))
        have hc0 := h2.c0
        clear h2 hk
        go_wp2_with fail
        refine (cdata_any B Z w0 b cb vs p v vk _ said c kc _ H2.out HLC.out HCT.out).mono ?_
        rw [HPX.out]
        rintro e3 w3 ⟨rfl, hk⟩
        have HK3 := Lib.hid (HK2.out.tr hk)
        clear hk
        go_wp2
        go_ret
        exact ⟨rfl, by decide, by decide, HK3.out⟩
      | ok x =>
        obtain ⟨c', r⟩ := x
        go_enter Tryz.func58, Tryz.ntmps58
        go_wp2_with fail
        refine (take_any B Z b l said vs _ [60, 33, 45, 45] _ (lit1 [60, 33, 45, 45]) H.out.x).mono ?_
        rw [HF1.out]
        rintro e1 w1 ⟨rfl, h1, hk⟩
        rw [HT1.out] at h1
        have H1 := Lib.hid (H.out.read h1 hk)
        have HK1 := Lib.hid (H.out.sp hk (fun _ h => .inl h))
        clear h1 hk
        go_wp2_with fail
        refine (take_any B Z b l said vs _ [60, 33, 91, 67, 68, 65, 84, 65, 91] _ (lit1 [60, 33, 91, 67, 68, 65, 84, 65, 91]) H1.out.x).mono ?_
        rw [HF2.out]
        rintro e2 w2 ⟨rfl, h2, hk⟩
        rw [HT2.out] at h2
        have H2 := Lib.hid (H1.out.read h2 hk)
        have HK2 := Lib.hid (HK1.out.tr (H1.out.sp hk (fun _ h => .inl h)))
        have hc0 := h2.c0
        clear h2 hk
        go_wp2_with fail
        refine (cdata_any B Z w0 b cb vs p v vk _ said c kc _ H2.out HLC.out HCT.out).mono ?_
        rw [HPX.out]
        rintro e3 w3 ⟨rfl, hk⟩
        have HC3 := Lib.hid (hk.pre HK2.out)
        clear hk
        go_wp2
        go_ret
        exact ⟨rfl, HC3.out⟩
    | false =>
      have HT2 := Lib.hid (trimP_no HF2.out)
      obtain ⟨f3, hf3⟩ : ∃ f, f = Lib.hasPrefix l [60] := ⟨_, rfl⟩
      have HF3 := Lib.hid hf3.symm
      cases f3 with
      | true =>
        obtain ⟨px, hpx2⟩ : ∃ x, x = kidX (elemX f said) c l := ⟨_, rfl⟩
        have HPX : Hid (kidX (elemX f said) c l = px) := Lib.hid hpx2.symm
        have HR : Hid (partX (elemX f said) c l = px) := Lib.hid (by rw [hpx, ← hf1, ← hf2, ← hf3, hpx2]; rfl)
        have HN : Hid (kidX (elemX f said) c l ≠ .no) := Lib.hid (by rw [HPX.out, ← HR.out]; exact hn)
        clear hpx hf1 hf2 hf3 hpx2 hn
        rw [HR.out]
        cases px with
        | no => exact absurd HPX.out HN.out
        | bad er =>
          go_enter Tryz.func58, Tryz.ntmps58
          go_wp2_with fail
          refine (take_any B Z b l said vs _ [60, 33, 45, 45] _ (lit1 [60, 33, 45, 45]) H.out.x).mono ?_
          rw [HF1.out]
          rintro e1 w1 ⟨rfl, h1, hk⟩
          rw [HT1.out] at h1
          have H1 := Lib.hid (H.out.read h1 hk)
          have HK1 := Lib.hid (H.out.sp hk (fun _ h => .inl h))
          clear h1 hk
          go_wp2_with fail
          refine (take_any B Z b l said vs _ [60, 33, 91, 67, 68, 65, 84, 65, 91] _ (lit1 [60, 33, 91, 67, 68, 65, 84, 65, 91]) H1.out.x).mono ?_
          rw [HF2.out]
          rintro e2 w2 ⟨rfl, h2, hk⟩
          rw [HT2.out] at h2
          have H2 := Lib.hid (H1.out.read h2 hk)
          have HK2 := Lib.hid (HK1.out.tr (H1.out.sp hk (fun _ h => .inl h)))
          have hc0 := h2.c0
          clear h2 hk
          go_wp2_with fail
          go_wp2_with (go_at_call 75; refine (hasP_any l _).mono ?_; rw [HF3.out]; rintro e3 w3 ⟨rfl, rfl⟩)
          refine (kid_any f HE.out B Z w0 b cb vs p v vk l said c kc _ d HD.out H2.out HL.out HS.out HKN.out HN.out).mono ?_
          rw [HPX.out]
          rintro e3 w3 ⟨rfl, he1, he2, hk⟩
          have HE1 := Lib.hid he1
          have HE2 := Lib.hid he2
          have HK3 := Lib.hid (HK2.out.tr hk)
          clear hk he1 he2
          go_wp2
          go_ret
          exact ⟨rfl, HE1.out, HE2.out, HK3.out⟩
        | ok x =>
          obtain ⟨c', r⟩ := x
          go_enter Tryz.func58, Tryz.ntmps58
          go_wp2_with fail
          refine (take_any B Z b l said vs _ [60, 33, 45, 45] _ (lit1 [60, 33, 45, 45]) H.out.x).mono ?_
          rw [HF1.out]
          rintro e1 w1 ⟨rfl, h1, hk⟩
          rw [HT1.out] at h1
          have H1 := Lib.hid (H.out.read h1 hk)
          have HK1 := Lib.hid (H.out.sp hk (fun _ h => .inl h))
          clear h1 hk
          go_wp2_with fail
          refine (take_any B Z b l said vs _ [60, 33, 91, 67, 68, 65, 84, 65, 91] _ (lit1 [60, 33, 91, 67, 68, 65, 84, 65, 91]) H1.out.x).mono ?_
          rw [HF2.out]
          rintro e2 w2 ⟨rfl, h2, hk⟩
          rw [HT2.out] at h2
          have H2 := Lib.hid (H1.out.read h2 hk)
          have HK2 := Lib.hid (HK1.out.tr (H1.out.sp hk (fun _ h => .inl h)))
          have hc0 := h2.c0
          clear h2 hk
          go_wp2_with fail
          go_wp2_with (go_at_call 75; refine (hasP_any l _).mono ?_; rw [HF3.out]; rintro e3 w3 ⟨rfl, rfl⟩)
          refine (kid_any f HE.out B Z w0 b cb vs p v vk l said c kc _ d HD.out H2.out HL.out HS.out HKN.out HN.out).mono ?_
          rw [HPX.out]
          rintro e3 w3 ⟨rfl, hk⟩
          have HC3 := Lib.hid (hk.pre HK2.out)
          clear hk
          go_wp2
          go_ret
          exact ⟨rfl, HC3.out⟩
      | false =>
        obtain ⟨px, hpx2⟩ : ∃ x, x = textX c l := ⟨_, rfl⟩
        have HPX : Hid (textX c l = px) := Lib.hid hpx2.symm
        have HR : Hid (partX (elemX f said) c l = px) := Lib.hid (by rw [hpx, ← hf1, ← hf2, ← hf3, hpx2]; rfl)
        have HN : Hid (textX c l ≠ .no) := Lib.hid (by rw [HPX.out, ← HR.out]; exact hn)
        clear hpx hf1 hf2 hf3 hpx2 hn
        rw [HR.out]
        cases px with
        | no => exact absurd HPX.out HN.out
        | bad er =>
          have he3 : er = 3 := by
            have h := HPX.out
            unfold textX at h
            split at h
            · cases h; rfl
            · rcases bind_bad h with h1 | ⟨a, _, h2⟩
              · exact (entX_bad h1).elim
              · cases h2
          subst he3
          go_enter Tryz.func58, Tryz.ntmps58
          go_wp2_with fail
          refine (take_any B Z b l said vs _ [60, 33, 45, 45] _ (lit1 [60, 33, 45, 45]) H.out.x).mono ?_
          rw [HF1.out]
          rintro e1 w1 ⟨rfl, h1, hk⟩
          rw [HT1.out] at h1
          have H1 := Lib.hid (H.out.read h1 hk)
          have HK1 := Lib.hid (H.out.sp hk (fun _ h => .inl h))
          clear h1 hk
          go_wp2_with fail
          refine (take_any B Z b l said vs _ [60, 33, 91, 67, 68, 65, 84, 65, 91] _ (lit1 [60, 33, 91, 67, 68, 65, 84, 65, 91]) H1.out.x).mono ?_
          rw [HF2.out]
          rintro e2 w2 ⟨rfl, h2, hk⟩
          rw [HT2.out] at h2
          have H2 := Lib.hid (H1.out.read h2 hk)
          have HK2 := Lib.hid (HK1.out.tr (H1.out.sp hk (fun _ h => .inl h)))
          have hc0 := h2.c0
          clear h2 hk
          go_wp2_with fail
          go_wp2_with (go_at_call 75; refine (hasP_any l _).mono ?_; rw [HF3.out]; rintro e3 w3 ⟨rfl, rfl⟩)
          refine (text_any B Z w0 b cb vs p v vk l said c kc _ H2.out HL.out HCT.out HN.out).mono ?_
          rw [HPX.out]
          rintro e3 w3 ⟨rfl, hk⟩
          have HK3 := Lib.hid (HK2.out.tr hk)
          clear hk
          go_wp2
          go_ret
          exact ⟨rfl, by decide, by decide, HK3.out⟩
        | ok x =>
          obtain ⟨c', r⟩ := x
          go_enter Tryz.func58, Tryz.ntmps58
          go_wp2_with fail
          refine (take_any B Z b l said vs _ [60, 33, 45, 45] _ (lit1 [60, 33, 45, 45]) H.out.x).mono ?_
          rw [HF1.out]
          rintro e1 w1 ⟨rfl, h1, hk⟩
          rw [HT1.out] at h1
          have H1 := Lib.hid (H.out.read h1 hk)
          have HK1 := Lib.hid (H.out.sp hk (fun _ h => .inl h))
          clear h1 hk
          go_wp2_with fail
          refine (take_any B Z b l said vs _ [60, 33, 91, 67, 68, 65, 84, 65, 91] _ (lit1 [60, 33, 91, 67, 68, 65, 84, 65, 91]) H1.out.x).mono ?_
          rw [HF2.out]
          rintro e2 w2 ⟨rfl, h2, hk⟩
          rw [HT2.out] at h2
          have H2 := Lib.hid (H1.out.read h2 hk)
          have HK2 := Lib.hid (HK1.out.tr (H1.out.sp hk (fun _ h => .inl h)))
          have hc0 := h2.c0
          clear h2 hk
          go_wp2_with fail
          go_wp2_with (go_at_call 75; refine (hasP_any l _).mono ?_; rw [HF3.out]; rintro e3 w3 ⟨rfl, rfl⟩)
          refine (text_any B Z w0 b cb vs p v vk l said c kc _ H2.out HL.out HCT.out HN.out).mono ?_
          rw [HPX.out]
          rintro e3 w3 ⟨rfl, hk⟩
          have HC3 := Lib.hid (hk.pre HK2.out)
          clear hk
          go_wp2
          go_ret
          exact ⟨rfl, HC3.out⟩
end Go.Proofs.YtchmookggegmnaaGreatDoor
namespace Go.Proofs.YtchmookggegmnaaGreatDoor
open Go Go.RowKit
def CoPost (B : Nat) (Z : Nat → Prop) (b : Nat) (vs : Value) (said : Say) (w : World) (e : Ending) (w' : World) : R ((List UInt8 × List PE) × List UInt8) → Prop
  | .no => False
  | .bad er => e = .returned (.tuple #[.string { data := #[] }, .slice none 0 0, .int .i64 er]) ∧ er ≠ 0 ∧ er < 100 ∧ Kp (fun g => g = b ∨ vs.ownBlock = some g) w w'
  | .ok ((tx, ks), l) => ∃ vk vs' cs, e = .returned (.tuple #[.string (S tx), vk, .int .i64 0]) ∧ XrV B Z w' b vs' l said ∧ (∀ g, vs'.ownBlock = some g → vs.ownBlock = some g ∨ w.heap.size ≤ g) ∧ RdF (FE w w' vs') w' 5 vk ks.length cs ∧ ElsV (FE w w' vs') w' ks cs ∧ Kp (fun g => g = b ∨ vs.ownBlock = some g) w w'
def contK (n : Wn) (x : Ct × List UInt8) : R ((List UInt8 × List PE) × List UInt8) :=
  match endX n x.2 with
  | none => .bad 3
  | some r2 => if x.1.solid = false then .ok (([], x.1.kids), r2) else if 0 < x.1.kids.length then .bad 3 else .ok ((x.1.text, []), r2)
theorem contentX_eq (el : List UInt8 → R (PE × List UInt8)) (n : Wn) (l : List UInt8) : contentX el n l = (partsX el (l.length + 1) ⟨[], false, []⟩ l).bind (contK n) := rfl
abbrev cz : List Value := [.pointer none, .slice none 0 0, .bool false, .slice none 0 0]
theorem SP.of {w0 : World} {b : Nat} {vs vsk : Value} (h : ∀ g, vsk.ownBlock = some g → vs.ownBlock = some g ∨ w0.heap.size ≤ g) : ∀ i, SP w0 b vsk i → SP w0 b vs i := by
  rintro i (h1 | h1 | h1)
  · exact .inl h1
  · exact (h i h1).elim (fun h => .inr (.inl h)) (fun h => .inr (.inr h))
  · exact .inr (.inr h1)
theorem RC.str {B : Nat} {Z : Nat → Prop} {w0 w w1 : World} {b cb : Nat} {vs p v vk : Value} {l : List UInt8} {said : Say} {c : Ct} {kc : List Value} (h : RC B Z w0 w b cb vs p v vk l said c kc) (hk : Kp (fun g => v.ownBlock = some g) w w1) : XrV B Z w1 b vs l said := by
  have hb := h.b0
  have hmb := h.mb
  refine h.x.keep hk (fun e => ?_) (fun g hg e => (h.n3 g e).1 hg) (fun e => ?_)
  · have := (h.bb.ow.lt _ e).1; omega
  · have : w0.heap.size ≤ 2 := (h.bb.ow.lt _ e).1
    omega
theorem kp_all {w w1 w0 w' : World} {b : Nat} {vs : Value} (h : Kp0 w w1) (hz : w.heap.size ≤ w0.heap.size) (hk : Kp (SP w0 b vs) w1 w') : Kp (fun g => g = b ∨ vs.ownBlock = some g) w w' :=
  (h.nil _).trans hk (fun _ _ h => h) (fun i hi h => by
    rcases h with h | h | h
    · exact .inl h
    · exact .inr h
    · omega)
set_option maxRecDepth 20000 in
set_option maxHeartbeats 4000000 in
theorem content_any (f : Nat) (hE : ElemC f) (B : Nat) (Z : Nat → Prop) (b : Nat) (n : Wn) (vs : Value) (l0 : List UInt8) (said : Say) (w : World) (d : Nat) (hd : d + f = 16) (h : XrV B Z w b vs l0 said) (hl : l0.length ≤ 16384) (hs : said.length + 32 * f ≤ 512) (hn : contentX (elemX f said) n l0 ≠ .no) :
    Calls Tryz.prog 40 #[.pointer (some ⟨b, 0, none⟩), wnV n, .int .i64 d] w fun e w' => CoPost B Z b vs said w e w' (contentX (elemX f said) n l0) := by
  obtain ⟨n1, n2⟩ := n
  have HE := Lib.hid hE
  have HD := Lib.hid hd
  have HL := Lib.hid hl
  have HS := Lib.hid hs
  have hlt := h.lt
  obtain ⟨rx, hrx⟩ : ∃ r, r = contentX (elemX f said) (n1, n2) l0 := ⟨_, rfl⟩
  have HRX := Lib.hid hrx
  rw [← hrx] at hn ⊢
  have HN := Lib.hid hn
  obtain ⟨R0, hr0⟩ : ∃ r, r = partsX (elemX f said) (l0.length + 1) ⟨[], false, []⟩ l0 := ⟨_, rfl⟩
  have HR0 : Hid (partsX (elemX f said) (l0.length + 1) ⟨[], false, []⟩ l0 = R0) := Lib.hid hr0.symm
  have HCX : Hid (rx = R0.bind (contK (n1, n2))) := Lib.hid (by rw [hrx, contentX_eq, ← hr0])
  obtain ⟨w0, hw0⟩ : ∃ x, x = w.alloc (.cells #[.string (S n1), .string (S n2)] 76) := ⟨_, rfl⟩
  have HK0 : Hid (Kp0 w w0) := Lib.hid (by rw [hw0]; exact (Kp.refl _ _).alloc _)
  have HZ0 : Hid (w0.heap.size = w.heap.size + 1) := Lib.hid (by rw [hw0]; simp)
  obtain ⟨nb, hnb⟩ : ∃ g, g = w.heap.size := ⟨_, rfl⟩
  have HNB : Hid (nb = w.heap.size ∧ b < w.heap.size) := Lib.hid ⟨hnb, hlt⟩
  have HB0 : Hid (Blk w0 nb 76 [.string (S n1), .string (S n2)]) := Lib.hid (by rw [hw0, hnb]; exact blk0 w _ _)
  obtain ⟨cb, hcb⟩ : ∃ g, g = w0.heap.size := ⟨_, rfl⟩
  have HCB := Lib.hid hcb
  have HX := Lib.hid h
  have HKA : Hid (Kp0 w0 (w0.alloc (.cells cz.toArray 109))) := Lib.hid ((Kp.refl _ _).alloc _)
  have H1 : Hid (RC B Z w0 (w0.alloc (.cells cz.toArray 109)) b cb vs (.pointer none) (.slice none 0 0) (.slice none 0 0) l0 said ⟨[], false, []⟩ []) := Lib.hid (by
    have hb := blk0 w0 109 cz
    rw [← hcb] at hb
    have hz := HZ0.out
    refine ⟨(h.kp0 HK0.out).kp0 HKA.out, ⟨hb, Own.nil _ _ _, .inl rfl, by omega, (fun g hg => by cases hg), fun _ => rfl⟩, World.ownsRow_nil _ _ _ _, by unfold ElsV; rfl, fun e => ?_, (fun g hg => by cases hg), (fun g hg => by cases hg), by omega, HKA.out.size⟩
    have := (h.ow.lt _ e).2
    omega)
  clear h hE hd hl hs hn hrx hr0 hlt
  go_enter Tryz.func40, Tryz.ntmps40
  go_wp2
  have hcb2 : cb = w.heap.size + 1 := by rw [hcb, HZ0.out]
  rw [← hw0, ← hcb2, ← hnb]
  clear hw0 hcb hnb hcb2
  generalize (w0.alloc (.cells cz.toArray 109)) = w1 at HKA H1 ⊢
  go_loopg [] (l0.length + 1) (fun gg wr => ∃ vsk p v vk l c kc, RC B Z w0 wr b cb vsk p v vk l said c kc ∧ partsX (elemX f said) gg c l = R0 ∧ l.length ≤ 16384 ∧ c.text.length + l.length ≤ 16384 ∧ c.kids.length ≤ 256 ∧ (∀ g, vsk.ownBlock = some g → vs.ownBlock = some g ∨ w0.heap.size ≤ g) ∧ Kp (SP w0 b vs) w1 wr)
  case atStart => exact ⟨vs, _, _, _, l0, ⟨[], false, []⟩, [], H1.out, HR0.out, HL.out, by simp; exact HL.out, Nat.zero_le _, fun _ h => .inl h, Kp.refl _ _⟩
  case round =>
    obtain ⟨vsk, p, v, vk, l, c, kc, hrc, hps, hll, hct, hkn, hvs, hkp⟩ := hrel
    have HRC := Lib.hid hrc
    have HPS := Lib.hid hps
    have HLL := Lib.hid hll
    have HCT := Lib.hid hct
    have HKN := Lib.hid hkn
    have HVS := Lib.hid hvs
    have HKP := Lib.hid hkp
    have HKN0 : Hid (Blk wr nb 76 [.string (S n1), .string (S n2)]) := Lib.hid ((HB0.out.kp0 HKA.out).keep hkp (by
      rintro (e | e | e)
      · have := HNB.out; omega
      · have h1 := (HX.out.ow.lt _ e).2; have := HNB.out; omega
      · have := HNB.out; have h2 := HZ0.out; omega))
    clear hrc hps hll hct hkn hvs hkp
    obtain ⟨gf, rfl⟩ : ∃ k, gk = k + 1 := by
      cases gk with
      | zero => exact absurd (by rw [HCX.out, ← HPS.out]; rfl) HN.out
      | succ k => exact ⟨k, rfl⟩
    obtain ⟨f1, hf1⟩ : ∃ f, f = Lib.hasPrefix l [60, 47] := ⟨_, rfl⟩
    have HF1 := Lib.hid hf1.symm
    cases f1 with
    | true =>
      have HT1 : Hid (Lib.trimPrefix l [60, 47] = l.drop 2) := Lib.hid (trimP_yes HF1.out)
      have HR0E : Hid (R0 = .ok (c, l.drop 2)) := Lib.hid (by rw [← HPS.out]; unfold partsX; rw [← hf1]; rfl)
      have HRK : Hid (rx = contK (n1, n2) (c, l.drop 2)) := Lib.hid (by rw [HCX.out, HR0E.out]; rfl)
      have HLD : Hid ((l.drop 2).length ≤ 16384) := Lib.hid (drop_len HLL.out)
      clear hf1
      obtain ⟨vka, vkn, vkc, rfl⟩ : ∃ a n c, vk = .slice a n c := by obtain ⟨a, c1, h1, _⟩ := ownK_sl HRC.out.kr; exact ⟨_, _, _, h1⟩
      have hnk : vkn = c.kids.length := by obtain ⟨a1, c1, h1, _⟩ := ownK_sl HRC.out.kr; simp only [Value.slice.injEq] at h1; exact h1.2.1
      have HNK := Lib.hid hnk
      clear hnk
      obtain ⟨en, hen⟩ : ∃ x, x = endX (n1, n2) (l.drop 2) := ⟨_, rfl⟩
      have HEN : Hid (endX (n1, n2) (l.drop 2) = en) := Lib.hid hen.symm
      clear hen
      cases en with
      | none =>
        have HR : Hid (rx = .bad 3) := Lib.hid (by rw [HRK.out]; unfold contK; simp only []; rw [HEN.out])
        go_wp2_with fail
        refine (take_any B Z b l said vsk _ [60, 47] _ (lit1 [60, 47]) HRC.out.x).mono ?_
        rw [HF1.out]
        rintro e3 w3 ⟨rfl, h3, hk⟩
        rw [HT1.out] at h3
        have H3 := Lib.hid (HRC.out.read h3 hk)
        have HK3 := Lib.hid (HKP.out.tr ((HRC.out.sp hk (fun _ h => .inl h)).mono (fun i _ h => SP.of HVS.out i h)))
        have HN3 := Lib.hid (HKN0.out.keep hk (by have := HNB.out; omega))
        clear h3 hk
        have q0 := HN3.out.cellV 0 rfl
        have q1 := HN3.out.cellV 1 rfl
        go_wp2_with fail
        refine (end_any B Z b (n1, n2) _ said vsk _ H3.out.x HLD.out).mono ?_
        show ∀ e w', EnPost _ _ _ _ _ _ e w' (endX (n1, n2) (l.drop 2)) → _
        rw [HEN.out]
        rintro e4 w4 ⟨rfl, hk⟩
        have HK4 := Lib.hid (HK3.out.tr ((H3.out.sp hk (fun _ h => .inl h)).mono (fun i _ h => SP.of HVS.out i h)))
        clear hk q0 q1
        go_wp2
        go_ret3
        show CoPost B Z b vs said w _ _ _
        rw [HR.out]
        exact ⟨rfl, by decide, by decide, kp_all (HK0.out.tr HKA.out) HK0.out.size HK4.out⟩
      | some r2 =>
        obtain ⟨sol, hsol⟩ : ∃ s, s = c.solid := ⟨_, rfl⟩
        have HSO := Lib.hid hsol.symm
        clear hsol
        have HRL : Hid (rx = if sol = false then .ok (([], c.kids), r2) else if 0 < vkn then .bad 3 else .ok ((c.text, []), r2)) := Lib.hid (by rw [HRK.out]; unfold contK; simp only []; rw [HEN.out]; simp only []; rw [HSO.out, HNK.out])
        have hkni : (vkn : Int) ≤ 256 := by have := HKN.out; have := HNK.out; omega
        cases sol with
        | false =>
          have HR : Hid (rx = .ok (([], c.kids), r2)) := Lib.hid (by rw [HRL.out, if_pos rfl])
          go_wp2_with fail
          refine (take_any B Z b l said vsk _ [60, 47] _ (lit1 [60, 47]) HRC.out.x).mono ?_
          rw [HF1.out]
          rintro e3 w3 ⟨rfl, h3, hk⟩
          rw [HT1.out] at h3
          have H3 := Lib.hid (HRC.out.read h3 hk)
          have HK3 := Lib.hid (HKP.out.tr ((HRC.out.sp hk (fun _ h => .inl h)).mono (fun i _ h => SP.of HVS.out i h)))
          have HN3 := Lib.hid (HKN0.out.keep hk (by have := HNB.out; omega))
          clear h3 hk
          have q0 := HN3.out.cellV 0 rfl
          have q1 := HN3.out.cellV 1 rfl
          go_wp2_with fail
          refine (end_any B Z b (n1, n2) _ said vsk _ H3.out.x HLD.out).mono ?_
          show ∀ e w', EnPost _ _ _ _ _ _ e w' (endX (n1, n2) (l.drop 2)) → _
          rw [HEN.out]
          rintro e4 w4 ⟨rfl, h4, hk⟩
          have H4 := Lib.hid (H3.out.read h4 hk)
          have HK4 := Lib.hid (HK3.out.tr ((H3.out.sp hk (fun _ h => .inl h)).mono (fun i _ h => SP.of HVS.out i h)))
          clear h4 hk q0 q1
          have q2 := H4.out.bb.blk.cellV 2 rfl
          have q3 := H4.out.bb.blk.cellV 3 rfl
          rw [HSO.out] at q2
          go_wp2
          go_quiet (fail)
          rename_i nq
          have H5 := Lib.hid (H4.out.kp0 ((Kp.refl _ _).drewN nq))
          have HK5 := Lib.hid (HK4.out.drewN nq)
          generalize w4.drewN nq = w5 at H5 HK5 ⊢
          go_wp2
          go_ret3
          show CoPost B Z b vs said w _ _ _
          rw [HR.out]
          have hw : w.heap.size ≤ w0.heap.size := HK0.out.size
          exact ⟨.slice vka vkn vkc, vsk, kc, rfl, H5.out.x, fun g hg => (HVS.out g hg).imp id (fun h => Nat.le_trans hw h), RdF.of_own H5.out.kr (fun g hg => ⟨Nat.le_trans hw (H5.out.kr.lt g hg).1, (H5.out.kr.lt g hg).2, (H5.out.n4 g hg).2⟩),
            ElsV.keep (Kp.refl (fun _ => False) _) (fun _ _ h => h) (fun i hi => ⟨Nat.le_trans hw hi.1, hi.2.1, hi.2.2.2.1⟩) _ _ H5.out.ks, kp_all (HK0.out.tr HKA.out) hw HK5.out⟩
        | true =>
          by_cases hz : vkn = 0
          · have HR : Hid (rx = .ok ((c.text, []), r2)) := Lib.hid (by rw [HRL.out, if_neg (by simp), if_neg (by omega)])
            have hzi : ¬ (0 : Int) < vkn := by omega
            go_wp2_with fail
            refine (take_any B Z b l said vsk _ [60, 47] _ (lit1 [60, 47]) HRC.out.x).mono ?_
            rw [HF1.out]
            rintro e3 w3 ⟨rfl, h3, hk⟩
            rw [HT1.out] at h3
            have H3 := Lib.hid (HRC.out.read h3 hk)
            have HK3 := Lib.hid (HKP.out.tr ((HRC.out.sp hk (fun _ h => .inl h)).mono (fun i _ h => SP.of HVS.out i h)))
            have HN3 := Lib.hid (HKN0.out.keep hk (by have := HNB.out; omega))
            clear h3 hk
            have q0 := HN3.out.cellV 0 rfl
            have q1 := HN3.out.cellV 1 rfl
            go_wp2_with fail
            refine (end_any B Z b (n1, n2) _ said vsk _ H3.out.x HLD.out).mono ?_
            show ∀ e w', EnPost _ _ _ _ _ _ e w' (endX (n1, n2) (l.drop 2)) → _
            rw [HEN.out]
            rintro e4 w4 ⟨rfl, h4, hk⟩
            have H4 := Lib.hid (H3.out.read h4 hk)
            have HK4 := Lib.hid (HK3.out.tr ((H3.out.sp hk (fun _ h => .inl h)).mono (fun i _ h => SP.of HVS.out i h)))
            clear h4 hk q0 q1
            have q2 := H4.out.bb.blk.cellV 2 rfl
            have q3 := H4.out.bb.blk.cellV 3 rfl
            rw [HSO.out] at q2
            go_wp2_with fail
            refine (string_any _ _ _ _ _ _ _ _ H4.out.bb).mono ?_
            rintro e5 w5 ⟨rfl, hk⟩
            have HX5 := Lib.hid (H4.out.str hk)
            have HK5 := Lib.hid (HK4.out.tr ((H4.out.sp hk (fun _ h => .inr (.inr (.inl h)))).mono (fun i _ h => SP.of HVS.out i h)))
            clear hk
            go_wp2
            go_ret3
            show CoPost B Z b vs said w _ _ _
            rw [HR.out]
            have hw : w.heap.size ≤ w0.heap.size := HK0.out.size
            exact ⟨.slice none 0 0, vsk, [], rfl, HX5.out, fun g hg => (HVS.out g hg).imp id (fun h => Nat.le_trans hw h), RdF.nil _ _ _, (by unfold ElsV; rfl), kp_all (HK0.out.tr HKA.out) hw HK5.out⟩
          · have HR : Hid (rx = .bad 3) := Lib.hid (by rw [HRL.out, if_neg (by simp), if_pos (by omega)])
            have hzi : (0 : Int) < vkn := by omega
            go_wp2_with fail
            refine (take_any B Z b l said vsk _ [60, 47] _ (lit1 [60, 47]) HRC.out.x).mono ?_
            rw [HF1.out]
            rintro e3 w3 ⟨rfl, h3, hk⟩
            rw [HT1.out] at h3
            have H3 := Lib.hid (HRC.out.read h3 hk)
            have HK3 := Lib.hid (HKP.out.tr ((HRC.out.sp hk (fun _ h => .inl h)).mono (fun i _ h => SP.of HVS.out i h)))
            have HN3 := Lib.hid (HKN0.out.keep hk (by have := HNB.out; omega))
            clear h3 hk
            have q0 := HN3.out.cellV 0 rfl
            have q1 := HN3.out.cellV 1 rfl
            go_wp2_with fail
            refine (end_any B Z b (n1, n2) _ said vsk _ H3.out.x HLD.out).mono ?_
            show ∀ e w', EnPost _ _ _ _ _ _ e w' (endX (n1, n2) (l.drop 2)) → _
            rw [HEN.out]
            rintro e4 w4 ⟨rfl, h4, hk⟩
            have H4 := Lib.hid (H3.out.read h4 hk)
            have HK4 := Lib.hid (HK3.out.tr ((H3.out.sp hk (fun _ h => .inl h)).mono (fun i _ h => SP.of HVS.out i h)))
            clear h4 hk q0 q1
            have q2 := H4.out.bb.blk.cellV 2 rfl
            have q3 := H4.out.bb.blk.cellV 3 rfl
            rw [HSO.out] at q2
            go_wp2
            go_ret3
            show CoPost B Z b vs said w _ _ _
            rw [HR.out]
            exact ⟨rfl, by decide, by decide, kp_all (HK0.out.tr HKA.out) HK0.out.size HK4.out⟩
    | false =>
      have HT1 := Lib.hid (trimP_no HF1.out)
      have HR0E : Hid (R0 = (partX (elemX f said) c l).bind fun x => partsX (elemX f said) gf x.1 x.2) := Lib.hid (by rw [← HPS.out]; (conv => lhs; unfold partsX; rw [← hf1]); rfl)
      have HPN : Hid (partX (elemX f said) c l ≠ .no) := Lib.hid (fun e => HN.out (by rw [HCX.out, HR0E.out, e]; rfl))
      have HCT2 : Hid (c.text.length ≤ 16384) := Lib.hid (by have := HCT.out; omega)
      obtain ⟨px, hpx⟩ : ∃ x, x = partX (elemX f said) c l := ⟨_, rfl⟩
      have HPX := Lib.hid hpx.symm
      clear hf1 hpx
      cases px with
      | no => exact absurd HPX.out HPN.out
      | bad er =>
        have HR : Hid (rx = .bad er) := Lib.hid (by rw [HCX.out, HR0E.out, HPX.out]; rfl)
        go_wp2_with fail
        refine (take_any B Z b l said vsk _ [60, 47] _ (lit1 [60, 47]) HRC.out.x).mono ?_
        rw [HF1.out]
        rintro e3 w3 ⟨rfl, h3, hk⟩
        rw [HT1.out] at h3
        have H3 := Lib.hid (HRC.out.read h3 hk)
        have HK3 := Lib.hid (HKP.out.tr ((HRC.out.sp hk (fun _ h => .inl h)).mono (fun i _ h => SP.of HVS.out i h)))
        have HN3 := Lib.hid (HKN0.out.keep hk (by have := HNB.out; omega))
        clear h3 hk
        go_wp2_with fail
        refine (part_any f HE.out B Z w0 b cb vsk p v vk l said c kc _ d HD.out H3.out HLL.out HCT2.out HS.out HKN.out HPN.out).mono ?_
        rw [HPX.out]
        rintro e4 w4 ⟨rfl, he1, he2, hk⟩
        have HE1 := Lib.hid he1
        have HE2 := Lib.hid he2
        have HK4 := Lib.hid (HK3.out.tr (hk.mono (fun i _ h => SP.of HVS.out i h)))
        have hne : ((er : Int) == 0) = false := by rw [beq_eq_false_iff_ne]; omega
        clear hk he1 he2
        go_wp2
        go_ret3
        show CoPost B Z b vs said w _ _ _
        rw [HR.out]
        exact ⟨rfl, HE1.out, HE2.out, kp_all (HK0.out.tr HKA.out) HK0.out.size HK4.out⟩
      | ok x =>
        obtain ⟨c', r⟩ := x
        have HP1 : Hid (partsX (elemX f said) gf c' r = R0) := Lib.hid (by rw [HR0E.out, HPX.out]; rfl)
        have HLE := Lib.hid (partX_le (elemX_le f said) HPX.out HKN.out)
        go_wp2_with fail
        refine (take_any B Z b l said vsk _ [60, 47] _ (lit1 [60, 47]) HRC.out.x).mono ?_
        rw [HF1.out]
        rintro e3 w3 ⟨rfl, h3, hk⟩
        rw [HT1.out] at h3
        have H3 := Lib.hid (HRC.out.read h3 hk)
        have HK3 := Lib.hid (HKP.out.tr ((HRC.out.sp hk (fun _ h => .inl h)).mono (fun i _ h => SP.of HVS.out i h)))
        have HN3 := Lib.hid (HKN0.out.keep hk (by have := HNB.out; omega))
        clear h3 hk
        go_wp2_with fail
        refine (part_any f HE.out B Z w0 b cb vsk p v vk l said c kc _ d HD.out H3.out HLL.out HCT2.out HS.out HKN.out HPN.out).mono ?_
        rw [HPX.out]
        rintro e4 w4 ⟨rfl, vs4, p4, v4, vk4, kc4, hrc4, hv4, hk⟩
        have H4 := Lib.hid hrc4
        have HV4 := Lib.hid hv4
        have HK4 := Lib.hid (HK3.out.tr (hk.mono (fun i _ h => SP.of HVS.out i h)))
        clear hk hrc4 hv4
        go_wp2
        go_roundg gf
        case measure => omega
        case rel => exact ⟨vs4, p4, v4, vk4, r, c', kc4, H4.out, HP1.out, by have := HLE.out.1; have := HCT.out; omega, by have := HLE.out.1; have := HCT.out; omega, HLE.out.2, fun g hg => (HV4.out g hg).elim (HVS.out g) .inr, HK4.out⟩
end Go.Proofs.YtchmookggegmnaaGreatDoor
namespace Go.Proofs.YtchmookggegmnaaGreatDoor
open Go Go.RowKit
theorem hearsX_pre : ∀ (l : List Att) (s s' : Say), hearsX s l = some s' → s'.take s.length = s
  | [], s, s', h => by cases h; simp
  | a :: l, s, s', h => by
    unfold hearsX at h
    cases h1 : hearX s a with
    | none => rw [h1] at h; cases h
    | some s1 =>
      rw [h1] at h
      have h2 := hearsX_pre l s1 s' h
      have h3 : ∃ t, s1 = s ++ t := by
        unfold hearX at h1
        repeat' split at h1
        all_goals first | (cases h1; done) | (cases h1; first | exact ⟨_, rfl⟩ | exact ⟨[], by simp⟩)
      obtain ⟨t, rfl⟩ := h3
      have h4 := congrArg (List.take s.length) h2
      rw [List.take_take, List.take_left, Nat.min_eq_left (by simp)] at h4
      exact h4
theorem beginX_pre {said s' : Say} {t : Tg} {e : PE} (h : beginX said t = .ok (s', e)) : s'.take said.length = said := by
  unfold beginX at h
  split at h
  · cases h
  · rename_i s1 hs
    split at h
    · cases h
    · obtain ⟨a, _, h3⟩ := bind_ok h
      cases h3
      exact hearsX_pre _ _ _ hs
theorem elemX_eq (f : Nat) (said : Say) (l : List UInt8) : elemX (f + 1) said l = (tagX l).bind fun x => (beginX said x.1).bind fun y =>
      if x.1.empty then .ok (y.2, x.2) else (contentX (elemX f y.1) x.1.name x.2).bind fun z => .ok (y.2.put z.1.1 z.1.2, z.2) := rfl
set_option maxRecDepth 20000 in
set_option maxHeartbeats 4000000 in
theorem elem_zero : ElemC 0 := by
  intro B Z b l said vs w d hd h hl hs hn
  obtain rfl : d = 16 := by omega
  have HK0 : Hid (Kp0 w (w.alloc (.cells ez.toArray 25))) := Lib.hid ((Kp.refl _ _).alloc _)
  have HBX : Hid (Blk (w.alloc (.cells ez.toArray 25)) w.heap.size 25 ez) := Lib.hid (blk0 w _ _)
  clear h hl hs hn hd
  have hr : elemX 0 said l = .bad 10 := rfl
  rw [hr]
  clear hr
  go_enter Tryz.func28, Tryz.ntmps28
  have q0 := HBX.out.cellV 0 rfl
  have q1 := HBX.out.cellV 1 rfl
  have q2 := HBX.out.cellV 2 rfl
  have q3 := HBX.out.cellV 3 rfl
  have q4 := HBX.out.cellV 4 rfl
  have f0 := blk_frozen HBX.out 0
  have f1 := blk_frozen HBX.out 1
  have f2 := blk_frozen HBX.out 2
  have f3 := blk_frozen HBX.out 3
  have f4 := blk_frozen HBX.out 4
  go_wp2
  exact bodyPost_ret (v := .tuple #[.agg ez.toArray, .int .i64 10]) (by simp [results, Tryz.results28, go_sem, q0, q1, q2, q3, q4]) rfl ⟨rfl, by decide, by decide, HK0.out.nil _⟩
/-- Where the elements in an element lie. -/
def FK (g0 b : Nat) (W : World) (vsW : Value) : Nat → Prop := fun i => g0 < i ∧ i < W.heap.size ∧ vsW.ownBlock ≠ some i ∧ ¬ i = b
set_option maxRecDepth 20000 in
set_option maxHeartbeats 4000000 in
theorem elem_succ (f : Nat) (hE : ElemC f) : ElemC (f + 1) := by
  intro B Z b l said vs w d hd h hl hs hn
  have HE := Lib.hid hE
  have HX := Lib.hid h
  have HL := Lib.hid hl
  have HS := Lib.hid hs
  have hlt := h.lt
  obtain ⟨rx, hrx⟩ : ∃ r, r = elemX (f + 1) said l := ⟨_, rfl⟩
  have HRX : Hid (rx = (tagX l).bind fun x => (beginX said x.1).bind fun y => if x.1.empty then .ok (y.2, x.2) else (contentX (elemX f y.1) x.1.name x.2).bind fun z => .ok (y.2.put z.1.1 z.1.2, z.2)) := Lib.hid (by rw [hrx, elemX_eq])
  rw [← hrx] at hn ⊢
  have HN := Lib.hid hn
  have hd16 : ((d : Int) == 16) = false := by rw [beq_eq_false_iff_ne]; omega
  have hdi : (d : Int) ≤ 15 := by omega
  have HD : Hid (d + 1 + f = 16) := Lib.hid (by omega)
  obtain ⟨ao, nq, cap, rfl⟩ : ∃ a n c, vs = .slice a n c := by obtain ⟨a, c1, h1, _⟩ := ownK_sl h.ow; exact ⟨_, _, _, h1⟩
  have hnq : nq = said.length := by obtain ⟨a1, c1, h1, _⟩ := ownK_sl h.ow; simp only [Value.slice.injEq] at h1; exact h1.2.1
  have HNQ := Lib.hid hnq
  have hnqi : (nq : Int) ≤ 512 := by omega
  obtain ⟨w0, hw0⟩ : ∃ x, x = w.alloc (.cells ez.toArray 25) := ⟨_, rfl⟩
  obtain ⟨g0, hg0⟩ : ∃ g, g = w.heap.size := ⟨_, rfl⟩
  have HG : Hid (g0 = w.heap.size ∧ b < w.heap.size ∧ w0.heap.size = w.heap.size + 1) := Lib.hid ⟨hg0, hlt, by rw [hw0]; simp⟩
  have HK0 : Hid (Kp0 w w0) := Lib.hid (by rw [hw0]; exact (Kp.refl _ _).alloc _)
  have HB0 : Hid (Blk w0 g0 25 ez) := Lib.hid (by rw [hw0, hg0]; exact blk0 w _ _)
  have H0 := Lib.hid (h.kp0 HK0.out)
  have hc1 := H0.out.c1
  have HTN : Hid (tagX l ≠ .no) := Lib.hid (fun e => HN.out (by rw [HRX.out, e]; rfl))
  obtain ⟨tx, htx⟩ : ∃ x, x = tagX l := ⟨_, rfl⟩
  have HTX : Hid (tagX l = tx) := Lib.hid htx.symm
  clear h hE hl hs hn hrx hlt hnq hd htx
  cases tx with
  | no => exact absurd HTX.out HTN.out
  | bad e =>
    have HR : Hid (rx = .bad 3) := Lib.hid (by rw [HRX.out, HTX.out, tagX_bad HTX.out]; rfl)
    go_enter Tryz.func28, Tryz.ntmps28
    go_upto_region 1 with (fail)
    rw [← hw0, ← hg0]
    clear hw0 hg0
    go_wp2_with fail
    refine (tag_any B Z b l said _ _ H0.out HL.out HTN.out).mono ?_
    rw [HTX.out]
    rintro e1 w1 ⟨rfl, hk⟩
    have HBX : Hid (Blk (w1.alloc (.cells tz.toArray 79)) g0 25 ez) := Lib.hid ((HB0.out.keep hk (by have := HG.out; omega)).kp0 ((Kp.refl _ _).alloc _))
    have HKX : Hid (Kp (fun g => g = b ∨ (Value.slice ao nq cap).ownBlock = some g) w (w1.alloc (.cells tz.toArray 79))) := Lib.hid (((HK0.out.in0 hk).mono (fun _ _ h => .inl h)).alloc _)
    clear hk hc1
    have q0 := HBX.out.cellV 0 rfl
    have q1 := HBX.out.cellV 1 rfl
    have q2 := HBX.out.cellV 2 rfl
    have q3 := HBX.out.cellV 3 rfl
    have q4 := HBX.out.cellV 4 rfl
    have f0 := blk_frozen HBX.out 0
    have f1 := blk_frozen HBX.out 1
    have f2 := blk_frozen HBX.out 2
    have f3 := blk_frozen HBX.out 3
    have f4 := blk_frozen HBX.out 4
    go_wp2
    refine bodyPost_ret (v := .tuple #[.agg ez.toArray, .int .i64 3]) (by simp [results, Tryz.results28, go_sem, q0, q1, q2, q3, q4]) rfl ?_
    show ElPost B Z b _ said w _ _ _
    rw [HR.out]
    exact ⟨rfl, by decide, by decide, HKX.out.new (kp_set5 _ g0 _ _ _ _ _) (fun i e => by have := HG.out; omega)⟩
  | ok x =>
    obtain ⟨t, r⟩ := x
    go_enter Tryz.func28, Tryz.ntmps28
    go_upto_region 1 with (fail)
    rw [← hw0, ← hg0]
    clear hw0 hg0
    go_wp2_with fail
    refine (tag_any B Z b l said _ _ H0.out HL.out HTN.out).mono ?_
    rw [HTX.out]
    rintro e1 w1 ⟨va, rfl, hx1, hrow, hva, hle, hk⟩
    obtain ⟨⟨tp, tn⟩, tl, te⟩ := t
    obtain ⟨va1, va2, va3, rfl⟩ : ∃ a n c, va = .slice a n c := by obtain ⟨a, c1, h1, _⟩ := ownK_sl hrow; exact ⟨_, _, _, h1⟩
    have hkA : Kp0 w1 (w1.alloc (.cells #[.string (S tp), .string (S tn), .slice va1 va2 va3, .bool te] 79)) := (Kp.refl _ _).alloc _
    have HBT : Hid (Blk (w1.alloc (.cells #[.string (S tp), .string (S tn), .slice va1 va2 va3, .bool te] 79)) w1.heap.size 79 [.string (S tp), .string (S tn), .slice va1 va2 va3, .bool te]) := Lib.hid (blk0 w1 _ _)
    have HX1 := Lib.hid (hx1.kp0 hkA)
    have HTW : Hid (TgW B (w1.alloc (.cells #[.string (S tp), .string (S tn), .slice va1 va2 va3, .bool te] 79)) b (.slice ao nq cap) (.slice va1 va2 va3) ⟨(tp, tn), tl, te⟩) := Lib.hid ⟨own_keep hrow hkA (fun _ _ h => h), fun g hg e => by have := hva g hg; have := HG.out; omega, fun g hg e => by have := hva g hg; have := (HX.out.ow.lt g e).2; have := HG.out; omega, hle⟩
    have HB1 := Lib.hid ((HB0.out.keep hk (by have := HG.out; omega)).kp0 hkA)
    have HK1 : Hid (Kp (fun g => g = b ∨ (Value.slice ao nq cap).ownBlock = some g) w (w1.alloc (.cells #[.string (S tp), .string (S tn), .slice va1 va2 va3, .bool te] 79))) := Lib.hid (((HK0.out.in0 hk).mono (fun _ _ h => .inl h)).tr (hkA.nil _))
    have HTB : Hid (w.heap.size + 1 ≤ w1.heap.size ∧ (w1.alloc (.cells #[.string (S tp), .string (S tn), .slice va1 va2 va3, .bool te] 79)).heap.size = w1.heap.size + 1) := Lib.hid ⟨by have := hk.size; have := HG.out; omega, by simp⟩
    have HSL : Hid (said.length ≤ 90000) := Lib.hid (by have := HS.out; omega)
    clear hx1 hrow hva hle hk hkA hc1
    go_wp2_with fail
    generalize (w1.alloc (.cells #[.string (S tp), .string (S tn), .slice va1 va2 va3, .bool te] 79)) = w1a at HBT HX1 HTW HB1 HK1 HTB ⊢
    generalize w1.heap.size = tb at HBT HTB ⊢
    obtain ⟨bx, hbx⟩ : ∃ x, x = beginX said ⟨(tp, tn), tl, te⟩ := ⟨_, rfl⟩
    have HBGX : Hid (beginX said ⟨(tp, tn), tl, te⟩ = bx) := Lib.hid hbx.symm
    have HBN : Hid (beginX said ⟨(tp, tn), tl, te⟩ ≠ .no) := Lib.hid (fun e => HN.out (by rw [HRX.out, HTX.out]; show (beginX said ⟨(tp, tn), tl, te⟩).bind _ = _; rw [e]; rfl))
    clear hbx
    cases bx with
    | no => exact absurd HBGX.out HBN.out
    | bad e =>
      have HR : Hid (rx = .bad 3) := Lib.hid (by rw [HRX.out, HTX.out]; show (beginX said ⟨(tp, tn), tl, te⟩).bind _ = _; rw [HBGX.out, beginX_bad HBGX.out]; rfl)
      refine (begin_any B Z b ⟨(tp, tn), tl, te⟩ r said _ _ _ HX1.out HTW.out HSL.out HBN.out).mono ?_
      rw [HBGX.out]
      rintro e2 w2 ⟨rfl, hk2⟩
      have HBX : Hid (Blk (w2.alloc (.cells ez.toArray 25)) g0 25 ez) := Lib.hid ((HB1.out.keep hk2 (by
        rintro (e | e)
        · have := HG.out; omega
        · have := (HX.out.ow.lt _ e).2; have := HG.out; omega)).kp0 ((Kp.refl _ _).alloc _))
      have HKX : Hid (Kp (fun g => g = b ∨ (Value.slice ao nq cap).ownBlock = some g) w (w2.alloc (.cells ez.toArray 25))) := Lib.hid ((HK1.out.tr hk2).alloc _)
      clear hk2
      have q0 := HBX.out.cellV 0 rfl
      have q1 := HBX.out.cellV 1 rfl
      have q2 := HBX.out.cellV 2 rfl
      have q3 := HBX.out.cellV 3 rfl
      have q4 := HBX.out.cellV 4 rfl
      have f0 := blk_frozen HBX.out 0
      have f1 := blk_frozen HBX.out 1
      have f2 := blk_frozen HBX.out 2
      have f3 := blk_frozen HBX.out 3
      have f4 := blk_frozen HBX.out 4
      go_wp2
      refine bodyPost_ret (v := .tuple #[.agg ez.toArray, .int .i64 3]) (by simp [results, Tryz.results28, go_sem, q0, q1, q2, q3, q4]) rfl ?_
      show ElPost B Z b _ said w _ _ _
      rw [HR.out]
      exact ⟨rfl, by decide, by decide, HKX.out.new (kp_set5 _ g0 _ _ _ _ _) (fun i e => by have := HG.out; omega)⟩
    | ok y =>
      obtain ⟨s', e0⟩ := y
      obtain ⟨sp, nm, at_, rfl⟩ := (beginX_len HBGX.out).2
      have HS' : Hid (s'.length + 32 * f ≤ 512 ∧ s'.length ≤ 100000) := Lib.hid (by have h1 := (beginX_len HBGX.out).1; have h2 := (tagX_le HTX.out).1; have h3 := HS.out; omega)
      have HPRE := Lib.hid (beginX_pre HBGX.out)
      refine (begin_any B Z b ⟨(tp, tn), tl, te⟩ r said _ _ _ HX1.out HTW.out HSL.out HBN.out).mono ?_
      rw [HBGX.out]
      rintro e2 w2 ⟨vs2, v2, rfl, hx2, hv2, ho2, hn2, hsl2, hk2⟩
      obtain ⟨vv1, vv2, vv3, rfl⟩ : ∃ a n c, v2 = .slice a n c := by obtain ⟨a, c1, h1, _⟩ := ownK_sl ho2; exact ⟨_, _, _, h1⟩
      have hkA : Kp0 w2 (w2.alloc (.cells #[.string (S sp), .string (S nm), .slice vv1 vv2 vv3, .string { data := #[] }, .slice none 0 0] 25)) := (Kp.refl _ _).alloc _
      have HBE : Hid (Blk (w2.alloc (.cells #[.string (S sp), .string (S nm), .slice vv1 vv2 vv3, .string { data := #[] }, .slice none 0 0] 25)) w2.heap.size 25 [.string (S sp), .string (S nm), .slice vv1 vv2 vv3, .string { data := #[] }, .slice none 0 0]) := Lib.hid (blk0 w2 _ _)
      have HX2 := Lib.hid (hx2.kp0 hkA)
      have HV2 := Lib.hid hv2
      have HO2 := Lib.hid (own_keep ho2 hkA (fun _ _ h => h))
      have HO2L : Hid (∀ g, (Value.slice vv1 vv2 vv3).ownBlock = some g → g < w2.heap.size) := Lib.hid (fun g hg => (ho2.lt g hg).2)
      have HN2 := Lib.hid hn2
      have hs2 : ∀ i, (i = b ∨ (Value.slice ao nq cap).ownBlock = some i) → i < w.heap.size := by
        rintro i (e | e)
        · have := HG.out; omega
        · exact (HX.out.ow.lt _ e).2
      have HSI := Lib.hid hs2
      have HB2 := Lib.hid ((HB1.out.keep hk2 (fun e => by have := hs2 _ e; have := HG.out; omega)).kp0 hkA)
      have HT2 := Lib.hid ((HBT.out.keep hk2 (fun e => by have := hs2 _ e; have := HTB.out; omega)).kp0 hkA)
      have HK2 := Lib.hid ((HK1.out.tr hk2).tr (hkA.nil _))
      have HZ2 : Hid (tb + 1 ≤ w2.heap.size ∧ w.heap.size + 1 ≤ tb ∧ (w2.alloc (.cells #[.string (S sp), .string (S nm), .slice vv1 vv2 vv3, .string { data := #[] }, .slice none 0 0] 25)).heap.size = w2.heap.size + 1) := Lib.hid ⟨by have h1 := hk2.size; have h2 := HTB.out; omega, HTB.out.1, by simp⟩
      have HEBV : Hid (∀ g, vs2.ownBlock = some g → g < w2.heap.size) := Lib.hid (fun g hg => (hx2.ow.lt g hg).2)
      clear hx2 hv2 ho2 hn2 hsl2 hk2 hkA hs2
      generalize heb : w2.heap.size = eb at HBE HO2L HZ2 HEBV ⊢
      have HEB := Lib.hid heb
      clear heb
      have ht0 := HT2.out.cellV 0 rfl
      have ht1 := HT2.out.cellV 1 rfl
      have ht3 := HT2.out.cellV 3 rfl
      cases te with
      | true =>
        have HR : Hid (rx = .ok (.mk sp nm at_ [] [], r)) := Lib.hid (by rw [HRX.out, HTX.out]; show (beginX said ⟨(tp, tn), tl, true⟩).bind _ = _; rw [HBGX.out]; rfl)
        go_upto_region 15 with (fail)
        rw [HEB.out]
        obtain ⟨W, hW⟩ : ∃ x, x = w2.alloc (.cells #[.string (S sp), .string (S nm), .slice vv1 vv2 vv3, .string { data := #[] }, .slice none 0 0] 25) := ⟨_, rfl⟩
        rw [← hW] at HBE HX2 HO2 HB2 HK2 HZ2 ⊢
        clear hW
        have HXW := HX2
        have HBW := HB2
        have HEW := HBE
        have HKW := HK2
        clear HX2 HB2 HBE HK2 ht0 ht1 ht3
        have HOW := HO2
        have HVW : Hid (∀ g, vs2.ownBlock = some g → (Value.slice ao nq cap).ownBlock = some g ∨ g0 < g) := Lib.hid (fun g hg => (HV2.out g hg).imp id (fun h => by have h1 := HTB.out; have := HG.out; omega))
        have HNV := HN2
        have HKD : Hid (∃ cs, RdF (FK g0 b W vs2) W 5 (.slice none 0 0) 0 cs ∧ ElsV (FK g0 b W vs2) W [] cs) := Lib.hid ⟨[], RdF.nil _ _ _, by unfold ElsV; rfl⟩
        clear HO2 HV2 HN2
        obtain ⟨aW, nW, cW, rfl⟩ : ∃ a n c, vs2 = .slice a n c := by obtain ⟨a, c1, h1, _⟩ := ownK_sl HXW.out.ow; exact ⟨_, _, _, h1⟩
        have hcW : nq ≤ cW := by
          obtain ⟨a1, c1, h1, h2, _⟩ := ownK_sl HXW.out.ow
          simp only [Value.slice.injEq] at h1
          have h3 := congrArg List.length HPRE.out
          rw [List.length_take] at h3
          have := HNQ.out
          omega
        have hcWi : (nq : Int) ≤ cW := by omega
        have HNW : Hid (nq ≤ s'.length) := Lib.hid (by
          have h3 := congrArg List.length HPRE.out
          rw [List.length_take] at h3
          have := HNQ.out
          omega)
        have hb1 := HXW.out.c1
        have hbf := HXW.out.fz 1
        have HKS : Hid (Kp (fun g => g = b) W (W.setCell ⟨b, 1, none⟩ (.slice aW nq cW))) := Lib.hid ((Kp.refl (fun g => g = b) W).setCell (p := ⟨b, 1, none⟩) (fun _ => rfl) _)
        have HEX := Lib.hid (HEW.out.keep HKS.out (by have h1 := HZ2.out.1; have h2 := HZ2.out.2.1; have := HG.out; omega))
        have HBX := Lib.hid (HBW.out.keep HKS.out (by have := HG.out; omega))
        have e0 := HEX.out.cellV 0 rfl
        have e1 := HEX.out.cellV 1 rfl
        have e2 := HEX.out.cellV 2 rfl
        have e3 := HEX.out.cellV 3 rfl
        have e4 := HEX.out.cellV 4 rfl
        have q0 := HBX.out.cellV 0 rfl
        have q1 := HBX.out.cellV 1 rfl
        have q2 := HBX.out.cellV 2 rfl
        have q3 := HBX.out.cellV 3 rfl
        have q4 := HBX.out.cellV 4 rfl
        have f0 := blk_frozen HBX.out 0
        have f1 := blk_frozen HBX.out 1
        have f2 := blk_frozen HBX.out 2
        have f3 := blk_frozen HBX.out 3
        have f4 := blk_frozen HBX.out 4
        clear hcW
        go_wp2
        refine bodyPost_ret (v := .tuple #[.agg #[.string (S sp), .string (S nm), .slice vv1 vv2 vv3, .string { data := #[] }, .slice none 0 0], .int .i64 0]) (by simp [results, Tryz.results28, go_sem, q0, q1, q2, q3, q4]) rfl ?_
        have hto := ownK_take HXW.out.ow nq HNW.out
        rw [prs_take, HNQ.out, HPRE.out] at hto
        have hown : ∀ g, (Value.slice aW nq cW).ownBlock = some g → (Value.slice aW nW cW).ownBlock = some g := fun g hg => by cases aW <;> exact hg
        have HXF := Lib.hid (HXW.out.putS (Kp.refl _ _) hto (fun g hg => .inl (by cases aW <;> exact hg)))
        rw [← HNQ.out] at HXF
        clear hto
        show ElPost B Z b _ said w _ _ _
        rw [HR.out]
        have hb0 : b < g0 := by have := HG.out; omega
        have hv : ∀ g, (Value.slice aW nq cW).ownBlock = some g → g ≠ g0 := fun g hg e => by
          rcases HVW.out g (hown g hg) with h | h
          · have := (HX.out.ow.lt _ h).2; have := HG.out; omega
          · omega
        have hgw : g0 = w.heap.size := HG.out.1
        have hkf : ∀ g, FK g0 b W (.slice aW nW cW) g → ∀ (x0 x1 x2 x3 x4 : Value), FE w (((((((W.setCell ⟨b, 1, none⟩ (.slice aW nq cW)).setCell ⟨g0, 0, none⟩ x0).setCell ⟨g0, 1, none⟩ x1).setCell ⟨g0, 2, none⟩ x2).setCell ⟨g0, 3, none⟩ x3).setCell ⟨g0, 4, none⟩ x4)) (.slice aW nq cW) g := fun i hi x0 x1 x2 x3 x4 =>
          ⟨by have := hi.1; omega, Nat.lt_of_lt_of_le hi.2.1 (Nat.le_trans HKS.out.size (kp_set5 _ g0 _ _ _ _ _).size), fun e => hi.2.2.1 (hown _ e)⟩
        refine ⟨_, _, _, _, _, .slice aW nq cW, rfl, ?_, HXF.out.1.keep (kp_set5 _ g0 _ _ _ _ _) (fun e => by omega) (fun g hg e => hv g hg e) (by have := HX.out.mb; omega), fun g hg => (HVW.out g (hown g hg)).imp id (fun h => by omega), ?_⟩
        · unfold ElV
          obtain ⟨cs, hcs1, hcs2⟩ := HKD.out
          refine ⟨rfl, rfl, ?_, rfl, cs, (((hcs1.keep HKS.out (fun i hi => hi.2.2.2)).keep (kp_set5 _ g0 _ _ _ _ _) (fun i hi e => by have := hi.1; omega)).mono (fun i hi => hkf i hi _ _ _ _ _)), ?_⟩
          · have hr := RdF.of_own (F := FK g0 b W (.slice aW nW cW)) HOW.out (fun g hg => ⟨by have := (HOW.out.lt g hg).1; have := HTB.out; have := HG.out; omega, (HOW.out.lt g hg).2, HNV.out g hg, by have := (HOW.out.lt g hg).1; have := HTB.out; have := HG.out; omega⟩)
            exact ((hr.keep HKS.out (fun i hi => hi.2.2.2)).keep (kp_set5 _ g0 _ _ _ _ _) (fun i hi e => by have := hi.1; omega)).mono (fun i hi => hkf i hi _ _ _ _ _)
          · exact ElsV.keep (kp_set5 _ g0 _ _ _ _ _) (fun i hi e => by have := hi.1; omega) (fun i hi => hkf i hi _ _ _ _ _) _ _ (ElsV.keep (G := FK g0 b W (.slice aW nW cW)) HKS.out (fun i hi => hi.2.2.2) (fun _ h => h) _ _ hcs2)
        · exact ((HKW.out.tr (HKS.out.mono (fun _ _ h => .inl h)))).new (kp_set5 _ g0 _ _ _ _ _) (fun i e => by omega)
      | false =>
        have HCR : Hid (rx = (contentX (elemX f s') (tp, tn) r).bind fun z => .ok (.mk sp nm at_ z.1.1 z.1.2, z.2)) := Lib.hid (by rw [HRX.out, HTX.out]; show (beginX said ⟨(tp, tn), tl, false⟩).bind _ = _; rw [HBGX.out]; rfl)
        have HCN : Hid (contentX (elemX f s') (tp, tn) r ≠ .no) := Lib.hid (fun e => HN.out (by rw [HCR.out, e]; rfl))
        have HRL : Hid (r.length ≤ 16384) := Lib.hid (by have h1 := (tagX_le HTX.out).2; have := HL.out; omega)
        obtain ⟨cx, hcx⟩ : ∃ x, x = contentX (elemX f s') (tp, tn) r := ⟨_, rfl⟩
        have HCX : Hid (contentX (elemX f s') (tp, tn) r = cx) := Lib.hid hcx.symm
        clear hcx
        have hcall := content_any f HE.out B Z b (tp, tn) vs2 r s' _ (d + 1) HD.out HX2.out HRL.out HS'.out.1 HCN.out
        go_wp2_with fail
        refine hcall.mono ?_
        clear hcall
        rw [HCX.out]
        have HSV : Hid (∀ g, (g = b ∨ vs2.ownBlock = some g) → g ≠ g0 ∧ g ≠ eb ∧ g ≠ tb) := Lib.hid (fun g hg => by
          have h1 := HG.out; have h2 := HZ2.out; have h3 := HTB.out
          rcases hg with e | e
          · omega
          · have h5 := HEB.out
            rcases HV2.out g e with h | h
            · have := HSI.out g (.inr h); omega
            · have h4 := (HX2.out.ow.lt g e).2; have h6 := HEBV.out g e; omega)
        cases cx with
        | no => exact absurd HCX.out HCN.out
        | bad er =>
          have HR : Hid (rx = .bad er) := Lib.hid (by rw [HCR.out, HCX.out]; rfl)
          rintro e3 w3 ⟨rfl, he1, he2, hk3⟩
          have HE1 := Lib.hid he1
          have HE2 := Lib.hid he2
          have hne : ((er : Int) == 0) = false := by rw [beq_eq_false_iff_ne]; omega
          have HBX : Hid (Blk w3 g0 25 ez) := Lib.hid (HB2.out.keep hk3 (fun e => (HSV.out _ e).1 rfl))
          have HKX : Hid (Kp (fun g => g = b ∨ (Value.slice ao nq cap).ownBlock = some g) w w3) := Lib.hid (kp_hear (B := B) HK2.out hk3 (fun g hg => (HV2.out g hg).imp id (fun h => by have h1 := HTB.out; omega)))
          clear hk3 he1 he2
          have q0 := HBX.out.cellV 0 rfl
          have q1 := HBX.out.cellV 1 rfl
          have q2 := HBX.out.cellV 2 rfl
          have q3 := HBX.out.cellV 3 rfl
          have q4 := HBX.out.cellV 4 rfl
          have f0 := blk_frozen HBX.out 0
          have f1 := blk_frozen HBX.out 1
          have f2 := blk_frozen HBX.out 2
          have f3 := blk_frozen HBX.out 3
          have f4 := blk_frozen HBX.out 4
          go_wp2
          refine bodyPost_ret (v := .tuple #[.agg ez.toArray, .int .i64 er]) (by simp [results, Tryz.results28, go_sem, q0, q1, q2, q3, q4]) rfl ?_
          show ElPost B Z b _ said w _ _ _
          rw [HR.out]
          exact ⟨rfl, HE1.out, HE2.out, HKX.out.new (kp_set5 _ g0 _ _ _ _ _) (fun i e => by have := HG.out; omega)⟩
        | ok z =>
          obtain ⟨⟨tx, ks⟩, r2⟩ := z
          have HR : Hid (rx = .ok (.mk sp nm at_ tx ks, r2)) := Lib.hid (by rw [HCR.out, HCX.out]; rfl)
          rintro e3 w3 ⟨vk, vs3, cs, rfl, hx3, hv3, hrd3, hel3, hk3⟩
          obtain ⟨ka, kc, rfl, -⟩ := hrd3.sl
          have HX3 := Lib.hid hx3
          have HRD := Lib.hid hrd3
          have HEL := Lib.hid hel3
          have HV3 : Hid (∀ g, vs3.ownBlock = some g → vs2.ownBlock = some g ∨ eb < g) := Lib.hid (fun g hg => (hv3 g hg).imp id (fun h => by have h1 := HZ2.out; omega))
          have HB3 := Lib.hid (HB2.out.keep hk3 (fun e => (HSV.out _ e).1 rfl))
          have HE3 := Lib.hid (HBE.out.keep hk3 (fun e => (HSV.out _ e).2.1 rfl))
          have HK3 : Hid (Kp (fun g => g = b ∨ (Value.slice ao nq cap).ownBlock = some g) w w3) := Lib.hid (kp_hear (B := B) HK2.out hk3 (fun g hg => (HV2.out g hg).imp id (fun h => by have h1 := HTB.out; omega)))
          have HO3 := Lib.hid (own_keep HO2.out hk3 (fun g hg e => e.elim (fun e => by have h1 := (HO2.out.lt g hg).1; have := HTB.out; have := HG.out; omega) (HN2.out g hg)))
          have HSZ3 := Lib.hid hk3.size
          clear hx3 hv3 hrd3 hel3 hk3 ht0 ht1 ht3
          have x3 := HE3.out.cellV 3 rfl
          have x4 := HE3.out.cellV 4 rfl
          have y3 := blk_frozen HE3.out 3
          have y4 := blk_frozen HE3.out 4
          rw [HEB.out]
          go_upto_region 15 with (fail)
          obtain ⟨W, hW⟩ : ∃ x, x = (w3.setCell ⟨eb, 3, none⟩ (.string (S tx))).setCell ⟨eb, 4, none⟩ (.slice ka ks.length kc) := ⟨_, rfl⟩
          have HKE : Hid (Kp (fun g => g = eb) w3 W) := Lib.hid (by
            rw [hW]
            exact ((Kp.refl (fun g => g = eb) w3).setCell (p := ⟨eb, 3, none⟩) (fun _ => rfl) _).setCell (p := ⟨eb, 4, none⟩) (fun _ => rfl) _)
          have HEW : Hid (Blk W eb 25 [.string (S sp), .string (S nm), .slice vv1 vv2 vv3, .string (S tx), .slice ka ks.length kc]) := Lib.hid (by
            rw [hW]
            have h1 := heap_set HE3.out 3 (.string (S tx))
            exact heap_set h1 4 (.slice ka ks.length kc))
          rw [← hW]
          clear hW x3 x4 y3 y4
          have hge : g0 < eb := by have h1 := HZ2.out; have := HG.out; omega
          have HXW := Lib.hid (HX3.out.keep HKE.out (by have := HG.out; omega) (fun g hg e => by
            rcases HV3.out g hg with h | h
            · exact (HSV.out g (.inr h)).2.1 e
            · omega) (by have := HX2.out.mb; have := HX.out.mb; have := HG.out; omega))
          have HBW := Lib.hid (HB3.out.keep HKE.out (fun e => by omega))
          have HKW := Lib.hid (HK3.out.new HKE.out (fun i e => by have := HG.out; omega))
          have HOW := Lib.hid (own_keep HO3.out HKE.out (fun g hg e => by have := HO2L.out g hg; omega))
          have HVW : Hid (∀ g, vs3.ownBlock = some g → (Value.slice ao nq cap).ownBlock = some g ∨ g0 < g) := Lib.hid (fun g hg => (HV3.out g hg).elim (fun h => (HV2.out g h).imp id (fun h => by have h1 := HTB.out; have := HG.out; omega)) (fun h => .inr (by omega)))
          have HNV : Hid (∀ g, (Value.slice vv1 vv2 vv3).ownBlock = some g → vs3.ownBlock ≠ some g) := Lib.hid (fun g hg e => (HV3.out g e).elim (fun h => HN2.out g hg h) (fun h => by have := HO2L.out g hg; omega))
          have hfk : ∀ i, FE (w2.alloc (.cells #[.string (S sp), .string (S nm), .slice vv1 vv2 vv3, .string { data := #[] }, .slice none 0 0] 25)) w3 vs3 i → ¬ i = eb ∧ FK g0 b W vs3 i := fun i hi => by
            have h1 := hi.1
            have h2 := HZ2.out.2.2
            have h3 := HG.out
            have h4 := HKE.out.size
            exact ⟨by omega, by omega, Nat.lt_of_lt_of_le hi.2.1 h4, hi.2.2, by omega⟩
          have HKD : Hid (∃ cs, RdF (FK g0 b W vs3) W 5 (.slice ka ks.length kc) ks.length cs ∧ ElsV (FK g0 b W vs3) W ks cs) := Lib.hid ⟨cs, (HRD.out.keep HKE.out (fun i hi => (hfk i hi).1)).mono (fun i hi => (hfk i hi).2), ElsV.keep HKE.out (fun i hi => (hfk i hi).1) (fun i hi => (hfk i hi).2) _ _ HEL.out⟩
          clear hfk hge
          generalize vs3 = vs2 at HXW HVW HNV HKD
          obtain ⟨aW, nW, cW, rfl⟩ : ∃ a n c, vs2 = .slice a n c := by obtain ⟨a, c1, h1, _⟩ := ownK_sl HXW.out.ow; exact ⟨_, _, _, h1⟩
          have hcW : nq ≤ cW := by
            obtain ⟨a1, c1, h1, h2, _⟩ := ownK_sl HXW.out.ow
            simp only [Value.slice.injEq] at h1
            have h3 := congrArg List.length HPRE.out
            rw [List.length_take] at h3
            have := HNQ.out
            omega
          have hcWi : (nq : Int) ≤ cW := by omega
          have HNW : Hid (nq ≤ s'.length) := Lib.hid (by
            have h3 := congrArg List.length HPRE.out
            rw [List.length_take] at h3
            have := HNQ.out
            omega)
          have hb1 := HXW.out.c1
          have hbf := HXW.out.fz 1
          have HKS : Hid (Kp (fun g => g = b) W (W.setCell ⟨b, 1, none⟩ (.slice aW nq cW))) := Lib.hid ((Kp.refl (fun g => g = b) W).setCell (p := ⟨b, 1, none⟩) (fun _ => rfl) _)
          have HEX := Lib.hid (HEW.out.keep HKS.out (by have h1 := HZ2.out.1; have h2 := HZ2.out.2.1; have := HG.out; omega))
          have HBX := Lib.hid (HBW.out.keep HKS.out (by have := HG.out; omega))
          have e0 := HEX.out.cellV 0 rfl
          have e1 := HEX.out.cellV 1 rfl
          have e2 := HEX.out.cellV 2 rfl
          have e3 := HEX.out.cellV 3 rfl
          have e4 := HEX.out.cellV 4 rfl
          have q0 := HBX.out.cellV 0 rfl
          have q1 := HBX.out.cellV 1 rfl
          have q2 := HBX.out.cellV 2 rfl
          have q3 := HBX.out.cellV 3 rfl
          have q4 := HBX.out.cellV 4 rfl
          have f0 := blk_frozen HBX.out 0
          have f1 := blk_frozen HBX.out 1
          have f2 := blk_frozen HBX.out 2
          have f3 := blk_frozen HBX.out 3
          have f4 := blk_frozen HBX.out 4
          clear hcW
          go_wp2
          refine bodyPost_ret (v := .tuple #[.agg #[.string (S sp), .string (S nm), .slice vv1 vv2 vv3, .string (S tx), .slice ka ks.length kc], .int .i64 0]) (by simp [results, Tryz.results28, go_sem, q0, q1, q2, q3, q4]) rfl ?_
          have hto := ownK_take HXW.out.ow nq HNW.out
          rw [prs_take, HNQ.out, HPRE.out] at hto
          have hown : ∀ g, (Value.slice aW nq cW).ownBlock = some g → (Value.slice aW nW cW).ownBlock = some g := fun g hg => by cases aW <;> exact hg
          have HXF := Lib.hid (HXW.out.putS (Kp.refl _ _) hto (fun g hg => .inl (by cases aW <;> exact hg)))
          rw [← HNQ.out] at HXF
          clear hto
          show ElPost B Z b _ said w _ _ _
          rw [HR.out]
          have hb0 : b < g0 := by have := HG.out; omega
          have hv : ∀ g, (Value.slice aW nq cW).ownBlock = some g → g ≠ g0 := fun g hg e => by
            rcases HVW.out g (hown g hg) with h | h
            · have := (HX.out.ow.lt _ h).2; have := HG.out; omega
            · omega
          have hgw : g0 = w.heap.size := HG.out.1
          have hkf : ∀ g, FK g0 b W (.slice aW nW cW) g → ∀ (x0 x1 x2 x3 x4 : Value), FE w (((((((W.setCell ⟨b, 1, none⟩ (.slice aW nq cW)).setCell ⟨g0, 0, none⟩ x0).setCell ⟨g0, 1, none⟩ x1).setCell ⟨g0, 2, none⟩ x2).setCell ⟨g0, 3, none⟩ x3).setCell ⟨g0, 4, none⟩ x4)) (.slice aW nq cW) g := fun i hi x0 x1 x2 x3 x4 =>
            ⟨by have := hi.1; omega, Nat.lt_of_lt_of_le hi.2.1 (Nat.le_trans HKS.out.size (kp_set5 _ g0 _ _ _ _ _).size), fun e => hi.2.2.1 (hown _ e)⟩
          refine ⟨_, _, _, _, _, .slice aW nq cW, rfl, ?_, HXF.out.1.keep (kp_set5 _ g0 _ _ _ _ _) (fun e => by omega) (fun g hg e => hv g hg e) (by have := HX.out.mb; omega), fun g hg => (HVW.out g (hown g hg)).imp id (fun h => by omega), ?_⟩
          · unfold ElV
            obtain ⟨cs, hcs1, hcs2⟩ := HKD.out
            refine ⟨rfl, rfl, ?_, rfl, cs, (((hcs1.keep HKS.out (fun i hi => hi.2.2.2)).keep (kp_set5 _ g0 _ _ _ _ _) (fun i hi e => by have := hi.1; omega)).mono (fun i hi => hkf i hi _ _ _ _ _)), ?_⟩
            · have hr := RdF.of_own (F := FK g0 b W (.slice aW nW cW)) HOW.out (fun g hg => ⟨by have := (HOW.out.lt g hg).1; have := HTB.out; have := HG.out; omega, (HOW.out.lt g hg).2, HNV.out g hg, by have := (HOW.out.lt g hg).1; have := HTB.out; have := HG.out; omega⟩)
              exact ((hr.keep HKS.out (fun i hi => hi.2.2.2)).keep (kp_set5 _ g0 _ _ _ _ _) (fun i hi e => by have := hi.1; omega)).mono (fun i hi => hkf i hi _ _ _ _ _)
            · exact ElsV.keep (kp_set5 _ g0 _ _ _ _ _) (fun i hi e => by have := hi.1; omega) (fun i hi => hkf i hi _ _ _ _ _) _ _ (ElsV.keep (G := FK g0 b W (.slice aW nW cW)) HKS.out (fun i hi => hi.2.2.2) (fun _ h => h) _ _ hcs2)
          · exact ((HKW.out.tr (HKS.out.mono (fun _ _ h => .inl h)))).new (kp_set5 _ g0 _ _ _ _ _) (fun i e => by omega)
theorem elem_all : ∀ f, ElemC f
  | 0 => elem_zero
  | f + 1 => elem_succ f (elem_all f)
end Go.Proofs.YtchmookggegmnaaGreatDoor
namespace Go.Proofs.YtchmookggegmnaaGreatDoor
open Go Go.RowKit
def DoPost (b : Nat) (w : World) (e : Ending) (w' : World) : R PE → Prop
  | .no => False
  | .bad er => e = .returned (.tuple #[.agg ez.toArray, .int .i64 er]) ∧ er ≠ 0 ∧ er < 100 ∧ Kp (fun g => g = b) w w'
  | .ok pe => ∃ c0 c1 c2 c3 c4, e = .returned (.tuple #[.agg #[c0, c1, c2, c3, c4], .int .i64 0]) ∧ ElV (fun i => w.heap.size ≤ i ∧ i < w'.heap.size) w' pe c0 c1 c2 c3 c4 ∧ Kp (fun g => g = b) w w'
set_option maxRecDepth 20000 in
theorem decl_any (B : Nat) (Z : Nat → Prop) (b : Nat) (l : List UInt8) (vs : Value) (w : World) (h : XrV B Z w b vs l []) (hp : Lib.hasPrefix l [60, 63, 120, 109, 108, 32] = false) :
    Calls Tryz.prog 26 #[.pointer (some ⟨b, 0, none⟩)] w fun e w' => e = .returned (.bool true) ∧ XrV B Z w' b vs l [] ∧ Kp (fun g => g = b) w w' := by
  have H := Lib.hid h
  have HP := Lib.hid hp
  have HT := Lib.hid (trimP_no hp)
  clear h hp
  go_enter Tryz.func26, Tryz.ntmps26
  go_wp2_with (go_at_call 33; refine (take_any B Z b l [] vs _ [60, 63, 120, 109, 108, 32] _ (lit1 [60, 63, 120, 109, 108, 32]) H.out).mono ?_; rw [HP.out, HT.out]; rintro e1 w1 ⟨rfl, h1, hk⟩; have H1 := Lib.hid h1; have HK1 := Lib.hid hk; clear h1 hk)
  all_goals go_ret
  all_goals exact ⟨rfl, H1.out, HK1.out⟩
theorem docX_eq {l : List UInt8} (h : Lib.hasPrefix l [60, 63, 120, 109, 108, 32] = false) : docX l = (betweenX (l.length + 1) l).bind fun r => (elemX 16 [] r).bind fun x => (betweenX (x.2.length + 1) x.2).bind fun r3 => if r3 = [] then .ok x.1 else .bad 3 := by
  unfold docX
  rw [h]
  rfl
set_option maxRecDepth 20000 in
set_option maxHeartbeats 4000000 in
theorem document_any (B : Nat) (Z : Nat → Prop) (b : Nat) (l : List UInt8) (w : World) (h : XrV B Z w b (.slice none 0 0) l []) (hl : l.length ≤ 16384) (hn : docX l ≠ .no) :
    Calls Tryz.prog 20 #[.pointer (some ⟨b, 0, none⟩)] w fun e w' => DoPost b w e w' (docX l) := by
  have HX := Lib.hid h
  have HL := Lib.hid hl
  have HP : Hid (Lib.hasPrefix l [60, 63, 120, 109, 108, 32] = false) := Lib.hid (by
    cases hb : Lib.hasPrefix l [60, 63, 120, 109, 108, 32] with
    | false => rfl
    | true => exact absurd (by unfold docX; rw [hb]; rfl) hn)
  have hlt := h.lt
  obtain ⟨rx, hrx⟩ : ∃ r, r = docX l := ⟨_, rfl⟩
  have HRX : Hid (rx = (betweenX (l.length + 1) l).bind fun r => (elemX 16 [] r).bind fun x => (betweenX (x.2.length + 1) x.2).bind fun r3 => if r3 = [] then .ok x.1 else .bad 3) := Lib.hid (by rw [hrx, docX_eq HP.out])
  rw [← hrx] at hn ⊢
  have HN := Lib.hid hn
  obtain ⟨w0, hw0⟩ : ∃ x, x = w.alloc (.cells ez.toArray 25) := ⟨_, rfl⟩
  obtain ⟨g0, hg0⟩ : ∃ g, g = w.heap.size := ⟨_, rfl⟩
  have HG : Hid (g0 = w.heap.size ∧ b < w.heap.size ∧ w0.heap.size = w.heap.size + 1) := Lib.hid ⟨hg0, hlt, by rw [hw0]; simp⟩
  have HK0 : Hid (Kp0 w w0) := Lib.hid (by rw [hw0]; exact (Kp.refl _ _).alloc _)
  have HB0 : Hid (Blk w0 g0 25 ez) := Lib.hid (by rw [hw0, hg0]; exact blk0 w _ _)
  have H0 := Lib.hid (h.kp0 HK0.out)
  have hc1 := H0.out.c1
  have HTN : Hid (betweenX (l.length + 1) l ≠ .no) := Lib.hid (fun e => HN.out (by rw [HRX.out, e]; rfl))
  obtain ⟨tx, htx⟩ : ∃ x, x = betweenX (l.length + 1) l := ⟨_, rfl⟩
  have HTX : Hid (betweenX (l.length + 1) l = tx) := Lib.hid htx.symm
  clear h hl hn hrx hlt htx
  cases tx with
  | no => exact absurd HTX.out HTN.out
  | bad e =>
    have HR : Hid (rx = .bad 3) := Lib.hid (by rw [HRX.out, HTX.out, betweenX_bad _ _ _ HTX.out]; rfl)
    go_enter Tryz.func20, Tryz.ntmps20
    go_upto_region 1 with (fail)
    rw [← hw0, ← hg0]
    clear hw0 hg0
    go_wp2_with fail
    refine (decl_any B Z b l _ _ H0.out HP.out).mono ?_
    rintro e1 w1 ⟨rfl, h1, hk⟩
    have H1 := Lib.hid h1
    have HK1 := Lib.hid hk
    have HB1 := Lib.hid (HB0.out.keep hk (by have := HG.out; omega))
    clear h1 hk hc1
    go_wp2_with fail
    refine (between_any B Z b (l.length + 1) l [] _ _ H1.out HL.out HTN.out).mono ?_
    rw [HTX.out]
    rintro e2 w2 ⟨rfl, hk⟩
    have HBX := Lib.hid (HB1.out.keep hk (by have := HG.out; omega))
    have HKX : Hid (Kp (fun g => g = b) w w2) := Lib.hid ((HK0.out.in0 HK1.out).tr hk)
    clear hk
    have q0 := HBX.out.cellV 0 rfl
    have q1 := HBX.out.cellV 1 rfl
    have q2 := HBX.out.cellV 2 rfl
    have q3 := HBX.out.cellV 3 rfl
    have q4 := HBX.out.cellV 4 rfl
    have f0 := blk_frozen HBX.out 0
    have f1 := blk_frozen HBX.out 1
    have f2 := blk_frozen HBX.out 2
    have f3 := blk_frozen HBX.out 3
    have f4 := blk_frozen HBX.out 4
    go_wp2
    refine bodyPost_ret (v := .tuple #[.agg ez.toArray, .int .i64 3]) (by simp [results, Tryz.results20, go_sem, q0, q1, q2, q3, q4]) rfl ?_
    show DoPost b w _ _ _
    rw [HR.out]
    exact ⟨rfl, by decide, by decide, HKX.out.new (kp_set5 _ g0 _ _ _ _ _) (fun i e => by have := HG.out; omega)⟩
  | ok r =>
    have HLR : Hid (r.length ≤ 16384) := Lib.hid (Nat.le_trans (betweenX_le _ _ _ HTX.out) HL.out)
    have HEN : Hid (elemX 16 [] r ≠ .no) := Lib.hid (fun e => HN.out (by rw [HRX.out, HTX.out]; show (elemX 16 [] r).bind _ = _; rw [e]; rfl))
    obtain ⟨ex, hex⟩ : ∃ x, x = elemX 16 [] r := ⟨_, rfl⟩
    have HEX : Hid (elemX 16 [] r = ex) := Lib.hid hex.symm
    have HRE : Hid (rx = ex.bind fun x => (betweenX (x.2.length + 1) x.2).bind fun r3 => if r3 = [] then .ok x.1 else .bad 3) := Lib.hid (by rw [HRX.out, HTX.out, hex]; rfl)
    clear hex
    go_enter Tryz.func20, Tryz.ntmps20
    go_upto_region 1 with (fail)
    rw [← hw0, ← hg0]
    clear hw0 hg0
    go_wp2_with fail
    refine (decl_any B Z b l _ _ H0.out HP.out).mono ?_
    rintro e1 w1 ⟨rfl, h1, hk⟩
    have H1 := Lib.hid h1
    have HK1 := Lib.hid hk
    have HB1 := Lib.hid (HB0.out.keep hk (by have := HG.out; omega))
    clear h1 hk hc1
    go_wp2_with fail
    refine (between_any B Z b (l.length + 1) l [] _ _ H1.out HL.out HTN.out).mono ?_
    rw [HTX.out]
    rintro e2 w2 ⟨rfl, h2, hk⟩
    have H2 := Lib.hid h2
    have HB2 := Lib.hid (HB1.out.keep hk (by have := HG.out; omega))
    have HK2 : Hid (Kp (fun g => g = b) w w2) := Lib.hid ((HK0.out.in0 HK1.out).tr hk)
    have HZ2 : Hid (w.heap.size + 1 ≤ w2.heap.size) := Lib.hid (by have h1 := HG.out; have h2 := HK1.out.size; have h3 := hk.size; omega)
    clear h2 hk
    go_wp2_with fail
    refine (elem_all 16 B Z b r [] _ _ 0 (by rfl) H2.out HLR.out (by decide) HEN.out).mono ?_
    rw [HEX.out]
    cases ex with
    | no => exact absurd HEX.out HEN.out
    | bad er =>
      have HR : Hid (rx = .bad er) := Lib.hid (by rw [HRE.out]; rfl)
      rintro e3 w3 ⟨rfl, he1, he2, hk⟩
      have hne : ((er : Int) == 0) = false := by rw [beq_eq_false_iff_ne]; omega
      have HE1 := Lib.hid he1
      have HE2 := Lib.hid he2
      have hk' : Kp (fun g => g = b) _ _ := hk.mono (fun i _ h => h.elim id (fun e => by cases e))
      have HBX : Hid (Blk (w3.alloc (.cells ez.toArray 25)) g0 25 ez) := Lib.hid ((HB2.out.keep hk' (by have := HG.out; omega)).kp0 ((Kp.refl _ _).alloc _))
      have HKX : Hid (Kp (fun g => g = b) w (w3.alloc (.cells ez.toArray 25))) := Lib.hid ((HK2.out.tr hk').alloc _)
      clear hk hk' he1 he2
      have q0 := HBX.out.cellV 0 rfl
      have q1 := HBX.out.cellV 1 rfl
      have q2 := HBX.out.cellV 2 rfl
      have q3 := HBX.out.cellV 3 rfl
      have q4 := HBX.out.cellV 4 rfl
      have f0 := blk_frozen HBX.out 0
      have f1 := blk_frozen HBX.out 1
      have f2 := blk_frozen HBX.out 2
      have f3 := blk_frozen HBX.out 3
      have f4 := blk_frozen HBX.out 4
      go_wp2
      refine bodyPost_ret (v := .tuple #[.agg ez.toArray, .int .i64 er]) (by simp [results, Tryz.results20, go_sem, q0, q1, q2, q3, q4]) rfl ?_
      show DoPost b w _ _ _
      rw [HR.out]
      exact ⟨rfl, HE1.out, HE2.out, HKX.out.new (kp_set5 _ g0 _ _ _ _ _) (fun i e => by have := HG.out; omega)⟩
    | ok x =>
      obtain ⟨⟨sp, nm, at_, tx, ks⟩, r2⟩ := x
      have HLR2 : Hid (r2.length ≤ 16384) := Lib.hid (Nat.le_trans (elemX_le _ _ _ _ _ HEX.out) HLR.out)
      obtain ⟨bx, hbx⟩ : ∃ x, x = betweenX (r2.length + 1) r2 := ⟨_, rfl⟩
      have HBT : Hid (betweenX (r2.length + 1) r2 = bx) := Lib.hid hbx.symm
      have HRB : Hid (rx = bx.bind fun r3 => if r3 = [] then .ok (.mk sp nm at_ tx ks) else .bad 3) := Lib.hid (by rw [HRE.out, hbx]; rfl)
      have HBN : Hid (betweenX (r2.length + 1) r2 ≠ .no) := Lib.hid (fun e => HN.out (by rw [HRB.out, ← HBT.out, e]; rfl))
      clear hbx
      rintro e3 w3 ⟨c0, c1, c2, c3, c4, vs', rfl, hel, hx3, hv3, hk⟩
      have hel2 := hel
      unfold ElV at hel2
      obtain ⟨rfl, rfl, hel3, rfl, cs, hel4, -⟩ := hel2
      obtain ⟨a2, p2, rfl, -⟩ := hel3.sl
      obtain ⟨a4, p4, rfl, -⟩ := hel4.sl
      have hk' : Kp (fun g => g = b) w2 w3 := hk.mono (fun i _ h => h.elim id (fun e => by cases e))
      have hkA : Kp0 w3 (w3.alloc (.cells #[.string (S sp), .string (S nm), .slice a2 at_.length p2, .string (S tx), .slice a4 ks.length p4] 25)) := (Kp.refl _ _).alloc _
      have HB3 := Lib.hid ((HB2.out.keep hk' (by have := HG.out; omega)).kp0 hkA)
      have HX3 := Lib.hid (hx3.kp0 hkA)
      have HBE : Hid (Blk (w3.alloc (.cells #[.string (S sp), .string (S nm), .slice a2 at_.length p2, .string (S tx), .slice a4 ks.length p4] 25)) w3.heap.size 25 [.string (S sp), .string (S nm), .slice a2 at_.length p2, .string (S tx), .slice a4 ks.length p4]) := Lib.hid (blk0 w3 _ _)
      have HZ3 : Hid (w.heap.size + 1 ≤ w3.heap.size) := Lib.hid (Nat.le_trans HZ2.out hk.size)
      have HV3 : Hid (∀ g, vs'.ownBlock = some g → w2.heap.size ≤ g) := Lib.hid (fun g hg => (hv3 g hg).elim (fun e => by cases e) id)
      have HEL : Hid (ElV (FE w2 w3 vs') (w3.alloc (.cells #[.string (S sp), .string (S nm), .slice a2 at_.length p2, .string (S tx), .slice a4 ks.length p4] 25)) (.mk sp nm at_ tx ks) (.string (S sp)) (.string (S nm)) (.slice a2 at_.length p2) (.string (S tx)) (.slice a4 ks.length p4)) := Lib.hid (ElV.keep hkA (fun _ _ h => h) (fun _ h => h) _ _ _ _ _ _ hel)
      have HK3 := Lib.hid ((HK2.out.tr hk').tr (hkA.nil _))
      clear hk hk' hkA hx3 hv3 hel hel3 hel4
      go_wp2_with fail
      refine (between_any B Z b (r2.length + 1) r2 [] vs' _ HX3.out HLR2.out HBN.out).mono ?_
      rw [HBT.out]
      have HWA : Hid (w3.heap.size ≤ (w3.alloc (.cells #[.string (S sp), .string (S nm), .slice a2 at_.length p2, .string (S tx), .slice a4 ks.length p4] 25)).heap.size) := Lib.hid (by simp)
      generalize (w3.alloc (.cells #[.string (S sp), .string (S nm), .slice a2 at_.length p2, .string (S tx), .slice a4 ks.length p4] 25)) = w3a at HB3 HX3 HBE HEL HK3 HWA ⊢
      generalize w3.heap.size = eb at HBE HZ3 ⊢
      have HVB : Hid (∀ g, g = b → g ≠ g0 ∧ g ≠ eb) := Lib.hid (fun g e => by have := HG.out; have := HZ3.out; omega)
      cases bx with
      | no => exact absurd HBT.out HBN.out
      | bad er =>
        have HR : Hid (rx = .bad 3) := Lib.hid (by rw [HRB.out, betweenX_bad _ _ _ HBT.out]; rfl)
        rintro e4 w4 ⟨rfl, hk⟩
        have HBX := Lib.hid (HB3.out.keep hk (fun e => (HVB.out _ e).1 rfl))
        have HKX := Lib.hid (HK3.out.tr hk)
        clear hk
        have q0 := HBX.out.cellV 0 rfl
        have q1 := HBX.out.cellV 1 rfl
        have q2 := HBX.out.cellV 2 rfl
        have q3 := HBX.out.cellV 3 rfl
        have q4 := HBX.out.cellV 4 rfl
        have f0 := blk_frozen HBX.out 0
        have f1 := blk_frozen HBX.out 1
        have f2 := blk_frozen HBX.out 2
        have f3 := blk_frozen HBX.out 3
        have f4 := blk_frozen HBX.out 4
        go_wp2
        refine bodyPost_ret (v := .tuple #[.agg ez.toArray, .int .i64 3]) (by simp [results, Tryz.results20, go_sem, q0, q1, q2, q3, q4]) rfl ?_
        show DoPost b w _ _ _
        rw [HR.out]
        exact ⟨rfl, by decide, by decide, HKX.out.new (kp_set5 _ g0 _ _ _ _ _) (fun i e => by have := HG.out; omega)⟩
      | ok r3 =>
        rintro e4 w4 ⟨rfl, h4, hk⟩
        have HBX := Lib.hid (HB3.out.keep hk (fun e => (HVB.out _ e).1 rfl))
        have HBE4 := Lib.hid (HBE.out.keep hk (fun e => (HVB.out _ e).2 rfl))
        have HKX := Lib.hid (HK3.out.tr hk)
        have HSS := Lib.hid hk.size
        have HEL4 : Hid (ElV (fun i => (w.heap.size ≤ i ∧ i < w4.heap.size) ∧ i ≠ g0) w4 (.mk sp nm at_ tx ks) (.string (S sp)) (.string (S nm)) (.slice a2 at_.length p2) (.string (S tx)) (.slice a4 ks.length p4)) := Lib.hid (ElV.keep hk (fun i hi e => by have := hi.1; have := HZ2.out; have := HG.out; omega) (fun i hi => ⟨⟨by have := hi.1; have := HZ2.out; omega, by have h1 := hi.2.1; have h2 := HWA.out; have h3 := HSS.out; omega⟩, by have := hi.1; have := HZ2.out; have := HG.out; omega⟩) _ _ _ _ _ _ HEL.out)
        have hr0 := h4.c0
        clear hk h4
        have e0 := HBE4.out.cellV 0 rfl
        have e1 := HBE4.out.cellV 1 rfl
        have e2 := HBE4.out.cellV 2 rfl
        have e3 := HBE4.out.cellV 3 rfl
        have e4 := HBE4.out.cellV 4 rfl
        cases r3 with
        | cons ch r3 =>
          have HR : Hid (rx = .bad 3) := Lib.hid (by rw [HRB.out]; rfl)
          have hs1 : ¬ (S (ch :: r3)).toList = [] := by rw [S_toList]; simp
          have hs2 : ((S (ch :: r3)).toList == []) = false := by rw [S_toList]; rfl
          have q0 := HBX.out.cellV 0 rfl
          have q1 := HBX.out.cellV 1 rfl
          have q2 := HBX.out.cellV 2 rfl
          have q3 := HBX.out.cellV 3 rfl
          have q4 := HBX.out.cellV 4 rfl
          have f0 := blk_frozen HBX.out 0
          have f1 := blk_frozen HBX.out 1
          have f2 := blk_frozen HBX.out 2
          have f3 := blk_frozen HBX.out 3
          have f4 := blk_frozen HBX.out 4
          go_wp2
          refine bodyPost_ret (v := .tuple #[.agg ez.toArray, .int .i64 3]) (by simp [results, Tryz.results20, go_sem, q0, q1, q2, q3, q4]) rfl ?_
          show DoPost b w _ _ _
          rw [HR.out]
          exact ⟨rfl, by decide, by decide, HKX.out.new (kp_set5 _ g0 _ _ _ _ _) (fun i e => by have := HG.out; omega)⟩
        | nil =>
          have HR : Hid (rx = .ok (.mk sp nm at_ tx ks)) := Lib.hid (by rw [HRB.out]; rfl)
          have hs1 : (S ([] : List UInt8)).toList = [] := S_toList _
          have hs2 : ((S ([] : List UInt8)).toList == []) = true := by rw [S_toList]; rfl
          have q0 := HBX.out.cellV 0 rfl
          have q1 := HBX.out.cellV 1 rfl
          have q2 := HBX.out.cellV 2 rfl
          have q3 := HBX.out.cellV 3 rfl
          have q4 := HBX.out.cellV 4 rfl
          have f0 := blk_frozen HBX.out 0
          have f1 := blk_frozen HBX.out 1
          have f2 := blk_frozen HBX.out 2
          have f3 := blk_frozen HBX.out 3
          have f4 := blk_frozen HBX.out 4
          go_wp2
          refine bodyPost_ret (v := .tuple #[.agg #[.string (S sp), .string (S nm), .slice a2 at_.length p2, .string (S tx), .slice a4 ks.length p4], .int .i64 0]) (by simp [results, Tryz.results20, go_sem, q0, q1, q2, q3, q4]) rfl ?_
          show DoPost b w _ _ _
          rw [HR.out]
          exact ⟨_, _, _, _, _, rfl, ElV.keep (kp_set5 _ g0 _ _ _ _ _) (fun i hi e => hi.2 e) (fun i hi => ⟨hi.1.1, Nat.lt_of_lt_of_le hi.1.2 (kp_set5 _ g0 _ _ _ _ _).size⟩) _ _ _ _ _ _ HEL4.out, HKX.out.new (kp_set5 _ g0 _ _ _ _ _) (fun i e => by have := HG.out; omega)⟩
end Go.Proofs.YtchmookggegmnaaGreatDoor
namespace Go.Proofs.YtchmookggegmnaaGreatDoor
open Go Go.RowKit
set_option maxRecDepth 20000 in
theorem allSigns_any (l : List UInt8) (w : World) (hl : l.length ≤ 16384) : Calls Tryz.prog 19 #[.string (S l)] w fun e w' => e = .returned (.bool (l.all signC)) ∧ w = w' := by
  obtain ⟨n, hn⟩ : ∃ n, n = l.length := ⟨_, rfl⟩
  have hsz : (S l).size = n := by rw [S_size, hn]
  have hni : (n : Int) ≤ 16384 := by omega
  have HNL := Lib.hid hn
  clear hl hn
  go_enter Tryz.func19, Tryz.ntmps19
  go_wp2
  go_loopg [6] n (fun gg i wr => ∃ (k : Nat), i = .int .i64 k ∧ k ≤ n ∧ gg = n - k ∧ (l.take k).all signC = true ∧ w = wr)
  case atStart => exact ⟨0, rfl, Nat.zero_le _, rfl, by simp, rfl⟩
  case round =>
    obtain ⟨k, rfl, hk, rfl, hall, rfl⟩ := hrel
    have HALL := Lib.hid hall
    clear hall
    by_cases hlt : k < n
    · have hlt' : k < l.length := by rw [← HNL.out]; exact hlt
      obtain ⟨s, hs⟩ : ∃ s, s = signC (l[k]) := ⟨_, rfl⟩
      have HSG := Lib.hid hs.symm
      clear hs
      have hki : (k : Int) < n := by omega
      cases s with
      | true =>
        go_wp2_with (go_at_call 25; refine (sign_any (l[k]).toNat _).mono ?_; rw [show signN (l[k]).toNat = true from HSG.out]; rintro e w' ⟨rfl, rfl⟩)
        go_roundg (n - (k + 1))
        case measure => omega
        case rel => exact ⟨k + 1, by go_num, by omega, rfl, by rw [List.take_succ_eq_append_getElem hlt', List.all_append, HALL.out]; simp [HSG.out], rfl⟩
      | false =>
        have HR : Hid (l.all signC = false) := Lib.hid (List.all_eq_false.2 ⟨l[k], List.getElem_mem hlt', by simp [HSG.out]⟩)
        go_wp2_with (go_at_call 25; refine (sign_any (l[k]).toNat _).mono ?_; rw [show signN (l[k]).toNat = false from HSG.out]; rintro e w' ⟨rfl, rfl⟩)
        all_goals go_ret
        all_goals exact ⟨by rw [HR.out]; rfl, rfl⟩
    · obtain rfl : k = n := by omega
      have HR : Hid (l.all signC = true) := Lib.hid (by have h := HALL.out; rw [HNL.out, List.take_length] at h; exact h)
      go_wp2
      all_goals go_ret
      all_goals exact ⟨by rw [HR.out]; rfl, rfl⟩
def PaPost (w : World) (e : Ending) (w' : World) : R PE → Prop
  | .no => False
  | .bad er => e = .returned (.tuple #[.agg ez.toArray, .int .i64 er]) ∧ er ≠ 0 ∧ er < 100 ∧ Kp0 w w'
  | .ok pe => ∃ c0 c1 c2 c3 c4, e = .returned (.tuple #[.agg #[c0, c1, c2, c3, c4], .int .i64 0]) ∧ ElV (fun i => w.heap.size ≤ i ∧ i < w'.heap.size) w' pe c0 c1 c2 c3 c4 ∧ Kp0 w w'
/-- Where a program's text can be read into memory. -/
structure Ml (w : World) : Prop where
  ml : ∃ m, w.cell? ⟨2, 0, none⟩ = some (.int .i64 m)
theorem Ml.keep {w w1 : World} {S : Nat → Prop} (h : Ml w) (hk : Kp S w w1) (hs : ¬ S 2) : Ml w1 := by
  obtain ⟨m, hm⟩ := h.ml
  exact ⟨⟨m, hk.cell hm hs⟩⟩
theorem Ml.kp0 {w w1 : World} (h : Ml w) (hk : Kp0 w w1) : Ml w1 := h.keep hk (fun h => h)
theorem Ml.lt {w : World} (h : Ml w) : 2 < w.heap.size := by
  obtain ⟨m, hm⟩ := h.ml
  exact World.block_lt_of_cell? w _ hm
set_option maxRecDepth 20000 in
set_option maxHeartbeats 4000000 in
theorem parse_any (l : List UInt8) (w : World) (hm : Ml w) (hn : parseX l ≠ .no) : Calls Tryz.prog 12 #[.string (S l)] w fun e w' => PaPost w e w' (parseX l) := by
  obtain ⟨n, hn0⟩ : ∃ n, n = l.length := ⟨_, rfl⟩
  have hsz : (S l).size = n := by rw [S_size, hn0]
  have HNL := Lib.hid hn0
  have HM := Lib.hid hm
  obtain ⟨rx, hrx⟩ : ∃ r, r = parseX l := ⟨_, rfl⟩
  have HRX : Hid (rx = if 16384 < l.length then .bad 2 else if l.all signC = false then .bad 3 else docX l) := Lib.hid hrx
  rw [← hrx] at hn ⊢
  have HN := Lib.hid hn
  obtain ⟨w0, hw0⟩ : ∃ x, x = w.alloc (.cells ez.toArray 25) := ⟨_, rfl⟩
  obtain ⟨g0, hg0⟩ : ∃ g, g = w.heap.size := ⟨_, rfl⟩
  have HG : Hid (g0 = w.heap.size ∧ w0.heap.size = w.heap.size + 1) := Lib.hid ⟨hg0, by rw [hw0]; simp⟩
  have HK0 : Hid (Kp0 w w0) := Lib.hid (by rw [hw0]; exact (Kp.refl _ _).alloc _)
  have HB0 : Hid (Blk w0 g0 25 ez) := Lib.hid (by rw [hw0, hg0]; exact blk0 w _ _)
  clear hn hrx hn0 hm
  by_cases hbig : 16384 < n
  · have HR : Hid (rx = .bad 2) := Lib.hid (by rw [HRX.out, if_pos (by rw [← HNL.out]; exact hbig)])
    have hbi : (16384 : Int) < n := by omega
    have HBX := HB0
    have HKX := HK0
    obtain ⟨er, her⟩ : ∃ e : Nat, e = 2 := ⟨2, rfl⟩
    have HE1 : Hid (er ≠ 0) := Lib.hid (by omega)
    have HE2 : Hid (er < 100) := Lib.hid (by omega)
    rw [← her] at HR
    have heri : (2 : Int) = er := by omega
    go_enter Tryz.func12, Tryz.ntmps12
    go_upto_region 1 with (fail)
    rw [← hw0, ← hg0]
    clear hw0 hg0
    have q0 := HBX.out.cellV 0 rfl
    have q1 := HBX.out.cellV 1 rfl
    have q2 := HBX.out.cellV 2 rfl
    have q3 := HBX.out.cellV 3 rfl
    have q4 := HBX.out.cellV 4 rfl
    have f0 := blk_frozen HBX.out 0
    have f1 := blk_frozen HBX.out 1
    have f2 := blk_frozen HBX.out 2
    have f3 := blk_frozen HBX.out 3
    have f4 := blk_frozen HBX.out 4
    go_wp2
    rw [heri]
    refine bodyPost_ret (v := .tuple #[.agg ez.toArray, .int .i64 er]) (by simp [results, Tryz.results12, go_sem, q0, q1, q2, q3, q4]) rfl ?_
    show PaPost w _ _ _
    rw [HR.out]
    exact ⟨rfl, HE1.out, HE2.out, HKX.out.new (kp_set5 _ g0 _ _ _ _ _) (fun i e => by have := HG.out; omega)⟩
  · have hbi : ¬ (16384 : Int) < n := by omega
    have HLE : Hid (l.length ≤ 16384) := Lib.hid (by rw [← HNL.out]; omega)
    have HR1 : Hid (rx = if l.all signC = false then .bad 3 else docX l) := Lib.hid (by rw [HRX.out, if_neg (by rw [← HNL.out]; exact hbig)])
    obtain ⟨sg, hsg⟩ : ∃ s, s = l.all signC := ⟨_, rfl⟩
    have HSG := Lib.hid hsg.symm
    clear hsg hbig
    cases sg with
    | false =>
      have HR : Hid (rx = .bad 3) := Lib.hid (by rw [HR1.out, if_pos HSG.out])
      have HBX := HB0
      have HKX := HK0
      obtain ⟨er, her⟩ : ∃ e : Nat, e = 3 := ⟨3, rfl⟩
      have HE1 : Hid (er ≠ 0) := Lib.hid (by omega)
      have HE2 : Hid (er < 100) := Lib.hid (by omega)
      rw [← her] at HR
      have heri : (3 : Int) = er := by omega
      go_enter Tryz.func12, Tryz.ntmps12
      go_upto_region 1 with (fail)
      rw [← hw0, ← hg0]
      clear hw0 hg0
      have q0 := HBX.out.cellV 0 rfl
      have q1 := HBX.out.cellV 1 rfl
      have q2 := HBX.out.cellV 2 rfl
      have q3 := HBX.out.cellV 3 rfl
      have q4 := HBX.out.cellV 4 rfl
      have f0 := blk_frozen HBX.out 0
      have f1 := blk_frozen HBX.out 1
      have f2 := blk_frozen HBX.out 2
      have f3 := blk_frozen HBX.out 3
      have f4 := blk_frozen HBX.out 4
      go_wp2_with (go_at_call 19; refine (allSigns_any l _ HLE.out).mono ?_; rw [HSG.out]; rintro e w' ⟨rfl, rfl⟩)
      rw [heri]
      refine bodyPost_ret (v := .tuple #[.agg ez.toArray, .int .i64 er]) (by simp [results, Tryz.results12, go_sem, q0, q1, q2, q3, q4]) rfl ?_
      show PaPost w _ _ _
      rw [HR.out]
      exact ⟨rfl, HE1.out, HE2.out, HKX.out.new (kp_set5 _ g0 _ _ _ _ _) (fun i e => by have := HG.out; omega)⟩
    | true =>
      have HRD : Hid (rx = docX l) := Lib.hid (by rw [HR1.out, if_neg (by rw [HSG.out]; simp)])
      have HDN : Hid (docX l ≠ .no) := Lib.hid (fun e => HN.out (by rw [HRD.out, e]))
      obtain ⟨b, hb⟩ : ∃ g, g = w0.heap.size := ⟨_, rfl⟩
      obtain ⟨w1, hw1⟩ : ∃ x, x = w0.alloc (.cells #[.string (S l), .slice none 0 0] 53) := ⟨_, rfl⟩
      have HB := Lib.hid hb
      have HK1 : Hid (Kp0 w0 w1) := Lib.hid (by rw [hw1]; exact (Kp.refl _ _).alloc _)
      have HM1 := Lib.hid ((HM.out.kp0 HK0.out).kp0 HK1.out)
      have HX : Hid (XrV w0.heap.size (fun _ => False) w1 b (.slice none 0 0) l []) := Lib.hid (by
        refine ⟨?_, World.ownsRow_nil _ _ _ _, by omega, fun h => h, (fun g hg => by cases hg), (fun i h => h.elim), HM1.out.ml, ?_⟩
        · rw [hw1, hb]
          exact blk0 w0 _ _
        · exact (HM.out.kp0 HK0.out).lt)
      have HB1 := Lib.hid (HB0.out.kp0 HK1.out)
      have HSZ : Hid (b < w1.heap.size) := Lib.hid HX.out.lt
      go_enter Tryz.func12, Tryz.ntmps12
      go_upto_region 1 with (fail)
      rw [← hw0, ← hg0]
      clear hw0 hg0
      go_upto_region 6 with (go_at_call 19; refine (allSigns_any l _ HLE.out).mono ?_; rw [HSG.out]; rintro e w' ⟨rfl, rfl⟩)
      rw [← hw1, ← hb]
      clear hw1 hb
      go_wp2_with fail
      refine (document_any _ _ b l _ HX.out HLE.out HDN.out).mono ?_
      obtain ⟨dx, hdx⟩ : ∃ x, x = docX l := ⟨_, rfl⟩
      have HDX := Lib.hid hdx.symm
      rw [← hdx]
      clear hdx
      have HRR : Hid (rx = dx) := Lib.hid (by rw [HRD.out, HDX.out])
      cases dx with
      | no => exact absurd HDX.out HDN.out
      | bad er =>
        have HR : Hid (rx = .bad er) := HRR
        rintro e2 w2 ⟨rfl, he1, he2, hk⟩
        have HE1 := Lib.hid he1
        have HE2 := Lib.hid he2
        have HBX := Lib.hid (HB1.out.keep hk (by have := HG.out; have := HB.out; omega))
        have HKX : Hid (Kp0 w w2) := Lib.hid (((HK0.out.tr HK1.out)).new hk (fun i e => by have := HG.out; have := HB.out; omega))
        clear hk he1 he2
        have q0 := HBX.out.cellV 0 rfl
        have q1 := HBX.out.cellV 1 rfl
        have q2 := HBX.out.cellV 2 rfl
        have q3 := HBX.out.cellV 3 rfl
        have q4 := HBX.out.cellV 4 rfl
        have f0 := blk_frozen HBX.out 0
        have f1 := blk_frozen HBX.out 1
        have f2 := blk_frozen HBX.out 2
        have f3 := blk_frozen HBX.out 3
        have f4 := blk_frozen HBX.out 4
        go_wp2
        refine bodyPost_ret (v := .tuple #[.agg ez.toArray, .int .i64 er]) (by simp [results, Tryz.results12, go_sem, q0, q1, q2, q3, q4]) rfl ?_
        show PaPost w _ _ _
        rw [HR.out]
        exact ⟨rfl, HE1.out, HE2.out, HKX.out.new (kp_set5 _ g0 _ _ _ _ _) (fun i e => by have := HG.out; omega)⟩
      | ok pe =>
        obtain ⟨sp, nm, at_, tx, ks⟩ := pe
        have HR : Hid (rx = .ok (.mk sp nm at_ tx ks)) := HRR
        rintro e2 w2 ⟨c0, c1, c2, c3, c4, rfl, hel, hk⟩
        have hel2 := hel
        unfold ElV at hel2
        obtain ⟨rfl, rfl, hel3, rfl, cs, hel4, -⟩ := hel2
        obtain ⟨a2, p2, rfl, -⟩ := hel3.sl
        obtain ⟨a4, p4, rfl, -⟩ := hel4.sl
        have HEL := Lib.hid hel
        have HBX := Lib.hid (HB1.out.keep hk (by have := HG.out; have := HB.out; omega))
        have HKX : Hid (Kp0 w w2) := Lib.hid (((HK0.out.tr HK1.out)).new hk (fun i e => by have := HG.out; have := HB.out; omega))
        clear hk hel hel3 hel4
        have q0 := HBX.out.cellV 0 rfl
        have q1 := HBX.out.cellV 1 rfl
        have q2 := HBX.out.cellV 2 rfl
        have q3 := HBX.out.cellV 3 rfl
        have q4 := HBX.out.cellV 4 rfl
        have f0 := blk_frozen HBX.out 0
        have f1 := blk_frozen HBX.out 1
        have f2 := blk_frozen HBX.out 2
        have f3 := blk_frozen HBX.out 3
        have f4 := blk_frozen HBX.out 4
        go_wp2
        refine bodyPost_ret (v := .tuple #[.agg #[.string (S sp), .string (S nm), .slice a2 at_.length p2, .string (S tx), .slice a4 ks.length p4], .int .i64 0]) (by simp [results, Tryz.results12, go_sem, q0, q1, q2, q3, q4]) rfl ?_
        show PaPost w _ _ _
        rw [HR.out]
        have h1 := HG.out
        have h2 := HK1.out.size
        exact ⟨_, _, _, _, _, rfl, ElV.keep (kp_set5 _ g0 _ _ _ _ _) (fun i hi e => by have := hi.1; omega) (fun i hi => ⟨by have := hi.1; omega, Nat.lt_of_lt_of_le hi.2 (kp_set5 _ g0 _ _ _ _ _).size⟩) _ _ _ _ _ _ HEL.out, HKX.out.new (kp_set5 _ g0 _ _ _ _ _) (fun i e => by omega)⟩
end Go.Proofs.YtchmookggegmnaaGreatDoor
namespace Go.Proofs.YtchmookggegmnaaGreatDoor
open Go Go.RowKit
theorem int_of_shape {P : Program} {w : World} {g : Nat} {t : TypeId} {k : IntKind} {zero : Array Value} (h : w.ShapedOpen P) (hg : g < P.globals.size)
    (h0 : ((begin P (fun _ _ => 0) default).world.heap[g]?).bind Obj.row? = some (zero, t)) (hz : zero.size = 1)
    (hb : P.buildable t = true) (hc : P.cellTypes P.depth t = some [t]) (hu : P.underlying t = some (.int k)) : ∃ m, w.cell? ⟨g, 0, none⟩ = some (.int k m) := by
  obtain ⟨cs, hh, hs, hr⟩ := h.1 g zero t hg h0
  obtain ⟨ts, hts, _, hall⟩ := hr hb
  rw [hc] at hts
  cases hts
  have h1 : 0 < cs.size := by omega
  obtain ⟨u, hu', hok⟩ := hall 0 cs[0] (by simp [h1])
  have : u = t := by simpa using hu'.symm
  subst this
  have hcell : w.cell? ⟨g, 0, none⟩ = some cs[0] := by simp [World.cell?, hh, h1]
  rw [hcell]
  unfold Cell.ok at hok
  rw [hu] at hok
  cases hv : cs[0] <;> rw [hv] at hok <;> first | (simp at hok; done) | skip
  obtain ⟨rfl, _⟩ : _ ∧ _ := by simpa using hok
  exact ⟨_, rfl⟩
theorem ml_of_shape {W : World} (hs : W.ShapedOpen Tryz.prog) : Ml W :=
  ⟨int_of_shape (P := Tryz.prog) (t := 3) (zero := #[.int .i64 0]) hs (of_decide_eq_true (by kernel_rfl)) (by kernel_rfl) rfl (by kernel_rfl) (by kernel_rfl) Tryz.underlying3⟩
end Go.Proofs.YtchmookggegmnaaGreatDoor
