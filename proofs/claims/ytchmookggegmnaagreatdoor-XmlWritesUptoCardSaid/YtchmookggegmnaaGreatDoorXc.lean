/- Package xml: an attribute read. Package xml: a tag read. Package xml: end tags, comments, what stands between. Package xml: comments, what stands between. Package xml: what attributes say of prefixes. Package xml: a prefix's namespace. -/
import Derived.Test.YtchmookggegmnaaGreatDoorXb
namespace Go.Proofs.YtchmookggegmnaaGreatDoor
open Go Go.RowKit
theorem infoAtt : (Tryz.prog.info? 104).map (fun i => (i.zero, i.size, i.bytes)) = some (some (.agg #[.string { data := #[] }, .string { data := #[] }, .string { data := #[] }]), 3, 48) := by kernel_rfl
/-- What may change where an attribute is read. -/
abbrev SA (b tb : Nat) (va : Value) : Nat → Prop := fun g => g = b ∨ g = tb ∨ va.ownBlock = some g
/-- A reader and a tag side by side. -/
structure RT (B : Nat) (Z : Nat → Prop) (w : World) (b tb : Nat) (vs va : Value) (s : List UInt8) (said : Say) (n : Wn) (l : List Att) (e : Bool) : Prop where
  x : XrV B Z w b vs s said
  t : TgV B w tb va n l e
  n1 : tb ≠ b
  n2 : ∀ g, vs.ownBlock = some g → g ≠ tb
  n3 : ∀ g, va.ownBlock = some g → g ≠ b
  n4 : ∀ g, vs.ownBlock = some g → va.ownBlock ≠ some g
  gt : B ≤ tb
section
variable {B : Nat} {Z : Nat → Prop} {w w1 : World} {b tb : Nat} {vs va : Value} {s s1 : List UInt8} {said : Say} {n : Wn} {l : List Att} {e : Bool}
theorem RT.kp0 (h : RT B Z w b tb vs va s said n l e) (hk : Kp0 w w1) : RT B Z w1 b tb vs va s said n l e := ⟨h.x.kp0 hk, h.t.kp0 hk, h.n1, h.n2, h.n3, h.n4, h.gt⟩
/-- The reader read on. -/
theorem RT.read (h : RT B Z w b tb vs va s said n l e) (hx : XrV B Z w1 b vs s1 said) (hk : Kp (fun g => g = b) w w1) : RT B Z w1 b tb vs va s1 said n l e :=
  ⟨hx, h.t.keep hk h.n1 (fun g hg => h.n3 g hg), h.n1, h.n2, h.n3, h.n4, h.gt⟩
end
theorem TgV.put {B : Nat} {w w1 : World} {b : Nat} {va v1 : Value} {n : Wn} {l l1 : List Att} {e : Bool} (h : TgV B w b va n l e) (_hB : B ≤ b) (hk : Kp (fun g => va.ownBlock = some g) w w1) {k : Nat} (ho : w1.ownsRow B 104 3 v1 k (ats l1)) (hb : ∀ g, v1.ownBlock = some g → va.ownBlock = some g ∨ w.heap.size ≤ g) :
    TgV B (w1.setCell ⟨b, 2, none⟩ v1) b v1 n l1 e ∧ Kp (fun g => g = b ∨ va.ownBlock = some g) w (w1.setCell ⟨b, 2, none⟩ v1) := by
  have hs : Kp (fun g => g = b) w1 (w1.setCell ⟨b, 2, none⟩ v1) := (Kp.refl (fun g => g = b) w1).setCell (p := ⟨b, 2, none⟩) (fun _ => rfl) _
  have hlt := h.lt
  have hne : ∀ g, v1.ownBlock = some g → g ≠ b := fun g hg => by
    rcases hb g hg with h1 | h1
    · exact h.ne g h1
    · omega
  have hk1 : k = l1.length := by
    have := ho.1
    rw [ats_len] at this
    omega
  subst hk1
  exact ⟨⟨(h.blk.keep hk (fun e => h.ne b e rfl)).set' 2 v1, own_keep ho hs (fun g hg => hne g hg), hne⟩, hk.trans hs (fun _ _ h => .inr h) (fun _ _ h => .inl h)⟩
def attEnd (l : List Att) (m : Wn) (x : R (List UInt8 × List UInt8)) : R (List Att × List UInt8) := x.bind fun x => .ok (l ++ [(m, x.1)], x.2)
def AtPost (B : Nat) (Z : Nat → Prop) (b tb : Nat) (said : Say) (vs va : Value) (n : Wn) (w : World) (e : Ending) (w' : World) : R (List Att × List UInt8) → Prop
  | .no => False
  | .bad _ => e = .returned (.bool false) ∧ Kp (SA b tb va) w w'
  | .ok (l, s) => e = .returned (.bool true) ∧ (∃ va', RT B Z w' b tb vs va' s said n l false ∧ ∀ g, va'.ownBlock = some g → va.ownBlock = some g ∨ w.heap.size ≤ g) ∧ Kp (SA b tb va) w w'
theorem dropB_len {s : List UInt8} {k : Nat} (h : s.length ≤ k) : (dropB s).length ≤ k := Nat.le_trans (dropB_le s) h
theorem drop_len {s : List UInt8} {j k : Nat} (h : s.length ≤ k) : (s.drop j).length ≤ k := by rw [List.length_drop]; omega
set_option maxRecDepth 20000 in
set_option maxHeartbeats 2000000 in
theorem attribute_any (B : Nat) (Z : Nat → Prop) (b tb : Nat) (s : List UInt8) (said : Say) (vs va : Value) (n : Wn) (l : List Att) (w : World) (h : RT B Z w b tb vs va s said n l false) (hl : s.length ≤ 16384) (hll : l.length ≤ 32) (hn : attrX l s ≠ .no) :
    Calls Tryz.prog 54 #[.pointer (some ⟨b, 0, none⟩), .pointer (some ⟨tb, 0, none⟩)] w fun e w' => AtPost B Z b tb said vs va n w e w' (attrX l s) := by
  have H := Lib.hid h
  have HL := Lib.hid hl
  have HLL := Lib.hid hll
  clear h hl hll
  obtain ⟨⟨⟨⟨m1, m2⟩, ok⟩, s1⟩, hw⟩ : ∃ r, r = writtenX s := ⟨_, rfl⟩
  have HW : Hid (writtenX s = (((m1, m2), ok), s1)) := Lib.hid hw.symm
  have HS1 : Hid (s1.length ≤ 16384) := Lib.hid (by have h1 := writtenX_le s; rw [← hw] at h1; have := HL.out; simp only [] at h1; omega)
  cases ok with
  | false =>
    have HR : Hid (attrX l s = .bad 3) := Lib.hid (by unfold attrX; rw [← hw, if_pos (.inl rfl)])
    clear hw hn
    rw [HR.out]
    go_enter Tryz.func54, Tryz.ntmps54
    go_wp2_with fail
    refine (written_any B Z b s said vs _ H.out.x HL.out).mono ?_
    rw [HW.out]
    rintro e1 w1 ⟨rfl, h1, hk⟩
    simp only [] at h1
    have H1 := Lib.hid (H.out.read h1 hk)
    have HK1 := Lib.hid (hk.mono (fun _ _ (h : _ = b) => show SA b tb va _ from .inl h))
    clear h1 hk
    go_wp2
    all_goals go_ret
    all_goals exact ⟨rfl, HK1.out.alloc _⟩
  | true =>
    obtain ⟨ht, hht⟩ : ∃ f, f = hasX l (m1, m2) := ⟨_, rfl⟩
    have HH : Hid (hasX l (m1, m2) = ht) := Lib.hid hht.symm
    cases ht with
    | true =>
      have HR : Hid (attrX l s = .bad 3) := Lib.hid (by unfold attrX; rw [← hw, if_pos (.inr (.inl hht.symm))])
      clear hw hn hht
      rw [HR.out]
      go_enter Tryz.func54, Tryz.ntmps54
      go_wp2_with fail
      refine (written_any B Z b s said vs _ H.out.x HL.out).mono ?_
      rw [HW.out]
      rintro e1 w1 ⟨rfl, h1, hk⟩
      simp only [] at h1
      have H1 := Lib.hid (H.out.read h1 hk)
      have HK1 := Lib.hid (hk.mono (fun _ _ (h : _ = b) => show SA b tb va _ from .inl h))
      clear h1 hk
      have HK2 : Hid (Kp0 w1 (w1.alloc (.cells #[.string (S m1), .string (S m2)] 76))) := Lib.hid ((Kp.refl _ _).alloc _)
      have HB2 : Hid (Blk (w1.alloc (.cells #[.string (S m1), .string (S m2)] 76)) w1.heap.size 76 [.string (S m1), .string (S m2)]) := Lib.hid (blk0 w1 _ _)
      obtain ⟨ao, cap, hva, hcp1, hcp2⟩ := ownK_sl H.out.t.ow
      have HVA := Lib.hid hva
      obtain ⟨nb, hnb⟩ : ∃ nb, nb = w1.heap.size := ⟨_, rfl⟩
      have HNB : Hid (nb = w1.heap.size) := Lib.hid hnb
      go_wp2_with fail
      rw [← hnb]
      rw [← hnb] at HB2
      generalize (w1.alloc (.cells #[.string (S m1), .string (S m2)] 76)) = w2 at HK2 HB2 ⊢
      clear hnb
      go_at_call 69
      refine (has_any B tb va n (m1, m2) l false _ (H1.out.kp0 HK2.out).t (by have := HLL.out; omega)).mono ?_
      rw [HH.out]
      rintro e3 w3 ⟨rfl, hk⟩
      have HK3 := Lib.hid hk
      have H3 := Lib.hid ((H1.out.kp0 HK2.out).kp0 hk)
      have HB3 := Lib.hid (HB2.out.kp0 hk)
      have hct3 := H3.out.t.c2
      rw [hva] at hct3
      clear hk hva hcp1 hcp2
      go_wp2_with fail
      all_goals go_ret
      all_goals exact ⟨rfl, (HK1.out.tr (HK2.out.nil _)).tr (HK3.out.nil _)⟩
    | false =>
      by_cases h32 : l.length = 32
      · have HR : Hid (attrX l s = .bad 3) := Lib.hid (by unfold attrX; rw [← hw, if_pos (.inr (.inr h32))])
        have h32i : ((l.length : Int) == 32) = true := by rw [h32]; rfl
        clear hw hn hht
        rw [HR.out]
        go_enter Tryz.func54, Tryz.ntmps54
        go_wp2_with fail
        refine (written_any B Z b s said vs _ H.out.x HL.out).mono ?_
        rw [HW.out]
        rintro e1 w1 ⟨rfl, h1, hk⟩
        simp only [] at h1
        have H1 := Lib.hid (H.out.read h1 hk)
        have HK1 := Lib.hid (hk.mono (fun _ _ (h : _ = b) => show SA b tb va _ from .inl h))
        clear h1 hk
        have HK2 : Hid (Kp0 w1 (w1.alloc (.cells #[.string (S m1), .string (S m2)] 76))) := Lib.hid ((Kp.refl _ _).alloc _)
        have HB2 : Hid (Blk (w1.alloc (.cells #[.string (S m1), .string (S m2)] 76)) w1.heap.size 76 [.string (S m1), .string (S m2)]) := Lib.hid (blk0 w1 _ _)
        obtain ⟨ao, cap, hva, hcp1, hcp2⟩ := ownK_sl H.out.t.ow
        have HVA := Lib.hid hva
        obtain ⟨nb, hnb⟩ : ∃ nb, nb = w1.heap.size := ⟨_, rfl⟩
        have HNB : Hid (nb = w1.heap.size) := Lib.hid hnb
        go_wp2_with fail
        rw [← hnb]
        rw [← hnb] at HB2
        generalize (w1.alloc (.cells #[.string (S m1), .string (S m2)] 76)) = w2 at HK2 HB2 ⊢
        clear hnb
        go_at_call 69
        refine (has_any B tb va n (m1, m2) l false _ (H1.out.kp0 HK2.out).t (by have := HLL.out; omega)).mono ?_
        rw [HH.out]
        rintro e3 w3 ⟨rfl, hk⟩
        have HK3 := Lib.hid hk
        have H3 := Lib.hid ((H1.out.kp0 HK2.out).kp0 hk)
        have HB3 := Lib.hid (HB2.out.kp0 hk)
        have hct3 := H3.out.t.c2
        rw [hva] at hct3
        clear hk hva hcp1 hcp2
        go_wp2_with fail
        all_goals go_ret
        all_goals exact ⟨rfl, (HK1.out.tr (HK2.out.nil _)).tr (HK3.out.nil _)⟩
      · have h32i : ((l.length : Int) == 32) = false := by rw [beq_eq_false_iff_ne]; omega
        have hat : attrX l s = if Lib.hasPrefix (dropB s1) [61] = false then .bad 3
            else attEnd l (m1, m2) (valueX (dropB ((dropB s1).drop 1))) := by
          unfold attrX
          rw [← hw, if_neg (by simp only []; rw [← hht]; simp [h32])]
          rfl
        have H32 : Hid (l.length < 32) := Lib.hid (by have := HLL.out; omega)
        have HD1 : Hid ((dropB s1).length ≤ 16384) := Lib.hid (dropB_len HS1.out)
        obtain ⟨eq, heq⟩ : ∃ f, f = Lib.hasPrefix (dropB s1) [61] := ⟨_, rfl⟩
        have HEQ : Hid (Lib.hasPrefix (dropB s1) [61] = eq) := Lib.hid heq.symm
        cases eq with
        | false =>
          have HR : Hid (attrX l s = .bad 3) := Lib.hid (by rw [hat, ← heq, if_pos rfl])
          clear hw hn hht hat heq h32
          rw [HR.out]
          go_enter Tryz.func54, Tryz.ntmps54
          go_wp2_with fail
          refine (written_any B Z b s said vs _ H.out.x HL.out).mono ?_
          rw [HW.out]
          rintro e1 w1 ⟨rfl, h1, hk⟩
          simp only [] at h1
          have H1 := Lib.hid (H.out.read h1 hk)
          have HK1 := Lib.hid (hk.mono (fun _ _ (h : _ = b) => show SA b tb va _ from .inl h))
          clear h1 hk
          have HK2 : Hid (Kp0 w1 (w1.alloc (.cells #[.string (S m1), .string (S m2)] 76))) := Lib.hid ((Kp.refl _ _).alloc _)
          have HB2 : Hid (Blk (w1.alloc (.cells #[.string (S m1), .string (S m2)] 76)) w1.heap.size 76 [.string (S m1), .string (S m2)]) := Lib.hid (blk0 w1 _ _)
          obtain ⟨ao, cap, hva, hcp1, hcp2⟩ := ownK_sl H.out.t.ow
          have HVA := Lib.hid hva
          obtain ⟨nb, hnb⟩ : ∃ nb, nb = w1.heap.size := ⟨_, rfl⟩
          have HNB : Hid (nb = w1.heap.size) := Lib.hid hnb
          go_wp2_with fail
          rw [← hnb]
          rw [← hnb] at HB2
          generalize (w1.alloc (.cells #[.string (S m1), .string (S m2)] 76)) = w2 at HK2 HB2 ⊢
          clear hnb
          go_at_call 69
          refine (has_any B tb va n (m1, m2) l false _ (H1.out.kp0 HK2.out).t (by have := HLL.out; omega)).mono ?_
          rw [HH.out]
          rintro e3 w3 ⟨rfl, hk⟩
          have HK3 := Lib.hid hk
          have H3 := Lib.hid ((H1.out.kp0 HK2.out).kp0 hk)
          have HB3 := Lib.hid (HB2.out.kp0 hk)
          have hct3 := H3.out.t.c2
          rw [hva] at hct3
          clear hk hva hcp1 hcp2
          go_wp2_with fail
          refine (blanks_any B Z b s1 said vs _ H3.out.x HS1.out).mono ?_
          rintro e4 w4 ⟨rfl, h4, hk⟩
          have H4 := Lib.hid (H3.out.read h4 hk)
          have HK4 : Hid (Kp (SA b tb va) w w4) := Lib.hid (((HK1.out.tr (HK2.out.nil _)).tr (HK3.out.nil _)).tr (hk.mono (fun _ _ (h : _ = b) => show SA b tb va _ from .inl h)))
          have hnbb : ¬ nb = b := by have h5 := H1.out.x.lt; have := HNB.out; omega
          have HB4 := Lib.hid (HB3.out.keep hk hnbb)
          have HNBB := Lib.hid hnbb
          have HNV : Hid (¬ va.ownBlock = some nb) := Lib.hid (fun e => by have h5 := (H1.out.t.ow.lt nb e).2; have := HNB.out; omega)
          clear h4 hk hct3 hnbb
          go_wp2_with fail
          refine (take_any B Z b _ said vs _ [61] _ (lit1 [61]) H4.out.x).mono ?_
          rw [HEQ.out]
          rintro e5 w5 ⟨rfl, h5, hk⟩
          have H5 := Lib.hid (H4.out.read h5 hk)
          have HK5 : Hid (Kp (SA b tb va) w w5) := Lib.hid (HK4.out.tr (hk.mono (fun _ _ (h : _ = b) => show SA b tb va _ from .inl h)))
          have HB5 := Lib.hid (HB4.out.keep hk HNBB.out)
          clear h5 hk
          go_wp2_with fail
          all_goals go_ret
          all_goals exact ⟨rfl, HK5.out⟩
        | true =>
          have HTE : Hid (Lib.trimPrefix (dropB s1) [61] = (dropB s1).drop 1) := Lib.hid (trimP_yes heq.symm)
          have HD2 : Hid (((dropB s1).drop 1).length ≤ 16384) := Lib.hid (drop_len HD1.out)
          have HD3 : Hid ((dropB ((dropB s1).drop 1)).length ≤ 16384) := Lib.hid (dropB_len HD2.out)
          obtain ⟨vx, hvx⟩ : ∃ v, v = valueX (dropB ((dropB s1).drop 1)) := ⟨_, rfl⟩
          have hat2 : attrX l s = attEnd l (m1, m2) vx := by rw [hat, ← heq, if_neg (by simp), hvx]
          have HVN : Hid (valueX (dropB ((dropB s1).drop 1)) ≠ .no) := Lib.hid (by
            rw [← hvx]
            intro e
            rw [e] at hat2
            exact hn hat2)
          have HVX : Hid (valueX (dropB ((dropB s1).drop 1)) = vx) := Lib.hid hvx.symm
          cases vx with
          | no => exact absurd HVX.out HVN.out
          | bad ev =>
            have HR : Hid (attrX l s = .bad ev) := Lib.hid hat2
            clear hw hn hht hat heq h32 hat2 hvx
            rw [HR.out]
            go_enter Tryz.func54, Tryz.ntmps54
            go_wp2_with fail
            refine (written_any B Z b s said vs _ H.out.x HL.out).mono ?_
            rw [HW.out]
            rintro e1 w1 ⟨rfl, h1, hk⟩
            simp only [] at h1
            have H1 := Lib.hid (H.out.read h1 hk)
            have HK1 := Lib.hid (hk.mono (fun _ _ (h : _ = b) => show SA b tb va _ from .inl h))
            clear h1 hk
            have HK2 : Hid (Kp0 w1 (w1.alloc (.cells #[.string (S m1), .string (S m2)] 76))) := Lib.hid ((Kp.refl _ _).alloc _)
            have HB2 : Hid (Blk (w1.alloc (.cells #[.string (S m1), .string (S m2)] 76)) w1.heap.size 76 [.string (S m1), .string (S m2)]) := Lib.hid (blk0 w1 _ _)
            obtain ⟨ao, cap, hva, hcp1, hcp2⟩ := ownK_sl H.out.t.ow
            have HVA := Lib.hid hva
            obtain ⟨nb, hnb⟩ : ∃ nb, nb = w1.heap.size := ⟨_, rfl⟩
            have HNB : Hid (nb = w1.heap.size) := Lib.hid hnb
            go_wp2_with fail
            rw [← hnb]
            rw [← hnb] at HB2
            generalize (w1.alloc (.cells #[.string (S m1), .string (S m2)] 76)) = w2 at HK2 HB2 ⊢
            clear hnb
            go_at_call 69
            refine (has_any B tb va n (m1, m2) l false _ (H1.out.kp0 HK2.out).t (by have := HLL.out; omega)).mono ?_
            rw [HH.out]
            rintro e3 w3 ⟨rfl, hk⟩
            have HK3 := Lib.hid hk
            have H3 := Lib.hid ((H1.out.kp0 HK2.out).kp0 hk)
            have HB3 := Lib.hid (HB2.out.kp0 hk)
            have hct3 := H3.out.t.c2
            rw [hva] at hct3
            clear hk hva hcp1 hcp2
            go_wp2_with fail
            refine (blanks_any B Z b s1 said vs _ H3.out.x HS1.out).mono ?_
            rintro e4 w4 ⟨rfl, h4, hk⟩
            have H4 := Lib.hid (H3.out.read h4 hk)
            have HK4 : Hid (Kp (SA b tb va) w w4) := Lib.hid (((HK1.out.tr (HK2.out.nil _)).tr (HK3.out.nil _)).tr (hk.mono (fun _ _ (h : _ = b) => show SA b tb va _ from .inl h)))
            have hnbb : ¬ nb = b := by have h5 := H1.out.x.lt; have := HNB.out; omega
            have HB4 := Lib.hid (HB3.out.keep hk hnbb)
            have HNBB := Lib.hid hnbb
            have HNV : Hid (¬ va.ownBlock = some nb) := Lib.hid (fun e => by have h5 := (H1.out.t.ow.lt nb e).2; have := HNB.out; omega)
            clear h4 hk hct3 hnbb
            go_wp2_with fail
            refine (take_any B Z b _ said vs _ [61] _ (lit1 [61]) H4.out.x).mono ?_
            rw [HEQ.out]
            rintro e5 w5 ⟨rfl, h5, hk⟩
            have H5 := Lib.hid (H4.out.read h5 hk)
            have HK5 : Hid (Kp (SA b tb va) w w5) := Lib.hid (HK4.out.tr (hk.mono (fun _ _ (h : _ = b) => show SA b tb va _ from .inl h)))
            have HB5 := Lib.hid (HB4.out.keep hk HNBB.out)
            clear h5 hk
            go_wp2_with fail
            rw [HTE.out] at H5
            refine (blanks_any B Z b _ said vs _ H5.out.x HD2.out).mono ?_
            rintro e6 w6 ⟨rfl, h6, hk⟩
            have H6 := Lib.hid (H5.out.read h6 hk)
            have HK6 : Hid (Kp (SA b tb va) w w6) := Lib.hid (HK5.out.tr (hk.mono (fun _ _ (h : _ = b) => show SA b tb va _ from .inl h)))
            have HB6 := Lib.hid (HB5.out.keep hk HNBB.out)
            clear h6 hk
            go_wp2_with fail
            refine (value_any B Z b _ said vs _ H6.out.x HD3.out HVN.out).mono ?_
            rw [HVX.out]
            rintro e7 w7 ⟨⟨t7, rfl⟩, hk⟩
            obtain ⟨v, rfl⟩ : ∃ v, t7 = S v := ⟨t7.toList, (S_of t7).symm⟩
            have HT7 := Lib.hid (H6.out.t.keep hk H6.out.n1 (fun g hg => H6.out.n3 g hg))
            have HK7 : Hid (Kp (SA b tb va) w w7) := Lib.hid (HK6.out.tr (hk.mono (fun _ _ (h : _ = b) => show SA b tb va _ from .inl h)))
            have HB7 := Lib.hid (HB6.out.keep hk HNBB.out)
            clear hk
            go_upto_region 9 with (fail)
            refine wp_region_px 12 [12] (fun w' : World => Kp (fun g => va.ownBlock = some g) w7.drew w') (.quiet 0 (.quiet 1 (.quiet 2 (.quiet 3 (.quiet 4 (.quiet 5 (.quiet 6 (.quiet 7 (.eff 8 (.eff 9 (.quiet 10 (.quiet 11 (.wall 12 .done))))))))))))) (by kernel_rfl) (by kernel_rfl) (by kernel_rfl) (by kernel_rfl) (fun _ d _ _ _ h => by cases d <;> exact h) (Kp.refl _ _) ?_
            have HT8 := Lib.hid (HT7.out.kp0 (Kp.refl _ _).drew)
            have HB8 := Lib.hid (HB7.out.kp0 (Kp.refl _ _).drew)
            have HK8 := Lib.hid (HK7.out.drew)
            have HD8 : Hid (Kp0 w7 w7.drew) := Lib.hid (Kp.refl _ _).drew
            generalize w7.drew = w8 at HT8 HB8 HK8 HD8 ⊢
            iterate 8 (refine px_quiet (v := ?_) rfl (by rfl) (fun wq hwq => ?_) rfl ?_; rotate_left 1; (focus (have q2 := (HT8.out.blk.keep hwq (fun e => HT8.out.ne tb e rfl)).cellV 2 rfl; rw [HVA.out] at q2; have b0 := (HB8.out.keep hwq HNV.out).cellV 0 rfl; have b1 := (HB8.out.keep hwq HNV.out).cellV 1 rfl; go_simp; try (with_reducible rfl); done)); try simp only [List.setIfInBounds_toArray, List.set_cons_zero, List.set_cons_succ])
            refine px_eff rfl (by rfl) (fun K hK => ?_)
            go_simp
            have hkA : Kp0 w8 (w8.alloc (.cells #[.string (S m1), .string (S m2), .string (S v)] 104)) := (Kp.refl _ _).alloc _
            have HCE : Hid (∀ j u, (ats [((m1, m2), v)])[j]? = some u → (w8.alloc (.cells #[.string (S m1), .string (S m2), .string (S v)] 104)).cell? ((⟨w8.heap.size, 0, none⟩ : Addr).add j) = some u) := Lib.hid (fun j u hj => by
              rw [Addr.add_lit, Nat.zero_add]
              have hj3 : j < 3 := by
                have := (List.getElem?_eq_some_iff.1 hj).1
                simpa [ats] using this
              have hB := blk0 w8 104 [.string (S m1), .string (S m2), .string (S v)]
              rw [blk_cell hB j]
              simpa [ats] using hj)
            have HT9 := Lib.hid (HT8.out.kp0 hkA)
            have HKA := Lib.hid hkA
            have HSZ : Hid (w8.heap.size ≤ (w8.alloc (.cells #[.string (S m1), .string (S m2), .string (S v)] 104)).heap.size) := Lib.hid hkA.size
            generalize w8.alloc (.cells #[.string (S m1), .string (S m2), .string (S v)] 104) = w9 at HT9 HKA HSZ HCE hkA ⊢
            refine hK (fun w' => Kp (fun g => va.ownBlock = some g) w9 w') _ _ (fun x hx => (hkA.nil _).tr hx) (Kp.refl _ _) ?_
            clear hK K hkA
            refine px_eff rfl (by rfl) (fun K hK => ?_)
            have hown9 := HT9.out.ow
            rw [HVA.out] at hown9
            refine wp_append_k (.tmp 44) (.tmp 48) 77 rfl Tryz.underlying77 infoAtt rfl (by decide) rfl hown9 ⟨w8.heap.size, 0, none⟩ 1 1 (ats [((m1, m2), v)]) rfl rfl HCE.out (by intro u hu; simp [ats] at hu; rcases hu with rfl | rfl | rfl <;> rfl) (by have := HLL.out; unfold maxLen; omega) (by have := HLL.out; omega) (by have h1 := HT9.out.lt; have h2 := H.out.gt; omega) ?_
            intro va2 wA hoA hkA hbA hnA
            obtain ⟨aoA, capA, hvaA, hcA1, hcA2⟩ := ownK_sl hoA
            subst hvaA
            rw [← HVA.out] at hkA hbA
            rw [← ats_app] at hoA
            have HTA := Lib.hid (HT9.out.put H.out.gt hkA hoA hbA)
            have hfA : wA.frozen? ⟨tb, 2, none⟩ = false := blk_frozen (HT9.out.blk.keep hkA (fun e => HT9.out.ne tb e rfl)) 2
            have hcA : wA.cell? ⟨tb, 2, none⟩ = some va := (HT9.out.blk.keep hkA (fun e => HT9.out.ne tb e rfl)).cellV 2 rfl
            have HBA := Lib.hid hbA
            refine hK (fun w' => Kp (fun g => va.ownBlock = some g) w9 w') _ _ (fun _ h => h) hkA ?_
            clear hK K hown9 hoA hkA hbA hnA hcA1 hcA2
            simp only [Act.put, List.getElem_toArray, List.getElem_cons_succ, List.getElem_cons_zero]
            try simp only [List.setIfInBounds_toArray, List.set_cons_zero, List.set_cons_succ]
            iterate 2 (refine px_quiet (v := ?_) rfl (by rfl) (fun wq hwq => ?_) rfl ?_; rotate_left 1; (focus (clear hwq; go_simp; try (with_reducible rfl); done)); try simp only [List.setIfInBounds_toArray, List.set_cons_zero, List.set_cons_succ])
            refine px_wall rfl (by rfl) (fun K hK => ?_)
            go_simp
            refine hK (fun _ => True) _ _ trivial (px_done ?_)
            clear hK K
            have HKP : Hid (Kp (SA b tb va) w (wA.setCell ⟨tb, 2, none⟩ (.slice aoA (l.length + 1) capA))) := Lib.hid ((HK8.out.tr (HKA.out.nil _)).tr (HTA.out.2.mono (fun i _ h => .inr h)))
            have HVP : Hid (∀ g, (Value.slice aoA (l.length + 1) capA).ownBlock = some g → va.ownBlock = some g ∨ w.heap.size ≤ g) := Lib.hid (fun g hg => (HBA.out g hg).elim .inl (fun h => .inr (Nat.le_trans (Nat.le_trans HK8.out.size HKA.out.size) h)))
            have HTP : Hid (∀ s8, XrV B Z w7 b vs s8 said → RT B Z (wA.setCell ⟨tb, 2, none⟩ (.slice aoA (l.length + 1) capA)) b tb vs (.slice aoA (l.length + 1) capA) s8 said n (l ++ [((m1, m2), v)]) false) := Lib.hid (fun s8 h8 => by
              have hks : Kp (fun g => g = tb ∨ va.ownBlock = some g) w7 (wA.setCell ⟨tb, 2, none⟩ (.slice aoA (l.length + 1) capA)) := ((HD8.out.nil _).tr (HKA.out.nil _)).tr HTA.out.2
              have hsz : w7.heap.size ≤ w9.heap.size := Nat.le_trans HD8.out.size HKA.out.size
              have hbl : b < w7.heap.size := h8.lt
              have hml := h8.gb
              have hgt := H.out.gt
              refine ⟨h8.keep hks ?_ ?_ ?_, HTA.out.1, H6.out.n1, H6.out.n2, ?_, ?_, hgt⟩
              · rintro (e | e)
                · exact H6.out.n1 e.symm
                · exact H6.out.n3 b e rfl
              · rintro g hg (e | e)
                · exact H6.out.n2 g hg e
                · exact H6.out.n4 g hg e
              · rintro (e | e)
                · omega
                · have := (HT8.out.ow.lt _ e).1
                  omega
              · intro g hg
                rcases HBA.out g hg with h | h
                · exact H6.out.n3 g h
                · omega
              · intro g hg e
                rcases HBA.out g e with h | h
                · exact H6.out.n4 g hg h
                · have := (h8.ow.lt g hg).2
                  omega)
            go_wp2
            all_goals go_ret
            all_goals exact ⟨rfl, HKP.out⟩
          | ok vr =>
            obtain ⟨v, s8⟩ := vr
            have HR : Hid (attrX l s = .ok (l ++ [((m1, m2), v)], s8)) := Lib.hid hat2
            clear hw hn hht hat heq h32 hat2 hvx
            rw [HR.out]
            go_enter Tryz.func54, Tryz.ntmps54
            go_wp2_with fail
            refine (written_any B Z b s said vs _ H.out.x HL.out).mono ?_
            rw [HW.out]
            rintro e1 w1 ⟨rfl, h1, hk⟩
            simp only [] at h1
            have H1 := Lib.hid (H.out.read h1 hk)
            have HK1 := Lib.hid (hk.mono (fun _ _ (h : _ = b) => show SA b tb va _ from .inl h))
            clear h1 hk
            have HK2 : Hid (Kp0 w1 (w1.alloc (.cells #[.string (S m1), .string (S m2)] 76))) := Lib.hid ((Kp.refl _ _).alloc _)
            have HB2 : Hid (Blk (w1.alloc (.cells #[.string (S m1), .string (S m2)] 76)) w1.heap.size 76 [.string (S m1), .string (S m2)]) := Lib.hid (blk0 w1 _ _)
            obtain ⟨ao, cap, hva, hcp1, hcp2⟩ := ownK_sl H.out.t.ow
            have HVA := Lib.hid hva
            obtain ⟨nb, hnb⟩ : ∃ nb, nb = w1.heap.size := ⟨_, rfl⟩
            have HNB : Hid (nb = w1.heap.size) := Lib.hid hnb
            go_wp2_with fail
            rw [← hnb]
            rw [← hnb] at HB2
            generalize (w1.alloc (.cells #[.string (S m1), .string (S m2)] 76)) = w2 at HK2 HB2 ⊢
            clear hnb
            go_at_call 69
            refine (has_any B tb va n (m1, m2) l false _ (H1.out.kp0 HK2.out).t (by have := HLL.out; omega)).mono ?_
            rw [HH.out]
            rintro e3 w3 ⟨rfl, hk⟩
            have HK3 := Lib.hid hk
            have H3 := Lib.hid ((H1.out.kp0 HK2.out).kp0 hk)
            have HB3 := Lib.hid (HB2.out.kp0 hk)
            have hct3 := H3.out.t.c2
            rw [hva] at hct3
            clear hk hva hcp1 hcp2
            go_wp2_with fail
            refine (blanks_any B Z b s1 said vs _ H3.out.x HS1.out).mono ?_
            rintro e4 w4 ⟨rfl, h4, hk⟩
            have H4 := Lib.hid (H3.out.read h4 hk)
            have HK4 : Hid (Kp (SA b tb va) w w4) := Lib.hid (((HK1.out.tr (HK2.out.nil _)).tr (HK3.out.nil _)).tr (hk.mono (fun _ _ (h : _ = b) => show SA b tb va _ from .inl h)))
            have hnbb : ¬ nb = b := by have h5 := H1.out.x.lt; have := HNB.out; omega
            have HB4 := Lib.hid (HB3.out.keep hk hnbb)
            have HNBB := Lib.hid hnbb
            have HNV : Hid (¬ va.ownBlock = some nb) := Lib.hid (fun e => by have h5 := (H1.out.t.ow.lt nb e).2; have := HNB.out; omega)
            clear h4 hk hct3 hnbb
            go_wp2_with fail
            refine (take_any B Z b _ said vs _ [61] _ (lit1 [61]) H4.out.x).mono ?_
            rw [HEQ.out]
            rintro e5 w5 ⟨rfl, h5, hk⟩
            have H5 := Lib.hid (H4.out.read h5 hk)
            have HK5 : Hid (Kp (SA b tb va) w w5) := Lib.hid (HK4.out.tr (hk.mono (fun _ _ (h : _ = b) => show SA b tb va _ from .inl h)))
            have HB5 := Lib.hid (HB4.out.keep hk HNBB.out)
            clear h5 hk
            go_wp2_with fail
            rw [HTE.out] at H5
            refine (blanks_any B Z b _ said vs _ H5.out.x HD2.out).mono ?_
            rintro e6 w6 ⟨rfl, h6, hk⟩
            have H6 := Lib.hid (H5.out.read h6 hk)
            have HK6 : Hid (Kp (SA b tb va) w w6) := Lib.hid (HK5.out.tr (hk.mono (fun _ _ (h : _ = b) => show SA b tb va _ from .inl h)))
            have HB6 := Lib.hid (HB5.out.keep hk HNBB.out)
            clear h6 hk
            go_wp2_with fail
            refine (value_any B Z b _ said vs _ H6.out.x HD3.out HVN.out).mono ?_
            rw [HVX.out]
            rintro e7 w7 ⟨rfl, h7, hk⟩
            have HX7 := Lib.hid h7
            clear h7
            have HT7 := Lib.hid (H6.out.t.keep hk H6.out.n1 (fun g hg => H6.out.n3 g hg))
            have HK7 : Hid (Kp (SA b tb va) w w7) := Lib.hid (HK6.out.tr (hk.mono (fun _ _ (h : _ = b) => show SA b tb va _ from .inl h)))
            have HB7 := Lib.hid (HB6.out.keep hk HNBB.out)
            clear hk
            go_upto_region 9 with (fail)
            refine wp_region_px 12 [12] (fun w' : World => Kp (fun g => va.ownBlock = some g) w7.drew w') (.quiet 0 (.quiet 1 (.quiet 2 (.quiet 3 (.quiet 4 (.quiet 5 (.quiet 6 (.quiet 7 (.eff 8 (.eff 9 (.quiet 10 (.quiet 11 (.wall 12 .done))))))))))))) (by kernel_rfl) (by kernel_rfl) (by kernel_rfl) (by kernel_rfl) (fun _ d _ _ _ h => by cases d <;> exact h) (Kp.refl _ _) ?_
            have HT8 := Lib.hid (HT7.out.kp0 (Kp.refl _ _).drew)
            have HB8 := Lib.hid (HB7.out.kp0 (Kp.refl _ _).drew)
            have HK8 := Lib.hid (HK7.out.drew)
            have HD8 : Hid (Kp0 w7 w7.drew) := Lib.hid (Kp.refl _ _).drew
            generalize w7.drew = w8 at HT8 HB8 HK8 HD8 ⊢
            iterate 8 (refine px_quiet (v := ?_) rfl (by rfl) (fun wq hwq => ?_) rfl ?_; rotate_left 1; (focus (have q2 := (HT8.out.blk.keep hwq (fun e => HT8.out.ne tb e rfl)).cellV 2 rfl; rw [HVA.out] at q2; have b0 := (HB8.out.keep hwq HNV.out).cellV 0 rfl; have b1 := (HB8.out.keep hwq HNV.out).cellV 1 rfl; go_simp; try (with_reducible rfl); done)); try simp only [List.setIfInBounds_toArray, List.set_cons_zero, List.set_cons_succ])
            refine px_eff rfl (by rfl) (fun K hK => ?_)
            go_simp
            have hkA : Kp0 w8 (w8.alloc (.cells #[.string (S m1), .string (S m2), .string (S v)] 104)) := (Kp.refl _ _).alloc _
            have HCE : Hid (∀ j u, (ats [((m1, m2), v)])[j]? = some u → (w8.alloc (.cells #[.string (S m1), .string (S m2), .string (S v)] 104)).cell? ((⟨w8.heap.size, 0, none⟩ : Addr).add j) = some u) := Lib.hid (fun j u hj => by
              rw [Addr.add_lit, Nat.zero_add]
              have hj3 : j < 3 := by
                have := (List.getElem?_eq_some_iff.1 hj).1
                simpa [ats] using this
              have hB := blk0 w8 104 [.string (S m1), .string (S m2), .string (S v)]
              rw [blk_cell hB j]
              simpa [ats] using hj)
            have HT9 := Lib.hid (HT8.out.kp0 hkA)
            have HKA := Lib.hid hkA
            have HSZ : Hid (w8.heap.size ≤ (w8.alloc (.cells #[.string (S m1), .string (S m2), .string (S v)] 104)).heap.size) := Lib.hid hkA.size
            generalize w8.alloc (.cells #[.string (S m1), .string (S m2), .string (S v)] 104) = w9 at HT9 HKA HSZ HCE hkA ⊢
            refine hK (fun w' => Kp (fun g => va.ownBlock = some g) w9 w') _ _ (fun x hx => (hkA.nil _).tr hx) (Kp.refl _ _) ?_
            clear hK K hkA
            refine px_eff rfl (by rfl) (fun K hK => ?_)
            have hown9 := HT9.out.ow
            rw [HVA.out] at hown9
            refine wp_append_k (.tmp 44) (.tmp 48) 77 rfl Tryz.underlying77 infoAtt rfl (by decide) rfl hown9 ⟨w8.heap.size, 0, none⟩ 1 1 (ats [((m1, m2), v)]) rfl rfl HCE.out (by intro u hu; simp [ats] at hu; rcases hu with rfl | rfl | rfl <;> rfl) (by have := HLL.out; unfold maxLen; omega) (by have := HLL.out; omega) (by have h1 := HT9.out.lt; have h2 := H.out.gt; omega) ?_
            intro va2 wA hoA hkA hbA hnA
            obtain ⟨aoA, capA, hvaA, hcA1, hcA2⟩ := ownK_sl hoA
            subst hvaA
            rw [← HVA.out] at hkA hbA
            rw [← ats_app] at hoA
            have HTA := Lib.hid (HT9.out.put H.out.gt hkA hoA hbA)
            have hfA : wA.frozen? ⟨tb, 2, none⟩ = false := blk_frozen (HT9.out.blk.keep hkA (fun e => HT9.out.ne tb e rfl)) 2
            have hcA : wA.cell? ⟨tb, 2, none⟩ = some va := (HT9.out.blk.keep hkA (fun e => HT9.out.ne tb e rfl)).cellV 2 rfl
            have HBA := Lib.hid hbA
            refine hK (fun w' => Kp (fun g => va.ownBlock = some g) w9 w') _ _ (fun _ h => h) hkA ?_
            clear hK K hown9 hoA hkA hbA hnA hcA1 hcA2
            simp only [Act.put, List.getElem_toArray, List.getElem_cons_succ, List.getElem_cons_zero]
            try simp only [List.setIfInBounds_toArray, List.set_cons_zero, List.set_cons_succ]
            iterate 2 (refine px_quiet (v := ?_) rfl (by rfl) (fun wq hwq => ?_) rfl ?_; rotate_left 1; (focus (clear hwq; go_simp; try (with_reducible rfl); done)); try simp only [List.setIfInBounds_toArray, List.set_cons_zero, List.set_cons_succ])
            refine px_wall rfl (by rfl) (fun K hK => ?_)
            go_simp
            refine hK (fun _ => True) _ _ trivial (px_done ?_)
            clear hK K
            have HKP : Hid (Kp (SA b tb va) w (wA.setCell ⟨tb, 2, none⟩ (.slice aoA (l.length + 1) capA))) := Lib.hid ((HK8.out.tr (HKA.out.nil _)).tr (HTA.out.2.mono (fun i _ h => .inr h)))
            have HVP : Hid (∀ g, (Value.slice aoA (l.length + 1) capA).ownBlock = some g → va.ownBlock = some g ∨ w.heap.size ≤ g) := Lib.hid (fun g hg => (HBA.out g hg).elim .inl (fun h => .inr (Nat.le_trans (Nat.le_trans HK8.out.size HKA.out.size) h)))
            have HTP : Hid (∀ s8, XrV B Z w7 b vs s8 said → RT B Z (wA.setCell ⟨tb, 2, none⟩ (.slice aoA (l.length + 1) capA)) b tb vs (.slice aoA (l.length + 1) capA) s8 said n (l ++ [((m1, m2), v)]) false) := Lib.hid (fun s8 h8 => by
              have hks : Kp (fun g => g = tb ∨ va.ownBlock = some g) w7 (wA.setCell ⟨tb, 2, none⟩ (.slice aoA (l.length + 1) capA)) := ((HD8.out.nil _).tr (HKA.out.nil _)).tr HTA.out.2
              have hsz : w7.heap.size ≤ w9.heap.size := Nat.le_trans HD8.out.size HKA.out.size
              have hbl : b < w7.heap.size := h8.lt
              have hml := h8.gb
              have hgt := H.out.gt
              refine ⟨h8.keep hks ?_ ?_ ?_, HTA.out.1, H6.out.n1, H6.out.n2, ?_, ?_, hgt⟩
              · rintro (e | e)
                · exact H6.out.n1 e.symm
                · exact H6.out.n3 b e rfl
              · rintro g hg (e | e)
                · exact H6.out.n2 g hg e
                · exact H6.out.n4 g hg e
              · rintro (e | e)
                · omega
                · have := (HT8.out.ow.lt _ e).1
                  omega
              · intro g hg
                rcases HBA.out g hg with h | h
                · exact H6.out.n3 g h
                · omega
              · intro g hg e
                rcases HBA.out g e with h | h
                · exact H6.out.n4 g hg h
                · have := (h8.ow.lt g hg).2
                  omega)
            go_wp2
            all_goals go_ret
            all_goals exact ⟨rfl, ⟨_, HTP.out _ HX7.out, HVP.out⟩, HKP.out⟩
end Go.Proofs.YtchmookggegmnaaGreatDoor
namespace Go.Proofs.YtchmookggegmnaaGreatDoor
open Go Go.RowKit
theorem allocTag (w : World) (l : List Value) : l = [.string { data := #[] }, .string { data := #[] }, .slice none 0 0, .bool false] → Blk (w.alloc (.cells l.toArray 79)) w.heap.size 79 l := fun _ => blk0 w _ _
abbrev tz : List Value := [.string { data := #[] }, .string { data := #[] }, .slice none 0 0, .bool false]
def TagPost (B : Nat) (Z : Nat → Prop) (b : Nat) (said : Say) (vs : Value) (w : World) (e : Ending) (w' : World) : R (Tg × List UInt8) → Prop
  | .no => False
  | .bad _ => e = .returned (.tuple #[.agg tz.toArray, .bool false]) ∧ Kp (fun g => g = b) w w'
  | .ok (t, r) => ∃ va, e = .returned (.tuple #[.agg #[.string (S t.name.1), .string (S t.name.2), va, .bool t.empty], .bool true]) ∧ XrV B Z w' b vs r said ∧
      w'.ownsRow B 104 3 va t.attrs.length (ats t.attrs) ∧ (∀ g, va.ownBlock = some g → w.heap.size ≤ g) ∧ t.attrs.length ≤ 32 ∧ Kp (fun g => g = b) w w'
def set4 (w : World) (g : Nat) (x0 x1 x2 x3 : Value) : World := (((w.setCell ⟨g, 0, none⟩ x0).setCell ⟨g, 1, none⟩ x1).setCell ⟨g, 2, none⟩ x2).setCell ⟨g, 3, none⟩ x3
theorem kp_set4 (w : World) (g : Nat) (x0 x1 x2 x3 : Value) : Kp (fun i => i = g) w (set4 w g x0 x1 x2 x3) :=
  ((((Kp.refl (fun i => i = g) w).setCell (p := ⟨g, 0, none⟩) (fun _ => rfl) x0).setCell (p := ⟨g, 1, none⟩) (fun _ => rfl) x1).setCell (p := ⟨g, 2, none⟩) (fun _ => rfl) x2).setCell (p := ⟨g, 3, none⟩) (fun _ => rfl) x3
theorem Kp.new {S T : Nat → Prop} {a b c : World} (h : Kp S a b) (k : Kp T b c) (hT : ∀ i, T i → a.heap.size ≤ i) : Kp S a c :=
  h.trans k (fun _ _ h => h) (fun i hi h => absurd hi (Nat.not_lt.2 (hT i h)))
theorem XrV.new {B : Nat} {Z : Nat → Prop} {w0 w w1 : World} {b : Nat} {vs : Value} {l l0 : List UInt8} {said : Say} {T : Nat → Prop} (h : XrV B Z w b vs l said) (h0 : XrV B Z w0 b vs l0 said) (k : Kp T w w1) (hT : ∀ i, T i → w0.heap.size ≤ i) : XrV B Z w1 b vs l said :=
  h.keep k (fun e => absurd h0.lt (Nat.not_lt.2 (hT _ e))) (fun g hg e => absurd (h0.ow.lt g hg).2 (Nat.not_lt.2 (hT _ e))) (fun e => absurd h0.mb (Nat.not_lt.2 (hT _ e)))
/-- How far the loop over a tag's attributes has come. -/
def TgR (B : Nat) (Z : Nat → Prop) (b tb g0 : Nat) (vs : Value) (said : Say) (nm : Wn) (r0 : R ((List Att × Bool) × List UInt8)) (tx : R (Tg × List UInt8)) (w : World) (gg : Nat) (wr : World) : Bool → Prop
  | true => Kp (fun g => g = b) w wr ∧ Blk wr g0 79 tz ∧ ∃ l s va, RT B Z wr b tb vs va s said nm l false ∧ tagLoop gg l s = r0 ∧ s.length ≤ 16384 ∧ l.length ≤ 32 ∧ ∀ g, va.ownBlock = some g → w.heap.size ≤ g ∧ g ≠ g0
  | false => Kp (fun g => g = b) w wr ∧ Blk wr g0 79 tz ∧ gg = 0 ∧ ∃ e, tx = .bad e
theorem tag_bad {s : List UInt8} {e : Nat} (h : tagLoop 40 [] (writtenX (s.drop 1)).2 = .bad e) (h1 : Lib.hasPrefix s [60] = true) (h2 : (writtenX (s.drop 1)).1.2 = true) : tagX s = .bad e := by
  unfold tagX
  rw [h1, h2, h]
  rfl
theorem tag_ok {s : List UInt8} {l : List Att} {f : Bool} {r : List UInt8} (h : tagLoop 40 [] (writtenX (s.drop 1)).2 = .ok ((l, f), r)) (h1 : Lib.hasPrefix s [60] = true) (h2 : (writtenX (s.drop 1)).1.2 = true) : tagX s = .ok (⟨(writtenX (s.drop 1)).1.1, l, f⟩, r) := by
  unfold tagX
  rw [h1, h2, h]
  rfl
theorem entX_le {l t : List UInt8} (h : entX l = .ok t) : t.length ≤ l.length := by
  unfold entX at h
  split at h
  · cases h
  · cases h; exact Nat.le_refl _
theorem bind_ok {α β : Type} {x : R α} {f : α → R β} {y : β} (h : x.bind f = .ok y) : ∃ a, x = .ok a ∧ f a = .ok y := by
  cases x with
  | no => cases h
  | bad e => cases h
  | ok a => exact ⟨a, rfl, h⟩
theorem valueX_le {l v r : List UInt8} (h : valueX l = .ok (v, r)) : r.length ≤ l.length := by
  unfold valueX at h
  split at h
  · cases h
  · rename_i q _
    have hc := (cut_le (l.drop 1) q).2
    split at h
    · cases h
    · rename_i t r' hq
      split at h
      · cases h
      · obtain ⟨a, _, h2⟩ := bind_ok h
        cases h2
        rw [hq] at hc
        simp only [List.length_drop] at hc
        omega
theorem attrX_le {l l' : List Att} {s r : List UInt8} (h : attrX l s = .ok (l', r)) (hl : l.length ≤ 32) : l'.length ≤ 32 ∧ r.length ≤ s.length := by
  unfold attrX at h
  split at h
  · cases h
  · rename_i hn
    split at h
    · cases h
    · obtain ⟨⟨v, r'⟩, h1, h2⟩ := bind_ok h
      have h3 := valueX_le h1
      have h4 := dropB_le ((dropB (writtenX s).2).drop 1)
      have h5 := dropB_le (writtenX s).2
      have h6 := writtenX_le s
      simp only [List.length_drop] at h4
      cases h2
      refine ⟨?_, by simp only []; omega⟩
      have : l.length ≠ 32 := fun e => hn (.inr (.inr e))
      simp only [List.length_append, List.length_singleton]
      omega
set_option maxRecDepth 20000 in
set_option maxHeartbeats 4000000 in
theorem tag_any (B : Nat) (Z : Nat → Prop) (b : Nat) (s : List UInt8) (said : Say) (vs : Value) (w : World) (h : XrV B Z w b vs s said) (hl : s.length ≤ 16384) (hn : tagX s ≠ .no) :
    Calls Tryz.prog 38 #[.pointer (some ⟨b, 0, none⟩)] w fun e w' => TagPost B Z b said vs w e w' (tagX s) := by
  have HL := Lib.hid hl
  have HX := Lib.hid h
  have hlt := h.lt
  have hge := h.ge
  obtain ⟨g0, hg0⟩ : ∃ g, g = w.heap.size := ⟨_, rfl⟩
  have HG0 := Lib.hid hg0
  have HK0 : Hid (Kp0 w (w.alloc (.cells tz.toArray 79))) := Lib.hid ((Kp.refl _ _).alloc _)
  have HB0 : Hid (Blk (w.alloc (.cells tz.toArray 79)) w.heap.size 79 tz) := Lib.hid (blk0 w _ _)
  have H0 := Lib.hid (h.kp0 HK0.out)
  rw [← hg0] at HB0
  have HNB : Hid (¬ g0 = b) := Lib.hid (by omega)
  have HBG : Hid (B ≤ g0 ∧ b < g0) := Lib.hid (by omega)
  clear h hl hlt hge
  obtain ⟨f, hf⟩ : ∃ f, f = Lib.hasPrefix s [60] := ⟨_, rfl⟩
  have HF : Hid (Lib.hasPrefix s [60] = f) := Lib.hid hf.symm
  cases f with
  | false =>
    have HR : Hid (tagX s = .bad 3) := Lib.hid (by unfold tagX; rw [← hf]; rfl)
    clear hn hf
    rw [HR.out]
    go_enter Tryz.func38, Tryz.ntmps38
    go_wp2_with fail
    rw [← hg0]
    clear hg0
    refine (take_any B Z b s said vs _ [60] _ (lit1 [60]) H0.out).mono ?_
    rw [HF.out]
    rintro e1 w1 ⟨rfl, h1, hk⟩
    have HK1 := Lib.hid ((HK0.out.nil _).tr hk)
    have HB1 := Lib.hid (HB0.out.keep hk HNB.out)
    have H1 := Lib.hid h1
    clear h1 hk
    have HBX := Lib.hid HB1.out
    have HKX := Lib.hid HK1.out
    clear HB1 HK1
    have q0 := HBX.out.cellV 0 rfl
    have q1 := HBX.out.cellV 1 rfl
    have q2 := HBX.out.cellV 2 rfl
    have q3 := HBX.out.cellV 3 rfl
    have f0 := blk_frozen HBX.out 0
    have f1 := blk_frozen HBX.out 1
    have f2 := blk_frozen HBX.out 2
    have f3 := blk_frozen HBX.out 3
    go_wp2
    refine bodyPost_ret (v := .tuple #[.agg tz.toArray, .bool false]) (by simp [results, Tryz.results38, go_sem, q0, q1, q2, q3]) rfl ?_
    show TagPost B Z b said vs w _ _ _
    try rw [HR.out]
    exact ⟨rfl, HKX.out.new (kp_set4 _ g0 _ _ _ _) (fun i e => by have := HG0.out; omega)⟩
  | true =>
    have HT : Hid (Lib.trimPrefix s [60] = s.drop 1) := Lib.hid (trimP_yes hf.symm)
    have HL1 : Hid ((s.drop 1).length ≤ 16384) := Lib.hid (drop_len HL.out)
    obtain ⟨⟨⟨⟨m1, m2⟩, ok⟩, s1⟩, hw⟩ : ∃ r, r = writtenX (s.drop 1) := ⟨_, rfl⟩
    have HW : Hid (writtenX (s.drop 1) = (((m1, m2), ok), s1)) := Lib.hid hw.symm
    have HS1 : Hid (s1.length ≤ 16384) := Lib.hid (by have h1 := writtenX_le (s.drop 1); rw [← hw] at h1; have := HL1.out; simp only [] at h1; omega)
    obtain ⟨r0, hr0⟩ : ∃ r, r = tagLoop 40 [] s1 := ⟨_, rfl⟩
    have HR0 : Hid (tagLoop 40 [] s1 = r0) := Lib.hid hr0.symm
    obtain ⟨tx, htx⟩ : ∃ r, r = tagX s := ⟨_, rfl⟩
    have HTX := Lib.hid htx
    rw [← htx] at hn ⊢
    have HN := Lib.hid hn
    have HFT := Lib.hid hf.symm
    clear hw hr0 htx hn hf
    cases ok with
    | false =>
      have HR : Hid (tx = .bad 3) := Lib.hid (by rw [HTX.out]; unfold tagX; rw [HFT.out, HW.out]; rfl)
      rw [HR.out]
      go_enter Tryz.func38, Tryz.ntmps38
      go_wp2_with fail
      rw [← hg0]
      clear hg0
      refine (take_any B Z b s said vs _ [60] _ (lit1 [60]) H0.out).mono ?_
      rw [HF.out]
      rintro e1 w1 ⟨rfl, h1, hk⟩
      have HK1 := Lib.hid ((HK0.out.nil _).tr hk)
      have HB1 := Lib.hid (HB0.out.keep hk HNB.out)
      have H1 := Lib.hid h1
      clear h1 hk
      rw [HT.out] at H1
      go_wp2_with fail
      refine (written_any B Z b _ said vs _ H1.out HL1.out).mono ?_
      rw [HW.out]
      rintro e2 w2 ⟨rfl, h2, hk⟩
      simp only [] at h2
      have H2 := Lib.hid h2
      have HK2 := Lib.hid (HK1.out.tr hk)
      have HB2 := Lib.hid (HB1.out.keep hk HNB.out)
      clear h2 hk
      go_wp2
      have H3 : Hid (Kp (fun g => g = b) w ((w2.alloc (.cells #[.string (S m1), .string (S m2)] 76)).alloc (.cells #[.string (S m1), .string (S m2), .slice none 0 0, .bool false] 79)) ∧
          Blk ((w2.alloc (.cells #[.string (S m1), .string (S m2)] 76)).alloc (.cells #[.string (S m1), .string (S m2), .slice none 0 0, .bool false] 79)) g0 79 tz ∧
          RT B Z ((w2.alloc (.cells #[.string (S m1), .string (S m2)] 76)).alloc (.cells #[.string (S m1), .string (S m2), .slice none 0 0, .bool false] 79)) b (w2.heap.size + 1) vs (.slice none 0 0) s1 said (m1, m2) [] false) := Lib.hid (by
        have hk : Kp0 w2 ((w2.alloc (.cells #[.string (S m1), .string (S m2)] 76)).alloc (.cells #[.string (S m1), .string (S m2), .slice none 0 0, .bool false] 79)) := ((Kp.refl _ _).alloc _).alloc _
        have hb := blk0 (w2.alloc (.cells #[.string (S m1), .string (S m2)] 76)) 79 [.string (S m1), .string (S m2), .slice none 0 0, .bool false]
        have hz : (w2.alloc (.cells #[.string (S m1), .string (S m2)] 76)).heap.size = w2.heap.size + 1 := by simp
        rw [hz] at hb
        have hlt := H2.out.lt
        have hge := H2.out.ge
        exact ⟨HK2.out.tr (hk.nil _), HB2.out.kp0 hk, H2.out.kp0 hk, ⟨hb, World.ownsRow_nil _ _ _ _, fun g hg => by cases hg⟩, by omega, fun g hg => by have := (H2.out.ow.lt g hg).2; omega, (fun g hg => by cases hg), fun g _ hg => (by cases hg), by omega⟩)
      have HTB : Hid (w.heap.size ≤ w2.heap.size + 1 ∧ ¬ g0 = w2.heap.size + 1) := Lib.hid (by have h1 := HK2.out.size; have h2 := HG0.out; omega)
      generalize ((w2.alloc (.cells #[.string (S m1), .string (S m2)] 76)).alloc (.cells #[.string (S m1), .string (S m2), .slice none 0 0, .bool false] 79)) = w3 at H3 ⊢
      generalize w2.heap.size + 1 = tb at H3 HTB ⊢
      refine wp_loop_rounds 1 ?_
      rw [rounds_succ]
      have HBX := Lib.hid H3.out.2.1
      have HKX := Lib.hid H3.out.1
      clear HB1 HK1 HB2 HK2
      have q0 := HBX.out.cellV 0 rfl
      have q1 := HBX.out.cellV 1 rfl
      have q2 := HBX.out.cellV 2 rfl
      have q3 := HBX.out.cellV 3 rfl
      have f0 := blk_frozen HBX.out 0
      have f1 := blk_frozen HBX.out 1
      have f2 := blk_frozen HBX.out 2
      have f3 := blk_frozen HBX.out 3
      go_wp2
      refine bodyPost_ret (v := .tuple #[.agg tz.toArray, .bool false]) (by simp [results, Tryz.results38, go_sem, q0, q1, q2, q3]) rfl ?_
      show TagPost B Z b said vs w _ _ _
      try rw [HR.out]
      exact ⟨rfl, HKX.out.new (kp_set4 _ g0 _ _ _ _) (fun i e => by have := HG0.out; omega)⟩
    | true =>
      have HBAD : Hid (∀ e, r0 = .bad e → tx = .bad e) := Lib.hid (fun e he => by rw [HTX.out]; exact tag_bad (by rw [HW.out]; exact HR0.out.trans he) HFT.out (by rw [HW.out]))
      have HGOOD : Hid (∀ l f r, r0 = .ok ((l, f), r) → tx = .ok (⟨(m1, m2), l, f⟩, r)) := Lib.hid (fun l f r he => by rw [HTX.out]; have := tag_ok (HR0.out.trans he |> fun h => (by rw [HW.out]; exact h)) HFT.out (by rw [HW.out]); rw [HW.out] at this; exact this)
      have HNO : Hid (r0 ≠ .no) := Lib.hid (fun he => HN.out (by rw [HTX.out]; unfold tagX; rw [HFT.out, HW.out]; simp only []; rw [HR0.out, he]; rfl))
      go_enter Tryz.func38, Tryz.ntmps38
      go_wp2_with fail
      rw [← hg0]
      clear hg0
      refine (take_any B Z b s said vs _ [60] _ (lit1 [60]) H0.out).mono ?_
      rw [HF.out]
      rintro e1 w1 ⟨rfl, h1, hk⟩
      have HK1 := Lib.hid ((HK0.out.nil _).tr hk)
      have HB1 := Lib.hid (HB0.out.keep hk HNB.out)
      have H1 := Lib.hid h1
      clear h1 hk
      rw [HT.out] at H1
      go_wp2_with fail
      refine (written_any B Z b _ said vs _ H1.out HL1.out).mono ?_
      rw [HW.out]
      rintro e2 w2 ⟨rfl, h2, hk⟩
      simp only [] at h2
      have H2 := Lib.hid h2
      have HK2 := Lib.hid (HK1.out.tr hk)
      have HB2 := Lib.hid (HB1.out.keep hk HNB.out)
      clear h2 hk
      go_wp2
      have H3 : Hid (Kp (fun g => g = b) w ((w2.alloc (.cells #[.string (S m1), .string (S m2)] 76)).alloc (.cells #[.string (S m1), .string (S m2), .slice none 0 0, .bool false] 79)) ∧
          Blk ((w2.alloc (.cells #[.string (S m1), .string (S m2)] 76)).alloc (.cells #[.string (S m1), .string (S m2), .slice none 0 0, .bool false] 79)) g0 79 tz ∧
          RT B Z ((w2.alloc (.cells #[.string (S m1), .string (S m2)] 76)).alloc (.cells #[.string (S m1), .string (S m2), .slice none 0 0, .bool false] 79)) b (w2.heap.size + 1) vs (.slice none 0 0) s1 said (m1, m2) [] false) := Lib.hid (by
        have hk : Kp0 w2 ((w2.alloc (.cells #[.string (S m1), .string (S m2)] 76)).alloc (.cells #[.string (S m1), .string (S m2), .slice none 0 0, .bool false] 79)) := ((Kp.refl _ _).alloc _).alloc _
        have hb := blk0 (w2.alloc (.cells #[.string (S m1), .string (S m2)] 76)) 79 [.string (S m1), .string (S m2), .slice none 0 0, .bool false]
        have hz : (w2.alloc (.cells #[.string (S m1), .string (S m2)] 76)).heap.size = w2.heap.size + 1 := by simp
        rw [hz] at hb
        have hlt := H2.out.lt
        have hge := H2.out.ge
        exact ⟨HK2.out.tr (hk.nil _), HB2.out.kp0 hk, H2.out.kp0 hk, ⟨hb, World.ownsRow_nil _ _ _ _, fun g hg => by cases hg⟩, by omega, fun g hg => by have := (H2.out.ow.lt g hg).2; omega, (fun g hg => by cases hg), fun g _ hg => (by cases hg), by omega⟩)
      have HTB : Hid (w.heap.size ≤ w2.heap.size + 1 ∧ ¬ g0 = w2.heap.size + 1) := Lib.hid (by have h1 := HK2.out.size; have h2 := HG0.out; omega)
      generalize ((w2.alloc (.cells #[.string (S m1), .string (S m2)] 76)).alloc (.cells #[.string (S m1), .string (S m2), .slice none 0 0, .bool false] 79)) = w3 at H3 ⊢
      generalize w2.heap.size + 1 = tb at H3 HTB ⊢
      go_loopg [5] 40 (fun gg okv wr => ∃ ok : Bool, okv = .bool ok ∧ TgR B Z b tb g0 vs said (m1, m2) r0 tx w gg wr ok)
      case atStart => exact ⟨true, rfl, H3.out.1, H3.out.2.1, [], s1, .slice none 0 0, H3.out.2.2, HR0.out, HS1.out, Nat.zero_le _, fun g hg => by cases hg⟩
      case round =>
        obtain ⟨ok, rfl, hr⟩ := hrel
        cases ok with
        | false =>
          obtain ⟨hk, hb, rfl, e, he⟩ := hr
          have HR := Lib.hid he
          have HBX := Lib.hid hb
          have HKX := Lib.hid hk
          clear hk hb he
          have q0 := HBX.out.cellV 0 rfl
          have q1 := HBX.out.cellV 1 rfl
          have q2 := HBX.out.cellV 2 rfl
          have q3 := HBX.out.cellV 3 rfl
          have f0 := blk_frozen HBX.out 0
          have f1 := blk_frozen HBX.out 1
          have f2 := blk_frozen HBX.out 2
          have f3 := blk_frozen HBX.out 3
          go_wp2
          refine bodyPost_ret (v := .tuple #[.agg tz.toArray, .bool false]) (by simp [results, Tryz.results38, go_sem, q0, q1, q2, q3]) rfl ?_
          show TagPost B Z b said vs w _ _ _
          try rw [HR.out]
          exact ⟨rfl, HKX.out.new (kp_set4 _ g0 _ _ _ _) (fun i e => by have := HG0.out; omega)⟩
        | true =>
          obtain ⟨hk, hb, l, s, va, hrt, hloop, hsl, hll, hva⟩ := hr
          obtain ⟨ao, nl, cap, rfl⟩ : ∃ ao n cap, va = .slice ao n cap := by obtain ⟨ao, cap, h, _⟩ := ownK_sl hrt.t.ow; exact ⟨_, _, _, h⟩
          have HB4 := Lib.hid hb
          have HK4 := Lib.hid hk
          have HRT := Lib.hid hrt
          have HLP := Lib.hid hloop
          have HSL := Lib.hid hsl
          have HLL := Lib.hid hll
          have HVA := Lib.hid hva
          clear hk hb hrt hloop hsl hll hva
          obtain ⟨gf, rfl⟩ : ∃ k, gk = k + 1 := by
            cases gk with
            | zero => exact absurd HLP.out.symm HNO.out
            | succ k => exact ⟨k, rfl⟩
          have HLD : Hid ((dropB s).length ≤ 16384) := Lib.hid (dropB_len HSL.out)
          have HUN : Hid (r0 = if Lib.hasPrefix (dropB s) [62] then .ok ((l, false), (dropB s).drop 1) else if Lib.hasPrefix (dropB s) [47, 62] then .ok ((l, true), (dropB s).drop 2) else if (dropB s).length < s.length then (attrX l (dropB s)).bind fun x => tagLoop gf x.1 x.2 else .bad 3) := Lib.hid HLP.out.symm
          obtain ⟨f1, hf1⟩ : ∃ f, f = Lib.hasPrefix (dropB s) [62] := ⟨_, rfl⟩
          have HF1 := Lib.hid hf1.symm
          cases f1 with
          | true =>
            have HR : Hid (tx = .ok (⟨(m1, m2), l, false⟩, (dropB s).drop 1)) := Lib.hid (HGOOD.out _ _ _ (by rw [HUN.out, ← hf1]; rfl))
            have HT1 := Lib.hid (trimP_yes HF1.out)
            clear hf1
            go_wp2_with fail
            refine (blanks_any B Z b s said vs _ HRT.out.x HSL.out).mono ?_
            rintro e5 w5 ⟨rfl, h5, hk⟩
            have H5 := Lib.hid (HRT.out.read h5 hk)
            have HK5 := Lib.hid (HK4.out.tr hk)
            have HB5 := Lib.hid (HB4.out.keep hk HNB.out)
            clear h5 hk
            go_wp2_with fail
            refine (take_any B Z b _ said vs _ [62] _ (lit1 [62]) H5.out.x).mono ?_
            rw [HF1.out]
            rintro e6 w6 ⟨rfl, h6, hk⟩
            rw [HT1.out] at h6
            have H6 := Lib.hid (H5.out.read h6 hk)
            have HK6 := Lib.hid (HK5.out.tr hk)
            have HB6 := Lib.hid (HB5.out.keep hk HNB.out)
            clear h6 hk
            have HBX := Lib.hid HB6.out
            have HTX2 := Lib.hid H6.out.t
            have FL : Hid True := Lib.hid trivial
            have q0 := HBX.out.cellV 0 rfl
            have q1 := HBX.out.cellV 1 rfl
            have q2 := HBX.out.cellV 2 rfl
            have q3 := HBX.out.cellV 3 rfl
            have f0 := blk_frozen HBX.out 0
            have f1 := blk_frozen HBX.out 1
            have f2 := blk_frozen HBX.out 2
            have f3 := blk_frozen HBX.out 3
            have p0 := HTX2.out.blk.cellV 0 rfl
            have p1 := HTX2.out.blk.cellV 1 rfl
            have p2 := HTX2.out.blk.cellV 2 rfl
            have p3 := HTX2.out.blk.cellV 3 rfl
            go_wp2
            refine bodyPost_ret (v := .tuple #[.agg #[.string (S m1), .string (S m2), .slice ao nl cap, .bool false], .bool true]) (by simp [results, Tryz.results38, go_sem, q0, q1, q2, q3]) rfl ?_
            show TagPost B Z b said vs w _ _ _
            rw [HR.out]
            exact ⟨.slice ao nl cap, rfl, H6.out.x.new HX.out (kp_set4 _ g0 _ _ _ _) (fun i e => by have := HG0.out; omega), own_keep H6.out.t.ow (kp_set4 _ g0 _ _ _ _) (fun i hi => (HVA.out i hi).2), fun g hg => (HVA.out g hg).1, HLL.out, HK6.out.new (kp_set4 _ g0 _ _ _ _) (fun i e => by have := HG0.out; omega)⟩
          | false =>
            have HT1 := Lib.hid (trimP_no HF1.out)
            obtain ⟨f2, hf2⟩ : ∃ f, f = Lib.hasPrefix (dropB s) [47, 62] := ⟨_, rfl⟩
            have HF2 := Lib.hid hf2.symm
            cases f2 with
            | true =>
              have HR : Hid (tx = .ok (⟨(m1, m2), l, true⟩, (dropB s).drop 2)) := Lib.hid (HGOOD.out _ _ _ (by rw [HUN.out, ← hf1, ← hf2]; rfl))
              have HT2 := Lib.hid (trimP_yes HF2.out)
              clear hf1 hf2
              go_wp2_with fail
              refine (blanks_any B Z b s said vs _ HRT.out.x HSL.out).mono ?_
              rintro e5 w5 ⟨rfl, h5, hk⟩
              have H5 := Lib.hid (HRT.out.read h5 hk)
              have HK5 := Lib.hid (HK4.out.tr hk)
              have HB5 := Lib.hid (HB4.out.keep hk HNB.out)
              clear h5 hk
              go_wp2_with fail
              refine (take_any B Z b _ said vs _ [62] _ (lit1 [62]) H5.out.x).mono ?_
              rw [HF1.out]
              rintro e6 w6 ⟨rfl, h6, hk⟩
              rw [HT1.out] at h6
              have H6 := Lib.hid (H5.out.read h6 hk)
              have HK6 := Lib.hid (HK5.out.tr hk)
              have HB6 := Lib.hid (HB5.out.keep hk HNB.out)
              clear h6 hk
              go_wp2_with fail
              refine (take_any B Z b _ said vs _ [47, 62] _ (lit1 [47, 62]) H6.out.x).mono ?_
              rw [HF2.out]
              rintro e7 w7 ⟨rfl, h7, hk⟩
              rw [HT2.out] at h7
              have H7 := Lib.hid (H6.out.read h7 hk)
              have HK7 := Lib.hid (HK6.out.tr hk)
              have HB7 := Lib.hid (HB6.out.keep hk HNB.out)
              clear h7 hk
              have hfz : w7.frozen? ⟨tb, 3, none⟩ = false := H7.out.t.fz 3
              have hks : Kp (fun g => g = tb) w7 (w7.setCell ⟨tb, 3, none⟩ (.bool true)) := (Kp.refl (fun g => g = tb) w7).setCell (p := ⟨tb, 3, none⟩) (fun _ => rfl) _
              have hbt : Blk (w7.setCell ⟨tb, 3, none⟩ (.bool true)) tb 79 [.string (S m1), .string (S m2), .slice ao nl cap, .bool true] := H7.out.t.blk.set' 3 _
              have hxs := H7.out.x.keep hks (fun e => H7.out.n1 e.symm) (fun g hg e => H7.out.n2 g hg e) (fun e => by have h1 := H7.out.x.gb; have h2 := H7.out.gt; omega)
              have hrow := own_keep H7.out.t.ow hks (fun g hg => H7.out.t.ne g hg)
              have hp3 : w7.cell? ⟨tb, 3, none⟩ = some (.bool false) := H7.out.t.blk.cellV 3 rfl
              have HBX := Lib.hid (HB7.out.keep hks HTB.out.2)
              have HXS := Lib.hid hxs
              have HROW := Lib.hid hrow
              have HKX := Lib.hid (HK7.out.new hks (fun i e => by have := HTB.out.1; omega))
              have HTX2 := Lib.hid hbt
              clear hks hbt hxs hrow
              have q0 := HBX.out.cellV 0 rfl
              have q1 := HBX.out.cellV 1 rfl
              have q2 := HBX.out.cellV 2 rfl
              have q3 := HBX.out.cellV 3 rfl
              have f0 := blk_frozen HBX.out 0
              have f1 := blk_frozen HBX.out 1
              have f2 := blk_frozen HBX.out 2
              have f3 := blk_frozen HBX.out 3
              have p0 := HTX2.out.cellV 0 rfl
              have p1 := HTX2.out.cellV 1 rfl
              have p2 := HTX2.out.cellV 2 rfl
              have p3 := HTX2.out.cellV 3 rfl
              go_wp2
              refine bodyPost_ret (v := .tuple #[.agg #[.string (S m1), .string (S m2), .slice ao nl cap, .bool true], .bool true]) (by simp [results, Tryz.results38, go_sem, q0, q1, q2, q3]) rfl ?_
              show TagPost B Z b said vs w _ _ _
              rw [HR.out]
              exact ⟨.slice ao nl cap, rfl, HXS.out.new HX.out (kp_set4 _ g0 _ _ _ _) (fun i e => by have := HG0.out; omega), own_keep HROW.out (kp_set4 _ g0 _ _ _ _) (fun i hi => (HVA.out i hi).2), fun g hg => (HVA.out g hg).1, HLL.out, HKX.out.new (kp_set4 _ g0 _ _ _ _) (fun i e => by have := HG0.out; omega)⟩
            | false =>
              have HT2 := Lib.hid (trimP_no HF2.out)
              by_cases hap : (dropB s).length < s.length
              · have HAP : Hid (decide ((dropB s).length < s.length) = true) := Lib.hid (decide_eq_true hap)
                have HUA : Hid (r0 = (attrX l (dropB s)).bind fun x => tagLoop gf x.1 x.2) := Lib.hid (by rw [HUN.out, ← hf1, ← hf2, if_neg (by simp), if_neg (by simp), if_pos hap])
                clear hf1 hf2 hap
                obtain ⟨ax, hax⟩ : ∃ a, a = attrX l (dropB s) := ⟨_, rfl⟩
                have HAX : Hid (attrX l (dropB s) = ax) := Lib.hid hax.symm
                have HAN : Hid (attrX l (dropB s) ≠ .no) := Lib.hid (fun e => HNO.out (by rw [HUA.out, e]; rfl))
                clear hax
                cases ax with
                | no => exact absurd HAX.out HAN.out
                | bad e =>
                  have HE : Hid (tx = .bad e) := Lib.hid (HBAD.out e (by rw [HUA.out, HAX.out]; rfl))
                  go_wp2_with fail
                  refine (blanks_any B Z b s said vs _ HRT.out.x HSL.out).mono ?_
                  rintro e5 w5 ⟨rfl, h5, hk⟩
                  have H5 := Lib.hid (HRT.out.read h5 hk)
                  have HK5 := Lib.hid (HK4.out.tr hk)
                  have HB5 := Lib.hid (HB4.out.keep hk HNB.out)
                  clear h5 hk
                  go_wp2_with fail
                  rw [HAP.out]
                  refine (take_any B Z b _ said vs _ [62] _ (lit1 [62]) H5.out.x).mono ?_
                  rw [HF1.out]
                  rintro e6 w6 ⟨rfl, h6, hk⟩
                  rw [HT1.out] at h6
                  have H6 := Lib.hid (H5.out.read h6 hk)
                  have HK6 := Lib.hid (HK5.out.tr hk)
                  have HB6 := Lib.hid (HB5.out.keep hk HNB.out)
                  clear h6 hk
                  go_wp2_with fail
                  refine (take_any B Z b _ said vs _ [47, 62] _ (lit1 [47, 62]) H6.out.x).mono ?_
                  rw [HF2.out]
                  rintro e7 w7 ⟨rfl, h7, hk⟩
                  rw [HT2.out] at h7
                  have H7 := Lib.hid (H6.out.read h7 hk)
                  have HK7 := Lib.hid (HK6.out.tr hk)
                  have HB7 := Lib.hid (HB6.out.keep hk HNB.out)
                  clear h7 hk
                  go_wp2_with fail
                  refine (attribute_any B Z b tb _ said vs _ (m1, m2) l _ H7.out HLD.out HLL.out HAN.out).mono ?_
                  rw [HAX.out]
                  rintro e8 w8 ⟨rfl, hk⟩
                  have HK8 : Hid (Kp (fun g => g = b) w w8) := Lib.hid (HK7.out.trans hk (fun _ _ h => h) (fun i hi h => by
                    rcases h with h | h | h
                    · exact h
                    · have := HTB.out.1; omega
                    · have := (HVA.out i h).1; omega))
                  have HB8 := Lib.hid (HB7.out.keep hk (by
                    rintro (h | h | h)
                    · exact HNB.out h
                    · exact HTB.out.2 h
                    · exact (HVA.out g0 h).2 rfl))
                  clear hk
                  go_wp2
                  go_roundg 0
                  case measure => omega
                  case rel => exact ⟨false, rfl, HK8.out, HB8.out, rfl, e, HE.out⟩
                | ok lr =>
                  obtain ⟨l', r⟩ := lr
                  have HE : Hid (tagLoop gf l' r = r0) := Lib.hid (by rw [HUA.out, HAX.out]; rfl)
                  have HLR := Lib.hid (attrX_le HAX.out HLL.out)
                  go_wp2_with fail
                  refine (blanks_any B Z b s said vs _ HRT.out.x HSL.out).mono ?_
                  rintro e5 w5 ⟨rfl, h5, hk⟩
                  have H5 := Lib.hid (HRT.out.read h5 hk)
                  have HK5 := Lib.hid (HK4.out.tr hk)
                  have HB5 := Lib.hid (HB4.out.keep hk HNB.out)
                  clear h5 hk
                  go_wp2_with fail
                  rw [HAP.out]
                  refine (take_any B Z b _ said vs _ [62] _ (lit1 [62]) H5.out.x).mono ?_
                  rw [HF1.out]
                  rintro e6 w6 ⟨rfl, h6, hk⟩
                  rw [HT1.out] at h6
                  have H6 := Lib.hid (H5.out.read h6 hk)
                  have HK6 := Lib.hid (HK5.out.tr hk)
                  have HB6 := Lib.hid (HB5.out.keep hk HNB.out)
                  clear h6 hk
                  go_wp2_with fail
                  refine (take_any B Z b _ said vs _ [47, 62] _ (lit1 [47, 62]) H6.out.x).mono ?_
                  rw [HF2.out]
                  rintro e7 w7 ⟨rfl, h7, hk⟩
                  rw [HT2.out] at h7
                  have H7 := Lib.hid (H6.out.read h7 hk)
                  have HK7 := Lib.hid (HK6.out.tr hk)
                  have HB7 := Lib.hid (HB6.out.keep hk HNB.out)
                  clear h7 hk
                  go_wp2_with fail
                  refine (attribute_any B Z b tb _ said vs _ (m1, m2) l _ H7.out HLD.out HLL.out HAN.out).mono ?_
                  rw [HAX.out]
                  rintro e8 w8 ⟨rfl, ⟨va', hrt, hva⟩, hk⟩
                  have HRT8 := Lib.hid hrt
                  have HVA8 : Hid (∀ g, va'.ownBlock = some g → w.heap.size ≤ g ∧ g ≠ g0) := Lib.hid (fun g hg => by
                    rcases hva g hg with h | h
                    · exact HVA.out g h
                    · have h1 := HK7.out.size
                      have h2 := HB7.out.lt
                      omega)
                  clear hrt hva
                  have HK8 : Hid (Kp (fun g => g = b) w w8) := Lib.hid (HK7.out.trans hk (fun _ _ h => h) (fun i hi h => by
                    rcases h with h | h | h
                    · exact h
                    · have := HTB.out.1; omega
                    · have := (HVA.out i h).1; omega))
                  have HB8 := Lib.hid (HB7.out.keep hk (by
                    rintro (h | h | h)
                    · exact HNB.out h
                    · exact HTB.out.2 h
                    · exact (HVA.out g0 h).2 rfl))
                  clear hk
                  go_wp2
                  go_roundg gf
                  case measure => omega
                  case rel => exact ⟨true, rfl, HK8.out, HB8.out, l', r, va', HRT8.out, HE.out, Nat.le_trans HLR.out.2 HLD.out, HLR.out.1, HVA8.out⟩
              · have HAP : Hid (decide ((dropB s).length < s.length) = false) := Lib.hid (decide_eq_false hap)
                have HE : Hid (tx = .bad 3) := Lib.hid (HBAD.out 3 (by rw [HUN.out, ← hf1, ← hf2, if_neg (by simp), if_neg (by simp), if_neg hap]))
                clear hf1 hf2 hap
                go_wp2_with fail
                refine (blanks_any B Z b s said vs _ HRT.out.x HSL.out).mono ?_
                rintro e5 w5 ⟨rfl, h5, hk⟩
                have H5 := Lib.hid (HRT.out.read h5 hk)
                have HK5 := Lib.hid (HK4.out.tr hk)
                have HB5 := Lib.hid (HB4.out.keep hk HNB.out)
                clear h5 hk
                go_wp2_with fail
                rw [HAP.out]
                refine (take_any B Z b _ said vs _ [62] _ (lit1 [62]) H5.out.x).mono ?_
                rw [HF1.out]
                rintro e6 w6 ⟨rfl, h6, hk⟩
                rw [HT1.out] at h6
                have H6 := Lib.hid (H5.out.read h6 hk)
                have HK6 := Lib.hid (HK5.out.tr hk)
                have HB6 := Lib.hid (HB5.out.keep hk HNB.out)
                clear h6 hk
                go_wp2_with fail
                refine (take_any B Z b _ said vs _ [47, 62] _ (lit1 [47, 62]) H6.out.x).mono ?_
                rw [HF2.out]
                rintro e7 w7 ⟨rfl, h7, hk⟩
                rw [HT2.out] at h7
                have H7 := Lib.hid (H6.out.read h7 hk)
                have HK7 := Lib.hid (HK6.out.tr hk)
                have HB7 := Lib.hid (HB6.out.keep hk HNB.out)
                clear h7 hk
                go_wp2
                go_roundg 0
                case measure => omega
                case rel => exact ⟨false, rfl, HK7.out, HB7.out, rfl, 3, HE.out⟩
end Go.Proofs.YtchmookggegmnaaGreatDoor
namespace Go.Proofs.YtchmookggegmnaaGreatDoor
open Go Go.RowKit
def EnPost (B : Nat) (Z : Nat → Prop) (b : Nat) (said : Say) (vs : Value) (w : World) (e : Ending) (w' : World) : Option (List UInt8) → Prop
  | none => e = .returned (.bool false) ∧ Kp (fun g => g = b) w w'
  | some r => e = .returned (.bool true) ∧ XrV B Z w' b vs r said ∧ Kp (fun g => g = b) w w'
theorem Kp.in0 {S : Nat → Prop} {a b c : World} (h : Kp0 a b) (k : Kp S b c) : Kp S a c := (h.nil S).tr k
set_option maxRecDepth 20000 in
set_option maxHeartbeats 2000000 in
theorem end_any (B : Nat) (Z : Nat → Prop) (b : Nat) (n : Wn) (l : List UInt8) (said : Say) (vs : Value) (w : World) (h : XrV B Z w b vs l said) (hl : l.length ≤ 16384) :
    Calls Tryz.prog 59 #[.pointer (some ⟨b, 0, none⟩), wnV n] w fun e w' => EnPost B Z b said vs w e w' (endX n l) := by
  obtain ⟨n1, n2⟩ := n
  have HL := Lib.hid hl
  have hlt := h.lt
  obtain ⟨nb, hnb⟩ : ∃ g, g = w.heap.size := ⟨_, rfl⟩
  have HK0 : Hid (Kp0 w (w.alloc (.cells #[.string (S n1), .string (S n2)] 76))) := Lib.hid ((Kp.refl _ _).alloc _)
  have HB0 : Hid (Blk (w.alloc (.cells #[.string (S n1), .string (S n2)] 76)) w.heap.size 76 [.string (S n1), .string (S n2)]) := Lib.hid (blk0 w _ _)
  have H0 := Lib.hid (h.kp0 HK0.out)
  rw [← hnb] at HB0
  have HNB : Hid (¬ nb = b) := Lib.hid (by omega)
  clear h hl hlt
  obtain ⟨⟨⟨⟨m1, m2⟩, ok⟩, s1⟩, hw⟩ : ∃ r, r = writtenX l := ⟨_, rfl⟩
  have HW : Hid (writtenX l = (((m1, m2), ok), s1)) := Lib.hid hw.symm
  have HS1 : Hid (s1.length ≤ 16384) := Lib.hid (by have h1 := writtenX_le l; rw [← hw] at h1; have := HL.out; simp only [] at h1; omega)
  cases ok with
  | false =>
    have HR : Hid (endX (n1, n2) l = none) := Lib.hid (by unfold endX; rw [← hw, if_neg (by simp)])
    clear hw
    rw [HR.out]
    go_enter Tryz.func59, Tryz.ntmps59
    go_wp2_with fail
    rw [← hnb]
    generalize (w.alloc (.cells #[.string (S n1), .string (S n2)] 76)) = w0 at H0 HB0 HK0 ⊢
    clear hnb
    refine (written_any B Z b l said vs _ H0.out HL.out).mono ?_
    rw [HW.out]
    rintro e2 w2 ⟨rfl, h2, hk⟩
    simp only [] at h2
    have H2 := Lib.hid (h2.kp0 ((Kp.refl _ w2).alloc (.cells #[.string (S m1), .string (S m2)] 76)))
    have HK2 := Lib.hid ((HK0.out.in0 hk).tr (((Kp.refl _ w2).alloc (.cells #[.string (S m1), .string (S m2)] 76)).nil _))
    have HB2 := Lib.hid ((HB0.out.keep hk HNB.out).kp0 ((Kp.refl _ w2).alloc (.cells #[.string (S m1), .string (S m2)] 76)))
    have HC2 : Hid (Blk (w2.alloc (.cells #[.string (S m1), .string (S m2)] 76)) w2.heap.size 76 [.string (S m1), .string (S m2)]) := Lib.hid (blk0 w2 _ _)
    have HNC : Hid (¬ w2.heap.size = b) := Lib.hid (by have := h2.lt; omega)
    clear h2 hk
    go_wp2_with fail
    generalize (w2.alloc (.cells #[.string (S m1), .string (S m2)] 76)) = w3 at H2 HB2 HK2 HC2 ⊢
    generalize w2.heap.size = nc at HC2 HNC ⊢
    refine (blanks_any B Z b s1 said vs _ H2.out HS1.out).mono ?_
    rintro e4 w4 ⟨rfl, h4, hk⟩
    have H4 := Lib.hid h4
    have HK4 := Lib.hid (HK2.out.tr hk)
    have hb4 := HB2.out.keep hk HNB.out
    have hc4 := HC2.out.keep hk HNC.out
    have q0 := hb4.cellV 0 rfl
    have q1 := hb4.cellV 1 rfl
    have p0 := hc4.cellV 0 rfl
    have p1 := hc4.cellV 1 rfl
    clear h4 hk hb4 hc4
    go_wp2
    all_goals go_ret
    all_goals exact ⟨rfl, HK4.out⟩
  | true =>
    by_cases he : (m1, m2) = (n1, n2)
    · have HE := Lib.hid he
      have HE1 : Hid ((S m1).toList = (S n1).toList ∧ (S m2).toList = (S n2).toList) := Lib.hid (by simp only [Prod.mk.injEq] at he; rw [he.1, he.2]; exact ⟨rfl, rfl⟩)
      clear he
      obtain ⟨f, hf⟩ : ∃ f, f = Lib.hasPrefix (dropB s1) [62] := ⟨_, rfl⟩
      have HF := Lib.hid hf.symm
      cases f with
      | false =>
        have HR : Hid (endX (n1, n2) l = none) := Lib.hid (by unfold endX; rw [← hw, if_neg (by simp only []; rw [← hf]; simp)])
        clear hw hf
        rw [HR.out]
        go_enter Tryz.func59, Tryz.ntmps59
        go_wp2_with fail
        rw [← hnb]
        generalize (w.alloc (.cells #[.string (S n1), .string (S n2)] 76)) = w0 at H0 HB0 HK0 ⊢
        clear hnb
        refine (written_any B Z b l said vs _ H0.out HL.out).mono ?_
        rw [HW.out]
        rintro e2 w2 ⟨rfl, h2, hk⟩
        simp only [] at h2
        have H2 := Lib.hid (h2.kp0 ((Kp.refl _ w2).alloc (.cells #[.string (S m1), .string (S m2)] 76)))
        have HK2 := Lib.hid ((HK0.out.in0 hk).tr (((Kp.refl _ w2).alloc (.cells #[.string (S m1), .string (S m2)] 76)).nil _))
        have HB2 := Lib.hid ((HB0.out.keep hk HNB.out).kp0 ((Kp.refl _ w2).alloc (.cells #[.string (S m1), .string (S m2)] 76)))
        have HC2 : Hid (Blk (w2.alloc (.cells #[.string (S m1), .string (S m2)] 76)) w2.heap.size 76 [.string (S m1), .string (S m2)]) := Lib.hid (blk0 w2 _ _)
        have HNC : Hid (¬ w2.heap.size = b) := Lib.hid (by have := h2.lt; omega)
        clear h2 hk
        go_wp2_with fail
        generalize (w2.alloc (.cells #[.string (S m1), .string (S m2)] 76)) = w3 at H2 HB2 HK2 HC2 ⊢
        generalize w2.heap.size = nc at HC2 HNC ⊢
        refine (blanks_any B Z b s1 said vs _ H2.out HS1.out).mono ?_
        rintro e4 w4 ⟨rfl, h4, hk⟩
        have H4 := Lib.hid h4
        have HK4 := Lib.hid (HK2.out.tr hk)
        have hb4 := HB2.out.keep hk HNB.out
        have hc4 := HC2.out.keep hk HNC.out
        have q0 := hb4.cellV 0 rfl
        have q1 := hb4.cellV 1 rfl
        have p0 := hc4.cellV 0 rfl
        have p1 := hc4.cellV 1 rfl
        clear h4 hk hb4 hc4
        obtain ⟨e1, e2⟩ := HE1.out
        go_wp2_with (go_at_call 33; refine (take_any B Z b _ said vs _ [62] _ (lit1 [62]) H4.out).mono ?_; rw [HF.out]; rintro e5 w5 ⟨rfl, h5, hk⟩; have HK5 := Lib.hid (HK4.out.tr hk); clear h5 hk)
        all_goals go_ret
        all_goals exact ⟨rfl, HK5.out⟩
      | true =>
        have HR : Hid (endX (n1, n2) l = some ((dropB s1).drop 1)) := Lib.hid (by unfold endX; rw [← hw, if_pos (by simp only []; exact ⟨trivial, HE.out, hf.symm⟩)])
        have HT := Lib.hid (trimP_yes HF.out)
        clear hw hf
        rw [HR.out]
        go_enter Tryz.func59, Tryz.ntmps59
        go_wp2_with fail
        rw [← hnb]
        generalize (w.alloc (.cells #[.string (S n1), .string (S n2)] 76)) = w0 at H0 HB0 HK0 ⊢
        clear hnb
        refine (written_any B Z b l said vs _ H0.out HL.out).mono ?_
        rw [HW.out]
        rintro e2 w2 ⟨rfl, h2, hk⟩
        simp only [] at h2
        have H2 := Lib.hid (h2.kp0 ((Kp.refl _ w2).alloc (.cells #[.string (S m1), .string (S m2)] 76)))
        have HK2 := Lib.hid ((HK0.out.in0 hk).tr (((Kp.refl _ w2).alloc (.cells #[.string (S m1), .string (S m2)] 76)).nil _))
        have HB2 := Lib.hid ((HB0.out.keep hk HNB.out).kp0 ((Kp.refl _ w2).alloc (.cells #[.string (S m1), .string (S m2)] 76)))
        have HC2 : Hid (Blk (w2.alloc (.cells #[.string (S m1), .string (S m2)] 76)) w2.heap.size 76 [.string (S m1), .string (S m2)]) := Lib.hid (blk0 w2 _ _)
        have HNC : Hid (¬ w2.heap.size = b) := Lib.hid (by have := h2.lt; omega)
        clear h2 hk
        go_wp2_with fail
        generalize (w2.alloc (.cells #[.string (S m1), .string (S m2)] 76)) = w3 at H2 HB2 HK2 HC2 ⊢
        generalize w2.heap.size = nc at HC2 HNC ⊢
        refine (blanks_any B Z b s1 said vs _ H2.out HS1.out).mono ?_
        rintro e4 w4 ⟨rfl, h4, hk⟩
        have H4 := Lib.hid h4
        have HK4 := Lib.hid (HK2.out.tr hk)
        have hb4 := HB2.out.keep hk HNB.out
        have hc4 := HC2.out.keep hk HNC.out
        have q0 := hb4.cellV 0 rfl
        have q1 := hb4.cellV 1 rfl
        have p0 := hc4.cellV 0 rfl
        have p1 := hc4.cellV 1 rfl
        clear h4 hk hb4 hc4
        obtain ⟨e1, e2⟩ := HE1.out
        go_wp2_with (go_at_call 33; refine (take_any B Z b _ said vs _ [62] _ (lit1 [62]) H4.out).mono ?_; rw [HF.out]; rintro e5 w5 ⟨rfl, h5, hk⟩; rw [HT.out] at h5; have H5 := Lib.hid h5; have HK5 := Lib.hid (HK4.out.tr hk); clear h5 hk)
        all_goals go_ret
        all_goals exact ⟨rfl, H5.out, HK5.out⟩
    · have HR : Hid (endX (n1, n2) l = none) := Lib.hid (by unfold endX; rw [← hw, if_neg (by simp only []; intro h; exact he h.2.1)])
      have HNE : Hid ((m1, m2) ≠ (n1, n2)) := Lib.hid he
      clear hw he
      rw [HR.out]
      go_enter Tryz.func59, Tryz.ntmps59
      go_wp2_with fail
      rw [← hnb]
      generalize (w.alloc (.cells #[.string (S n1), .string (S n2)] 76)) = w0 at H0 HB0 HK0 ⊢
      clear hnb
      refine (written_any B Z b l said vs _ H0.out HL.out).mono ?_
      rw [HW.out]
      rintro e2 w2 ⟨rfl, h2, hk⟩
      simp only [] at h2
      have H2 := Lib.hid (h2.kp0 ((Kp.refl _ w2).alloc (.cells #[.string (S m1), .string (S m2)] 76)))
      have HK2 := Lib.hid ((HK0.out.in0 hk).tr (((Kp.refl _ w2).alloc (.cells #[.string (S m1), .string (S m2)] 76)).nil _))
      have HB2 := Lib.hid ((HB0.out.keep hk HNB.out).kp0 ((Kp.refl _ w2).alloc (.cells #[.string (S m1), .string (S m2)] 76)))
      have HC2 : Hid (Blk (w2.alloc (.cells #[.string (S m1), .string (S m2)] 76)) w2.heap.size 76 [.string (S m1), .string (S m2)]) := Lib.hid (blk0 w2 _ _)
      have HNC : Hid (¬ w2.heap.size = b) := Lib.hid (by have := h2.lt; omega)
      clear h2 hk
      go_wp2_with fail
      generalize (w2.alloc (.cells #[.string (S m1), .string (S m2)] 76)) = w3 at H2 HB2 HK2 HC2 ⊢
      generalize w2.heap.size = nc at HC2 HNC ⊢
      refine (blanks_any B Z b s1 said vs _ H2.out HS1.out).mono ?_
      rintro e4 w4 ⟨rfl, h4, hk⟩
      have H4 := Lib.hid h4
      have HK4 := Lib.hid (HK2.out.tr hk)
      have hb4 := HB2.out.keep hk HNB.out
      have hc4 := HC2.out.keep hk HNC.out
      have q0 := hb4.cellV 0 rfl
      have q1 := hb4.cellV 1 rfl
      have p0 := hc4.cellV 0 rfl
      have p1 := hc4.cellV 1 rfl
      clear h4 hk hb4 hc4
      by_cases h1 : m1 = n1
      · have h2 : ¬ m2 = n2 := fun e => HNE.out (by rw [h1, e])
        have e1 : (S m1).toList = (S n1).toList := by rw [h1]
        have e2 : ¬ (S m2).toList = (S n2).toList := by rw [S_toList, S_toList]; exact h2
        clear h1 h2
        go_wp2
        all_goals go_ret
        all_goals exact ⟨rfl, HK4.out⟩
      · have e1 : ¬ (S m1).toList = (S n1).toList := by rw [S_toList, S_toList]; exact h1
        clear h1
        go_wp2
        all_goals go_ret
        all_goals exact ⟨rfl, HK4.out⟩
end Go.Proofs.YtchmookggegmnaaGreatDoor
namespace Go.Proofs.YtchmookggegmnaaGreatDoor
open Go Go.RowKit
set_option maxRecDepth 20000 in
set_option maxHeartbeats 2000000 in
theorem comment_any (B : Nat) (Z : Nat → Prop) (b : Nat) (l : List UInt8) (said : Say) (vs : Value) (w : World) (h : XrV B Z w b vs l said) (hl : l.length ≤ 16384) :
    Calls Tryz.prog 37 #[.pointer (some ⟨b, 0, none⟩)] w fun e w' => EnPost B Z b said vs w e w' (commentX l) := by
  have H := Lib.hid h
  have HL := Lib.hid hl
  clear h hl
  obtain ⟨⟨t, r, fd⟩, hc⟩ : ∃ c, c = Lib.cut l [45, 45] := ⟨_, rfl⟩
  have HC := Lib.hid hc.symm
  cases fd with
  | false =>
    have HR : Hid (commentX l = none) := Lib.hid (by unfold commentX; rw [← hc])
    clear hc
    rw [HR.out]
    go_enter Tryz.func37, Tryz.ntmps37
    go_wp2_with (go_at_call 34; refine (until_any B Z b l said vs _ [45, 45] _ (lit1 [45, 45]) H.out HL.out).mono ?_; rw [HC.out]; rintro e1 w1 ⟨rfl, h1, hk⟩; have HK1 := Lib.hid hk; clear h1 hk)
    all_goals go_ret
    all_goals exact ⟨rfl, HK1.out⟩
  | true =>
    obtain ⟨f, hf⟩ : ∃ f, f = Lib.hasPrefix r [62] := ⟨_, rfl⟩
    have HF := Lib.hid hf.symm
    cases f with
    | false =>
      have HR : Hid (commentX l = none) := Lib.hid (by unfold commentX; rw [← hc]; simp only []; rw [← hf]; rfl)
      clear hc hf
      rw [HR.out]
      go_enter Tryz.func37, Tryz.ntmps37
      go_wp2_with (first
        | (go_at_call 34; refine (until_any B Z b l said vs _ [45, 45] _ (lit1 [45, 45]) H.out HL.out).mono ?_; rw [HC.out]; rintro e1 w1 ⟨rfl, h1, hk⟩; have H1 := Lib.hid h1; have HK1 := Lib.hid hk; clear h1 hk)
        | (go_at_call 33; refine (take_any B Z b r said vs _ [62] _ (lit1 [62]) H1.out).mono ?_; rw [HF.out]; rintro e2 w2 ⟨rfl, h2, hk⟩; have HK2 := Lib.hid (HK1.out.tr hk); clear h2 hk))
      all_goals go_ret
      all_goals exact ⟨rfl, HK2.out⟩
    | true =>
      have HR : Hid (commentX l = some (r.drop 1)) := Lib.hid (by unfold commentX; rw [← hc]; simp only []; rw [← hf]; rfl)
      have HT := Lib.hid (trimP_yes HF.out)
      clear hc hf
      rw [HR.out]
      go_enter Tryz.func37, Tryz.ntmps37
      go_wp2_with (first
        | (go_at_call 34; refine (until_any B Z b l said vs _ [45, 45] _ (lit1 [45, 45]) H.out HL.out).mono ?_; rw [HC.out]; rintro e1 w1 ⟨rfl, h1, hk⟩; have H1 := Lib.hid h1; have HK1 := Lib.hid hk; clear h1 hk)
        | (go_at_call 33; refine (take_any B Z b r said vs _ [62] _ (lit1 [62]) H1.out).mono ?_; rw [HF.out]; rintro e2 w2 ⟨rfl, h2, hk⟩; rw [HT.out] at h2; have H2 := Lib.hid h2; have HK2 := Lib.hid (HK1.out.tr hk); clear h2 hk))
      all_goals go_ret
      all_goals exact ⟨rfl, H2.out, HK2.out⟩
theorem commentX_le {l r : List UInt8} (h : commentX l = some r) : r.length ≤ l.length := by
  unfold commentX at h
  have hc := (cut_le l [45, 45]).2
  split at h
  · cases h
  · rename_i t r' hq
    rw [hq] at hc
    simp only [] at hc
    split at h
    · cases h
      rw [List.length_drop]
      omega
    · cases h
def BePost (B : Nat) (Z : Nat → Prop) (b : Nat) (said : Say) (vs : Value) (w : World) (e : Ending) (w' : World) : R (List UInt8) → Prop
  | .no => False
  | .bad _ => e = .returned (.bool false) ∧ Kp (fun g => g = b) w w'
  | .ok r => e = .returned (.bool true) ∧ XrV B Z w' b vs r said ∧ Kp (fun g => g = b) w w'
set_option maxRecDepth 20000 in
set_option maxHeartbeats 2000000 in
theorem between_any (B : Nat) (Z : Nat → Prop) (b : Nat) (f : Nat) (l0 : List UInt8) (said : Say) (vs : Value) (w : World) (h : XrV B Z w b vs l0 said) (hl : l0.length ≤ 16384) (hn : betweenX f l0 ≠ .no) :
    Calls Tryz.prog 27 #[.pointer (some ⟨b, 0, none⟩)] w fun e w' => BePost B Z b said vs w e w' (betweenX f l0) := by
  have H := Lib.hid h
  have HL := Lib.hid hl
  obtain ⟨r0, hr0⟩ : ∃ r, r = betweenX f l0 := ⟨_, rfl⟩
  have HR0 := Lib.hid hr0.symm
  rw [← hr0] at hn ⊢
  have HN := Lib.hid hn
  clear h hl hn hr0
  go_enter Tryz.func27, Tryz.ntmps27
  go_wp2
  go_loopg [] f (fun gg wr => ∃ l, XrV B Z wr b vs l said ∧ betweenX gg l = r0 ∧ l.length ≤ 16384 ∧ Kp (fun g => g = b) w wr)
  case atStart => exact ⟨l0, H.out, HR0.out, HL.out, Kp.refl _ _⟩
  case round =>
    obtain ⟨l, hx, hb, hll, hk⟩ := hrel
    have HX := Lib.hid hx
    have HB := Lib.hid hb
    have HLL := Lib.hid hll
    have HK := Lib.hid hk
    clear hx hb hll hk
    obtain ⟨gf, rfl⟩ : ∃ k, gk = k + 1 := by
      cases gk with
      | zero => exact absurd HB.out.symm HN.out
      | succ k => exact ⟨k, rfl⟩
    obtain ⟨f1, hf⟩ : ∃ f, f = Lib.hasPrefix (dropB l) [60, 33, 45, 45] := ⟨_, rfl⟩
    have HF := Lib.hid hf.symm
    cases f1 with
    | false =>
      have HR : Hid (r0 = .ok (dropB l)) := Lib.hid (by rw [← HB.out]; unfold betweenX; rw [← hf]; rfl)
      have HT := Lib.hid (trimP_no HF.out)
      clear hf
      go_wp2_with fail
      refine (blanks_any B Z b l said vs _ HX.out HLL.out).mono ?_
      rintro e1 w1 ⟨rfl, h1, hk⟩
      have H1 := Lib.hid h1
      have HK1 := Lib.hid (HK.out.tr hk)
      clear h1 hk
      go_wp2_with fail
      refine (take_any B Z b _ said vs _ [60, 33, 45, 45] _ (lit1 [60, 33, 45, 45]) H1.out).mono ?_
      rw [HF.out]
      rintro e2 w2 ⟨rfl, h2, hk⟩
      rw [HT.out] at h2
      have H2 := Lib.hid h2
      have HK2 := Lib.hid (HK1.out.tr hk)
      clear h2 hk
      go_wp2
      all_goals go_ret
      all_goals (show BePost B Z b said vs w _ _ _; rw [HR.out]; exact ⟨rfl, H2.out, HK2.out⟩)
    | true =>
      have HT := Lib.hid (trimP_yes HF.out)
      have HLC : Hid (((dropB l).drop 4).length ≤ 16384) := Lib.hid (drop_len (dropB_len HLL.out))
      obtain ⟨cx, hcx⟩ : ∃ c, c = commentX ((dropB l).drop 4) := ⟨_, rfl⟩
      have HCX := Lib.hid hcx.symm
      cases cx with
      | none =>
        have HR : Hid (r0 = .bad 3) := Lib.hid (by rw [← HB.out]; unfold betweenX; rw [← hf, ← hcx]; rfl)
        clear hf hcx
        go_wp2_with fail
        refine (blanks_any B Z b l said vs _ HX.out HLL.out).mono ?_
        rintro e1 w1 ⟨rfl, h1, hk⟩
        have H1 := Lib.hid h1
        have HK1 := Lib.hid (HK.out.tr hk)
        clear h1 hk
        go_wp2_with fail
        refine (take_any B Z b _ said vs _ [60, 33, 45, 45] _ (lit1 [60, 33, 45, 45]) H1.out).mono ?_
        rw [HF.out]
        rintro e2 w2 ⟨rfl, h2, hk⟩
        rw [HT.out] at h2
        have H2 := Lib.hid h2
        have HK2 := Lib.hid (HK1.out.tr hk)
        clear h2 hk
        go_wp2_with (go_at_call 37; refine (comment_any B Z b _ said vs _ H2.out HLC.out).mono ?_; (show ∀ e w', EnPost _ _ _ _ _ _ e w' (commentX ((dropB l).drop 4)) → _); rw [HCX.out]; rintro e3 w3 ⟨rfl, hk⟩; have HK3 := Lib.hid (HK2.out.tr hk); clear hk)
        all_goals go_ret
        all_goals (show BePost B Z b said vs w _ _ _; rw [HR.out]; exact ⟨rfl, HK3.out⟩)
      | some r =>
        have HR : Hid (betweenX gf r = r0) := Lib.hid (by rw [← HB.out]; (conv => rhs; unfold betweenX; rw [← hf, ← hcx]); rfl)
        have HLR : Hid (r.length ≤ 16384) := Lib.hid (Nat.le_trans (commentX_le hcx.symm) HLC.out)
        clear hf hcx
        go_wp2_with fail
        refine (blanks_any B Z b l said vs _ HX.out HLL.out).mono ?_
        rintro e1 w1 ⟨rfl, h1, hk⟩
        have H1 := Lib.hid h1
        have HK1 := Lib.hid (HK.out.tr hk)
        clear h1 hk
        go_wp2_with fail
        refine (take_any B Z b _ said vs _ [60, 33, 45, 45] _ (lit1 [60, 33, 45, 45]) H1.out).mono ?_
        rw [HF.out]
        rintro e2 w2 ⟨rfl, h2, hk⟩
        rw [HT.out] at h2
        have H2 := Lib.hid h2
        have HK2 := Lib.hid (HK1.out.tr hk)
        clear h2 hk
        go_wp2_with (go_at_call 37; refine (comment_any B Z b _ said vs _ H2.out HLC.out).mono ?_; (show ∀ e w', EnPost _ _ _ _ _ _ e w' (commentX ((dropB l).drop 4)) → _); rw [HCX.out]; rintro e3 w3 ⟨rfl, h3, hk⟩; have H3 := Lib.hid h3; have HK3 := Lib.hid (HK2.out.tr hk); clear h3 hk)
        go_roundg gf
        case measure => omega
        case rel => exact ⟨r, H3.out, HR.out, HLR.out, HK3.out⟩
end Go.Proofs.YtchmookggegmnaaGreatDoor
namespace Go.Proofs.YtchmookggegmnaaGreatDoor
open Go Go.RowKit
theorem infoSaid : (Tryz.prog.info? 120).map (fun i => (i.zero, i.size, i.bytes)) = some (some (.agg #[.string { data := #[] }, .string { data := #[] }]), 2, 32) := by kernel_rfl
theorem XrV.putS {B : Nat} {Z : Nat → Prop} {w w1 : World} {b : Nat} {vs v1 : Value} {l : List UInt8} {said said1 : Say} (h : XrV B Z w b vs l said) (hk : Kp (fun g => vs.ownBlock = some g) w w1) {k : Nat} (ho : w1.ownsRow B 120 2 v1 k (prs said1)) (hb : ∀ g, v1.ownBlock = some g → vs.ownBlock = some g ∨ w.heap.size ≤ g) :
    XrV B Z (w1.setCell ⟨b, 1, none⟩ v1) b v1 l said1 ∧ Kp (fun g => g = b ∨ vs.ownBlock = some g) w (w1.setCell ⟨b, 1, none⟩ v1) := by
  have hs : Kp (fun g => g = b) w1 (w1.setCell ⟨b, 1, none⟩ v1) := (Kp.refl (fun g => g = b) w1).setCell (p := ⟨b, 1, none⟩) (fun _ => rfl) _
  have hlt := h.lt
  have hge := h.ge
  have hgb := h.gb
  have hne : ∀ g, v1.ownBlock = some g → g ≠ b ∧ ¬ Z g := fun g hg => by
    rcases hb g hg with h1 | h1
    · exact h.aw g h1
    · exact ⟨by omega, fun hz => by have := h.zs g hz; omega⟩
  have hk1 : k = said1.length := by
    have := ho.1
    rw [prs_len] at this
    omega
  subst hk1
  obtain ⟨m, hm⟩ := h.ml
  refine ⟨⟨(h.blk.keep hk (fun e => (h.aw b e).1 rfl)).set' 1 v1, own_keep ho hs (fun g hg => (hne g hg).1), h.ge, h.nz, hne, fun i hi => Nat.lt_of_lt_of_le (h.zs i hi) (Nat.le_trans hk.size hs.size), ⟨m, hs.cell (hk.cell hm ?_) ?_⟩, h.gb⟩, hk.trans hs (fun _ _ h => .inr h) (fun _ _ h => .inl h)⟩
  · intro e
    have : B ≤ 2 := (h.ow.lt _ e).1
    omega
  · show ¬ 2 = b
    omega
def HePost (B : Nat) (Z : Nat → Prop) (b : Nat) (l : List UInt8) (vs : Value) (w : World) (e : Ending) (w' : World) : Option Say → Prop
  | none => e = .returned (.bool false) ∧ Kp (fun g => g = b ∨ vs.ownBlock = some g) w w'
  | some said => e = .returned (.bool true) ∧ (∃ vs', XrV B Z w' b vs' l said ∧ ∀ g, vs'.ownBlock = some g → vs.ownBlock = some g ∨ w.heap.size ≤ g) ∧ Kp (fun g => g = b ∨ vs.ownBlock = some g) w w'
set_option maxRecDepth 20000 in
set_option maxHeartbeats 2000000 in
theorem hear_any (B : Nat) (Z : Nat → Prop) (b : Nat) (a : Att) (l : List UInt8) (said : Say) (vs : Value) (w : World) (h : XrV B Z w b vs l said) (hl : said.length ≤ 100000) :
    Calls Tryz.prog 55 #[.pointer (some ⟨b, 0, none⟩), .agg #[.string (S a.1.1), .string (S a.1.2), .string (S a.2)]] w fun e w' => HePost B Z b l vs w e w' (hearX said a) := by
  obtain ⟨⟨p, n⟩, v⟩ := a
  have HL := Lib.hid hl
  have hlt := h.lt
  obtain ⟨nb, hnb⟩ : ∃ g, g = w.heap.size := ⟨_, rfl⟩
  have HK0 : Hid (Kp0 w (w.alloc (.cells #[.string (S p), .string (S n), .string (S v)] 104))) := Lib.hid ((Kp.refl _ _).alloc _)
  have HB0 : Hid (Blk (w.alloc (.cells #[.string (S p), .string (S n), .string (S v)] 104)) w.heap.size 104 [.string (S p), .string (S n), .string (S v)]) := Lib.hid (blk0 w _ _)
  have H0 := Lib.hid (h.kp0 HK0.out)
  rw [← hnb] at HB0
  have HNB : Hid (¬ nb = b ∧ ∀ g, vs.ownBlock = some g → ¬ g = nb) := Lib.hid ⟨by omega, fun g hg => by have := (h.ow.lt g hg).2; omega⟩
  have HBB : Hid (B ≤ (w.alloc (.cells #[.string (S p), .string (S n), .string (S v)] 104)).heap.size) := Lib.hid (by have h1 := H0.out.lt; have h2 := h.ge; omega)
  obtain ⟨ao, cap, hvs, hc1, hc2⟩ := ownK_sl h.ow
  have HVS := Lib.hid hvs
  have HX := Lib.hid h
  clear h hl hlt hvs hc1 hc2
  have hnx : (n = xmlnsC) = ((S n).toList = [120, 109, 108, 110, 115]) := by rw [S_toList]; rfl
  by_cases hn : n = xmlnsC
  · have en : (S n).toList = [120, 109, 108, 110, 115] := by rw [S_toList]; exact hn
    have en2 : ((S n).toList == [120, 109, 108, 110, 115]) = true := by rw [en]; rfl
    by_cases hp : p = []
    · have ep : (S p).toList = [] := by rw [S_toList]; exact hp
      have HR : Hid (hearX said ((p, n), v) = some (said ++ [([], v)])) := Lib.hid (by unfold hearX; rw [if_pos (by rw [hp, hn])])
      clear hnx hn hp
      rw [HR.out]
      go_enter Tryz.func55, Tryz.ntmps55
      go_upto_region 1 with (fail)
      rw [← hnb]
      generalize (w.alloc (.cells #[.string (S p), .string (S n), .string (S v)] 104)) = w0 at H0 HB0 HK0 HBB ⊢
      clear hnb
      have q0 := HB0.out.cellV 0 rfl
      have q1 := HB0.out.cellV 1 rfl
      have q2 := HB0.out.cellV 2 rfl
      go_upto_region 2 with (fail)
      refine wp_region_px 12 [12] (fun w' : World => Kp (fun g => vs.ownBlock = some g) w0.drew w') (.quiet 0 (.quiet 1 (.quiet 2 (.quiet 3 (.quiet 4 (.quiet 5 (.quiet 6 (.quiet 7 (.eff 8 (.eff 9 (.quiet 10 (.quiet 11 (.wall 12 .done))))))))))))) (by kernel_rfl) (by kernel_rfl) (by kernel_rfl) (by kernel_rfl) (fun _ d _ _ _ h => by cases d <;> exact h) (Kp.refl _ _) ?_
      have HX8 := Lib.hid (H0.out.kp0 (Kp.refl _ _).drew)
      have HB8 := Lib.hid (HB0.out.kp0 (Kp.refl _ _).drew)
      have HK8 := Lib.hid (HK0.out.drew)
      have HBB8 : Hid (B ≤ w0.drew.heap.size) := Lib.hid HBB.out
      generalize w0.drew = w8 at HX8 HB8 HK8 HBB8 ⊢
      clear q0 q1 q2
      iterate 8 (refine px_quiet (v := ?_) rfl (by rfl) (fun wq hwq => ?_) rfl ?_; rotate_left 1; (focus (have q5 := (HX8.out.blk.keep hwq (fun e => (HX8.out.aw b e).1 rfl)).cellV 1 rfl; rw [HVS.out] at q5; have b0 := (HB8.out.keep hwq (fun e => HNB.out.2 nb e rfl)).cellV 0 rfl; have b1 := (HB8.out.keep hwq (fun e => HNB.out.2 nb e rfl)).cellV 1 rfl; have b2 := (HB8.out.keep hwq (fun e => HNB.out.2 nb e rfl)).cellV 2 rfl; go_simp; try (with_reducible rfl); done)); try simp only [List.setIfInBounds_toArray, List.set_cons_zero, List.set_cons_succ])
      refine px_eff rfl (by rfl) (fun K hK => ?_)
      go_simp
      have hkA : Kp0 w8 (w8.alloc (.cells #[.string { data := #[] }, .string (S v)] 120)) := (Kp.refl _ _).alloc _
      have HCE : Hid (∀ j u, (prs [([], v)])[j]? = some u → (w8.alloc (.cells #[.string { data := #[] }, .string (S v)] 120)).cell? ((⟨w8.heap.size, 0, none⟩ : Addr).add j) = some u) := Lib.hid (fun j u hj => by
        rw [Addr.add_lit, Nat.zero_add]
        have hB := blk0 w8 120 [.string { data := #[] }, .string (S v)]
        rw [blk_cell hB j, List.getElem?_toArray]
        exact hj)
      have HX9 := Lib.hid (HX8.out.kp0 hkA)
      have HKA := Lib.hid hkA
      generalize w8.alloc (.cells #[.string { data := #[] }, .string (S v)] 120) = w9 at HX9 HKA HCE hkA ⊢
      refine hK (fun w' => Kp (fun g => vs.ownBlock = some g) w9 w') _ _ (fun x hx => (hkA.nil _).tr hx) (Kp.refl _ _) ?_
      clear hK K hkA
      refine px_eff rfl (by rfl) (fun K hK => ?_)
      have hown9 := HX9.out.ow
      rw [HVS.out] at hown9
      refine wp_append_k (.tmp 14) (.tmp 18) 51 rfl Tryz.underlying51 infoSaid rfl (by decide) rfl hown9 ⟨w8.heap.size, 0, none⟩ 1 1 (prs [([], v)]) rfl rfl HCE.out (by intro u hu; simp [prs] at hu; rcases hu with rfl | rfl <;> rfl) (by have := HL.out; unfold maxLen; omega) (by have := HL.out; omega) (by have h1 := HKA.out.size; have h2 := HBB8.out; omega) ?_
      intro va2 wA hoA hkA hbA hnA
      obtain ⟨aoA, capA, hvaA, hcA1, hcA2⟩ := ownK_sl hoA
      subst hvaA
      rw [← HVS.out] at hkA hbA
      rw [← prs_app] at hoA
      have HTA := Lib.hid (HX9.out.putS hkA hoA hbA)
      have hfA : wA.frozen? ⟨b, 1, none⟩ = false := blk_frozen (HX9.out.blk.keep hkA (fun e => (HX9.out.aw b e).1 rfl)) 1
      have hcA : wA.cell? ⟨b, 1, none⟩ = some vs := (HX9.out.blk.keep hkA (fun e => (HX9.out.aw b e).1 rfl)).cellV 1 rfl
      have HBA := Lib.hid hbA
      refine hK (fun w' => Kp (fun g => vs.ownBlock = some g) w9 w') _ _ (fun _ h => h) hkA ?_
      have HNB2 : Hid (¬ vs.ownBlock = some nb) := Lib.hid (fun e => HNB.out.2 nb e rfl)
      have HBA2 := Lib.hid (((HB8.out.kp0 HKA.out).keep hkA HNB2.out).keep (XrV.at HX9.out (w1 := wA) 1 (.slice aoA (said.length + 1) capA)) HNB.out.1)
      clear hK K hown9 hoA hkA hbA hnA hcA1 hcA2
      simp only [Act.put, List.getElem_toArray, List.getElem_cons_succ, List.getElem_cons_zero]
      try simp only [List.setIfInBounds_toArray, List.set_cons_zero, List.set_cons_succ]
      iterate 2 (refine px_quiet (v := ?_) rfl (by rfl) (fun wq hwq => ?_) rfl ?_; rotate_left 1; (focus (clear hwq; go_simp; try (with_reducible rfl); done)); try simp only [List.setIfInBounds_toArray, List.set_cons_zero, List.set_cons_succ])
      refine px_wall rfl (by rfl) (fun K hK => ?_)
      go_simp
      refine hK (fun _ => True) _ _ trivial (px_done ?_)
      clear hK K hfA hcA
      have HKP : Hid (Kp (fun g => g = b ∨ vs.ownBlock = some g) w (wA.setCell ⟨b, 1, none⟩ (.slice aoA (said.length + 1) capA))) := Lib.hid ((HK8.out.tr HKA.out).in0 HTA.out.2)
      have HVP : Hid (∀ g, (Value.slice aoA (said.length + 1) capA).ownBlock = some g → vs.ownBlock = some g ∨ w.heap.size ≤ g) := Lib.hid (fun g hg => (HBA.out g hg).elim .inl (fun h => .inr (Nat.le_trans (HK8.out.tr HKA.out).size h)))
      have b0 := HBA2.out.cellV 0 rfl
      have b1 := HBA2.out.cellV 1 rfl
      have b2 := HBA2.out.cellV 2 rfl
      go_wp2
      all_goals go_ret
      all_goals exact ⟨rfl, ⟨_, HTA.out.1, HVP.out⟩, HKP.out⟩
    · have ep : ¬ (S p).toList = [] := by rw [S_toList]; exact hp
      have HR : Hid (hearX said ((p, n), v) = none) := Lib.hid (by unfold hearX; rw [if_neg (by simp [hp]), if_pos hn])
      clear hnx hn hp
      rw [HR.out]
      go_enter Tryz.func55, Tryz.ntmps55
      go_upto_region 1 with (fail)
      rw [← hnb]
      generalize (w.alloc (.cells #[.string (S p), .string (S n), .string (S v)] 104)) = w0 at H0 HB0 HK0 HBB ⊢
      clear hnb
      have q0 := HB0.out.cellV 0 rfl
      have q1 := HB0.out.cellV 1 rfl
      have q2 := HB0.out.cellV 2 rfl
      go_wp2
      all_goals go_ret
      all_goals exact ⟨rfl, HK0.out.nil _⟩
  · have en : ¬ (S n).toList = [120, 109, 108, 110, 115] := by rw [S_toList]; exact hn
    have en2 : ((S n).toList == [120, 109, 108, 110, 115]) = false := by rw [beq_eq_false_iff_ne]; exact en
    by_cases hp : p = xmlnsC
    · have ep : ¬ (S p).toList = [] := by rw [S_toList, hp]; decide
      have ep2 : ((S p).toList == [120, 109, 108, 110, 115]) = true := by rw [S_toList, hp]; rfl
      by_cases hv : v = []
      · have ev : (S v).toList.isEmpty = true := by rw [S_toList, hv]; rfl
        have HR : Hid (hearX said ((p, n), v) = none) := Lib.hid (by unfold hearX; rw [if_neg (by simp [hn]), if_neg hn, if_pos hp, if_pos hv])
        clear hnx hn hp hv
        rw [HR.out]
        go_enter Tryz.func55, Tryz.ntmps55
        go_upto_region 1 with (fail)
        rw [← hnb]
        generalize (w.alloc (.cells #[.string (S p), .string (S n), .string (S v)] 104)) = w0 at H0 HB0 HK0 HBB ⊢
        clear hnb
        have q0 := HB0.out.cellV 0 rfl
        have q1 := HB0.out.cellV 1 rfl
        have q2 := HB0.out.cellV 2 rfl
        go_upto_region 6 with (fail)
        refine wp_region_px 15 [15] (fun w' : World => Kp (fun g => vs.ownBlock = some g) w0.drew w') (.quiet 0 (.quiet 1 (.quiet 2 (.quiet 3 (.quiet 4 (.quiet 5 (.quiet 6 (.quiet 7 (.quiet 8 (.quiet 9 (.quiet 10 (.eff 11 (.eff 12 (.quiet 13 (.quiet 14 (.wall 15 .done)))))))))))))))) (by kernel_rfl) (by kernel_rfl) (by kernel_rfl) (by kernel_rfl) (fun _ d _ _ _ h => by cases d <;> exact h) (Kp.refl _ _) ?_
        have HX8 := Lib.hid (H0.out.kp0 (Kp.refl _ _).drew)
        have HB8 := Lib.hid (HB0.out.kp0 (Kp.refl _ _).drew)
        have HK8 := Lib.hid (HK0.out.drew)
        have HBB8 : Hid (B ≤ w0.drew.heap.size) := Lib.hid HBB.out
        generalize w0.drew = w8 at HX8 HB8 HK8 HBB8 ⊢
        clear q0 q1 q2
        iterate 11 (refine px_quiet (v := ?_) rfl (by rfl) (fun wq hwq => ?_) rfl ?_; rotate_left 1; (focus (have q5 := (HX8.out.blk.keep hwq (fun e => (HX8.out.aw b e).1 rfl)).cellV 1 rfl; rw [HVS.out] at q5; have b0 := (HB8.out.keep hwq (fun e => HNB.out.2 nb e rfl)).cellV 0 rfl; have b1 := (HB8.out.keep hwq (fun e => HNB.out.2 nb e rfl)).cellV 1 rfl; have b2 := (HB8.out.keep hwq (fun e => HNB.out.2 nb e rfl)).cellV 2 rfl; go_simp; try (with_reducible rfl); done)); try simp only [List.setIfInBounds_toArray, List.set_cons_zero, List.set_cons_succ])
        refine px_eff rfl (by rfl) (fun K hK => ?_)
        go_simp
        have hkA : Kp0 w8 (w8.alloc (.cells #[.string (S n), .string (S v)] 120)) := (Kp.refl _ _).alloc _
        have HCE : Hid (∀ j u, (prs [(n, v)])[j]? = some u → (w8.alloc (.cells #[.string (S n), .string (S v)] 120)).cell? ((⟨w8.heap.size, 0, none⟩ : Addr).add j) = some u) := Lib.hid (fun j u hj => by
          rw [Addr.add_lit, Nat.zero_add]
          have hB := blk0 w8 120 [.string (S n), .string (S v)]
          rw [blk_cell hB j, List.getElem?_toArray]
          exact hj)
        have HX9 := Lib.hid (HX8.out.kp0 hkA)
        have HKA := Lib.hid hkA
        generalize w8.alloc (.cells #[.string (S n), .string (S v)] 120) = w9 at HX9 HKA HCE hkA ⊢
        refine hK (fun w' => Kp (fun g => vs.ownBlock = some g) w9 w') _ _ (fun x hx => (hkA.nil _).tr hx) (Kp.refl _ _) ?_
        clear hK K hkA
        refine px_eff rfl (by rfl) (fun K hK => ?_)
        have hown9 := HX9.out.ow
        rw [HVS.out] at hown9
        refine wp_append_k (.tmp 36) (.tmp 43) 51 rfl Tryz.underlying51 infoSaid rfl (by decide) rfl hown9 ⟨w8.heap.size, 0, none⟩ 1 1 (prs [(n, v)]) rfl rfl HCE.out (by intro u hu; simp [prs] at hu; rcases hu with rfl | rfl <;> rfl) (by have := HL.out; unfold maxLen; omega) (by have := HL.out; omega) (by have h1 := HKA.out.size; have h2 := HBB8.out; omega) ?_
        intro va2 wA hoA hkA hbA hnA
        obtain ⟨aoA, capA, hvaA, hcA1, hcA2⟩ := ownK_sl hoA
        subst hvaA
        rw [← HVS.out] at hkA hbA
        rw [← prs_app] at hoA
        have HTA := Lib.hid (HX9.out.putS hkA hoA hbA)
        have hfA : wA.frozen? ⟨b, 1, none⟩ = false := blk_frozen (HX9.out.blk.keep hkA (fun e => (HX9.out.aw b e).1 rfl)) 1
        have hcA : wA.cell? ⟨b, 1, none⟩ = some vs := (HX9.out.blk.keep hkA (fun e => (HX9.out.aw b e).1 rfl)).cellV 1 rfl
        have HBA := Lib.hid hbA
        refine hK (fun w' => Kp (fun g => vs.ownBlock = some g) w9 w') _ _ (fun _ h => h) hkA ?_
        have HNB2 : Hid (¬ vs.ownBlock = some nb) := Lib.hid (fun e => HNB.out.2 nb e rfl)
        have HBA2 := Lib.hid (((HB8.out.kp0 HKA.out).keep hkA HNB2.out).keep (XrV.at HX9.out (w1 := wA) 1 (.slice aoA (said.length + 1) capA)) HNB.out.1)
        clear hK K hown9 hoA hkA hbA hnA hcA1 hcA2
        simp only [Act.put, List.getElem_toArray, List.getElem_cons_succ, List.getElem_cons_zero]
        try simp only [List.setIfInBounds_toArray, List.set_cons_zero, List.set_cons_succ]
        iterate 2 (refine px_quiet (v := ?_) rfl (by rfl) (fun wq hwq => ?_) rfl ?_; rotate_left 1; (focus (clear hwq; go_simp; try (with_reducible rfl); done)); try simp only [List.setIfInBounds_toArray, List.set_cons_zero, List.set_cons_succ])
        refine px_wall rfl (by rfl) (fun K hK => ?_)
        go_simp
        refine hK (fun _ => True) _ _ trivial (px_done ?_)
        clear hK K hfA hcA
        have HKP : Hid (Kp (fun g => g = b ∨ vs.ownBlock = some g) w (wA.setCell ⟨b, 1, none⟩ (.slice aoA (said.length + 1) capA))) := Lib.hid ((HK8.out.tr HKA.out).in0 HTA.out.2)
        have HVP : Hid (∀ g, (Value.slice aoA (said.length + 1) capA).ownBlock = some g → vs.ownBlock = some g ∨ w.heap.size ≤ g) := Lib.hid (fun g hg => (HBA.out g hg).elim .inl (fun h => .inr (Nat.le_trans (HK8.out.tr HKA.out).size h)))
        have b0 := HBA2.out.cellV 0 rfl
        have b1 := HBA2.out.cellV 1 rfl
        have b2 := HBA2.out.cellV 2 rfl
        go_wp2
        all_goals go_ret
        all_goals exact ⟨rfl, HKP.out⟩
      · have ev : (S v).toList.isEmpty = false := by rw [S_toList]; simpa using hv
        have HR : Hid (hearX said ((p, n), v) = some (said ++ [(n, v)])) := Lib.hid (by unfold hearX; rw [if_neg (by simp [hn]), if_neg hn, if_pos hp, if_neg hv])
        clear hnx hn hp hv
        rw [HR.out]
        go_enter Tryz.func55, Tryz.ntmps55
        go_upto_region 1 with (fail)
        rw [← hnb]
        generalize (w.alloc (.cells #[.string (S p), .string (S n), .string (S v)] 104)) = w0 at H0 HB0 HK0 HBB ⊢
        clear hnb
        have q0 := HB0.out.cellV 0 rfl
        have q1 := HB0.out.cellV 1 rfl
        have q2 := HB0.out.cellV 2 rfl
        go_upto_region 6 with (fail)
        refine wp_region_px 15 [15] (fun w' : World => Kp (fun g => vs.ownBlock = some g) w0.drew w') (.quiet 0 (.quiet 1 (.quiet 2 (.quiet 3 (.quiet 4 (.quiet 5 (.quiet 6 (.quiet 7 (.quiet 8 (.quiet 9 (.quiet 10 (.eff 11 (.eff 12 (.quiet 13 (.quiet 14 (.wall 15 .done)))))))))))))))) (by kernel_rfl) (by kernel_rfl) (by kernel_rfl) (by kernel_rfl) (fun _ d _ _ _ h => by cases d <;> exact h) (Kp.refl _ _) ?_
        have HX8 := Lib.hid (H0.out.kp0 (Kp.refl _ _).drew)
        have HB8 := Lib.hid (HB0.out.kp0 (Kp.refl _ _).drew)
        have HK8 := Lib.hid (HK0.out.drew)
        have HBB8 : Hid (B ≤ w0.drew.heap.size) := Lib.hid HBB.out
        generalize w0.drew = w8 at HX8 HB8 HK8 HBB8 ⊢
        clear q0 q1 q2
        iterate 11 (refine px_quiet (v := ?_) rfl (by rfl) (fun wq hwq => ?_) rfl ?_; rotate_left 1; (focus (have q5 := (HX8.out.blk.keep hwq (fun e => (HX8.out.aw b e).1 rfl)).cellV 1 rfl; rw [HVS.out] at q5; have b0 := (HB8.out.keep hwq (fun e => HNB.out.2 nb e rfl)).cellV 0 rfl; have b1 := (HB8.out.keep hwq (fun e => HNB.out.2 nb e rfl)).cellV 1 rfl; have b2 := (HB8.out.keep hwq (fun e => HNB.out.2 nb e rfl)).cellV 2 rfl; go_simp; try (with_reducible rfl); done)); try simp only [List.setIfInBounds_toArray, List.set_cons_zero, List.set_cons_succ])
        refine px_eff rfl (by rfl) (fun K hK => ?_)
        go_simp
        have hkA : Kp0 w8 (w8.alloc (.cells #[.string (S n), .string (S v)] 120)) := (Kp.refl _ _).alloc _
        have HCE : Hid (∀ j u, (prs [(n, v)])[j]? = some u → (w8.alloc (.cells #[.string (S n), .string (S v)] 120)).cell? ((⟨w8.heap.size, 0, none⟩ : Addr).add j) = some u) := Lib.hid (fun j u hj => by
          rw [Addr.add_lit, Nat.zero_add]
          have hB := blk0 w8 120 [.string (S n), .string (S v)]
          rw [blk_cell hB j, List.getElem?_toArray]
          exact hj)
        have HX9 := Lib.hid (HX8.out.kp0 hkA)
        have HKA := Lib.hid hkA
        generalize w8.alloc (.cells #[.string (S n), .string (S v)] 120) = w9 at HX9 HKA HCE hkA ⊢
        refine hK (fun w' => Kp (fun g => vs.ownBlock = some g) w9 w') _ _ (fun x hx => (hkA.nil _).tr hx) (Kp.refl _ _) ?_
        clear hK K hkA
        refine px_eff rfl (by rfl) (fun K hK => ?_)
        have hown9 := HX9.out.ow
        rw [HVS.out] at hown9
        refine wp_append_k (.tmp 36) (.tmp 43) 51 rfl Tryz.underlying51 infoSaid rfl (by decide) rfl hown9 ⟨w8.heap.size, 0, none⟩ 1 1 (prs [(n, v)]) rfl rfl HCE.out (by intro u hu; simp [prs] at hu; rcases hu with rfl | rfl <;> rfl) (by have := HL.out; unfold maxLen; omega) (by have := HL.out; omega) (by have h1 := HKA.out.size; have h2 := HBB8.out; omega) ?_
        intro va2 wA hoA hkA hbA hnA
        obtain ⟨aoA, capA, hvaA, hcA1, hcA2⟩ := ownK_sl hoA
        subst hvaA
        rw [← HVS.out] at hkA hbA
        rw [← prs_app] at hoA
        have HTA := Lib.hid (HX9.out.putS hkA hoA hbA)
        have hfA : wA.frozen? ⟨b, 1, none⟩ = false := blk_frozen (HX9.out.blk.keep hkA (fun e => (HX9.out.aw b e).1 rfl)) 1
        have hcA : wA.cell? ⟨b, 1, none⟩ = some vs := (HX9.out.blk.keep hkA (fun e => (HX9.out.aw b e).1 rfl)).cellV 1 rfl
        have HBA := Lib.hid hbA
        refine hK (fun w' => Kp (fun g => vs.ownBlock = some g) w9 w') _ _ (fun _ h => h) hkA ?_
        have HNB2 : Hid (¬ vs.ownBlock = some nb) := Lib.hid (fun e => HNB.out.2 nb e rfl)
        have HBA2 := Lib.hid (((HB8.out.kp0 HKA.out).keep hkA HNB2.out).keep (XrV.at HX9.out (w1 := wA) 1 (.slice aoA (said.length + 1) capA)) HNB.out.1)
        clear hK K hown9 hoA hkA hbA hnA hcA1 hcA2
        simp only [Act.put, List.getElem_toArray, List.getElem_cons_succ, List.getElem_cons_zero]
        try simp only [List.setIfInBounds_toArray, List.set_cons_zero, List.set_cons_succ]
        iterate 2 (refine px_quiet (v := ?_) rfl (by rfl) (fun wq hwq => ?_) rfl ?_; rotate_left 1; (focus (clear hwq; go_simp; try (with_reducible rfl); done)); try simp only [List.setIfInBounds_toArray, List.set_cons_zero, List.set_cons_succ])
        refine px_wall rfl (by rfl) (fun K hK => ?_)
        go_simp
        refine hK (fun _ => True) _ _ trivial (px_done ?_)
        clear hK K hfA hcA
        have HKP : Hid (Kp (fun g => g = b ∨ vs.ownBlock = some g) w (wA.setCell ⟨b, 1, none⟩ (.slice aoA (said.length + 1) capA))) := Lib.hid ((HK8.out.tr HKA.out).in0 HTA.out.2)
        have HVP : Hid (∀ g, (Value.slice aoA (said.length + 1) capA).ownBlock = some g → vs.ownBlock = some g ∨ w.heap.size ≤ g) := Lib.hid (fun g hg => (HBA.out g hg).elim .inl (fun h => .inr (Nat.le_trans (HK8.out.tr HKA.out).size h)))
        have b0 := HBA2.out.cellV 0 rfl
        have b1 := HBA2.out.cellV 1 rfl
        have b2 := HBA2.out.cellV 2 rfl
        go_wp2
        all_goals go_ret
        all_goals exact ⟨rfl, ⟨_, HTA.out.1, HVP.out⟩, HKP.out⟩
    · have ep2 : ((S p).toList == [120, 109, 108, 110, 115]) = false := by rw [beq_eq_false_iff_ne, S_toList]; exact hp
      have HR : Hid (hearX said ((p, n), v) = some said) := Lib.hid (by unfold hearX; rw [if_neg (by simp [hn]), if_neg hn, if_neg hp])
      clear hnx hn hp
      rw [HR.out]
      by_cases hp0 : (S p).toList = []
      all_goals
        go_enter Tryz.func55, Tryz.ntmps55
        go_upto_region 1 with (fail)
        rw [← hnb]
        generalize (w.alloc (.cells #[.string (S p), .string (S n), .string (S v)] 104)) = w0 at H0 HB0 HK0 HBB ⊢
        have q0 := HB0.out.cellV 0 rfl
        have q1 := HB0.out.cellV 1 rfl
        have q2 := HB0.out.cellV 2 rfl
        clear hnb
        go_wp2
        all_goals go_ret
        all_goals exact ⟨rfl, ⟨vs, H0.out, fun g hg => .inl hg⟩, HK0.out.nil _⟩
end Go.Proofs.YtchmookggegmnaaGreatDoor
namespace Go.Proofs.YtchmookggegmnaaGreatDoor
open Go Go.RowKit
theorem space_hit {said : Say} {p : List UInt8} {k : Nat} (h : k < said.length) (he : (said[k]).1 = p) (hn : (said.drop (k + 1)).all (fun x => !(x.1 == p)) = true) : spaceX said p = ((said[k]).2, true) := by
  have e : said.reverse = (said.drop (k + 1)).reverse ++ ([said[k]] ++ (said.take k).reverse) := by
    conv => lhs; rw [← List.take_append_drop k said, List.drop_eq_getElem_cons h]
    simp
  unfold spaceX
  rw [e, List.find?_append]
  have h1 : (said.drop (k + 1)).reverse.find? (fun x => x.1 == p) = none := by
    rw [List.find?_eq_none]
    intro x hx
    rw [List.mem_reverse] at hx
    have := List.all_eq_true.1 hn x hx
    simpa using this
  rw [h1]
  simp [he]
theorem space_miss {said : Say} {p : List UInt8} (hn : said.all (fun x => !(x.1 == p)) = true) : spaceX said p = ([], p == []) := by
  unfold spaceX
  have h1 : said.reverse.find? (fun x => x.1 == p) = none := by
    rw [List.find?_eq_none]
    intro x hx
    rw [List.mem_reverse] at hx
    have := List.all_eq_true.1 hn x hx
    simpa using this
  rw [h1]
set_option maxRecDepth 20000 in
set_option maxHeartbeats 2000000 in
theorem space_any (B : Nat) (Z : Nat → Prop) (b : Nat) (p l : List UInt8) (said : Say) (vs : Value) (w : World) (h : XrV B Z w b vs l said) (hl : said.length ≤ 100000) :
    Calls Tryz.prog 56 #[.pointer (some ⟨b, 0, none⟩), .string (S p)] w fun e w' => e = .returned (.tuple #[.string (S (spaceX said p).1), .bool (spaceX said p).2]) ∧ w = w' := by
  obtain ⟨ao, cap, rfl, hc1, hc2⟩ := ownK_sl h.ow
  have H := Lib.hid h
  have hc := h.c1
  obtain ⟨L, hL⟩ : ∃ L, L = said.length := ⟨_, rfl⟩
  have HL := Lib.hid hL
  rw [← hL] at hc H hl
  have hlen : (L : Int) ≤ 100000 := by omega
  have hsub : (L : Int) - 1 ≤ 100000 := by omega
  clear h hc1 hc2 hl hL
  go_enter Tryz.func56, Tryz.ntmps56
  go_wp2
  go_loopg [6] (L + 1) (fun gg i wr => ∃ (k : Nat) (j : Int), j = k - 1 ∧ i = .int .i64 j ∧ k ≤ L ∧ gg = k + 1 ∧ wr = w ∧ (said.drop k).all (fun x => !(x.1 == p)) = true)
  case atStart => exact ⟨L, _, rfl, by go_num, Nat.le_refl _, rfl, rfl, by rw [HL.out]; simp⟩
  case round =>
    obtain ⟨k, j, hj, rfl, hk, rfl, rfl, hno⟩ := hrel
    have HNO := Lib.hid hno
    have HJ := Lib.hid hj
    clear hno
    by_cases h0 : k = 0
    · have hj0 : ¬ (0 : Int) ≤ j := by omega
      have HR : Hid (spaceX said p = ([], p == [])) := Lib.hid (space_miss (by have := HNO.out; rwa [h0, List.drop_zero] at this))
      clear hj
      cases p with
      | nil =>
        have ep : (S ([] : List UInt8)).toList = [] := S_toList _
        go_wp2
        all_goals go_ret2
        all_goals exact ⟨by rw [HR.out]; rfl, rfl⟩
      | cons c p =>
        have ep : (S (c :: p)).toList.isEmpty = false := by rw [S_toList]; rfl
        have ep2 : ((S (c :: p)).toList == []) = false := by rw [S_toList]; rfl
        go_wp2
        all_goals go_ret2
        all_goals exact ⟨by rw [HR.out]; rfl, rfl⟩
    · obtain ⟨k, rfl⟩ : ∃ k', k = k' + 1 := ⟨k - 1, by omega⟩
      obtain rfl : j = (k : Int) := by omega
      have hlt : k < said.length := by rw [← HL.out]; omega
      have hkl : (k : Int) < L := by omega
      obtain ⟨g, cp, cur, hv, hb, _, _, hg, hcells⟩ := ownK_pos H.out.ow (by omega)
      simp only [Value.slice.injEq] at hv
      obtain ⟨rfl, -, rfl⟩ := hv
      have q := prs_get said k hlt
      have q0 := hcells _ _ q.1
      have q1 := hcells _ _ q.2
      obtain ⟨x, hx⟩ : ∃ x, x = said[k] := ⟨_, rfl⟩
      rw [← hx] at q0 q1
      obtain ⟨x1, x2⟩ := x
      simp only [] at q0 q1
      have HX := Lib.hid hx
      clear hcells hg hb q hj hx
      by_cases he : x1 = p
      · have HR : Hid (spaceX said p = (x2, true)) := Lib.hid (by
          have := space_hit hlt (by rw [← HX.out]; exact he) HNO.out
          rwa [← HX.out] at this)
        have e1 : ((S x1).toList == (S p).toList) = true := by rw [he]; simp
        clear he
        go_wp2
        all_goals go_ret2
        all_goals exact ⟨by rw [HR.out]; rfl, rfl⟩
      · have HNE : Hid ((said.drop k).all (fun x => !(x.1 == p)) = true) := Lib.hid (by
          rw [List.drop_eq_getElem_cons hlt, List.all_cons, HNO.out, ← HX.out]
          simp [he])
        have e1 : ((S x1).toList == (S p).toList) = false := by rw [beq_eq_false_iff_ne, S_toList, S_toList]; exact he
        clear he
        go_wp2
        go_roundg (k + 1)
        case measure => omega
        case rel => exact ⟨k, _, rfl, rfl, by omega, rfl, rfl, HNE.out⟩
end Go.Proofs.YtchmookggegmnaaGreatDoor
