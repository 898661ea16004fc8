/- Package frame: bytes taken off those that wait; heads. -/
import Derived.Test.YtmmbhmfbhleglaaDoorDc
namespace Go.Proofs.YtmmbhmfbhleglaaDoor
open Go Go.RowKit
theorem Ow.shapeO {B : Nat} {e : TypeId} {w : World} {v : Value} {l : List UInt8} (h : Ow B e w v (bys l)) : (v = .slice none 0 0 ∧ l = []) ∨ ∃ g o cap, v = .slice (some ⟨g, o, none⟩) l.length cap ∧ l.length ≤ cap ∧ cap ≤ 9223372036854775807 := by
  rcases h with ⟨rfl, h2⟩ | ⟨g, o, cap, cur, rfl, _, _, h1, h2, _⟩
  · left
    refine ⟨rfl, ?_⟩
    cases l with
    | nil => rfl
    | cons c l => simp [bys] at h2
  · right
    rw [bys_len] at h1
    exact ⟨g, o, cap, by rw [bys_len], h1, h2⟩
theorem bys_drop (l : List UInt8) (n : Nat) : (bys l).drop n = bys (l.drop n) := by simp [bys]
set_option maxRecDepth 20000 in
theorem drop_any (B : Nat) (Z : Nat → Prop) (b : Nat) (s : St) (n : Nat) (w : World) (h : Dc B Z w b s) (hn : n ≤ s.W.length) :
    Calls Tryd.prog 21 #[.pointer (some ⟨b, 0, none⟩), .int .i64 n] w fun e w' => e = .returned (.tuple #[]) ∧ Dc B Z w' b { s with W := s.W.drop n } ∧ Kp (fun g => g = b) w w' := by
  obtain ⟨vw, vp, h⟩ := h
  obtain ⟨W, M, ch, ov⟩ := s
  simp only [] at hn
  have H := Lib.hid h
  have hc0 := h.c0
  have hf := h.fz 0
  obtain ⟨L, hL⟩ : ∃ L, L = W.length := ⟨_, rfl⟩
  have HLL := Lib.hid hL
  rw [← hL] at hn
  by_cases hlt : n < L
  · obtain ⟨g, o, cap, rfl, hc1, hc2, _⟩ := h.ow.posB (by simp only []; omega)
    have e : sliced (some ⟨g, o, none⟩) n L cap 1 = .slice (some ⟨g, o + n, none⟩) (L - n) (cap - n) := by
      simp only [] at hc1
      unfold sliced
      rw [if_neg (by omega)]
      simp [Addr.add_lit]
    have ho := h.ow.cut n (by simp only []; omega)
    simp only [] at ho hc0 hc1
    rw [← hL] at ho hc0 hc1
    rw [e, bys_drop] at ho
    have HD := Lib.hid (h.setW (Kp.refl _ _) ho (fun g' hg' => .inl (by simpa [Value.ownBlock] using hg')))
    have hcn : ¬ cap = n := by omega
    have hcx := hcn
    have hLi : (n : Int) < L := by omega
    clear h hL hn ho e
    go_enter Tryd.func21, Tryd.ntmps21
    go_wp2
    all_goals go_end0
    all_goals exact ⟨rfl, HD.out.1.dc, (Kp.refl (fun g => g = b) w).setCell (p := ⟨b, 0, none⟩) (fun _ => rfl) _⟩
  · obtain rfl : n = L := by omega
    have hnil : W.drop n = [] := List.drop_eq_nil_of_le (by omega)
    have fin : ∀ (v1 : Value), Ow B 5 w v1 (bys []) → (∀ g, v1.ownBlock = some g → vw.ownBlock = some g) →
        Dc B Z ((w.setCell ⟨b, 0, none⟩ v1).setCell ⟨b, 0, none⟩ (.slice none 0 0)) b ⟨W.drop n, M, ch, ov⟩ ∧ Kp (fun g => g = b) w ((w.setCell ⟨b, 0, none⟩ v1).setCell ⟨b, 0, none⟩ (.slice none 0 0)) := by
      intro v1 ho hv
      obtain ⟨h1, k1⟩ := h.setW (Kp.refl _ _) ho (fun g' hg' => .inl (hv g' hg'))
      obtain ⟨h2, k2⟩ := h1.setW (Kp.refl _ _) (Ow.nil B _ _) (l := []) (fun g' hg' => by cases hg')
      rw [hnil]
      exact ⟨h2.dc, ((Kp.refl (fun g => g = b) w).setCell (p := ⟨b, 0, none⟩) (fun _ => rfl) _).setCell (p := ⟨b, 0, none⟩) (fun _ => rfl) _⟩
    have FIN := Lib.hid fin
    clear fin
    rcases h.ow.shapeO with ⟨rfl, hW⟩ | ⟨g, o, cap, rfl, hc1, hc2⟩
    · simp only [] at hW
      subst hW
      obtain rfl : n = 0 := hL
      have HO := Lib.hid (Ow.nil B 5 w)
      clear h hn hlt hnil
      go_enter Tryd.func21, Tryd.ntmps21
      go_wp2
      all_goals go_end0
      all_goals exact ⟨rfl, FIN.out _ HO.out (fun _ h => h)⟩
    · have ho := h.ow.cut n (by simp only []; omega)
      simp only [] at ho hc0 hc1
      rw [← hL] at ho hc0 hc1
      rw [bys_drop, hnil] at ho
      by_cases hcn : cap = n
      · have e : sliced (some ⟨g, o, none⟩) n n cap 1 = .slice (some ⟨g, o, none⟩) 0 0 := by
          unfold sliced
          rw [if_pos hcn]
          simp [hcn]
        rw [e] at ho
        subst hcn
        have HO := Lib.hid ho
        clear h hL hn hlt ho e hnil
        go_enter Tryd.func21, Tryd.ntmps21
        go_wp2
        all_goals go_end0
        all_goals exact ⟨rfl, FIN.out _ HO.out (fun _ h => h)⟩
      · have e : sliced (some ⟨g, o, none⟩) n n cap 1 = .slice (some ⟨g, o + n, none⟩) 0 (cap - n) := by
          unfold sliced
          rw [if_neg hcn]
          simp [Addr.add_lit]
        rw [e] at ho
        have HO := Lib.hid ho
        clear h hL hn hlt ho e hnil
        go_enter Tryd.func21, Tryd.ntmps21
        go_wp2
        all_goals go_end0
        all_goals exact ⟨rfl, FIN.out _ HO.out (fun _ h => h)⟩
end Go.Proofs.YtmmbhmfbhleglaaDoor
