/- The reader's other calls: bytes, names, and a reader that is none. -/
import Derived.Test.YtbifdckmkogbgaaRead
namespace Go.Proofs.Ytbifdckmkogbgaa
open Go Go.RowKit

def headNat : List UInt8 → Nat
  | [] => 0
  | c :: _ => c.toNat
def byteS (st : Option (List UInt8)) : Nat × Option (List UInt8) := (headNat (takeS st 1).1, (takeS st 1).2)
theorem headNat_get (s : ByteArray) (h : 0 < s.size) : headNat s.toList = (s[0]'h).toNat := by rw [str_get0 s h]; rfl
theorem headNat_lt (l : List UInt8) : headNat l < 256 := by
  cases l with
  | nil => decide
  | cons c l => exact c.toNat_lt

theorem byte_rs (b : Nat) (st : Option (List UInt8)) (w : World) (h : Rs w b st) :
    Calls Try.prog 43 #[.pointer (some ⟨b, 0, none⟩)] w fun e w' => e = .returned (.int .u8 ((byteS st).1 : Int)) ∧ Rs w' b (byteS st).2 ∧ Kp (At b) w w' := by
  have H := Lib.hid h
  clear h
  go_enter Try.func43, Try.ntmps43
  go_wp2_with fail
  refine (take_rb b 1 st _ H.out).mono ?_
  rintro e w' ⟨t, rfl, ht, hr, hk⟩
  have HR := Lib.hid hr
  have HT := Lib.hid ht
  clear hr ht
  by_cases h : 0 < t.size
  · have hne := ne_empty h
    have HG := Lib.hid (headNat_get t h)
    go_wp2
    go_ret
    have e : (byteS st).1 = (t[0]'h).toNat := by unfold byteS; rw [← HT.out, HG.out]
    exact ⟨by rw [e]; rfl, HR.out, hk⟩
  · have hne := toList_nil h
    have HN := Lib.hid hne
    go_wp2
    go_ret
    exact ⟨by unfold byteS; rw [← HT.out, HN.out]; rfl, HR.out, hk⟩

theorem flag_rs (b : Nat) (st : Option (List UInt8)) (w : World) (h : Rs w b st) :
    Calls Try.prog 58 #[.pointer (some ⟨b, 0, none⟩)] w fun e w' => e = .returned (.bool (decide (¬ (byteS st).1 = 0))) ∧ Rs w' b (byteS st).2 ∧ Kp (At b) w w' := by
  have H := Lib.hid h
  clear h
  obtain ⟨n, hn⟩ : ∃ n, n = (byteS st).1 := ⟨_, rfl⟩
  have HN := Lib.hid hn
  clear hn
  by_cases h0 : n = 0
  all_goals
    first
      | (have hb : ((n : Int) != 0) = false := by rw [h0]; rfl)
      | (have hb : ((n : Int) != 0) = true := by rw [bne_iff_ne]; omega)
    have H0 := Lib.hid h0
    clear h0
    go_enter Try.func58, Try.ntmps58
    go_wp2_with fail
    refine (byte_rs b st _ H.out).mono ?_
    rintro e w' ⟨rfl, hr, hk⟩
    have HR := Lib.hid hr
    clear hr
    rw [← HN.out]
    go_wp2
    go_ret
    exact ⟨by rw [← HN.out]; have := H0.out; simp [this], HR.out, hk⟩

/-- The library's largest needle stands where it stood. -/
def Gm (w : World) : Prop := ∃ m, w.cell? ⟨0, 0, none⟩ = some (.int .i64 m)
theorem Gm.keep {S : Nat → Prop} {w w' : World} (h : Gm w) (hk : Kp S w w') (hs : ¬ S 0) : Gm w' := by obtain ⟨m, hm⟩ := h; exact ⟨m, hk.cell hm hs⟩

end Go.Proofs.Ytbifdckmkogbgaa
