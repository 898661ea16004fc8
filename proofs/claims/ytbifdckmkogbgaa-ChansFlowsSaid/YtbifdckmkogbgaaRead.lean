/- What the calls of package wire's reader do: its state is what is left to be read, or that it has failed. -/
import Derived.Test.YtbifdckmkogbgaaWire
import Derived.BigQuiet
import Derived.Deep.QuietTactic
namespace Go.Proofs.Ytbifdckmkogbgaa
open Go Go.RowKit

/-- The reader's block. -/
def RB (w : World) (b : Nat) (s : ByteArray) (f : Bool) : Prop := w.heap[b]? = some (.cells #[.string s, .bool f] 77 (0, 0))
def rview (s : ByteArray) (f : Bool) : Option (List UInt8) := if f then none else some s.toList
/-- Reader b is in state st: what is left, or none: it has failed. -/
def Rs (w : World) (b : Nat) (st : Option (List UInt8)) : Prop := ∃ s f, RB w b s f ∧ rview s f = st
abbrev At (b : Nat) : Nat → Prop := fun k => k = b
theorem Rs.keep {w w' : World} {b : Nat} {st : Option (List UInt8)} (h : Rs w b st) {S : Nat → Prop} (hk : Kp S w w') (hs : ¬ S b) : Rs w' b st := by
  obtain ⟨s, f, h1, h2⟩ := h; exact ⟨s, f, blk_keep hk h1 hs, h2⟩
theorem Rs.lt {w : World} {b : Nat} {st : Option (List UInt8)} (h : Rs w b st) : b < w.heap.size := by
  obtain ⟨s, f, h1, h2⟩ := h; exact blk_lt h1

def takeS (st : Option (List UInt8)) (n : Int) : List UInt8 × Option (List UInt8) :=
  match st with
  | none => ([], none)
  | some l => if 0 ≤ n ∧ n ≤ (l.length : Int) then (l.take n.toNat, some (l.drop n.toNat)) else ([], none)

theorem from_any (v : Value) (xs : List UInt8) (w : World) (hv : Rd w v (bys xs)) :
    Calls Try.prog 42 #[v] w fun e w' => ∃ b, e = .returned (.pointer (some ⟨b, 0, none⟩)) ∧ w.heap.size ≤ b ∧ Rs w' b (some xs) ∧ Kp0 w w' := by
  have hcv := run_string_of (P := Try.prog) (w := w) 33 5 9 Try.underlying33 Try.underlying5 Try.underlying9 hv
  obtain ⟨s0, hs0⟩ : ∃ s0 : ByteArray, s0 = ⟨xs.toArray⟩ := ⟨_, rfl⟩
  rw [← hs0] at hcv
  have E0 := Lib.hid hs0
  clear hs0 hv
  go_enter Try.func42, Try.ntmps42
  go_wp2
  go_ret
  refine ⟨w.heap.size, rfl, Nat.le_refl _, ⟨s0, false, heap_alloc_new w _, ?_⟩, (Kp.refl _ w).alloc _⟩
  rw [E0.out]; simp [rview]

theorem RB.facts {w : World} {b : Nat} {s : ByteArray} {f : Bool} (h : RB w b s f) :
    w.cell? ⟨b, 0, none⟩ = some (.string s) ∧ w.cell? ⟨b, 1, none⟩ = some (.bool f) ∧ w.frozen? ⟨b, 0, none⟩ = false ∧ w.frozen? ⟨b, 1, none⟩ = false :=
  ⟨blk_cell h 0, blk_cell h 1, blk_frozen h 0, blk_frozen h 1⟩

theorem ok_rb (b : Nat) (s : ByteArray) (f : Bool) (w : World) (h : RB w b s f) :
    Calls Try.prog 48 #[.pointer (some ⟨b, 0, none⟩)] w fun e w' => e = .returned (.bool (!f)) ∧ w = w' := by
  obtain ⟨c0, c1, f0, f1⟩ := h.facts
  clear h
  cases f
  all_goals
    go_enter Try.func48, Try.ntmps48
    go_wp2
    go_ret
    exact ⟨rfl, rfl⟩
theorem fail_rb (b : Nat) (s : ByteArray) (f : Bool) (w : World) (h : RB w b s f) :
    Calls Try.prog 57 #[.pointer (some ⟨b, 0, none⟩)] w fun e w' => e = .returned (.tuple #[]) ∧ RB w' b .empty true ∧ Kp (At b) w w' := by
  obtain ⟨c0, c1, f0, f1⟩ := h.facts
  have H := Lib.hid h
  clear h
  go_enter Try.func57, Try.ntmps57
  go_wp2
  go_end0
  refine ⟨rfl, ?_, ((Kp.refl (At b) w).setCell (fun _ => rfl) _).setCell (fun _ => rfl) _⟩
  have := blk_set (blk_set H.out 0 (.string .empty)) 1 (.bool true)
  exact this
theorem take_rb (b : Nat) (n : Int) (st : Option (List UInt8)) (w : World) (h : Rs w b st) :
    Calls Try.prog 56 #[.pointer (some ⟨b, 0, none⟩), .int .i64 n] w fun e w' => ∃ t, e = .returned (.string t) ∧ t.toList = (takeS st n).1 ∧ Rs w' b (takeS st n).2 ∧ Kp (At b) w w' := by
  obtain ⟨s, f, hb, rfl⟩ := h
  cases f
  · obtain ⟨c0, c1, f0, f1⟩ := hb.facts
    have HB := Lib.hid hb
    clear hb
    by_cases hn : 0 ≤ n ∧ n ≤ (s.size : Int)
    · have HT : Hid (takeS (rview s false) n = (s.toList.take n.toNat, some (s.toList.drop n.toNat))) := Lib.hid (by
        have := size_toList s
        simp only [takeS, rview]
        rw [if_neg (by simp)]
        simp only []
        rw [if_pos (by omega)])
      obtain ⟨hn1, hn2⟩ := hn
      go_enter Try.func56, Try.ntmps56
      go_wp2_with fail
      refine (ok_rb b s false _ HB.out).mono ?_
      rintro e w' ⟨rfl, rfl⟩
      go_wp2
      go_ret
      refine ⟨_, rfl, ?_, ⟨s.extract n.toNat s.size, false, ?_, ?_⟩, (Kp.refl (At b) w).setCell (fun _ => rfl) _⟩
      · rw [HT.out, extract_toList]; simp
      · exact blk_set HB.out 0 _
      · rw [HT.out]
        simp only [rview]
        rw [if_neg (by simp), extract_toList, List.take_of_length_le (by rw [List.length_drop, size_toList]; omega)]
    · have HT : Hid (takeS (rview s false) n = ([], none)) := Lib.hid (by
        have := size_toList s
        simp only [takeS, rview]
        rw [if_neg (by simp)]
        simp only []
        rw [if_neg (by omega)])
      by_cases hn0 : n < 0
      all_goals
        first | (have hn1 : (s.size : Int) < n := by omega) | skip
        clear hn
        go_enter Try.func56, Try.ntmps56
        go_wp2_with fail
        refine (ok_rb b s false _ HB.out).mono ?_
        rintro e w' ⟨rfl, rfl⟩
        go_wp2_with fail
        refine (fail_rb b s false _ HB.out).mono ?_
        rintro e w' ⟨rfl, hb2, hk⟩
        have HB2 := Lib.hid hb2
        clear hb2
        go_wp2
        go_ret
        exact ⟨_, rfl, by rw [HT.out]; exact nil_toList, ⟨_, _, HB2.out, by rw [HT.out]; rfl⟩, hk⟩
  · go_enter Try.func56, Try.ntmps56
    have HB := Lib.hid hb
    clear hb
    go_wp2_with fail
    refine (ok_rb b s true _ HB.out).mono ?_
    rintro e w' ⟨rfl, rfl⟩
    go_wp2
    go_ret
    exact ⟨_, rfl, nil_toList, ⟨s, true, HB.out, rfl⟩, Kp.refl _ _⟩

theorem ok_rs (b : Nat) (st : Option (List UInt8)) (w : World) (h : Rs w b st) :
    Calls Try.prog 48 #[.pointer (some ⟨b, 0, none⟩)] w fun e w' => e = .returned (.bool st.isSome) ∧ w = w' := by
  obtain ⟨s, f, hb, rfl⟩ := h
  refine (ok_rb b s f w hb).mono ?_
  rintro e w' ⟨rfl, rfl⟩
  exact ⟨by cases f <;> rfl, rfl⟩
theorem fail_rs (b : Nat) (st : Option (List UInt8)) (w : World) (h : Rs w b st) :
    Calls Try.prog 57 #[.pointer (some ⟨b, 0, none⟩)] w fun e w' => e = .returned (.tuple #[]) ∧ Rs w' b none ∧ Kp (At b) w w' := by
  obtain ⟨s, f, hb, rfl⟩ := h
  refine (fail_rb b s f w hb).mono ?_
  rintro e w' ⟨rfl, hb2, hk⟩
  exact ⟨rfl, ⟨_, _, hb2, rfl⟩, hk⟩
theorem end_rs (b : Nat) (st : Option (List UInt8)) (w : World) (h : Rs w b st) :
    Calls Try.prog 49 #[.pointer (some ⟨b, 0, none⟩)] w fun e w' => e = .returned (.bool (decide (st = some []))) ∧ w = w' := by
  obtain ⟨s, f, hb, rfl⟩ := h
  obtain ⟨c0, c1, f0, f1⟩ := hb.facts
  have HB := Lib.hid hb
  clear hb
  cases f
  · by_cases h : 0 < s.size
    all_goals
      first | (have hne := ne_empty h) | (have hne := toList_nil h)
      go_enter Try.func49, Try.ntmps49
      go_wp2_with fail
      refine (ok_rb b s false _ HB.out).mono ?_
      rintro e w' ⟨rfl, rfl⟩
      go_wp2
      go_ret
      refine ⟨?_, rfl⟩
      simp [rview, hne]
      try simpa using hne
  · go_enter Try.func49, Try.ntmps49
    go_wp2_with fail
    refine (ok_rb b s true _ HB.out).mono ?_
    rintro e w' ⟨rfl, rfl⟩
    go_wp2
    go_ret
    exact ⟨by simp [rview], rfl⟩

def beNat : List UInt8 → Nat
  | [a, b, c, d] => a.toNat * 16777216 + b.toNat * 65536 + c.toNat * 256 + d.toNat
  | _ => 0
def u32S (st : Option (List UInt8)) : Nat × Option (List UInt8) := (beNat (takeS st 4).1, (takeS st 4).2)
theorem takeS_len (st : Option (List UInt8)) (n : Nat) : (takeS st n).1 = [] ∨ (takeS st n).1.length = n := by
  unfold takeS
  split
  · exact .inl rfl
  · split
    · right; simp; omega
    · exact .inl rfl
theorem str_get4 (s : ByteArray) (n0 : 0 < s.size) (n1 : 1 < s.size) (n2 : 2 < s.size) (n3 : 3 < s.size) (h : s.size = 4) : s.toList = [s[0]'n0, s[1]'n1, s[2]'n2, s[3]'n3] := by
  have hl : s.data.toList.length = 4 := by rw [Array.length_toList]; exact h
  rw [ByteArray.toList_eq]
  have g : ∀ i (hi : i < s.size), s[i] = s.data.toList[i]'(by rw [hl]; omega) := fun i hi => by simp; rfl
  rw [g 0, g 1, g 2, g 3]
  match e : s.data.toList, hl with
  | [a, b, c, d], _ => simp

theorem w32 (n : Int) (h0 : 0 ≤ n) (h1 : n < 2 ^ 32) : IntKind.u32.wrap n = n := by rw [IntKind.wrap_u32]; omega
theorem join4 (a b c d : UInt8) : Ending.returned (.int .u32 (bits BinOp.or IntKind.u32 (bits BinOp.or IntKind.u32 (bits BinOp.or IntKind.u32 ((a.toNat : Int) % 4294967296 * 16777216 % 4294967296) ((b.toNat : Int) % 4294967296 * 65536 % 4294967296)) ((c.toNat : Int) % 4294967296 * 256 % 4294967296)) ((d.toNat : Int) % 4294967296))) =
    Ending.returned (.int .u32 ((beNat [a, b, c, d] : Nat) : Int)) := by
  have ha := a.toNat_lt
  have hb := b.toNat_lt
  have hc := c.toNat_lt
  have hd := d.toNat_lt
  have e1 : (a.toNat : Int) % 4294967296 * 16777216 % 4294967296 = a.toNat * 16777216 := by omega
  have e2 : (b.toNat : Int) % 4294967296 * 65536 % 4294967296 = b.toNat * 65536 := by omega
  have e3 : (c.toNat : Int) % 4294967296 * 256 % 4294967296 = c.toNat * 256 := by omega
  have e4 : (d.toNat : Int) % 4294967296 = d.toNat := by omega
  rw [e1, e2, e3, e4]
  rw [bits_join .u32 32 (by decide) w32 24 ((a.toNat : Int) * 16777216) ((b.toNat : Int) * 65536) (by omega) (by omega) (by omega) (by omega) (by omega) (by omega)]
  rw [bits_join .u32 32 (by decide) w32 16 ((a.toNat : Int) * 16777216 + (b.toNat : Int) * 65536) ((c.toNat : Int) * 256) (by omega) (by omega) (by omega) (by omega) (by omega) (by omega)]
  rw [bits_join .u32 32 (by decide) w32 8 ((a.toNat : Int) * 16777216 + (b.toNat : Int) * 65536 + (c.toNat : Int) * 256) (d.toNat : Int) (by omega) (by omega) (by omega) (by omega) (by omega) (by omega)]
  simp only [beNat]
  congr 2
theorem beNat_lt (l : List UInt8) : beNat l < 4294967296 := by
  unfold beNat
  split
  · rename_i a b c d
    have ha := a.toNat_lt; have hb := b.toNat_lt; have hc := c.toNat_lt; have hd := d.toNat_lt
    omega
  · omega

theorem u32_rs (b : Nat) (st : Option (List UInt8)) (w : World) (h : Rs w b st) :
    Calls Try.prog 44 #[.pointer (some ⟨b, 0, none⟩)] w fun e w' => e = .returned (.int .u32 ((u32S st).1 : Int)) ∧ Rs w' b (u32S st).2 ∧ Kp (At b) w w' := by
  have H := Lib.hid h
  clear h
  go_enter Try.func44, Try.ntmps44
  go_wp2_with fail
  refine (take_rb b 4 st _ H.out).mono ?_
  rintro e w' ⟨t, rfl, ht, hr, hk⟩
  have hlen := takeS_len st 4
  rw [show ((4 : Nat) : Int) = 4 from rfl, ← ht] at hlen
  have HR := Lib.hid hr
  have HT := Lib.hid ht
  clear hr ht
  by_cases h : 0 < t.size
  · have h4 : t.size = 4 := by
      rw [← size_toList]
      rcases hlen with h0 | h0
      · have := size_toList t; rw [h0] at this; simp at this; omega
      · exact h0
    have hne := ne_empty h
    have b0 : (0 : Int) < (t.size : Int) := by omega
    have b1 : (1 : Int) < (t.size : Int) := by omega
    have b2 : (2 : Int) < (t.size : Int) := by omega
    have b3 : (3 : Int) < (t.size : Int) := by omega
    have n0 : 0 < t.size := by omega
    have n1 : 1 < t.size := by omega
    have n2 : 2 < t.size := by omega
    have n3 : 3 < t.size := by omega
    have HG := Lib.hid (str_get4 t n0 n1 n2 n3 h4)
    clear hlen h4
    go_wp2_with fail
    go_quiet (fail)
    go_wp2
    go_ret
    refine ⟨?_, HR.out, hk.drewN nq⟩
    refine (join4 (t[0]'n0) (t[1]'n1) (t[2]'n2) (t[3]'n3)).trans ?_
    unfold u32S
    rw [← HT.out, HG.out]
  · have hne := toList_nil h
    clear hlen
    go_wp2
    go_ret
    refine ⟨?_, HR.out, hk⟩
    unfold u32S
    simp only [← HT.out]
    rw [hne]; rfl

def textS (st : Option (List UInt8)) : List UInt8 × Option (List UInt8) :=
  if 16384 < (u32S st).1 then ([], none) else takeS (u32S st).2 ((u32S st).1 : Int)
theorem textS_len (st : Option (List UInt8)) : (textS st).1.length ≤ 16384 := by
  unfold textS
  split
  · simp
  · rcases takeS_len (u32S st).2 (u32S st).1 with h | h
    · rw [h]; simp
    · omega
theorem text_rs (b : Nat) (st : Option (List UInt8)) (w : World) (h : Rs w b st) :
    Calls Try.prog 45 #[.pointer (some ⟨b, 0, none⟩)] w fun e w' => ∃ t, e = .returned (.string t) ∧ t.toList = (textS st).1 ∧ Rs w' b (textS st).2 ∧ Kp (At b) w w' := by
  have H := Lib.hid h
  clear h
  obtain ⟨n, hn⟩ : ∃ n, n = (u32S st).1 := ⟨_, rfl⟩
  have hlt : n < 4294967296 := by rw [hn]; exact beNat_lt _
  have HN := Lib.hid hn
  clear hn
  go_enter Try.func45, Try.ntmps45
  go_wp2_with fail
  refine (u32_rs b st _ H.out).mono ?_
  rintro e w1 ⟨rfl, hr, hk⟩
  rw [← HN.out]
  have HR := Lib.hid hr
  clear hr
  by_cases h : 16384 < n
  · have HT : Hid (textS st = ([], none)) := Lib.hid (by unfold textS; rw [if_pos (by rw [← HN.out]; exact h)])
    go_wp2_with fail
    refine (fail_rs b _ _ HR.out).mono ?_
    rintro e w2 ⟨rfl, hr2, hk2⟩
    have HR2 := Lib.hid hr2
    clear hr2
    go_wp2
    go_ret
    exact ⟨_, rfl, by rw [HT.out]; exact nil_toList, by rw [HT.out]; exact HR2.out, hk.tr hk2⟩
  · have HT : Hid (textS st = takeS (u32S st).2 n) := Lib.hid (by unfold textS; rw [if_neg (by rw [← HN.out]; exact h), ← HN.out])
    go_wp2_with fail
    refine (take_rb b n _ _ HR.out).mono ?_
    rintro e w2 ⟨t, rfl, ht, hr2, hk2⟩
    have HR2 := Lib.hid hr2
    have HT2 := Lib.hid ht
    clear hr2 ht
    go_wp2
    go_ret
    exact ⟨_, rfl, by rw [HT.out]; exact HT2.out, by rw [HT.out]; exact HR2.out, hk.tr hk2⟩

def intP (l : List UInt8) (st : Option (List UInt8)) : List UInt8 × Option (List UInt8) :=
  if hiB l then ([], none) else
  match l with
  | [] => ([], st)
  | c :: l => if c = 0 then (if hiB l then (l, st) else ([], none)) else (c :: l, st)
def intS (st : Option (List UInt8)) : List UInt8 × Option (List UInt8) := intP (textS st).1 (textS st).2
theorem intP_c0 {l l' : List UInt8} {c : UInt8} (st : Option (List UInt8)) (h : l = c :: l') (hc : c = 0) : intP l st = if hiB l' then (l', st) else ([], none) := by
  subst h; subst hc; unfold intP; rw [if_neg (by simp [hiB])]; simp
theorem intP_c1 {l l' : List UInt8} {c : UInt8} (st : Option (List UInt8)) (h : l = c :: l') (hc : ¬ c = 0) (hb : hiB l = false) : intP l st = (l, st) := by
  unfold intP; rw [hb]; subst h; simp [hc]
theorem intP_hi {l : List UInt8} (st : Option (List UInt8)) (hb : hiB l = true) : intP l st = ([], none) := by
  unfold intP; rw [hb]; rfl
theorem intP_nil {l : List UInt8} (st : Option (List UInt8)) (h : l = []) : intP l st = (l, st) := by
  subst h; rfl
end Go.Proofs.Ytbifdckmkogbgaa
