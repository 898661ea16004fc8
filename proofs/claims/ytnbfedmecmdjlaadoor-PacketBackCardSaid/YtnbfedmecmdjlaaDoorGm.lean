/- What each call of package wire's writers does, said of what slices read as. What the calls of package wire's reader do: its state is what is left to be read, or that it has failed. -/
import Derived.Test.YtnbfedmecmdjlaaDoorRows
import Derived.Test.YtnbfedmecmdjlaaDoorGa
import Derived.BigQuiet
import Derived.Deep.QuietTactic
namespace Go.Proofs.YtnbfedmecmdjlaaDoor
open Go Go.RowKit

theorem infoU8 : (Tryd.prog.info? 5).map (fun i => (i.zero, i.size, i.bytes)) = some (some (.int .u8 0), 1, 1) := by kernel_rfl

def be4 (n : Nat) : List UInt8 := [UInt8.ofNat (n / 16777216), UInt8.ofNat (n / 65536), UInt8.ofNat (n / 256), UInt8.ofNat n]
def encText (l : List UInt8) : List UInt8 := be4 l.length ++ l
def stripZ : List UInt8 → List UInt8
  | [] => []
  | c :: l => if c = 0 then stripZ l else c :: l
def hiB : List UInt8 → Bool
  | [] => false
  | c :: _ => decide (128 ≤ c.toNat)
def signed (l : List UInt8) : List UInt8 := if hiB l then 0 :: l else l
def encInt (l : List UInt8) : List UInt8 := encText (signed (stripZ l))
theorem stripZ_len (l : List UInt8) : (stripZ l).length ≤ l.length := by
  induction l with
  | nil => simp [stripZ]
  | cons c l ih => unfold stripZ; split <;> simp <;> omega
theorem str_get0 (s : ByteArray) (h : 0 < s.size) : s.toList = s[0] :: s.toList.tail := by
  have hl : 0 < s.data.toList.length := by rw [Array.length_toList]; exact h
  rw [ByteArray.toList_eq]
  cases e : s.data.toList with
  | nil => rw [e] at hl; simp at hl
  | cons c l =>
    simp only [List.tail_cons]
    have : s[0] = c := by
      show s.data[0] = c
      have h2 : s.data.toList[0]'hl = c := by simp [e]
      simpa using h2
    rw [this]


theorem hiB_get (s : ByteArray) (h : 0 < s.size) : hiB s.toList = decide ((128 : Int) ≤ ((s[0]).toNat : Int)) := by
  rw [str_get0 s h]; simp only [hiB]
  by_cases hc : 128 ≤ (s[0]).toNat
  · rw [decide_eq_true hc, decide_eq_true (by omega)]
  · rw [decide_eq_false hc, decide_eq_false (by omega)]
theorem toList_nil {s : ByteArray} (h : ¬ 0 < s.size) : s.toList = [] := List.eq_nil_of_length_eq_zero (by rw [size_toList]; omega)
theorem toList_ne {s : ByteArray} (h : 0 < s.size) : ¬ s.toList = [] := fun e => by have := size_toList s; rw [e] at this; simp at this; omega

set_option maxHeartbeats 400000 in
theorem behind_any (v p : Value) (xs ys : List UInt8) (w : World) (hv : Rd w v (bys xs)) (hp : Rd w p (bys ys)) (h0 : 0 < ys.length) (hl : xs.length + ys.length ≤ 1000000000) :
    Calls Tryd.prog 55 #[v, p] w fun e w' => ∃ v', e = .returned v' ∧ Own w.heap.size 5 w' v' (bys (xs ++ ys)) ∧ Kp0 w w' := by
  have HV := Lib.hid hv
  have HP := Lib.hid hp
  obtain ⟨ao, cap, rfl, h1, h2, h3⟩ := hv.shapeB
  obtain ⟨bo, cap2, rfl, h4, h5, h6⟩ := hp.shapeB
  clear hv hp
  go_enter Tryd.func55, Tryd.ntmps55
  go_wp2_with (at_builtin; refine wl_append_full rfl _ _ 32 rfl Tryd.underlying32 infoU8 rfl rfl rfl HV.out.clip HP.out (bys_one _) (by rw [bys_len]; exact h0) (by rw [bys_len, bys_len]; unfold maxLen; omega) (by rw [bys_len, bys_len]; omega) ?_)
  intro v' w' ho hg
  go_wp2
  go_ret
  exact ⟨v', rfl, by rw [bys_app]; exact ho, (Kp.refl _ w).grown hg (by simp)⟩

theorem u8_ofNat (k : Nat) : ((UInt8.ofNat k).toNat : Int) = (k : Int) % 256 := by
  have : (UInt8.ofNat k).toNat = k % 256 := by simp
  omega
theorem bys_be4 (m : Nat) (h : m < 4294967296) : #[Value.int .u8 ((m : Int) / 16777216), Value.int .u8 ((m : Int) / 65536 % 256), Value.int .u8 ((m : Int) / 256 % 256), Value.int .u8 ((m : Int) % 256)].toList = bys (be4 m) := by
  simp only [be4, bys, List.map_cons, List.map_nil, u8_ofNat]
  have e1 : ((m / 16777216 : Nat) : Int) % 256 = (m : Int) / 16777216 := by omega
  have e2 : ((m / 65536 : Nat) : Int) % 256 = (m : Int) / 65536 % 256 := by omega
  have e3 : ((m / 256 : Nat) : Int) % 256 = (m : Int) / 256 % 256 := by omega
  rw [e1, e2, e3]

set_option maxHeartbeats 400000 in
theorem u32_any (v : Value) (xs : List UInt8) (m : Nat) (w : World) (hv : Rd w v (bys xs)) (hm : m < 4294967296) (hl : xs.length ≤ 900000000) :
    Calls Tryd.prog 39 #[v, .int .u32 (m : Int)] w fun e w' => ∃ v', e = .returned v' ∧ Own w.heap.size 5 w' v' (bys (xs ++ be4 m)) ∧ Kp0 w w' := by
  have HV := Lib.hid hv
  clear hv
  go_enter Tryd.func39, Tryd.ntmps39
  go_wp2_with fail
  have hr := Rd.lit w #[Value.int .u8 ((m : Int) / 16777216), Value.int .u8 ((m : Int) / 65536 % 256), Value.int .u8 ((m : Int) / 256 % 256), Value.int .u8 ((m : Int) % 256)] 5 (0, 0) 4 rfl (by decide)
  rw [bys_be4 m hm] at hr
  refine (behind_any _ _ xs (be4 m) _ (HV.out.alloc _) hr (by simp [be4]) (by simp [be4]; omega)).mono ?_
  rintro e w' ⟨v', rfl, ho, hk⟩
  clear hr
  have HO := Lib.hid ho
  clear ho
  go_wp2
  go_ret
  exact ⟨v', rfl, HO.out.base (by simp), ((Kp.refl _ w).alloc _).tr hk⟩


theorem ne_empty {s : ByteArray} (h : 0 < s.size) : s.toList.isEmpty = false := by
  have := toList_ne h
  simpa using this
def strLen : Value → Nat
  | .string s => s.size
  | _ => 0
theorem tail_toList (s : ByteArray) : (s.extract 1 s.size).toList = s.toList.tail := by
  obtain ⟨l, rfl⟩ : ∃ l : List UInt8, s = ⟨l.toArray⟩ := ⟨s.toList, str_mk s⟩
  have e : ({ data := l.toArray } : ByteArray).size = l.length := by simp [ByteArray.size]
  rw [e, ByteArray.extract_mk, ByteArray.toList_mk, ByteArray.toList_mk]
  simp [List.take_of_length_le]
theorem strip_step (s : ByteArray) (h : 0 < s.size) (hz : (s[0]).toNat = 0) : stripZ (s.extract 1 s.size).toList = stripZ s.toList := by
  rw [tail_toList, str_get0 s h, List.tail_cons]
  have : s[0] = 0 := UInt8.toNat_inj.1 (by simpa using hz)
  conv => rhs; unfold stripZ
  rw [if_pos this]
theorem strip_end (s : ByteArray) (hc : ¬ ∃ h : 0 < s.size, (s[0]'h).toNat = 0) : stripZ s.toList = s.toList := by
  by_cases h : 0 < s.size
  · rw [str_get0 s h]
    unfold stripZ
    rw [if_neg (fun e => hc ⟨h, by rw [e]; rfl⟩)]
  · rw [toList_nil h]; rfl
theorem zero_app (s : ByteArray) : (({ data := #[0] } : ByteArray) ++ s).toList = 0 :: s.toList := by
  obtain ⟨l, rfl⟩ : ∃ l : List UInt8, s = ⟨l.toArray⟩ := ⟨s.toList, str_mk s⟩
  have : ({ data := #[0] } : ByteArray) = { data := [0].toArray } := rfl
  rw [this, ByteArray.mk_append_mk, ByteArray.toList_mk, ByteArray.toList_mk]
  rfl

end Go.Proofs.YtnbfedmecmdjlaaDoor
namespace Go.Proofs.YtnbfedmecmdjlaaDoor
open Go Go.RowKit

/-- The reader's block. -/
def RB (w : World) (b : Nat) (s : ByteArray) (f : Bool) : Prop := w.heap[b]? = some (.cells #[.string s, .bool f] 118 (0, 0))
def rview (s : ByteArray) (f : Bool) : Option (List UInt8) := if f then none else some s.toList
/-- Reader b is in state st: what is left, or none: it has failed. -/
def Rs (w : World) (b : Nat) (st : Option (List UInt8)) : Prop := ∃ s f, RB w b s f ∧ rview s f = st
abbrev At (b : Nat) : Nat → Prop := fun k => k = b
theorem Rs.keep {w w' : World} {b : Nat} {st : Option (List UInt8)} (h : Rs w b st) {S : Nat → Prop} (hk : Kp S w w') (hs : ¬ S b) : Rs w' b st := by
  obtain ⟨s, f, h1, h2⟩ := h; exact ⟨s, f, blk_keep hk h1 hs, h2⟩
theorem Rs.lt {w : World} {b : Nat} {st : Option (List UInt8)} (h : Rs w b st) : b < w.heap.size := by
  obtain ⟨s, f, h1, h2⟩ := h; exact blk_lt h1

def takeS (st : Option (List UInt8)) (n : Int) : List UInt8 × Option (List UInt8) :=
  match st with
  | none => ([], none)
  | some l => if 0 ≤ n ∧ n ≤ (l.length : Int) then (l.take n.toNat, some (l.drop n.toNat)) else ([], none)

theorem from_any (v : Value) (xs : List UInt8) (w : World) (hv : Rd w v (bys xs)) :
    Calls Tryd.prog 50 #[v] w fun e w' => ∃ b, e = .returned (.pointer (some ⟨b, 0, none⟩)) ∧ w.heap.size ≤ b ∧ Rs w' b (some xs) ∧ Kp0 w w' := by
  have hcv := run_string_of (P := Tryd.prog) (w := w) 32 5 9 Tryd.underlying32 Tryd.underlying5 Tryd.underlying9 hv
  obtain ⟨s0, hs0⟩ : ∃ s0 : ByteArray, s0 = ⟨xs.toArray⟩ := ⟨_, rfl⟩
  rw [← hs0] at hcv
  have E0 := Lib.hid hs0
  clear hs0 hv
  go_enter Tryd.func50, Tryd.ntmps50
  go_wp2
  go_ret
  refine ⟨w.heap.size, rfl, Nat.le_refl _, ⟨s0, false, heap_alloc_new w _, ?_⟩, (Kp.refl _ w).alloc _⟩
  rw [E0.out]; simp [rview]

theorem RB.facts {w : World} {b : Nat} {s : ByteArray} {f : Bool} (h : RB w b s f) :
    w.cell? ⟨b, 0, none⟩ = some (.string s) ∧ w.cell? ⟨b, 1, none⟩ = some (.bool f) ∧ w.frozen? ⟨b, 0, none⟩ = false ∧ w.frozen? ⟨b, 1, none⟩ = false :=
  ⟨blk_cell h 0, blk_cell h 1, blk_frozen h 0, blk_frozen h 1⟩

theorem ok_rb (b : Nat) (s : ByteArray) (f : Bool) (w : World) (h : RB w b s f) :
    Calls Tryd.prog 79 #[.pointer (some ⟨b, 0, none⟩)] w fun e w' => e = .returned (.bool (!f)) ∧ w = w' := by
  obtain ⟨c0, c1, f0, f1⟩ := h.facts
  clear h
  cases f
  all_goals
    go_enter Tryd.func79, Tryd.ntmps79
    go_wp2
    go_ret
    exact ⟨rfl, rfl⟩
theorem fail_rb (b : Nat) (s : ByteArray) (f : Bool) (w : World) (h : RB w b s f) :
    Calls Tryd.prog 80 #[.pointer (some ⟨b, 0, none⟩)] w fun e w' => e = .returned (.tuple #[]) ∧ RB w' b .empty true ∧ Kp (At b) w w' := by
  obtain ⟨c0, c1, f0, f1⟩ := h.facts
  have H := Lib.hid h
  clear h
  go_enter Tryd.func80, Tryd.ntmps80
  go_wp2
  go_end0
  refine ⟨rfl, ?_, ((Kp.refl (At b) w).setCell (fun _ => rfl) _).setCell (fun _ => rfl) _⟩
  have := blk_set (blk_set H.out 0 (.string .empty)) 1 (.bool true)
  exact this
theorem take_rb (b : Nat) (n : Int) (st : Option (List UInt8)) (w : World) (h : Rs w b st) :
    Calls Tryd.prog 68 #[.pointer (some ⟨b, 0, none⟩), .int .i64 n] w fun e w' => ∃ t, e = .returned (.string t) ∧ t.toList = (takeS st n).1 ∧ Rs w' b (takeS st n).2 ∧ Kp (At b) w w' := by
  obtain ⟨s, f, hb, rfl⟩ := h
  cases f
  · obtain ⟨c0, c1, f0, f1⟩ := hb.facts
    have HB := Lib.hid hb
    clear hb
    by_cases hn : 0 ≤ n ∧ n ≤ (s.size : Int)
    · have HT : Hid (takeS (rview s false) n = (s.toList.take n.toNat, some (s.toList.drop n.toNat))) := Lib.hid (by
        have := size_toList s
        simp only [takeS, rview]
        rw [if_neg (by simp)]
        simp only []
        rw [if_pos (by omega)])
      obtain ⟨hn1, hn2⟩ := hn
      go_enter Tryd.func68, Tryd.ntmps68
      go_wp2_with fail
      refine (ok_rb b s false _ HB.out).mono ?_
      rintro e w' ⟨rfl, rfl⟩
      go_wp2
      go_ret
      refine ⟨_, rfl, ?_, ⟨s.extract n.toNat s.size, false, ?_, ?_⟩, (Kp.refl (At b) w).setCell (fun _ => rfl) _⟩
      · rw [HT.out, extract_toList]; simp
      · exact blk_set HB.out 0 _
      · rw [HT.out]
        simp only [rview]
        rw [if_neg (by simp), extract_toList, List.take_of_length_le (by rw [List.length_drop, size_toList]; omega)]
    · have HT : Hid (takeS (rview s false) n = ([], none)) := Lib.hid (by
        have := size_toList s
        simp only [takeS, rview]
        rw [if_neg (by simp)]
        simp only []
        rw [if_neg (by omega)])
      by_cases hn0 : n < 0
      all_goals
        first | (have hn1 : (s.size : Int) < n := by omega) | skip
        clear hn
        go_enter Tryd.func68, Tryd.ntmps68
        go_wp2_with fail
        refine (ok_rb b s false _ HB.out).mono ?_
        rintro e w' ⟨rfl, rfl⟩
        go_wp2_with fail
        refine (fail_rb b s false _ HB.out).mono ?_
        rintro e w' ⟨rfl, hb2, hk⟩
        have HB2 := Lib.hid hb2
        clear hb2
        go_wp2
        go_ret
        exact ⟨_, rfl, by rw [HT.out]; exact nil_toList, ⟨_, _, HB2.out, by rw [HT.out]; rfl⟩, hk⟩
  · go_enter Tryd.func68, Tryd.ntmps68
    have HB := Lib.hid hb
    clear hb
    go_wp2_with fail
    refine (ok_rb b s true _ HB.out).mono ?_
    rintro e w' ⟨rfl, rfl⟩
    go_wp2
    go_ret
    exact ⟨_, rfl, nil_toList, ⟨s, true, HB.out, rfl⟩, Kp.refl _ _⟩

theorem ok_rs (b : Nat) (st : Option (List UInt8)) (w : World) (h : Rs w b st) :
    Calls Tryd.prog 79 #[.pointer (some ⟨b, 0, none⟩)] w fun e w' => e = .returned (.bool st.isSome) ∧ w = w' := by
  obtain ⟨s, f, hb, rfl⟩ := h
  refine (ok_rb b s f w hb).mono ?_
  rintro e w' ⟨rfl, rfl⟩
  exact ⟨by cases f <;> rfl, rfl⟩
theorem fail_rs (b : Nat) (st : Option (List UInt8)) (w : World) (h : Rs w b st) :
    Calls Tryd.prog 80 #[.pointer (some ⟨b, 0, none⟩)] w fun e w' => e = .returned (.tuple #[]) ∧ Rs w' b none ∧ Kp (At b) w w' := by
  obtain ⟨s, f, hb, rfl⟩ := h
  refine (fail_rb b s f w hb).mono ?_
  rintro e w' ⟨rfl, hb2, hk⟩
  exact ⟨rfl, ⟨_, _, hb2, rfl⟩, hk⟩
def beNat : List UInt8 → Nat
  | [a, b, c, d] => a.toNat * 16777216 + b.toNat * 65536 + c.toNat * 256 + d.toNat
  | _ => 0
def u32S (st : Option (List UInt8)) : Nat × Option (List UInt8) := (beNat (takeS st 4).1, (takeS st 4).2)
theorem takeS_len (st : Option (List UInt8)) (n : Nat) : (takeS st n).1 = [] ∨ (takeS st n).1.length = n := by
  unfold takeS
  split
  · exact .inl rfl
  · split
    · right; simp; omega
    · exact .inl rfl
theorem str_get4 (s : ByteArray) (n0 : 0 < s.size) (n1 : 1 < s.size) (n2 : 2 < s.size) (n3 : 3 < s.size) (h : s.size = 4) : s.toList = [s[0]'n0, s[1]'n1, s[2]'n2, s[3]'n3] := by
  have hl : s.data.toList.length = 4 := by rw [Array.length_toList]; exact h
  rw [ByteArray.toList_eq]
  have g : ∀ i (hi : i < s.size), s[i] = s.data.toList[i]'(by rw [hl]; omega) := fun i hi => by simp; rfl
  rw [g 0, g 1, g 2, g 3]
  match e : s.data.toList, hl with
  | [a, b, c, d], _ => simp

theorem wrU32 (n : Int) (h0 : 0 ≤ n) (h1 : n < 2 ^ 32) : IntKind.u32.wrap n = n := by rw [IntKind.wrap_u32]; omega
theorem join4 (a b c d : UInt8) : Ending.returned (.int .u32 (bits BinOp.or IntKind.u32 (bits BinOp.or IntKind.u32 (bits BinOp.or IntKind.u32 ((a.toNat : Int) % 4294967296 * 16777216 % 4294967296) ((b.toNat : Int) % 4294967296 * 65536 % 4294967296)) ((c.toNat : Int) % 4294967296 * 256 % 4294967296)) ((d.toNat : Int) % 4294967296))) =
    Ending.returned (.int .u32 ((beNat [a, b, c, d] : Nat) : Int)) := by
  have ha := a.toNat_lt
  have hb := b.toNat_lt
  have hc := c.toNat_lt
  have hd := d.toNat_lt
  have e1 : (a.toNat : Int) % 4294967296 * 16777216 % 4294967296 = a.toNat * 16777216 := by omega
  have e2 : (b.toNat : Int) % 4294967296 * 65536 % 4294967296 = b.toNat * 65536 := by omega
  have e3 : (c.toNat : Int) % 4294967296 * 256 % 4294967296 = c.toNat * 256 := by omega
  have e4 : (d.toNat : Int) % 4294967296 = d.toNat := by omega
  rw [e1, e2, e3, e4]
  rw [bits_join .u32 32 (by decide) wrU32 24 ((a.toNat : Int) * 16777216) ((b.toNat : Int) * 65536) (by omega) (by omega) (by omega) (by omega) (by omega) (by omega)]
  rw [bits_join .u32 32 (by decide) wrU32 16 ((a.toNat : Int) * 16777216 + (b.toNat : Int) * 65536) ((c.toNat : Int) * 256) (by omega) (by omega) (by omega) (by omega) (by omega) (by omega)]
  rw [bits_join .u32 32 (by decide) wrU32 8 ((a.toNat : Int) * 16777216 + (b.toNat : Int) * 65536 + (c.toNat : Int) * 256) (d.toNat : Int) (by omega) (by omega) (by omega) (by omega) (by omega) (by omega)]
  simp only [beNat]
  congr 2
theorem beNat_lt (l : List UInt8) : beNat l < 4294967296 := by
  unfold beNat
  split
  · rename_i a b c d
    have ha := a.toNat_lt; have hb := b.toNat_lt; have hc := c.toNat_lt; have hd := d.toNat_lt
    omega
  · omega

theorem u32_rs (b : Nat) (st : Option (List UInt8)) (w : World) (h : Rs w b st) :
    Calls Tryd.prog 51 #[.pointer (some ⟨b, 0, none⟩)] w fun e w' => e = .returned (.int .u32 ((u32S st).1 : Int)) ∧ Rs w' b (u32S st).2 ∧ Kp (At b) w w' := by
  have H := Lib.hid h
  clear h
  go_enter Tryd.func51, Tryd.ntmps51
  go_wp2_with fail
  refine (take_rb b 4 st _ H.out).mono ?_
  rintro e w' ⟨t, rfl, ht, hr, hk⟩
  have hlen := takeS_len st 4
  rw [show ((4 : Nat) : Int) = 4 from rfl, ← ht] at hlen
  have HR := Lib.hid hr
  have HT := Lib.hid ht
  clear hr ht
  by_cases h : 0 < t.size
  · have h4 : t.size = 4 := by
      rw [← size_toList]
      rcases hlen with h0 | h0
      · have := size_toList t; rw [h0] at this; simp at this; omega
      · exact h0
    have hne := ne_empty h
    have b0 : (0 : Int) < (t.size : Int) := by omega
    have b1 : (1 : Int) < (t.size : Int) := by omega
    have b2 : (2 : Int) < (t.size : Int) := by omega
    have b3 : (3 : Int) < (t.size : Int) := by omega
    have n0 : 0 < t.size := by omega
    have n1 : 1 < t.size := by omega
    have n2 : 2 < t.size := by omega
    have n3 : 3 < t.size := by omega
    have HG := Lib.hid (str_get4 t n0 n1 n2 n3 h4)
    clear hlen h4
    go_wp2_with fail
    go_quiet (fail)
    go_wp2
    go_ret
    refine ⟨?_, HR.out, hk.drewN nq⟩
    refine (join4 (t[0]'n0) (t[1]'n1) (t[2]'n2) (t[3]'n3)).trans ?_
    unfold u32S
    rw [← HT.out, HG.out]
  · have hne := toList_nil h
    clear hlen
    go_wp2
    go_ret
    refine ⟨?_, HR.out, hk⟩
    unfold u32S
    simp only [← HT.out]
    rw [hne]; rfl

def textS (st : Option (List UInt8)) : List UInt8 × Option (List UInt8) :=
  if 16384 < (u32S st).1 then ([], none) else takeS (u32S st).2 ((u32S st).1 : Int)
theorem textS_len (st : Option (List UInt8)) : (textS st).1.length ≤ 16384 := by
  unfold textS
  split
  · simp
  · rcases takeS_len (u32S st).2 (u32S st).1 with h | h
    · rw [h]; simp
    · omega
def intP (l : List UInt8) (st : Option (List UInt8)) : List UInt8 × Option (List UInt8) :=
  if hiB l then ([], none) else
  match l with
  | [] => ([], st)
  | c :: l => if c = 0 then (if hiB l then (l, st) else ([], none)) else (c :: l, st)
def intS (st : Option (List UInt8)) : List UInt8 × Option (List UInt8) := intP (textS st).1 (textS st).2
theorem intP_c0 {l l' : List UInt8} {c : UInt8} (st : Option (List UInt8)) (h : l = c :: l') (hc : c = 0) : intP l st = if hiB l' then (l', st) else ([], none) := by
  subst h; subst hc; unfold intP; rw [if_neg (by simp [hiB])]; simp
theorem intP_c1 {l l' : List UInt8} {c : UInt8} (st : Option (List UInt8)) (h : l = c :: l') (hc : ¬ c = 0) (hb : hiB l = false) : intP l st = (l, st) := by
  unfold intP; rw [hb]; subst h; simp [hc]
theorem intP_hi {l : List UInt8} (st : Option (List UInt8)) (hb : hiB l = true) : intP l st = ([], none) := by
  unfold intP; rw [hb]; rfl
theorem intP_nil {l : List UInt8} (st : Option (List UInt8)) (h : l = []) : intP l st = (l, st) := by
  subst h; rfl
end Go.Proofs.YtnbfedmecmdjlaaDoor
