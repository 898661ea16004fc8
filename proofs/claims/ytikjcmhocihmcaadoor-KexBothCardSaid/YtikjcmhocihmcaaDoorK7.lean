/- What each call of package wire's writers does, said of what slices read as. What the calls of package wire's reader do: its state is what is left to be read, or that it has failed. The laws' own opening, and what reading gives of what was written. Splitting at commas: plain facts on lists. Names: the code's. The reader's other calls: bytes, names, and a reader that is none. The one named integer variable that no list lays holds some integer. -/
import Derived.Test.YtikjcmhocihmcaaDoorRows
import Derived.Test.YtikjcmhocihmcaaDoorK1
import Derived.BigQuiet
import Derived.Deep.QuietTactic
import Derived.Lib.Split
import Derived.Lib.CountLaws
import Derived.Lib.Join
import Derived.Test.YtikjcmhocihmcaaDoorShelf
import Derived.Clock
namespace Go.Proofs.YtikjcmhocihmcaaDoor
open Go Go.RowKit

theorem infoU8 : (Tryd.prog.info? 5).map (fun i => (i.zero, i.size, i.bytes)) = some (some (.int .u8 0), 1, 1) := by kernel_rfl

def be4 (n : Nat) : List UInt8 := [UInt8.ofNat (n / 16777216), UInt8.ofNat (n / 65536), UInt8.ofNat (n / 256), UInt8.ofNat n]
def encText (l : List UInt8) : List UInt8 := be4 l.length ++ l
def stripZ : List UInt8 → List UInt8
  | [] => []
  | c :: l => if c = 0 then stripZ l else c :: l
def hiB : List UInt8 → Bool
  | [] => false
  | c :: _ => decide (128 ≤ c.toNat)
def signed (l : List UInt8) : List UInt8 := if hiB l then 0 :: l else l
def encInt (l : List UInt8) : List UInt8 := encText (signed (stripZ l))
theorem stripZ_len (l : List UInt8) : (stripZ l).length ≤ l.length := by
  induction l with
  | nil => simp [stripZ]
  | cons c l ih => unfold stripZ; split <;> simp <;> omega
theorem str_get0 (s : ByteArray) (h : 0 < s.size) : s.toList = s[0] :: s.toList.tail := by
  have hl : 0 < s.data.toList.length := by rw [Array.length_toList]; exact h
  rw [ByteArray.toList_eq]
  cases e : s.data.toList with
  | nil => rw [e] at hl; simp at hl
  | cons c l =>
    simp only [List.tail_cons]
    have : s[0] = c := by
      show s.data[0] = c
      have h2 : s.data.toList[0]'hl = c := by simp [e]
      simpa using h2
    rw [this]


theorem hiB_get (s : ByteArray) (h : 0 < s.size) : hiB s.toList = decide ((128 : Int) ≤ ((s[0]).toNat : Int)) := by
  rw [str_get0 s h]; simp only [hiB]
  by_cases hc : 128 ≤ (s[0]).toNat
  · rw [decide_eq_true hc, decide_eq_true (by omega)]
  · rw [decide_eq_false hc, decide_eq_false (by omega)]
theorem toList_nil {s : ByteArray} (h : ¬ 0 < s.size) : s.toList = [] := List.eq_nil_of_length_eq_zero (by rw [size_toList]; omega)
theorem toList_ne {s : ByteArray} (h : 0 < s.size) : ¬ s.toList = [] := fun e => by have := size_toList s; rw [e] at this; simp at this; omega

set_option maxHeartbeats 400000 in
theorem highBit_any (s : ByteArray) (w : World) :
    Calls Tryd.prog 84 #[.string s] w fun e w' => e = .returned (.bool (hiB s.toList)) ∧ w = w' := by
  by_cases h : 0 < s.size
  · have H := Lib.hid (hiB_get s h)
    have hn := toList_ne h
    go_enter Tryd.func84, Tryd.ntmps84
    go_wp2
    go_ret
    exact ⟨by rw [H.out]; simp [hn], rfl⟩
  · have hn := toList_nil h
    have H : Hid (hiB s.toList = false) := Lib.hid (by rw [hn]; rfl)
    go_enter Tryd.func84, Tryd.ntmps84
    go_wp2
    go_ret
    exact ⟨by rw [H.out]; rfl, rfl⟩

set_option maxHeartbeats 400000 in
theorem behind_any (v p : Value) (xs ys : List UInt8) (w : World) (hv : Rd w v (bys xs)) (hp : Rd w p (bys ys)) (h0 : 0 < ys.length) (hl : xs.length + ys.length ≤ 1000000000) :
    Calls Tryd.prog 72 #[v, p] w fun e w' => ∃ v', e = .returned v' ∧ Own w.heap.size 5 w' v' (bys (xs ++ ys)) ∧ Kp0 w w' := by
  have HV := Lib.hid hv
  have HP := Lib.hid hp
  obtain ⟨ao, cap, rfl, h1, h2, h3⟩ := hv.shapeB
  obtain ⟨bo, cap2, rfl, h4, h5, h6⟩ := hp.shapeB
  clear hv hp
  go_enter Tryd.func72, Tryd.ntmps72
  go_wp2_with (at_builtin; refine wl_append_full rfl _ _ 24 rfl Tryd.underlying24 infoU8 rfl rfl rfl HV.out.clip HP.out (bys_one _) (by rw [bys_len]; exact h0) (by rw [bys_len, bys_len]; unfold maxLen; omega) (by rw [bys_len, bys_len]; omega) ?_)
  intro v' w' ho hg
  go_wp2
  go_ret
  exact ⟨v', rfl, by rw [bys_app]; exact ho, (Kp.refl _ w).grown hg (by simp)⟩

theorem u8_ofNat (k : Nat) : ((UInt8.ofNat k).toNat : Int) = (k : Int) % 256 := by
  have : (UInt8.ofNat k).toNat = k % 256 := by simp
  omega
theorem bys_be4 (m : Nat) (h : m < 4294967296) : #[Value.int .u8 ((m : Int) / 16777216), Value.int .u8 ((m : Int) / 65536 % 256), Value.int .u8 ((m : Int) / 256 % 256), Value.int .u8 ((m : Int) % 256)].toList = bys (be4 m) := by
  simp only [be4, bys, List.map_cons, List.map_nil, u8_ofNat]
  have e1 : ((m / 16777216 : Nat) : Int) % 256 = (m : Int) / 16777216 := by omega
  have e2 : ((m / 65536 : Nat) : Int) % 256 = (m : Int) / 65536 % 256 := by omega
  have e3 : ((m / 256 : Nat) : Int) % 256 = (m : Int) / 256 % 256 := by omega
  rw [e1, e2, e3]

set_option maxHeartbeats 400000 in
theorem u32_any (v : Value) (xs : List UInt8) (m : Nat) (w : World) (hv : Rd w v (bys xs)) (hm : m < 4294967296) (hl : xs.length ≤ 900000000) :
    Calls Tryd.prog 34 #[v, .int .u32 (m : Int)] w fun e w' => ∃ v', e = .returned v' ∧ Own w.heap.size 5 w' v' (bys (xs ++ be4 m)) ∧ Kp0 w w' := by
  have HV := Lib.hid hv
  clear hv
  go_enter Tryd.func34, Tryd.ntmps34
  go_wp2_with fail
  have hr := Rd.lit w #[Value.int .u8 ((m : Int) / 16777216), Value.int .u8 ((m : Int) / 65536 % 256), Value.int .u8 ((m : Int) / 256 % 256), Value.int .u8 ((m : Int) % 256)] 5 (0, 0) 4 rfl (by decide)
  rw [bys_be4 m hm] at hr
  refine (behind_any _ _ xs (be4 m) _ (HV.out.alloc _) hr (by simp [be4]) (by simp [be4]; omega)).mono ?_
  rintro e w' ⟨v', rfl, ho, hk⟩
  clear hr
  have HO := Lib.hid ho
  clear ho
  go_wp2
  go_ret
  exact ⟨v', rfl, HO.out.base (by simp), ((Kp.refl _ w).alloc _).tr hk⟩

set_option maxHeartbeats 400000 in
theorem flag_any (v : Value) (xs : List UInt8) (b : Bool) (w : World) (hv : Rd w v (bys xs)) (hl : xs.length ≤ 900000000) :
    Calls Tryd.prog 35 #[v, .bool b] w fun e w' => ∃ v', e = .returned v' ∧ Own w.heap.size 5 w' v' (bys (xs ++ [if b then 1 else 0])) ∧ Kp0 w w' := by
  have HV := Lib.hid hv
  clear hv
  have hr1 := Rd.lit w #[Value.int .u8 1] 5 (0, 0) 1 rfl (by decide)
  have hr0 := Rd.lit w #[Value.int .u8 0] 5 (0, 0) 1 rfl (by decide)
  have H1 := Lib.hid hr1
  have H0 := Lib.hid hr0
  clear hr1 hr0
  cases b
  all_goals
    go_enter Tryd.func35, Tryd.ntmps35
    go_wp2_with fail
    first
      | refine (behind_any _ _ xs [0] _ (HV.out.alloc _) H0.out (by simp) (by simp; omega)).mono ?_
      | refine (behind_any _ _ xs [1] _ (HV.out.alloc _) H1.out (by simp) (by simp; omega)).mono ?_
    rintro e w' ⟨v', rfl, ho, hk⟩
    have HO := Lib.hid ho
    clear ho
    go_wp2
    go_ret
    exact ⟨v', rfl, HO.out.base (by simp), ((Kp.refl _ w).alloc _).tr hk⟩

set_option maxHeartbeats 400000 in
theorem text_any (v : Value) (xs : List UInt8) (s : ByteArray) (w : World) (hv : Rd w v (bys xs)) (hl : xs.length + s.size ≤ 800000000) :
    Calls Tryd.prog 61 #[v, .string s] w fun e w' => ∃ v', e = .returned v' ∧ Own w.heap.size 5 w' v' (bys (xs ++ encText s.toList)) ∧ Kp0 w w' := by
  have HV := Lib.hid hv
  clear hv
  go_enter Tryd.func61, Tryd.ntmps61
  go_wp2_with fail
  refine (u32_any _ xs s.size _ HV.out (by omega) (by omega)).mono ?_
  rintro e w' ⟨v', rfl, ho, hk⟩
  have HO := Lib.hid ho
  have HK := Lib.hid hk
  have hsz := hk.size
  clear ho hk
  go_wp2_with (at_builtin; refine wl_append_str rfl _ _ 24 9 rfl Tryd.underlying24 Tryd.underlying9 infoU8 s rfl rfl HO.out (by rw [bys_len]; simp [be4]; omega) hsz ?_)
  intro v2 w2 ho2 hg
  have hlt := HO.out.lt
  go_wp2
  go_ret
  refine ⟨v2, rfl, ?_, HK.out.grown hg (fun k hk1 hk2 => by have := hlt k hk1; omega)⟩
  rw [← bys_app] at ho2
  simpa [encText, size_toList] using ho2

theorem ne_empty {s : ByteArray} (h : 0 < s.size) : s.toList.isEmpty = false := by
  have := toList_ne h
  simpa using this
def strLen : Value → Nat
  | .string s => s.size
  | _ => 0
theorem tail_toList (s : ByteArray) : (s.extract 1 s.size).toList = s.toList.tail := by
  obtain ⟨l, rfl⟩ : ∃ l : List UInt8, s = ⟨l.toArray⟩ := ⟨s.toList, str_mk s⟩
  have e : ({ data := l.toArray } : ByteArray).size = l.length := by simp [ByteArray.size]
  rw [e, ByteArray.extract_mk, ByteArray.toList_mk, ByteArray.toList_mk]
  simp [List.take_of_length_le]
theorem strip_step (s : ByteArray) (h : 0 < s.size) (hz : (s[0]).toNat = 0) : stripZ (s.extract 1 s.size).toList = stripZ s.toList := by
  rw [tail_toList, str_get0 s h, List.tail_cons]
  have : s[0] = 0 := UInt8.toNat_inj.1 (by simpa using hz)
  conv => rhs; unfold stripZ
  rw [if_pos this]
theorem strip_end (s : ByteArray) (hc : ¬ ∃ h : 0 < s.size, (s[0]'h).toNat = 0) : stripZ s.toList = s.toList := by
  by_cases h : 0 < s.size
  · rw [str_get0 s h]
    unfold stripZ
    rw [if_neg (fun e => hc ⟨h, by rw [e]; rfl⟩)]
  · rw [toList_nil h]; rfl
theorem zero_app (s : ByteArray) : (({ data := #[0] } : ByteArray) ++ s).toList = 0 :: s.toList := by
  obtain ⟨l, rfl⟩ : ∃ l : List UInt8, s = ⟨l.toArray⟩ := ⟨s.toList, str_mk s⟩
  have : ({ data := #[0] } : ByteArray) = { data := [0].toArray } := rfl
  rw [this, ByteArray.mk_append_mk, ByteArray.toList_mk, ByteArray.toList_mk]
  rfl

set_option maxHeartbeats 400000 in
theorem int_any (v p : Value) (xs ys : List UInt8) (w : World) (hv : Rd w v (bys xs)) (hp : Rd w p (bys ys)) (hl : xs.length + ys.length ≤ 700000000) :
    Calls Tryd.prog 63 #[v, p] w fun e w' => ∃ v', e = .returned v' ∧ Own w.heap.size 5 w' v' (bys (xs ++ encInt ys)) ∧ Kp0 w w' := by
  have HV := Lib.hid hv
  have hcv := run_string_of (P := Tryd.prog) (w := w) 24 5 9 Tryd.underlying24 Tryd.underlying5 Tryd.underlying9 hp
  obtain ⟨s0, hs0⟩ : ∃ s0 : ByteArray, s0 = ⟨ys.toArray⟩ := ⟨_, rfl⟩
  rw [← hs0] at hcv
  have e0 : s0.toList = ys := by rw [hs0, ByteArray.toList_mk]
  have hsz0 : s0.size ≤ ys.length := by rw [← size_toList, e0]; exact Nat.le_refl _
  have E0 := Lib.hid e0
  clear hv e0 hs0
  obtain ⟨bo, cap2, rfl, h4, h5, h6⟩ := hp.shapeB
  clear hp
  go_enter Tryd.func63, Tryd.ntmps63
  go_wp2
  clear hcv
  go_loop [5] (fun t => ∃ s, t = .string s ∧ s.size ≤ ys.length ∧ Hid (stripZ s.toList = stripZ ys)) (fun t => strLen t)
  case atStart => exact ⟨s0, rfl, hsz0, Lib.hid (by rw [E0.out])⟩
  case round =>
    obtain ⟨s, rfl, hsz, HS⟩ := hrel
    by_cases hc : ∃ h : 0 < s.size, (s[0]'h).toNat = 0
    · have hc2 := hc
      obtain ⟨h, hz⟩ := hc2
      have HSt := Lib.hid (strip_step s h hz)
      have hne := ne_empty h
      have hzb : (((s[0]'h).toNat : Int) == 0) = true := by rw [hz]; rfl
      clear hc hz
      go_wp2
      go_round
      case rel => exact ⟨_, rfl, by simp; omega, Lib.hid (by rw [HSt.out, HS.out])⟩
      case measure => simp [strLen]; omega
    · have HE := Lib.hid (strip_end s hc)
      have hfin : Hid (s.toList = stripZ ys) := Lib.hid (by rw [← HS.out, HE.out])
      by_cases h : 0 < s.size
      all_goals
        first
          | (have hne := ne_empty h
             have hzb : (((s[0]'h).toNat : Int) == 0) = false := by
               rw [beq_eq_false_iff_ne]; exact fun e => hc ⟨h, by omega⟩
             clear hc)
          | (have hne := toList_nil h
             clear hc)
        go_wp2_with fail
        refine (highBit_any s _).mono ?_
        rintro e w' ⟨rfl, rfl⟩
        have HB : Hid (encInt ys = encText (signed s.toList)) := Lib.hid (by rw [hfin.out]; rfl)
        obtain ⟨hb, hhb⟩ : ∃ hb, hb = hiB s.toList := ⟨_, rfl⟩
        rw [← hhb]
        have HH := Lib.hid hhb
        clear hhb
        cases hb
        · go_wp2_with fail
          refine (text_any v xs s _ HV.out (by omega)).mono ?_
          rintro e w' ⟨v', rfl, ho, hk⟩
          have HO := Lib.hid ho
          clear ho
          go_wp2
          go_ret
          refine ⟨v', rfl, ?_, hk⟩
          rw [HB.out, signed, ← HH.out]
          exact HO.out
        · go_wp2_with fail
          refine (text_any v xs _ _ HV.out (by rw [ByteArray.size_append, show ({ data := #[0] } : ByteArray).size = 1 from rfl]; omega)).mono ?_
          rintro e w' ⟨v', rfl, ho, hk⟩
          have HO := Lib.hid ho
          clear ho
          go_wp2
          go_ret
          refine ⟨v', rfl, ?_, hk⟩
          rw [HB.out, signed, ← HH.out]
          have := HO.out
          rw [zero_app] at this
          exact this
end Go.Proofs.YtikjcmhocihmcaaDoor
namespace Go.Proofs.YtikjcmhocihmcaaDoor
open Go Go.RowKit

/-- The reader's block. -/
def RB (w : World) (b : Nat) (s : ByteArray) (f : Bool) : Prop := w.heap[b]? = some (.cells #[.string s, .bool f] 102 (0, 0))
def rview (s : ByteArray) (f : Bool) : Option (List UInt8) := if f then none else some s.toList
/-- Reader b is in state st: what is left, or none: it has failed. -/
def Rs (w : World) (b : Nat) (st : Option (List UInt8)) : Prop := ∃ s f, RB w b s f ∧ rview s f = st
abbrev At (b : Nat) : Nat → Prop := fun k => k = b
theorem Rs.keep {w w' : World} {b : Nat} {st : Option (List UInt8)} (h : Rs w b st) {S : Nat → Prop} (hk : Kp S w w') (hs : ¬ S b) : Rs w' b st := by
  obtain ⟨s, f, h1, h2⟩ := h; exact ⟨s, f, blk_keep hk h1 hs, h2⟩
theorem Rs.lt {w : World} {b : Nat} {st : Option (List UInt8)} (h : Rs w b st) : b < w.heap.size := by
  obtain ⟨s, f, h1, h2⟩ := h; exact blk_lt h1

def takeS (st : Option (List UInt8)) (n : Int) : List UInt8 × Option (List UInt8) :=
  match st with
  | none => ([], none)
  | some l => if 0 ≤ n ∧ n ≤ (l.length : Int) then (l.take n.toNat, some (l.drop n.toNat)) else ([], none)

theorem from_any (v : Value) (xs : List UInt8) (w : World) (hv : Rd w v (bys xs)) :
    Calls Tryd.prog 38 #[v] w fun e w' => ∃ b, e = .returned (.pointer (some ⟨b, 0, none⟩)) ∧ w.heap.size ≤ b ∧ Rs w' b (some xs) ∧ Kp0 w w' := by
  have hcv := run_string_of (P := Tryd.prog) (w := w) 24 5 9 Tryd.underlying24 Tryd.underlying5 Tryd.underlying9 hv
  obtain ⟨s0, hs0⟩ : ∃ s0 : ByteArray, s0 = ⟨xs.toArray⟩ := ⟨_, rfl⟩
  rw [← hs0] at hcv
  have E0 := Lib.hid hs0
  clear hs0 hv
  go_enter Tryd.func38, Tryd.ntmps38
  go_wp2
  go_ret
  refine ⟨w.heap.size, rfl, Nat.le_refl _, ⟨s0, false, heap_alloc_new w _, ?_⟩, (Kp.refl _ w).alloc _⟩
  rw [E0.out]; simp [rview]

theorem RB.facts {w : World} {b : Nat} {s : ByteArray} {f : Bool} (h : RB w b s f) :
    w.cell? ⟨b, 0, none⟩ = some (.string s) ∧ w.cell? ⟨b, 1, none⟩ = some (.bool f) ∧ w.frozen? ⟨b, 0, none⟩ = false ∧ w.frozen? ⟨b, 1, none⟩ = false :=
  ⟨blk_cell h 0, blk_cell h 1, blk_frozen h 0, blk_frozen h 1⟩

theorem ok_rb (b : Nat) (s : ByteArray) (f : Bool) (w : World) (h : RB w b s f) :
    Calls Tryd.prog 77 #[.pointer (some ⟨b, 0, none⟩)] w fun e w' => e = .returned (.bool (!f)) ∧ w = w' := by
  obtain ⟨c0, c1, f0, f1⟩ := h.facts
  clear h
  cases f
  all_goals
    go_enter Tryd.func77, Tryd.ntmps77
    go_wp2
    go_ret
    exact ⟨rfl, rfl⟩
theorem fail_rb (b : Nat) (s : ByteArray) (f : Bool) (w : World) (h : RB w b s f) :
    Calls Tryd.prog 76 #[.pointer (some ⟨b, 0, none⟩)] w fun e w' => e = .returned (.tuple #[]) ∧ RB w' b .empty true ∧ Kp (At b) w w' := by
  obtain ⟨c0, c1, f0, f1⟩ := h.facts
  have H := Lib.hid h
  clear h
  go_enter Tryd.func76, Tryd.ntmps76
  go_wp2
  go_end0
  refine ⟨rfl, ?_, ((Kp.refl (At b) w).setCell (fun _ => rfl) _).setCell (fun _ => rfl) _⟩
  have := blk_set (blk_set H.out 0 (.string .empty)) 1 (.bool true)
  exact this
theorem take_rb (b : Nat) (n : Int) (st : Option (List UInt8)) (w : World) (h : Rs w b st) :
    Calls Tryd.prog 73 #[.pointer (some ⟨b, 0, none⟩), .int .i64 n] w fun e w' => ∃ t, e = .returned (.string t) ∧ t.toList = (takeS st n).1 ∧ Rs w' b (takeS st n).2 ∧ Kp (At b) w w' := by
  obtain ⟨s, f, hb, rfl⟩ := h
  cases f
  · obtain ⟨c0, c1, f0, f1⟩ := hb.facts
    have HB := Lib.hid hb
    clear hb
    by_cases hn : 0 ≤ n ∧ n ≤ (s.size : Int)
    · have HT : Hid (takeS (rview s false) n = (s.toList.take n.toNat, some (s.toList.drop n.toNat))) := Lib.hid (by
        have := size_toList s
        simp only [takeS, rview]
        rw [if_neg (by simp)]
        simp only []
        rw [if_pos (by omega)])
      obtain ⟨hn1, hn2⟩ := hn
      go_enter Tryd.func73, Tryd.ntmps73
      go_wp2_with fail
      refine (ok_rb b s false _ HB.out).mono ?_
      rintro e w' ⟨rfl, rfl⟩
      go_wp2
      go_ret
      refine ⟨_, rfl, ?_, ⟨s.extract n.toNat s.size, false, ?_, ?_⟩, (Kp.refl (At b) w).setCell (fun _ => rfl) _⟩
      · rw [HT.out, extract_toList]; simp
      · exact blk_set HB.out 0 _
      · rw [HT.out]
        simp only [rview]
        rw [if_neg (by simp), extract_toList, List.take_of_length_le (by rw [List.length_drop, size_toList]; omega)]
    · have HT : Hid (takeS (rview s false) n = ([], none)) := Lib.hid (by
        have := size_toList s
        simp only [takeS, rview]
        rw [if_neg (by simp)]
        simp only []
        rw [if_neg (by omega)])
      by_cases hn0 : n < 0
      all_goals
        first | (have hn1 : (s.size : Int) < n := by omega) | skip
        clear hn
        go_enter Tryd.func73, Tryd.ntmps73
        go_wp2_with fail
        refine (ok_rb b s false _ HB.out).mono ?_
        rintro e w' ⟨rfl, rfl⟩
        go_wp2_with fail
        refine (fail_rb b s false _ HB.out).mono ?_
        rintro e w' ⟨rfl, hb2, hk⟩
        have HB2 := Lib.hid hb2
        clear hb2
        go_wp2
        go_ret
        exact ⟨_, rfl, by rw [HT.out]; exact nil_toList, ⟨_, _, HB2.out, by rw [HT.out]; rfl⟩, hk⟩
  · go_enter Tryd.func73, Tryd.ntmps73
    have HB := Lib.hid hb
    clear hb
    go_wp2_with fail
    refine (ok_rb b s true _ HB.out).mono ?_
    rintro e w' ⟨rfl, rfl⟩
    go_wp2
    go_ret
    exact ⟨_, rfl, nil_toList, ⟨s, true, HB.out, rfl⟩, Kp.refl _ _⟩

theorem ok_rs (b : Nat) (st : Option (List UInt8)) (w : World) (h : Rs w b st) :
    Calls Tryd.prog 77 #[.pointer (some ⟨b, 0, none⟩)] w fun e w' => e = .returned (.bool st.isSome) ∧ w = w' := by
  obtain ⟨s, f, hb, rfl⟩ := h
  refine (ok_rb b s f w hb).mono ?_
  rintro e w' ⟨rfl, rfl⟩
  exact ⟨by cases f <;> rfl, rfl⟩
theorem fail_rs (b : Nat) (st : Option (List UInt8)) (w : World) (h : Rs w b st) :
    Calls Tryd.prog 76 #[.pointer (some ⟨b, 0, none⟩)] w fun e w' => e = .returned (.tuple #[]) ∧ Rs w' b none ∧ Kp (At b) w w' := by
  obtain ⟨s, f, hb, rfl⟩ := h
  refine (fail_rb b s f w hb).mono ?_
  rintro e w' ⟨rfl, hb2, hk⟩
  exact ⟨rfl, ⟨_, _, hb2, rfl⟩, hk⟩
theorem end_rs (b : Nat) (st : Option (List UInt8)) (w : World) (h : Rs w b st) :
    Calls Tryd.prog 44 #[.pointer (some ⟨b, 0, none⟩)] w fun e w' => e = .returned (.bool (decide (st = some []))) ∧ w = w' := by
  obtain ⟨s, f, hb, rfl⟩ := h
  obtain ⟨c0, c1, f0, f1⟩ := hb.facts
  have HB := Lib.hid hb
  clear hb
  cases f
  · by_cases h : 0 < s.size
    all_goals
      first | (have hne := ne_empty h) | (have hne := toList_nil h)
      go_enter Tryd.func44, Tryd.ntmps44
      go_wp2_with fail
      refine (ok_rb b s false _ HB.out).mono ?_
      rintro e w' ⟨rfl, rfl⟩
      go_wp2
      go_ret
      refine ⟨?_, rfl⟩
      simp [rview, hne]
      try simpa using hne
  · go_enter Tryd.func44, Tryd.ntmps44
    go_wp2_with fail
    refine (ok_rb b s true _ HB.out).mono ?_
    rintro e w' ⟨rfl, rfl⟩
    go_wp2
    go_ret
    exact ⟨by simp [rview], rfl⟩

def beNat : List UInt8 → Nat
  | [a, b, c, d] => a.toNat * 16777216 + b.toNat * 65536 + c.toNat * 256 + d.toNat
  | _ => 0
def u32S (st : Option (List UInt8)) : Nat × Option (List UInt8) := (beNat (takeS st 4).1, (takeS st 4).2)
theorem takeS_len (st : Option (List UInt8)) (n : Nat) : (takeS st n).1 = [] ∨ (takeS st n).1.length = n := by
  unfold takeS
  split
  · exact .inl rfl
  · split
    · right; simp; omega
    · exact .inl rfl
theorem str_get4 (s : ByteArray) (n0 : 0 < s.size) (n1 : 1 < s.size) (n2 : 2 < s.size) (n3 : 3 < s.size) (h : s.size = 4) : s.toList = [s[0]'n0, s[1]'n1, s[2]'n2, s[3]'n3] := by
  have hl : s.data.toList.length = 4 := by rw [Array.length_toList]; exact h
  rw [ByteArray.toList_eq]
  have g : ∀ i (hi : i < s.size), s[i] = s.data.toList[i]'(by rw [hl]; omega) := fun i hi => by simp; rfl
  rw [g 0, g 1, g 2, g 3]
  match e : s.data.toList, hl with
  | [a, b, c, d], _ => simp

theorem wrU32 (n : Int) (h0 : 0 ≤ n) (h1 : n < 2 ^ 32) : IntKind.u32.wrap n = n := by rw [IntKind.wrap_u32]; omega
theorem join4 (a b c d : UInt8) : Ending.returned (.int .u32 (bits BinOp.or IntKind.u32 (bits BinOp.or IntKind.u32 (bits BinOp.or IntKind.u32 ((a.toNat : Int) % 4294967296 * 16777216 % 4294967296) ((b.toNat : Int) % 4294967296 * 65536 % 4294967296)) ((c.toNat : Int) % 4294967296 * 256 % 4294967296)) ((d.toNat : Int) % 4294967296))) =
    Ending.returned (.int .u32 ((beNat [a, b, c, d] : Nat) : Int)) := by
  have ha := a.toNat_lt
  have hb := b.toNat_lt
  have hc := c.toNat_lt
  have hd := d.toNat_lt
  have e1 : (a.toNat : Int) % 4294967296 * 16777216 % 4294967296 = a.toNat * 16777216 := by omega
  have e2 : (b.toNat : Int) % 4294967296 * 65536 % 4294967296 = b.toNat * 65536 := by omega
  have e3 : (c.toNat : Int) % 4294967296 * 256 % 4294967296 = c.toNat * 256 := by omega
  have e4 : (d.toNat : Int) % 4294967296 = d.toNat := by omega
  rw [e1, e2, e3, e4]
  rw [bits_join .u32 32 (by decide) wrU32 24 ((a.toNat : Int) * 16777216) ((b.toNat : Int) * 65536) (by omega) (by omega) (by omega) (by omega) (by omega) (by omega)]
  rw [bits_join .u32 32 (by decide) wrU32 16 ((a.toNat : Int) * 16777216 + (b.toNat : Int) * 65536) ((c.toNat : Int) * 256) (by omega) (by omega) (by omega) (by omega) (by omega) (by omega)]
  rw [bits_join .u32 32 (by decide) wrU32 8 ((a.toNat : Int) * 16777216 + (b.toNat : Int) * 65536 + (c.toNat : Int) * 256) (d.toNat : Int) (by omega) (by omega) (by omega) (by omega) (by omega) (by omega)]
  simp only [beNat]
  congr 2
theorem beNat_lt (l : List UInt8) : beNat l < 4294967296 := by
  unfold beNat
  split
  · rename_i a b c d
    have ha := a.toNat_lt; have hb := b.toNat_lt; have hc := c.toNat_lt; have hd := d.toNat_lt
    omega
  · omega

theorem u32_rs (b : Nat) (st : Option (List UInt8)) (w : World) (h : Rs w b st) :
    Calls Tryd.prog 43 #[.pointer (some ⟨b, 0, none⟩)] w fun e w' => e = .returned (.int .u32 ((u32S st).1 : Int)) ∧ Rs w' b (u32S st).2 ∧ Kp (At b) w w' := by
  have H := Lib.hid h
  clear h
  go_enter Tryd.func43, Tryd.ntmps43
  go_wp2_with fail
  refine (take_rb b 4 st _ H.out).mono ?_
  rintro e w' ⟨t, rfl, ht, hr, hk⟩
  have hlen := takeS_len st 4
  rw [show ((4 : Nat) : Int) = 4 from rfl, ← ht] at hlen
  have HR := Lib.hid hr
  have HT := Lib.hid ht
  clear hr ht
  by_cases h : 0 < t.size
  · have h4 : t.size = 4 := by
      rw [← size_toList]
      rcases hlen with h0 | h0
      · have := size_toList t; rw [h0] at this; simp at this; omega
      · exact h0
    have hne := ne_empty h
    have b0 : (0 : Int) < (t.size : Int) := by omega
    have b1 : (1 : Int) < (t.size : Int) := by omega
    have b2 : (2 : Int) < (t.size : Int) := by omega
    have b3 : (3 : Int) < (t.size : Int) := by omega
    have n0 : 0 < t.size := by omega
    have n1 : 1 < t.size := by omega
    have n2 : 2 < t.size := by omega
    have n3 : 3 < t.size := by omega
    have HG := Lib.hid (str_get4 t n0 n1 n2 n3 h4)
    clear hlen h4
    go_wp2_with fail
    go_quiet (fail)
    go_wp2
    go_ret
    refine ⟨?_, HR.out, hk.drewN nq⟩
    refine (join4 (t[0]'n0) (t[1]'n1) (t[2]'n2) (t[3]'n3)).trans ?_
    unfold u32S
    rw [← HT.out, HG.out]
  · have hne := toList_nil h
    clear hlen
    go_wp2
    go_ret
    refine ⟨?_, HR.out, hk⟩
    unfold u32S
    simp only [← HT.out]
    rw [hne]; rfl

def textS (st : Option (List UInt8)) : List UInt8 × Option (List UInt8) :=
  if 16384 < (u32S st).1 then ([], none) else takeS (u32S st).2 ((u32S st).1 : Int)
theorem textS_len (st : Option (List UInt8)) : (textS st).1.length ≤ 16384 := by
  unfold textS
  split
  · simp
  · rcases takeS_len (u32S st).2 (u32S st).1 with h | h
    · rw [h]; simp
    · omega
theorem text_rs (b : Nat) (st : Option (List UInt8)) (w : World) (h : Rs w b st) :
    Calls Tryd.prog 74 #[.pointer (some ⟨b, 0, none⟩)] w fun e w' => ∃ t, e = .returned (.string t) ∧ t.toList = (textS st).1 ∧ Rs w' b (textS st).2 ∧ Kp (At b) w w' := by
  have H := Lib.hid h
  clear h
  obtain ⟨n, hn⟩ : ∃ n, n = (u32S st).1 := ⟨_, rfl⟩
  have hlt : n < 4294967296 := by rw [hn]; exact beNat_lt _
  have HN := Lib.hid hn
  clear hn
  go_enter Tryd.func74, Tryd.ntmps74
  go_wp2_with fail
  refine (u32_rs b st _ H.out).mono ?_
  rintro e w1 ⟨rfl, hr, hk⟩
  rw [← HN.out]
  have HR := Lib.hid hr
  clear hr
  by_cases h : 16384 < n
  · have HT : Hid (textS st = ([], none)) := Lib.hid (by unfold textS; rw [if_pos (by rw [← HN.out]; exact h)])
    go_wp2_with fail
    refine (fail_rs b _ _ HR.out).mono ?_
    rintro e w2 ⟨rfl, hr2, hk2⟩
    have HR2 := Lib.hid hr2
    clear hr2
    go_wp2
    go_ret
    exact ⟨_, rfl, by rw [HT.out]; exact nil_toList, by rw [HT.out]; exact HR2.out, hk.tr hk2⟩
  · have HT : Hid (textS st = takeS (u32S st).2 n) := Lib.hid (by unfold textS; rw [if_neg (by rw [← HN.out]; exact h), ← HN.out])
    go_wp2_with fail
    refine (take_rb b n _ _ HR.out).mono ?_
    rintro e w2 ⟨t, rfl, ht, hr2, hk2⟩
    have HR2 := Lib.hid hr2
    have HT2 := Lib.hid ht
    clear hr2 ht
    go_wp2
    go_ret
    exact ⟨_, rfl, by rw [HT.out]; exact HT2.out, by rw [HT.out]; exact HR2.out, hk.tr hk2⟩

def intP (l : List UInt8) (st : Option (List UInt8)) : List UInt8 × Option (List UInt8) :=
  if hiB l then ([], none) else
  match l with
  | [] => ([], st)
  | c :: l => if c = 0 then (if hiB l then (l, st) else ([], none)) else (c :: l, st)
def intS (st : Option (List UInt8)) : List UInt8 × Option (List UInt8) := intP (textS st).1 (textS st).2
theorem intP_c0 {l l' : List UInt8} {c : UInt8} (st : Option (List UInt8)) (h : l = c :: l') (hc : c = 0) : intP l st = if hiB l' then (l', st) else ([], none) := by
  subst h; subst hc; unfold intP; rw [if_neg (by simp [hiB])]; simp
theorem intP_c1 {l l' : List UInt8} {c : UInt8} (st : Option (List UInt8)) (h : l = c :: l') (hc : ¬ c = 0) (hb : hiB l = false) : intP l st = (l, st) := by
  unfold intP; rw [hb]; subst h; simp [hc]
theorem intP_hi {l : List UInt8} (st : Option (List UInt8)) (hb : hiB l = true) : intP l st = ([], none) := by
  unfold intP; rw [hb]; rfl
theorem intP_nil {l : List UInt8} (st : Option (List UInt8)) (h : l = []) : intP l st = (l, st) := by
  subst h; rfl
end Go.Proofs.YtikjcmhocihmcaaDoor
namespace Go.Proofs.YtikjcmhocihmcaaDoor
open Go Go.RowKit

theorem ab_list : ({ data := #[97, 98] } : ByteArray).toList = [97, 98] := by rw [ByteArray.toList_eq]
theorem stripZ_zeros (z : Nat) (l : List UInt8) : stripZ (List.replicate z 0 ++ l) = stripZ l := by
  induction z with
  | zero => rfl
  | succ z ih =>
    rw [List.replicate_succ, List.cons_append]
    conv => lhs; unfold stripZ
    exact (if_pos rfl).trans ih
theorem stripZ_idem (l : List UInt8) : stripZ (stripZ l) = stripZ l := by
  induction l with
  | nil => rfl
  | cons c l ih =>
    by_cases h : c = 0
    · have : stripZ (c :: l) = stripZ l := by conv => lhs; unfold stripZ; rw [if_pos h]
      rw [this, ih]
    · have : stripZ (c :: l) = c :: l := by conv => lhs; unfold stripZ; rw [if_neg h]
      rw [this, this]
theorem stripZ_head (l : List UInt8) : stripZ l = [] ∨ ∃ c t, stripZ l = c :: t ∧ ¬ c = 0 := by
  induction l with
  | nil => exact .inl rfl
  | cons c l ih =>
    by_cases h : c = 0
    · have : stripZ (c :: l) = stripZ l := by conv => lhs; unfold stripZ; rw [if_pos h]
      rw [this]; exact ih
    · have : stripZ (c :: l) = c :: l := by conv => lhs; unfold stripZ; rw [if_neg h]
      rw [this]; exact .inr ⟨c, l, rfl, h⟩
theorem be4_len (n : Nat) : (be4 n).length = 4 := rfl
theorem beNat_be4 (n : Nat) (h : n < 4294967296) : beNat (be4 n) = n := by
  have e : ∀ k : Nat, (UInt8.ofNat k).toNat = k % 256 := fun k => by simp
  simp only [be4, beNat, e]
  omega
theorem takeS_app (a b : List UInt8) (n : Int) (h : n = (a.length : Int)) : takeS (some (a ++ b)) n = (a, some b) := by
  subst h
  simp [takeS]
  omega
theorem textS_enc (l r : List UInt8) (h : l.length ≤ 16384) : textS (some (encText l ++ r)) = (l, some r) := by
  have e : u32S (some (encText l ++ r)) = (l.length, some (l ++ r)) := by
    unfold u32S encText
    rw [List.append_assoc, takeS_app (be4 l.length) (l ++ r) 4 (by rw [be4_len]; rfl), beNat_be4 _ (by omega)]
  unfold textS
  rw [e, if_neg (by simp only []; omega)]
  exact takeS_app l r _ rfl
theorem intS_enc (l r : List UInt8) (h : l.length ≤ 16383) : intS (some (encInt l ++ r)) = (stripZ l, some r) := by
  have hl := stripZ_len l
  have hs : (signed (stripZ l)).length ≤ 16384 := by 
    unfold signed
    split
    · rw [List.length_cons]; omega
    · omega
  unfold intS encInt
  rw [textS_enc _ _ hs]
  simp only []
  rcases stripZ_head l with h0 | ⟨c, t, h0, hc⟩
  · rw [h0]; rfl
  · rw [h0]
    unfold signed
    by_cases hb : hiB (c :: t) = true
    · rw [if_pos hb, intP_c0 _ rfl rfl, if_pos hb]
    · rw [if_neg hb, intP_c1 _ rfl hc (by simpa using hb)]

end Go.Proofs.YtikjcmhocihmcaaDoor
namespace Go.Proofs.YtikjcmhocihmcaaDoor
open Go Go.RowKit

/-- The pieces between the commas. -/
def splitC : List UInt8 → List (List UInt8)
  | [] => [[]]
  | c :: l => if c = 44 then [] :: splitC l else
    match splitC l with
    | [] => [[c]]
    | p :: r => (c :: p) :: r
theorem splitC_ne (l : List UInt8) : splitC l ≠ [] := by
  cases l with
  | nil => simp [splitC]
  | cons c l => unfold splitC; split
                · simp
                · split <;> simp
theorem splitC_pre (p r : List UInt8) (h : 44 ∉ p) : splitC (p ++ 44 :: r) = p :: splitC r := by
  induction p with
  | nil => simp [splitC]
  | cons c p ih =>
    simp at h
    rw [List.cons_append]
    conv => lhs; unfold splitC
    rw [if_neg (fun e => h.1 e.symm), ih h.2]
theorem splitC_none (p : List UInt8) (h : 44 ∉ p) : splitC p = [p] := by
  induction p with
  | nil => simp [splitC]
  | cons c p ih =>
    simp at h
    unfold splitC
    rw [if_neg (fun e => h.1 e.symm), ih h.2]
theorem index_comma (l : List UInt8) : (44 ∉ l ∧ Lib.index l [44] = -1) ∨ ∃ i : Nat, Lib.index l [44] = i ∧ i < l.length ∧ l = l.take i ++ 44 :: l.drop (i + 1) ∧ 44 ∉ l.take i := by
  induction l with
  | nil => left; exact ⟨by simp, rfl⟩
  | cons c l ih =>
    by_cases hc : c = 44
    · subst hc
      right
      exact ⟨0, by simp [Lib.index], by simp, by simp, by simp⟩
    · have hb : ([44] : List UInt8).isPrefixOf (c :: l) = false := by
        simp [List.isPrefixOf]; exact fun e => hc e.symm
      rcases ih with ⟨h1, h2⟩ | ⟨i, h1, h2, h3, h4⟩
      · left
        refine ⟨by simp; exact ⟨fun e => hc e.symm, h1⟩, ?_⟩
        unfold Lib.index; rw [hb, h2]; rfl
      · right
        refine ⟨i + 1, ?_, by simpa using h2, ?_, ?_⟩
        · unfold Lib.index
          rw [hb, h1]
          simp
        · rw [List.take_succ_cons, List.drop_succ_cons, List.cons_append, ← h3]
        · rw [List.take_succ_cons]
          simp
          exact ⟨fun e => hc e.symm, by simpa using h4⟩
theorem splitK_comma : ∀ (n : Nat) (l : List UInt8), l.length ≤ n → Lib.splitK [44] 0 (Lib.count l [44]) l = splitC l := by
  intro n
  induction n with
  | zero =>
    intro l h
    obtain rfl := List.eq_nil_of_length_eq_zero (l := l) (by omega)
    rcases index_comma [] with ⟨_, h2⟩ | ⟨i, _, h2, _⟩
    · rw [Lib.count_miss h2]; rfl
    · simp at h2
  | succ n ih =>
    intro l h
    rcases index_comma l with ⟨h1, h2⟩ | ⟨i, h1, h2, h3, h4⟩
    · rw [Lib.count_miss h2, splitC_none l h1]; rfl
    · rw [Lib.count_hit (by simp) h1, Nat.add_comm]
      have e : splitC l = l.take i :: splitC (l.drop (i + 1)) := by
        conv => lhs; rw [h3]
        exact splitC_pre _ _ h4
      rw [e]
      unfold Lib.splitK
      rw [h1, if_neg (by simp)]
      simp only [Int.toNat_natCast, Nat.add_zero, List.length_cons, List.length_nil, Nat.zero_add]
      rw [ih _ (by rw [List.length_drop]; omega)]
theorem count_len : ∀ (n : Nat) (l : List UInt8), l.length ≤ n → Lib.count l [44] + 1 = (splitC l).length := by
  intro n
  induction n with
  | zero =>
    intro l h
    obtain rfl := List.eq_nil_of_length_eq_zero (l := l) (by omega)
    rcases index_comma [] with ⟨_, h2⟩ | ⟨i, _, h2, _⟩
    · rw [Lib.count_miss h2]; rfl
    · simp at h2
  | succ n ih =>
    intro l h
    rcases index_comma l with ⟨h1, h2⟩ | ⟨i, h1, h2, h3, h4⟩
    · rw [Lib.count_miss h2, splitC_none l h1]; rfl
    · rw [Lib.count_hit (by simp) h1]
      have e : splitC l = l.take i :: splitC (l.drop (i + 1)) := by
        conv => lhs; rw [h3]
        exact splitC_pre _ _ h4
      have := ih (l.drop (i + 1)) (by rw [List.length_drop]; omega)
      simp only [List.length_cons, List.length_nil, Nat.zero_add]
      rw [e, List.length_cons, ← this]
      omega
theorem split_join (l : List (List UInt8)) (hne : l ≠ []) (hc : ∀ x ∈ l, 44 ∉ x) : splitC (Lib.join l [44]) = l := by
  induction l with
  | nil => exact absurd rfl hne
  | cons x l ih =>
    cases l with
    | nil => rw [Lib.join_one]; exact splitC_none x (hc x (by simp))
    | cons y l =>
      have e : Lib.join (x :: y :: l) [44] = x ++ 44 :: Lib.join (y :: l) [44] := by
        rw [Lib.join_cons, Lib.join_cons]; simp [Lib.joinTail]
      rw [e, splitC_pre _ _ (hc x (by simp)), ih (by simp) (fun z hz => hc z (by simp [hz]))]
end Go.Proofs.YtikjcmhocihmcaaDoor
namespace Go.Proofs.YtikjcmhocihmcaaDoor
open Go Go.RowKit

def lists (l : List ByteArray) : List (List UInt8) := l.map fun x => x.toList
def encNames (l : List ByteArray) : List UInt8 := encText (Lib.join (lists l) [44])
theorem lists_data (l : List ByteArray) : (l.map (·.data.toList)) = lists l := by
  unfold lists; exact List.map_congr_left (fun x _ => (ByteArray.toList_eq x).symm)
theorem comma_list : ({ data := #[44] } : ByteArray).data.toList = [44] := rfl
/-- An upper bound of the joined length. -/
def wide (l : List ByteArray) : Nat := (l.map fun x => x.size + 1).sum
theorem wide_cons (x : ByteArray) (l : List ByteArray) : wide (x :: l) = x.size + 1 + wide l := by simp [wide]
theorem wide_take (l : List ByteArray) (k : Nat) : wide (l.take k) ≤ wide l := by
  induction l generalizing k with
  | nil => simp
  | cons x l ih => cases k with
    | zero => simp [wide]
    | succ k => rw [List.take_succ_cons, wide_cons, wide_cons]; have := ih k; omega
theorem join_snoc (l : List (List UInt8)) (x : List UInt8) : Lib.join (l ++ [x]) [44] = if l = [] then x else Lib.join l [44] ++ [44] ++ x := by
  cases l with
  | nil => simp [Lib.join_one]
  | cons y l => rw [List.cons_append, Lib.join_cons, Lib.join_cons, if_neg (by simp)]; simp [Lib.joinTail]
theorem wide_snoc (l : List ByteArray) (x : ByteArray) : wide (l ++ [x]) = wide l + (x.size + 1) := by simp [wide]
theorem join_wide (l : List ByteArray) : (Lib.join (lists l) [44]).length ≤ wide l := by
  cases l with
  | nil => simp [lists, Lib.join_nil]
  | cons x l =>
    unfold lists
    rw [List.map_cons, Lib.join_length, wide_cons]
    have h : ∀ m : List ByteArray, Lib.lens (m.map fun y => y.toList) + m.length = wide m := by
      intro m
      induction m with
      | nil => rfl
      | cons y m ih =>
        rw [wide_cons, ← ih]
        simp [Lib.lens, size_toList]
        omega
    have h2 := h (x :: l)
    rw [List.map_cons, wide_cons] at h2
    simp at h2 ⊢
    omega

theorem join_any (v : Value) (l : List ByteArray) (w : World) (hv : Rd w v (strs l)) (hl : wide l ≤ 700000000) :
    Calls Tryd.prog 71 #[v, .string { data := #[44] }] w fun e w' => ∃ s, e = .returned (.string s) ∧ s.toList = Lib.join (lists l) [44] ∧ Kp0 w w' := by
  by_cases hp : 0 < l.length
  · obtain ⟨b, o, cap, rfl, h1, h2, hc⟩ := hv.posS hp
    have hle : l.length ≤ wide l := by
      clear hp hc h1 hv hl
      induction l with
      | nil => simp
      | cons x l ih => rw [wide_cons, List.length_cons]; omega
    refine (Tryd.strings_Join b o cap l _ w (fun j x hj => by
      have := (List.getElem?_eq_some_iff.1 hj)
      rw [hc j this.1, this.2]) (World.block_lt_of_cell? w _ (hc 0 hp)) (by omega) h1 (by
        rw [lists_data, comma_list]; have := join_wide l; omega)).mono ?_
    rintro e w' ⟨rfl, hb⟩
    refine ⟨_, rfl, ?_, (Kp.of_below hb).mono (fun i hi h => by omega)⟩
    rw [ByteArray.toList_mk, lists_data, comma_list]
  · obtain ⟨ao, cap, rfl, _, _, _⟩ := hv.shapeS
    have e0 : l = [] := List.eq_nil_of_length_eq_zero (by omega)
    subst e0
    refine (Tryd.strings_Join_none ao cap _ w).mono ?_
    rintro e w' ⟨rfl, rfl⟩
    exact ⟨_, rfl, nil_toList, Kp.refl _ _⟩

set_option maxHeartbeats 400000 in
theorem names_any (v p : Value) (xs : List UInt8) (l : List ByteArray) (w : World) (hv : Rd w v (bys xs)) (hp : Rd w p (strs l)) (hl : xs.length + wide l ≤ 600000000) :
    Calls Tryd.prog 33 #[v, p] w fun e w' => ∃ v', e = .returned v' ∧ Own w.heap.size 5 w' v' (bys (xs ++ encNames l)) ∧ Kp0 w w' := by
  have HV := Lib.hid hv
  have HP := Lib.hid hp
  clear hv hp
  go_enter Tryd.func33, Tryd.ntmps33
  go_wp2_with fail
  refine (join_any p l _ HP.out (by omega)).mono ?_
  rintro e w1 ⟨s, rfl, hs, hk⟩
  have hsz : s.size ≤ wide l := by rw [← size_toList, hs]; exact join_wide l
  have HS := Lib.hid hs
  clear hs
  go_wp2_with fail
  refine (text_any v xs s _ (HV.out.keep0 hk) (by omega)).mono ?_
  rintro e w2 ⟨v2, rfl, ho, hk2⟩
  have HO := Lib.hid ho
  have hsz2 := hk.size
  clear ho
  go_wp2
  go_ret
  refine ⟨v2, rfl, ?_, hk.tr hk2⟩
  unfold encNames
  rw [← HS.out]
  exact HO.out.base hsz2

theorem comma_app (s : ByteArray) : (s ++ ({ data := #[44] } : ByteArray)).toList = s.toList ++ [44] := by
  obtain ⟨l, rfl⟩ : ∃ l : List UInt8, s = ⟨l.toArray⟩ := ⟨s.toList, str_mk s⟩
  have : ({ data := #[44] } : ByteArray) = { data := [44].toArray } := rfl
  rw [this, ByteArray.mk_append_mk, ByteArray.toList_mk, ByteArray.toList_mk]
theorem app_list (s t : ByteArray) : (s ++ t).toList = s.toList ++ t.toList := by
  obtain ⟨l, rfl⟩ : ∃ l : List UInt8, s = ⟨l.toArray⟩ := ⟨s.toList, str_mk s⟩
  obtain ⟨m, rfl⟩ : ∃ m : List UInt8, t = ⟨m.toArray⟩ := ⟨t.toList, str_mk t⟩
  rw [ByteArray.mk_append_mk, ByteArray.toList_mk, ByteArray.toList_mk, ByteArray.toList_mk]
theorem lists_take_succ (l : List ByteArray) (k : Nat) (h : k < l.length) : lists (l.take (k + 1)) = lists (l.take k) ++ [(l[k]'h).toList] := by
  unfold lists
  rw [List.take_succ_eq_append_getElem h, List.map_append]; rfl
theorem wide_take_succ (l : List ByteArray) (k : Nat) (h : k < l.length) : wide (l.take (k + 1)) = wide (l.take k) + ((l[k]'h).size + 1) := by
  rw [List.take_succ_eq_append_getElem h, wide_snoc]

end Go.Proofs.YtikjcmhocihmcaaDoor
namespace Go.Proofs.YtikjcmhocihmcaaDoor
open Go Go.RowKit

def headNat : List UInt8 → Nat
  | [] => 0
  | c :: _ => c.toNat
def byteS (st : Option (List UInt8)) : Nat × Option (List UInt8) := (headNat (takeS st 1).1, (takeS st 1).2)
theorem headNat_get (s : ByteArray) (h : 0 < s.size) : headNat s.toList = (s[0]'h).toNat := by rw [str_get0 s h]; rfl
theorem headNat_lt (l : List UInt8) : headNat l < 256 := by
  cases l with
  | nil => decide
  | cons c l => exact c.toNat_lt

theorem byte_rs (b : Nat) (st : Option (List UInt8)) (w : World) (h : Rs w b st) :
    Calls Tryd.prog 39 #[.pointer (some ⟨b, 0, none⟩)] w fun e w' => e = .returned (.int .u8 ((byteS st).1 : Int)) ∧ Rs w' b (byteS st).2 ∧ Kp (At b) w w' := by
  have H := Lib.hid h
  clear h
  go_enter Tryd.func39, Tryd.ntmps39
  go_wp2_with fail
  refine (take_rb b 1 st _ H.out).mono ?_
  rintro e w' ⟨t, rfl, ht, hr, hk⟩
  have HR := Lib.hid hr
  have HT := Lib.hid ht
  clear hr ht
  by_cases h : 0 < t.size
  · have hne := ne_empty h
    have HG := Lib.hid (headNat_get t h)
    go_wp2
    go_ret
    have e : (byteS st).1 = (t[0]'h).toNat := by unfold byteS; rw [← HT.out, HG.out]
    exact ⟨by rw [e]; rfl, HR.out, hk⟩
  · have hne := toList_nil h
    have HN := Lib.hid hne
    go_wp2
    go_ret
    exact ⟨by unfold byteS; rw [← HT.out, HN.out]; rfl, HR.out, hk⟩

theorem flag_rs (b : Nat) (st : Option (List UInt8)) (w : World) (h : Rs w b st) :
    Calls Tryd.prog 42 #[.pointer (some ⟨b, 0, none⟩)] w fun e w' => e = .returned (.bool (decide (¬ (byteS st).1 = 0))) ∧ Rs w' b (byteS st).2 ∧ Kp (At b) w w' := by
  have H := Lib.hid h
  clear h
  obtain ⟨n, hn⟩ : ∃ n, n = (byteS st).1 := ⟨_, rfl⟩
  have HN := Lib.hid hn
  clear hn
  by_cases h0 : n = 0
  all_goals
    first
      | (have hb : ((n : Int) != 0) = false := by rw [h0]; rfl)
      | (have hb : ((n : Int) != 0) = true := by rw [bne_iff_ne]; omega)
    have H0 := Lib.hid h0
    clear h0
    go_enter Tryd.func42, Tryd.ntmps42
    go_wp2_with fail
    refine (byte_rs b st _ H.out).mono ?_
    rintro e w' ⟨rfl, hr, hk⟩
    have HR := Lib.hid hr
    clear hr
    rw [← HN.out]
    go_wp2
    go_ret
    exact ⟨by rw [← HN.out]; have := H0.out; simp [this], HR.out, hk⟩

theorem bytes_rs (b : Nat) (n : Int) (st : Option (List UInt8)) (w : World) (h : Rs w b st) (hl : (takeS st n).1.length ≤ 9223372036854775807) :
    Calls Tryd.prog 40 #[.pointer (some ⟨b, 0, none⟩), .int .i64 n] w fun e w' => ∃ v, e = .returned v ∧ Rd w' v (bys (takeS st n).1) ∧ Rs w' b (takeS st n).2 ∧ Kp (At b) w w' ∧ (∀ g, v.ownBlock = some g → w.heap.size ≤ g) := by
  have H := Lib.hid h
  clear h
  go_enter Tryd.func40, Tryd.ntmps40
  go_wp2_with fail
  refine (take_rb b n st _ H.out).mono ?_
  rintro e w1 ⟨t, rfl, ht, hr, hk⟩
  have HR := Lib.hid hr
  have hst : t.size ≤ 9223372036854775807 := by rw [← size_toList, ht]; exact hl
  have HT := Lib.hid ht
  have hsz := hk.size
  clear hr ht
  go_wp2_with (refine wl_bytes_of_str (o := ⟨some 8, _, _, _, _, _⟩) rfl _ 9 24 5 rfl Tryd.underlying9 Tryd.underlying24 Tryd.underlying5 t rfl hst ?_)
  intro cap w2 hrd hg
  have HD := Lib.hid hrd
  clear hrd
  have hk2 := (Kp.refl (At b) w1).grown hg (by simp)
  go_wp2
  go_ret
  exact ⟨_, rfl, by rw [← HT.out]; exact HD.out, HR.out.keep ((Kp.refl (fun _ => False) w1).grown hg (by simp)) (fun h => h), hk.tr hk2, by simp [Value.ownBlock]; omega⟩

/-- The library's largest needle stands where it stood. -/
def Gm (w : World) : Prop := ∃ m, w.cell? ⟨2, 0, none⟩ = some (.int .i64 m)
theorem Gm.keep {S : Nat → Prop} {w w' : World} (h : Gm w) (hk : Kp S w w') (hs : ¬ S 2) : Gm w' := by obtain ⟨m, hm⟩ := h; exact ⟨m, hk.cell hm hs⟩

theorem split_any (s : ByteArray) (w : World) (hg : Gm w) (hs : s.size ≤ 16384) :
    Calls Tryd.prog 75 #[.string s, .string { data := #[44] }] w fun e w' => ∃ n ls, e = .returned (.slice (some ⟨w.heap.size, 0, none⟩) n n) ∧ ls.length = n ∧ n ≤ 16386 ∧ lists ls = splitC s.toList ∧ Rd w' (.slice (some ⟨w.heap.size, 0, none⟩) n n) (strs ls) ∧ Kp0 w w' := by
  obtain ⟨m, hm⟩ := hg
  refine (Tryd.strings_Split s _ m w (by omega) hm (by decide)).mono ?_
  rintro e w' ⟨rfl, rfl⟩
  have hd := Lib.splitB_data ({ data := #[44] } : ByteArray) 0 (Lib.countB s { data := #[44] }) s
  have hc : Lib.countB s { data := #[44] } = Lib.count s.data.toList [44] := rfl
  rw [comma_list, hc, splitK_comma _ _ (Nat.le_refl _), ← ByteArray.toList_eq] at hd
  have hl : lists (Lib.splitB { data := #[44] } 0 (Lib.count s.toList [44]) s) = splitC s.toList := by rw [← hd, lists_data]
  have hn := count_len _ s.toList (Nat.le_refl _)
  rw [← ByteArray.toList_eq] at hc
  have hlen : (Lib.splitB { data := #[44] } 0 (Lib.count s.toList [44]) s).length = Lib.count s.toList [44] + 1 := by
    rw [hn, ← hl]; simp [lists]
  have hcl := Lib.count_le s.toList [44]
  rw [size_toList] at hcl
  rw [hc]
  refine ⟨_, Lib.splitB { data := #[44] } 0 (Lib.count s.toList [44]) s, rfl, hlen, by omega, hl, ?_, (Kp.refl _ w).alloc _⟩
  have := Rd.lit w ((Lib.splitB { data := #[44] } 0 (Lib.count s.toList [44]) s).map Value.string).toArray 9 (0, 0) (Lib.count s.toList [44] + 1) (by simp [hlen]) (by omega)
  simpa [strs] using this

def namesS (st : Option (List UInt8)) : List (List UInt8) × Option (List UInt8) :=
  if (textS st).1 = [] then ([], (textS st).2) else if [] ∈ splitC (textS st).1 then ([], none) else (splitC (textS st).1, (textS st).2)

set_option maxHeartbeats 1000000 in
theorem names_rs (b : Nat) (st : Option (List UInt8)) (w : World) (h : Rs w b st) (hg : Gm w) (hb : ¬ b = 2) :
    Calls Tryd.prog 41 #[.pointer (some ⟨b, 0, none⟩)] w fun e w' => ∃ v ls, e = .returned v ∧ Rd w' v (strs ls) ∧ lists ls = (namesS st).1 ∧ Rs w' b (namesS st).2 ∧ Kp (At b) w w' ∧ (∀ g, v.ownBlock = some g → w.heap.size ≤ g) := by
  have H := Lib.hid h
  have HGm := Lib.hid hg
  clear h hg
  go_enter Tryd.func41, Tryd.ntmps41
  go_wp2_with fail
  refine (text_rs b st _ H.out).mono ?_
  rintro e w1 ⟨t, rfl, ht, hr, hk⟩
  have HR := Lib.hid hr
  have hst : t.size ≤ 16384 := by rw [← size_toList, ht]; exact textS_len st
  have HT := Lib.hid ht
  have hsz := hk.size
  have HK := Lib.hid hk
  clear hr ht hk
  by_cases h : 0 < t.size
  · have hne := ne_empty h
    have HNE := Lib.hid (toList_ne h)
    go_wp2_with fail
    refine (split_any t w1 (HGm.out.keep HK.out (fun e => hb e.symm)) hst).mono ?_
    rintro e w2 ⟨n, ls, rfl, hln, hn, hls, hrd, hk2⟩
    have HLS := Lib.hid hls
    have HRD := Lib.hid hrd
    have HK2 := Lib.hid hk2
    have HLN := Lib.hid hln
    clear hls hrd hk2 hln
    go_wp2
    go_loop [15] (fun i => ∃ k : Nat, i = .int .i64 k ∧ k ≤ n ∧ Hid (∀ x ∈ ls.take k, 0 < x.size)) (fun i => n - (intOf i).toNat)
    case atStart => exact ⟨0, rfl, Nat.zero_le _, Lib.hid (by simp)⟩
    case round =>
      obtain ⟨k, rfl, hkn, HF⟩ := hrel
      by_cases hk : k < n
      · have hkl : k < ls.length := by have := HLN.out; omega
        obtain ⟨b1, o1, c1, e, _, _, hcell⟩ := HRD.out.posS (by omega)
        simp only [Value.slice.injEq, Option.some.injEq, Addr.mk.injEq] at e
        obtain ⟨⟨rfl, rfl, _⟩, _, _⟩ := e
        have hck := hcell k hkl
        simp only [Nat.zero_add] at hck
        clear hcell
        obtain ⟨x, hx⟩ : ∃ x, x = ls[k]'hkl := ⟨_, rfl⟩
        rw [← hx] at hck
        have HX := Lib.hid hx
        clear hx
        by_cases hx0 : 0 < x.size
        · have hxe := ne_empty hx0
          go_wp2
          go_round
          case rel => exact ⟨k + 1, by go_num, by omega, Lib.hid (by
            rw [List.take_succ_eq_append_getElem hkl]
            intro y hy
            rcases List.mem_append.1 hy with h1 | h1
            · exact HF.out y h1
            · simp at h1; subst h1; rw [← HX.out]; exact hx0)⟩
          case measure => simp [intOf]; omega
        · have hxe := toList_nil hx0
          have HXE := Lib.hid hxe
          go_wp2_with fail
          refine (fail_rs b _ w2 (HR.out.keep HK2.out (fun h => h))).mono ?_
          rintro e w3 ⟨rfl, hr3, hk3⟩
          have HR3 := Lib.hid hr3
          clear hr3
          have HNS : Hid (namesS st = ([], none)) := Lib.hid (by
            unfold namesS
            rw [← HT.out, if_neg HNE.out, if_pos]
            rw [← HLS.out, ← HXE.out, HX.out]
            exact List.mem_map.2 ⟨_, List.getElem_mem hkl, rfl⟩)
          go_wp2
          go_ret
          exact ⟨_, [], rfl, Rd.nil _, by rw [HNS.out]; rfl, by rw [HNS.out]; exact HR3.out, (HK.out.tr (HK2.out.nil _)).tr hk3, by simp [Value.ownBlock]⟩
      · have HNS : Hid (namesS st = (splitC t.toList, (textS st).2)) := Lib.hid (by
          unfold namesS
          rw [← HT.out, if_neg HNE.out, if_neg]
          rw [← HLS.out]
          intro hm
          obtain ⟨y, hy, h0⟩ := List.mem_map.1 hm
          have h1 := HF.out y (by rw [List.take_of_length_le (by have := HLN.out; omega)]; exact hy)
          have h2 := size_toList y
          rw [h0] at h2
          simp at h2
          omega)
        go_wp2
        go_ret
        exact ⟨_, rfl, ls, HRD.out, by rw [HNS.out]; exact HLS.out, by rw [HNS.out]; exact HR.out.keep HK2.out (fun h => h), HK.out.tr (HK2.out.nil _), by simp [Value.ownBlock]; omega⟩
  · have hne := toList_nil h
    have HNS : Hid (namesS st = ([], (textS st).2)) := Lib.hid (by unfold namesS; rw [← HT.out, if_pos hne])
    go_wp2
    go_ret
    exact ⟨_, [], rfl, Rd.nil _, by rw [HNS.out]; rfl, by rw [HNS.out]; exact HR.out, HK.out, by simp [Value.ownBlock]⟩
end Go.Proofs.YtikjcmhocihmcaaDoor
namespace Go.Proofs.YtikjcmhocihmcaaDoor
open Go Go.RowKit
theorem int_of_shape {P : Program} {w : World} {g : Nat} {t : TypeId} {k : IntKind} {zero : Array Value} (h : w.ShapedOpen P) (hg : g < P.globals.size)
    (h0 : ((begin P (fun _ _ => 0) default).world.heap[g]?).bind Obj.row? = some (zero, t)) (hz : zero.size = 1)
    (hb : P.buildable t = true) (hc : P.cellTypes P.depth t = some [t]) (hu : P.underlying t = some (.int k)) : ∃ m, w.cell? ⟨g, 0, none⟩ = some (.int k m) := by
  obtain ⟨cs, hh, hs, hr⟩ := h.1 g zero t hg h0
  obtain ⟨ts, hts, _, hall⟩ := hr hb
  rw [hc] at hts
  cases hts
  have h1 : 0 < cs.size := by omega
  obtain ⟨u, hu', hok⟩ := hall 0 cs[0] (by simp [h1])
  have : u = t := by simpa using hu'.symm
  subst this
  have hcell : w.cell? ⟨g, 0, none⟩ = some cs[0] := by simp [World.cell?, hh, h1]
  rw [hcell]
  unfold Cell.ok at hok
  rw [hu] at hok
  cases hv : cs[0] <;> rw [hv] at hok <;> first | (simp at hok; done) | skip
  obtain ⟨rfl, _⟩ : _ ∧ _ := by simpa using hok
  exact ⟨_, rfl⟩
theorem gm_of_shape {w : World} (h : w.ShapedOpen Tryd.prog) : Gm w :=
  int_of_shape (P := Tryd.prog) (t := 3) (zero := #[.int .i64 0]) h (of_decide_eq_true (by kernel_rfl)) (by kernel_rfl) rfl (by kernel_rfl) (by kernel_rfl) Tryd.underlying3
end Go.Proofs.YtikjcmhocihmcaaDoor
