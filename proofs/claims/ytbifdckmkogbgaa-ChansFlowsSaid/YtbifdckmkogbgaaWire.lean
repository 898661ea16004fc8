/- What each call of package wire's writers does, said of what slices read as. -/
import Derived.Test.YtbifdckmkogbgaaRows
import Derived.Test.YtbifdckmkogbgaaLib
namespace Go.Proofs.Ytbifdckmkogbgaa
open Go Go.RowKit

theorem infoU8 : (Try.prog.info? 5).map (fun i => (i.zero, i.size, i.bytes)) = some (some (.int .u8 0), 1, 1) := by kernel_rfl

def be4 (n : Nat) : List UInt8 := [UInt8.ofNat (n / 16777216), UInt8.ofNat (n / 65536), UInt8.ofNat (n / 256), UInt8.ofNat n]
def encText (l : List UInt8) : List UInt8 := be4 l.length ++ l
def stripZ : List UInt8 → List UInt8
  | [] => []
  | c :: l => if c = 0 then stripZ l else c :: l
def hiB : List UInt8 → Bool
  | [] => false
  | c :: _ => decide (128 ≤ c.toNat)
def signed (l : List UInt8) : List UInt8 := if hiB l then 0 :: l else l
def encInt (l : List UInt8) : List UInt8 := encText (signed (stripZ l))
theorem stripZ_len (l : List UInt8) : (stripZ l).length ≤ l.length := by
  induction l with
  | nil => simp [stripZ]
  | cons c l ih => unfold stripZ; split <;> simp <;> omega
theorem str_get0 (s : ByteArray) (h : 0 < s.size) : s.toList = s[0] :: s.toList.tail := by
  have hl : 0 < s.data.toList.length := by rw [Array.length_toList]; exact h
  rw [ByteArray.toList_eq]
  cases e : s.data.toList with
  | nil => rw [e] at hl; simp at hl
  | cons c l =>
    simp only [List.tail_cons]
    have : s[0] = c := by
      show s.data[0] = c
      have h2 : s.data.toList[0]'hl = c := by simp [e]
      simpa using h2
    rw [this]


theorem hiB_get (s : ByteArray) (h : 0 < s.size) : hiB s.toList = decide ((128 : Int) ≤ ((s[0]).toNat : Int)) := by
  rw [str_get0 s h]; simp only [hiB]
  by_cases hc : 128 ≤ (s[0]).toNat
  · rw [decide_eq_true hc, decide_eq_true (by omega)]
  · rw [decide_eq_false hc, decide_eq_false (by omega)]
theorem toList_nil {s : ByteArray} (h : ¬ 0 < s.size) : s.toList = [] := List.eq_nil_of_length_eq_zero (by rw [size_toList]; omega)
theorem toList_ne {s : ByteArray} (h : 0 < s.size) : ¬ s.toList = [] := fun e => by have := size_toList s; rw [e] at this; simp at this; omega

set_option maxHeartbeats 400000 in
theorem behind_any (v p : Value) (xs ys : List UInt8) (w : World) (hv : Rd w v (bys xs)) (hp : Rd w p (bys ys)) (h0 : 0 < ys.length) (hl : xs.length + ys.length ≤ 1000000000) :
    Calls Try.prog 55 #[v, p] w fun e w' => ∃ v', e = .returned v' ∧ Own w.heap.size 5 w' v' (bys (xs ++ ys)) ∧ Kp0 w w' := by
  have HV := Lib.hid hv
  have HP := Lib.hid hp
  obtain ⟨ao, cap, rfl, h1, h2, h3⟩ := hv.shapeB
  obtain ⟨bo, cap2, rfl, h4, h5, h6⟩ := hp.shapeB
  clear hv hp
  go_enter Try.func55, Try.ntmps55
  go_wp2_with (at_builtin; refine wl_append_full rfl _ _ 33 rfl Try.underlying33 infoU8 rfl rfl rfl HV.out.clip HP.out (bys_one _) (by rw [bys_len]; exact h0) (by rw [bys_len, bys_len]; unfold maxLen; omega) (by rw [bys_len, bys_len]; omega) ?_)
  intro v' w' ho hg
  go_wp2
  go_ret
  exact ⟨v', rfl, by rw [bys_app]; exact ho, (Kp.refl _ w).grown hg (by simp)⟩

theorem u8_ofNat (k : Nat) : ((UInt8.ofNat k).toNat : Int) = (k : Int) % 256 := by
  have : (UInt8.ofNat k).toNat = k % 256 := by simp
  omega
theorem bys_be4 (m : Nat) (h : m < 4294967296) : #[Value.int .u8 ((m : Int) / 16777216), Value.int .u8 ((m : Int) / 65536 % 256), Value.int .u8 ((m : Int) / 256 % 256), Value.int .u8 ((m : Int) % 256)].toList = bys (be4 m) := by
  simp only [be4, bys, List.map_cons, List.map_nil, u8_ofNat]
  have e1 : ((m / 16777216 : Nat) : Int) % 256 = (m : Int) / 16777216 := by omega
  have e2 : ((m / 65536 : Nat) : Int) % 256 = (m : Int) / 65536 % 256 := by omega
  have e3 : ((m / 256 : Nat) : Int) % 256 = (m : Int) / 256 % 256 := by omega
  rw [e1, e2, e3]

set_option maxHeartbeats 400000 in
theorem u32_any (v : Value) (xs : List UInt8) (m : Nat) (w : World) (hv : Rd w v (bys xs)) (hm : m < 4294967296) (hl : xs.length ≤ 900000000) :
    Calls Try.prog 39 #[v, .int .u32 (m : Int)] w fun e w' => ∃ v', e = .returned v' ∧ Own w.heap.size 5 w' v' (bys (xs ++ be4 m)) ∧ Kp0 w w' := by
  have HV := Lib.hid hv
  clear hv
  go_enter Try.func39, Try.ntmps39
  go_wp2_with fail
  have hr := Rd.lit w #[Value.int .u8 ((m : Int) / 16777216), Value.int .u8 ((m : Int) / 65536 % 256), Value.int .u8 ((m : Int) / 256 % 256), Value.int .u8 ((m : Int) % 256)] 5 (0, 0) 4 rfl (by decide)
  rw [bys_be4 m hm] at hr
  refine (behind_any _ _ xs (be4 m) _ (HV.out.alloc _) hr (by simp [be4]) (by simp [be4]; omega)).mono ?_
  rintro e w' ⟨v', rfl, ho, hk⟩
  clear hr
  have HO := Lib.hid ho
  clear ho
  go_wp2
  go_ret
  exact ⟨v', rfl, HO.out.base (by simp), ((Kp.refl _ w).alloc _).tr hk⟩

set_option maxHeartbeats 400000 in
theorem flag_any (v : Value) (xs : List UInt8) (b : Bool) (w : World) (hv : Rd w v (bys xs)) (hl : xs.length ≤ 900000000) :
    Calls Try.prog 61 #[v, .bool b] w fun e w' => ∃ v', e = .returned v' ∧ Own w.heap.size 5 w' v' (bys (xs ++ [if b then 1 else 0])) ∧ Kp0 w w' := by
  have HV := Lib.hid hv
  clear hv
  have hr1 := Rd.lit w #[Value.int .u8 1] 5 (0, 0) 1 rfl (by decide)
  have hr0 := Rd.lit w #[Value.int .u8 0] 5 (0, 0) 1 rfl (by decide)
  have H1 := Lib.hid hr1
  have H0 := Lib.hid hr0
  clear hr1 hr0
  cases b
  all_goals
    go_enter Try.func61, Try.ntmps61
    go_wp2_with fail
    first
      | refine (behind_any _ _ xs [0] _ (HV.out.alloc _) H0.out (by simp) (by simp; omega)).mono ?_
      | refine (behind_any _ _ xs [1] _ (HV.out.alloc _) H1.out (by simp) (by simp; omega)).mono ?_
    rintro e w' ⟨v', rfl, ho, hk⟩
    have HO := Lib.hid ho
    clear ho
    go_wp2
    go_ret
    exact ⟨v', rfl, HO.out.base (by simp), ((Kp.refl _ w).alloc _).tr hk⟩

set_option maxHeartbeats 400000 in
theorem text_any (v : Value) (xs : List UInt8) (s : ByteArray) (w : World) (hv : Rd w v (bys xs)) (hl : xs.length + s.size ≤ 800000000) :
    Calls Try.prog 38 #[v, .string s] w fun e w' => ∃ v', e = .returned v' ∧ Own w.heap.size 5 w' v' (bys (xs ++ encText s.toList)) ∧ Kp0 w w' := by
  have HV := Lib.hid hv
  clear hv
  go_enter Try.func38, Try.ntmps38
  go_wp2_with fail
  refine (u32_any _ xs s.size _ HV.out (by omega) (by omega)).mono ?_
  rintro e w' ⟨v', rfl, ho, hk⟩
  have HO := Lib.hid ho
  have HK := Lib.hid hk
  have hsz := hk.size
  clear ho hk
  go_wp2_with (at_builtin; refine wl_append_str rfl _ _ 33 9 rfl Try.underlying33 Try.underlying9 infoU8 s rfl rfl HO.out (by rw [bys_len]; simp [be4]; omega) hsz ?_)
  intro v2 w2 ho2 hg
  have hlt := HO.out.lt
  go_wp2
  go_ret
  refine ⟨v2, rfl, ?_, HK.out.grown hg (fun k hk1 hk2 => by have := hlt k hk1; omega)⟩
  rw [← bys_app] at ho2
  simpa [encText, size_toList] using ho2

theorem ne_empty {s : ByteArray} (h : 0 < s.size) : s.toList.isEmpty = false := by
  have := toList_ne h
  simpa using this
def strLen : Value → Nat
  | .string s => s.size
  | _ => 0
theorem tail_toList (s : ByteArray) : (s.extract 1 s.size).toList = s.toList.tail := by
  obtain ⟨l, rfl⟩ : ∃ l : List UInt8, s = ⟨l.toArray⟩ := ⟨s.toList, str_mk s⟩
  have e : ({ data := l.toArray } : ByteArray).size = l.length := by simp [ByteArray.size]
  rw [e, ByteArray.extract_mk, ByteArray.toList_mk, ByteArray.toList_mk]
  simp [List.take_of_length_le]
theorem strip_step (s : ByteArray) (h : 0 < s.size) (hz : (s[0]).toNat = 0) : stripZ (s.extract 1 s.size).toList = stripZ s.toList := by
  rw [tail_toList, str_get0 s h, List.tail_cons]
  have : s[0] = 0 := UInt8.toNat_inj.1 (by simpa using hz)
  conv => rhs; unfold stripZ
  rw [if_pos this]
theorem strip_end (s : ByteArray) (hc : ¬ ∃ h : 0 < s.size, (s[0]'h).toNat = 0) : stripZ s.toList = s.toList := by
  by_cases h : 0 < s.size
  · rw [str_get0 s h]
    unfold stripZ
    rw [if_neg (fun e => hc ⟨h, by rw [e]; rfl⟩)]
  · rw [toList_nil h]; rfl
theorem zero_app (s : ByteArray) : (({ data := #[0] } : ByteArray) ++ s).toList = 0 :: s.toList := by
  obtain ⟨l, rfl⟩ : ∃ l : List UInt8, s = ⟨l.toArray⟩ := ⟨s.toList, str_mk s⟩
  have : ({ data := #[0] } : ByteArray) = { data := [0].toArray } := rfl
  rw [this, ByteArray.mk_append_mk, ByteArray.toList_mk, ByteArray.toList_mk]
  rfl

end Go.Proofs.Ytbifdckmkogbgaa
