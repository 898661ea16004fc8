/- Package xml: a reader in memory; what it takes. Package xml: names, as a reader takes them. Package xml: names with prefixes. A strings.Builder at the head of a block, whatever stands behind it there. A string's bytes appended to a slice of one's own: where the row lies. Nothing of the program stands here. Append to rows of one's own whose elements have several cells: where the row lies, what changes. Nothing of the program stands here. A strings.Builder at the head of a block: what its calls do. A strings.Builder at the head of a block: its text. Package xml: a text without entities; an attribute's value. Package xml: an attribute's value. Package xml: a tag in memory; has. -/
import Derived.Test.YtchmookggegmnaaGreatDoorXa
import Derived.Test.YtchmookggegmnaaGreatDoorShelf
import Derived.Shelf.Strings.SlTrimAscii
import Derived.Deep.DeepCutAuto
import Derived.Test.YtchmookggegmnaaGreatDoorChecked
import Derived.Lib.UnsafeStr
import Derived.Lib.Builder
import Derived.Deep.QuietTactic
import Derived.BigQuiet
import Derived.Lib.AppendStr
import Derived.RegionTactic
import Derived.Lib.FrozenHead
import Derived.Laws.StructEq
namespace Go.Proofs.YtchmookggegmnaaGreatDoor
open Go Go.RowKit
/-- The blocks that may change: those from B on, but for Z. -/
abbrev FB (B : Nat) (Z : Nat → Prop) : Nat → Prop := fun i => B ≤ i ∧ ¬ Z i
/-- Pairs of texts as cells. -/
def prs : List (List UInt8 × List UInt8) → List Value
  | [] => []
  | p :: l => .string (S p.1) :: .string (S p.2) :: prs l
theorem prs_len (l : List (List UInt8 × List UInt8)) : (prs l).length = l.length * 2 := by
  induction l with
  | nil => rfl
  | cons p l ih => simp only [prs, List.length_cons, ih]; omega
theorem prs_app (a b : List (List UInt8 × List UInt8)) : prs (a ++ b) = prs a ++ prs b := by
  induction a with
  | nil => rfl
  | cons p l ih => simp only [prs, List.cons_append, ih]
theorem prs_take (l : List (List UInt8 × List UInt8)) (k : Nat) : (prs l).take (k * 2) = prs (l.take k) := by
  induction l generalizing k with
  | nil => simp [prs]
  | cons p l ih =>
    cases k with
    | zero => simp [prs]
    | succ k =>
      rw [show (k + 1) * 2 = k * 2 + 1 + 1 by omega]
      simp only [prs, List.take_succ_cons, ih]
theorem prs_get (l : List (List UInt8 × List UInt8)) (i : Nat) (h : i < l.length) : (prs l)[i * 2]? = some (.string (S (l[i]).1)) ∧ (prs l)[i * 2 + 1]? = some (.string (S (l[i]).2)) := by
  induction l generalizing i with
  | nil => simp at h
  | cons p l ih =>
    cases i with
    | zero => exact ⟨rfl, rfl⟩
    | succ i =>
      rw [show (i + 1) * 2 = i * 2 + 1 + 1 by omega]
      simp only [prs, List.getElem?_cons_succ, List.getElem_cons_succ]
      exact ih i (by simpa using h)
/-- A reader in memory: what is left, what was said of prefixes. -/
structure XrV (B : Nat) (Z : Nat → Prop) (w : World) (b : Nat) (vs : Value) (l : List UInt8) (said : Say) : Prop where
  blk : Blk w b 53 [.string (S l), vs]
  ow : w.ownsRow B 120 2 vs said.length (prs said)
  ge : B ≤ b
  nz : ¬ Z b
  aw : ∀ g, vs.ownBlock = some g → g ≠ b ∧ ¬ Z g
  zs : ∀ i, Z i → i < w.heap.size
  ml : ∃ m, w.cell? ⟨2, 0, none⟩ = some (.int .i64 m)
  gb : 2 < B
def Xr (B : Nat) (Z : Nat → Prop) (w : World) (b : Nat) (l : List UInt8) (said : Say) : Prop := ∃ vs, XrV B Z w b vs l said
theorem own_keep {B : Nat} {e : TypeId} {size n : Nat} {w w' : World} {v : Value} {xs : List Value} (h : w.ownsRow B e size v n xs) {S : Nat → Prop} (hk : Kp S w w') (hs : ∀ b, v.ownBlock = some b → ¬ S b) : w'.ownsRow B e size v n xs := by
  refine ⟨h.1, ?_⟩
  rcases h.2 with h0 | ⟨g, cap, cur, rfl, hb, hh, r⟩
  · exact .inl h0
  · have hl := (Array.getElem?_eq_some_iff.1 hh).1
    exact .inr ⟨g, cap, cur, rfl, hb, by rw [hk.block g hl (hs g rfl)]; exact hh, r⟩
section
variable {B : Nat} {Z : Nat → Prop} {w w1 : World} {b : Nat} {vs : Value} {l : List UInt8} {said : Say}
theorem XrV.xr (h : XrV B Z w b vs l said) : Xr B Z w b l said := ⟨_, h⟩
theorem XrV.lt (h : XrV B Z w b vs l said) : b < w.heap.size := h.blk.lt
theorem XrV.c0 (h : XrV B Z w b vs l said) : w.cell? ⟨b, 0, none⟩ = some (.string (S l)) := h.blk.cellV 0 rfl
theorem XrV.c1 (h : XrV B Z w b vs l said) : w.cell? ⟨b, 1, none⟩ = some vs := h.blk.cellV 1 rfl
theorem XrV.fz (h : XrV B Z w b vs l said) (i : Nat) : w.frozen? ⟨b, i, none⟩ = false := blk_frozen h.blk i
theorem XrV.mb (h : XrV B Z w b vs l said) : 2 < w.heap.size := by
  obtain ⟨m, hm⟩ := h.ml
  exact World.block_lt_of_cell? w _ hm
/-- Other blocks changed. -/
theorem XrV.keep (h : XrV B Z w b vs l said) {S : Nat → Prop} (hk : Kp S w w1) (hb : ¬ S b) (hw : ∀ g, vs.ownBlock = some g → ¬ S g) (hm : ¬ S 2) : XrV B Z w1 b vs l said := by
  obtain ⟨m, hml⟩ := h.ml
  exact ⟨h.blk.keep hk hb, own_keep h.ow hk hw, h.ge, h.nz, h.aw, fun i hi => Nat.lt_of_lt_of_le (h.zs i hi) hk.size, ⟨m, hk.cell hml hm⟩, h.gb⟩
theorem XrV.kp0 (h : XrV B Z w b vs l said) (hk : Kp0 w w1) : XrV B Z w1 b vs l said := h.keep hk (fun h => h) (fun _ _ h => h) (fun h => h)
theorem Xr.kp0 (h : Xr B Z w b l said) (hk : Kp0 w w1) : Xr B Z w1 b l said := by
  obtain ⟨vs, h⟩ := h
  exact (h.kp0 hk).xr
theorem XrV.at (_h : XrV B Z w b vs l said) (i : Nat) (v : Value) : Kp (fun g => g = b) w1 (w1.setCell ⟨b, i, none⟩ v) := (Kp.refl (fun g => g = b) w1).setCell (p := ⟨b, i, none⟩) (fun _ => rfl) v
/-- What is left, stored anew. -/
theorem XrV.setR (h : XrV B Z w b vs l said) (l' : List UInt8) : XrV B Z (w.setCell ⟨b, 0, none⟩ (.string (S l'))) b vs l' said := by
  have hs : Kp (fun g => g = b) w (w.setCell ⟨b, 0, none⟩ (.string (S l'))) := h.at 0 _
  obtain ⟨m, hm⟩ := h.ml
  have hg := h.gb
  have hge := h.ge
  exact ⟨h.blk.set' 0 _, own_keep h.ow hs (fun g hg => (h.aw g hg).1), h.ge, h.nz, h.aw, fun i hi => Nat.lt_of_lt_of_le (h.zs i hi) hs.size, ⟨m, hs.cell hm (by show ¬ 2 = b; omega)⟩, h.gb⟩
theorem XrV.fb (h : XrV B Z w b vs l said) (hk : Kp (fun g => g = b) w w1) : Kp (FB B Z) w w1 := hk.mono (fun i _ hi => by subst hi; exact ⟨h.ge, h.nz⟩)
theorem Xr.fb (h : Xr B Z w b l said) (hk : Kp (fun g => g = b) w w1) : Kp (FB B Z) w w1 := by
  obtain ⟨vs, h⟩ := h
  exact h.fb hk
end
theorem toList_data (s : ByteArray) : s.data.toList = s.toList := (ByteArray.toList_eq s).symm
set_option maxRecDepth 20000 in
theorem take_any (B : Nat) (Z : Nat → Prop) (b : Nat) (l : List UInt8) (said : Say) (vs : Value) (x : ByteArray) (xl : List UInt8) (w : World) (hx : x.toList = xl) (h : XrV B Z w b vs l said) :
    Calls Tryz.prog 33 #[.pointer (some ⟨b, 0, none⟩), .string x] w fun e w' => e = .returned (.bool (Lib.hasPrefix l xl)) ∧ XrV B Z w' b vs (Lib.trimPrefix l xl) said ∧ Kp (fun g => g = b) w w' := by
  have H := Lib.hid h
  have HX := Lib.hid hx
  have hc0 := h.c0
  have hf0 := h.fz 0
  clear h hx
  go_enter Tryz.func33, Tryz.ntmps33
  go_wp2_with (go_at_call 49; refine (Tryz.strings_CutPrefix _ _ _).mono ?_; rw [S_data, toList_data, HX.out]; rintro e w' ⟨rfl, rfl⟩)
  go_ret
  exact ⟨rfl, H.out.setR _, H.out.at 0 _⟩
set_option maxRecDepth 20000 in
theorem until_any (B : Nat) (Z : Nat → Prop) (b : Nat) (l : List UInt8) (said : Say) (vs : Value) (x : ByteArray) (xl : List UInt8) (w : World) (hx : x.toList = xl) (h : XrV B Z w b vs l said) (hl : l.length ≤ 16384) :
    Calls Tryz.prog 34 #[.pointer (some ⟨b, 0, none⟩), .string x] w fun e w' => e = .returned (.tuple #[.string (S (Lib.cut l xl).1), .bool (Lib.cut l xl).2.2]) ∧ XrV B Z w' b vs (Lib.cut l xl).2.1 said ∧ Kp (fun g => g = b) w w' := by
  have H := Lib.hid h
  have HX := Lib.hid hx
  have HL := Lib.hid hl
  have hc0 := h.c0
  obtain ⟨m, hm⟩ := h.ml
  have HM := Lib.hid hm
  clear h hx hm hl
  go_enter Tryz.func34, Tryz.ntmps34
  go_wp2_with fail
  go_at_call 50
  refine (Tryz.strings_Cut _ _ m _ (by rw [S_size]; have := HL.out; omega) HM.out).mono ?_
  rw [S_data, toList_data, HX.out]
  rintro e w' ⟨rfl, n, rfl⟩
  have H2 := Lib.hid (H.out.kp0 ((Kp.refl _ _).drewN n))
  have HK2 : Hid (Kp0 w (w.drewN n)) := Lib.hid ((Kp.refl _ _).drewN n)
  have hf0 := H2.out.fz 0
  have hc0' := H2.out.c0
  generalize w.drewN n = w2 at H2 HK2 hf0 hc0' ⊢
  clear hc0
  go_wp2
  all_goals go_ret2
  all_goals exact ⟨rfl, H2.out.setR _, (HK2.out.nil _).tr (H2.out.at 0 _)⟩
theorem blanks_lit : ∀ (j : Nat) b, ({ data := #[32, 9, 10, 13] } : ByteArray).data.toList[j]? = some b → b.toNat < 128 := ascii_of_all (by decide)
theorem trimL_any (s : ByteArray) (w : World) : Calls Tryz.prog 52 #[.string s, .string { data := #[32, 9, 10, 13] }] w fun e w' => e = .returned (.string (S (dropB s.toList))) ∧ Kp0 w w' := by
  refine (Any.strings_TrimLeft_laid Tryz.lays161 (by kernel_rfl) s _ w (by decide) blanks_lit).mono ?_
  rintro e w' ⟨rfl, hb⟩
  rw [toList_data]
  exact ⟨rfl, (Kp.of_below hb).mono (fun i hi h2 => absurd hi (Nat.not_lt.2 h2))⟩
set_option maxRecDepth 20000 in
theorem blanks_any (B : Nat) (Z : Nat → Prop) (b : Nat) (l : List UInt8) (said : Say) (vs : Value) (w : World) (h : XrV B Z w b vs l said) (_hl : l.length ≤ 16384) :
    Calls Tryz.prog 36 #[.pointer (some ⟨b, 0, none⟩)] w fun e w' => e = .returned (.bool (decide ((dropB l).length < l.length))) ∧ XrV B Z w' b vs (dropB l) said ∧ Kp (fun g => g = b) w w' := by
  have H := Lib.hid h
  have hc0 := h.c0
  have hz := S_size l
  have hz2 := S_size (dropB l)
  have HZ := Lib.hid hz2
  clear h
  go_enter Tryz.func36, Tryz.ntmps36
  go_wp2_with fail
  go_at_call 52
  refine (trimL_any _ _).mono ?_
  rw [S_toList]
  rintro e w2 ⟨rfl, hk⟩
  have H2 := Lib.hid (H.out.kp0 hk)
  have HK2 := Lib.hid hk
  have hf0 := H2.out.fz 0
  have hc0' := H2.out.c0
  clear hk hc0
  go_wp2
  all_goals go_ret
  all_goals exact ⟨rfl, H2.out.setR _, (HK2.out.nil _).tr (H2.out.at 0 _)⟩
end Go.Proofs.YtchmookggegmnaaGreatDoor
namespace Go.Proofs.YtchmookggegmnaaGreatDoor
open Go Go.RowKit
theorem dw_drop {α : Type} (p : α → Bool) (l : List α) : l.dropWhile p = l.drop (l.takeWhile p).length := by
  induction l with
  | nil => rfl
  | cons a l ih =>
    simp only [List.dropWhile_cons, List.takeWhile_cons]
    cases p a <;> simp [ih]
theorem tw_take {α : Type} (p : α → Bool) (l : List α) : l.takeWhile p = l.take (l.takeWhile p).length := by
  induction l with
  | nil => rfl
  | cons a l ih =>
    simp only [List.takeWhile_cons]
    cases p a
    · simp
    · simp only [if_true, List.length_cons, List.take_succ_cons]
      rw [← ih]
theorem tw_le {α : Type} (p : α → Bool) (l : List α) : (l.takeWhile p).length ≤ l.length := by
  induction l with
  | nil => simp
  | cons a l ih =>
    simp only [List.takeWhile_cons]
    cases p a <;> simp; omega
theorem S_get (l : List UInt8) (k : Nat) (h : k < (S l).size) (h2 : k < l.length) : (S l)[k]'h = l[k]'h2 := by
  rw [← get_toList (S l) k h]
  simp only [S_toList]
theorem idx_name (l : List UInt8) : ∀ f pos, pos ≤ l.length → l.length ≤ pos + f →
    Lib.idxFuncFrom inNameN false (S l) f pos = if pos + ((l.drop pos).takeWhile inNameC).length < l.length then ((pos + ((l.drop pos).takeWhile inNameC).length : Nat) : Int) else -1 := by
  intro f
  induction f with
  | zero =>
    intro pos h1 h2
    rw [if_neg (by omega)]
    rfl
  | succ f ih =>
    intro pos h1 h2
    unfold Lib.idxFuncFrom
    rw [S_size]
    by_cases hp : pos < l.length
    · have hp' : pos < (S l).size := by rw [S_size]; exact hp
      obtain ⟨c, hc⟩ : ∃ c, c = l[pos]'hp := ⟨_, rfl⟩
      have hg : (S l)[pos]'hp' = c := by rw [hc]; exact S_get l pos hp' hp
      rw [if_pos hp, List.drop_eq_getElem_cons hp, List.takeWhile_cons, ← hc]
      by_cases ha : c.toNat < 128
      · have hd := decode_ascii (S l) pos hp' (by rw [hg]; exact ha)
        rw [hg] at hd
        rw [hd]
        have e : inNameN c.toNat = inNameC c := rfl
        simp only [e]
        cases inNameC c with
        | false => simp [hp]
        | true =>
          simp only [Bool.true_eq_false, if_false, if_true, List.length_cons]
          rw [ih (pos + 1) (by omega) (by omega)]
          rw [show pos + (((l.drop (pos + 1)).takeWhile inNameC).length + 1) = pos + 1 + ((l.drop (pos + 1)).takeWhile inNameC).length by omega]
      · have hd := (decode_high (S l) pos hp' (by rw [hg]; omega)).1
        have e2 : inNameC c = false := by unfold inNameC; exact big_no (by omega)
        rw [big_no hd, e2]
        simp [hp]
    · rw [if_neg hp, if_neg]
      have : (l.drop pos).length = 0 := by simp; omega
      rw [List.eq_nil_of_length_eq_zero this]
      simp
      omega
theorem trimF_name (l : List UInt8) : Lib.trimLeftF inNameN (S l) = S (nameX l).2 := by
  have h := idx_name l (S l).size 0 (Nat.zero_le _) (by rw [S_size]; omega)
  simp only [List.drop_zero, Nat.zero_add] at h
  have hl := tw_le inNameC l
  unfold Lib.trimLeftF Lib.idxFunc nameX
  rw [h]
  simp only []
  apply str_ext
  rw [S_toList, dw_drop]
  split
  · rename_i h1
    rw [if_neg (by omega), extract_toList, S_toList, S_size, Int.toNat_natCast, List.take_of_length_le (by rw [List.length_drop]; omega)]
  · rename_i h1
    rw [if_pos rfl, List.drop_eq_nil_of_le (by omega), nil_toList]
theorem nameX_len (l : List UInt8) : (nameX l).2.length + (nameX l).1.length = l.length := by
  have h1 : (nameX l).1 ++ (nameX l).2 = l := List.takeWhile_append_dropWhile
  have h2 := congrArg List.length h1
  rw [List.length_append] at h2
  omega
theorem enters_inName : ∀ args w, (callFunc 18 args).run Tryz.prog w = .ok (.enter 18 args) w := enters_of Tryz.func18 (by kernel_rfl) rfl
theorem trimLF_any (l : List UInt8) (w : World) : Calls Tryz.prog 86 #[.string (S l), .func (.func 18) #[] #[]] w fun e w' => e = .returned (.string (S (nameX l).2)) ∧ Kp0 w w' := by
  refine (Tryz.strings_TrimLeftFunc 18 #[] enters_inName inNameN (S l) w (fun W x _ => ?_)).mono ?_
  · refine (inName_any x W).mono ?_
    rintro e w' ⟨rfl, rfl⟩
    exact ⟨rfl, 0, rfl⟩
  · rintro e w' ⟨rfl, hb⟩
    rw [trimF_name]
    exact ⟨rfl, (Kp.of_below hb).mono (fun i hi h2 => absurd hi (Nat.not_lt.2 h2))⟩
set_option maxRecDepth 20000 in
set_option maxHeartbeats 1000000 in
theorem rname_any (B : Nat) (Z : Nat → Prop) (b : Nat) (l : List UInt8) (said : Say) (vs : Value) (w : World) (h : XrV B Z w b vs l said) (hl : l.length ≤ 16384) :
    Calls Tryz.prog 68 #[.pointer (some ⟨b, 0, none⟩)] w fun e w' => e = .returned (.tuple #[.string (S (nameX l).1), .bool (isName (nameX l).1)]) ∧ XrV B Z w' b vs (nameX l).2 said ∧ Kp (fun g => g = b) w w' := by
  have H := Lib.hid h
  have hc0 := h.c0
  have HL := Lib.hid hl
  clear h
  go_enter Tryz.func68, Tryz.ntmps68
  go_wp2_with fail
  go_at_call 86
  refine (trimLF_any l _).mono ?_
  rintro e w2 ⟨rfl, hk⟩
  have H2 := Lib.hid (H.out.kp0 hk)
  have HK2 := Lib.hid hk
  have hc0' := H2.out.c0
  have hf0 := H2.out.fz 0
  clear hk hc0
  have hz := S_size l
  have hz2 := S_size (nameX l).2
  have hlen := nameX_len l
  obtain ⟨n, hn⟩ : ∃ n, n = l.length := ⟨_, rfl⟩
  obtain ⟨k, hk⟩ : ∃ k, k = (nameX l).2.length := ⟨_, rfl⟩
  obtain ⟨j, hj⟩ : ∃ j, j = (nameX l).1.length := ⟨_, rfl⟩
  rw [← hn] at hz hlen hl
  rw [← hk, ← hj] at hlen
  rw [← hk] at hz2
  have hsub : (n : Int) - (k : Int) = (j : Int) := by omega
  have hwr : IntKind.i64.wrap ((n : Int) - (k : Int)) = (j : Int) := by rw [hsub]; exact IntWalk.i64_in _ (by omega)
  have HEX : Hid ((S l).extract 0 j = S (nameX l).1) := Lib.hid (by
    apply str_ext
    rw [extract_toList, S_toList, S_toList, List.drop_zero, Nat.sub_zero, hj]
    exact (tw_take inNameC l).symm)
  have hjn : (j : Int) ≤ (n : Int) := by omega
  have hni : (n : Int) ≤ 16384 := by omega
  clear hlen hn hk hj hl hsub
  go_upto_region 2 with (fail)
  go_quiet (fail)
  rename_i nq
  have H3 := Lib.hid (H2.out.kp0 ((Kp.refl _ _).drewN nq))
  have HK3 := Lib.hid (HK2.out.drewN nq)
  rw [HEX.out]
  have hf0' := H3.out.fz 0
  have hc3 := H3.out.c0
  generalize w2.drewN nq = w3 at H3 HK3 hf0' hc3 ⊢
  clear hc0' hf0 H2 HK2 hz hwr hjn
  have hsz : Hid ((S (nameX l).1).size ≤ 9223372036854775807) := Lib.hid (by
    have h1 := nameX_len l
    have h2 := S_size (nameX l).1
    have h3 := S_size l
    have h4 := HL.out
    omega)
  go_wp2_with (go_at_call 11; refine (name_any _ _ hsz.out).mono ?_; rw [S_toList]; rintro e w4 ⟨rfl, hk⟩; have HK4 := Lib.hid hk; clear hk)
  all_goals go_ret2
  all_goals exact ⟨rfl, (H3.out.setR _).kp0 HK4.out, ((HK3.out.nil _).tr (H3.out.at 0 _)).tr (HK4.out.nil _)⟩
end Go.Proofs.YtchmookggegmnaaGreatDoor
namespace Go.Proofs.YtchmookggegmnaaGreatDoor
open Go Go.RowKit
theorem lit1 (a : List UInt8) : ({ data := a.toArray } : ByteArray).toList = a := ByteArray.toList_mk a
/-- A written name as a value. -/
abbrev wnV (n : Wn) : Value := .agg #[.string (S n.1), .string (S n.2)]
theorem nameX_le (l : List UInt8) : (nameX l).2.length ≤ l.length := by have := nameX_len l; omega
theorem trimP_le (l x : List UInt8) : (Lib.trimPrefix l x).length ≤ l.length := by unfold Lib.trimPrefix; split <;> simp
theorem trimP_yes {l x : List UInt8} (h : Lib.hasPrefix l x = true) : Lib.trimPrefix l x = l.drop x.length := by unfold Lib.trimPrefix; rw [h]; rfl
theorem trimP_no {l x : List UInt8} (h : Lib.hasPrefix l x = false) : Lib.trimPrefix l x = l := by unfold Lib.trimPrefix; rw [h]; rfl
theorem dropB_le (l : List UInt8) : (dropB l).length ≤ l.length := by
  unfold dropB Lib.trimLeftS
  rw [dw_drop]
  simp
theorem writtenX_le (l : List UInt8) : (writtenX l).2.length ≤ l.length := by
  have h1 := nameX_le l
  have h2 := nameX_le ((nameX l).2.drop 1)
  have h3 : ((nameX l).2.drop 1).length ≤ (nameX l).2.length := by simp
  unfold writtenX
  split <;> simp only [] <;> omega
def WrPost (B : Nat) (Z : Nat → Prop) (b : Nat) (said : Say) (vs : Value) (r : (Wn × Bool) × List UInt8) (w : World) (e : Ending) (w' : World) : Prop :=
  e = .returned (.tuple #[wnV r.1.1, .bool r.1.2]) ∧ XrV B Z w' b vs r.2 said ∧ Kp (fun g => g = b) w w'
/-- A block of the call's own, written. -/
theorem XrV.own1 {B : Nat} {Z : Nat → Prop} {w w1 : World} {b : Nat} {vs : Value} {l : List UInt8} {said : Say} {S : Nat → Prop} (h : XrV B Z w b vs l said) (hk : Kp S w w1) (hs : S b → False) (hv : ∀ g, vs.ownBlock = some g → ¬ S g) (hm : ¬ S 2) : XrV B Z w1 b vs l said := h.keep hk hs hv hm
theorem XrV.two {B : Nat} {Z : Nat → Prop} {w w0 : World} {b : Nat} {vs : Value} {l : List UInt8} {said : Say} (h : XrV B Z w b vs l said) (h0 : ∃ l0, XrV B Z w0 b vs l0 said) (x y : Value) : XrV B Z ((w.setCell ⟨w0.heap.size, 0, none⟩ x).setCell ⟨w0.heap.size, 1, none⟩ y) b vs l said := by
  obtain ⟨l0, h0⟩ := h0
  refine h.keep (S := fun i => i = w0.heap.size) (((Kp.refl (fun i => i = w0.heap.size) w).setCell (p := ⟨w0.heap.size, 0, none⟩) (fun _ => rfl) x).setCell (p := ⟨w0.heap.size, 1, none⟩) (fun _ => rfl) y) ?_ ?_ ?_
  · have := h0.lt; omega
  · intro g hg e
    have := (h0.ow.lt g hg).2
    omega
  · have := h0.mb; omega
theorem Kp.two {b : Nat} {w w0 : World} (h : Kp (fun g => g = b) w0 w) (x y : Value) : Kp (fun g => g = b) w0 ((w.setCell ⟨w0.heap.size, 0, none⟩ x).setCell ⟨w0.heap.size, 1, none⟩ y) :=
  (h.setCell (p := ⟨w0.heap.size, 0, none⟩) (fun h => absurd h (Nat.lt_irrefl _)) x).setCell (p := ⟨w0.heap.size, 1, none⟩) (fun h => absurd h (Nat.lt_irrefl _)) y
set_option maxRecDepth 20000 in
set_option maxHeartbeats 1000000 in
theorem written_any (B : Nat) (Z : Nat → Prop) (b : Nat) (l : List UInt8) (said : Say) (vs : Value) (w : World) (h : XrV B Z w b vs l said) (hl : l.length ≤ 16384) :
    Calls Tryz.prog 53 #[.pointer (some ⟨b, 0, none⟩)] w (WrPost B Z b said vs (writtenX l) w) := by
  have H := Lib.hid h
  have HL := Lib.hid hl
  have hlt : b < w.heap.size := h.lt
  have HK0 : Hid (Kp0 w (w.alloc (.cells #[.string { data := #[] }, .string { data := #[] }] 76))) := Lib.hid ((Kp.refl _ _).alloc _)
  have HV : Hid (∃ l0, XrV B Z w b vs l0 said) := Lib.hid ⟨l, h⟩
  clear h hl
  obtain ⟨ok, hok⟩ : ∃ ok, ok = isName (nameX l).1 := ⟨_, rfl⟩
  have HN : Hid (isName (nameX l).1 = ok) := Lib.hid hok.symm
  cases ok with
  | false =>
    have HR : Hid (writtenX l = ((([], (nameX l).1), false), (nameX l).2)) := Lib.hid (by unfold writtenX; rw [← hok]; rfl)
    clear hok
    rw [HR.out]
    go_enter Tryz.func53, Tryz.ntmps53
    go_wp2_with fail
    refine (rname_any B Z b l said vs _ (H.out.kp0 HK0.out) HL.out).mono ?_
    rw [HN.out]
    rintro e w2 ⟨rfl, h2, hk⟩
    have H2 := Lib.hid h2
    have HK2 := Lib.hid (HK0.out.nil (fun g => g = b) |>.tr hk)
    have hb2 : Blk w2 w.heap.size 76 [.string { data := #[] }, .string { data := #[] }] := (blk0 w _ _).keep hk (by show ¬ w.heap.size = b; omega)
    have HB2 := Lib.hid hb2
    have q0 := hb2.cellV 0 rfl
    have q1 := hb2.cellV 1 rfl
    have f0 := blk_frozen hb2 0
    have f1 := blk_frozen hb2 1
    clear h2 hk hb2
    go_wp2
    exact bodyPost_ret (v := .tuple #[.agg #[.string (S []), .string (S (nameX l).1)], .bool false]) (by simp [results, Tryz.results53, go_sem, q0, q1]; rfl) rfl ⟨rfl, H2.out.two HV.out _ _, HK2.out.two _ _⟩
  | true =>
    obtain ⟨f, hf⟩ : ∃ f, f = Lib.hasPrefix (nameX l).2 [58] := ⟨_, rfl⟩
    have HF : Hid (Lib.hasPrefix (nameX l).2 [58] = f) := Lib.hid hf.symm
    have HNL := Lib.hid (nameX_le l)
    cases f with
    | false =>
      have HR : Hid (writtenX l = ((([], (nameX l).1), true), (nameX l).2)) := Lib.hid (by unfold writtenX; rw [← hok, ← hf]; rfl)
      have HT := Lib.hid (trimP_no hf.symm)
      clear hok hf
      rw [HR.out]
      go_enter Tryz.func53, Tryz.ntmps53
      go_wp2_with fail
      refine (rname_any B Z b l said vs _ (H.out.kp0 HK0.out) HL.out).mono ?_
      rw [HN.out]
      rintro e w2 ⟨rfl, h2, hk⟩
      have H2 := Lib.hid h2
      have HK2 := Lib.hid (HK0.out.nil (fun g => g = b) |>.tr hk)
      have hb2 : Blk w2 w.heap.size 76 [.string { data := #[] }, .string { data := #[] }] := (blk0 w _ _).keep hk (by show ¬ w.heap.size = b; omega)
      have HB2 := Lib.hid hb2
      have q0 := hb2.cellV 0 rfl
      have q1 := hb2.cellV 1 rfl
      have f0 := blk_frozen hb2 0
      have f1 := blk_frozen hb2 1
      clear h2 hk hb2
      go_wp2_with fail
      refine (take_any B Z b _ said vs _ [58] _ (lit1 [58]) H2.out).mono ?_
      rw [HF.out]
      rintro e w3 ⟨rfl, h3, hk⟩
      have H3 := Lib.hid h3
      have HK3 := Lib.hid (HK2.out.tr hk)
      have hb3 := HB2.out.keep hk (by show ¬ w.heap.size = b; omega)
      have HB3 := Lib.hid hb3
      have q0 := hb3.cellV 0 rfl
      have q1 := hb3.cellV 1 rfl
      have f0 := blk_frozen hb3 0
      have f1 := blk_frozen hb3 1
      clear h3 hk hb3
      go_wp2
      rw [HT.out] at H3
      exact bodyPost_ret (v := .tuple #[.agg #[.string (S []), .string (S (nameX l).1)], .bool true]) (by simp [results, Tryz.results53, go_sem, q0, q1]; rfl) rfl ⟨rfl, H3.out.two HV.out _ _, HK3.out.two _ _⟩
    | true =>
      have HR : Hid (writtenX l = ((((nameX l).1, (nameX ((nameX l).2.drop 1)).1), isName (nameX ((nameX l).2.drop 1)).1), (nameX ((nameX l).2.drop 1)).2)) := Lib.hid (by unfold writtenX; rw [← hok, ← hf]; rfl)
      have HT : Hid (Lib.trimPrefix (nameX l).2 [58] = (nameX l).2.drop 1) := Lib.hid (trimP_yes hf.symm)
      clear hok hf
      rw [HR.out]
      go_enter Tryz.func53, Tryz.ntmps53
      go_wp2_with fail
      refine (rname_any B Z b l said vs _ (H.out.kp0 HK0.out) HL.out).mono ?_
      rw [HN.out]
      rintro e w2 ⟨rfl, h2, hk⟩
      have H2 := Lib.hid h2
      have HK2 := Lib.hid (HK0.out.nil (fun g => g = b) |>.tr hk)
      have hb2 : Blk w2 w.heap.size 76 [.string { data := #[] }, .string { data := #[] }] := (blk0 w _ _).keep hk (by show ¬ w.heap.size = b; omega)
      have HB2 := Lib.hid hb2
      have q0 := hb2.cellV 0 rfl
      have q1 := hb2.cellV 1 rfl
      have f0 := blk_frozen hb2 0
      have f1 := blk_frozen hb2 1
      clear h2 hk hb2
      go_wp2_with fail
      refine (take_any B Z b _ said vs _ [58] _ (lit1 [58]) H2.out).mono ?_
      rw [HF.out]
      rintro e w3 ⟨rfl, h3, hk⟩
      have H3 := Lib.hid h3
      have HK3 := Lib.hid (HK2.out.tr hk)
      have hb3 := HB2.out.keep hk (by show ¬ w.heap.size = b; omega)
      have HB3 := Lib.hid hb3
      have q0 := hb3.cellV 0 rfl
      have q1 := hb3.cellV 1 rfl
      have f0 := blk_frozen hb3 0
      have f1 := blk_frozen hb3 1
      clear h3 hk hb3
      rw [HT.out] at H3
      go_wp2_with fail
      refine (rname_any B Z b _ said vs _ H3.out (by have := HNL.out; have := HL.out; rw [List.length_drop]; omega)).mono ?_
      rintro e w4 ⟨rfl, h4, hk⟩
      have H4 := Lib.hid h4
      have HK4 := Lib.hid (HK3.out.tr hk)
      have hb4 := HB3.out.keep hk (by show ¬ w.heap.size = b; omega)
      have q0 := hb4.cellV 0 rfl
      have q1 := hb4.cellV 1 rfl
      have f0 := blk_frozen hb4 0
      have f1 := blk_frozen hb4 1
      clear h4 hk hb4
      go_wp2
      exact bodyPost_ret (v := .tuple #[.agg #[.string (S (nameX l).1), .string (S (nameX ((nameX l).2.drop 1)).1)], .bool (isName (nameX ((nameX l).2.drop 1)).1)]) (by simp [results, Tryz.results53, go_sem, q0, q1]) rfl ⟨rfl, H4.out.two HV.out _ _, HK4.out.two _ _⟩
end Go.Proofs.YtchmookggegmnaaGreatDoor
namespace Go.Proofs.YtchmookggegmnaaGreatDoor
open Go Go.RowKit
theorem infoB1 (_w : World) : (Tryz.prog.info? 5).map (fun i => (i.zero, i.size, i.bytes)) = some (some (.int .u8 0), 1, 1) := by kernel_rfl
/-- A builder at the head of block b: its bytes. -/
structure Bb (T : TypeId) (B : Nat) (w : World) (b : Nat) (p v : Value) (rest : List Value) (l : List UInt8) : Prop where
  blk : Blk w b T (p :: v :: rest)
  ow : Own B 5 w v (bys l)
  pp : p = .pointer none ∨ p = .pointer (some ⟨b, 0, none⟩)
  ge : B ≤ b
  ne : ∀ g, v.ownBlock = some g → g ≠ b
  nl : l = [] → v = .slice none 0 0
def HasB (T : TypeId) (n : Nat) : Prop := liesAt Tryz.prog Tryz.prog.depth T (n / Tryz.prog.cellsOf T) 0 40 1 = true
section
variable {T : TypeId} {B b : Nat} {w w1 : World} {p v v1 : Value} {rest : List Value} {l : List UInt8}
theorem Bb.keep (h : Bb T B w b p v rest l) {S : Nat → Prop} (hk : Kp S w w1) (hb : ¬ S b) (hv : ∀ g, v.ownBlock = some g → ¬ S g) : Bb T B w1 b p v rest l :=
  ⟨h.blk.keep hk hb, h.ow.keep hk (fun g hg _ _ => hv g hg), h.pp, h.ge, h.ne, h.nl⟩
theorem Bb.kp0 (h : Bb T B w b p v rest l) (hk : Kp0 w w1) : Bb T B w1 b p v rest l := h.keep hk (fun h => h) (fun _ _ h => h)
theorem Bb.lt (h : Bb T B w b p v rest l) : b < w.heap.size := h.blk.lt
theorem Bb.c0 (h : Bb T B w b p v rest l) : w.cell? ⟨b, 0, none⟩ = some p := h.blk.cellV 0 rfl
theorem Bb.c1 (h : Bb T B w b p v rest l) : w.cell? ⟨b, 1, none⟩ = some v := h.blk.cellV 1 rfl
theorem Bb.fz (h : Bb T B w b p v rest l) (i : Nat) : w.frozen? ⟨b, i, none⟩ = false := blk_frozen h.blk i
/-- It is used. -/
theorem Bb.used (h : Bb T B w b p v rest l) : Bb T B (w.setCell ⟨b, 0, none⟩ (.pointer (some ⟨b, 0, none⟩))) b (.pointer (some ⟨b, 0, none⟩)) v rest l := by
  have hs : Kp (fun g => g = b) w (w.setCell ⟨b, 0, none⟩ (.pointer (some ⟨b, 0, none⟩))) := (Kp.refl (fun g => g = b) w).setCell (p := ⟨b, 0, none⟩) (fun _ => rfl) _
  exact ⟨h.blk.set' 0 _, h.ow.keep hs (fun g hg _ _ => h.ne g hg), .inr rfl, h.ge, h.ne, h.nl⟩
/-- A new row laid. -/
theorem Bb.put (h : Bb T B w b p v rest l) (hk : Kp (fun g => v.ownBlock = some g) w w1) {l1 : List UInt8} (ho : Own B 5 w1 v1 (bys l1)) (hb : ∀ g, v1.ownBlock = some g → v.ownBlock = some g ∨ w.heap.size ≤ g) (hn : l1 = [] → v1 = .slice none 0 0) :
    Bb T B (w1.setCell ⟨b, 1, none⟩ v1) b p v1 rest l1 ∧ Kp (fun g => g = b ∨ v.ownBlock = some g) w (w1.setCell ⟨b, 1, none⟩ v1) := by
  have hs : Kp (fun g => g = b) w1 (w1.setCell ⟨b, 1, none⟩ v1) := (Kp.refl (fun g => g = b) w1).setCell (p := ⟨b, 1, none⟩) (fun _ => rfl) _
  have hlt := h.lt
  have hne : ∀ g, v1.ownBlock = some g → g ≠ b := fun g hg => by
    rcases hb g hg with h1 | h1
    · exact h.ne g h1
    · omega
  have hB := h.blk.keep hk (fun e => h.ne b e rfl)
  exact ⟨⟨hB.set' 1 v1, ho.keep hs (fun g hg _ _ => hne g hg), h.pp, h.ge, hne, hn⟩, hk.trans hs (fun _ _ h => .inr h) (fun _ _ h => .inl h)⟩
end
set_option maxRecDepth 100000 in
set_option maxHeartbeats 1000000 in
theorem check_fresh (T : TypeId) (n b : Nat) (w : World) (hT : HasB T n) (h0 : w.cell? ⟨b, 0, none⟩ = some (.pointer none)) (hsh : w.shape? b = some (T, n)) (hn : 0 < n) (hfz : w.frozen? ⟨b, 0, none⟩ = false) :
    Calls Tryz.prog 29 #[.pointer (some ⟨b, 0, none⟩)] w fun e w' => e = .returned (.tuple #[]) ∧ w' = w.setCell ⟨b, 0, none⟩ (.pointer (some ⟨b, 0, none⟩)) := by
  obtain ⟨j, hj, hjs⟩ := Option.map_eq_some_iff.1 (show (Tryz.prog.info? 40).map (·.size) = some 2 by kernel_rfl)
  have HT := Lib.hid hT
  clear hT
  have HN := Lib.hid hn
  clear hn
  go_enter Tryz.func29, Tryz.ntmps29
  go_wp2
  rw [Lib.run_to_unsafe w ⟨b, 0, none⟩ Tryz.underlying37 Tryz.underlying86 hj (by rw [hjs]; decide) hsh HN.out]
  simp only [Result.andThen]
  rw [Oper.upon_value]
  go_wp2
  rw [run_callFunc_extern Tryz.func41 (by kernel_rfl) (by kernel_rfl) (by kernel_rfl) (e := Extern.AbiNoEscape.same) (by kernel_rfl)]
  rw [Lib.run_noEscape]
  simp only [Result.andThen]
  rw [Oper.upon_value]
  go_wp2
  rw [Lib.run_from_unsafe w ⟨b, 0, none⟩ Tryz.underlying86 Tryz.underlying37 hj hsh HT.out]
  simp only [Result.andThen]
  rw [Oper.upon_value]
  go_wp2
  go_end0
  exact ⟨rfl, rfl⟩
set_option maxRecDepth 100000 in
set_option maxHeartbeats 1000000 in
theorem check_used (b : Nat) (w : World) (h0 : w.cell? ⟨b, 0, none⟩ = some (.pointer (some ⟨b, 0, none⟩))) :
    Calls Tryz.prog 29 #[.pointer (some ⟨b, 0, none⟩)] w fun e w' => e = .returned (.tuple #[]) ∧ w' = w := by
  obtain ⟨j, hj, hjs⟩ := Option.map_eq_some_iff.1 (show (Tryz.prog.info? 40).map (·.size) = some 2 by kernel_rfl)
  go_enter Tryz.func29, Tryz.ntmps29
  go_wp2
  rw [Lib.run_neq_ptr_same w _ Tryz.underlying37 hj]
  go_wp2
  go_end0
  exact ⟨rfl, rfl⟩
theorem check_any (T : TypeId) (B b : Nat) (p v : Value) (rest : List Value) (l : List UInt8) (w : World) (hT : HasB T (rest.length + 2)) (h : Bb T B w b p v rest l) :
    Calls Tryz.prog 29 #[.pointer (some ⟨b, 0, none⟩)] w fun e w' => e = .returned (.tuple #[]) ∧ Bb T B w' b (.pointer (some ⟨b, 0, none⟩)) v rest l ∧ Kp (fun g => g = b) w w' := by
  rcases h.pp with rfl | rfl
  · refine (check_fresh T (rest.length + 2) b w hT h.c0 ?_ (by omega) (h.fz 0)).mono ?_
    · have := h.blk
      unfold Blk at this
      simp [World.shape?, this]
    · rintro e w' ⟨rfl, rfl⟩
      exact ⟨rfl, h.used, (Kp.refl (fun g => g = b) w).setCell (p := ⟨b, 0, none⟩) (fun _ => rfl) _⟩
  · refine (check_used b w h.c0).mono ?_
    rintro e w' ⟨rfl, rfl⟩
    exact ⟨rfl, h, Kp.refl _ _⟩
end Go.Proofs.YtchmookggegmnaaGreatDoor
namespace Go.Proofs.YtchmookggegmnaaGreatDoor
open Go Go.RowKit
section
variable {P : Program} {w : World} {ops : Array Oper} {rest : List Oper} {o : Oper} {a : Act} {Q : Exit → Act → World → Prop}
theorem run_append_str_at (t u ty e : TypeId) (ht : P.underlying t = some (.slice e)) (hu : P.underlying u = some .string) (hi : (P.info? e).map (fun i => (i.zero, i.size, i.bytes)) = some (some (.int .u8 0), 1, 1))
    {B : Nat} {v : Value} {xs : List Value} (hown : Own B e w v xs) (s : ByteArray) (h63 : xs.length + s.size ≤ 140737488355328) (hbase : B ≤ w.heap.size) :
    ∃ v' w', (Builtin.append_ #[t, u] ty #[v, .string s]).run P w = .ok v' w' ∧ Own B e w' v' (xs ++ bys s.toList) ∧ Kp (fun b => v.ownBlock = some b) w w' ∧ (∀ b, v'.ownBlock = some b → v.ownBlock = some b ∨ w.heap.size ≤ b) := by
  obtain ⟨i, hi, hz0, hz1, hz2⟩ := info_parts hi
  obtain ⟨v', w', hrun, r1, r2, _⟩ := Lib.run_append_own_string (P := P) w B t u ty e i ht hu hi hz0 hz1 hz2 v _ xs hown s (by unfold maxLen; omega) h63 hbase
  have hO : Own B e w' v' (xs ++ bys s.toList) := by
    rw [bys_str] at r1
    unfold Own
    rw [List.length_append, bys_len, size_toList]
    exact r1
  refine ⟨v', w', hrun, hO, (Kp.refl (fun b => v.ownBlock = some b) w).grown r2 (fun k hk _ => hk), ?_⟩
  rcases hown.2 with ⟨rfl, h0⟩ | ⟨g, cap, cur, rfl, hbg, hg, hnc, hcm, hcs, htake⟩
  · have hx0 : xs = [] := List.eq_nil_of_length_eq_zero h0
    subst hx0
    obtain ⟨v2, w2, hrun2, q1, _, _⟩ := Lib.run_append_own_string (P := P) w w.heap.size t u ty e i ht hu hi hz0 hz1 hz2 _ _ [] (World.ownsRow_nil w w.heap.size e 1) s (by simp at h63; unfold maxLen; omega) (by simpa using h63) (Nat.le_refl _)
    rw [hrun] at hrun2
    simp only [Result.ok.injEq] at hrun2
    obtain ⟨rfl, rfl⟩ := hrun2
    exact fun b hb => .inr (World.ownsRow.lt q1 b hb).1
  · by_cases hroom : xs.length + s.size ≤ cap
    · have hr := Lib.run_append_room_string (P := P) w t u ty e i ht hu hi hz1 g xs.length cap cur hg s hroom (by rw [hcs]; omega)
      rw [hrun] at hr
      simp only [Result.ok.injEq] at hr
      rw [hr.1]
      exact fun b hb => .inl hb
    · have holds : ∀ j u, xs[j]? = some u → w.cell? ((⟨g, 0, none⟩ : Addr).add j) = some u := hown.cells (g := g) rfl
      have hr := Lib.run_append_grow_string (P := P) w t u ty e i (.int .u8 0) ht hu hi hz0 ⟨g, 0, none⟩ xs.length cap xs (by rw [hz1, Nat.mul_one]) holds s (by omega) (by omega) (by rw [hz2]; exact growslice_fits (by omega) (by omega))
      rw [hrun] at hr
      simp only [Result.ok.injEq] at hr
      rw [hr.1]
      exact fun b hb => .inr (Nat.le_of_eq (Option.some.inj hb))
theorem wp_append_str_at (s x : Operand) (t u : TypeId) (ho : o.op = .call { callee := .builtin .append, args := #[s, x], argTypes := #[t, u] })
    {B e : Nat} (ht : P.underlying t = some (.slice e)) (hu : P.underlying u = some .string) (hi : (P.info? e).map (fun i => (i.zero, i.size, i.bytes)) = some (some (.int .u8 0), 1, 1))
    {v : Value} {xs : List Value} (st : ByteArray) (hs : a.eval s = v) (hx : a.eval x = .string st) (hown : Own B e w v xs) (h63 : xs.length + st.size ≤ 140737488355328) (hbase : B ≤ w.heap.size) {K : Act → World → Prop}
    (h : ∀ v' w', Own B e w' v' (xs ++ bys st.toList) → Kp (fun b => v.ownBlock = some b) w w' → (∀ b, v'.ownBlock = some b → v.ownBlock = some b ∨ w.heap.size ≤ b) → K (a.put o.dst v') w') : o.wp P a w K Q := by
  obtain ⟨v', w', hrun, r1, r2, r3⟩ := run_append_str_at (P := P) t u o.type e ht hu hi hown st h63 hbase
  unfold Oper.wp
  simp [execOp, ho, resolve, invoke, builtin, hs, hx, hrun, Result.andThen]
  exact h v' w' r1 r2 r3
end
end Go.Proofs.YtchmookggegmnaaGreatDoor
namespace Go.Proofs.YtchmookggegmnaaGreatDoor
open Go Go.RowKit
section
variable {P : Program} {w : World} {ops : Array Oper} {rest : List Oper} {o : Oper} {a : Act} {Q : Exit → Act → World → Prop}
theorem run_append_k (t ty e size bytes : Nat) (z : Value) (ht : P.underlying t = some (.slice e)) (hi : (P.info? e).map (fun i => (i.zero, i.size, i.bytes)) = some (some z, size, bytes)) (hz : z.cells.size = size) (hsz : 0 < size)
    {B n : Nat} {v : Value} {xs : List Value} (hown : w.ownsRow B e size v n xs) (ad : Addr) (m cap : Nat) (ys : List Value) (hl : ys.length = m * size) (hcells : ∀ j u, ys[j]? = some u → w.cell? (ad.add j) = some u) (h1 : ∀ u ∈ ys, u.oneCell' = true)
    (h63 : n + m ≤ maxLen) (hbytes : (n + m) * bytes ≤ 140737488355328) (hbase : B ≤ w.heap.size) :
    ∃ v' w', (Builtin.append_ #[t, t] ty #[v, .slice (some ad) m cap]).run P w = .ok v' w' ∧ w'.ownsRow B e size v' (n + m) (xs ++ ys) ∧ Kp (fun b => v.ownBlock = some b) w w' ∧ (∀ b, v'.ownBlock = some b → v.ownBlock = some b ∨ w.heap.size ≤ b) ∧ (v' = .slice none 0 0 ↔ v = .slice none 0 0 ∧ m = 0) := by
  obtain ⟨i, hi, hz0, hz1, hz2⟩ := info_parts hi
  obtain ⟨v', w', hrun, r1, r2, r3⟩ := run_append_own (P := P) w B t ty e i z size bytes ht hi hz0 hz1 hz2 hz hsz v n xs hown ad m cap ys hl hcells h1 h63 hbytes hbase
  refine ⟨v', w', hrun, r1, (Kp.refl (fun b => v.ownBlock = some b) w).grown r2 (fun k hk _ => hk), ?_, r3⟩
  rcases hown.2 with ⟨rfl, h0⟩ | ⟨g, c2, cur, rfl, hbg, hg, hnc, hcm, hcs, htake⟩
  · subst h0
    have hx0 : xs = [] := List.eq_nil_of_length_eq_zero (by rw [hown.1, Nat.zero_mul])
    subst hx0
    obtain ⟨v2, w2, hrun2, q3, _⟩ := run_append_own (P := P) w w.heap.size t ty e i z size bytes ht hi hz0 hz1 hz2 hz hsz _ _ [] (World.ownsRow_nil w w.heap.size e size) ad m cap ys hl hcells h1 h63 hbytes (Nat.le_refl _)
    rw [hrun] at hrun2
    simp only [Result.ok.injEq] at hrun2
    obtain ⟨rfl, rfl⟩ := hrun2
    exact fun b hb => .inr (World.ownsRow.lt q3 b hb).1
  · have hl2 : ys.length = m * i.size := by rw [hz1]; exact hl
    by_cases hroom : n + m ≤ c2
    · have hr := run_append_room (P := P) w t ty e i ht hi g n c2 cur hg ad m cap ys hl2 hcells h1 hroom (by rw [hz1, hl, hcs, ← Nat.add_mul]; exact Nat.mul_le_mul_right _ hroom)
      rw [hrun] at hr
      simp only [Result.ok.injEq] at hr
      rw [hr.1]
      exact fun b hb => .inl hb
    · have holds : ∀ j u, xs[j]? = some u → w.cell? ((⟨g, 0, none⟩ : Addr).add j) = some u := hown.cells (g := g) rfl
      have hr := run_append_grow (P := P) w t ty e i z ht hi hz0 ⟨g, 0, none⟩ n c2 xs (by rw [hz1]; exact hown.1) holds ad m cap ys hl2 hcells (by omega) (by unfold maxLen at h63; omega) (by rw [hz2]; exact growslice_fits (by omega) hbytes)
      rw [hrun] at hr
      simp only [Result.ok.injEq] at hr
      rw [hr.1]
      exact fun b hb => .inr (Nat.le_of_eq (Option.some.inj hb))
theorem wp_append_k (s x : Operand) (t : TypeId) (ho : o.op = .call { callee := .builtin .append, args := #[s, x], argTypes := #[t, t] })
    {e size bytes : Nat} {z : Value} (ht : P.underlying t = some (.slice e)) (hi : (P.info? e).map (fun i => (i.zero, i.size, i.bytes)) = some (some z, size, bytes)) (hz : z.cells.size = size) (hsz : 0 < size)
    {B n : Nat} {v : Value} {xs : List Value} (hs : a.eval s = v) (hown : w.ownsRow B e size v n xs) (ad : Addr) (m cap : Nat) (ys : List Value) (hx : a.eval x = .slice (some ad) m cap) (hl : ys.length = m * size) (hcells : ∀ j u, ys[j]? = some u → w.cell? (ad.add j) = some u) (h1 : ∀ u ∈ ys, u.oneCell' = true)
    (h63 : n + m ≤ maxLen) (hbytes : (n + m) * bytes ≤ 140737488355328) (hbase : B ≤ w.heap.size) {K : Act → World → Prop}
    (h : ∀ v' w', w'.ownsRow B e size v' (n + m) (xs ++ ys) → Kp (fun b => v.ownBlock = some b) w w' → (∀ b, v'.ownBlock = some b → v.ownBlock = some b ∨ w.heap.size ≤ b) → (v' = .slice none 0 0 ↔ v = .slice none 0 0 ∧ m = 0) → K (a.put o.dst v') w') : o.wp P a w K Q := by
  obtain ⟨v', w', hrun, r1, r2, r3, r4⟩ := run_append_k (P := P) t o.type e size bytes z ht hi hz hsz hown ad m cap ys hl hcells h1 h63 hbytes hbase
  unfold Oper.wp
  simp [execOp, ho, resolve, invoke, builtin, hs, hx, hrun, Result.andThen]
  exact h v' w' r1 r2 r3 r4
theorem wl_append_k (hgd : o.guard = none) (s x : Operand) (t : TypeId) (ho : o.op = .call { callee := .builtin .append, args := #[s, x], argTypes := #[t, t] })
    {e size bytes : Nat} {z : Value} (ht : P.underlying t = some (.slice e)) (hi : (P.info? e).map (fun i => (i.zero, i.size, i.bytes)) = some (some z, size, bytes)) (hz : z.cells.size = size) (hsz : 0 < size)
    {B n : Nat} {v : Value} {xs : List Value} (hs : a.eval s = v) (hown : w.ownsRow B e size v n xs) (ad : Addr) (m cap : Nat) (ys : List Value) (hx : a.eval x = .slice (some ad) m cap) (hl : ys.length = m * size) (hcells : ∀ j u, ys[j]? = some u → w.cell? (ad.add j) = some u) (h1 : ∀ u ∈ ys, u.oneCell' = true)
    (h63 : n + m ≤ maxLen) (hbytes : (n + m) * bytes ≤ 140737488355328) (hbase : B ≤ w.heap.size)
    (h : ∀ v' w', w'.ownsRow B e size v' (n + m) (xs ++ ys) → Kp (fun b => v.ownBlock = some b) w w' → (∀ b, v'.ownBlock = some b → v.ownBlock = some b ∨ w.heap.size ≤ b) → (v' = .slice none 0 0 ↔ v = .slice none 0 0 ∧ m = 0) → wpList P ops Q rest (a.put o.dst v') w') : wpList P ops Q (o :: rest) a w :=
  wpList_plain hgd fun _ hK => wp_append_k s x t ho ht hi hz hsz hs hown ad m cap ys hx hl hcells h1 h63 hbytes hbase (fun v' w' q1 q2 q3 q4 => hK _ _ (h v' w' q1 q2 q3 q4))
end
/-- A row of one's own: its shape. -/
theorem ownK_sl {B e size n : Nat} {w : World} {v : Value} {xs : List Value} (h : w.ownsRow B e size v n xs) : ∃ ao cap, v = .slice ao n cap ∧ n ≤ cap ∧ cap ≤ 9223372036854775807 := by
  rcases h.2 with ⟨hv, h0⟩ | ⟨g, cap, cur, hv, _, _, h1, h2, _⟩
  · exact ⟨none, 0, by rw [hv, h0], by omega, by omega⟩
  · exact ⟨_, _, hv, h1, h2⟩
theorem ownK_pos {B e size n : Nat} {w : World} {v : Value} {xs : List Value} (h : w.ownsRow B e size v n xs) (hn : 0 < n) :
    ∃ g cap cur, v = .slice (some ⟨g, 0, none⟩) n cap ∧ B ≤ g ∧ n ≤ cap ∧ cap ≤ 9223372036854775807 ∧ w.heap[g]? = some (.cells cur e (0, 0)) ∧ (∀ j u, xs[j]? = some u → w.cell? ⟨g, j, none⟩ = some u) := by
  rcases h.2 with ⟨hv, h0⟩ | ⟨g, cap, cur, hv, hb, hg, h1, h2, _⟩
  · omega
  · refine ⟨g, cap, cur, hv, hb, h1, h2, hg, fun j u hu => ?_⟩
    have := h.cells (g := g) (by rw [hv]; rfl) j u hu
    rwa [Addr.add_lit, Nat.zero_add] at this
/-- Fewer of them. -/
theorem ownK_take {B e size n : Nat} {w : World} {ao : Option Addr} {m cap : Nat} {xs : List Value} (h : w.ownsRow B e size (.slice ao m cap) n xs) (k : Nat) (hk : k ≤ n) : w.ownsRow B e size (.slice ao k cap) k (xs.take (k * size)) := by
  have hl : (xs.take (k * size)).length = k * size := by rw [List.length_take, h.1, Nat.min_eq_left (Nat.mul_le_mul_right _ hk)]
  refine ⟨hl, ?_⟩
  rcases h.2 with ⟨hv, h0⟩ | ⟨g, cap', cur, hv, hb, hg, h1, h2, h3, h4⟩
  · simp only [Value.slice.injEq] at hv
    obtain ⟨rfl, rfl, rfl⟩ := hv
    exact .inl ⟨by rw [show k = 0 by omega], by omega⟩
  · simp only [Value.slice.injEq] at hv
    obtain ⟨rfl, rfl, rfl⟩ := hv
    refine .inr ⟨g, cap, cur, rfl, hb, hg, by omega, h2, h3, ?_⟩
    rw [← h4, List.take_take, Nat.min_eq_left (Nat.mul_le_mul_right _ hk)]
end Go.Proofs.YtchmookggegmnaaGreatDoor
namespace Go.Proofs.YtchmookggegmnaaGreatDoor
open Go Go.RowKit
section
variable {P : Program} {w : World} {ops : Array Oper} {rest : List Oper} {o : Oper} {a : Act} {Q : Exit → Act → World → Prop}
theorem run_append_str_b (t u ty e : TypeId) (ht : P.underlying t = some (.slice e)) (hu : P.underlying u = some .string) (hi : (P.info? e).map (fun i => (i.zero, i.size, i.bytes)) = some (some (.int .u8 0), 1, 1))
    {B : Nat} {v : Value} {xs : List Value} (hown : Own B e w v xs) (s : ByteArray) (h63 : xs.length + s.size ≤ 140737488355328) (hbase : B ≤ w.heap.size) :
    ∃ v' w', (Builtin.append_ #[t, u] ty #[v, .string s]).run P w = .ok v' w' ∧ Own B e w' v' (xs ++ bys s.toList) ∧ Kp (fun b => v.ownBlock = some b) w w' ∧ (∀ b, v'.ownBlock = some b → v.ownBlock = some b ∨ w.heap.size ≤ b) ∧ (v' = .slice none 0 0 ↔ v = .slice none 0 0 ∧ s.size = 0) := by
  obtain ⟨v', w', h1, h2, h3, h4⟩ := run_append_str_at t u ty e ht hu hi hown s h63 hbase
  obtain ⟨i, hi, hz0, hz1, hz2⟩ := info_parts hi
  obtain ⟨v2, w2, hrun, _, _, h5⟩ := Lib.run_append_own_string (P := P) w B t u ty e i ht hu hi hz0 hz1 hz2 v _ xs hown s (by unfold maxLen; omega) h63 hbase
  rw [h1] at hrun
  simp only [Result.ok.injEq] at hrun
  obtain ⟨rfl, rfl⟩ := hrun
  exact ⟨v', w', h1, h2, h3, h4, h5⟩
theorem wl_append_str_b (hgd : o.guard = none) (s x : Operand) (t u : TypeId) (ho : o.op = .call { callee := .builtin .append, args := #[s, x], argTypes := #[t, u] })
    {B e : Nat} (ht : P.underlying t = some (.slice e)) (hu : P.underlying u = some .string) (hi : (P.info? e).map (fun i => (i.zero, i.size, i.bytes)) = some (some (.int .u8 0), 1, 1))
    {v : Value} {xs : List Value} (st : ByteArray) (hs : a.eval s = v) (hx : a.eval x = .string st) (hown : Own B e w v xs) (h63 : xs.length + st.size ≤ 140737488355328) (hbase : B ≤ w.heap.size)
    (h : ∀ v' w', Own B e w' v' (xs ++ bys st.toList) → Kp (fun b => v.ownBlock = some b) w w' → (∀ b, v'.ownBlock = some b → v.ownBlock = some b ∨ w.heap.size ≤ b) → (v' = .slice none 0 0 ↔ v = .slice none 0 0 ∧ st.size = 0) → wpList P ops Q rest (a.put o.dst v') w') : wpList P ops Q (o :: rest) a w := by
  refine wpList_plain hgd fun K hK => ?_
  obtain ⟨v', w', hrun, r1, r2, r3, r4⟩ := run_append_str_b (P := P) t u o.type e ht hu hi hown st h63 hbase
  unfold Oper.wp
  simp [execOp, ho, resolve, invoke, builtin, hs, hx, hrun, Result.andThen]
  exact hK _ _ (h v' w' r1 r2 r3 r4)
end
theorem Own.sl {B : Nat} {e : TypeId} {w : World} {v : Value} {xs : List Value} (h : Own B e w v xs) : ∃ ao n cap, v = .slice ao n cap := by
  rcases h.2 with ⟨hv, h0⟩ | ⟨g, cap, cur, hv, _⟩
  · exact ⟨none, 0, 0, hv⟩
  · exact ⟨_, _, _, hv⟩
/-- What a builder is behind a write. -/
def BbPost (T : TypeId) (B b : Nat) (v : Value) (rest : List Value) (l : List UInt8) (w w' : World) : Prop :=
  ∃ p' v', Bb T B w' b p' v' rest l ∧ Kp (fun g => g = b ∨ v.ownBlock = some g) w w' ∧ ∀ g, v'.ownBlock = some g → v.ownBlock = some g ∨ w.heap.size ≤ g
set_option maxRecDepth 20000 in
set_option maxHeartbeats 1000000 in
theorem writeS_any (T : TypeId) (B b : Nat) (p v : Value) (rest : List Value) (l : List UInt8) (s : ByteArray) (w : World) (hT : HasB T (rest.length + 2)) (h : Bb T B w b p v rest l) (hl : l.length + s.size ≤ 140737488355328) :
    Calls Tryz.prog 21 #[.pointer (some ⟨b, 0, none⟩), .string s] w fun e w' => e = .returned (.tuple #[.int .i64 s.size, .nilIface]) ∧ BbPost T B b v rest (l ++ s.toList) w w' := by
  have H := Lib.hid h
  have HT := Lib.hid hT
  have HL := Lib.hid hl
  clear h hT hl
  go_enter Tryz.func21, Tryz.ntmps21
  go_wp2_with fail
  refine (check_any T B b p v rest l _ HT.out H.out).mono ?_
  rintro e w1 ⟨rfl, h1, hk1⟩
  have H1 := Lib.hid h1
  have HK1 := Lib.hid hk1
  have c1 := h1.c1
  obtain ⟨ao, n, cap, rfl⟩ := h1.ow.sl
  clear h1 hk1
  go_wp2_with (refine wl_append_str_b (o := ⟨some 14, _, _, _, _, _⟩) rfl _ _ 38 9 rfl Tryz.underlying38 Tryz.underlying9 (infoB1 w) s rfl rfl H1.out.ow (by rw [bys_len]; exact HL.out) (by have := H1.out.lt; have := H1.out.ge; omega) ?_; intro v2 w2 ho hk hb hn; have HO := Lib.hid ho; have HK2 := Lib.hid hk; have HB2 := Lib.hid hb; have HN2 := Lib.hid hn; obtain ⟨ao2, n2, cap2, rfl⟩ := ho.sl; have hf1 : w2.frozen? ⟨b, 1, none⟩ = false := blk_frozen (H1.out.blk.keep hk (fun e => H1.out.ne b e rfl)) 1; have hq1 : w2.cell? ⟨b, 1, none⟩ = _ := (H1.out.blk.keep hk (fun e => H1.out.ne b e rfl)).cellV 1 rfl; clear ho hk hb hn)
  go_ret2
  have ho2 : Own B 5 w2 (.slice ao2 n2 cap2) (bys (l ++ s.toList)) := by rw [bys_app]; exact HO.out
  obtain ⟨q1, q2⟩ := H1.out.put HK2.out ho2 HB2.out (fun e => HN2.out.2 (by
    have h1 : l = [] := (List.append_eq_nil_iff.1 e).1
    have h2 : s.toList = [] := (List.append_eq_nil_iff.1 e).2
    exact ⟨H1.out.nl h1, by rw [← size_toList, h2]; rfl⟩))
  refine ⟨rfl, _, _, q1, ?_, fun g hg => ?_⟩
  · exact HK1.out.trans q2 (fun _ _ h => .inl h) (fun _ _ h => h)
  · rcases HB2.out g hg with h | h
    · exact .inl h
    · exact .inr (Nat.le_trans HK1.out.size h)
theorem own_len1 {B : Nat} {e : TypeId} {w : World} {v : Value} {n : Nat} {xs : List Value} (h : w.ownsRow B e 1 v n xs) : Own B e w v xs := by
  have : n = xs.length := by rw [h.1, Nat.mul_one]
  subst this
  exact h
set_option maxRecDepth 20000 in
set_option maxHeartbeats 1000000 in
theorem writeB_any (T : TypeId) (B b : Nat) (p v : Value) (rest : List Value) (l : List UInt8) (c : UInt8) (w : World) (hT : HasB T (rest.length + 2)) (h : Bb T B w b p v rest l) (hl : l.length + 1 ≤ 140737488355328) :
    Calls Tryz.prog 32 #[.pointer (some ⟨b, 0, none⟩), .int .u8 c.toNat] w fun e w' => e = .returned .nilIface ∧ BbPost T B b v rest (l ++ [c]) w w' := by
  have H := Lib.hid h
  have HT := Lib.hid hT
  have HL := Lib.hid hl
  clear h hT hl
  go_enter Tryz.func32, Tryz.ntmps32
  go_wp2_with fail
  refine (check_any T B b p v rest l _ HT.out H.out).mono ?_
  rintro e w1 ⟨rfl, h1, hk1⟩
  have H1 := Lib.hid h1
  have HK1 := Lib.hid hk1
  have c1 := h1.c1
  obtain ⟨ao, n, cap, rfl⟩ := h1.ow.sl
  clear h1 hk1
  obtain ⟨W2, hW2⟩ : ∃ W2, W2 = w1.alloc (.cells #[.int .u8 c.toNat] 5) := ⟨_, rfl⟩
  have H2 : Hid (Bb T B W2 b _ _ rest l) := Lib.hid (by rw [hW2]; exact H1.out.kp0 ((Kp.refl _ _).alloc _))
  have HC : Hid (∀ j u, ([Value.int .u8 c.toNat] : List Value)[j]? = some u → W2.cell? ((⟨w1.heap.size, 0, none⟩ : Addr).add j) = some u) := Lib.hid (fun j u hj => by
    rw [hW2]
    match j, hj with
    | 0, hj => simp at hj; subst hj; simp [Addr.add])
  have HK2 : Hid (Kp0 w1 W2) := Lib.hid (by rw [hW2]; exact (Kp.refl _ _).alloc _)
  have HW2 := Lib.hid hW2.symm
  clear hW2
  go_wp2_with (at_builtin; rw [HW2.out]; refine wl_append_k (o := ⟨some 14, _, _, _, _, _⟩) rfl _ _ 38 rfl Tryz.underlying38 (infoB1 w) rfl (by decide) rfl H2.out.ow ⟨w1.heap.size, 0, none⟩ 1 1 [.int .u8 c.toNat] rfl rfl HC.out (by intro u hu; simp at hu; subst hu; rfl) (by rw [bys_len]; have := HL.out; unfold maxLen; omega) (by rw [bys_len]; have := HL.out; omega) (by have := H2.out.lt; have := H2.out.ge; omega) ?_; intro v2 w2 ho hk hb hn; have HO := Lib.hid (own_len1 ho); have HKw := Lib.hid hk; have HB2 := Lib.hid hb; have HN2 := Lib.hid hn; obtain ⟨ao2, n2, cap2, rfl⟩ := (own_len1 ho).sl; have hf1 : w2.frozen? ⟨b, 1, none⟩ = false := blk_frozen (H2.out.blk.keep hk (fun e => H2.out.ne b e rfl)) 1; have hq1 : w2.cell? ⟨b, 1, none⟩ = _ := (H2.out.blk.keep hk (fun e => H2.out.ne b e rfl)).cellV 1 rfl; clear ho hk hb hn)
  go_ret
  have ho2 : Own B 5 w2 (.slice ao2 n2 cap2) (bys (l ++ [c])) := by rw [bys_app]; exact HO.out
  obtain ⟨q1, q2⟩ := H2.out.put HKw.out ho2 HB2.out (fun e => by simp at e)
  refine ⟨rfl, _, _, q1, ?_, fun g hg => ?_⟩
  · exact (HK1.out.tr (HK2.out.nil _)).trans q2 (fun _ _ h => .inl h) (fun _ _ h => h)
  · rcases HB2.out g hg with h | h
    · exact .inl h
    · exact .inr (Nat.le_trans (Nat.le_trans HK1.out.size HK2.out.size) h)
end Go.Proofs.YtchmookggegmnaaGreatDoor
namespace Go.Proofs.YtchmookggegmnaaGreatDoor
open Go Go.RowKit
theorem kp_freeze (w : World) (g n : Nat) : Kp (fun i => i = g) w (w.freeze ⟨g, 0, none⟩ n) := by
  unfold World.freeze
  split
  · exact Kp.refl _ _
  · refine ⟨rfl, rfl, rfl, by simp, fun k hk hn => ?_⟩
    simp only [Array.getElem?_modify]
    rw [if_neg (fun e => hn e.symm)]
theorem bys_bytes (l : List UInt8) : Lib.byteCells l = bys l := rfl
set_option maxRecDepth 100000 in
set_option maxHeartbeats 1000000 in
theorem string_any (T : TypeId) (B b : Nat) (p v : Value) (rest : List Value) (l : List UInt8) (w : World) (h : Bb T B w b p v rest l) :
    Calls Tryz.prog 15 #[.pointer (some ⟨b, 0, none⟩)] w fun e w' => e = .returned (.string (S l)) ∧ Kp (fun g => v.ownBlock = some g) w w' := by
  by_cases hl : l = []
  · subst hl
    have hv := h.nl rfl
    subst hv
    have c1 : w.drew.cell? ⟨b, 1, none⟩ = some (.slice none 0 0) := h.c1
    have hSD : (Builtin.unsafeSliceData_ #[38] 64 #[.slice none 0 0]).run Tryz.prog w.drew = .ok (.pointer none) w.drew := rfl
    have hUS := Lib.run_unsafeString_none (P := Tryz.prog) w.drew 64 3 9 none
    clear h
    go_enter Tryz.func15, Tryz.ntmps15
    go_wp2
    go_region
    all_goals go_wp2
    all_goals go_ret
    all_goals exact ⟨rfl, (Kp.refl _ _).drew⟩
  · have hl0 : l.length ≠ 0 := by simpa using hl
    obtain ⟨g, cap, cur, rfl, hbg, hg, hnc, hcm, hcs, htake⟩ : ∃ g cap cur, v = .slice (some ⟨g, 0, none⟩) l.length cap ∧ B ≤ g ∧ w.heap[g]? = some (.cells cur 5 (0, 0)) ∧ l.length ≤ cap ∧ cap ≤ maxLen ∧ cur.size = cap * 1 ∧ cur.toList.take ((bys l).length * 1) = bys l := by
      rcases h.ow.2 with ⟨_, hz⟩ | ⟨g, cap, cur, hv, r1, r2, r3, r4, r5, r6⟩
      · rw [bys_len] at hz; exact absurd hz hl0
      · rw [bys_len] at hv r3
        exact ⟨g, cap, cur, hv, r1, r2, r3, r4, r5, r6⟩
    have c1 : w.drew.cell? ⟨b, 1, none⟩ = some (.slice (some ⟨g, 0, none⟩) l.length cap) := h.c1
    have hSD : (Builtin.unsafeSliceData_ #[38] 64 #[.slice (some ⟨g, 0, none⟩) l.length cap]).run Tryz.prog w.drew = .ok (.pointer (some ⟨g, 0, none⟩)) w.drew :=
      Lib.run_unsafeSliceData_row _ _ _ _ _ _ (by omega)
    have hUS : (Builtin.unsafeString_ #[64, 3] 9 #[.pointer (some ⟨g, 0, none⟩), .int .i64 l.length]).run Tryz.prog w.drew = .ok (.string (S l)) (w.drew.freeze ⟨g, 0, none⟩ l.length) := by
      refine Lib.run_unsafeString_row w.drew 64 3 9 5 Tryz.underlying64 (by kernel_rfl) g cur.size (by have hg' : w.drew.heap[g]? = some (.cells cur 5 (0, 0)) := hg; simp [World.shape?, hg']) l hl (by omega) (by unfold maxLen at hcm; omega) ?_
      intro j x hx
      exact h.ow.cells (g := g) rfl j (.int .u8 x.toNat) (by simp [bys, hx])
    have HK : Hid (Kp (fun i => (Value.slice (some ⟨g, 0, none⟩) l.length cap).ownBlock = some i) w (w.drew.freeze ⟨g, 0, none⟩ l.length)) := Lib.hid (((Kp.refl _ w).drew.tr (kp_freeze w.drew g l.length)).mono (fun i _ hi => by subst hi; rfl))
    clear h hl hl0 hbg hg hnc hcm hcs htake
    go_enter Tryz.func15, Tryz.ntmps15
    go_wp2
    go_region
    all_goals go_wp2
    all_goals go_ret
    all_goals exact ⟨rfl, HK.out⟩
end Go.Proofs.YtchmookggegmnaaGreatDoor
namespace Go.Proofs.YtchmookggegmnaaGreatDoor
open Go Go.RowKit
theorem index_none {l : List UInt8} {c : UInt8} (h : l.contains c = false) : Lib.index l [c] = -1 := by
  induction l with
  | nil => rfl
  | cons a l ih =>
    simp only [List.contains_cons, Bool.or_eq_false_iff] at h
    have h1 : ([c] : List UInt8).isPrefixOf (a :: l) = false := by simp [List.isPrefixOf, h.1]
    unfold Lib.index
    rw [h1, ih h.2]
    rfl
theorem cut_none {l : List UInt8} {c : UInt8} (h : l.contains c = false) : Lib.cut l [c] = (l, [], false) := by
  unfold Lib.cut
  rw [index_none h]
  rfl
theorem cut_any (l : List UInt8) (x : ByteArray) (xl : List UInt8) (w : World) (hx : x.toList = xl) (hl : l.length ≤ 16384) (hm : ∃ m, w.cell? ⟨2, 0, none⟩ = some (.int .i64 m)) :
    Calls Tryz.prog 50 #[.string (S l), .string x] w fun e w' => e = .returned (.tuple #[.string (S (Lib.cut l xl).1), .string (S (Lib.cut l xl).2.1), .bool (Lib.cut l xl).2.2]) ∧ Kp0 w w' := by
  obtain ⟨m, hm⟩ := hm
  refine (Tryz.strings_Cut _ _ m _ (by rw [S_size]; omega) hm).mono ?_
  rw [S_data, toList_data, hx]
  rintro e w' ⟨rfl, n, rfl⟩
  exact ⟨rfl, (Kp.refl _ _).drewN n⟩
theorem hasB0 : HasB 40 (([] : List Value).length + 2) := by unfold HasB; kernel_rfl
theorem bb_new (w : World) : Bb 40 w.heap.size (w.alloc (.cells #[.pointer none, .slice none 0 0] 40)) w.heap.size (.pointer none) (.slice none 0 0) [] [] :=
  ⟨blk0 w _ [_, _], Own.nil _ _ _, .inl rfl, Nat.le_refl _, (fun g hg => by cases hg), fun _ => rfl⟩
set_option maxRecDepth 20000 in
set_option maxHeartbeats 1000000 in
theorem entities_any (l t : List UInt8) (w : World) (h : entX l = .ok t) (hl : l.length ≤ 16384) (hm : ∃ m, w.cell? ⟨2, 0, none⟩ = some (.int .i64 m)) :
    Calls Tryz.prog 88 #[.string (S l)] w fun e w' => e = .returned (.tuple #[.string (S t), .bool true]) ∧ Kp0 w w' := by
  have hc : l.contains 38 = false := by
    unfold entX at h
    cases hc : l.contains 38 with
    | false => rfl
    | true => rw [hc] at h; cases h
  have ht : t = l := by
    unfold entX at h
    rw [hc] at h
    cases h
    rfl
  subst ht
  have HC := Lib.hid (cut_none hc)
  have HL := Lib.hid hl
  have HM := Lib.hid hm
  have HS := Lib.hid (size_toList (S t))
  clear h hc hl hm
  have HB0 := Lib.hid (bb_new w)
  have HK0 : Hid (Kp0 w (w.alloc (.cells #[.pointer none, .slice none 0 0] 40))) := Lib.hid ((Kp.refl _ _).alloc _)
  go_enter Tryz.func88, Tryz.ntmps88
  go_wp2
  refine wp_loop_rounds 1 ?_
  rw [rounds_succ]
  go_wp2_with (first
    | (go_at_call 50; refine (cut_any t _ [38] _ (lit1 [38]) HL.out (by obtain ⟨m, hm⟩ := HM.out; exact ⟨m, HK0.out.cell hm (fun h => h)⟩)).mono ?_; rw [HC.out]; rintro e w1 ⟨rfl, hk⟩; have HK1 := Lib.hid hk; clear hk)
    | (go_at_call 21; refine (writeS_any _ _ _ _ _ _ _ _ _ hasB0 (HB0.out.kp0 HK1.out) (by rw [S_size]; have := HL.out; simp; omega)).mono ?_; rintro e w2 ⟨rfl, p', v', hb, hk, hv⟩; rw [S_toList, List.nil_append] at hb; have HB2 := Lib.hid hb; have HK2 := Lib.hid hk; have HV2 := Lib.hid hv; clear hb hk hv)
    | (go_at_call 15; refine (string_any _ _ _ _ _ _ _ _ HB2.out).mono ?_; rintro e w3 ⟨rfl, hk⟩; have HK3 := Lib.hid hk; clear hk))
  go_ret2
  refine ⟨rfl, ((HK0.out.tr HK1.out).trans HK2.out (fun _ _ h => h) (fun i hi h => ?_)).trans HK3.out (fun _ _ h => h) (fun i hi h => ?_)⟩
  · rcases h with h | h
    · omega
    · cases h
  · rcases HV2.out i h with h1 | h1
    · cases h1
    · have h2 := (HK0.out.tr HK1.out).size
      have h3 : w.heap.size ≤ i := Nat.le_trans h2 h1
      omega
end Go.Proofs.YtchmookggegmnaaGreatDoor
namespace Go.Proofs.YtchmookggegmnaaGreatDoor
open Go Go.RowKit
theorem contains_any (l : List UInt8) (x : ByteArray) (xl : List UInt8) (w : World) (hx : x.toList = xl) (hl : l.length ≤ 16384) (hm : ∃ m, w.cell? ⟨2, 0, none⟩ = some (.int .i64 m)) :
    Calls Tryz.prog 87 #[.string (S l), .string x] w fun e w' => e = .returned (.bool (Lib.contains l xl)) ∧ w = w' := by
  obtain ⟨m, hm⟩ := hm
  refine (Tryz.strings_Contains _ _ m _ (by rw [S_size]; omega) hm).mono ?_
  rw [S_data, toList_data, hx]
  rintro e w' ⟨rfl, rfl⟩
  exact ⟨rfl, rfl⟩
theorem cut_le (l x : List UInt8) : (Lib.cut l x).1.length ≤ l.length ∧ (Lib.cut l x).2.1.length ≤ l.length := by
  unfold Lib.cut
  split
  · simp only [List.length_take, List.length_drop]
    exact ⟨Nat.min_le_right _ _, Nat.sub_le _ _⟩
  · simp
def VaPost (B : Nat) (Z : Nat → Prop) (b : Nat) (said : Say) (vs : Value) (w : World) (e : Ending) (w' : World) : R (List UInt8 × List UInt8) → Prop
  | .no => False
  | .bad _ => (∃ t, e = .returned (.tuple #[.string t, .bool false])) ∧ Kp (fun g => g = b) w w'
  | .ok (v, l) => e = .returned (.tuple #[.string (S v), .bool true]) ∧ XrV B Z w' b vs l said ∧ Kp (fun g => g = b) w w'
set_option maxRecDepth 20000 in
set_option maxHeartbeats 2000000 in
theorem value_any (B : Nat) (Z : Nat → Prop) (b : Nat) (l : List UInt8) (said : Say) (vs : Value) (w : World) (h : XrV B Z w b vs l said) (hl : l.length ≤ 16384) (hn : valueX l ≠ .no) :
    Calls Tryz.prog 70 #[.pointer (some ⟨b, 0, none⟩)] w fun e w' => VaPost B Z b said vs w e w' (valueX l) := by
  have H := Lib.hid h
  have HL := Lib.hid hl
  clear h hl
  obtain ⟨f1, hf1⟩ : ∃ f, f = Lib.hasPrefix l [34] := ⟨_, rfl⟩
  have HF1 : Hid (Lib.hasPrefix l [34] = f1) := Lib.hid hf1.symm
  cases f1 with
  | true =>
    have hq : quoteX l = some [34] := by unfold quoteX; rw [← hf1]; rfl
    have HT : Hid (Lib.trimPrefix l [34] = l.drop 1) := Lib.hid (trimP_yes hf1.symm)
    obtain ⟨q, hqq⟩ : ∃ q : List UInt8, q = [34] := ⟨_, rfl⟩
    have HX : Hid (({ data := #[34] } : ByteArray).toList = q) := Lib.hid (by rw [hqq]; exact lit1 [34])
    rw [← hqq] at hq
    clear hf1 hqq
    obtain ⟨⟨t, r, fd⟩, hc⟩ : ∃ c, c = Lib.cut (l.drop 1) q := ⟨_, rfl⟩
    have HC : Hid (Lib.cut (l.drop 1) q = (t, r, fd)) := Lib.hid hc.symm
    have HLT : Hid (t.length ≤ 16384) := Lib.hid (by have h1 := (cut_le (l.drop 1) q).1; rw [← hc] at h1; have := HL.out; rw [List.length_drop] at h1; simp only [] at h1; omega)
    cases fd with
    | false =>
      have HR : Hid (valueX l = .bad 3) := Lib.hid (by unfold valueX; rw [hq]; simp only []; rw [← hc])
      clear hc
      rw [HR.out]
      go_enter Tryz.func70, Tryz.ntmps70
      go_wp2_with fail
      refine (take_any B Z b _ said vs _ [34] _ (lit1 [34]) H.out).mono ?_
      rw [HF1.out]
      rintro e w1 ⟨rfl, h1, hk⟩
      have H1 := Lib.hid h1
      have HK1 := Lib.hid hk
      clear h1 hk
      go_wp2_with fail
      rw [HT.out] at H1
      refine (until_any B Z b (l.drop 1) said vs _ q _ HX.out H1.out (by have := HL.out; rw [List.length_drop]; omega)).mono ?_
      rw [HC.out]
      rintro e w2 ⟨rfl, h2, hk⟩
      have H2 := Lib.hid h2
      have HK2 := Lib.hid (HK1.out.tr hk)
      clear h2 hk
      go_wp2
      all_goals go_ret2
      all_goals exact ⟨⟨_, rfl⟩, HK2.out⟩
    | true =>
      obtain ⟨ct, hct⟩ : ∃ ct, ct = Lib.contains t [60] := ⟨_, rfl⟩
      have HCT : Hid (Lib.contains t [60] = ct) := Lib.hid hct.symm
      cases ct with
      | true =>
        have HR : Hid (valueX l = .bad 3) := Lib.hid (by unfold valueX; rw [hq]; simp only []; rw [← hc]; simp only []; rw [← hct]; rfl)
        clear hc hct
        rw [HR.out]
        go_enter Tryz.func70, Tryz.ntmps70
        go_wp2_with fail
        refine (take_any B Z b _ said vs _ [34] _ (lit1 [34]) H.out).mono ?_
        rw [HF1.out]
        rintro e w1 ⟨rfl, h1, hk⟩
        have H1 := Lib.hid h1
        have HK1 := Lib.hid hk
        clear h1 hk
        go_wp2_with fail
        rw [HT.out] at H1
        refine (until_any B Z b (l.drop 1) said vs _ q _ HX.out H1.out (by have := HL.out; rw [List.length_drop]; omega)).mono ?_
        rw [HC.out]
        rintro e w2 ⟨rfl, h2, hk⟩
        have H2 := Lib.hid h2
        have HK2 := Lib.hid (HK1.out.tr hk)
        clear h2 hk
        go_wp2_with (go_at_call 87; refine (contains_any t _ [60] _ (lit1 [60]) HLT.out H2.out.ml).mono ?_; rw [HCT.out]; rintro e w3 ⟨rfl, rfl⟩)
        all_goals go_ret2
        all_goals exact ⟨⟨_, rfl⟩, HK2.out⟩
      | false =>
        have hR : valueX l = (entX t).bind fun v => .ok (v, r) := by unfold valueX; rw [hq]; simp only []; rw [← hc]; simp only []; rw [← hct]; rfl
        rw [hR] at hn ⊢
        cases hE : entX t with
        | no => rw [hE] at hn; exact absurd rfl hn
        | bad e => unfold entX at hE; split at hE <;> cases hE
        | ok v =>
          have HE := Lib.hid hE
          clear hc hct hR hE hn
          go_enter Tryz.func70, Tryz.ntmps70
          go_wp2_with fail
          refine (take_any B Z b _ said vs _ [34] _ (lit1 [34]) H.out).mono ?_
          rw [HF1.out]
          rintro e w1 ⟨rfl, h1, hk⟩
          have H1 := Lib.hid h1
          have HK1 := Lib.hid hk
          clear h1 hk
          go_wp2_with fail
          rw [HT.out] at H1
          refine (until_any B Z b (l.drop 1) said vs _ q _ HX.out H1.out (by have := HL.out; rw [List.length_drop]; omega)).mono ?_
          rw [HC.out]
          rintro e w2 ⟨rfl, h2, hk⟩
          have H2 := Lib.hid h2
          have HK2 := Lib.hid (HK1.out.tr hk)
          clear h2 hk
          go_wp2_with (first
            | (go_at_call 87; refine (contains_any t _ [60] _ (lit1 [60]) HLT.out H2.out.ml).mono ?_; rw [HCT.out]; rintro e w3 ⟨rfl, rfl⟩)
            | (go_at_call 88; refine (entities_any t v _ HE.out HLT.out H2.out.ml).mono ?_; rintro e w3 ⟨rfl, hk⟩; have HK3 := Lib.hid hk; clear hk))
          all_goals go_ret2
          all_goals exact ⟨rfl, H2.out.kp0 HK3.out, HK2.out.tr (HK3.out.nil _)⟩
  | false =>
    have HT0 : Hid (Lib.trimPrefix l [34] = l) := Lib.hid (trimP_no hf1.symm)
    obtain ⟨f2, hf2⟩ : ∃ f, f = Lib.hasPrefix l [39] := ⟨_, rfl⟩
    have HF2 : Hid (Lib.hasPrefix l [39] = f2) := Lib.hid hf2.symm
    cases f2 with
    | false =>
      have HR : Hid (valueX l = .bad 3) := Lib.hid (by unfold valueX quoteX; rw [← hf1, ← hf2]; rfl)
      clear hf1 hf2
      rw [HR.out]
      go_enter Tryz.func70, Tryz.ntmps70
      go_wp2_with fail
      refine (take_any B Z b _ said vs _ [34] _ (lit1 [34]) H.out).mono ?_
      rw [HF1.out]
      rintro e w1 ⟨rfl, h1, hk⟩
      have H1 := Lib.hid h1
      have HK1 := Lib.hid hk
      clear h1 hk
      go_wp2_with fail
      rw [HT0.out] at H1
      refine (take_any B Z b _ said vs _ [39] _ (lit1 [39]) H1.out).mono ?_
      rw [HF2.out]
      rintro e w1 ⟨rfl, h1, hk⟩
      have H1 := Lib.hid h1
      have HK1 := Lib.hid (HK1.out.tr hk)
      clear h1 hk
      go_wp2_with fail
      all_goals go_ret2
      all_goals exact ⟨⟨_, rfl⟩, HK1.out⟩
    | true =>
      have hq : quoteX l = some [39] := by unfold quoteX; rw [← hf1, ← hf2]; rfl
      have HT : Hid (Lib.trimPrefix l [39] = l.drop 1) := Lib.hid (trimP_yes hf2.symm)
      obtain ⟨q, hqq⟩ : ∃ q : List UInt8, q = [39] := ⟨_, rfl⟩
      have HX : Hid (({ data := #[39] } : ByteArray).toList = q) := Lib.hid (by rw [hqq]; exact lit1 [39])
      rw [← hqq] at hq
      clear hf1 hf2 hqq
      obtain ⟨⟨t, r, fd⟩, hc⟩ : ∃ c, c = Lib.cut (l.drop 1) q := ⟨_, rfl⟩
      have HC : Hid (Lib.cut (l.drop 1) q = (t, r, fd)) := Lib.hid hc.symm
      have HLT : Hid (t.length ≤ 16384) := Lib.hid (by have h1 := (cut_le (l.drop 1) q).1; rw [← hc] at h1; have := HL.out; rw [List.length_drop] at h1; simp only [] at h1; omega)
      cases fd with
      | false =>
        have HR : Hid (valueX l = .bad 3) := Lib.hid (by unfold valueX; rw [hq]; simp only []; rw [← hc])
        clear hc
        rw [HR.out]
        go_enter Tryz.func70, Tryz.ntmps70
        go_wp2_with fail
        refine (take_any B Z b _ said vs _ [34] _ (lit1 [34]) H.out).mono ?_
        rw [HF1.out]
        rintro e w1 ⟨rfl, h1, hk⟩
        have H1 := Lib.hid h1
        have HK1 := Lib.hid hk
        clear h1 hk
        go_wp2_with fail
        rw [HT0.out] at H1
        refine (take_any B Z b _ said vs _ [39] _ (lit1 [39]) H1.out).mono ?_
        rw [HF2.out]
        rintro e w1 ⟨rfl, h1, hk⟩
        have H1 := Lib.hid h1
        have HK1 := Lib.hid (HK1.out.tr hk)
        clear h1 hk
        go_wp2_with fail
        rw [HT.out] at H1
        refine (until_any B Z b (l.drop 1) said vs _ q _ HX.out H1.out (by have := HL.out; rw [List.length_drop]; omega)).mono ?_
        rw [HC.out]
        rintro e w2 ⟨rfl, h2, hk⟩
        have H2 := Lib.hid h2
        have HK2 := Lib.hid (HK1.out.tr hk)
        clear h2 hk
        go_wp2
        all_goals go_ret2
        all_goals exact ⟨⟨_, rfl⟩, HK2.out⟩
      | true =>
        obtain ⟨ct, hct⟩ : ∃ ct, ct = Lib.contains t [60] := ⟨_, rfl⟩
        have HCT : Hid (Lib.contains t [60] = ct) := Lib.hid hct.symm
        cases ct with
        | true =>
          have HR : Hid (valueX l = .bad 3) := Lib.hid (by unfold valueX; rw [hq]; simp only []; rw [← hc]; simp only []; rw [← hct]; rfl)
          clear hc hct
          rw [HR.out]
          go_enter Tryz.func70, Tryz.ntmps70
          go_wp2_with fail
          refine (take_any B Z b _ said vs _ [34] _ (lit1 [34]) H.out).mono ?_
          rw [HF1.out]
          rintro e w1 ⟨rfl, h1, hk⟩
          have H1 := Lib.hid h1
          have HK1 := Lib.hid hk
          clear h1 hk
          go_wp2_with fail
          rw [HT0.out] at H1
          refine (take_any B Z b _ said vs _ [39] _ (lit1 [39]) H1.out).mono ?_
          rw [HF2.out]
          rintro e w1 ⟨rfl, h1, hk⟩
          have H1 := Lib.hid h1
          have HK1 := Lib.hid (HK1.out.tr hk)
          clear h1 hk
          go_wp2_with fail
          rw [HT.out] at H1
          refine (until_any B Z b (l.drop 1) said vs _ q _ HX.out H1.out (by have := HL.out; rw [List.length_drop]; omega)).mono ?_
          rw [HC.out]
          rintro e w2 ⟨rfl, h2, hk⟩
          have H2 := Lib.hid h2
          have HK2 := Lib.hid (HK1.out.tr hk)
          clear h2 hk
          go_wp2_with (go_at_call 87; refine (contains_any t _ [60] _ (lit1 [60]) HLT.out H2.out.ml).mono ?_; rw [HCT.out]; rintro e w3 ⟨rfl, rfl⟩)
          all_goals go_ret2
          all_goals exact ⟨⟨_, rfl⟩, HK2.out⟩
        | false =>
          have hR : valueX l = (entX t).bind fun v => .ok (v, r) := by unfold valueX; rw [hq]; simp only []; rw [← hc]; simp only []; rw [← hct]; rfl
          rw [hR] at hn ⊢
          cases hE : entX t with
          | no => rw [hE] at hn; exact absurd rfl hn
          | bad e => unfold entX at hE; split at hE <;> cases hE
          | ok v =>
            have HE := Lib.hid hE
            clear hc hct hR hE hn
            go_enter Tryz.func70, Tryz.ntmps70
            go_wp2_with fail
            refine (take_any B Z b _ said vs _ [34] _ (lit1 [34]) H.out).mono ?_
            rw [HF1.out]
            rintro e w1 ⟨rfl, h1, hk⟩
            have H1 := Lib.hid h1
            have HK1 := Lib.hid hk
            clear h1 hk
            go_wp2_with fail
            rw [HT0.out] at H1
            refine (take_any B Z b _ said vs _ [39] _ (lit1 [39]) H1.out).mono ?_
            rw [HF2.out]
            rintro e w1 ⟨rfl, h1, hk⟩
            have H1 := Lib.hid h1
            have HK1 := Lib.hid (HK1.out.tr hk)
            clear h1 hk
            go_wp2_with fail
            rw [HT.out] at H1
            refine (until_any B Z b (l.drop 1) said vs _ q _ HX.out H1.out (by have := HL.out; rw [List.length_drop]; omega)).mono ?_
            rw [HC.out]
            rintro e w2 ⟨rfl, h2, hk⟩
            have H2 := Lib.hid h2
            have HK2 := Lib.hid (HK1.out.tr hk)
            clear h2 hk
            go_wp2_with (first
              | (go_at_call 87; refine (contains_any t _ [60] _ (lit1 [60]) HLT.out H2.out.ml).mono ?_; rw [HCT.out]; rintro e w3 ⟨rfl, rfl⟩)
              | (go_at_call 88; refine (entities_any t v _ HE.out HLT.out H2.out.ml).mono ?_; rintro e w3 ⟨rfl, hk⟩; have HK3 := Lib.hid hk; clear hk))
            all_goals go_ret2
            all_goals exact ⟨rfl, H2.out.kp0 HK3.out, HK2.out.tr (HK3.out.nil _)⟩
end Go.Proofs.YtchmookggegmnaaGreatDoor
namespace Go.Proofs.YtchmookggegmnaaGreatDoor
open Go Go.RowKit
/-- Attributes as cells. -/
def ats : List Att → List Value
  | [] => []
  | a :: l => .string (S a.1.1) :: .string (S a.1.2) :: .string (S a.2) :: ats l
theorem ats_len (l : List Att) : (ats l).length = l.length * 3 := by
  induction l with
  | nil => rfl
  | cons p l ih => simp only [ats, List.length_cons, ih]; omega
theorem ats_app (a b : List Att) : ats (a ++ b) = ats a ++ ats b := by
  induction a with
  | nil => rfl
  | cons p l ih => simp only [ats, List.cons_append, ih]
theorem ats_get (l : List Att) (i : Nat) (h : i < l.length) : (ats l)[i * 3]? = some (.string (S (l[i]).1.1)) ∧ (ats l)[i * 3 + 1]? = some (.string (S (l[i]).1.2)) ∧ (ats l)[i * 3 + 2]? = some (.string (S (l[i]).2)) := by
  induction l generalizing i with
  | nil => simp at h
  | cons p l ih =>
    cases i with
    | zero => exact ⟨rfl, rfl, rfl⟩
    | succ i =>
      rw [show (i + 1) * 3 = i * 3 + 1 + 1 + 1 by omega]
      simp only [ats, List.getElem?_cons_succ, List.getElem_cons_succ]
      exact ih i (by simpa using h)
/-- A tag in memory. -/
structure TgV (B : Nat) (w : World) (b : Nat) (va : Value) (n : Wn) (l : List Att) (e : Bool) : Prop where
  blk : Blk w b 79 [.string (S n.1), .string (S n.2), va, .bool e]
  ow : w.ownsRow B 104 3 va l.length (ats l)
  ne : ∀ g, va.ownBlock = some g → g ≠ b
section
variable {B : Nat} {w w1 : World} {b : Nat} {va : Value} {n : Wn} {l : List Att} {e : Bool}
theorem TgV.keep (h : TgV B w b va n l e) {S : Nat → Prop} (hk : Kp S w w1) (hb : ¬ S b) (hv : ∀ g, va.ownBlock = some g → ¬ S g) : TgV B w1 b va n l e :=
  ⟨h.blk.keep hk hb, own_keep h.ow hk hv, h.ne⟩
theorem TgV.kp0 (h : TgV B w b va n l e) (hk : Kp0 w w1) : TgV B w1 b va n l e := h.keep hk (fun h => h) (fun _ _ h => h)
theorem TgV.lt (h : TgV B w b va n l e) : b < w.heap.size := h.blk.lt
theorem TgV.c2 (h : TgV B w b va n l e) : w.cell? ⟨b, 2, none⟩ = some va := h.blk.cellV 2 rfl
theorem TgV.fz (h : TgV B w b va n l e) (i : Nat) : w.frozen? ⟨b, i, none⟩ = false := blk_frozen h.blk i
end
theorem ats_cells {w : World} {g : Nat} {l : List Att} (h : ∀ j u, (ats l)[j]? = some u → w.cell? ⟨g, j, none⟩ = some u) {i : Nat} (hi : i < l.length) : w.cell? ⟨g, i * 3, none⟩ = some (.string (S (l[i]).1.1)) ∧ w.cell? ⟨g, i * 3 + 1, none⟩ = some (.string (S (l[i]).1.2)) ∧ w.cell? ⟨g, i * 3 + 2, none⟩ = some (.string (S (l[i]).2)) := by
  obtain ⟨h1, h2, h3⟩ := ats_get l i hi
  exact ⟨h _ _ h1, h _ _ h2, h _ _ h3⟩
theorem has_yes {l : List Att} {m : Wn} {k : Nat} (h : k < l.length) (he : (l[k]).1 = m) : hasX l m = true := by
  unfold hasX
  rw [List.any_eq_true]
  exact ⟨l[k], List.getElem_mem h, by simp [he]⟩
theorem has_no {l : List Att} {m : Wn} {k : Nat} (h : k < l.length) (h0 : hasX (l.take k) m = false) (he : ¬ (l[k]).1 = m) : hasX (l.take (k + 1)) m = false := by
  unfold hasX at *
  rw [List.take_succ_eq_append_getElem h, List.any_append, h0]
  simp [he]
set_option maxRecDepth 20000 in
set_option maxHeartbeats 2000000 in
theorem has_any (B b : Nat) (va : Value) (n m : Wn) (l : List Att) (e : Bool) (w : World) (h : TgV B w b va n l e) (hl : l.length ≤ 1000) :
    Calls Tryz.prog 69 #[.pointer (some ⟨b, 0, none⟩), .agg #[.string (S m.1), .string (S m.2)]] w fun e w' => e = .returned (.bool (hasX l m)) ∧ Kp0 w w' := by
  obtain ⟨ao, cap, rfl, hc1, hc2⟩ := ownK_sl h.ow
  have H := Lib.hid h
  have hc : ∀ o, (w.alloc o).cell? ⟨b, 2, none⟩ = some (.slice ao l.length cap) := fun o => (h.kp0 ((Kp.refl _ w).alloc o)).c2
  have hlen : (l.length : Int) ≤ 1000 := by omega
  obtain ⟨L, hL⟩ : ∃ L, L = l.length := ⟨_, rfl⟩
  have HL := Lib.hid hL
  rw [← hL] at hc hlen H
  clear h hc1 hc2 hl hL
  go_enter Tryz.func69, Tryz.ntmps69
  go_wp2
  have HK0 : Hid (Kp0 w (w.alloc (Obj.cells #[Value.string (S m.fst), Value.string (S m.snd)] 76))) := Lib.hid ((Kp.refl _ _).alloc _)
  have HB0 : Hid (Blk (w.alloc (Obj.cells #[Value.string (S m.fst), Value.string (S m.snd)] 76)) w.heap.size 76 [Value.string (S m.fst), Value.string (S m.snd)]) := Lib.hid (blk0 w _ _)
  generalize (w.alloc (Obj.cells #[Value.string (S m.fst), Value.string (S m.snd)] 76)) = w0 at HK0 HB0 ⊢
  clear hc
  go_loopg [12] L (fun gg i wr => ∃ k : Nat, i = .int .i64 k ∧ k ≤ L ∧ gg = L - k ∧ Kp0 w0 wr ∧ hasX (l.take k) m = false)
  case atStart => exact ⟨0, rfl, Nat.zero_le _, rfl, Kp.refl _ _, rfl⟩
  case round =>
    obtain ⟨k, rfl, hk, rfl, hkp, hno⟩ := hrel
    have HKP := Lib.hid hkp
    have HNO := Lib.hid hno
    clear hkp hno
    by_cases hlt : k < L
    · have hlt' : k < l.length := by rw [← HL.out]; exact hlt
      obtain ⟨g, cp, cur, hv, hb, _, _, hg, hcells⟩ := ownK_pos (H.out.kp0 (HK0.out.tr HKP.out)).ow (by omega)
      simp only [Value.slice.injEq] at hv
      obtain ⟨rfl, -, rfl⟩ := hv
      obtain ⟨q0, q1, q2⟩ := ats_cells hcells hlt'
      obtain ⟨x, hx⟩ : ∃ x, x = l[k] := ⟨_, rfl⟩
      rw [← hx] at q0 q1 q2
      obtain ⟨⟨x1, x2⟩, x3⟩ := x
      simp only [] at q0 q1 q2
      have HX := Lib.hid hx
      have b0 : ∀ o, (wr.alloc o).cell? ⟨w.heap.size, 0, none⟩ = _ := fun o => ((HB0.out.kp0 HKP.out).kp0 ((Kp.refl _ wr).alloc o)).cellV 0 rfl
      have b1 : ∀ o, (wr.alloc o).cell? ⟨w.heap.size, 1, none⟩ = _ := fun o => ((HB0.out.kp0 HKP.out).kp0 ((Kp.refl _ wr).alloc o)).cellV 1 rfl
      clear hcells hg hb hx
      go_wp2
      all_goals first
        | (have e1 : (S x1).toList = (S m.1).toList := by assumption
           have e2 : (S x2).toList = (S m.2).toList := by assumption
           rw [S_toList, S_toList] at e1 e2
           have HR : Hid (hasX l m = true) := Lib.hid (has_yes hlt' (by rw [← HX.out]; exact Prod.ext e1 e2))
           go_ret
           exact ⟨by rw [HR.out]; rfl, (HK0.out.tr HKP.out).alloc _⟩)
        | (have hne : ¬ ((x1, x2) : Wn) = m := by
             rintro rfl
             first
               | exact absurd rfl (show ¬ (S x1).toList = (S x1).toList by assumption)
               | exact absurd rfl (show ¬ (S x2).toList = (S x2).toList by assumption)
           have HNE : Hid (hasX (l.take (k + 1)) m = false) := Lib.hid (has_no hlt' HNO.out (by rw [← HX.out]; exact hne))
           clear hne
           go_roundg (L - (k + 1))
           case measure => omega
           case rel => exact ⟨k + 1, by go_num, by omega, rfl, HKP.out.alloc _, HNE.out⟩)
    · obtain rfl : k = L := by omega
      have HR : Hid (hasX l m = false) := Lib.hid (by have := HNO.out; rwa [HL.out, List.take_of_length_le (Nat.le_refl _)] at this)
      go_wp2
      all_goals go_ret
      all_goals exact ⟨by rw [HR.out]; rfl, HK0.out.tr HKP.out⟩
end Go.Proofs.YtchmookggegmnaaGreatDoor
