/- The reference of layer 14: places of definitions, texts in lists. The reference of layer 14: texts in lists, a leaf's value. The reference of layer 14: lists of texts held against each other. -/
import Derived.Test.YtmamcnhofgfolaaSa
import Derived.Test.YtmamcnhofgfolaaChecked
import Derived.BigQuiet
import Derived.Deep.QuietTactic
import Derived.Deep.DeepCutAuto
import Derived.RegionTactic
namespace Go.Proofs.Ytmamcnhofgfolaa
open Go Go.RowKit
section
variable {α : Type} {p : α → Bool} {l : List α} {k : Nat}
/-- None of the first k. -/
def NoneTo (p : α → Bool) (l : List α) (k : Nat) : Prop := ∀ j (_ : j < k) (hl : j < l.length), p l[j] = false
theorem NoneTo.zero : NoneTo p l 0 := fun j h _ => absurd h (Nat.not_lt_zero j)
theorem NoneTo.step (h : NoneTo p l k) (hk : k < l.length) (hx : p l[k] = false) : NoneTo p l (k + 1) := fun j hj hl => by
  rcases Nat.lt_or_ge j k with h' | h'
  · exact h j h' hl
  · obtain rfl : j = k := by omega
    exact hx
theorem NoneTo.hit (h : NoneTo p l k) (hk : k < l.length) (hx : p l[k] = true) : l.findIdx? p = some k :=
  List.findIdx?_eq_some_iff_getElem.2 ⟨hk, hx, fun j hj => by simp [h j hj (by omega)]⟩
theorem NoneTo.none (h : NoneTo p l k) (hk : l.length ≤ k) : l.findIdx? p = none :=
  List.findIdx?_eq_none_iff.2 (fun x hx => by
    obtain ⟨j, hj, rfl⟩ := List.getElem_of_mem hx
    exact h j (by omega) hj)
theorem NoneTo.any (h : NoneTo p l k) (hk : l.length ≤ k) : l.any p = false := by
  rw [List.any_eq_false]
  intro x hx
  obtain ⟨j, hj, rfl⟩ := List.getElem_of_mem hx
  simp [h j (by omega) hj]
theorem any_hit (hk : k < l.length) (hx : p l[k] = true) : l.any p = true := List.any_eq_true.2 ⟨_, List.getElem_mem hk, hx⟩
end
/-- A place as the program tells it. -/
def plI : Option Nat → Int
  | some i => i
  | none => -1
def plc (ds : List PD) (nm : List UInt8) : Option Nat := ds.findIdx? fun d => d.nm == nm
theorem S_beq (a b : List UInt8) : ((S a).toList == (S b).toList) = (a == b) := by rw [S_toList, S_toList]
theorem beq_turn (a b : List UInt8) : (a == b) = (b == a) := by
  rw [Bool.eq_iff_iff]
  simp only [beq_iff_eq]
  exact eq_comm
set_option maxHeartbeats 1000000 in
theorem place_any {F : Nat → Prop} (ds : List PD) (v : Value) (nm : List UInt8) (w : World) (hv : RowD F w v ds) :
    Calls Try.prog 28 #[v, .string (S nm)] w fun e w' => e = .returned (.int .i64 (plI (plc ds nm))) ∧ Kp0 w w' := by
  have HV := Lib.hid hv
  obtain ⟨ao, cap, rfl, hc1, hc2, hc3⟩ := hv.shape
  clear hv
  go_enter Try.func28, Try.ntmps28
  go_wp2
  go_loopw [5] (fun i wr => ∃ k : Nat, i = .int .i64 k ∧ k ≤ ds.length ∧ Hid (NoneTo (fun d => d.nm == nm) ds k) ∧ Kp0 w wr) (fun i _ => ds.length - (intOf i).toNat)
  case atStart => exact ⟨0, rfl, Nat.zero_le _, Lib.hid NoneTo.zero, Kp.refl _ _⟩
  case round =>
    obtain ⟨k, rfl, hk, HF, hkp⟩ := hrel
    have HK := Lib.hid hkp
    have R1 := HV.out.kp0 hkp
    clear hkp
    by_cases h : k < ds.length
    · obtain ⟨b1, o1, d1, v1, v2, v3, e1, _, _, c0, _⟩ := R1.at k h
      simp only [Value.slice.injEq] at e1
      obtain ⟨rfl, _, rfl⟩ := e1
      have i1 : (k : Int) < (ds.length : Int) := by omega
      obtain ⟨x, hx⟩ : ∃ x, x = (ds[k]'h).nm := ⟨_, rfl⟩
      rw [← hx] at c0
      have HX := Lib.hid hx
      clear R1 hx
      cases hb : ((S x).toList == (S nm).toList)
      · have HB : Hid ((x == nm) = false) := Lib.hid (by rw [← S_beq]; exact hb)
        go_wp2
        go_roundw
        case rel => exact ⟨k + 1, by go_num, by omega, Lib.hid (HF.out.step h (by rw [← HX.out]; exact HB.out)), HK.out⟩
        case measure => simp [intOf]; omega
      · have HB : Hid ((x == nm) = true) := Lib.hid (by rw [← S_beq]; exact hb)
        go_wp2
        go_ret
        exact ⟨by unfold plc; rw [HF.out.hit h (by rw [← HX.out]; exact HB.out)]; rfl, HK.out⟩
    · have HN : Hid (plc ds nm = none) := Lib.hid (HF.out.none (by omega))
      clear R1
      go_wp2
      go_ret
      exact ⟨by rw [HN.out]; rfl, HK.out⟩
end Go.Proofs.Ytmamcnhofgfolaa
namespace Go.Proofs.Ytmamcnhofgfolaa
open Go Go.RowKit
def hasT (l : List (List UInt8)) (s : List UInt8) : Bool := l.any fun x => x == s
theorem RdF.atT {F : Nat → Prop} {w : World} {v : Value} {l : List (List UInt8)} (h : RdF F w 1 v l.length (txs l)) (i : Nat) (hi : i < l.length) :
    ∃ b o cap, v = .slice (some ⟨b, o, none⟩) l.length cap ∧ l.length ≤ cap ∧ cap ≤ 9223372036854775807 ∧ w.cell? ⟨b, o + i, none⟩ = some (.string (S l[i])) := by
  obtain ⟨b, o, cap, h1, h2, h3, _, _, h4⟩ := h.pos (by rw [txs_len]; omega)
  exact ⟨b, o, cap, h1, h2, h3, h4 i _ (txs_get l i hi)⟩
set_option maxHeartbeats 1000000 in
theorem has_any {F : Nat → Prop} (l : List (List UInt8)) (v : Value) (s : List UInt8) (w : World) (hv : RdF F w 1 v l.length (txs l)) :
    Calls Try.prog 42 #[v, .string (S s)] w fun e w' => e = .returned (.bool (hasT l s)) ∧ Kp0 w w' := by
  have HV := Lib.hid hv
  obtain ⟨ao, cap, rfl, hc1, hc2, hc3⟩ := hv.shape
  clear hv
  go_enter Try.func42, Try.ntmps42
  go_wp2
  go_loopw [5] (fun i wr => ∃ k : Nat, i = .int .i64 k ∧ k ≤ l.length ∧ Hid (NoneTo (fun x => x == s) l k) ∧ Kp0 w wr) (fun i _ => l.length - (intOf i).toNat)
  case atStart => exact ⟨0, rfl, Nat.zero_le _, Lib.hid NoneTo.zero, Kp.refl _ _⟩
  case round =>
    obtain ⟨k, rfl, hk, HF, hkp⟩ := hrel
    have HK := Lib.hid hkp
    have R1 := HV.out.kp0 hkp
    clear hkp
    by_cases h : k < l.length
    · obtain ⟨b1, o1, d1, e1, _, _, c0⟩ := R1.atT k h
      simp only [Value.slice.injEq] at e1
      obtain ⟨rfl, _, rfl⟩ := e1
      have i1 : (k : Int) < (l.length : Int) := by omega
      obtain ⟨x, hx⟩ : ∃ x, x = (l[k]'h) := ⟨_, rfl⟩
      rw [← hx] at c0
      have HX := Lib.hid hx
      clear R1 hx
      cases hb : ((S x).toList == (S s).toList)
      · have HB : Hid ((x == s) = false) := Lib.hid (by rw [← S_beq]; exact hb)
        go_wp2
        go_roundw
        case rel => exact ⟨k + 1, by go_num, by omega, Lib.hid (HF.out.step h (by rw [← HX.out]; exact HB.out)), HK.out⟩
        case measure => simp [intOf]; omega
      · have HB : Hid ((x == s) = true) := Lib.hid (by rw [← S_beq]; exact hb)
        go_wp2
        go_ret
        exact ⟨by unfold hasT; rw [any_hit h (by rw [← HX.out]; exact HB.out)]; rfl, HK.out⟩
    · have HN : Hid (hasT l s = false) := Lib.hid (HF.out.any (by omega))
      clear R1
      go_wp2
      go_ret
      exact ⟨by rw [HN.out]; rfl, HK.out⟩
def badV (c : UInt8) : Bool := decide (c.toNat < 32) || decide (126 < c.toNat)
def noD (c : UInt8) : Bool := decide (c.toNat < 48) || decide (57 < c.toNat)
def unsig (s : List UInt8) : List UInt8 := if s.head? = some 45 then s.tail else s
def numT (s : List UInt8) : Bool := !(decide ((unsig s).length < 1) || decide (18 < (unsig s).length) || ((unsig s).head? == some 48 && !(s == [48]))) && !((unsig s).any noD)
def kindT (ty : Int) (vs : List (List UInt8)) (s : List UInt8) : Bool :=
  if ty = 1 then numT s else if ty = 2 then s == [116, 114, 117, 101] || s == [102, 97, 108, 115, 101] else if ty = 3 then hasT vs s else true
/-- May a leaf have this value? -/
def valT (ty : Int) (vs : List (List UInt8)) (s : List UInt8) : Bool := !decide (128 < s.length) && !(s.any badV) && kindT ty vs s
theorem S_at {l : List UInt8} {k : Nat} (h : k < (S l).size) (h' : k < l.length) : (S l)[k]'h = l[k]'h' := rfl
theorem S_cut (l : List UInt8) (k : Nat) : (S l).extract k (S l).size = S (l.drop k) := str_ext (by
  rw [extract_toList, S_toList, S_toList, S_size, List.take_of_length_le (by rw [List.length_drop]; omega)])
theorem head48 {t : List UInt8} (h0 : 0 < t.length) (h0' : 0 < (S t).size) : (t.head? == some 48) = ((((S t)[0]'h0').toNat : Int) == 48) := by
  cases t with
  | nil => simp at h0
  | cons c l =>
    show (some c == some 48) = ((c.toNat : Int) == 48)
    rw [Bool.eq_iff_iff]
    simp only [beq_iff_eq, Option.some.injEq]
    constructor
    · intro e
      rw [e]
      rfl
    · intro e
      apply UInt8.toNat_inj.1
      show c.toNat = 48
      omega
def DefA (d : PD) (a b c : Value) : Value := .agg #[.string (S d.nm), .int .i64 d.kd, .int .i64 d.ty, a, .bool d.mu, b, c]
set_option maxRecDepth 20000 in
set_option maxHeartbeats 4000000 in
theorem value_any {F : Nat → Prop} (d : PD) (a b c : Value) (s : List UInt8) (w : World) (hd : DfR F w d a b c) :
    Calls Try.prog 29 #[DefA d a b c, .string (S s)] w fun e w' => e = .returned (.bool (valT d.ty d.vs s)) ∧ Kp0 w w' := by
  have HV := Lib.hid hd.vs
  clear hd
  obtain ⟨ty, hty⟩ : ∃ x, x = d.ty := ⟨_, rfl⟩
  obtain ⟨vs, hvs⟩ : ∃ x, x = d.vs := ⟨_, rfl⟩
  unfold DefA
  rw [← hty, ← hvs]
  rw [← hvs] at HV
  clear hty hvs
  have HSZ : Hid ((S s).size = s.length) := Lib.hid (S_size s)
  go_enter Try.func29, Try.ntmps29
  go_upto_region 1 with (fail)
  obtain ⟨w1, hw1⟩ : ∃ x, x = w.alloc (.cells #[.string (S d.nm), .int .i64 d.kd, .int .i64 ty, a, .bool d.mu, b, c] 35) := ⟨_, rfl⟩
  rw [← hw1]
  have HB1 : Hid (Blk w1 w.heap.size 35 [.string (S d.nm), .int .i64 d.kd, .int .i64 ty, a, .bool d.mu, b, c] ∧ Kp0 w w1) := Lib.hid (by rw [hw1]; exact ⟨blk0 _ _ _, (Kp.refl _ _).alloc _⟩)
  obtain ⟨g, hg⟩ : ∃ x, x = w.heap.size := ⟨_, rfl⟩
  rw [← hg] at HB1 ⊢
  clear hw1 hg
  by_cases h1 : 128 < s.length
  · have i1 : (128 : Int) < ((S s).size : Int) := by rw [HSZ.out]; omega
    have HN : Hid (valT ty vs s = false) := Lib.hid (by unfold valT; rw [decide_eq_true h1]; rfl)
    clear h1
    go_wp2
    go_ret
    exact ⟨by rw [HN.out]; rfl, HB1.out.2⟩
  · have i1 : ¬ (128 : Int) < ((S s).size : Int) := by rw [HSZ.out]; omega
    have HD : Hid (decide (128 < s.length) = false) := Lib.hid (decide_eq_false h1)
    clear h1
    go_wp2
    go_loopw [5] (fun i wr => ∃ k : Nat, i = .int .i64 k ∧ k ≤ s.length ∧ Hid (NoneTo badV s k) ∧ Kp0 w1 wr) (fun i _ => s.length - (intOf i).toNat)
    case atStart => exact ⟨0, rfl, Nat.zero_le _, Lib.hid NoneTo.zero, Kp.refl _ _⟩
    case round =>
      obtain ⟨k, rfl, hk, HF, hkp⟩ := hrel
      have HK := Lib.hid hkp
      clear hkp
      by_cases h : k < s.length
      · have h' : k < (S s).size := by rw [HSZ.out]; exact h
        have j1 : (k : Int) < ((S s).size : Int) := by omega
        have HBC : Hid (badV (s[k]'h) = (decide (((S s)[k]'h').toNat < 32) || decide (126 < ((S s)[k]'h').toNat))) := Lib.hid rfl
        have hno : badV (s[k]'h) = true → valT ty vs s = false := fun hb => by unfold valT; rw [any_hit h hb]; simp
        have HNO := Lib.hid hno
        clear hno
        by_cases c1 : ((S s)[k]'h').toNat < 32
        · have d1 : ((((S s)[k]'h').toNat : Nat) : Int) < 32 := by omega
          have HN : Hid (valT ty vs s = false) := Lib.hid (HNO.out (by rw [HBC.out, decide_eq_true c1]; rfl))
          go_wp2
          go_ret
          exact ⟨by rw [HN.out]; rfl, HB1.out.2.tr HK.out⟩
        · have d1 : ¬ ((((S s)[k]'h').toNat : Nat) : Int) < 32 := by omega
          by_cases c2 : 126 < ((S s)[k]'h').toNat
          · have d2 : (126 : Int) < ((((S s)[k]'h').toNat : Nat) : Int) := by omega
            have HN : Hid (valT ty vs s = false) := Lib.hid (HNO.out (by rw [HBC.out, decide_eq_true c2]; simp))
            go_wp2
            go_ret
            exact ⟨by rw [HN.out]; rfl, HB1.out.2.tr HK.out⟩
          · have d2 : ¬ (126 : Int) < ((((S s)[k]'h').toNat : Nat) : Int) := by omega
            have HF1 := Lib.hid (HF.out.step h (by rw [HBC.out, decide_eq_false c1, decide_eq_false c2]; rfl))
            clear c1 c2
            go_wp2
            go_roundw
            case rel => exact ⟨k + 1, by go_num, by omega, HF1, HK.out⟩
            case measure => simp [intOf]; omega
      · have h' : ¬ (k : Int) < ((S s).size : Int) := by rw [HSZ.out]; omega
        have HA : Hid (valT ty vs s = kindT ty vs s) := Lib.hid (by unfold valT; rw [HD.out, HF.out.any (by omega)]; rfl)
        have HKA := Lib.hid (HB1.out.2.tr HK.out)
        have HBR := Lib.hid (HB1.out.1.kp0 HK.out)
        have HVR := Lib.hid (HV.out.kp0 HKA.out)
        clear HB1 HV HF HK h hk
        have c2 := HBR.out.cellV 2 (v := .int .i64 ty) rfl
        have c3 := HBR.out.cellV 3 (v := a) rfl
        by_cases t1 : ty = 1
        · subst t1
          by_cases hs : s = []
          · have e1 : ((S s).toList == []) = true := by rw [S_toList, hs]; rfl
            have i2 : ((S s).size : Int) < 1 := by rw [S_size, hs]; decide
            have HN : Hid (valT 1 vs s = false) := Lib.hid (by rw [HA.out, hs]; rfl)
            clear hs
            go_wp2
            go_ret
            exact ⟨by rw [HN.out]; rfl, HKA.out⟩
          · have e1 : ((S s).toList == []) = false := by rw [S_toList]; simp [hs]
            have hl : 0 < s.length := List.length_pos_iff.2 hs
            have h00 : 0 < (S s).size := by rw [S_size]; exact hl
            have j00 : (0 : Int) < ((S s).size : Int) := by omega
            have HHD : Hid (s.head? = some (s[0]'hl)) := Lib.hid (by rw [List.head?_eq_getElem?, List.getElem?_eq_getElem hl])
            clear hs
            by_cases hm : s[0]'hl = 45
            · have HT : Hid (unsig s = s.drop 1) := Lib.hid (by unfold unsig; rw [HHD.out, hm, if_pos rfl]; simp)
              have r0 : ((((S s)[0]'h00).toNat : Int) == 45) = true := by rw [S_at h00 hl, hm]; rfl
              clear hm
              go_upto_region 13 with (fail)
              rw [S_cut]
              obtain ⟨t, ht⟩ : ∃ t, t = s.drop 1 := ⟨_, rfl⟩
              rw [← ht] at HT ⊢
              clear ht
              have HTZ : Hid ((S t).size = t.length) := Lib.hid (S_size t)
              have HNT : Hid (numT s = (!(decide (t.length < 1) || decide (18 < t.length) || (t.head? == some 48 && !(s == [48]))) && !(t.any noD))) := Lib.hid (by unfold numT; rw [HT.out])
              by_cases q1 : t.length < 1
              · have i2 : ((S t).size : Int) < 1 := by rw [HTZ.out]; omega
                have HN : Hid (valT 1 vs s = false) := Lib.hid (by rw [HA.out]; show numT s = false; rw [HNT.out, decide_eq_true q1]; rfl)
                clear q1
                go_wp2
                go_ret
                exact ⟨by rw [HN.out]; rfl, HKA.out⟩
              · have i2 : ¬ ((S t).size : Int) < 1 := by rw [HTZ.out]; omega
                by_cases q2 : 18 < t.length
                · have i3 : (18 : Int) < ((S t).size : Int) := by rw [HTZ.out]; omega
                  have HN : Hid (valT 1 vs s = false) := Lib.hid (by rw [HA.out]; show numT s = false; rw [HNT.out, decide_eq_true q2]; simp)
                  clear q1 q2
                  go_wp2
                  go_ret
                  exact ⟨by rw [HN.out]; rfl, HKA.out⟩
                · have i3 : ¬ (18 : Int) < ((S t).size : Int) := by rw [HTZ.out]; omega
                  have h0 : 0 < t.length := by omega
                  have h0' : 0 < (S t).size := by rw [HTZ.out]; exact h0
                  have j0 : (0 : Int) < ((S t).size : Int) := by omega
                  have HH := Lib.hid (head48 (t := t) h0 h0')
                  have HNT2 : Hid (numT s = (!(((((S t)[0]'h0').toNat : Int) == 48) && !((S s).toList == [48])) && !(t.any noD))) := Lib.hid (by rw [HNT.out, decide_eq_false q1, decide_eq_false q2, HH.out, S_toList]; simp)
                  clear q1 q2 HH HNT
                  by_cases q3 : (((((S t)[0]'h0').toNat : Int) == 48) && !((S s).toList == [48])) = true
                  · have HN : Hid (valT 1 vs s = false) := Lib.hid (by rw [HA.out]; show numT s = false; rw [HNT2.out, q3]; rfl)
                    rw [Bool.and_eq_true, Bool.not_eq_true'] at q3
                    obtain ⟨r1, r2⟩ := q3
                    go_wp2
                    go_ret
                    exact ⟨by rw [HN.out]; rfl, HKA.out⟩
                  · have HN2 : Hid (valT 1 vs s = !(t.any noD)) := Lib.hid (by rw [HA.out]; show numT s = _; rw [HNT2.out, Bool.eq_false_iff.2 q3]; rfl)
                    have HQ : Hid (((((S t)[0]'h0').toNat : Int) == 48) = false ∨ (((((S t)[0]'h0').toNat : Int) == 48) = true ∧ ((S s).toList == [48]) = true)) := Lib.hid (by
                      cases r1 : ((((S t)[0]'h0').toNat : Int) == 48)
                      · exact .inl rfl
                      · cases r2 : ((S s).toList == [48])
                        · rw [r1, r2] at q3; exact absurd rfl q3
                        · exact .inr ⟨rfl, rfl⟩)
                    clear q3 HNT2
                    rcases HQ.out with r1 | ⟨r1, r2⟩
                    all_goals
                      go_wp2
                      go_loopw [7] (fun i wx => ∃ k : Nat, i = .int .i64 k ∧ k ≤ t.length ∧ Hid (NoneTo noD t k) ∧ Kp0 w wx) (fun i _ => t.length - (intOf i).toNat)
                      case atStart => exact ⟨0, rfl, Nat.zero_le _, Lib.hid NoneTo.zero, HKA.out⟩
                      case round =>
                        obtain ⟨k2, rfl, hk, HF, hkp⟩ := hrel
                        have HK := Lib.hid hkp
                        clear hkp
                        by_cases h : k2 < t.length
                        · have h' : k2 < (S t).size := by rw [HTZ.out]; exact h
                          have j1 : (k2 : Int) < ((S t).size : Int) := by omega
                          have HBC : Hid (noD (t[k2]'h) = (decide (((S t)[k2]'h').toNat < 48) || decide (57 < ((S t)[k2]'h').toNat))) := Lib.hid rfl
                          by_cases c1 : ((S t)[k2]'h').toNat < 48
                          · have d1 : ((((S t)[k2]'h').toNat : Nat) : Int) < 48 := by omega
                            have HN : Hid (valT 1 vs s = false) := Lib.hid (by rw [HN2.out, any_hit h (by rw [HBC.out, decide_eq_true c1]; rfl)]; rfl)
                            go_wp2
                            go_ret
                            exact ⟨by rw [HN.out]; rfl, HK.out⟩
                          · have d1 : ¬ ((((S t)[k2]'h').toNat : Nat) : Int) < 48 := by omega
                            by_cases c2 : 57 < ((S t)[k2]'h').toNat
                            · have d2 : (57 : Int) < ((((S t)[k2]'h').toNat : Nat) : Int) := by omega
                              have HN : Hid (valT 1 vs s = false) := Lib.hid (by rw [HN2.out, any_hit h (by rw [HBC.out, decide_eq_true c2]; simp)]; rfl)
                              go_wp2
                              go_ret
                              exact ⟨by rw [HN.out]; rfl, HK.out⟩
                            · have d2 : ¬ (57 : Int) < ((((S t)[k2]'h').toNat : Nat) : Int) := by omega
                              have HF1 := Lib.hid (HF.out.step h (by rw [HBC.out, decide_eq_false c1, decide_eq_false c2]; rfl))
                              clear c1 c2
                              go_wp2
                              go_roundw
                              case rel => exact ⟨k2 + 1, by go_num, by omega, HF1, HK.out⟩
                              case measure => simp [intOf]; omega
                        · have h' : ¬ (k2 : Int) < ((S t).size : Int) := by rw [HTZ.out]; omega
                          have HN : Hid (valT 1 vs s = true) := Lib.hid (by rw [HN2.out, HF.out.any (by omega)]; rfl)
                          go_wp2
                          go_ret
                          exact ⟨by rw [HN.out]; rfl, HK.out⟩
            · have HT : Hid (unsig s = s) := Lib.hid (by unfold unsig; rw [HHD.out, if_neg]; simp [hm])
              have r0 : ((((S s)[0]'h00).toNat : Int) == 45) = false := by
                rw [S_at h00 hl]
                rw [beq_eq_false_iff_ne]
                intro e
                apply hm
                apply UInt8.toNat_inj.1
                show (s[0]'hl).toNat = 45
                omega
              clear hm
              go_upto_region 13 with (fail)
              clear e1 r0 j00
              have HTZ : Hid ((S s).size = s.length) := Lib.hid (S_size s)
              have HNT : Hid (numT s = (!(decide (s.length < 1) || decide (18 < s.length) || (s.head? == some 48 && !(s == [48]))) && !(s.any noD))) := Lib.hid (by unfold numT; rw [HT.out])
              by_cases q1 : s.length < 1
              · have i2 : ((S s).size : Int) < 1 := by rw [HTZ.out]; omega
                have HN : Hid (valT 1 vs s = false) := Lib.hid (by rw [HA.out]; show numT s = false; rw [HNT.out, decide_eq_true q1]; rfl)
                clear q1
                go_wp2
                go_ret
                exact ⟨by rw [HN.out]; rfl, HKA.out⟩
              · have i2 : ¬ ((S s).size : Int) < 1 := by rw [HTZ.out]; omega
                by_cases q2 : 18 < s.length
                · have i3 : (18 : Int) < ((S s).size : Int) := by rw [HTZ.out]; omega
                  have HN : Hid (valT 1 vs s = false) := Lib.hid (by rw [HA.out]; show numT s = false; rw [HNT.out, decide_eq_true q2]; simp)
                  clear q1 q2
                  go_wp2
                  go_ret
                  exact ⟨by rw [HN.out]; rfl, HKA.out⟩
                · have i3 : ¬ (18 : Int) < ((S s).size : Int) := by rw [HTZ.out]; omega
                  have h0 : 0 < s.length := by omega
                  have h0' : 0 < (S s).size := by rw [HTZ.out]; exact h0
                  have j0 : (0 : Int) < ((S s).size : Int) := by omega
                  have HH := Lib.hid (head48 (t := s) h0 h0')
                  have HNT2 : Hid (numT s = (!(((((S s)[0]'h0').toNat : Int) == 48) && !((S s).toList == [48])) && !(s.any noD))) := Lib.hid (by rw [HNT.out, decide_eq_false q1, decide_eq_false q2, HH.out, S_toList]; simp)
                  clear q1 q2 HH HNT
                  by_cases q3 : (((((S s)[0]'h0').toNat : Int) == 48) && !((S s).toList == [48])) = true
                  · have HN : Hid (valT 1 vs s = false) := Lib.hid (by rw [HA.out]; show numT s = false; rw [HNT2.out, q3]; rfl)
                    rw [Bool.and_eq_true, Bool.not_eq_true'] at q3
                    obtain ⟨r1, r2⟩ := q3
                    go_wp2
                    go_ret
                    exact ⟨by rw [HN.out]; rfl, HKA.out⟩
                  · have HN2 : Hid (valT 1 vs s = !(s.any noD)) := Lib.hid (by rw [HA.out]; show numT s = _; rw [HNT2.out, Bool.eq_false_iff.2 q3]; rfl)
                    have HQ : Hid (((((S s)[0]'h0').toNat : Int) == 48) = false ∨ (((((S s)[0]'h0').toNat : Int) == 48) = true ∧ ((S s).toList == [48]) = true)) := Lib.hid (by
                      cases r1 : ((((S s)[0]'h0').toNat : Int) == 48)
                      · exact .inl rfl
                      · cases r2 : ((S s).toList == [48])
                        · rw [r1, r2] at q3; exact absurd rfl q3
                        · exact .inr ⟨rfl, rfl⟩)
                    clear q3 HNT2
                    rcases HQ.out with r1 | ⟨r1, r2⟩
                    all_goals
                      go_wp2
                      go_loopw [7] (fun i wx => ∃ k : Nat, i = .int .i64 k ∧ k ≤ s.length ∧ Hid (NoneTo noD s k) ∧ Kp0 w wx) (fun i _ => s.length - (intOf i).toNat)
                      case atStart => exact ⟨0, rfl, Nat.zero_le _, Lib.hid NoneTo.zero, HKA.out⟩
                      case round =>
                        obtain ⟨k2, rfl, hk, HF, hkp⟩ := hrel
                        have HK := Lib.hid hkp
                        clear hkp
                        by_cases h : k2 < s.length
                        · have h' : k2 < (S s).size := by rw [HTZ.out]; exact h
                          have j1 : (k2 : Int) < ((S s).size : Int) := by omega
                          have HBC : Hid (noD (s[k2]'h) = (decide (((S s)[k2]'h').toNat < 48) || decide (57 < ((S s)[k2]'h').toNat))) := Lib.hid rfl
                          by_cases c1 : ((S s)[k2]'h').toNat < 48
                          · have d1 : ((((S s)[k2]'h').toNat : Nat) : Int) < 48 := by omega
                            have HN : Hid (valT 1 vs s = false) := Lib.hid (by rw [HN2.out, any_hit h (by rw [HBC.out, decide_eq_true c1]; rfl)]; rfl)
                            go_wp2
                            go_ret
                            exact ⟨by rw [HN.out]; rfl, HK.out⟩
                          · have d1 : ¬ ((((S s)[k2]'h').toNat : Nat) : Int) < 48 := by omega
                            by_cases c2 : 57 < ((S s)[k2]'h').toNat
                            · have d2 : (57 : Int) < ((((S s)[k2]'h').toNat : Nat) : Int) := by omega
                              have HN : Hid (valT 1 vs s = false) := Lib.hid (by rw [HN2.out, any_hit h (by rw [HBC.out, decide_eq_true c2]; simp)]; rfl)
                              go_wp2
                              go_ret
                              exact ⟨by rw [HN.out]; rfl, HK.out⟩
                            · have d2 : ¬ (57 : Int) < ((((S s)[k2]'h').toNat : Nat) : Int) := by omega
                              have HF1 := Lib.hid (HF.out.step h (by rw [HBC.out, decide_eq_false c1, decide_eq_false c2]; rfl))
                              clear c1 c2
                              go_wp2
                              go_roundw
                              case rel => exact ⟨k2 + 1, by go_num, by omega, HF1, HK.out⟩
                              case measure => simp [intOf]; omega
                        · have h' : ¬ (k2 : Int) < ((S s).size : Int) := by rw [HTZ.out]; omega
                          have HN : Hid (valT 1 vs s = true) := Lib.hid (by rw [HN2.out, HF.out.any (by omega)]; rfl)
                          go_wp2
                          go_ret
                          exact ⟨by rw [HN.out]; rfl, HK.out⟩
        · by_cases t2 : ty = 2
          · subst t2
            obtain ⟨e1, he1⟩ : ∃ b, b = ((S s).toList == [116, 114, 117, 101]) := ⟨_, rfl⟩
            obtain ⟨e2, he2⟩ : ∃ b, b = ((S s).toList == [102, 97, 108, 115, 101]) := ⟨_, rfl⟩
            have HN : Hid (valT 2 vs s = (e1 || e2)) := Lib.hid (by rw [HA.out, he1, he2, S_toList]; rfl)
            cases e1 <;> cases e2 <;> (have g1 := he1.symm; have g2 := he2.symm; clear he1 he2; go_wp2; go_ret; exact ⟨by rw [HN.out]; rfl, HKA.out⟩)
          · by_cases t3 : ty = 3
            · subst t3
              have HN : Hid (valT 3 vs s = hasT vs s) := Lib.hid (by rw [HA.out]; rfl)
              go_wp2_with (go_at_call 42; refine (has_any vs _ s _ HVR.out).mono ?_; rintro e w2 ⟨rfl, hk2⟩; have HK2 := Lib.hid hk2; clear hk2)
              go_ret
              exact ⟨by rw [HN.out]; rfl, HKA.out.tr HK2.out⟩
            · have HN : Hid (valT ty vs s = true) := Lib.hid (by rw [HA.out]; unfold kindT; rw [if_neg t1, if_neg t2, if_neg t3])
              go_wp2
              go_ret
              exact ⟨by rw [HN.out]; rfl, HKA.out⟩
end Go.Proofs.Ytmamcnhofgfolaa
namespace Go.Proofs.Ytmamcnhofgfolaa
open Go Go.RowKit
/-- Which of two lists of texts stands ahead. -/
def cmpT : List (List UInt8) → List (List UInt8) → Int
  | a :: la, b :: lb => if Op.bytesLess a b then -1 else if a == b then cmpT la lb else 1
  | la, lb => (la.length : Int) - (lb.length : Int)
theorem cmpT_end {la lb : List (List UInt8)} (h : la.length = 0 ∨ lb.length = 0) : cmpT la lb = (la.length : Int) - (lb.length : Int) := by
  cases la with
  | nil => cases lb <;> rfl
  | cons a la =>
    cases lb with
    | nil => rfl
    | cons b lb => simp at h
set_option maxHeartbeats 1000000 in
theorem compare_any {F G : Nat → Prop} (la lb : List (List UInt8)) (va vb : Value) (w : World) (ha : RdF F w 1 va la.length (txs la)) (hb : RdF G w 1 vb lb.length (txs lb)) :
    Calls Try.prog 43 #[va, vb] w fun e w' => e = .returned (.int .i64 (cmpT la lb)) ∧ Kp0 w w' := by
  have HA := Lib.hid ha
  have HB := Lib.hid hb
  obtain ⟨ao, ca, rfl, _, _, _⟩ := ha.shape
  obtain ⟨bo, cb, rfl, _, _, _⟩ := hb.shape
  clear ha hb
  go_enter Try.func43, Try.ntmps43
  go_wp2
  go_loopw [5] (fun i wr => ∃ k : Nat, i = .int .i64 k ∧ k ≤ la.length ∧ k ≤ lb.length ∧ Hid (cmpT la lb = cmpT (la.drop k) (lb.drop k)) ∧ Kp0 w wr) (fun i _ => la.length - (intOf i).toNat)
  case atStart => exact ⟨0, rfl, Nat.zero_le _, Nat.zero_le _, Lib.hid rfl, Kp.refl _ _⟩
  case round =>
    obtain ⟨k, rfl, hk1, hk2, HF, hkp⟩ := hrel
    have HK := Lib.hid hkp
    have R1 := HA.out.kp0 hkp
    have R2 := HB.out.kp0 hkp
    clear hkp
    by_cases h1 : k < la.length
    · have i1 : (k : Int) < (la.length : Int) := by omega
      by_cases h2 : k < lb.length
      · have i2 : (k : Int) < (lb.length : Int) := by omega
        obtain ⟨b1, o1, d1, e1, _, _, c1⟩ := R1.atT k h1
        obtain ⟨b2, o2, d2, e2, _, _, c2⟩ := R2.atT k h2
        simp only [Value.slice.injEq] at e1 e2
        obtain ⟨rfl, _, rfl⟩ := e1
        obtain ⟨rfl, _, rfl⟩ := e2
        obtain ⟨x, hx⟩ : ∃ x, x = la[k]'h1 := ⟨_, rfl⟩
        obtain ⟨y, hy⟩ : ∃ x, x = lb[k]'h2 := ⟨_, rfl⟩
        have HST : Hid (cmpT la lb = if Op.bytesLess x y then -1 else if x == y then cmpT (la.drop (k + 1)) (lb.drop (k + 1)) else 1) := Lib.hid (by
          rw [HF.out, List.drop_eq_getElem_cons h1, List.drop_eq_getElem_cons h2, ← hx, ← hy, cmpT])
        rw [← hx] at c1
        rw [← hy] at c2
        clear hx hy R1 R2 HF
        cases l1 : Op.bytesLess (S x).toList (S y).toList
        · have L1 : Hid (Op.bytesLess x y = false) := Lib.hid (by rw [← S_toList x, ← S_toList y]; exact l1)
          cases l2 : ((S x).toList == (S y).toList)
          · have L2 : Hid ((x == y) = false) := Lib.hid (by rw [← S_beq]; exact l2)
            go_upto_region 4 with (fail)
            go_quiet (fail)
            go_upto_region 6 with (fail)
            go_quiet (fail)
            go_wp2
            go_ret
            exact ⟨by rw [HST.out, L1.out, L2.out]; rfl, (HK.out.drewN _).drewN _⟩
          · have L2 : Hid ((x == y) = true) := Lib.hid (by rw [← S_beq]; exact l2)
            go_upto_region 4 with (fail)
            go_quiet (fail)
            go_upto_region 6 with (fail)
            go_quiet (fail)
            go_wp2
            go_roundw
            case rel => exact ⟨k + 1, by go_num, by omega, by omega, Lib.hid (by rw [HST.out, L1.out, L2.out]; rfl), HK.out.drewN _⟩
            case measure => simp [intOf]; omega
        · have L1 : Hid (Op.bytesLess x y = true) := Lib.hid (by rw [← S_toList x, ← S_toList y]; exact l1)
          go_upto_region 4 with (fail)
          go_quiet (fail)
          go_wp2
          go_ret
          exact ⟨by rw [HST.out, L1.out]; rfl, HK.out.drewN _⟩
      · have i2 : ¬ (k : Int) < (lb.length : Int) := by omega
        have HN : Hid (cmpT la lb = (la.length : Int) - (lb.length : Int)) := Lib.hid (by
          rw [HF.out, cmpT_end (.inr (by rw [List.length_drop]; omega)), List.length_drop, List.length_drop]; omega)
        clear R1 R2
        go_wp2
        go_ret
        exact ⟨by rw [HN.out]; rfl, HK.out⟩
    · have i1 : ¬ (k : Int) < (la.length : Int) := by omega
      have HN : Hid (cmpT la lb = (la.length : Int) - (lb.length : Int)) := Lib.hid (by
        rw [HF.out, cmpT_end (.inl (by rw [List.length_drop]; omega)), List.length_drop, List.length_drop]; omega)
      clear R1 R2
      go_wp2
      go_ret
      exact ⟨by rw [HN.out]; rfl, HK.out⟩
end Go.Proofs.Ytmamcnhofgfolaa
