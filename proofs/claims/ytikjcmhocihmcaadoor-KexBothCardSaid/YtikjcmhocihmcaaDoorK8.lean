/- Package kex: whether a name is in a list; the client's first name that the server has. Package kex: the client's first name that the server has. Package kex: what a side offers; when two offers agree. Package kex: when two offers agree, for the program. The reference of layer 8: when two offers agree. -/
import Derived.Test.YtikjcmhocihmcaaDoorK7
import Derived.Test.YtikjcmhocihmcaaDoorK1
import Derived.BigQuiet
import Derived.Deep.QuietTactic
import Derived.Deep.DeepCutAuto
import Derived.Test.YtikjcmhocihmcaaDoorK2
import Derived.Deep.RegionWith
namespace Go.Proofs.YtikjcmhocihmcaaDoor
open Go Go.RowKit
def hasS (l : List ByteArray) (s : ByteArray) : Bool := l.any fun x => s.toList == x.toList
def firstS (c l : List ByteArray) : Option ByteArray := c.find? (hasS l)
theorem hasS_take {l : List ByteArray} {s : ByteArray} {k : Nat} (hk : k < l.length) (h : hasS (l.take k) s = false) (hx : (s.toList == (l[k]'hk).toList) = false) : hasS (l.take (k + 1)) s = false := by
  unfold hasS at *
  rw [List.take_succ_eq_append_getElem hk, List.any_append, h]
  simp [hx]
theorem hasS_hit {l : List ByteArray} {s : ByteArray} {k : Nat} (hk : k < l.length) (hx : (s.toList == (l[k]'hk).toList) = true) : hasS l s = true := by
  unfold hasS
  rw [List.any_eq_true]
  exact ⟨_, List.getElem_mem hk, hx⟩
set_option maxHeartbeats 1000000 in
theorem index_any (v : Value) (l : List ByteArray) (s : ByteArray) (w : World) (hv : Rd w v (strs l)) :
    Calls Tryd.prog 80 #[v, .string s] w fun e w' => ∃ i : Int, e = .returned (.int .i64 i) ∧ decide (0 ≤ i) = hasS l s ∧ Kp0 w w' := by
  have HV := Lib.hid hv
  obtain ⟨ao, cap, rfl, hc1, hc2, hc3⟩ := hv.shapeS
  clear hv
  go_enter Tryd.func80, Tryd.ntmps80
  go_wp2
  go_loopw [8] (fun i wr => ∃ k : Nat, i = .int .i64 k ∧ k ≤ l.length ∧ Hid (hasS (l.take k) s = false) ∧ Kp0 w wr) (fun i _ => l.length - (intOf i).toNat)
  case atStart => exact ⟨0, rfl, Nat.zero_le _, Lib.hid rfl, Kp.refl _ _⟩
  case round =>
    obtain ⟨k, rfl, hk, HF, hkp⟩ := hrel
    have HK := Lib.hid hkp
    have R1 := HV.out.keep0 hkp
    clear hkp
    by_cases h : k < l.length
    · obtain ⟨b1, o1, d1, e1, _, _, cell1⟩ := R1.posS (by omega)
      simp only [Value.slice.injEq] at e1
      obtain ⟨rfl, _, rfl⟩ := e1
      have ck1 := cell1 k h
      obtain ⟨x, hx⟩ : ∃ x, x = l[k]'h := ⟨_, rfl⟩
      rw [← hx] at ck1
      have HX := Lib.hid hx
      have i1 : (k : Int) < (l.length : Int) := by omega
      clear cell1 R1 hx
      cases hb : (s.toList == x.toList)
      · have HB := Lib.hid hb
        go_wp2
        go_roundw
        case rel => exact ⟨k + 1, by go_num, by omega, Lib.hid (hasS_take h HF.out (by rw [← HX.out]; exact HB.out)), HK.out⟩
        case measure => simp [intOf]; omega
      · have HB := Lib.hid hb
        go_wp2
        go_ret
        exact ⟨_, rfl, by rw [hasS_hit h (by rw [← HX.out]; exact HB.out)]; exact decide_eq_true (by omega), HK.out⟩
    · have HN : Hid (hasS l s = false) := Lib.hid (by have := HF.out; rwa [List.take_of_length_le (by omega)] at this)
      clear R1
      go_wp2
      go_ret
      exact ⟨_, rfl, by rw [HN.out]; rfl, HK.out⟩
theorem contains_any (v : Value) (l : List ByteArray) (s : ByteArray) (w : World) (hv : Rd w v (strs l)) :
    Calls Tryd.prog 51 #[v, .string s] w fun e w' => e = .returned (.bool (hasS l s)) ∧ Kp0 w w' := by
  have HV := Lib.hid hv
  clear hv
  go_enter Tryd.func51, Tryd.ntmps51
  go_wp2_with fail
  refine (index_any v l s _ HV.out).mono ?_
  rintro e w1 ⟨i, rfl, hi, hk⟩
  have HI := Lib.hid hi
  clear hi
  cases hb : decide (0 ≤ i)
  all_goals
    have HB := Lib.hid hb
    simp only [decide_eq_true_eq, decide_eq_false_iff_not] at hb
    go_wp2
    go_ret
    exact ⟨by rw [← HI.out, HB.out]; rfl, hk⟩
end Go.Proofs.YtikjcmhocihmcaaDoor
namespace Go.Proofs.YtikjcmhocihmcaaDoor
open Go Go.RowKit
theorem findS_take {l sl : List ByteArray} {k : Nat} (hk : k < l.length) (h : firstS (l.take k) sl = none) (hx : hasS sl (l[k]'hk) = false) : firstS (l.take (k + 1)) sl = none := by
  unfold firstS at *
  rw [List.take_succ_eq_append_getElem hk, List.find?_append, h]
  simp [hx]
theorem findS_hit {l sl : List ByteArray} {k : Nat} (hk : k < l.length) (h : firstS (l.take k) sl = none) (hx : hasS sl (l[k]'hk) = true) : firstS l sl = some (l[k]'hk) := by
  unfold firstS at *
  have e : l.find? (hasS sl) = (l.take k ++ l.drop k).find? (hasS sl) := by rw [List.take_append_drop]
  rw [e, List.find?_append, h, List.drop_eq_getElem_cons hk, List.find?_cons_of_pos hx]
  rfl
theorem closure_any (g : Nat) (sv : Value) (sl : List ByteArray) (s : ByteArray) (w : World) (hg : w.cell? ⟨g, 0, none⟩ = some sv) (hs : Rd w sv (strs sl)) :
    Calls Tryd.prog 79 #[.string s, .pointer (some ⟨g, 0, none⟩)] w fun e w' => e = .returned (.bool (hasS sl s)) ∧ Kp0 w w' := by
  have HS := Lib.hid hs
  clear hs
  go_enter Tryd.func79, Tryd.ntmps79
  go_wp2_with fail
  refine (contains_any sv sl s _ HS.out).mono ?_
  rintro e w1 ⟨rfl, hk⟩
  go_wp2
  go_ret
  exact ⟨rfl, hk⟩
set_option maxHeartbeats 1000000 in
theorem indexFunc_any (g : Nat) (v sv : Value) (l sl : List ByteArray) (w : World) (hv : Rd w v (strs l)) (hg : w.cell? ⟨g, 0, none⟩ = some sv) (hs : Rd w sv (strs sl)) :
    Calls Tryd.prog 78 #[v, .func (.func 79) #[] #[.pointer (some ⟨g, 0, none⟩)]] w fun e w' => (∃ i : Int, e = .returned (.int .i64 i) ∧ ((i = -1 ∧ firstS l sl = none) ∨ ∃ (k : Nat) (h : k < l.length), i = k ∧ firstS l sl = some (l[k]'h))) ∧ Kp0 w w' := by
  have HV := Lib.hid hv
  have HG := Lib.hid hg
  have HS := Lib.hid hs
  obtain ⟨ao, cap, rfl, hc1, hc2, hc3⟩ := hv.shapeS
  clear hv hs hg
  go_enter Tryd.func78, Tryd.ntmps78
  go_wp2
  go_loopw [8] (fun i wr => ∃ k : Nat, i = .int .i64 k ∧ k ≤ l.length ∧ Hid (firstS (l.take k) sl = none) ∧ Kp0 w wr) (fun i _ => l.length - (intOf i).toNat)
  case atStart => exact ⟨0, rfl, Nat.zero_le _, Lib.hid rfl, Kp.refl _ _⟩
  case round =>
    obtain ⟨k, rfl, hk, HF, hkp⟩ := hrel
    have HK := Lib.hid hkp
    have R1 := HV.out.keep0 hkp
    have RS := Lib.hid (HS.out.keep0 hkp)
    have RG := Lib.hid (hkp.cell HG.out (fun h => h))
    clear hkp
    by_cases h : k < l.length
    · obtain ⟨b1, o1, d1, e1, _, _, cell1⟩ := R1.posS (by omega)
      simp only [Value.slice.injEq] at e1
      obtain ⟨rfl, _, rfl⟩ := e1
      have ck1 := cell1 k h
      obtain ⟨x, hx⟩ : ∃ x, x = l[k]'h := ⟨_, rfl⟩
      rw [← hx] at ck1
      have HX := Lib.hid hx
      have i1 : (k : Int) < (l.length : Int) := by omega
      clear cell1 R1 hx
      cases hb : hasS sl x
      · have HB := Lib.hid hb
        go_wp2_with (go_at_call 79; refine (closure_any g sv sl x _ RG.out RS.out).mono ?_; rintro e w1 ⟨rfl, hk1⟩; have HK1 := Lib.hid hk1; clear hk1; rw [HB.out])
        go_roundw
        case rel => exact ⟨k + 1, by go_num, by omega, Lib.hid (findS_take h HF.out (by rw [← HX.out]; exact HB.out)), HK.out.tr HK1.out⟩
        case measure => simp [intOf]; omega
      · have HB := Lib.hid hb
        go_wp2_with (go_at_call 79; refine (closure_any g sv sl x _ RG.out RS.out).mono ?_; rintro e w1 ⟨rfl, hk1⟩; have HK1 := Lib.hid hk1; clear hk1; rw [HB.out])
        go_ret
        exact ⟨⟨_, rfl, .inr ⟨k, h, rfl, findS_hit h HF.out (by rw [← HX.out]; exact HB.out)⟩⟩, HK.out.tr HK1.out⟩
    · have HN : Hid (firstS l sl = none) := Lib.hid (by have := HF.out; rwa [List.take_of_length_le (by omega)] at this)
      clear R1
      go_wp2
      go_ret
      exact ⟨⟨_, rfl, .inl ⟨rfl, HN.out⟩⟩, HK.out⟩
/-- What firstOf answers. -/
def firstA (o : Option ByteArray) : Value := match o with | none => .tuple #[.string .empty, .bool false] | some n => .tuple #[.string n, .bool true]
set_option maxHeartbeats 1000000 in
theorem firstOf_any (v sv : Value) (l sl : List ByteArray) (w : World) (hv : Rd w v (strs l)) (hs : Rd w sv (strs sl)) :
    Calls Tryd.prog 50 #[v, sv] w fun e w' => e = .returned (firstA (firstS l sl)) ∧ Kp0 w w' := by
  have HV := Lib.hid hv
  have HS := Lib.hid hs
  obtain ⟨ao, cap, rfl, hc1, hc2, hc3⟩ := hv.shapeS
  obtain ⟨bo, cap2, rfl, hp1, hp2, hp3⟩ := hs.shapeS
  clear hv hs
  go_enter Tryd.func50, Tryd.ntmps50
  go_upto_region 1 with (fail)
  have HKA : Hid (Kp0 w (w.alloc (.cells #[.slice bo sl.length cap2] 22))) := Lib.hid ((Kp.refl _ _).alloc _)
  have HB : Hid (Blk (w.alloc (.cells #[.slice bo sl.length cap2] 22)) w.heap.size 22 [.slice bo sl.length cap2]) := Lib.hid (blk0 w _ _)
  generalize w.alloc (.cells #[.slice bo sl.length cap2] 22) = w1 at HKA HB ⊢
  have HL := Lib.hid hc2
  clear hc1 hc2 hc3 hp1 hp2 hp3
  go_wp2_with fail
  refine (indexFunc_any _ _ _ l sl _ (HV.out.keep0 HKA.out) (HB.out.cellV 0 rfl) (HS.out.keep0 HKA.out)).mono ?_
  rintro e w2 ⟨⟨i, rfl, hi⟩, hk⟩
  have HK := Lib.hid (HKA.out.tr hk)
  clear hk
  rcases hi with ⟨rfl, hn⟩ | ⟨k, h, rfl, hn⟩
  · have HN := Lib.hid hn
    clear hn
    go_wp2
    go_ret2
    exact ⟨by rw [HN.out]; rfl, HK.out⟩
  · obtain ⟨x, hx⟩ : ∃ x, x = l[k]'h := ⟨_, rfl⟩
    rw [← hx] at hn
    have HN := Lib.hid hn
    obtain ⟨b1, o1, d1, e1, _, _, cell1⟩ := (HV.out.keep0 HK.out).posS (by omega)
    simp only [Value.slice.injEq] at e1
    obtain ⟨rfl, _, rfl⟩ := e1
    have ck1 := cell1 k h
    rw [← hx] at ck1
    have i1 : (k : Int) < (l.length : Int) := by omega
    clear cell1 hx hn
    go_wp2
    go_ret2
    exact ⟨by rw [HN.out]; rfl, HK.out⟩
end Go.Proofs.YtikjcmhocihmcaaDoor
namespace Go.Proofs.YtikjcmhocihmcaaDoor
open Go Go.RowKit
def Rows8 (w : World) (vs : List Value) (ls : List (List ByteArray)) : Prop := vs.length = 8 ∧ ls.length = 8 ∧ ∀ i v, vs[i]? = some v → Rd w v (strs (ls.getD i []))
theorem Rows8.kp0 {w w' : World} {vs : List Value} {ls : List (List ByteArray)} (h : Rows8 w vs ls) (hk : Kp0 w w') : Rows8 w' vs ls := ⟨h.1, h.2.1, fun i v hv => (h.2.2 i v hv).keep0 hk⟩
def ownC : ByteArray := { data := #[99, 117, 114, 118, 101, 50, 53, 53, 49, 57, 45, 115, 104, 97, 50, 53, 54] }
def ownE : ByteArray := { data := #[115, 115, 104, 45, 101, 100, 50, 53, 53, 49, 57] }
def ownA : ByteArray := { data := #[97, 101, 115, 49, 50, 56, 45, 99, 116, 114] }
def ownM : ByteArray := { data := #[104, 109, 97, 99, 45, 115, 104, 97, 50, 45, 50, 53, 54] }
def ownN : ByteArray := { data := #[110, 111, 110, 101] }
def ownS : List (List ByteArray) := [[ownC], [ownE], [ownA], [ownA], [ownM], [ownM], [ownN], [ownN]]
theorem rdBlk {w : World} {g : Nat} {T : TypeId} {cs : List Value} {n : Nat} (h : Blk w g T cs) (hl : cs.length = n) (hn : n ≤ 9223372036854775807 := by decide) : Rd w (.slice (some ⟨g, 0, none⟩) n n) cs := by
  subst hl
  refine ⟨some ⟨g, 0, none⟩, cs.length, rfl, Nat.le_refl _, by unfold maxLen; omega, by simp, fun ad e i u hu => ?_⟩
  cases e
  rw [Addr.add_lit, Nat.zero_add]
  exact h.cellV i hu
/-- The value of an offer whose rows lie one behind the other. -/
def ownV (b : Nat) : List Value := [.slice (some ⟨b + 1, 0, none⟩) 1 1, .slice (some ⟨b + 1 + 1, 0, none⟩) 1 1, .slice (some ⟨b + 1 + 1 + 1, 0, none⟩) 1 1, .slice (some ⟨b + 1 + 1 + 1 + 1, 0, none⟩) 1 1, .slice (some ⟨b + 1 + 1 + 1 + 1 + 1, 0, none⟩) 1 1, .slice (some ⟨b + 1 + 1 + 1 + 1 + 1 + 1, 0, none⟩) 1 1, .slice (some ⟨b + 1 + 1 + 1 + 1 + 1 + 1 + 1, 0, none⟩) 1 1, .slice (some ⟨b + 1 + 1 + 1 + 1 + 1 + 1 + 1 + 1, 0, none⟩) 1 1]
def ownB (T b : Nat) : List (Nat × TypeId × List Value) := [(b, T, ownV b), (b + 1, 9, [.string ownC]), (b + 1 + 1, 9, [.string ownE]), (b + 1 + 1 + 1, 9, [.string ownA]), (b + 1 + 1 + 1 + 1, 9, [.string ownA]), (b + 1 + 1 + 1 + 1 + 1, 9, [.string ownM]), (b + 1 + 1 + 1 + 1 + 1 + 1, 9, [.string ownM]), (b + 1 + 1 + 1 + 1 + 1 + 1 + 1, 9, [.string ownN]), (b + 1 + 1 + 1 + 1 + 1 + 1 + 1 + 1, 9, [.string ownN])]
theorem own_bks (T : TypeId) (w : World) : Bks w (((((((((w.alloc (.cells (ownV w.heap.size).toArray T)).alloc (.cells #[.string ownC] 9)).alloc (.cells #[.string ownE] 9)).alloc (.cells #[.string ownA] 9)).alloc (.cells #[.string ownA] 9)).alloc (.cells #[.string ownM] 9)).alloc (.cells #[.string ownM] 9)).alloc (.cells #[.string ownN] 9)).alloc (.cells #[.string ownN] 9)) (ownB T w.heap.size) :=
  ((((((((((Bks.nil w).push T (ownV w.heap.size) rfl).push 9 [.string ownC] (g := w.heap.size + 1) (by simp)).push 9 [.string ownE] (g := w.heap.size + 1 + 1) (by simp)).push 9 [.string ownA] (g := w.heap.size + 1 + 1 + 1) (by simp)).push 9 [.string ownA] (g := w.heap.size + 1 + 1 + 1 + 1) (by simp)).push 9 [.string ownM] (g := w.heap.size + 1 + 1 + 1 + 1 + 1) (by simp)).push 9 [.string ownM] (g := w.heap.size + 1 + 1 + 1 + 1 + 1 + 1) (by simp)).push 9 [.string ownN] (g := w.heap.size + 1 + 1 + 1 + 1 + 1 + 1 + 1) (by simp)).push 9 [.string ownN] (g := w.heap.size + 1 + 1 + 1 + 1 + 1 + 1 + 1 + 1) (by simp))
theorem own_rows {T b : Nat} {w w' : World} (h : Bks w w' (ownB T b)) : Rows8 w' (ownV b) ownS := by
  refine ⟨rfl, rfl, fun i v hv => ?_⟩
  match i, hv with
  | 0, hv => cases hv; exact rdBlk (h.at 1 rfl) rfl
  | 1, hv => cases hv; exact rdBlk (h.at 2 rfl) rfl
  | 2, hv => cases hv; exact rdBlk (h.at 3 rfl) rfl
  | 3, hv => cases hv; exact rdBlk (h.at 4 rfl) rfl
  | 4, hv => cases hv; exact rdBlk (h.at 5 rfl) rfl
  | 5, hv => cases hv; exact rdBlk (h.at 6 rfl) rfl
  | 6, hv => cases hv; exact rdBlk (h.at 7 rfl) rfl
  | 7, hv => cases hv; exact rdBlk (h.at 8 rfl) rfl
  | n + 8, hv => simp [ownV] at hv
set_option maxHeartbeats 2000000 in
theorem own_any (w : World) :
    Calls Tryd.prog 31 #[] w fun e w' => ∃ vs, e = .returned (.agg vs.toArray) ∧ Rows8 w' vs ownS ∧ Kp0 w w' := by
  have HB := own_bks 30 w
  have HO := Lib.hid HB
  clear HB
  go_enter Tryd.func31, Tryd.ntmps31
  go_wp2
  refine ret_blk 0 30 30 w.heap.size (ownV w.heap.size) _ rfl rfl (HO.out.at 0 rfl) Tryd.underlying30 rfl (by kernel_rfl) rfl ?_
  exact ⟨_, rfl, own_rows HO.out, HO.out.kp⟩
set_option maxHeartbeats 2000000 in
theorem refOwn_any (w : World) :
    Calls Tryd.prog 52 #[] w fun e w' => ∃ vs, e = .returned (.agg vs.toArray) ∧ Rows8 w' vs ownS ∧ Kp0 w w' := by
  have HB := own_bks 23 w
  have HO := Lib.hid HB
  clear HB
  go_enter Tryd.func52, Tryd.ntmps52
  go_wp2
  refine ret_blk 0 23 23 w.heap.size (ownV w.heap.size) _ rfl rfl (HO.out.at 0 rfl) Tryd.underlying23 rfl (by kernel_rfl) rfl ?_
  exact ⟨_, rfl, own_rows HO.out, HO.out.kp⟩
end Go.Proofs.YtikjcmhocihmcaaDoor
namespace Go.Proofs.YtikjcmhocihmcaaDoor
open Go Go.RowKit
/-- Do they come to the own method of kind i? -/
def okK (la lb : List (List ByteArray)) (i : Nat) : Bool := match firstS (la.getD i []) (lb.getD i []) with | none => false | some n => hasS (ownS.getD i []) n
def agreeK (la lb : List (List ByteArray)) (k : Nat) : Bool := (List.range k).all (okK la lb)
theorem agreeK_succ (la lb : List (List ByteArray)) (k : Nat) : agreeK la lb (k + 1) = (agreeK la lb k && okK la lb k) := by
  unfold agreeK
  rw [List.range_succ, List.all_append]
  simp
theorem agreeK_no {la lb : List (List ByteArray)} {k n : Nat} (h : okK la lb k = false) (hk : k < n) : agreeK la lb n = false := by
  unfold agreeK
  rw [List.all_eq_false]
  exact ⟨k, by simpa using hk, by simp [h]⟩
def agreeR (la lb : List (List ByteArray)) : Int := if agreeK la lb 8 then 0 else 7
theorem agreeR_yes {la lb : List (List ByteArray)} (h : agreeK la lb 8 = true) : agreeR la lb = 0 := by unfold agreeR; rw [if_pos h]
theorem agreeR_no {la lb : List (List ByteArray)} (h : agreeK la lb 8 = false) : agreeR la lb = 7 := by unfold agreeR; rw [if_neg (by simp [h])]
theorem run_index_row {P : Program} {w : World} (t e : TypeId) (N : Nat) (k' : IntKind) (cs : List Value) (n : Nat) (x : Value) (hx : cs[n]? = some x) (h : P.underlying t = some (.array N e)) (ha : (isAgg e).run P w = .ok false w) (hs : (sizeOf e).run P w = .ok 1 w) (hn : n < N) :
    (Instr.index t (.agg cs.toArray) (.int k' (n : Int))).run P w = .ok x w := by
  have h1 : (0 : Int) ≤ (n : Int) ∧ (n : Int) < (N : Int) := by omega
  simp [Instr.index, run_underlying h, asIntOf, hn, part, hx, hs, ha, go_sem]
theorem size_row (w : World) : (sizeOf 22).run Tryd.prog w = .ok 1 w := by
  obtain ⟨i, h, h2⟩ : ∃ i, Tryd.prog.info? 22 = some i ∧ Tryd.prog.cellsOf 22 = 1 := by
    have : (Tryd.prog.info? 22).isSome = true := by kernel_rfl
    obtain ⟨i, hi⟩ := Option.isSome_iff_exists.1 this
    exact ⟨i, hi, by kernel_rfl⟩
  rw [run_sizeOf _ h, h2]
theorem agg_row (w : World) : (isAgg 22).run Tryd.prog w = .ok false w := by simp [isAgg, run_underlying Tryd.underlying22, go_sem]
theorem getD_row {vs : List Value} {n : Nat} (h : n < vs.length) : vs[n]? = some (vs.getD n undef) := by
  rw [List.getD_eq_getElem?_getD, List.getElem?_eq_getElem h, Option.getD_some]
set_option maxRecDepth 100000 in
set_option maxHeartbeats 4000000 in
theorem agree_any (va vb : List Value) (la lb : List (List ByteArray)) (w : World) (ha : Rows8 w va la) (hb : Rows8 w vb lb) :
    Calls Tryd.prog 16 #[.agg va.toArray, .agg vb.toArray] w fun e w' => e = .returned (.int .i64 (agreeR la lb)) ∧ Kp0 w w' := by
  have HA := Lib.hid ha
  have HB := Lib.hid hb
  clear ha hb
  go_enter Tryd.func16, Tryd.ntmps16
  go_upto_region 1 with (fail)
  have HK1 : Hid (Bks w ((w.alloc (.cells va.toArray 30)).alloc (.cells vb.toArray 30)) [(w.heap.size, 30, va), (w.heap.size + 1, 30, vb)]) :=
    Lib.hid (((Bks.nil w).push 30 va rfl).push 30 vb (g := w.heap.size + 1) (by simp))
  generalize (w.alloc (.cells va.toArray 30)).alloc (.cells vb.toArray 30) = w1 at HK1 ⊢
  obtain ⟨ga, hga⟩ : ∃ x, x = w.heap.size := ⟨_, rfl⟩
  obtain ⟨gb, hgb⟩ : ∃ x, x = w.heap.size + 1 := ⟨_, rfl⟩
  rw [← hgb, ← hga] at HK1
  rw [← hgb, ← hga]
  clear hga hgb
  go_wp2_with (go_at_call 31; refine (own_any _).mono ?_; rintro e w2 ⟨vo, rfl, hro, hk⟩; have HO := Lib.hid hro; have HK2 := Lib.hid (HK1.out.kp0 hk); clear hro hk)
  go_loopw [10] (fun i wr => ∃ k : Nat, i = .int .i64 k ∧ k ≤ 8 ∧ Hid (agreeK la lb k = true) ∧ Kp0 w2 wr) (fun i _ => 8 - (intOf i).toNat)
  case atStart => exact ⟨0, rfl, Nat.zero_le _, Lib.hid rfl, Kp.refl _ _⟩
  case round =>
    obtain ⟨k, rfl, hk, HF, hkp⟩ := hrel
    have HKR := Lib.hid hkp
    have HB3 := Lib.hid (HK2.out.kp0 hkp)
    have RO := Lib.hid (HO.out.kp0 hkp)
    have RA := Lib.hid (HA.out.kp0 (HK2.out.kp.tr hkp))
    have RB := Lib.hid (HB.out.kp0 (HK2.out.kp.tr hkp))
    clear hkp
    by_cases h : k < 8
    · have hk8 : (k : Int) < 8 := by omega
      have hio := run_index_row (P := Tryd.prog) (w := wr) 30 22 8 .i64 vo k _ (getD_row (by rw [RO.out.1]; exact h)) Tryd.underlying30 (agg_row _) (size_row _) h
      have RV := RO.out.2.2 k _ (getD_row (by rw [RO.out.1]; exact h))
      generalize vo.getD k undef = ov at hio RV
      have hca := (HB3.out.at 0 rfl).cellV k (getD_row (vs := va) (by rw [RA.out.1]; exact h))
      have hcb := (HB3.out.at 1 rfl).cellV k (getD_row (vs := vb) (by rw [RB.out.1]; exact h))
      have AV := RA.out.2.2 k _ (getD_row (by rw [RA.out.1]; exact h))
      have BV := RB.out.2.2 k _ (getD_row (by rw [RB.out.1]; exact h))
      generalize va.getD k undef = av at hca AV
      generalize vb.getD k undef = bv at hcb BV
      have HAV := Lib.hid AV
      have HBV := Lib.hid BV
      have HOV := Lib.hid RV
      have HOK := Lib.hid (show okK la lb k = match firstS (la.getD k []) (lb.getD k []) with | none => false | some n => hasS (ownS.getD k []) n from rfl)
      generalize la.getD k [] = lx at HAV HOK
      generalize lb.getD k [] = ly at HBV HOK
      generalize ownS.getD k [] = lo at HOV HOK
      clear AV BV RV
      cases hf : firstS lx ly with
      | none =>
        have HF2 := Lib.hid hf
        rw [hf] at HOK
        have HNO := Lib.hid (agreeK_no (n := 8) HOK.out h)
        clear hf HOK
        go_upto_region 4 with (fail)
        go_region_with (go_at_call 50; refine (firstOf_any av bv lx ly _ ?_ ?_).mono ?_; exact HAV.out; exact HBV.out; rintro e w3 ⟨rfl, hk3⟩; have HK3 := Lib.hid hk3; clear hk3; rw [HF2.out]; simp only [firstA])
        all_goals
          go_wp2
          go_ret
          exact ⟨by rw [agreeR_no HNO.out]; rfl, HB3.out.kp.tr ((Kp.refl _ wr).drew.tr HK3.out)⟩
      | some n =>
        have HF2 := Lib.hid hf
        rw [hf] at HOK
        clear hf
        go_upto_region 4 with (fail)
        go_region_with (go_at_call 50; refine (firstOf_any av bv lx ly _ ?_ ?_).mono ?_; exact HAV.out; exact HBV.out; rintro e w3 ⟨rfl, hk3⟩; have HK3 := Lib.hid hk3; clear hk3; rw [HF2.out]; simp only [firstA])
        all_goals
          have HV3 := Lib.hid ((HOV.out.keep0 (Kp.refl _ wr).drew).keep0 HK3.out)
          have HB5 := Lib.hid ((HB3.out.kp0 (Kp.refl _ wr).drew).kp0 HK3.out)
          have HK5 := Lib.hid ((HKR.out.tr (Kp.refl _ wr).drew).tr HK3.out)
          cases hb : hasS lo n
          · have HX := Lib.hid hb
            have HNO := Lib.hid (agreeK_no (n := 8) (k := k) (la := la) (lb := lb) (by rw [HOK.out]; exact hb) (by omega))
            clear hb
            go_wp2_with (go_at_call 51; refine (contains_any ov lo n _ HV3.out).mono ?_; rintro e w4 ⟨rfl, hk4⟩; have HK4 := Lib.hid hk4; clear hk4; rw [HX.out])
            go_ret
            exact ⟨by rw [agreeR_no HNO.out]; rfl, HB5.out.kp.tr HK4.out⟩
          · have HX := Lib.hid hb
            have HYE := Lib.hid (show agreeK la lb (k + 1) = true by rw [agreeK_succ, HF.out, HOK.out]; exact hb)
            clear hb
            go_wp2_with (go_at_call 51; refine (contains_any ov lo n _ HV3.out).mono ?_; rintro e w4 ⟨rfl, hk4⟩; have HK4 := Lib.hid hk4; clear hk4; rw [HX.out])
            go_roundw
            case rel => exact ⟨k + 1, by go_num, by omega, HYE, HK5.out.tr HK4.out⟩
            case measure => simp [intOf]; omega
    · obtain rfl : k = 8 := by omega
      go_wp2
      go_ret
      exact ⟨by rw [agreeR_yes HF.out]; rfl, HB3.out.kp⟩
end Go.Proofs.YtikjcmhocihmcaaDoor
namespace Go.Proofs.YtikjcmhocihmcaaDoor
open Go Go.RowKit
theorem eq_turn (a b : List UInt8) : (a == b) = (b == a) := by
  rw [Bool.eq_iff_iff]
  simp only [beq_iff_eq]
  exact eq_comm
set_option maxHeartbeats 1000000 in
theorem refHas_any (v : Value) (l : List ByteArray) (s : ByteArray) (w : World) (hv : Rd w v (strs l)) :
    Calls Tryd.prog 53 #[v, .string s] w fun e w' => e = .returned (.bool (hasS l s)) ∧ Kp0 w w' := by
  have HV := Lib.hid hv
  obtain ⟨ao, cap, rfl, hc1, hc2, hc3⟩ := hv.shapeS
  clear hv
  go_enter Tryd.func53, Tryd.ntmps53
  go_wp2
  go_loopw [5] (fun i wr => ∃ k : Nat, i = .int .i64 k ∧ k ≤ l.length ∧ Hid (hasS (l.take k) s = false) ∧ Kp0 w wr) (fun i _ => l.length - (intOf i).toNat)
  case atStart => exact ⟨0, rfl, Nat.zero_le _, Lib.hid rfl, Kp.refl _ _⟩
  case round =>
    obtain ⟨k, rfl, hk, HF, hkp⟩ := hrel
    have HK := Lib.hid hkp
    have R1 := HV.out.keep0 hkp
    clear hkp
    by_cases h : k < l.length
    · obtain ⟨b1, o1, d1, e1, _, _, cell1⟩ := R1.posS (by omega)
      simp only [Value.slice.injEq] at e1
      obtain ⟨rfl, _, rfl⟩ := e1
      have ck1 := cell1 k h
      obtain ⟨x, hx⟩ : ∃ x, x = l[k]'h := ⟨_, rfl⟩
      rw [← hx] at ck1
      have HX := Lib.hid hx
      have i1 : (k : Int) < (l.length : Int) := by omega
      clear cell1 R1 hx
      cases hb : (x.toList == s.toList)
      · have HB : Hid ((s.toList == x.toList) = false) := Lib.hid (by rw [eq_turn]; exact hb)
        go_wp2
        go_roundw
        case rel => exact ⟨k + 1, by go_num, by omega, Lib.hid (hasS_take h HF.out (by rw [← HX.out]; exact HB.out)), HK.out⟩
        case measure => simp [intOf]; omega
      · have HB : Hid ((s.toList == x.toList) = true) := Lib.hid (by rw [eq_turn]; exact hb)
        go_wp2
        go_ret
        exact ⟨by rw [hasS_hit h (by rw [← HX.out]; exact HB.out)]; rfl, HK.out⟩
    · have HN : Hid (hasS l s = false) := Lib.hid (by have := HF.out; rwa [List.take_of_length_le (by omega)] at this)
      clear R1
      go_wp2
      go_ret
      exact ⟨by rw [HN.out]; rfl, HK.out⟩
theorem Rows8.ones {w : World} {vs : List Value} {ls : List (List ByteArray)} (h : Rows8 w vs ls) : Ones vs := by
  intro v hv
  obtain ⟨i, hi, rfl⟩ := List.getElem_of_mem hv
  obtain ⟨ao, cap, e, _⟩ := (h.2.2 i _ (List.getElem?_eq_getElem hi)).shape
  rw [e]
  rfl
theorem info8 {vs : List Value} (h : vs.length = 8) : (Tryd.prog.info? 23).map (·.size) = some vs.length := by
  rw [h]
  kernel_rfl
def nil8 : List Value := [.slice none 0 0, .slice none 0 0, .slice none 0 0, .slice none 0 0, .slice none 0 0, .slice none 0 0, .slice none 0 0, .slice none 0 0]
def okS (lx ly lo : List ByteArray) : Bool := match firstS lx ly with | none => false | some n => hasS lo n
theorem okK_eq (la lb : List (List ByteArray)) (k : Nat) : okK la lb k = okS (la.getD k []) (lb.getD k []) (ownS.getD k []) := by
  unfold okK okS
  cases firstS (la.getD k []) (lb.getD k []) <;> rfl
theorem okS_none {lx ly lo : List ByteArray} (h : firstS lx ly = none) : okS lx ly lo = false := by unfold okS; rw [h]
theorem okS_some {lx ly : List ByteArray} {n o : ByteArray} (h : firstS lx ly = some n) : okS lx ly [o] = (n.toList == o.toList) := by unfold okS; rw [h]; simp [hasS]
theorem own_head (k : Nat) (h : k < 8) : ∃ o, ownS.getD k [] = [o] := by
  have hx : k = 0 ∨ k = 1 ∨ k = 2 ∨ k = 3 ∨ k = 4 ∨ k = 5 ∨ k = 6 ∨ k = 7 := by omega
  rcases hx with rfl | rfl | rfl | rfl | rfl | rfl | rfl | rfl <;> exact ⟨_, rfl⟩
set_option maxRecDepth 100000 in
set_option maxHeartbeats 4000000 in
theorem refAgree_any (va vb : List Value) (la lb : List (List ByteArray)) (w : World) (ha : Rows8 w va la) (hb : Rows8 w vb lb) :
    Calls Tryd.prog 17 #[.agg va.toArray, .agg vb.toArray] w fun e w' => e = .returned (.bool (agreeK la lb 8)) ∧ Kp0 w w' := by
  have HA := Lib.hid ha
  have HB := Lib.hid hb
  clear ha hb
  go_enter Tryd.func17, Tryd.ntmps17
  go_upto_region 1 with (fail)
  have HK1 : Hid (Bks w ((w.alloc (.cells va.toArray 23)).alloc (.cells vb.toArray 23)) [(w.heap.size, 23, va), (w.heap.size + 1, 23, vb)]) :=
    Lib.hid (((Bks.nil w).push 23 va rfl).push 23 vb (g := w.heap.size + 1) (by simp))
  generalize (w.alloc (.cells va.toArray 23)).alloc (.cells vb.toArray 23) = w1 at HK1 ⊢
  obtain ⟨ga, hga⟩ : ∃ x, x = w.heap.size := ⟨_, rfl⟩
  obtain ⟨gb, hgb⟩ : ∃ x, x = w.heap.size + 1 := ⟨_, rfl⟩
  rw [← hgb, ← hga] at HK1
  rw [← hgb, ← hga]
  clear hga hgb
  go_upto_region 2 with (first
    | (go_at_call 52
       refine (refOwn_any _).mono ?_
       rintro e w2 ⟨vo, rfl, hro, hk⟩
       have HO := Lib.hid hro
       have HK2 := Lib.hid (HK1.out.kp0 hk)
       have HB2 : Hid (Bks w (w2.alloc (.cells nil8.toArray 23)) [(ga, 23, va), (gb, 23, vb), (w2.heap.size, 23, nil8)]) := Lib.hid (HK2.out.push 23 nil8 rfl)
       clear hro hk)
    | (refine wl_store_blk rfl 23 (.tmp 5) (.tmp 10) rfl w2.heap.size _ nil8 vo rfl rfl (HB2.out.at 2 rfl) (info8 HO.out.1) HO.out.1.symm HO.out.ones ?_
       intro w3 hA hK
       have HB3 := Lib.hid (HB2.out.store 2 rfl hA hK)
       have HO3 : Hid (Rows8 w3 vo ownS) := Lib.hid (HO.out.kp0 (((Kp.refl (fun _ => False) w2).alloc _).trans hK (fun i hi h => h) (fun i hi h => absurd h (by omega))))
       clear hA hK))
  obtain ⟨go, hgo⟩ : ∃ x, x = w2.heap.size := ⟨_, rfl⟩
  simp only [Act.put]
  rw [← hgo] at HB3 ⊢
  clear hgo HB2
  go_wp2
  go_loopw [6] (fun i wr => ∃ k : Nat, i = .int .i64 k ∧ k ≤ 8 ∧ Hid (agreeK la lb k = true) ∧ Kp0 w3 wr) (fun i _ => 8 - (intOf i).toNat)
  case atStart => exact ⟨0, rfl, Nat.zero_le _, Lib.hid rfl, Kp.refl _ _⟩
  case round =>
    obtain ⟨k, rfl, hk, HF, hkp⟩ := hrel
    have HKR := Lib.hid hkp
    have HB4 := Lib.hid (HB3.out.kp0 hkp)
    have RO := Lib.hid (HO3.out.kp0 hkp)
    have RA := Lib.hid (HA.out.kp0 (HB3.out.kp.tr hkp))
    have RB := Lib.hid (HB.out.kp0 (HB3.out.kp.tr hkp))
    clear hkp
    by_cases h : k < 8
    · have hk8 : (k : Int) < 8 := by omega
      obtain ⟨o, ho⟩ := own_head k h
      have hca := (HB4.out.at 0 rfl).cellV k (getD_row (vs := va) (by rw [RA.out.1]; exact h))
      have hcb := (HB4.out.at 1 rfl).cellV k (getD_row (vs := vb) (by rw [RB.out.1]; exact h))
      have hco := (HB4.out.at 2 rfl).cellV k (getD_row (vs := vo) (by rw [RO.out.1]; exact h))
      have AV := RA.out.2.2 k _ (getD_row (by rw [RA.out.1]; exact h))
      have BV := RB.out.2.2 k _ (getD_row (by rw [RB.out.1]; exact h))
      have OV := RO.out.2.2 k _ (getD_row (by rw [RO.out.1]; exact h))
      rw [ho] at OV
      have hok : okK la lb k = okS (la.getD k []) (lb.getD k []) [o] := by rw [okK_eq, ho]
      have HOK := Lib.hid hok
      clear hok ho
      generalize va.getD k undef = av at hca AV
      generalize vb.getD k undef = bv at hcb BV
      generalize vo.getD k undef = ov at hco OV
      generalize la.getD k [] = lx at AV HOK
      generalize lb.getD k [] = ly at BV HOK
      obtain ⟨ao, cap, rfl, _, _, _⟩ := AV.shapeS
      obtain ⟨ob, oo, oc, rfl, _, _, ocell⟩ := OV.posS (l := [o]) (by simp)
      have hoc := ocell 0 (by simp)
      simp only [Nat.add_zero, List.getElem_cons_zero] at hoc
      have HAV := Lib.hid AV
      have HBV := Lib.hid BV
      have HC := Lib.hid (And.intro hca (And.intro hcb (And.intro hco hoc)))
      clear AV BV OV ocell hca hcb hco hoc
      go_wp2
      go_loopg [7, 8, 9] lx.length (fun gg s7 s8 s9 w5 => ∃ (kk : Nat) (nm : ByteArray) (b : Bool), s7 = .string nm ∧ s8 = .bool b ∧ s9 = .int .i64 kk ∧ kk ≤ lx.length ∧ lx.length - kk ≤ gg ∧ Hid (Kp0 wr w5) ∧ ((b = false ∧ Hid (firstS (lx.take kk) ly = none)) ∨ (b = true ∧ Hid (firstS lx ly = some nm))))
      case atStart => exact ⟨0, _, false, rfl, rfl, rfl, Nat.zero_le _, by omega, Lib.hid (Kp.refl _ _), .inl ⟨rfl, Lib.hid rfl⟩⟩
      case round =>
        obtain ⟨kk, nm, b, rfl, rfl, rfl, hkk, hgg, HK5, hcase⟩ := hrel
        rename_i w5
        have hca := HK5.out.cell HC.out.1 (fun h => h)
        have hcb := HK5.out.cell HC.out.2.1 (fun h => h)
        have hco := HK5.out.cell HC.out.2.2.1 (fun h => h)
        have hoc := HK5.out.cell HC.out.2.2.2 (fun h => h)
        have RX := HAV.out.keep0 HK5.out
        have HY := Lib.hid (HBV.out.keep0 HK5.out)
        rcases hcase with ⟨rfl, HN⟩ | ⟨rfl, HN⟩
        · by_cases hl : kk < lx.length
          · obtain ⟨b1, o1, d1, e1, _, _, cell1⟩ := RX.posS (by omega)
            simp only [Value.slice.injEq] at e1
            obtain ⟨rfl, _, rfl⟩ := e1
            have ck1 := cell1 kk hl
            obtain ⟨x, hx⟩ : ∃ x, x = lx[kk]'hl := ⟨_, rfl⟩
            rw [← hx] at ck1
            have HX := Lib.hid hx
            have i1 : (kk : Int) < (lx.length : Int) := by omega
            clear cell1 RX hx
            cases hb : hasS ly x
            · have HB := Lib.hid hb
              clear hb
              go_wp2_with (go_at_call 53; refine (refHas_any bv ly x _ HY.out).mono ?_; rintro e w6 ⟨rfl, hk6⟩; have HK6 := Lib.hid hk6; clear hk6; rw [HB.out])
              go_roundg (lx.length - (kk + 1))
              case measure => omega
              case rel => exact ⟨kk + 1, x, false, rfl, rfl, by go_num, by omega, by omega, Lib.hid (HK5.out.tr HK6.out), .inl ⟨rfl, Lib.hid (findS_take hl HN.out (by rw [← HX.out]; exact HB.out))⟩⟩
            · have HB := Lib.hid hb
              clear hb
              go_wp2_with (go_at_call 53; refine (refHas_any bv ly x _ HY.out).mono ?_; rintro e w6 ⟨rfl, hk6⟩; have HK6 := Lib.hid hk6; clear hk6; rw [HB.out])
              go_roundg (lx.length - (kk + 1))
              case measure => omega
              case rel => exact ⟨kk + 1, x, true, rfl, rfl, by go_num, by omega, by omega, Lib.hid (HK5.out.tr HK6.out), .inr ⟨rfl, Lib.hid (by rw [findS_hit hl HN.out (by rw [← HX.out]; exact HB.out), ← HX.out])⟩⟩
          · have HNO := Lib.hid (agreeK_no (n := 8) (k := k) (la := la) (lb := lb) (by rw [HOK.out]; exact okS_none (by have := HN.out; rwa [List.take_of_length_le (by omega)] at this)) h)
            clear RX
            go_wp2
            go_ret
            exact ⟨by rw [HNO.out]; rfl, HB4.out.kp.tr HK5.out⟩
        · have hos := okS_some (o := o) HN.out
          cases hb : (nm.toList == o.toList)
          · have HNO := Lib.hid (agreeK_no (n := 8) (k := k) (la := la) (lb := lb) (by rw [HOK.out, hos]; exact hb) h)
            clear RX hos
            by_cases hl : kk < lx.length
            all_goals
              go_wp2
              go_ret
              exact ⟨by rw [HNO.out]; rfl, HB4.out.kp.tr HK5.out⟩
          · have HYE := Lib.hid (show agreeK la lb (k + 1) = true by rw [agreeK_succ, HF.out, HOK.out, hos]; exact hb)
            clear RX hos
            by_cases hl : kk < lx.length
            · go_wp2
              go_roundw
              case rel => exact ⟨k + 1, by go_num, by omega, HYE, HKR.out.tr HK5.out⟩
              case measure => simp [intOf]; omega
            · go_wp2
              go_roundw
              case rel => exact ⟨k + 1, by go_num, by omega, HYE, HKR.out.tr HK5.out⟩
              case measure => simp [intOf]; omega
    · obtain rfl : k = 8 := by omega
      go_wp2
      go_ret
      exact ⟨by rw [HF.out]; rfl, HB4.out.kp⟩
end Go.Proofs.YtikjcmhocihmcaaDoor
