/- Package sieve: a leaf of a value among a node's own nodes. -/
import Derived.Test.YtmamcnhofgfolaaTrP
namespace Go.Proofs.Ytmamcnhofgfolaa
open Go Go.RowKit
def leafP (nm vl : List UInt8) (x : PN) : Bool := x.nm == nm && x.vl == vl
def hasL (ns : List PN) (nm vl : List UInt8) : Bool := (ns.findIdx? (leafP nm vl)).isSome
set_option maxRecDepth 20000 in
theorem has1_any (x : PN) (kv : Value) (nm vl : List UInt8) (gn gv : Nat) (w : World) (hb : Blk w gn 9 [.string (S nm)]) (hv : Blk w gv 9 [.string (S vl)]) :
    Calls Try.prog 50 #[NodA x kv, .pointer (some ⟨gn, 0, none⟩), .pointer (some ⟨gv, 0, none⟩)] w fun e w' => e = .returned (.bool (leafP nm vl x)) ∧ Kp0 w w' := by
  have HB := Lib.hid hb
  have HV := Lib.hid hv
  clear hb hv
  unfold NodA
  go_enter Try.func50, Try.ntmps50
  go_upto_region 1 with (fail)
  have HB2 : Hid (Blk (w.alloc (.cells (nvl x kv).toArray 40)) w.heap.size 40 (nvl x kv)) := Lib.hid (blk0 _ _ _)
  have HB1 := Lib.hid (HB.out.kp0 ((Kp.refl _ _).alloc (.cells (nvl x kv).toArray 40)))
  have HV1 := Lib.hid (HV.out.kp0 ((Kp.refl _ _).alloc (.cells (nvl x kv).toArray 40)))
  have HK : Hid (Kp0 w (w.alloc (.cells (nvl x kv).toArray 40))) := Lib.hid ((Kp.refl _ _).alloc _)
  have hgx : (w.alloc (.cells #[.string (S x.nm), .string (S x.vl), kv] 40)) = (w.alloc (.cells (nvl x kv).toArray 40)) := rfl
  rw [hgx]
  clear hgx
  generalize w.alloc (.cells (nvl x kv).toArray 40) = w1 at HB1 HB2 HV1 HK ⊢
  have c0 := HB2.out.cellV 0 (v := .string (S x.nm)) rfl
  have c1 := HB2.out.cellV 1 (v := .string (S x.vl)) rfl
  have n0 := HB1.out.cellV 0 (v := .string (S nm)) rfl
  have v0 := HV1.out.cellV 0 (v := .string (S vl)) rfl
  cases hq : ((S x.nm).toList == (S nm).toList)
  · have HQ : Hid (leafP nm vl x = false) := Lib.hid (by unfold leafP; rw [← S_beq, hq]; rfl)
    go_wp2
    go_ret
    exact ⟨by rw [HQ.out]; rfl, HK.out⟩
  · cases hr : ((S x.vl).toList == (S vl).toList)
    · have HQ : Hid (leafP nm vl x = false) := Lib.hid (by unfold leafP; rw [← S_beq, hq, ← S_beq, hr]; rfl)
      go_wp2
      go_ret
      exact ⟨by rw [HQ.out]; rfl, HK.out⟩
    · have HQ : Hid (leafP nm vl x = true) := Lib.hid (by unfold leafP; rw [← S_beq, hq, ← S_beq, hr]; rfl)
      go_wp2
      go_ret
      exact ⟨by rw [HQ.out]; rfl, HK.out⟩
set_option maxRecDepth 20000 in
set_option maxHeartbeats 1000000 in
theorem idxL_any {F : Nat → Prop} (nm vl : List UInt8) (gn gv : Nat) (ns : List PN) (v : Value) (w : World) (hv : RowN F w v ns) (hb : Blk w gn 9 [.string (S nm)]) (hw : Blk w gv 9 [.string (S vl)]) :
    Calls Try.prog 38 #[v, .func (.func 50) #[] #[.pointer (some ⟨gn, 0, none⟩), .pointer (some ⟨gv, 0, none⟩)]] w fun e w' => e = .returned (.int .i64 (plI (ns.findIdx? (leafP nm vl)))) ∧ Kp0 w w' := by
  have HV := Lib.hid hv
  have HB := Lib.hid hb
  have HW := Lib.hid hw
  obtain ⟨ao, cap, rfl, _, _, _⟩ := hv.shape
  clear hv hb hw
  go_enter Try.func38, Try.ntmps38
  go_wp2
  go_loopw [8] (fun i wr => ∃ k : Nat, i = .int .i64 k ∧ k ≤ ns.length ∧ Hid (NoneTo (leafP nm vl) ns k) ∧ Kp0 w wr) (fun i _ => ns.length - (intOf i).toNat)
  case atStart => exact ⟨0, rfl, Nat.zero_le _, Lib.hid NoneTo.zero, Kp.refl _ _⟩
  case round =>
    obtain ⟨k, rfl, hk, HF, hkp⟩ := hrel
    have HK := Lib.hid hkp
    have R1 := HV.out.kp0 hkp
    clear hkp
    by_cases h : k < ns.length
    · obtain ⟨b1, o1, d1, kv, e1, _, _, c0, c1, c2, hkv, _⟩ := R1.at k h
      simp only [Value.slice.injEq] at e1
      obtain ⟨rfl, _, rfl⟩ := e1
      have i1 : (k : Int) < (ns.length : Int) := by omega
      have HKV := Lib.hid hkv
      have HS1 : Hid ((leafP nm vl) (ns[k]'h) = true → ns.findIdx? (leafP nm vl) = some k) := Lib.hid (fun e => HF.out.hit h e)
      have HS2 : Hid ((leafP nm vl) (ns[k]'h) = false → NoneTo (leafP nm vl) ns (k + 1)) := Lib.hid (fun e => HF.out.step h e)
      generalize ns[k]'h = x at c0 c1 c2 hkv HKV HS1 HS2
      clear R1 hkv
      cases hb : ((leafP nm vl) x : Bool)
      · have HB1 := Lib.hid (HS2.out hb)
        have HBB := Lib.hid hb
        clear hb
        go_wp2_with (go_at_call 50; refine (has1_any x kv nm vl gn gv _ (HB.out.kp0 HK.out) (HW.out.kp0 HK.out)).mono ?_; rw [show _ = _ from HBB.out]; rintro e w2 ⟨rfl, hk2⟩; have HK2 := Lib.hid (HK.out.tr hk2); clear hk2)
        go_roundw
        case rel => exact ⟨k + 1, by go_num, by omega, HB1, HK2.out⟩
        case measure => simp [intOf]; omega
      · have HB1 := Lib.hid (HS1.out hb)
        have HBB := Lib.hid hb
        clear hb
        go_wp2_with (go_at_call 50; refine (has1_any x kv nm vl gn gv _ (HB.out.kp0 HK.out) (HW.out.kp0 HK.out)).mono ?_; rw [show _ = _ from HBB.out]; rintro e w2 ⟨rfl, hk2⟩; have HK2 := Lib.hid (HK.out.tr hk2); clear hk2)
        go_ret
        exact ⟨by rw [HB1.out]; rfl, HK2.out⟩
    · have HN : Hid (ns.findIdx? (leafP nm vl) = none) := Lib.hid (HF.out.none (by omega))
      clear R1
      go_wp2
      go_ret
      exact ⟨by rw [HN.out]; rfl, HK.out⟩
set_option maxRecDepth 20000 in
theorem containsL_any {F : Nat → Prop} (nm vl : List UInt8) (gn gv : Nat) (ns : List PN) (v : Value) (w : World) (hv : RowN F w v ns) (hb : Blk w gn 9 [.string (S nm)]) (hw : Blk w gv 9 [.string (S vl)]) :
    Calls Try.prog 49 #[v, .func (.func 50) #[] #[.pointer (some ⟨gn, 0, none⟩), .pointer (some ⟨gv, 0, none⟩)]] w fun e w' => e = .returned (.bool (hasL ns nm vl)) ∧ Kp0 w w' := by
  have HV := Lib.hid hv
  have HB := Lib.hid hb
  have HW := Lib.hid hw
  clear hv hb hw
  go_enter Try.func49, Try.ntmps49
  have HX : Hid (hasL ns nm vl = (ns.findIdx? (leafP nm vl)).isSome) := Lib.hid rfl
  generalize hi : ns.findIdx? (leafP nm vl) = i at HX
  have HI := Lib.hid hi
  clear hi
  cases i with
  | none =>
    have f1 : ¬ (0 : Int) ≤ plI none := by decide
    go_wp2_with (go_at_call 38; refine (idxL_any nm vl gn gv ns v _ HV.out HB.out HW.out).mono ?_; rw [HI.out]; rintro e w2 ⟨rfl, hk2⟩; have HK2 := Lib.hid hk2; clear hk2)
    go_ret
    exact ⟨by rw [HX.out]; rfl, HK2.out⟩
  | some j =>
    have f1 : (0 : Int) ≤ plI (some j) := by simp only [plI]; omega
    go_wp2_with (go_at_call 38; refine (idxL_any nm vl gn gv ns v _ HV.out HB.out HW.out).mono ?_; rw [HI.out]; rintro e w2 ⟨rfl, hk2⟩; have HK2 := Lib.hid hk2; clear hk2)
    go_ret
    exact ⟨by rw [HX.out]; rfl, HK2.out⟩
set_option maxRecDepth 20000 in
theorem hasL_any {F : Nat → Prop} (n : PN) (kv : Value) (nm vl : List UInt8) (w : World) (hv : RowN F w kv n.ks) :
    Calls Try.prog 46 #[NodA n kv, .string (S nm), .string (S vl)] w fun e w' => e = .returned (.bool (hasL n.ks nm vl)) ∧ Kp0 w w' := by
  have HV := Lib.hid hv
  clear hv
  unfold NodA
  go_enter Try.func46, Try.ntmps46
  go_upto_region 1 with (fail)
  have HB : Hid (Bks w (((w.alloc (.cells #[.string (S n.nm), .string (S n.vl), kv] 40)).alloc (.cells #[.string (S nm)] 9)).alloc (.cells #[.string (S vl)] 9)) [(w.heap.size, 40, nvl n kv), (w.heap.size + 1, 9, [.string (S nm)]), (w.heap.size + 1 + 1, 9, [.string (S vl)])]) :=
    Lib.hid ((((Bks.nil w).push 40 (nvl n kv) rfl).push 9 [.string (S nm)] (g := w.heap.size + 1) (by simp)).push 9 [.string (S vl)] (g := w.heap.size + 1 + 1) (by simp))
  generalize ((w.alloc (.cells #[.string (S n.nm), .string (S n.vl), kv] 40)).alloc (.cells #[.string (S nm)] 9)).alloc (.cells #[.string (S vl)] 9) = w1 at HB ⊢
  obtain ⟨g5, hg5⟩ : ∃ x, x = w.heap.size + 1 + 1 := ⟨_, rfl⟩
  obtain ⟨g4, hg4⟩ : ∃ x, x = w.heap.size + 1 := ⟨_, rfl⟩
  obtain ⟨g3, hg3⟩ : ∃ x, x = w.heap.size := ⟨_, rfl⟩
  rw [← hg5, ← hg4, ← hg3] at HB
  rw [← hg5, ← hg4, ← hg3]
  clear hg5 hg4 hg3
  have c2 := (HB.out.at 0 rfl).cellV 2 (v := kv) rfl
  go_wp2_with (go_at_call 49; refine (containsL_any nm vl g4 g5 n.ks kv _ (HV.out.kp0 HB.out.kp) (HB.out.at 1 rfl) (HB.out.at 2 rfl)).mono ?_; rintro e w2 ⟨rfl, hk2⟩; have HK2 := Lib.hid (HB.out.kp.tr hk2); clear hk2)
  go_ret
  exact ⟨rfl, HK2.out⟩
end Go.Proofs.Ytmamcnhofgfolaa
