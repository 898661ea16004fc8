/- Package model: Find; texts in lists. -/
import Derived.Test.YtmamcnhofgfolaaTrO
namespace Go.Proofs.Ytmamcnhofgfolaa
open Go Go.RowKit
set_option maxRecDepth 20000 in
theorem find1_any (d : PD) (a b c : Value) (nm : List UInt8) (gn : Nat) (w : World) (hb : Blk w gn 9 [.string (S nm)]) :
    Calls Try.prog 26 #[DefA d a b c, .pointer (some ⟨gn, 0, none⟩)] w fun e w' => e = .returned (.bool (d.nm == nm)) ∧ Kp0 w w' := by
  have HB := Lib.hid hb
  clear hb
  unfold DefA
  go_enter Try.func26, Try.ntmps26
  go_upto_region 1 with (fail)
  have HB2 : Hid (Blk (w.alloc (.cells (dvl d a b c).toArray 35)) w.heap.size 35 (dvl d a b c)) := Lib.hid (blk0 _ _ _)
  have HB1 : Hid (Blk (w.alloc (.cells (dvl d a b c).toArray 35)) gn 9 [.string (S nm)]) := Lib.hid (HB.out.kp0 ((Kp.refl _ _).alloc _))
  have HK : Hid (Kp0 w (w.alloc (.cells (dvl d a b c).toArray 35))) := Lib.hid ((Kp.refl _ _).alloc _)
  have hgx : (w.alloc (.cells #[.string (S d.nm), .int .i64 d.kd, .int .i64 d.ty, a, .bool d.mu, b, c] 35)) = (w.alloc (.cells (dvl d a b c).toArray 35)) := rfl
  rw [hgx]
  clear hgx
  generalize w.alloc (.cells (dvl d a b c).toArray 35) = w1 at HB1 HB2 HK ⊢
  have c0 := HB2.out.cellV 0 (v := .string (S d.nm)) rfl
  have c1 := HB1.out.cellV 0 (v := .string (S nm)) rfl
  cases hq : ((S d.nm).toList == (S nm).toList)
  all_goals
    have HQ : Hid ((d.nm == nm) = _) := Lib.hid ((S_beq d.nm nm).symm.trans hq)
    go_wp2
    go_ret
    exact ⟨by rw [HQ.out]; rfl, HK.out⟩
set_option maxRecDepth 20000 in
set_option maxHeartbeats 1000000 in
theorem idxD_any {F : Nat → Prop} (ds : List PD) (v : Value) (nm : List UInt8) (gn : Nat) (w : World) (hv : RowD F w v ds) (hb : Blk w gn 9 [.string (S nm)]) :
    Calls Try.prog 25 #[v, .func (.func 26) #[] #[.pointer (some ⟨gn, 0, none⟩)]] w fun e w' => e = .returned (.int .i64 (plI (plc ds nm))) ∧ Kp0 w w' := by
  have HV := Lib.hid hv
  have HB := Lib.hid hb
  obtain ⟨ao, cap, rfl, _, _, _⟩ := hv.shape
  clear hv hb
  go_enter Try.func25, Try.ntmps25
  go_wp2
  go_loopw [8] (fun i wr => ∃ k : Nat, i = .int .i64 k ∧ k ≤ ds.length ∧ Hid (NoneTo (fun d => d.nm == nm) ds k) ∧ Kp0 w wr) (fun i _ => ds.length - (intOf i).toNat)
  case atStart => exact ⟨0, rfl, Nat.zero_le _, Lib.hid NoneTo.zero, Kp.refl _ _⟩
  case round =>
    obtain ⟨k, rfl, hk, HF, hkp⟩ := hrel
    have HK := Lib.hid hkp
    have R1 := HV.out.kp0 hkp
    clear hkp
    by_cases h : k < ds.length
    · obtain ⟨b1, o1, d1, v1, v2, v3, e1, _, _, c0, c1, c2, c3, c4, c5, c6, _⟩ := R1.at k h
      simp only [Value.slice.injEq] at e1
      obtain ⟨rfl, _, rfl⟩ := e1
      have i1 : (k : Int) < (ds.length : Int) := by omega
      have HS1 : Hid (((ds[k]'h).nm == nm) = true → plc ds nm = some k) := Lib.hid (fun e => HF.out.hit h e)
      have HS2 : Hid (((ds[k]'h).nm == nm) = false → NoneTo (fun d => d.nm == nm) ds (k + 1)) := Lib.hid (fun e => HF.out.step h e)
      generalize ds[k]'h = x at c0 c1 c2 c3 c4 c5 c6 HS1 HS2
      clear R1
      cases hb : (x.nm == nm)
      · have HB1 := Lib.hid (HS2.out hb)
        go_wp2_with (go_at_call 26; refine (find1_any x v1 v2 v3 nm gn _ (HB.out.kp0 HK.out)).mono ?_; rw [hb]; rintro e w2 ⟨rfl, hk2⟩; have HK2 := Lib.hid (HK.out.tr hk2); clear hk2)
        go_roundw
        case rel => exact ⟨k + 1, by go_num, by omega, HB1, HK2.out⟩
        case measure => simp [intOf]; omega
      · have HB1 := Lib.hid (HS1.out hb)
        go_wp2_with (go_at_call 26; refine (find1_any x v1 v2 v3 nm gn _ (HB.out.kp0 HK.out)).mono ?_; rw [hb]; rintro e w2 ⟨rfl, hk2⟩; have HK2 := Lib.hid (HK.out.tr hk2); clear hk2)
        go_ret
        exact ⟨by rw [HB1.out]; rfl, HK2.out⟩
    · have HN : Hid (plc ds nm = none) := Lib.hid (HF.out.none (by omega))
      clear R1
      go_wp2
      go_ret
      exact ⟨by rw [HN.out]; rfl, HK.out⟩
set_option maxRecDepth 20000 in
theorem find_any {F : Nat → Prop} (ds : List PD) (v : Value) (nm : List UInt8) (w : World) (hv : RowD F w v ds) :
    Calls Try.prog 17 #[v, .string (S nm)] w fun e w' => e = .returned (.int .i64 (plI (plc ds nm))) ∧ Kp0 w w' := by
  have HV := Lib.hid hv
  clear hv
  go_enter Try.func17, Try.ntmps17
  go_upto_region 1 with (fail)
  have HB : Hid (Blk (w.alloc (.cells #[.string (S nm)] 9)) w.heap.size 9 [.string (S nm)]) := Lib.hid (blk0 _ _ _)
  have HK : Hid (Kp0 w (w.alloc (.cells #[.string (S nm)] 9))) := Lib.hid ((Kp.refl _ _).alloc _)
  generalize w.alloc (.cells #[.string (S nm)] 9) = w1 at HB HK ⊢
  go_wp2_with (go_at_call 25; refine (idxD_any ds v nm w.heap.size _ (HV.out.kp0 HK.out) HB.out).mono ?_; rintro e w2 ⟨rfl, hk2⟩; have HK2 := Lib.hid (HK.out.tr hk2); clear hk2)
  go_ret
  exact ⟨rfl, HK2.out⟩
set_option maxHeartbeats 1000000 in
theorem indexT_any {F : Nat → Prop} (l : List (List UInt8)) (v : Value) (s : List UInt8) (w : World) (hv : RdF F w 1 v l.length (txs l)) :
    Calls Try.prog 51 #[v, .string (S s)] w fun e w' => e = .returned (.int .i64 (plI (l.findIdx? fun x => s == x))) ∧ Kp0 w w' := by
  have HV := Lib.hid hv
  obtain ⟨ao, cap, rfl, hc1, hc2, hc3⟩ := hv.shape
  clear hv
  go_enter Try.func51, Try.ntmps51
  go_wp2
  go_loopw [8] (fun i wr => ∃ k : Nat, i = .int .i64 k ∧ k ≤ l.length ∧ Hid (NoneTo (fun x => s == x) l k) ∧ Kp0 w wr) (fun i _ => l.length - (intOf i).toNat)
  case atStart => exact ⟨0, rfl, Nat.zero_le _, Lib.hid NoneTo.zero, Kp.refl _ _⟩
  case round =>
    obtain ⟨k, rfl, hk, HF, hkp⟩ := hrel
    have HK := Lib.hid hkp
    have R1 := HV.out.kp0 hkp
    clear hkp
    by_cases h : k < l.length
    · obtain ⟨b1, o1, d1, e1, _, _, c0⟩ := R1.atT k h
      simp only [Value.slice.injEq] at e1
      obtain ⟨rfl, _, rfl⟩ := e1
      have i1 : (k : Int) < (l.length : Int) := by omega
      obtain ⟨x, hx⟩ : ∃ x, x = (l[k]'h) := ⟨_, rfl⟩
      rw [← hx] at c0
      have HX := Lib.hid hx
      clear R1 hx
      cases hb : ((S s).toList == (S x).toList)
      · have HB : Hid ((s == x) = false) := Lib.hid (by rw [← S_beq]; exact hb)
        go_wp2
        go_roundw
        case rel => exact ⟨k + 1, by go_num, by omega, Lib.hid (HF.out.step h (by rw [← HX.out]; exact HB.out)), HK.out⟩
        case measure => simp [intOf]; omega
      · have HB : Hid ((s == x) = true) := Lib.hid (by rw [← S_beq]; exact hb)
        go_wp2
        go_ret
        exact ⟨by rw [HF.out.hit h (by rw [← HX.out]; exact HB.out)]; rfl, HK.out⟩
    · have HN : Hid ((l.findIdx? fun x => s == x) = none) := Lib.hid (HF.out.none (by omega))
      clear R1
      go_wp2
      go_ret
      exact ⟨by rw [HN.out]; rfl, HK.out⟩
theorem hasT_idx (l : List (List UInt8)) (s : List UInt8) : hasT l s = (l.findIdx? fun x => s == x).isSome := by
  unfold hasT
  rw [Bool.eq_iff_iff, List.any_eq_true, List.findIdx?_isSome, List.any_eq_true]
  constructor
  · rintro ⟨x, h1, h2⟩
    exact ⟨x, h1, by rw [beq_turn]; exact h2⟩
  · rintro ⟨x, h1, h2⟩
    exact ⟨x, h1, by rw [beq_turn]; exact h2⟩
theorem containsT_any {F : Nat → Prop} (l : List (List UInt8)) (v : Value) (s : List UInt8) (w : World) (hv : RdF F w 1 v l.length (txs l)) :
    Calls Try.prog 47 #[v, .string (S s)] w fun e w' => e = .returned (.bool (hasT l s)) ∧ Kp0 w w' := by
  have HV := Lib.hid hv
  have HX := Lib.hid (hasT_idx l s)
  clear hv
  go_enter Try.func47, Try.ntmps47
  generalize hi : (l.findIdx? fun x => s == x) = i at HX
  have HI := Lib.hid hi
  clear hi
  cases i with
  | none =>
    have f1 : ¬ (0 : Int) ≤ plI none := by decide
    go_wp2_with (go_at_call 51; refine (indexT_any l v s _ HV.out).mono ?_; rw [HI.out]; rintro e w2 ⟨rfl, hk2⟩; have HK2 := Lib.hid hk2; clear hk2)
    go_ret
    exact ⟨by rw [HX.out]; rfl, HK2.out⟩
  | some j =>
    have f1 : (0 : Int) ≤ plI (some j) := by simp only [plI]; omega
    go_wp2_with (go_at_call 51; refine (indexT_any l v s _ HV.out).mono ?_; rw [HI.out]; rintro e w2 ⟨rfl, hk2⟩; have HK2 := Lib.hid hk2; clear hk2)
    go_ret
    exact ⟨by rw [HX.out]; rfl, HK2.out⟩
end Go.Proofs.Ytmamcnhofgfolaa
