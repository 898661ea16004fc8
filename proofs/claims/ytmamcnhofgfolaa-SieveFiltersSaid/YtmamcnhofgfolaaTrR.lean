/- Package sieve: what is there to match; what an element asks of a node. -/
import Derived.Test.YtmamcnhofgfolaaTrQ
namespace Go.Proofs.Ytmamcnhofgfolaa
open Go Go.RowKit
mutual
theorem ElV.keepL {F G : Nat → Prop} {w w1 : World} {S0 : Nat → Prop} (hk : Kp S0 w w1) (hs : ∀ i, F i → i < w.heap.size → ¬ S0 i) (hF : ∀ i, F i → i < w.heap.size → G i) : ∀ (e : PE) (c0 c1 c2 c3 c4 : Value), ElV F w e c0 c1 c2 c3 c4 → ElV G w1 e c0 c1 c2 c3 c4
  | .mk sp nm a tx ks, c0, c1, c2, c3, c4, h => by
    unfold ElV at h ⊢
    obtain ⟨h0, h1, h2, h3, cs, h4, h5⟩ := h
    exact ⟨h0, h1, (h2.lt.keep hk (fun i hi => hs i hi.1 hi.2)).mono (fun i hi => hF i hi.1 hi.2), h3, cs, (h4.lt.keep hk (fun i hi => hs i hi.1 hi.2)).mono (fun i hi => hF i hi.1 hi.2), ElsV.keepL hk hs hF ks cs h5⟩
theorem ElsV.keepL {F G : Nat → Prop} {w w1 : World} {S0 : Nat → Prop} (hk : Kp S0 w w1) (hs : ∀ i, F i → i < w.heap.size → ¬ S0 i) (hF : ∀ i, F i → i < w.heap.size → G i) : ∀ (es : List PE) (cs : List Value), ElsV F w es cs → ElsV G w1 es cs
  | [], cs, h => by unfold ElsV at h ⊢; exact h
  | e :: es, cs, h => by
    unfold ElsV at h ⊢
    obtain ⟨c0, c1, c2, c3, c4, rest, h1, h2, h3⟩ := h
    exact ⟨c0, c1, c2, c3, c4, rest, h1, ElV.keepL hk hs hF e _ _ _ _ _ h2, ElsV.keepL hk hs hF es rest h3⟩
end
/-- Is an element there to match a leaf of the definition? -/
def isMatch (d : PD) (e : PE) : Bool := match plc d.ks e.nm with
  | some i => match d.ks[i]? with
    | some k => k.kd == 3 && !e.tx.isEmpty
    | none => false
  | none => false
def ElmA (e : PE) (a c : Value) : Value := .agg #[.string (S e.sp), .string (S e.nm), a, .string (S e.tx), c]
theorem tx_empty (t : List UInt8) : ((S t).toList == []) = t.isEmpty := by
  rw [S_toList]
  cases t <;> rfl
set_option maxRecDepth 20000 in
set_option maxHeartbeats 2000000 in
theorem matches_any {F G : Nat → Prop} (d : PD) (e : PE) (da db dc ea ec : Value) (w : World) (hd : DfR F w d da db dc) (he : ElR G w e ea ec) :
    Calls Try.prog 45 #[DefA d da db dc, ElmA e ea ec] w fun r w' => r = .returned (.bool (isMatch d e)) ∧ Kp0 w w' := by
  have HD := Lib.hid hd
  obtain ⟨ko, kc, rfl, _, _, _⟩ := hd.ks.shape
  clear hd he
  unfold DefA ElmA
  go_enter Try.func45, Try.ntmps45
  go_upto_region 1 with (fail)
  have HB : Hid (Bks w ((w.alloc (.cells #[.string (S d.nm), .int .i64 d.kd, .int .i64 d.ty, da, .bool d.mu, db, .slice ko d.ks.length kc] 35)).alloc (.cells #[.string (S e.sp), .string (S e.nm), ea, .string (S e.tx), ec] 38)) [(w.heap.size, 35, dvl d da db (.slice ko d.ks.length kc)), (w.heap.size + 1, 38, evl e ea ec)]) :=
    Lib.hid (((Bks.nil w).push 35 (dvl d da db (.slice ko d.ks.length kc)) rfl).push 38 (evl e ea ec) (g := w.heap.size + 1) (by simp))
  generalize (w.alloc (.cells #[.string (S d.nm), .int .i64 d.kd, .int .i64 d.ty, da, .bool d.mu, db, .slice ko d.ks.length kc] 35)).alloc (.cells #[.string (S e.sp), .string (S e.nm), ea, .string (S e.tx), ec] 38) = w1 at HB ⊢
  obtain ⟨g3, hg3⟩ : ∃ x, x = w.heap.size + 1 := ⟨_, rfl⟩
  obtain ⟨g2, hg2⟩ : ∃ x, x = w.heap.size := ⟨_, rfl⟩
  rw [← hg3, ← hg2] at HB
  rw [← hg3, ← hg2]
  clear hg3 hg2
  have k6 := (HB.out.at 0 rfl).cellV 6 (v := .slice ko d.ks.length kc) rfl
  have e1 := (HB.out.at 1 rfl).cellV 1 (v := .string (S e.nm)) rfl
  obtain ⟨ks, hks⟩ : ∃ x, x = d.ks := ⟨_, rfl⟩
  have HM : Hid (isMatch d e = match plc ks e.nm with
    | some i => match ks[i]? with
      | some k => k.kd == 3 && !e.tx.isEmpty
      | none => false
    | none => false) := Lib.hid (by rw [hks]; rfl)
  have HKS : Hid (RowD F w (.slice ko ks.length kc) ks) := Lib.hid (by rw [hks]; exact HD.out.ks)
  rw [← hks] at k6 HB ⊢
  clear hks HD
  go_upto_region 2 with (go_at_call 17; refine (find_any ks _ e.nm _ (HKS.out.kp0 HB.out.kp)).mono ?_; rintro r w2 ⟨rfl, hk2⟩; have HK2 := Lib.hid hk2; clear hk2)
  have HB2 := Lib.hid (HB.out.kp0 HK2.out)
  have HKS2 := Lib.hid (HKS.out.kp0 (HB.out.kp.tr HK2.out))
  clear k6 e1
  have k6 := (HB2.out.at 0 rfl).cellV 6 (v := .slice ko ks.length kc) rfl
  have e3 := (HB2.out.at 1 rfl).cellV 3 (v := .string (S e.tx)) rfl
  generalize hp : plc ks e.nm = p at HM ⊢
  cases p with
  | none =>
    have f1 : ¬ (0 : Int) ≤ plI none := by decide
    clear hp
    go_wp2
    go_ret
    exact ⟨by rw [HM.out]; rfl, HB2.out.kp⟩
  | some i =>
    have hi := plc_lt hp
    have f1 : (0 : Int) ≤ (i : Int) := by omega
    have i1 : (i : Int) < (ks.length : Int) := by omega
    have HMI : Hid (isMatch d e = ((ks[i]'hi).kd == 3 && !e.tx.isEmpty)) := Lib.hid (by rw [HM.out]; simp only [List.getElem?_eq_getElem hi])
    obtain ⟨b1, o1, cap1, v1, v2, v3, e1, _, _, c0, c1, _⟩ := HKS2.out.at i hi
    simp only [Value.slice.injEq] at e1
    obtain ⟨rfl, _, rfl⟩ := e1
    rw [show plI (some i) = (i : Int) from rfl]
    clear hp HM
    generalize ks[i]'hi = x at c0 c1 HMI
    cases hq : (x.kd == 3)
    · have HN : Hid (isMatch d e = false) := Lib.hid (by rw [HMI.out, hq]; rfl)
      go_wp2
      go_ret
      exact ⟨by rw [HN.out]; rfl, HB2.out.kp⟩
    · cases ht : ((S e.tx).toList == [])
      all_goals
        have HN : Hid (isMatch d e = !_) := Lib.hid (show isMatch d e = !_ by rw [HMI.out, hq, ← tx_empty, ht]; exact Bool.true_and _)
        go_wp2
        go_ret
        exact ⟨by rw [HN.out]; rfl, HB2.out.kp⟩
end Go.Proofs.Ytmamcnhofgfolaa
