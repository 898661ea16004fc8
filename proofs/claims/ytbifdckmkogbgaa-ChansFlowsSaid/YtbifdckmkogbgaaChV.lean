/- The laws of package chans: their opening. -/
import Derived.Test.YtbifdckmkogbgaaChQ
namespace Go.Proofs.Ytbifdckmkogbgaa
open Go Go.RowKit
def takeOkB (c : Ch) : Bool :=
  decide (c.nu < 4294967296) && decide (c.wi ≤ 2147483647) && decide (c.mo ≤ 2147483647) && (decide (c.st ≠ 2) || decide (1 ≤ c.mo)) && decide (c.wa.length ≤ 30000000) && decide (c.out.length + c.wa.length ≤ 79000000) && decide (c.ca.length ≤ 29000000) && decide (c.ro ≤ 2147483647)
theorem takeOk_of {c : Ch} (h : takeOkB c = true) : TakeOk c := by
  unfold takeOkB at h
  simp only [Bool.and_eq_true, Bool.or_eq_true, decide_eq_true_eq] at h
  obtain ⟨⟨⟨⟨⟨⟨⟨h1, h2⟩, h3⟩, h4⟩, h5⟩, h6⟩, h7⟩, h8⟩ := h
  exact ⟨h1, h2, h3, fun e => h4.elim (fun h => absurd e h) id, h5, h6, h7, h8⟩
def carryOkB (x : Ch × Ch) : Bool := (List.range x.1.out.length).all fun j => takeOkB (takesC x.2 (x.1.out.take j))
theorem carryOk_of {x : Ch × Ch} (h : carryOkB x = true) : ∀ k, k < x.1.out.length → TakeOk (takesC x.2 (x.1.out.take k)) := fun k hk => takeOk_of (List.all_eq_true.1 h k (List.mem_range.2 hk))
def pair0 : Ch × Ch := ((beginS (newS false)).1, newS true)
def pairA : Ch := ⟨false, 2, true, 0, 4096, 512, 4096, [], [], [], false, false⟩
def pairB : Ch := ⟨true, 2, true, 0, 4096, 512, 4096, [], [], [], false, false⟩
def seqS : Nat → Ch × Ch
  | 0 => pair0
  | k + 1 => roundS (seqS k)
theorem seq_4 : seqS 4 = (pairA, pairB) := by decide +kernel
theorem seq_ok : ∀ k, k < 4 → carryOkB (seqS k) = true ∧ carryOkB ((carryS (seqS k).1 (seqS k).2).2, (carryS (seqS k).1 (seqS k).2).1) = true := by decide +kernel
theorem begin_ok : (beginS (newS false)).2 = 0 := by decide +kernel
theorem kpG {w w1 w2 : World} (h : Kp0 w w1) (hk : Kp (GE w.heap.size) w1 w2) : Kp0 w w2 := h.trans hk (fun _ _ h => h) (fun i hi h2 => by have h3 : w.heap.size ≤ i := h2; omega)
/-- The two ends, after so many rounds. -/
structure Sq (w wr : World) (ba bb k : Nat) : Prop where
  p : Pair w.heap.size wr ba bb (seqS k)
  k : Kp0 w wr
theorem sq_start {w w1 w2 w3 : World} {e : Ending} (hc1 : ∀ B, B ≤ w.heap.size → Cm B w1 w.heap.size (fun i => i = w.heap.size) (newS false)) (hk1 : Kp0 w w1) (hc2 : ∀ B, B ≤ w1.heap.size → Cm B w2 w1.heap.size (fun i => i = w1.heap.size) (newS true)) (hk2 : Kp0 w1 w2)
    (h3 : ErrP w.heap.size w.heap.size (fun i => i = w.heap.size) w2 (beginS (newS false)) e w3) : e = .returned (.int .i64 0) ∧ Sq w w3 w.heap.size w1.heap.size 0 := by
  have hA := (hc1 _ (Nat.le_refl _))
  have hlt := hA.fB _ rfl
  obtain ⟨he, hp⟩ := h3
  have hd : ∀ i, i = w.heap.size → ¬ i = w1.heap.size := fun i e1 e2 => by omega
  have hk := (hA.kp0 hk2).kge hp.choose_spec.2.2
  exact ⟨by rw [he, begin_ok]; rfl, Pair.first (x := (newS false, newS true)) (hA.kp0 hk2) (hc2 _ hk1.size) hd hp, kpG (hk1.tr hk2) hk⟩
theorem Sq.carry {w wr w1 w2 : World} {ba bb k : Nat} {e1 e2 : Ending} (h : Sq w wr ba bb k) (h1 : CarryP w.heap.size ba bb (carryS (seqS k).1 (seqS k).2) wr e1 w1) (h2 : CarryP w.heap.size bb ba (carryS (carryS (seqS k).1 (seqS k).2).2 (carryS (seqS k).1 (seqS k).2).1) w1 e2 w2) : Sq w w2 ba bb (k + 1) :=
  ⟨h2.2.1.swap, kpG (kpG h.k h1.2.2) h2.2.2⟩
theorem fit_any (w : World) : Calls Try.prog 8 #[] w fun e w' => e = .returned (.bool true) ∧ Kp0 w w' := by
  go_enter Try.func8, Try.ntmps8
  go_wp2_with fail
  refine (new_any false _).mono ?_
  rintro e w1 ⟨rfl, hc1, hk1⟩
  have HC1 := Lib.hid hc1
  have HK1 := Lib.hid hk1
  clear hc1 hk1
  go_wp2_with fail
  refine (new_any true _).mono ?_
  rintro e w2 ⟨rfl, hc2, hk2⟩
  have HC2 := Lib.hid hc2
  have HK2 := Lib.hid hk2
  clear hc2 hk2
  go_wp2_with fail
  refine (begin_any w.heap.size w.heap.size _ _ _ ((HC1.out _ (Nat.le_refl _)).kp0 HK2.out) (by decide)).mono ?_
  rintro e w3 h3
  obtain ⟨rfl, hs⟩ := sq_start HC1.out HK1.out HC2.out HK2.out h3
  have HS0 := Lib.hid hs
  clear h3 hs HC1 HK1 HC2 HK2
  generalize w.heap.size = ba at HS0 ⊢
  generalize w1.heap.size = bb at HS0 ⊢
  go_wp2
  go_loopg [8] 4 (fun gg i wr => ∃ k : Nat, i = .int .i64 k ∧ gg = 4 - k ∧ k ≤ 4 ∧ Sq w wr ba bb k)
  case atStart => exact ⟨0, rfl, rfl, by omega, HS0.out⟩
  case round =>
    obtain ⟨k, rfl, rfl, hk, hs⟩ := hrel
    have HS := Lib.hid hs
    clear hs HS0
    by_cases hlt : k < 4
    · have hlti : (k : Int) < 4 := by omega
      have HOK := Lib.hid (seq_ok k hlt)
      have HE := Lib.hid hlt
      clear hlt
      go_wp2_with fail
      refine (carry_any w.heap.size ba bb (seqS k) _ HS.out.p (carryOk_of HOK.out.1)).mono ?_
      rintro e w4 ⟨rfl, h4⟩
      have H4 := Lib.hid h4
      clear h4
      go_wp2_with fail
      refine (carry_any w.heap.size bb ba _ _ H4.out.1.swap (carryOk_of HOK.out.2)).mono ?_
      rintro e w5 ⟨rfl, h5⟩
      have H5 := Lib.hid (HS.out.carry ⟨rfl, H4.out⟩ ⟨rfl, h5⟩)
      clear h5 H4 HS
      go_wp2
      go_roundg (4 - (k + 1))
      case measure => have := HE.out; omega
      case rel => exact ⟨k + 1, by go_num, rfl, HE.out, H5.out⟩
    · obtain rfl : k = 4 := by omega
      have hp := HS.out.p
      rw [seq_4] at hp
      obtain ⟨Fa, Fb, ha, hb, _⟩ := hp.p
      have HA := Lib.hid ha
      have HB := Lib.hid hb
      clear hk hlt hp ha hb
      simp only [] at HA HB
      go_wp2_with fail
      refine (state_any _ ba Fa _ _ HA.out).mono ?_
      rintro e w4 ⟨rfl, rfl⟩
      go_wp2_with fail
      refine (state_any _ bb Fb _ _ HB.out).mono ?_
      rintro e w4 ⟨rfl, rfl⟩
      go_wp2_with fail
      refine (ready_any _ ba Fa _ _ HA.out).mono ?_
      rintro e w4 ⟨rfl, rfl⟩
      go_wp2_with fail
      refine (ready_any _ bb Fb _ _ HB.out).mono ?_
      rintro e w4 ⟨rfl, rfl⟩
      go_wp2
      go_ret
      exact ⟨rfl, HS.out.k⟩
end Go.Proofs.Ytbifdckmkogbgaa
