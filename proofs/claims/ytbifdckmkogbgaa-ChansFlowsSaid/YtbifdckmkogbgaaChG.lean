/- Channels: what is sent comes. Nothing of the program's text stands here. -/
import Derived.Test.YtbifdckmkogbgaaChF
namespace Go.Proofs.Ytbifdckmkogbgaa
open Go
theorem takeC_some {c : Ch} {p : List UInt8} {m : Msg} (h : readS p = some m) (hh : hearsS c m = true) : takeC c p = (heedS c m, 0) := by
  unfold takeC
  rw [h]
  exact if_pos hh
theorem takeC_deaf {c : Ch} {p : List UInt8} {m : Msg} (h : readS p = some m) (hh : hearsS c m = false) : takeC c p = (c, 3) := by
  unfold takeC
  rw [h]
  exact if_neg (by rw [hh]; decide)
theorem takeC_data {c : Ch} {s : List UInt8} (h1 : c.st = 2) (h2 : c.en = false) (h3 : s.length ≤ c.ro) (h4 : s.length ≤ 512) : takeC c (dataB 0 s) = ({ c with ro := c.ro - s.length, ca := c.ca ++ s }, 0) := by
  refine takeC_some (readS_data s (by omega)) ?_
  unfold hearsS hearsO
  rw [h1, h2]
  simp only [msg0]
  simp
  omega
theorem takesC_nil (c : Ch) : takesC c [] = c := rfl
theorem takesC_cons (c : Ch) (p : List UInt8) (l : List (List UInt8)) : takesC c (p :: l) = takesC (takeC c p).1 l := by unfold takesC; rw [List.foldl_cons]
theorem takesC_data : ∀ (cs : List (List UInt8)) (c : Ch), c.st = 2 → c.en = false → cs.flatten.length ≤ c.ro → (∀ x ∈ cs, x.length ≤ 512) → takesC c (cs.map (dataB 0)) = { c with ro := c.ro - cs.flatten.length, ca := c.ca ++ cs.flatten } := by
  intro cs
  induction cs with
  | nil => intro c _ _ _ _; simp [takesC]
  | cons s cs ih =>
    intro c h1 h2 h3 h4
    rw [List.flatten_cons, List.length_append] at h3
    have hd := takeC_data h1 h2 (s := s) (by omega) (h4 s (by simp))
    have e : takesC c ((s :: cs).map (dataB 0)) = takesC (takeC c (dataB 0 s)).1 (cs.map (dataB 0)) := by rw [List.map_cons, takesC_cons]
    rw [e, hd, ih _ (by exact h1) (by exact h2) (by show _ ≤ c.ro - s.length; omega) (fun x hx => h4 x (by simp [hx]))]
    simp only [List.flatten_cons, List.length_append, List.append_assoc, Nat.sub_sub]
theorem takesC_app (c : Ch) (l r : List (List UInt8)) : takesC c (l ++ r) = takesC (takesC c l) r := by unfold takesC; exact List.foldl_append
/-- An end that is open, and has nothing going out. -/
structure Live (c : Ch) : Prop where
  st : c.st = 2
  rd : c.rd = true
  nu : c.nu = 0
  mo : c.mo = 512
  out : c.out = []
  en : c.en = false
  cl : c.cl = false
/-- One direction: what a sent, what was got of it. -/
structure Dir (a b : Ch) (sent got : List UInt8) : Prop where
  eq : got ++ (b.ca ++ a.wa) = sent
  wr : a.wi = b.ro
  full : a.wi + b.ca.length = 4096
  done : a.wa = [] ∨ a.wi = 0
/-- What flows out of an end that had nothing going out, and comes. -/
theorem flow_comes {a b : Ch} (ha : Live a) (hb : Live b) (w : List UInt8) (n : Nat) (hr : b.ro = n) :
    ∃ m, m = min w.length n ∧ flowS { a with wa := w, wi := n } = { a with wa := w.drop m, wi := n - m, out := (flowS { a with wa := w, wi := n }).out } ∧
      takesC b (flowS { a with wa := w, wi := n }).out = { b with ro := n - m, ca := b.ca ++ w.take m } := by
  obtain ⟨cs, hF⟩ := flown { a with wa := w, wi := n } (by show 1 ≤ a.mo; rw [ha.mo]; decide) ha.cl
  refine ⟨min w.length n, rfl, ?_, ?_⟩
  · conv => lhs; rw [hF.eq]
    simp only [hF.eq]
  · have hfl : cs.flatten = w.take (min w.length n) := hF.fl
    have hlen : cs.flatten.length = min w.length n := by rw [hfl, List.length_take]; omega
    rw [hF.eq]
    simp only [ha.out, ha.nu, List.nil_append]
    rw [takesC_data cs b hb.st hb.en (by rw [hlen, hr]; omega) (fun x hx => by have := (hF.each x hx).2; simp only [ha.mo] at this; exact this), hlen, hfl, hr]
theorem flow_live {a : Ch} (ha : Live a) (w : List UInt8) (n : Nat) : (flowS { a with wa := w, wi := n }).wa = w.drop (min w.length n) := by
  obtain ⟨cs, hF⟩ := flown { a with wa := w, wi := n } (by show 1 ≤ a.mo; rw [ha.mo]; decide) ha.cl
  rw [hF.eq]
theorem send_comes {a b : Ch} {sent got : List UInt8} (ha : Live a) (hb : Live b) (hd : Dir a b sent got) (x : List UInt8) :
    ∃ wa wi ca ro, (sendS a x).2 = 0 ∧ (sendS a x).1.wa = wa ∧ carryS (sendS a x).1 b = ({ a with wa := wa, wi := wi }, { b with ca := ca, ro := ro }) ∧ Dir { a with wa := wa, wi := wi } { b with ca := ca, ro := ro } (sent ++ x) got := by
  have hs : sendS a x = (flowS { a with wa := a.wa ++ x }, 0) := by
    unfold sendS
    rw [if_neg (by rw [ha.st, ha.rd, ha.cl]; decide)]
  obtain ⟨m, hm, h1, h2⟩ := flow_comes ha hb (a.wa ++ x) a.wi hd.wr.symm
  refine ⟨(a.wa ++ x).drop m, a.wi - m, b.ca ++ (a.wa ++ x).take m, a.wi - m, by rw [hs], ?_, ?_, ?_⟩
  · rw [hs]
    show (flowS { a with wa := a.wa ++ x, wi := a.wi }).wa = _
    rw [flow_live ha, hm]
  · rw [hs]
    unfold carryS
    refine Prod.ext ?_ ?_
    · show ({ flowS { a with wa := a.wa ++ x, wi := a.wi } with out := [] } : Ch) = _
      rw [h1]
      simp only [← ha.out]
    · exact h2
  · have hf := hd.full
    have hl : (a.wa ++ x).length = a.wa.length + x.length := List.length_append
    refine ⟨?_, rfl, ?_, ?_⟩
    · simp only []
      rw [← hd.eq, List.append_assoc b.ca, List.take_append_drop]
      simp only [List.append_assoc]
    · simp only [List.length_append, List.length_take]
      rw [hl] at hm
      omega
    · simp only []
      by_cases h : (a.wa ++ x).length ≤ a.wi
      · exact .inl (List.drop_of_length_le (by omega))
      · exact .inr (by omega)
theorem recv_none {b : Ch} (h : b.ca = []) : recvS b = b := by
  unfold recvS
  rw [h]
  simp only [List.isEmpty_nil, Bool.not_true, Bool.false_and]
  rw [if_neg (by decide), ← h]
theorem carry_none (a b : Ch) (h : a.out = []) : carryS a b = (a, b) := by
  unfold carryS
  rw [h]
  refine Prod.ext ?_ rfl
  simp only [← h]
theorem recv_comes {a b : Ch} {sent got : List UInt8} (ha : Live a) (hb : Live b) (hd : Dir a b sent got) :
    ∃ wa wi ca ro, carryS (carryS (recvS b) a).2 (carryS (recvS b) a).1 = ({ a with wa := wa, wi := wi }, { b with ca := ca, ro := ro }) ∧ Dir { a with wa := wa, wi := wi } { b with ca := ca, ro := ro } sent (got ++ b.ca) ∧
      wa.length = a.wa.length - 4096 ∧ ca.length = min a.wa.length 4096 := by
  by_cases h : b.ca = []
  · rw [recv_none h, carry_none b a hb.out, carry_none a b ha.out]
    have hf := hd.full
    rw [h] at hf
    simp only [List.length_nil, Nat.add_zero] at hf
    have hw : a.wa = [] := by
      rcases hd.done with h0 | h0
      · exact h0
      · omega
    refine ⟨a.wa, a.wi, b.ca, b.ro, rfl, ?_, by rw [hw]; rfl, by rw [h, hw]; rfl⟩
    rw [h, List.append_nil]
    exact ⟨by have := hd.eq; rw [h] at this; exact this, hd.wr, by simpa using hf, hd.done⟩
  · have hp := List.length_pos_iff.2 h
    have hf := hd.full
    have hr : recvS b = { b with ca := [], ro := b.ro + b.ca.length, out := [adjustB 0 b.ca.length] } := by
      unfold recvS sayS
      rw [if_pos (by rw [hb.st, hb.cl]; simp [h]), hb.out, hb.nu]
      rfl
    have ht : takeC a (adjustB 0 b.ca.length) = (flowS { a with wi := a.wi + b.ca.length }, 0) := by
      refine takeC_some (readS_adjust _ (by omega)) ?_
      unfold hearsS hearsO
      rw [ha.st]
      simp only [msg0]
      simp
      omega
    obtain ⟨m, hm, h1, h2⟩ := flow_comes (a := a) (b := { b with ca := [], ro := b.ro + b.ca.length }) ha ⟨hb.st, hb.rd, hb.nu, hb.mo, hb.out, hb.en, hb.cl⟩ a.wa (a.wi + b.ca.length) (by show b.ro + _ = _; rw [hd.wr])
    have e1 : carryS (recvS b) a = ({ b with ca := [], ro := b.ro + b.ca.length }, flowS { a with wi := a.wi + b.ca.length }) := by
      unfold carryS
      rw [hr]
      refine Prod.ext ?_ ?_
      · simp only [← hb.out]
      · show takesC a [adjustB 0 b.ca.length] = _
        rw [takesC_cons, ht]
        rfl
    rw [e1]
    refine ⟨a.wa.drop m, a.wi + b.ca.length - m, a.wa.take m, a.wi + b.ca.length - m, ?_, ?_, ?_, ?_⟩
    · unfold carryS
      refine Prod.ext ?_ ?_
      · show ({ flowS { a with wa := a.wa, wi := a.wi + b.ca.length } with out := [] } : Ch) = _
        rw [h1]
        simp only [← ha.out]
      · show takesC _ (flowS { a with wa := a.wa, wi := a.wi + b.ca.length }).out = _
        rw [h2]
        simp only [List.nil_append]
    · refine ⟨?_, rfl, ?_, ?_⟩
      · simp only []
        rw [List.take_append_drop, ← hd.eq, List.append_assoc]
      · simp only [List.length_take]
        omega
      · simp only []
        by_cases hw : a.wa.length ≤ a.wi + b.ca.length
        · exact .inl (List.drop_of_length_le (by omega))
        · exact .inr (by omega)
    · rw [List.length_drop]; omega
    · rw [List.length_take]; omega
theorem Live.set {a : Ch} (h : Live a) (wa : List UInt8) (wi : Nat) : Live { a with wa := wa, wi := wi } := ⟨h.st, h.rd, h.nu, h.mo, h.out, h.en, h.cl⟩
theorem Live.setR {a : Ch} (h : Live a) (ca : List UInt8) (ro : Nat) : Live { a with ca := ca, ro := ro } := ⟨h.st, h.rd, h.nu, h.mo, h.out, h.en, h.cl⟩
end Go.Proofs.Ytbifdckmkogbgaa
