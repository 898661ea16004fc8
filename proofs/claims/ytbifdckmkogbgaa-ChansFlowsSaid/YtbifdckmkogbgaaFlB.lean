/- What flows, in bounds. Nothing of the program's text stands here. -/
import Derived.Test.YtbifdckmkogbgaaChL
import Derived.Test.YtbifdckmkogbgaaChG
namespace Go.Proofs.Ytbifdckmkogbgaa
open Go
theorem live_ok {c : Ch} (h : Live c) (h1 : c.wi ≤ 4096) (h2 : c.ca.length ≤ 4096) (h3 : c.wa.length ≤ 20000) (h4 : c.ro ≤ 4096) : TakeOk c :=
  ⟨by rw [h.nu]; decide, by omega, by rw [h.mo]; decide, fun _ => by rw [h.mo]; decide, by omega, by rw [h.out]; simp only [List.length_nil]; omega, by omega, by omega⟩
theorem flat_take_le (cs : List (List UInt8)) (j : Nat) : (cs.take j).flatten.length ≤ cs.flatten.length := by
  conv => rhs; rw [← List.take_append_drop j cs, List.flatten_append, List.length_append]
  omega
theorem flow_ok {a b : Ch} (ha : Live a) (hb : Live b) (w : List UInt8) (n : Nat) (hr : b.ro = n) (h1 : b.wi ≤ 4096) (h2 : b.ca.length + b.ro ≤ 4096) (h3 : b.wa.length ≤ 20000) :
    ∀ j, TakeOk (takesC b ((flowS { a with wa := w, wi := n }).out.take j)) := by
  intro j
  obtain ⟨cs, hF⟩ := flown { a with wa := w, wi := n } (by show 1 ≤ a.mo; rw [ha.mo]; decide) ha.cl
  have hfl : cs.flatten = w.take (min w.length n) := hF.fl
  have hlen : cs.flatten.length = min w.length n := by rw [hfl, List.length_take]; omega
  have hj := flat_take_le cs j
  rw [hF.eq]
  simp only [ha.out, ha.nu, List.nil_append]
  rw [← List.map_take, takesC_data (cs.take j) b hb.st hb.en (by omega) (fun x hx => by have := (hF.each x (List.mem_of_mem_take hx)).2; simp only [ha.mo] at this; exact this)]
  refine live_ok (hb.setR _ _) h1 ?_ h3 ?_
  · show (b.ca ++ (cs.take j).flatten).length ≤ _
    rw [List.length_append]
    omega
  · show b.ro - _ ≤ _
    omega
theorem send_ok {a b : Ch} {s g s' g' : List UInt8} (ha : Live a) (hb : Live b) (hd : Dir a b s g) (he : Dir b a s' g') (hw : b.wa.length ≤ 20000) (x : List UInt8) : ∀ j, TakeOk (takesC b ((sendS a x).1.out.take j)) := by
  have hs : sendS a x = (flowS { a with wa := a.wa ++ x, wi := a.wi }, 0) := by
    unfold sendS
    rw [if_neg (by rw [ha.st, ha.rd, ha.cl]; decide)]
  have h1 := hd.full
  have h2 := hd.wr
  have h3 := he.full
  rw [hs]
  exact flow_ok ha hb (a.wa ++ x) a.wi hd.wr.symm (by omega) (by omega) hw
theorem recv_ok1 {a b : Ch} {s g s' g' : List UInt8} (ha : Live a) (hb : Live b) (hd : Dir a b s g) (he : Dir b a s' g') (hw : a.wa.length ≤ 20000) : ∀ j, j < (recvS b).out.length → TakeOk (takesC a ((recvS b).out.take j)) := by
  intro j hj
  have h1 := hd.full
  have h2 := hd.wr
  have h3 := he.full
  have h4 := he.wr
  have hl : (recvS b).out.length ≤ 1 := by
    by_cases h : b.ca = []
    · rw [recv_none h, hb.out]; simp
    · have hp := List.length_pos_iff.2 h
      unfold recvS sayS
      rw [if_pos (by rw [hb.st, hb.cl]; simp [h]), hb.out]
      simp
  obtain rfl : j = 0 := by omega
  rw [List.take_zero, takesC_nil]
  exact live_ok ha (by omega) (by omega) hw (by omega)
theorem recv_ok2 {a b : Ch} {s g s' g' : List UInt8} (ha : Live a) (hb : Live b) (hd : Dir a b s g) (he : Dir b a s' g') (hw : b.wa.length ≤ 20000) : ∀ j, TakeOk (takesC (carryS (recvS b) a).1 ((carryS (recvS b) a).2.out.take j)) := by
  intro j
  have h1 := hd.full
  have h2 := hd.wr
  have h3 := he.full
  have h4 := he.wr
  by_cases h : b.ca = []
  · rw [recv_none h, carry_none b a hb.out]
    show TakeOk (takesC b (a.out.take j))
    rw [ha.out, List.take_nil, takesC_nil]
    exact live_ok hb (by omega) (by omega) hw (by omega)
  · have hp := List.length_pos_iff.2 h
    have hr : recvS b = { b with ca := [], ro := b.ro + b.ca.length, out := [adjustB 0 b.ca.length] } := by
      unfold recvS sayS
      rw [if_pos (by rw [hb.st, hb.cl]; simp [h]), hb.out, hb.nu]
      rfl
    have ht : takeC a (adjustB 0 b.ca.length) = (flowS { a with wi := a.wi + b.ca.length }, 0) := by
      refine takeC_some (readS_adjust _ (by omega)) ?_
      unfold hearsS hearsO
      rw [ha.st]
      simp only [msg0]
      simp
      omega
    have e1 : carryS (recvS b) a = ({ b with ca := [], ro := b.ro + b.ca.length }, flowS { a with wa := a.wa, wi := a.wi + b.ca.length }) := by
      unfold carryS
      rw [hr]
      refine Prod.ext ?_ ?_
      · simp only [← hb.out]
      · show takesC a [adjustB 0 b.ca.length] = _
        rw [takesC_cons, ht]
        rfl
    rw [e1]
    exact flow_ok (b := { b with ca := [], ro := b.ro + b.ca.length }) ha ⟨hb.st, hb.rd, hb.nu, hb.mo, hb.out, hb.en, hb.cl⟩ a.wa (a.wi + b.ca.length) (by show b.ro + _ = _; omega) (by show b.wi ≤ _; omega) (by show 0 + (b.ro + _) ≤ _; omega) hw j
/-- Both directions. -/
structure FlI (cs : Nat → Ch) (sent got : Nat → List UInt8) : Prop where
  l : ∀ k, k ≤ 1 → Live (cs k)
  d : ∀ k, k ≤ 1 → Dir (cs k) (cs (1 - k)) (sent k) (got (1 - k))
def upd {α : Type} (f : Nat → α) (k : Nat) (x : α) : Nat → α := fun i => if i = k then x else f i
theorem upd_same {α : Type} (f : Nat → α) (k : Nat) (x : α) : upd f k x k = x := if_pos rfl
theorem upd_other {α : Type} (f : Nat → α) {k j : Nat} (x : α) (h : j ≠ k) : upd f k x j = f j := if_neg h
/-- What lies between the two, on the way from side k. -/
def lies (cs : Nat → Ch) (k : Nat) : Nat := (cs (1 - k)).ca.length + (cs k).wa.length
theorem Dir.len {a b : Ch} {s g : List UInt8} (h : Dir a b s g) : g.length + (b.ca.length + a.wa.length) = s.length := by
  rw [← h.eq]; simp only [List.length_append]
theorem Dir.pre {a b : Ch} {s g : List UInt8} (h : Dir a b s g) : s.take g.length = g := by
  rw [← h.eq, List.take_left]
theorem FlI.send {cs : Nat → Ch} {sent got : Nat → List UInt8} (h : FlI cs sent got) {k : Nat} (hk : k ≤ 1) (x : List UInt8) :
    ∃ c1 c2, (sendS (cs k) x).2 = 0 ∧ (sendS (cs k) x).1.wa = c1.wa ∧ carryS (sendS (cs k) x).1 (cs (1 - k)) = (c1, c2) ∧ FlI (upd (upd cs k c1) (1 - k) c2) (upd sent k (sent k ++ x)) got := by
  obtain ⟨wa, wi, ca, ro, h1, h2, h3, h4⟩ := send_comes (h.l k hk) (h.l (1 - k) (by omega)) (h.d k hk) x
  have hkk : k ≠ 1 - k := by omega
  have hkk2 : 1 - (1 - k) = k := by omega
  refine ⟨_, _, h1, h2, h3, ?_, ?_⟩
  · intro j hj
    by_cases e : j = k
    · subst e
      rw [upd_other _ _ hkk, upd_same]
      exact (h.l j hk).set _ _
    · obtain rfl : j = 1 - k := by omega
      rw [upd_same]
      exact (h.l _ hj).setR _ _
  · intro j hj
    by_cases e : j = k
    · subst e
      rw [upd_other _ _ hkk, upd_same, upd_same, upd_same]
      exact h4
    · obtain rfl : j = 1 - k := by omega
      rw [hkk2, upd_same, upd_other _ _ hkk, upd_same, upd_other _ _ hkk.symm]
      have := h.d (1 - k) hj
      rw [hkk2] at this
      exact ⟨this.eq, this.wr, this.full, this.done⟩
theorem FlI.recv {cs : Nat → Ch} {sent got : Nat → List UInt8} (h : FlI cs sent got) {k : Nat} (hk : k ≤ 1) :
    ∃ c1 c2, carryS (carryS (recvS (cs k)) (cs (1 - k))).2 (carryS (recvS (cs k)) (cs (1 - k))).1 = (c2, c1) ∧ FlI (upd (upd cs k c1) (1 - k) c2) sent (upd got k (got k ++ (cs k).ca)) ∧
      c1.ca.length + c2.wa.length = (cs (1 - k)).wa.length ∧ c2.ca = (cs (1 - k)).ca ∧ c1.wa = (cs k).wa := by
  have hkk : k ≠ 1 - k := by omega
  have hkk2 : 1 - (1 - k) = k := by omega
  have hd := h.d (1 - k) (by omega)
  rw [hkk2] at hd
  obtain ⟨wa, wi, ca, ro, h3, h4, h5, h6⟩ := recv_comes (h.l (1 - k) (by omega)) (h.l k hk) hd
  refine ⟨_, _, h3, ⟨?_, ?_⟩, ?_, rfl, rfl⟩
  · intro j hj
    by_cases e : j = k
    · subst e
      rw [upd_other _ _ hkk, upd_same]
      exact (h.l j hk).setR _ _
    · obtain rfl : j = 1 - k := by omega
      rw [upd_same]
      exact (h.l _ hj).set _ _
  · intro j hj
    by_cases e : j = k
    · subst e
      rw [upd_other _ _ hkk, upd_same, upd_same, upd_other _ _ hkk.symm]
      have := h.d j hj
      exact ⟨this.eq, this.wr, this.full, this.done⟩
    · obtain rfl : j = 1 - k := by omega
      rw [hkk2, upd_same, upd_other _ _ hkk, upd_same, upd_same]
      exact h4
  · show ca.length + wa.length = _
    omega
end Go.Proofs.Ytbifdckmkogbgaa
