/- The law ChansFlows: what stands in memory. -/
import Derived.Test.YtbifdckmkogbgaaChY
import Derived.Test.YtbifdckmkogbgaaFlA
import Derived.Test.YtbifdckmkogbgaaFlB
namespace Go.Proofs.Ytbifdckmkogbgaa
open Go Go.RowKit
def upd2 (cs : Nat → Ch) (k k' : Nat) (p : Ch × Ch) : Nat → Ch := upd (upd cs k p.1) k' p.2
theorem upd2_k {cs : Nat → Ch} {k k' : Nat} (h : k + k' = 1) (p : Ch × Ch) : upd2 cs k k' p k = p.1 := by
  unfold upd2
  rw [upd_other _ _ (by omega), upd_same]
theorem upd2_k' {cs : Nat → Ch} {k k' : Nat} (p : Ch × Ch) : upd2 cs k k' p k' = p.2 := upd_same _ _ _
theorem upd2_upd2 {cs : Nat → Ch} {k k' : Nat} (p q : Ch × Ch) : upd2 (upd2 cs k k' p) k k' q = upd2 cs k k' q := by
  funext i
  unfold upd2 upd
  by_cases h1 : i = k'
  · rw [if_pos h1, if_pos h1]
  · simp only [if_neg h1]
    by_cases h2 : i = k
    · rw [if_pos h2, if_pos h2]
    · simp only [if_neg h2]
theorem upd2_swap {cs : Nat → Ch} {k k' : Nat} (h : k + k' = 1) (p : Ch × Ch) : upd2 cs k' k p = upd2 cs k k' (p.2, p.1) := by
  funext i
  unfold upd2 upd
  by_cases h1 : i = k'
  · rw [if_pos h1, if_pos h1, if_neg (by omega)]
  · rw [if_neg h1, if_neg h1]
def GS (B bs bg be bu : Nat) : Nat → Prop := fun i => B ≤ i ∧ i ≠ bs ∧ i ≠ bg ∧ i ≠ be ∧ i ≠ bu
def TxA (w : World) (b : Nat) (f : Nat → List UInt8) : Prop := ∃ T, w.heap[b]? = some (.cells #[.string (tx (f 0)), .string (tx (f 1))] T (0, 0))
theorem TxA.cell {w : World} {b : Nat} {f : Nat → List UInt8} (h : TxA w b f) {k : Nat} (hk : k ≤ 1) : w.cell? ⟨b, k, none⟩ = some (.string (tx (f k))) ∧ w.frozen? ⟨b, k, none⟩ = false := by
  obtain ⟨T, h⟩ := h
  obtain rfl | rfl : k = 0 ∨ k = 1 := by omega
  · exact ⟨blk_cell h 0, blk_frozen h 0⟩
  · exact ⟨blk_cell h 1, blk_frozen h 1⟩
theorem TxA.set {w : World} {b : Nat} {f : Nat → List UInt8} (h : TxA w b f) {k : Nat} (hk : k ≤ 1) (x : List UInt8) : TxA (w.setCell ⟨b, k, none⟩ (.string (tx x))) b (upd f k x) := by
  obtain ⟨T, h⟩ := h
  obtain rfl | rfl : k = 0 ∨ k = 1 := by omega
  · exact ⟨T, blk_set h 0 _⟩
  · exact ⟨T, blk_set h 1 _⟩
theorem TxA.keep {S : Nat → Prop} {w w1 : World} {b : Nat} {f : Nat → List UInt8} (h : TxA w b f) (hk : Kp S w w1) (hs : ¬ S b) : TxA w1 b f := by
  obtain ⟨T, h⟩ := h
  exact ⟨T, blk_keep hk h hs⟩
theorem TxA.lt {w : World} {b : Nat} {f : Nat → List UInt8} (h : TxA w b f) : b < w.heap.size := by
  obtain ⟨T, h⟩ := h
  exact blk_lt h
/-- Two cells that hold f 0 and f 1. -/
def PtA (w : World) (b : Nat) (eb : Nat → Nat) : Prop := ∃ T, w.heap[b]? = some (.cells #[.pointer (some ⟨eb 0, 0, none⟩), .pointer (some ⟨eb 1, 0, none⟩)] T (0, 0))
def InA (w : World) (b : Nat) : Prop := ∃ T x y, w.heap[b]? = some (.cells #[x, y] T (0, 0))
theorem PtA.cell {w : World} {b : Nat} {f : Nat → Nat} (h : PtA w b f) {k : Nat} (hk : k ≤ 1) : w.cell? ⟨b, k, none⟩ = some (.pointer (some ⟨f k, 0, none⟩)) := by
  obtain ⟨T, h⟩ := h
  obtain rfl | rfl : k = 0 ∨ k = 1 := by omega
  · exact blk_cell h 0
  · exact blk_cell h 1
theorem PtA.keep {S : Nat → Prop} {w w1 : World} {b : Nat} {f : Nat → Nat} (h : PtA w b f) (hk : Kp S w w1) (hs : ¬ S b) : PtA w1 b f := by
  obtain ⟨T, h⟩ := h
  exact ⟨T, blk_keep hk h hs⟩
theorem InA.cell {w : World} {b : Nat} (h : InA w b) {k : Nat} (hk : k ≤ 1) : (∃ v, w.cell? ⟨b, k, none⟩ = some v) ∧ w.frozen? ⟨b, k, none⟩ = false := by
  obtain ⟨T, x, y, h⟩ := h
  obtain rfl | rfl : k = 0 ∨ k = 1 := by omega
  · exact ⟨⟨_, blk_cell h 0⟩, blk_frozen h 0⟩
  · exact ⟨⟨_, blk_cell h 1⟩, blk_frozen h 1⟩
theorem InA.set {w : World} {b : Nat} (h : InA w b) {k : Nat} (hk : k ≤ 1) (v : Value) : InA (w.setCell ⟨b, k, none⟩ v) b := by
  obtain ⟨T, x, y, h⟩ := h
  obtain rfl | rfl : k = 0 ∨ k = 1 := by omega
  · exact ⟨T, _, _, blk_set h 0 _⟩
  · exact ⟨T, _, _, blk_set h 1 _⟩
structure FlM (w0 w : World) (eb : Nat → Nat) (bs bg be bu : Nat) (cs : Nat → Ch) (sent got : Nat → List UInt8) : Prop where
  p : PairF w0.heap.size (GS w0.heap.size bs bg be bu) w (eb 0) (eb 1) (cs 0, cs 1)
  s : TxA w bs sent
  g : TxA w bg got
  e : PtA w be eb
  u : InA w bu
  n : bs ≠ bg ∧ bs ≠ be ∧ bs ≠ bu ∧ bg ≠ be ∧ bg ≠ bu ∧ be ≠ bu
  b : w0.heap.size ≤ bs ∧ w0.heap.size ≤ bg ∧ w0.heap.size ≤ be ∧ w0.heap.size ≤ bu
  k : Kp0 w0 w
section
variable {w0 w w1 : World} {eb : Nat → Nat} {bs bg be bu : Nat} {cs : Nat → Ch} {sent got : Nat → List UInt8}
theorem FlM.hS (h : FlM w0 w eb bs bg be bu cs sent got) : ∀ i, w.heap.size ≤ i → GS w0.heap.size bs bg be bu i := by
  intro i hi
  have h1 := h.s.lt
  have h2 := h.g.lt
  obtain ⟨T, h3⟩ := h.e
  have h3 := blk_lt h3
  obtain ⟨T, _, _, h4⟩ := h.u
  have h4 := blk_lt h4
  have h5 := h.k.size
  refine ⟨by omega, by omega, by omega, by omega, by omega⟩
theorem FlM.pair (h : FlM w0 w eb bs bg be bu cs sent got) {k k' : Nat} (hk : k + k' = 1) : PairF w0.heap.size (GS w0.heap.size bs bg be bu) w (eb k) (eb k') (cs k, cs k') := by
  obtain ⟨rfl, rfl⟩ | ⟨rfl, rfl⟩ : (k = 0 ∧ k' = 1) ∨ (k = 1 ∧ k' = 0) := by omega
  · exact h.p
  · exact h.p.swap
theorem FlM.kp {S : Nat → Prop} (h : FlM w0 w eb bs bg be bu cs sent got) {k k' : Nat} (hk : k + k' = 1) {p : Ch × Ch} (hp : PairF w0.heap.size (GS w0.heap.size bs bg be bu) w1 (eb k) (eb k') p) (hkp : Kp S w w1) (hs : ∀ i, S i → GS w0.heap.size bs bg be bu i) : FlM w0 w1 eb bs bg be bu (upd2 cs k k' p) sent got := by
  refine ⟨?_, h.s.keep hkp (fun hh => (hs _ hh).2.1 rfl), h.g.keep hkp (fun hh => (hs _ hh).2.2.1 rfl), ?_, ?_, h.n, h.b, kpG h.k (hkp.mono (fun i _ hh => (hs i hh).1))⟩
  · obtain ⟨rfl, rfl⟩ | ⟨rfl, rfl⟩ : (k = 0 ∧ k' = 1) ∨ (k = 1 ∧ k' = 0) := by omega
    · exact hp
    · exact hp.swap
  · obtain ⟨T, h3⟩ := h.e
    exact ⟨T, blk_keep hkp h3 (fun hh => (hs _ hh).2.2.2.1 rfl)⟩
  · obtain ⟨T, x, y, h3⟩ := h.u
    exact ⟨T, x, y, blk_keep hkp h3 (fun hh => (hs _ hh).2.2.2.2 rfl)⟩
theorem FlM.kp0 (h : FlM w0 w eb bs bg be bu cs sent got) (hk : Kp0 w w1) : FlM w0 w1 eb bs bg be bu cs sent got := by
  have := h.kp (k := 0) (k' := 1) rfl (h.p.kp hk (fun _ h => h.elim)) hk (fun _ h => h.elim)
  exact ⟨h.p.kp hk (fun _ h => h.elim), this.s, this.g, this.e, this.u, this.n, this.b, this.k⟩
theorem FlM.setS (h : FlM w0 w eb bs bg be bu cs sent got) {k : Nat} (hk : k ≤ 1) (x : List UInt8) : FlM w0 (w.setCell ⟨bs, k, none⟩ (.string (tx x))) eb bs bg be bu cs (upd sent k x) got := by
  have hkp : Kp (fun i => i = bs) w (w.setCell ⟨bs, k, none⟩ (.string (tx x))) := (Kp.refl (fun i => i = bs) w).setCell (p := ⟨bs, k, none⟩) (fun _ => rfl) _
  refine ⟨h.p.kp hkp (fun i hi hh => hh.2.1 hi), h.s.set hk x, h.g.keep hkp (fun e => h.n.1 e.symm), ?_, ?_, h.n, h.b, kpG h.k (hkp.mono (fun i _ hh => by rw [hh]; exact h.b.1))⟩
  · obtain ⟨T, h3⟩ := h.e
    exact ⟨T, blk_keep hkp h3 (fun e => h.n.2.1 e.symm)⟩
  · obtain ⟨T, x, y, h3⟩ := h.u
    exact ⟨T, x, y, blk_keep hkp h3 (fun e => h.n.2.2.1 e.symm)⟩
theorem FlM.setG (h : FlM w0 w eb bs bg be bu cs sent got) {k : Nat} (hk : k ≤ 1) (x : List UInt8) : FlM w0 (w.setCell ⟨bg, k, none⟩ (.string (tx x))) eb bs bg be bu cs sent (upd got k x) := by
  have hkp : Kp (fun i => i = bg) w (w.setCell ⟨bg, k, none⟩ (.string (tx x))) := (Kp.refl (fun i => i = bg) w).setCell (p := ⟨bg, k, none⟩) (fun _ => rfl) _
  refine ⟨h.p.kp hkp (fun i hi hh => hh.2.2.1 hi), h.s.keep hkp (fun e => h.n.1 e), h.g.set hk x, ?_, ?_, h.n, h.b, kpG h.k (hkp.mono (fun i _ hh => by rw [hh]; exact h.b.2.1))⟩
  · obtain ⟨T, h3⟩ := h.e
    exact ⟨T, blk_keep hkp h3 (fun e => h.n.2.2.2.1 e.symm)⟩
  · obtain ⟨T, x, y, h3⟩ := h.u
    exact ⟨T, x, y, blk_keep hkp h3 (fun e => h.n.2.2.2.2.1 e.symm)⟩
theorem FlM.setU (h : FlM w0 w eb bs bg be bu cs sent got) {k : Nat} (hk : k ≤ 1) (v : Value) : FlM w0 (w.setCell ⟨bu, k, none⟩ v) eb bs bg be bu cs sent got := by
  have hkp : Kp (fun i => i = bu) w (w.setCell ⟨bu, k, none⟩ v) := (Kp.refl (fun i => i = bu) w).setCell (p := ⟨bu, k, none⟩) (fun _ => rfl) _
  refine ⟨h.p.kp hkp (fun i hi hh => hh.2.2.2.2 hi), h.s.keep hkp (fun e => h.n.2.2.1 e), h.g.keep hkp (fun e => h.n.2.2.2.2.1 e), ?_, h.u.set hk v, h.n, h.b, kpG h.k (hkp.mono (fun i _ hh => by rw [hh]; exact h.b.2.2.2))⟩
  obtain ⟨T, h3⟩ := h.e
  exact ⟨T, blk_keep hkp h3 (fun e => h.n.2.2.2.2.2 e)⟩
end
/-- Carrying from side k. -/
theorem carry_fl {w0 w : World} {eb : Nat → Nat} {bs bg be bu : Nat} {cs : Nat → Ch} {sent got : Nat → List UInt8} (h : FlM w0 w eb bs bg be bu cs sent got) {k k' : Nat} (hk : k + k' = 1) (hok : ∀ j, j < (cs k).out.length → TakeOk (takesC (cs k') ((cs k).out.take j))) :
    Calls Try.prog 12 #[.pointer (some ⟨eb k, 0, none⟩), .pointer (some ⟨eb k', 0, none⟩)] w (fun e w' => e = .returned (.tuple #[]) ∧ FlM w0 w' eb bs bg be bu (upd2 cs k k' (carryS (cs k) (cs k'))) sent got) :=
  (carry_fr w0.heap.size (GS w0.heap.size bs bg be bu) (eb k) (eb k') (cs k, cs k') w (h.pair hk) h.hS hok).mono fun _ _ h1 => ⟨h1.1, h.kp hk h1.2.1 h1.2.2 (fun _ h => h)⟩
theorem recv_fl {w0 w : World} {eb : Nat → Nat} {bs bg be bu : Nat} {cs : Nat → Ch} {sent got : Nat → List UInt8} (h : FlM w0 w eb bs bg be bu cs sent got) {k k' : Nat} (hk : k + k' = 1) (hok : RecvOk (cs k)) :
    Calls Try.prog 13 #[.pointer (some ⟨eb k, 0, none⟩)] w (fun e w' => ∃ v, e = .returned v ∧ Rd w' v (bys (cs k).ca) ∧ FlM w0 w' eb bs bg be bu (upd2 cs k k' (recvS (cs k), cs k')) sent got ∧ Kp (GS w0.heap.size bs bg be bu) w w') := by
  obtain ⟨Fa, Fb, h1, h2, h3, h4, h5⟩ := (h.pair hk).p
  refine (recv_any w0.heap.size (eb k) Fa (cs k) w h1 hok).mono ?_
  rintro e w1 ⟨v, F', rfl, q1, q2, q3, _, q5⟩
  have hp := PairF.first (x := (cs k, cs k')) h2 h3 h4 h5 h.hS q2 q3 q5
  exact ⟨v, rfl, q1, h.kp hk hp.1 hp.2 (fun _ h => h), hp.2⟩
theorem send_fl {w0 wr w : World} {eb : Nat → Nat} {bs bg be bu : Nat} {cs : Nat → Ch} {sent got : Nat → List UInt8} (h : FlM w0 wr eb bs bg be bu cs sent got) (hw : Kp0 wr w) {k k' : Nat} (hk : k + k' = 1) {v : Value} {l : List UInt8} (hv : Rd w v (bys l)) (hok : SendOk (cs k) l) :
    Calls Try.prog 14 #[.pointer (some ⟨eb k, 0, none⟩), v] w (fun e w' => e = .returned (.int .i64 ((sendS (cs k) l).2 : Nat)) ∧ FlM w0 w' eb bs bg be bu (upd2 cs k k' ((sendS (cs k) l).1, cs k')) sent got ∧ Kp (fun i => i < wr.heap.size) w w') := by
  obtain ⟨Fa, Fb, h1, h2, h3, h4, h5⟩ := (h.pair hk).p
  have hF := h1.fB
  refine (send_any w0.heap.size (eb k) Fa (cs k) v l w (h1.kp0 hw) hv hok).mono ?_
  rintro e w1 ⟨rfl, F', q2, q3, q5⟩
  have hp := PairF.first (x := (cs k, cs k')) (h2.kp0 hw) h3 h4 h5 (h.kp0 hw).hS q2 q3 q5
  exact ⟨rfl, (h.kp0 hw).kp hk hp.1 hp.2 (fun _ h => h), q5.mono (fun i _ hi => (hF i hi).2)⟩
theorem carry_fl2 {w0 w : World} {eb : Nat → Nat} {bs bg be bu : Nat} {cs : Nat → Ch} {sent got : Nat → List UInt8} {k k' : Nat} {p : Ch × Ch} (h : FlM w0 w eb bs bg be bu (upd2 cs k k' p) sent got) (hk : k + k' = 1) (hok : ∀ j, j < p.1.out.length → TakeOk (takesC p.2 (p.1.out.take j))) :
    Calls Try.prog 12 #[.pointer (some ⟨eb k, 0, none⟩), .pointer (some ⟨eb k', 0, none⟩)] w (fun e w' => e = .returned (.tuple #[]) ∧ FlM w0 w' eb bs bg be bu (upd2 cs k k' (carryS p.1 p.2)) sent got) := by
  refine (carry_fl h hk (by rw [upd2_k hk, upd2_k']; exact hok)).mono ?_
  rintro e w1 ⟨rfl, h1⟩
  rw [upd2_upd2, upd2_k hk, upd2_k'] at h1
  exact ⟨rfl, h1⟩
theorem carry_fl3 {w0 w : World} {eb : Nat → Nat} {bs bg be bu : Nat} {cs : Nat → Ch} {sent got : Nat → List UInt8} {k k' : Nat} {p : Ch × Ch} (h : FlM w0 w eb bs bg be bu (upd2 cs k k' p) sent got) (hk : k + k' = 1) (hok : ∀ j, j < p.2.out.length → TakeOk (takesC p.1 (p.2.out.take j))) :
    Calls Try.prog 12 #[.pointer (some ⟨eb k', 0, none⟩), .pointer (some ⟨eb k, 0, none⟩)] w (fun e w' => e = .returned (.tuple #[]) ∧ FlM w0 w' eb bs bg be bu (upd2 cs k k' ((carryS p.2 p.1).2, (carryS p.2 p.1).1)) sent got) := by
  refine (carry_fl h (show k' + k = 1 by omega) (by rw [upd2_k hk, upd2_k']; exact hok)).mono ?_
  rintro e w1 ⟨rfl, h1⟩
  rw [upd2_swap hk, upd2_upd2, upd2_k hk, upd2_k'] at h1
  exact ⟨rfl, h1⟩
theorem FlI.bnd {cs : Nat → Ch} {sent got : Nat → List UInt8} (h : FlI cs sent got) {k k' : Nat} (hk : k + k' = 1) : (cs k).wi ≤ 4096 ∧ (cs k).ro ≤ 4096 ∧ (cs k).ca.length ≤ 4096 ∧ (cs k).wa.length ≤ (sent k).length := by
  obtain rfl : k' = 1 - k := by omega
  have h1 := h.d k (by omega)
  have h2 := h.d (1 - k) (by omega)
  rw [show 1 - (1 - k) = k by omega] at h2
  have e1 := h1.full
  have e2 := h1.wr
  have e3 := h2.full
  have e4 := h2.wr
  have e5 := h1.len
  exact ⟨by omega, by omega, by omega, by omega⟩
theorem FlI.recvOk {cs : Nat → Ch} {sent got : Nat → List UInt8} (h : FlI cs sent got) {k k' : Nat} (hk : k + k' = 1) : RecvOk (cs k) := by
  have hl := h.l k (by omega)
  have hb := h.bnd hk
  exact ⟨by rw [hl.nu]; decide, by omega, by omega, by rw [hl.out]; decide⟩
theorem FlI.sendOk {cs : Nat → Ch} {sent got : Nat → List UInt8} (h : FlI cs sent got) {k k' : Nat} (hk : k + k' = 1) {x : List UInt8} (hx : (sent k).length + x.length ≤ 20000) : SendOk (cs k) x := by
  have hl := h.l k (by omega)
  have hb := h.bnd hk
  exact ⟨by rw [hl.nu]; decide, by omega, by rw [hl.mo]; decide, fun _ => by rw [hl.mo]; decide, by omega, by rw [hl.out]; simp only [List.length_nil]; omega⟩
theorem FlI.recv2 {cs : Nat → Ch} {sent got : Nat → List UInt8} (h : FlI cs sent got) {k k' : Nat} (hk : k + k' = 1) (hs : (sent 0).length + (sent 1).length ≤ 20000) :
    ∃ c1 c2, carryS (carryS (recvS (cs k)) (cs k')).2 (carryS (recvS (cs k)) (cs k')).1 = (c2, c1) ∧ FlI (upd2 cs k k' (c1, c2)) sent (upd got k (got k ++ (cs k).ca)) ∧
      c1.ca.length + c2.wa.length = (cs k').wa.length ∧ c2.ca = (cs k').ca ∧ c1.wa = (cs k).wa ∧
      (∀ j, j < (recvS (cs k)).out.length → TakeOk (takesC (cs k') ((recvS (cs k)).out.take j))) ∧ ∀ j, TakeOk (takesC (carryS (recvS (cs k)) (cs k')).1 ((carryS (recvS (cs k)) (cs k')).2.out.take j)) := by
  have hb := h.bnd hk
  have hb' := h.bnd (show k' + k = 1 by omega)
  obtain ⟨hk1, hk2⟩ : k ≤ 1 ∧ k' ≤ 1 := by omega
  have hl1 : (sent k).length ≤ 20000 := by
    obtain rfl | rfl : k = 0 ∨ k = 1 := by omega
    · omega
    · omega
  have hl2 : (sent k').length ≤ 20000 := by
    obtain rfl | rfl : k' = 0 ∨ k' = 1 := by omega
    · omega
    · omega
  have hd := h.d k' hk2
  have he := h.d k hk1
  rw [show 1 - k' = k by omega] at hd
  rw [show 1 - k = k' by omega] at he
  obtain ⟨c1, c2, q1, q2, q3, q4, q5⟩ := h.recv hk1
  rw [show 1 - k = k' by omega] at q1 q2 q3 q4
  exact ⟨c1, c2, q1, q2, q3, q4, q5, recv_ok1 (h.l k' hk2) (h.l k hk1) hd he (by omega), recv_ok2 (h.l k' hk2) (h.l k hk1) hd he (by omega)⟩
theorem FlI.send2 {cs : Nat → Ch} {sent got : Nat → List UInt8} (h : FlI cs sent got) {k k' : Nat} (hk : k + k' = 1) (hs : (sent 0).length + (sent 1).length ≤ 20000) (x : List UInt8) :
    ∃ c1 c2, (sendS (cs k) x).2 = 0 ∧ (sendS (cs k) x).1.wa = c1.wa ∧ carryS (sendS (cs k) x).1 (cs k') = (c1, c2) ∧ FlI (upd2 cs k k' (c1, c2)) (upd sent k (sent k ++ x)) got ∧
      ∀ j, TakeOk (takesC (cs k') ((sendS (cs k) x).1.out.take j)) := by
  have hb' := h.bnd (show k' + k = 1 by omega)
  obtain ⟨hk1, hk2⟩ : k ≤ 1 ∧ k' ≤ 1 := by omega
  have hl2 : (sent k').length ≤ 20000 := by
    obtain rfl | rfl : k' = 0 ∨ k' = 1 := by omega
    · omega
    · omega
  have hd := h.d k hk1
  have he := h.d k' hk2
  rw [show 1 - k' = k by omega] at he
  rw [show 1 - k = k' by omega] at hd
  obtain ⟨c1, c2, q1, q2, q3, q4⟩ := h.send hk1 x
  rw [show 1 - k = k' by omega] at q3 q4
  exact ⟨c1, c2, q1, q2, q3, q4, send_ok (h.l k hk1) (h.l k' hk2) hd he (by omega) x⟩
theorem len_upd {f : Nat → List UInt8} {k : Nat} (hk : k ≤ 1) (x : List UInt8) : (upd f k (f k ++ x) 0).length + (upd f k (f k ++ x) 1).length = (f 0).length + (f 1).length + x.length := by
  obtain rfl | rfl : k = 0 ∨ k = 1 := by omega
  · rw [upd_same, upd_other _ _ (by decide), List.length_append]; omega
  · rw [upd_same, upd_other _ _ (by decide), List.length_append]; omega
theorem pending_fl {w0 w : World} {eb : Nat → Nat} {bs bg be bu : Nat} {cs : Nat → Ch} {sent got : Nat → List UInt8} (h : FlM w0 w eb bs bg be bu cs sent got) {k k' : Nat} (hk : k + k' = 1) :
    Calls Try.prog 15 #[.pointer (some ⟨eb k, 0, none⟩)] w (fun e w' => e = .returned (.int .i64 ((cs k).wa.length : Nat)) ∧ w = w') := by
  obtain ⟨Fa, Fb, h1, _⟩ := (h.pair hk).p
  exact pending_any w0.heap.size (eb k) Fa (cs k) w h1
end Go.Proofs.Ytbifdckmkogbgaa
