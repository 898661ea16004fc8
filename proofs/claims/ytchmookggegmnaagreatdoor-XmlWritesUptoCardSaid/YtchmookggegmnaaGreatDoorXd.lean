/- Elements in memory; sorting none or one. Package xml: a tag's attributes as an element has them. Package xml: an element as its tag tells it. Package xml: a reader beside what was read of an element's content. Package xml: texts and CDATA. Package xml: an element in another one. Package xml: an element in another one, read. -/
import Derived.Test.YtchmookggegmnaaGreatDoorXc
namespace Go.Proofs.YtchmookggegmnaaGreatDoor
open Go Go.RowKit
/-- A slice whose n elements read as these cells, k each; its block is one of F. -/
def RdF (F : Nat → Prop) (w : World) (k : Nat) (v : Value) (n : Nat) (xs : List Value) : Prop :=
  ∃ ao cap, v = .slice ao n cap ∧ xs.length = n * k ∧ n ≤ cap ∧ cap ≤ 9223372036854775807 ∧ (ao = none → cap = 0) ∧ ∀ ad, ao = some ad → ∀ i u, xs[i]? = some u → F ad.block ∧ w.cell? (ad.add i) = some u
section
variable {F G : Nat → Prop} {w w1 : World} {k n : Nat} {v : Value} {xs : List Value}
theorem RdF.mono (h : RdF F w k v n xs) (hF : ∀ i, F i → G i) : RdF G w k v n xs := by
  obtain ⟨ao, cap, h1, h2, h3, h4, h5, h6⟩ := h
  exact ⟨ao, cap, h1, h2, h3, h4, h5, fun ad e i u hu => ⟨hF _ (h6 ad e i u hu).1, (h6 ad e i u hu).2⟩⟩
theorem RdF.keep (h : RdF F w k v n xs) {S : Nat → Prop} (hk : Kp S w w1) (hs : ∀ i, F i → ¬ S i) : RdF F w1 k v n xs := by
  obtain ⟨ao, cap, h1, h2, h3, h4, h5, h6⟩ := h
  exact ⟨ao, cap, h1, h2, h3, h4, h5, fun ad e i u hu => ⟨(h6 ad e i u hu).1, hk.cell (h6 ad e i u hu).2 (by rw [add_block]; exact hs _ (h6 ad e i u hu).1)⟩⟩
theorem RdF.of_own {B e : Nat} (h : w.ownsRow B e k v n xs) (hF : ∀ g, v.ownBlock = some g → F g) : RdF F w k v n xs := by
  rcases h.2 with ⟨rfl, h0⟩ | ⟨g, cap, cur, rfl, hb, hg, h1, h2, h3, h4⟩
  · subst h0
    exact ⟨none, 0, rfl, h.1, Nat.le_refl _, by decide, fun _ => rfl, fun ad e => by cases e⟩
  · exact ⟨some ⟨g, 0, none⟩, cap, rfl, h.1, h1, h2, by simp, fun ad e i u hu => by cases e; exact ⟨hF g rfl, h.cells (g := g) rfl i u hu⟩⟩
theorem RdF.nil (F : Nat → Prop) (w : World) (k : Nat) : RdF F w k (.slice none 0 0) 0 [] := ⟨none, 0, rfl, by simp, Nat.le_refl _, by decide, fun _ => rfl, fun ad e => by cases e⟩
theorem RdF.sl (h : RdF F w k v n xs) : ∃ ao cap, v = .slice ao n cap ∧ n ≤ cap ∧ cap ≤ 9223372036854775807 := by
  obtain ⟨ao, cap, h1, _, h3, h4, _⟩ := h
  exact ⟨ao, cap, h1, h3, h4⟩
end
mutual
/-- The five cells c0 .. c4 read as this element; all that it leads to lies in F. -/
def ElV (F : Nat → Prop) (w : World) : PE → Value → Value → Value → Value → Value → Prop
  | .mk sp nm a tx ks, c0, c1, c2, c3, c4 => c0 = .string (S sp) ∧ c1 = .string (S nm) ∧ RdF F w 2 c2 a.length (prs a) ∧ c3 = .string (S tx) ∧ ∃ cs, RdF F w 5 c4 ks.length cs ∧ ElsV F w ks cs
def ElsV (F : Nat → Prop) (w : World) : List PE → List Value → Prop
  | [], cs => cs = []
  | e :: es, cs => ∃ c0 c1 c2 c3 c4 rest, cs = c0 :: c1 :: c2 :: c3 :: c4 :: rest ∧ ElV F w e c0 c1 c2 c3 c4 ∧ ElsV F w es rest
end
mutual
theorem ElV.keep {F G : Nat → Prop} {w w1 : World} {S : Nat → Prop} (hk : Kp S w w1) (hs : ∀ i, F i → ¬ S i) (hF : ∀ i, F i → G i) : ∀ (e : PE) (c0 c1 c2 c3 c4 : Value), ElV F w e c0 c1 c2 c3 c4 → ElV G w1 e c0 c1 c2 c3 c4
  | .mk sp nm a tx ks, c0, c1, c2, c3, c4, h => by
    unfold ElV at h ⊢
    obtain ⟨h0, h1, h2, h3, cs, h4, h5⟩ := h
    exact ⟨h0, h1, (h2.keep hk hs).mono hF, h3, cs, (h4.keep hk hs).mono hF, ElsV.keep hk hs hF ks cs h5⟩
theorem ElsV.keep {F G : Nat → Prop} {w w1 : World} {S : Nat → Prop} (hk : Kp S w w1) (hs : ∀ i, F i → ¬ S i) (hF : ∀ i, F i → G i) : ∀ (es : List PE) (cs : List Value), ElsV F w es cs → ElsV G w1 es cs
  | [], cs, h => by unfold ElsV at h ⊢; exact h
  | e :: es, cs, h => by
    unfold ElsV at h ⊢
    obtain ⟨c0, c1, c2, c3, c4, rest, h1, h2, h3⟩ := h
    exact ⟨c0, c1, c2, c3, c4, rest, h1, ElV.keep hk hs hF e _ _ _ _ _ h2, ElsV.keep hk hs hF es rest h3⟩
end
theorem ElsV.len {F : Nat → Prop} {w : World} : ∀ (es : List PE) (cs : List Value), ElsV F w es cs → cs.length = es.length * 5
  | [], cs, h => by unfold ElsV at h; subst h; rfl
  | e :: es, cs, h => by
    unfold ElsV at h
    obtain ⟨c0, c1, c2, c3, c4, rest, rfl, _, h3⟩ := h
    have := ElsV.len es rest h3
    simp only [List.length_cons, this]
    omega
theorem ElsV.snoc {F : Nat → Prop} {w : World} {e : PE} {c0 c1 c2 c3 c4 : Value} (he : ElV F w e c0 c1 c2 c3 c4) : ∀ (es : List PE) (cs : List Value), ElsV F w es cs → ElsV F w (es ++ [e]) (cs ++ [c0, c1, c2, c3, c4])
  | [], cs, h => by
    unfold ElsV at h
    subst h
    rw [List.nil_append, List.nil_append]
    unfold ElsV
    exact ⟨c0, c1, c2, c3, c4, [], rfl, he, by unfold ElsV; rfl⟩
  | e' :: es, cs, h => by
    unfold ElsV at h
    obtain ⟨d0, d1, d2, d3, d4, rest, rfl, h1, h2⟩ := h
    rw [List.cons_append]
    unfold ElsV
    exact ⟨d0, d1, d2, d3, d4, rest ++ [c0, c1, c2, c3, c4], rfl, h1, ElsV.snoc he es rest h2⟩
/-- The cells of the one at place i. -/
theorem ElsV.get {F : Nat → Prop} {w : World} : ∀ (es : List PE) (cs : List Value), ElsV F w es cs → ∀ (i : Nat) (h : i < es.length), ∃ c0 c1 c2 c3 c4, cs[i * 5]? = some c0 ∧ cs[i * 5 + 1]? = some c1 ∧ cs[i * 5 + 2]? = some c2 ∧ cs[i * 5 + 3]? = some c3 ∧ cs[i * 5 + 4]? = some c4 ∧ ElV F w (es[i]) c0 c1 c2 c3 c4
  | [], cs, h, i, hi => by simp at hi
  | e :: es, cs, h, i, hi => by
    unfold ElsV at h
    obtain ⟨c0, c1, c2, c3, c4, rest, rfl, h2, h3⟩ := h
    cases i with
    | zero => exact ⟨c0, c1, c2, c3, c4, rfl, rfl, rfl, rfl, rfl, h2⟩
    | succ i =>
      obtain ⟨d0, d1, d2, d3, d4, g0, g1, g2, g3, g4, g5⟩ := ElsV.get es rest h3 i (by simpa using hi)
      refine ⟨d0, d1, d2, d3, d4, ?_⟩
      rw [show (i + 1) * 5 = i * 5 + 1 + 1 + 1 + 1 + 1 by omega]
      simp only [List.getElem?_cons_succ, List.getElem_cons_succ, show ∀ j, i * 5 + 1 + 1 + 1 + 1 + 1 + j = (i * 5 + j) + 1 + 1 + 1 + 1 + 1 from fun j => by omega]
      exact ⟨g0, g1, g2, g3, g4, g5⟩
/-- Sorting none or one changes nothing. -/
theorem insertion_any (v c : Value) (n : Nat) (w : World) (hn : n ≤ 1) : Calls Tryz.prog 98 #[v, .int .i64 0, .int .i64 n, c] w fun e w' => e = .returned (.tuple #[]) ∧ w = w' := by
  have hni : ¬ (1 : Int) < n := by omega
  clear hn
  go_enter Tryz.func98, Tryz.ntmps98
  go_wp2
  refine wp_loop_rounds 1 ?_
  rw [rounds_succ]
  go_wp2
  all_goals go_end0
  all_goals exact ⟨rfl, rfl⟩
theorem pdq_any (v c : Value) (n : Nat) (lim : Int) (w : World) (hn : n ≤ 1) : Calls Tryz.prog 89 #[v, .int .i64 0, .int .i64 n, .int .i64 lim, c] w fun e w' => e = .returned (.tuple #[]) ∧ w = w' := by
  have hni : (n : Int) ≤ 1 := by omega
  have hni2 : (n : Int) ≤ 12 := by omega
  have HN := Lib.hid hn
  clear hn
  go_enter Tryz.func89, Tryz.ntmps89
  go_wp2
  refine wp_loop_rounds 1 ?_
  rw [rounds_succ]
  go_wp2_with (go_at_call 98; refine (insertion_any _ _ n _ HN.out).mono ?_; rintro e w' ⟨rfl, rfl⟩)
  all_goals ((try simp only [Exit.inBlock, Exit.then]); refine bodyPost_ret (results_none rfl _ _ _) rfl ?_)
  all_goals exact ⟨rfl, rfl⟩
theorem sort_any (ao : Option Addr) (c : Value) (n cap : Nat) (w : World) (hn : n ≤ 1) : Calls Tryz.prog 71 #[.slice ao n cap, c] w fun e w' => e = .returned (.tuple #[]) ∧ w = w' := by
  have hni : (n : Int) ≤ 1 := by omega
  have HN := Lib.hid hn
  clear hn
  go_enter Tryz.func71, Tryz.ntmps71
  go_wp2_with (first
    | (go_at_call 90; refine (Tryz.bits_Len _ _ (by omega) (by have := HN.out; omega)).mono ?_; rintro e w' ⟨rfl, rfl⟩)
    | (go_at_call 89; refine (pdq_any _ _ n _ _ HN.out).mono ?_; rintro e w' ⟨rfl, rfl⟩))
  all_goals go_end0
  all_goals exact ⟨rfl, rfl⟩
end Go.Proofs.YtchmookggegmnaaGreatDoor
namespace Go.Proofs.YtchmookggegmnaaGreatDoor
open Go Go.RowKit
theorem infoAttr : (Tryz.prog.info? 62).map (fun i => (i.zero, i.size, i.bytes)) = some (some (.agg #[.string { data := #[] }, .string { data := #[] }]), 2, 32) := by kernel_rfl
def nv (l : List Att) : List (List UInt8 × List UInt8) := l.map fun a => (a.1.2, a.2)
def AsPost (w : World) (e : Ending) (w' : World) : R (List (List UInt8 × List UInt8)) → Prop
  | .no => False
  | .bad _ => e = .returned (.tuple #[.slice none 0 0, .bool false]) ∧ Kp0 w w'
  | .ok l => ∃ v, e = .returned (.tuple #[v, .bool true]) ∧ w'.ownsRow w.heap.size 62 2 v l.length (prs l) ∧ Kp0 w w'
def known (said : Say) (a : Att) : Bool := (spaceX said a.1.1).2
theorem attrsX_bad {said : Say} {l : List Att} {k : Nat} (h : k < l.length) (hp : (!((l[k]).1.1 == xmlnsC || (l[k]).1.2 == xmlnsC)) = true) (hk : known said (l[k]) = false) : attrsX said l = .bad 3 := by
  unfold attrsX
  rw [if_pos]
  rw [List.all_eq_false]
  refine ⟨l[k], ?_, by rw [show (spaceX said (l[k]).1.1).2 = known said l[k] from rfl, hk]; simp⟩
  unfold plainAtts
  rw [List.mem_filter]
  exact ⟨List.getElem_mem h, hp⟩
theorem attrsX_ok {said : Say} {l : List Att} (h : (plainAtts l).all (known said) = true) (hn : attrsX said l ≠ .no) : attrsX said l = .ok (nv (plainAtts l)) ∧ (nv (plainAtts l)).length ≤ 1 := by
  unfold attrsX at hn ⊢
  have h' : ((plainAtts l).all fun a => (spaceX said a.1.1).2) = true := h
  rw [h', if_neg (by simp)] at hn ⊢
  split at hn
  · exact absurd rfl hn
  · rename_i h2
    rw [if_neg h2]
    refine ⟨rfl, ?_⟩
    unfold nv
    rw [List.length_map]
    omega
theorem plain_snoc (l : List Att) {k : Nat} (h : k < l.length) : plainAtts (l.take (k + 1)) = plainAtts (l.take k) ++ plainAtts [l[k]] := by
  unfold plainAtts
  rw [List.take_succ_eq_append_getElem h, List.filter_append]
theorem nv_len (l : List Att) : (nv (plainAtts l)).length ≤ l.length := by
  unfold nv plainAtts
  rw [List.length_map]
  exact List.length_filter_le _ _
set_option maxRecDepth 20000 in
set_option maxHeartbeats 4000000 in
theorem attrs_any (B : Nat) (Z : Nat → Prop) (b : Nat) (nm : Wn) (ee : Bool) (l : List Att) (s : List UInt8) (said : Say) (vs va : Value) (w : World) (h : XrV B Z w b vs s said) (hr : w.ownsRow B 104 3 va l.length (ats l))
    (hsl : said.length ≤ 100000) (hl : l.length ≤ 32) (hn : attrsX said l ≠ .no) :
    Calls Tryz.prog 57 #[.pointer (some ⟨b, 0, none⟩), .agg #[.string (S nm.1), .string (S nm.2), va, .bool ee]] w fun e w' => AsPost w e w' (attrsX said l) := by
  obtain ⟨ao, cap, rfl, hc1, hc2⟩ := ownK_sl hr
  obtain ⟨L, hL⟩ : ∃ L, L = l.length := ⟨_, rfl⟩
  have HL := Lib.hid hL
  rw [← hL] at hr ⊢
  have H := Lib.hid h
  have HRW := Lib.hid hr
  have HSL := Lib.hid hsl
  have HLL := Lib.hid hl
  have hLi : (L : Int) ≤ 32 := by omega
  obtain ⟨rx, hrx⟩ : ∃ r, r = attrsX said l := ⟨_, rfl⟩
  have HRX := Lib.hid hrx
  rw [← hrx]
  have HN := Lib.hid hn
  clear h hr hsl hl hn hc1 hc2 hL hrx
  go_enter Tryz.func57, Tryz.ntmps57
  go_wp2
  have HK0 : Hid (Kp0 w (w.alloc (.cells #[.string (S nm.1), .string (S nm.2), .slice ao L cap, .bool ee] 79))) := Lib.hid ((Kp.refl _ _).alloc _)
  generalize (w.alloc (.cells #[.string (S nm.1), .string (S nm.2), .slice ao L cap, .bool ee] 79)) = w0 at HK0 ⊢
  go_loopg [6, 15] L (fun gg vl i wr => ∃ (k : Nat) (aq : Option Addr) (nq cq : Nat), i = .int .i64 k ∧ vl = .slice aq nq cq ∧ k ≤ L ∧ gg = L - k ∧ Kp0 w wr ∧ wr.ownsRow w.heap.size 62 2 vl (nv (plainAtts (l.take k))).length (prs (nv (plainAtts (l.take k)))) ∧ (plainAtts (l.take k)).all (known said) = true)
  case atStart => exact ⟨0, none, 0, 0, rfl, rfl, Nat.zero_le _, rfl, HK0.out, World.ownsRow_nil _ _ _ _, rfl⟩
  case round =>
    obtain ⟨k, aq, nq, cq, rfl, rfl, hk, rfl, hkp, how, hall⟩ := hrel
    have HKP := Lib.hid hkp
    have HOW := Lib.hid how
    have HALL := Lib.hid hall
    clear hkp how hall
    by_cases hlt : k < L
    · have hlt' : k < l.length := by rw [← HL.out]; exact hlt
      obtain ⟨g, cp, cur, hv, hb, _, _, hg, hcells⟩ := ownK_pos (own_keep HRW.out HKP.out (fun _ _ h => h)) (by omega)
      simp only [Value.slice.injEq] at hv
      obtain ⟨rfl, -, rfl⟩ := hv
      obtain ⟨q0, q1, q2⟩ := ats_cells hcells hlt'
      obtain ⟨x, hx⟩ : ∃ x, x = l[k] := ⟨_, rfl⟩
      rw [← hx] at q0 q1 q2
      obtain ⟨⟨p, n⟩, v⟩ := x
      simp only [] at q0 q1 q2
      have HX := Lib.hid hx
      clear hcells hg hb hx
      have HSN := Lib.hid (plain_snoc l hlt')
      by_cases hs : (p == xmlnsC || n == xmlnsC) = true
      · have HPS : Hid (plainAtts (l.take (k + 1)) = plainAtts (l.take k)) := Lib.hid (by
          rw [HSN.out, ← HX.out]
          unfold plainAtts
          simp only [List.filter_cons, List.filter_nil, hs]
          simp)
        have hpx : p = xmlnsC ∨ (¬ p = xmlnsC ∧ n = xmlnsC) := by
          by_cases h : p = xmlnsC
          · exact .inl h
          · right
            refine ⟨h, ?_⟩
            simpa [h] using hs
        have HS := Lib.hid hs
        clear hs
        rcases hpx with hp | ⟨hp, hn2⟩
        · have e1 : ((S p).toList == [120, 109, 108, 110, 115]) = true := by rw [S_toList, hp]; rfl
          clear hp
          go_wp2
          go_roundg (L - (k + 1))
          case measure => omega
          case rel => exact ⟨k + 1, aq, nq, cq, by go_num, rfl, by omega, rfl, HKP.out.alloc _, by rw [HPS.out]; exact own_keep HOW.out ((Kp.refl (fun _ => False) wr).alloc _) (fun _ _ h => h), by rw [HPS.out]; exact HALL.out⟩
        · have e1 : ((S p).toList == [120, 109, 108, 110, 115]) = false := by rw [beq_eq_false_iff_ne, S_toList]; exact hp
          have e2 : ((S n).toList == [120, 109, 108, 110, 115]) = true := by rw [S_toList, hn2]; rfl
          clear hp hn2
          go_wp2
          go_roundg (L - (k + 1))
          case measure => omega
          case rel => exact ⟨k + 1, aq, nq, cq, by go_num, rfl, by omega, rfl, HKP.out.alloc _, by rw [HPS.out]; exact own_keep HOW.out ((Kp.refl (fun _ => False) wr).alloc _) (fun _ _ h => h), by rw [HPS.out]; exact HALL.out⟩
      · have hpn : ¬ p = xmlnsC ∧ ¬ n = xmlnsC := by simpa using hs
        have HS : Hid ((!(p == xmlnsC || n == xmlnsC)) = true) := Lib.hid (by simpa using hs)
        have e1 : ((S p).toList == [120, 109, 108, 110, 115]) = false := by rw [beq_eq_false_iff_ne, S_toList]; exact hpn.1
        have e2 : ((S n).toList == [120, 109, 108, 110, 115]) = false := by rw [beq_eq_false_iff_ne, S_toList]; exact hpn.2
        clear hs hpn
        obtain ⟨⟨sp1, kn⟩, hsp⟩ : ∃ r, r = spaceX said p := ⟨_, rfl⟩
        have HSP := Lib.hid hsp.symm
        have HKN : Hid (known said ((p, n), v) = kn) := Lib.hid (by unfold known; rw [← hsp])
        clear hsp
        cases kn with
        | false =>
          have HR : Hid (rx = .bad 3) := Lib.hid (by rw [HRX.out]; exact attrsX_bad hlt' (by rw [← HX.out]; exact HS.out) (by rw [← HX.out]; exact HKN.out))
          go_wp2_with (go_at_call 56; refine (space_any B Z b p s said vs _ (H.out.kp0 (HKP.out.alloc _)) HSL.out).mono ?_; rw [HSP.out]; rintro e3 w3 ⟨rfl, rfl⟩)
          all_goals go_ret2
          all_goals (show AsPost w _ _ _; rw [HR.out]; exact ⟨rfl, HKP.out.alloc _⟩)
        | true =>
          have HPS : Hid (plainAtts (l.take (k + 1)) = plainAtts (l.take k) ++ [((p, n), v)]) := Lib.hid (by
            rw [HSN.out, ← HX.out]
            congr 1
            unfold plainAtts
            simp only [List.filter_cons, List.filter_nil]
            rw [if_pos HS.out])
          have HK2 : Hid (Kp0 wr ((wr.alloc (.cells #[.string (S p), .string (S n), .string (S v)] 104)).alloc (.cells #[.string (S n), .string (S v)] 62))) := Lib.hid (((Kp.refl _ _).alloc _).alloc _)
          have HCE : Hid (∀ j u, (prs [(n, v)])[j]? = some u → ((wr.alloc (.cells #[.string (S p), .string (S n), .string (S v)] 104)).alloc (.cells #[.string (S n), .string (S v)] 62)).cell? ((⟨wr.heap.size + 1, 0, none⟩ : Addr).add j) = some u) := Lib.hid (fun j u hj => by
            rw [Addr.add_lit, Nat.zero_add]
            have hB := blk0 (wr.alloc (.cells #[.string (S p), .string (S n), .string (S v)] 104)) 62 [.string (S n), .string (S v)]
            rw [show (wr.alloc (.cells #[.string (S p), .string (S n), .string (S v)] 104)).heap.size = wr.heap.size + 1 by simp] at hB
            rw [blk_cell hB j, List.getElem?_toArray]
            exact hj)
          have HNL : Hid ((nv (plainAtts (l.take k))).length ≤ 32) := Lib.hid (by
            have h1 := nv_len (l.take k)
            have h2 : (l.take k).length ≤ l.length := by rw [List.length_take]; omega
            have h3 := HLL.out
            omega)
          have HSZ : Hid (w.heap.size ≤ wr.heap.size) := Lib.hid HKP.out.size
          go_wp2_with (first
            | (go_at_call 56; refine (space_any B Z b p s said vs _ (H.out.kp0 (HKP.out.alloc _)) HSL.out).mono ?_; rw [HSP.out]; rintro e3 w3 ⟨rfl, rfl⟩)
            | (at_builtin; refine wl_append_k (o := ⟨some 47, _, _, _, _, _⟩) rfl _ _ 22 rfl Tryz.underlying22 infoAttr rfl (by decide) rfl (own_keep HOW.out HK2.out (fun _ _ h => h)) ⟨wr.heap.size + 1, 0, none⟩ 1 1 (prs [(n, v)]) rfl rfl HCE.out (by intro u hu; simp [prs] at hu; rcases hu with rfl | rfl <;> rfl) (by have := HNL.out; unfold maxLen; omega) (by have := HNL.out; omega) (by have := HSZ.out; simp; omega) ?_; intro v2 w2 ho hk hb hn; obtain ⟨a2, c2, rfl, hc1, hc2⟩ := ownK_sl ho; rw [← prs_app] at ho; have HO2 := Lib.hid ho; have HKW := Lib.hid hk; clear ho hk hb hn hc1 hc2))
          go_roundg (L - (k + 1))
          case measure => omega
          case rel =>
            have hnv : nv (plainAtts (l.take (k + 1))) = nv (plainAtts (l.take k)) ++ [(n, v)] := by rw [HPS.out]; unfold nv; rw [List.map_append]; rfl
            refine ⟨k + 1, _, _, _, by go_num, rfl, by omega, rfl, ?_, ?_, ?_⟩
            · exact ((HKP.out.tr HK2.out).trans HKW.out (fun _ _ h => h) (fun i hi h => by have := (HOW.out.lt i h).1; omega))
            · rw [hnv, List.length_append]
              exact HO2.out
            · rw [HPS.out, List.all_append, HALL.out]
              simp [HKN.out]
    · obtain rfl : k = L := by omega
      have hall : (plainAtts l).all (known said) = true := by have := HALL.out; rwa [HL.out, List.take_of_length_le (Nat.le_refl _)] at this
      have HO := Lib.hid (attrsX_ok hall HN.out)
      have HOW2 : Hid (wr.ownsRow w.heap.size 62 2 (.slice aq nq cq) (nv (plainAtts l)).length (prs (nv (plainAtts l)))) := Lib.hid (by have := HOW.out; rwa [HL.out, List.take_of_length_le (Nat.le_refl _)] at this)
      have hnq : nq = (nv (plainAtts l)).length := by
        obtain ⟨a1, c1, h1, _⟩ := ownK_sl HOW2.out
        simp only [Value.slice.injEq] at h1
        exact h1.2.1
      have HNQ := Lib.hid hnq
      have hn1 : (nq : Int) ≤ 1 := by have := HO.out.2; omega
      have HN1 : Hid (nq ≤ 1) := Lib.hid (by omega)
      have hno : ¬ (1 : Int) < nq := by omega
      clear hall hnq
      have HR : Hid (rx = .ok (nv (plainAtts l))) := Lib.hid (by rw [HRX.out]; exact HO.out.1)
      go_wp2_with (go_at_call 71; refine (sort_any _ _ _ _ _ HN1.out).mono ?_; rintro e3 w3 ⟨rfl, rfl⟩)
      refine wp_loop_rounds 1 ?_
      rw [rounds_succ]
      go_wp2
      all_goals go_ret2
      all_goals (show AsPost w _ _ _; rw [HR.out]; exact ⟨_, rfl, HOW2.out, HKP.out⟩)
end Go.Proofs.YtchmookggegmnaaGreatDoor
namespace Go.Proofs.YtchmookggegmnaaGreatDoor
open Go Go.RowKit
abbrev ez : List Value := [.string { data := #[] }, .string { data := #[] }, .slice none 0 0, .string { data := #[] }, .slice none 0 0]
/-- A tag as a value; its attributes' row. -/
structure TgW (B : Nat) (w : World) (b : Nat) (vs va : Value) (t : Tg) : Prop where
  ow : w.ownsRow B 104 3 va t.attrs.length (ats t.attrs)
  n1 : ∀ g, va.ownBlock = some g → g ≠ b
  n2 : ∀ g, va.ownBlock = some g → vs.ownBlock ≠ some g
  le : t.attrs.length ≤ 32
def BgPost (B : Nat) (Z : Nat → Prop) (b : Nat) (s : List UInt8) (vs : Value) (w : World) (e : Ending) (w' : World) : R (Say × PE) → Prop
  | .no => False
  | .bad _ => e = .returned (.tuple #[.agg ez.toArray, .bool false]) ∧ Kp (fun g => g = b ∨ vs.ownBlock = some g) w w'
  | .ok (said, .mk sp nm at_ _ _) => ∃ vs' v, e = .returned (.tuple #[.agg #[.string (S sp), .string (S nm), v, .string { data := #[] }, .slice none 0 0], .bool true]) ∧ XrV B Z w' b vs' s said ∧
      (∀ g, vs'.ownBlock = some g → vs.ownBlock = some g ∨ w.heap.size ≤ g) ∧ w'.ownsRow w.heap.size 62 2 v at_.length (prs at_) ∧ (∀ g, v.ownBlock = some g → vs'.ownBlock ≠ some g) ∧ said.length ≤ 100000 ∧ Kp (fun g => g = b ∨ vs.ownBlock = some g) w w'
theorem hearsX_len : ∀ (l : List Att) (s s' : Say), hearsX s l = some s' → s'.length ≤ s.length + l.length
  | [], s, s', h => by cases h; simp
  | a :: l, s, s', h => by
    unfold hearsX at h
    cases h1 : hearX s a with
    | none => rw [h1] at h; cases h
    | some s1 =>
      rw [h1] at h
      have h2 := hearsX_len l s1 s' h
      have h3 : s1.length ≤ s.length + 1 := by
        unfold hearX at h1
        repeat' split at h1
        all_goals first | (cases h1; done) | (cases h1; simp)
      simp only [List.length_cons]
      omega
theorem kp_set5 (w : World) (g : Nat) (x0 x1 x2 x3 x4 : Value) : Kp (fun i => i = g) w (((((w.setCell ⟨g, 0, none⟩ x0).setCell ⟨g, 1, none⟩ x1).setCell ⟨g, 2, none⟩ x2).setCell ⟨g, 3, none⟩ x3).setCell ⟨g, 4, none⟩ x4) :=
  (((((Kp.refl (fun i => i = g) w).setCell (p := ⟨g, 0, none⟩) (fun _ => rfl) x0).setCell (p := ⟨g, 1, none⟩) (fun _ => rfl) x1).setCell (p := ⟨g, 2, none⟩) (fun _ => rfl) x2).setCell (p := ⟨g, 3, none⟩) (fun _ => rfl) x3).setCell (p := ⟨g, 4, none⟩) (fun _ => rfl) x4
theorem kp_hear {B b : Nat} {vs vk : Value} {w0 wr w1 : World} (h : Kp (fun g => g = b ∨ vs.ownBlock = some g) w0 wr) (k : Kp (fun g => g = b ∨ vk.ownBlock = some g) wr w1) (hv : ∀ g, vk.ownBlock = some g → vs.ownBlock = some g ∨ w0.heap.size ≤ g) : Kp (fun g => g = b ∨ vs.ownBlock = some g) w0 w1 :=
  have _hB := B
  h.trans k (fun _ _ h => h) (fun i hi h => h.elim .inl (fun e => (hv i e).elim .inr (fun h => by omega)))
theorem own_base {B B' e k n : Nat} {w : World} {v : Value} {xs : List Value} (h : w.ownsRow B e k v n xs) (hb : B' ≤ B) : w.ownsRow B' e k v n xs :=
  ⟨h.1, h.2.imp id fun ⟨g, cap, cur, h1, h2, h3⟩ => ⟨g, cap, cur, h1, Nat.le_trans hb h2, h3⟩⟩
set_option maxRecDepth 20000 in
set_option maxHeartbeats 4000000 in
theorem begin_any (B : Nat) (Z : Nat → Prop) (b : Nat) (t : Tg) (s : List UInt8) (said : Say) (vs va : Value) (w : World) (h : XrV B Z w b vs s said) (ht : TgW B w b vs va t) (hsl : said.length ≤ 90000) (hn : beginX said t ≠ .no) :
    Calls Tryz.prog 39 #[.pointer (some ⟨b, 0, none⟩), .agg #[.string (S t.name.1), .string (S t.name.2), va, .bool t.empty]] w fun e w' => BgPost B Z b s vs w e w' (beginX said t) := by
  obtain ⟨⟨p, n⟩, l, ee⟩ := t
  obtain ⟨ao, nl, cap, rfl⟩ : ∃ ao nl cap, va = .slice ao nl cap := by obtain ⟨ao, cap, h, _⟩ := ownK_sl ht.ow; exact ⟨_, _, _, h⟩
  have hnl : nl = l.length := by obtain ⟨a1, c1, h1, _⟩ := ownK_sl ht.ow; simp only [Value.slice.injEq] at h1; exact h1.2.1
  have HNL := Lib.hid hnl
  have H := Lib.hid h
  have HT := Lib.hid ht
  have HSL := Lib.hid hsl
  have hnli : (nl : Int) ≤ 32 := by have := ht.le; simp only [] at this; omega
  obtain ⟨rx, hrx⟩ : ∃ r, r = beginX said ⟨(p, n), l, ee⟩ := ⟨_, rfl⟩
  have HRX := Lib.hid hrx
  rw [← hrx] at hn ⊢
  have HN := Lib.hid hn
  have hlt := h.lt
  obtain ⟨g0, hg0⟩ : ∃ g, g = w.heap.size + 1 := ⟨_, rfl⟩
  obtain ⟨gt, hgt⟩ : ∃ g, g = w.heap.size := ⟨_, rfl⟩
  have HG : Hid (g0 = w.heap.size + 1 ∧ gt = w.heap.size ∧ b < w.heap.size) := Lib.hid ⟨hg0, hgt, hlt⟩
  have hz : (w.alloc (.cells #[.string (S p), .string (S n), .slice ao nl cap, .bool ee] 79)).heap.size = w.heap.size + 1 := by simp
  have HK0 : Hid (Kp0 w ((w.alloc (.cells #[.string (S p), .string (S n), .slice ao nl cap, .bool ee] 79)).alloc (.cells ez.toArray 25))) := Lib.hid (((Kp.refl _ _).alloc _).alloc _)
  have HBT : Hid (Blk ((w.alloc (.cells #[.string (S p), .string (S n), .slice ao nl cap, .bool ee] 79)).alloc (.cells ez.toArray 25)) gt 79 [.string (S p), .string (S n), .slice ao nl cap, .bool ee]) := Lib.hid (by rw [hgt]; exact (blk0 w _ _).kp0 ((Kp.refl _ _).alloc _))
  have HBE : Hid (Blk ((w.alloc (.cells #[.string (S p), .string (S n), .slice ao nl cap, .bool ee] 79)).alloc (.cells ez.toArray 25)) g0 25 ez) := Lib.hid (by
    have := blk0 (w.alloc (.cells #[.string (S p), .string (S n), .slice ao nl cap, .bool ee] 79)) 25 ez
    rw [hz, ← hg0] at this
    exact this)
  have HZ0 : Hid (((w.alloc (.cells #[.string (S p), .string (S n), .slice ao nl cap, .bool ee] 79)).alloc (.cells ez.toArray 25)).heap.size = w.heap.size + 2) := Lib.hid (by simp)
  clear h ht hsl hn hrx hlt hnl hz
  go_enter Tryz.func39, Tryz.ntmps39
  go_wp2
  rw [← hg0, ← hgt]
  clear hg0 hgt
  generalize ((w.alloc (.cells #[.string (S p), .string (S n), .slice ao nl cap, .bool ee] 79)).alloc (.cells ez.toArray 25)) = w0 at HK0 HBT HBE HZ0 ⊢
  go_loopg [14] nl (fun gg i wr => ∃ (k : Nat) (vk : Value) (sk : Say), i = .int .i64 k ∧ k ≤ nl ∧ gg = nl - k ∧ XrV B Z wr b vk s sk ∧ hearsX sk (l.drop k) = hearsX said l ∧ (∀ g, vk.ownBlock = some g → vs.ownBlock = some g ∨ w0.heap.size ≤ g) ∧ Kp (fun g => g = b ∨ vs.ownBlock = some g) w0 wr ∧ sk.length ≤ said.length + k)
  case atStart => exact ⟨0, vs, said, rfl, Nat.zero_le _, rfl, H.out.kp0 HK0.out, by rw [List.drop_zero], fun g hg => .inl hg, Kp.refl _ _, Nat.le_refl _⟩
  case round =>
    obtain ⟨k, vk, sk, rfl, hk, rfl, hx, hhs, hvk, hkp, hsk⟩ := hrel
    have HX := Lib.hid hx
    have HHS := Lib.hid hhs
    have HVK := Lib.hid hvk
    have HKP := Lib.hid hkp
    have HSK := Lib.hid hsk
    clear hx hhs hvk hkp hsk
    have HBE1 : Hid (Blk wr g0 25 ez) := Lib.hid (HBE.out.keep HKP.out (by
      rintro (e | e)
      · have := HG.out; omega
      · have := (H.out.ow.lt _ e).2; have := HG.out; omega))
    have HBT1 : Hid (Blk wr gt 79 [.string (S p), .string (S n), .slice ao nl cap, .bool ee]) := Lib.hid (HBT.out.keep HKP.out (by
      rintro (e | e)
      · have := HG.out; omega
      · have := (H.out.ow.lt _ e).2; have := HG.out; omega))
    by_cases hlt : k < nl
    · have hlt' : k < l.length := by rw [← HNL.out]; exact hlt
      have hrow := own_keep HT.out.ow (HK0.out.in0 HKP.out) (fun g hg e => e.elim (HT.out.n1 g hg) (HT.out.n2 g hg))
      obtain ⟨g, cp, cur, hv, hb, _, _, hg, hcells⟩ := ownK_pos hrow (by simp only []; omega)
      simp only [Value.slice.injEq] at hv
      obtain ⟨rfl, -, rfl⟩ := hv
      obtain ⟨q0, q1, q2⟩ := ats_cells hcells hlt'
      obtain ⟨x, hx⟩ : ∃ x, x = l[k] := ⟨_, rfl⟩
      rw [← hx] at q0 q1 q2
      obtain ⟨⟨p', n'⟩, v'⟩ := x
      simp only [] at q0 q1 q2
      have HXE := Lib.hid hx
      have HDR : Hid (hearsX said l = match hearX sk ((p', n'), v') with | none => none | some s1 => hearsX s1 (l.drop (k + 1))) := Lib.hid (by
        rw [← HHS.out, List.drop_eq_getElem_cons hlt', ← hx]
        rfl)
      have HSL1 : Hid (sk.length ≤ 100000) := Lib.hid (by have h1 := HSK.out; have h2 := HSL.out; omega)
      clear hcells hg hb hx hrow
      obtain ⟨hr, hhr⟩ : ∃ r, r = hearX sk ((p', n'), v') := ⟨_, rfl⟩
      have HHR := Lib.hid hhr.symm
      have HKA : Hid (Kp0 wr (wr.alloc (.cells #[.string (S p'), .string (S n'), .string (S v')] 104))) := Lib.hid ((Kp.refl _ _).alloc _)
      cases hr with
      | none =>
        have HR : Hid (rx = .bad 3) := Lib.hid (by rw [HRX.out]; unfold beginX; rw [HDR.out, ← hhr])
        clear hhr
        go_wp2_with fail
        refine (hear_any B Z b ((p', n'), v') s sk vk _ (HX.out.kp0 HKA.out) HSL1.out).mono ?_
        rw [HHR.out]
        rintro e1 w1 ⟨rfl, hk1⟩
        have HK1 := Lib.hid (HKA.out.in0 hk1)
        clear hk1
        have hbe2 : Blk w1 g0 25 ez := HBE1.out.keep HK1.out (by
          rintro (e | e)
          · have := HG.out; omega
          · rcases HVK.out _ e with h | h
            · have := (H.out.ow.lt _ h).2; have := HG.out; omega
            · have h1 := HZ0.out; have := HG.out; omega)
        have q0 := hbe2.cellV 0 rfl
        have q1 := hbe2.cellV 1 rfl
        have q2 := hbe2.cellV 2 rfl
        have q3 := hbe2.cellV 3 rfl
        have q4 := hbe2.cellV 4 rfl
        have f0 := blk_frozen hbe2 0
        have f1 := blk_frozen hbe2 1
        have f2 := blk_frozen hbe2 2
        have f3 := blk_frozen hbe2 3
        have f4 := blk_frozen hbe2 4
        clear hbe2
        go_wp2
        refine bodyPost_ret (v := .tuple #[.agg ez.toArray, .bool false]) (by simp [results, Tryz.results39, go_sem, q0, q1, q2, q3, q4]) rfl ?_
        show BgPost B Z b s vs w _ _ _
        rw [HR.out]
        exact ⟨rfl, (HK0.out.in0 (kp_hear (B := B) HKP.out HK1.out HVK.out)).new (kp_set5 _ g0 _ _ _ _ _) (fun i e => by have := HG.out; omega)⟩
      | some s1 =>
        have HD1 : Hid (hearsX s1 (l.drop (k + 1)) = hearsX said l) := Lib.hid (by rw [HDR.out, ← hhr])
        clear hhr
        go_wp2_with fail
        refine (hear_any B Z b ((p', n'), v') s sk vk _ (HX.out.kp0 HKA.out) HSL1.out).mono ?_
        rw [HHR.out]
        rintro e1 w1 ⟨rfl, ⟨v1, hx1, hv1⟩, hk1⟩
        have HX1 := Lib.hid hx1
        have HV1 := Lib.hid hv1
        have HK1 := Lib.hid (HKA.out.in0 hk1)
        have HSZA := Lib.hid HKA.out.size
        have HL1 : Hid (s1.length ≤ said.length + (k + 1)) := Lib.hid (by
          have h1 := hearsX_len [((p', n'), v')] sk s1 (by show (match hearX sk ((p', n'), v') with | none => none | some s => some s) = _; rw [HHR.out])
          have h2 := HSK.out
          simp only [List.length_singleton] at h1
          omega)
        clear hx1 hv1 hk1
        go_wp2
        go_roundg (nl - (k + 1))
        case measure => omega
        case rel => exact ⟨k + 1, v1, s1, by go_num, by omega, rfl, HX1.out, HD1.out, fun g hg => by
          rcases HV1.out g hg with h | h
          · exact HVK.out g h
          · have h1 := HKP.out.size; have h2 := HSZA.out; exact .inr (by omega), kp_hear (B := B) HKP.out HK1.out HVK.out, HL1.out⟩
    · obtain rfl : k = nl := by omega
      have HHE : Hid (hearsX said l = some sk) := Lib.hid (by rw [← HHS.out, HNL.out, List.drop_eq_nil_of_le (Nat.le_refl _)]; rfl)
      have HSL1 : Hid (sk.length ≤ 100000) := Lib.hid (by have h1 := HSK.out; have h2 := HSL.out; omega)
      have t0 := HBT1.out.cellV 0 rfl
      have t1 := HBT1.out.cellV 1 rfl
      have t2 := HBT1.out.cellV 2 rfl
      have t3 := HBT1.out.cellV 3 rfl
      obtain ⟨⟨sp, kn⟩, hsp⟩ : ∃ r, r = spaceX sk p := ⟨_, rfl⟩
      have HSP := Lib.hid hsp.symm
      cases kn with
      | false =>
        have HR : Hid (rx = .bad 3) := Lib.hid (by rw [HRX.out]; unfold beginX; simp only []; rw [HHE.out]; simp only []; rw [← hsp]; rfl)
        clear hsp
        go_wp2_with fail
        refine (space_any B Z b p s sk vk _ HX.out HSL1.out).mono ?_
        rw [HSP.out]
        rintro e3 w3 ⟨rfl, rfl⟩
        obtain ⟨w1, hw1⟩ : ∃ x, x = wr := ⟨_, rfl⟩
        have HK1 : Hid (Kp (fun g => g = b ∨ vk.ownBlock = some g) wr w1) := Lib.hid (by rw [hw1]; exact Kp.refl _ _)
        rw [← hw1]
        clear hw1
        have hbe2 : Blk w1 g0 25 ez := HBE1.out.keep HK1.out (by
          rintro (e | e)
          · have := HG.out; omega
          · rcases HVK.out _ e with h | h
            · have := (H.out.ow.lt _ h).2; have := HG.out; omega
            · have h1 := HZ0.out; have := HG.out; omega)
        have q0 := hbe2.cellV 0 rfl
        have q1 := hbe2.cellV 1 rfl
        have q2 := hbe2.cellV 2 rfl
        have q3 := hbe2.cellV 3 rfl
        have q4 := hbe2.cellV 4 rfl
        have f0 := blk_frozen hbe2 0
        have f1 := blk_frozen hbe2 1
        have f2 := blk_frozen hbe2 2
        have f3 := blk_frozen hbe2 3
        have f4 := blk_frozen hbe2 4
        clear hbe2
        go_wp2
        refine bodyPost_ret (v := .tuple #[.agg ez.toArray, .bool false]) (by simp [results, Tryz.results39, go_sem, q0, q1, q2, q3, q4]) rfl ?_
        show BgPost B Z b s vs w _ _ _
        rw [HR.out]
        exact ⟨rfl, (HK0.out.in0 (kp_hear (B := B) HKP.out HK1.out HVK.out)).new (kp_set5 _ g0 _ _ _ _ _) (fun i e => by have := HG.out; omega)⟩
      | true =>
        have hbx : rx = (attrsX sk l).bind fun x => .ok (sk, .mk sp n x [] []) := by rw [HRX.out]; unfold beginX; simp only []; rw [HHE.out]; simp only []; rw [← hsp]; rfl
        have HBX := Lib.hid hbx
        clear hsp hbx
        have HAN : Hid (attrsX sk l ≠ .no) := Lib.hid (fun e => HN.out (by rw [HBX.out, e]; rfl))
        have HLL : Hid (l.length ≤ 32) := Lib.hid HT.out.le
        have HROW := Lib.hid (own_keep HT.out.ow (HK0.out.in0 HKP.out) (fun g hg e => e.elim (HT.out.n1 g hg) (HT.out.n2 g hg)))
        obtain ⟨ax, hax⟩ : ∃ a, a = attrsX sk l := ⟨_, rfl⟩
        have HAX : Hid (attrsX sk l = ax) := Lib.hid hax.symm
        clear hax
        cases ax with
        | no => exact absurd HAX.out HAN.out
        | bad ea =>
          have HR : Hid (rx = .bad ea) := Lib.hid (by rw [HBX.out, HAX.out]; rfl)
          go_wp2_with fail
          refine (space_any B Z b p s sk vk _ HX.out HSL1.out).mono ?_
          rw [HSP.out]
          rintro e3 w3 ⟨rfl, rfl⟩
          go_wp2_with fail
          refine (attrs_any B Z b (p, n) ee l s sk vk _ _ HX.out HROW.out HSL1.out HLL.out HAN.out).mono ?_
          rw [HAX.out]
          rintro e4 w1 ⟨rfl, hk4⟩
          have HK1 := Lib.hid (hk4.nil (fun g => g = b ∨ vk.ownBlock = some g))
          clear hk4
          have hbe2 : Blk w1 g0 25 ez := HBE1.out.keep HK1.out (by
            rintro (e | e)
            · have := HG.out; omega
            · rcases HVK.out _ e with h | h
              · have := (H.out.ow.lt _ h).2; have := HG.out; omega
              · have h1 := HZ0.out; have := HG.out; omega)
          have q0 := hbe2.cellV 0 rfl
          have q1 := hbe2.cellV 1 rfl
          have q2 := hbe2.cellV 2 rfl
          have q3 := hbe2.cellV 3 rfl
          have q4 := hbe2.cellV 4 rfl
          have f0 := blk_frozen hbe2 0
          have f1 := blk_frozen hbe2 1
          have f2 := blk_frozen hbe2 2
          have f3 := blk_frozen hbe2 3
          have f4 := blk_frozen hbe2 4
          clear hbe2
          go_wp2
          refine bodyPost_ret (v := .tuple #[.agg ez.toArray, .bool false]) (by simp [results, Tryz.results39, go_sem, q0, q1, q2, q3, q4]) rfl ?_
          show BgPost B Z b s vs w _ _ _
          rw [HR.out]
          exact ⟨rfl, (HK0.out.in0 (kp_hear (B := B) HKP.out HK1.out HVK.out)).new (kp_set5 _ g0 _ _ _ _ _) (fun i e => by have := HG.out; omega)⟩
        | ok at_ =>
          have HR : Hid (rx = .ok (sk, .mk sp n at_ [] [])) := Lib.hid (by rw [HBX.out, HAX.out]; rfl)
          go_wp2_with fail
          refine (space_any B Z b p s sk vk _ HX.out HSL1.out).mono ?_
          rw [HSP.out]
          rintro e3 w3 ⟨rfl, rfl⟩
          go_wp2_with fail
          refine (attrs_any B Z b (p, n) ee l s sk vk _ _ HX.out HROW.out HSL1.out HLL.out HAN.out).mono ?_
          rw [HAX.out]
          rintro e4 w4 ⟨v4, rfl, ho4, hk4⟩
          have HK4 := Lib.hid hk4
          have HO4 := Lib.hid ho4
          obtain ⟨a4, n4, c4, rfl⟩ : ∃ a n c, v4 = .slice a n c := by obtain ⟨a4, c4, h, _⟩ := ownK_sl ho4; exact ⟨_, _, _, h⟩
          have HX4 := Lib.hid (HX.out.kp0 hk4)
          have hbe4 := HBE1.out.kp0 hk4
          have hbt4 := HBT1.out.kp0 hk4
          have t0 := hbt4.cellV 0 rfl
          have t1 := hbt4.cellV 1 rfl
          have q0 := hbe4.cellV 0 rfl
          have q1 := hbe4.cellV 1 rfl
          have q2 := hbe4.cellV 2 rfl
          have q3 := hbe4.cellV 3 rfl
          have q4 := hbe4.cellV 4 rfl
          have f0 := blk_frozen hbe4 0
          have f1 := blk_frozen hbe4 1
          have f2 := blk_frozen hbe4 2
          have f3 := blk_frozen hbe4 3
          have f4 := blk_frozen hbe4 4
          clear hk4 ho4 hbe4 hbt4
          go_wp2
          refine bodyPost_ret (v := .tuple #[.agg #[.string (S sp), .string (S n), .slice a4 n4 c4, .string { data := #[] }, .slice none 0 0], .bool true]) (by simp [results, Tryz.results39, go_sem, q0, q1, q2, q3, q4]) rfl ?_
          show BgPost B Z b s vs w _ _ _
          rw [HR.out]
          have hsz : w.heap.size ≤ wr.heap.size := Nat.le_trans HK0.out.size HKP.out.size
          have hg0w : g0 < wr.heap.size := HBE1.out.lt
          refine ⟨vk, .slice a4 n4 c4, rfl, HX4.out.keep (kp_set5 _ g0 _ _ _ _ _) ?_ ?_ ?_, ?_, own_base (own_keep HO4.out (kp_set5 _ g0 _ _ _ _ _) (fun g hg e => ?_)) hsz, ?_, HSL1.out, ?_⟩
          · have := HG.out; omega
          · intro g hg e
            rcases HVK.out g hg with h | h
            · have := (H.out.ow.lt _ h).2; have := HG.out; omega
            · have h1 := HZ0.out; have := HG.out; omega
          · have h1 := H.out.mb; have := HG.out; omega
          · intro g hg
            rcases HVK.out g hg with h | h
            · exact .inl h
            · have h1 := HZ0.out; exact .inr (by omega)
          · have := (HO4.out.lt g hg).1
            omega
          · intro g hg e
            have h1 := (HO4.out.lt g hg).1
            have h2 := (HX.out.ow.lt g e).2
            omega
          · exact ((HK0.out.in0 HKP.out).tr (HK4.out.nil _)).new (kp_set5 _ g0 _ _ _ _ _) (fun i e => by have := HG.out; omega)
end Go.Proofs.YtchmookggegmnaaGreatDoor
namespace Go.Proofs.YtchmookggegmnaaGreatDoor
open Go Go.RowKit
theorem hasBC (x y : Value) : HasB 109 ([x, y].length + 2) := by show HasB 109 4; unfold HasB; kernel_rfl
/-- Where finished elements lie: in new blocks, but for those that still change. -/
def FC (w0 w : World) (cb : Nat) (vs v vk : Value) : Nat → Prop := fun i => w0.heap.size ≤ i ∧ i < w.heap.size ∧ i ≠ cb ∧ vs.ownBlock ≠ some i ∧ v.ownBlock ≠ some i ∧ vk.ownBlock ≠ some i
/-- What may change while an element's content is read. -/
abbrev SP (w0 : World) (b : Nat) (vs : Value) : Nat → Prop := fun g => g = b ∨ vs.ownBlock = some g ∨ w0.heap.size ≤ g
structure RC (B : Nat) (Z : Nat → Prop) (w0 w : World) (b cb : Nat) (vs p v vk : Value) (l : List UInt8) (said : Say) (c : Ct) (kc : List Value) : Prop where
  x : XrV B Z w b vs l said
  bb : Bb 109 w0.heap.size w cb p v [.bool c.solid, vk] c.text
  kr : w.ownsRow w0.heap.size 25 5 vk c.kids.length kc
  ks : ElsV (FC w0 w cb vs v vk) w c.kids kc
  n2 : vs.ownBlock ≠ some cb
  n3 : ∀ g, v.ownBlock = some g → vs.ownBlock ≠ some g ∧ vk.ownBlock ≠ some g
  n4 : ∀ g, vk.ownBlock = some g → g ≠ cb ∧ vs.ownBlock ≠ some g
  b0 : b < w0.heap.size
  w0 : w0.heap.size ≤ w.heap.size
section
variable {B : Nat} {Z : Nat → Prop} {w0 w w1 : World} {b cb : Nat} {vs p v vk : Value} {l l1 : List UInt8} {said : Say} {c : Ct} {kc : List Value}
theorem RC.mb (h : RC B Z w0 w b cb vs p v vk l said c kc) : 2 < b := by have h1 := h.x.gb; have h2 := h.x.ge; omega
theorem FC.mono {vs' v' vk' : Value} (hsz : w.heap.size ≤ w1.heap.size) (h1 : ∀ g, vs'.ownBlock = some g → vs.ownBlock = some g ∨ w.heap.size ≤ g) (h2 : ∀ g, v'.ownBlock = some g → v.ownBlock = some g ∨ w.heap.size ≤ g) (h3 : ∀ g, vk'.ownBlock = some g → vk.ownBlock = some g ∨ w.heap.size ≤ g) :
    ∀ i, FC w0 w cb vs v vk i → FC w0 w1 cb vs' v' vk' i := by
  rintro i ⟨f1, f2, f3, f4, f5, f6⟩
  refine ⟨f1, by omega, f3, fun e => ?_, fun e => ?_, fun e => ?_⟩
  · exact (h1 i e).elim f4 (fun h => by omega)
  · exact (h2 i e).elim f5 (fun h => by omega)
  · exact (h3 i e).elim f6 (fun h => by omega)
theorem RC.kp0 (h : RC B Z w0 w b cb vs p v vk l said c kc) (hk : Kp0 w w1) : RC B Z w0 w1 b cb vs p v vk l said c kc :=
  ⟨h.x.kp0 hk, h.bb.kp0 hk, own_keep h.kr hk (fun _ _ h => h), ElsV.keep hk (fun _ _ h => h) (FC.mono hk.size (fun _ => .inl) (fun _ => .inl) (fun _ => .inl)) _ _ h.ks, h.n2, h.n3, h.n4, h.b0, Nat.le_trans h.w0 hk.size⟩
/-- The reader read on. -/
theorem RC.read (h : RC B Z w0 w b cb vs p v vk l said c kc) (hx : XrV B Z w1 b vs l1 said) (hk : Kp (fun g => g = b) w w1) : RC B Z w0 w1 b cb vs p v vk l1 said c kc := by
  have hb := h.b0
  have hg := h.bb.ge
  refine ⟨hx, h.bb.keep hk (by show ¬ cb = b; omega) (fun g hg' e => ?_), own_keep h.kr hk (fun g hg' e => ?_), ElsV.keep hk (fun i hi e => ?_) (FC.mono hk.size (fun _ => .inl) (fun _ => .inl) (fun _ => .inl)) _ _ h.ks, h.n2, h.n3, h.n4, h.b0, Nat.le_trans h.w0 hk.size⟩
  · have := (h.bb.ow.lt g hg').1; omega
  · have := (h.kr.lt g hg').1; omega
  · have := hi.1; omega
/-- The builder was written to. -/
theorem RC.write {p' v' : Value} {l' : List UInt8} (h : RC B Z w0 w b cb vs p v vk l said c kc) (hb : Bb 109 w0.heap.size w1 cb p' v' [.bool c.solid, vk] l') (hk : Kp (fun g => g = cb ∨ v.ownBlock = some g) w w1) (hv : ∀ g, v'.ownBlock = some g → v.ownBlock = some g ∨ w.heap.size ≤ g) :
    RC B Z w0 w1 b cb vs p' v' vk l said ⟨l', c.solid, c.kids⟩ kc := by
  have hb0 := h.b0
  have hge := h.bb.ge
  have hmb := h.mb
  refine ⟨h.x.keep hk ?_ ?_ ?_, hb, own_keep h.kr hk (fun g hg e => ?_), ElsV.keep hk (fun i hi e => ?_) (FC.mono hk.size (fun _ => .inl) hv (fun _ => .inl)) _ _ h.ks, h.n2, fun g hg => ?_, h.n4, h.b0, Nat.le_trans h.w0 hk.size⟩
  · rintro (e | e)
    · omega
    · have := (h.bb.ow.lt _ e).1; omega
  · rintro g hg (e | e)
    · subst e; exact h.n2 hg
    · exact (h.n3 g e).1 hg
  · rintro (e | e)
    · omega
    · have : w0.heap.size ≤ 2 := (h.bb.ow.lt _ e).1
      omega
  · rcases e with e | e
    · exact (h.n4 g hg).1 e
    · exact (h.n3 g e).2 hg
  · rcases e with e | e
    · exact hi.2.2.1 e
    · exact hi.2.2.2.2.1 e
  · rcases hv g hg with e | e
    · exact h.n3 g e
    · refine ⟨fun e2 => ?_, fun e2 => ?_⟩
      · have := (h.x.ow.lt g e2).2; omega
      · have := (h.kr.lt g e2).2; omega
/-- Solid or not. -/
theorem RC.solid (h : RC B Z w0 w b cb vs p v vk l said c kc) (s : Bool) : RC B Z w0 (w.setCell ⟨cb, 2, none⟩ (.bool s)) b cb vs p v vk l said ⟨c.text, s, c.kids⟩ kc ∧ Kp (fun g => g = cb) w (w.setCell ⟨cb, 2, none⟩ (.bool s)) := by
  have hk : Kp (fun g => g = cb) w (w.setCell ⟨cb, 2, none⟩ (.bool s)) := (Kp.refl (fun g => g = cb) w).setCell (p := ⟨cb, 2, none⟩) (fun _ => rfl) _
  have hb0 := h.b0
  have hge := h.bb.ge
  have hmb := h.mb
  refine ⟨⟨h.x.keep hk (by show ¬ b = cb; omega) ?_ (by show ¬ 2 = cb; omega), ⟨h.bb.blk.set' 2 (.bool s), h.bb.ow.keep hk (fun g hg _ _ e => h.bb.ne g hg e), h.bb.pp, h.bb.ge, h.bb.ne, h.bb.nl⟩, own_keep h.kr hk (fun g hg e => (h.n4 g hg).1 e), ElsV.keep hk (fun i hi e => hi.2.2.1 e) (FC.mono hk.size (fun _ => .inl) (fun _ => .inl) (fun _ => .inl)) _ _ h.ks, h.n2, h.n3, h.n4, h.b0, Nat.le_trans h.w0 hk.size⟩, hk⟩
  intro g hg e
  subst e
  exact h.n2 hg
theorem RC.sp (h : RC B Z w0 w b cb vs p v vk l said c kc) {S : Nat → Prop} (hk : Kp S w w1) (hS : ∀ i, S i → i = b ∨ i = cb ∨ v.ownBlock = some i ∨ vk.ownBlock = some i ∨ vs.ownBlock = some i) : Kp (SP w0 b vs) w w1 :=
  hk.mono (fun i _ hi => by
    have hge := h.bb.ge
    rcases hS i hi with e | e | e | e | e
    · exact .inl e
    · exact .inr (.inr (by omega))
    · exact .inr (.inr (h.bb.ow.lt i e).1)
    · exact .inr (.inr (h.kr.lt i e).1)
    · exact .inr (.inl e))
end
theorem blank_any (l : List UInt8) (w : World) (hl : l.length ≤ 16384) : Calls Tryz.prog 92 #[.string (S l)] w fun e w' => e = .returned (.bool (allBlank l)) ∧ Kp0 w w' := by
  obtain ⟨t, ht⟩ : ∃ t, t = Lib.trimS l [32, 9, 10, 13] := ⟨_, rfl⟩
  have HT := Lib.hid ht
  have HS : Hid ((S l).size ≤ 9223372036854775807) := Lib.hid (by rw [S_size]; omega)
  have HR : Hid (allBlank l = (t == [])) := Lib.hid (by unfold allBlank; rw [ht])
  rw [HR.out]
  clear ht hl
  cases t with
  | nil =>
    have e0 : (S ([] : List UInt8)).toList = [] := S_toList _
    go_enter Tryz.func92, Tryz.ntmps92
    go_wp2_with (go_at_call 30; refine (Any.strings_Trim_laid Tryz.lays160 (by kernel_rfl) (S l) _ _ HS.out (by decide) blanks_lit).mono ?_; (show ∀ (e : Ending) (w' : World), e = .returned (.string (S (Lib.trimS (S l).data.toList [32, 9, 10, 13]))) ∧ _ → _); rw [S_data, ← HT.out]; rintro e w1 ⟨rfl, hb⟩; have HB := Lib.hid hb; clear hb)
    go_ret
    exact ⟨rfl, (Kp.of_below HB.out).mono (fun i hi h2 => absurd hi (Nat.not_lt.2 h2))⟩
  | cons a t =>
    have e0 : (S (a :: t)).toList.isEmpty = false := by rw [S_toList]; rfl
    have e1 : ((S (a :: t)).toList == []) = false := by rw [S_toList]; rfl
    go_enter Tryz.func92, Tryz.ntmps92
    go_wp2_with (go_at_call 30; refine (Any.strings_Trim_laid Tryz.lays160 (by kernel_rfl) (S l) _ _ HS.out (by decide) blanks_lit).mono ?_; (show ∀ (e : Ending) (w' : World), e = .returned (.string (S (Lib.trimS (S l).data.toList [32, 9, 10, 13]))) ∧ _ → _); rw [S_data, ← HT.out]; rintro e w1 ⟨rfl, hb⟩; have HB := Lib.hid hb; clear hb)
    go_ret
    exact ⟨rfl, (Kp.of_below HB.out).mono (fun i hi h2 => absurd hi (Nat.not_lt.2 h2))⟩
end Go.Proofs.YtchmookggegmnaaGreatDoor
namespace Go.Proofs.YtchmookggegmnaaGreatDoor
open Go Go.RowKit
/-- What a part of a content leaves. -/
def CtPost (B : Nat) (Z : Nat → Prop) (w0 : World) (b cb : Nat) (vs : Value) (said : Say) (w : World) (w' : World) (c : Ct) (l : List UInt8) : Prop :=
  ∃ vs' p v vk kc, RC B Z w0 w' b cb vs' p v vk l said c kc ∧ (∀ g, vs'.ownBlock = some g → vs.ownBlock = some g ∨ w0.heap.size ≤ g) ∧ Kp (SP w0 b vs) w w'
def TxPost (B : Nat) (Z : Nat → Prop) (w0 : World) (b cb : Nat) (vs : Value) (said : Say) (w : World) (e : Ending) (w' : World) : R (Ct × List UInt8) → Prop
  | .no => False
  | .bad _ => e = .returned (.bool false) ∧ Kp (SP w0 b vs) w w'
  | .ok (c, l) => e = .returned (.bool true) ∧ CtPost B Z w0 b cb vs said w w' c l
def cdataX (c : Ct) (l : List UInt8) : R (Ct × List UInt8) :=
  match Lib.cut l [93, 93, 62] with
  | (_, _, false) => .bad 3
  | (t, r, true) => .ok (⟨c.text ++ t, c.solid || t != [], c.kids⟩, r)
def textX (c : Ct) (l : List UInt8) : R (Ct × List UInt8) :=
  if Lib.indexByte l 60 < 0 then .bad 3
  else (entX (l.take (Lib.indexByte l 60).toNat)).bind fun t => .ok (⟨c.text ++ t, c.solid || !allBlank (l.take (Lib.indexByte l 60).toNat), c.kids⟩, l.drop (Lib.indexByte l 60).toNat)
set_option maxRecDepth 20000 in
set_option maxHeartbeats 4000000 in
theorem cdata_any (B : Nat) (Z : Nat → Prop) (w0 : World) (b cb : Nat) (vs p v vk : Value) (l : List UInt8) (said : Say) (c : Ct) (kc : List Value) (w : World) (h : RC B Z w0 w b cb vs p v vk l said c kc) (hl : l.length ≤ 16384) (hc : c.text.length ≤ 16384) :
    Calls Tryz.prog 74 #[.pointer (some ⟨b, 0, none⟩), .pointer (some ⟨cb, 0, none⟩)] w fun e w' => TxPost B Z w0 b cb vs said w e w' (cdataX c l) := by
  have H := Lib.hid h
  have HL := Lib.hid hl
  obtain ⟨⟨t, r, fd⟩, hcu⟩ : ∃ x, x = Lib.cut l [93, 93, 62] := ⟨_, rfl⟩
  have HC := Lib.hid hcu.symm
  have HLT : Hid (c.text.length + t.length ≤ 100000) := Lib.hid (by have h1 := (cut_le l [93, 93, 62]).1; rw [← hcu] at h1; simp only [] at h1; omega)
  obtain ⟨sol, hsol⟩ : ∃ s, s = c.solid := ⟨_, rfl⟩
  have HSO := Lib.hid hsol.symm
  have HTN : Hid ((t != []) = !t.isEmpty) := Lib.hid (by cases t <;> rfl)
  have hte : ((S t).toList.isEmpty) = t.isEmpty := by rw [S_toList]
  obtain ⟨te, hte2⟩ : ∃ x, x = t.isEmpty := ⟨_, rfl⟩
  rw [← hte2] at hte
  have HTE := Lib.hid hte2.symm
  clear h hl hc hsol hte2
  cases fd with
  | false =>
    have HR : Hid (cdataX c l = .bad 3) := Lib.hid (by unfold cdataX; rw [← hcu])
    clear hcu
    rw [HR.out]
    go_enter Tryz.func74, Tryz.ntmps74
    go_wp2_with fail
    refine (until_any B Z b l said vs _ [93, 93, 62] _ (lit1 [93, 93, 62]) H.out.x HL.out).mono ?_
    rw [HC.out]
    rintro e1 w1 ⟨rfl, h1, hk⟩
    have H1 := Lib.hid (H.out.read h1 hk)
    have HK1 := Lib.hid (H.out.sp hk (fun _ h => .inl h))
    clear h1 hk
    go_wp2_with fail
    refine (writeS_any _ _ _ _ _ _ _ (S t) _ (hasBC _ _) H1.out.bb (by rw [S_size]; have := HLT.out; omega)).mono ?_
    rintro e2 w2 ⟨rfl, p2, v2, hb, hk, hv⟩
    rw [S_toList] at hb
    have H2 := Lib.hid (H1.out.write hb hk hv)
    have HK2 := Lib.hid (HK1.out.tr (H1.out.sp hk (fun _ h => h.elim (fun h => .inr (.inl h)) (fun h => .inr (.inr (.inl h))))))
    have q2 := hb.blk.cellV 2 rfl
    have f2 := blk_frozen hb.blk 2
    clear hb hk hv
    rw [HSO.out] at q2
    cases sol <;> cases te
    all_goals
      go_wp2
      go_ret
      exact ⟨rfl, HK2.out.tr (H2.out.sp (H2.out.solid _).2 (fun _ h => .inr (.inl h)))⟩
  | true =>
    have HR : Hid (cdataX c l = .ok (⟨c.text ++ t, sol || !te, c.kids⟩, r)) := Lib.hid (by unfold cdataX; rw [← hcu]; simp only []; rw [HSO.out, HTN.out, HTE.out])
    clear hcu
    rw [HR.out]
    go_enter Tryz.func74, Tryz.ntmps74
    go_wp2_with fail
    refine (until_any B Z b l said vs _ [93, 93, 62] _ (lit1 [93, 93, 62]) H.out.x HL.out).mono ?_
    rw [HC.out]
    rintro e1 w1 ⟨rfl, h1, hk⟩
    have H1 := Lib.hid (H.out.read h1 hk)
    have HK1 := Lib.hid (H.out.sp hk (fun _ h => .inl h))
    clear h1 hk
    go_wp2_with fail
    refine (writeS_any _ _ _ _ _ _ _ (S t) _ (hasBC _ _) H1.out.bb (by rw [S_size]; have := HLT.out; omega)).mono ?_
    rintro e2 w2 ⟨rfl, p2, v2, hb, hk, hv⟩
    rw [S_toList] at hb
    have H2 := Lib.hid (H1.out.write hb hk hv)
    have HK2 := Lib.hid (HK1.out.tr (H1.out.sp hk (fun _ h => h.elim (fun h => .inr (.inl h)) (fun h => .inr (.inr (.inl h))))))
    have q2 := hb.blk.cellV 2 rfl
    have f2 := blk_frozen hb.blk 2
    clear hb hk hv
    rw [HSO.out] at q2
    cases sol <;> cases te
    all_goals
      go_wp2
      go_ret
      exact ⟨rfl, vs, _, _, vk, kc, (H2.out.solid _).1, fun _ h => .inl h, HK2.out.tr (H2.out.sp (H2.out.solid _).2 (fun _ h => .inr (.inl h)))⟩
theorem index_any (l : List UInt8) (w : World) : Calls Tryz.prog 82 #[.string (S l), .int .u8 60] w fun e w' => e = .returned (.int .i64 (Lib.indexByte l 60)) ∧ w = w' := by
  refine (Tryz.strings_IndexByte (S l) 60 w).mono ?_
  rw [S_data]
  rintro e w' ⟨rfl, rfl⟩
  exact ⟨rfl, rfl⟩
theorem indexByte_lt (l : List UInt8) (c : UInt8) : Lib.indexByte l c ≤ l.length ∧ (Lib.indexByte l c < 0 → Lib.indexByte l c = -1) := by
  induction l with
  | nil => exact ⟨by simp [Lib.indexByte], fun _ => rfl⟩
  | cons a l ih =>
    have h0 : Lib.indexByte l c < 0 ∨ 0 ≤ Lib.indexByte l c := by omega
    have h1 : Lib.indexByte l c = -1 ∨ 0 ≤ Lib.indexByte l c := h0.imp ih.2 id
    unfold Lib.indexByte
    split
    · simp only [List.length_cons]
      exact ⟨by omega, fun h => absurd h (by decide)⟩
    · split
      · simp only [List.length_cons]
        exact ⟨by omega, by simp⟩
      · rename_i h
        have h2 : ¬ Lib.indexByte l c = -1 := by simpa using h
        simp only [List.length_cons]
        exact ⟨by omega, fun h => by omega⟩
set_option maxRecDepth 20000 in
set_option maxHeartbeats 4000000 in
theorem text_any (B : Nat) (Z : Nat → Prop) (w0 : World) (b cb : Nat) (vs p v vk : Value) (l : List UInt8) (said : Say) (c : Ct) (kc : List Value) (w : World) (h : RC B Z w0 w b cb vs p v vk l said c kc) (hl : l.length ≤ 16384) (hc : c.text.length ≤ 16384) (hn : textX c l ≠ .no) :
    Calls Tryz.prog 77 #[.pointer (some ⟨b, 0, none⟩), .pointer (some ⟨cb, 0, none⟩)] w fun e w' => TxPost B Z w0 b cb vs said w e w' (textX c l) := by
  have H := Lib.hid h
  have HL := Lib.hid hl
  obtain ⟨i, hi⟩ : ∃ i, i = Lib.indexByte l 60 := ⟨_, rfl⟩
  have HI := Lib.hid hi.symm
  have hle := indexByte_lt l 60
  rw [← hi] at hle
  obtain ⟨sol, hsol⟩ : ∃ s, s = c.solid := ⟨_, rfl⟩
  have HSO := Lib.hid hsol.symm
  have hc0 := h.x.c0
  clear h hsol
  by_cases h0 : i < 0
  · have HR : Hid (textX c l = .bad 3) := Lib.hid (by unfold textX; rw [← hi, if_pos h0])
    clear hn hi hle hc hl
    rw [HR.out]
    go_enter Tryz.func77, Tryz.ntmps77
    go_wp2_with (go_at_call 82; refine (index_any l _).mono ?_; rw [HI.out]; rintro e w' ⟨rfl, rfl⟩)
    go_ret
    exact ⟨rfl, Kp.refl _ _⟩
  · obtain ⟨k, rfl⟩ : ∃ k : Nat, i = (k : Int) := ⟨i.toNat, by omega⟩
    have hkl : k ≤ l.length := by omega
    have htx : textX c l = (entX (l.take k)).bind fun t => .ok (⟨c.text ++ t, c.solid || !allBlank (l.take k), c.kids⟩, l.drop k) := by unfold textX; rw [← hi, if_neg h0]; rfl
    have hsz := S_size l
    obtain ⟨n, hnn⟩ : ∃ n, n = l.length := ⟨_, rfl⟩
    rw [← hnn] at hsz hkl hl
    have HX1 : Hid ((S l).extract 0 k = S (l.take k)) := Lib.hid (by apply str_ext; rw [extract_toList, S_toList, S_toList, List.drop_zero, Nat.sub_zero])
    have HX2 : Hid ((S l).extract k n = S (l.drop k)) := Lib.hid (by apply str_ext; rw [extract_toList, S_toList, S_toList, List.take_of_length_le (by rw [List.length_drop]; omega)])
    have HLT : Hid ((l.take k).length ≤ 16384) := Lib.hid (by rw [List.length_take]; omega)
    obtain ⟨ab, hab⟩ : ∃ x, x = allBlank (l.take k) := ⟨_, rfl⟩
    have HAB := Lib.hid hab.symm
    cases hE : entX (l.take k) with
    | no => rw [htx, hE] at hn; exact absurd rfl hn
    | bad e => unfold entX at hE; split at hE <;> cases hE
    | ok t =>
      have HE := Lib.hid hE
      have HR : Hid (textX c l = .ok (⟨c.text ++ t, sol || !ab, c.kids⟩, l.drop k)) := Lib.hid (by rw [htx, hE, HSO.out, HAB.out]; rfl)
      have HTL : Hid (c.text.length + t.length ≤ 100000) := Lib.hid (by have h1 := entX_le hE; have h2 := HLT.out; omega)
      have hki : (k : Int) ≤ n := by omega
      have hni : (n : Int) ≤ 16384 := by omega
      clear hn hi hle hc hl htx hE hab hnn h0 hkl
      rw [HR.out]
      go_enter Tryz.func77, Tryz.ntmps77
      go_wp2_with fail
      go_at_call 82
      refine (index_any l _).mono ?_
      rw [HI.out]
      rintro e w' ⟨rfl, rfl⟩
      go_upto_region 5 with (fail)
      rw [HX1.out]
      have hf0 := H.out.x.fz 0
      go_wp2_with fail
      rw [HX2.out]
      have H1 := Lib.hid (H.out.read (H.out.x.setR (l.drop k)) (H.out.x.at 0 _))
      have HK1 := Lib.hid (H.out.sp (H.out.x.at (w1 := w) 0 (.string (S (l.drop k)))) (fun _ h => .inl h))
      generalize (w.setCell ⟨b, 0, none⟩ (.string (S (l.drop k)))) = w1 at H1 HK1 ⊢
      clear hc0 hf0 hsz
      refine (entities_any (l.take k) t _ HE.out HLT.out H1.out.x.ml).mono ?_
      rintro e2 w2 ⟨rfl, hk⟩
      have H2 := Lib.hid (H1.out.kp0 hk)
      have HK2 := Lib.hid (HK1.out.tr (hk.nil _))
      clear hk
      go_wp2_with fail
      refine (writeS_any _ _ _ _ _ _ _ (S t) _ (hasBC _ _) H2.out.bb (by rw [S_size]; have := HTL.out; omega)).mono ?_
      rintro e3 w3 ⟨rfl, p2, v2, hb, hk, hv⟩
      rw [S_toList] at hb
      have H3 := Lib.hid (H2.out.write hb hk hv)
      have HK3 := Lib.hid (HK2.out.tr (H2.out.sp hk (fun _ h => h.elim (fun h => .inr (.inl h)) (fun h => .inr (.inr (.inl h))))))
      have q2 := hb.blk.cellV 2 rfl
      have f2 := blk_frozen hb.blk 2
      rw [HSO.out] at q2
      have q2b : ∀ w', Kp0 w3 w' → w'.cell? ⟨cb, 2, none⟩ = some (.bool sol) ∧ w'.frozen? ⟨cb, 2, none⟩ = false := fun w' hk => ⟨by have := (hb.blk.kp0 hk).cellV 2 rfl; rw [HSO.out] at this; exact this, blk_frozen (hb.blk.kp0 hk) 2⟩
      have HQ2 := Lib.hid q2b
      clear hb hk hv q2b
      cases sol with
      | true =>
        go_wp2
        go_ret
        exact ⟨rfl, vs, _, _, vk, kc, (H3.out.solid _).1, fun _ h => .inl h, HK3.out.tr (H3.out.sp (H3.out.solid _).2 (fun _ h => .inr (.inl h)))⟩
      | false =>
        cases ab
        all_goals
          go_wp2_with fail
          refine (blank_any (l.take k) _ HLT.out).mono ?_
          rw [HAB.out]
          rintro e4 w4 ⟨rfl, hk4⟩
          have H4 := Lib.hid (H3.out.kp0 hk4)
          have HK4 := Lib.hid (HK3.out.tr (hk4.nil _))
          obtain ⟨q4, f4⟩ := HQ2.out _ hk4
          clear hk4
          go_wp2
          go_ret
          exact ⟨rfl, vs, _, _, vk, kc, (H4.out.solid _).1, fun _ h => .inl h, HK4.out.tr (H4.out.sp (H4.out.solid _).2 (fun _ h => .inr (.inl h)))⟩
end Go.Proofs.YtchmookggegmnaaGreatDoor
namespace Go.Proofs.YtchmookggegmnaaGreatDoor
open Go Go.RowKit
/-- Where an element that was read lies. -/
def FE (w w' : World) (vs' : Value) : Nat → Prop := fun i => w.heap.size ≤ i ∧ i < w'.heap.size ∧ vs'.ownBlock ≠ some i
def ElPost (B : Nat) (Z : Nat → Prop) (b : Nat) (vs : Value) (said : Say) (w : World) (e : Ending) (w' : World) : R (PE × List UInt8) → Prop
  | .no => False
  | .bad er => e = .returned (.tuple #[.agg ez.toArray, .int .i64 er]) ∧ er ≠ 0 ∧ er < 100 ∧ Kp (fun g => g = b ∨ vs.ownBlock = some g) w w'
  | .ok (pe, l) => ∃ c0 c1 c2 c3 c4 vs', e = .returned (.tuple #[.agg #[c0, c1, c2, c3, c4], .int .i64 0]) ∧ ElV (FE w w' vs') w' pe c0 c1 c2 c3 c4 ∧ XrV B Z w' b vs' l said ∧ (∀ g, vs'.ownBlock = some g → vs.ownBlock = some g ∨ w.heap.size ≤ g) ∧ Kp (fun g => g = b ∨ vs.ownBlock = some g) w w'
/-- The call of element, where elements may stand so much deeper. -/
def ElemC (f : Nat) : Prop := ∀ (B : Nat) (Z : Nat → Prop) (b : Nat) (l : List UInt8) (said : Say) (vs : Value) (w : World) (d : Nat), d + f = 16 → XrV B Z w b vs l said → l.length ≤ 16384 → said.length + 32 * f ≤ 512 → elemX f said l ≠ .no →
  Calls Tryz.prog 28 #[.pointer (some ⟨b, 0, none⟩), .int .i64 d] w fun e w' => ElPost B Z b vs said w e w' (elemX f said l)
def KdPost (B : Nat) (Z : Nat → Prop) (w0 : World) (b cb : Nat) (vs : Value) (said : Say) (w : World) (e : Ending) (w' : World) : R (Ct × List UInt8) → Prop
  | .no => False
  | .bad er => e = .returned (.int .i64 er) ∧ er ≠ 0 ∧ er < 100 ∧ Kp (SP w0 b vs) w w'
  | .ok (c, l) => e = .returned (.int .i64 0) ∧ CtPost B Z w0 b cb vs said w w' c l
def kidX (el : List UInt8 → R (PE × List UInt8)) (c : Ct) (l : List UInt8) : R (Ct × List UInt8) :=
  (el l).bind fun x => if c.kids.length = 256 then .bad 2 else .ok (⟨c.text, c.solid, c.kids ++ [x.1]⟩, x.2)
theorem infoElem : (Tryz.prog.info? 25).map (fun i => (i.zero, i.size, i.bytes)) = some (some (.agg ez.toArray), 5, 96) := by kernel_rfl
def st5 (w : World) (g o : Nat) (x0 x1 x2 x3 x4 : Value) : World := ((((w.setCell ⟨g, o, none⟩ x0).setCell ⟨g, o + 1, none⟩ x1).setCell ⟨g, o + 2, none⟩ x2).setCell ⟨g, o + 3, none⟩ x3).setCell ⟨g, o + 4, none⟩ x4
theorem kp_st5 (w : World) (g o : Nat) (x0 x1 x2 x3 x4 : Value) : Kp (fun i => i = g) w (st5 w g o x0 x1 x2 x3 x4) :=
  (((((Kp.refl (fun i => i = g) w).setCell (p := ⟨g, o, none⟩) (fun _ => rfl) x0).setCell (p := ⟨g, o + 1, none⟩) (fun _ => rfl) x1).setCell (p := ⟨g, o + 2, none⟩) (fun _ => rfl) x2).setCell (p := ⟨g, o + 3, none⟩) (fun _ => rfl) x3).setCell (p := ⟨g, o + 4, none⟩) (fun _ => rfl) x4
theorem heap_set {w : World} {g : Nat} {cs : Array Value} {T : TypeId} (h : w.heap[g]? = some (.cells cs T (0, 0))) (o : Nat) (v : Value) : (w.setCell ⟨g, o, none⟩ v).heap[g]? = some (.cells (cs.setIfInBounds o v) T (0, 0)) := by
  simp [World.setCell, Array.getElem?_modify, h]
theorem own_st5 {B e n g cap : Nat} {w : World} {kc zs : List Value} (h : w.ownsRow B e 5 (.slice (some ⟨g, 0, none⟩) (n + 1) cap) (n + 1) (kc ++ zs)) (hk : kc.length = n * 5) (x0 x1 x2 x3 x4 : Value) : (st5 w g (n * 5) x0 x1 x2 x3 x4).ownsRow B e 5 (.slice (some ⟨g, 0, none⟩) (n + 1) cap) (n + 1) (kc ++ [x0, x1, x2, x3, x4]) := by
  refine ⟨by simp [hk]; omega, ?_⟩
  rcases h.2 with ⟨hv, _⟩ | ⟨g', cap', cur, hv, hb, hg, h1, h2, h3, h4⟩
  · cases hv
  · simp only [Value.slice.injEq, Option.some.injEq, Addr.mk.injEq] at hv
    obtain ⟨⟨rfl, -⟩, -, rfl⟩ := hv
    refine .inr ⟨g, cap, _, rfl, hb, heap_set (heap_set (heap_set (heap_set (heap_set hg _ x0) _ x1) _ x2) _ x3) _ x4, h1, h2, by simpa using h3, ?_⟩
    have hs : (n + 1) * 5 ≤ cur.size := by rw [h3]; exact Nat.mul_le_mul_right _ h1
    have h5 : ∀ i, i < n * 5 → cur.toList[i]? = kc[i]? := by
      intro i hi
      have := congrArg (fun l : List Value => l[i]?) h4
      simp only [List.getElem?_take, List.getElem?_append] at this
      rw [if_pos (by omega), if_pos (by omega)] at this
      exact this
    apply List.ext_getElem?
    intro i
    rw [List.getElem?_take]
    simp only [Array.toList_setIfInBounds, List.getElem?_set, List.getElem?_append, List.length_set, Array.length_toList, hk]
    by_cases h6 : i < n * 5
    · rw [if_pos (by omega), if_pos h6]
      repeat rw [if_neg (by omega)]
      exact h5 i h6
    · rw [if_neg h6]
      by_cases h7 : i < (n + 1) * 5
      · rw [if_pos h7]
        obtain ⟨j, rfl⟩ : ∃ j, i = n * 5 + j := ⟨i - n * 5, by omega⟩
        have hj : j < 5 := by omega
        have e1 : n * 5 + j - n * 5 = j := by omega
        rw [e1]
        match j, hj with
        | 0, _ => simp; omega
        | 1, _ => simp; omega
        | 2, _ => simp; omega
        | 3, _ => simp; omega
        | 4, _ => simp; omega
      · rw [if_neg h7]
        symm
        rw [List.getElem?_eq_none_iff]
        simp
        omega
end Go.Proofs.YtchmookggegmnaaGreatDoor
namespace Go.Proofs.YtchmookggegmnaaGreatDoor
open Go Go.RowKit
section
variable {B : Nat} {Z : Nat → Prop} {w0 w w1 wX : World} {b cb : Nat} {vs vs1 p v vk vk' : Value} {l l1 : List UInt8} {said : Say} {c : Ct} {kc : List Value}
theorem RC.elem (h : RC B Z w0 w b cb vs p v vk l said c kc) (hx : XrV B Z w1 b vs1 l1 said) (hv : ∀ g, vs1.ownBlock = some g → vs.ownBlock = some g ∨ w.heap.size ≤ g) (hk : Kp (fun g => g = b ∨ vs.ownBlock = some g) w w1) : RC B Z w0 w1 b cb vs1 p v vk l1 said c kc := by
  have hb := h.b0
  have hg := h.bb.ge
  have hcl := h.bb.lt
  refine ⟨hx, h.bb.keep hk ?_ ?_, own_keep h.kr hk ?_, ElsV.keep hk ?_ (FC.mono hk.size hv (fun _ => .inl) (fun _ => .inl)) _ _ h.ks, ?_, ?_, ?_, h.b0, Nat.le_trans h.w0 hk.size⟩
  · rintro (e | e)
    · omega
    · exact h.n2 e
  · rintro g hg' (e | e)
    · have := (h.bb.ow.lt g hg').1; omega
    · exact (h.n3 g hg').1 e
  · rintro g hg' (e | e)
    · have := (h.kr.lt g hg').1; omega
    · exact (h.n4 g hg').2 e
  · rintro i hi (e | e)
    · have := hi.1; omega
    · exact hi.2.2.2.1 e
  · intro e
    rcases hv cb e with h1 | h1
    · exact h.n2 h1
    · omega
  · intro g hg'
    refine ⟨fun e => ?_, (h.n3 g hg').2⟩
    rcases hv g e with h1 | h1
    · exact (h.n3 g hg').1 h1
    · have := (h.bb.ow.lt g hg').2; omega
  · intro g hg'
    refine ⟨(h.n4 g hg').1, fun e => ?_⟩
    rcases hv g e with h1 | h1
    · exact (h.n4 g hg').2 h1
    · have := (h.kr.lt g hg').2; omega
theorem RC.kid {pe : PE} {c0 c1 c2 c3 c4 : Value} (h0 : RC B Z w0 w b cb vs p v vk l said c kc) (h : RC B Z w0 w1 b cb vs1 p v vk l1 said c kc) (hw : w.heap.size ≤ w1.heap.size) (he : ElV (FE w w1 vs1) w1 pe c0 c1 c2 c3 c4)
    (hB : Blk wX cb 109 [p, v, .bool c.solid, vk']) (hR : wX.ownsRow w0.heap.size 25 5 vk' (c.kids.length + 1) (kc ++ [c0, c1, c2, c3, c4])) (hv : ∀ g, vk'.ownBlock = some g → vk.ownBlock = some g ∨ w1.heap.size ≤ g)
    (hk : Kp (fun g => g = cb ∨ vk.ownBlock = some g) w1 wX) : RC B Z w0 wX b cb vs1 p v vk' l1 said ⟨c.text, c.solid, c.kids ++ [pe]⟩ (kc ++ [c0, c1, c2, c3, c4]) := by
  have hb := h.b0
  have hg := h.bb.ge
  have hcl := h0.bb.lt
  have hw0 := h0.w0
  have hmb := h.mb
  have hnv : ∀ g, vk'.ownBlock = some g → g ≠ cb ∧ vs1.ownBlock ≠ some g ∧ v.ownBlock ≠ some g := by
    intro g hg'
    rcases hv g hg' with h1 | h1
    · exact ⟨(h.n4 g h1).1, (h.n4 g h1).2, fun e => (h.n3 g e).2 h1⟩
    · refine ⟨by omega, fun e => ?_, fun e => ?_⟩
      · have := (h.x.ow.lt g e).2; omega
      · have := (h0.bb.ow.lt g e).2; omega
  refine ⟨h.x.keep hk ?_ ?_ ?_, ⟨hB, h.bb.ow.keep hk ?_, h.bb.pp, h.bb.ge, h.bb.ne, h.bb.nl⟩, by simpa using hR, ElsV.snoc (ElV.keep hk ?_ ?_ _ _ _ _ _ _ he) _ _ (ElsV.keep hk ?_ (FC.mono hk.size (fun _ => .inl) (fun _ => .inl) hv) _ _ h.ks), h.n2, ?_, ?_, h.b0, Nat.le_trans h.w0 hk.size⟩
  · rintro (e | e)
    · omega
    · have := (h.kr.lt _ e).1; omega
  · rintro g hg' (e | e)
    · subst e; exact h.n2 hg'
    · exact (h.n4 g e).2 hg'
  · rintro (e | e)
    · omega
    · have : w0.heap.size ≤ 2 := (h.kr.lt _ e).1
      omega
  · rintro g hg' _ _ (e | e)
    · exact h.bb.ne g hg' e
    · exact (h.n3 g hg').2 e
  · rintro i hi (e | e)
    · have := hi.1; omega
    · have := (h0.kr.lt i e).2; have := hi.1; omega
  · rintro i ⟨f1, f2, f3⟩
    refine ⟨by omega, Nat.lt_of_lt_of_le f2 hk.size, by omega, f3, fun e => ?_, fun e => ?_⟩
    · have := (h0.bb.ow.lt i e).2; omega
    · rcases hv i e with h1 | h1
      · have := (h0.kr.lt i h1).2; omega
      · omega
  · rintro i hi (e | e)
    · exact hi.2.2.1 e
    · exact hi.2.2.2.2.2 e
  · intro g hg'
    exact ⟨(h.n3 g hg').1, fun e => (hnv g e).2.2 hg'⟩
  · intro g hg'
    exact ⟨(hnv g hg').1, (hnv g hg').2.1⟩
end
theorem ElV.shape {F : Nat → Prop} {w : World} {pe : PE} {c0 c1 c2 c3 c4 : Value} (h : ElV F w pe c0 c1 c2 c3 c4) : ∃ s0 s1 a2 n2 k2 s3 a4 n4 k4, c0 = .string s0 ∧ c1 = .string s1 ∧ c2 = .slice a2 n2 k2 ∧ c3 = .string s3 ∧ c4 = .slice a4 n4 k4 := by
  cases pe with
  | mk sp nm a tx ks =>
    unfold ElV at h
    obtain ⟨rfl, rfl, h2, rfl, cs, h4, _⟩ := h
    obtain ⟨a2, k2, rfl, _⟩ := h2.sl
    obtain ⟨a4, k4, rfl, _⟩ := h4.sl
    exact ⟨_, _, _, _, _, _, _, _, _, rfl, rfl, rfl, rfl, rfl⟩
set_option maxRecDepth 20000 in
set_option maxHeartbeats 4000000 in
theorem kid_any (f : Nat) (hE : ElemC f) (B : Nat) (Z : Nat → Prop) (w0 : World) (b cb : Nat) (vs p v vk : Value) (l : List UInt8) (said : Say) (c : Ct) (kc : List Value) (w : World) (d : Nat) (hd : d + f = 16) (h : RC B Z w0 w b cb vs p v vk l said c kc) (hl : l.length ≤ 16384) (hs : said.length + 32 * f ≤ 512) (hkn : c.kids.length ≤ 256) (hn : kidX (elemX f said) c l ≠ .no) :
    Calls Tryz.prog 76 #[.pointer (some ⟨b, 0, none⟩), .pointer (some ⟨cb, 0, none⟩), .int .i64 d] w fun e w' => KdPost B Z w0 b cb vs said w e w' (kidX (elemX f said) c l) := by
  have H := Lib.hid h
  have HE := Lib.hid hE
  have HD := Lib.hid hd
  have HL := Lib.hid hl
  have HS := Lib.hid hs
  obtain ⟨ao, nk, cap, rfl⟩ : ∃ a n c, vk = .slice a n c := by obtain ⟨a, c1, h1, _⟩ := ownK_sl h.kr; exact ⟨_, _, _, h1⟩
  have hnk : nk = c.kids.length := by obtain ⟨a1, c1, h1, _⟩ := ownK_sl h.kr; simp only [Value.slice.injEq] at h1; exact h1.2.1
  have HNK := Lib.hid hnk
  have hnki : (nk : Int) ≤ 256 := by omega
  have HNE : Hid (elemX f said l ≠ .no) := Lib.hid (fun e => hn (by unfold kidX; rw [e]; rfl))
  obtain ⟨ex, hex⟩ : ∃ x, x = elemX f said l := ⟨_, rfl⟩
  have HEX : Hid (elemX f said l = ex) := Lib.hid hex.symm
  have hkx : kidX (elemX f said) c l = ex.bind fun x => if c.kids.length = 256 then .bad 2 else .ok (⟨c.text, c.solid, c.kids ++ [x.1]⟩, x.2) := by unfold kidX; rw [← hex]
  have HKN := Lib.hid hkn
  clear h hE hd hl hs hnk hex hkn hn
  cases ex with
  | no => exact absurd HEX.out HNE.out
  | bad er =>
    have HR : Hid (kidX (elemX f said) c l = .bad er) := Lib.hid hkx
    clear hkx
    rw [HR.out]
    go_enter Tryz.func76, Tryz.ntmps76
    go_wp2_with fail
    refine (HE.out B Z b l said vs _ d HD.out H.out.x HL.out HS.out HNE.out).mono ?_
    rw [HEX.out]
    rintro e1 w1 ⟨rfl, he0, he1, hk1⟩
    have hne : ((er : Int) == 0) = false := by rw [beq_eq_false_iff_ne]; omega
    have HER := Lib.hid he0
    have HER1 := Lib.hid he1
    have HK1 := Lib.hid hk1
    clear he0 he1 hk1
    go_wp2
    go_ret
    exact ⟨rfl, HER.out, HER1.out, (H.out.sp HK1.out (fun i h => h.elim .inl (fun h => .inr (.inr (.inr (.inr h)))))).tr ((Kp.refl _ _).alloc _)⟩
  | ok x =>
    obtain ⟨pe, l1⟩ := x
    by_cases h256 : nk = 256
    · have HR : Hid (kidX (elemX f said) c l = .bad 2) := Lib.hid (by rw [hkx]; unfold R.bind; simp only []; rw [if_pos (by rw [← HNK.out]; exact h256)])
      have h256i : ((nk : Int) == 256) = true := by rw [h256]; rfl
      clear hkx
      rw [HR.out]
      go_enter Tryz.func76, Tryz.ntmps76
      go_wp2_with fail
      refine (HE.out B Z b l said vs _ d HD.out H.out.x HL.out HS.out HNE.out).mono ?_
      rw [HEX.out]
      rintro e1 w1 ⟨c0, c1, c2, c3, c4, vs1, rfl, he, hx1, hv1, hk1⟩
      obtain ⟨s0, s1, a2, n2, k2, s3, a4, n4, k4, rfl, rfl, rfl, rfl, rfl⟩ := he.shape
      have HEL := Lib.hid he
      have H1 := Lib.hid (H.out.elem hx1 hv1 hk1)
      have HV1 := Lib.hid hv1
      have HSZ1 := Lib.hid hk1.size
      have HKA : Hid (Kp0 w1 (w1.alloc (.cells #[.string s0, .string s1, .slice a2 n2 k2, .string s3, .slice a4 n4 k4] 25))) := Lib.hid ((Kp.refl _ _).alloc _)
      have H2 := Lib.hid (H1.out.kp0 HKA.out)
      have HK2 : Hid (Kp (SP w0 b vs) w (w1.alloc (.cells #[.string s0, .string s1, .slice a2 n2 k2, .string s3, .slice a4 n4 k4] 25))) := Lib.hid ((H.out.sp hk1 (fun i h => h.elim .inl (fun h => .inr (.inr (.inr (.inr h)))))).tr (HKA.out.nil _))
      have HK1 := Lib.hid (H.out.sp hk1 (fun i h => h.elim .inl (fun h => .inr (.inr (.inr (.inr h))))))
      have HB2 : Hid (Blk (w1.alloc (.cells #[.string s0, .string s1, .slice a2 n2 k2, .string s3, .slice a4 n4 k4] 25)) w1.heap.size 25 [.string s0, .string s1, .slice a2 n2 k2, .string s3, .slice a4 n4 k4]) := Lib.hid (blk0 w1 _ _)
      have HNT : Hid (∀ g, vs1.ownBlock = some g → vs.ownBlock = some g ∨ w0.heap.size ≤ g) := Lib.hid (fun g hg => (hv1 g hg).elim .inl (fun h => .inr (Nat.le_trans H.out.w0 h)))
      clear he hx1 hv1 hk1
      have hq3 : (w1.alloc (.cells #[.string s0, .string s1, .slice a2 n2 k2, .string s3, .slice a4 n4 k4] 25)).cell? ⟨cb, 3, none⟩ = some (.slice ao nk cap) := H2.out.bb.blk.cellV 3 rfl
      go_wp2_with fail
      generalize (w1.alloc (.cells #[.string s0, .string s1, .slice a2 n2 k2, .string s3, .slice a4 n4 k4] 25)) = w2 at HKA H2 HK2 HB2 hq3 ⊢
      go_wp2
      go_ret
      exact ⟨rfl, by decide, by decide, HK2.out⟩
    · have HR : Hid (kidX (elemX f said) c l = .ok (⟨c.text, c.solid, c.kids ++ [pe]⟩, l1)) := Lib.hid (by rw [hkx]; unfold R.bind; simp only []; rw [if_neg (by rw [← HNK.out]; exact h256)])
      have h256i : ((nk : Int) == 256) = false := by rw [beq_eq_false_iff_ne]; omega
      clear hkx
      rw [HR.out]
      go_enter Tryz.func76, Tryz.ntmps76
      go_wp2_with fail
      refine (HE.out B Z b l said vs _ d HD.out H.out.x HL.out HS.out HNE.out).mono ?_
      rw [HEX.out]
      rintro e1 w1 ⟨c0, c1, c2, c3, c4, vs1, rfl, he, hx1, hv1, hk1⟩
      obtain ⟨s0, s1, a2, n2, k2, s3, a4, n4, k4, rfl, rfl, rfl, rfl, rfl⟩ := he.shape
      have HEL := Lib.hid he
      have H1 := Lib.hid (H.out.elem hx1 hv1 hk1)
      have HV1 := Lib.hid hv1
      have HSZ1 := Lib.hid hk1.size
      have HKA : Hid (Kp0 w1 (w1.alloc (.cells #[.string s0, .string s1, .slice a2 n2 k2, .string s3, .slice a4 n4 k4] 25))) := Lib.hid ((Kp.refl _ _).alloc _)
      have H2 := Lib.hid (H1.out.kp0 HKA.out)
      have HK2 : Hid (Kp (SP w0 b vs) w (w1.alloc (.cells #[.string s0, .string s1, .slice a2 n2 k2, .string s3, .slice a4 n4 k4] 25))) := Lib.hid ((H.out.sp hk1 (fun i h => h.elim .inl (fun h => .inr (.inr (.inr (.inr h)))))).tr (HKA.out.nil _))
      have HK1 := Lib.hid (H.out.sp hk1 (fun i h => h.elim .inl (fun h => .inr (.inr (.inr (.inr h))))))
      have HB2 : Hid (Blk (w1.alloc (.cells #[.string s0, .string s1, .slice a2 n2 k2, .string s3, .slice a4 n4 k4] 25)) w1.heap.size 25 [.string s0, .string s1, .slice a2 n2 k2, .string s3, .slice a4 n4 k4]) := Lib.hid (blk0 w1 _ _)
      have HNT : Hid (∀ g, vs1.ownBlock = some g → vs.ownBlock = some g ∨ w0.heap.size ≤ g) := Lib.hid (fun g hg => (hv1 g hg).elim .inl (fun h => .inr (Nat.le_trans H.out.w0 h)))
      clear he hx1 hv1 hk1
      have hq3 : (w1.alloc (.cells #[.string s0, .string s1, .slice a2 n2 k2, .string s3, .slice a4 n4 k4] 25)).cell? ⟨cb, 3, none⟩ = some (.slice ao nk cap) := H2.out.bb.blk.cellV 3 rfl
      go_wp2_with fail
      generalize (w1.alloc (.cells #[.string s0, .string s1, .slice a2 n2 k2, .string s3, .slice a4 n4 k4] 25)) = w2 at HKA H2 HK2 HB2 hq3 ⊢
      go_upto_region 6 with (fail)
      refine wp_region_px 12 [7] (fun w' : World => Kp0 w2.drew w') (.quiet 0 (.quiet 1 (.quiet 2 (.quiet 3 (.quiet 4 (.quiet 5 (.eff 6 (.wall 7 (.quiet 8 (.quiet 10 (.quiet 11 (.two 9 (.eff 12 .done) 12 (.eff 9 .done))))))))))))) (by kernel_rfl) (by kernel_rfl) (by kernel_rfl) (by kernel_rfl) (fun _ d _ _ _ h => by cases d <;> exact h) (Kp.refl _ _) ?_
      have H3 := Lib.hid (H2.out.kp0 (Kp.refl _ _).drew)
      have HB3 := Lib.hid (HB2.out.kp0 (Kp.refl _ _).drew)
      have HKD : Hid (Kp0 w1 w2.drew) := Lib.hid (HKA.out.drew)
      generalize w2.drew = w3 at H3 HB3 HKD ⊢
      clear hq3 h256
      iterate 6 (refine px_quiet (v := ?_) rfl (by rfl) (fun wq hwq => ?_) rfl ?_; rotate_left 1; (focus (have q3 := (H3.out.bb.blk.kp0 hwq).cellV 3 rfl; have b0 := (HB3.out.kp0 hwq).cellV 0 rfl; have b1 := (HB3.out.kp0 hwq).cellV 1 rfl; have b2 := (HB3.out.kp0 hwq).cellV 2 rfl; have b3 := (HB3.out.kp0 hwq).cellV 3 rfl; have b4 := (HB3.out.kp0 hwq).cellV 4 rfl; go_simp; try (with_reducible rfl); done)); try simp only [List.setIfInBounds_toArray, List.set_cons_zero, List.set_cons_succ])
      refine px_eff rfl (by rfl) (fun K hK => ?_)
      go_simp
      have hkA : Kp0 w3 (w3.alloc (.cells ez.toArray 25)) := (Kp.refl _ _).alloc _
      have HCE : Hid (∀ j u, ez[j]? = some u → (w3.alloc (.cells ez.toArray 25)).cell? ((⟨w3.heap.size, 0, none⟩ : Addr).add j) = some u) := Lib.hid (fun j u hj => by
        rw [Addr.add_lit, Nat.zero_add]
        have hB := blk0 w3 25 ez
        rw [blk_cell hB j, List.getElem?_toArray]
        exact hj)
      have H4 := Lib.hid (H3.out.kp0 hkA)
      have HKB : Hid (Kp0 w1 (w3.alloc (.cells ez.toArray 25))) := Lib.hid (HKD.out.tr hkA)
      generalize w3.alloc (.cells ez.toArray 25) = w4 at H4 HKB HCE hkA ⊢
      refine hK (fun w' => Kp0 w4 w') _ _ (fun x hx => hkA.tr hx) (Kp.refl _ _) ?_
      clear hK K hkA
      refine px_wall rfl (by rfl) (fun K hK => ?_)
      have hown4 := H4.out.kr
      rw [← HNK.out] at hown4
      refine wp_append_k (.tmp 27) (.tmp 30) 23 rfl Tryz.underlying23 infoElem rfl (by decide) rfl hown4 ⟨w3.heap.size, 0, none⟩ 1 1 ez rfl rfl HCE.out (by intro u hu; simp at hu; rcases hu with rfl | rfl | rfl | rfl | rfl <;> rfl) (by have := HKN.out; have := HNK.out; unfold maxLen; omega) (by have := HKN.out; have := HNK.out; omega) H4.out.w0 ?_
      intro vk2 wA hoA hkA hbA hnA
      obtain ⟨g, cap2, cur, rfl, hbg, hcp1, hcp2, hgA, hcells⟩ := ownK_pos hoA (by omega)
      have hkl : kc.length = nk * 5 := hown4.1
      have hcell : ∀ j u, ez[j]? = some u → wA.cell? ⟨g, nk * 5 + j, none⟩ = some u := fun j u hj => hcells _ _ (by rw [List.getElem?_append_right (by omega), hkl, Nat.add_sub_cancel_left]; exact hj)
      have g0 := hcell 0 _ rfl
      have g1 := hcell 1 _ rfl
      have g2 := hcell 2 _ rfl
      have g3 := hcell 3 _ rfl
      have g4 := hcell 4 _ rfl
      rw [Nat.add_zero] at g0
      have hgf : ∀ o, wA.frozen? ⟨g, o, none⟩ = false := fun o => blk_frozen hgA o
      have hbc := H4.out.bb.blk.keep hkA (fun e => (H4.out.n4 cb e).1 rfl)
      have hd3 := hbc.cellV 3 rfl
      have hdf := blk_frozen hbc 3
      have hgc : ¬ g = cb := by
        rcases hbA g rfl with h | h
        · exact (H4.out.n4 g h).1
        · have := H4.out.bb.lt; omega
      have HGC := Lib.hid hgc
      have HBC := Lib.hid hbc
      have HOA := Lib.hid hoA
      have HBA := Lib.hid hbA
      have HKW := Lib.hid hkA
      have HKL := Lib.hid hkl
      have HCP := Lib.hid hcp1
      refine hK (fun _ => True) _ _ trivial ?_
      clear hK K hown4 hoA hkA hbA hnA hcells hcell hbc hkl hgA hbg hgc
      simp only [Act.put, List.getElem_toArray, List.getElem_cons_succ, List.getElem_cons_zero]
      try simp only [List.setIfInBounds_toArray, List.set_cons_zero, List.set_cons_succ]
      have hlt : (nk : Int) < (nk : Int) + 1 := by omega
      iterate 3 (refine px_quiet (v := ?_) rfl (by rfl) (fun wq hwq => ?_) rfl ?_; rotate_left 1; (focus (clear hwq; go_simp; try (with_reducible rfl); done)); try simp only [List.setIfInBounds_toArray, List.set_cons_zero, List.set_cons_succ])
      have hgc := HGC.out
      have hgc2 : ¬ cb = g := fun e => HGC.out e.symm
      have HFIN : Hid (∀ wX, Blk wX cb 109 [p, v, .bool c.solid, .slice (some ⟨g, 0, none⟩) (nk + 1) cap2] → wX.ownsRow w0.heap.size 25 5 (.slice (some ⟨g, 0, none⟩) (nk + 1) cap2) (nk + 1) (kc ++ [.string s0, .string s1, .slice a2 n2 k2, .string s3, .slice a4 n4 k4]) → Kp (fun i => i = g ∨ i = cb) wA wX →
          CtPost B Z w0 b cb vs said w wX ⟨c.text, c.solid, c.kids ++ [pe]⟩ l1) := Lib.hid (fun wX hB hR hk => by
        have hall : Kp (fun g => g = cb ∨ (Value.slice ao nk cap).ownBlock = some g) w1 wX := by
          refine ((HKB.out.nil _).tr (HKW.out.mono (fun i _ h => .inr h))).trans hk (fun _ _ h => h) (fun i hi h => ?_)
          rcases h with h | h
          · subst h
            rcases HBA.out i rfl with h1 | h1
            · exact .inr h1
            · have := HKB.out.size; omega
          · exact .inl h
        have hB' : ∀ g', (Value.slice (some ⟨g, 0, none⟩) (nk + 1) cap2).ownBlock = some g' → (Value.slice ao nk cap).ownBlock = some g' ∨ w1.heap.size ≤ g' := fun g' hg' => (HBA.out g' hg').imp id (fun h => Nat.le_trans HKB.out.size h)
        refine ⟨vs1, p, v, _, _, H.out.kid H1.out HSZ1.out HEL.out hB (by rw [← HNK.out]; exact hR) hB' hall, HNT.out, HK1.out.tr (hall.mono (fun i _ h => ?_))⟩
        rcases h with h | h
        · exact .inr (.inr (by have := H.out.bb.ge; omega))
        · exact .inr (.inr (H.out.kr.lt i h).1))
      refine ⟨px_one rfl (by rfl) (fun K hK => ?_), px_one rfl (by rfl) (fun K hK => ?_)⟩
      · go_simp
        have hst := kp_st5 wA g (nk * 5) (.string s0) (.string s1) (.slice a2 n2 k2) (.string s3) (.slice a4 n4 k4)
        have hR := own_st5 HOA.out HKL.out (.string s0) (.string s1) (.slice a2 n2 k2) (.string s3) (.slice a4 n4 k4)
        refine hK (fun _ => True) _ _ (fun _ _ => trivial) trivial ?_
        show PX.wp _ _ _ _ _ _ (st5 wA g (nk * 5) (.string s0) (.string s1) (.slice a2 n2 k2) (.string s3) (.slice a4 n4 k4))
        generalize st5 wA g (nk * 5) (.string s0) (.string s1) (.slice a2 n2 k2) (.string s3) (.slice a4 n4 k4) = wB at hst hR ⊢
        have hbc := HBC.out.keep hst (fun e => HGC.out e.symm)
        have hd3 := hbc.cellV 3 rfl
        have hdf := blk_frozen hbc 3
        have HBC2 := Lib.hid hbc
        have HST := Lib.hid hst
        have HR5 := Lib.hid hR
        clear hK K hbc hst hR g0 g1 g2 g3 g4 hgf
        refine px_eff rfl (by rfl) (fun K hK => ?_)
        go_simp
        refine hK (fun _ => True) _ _ (fun _ _ => trivial) trivial ?_
        refine px_done ?_
        have hks : Kp (fun i => i = cb) wB (wB.setCell ⟨cb, 3, none⟩ (.slice (some ⟨g, 0, none⟩) (nk + 1) cap2)) := (Kp.refl (fun i => i = cb) wB).setCell (p := ⟨cb, 3, none⟩) (fun _ => rfl) _
        have HFF := Lib.hid (HFIN.out _ (HBC2.out.set' 3 _) (own_keep HR5.out hks (fun i hi e => HGC.out (by cases hi; exact e))) (HST.out.trans hks (fun _ _ h => .inl h) (fun _ _ h => .inr h)))
        clear hK K hks
        go_wp2
        go_ret
        exact ⟨rfl, HFF.out⟩
      · go_simp
        have hks : Kp (fun i => i = cb) wA (wA.setCell ⟨cb, 3, none⟩ (.slice (some ⟨g, 0, none⟩) (nk + 1) cap2)) := (Kp.refl (fun i => i = cb) wA).setCell (p := ⟨cb, 3, none⟩) (fun _ => rfl) _
        have hbc := HBC.out.set' 3 (.slice (some ⟨g, 0, none⟩) (nk + 1) cap2)
        have hR := own_keep HOA.out hks (fun i hi e => HGC.out (by cases hi; exact e))
        have e0 := hks.cell g0 HGC.out
        have e1 := hks.cell g1 HGC.out
        have e2 := hks.cell g2 HGC.out
        have e3 := hks.cell g3 HGC.out
        have e4 := hks.cell g4 HGC.out
        have hlt2 : g < wA.heap.size := World.block_lt_of_cell? wA _ g0
        have hgf2 : ∀ o, (wA.setCell ⟨cb, 3, none⟩ (.slice (some ⟨g, 0, none⟩) (nk + 1) cap2)).frozen? ⟨g, o, none⟩ = false := fun o => hks.frozen' (p := ⟨g, o, none⟩) hlt2 (hgf o) HGC.out
        refine hK (fun _ => True) _ _ (fun _ _ => trivial) trivial ?_
        clear hK K
        generalize wA.setCell ⟨cb, 3, none⟩ (.slice (some ⟨g, 0, none⟩) (nk + 1) cap2) = wB at hks hbc hR e0 e1 e2 e3 e4 hgf2 ⊢
        have HBC2 := Lib.hid hbc
        have HKS := Lib.hid hks
        have HR5 := Lib.hid hR
        clear hbc hks hR g0 g1 g2 g3 g4 hgf hd3 hdf hlt2
        refine px_eff rfl (by rfl) (fun K hK => ?_)
        go_simp
        refine hK (fun _ => True) _ _ (fun _ _ => trivial) trivial ?_
        refine px_done ?_
        have HFF : Hid (CtPost B Z w0 b cb vs said w (st5 wB g (nk * 5) (.string s0) (.string s1) (.slice a2 n2 k2) (.string s3) (.slice a4 n4 k4)) ⟨c.text, c.solid, c.kids ++ [pe]⟩ l1) := Lib.hid (HFIN.out _ (HBC2.out.keep (kp_st5 _ _ _ _ _ _ _ _) (fun e => HGC.out e.symm)) (own_st5 HR5.out HKL.out _ _ _ _ _) (HKS.out.trans (kp_st5 wB g (nk * 5) _ _ _ _ _) (fun _ _ h => .inr h) (fun _ _ h => .inl h)))
        clear hK K
        go_wp2
        go_ret
        exact ⟨rfl, HFF.out⟩
end Go.Proofs.YtchmookggegmnaaGreatDoor
