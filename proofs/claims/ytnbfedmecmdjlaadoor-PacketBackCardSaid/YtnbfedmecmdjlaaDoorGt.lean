/- Package packet: a packet's payload. Package packet: Next. -/
import Derived.Test.YtnbfedmecmdjlaaDoorGs
namespace Go.Proofs.YtnbfedmecmdjlaaDoor
open Go Go.RowKit
/-- The same reader, with more that is kept. -/
theorem RdV.reZ {B : Nat} {Z Z' : Nat → Prop} {w : World} {b : Nat} {vw : Value} {r : Rn} {sg : Option Nat} (h : RdV B Z w b vw r sg) (hb : ¬ Z' b) (hs : ∀ g, sg = some g → ¬ Z' g) (hw : ∀ k, vw.ownBlock = some k → ¬ Z' k) (hz : ∀ k, Z' k → k < w.heap.size) : RdV B Z' w b vw r sg :=
  ⟨h.dir, h.ow, hb, hs, hw, h.ne, hz⟩
theorem RdV.andV {B : Nat} {Z : Nat → Prop} {w : World} {b : Nat} {vw v : Value} {r : Rn} {sg : Option Nat} (h : RdV B Z w b vw r sg) (n : Nat) (h1 : b < n) (h2 : ∀ g, sg = some g → g < n) (h3 : ∀ k, vw.ownBlock = some k → k < n) (hv : ∀ k, v.ownBlock = some k → n ≤ k ∧ k < w.heap.size) : RdM B (fun k => Z k ∨ v.ownBlock = some k) w b r sg :=
  ⟨vw, h.reZ (fun e => e.elim (fun e => h.nb e) (fun e => by have := (hv b e).1; omega)) (fun g hg e => e.elim (fun e => h.ns g hg e) (fun e => by have := (hv g e).1; have := h2 g hg; omega))
    (fun k hk e => e.elim (fun e => h.nw k hk e) (fun e => by have := (hv k e).1; have := h3 k hk; omega)) (fun k e => e.elim (fun e => h.zl k e) (fun e => (hv k e).2))⟩
theorem RdM.sub {B : Nat} {Z Z' : Nat → Prop} {w : World} {b : Nat} {r : Rn} {sg : Option Nat} (h : RdM B Z' w b r sg) (hz : ∀ k, Z k → Z' k) : RdM B Z w b r sg := by
  obtain ⟨vw, h⟩ := h
  exact ⟨vw, h.reZ (fun e => h.nb (hz _ e)) (fun g hg e => h.ns g hg (hz _ e)) (fun k hk e => h.nw k hk (hz _ e)) (fun k e => h.zl k (hz _ e))⟩
theorem RdV.andNil {B : Nat} {Z : Nat → Prop} {w : World} {b : Nat} {vw : Value} {r : Rn} {sg : Option Nat} (h : RdV B Z w b vw r sg) : RdM B (fun k => Z k ∨ (Value.slice none 0 0).ownBlock = some k) w b r sg :=
  RdV.rdm (h.reZ (fun e => e.elim (fun e => h.nb e) (fun e => by cases e)) (fun g hg e => e.elim (fun e => h.ns g hg e) (fun e => by cases e)) (fun k hk e => e.elim (fun e => h.nw k hk e) (fun e => by cases e)) (fun k e => e.elim (fun e => h.zl k e) (fun e => by cases e)))
attribute [local irreducible] beNat openR sameB codeB
set_option maxRecDepth 20000 in
set_option maxHeartbeats 8000000 in
theorem pay_any (B : Nat) (Z : Nat → Prop) (b : Nat) (r : Rn) (sg : Option Nat) (S : Nat) (w : World) (h : RdM B Z w b r sg) (ht : TabM B w) (h1 : r.op ≤ S) (h2 : S + tailD r.d ≤ r.W.length) (h3 : 9 ≤ S ∧ S ≤ 2400) (h4 : r.W.length ≤ 140737488351232)
    (hop : (openR r S).W.length = r.W.length ∧ tailD (openR r S).d = tailD r.d) :
    Calls Tryd.prog 33 #[.pointer (some ⟨b, 0, none⟩), .int .i64 (S : Int)] w fun e w' => ∃ v, e = .returned (.tuple #[v, .int .i64 ((payR r S).2.2 : Int)]) ∧ Rd w' v (bys (payR r S).2.1) ∧ RdM B (fun k => Z k ∨ v.ownBlock = some k) w' b (payR r S).1 sg ∧ Kp (FB B Z) w w' := by
  have HM := Lib.hid h
  have HT := Lib.hid ht
  obtain ⟨L, hL⟩ : ∃ L, L = r.W.length := ⟨_, rfl⟩
  have HLL := Lib.hid hL
  obtain ⟨t, htt⟩ : ∃ t, t = tailD r.d := ⟨_, rfl⟩
  have HTT := Lib.hid htt
  have ht32 : t ≤ 32 := by rw [htt]; unfold tailD; split <;> omega
  obtain ⟨r1, hr1⟩ : ∃ r1, r1 = openR r S := ⟨_, rfl⟩
  rw [← hr1] at hop
  rw [← hL] at h2 h4 hop
  rw [← htt] at h2 hop
  have HR1 := Lib.hid hr1
  have HOP := Lib.hid hop
  have H1 := Lib.hid h1
  have HB : Hid (S + t ≤ L ∧ 9 ≤ S ∧ S ≤ 2400 ∧ L ≤ 140737488351232 ∧ t ≤ 32) := Lib.hid ⟨h2, h3.1, h3.2, h4, ht32⟩
  have HP : Hid (payR r S = if sameB (codeB r1.d (r1.W.take S)) ((r1.W.drop S).take t) = false then (r1, [], 5) else if ((r1.W.getD 4 0).toNat < 4) ∨ S ≤ (r1.W.getD 4 0).toNat + 5 then (r1, [], 3) else (r1, (r1.W.take (S - (r1.W.getD 4 0).toNat)).drop 5, 0)) := Lib.hid (by unfold payR; rw [← hr1, ← htt])
  have i1 : 9 ≤ (S : Int) := by omega
  have i2 : (S : Int) ≤ 2400 := by omega
  have i3 : (t : Int) ≤ 32 := by omega
  clear h ht hL htt ht32 hr1 hop h1 h2 h3 h4
  go_enter Tryd.func33, Tryd.ntmps33
  go_upto_region 2 with (go_at_call 49
                         refine (open_any B Z b r sg S _ HM.out HT.out H1.out (by have := HLL.out; have := HB.out; omega) (by have := HLL.out; have := HB.out; omega) (by have := HLL.out; have := HB.out; omega)).mono ?_
                         rintro e w2 ⟨rfl, k1, k2⟩
                         rw [← HR1.out] at k1
                         have HM2 := Lib.hid k1
                         have HK2 := Lib.hid k2
                         clear k1 k2)
  obtain ⟨vw1, h2⟩ := HM2.out
  have H2 := Lib.hid h2
  have HT2 := Lib.hid (HT.out.fb HK2.out)
  obtain ⟨g1, o1, c1, e1, k1, k2, -⟩ := h2.ow.posB (by have := HOP.out; have := HB.out; omega)
  subst e1
  have hcW := h2.cW
  rw [HOP.out.1] at hcW k1
  have HPL : Hid (Rd w2 (.slice (some ⟨g1, o1, none⟩) S c1) (bys (r1.W.take S))) := Lib.hid (by
    have h5 := h2.ow.rd.cut 0 S c1 (Nat.zero_le _) (by have := HOP.out; have := HB.out; omega) (by have := HB.out; omega) (Nat.le_refl _)
    rw [List.drop_zero, Nat.sub_zero, bys_take] at h5
    simpa [sliced, Addr.add_lit] using h5)
  have HPT : Hid ((r1.W.take S).length = S) := Lib.hid (by rw [List.length_take]; have := HOP.out; have := HB.out; omega)
  have HCL : Hid (((r1.W.drop S).take t).length = t) := Lib.hid (by rw [List.length_take, List.length_drop]; have := HOP.out; have := HB.out; omega)
  have HCD : Hid (Rd w2 (.slice (if c1 = S then (some ⟨g1, o1, none⟩ : Option Addr) else some ⟨g1, o1 + S, none⟩) t (c1 - S)) (bys ((r1.W.drop S).take t))) := Lib.hid (by
    have h5 := h2.ow.rd.cut S (S + t) c1 (by omega) (by have := HOP.out; have := HB.out; omega) (by have := HB.out; omega) (Nat.le_refl _)
    have e5 : ((bys r1.W).drop S).take (S + t - S) = bys ((r1.W.drop S).take t) := by
      rw [Nat.add_sub_cancel_left]
      simp [bys, List.map_drop, List.map_take]
    rw [e5] at h5
    simpa [sliced, Addr.add_lit] using h5)
  have hwS : IntKind.i64.wrap (S : Int) = (S : Int) := IntWalk.i64_in _ ⟨by omega, by omega⟩
  obtain ⟨E, hE⟩ : ∃ E, E = S + t := ⟨_, rfl⟩
  have hsum : IntKind.i64.wrap ((S : Int) + (t : Int)) = (E : Int) := by rw [IntWalk.i64_in _ ⟨by omega, by omega⟩]; omega
  have hwE : IntKind.i64.wrap (E : Int) = (E : Int) := IntWalk.i64_in _ ⟨by omega, by omega⟩
  have j0 : (0 : Int) ≤ (S : Int) := by omega
  have j1 : (S : Int) ≤ (E : Int) := by omega
  have j2 : (E : Int) ≤ (c1 : Int) := by have := HB.out; omega
  have j3 : (S : Int) ≤ (c1 : Int) := by omega
  have j4 : E - S = t := by omega
  have j5 : (0 : Int) ≤ (E : Int) := by omega
  have HCW := Lib.hid hcW
  have HK1 := Lib.hid k1
  clear h2 k1 k2 hcW hE
  have hcw := fun (wq : World) (hq : wq.cell? ⟨b, 35, none⟩ = some (.slice (some ⟨g1, o1, none⟩) L c1)) => hq
  refine wp_region_px 20 [] (fun w' : World => w'.cell? ⟨b, 35, none⟩ = some (.slice (some ⟨g1, o1, none⟩) L c1)) (.quiet 0 (.quiet 1 (.quiet 2 (.quiet 3 (.quiet 4 (.quiet 5 (.quiet 6 (.quiet 7 (.quiet 8 (.quiet 9 (.quiet 10 (.quiet 11 (.quiet 12 (.quiet 13 (.quiet 14 (.eff 15 (.quiet 16 (.quiet 17 (.quiet 18 (.quiet 19 .done)))))))))))))))))))) (by kernel_rfl) (by kernel_rfl) (by kernel_rfl) (by kernel_rfl) (fun _ d _ _ _ h => by cases d <;> exact h) HCW.out ?_
  iterate 15 (refine px_quiet (v := ?_) rfl (by rfl) (fun wq hwq => ?_) rfl ?_; rotate_left 1; (focus (have hx1 := hcw wq hwq; go_simp; try (with_reducible rfl); done)); try simp only [List.setIfInBounds_toArray, List.set_cons_zero, List.set_cons_succ])
  refine px_eff rfl (by rfl) (fun K hK => ?_)
  go_simp
  refine (tail_any B b _ _ r1.d sg _ H2.out.dir.drewD).mono ?_
  rintro e w5 ⟨rfl, rfl⟩
  rw [HOP.out.2]
  simp only []
  refine hK (fun w' => w'.cell? ⟨b, 35, none⟩ = some (.slice (some ⟨g1, o1, none⟩) L c1)) _ _ (fun x hx => hx) HCW.out ?_
  clear hK K
  try simp only [List.setIfInBounds_toArray, List.set_cons_zero, List.set_cons_succ]
  iterate 4 (refine px_quiet (v := ?_) rfl (by rfl) (fun wq hwq => ?_) rfl ?_; rotate_left 1; (focus (go_simp; try (with_reducible rfl); done)); try simp only [List.setIfInBounds_toArray, List.set_cons_zero, List.set_cons_succ])
  refine px_done ?_
  generalize (if c1 = S then (some ⟨g1, o1, none⟩ : Option Addr) else some ⟨g1, o1 + S, none⟩) = ad2 at HCD ⊢
  clear hcw hwS hsum hwE
  go_upto_region 3 with (fail)
  have HD := Lib.hid H2.out.dir.drewD
  have HTD := Lib.hid (HT2.out.kp0 (Kp.refl _ _).drew)
  obtain ⟨s, hs⟩ : ∃ s, s = sameB (codeB r1.d (r1.W.take S)) ((r1.W.drop S).take t) := ⟨_, rfl⟩
  have HSM := Lib.hid hs
  clear hs
  obtain ⟨y, hy⟩ : ∃ y, y = r1.W.getD 4 0 := ⟨_, rfl⟩
  have HYE := Lib.hid hy
  have HY4 : Hid ((r1.W.take S)[4]? = some y) := Lib.hid (by
    rw [List.getElem?_take_of_lt (by have := HB.out; omega), hy]
    exact getD_some (by have := HOP.out; have := HB.out; omega) 0)
  rw [← hy] at HP
  clear hy
  obtain ⟨p, hp⟩ : ∃ p, p = y.toNat := ⟨_, rfl⟩
  have hp256 : (p : Int) < 256 := by have := y.toNat_lt; omega
  rw [← hp] at HP
  have HPY := Lib.hid hp
  clear hp
  cases s with
  | false =>
    go_wp2_with (first
      | (go_at_call 23
         refine (code_any B b _ _ r1.d sg _ (r1.W.take S) _ HD.out HTD.out HPL.out.drew (by rw [HPT.out]; have := HB.out; omega)).mono ?_
         rintro e w3 ⟨v3, rfl, q1, q2⟩
         have HR3 := Lib.hid q1
         have HK3 : Hid (Kp0 w2 w3) := Lib.hid q2.drewL
         clear q1 q2)
      | (go_at_call 52
         refine (same_any _ _ (codeB r1.d (r1.W.take S)) ((r1.W.drop S).take t) _ HR3.out (HCD.out.keep0 HK3.out) (by rw [codeB_len]; unfold tailD; split <;> omega) (by rw [HCL.out]; have := HB.out; omega)).mono ?_
         rintro e w4 ⟨rfl, q2⟩
         rw [← HSM.out]
         have HK4 : Hid (Kp0 w2 w4) := Lib.hid (HK3.out.tr q2)
         clear q2))
    go_ret2
    rw [HP.out, if_pos HSM.out.symm]
    exact ⟨_, rfl, Rd.nil _, (H2.out.kp0 HK4.out).andNil, HK2.out.tr (HK4.out.nil _)⟩
  | true =>
    have HSN : Hid (¬ sameB (codeB r1.d (r1.W.take S)) ((r1.W.drop S).take t) = false) := Lib.hid (by rw [← HSM.out]; decide)
    go_upto_region 7 with (first
      | (go_at_call 23
         refine (code_any B b _ _ r1.d sg _ (r1.W.take S) _ HD.out HTD.out HPL.out.drew (by rw [HPT.out]; have := HB.out; omega)).mono ?_
         rintro e w3 ⟨v3, rfl, q1, q2⟩
         have HR3 := Lib.hid q1
         have HK3 : Hid (Kp0 w2 w3) := Lib.hid q2.drewL
         clear q1 q2)
      | (go_at_call 52
         refine (same_any _ _ (codeB r1.d (r1.W.take S)) ((r1.W.drop S).take t) _ HR3.out (HCD.out.keep0 HK3.out) (by rw [codeB_len]; unfold tailD; split <;> omega) (by rw [HCL.out]; have := HB.out; omega)).mono ?_
         rintro e w4 ⟨rfl, q2⟩
         rw [← HSM.out]
         have HK4 : Hid (Kp0 w2 w4) := Lib.hid (HK3.out.tr q2)
         have hc4 : w4.cell? ⟨g1, o1 + 4, none⟩ = some (.int .u8 (p : Int)) := by
           rw [HPY.out]
           exact (HPL.out.keep0 HK4.out).range 4 _ (bys_getV HY4.out)
         clear q2))
    by_cases c5 : p < 4
    · have e1 : (p : Int) < 4 := by omega
      have HC := Lib.hid c5
      clear c5 hc4
      go_wp2
      go_ret2
      rw [HP.out, if_neg HSN.out, if_pos (.inl HC.out)]
      exact ⟨_, rfl, Rd.nil _, (H2.out.kp0 HK4.out).andNil, HK2.out.tr (HK4.out.nil _)⟩
    by_cases c6 : S ≤ p + 5
    · have e1 : 4 ≤ (p : Int) := by omega
      have e2 : (S : Int) - (p : Int) ≤ 5 := by omega
      have HC := Lib.hid c6
      clear c5 c6 hc4
      go_wp2
      go_ret2
      rw [HP.out, if_neg HSN.out, if_pos (.inr HC.out)]
      exact ⟨_, rfl, Rd.nil _, (H2.out.kp0 HK4.out).andNil, HK2.out.tr (HK4.out.nil _)⟩
    have e1 : 4 ≤ (p : Int) := by omega
    obtain ⟨m, hm⟩ : ∃ m, m = S - p := ⟨_, rfl⟩
    have e2 : (S : Int) - (p : Int) = (m : Int) := by omega
    have e3 : 6 ≤ (m : Int) := by omega
    have e4 : (m : Int) ≤ (S : Int) := by omega
    have e5 : ¬ c1 = 5 := by omega
    have HM5 := Lib.hid hm
    have HC : Hid (¬ (p < 4 ∨ S ≤ p + 5)) := Lib.hid (by omega)
    have HMB : Hid (6 ≤ m ∧ m ≤ S) := Lib.hid (by omega)
    have HPY2 : Hid (Rd w4 (.slice (some ⟨g1, o1 + 5, none⟩) (m - 5) (c1 - 5)) (bys ((r1.W.take m).drop 5))) := Lib.hid (by
      have h5 := ((H2.out.ow.rd.keep0 HK4.out)).cut 5 m c1 (by omega) (by have := HOP.out; have := HB.out; omega) (by have := HB.out; omega) (Nat.le_refl _)
      have e6 : ((bys r1.W).drop 5).take (m - 5) = bys ((r1.W.take m).drop 5) := by
        rw [List.drop_take]
        simp [bys, List.map_drop, List.map_take]
      rw [e6] at h5
      simpa [sliced, Addr.add_lit, e5] using h5)
    clear c5 c6 hc4 hm
    go_wp2_with (go_at_call 40
                 refine (clone_any _ ((r1.W.take m).drop 5) _ HPY2.out (by rw [List.length_drop, List.length_take]; have := HMB.out; have := HB.out; omega)).mono ?_
                 rintro e w6 ⟨v6, rfl, q1, q2⟩
                 have HO6 := Lib.hid q1
                 have HK6 := Lib.hid q2
                 clear q1 q2)
    go_ret2
    rw [HP.out, if_neg HSN.out, if_neg HC.out, ← HM5.out]
    have hkk : Kp (FB B Z) w w6 := HK2.out.tr ((HK4.out.tr HK6.out).nil _)
    have hv6 : ∀ k, v6.ownBlock = some k → w2.heap.size ≤ k ∧ k < w6.heap.size := fun k hk => ⟨Nat.le_trans HK4.out.size (HO6.out.lt k hk).1, (HO6.out.lt k hk).2⟩
    have hm6 := (H2.out.kp0 (HK4.out.tr HK6.out)).andV (v := v6) w2.heap.size H2.out.dir.blk.lt (fun g hg => (H2.out.sgl g hg).2.1) (fun k hk => (H2.out.ow.lt k hk).2) hv6
    exact ⟨_, rfl, HO6.out.rd, hm6, hkk⟩
end Go.Proofs.YtnbfedmecmdjlaaDoor
namespace Go.Proofs.YtnbfedmecmdjlaaDoor
open Go Go.RowKit
theorem RdV.killed {B : Nat} {Z : Nat → Prop} {w : World} {b : Nat} {vw : Value} {r : Rn} {sg : Option Nat} (h : RdV B Z w b vw r sg) :
    RdM B Z ((w.setCell ⟨b, 37, none⟩ (.bool true)).setCell ⟨b, 35, none⟩ (.slice none 0 0)) b (deadR r) sg ∧ Kp (FB B Z) w ((w.setCell ⟨b, 37, none⟩ (.bool true)).setCell ⟨b, 35, none⟩ (.slice none 0 0)) := by
  have hd := dir_rest (dir_rest h.dir 2 (.bool true)) 0 (.slice none 0 0)
  have hk : Kp (fun k => k = b) w ((w.setCell ⟨b, 37, none⟩ (.bool true)).setCell ⟨b, 35, none⟩ (.slice none 0 0)) := ((Kp.refl (fun k => k = b) w).setCell (p := ⟨b, 37, none⟩) (fun _ => rfl) _).setCell (p := ⟨b, 35, none⟩) (fun _ => rfl) _
  exact ⟨⟨.slice none 0 0, hd, Ow.nil _ _ _, h.nb, h.ns, (fun k hk => by cases hk), (fun k hk => by cases hk), fun k hk' => Nat.lt_of_lt_of_le (h.zl k hk') hk.size⟩, hk.mono (fun k _ e => by rw [e]; exact h.fb)⟩
/-- The direction gone on by a step. -/
theorem RdV.stepped {B : Nat} {Z : Nat → Prop} {w w1 : World} {b : Nat} {vw : Value} {r : Rn} {d1 : Dn} {sg : Option Nat} (h : RdV B Z w b vw r sg) (hd : DirM B w1 b 34 (rdC vw r) d1 sg) (hk : Kp (fun k => k = b) w w1) : RdM B Z w1 b { r with d := d1 } sg :=
  ⟨vw, hd, h.ow.keep hk (fun k hk _ _ e => (h.ne k hk).1 e), h.nb, h.ns, h.nw, h.ne, fun k hk' => Nat.lt_of_lt_of_le (h.zl k hk') hk.size⟩
theorem awaitR_ok {r r1 : Rn} {S : Nat} (h : awaitR r = (r1, S, 0)) : r1 = openR r (unitD r.d) ∧ unitD r.d ≤ S ∧ 9 ≤ S ∧ S ≤ 2400 ∧ S + tailD r.d ≤ r.W.length ∧ unitD r.d ≤ r.W.length := by
  unfold awaitR at h
  have hu := unitD_or r.d
  split at h
  · simp at h
  · split at h
    · simp at h
    · split at h
      · simp at h
      · split at h
        · simp at h
        · rename_i h1 h2 h3 h4
          simp only [Prod.mk.injEq, and_true] at h
          obtain ⟨rfl, rfl⟩ := h
          refine ⟨rfl, ?_, by omega, by omega, by omega, by omega⟩
          have h5 : (4 + beNat ((openR r (unitD r.d)).W.take 4)) % unitD r.d = 0 := by omega
          rcases hu with e | e <;> (rw [e] at h5 ⊢; omega)
theorem awaitR_W {r : Rn} (h1 : r.op ≤ unitD r.d) : (awaitR r).1.W.length = r.W.length ∧ (awaitR r).1.d.cnt = r.d.cnt ∧ ((awaitR r).1 = r ∨ (awaitR r).1 = openR r (unitD r.d)) := by
  by_cases hlt : r.W.length < unitD r.d
  · have : awaitR r = (r, 0, 4) := by unfold awaitR; rw [if_pos hlt]
    rw [this]
    exact ⟨rfl, rfl, .inl rfl⟩
  · have : (awaitR r).1 = openR r (unitD r.d) := by
      unfold awaitR
      rw [if_neg hlt]
      split
      · rfl
      · split
        · rfl
        · split
          · rfl
          · rfl
    rw [this]
    exact ⟨openR_len r _ h1 (by omega), (gone_key r.d _).2.1, .inr rfl⟩
theorem payR_1 (r : Rn) (S : Nat) : (payR r S).1 = openR r S := by
  unfold payR
  split
  · rfl
  · split <;> rfl
theorem awaitR_e (r : Rn) : (awaitR r).2.2 = 4 ∨ (awaitR r).2.2 = 2 ∨ (awaitR r).2.2 = 0 := by
  unfold awaitR
  split
  · exact .inl rfl
  · split
    · exact .inr (.inl rfl)
    · split
      · exact .inr (.inl rfl)
      · split
        · exact .inl rfl
        · exact .inr (.inr rfl)
theorem payR_e (r : Rn) (S : Nat) : (payR r S).2.2 = 5 ∨ (payR r S).2.2 = 3 ∨ (payR r S).2.2 = 0 := by
  unfold payR
  split
  · exact .inl rfl
  · split
    · exact .inr (.inl rfl)
    · exact .inr (.inr rfl)
attribute [local irreducible] awaitR payR
set_option maxRecDepth 20000 in
set_option maxHeartbeats 8000000 in
theorem pnext_any (B : Nat) (Z : Nat → Prop) (b : Nat) (r : Rn) (sg : Option Nat) (w : World) (h : RdM B Z w b r sg) (ht : TabM B w) (h1 : r.dead = false → r.op ≤ unitD r.d) (h4 : r.W.length ≤ 140737488351232) (hcn : r.d.cnt ≤ 1000000000000) :
    Calls Tryd.prog 20 #[.pointer (some ⟨b, 0, none⟩)] w fun e w' => ∃ v, e = .returned (.tuple #[v, .int .i64 ((nextR r).2.2 : Int)]) ∧ Rd w' v (bys (nextR r).2.1) ∧ RdM B Z w' b (nextR r).1 sg ∧ Kp (FB B Z) w w' := by
  have HM := Lib.hid h
  have HT := Lib.hid ht
  have hcD : w.cell? ⟨b, 37, none⟩ = some (.bool r.dead) := by obtain ⟨vw, h⟩ := h; exact h.cD
  cases hd : r.dead with
  | true =>
    rw [hd] at hcD
    have hN : nextR r = (r, [], 9) := by unfold nextR; rw [if_pos hd]
    rw [hN]
    clear hN hd h ht h1 h4 hcn
    go_enter Tryd.func20, Tryd.ntmps20
    go_wp2
    go_ret2
    exact ⟨_, rfl, Rd.nil _, HM.out, Kp.refl _ _⟩
  | false =>
    rw [hd] at hcD
    have h1 := h1 hd
    have hN : nextR r = if (awaitR r).2.2 = 4 then ((awaitR r).1, [], 4) else
        if (awaitR r).2.2 ≠ 0 then (deadR (awaitR r).1, [], (awaitR r).2.2) else
        if (payR (awaitR r).1 (awaitR r).2.1).2.2 ≠ 0 then (deadR (payR (awaitR r).1 (awaitR r).2.1).1, [], (payR (awaitR r).1 (awaitR r).2.1).2.2) else
        ({ dropR (payR (awaitR r).1 (awaitR r).2.1).1 ((awaitR r).2.1 + tailD r.d) with d := stepD (payR (awaitR r).1 (awaitR r).2.1).1.d }, (payR (awaitR r).1 (awaitR r).2.1).2.1, 0) := by
      unfold nextR
      rw [if_neg (by rw [hd]; decide)]
    have HAW := Lib.hid (awaitR_W h1)
    have H1 := Lib.hid h1
    have H4 := Lib.hid h4
    have HCN := Lib.hid hcn
    rcases hA : awaitR r with ⟨r1, S, e⟩
    rw [hA] at hN HAW
    simp only [] at hN HAW
    have HAE := Lib.hid hA
    have HN := Lib.hid hN
    have hcases : e = 4 ∨ e = 2 ∨ e = 0 := by
      have h5 := awaitR_e r
      rw [hA] at h5
      exact h5
    clear hN hA h ht h1 h4 hcn hd
    rcases hcases with rfl | rfl | rfl
    · go_enter Tryd.func20, Tryd.ntmps20
      go_wp2_with (go_at_call 32
                   refine (await_any B Z b r sg _ HM.out HT.out H1.out H4.out).mono ?_
                   rw [HAE.out]
                   rintro e w2 ⟨rfl, k1, k2⟩
                   have HM2 := Lib.hid k1
                   have HK2 := Lib.hid k2
                   clear k1 k2)
      go_ret2
      rw [show nextR r = (r1, [], 4) by rw [HN.out]; rfl]
      exact ⟨_, rfl, Rd.nil _, HM2.out, HK2.out⟩
    · go_enter Tryd.func20, Tryd.ntmps20
      go_wp2_with (go_at_call 32
                   refine (await_any B Z b r sg _ HM.out HT.out H1.out H4.out).mono ?_
                   rw [HAE.out]
                   rintro e w2 ⟨rfl, k1, k2⟩
                   have HM2 := Lib.hid k1
                   have HK2 := Lib.hid k2
                   obtain ⟨vw2, q⟩ := k1
                   have HV2 := Lib.hid q
                   have hq7 := q.cD
                   have hf7 := q.fz 37
                   have hq5 := q.cW
                   have hf5 := q.fz 35
                   have HKI := Lib.hid q.killed
                   obtain ⟨a5, n5, c5, e5⟩ := q.ow.sl
                   subst e5
                   clear k2 q)
      go_ret2
      rw [show nextR r = (deadR r1, [], 2) by rw [HN.out]; rfl]
      exact ⟨_, rfl, Rd.nil _, HKI.out.1, HK2.out.tr HKI.out.2⟩
    · have hok := awaitR_ok HAE.out
      obtain ⟨k1, k2, k3, k4, k5, k6⟩ := hok
      have hW1 : r1.W.length = r.W.length := HAW.out.1
      have ht1 : tailD r1.d = tailD r.d := by rw [k1]; exact (unitD_gone r.d _).2
      have hc1 : r1.d.cnt = r.d.cnt := HAW.out.2.1
      have hop1 : r1.op = unitD r.d := by rw [k1]; rfl
      have hop : (openR r1 S).W.length = r1.W.length ∧ tailD (openR r1 S).d = tailD r1.d := ⟨openR_len r1 S (by omega) (by omega), (unitD_gone r1.d _).2⟩
      rcases hP : payR r1 S with ⟨r2, pl, e2⟩
      have hr2 : r2 = openR r1 S := by have := payR_1 r1 S; rw [hP] at this; exact this
      have he2 : e2 = 5 ∨ e2 = 3 ∨ e2 = 0 := by have := payR_e r1 S; rw [hP] at this; exact this
      have HOP := Lib.hid hop
      have HPE := Lib.hid hP
      have HPA : Hid (r1.op ≤ S ∧ S + tailD r1.d ≤ r1.W.length ∧ (9 ≤ S ∧ S ≤ 2400) ∧ r1.W.length ≤ 140737488351232) := Lib.hid ⟨by omega, by omega, ⟨k3, k4⟩, by have := H4.out; omega⟩
      have hNN : nextR r = if e2 ≠ 0 then (deadR r2, [], e2) else ({ dropR r2 (S + tailD r.d) with d := stepD r2.d }, pl, 0) := by
        rw [HN.out]
        show (if (payR r1 S).2.2 ≠ 0 then (deadR (payR r1 S).1, [], (payR r1 S).2.2) else ({ dropR (payR r1 S).1 (S + tailD r.d) with d := stepD (payR r1 S).1.d }, (payR r1 S).2.1, 0)) = _
        rw [hP]
      have HNN := Lib.hid hNN
      have HR2 : Hid (r2.W.length = r.W.length ∧ tailD r2.d = tailD r.d ∧ r2.d.cnt = r.d.cnt) := Lib.hid ⟨by rw [hr2, hop.1, hW1], by rw [hr2, hop.2, ht1], by rw [hr2]; exact ((gone_key r1.d _).2.1).trans hc1⟩
      obtain ⟨t, htt⟩ : ∃ t, t = tailD r.d := ⟨_, rfl⟩
      have ht32 : t ≤ 32 := by rw [htt]; unfold tailD; split <;> omega
      have HTT := Lib.hid htt
      have HST : Hid (S + t ≤ r.W.length ∧ 9 ≤ S) := Lib.hid ⟨by omega, k3⟩
      have j1 : (S : Int) ≤ 2400 := by omega
      have j2 : (t : Int) ≤ 32 := by omega
      clear k1 k2 k3 k4 k5 k6 hW1 ht1 hc1 hop1 hop hP hr2 hNN htt ht32
      by_cases hz : e2 = 0
      · subst hz
        clear he2
        have hwS : IntKind.i64.wrap ((S : Int) + (t : Int)) = ((S + t : Nat) : Int) := by rw [IntWalk.i64_in _ ⟨by omega, by omega⟩]; omega
        obtain ⟨E, hE⟩ : ∃ E, E = S + t := ⟨_, rfl⟩
        have hEi : (S : Int) + (t : Int) = (E : Int) := by omega
        have HE := Lib.hid hE
        clear hwS hE
        go_enter Tryd.func20, Tryd.ntmps20
        go_wp2_with (first
          | (go_at_call 32
             refine (await_any B Z b r sg _ HM.out HT.out H1.out H4.out).mono ?_
             rw [HAE.out]
             rintro e w2 ⟨rfl, k1, k2⟩
             have HM2 := Lib.hid k1
             have HK2 := Lib.hid k2
             clear k1 k2)
          | (go_at_call 33
             refine (pay_any B Z b r1 sg S _ HM2.out (HT.out.fb HK2.out) HPA.out.1 HPA.out.2.1 HPA.out.2.2.1 HPA.out.2.2.2 HOP.out).mono ?_
             rw [HPE.out]
             rintro e w3 ⟨v3, rfl, k0, k1, k2⟩
             have HR3 := Lib.hid k0
             have HM3 := Lib.hid k1
             have HK3 := Lib.hid k2
             obtain ⟨vw3, q⟩ := k1
             have HV3 := Lib.hid q
             clear k0 k2 q)
          | (go_at_call 35
             refine (tail_any B b _ _ r2.d sg _ HV3.out.dir).mono ?_
             rintro e w4 ⟨rfl, rfl⟩
             rw [HR2.out.2.1, ← HTT.out])
          | (go_at_call 34
             refine (drop_any B _ b r2 sg E _ HM3.out (by have := HR2.out.1; have := HST.out; have := HE.out; omega) (by have := HR2.out.1; have := HST.out; omega) (by have := HR2.out.1; have := H4.out; omega)).mono ?_
             rintro e w5 ⟨rfl, k1, k2⟩
             have HR5 : Hid (Rd w5 v3 (bys pl)) := Lib.hid (HR3.out.keep k2 (fun k hk _ e => e.2 (.inr hk)))
             have HK5 : Hid (Kp (FB B Z) w3 w5) := Lib.hid (k2.mono (fun k _ e => ⟨e.1, fun h => e.2 (.inl h)⟩))
             obtain ⟨vw5, q⟩ := k1
             have HV5 := Lib.hid q
             clear k2 q)
          | (go_at_call 24
             refine (step_any B b _ _ (dropR r2 E).d sg _ HV5.out.dir (by have := HR2.out.2.2; have := HCN.out; show r2.d.cnt ≤ _; omega)).mono ?_
             rintro e w6 ⟨rfl, k1, k2⟩
             have HM6 := Lib.hid ((HV5.out.stepped k1 k2).sub (Z := Z) (fun _ h => .inl h))
             have HR6 : Hid (Rd w6 v3 (bys pl)) := Lib.hid (HR5.out.keep k2 (fun k hk _ e => by subst e; exact HV5.out.nb (.inr hk)))
             have HK6 : Hid (Kp (FB B Z) w5 w6) := Lib.hid (k2.mono (fun k _ e => by subst e; exact ⟨HV5.out.dir.ge, fun h => HV5.out.nb (.inl h)⟩))
             clear k1 k2))
        go_ret2
        rw [HNN.out, if_neg (by decide), ← HTT.out, ← HE.out]
        exact ⟨_, rfl, HR6.out, HM6.out, ((HK2.out.tr HK3.out).tr HK5.out).tr HK6.out⟩
      · have he3 : (e2 : Int) = 5 ∨ (e2 : Int) = 3 := by omega
        have hz2 : ((e2 : Int) != 0) = true := by rw [bne_iff_ne]; omega
        have HZ := Lib.hid hz
        clear he2 he3 hz
        go_enter Tryd.func20, Tryd.ntmps20
        go_wp2_with (first
          | (go_at_call 32
             refine (await_any B Z b r sg _ HM.out HT.out H1.out H4.out).mono ?_
             rw [HAE.out]
             rintro e w2 ⟨rfl, k1, k2⟩
             have HM2 := Lib.hid k1
             have HK2 := Lib.hid k2
             clear k1 k2)
          | (go_at_call 33
             refine (pay_any B Z b r1 sg S _ HM2.out (HT.out.fb HK2.out) HPA.out.1 HPA.out.2.1 HPA.out.2.2.1 HPA.out.2.2.2 HOP.out).mono ?_
             rw [HPE.out]
             rintro e w3 ⟨v3, rfl, k0, k1, k2⟩
             have k3 := k1.sub (Z := Z) (fun _ h => .inl h)
             have HK3 := Lib.hid k2
             obtain ⟨vw3, q⟩ := k3
             have hq7 := q.cD
             have hf7 := q.fz 37
             have hq5 := q.cW
             have hf5 := q.fz 35
             have HKI := Lib.hid q.killed
             obtain ⟨a5, n5, c5, e5⟩ := q.ow.sl
             subst e5
             clear k0 k1 k2 q))
        go_ret2
        rw [HNN.out, if_pos HZ.out]
        exact ⟨_, rfl, Rd.nil _, HKI.out.1, (HK2.out.tr HK3.out).tr HKI.out.2⟩
end Go.Proofs.YtnbfedmecmdjlaaDoor
