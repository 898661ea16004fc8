/- Package packet: bytes are dropped; what is awaited. Package packet: what is awaited. -/
import Derived.Test.YtnbfedmecmdjlaaDoorGr
namespace Go.Proofs.YtnbfedmecmdjlaaDoor
open Go Go.RowKit
section
variable {B : Nat} {Z : Nat → Prop} {w w1 : World} {b : Nat} {vw v1 : Value} {r : Rn} {sg : Option Nat}
/-- Other bytes of its own wait, and nothing is turned back. -/
theorem RdV.dropped {l : List UInt8} (h : RdV B Z w b vw r sg) (ho : Ow B 5 w v1 (bys l)) (hb : ∀ k, v1.ownBlock = some k → vw.ownBlock = some k) :
    RdV B Z ((w.setCell ⟨b, 35, none⟩ v1).setCell ⟨b, 36, none⟩ (.int .i64 0)) b v1 { r with W := l, op := 0 } sg ∧ Kp (FB B Z) w ((w.setCell ⟨b, 35, none⟩ v1).setCell ⟨b, 36, none⟩ (.int .i64 0)) := by
  obtain ⟨h1, k1⟩ := h.setW (Kp.refl _ _) ho (fun k hk => .inl (hb k hk))
  obtain ⟨h2, k2⟩ := h1.opened (n := 0) h1.dir h1.ow (Kp.refl _ _)
  exact ⟨h2, k1.tr k2⟩
/-- Nothing waits any more. -/
theorem RdV.emptied (h : RdV B Z w b vw r sg) (x : Value) :
    RdV B Z (((w.setCell ⟨b, 35, none⟩ x).setCell ⟨b, 36, none⟩ (.int .i64 0)).setCell ⟨b, 35, none⟩ (.slice none 0 0)) b (.slice none 0 0) { r with W := [], op := 0 } sg ∧ Kp (FB B Z) w (((w.setCell ⟨b, 35, none⟩ x).setCell ⟨b, 36, none⟩ (.int .i64 0)).setCell ⟨b, 35, none⟩ (.slice none 0 0)) := by
  have hd := dir_rest (dir_rest (dir_rest h.dir 0 x) 1 (.int .i64 0)) 0 (.slice none 0 0)
  have hk : Kp (fun k => k = b) w (((w.setCell ⟨b, 35, none⟩ x).setCell ⟨b, 36, none⟩ (.int .i64 0)).setCell ⟨b, 35, none⟩ (.slice none 0 0)) := (((Kp.refl (fun k => k = b) w).setCell (p := ⟨b, 35, none⟩) (fun _ => rfl) _).setCell (p := ⟨b, 36, none⟩) (fun _ => rfl) _).setCell (p := ⟨b, 35, none⟩) (fun _ => rfl) _
  exact ⟨⟨hd, Ow.nil _ _ _, h.nb, h.ns, (fun k hk => by cases hk), (fun k hk => by cases hk), fun k hk' => Nat.lt_of_lt_of_le (h.zl k hk') hk.size⟩, hk.mono (fun k _ e => by rw [e]; exact h.fb)⟩
end
set_option maxRecDepth 20000 in
set_option maxHeartbeats 4000000 in
theorem drop_any (B : Nat) (Z : Nat → Prop) (b : Nat) (r : Rn) (sg : Option Nat) (n : Nat) (w : World) (h : RdM B Z w b r sg) (hn : n ≤ r.W.length) (h3 : 0 < r.W.length) (h4 : r.W.length ≤ 140737488351232) :
    Calls Tryd.prog 34 #[.pointer (some ⟨b, 0, none⟩), .int .i64 (n : Int)] w fun e w' => e = .returned (.tuple #[]) ∧ RdM B Z w' b (dropR r n) sg ∧ Kp (FB B Z) w w' := by
  obtain ⟨vw, h⟩ := h
  have H := Lib.hid h
  obtain ⟨g, o, cap, e, hc1, hc2, -⟩ := h.ow.posB h3
  subst e
  obtain ⟨L, hL⟩ : ∃ L, L = r.W.length := ⟨_, rfl⟩
  have hcW := h.cW
  have hcO := h.cO
  have hf5 := h.fz 35
  have hf6 := h.fz 36
  rw [← hL] at hcW hn h3 h4 hc1
  have HLL := Lib.hid hL
  have hn0 : (0 : Int) ≤ (n : Int) := by omega
  have hnL : (n : Int) ≤ (L : Int) := by omega
  have hcut := h.ow.cut n (by omega)
  rw [← hL] at hcut
  have hbl : ∀ k, (sliced (some ⟨g, o, none⟩) n L cap 1).ownBlock = some k → (Value.slice (some ⟨g, o, none⟩) r.W.length cap).ownBlock = some k := fun k hk => by
    have := Ow.cut_block (n := L) k hk
    exact this
  have edrop : (bys r.W).drop n = bys (r.W.drop n) := by simp [bys, List.map_drop]
  rw [edrop] at hcut
  rcases Nat.lt_or_ge n L with hlt | hge
  · have hne : ¬ cap = n := by omega
    have esl : sliced (some ⟨g, o, none⟩) n L cap 1 = .slice (some ⟨g, o + n, none⟩) (L - n) (cap - n) := by simp [sliced, hne, Addr.add_lit]
    rw [esl] at hcut hbl
    have HS := Lib.hid (H.out.dropped hcut hbl)
    have hcap : (L : Int) ≤ (cap : Int) := by omega
    have hlt2 : (n : Int) < (L : Int) := by omega
    obtain ⟨m, hm⟩ : ∃ m, m = L - n := ⟨_, rfl⟩
    rw [← hm] at HS
    have hmi : (L : Int) - (n : Int) = (m : Int) := by omega
    have hmn : L - n = m := hm.symm
    have hm0 : ((m : Int) == 0) = false := by rw [beq_eq_false_iff_ne]; omega
    have hm1 : ¬ m = 0 := by omega
    clear h h3 h4 hc1 hL hcut hbl edrop hm hlt hn esl
    go_enter Tryd.func34, Tryd.ntmps34
    go_wp2
    go_end0
    exact ⟨rfl, HS.out.1.rdm, HS.out.2⟩
  · obtain rfl : n = L := by omega
    have hd0 : r.W.drop n = [] := List.drop_eq_nil_of_le (by omega)
    have hdr : dropR r n = { r with W := [], op := 0 } := by unfold dropR; rw [hd0]
    rw [hdr]
    have HS := Lib.hid H.out.emptied
    have hcap : (n : Int) ≤ (cap : Int) := by omega
    clear h h3 h4 hc1 hL hcut hbl edrop hge hn hd0 hdr
    go_enter Tryd.func34, Tryd.ntmps34
    go_wp2
    all_goals go_end0
    all_goals exact ⟨rfl, (HS.out _).1.rdm, (HS.out _).2⟩
end Go.Proofs.YtnbfedmecmdjlaaDoor
namespace Go.Proofs.YtnbfedmecmdjlaaDoor
open Go Go.RowKit
theorem FB.above {B : Nat} {Z : Nat → Prop} {w w' : World} (hk : Kp0 w w') : Kp (FB B Z) w w' := hk.nil _
theorem TabM.fb {B : Nat} {Z : Nat → Prop} {w w' : World} (h : TabM B w) (hk : Kp (FB B Z) w w') : TabM B w' := h.keep hk (fun _ h => h.1)
theorem u32_of {l : List UInt8} (h : l.length = 4) : (u32S (some l)).1 = beNat l := by
  have : takeS (some l) 4 = (l, some []) := by
    show (if (0 : Int) ≤ 4 ∧ (4 : Int) ≤ (l.length : Int) then (l.take (4 : Int).toNat, some (l.drop (4 : Int).toNat)) else ([], none)) = _
    rw [if_pos (by omega)]
    have e4 : (4 : Int).toNat = 4 := rfl
    rw [e4, List.take_of_length_le (by omega), List.drop_eq_nil_of_le (by omega)]
  unfold u32S
  rw [this]
theorem unitD_gone (d : Dn) (n : Nat) : unitD (gone d n) = unitD d ∧ tailD (gone d n) = tailD d := by
  have : (gone d n).key.isNone = d.key.isNone := by
    unfold gone
    split
    · rfl
    · rename_i h
      simp [h]
  unfold unitD tailD
  rw [this]
  exact ⟨rfl, rfl⟩
theorem DirM.drewD {B b : Nat} {T : TypeId} {rest : List Value} {d : Dn} {sg : Option Nat} {w : World} (h : DirM B w b T rest d sg) : DirM B w.drew b T rest d sg := h.kp0 (Kp.refl _ _).drew
theorem RdM.drewR {B : Nat} {Z : Nat → Prop} {w : World} {b : Nat} {r : Rn} {sg : Option Nat} (h : RdM B Z w b r sg) : RdM B Z w.drew b r sg := by
  obtain ⟨vw, h⟩ := h
  exact ⟨vw, h.kp0 (Kp.refl _ _).drew⟩
attribute [local irreducible] beNat
set_option maxRecDepth 20000 in
set_option maxHeartbeats 8000000 in
theorem await_any (B : Nat) (Z : Nat → Prop) (b : Nat) (r : Rn) (sg : Option Nat) (w : World) (h : RdM B Z w b r sg) (ht : TabM B w) (h1 : r.op ≤ unitD r.d) (h4 : r.W.length ≤ 140737488351232) :
    Calls Tryd.prog 32 #[.pointer (some ⟨b, 0, none⟩)] w fun e w' => e = .returned (.tuple #[.int .i64 ((awaitR r).2.1 : Int), .int .i64 ((awaitR r).2.2 : Int)]) ∧ RdM B Z w' b (awaitR r).1 sg ∧ Kp (FB B Z) w w' := by
  obtain ⟨vw, h⟩ := h
  have H := Lib.hid h
  have HT := Lib.hid ht
  have hcW := h.cW
  have hu := unitD_or r.d
  obtain ⟨u, huu⟩ : ∃ u, u = unitD r.d := ⟨_, rfl⟩
  have HUE := Lib.hid huu
  obtain ⟨L, hL⟩ : ∃ L, L = r.W.length := ⟨_, rfl⟩
  have HLL := Lib.hid hL
  rw [← huu] at hu h1
  rw [← hL] at h4
  have HU := Lib.hid hu
  have H1 := Lib.hid h1
  have H4 := Lib.hid h4
  have i1 : 8 ≤ (u : Int) := by omega
  have i2 : (u : Int) ≤ 16 := by omega
  have i4 : (L : Int) ≤ 140737488351232 := by omega
  by_cases hlt : L < u
  · have hA : awaitR r = (r, 0, 4) := by unfold awaitR; rw [if_pos (by omega)]
    rw [hA]
    obtain ⟨ao, cap, e, -, -, -⟩ := h.ow.shapeB
    rw [← hL] at e
    subst e
    clear hA h ht hu huu hL h1 h4
    go_enter Tryd.func32, Tryd.ntmps32
    go_wp2_with (go_at_call 37; refine (unit_any B b _ _ r.d sg _ H.out.dir).mono ?_; rintro e w2 ⟨rfl, rfl⟩; rw [← HUE.out])
    go_ret2
    exact ⟨rfl, H.out.rdm, Kp.refl _ _⟩
  · obtain ⟨g, o, cap, e, -, -, -⟩ := h.ow.posB (by omega)
    rw [← hL] at e
    subst e
    obtain ⟨r1, hr1⟩ : ∃ r1, r1 = openR r u := ⟨_, rfl⟩
    have hl1 : r1.W.length = L := by rw [hr1, openR_len r u (by omega) (by omega), hL]
    have HL1 := Lib.hid hl1
    have HR1 := Lib.hid hr1
    obtain ⟨N, hN⟩ : ∃ N, N = beNat (r1.W.take 4) := ⟨_, rfl⟩
    have HN := Lib.hid hN
    have hNlt : N < 4294967296 := by rw [hN]; exact beNat_lt _
    have HD1 : Hid (tailD r1.d = tailD r.d) := Lib.hid (by rw [hr1]; exact (unitD_gone r.d _).2)
    obtain ⟨t, htt⟩ : ∃ t, t = tailD r.d := ⟨_, rfl⟩
    have HTT := Lib.hid htt
    have ht32 : t ≤ 32 := by rw [htt]; unfold tailD; split <;> omega
    have hA : awaitR r = if N < 5 ∨ 2348 < N then (r1, 0, 2) else if (4 + N) % u ≠ 0 then (r1, 0, 2) else if L < 4 + N + t then (r1, 0, 4) else (r1, 4 + N, 0) := by
      unfold awaitR
      rw [← huu, ← hr1, ← hL, if_neg hlt, ← hN, ← htt]
    have j1 : (N : Int) < 4294967296 := by omega
    have j2 : (t : Int) ≤ 32 := by omega
    have HA := Lib.hid hA
    have hge : (u : Int) ≤ (L : Int) := by omega
    have HNL := Lib.hid hNlt
    clear hA h ht hu huu hL h1 h4 hl1 hr1 hN htt ht32 hNlt
    go_enter Tryd.func32, Tryd.ntmps32
    go_upto_region 5 with (first
      | (go_at_call 37; refine (unit_any B b _ _ r.d sg _ H.out.dir).mono ?_; rintro e w2 ⟨rfl, rfl⟩; rw [← HUE.out])
      | (go_at_call 49
         refine (open_any B Z b r sg u _ H.out.rdm HT.out H1.out (by have := HLL.out; omega) (by have := HLL.out; have := HU.out; omega) (by have := HLL.out; have := H4.out; omega)).mono ?_
         rintro e w2 ⟨rfl, k1, k2⟩
         rw [← HR1.out] at k1
         have HM2 := Lib.hid k1
         have HK2 := Lib.hid k2
         clear k1 k2))
    obtain ⟨vw1, h2⟩ := HM2.out
    have H2 := Lib.hid h2
    have HT2 := Lib.hid (HT.out.fb HK2.out)
    have hcW2 := h2.cW
    obtain ⟨g1, o1, c1, e1, k1, k2, -⟩ := h2.ow.posB (by have := HL1.out; have := HU.out; omega)
    subst e1
    rw [HL1.out] at hcW2
    have hc4 : (4 : Int) ≤ (c1 : Int) := by have := HL1.out; have := HU.out; omega
    have HR4 : Hid (Rd w2 (.slice (some ⟨g1, o1, none⟩) 4 c1) (bys (r1.W.take 4))) := Lib.hid (by
      have h5 := h2.ow.rd.cut 0 4 c1 (Nat.zero_le _) (by have := HL1.out; have := HU.out; omega) (by omega) (Nat.le_refl _)
      rw [List.drop_zero, Nat.sub_zero, bys_take] at h5
      simpa [sliced, Addr.add_lit] using h5)
    have HT4 : Hid ((r1.W.take 4).length = 4) := Lib.hid (by rw [List.length_take]; have := HL1.out; have := HU.out; omega)
    clear h2 k1 k2 hcW
    go_upto_region 6 with (first
      | (go_at_call 50
         refine (from_any _ (r1.W.take 4) _ HR4.out).mono ?_
         rintro e w3 ⟨b3, rfl, q1, q2, q3⟩
         have HS3 := Lib.hid q2
         have HK3 := Lib.hid q3
         have HB3 := Lib.hid q1
         clear q1 q2 q3)
      | (go_at_call 51
         refine (u32_rs b3 (some (r1.W.take 4)) _ HS3.out).mono ?_
         rintro e w4 ⟨rfl, q1, q2⟩
         rw [u32_of HT4.out, ← HN.out]
         have HK4 : Hid (Kp0 w2 w4) := Lib.hid (HK3.out.trans q2 (fun _ _ h => h) (fun i hi e => by have := HB3.out; omega))
         clear q1 q2))
    have HV4 := Lib.hid (H2.out.kp0 HK4.out)
    have HK24 : Hid (Kp (FB B Z) w w4) := Lib.hid (HK2.out.tr (HK4.out.nil _))
    have hcW4 := HK4.out.cell hcW2 (fun h => h)
    have HCW4 := Lib.hid hcW4
    clear hcW2 hcW4 HK3 HS3 HB3
    by_cases c1 : N < 5
    · have e1 : (N : Int) < 5 := by omega
      have HC := Lib.hid c1
      clear c1 hc4 hge
      go_wp2
      go_ret2
      rw [HA.out, if_pos (.inl HC.out)]
      exact ⟨rfl, HV4.out.rdm, HK24.out⟩
    by_cases c2 : 2348 < N
    · have e1 : ¬ (N : Int) < 5 := by omega
      have e2 : 2348 < (N : Int) := by omega
      have HC := Lib.hid c2
      clear c1 c2 hc4 hge
      go_wp2
      go_ret2
      rw [HA.out, if_pos (.inr HC.out)]
      exact ⟨rfl, HV4.out.rdm, HK24.out⟩
    have e1 : 5 ≤ (N : Int) := by omega
    have e2 : (N : Int) ≤ 2348 := by omega
    clear j1 i4
    have HC12 : Hid (¬ (N < 5 ∨ 2348 < N)) := Lib.hid (by omega)
    obtain ⟨q, hq⟩ : ∃ q, q = (4 + N) % u := ⟨_, rfl⟩
    have hqi : (4 + (N : Int)) % (u : Int) = (q : Int) := by rw [hq]; rcases HU.out with e | e <;> (rw [e]; omega)
    by_cases c3 : q ≠ 0
    · have e3 : ((q : Int) != 0) = true := by rw [bne_iff_ne]; omega
      have HQ : Hid ((4 + N) % u ≠ 0) := Lib.hid (by rw [← hq]; exact c3)
      clear c1 c2 c3 hq hc4 hge
      go_wp2
      go_ret2
      rw [HA.out, if_neg HC12.out, if_pos HQ.out]
      exact ⟨rfl, HV4.out.rdm, HK24.out⟩
    have e3 : (q : Int) = 0 := by omega
    have HQ : Hid (¬ (4 + N) % u ≠ 0) := Lib.hid (by rw [← hq]; exact c3)
    clear c1 c2 c3 hq hc4 hge
    go_upto_region 11 with (fail)
    have hcw := fun (wq : World) (hq : wq.cell? ⟨b, 35, none⟩ = some (.slice (some ⟨g1, o1, none⟩) L c1)) => hq
    have hsum : IntKind.i64.wrap (4 + (N : Int) + (t : Int)) = ((4 + N + t : Nat) : Int) := by rw [IntWalk.i64_in _ ⟨by omega, by omega⟩]; omega
    obtain ⟨M, hM⟩ : ∃ M, M = 4 + N + t := ⟨_, rfl⟩
    rw [← hM] at hsum
    have HM := Lib.hid hM
    clear hM
    refine wp_region_px 12 [] (fun w' : World => w'.cell? ⟨b, 35, none⟩ = some (.slice (some ⟨g1, o1, none⟩) L c1)) (.quiet 0 (.quiet 1 (.quiet 2 (.quiet 3 (.quiet 4 (.quiet 5 (.quiet 6 (.quiet 7 (.quiet 8 (.eff 9 (.quiet 10 (.quiet 11 .done)))))))))))) (by kernel_rfl) (by kernel_rfl) (by kernel_rfl) (by kernel_rfl) (fun _ d _ _ _ h => by cases d <;> exact h) HCW4.out ?_
    iterate 9 (refine px_quiet (v := ?_) rfl (by rfl) (fun wq hwq => ?_) rfl ?_; rotate_left 1; (focus (have hx1 := hcw wq hwq; go_simp; try (with_reducible rfl); done)); try simp only [List.setIfInBounds_toArray, List.set_cons_zero, List.set_cons_succ])
    refine px_eff rfl (by rfl) (fun K hK => ?_)
    go_simp
    refine (tail_any B b _ _ r1.d sg _ HV4.out.dir.drewD).mono ?_
    rintro e w5 ⟨rfl, rfl⟩
    rw [HD1.out, ← HTT.out]
    simp only []
    refine hK (fun w' => w'.cell? ⟨b, 35, none⟩ = some (.slice (some ⟨g1, o1, none⟩) L c1)) _ _ (fun x hx => hx) HCW4.out ?_
    clear hK K
    try simp only [List.setIfInBounds_toArray, List.set_cons_zero, List.set_cons_succ]
    iterate 2 (refine px_quiet (v := ?_) rfl (by rfl) (fun wq hwq => ?_) rfl ?_; rotate_left 1; (focus (go_simp; try (with_reducible rfl); done)); try simp only [List.setIfInBounds_toArray, List.set_cons_zero, List.set_cons_succ])
    refine px_done ?_
    by_cases c4 : L < M
    · have HC := Lib.hid c4
      clear hcw hsum
      go_wp2
      go_ret2
      rw [HA.out, if_neg HC12.out, if_neg HQ.out, if_pos (by rw [← HM.out]; exact HC.out)]
      exact ⟨rfl, HV4.out.rdm.drewR, HK24.out.drew⟩
    · have HC := Lib.hid c4
      clear hcw hsum
      go_wp2
      go_ret2
      rw [HA.out, if_neg HC12.out, if_neg HQ.out, if_neg (by rw [← HM.out]; exact HC.out)]
      exact ⟨by simp, HV4.out.rdm.drewR, HK24.out.drew⟩
end Go.Proofs.YtnbfedmecmdjlaaDoor
