/- Package frame: the first framing; the next message. -/
import Derived.Test.YtmmbhmfbhleglaaDoorFrF
import Derived.Lib.SlBytesConst
namespace Go.Proofs.YtmmbhmfbhleglaaDoor
open Go Go.RowKit
def numB (l : List UInt8) : List Int := l.map fun c => (c.toNat : Int)
theorem numB_of (l : List UInt8) : Lib.bytesOf (numB l) = l := by
  unfold Lib.bytesOf numB
  rw [List.map_map]
  conv => rhs; rw [← List.map_id l]
  refine List.map_congr_left fun c _ => ?_
  simp
theorem numB_in {w : World} {p : Option Addr} {n c : Nat} {l : List UInt8} (h : Rd w (.slice p n c) (bys l)) : Lib.BytesIn w p n (numB l) := by
  intro hn
  have hl : n = l.length := by
    obtain ⟨_, _, e, _⟩ := h.shapeB
    simp only [Value.slice.injEq] at e
    exact e.2.1
  obtain ⟨b, o, cap, e, _, _, hc⟩ := h.posB (by omega)
  simp only [Value.slice.injEq] at e
  obtain ⟨rfl, -, -⟩ := e
  refine ⟨b, o, rfl, fun i hi => ?_⟩
  rw [hc i (by omega)]
  simp [numB, List.getD, show i < l.length by omega]
theorem numB_rng (l : List UInt8) : ∀ x ∈ numB l, 0 ≤ x ∧ x < 256 := by
  intro x hx
  obtain ⟨c, _, rfl⟩ := List.mem_map.1 hx
  have := c.toNat_lt
  omega
theorem cut_any (p1 p2 : Option Addr) (n c1 k c2 : Nat) (l l2 : List UInt8) (w : World) (h1 : Rd w (.slice p1 n c1) (bys l)) (h2 : Rd w (.slice p2 k c2) (bys l2)) (hg : Gw w) (hn : n < 4294967281) :
    Calls Tryd.prog 20 #[.slice p1 n c1, .slice p2 k c2] w fun e w' => e = .returned (Lib.cutV p1 n c1 k (Lib.index l l2)) ∧ Kp0 w w' := by
  obtain ⟨m, hm⟩ := hg.ml
  obtain ⟨a1, d1, e1, q1, q2, q3⟩ := h1.shapeB
  simp only [Value.slice.injEq] at e1
  obtain ⟨rfl, hl1, rfl⟩ := e1
  obtain ⟨a2, d2, e2, q4, q5, q6⟩ := h2.shapeB
  simp only [Value.slice.injEq] at e2
  obtain ⟨rfl, hl2, rfl⟩ := e2
  refine (Tryd.bytes_Cut_all p1 p2 n c1 k c2 (numB l) (numB l2) m w (by simp [numB, hl1]) (by simp [numB, hl2]) (numB_rng l) (numB_rng l2) (numB_in h1) (numB_in h2) q3 (by omega) hn (by omega) hm).mono ?_
  rintro e w' ⟨rfl, q, rfl⟩
  rw [numB_of, numB_of]
  exact ⟨rfl, (Kp.refl _ _).drewN q⟩
theorem index_case (l l2 : List UInt8) : Lib.index l l2 = -1 ∨ ∃ i : Nat, Lib.index l l2 = i ∧ i + l2.length ≤ l.length := by
  rcases Int.lt_or_le (Lib.index l l2) 0 with h | h
  · left
    have := Lib.index_ge l l2
    omega
  · right
    have h2 := Lib.index_room l l2 h
    exact ⟨(Lib.index l l2).toNat, by omega, by omega⟩
theorem cutV_none (p : Option Addr) (n c k : Nat) : Lib.cutV p n c k (-1) = .tuple #[.slice p n c, .slice none 0 0, .bool false] := by
  unfold Lib.cutV
  rw [if_neg (by decide)]
theorem cutV_some (p : Option Addr) (n c k i : Nat) : ∃ v, Lib.cutV p n c k (i : Int) = .tuple #[.slice p i c, v, .bool true] := by
  unfold Lib.cutV
  rw [if_pos (by omega)]
  exact ⟨_, rfl⟩
/-- []byte of a constant. -/
theorem wl_const {P : Program} {w w1 : World} {ops : Array Oper} {rest : List Oper} {o : Oper} {a : Act} {Q : Exit → Act → World → Prop} (hgd : o.guard = none) (x : Operand) (t e : TypeId) (ho : o.op = .convert t t x)
    (ht : P.underlying t = some (.slice e)) (he : P.underlying e = some (.int .u8)) {C : Array Value} {n c : Nat} (hw : w = w1.alloc (.cells C e)) (hx : a.eval x = .slice (some ⟨w1.heap.size, 0, none⟩) n c)
    (h : wpList P ops Q rest (a.put o.dst (.slice (some ⟨w1.heap.size, 0, none⟩) n c)) (w1.alloc (.cells C e (C.size, C.size + 1)))) : wpList P ops Q (o :: rest) a w := by
  subst hw
  refine wpList_plain hgd fun K hK => ?_
  unfold Oper.wp execOp
  simp only [ho, hx, Sem.run_bind, Lib.run_convert_bytes_const w1 t e C n c ht he, Result.andThen_ok, Sem.run_pure]
  exact hK _ _ h
theorem own_len (ao : Option Addr) (i c n d : Nat) : (Value.slice ao i c).ownBlock = (Value.slice ao n d).ownBlock := by cases ao <;> rfl
set_option maxRecDepth 20000 in
set_option maxHeartbeats 4000000 in
theorem until_any (B : Nat) (Z : Nat → Prop) (b : Nat) (W M : List UInt8) (ch ov : Bool) (w : World) (h : Dc B Z w b ⟨W, M, ch, ov⟩) (hg : Gw w) (hW : W.length ≤ 1000000) :
    Calls Tryd.prog 17 #[.pointer (some ⟨b, 0, none⟩)] w (GatherPost B Z b ch ov (cutS W M) w) := by
  obtain ⟨vw, vp, h⟩ := h
  have H := Lib.hid h
  have HG := Lib.hid hg
  obtain ⟨ao, cap, rfl, hc1, hc2, -⟩ := h.ow.shapeB
  simp only [] at hc1 H
  obtain ⟨L, hL⟩ : ∃ L, L = W.length := ⟨_, rfl⟩
  have HLL := Lib.hid hL
  rw [← hL] at hc1 H hW
  have hcA : ∀ w', Kp0 w.drew w' → w'.cell? ⟨b, 0, none⟩ = some (.slice ao L cap) := fun w' hk => ((H.out.drew).kp0 hk).c0
  by_cases hbig : 16390 < L
  · have hLi : (16390 : Int) < L := by omega
    have hkci : (16390 : Int) ≤ cap := by omega
    have hmin : min (L : Int) 16390 = 16390 := by omega
    have HN : Hid (∀ w', Kp0 w w' → Rd w' (.slice ao 16390 cap) (bys (W.take 16390))) := Lib.hid (fun w' hk => beforeB ((H.out.kp0 hk).ow.rd) 16390 (by simp only []; omega))
    rcases index_case (W.take 16390) endM with hi | ⟨i, hi, hil⟩
    · have HI := Lib.hid hi
      have HR : Hid (cutS W M = ([], 2, W, M)) := Lib.hid (by unfold cutS; rw [hi, if_neg (by decide), if_pos (by omega)])
      rw [HR.out]
      clear h hg hL hi hbig hc1 hW
      go_enter Tryd.func17, Tryd.ntmps17
      go_upto_region 1 with (fail)
      refine wp_region_px 11 [] (fun w' : World => Kp0 w.drew w') (.quiet 0 (.quiet 1 (.quiet 2 (.quiet 3 (.quiet 4 (.quiet 5 (.quiet 6 (.quiet 7 (.quiet 8 (.quiet 9 (.quiet 10 (.quiet 11 .done)))))))))))) (by kernel_rfl) (by kernel_rfl) (by kernel_rfl) (by kernel_rfl) (fun _ d _ _ _ h => by cases d <;> exact h) (Kp.refl _ _) ?_
      iterate 12 (refine px_quiet (v := ?_) rfl (by rfl) (fun wq hwq => ?_) rfl ?_; rotate_left 1; (focus (go_simp; try (with_reducible rfl); done)); try simp only [List.setIfInBounds_toArray, List.set_cons_zero, List.set_cons_succ])
      refine px_done ?_
      have HK0 : Hid (Kp0 w (w.drew.alloc (.cells (bys endM).toArray 5 (6, 7)))) := Lib.hid ((Kp.refl _ _).drew.alloc _)
      have HM : Hid (Rd (w.drew.alloc (.cells (bys endM).toArray 5 (6, 7))) (.slice (some ⟨w.heap.size, 0, none⟩) 6 6) (bys endM)) := Lib.hid (Rd.lit w.drew (bys endM).toArray 5 (6, 7) 6 rfl (by decide))
      clear hcA
      go_wp2_with (refine wl_const (o := ⟨some 22, _, _, _, _, _⟩) rfl _ 24 5 rfl Tryd.underlying24 Tryd.underlying5 (w1 := w.drew) (C := (bys endM).toArray) rfl rfl ?_)
      refine (cut_any _ _ _ _ _ _ (W.take 16390) endM _ (HN.out _ HK0.out) HM.out (HG.out.kp0 HK0.out) (by omega)).mono ?_
      rw [HI.out, cutV_none]
      rintro e w2 ⟨rfl, hk⟩
      have HK2 := Lib.hid (HK0.out.tr hk)
      clear hk HM
      go_wp2
      all_goals go_ret2
      all_goals exact ⟨{ data := #[] }, rfl, lit_toList _, (H.out.kp0 HK2.out).dc, HK2.out.nil _⟩
    · have HI := Lib.hid hi
      have hil2 : i + 6 ≤ L := by rw [hL]; simp only [List.length_take, endM, List.length_cons, List.length_nil] at hil; omega
      have HR : Hid (cutS W M = (W.take i, 0, W.drop (i + 6), M)) := Lib.hid (by unfold cutS; rw [hi, if_pos (by omega)]; simp only [Int.toNat_natCast])
      have HIL : Hid (i + 6 ≤ (St.mk W M ch ov).W.length) := Lib.hid (by simp only []; omega)
      have hii : (i : Int) ≤ 20000 := by simp only [List.length_take, endM, List.length_cons, List.length_nil] at hil; omega
      have HT : Hid (∀ w', Kp0 w w' → Rd w' (.slice ao i cap) (bys (W.take i))) := Lib.hid (fun w' hk => beforeB ((H.out.kp0 hk).ow.rd) i (by simp only []; omega))
      obtain ⟨fv, hfv⟩ := cutV_some ao 16390 cap 6 i
      have HCV := Lib.hid hfv
      rw [HR.out]
      clear h hg hL hi hil hil2 hbig hc1 hW hfv
      go_enter Tryd.func17, Tryd.ntmps17
      go_upto_region 1 with (fail)
      refine wp_region_px 11 [] (fun w' : World => Kp0 w.drew w') (.quiet 0 (.quiet 1 (.quiet 2 (.quiet 3 (.quiet 4 (.quiet 5 (.quiet 6 (.quiet 7 (.quiet 8 (.quiet 9 (.quiet 10 (.quiet 11 .done)))))))))))) (by kernel_rfl) (by kernel_rfl) (by kernel_rfl) (by kernel_rfl) (fun _ d _ _ _ h => by cases d <;> exact h) (Kp.refl _ _) ?_
      iterate 12 (refine px_quiet (v := ?_) rfl (by rfl) (fun wq hwq => ?_) rfl ?_; rotate_left 1; (focus (go_simp; try (with_reducible rfl); done)); try simp only [List.setIfInBounds_toArray, List.set_cons_zero, List.set_cons_succ])
      refine px_done ?_
      have HK0 : Hid (Kp0 w (w.drew.alloc (.cells (bys endM).toArray 5 (6, 7)))) := Lib.hid ((Kp.refl _ _).drew.alloc _)
      have HM : Hid (Rd (w.drew.alloc (.cells (bys endM).toArray 5 (6, 7))) (.slice (some ⟨w.heap.size, 0, none⟩) 6 6) (bys endM)) := Lib.hid (Rd.lit w.drew (bys endM).toArray 5 (6, 7) 6 rfl (by decide))
      clear hcA
      go_wp2_with (refine wl_const (o := ⟨some 22, _, _, _, _, _⟩) rfl _ 24 5 rfl Tryd.underlying24 Tryd.underlying5 (w1 := w.drew) (C := (bys endM).toArray) rfl rfl ?_)
      refine (cut_any _ _ _ _ _ _ (W.take 16390) endM _ (HN.out _ HK0.out) HM.out (HG.out.kp0 HK0.out) (by omega)).mono ?_
      rw [HI.out, HCV.out]
      rintro e w2 ⟨rfl, hk⟩
      have HK2 := Lib.hid (HK0.out.tr hk)
      clear hk HM
      go_wp2_with (first
        | (go_at_call 21; refine (drop_anyK B Z b ⟨W, M, ch, ov⟩ (i + 6) _ _ (by omega) (H.out.kp0 HK2.out).dc HIL.out).mono ?_; rintro e w4 ⟨rfl, hd, hk⟩; have HD4 := Lib.hid hd; have HK4 : Hid (Kp (FB B Z) w w4) := Lib.hid ((HK2.out.nil _).tr (hk.mono (fun j _ hj => by subst hj; exact ⟨H.out.ge, H.out.nz⟩))); have HS4 := Lib.hid ((HT.out w2 HK2.out).keep hk (fun g hg _ e => (H.out.aw g ((own_len ao i cap L cap).symm.trans hg)).1 e)); clear hd hk)
        | (refine wl_str_of (o := ⟨some 35, _, _, _, _, _⟩) rfl _ 24 9 5 rfl Tryd.underlying24 Tryd.underlying5 Tryd.underlying9 rfl HS4.out ?_; intro s hs; have HSS := Lib.hid hs; clear hs))
      all_goals go_ret2
      all_goals exact ⟨s, rfl, HSS.out, HD4.out, HK4.out⟩
  · have hmin : min (L : Int) 16390 = L := by omega
    have hkci : (L : Int) ≤ cap := by omega
    have hLn : (L : Int) ≤ 16390 := by omega
    have HN : Hid (∀ w', Kp0 w w' → Rd w' (.slice ao L cap) (bys (W.take 16390))) := Lib.hid (fun w' hk => by
      have := (H.out.kp0 hk).ow.rd
      simp only [] at this
      rwa [List.take_of_length_le (by omega)])
    by_cases heq : L = 16390
    · have hLi : ((L : Int) == 16390) = true := by rw [heq]; rfl
      rcases index_case (W.take 16390) endM with hi | ⟨i, hi, hil⟩
      · have HI := Lib.hid hi
        have HR : Hid (cutS W M = ([], 2, W, M)) := Lib.hid (by unfold cutS; rw [hi, if_neg (by decide), if_pos (by omega)])
        rw [HR.out]
        clear h hg hL hi hbig hc1 hW heq
        go_enter Tryd.func17, Tryd.ntmps17
        go_upto_region 1 with (fail)
        refine wp_region_px 11 [] (fun w' : World => Kp0 w.drew w') (.quiet 0 (.quiet 1 (.quiet 2 (.quiet 3 (.quiet 4 (.quiet 5 (.quiet 6 (.quiet 7 (.quiet 8 (.quiet 9 (.quiet 10 (.quiet 11 .done)))))))))))) (by kernel_rfl) (by kernel_rfl) (by kernel_rfl) (by kernel_rfl) (fun _ d _ _ _ h => by cases d <;> exact h) (Kp.refl _ _) ?_
        iterate 12 (refine px_quiet (v := ?_) rfl (by rfl) (fun wq hwq => ?_) rfl ?_; rotate_left 1; (focus (go_simp; try (with_reducible rfl); done)); try simp only [List.setIfInBounds_toArray, List.set_cons_zero, List.set_cons_succ])
        refine px_done ?_
        have HK0 : Hid (Kp0 w (w.drew.alloc (.cells (bys endM).toArray 5 (6, 7)))) := Lib.hid ((Kp.refl _ _).drew.alloc _)
        have HM : Hid (Rd (w.drew.alloc (.cells (bys endM).toArray 5 (6, 7))) (.slice (some ⟨w.heap.size, 0, none⟩) 6 6) (bys endM)) := Lib.hid (Rd.lit w.drew (bys endM).toArray 5 (6, 7) 6 rfl (by decide))
        clear hcA
        go_wp2_with (refine wl_const (o := ⟨some 22, _, _, _, _, _⟩) rfl _ 24 5 rfl Tryd.underlying24 Tryd.underlying5 (w1 := w.drew) (C := (bys endM).toArray) rfl rfl ?_)
        refine (cut_any _ _ _ _ _ _ (W.take 16390) endM _ (HN.out _ HK0.out) HM.out (HG.out.kp0 HK0.out) (by omega)).mono ?_
        rw [HI.out, cutV_none]
        rintro e w2 ⟨rfl, hk⟩
        have HK2 := Lib.hid (HK0.out.tr hk)
        clear hk HM
        go_wp2
        all_goals go_ret2
        all_goals exact ⟨{ data := #[] }, rfl, lit_toList _, (H.out.kp0 HK2.out).dc, HK2.out.nil _⟩
      · have HI := Lib.hid hi
        have hil2 : i + 6 ≤ L := by rw [hL]; simp only [List.length_take, endM, List.length_cons, List.length_nil] at hil; omega
        have HR : Hid (cutS W M = (W.take i, 0, W.drop (i + 6), M)) := Lib.hid (by unfold cutS; rw [hi, if_pos (by omega)]; simp only [Int.toNat_natCast])
        have HIL : Hid (i + 6 ≤ (St.mk W M ch ov).W.length) := Lib.hid (by simp only []; omega)
        have hii : (i : Int) ≤ 20000 := by simp only [List.length_take, endM, List.length_cons, List.length_nil] at hil; omega
        have HT : Hid (∀ w', Kp0 w w' → Rd w' (.slice ao i cap) (bys (W.take i))) := Lib.hid (fun w' hk => beforeB ((H.out.kp0 hk).ow.rd) i (by simp only []; omega))
        obtain ⟨fv, hfv⟩ := cutV_some ao L cap 6 i
        have HCV := Lib.hid hfv
        rw [HR.out]
        clear h hg hL hi hil hil2 hbig hc1 hW heq hfv
        go_enter Tryd.func17, Tryd.ntmps17
        go_upto_region 1 with (fail)
        refine wp_region_px 11 [] (fun w' : World => Kp0 w.drew w') (.quiet 0 (.quiet 1 (.quiet 2 (.quiet 3 (.quiet 4 (.quiet 5 (.quiet 6 (.quiet 7 (.quiet 8 (.quiet 9 (.quiet 10 (.quiet 11 .done)))))))))))) (by kernel_rfl) (by kernel_rfl) (by kernel_rfl) (by kernel_rfl) (fun _ d _ _ _ h => by cases d <;> exact h) (Kp.refl _ _) ?_
        iterate 12 (refine px_quiet (v := ?_) rfl (by rfl) (fun wq hwq => ?_) rfl ?_; rotate_left 1; (focus (go_simp; try (with_reducible rfl); done)); try simp only [List.setIfInBounds_toArray, List.set_cons_zero, List.set_cons_succ])
        refine px_done ?_
        have HK0 : Hid (Kp0 w (w.drew.alloc (.cells (bys endM).toArray 5 (6, 7)))) := Lib.hid ((Kp.refl _ _).drew.alloc _)
        have HM : Hid (Rd (w.drew.alloc (.cells (bys endM).toArray 5 (6, 7))) (.slice (some ⟨w.heap.size, 0, none⟩) 6 6) (bys endM)) := Lib.hid (Rd.lit w.drew (bys endM).toArray 5 (6, 7) 6 rfl (by decide))
        clear hcA
        go_wp2_with (refine wl_const (o := ⟨some 22, _, _, _, _, _⟩) rfl _ 24 5 rfl Tryd.underlying24 Tryd.underlying5 (w1 := w.drew) (C := (bys endM).toArray) rfl rfl ?_)
        refine (cut_any _ _ _ _ _ _ (W.take 16390) endM _ (HN.out _ HK0.out) HM.out (HG.out.kp0 HK0.out) (by omega)).mono ?_
        rw [HI.out, HCV.out]
        rintro e w2 ⟨rfl, hk⟩
        have HK2 := Lib.hid (HK0.out.tr hk)
        clear hk HM
        go_wp2_with (first
          | (go_at_call 21; refine (drop_anyK B Z b ⟨W, M, ch, ov⟩ (i + 6) _ _ (by omega) (H.out.kp0 HK2.out).dc HIL.out).mono ?_; rintro e w4 ⟨rfl, hd, hk⟩; have HD4 := Lib.hid hd; have HK4 : Hid (Kp (FB B Z) w w4) := Lib.hid ((HK2.out.nil _).tr (hk.mono (fun j _ hj => by subst hj; exact ⟨H.out.ge, H.out.nz⟩))); have HS4 := Lib.hid ((HT.out w2 HK2.out).keep hk (fun g hg _ e => (H.out.aw g ((own_len ao i cap L cap).symm.trans hg)).1 e)); clear hd hk)
          | (refine wl_str_of (o := ⟨some 35, _, _, _, _, _⟩) rfl _ 24 9 5 rfl Tryd.underlying24 Tryd.underlying5 Tryd.underlying9 rfl HS4.out ?_; intro s hs; have HSS := Lib.hid hs; clear hs))
        all_goals go_ret2
        all_goals exact ⟨s, rfl, HSS.out, HD4.out, HK4.out⟩
    · have hLi : ((L : Int) == 16390) = false := by rw [beq_eq_false_iff_ne]; omega
      rcases index_case (W.take 16390) endM with hi | ⟨i, hi, hil⟩
      · have HI := Lib.hid hi
        have HR : Hid (cutS W M = ([], 4, W, M)) := Lib.hid (by unfold cutS; rw [hi, if_neg (by decide), if_neg (by omega)])
        rw [HR.out]
        clear h hg hL hi hbig hc1 hW heq
        go_enter Tryd.func17, Tryd.ntmps17
        go_upto_region 1 with (fail)
        refine wp_region_px 11 [] (fun w' : World => Kp0 w.drew w') (.quiet 0 (.quiet 1 (.quiet 2 (.quiet 3 (.quiet 4 (.quiet 5 (.quiet 6 (.quiet 7 (.quiet 8 (.quiet 9 (.quiet 10 (.quiet 11 .done)))))))))))) (by kernel_rfl) (by kernel_rfl) (by kernel_rfl) (by kernel_rfl) (fun _ d _ _ _ h => by cases d <;> exact h) (Kp.refl _ _) ?_
        iterate 12 (refine px_quiet (v := ?_) rfl (by rfl) (fun wq hwq => ?_) rfl ?_; rotate_left 1; (focus (go_simp; try (with_reducible rfl); done)); try simp only [List.setIfInBounds_toArray, List.set_cons_zero, List.set_cons_succ])
        refine px_done ?_
        have HK0 : Hid (Kp0 w (w.drew.alloc (.cells (bys endM).toArray 5 (6, 7)))) := Lib.hid ((Kp.refl _ _).drew.alloc _)
        have HM : Hid (Rd (w.drew.alloc (.cells (bys endM).toArray 5 (6, 7))) (.slice (some ⟨w.heap.size, 0, none⟩) 6 6) (bys endM)) := Lib.hid (Rd.lit w.drew (bys endM).toArray 5 (6, 7) 6 rfl (by decide))
        clear hcA
        go_wp2_with (refine wl_const (o := ⟨some 22, _, _, _, _, _⟩) rfl _ 24 5 rfl Tryd.underlying24 Tryd.underlying5 (w1 := w.drew) (C := (bys endM).toArray) rfl rfl ?_)
        refine (cut_any _ _ _ _ _ _ (W.take 16390) endM _ (HN.out _ HK0.out) HM.out (HG.out.kp0 HK0.out) (by omega)).mono ?_
        rw [HI.out, cutV_none]
        rintro e w2 ⟨rfl, hk⟩
        have HK2 := Lib.hid (HK0.out.tr hk)
        clear hk HM
        go_wp2
        all_goals go_ret2
        all_goals exact ⟨{ data := #[] }, rfl, lit_toList _, (H.out.kp0 HK2.out).dc, HK2.out.nil _⟩
      · have HI := Lib.hid hi
        have hil2 : i + 6 ≤ L := by rw [hL]; simp only [List.length_take, endM, List.length_cons, List.length_nil] at hil; omega
        have HR : Hid (cutS W M = (W.take i, 0, W.drop (i + 6), M)) := Lib.hid (by unfold cutS; rw [hi, if_pos (by omega)]; simp only [Int.toNat_natCast])
        have HIL : Hid (i + 6 ≤ (St.mk W M ch ov).W.length) := Lib.hid (by simp only []; omega)
        have hii : (i : Int) ≤ 20000 := by simp only [List.length_take, endM, List.length_cons, List.length_nil] at hil; omega
        have HT : Hid (∀ w', Kp0 w w' → Rd w' (.slice ao i cap) (bys (W.take i))) := Lib.hid (fun w' hk => beforeB ((H.out.kp0 hk).ow.rd) i (by simp only []; omega))
        obtain ⟨fv, hfv⟩ := cutV_some ao L cap 6 i
        have HCV := Lib.hid hfv
        rw [HR.out]
        clear h hg hL hi hil hil2 hbig hc1 hW heq hfv
        go_enter Tryd.func17, Tryd.ntmps17
        go_upto_region 1 with (fail)
        refine wp_region_px 11 [] (fun w' : World => Kp0 w.drew w') (.quiet 0 (.quiet 1 (.quiet 2 (.quiet 3 (.quiet 4 (.quiet 5 (.quiet 6 (.quiet 7 (.quiet 8 (.quiet 9 (.quiet 10 (.quiet 11 .done)))))))))))) (by kernel_rfl) (by kernel_rfl) (by kernel_rfl) (by kernel_rfl) (fun _ d _ _ _ h => by cases d <;> exact h) (Kp.refl _ _) ?_
        iterate 12 (refine px_quiet (v := ?_) rfl (by rfl) (fun wq hwq => ?_) rfl ?_; rotate_left 1; (focus (go_simp; try (with_reducible rfl); done)); try simp only [List.setIfInBounds_toArray, List.set_cons_zero, List.set_cons_succ])
        refine px_done ?_
        have HK0 : Hid (Kp0 w (w.drew.alloc (.cells (bys endM).toArray 5 (6, 7)))) := Lib.hid ((Kp.refl _ _).drew.alloc _)
        have HM : Hid (Rd (w.drew.alloc (.cells (bys endM).toArray 5 (6, 7))) (.slice (some ⟨w.heap.size, 0, none⟩) 6 6) (bys endM)) := Lib.hid (Rd.lit w.drew (bys endM).toArray 5 (6, 7) 6 rfl (by decide))
        clear hcA
        go_wp2_with (refine wl_const (o := ⟨some 22, _, _, _, _, _⟩) rfl _ 24 5 rfl Tryd.underlying24 Tryd.underlying5 (w1 := w.drew) (C := (bys endM).toArray) rfl rfl ?_)
        refine (cut_any _ _ _ _ _ _ (W.take 16390) endM _ (HN.out _ HK0.out) HM.out (HG.out.kp0 HK0.out) (by omega)).mono ?_
        rw [HI.out, HCV.out]
        rintro e w2 ⟨rfl, hk⟩
        have HK2 := Lib.hid (HK0.out.tr hk)
        clear hk HM
        go_wp2_with (first
          | (go_at_call 21; refine (drop_anyK B Z b ⟨W, M, ch, ov⟩ (i + 6) _ _ (by omega) (H.out.kp0 HK2.out).dc HIL.out).mono ?_; rintro e w4 ⟨rfl, hd, hk⟩; have HD4 := Lib.hid hd; have HK4 : Hid (Kp (FB B Z) w w4) := Lib.hid ((HK2.out.nil _).tr (hk.mono (fun j _ hj => by subst hj; exact ⟨H.out.ge, H.out.nz⟩))); have HS4 := Lib.hid ((HT.out w2 HK2.out).keep hk (fun g hg _ e => (H.out.aw g ((own_len ao i cap L cap).symm.trans hg)).1 e)); clear hd hk)
          | (refine wl_str_of (o := ⟨some 35, _, _, _, _, _⟩) rfl _ 24 9 5 rfl Tryd.underlying24 Tryd.underlying5 Tryd.underlying9 rfl HS4.out ?_; intro s hs; have HSS := Lib.hid hs; clear hs))
        all_goals go_ret2
        all_goals exact ⟨s, rfl, HSS.out, HD4.out, HK4.out⟩
end Go.Proofs.YtmmbhmfbhleglaaDoor
