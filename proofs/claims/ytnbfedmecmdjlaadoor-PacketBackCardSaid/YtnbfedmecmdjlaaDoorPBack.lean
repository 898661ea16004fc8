/- The law PacketBack: what is written is read as it was. -/
import Derived.Test.YtnbfedmecmdjlaaDoorPkL
namespace Go.Proofs.YtnbfedmecmdjlaaDoor
open Go Go.RowKit
theorem number_is {B b : Nat} {T : TypeId} {rest : List Value} {d : Dn} {sg : Option Nat} {w : World} {n : Nat} (h : DirM B w b T rest d sg) (hn : d.num = n) :
    Calls Tryd.prog 13 #[.pointer (some ⟨b, 0, none⟩)] w fun e w' => e = .returned (.int .u32 (n : Int)) ∧ w = w' := by
  subst hn
  exact number_any B b T rest d sg w h
theorem count_is {B b : Nat} {T : TypeId} {rest : List Value} {d : Dn} {sg : Option Nat} {w : World} {n : Nat} (h : DirM B w b T rest d sg) (hn : d.cnt = n) :
    Calls Tryd.prog 12 #[.pointer (some ⟨b, 0, none⟩)] w fun e w' => e = .returned (.int .i64 (n : Int)) ∧ w = w' := by
  subst hn
  exact count_any B b T rest d sg w h
theorem DirM.sgl {B b : Nat} {T : TypeId} {rest : List Value} {d : Dn} {sg : Option Nat} {w : World} (h : DirM B w b T rest d sg) : ∀ g, sg = some g → B ≤ g ∧ g < w.heap.size ∧ g ≠ b := by
  intro g hg
  rcases h.key.none_iff with ⟨_, h2⟩ | ⟨_, _, _, g', _, h2, h3, h4, h5⟩
  · rw [h2] at hg; cases hg
  · rw [h2] at hg
    cases hg
    exact ⟨h5, h3.lt, h4⟩
/-- A writer and a reader of the same keys; nothing is under way. -/
structure WR (w0 w : World) (bw br : Nat) (sgw sgr : Option Nat) (d : Dn) : Prop where
  a : DirM w0.heap.size w bw 31 [] d sgw
  r : RdM w0.heap.size (fun k => k = bw ∨ sgw = some k) w br ⟨d, [], 0, false⟩ sgr
  kp : Kp0 w0 w
section
variable {w0 w w' : World} {bw br : Nat} {sgw sgr : Option Nat} {d d' : Dn}
theorem RdM.kp0 {B : Nat} {Z : Nat → Prop} {b : Nat} {r : Rn} {sg : Option Nat} (h : RdM B Z w b r sg) (hk : Kp0 w w') : RdM B Z w' b r sg := by
  obtain ⟨vw, h⟩ := h
  exact ⟨vw, h.kp0 hk⟩
theorem WR.kp0 (h : WR w0 w bw br sgw sgr d) (hk : Kp0 w w') : WR w0 w' bw br sgw sgr d := ⟨h.a.kp0 hk, h.r.kp0 hk, h.kp.tr hk⟩
theorem WR.dir (h : WR w0 w bw br sgw sgr d) : ∃ rest, DirM w0.heap.size w br 34 rest d sgr := by
  obtain ⟨vw, h⟩ := h.r
  exact ⟨_, h.dir⟩
/-- The writer's new keys. -/
theorem WR.took (h : WR w0 w bw br sgw sgr d) {g : Nat} (hg : w.heap.size ≤ g) (hd : DirM w0.heap.size w' bw 31 [] d' (some g)) (hk : Kp (fun k => k = bw) w w') :
    RdM w0.heap.size (fun k => k = bw ∨ some g = some k) w' br ⟨d, [], 0, false⟩ sgr ∧ Kp0 w0 w' := by
  have hge := h.a.ge
  obtain ⟨vw, hr⟩ := h.r
  refine ⟨⟨vw, (hr.keep hk (fun e => hr.nb (.inl e)) (fun g' e e2 => hr.ns g' e (.inl e2)) (fun k e e2 => hr.nw k e (.inl e2))).reZ ?_ ?_ ?_ ?_⟩, h.kp.trans hk (fun _ _ h => h) (fun i hi e => by omega)⟩
  · rintro (e | e)
    · exact hr.nb (.inl e)
    · have := Option.some.inj e
      have := hr.dir.blk.lt
      omega
  · rintro g' e (e2 | e2)
    · exact hr.ns g' e (.inl e2)
    · have := Option.some.inj e2
      have := (hr.sgl g' e).2.1
      omega
  · rintro k e (e2 | e2)
    · exact hr.nw k e (.inl e2)
    · have := Option.some.inj e2
      have := (hr.ow.lt k e).2
      omega
  · rintro k (e | e)
    · rw [e]; exact hd.blk.lt
    · have := (hd.sgl g rfl).2.1
      have := Option.some.inj e
      omega
/-- A reader's new keys. -/
theorem RdV.took {B : Nat} {Z : Nat → Prop} {b : Nat} {vw : Value} {r : Rn} {sg : Option Nat} (h : RdV B Z w b vw r sg) {g : Nat} (hg : w.heap.size ≤ g) (hd : DirM B w' b 34 (rdC vw r) d' (some g)) (hk : Kp (fun k => k = b) w w') :
    RdM B Z w' b { r with d := d' } (some g) := by
  refine ⟨vw, hd, h.ow.keep hk (fun k hk _ _ e => (h.ne k hk).1 e), h.nb, ?_, h.nw, ?_, fun k hk' => Nat.lt_of_lt_of_le (h.zl k hk') hk.size⟩
  · intro g' e z
    have := h.zl g' z
    have := Option.some.inj e
    omega
  · intro k e
    refine ⟨(h.ne k e).1, fun e2 => ?_⟩
    have := Option.some.inj e2
    have := (h.ow.lt k e).2
    omega
end
theorem left_is {B : Nat} {Z : Nat → Prop} {b : Nat} {r : Rn} {sg : Option Nat} {w : World} (h : RdM B Z w b r sg) (hw : r.W = []) :
    Calls Tryd.prog 14 #[.pointer (some ⟨b, 0, none⟩)] w fun e w' => e = .returned (.bool false) ∧ w = w' := by
  refine (left_any B Z b r sg w h).mono ?_
  rintro e w' ⟨rfl, rfl⟩
  rw [hw]
  exact ⟨rfl, rfl⟩
theorem taken_cnt (d : Dn) (l1 l2 l3 : List UInt8) : (taken d l1 l2 l3).cnt = 0 := rfl
theorem wrote_cnt (d : Dn) (l s : List UInt8) : (wroteD d l s).cnt = d.cnt + 1 := by
  show (gone d _).cnt + 1 = _
  rw [(gone_key d _).2.1]
theorem seal_le (d : Dn) (l s : List UInt8) (h : l.length ≤ 2048) : (sealB d l s).length ≤ 3000 := by
  rw [sealB_len]
  have := (padD_le d l.length).2
  have : tailD d ≤ 32 := by unfold tailD; split <;> omega
  omega
attribute [local irreducible] sealB wroteD taken k1B k2B k3B nextR feedR
theorem feed_new (d : Dn) (l : List UInt8) : feedR ⟨d, [], 0, false⟩ l = ⟨d, l, 0, false⟩ := by
  unfold feedR
  rfl
set_option maxRecDepth 20000 in
set_option maxHeartbeats 16000000 in
theorem pback_walk (v : Value) (ls : List Cq) (w : World) (ht : TabM w.heap.size w) (hv : CallsQ w v ls) :
    Calls Tryd.prog 4 #[v] w fun e w' => e = .returned (.bool true) ∧ Kp0 w w' := by
  have HT := Lib.hid ht
  have HV := Lib.hid hv
  obtain ⟨ao, cap, rfl, hc1, hc2, hc3⟩ := hv.sh
  have HC := Lib.hid hc3
  have hrl : (ls.length : Int) ≤ 9223372036854775807 := by omega
  clear ht hv hc3 hc1 hc2
  go_enter Tryd.func4, Tryd.ntmps4
  go_upto_region 3 with (go_at_call 8
                         refine (pfit_any _ HT.out).mono ?_
                         rintro e w2 ⟨rfl, hk⟩
                         have HK2 := Lib.hid hk
                         clear hk)
  go_wp2_with (first
    | (go_at_call 9
       refine (plight_any _ ls _ (HV.out.keep0 HK2.out)).mono ?_
       rintro e w3 ⟨r, rfl, hr, hk⟩
       have HK3 : Hid (Kp0 w w3) := Lib.hid (HK2.out.tr hk)
       have HR := Lib.hid hr
       clear hk hr)
    | (refine wl_alloc_as asW rfl rfl ?_
       intro w4 bw hw hb
       have HDA : Hid (DirM w.heap.size w4 bw 31 [] d0 none ∧ Kp0 w w4 ∧ bw < w4.heap.size) := Lib.hid (by
         have hs := HK3.out.size
         rw [hw, hb]
         exact ⟨dir_new _ _ _ _ hs, HK3.out.alloc _, by simp⟩)
       clear hw hb
       simp only [Act.put, List.getElem_toArray, List.getElem_cons_succ, List.getElem_cons_zero])
    | (refine wl_alloc_as asR rfl rfl ?_
       intro w5 br hw hb
       have HW : Hid (WR w w5 bw br none none d0) := Lib.hid (by
         obtain ⟨q1, q2, q3⟩ := HDA.out
         rw [hw, hb]
         refine ⟨q1.kp0 ((Kp.refl _ _).alloc _), ⟨_, rd_new _ _ w4 q2.size (fun k e => ?_)⟩, q2.alloc _⟩
         rcases e with e | e
         · rw [e]; exact q3
         · cases e)
       clear hw hb
       simp only [Act.put, List.getElem_toArray, List.getElem_cons_succ, List.getElem_cons_zero]))
  · go_ret
    exact ⟨rfl, HK3.out⟩
  have hrt : r = true := by first | assumption | (simp_all; done)
  have HS : Hid (sumQ ls ≤ 100) := Lib.hid (HR.out hrt)
  subst hrt
  have HN : Hid (ls.length ≤ 100) := Lib.hid (Nat.le_trans (sumQ_len ls) HS.out)
  go_loopg [18] ls.length (fun gg i wr => ∃ (k : Nat) (d : Dn) (sgw sgr : Option Nat), i = .int .i64 k ∧ k ≤ ls.length ∧ gg = ls.length - k ∧ WR w wr bw br sgw sgr d ∧ d.cnt ≤ k)
  case atStart => exact ⟨0, d0, none, none, rfl, Nat.zero_le _, rfl, HW.out, Nat.le_refl _⟩
  case round =>
    obtain ⟨k, d, sgw, sgr, rfl, hk, rfl, h1, h2⟩ := hrel
    have HW2 := Lib.hid h1
    have HD := Lib.hid h2
    clear h1 h2
    by_cases hlt : k < ls.length
    · have hlti : (k : Int) < ls.length := by omega
      obtain ⟨x, hx⟩ : ∃ x, ls[k]? = some x := ⟨_, List.getElem?_eq_getElem hlt⟩
      obtain ⟨b, o, dv, rfl, q1, q2, q3, q4, q5, q6, q7, -⟩ := HC.out k x hx
      have c1 := HW2.out.kp.cell q1 (fun h => h)
      have c2 := HW2.out.kp.cell q2 (fun h => h)
      have c3 := HW2.out.kp.cell q4 (fun h => h)
      have c4 := HW2.out.kp.cell q5 (fun h => h)
      have hq := q3
      obtain ⟨av, cv, rfl, _, _, _⟩ := q3.shapeB
      have HX := Lib.hid hq
      have HB6 := Lib.hid (And.intro q6 q7)
      have HE := Lib.hid hlt
      have HKL : Hid (k ≤ 100) := Lib.hid (by have := HN.out; omega)
      clear q1 q2 q3 q4 q5 q6 q7 hx hlt hq
      go_upto_region 10 with (fail)
      obtain ⟨u, hu⟩ : ∃ u, u = wr.alloc (.cells #[.int .i64 x.kind, .slice av x.data.length cv, .string x.draw, .int .i64 x.num] 42) := ⟨_, rfl⟩
      rw [← hu]
      obtain ⟨cb, hcb⟩ : ∃ cb, cb = wr.heap.size := ⟨_, rfl⟩
      rw [← hcb]
      have HU : Hid (Blk u cb 42 [.int .i64 x.kind, .slice av x.data.length cv, .string x.draw, .int .i64 x.num] ∧ WR w u bw br sgw sgr d) := Lib.hid ⟨by rw [hu, hcb]; exact blk0 wr _ _, by rw [hu]; exact HW2.out.kp0 ((Kp.refl _ _).alloc _)⟩
      have HCB : Hid (bw < cb ∧ br < cb ∧ (∀ g, sgw = some g → g < cb) ∧ (∀ g, sgr = some g → g < cb) ∧ w.heap.size ≤ cb) := Lib.hid (by
        rw [hcb]
        obtain ⟨rest, hd⟩ := HW2.out.dir
        exact ⟨HW2.out.a.blk.lt, hd.blk.lt, fun g e => (HW2.out.a.sgl g e).2.1, fun g e => (hd.sgl g e).2.1, HW2.out.kp.size⟩)
      have k0 := HU.out.1.cellV 0 rfl
      have k1 := HU.out.1.cellV 1 rfl
      have k2 := HU.out.1.cellV 2 rfl
      have k3 := HU.out.1.cellV 3 rfl
      clear c1 c2 c3 c4
      by_cases hkd : x.kind = 1
      · clear hu hcb
        obtain ⟨c, hcv⟩ : ∃ c : Nat, x.num % 256 = (c : Int) := ⟨(x.num % 256).toNat, by omega⟩
        have HCV : Hid (x.num % 256 = (c : Int) ∧ c < 256) := Lib.hid ⟨hcv, by omega⟩
        clear hcv
        go_wp2_with (first
    | (go_at_call 15
       rw [HCV.out.1]
       refine (keys_any c _ HCV.out.2).mono ?_
       rintro e w6 ⟨v1, v2, v3, rfl, q1, q2, q3, hk⟩
       have HQ := Lib.hid (And.intro q1 (And.intro q2 q3))
       have HKK := Lib.hid hk
       clear q1 q2 q3 hk)
    | (go_at_call 16
       refine (take_ok w.heap.size bw _ [] d sgw v1 v2 v3 _ _ _ _ (HU.out.2.a.kp0 HKK.out) (HT.out.kp0 (HU.out.2.kp.tr HKK.out)) HQ.out.1 HQ.out.2.1 HQ.out.2.2 (keys_ok c)).mono ?_
       rintro e w7 ⟨rfl, g, hg, hD, hK⟩
       have HD7 := Lib.hid hD
       have HT7 := Lib.hid ((HU.out.2.kp0 HKK.out).took hg hD hK)
       have k3 := ((HU.out.1.kp0 HKK.out).keep hK (fun e => by have := HCB.out.1; omega)).cellV 3 rfl
       clear hg hD hK)
    | (go_at_call 16
       obtain ⟨vw, hr⟩ := HT7.out.1
       refine (take_ok w.heap.size br _ _ d sgr v1 v2 v3 _ _ _ _ (hr.dir.kp0 HKK.out) (HT.out.kp0 (HT7.out.2.tr HKK.out)) HQ.out.1 HQ.out.2.1 HQ.out.2.2 (keys_ok c)).mono ?_
       rintro e w9 ⟨rfl, g2, hg, hD, hK⟩
       have HW9 : Hid (WR w w9 bw br (some g) (some g2) (taken d (k1B c) (k2B c) (k3B c))) := Lib.hid ⟨(HD7.out.kp0 HKK.out).keep hK (fun e => hr.nb (.inl e.symm)) (fun g' e e2 => hr.nb (.inr (by rw [e, e2]))), (hr.kp0 HKK.out).took hg hD hK, (HT7.out.2.tr HKK.out).trans hK (fun _ _ h => h) (fun i hi e => by have := hr.dir.ge; omega)⟩
       clear hr hg hD hK))
        have hko := HE.out
        go_roundg (ls.length - (k + 1))
        case measure => omega
        case rel => exact ⟨k + 1, _, some g, some g2, by go_num, HE.out, rfl, HW9.out, by rw [taken_cnt]; exact Nat.zero_le _⟩
      · by_cases hl : x.data.length = 0 ∨ 2048 < x.data.length
        · clear hu hcb
          go_wp2
          all_goals first | (have hko := HE.out; go_roundg (ls.length - (k + 1)); (case measure => omega); (case rel => exact ⟨k + 1, d, sgw, sgr, by go_num, HE.out, rfl, HU.out.2, by have := HD.out; omega⟩)) | (exfalso; simp only [← List.length_eq_zero_iff, beq_eq_false_iff_ne, beq_iff_eq, ne_eq] at *; omega)
        · have HL : Hid (0 < x.data.length ∧ x.data.length ≤ 2048) := Lib.hid (by omega)
          have HRZ : Hid (RdM w.heap.size (fun k => k = bw ∨ sgw = some k ∨ k = cb) u br ⟨d, [], 0, false⟩ sgr) := Lib.hid (by
            have hbl := HU.out.1.lt
            have hwl := HU.out.2.a.blk.lt
            have hgl := HU.out.2.a.sgl
            have hcB := HCB.out
            obtain ⟨vw, hr⟩ := HW2.out.r
            refine ⟨vw, (hr.kp0 (w' := u) (by rw [hu]; exact (Kp.refl _ _).alloc _)).reZ ?_ ?_ ?_ ?_⟩
            · rintro (e | e | e)
              · exact hr.nb (.inl e)
              · exact hr.nb (.inr e)
              · omega
            · rintro g' e (e2 | e2 | e2)
              · exact hr.ns g' e (.inl e2)
              · exact hr.ns g' e (.inr e2)
              · have := hcB.2.2.2.1 g' e; omega
            · rintro k e (e2 | e2 | e2)
              · exact hr.nw k e (.inl e2)
              · exact hr.nw k e (.inr e2)
              · have := (hr.ow.lt k e).2; omega
            · rintro k (e | e | e)
              · omega
              · exact (hgl k e).2.1
              · omega)
          obtain ⟨D, hDD⟩ : ∃ D, D = wroteD d x.data x.draw.toList := ⟨_, rfl⟩
          obtain ⟨SB, hSB⟩ : ∃ SB, SB = sealB d x.data x.draw.toList := ⟨_, rfl⟩
          have HNX : Hid (nextR ⟨d, SB, 0, false⟩ = (⟨D, [], 0, false⟩, x.data, 0)) := Lib.hid (by rw [hSB, hDD]; exact next_seal d x.data x.draw.toList HL.out.1 HL.out.2)
          have HSL : Hid (SB.length ≤ 3000) := Lib.hid (by rw [hSB]; exact seal_le _ _ _ HL.out.2)
          have HDC : Hid (D.cnt = d.cnt + 1) := Lib.hid (by rw [hDD]; exact wrote_cnt _ _ _)
          have HDD := Lib.hid hDD
          have HSB := Lib.hid hSB
          have HCN : Hid (d.cnt ≤ 1000000000000) := Lib.hid (by have := HD.out; have := HKL.out; omega)
          have hlA : (x.data.length : Int) ≤ 2048 := by omega
          have hlB : ¬ x.data = [] := fun e => by rw [e] at hl; simp at hl
          have hlC : ¬ ((x.data.length : Int) = 0) := by omega
          clear hl hu hcb hDD hSB
          go_upto_region 15 with (go_at_call 10
                                  refine (write_any w.heap.size bw _ _ d sgw _ x.data x.draw _ HU.out.2.a (HT.out.kp0 HU.out.2.kp) (HX.out.keep0 HU.out.2.kp) HL.out HB6.out.2 HCN.out).mono ?_
                                  rintro e w10 ⟨v6, rfl, q1, q2, q3⟩
                                  rw [← HDD.out] at q2
                                  rw [← HSB.out] at q1
                                  have HD10 := Lib.hid q2
                                  have HO6 := Lib.hid q1.rd
                                  have HR10 : Hid (RdM w.heap.size (fun k => k = bw ∨ sgw = some k ∨ k = cb) w10 br ⟨d, [], 0, false⟩ sgr) := Lib.hid (by
                                    obtain ⟨vw, hr⟩ := HRZ.out
                                    exact ⟨vw, hr.keep q3 (fun e => hr.nb (e.imp id .inl)) (fun g e e2 => hr.ns g e (e2.imp id .inl)) (fun k e e2 => hr.nw k e (e2.imp id .inl))⟩)
                                  have HB10 : Hid (Blk w10 cb 42 [.int .i64 x.kind, .slice av x.data.length cv, .string x.draw, .int .i64 x.num]) := Lib.hid (HU.out.1.keep q3 (fun e => by
                                    have h1 := HCB.out
                                    rcases e with e | e
                                    · omega
                                    · have := h1.2.2.1 cb e; omega))
                                  have HK10 : Hid (Kp0 w w10) := Lib.hid (HU.out.2.kp.trans q3 (fun _ _ h => h) (fun i hi e => by
                                    rcases e with e | e
                                    · have := HU.out.2.a.ge; omega
                                    · have := (HU.out.2.a.sgl i e).1; omega))
                                  clear q1 q2 q3)
          · exfalso
            have hh := HL.out
            simp only [beq_iff_eq] at *
            omega
          go_upto_region 16 with (go_at_call 18
                                  refine (feed_any w.heap.size _ br ⟨d, [], 0, false⟩ sgr v6 SB w10 HR10.out HO6.out (by have := HSL.out; show 0 + SB.length ≤ _; omega)).mono ?_
                                  rintro e w11 ⟨rfl, q1, q2⟩
                                  rw [feed_new] at q1
                                  have HR11 := Lib.hid q1
                                  have HK11 := Lib.hid q2
                                  clear q1 q2)
          go_upto_region 17 with (go_at_call 20
                                  refine (pnext_any w.heap.size _ br ⟨d, SB, 0, false⟩ sgr w11 HR11.out ((HT.out.kp0 HK10.out).fb HK11.out) (fun _ => Nat.zero_le _) (by have := HSL.out; show SB.length ≤ _; omega) HCN.out).mono ?_
                                  rw [HNX.out]
                                  rintro e w12 ⟨v12, rfl, q1, q2, q3⟩
                                  have HV12 := Lib.hid q1
                                  have HR12 := Lib.hid q2
                                  have HK12 := Lib.hid (HK11.out.tr q3)
                                  clear q1 q2 q3)
          have HW12 : Hid (WR w w12 bw br sgw sgr D) := Lib.hid (by
            refine ⟨HD10.out.keep HK12.out (fun e => e.2 (.inl rfl)) (fun g e e2 => e2.2 (.inr (.inl e))), HR12.out.sub (fun k e => e.imp id .inl), HK10.out.trans HK12.out (fun _ _ h => h) (fun i hi e => by have := e.1; omega)⟩)
          have k1 := (HB10.out.keep HK12.out (fun e => e.2 (.inr (.inr rfl)))).cellV 1 rfl
          have hcp := run_string_of (P := Tryd.prog) (w := w12) 32 5 9 Tryd.underlying32 Tryd.underlying5 Tryd.underlying9 HV12.out
          have hcd := run_string_of (P := Tryd.prog) (w := w12) 32 5 9 Tryd.underlying32 Tryd.underlying5 Tryd.underlying9 (HX.out.keep0 HW12.out.kp)
          go_wp2_with (first
    | (go_at_call 14
       refine (left_is HR12.out rfl).mono ?_
       rintro e wn ⟨rfl, rfl⟩))
          have hko := HE.out
          go_roundg (ls.length - (k + 1))
          case measure => omega
          case rel => exact ⟨k + 1, D, sgw, sgr, by go_num, HE.out, rfl, HW12.out, by rw [HDC.out]; have := HD.out; omega⟩
    · obtain rfl : k = ls.length := by omega
      obtain ⟨rest, hdr⟩ := HW2.out.dir
      have HDR := Lib.hid hdr
      clear hk hlt hdr
      go_wp2_with (first
    | (go_at_call 13
       refine (number_is HW2.out.a rfl).mono ?_
       rintro e wn ⟨rfl, rfl⟩)
    | (go_at_call 13
       refine (number_is HDR.out rfl).mono ?_
       rintro e wn ⟨rfl, rfl⟩)
    | (go_at_call 12
       refine (count_is HW2.out.a rfl).mono ?_
       rintro e wn ⟨rfl, rfl⟩)
    | (go_at_call 12
       refine (count_is HDR.out rfl).mono ?_
       rintro e wn ⟨rfl, rfl⟩))
      go_ret
      exact ⟨rfl, HW2.out.kp⟩
end Go.Proofs.YtnbfedmecmdjlaaDoor
