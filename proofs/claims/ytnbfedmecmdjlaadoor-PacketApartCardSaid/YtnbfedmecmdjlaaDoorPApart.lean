/- The law PacketApart: two writers with the same keys, payloads and draws. -/
import Derived.Test.YtnbfedmecmdjlaaDoorPkL
namespace Go.Proofs.YtnbfedmecmdjlaaDoor
open Go Go.RowKit
/-- 'append([]byte(nil), b...)', as a step of its own. -/
theorem append_of_nil {o : Oper} {a : Act} {w : World} {K : Act → World → Prop} {Q : Exit → Act → World → Prop} {x : Operand} {y : Value} {l : List UInt8}
    (ho : o.op = .call { callee := .builtin .append, args := #[.const (.slice none 0 0), x], argTypes := #[32, 32] })
    (hx : a.eval x = y) (hrd : Rd w y (bys l)) (hl : l.length ≤ 140737488351232)
    (h : ∀ v' w', Rd w' v' (bys l) → Kp0 w w' → K (a.put o.dst v') w') : o.wp Tryd.prog a w K Q := by
  refine wp_append_ow (.const (.slice none 0 0)) x 32 ho (B := w.heap.size) Tryd.underlying32 infoU8' rfl rfl hx (Ow.nil _ _ _) hrd (bys_one l) (by unfold maxLen; rw [bys_len]; simp; omega) (by rw [bys_len]; simp; omega) (Nat.le_refl _) ?_
  intro v7 w7 ho hg _
  exact h v7 w7 ho.rd (hg.mono (fun k _ e => by cases e))
theorem number_is {B b : Nat} {T : TypeId} {rest : List Value} {d : Dn} {sg : Option Nat} {w : World} {n : Nat} (h : DirM B w b T rest d sg) (hn : d.num = n) :
    Calls Tryd.prog 13 #[.pointer (some ⟨b, 0, none⟩)] w fun e w' => e = .returned (.int .u32 (n : Int)) ∧ w = w' := by
  subst hn
  exact number_any B b T rest d sg w h
theorem wrote_cn (d : Dn) (l s : List UInt8) (h : d.num = d.cnt) (hc : d.cnt ≤ 1000) : (wroteD d l s).num = (wroteD d l s).cnt ∧ (wroteD d l s).cnt = d.cnt + 1 := by
  obtain ⟨-, h2, h3⟩ := gone_key d (plainB d l s).length
  show ((gone d _).num + 1) % 4294967296 = (gone d _).cnt + 1 ∧ (gone d _).cnt + 1 = _
  rw [h2, h3]
  omega
theorem count_is {B b : Nat} {T : TypeId} {rest : List Value} {d : Dn} {sg : Option Nat} {w : World} {n : Nat} (h : DirM B w b T rest d sg) (hn : d.cnt = n) :
    Calls Tryd.prog 12 #[.pointer (some ⟨b, 0, none⟩)] w fun e w' => e = .returned (.int .i64 (n : Int)) ∧ w = w' := by
  subst hn
  exact count_any B b T rest d sg w h
/-- Two writers, each with keys. -/
structure Two (w0 w : World) (ba bb ga gb : Nat) (da db : Dn) : Prop where
  a : DirM w0.heap.size w ba 31 [] da (some ga)
  b : DirM w0.heap.size w bb 31 [] db (some gb)
  l1 : ba < bb
  l2 : bb < ga
  l3 : ga < gb
  ge : w0.heap.size ≤ ba
  kp : Kp0 w0 w
section
variable {w0 w w' : World} {ba bb ga gb : Nat} {da db d' : Dn}
theorem Two.kp0 (h : Two w0 w ba bb ga gb da db) (hk : Kp0 w w') : Two w0 w' ba bb ga gb da db := ⟨h.a.kp0 hk, h.b.kp0 hk, h.l1, h.l2, h.l3, h.ge, h.kp.tr hk⟩
theorem Two.lt (h : Two w0 w ba bb ga gb da db) : gb < w.heap.size := by
  rcases h.b.key.none_iff with ⟨_, h2⟩ | ⟨_, _, _, g', _, h2, h3, _, _⟩
  · cases h2
  · cases h2; exact h3.lt
theorem Two.onA (h : Two w0 w ba bb ga gb da db) (hd : DirM w0.heap.size w' ba 31 [] d' (some ga)) (hk : Kp (fun k => k = ba ∨ some ga = some k) w w') : Two w0 w' ba bb ga gb d' db := by
  have h1 := h.l1
  have h2 := h.l2
  have h3 := h.l3
  have h4 := h.ge
  refine ⟨hd, h.b.keep hk (fun e => ?_) (fun g e e2 => ?_), h1, h2, h3, h4, h.kp.trans hk (fun _ _ h => h) (fun i hi e => ?_)⟩
  · rcases e with e | e
    · omega
    · have := Option.some.inj e; omega
  · have := Option.some.inj e
    rcases e2 with e2 | e2
    · omega
    · have := Option.some.inj e2; omega
  · rcases e with e | e
    · omega
    · have := Option.some.inj e; omega
theorem Two.onB (h : Two w0 w ba bb ga gb da db) (hd : DirM w0.heap.size w' bb 31 [] d' (some gb)) (hk : Kp (fun k => k = bb ∨ some gb = some k) w w') : Two w0 w' ba bb ga gb da d' := by
  have h1 := h.l1
  have h2 := h.l2
  have h3 := h.l3
  have h4 := h.ge
  refine ⟨h.a.keep hk (fun e => ?_) (fun g e e2 => ?_), hd, h1, h2, h3, h4, h.kp.trans hk (fun _ _ h => h) (fun i hi e => ?_)⟩
  · rcases e with e | e
    · omega
    · have := Option.some.inj e; omega
  · have := Option.some.inj e
    rcases e2 with e2 | e2
    · omega
    · have := Option.some.inj e2; omega
  · rcases e with e | e
    · omega
    · have := Option.some.inj e; omega
end
attribute [local irreducible] sealB wroteD taken k1B k2B k3B
set_option maxRecDepth 20000 in
set_option maxHeartbeats 16000000 in
theorem papart_walk (v : Value) (ls : List Cq) (w : World) (ht : TabM w.heap.size w) (hv : CallsQ w v ls) :
    Calls Tryd.prog 7 #[v] w fun e w' => e = .returned (.bool true) ∧ Kp0 w w' := by
  have HT := Lib.hid ht
  have HV := Lib.hid hv
  obtain ⟨ao, cap, rfl, hc1, hc2, hc3⟩ := hv.sh
  have HC := Lib.hid hc3
  have hrl : (ls.length : Int) ≤ 9223372036854775807 := by omega
  clear ht hv hc3 hc1 hc2
  go_enter Tryd.func7, Tryd.ntmps7
  go_upto_region 3 with (go_at_call 8
                         refine (pfit_any _ HT.out).mono ?_
                         rintro e w2 ⟨rfl, hk⟩
                         have HK2 := Lib.hid hk
                         clear hk)
  go_wp2_with (first
    | (go_at_call 9
       refine (plight_any _ ls _ (HV.out.keep0 HK2.out)).mono ?_
       rintro e w3 ⟨r, rfl, hr, hk⟩
       have HK3 : Hid (Kp0 w w3) := Lib.hid (HK2.out.tr hk)
       have HR := Lib.hid hr
       clear hk hr)
    | (refine wl_alloc_as asW rfl rfl ?_
       have HA' := HDA
       intro w5 bb hw hb
       have HDB : Hid (DirM w.heap.size w5 ba 31 [] d0 none ∧ DirM w.heap.size w5 bb 31 [] d0 none ∧ ba < bb ∧ bb < w5.heap.size ∧ w.heap.size ≤ ba ∧ Kp0 w w5) := Lib.hid (by
         obtain ⟨q1, q2, q3⟩ := HDA.out
         have hs := q2.size
         rw [hw, hb]
         exact ⟨q1.kp0 ((Kp.refl _ _).alloc _), dir_new _ _ _ _ hs, q3.2, by simp, q3.1, q2.alloc _⟩)
       clear hw hb HA'
       simp only [Act.put, List.getElem_toArray, List.getElem_cons_succ, List.getElem_cons_zero])
    | (refine wl_alloc_as asW rfl rfl ?_
       intro w4 ba hw hb
       have HDA : Hid (DirM w.heap.size w4 ba 31 [] d0 none ∧ Kp0 w w4 ∧ w.heap.size ≤ ba ∧ ba < w4.heap.size) := Lib.hid (by
         have hs := HK3.out.size
         rw [hw, hb]
         exact ⟨dir_new _ _ _ _ hs, HK3.out.alloc _, hs, by simp⟩)
       clear hw hb
       simp only [Act.put, List.getElem_toArray, List.getElem_cons_succ, List.getElem_cons_zero])
    | (go_at_call 15
       refine (keys_any 1 _ (by decide)).mono ?_
       rintro e w6 ⟨v1, v2, v3, rfl, q1, q2, q3, hk⟩
       have HQ := Lib.hid (And.intro q1 (And.intro q2 q3))
       have HKK := Lib.hid hk
       clear q1 q2 q3 hk)
    | (go_at_call 16
       obtain ⟨t1, t2, t3, t4, t5, t6, t7⟩ := HTA.out
       refine (take_ok w.heap.size bb _ [] d0 none v1 v2 v3 _ _ _ _ (t2.kp0 HKK.out) (HT.out.kp0 (t7.tr HKK.out)) HQ.out.1 HQ.out.2.1 HQ.out.2.2 (keys_ok 1)).mono ?_
       rintro e w8 ⟨rfl, gb, hg, hD, hK⟩
       have HTB : Hid (∃ d, Two w w8 ba bb ga gb d d ∧ d.num = d.cnt ∧ d.cnt ≤ 0) := Lib.hid ⟨taken d0 (k1B 1) (k2B 1) (k3B 1), ⟨(t1.kp0 HKK.out).keep hK (by omega) (fun g e e2 => by have := Option.some.inj e; omega), hD, t3, t4, Nat.lt_of_lt_of_le t5 (Nat.le_trans HKK.out.size hg), t6, (t7.tr HKK.out).trans hK (fun _ _ h => h) (fun i hi e => by omega)⟩, by unfold taken; exact ⟨rfl, Nat.le_refl _⟩⟩
       clear t1 t2 t3 t4 t5 t6 t7 hg hD hK)
    | (go_at_call 16
       obtain ⟨t1, t2, t3, t4, t5, t6⟩ := HDB.out
       refine (take_ok w.heap.size ba _ [] d0 none v1 v2 v3 _ _ _ _ (t1.kp0 HKK.out) (HT.out.kp0 (t6.tr HKK.out)) HQ.out.1 HQ.out.2.1 HQ.out.2.2 (keys_ok 1)).mono ?_
       rintro e w7 ⟨rfl, ga, hg, hD, hK⟩
       have HTA : Hid (DirM w.heap.size w7 ba 31 [] (taken d0 (k1B 1) (k2B 1) (k3B 1)) (some ga) ∧ DirM w.heap.size w7 bb 31 [] d0 none ∧ ba < bb ∧ bb < ga ∧ ga < w7.heap.size ∧ w.heap.size ≤ ba ∧ Kp0 w w7) := Lib.hid (by
         have hs := HKK.out.size
         refine ⟨hD, (t2.kp0 HKK.out).keep hK (by omega) (fun g e => by cases e), t3, by omega, ?_, t5, (t6.tr HKK.out).trans hK (fun _ _ h => h) (fun i hi e => by omega)⟩
         rcases hD.key.none_iff with ⟨_, h2⟩ | ⟨_, _, _, g', _, h2, h3, _, _⟩
         · cases h2
         · cases h2; exact h3.lt)
       clear t1 t2 t3 t4 t5 t6 hg hD hK))
  · go_ret
    exact ⟨rfl, HK3.out⟩
  have hrt : r = true := by first | assumption | (simp_all; done)
  have HS : Hid (sumQ ls ≤ 100) := Lib.hid (HR.out hrt)
  subst hrt
  have HN : Hid (ls.length ≤ 100) := Lib.hid (Nat.le_trans (sumQ_len ls) HS.out)
  go_loopg [24] ls.length (fun gg i wr => ∃ (k : Nat) (d : Dn), i = .int .i64 k ∧ k ≤ ls.length ∧ gg = ls.length - k ∧ Two w wr ba bb ga gb d d ∧ d.num = d.cnt ∧ d.cnt ≤ k)
  case atStart =>
    obtain ⟨d, h1, h2, h3⟩ := HTB.out
    exact ⟨0, d, rfl, Nat.zero_le _, rfl, h1, h2, h3⟩
  case round =>
    obtain ⟨k, d, rfl, hk, rfl, h1, h2, h3⟩ := hrel
    have HT2 := Lib.hid h1
    have HD := Lib.hid (And.intro h2 h3)
    clear h1 h2 h3
    by_cases hlt : k < ls.length
    · have hlti : (k : Int) < ls.length := by omega
      obtain ⟨x, hx⟩ : ∃ x, ls[k]? = some x := ⟨_, List.getElem?_eq_getElem hlt⟩
      obtain ⟨b, o, dv, rfl, q1, q2, q3, q4, q5, q6, q7, -⟩ := HC.out k x hx
      have c1 := HT2.out.kp.cell q1 (fun h => h)
      have c2 := HT2.out.kp.cell q2 (fun h => h)
      have c3 := HT2.out.kp.cell q4 (fun h => h)
      have c4 := HT2.out.kp.cell q5 (fun h => h)
      have hq := q3
      obtain ⟨av, cv, rfl, _, _, _⟩ := q3.shapeB
      have HX := Lib.hid hq
      have HB6 := Lib.hid (And.intro q6 q7)
      have HE := Lib.hid hlt
      have HKL : Hid (k ≤ 100) := Lib.hid (by have := HN.out; omega)
      clear q1 q2 q3 q4 q5 q6 q7 hx hlt hq
      go_upto_region 11 with (fail)
      obtain ⟨u, hu⟩ : ∃ u, u = wr.alloc (.cells #[.int .i64 x.kind, .slice av x.data.length cv, .string x.draw, .int .i64 x.num] 42) := ⟨_, rfl⟩
      rw [← hu]
      obtain ⟨cb, hcb⟩ : ∃ cb, cb = wr.heap.size := ⟨_, rfl⟩
      rw [← hcb]
      have HU : Hid (Blk u cb 42 [.int .i64 x.kind, .slice av x.data.length cv, .string x.draw, .int .i64 x.num] ∧ Two w u ba bb ga gb d d ∧ gb < cb) := Lib.hid ⟨by rw [hu, hcb]; exact blk0 wr _ _, by rw [hu]; exact HT2.out.kp0 ((Kp.refl _ _).alloc _), by rw [hcb]; exact HT2.out.lt⟩
      have k0 := HU.out.1.cellV 0 rfl
      have k1 := HU.out.1.cellV 1 rfl
      have k2 := HU.out.1.cellV 2 rfl
      clear hu hcb c1 c2 c3 c4
      by_cases hkd : x.kind = 0
      · by_cases hl : x.data.length = 0 ∨ 2048 < x.data.length
        · have HL := Lib.hid hl
          have hcm : (d.cnt : Int) ≤ 100 := by have := HD.out.2; have := HKL.out; omega
          clear hl
          go_upto_region 13 with (go_at_call 10
                                  refine (write_no ba _ x.data x.draw _ (HX.out.keep0 HU.out.2.1.kp) HL.out (Nat.le_trans HB6.out.1 (by decide))).mono ?_
                                  rintro e w10 ⟨rfl, rfl⟩)
          have hcd : ∀ wq, Kp0 u wq → wq.cell? ⟨cb, 1, none⟩ = some (.slice av x.data.length cv) := fun wq hq => hq.cell k1 (fun h => h)
          have hcs : ∀ wq, Kp0 u wq → wq.cell? ⟨cb, 2, none⟩ = some (.string x.draw) := fun wq hq => hq.cell k2 (fun h => h)
          refine wp_region_px 11 [] (fun w' : World => Kp0 u w') (.quiet 0 (.quiet 1 (.quiet 3 (.quiet 4 (.eff 2 (.eff 5 (.quiet 6 (.quiet 7 (.quiet 8 (.quiet 9 (.quiet 10 .done))))))))))) (by kernel_rfl) (by kernel_rfl) (by kernel_rfl) (by kernel_rfl) (fun _ d _ _ _ h => by cases d <;> exact h) (Kp.refl _ _).drew ?_
          iterate 4 (refine px_quiet (v := ?_) rfl (by rfl) (fun wq hwq => ?_) rfl ?_; rotate_left 1; (focus (have hq1 := hcd wq hwq; have hq2 := hcs wq hwq; go_simp; try (with_reducible rfl); done)); try simp only [List.setIfInBounds_toArray, List.set_cons_zero, List.set_cons_succ])
          refine px_eff rfl (by rfl) (fun K hK => ?_)
          refine append_of_nil (x := .tmp 41) (y := .slice av x.data.length cv) (l := x.data) ?_ ?_ ?_ ?_ ?_
          · rfl
          · rfl
          · exact HX.out.keep0 (HU.out.2.1.kp.tr (Kp.refl _ _).drew)
          · exact HB6.out.1
          intro v7 w7 ho hg
          have HO7 := Lib.hid ho
          have HK7 : Hid (Kp0 u w7) := Lib.hid ((Kp.refl _ _).drew.tr hg)
          clear ho hg
          refine hK (fun w' => Kp0 w7 w') _ _ (fun x hx => HK7.out.tr hx) (Kp.refl _ _) ?_
          clear hK K
          try simp only [Act.put, List.setIfInBounds_toArray, List.set_cons_zero, List.set_cons_succ]
          refine px_eff rfl (by rfl) (fun K hK => ?_)
          go_simp
          refine (write_no bb _ x.data x.draw _ HO7.out HL.out (Nat.le_trans HB6.out.1 (by decide))).mono ?_
          rintro e w11 ⟨rfl, rfl⟩
          refine hK (fun w' => Kp0 w7 w') _ _ (fun x hx => hx) (Kp.refl _ _) ?_
          clear hK K
          try simp only [Act.put, List.setIfInBounds_toArray, List.set_cons_zero, List.set_cons_succ]
          iterate 5 (refine px_quiet (v := ?_) rfl (by rfl) (fun wq hwq => ?_) rfl ?_; rotate_left 1; (focus (go_simp; try (with_reducible rfl); done)); try simp only [List.setIfInBounds_toArray, List.set_cons_zero, List.set_cons_succ])
          refine px_done ?_
          have HT7 : Hid (Two w w7 ba bb ga gb d d) := Lib.hid (HU.out.2.1.kp0 HK7.out)
          have hcn := run_string_of (P := Tryd.prog) (w := w7) 32 5 9 Tryd.underlying32 Tryd.underlying5 Tryd.underlying9 (l := []) (Rd.nil w7)
          clear hcd hcs k0 k1 k2
          go_wp2_with (first
    | (go_at_call 13
       refine (number_is HT7.out.a HD.out.1).mono ?_
       rintro e wn ⟨rfl, rfl⟩)
    | (go_at_call 13
       refine (number_is HT7.out.b HD.out.1).mono ?_
       rintro e wn ⟨rfl, rfl⟩)
    | (go_at_call 12
       refine (count_is HT7.out.a rfl).mono ?_
       rintro e wn ⟨rfl, rfl⟩))
          have hko := HE.out
          go_roundg (ls.length - (k + 1))
          case measure => omega
          case rel => exact ⟨k + 1, d, by go_num, HE.out, rfl, HT7.out, HD.out.1, by have := HD.out.2; omega⟩
        · have HL : Hid (0 < x.data.length ∧ x.data.length ≤ 2048) := Lib.hid (by omega)
          obtain ⟨D, hDD⟩ : ∃ D, D = wroteD d x.data x.draw.toList := ⟨_, rfl⟩
          obtain ⟨m, hm⟩ : ∃ m, m = D.cnt := ⟨_, rfl⟩
          have HW : Hid (D.num = m ∧ D.cnt = m ∧ m = d.cnt + 1) := Lib.hid (by
            have h1 := wrote_cn d x.data x.draw.toList HD.out.1 (by have := HD.out.2; have := HKL.out; omega)
            rw [← hDD, ← hm] at h1
            exact ⟨h1.1, hm.symm, h1.2⟩)
          have HDD := Lib.hid hDD
          have hcm : (m : Int) ≤ 101 := by have := HW.out.2.2; have := HD.out.2; have := HKL.out; omega
          have HCN : Hid (d.cnt ≤ 1000000000000) := Lib.hid (by have := HD.out.2; have := HKL.out; omega)
          clear hl hm hDD
          go_upto_region 13 with (go_at_call 10
                                  refine (write_any w.heap.size ba _ _ d (some ga) _ x.data x.draw _ HU.out.2.1.a (HT.out.kp0 HU.out.2.1.kp) (HX.out.keep0 HU.out.2.1.kp) HL.out HB6.out.2 HCN.out).mono ?_
                                  rintro e w10 ⟨v6, rfl, q1, q2, q3⟩
                                  rw [← HDD.out] at q2
                                  have HT10 : Hid (Two w w10 ba bb ga gb D d) := Lib.hid (HU.out.2.1.onA q2 q3)
                                  have HO6 : Hid (Rd w10 v6 (bys (sealB d x.data x.draw.toList)) ∧ ∀ k, v6.ownBlock = some k → gb < k) := Lib.hid ⟨q1.rd, fun k hk => Nat.lt_of_lt_of_le HU.out.2.1.lt (q1.lt k hk).1⟩
                                  have HB10 : Hid (Blk w10 cb 42 [.int .i64 x.kind, .slice av x.data.length cv, .string x.draw, .int .i64 x.num]) := Lib.hid (HU.out.1.keep q3 (fun e => by
                                    have h1 := HU.out.2.2
                                    have h2 := HU.out.2.1.l1
                                    have h3 := HU.out.2.1.l2
                                    have h4 := HU.out.2.1.l3
                                    rcases e with e | e
                                    · omega
                                    · have := Option.some.inj e; omega))
                                  clear q1 q2 q3)
          have hcd : ∀ wq : World, (wq.cell? ⟨cb, 1, none⟩ = some (.slice av x.data.length cv) ∧ wq.cell? ⟨cb, 2, none⟩ = some (.string x.draw)) → wq.cell? ⟨cb, 1, none⟩ = some (.slice av x.data.length cv) := fun wq hq => hq.1
          have hcs : ∀ wq : World, (wq.cell? ⟨cb, 1, none⟩ = some (.slice av x.data.length cv) ∧ wq.cell? ⟨cb, 2, none⟩ = some (.string x.draw)) → wq.cell? ⟨cb, 2, none⟩ = some (.string x.draw) := fun wq hq => hq.2
          refine wp_region_px 11 [] (fun w' : World => w'.cell? ⟨cb, 1, none⟩ = some (.slice av x.data.length cv) ∧ w'.cell? ⟨cb, 2, none⟩ = some (.string x.draw)) (.quiet 0 (.quiet 1 (.quiet 3 (.quiet 4 (.eff 2 (.eff 5 (.quiet 6 (.quiet 7 (.quiet 8 (.quiet 9 (.quiet 10 .done))))))))))) (by kernel_rfl) (by kernel_rfl) (by kernel_rfl) (by kernel_rfl) (fun _ d _ _ _ h => by cases d <;> exact h) ⟨HB10.out.cellV 1 rfl, HB10.out.cellV 2 rfl⟩ ?_
          iterate 4 (refine px_quiet (v := ?_) rfl (by rfl) (fun wq hwq => ?_) rfl ?_; rotate_left 1; (focus (have hq1 := hcd wq hwq; have hq2 := hcs wq hwq; go_simp; try (with_reducible rfl); done)); try simp only [List.setIfInBounds_toArray, List.set_cons_zero, List.set_cons_succ])
          refine px_eff rfl (by rfl) (fun K hK => ?_)
          refine append_of_nil (x := .tmp 41) (y := .slice av x.data.length cv) (l := x.data) ?_ ?_ ?_ ?_ ?_
          · rfl
          · rfl
          · exact HX.out.keep0 (HT10.out.kp.tr (Kp.refl _ _).drew)
          · exact HB6.out.1
          intro v7 w7 ho hg
          have HO7 := Lib.hid ho
          have HK7 : Hid (Kp0 w10 w7) := Lib.hid ((Kp.refl _ _).drew.tr hg)
          clear ho hg
          refine hK (fun w' => w'.cell? ⟨cb, 1, none⟩ = some (.slice av x.data.length cv) ∧ w'.cell? ⟨cb, 2, none⟩ = some (.string x.draw)) _ _ (fun x hx => hx) ⟨(HB10.out.kp0 HK7.out).cellV 1 rfl, (HB10.out.kp0 HK7.out).cellV 2 rfl⟩ ?_
          clear hK K
          try simp only [Act.put, List.setIfInBounds_toArray, List.set_cons_zero, List.set_cons_succ]
          refine px_eff rfl (by rfl) (fun K hK => ?_)
          go_simp
          refine (write_any w.heap.size bb _ _ d (some gb) _ x.data x.draw _ ((HT10.out.kp0 HK7.out).b) (HT.out.kp0 (HT10.out.kp.tr HK7.out)) HO7.out HL.out HB6.out.2 HCN.out).mono ?_
          rintro e w11 ⟨v8, rfl, q1, q2, q3⟩
          rw [← HDD.out] at q2
          have HT11 : Hid (Two w w11 ba bb ga gb D D) := Lib.hid ((HT10.out.kp0 HK7.out).onB q2 q3)
          have hca := run_string_of (P := Tryd.prog) (w := w11) 32 5 9 Tryd.underlying32 Tryd.underlying5 Tryd.underlying9 ((HO6.out.1.keep0 HK7.out).keep q3 (fun k hk _ e => by
            have h1 := HO6.out.2 k hk
            have h2 := HT10.out.l2
            have h3 := HT10.out.l3
            rcases e with e | e
            · omega
            · have := Option.some.inj e; omega))
          have hcb := run_string_of (P := Tryd.prog) (w := w11) 32 5 9 Tryd.underlying32 Tryd.underlying5 Tryd.underlying9 q1.rd
          have HCA := Lib.hid hca
          have HCB := Lib.hid hcb
          have HB11 : Hid (Blk w11 cb 42 [.int .i64 x.kind, .slice av x.data.length cv, .string x.draw, .int .i64 x.num]) := Lib.hid ((HB10.out.kp0 HK7.out).keep q3 (fun e => by
            have h1 := HU.out.2.2
            have h2 := HU.out.2.1.l1
            have h3 := HU.out.2.1.l2
            have h4 := HU.out.2.1.l3
            rcases e with e | e
            · omega
            · have := Option.some.inj e; omega))
          clear q1 q2 q3 hca hcb
          simp only []
          refine hK (fun w' => w'.cell? ⟨cb, 1, none⟩ = some (.slice av x.data.length cv) ∧ w'.cell? ⟨cb, 2, none⟩ = some (.string x.draw)) _ _ (fun x hx => hx) ⟨HB11.out.cellV 1 rfl, HB11.out.cellV 2 rfl⟩ ?_
          clear hK K
          try simp only [Act.put, List.setIfInBounds_toArray, List.set_cons_zero, List.set_cons_succ]
          iterate 5 (refine px_quiet (v := ?_) rfl (by rfl) (fun wq hwq => ?_) rfl ?_; rotate_left 1; (focus (go_simp; try (with_reducible rfl); done)); try simp only [List.setIfInBounds_toArray, List.set_cons_zero, List.set_cons_succ])
          refine px_done ?_
          have hca := HCA.out
          have hcb := HCB.out
          clear hcd hcs k0 k1 k2
          go_wp2_with (first
    | (go_at_call 13
       refine (number_is HT11.out.a HW.out.1).mono ?_
       rintro e wn ⟨rfl, rfl⟩)
    | (go_at_call 13
       refine (number_is HT11.out.b HW.out.1).mono ?_
       rintro e wn ⟨rfl, rfl⟩)
    | (go_at_call 12
       refine (count_is HT11.out.a HW.out.2.1).mono ?_
       rintro e wn ⟨rfl, rfl⟩))
          have hko := HE.out
          go_roundg (ls.length - (k + 1))
          case measure => omega
          case rel => exact ⟨k + 1, D, by go_num, HE.out, rfl, HT11.out, (by rw [HW.out.1, HW.out.2.1]), by rw [HW.out.2.1, HW.out.2.2]; have := HD.out.2; omega⟩
      · go_wp2
        go_roundg (ls.length - (k + 1))
        case measure => have := HE.out; omega
        case rel => exact ⟨k + 1, d, by go_num, HE.out, rfl, HU.out.2.1, HD.out.1, by have := HD.out.2; omega⟩
    · obtain rfl : k = ls.length := by omega
      clear hk hlt
      go_wp2
      go_ret
      exact ⟨rfl, HT2.out.kp⟩
end Go.Proofs.YtnbfedmecmdjlaaDoor
