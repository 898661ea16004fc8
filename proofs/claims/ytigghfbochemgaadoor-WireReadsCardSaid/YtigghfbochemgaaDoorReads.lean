/- The law WireReads: its walk. -/
import Derived.Deep.CutBlock
import Derived.Deep.DeepCutAuto
import Derived.Test.YtigghfbochemgaaDoorCurN
import Derived.Test.YtigghfbochemgaaDoorCurI
import Derived.Test.YtigghfbochemgaaDoorTexts
import Derived.Test.YtigghfbochemgaaDoorCameInts
namespace Go.Proofs.YtigghfbochemgaaDoor
open Go Go.RowKit

theorem takeS_len2 {w : World} {c : Nat} {v : Value} {lb : List UInt8} {st : Option (List UInt8)} (h : Cs w c v lb st) (m : Int) : (takeS st m).1.length ≤ lb.length := by
  obtain ⟨⟨n, f, _, _, rfl⟩, _⟩ := h
  unfold takeS cview
  cases f
  · simp only [Bool.false_eq_true, if_false]
    split
    · simp; omega
    · simp
  · simp
set_option maxRecDepth 20000 in
set_option maxHeartbeats 8000000 in
theorem reads_walk (v p : Value) (lb : List UInt8) (lk : List Int) (w : World) (hv : Rd w v (bys lb)) (hp : Rd w p (ints lk)) (hgm : Gm w) (hlb : lb.length ≤ 140737488351232) (hvo : ∀ g, v.ownBlock = some g → g < w.heap.size) :
    Calls Tryd.prog 3 #[v, p] w fun e w' => e = .returned (.bool true) ∧ Kp0 w w' := by
  have hsz0 : 0 < w.heap.size := by obtain ⟨m, hm⟩ := hgm; exact World.block_lt_of_cell? w _ hm
  have HG := Lib.hid hgm
  have HV := Lib.hid hv
  have HP := Lib.hid hp
  have HVO := Lib.hid hvo
  obtain ⟨ao, cap, rfl, hc1, hc2, hc3⟩ := hv.shapeB
  obtain ⟨po, pcap, rfl, hp1, hp2, hp3⟩ := hp.shapeI
  clear hv hp hgm hvo
  go_enter Tryd.func3, Tryd.ntmps3
  go_wp2_with fail
  refine (fit_any _).mono ?_
  rintro e w1 ⟨rfl, hk1⟩
  have HK1 := Lib.hid hk1
  clear hk1
  by_cases hb1 : 3000 < lb.length
  · go_wp2
    all_goals go_ret
    all_goals exact ⟨rfl, HK1.out⟩
  by_cases hb2 : 50 < lk.length
  · go_wp2
    all_goals go_ret
    all_goals exact ⟨rfl, HK1.out⟩
  have HV1 := Lib.hid (HV.out.keep0 HK1.out)
  go_wp2_with fail
  refine (from_any _ lb _ HV1.out).mono ?_
  rintro e w2 ⟨b, rfl, hb, hr2, hk2⟩
  have HR2 := Lib.hid hr2
  have HK2 := Lib.hid (HK1.out.tr hk2)
  have hbw : w.heap.size ≤ b := by have := HK1.out.size; omega
  have hbl := HR2.out.lt
  clear hr2 hk2 hb
  obtain ⟨c, hc⟩ : ∃ c, c = w2.heap.size := ⟨_, rfl⟩
  have hcw : w.heap.size ≤ c := by have := HK2.out.size; omega
  have hbc : ¬ b = c := by omega
  have HCC := Lib.hid hc
  go_wp2
  go_loopg [27] lk.length (fun g i wr => ∃ (k : Nat) (st : Option (List UInt8)), i = .int .i64 k ∧ k ≤ lk.length ∧ g = lk.length - k ∧ Rs wr b st ∧ Cs wr c (.slice ao lb.length cap) lb st ∧ Kp0 w wr)
  case atStart =>
    refine ⟨0, some lb, rfl, Nat.zero_le _, rfl, HR2.out.keep ((Kp.refl (fun _ => False) w2).alloc _) (fun h => h), ⟨⟨0, false, ?_, Nat.zero_le _, rfl⟩, HV.out.keep0 (HK2.out.alloc _), fun g hg e => ?_⟩, HK2.out.alloc _⟩
    · unfold CB
      rw [hc]
      exact heap_alloc_new w2 _
    · have := HVO.out g hg; omega
  case round =>
    obtain rfl := HCC.out
    obtain ⟨k, st, rfl, hk, rfl, hr, hcs, hkp⟩ := hrel
    have HR := Lib.hid hr
    have HC := Lib.hid hcs
    have HK := Lib.hid hkp
    clear hr hcs hkp
    by_cases h : k < lk.length
    · obtain ⟨b8, o8, c8, e8, _, _, hcell⟩ := HP.out.posI (by omega)
      simp only [Value.slice.injEq] at e8
      obtain ⟨rfl, _, rfl⟩ := e8
      have hck := HK.out.cell (hcell k h) (fun h => h)
      obtain ⟨x, hxx⟩ : ∃ x, x = lk[k]'h := ⟨_, rfl⟩
      rw [← hxx] at hck
      clear hcell hxx
      go_upto_block 2 with (fail)
      obtain ⟨q, hq⟩ : ∃ q, q = (wrap64 (x.tmod 7 + 7)).tmod 7 := ⟨_, rfl⟩
      rw [← hq]
      clear hq
      go_cut [9] (fun ok wt => ok = .bool true ∧ ∃ stt, Rs wt b stt ∧ Cs wt w2.heap.size (.slice ao lb.length cap) lb stt ∧ Kp0 w wt)
      case first =>
        by_cases n0 : q = 0
        · have hq0 : (q == 0) = true := by rw [beq_iff_eq]; exact n0
          clear n0
          obtain ⟨n, hn⟩ : ∃ n, n = (byteS st).1 := ⟨_, rfl⟩
          have hn2 : n < 256 := by rw [hn]; exact headNat_lt _
          have hnw : IntKind.i64.wrap (n : Int) = (n : Int) := by rw [IntKind.wrap_i64]; omega
          have HN := Lib.hid hn
          clear hn
          go_wp2_with fail
          refine (byte_rs b st _ HR.out).mono ?_
          rw [← HN.out]
          rintro e w3 ⟨rfl, hr3, hk3⟩
          have HR3 := Lib.hid hr3
          have HC3 := Lib.hid (HC.out.keep hk3 (fun e => hbc e.symm) (fun g hg _ e => by have := HVO.out g hg; omega))
          have HK3 : Hid (Kp0 w w3) := Lib.hid (HK.out.trans hk3 (fun _ _ h => h) (fun i hi (e : i = b) => by omega))
          clear hr3 hk3
          go_wp2_with fail
          refine (byte_cs _ _ lb st _ HC3.out hlb).mono ?_
          rw [← HN.out]
          rintro e wt ⟨rfl, hc4, hk4⟩
          obtain ⟨stt, hstt⟩ : ∃ stt, stt = (byteS st).2 := ⟨_, rfl⟩
          rw [← hstt] at HR3 hc4
          have HCT := Lib.hid hc4
          have HRT := Lib.hid (HR3.out.keep hk4 hbc)
          have HKT : Hid (Kp0 w wt) := Lib.hid (HK3.out.trans hk4 (fun _ _ h => h) (fun i hi (e : i = w2.heap.size) => by omega))
          clear hstt hc4 hk4
          go_wp2
          go_meet
          exact ⟨rfl, stt, HRT.out, HCT.out, HKT.out⟩
        by_cases n1 : q = 1
        · have hq0 : (q == 0) = false := by rw [beq_eq_false_iff_ne]; exact n0
          have hq1 : (q == 1) = true := by rw [beq_iff_eq]; exact n1
          clear n0 n1
          obtain ⟨n, hn⟩ : ∃ n, n = (byteS st).1 := ⟨_, rfl⟩
          have hn2 : n < 256 := by rw [hn]; exact headNat_lt _
          obtain ⟨f, hf⟩ : ∃ f : Bool, f = decide (¬ n = 0) := ⟨_, rfl⟩
          have hnf : ((n : Int) != 0) = f := by rw [hf, Bool.eq_iff_iff, bne_iff_ne, decide_eq_true_iff]; omega
          have HN := Lib.hid hn
          have HF := Lib.hid hf
          clear hn hf
          go_wp2_with fail
          refine (flag_rs b st _ HR.out).mono ?_
          rw [← HN.out, ← HF.out]
          rintro e w3 ⟨rfl, hr3, hk3⟩
          have HR3 := Lib.hid hr3
          have HC3 := Lib.hid (HC.out.keep hk3 (fun e => hbc e.symm) (fun g hg _ e => by have := HVO.out g hg; omega))
          have HK3 : Hid (Kp0 w w3) := Lib.hid (HK.out.trans hk3 (fun _ _ h => h) (fun i hi (e : i = b) => by omega))
          clear hr3 hk3
          go_wp2_with fail
          refine (byte_cs _ _ lb st _ HC3.out hlb).mono ?_
          rw [← HN.out]
          rintro e wt ⟨rfl, hc4, hk4⟩
          obtain ⟨stt, hstt⟩ : ∃ stt, stt = (byteS st).2 := ⟨_, rfl⟩
          rw [← hstt] at HR3 hc4
          have HCT := Lib.hid hc4
          have HRT := Lib.hid (HR3.out.keep hk4 hbc)
          have HKT : Hid (Kp0 w wt) := Lib.hid (HK3.out.trans hk4 (fun _ _ h => h) (fun i hi (e : i = w2.heap.size) => by omega))
          clear hstt hc4 hk4
          go_wp2
          go_meet
          exact ⟨rfl, stt, HRT.out, HCT.out, HKT.out⟩
        by_cases n2 : q = 2
        · have hq0 : (q == 0) = false := by rw [beq_eq_false_iff_ne]; exact n0
          have hq1 : (q == 1) = false := by rw [beq_eq_false_iff_ne]; exact n1
          have hq2 : (q == 2) = true := by rw [beq_iff_eq]; exact n2
          clear n0 n1 n2
          obtain ⟨n, hn⟩ : ∃ n, n = (u32S st).1 := ⟨_, rfl⟩
          have hn2 : n < 4294967296 := by rw [hn]; exact beNat_lt _
          have hnw : IntKind.i64.wrap (n : Int) = (n : Int) := by rw [IntKind.wrap_i64]; omega
          have HN := Lib.hid hn
          clear hn
          go_wp2_with fail
          refine (u32_rs b st _ HR.out).mono ?_
          rw [← HN.out]
          rintro e w3 ⟨rfl, hr3, hk3⟩
          have HR3 := Lib.hid hr3
          have HC3 := Lib.hid (HC.out.keep hk3 (fun e => hbc e.symm) (fun g hg _ e => by have := HVO.out g hg; omega))
          have HK3 : Hid (Kp0 w w3) := Lib.hid (HK.out.trans hk3 (fun _ _ h => h) (fun i hi (e : i = b) => by omega))
          clear hr3 hk3
          go_wp2_with fail
          refine (u32_cs _ _ lb st _ HC3.out hlb).mono ?_
          rw [← HN.out]
          rintro e wt ⟨rfl, hc4, hk4⟩
          obtain ⟨stt, hstt⟩ : ∃ stt, stt = (u32S st).2 := ⟨_, rfl⟩
          rw [← hstt] at HR3 hc4
          have HCT := Lib.hid hc4
          have HRT := Lib.hid (HR3.out.keep hk4 hbc)
          have HKT : Hid (Kp0 w wt) := Lib.hid (HK3.out.trans hk4 (fun _ _ h => h) (fun i hi (e : i = w2.heap.size) => by omega))
          clear hstt hc4 hk4
          go_wp2
          go_meet
          exact ⟨rfl, stt, HRT.out, HCT.out, HKT.out⟩
        by_cases n3 : q = 3
        · have hq0 : (q == 0) = false := by rw [beq_eq_false_iff_ne]; exact n0
          have hq1 : (q == 1) = false := by rw [beq_eq_false_iff_ne]; exact n1
          have hq2 : (q == 2) = false := by rw [beq_eq_false_iff_ne]; exact n2
          have hq3 : (q == 3) = true := by rw [beq_iff_eq]; exact n3
          clear n0 n1 n2 n3
          go_wp2_with fail
          refine (text_rs b st _ HR.out).mono ?_
          rintro e w3 ⟨t, rfl, ht, hr3, hk3⟩
          have HT := Lib.hid ht
          have HR3 := Lib.hid hr3
          have HC3 := Lib.hid (HC.out.keep hk3 (fun e => hbc e.symm) (fun g hg _ e => by have := HVO.out g hg; omega))
          have HK3 : Hid (Kp0 w w3) := Lib.hid (HK.out.trans hk3 (fun _ _ h => h) (fun i hi (e : i = b) => by omega))
          clear hr3 hk3 ht
          go_wp2_with fail
          refine (text_cs _ _ lb st _ HC3.out hlb).mono ?_
          rintro e wt ⟨t2, rfl, ht2, hc4, hk4⟩
          obtain rfl : t2 = t := str_ext (by rw [ht2, HT.out])
          obtain ⟨stt, hstt⟩ : ∃ stt, stt = (textS st).2 := ⟨_, rfl⟩
          rw [← hstt] at HR3 hc4
          have HCT := Lib.hid hc4
          have HRT := Lib.hid (HR3.out.keep hk4 hbc)
          have HKT : Hid (Kp0 w wt) := Lib.hid (HK3.out.trans hk4 (fun _ _ h => h) (fun i hi (e : i = w2.heap.size) => by omega))
          clear hstt hc4 hk4
          clear ht2
          go_wp2
          go_meet
          exact ⟨rfl, stt, HRT.out, HCT.out, HKT.out⟩
        by_cases n4 : q = 4
        · have hq0 : (q == 0) = false := by rw [beq_eq_false_iff_ne]; exact n0
          have hq1 : (q == 1) = false := by rw [beq_eq_false_iff_ne]; exact n1
          have hq2 : (q == 2) = false := by rw [beq_eq_false_iff_ne]; exact n2
          have hq3 : (q == 3) = false := by rw [beq_eq_false_iff_ne]; exact n3
          have hq4 : (q == 4) = true := by rw [beq_iff_eq]; exact n4
          clear n0 n1 n2 n3 n4
          go_wp2_with fail
          refine (names_rs b st _ HR.out (HG.out.keep HK.out (fun h => h)) (by omega)).mono ?_
          rintro e w3 ⟨v3, ls3, rfl, hd3, hl3, hr3, hk3, hf3⟩
          have HD3 := Lib.hid hd3
          have HL3 := Lib.hid hl3
          have HF3 := Lib.hid hf3
          have hs3 := HK.out.size
          have HCL := HC.out.1.elim (fun n h => h.elim (fun f h => blk_lt h.1))
          have HR3 := Lib.hid hr3
          have HC3 := Lib.hid (HC.out.keep hk3 (fun e => hbc e.symm) (fun g hg _ e => by have := HVO.out g hg; omega))
          have HK3 : Hid (Kp0 w w3) := Lib.hid (HK.out.trans hk3 (fun _ _ h => h) (fun i hi (e : i = b) => by omega))
          clear hr3 hk3 hd3 hl3 hf3
          go_wp2_with fail
          refine (names_cs _ _ lb st _ HC3.out hlb (fun g hg => by have := HVO.out g hg; have := HK3.out.size; omega)).mono ?_
          rintro e w4 ⟨v4, ls4, rfl, hd4, hl4, hc4, hk4, _⟩
          have HD4 := Lib.hid hd4
          have HLL : Hid (decide (lists ls3 = lists ls4) = true) := Lib.hid (by rw [decide_eq_true_iff, HL3.out, hl4])
          have HD3' := Lib.hid (HD3.out.keep hk4 (fun g hg _ (e : g = w2.heap.size) => by have := HF3.out g hg; omega))
          obtain ⟨stt, hstt⟩ : ∃ stt, stt = (namesS st).2 := ⟨_, rfl⟩
          rw [← hstt] at HR3 hc4
          have HCT0 := Lib.hid hc4
          have HRT0 := Lib.hid (HR3.out.keep hk4 hbc)
          have HKT0 : Hid (Kp0 w w4) := Lib.hid (HK3.out.trans hk4 (fun _ _ h => h) (fun i hi (e : i = w2.heap.size) => by omega))
          clear hstt hc4 hk4
          clear hd4 hl4
          go_wp2_with fail
          refine (texts_any _ _ ls3 ls4 _ HD3'.out HD4.out).mono ?_
          rw [HLL.out]
          rintro e wt ⟨rfl, hk5⟩
          have HCT := Lib.hid (HCT0.out.keep hk5 (fun h => h) (fun _ _ _ h => h))
          have HRT := Lib.hid (HRT0.out.keep hk5 (fun h => h))
          have HKT := Lib.hid (HKT0.out.tr hk5)
          clear hk5
          go_wp2
          go_meet
          exact ⟨rfl, stt, HRT.out, HCT.out, HKT.out⟩
        by_cases n5 : q = 5
        · have hq0 : (q == 0) = false := by rw [beq_eq_false_iff_ne]; exact n0
          have hq1 : (q == 1) = false := by rw [beq_eq_false_iff_ne]; exact n1
          have hq2 : (q == 2) = false := by rw [beq_eq_false_iff_ne]; exact n2
          have hq3 : (q == 3) = false := by rw [beq_eq_false_iff_ne]; exact n3
          have hq4 : (q == 4) = false := by rw [beq_eq_false_iff_ne]; exact n4
          have hq5 : (q == 5) = true := by rw [beq_iff_eq]; exact n5
          clear n0 n1 n2 n3 n4 n5
          have HCL := HC.out.1.elim (fun n h => h.elim (fun f h => blk_lt h.1))
          go_upto_region 23 with (fail)
          obtain ⟨sz, hsz⟩ : ∃ sz : ByteArray, sz = ⟨(intS st).1.toArray⟩ := ⟨_, rfl⟩
          have HSZ := Lib.hid hsz
          clear hsz
          refine wp_region_planS (fun _ : World => True) [(0, true), (3, true), (1, false), (2, true), (4, false), (5, true), (6, true), (7, true)] (by kernel_rfl) (by kernel_rfl) (by kernel_rfl) (by kernel_rfl) (fun _ d _ _ _ h => by cases d <;> exact h) trivial ?_
          simp only [List.map_cons, List.map_nil, List.getElem?_toArray, List.getElem?_cons_zero, List.getElem?_cons_succ, Option.getD_some]
          repeat (first
                  | (refine planS_quiet (v := ?_) (by rfl) (fun wq hwq => ?_) ?_; rotate_left 1; (focus (go_simp; try (with_reducible rfl); done)); simp only [Act.put, List.setIfInBounds_toArray, List.set_cons_zero, List.set_cons_succ])
                  | (refine planS_skip (by rfl) ?_; simp only [Act.put, List.setIfInBounds_toArray, List.set_cons_zero, List.set_cons_succ]))
          refine planS_eff (by rfl) (fun K hK => ?_)
          go_simp
          refine (int_rs b st wr.drew HR.out).mono ?_
          rintro e w3 ⟨v3, rfl, hd3, hr3, hk3, hf3⟩
          simp only []
          have HD3 := Lib.hid hd3
          have HF3 := Lib.hid hf3
          have HR3 := Lib.hid hr3
          have HC3 := Lib.hid (Cs.keep (w := wr.drew) HC.out hk3 (fun e => hbc e.symm) (fun g hg _ e => by have := HVO.out g hg; omega))
          have HK3 : Hid (Kp0 w w3) := Lib.hid (HK.out.drew.trans hk3 (fun _ _ h => h) (fun i hi (e : i = b) => by omega))
          clear hr3 hk3 hd3 hf3
          have hcv3 : ∀ w' : World, Kp (At w2.heap.size) w3 w' → (convert 22 9 v3).run Tryd.prog w' = .ok (.string sz) w' := fun w' hw => by
            rw [HSZ.out]
            exact run_string_of 22 5 9 Tryd.underlying22 Tryd.underlying5 Tryd.underlying9 (HD3.out.keep hw (fun g hg _ (e : g = w2.heap.size) => by have := HF3.out g hg; simp at this; omega))
          refine hK (fun w' : World => Kp (At w2.heap.size) w3 w') _ _ (fun _ _ => trivial) (Kp.refl _ _) ?_
          clear hK K
          repeat (first
                  | (refine planS_quiet (v := ?_) (by rfl) (fun wq hwq => ?_) ?_; rotate_left 1; (focus (go_simp; try (with_reducible rfl); done)); simp only [Act.put, List.setIfInBounds_toArray, List.set_cons_zero, List.set_cons_succ])
                  | (refine planS_skip (by rfl) ?_; simp only [Act.put, List.setIfInBounds_toArray, List.set_cons_zero, List.set_cons_succ]))
          refine planS_eff (by rfl) (fun K hK => ?_)
          go_simp
          refine (int_cs _ _ lb st w3 HC3.out hlb (fun g hg => by have := HVO.out g hg; have := HK3.out.size; omega)).mono ?_
          rintro e wt ⟨v4, rfl, hd4, hc4, hk4, _⟩
          simp only []
          have HD4 := Lib.hid hd4
          have HK4 := Lib.hid hk4
          obtain ⟨stt, hstt⟩ : ∃ stt, stt = (intS st).2 := ⟨_, rfl⟩
          rw [← hstt] at HR3 hc4
          have HCT := Lib.hid hc4
          have HRT := Lib.hid (HR3.out.keep hk4 hbc)
          have HKT : Hid (Kp0 w wt) := Lib.hid (HK3.out.trans hk4 (fun _ _ h => h) (fun i hi (e : i = w2.heap.size) => by omega))
          clear hstt hc4 hk4
          clear hd4
          have hcv4 : ∀ w' : World, Kp0 wt w' → (convert 22 9 v4).run Tryd.prog w' = .ok (.string sz) w' := fun w' hw => by
            rw [HSZ.out]
            exact run_string_of 22 5 9 Tryd.underlying22 Tryd.underlying5 Tryd.underlying9 (HD4.out.keep0 hw)
          refine hK (fun w' : World => Kp0 wt w') _ _ (fun x hx => HK4.out.tr (hx.nil _)) (Kp.refl _ _) ?_
          clear hK K hcv3
          repeat (first
                  | (refine planS_quiet (v := ?_) (by rfl) (fun wq hwq => ?_) ?_; rotate_left 1; (focus (go_simp; try (with_reducible rfl); done)); simp only [Act.put, List.setIfInBounds_toArray, List.set_cons_zero, List.set_cons_succ])
                  | (refine planS_skip (by rfl) ?_; simp only [Act.put, List.setIfInBounds_toArray, List.set_cons_zero, List.set_cons_succ]))
          refine planS_nil ?_
          clear hcv4
          go_wp2
          go_meet
          exact ⟨rfl, stt, HRT.out, HCT.out, HKT.out⟩
        have hq0 : (q == 0) = false := by rw [beq_eq_false_iff_ne]; exact n0
        have hq1 : (q == 1) = false := by rw [beq_eq_false_iff_ne]; exact n1
        have hq2 : (q == 2) = false := by rw [beq_eq_false_iff_ne]; exact n2
        have hq3 : (q == 3) = false := by rw [beq_eq_false_iff_ne]; exact n3
        have hq4 : (q == 4) = false := by rw [beq_eq_false_iff_ne]; exact n4
        have hq5 : (q == 5) = false := by rw [beq_eq_false_iff_ne]; exact n5
        clear n0 n1 n2 n3 n4 n5
        have HLN : Hid (∀ m : Int, (takeS st m).1.length ≤ 9223372036854775807) := Lib.hid (fun m => by have := takeS_len2 HC.out m; omega)
        have HCL := HC.out.1.elim (fun n h => h.elim (fun f h => blk_lt h.1))
        go_upto_region 11 with (fail)
        obtain ⟨sz, hsz⟩ : ∃ sz : ByteArray, sz = ⟨(takeS st (IntKind.i64.wrap (x.tdiv 7))).1.toArray⟩ := ⟨_, rfl⟩
        have HSZ := Lib.hid hsz
        clear hsz
        refine wp_region_planS (fun _ : World => True) [(0, true), (1, true), (2, true), (5, true), (6, true), (7, true), (3, false), (4, true), (8, false), (9, true), (10, true), (11, true)] (by kernel_rfl) (by kernel_rfl) (by kernel_rfl) (by kernel_rfl) (fun _ d _ _ _ h => by cases d <;> exact h) trivial ?_
        simp only [List.map_cons, List.map_nil, List.getElem?_toArray, List.getElem?_cons_zero, List.getElem?_cons_succ, Option.getD_some]
        repeat (first
                | (refine planS_quiet (v := ?_) (by rfl) (fun wq hwq => ?_) ?_; rotate_left 1; (focus (go_simp; try (with_reducible rfl); done)); simp only [Act.put, List.setIfInBounds_toArray, List.set_cons_zero, List.set_cons_succ])
                | (refine planS_skip (by rfl) ?_; simp only [Act.put, List.setIfInBounds_toArray, List.set_cons_zero, List.set_cons_succ]))
        refine planS_eff (by rfl) (fun K hK => ?_)
        go_simp
        refine (bytes_rs b _ st wr.drew HR.out (HLN.out _)).mono ?_
        rintro e w3 ⟨v3, rfl, hd3, hr3, hk3, hf3⟩
        simp only []
        have HD3 := Lib.hid hd3
        have HF3 := Lib.hid hf3
        have HR3 := Lib.hid hr3
        have HC3 := Lib.hid (Cs.keep (w := wr.drew) HC.out hk3 (fun e => hbc e.symm) (fun g hg _ e => by have := HVO.out g hg; omega))
        have HK3 : Hid (Kp0 w w3) := Lib.hid (HK.out.drew.trans hk3 (fun _ _ h => h) (fun i hi (e : i = b) => by omega))
        clear hr3 hk3 hd3 hf3
        have hcv3 : ∀ w' : World, Kp (At w2.heap.size) w3 w' → (convert 22 9 v3).run Tryd.prog w' = .ok (.string sz) w' := fun w' hw => by
          rw [HSZ.out]
          exact run_string_of 22 5 9 Tryd.underlying22 Tryd.underlying5 Tryd.underlying9 (HD3.out.keep hw (fun g hg _ (e : g = w2.heap.size) => by have := HF3.out g hg; simp at this; omega))
        refine hK (fun w' : World => Kp (At w2.heap.size) w3 w') _ _ (fun _ _ => trivial) (Kp.refl _ _) ?_
        clear hK K
        repeat (first
                | (refine planS_quiet (v := ?_) (by rfl) (fun wq hwq => ?_) ?_; rotate_left 1; (focus (go_simp; try (with_reducible rfl); done)); simp only [Act.put, List.setIfInBounds_toArray, List.set_cons_zero, List.set_cons_succ])
                | (refine planS_skip (by rfl) ?_; simp only [Act.put, List.setIfInBounds_toArray, List.set_cons_zero, List.set_cons_succ]))
        refine planS_eff (by rfl) (fun K hK => ?_)
        go_simp
        refine (take_cs _ _ lb _ st w3 HC3.out hlb).mono ?_
        rintro e wt ⟨v4, rfl, hd4, hc4, hk4, _⟩
        simp only []
        have HD4 := Lib.hid hd4
        have HK4 := Lib.hid hk4
        obtain ⟨stt, hstt⟩ : ∃ stt, stt = (takeS st (IntKind.i64.wrap (x.tdiv 7))).2 := ⟨_, rfl⟩
        rw [← hstt] at HR3 hc4
        have HCT := Lib.hid hc4
        have HRT := Lib.hid (HR3.out.keep hk4 hbc)
        have HKT : Hid (Kp0 w wt) := Lib.hid (HK3.out.trans hk4 (fun _ _ h => h) (fun i hi (e : i = w2.heap.size) => by omega))
        clear hstt hc4 hk4
        clear hd4
        have hcv4 : ∀ w' : World, Kp0 wt w' → (convert 22 9 v4).run Tryd.prog w' = .ok (.string sz) w' := fun w' hw => by
          rw [HSZ.out]
          exact run_string_of 22 5 9 Tryd.underlying22 Tryd.underlying5 Tryd.underlying9 (HD4.out.keep0 hw)
        refine hK (fun w' : World => Kp0 wt w') _ _ (fun x hx => HK4.out.tr (hx.nil _)) (Kp.refl _ _) ?_
        clear hK K hcv3
        repeat (first
                | (refine planS_quiet (v := ?_) (by rfl) (fun wq hwq => ?_) ?_; rotate_left 1; (focus (go_simp; try (with_reducible rfl); done)); simp only [Act.put, List.setIfInBounds_toArray, List.set_cons_zero, List.set_cons_succ])
                | (refine planS_skip (by rfl) ?_; simp only [Act.put, List.setIfInBounds_toArray, List.set_cons_zero, List.set_cons_succ]))
        refine planS_nil ?_
        clear hcv4
        go_wp2
        go_meet
        exact ⟨rfl, stt, HRT.out, HCT.out, HKT.out⟩
      case rest =>
        obtain ⟨rfl, stt, hrt, hct, hkt⟩ := hcut
        have HRT := Lib.hid hrt
        have HCT := Lib.hid hct
        have HKT := Lib.hid hkt
        clear hrt hct hkt
        obtain ⟨wt, hwt⟩ : ∃ wt : World, wt = wc := ⟨_, rfl⟩
        rw [← hwt] at HRT HCT HKT
        rw [← hwt]
        clear hwt
        have hbad := HCT.out.bad
        have HBD := Lib.hid hbad
        have hsb : (stt.isSome == !stt.isSome) = false := by cases stt.isSome <;> rfl
        obtain ⟨sm, hsm⟩ : ∃ sm, sm = stt.isSome := ⟨_, rfl⟩
        rw [← hsm] at hbad hsb HBD
        have HSM := Lib.hid hsm
        clear hsm
        go_upto_region 24 with (fail)
        have g2 : ∀ w' : World, w'.cell? ⟨w2.heap.size, 2, none⟩ = some (.bool (!sm)) → w'.cell? ⟨w2.heap.size, 2, none⟩ = some (.bool (!sm)) := fun w' h => h
        refine wp_region_planS (fun w' : World => w'.cell? ⟨w2.heap.size, 2, none⟩ = some (.bool (!sm))) [(0, true), (1, true), (2, true), (3, true), (5, true), (6, true), (7, true), (8, true), (4, false), (9, true), (10, true), (11, true), (12, true), (14, true), (13, false), (15, false), (16, true), (17, true)] (by kernel_rfl) (by kernel_rfl) (by kernel_rfl) (by kernel_rfl) (fun _ d _ _ _ h => by cases d <;> exact h) HBD.out ?_
        simp only [List.map_cons, List.map_nil, List.getElem?_toArray, List.getElem?_cons_zero, List.getElem?_cons_succ, Option.getD_some]
        repeat (first
                | (refine planS_quiet (v := ?_) (by rfl) (fun wq hwq => ?_) ?_; rotate_left 1; (focus (go_simp; try (with_reducible rfl); done)); simp only [Act.put, List.setIfInBounds_toArray, List.set_cons_zero, List.set_cons_succ])
                | (refine planS_skip (by rfl) ?_; simp only [Act.put, List.setIfInBounds_toArray, List.set_cons_zero, List.set_cons_succ]))
        refine planS_eff (by rfl) (fun K hK => ?_)
        go_simp
        refine (ok_rs b _ wt.drew HRT.out).mono ?_
        rw [← HSM.out]
        rintro e w5 ⟨rfl, rfl⟩
        simp only []
        refine hK (fun w' : World => w'.cell? ⟨w2.heap.size, 2, none⟩ = some (.bool (!sm))) _ _ (fun x h => h) HBD.out ?_
        clear hK K
        repeat (first
                | (refine planS_quiet (v := ?_) (by rfl) (fun wq hwq => ?_) ?_; rotate_left 1; (focus (go_simp; try (with_reducible rfl); done)); simp only [Act.put, List.setIfInBounds_toArray, List.set_cons_zero, List.set_cons_succ])
                | (refine planS_skip (by rfl) ?_; simp only [Act.put, List.setIfInBounds_toArray, List.set_cons_zero, List.set_cons_succ]))
        refine planS_eff (by rfl) (fun K hK => ?_)
        go_simp
        refine (end_rs b _ wt.drew HRT.out).mono ?_
        rintro e w5 ⟨rfl, rfl⟩
        simp only []
        refine hK (fun w' : World => w'.cell? ⟨w2.heap.size, 2, none⟩ = some (.bool (!sm))) _ _ (fun x h => h) HBD.out ?_
        clear hK K
        refine planS_eff (by rfl) (fun K hK => ?_)
        go_simp
        refine (end_cs _ _ lb _ wt.drew HCT.out hlb).mono ?_
        rintro e w6 ⟨rfl, hk6⟩
        simp only []
        have HK6 := Lib.hid hk6
        refine hK (fun w' : World => w'.cell? ⟨w2.heap.size, 2, none⟩ = some (.bool (!sm))) _ _ (fun x h => h) (HK6.out.cell (p := ⟨w2.heap.size, 2, none⟩) HBD.out (fun h => h)) ?_
        clear hK K hk6
        repeat (first
                | (refine planS_quiet (v := ?_) (by rfl) (fun wq hwq => ?_) ?_; rotate_left 1; (focus (go_simp; try (with_reducible rfl); done)); simp only [Act.put, List.setIfInBounds_toArray, List.set_cons_zero, List.set_cons_succ])
                | (refine planS_skip (by rfl) ?_; simp only [Act.put, List.setIfInBounds_toArray, List.set_cons_zero, List.set_cons_succ]))
        refine planS_nil ?_
        clear g2 hbad
        go_wp2
        go_roundg (lk.length - (k + 1))
        case rel => exact ⟨k + 1, stt, by go_num, by omega, rfl, Rs.keep (w := wt.drew) HRT.out HK6.out (fun h => h), Cs.keep (w := wt.drew) HCT.out HK6.out (fun h => h) (fun _ _ _ h => h), HKT.out.drew.tr HK6.out⟩
        case measure => omega
    · go_wp2
      go_ret
      exact ⟨rfl, HK.out⟩
end Go.Proofs.YtigghfbochemgaaDoor
