/- Package sieve: a node of what is chosen of its own nodes. -/
import Derived.Test.YtmamcnhofgfolaaTrU
namespace Go.Proofs.Ytmamcnhofgfolaa
open Go Go.RowKit
set_option maxRecDepth 20000 in
set_option maxHeartbeats 4000000 in
theorem within_any {F G H : Nat → Prop} (lv : Nat) (hlv : 0 < lv) (hlv2 : lv ≤ 1000) (hch : ChooseP (lv - 1)) (d : PD) (n : PN) (es : List PE) (da db dc kv ev : Value) (w : World) (hd : DfR F w d da db dc) (hn : RowN G w kv n.ks) (he : RowE H w ev es) (hok : kOk n = true) (hc : cntEs es ≤ 1000000) :
    Calls Try.prog 35 #[DefA d da db dc, NodA n kv, ev, .int .i64 lv] w fun e w' => ChA w w' e (wiT (fun k => chT (lv - 1) d.ks k es) (wholeT (lv - 1)) d n) ∧ Kp0 w w' := by
  have HD := Lib.hid hd
  have HN := Lib.hid hn
  have HE := Lib.hid he
  have HOK := Lib.hid (kOk_ks hok)
  have HC := Lib.hid hc
  have HCH := Lib.hid hch
  have HLV := Lib.hid (And.intro hlv hlv2)
  obtain ⟨no, nc, rfl, _, _, _⟩ := hn.shape
  clear hd hn he hok hc hch hlv hlv2
  unfold DefA NodA
  go_enter Try.func35, Try.ntmps35
  obtain ⟨m, hm⟩ : ∃ x, x = n.ks.length := ⟨_, rfl⟩
  rw [← hm]
  have HM := Lib.hid hm
  clear hm
  go_upto_region 1 with (refine wl_alloc_as asNd rfl rfl ?_
                         intro w2 g8 hw hg
                         have HB : Hid (Bks w w2 [(w.heap.size, 35, dvl d da db dc), (w.heap.size + 1, 40, nvl n (.slice no m nc)), (g8, 40, nd0)]) := Lib.hid (by
                           rw [hw]
                           exact (((Bks.nil w).push 35 (dvl d da db dc) rfl).push 40 (nvl n (.slice no m nc)) (g := w.heap.size + 1) (by simp)).push 40 nd0 (g := g8) hg)
                         have HG8 : Hid (w.heap.size + 1 < g8 ∧ g8 < w2.heap.size) := Lib.hid (by rw [hw, hg]; simp)
                         clear hw hg)
  try simp only [Act.put]
  try simp only [List.setIfInBounds_toArray, List.set_cons_zero, List.set_cons_succ]
  obtain ⟨g5, hg5⟩ : ∃ x, x = w.heap.size + 1 := ⟨_, rfl⟩
  obtain ⟨g4, hg4⟩ : ∃ x, x = w.heap.size := ⟨_, rfl⟩
  rw [← hg5, ← hg4] at HB
  rw [← hg5] at HG8
  rw [← hg5, ← hg4]
  have HG : Hid (g4 = w.heap.size ∧ g5 = g4 + 1) := Lib.hid (by omega)
  clear hg5 hg4
  have n0 := (HB.out.at 1 rfl).cellV 0 (v := .string (S n.nm)) rfl
  have n1 := (HB.out.at 1 rfl).cellV 1 (v := .string (S n.vl)) rfl
  go_upto_region 2 with (first
    | (refine wl_alloc_as asNd rfl rfl ?_
       intro w3 g10 hw hg
       have HB10 : Hid (Blk w3 g10 40 nd0) := Lib.hid (by rw [hw, hg]; exact blk0 _ _ _)
       have HK3 : Hid (Kp0 w2 w3) := Lib.hid (by rw [hw]; exact (Kp.refl _ _).alloc _)
       have HG10 : Hid (w2.heap.size ≤ g10 ∧ g10 < w3.heap.size) := Lib.hid (by rw [hw, hg]; simp)
       clear hw hg)
    | (refine wl_store_blk rfl 40 (.tmp 10) (.tmp 20) rfl g10 _ nd0 (nvl (.mk n.nm n.vl []) (.slice none 0 0)) rfl rfl HB10.out infoNd rfl (by intro u hu; simp only [nvl, List.mem_cons, List.not_mem_nil, or_false] at hu; rcases hu with rfl | rfl | rfl <;> rfl) ?_
       intro w4 hA hk4
       have HB6 := Lib.hid hA
       have HK4 : Hid (Kp0 w2 w4) := Lib.hid (HK3.out.trans hk4 (fun _ _ h => h) (fun i hi e => by have := HG10.out.1; omega))
       clear hA hk4))
  try simp only [Act.put]
  try simp only [List.setIfInBounds_toArray, List.set_cons_zero, List.set_cons_succ]
  have HK := Lib.hid (HB.out.kp.tr HK4.out)
  have HB4 := Lib.hid ((HB.out.at 0 rfl).kp0 HK4.out)
  have HB5 := Lib.hid ((HB.out.at 1 rfl).kp0 HK4.out)
  have HB8 := Lib.hid ((HB.out.at 2 rfl).kp0 HK4.out)
  have HB10 : Hid (Blk w4 g10 40 [.string (S n.nm), .string (S n.vl), .slice none 0 0]) := Lib.hid HB6.out
  have HG : Hid (g4 = w.heap.size ∧ g4 < g5 ∧ g5 < g8 ∧ g8 < g10 ∧ g10 < w4.heap.size) := Lib.hid (by have := HG.out; have := HG8.out; have := HG10.out; have := HB6.out.lt; omega)
  clear HB HK3 HK4 HB6 HG8 HG10 n0 n1
  have n2 := HB5.out.cellV 2 (v := .slice no m nc) rfl
  go_wp2
  clear n2
  go_loopg [11, 24] m (fun gg fo i wr => ∃ (k : Nat) (kvp : Value), i = .int .i64 k ∧ fo = .bool ((n.ks.take k).any fun x => (chT (lv - 1) d.ks x es).isSome) ∧ k ≤ m ∧ gg = m - k ∧ Hid (AccS w4.heap.size wr kvp ((n.ks.take k).filterMap (wiK (fun x => chT (lv - 1) d.ks x es) (wholeT (lv - 1)) d))) ∧ Hid (Blk wr g4 35 (dvl d da db dc)) ∧ Hid (Blk wr g5 40 (nvl n (.slice no m nc))) ∧ Hid (Blk wr g8 40 nd0) ∧ Hid (Blk wr g10 40 [.string (S n.nm), .string (S n.vl), kvp]) ∧ Kp (fun b => b = g10) w4 wr)
  case atStart => exact ⟨0, .slice none 0 0, rfl, rfl, Nat.zero_le _, rfl, Lib.hid (AccF.nil _ _), HB4, HB5, HB8, HB10, Kp.refl _ _⟩
  case round =>
    clear HB4 HB5 HB8 HB10
    obtain ⟨k, kvp, rfl, rfl, hk, rfl, HA, HB4, HB5, HB8, HB10, hkp⟩ := hrel
    have HKR := Lib.hid hkp
    clear hkp
    have HKW : Hid (Kp0 w wr) := Lib.hid (HK.out.trans HKR.out (fun _ _ h => h) (fun i hi e => by have := HG.out; omega))
    by_cases h : k < m
    · have i1 : (k : Int) < (m : Int) := by omega
      have h' : k < n.ks.length := by have := HM.out; omega
      obtain ⟨b1, o1, d1, kv1, e1, _, _, D0, D1, D2, hkv, _⟩ := (HN.out.kp0 HKW.out).at k h'
      have hm := HM.out
      rw [← hm] at e1
      simp only [Value.slice.injEq] at e1
      obtain ⟨rfl, _, rfl⟩ := e1
      have HKV := Lib.hid hkv
      have HXO := Lib.hid (ksOk_mem HOK.out.2 (List.getElem_mem h'))
      have HTK : Hid ((n.ks.take (k + 1)).filterMap (wiK (fun x => chT (lv - 1) d.ks x es) (wholeT (lv - 1)) d) = (n.ks.take k).filterMap (wiK (fun x => chT (lv - 1) d.ks x es) (wholeT (lv - 1)) d) ++ (wiK (fun x => chT (lv - 1) d.ks x es) (wholeT (lv - 1)) d (n.ks[k]'h')).toList) := Lib.hid (by rw [List.take_succ_eq_append_getElem h', List.filterMap_append]; cases hz : wiK (fun x => chT (lv - 1) d.ks x es) (wholeT (lv - 1)) d (n.ks[k]'h') <;> simp [List.filterMap, hz])
      have HTA : Hid ((n.ks.take (k + 1)).any (fun x => (chT (lv - 1) d.ks x es).isSome) = ((n.ks.take k).any (fun x => (chT (lv - 1) d.ks x es).isSome) || (chT (lv - 1) d.ks (n.ks[k]'h') es).isSome)) := Lib.hid (by rw [List.take_succ_eq_append_getElem h', List.any_append]; simp)
      clear hkv hm
      have HLM : Hid (((n.ks.take k).filterMap (wiK (fun x => chT (lv - 1) d.ks x es) (wholeT (lv - 1)) d)).length ≤ 1000000) := Lib.hid (by
        have h1 := List.length_filterMap_le (wiK (fun x => chT (lv - 1) d.ks x es) (wholeT (lv - 1)) d) (n.ks.take k)
        rw [List.length_take] at h1
        have := HOK.out.1
        omega)
      generalize n.ks[k]'h' = x at D0 D1 D2 HKV HXO HTK HTA
      generalize hfo : (n.ks.take k).any (fun x => (chT (lv - 1) d.ks x es).isSome) = fo at HTA ⊢
      generalize (n.ks.take k).filterMap (wiK (fun x => chT (lv - 1) d.ks x es) (wholeT (lv - 1)) d) = out at HA HTK HLM
      clear hfo
      go_upto_region 5 with (first
        | (refine wl_alloc_as asNd rfl rfl ?_
           intro w5 g13 hw hg
           have HB13 : Hid (Blk w5 g13 40 nd0) := Lib.hid (by rw [hw, hg]; exact blk0 _ _ _)
           have HK5 : Hid (Kp0 wr w5) := Lib.hid (by rw [hw]; exact (Kp.refl _ _).alloc _)
           have HG13 : Hid (wr.heap.size ≤ g13 ∧ g13 < w5.heap.size) := Lib.hid (by rw [hw, hg]; simp)
           clear hw hg)
        | (refine wl_store_blk rfl 40 (.tmp 13) (.tmp 27) rfl g13 _ nd0 (nvl x kv1) rfl rfl HB13.out infoNd rfl HKV.out.onesN ?_
           intro w6 hA hk6
           have HB13 := Lib.hid hA
           have HK6 : Hid (Kp0 wr w6) := Lib.hid (HK5.out.trans hk6 (fun _ _ h => h) (fun i hi e => by have := HG13.out.1; omega))
           clear hA hk6))
      try simp only [Act.put]
      try simp only [List.setIfInBounds_toArray, List.set_cons_zero, List.set_cons_succ]
      have HB4 := Lib.hid (HB4.out.kp0 HK6.out)
      have HB5 := Lib.hid (HB5.out.kp0 HK6.out)
      have HB8 := Lib.hid (HB8.out.kp0 HK6.out)
      have HB10 := Lib.hid (HB10.out.kp0 HK6.out)
      have HA := Lib.hid (HA.out.kp0 HK6.out)
      have HKV := Lib.hid (HKV.out.kp0 HK6.out)
      have HKR := Lib.hid (HKR.out.tr (HK6.out.nil _))
      have HKW := Lib.hid (HKW.out.tr HK6.out)
      clear HK5 HK6 HG13 D0 D1 D2
      have q6 := HB4.out.cellV 6 (v := dc) rfl
      have x0 := HB13.out.cellV 0 (v := .string (S x.nm)) rfl
      have x1 := HB13.out.cellV 1 (v := .string (S x.vl)) rfl
      have x2 := HB13.out.cellV 2 (v := kv1) rfl
      have f2 : IntKind.i64.wrap ((lv : Int) - 1) = ((lv - 1 : Nat) : Int) := by have := HLV.out; rw [IntKind.wrap_i64]; omega
      have HS6 : Hid (w4.heap.size ≤ w6.heap.size) := Lib.hid HKR.out.size
      cases hco : chT (lv - 1) d.ks x es with
      | some y =>
        have HCO := Lib.hid hco
        have HTK : Hid ((n.ks.take (k + 1)).filterMap (wiK (fun x => chT (lv - 1) d.ks x es) (wholeT (lv - 1)) d) = out ++ [y]) := Lib.hid (by rw [HTK.out]; unfold wiK; simp only [hco]; rfl)
        have HTB : Hid ((n.ks.take (k + 1)).any (fun x => (chT (lv - 1) d.ks x es).isSome) = true) := Lib.hid (by rw [HTA.out, hco]; simp)
        clear hco
        go_upto_region 6 with (first
          | (go_at_call 21
             refine (HCH.out (by have := HLV.out; omega) _ _ _ d.ks x es dc kv1 ev _ (HD.out.ks.kp0 HKW.out) HKV.out (HE.out.kp0 HKW.out) HXO.out HC.out).mono ?_
             rw [HCO.out]
             rintro r w7 ⟨⟨kv2, rfl, hr2⟩, hk7⟩
             have HRY := Lib.hid hr2
             have HK7 := Lib.hid hk7
             clear hr2 hk7
             unfold NodA)
          | (refine wl_alloc_as asNd rfl rfl ?_
             intro w8 g14 hw hg
             have HB14 : Hid (Blk w8 g14 40 nd0) := Lib.hid (by rw [hw, hg]; exact blk0 _ _ _)
             have HK8 : Hid (Kp0 w7 w8) := Lib.hid (by rw [hw]; exact (Kp.refl _ _).alloc _)
             have HG14 : Hid (w7.heap.size ≤ g14 ∧ g14 < w8.heap.size) := Lib.hid (by rw [hw, hg]; simp)
             clear hw hg)
          | (refine wl_store_blk rfl 40 (.tmp 14) (.tmp 36) rfl g14 _ nd0 (nvl y kv2) rfl rfl HB14.out infoNd rfl HRY.out.onesN ?_
             intro w9 hA hk9
             have HB14 := Lib.hid hA
             have HK9 : Hid (Kp0 w6 w9) := Lib.hid (HK7.out.tr (HK8.out.trans hk9 (fun _ _ h => h) (fun i hi e => by have := HG14.out.1; omega)))
             have HK79 : Hid (Kp0 w7 w9) := Lib.hid (HK8.out.trans hk9 (fun _ _ h => h) (fun i hi e => by have := HG14.out.1; omega))
             clear hA hk9))
        try simp only [Act.put]
        try simp only [List.setIfInBounds_toArray, List.set_cons_zero, List.set_cons_succ]
        have HB4 := Lib.hid (HB4.out.kp0 HK9.out)
        have HB5 := Lib.hid (HB5.out.kp0 HK9.out)
        have HB8 := Lib.hid (HB8.out.kp0 HK9.out)
        have HB10 := Lib.hid (HB10.out.kp0 HK9.out)
        have HB13 := Lib.hid (HB13.out.kp0 HK9.out)
        have HLT := Lib.hid HA.out.lt.1
        have HA6 := HA
        have HK69 := HK9
        have HA := Lib.hid (HA.out.kp0 HK9.out)
        have HKV := Lib.hid (HKV.out.kp0 HK9.out)
        have HKR6 := HKR
        have HKR := Lib.hid (HKR.out.tr (HK9.out.nil _))
        have HG14B := Lib.hid HB14.out.lt
        have HKW := Lib.hid (HKW.out.tr HK9.out)
        have HS9 : Hid (w4.heap.size ≤ w6.heap.size ∧ w6.heap.size ≤ w9.heap.size) := Lib.hid ⟨HS6.out, HK9.out.size⟩
        have HG14 : Hid (w6.heap.size ≤ g14) := Lib.hid (by have := HG14.out.1; have := HK7.out.size; omega)
        have HRY := Lib.hid (HRY.out.kp0 HK79.out)
        clear HK7 HK8 HK79 HK9 q6 x0 x1 x2
        cases fo
        all_goals
          go_upto_region 10 with (fail)
          obtain ⟨WX, hWX⟩ : ∃ x, x = w9 := ⟨_, rfl⟩
          subst hWX
          have HQ : Hid (∀ o, AccF w4.heap.size (WX.alloc o) kvp (.slice none 0 0) out []) := Lib.hid (fun o => HA.out.kp0 ((Kp.refl _ _).alloc o))
          have HMD := Lib.hid (RdF.made (T := 40) (k := 3) (cs := nvl y kv2) WX rfl)
          have HON : Hid (Ones (nvl y kv2)) := Lib.hid HRY.out.onesN
          have p2 := HB10.out.cellV 2 (v := kvp) rfl
          have z0 := HB14.out.cellV 0 (v := .string (S y.nm)) rfl
          have z1 := HB14.out.cellV 1 (v := .string (S y.vl)) rfl
          have z2 := HB14.out.cellV 2 (v := kv2) rfl
          go_upto_region 11 with (at_builtin
                                  obtain ⟨us, vs, hq1, hq2, hq3, hq4, hq5⟩ := HQ.out (.cells (nvl y kv2).toArray 40)
                                  refine wl_append_rk rfl (.tmp 62) (.tmp 64) 24 rfl Try.underlying24 infoN rfl (by decide) rfl hq1 rfl HMD.out HON.out (by have := HLM.out; unfold maxLen; omega) (by have := HLM.out; omega) (by have := HS9.out; simp; omega) ?_
                                  intro v2 x3 ho2 hk3 hb3
                                  obtain ⟨a2, c2, rfl, _, _⟩ := ownK_sl ho2
                                  have HA3 := Lib.hid (AccF.more hq1 hq2 hq3 hq4 hq5 (HRY.out.kp0 ((Kp.refl _ _).alloc _)) (fun i hi hl => ⟨by have := HS9.out; omega, fun e => by have := (HLT.out i e).2; omega, fun e => by cases e⟩) hk3 hb3 ho2).1
                                  have HB4 := Lib.hid ((HB4.out.kp0 ((Kp.refl _ _).alloc _)).keep hk3 (fun e => by have := (HLT.out _ e).1; have := HG.out; omega))
                                  have HB5 := Lib.hid ((HB5.out.kp0 ((Kp.refl _ _).alloc _)).keep hk3 (fun e => by have := (HLT.out _ e).1; have := HG.out; omega))
                                  have HB8 := Lib.hid ((HB8.out.kp0 ((Kp.refl _ _).alloc _)).keep hk3 (fun e => by have := (HLT.out _ e).1; have := HG.out; omega))
                                  have HB10 := Lib.hid ((HB10.out.kp0 ((Kp.refl _ _).alloc _)).keep hk3 (fun e => by have := (HLT.out _ e).1; have := HG.out; omega))
                                  have HKR : Hid (Kp (fun b => b = g10) w4 x3) := Lib.hid (HKR.out.trans ((((Kp.refl (fun _ => False) _).alloc _).nil _).tr hk3) (fun _ _ h => h) (fun i hi e => by have := (HLT.out i e).1; omega))
                                  have hd := HB10.out.cellV 2 (v := kvp) rfl
                                  have hdf := blk_frozen HB10.out 2
                                  clear hq1 hq2 hq3 hq4 hq5 ho2 hk3 hb3)
          clear hd hdf
          have HS : Hid (Kp (fun b => b = g10) x3 (x3.setCell ⟨g10, 2, none⟩ (.slice a2 (out.length + 1) c2))) := Lib.hid (Kp.setCell (S := fun b => b = g10) (Kp.refl _ _) (p := ⟨g10, 2, none⟩) (fun _ => rfl) _)
          have HB10 := Lib.hid (HB10.out.set' 2 (.slice a2 (out.length + 1) c2))
          generalize x3.setCell ⟨g10, 2, none⟩ (.slice a2 (out.length + 1) c2) = x4 at HS HB10 ⊢
          go_wp2
          go_roundg (m - (k + 1))
          case measure => omega
          case rel =>
            refine ⟨k + 1, .slice a2 (out.length + 1) c2, by go_num, by rw [HTB.out], by omega, rfl, ?_, ?_, ?_, ?_, HB10, HKR.out.tr HS.out⟩
            · rw [HTK.out]
              exact Lib.hid (HA3.out.keep HS.out (fun i hi _ e => by have := HG.out; omega))
            · exact Lib.hid (HB4.out.keep HS.out (fun e => by have := HG.out; omega))
            · exact Lib.hid (HB5.out.keep HS.out (fun e => by have := HG.out; omega))
            · exact Lib.hid (HB8.out.keep HS.out (fun e => by have := HG.out; omega))
      | none =>
        have HCO := Lib.hid hco
        have HTB : Hid ((n.ks.take (k + 1)).any (fun x => (chT (lv - 1) d.ks x es).isSome) = fo) := Lib.hid (by rw [HTA.out, hco]; simp)
        have HTK : Hid ((n.ks.take (k + 1)).filterMap (wiK (fun x => chT (lv - 1) d.ks x es) (wholeT (lv - 1)) d) = out ++ (if d.kd == 2 && hasT d.ky x.nm then some (wholeT (lv - 1) x) else none).toList) := Lib.hid (by rw [HTK.out]; unfold wiK; simp only [hco])
        clear hco
        go_upto_region 6 with (first
          | (go_at_call 21
             refine (HCH.out (by have := HLV.out; omega) _ _ _ d.ks x es dc kv1 ev _ (HD.out.ks.kp0 HKW.out) HKV.out (HE.out.kp0 HKW.out) HXO.out HC.out).mono ?_
             rw [HCO.out]
             rintro r w7 ⟨rfl, hk7⟩
             have HK7 := Lib.hid hk7
             clear hk7
             unfold NodA)
          | (refine wl_alloc_as asNd rfl rfl ?_
             intro w8 g14 hw hg
             have HB14 : Hid (Blk w8 g14 40 nd0) := Lib.hid (by rw [hw, hg]; exact blk0 _ _ _)
             have HK8 : Hid (Kp0 w7 w8) := Lib.hid (by rw [hw]; exact (Kp.refl _ _).alloc _)
             have HG14 : Hid (w7.heap.size ≤ g14 ∧ g14 < w8.heap.size) := Lib.hid (by rw [hw, hg]; simp)
             clear hw hg)
          | (refine wl_store_blk rfl 40 (.tmp 14) (.tmp 36) rfl g14 _ nd0 (nvl (.mk [] [] []) (.slice none 0 0)) rfl rfl HB14.out infoNd rfl (RowN.nil (fun _ => False) w7).onesN ?_
             intro w9 hA hk9
             have HB14 := Lib.hid hA
             have HK9 : Hid (Kp0 w6 w9) := Lib.hid (HK7.out.tr (HK8.out.trans hk9 (fun _ _ h => h) (fun i hi e => by have := HG14.out.1; omega)))
             have HK79 : Hid (Kp0 w7 w9) := Lib.hid (HK8.out.trans hk9 (fun _ _ h => h) (fun i hi e => by have := HG14.out.1; omega))
             clear hA hk9))
        try simp only [Act.put]
        try simp only [List.setIfInBounds_toArray, List.set_cons_zero, List.set_cons_succ]
        have HB4 := Lib.hid (HB4.out.kp0 HK9.out)
        have HB5 := Lib.hid (HB5.out.kp0 HK9.out)
        have HB8 := Lib.hid (HB8.out.kp0 HK9.out)
        have HB10 := Lib.hid (HB10.out.kp0 HK9.out)
        have HB13 := Lib.hid (HB13.out.kp0 HK9.out)
        have HLT := Lib.hid HA.out.lt.1
        have HA6 := HA
        have HK69 := HK9
        have HA := Lib.hid (HA.out.kp0 HK9.out)
        have HKV := Lib.hid (HKV.out.kp0 HK9.out)
        have HKR6 := HKR
        have HKR := Lib.hid (HKR.out.tr (HK9.out.nil _))
        have HG14B := Lib.hid HB14.out.lt
        have HKW := Lib.hid (HKW.out.tr HK9.out)
        have HS9 : Hid (w4.heap.size ≤ w6.heap.size ∧ w6.heap.size ≤ w9.heap.size) := Lib.hid ⟨HS6.out, HK9.out.size⟩
        have HG14 : Hid (w6.heap.size ≤ g14) := Lib.hid (by have := HG14.out.1; have := HK7.out.size; omega)
        clear HK7 HK8 HK79 HK9 q6 x0 x1 x2
        cases hkd : (d.kd == 2)
        · have HTK : Hid ((n.ks.take (k + 1)).filterMap (wiK (fun x => chT (lv - 1) d.ks x es) (wholeT (lv - 1)) d) = out) := Lib.hid (by rw [HTK.out, hkd]; simp)
          have t1 := HB4.out.cellV 1 (v := .int .i64 d.kd) rfl
          cases fo
          all_goals
            go_wp2
            go_roundg (m - (k + 1))
            case measure => omega
            case rel => exact ⟨k + 1, kvp, by go_num, by rw [HTB.out], by omega, rfl, Lib.hid (by rw [HTK.out]; exact HA.out), HB4, HB5, HB8, HB10, HKR.out⟩
        · have t1 := HB4.out.cellV 1 (v := .int .i64 d.kd) rfl
          have t5 := HB4.out.cellV 5 (v := db) rfl
          have t0 := HB13.out.cellV 0 (v := .string (S x.nm)) rfl
          cases hht : hasT d.ky x.nm with
          | false =>
            have HTK : Hid ((n.ks.take (k + 1)).filterMap (wiK (fun x => chT (lv - 1) d.ks x es) (wholeT (lv - 1)) d) = out) := Lib.hid (by rw [HTK.out, hkd, hht]; simp)
            have HHT := Lib.hid hht
            clear hht
            cases fo
            all_goals
              go_wp2_with (go_at_call 47; refine (containsT_any d.ky db x.nm _ (HD.out.ky.kp0 HKW.out)).mono ?_; rw [HHT.out]; rintro r wc ⟨rfl, hkc⟩; have HKC := Lib.hid hkc; clear hkc)
              go_roundg (m - (k + 1))
              case measure => omega
              case rel => exact ⟨k + 1, kvp, by go_num, by rw [HTB.out], by omega, rfl, Lib.hid (by rw [HTK.out]; exact HA.out.kp0 HKC.out), Lib.hid (HB4.out.kp0 HKC.out), Lib.hid (HB5.out.kp0 HKC.out), Lib.hid (HB8.out.kp0 HKC.out), Lib.hid (HB10.out.kp0 HKC.out), HKR.out.tr (HKC.out.nil _)⟩
          | true =>
            obtain ⟨y, hy⟩ : ∃ y, y = wholeT (lv - 1) x := ⟨_, rfl⟩
            have HTK : Hid ((n.ks.take (k + 1)).filterMap (wiK (fun x => chT (lv - 1) d.ks x es) (wholeT (lv - 1)) d) = out ++ [y]) := Lib.hid (by rw [HTK.out, hkd, hht, hy]; simp)
            have HHT := Lib.hid hht
            have HY := Lib.hid hy
            clear hht hy
            have t1' := HB13.out.cellV 1 (v := .string (S x.vl)) rfl
            have t2' := HB13.out.cellV 2 (v := kv1) rfl
            cases fo
            all_goals
              go_upto_region 8 with (go_at_call 47; refine (containsT_any d.ky db x.nm _ (HD.out.ky.kp0 HKW.out)).mono ?_; rw [HHT.out]; rintro r wc ⟨rfl, hkc⟩; have HKC := Lib.hid hkc; clear hkc)
              have HB13 := Lib.hid (HB13.out.kp0 HKC.out)
              clear t0 t1 t1' t2' t5
              have t0 := HB13.out.cellV 0 (v := .string (S x.nm)) rfl
              have t1 := HB13.out.cellV 1 (v := .string (S x.vl)) rfl
              have t2 := HB13.out.cellV 2 (v := kv1) rfl
              go_upto_region 9 with (first
                | (go_at_call 34
                   refine (whole_any (lv - 1) (by have := HLV.out; omega) _ x kv1 _ (HKV.out.kp0 HKC.out) HXO.out).mono ?_
                   rw [← HY.out]
                   rintro r wd ⟨⟨kv2, rfl, hr2⟩, hkd⟩
                   have HRY := Lib.hid hr2
                   have HKD := Lib.hid (HKC.out.tr hkd)
                   have HB14 := Lib.hid (HB14.out.kp0 HKD.out)
                   clear hr2 hkd
                   unfold NodA)
                | (refine wl_store_blk rfl 40 (.tmp 14) (.tmp 59) rfl g14 _ _ (nvl y kv2) rfl rfl HB14.out infoNd rfl HRY.out.onesN ?_
                   intro WX hA hkx
                   have HB14 := Lib.hid hA
                   have HKX := Lib.hid hkx
                   clear hA hkx))
              try simp only [Act.put]
              try simp only [List.setIfInBounds_toArray, List.set_cons_zero, List.set_cons_succ]
              clear t0 t1 t2
              have HLG : Hid (g14 < wc.heap.size) := Lib.hid (by have := HKC.out.size; have := HG14B.out; omega)
              have HRY := Lib.hid (HRY.out.keep (G := fun i => w6.heap.size ≤ i) HKX.out (fun i hi _ e => by have := HLG.out; omega) (fun i hi _ => by have := HKC.out.size; have := HS9.out; omega))
              have HK6X : Hid (Kp0 w6 WX) := Lib.hid ((HK69.out.tr HKD.out).trans HKX.out (fun _ _ h => h) (fun i hi e => by have := HG14.out; omega))
              have HA := Lib.hid (HA6.out.kp0 HK6X.out)
              have HB4 := Lib.hid ((HB4.out.kp0 HKD.out).keep HKX.out (fun e => by have := HG14.out; have := HS9.out; have := HG.out; omega))
              have HB5 := Lib.hid ((HB5.out.kp0 HKD.out).keep HKX.out (fun e => by have := HG14.out; have := HS9.out; have := HG.out; omega))
              have HB8 := Lib.hid ((HB8.out.kp0 HKD.out).keep HKX.out (fun e => by have := HG14.out; have := HS9.out; have := HG.out; omega))
              have HB10 := Lib.hid ((HB10.out.kp0 HKD.out).keep HKX.out (fun e => by have := HG14.out; have := HS9.out; have := HG.out; omega))
              have HKR := Lib.hid (HKR6.out.tr (HK6X.out.nil _))
              have HS9 : Hid (w4.heap.size ≤ w6.heap.size ∧ w6.heap.size ≤ WX.heap.size) := Lib.hid (by have := HS9.out; have := HK6X.out.size; omega)
              have HQ : Hid (∀ o, AccF w4.heap.size (WX.alloc o) kvp (.slice none 0 0) out []) := Lib.hid (fun o => HA.out.kp0 ((Kp.refl _ _).alloc o))
              have HMD := Lib.hid (RdF.made (T := 40) (k := 3) (cs := nvl y kv2) WX rfl)
              have HON : Hid (Ones (nvl y kv2)) := Lib.hid HRY.out.onesN
              have p2 := HB10.out.cellV 2 (v := kvp) rfl
              have z0 := HB14.out.cellV 0 (v := .string (S y.nm)) rfl
              have z1 := HB14.out.cellV 1 (v := .string (S y.vl)) rfl
              have z2 := HB14.out.cellV 2 (v := kv2) rfl
              go_upto_region 11 with (at_builtin
                                      obtain ⟨us, vs, hq1, hq2, hq3, hq4, hq5⟩ := HQ.out (.cells (nvl y kv2).toArray 40)
                                      refine wl_append_rk rfl (.tmp 62) (.tmp 64) 24 rfl Try.underlying24 infoN rfl (by decide) rfl hq1 rfl HMD.out HON.out (by have := HLM.out; unfold maxLen; omega) (by have := HLM.out; omega) (by have := HS9.out; simp; omega) ?_
                                      intro v2 x3 ho2 hk3 hb3
                                      obtain ⟨a2, c2, rfl, _, _⟩ := ownK_sl ho2
                                      have HA3 := Lib.hid (AccF.more hq1 hq2 hq3 hq4 hq5 (HRY.out.kp0 ((Kp.refl _ _).alloc _)) (fun i hi hl => ⟨by have := HS9.out; omega, fun e => by have := (HLT.out i e).2; omega, fun e => by cases e⟩) hk3 hb3 ho2).1
                                      have HB4 := Lib.hid ((HB4.out.kp0 ((Kp.refl _ _).alloc _)).keep hk3 (fun e => by have := (HLT.out _ e).1; have := HG.out; omega))
                                      have HB5 := Lib.hid ((HB5.out.kp0 ((Kp.refl _ _).alloc _)).keep hk3 (fun e => by have := (HLT.out _ e).1; have := HG.out; omega))
                                      have HB8 := Lib.hid ((HB8.out.kp0 ((Kp.refl _ _).alloc _)).keep hk3 (fun e => by have := (HLT.out _ e).1; have := HG.out; omega))
                                      have HB10 := Lib.hid ((HB10.out.kp0 ((Kp.refl _ _).alloc _)).keep hk3 (fun e => by have := (HLT.out _ e).1; have := HG.out; omega))
                                      have HKR : Hid (Kp (fun b => b = g10) w4 x3) := Lib.hid (HKR.out.trans ((((Kp.refl (fun _ => False) _).alloc _).nil _).tr hk3) (fun _ _ h => h) (fun i hi e => by have := (HLT.out i e).1; omega))
                                      have hd := HB10.out.cellV 2 (v := kvp) rfl
                                      have hdf := blk_frozen HB10.out 2
                                      clear hq1 hq2 hq3 hq4 hq5 ho2 hk3 hb3)
              clear hd hdf
              have HS : Hid (Kp (fun b => b = g10) x3 (x3.setCell ⟨g10, 2, none⟩ (.slice a2 (out.length + 1) c2))) := Lib.hid (Kp.setCell (S := fun b => b = g10) (Kp.refl _ _) (p := ⟨g10, 2, none⟩) (fun _ => rfl) _)
              have HB10 := Lib.hid (HB10.out.set' 2 (.slice a2 (out.length + 1) c2))
              generalize x3.setCell ⟨g10, 2, none⟩ (.slice a2 (out.length + 1) c2) = x4 at HS HB10 ⊢
              go_wp2
              go_roundg (m - (k + 1))
              case measure => omega
              case rel =>
                refine ⟨k + 1, .slice a2 (out.length + 1) c2, by go_num, by rw [HTB.out], by omega, rfl, ?_, ?_, ?_, ?_, HB10, HKR.out.tr HS.out⟩
                · rw [HTK.out]
                  exact Lib.hid (HA3.out.keep HS.out (fun i hi _ e => by have := HG.out; omega))
                · exact Lib.hid (HB4.out.keep HS.out (fun e => by have := HG.out; omega))
                · exact Lib.hid (HB5.out.keep HS.out (fun e => by have := HG.out; omega))
                · exact Lib.hid (HB8.out.keep HS.out (fun e => by have := HG.out; omega))
    · have i1 : ¬ (k : Int) < (m : Int) := by omega
      have HRW := Lib.hid HA.out.row1
      have htk : n.ks.take k = n.ks := List.take_of_length_le (by have := HM.out; omega)
      rw [htk] at HRW ⊢
      cases hfo : n.ks.any (fun x => (chT (lv - 1) d.ks x es).isSome) with
      | false =>
        have HR : Hid (wiT (fun k => chT (lv - 1) d.ks k es) (wholeT (lv - 1)) d n = none) := Lib.hid (by unfold wiT; rw [hfo]; rfl)
        clear hfo htk
        go_wp2_with (refine wl_store_blk rfl 40 (.tmp 8) (.tmp 70) rfl g8 _ nd0 (nvl (.mk [] [] []) (.slice none 0 0)) rfl rfl HB8.out infoNd rfl (RowN.nil (fun _ => False) wr).onesN ?_
                     intro w5 hA hk5
                     have HB9 := Lib.hid hA
                     have HK5 : Hid (Kp0 w w5) := Lib.hid (HKW.out.trans hk5 (fun _ _ h => h) (fun i hi e => by have := HG.out; omega))
                     clear hA hk5)
        refine ret_blkT 8 9 40 40 g8 (nvl (.mk [] [] []) (.slice none 0 0)) _ rfl rfl HB9.out Try.underlying40 rfl infoNd rfl _ rfl ?_
        exact ⟨by rw [HR.out]; rfl, HK5.out⟩
      | true =>
        have HR : Hid (wiT (fun k => chT (lv - 1) d.ks k es) (wholeT (lv - 1)) d n = some (.mk n.nm n.vl (n.ks.filterMap (wiK (fun k => chT (lv - 1) d.ks k es) (wholeT (lv - 1)) d)))) := Lib.hid (by unfold wiT; rw [hfo]; rfl)
        clear hfo htk
        have q0 := HB10.out.cellV 0 (v := .string (S n.nm)) rfl
        have q1 := HB10.out.cellV 1 (v := .string (S n.vl)) rfl
        have q2 := HB10.out.cellV 2 (v := kvp) rfl
        go_wp2_with (refine wl_store_blk rfl 40 (.tmp 8) (.tmp 71) rfl g8 _ nd0 (nvl n kvp) rfl rfl HB8.out infoNd rfl HRW.out.onesN ?_
                     intro w5 hA hk5
                     have HB9 := Lib.hid hA
                     have HK5 : Hid (Kp0 w w5) := Lib.hid (HKW.out.trans hk5 (fun _ _ h => h) (fun i hi e => by have := HG.out; omega))
                     have HR5 := Lib.hid (HRW.out.keep (G := fun i => w.heap.size ≤ i) hk5 (fun i hi _ e => by have := HG.out; omega) (fun i hi _ => Nat.le_trans HK.out.size hi))
                     clear hA hk5)
        refine ret_blkT 8 9 40 40 g8 (nvl n kvp) _ rfl rfl HB9.out Try.underlying40 rfl infoNd rfl _ rfl ?_
        exact ⟨by rw [HR.out]; exact ⟨kvp, rfl, HR5.out⟩, HK5.out⟩
end Go.Proofs.Ytmamcnhofgfolaa
