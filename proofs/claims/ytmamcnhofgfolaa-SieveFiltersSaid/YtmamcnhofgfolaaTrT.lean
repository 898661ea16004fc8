/- Package sieve: all of a node. -/
import Derived.Test.YtmamcnhofgfolaaTrS
namespace Go.Proofs.Ytmamcnhofgfolaa
open Go Go.RowKit
def wholeT : Nat → PN → PN
  | 0, n => .mk n.nm n.vl []
  | lv + 1, n => .mk n.nm n.vl (if lv = 0 then [] else n.ks.map (wholeT lv))
mutual
/-- No node has more nodes than a row holds. -/
def kOk : PN → Bool
  | .mk _ _ ks => decide (ks.length ≤ 1000000) && ksOk ks
def ksOk : List PN → Bool
  | [] => true
  | n :: ns => kOk n && ksOk ns
end
theorem ksOk_mem {n : PN} : ∀ {ns : List PN}, ksOk ns = true → n ∈ ns → kOk n = true
  | [], _, h => by cases h
  | m :: ns, h, hm => by
    unfold ksOk at h
    rw [Bool.and_eq_true] at h
    rcases List.mem_cons.1 hm with rfl | hm
    · exact h.1
    · exact ksOk_mem h.2 hm
theorem kOk_ks {n : PN} (h : kOk n = true) : n.ks.length ≤ 1000000 ∧ ksOk n.ks = true := by
  cases n
  unfold kOk at h
  simp only [Bool.and_eq_true, decide_eq_true_eq] at h
  exact h
theorem wholeT_nm (lv : Nat) (n : PN) : (wholeT lv n).nm = n.nm ∧ (wholeT lv n).vl = n.vl := by cases lv <;> exact ⟨rfl, rfl⟩
theorem wholeT_low {lv : Nat} (n : PN) (h : lv ≤ 1) : wholeT lv n = .mk n.nm n.vl [] := by
  rcases lv with _ | _ | lv
  · rfl
  · rfl
  · omega
theorem wholeT_ks {lv : Nat} (n : PN) (h : 1 < lv) : wholeT lv n = .mk n.nm n.vl (n.ks.map (wholeT (lv - 1))) := by
  rcases lv with _ | _ | lv
  · omega
  · omega
  · rfl
/-- One row of one's own of nodes that lead to blocks at or behind B, beside its own. -/
def AccS (B : Nat) (w : World) (v : Value) (out : List PN) : Prop := AccF B w v (.slice none 0 0) out []
/-- A node that was made: what it leads to is new. -/
def NewN (w0 w : World) (e : Ending) (n : PN) : Prop := ∃ kv, e = .returned (NodA n kv) ∧ RowN (fun i => w0.heap.size ≤ i) w kv n.ks
def WholeP (lv : Nat) : Prop := lv ≤ 1000 → ∀ (F : Nat → Prop) (n : PN) (kv : Value) (w : World), RowN F w kv n.ks → kOk n = true →
  Calls Try.prog 34 #[NodA n kv, .int .i64 lv] w fun e w' => NewN w w' e (wholeT lv n) ∧ Kp0 w w'
theorem RowN.onesN {F : Nat → Prop} {w : World} {x : PN} {v : Value} {ns : List PN} (h : RowN F w v ns) : Ones (nvl x v) := by
  intro u hu
  obtain ⟨_, _, e, _⟩ := h.shape
  simp only [nvl, List.mem_cons, List.not_mem_nil, or_false] at hu
  rcases hu with rfl | rfl | rfl
  · rfl
  · rfl
  · rw [e]; rfl
set_option maxRecDepth 20000 in
set_option maxHeartbeats 4000000 in
theorem whole_step (lv : Nat) (ih : ∀ k, k < lv → WholeP k) : WholeP lv := by
  intro hlv0 F n kv w hn hok
  have HLV := Lib.hid hlv0
  have HN := Lib.hid hn
  have HOK := Lib.hid (kOk_ks hok)
  have HIH := Lib.hid ih
  obtain ⟨no, nc, rfl, _, _, _⟩ := hn.shape
  clear hn hok ih hlv0
  unfold NodA
  go_enter Try.func34, Try.ntmps34
  obtain ⟨m, hm⟩ : ∃ x, x = n.ks.length := ⟨_, rfl⟩
  rw [← hm]
  have HM := Lib.hid hm
  clear hm
  go_upto_region 1 with (refine wl_alloc_as asNd rfl rfl ?_
                         intro w2 g4 hw hg
                         have HB2 : Hid (Blk w2 w.heap.size 40 (nvl n (.slice no m nc))) := Lib.hid (by rw [hw]; exact (blk0 w _ _).kp0 ((Kp.refl _ _).alloc _))
                         have HB4 : Hid (Blk w2 g4 40 nd0) := Lib.hid (by rw [hw, hg]; exact blk0 _ _ _)
                         have HK2 : Hid (Kp0 w w2) := Lib.hid (by rw [hw]; exact ((Kp.refl _ _).alloc _).alloc _)
                         have HG4 : Hid (w.heap.size < g4 ∧ g4 < w2.heap.size) := Lib.hid (by rw [hw, hg]; simp)
                         clear hw hg)
  try simp only [Act.put]
  try simp only [List.setIfInBounds_toArray, List.set_cons_zero, List.set_cons_succ]
  obtain ⟨g2, hg2⟩ : ∃ x, x = w.heap.size := ⟨_, rfl⟩
  have HG2 : Hid (g2 = w.heap.size) := Lib.hid hg2
  rw [← hg2] at HB2 HG4 ⊢
  clear hg2
  have n0 := HB2.out.cellV 0 (v := .string (S n.nm)) rfl
  have n1 := HB2.out.cellV 1 (v := .string (S n.vl)) rfl
  go_upto_region 2 with (first
    | (refine wl_alloc_as asNd rfl rfl ?_
       intro w3 g5 hw hg
       have HB5 : Hid (Blk w3 g5 40 nd0) := Lib.hid (by rw [hw, hg]; exact blk0 _ _ _)
       have HK3 : Hid (Kp0 w2 w3) := Lib.hid (by rw [hw]; exact (Kp.refl _ _).alloc _)
       have HG5 : Hid (w2.heap.size ≤ g5 ∧ g5 < w3.heap.size) := Lib.hid (by rw [hw, hg]; simp)
       clear hw hg)
    | (refine wl_store_blk rfl 40 (.tmp 5) (.tmp 12) rfl g5 _ nd0 (nvl (.mk n.nm n.vl []) (.slice none 0 0)) rfl rfl HB5.out infoNd rfl (by intro u hu; simp only [nvl, List.mem_cons, List.not_mem_nil, or_false] at hu; rcases hu with rfl | rfl | rfl <;> rfl) ?_
       intro w4 hA hk4
       have HB6 := Lib.hid hA
       have HK4 : Hid (Kp0 w2 w4) := Lib.hid (HK3.out.trans hk4 (fun _ _ h => h) (fun i hi e => by have := HG5.out.1; omega))
       clear hA hk4))
  try simp only [Act.put]
  try simp only [List.setIfInBounds_toArray, List.set_cons_zero, List.set_cons_succ]
  have HK := Lib.hid (HK2.out.tr HK4.out)
  have HB2 := Lib.hid (HB2.out.kp0 HK4.out)
  have HB4 := Lib.hid (HB4.out.kp0 HK4.out)
  have HB5 : Hid (Blk w4 g5 40 [.string (S n.nm), .string (S n.vl), .slice none 0 0]) := Lib.hid HB6.out
  have HG : Hid (g2 = w.heap.size ∧ g2 < g4 ∧ g4 < g5 ∧ g5 < w4.heap.size) := Lib.hid (by have := HG2.out; have := HG4.out; have := HG5.out; have := HB6.out.lt; omega)
  clear HK2 HK3 HK4 HB6 HG2 HG4 HG5 n0 n1
  by_cases hlv : 1 < lv
  · have f1 : (1 : Int) < (lv : Int) := by omega
    have n2 := HB2.out.cellV 2 (v := .slice no m nc) rfl
    go_wp2
    clear n2
    go_loopg [18] m (fun gg i wr => ∃ (k : Nat) (kv : Value), i = .int .i64 k ∧ k ≤ m ∧ gg = m - k ∧ Hid (AccS w4.heap.size wr kv ((n.ks.take k).map (wholeT (lv - 1)))) ∧ Hid (Blk wr g2 40 (nvl n (.slice no m nc))) ∧ Hid (Blk wr g4 40 nd0) ∧ Hid (Blk wr g5 40 [.string (S n.nm), .string (S n.vl), kv]) ∧ Kp (fun b => b = g5) w4 wr)
    case atStart => exact ⟨0, .slice none 0 0, rfl, Nat.zero_le _, rfl, Lib.hid (AccF.nil _ _), HB2, HB4, HB5, Kp.refl _ _⟩
    case round =>
      clear HB2 HB4 HB5
      obtain ⟨k, kv, rfl, hk, rfl, HA, HB2, HB4, HB5, hkp⟩ := hrel
      have HKR := Lib.hid hkp
      clear hkp
      have HKW : Hid (Kp0 w wr) := Lib.hid (HK.out.trans HKR.out (fun _ _ h => h) (fun i hi e => by have := HG.out; omega))
      by_cases h : k < m
      · have i1 : (k : Int) < (m : Int) := by omega
        have h' : k < n.ks.length := by have := HM.out; omega
        obtain ⟨b1, o1, d1, kv1, e1, _, _, D0, D1, D2, hkv, _⟩ := (HN.out.kp0 HKW.out).at k h'
        have hm := HM.out
        rw [← hm] at e1
        simp only [Value.slice.injEq] at e1
        obtain ⟨rfl, _, rfl⟩ := e1
        have HKV := Lib.hid hkv
        have HXO := Lib.hid (ksOk_mem HOK.out.2 (List.getElem_mem h'))
        have HTK : Hid ((n.ks.take (k + 1)).map (wholeT (lv - 1)) = (n.ks.take k).map (wholeT (lv - 1)) ++ [wholeT (lv - 1) (n.ks[k]'h')]) := Lib.hid (by rw [List.take_succ_eq_append_getElem h', List.map_append]; rfl)
        clear hkv hm
        generalize n.ks[k]'h' = x at D0 D1 D2 HKV HXO HTK
        go_upto_region 6 with (first
          | (refine wl_alloc_as asNd rfl rfl ?_
             intro w5 g7 hw hg
             have HB7 : Hid (Blk w5 g7 40 nd0) := Lib.hid (by rw [hw, hg]; exact blk0 _ _ _)
             have HK5 : Hid (Kp0 wr w5) := Lib.hid (by rw [hw]; exact (Kp.refl _ _).alloc _)
             have HG7 : Hid (wr.heap.size ≤ g7 ∧ g7 < w5.heap.size) := Lib.hid (by rw [hw, hg]; simp)
             clear hw hg)
          | (refine wl_store_blk rfl 40 (.tmp 7) (.tmp 21) rfl g7 _ nd0 (nvl x kv1) rfl rfl HB7.out infoNd rfl HKV.out.onesN ?_
             intro w6 hA hk6
             have HB8 := Lib.hid hA
             have HK6 : Hid (Kp0 wr w6) := Lib.hid (HK5.out.trans hk6 (fun _ _ h => h) (fun i hi e => by have := HG7.out.1; omega))
             clear hA hk6))
        try simp only [Act.put]
        try simp only [List.setIfInBounds_toArray, List.set_cons_zero, List.set_cons_succ]
        have HB2 := Lib.hid (HB2.out.kp0 HK6.out)
        have HB4 := Lib.hid (HB4.out.kp0 HK6.out)
        have HB5 := Lib.hid (HB5.out.kp0 HK6.out)
        have HA := Lib.hid (HA.out.kp0 HK6.out)
        have HKV := Lib.hid (HKV.out.kp0 HK6.out)
        have HKR := Lib.hid (HKR.out.tr (HK6.out.nil _))
        have HKW := Lib.hid (HKW.out.tr HK6.out)
        clear HK5 HK6 HB7 HG7 D0 D1 D2
        refine wp_region_px 10 [7] (fun w' : World => Kp0 w6 w') (.quiet 0 (.quiet 1 (.quiet 2 (.quiet 3 (.quiet 4 (.eff 5 (.eff 6 (.wall 7 (.quiet 8 (.eff 9 .done)))))))))) (by kernel_rfl) (by kernel_rfl) (by kernel_rfl) (by kernel_rfl) (fun _ d _ _ _ h => by cases d <;> exact h) (Kp.refl (fun _ => False) w6).drew ?_
        have HX : Hid (Kp0 w6 w6.drew) := Lib.hid (Kp.refl (fun _ => False) w6).drew
        generalize w6.drew = x0 at HX ⊢
        have f2 : IntKind.i64.wrap ((lv : Int) - 1) = ((lv - 1 : Nat) : Int) := by have := HLV.out; rw [IntKind.wrap_i64]; omega
        iterate 5 (refine px_quiet (v := ?_) rfl (by rfl) (fun wq hwq => ?_) rfl ?_; rotate_left 1; (focus (have q2 := (HB5.out.kp0 hwq).cellV 2 (v := kv) rfl; have c0 := (HB8.out.kp0 hwq).cellV 0 (v := .string (S x.nm)) rfl; have c1 := (HB8.out.kp0 hwq).cellV 1 (v := .string (S x.vl)) rfl; have c2 := (HB8.out.kp0 hwq).cellV 2 (v := kv1) rfl; go_simp; try (with_reducible rfl); done)); try simp only [List.setIfInBounds_toArray, List.set_cons_zero, List.set_cons_succ])
        refine px_eff rfl (by rfl) (fun K hK => ?_)
        go_simp
        refine (HIH.out (lv - 1) (by omega) (by have := HLV.out; omega) _ x kv1 x0 (HKV.out.kp0 HX.out) HXO.out).mono ?_
        rintro e x1 ⟨⟨kv2, rfl, hr2⟩, hk⟩
        obtain ⟨y, hy⟩ : ∃ y, y = wholeT (lv - 1) x := ⟨_, rfl⟩
        rw [← hy] at HTK hr2 ⊢
        clear hy
        have HRY := Lib.hid hr2
        have HSX : Hid (w6.heap.size ≤ x0.heap.size) := Lib.hid HX.out.size
        unfold NodA
        simp only []
        have HX := Lib.hid (HX.out.tr hk)
        refine hK (fun w' => Kp0 w6 w') _ _ (fun _ h => h) HX.out ?_
        clear hK K hk hr2
        try simp only [List.setIfInBounds_toArray, List.set_cons_zero, List.set_cons_succ]
        refine px_eff rfl (by rfl) (fun K hK => ?_)
        go_simp
        have HMD := Lib.hid (RdF.made (T := 40) (k := 3) (cs := nvl y kv2) x1 rfl)
        have HKM : Hid (Kp0 x1 (x1.alloc (.cells (nvl y kv2).toArray 40))) := Lib.hid ((Kp.refl _ _).alloc _)
        have hgx : (x1.alloc (.cells #[.string (S y.nm), .string (S y.vl), kv2] 40)) = (x1.alloc (.cells (nvl y kv2).toArray 40)) := rfl
        rw [hgx]
        clear hgx
        generalize x1.alloc (.cells (nvl y kv2).toArray 40) = x2 at HMD HKM ⊢
        have HX := Lib.hid (HX.out.tr HKM.out)
        have HRY := Lib.hid (HRY.out.kp0 HKM.out)
        have HON : Hid (Ones (nvl y kv2)) := Lib.hid HRY.out.onesN
        refine hK (fun w' => Kp0 w6 w') _ _ (fun _ h => h) HX.out ?_
        clear hK K HKM
        try simp only [List.setIfInBounds_toArray, List.set_cons_zero, List.set_cons_succ]
        have HLT := Lib.hid HA.out.lt.1
        have HSZ : Hid (w4.heap.size ≤ w6.heap.size ∧ w6.heap.size ≤ x2.heap.size) := Lib.hid ⟨HKR.out.size, HX.out.size⟩
        have HLM : Hid (((n.ks.take k).map (wholeT (lv - 1))).length ≤ 1000000) := Lib.hid (by rw [List.length_map, List.length_take]; have := HOK.out.1; omega)
        generalize (n.ks.take k).map (wholeT (lv - 1)) = out at HA HTK HLM
        have hA2 := HA.out.kp0 HX.out
        obtain ⟨us, vs, hq1, hq2, hq3, hq4, hq5⟩ := hA2
        have HQ1 := Lib.hid hq1
        have HQ := Lib.hid (fun v' w' => AccF.more (v' := v') (w' := w') hq1 hq2 hq3 hq4 hq5 HRY.out (fun i hi hl => ⟨by have := HSX.out; have := HSZ.out.1; omega, fun e => by have := (HLT.out i e).2; have := HSX.out; omega, fun e => by cases e⟩))
        clear hq1 hq2 hq3 hq4 hq5
        refine px_wall rfl (by rfl) (fun K hK => ?_)
        refine wp_append_rk (.tmp 23) (.tmp 28) 24 rfl Try.underlying24 infoN rfl (by decide) rfl HQ1.out rfl HMD.out HON.out (by have := HLM.out; unfold maxLen; omega) (by have := HLM.out; omega) (by have := HSZ.out; omega) ?_
        intro v2 x3 ho2 hk3 hb3
        obtain ⟨a2, c2, rfl, _, _⟩ := ownK_sl ho2
        have HA3 := Lib.hid (HQ.out _ x3 hk3 hb3 ho2).1
        have HB2 := Lib.hid ((HB2.out.kp0 HX.out).keep hk3 (fun e => by have := (HLT.out _ e).1; have := HG.out; omega))
        have HB4 := Lib.hid ((HB4.out.kp0 HX.out).keep hk3 (fun e => by have := (HLT.out _ e).1; have := HG.out; omega))
        have HB5 := Lib.hid ((HB5.out.kp0 HX.out).keep hk3 (fun e => by have := (HLT.out _ e).1; have := HG.out; omega))
        have HKR : Hid (Kp (fun b => b = g5) w4 x3) := Lib.hid (HKR.out.trans ((HX.out.nil _).tr hk3) (fun _ _ h => h) (fun i hi e => by have := (HLT.out i e).1; omega))
        clear HQ HQ1 ho2 hk3 hb3
        refine hK (fun _ => True) _ _ trivial ?_
        clear hK K
        simp only [Act.put, List.getElem_toArray, List.getElem_cons_succ, List.getElem_cons_zero]
        try simp only [List.setIfInBounds_toArray, List.set_cons_zero, List.set_cons_succ]
        iterate 1 (refine px_quiet (v := ?_) rfl (by rfl) (fun wq hwq => ?_) rfl ?_; rotate_left 1; (focus (clear hwq; go_simp; try (with_reducible rfl); done)); try simp only [List.setIfInBounds_toArray, List.set_cons_zero, List.set_cons_succ])
        refine px_eff rfl (by rfl) (fun K hK => ?_)
        have hd := HB5.out.cellV 2 (v := kv) rfl
        have hdf := blk_frozen HB5.out 2
        go_simp
        refine hK (fun _ => True) _ _ (fun _ _ => trivial) trivial (px_done ?_)
        clear hK K hd hdf
        have HS : Hid (Kp (fun b => b = g5) x3 (x3.setCell ⟨g5, 2, none⟩ (.slice a2 (out.length + 1) c2))) := Lib.hid (Kp.setCell (S := fun b => b = g5) (Kp.refl _ _) (p := ⟨g5, 2, none⟩) (fun _ => rfl) _)
        have HB5 := Lib.hid (HB5.out.set' 2 (.slice a2 (out.length + 1) c2))
        generalize x3.setCell ⟨g5, 2, none⟩ (.slice a2 (out.length + 1) c2) = x4 at HS HB5 ⊢
        go_wp2
        go_roundg (m - (k + 1))
        case measure => omega
        case rel =>
          refine ⟨k + 1, .slice a2 (out.length + 1) c2, by go_num, by omega, rfl, ?_, ?_, ?_, HB5, HKR.out.tr HS.out⟩
          · rw [HTK.out]
            exact Lib.hid (HA3.out.keep HS.out (fun i hi _ e => by have := HG.out; omega))
          · exact Lib.hid (HB2.out.keep HS.out (fun e => by have := HG.out; omega))
          · exact Lib.hid (HB4.out.keep HS.out (fun e => by have := HG.out; omega))
      · have i1 : ¬ (k : Int) < (m : Int) := by omega
        have HKK : Hid ((n.ks.take k).map (wholeT (lv - 1)) = n.ks.map (wholeT (lv - 1))) := Lib.hid (by rw [List.take_of_length_le (by have := HM.out; omega)])
        have HR := Lib.hid (wholeT_ks n hlv)
        have q0 := HB5.out.cellV 0 (v := .string (S n.nm)) rfl
        have q1 := HB5.out.cellV 1 (v := .string (S n.vl)) rfl
        have q2 := HB5.out.cellV 2 (v := kv) rfl
        have HRW := Lib.hid HA.out.row1
        go_wp2_with (refine wl_store_blk rfl 40 (.tmp 4) (.tmp 32) rfl g4 _ nd0 (nvl n kv) rfl rfl HB4.out infoNd rfl HRW.out.onesN ?_
                     intro w5 hA hk5
                     have HB6 := Lib.hid hA
                     have HK5 : Hid (Kp0 w w5) := Lib.hid (HKW.out.trans hk5 (fun _ _ h => h) (fun i hi e => by have := HG.out; omega))
                     have HR5 := Lib.hid (HRW.out.keep (G := fun i => w.heap.size ≤ i) hk5 (fun i hi _ e => by have := HG.out; omega) (fun i hi _ => Nat.le_trans HK.out.size hi))
                     clear hA hk5)
        refine ret_blk 4 40 40 g4 (nvl n kv) _ rfl rfl HB6.out Try.underlying40 rfl infoNd rfl ?_
        exact ⟨⟨kv, by rw [HR.out]; rfl, by rw [HR.out]; show RowN _ _ _ (n.ks.map _); rw [← HKK.out]; exact HR5.out⟩, HK5.out⟩
  · have f1 : ¬ (1 : Int) < (lv : Int) := by omega
    have HR := Lib.hid (wholeT_low n (Nat.le_of_not_lt hlv))
    have q0 := HB5.out.cellV 0 (v := .string (S n.nm)) rfl
    have q1 := HB5.out.cellV 1 (v := .string (S n.vl)) rfl
    have q2 := HB5.out.cellV 2 (v := .slice none 0 0) rfl
    go_wp2_with (refine wl_store_blk rfl 40 (.tmp 4) (.tmp 32) rfl g4 _ nd0 (nvl (.mk n.nm n.vl []) (.slice none 0 0)) rfl rfl HB4.out infoNd rfl (by intro u hu; simp only [nvl, List.mem_cons, List.not_mem_nil, or_false] at hu; rcases hu with rfl | rfl | rfl <;> rfl) ?_
                 intro w5 hA hk5
                 have HB6 := Lib.hid hA
                 have HK5 : Hid (Kp0 w w5) := Lib.hid (HK.out.trans hk5 (fun _ _ h => h) (fun i hi e => by have := HG.out; omega))
                 clear hA hk5)
    refine ret_blk 4 40 40 g4 (nvl (.mk n.nm n.vl []) (.slice none 0 0)) _ rfl rfl HB6.out Try.underlying40 rfl infoNd rfl ?_
    exact ⟨⟨.slice none 0 0, by rw [HR.out]; rfl, by rw [HR.out]; exact RowN.nil _ _⟩, HK5.out⟩
theorem whole_any (lv : Nat) : WholeP lv := whole_step lv fun k hk => whole_any k
termination_by lv
decreasing_by exact hk
end Go.Proofs.Ytmamcnhofgfolaa
