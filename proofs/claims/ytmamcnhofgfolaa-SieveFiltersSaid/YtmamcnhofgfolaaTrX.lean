/- Package sieve: Filter. -/
import Derived.Test.YtmamcnhofgfolaaTrW
namespace Go.Proofs.Ytmamcnhofgfolaa
open Go Go.RowKit
def filterT (ds : List PD) (ns : List PN) (es : List PE) : List PN := ns.filterMap (fun n => chT 10 ds n es)
set_option maxRecDepth 20000 in
set_option maxHeartbeats 4000000 in
theorem filter_any {F G H : Nat → Prop} (ds : List PD) (ns : List PN) (es : List PE) (dv nv ev : Value) (w : World) (hd : RowD F w dv ds) (hn : RowN G w nv ns) (he : RowE H w ev es) (hl : ns.length ≤ 1000000) (hok : ksOk ns = true) (hc : cntEs es ≤ 1000000) :
    Calls Try.prog 12 #[dv, nv, ev] w fun r w' => (∃ v, r = .returned v ∧ RowN (fun i => w.heap.size ≤ i) w' v (filterT ds ns es)) ∧ Kp0 w w' := by
  have HD := Lib.hid hd
  have HN := Lib.hid hn
  have HE := Lib.hid he
  have HL := Lib.hid hl
  have HOK := Lib.hid hok
  have HC := Lib.hid hc
  obtain ⟨no, nc, rfl, _, _, _⟩ := hn.shape
  clear hd hn he hl hok hc
  go_enter Try.func12, Try.ntmps12
  go_wp2
  go_loopg [7, 14] ns.length (fun gg vv i wr => ∃ (k : Nat), i = .int .i64 k ∧ k ≤ ns.length ∧ gg = ns.length - k ∧ Hid (AccS w.heap.size wr vv (filterT ds (ns.take k) es)) ∧ Kp0 w wr)
  case atStart => exact ⟨0, rfl, Nat.zero_le _, rfl, Lib.hid (AccF.nil _ _), Kp.refl _ _⟩
  case round =>
    obtain ⟨k, rfl, hk, rfl, HA, hkp⟩ := hrel
    have HKW := Lib.hid hkp
    clear hkp
    by_cases h : k < ns.length
    · have i1 : (k : Int) < (ns.length : Int) := by omega
      obtain ⟨b1, o1, d1, kv1, e1, _, _, D0, D1, D2, hkv, _⟩ := (HN.out.kp0 HKW.out).at k h
      simp only [Value.slice.injEq] at e1
      obtain ⟨rfl, _, rfl⟩ := e1
      have HKV := Lib.hid hkv
      have HXO := Lib.hid (ksOk_mem HOK.out (List.getElem_mem h))
      have HTK : Hid (filterT ds (ns.take (k + 1)) es = filterT ds (ns.take k) es ++ (chT 10 ds (ns[k]'h) es).toList) := Lib.hid (by unfold filterT; rw [List.take_succ_eq_append_getElem h, List.filterMap_append]; cases hz : chT 10 ds (ns[k]'h) es <;> simp [List.filterMap, hz])
      have HLM : Hid ((filterT ds (ns.take k) es).length ≤ 1000000) := Lib.hid (by
        have h1 := List.length_filterMap_le (fun n => chT 10 ds n es) (ns.take k)
        rw [List.length_take] at h1
        have := HL.out
        unfold filterT
        omega)
      clear hkv
      generalize ns[k]'h = x at D0 D1 D2 HKV HXO HTK
      generalize filterT ds (ns.take k) es = out at HA HTK HLM
      go_upto_region 5 with (first
        | (refine wl_alloc_as asNd rfl rfl ?_
           intro w5 g9 hw hg
           have HB9 : Hid (Blk w5 g9 40 nd0) := Lib.hid (by rw [hw, hg]; exact blk0 _ _ _)
           have HK5 : Hid (Kp0 wr w5) := Lib.hid (by rw [hw]; exact (Kp.refl _ _).alloc _)
           have HG9 : Hid (wr.heap.size ≤ g9 ∧ g9 < w5.heap.size) := Lib.hid (by rw [hw, hg]; simp)
           clear hw hg)
        | (refine wl_store_blk rfl 40 (.tmp 9) (.tmp 17) rfl g9 _ nd0 (nvl x kv1) rfl rfl HB9.out infoNd rfl HKV.out.onesN ?_
           intro w6 hA hk6
           have HB9 := Lib.hid hA
           have HK6 : Hid (Kp0 wr w6) := Lib.hid (HK5.out.trans hk6 (fun _ _ h => h) (fun i hi e => by have := HG9.out.1; omega))
           clear hA hk6))
      try simp only [Act.put]
      try simp only [List.setIfInBounds_toArray, List.set_cons_zero, List.set_cons_succ]
      have HLT := Lib.hid HA.out.lt.1
      have HA := Lib.hid (HA.out.kp0 HK6.out)
      have HKV := Lib.hid (HKV.out.kp0 HK6.out)
      have HS0 : Hid (w.heap.size ≤ wr.heap.size) := Lib.hid HKW.out.size
      have HKW := Lib.hid (HKW.out.tr HK6.out)
      have HSR : Hid (wr.heap.size ≤ w6.heap.size) := Lib.hid HK6.out.size
      clear HK5 HK6 HG9 D0 D1 D2
      have x0 := HB9.out.cellV 0 (v := .string (S x.nm)) rfl
      have x1 := HB9.out.cellV 1 (v := .string (S x.vl)) rfl
      have x2 := HB9.out.cellV 2 (v := kv1) rfl
      cases hco : chT 10 ds x es with
      | some y =>
        have HCO := Lib.hid hco
        have HTK : Hid (filterT ds (ns.take (k + 1)) es = out ++ [y]) := Lib.hid (by rw [HTK.out, hco]; rfl)
        clear hco
        go_upto_region 6 with (first
          | (go_at_call 21
             refine (choose_any 10 (by decide) _ _ _ ds x es dv kv1 ev _ (HD.out.kp0 HKW.out) HKV.out (HE.out.kp0 HKW.out) HXO.out HC.out).mono ?_
             rw [HCO.out]
             rintro r w7 ⟨⟨kv2, rfl, hr2⟩, hk7⟩
             have HRY := Lib.hid hr2
             have HK7 := Lib.hid hk7
             clear hr2 hk7
             unfold NodA)
          | (refine wl_alloc_as asNd rfl rfl ?_
             intro w8 g10 hw hg
             have HB10 : Hid (Blk w8 g10 40 nd0) := Lib.hid (by rw [hw, hg]; exact blk0 _ _ _)
             have HK8 : Hid (Kp0 w7 w8) := Lib.hid (by rw [hw]; exact (Kp.refl _ _).alloc _)
             have HG10 : Hid (w7.heap.size ≤ g10 ∧ g10 < w8.heap.size) := Lib.hid (by rw [hw, hg]; simp)
             clear hw hg)
          | (refine wl_store_blk rfl 40 (.tmp 10) (.tmp 23) rfl g10 _ nd0 (nvl y kv2) rfl rfl HB10.out infoNd rfl HRY.out.onesN ?_
             intro w9 hA hk9
             have HB10 := Lib.hid hA
             have HK9 : Hid (Kp0 w6 w9) := Lib.hid (HK7.out.tr (HK8.out.trans hk9 (fun _ _ h => h) (fun i hi e => by have := HG10.out.1; omega)))
             have HK79 : Hid (Kp0 w7 w9) := Lib.hid (HK8.out.trans hk9 (fun _ _ h => h) (fun i hi e => by have := HG10.out.1; omega))
             clear hA hk9))
        try simp only [Act.put]
        try simp only [List.setIfInBounds_toArray, List.set_cons_zero, List.set_cons_succ]
        have HA := Lib.hid (HA.out.kp0 HK9.out)
        have HKW := Lib.hid (HKW.out.tr HK9.out)
        have HS9 : Hid (w.heap.size ≤ wr.heap.size ∧ w6.heap.size ≤ w9.heap.size) := Lib.hid ⟨HS0.out, HK9.out.size⟩
        have HRY := Lib.hid (HRY.out.kp0 HK79.out)
        clear HK7 HK8 HK79 HK9 HG10 x0 x1 x2
        have z0 := HB10.out.cellV 0 (v := .string (S y.nm)) rfl
        have z1 := HB10.out.cellV 1 (v := .string (S y.vl)) rfl
        have z2 := HB10.out.cellV 2 (v := kv2) rfl
        have HQ : Hid (∀ o, AccF w.heap.size (w9.alloc o) u7 (.slice none 0 0) out []) := Lib.hid (fun o => HA.out.kp0 ((Kp.refl _ _).alloc o))
        have HMD := Lib.hid (RdF.made (T := 40) (k := 3) (cs := nvl y kv2) w9 rfl)
        have HON : Hid (Ones (nvl y kv2)) := Lib.hid HRY.out.onesN
        go_wp2_with (at_builtin
                     obtain ⟨us, vs, hq1, hq2, hq3, hq4, hq5⟩ := HQ.out (.cells (nvl y kv2).toArray 40)
                     refine wl_append_rk rfl (.tmp 26) (.tmp 28) 24 rfl Try.underlying24 infoN rfl (by decide) rfl hq1 rfl HMD.out HON.out (by have := HLM.out; unfold maxLen; omega) (by have := HLM.out; omega) (by have := HS9.out; have := HSR.out; simp; omega) ?_
                     intro v2 x3 ho2 hk3 hb3
                     obtain ⟨a2, c2, rfl, _, _⟩ := ownK_sl ho2
                     have HA3 := Lib.hid (AccF.more hq1 hq2 hq3 hq4 hq5 (HRY.out.kp0 ((Kp.refl _ _).alloc _)) (fun i hi hl => ⟨by have := HS9.out; have := HSR.out; omega, fun e => by have := (HLT.out i e).2; have := HSR.out; omega, fun e => by cases e⟩) hk3 hb3 ho2).1
                     have HK3 : Hid (Kp0 w x3) := Lib.hid ((HKW.out.alloc _).trans hk3 (fun _ _ h => h) (fun i hi e => by have := (HLT.out i e).1; omega))
                     clear hq1 hq2 hq3 hq4 hq5 ho2 hk3 hb3)
        go_roundg (ns.length - (k + 1))
        case measure => omega
        case rel => exact ⟨k + 1, by go_num, by omega, rfl, by rw [HTK.out]; exact HA3, HK3.out⟩
      | none =>
        have HCO := Lib.hid hco
        have HTK : Hid (filterT ds (ns.take (k + 1)) es = out) := Lib.hid (by rw [HTK.out, hco]; simp)
        clear hco
        go_wp2_with (first
          | (go_at_call 21
             refine (choose_any 10 (by decide) _ _ _ ds x es dv kv1 ev _ (HD.out.kp0 HKW.out) HKV.out (HE.out.kp0 HKW.out) HXO.out HC.out).mono ?_
             rw [HCO.out]
             rintro r w7 ⟨rfl, hk7⟩
             have HK7 := Lib.hid hk7
             clear hk7
             unfold NodA)
          | (refine wl_alloc_as asNd rfl rfl ?_
             intro w8 g10 hw hg
             have HB10 : Hid (Blk w8 g10 40 nd0) := Lib.hid (by rw [hw, hg]; exact blk0 _ _ _)
             have HK8 : Hid (Kp0 w7 w8) := Lib.hid (by rw [hw]; exact (Kp.refl _ _).alloc _)
             have HG10 : Hid (w7.heap.size ≤ g10 ∧ g10 < w8.heap.size) := Lib.hid (by rw [hw, hg]; simp)
             clear hw hg)
          | (refine wl_store_blk rfl 40 (.tmp 10) (.tmp 23) rfl g10 _ nd0 (nvl (.mk [] [] []) (.slice none 0 0)) rfl rfl HB10.out infoNd rfl (RowN.nil (fun _ => False) w7).onesN ?_
             intro w9 hA hk9
             have HK9 : Hid (Kp0 w6 w9) := Lib.hid (HK7.out.tr (HK8.out.trans hk9 (fun _ _ h => h) (fun i hi e => by have := HG10.out.1; omega)))
             clear hA hk9))
        try simp only [Act.put]
        go_roundg (ns.length - (k + 1))
        case measure => omega
        case rel => exact ⟨k + 1, by go_num, by omega, rfl, by rw [HTK.out]; exact Lib.hid (HA.out.kp0 HK9.out), HKW.out.tr HK9.out⟩
    · have i1 : ¬ (k : Int) < (ns.length : Int) := by omega
      have HRW := Lib.hid HA.out.row1
      have htk : ns.take k = ns := List.take_of_length_le (by omega)
      rw [htk] at HRW
      go_wp2
      go_ret
      exact ⟨⟨_, rfl, HRW.out⟩, HKW.out⟩
end Go.Proofs.Ytmamcnhofgfolaa
