/- The law FrameChunks: its walk. -/
import Derived.Test.YtdjknljhpbebiaaDoorRefE
import Derived.Test.YtdjknljhpbebiaaDoorFSc
import Derived.Test.YtdjknljhpbebiaaDoorCameInts
namespace Go.Proofs.YtdjknljhpbebiaaDoor
open Go Go.RowKit
/-- Of the message m tk was told by ts; tr is left. -/
structure CInvT (m : List UInt8) (ts tr : ByteArray) (k : Nat) (tk : List UInt8) : Prop where
  eq : m = tk ++ tr.toList
  ne : tr.toList ≠ []
  gt : ∀ T M : List UInt8, M.length + tk.length ≤ 16384 → gatherS (ts.toList ++ T) M = gatherS T (M ++ tk)
  sz : ts.size ≤ tk.length + 8 * k
def CInv (m : List UInt8) (ts tr : ByteArray) (k : Nat) : Prop := ∃ tk, CInvT m ts tr k tk
theorem cinv_start (m : ByteArray) (h : m.toList ≠ []) : CInv m.toList { data := #[] } m 0 :=
  ⟨[], rfl, h, fun T M _ => by rw [lit_toList, List.append_nil]; rfl, by decide⟩
theorem cinv_stay {m : List UInt8} {ts tr : ByteArray} {k : Nat} (h : CInv m ts tr k) : CInv m ts tr (k + 1) := by
  obtain ⟨tk, h⟩ := h
  exact ⟨tk, h.eq, h.ne, h.gt, by have := h.sz; omega⟩
theorem cinv_step {m : List UInt8} {ts tr x : ByteArray} {k n : Nat} (h : CInv m ts tr k) (hm : m.length ≤ 3000) (h1 : 1 ≤ n) (h2 : n < tr.size) (hx : x.toList = encS (tr.extract 0 n).toList true) :
    CInv m (ts ++ x.extract 0 (x.size - 4)) (tr.extract n tr.size) (k + 1) := by
  obtain ⟨tk, h⟩ := h
  have hl : m.length = tk.length + tr.size := by rw [h.eq, List.length_append, size_toList]
  have e1 : (tr.extract 0 n).toList = tr.toList.take n := by rw [extract_toList]; simp
  have e2 : (tr.extract n tr.size).toList = tr.toList.drop n := by
    rw [extract_toList, List.take_of_length_le]
    rw [List.length_drop, size_toList]
    omega
  have hpl : (tr.toList.take n).length = n := by rw [List.length_take, size_toList]; omega
  have hpne : tr.toList.take n ≠ [] := by
    intro h0
    rw [h0] at hpl
    simp at hpl
    omega
  rw [e1, encS_chunk hpne] at hx
  have hxs : x.size = (chunkE (tr.toList.take n)).length + 4 := by rw [← size_toList, hx]; simp
  have e3 : (x.extract 0 (x.size - 4)).toList = chunkE (tr.toList.take n) := by
    rw [extract_toList, List.drop_zero, hx, List.take_append_of_le_length (by omega), List.take_of_length_le (by omega)]
  have hcl := chunkE_len (p := tr.toList.take n) (by omega)
  refine ⟨tk ++ tr.toList.take n, ?_, ?_, fun T M hM => ?_, ?_⟩
  · rw [e2, List.append_assoc, List.take_append_drop]
    exact h.eq
  · rw [e2]
    intro h0
    have := congrArg List.length h0
    rw [List.length_drop, size_toList] at this
    simp at this
    omega
  · rw [List.length_append] at hM
    rw [app_toList, e3, List.append_assoc, h.gt _ _ (by omega), gather_chunk hpne (by rw [List.length_append]; omega), List.append_assoc]
  · have e4 := size_toList (ts ++ x.extract 0 (x.size - 4))
    rw [app_toList, List.length_append, size_toList, e3] at e4
    rw [List.length_append]
    have := h.sz
    omega
theorem encS_len {p : List UInt8} (h : p.length ≤ 16384) (hp : p ≠ []) : (encS p true).length ≤ p.length + 12 ∧ 4 ≤ (encS p true).length := by
  have := chunkE_len h
  rw [encS_chunk hp, List.length_append]
  simp only [List.length_cons, List.length_nil]
  omega
theorem cinv_done {m : List UInt8} {ts tr : ByteArray} {k : Nat} (h : CInv m ts tr k) (hm : m.length ≤ 3000) : nextS ⟨ts.toList ++ encS tr.toList true, [], true, false⟩ = (m, 0, ⟨[], [], true, false⟩) := by
  obtain ⟨tk, h⟩ := h
  have hl : m.length = tk.length + tr.toList.length := by rw [h.eq, List.length_append]
  have h1 : gatherS (ts.toList ++ encS tr.toList true) [] = (m, 0, [], []) := by
    have h2 := h.gt (encS tr.toList true) [] (by simp; omega)
    rw [h2, List.nil_append]
    have h3 := gather_msg (p := tr.toList) (M := tk) h.ne (by omega) []
    rw [List.append_nil] at h3
    rw [h3, ← h.eq]
  have h4 : rawS ⟨ts.toList ++ encS tr.toList true, [], true, false⟩ = (m, 0, [], []) := h1
  unfold nextS
  rw [h4]
  rfl
theorem next_none : nextS ⟨[], [], true, false⟩ = ([], 4, ⟨[], [], true, false⟩) := by
  have h4 : rawS ⟨[], [], true, false⟩ = ([], 4, [], []) := gather_nil []
  unfold nextS
  rw [h4]
  rfl
theorem mod_piece (c : Int) (L : Nat) (h : 1 < L) : ∃ (q : Int) (n0 n : Nat), c.tmod ((L : Int) - 1) = q ∧ -(L : Int) < q ∧ q < L ∧ (q + (L : Int) - 1).tmod ((L : Int) - 1) = (n0 : Int) ∧ (q + (L : Int) - 1) % ((L : Int) - 1) = (n0 : Int) ∧ (n0 : Int) + 1 = (n : Int) ∧ (n : Int) < L ∧ (1 : Int) ≤ n := by
  have hk : (0 : Int) < (L : Int) - 1 := by omega
  have h1 : c.tmod ((L : Int) - 1) < (L : Int) - 1 := Int.tmod_lt_of_pos c hk
  have h2 : -((L : Int) - 1) < c.tmod ((L : Int) - 1) := by
    have := Int.tmod_lt_of_pos (-c) hk
    rw [Int.neg_tmod] at this
    omega
  have h3 : 0 ≤ c.tmod ((L : Int) - 1) + (L : Int) - 1 := by omega
  have h4 := Int.emod_nonneg (c.tmod ((L : Int) - 1) + (L : Int) - 1) (by omega : (L : Int) - 1 ≠ 0)
  have h5 := Int.emod_lt_of_pos (c.tmod ((L : Int) - 1) + (L : Int) - 1) hk
  refine ⟨_, ((c.tmod ((L : Int) - 1) + (L : Int) - 1) % ((L : Int) - 1)).toNat, ((c.tmod ((L : Int) - 1) + (L : Int) - 1) % ((L : Int) - 1)).toNat + 1, rfl, by omega, by omega, ?_, by omega, by omega, by omega, by omega⟩
  rw [Int.tmod_eq_emod_of_nonneg h3]
  omega
set_option maxRecDepth 20000 in
set_option maxHeartbeats 4000000 in
theorem fchunks_walk (m : ByteArray) (v : Value) (l : List Int) (w : World) (hg : Gw w) (hv : Rd w v (ints l)) (hm : m.size ≤ 140737488351232) :
    Calls Tryd.prog 8 #[.string m, v] w fun e w' => e = .returned (.bool true) ∧ Kp0 w w' := by
  have HG := Lib.hid hg
  have HV := Lib.hid hv
  obtain ⟨ao, cap, rfl, hc1, hc2, -⟩ := hv.shapeI
  have hmi : (m.size : Int) ≤ 140737488351232 := by omega
  have hli : (l.length : Int) ≤ 9223372036854775807 := by omega
  clear hg hv hm hc2
  go_enter Tryd.func8, Tryd.ntmps8
  go_wp2_with fail
  refine (fit_any _ HG.out).mono ?_
  rintro e w1 ⟨rfl, hk⟩
  have HK1 := Lib.hid hk
  clear hk
  by_cases h0 : m.toList = []
  · have h0e : m.toList.isEmpty = true := by simpa using h0
    go_wp2
    all_goals go_ret
    all_goals exact ⟨rfl, HK1.out⟩
  · have h0e : m.toList.isEmpty = false := by simpa using h0
    have H0 := Lib.hid (cinv_start m h0)
    clear h0
    by_cases h3 : 3000 < m.size
    · have h3i : (3000 : Int) < m.size := by omega
      clear h3
      go_wp2
      all_goals go_ret
      all_goals exact ⟨rfl, HK1.out⟩
    · have h3i : ¬ (3000 : Int) < m.size := by omega
      have H3 : Hid (m.size ≤ 3000) := Lib.hid (by omega)
      by_cases h5 : 50 < l.length
      · have h5i : (50 : Int) < l.length := by omega
        clear h5 h3 hmi
        go_wp2
        all_goals go_ret
        all_goals exact ⟨rfl, HK1.out⟩
      · have h5i : ¬ (50 : Int) < l.length := by omega
        have H5 : Hid (l.length ≤ 50) := Lib.hid (by omega)
        clear h5 h3 hmi
        go_wp2
        go_loopg [5, 6, 33] l.length (fun gg s r i wr => ∃ (k : Nat) (ts tr : ByteArray), s = .string ts ∧ r = .string tr ∧ i = .int .i64 k ∧ gg = l.length - k ∧ k ≤ l.length ∧ CInv m.toList ts tr k ∧ Kp0 w wr)
        case atStart => exact ⟨0, _, m, rfl, rfl, rfl, rfl, Nat.zero_le _, H0.out, HK1.out⟩
        case round =>
          obtain ⟨k, ts, tr, rfl, rfl, rfl, rfl, hk, hi, hkp⟩ := hrel
          have HI := Lib.hid hi
          have HK := Lib.hid hkp
          have hsz : tr.size ≤ 3000 ∧ ts.size ≤ 5000 := by
            obtain ⟨tk, hi⟩ := hi
            have e1 := congrArg List.length hi.eq
            rw [List.length_append, size_toList, size_toList] at e1
            have := hi.sz
            have := H3.out
            have := H5.out
            omega
          have htr : (tr.size : Int) ≤ 3000 := by omega
          have hts : (ts.size : Int) ≤ 5000 := by omega
          clear hi hkp hsz
          by_cases hkl : k < l.length
          · have hkli : (k : Int) < l.length := by omega
            by_cases h1 : 1 < tr.size
            · have h1i : (1 : Int) < tr.size := by omega
              obtain ⟨gb, go, cp, ev, -, -, hcell⟩ := (HV.out.keep0 HK.out).posI (by omega)
              simp only [Value.slice.injEq] at ev
              obtain ⟨rfl, -, rfl⟩ := ev
              have hcx := hcell k hkl
              clear hcell
              generalize l[k] = c at hcx
              obtain ⟨q, n0, n, hq, hq1, hq2, hn0, hn1, hn2, hn3, hn4⟩ := mod_piece c tr.size h1
              have hq3 : -3000 ≤ q := by omega
              have hq4 : q ≤ 3000 := by omega
              have hn5 : (n0 : Int) ≤ 3000 := by omega
              have HN : Hid (1 ≤ n ∧ n < tr.size) := Lib.hid (by omega)
              clear hq1 hq2 h1
              go_wp2_with fail
              have hpn : (tr.extract 0 n).toList = tr.toList.take n := by rw [extract_toList]; simp
              have hpl : (tr.extract 0 n).toList.length = n := by rw [hpn, List.length_take, size_toList]; have := HN.out; omega
              refine (refEnc_any (tr.extract 0 n) true _ (by rw [← size_toList, hpl]; have := HN.out; omega)).mono ?_
              rintro e w2 ⟨x, rfl, hx, hk2⟩
              have hxs : 4 ≤ x.size ∧ x.size ≤ 4000 := by
                have h1 := size_toList x
                rw [hx] at h1
                have h2 := encS_len (p := (tr.extract 0 n).toList) (by rw [hpl]; have := HN.out; omega) (by intro h; rw [h] at hpl; simp at hpl; have := HN.out; omega)
                have := HN.out
                omega
              have HI2 := Lib.hid (cinv_step HI.out (by rw [size_toList]; exact H3.out) HN.out.1 HN.out.2 hx)
              have HK2 := Lib.hid (HK.out.tr hk2)
              obtain ⟨xm, hxm⟩ : ∃ xm, xm = x.size - 4 := ⟨_, rfl⟩
              rw [← hxm] at HI2
              have hx4 : (x.size : Int) - 4 = (xm : Int) := by omega
              have hx5 : (x.size : Int) ≤ 4000 := by omega
              have hx6 : (4 : Int) ≤ x.size := by omega
              have hx7 : (xm : Int) ≤ x.size := by omega
              have hx8 : (x.extract 0 xm).size ≤ 4000 := by rw [ByteArray.size_extract]; omega
              have hx9 : ((x.extract 0 xm).size : Int) ≤ 4000 := by omega
              clear hpn hpl hxs hxm hk2 hx hx8
              go_wp2
              go_roundg (l.length - (k + 1))
              case measure => omega
              case rel => exact ⟨k + 1, _, _, rfl, rfl, by go_num, rfl, by omega, HI2.out, HK2.out⟩
            · have h1i : ¬ (1 : Int) < tr.size := by omega
              obtain ⟨gb, go, cp, ev, -, -, hcell⟩ := (HV.out.keep0 HK.out).posI (by omega)
              simp only [Value.slice.injEq] at ev
              obtain ⟨rfl, -, rfl⟩ := ev
              have hcx := hcell k hkl
              clear hcell
              generalize l[k] = c at hcx
              have HI2 := Lib.hid (cinv_stay HI.out)
              go_wp2
              go_roundg (l.length - (k + 1))
              case measure => omega
              case rel => exact ⟨k + 1, _, _, rfl, rfl, by go_num, rfl, by omega, HI2.out, HK.out⟩
          · have hkli : ¬ (k : Int) < l.length := by omega
            have HTL : Hid (tr.toList.length ≤ 3000 ∧ ts.toList.length ≤ 5000 ∧ tr.toList ≠ []) := Lib.hid (by
              obtain ⟨tk, hi⟩ := HI.out
              rw [size_toList, size_toList]
              exact ⟨by omega, by omega, hi.ne⟩)
            go_wp2_with fail
            have HB1 : Hid (w.heap.size ≤ wr.heap.size) := Lib.hid HK.out.size
            have HD2 := Lib.hid (dc_new (B := w.heap.size) (Z := NoZ) (w := wr) HB1.out (fun i h => h.elim))
            have HK2 : Hid (Kp0 w (wr.alloc (.cells #[.slice none 0 0, .slice none 0 0, .bool false, .bool false] 26))) := Lib.hid (HK.out.alloc _)
            generalize (wr.alloc (.cells #[.slice none 0 0, .slice none 0 0, .bool false, .bool false] 26)) = w2 at HD2 HK2 ⊢
            refine (switch_any w.heap.size NoZ wr.heap.size _ _ HD2.out).mono ?_
            rintro e w3 ⟨rfl, hd, hk3⟩
            have HK3 := Lib.hid (kp0_of_fb HK2.out hk3)
            have HD3 : Hid (Dc w.heap.size NoZ w3 wr.heap.size ⟨[], [], true, false⟩) := Lib.hid hd
            clear hd hk3
            go_wp2_with fail
            refine (refEnc_any tr true _ (by omega)).mono ?_
            rintro e w4 ⟨y, rfl, hy, hk4⟩
            have HK4 := Lib.hid (HK3.out.tr hk4)
            have HD4 := Lib.hid (HD3.out.kp0 hk4)
            have hyl : y.size ≤ 4000 := by
              have h1 := size_toList y
              rw [hy] at h1
              have h2 := encS_len (p := tr.toList) (by have := HTL.out; omega) HTL.out.2.2
              have := HTL.out
              omega
            have hyi : (y.size : Int) ≤ 4000 := by omega
            have HYL : Hid ((ts ++ y).size ≤ 9223372036854775807) := Lib.hid (by rw [ByteArray.size_append]; omega)
            have hW : (ts ++ y).toList = ts.toList ++ encS tr.toList true := by rw [app_toList, hy]
            have HWL : Hid ((ts.toList ++ encS tr.toList true).length ≤ 9000) := Lib.hid (by rw [← hW, size_toList, ByteArray.size_append]; omega)
            have HW := Lib.hid hW
            have HN := Lib.hid (cinv_done HI.out (by rw [size_toList]; exact H3.out))
            obtain ⟨Wd, hWd⟩ : ∃ Wd, Wd = ts.toList ++ encS tr.toList true := ⟨_, rfl⟩
            rw [← hWd] at HWL HW HN
            clear hW hyl hy hk4 hWd
            go_wp2_with (refine wl_bytes_of_str (o := ⟨some 74, _, _, _, _, _⟩) rfl _ 9 24 5 rfl Tryd.underlying9 Tryd.underlying24 Tryd.underlying5 (ts ++ y) rfl HYL.out ?_; intro cap5 w5 hrd hgr; have HK5 := Lib.hid (HK4.out.grown hgr (by simp)); have HD5 := Lib.hid (HD4.out.kp0 ((Kp.refl _ _).grown hgr (by simp))); rw [HW.out] at hrd; (obtain ⟨v5, hv5⟩ : ∃ v, v = Value.slice (some ⟨w4.heap.size, 0, none⟩) (ts ++ y).size cap5 := ⟨_, rfl⟩); rw [← hv5] at hrd ⊢; clear hv5; have HR5 := Lib.hid hrd; clear hrd hgr)
            go_at_call 11
            refine (feed_any w.heap.size NoZ wr.heap.size ⟨[], [], true, false⟩ _ Wd _ HD5.out HR5.out (by have := HWL.out; simp only [List.length_nil]; omega)).mono ?_
            rintro e w6 ⟨rfl, hd, hk6⟩
            have HK6 := Lib.hid (kp0_of_fb HK5.out hk6)
            have HD6 : Hid (Dc w.heap.size NoZ w6 wr.heap.size ⟨Wd, [], true, false⟩) := Lib.hid hd
            clear hd hk6
            go_wp2_with fail
            refine (Next_any w.heap.size NoZ wr.heap.size _ _ HD6.out (HG.out.kp0 HK6.out) HG.out.sz ⟨by simp, by have := HWL.out; simp only []; omega⟩).mono ?_
            rw [HN.out]
            rintro e w7 ⟨a, rfl, ha, hd, hk7⟩
            have HK7 := Lib.hid (kp0_of_fb HK6.out hk7)
            have HD7 := Lib.hid hd
            obtain rfl : m = a := str_ext ha.symm
            clear hd hk7 ha
            simp only [] at HD7 ⊢
            go_wp2_with fail
            refine (Next_any w.heap.size NoZ wr.heap.size _ _ HD7.out (HG.out.kp0 HK7.out) HG.out.sz ⟨by simp, by simp⟩).mono ?_
            rw [next_none]
            rintro e w8 ⟨c8, rfl, hc8, hd, hk8⟩
            have HK8 := Lib.hid (kp0_of_fb HK7.out hk8)
            clear hd hk8 hc8
            simp only []
            have hmm : (m.toList == m.toList) = true := by simp
            go_wp2
            all_goals go_ret
            all_goals exact ⟨rfl, HK8.out⟩
end Go.Proofs.YtdjknljhpbebiaaDoor
