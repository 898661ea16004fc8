/- Package frame: a chunk taken off the bytes that wait. -/
import Derived.Test.YtmmbhmfbhleglaaDoorEnc
namespace Go.Proofs.YtmmbhmfbhleglaaDoor
open Go Go.RowKit
theorem elemB : Tryd.prog.underlying 24 = some (.slice (Tryd.prog.elem 24)) := by kernel_rfl
theorem sizeB (w : World) : (sizeOf (Tryd.prog.elem 24)).run Tryd.prog w = .ok 1 w := by
  have h : Tryd.prog.elem 24 = 5 := by kernel_rfl
  obtain ⟨i, hi, _, h1, _⟩ := info_parts (infoB w)
  rw [h]
  simp [sizeOf, typeInfo, hi, h1]
/-- 'v[l:h]', as an operation. -/
theorem run_op_cut {op : Oper} {a : Act} {w : World} (x lo hi : Operand) (ho : op.op = .slice 24 x (some lo) (some hi) none)
    {ao : Option Addr} {len cap : Nat} (l h : Nat) {vl vh : Int} (hx : a.eval x = .slice ao len cap) (hl : a.eval lo = .int .i64 vl) (hh : a.eval hi = .int .i64 vh) (h0 : vl = l) (h1 : vh = h) (h2 : l ≤ h) (h3 : h ≤ cap) :
    (execOp a.eval op).run Tryd.prog w = .ok (.value (sliced ao l h cap 1)) w := by
  subst h0
  subst h1
  have hr := run_slice_lh (P := Tryd.prog) w 24 ao len cap elemB .i64 .i64 (l : Int) (h : Int) (by omega) (by omega) (by omega)
  unfold execOp
  simp only [ho, hx, hl, hh, Option.map_some, run_sliceAt_slice w 24 _ _ _ _ elemB, Option.map_none, Sem.run_bind, hr, sizeB, Result.andThen_ok, Int.toNat_natCast, Sem.run_pure]
theorem drop_anyI (B : Nat) (Z : Nat → Prop) (b : Nat) (s : St) (n : Nat) (m : Int) (w : World) (hm : m = n) (h : Dc B Z w b s) (hn : n ≤ s.W.length) :
    Calls Tryd.prog 21 #[.pointer (some ⟨b, 0, none⟩), .int .i64 m] w fun e w' => e = .returned (.tuple #[]) ∧ Dc B Z w' b { s with W := s.W.drop n } ∧ Kp (FB B Z) w w' := by
  subst hm
  obtain ⟨vw, vp, hv⟩ := id h
  exact (drop_any B Z b s n w h hn).mono fun e w' ⟨h1, h2, h3⟩ => ⟨h1, h2, h3.mono (fun i _ hi => by subst hi; exact ⟨hv.ge, hv.nz⟩)⟩
theorem drop_anyK (B : Nat) (Z : Nat → Prop) (b : Nat) (s : St) (n : Nat) (m : Int) (w : World) (hm : m = n) (h : Dc B Z w b s) (hn : n ≤ s.W.length) :
    Calls Tryd.prog 21 #[.pointer (some ⟨b, 0, none⟩), .int .i64 m] w fun e w' => e = .returned (.tuple #[]) ∧ Dc B Z w' b { s with W := s.W.drop n } ∧ Kp (fun g => g = b) w w' := by
  subst hm
  exact drop_any B Z b s n w h hn
def chunkS (W M : List UInt8) (e : Nat) (sz : Option Nat) : Nat × List UInt8 × List UInt8 :=
  match sz with
  | none => (3, W, M)
  | some n => if 16384 < M.length + n then (2, W, M) else if W.length < e + 1 + n then (4, W, M) else (0, W.drop (e + 1 + n), M ++ (W.drop (e + 1)).take n)
theorem sizeS_lt {ds : List UInt8} {n : Nat} (h : sizeS ds = some n) (hl : ds.length ≤ 9) : n < 1000000000 ∧ 0 < n := by
  obtain ⟨_, h2, h3⟩ := sizeS_some h
  have h4 := decFrom_digits n n (Nat.le_refl _)
  rw [h3] at h4
  have h5 := Lib.decFrom_lt _ _ _ h4
  have h6 : 10 ^ ds.length ≤ 10 ^ 9 := Nat.pow_le_pow_right (by decide) hl
  simp only [Nat.zero_add, Nat.one_mul] at h5
  omega
theorem trim_len (l p : List UInt8) : (Lib.trimPrefix l p).length ≤ l.length := by
  unfold Lib.trimPrefix
  split
  · rw [List.length_drop]; omega
  · exact Nat.le_refl _
def ChunkPost (B : Nat) (Z : Nat → Prop) (b : Nat) (ch ov : Bool) (r : Nat × List UInt8 × List UInt8) (w : World) (e : Ending) (w' : World) : Prop :=
  e = .returned (.int .i64 (r.1 : Nat)) ∧ Dc B Z w' b ⟨r.2.1, r.2.2, ch, ov⟩ ∧ Kp (FB B Z) w w'
set_option maxRecDepth 20000 in
set_option maxHeartbeats 2000000 in
theorem chunk_any (B : Nat) (Z : Nat → Prop) (b : Nat) (W M : List UInt8) (ch ov : Bool) (t : ByteArray) (w : World) (h : Dc B Z w b ⟨W, M, ch, ov⟩) (hg : Gw w) (ht : t.size ≤ 9) (hM : M.length ≤ 16384) (hW : W.length ≤ 1000000) :
    Calls Tryd.prog 28 #[.pointer (some ⟨b, 0, none⟩), .string t] w (ChunkPost B Z b ch ov (chunkS W M t.size (sizeS (Lib.trimPrefix t.toList [10, 35]))) w) := by
  obtain ⟨vw, vp, h⟩ := h
  have H := Lib.hid h
  have HG := Lib.hid hg
  have hti : (t.size : Int) ≤ 9 := by omega
  have hl : (Lib.trimPrefix t.toList [10, 35]).length ≤ 9 := by
    have := trim_len t.toList [10, 35]
    rw [size_toList] at this
    omega
  obtain ⟨sz, hsz⟩ : ∃ sz, sz = sizeS (Lib.trimPrefix t.toList [10, 35]) := ⟨_, rfl⟩
  have HS := Lib.hid hsz
  rw [← hsz]
  have HL := Lib.hid hl
  clear hg hl h hsz
  cases sz with
  | none =>
    go_enter Tryd.func28, Tryd.ntmps28
    go_wp2_with (go_at_call 35; refine (sizeOf_any t _ HG.out (by omega)).mono ?_; unfold SizePost; rw [← HS.out]; rintro e w1 ⟨n, rfl, _, hk⟩; have HK1 := Lib.hid hk; clear hk; simp only [Option.isSome_none])
    all_goals go_ret
    all_goals exact ⟨rfl, (H.out.kp0 HK1.out).dc, HK1.out.nil _⟩
  | some n =>
    obtain ⟨hn1, hn2⟩ := sizeS_lt HS.out.symm HL.out
    have hni : (n : Int) < 1000000000 := by omega
    have hnp : (0 : Int) < n := by omega
    have hMi : (M.length : Int) ≤ 16384 := by omega
    have hWi : (W.length : Int) ≤ 1000000 := by omega
    obtain ⟨aw, cw, rfl, hw1, hw2, -⟩ := H.out.ow.shapeB
    obtain ⟨ap, cp, rfl, hp1, hp2, -⟩ := H.out.op.shapeB
    simp only [] at hw1 hw2 hp1 hp2 H
    clear hw2 hp2
    obtain ⟨WL, hWL⟩ : ∃ k, k = W.length := ⟨_, rfl⟩
    obtain ⟨ML, hML⟩ : ∃ k, k = M.length := ⟨_, rfl⟩
    have HWL := Lib.hid hWL
    have HML := Lib.hid hML
    rw [← hWL] at hWi hw1 H
    rw [← hML] at hMi hp1 H
    have HC0 : Hid (∀ w', Kp0 w w' → w'.cell? ⟨b, 0, none⟩ = some (.slice aw WL cw)) := Lib.hid (fun w' hk => (H.out.kp0 hk).c0)
    have HC1 : Hid (∀ w', Kp0 w w' → w'.cell? ⟨b, 1, none⟩ = some (.slice ap ML cp)) := Lib.hid (fun w' hk => (H.out.kp0 hk).c1)
    by_cases h1 : 16384 < ML + n
    · have h1i : (16384 : Int) < (ML : Int) + n := by omega
      have HR : Hid (chunkS W M t.size (some n) = (2, W, M)) := Lib.hid (by unfold chunkS; rw [← HML.out]; exact if_pos h1)
      clear hWL hML hM hW hn1 hn2 h1
      rw [HR.out]
      go_enter Tryd.func28, Tryd.ntmps28
      go_wp2_with (go_at_call 35; refine (sizeOf_any t _ HG.out (by omega)).mono ?_; unfold SizePost; rw [← HS.out]; rintro e w1 ⟨n', rfl, hnn, hk⟩; obtain rfl := hnn n rfl; have HK1 := Lib.hid hk; have hc0' := HC0.out w1 hk; have hc1' := HC1.out w1 hk; clear hk hnn; simp only [Option.isSome_some])
      all_goals go_ret
      all_goals exact ⟨rfl, (H.out.kp0 HK1.out).dc, HK1.out.nil _⟩
    · have h1i : ¬ (16384 : Int) < (ML : Int) + n := by omega
      have hni2 : (n : Int) ≤ 16384 := by omega
      clear hni
      by_cases h2 : WL < t.size + 1 + n
      · have h2i : (WL : Int) < (t.size : Int) + 1 + n := by omega
        have HR : Hid (chunkS W M t.size (some n) = (4, W, M)) := Lib.hid (by unfold chunkS; rw [← HML.out, ← HWL.out]; exact (if_neg h1).trans (if_pos h2))
        clear hWL hML hM hW hn1 hn2 h1 h2
        rw [HR.out]
        go_enter Tryd.func28, Tryd.ntmps28
        go_wp2_with (go_at_call 35; refine (sizeOf_any t _ HG.out (by omega)).mono ?_; unfold SizePost; rw [← HS.out]; rintro e w1 ⟨n', rfl, hnn, hk⟩; obtain rfl := hnn n rfl; have HK1 := Lib.hid hk; have hc0' := HC0.out w1 hk; have hc1' := HC1.out w1 hk; clear hk hnn; simp only [Option.isSome_some])
        all_goals go_ret
        all_goals exact ⟨rfl, (H.out.kp0 HK1.out).dc, HK1.out.nil _⟩
      · have h2i : ¬ (WL : Int) < (t.size : Int) + 1 + n := by omega
        have HR : Hid (chunkS W M t.size (some n) = (0, W.drop (t.size + 1 + n), M ++ (W.drop (t.size + 1)).take n)) := Lib.hid (by unfold chunkS; rw [← HML.out, ← HWL.out]; exact (if_neg h1).trans (if_neg h2))
        clear hWL hML hM hW hn1 hn2 h1 h2
        rw [HR.out]
        have hbase : B ≤ w.heap.size := H.out.base
        have HB := Lib.hid hbase
        have hlt : t.size + 1 + n ≤ cw := by omega
        have HLT := Lib.hid hlt
        obtain ⟨g, o, cw', ew, -, -, -⟩ := H.out.ow.posB (by simp only []; rw [← HWL.out]; omega)
        simp only [Value.slice.injEq] at ew
        obtain ⟨rfl, -, rfl⟩ := ew
        have HSB : Hid (∀ w', Kp0 w w' → Rd w' (sliced (some ⟨g, o, none⟩) (t.size + 1) (t.size + 1 + n) cw 1) (bys ((W.drop (t.size + 1)).take n))) := Lib.hid (fun w' hk => by
          have := (H.out.kp0 hk).ow.rd.cut (t.size + 1) (t.size + 1 + n) cw (by omega) (by omega) hlt (Nat.le_refl _)
          simp only [] at this
          rw [bys_drop, show t.size + 1 + n - (t.size + 1) = n by omega] at this
          have e2 : ∀ l : List UInt8, (bys l).take n = bys (l.take n) := fun l => by simp [bys, List.map_take]
          rwa [e2] at this)
        have HAB : Hid ((bys M).length + (bys ((W.drop (t.size + 1)).take n)).length ≤ maxLen ∧ ((bys M).length + (bys ((W.drop (t.size + 1)).take n)).length) * 1 ≤ 140737488355328) := Lib.hid (by
          rw [bys_len, bys_len, List.length_take, ← HML.out]; unfold maxLen; omega)
        clear hlt hbase
        go_enter Tryd.func28, Tryd.ntmps28
        go_upto_region 9 with (go_at_call 35; refine (sizeOf_any t _ HG.out (by omega)).mono ?_; unfold SizePost; rw [← HS.out]; rintro e w1 ⟨n', rfl, hnn, hk⟩; obtain rfl := hnn n rfl; have HK1 := Lib.hid hk; have hc0' := HC0.out w1 hk; have hc1' := HC1.out w1 hk; clear hk hnn; simp only [Option.isSome_some])
        have HO := Lib.hid (H.out.kp0 HK1.out.drew)
        have hcA : ∀ w', Kp (fun i => (Value.slice ap ML cp).ownBlock = some i) w1.drew w' → w'.cell? ⟨b, 0, none⟩ = some (.slice (some ⟨g, o, none⟩) WL cw) := fun w' hk => hk.cell HO.out.c0 (fun e => (H.out.ap b e).1 rfl)
        have hcB : ∀ w', Kp (fun i => (Value.slice ap ML cp).ownBlock = some i) w1.drew w' → w'.cell? ⟨b, 1, none⟩ = some (.slice ap ML cp) := fun w' hk => hk.cell HO.out.c1 (fun e => (H.out.ap b e).1 rfl)
        refine wp_region_px 17 [17] (fun w' : World => Kp (fun i => (Value.slice ap ML cp).ownBlock = some i) w1.drew w') (.quiet 0 (.quiet 1 (.quiet 2 (.quiet 3 (.quiet 4 (.quiet 5 (.quiet 6 (.quiet 7 (.quiet 8 (.quiet 9 (.quiet 10 (.quiet 11 (.quiet 12 (.quiet 13 (.eff 14 (.quiet 15 (.quiet 16 (.wall 17 .done)))))))))))))))))) (by kernel_rfl) (by kernel_rfl) (by kernel_rfl) (by kernel_rfl) (fun _ d _ _ _ h => by cases d <;> exact h) (Kp.refl _ _) ?_
        iterate 13 (refine px_quiet (v := ?_) rfl (by rfl) (fun wq hwq => ?_) rfl ?_; rotate_left 1; (focus (go_simp; try (with_reducible rfl); done)); try simp only [List.setIfInBounds_toArray, List.set_cons_zero, List.set_cons_succ])
        refine px_quiet (v := sliced (some ⟨g, o, none⟩) (t.size + 1) (t.size + 1 + n) cw 1) rfl (by rfl) (fun wq hwq => run_op_cut (.tmp 43) (.tmp 44) (.tmp 47) rfl (t.size + 1) (t.size + 1 + n) rfl rfl rfl (by omega) (by rw [IntKind.wrap_i64]; omega) (by omega) HLT.out) rfl ?_
        try simp only [List.setIfInBounds_toArray, List.set_cons_zero, List.set_cons_succ]
        clear hcA hcB
        refine px_eff rfl (by rfl) (fun K hK => ?_)
        refine wp_append_ow (.tmp 39) (.tmp 48) 24 rfl Tryd.underlying24 (infoB w) rfl rfl rfl ((H.out.kp0 HK1.out.drew).op) (HSB.out _ HK1.out.drew) (bys_one _) HAB.out.1 HAB.out.2 (Nat.le_trans HB.out HK1.out.drew.size) ?_
        intro v2 w2 ho hk hb
        rw [← bys_app] at ho
        have HD := Lib.hid ((H.out.kp0 HK1.out.drew).setM hk ho hb)
        obtain ⟨a2, n2, k2, rfl⟩ := ho.sl
        have hf2 : w2.frozen? ⟨b, 1, none⟩ = false := hk.frozen' (H.out.kp0 HK1.out.drew).blk.lt ((H.out.kp0 HK1.out.drew).fz 1) (fun e => (H.out.ap b e).1 rfl)
        have hc2 : w2.cell? ⟨b, 1, none⟩ = some (.slice ap ML cp) := hk.cell ((H.out.kp0 HK1.out.drew).c1) (fun e => (H.out.ap b e).1 rfl)
        refine hK (fun x => x = w2) _ _ (fun x hx => by rw [hx]; exact hk) rfl ?_
        clear hK K ho hk hb
        try simp only [Act.put, List.setIfInBounds_toArray, List.set_cons_zero, List.set_cons_succ]
        iterate 2 (refine px_quiet (v := ?_) rfl (by rfl) (fun wq hwq => ?_) rfl ?_; rotate_left 1; (focus (go_simp; try (with_reducible rfl); done)); try simp only [List.setIfInBounds_toArray, List.set_cons_zero, List.set_cons_succ])
        refine px_wall rfl (by rfl) (fun K hK => ?_)
        go_simp
        refine hK (fun _ => True) _ _ trivial ?_
        clear hK K hc2 hf2
        refine px_done ?_
        have HK3 : Hid (Kp (FB B Z) w (w2.setCell ⟨b, 1, none⟩ (.slice a2 n2 k2))) := Lib.hid (((HK1.out.drew).nil _).tr HD.out.2)
        have HD3 := Lib.hid HD.out.1
        have HARI : Hid (t.size + 1 + n ≤ WL) := Lib.hid (by omega)
        clear HD h2i h1i hc0' hc1' hw1 hp1
        generalize w2.setCell ⟨b, 1, none⟩ (.slice a2 n2 k2) = w3 at HK3 HD3 ⊢
        generalize sliced (some ⟨g, o, none⟩) (t.size + 1) (t.size + 1 + n) cw 1 = vx
        generalize IntKind.i64.wrap ((t.size : Int) + 1 + (n : Int)) = vy
        go_wp2_with (go_at_call 21; refine (drop_anyI B Z b _ (t.size + 1 + n) _ _ (by omega) HD3.out.dc (by have := HWL.out; have := HARI.out; show t.size + 1 + n ≤ W.length; omega)).mono ?_; rintro e w4 ⟨rfl, hd, hk⟩; have HD4 := Lib.hid hd; have HK4 := Lib.hid (HK3.out.tr hk); clear hd hk)
        all_goals go_ret
        all_goals exact ⟨rfl, HD4.out, HK4.out⟩
end Go.Proofs.YtmmbhmfbhleglaaDoor
