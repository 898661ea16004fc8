/- Package packet: a packet is written. Package packet: Write. -/
import Derived.Test.YtnbfedmecmdjlaaDoorGp
namespace Go.Proofs.YtnbfedmecmdjlaaDoor
open Go Go.RowKit
def padN (n u : Nat) : Nat := 4 + (u - (9 + n) % u) % u
theorem padN_le (n u : Nat) (hu : 0 < u) : 4 ≤ padN n u ∧ padN n u < 4 + u := by
  have := Nat.mod_lt (u - (9 + n) % u) hu
  unfold padN
  omega
theorem unitD_or (d : Dn) : unitD d = 8 ∨ unitD d = 16 := by
  unfold unitD
  split
  · exact .inl rfl
  · exact .inr rfl
def padD (d : Dn) (n : Nat) : Nat := padN n (unitD d)
theorem padD_le (d : Dn) (n : Nat) : 4 ≤ padD d n ∧ padD d n < 20 := by
  have h1 := unitD_or d
  have h2 := padN_le n (unitD d) (by omega)
  unfold padD
  omega
set_option maxRecDepth 20000 in
theorem pad_any (n u : Nat) (w : World) (hn : n ≤ 1000000) (hu : u = 8 ∨ u = 16) :
    Calls Tryd.prog 36 #[.int .i64 (n : Int), .int .i64 (u : Int)] w fun e w' => e = .returned (.int .i64 (padN n u : Int)) ∧ w = w' := by
  obtain ⟨r, hr⟩ : ∃ r, r = (9 + n) % u := ⟨_, rfl⟩
  obtain ⟨q, hq⟩ : ∃ q, q = (u - r) % u := ⟨_, rfl⟩
  have hp : padN n u = 4 + q := by unfold padN; rw [← hr, ← hq]
  have e1 : (5 + (n : Int) + 4) % (u : Int) = (r : Int) := by rcases hu with rfl | rfl <;> omega
  have e1' : (9 + (n : Int)) % (u : Int) = (r : Int) := by rcases hu with rfl | rfl <;> omega
  have hru : r < u := by rcases hu with rfl | rfl <;> omega
  have e2 : ((u : Int) - (r : Int)) % (u : Int) = (q : Int) := by rcases hu with rfl | rfl <;> omega
  have i1 : 8 ≤ (u : Int) := by omega
  have i2 : (u : Int) ≤ 16 := by omega
  have i3 : (r : Int) < u := by omega
  have i4 : (q : Int) ≤ 16 := by have : q < u := by (rcases hu with rfl | rfl <;> omega)
                                 omega
  rw [hp]
  clear hr hq hp hu
  go_enter Tryd.func36, Tryd.ntmps36
  go_wp2
  go_ret
  exact ⟨by simp, rfl⟩
/-- A packet ahead of being sealed. -/
def plainB (d : Dn) (l s : List UInt8) : List UInt8 := be4 (1 + l.length + padD d l.length) ++ [UInt8.ofNat (padD d l.length)] ++ l ++ (drawB s d.num).take (padD d l.length)
theorem plainB_len (d : Dn) (l s : List UInt8) : (plainB d l s).length = 5 + l.length + padD d l.length := by
  have := (padD_le d l.length).2
  simp only [plainB, List.length_append, be4_l4, List.length_singleton, List.length_take, drawB_len]
  omega
theorem bys_take (l : List UInt8) (n : Nat) : (bys l).take n = bys (l.take n) := by simp [bys, List.map_take]
attribute [local irreducible] padD drawB
set_option maxRecDepth 20000 in
set_option maxHeartbeats 8000000 in
theorem plain_any (B b : Nat) (T : TypeId) (rest : List Value) (d : Dn) (sg : Option Nat) (v : Value) (l : List UInt8) (s : ByteArray) (w : World) (h : DirM B w b T rest d sg) (ht : TabM B w) (hv : Rd w v (bys l)) (hl : l.length ≤ 100000) (hs : s.size ≤ 140737488351232) :
    Calls Tryd.prog 21 #[.pointer (some ⟨b, 0, none⟩), v, .string s] w fun e w' => ∃ v', e = .returned v' ∧ Own w.heap.size 5 w' v' (bys (plainB d l s.toList)) ∧ Kp0 w w' := by
  obtain ⟨ao, cap, rfl, -, -, -⟩ := hv.shapeB
  have H := Lib.hid h
  have HT := Lib.hid ht
  have HV := Lib.hid hv
  have HS := Lib.hid hs
  have HL := Lib.hid hl
  have hpd := (padD_le d l.length)
  have HPD := Lib.hid hpd
  obtain ⟨p, hp⟩ : ∃ p, p = padD d l.length := ⟨_, rfl⟩
  have HPE : Hid (padN l.length (unitD d) = p) := Lib.hid (by rw [hp]; unfold padD; rfl)
  rw [← hp] at HPD hpd
  have HPP := Lib.hid hp
  have hll : (l.length : Int) ≤ 100000 := by omega
  have hp1 : (p : Int) < 20 := by omega
  obtain ⟨N, hN⟩ : ∃ N, N = 1 + l.length + p := ⟨_, rfl⟩
  have hNi : 1 + (l.length : Int) + (p : Int) = (N : Int) := by omega
  have hNm : (N : Int) % 4294967296 = (N : Int) := by omega
  have HN := Lib.hid hN
  obtain ⟨y, hy⟩ : ∃ y, y = UInt8.ofNat p := ⟨_, rfl⟩
  have hyn : y.toNat = p := by rw [hy, UInt8.toNat_ofNat']; omega
  have HYV : Hid (bys [y] = [.int .u8 (p : Int)]) := Lib.hid (by simp [bys, hyn])
  have HY := Lib.hid hy
  have HNN := Lib.hid h.num
  have hq := h.num'
  have hqn : (d.num : Int) % 18446744073709551616 = (d.num : Int) := by have := h.num; omega
  clear h ht hv hs hl hp hN hy hpd hyn
  go_enter Tryd.func21, Tryd.ntmps21
  go_upto_region 2 with (first
    | (go_at_call 37; refine (unit_any B b T rest d sg _ H.out).mono ?_; rintro e w2 ⟨rfl, rfl⟩)
    | (go_at_call 36; refine (pad_any l.length (unitD d) _ (by have := HL.out; omega) (unitD_or d)).mono ?_; rintro e w2 ⟨rfl, rfl⟩; rw [HPE.out]))
  go_upto_region 3 with (first
    | (go_at_call 38; refine (draw_any s d.num _ HT.out.sqd HT.out.cub HS.out (by have := HNN.out; omega)).mono ?_; rintro e w3 ⟨rfl, hk⟩; have HK3 := Lib.hid hk; clear hk)
    | (refine wl_alloc_as asB32 rfl rfl ?_
       intro w4 g8 hw hg
       have HB4 : Hid (Bks w w4 [(g8, 26, bys zb32)]) := Lib.hid (by rw [hw]; exact ((Bks.nil w).kp0 HK3.out).push 26 (bys zb32) hg)
       clear hw hg)
    | (refine wl_store_blk rfl 26 (.tmp 8) (.tmp 24) rfl g8 _ (bys zb32) (bys (drawB s.toList d.num)) rfl rfl (HB4.out.at 0 rfl) (infoB32 (drawB_len _ _)) (len_of (T := 26) (infoB32 (l := zb32) rfl) (infoB32 (drawB_len s.toList d.num))) (bys_onesV _) ?_
       intro w5 hA hK
       have HB5 : Hid (Bks w w5 [(g8, 26, bys (drawB s.toList d.num))]) := Lib.hid (HB4.out.store 0 rfl hA hK)
       clear hA hK))
  simp only [Act.put]
  clear HK3 HB4 hq
  go_upto_region 4 with (go_at_call 39
                         refine (u32_any (.slice none 0 0) [] N _ (Rd.nil _) (by have := HN.out; have := HPD.out; have := HL.out; omega) (by simp)).mono ?_
                         rintro e w6 ⟨v6, rfl, ho, hk⟩
                         rw [List.nil_append] at ho
                         have HO6 := Lib.hid ho
                         have HK6 := Lib.hid hk
                         clear ho hk)
  obtain ⟨a6, c6, e6, -, -, -⟩ := HO6.out.rd.shapeB
  subst e6
  go_upto_region 5 with (at_builtin
                         refine wl_append_own rfl (.tmp 32) (.tmp 35) 32 rfl (B := w5.heap.size) (e := 5) (bytes := 1) (z := .int .u8 0) (xs := bys (be4 N)) (ys := [.int .u8 (p : Int)]) Tryd.underlying32 infoU8' rfl rfl rfl (HO6.out.keep0 ((Kp.refl _ _).alloc _)) (rdSlice w6 [.int .u8 (p : Int)] 1 5 rfl (by decide)) (by rw [← HYV.out]; exact bys_one _) (by rw [bys_len, be4_l4]; simp [maxLen]) (by rw [bys_len, be4_l4]; simp) (by have := HK6.out.size; simp; omega) ?_
                         intro v7 w7 ho hg
                         rw [← HYV.out, ← bys_app] at ho
                         have HO7 := Lib.hid ho
                         have HK7 : Hid (Kp0 w5 w7) := Lib.hid ((HK6.out.alloc _).grown hg (fun k hk hlt => absurd (HO6.out.lt k hk).1 (by omega)))
                         clear ho hg)
  obtain ⟨a7, c7, e7, -, -, -⟩ := HO7.out.rd.shapeB
  subst e7
  go_upto_region 6 with (at_builtin
                         refine wl_append_own rfl (.tmp 37) (.tmp 38) 32 rfl (B := w5.heap.size) (e := 5) (bytes := 1) (z := .int .u8 0) (xs := bys (be4 N ++ [y])) (ys := bys l) Tryd.underlying32 infoU8' rfl rfl rfl HO7.out (HV.out.keep0 (HB5.out.kp.tr HK7.out)) (bys_one _) (by have := HL.out; rw [bys_len, bys_len, List.length_append, be4_l4]; simp only [maxLen, List.length_singleton]; omega) (by have := HL.out; rw [bys_len, bys_len, List.length_append, be4_l4]; simp only [List.length_singleton]; omega) HK7.out.size ?_
                         intro v8 w8 ho hg
                         rw [← bys_app] at ho
                         have HO8 := Lib.hid ho
                         have HK8 : Hid (Kp0 w5 w8) := Lib.hid (HK7.out.grown hg (fun k hk hlt => absurd (HO7.out.lt k hk).1 (by omega)))
                         clear ho hg)
  obtain ⟨a8, c8, e8, -, -, -⟩ := HO8.out.rd.shapeB
  subst e8
  have hp32 : (p : Int) ≤ 32 := by omega
  have hpne : ¬ 32 = p := by omega
  have hnr : Rd w8 (.slice (some ⟨g8, 0, none⟩) p 32) (bys ((drawB s.toList d.num).take p)) := by
    have h1 := (rd_blk (n := 32) ((HB5.out.kp0 HK8.out).at 0 rfl) (drawB_len _ _)).cut 0 p 32 (Nat.zero_le _) (by omega) (by omega) (Nat.le_refl _)
    rw [List.drop_zero, Nat.sub_zero, bys_take] at h1
    simpa [sliced, Addr.add_lit] using h1
  have HNR := Lib.hid hnr
  clear hnr
  go_wp2_with (at_builtin
               refine wl_append_own rfl (.tmp 40) (.tmp 42) 32 rfl (B := w5.heap.size) (e := 5) (bytes := 1) (z := .int .u8 0) (xs := bys (be4 N ++ [y] ++ l)) (ys := bys ((drawB s.toList d.num).take p)) Tryd.underlying32 infoU8' rfl rfl rfl HO8.out HNR.out (bys_one _) (by have := HL.out; rw [bys_len, bys_len, List.length_append, List.length_append, be4_l4, List.length_take, drawB_len]; simp only [maxLen, List.length_singleton]; omega) (by have := HL.out; rw [bys_len, bys_len, List.length_append, List.length_append, be4_l4, List.length_take, drawB_len]; simp only [List.length_singleton]; omega) HK8.out.size ?_
               intro v9 w9 ho hg
               rw [← bys_app] at ho
               have HO9 := Lib.hid ho
               have HK9 : Hid (Kp0 w5 w9) := Lib.hid (HK8.out.grown hg (fun k hk hlt => absurd (HO8.out.lt k hk).1 (by omega)))
               clear ho hg)
  go_ret
  refine ⟨_, rfl, ?_, HB5.out.kp.tr HK9.out⟩
  have := HO9.out.base HB5.out.kp.size
  rw [HY.out, HN.out, HPP.out] at this
  exact this
end Go.Proofs.YtnbfedmecmdjlaaDoor
namespace Go.Proofs.YtnbfedmecmdjlaaDoor
open Go Go.RowKit
/-- A packet, sealed; the direction behind it. -/
def sealB (d : Dn) (l s : List UInt8) : List UInt8 := turnB d (plainB d l s) ++ codeB d (plainB d l s)
def wroteD (d : Dn) (l s : List UInt8) : Dn := stepD (gone d (plainB d l s).length)
theorem sealB_len (d : Dn) (l s : List UInt8) : (sealB d l s).length = 5 + l.length + padD d l.length + tailD d := by
  rw [sealB, List.length_append, turnB_len, codeB_len, plainB_len]
theorem codeB_gone (d : Dn) (n : Nat) (l : List UInt8) : codeB (gone d n) l = codeB d l := by
  obtain ⟨h1, _, h3⟩ := gone_key d n
  unfold codeB
  rw [h1, h3]
  have : (gone d n).key.isNone = d.key.isNone := by
    unfold gone
    split
    · rfl
    · rename_i h
      simp [h]
  rw [this]
set_option maxRecDepth 20000 in
/-- A writer that is none. -/
theorem write_nil (v : Value) (s : ByteArray) (w : World) (hv : ∃ a n c, v = .slice a n c) : Calls Tryd.prog 10 #[.pointer none, v, .string s] w fun e w' => e = .returned (.tuple #[.slice none 0 0, .int .i64 2]) ∧ w = w' := by
  obtain ⟨a, n, c, rfl⟩ := hv
  go_enter Tryd.func10, Tryd.ntmps10
  go_wp2
  go_ret2
  exact ⟨rfl, rfl⟩
set_option maxRecDepth 20000 in
theorem write_no (b : Nat) (v : Value) (l : List UInt8) (s : ByteArray) (w : World) (hv : Rd w v (bys l)) (hl : l.length = 0 ∨ 2048 < l.length) (hm : l.length ≤ 9223372036854775807) :
    Calls Tryd.prog 10 #[.pointer (some ⟨b, 0, none⟩), v, .string s] w fun e w' => e = .returned (.tuple #[.slice none 0 0, .int .i64 2]) ∧ w = w' := by
  obtain ⟨a, c, rfl, -, -, -⟩ := hv.shapeB
  clear hv
  rcases hl with h | h
  · rw [h]
    clear h hm
    go_enter Tryd.func10, Tryd.ntmps10
    go_wp2
    go_ret2
    exact ⟨rfl, rfl⟩
  · obtain ⟨n, hn⟩ : ∃ n, n = l.length := ⟨_, rfl⟩
    rw [← hn] at h hm ⊢
    have h1 : 2048 < (n : Int) := by omega
    have h2 : (n : Int) ≤ 9223372036854775807 := by omega
    have h3 : ((n : Int) == 0) = false := by rw [beq_eq_false_iff_ne]; omega
    clear hn h hm
    go_enter Tryd.func10, Tryd.ntmps10
    go_wp2
    go_ret2
    exact ⟨rfl, rfl⟩
set_option maxRecDepth 20000 in
set_option maxHeartbeats 8000000 in
theorem write_any (B b : Nat) (T : TypeId) (rest : List Value) (d : Dn) (sg : Option Nat) (v : Value) (l : List UInt8) (s : ByteArray) (w : World) (h : DirM B w b T rest d sg) (ht : TabM B w) (hv : Rd w v (bys l)) (hl : 0 < l.length ∧ l.length ≤ 2048) (hs : s.size ≤ 140737488351232) (hcn : d.cnt ≤ 1000000000000) :
    Calls Tryd.prog 10 #[.pointer (some ⟨b, 0, none⟩), v, .string s] w fun e w' => ∃ v', e = .returned (.tuple #[v', .int .i64 0]) ∧ Ow w.heap.size 5 w' v' (bys (sealB d l s.toList)) ∧ DirM B w' b T rest (wroteD d l s.toList) sg ∧ Kp (fun k => k = b ∨ sg = some k) w w' := by
  obtain ⟨bb, oo, cap, rfl, -, -, -⟩ := hv.posB hl.1
  have H := Lib.hid h
  have HT := Lib.hid ht
  have HV := Lib.hid hv
  have HS := Lib.hid hs
  have HL := Lib.hid hl
  have HCN := Lib.hid hcn
  have h1 : (l.length : Int) ≤ 2048 := by omega
  have h3 : ((l.length : Int) == 0) = false := by rw [beq_eq_false_iff_ne]; omega
  have h4 : ¬ l.length = 0 := by omega
  have h5 : ¬ 2048 < l.length := by omega
  have HPL : Hid ((plainB d l s.toList).length ≤ 3000) := Lib.hid (by rw [plainB_len]; have := padD_le d l.length; omega)
  have HWD : Hid (wroteD d l s.toList = stepD (gone d (plainB d l s.toList).length)) := Lib.hid rfl
  have HSE : Hid (sealB d l s.toList = turnB d (plainB d l s.toList) ++ codeB d (plainB d l s.toList)) := Lib.hid rfl
  obtain ⟨P, hP⟩ : ∃ P, P = plainB d l s.toList := ⟨_, rfl⟩
  have HPE := Lib.hid hP
  rw [← hP] at HPL HWD HSE
  have HTL : Hid ((turnB d P).length + (codeB d P).length ≤ 4000 ∧ (turnB d P).length = P.length) := Lib.hid (by
    rw [turnB_len, codeB_len]
    have := HPL.out
    unfold tailD
    split <;> omega)
  clear h ht hv hl hs hcn hP
  go_enter Tryd.func10, Tryd.ntmps10
  go_upto_region 4 with (go_at_call 21
                         refine (plain_any B b T rest d sg _ l s _ H.out HT.out HV.out (by have := HL.out; omega) HS.out).mono ?_
                         rintro e w2 ⟨v2, rfl, ho, hk⟩
                         rw [← HPE.out] at ho
                         have HO2 := Lib.hid ho
                         have HK2 := Lib.hid hk
                         clear ho hk)
  refine wp_region_px 12 [] (fun _ : World => True) (.quiet 0 (.quiet 1 (.quiet 2 (.quiet 3 (.quiet 5 (.quiet 6 (.quiet 7 (.quiet 8 (.eff 4 (.eff 9 (.eff 10 (.quiet 11 .done)))))))))))) (by kernel_rfl) (by kernel_rfl) (by kernel_rfl) (by kernel_rfl) (fun _ d _ _ _ h => by cases d <;> exact h) trivial ?_
  iterate 8 (refine px_quiet (v := ?_) rfl (by rfl) (fun wq hwq => ?_) rfl ?_; rotate_left 1; (focus (go_simp; try (with_reducible rfl); done)); try simp only [List.setIfInBounds_toArray, List.set_cons_zero, List.set_cons_succ])
  refine px_eff rfl (by rfl) (fun K hK => ?_)
  go_simp
  refine (turned_any B b T rest d sg v2 P w2.drew (H.out.kp0 HK2.out.drew) (HT.out.kp0 HK2.out.drew) HO2.out.rd.drew (fun _ k hk e => ?_) (by have := HPL.out; omega)).mono ?_
  · have h1 := (HO2.out.lt k hk).1
    rcases H.out.key.none_iff with ⟨_, h2⟩ | ⟨_, _, _, g, _, h2, h3, _⟩
    · rw [h2] at e; cases e
    · rw [h2] at e
      have := h3.lt
      cases e
      omega
  rintro e w3 ⟨v3, rfl, ho, hd, hk⟩
  simp only []
  have HSZ : Hid (w2.heap.size ≤ w3.heap.size) := Lib.hid hk.size
  have HO3 := Lib.hid ho
  have HD3 := Lib.hid hd
  have HK3 : Hid (Kp (fun k => k = b ∨ sg = some k) w w3) := Lib.hid ((HK2.out.drew.nil _).trans hk (fun _ _ h => h) (fun _ _ h => .inr h))
  have HT3 : Hid (TabM B w3) := Lib.hid (HT.out.keep HK3.out (fun k hk => by
    rcases hk with rfl | e
    · exact H.out.ge
    · rcases H.out.key.none_iff with ⟨_, h2⟩ | ⟨_, _, _, g, _, h2, _, _, h4⟩
      · rw [h2] at e; cases e
      · rw [h2] at e; cases e; exact h4))
  have HP3 : Hid (Rd w3 v2 (bys P)) := Lib.hid (HO2.out.rd.drew.keep hk (fun k hk _ e => by
    have h1 := (HO2.out.lt k hk).1
    rcases H.out.key.none_iff with ⟨_, h2⟩ | ⟨_, _, _, g, _, h2, h3, _⟩
    · rw [h2] at e; cases e
    · rw [h2] at e
      have := h3.lt
      cases e
      omega))
  refine hK (fun _ => True) _ _ (fun _ h => h) trivial ?_
  clear hK K ho hd hk
  try simp only [List.setIfInBounds_toArray, List.set_cons_zero, List.set_cons_succ]
  refine px_eff rfl (by rfl) (fun K hK => ?_)
  go_simp
  refine (code_any B b T rest _ sg v2 P w3 HD3.out HT3.out HP3.out (by have := HPL.out; omega)).mono ?_
  rintro e w4 ⟨v4, rfl, hr, hk⟩
  rw [codeB_gone] at hr
  simp only []
  have HR4 := Lib.hid hr
  have HK4 := Lib.hid hk
  refine hK (fun _ => True) _ _ (fun _ h => h) trivial ?_
  clear hK K hr hk
  try simp only [List.setIfInBounds_toArray, List.set_cons_zero, List.set_cons_succ]
  refine px_eff rfl (by rfl) (fun K hK => ?_)
  refine wp_append_ow (.tmp 30) (.tmp 35) 32 rfl (B := w.heap.size) Tryd.underlying32 infoU8' rfl rfl rfl (Ow.of_own ((HO3.out.base (show w.heap.size ≤ w2.drew.heap.size from HK2.out.size)).keep0 HK4.out)) HR4.out (bys_one _) (by have := HTL.out; rw [bys_len, bys_len]; unfold maxLen; omega) (by have := HTL.out; rw [bys_len, bys_len]; omega) (Nat.le_trans HK3.out.size HK4.out.size) ?_
  intro v5 w5 ho hk hb
  rw [← bys_app, ← HSE.out] at ho
  have HO5 := Lib.hid ho
  have HNB : Hid (∀ k, v3.ownBlock = some k → w2.heap.size ≤ k) := Lib.hid (fun k hk => (HO3.out.lt k hk).1)
  have HBL : Hid (b < w2.heap.size ∧ ∀ g, sg = some g → g < w2.heap.size) := Lib.hid ⟨(H.out.blk.kp0 HK2.out).lt, fun g hg => by
    rcases H.out.key.none_iff with ⟨_, h2⟩ | ⟨_, _, _, g', _, h2, h3, _⟩
    · rw [h2] at hg; cases hg
    · rw [h2] at hg
      have := h3.lt
      have := HK2.out.size
      cases hg
      omega⟩
  have HD5 := Lib.hid ((HD3.out.kp0 HK4.out).keep hk (fun e => by have := HNB.out _ e; have := HBL.out.1; omega) (fun g hg e => by have := HNB.out _ e; have := HBL.out.2 g hg; omega))
  have HK5 : Hid (Kp (fun k => k = b ∨ sg = some k) w w5) := Lib.hid ((HK3.out.tr (HK4.out.nil _)).trans hk (fun _ _ h => h) (fun i hi e => by have := HNB.out _ e; have := HK2.out.size; omega))
  have HOB : Hid (∀ k, v5.ownBlock = some k → w2.heap.size ≤ k) := Lib.hid (fun k hk => by
    rcases hb k hk with e | e
    · exact HNB.out k e
    · have h1 := HK4.out.size
      have h2 := (HK3.out.size)
      have h3 : w2.heap.size ≤ w3.heap.size := HSZ.out
      omega)
  refine hK (fun _ => True) _ _ (fun _ h => h) trivial ?_
  clear hK K ho hk hb
  simp only [Act.put, List.getElem_toArray, List.getElem_cons_succ, List.getElem_cons_zero]
  simp only [List.setIfInBounds_toArray, List.set_cons_zero, List.set_cons_succ]
  refine px_quiet (v := v5) rfl (by rfl) (fun wq hwq => by go_simp) rfl (px_done ?_)
  go_wp2_with (go_at_call 24; refine (step_any B b T rest _ sg _ HD5.out (by rw [(gone_key d P.length).2.1]; exact HCN.out)).mono ?_; rintro e w6 ⟨rfl, k1, k2⟩; have HD6 := Lib.hid k1; have HK6 := Lib.hid k2; clear k1 k2)
  go_ret2
  refine ⟨_, rfl, ?_, ?_, HK5.out.trans HK6.out (fun _ _ h => h) (fun _ _ h => .inl h)⟩
  · exact HO5.out.keep HK6.out (fun k hk _ _ e => by have := HOB.out k hk; have := HBL.out.1; omega)
  · rw [HWD.out]
    exact HD6.out
end Go.Proofs.YtnbfedmecmdjlaaDoor
