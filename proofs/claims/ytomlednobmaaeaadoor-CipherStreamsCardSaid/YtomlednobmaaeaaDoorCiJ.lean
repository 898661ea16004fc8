/- Package cipher: streams: the next byte. -/
import Derived.Test.YtomlednobmaaeaaDoorCiI
namespace Go.Proofs.YtomlednobmaaeaaDoor
open Go Go.RowKit
section
variable {w wx : World} {g : Nat} {ks : List (BitVec 32)} {cnt last : List UInt8} {left : Int}
theorem stm_lens (h : Stm w g ks cnt last left) : (u32s ks).length = 44 ∧ (bys cnt).length = 16 ∧ (bys last).length = 16 := ⟨by rw [u32s_len, h.2.1], by rw [bys_len, h.2.2.1], by rw [bys_len, h.2.2.2]⟩
theorem stm_len (h : Stm w g ks cnt last left) : (stm ks cnt last left).length = 77 := by
  obtain ⟨e1, e2, e3⟩ := stm_lens h
  simp [stm, e1, e2, e3]
theorem Stm.setLast (h : Stm w g ks cnt last left) {new : List UInt8} (hn : new.length = 16) (hA : Blk wx g 47 ((stm ks cnt last left).take 60 ++ bys new ++ (stm ks cnt last left).drop (60 + (bys new).length))) : Stm wx g ks cnt new left := by
  obtain ⟨e1, e2, e3⟩ := stm_lens h
  refine ⟨?_, h.2.1, h.2.2.1, hn⟩
  have e4 : (bys new).length = 16 := by rw [bys_len, hn]
  have : (stm ks cnt last left).take 60 ++ bys new ++ (stm ks cnt last left).drop (60 + (bys new).length) = stm ks cnt new left := by
    rw [e4]
    simp [stm, List.take_append, List.drop_append, e1, e2, e3, List.take_of_length_le, List.drop_eq_nil_of_le]
  rw [this] at hA
  exact hA
theorem Stm.setCnt (h : Stm w g ks cnt last left) {new : List UInt8} (hn : new.length = 16) (hA : Blk wx g 47 ((stm ks cnt last left).take 44 ++ bys new ++ (stm ks cnt last left).drop (44 + (bys new).length))) : Stm wx g ks new last left := by
  obtain ⟨e1, e2, e3⟩ := stm_lens h
  refine ⟨?_, h.2.1, hn, h.2.2.2⟩
  have e4 : (bys new).length = 16 := by rw [bys_len, hn]
  have : (stm ks cnt last left).take 44 ++ bys new ++ (stm ks cnt last left).drop (44 + (bys new).length) = stm ks new last left := by
    rw [e4]
    simp [stm, List.take_append, List.drop_append, e1, e2, e3, List.take_of_length_le, List.drop_eq_nil_of_le]
  rw [this] at hA
  exact hA
theorem Stm.setLeft (h : Stm w g ks cnt last left) (n : Int) : Stm (w.setCell ⟨g, 76, none⟩ (.int .i64 n)) g ks cnt last n := by
  obtain ⟨e1, e2, e3⟩ := stm_lens h
  refine ⟨?_, h.2⟩
  have := h.1.set' 76 (.int .i64 n)
  have e : (stm ks cnt last left).set 76 (.int .i64 n) = stm ks cnt last n := by
    rw [stm, List.set_append_right _ _ (by omega), List.set_append_right _ _ (by omega), List.set_append_right _ _ (by omega), e1, e2, e3]
    rfl
  rw [e] at this
  exact this
theorem Stm.drew' (h : Stm w g ks cnt last left) : Stm w.drew g ks cnt last left := h
theorem Stm.lastC (h : Stm w g ks cnt last left) (k : Nat) {x : UInt8} (hx : last[k]? = some x) : w.cell? ⟨g, 60 + k, none⟩ = some (.int .u8 (x.toNat : Int)) := h.lastR k _ (bys_getV hx)
end
theorem infoI (w : World) : (Tryd.prog.info? 3).map (·.size) = some 1 := by kernel_rfl
def nxB (ks : List (BitVec 32)) (cnt last : List UInt8) (left : Nat) : UInt8 := if left = 0 then (aesK ks cnt).getD 0 0 else last.getD (16 - left) 0
def nxC (cnt : List UInt8) (left : Nat) : List UInt8 := if left = 0 then incB cnt else cnt
def nxL (ks : List (BitVec 32)) (cnt last : List UInt8) (left : Nat) : List UInt8 := if left = 0 then aesK ks cnt else last
def nxN (left : Nat) : Nat := if left = 0 then 15 else left - 1
attribute [local irreducible] aesK incB
set_option maxRecDepth 20000 in
set_option maxHeartbeats 4000000 in
theorem next_any (g : Nat) (ks : List (BitVec 32)) (cnt last : List UInt8) (left : Nat) (w : World) (hs : Stm w g ks cnt last left) (hl : left ≤ 16) (hq : Sqr w) (hg : g ≠ 0) :
    Calls Tryd.prog 19 #[.pointer (some ⟨g, 0, none⟩)] w fun e w' => e = .returned (.int .u8 ((nxB ks cnt last left).toNat : Int)) ∧ Stm w' g ks (nxC cnt left) (nxL ks cnt last left) (nxN left : Nat) ∧ Kp (fun b => b = g) w w' := by
  have HS := Lib.hid hs
  have HQ := Lib.hid hq
  have hL := hs.leftC
  by_cases h0 : left = 0
  · have HX : Hid (∃ x, (aesK ks cnt)[0]? = some x ∧ nxB ks cnt last left = x ∧ nxC cnt left = incB cnt ∧ nxL ks cnt last left = aesK ks cnt ∧ ((nxN left : Nat) : Int) = ((16 : Nat) : Int) - 1) := Lib.hid (by
      refine ⟨_, getD_some (by rw [aesK_len hs.2.1]; omega) 0, ?_⟩
      unfold nxB nxC nxL nxN
      simp only [if_pos h0]
      exact ⟨trivial, trivial, trivial, rfl⟩)
    have HBL := Lib.hid (aesK_len hs.2.1 cnt)
    have HIL : Hid ((incB cnt).length = 16) := Lib.hid (by rw [incB_len]; exact hs.2.2.1)
    obtain ⟨x, HKX', e1, e2, e3, e4⟩ := HX.out
    rw [e1, e2, e3, e4]
    have HKX := Lib.hid HKX'
    obtain ⟨blk, hblk⟩ : ∃ b, b = aesK ks cnt := ⟨_, rfl⟩
    obtain ⟨ci, hci⟩ : ∃ b, b = incB cnt := ⟨_, rfl⟩
    have HE1 := Lib.hid hblk
    have HE2 := Lib.hid hci
    rw [← hblk] at HKX HBL ⊢
    rw [← hci] at HIL ⊢
    subst h0
    clear HX hs hq hl HKX' e1 e2 e3 e4 hblk hci
    go_enter Tryd.func19, Tryd.ntmps19
    go_upto_region 3 with (first
      | (refine wpList_load_mid rfl 23 (.tmp 14) rfl g 44 rfl (bys cnt) _ HS.out.cntR Tryd.underlying23 rfl (info16 HS.out.2.2.1) ?_)
      | (go_at_call 10; refine (blk_any g ks cnt last _ cnt _ HS.out HS.out.2.2.1 HQ.out).mono ?_; rintro e w1 ⟨rfl, hk⟩; rw [← HE1.out]; have HK1 := Lib.hid hk; have HS1 := Lib.hid (HS.out.kp0 hk); clear hk)
      | (refine wl_store_part rfl 23 (.tmp 18) (.tmp 16) rfl g 60 _ _ (bys blk) rfl rfl HS1.out.1 (info16 HBL.out) (by rw [stm_len HS1.out, bys_len, HBL.out]; decide) (bys_onesV _) ?_
         intro w7 hA7 hK7
         have HS2 := Lib.hid (HS1.out.setLast HBL.out hA7)
         have HK2 : Hid (Kp (fun b => b = g) w w7) := Lib.hid ((HK1.out.nil (fun b => b = g)).tr hK7)
         have hL2 := HS2.out.leftC
         have hF2 := HS2.out.frozen 76
         clear hA7 hK7))
    have HS3 := Lib.hid (HS2.out.setLeft 16)
    have HK3 : Hid (Kp (fun b => b = g) w (w7.setCell ⟨g, 76, none⟩ (.int .i64 16))) := Lib.hid (HK2.out.setCell (p := ⟨g, 76, none⟩) (fun _ => rfl) _)
    clear hL2 hF2 HS2 HS1 hL
    generalize (w7.setCell ⟨g, 76, none⟩ (.int .i64 16)) = w8 at HS3 HK3 ⊢
    go_upto_region 4 with (first
      | (refine wpList_load_mid rfl 23 (.tmp 24) rfl g 44 rfl (bys cnt) _ HS3.out.cntR Tryd.underlying23 rfl (info16 HS3.out.2.2.1) ?_)
      | (go_at_call 29; refine (one_any cnt _ HS3.out.2.2.1).mono ?_; rintro e w9 ⟨rfl, hk⟩; rw [← HE2.out]; have HS4 := Lib.hid (HS3.out.kp0 hk); have HK4 : Hid (Kp (fun b => b = g) w w9) := Lib.hid (HK3.out.tr (hk.nil _)); clear hk)
      | (refine wl_store_part rfl 23 (.tmp 28) (.tmp 26) rfl g 44 _ _ (bys ci) rfl rfl HS4.out.1 (info16 HIL.out) (by rw [stm_len HS4.out, bys_len, HIL.out]; decide) (bys_onesV _) ?_
         intro w10 hA7 hK7
         have HS9 := Lib.hid (HS4.out.setCnt HIL.out hA7)
         have HK9 : Hid (Kp (fun b => b = g) w w10) := Lib.hid (HK4.out.tr hK7)
         clear hA7 hK7))
    have hL1 := HS9.out.leftC
    have hLf := HS9.out.frozen 76
    have hcx : w10.cell? ⟨g, 60, none⟩ = some (.int .u8 (x.toNat : Int)) := HS9.out.lastC 0 HKX.out
    simp only [Act.put]
    clear HS HS3 HS4 HK1 HK2 HK3 HK4 HE1 HE2 HKX
    go_region
    go_wp2
    go_ret
    exact ⟨rfl, HS9.out.drew'.setLeft _, HK9.out.drew.setCell (p := ⟨g, 76, none⟩) (fun _ => rfl) _⟩
  · have HX : Hid (∃ x, last[16 - left]? = some x ∧ nxB ks cnt last left = x ∧ nxC cnt left = cnt ∧ nxL ks cnt last left = last ∧ ((nxN left : Nat) : Int) = (left : Int) - 1) := Lib.hid (by
      refine ⟨_, getD_some (by rw [hs.2.2.2]; omega) 0, ?_⟩
      unfold nxB nxC nxL nxN
      simp only [if_neg h0]
      exact ⟨trivial, trivial, trivial, by omega⟩)
    obtain ⟨x, HKX', e1, e2, e3, e4⟩ := HX.out
    rw [e1, e2, e3, e4]
    obtain ⟨k, hk⟩ : ∃ k, k = 16 - left := ⟨_, rfl⟩
    rw [← hk] at HKX'
    have hk1 : (16 : Int) - (left : Int) = (k : Int) := by omega
    have hk2 : (k : Int) < 16 := by omega
    have hl1 : (left : Int) ≤ 16 := by omega
    have hl2 : 0 < (left : Int) := by omega
    have hl3 : ((left : Int) == 0) = false := by rw [beq_eq_false_iff_ne]; omega
    have hcx : w.cell? ⟨g, 60 + k, none⟩ = some (.int .u8 (x.toNat : Int)) := hs.lastC k HKX'
    have hLf := hs.frozen 76
    clear HX hs hq hl HKX' e1 e2 e3 e4 h0 hk
    go_enter Tryd.func19, Tryd.ntmps19
    go_wp2
    go_region
    go_wp2
    go_ret
    exact ⟨rfl, HS.out.setLeft _, ((Kp.refl (fun b => b = g) w).setCell (p := ⟨g, 76, none⟩) (fun _ => rfl) _).drew⟩
end Go.Proofs.YtomlednobmaaeaaDoor
