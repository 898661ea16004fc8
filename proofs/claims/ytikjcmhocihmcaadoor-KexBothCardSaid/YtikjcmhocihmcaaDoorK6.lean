/- Package digest: block by block. Package digest: the small hash. Package digest: a key's block, a mask, a draw. Package digest: a draw; a key's block. -/
import Derived.Test.YtikjcmhocihmcaaDoorK5
import Derived.Test.YtikjcmhocihmcaaDoorK1
import Derived.Lib.AppendStr
namespace Go.Proofs.YtikjcmhocihmcaaDoor
open Go Go.RowKit
/-- Where the parts' bytes lie: in blocks that are there, and not the state's. -/
def FarP (gs : Nat) (w : World) (vs : List Value) (ls : List (List UInt8)) : Prop := ∀ (i : Nat) (v : Value) (l : List UInt8), vs[i]? = some v → ls[i]? = some l → 0 < l.length → ∀ b, v.ownBlock = some b → b ≠ gs ∧ b < w.heap.size
/-- The variables as they are at first. -/
theorem EbI.start {gs : Nat} {w w5 : World} (hb : Bks w w5 [(w.heap.size, 3, [.int .i64 64]), (w.heap.size + 1, 119, [.func (.func 90) #[] #[.pointer (some ⟨gs, 0, none⟩)]]), (w.heap.size + 2, 5, bys (zs 64)), (w.heap.size + 3, 24, [.slice (some ⟨w.heap.size + 2, 0, none⟩) 64 64]), (w.heap.size + 4, 3, [.int .i64 0])])
    (h : AtS gs w []) : EbI w.heap.size gs w5 [] :=
  ⟨hb.at 0 rfl, hb.at 1 rfl, ⟨zs 64, hb.at 2 rfl, by decide, by simp [re_nil]⟩, hb.at 3 rfl, hb.at 4 rfl, by rw [wh_nil]; exact h.keep hb.kp (fun h => h) (fun h => h), h.1.lt, h.2.lt⟩
theorem EbI.done {B gs : Nat} {w : World} {t : List UInt8} (h : EbI B gs w (t ++ endB 64 8 t.length)) : AtS gs w (padB 64 8 t) := by
  have := h.st
  rw [show t ++ endB 64 8 t.length = padB 64 8 t from rfl, wh_pad (by decide) (by decide)] at this
  exact this
theorem rows_take {w : World} {vs : List Value} {ls : List (List UInt8)} (h : RowsB w vs ls) {k : Nat} {v : Value} (hv : vs[k]? = some v) : ∃ l, ls[k]? = some l ∧ Rd w v (bys l) ∧ (ls.take (k + 1)).flatten = (ls.take k).flatten ++ l := by
  obtain ⟨l, h1, h2, _⟩ := h.2 k v hv
  refine ⟨l, h1, h2, ?_⟩
  rw [List.take_add_one, h1]
  simp
theorem flat_le (ls : List (List UInt8)) (k : Nat) : (ls.take k).flatten.length ≤ ls.flatten.length := by
  conv => rhs; rw [← List.take_append_drop k ls, List.flatten_append, List.length_append]
  omega
attribute [local irreducible] AtS whB reB
set_option maxRecDepth 20000 in
set_option maxHeartbeats 8000000 in
theorem each_any (gs : Nat) (pv : Value) (vs : List Value) (ls : List (List UInt8)) (w : World) (h : AtS gs w []) (hp : Rd w pv vs) (hr : RowsB w vs ls) (hf : FarP gs w vs ls)
    (hpb : 0 < vs.length → ∀ b, pv.ownBlock = some b → b ≠ gs) (hl : ls.flatten.length ≤ 900000000000000) :
    Calls Tryd.prog 89 #[.int .i64 64, pv, .func (.func 90) #[] #[.pointer (some ⟨gs, 0, none⟩)]] w
      fun e w' => e = .returned (.tuple #[]) ∧ AtS gs w' (padB 64 8 ls.flatten) ∧ Kp (fun k => k = gs) w w' := by
  have H := Lib.hid h
  have HR := Lib.hid hr
  have HF := Lib.hid hf
  have HL := Lib.hid hl
  obtain ⟨ao, cap, rfl, hc1, hc2, hc3⟩ := hp.shape
  obtain ⟨M, hM⟩ : ∃ M, M = vs.length := ⟨_, rfl⟩
  rw [← hM] at hp hpb ⊢
  have HP := Lib.hid hp
  have HPB := Lib.hid hpb
  have HM := Lib.hid hM
  have hmk : ∀ u : World, (Instr.makeSlice 24 (.int .i64 64) (.int .i64 64)).run Tryd.prog u = .ok (.slice (some ⟨u.heap.size, 0, none⟩) 64 64) (u.alloc (.cells (bys (zs 64)).toArray 5)) := fun u => mkB 64 (by decide) u
  have hmf : ∀ (fn : Fn) (first cap : Array Value) (w : World), (Instr.makeFunc fn first cap).run Tryd.prog w = .ok (.func fn first cap) w := fun _ _ _ _ => rfl
  clear h hp hr hf hpb hl hM hc1 hc2 hc3
  go_enter Tryd.func89, Tryd.ntmps89
  go_upto_region 4 with (fail)
  obtain ⟨w5, hw5⟩ : ∃ w5, w5 = (((((w.alloc (.cells #[.int .i64 64] 3)).alloc (.cells #[.func (.func 90) #[] #[.pointer (some ⟨gs, 0, none⟩)]] 119)).alloc (.cells (bys (zs 64)).toArray 5)).alloc (.cells #[.slice (some ⟨w.heap.size + 1 + 1, 0, none⟩) 64 64] 24)).alloc (.cells #[.int .i64 0] 3)) := ⟨_, rfl⟩
  rw [← hw5]
  have HB := Lib.hid (show Bks w w5 _ from by
    rw [hw5]
    exact (((((Bks.nil w).push 3 [.int .i64 64] (g := w.heap.size) rfl).push 119 [.func (.func 90) #[] #[.pointer (some ⟨gs, 0, none⟩)]] (g := w.heap.size + 1) (by simp)).push 5 (bys (zs 64)) (g := w.heap.size + 2) (by simp)).push 24 [.slice (some ⟨w.heap.size + 2, 0, none⟩) 64 64] (g := w.heap.size + 3) (by simp)).push 3 [.int .i64 0] (g := w.heap.size + 4) (by simp))
  have HI := Lib.hid (EbI.start HB.out H.out)
  have HK5 := Lib.hid HB.out.kp
  have HSZ : Hid (w.heap.size + 5 ≤ w5.heap.size) := Lib.hid (by rw [hw5]; simp)
  clear hw5 hmk hmf HB
  simp only [Nat.add_assoc, Nat.reduceAdd]
  obtain ⟨B, hB⟩ : ∃ B, B = w.heap.size := ⟨_, rfl⟩
  rw [← hB] at HI HSZ ⊢
  have HBE := Lib.hid hB
  clear hB
  have HML : Hid ((M : Int) ≤ 9223372036854775807) := Lib.hid (by
    obtain ⟨_, _, e, h1, h2, -⟩ := HP.out.shape
    simp only [Value.slice.injEq] at e
    have := HM.out
    unfold maxLen at h2
    omega)
  go_wp2
  go_loopg [16, 10] M (fun gg i _ wr => ∃ (k : Nat), i = .int .i64 k ∧ k ≤ M ∧ gg = M - k ∧ EbI B gs wr (ls.take k).flatten ∧ Kp (EbS B gs) w5 wr)
  case atStart => exact ⟨0, rfl, Nat.zero_le _, rfl, by rw [List.take_zero]; exact HI.out, Kp.refl _ _⟩
  case round =>
    obtain ⟨k, rfl, hk, rfl, hr1, hr2⟩ := hrel
    have HE := Lib.hid hr1
    have HK := Lib.hid hr2
    clear hr1 hr2
    by_cases hlt : k < M
    · have HKW := Lib.hid ((HK5.out.nil (EbS B gs)).tr HK.out)
      have hvk : vs[k]? = some (vs[k]'(by rw [← HM.out]; exact hlt)) := List.getElem?_eq_getElem _
      obtain ⟨v, hv⟩ : ∃ v, v = vs[k]'(by rw [← HM.out]; exact hlt) := ⟨_, rfl⟩
      rw [← hv] at hvk
      obtain ⟨l, hl1, hl2, hl3⟩ := rows_take HR.out hvk
      have HF1 : Hid (FarI B gs v l) := Lib.hid (fun h0 b hb => by
        have := HF.out k v l hvk hl1 h0 b hb
        have := HBE.out
        omega)
      have HV1 := Lib.hid (FarI.keep HF1.out hl2 HKW.out)
      have HSUM : Hid ((ls.take k).flatten.length + l.length ≤ 1000000000000000) := Lib.hid (by
        have h1 := flat_le ls (k + 1)
        have h2 := HL.out
        rw [hl3, List.length_append] at h1
        omega)
      have HFL := Lib.hid hl3
      have hpr : Rd wr (.slice ao M cap) vs := HP.out.keep HKW.out (fun b hb hb2 hs => by
        have h1 := HPB.out (by omega) b hb
        have h2 := HBE.out
        rcases hs with e | e | e <;> omega)
      obtain ⟨b0, o0, cp, e, -, -, -⟩ := hpr.pos (by have := HM.out; omega)
      simp only [Value.slice.injEq] at e
      obtain ⟨rfl, -, rfl⟩ := e
      have hcell := hpr.range k v hvk
      have HLT := Lib.hid hlt
      have hkM : (k : Int) < M := by omega
      have hkm := HML.out
      clear hvk hv hl1 hl2 hl3 hpr hlt hk
      go_wp2_with (go_at_call 98; refine (add_any B gs v _ l _ HE.out HV1.out HF1.out HSUM.out).mono ?_; rintro e w6 ⟨rfl, hu1, hu2⟩; have HU1 := Lib.hid hu1; have HU2 := Lib.hid hu2; clear hu1 hu2)
      have hlo := HLT.out
      go_roundg (M - (k + 1))
      case measure => omega
      case rel => exact ⟨k + 1, by go_num, by omega, rfl, by rw [HFL.out]; exact HU1.out, HK.out.tr HU2.out⟩
    · obtain rfl : k = M := by omega
      have HFA : Hid ((ls.take k).flatten = ls.flatten) := Lib.hid (by rw [List.take_of_length_le (by rw [← HR.out.1, HM.out]; exact Nat.le_refl _)])
      rw [HFA.out] at HE
      obtain ⟨t, ht⟩ : ∃ t, t = ls.flatten := ⟨_, rfl⟩
      have HT := Lib.hid ht
      rw [← ht] at HE HL
      have hq3 := HE.out.h3.cellV 0 rfl
      have hq7 := HE.out.h7.cellV 0 rfl
      clear hlt hk ht HFA
      go_wp2_with (first
        | (go_at_call 99
           refine (ending_any t.length 64 8 _ (by have := HL.out; omega) (.inl ⟨rfl, rfl⟩)).mono ?_
           rintro e w6 ⟨g, rfl, hg1, hg2, hg3⟩
           have HE6 := Lib.hid (HE.out.kp0 hg3)
           have HG1 := Lib.hid hg1
           have HG2 := Lib.hid hg2
           have HG3 := Lib.hid hg3
           have HFG : Hid (FarI B gs (.slice (some ⟨g, 0, none⟩) (endB 64 8 t.length).length (endB 64 8 t.length).length) (endB 64 8 t.length)) := Lib.hid (by
             intro _ b hb
             obtain rfl : g = b := Option.some.inj hb
             have h1 := HK.out.size
             have h2 := HSZ.out
             have h3 := HE.out.lt
             exact ⟨by omega, .inr (by omega)⟩)
           clear hg1 hg2 hg3)
        | (go_at_call 98
           refine (add_any B gs _ _ (endB 64 8 t.length) _ HE6.out (rd_blk HG1.out rfl (by rw [endB_len _ _ _ (by decide) (by decide)]; omega)) HFG.out (by rw [endB_len _ _ _ (by decide) (by decide)]; have := HL.out; omega)).mono ?_
           rintro e w7 ⟨rfl, hu1, hu2⟩
           have HU1 := Lib.hid hu1
           have HU2 := Lib.hid hu2
           clear hu1 hu2))
      go_end0
      rw [← HT.out]
      refine ⟨rfl, HU1.out.done, ?_⟩
      have h1 := ((HK5.out.nil (EbS B gs)).tr HK.out).tr ((HG3.out.nil (EbS B gs)).tr HU2.out)
      refine h1.mono (fun i hi hs => ?_)
      have h2 := HBE.out
      rcases hs with e | e | e
      · exact e
      · omega
      · omega
end Go.Proofs.YtikjcmhocihmcaaDoor
namespace Go.Proofs.YtikjcmhocihmcaaDoor
open Go Go.RowKit
def zb32 : List UInt8 := List.replicate 32 0
theorem infoB32 {l : List UInt8} (h : l.length = 32) : (Tryd.prog.info? 61).map (·.size) = some (bys l).length := by
  rw [bys_len, h]
  kernel_rfl
theorem asB32 : AllocAs 61 (bys zb32) := by
  intro w ev op ho
  unfold execOp
  simp only [ho]
  kernel_rfl
theorem bytW_len {w : Nat} (l : List (BitVec w)) (n : Nat) : (bytW l n).length = n := by simp [bytW]
theorem bytW_get {l : List (BitVec 32)} {i : Nat} (h : i < 32) : (bytW l 32)[i]? = some (UInt8.ofNat ((l.getD (i / 4) 0).toNat / 2 ^ (24 - 8 * (i % 4)))) := by
  unfold bytW
  rw [List.getElem?_map, List.getElem?_range h]
  simp only [Option.map_some, Option.some.injEq]
  rw [show 8 * i / 32 = i / 4 by omega, show 32 - 8 - 8 * i % 32 = 24 - 8 * (i % 4) by omega]
theorem sha256_len (t : List UInt8) : (sha256 t).length = 32 := bytW_len _ _
theorem hashW_len32 (t : List UInt8) : (hashW K32 64 8 t).length = 8 := blocks_len K32 64 _ _ _ (by decide)
theorem h0_len32 : K32.h0.length = 8 := by decide
/-- Where the parts' bytes lie there are blocks. -/
def ThereP (w : World) (vs : List Value) (ls : List (List UInt8)) : Prop := ∀ (i : Nat) (v : Value) (l : List UInt8), vs[i]? = some v → ls[i]? = some l → 0 < l.length → ∀ b, v.ownBlock = some b → b < w.heap.size
attribute [local irreducible] stB hashW K32 K64 AtS
set_option maxRecDepth 20000 in
set_option maxHeartbeats 8000000 in
theorem small_any (pv : Value) (vs : List Value) (ls : List (List UInt8)) (w : World) (hq : Sqd w) (hc : Cub w) (hp : Rd w pv vs) (hr : RowsB w vs ls) (hf : ThereP w vs ls)
    (hpb : 0 < vs.length → ∀ b, pv.ownBlock = some b → b < w.heap.size) (hl : ls.flatten.length ≤ 900000000000000) :
    Calls Tryd.prog 70 #[pv] w fun e w' => e = .returned (.agg (bys (sha256 ls.flatten)).toArray) ∧ Kp0 w w' := by
  have HQ := Lib.hid hq
  have HC := Lib.hid hc
  have HP := Lib.hid hp
  have HR := Lib.hid hr
  have HF := Lib.hid hf
  have HPB := Lib.hid hpb
  have HL := Lib.hid hl
  have HST : Hid (∀ i, i < 8 → (upT i z8s K32.h0)[i]? = some 0 ∧ (upT i z8s K32.h0).set i (K32.h0.getD i 0) = upT (i + 1) z8s K32.h0) := Lib.hid (fun i hi => upT_step (l := z8s) (m := K32.h0) (x := 0) (by rw [h0_len32]; rfl) (by unfold z8s; rw [List.getElem?_replicate, if_pos hi]; rfl) (getD_some (by rw [h0_len32]; exact hi) 0))
  clear hq hc hp hr hf hpb hl
  go_enter Tryd.func70, Tryd.ntmps70
  go_upto_region 1 with (refine wl_alloc_as asB32 rfl rfl ?_
                         intro w1 g2 hw hg
                         have HB1 : Hid (Bks w w1 [(g2, 61, bys zb32)]) := Lib.hid (by rw [hw]; exact (Bks.nil w).push 61 (bys zb32) hg)
                         clear hw hg)
  go_upto_region 2 with (refine wl_alloc_as as8s rfl rfl ?_
                         intro w2 g3 hw hg
                         have HB2 : Hid (Bks w w2 [(g2, 61, bys zb32), (g3, 116, w32 z8s)]) := Lib.hid (by rw [hw]; exact HB1.out.push 116 (w32 z8s) hg)
                         clear hw hg)
  simp only [Act.put]
  clear HB1
  go_wp2
  go_loopg [7, 4] 8 (fun gg i _ wr => ∃ (k : Nat), i = .int .i64 k ∧ k ≤ 8 ∧ gg = 8 - k ∧ Bks w wr [(g2, 61, bys zb32), (g3, 116, w32 (upT k z8s K32.h0))])
  case atStart => exact ⟨0, rfl, by omega, rfl, by rw [upT_zero]; exact HB2.out⟩
  case round =>
    obtain ⟨k, rfl, hk, rfl, hr⟩ := hrel
    have HB3 := Lib.hid hr
    clear hr HB2
    by_cases h : k < 8
    · obtain ⟨s1, s2⟩ := HST.out k h
      have hcx := (HB3.out.at 1 rfl).cellV k (w32_get s1)
      have hfx := blk_frozen (HB3.out.at 1 rfl) k
      obtain ⟨q, hqq⟩ : ∃ q, q = K64.h0.getD k 0 := ⟨_, rfl⟩
      obtain ⟨y, hy⟩ : ∃ y, y = K32.h0.getD k 0 := ⟨_, rfl⟩
      have hyq : y = (q >>> 32).setWidth 32 := by rw [hy, hqq]; exact hs_half h
      have hct := (HQ.out.kp0 HB3.out.kp) k _ (w64_get (hs_get h))
      rw [Nat.zero_add, ← hqq] at hct
      rw [← hy] at s2
      have e1 : (q.toNat : Int) / 4294967296 = (y.toNat : Int) := by rw [f_shr q 32 (by decide), hyq, BitVec.toNat_setWidth, Nat.mod_eq_of_lt]; rw [BitVec.toNat_ushiftRight, Nat.shiftRight_eq_div_pow]; have := q.isLt; omega
      have e2 : (y.toNat : Int) % 4294967296 = (y.toNat : Int) := by have := y.isLt; omega
      have hk8 : (k : Int) < 8 := by omega
      have HS := Lib.hid s2
      have HK := Lib.hid h
      clear s1 s2 hqq hy hyq h
      go_wp2
      have hko := HK.out
      go_roundg (8 - (k + 1))
      case measure => omega
      case rel =>
        refine ⟨k + 1, by go_num, by omega, rfl, ?_⟩
        have hx := HB3.out.set 1 rfl k (.int .u32 (y.toNat : Int))
        rw [w32_set, HS.out] at hx
        exact hx
    · obtain rfl : k = 8 := by omega
      rw [upT_all (by decide) (by rw [h0_len32]; exact Nat.le_refl _)] at HB3
      clear h hk HST
      have HAT : Hid (AtS g3 wr []) := Lib.hid (by unfold AtS; rw [stB_nil]; exact ⟨HB3.out.at 1 rfl, HC.out.kp0 HB3.out.kp⟩)
      have hmf : ∀ (fn : Fn) (first cap : Array Value) (w : World), (Instr.makeFunc fn first cap).run Tryd.prog w = .ok (.func fn first cap) w := fun _ _ _ _ => rfl
      have HGE : Hid (w.heap.size ≤ g3) := Lib.hid (HB3.out.ge 1 _ rfl)
      have HEA := Lib.hid (each_any g3 pv vs ls wr HAT.out (HP.out.keep0 HB3.out.kp) ⟨HR.out.1, fun i v hv => by obtain ⟨l, h1, h2, h3⟩ := HR.out.2 i v hv; exact ⟨l, h1, h2.keep0 HB3.out.kp, h3⟩⟩ (fun i v l h1 h2 h3 b hb => by have h4 := HF.out i v l h1 h2 h3 b hb; have h5 := HGE.out; have h6 := HB3.out.kp.size; omega) (fun h b hb => by have h4 := HPB.out h b hb; have h5 := HGE.out; omega) HL.out)
      go_upto_region 8 with (go_at_call 89
                             refine HEA.out.mono ?_
                             rintro e w4 ⟨rfl, hu1, hu2⟩
                             have HU1 := Lib.hid hu1
                             have HU2 := Lib.hid hu2
                             clear hu1 hu2)
      obtain ⟨t, ht⟩ : ∃ t, t = ls.flatten := ⟨_, rfl⟩
      have HT := Lib.hid ht
      rw [← ht] at HU1
      obtain ⟨H8, hH⟩ : ∃ H8, H8 = hashW K32 64 8 t := ⟨_, rfl⟩
      have HHL : Hid (H8.length = 8) := Lib.hid (by rw [hH, hashW_len32])
      have HSH : Hid (sha256 t = bytW H8 32) := Lib.hid (by rw [hH]; rfl)
      have HB4 : Hid (Bks w w4 [(g2, 61, bys zb32), (g3, 116, w32 H8)]) := Lib.hid (by
        have h1 := HU1.out
        unfold AtS at h1
        rw [stB_pad, ← hH] at h1
        exact HB3.out.store 1 rfl h1.1 HU2.out)
      obtain ⟨L, hL⟩ : ∃ L, L = bytW H8 32 := ⟨_, rfl⟩
      rw [← hL] at HSH
      have HST : Hid (∀ i, i < 32 → (upT i zb32 L)[i]? = some 0 ∧ (upT i zb32 L).set i (UInt8.ofNat ((H8.getD (i / 4) 0).toNat / 2 ^ (24 - 8 * (i % 4)))) = upT (i + 1) zb32 L) := Lib.hid (fun i hi => by rw [hL]; exact upT_step (l := zb32) (m := bytW H8 32) (x := 0) (by rw [bytW_len]; rfl) (by unfold zb32; rw [List.getElem?_replicate, if_pos hi]) (bytW_get hi))
      have HLL : Hid (L.length = 32) := Lib.hid (by rw [hL, bytW_len])
      clear hmf ht hH hL HB3 HU1 HU2 HEA HAT
      go_upto_region 9 with (refine wl_alloc_as asB32 rfl rfl ?_
                             intro w5 g5 hw hg
                             have HB5 : Hid (Bks w w5 [(g2, 61, bys zb32), (g3, 116, w32 H8), (g5, 61, bys zb32)]) := Lib.hid (by rw [hw]; exact HB4.out.push 61 (bys zb32) hg)
                             clear hw hg)
      simp only [Act.put]
      clear HB4
      go_wp2
      go_loopg [21, 6] 32 (fun gg i _ wr => ∃ (k : Nat), i = .int .i64 k ∧ k ≤ 32 ∧ gg = 32 - k ∧ Bks w wr [(g2, 61, bys zb32), (g3, 116, w32 H8), (g5, 61, bys (upT k zb32 L))])
      case atStart => exact ⟨0, rfl, by omega, rfl, by rw [upT_zero]; exact HB5.out⟩
      case round =>
        obtain ⟨k, rfl, hk, rfl, hr⟩ := hrel
        have HB6 := Lib.hid hr
        clear hr HB5
        by_cases h : k < 32
        · obtain ⟨s1, s2⟩ := HST.out k h
          obtain ⟨q, hqq⟩ : ∃ q, q = k / 4 := ⟨_, rfl⟩
          obtain ⟨r, hrr⟩ : ∃ r, r = k % 4 := ⟨_, rfl⟩
          obtain ⟨s, hs⟩ : ∃ s, s = 24 - 8 * r := ⟨_, rfl⟩
          obtain ⟨x, hx⟩ : ∃ x, x = H8.getD q 0 := ⟨_, rfl⟩
          obtain ⟨z, hz⟩ : ∃ z, z = x.toNat / 2 ^ s := ⟨_, rfl⟩
          obtain ⟨y, hy⟩ : ∃ y, y = UInt8.ofNat z := ⟨_, rfl⟩
          rw [← hqq, ← hrr, ← hs, ← hx, ← hz, ← hy] at s2
          have hxq : H8[q]? = some x := by rw [hx]; exact getD_some (by rw [HHL.out]; omega) 0
          have hcx := (HB6.out.at 1 rfl).cellV q (w32_get hxq)
          have hcy := (HB6.out.at 2 rfl).cellV k (bys_getV s1)
          have hfy := blk_frozen (HB6.out.at 2 rfl) k
          have e1 : (k : Int).tdiv 4 = (q : Int) := by rw [Int.tdiv_eq_ediv_of_nonneg (by omega)]; omega
          have e2 : (k : Int) % 4 = (r : Int) := by omega
          have e3 : 24 - 8 * (r : Int) = (s : Int) := by omega
          have e4 : (x.toNat : Int) / 2 ^ s = (z : Int) := by rw [hz, Int.natCast_ediv, Int.natCast_pow]; rfl
          have e5 : (z : Int) % 256 = (y.toNat : Int) := by rw [hy, UInt8.toNat_ofNat']; omega
          have i1 : (q : Int) < 8 := by omega
          have i2 : (r : Int) < 4 := by omega
          have i3 : (s : Int) < 32 := by omega
          have i4 : (k : Int) < 32 := by omega
          have HS := Lib.hid s2
          have HK := Lib.hid h
          clear s1 s2 hqq hrr hs hx hz hy h hxq
          go_wp2
          have hko := HK.out
          go_roundg (32 - (k + 1))
          case measure => omega
          case rel =>
            refine ⟨k + 1, by go_num, by omega, rfl, ?_⟩
            have hx := HB6.out.set 2 rfl k (.int .u8 (y.toNat : Int))
            rw [bys_setV, HS.out] at hx
            exact hx
        · obtain rfl : k = 32 := by omega
          rw [upT_all (by decide) (by rw [HLL.out]; exact Nat.le_refl _)] at HB6
          clear h hk HST
          go_wp2_with (first
            | (refine wl_load_blk rfl 61 (.tmp 5) rfl g5 _ (bys L) rfl (HB6.out.at 2 rfl) _ Tryd.underlying61 rfl (infoB32 HLL.out) ?_)
            | (refine wl_store_blk rfl 61 (.tmp 2) (.tmp 37) rfl g2 _ (bys zb32) (bys L) rfl rfl (HB6.out.at 0 rfl) (infoB32 HLL.out) (len_of (T := 61) (infoB32 (l := zb32) rfl) (infoB32 HLL.out)) (bys_onesV _) ?_
               intro w8 hA8 hK8
               have HB8 := Lib.hid (HB6.out.store 0 rfl hA8 hK8)
               clear hA8 hK8))
          refine ret_blk 2 61 61 g2 (bys L) _ rfl rfl (HB8.out.at 0 rfl) Tryd.underlying61 rfl (infoB32 HLL.out) rfl ?_
          exact ⟨by rw [← HT.out, HSH.out], HB8.out.kp⟩
end Go.Proofs.YtikjcmhocihmcaaDoor
namespace Go.Proofs.YtikjcmhocihmcaaDoor
open Go Go.RowKit
theorem u8_ofInt (a : UInt8) : BitVec.ofInt 8 (a.toNat : Int) = a.toBitVec := by
  rw [BitVec.ofInt_natCast]
  exact BitVec.ofNat_toNat _ _ |>.trans (BitVec.setWidth_eq _)
theorem wrap8 (n : Nat) (h : n < 256) : IntKind.u8.wrap (n : Int) = (n : Int) := by
  rw [IntKind.wrap_u8]; omega
theorem u8bx (x y : UInt8) : bits .xor .u8 (x.toNat : Int) (y.toNat : Int) = ((x ^^^ y).toNat : Int) := by
  show IntKind.u8.wrap ((BitVec.ofInt 8 (x.toNat : Int) ^^^ BitVec.ofInt 8 (y.toNat : Int)).toNat : Int) = _
  rw [u8_ofInt, u8_ofInt, wrap8 _ (BitVec.isLt _)]
  rfl
theorem u8bo (x y : UInt8) : bits .or .u8 (x.toNat : Int) (y.toNat : Int) = ((x ||| y).toNat : Int) := by
  show IntKind.u8.wrap ((BitVec.ofInt 8 (x.toNat : Int) ||| BitVec.ofInt 8 (y.toNat : Int)).toNat : Int) = _
  rw [u8_ofInt, u8_ofInt, wrap8 _ (BitVec.isLt _)]
  rfl
def mxB (m x : UInt8) : UInt8 := x ^^^ m
theorem mxB_val (m x : UInt8) : bits .xor .u8 (x.toNat : Int) (m.toNat : Int) = ((mxB m x).toNat : Int) := u8bx x m
/-- A key's block under a mask. -/
def maskB (m : UInt8) (l : List UInt8) : List UInt8 := l.map (mxB m)
theorem maskB_len (m : UInt8) (l : List UInt8) : (maskB m l).length = l.length := by simp [maskB]
end Go.Proofs.YtikjcmhocihmcaaDoor
namespace Go.Proofs.YtikjcmhocihmcaaDoor
open Go Go.RowKit
/-- Draw n of a seed. -/
def drawB (s : List UInt8) (n : Nat) : List UInt8 := sha256 (s ++ be8 n)
theorem drawB_len (s : List UInt8) (n : Nat) : (drawB s n).length = 32 := sha256_len _
/-- Two parts. -/
theorem rows_two {w : World} {v1 v2 : Value} {l1 l2 : List UInt8} (h1 : Rd w v1 (bys l1)) (h2 : Rd w v2 (bys l2)) (b1 : l1.length ≤ 140737488351232) (b2 : l2.length ≤ 140737488351232) : RowsB w [v1, v2] [l1, l2] := by
  refine ⟨rfl, fun i v hv => ?_⟩
  match i, hv with
  | 0, hv => simp at hv; subst hv; exact ⟨l1, rfl, h1, b1⟩
  | 1, hv => simp at hv; subst hv; exact ⟨l2, rfl, h2, b2⟩
theorem rows_one {w : World} {v1 : Value} {l1 : List UInt8} (h1 : Rd w v1 (bys l1)) (b1 : l1.length ≤ 140737488351232) : RowsB w [v1] [l1] := by
  refine ⟨rfl, fun i v hv => ?_⟩
  match i, hv with
  | 0, hv => simp at hv; subst hv; exact ⟨l1, rfl, h1, b1⟩
theorem RowsB.there {w : World} {vs : List Value} {ls : List (List UInt8)} (h : RowsB w vs ls) : ThereP w vs ls := by
  intro i v l hv hl h0 b hb
  obtain ⟨l', h1, h2, _⟩ := h.2 i v hv
  rw [hl] at h1
  obtain rfl := Option.some.inj h1
  exact rd_own2 h2 h0 b hb
theorem RowsB.keep0 {w w' : World} {vs : List Value} {ls : List (List UInt8)} (h : RowsB w vs ls) (hk : Kp0 w w') : RowsB w' vs ls :=
  ⟨h.1, fun i v hv => by obtain ⟨l, h1, h2, h3⟩ := h.2 i v hv; exact ⟨l, h1, h2.keep0 hk, h3⟩⟩
theorem Rd.there {w : World} {v : Value} {vs : List Value} (h : Rd w v vs) (h0 : 0 < vs.length) : ∀ b, v.ownBlock = some b → b < w.heap.size := by
  obtain ⟨b0, o, cap, rfl, _, _, hc⟩ := h.pos h0
  intro b hb
  obtain rfl : b0 = b := Option.some.inj hb
  exact World.block_lt_of_cell? w _ (hc 0 h0)
/-- The small hash of any parts. -/
theorem small_of (pv : Value) (vs : List Value) (ls : List (List UInt8)) (w : World) (hq : Sqd w) (hc : Cub w) (hp : Rd w pv vs) (hr : RowsB w vs ls) (hl : ls.flatten.length ≤ 900000000000000) :
    Calls Tryd.prog 70 #[pv] w fun e w' => e = .returned (.agg (bys (sha256 ls.flatten)).toArray) ∧ Kp0 w w' :=
  small_any pv vs ls w hq hc hp hr hr.there (fun h => hp.there h) hl
theorem rdSlice (w : World) (cs : List Value) (n : Nat) (e : TypeId) (hn : cs.length = n) (hm : n ≤ 9223372036854775807) : Rd (w.alloc (.cells cs.toArray e)) (.slice (some ⟨w.heap.size, 0, none⟩) n n) cs := by
  have h := Rd.lit w cs.toArray e (0, 0) n (by simp [hn]) hm
  simpa using h
attribute [local irreducible] sha256
set_option maxRecDepth 20000 in
set_option maxHeartbeats 8000000 in
theorem draw_any (s : ByteArray) (n : Nat) (w : World) (hq : Sqd w) (hc : Cub w) (hs : s.size ≤ 140737488351232) (hn : n < 18446744073709551616) :
    Calls Tryd.prog 32 #[.string s, .int .u64 (n : Int)] w fun e w' => e = .returned (.agg (bys (drawB s.toList n)).toArray) ∧ Kp0 w w' := by
  have HQ := Lib.hid hq
  have HC := Lib.hid hc
  have HS := Lib.hid hs
  have HSL := Lib.hid (size_toList s)
  clear hq hc hs
  go_enter Tryd.func32, Tryd.ntmps32
  go_upto_region 1 with (refine wl_alloc_as asB32 rfl rfl ?_
                         intro w1 g4 hw hg
                         have HB1 : Hid (Bks w w1 [(g4, 61, bys zb32)]) := Lib.hid (by rw [hw]; exact (Bks.nil w).push 61 (bys zb32) hg)
                         clear hw hg)
  simp only [Act.put]
  go_upto_region 2 with (first
    | (go_at_call 69
       refine (be_any n _ hn).mono ?_
       rintro e w3 ⟨rfl, hk⟩
       have HB3 := Lib.hid (HB1.out.kp0 hk)
       clear hk)
    | (refine wl_alloc_as asB8 rfl rfl ?_
       intro w4 g5 hw hg
       have HB4 : Hid (Bks w w4 [(g4, 61, bys zb32), (g5, 95, bys zb8)]) := Lib.hid (by rw [hw]; exact HB3.out.push 95 (bys zb8) hg)
       clear hw hg)
    | (refine wl_store_blk rfl 95 (.tmp 5) (.tmp 7) rfl g5 _ (bys zb8) (bys (be8 n)) rfl rfl (HB4.out.at 1 rfl) (infoB8 (be8_len n)) (len_of (T := 95) (infoB8 (l := zb8) rfl) (infoB8 (be8_len n))) (bys_onesV _) ?_
       intro w5 hA hK
       have HB5 : Hid (Bks w w5 [(g4, 61, bys zb32), (g5, 95, bys (be8 n))]) := Lib.hid (HB4.out.store 1 rfl hA hK)
       clear hA hK))
  simp only [Act.put]
  clear HB1 HB3 HB4
  have HSZ5 : Hid (g5 < w5.heap.size) := Lib.hid (HB5.out.at 1 rfl).lt
  go_wp2_with (first
    | (refine wl_bytes_of_str rfl (.tmp 8) 9 24 5 rfl Tryd.underlying9 Tryd.underlying24 Tryd.underlying5 s rfl (by have := HS.out; omega) ?_
       intro cap w6 hrd hg
       have HR6 := Lib.hid hrd
       have HK6 : Hid (Kp0 w5 w6) := Lib.hid ((Kp.refl _ _).grown hg (by simp))
       clear hrd hg)
    | (go_at_call 70
       refine (small_of _ [.slice (some ⟨w5.heap.size, 0, none⟩) s.size cap, .slice (some ⟨g5, 0, none⟩) 8 8] [s.toList, be8 n] _ (HQ.out.kp0 ((HB5.out.kp.tr HK6.out).alloc _)) (HC.out.kp0 ((HB5.out.kp.tr HK6.out).alloc _)) (rdSlice w6 _ 2 24 rfl (by decide)) (rows_two (HR6.out.alloc _) (rd_blk ((HB5.out.kp0 (HK6.out.alloc _)).at 1 rfl) (be8_len n)) (by rw [HSL.out]; exact HS.out) (by rw [be8_len]; decide)) (by simp only [List.flatten_cons, List.flatten_nil, List.append_nil, List.length_append, be8_len, HSL.out]; have := HS.out; omega)).mono ?_
       rintro e w7 ⟨rfl, hk⟩
       have HB7 := Lib.hid (HB5.out.kp0 ((HK6.out.alloc _).tr hk))
       have HSD : Hid (sha256 [s.toList, be8 n].flatten = drawB s.toList n) := Lib.hid (by unfold drawB; simp)
       rw [HSD.out]
       clear hk)
    | (refine wl_store_blk rfl 61 (.tmp 4) (.tmp 12) rfl g4 _ (bys zb32) (bys (drawB s.toList n)) rfl rfl (HB7.out.at 0 rfl) (infoB32 (drawB_len _ _)) (len_of (T := 61) (infoB32 (l := zb32) rfl) (infoB32 (drawB_len s.toList n))) (bys_onesV _) ?_
       intro w8 hA hK
       have HB8 := Lib.hid (HB7.out.store 0 rfl hA hK)
       clear hA hK))
  refine ret_blk 4 61 61 g4 (bys (drawB s.toList n)) _ rfl rfl (HB8.out.at 0 rfl) Tryd.underlying61 rfl (infoB32 (drawB_len _ _)) rfl ?_
  exact ⟨rfl, HB8.out.kp⟩
end Go.Proofs.YtikjcmhocihmcaaDoor
