/- The reference of layer 16: the place of a leaf with a value; what either of two marks chooses. -/
import Derived.Test.YtmamcnhofgfolaaTrY
namespace Go.Proofs.Ytmamcnhofgfolaa
open Go Go.RowKit
def lfP (ks : List PN) (nm vl : List UInt8) : Option Nat := ks.findIdx? fun k => k.nm == nm && k.vl == vl
set_option maxRecDepth 20000 in
set_option maxHeartbeats 2000000 in
theorem lf_any {F : Nat → Prop} (n : PN) (kv : Value) (nm vl : List UInt8) (w : World) (hn : RowN F w kv n.ks) :
    Calls Try.prog 48 #[NodA n kv, .string (S nm), .string (S vl)] w fun e w' => e = .returned (.int .i64 (plI (lfP n.ks nm vl))) ∧ Kp0 w w' := by
  have HN := Lib.hid hn
  obtain ⟨no, nc, rfl, _, _, _⟩ := hn.shape
  clear hn
  unfold NodA
  go_enter Try.func48, Try.ntmps48
  go_upto_region 1 with (fail)
  have HB : Hid (Blk (w.alloc (.cells #[.string (S n.nm), .string (S n.vl), .slice no n.ks.length nc] 40)) w.heap.size 40 (nvl n (.slice no n.ks.length nc))) := Lib.hid (blk0 w 40 (nvl n (.slice no n.ks.length nc)))
  have HK1 : Hid (Kp0 w (w.alloc (.cells #[.string (S n.nm), .string (S n.vl), .slice no n.ks.length nc] 40))) := Lib.hid ((Kp.refl _ _).alloc _)
  generalize w.alloc (.cells #[.string (S n.nm), .string (S n.vl), .slice no n.ks.length nc] 40) = w1 at HB HK1 ⊢
  obtain ⟨g3, hg3⟩ : ∃ x, x = w.heap.size := ⟨_, rfl⟩
  rw [← hg3] at HB ⊢
  clear hg3
  go_wp2
  go_loopw [7] (fun i wr => ∃ k : Nat, i = .int .i64 k ∧ k ≤ n.ks.length ∧ Hid (NoneTo (fun k => k.nm == nm && k.vl == vl) n.ks k) ∧ Kp0 w1 wr) (fun i _ => n.ks.length - (intOf i).toNat)
  case atStart => exact ⟨0, rfl, Nat.zero_le _, Lib.hid NoneTo.zero, Kp.refl _ _⟩
  case round =>
    obtain ⟨k, rfl, hk, HF, hkp⟩ := hrel
    have HKR := Lib.hid hkp
    have HK := Lib.hid (HK1.out.tr hkp)
    have HBW := Lib.hid (HB.out.kp0 hkp)
    clear hkp
    have n2 := HBW.out.cellV 2 (v := .slice no n.ks.length nc) rfl
    by_cases h : k < n.ks.length
    · have i1 : (k : Int) < (n.ks.length : Int) := by omega
      obtain ⟨b1, o1, d1, kv1, e1, _, _, D0, D1, D2, _, _⟩ := (HN.out.kp0 HK.out).at k h
      simp only [Value.slice.injEq] at e1
      obtain ⟨rfl, _, rfl⟩ := e1
      obtain ⟨x, hx⟩ : ∃ x, x = n.ks[k]'h := ⟨_, rfl⟩
      rw [← hx] at D0 D1
      have HX := Lib.hid hx
      clear hx D2
      cases hb : ((S x.nm).toList == (S nm).toList)
      · have HS : Hid ((fun k : PN => k.nm == nm && k.vl == vl) (n.ks[k]'h) = false) := Lib.hid (by rw [← HX.out]; show (x.nm == nm && x.vl == vl) = false; rw [← S_beq, hb]; rfl)
        go_wp2
        go_roundw
        case rel => exact ⟨k + 1, by go_num, by omega, Lib.hid (HF.out.step h HS.out), HKR.out⟩
        case measure => simp [intOf]; omega
      · cases hb2 : ((S x.vl).toList == (S vl).toList)
        · have HS : Hid ((fun k : PN => k.nm == nm && k.vl == vl) (n.ks[k]'h) = false) := Lib.hid (by rw [← HX.out]; show (x.nm == nm && x.vl == vl) = false; rw [← S_beq x.vl, hb2, Bool.and_false])
          go_wp2
          go_roundw
          case rel => exact ⟨k + 1, by go_num, by omega, Lib.hid (HF.out.step h HS.out), HKR.out⟩
          case measure => simp [intOf]; omega
        · have HS : Hid ((fun k : PN => k.nm == nm && k.vl == vl) (n.ks[k]'h) = true) := Lib.hid (by rw [← HX.out]; show (x.nm == nm && x.vl == vl) = true; rw [← S_beq x.nm nm, ← S_beq x.vl vl, hb, hb2]; rfl)
          go_wp2
          go_ret
          exact ⟨by unfold lfP; rw [HF.out.hit h HS.out]; rfl, HK.out⟩
    · have i1 : ¬ (k : Int) < (n.ks.length : Int) := by omega
      have HNO : Hid (lfP n.ks nm vl = none) := Lib.hid (HF.out.none (by omega))
      go_wp2
      go_ret
      exact ⟨by rw [HNO.out]; rfl, HK.out⟩
/-- A mark that was made: what it leads to is new. -/
def NewM (w0 w : World) (e : Ending) (m : PM) : Prop := ∃ kv, e = .returned (MrkA m kv) ∧ RowM (fun i => w0.heap.size ≤ i) w kv m.ks
def BothP (N : Nat) : Prop := ∀ (F G : Nat → Prop) (a b : PM) (av bv : Value) (w : World), cntM a + cntM b ≤ N → RowM F w av a.ks → RowM G w bv b.ks → mOk a = true → mOk b = true →
  Calls Try.prog 36 #[MrkA a av, MrkA b bv] w fun e w' => NewM w w' e (bothT a b) ∧ Kp0 w w'
theorem bothT_ks (a b : PM) : bothT a b = .mk (a.on || b.on) (a.al || b.al) (bothsT a.ks b.ks) := by
  cases a
  unfold bothT
  rfl
set_option maxRecDepth 20000 in
set_option maxHeartbeats 4000000 in
theorem both_step (N : Nat) (ih : ∀ k, k < N → BothP k) : BothP N := by
  intro F G a b av bv w hN ha hb hoa hob
  have HN := Lib.hid hN
  have HA := Lib.hid ha
  have HB := Lib.hid hb
  have HOA := Lib.hid (mOk_ks hoa)
  have HOB := Lib.hid (mOk_ks hob)
  have HIH := Lib.hid ih
  obtain ⟨ao, ac, rfl, _, _, _⟩ := ha.shape
  obtain ⟨bo, bc, rfl, _, _, _⟩ := hb.shape
  clear ha hb hoa hob hN ih
  have HR := Lib.hid (bothT_ks a b)
  have HRL := Lib.hid (bothsT_len a.ks b.ks)
  have HRG := Lib.hid (bothsT_get a.ks b.ks)
  generalize bothsT a.ks b.ks = rs at HR HRL HRG
  unfold MrkA
  go_enter Try.func36, Try.ntmps36
  obtain ⟨ma, hma⟩ : ∃ x, x = a.ks.length := ⟨_, rfl⟩
  obtain ⟨mb, hmb⟩ : ∃ x, x = b.ks.length := ⟨_, rfl⟩
  rw [← hma, ← hmb]
  have HMA := Lib.hid hma
  have HMB := Lib.hid hmb
  clear hma hmb
  go_upto_region 1 with (refine wl_alloc_as asMk rfl rfl ?_
                         intro w2 g4 hw hg
                         have HB2 : Hid (Bks w w2 [(w.heap.size, 74, mvl a (.slice ao ma ac)), (w.heap.size + 1, 74, mvl b (.slice bo mb bc)), (g4, 74, mk0)]) := Lib.hid (by
                           rw [hw]
                           exact (((Bks.nil w).push 74 (mvl a (.slice ao ma ac)) rfl).push 74 (mvl b (.slice bo mb bc)) (g := w.heap.size + 1) (by simp)).push 74 mk0 (g := g4) hg)
                         have HG4 : Hid (w.heap.size + 1 < g4 ∧ g4 < w2.heap.size) := Lib.hid (by rw [hw, hg]; simp)
                         clear hw hg)
  try simp only [Act.put]
  try simp only [List.setIfInBounds_toArray, List.set_cons_zero, List.set_cons_succ]
  obtain ⟨g3, hg3⟩ : ∃ x, x = w.heap.size + 1 := ⟨_, rfl⟩
  obtain ⟨g2, hg2⟩ : ∃ x, x = w.heap.size := ⟨_, rfl⟩
  rw [← hg3, ← hg2] at HB2
  rw [← hg3] at HG4
  rw [← hg3, ← hg2]
  have HG : Hid (g2 = w.heap.size ∧ g3 = g2 + 1) := Lib.hid (by omega)
  clear hg3 hg2
  obtain ⟨o, ho⟩ : ∃ x, x = (a.on || b.on) := ⟨_, rfl⟩
  obtain ⟨l, hl⟩ : ∃ x, x = (a.al || b.al) := ⟨_, rfl⟩
  rw [← ho, ← hl] at HR
  have a0 := (HB2.out.at 0 rfl).cellV 0 (v := .bool a.on) rfl
  have a1 := (HB2.out.at 0 rfl).cellV 1 (v := .bool a.al) rfl
  have b0 := (HB2.out.at 1 rfl).cellV 0 (v := .bool b.on) rfl
  have b1 := (HB2.out.at 1 rfl).cellV 1 (v := .bool b.al) rfl
  have HO := Lib.hid ho
  have HLL := Lib.hid hl
  clear ho hl
  go_cut [0, 5] from 6 (fun s0 s5 w4 => ∃ g5 : Nat, s5 = .pointer (some ⟨g5, 0, none⟩) ∧ Hid (w2.heap.size ≤ g5) ∧ Hid (Blk w4 g5 74 [.bool o, .bool l, .slice none 0 0]) ∧ Hid (Kp0 w2 w4))
  case first =>
    cases hao : a.on
    all_goals cases hal : a.al
    all_goals
      rw [hao] at a0
      rw [hal] at a1
      have HO2 := HO.out
      have HL2 := HLL.out
      rw [hao] at HO2
      rw [hal] at HL2
      replace HO2 := Lib.hid HO2
      replace HL2 := Lib.hid HL2
      clear hao hal
      go_upto_region 2 with (first
        | (refine wl_alloc_as asMk rfl rfl ?_
           intro w3 g5 hw hg
           have HB5 : Hid (Blk w3 g5 74 mk0) := Lib.hid (by rw [hw, hg]; exact blk0 _ _ _)
           have HK3 : Hid (Kp0 w2 w3) := Lib.hid (by rw [hw]; exact (Kp.refl _ _).alloc _)
           have HG5 : Hid (w2.heap.size ≤ g5 ∧ g5 < w3.heap.size) := Lib.hid (by rw [hw, hg]; simp)
           clear hw hg)
        | (refine wl_store_blk rfl 74 (.tmp 5) (.tmp 21) rfl g5 _ mk0 (mvl (.mk o l []) (.slice none 0 0)) rfl (by rw [HO2.out, HL2.out]; rfl) HB5.out infoMk rfl (by intro u hu; simp only [mvl, List.mem_cons, List.not_mem_nil, or_false] at hu; rcases hu with rfl | rfl | rfl <;> rfl) ?_
           intro w4 hA hk4
           have HB6 := Lib.hid hA
           have HK4 : Hid (Kp0 w2 w4) := Lib.hid (HK3.out.trans hk4 (fun _ _ h => h) (fun i hi e => by have := HG5.out.1; omega))
           clear hA hk4))
      go_meet
      case rel => exact ⟨g5, rfl, Lib.hid HG5.out.1, Lib.hid HB6.out, HK4⟩
  case rest =>
    obtain ⟨g5, rfl, HG5, HB6, HK4⟩ := hcut
    obtain ⟨w4, hw4⟩ : ∃ x, x = wc := ⟨_, rfl⟩
    subst hw4
    try simp only [Act.put]
    try simp only [List.setIfInBounds_toArray, List.set_cons_zero, List.set_cons_succ]
    have HK := Lib.hid (HB2.out.kp.tr HK4.out)
    have HBa := Lib.hid ((HB2.out.at 0 rfl).kp0 HK4.out)
    have HBb := Lib.hid ((HB2.out.at 1 rfl).kp0 HK4.out)
    have HB4 := Lib.hid ((HB2.out.at 2 rfl).kp0 HK4.out)
    have HB5 : Hid (Blk w4 g5 74 [.bool o, .bool l, .slice none 0 0]) := Lib.hid HB6.out
    have HG : Hid (g2 = w.heap.size ∧ g3 = g2 + 1 ∧ g3 < g4 ∧ g4 < g5 ∧ g5 < w4.heap.size) := Lib.hid (by have := HG.out; have := HG4.out; have := HG5.out; have := HB6.out.lt; omega)
    clear HB2 HK4 HB6 HG4 HG5 a0 a1 b0 b1 HO HLL
    go_wp2
    go_loopg [6] (max ma mb) (fun gg i wr => ∃ (k : Nat) (kv : Value), i = .int .i64 k ∧ k ≤ max ma mb ∧ gg = max ma mb - k ∧ Hid (AccM w4.heap.size wr kv (rs.take k)) ∧ Hid (Blk wr g2 74 (mvl a (.slice ao ma ac))) ∧ Hid (Blk wr g3 74 (mvl b (.slice bo mb bc))) ∧ Hid (Blk wr g4 74 mk0) ∧ Hid (Blk wr g5 74 [.bool o, .bool l, kv]) ∧ Kp (fun b => b = g5) w4 wr)
    case atStart => exact ⟨0, .slice none 0 0, rfl, Nat.zero_le _, rfl, Lib.hid (AccM.nil _ _), HBa, HBb, HB4, HB5, Kp.refl _ _⟩
    case round =>
      clear HBa HBb HB4 HB5
      obtain ⟨k, kv, rfl, hk, rfl, HACC, HBa, HBb, HB4, HB5, hkp⟩ := hrel
      have HKR := Lib.hid hkp
      clear hkp
      have HKW : Hid (Kp0 w wr) := Lib.hid (HK.out.trans HKR.out (fun _ _ h => h) (fun i hi e => by have := HG.out; omega))
      have qa := HBa.out.cellV 2 (v := .slice _ ma _) rfl
      have qb := HBb.out.cellV 2 (v := .slice _ mb _) rfl
      by_cases h : k < max ma mb
      · have hkl : k < rs.length := by have := HRL.out; have := HMA.out; have := HMB.out; omega
        have HTK : Hid (rs.take (k + 1) = rs.take k ++ [rs[k]'hkl]) := Lib.hid (List.take_succ_eq_append_getElem hkl)
        have HGT : Hid (rs[k]'hkl = bothT (a.ks.getD k pm0) (b.ks.getD k pm0)) := Lib.hid (HRG.out k hkl)
        have HLM : Hid ((rs.take k).length ≤ 1000000) := Lib.hid (by
          have := HRL.out; have := HOA.out.1; have := HOB.out.1; rw [List.length_take]; omega)
        have HKB : k < 1000000 := by have := HOA.out.1; have := HOB.out.1; have := HMA.out; have := HMB.out; omega
        generalize rs[k]'hkl = x at HTK HGT
        clear hkl
        rcases Nat.lt_or_ge k ma with ha | ha
        · have i1 : (k : Int) < (ma : Int) := by omega
          rcases Nat.lt_or_ge k mb with hb | hb
          · have i2 : (k : Int) < (mb : Int) := by omega
            go_upto_region 6 with (first
              | (have hq7 := HB7.out
                 clear hq7
                 refine wl_alloc_as asMk rfl rfl ?_
                 intro w6 g8 hw hg
                 have HB8 : Hid (Blk w6 g8 74 mk0) := Lib.hid (by rw [hw, hg]; exact blk0 _ _ _)
                 have HB7 : Hid (Blk w6 g7 74 mk0) := Lib.hid (HB7.out.kp0 (by rw [hw]; exact (Kp.refl _ _).alloc _))
                 have HK6 : Hid (Kp0 wr w6) := Lib.hid (by rw [hw]; exact HK5.out.alloc _)
                 have HG8 : Hid (g7 < g8 ∧ g8 < w6.heap.size) := Lib.hid (by have := HG7.out; rw [hw, hg]; simp; omega)
                 clear hw hg)
              | (refine wl_alloc_as asMk rfl rfl ?_
                 intro w5 g7 hw hg
                 have HB7 : Hid (Blk w5 g7 74 mk0) := Lib.hid (by rw [hw, hg]; exact blk0 _ _ _)
                 have HK5 : Hid (Kp0 wr w5) := Lib.hid (by rw [hw]; exact (Kp.refl _ _).alloc _)
                 have HG7 : Hid (wr.heap.size ≤ g7 ∧ g7 < w5.heap.size) := Lib.hid (by rw [hw, hg]; simp)
                 clear hw hg)
              | (refine wl_store_blk rfl 74 (.tmp 7) (.tmp 36) rfl g7 _ mk0 (mvl pm0 (.slice none 0 0)) rfl rfl HB7.out infoMk rfl (RowM.nil (fun _ => False) wr).onesM ?_
                 intro w7 hA hk7
                 have HB7 := Lib.hid hA
                 have HB8 := Lib.hid (HB8.out.keep hk7 (fun e => by have := HG8.out; omega))
                 have HK7 : Hid (Kp0 wr w7) := Lib.hid (HK6.out.trans hk7 (fun _ _ h => h) (fun i hi e => by have := HG7.out.1; omega))
                 clear hA hk7)
              | (refine wl_store_blk rfl 74 (.tmp 8) (.tmp 37) rfl g8 _ mk0 (mvl pm0 (.slice none 0 0)) rfl rfl HB8.out infoMk rfl (RowM.nil (fun _ => False) wr).onesM ?_
                 intro w8 hA hk8
                 have HB8 := Lib.hid hA
                 have HB7 := Lib.hid (HB7.out.keep hk8 (fun e => by have := HG8.out; omega))
                 have HK8 : Hid (Kp0 wr w8) := Lib.hid (HK7.out.trans hk8 (fun _ _ h => h) (fun i hi e => by have := HG7.out.1; have := HG8.out.1; omega))
                 clear hA hk8))
            try simp only [Act.put]
            try simp only [List.setIfInBounds_toArray, List.set_cons_zero, List.set_cons_succ]
            have HG7 : Hid (wr.heap.size ≤ g7 ∧ g7 < g8 ∧ g8 < w8.heap.size) := Lib.hid (by have := HG7.out.1; have := HG8.out.1; have := HB8.out.lt; omega)
            have HSR : Hid (w4.heap.size ≤ wr.heap.size) := Lib.hid HKR.out.size
            clear HK5 HK6 HK7 HG8 qa qb
            obtain ⟨b1, o1, cap1, va, e1, _, _, D0, D1, D2, hkv, _⟩ := HA.out.at k (by have := HMA.out; omega)
            have hm := HMA.out
            rw [← hm] at e1
            simp only [Value.slice.injEq] at e1
            obtain ⟨rfl, _, rfl⟩ := e1
            have HKW8 := Lib.hid (HKW.out.tr HK8.out)
            have HXA : Hid (RowM (fun i => i < w.heap.size) w8 va (a.ks[k]'(by have := HMA.out; omega)).ks) := Lib.hid (hkv.keep HKW8.out (fun _ _ _ h => h) (fun i _ hl => hl))
            have d0 := HKW8.out.cell D0 (fun h => h)
            have d1 := HKW8.out.cell D1 (fun h => h)
            have d2 := HKW8.out.cell D2 (fun h => h)
            have HGA : Hid (a.ks.getD k pm0 = a.ks[k]'(by have := HMA.out; omega)) := Lib.hid (by rw [List.getD_eq_getElem?_getD, List.getElem?_eq_getElem (by have := HMA.out; omega)]; rfl)
            have qa := (HBa.out.kp0 HK8.out).cellV 2 (v := .slice _ ma _) rfl
            have qb := (HBb.out.kp0 HK8.out).cellV 2 (v := .slice _ mb _) rfl
            generalize a.ks[k]'(by have := HMA.out; omega) = xa at d0 d1 d2 HXA HGA
            clear hm hkv D0 D1 D2
            go_upto_region 8 with (refine wl_store_blk rfl 74 (.tmp 7) (.tmp 47) rfl g7 _ _ (mvl xa va) rfl rfl HB7.out infoMk rfl HXA.out.onesM ?_
                                   intro w9 hA hk9
                                   have HB7 := Lib.hid hA
                                   have HB8 := Lib.hid (HB8.out.keep hk9 (fun e => by have := HG7.out; omega))
                                   have HK9 : Hid (Kp0 wr w9) := Lib.hid (HK8.out.trans hk9 (fun _ _ h => h) (fun i hi e => by have := HG7.out.1; have := HG7.out.2.1; omega))
                                   have HXA := Lib.hid (HXA.out.keep (G := fun i => i < w.heap.size) hk9 (fun i hi _ e => by have := HG7.out.1; have := HG7.out.2.1; have := HSR.out; have := HG.out; omega) (fun i hi _ => hi))
                                   skip
                                   clear hA hk9)
            try simp only [Act.put]
            try simp only [List.setIfInBounds_toArray, List.set_cons_zero, List.set_cons_succ]
            clear d0 d1 d2 qa qb HKW8
            obtain ⟨b2, o2, cap2, vb, e1, _, _, D0, D1, D2, hkv, _⟩ := HB.out.at k (by have := HMB.out; omega)
            have hm := HMB.out
            rw [← hm] at e1
            simp only [Value.slice.injEq] at e1
            obtain ⟨rfl, _, rfl⟩ := e1
            have HKW8 := Lib.hid (HKW.out.tr HK9.out)
            have HXB : Hid (RowM (fun i => i < w.heap.size) w9 vb (b.ks[k]'(by have := HMB.out; omega)).ks) := Lib.hid (hkv.keep HKW8.out (fun _ _ _ h => h) (fun i _ hl => hl))
            have d0 := HKW8.out.cell D0 (fun h => h)
            have d1 := HKW8.out.cell D1 (fun h => h)
            have d2 := HKW8.out.cell D2 (fun h => h)
            have HGB : Hid (b.ks.getD k pm0 = b.ks[k]'(by have := HMB.out; omega)) := Lib.hid (by rw [List.getD_eq_getElem?_getD, List.getElem?_eq_getElem (by have := HMB.out; omega)]; rfl)
            have qb := (HBb.out.kp0 HK9.out).cellV 2 (v := .slice _ mb _) rfl
            have qa := (HBa.out.kp0 HK9.out).cellV 2 (v := .slice _ ma _) rfl
            generalize b.ks[k]'(by have := HMB.out; omega) = xb at d0 d1 d2 HXB HGB
            clear hm hkv D0 D1 D2
            go_upto_region 10 with (refine wl_store_blk rfl 74 (.tmp 8) (.tmp 57) rfl g8 _ _ (mvl xb vb) rfl rfl HB8.out infoMk rfl HXB.out.onesM ?_
                                    intro w10 hA hk9
                                    have HB8 := Lib.hid hA
                                    have HB7 := Lib.hid (HB7.out.keep hk9 (fun e => by have := HG7.out; omega))
                                    have HK10 : Hid (Kp0 wr w10) := Lib.hid (HK9.out.trans hk9 (fun _ _ h => h) (fun i hi e => by have := HG7.out.1; have := HG7.out.2.1; omega))
                                    have HXB := Lib.hid (HXB.out.keep (G := fun i => i < w.heap.size) hk9 (fun i hi _ e => by have := HG7.out.1; have := HG7.out.2.1; have := HSR.out; have := HG.out; omega) (fun i hi _ => hi))
                                    have HXA := Lib.hid (HXA.out.keep (G := fun i => i < w.heap.size) hk9 (fun i hi _ e => by have := HG7.out.1; have := HG7.out.2.1; have := HSR.out; have := HG.out; omega) (fun i hi _ => hi))
                                    clear hA hk9)
            try simp only [Act.put]
            try simp only [List.setIfInBounds_toArray, List.set_cons_zero, List.set_cons_succ]
            clear d0 d1 d2 qb qa HKW8
            rw [HGA.out, HGB.out] at HGT
            have HBa := Lib.hid (HBa.out.kp0 HK10.out)
            have HBb := Lib.hid (HBb.out.kp0 HK10.out)
            have HB4 := Lib.hid (HB4.out.kp0 HK10.out)
            have HB5 := Lib.hid (HB5.out.kp0 HK10.out)
            have HLT := Lib.hid HACC.out.lt
            have HACC := Lib.hid (HACC.out.kp0 HK10.out)
            have HKR := Lib.hid (HKR.out.tr (HK10.out.nil _))
            have HKW := Lib.hid (HKW.out.tr HK10.out)
            have HSX : Hid (w4.heap.size ≤ wr.heap.size ∧ wr.heap.size ≤ w10.heap.size) := Lib.hid ⟨HSR.out, HK10.out.size⟩
            have HCA : Hid (cntM xa + cntM xb < N) := Lib.hid (by
              have h1 := cntMs_getD a.ks k
              have h2 := cntMs_getD b.ks k
              have h3 := cntM_ks a
              have h4 := cntM_ks b
              have h5 := HN.out
              have h6 := HMA.out
              have h7 := HMB.out
              rw [HGA.out] at h1
              rw [HGB.out] at h2
              rcases Nat.lt_or_ge k ma with hx | hx
              · have := h1.2 (by omega)
                omega
              · have := h2.2 (by omega)
                omega)
            have HOX : Hid (mOk xa = true ∧ mOk xb = true) := Lib.hid ⟨by rw [← HGA.out]; exact msOk_getD HOA.out.2 k, by rw [← HGB.out]; exact msOk_getD HOB.out.2 k⟩
            generalize rs.take k = ms at HTK HACC HLM
            clear HG7 HK8 HK9 HK10 HGA HGB
            refine wp_region_px 9 [6] (fun w' : World => Kp0 w10 w') (.quiet 0 (.quiet 1 (.quiet 2 (.quiet 3 (.eff 4 (.eff 5 (.wall 6 (.quiet 7 (.eff 8 .done))))))))) (by kernel_rfl) (by kernel_rfl) (by kernel_rfl) (by kernel_rfl) (fun _ d _ _ _ h => by cases d <;> exact h) (Kp.refl (fun _ => False) w10).drew ?_
            have HX : Hid (Kp0 w10 w10.drew) := Lib.hid (Kp.refl (fun _ => False) w10).drew
            generalize w10.drew = x0 at HX ⊢
            iterate 4 (refine px_quiet (v := ?_) rfl (by rfl) (fun wq hwq => ?_) rfl ?_; rotate_left 1; (focus (have q2 := (HB5.out.kp0 hwq).cellV 2 (v := kv) rfl; have c0 := (HB7.out.kp0 hwq).cellV 0 (v := .bool xa.on) rfl; have c1 := (HB7.out.kp0 hwq).cellV 1 (v := .bool xa.al) rfl; have c2 := (HB7.out.kp0 hwq).cellV 2 (v := va) rfl; have e0 := (HB8.out.kp0 hwq).cellV 0 (v := .bool xb.on) rfl; have e1 := (HB8.out.kp0 hwq).cellV 1 (v := .bool xb.al) rfl; have e2 := (HB8.out.kp0 hwq).cellV 2 (v := vb) rfl; go_simp; try (with_reducible rfl); done)); try simp only [List.setIfInBounds_toArray, List.set_cons_zero, List.set_cons_succ])
            refine px_eff rfl (by rfl) (fun K hK => ?_)
            go_simp
            refine (HIH.out _ HCA.out _ _ xa xb va vb x0 (Nat.le_refl _) (HXA.out.kp0 HX.out) (HXB.out.kp0 HX.out) HOX.out.1 HOX.out.2).mono ?_
            rw [← HGT.out]
            rintro e x1 ⟨⟨kv2, rfl, hr2⟩, hk⟩
            have HRY := Lib.hid hr2
            have HSX2 : Hid (w10.heap.size ≤ x0.heap.size) := Lib.hid HX.out.size
            unfold MrkA
            simp only []
            have HX := Lib.hid (HX.out.tr hk)
            refine hK (fun w' => Kp0 w10 w') _ _ (fun _ h => h) HX.out ?_
            clear hK K hk hr2
            try simp only [List.setIfInBounds_toArray, List.set_cons_zero, List.set_cons_succ]
            refine px_eff rfl (by rfl) (fun K hK => ?_)
            go_simp
            have HMD := Lib.hid (RdF.made (T := 74) (k := 3) (cs := mvl x kv2) x1 rfl)
            have HKM : Hid (Kp0 x1 (x1.alloc (.cells (mvl x kv2).toArray 74))) := Lib.hid ((Kp.refl _ _).alloc _)
            have hgx : (x1.alloc (.cells #[.bool x.on, .bool x.al, kv2] 74)) = (x1.alloc (.cells (mvl x kv2).toArray 74)) := rfl
            rw [hgx]
            clear hgx
            generalize x1.alloc (.cells (mvl x kv2).toArray 74) = x2 at HMD HKM ⊢
            have HX := Lib.hid (HX.out.tr HKM.out)
            have HRY := Lib.hid (HRY.out.kp0 HKM.out)
            have HON : Hid (Ones (mvl x kv2)) := Lib.hid HRY.out.onesM
            refine hK (fun w' => Kp0 w10 w') _ _ (fun _ h => h) HX.out ?_
            clear hK K HKM
            try simp only [List.setIfInBounds_toArray, List.set_cons_zero, List.set_cons_succ]
            have HSZ : Hid (w10.heap.size ≤ x2.heap.size) := Lib.hid HX.out.size
            have hA2 := HACC.out.kp0 HX.out
            obtain ⟨us, hq1, hq2⟩ := hA2
            have HQ1 := Lib.hid hq1
            have HQ := Lib.hid (fun v' w' => AccM.more (v' := v') (w' := w') hq1 hq2 HRY.out (fun i hi hl => ⟨by have := HSX.out; have := HSX2.out; omega, fun e => by have := (HLT.out i e).2; have := HSX.out; have := HSX2.out; omega⟩))
            clear hq1 hq2
            refine px_wall rfl (by rfl) (fun K hK => ?_)
            refine wp_append_rk (.tmp 59) (.tmp 63) 55 rfl Try.underlying55 infoM rfl (by decide) rfl HQ1.out rfl HMD.out HON.out (by have := HLM.out; unfold maxLen; omega) (by have := HLM.out; omega) (by have := HSZ.out; have := HSX.out; omega) ?_
            intro v2 x3 ho2 hk3 hb3
            obtain ⟨a2, c2, rfl, _, _⟩ := ownK_sl ho2
            have HA3 := Lib.hid (HQ.out _ x3 hk3 hb3 ho2)
            have HBa := Lib.hid ((HBa.out.kp0 HX.out).keep hk3 (fun e => by have := (HLT.out _ e).1; have := HG.out; omega))
            have HBb := Lib.hid ((HBb.out.kp0 HX.out).keep hk3 (fun e => by have := (HLT.out _ e).1; have := HG.out; omega))
            have HB4 := Lib.hid ((HB4.out.kp0 HX.out).keep hk3 (fun e => by have := (HLT.out _ e).1; have := HG.out; omega))
            have HB5 := Lib.hid ((HB5.out.kp0 HX.out).keep hk3 (fun e => by have := (HLT.out _ e).1; have := HG.out; omega))
            have HKR : Hid (Kp (fun b => b = g5) w4 x3) := Lib.hid (HKR.out.trans ((HX.out.nil _).tr hk3) (fun _ _ h => h) (fun i hi e => by have := (HLT.out i e).1; omega))
            clear HQ HQ1 ho2 hk3 hb3
            refine hK (fun _ => True) _ _ trivial ?_
            clear hK K
            simp only [Act.put, List.getElem_toArray, List.getElem_cons_succ, List.getElem_cons_zero]
            try simp only [List.setIfInBounds_toArray, List.set_cons_zero, List.set_cons_succ]
            iterate 1 (refine px_quiet (v := ?_) rfl (by rfl) (fun wq hwq => ?_) rfl ?_; rotate_left 1; (focus (clear hwq; go_simp; try (with_reducible rfl); done)); try simp only [List.setIfInBounds_toArray, List.set_cons_zero, List.set_cons_succ])
            refine px_eff rfl (by rfl) (fun K hK => ?_)
            have hd := HB5.out.cellV 2 (v := kv) rfl
            have hdf := blk_frozen HB5.out 2
            go_simp
            refine hK (fun _ => True) _ _ (fun _ _ => trivial) trivial (px_done ?_)
            clear hK K hd hdf
            have HS : Hid (Kp (fun b => b = g5) x3 (x3.setCell ⟨g5, 2, none⟩ (.slice a2 (ms.length + 1) c2))) := Lib.hid (Kp.setCell (S := fun b => b = g5) (Kp.refl _ _) (p := ⟨g5, 2, none⟩) (fun _ => rfl) _)
            have HB5 := Lib.hid (HB5.out.set' 2 (.slice a2 (ms.length + 1) c2))
            generalize x3.setCell ⟨g5, 2, none⟩ (.slice a2 (ms.length + 1) c2) = x4 at HS HB5 ⊢
            go_wp2
            go_roundg (max ma mb - (k + 1))
            case measure => omega
            case rel =>
              refine ⟨k + 1, .slice a2 (ms.length + 1) c2, by go_num, by omega, rfl, ?_, ?_, ?_, ?_, HB5, HKR.out.tr HS.out⟩
              · rw [HTK.out]
                exact Lib.hid (HA3.out.keep HS.out (fun i hi _ e => by have := HG.out; omega))
              · exact Lib.hid (HBa.out.keep HS.out (fun e => by have := HG.out; omega))
              · exact Lib.hid (HBb.out.keep HS.out (fun e => by have := HG.out; omega))
              · exact Lib.hid (HB4.out.keep HS.out (fun e => by have := HG.out; omega))
          · have i2 : ¬ (k : Int) < (mb : Int) := by omega
            go_upto_region 6 with (first
              | (have hq7 := HB7.out
                 clear hq7
                 refine wl_alloc_as asMk rfl rfl ?_
                 intro w6 g8 hw hg
                 have HB8 : Hid (Blk w6 g8 74 mk0) := Lib.hid (by rw [hw, hg]; exact blk0 _ _ _)
                 have HB7 : Hid (Blk w6 g7 74 mk0) := Lib.hid (HB7.out.kp0 (by rw [hw]; exact (Kp.refl _ _).alloc _))
                 have HK6 : Hid (Kp0 wr w6) := Lib.hid (by rw [hw]; exact HK5.out.alloc _)
                 have HG8 : Hid (g7 < g8 ∧ g8 < w6.heap.size) := Lib.hid (by have := HG7.out; rw [hw, hg]; simp; omega)
                 clear hw hg)
              | (refine wl_alloc_as asMk rfl rfl ?_
                 intro w5 g7 hw hg
                 have HB7 : Hid (Blk w5 g7 74 mk0) := Lib.hid (by rw [hw, hg]; exact blk0 _ _ _)
                 have HK5 : Hid (Kp0 wr w5) := Lib.hid (by rw [hw]; exact (Kp.refl _ _).alloc _)
                 have HG7 : Hid (wr.heap.size ≤ g7 ∧ g7 < w5.heap.size) := Lib.hid (by rw [hw, hg]; simp)
                 clear hw hg)
              | (refine wl_store_blk rfl 74 (.tmp 7) (.tmp 36) rfl g7 _ mk0 (mvl pm0 (.slice none 0 0)) rfl rfl HB7.out infoMk rfl (RowM.nil (fun _ => False) wr).onesM ?_
                 intro w7 hA hk7
                 have HB7 := Lib.hid hA
                 have HB8 := Lib.hid (HB8.out.keep hk7 (fun e => by have := HG8.out; omega))
                 have HK7 : Hid (Kp0 wr w7) := Lib.hid (HK6.out.trans hk7 (fun _ _ h => h) (fun i hi e => by have := HG7.out.1; omega))
                 clear hA hk7)
              | (refine wl_store_blk rfl 74 (.tmp 8) (.tmp 37) rfl g8 _ mk0 (mvl pm0 (.slice none 0 0)) rfl rfl HB8.out infoMk rfl (RowM.nil (fun _ => False) wr).onesM ?_
                 intro w8 hA hk8
                 have HB8 := Lib.hid hA
                 have HB7 := Lib.hid (HB7.out.keep hk8 (fun e => by have := HG8.out; omega))
                 have HK8 : Hid (Kp0 wr w8) := Lib.hid (HK7.out.trans hk8 (fun _ _ h => h) (fun i hi e => by have := HG7.out.1; have := HG8.out.1; omega))
                 clear hA hk8))
            try simp only [Act.put]
            try simp only [List.setIfInBounds_toArray, List.set_cons_zero, List.set_cons_succ]
            have HG7 : Hid (wr.heap.size ≤ g7 ∧ g7 < g8 ∧ g8 < w8.heap.size) := Lib.hid (by have := HG7.out.1; have := HG8.out.1; have := HB8.out.lt; omega)
            have HSR : Hid (w4.heap.size ≤ wr.heap.size) := Lib.hid HKR.out.size
            clear HK5 HK6 HK7 HG8 qa qb
            obtain ⟨b1, o1, cap1, va, e1, _, _, D0, D1, D2, hkv, _⟩ := HA.out.at k (by have := HMA.out; omega)
            have hm := HMA.out
            rw [← hm] at e1
            simp only [Value.slice.injEq] at e1
            obtain ⟨rfl, _, rfl⟩ := e1
            have HKW8 := Lib.hid (HKW.out.tr HK8.out)
            have HXA : Hid (RowM (fun i => i < w.heap.size) w8 va (a.ks[k]'(by have := HMA.out; omega)).ks) := Lib.hid (hkv.keep HKW8.out (fun _ _ _ h => h) (fun i _ hl => hl))
            have d0 := HKW8.out.cell D0 (fun h => h)
            have d1 := HKW8.out.cell D1 (fun h => h)
            have d2 := HKW8.out.cell D2 (fun h => h)
            have HGA : Hid (a.ks.getD k pm0 = a.ks[k]'(by have := HMA.out; omega)) := Lib.hid (by rw [List.getD_eq_getElem?_getD, List.getElem?_eq_getElem (by have := HMA.out; omega)]; rfl)
            have qa := (HBa.out.kp0 HK8.out).cellV 2 (v := .slice _ ma _) rfl
            have qb := (HBb.out.kp0 HK8.out).cellV 2 (v := .slice _ mb _) rfl
            generalize a.ks[k]'(by have := HMA.out; omega) = xa at d0 d1 d2 HXA HGA
            clear hm hkv D0 D1 D2
            go_upto_region 8 with (refine wl_store_blk rfl 74 (.tmp 7) (.tmp 47) rfl g7 _ _ (mvl xa va) rfl rfl HB7.out infoMk rfl HXA.out.onesM ?_
                                   intro w9 hA hk9
                                   have HB7 := Lib.hid hA
                                   have HB8 := Lib.hid (HB8.out.keep hk9 (fun e => by have := HG7.out; omega))
                                   have HK9 : Hid (Kp0 wr w9) := Lib.hid (HK8.out.trans hk9 (fun _ _ h => h) (fun i hi e => by have := HG7.out.1; have := HG7.out.2.1; omega))
                                   have HXA := Lib.hid (HXA.out.keep (G := fun i => i < w.heap.size) hk9 (fun i hi _ e => by have := HG7.out.1; have := HG7.out.2.1; have := HSR.out; have := HG.out; omega) (fun i hi _ => hi))
                                   skip
                                   clear hA hk9)
            try simp only [Act.put]
            try simp only [List.setIfInBounds_toArray, List.set_cons_zero, List.set_cons_succ]
            clear d0 d1 d2 qa qb HKW8
            have qb := (HBb.out.kp0 HK9.out).cellV 2 (v := .slice _ mb _) rfl
            have qa := (HBa.out.kp0 HK9.out).cellV 2 (v := .slice _ ma _) rfl
            go_upto_region 10 with (fail)
            obtain ⟨w10, hwn⟩ : ∃ x, x = w9 := ⟨_, rfl⟩
            subst hwn
            have HK10 := HK9
            clear qb qa
            obtain ⟨xb, vb, HB8, HXB, HGB⟩ : ∃ xb vb, Hid (Blk w10 g8 74 (mvl xb vb)) ∧ Hid (RowM (fun i => i < w.heap.size) w10 vb xb.ks) ∧ Hid (b.ks.getD k pm0 = xb) := ⟨pm0, .slice none 0 0, HB8, Lib.hid (RowM.nil _ _), Lib.hid (by rw [List.getD_eq_getElem?_getD, List.getElem?_eq_none (by have := HMB.out; omega)]; rfl)⟩
            rw [HGA.out, HGB.out] at HGT
            have HBa := Lib.hid (HBa.out.kp0 HK10.out)
            have HBb := Lib.hid (HBb.out.kp0 HK10.out)
            have HB4 := Lib.hid (HB4.out.kp0 HK10.out)
            have HB5 := Lib.hid (HB5.out.kp0 HK10.out)
            have HLT := Lib.hid HACC.out.lt
            have HACC := Lib.hid (HACC.out.kp0 HK10.out)
            have HKR := Lib.hid (HKR.out.tr (HK10.out.nil _))
            have HKW := Lib.hid (HKW.out.tr HK10.out)
            have HSX : Hid (w4.heap.size ≤ wr.heap.size ∧ wr.heap.size ≤ w10.heap.size) := Lib.hid ⟨HSR.out, HK10.out.size⟩
            have HCA : Hid (cntM xa + cntM xb < N) := Lib.hid (by
              have h1 := cntMs_getD a.ks k
              have h2 := cntMs_getD b.ks k
              have h3 := cntM_ks a
              have h4 := cntM_ks b
              have h5 := HN.out
              have h6 := HMA.out
              have h7 := HMB.out
              rw [HGA.out] at h1
              rw [HGB.out] at h2
              rcases Nat.lt_or_ge k ma with hx | hx
              · have := h1.2 (by omega)
                omega
              · have := h2.2 (by omega)
                omega)
            have HOX : Hid (mOk xa = true ∧ mOk xb = true) := Lib.hid ⟨by rw [← HGA.out]; exact msOk_getD HOA.out.2 k, by rw [← HGB.out]; exact msOk_getD HOB.out.2 k⟩
            generalize rs.take k = ms at HTK HACC HLM
            clear HG7 HK8 HK9 HK10 HGA HGB
            refine wp_region_px 9 [6] (fun w' : World => Kp0 w10 w') (.quiet 0 (.quiet 1 (.quiet 2 (.quiet 3 (.eff 4 (.eff 5 (.wall 6 (.quiet 7 (.eff 8 .done))))))))) (by kernel_rfl) (by kernel_rfl) (by kernel_rfl) (by kernel_rfl) (fun _ d _ _ _ h => by cases d <;> exact h) (Kp.refl (fun _ => False) w10).drew ?_
            have HX : Hid (Kp0 w10 w10.drew) := Lib.hid (Kp.refl (fun _ => False) w10).drew
            generalize w10.drew = x0 at HX ⊢
            iterate 4 (refine px_quiet (v := ?_) rfl (by rfl) (fun wq hwq => ?_) rfl ?_; rotate_left 1; (focus (have q2 := (HB5.out.kp0 hwq).cellV 2 (v := kv) rfl; have c0 := (HB7.out.kp0 hwq).cellV 0 (v := .bool xa.on) rfl; have c1 := (HB7.out.kp0 hwq).cellV 1 (v := .bool xa.al) rfl; have c2 := (HB7.out.kp0 hwq).cellV 2 (v := va) rfl; have e0 := (HB8.out.kp0 hwq).cellV 0 (v := .bool xb.on) rfl; have e1 := (HB8.out.kp0 hwq).cellV 1 (v := .bool xb.al) rfl; have e2 := (HB8.out.kp0 hwq).cellV 2 (v := vb) rfl; go_simp; try (with_reducible rfl); done)); try simp only [List.setIfInBounds_toArray, List.set_cons_zero, List.set_cons_succ])
            refine px_eff rfl (by rfl) (fun K hK => ?_)
            go_simp
            refine (HIH.out _ HCA.out _ _ xa xb va vb x0 (Nat.le_refl _) (HXA.out.kp0 HX.out) (HXB.out.kp0 HX.out) HOX.out.1 HOX.out.2).mono ?_
            rw [← HGT.out]
            rintro e x1 ⟨⟨kv2, rfl, hr2⟩, hk⟩
            have HRY := Lib.hid hr2
            have HSX2 : Hid (w10.heap.size ≤ x0.heap.size) := Lib.hid HX.out.size
            unfold MrkA
            simp only []
            have HX := Lib.hid (HX.out.tr hk)
            refine hK (fun w' => Kp0 w10 w') _ _ (fun _ h => h) HX.out ?_
            clear hK K hk hr2
            try simp only [List.setIfInBounds_toArray, List.set_cons_zero, List.set_cons_succ]
            refine px_eff rfl (by rfl) (fun K hK => ?_)
            go_simp
            have HMD := Lib.hid (RdF.made (T := 74) (k := 3) (cs := mvl x kv2) x1 rfl)
            have HKM : Hid (Kp0 x1 (x1.alloc (.cells (mvl x kv2).toArray 74))) := Lib.hid ((Kp.refl _ _).alloc _)
            have hgx : (x1.alloc (.cells #[.bool x.on, .bool x.al, kv2] 74)) = (x1.alloc (.cells (mvl x kv2).toArray 74)) := rfl
            rw [hgx]
            clear hgx
            generalize x1.alloc (.cells (mvl x kv2).toArray 74) = x2 at HMD HKM ⊢
            have HX := Lib.hid (HX.out.tr HKM.out)
            have HRY := Lib.hid (HRY.out.kp0 HKM.out)
            have HON : Hid (Ones (mvl x kv2)) := Lib.hid HRY.out.onesM
            refine hK (fun w' => Kp0 w10 w') _ _ (fun _ h => h) HX.out ?_
            clear hK K HKM
            try simp only [List.setIfInBounds_toArray, List.set_cons_zero, List.set_cons_succ]
            have HSZ : Hid (w10.heap.size ≤ x2.heap.size) := Lib.hid HX.out.size
            have hA2 := HACC.out.kp0 HX.out
            obtain ⟨us, hq1, hq2⟩ := hA2
            have HQ1 := Lib.hid hq1
            have HQ := Lib.hid (fun v' w' => AccM.more (v' := v') (w' := w') hq1 hq2 HRY.out (fun i hi hl => ⟨by have := HSX.out; have := HSX2.out; omega, fun e => by have := (HLT.out i e).2; have := HSX.out; have := HSX2.out; omega⟩))
            clear hq1 hq2
            refine px_wall rfl (by rfl) (fun K hK => ?_)
            refine wp_append_rk (.tmp 59) (.tmp 63) 55 rfl Try.underlying55 infoM rfl (by decide) rfl HQ1.out rfl HMD.out HON.out (by have := HLM.out; unfold maxLen; omega) (by have := HLM.out; omega) (by have := HSZ.out; have := HSX.out; omega) ?_
            intro v2 x3 ho2 hk3 hb3
            obtain ⟨a2, c2, rfl, _, _⟩ := ownK_sl ho2
            have HA3 := Lib.hid (HQ.out _ x3 hk3 hb3 ho2)
            have HBa := Lib.hid ((HBa.out.kp0 HX.out).keep hk3 (fun e => by have := (HLT.out _ e).1; have := HG.out; omega))
            have HBb := Lib.hid ((HBb.out.kp0 HX.out).keep hk3 (fun e => by have := (HLT.out _ e).1; have := HG.out; omega))
            have HB4 := Lib.hid ((HB4.out.kp0 HX.out).keep hk3 (fun e => by have := (HLT.out _ e).1; have := HG.out; omega))
            have HB5 := Lib.hid ((HB5.out.kp0 HX.out).keep hk3 (fun e => by have := (HLT.out _ e).1; have := HG.out; omega))
            have HKR : Hid (Kp (fun b => b = g5) w4 x3) := Lib.hid (HKR.out.trans ((HX.out.nil _).tr hk3) (fun _ _ h => h) (fun i hi e => by have := (HLT.out i e).1; omega))
            clear HQ HQ1 ho2 hk3 hb3
            refine hK (fun _ => True) _ _ trivial ?_
            clear hK K
            simp only [Act.put, List.getElem_toArray, List.getElem_cons_succ, List.getElem_cons_zero]
            try simp only [List.setIfInBounds_toArray, List.set_cons_zero, List.set_cons_succ]
            iterate 1 (refine px_quiet (v := ?_) rfl (by rfl) (fun wq hwq => ?_) rfl ?_; rotate_left 1; (focus (clear hwq; go_simp; try (with_reducible rfl); done)); try simp only [List.setIfInBounds_toArray, List.set_cons_zero, List.set_cons_succ])
            refine px_eff rfl (by rfl) (fun K hK => ?_)
            have hd := HB5.out.cellV 2 (v := kv) rfl
            have hdf := blk_frozen HB5.out 2
            go_simp
            refine hK (fun _ => True) _ _ (fun _ _ => trivial) trivial (px_done ?_)
            clear hK K hd hdf
            have HS : Hid (Kp (fun b => b = g5) x3 (x3.setCell ⟨g5, 2, none⟩ (.slice a2 (ms.length + 1) c2))) := Lib.hid (Kp.setCell (S := fun b => b = g5) (Kp.refl _ _) (p := ⟨g5, 2, none⟩) (fun _ => rfl) _)
            have HB5 := Lib.hid (HB5.out.set' 2 (.slice a2 (ms.length + 1) c2))
            generalize x3.setCell ⟨g5, 2, none⟩ (.slice a2 (ms.length + 1) c2) = x4 at HS HB5 ⊢
            go_wp2
            go_roundg (max ma mb - (k + 1))
            case measure => omega
            case rel =>
              refine ⟨k + 1, .slice a2 (ms.length + 1) c2, by go_num, by omega, rfl, ?_, ?_, ?_, ?_, HB5, HKR.out.tr HS.out⟩
              · rw [HTK.out]
                exact Lib.hid (HA3.out.keep HS.out (fun i hi _ e => by have := HG.out; omega))
              · exact Lib.hid (HBa.out.keep HS.out (fun e => by have := HG.out; omega))
              · exact Lib.hid (HBb.out.keep HS.out (fun e => by have := HG.out; omega))
              · exact Lib.hid (HB4.out.keep HS.out (fun e => by have := HG.out; omega))
        · have i1 : ¬ (k : Int) < (ma : Int) := by omega
          have hb : k < mb := by omega
          have i2 : (k : Int) < (mb : Int) := by omega
          go_upto_region 6 with (first
            | (have hq7 := HB7.out
               clear hq7
               refine wl_alloc_as asMk rfl rfl ?_
               intro w6 g8 hw hg
               have HB8 : Hid (Blk w6 g8 74 mk0) := Lib.hid (by rw [hw, hg]; exact blk0 _ _ _)
               have HB7 : Hid (Blk w6 g7 74 mk0) := Lib.hid (HB7.out.kp0 (by rw [hw]; exact (Kp.refl _ _).alloc _))
               have HK6 : Hid (Kp0 wr w6) := Lib.hid (by rw [hw]; exact HK5.out.alloc _)
               have HG8 : Hid (g7 < g8 ∧ g8 < w6.heap.size) := Lib.hid (by have := HG7.out; rw [hw, hg]; simp; omega)
               clear hw hg)
            | (refine wl_alloc_as asMk rfl rfl ?_
               intro w5 g7 hw hg
               have HB7 : Hid (Blk w5 g7 74 mk0) := Lib.hid (by rw [hw, hg]; exact blk0 _ _ _)
               have HK5 : Hid (Kp0 wr w5) := Lib.hid (by rw [hw]; exact (Kp.refl _ _).alloc _)
               have HG7 : Hid (wr.heap.size ≤ g7 ∧ g7 < w5.heap.size) := Lib.hid (by rw [hw, hg]; simp)
               clear hw hg)
            | (refine wl_store_blk rfl 74 (.tmp 7) (.tmp 36) rfl g7 _ mk0 (mvl pm0 (.slice none 0 0)) rfl rfl HB7.out infoMk rfl (RowM.nil (fun _ => False) wr).onesM ?_
               intro w7 hA hk7
               have HB7 := Lib.hid hA
               have HB8 := Lib.hid (HB8.out.keep hk7 (fun e => by have := HG8.out; omega))
               have HK7 : Hid (Kp0 wr w7) := Lib.hid (HK6.out.trans hk7 (fun _ _ h => h) (fun i hi e => by have := HG7.out.1; omega))
               clear hA hk7)
            | (refine wl_store_blk rfl 74 (.tmp 8) (.tmp 37) rfl g8 _ mk0 (mvl pm0 (.slice none 0 0)) rfl rfl HB8.out infoMk rfl (RowM.nil (fun _ => False) wr).onesM ?_
               intro w8 hA hk8
               have HB8 := Lib.hid hA
               have HB7 := Lib.hid (HB7.out.keep hk8 (fun e => by have := HG8.out; omega))
               have HK8 : Hid (Kp0 wr w8) := Lib.hid (HK7.out.trans hk8 (fun _ _ h => h) (fun i hi e => by have := HG7.out.1; have := HG8.out.1; omega))
               clear hA hk8))
          try simp only [Act.put]
          try simp only [List.setIfInBounds_toArray, List.set_cons_zero, List.set_cons_succ]
          have HG7 : Hid (wr.heap.size ≤ g7 ∧ g7 < g8 ∧ g8 < w8.heap.size) := Lib.hid (by have := HG7.out.1; have := HG8.out.1; have := HB8.out.lt; omega)
          have HSR : Hid (w4.heap.size ≤ wr.heap.size) := Lib.hid HKR.out.size
          clear HK5 HK6 HK7 HG8 qa qb
          have qa := (HBa.out.kp0 HK8.out).cellV 2 (v := .slice _ ma _) rfl
          have qb := (HBb.out.kp0 HK8.out).cellV 2 (v := .slice _ mb _) rfl
          go_upto_region 8 with (fail)
          obtain ⟨w9, hwn⟩ : ∃ x, x = w8 := ⟨_, rfl⟩
          subst hwn
          have HK9 := HK8
          clear qa qb
          obtain ⟨xa, va, HB7, HXA, HGA⟩ : ∃ xa va, Hid (Blk w9 g7 74 (mvl xa va)) ∧ Hid (RowM (fun i => i < w.heap.size) w9 va xa.ks) ∧ Hid (a.ks.getD k pm0 = xa) := ⟨pm0, .slice none 0 0, HB7, Lib.hid (RowM.nil _ _), Lib.hid (by rw [List.getD_eq_getElem?_getD, List.getElem?_eq_none (by have := HMA.out; omega)]; rfl)⟩
          obtain ⟨b2, o2, cap2, vb, e1, _, _, D0, D1, D2, hkv, _⟩ := HB.out.at k (by have := HMB.out; omega)
          have hm := HMB.out
          rw [← hm] at e1
          simp only [Value.slice.injEq] at e1
          obtain ⟨rfl, _, rfl⟩ := e1
          have HKW8 := Lib.hid (HKW.out.tr HK9.out)
          have HXB : Hid (RowM (fun i => i < w.heap.size) w9 vb (b.ks[k]'(by have := HMB.out; omega)).ks) := Lib.hid (hkv.keep HKW8.out (fun _ _ _ h => h) (fun i _ hl => hl))
          have d0 := HKW8.out.cell D0 (fun h => h)
          have d1 := HKW8.out.cell D1 (fun h => h)
          have d2 := HKW8.out.cell D2 (fun h => h)
          have HGB : Hid (b.ks.getD k pm0 = b.ks[k]'(by have := HMB.out; omega)) := Lib.hid (by rw [List.getD_eq_getElem?_getD, List.getElem?_eq_getElem (by have := HMB.out; omega)]; rfl)
          have qb := (HBb.out.kp0 HK9.out).cellV 2 (v := .slice _ mb _) rfl
          have qa := (HBa.out.kp0 HK9.out).cellV 2 (v := .slice _ ma _) rfl
          generalize b.ks[k]'(by have := HMB.out; omega) = xb at d0 d1 d2 HXB HGB
          clear hm hkv D0 D1 D2
          go_upto_region 10 with (refine wl_store_blk rfl 74 (.tmp 8) (.tmp 57) rfl g8 _ _ (mvl xb vb) rfl rfl HB8.out infoMk rfl HXB.out.onesM ?_
                                  intro w10 hA hk9
                                  have HB8 := Lib.hid hA
                                  have HB7 := Lib.hid (HB7.out.keep hk9 (fun e => by have := HG7.out; omega))
                                  have HK10 : Hid (Kp0 wr w10) := Lib.hid (HK9.out.trans hk9 (fun _ _ h => h) (fun i hi e => by have := HG7.out.1; have := HG7.out.2.1; omega))
                                  have HXB := Lib.hid (HXB.out.keep (G := fun i => i < w.heap.size) hk9 (fun i hi _ e => by have := HG7.out.1; have := HG7.out.2.1; have := HSR.out; have := HG.out; omega) (fun i hi _ => hi))
                                  have HXA := Lib.hid (HXA.out.keep (G := fun i => i < w.heap.size) hk9 (fun i hi _ e => by have := HG7.out.1; have := HG7.out.2.1; have := HSR.out; have := HG.out; omega) (fun i hi _ => hi))
                                  clear hA hk9)
          try simp only [Act.put]
          try simp only [List.setIfInBounds_toArray, List.set_cons_zero, List.set_cons_succ]
          clear d0 d1 d2 qb qa HKW8
          rw [HGA.out, HGB.out] at HGT
          have HBa := Lib.hid (HBa.out.kp0 HK10.out)
          have HBb := Lib.hid (HBb.out.kp0 HK10.out)
          have HB4 := Lib.hid (HB4.out.kp0 HK10.out)
          have HB5 := Lib.hid (HB5.out.kp0 HK10.out)
          have HLT := Lib.hid HACC.out.lt
          have HACC := Lib.hid (HACC.out.kp0 HK10.out)
          have HKR := Lib.hid (HKR.out.tr (HK10.out.nil _))
          have HKW := Lib.hid (HKW.out.tr HK10.out)
          have HSX : Hid (w4.heap.size ≤ wr.heap.size ∧ wr.heap.size ≤ w10.heap.size) := Lib.hid ⟨HSR.out, HK10.out.size⟩
          have HCA : Hid (cntM xa + cntM xb < N) := Lib.hid (by
            have h1 := cntMs_getD a.ks k
            have h2 := cntMs_getD b.ks k
            have h3 := cntM_ks a
            have h4 := cntM_ks b
            have h5 := HN.out
            have h6 := HMA.out
            have h7 := HMB.out
            rw [HGA.out] at h1
            rw [HGB.out] at h2
            rcases Nat.lt_or_ge k ma with hx | hx
            · have := h1.2 (by omega)
              omega
            · have := h2.2 (by omega)
              omega)
          have HOX : Hid (mOk xa = true ∧ mOk xb = true) := Lib.hid ⟨by rw [← HGA.out]; exact msOk_getD HOA.out.2 k, by rw [← HGB.out]; exact msOk_getD HOB.out.2 k⟩
          generalize rs.take k = ms at HTK HACC HLM
          clear HG7 HK8 HK9 HK10 HGA HGB
          refine wp_region_px 9 [6] (fun w' : World => Kp0 w10 w') (.quiet 0 (.quiet 1 (.quiet 2 (.quiet 3 (.eff 4 (.eff 5 (.wall 6 (.quiet 7 (.eff 8 .done))))))))) (by kernel_rfl) (by kernel_rfl) (by kernel_rfl) (by kernel_rfl) (fun _ d _ _ _ h => by cases d <;> exact h) (Kp.refl (fun _ => False) w10).drew ?_
          have HX : Hid (Kp0 w10 w10.drew) := Lib.hid (Kp.refl (fun _ => False) w10).drew
          generalize w10.drew = x0 at HX ⊢
          iterate 4 (refine px_quiet (v := ?_) rfl (by rfl) (fun wq hwq => ?_) rfl ?_; rotate_left 1; (focus (have q2 := (HB5.out.kp0 hwq).cellV 2 (v := kv) rfl; have c0 := (HB7.out.kp0 hwq).cellV 0 (v := .bool xa.on) rfl; have c1 := (HB7.out.kp0 hwq).cellV 1 (v := .bool xa.al) rfl; have c2 := (HB7.out.kp0 hwq).cellV 2 (v := va) rfl; have e0 := (HB8.out.kp0 hwq).cellV 0 (v := .bool xb.on) rfl; have e1 := (HB8.out.kp0 hwq).cellV 1 (v := .bool xb.al) rfl; have e2 := (HB8.out.kp0 hwq).cellV 2 (v := vb) rfl; go_simp; try (with_reducible rfl); done)); try simp only [List.setIfInBounds_toArray, List.set_cons_zero, List.set_cons_succ])
          refine px_eff rfl (by rfl) (fun K hK => ?_)
          go_simp
          refine (HIH.out _ HCA.out _ _ xa xb va vb x0 (Nat.le_refl _) (HXA.out.kp0 HX.out) (HXB.out.kp0 HX.out) HOX.out.1 HOX.out.2).mono ?_
          rw [← HGT.out]
          rintro e x1 ⟨⟨kv2, rfl, hr2⟩, hk⟩
          have HRY := Lib.hid hr2
          have HSX2 : Hid (w10.heap.size ≤ x0.heap.size) := Lib.hid HX.out.size
          unfold MrkA
          simp only []
          have HX := Lib.hid (HX.out.tr hk)
          refine hK (fun w' => Kp0 w10 w') _ _ (fun _ h => h) HX.out ?_
          clear hK K hk hr2
          try simp only [List.setIfInBounds_toArray, List.set_cons_zero, List.set_cons_succ]
          refine px_eff rfl (by rfl) (fun K hK => ?_)
          go_simp
          have HMD := Lib.hid (RdF.made (T := 74) (k := 3) (cs := mvl x kv2) x1 rfl)
          have HKM : Hid (Kp0 x1 (x1.alloc (.cells (mvl x kv2).toArray 74))) := Lib.hid ((Kp.refl _ _).alloc _)
          have hgx : (x1.alloc (.cells #[.bool x.on, .bool x.al, kv2] 74)) = (x1.alloc (.cells (mvl x kv2).toArray 74)) := rfl
          rw [hgx]
          clear hgx
          generalize x1.alloc (.cells (mvl x kv2).toArray 74) = x2 at HMD HKM ⊢
          have HX := Lib.hid (HX.out.tr HKM.out)
          have HRY := Lib.hid (HRY.out.kp0 HKM.out)
          have HON : Hid (Ones (mvl x kv2)) := Lib.hid HRY.out.onesM
          refine hK (fun w' => Kp0 w10 w') _ _ (fun _ h => h) HX.out ?_
          clear hK K HKM
          try simp only [List.setIfInBounds_toArray, List.set_cons_zero, List.set_cons_succ]
          have HSZ : Hid (w10.heap.size ≤ x2.heap.size) := Lib.hid HX.out.size
          have hA2 := HACC.out.kp0 HX.out
          obtain ⟨us, hq1, hq2⟩ := hA2
          have HQ1 := Lib.hid hq1
          have HQ := Lib.hid (fun v' w' => AccM.more (v' := v') (w' := w') hq1 hq2 HRY.out (fun i hi hl => ⟨by have := HSX.out; have := HSX2.out; omega, fun e => by have := (HLT.out i e).2; have := HSX.out; have := HSX2.out; omega⟩))
          clear hq1 hq2
          refine px_wall rfl (by rfl) (fun K hK => ?_)
          refine wp_append_rk (.tmp 59) (.tmp 63) 55 rfl Try.underlying55 infoM rfl (by decide) rfl HQ1.out rfl HMD.out HON.out (by have := HLM.out; unfold maxLen; omega) (by have := HLM.out; omega) (by have := HSZ.out; have := HSX.out; omega) ?_
          intro v2 x3 ho2 hk3 hb3
          obtain ⟨a2, c2, rfl, _, _⟩ := ownK_sl ho2
          have HA3 := Lib.hid (HQ.out _ x3 hk3 hb3 ho2)
          have HBa := Lib.hid ((HBa.out.kp0 HX.out).keep hk3 (fun e => by have := (HLT.out _ e).1; have := HG.out; omega))
          have HBb := Lib.hid ((HBb.out.kp0 HX.out).keep hk3 (fun e => by have := (HLT.out _ e).1; have := HG.out; omega))
          have HB4 := Lib.hid ((HB4.out.kp0 HX.out).keep hk3 (fun e => by have := (HLT.out _ e).1; have := HG.out; omega))
          have HB5 := Lib.hid ((HB5.out.kp0 HX.out).keep hk3 (fun e => by have := (HLT.out _ e).1; have := HG.out; omega))
          have HKR : Hid (Kp (fun b => b = g5) w4 x3) := Lib.hid (HKR.out.trans ((HX.out.nil _).tr hk3) (fun _ _ h => h) (fun i hi e => by have := (HLT.out i e).1; omega))
          clear HQ HQ1 ho2 hk3 hb3
          refine hK (fun _ => True) _ _ trivial ?_
          clear hK K
          simp only [Act.put, List.getElem_toArray, List.getElem_cons_succ, List.getElem_cons_zero]
          try simp only [List.setIfInBounds_toArray, List.set_cons_zero, List.set_cons_succ]
          iterate 1 (refine px_quiet (v := ?_) rfl (by rfl) (fun wq hwq => ?_) rfl ?_; rotate_left 1; (focus (clear hwq; go_simp; try (with_reducible rfl); done)); try simp only [List.setIfInBounds_toArray, List.set_cons_zero, List.set_cons_succ])
          refine px_eff rfl (by rfl) (fun K hK => ?_)
          have hd := HB5.out.cellV 2 (v := kv) rfl
          have hdf := blk_frozen HB5.out 2
          go_simp
          refine hK (fun _ => True) _ _ (fun _ _ => trivial) trivial (px_done ?_)
          clear hK K hd hdf
          have HS : Hid (Kp (fun b => b = g5) x3 (x3.setCell ⟨g5, 2, none⟩ (.slice a2 (ms.length + 1) c2))) := Lib.hid (Kp.setCell (S := fun b => b = g5) (Kp.refl _ _) (p := ⟨g5, 2, none⟩) (fun _ => rfl) _)
          have HB5 := Lib.hid (HB5.out.set' 2 (.slice a2 (ms.length + 1) c2))
          generalize x3.setCell ⟨g5, 2, none⟩ (.slice a2 (ms.length + 1) c2) = x4 at HS HB5 ⊢
          go_wp2
          go_roundg (max ma mb - (k + 1))
          case measure => omega
          case rel =>
            refine ⟨k + 1, .slice a2 (ms.length + 1) c2, by go_num, by omega, rfl, ?_, ?_, ?_, ?_, HB5, HKR.out.tr HS.out⟩
            · rw [HTK.out]
              exact Lib.hid (HA3.out.keep HS.out (fun i hi _ e => by have := HG.out; omega))
            · exact Lib.hid (HBa.out.keep HS.out (fun e => by have := HG.out; omega))
            · exact Lib.hid (HBb.out.keep HS.out (fun e => by have := HG.out; omega))
            · exact Lib.hid (HB4.out.keep HS.out (fun e => by have := HG.out; omega))
      · have i1 : ¬ (k : Int) < (ma : Int) := by omega
        have i2 : ¬ (k : Int) < (mb : Int) := by omega
        have htk : rs.take k = rs := List.take_of_length_le (by have := HRL.out; have := HMA.out; have := HMB.out; omega)
        have HRW := Lib.hid HACC.out.row
        rw [htk] at HRW
        clear htk
        have q0 := HB5.out.cellV 0 (v := .bool o) rfl
        have q1 := HB5.out.cellV 1 (v := .bool l) rfl
        have q2 := HB5.out.cellV 2 (v := kv) rfl
        go_wp2_with (refine wl_store_blk rfl 74 (.tmp 4) (.tmp 66) rfl g4 _ mk0 (mvl (.mk o l rs) kv) rfl rfl HB4.out infoMk rfl HRW.out.onesM ?_
                     intro w5 hA hk5
                     have HB6 := Lib.hid hA
                     have HK5 : Hid (Kp0 w w5) := Lib.hid (HKW.out.trans hk5 (fun _ _ h => h) (fun i hi e => by have := HG.out; omega))
                     have HR5 := Lib.hid (HRW.out.keep (G := fun i => w.heap.size ≤ i) hk5 (fun i hi _ e => by have := HG.out; omega) (fun i hi _ => Nat.le_trans HK.out.size hi))
                     clear hA hk5)
        refine ret_blk 4 74 74 g4 (mvl (.mk o l rs) kv) _ rfl rfl HB6.out Try.underlying74 rfl infoMk rfl ?_
        exact ⟨⟨kv, by rw [HR.out]; rfl, by rw [HR.out]; exact HR5.out⟩, HK5.out⟩
theorem both_all (N : Nat) : BothP N := both_step N fun k hk => both_all k
termination_by N
decreasing_by exact hk
theorem both_any {F G : Nat → Prop} (a b : PM) (av bv : Value) (w : World) (ha : RowM F w av a.ks) (hb : RowM G w bv b.ks) (hoa : mOk a = true) (hob : mOk b = true) :
    Calls Try.prog 36 #[MrkA a av, MrkA b bv] w fun e w' => NewM w w' e (bothT a b) ∧ Kp0 w w' := both_all _ F G a b av bv w (Nat.le_refl _) ha hb hoa hob
end Go.Proofs.Ytmamcnhofgfolaa
