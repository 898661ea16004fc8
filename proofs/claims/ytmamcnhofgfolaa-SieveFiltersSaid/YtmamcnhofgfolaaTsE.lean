/- The reference of layer 16: what an element with elements marks of a node. -/
import Derived.Test.YtmamcnhofgfolaaTsD
namespace Go.Proofs.Ytmamcnhofgfolaa
open Go Go.RowKit
/-- A block of marks that have no marks. -/
def ArrE (g : Nat) (w : World) (ms : List PM) : Prop := Blk w g 74 (mcs ms (List.replicate ms.length (.slice none 0 0))) ∧ ∀ m ∈ ms, m.ks = []
theorem mk_empty (F : Nat → Prop) (w : World) : ∀ ms : List PM, (∀ m ∈ ms, m.ks = []) → MksV F w ms (List.replicate ms.length (.slice none 0 0))
  | [], _ => by unfold MksV; rfl
  | m :: ms, h => by
    rw [List.length_cons, List.replicate_succ]
    unfold MksV
    exact ⟨_, _, rfl, RowM.nd (by rw [h m (by simp)]; exact RowM.nil _ _), mk_empty F w ms (fun x hx => h x (by simp [hx]))⟩
theorem ArrE.arr {g : Nat} {w : World} {ms : List PM} (h : ArrE g w ms) (B : Nat) : ArrM B g w ms := ⟨_, h.1, mk_empty _ _ _ h.2⟩
theorem ArrE.keep {g : Nat} {w w' : World} {ms : List PM} {S0 : Nat → Prop} (h : ArrE g w ms) (hk : Kp S0 w w') (hg : ¬ S0 g) : ArrE g w' ms := ⟨h.1.keep hk hg, h.2⟩
theorem ArrE.kp0 {g : Nat} {w w' : World} {ms : List PM} (h : ArrE g w ms) (hk : Kp0 w w') : ArrE g w' ms := ⟨h.1.kp0 hk, h.2⟩
theorem ArrE.put {g i : Nat} {w w' : World} {ms : List PM} (h : ArrE g w ms) (hi : i < ms.length) (hA : Blk w' g 74 ((mcs ms (List.replicate ms.length (.slice none 0 0))).take (i * 3) ++ mvl pm1 (.slice none 0 0) ++ (mcs ms (List.replicate ms.length (.slice none 0 0))).drop (i * 3 + 3))) : ArrE g w' (ms.set i pm1) := by
  have hv := mk_empty (fun _ => False) w ms h.2
  refine ⟨?_, fun m hm => ?_⟩
  · rw [(mcs_take ms _ i hv).1, show i * 3 + 3 = (i + 1) * 3 by omega, (mcs_take ms _ (i + 1) hv).2] at hA
    have e : List.replicate (ms.set i pm1).length (Value.slice none 0 0) = (List.replicate ms.length (Value.slice none 0 0)).take i ++ Value.slice none 0 0 :: (List.replicate ms.length (Value.slice none 0 0)).drop (i + 1) := by
      rw [List.length_set, List.take_replicate, List.drop_replicate, ← List.replicate_succ, List.replicate_append_replicate]
      congr 1
      omega
    rw [e, List.set_eq_take_append_cons_drop, if_pos hi, mcs_app _ _ _ _ (by rw [List.length_take, List.length_take, List.length_replicate])]
    rw [List.append_assoc] at hA
    exact hA
  · rcases List.mem_or_eq_of_mem_set hm with h' | h'
    · exact h.2 m h'
    · rw [h']
      rfl
theorem ArrE.rep {g n : Nat} {w : World} (h : Blk w g 74 (mcs (List.replicate n pm0) (List.replicate n (.slice none 0 0)))) : ArrE g w (List.replicate n pm0) :=
  ⟨by rw [List.length_replicate]; exact h, fun m hm => by rw [(List.mem_replicate.1 hm).2]; rfl⟩
theorem AccE.keepG {B : Nat} {G S0 : Nat → Prop} {w w1 : World} {v : Value} {es : List PE} (h : AccE B G w v es) (hk : Kp S0 w w1) (hs : ∀ i, B ≤ i → ¬ S0 i) (hg : ∀ i, G i → ¬ S0 i) : AccE B G w1 v es := by
  obtain ⟨cs, h1, h2⟩ := h
  exact ⟨cs, own_keepB h1 hk (fun b hb => hs b (World.ownsRow.lt h1 b hb).1), ElsV.keep hk hg (fun _ h => h) es cs h2⟩
theorem esOk_snoc : ∀ {r : List PE} {e : PE}, esOk r = true → eOk e = true → esOk (r ++ [e]) = true
  | [], e, _, h => by rw [List.nil_append]; unfold esOk; rw [h]; rfl
  | x :: r, e, h, h2 => by
    unfold esOk at h
    rw [Bool.and_eq_true] at h
    rw [List.cons_append]
    unfold esOk
    rw [h.1, esOk_snoc h.2 h2]
    rfl
set_option maxRecDepth 20000 in
set_option maxHeartbeats 4000000 in
theorem one_kids (n : PN) (ih : MarksP n.ks) (F G H : Nat → Prop) (d : PD) (e : PE) (da db dc kv ea ec : Value) (w : World) (hd : DfR F w d da db dc) (hn : RowN G w kv n.ks) (he : ElR H w e ea ec) (hok : kOk n = true) (heo : eOk e = true) (h3 : (d.kd == 3) = false) (ht : ((S e.tx).toList == []) = true) (hpos : 0 < e.ks.length) :
    Calls Try.prog 37 #[DefA d da db dc, NodA n kv, ElmA e ea ec] w fun r w' => NewM w w' r (oneT d n e) ∧ Kp0 w w' := by
  have HF0 := Lib.hid (oneT_kids (n := n) h3 (by rw [← tx_empty]; exact ht) (fun h => by rw [h] at hpos; simp at hpos))
  have HPOS := Lib.hid hpos
  clear hpos
  have HD := Lib.hid hd
  have HN := Lib.hid hn
  have HE := Lib.hid he
  have HOK := Lib.hid (kOk_ks hok)
  have HEO := Lib.hid (esOk_mem (es := [e]) (by unfold esOk; rw [heo]; rfl) (List.mem_singleton.2 rfl))
  have HIH := Lib.hid ih
  have hmk : ∀ u : World, (Instr.makeSlice 55 (.int .i64 (n.ks.length : Int)) (.int .i64 (n.ks.length : Int))).run Try.prog u = .ok (.slice (some ⟨u.heap.size, 0, none⟩) n.ks.length n.ks.length) (u.alloc (.cells (mcs (List.replicate n.ks.length pm0) (List.replicate n.ks.length (.slice none 0 0))).toArray 74)) := fun u => mkM n.ks.length HOK.out.1 u
  obtain ⟨no, nc, rfl, _, _, _⟩ := hn.shape
  obtain ⟨eo, ecp, rfl, _, _, _⟩ := he.ks.shape
  clear hd hn he hok heo ih
  unfold DefA NodA ElmA
  go_enter Try.func37, Try.ntmps37
  go_upto_region 1 with (refine wl_alloc_as asMk rfl rfl ?_
                         intro w2 g6 hw hg
                         have HB : Hid (Bks w w2 [(w.heap.size, 35, dvl d da db dc), (w.heap.size + 1, 40, nvl n (.slice no n.ks.length nc)), (w.heap.size + 1 + 1, 38, evl e ea (.slice eo e.ks.length ecp)), (g6, 74, mk0)]) := Lib.hid (by
                           rw [hw]
                           exact ((((Bks.nil w).push 35 (dvl d da db dc) rfl).push 40 (nvl n (.slice no n.ks.length nc)) (g := w.heap.size + 1) (by simp)).push 38 (evl e ea (.slice eo e.ks.length ecp)) (g := w.heap.size + 1 + 1) (by simp)).push 74 mk0 (g := g6) hg)
                         have HG6 : Hid (w.heap.size + 1 + 1 < g6 ∧ g6 < w2.heap.size) := Lib.hid (by rw [hw, hg]; simp)
                         clear hw hg)
  try simp only [Act.put]
  try simp only [List.setIfInBounds_toArray, List.set_cons_zero, List.set_cons_succ]
  obtain ⟨g5, hg5⟩ : ∃ x, x = w.heap.size + 1 + 1 := ⟨_, rfl⟩
  obtain ⟨g4, hg4⟩ : ∃ x, x = w.heap.size + 1 := ⟨_, rfl⟩
  obtain ⟨g3, hg3⟩ : ∃ x, x = w.heap.size := ⟨_, rfl⟩
  rw [← hg5, ← hg4, ← hg3] at HB
  rw [← hg5] at HG6
  rw [← hg5, ← hg4, ← hg3]
  have HG : Hid (w.heap.size = g3 ∧ g4 = g3 + 1 ∧ g5 = g3 + 2 ∧ g5 < g6 ∧ g6 < w2.heap.size) := Lib.hid (by have := HG6.out; omega)
  clear hg5 hg4 hg3 HG6
  obtain ⟨m, hm⟩ : ∃ x, x = e.ks.length := ⟨_, rfl⟩
  rw [← hm] at HB
  rw [← hm]
  have HM := Lib.hid hm
  clear hm
  have HB6Z := Lib.hid (HB.out.at 3 rfl)
  have HKWZ := Lib.hid HB.out.kp
  have k1 := (HB.out.at 0 rfl).cellV 1 (v := .int .i64 d.kd) rfl
  have n1 := (HB.out.at 1 rfl).cellV 1 (v := .string (S n.vl)) rfl
  have n2 := (HB.out.at 1 rfl).cellV 2 (v := .slice no n.ks.length nc) rfl
  have e3 := (HB.out.at 2 rfl).cellV 3 (v := .string (S e.tx)) rfl
  have e4 := (HB.out.at 2 rfl).cellV 4 (v := .slice eo m ecp) rfl
  have t1 : ((S e.tx).toList != []) = false := by rw [bne, ht]; rfl
  have f1 : ((m : Int) == 0) = false := by rw [beq_eq_false_iff_ne]; have := HPOS.out; have := HM.out; omega
  go_upto_region 8 with (first
    | (refine wl_alloc_as asMk rfl rfl ?_
       intro w3 g7 hw hg
       have HK3 : Hid (Kp0 w2 w3) := Lib.hid (by rw [hw]; exact ((Kp.refl _ _).alloc _).alloc _)
       have HBM : Hid (Blk w3 w2.heap.size 74 (mcs (List.replicate n.ks.length pm0) (List.replicate n.ks.length (.slice none 0 0)))) := Lib.hid (by rw [hw]; exact (blk0 w2 74 (mcs (List.replicate n.ks.length pm0) (List.replicate n.ks.length (.slice none 0 0)))).kp0 ((Kp.refl _ _).alloc _))
       have HB7 : Hid (Blk w3 g7 74 mk0) := Lib.hid (by rw [hw, hg]; exact blk0 _ _ _)
       have HG7 : Hid (w2.heap.size < g7 ∧ g7 < w3.heap.size) := Lib.hid (by rw [hw, hg]; simp)
       clear hw hg)
    | (refine wl_store_blk rfl 74 (.tmp 7) (.tmp 66) rfl g7 _ mk0 (mvl pm0 (.slice (some ⟨w2.heap.size, 0, none⟩) n.ks.length n.ks.length)) rfl rfl HB7.out infoMk rfl (mb_ones false false _ rfl) ?_
       intro w4 hA hk4
       have HB7 := Lib.hid hA
       have HAR : Hid (ArrE w2.heap.size w4 (List.replicate n.ks.length pm0)) := Lib.hid (ArrE.rep (HBM.out.keep hk4 (fun e => by have := HG7.out; omega)))
       have HK4 : Hid (Kp0 w2 w4) := Lib.hid (HK3.out.trans hk4 (fun _ _ h => h) (fun i hi e => by have := HG7.out.1; omega))
       clear hA hk4))
  try simp only [Act.put]
  try simp only [List.setIfInBounds_toArray, List.set_cons_zero, List.set_cons_succ]
  obtain ⟨gM, hgM⟩ : ∃ x, x = w2.heap.size := ⟨_, rfl⟩
  rw [← hgM] at HAR HB7
  have HG := Lib.hid (show w.heap.size = g3 ∧ g4 = g3 + 1 ∧ g5 = g3 + 2 ∧ g5 < g6 ∧ g6 < gM ∧ gM < g7 ∧ g7 < w4.heap.size by have := HG.out; have := HG7.out; have := HB7.out.lt; omega)
  have HB4 := Lib.hid (HB.out.kp0 HK4.out)
  have HKM : Hid (Kp0 w w4) := Lib.hid (HB.out.kp.tr HK4.out)
  clear HBM HK3 HK4 HG7 hgM HB6Z HKWZ k1 n1 n2 e3 e4
  go_wp2
  go_loopg [8, 9, 10] m (fun gg rv sv i wr => ∃ (k : Nat) (M : List PM) (r : List PE) (b : Bool), i = .int .i64 k ∧ sv = .bool b ∧ k ≤ m ∧ gg = m - k ∧ M.length = n.ks.length ∧ Hid (msOk M = true) ∧ Hid (lvsT d n.ks e.ks (List.replicate n.ks.length pm0) [] false = lvsT d n.ks (e.ks.drop k) M r b) ∧ Hid (AccE w4.heap.size (fun i => H i ∧ i < w.heap.size) wr rv r) ∧ Hid (r.length ≤ k ∧ esOk r = true) ∧ Hid (ArrE gM wr M) ∧ Kp (fun b => b = gM) w4 wr)
  case atStart => exact ⟨0, List.replicate n.ks.length pm0, [], false, rfl, rfl, Nat.zero_le _, rfl, List.length_replicate, Lib.hid (rep_ok _), Lib.hid rfl, Lib.hid (AccE.nil _ _ _), Lib.hid ⟨Nat.zero_le _, rfl⟩, HAR, Kp.refl _ _⟩
  case round =>
    clear HAR
    obtain ⟨k, M, r, b, rfl, rfl, hk, rfl, hml, HMO, HF, HA, HLN, HAR, hkp⟩ := hrel
    have HKR := Lib.hid hkp
    have HML := Lib.hid hml
    clear hkp hml
    have HKW : Hid (Kp0 w wr) := Lib.hid (HKM.out.trans HKR.out (fun _ _ h => h) (fun i hi e => by have := HG.out; omega))
    have HBW : Hid (Blk wr g3 35 (dvl d da db dc) ∧ Blk wr g4 40 (nvl n (.slice no n.ks.length nc)) ∧ Blk wr g5 38 (evl e ea (.slice eo m ecp)) ∧ Blk wr g6 74 mk0 ∧ Blk wr g7 74 (mvl pm0 (.slice (some ⟨gM, 0, none⟩) n.ks.length n.ks.length))) := Lib.hid ⟨(HB4.out.at 0 rfl).keep HKR.out (fun e => by have := HG.out; omega), (HB4.out.at 1 rfl).keep HKR.out (fun e => by have := HG.out; omega), (HB4.out.at 2 rfl).keep HKR.out (fun e => by have := HG.out; omega), (HB4.out.at 3 rfl).keep HKR.out (fun e => by have := HG.out; omega), HB7.out.keep HKR.out (fun e => by have := HG.out; omega)⟩
    have e4 := HBW.out.2.2.1.cellV 4 (v := .slice eo m ecp) rfl
    by_cases h : k < m
    · have i1 : (k : Int) < (m : Int) := by omega
      have h' : k < e.ks.length := by have := HM.out; omega
      obtain ⟨b1, o1, cap1, xa, xc, e1, _, _, D0, D1, D2, D3, D4, hel, _, _⟩ := HE.out.ks.at k h'
      have hm := HM.out
      rw [← hm] at e1
      simp only [Value.slice.injEq] at e1
      obtain ⟨rfl, _, rfl⟩ := e1
      have HXF := Lib.hid (hel.lt.kp0 HKW.out)
      have d0 := HKW.out.cell D0 (fun h => h)
      have d1 := HKW.out.cell D1 (fun h => h)
      have d2 := HKW.out.cell D2 (fun h => h)
      have d3 := HKW.out.cell D3 (fun h => h)
      have d4 := HKW.out.cell D4 (fun h => h)
      have HST : Hid (lvsT d n.ks (e.ks.drop k) M r b = if isMatch d (e.ks[k]'h') then (match lfP n.ks (e.ks[k]'h').nm (e.ks[k]'h').tx with
        | none => none
        | some p => lvsT d n.ks (e.ks.drop (k + 1)) (M.set p pm1) r true) else lvsT d n.ks (e.ks.drop (k + 1)) M (r ++ [(e.ks[k]'h')]) b) := Lib.hid (by rw [List.drop_eq_getElem_cons h', lvsT]; cases isMatch d (e.ks[k]'h') <;> first | rfl | (cases lfP n.ks (e.ks[k]'h').nm (e.ks[k]'h').tx <;> rfl))
      have HEK : Hid (eOk (e.ks[k]'h') = true) := Lib.hid (esOk_memE HEO.out.2 (List.getElem_mem h'))
      clear hel hm D0 D1 D2 D3 D4
      generalize e.ks[k]'h' = el at d0 d1 d2 d3 d4 HST HXF HEK
      go_upto_region 14 with (first
        | (refine wl_alloc_as asEl rfl rfl ?_
           intro w5 g11 hw hg
           have HB5 : Hid (Blk w5 g11 38 el0) := Lib.hid (by rw [hw, hg]; exact blk0 _ _ _)
           have HK5 : Hid (Kp0 wr w5) := Lib.hid (by rw [hw]; exact (Kp.refl _ _).alloc _)
           have HG11 : Hid (wr.heap.size ≤ g11 ∧ g11 < w5.heap.size) := Lib.hid (by rw [hw, hg]; simp)
           clear hw hg)
        | (refine wl_store_blk rfl 38 (.tmp 11) (.tmp 78) rfl g11 _ el0 (evl el xa xc) rfl rfl HB5.out infoEl rfl HXF.out.ones ?_
           intro w6 hA hk6
           have HB11 := Lib.hid hA
           have HK6 : Hid (Kp0 wr w6) := Lib.hid (HK5.out.trans hk6 (fun _ _ h => h) (fun i hi e => by have := HG11.out.1; omega))
           clear hA hk6))
      try simp only [Act.put]
      try simp only [List.setIfInBounds_toArray, List.set_cons_zero, List.set_cons_succ]
      have HG11 : Hid (wr.heap.size ≤ g11 ∧ g11 < w6.heap.size) := Lib.hid ⟨HG11.out.1, HB11.out.lt⟩
      have HBX : Hid (Blk w6 g3 35 (dvl d da db dc) ∧ Blk w6 g4 40 (nvl n (.slice no n.ks.length nc)) ∧ Blk w6 g6 74 mk0 ∧ Blk w6 g7 74 (mvl pm0 (.slice (some ⟨gM, 0, none⟩) n.ks.length n.ks.length))) := Lib.hid ⟨HBW.out.1.kp0 HK6.out, HBW.out.2.1.kp0 HK6.out, HBW.out.2.2.2.1.kp0 HK6.out, HBW.out.2.2.2.2.kp0 HK6.out⟩
      have HKR := Lib.hid (HKR.out.tr (HK6.out.nil _))
      have HKW := Lib.hid (HKW.out.tr HK6.out)
      have HA := Lib.hid (HA.out.kp0 HK6.out)
      have HAR := Lib.hid (HAR.out.kp0 HK6.out)
      have HXF := Lib.hid (HXF.out.kp0 HK6.out)
      clear HK5 HB5 d0 d1 d2 d3 d4 e4 HBW
      obtain ⟨ko, kc, rfl, _, _, _⟩ := HD.out.ks.shape
      have c6 := HBX.out.1.cellV 6 (v := .slice ko d.ks.length kc) rfl
      have x1 := HB11.out.cellV 1 (v := .string (S el.nm)) rfl
      have x3 := HB11.out.cellV 3 (v := .string (S el.tx)) rfl
      cases hmt : isMatch d el with
      | false =>
        have HST : Hid (lvsT d n.ks (e.ks.drop k) M r b = lvsT d n.ks (e.ks.drop (k + 1)) M (r ++ [el]) b) := Lib.hid (by rw [HST.out, hmt]; rfl)
        cases hpl : plc d.ks el.nm with
        | none =>
          have HPL := Lib.hid hpl
          clear hpl hmt
          go_upto_region 15 with (go_at_call 28; refine (place_any d.ks _ el.nm _ (HD.out.ks.kp0 HKW.out)).mono ?_; rw [HPL.out]; rintro r3 w7 ⟨rfl, hk7⟩; have HK7 := Lib.hid hk7; clear hk7)
          have f4 : plI none < 0 := by decide
          have HBX : Hid (Blk w7 g3 35 (dvl d da db _) ∧ Blk w7 g4 40 (nvl n (.slice no n.ks.length nc)) ∧ Blk w7 g6 74 mk0 ∧ Blk w7 g7 74 (mvl pm0 (.slice (some ⟨gM, 0, none⟩) n.ks.length n.ks.length))) := Lib.hid ⟨HBX.out.1.kp0 HK7.out, HBX.out.2.1.kp0 HK7.out, HBX.out.2.2.1.kp0 HK7.out, HBX.out.2.2.2.kp0 HK7.out⟩
          have HKR := Lib.hid (HKR.out.tr (HK7.out.nil _))
          have HKW := Lib.hid (HKW.out.tr HK7.out)
          have HA := Lib.hid (HA.out.kp0 HK7.out)
          have HAR := Lib.hid (HAR.out.kp0 HK7.out)
          have HXF := Lib.hid (HXF.out.kp0 HK7.out)
          have HB11 := Lib.hid (HB11.out.kp0 HK7.out)
          clear c6 x1 x3
          have c6 := HBX.out.1.cellV 6 (v := .slice _ d.ks.length _) rfl
          have x1 := HB11.out.cellV 1 (v := .string (S el.nm)) rfl
          have x3 := HB11.out.cellV 3 (v := .string (S el.tx)) rfl
          go_upto_region 16 with (fail)
          have x0 := HB11.out.cellV 0 (v := .string (S el.sp)) rfl
          have x2 := HB11.out.cellV 2 (v := xa) rfl
          have x4 := HB11.out.cellV 4 (v := xc) rfl
          obtain ⟨cs, hO, hE⟩ := HA.out
          have HO : Hid (∀ o, (w7.alloc o).ownsRow w4.heap.size 38 5 u8 r.length cs) := Lib.hid (fun o => own_keepB hO ((Kp.refl (fun _ => False) _).alloc o) (fun _ _ h => h))
          have HE1 : Hid (∀ o, ElsV (fun i => H i ∧ i < w.heap.size) (w7.alloc o) r cs) := Lib.hid (fun o => ElsV.keep ((Kp.refl (fun _ => False) _).alloc o) (fun _ _ h => h) (fun _ h => h) _ _ hE)
          have HE2 : Hid (∀ o, ElsV (fun i => H i ∧ i < w.heap.size) (w7.alloc o) [el] (evl el xa xc)) := Lib.hid (fun o => ElsV.keep ((Kp.refl (fun _ => False) _).alloc o) (fun _ _ h => h) (fun _ h => h) _ _ HXF.out.els)
          have HMD := Lib.hid (RdF.made (T := 38) (k := 5) (cs := evl el xa xc) w7 rfl)
          have HON := Lib.hid HXF.out.ones
          have HSZ : Hid (w.heap.size ≤ w4.heap.size ∧ w4.heap.size ≤ w7.heap.size) := Lib.hid ⟨HKM.out.size, HKR.out.size⟩
          have HOB : Hid (∀ b, u8.ownBlock = some b → w4.heap.size ≤ b) := Lib.hid (fun b hb => (World.ownsRow.lt hO b hb).1)
          clear hO hE
          go_wp2_with (at_builtin
                       refine wl_append_rk rfl (.tmp 100) (.tmp 102) 22 rfl Try.underlying22 infoE rfl (by decide) rfl (HO.out _) rfl HMD.out HON.out (by have := HLN.out; have := HEO.out; have := HM.out; unfold maxLen; omega) (by have := HLN.out; have := HEO.out; have := HM.out; omega) (by have := HSZ.out; simp; omega) ?_
                       intro u8b wz ho hkz hbz
                       have HZ := Lib.hid (AccE.more (fs := [el]) (HO.out _) (HE1.out _) (fun i hi => Nat.lt_of_lt_of_le hi.2 HSZ.out.1) (HE2.out _) hkz ho)
                       have HKZ : Hid (Kp (fun b => b = gM) w4 wz) := Lib.hid ((HKR.out.alloc _).trans hkz (fun _ _ h => h) (fun i hi e => by have := HOB.out i e; omega))
                       have HARZ := Lib.hid ((HAR.out.kp0 ((Kp.refl (fun _ => False) w7).alloc _)).keep hkz (fun e => by have := HOB.out _ e; have := HG.out; omega))
                       clear ho hkz hbz)
          go_roundg (m - (k + 1))
          case measure => omega
          case rel => exact ⟨k + 1, M, r ++ [el], b, by go_num, rfl, by omega, rfl, HML.out, HMO, Lib.hid (by rw [HF.out, HST.out]), HZ, Lib.hid ⟨by rw [List.length_append]; have := HLN.out; simp; omega, esOk_snoc HLN.out.2 HEK.out⟩, HARZ, HKZ.out⟩
        | some i =>
          have hi := plc_lt hpl
          obtain ⟨bd, od, cd, va, vb, vc, e1, _, _, L0, L1, L2, L3, L4, L5, L6, hdr, _, _⟩ := HD.out.ks.at i hi
          simp only [Value.slice.injEq] at e1
          obtain ⟨rfl, _, rfl⟩ := e1
          have HPL := Lib.hid hpl
          have HPK : Hid (isMatch d el = ((d.ks[i]'hi).kd == 3 && !el.tx.isEmpty)) := Lib.hid (by unfold isMatch; rw [hpl]; simp only [List.getElem?_eq_getElem hi])
          clear L0 L2 L3 L4 L5 L6 hdr hpl
          generalize d.ks[i]'hi = dk at L1 HPK
          have f3 : plI (some i) = (i : Int) := rfl
          have f4 : ¬ (i : Int) < 0 := by omega
          have f5 : (i : Int) < (d.ks.length : Int) := by omega
          rw [HPK.out] at hmt
          have L1 := HKW.out.cell L1 (fun h => h)
          go_upto_region 15 with (go_at_call 28; refine (place_any d.ks _ el.nm _ (HD.out.ks.kp0 HKW.out)).mono ?_; rw [HPL.out, f3]; rintro r3 w7 ⟨rfl, hk7⟩; have HK7 := Lib.hid hk7; clear hk7)
          have L1 := HK7.out.cell L1 (fun h => h)
          clear f3 HPK
          have HBX : Hid (Blk w7 g3 35 (dvl d da db _) ∧ Blk w7 g4 40 (nvl n (.slice no n.ks.length nc)) ∧ Blk w7 g6 74 mk0 ∧ Blk w7 g7 74 (mvl pm0 (.slice (some ⟨gM, 0, none⟩) n.ks.length n.ks.length))) := Lib.hid ⟨HBX.out.1.kp0 HK7.out, HBX.out.2.1.kp0 HK7.out, HBX.out.2.2.1.kp0 HK7.out, HBX.out.2.2.2.kp0 HK7.out⟩
          have HKR := Lib.hid (HKR.out.tr (HK7.out.nil _))
          have HKW := Lib.hid (HKW.out.tr HK7.out)
          have HA := Lib.hid (HA.out.kp0 HK7.out)
          have HAR := Lib.hid (HAR.out.kp0 HK7.out)
          have HXF := Lib.hid (HXF.out.kp0 HK7.out)
          have HB11 := Lib.hid (HB11.out.kp0 HK7.out)
          clear c6 x1 x3
          have c6 := HBX.out.1.cellV 6 (v := .slice _ d.ks.length _) rfl
          have x1 := HB11.out.cellV 1 (v := .string (S el.nm)) rfl
          have x3 := HB11.out.cellV 3 (v := .string (S el.tx)) rfl
          cases h3 : (dk.kd == 3)
          · have q3 : (dk.kd != 3) = true := by rw [bne, h3]; rfl
            clear hmt
            go_upto_region 16 with (fail)
            have x0 := HB11.out.cellV 0 (v := .string (S el.sp)) rfl
            have x2 := HB11.out.cellV 2 (v := xa) rfl
            have x4 := HB11.out.cellV 4 (v := xc) rfl
            obtain ⟨cs, hO, hE⟩ := HA.out
            have HO : Hid (∀ o, (w7.alloc o).ownsRow w4.heap.size 38 5 u8 r.length cs) := Lib.hid (fun o => own_keepB hO ((Kp.refl (fun _ => False) _).alloc o) (fun _ _ h => h))
            have HE1 : Hid (∀ o, ElsV (fun i => H i ∧ i < w.heap.size) (w7.alloc o) r cs) := Lib.hid (fun o => ElsV.keep ((Kp.refl (fun _ => False) _).alloc o) (fun _ _ h => h) (fun _ h => h) _ _ hE)
            have HE2 : Hid (∀ o, ElsV (fun i => H i ∧ i < w.heap.size) (w7.alloc o) [el] (evl el xa xc)) := Lib.hid (fun o => ElsV.keep ((Kp.refl (fun _ => False) _).alloc o) (fun _ _ h => h) (fun _ h => h) _ _ HXF.out.els)
            have HMD := Lib.hid (RdF.made (T := 38) (k := 5) (cs := evl el xa xc) w7 rfl)
            have HON := Lib.hid HXF.out.ones
            have HSZ : Hid (w.heap.size ≤ w4.heap.size ∧ w4.heap.size ≤ w7.heap.size) := Lib.hid ⟨HKM.out.size, HKR.out.size⟩
            have HOB : Hid (∀ b, u8.ownBlock = some b → w4.heap.size ≤ b) := Lib.hid (fun b hb => (World.ownsRow.lt hO b hb).1)
            clear hO hE
            go_wp2_with (at_builtin
                         refine wl_append_rk rfl (.tmp 100) (.tmp 102) 22 rfl Try.underlying22 infoE rfl (by decide) rfl (HO.out _) rfl HMD.out HON.out (by have := HLN.out; have := HEO.out; have := HM.out; unfold maxLen; omega) (by have := HLN.out; have := HEO.out; have := HM.out; omega) (by have := HSZ.out; simp; omega) ?_
                         intro u8b wz ho hkz hbz
                         have HZ := Lib.hid (AccE.more (fs := [el]) (HO.out _) (HE1.out _) (fun i hi => Nat.lt_of_lt_of_le hi.2 HSZ.out.1) (HE2.out _) hkz ho)
                         have HKZ : Hid (Kp (fun b => b = gM) w4 wz) := Lib.hid ((HKR.out.alloc _).trans hkz (fun _ _ h => h) (fun i hi e => by have := HOB.out i e; omega))
                         have HARZ := Lib.hid ((HAR.out.kp0 ((Kp.refl (fun _ => False) w7).alloc _)).keep hkz (fun e => by have := HOB.out _ e; have := HG.out; omega))
                         clear ho hkz hbz)
            go_roundg (m - (k + 1))
            case measure => omega
            case rel => exact ⟨k + 1, M, r ++ [el], b, by go_num, rfl, by omega, rfl, HML.out, HMO, Lib.hid (by rw [HF.out, HST.out]), HZ, Lib.hid ⟨by rw [List.length_append]; have := HLN.out; simp; omega, esOk_snoc HLN.out.2 HEK.out⟩, HARZ, HKZ.out⟩
          · have q3 : (dk.kd != 3) = false := by rw [bne, h3]; rfl
            rw [h3, Bool.true_and, Bool.not_eq_false', ← tx_empty] at hmt
            go_upto_region 16 with (fail)
            clear hmt
            have x0 := HB11.out.cellV 0 (v := .string (S el.sp)) rfl
            have x2 := HB11.out.cellV 2 (v := xa) rfl
            have x4 := HB11.out.cellV 4 (v := xc) rfl
            obtain ⟨cs, hO, hE⟩ := HA.out
            have HO : Hid (∀ o, (w7.alloc o).ownsRow w4.heap.size 38 5 u8 r.length cs) := Lib.hid (fun o => own_keepB hO ((Kp.refl (fun _ => False) _).alloc o) (fun _ _ h => h))
            have HE1 : Hid (∀ o, ElsV (fun i => H i ∧ i < w.heap.size) (w7.alloc o) r cs) := Lib.hid (fun o => ElsV.keep ((Kp.refl (fun _ => False) _).alloc o) (fun _ _ h => h) (fun _ h => h) _ _ hE)
            have HE2 : Hid (∀ o, ElsV (fun i => H i ∧ i < w.heap.size) (w7.alloc o) [el] (evl el xa xc)) := Lib.hid (fun o => ElsV.keep ((Kp.refl (fun _ => False) _).alloc o) (fun _ _ h => h) (fun _ h => h) _ _ HXF.out.els)
            have HMD := Lib.hid (RdF.made (T := 38) (k := 5) (cs := evl el xa xc) w7 rfl)
            have HON := Lib.hid HXF.out.ones
            have HSZ : Hid (w.heap.size ≤ w4.heap.size ∧ w4.heap.size ≤ w7.heap.size) := Lib.hid ⟨HKM.out.size, HKR.out.size⟩
            have HOB : Hid (∀ b, u8.ownBlock = some b → w4.heap.size ≤ b) := Lib.hid (fun b hb => (World.ownsRow.lt hO b hb).1)
            clear hO hE
            go_wp2_with (at_builtin
                         refine wl_append_rk rfl (.tmp 100) (.tmp 102) 22 rfl Try.underlying22 infoE rfl (by decide) rfl (HO.out _) rfl HMD.out HON.out (by have := HLN.out; have := HEO.out; have := HM.out; unfold maxLen; omega) (by have := HLN.out; have := HEO.out; have := HM.out; omega) (by have := HSZ.out; simp; omega) ?_
                         intro u8b wz ho hkz hbz
                         have HZ := Lib.hid (AccE.more (fs := [el]) (HO.out _) (HE1.out _) (fun i hi => Nat.lt_of_lt_of_le hi.2 HSZ.out.1) (HE2.out _) hkz ho)
                         have HKZ : Hid (Kp (fun b => b = gM) w4 wz) := Lib.hid ((HKR.out.alloc _).trans hkz (fun _ _ h => h) (fun i hi e => by have := HOB.out i e; omega))
                         have HARZ := Lib.hid ((HAR.out.kp0 ((Kp.refl (fun _ => False) w7).alloc _)).keep hkz (fun e => by have := HOB.out _ e; have := HG.out; omega))
                         clear ho hkz hbz)
            go_roundg (m - (k + 1))
            case measure => omega
            case rel => exact ⟨k + 1, M, r ++ [el], b, by go_num, rfl, by omega, rfl, HML.out, HMO, Lib.hid (by rw [HF.out, HST.out]), HZ, Lib.hid ⟨by rw [List.length_append]; have := HLN.out; simp; omega, esOk_snoc HLN.out.2 HEK.out⟩, HARZ, HKZ.out⟩
      | true =>
        obtain ⟨i, dk, hpl, hgt, hkd, htx⟩ := isMatch_ok d el hmt
        have hi := plc_lt hpl
        have hdk : d.ks[i]'hi = dk := by rw [List.getElem?_eq_getElem hi] at hgt; exact Option.some.inj hgt
        obtain ⟨bd, od, cd, va, vb, vc, e1, _, _, L0, L1, L2, L3, L4, L5, L6, hdr, _, _⟩ := HD.out.ks.at i hi
        simp only [Value.slice.injEq] at e1
        obtain ⟨rfl, _, rfl⟩ := e1
        rw [hdk, hkd] at L1
        have HPL := Lib.hid hpl
        have HST : Hid (lvsT d n.ks (e.ks.drop k) M r b = match lfP n.ks el.nm el.tx with
          | none => none
          | some p => lvsT d n.ks (e.ks.drop (k + 1)) (M.set p pm1) r true) := Lib.hid (by rw [HST.out, hmt, if_pos rfl])
        rw [← tx_empty] at htx
        clear L0 L2 L3 L4 L5 L6 hdr hpl hgt hdk hkd hmt
        have f3 : plI (some i) = (i : Int) := rfl
        have f4 : ¬ (i : Int) < 0 := by omega
        have f5 : (i : Int) < (d.ks.length : Int) := by omega
        have L1 := HKW.out.cell L1 (fun h => h)
        go_upto_region 15 with (go_at_call 28; refine (place_any d.ks _ el.nm _ (HD.out.ks.kp0 HKW.out)).mono ?_; rw [HPL.out, f3]; rintro r3 w7 ⟨rfl, hk7⟩; have HK7 := Lib.hid hk7; clear hk7)
        have L1 := HK7.out.cell L1 (fun h => h)
        clear f3
        have HBX : Hid (Blk w7 g3 35 (dvl d da db _) ∧ Blk w7 g4 40 (nvl n (.slice no n.ks.length nc)) ∧ Blk w7 g6 74 mk0 ∧ Blk w7 g7 74 (mvl pm0 (.slice (some ⟨gM, 0, none⟩) n.ks.length n.ks.length))) := Lib.hid ⟨HBX.out.1.kp0 HK7.out, HBX.out.2.1.kp0 HK7.out, HBX.out.2.2.1.kp0 HK7.out, HBX.out.2.2.2.kp0 HK7.out⟩
        have HKR := Lib.hid (HKR.out.tr (HK7.out.nil _))
        have HKW := Lib.hid (HKW.out.tr HK7.out)
        have HA := Lib.hid (HA.out.kp0 HK7.out)
        have HAR := Lib.hid (HAR.out.kp0 HK7.out)
        have HXF := Lib.hid (HXF.out.kp0 HK7.out)
        have HB11 := Lib.hid (HB11.out.kp0 HK7.out)
        clear c6 x1 x3
        have c6 := HBX.out.1.cellV 6 (v := .slice _ d.ks.length _) rfl
        have x1 := HB11.out.cellV 1 (v := .string (S el.nm)) rfl
        have x3 := HB11.out.cellV 3 (v := .string (S el.tx)) rfl
        go_upto_region 17 with (fail)
        have n0 := HBX.out.2.1.cellV 0 (v := .string (S n.nm)) rfl
        have n1 := HBX.out.2.1.cellV 1 (v := .string (S n.vl)) rfl
        have n2 := HBX.out.2.1.cellV 2 (v := .slice no n.ks.length nc) rfl
        clear L1 htx
        cases hlf : lfP n.ks el.nm el.tx with
        | none =>
          have HLF := Lib.hid hlf
          have HR : Hid (oneT d n e = pm0) := Lib.hid (by rw [HF0.out, HF.out, HST.out, hlf])
          have f6 : plI none < 0 := by decide
          clear hlf
          go_upto_region 18 with (go_at_call 48; refine (lf_any n _ el.nm el.tx _ (HN.out.kp0 HKW.out)).mono ?_; rw [HLF.out]; rintro r3 w8 ⟨rfl, hk8⟩; have HK8 := Lib.hid hk8; clear hk8)
          have HB6Z := Lib.hid (HBX.out.2.2.1.kp0 HK8.out)
          have HKWZ := Lib.hid (HKW.out.tr HK8.out)
          go_wp2_with (refine wl_store_blk rfl 74 (.tmp 6) (.tmp 112) rfl g6 _ mk0 (mvl pm0 (.slice none 0 0)) rfl rfl HB6Z.out infoMk rfl (by first | exact m0_ones | exact m1_ones) ?_
                       intro w5 hA hk5
                       have HB9 := Lib.hid hA
                       have HK5 : Hid (Kp0 w w5) := Lib.hid (HKWZ.out.trans hk5 (fun _ _ h => h) (fun i hi e => by have := HG.out; omega))
                       clear hA hk5)
          refine ret_blk 6 74 74 g6 (mvl pm0 (.slice none 0 0)) _ rfl rfl HB9.out Try.underlying74 rfl infoMk rfl ?_
          exact ⟨⟨.slice none 0 0, by rw [HR.out]; rfl, by rw [HR.out]; exact RowM.nil _ _⟩, HK5.out⟩
        | some p =>
          have HLF := Lib.hid hlf
          have hp : p < n.ks.length := (List.findIdx?_eq_some_iff_getElem.1 hlf).1
          have HST : Hid (lvsT d n.ks (e.ks.drop k) M r b = lvsT d n.ks (e.ks.drop (k + 1)) (M.set p pm1) r true) := Lib.hid (by rw [HST.out, hlf])
          have f6 : plI (some p) = (p : Int) := rfl
          have f7 : ¬ (p : Int) < 0 := by omega
          have f8 : (p : Int) < (n.ks.length : Int) := by omega
          clear hlf
          go_upto_region 18 with (go_at_call 48; refine (lf_any n _ el.nm el.tx _ (HN.out.kp0 HKW.out)).mono ?_; rw [HLF.out, f6]; rintro r3 w8 ⟨rfl, hk8⟩; have HK8 := Lib.hid hk8; clear hk8)
          have g2 := (HBX.out.2.2.2.kp0 HK8.out).cellV 2 (v := .slice (some ⟨gM, 0, none⟩) n.ks.length n.ks.length) rfl
          have HAR := Lib.hid (HAR.out.kp0 HK8.out)
          have HPM : Hid (p < M.length) := Lib.hid (by rw [HML.out]; exact hp)
          have HCL : Hid (p * 3 + 3 ≤ (mcs M (List.replicate M.length (.slice none 0 0))).length) := Lib.hid (by rw [mcs_len _ _ (mk_empty (fun _ => False) w M HAR.out.2)]; have := HPM.out; omega)
          clear n0 n1 n2 c6 x1 x3
          go_wp2_with (refine wl_store_partM rfl 74 (.tmp 117) (.tmp 116) rfl gM (p * 3) _ _ (mvl pm1 (.slice none 0 0)) rfl rfl HAR.out.1 infoMk HCL.out m1_ones ?_
                       intro w9 hA hk9
                       have HARZ := Lib.hid (HAR.out.put HPM.out hA)
                       have HK9 := Lib.hid hk9
                       clear hA hk9)
          go_roundg (m - (k + 1))
          case measure => omega
          case rel => exact ⟨k + 1, M.set p pm1, r, true, by go_num, rfl, by omega, rfl, by rw [List.length_set]; exact HML.out, Lib.hid (msOk_set HMO.out p mOk1), Lib.hid (by rw [HF.out, HST.out]), Lib.hid (AccE.keepG (HA.out.kp0 HK8.out) HK9.out (fun i hi => by have := HG.out; omega) (fun i hi => by have := HG.out; have := hi.2; omega)), Lib.hid ⟨by have := HLN.out; omega, HLN.out.2⟩, HARZ, (HKR.out.tr (HK8.out.nil _)).tr HK9.out⟩
    · have i1 : ¬ (k : Int) < (m : Int) := by omega
      have HLV : Hid (lvsT d n.ks e.ks (List.replicate n.ks.length pm0) [] false = some (M, r, b)) := Lib.hid (by rw [HF.out, List.drop_eq_nil_of_le (by have := HM.out; omega), lvsT])
      have HF1 : Hid (oneT d n e = if b && r.isEmpty then pm1 else if b || (marksT d.ks n.ks r).any PM.on then .mk true false (finN d n.ks (marksT d.ks n.ks r) n.ks.length M) else pm0) := Lib.hid (by rw [HF0.out, HLV.out])
      have HRE := Lib.hid HA.out.row
      obtain ⟨ro, rc, rfl, _, _, _⟩ := HRE.out.shape
      have HB6Z := Lib.hid HBW.out.2.2.2.1
      have HKWZ := HKW
      clear HF HLV HF0
      by_cases hbr : b = true ∧ r.length = 0
      · obtain ⟨rfl, hr0⟩ := hbr
        have HR : Hid (oneT d n e = pm1) := Lib.hid (by rw [HF1.out, List.length_eq_zero_iff.1 hr0]; rfl)
        have f2 : ((r.length : Int) == 0) = true := by rw [hr0]; rfl
        go_wp2_with (refine wl_store_blk rfl 74 (.tmp 6) (.tmp 124) rfl g6 _ mk0 (mvl pm1 (.slice none 0 0)) rfl rfl HB6Z.out infoMk rfl (by first | exact m0_ones | exact m1_ones) ?_
                     intro w5 hA hk5
                     have HB9 := Lib.hid hA
                     have HK5 : Hid (Kp0 w w5) := Lib.hid (HKWZ.out.trans hk5 (fun _ _ h => h) (fun i hi e => by have := HG.out; omega))
                     clear hA hk5)
        refine ret_blk 6 74 74 g6 (mvl pm1 (.slice none 0 0)) _ rfl rfl HB9.out Try.underlying74 rfl infoMk rfl ?_
        exact ⟨⟨.slice none 0 0, by rw [HR.out]; rfl, by rw [HR.out]; exact RowM.nil _ _⟩, HK5.out⟩
      · have HF2 : Hid (oneT d n e = if b || (marksT d.ks n.ks r).any PM.on then .mk true false (finN d n.ks (marksT d.ks n.ks r) n.ks.length M) else pm0) := Lib.hid (by
          rw [HF1.out, if_neg]
          intro h
          rw [Bool.and_eq_true, List.isEmpty_iff] at h
          exact hbr ⟨h.1, by rw [h.2]; rfl⟩)
        have HRL : Hid ((marksT d.ks n.ks r).length = n.ks.length) := Lib.hid (by rw [marksT_map, List.length_map])
        have HRO := Lib.hid (marksT_ok d.ks n.ks r HOK.out.2)
        obtain ⟨ko, kc, rfl, _, _, _⟩ := HD.out.ks.shape
        have c6 := HBW.out.1.cellV 6 (v := .slice ko d.ks.length kc) rfl
        have n2 := HBW.out.2.1.cellV 2 (v := .slice no n.ks.length nc) rfl
        obtain ⟨wb, hwb⟩ : ∃ x, x = wr := ⟨_, rfl⟩
        subst hwb
        obtain ⟨b0, hb0⟩ : ∃ x, x = b := ⟨_, rfl⟩
        rw [← hb0] at HF2
        cases b
        all_goals
          first | (have f2 : ((r.length : Int) == 0) = false := by rw [beq_eq_false_iff_ne]; intro h0; exact hbr ⟨rfl, by omega⟩) | skip
          clear hbr
          go_upto_region 25 with (go_at_call 23; refine (HIH.out _ _ _ d.ks r _ _ _ _ (HD.out.ks.kp0 HKW.out) (HN.out.kp0 HKW.out) HRE.out HOK.out.2 HOK.out.1 HLN.out.2).mono ?_; rintro r3 wm ⟨⟨v14, rfl, hrm⟩, hkm⟩; have HMR := Lib.hid hrm; have HKS := Lib.hid hkm; clear hrm hkm)
          generalize marksT d.ks n.ks r = R at HF2 HRL HRO HMR
          obtain ⟨mo, mc, rfl, _, _, _⟩ := HMR.out.shape
          have HBV : Hid (Blk wm g3 35 (dvl d da db (.slice ko d.ks.length kc)) ∧ Blk wm g4 40 (nvl n (.slice no n.ks.length nc)) ∧ Blk wm g6 74 mk0 ∧ Blk wm g7 74 (mvl pm0 (.slice (some ⟨gM, 0, none⟩) n.ks.length n.ks.length))) := Lib.hid ⟨HBW.out.1.kp0 HKS.out, HBW.out.2.1.kp0 HKS.out, HBW.out.2.2.2.1.kp0 HKS.out, HBW.out.2.2.2.2.kp0 HKS.out⟩
          have HKW := Lib.hid (HKW.out.tr HKS.out)
          have HAR := Lib.hid (HAR.out.kp0 HKS.out)
          have HSM : Hid (w4.heap.size ≤ wb.heap.size) := Lib.hid HKR.out.size
          clear HB6Z HKWZ HRE HBW HA c6 n2 HKR e4 HF1 HIH
          go_wp2
          go_loopg [9, 15] R.length (fun gg sv i wr => ∃ j : Nat, i = .int .i64 j ∧ sv = .bool (b0 || (R.take j).any PM.on) ∧ j ≤ R.length ∧ gg = R.length - j ∧ Kp0 wm wr)
          case atStart => exact ⟨0, rfl, by rw [hb0]; rfl, Nat.zero_le _, rfl, Kp.refl _ _⟩
          case round =>
            obtain ⟨j, rfl, rfl, hj, rfl, hkp⟩ := hrel
            have HK2 := Lib.hid hkp
            clear hkp
            by_cases hjr : j < R.length
            · have j1 : (j : Int) < (R.length : Int) := by omega
              obtain ⟨b2, o2, cap2, kv2, e2, _, _, M0, M1, M2, _⟩ := (HMR.out.kp0 HK2.out).at j hjr
              simp only [Value.slice.injEq] at e2
              obtain ⟨rfl, _, rfl⟩ := e2
              have HTA : Hid ((b0 || (R.take (j + 1)).any PM.on) = ((b0 || (R.take j).any PM.on) || (R[j]'hjr).on)) := Lib.hid (by rw [List.take_succ_eq_append_getElem hjr, List.any_append, Bool.or_assoc]; simp)
              clear M1 M2
              generalize R[j]'hjr = x at M0 HTA
              generalize (b0 || (R.take j).any PM.on) = q at HTA ⊢
              cases q
              · go_wp2
                go_roundg (R.length - (j + 1))
                case measure => omega
                case rel => exact ⟨j + 1, by go_num, by rw [HTA.out, Bool.false_or], by omega, rfl, HK2.out⟩
              · go_wp2
                go_roundg (R.length - (j + 1))
                case measure => omega
                case rel => exact ⟨j + 1, by go_num, by rw [HTA.out]; rfl, by omega, rfl, HK2.out⟩
            · have j1 : ¬ (j : Int) < (R.length : Int) := by omega
              have htk : R.take j = R := List.take_of_length_le (by omega)
              rw [htk]
              clear htk
              obtain ⟨q, hq⟩ : ∃ q, q = (b0 || R.any PM.on) := ⟨_, rfl⟩
              rw [← hq]
              have HQ := Lib.hid hq
              clear hq
              cases q
              · have HR : Hid (oneT d n e = pm0) := Lib.hid (by rw [HF2.out, ← HQ.out]; rfl)
                have HB6Z := Lib.hid (HBV.out.2.2.1.kp0 HK2.out)
                have HKWZ := Lib.hid (HKW.out.tr HK2.out)
                go_wp2_with (refine wl_store_blk rfl 74 (.tmp 6) (.tmp 147) rfl g6 _ mk0 (mvl pm0 (.slice none 0 0)) rfl rfl HB6Z.out infoMk rfl (by first | exact m0_ones | exact m1_ones) ?_
                             intro w5 hA hk5
                             have HB9 := Lib.hid hA
                             have HK5 : Hid (Kp0 w w5) := Lib.hid (HKWZ.out.trans hk5 (fun _ _ h => h) (fun i hi e => by have := HG.out; omega))
                             clear hA hk5)
                refine ret_blk 6 74 74 g6 (mvl pm0 (.slice none 0 0)) _ rfl rfl HB9.out Try.underlying74 rfl infoMk rfl ?_
                exact ⟨⟨.slice none 0 0, by rw [HR.out]; rfl, by rw [HR.out]; exact RowM.nil _ _⟩, HK5.out⟩
              · have HR : Hid (oneT d n e = .mk true false (finN d n.ks R n.ks.length M)) := Lib.hid (by rw [HF2.out, ← HQ.out, if_pos rfl])
                have HB7 := Lib.hid (HBV.out.2.2.2.kp0 HK2.out)
                have hd := HB7.out.cellV 0 (v := .bool false) rfl
                have hdf := blk_frozen HB7.out 0
                go_upto_region 32 with (fail)
                clear hd hdf
                have HS : Hid (Kp (fun b => b = g7) wr (wr.setCell ⟨g7, 0, none⟩ (.bool true))) := Lib.hid (Kp.setCell (S := fun b => b = g7) (Kp.refl _ _) (p := ⟨g7, 0, none⟩) (fun _ => rfl) _)
                have HB7 := Lib.hid (HB7.out.set' 0 (.bool true))
                generalize wr.setCell ⟨g7, 0, none⟩ (.bool true) = ws at HS HB7 ⊢
                have HBS : Hid (Blk ws g3 35 (dvl d da db (.slice ko d.ks.length kc)) ∧ Blk ws g4 40 (nvl n (.slice no n.ks.length nc)) ∧ Blk ws g6 74 mk0 ∧ Blk ws g7 74 (mvl (.mk true false []) (.slice (some ⟨gM, 0, none⟩) n.ks.length n.ks.length))) := Lib.hid ⟨(HBV.out.1.kp0 HK2.out).keep HS.out (fun e => by have := HG.out; omega), (HBV.out.2.1.kp0 HK2.out).keep HS.out (fun e => by have := HG.out; omega), (HBV.out.2.2.1.kp0 HK2.out).keep HS.out (fun e => by have := HG.out; omega), HB7.out⟩
                have HMR := Lib.hid ((HMR.out.kp0 HK2.out).keep (G := fun i => wb.heap.size ≤ i) HS.out (fun i hi _ e => by have := HG.out; have := HSM.out; omega) (fun i hi _ => hi))
                have HKW : Hid (Kp0 w ws) := Lib.hid ((HKW.out.tr HK2.out).trans HS.out (fun _ _ h => h) (fun i hi e => by have := HG.out; omega))
                have HAR := Lib.hid (((HAR.out.kp0 HK2.out).keep HS.out (fun e => by have := HG.out; omega)).arr ws.heap.size)
                have HSS : Hid (g7 < ws.heap.size) := Lib.hid HB7.out.lt
                clear HBV HK2 HS HB7 HF2 HQ
                go_wp2
                go_loopg [16] R.length (fun gg i wr => ∃ j : Nat, i = .int .i64 j ∧ j ≤ R.length ∧ gg = R.length - j ∧ Hid (ArrM ws.heap.size gM wr (finN d n.ks R j M)) ∧ Kp (fun b => b = gM) ws wr)
                case atStart => exact ⟨0, rfl, Nat.zero_le _, rfl, HAR, Kp.refl _ _⟩
                case round =>
                  clear HAR
                  obtain ⟨j, rfl, hj, rfl, HAR, hkp⟩ := hrel
                  have HK3 := Lib.hid hkp
                  clear hkp
                  have HKW3 : Hid (Kp0 w wr) := Lib.hid (HKW.out.trans HK3.out (fun _ _ h => h) (fun i hi e => by have := HG.out; omega))
                  have HBX : Hid (Blk wr g3 35 (dvl d da db (.slice ko d.ks.length kc)) ∧ Blk wr g4 40 (nvl n (.slice no n.ks.length nc)) ∧ Blk wr g6 74 mk0 ∧ Blk wr g7 74 (mvl (.mk true false []) (.slice (some ⟨gM, 0, none⟩) n.ks.length n.ks.length))) := Lib.hid ⟨HBS.out.1.keep HK3.out (fun e => by have := HG.out; omega), HBS.out.2.1.keep HK3.out (fun e => by have := HG.out; omega), HBS.out.2.2.1.keep HK3.out (fun e => by have := HG.out; omega), HBS.out.2.2.2.keep HK3.out (fun e => by have := HG.out; omega)⟩
                  have HMR3 := Lib.hid (HMR.out.keep (G := fun i => wb.heap.size ≤ i) HK3.out (fun i hi _ e => by have := HG.out; have := HSM.out; omega) (fun i hi _ => hi))
                  have HFL : Hid ((finN d n.ks R j M).length = n.ks.length) := Lib.hid (by rw [finN_len]; exact HML.out)
                  by_cases hjr : j < R.length
                  · have j1 : (j : Int) < (R.length : Int) := by omega
                    have hjk : j < n.ks.length := by have := HRL.out; omega
                    have j2 : (j : Int) < (n.ks.length : Int) := by omega
                    have hjf : j < (finN d n.ks R j M).length := by rw [HFL.out]; exact hjk
                    obtain ⟨km, A0, A1, A2, hra⟩ := HAR.out.at j hjf
                    obtain ⟨b2, o2, cap2, kr, e2, _, _, M0, M1, M2, hrr, _⟩ := HMR3.out.at j hjr
                    simp only [Value.slice.injEq] at e2
                    obtain ⟨rfl, _, rfl⟩ := e2
                    obtain ⟨b1, o1, cap1, kn, e1, _, _, N0, _, _, _, _⟩ := (HN.out.kp0 HKW3.out).at j hjk
                    simp only [Value.slice.injEq] at e1
                    obtain ⟨rfl, _, rfl⟩ := e1
                    have HFN : Hid (finN d n.ks R (j + 1) M = if hasT d.ky (n.ks[j]'hjk).nm then ((finN d n.ks R j M).set j (bothT ((finN d n.ks R j M)[j]'hjf) (R[j]'hjr))).set j pm1 else (finN d n.ks R j M).set j (bothT ((finN d n.ks R j M)[j]'hjf) (R[j]'hjr))) := Lib.hid (by
                      rw [finN]
                      simp only [List.getElem?_eq_getElem hjk, List.getD_eq_getElem?_getD, List.getElem?_eq_getElem hjf, List.getElem?_eq_getElem hjr, Option.getD_some])
                    have HOA := Lib.hid (msOk_mem (finN_ok d n.ks HRO.out j HMO.out) (List.getElem_mem hjf))
                    have HOR := Lib.hid (msOk_mem HRO.out (List.getElem_mem hjr))
                    have HRA := Lib.hid hra
                    have HRR := Lib.hid hrr
                    clear hra hrr
                    obtain ⟨x, hx⟩ : ∃ x, x = n.ks[j]'hjk := ⟨_, rfl⟩
                    rw [← hx] at N0 HFN
                    have HNX := Lib.hid hx
                    clear hx
                    generalize R[j]'hjr = y at M0 M1 M2 HFN HOR HRR
                    generalize (finN d n.ks R j M)[j]'hjf = z at A0 A1 A2 HFN HOA HRA
                    generalize finN d n.ks R j M = A at HAR HFN HFL hjf
                    go_upto_region 35 with (fail)
                    refine wp_region_px 15 [14] (fun w' : World => Kp0 wr w') (.quiet 0 (.quiet 1 (.quiet 2 (.quiet 3 (.quiet 4 (.quiet 5 (.quiet 6 (.quiet 7 (.quiet 8 (.quiet 9 (.quiet 10 (.quiet 11 (.eff 12 (.quiet 13 (.wall 14 .done))))))))))))))) (by kernel_rfl) (by kernel_rfl) (by kernel_rfl) (by kernel_rfl) (fun _ d _ _ _ h => by cases d <;> exact h) (Kp.refl (fun _ => False) wr).drew ?_
                    have HX : Hid (Kp0 wr wr.drew) := Lib.hid (Kp.refl (fun _ => False) wr).drew
                    generalize wr.drew = x0 at HX ⊢
                    iterate 12 (refine px_quiet (v := ?_) rfl (by rfl) (fun wq hwq => ?_) rfl ?_; rotate_left 1; (focus (have q2 := (HBX.out.2.2.2.kp0 hwq).cellV 2 (v := .slice (some ⟨gM, 0, none⟩) n.ks.length n.ks.length) rfl; have a0 := hwq.cell A0 (fun h => h); have a1 := hwq.cell A1 (fun h => h); have a2 := hwq.cell A2 (fun h => h); have m0 := hwq.cell M0 (fun h => h); have m1 := hwq.cell M1 (fun h => h); have m2 := hwq.cell M2 (fun h => h); go_simp; try (with_reducible rfl); done)); try simp only [List.setIfInBounds_toArray, List.set_cons_zero, List.set_cons_succ])
                    refine px_eff rfl (by rfl) (fun K hK => ?_)
                    go_simp
                    refine (both_any z y km kr x0 (HRA.out.kp0 HX.out) (HRR.out.kp0 HX.out) HOA.out HOR.out).mono ?_
                    generalize bothT z y = u at HFN ⊢
                    rintro r3 x1 ⟨⟨ku, rfl, hru⟩, hk⟩
                    have HSX : Hid (gM < x0.heap.size ∧ ws.heap.size ≤ x0.heap.size) := Lib.hid (by have := HX.out.size; have := HK3.out.size; have := HG.out; have := HSS.out; omega)
                    have HRU : Hid (RowM (fun i => ws.heap.size ≤ i ∧ i ≠ gM) x1 ku u.ks) := Lib.hid (hru.mono (fun i hi _ => by have := HSX.out; omega))
                    have HX := Lib.hid (HX.out.tr hk)
                    unfold MrkA
                    simp only []
                    refine hK (fun w' => Kp0 wr w') _ _ (fun _ h => h) HX.out ?_
                    clear hK K hk hru A0 A1 A2 M0 M1 M2
                    try simp only [List.setIfInBounds_toArray, List.set_cons_zero, List.set_cons_succ]
                    iterate 1 (refine px_quiet (v := ?_) rfl (by rfl) (fun wq hwq => ?_) rfl ?_; rotate_left 1; (focus (clear hwq; go_simp; try (with_reducible rfl); done)); try simp only [List.setIfInBounds_toArray, List.set_cons_zero, List.set_cons_succ])
                    obtain ⟨vs, hb, hv⟩ := HAR.out.kp0 HX.out
                    have hlv := mcs_len _ _ hv
                    refine px_wall rfl (by rfl) (fun K hK => ?_)
                    refine wp_store_part 74 (.tmp 168) (.tmp 167) rfl gM (j * 3) _ _ (mvl u ku) rfl rfl hb infoMk (by rw [hlv]; show j * 3 + 3 ≤ _; omega) HRU.out.onesM ?_
                    intro x2 hA hk5
                    have HAR := Lib.hid (ArrM.put hv hA hk5 hjf HRU.out)
                    have HK3 := Lib.hid ((HK3.out.tr (HX.out.nil _)).tr hk5)
                    have HBX : Hid (Blk x2 g3 35 (dvl d da db (.slice ko d.ks.length kc)) ∧ Blk x2 g4 40 (nvl n (.slice _ n.ks.length _)) ∧ Blk x2 g6 74 mk0 ∧ Blk x2 g7 74 (mvl (.mk true false []) (.slice (some ⟨gM, 0, none⟩) n.ks.length n.ks.length))) := Lib.hid ⟨(HBX.out.1.kp0 HX.out).keep hk5 (fun e => by have := HG.out; omega), (HBX.out.2.1.kp0 HX.out).keep hk5 (fun e => by have := HG.out; omega), (HBX.out.2.2.1.kp0 HX.out).keep hk5 (fun e => by have := HG.out; omega), (HBX.out.2.2.2.kp0 HX.out).keep hk5 (fun e => by have := HG.out; omega)⟩
                    have HKW3 : Hid (Kp0 w x2) := Lib.hid ((HKW3.out.tr HX.out).trans hk5 (fun _ _ h => h) (fun i hi e => by have := HG.out; omega))
                    have HND : Hid (x2.cell? ⟨b1, o1 + j * 3, none⟩ = some (.string (S x.nm))) := Lib.hid (by
                      obtain ⟨b9, o9, c9, k9, e9, _, _, P0, _⟩ := HN.out.at j hjk
                      simp only [Value.slice.injEq, Option.some.injEq, Addr.mk.injEq] at e9
                      obtain ⟨⟨rfl, rfl, _⟩, _, _⟩ := e9
                      rw [HNX.out]
                      exact HKW3.out.cell P0 (fun h => h))
                    clear hA hk5 hb hv hlv HX N0 HRA HRR HMR3 HOA HOR
                    refine hK (fun _ => True) _ _ trivial (px_done ?_)
                    clear hK K
                    simp only [Act.put, List.getElem_toArray, List.getElem_cons_succ, List.getElem_cons_zero]
                    try simp only [List.setIfInBounds_toArray, List.set_cons_zero, List.set_cons_succ]
                    go_upto_region 36 with (fail)
                    refine wp_region_px 9 [] (fun w' : World => Kp0 x2 w') (.quiet 0 (.quiet 1 (.quiet 2 (.quiet 3 (.quiet 4 (.quiet 5 (.quiet 6 (.quiet 7 (.eff 8 .done))))))))) (by kernel_rfl) (by kernel_rfl) (by kernel_rfl) (by kernel_rfl) (fun _ d _ _ _ h => by cases d <;> exact h) (Kp.refl (fun _ => False) x2).drew ?_
                    have HX : Hid (Kp0 x2 x2.drew) := Lib.hid (Kp.refl (fun _ => False) x2).drew
                    generalize x2.drew = y0 at HX ⊢
                    iterate 8 (refine px_quiet (v := ?_) rfl (by rfl) (fun wq hwq => ?_) rfl ?_; rotate_left 1; (focus (have q5 := (HBX.out.1.kp0 hwq).cellV 5 (v := db) rfl; have q2 := (HBX.out.2.1.kp0 hwq).cellV 2 (v := .slice _ n.ks.length _) rfl; have n0 := hwq.cell HND.out (fun h => h); go_simp; try (with_reducible rfl); done)); try simp only [List.setIfInBounds_toArray, List.set_cons_zero, List.set_cons_succ])
                    refine px_eff rfl (by rfl) (fun K hK => ?_)
                    go_simp
                    refine (has_any d.ky db x.nm y0 (HD.out.ky.kp0 (HKW3.out.tr HX.out))).mono ?_
                    rintro r3 y1 ⟨rfl, hk⟩
                    have HX := Lib.hid (HX.out.tr hk)
                    simp only []
                    refine hK (fun w' => Kp0 x2 w') _ _ (fun _ h => h) HX.out ?_
                    clear hK K hk
                    try simp only [List.setIfInBounds_toArray, List.set_cons_zero, List.set_cons_succ]
                    refine px_done ?_
                    have HAR := Lib.hid (HAR.out.kp0 HX.out)
                    have HK3 := Lib.hid (HK3.out.tr (HX.out.nil _))
                    have g2 := (HBX.out.2.2.2.kp0 HX.out).cellV 2 (v := .slice (some ⟨gM, 0, none⟩) n.ks.length n.ks.length) rfl
                    clear HND
                    cases hht : hasT d.ky x.nm
                    · have HFN : Hid (finN d n.ks R (j + 1) M = A.set j u) := Lib.hid (by rw [HFN.out, hht]; rfl)
                      clear hht
                      go_wp2
                      go_roundg (R.length - (j + 1))
                      case measure => omega
                      case rel => exact ⟨j + 1, by go_num, by omega, rfl, Lib.hid (by rw [HFN.out]; exact HAR.out), HK3.out⟩
                    · have HFN : Hid (finN d n.ks R (j + 1) M = (A.set j u).set j pm1) := Lib.hid (by rw [HFN.out, hht, if_pos rfl])
                      clear hht
                      obtain ⟨vs, hb, hv⟩ := HAR.out
                      have HB2 := Lib.hid hb
                      have HV2 := Lib.hid hv
                      have HCL : Hid (j * 3 + 3 ≤ (mcs (A.set j u) vs).length) := Lib.hid (by rw [mcs_len _ _ hv, List.length_set]; omega)
                      clear hb hv
                      go_wp2_with (refine wl_store_partM rfl 74 (.tmp 182) (.tmp 181) rfl gM (j * 3) _ _ (mvl pm1 (.slice none 0 0)) rfl rfl HB2.out infoMk HCL.out m1_ones ?_
                                   intro w9 hA hk9
                                   have HARZ := Lib.hid (ArrM.put HV2.out hA hk9 (by rw [List.length_set]; exact hjf) (RowM.nil _ _))
                                   have HK9 := Lib.hid (HK3.out.tr hk9)
                                   clear hA hk9)
                      go_roundg (R.length - (j + 1))
                      case measure => omega
                      case rel => exact ⟨j + 1, by go_num, by omega, rfl, Lib.hid (by rw [HFN.out]; exact HARZ.out), HK9.out⟩
                  · have j1 : ¬ (j : Int) < (R.length : Int) := by omega
                    have hjn : j = n.ks.length := by have := HRL.out; omega
                    subst hjn
                    have HRW : Hid (RowM (fun i => i = gM ∨ ws.heap.size ≤ i) wr (.slice (some ⟨gM, 0, none⟩) n.ks.length n.ks.length) (finN d n.ks R n.ks.length M)) := Lib.hid (by
                      have := HAR.out.row2 (by rw [HFL.out]; exact HOK.out.1)
                      rw [HFL.out] at this
                      exact this)
                    have q0 := HBX.out.2.2.2.cellV 0 (v := .bool true) rfl
                    have q1 := HBX.out.2.2.2.cellV 1 (v := .bool false) rfl
                    have q2 := HBX.out.2.2.2.cellV 2 (v := .slice (some ⟨gM, 0, none⟩) n.ks.length n.ks.length) rfl
                    go_wp2_with (refine wl_store_blk rfl 74 (.tmp 6) (.tmp 183) rfl g6 _ mk0 (mvl (.mk true false (finN d n.ks R n.ks.length M)) (.slice (some ⟨gM, 0, none⟩) n.ks.length n.ks.length)) rfl rfl HBX.out.2.2.1 infoMk rfl (mb_ones true false _ rfl) ?_
                                 intro w5 hA hk5
                                 have HB9 := Lib.hid hA
                                 have HK5 : Hid (Kp0 w w5) := Lib.hid (HKW3.out.trans hk5 (fun _ _ h => h) (fun i hi e => by have := HG.out; omega))
                                 have HR5 := Lib.hid (HRW.out.keep (G := fun i => w.heap.size ≤ i) hk5 (fun i hi _ e => by have := HG.out; have := HSS.out; omega) (fun i hi _ => by have := HG.out; have := HSS.out; omega))
                                 clear hA hk5)
                    refine ret_blk 6 74 74 g6 (mvl (.mk true false (finN d n.ks R n.ks.length M)) (.slice (some ⟨gM, 0, none⟩) n.ks.length n.ks.length)) _ rfl rfl HB9.out Try.underlying74 rfl infoMk rfl ?_
                    exact ⟨⟨_, by rw [HR.out]; rfl, by rw [HR.out]; exact HR5.out⟩, HK5.out⟩
theorem one_step (n : PN) (ih : MarksP n.ks) : OneP n := by
  intro F G H d e da db dc kv ea ec w hd hn he hok heo
  by_cases h : (d.kd == 3) = false ∧ ((S e.tx).toList == []) = true ∧ 0 < e.ks.length
  · exact one_kids n ih F G H d e da db dc kv ea ec w hd hn he hok heo h.1 h.2.1 h.2.2
  · exact one_low n ih F G H d e da db dc kv ea ec w hd hn he hok heo (fun h1 h2 h3 => h ⟨h1, h2, h3⟩)
end Go.Proofs.Ytmamcnhofgfolaa
