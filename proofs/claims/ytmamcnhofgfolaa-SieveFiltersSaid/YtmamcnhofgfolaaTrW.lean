/- Package sieve: what elements choose of a node. -/
import Derived.Test.YtmamcnhofgfolaaTrV
namespace Go.Proofs.Ytmamcnhofgfolaa
open Go Go.RowKit
theorem insL_skip (d : PD) (n : PN) (es : List PE) (k : Nat) (hk : k < es.length) (ins : List PE) : insL d n (es.drop k) ins = if es[k].nm == n.nm then (if (askT d n es[k]).2 then none else insL d n (es.drop (k + 1)) (ins ++ (askT d n es[k]).1)) else insL d n (es.drop (k + 1)) ins := by
  rw [List.drop_eq_getElem_cons hk, insL]
theorem AccE.row {B : Nat} {G : Nat → Prop} {w : World} {v : Value} {es : List PE} (h : AccE B G w v es) : RowE (fun i => B ≤ i ∨ G i) w v es := by
  obtain ⟨cs, h1, h2⟩ := h
  exact ⟨cs, RdF.of_own h1 (fun g hg => .inl (World.ownsRow.lt h1 g hg).1), ElsV.keep (Kp.refl (fun _ => False) w) (fun _ _ h => h) (fun _ h => .inr h) es cs h2⟩
set_option maxRecDepth 20000 in
set_option maxHeartbeats 4000000 in
theorem choose_step (lv : Nat) (hch : 0 < lv → ChooseP (lv - 1)) : ChooseP lv := by
  intro hlv F G H ds n es dv kv ev w hd hn he hok hc
  have HD := Lib.hid hd
  have HN := Lib.hid hn
  have HE := Lib.hid he
  have HOK := Lib.hid hok
  have HC := Lib.hid hc
  have HCH := Lib.hid hch
  have HLV := Lib.hid hlv
  obtain ⟨no, nc, rfl, _, _, _⟩ := hn.shape
  obtain ⟨lo, lc, rfl, _, _, _⟩ := hd.shape
  obtain ⟨eo, ec, rfl, _, _, _⟩ := he.shape
  clear hd hn he hok hc hch hlv
  unfold NodA
  go_enter Try.func21, Try.ntmps21
  go_upto_region 1 with (refine wl_alloc_as asNd rfl rfl ?_
                         intro w2 g8 hw hg
                         have HB : Hid (Bks w w2 [(w.heap.size, 40, nvl n (.slice no n.ks.length nc)), (g8, 40, nd0)]) := Lib.hid (by
                           rw [hw]
                           exact ((Bks.nil w).push 40 (nvl n (.slice no n.ks.length nc)) rfl).push 40 nd0 (g := g8) hg)
                         have HG8 : Hid (w.heap.size < g8 ∧ g8 < w2.heap.size) := Lib.hid (by rw [hw, hg]; simp)
                         clear hw hg)
  try simp only [Act.put]
  try simp only [List.setIfInBounds_toArray, List.set_cons_zero, List.set_cons_succ]
  obtain ⟨g5, hg5⟩ : ∃ x, x = w.heap.size := ⟨_, rfl⟩
  rw [← hg5] at HB HG8
  rw [← hg5]
  have HG : Hid (g5 = w.heap.size) := Lib.hid hg5
  clear hg5
  have n0 := (HB.out.at 0 rfl).cellV 0 (v := .string (S n.nm)) rfl
  go_upto_region 2 with (go_at_call 17; refine (find_any ds _ n.nm _ (HD.out.kp0 HB.out.kp)).mono ?_; rintro r w3 ⟨rfl, hk3⟩; have HK3 := Lib.hid hk3; clear hk3)
  have HB := Lib.hid (HB.out.kp0 HK3.out)
  have HG : Hid (g5 = w.heap.size ∧ g5 < g8 ∧ g8 < w3.heap.size) := Lib.hid (by have := HG.out; have := HG8.out; have := HK3.out.size; omega)
  clear n0 HG8 HK3
  obtain ⟨pl, hpl⟩ : ∃ p, p = plc ds n.nm := ⟨_, rfl⟩
  rw [← hpl]
  have HPL := Lib.hid hpl
  cases pl with
  | none =>
    have HR : Hid (chT lv ds n es = none) := Lib.hid (by
      cases lv with
      | zero => rfl
      | succ lv => unfold chT; rw [← HPL.out])
    have f1 : plI none < 0 := by decide
    clear hpl
    go_wp2_with (refine wl_store_blk rfl 40 (.tmp 8) (.tmp 26) rfl g8 _ nd0 (nvl (.mk [] [] []) (.slice none 0 0)) rfl rfl (HB.out.at 1 rfl) infoNd rfl (RowN.nil (fun _ => False) w3).onesN ?_
                 intro w5 hA hk5
                 have HB9 := Lib.hid hA
                 have HK5 : Hid (Kp0 w w5) := Lib.hid (HB.out.kp.trans hk5 (fun _ _ h => h) (fun i hi e => by have := HG.out; omega))
                 clear hA hk5)
    refine ret_blkT 8 9 40 40 g8 (nvl (.mk [] [] []) (.slice none 0 0)) _ rfl rfl HB9.out Try.underlying40 rfl infoNd rfl _ rfl ?_
    exact ⟨by rw [HR.out]; rfl, HK5.out⟩
  | some i =>
    have f1 : ¬ plI (some i) < 0 := by simp only [plI]; omega
    have f3 : plI (some i) = (i : Int) := rfl
    have hi := plc_lt hpl.symm
    clear hpl
    rcases Nat.eq_zero_or_pos lv with hl0 | hl0
    · subst hl0
      have HR : Hid (chT 0 ds n es = none) := Lib.hid rfl
      go_wp2_with (refine wl_store_blk rfl 40 (.tmp 8) (.tmp 26) rfl g8 _ nd0 (nvl (.mk [] [] []) (.slice none 0 0)) rfl rfl (HB.out.at 1 rfl) infoNd rfl (RowN.nil (fun _ => False) w3).onesN ?_
                   intro w5 hA hk5
                   have HB9 := Lib.hid hA
                   have HK5 : Hid (Kp0 w w5) := Lib.hid (HB.out.kp.trans hk5 (fun _ _ h => h) (fun i hi e => by have := HG.out; omega))
                   clear hA hk5)
      refine ret_blkT 8 9 40 40 g8 (nvl (.mk [] [] []) (.slice none 0 0)) _ rfl rfl HB9.out Try.underlying40 rfl infoNd rfl _ rfl ?_
      exact ⟨by rw [HR.out]; rfl, HK5.out⟩
    · have f2 : ((lv : Int) == 0) = false := by rw [beq_eq_false_iff_ne]; omega
      obtain ⟨b1, o1, lc1, da, db, dc, e1, _, _, D0, D1, D2, D3, D4, D5, D6, hdr, _, _⟩ := HD.out.at i hi
      simp only [Value.slice.injEq] at e1
      obtain ⟨rfl, _, rfl⟩ := e1
      have HDR := Lib.hid hdr
      have HPD : Hid (ds[i]? = some (ds[i]'hi)) := Lib.hid (List.getElem?_eq_getElem hi)
      have HDC : Hid (∀ wq, Kp0 w wq → wq.cell? ⟨b1, o1 + i * 7, none⟩ = some (.string (S (ds[i]'hi).nm)) ∧ wq.cell? ⟨b1, o1 + i * 7 + 1, none⟩ = some (.int .i64 (ds[i]'hi).kd) ∧ wq.cell? ⟨b1, o1 + i * 7 + 2, none⟩ = some (.int .i64 (ds[i]'hi).ty) ∧ wq.cell? ⟨b1, o1 + i * 7 + 3, none⟩ = some da ∧ wq.cell? ⟨b1, o1 + i * 7 + 4, none⟩ = some (.bool (ds[i]'hi).mu) ∧ wq.cell? ⟨b1, o1 + i * 7 + 5, none⟩ = some db ∧ wq.cell? ⟨b1, o1 + i * 7 + 6, none⟩ = some dc) := Lib.hid (fun wq hq => ⟨hq.cell D0 (fun h => h), hq.cell D1 (fun h => h), hq.cell D2 (fun h => h), hq.cell D3 (fun h => h), hq.cell D4 (fun h => h), hq.cell D5 (fun h => h), hq.cell D6 (fun h => h)⟩)
      clear D0 D1 D2 D3 D4 D5 D6 hdr
      rw [f3] at f1 ⊢
      clear f3
      have i2 : (i : Int) < (ds.length : Int) := by omega
      generalize ds[i]'hi = d at HDR HPD HDC
      have HCT : Hid (chT lv ds n es = match insL d n es [] with
        | none => some (wholeT lv n)
        | some ins => wiT (fun k => chT (lv - 1) d.ks k ins) (wholeT (lv - 1)) d n) := Lib.hid (by
        obtain ⟨l, rfl⟩ : ∃ l, lv = l + 1 := ⟨lv - 1, by omega⟩
        rw [Nat.add_sub_cancel, chT, ← HPL.out]
        simp only [HPD.out]
        cases insL d n es [] <;> rfl)
      go_wp2
      go_loopg [11, 29] es.length (fun gg iv ix wr => ∃ (k : Nat) (ins : List PE), ix = .int .i64 k ∧ k ≤ es.length ∧ gg = es.length - k ∧ Hid (insL d n es [] = insL d n (es.drop k) ins) ∧ Hid (AccE w3.heap.size (fun i => H i ∧ i < w.heap.size) wr iv ins) ∧ Hid (cntEs ins + cntEs (es.drop k) ≤ 1000000) ∧ Kp0 w3 wr)
      case atStart => exact ⟨0, [], rfl, Nat.zero_le _, rfl, Lib.hid rfl, Lib.hid (AccE.nil _ _ _), Lib.hid (by rw [show cntEs [] = 0 from rfl, Nat.zero_add]; exact HC.out), Kp.refl _ _⟩
      case round =>
        obtain ⟨k, ins, rfl, hk, rfl, HF, HA, HCN, hkp⟩ := hrel
        have HK := Lib.hid hkp
        clear hkp
        by_cases h : k < es.length
        · have i1 : (k : Int) < (es.length : Int) := by omega
          obtain ⟨b2, o2, cap2, ea, xc, e2, _, _, D0, D1, D2, D3, D4, hel, _, _⟩ := HE.out.at k h
          simp only [Value.slice.injEq] at e2
          obtain ⟨rfl, _, rfl⟩ := e2
          have HKW := Lib.hid (HB.out.kp.tr HK.out)
          have HXF := Lib.hid (hel.lt.kp0 HKW.out)
          have d0 := HKW.out.cell D0 (fun h => h)
          have d1 := HKW.out.cell D1 (fun h => h)
          have d2 := HKW.out.cell D2 (fun h => h)
          have d3 := HKW.out.cell D3 (fun h => h)
          have d4 := HKW.out.cell D4 (fun h => h)
          have HST : Hid (insL d n es [] = if es[k].nm == n.nm then (if (askT d n es[k]).2 then none else insL d n (es.drop (k + 1)) (ins ++ (askT d n es[k]).1)) else insL d n (es.drop (k + 1)) ins) := Lib.hid (by rw [HF.out]; exact insL_skip d n es k h ins)
          have HCN : Hid (cntEs ins + (1 + cntEs (es[k]'h).ks) + cntEs (es.drop (k + 1)) ≤ 1000000) := Lib.hid (by have := HCN.out; rw [List.drop_eq_getElem_cons h, cntEs, cntE_ks] at this; omega)
          clear hel HF D0 D1 D2 D3 D4
          generalize es[k]'h = el at d0 d1 d2 d3 d4 HST HXF HCN
          go_upto_region 8 with (first
            | (refine wl_alloc_as asEl rfl rfl ?_
               intro w4 g13 hw hg
               have HB4 : Hid (Blk w4 g13 38 el0) := Lib.hid (by rw [hw, hg]; exact blk0 _ _ _)
               have HK4 : Hid (Kp0 wr w4) := Lib.hid (by rw [hw]; exact (Kp.refl _ _).alloc _)
               have HG13 : Hid (wr.heap.size ≤ g13 ∧ g13 < w4.heap.size) := Lib.hid (by rw [hw, hg]; simp)
               clear hw hg)
            | (refine wl_store_blk rfl 38 (.tmp 13) (.tmp 32) rfl g13 _ el0 (evl el ea xc) rfl rfl HB4.out infoEl rfl HXF.out.ones ?_
               intro w5 hA hk5
               have HB13 := Lib.hid hA
               have HK5 : Hid (Kp0 wr w5) := Lib.hid (HK4.out.trans hk5 (fun _ _ h => h) (fun i hi e => by have := HG13.out.1; omega))
               clear hA hk5))
          try simp only [Act.put]
          try simp only [List.setIfInBounds_toArray, List.set_cons_zero, List.set_cons_succ]
          have HK := Lib.hid (HK.out.tr HK5.out)
          have HKW := Lib.hid (HKW.out.tr HK5.out)
          have HBW := Lib.hid (HB.out.kp0 HK.out)
          have HXF := Lib.hid (HXF.out.kp0 HK5.out)
          have HA := Lib.hid (HA.out.kp0 HK5.out)
          clear HK4 HK5 HB4 HG13 d0 d1 d2 d3 d4
          have x1 := HB13.out.cellV 1 (v := .string (S el.nm)) rfl
          have n0 := (HBW.out.at 0 rfl).cellV 0 (v := .string (S n.nm)) rfl
          cases hq : ((S el.nm).toList == (S n.nm).toList)
          · have q1 : ((S el.nm).toList != (S n.nm).toList) = true := by rw [bne, hq]; rfl
            have HST : Hid (insL d n es [] = insL d n (es.drop (k + 1)) ins) := Lib.hid (by rw [HST.out, ← S_beq, hq]; rfl)
            go_wp2
            go_roundg (es.length - (k + 1))
            case measure => omega
            case rel => exact ⟨k + 1, ins, by go_num, by omega, rfl, HST, HA, Lib.hid (by have := HCN.out; omega), HK.out⟩
          · have q1 : ((S el.nm).toList != (S n.nm).toList) = false := by rw [bne, hq]; rfl
            have HST : Hid (insL d n es [] = if (askT d n el).2 then none else insL d n (es.drop (k + 1)) (ins ++ (askT d n el).1)) := Lib.hid (by rw [HST.out, ← S_beq, hq]; rfl)
            go_upto_region 9 with (fail)
            clear hq q1 x1 n0
            refine wp_region_px 12 [] (fun w' : World => Kp0 w5 w') (.quiet 0 (.quiet 1 (.quiet 2 (.quiet 3 (.quiet 4 (.quiet 5 (.eff 6 (.quiet 7 (.quiet 8 (.quiet 9 (.quiet 10 (.quiet 11 .done)))))))))))) (by kernel_rfl) (by kernel_rfl) (by kernel_rfl) (by kernel_rfl) (fun _ d _ _ _ h => by cases d <;> exact h) (Kp.refl (fun _ => False) w5).drew ?_
            have HX : Hid (Kp0 w5 w5.drew) := Lib.hid (Kp.refl (fun _ => False) w5).drew
            generalize w5.drew = x0 at HX ⊢
            iterate 6 (refine px_quiet (v := ?_) rfl (by rfl) (fun wq hwq => ?_) rfl ?_; rotate_left 1; (focus (obtain ⟨c0, c1, c2, c3, c4, c5, c6⟩ := HDC.out wq (HKW.out.tr hwq); have n0 := ((HBW.out.kp0 hwq).at 0 rfl).cellV 0 (v := .string (S n.nm)) rfl; have n1 := ((HBW.out.kp0 hwq).at 0 rfl).cellV 1 (v := .string (S n.vl)) rfl; have n2 := ((HBW.out.kp0 hwq).at 0 rfl).cellV 2 (v := .slice no n.ks.length nc) rfl; have x0 := (HB13.out.kp0 hwq).cellV 0 (v := .string (S el.sp)) rfl; have x1 := (HB13.out.kp0 hwq).cellV 1 (v := .string (S el.nm)) rfl; have x2 := (HB13.out.kp0 hwq).cellV 2 (v := ea) rfl; have x3 := (HB13.out.kp0 hwq).cellV 3 (v := .string (S el.tx)) rfl; have x4 := (HB13.out.kp0 hwq).cellV 4 (v := xc) rfl; go_simp; try (with_reducible rfl); done)); try simp only [List.setIfInBounds_toArray, List.set_cons_zero, List.set_cons_succ])
            refine px_eff rfl (by rfl) (fun K hK => ?_)
            go_simp
            obtain ⟨il, b, hab⟩ : ∃ il b, askT d n el = (il, b) := ⟨_, _, rfl⟩
            have HST : Hid (insL d n es [] = if b then none else insL d n (es.drop (k + 1)) (ins ++ il)) := Lib.hid (by rw [HST.out, hab])
            have HCI : Hid (cntEs il ≤ cntEs el.ks) := Lib.hid (by have := askT_cnt d n el; rw [hab] at this; exact this)
            refine (asked_any d n el da db dc (.slice no n.ks.length nc) ea xc x0 (HDR.out.kp0 (HKW.out.tr HX.out)) (HN.out.kp0 (HKW.out.tr HX.out)) (HXF.out.kp0 HX.out) (by have := HCN.out; have := cntEs_len el.ks; omega)).mono ?_
            rw [hab]
            clear hab
            rintro r x1 ⟨⟨v53, rfl, hnw⟩, hk⟩
            have HNW : Hid (NewE x0 (fun i => H i ∧ i < w.heap.size) x1 v53 il) := Lib.hid hnw
            have HSX : Hid (w5.heap.size ≤ x0.heap.size) := Lib.hid HX.out.size
            have HX := Lib.hid (HX.out.tr hk)
            refine hK (fun w' => Kp0 w5 w') _ _ (fun _ h => h) HX.out ?_
            clear hK K hk hnw
            try simp only [List.setIfInBounds_toArray, List.set_cons_zero, List.set_cons_succ]
            iterate 5 (refine px_quiet (v := ?_) rfl (by rfl) (fun wq hwq => ?_) rfl ?_; rotate_left 1; (focus (clear hwq; go_simp; try (with_reducible rfl); done)); try simp only [List.setIfInBounds_toArray, List.set_cons_zero, List.set_cons_succ])
            refine px_done ?_
            cases b with
            | true =>
              have HR : Hid (chT lv ds n es = some (wholeT lv n)) := Lib.hid (by rw [HCT.out, HST.out]; rfl)
              have HBX := Lib.hid (HBW.out.kp0 HX.out)
              have n0 := (HBX.out.at 0 rfl).cellV 0 (v := .string (S n.nm)) rfl
              have n1 := (HBX.out.at 0 rfl).cellV 1 (v := .string (S n.vl)) rfl
              have n2 := (HBX.out.at 0 rfl).cellV 2 (v := .slice no n.ks.length nc) rfl
              obtain ⟨y, hy⟩ : ∃ y, y = wholeT lv n := ⟨_, rfl⟩
              rw [← hy] at HR
              have HY := Lib.hid hy
              clear hy
              have HKX := Lib.hid (HKW.out.tr HX.out)
              go_wp2_with (first
                | (go_at_call 34
                   refine (whole_any lv HLV.out _ n _ _ (HN.out.kp0 HKX.out) HOK.out).mono ?_
                   rw [← HY.out]
                   rintro r wd ⟨⟨kv2, rfl, hr2⟩, hkd⟩
                   have HRY := Lib.hid hr2
                   have HKD := Lib.hid hkd
                   have HB8 := Lib.hid ((HBX.out.at 1 rfl).kp0 HKD.out)
                   have HSD : Hid (w3.heap.size ≤ x1.heap.size ∧ w.heap.size ≤ x1.heap.size) := Lib.hid ⟨Nat.le_trans HK.out.size HX.out.size, HKX.out.size⟩
                   clear hr2 hkd
                   unfold NodA)
                | (refine wl_store_blk rfl 40 (.tmp 8) (.tmp 51) rfl g8 _ _ (nvl y kv2) rfl rfl HB8.out infoNd rfl HRY.out.onesN ?_
                   intro WX hA hkx
                   have HB9 := Lib.hid hA
                   have HR5 := Lib.hid (HRY.out.keep (G := fun i => w.heap.size ≤ i) hkx (fun i hi _ e => by have := HG.out; have := HSD.out; omega) (fun i hi _ => by have := HSD.out; omega))
                   have HK5 : Hid (Kp0 w WX) := Lib.hid ((HKX.out.tr HKD.out).trans hkx (fun _ _ h => h) (fun i hi e => by have := HG.out; omega))
                   clear hA hkx))
              refine ret_blkT 8 9 40 40 g8 (nvl y kv2) _ rfl rfl HB9.out Try.underlying40 rfl infoNd rfl _ rfl ?_
              exact ⟨by rw [HR.out]; exact ⟨kv2, rfl, HR5.out⟩, HK5.out⟩
            | false =>
              have HST : Hid (insL d n es [] = insL d n (es.drop (k + 1)) (ins ++ il)) := Lib.hid (by rw [HST.out]; rfl)
              have hAC := HA.out.kp0 HX.out
              obtain ⟨cs, hO, hE⟩ := hAC
              have HO := Lib.hid hO
              have HE1 := Lib.hid hE
              have hNC := HNW.out
              obtain ⟨cs2, hO2, hE2⟩ := hNC
              obtain ⟨a2, c2, rfl, _, _, _⟩ := hO2.shape
              have HO2 := Lib.hid hO2
              have HON : Hid (Ones cs2) := Lib.hid (ElsV.onesV _ _ hE2)
              have HE2 : Hid (ElsV (fun i => H i ∧ i < w.heap.size) x1 il cs2) := Lib.hid (ElsV.keep (Kp.refl (fun _ => False) _) (fun _ _ h => h) (fun _ h => h.1) _ _ hE2)
              have HSZ : Hid (w.heap.size ≤ w3.heap.size ∧ w3.heap.size ≤ x1.heap.size) := Lib.hid ⟨HB.out.kp.size, Nat.le_trans HK.out.size HX.out.size⟩
              have HOB : Hid (∀ b, u11.ownBlock = some b → w3.heap.size ≤ b) := Lib.hid (fun b hb => (World.ownsRow.lt hO b hb).1)
              have HLN : Hid (ins.length + il.length ≤ 1000000) := Lib.hid (by have := HCN.out; have := HCI.out; have := cntEs_len ins; have := cntEs_len il; omega)
              clear hO hE hO2 hE2
              go_wp2_with (at_builtin
                           refine wl_append_rk rfl (.tmp 52) (.tmp 53) 22 rfl Try.underlying22 infoE rfl (by decide) rfl HO.out rfl HO2.out HON.out (by have := HLN.out; unfold maxLen; omega) (by have := HLN.out; omega) (by have := HSZ.out; omega) ?_
                           intro u6b wz ho hkz hbz
                           have HZ := Lib.hid (AccE.more (fs := il) HO.out HE1.out (fun i hi => Nat.lt_of_lt_of_le hi.2 HSZ.out.1) HE2.out hkz ho)
                           have HKZ : Hid (Kp0 w3 wz) := Lib.hid ((HK.out.tr HX.out).trans hkz (fun _ _ h => h) (fun i hi e => by have := HOB.out i e; omega))
                           clear ho hkz hbz)

              go_roundg (es.length - (k + 1))
              case measure => omega
              case rel => exact ⟨k + 1, ins ++ il, by go_num, by omega, rfl, HST, HZ, Lib.hid (by rw [cntEs_app]; have := HCN.out; have := HCI.out; omega), HKZ.out⟩
        · have i1 : ¬ (k : Int) < (es.length : Int) := by omega
          have HR0 : Hid (chT lv ds n es = wiT (fun k => chT (lv - 1) d.ks k ins) (wholeT (lv - 1)) d n) := Lib.hid (by
            rw [HCT.out, HF.out, List.drop_eq_nil_of_le (by omega), insL])
          have HCN : Hid (cntEs ins ≤ 1000000) := Lib.hid (by have := HCN.out; omega)
          have HKW := Lib.hid (HB.out.kp.tr HK.out)
          have HBW := Lib.hid (HB.out.kp0 HK.out)
          have HIR := Lib.hid HA.out.row
          clear HF HCT
          go_upto_region 14 with (fail)
          refine wp_region_px 12 [10] (fun w' : World => Kp0 wr w') (.quiet 0 (.quiet 1 (.quiet 2 (.quiet 3 (.quiet 4 (.quiet 5 (.quiet 6 (.eff 7 (.quiet 8 (.quiet 9 (.wall 10 (.quiet 11 .done)))))))))))) (by kernel_rfl) (by kernel_rfl) (by kernel_rfl) (by kernel_rfl) (fun _ d _ _ _ h => by cases d <;> exact h) (Kp.refl (fun _ => False) wr).drew ?_
          have HX : Hid (Kp0 wr wr.drew) := Lib.hid (Kp.refl (fun _ => False) wr).drew
          generalize wr.drew = x0 at HX ⊢
          iterate 7 (refine px_quiet (v := ?_) rfl (by rfl) (fun wq hwq => ?_) rfl ?_; rotate_left 1; (focus (obtain ⟨c0, c1, c2, c3, c4, c5, c6⟩ := HDC.out wq (HKW.out.tr hwq); have n0 := ((HBW.out.kp0 hwq).at 0 rfl).cellV 0 (v := .string (S n.nm)) rfl; have n1 := ((HBW.out.kp0 hwq).at 0 rfl).cellV 1 (v := .string (S n.vl)) rfl; have n2 := ((HBW.out.kp0 hwq).at 0 rfl).cellV 2 (v := .slice no n.ks.length nc) rfl; go_simp; try (with_reducible rfl); done)); try simp only [List.setIfInBounds_toArray, List.set_cons_zero, List.set_cons_succ])
          refine px_eff rfl (by rfl) (fun K hK => ?_)
          go_simp
          refine (within_any lv hl0 HLV.out (HCH.out hl0) d n ins da db dc (.slice no n.ks.length nc) u11 x0 (HDR.out.kp0 (HKW.out.tr HX.out)) (HN.out.kp0 (HKW.out.tr HX.out)) (HIR.out.kp0 HX.out) HOK.out HCN.out).mono ?_
          rw [← HR0.out]
          rintro r x1 ⟨hca, hk⟩
          have HCA := Lib.hid hca
          have HSX : Hid (wr.heap.size ≤ x0.heap.size) := Lib.hid HX.out.size
          have HX := Lib.hid (HX.out.tr hk)
          have HB8 := Lib.hid ((HBW.out.at 1 rfl).kp0 HX.out)
          have HKX := Lib.hid (HKW.out.tr HX.out)
          clear hk hca HR0
          obtain ⟨z, hz⟩ : ∃ z, z = chT lv ds n es := ⟨_, rfl⟩
          rw [← hz] at HCA
          have HR := Lib.hid hz.symm
          clear hz
          cases z with
          | none =>
            obtain rfl : r = _ := HCA.out
            unfold NodA
            refine hK (fun w' => Kp0 wr w') _ _ (fun _ h => h) HX.out ?_
            clear hK K
            try simp only [List.setIfInBounds_toArray, List.set_cons_zero, List.set_cons_succ]
            iterate 2 (refine px_quiet (v := ?_) rfl (by rfl) (fun wq hwq => ?_) rfl ?_; rotate_left 1; (focus (clear hwq; go_simp; try (with_reducible rfl); done)); try simp only [List.setIfInBounds_toArray, List.set_cons_zero, List.set_cons_succ])
            refine px_wall rfl (by rfl) (fun K hK => ?_)
            refine wp_store_blk 40 (.tmp 8) (.tmp 64) rfl g8 _ nd0 (nvl (.mk [] [] []) (.slice none 0 0)) rfl rfl HB8.out infoNd rfl (RowN.nil (fun _ => False) x1).onesN ?_
            intro w5 hA hk5
            have HB9 := Lib.hid hA
            have HK5 : Hid (Kp0 w w5) := Lib.hid (HKX.out.trans hk5 (fun _ _ h => h) (fun i hi e => by have := HG.out; omega))
            clear hA hk5
            refine hK (fun _ => True) _ _ trivial ?_
            clear hK K
            simp only [Act.put, List.getElem_toArray, List.getElem_cons_succ, List.getElem_cons_zero]
            try simp only [List.setIfInBounds_toArray, List.set_cons_zero, List.set_cons_succ]
            iterate 1 (refine px_quiet (v := ?_) rfl (by rfl) (fun wq hwq => ?_) rfl ?_; rotate_left 1; (focus (clear hwq; go_simp; try (with_reducible rfl); done)); try simp only [List.setIfInBounds_toArray, List.set_cons_zero, List.set_cons_succ])
            refine px_done ?_
            go_wp2
            refine ret_blkT 8 9 40 40 g8 (nvl (.mk [] [] []) (.slice none 0 0)) _ rfl rfl HB9.out Try.underlying40 rfl infoNd rfl _ rfl ?_
            exact ⟨by rw [HR.out]; rfl, HK5.out⟩
          | some y =>
            have hca := HCA.out
            obtain ⟨kv2, rfl, hr2⟩ := hca
            have HRY := Lib.hid hr2
            clear hr2
            unfold NodA
            refine hK (fun w' => Kp0 wr w') _ _ (fun _ h => h) HX.out ?_
            clear hK K
            try simp only [List.setIfInBounds_toArray, List.set_cons_zero, List.set_cons_succ]
            iterate 2 (refine px_quiet (v := ?_) rfl (by rfl) (fun wq hwq => ?_) rfl ?_; rotate_left 1; (focus (clear hwq; go_simp; try (with_reducible rfl); done)); try simp only [List.setIfInBounds_toArray, List.set_cons_zero, List.set_cons_succ])
            refine px_wall rfl (by rfl) (fun K hK => ?_)
            refine wp_store_blk 40 (.tmp 8) (.tmp 64) rfl g8 _ nd0 (nvl y kv2) rfl rfl HB8.out infoNd rfl HRY.out.onesN ?_
            intro w5 hA hk5
            have HB9 := Lib.hid hA
            have HK5 : Hid (Kp0 w w5) := Lib.hid (HKX.out.trans hk5 (fun _ _ h => h) (fun i hi e => by have := HG.out; omega))
            have HSD : Hid (w3.heap.size ≤ x0.heap.size ∧ w.heap.size ≤ x0.heap.size) := Lib.hid ⟨Nat.le_trans HK.out.size HSX.out, Nat.le_trans HKW.out.size HSX.out⟩
            have HR5 := Lib.hid (HRY.out.keep (G := fun i => w.heap.size ≤ i) hk5 (fun i hi _ e => by have := HG.out; have := HSD.out; omega) (fun i hi _ => by have := HSD.out; omega))
            clear hA hk5
            refine hK (fun _ => True) _ _ trivial ?_
            clear hK K
            simp only [Act.put, List.getElem_toArray, List.getElem_cons_succ, List.getElem_cons_zero]
            try simp only [List.setIfInBounds_toArray, List.set_cons_zero, List.set_cons_succ]
            iterate 1 (refine px_quiet (v := ?_) rfl (by rfl) (fun wq hwq => ?_) rfl ?_; rotate_left 1; (focus (clear hwq; go_simp; try (with_reducible rfl); done)); try simp only [List.setIfInBounds_toArray, List.set_cons_zero, List.set_cons_succ])
            refine px_done ?_
            go_wp2
            refine ret_blkT 8 9 40 40 g8 (nvl y kv2) _ rfl rfl HB9.out Try.underlying40 rfl infoNd rfl _ rfl ?_
            exact ⟨by rw [HR.out]; exact ⟨kv2, rfl, HR5.out⟩, HK5.out⟩
theorem choose_any (lv : Nat) : ChooseP lv := by
  induction lv with
  | zero => exact choose_step 0 (fun h => absurd h (Nat.lt_irrefl 0))
  | succ lv ih => exact choose_step (lv + 1) (fun _ => ih)
end Go.Proofs.Ytmamcnhofgfolaa
