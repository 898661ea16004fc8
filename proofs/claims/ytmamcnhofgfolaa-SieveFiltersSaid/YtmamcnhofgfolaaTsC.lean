/- The reference of layer 16: the marks of nodes. -/
import Derived.Test.YtmamcnhofgfolaaTsB
namespace Go.Proofs.Ytmamcnhofgfolaa
open Go Go.RowKit
theorem ArrM.mid {B g k : Nat} {w : World} {pre post : List PM} {m : PM} (h : ArrM B g w (pre ++ m :: post)) (hk : pre.length = k) :
    ∃ kv, w.cell? ⟨g, k * 3, none⟩ = some (.bool m.on) ∧ w.cell? ⟨g, k * 3 + 1, none⟩ = some (.bool m.al) ∧ w.cell? ⟨g, k * 3 + 2, none⟩ = some kv ∧ RowM (fun i => B ≤ i ∧ i ≠ g) w kv m.ks := by
  subst hk
  have h1 := h.at pre.length (by simp)
  have e : (pre ++ m :: post)[pre.length]'(by simp) = m := by simp
  rw [e] at h1
  exact h1
theorem set_mid {k : Nat} (pre post : List PM) (m m' : PM) (h : pre.length = k) : (pre ++ m :: post).set k m' = pre ++ m' :: post := by
  subst h
  rw [List.set_append_right _ _ (Nat.le_refl _), Nat.sub_self, List.set_cons_zero]
theorem esOk_memE : ∀ {es : List PE} {e : PE}, esOk es = true → e ∈ es → eOk e = true
  | e' :: es, e, h, hm => by
    unfold esOk at h
    rw [Bool.and_eq_true] at h
    rcases List.mem_cons.1 hm with rfl | hm
    · exact h.1
    · exact esOk_memE h.2 hm
set_option maxRecDepth 20000 in
set_option maxHeartbeats 4000000 in
theorem marks_step (ns : List PN) (ih : ∀ n ∈ ns, OneP n) : MarksP ns := by
  intro F G H ds es dv nv ev w hd hn he hok hl heo
  have HD := Lib.hid hd
  have HN := Lib.hid hn
  have HE := Lib.hid he
  have HOK := Lib.hid hok
  have HL := Lib.hid hl
  have HEO := Lib.hid heo
  have HIH := Lib.hid ih
  have hmk : ∀ u : World, (Instr.makeSlice 55 (.int .i64 (ns.length : Int)) (.int .i64 (ns.length : Int))).run Try.prog u = .ok (.slice (some ⟨u.heap.size, 0, none⟩) ns.length ns.length) (u.alloc (.cells (mcs (List.replicate ns.length pm0) (List.replicate ns.length (.slice none 0 0))).toArray 74)) := fun u => mkM ns.length hl u
  obtain ⟨no, nc, rfl, _, _, _⟩ := hn.shape
  obtain ⟨eo, ec, rfl, _, _, _⟩ := he.shape
  obtain ⟨lo, lc, rfl, _, _, _⟩ := hd.shape
  clear hd hn he hok heo ih
  go_enter Try.func23, Try.ntmps23
  go_upto_region 2 with (fail)
  clear hmk hl
  have HAR : Hid (ArrM w.heap.size w.heap.size (w.alloc (.cells (mcs (List.replicate ns.length pm0) (List.replicate ns.length (.slice none 0 0))).toArray 74)) (List.replicate ns.length pm0)) := Lib.hid (ArrM.made _ _ w)
  have HK1 : Hid (Kp0 w (w.alloc (.cells (mcs (List.replicate ns.length pm0) (List.replicate ns.length (.slice none 0 0))).toArray 74))) := Lib.hid ((Kp.refl _ _).alloc _)
  generalize w.alloc (.cells (mcs (List.replicate ns.length pm0) (List.replicate ns.length (.slice none 0 0))).toArray 74) = w1 at HAR HK1 ⊢
  obtain ⟨g7, hg7⟩ : ∃ x, x = w.heap.size := ⟨_, rfl⟩
  have HG : Hid (g7 = w.heap.size ∧ g7 < w1.heap.size) := Lib.hid ⟨hg7, by rw [hg7]; exact HAR.out.lt⟩
  rw [← hg7] at HAR
  rw [← hg7]
  clear hg7
  go_wp2
  go_loopg [8] ns.length (fun gg i wr => ∃ (k : Nat), i = .int .i64 k ∧ k ≤ ns.length ∧ gg = ns.length - k ∧ Hid (ArrM g7 g7 wr (marksT ds (ns.take k) es ++ List.replicate (ns.length - k) pm0)) ∧ Kp (fun b => b = g7) w1 wr)
  case atStart => exact ⟨0, rfl, Nat.zero_le _, rfl, HAR, Kp.refl _ _⟩
  case round =>
    clear HAR
    obtain ⟨k, rfl, hk, rfl, HAR, hkp⟩ := hrel
    have HKR := Lib.hid hkp
    clear hkp
    have HKW : Hid (Kp0 w wr) := Lib.hid (HK1.out.trans HKR.out (fun _ _ h => h) (fun i hi e => by have := HG.out; omega))
    have hlm := HL.out
    by_cases h : k < ns.length
    · have i1 : (k : Int) < (ns.length : Int) := by omega
      obtain ⟨b1, o1, d1, kv1, e1, _, _, C0, C1, C2, hkv, _⟩ := HN.out.at k h
      simp only [Value.slice.injEq] at e1
      obtain ⟨rfl, _, rfl⟩ := e1
      have HKV := Lib.hid hkv
      have HDX : Hid (∀ wq, Kp0 w wq → wq.cell? ⟨b1, o1 + k * 3, none⟩ = some (.string (S (ns[k]'h).nm)) ∧ wq.cell? ⟨b1, o1 + k * 3 + 1, none⟩ = some (.string (S (ns[k]'h).vl)) ∧ wq.cell? ⟨b1, o1 + k * 3 + 2, none⟩ = some kv1) := Lib.hid (fun wq hq => ⟨hq.cell C0 (fun h => h), hq.cell C1 (fun h => h), hq.cell C2 (fun h => h)⟩)
      obtain ⟨D0, D1, D2⟩ := HDX.out wr HKW.out
      have HXO := Lib.hid (ksOk_mem HOK.out (List.getElem_mem h))
      have HIX := Lib.hid (HIH.out (ns[k]'h) (List.getElem_mem h))
      have HTK : Hid (marksT ds (ns.take (k + 1)) es = marksT ds (ns.take k) es ++ [mkT ds (ns[k]'h) es]) := Lib.hid (by rw [marksT_map, marksT_map, List.take_succ_eq_append_getElem h, List.map_append]; rfl)
      have HLB : Hid ((marksT ds (ns.take k) es).length = k) := Lib.hid (by rw [marksT_map, List.length_map, List.length_take]; omega)
      have HRP : Hid (List.replicate (ns.length - k) pm0 = pm0 :: List.replicate (ns.length - (k + 1)) pm0) := Lib.hid (by rw [show ns.length - k = (ns.length - (k + 1)) + 1 by omega, List.replicate_succ])
      clear hkv C0 C1 C2
      generalize ns[k]'h = x at D0 D1 D2 HDX HKV HXO HIX HTK
      generalize marksT ds (ns.take k) es = pre at HAR HTK HLB
      rw [HRP.out] at HAR
      obtain ⟨wa, hwa⟩ : ∃ x, x = wr := ⟨_, rfl⟩
      subst hwa
      cases hpl : plc ds x.nm with
      | none =>
        have HPL := Lib.hid hpl
        have HARN : Hid (ArrM g7 g7 wa (marksT ds (ns.take (k + 1)) es ++ List.replicate (ns.length - (k + 1)) pm0)) := Lib.hid (by
          have hm : mkT ds x es = pm0 := by unfold mkT; rw [hpl]
          rw [HTK.out, hm, List.append_assoc]
          exact HAR.out)
        have HKRN := HKR
        clear hpl
        have f1 : (plI none) = -1 := rfl
        go_upto_region 6 with (go_at_call 28; refine (place_any ds _ x.nm _ (HD.out.kp0 HKW.out)).mono ?_; rw [HPL.out]; rintro r w3 ⟨rfl, hk3⟩; have HK3 := Lib.hid hk3; clear hk3)
        have HARN := Lib.hid (HARN.out.kp0 HK3.out)
        have HKRN := Lib.hid (HKRN.out.tr (HK3.out.nil _))
        go_wp2
        go_loopg [10] 0 (fun gg j wr => j = .int .i64 0 ∧ gg = 0 ∧ Kp0 w3 wr)
        case atStart => exact ⟨rfl, rfl, Kp.refl _ _⟩
        case round =>
          obtain ⟨rfl, rfl, hkp⟩ := hrel
          have HARN := Lib.hid (HARN.out.kp0 hkp)
          have HKRN := Lib.hid (HKRN.out.tr (hkp.nil _))
          clear hkp
          by_cases h0 : (0 : Int) < (es.length : Int)
          · go_wp2
            go_roundg (ns.length - (k + 1))
            case measure => omega
            case rel => exact ⟨k + 1, by go_num, by omega, rfl, HARN, HKRN.out⟩
          · go_wp2
            go_roundg (ns.length - (k + 1))
            case measure => omega
            case rel => exact ⟨k + 1, by go_num, by omega, rfl, HARN, HKRN.out⟩
      | some i =>
        have HPL := Lib.hid hpl
        have hi := plc_lt hpl
        clear hpl
        have f3 : plI (some i) = (i : Int) := rfl
        obtain ⟨bd, od, cd, da, db, dc, e1, _, _, L0, L1, L2, L3, L4, L5, L6, hdr, _, _⟩ := HD.out.at i hi
        simp only [Value.slice.injEq] at e1
        obtain ⟨rfl, _, rfl⟩ := e1
        have HDR := Lib.hid hdr
        have HPD : Hid (ds[i]? = some (ds[i]'hi)) := Lib.hid (List.getElem?_eq_getElem hi)
        have HDC : Hid (∀ wq, Kp0 w wq → wq.cell? ⟨bd, od + i * 7, none⟩ = some (.string (S (ds[i]'hi).nm)) ∧ wq.cell? ⟨bd, od + i * 7 + 1, none⟩ = some (.int .i64 (ds[i]'hi).kd) ∧ wq.cell? ⟨bd, od + i * 7 + 2, none⟩ = some (.int .i64 (ds[i]'hi).ty) ∧ wq.cell? ⟨bd, od + i * 7 + 3, none⟩ = some da ∧ wq.cell? ⟨bd, od + i * 7 + 4, none⟩ = some (.bool (ds[i]'hi).mu) ∧ wq.cell? ⟨bd, od + i * 7 + 5, none⟩ = some db ∧ wq.cell? ⟨bd, od + i * 7 + 6, none⟩ = some dc) := Lib.hid (fun wq hq => ⟨hq.cell L0 (fun h => h), hq.cell L1 (fun h => h), hq.cell L2 (fun h => h), hq.cell L3 (fun h => h), hq.cell L4 (fun h => h), hq.cell L5 (fun h => h), hq.cell L6 (fun h => h)⟩)
        clear L0 L1 L2 L3 L4 L5 L6 hdr
        have i2 : (i : Int) < (ds.length : Int) := by omega
        have i3 : (i : Int) ≥ 0 := by omega
        have i3' : (0 : Int) ≤ i := by omega
        generalize ds[i]'hi = d at HDR HPD HDC
        have HMK : Hid (mkT ds x es = accT d x es) := Lib.hid (by unfold mkT; rw [HPL.out]; simp only [HPD.out])
        go_upto_region 6 with (go_at_call 28; refine (place_any ds _ x.nm _ (HD.out.kp0 HKW.out)).mono ?_; rw [HPL.out, f3]; rintro r w3 ⟨rfl, hk3⟩; have HK3 := Lib.hid hk3; clear hk3)
        have HAR : Hid (ArrM g7 g7 w3 (pre ++ (accT d x (es.take 0)) :: List.replicate (ns.length - (k + 1)) pm0)) := Lib.hid (HAR.out.kp0 HK3.out)
        have HKR := Lib.hid (HKR.out.tr (HK3.out.nil _))
        have HKW := Lib.hid (HKW.out.tr HK3.out)
        go_wp2
        go_loopg [10] es.length (fun gg j wr => ∃ (m : Nat), j = .int .i64 m ∧ m ≤ es.length ∧ gg = es.length - m ∧ Hid (ArrM g7 g7 wr (pre ++ (accT d x (es.take m)) :: List.replicate (ns.length - (k + 1)) pm0)) ∧ Kp (fun b => b = g7) w3 wr)
        case atStart => exact ⟨0, rfl, Nat.zero_le _, rfl, HAR, Kp.refl _ _⟩
        case round =>
          clear HAR
          obtain ⟨m, rfl, hm, rfl, HAR, hkp⟩ := hrel
          have HK3R := Lib.hid hkp
          clear hkp D0 D1 D2
          have HKWR : Hid (Kp0 w wr) := Lib.hid (HKW.out.trans HK3R.out (fun _ _ h => h) (fun i hi e => by have := HG.out; omega))
          by_cases hme : m < es.length
          · have j1 : (m : Int) < (es.length : Int) := by omega
            obtain ⟨b2, o2, cap2, ea, xc, e2, _, _, E0, E1, E2, E3, E4, hel, _, _⟩ := HE.out.at m hme
            simp only [Value.slice.injEq] at e2
            obtain ⟨rfl, _, rfl⟩ := e2
            have HEL := Lib.hid hel
            have HEX : Hid (∀ wq, Kp0 w wq → wq.cell? ⟨b2, o2 + m * 5, none⟩ = some (.string (S (es[m]'hme).sp)) ∧ wq.cell? ⟨b2, o2 + m * 5 + 1, none⟩ = some (.string (S (es[m]'hme).nm)) ∧ wq.cell? ⟨b2, o2 + m * 5 + 2, none⟩ = some ea ∧ wq.cell? ⟨b2, o2 + m * 5 + 3, none⟩ = some (.string (S (es[m]'hme).tx)) ∧ wq.cell? ⟨b2, o2 + m * 5 + 4, none⟩ = some xc) := Lib.hid (fun wq hq => ⟨hq.cell E0 (fun h => h), hq.cell E1 (fun h => h), hq.cell E2 (fun h => h), hq.cell E3 (fun h => h), hq.cell E4 (fun h => h)⟩)
            have HAS := Lib.hid (accT_step d x es m hme)
            have HEK : Hid (eOk (es[m]'hme) = true) := Lib.hid (esOk_memE HEO.out (List.getElem_mem hme))
            clear hel E0 E1 E2 E3 E4
            generalize es[m]'hme = el at HEL HEX HAS HEK
            have HAO := Lib.hid (accT_ok d x HXO.out (es.take m))
            generalize accT d x (es.take m) = acc at HAR HAS HAO
            go_upto_region 9 with (fail)
            refine wp_region_px 11 [] (fun w' : World => Kp0 wr w') (.quiet 0 (.quiet 1 (.quiet 2 (.quiet 3 (.quiet 4 (.quiet 5 (.quiet 6 (.quiet 7 (.quiet 8 (.quiet 9 (.quiet 10 .done))))))))))) (by kernel_rfl) (by kernel_rfl) (by kernel_rfl) (by kernel_rfl) (fun _ d _ _ _ h => by cases d <;> exact h) (Kp.refl (fun _ => False) wr).drew ?_
            have HX : Hid (Kp0 wr wr.drew) := Lib.hid (Kp.refl (fun _ => False) wr).drew
            generalize wr.drew = x0 at HX ⊢
            cases hq : ((S el.nm).toList == (S x.nm).toList)
            · have HAS : Hid (accT d x (es.take (m + 1)) = acc) := Lib.hid (by rw [HAS.out, ← S_beq, hq]; rfl)
              iterate 11 (refine px_quiet (v := ?_) rfl (by rfl) (fun wq hwq => ?_) rfl ?_; rotate_left 1; (focus (obtain ⟨n0, n1, n2⟩ := HDX.out wq (HKWR.out.tr hwq); obtain ⟨x0, x1, x2, x3, x4⟩ := HEX.out wq (HKWR.out.tr hwq); go_simp; try (with_reducible rfl); done)); try simp only [List.setIfInBounds_toArray, List.set_cons_zero, List.set_cons_succ])
              refine px_done ?_
              go_wp2
              go_roundg (es.length - (m + 1))
              case measure => omega
              case rel => exact ⟨m + 1, by go_num, by omega, rfl, Lib.hid (by rw [HAS.out]; exact HAR.out.kp0 HX.out), HK3R.out.tr (HX.out.nil _)⟩
            · have HAS : Hid (accT d x (es.take (m + 1)) = bothT acc (oneT d x el)) := Lib.hid (by rw [HAS.out, ← S_beq, hq]; rfl)
              iterate 11 (refine px_quiet (v := ?_) rfl (by rfl) (fun wq hwq => ?_) rfl ?_; rotate_left 1; (focus (obtain ⟨n0, n1, n2⟩ := HDX.out wq (HKWR.out.tr hwq); obtain ⟨x0, x1, x2, x3, x4⟩ := HEX.out wq (HKWR.out.tr hwq); go_simp; try (with_reducible rfl); done)); try simp only [List.setIfInBounds_toArray, List.set_cons_zero, List.set_cons_succ])
              refine px_done ?_
              clear hq
              go_upto_region 10 with (fail)
              have HAR := Lib.hid (HAR.out.kp0 HX.out)
              have HK3R := Lib.hid (HK3R.out.tr (HX.out.nil _))
              have HKWR := Lib.hid (HKWR.out.tr HX.out)
              clear HX
              obtain ⟨kvm, M0, M1, M2, hrm⟩ := HAR.out.mid HLB.out
              have HRM := Lib.hid hrm
              clear hrm
              refine wp_region_px 22 [21] (fun w' : World => Kp0 x0 w') (.quiet 0 (.quiet 1 (.quiet 2 (.quiet 3 (.quiet 4 (.quiet 5 (.quiet 6 (.quiet 7 (.quiet 8 (.quiet 9 (.quiet 10 (.quiet 11 (.quiet 12 (.quiet 13 (.quiet 14 (.quiet 15 (.quiet 16 (.quiet 17 (.eff 18 (.eff 19 (.quiet 20 (.wall 21 .done)))))))))))))))))))))) (by kernel_rfl) (by kernel_rfl) (by kernel_rfl) (by kernel_rfl) (fun _ d _ _ _ h => by cases d <;> exact h) (Kp.refl (fun _ => False) x0).drew ?_
              have HX : Hid (Kp0 x0 x0.drew) := Lib.hid (Kp.refl (fun _ => False) x0).drew
              generalize x0.drew = y0 at HX ⊢
              have hml : k < ns.length := h
              iterate 18 (refine px_quiet (v := ?_) rfl (by rfl) (fun wq hwq => ?_) rfl ?_; rotate_left 1; (focus (obtain ⟨n0, n1, n2⟩ := HDX.out wq (HKWR.out.tr hwq); obtain ⟨x0, x1, x2, x3, x4⟩ := HEX.out wq (HKWR.out.tr hwq); obtain ⟨c0, c1, c2, c3, c4, c5, c6⟩ := HDC.out wq (HKWR.out.tr hwq); have q0 := hwq.cell M0 (fun h => h); have q1 := hwq.cell M1 (fun h => h); have q2 := hwq.cell M2 (fun h => h); go_simp; try (with_reducible rfl); done)); try simp only [List.setIfInBounds_toArray, List.set_cons_zero, List.set_cons_succ])
              refine px_eff rfl (by rfl) (fun K hK => ?_)
              go_simp
              refine (HIX.out _ _ _ d el da db dc kv1 ea xc y0 (HDR.out.kp0 (HKWR.out.tr HX.out)) (HKV.out.kp0 (HKWR.out.tr HX.out)) (HEL.out.kp0 (HKWR.out.tr HX.out)) HXO.out HEK.out).mono ?_
              rintro r y1 ⟨⟨kv2, rfl, hr2⟩, hk⟩
              have HR2 := Lib.hid hr2
              have HX := Lib.hid (HX.out.tr hk)
              unfold MrkA
              simp only []
              refine hK (fun w' => Kp0 x0 w') _ _ (fun _ h => h) HX.out ?_
              clear hK K hk hr2
              try simp only [List.setIfInBounds_toArray, List.set_cons_zero, List.set_cons_succ]
              refine px_eff rfl (by rfl) (fun K hK => ?_)
              go_simp
              refine (both_any acc (oneT d x el) kvm kv2 y1 (HRM.out.kp0 HX.out) HR2.out HAO.out (oneT_ok d x el HXO.out)).mono ?_
              rw [← HAS.out]
              obtain ⟨acc2, ha2⟩ : ∃ z, z = accT d x (es.take (m + 1)) := ⟨_, rfl⟩
              rw [← ha2] at HAS ⊢
              have HA2 := Lib.hid ha2
              clear ha2
              rintro r y2 ⟨⟨kv3, rfl, hr3⟩, hk⟩
              have HSX : Hid (g7 < x0.heap.size ∧ x0.heap.size ≤ y1.heap.size) := Lib.hid ⟨HAR.out.lt, HX.out.size⟩
              have HR3 : Hid (RowM (fun i => g7 ≤ i ∧ i ≠ g7) y2 kv3 acc2.ks) := Lib.hid (hr3.mono (fun i hi _ => by have := HSX.out; omega))
              have HX := Lib.hid (HX.out.tr hk)
              unfold MrkA
              simp only []
              refine hK (fun w' => Kp0 x0 w') _ _ (fun _ h => h) HX.out ?_
              clear hK K hk hr3 M0 M1 M2
              try simp only [List.setIfInBounds_toArray, List.set_cons_zero, List.set_cons_succ]
              iterate 1 (refine px_quiet (v := ?_) rfl (by rfl) (fun wq hwq => ?_) rfl ?_; rotate_left 1; (focus (clear hwq; go_simp; try (with_reducible rfl); done)); try simp only [List.setIfInBounds_toArray, List.set_cons_zero, List.set_cons_succ])
              obtain ⟨vs, hb, hv⟩ := HAR.out.kp0 HX.out
              have hlv := mcs_len _ _ hv
              refine px_wall rfl (by rfl) (fun K hK => ?_)
              refine wp_store_part 74 (.tmp 68) (.tmp 67) rfl g7 (k * 3) _ _ (mvl acc2 kv3) rfl rfl hb infoMk (by rw [hlv, List.length_append, HLB.out, List.length_cons]; show k * 3 + 3 ≤ _; omega) HR3.out.onesM ?_
              intro y3 hA hk5
              have HARP := Lib.hid (ArrM.put hv hA hk5 (by rw [List.length_append, HLB.out, List.length_cons]; omega) HR3.out)
              have HK3R := Lib.hid ((HK3R.out.tr (HX.out.nil _)).tr hk5)
              clear hA hk5 hb hv hlv
              refine hK (fun _ => True) _ _ trivial (px_done ?_)
              clear hK K
              simp only [Act.put, List.getElem_toArray, List.getElem_cons_succ, List.getElem_cons_zero]
              go_wp2
              go_roundg (es.length - (m + 1))
              case measure => omega
              case rel => exact ⟨m + 1, by go_num, by omega, rfl, Lib.hid (by rw [← HA2.out]; have := HARP.out; rw [set_mid _ _ _ _ HLB.out] at this; exact this), HK3R.out⟩
          · have j1 : ¬ (m : Int) < (es.length : Int) := by omega
            have htk : es.take m = es := List.take_of_length_le (by omega)
            rw [htk] at HAR
            have HARN : Hid (ArrM g7 g7 wr (marksT ds (ns.take (k + 1)) es ++ List.replicate (ns.length - (k + 1)) pm0)) := Lib.hid (by
              rw [HTK.out, HMK.out, List.append_assoc]
              exact HAR.out)
            have HKRN := Lib.hid (HKR.out.tr HK3R.out)
            clear htk
            go_wp2
            go_roundg (ns.length - (k + 1))
            case measure => omega
            case rel => exact ⟨k + 1, by go_num, by omega, rfl, HARN, HKRN.out⟩
    · have i1 : ¬ (k : Int) < (ns.length : Int) := by omega
      have htk : ns.take k = ns := List.take_of_length_le (by omega)
      have hz : ns.length - k = 0 := by omega
      rw [htk, hz, List.replicate_zero, List.append_nil] at HAR
      have HRW : Hid (RowM (fun i => g7 ≤ i) wr (.slice (some ⟨g7, 0, none⟩) ns.length ns.length) (marksT ds ns es)) := Lib.hid (by
        have hr := HAR.out.row (Nat.le_refl _) (by rw [marksT_map, List.length_map]; exact HL.out)
        rw [marksT_map, List.length_map] at hr
        rw [marksT_map]
        exact hr)
      go_wp2
      go_ret
      exact ⟨⟨_, rfl, by rw [← HG.out.1]; exact HRW.out⟩, HKW.out⟩
end Go.Proofs.Ytmamcnhofgfolaa
