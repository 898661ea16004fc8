/- The reference of layer 14: Read, one element after the other. -/
import Derived.Test.YtmamcnhofgfolaaTrK
import Derived.Test.YtmamcnhofgfolaaAl
namespace Go.Proofs.Ytmamcnhofgfolaa
open Go Go.RowKit
def evl (e : PE) (a c : Value) : List Value := [.string (S e.sp), .string (S e.nm), a, .string (S e.tx), c]
def el0 : List Value := [.string .empty, .string .empty, .slice none 0 0, .string .empty, .slice none 0 0]
def df0 : List Value := [.string .empty, .int .i64 0, .int .i64 0, .slice none 0 0, .bool false, .slice none 0 0, .slice none 0 0]
def nd0 : List Value := [.string .empty, .string .empty, .slice none 0 0]
theorem asEl : AllocAs 38 el0 := by
  intro w ev op ho
  unfold execOp
  simp only [ho]
  kernel_rfl
theorem asDf : AllocAs 35 df0 := by
  intro w ev op ho
  unfold execOp
  simp only [ho]
  kernel_rfl
theorem asNd : AllocAs 40 nd0 := by
  intro w ev op ho
  unfold execOp
  simp only [ho]
  kernel_rfl
theorem infoEl {e : PE} {a c : Value} : (Try.prog.info? 38).map (·.size) = some (evl e a c).length := by
  show _ = some 5
  kernel_rfl
theorem ElR.ones {F : Nat → Prop} {w : World} {e : PE} {a c : Value} (h : ElR F w e a c) : Ones (evl e a c) := by
  intro u hu
  obtain ⟨_, _, e1, _⟩ := h.at_.shape
  obtain ⟨_, _, e2, _⟩ := h.ks.shape
  simp only [evl, List.mem_cons, List.not_mem_nil, or_false] at hu
  rcases hu with rfl | rfl | rfl | rfl | rfl
  · rfl
  · rfl
  · rw [e1]; rfl
  · rfl
  · rw [e2]; rfl
theorem DfR.ones {F : Nat → Prop} {w : World} {d : PD} {a b c : Value} (h : DfR F w d a b c) : Ones (dvl d a b c) := by
  intro u hu
  obtain ⟨_, _, e1, _⟩ := h.vs.shape
  obtain ⟨_, _, e2, _⟩ := h.ky.shape
  obtain ⟨_, _, e3, _⟩ := h.ks.shape
  simp only [dvl, List.mem_cons, List.not_mem_nil, or_false] at hu
  rcases hu with rfl | rfl | rfl | rfl | rfl | rfl | rfl
  · rfl
  · rfl
  · rfl
  · rw [e1]; rfl
  · rfl
  · rw [e2]; rfl
  · rw [e3]; rfl
def RdA (w w' : World) (r : RR (List PN)) (e : Ending) : Prop := match r with
  | .er x => e = .returned (.tuple #[.slice none 0 0, .int .i64 x])
  | .ok ns => ∃ v, e = .returned (.tuple #[v, .int .i64 0]) ∧ RowN (fun i => w.heap.size ≤ i) w' v ns
def ReadP (es : List PE) : Prop := ∀ (F G : Nat → Prop) (ds : List PD) (lv ev : Value) (w : World), RowD F w lv ds → RowE G w ev es → dsOk ds = true → esOk es = true → es.length ≤ 1000000 →
  Calls Try.prog 19 #[lv, ev] w fun e w' => RdA w w' (readT ds es) e ∧ Kp0 w w'
theorem rdAll_skip (ds : List PD) (es : List PE) (k : Nat) (hk : k < es.length) (all out : List PN) : rdAll ds (es.drop k) all out = match rdOne ds es[k] with
    | .er x => .er x
    | .ok p => match sameT p.1 all p.2 with
      | some _ => .er 15
      | none => rdAll ds (es.drop (k + 1)) (all ++ [p.2]) (if kept p.1 p.2 then out ++ [p.2] else out) := by
  rw [List.drop_eq_getElem_cons hk, rdAll]
  cases rdOne ds es[k] with
  | er x => rfl
  | ok p =>
    simp only
    cases sameT p.1 all p.2 <;> rfl
theorem rdOne_none {ds : List PD} {e : PE} (h : plc ds e.nm = none) : rdOne ds e = .er 11 := by
  obtain ⟨sp, nm, at_, tx, ks⟩ := e
  have h' : plc ds nm = none := h
  unfold rdOne
  rw [h']
theorem rdOne_some {ds : List PD} {e : PE} {i : Nat} {d : PD} (h : plc ds e.nm = some i) (hd : ds[i]? = some d) : rdOne ds e = if d.kd = 3 then rdLeaf d e.nm e.tx e.ks.isEmpty else if e.tx.isEmpty then (match readT d.ks e.ks with
        | .er x => .er x
        | .ok kids => rdKeys d e.nm kids) else .er 12 := by
  obtain ⟨sp, nm, at_, tx, ks⟩ := e
  have h' : plc ds nm = some i := h
  unfold rdOne
  simp only [h', hd]
  rfl
theorem rdKeys_pos {d : PD} {nm : List UInt8} {kids : List PN} {x : Nat} (h : rdKeys d nm kids = .er x) : 0 < x := by
  unfold rdKeys at h
  split at h
  · cases h; decide
  · cases h
theorem rdLeaf_pos {d : PD} {nm tx : List UInt8} {b : Bool} {x : Nat} (h : rdLeaf d nm tx b = .er x) : 0 < x := by
  unfold rdLeaf at h
  split at h
  · cases h
  · cases h; decide
mutual
theorem rdOne_pos : ∀ (e : PE) (ds : List PD) (x : Nat), rdOne ds e = .er x → 0 < x
  | .mk sp nm at_ tx ks, ds, x, h => by
    unfold rdOne at h
    split at h
    · cases h; decide
    · split at h
      · cases h; decide
      · split at h
        · exact rdLeaf_pos h
        · split at h
          · split at h
            · rename_i y hy
              cases h
              exact rdAll_pos ks _ [] [] _ hy
            · exact rdKeys_pos h
          · cases h; decide
theorem rdAll_pos : ∀ (es : List PE) (ds : List PD) (all out : List PN) (x : Nat), rdAll ds es all out = .er x → 0 < x
  | [], ds, all, out, x, h => by
    unfold rdAll rdFin at h
    split at h
    · cases h; decide
    · cases h
  | e :: es, ds, all, out, x, h => by
    unfold rdAll at h
    split at h
    · rename_i y hy
      cases h
      exact rdOne_pos e ds _ hy
    · split at h
      · cases h; decide
      · exact rdAll_pos es ds _ _ x h
end
theorem readT_pos (ds : List PD) (es : List PE) (x : Nat) (h : readT ds es = .er x) : 0 < x := rdAll_pos es ds [] [] x h
set_option maxRecDepth 20000 in
set_option maxHeartbeats 4000000 in
theorem read_step (es : List PE) (ih : ∀ x ∈ es, ReadP x.ks) : ReadP es := by
  intro F G ds lv ev w hd he hok hek hel
  have HD := Lib.hid hd
  have HE := Lib.hid he
  have HOK := Lib.hid hok
  have HEK := Lib.hid hek
  have HEL := Lib.hid hel
  have HIH0 := Lib.hid ih
  obtain ⟨lo, lc, rfl, _, _, _⟩ := hd.shape
  obtain ⟨eo, ec, rfl, _, _, _⟩ := he.shape
  clear hd he hok hek hel ih
  go_enter Try.func19, Try.ntmps19
  go_wp2
  go_loopg [6, 7, 8] es.length (fun gg o al i wr => ∃ (k : Nat) (out all : List PN), i = .int .i64 k ∧ k ≤ es.length ∧ gg = es.length - k ∧ Hid (readT ds es = rdAll ds (es.drop k) all out) ∧ Hid (AccF w.heap.size wr o al out all) ∧ Hid (out.length ≤ k ∧ all.length ≤ k) ∧ Kp0 w wr)
  case atStart => exact ⟨0, [], [], rfl, Nat.zero_le _, rfl, Lib.hid rfl, Lib.hid (AccF.nil _ _), Lib.hid ⟨Nat.zero_le _, Nat.zero_le _⟩, Kp.refl _ _⟩
  case round =>
    obtain ⟨k, out, all, rfl, hk, rfl, HF, HA, HLN, hkp⟩ := hrel
    have HK := Lib.hid hkp
    have HKR := Lib.hid hkp.size
    clear hkp
    by_cases h : k < es.length
    · have i1 : (k : Int) < (es.length : Int) := by omega
      obtain ⟨b1, o1, cap1, ea, ec2, e1, _, _, D0, D1, D2, D3, D4, hel, _, _⟩ := HE.out.at k h
      simp only [Value.slice.injEq] at e1
      obtain ⟨rfl, _, rfl⟩ := e1
      have d0 := HK.out.cell D0 (fun h => h)
      have d1 := HK.out.cell D1 (fun h => h)
      have d2 := HK.out.cell D2 (fun h => h)
      have d3 := HK.out.cell D3 (fun h => h)
      have d4 := HK.out.cell D4 (fun h => h)
      have HEL1 := Lib.hid (hel.kp0 HK.out)
      have HIH := Lib.hid (HIH0.out _ (List.getElem_mem h))
      have HEO := Lib.hid (esOk_mem HEK.out (List.getElem_mem h))
      have HST : Hid (readT ds es = match rdOne ds (es[k]'h) with
        | .er x => .er x
        | .ok p => match sameT p.1 all p.2 with
          | some _ => .er 15
          | none => rdAll ds (es.drop (k + 1)) (all ++ [p.2]) (if kept p.1 p.2 then out ++ [p.2] else out)) := Lib.hid (by rw [HF.out]; exact rdAll_skip ds es k h all out)
      clear D0 D1 D2 D3 D4 hel HF
      generalize es[k]'h = el at d0 d1 d2 d3 d4 HEL1 HIH HEO HST
      go_upto_region 6 with (first
        | (refine wl_alloc_as asEl rfl rfl ?_
           intro w2 g9 hw hg
           have HB2 : Hid (Blk w2 g9 38 el0) := Lib.hid (by rw [hw, hg]; exact blk0 _ _ _)
           have HK2 : Hid (Kp0 wr w2) := Lib.hid (by rw [hw]; exact (Kp.refl _ _).alloc _)
           have HG9 : Hid (wr.heap.size ≤ g9 ∧ g9 < w2.heap.size) := Lib.hid (by rw [hw, hg]; simp)
           clear hw hg)
        | (refine wl_store_blk rfl 38 (.tmp 9) (.tmp 26) rfl g9 _ el0 (evl el ea ec2) rfl rfl HB2.out infoEl rfl HEL1.out.ones ?_
           intro w3 hA hk3
           have HB3 := Lib.hid hA
           have HK3 := Lib.hid hk3
           clear hA hk3))
      simp only [Act.put]
      try simp only [List.setIfInBounds_toArray, List.set_cons_zero, List.set_cons_succ]
      have HKB : Hid (Kp0 wr w3) := Lib.hid (HK2.out.trans HK3.out (fun _ _ h => h) (fun i hi e => by have := HG9.out.1; omega))
      have HKX := HKB
      have HGB : Hid (wr.heap.size ≤ g9) := Lib.hid HG9.out.1
      have HK := Lib.hid (HK.out.tr HKB.out)
      have HEL1 := Lib.hid (HEL1.out.kp0 HKB.out)
      have HGW : Hid (w.heap.size ≤ g9 ∧ g9 < w3.heap.size) := Lib.hid (by have := HG9.out; have := HK3.out.size; have := (HK.out.size); have := HB3.out.lt; have h1 : w.heap.size ≤ wr.heap.size := HKR.out; omega)
      clear HK2 HK3 HG9 HB2 HKB d0 d1 d2 d3 d4
      have c1 := HB3.out.cellV 1 (v := .string (S el.nm)) rfl
      go_upto_region 7 with (go_at_call 28; refine (place_any ds _ el.nm _ (HD.out.kp0 HK.out)).mono ?_; rintro e w4 ⟨rfl, hk4⟩; have HK4 := Lib.hid hk4; clear hk4)
      have HK := Lib.hid (HK.out.tr HK4.out)
      have HKX := Lib.hid (HKX.out.tr HK4.out)
      have HEL1 := Lib.hid (HEL1.out.kp0 HK4.out)
      have HB3 := Lib.hid (HB3.out.kp0 HK4.out)
      have HGW : Hid (w.heap.size ≤ g9 ∧ g9 < w4.heap.size) := Lib.hid ⟨HGW.out.1, Nat.lt_of_lt_of_le HGW.out.2 HK4.out.size⟩
      clear HK4 c1
      obtain ⟨pl, hpl⟩ : ∃ p, p = plc ds el.nm := ⟨_, rfl⟩
      rw [← hpl]
      cases pl with
      | none =>
        have HR : Hid (readT ds es = .er 11) := Lib.hid (by rw [HST.out, rdOne_none hpl.symm])
        have f1 : plI none < 0 := by decide
        clear hpl
        go_wp2
        go_ret2
        refine ⟨?_, HK.out⟩
        rw [HR.out]
        exact rfl
      | some pi =>
        have hpi := plc_lt hpl.symm
        have f1 : ¬ plI (some pi) < 0 := by rw [plI_neg]; simp
        have f2 : plI (some pi) = (pi : Int) := rfl
        have i2 : (pi : Int) < (ds.length : Int) := by omega
        obtain ⟨b2, o2, cap2, da, db, dc, e2, _, _, D0, D1, D2, D3, D4, D5, D6, hdr, _, _⟩ := HD.out.at pi hpi
        simp only [Value.slice.injEq] at e2
        obtain ⟨rfl, _, rfl⟩ := e2
        have HDW := Lib.hid (fun wq (hq : Kp0 w wq) => hdr.kp0 hq)
        have HDO := Lib.hid (dsOk_mem HOK.out (List.getElem_mem hpi))
        have HR1 := Lib.hid (rdOne_some hpl.symm (List.getElem?_eq_getElem hpi))
        have d0 := HK.out.cell D0 (fun h => h)
        have d1 := HK.out.cell D1 (fun h => h)
        have d2 := HK.out.cell D2 (fun h => h)
        have d3 := HK.out.cell D3 (fun h => h)
        have d4 := HK.out.cell D4 (fun h => h)
        have d5 := HK.out.cell D5 (fun h => h)
        have d6 := HK.out.cell D6 (fun h => h)
        have HDR := Lib.hid (hdr.kp0 HK.out)
        rw [f2] at f1 ⊢
        clear D0 D1 D2 D3 D4 D5 D6 hdr hpl f2
        generalize ds[pi]'hpi = d at d0 d1 d2 d3 d4 d5 d6 HDR HDO HR1 HDW
        have T0 : Hid True := Lib.hid trivial
        have c1 := HB3.out.cellV 1 (v := .string (S el.nm)) rfl
        go_upto_region 11 with (first
          | (clear T0
             refine wl_alloc_as asDf rfl rfl ?_
             intro w5 g11 hw hg
             have HB5 : Hid (Blk w5 g11 35 df0) := Lib.hid (by rw [hw, hg]; exact blk0 _ _ _)
             have HK5 : Hid (Kp0 w4 w5) := Lib.hid (by rw [hw]; exact (Kp.refl _ _).alloc _)
             have HG11 : Hid (w4.heap.size ≤ g11 ∧ g11 < w5.heap.size) := Lib.hid (by rw [hw, hg]; simp)
             clear hw hg)
          | (refine wl_store_blk rfl 35 (.tmp 11) (.tmp 36) rfl g11 _ df0 (dvl d da db dc) rfl rfl HB5.out infoDf rfl HDR.out.ones ?_
             intro w6 hA hk6
             have HB6 := Lib.hid hA
             have HK6 : Hid (Kp0 w4 w6) := Lib.hid (HK5.out.trans hk6 (fun _ _ h => h) (fun i hi e => by have := HG11.out.1; omega))
             have HG11 : Hid (w4.heap.size ≤ g11 ∧ g11 < w6.heap.size) := Lib.hid ⟨HG11.out.1, hA.lt⟩
             have c1 := (HB3.out.kp0 HK6.out).cellV 1 (v := .string (S el.nm)) rfl
             clear hA hk6 HK5 HB5)
          | (refine wl_alloc_as asNd rfl rfl ?_
             intro w7 g12 hw hg
             have HB7 : Hid (Blk w7 g12 40 nd0) := Lib.hid (by rw [hw, hg]; exact blk0 _ _ _)
             have HK7 : Hid (Kp0 w6 w7) := Lib.hid (by rw [hw]; exact (Kp.refl _ _).alloc _)
             have HG12 : Hid (w6.heap.size ≤ g12 ∧ g12 < w7.heap.size) := Lib.hid (by rw [hw, hg]; simp)
             clear hw hg)
          | (refine wl_store_blk rfl 40 (.tmp 12) (.tmp 39) rfl g12 _ nd0 (nvl (.mk el.nm [] []) (.slice none 0 0)) rfl rfl HB7.out infoNd rfl (by intro u hu; simp only [nvl, List.mem_cons, List.not_mem_nil, or_false] at hu; rcases hu with rfl | rfl | rfl <;> rfl) ?_
             intro w8 hA hk8
             have HB8 := Lib.hid hA
             have HK8 : Hid (Kp0 w6 w8) := Lib.hid (HK7.out.trans hk8 (fun _ _ h => h) (fun i hi e => by have := HG12.out.1; omega))
             have HG12 : Hid (w6.heap.size ≤ g12 ∧ g12 < w8.heap.size) := Lib.hid ⟨HG12.out.1, hA.lt⟩
             clear hA hk8 HK7 HB7))
        simp only [Act.put]
        try simp only [List.setIfInBounds_toArray, List.set_cons_zero, List.set_cons_succ]
        have HK48 := Lib.hid (HK6.out.tr HK8.out)
        have HK := Lib.hid (HK.out.tr HK48.out)
        have HKX := Lib.hid (HKX.out.tr HK48.out)
        have HEL1 := Lib.hid (HEL1.out.kp0 HK48.out)
        have HDR := Lib.hid (HDR.out.kp0 HK48.out)
        have HBE := Lib.hid (HB3.out.kp0 HK48.out)
        have HBD := Lib.hid (HB6.out.kp0 HK8.out)
        have HGG : Hid (g9 < g11 ∧ g11 < g12 ∧ g12 < w8.heap.size) := Lib.hid (by have := HGW.out; have := HG11.out; have := HG12.out; omega)
        clear HB3 HB6 HK6 HK8 HK48 HG11 HG12 d0 d1 d2 d3 d4 d5 d6 c1
        have k0 := HBD.out.cellV 0 (v := .string (S d.nm)) rfl
        have k1 := HBD.out.cellV 1 (v := .int .i64 d.kd) rfl
        have k2 := HBD.out.cellV 2 (v := .int .i64 d.ty) rfl
        have k3 := HBD.out.cellV 3 (v := da) rfl
        have k4 := HBD.out.cellV 4 (v := .bool d.mu) rfl
        have k5 := HBD.out.cellV 5 (v := db) rfl
        have k6 := HBD.out.cellV 6 (v := dc) rfl
        have e3 := HBE.out.cellV 3 (v := .string (S el.tx)) rfl
        have e4 := HBE.out.cellV 4 (v := ec2) rfl
        obtain ⟨ko, kcp, hsh, _, _, _⟩ := HEL1.out.ks.shape
        obtain ⟨nk, hnk⟩ : ∃ x, x = el.ks.length := ⟨_, rfl⟩
        rw [← hnk] at hsh
        subst hsh
        have HNK0 := Lib.hid hnk
        clear hnk
        by_cases h3 : d.kd = 3
        · have HR1 : Hid (rdOne ds el = rdLeaf d el.nm el.tx el.ks.isEmpty) := Lib.hid (by rw [HR1.out, if_pos h3])
          have f3 : (d.kd == 3) = true := by rw [beq_iff_eq]; exact h3
          cases hke : el.ks.isEmpty with
          | false =>
            have HR : Hid (readT ds es = .er 12) := Lib.hid (by rw [HST.out, HR1.out, hke]; rfl)
            have f4 : (0 : Int) < (nk : Int) := by
              have : el.ks ≠ [] := fun e => by rw [e] at hke; cases hke
              have := List.length_pos_iff.2 this
              have := HNK0.out
              omega
            clear hke h3
            go_wp2
            go_ret2
            refine ⟨?_, HK.out⟩
            rw [HR.out]
            exact rfl
          | true =>
            have f4 : ¬ (0 : Int) < (nk : Int) := by rw [HNK0.out, List.isEmpty_iff.1 hke]; decide
            cases hv : valT d.ty d.vs el.tx with
            | false =>
              have HR : Hid (readT ds es = .er 12) := Lib.hid (by rw [HST.out, HR1.out, hke, rdLeaf, hv]; rfl)
              clear hke h3
              go_wp2_with (go_at_call 29; refine (value_any d da db dc el.tx _ HDR.out).mono ?_; rw [hv]; rintro e wv ⟨rfl, hkv⟩; have HKV := Lib.hid (HK.out.tr hkv); clear hkv)
              go_ret2
              refine ⟨?_, HKV.out⟩
              rw [HR.out]
              exact rfl
            | true =>
              have HR1 : Hid (rdOne ds el = .ok (d, .mk el.nm el.tx [])) := Lib.hid (by rw [HR1.out, hke, rdLeaf, hv]; rfl)
              clear hke h3
              have HBN := HB8
              have HCE := Lib.hid (fun wq (hq : Kp0 w8 wq) => (HBE.out.kp0 hq).cellV 3 (v := .string (S el.tx)) rfl)
              go_upto_region 24 with (go_at_call 29; refine (value_any d da db dc el.tx _ HDR.out).mono ?_; rw [hv]; rintro e wv ⟨rfl, hkv⟩; have HKV := Lib.hid hkv; have q1 := (HBN.out.kp0 hkv).cellV 1 (v := .string (S [])) rfl; have z1 := blk_frozen (HBN.out.kp0 hkv) 1; have q3 := HCE.out _ hkv; clear hkv)
              have HK := Lib.hid ((HK.out.tr HKV.out).at (b := g12) (i := 1) (by have := HGG.out; have := HGW.out; omega) (.string (S el.tx)))
              have HKX := Lib.hid ((HKX.out.tr HKV.out).at (b := g12) (i := 1) (by have := HGG.out; have := HGB.out; omega) (.string (S el.tx)))
              have HDR : Hid (DfR F (wv.setCell ⟨g12, 1, none⟩ (.string (S el.tx))) d da db dc) := Lib.hid (HDW.out _ HK.out)
              have HBD : Hid (Blk (wv.setCell ⟨g12, 1, none⟩ (.string (S el.tx))) g11 35 (dvl d da db dc)) := Lib.hid ((HBD.out.kp0 HKV.out).keep ((Kp.refl (fun b => b = g12) _).setCell (p := ⟨g12, 1, none⟩) (fun _ => rfl) _) (by have := HGG.out; omega))
              have HBN : Hid (Blk (wv.setCell ⟨g12, 1, none⟩ (.string (S el.tx))) g12 40 (nvl (.mk el.nm el.tx []) (.slice none 0 0))) := Lib.hid ((HBN.out.kp0 HKV.out).set' 1 _)
              generalize wv.setCell ⟨g12, 1, none⟩ (.string (S el.tx)) = wt at HK HKX HDR HBD HBN ⊢
              have HNK : Hid (RowN (fun i => wr.heap.size ≤ i) wt (.slice none 0 0) (PN.mk el.nm el.tx []).ks) := Lib.hid (RowN.nil _ _)
              obtain ⟨n, hn⟩ : ∃ n, n = PN.mk el.nm el.tx [] := ⟨_, rfl⟩
              obtain ⟨kv, hkv⟩ : ∃ v : Value, v = .slice none 0 0 := ⟨_, rfl⟩
              rw [← hn] at HBN HNK HR1
              rw [← hkv] at HBN HNK
              clear hn hkv HEL1 HBE HKV e3 e4 q1 q3 z1 k0 k1 k2 k3 k4 k5 k6
              have HAT := Lib.hid (HA.out.kp0 HKX.out)
              have n0 := HBN.out.cellV 0 (v := .string (S n.nm)) rfl
              have n1 := HBN.out.cellV 1 (v := .string (S n.vl)) rfl
              have n2 := HBN.out.cellV 2 (v := kv) rfl
              have k0 := HBD.out.cellV 0 (v := .string (S d.nm)) rfl
              have k1 := HBD.out.cellV 1 (v := .int .i64 d.kd) rfl
              have k2 := HBD.out.cellV 2 (v := .int .i64 d.ty) rfl
              have k3 := HBD.out.cellV 3 (v := da) rfl
              have k4 := HBD.out.cellV 4 (v := .bool d.mu) rfl
              have k5 := HBD.out.cellV 5 (v := db) rfl
              have k6 := HBD.out.cellV 6 (v := dc) rfl
              have HAR := Lib.hid HAT.out.swap.row1
              cases hs : sameT d all n with
              | some j =>
                have HR : Hid (readT ds es = .er 15) := Lib.hid (by rw [HST.out, HR1.out]; simp only [hs])
                have f1 : (0 : Int) ≤ plI (some j) := by simp only [plI]; omega
                go_wp2_with (go_at_call 31; refine (same_any d all n da db dc _ kv _ HDR.out HAR.out HNK.out HDO.out.1).mono ?_; rw [hs]; rintro e wy ⟨rfl, hky⟩; have HKY := Lib.hid (HK.out.tr hky); clear hky)
                go_ret2
                refine ⟨?_, HKY.out⟩
                rw [HR.out]
                exact rfl
              | none =>
                have HR : Hid (readT ds es = rdAll ds (es.drop (k + 1)) (all ++ [n]) (if kept d n then out ++ [n] else out)) := Lib.hid (by rw [HST.out, HR1.out]; simp only [hs])
                have f1 : ¬ (0 : Int) ≤ plI none := by decide
                go_upto_region 26 with (go_at_call 31; refine (same_any d all n da db dc _ kv _ HDR.out HAR.out HNK.out HDO.out.1).mono ?_; rw [hs]; rintro e wy ⟨rfl, hky⟩; have HKY := Lib.hid hky; clear hky)
                have HK := Lib.hid (HK.out.tr HKY.out)
                have HKX := Lib.hid (HKX.out.tr HKY.out)
                have HNK := Lib.hid (HNK.out.kp0 HKY.out)
                have HBN := Lib.hid (HBN.out.kp0 HKY.out)
                have HBD := Lib.hid (HBD.out.kp0 HKY.out)
                have HAL := Lib.hid HA.out.lt
                have hat := HAT.out.swap.kp0 HKY.out
                obtain ⟨us, vs, hq1, hq2, hq3, hq4, hq5⟩ := hat
                obtain ⟨kno, knc, hsh, _, _, _⟩ := HNK.out.shape
                obtain ⟨m, hm⟩ : ∃ m, m = n.ks.length := ⟨_, rfl⟩
                rw [← hm] at hsh
                subst hsh
                have HM := Lib.hid hm
                have n0 := HBN.out.cellV 0 (v := .string (S n.nm)) rfl
                have n1 := HBN.out.cellV 1 (v := .string (S n.vl)) rfl
                have n2 := HBN.out.cellV 2 (v := .slice kno m knc) rfl
                have HQ1 : Hid (∀ o, (wy.alloc o).ownsRow w.heap.size 40 3 u7 all.length (ncs all us)) := Lib.hid (fun o => own_keepB hq1 ((Kp.refl (fun _ => False) _).alloc o) (fun _ _ h => h))
                have HQ2 : Hid (∀ o, (wy.alloc o).ownsRow w.heap.size 40 3 u6 out.length (ncs out vs)) := Lib.hid (fun o => own_keepB hq2 ((Kp.refl (fun _ => False) _).alloc o) (fun _ _ h => h))
                have HQ3 : Hid (∀ o, NdsV (fun i => w.heap.size ≤ i ∧ u7.ownBlock ≠ some i ∧ u6.ownBlock ≠ some i) (wy.alloc o) all us) := Lib.hid (fun o => NdsV.keep ((Kp.refl (fun _ => False) _).alloc o) (fun _ _ _ h => h) (fun _ h _ => h) _ _ hq3)
                have HQ4 : Hid (∀ o, NdsV (fun i => w.heap.size ≤ i ∧ u7.ownBlock ≠ some i ∧ u6.ownBlock ≠ some i) (wy.alloc o) out vs) := Lib.hid (fun o => NdsV.keep ((Kp.refl (fun _ => False) _).alloc o) (fun _ _ _ h => h) (fun _ h _ => h) _ _ hq4)
                have HQ5 := Lib.hid hq5
                have HMD := Lib.hid (RdF.made (T := 40) (k := 3) (cs := nvl n (.slice kno m knc)) wy rfl)
                have HON : Hid (∀ u ∈ nvl n (.slice kno m knc), u.oneCell' = true) := Lib.hid (by
                  intro u hu
                  simp only [nvl, List.mem_cons, List.not_mem_nil, or_false] at hu
                  rcases hu with rfl | rfl | rfl <;> rfl)
                have HSZ : Hid (w.heap.size ≤ wy.heap.size ∧ wr.heap.size ≤ wy.heap.size) := Lib.hid ⟨HK.out.size, HKX.out.size⟩
                have HLA : Hid (all.length ≤ 1000000 ∧ out.length ≤ 1000000) := Lib.hid (by have := HLN.out; have := HEL.out; omega)
                clear hq1 hq2 hq3 hq4 hq5 hm k0 k1 k2 k3 k4 k5 k6
                go_upto_region 27 with (at_builtin
                                        refine wl_append_rk rfl (.tmp 86) (.tmp 88) 24 rfl Try.underlying24 infoN rfl (by decide) rfl (HQ1.out _) rfl HMD.out HON.out (by have := HLA.out; unfold maxLen; omega) (by have := HLA.out; omega) (by have := HSZ.out; simp; omega) ?_
                                        intro u7b wz ho hkz hbz
                                        have HZ := Lib.hid (AccF.more (HQ1.out _) (HQ2.out _) (HQ3.out _) (HQ4.out _) HQ5.out (HNK.out.kp0 ((Kp.refl _ _).alloc _)) (fun i hi _ => ⟨Nat.le_trans HKR.out hi, fun e => by have := (HAL.out.2 i e).2; omega, fun e => by have := (HAL.out.1 i e).2; omega⟩) hkz hbz ho)
                                        have HKZ : Hid (Kp (fun b => u7.ownBlock = some b) wy wz) := Lib.hid (((Kp.refl _ _).alloc _).tr hkz)
                                        clear ho hkz hbz)
                try simp only [Act.put]
                try simp only [List.setIfInBounds_toArray, List.set_cons_zero, List.set_cons_succ]
                have HKW : Hid (Kp0 w wz) := Lib.hid (HK.out.trans HKZ.out (fun _ _ h => h) (fun i hi e => by have := (HAL.out.2 i e).1; omega))
                have HBD := Lib.hid (HBD.out.keep HKZ.out (fun e => by have := (HAL.out.2 _ e).2; have := HGB.out; have := HGG.out; omega))
                have HBN := Lib.hid (HBN.out.keep HKZ.out (fun e => by have := (HAL.out.2 _ e).2; have := HGB.out; have := HGG.out; omega))
                have HSZ : Hid (w.heap.size ≤ wz.heap.size ∧ wr.heap.size ≤ wz.heap.size) := Lib.hid (by have := HSZ.out; have := HKZ.out.size; omega)
                have hz := HZ.out.1.swap
                have HAF := HZ
                obtain ⟨vs2, us2, hq1, hq2, hq3, hq4, hq5⟩ := hz
                have HP1 : Hid (∀ o, (wz.alloc o).ownsRow w.heap.size 40 3 u6 out.length (ncs out vs2)) := Lib.hid (fun o => own_keepB hq1 ((Kp.refl (fun _ => False) _).alloc o) (fun _ _ h => h))
                have HP2 : Hid (∀ o, (wz.alloc o).ownsRow w.heap.size 40 3 u7b (all ++ [n]).length (ncs (all ++ [n]) us2)) := Lib.hid (fun o => own_keepB hq2 ((Kp.refl (fun _ => False) _).alloc o) (fun _ _ h => h))
                have HP3 : Hid (∀ o, NdsV (fun i => w.heap.size ≤ i ∧ u6.ownBlock ≠ some i ∧ u7b.ownBlock ≠ some i) (wz.alloc o) out vs2) := Lib.hid (fun o => NdsV.keep ((Kp.refl (fun _ => False) _).alloc o) (fun _ _ _ h => h) (fun _ h _ => h) _ _ hq3)
                have HP4 : Hid (∀ o, NdsV (fun i => w.heap.size ≤ i ∧ u6.ownBlock ≠ some i ∧ u7b.ownBlock ≠ some i) (wz.alloc o) (all ++ [n]) us2) := Lib.hid (fun o => NdsV.keep ((Kp.refl (fun _ => False) _).alloc o) (fun _ _ _ h => h) (fun _ h _ => h) _ _ hq4)
                have HP5 := Lib.hid hq5
                have HNK := Lib.hid HAF.out.2
                have HMD := Lib.hid (RdF.made (T := 40) (k := 3) (cs := nvl n (.slice kno m knc)) wz rfl)
                have HL1 : Hid ((all ++ [n]).length ≤ k + 1) := Lib.hid (by rw [List.length_append]; have := HLN.out; simp; omega)
                clear hq1 hq2 hq3 hq4 hq5
                have n0 := HBN.out.cellV 0 (v := .string (S n.nm)) rfl
                have n1 := HBN.out.cellV 1 (v := .string (S n.vl)) rfl
                have n2 := HBN.out.cellV 2 (v := .slice kno m knc) rfl
                have k1 := HBD.out.cellV 1 (v := .int .i64 d.kd) rfl
                cases q1 : (d.kd == 1) with
                | false =>
                  have HKP : Hid (kept d n = true) := Lib.hid (by unfold kept; rw [q1]; rfl)
                  have q3 : (d.kd != 1) = true := by rw [bne, q1]; rfl
                  clear q1
                  go_wp2_with (at_builtin
                               refine wl_append_rk rfl (.tmp 99) (.tmp 101) 24 rfl Try.underlying24 infoN rfl (by decide) rfl (HP1.out _) rfl HMD.out HON.out (by have := HLA.out; unfold maxLen; omega) (by have := HLA.out; omega) (by have := HSZ.out; simp; omega) ?_
                               intro u6b wx ho hkx hbx
                               have HZ2 := Lib.hid (AccF.more (HP1.out _) (HP2.out _) (HP3.out _) (HP4.out _) HP5.out (HNK.out.kp0 ((Kp.refl _ _).alloc _)) (fun i hi _ => ⟨hi.1, hi.2.2, hi.2.1⟩) hkx hbx ho)
                               have HKX2 : Hid (Kp0 w wx) := Lib.hid ((HKW.out.alloc _).trans hkx (fun _ _ h => h) (fun i hi e => by have := (HAL.out.1 i e).1; omega))
                               clear ho hkx hbx)
                  go_roundg (es.length - (k + 1))
                  case measure => omega
                  case rel => exact ⟨k + 1, out ++ [n], all ++ [n], by go_num, by omega, rfl, Lib.hid (by rw [HR.out, HKP.out]; rfl), Lib.hid HZ2.out.1, Lib.hid ⟨by rw [List.length_append]; have := HLN.out; simp; omega, HL1.out⟩, HKX2.out⟩
                | true =>
                  have q3 : (d.kd != 1) = false := by rw [bne, q1]; rfl
                  have Q1 := Lib.hid q1
                  clear q1
                  by_cases q2 : 0 < m
                  · have f5 : (0 : Int) < (m : Int) := by omega
                    have HKP : Hid (kept d n = true) := Lib.hid (by
                      unfold kept
                      rw [Q1.out]
                      cases hks : n.ks with
                      | nil => have := HM.out; rw [hks] at this; simp at this; omega
                      | cons x l => rfl)
                    clear q2
                    go_wp2_with (at_builtin
                                 refine wl_append_rk rfl (.tmp 99) (.tmp 101) 24 rfl Try.underlying24 infoN rfl (by decide) rfl (HP1.out _) rfl HMD.out HON.out (by have := HLA.out; unfold maxLen; omega) (by have := HLA.out; omega) (by have := HSZ.out; simp; omega) ?_
                                 intro u6b wx ho hkx hbx
                                 have HZ2 := Lib.hid (AccF.more (HP1.out _) (HP2.out _) (HP3.out _) (HP4.out _) HP5.out (HNK.out.kp0 ((Kp.refl _ _).alloc _)) (fun i hi _ => ⟨hi.1, hi.2.2, hi.2.1⟩) hkx hbx ho)
                                 have HKX2 : Hid (Kp0 w wx) := Lib.hid ((HKW.out.alloc _).trans hkx (fun _ _ h => h) (fun i hi e => by have := (HAL.out.1 i e).1; omega))
                                 clear ho hkx hbx)
                    go_roundg (es.length - (k + 1))
                    case measure => omega
                    case rel => exact ⟨k + 1, out ++ [n], all ++ [n], by go_num, by omega, rfl, Lib.hid (by rw [HR.out, HKP.out]; rfl), Lib.hid HZ2.out.1, Lib.hid ⟨by rw [List.length_append]; have := HLN.out; simp; omega, HL1.out⟩, HKX2.out⟩
                  · have f5 : ¬ (0 : Int) < (m : Int) := by omega
                    have HKP : Hid (kept d n = false) := Lib.hid (by
                      unfold kept
                      rw [Q1.out]
                      cases hks : n.ks with
                      | nil => rfl
                      | cons x l => have := HM.out; rw [hks] at this; simp at this; omega)
                    clear q2
                    go_wp2
                    go_roundg (es.length - (k + 1))
                    case measure => omega
                    case rel => exact ⟨k + 1, out, all ++ [n], by go_num, by omega, rfl, Lib.hid (by rw [HR.out, HKP.out]; rfl), Lib.hid HAF.out.1.swap, Lib.hid ⟨by have := HLN.out; omega, HL1.out⟩, HKW.out⟩
        · have HR1 : Hid (rdOne ds el = if el.tx.isEmpty then (match readT d.ks el.ks with
            | .er x => .er x
            | .ok kids => rdKeys d el.nm kids) else .er 12) := Lib.hid (by rw [HR1.out, if_neg h3])
          have f3 : (d.kd == 3) = false := by rw [beq_eq_false_iff_ne]; exact h3
          clear h3
          cases hte : el.tx.isEmpty with
          | false =>
            have HR : Hid (readT ds es = .er 12) := Lib.hid (by rw [HST.out, HR1.out, hte]; rfl)
            have f4 : ((S el.tx).toList == []) = false := by
              rw [S_toList]
              cases htx : el.tx with
              | nil => rw [htx] at hte; cases hte
              | cons a l => rfl
            clear hte
            go_wp2
            go_ret2
            refine ⟨?_, HK.out⟩
            rw [HR.out]
            exact rfl
          | true =>
            have f4 : ((S el.tx).toList == []) = true := by rw [S_toList, List.isEmpty_iff.1 hte]; rfl
            have HR1 : Hid (rdOne ds el = match readT d.ks el.ks with
              | .er x => .er x
              | .ok kids => rdKeys d el.nm kids) := Lib.hid (by rw [HR1.out, hte]; rfl)
            clear hte
            cases hrt : readT d.ks el.ks with
            | er x =>
              have HR : Hid (readT ds es = .er x) := Lib.hid (by rw [HST.out, HR1.out, hrt])
              have hx0 := readT_pos d.ks el.ks x hrt
              have f5 : ((x : Int) != 0) = true := by rw [bne_iff_ne]; omega
              go_wp2_with (go_at_call 19; refine (HIH.out F G d.ks dc _ _ HDR.out.ks HEL1.out.ks HDO.out.2 HEO.out.2 HEO.out.1).mono ?_; rw [hrt]; rintro e wv ⟨hra, hkv⟩; obtain rfl := hra; have HKV := Lib.hid (HK.out.tr hkv); clear hkv)
              go_ret2
              refine ⟨?_, HKV.out⟩
              rw [HR.out]
              exact rfl
            | ok kids =>
              have HR1 : Hid (rdOne ds el = rdKeys d el.nm kids) := Lib.hid (by rw [HR1.out, hrt])
              have HBN := HB8
              go_upto_region 21 with (go_at_call 19; refine (HIH.out F G d.ks dc _ _ HDR.out.ks HEL1.out.ks HDO.out.2 HEO.out.2 HEO.out.1).mono ?_; rw [hrt]; rintro e wv ⟨hra, hkv⟩; obtain ⟨kv, rfl, hkr⟩ := hra; have HKV := Lib.hid hkv; have HKR2 := Lib.hid hkr; have q1 := (HBN.out.kp0 hkv).cellV 2 (v := .slice none 0 0) rfl; have z1 := blk_frozen (HBN.out.kp0 hkv) 2; obtain ⟨kao, kcc, rfl, _, _, _⟩ := hkr.shape; clear hkv hkr)
              have HK := Lib.hid ((HK.out.tr HKV.out).at (b := g12) (i := 2) (by have := HGG.out; have := HGW.out; omega) (.slice kao kids.length kcc))
              have HKX := Lib.hid ((HKX.out.tr HKV.out).at (b := g12) (i := 2) (by have := HGG.out; have := HGB.out; omega) (.slice kao kids.length kcc))
              have kk : Kp (fun b => b = g12) wv (wv.setCell ⟨g12, 2, none⟩ (.slice kao kids.length kcc)) := (Kp.refl (fun b => b = g12) _).setCell (p := ⟨g12, 2, none⟩) (fun _ => rfl) _
              have HDR : Hid (DfR F (wv.setCell ⟨g12, 2, none⟩ (.slice kao kids.length kcc)) d da db dc) := Lib.hid (HDW.out _ HK.out)
              have HBD : Hid (Blk (wv.setCell ⟨g12, 2, none⟩ (.slice kao kids.length kcc)) g11 35 (dvl d da db dc)) := Lib.hid ((HBD.out.kp0 HKV.out).keep kk (by have := HGG.out; omega))
              have HBN : Hid (Blk (wv.setCell ⟨g12, 2, none⟩ (.slice kao kids.length kcc)) g12 40 (nvl (.mk el.nm [] kids) (.slice kao kids.length kcc))) := Lib.hid ((HBN.out.kp0 HKV.out).set' 2 _)
              have HNK : Hid (RowN (fun i => wr.heap.size ≤ i) (wv.setCell ⟨g12, 2, none⟩ (.slice kao kids.length kcc)) (.slice kao kids.length kcc) (PN.mk el.nm [] kids).ks) := Lib.hid (HKR2.out.keep kk (fun i hi _ e => by have := HGG.out; omega) (fun i hi _ => by have := HGG.out; have := HGB.out; omega))
              generalize wv.setCell ⟨g12, 2, none⟩ (.slice kao kids.length kcc) = wt at HK HKX HDR HBD HBN HNK ⊢
              obtain ⟨n, hn⟩ : ∃ n, n = PN.mk el.nm [] kids := ⟨_, rfl⟩
              have HNN : Hid (n.ks = kids ∧ n.nm = el.nm ∧ n.vl = []) := Lib.hid (by rw [hn]; exact ⟨rfl, rfl, rfl⟩)
              obtain ⟨kv, hkv⟩ : ∃ v : Value, v = .slice kao kids.length kcc := ⟨_, rfl⟩
              rw [← hn] at HBN HNK
              rw [← hkv] at HBN HNK ⊢
              have HR1 : Hid (rdOne ds el = match keyT d.ky n.ks with
                | none => .er 13
                | some _ => .ok (d, n)) := Lib.hid (by rw [HR1.out, HNN.out.1, hn]; rfl)
              clear hn hkv HEL1 HBE HKV HKR2 kk e3 e4 q1 z1 k0 k1 k2 k3 k4 k5 k6
              have n0 := HBN.out.cellV 0 (v := .string (S n.nm)) rfl
              have n1 := HBN.out.cellV 1 (v := .string (S n.vl)) rfl
              have n2 := HBN.out.cellV 2 (v := kv) rfl
              have k0 := HBD.out.cellV 0 (v := .string (S d.nm)) rfl
              have k1 := HBD.out.cellV 1 (v := .int .i64 d.kd) rfl
              have k2 := HBD.out.cellV 2 (v := .int .i64 d.ty) rfl
              have k3 := HBD.out.cellV 3 (v := da) rfl
              have k4 := HBD.out.cellV 4 (v := .bool d.mu) rfl
              have k5 := HBD.out.cellV 5 (v := db) rfl
              have k6 := HBD.out.cellV 6 (v := dc) rfl
              cases hkt : keyT d.ky n.ks with
              | none =>
                have HR : Hid (readT ds es = .er 13) := Lib.hid (by rw [HST.out, HR1.out, hkt])
                go_wp2_with (go_at_call 30; refine (key_any d n da db dc kv _ HDR.out HNK.out HDO.out.1).mono ?_; rw [hkt]; rintro e wk ⟨hka, hkk⟩; obtain rfl := hka; have HKK := Lib.hid (HK.out.tr hkk); clear hkk)
                go_ret2
                refine ⟨?_, HKK.out⟩
                rw [HR.out]
                exact rfl
              | some lk =>
                have HR1 : Hid (rdOne ds el = .ok (d, n)) := Lib.hid (by rw [HR1.out, hkt])
                go_upto_region 24 with (go_at_call 30; refine (key_any d n da db dc kv _ HDR.out HNK.out HDO.out.1).mono ?_; rw [hkt]; rintro e wk ⟨hka, hkk⟩; obtain ⟨kvv, rfl, -⟩ := hka; have HKK := Lib.hid hkk; clear hkk)
                have HK := Lib.hid (HK.out.tr HKK.out)
                have HKX := Lib.hid (HKX.out.tr HKK.out)
                have HDR := Lib.hid (HDR.out.kp0 HKK.out)
                have HBD := Lib.hid (HBD.out.kp0 HKK.out)
                have HBN := Lib.hid (HBN.out.kp0 HKK.out)
                have HNK := Lib.hid (HNK.out.kp0 HKK.out)
                clear n0 n1 n2 k0 k1 k2 k3 k4 k5 k6 HKK hkt
                have HAT := Lib.hid (HA.out.kp0 HKX.out)
                have n0 := HBN.out.cellV 0 (v := .string (S n.nm)) rfl
                have n1 := HBN.out.cellV 1 (v := .string (S n.vl)) rfl
                have n2 := HBN.out.cellV 2 (v := kv) rfl
                have k0 := HBD.out.cellV 0 (v := .string (S d.nm)) rfl
                have k1 := HBD.out.cellV 1 (v := .int .i64 d.kd) rfl
                have k2 := HBD.out.cellV 2 (v := .int .i64 d.ty) rfl
                have k3 := HBD.out.cellV 3 (v := da) rfl
                have k4 := HBD.out.cellV 4 (v := .bool d.mu) rfl
                have k5 := HBD.out.cellV 5 (v := db) rfl
                have k6 := HBD.out.cellV 6 (v := dc) rfl
                have HAR := Lib.hid HAT.out.swap.row1
                cases hs : sameT d all n with
                | some j =>
                  have HR : Hid (readT ds es = .er 15) := Lib.hid (by rw [HST.out, HR1.out]; simp only [hs])
                  have f1 : (0 : Int) ≤ plI (some j) := by simp only [plI]; omega
                  go_wp2_with (go_at_call 31; refine (same_any d all n da db dc _ kv _ HDR.out HAR.out HNK.out HDO.out.1).mono ?_; rw [hs]; rintro e wy ⟨rfl, hky⟩; have HKY := Lib.hid (HK.out.tr hky); clear hky)
                  go_ret2
                  refine ⟨?_, HKY.out⟩
                  rw [HR.out]
                  exact rfl
                | none =>
                  have HR : Hid (readT ds es = rdAll ds (es.drop (k + 1)) (all ++ [n]) (if kept d n then out ++ [n] else out)) := Lib.hid (by rw [HST.out, HR1.out]; simp only [hs])
                  have f1 : ¬ (0 : Int) ≤ plI none := by decide
                  go_upto_region 26 with (go_at_call 31; refine (same_any d all n da db dc _ kv _ HDR.out HAR.out HNK.out HDO.out.1).mono ?_; rw [hs]; rintro e wy ⟨rfl, hky⟩; have HKY := Lib.hid hky; clear hky)
                  have HK := Lib.hid (HK.out.tr HKY.out)
                  have HKX := Lib.hid (HKX.out.tr HKY.out)
                  have HNK := Lib.hid (HNK.out.kp0 HKY.out)
                  have HBN := Lib.hid (HBN.out.kp0 HKY.out)
                  have HBD := Lib.hid (HBD.out.kp0 HKY.out)
                  have HAL := Lib.hid HA.out.lt
                  have hat := HAT.out.swap.kp0 HKY.out
                  obtain ⟨us, vs, hq1, hq2, hq3, hq4, hq5⟩ := hat
                  obtain ⟨kno, knc, hsh, _, _, _⟩ := HNK.out.shape
                  obtain ⟨m, hm⟩ : ∃ m, m = n.ks.length := ⟨_, rfl⟩
                  rw [← hm] at hsh
                  subst hsh
                  have HM := Lib.hid hm
                  have n0 := HBN.out.cellV 0 (v := .string (S n.nm)) rfl
                  have n1 := HBN.out.cellV 1 (v := .string (S n.vl)) rfl
                  have n2 := HBN.out.cellV 2 (v := .slice kno m knc) rfl
                  have HQ1 : Hid (∀ o, (wy.alloc o).ownsRow w.heap.size 40 3 u7 all.length (ncs all us)) := Lib.hid (fun o => own_keepB hq1 ((Kp.refl (fun _ => False) _).alloc o) (fun _ _ h => h))
                  have HQ2 : Hid (∀ o, (wy.alloc o).ownsRow w.heap.size 40 3 u6 out.length (ncs out vs)) := Lib.hid (fun o => own_keepB hq2 ((Kp.refl (fun _ => False) _).alloc o) (fun _ _ h => h))
                  have HQ3 : Hid (∀ o, NdsV (fun i => w.heap.size ≤ i ∧ u7.ownBlock ≠ some i ∧ u6.ownBlock ≠ some i) (wy.alloc o) all us) := Lib.hid (fun o => NdsV.keep ((Kp.refl (fun _ => False) _).alloc o) (fun _ _ _ h => h) (fun _ h _ => h) _ _ hq3)
                  have HQ4 : Hid (∀ o, NdsV (fun i => w.heap.size ≤ i ∧ u7.ownBlock ≠ some i ∧ u6.ownBlock ≠ some i) (wy.alloc o) out vs) := Lib.hid (fun o => NdsV.keep ((Kp.refl (fun _ => False) _).alloc o) (fun _ _ _ h => h) (fun _ h _ => h) _ _ hq4)
                  have HQ5 := Lib.hid hq5
                  have HMD := Lib.hid (RdF.made (T := 40) (k := 3) (cs := nvl n (.slice kno m knc)) wy rfl)
                  have HON : Hid (∀ u ∈ nvl n (.slice kno m knc), u.oneCell' = true) := Lib.hid (by
                    intro u hu
                    simp only [nvl, List.mem_cons, List.not_mem_nil, or_false] at hu
                    rcases hu with rfl | rfl | rfl <;> rfl)
                  have HSZ : Hid (w.heap.size ≤ wy.heap.size ∧ wr.heap.size ≤ wy.heap.size) := Lib.hid ⟨HK.out.size, HKX.out.size⟩
                  have HLA : Hid (all.length ≤ 1000000 ∧ out.length ≤ 1000000) := Lib.hid (by have := HLN.out; have := HEL.out; omega)
                  clear hq1 hq2 hq3 hq4 hq5 hm k0 k1 k2 k3 k4 k5 k6
                  go_upto_region 27 with (at_builtin
                                          refine wl_append_rk rfl (.tmp 86) (.tmp 88) 24 rfl Try.underlying24 infoN rfl (by decide) rfl (HQ1.out _) rfl HMD.out HON.out (by have := HLA.out; unfold maxLen; omega) (by have := HLA.out; omega) (by have := HSZ.out; simp; omega) ?_
                                          intro u7b wz ho hkz hbz
                                          have HZ := Lib.hid (AccF.more (HQ1.out _) (HQ2.out _) (HQ3.out _) (HQ4.out _) HQ5.out (HNK.out.kp0 ((Kp.refl _ _).alloc _)) (fun i hi _ => ⟨Nat.le_trans HKR.out hi, fun e => by have := (HAL.out.2 i e).2; omega, fun e => by have := (HAL.out.1 i e).2; omega⟩) hkz hbz ho)
                                          have HKZ : Hid (Kp (fun b => u7.ownBlock = some b) wy wz) := Lib.hid (((Kp.refl _ _).alloc _).tr hkz)
                                          clear ho hkz hbz)
                  try simp only [Act.put]
                  try simp only [List.setIfInBounds_toArray, List.set_cons_zero, List.set_cons_succ]
                  have HKW : Hid (Kp0 w wz) := Lib.hid (HK.out.trans HKZ.out (fun _ _ h => h) (fun i hi e => by have := (HAL.out.2 i e).1; omega))
                  have HBD := Lib.hid (HBD.out.keep HKZ.out (fun e => by have := (HAL.out.2 _ e).2; have := HGB.out; have := HGG.out; omega))
                  have HBN := Lib.hid (HBN.out.keep HKZ.out (fun e => by have := (HAL.out.2 _ e).2; have := HGB.out; have := HGG.out; omega))
                  have HSZ : Hid (w.heap.size ≤ wz.heap.size ∧ wr.heap.size ≤ wz.heap.size) := Lib.hid (by have := HSZ.out; have := HKZ.out.size; omega)
                  have hz := HZ.out.1.swap
                  have HAF := HZ
                  obtain ⟨vs2, us2, hq1, hq2, hq3, hq4, hq5⟩ := hz
                  have HP1 : Hid (∀ o, (wz.alloc o).ownsRow w.heap.size 40 3 u6 out.length (ncs out vs2)) := Lib.hid (fun o => own_keepB hq1 ((Kp.refl (fun _ => False) _).alloc o) (fun _ _ h => h))
                  have HP2 : Hid (∀ o, (wz.alloc o).ownsRow w.heap.size 40 3 u7b (all ++ [n]).length (ncs (all ++ [n]) us2)) := Lib.hid (fun o => own_keepB hq2 ((Kp.refl (fun _ => False) _).alloc o) (fun _ _ h => h))
                  have HP3 : Hid (∀ o, NdsV (fun i => w.heap.size ≤ i ∧ u6.ownBlock ≠ some i ∧ u7b.ownBlock ≠ some i) (wz.alloc o) out vs2) := Lib.hid (fun o => NdsV.keep ((Kp.refl (fun _ => False) _).alloc o) (fun _ _ _ h => h) (fun _ h _ => h) _ _ hq3)
                  have HP4 : Hid (∀ o, NdsV (fun i => w.heap.size ≤ i ∧ u6.ownBlock ≠ some i ∧ u7b.ownBlock ≠ some i) (wz.alloc o) (all ++ [n]) us2) := Lib.hid (fun o => NdsV.keep ((Kp.refl (fun _ => False) _).alloc o) (fun _ _ _ h => h) (fun _ h _ => h) _ _ hq4)
                  have HP5 := Lib.hid hq5
                  have HNK := Lib.hid HAF.out.2
                  have HMD := Lib.hid (RdF.made (T := 40) (k := 3) (cs := nvl n (.slice kno m knc)) wz rfl)
                  have HL1 : Hid ((all ++ [n]).length ≤ k + 1) := Lib.hid (by rw [List.length_append]; have := HLN.out; simp; omega)
                  clear hq1 hq2 hq3 hq4 hq5
                  have n0 := HBN.out.cellV 0 (v := .string (S n.nm)) rfl
                  have n1 := HBN.out.cellV 1 (v := .string (S n.vl)) rfl
                  have n2 := HBN.out.cellV 2 (v := .slice kno m knc) rfl
                  have k1 := HBD.out.cellV 1 (v := .int .i64 d.kd) rfl
                  cases q1 : (d.kd == 1) with
                  | false =>
                    have HKP : Hid (kept d n = true) := Lib.hid (by unfold kept; rw [q1]; rfl)
                    have q3 : (d.kd != 1) = true := by rw [bne, q1]; rfl
                    clear q1
                    go_wp2_with (at_builtin
                                 refine wl_append_rk rfl (.tmp 99) (.tmp 101) 24 rfl Try.underlying24 infoN rfl (by decide) rfl (HP1.out _) rfl HMD.out HON.out (by have := HLA.out; unfold maxLen; omega) (by have := HLA.out; omega) (by have := HSZ.out; simp; omega) ?_
                                 intro u6b wx ho hkx hbx
                                 have HZ2 := Lib.hid (AccF.more (HP1.out _) (HP2.out _) (HP3.out _) (HP4.out _) HP5.out (HNK.out.kp0 ((Kp.refl _ _).alloc _)) (fun i hi _ => ⟨hi.1, hi.2.2, hi.2.1⟩) hkx hbx ho)
                                 have HKX2 : Hid (Kp0 w wx) := Lib.hid ((HKW.out.alloc _).trans hkx (fun _ _ h => h) (fun i hi e => by have := (HAL.out.1 i e).1; omega))
                                 clear ho hkx hbx)
                    go_roundg (es.length - (k + 1))
                    case measure => omega
                    case rel => exact ⟨k + 1, out ++ [n], all ++ [n], by go_num, by omega, rfl, Lib.hid (by rw [HR.out, HKP.out]; rfl), Lib.hid HZ2.out.1, Lib.hid ⟨by rw [List.length_append]; have := HLN.out; simp; omega, HL1.out⟩, HKX2.out⟩
                  | true =>
                    have q3 : (d.kd != 1) = false := by rw [bne, q1]; rfl
                    have Q1 := Lib.hid q1
                    clear q1
                    by_cases q2 : 0 < m
                    · have f5 : (0 : Int) < (m : Int) := by omega
                      have HKP : Hid (kept d n = true) := Lib.hid (by
                        unfold kept
                        rw [Q1.out]
                        cases hks : n.ks with
                        | nil => have := HM.out; rw [hks] at this; simp at this; omega
                        | cons x l => rfl)
                      clear q2
                      go_wp2_with (at_builtin
                                   refine wl_append_rk rfl (.tmp 99) (.tmp 101) 24 rfl Try.underlying24 infoN rfl (by decide) rfl (HP1.out _) rfl HMD.out HON.out (by have := HLA.out; unfold maxLen; omega) (by have := HLA.out; omega) (by have := HSZ.out; simp; omega) ?_
                                   intro u6b wx ho hkx hbx
                                   have HZ2 := Lib.hid (AccF.more (HP1.out _) (HP2.out _) (HP3.out _) (HP4.out _) HP5.out (HNK.out.kp0 ((Kp.refl _ _).alloc _)) (fun i hi _ => ⟨hi.1, hi.2.2, hi.2.1⟩) hkx hbx ho)
                                   have HKX2 : Hid (Kp0 w wx) := Lib.hid ((HKW.out.alloc _).trans hkx (fun _ _ h => h) (fun i hi e => by have := (HAL.out.1 i e).1; omega))
                                   clear ho hkx hbx)
                      go_roundg (es.length - (k + 1))
                      case measure => omega
                      case rel => exact ⟨k + 1, out ++ [n], all ++ [n], by go_num, by omega, rfl, Lib.hid (by rw [HR.out, HKP.out]; rfl), Lib.hid HZ2.out.1, Lib.hid ⟨by rw [List.length_append]; have := HLN.out; simp; omega, HL1.out⟩, HKX2.out⟩
                    · have f5 : ¬ (0 : Int) < (m : Int) := by omega
                      have HKP : Hid (kept d n = false) := Lib.hid (by
                        unfold kept
                        rw [Q1.out]
                        cases hks : n.ks with
                        | nil => rfl
                        | cons x l => have := HM.out; rw [hks] at this; simp at this; omega)
                      clear q2
                      go_wp2
                      go_roundg (es.length - (k + 1))
                      case measure => omega
                      case rel => exact ⟨k + 1, out, all ++ [n], by go_num, by omega, rfl, Lib.hid (by rw [HR.out, HKP.out]; rfl), Lib.hid HAF.out.1.swap, Lib.hid ⟨by have := HLN.out; omega, HL1.out⟩, HKW.out⟩
    · have i1 : ¬ (k : Int) < (es.length : Int) := by omega
      have HF2 : Hid (readT ds es = rdFin ds out) := Lib.hid (by rw [HF.out, List.drop_of_length_le (by omega), rdAll])
      obtain ⟨no, hno⟩ : ∃ x, x = out.length := ⟨_, rfl⟩
      have HRO := Lib.hid (HA.out.row1)
      obtain ⟨so, sc, hsh, _, _, _⟩ := HRO.out.shape
      rw [← hno] at hsh
      subst hsh
      have HNO := Lib.hid hno
      clear hno
      by_cases hl : 256 < no
      · have f1 : (256 : Int) < (no : Int) := by omega
        have HR : Hid (readT ds es = .er 2) := Lib.hid (by rw [HF2.out, rdFin, if_pos (by rw [← HNO.out]; exact hl)])
        clear hl
        go_wp2
        go_ret2
        refine ⟨?_, HK.out⟩
        rw [HR.out]
        exact rfl
      · have f1 : ¬ (256 : Int) < (no : Int) := by omega
        have HR : Hid (readT ds es = .ok (ordT ds out)) := Lib.hid (by rw [HF2.out, rdFin, if_neg (by rw [← HNO.out]; exact hl)])
        clear hl
        go_wp2_with (go_at_call 32; refine (order_any ds out _ _ wr (HD.out.kp0 HK.out) HRO.out (dsOk_ky HOK.out) (by have := HLN.out; have := HEL.out; omega)).mono ?_; rintro e wo ⟨ov, rfl, hro, hko⟩; have HKO := Lib.hid (HK.out.tr hko); have HOO := Lib.hid hro; clear hro hko)
        go_ret2
        refine ⟨?_, HKO.out⟩
        rw [HR.out]
        exact ⟨ov, rfl, HOO.out.row.mono (fun i hi _ => by rcases hi with h | h; exact h.1; have := HK.out.size; omega)⟩
theorem eks_lt {a : List PE} {x : PE} (h : x ∈ a) : SizeOf.sizeOf x.ks < SizeOf.sizeOf a := by
  have := List.sizeOf_lt_of_mem h
  cases x
  simp only [PE.mk.sizeOf_spec, PE.ks] at this ⊢
  omega
theorem read_any (es : List PE) : ReadP es := read_step es (fun x _ => read_any x.ks)
termination_by SizeOf.sizeOf es
decreasing_by exact eks_lt (by assumption)
end Go.Proofs.Ytmamcnhofgfolaa
