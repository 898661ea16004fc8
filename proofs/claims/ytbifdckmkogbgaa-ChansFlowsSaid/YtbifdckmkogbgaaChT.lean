/- Package chans: a message read whole. -/
import Derived.Test.YtbifdckmkogbgaaChR
namespace Go.Proofs.Ytbifdckmkogbgaa
open Go Go.RowKit
theorem ret_blk2 {P : Program} {fn : Func} {R : Ending → World → Prop} {a : Act} {w : World} (t u : Tmp) (T U : TypeId) (g : Nat) (cs : List Value) (d : TypeDesc) (hr : fn.results = #[.cell t T, .tmp u]) (hx : a.tmps.getD t undef = .pointer (some ⟨g, 0, none⟩))
    (hA : Blk w g U cs) (hu : P.underlying T = some d) (hd : d.isRow = true) (hi : (P.info? T).map (·.size) = some cs.length) (hdf : a.defers = []) (v : Value) (hv : a.tmps.getD u undef = v) (hR : R (.returned (.tuple #[.agg cs.toArray, v])) w) : bodyPost P fn R .ret a w := by
  subst hv
  refine ⟨hdf, _, ?_, hR⟩
  have := run_loadVar_mid (P := P) w g 0 T cs d hA.range hu hd hi
  rw [Array.getD_eq_getD_getElem?] at hx
  simp [results, hr, hx, asAddr, this]
theorem infoM (m : Msg) (t : ByteArray) : (Try.prog.info? 58).map (·.size) = some (cellsM m t).length := by show _ = some 8; kernel_rfl
theorem onesM (m : Msg) (t : ByteArray) : Ones (cellsM m t) := by
  intro v hv
  simp only [cellsM, List.mem_cons, List.not_mem_nil, or_false] at hv
  rcases hv with rfl | rfl | rfl | rfl | rfl | rfl | rfl | rfl <;> rfl
/-- While a message is read: the result's cells, the message, the reader. -/
structure RI (w wr : World) (rb g b : Nat) (m : Msg) (st : RS) : Prop where
  res : Blk wr rb 58 (cellsM (msg0 0) { data := #[] })
  mr : MR wr g b m st
  n1 : rb ≠ g
  n2 : rb ≠ b
  h1 : w.heap.size ≤ rb
  h2 : w.heap.size ≤ g
  h3 : w.heap.size ≤ b
  k : Kp0 w wr
theorem RI.next {w wr w1 : World} {rb g b : Nat} {m m' : Msg} {st st' : RS} (h : RI w wr rb g b m st) (hm : MR w1 g b m' st') (hk : Kp (GB g b) wr w1) : RI w w1 rb g b m' st' :=
  ⟨h.res.keep hk (fun e => e.elim (fun e => h.n1 e) (fun e => h.n2 e)), hm, h.n1, h.n2, h.h1, h.h2, h.h3, h.k.trans hk (fun _ _ h => h) (fun i hi e => by have h2 := h.h2; have h3 := h.h3; rcases e with e | e <;> omega)⟩
def ReadP (p : List UInt8) (w : World) (e : Ending) (w' : World) : Prop :=
  ∃ (t : ByteArray) (m : Msg), e = .returned (.tuple #[.agg (cellsM m t).toArray, .bool (readS p).isSome]) ∧ t.toList = m.text ∧ (∀ x, readS p = some x → m = x) ∧ Kp0 w w'
/-- What is answered at last. -/
theorem read_fin {p : List UInt8} {m2 : Msg} {s2 : RS} {ok : Bool} {w : World} (h : readS p = if ok then some m2 else none) : ∀ (wf : World) (tt : ByteArray), tt.toList = m2.text → Kp0 w wf → ReadP p w (.returned (.tuple #[.agg (cellsM m2 tt).toArray, .bool ok])) wf := by
  intro wf tt ht hk
  refine ⟨tt, m2, ?_, ht, fun x hx => ?_, hk⟩
  · rw [h]
    cases ok <;> rfl
  · rw [h] at hx
    cases ok with
    | true => exact Option.some.inj hx
    | false => cases hx
theorem readS_of {p : List UInt8} {m1 m2 : Msg} {s1 s2 : RS} (h1 : headS p = (m1, s1)) (h2 : bodyS m1 s1 = (m2, s2)) (hk : known m1.kind = true) : readS p = if wholeS m1.kind s2 then some m2 else none := by
  unfold readS
  rw [h1]
  simp only []
  rw [h2, hk, Bool.true_and]
set_option maxRecDepth 20000 in
set_option maxHeartbeats 4000000 in
theorem read_any (v : Value) (p : List UInt8) (w : World) (hv : Rd w v (bys p)) : Calls Try.prog 32 #[v] w (ReadP p w) := by
  have HV := Lib.hid (hv.keep0 ((Kp.refl _ w).alloc (.cells (cellsM (msg0 0) { data := #[] }).toArray 58)))
  have HB0 := Lib.hid (blk0 w 58 (cellsM (msg0 0) { data := #[] }))
  have HK0 : Hid (Kp0 w (w.alloc (.cells (cellsM (msg0 0) { data := #[] }).toArray 58))) := Lib.hid ((Kp.refl _ w).alloc _)
  clear hv
  go_enter Try.func32, Try.ntmps32
  go_wp2_with fail
  refine (from_any v p _ HV.out).mono ?_
  rintro e w1 ⟨b, rfl, hb, hr, hk⟩
  have HR1 := Lib.hid hr
  have HB1 := Lib.hid (HB0.out.kp0 hk)
  have HK1 : Hid (Kp0 w w1) := Lib.hid (HK0.out.tr hk)
  have HBG : Hid (w.heap.size + 1 ≤ b) := Lib.hid (by
    have e : (w.alloc (.cells (cellsM (msg0 0) { data := #[] }).toArray 58)).heap.size = w.heap.size + 1 := by
      show (w.heap.push _).size = _
      rw [Array.size_push]
    first
      | exact hb
      | (rw [e] at hb; exact hb))
  clear hr hk hb HB0 HK0 HV
  go_wp2_with fail
  refine (byte_rs b _ _ HR1.out).mono ?_
  rintro e w2 ⟨rfl, hr, hk⟩
  have HR2 := Lib.hid hr
  have HB2 := Lib.hid (HB1.out.keep hk (fun e => by have := HBG.out; have e2 : w.heap.size = b := e; omega))
  have HK2 : Hid (Kp0 w w2) := Lib.hid (HK1.out.trans hk (fun _ _ h => h) (fun i hi e => by have := HBG.out; have e2 : i = b := e; omega))
  clear hr hk HR1 HB1 HK1
  obtain ⟨⟨k, s1⟩, hks⟩ : ∃ r, r = byteS (some p) := ⟨_, rfl⟩
  rw [← hks] at HR2 ⊢
  have HKS := Lib.hid hks
  have hk256 : k < 256 := by have := headNat_lt (takeS (some p) 1).1; have e : k = (byteS (some p)).1 := congrArg Prod.fst hks; rw [e]; exact this
  clear hks
  simp only [] at HR2 ⊢
  have hsz2 := HB2.out.lt
  have HG : Hid (RI w (w2.alloc (.cells (cellsM (msg0 0) { data := #[] }).toArray 58)) w.heap.size w2.heap.size b (msg0 0) s1) := Lib.hid
    ⟨HB2.out.kp0 ((Kp.refl _ _).alloc _), ⟨⟨_, nil_toList, blk0 w2 _ _⟩, HR2.out.keep ((Kp.refl (fun _ => False) w2).alloc _) (fun h => h), (fun e => by have := HR2.out.lt; omega)⟩, by omega, by have := HBG.out; omega, Nat.le_refl _, HK2.out.size, by have := HBG.out; omega, HK2.out.alloc _⟩
  clear hsz2
  have HZ : Hid (Blk (w2.alloc (.cells #[.int .u8 0, .int .u32 0, .int .u32 0, .int .u32 0, .int .u32 0, .string { data := #[] }, .bool false, .bool false] 58)) w2.heap.size 58 (cellsM (msg0 0) { data := #[] })) := Lib.hid (blk0 w2 _ _)
  go_upto_region 3 with (refine wl_store_blk rfl 58 (.tmp 5) (.tmp 10) rfl w2.heap.size _ _ (cellsM (msg0 k) { data := #[] }) rfl rfl HZ.out (infoM _ _) rfl (onesM _ _) ?_; intro w3 hA3 hK3; have HA3 := Lib.hid hA3; have HK3 := Lib.hid hK3; clear hA3 hK3)
  have HG3 : Hid (RI w w3 w.heap.size w2.heap.size b (msg0 k) s1) := Lib.hid (HG.out.next ⟨⟨_, nil_toList, HA3.out⟩, HG.out.mr.r.keep HK3.out (fun e => HG.out.mr.ne e.symm), HG.out.mr.ne⟩ (HK3.out.mono (fun i _ h => .inl h)))
  clear HG HA3 HK3 HZ HB2 HK2 HR2
  generalize w2.heap.size = g at HG3 ⊢
  generalize w.heap.size = rb at HG3 ⊢
  have hc0 : w3.cell? ⟨g, 0, none⟩ = some (.int .u8 k) := by obtain ⟨t, _, h, _⟩ := HG3.out.mr.m.cells; exact h
  by_cases h90 : k = 90
  · subst h90
    clear HBG
    obtain ⟨⟨tx0, s2⟩, hts⟩ : ∃ r, r = textS s1 := ⟨_, rfl⟩
    have HTS := Lib.hid hts
    clear hts
    go_wp2_with fail
    refine (text_rs b s1 _ HG3.out.mr.r).mono ?_
    rw [← HTS.out]
    rintro e w4 ⟨tb, rfl, htb, hr, hk⟩
    have HG4 := Lib.hid (HG3.out.next (HG3.out.mr.read hr hk) (kp_at hk))
    have HTB := Lib.hid htb
    obtain ⟨t, _, _, _, _, _, _, hc5, _, _, hfz⟩ := HG4.out.mr.m.cells
    have hf5 := hfz 5
    clear hr hk hfz hc0 htb HG3
    simp only [] at HG4 HTB
    go_wp2_with fail
    have HG5 := Lib.hid (HG4.out.next (HG4.out.mr.putT tb tx0 HTB.out) (kp_put (Kp.refl _ _) 5 (.string tb)))
    generalize (w4.setCell ⟨g, 5, none⟩ (.string tb)) = w5 at HG5 ⊢
    clear hc5 hf5 HG4
    refine (readB_any g b _ s2 _ HG5.out.mr).mono ?_
    rintro e w6 ⟨rfl, hm, hk⟩
    have HGx := Lib.hid (HG5.out.next hm hk)
    clear hm hk HG5
    obtain ⟨wx, rfl⟩ : ∃ wx : World, wx = w6 := ⟨_, rfl⟩
    have HRS := Lib.hid (readS_of (p := p) (m1 := msg0 90) (m2 := (bndS { msg0 90 with text := tx0 } s2).1) (s2 := (bndS { msg0 90 with text := tx0 } s2).2) (by unfold headS; rw [← HKS.out]; rfl) (by
      unfold bodyS
      rw [← HTS.out]
      rfl) rfl)
    generalize (bndS { msg0 90 with text := tx0 } s2).1 = m2 at HGx HRS
    generalize (bndS { msg0 90 with text := tx0 } s2).2 = s3 at HGx HRS
    have HFIN := Lib.hid (read_fin (w := w) (s2 := s3) HRS.out)
    clear HRS
    go_upto_region 25 with (fail)
    obtain ⟨tt, htt, hblk⟩ := HGx.out.mr.m
    have HTT := Lib.hid htt
    have HBL := Lib.hid (hblk.kp0 (Kp.refl _ wx).drew)
    have HRR := Lib.hid (HGx.out.mr.r.keep (Kp.refl (fun _ => False) wx).drew (fun h => h))
    have HRE := Lib.hid (HGx.out.res.kp0 (Kp.refl _ wx).drew)
    have HKX : Hid (Kp0 w wx.drew) := Lib.hid HGx.out.k.drew
    have HRB := Lib.hid HGx.out.h1
    clear htt hblk HGx
    refine wp_region_px 4 [3] (fun w' : World => w' = wx.drew) (.quiet 0 (.quiet 1 (.eff 2 (.wall 3 (.quiet 4 .done))))) (by kernel_rfl) (by kernel_rfl) (by kernel_rfl) (by kernel_rfl) (fun _ d _ _ _ h => by cases d <;> exact h) rfl ?_
    generalize wx.drew = wd at HBL HRR HRE HKX ⊢
    refine px_quiet (v := .agg (cellsM m2 tt).toArray) rfl (by rfl) (fun wq hwq => ?_) rfl ?_
    · rw [hwq]
      exact run_load_blk 58 (.tmp 5) rfl g _ _ rfl HBL.out _ Try.underlying58 rfl (infoM m2 tt)
    try simp only [List.setIfInBounds_toArray, List.set_cons_zero, List.set_cons_succ]
    refine px_quiet (v := ?_) rfl (by rfl) (fun wq hwq => ?_) rfl ?_
    rotate_left 1
    · rw [hwq]
      clear hwq wq
      go_simp
      try (with_reducible rfl)
    try simp only [List.setIfInBounds_toArray, List.set_cons_zero, List.set_cons_succ]
    refine px_eff rfl (by rfl) (fun K hK => ?_)
    go_simp
    refine (end_rs b s3 _ HRR.out).mono ?_
    rintro e w' ⟨rfl, rfl⟩
    simp only []
    refine hK (fun w' : World => w' = wd) _ _ (fun x h => h) rfl ?_
    clear hK K
    refine px_wall rfl (by rfl) (fun K hK => ?_)
    refine wp_store_blk 58 (.tmp 2) _ rfl rb _ _ (cellsM m2 tt) rfl rfl HRE.out (infoM m2 tt) rfl (onesM m2 tt) (fun wf hf1 hf2 => ?_)
    have HF1 := Lib.hid hf1
    have HF2 := Lib.hid hf2
    clear hf1 hf2
    refine hK (fun _ => True) _ _ trivial ?_
    clear hK K
    try simp only [Act.put, List.setIfInBounds_toArray, List.set_cons_zero, List.set_cons_succ]
    refine px_quiet (v := ?_) rfl (by rfl) (fun wq hwq => ?_) rfl ?_
    rotate_left 1
    · clear hwq
      go_simp
      try (with_reducible rfl)
    try simp only [List.setIfInBounds_toArray, List.set_cons_zero, List.set_cons_succ]
    refine px_done ?_
    go_wp2
    refine ret_blk2 2 3 58 58 rb (cellsM m2 tt) _ rfl rfl HF1.out Try.underlying58 rfl (infoM m2 tt) rfl _ rfl ?_
    exact HFIN.out _ tt HTT.out (HKX.out.trans HF2.out (fun _ _ h => h) (fun i hi e => by have h1 := HRB.out; have e2 : i = rb := e; omega))
  · have hne : ((k : Int) != 90) = true := by rw [bne_iff_ne]; omega
    have hnf : ((k : Int) == 90) = false := by rw [beq_eq_false_iff_ne]; omega
    have H90 := Lib.hid h90
    have H256 := Lib.hid hk256
    clear h90 hk256
    go_wp2_with fail
    refine (u32_rs b _ _ HG3.out.mr.r).mono ?_
    rintro e w4 ⟨rfl, hr, hk⟩
    obtain ⟨⟨n, s2⟩, hns⟩ : ∃ r, r = u32S s1 := ⟨_, rfl⟩
    rw [← hns] at hr ⊢
    have HNS := Lib.hid hns
    have HG4 := Lib.hid (HG3.out.next (HG3.out.mr.read hr hk) (kp_at hk))
    obtain ⟨t, _, _, hc1, _, _, _, _, _, _, hfz⟩ := HG4.out.mr.m.cells
    have hf1 := hfz 1
    clear hr hk hfz hns hc0
    simp only [] at HG4 ⊢
    go_upto_region 5 with (fail)
    have HG5 := Lib.hid (HG4.out.next (HG4.out.mr.put (m' := { msg0 k with tgt := n }) 1 (.int .u32 (n : Int)) (fun _ => rfl) rfl) (kp_put (Kp.refl _ _) 1 (.int .u32 (n : Int))))
    generalize (w4.setCell ⟨g, 1, none⟩ (.int .u32 (n : Int))) = w5 at HG5 ⊢
    clear hc1 hf1 HG4
    have hc0 : w5.cell? ⟨g, 0, none⟩ = some (.int .u8 k) := by obtain ⟨t, _, h, _⟩ := HG5.out.mr.m.cells; exact h
    have HHD : Hid (headS p = ({ msg0 k with tgt := n }, s2)) := Lib.hid (by
      unfold headS
      rw [← HKS.out]
      simp only []
      rw [if_neg H90.out, ← HNS.out])
    clear hne hnf
    by_cases h96 : k = 96
    · subst h96
      have HGx := HG5
      clear HG5
      obtain ⟨wx, rfl⟩ : ∃ wx : World, wx = w5 := ⟨_, rfl⟩
      obtain ⟨s3, rfl⟩ : ∃ s3 : RS, s3 = s2 := ⟨_, rfl⟩
      have HRS : Hid (readS p = if wholeS 96 s3 then some ({ msg0 96 with tgt := n } : Msg) else none) := Lib.hid (readS_of (p := p) HHD.out (show bodyS _ s3 = (_, s3) from rfl) rfl)
      obtain ⟨m2, hm2⟩ : ∃ m2, m2 = ({ msg0 96 with tgt := n } : Msg) := ⟨_, rfl⟩
      rw [← hm2] at HGx HRS
      clear hm2 HHD
      have HFIN := Lib.hid (read_fin (w := w) (s2 := s3) HRS.out)
      clear HRS H90 H256 HNS HKS HBG
      go_upto_region 25 with (fail)
      clear hc0
      obtain ⟨tt, htt, hblk⟩ := HGx.out.mr.m
      have HTT := Lib.hid htt
      have HBL := Lib.hid (hblk.kp0 (Kp.refl _ wx).drew)
      have HRR := Lib.hid (HGx.out.mr.r.keep (Kp.refl (fun _ => False) wx).drew (fun h => h))
      have HRE := Lib.hid (HGx.out.res.kp0 (Kp.refl _ wx).drew)
      have HKX : Hid (Kp0 w wx.drew) := Lib.hid HGx.out.k.drew
      have HRB := Lib.hid HGx.out.h1
      clear htt hblk HGx
      refine wp_region_px 4 [3] (fun w' : World => w' = wx.drew) (.quiet 0 (.quiet 1 (.eff 2 (.wall 3 (.quiet 4 .done))))) (by kernel_rfl) (by kernel_rfl) (by kernel_rfl) (by kernel_rfl) (fun _ d _ _ _ h => by cases d <;> exact h) rfl ?_
      generalize wx.drew = wd at HBL HRR HRE HKX ⊢
      refine px_quiet (v := .agg (cellsM m2 tt).toArray) rfl (by rfl) (fun wq hwq => ?_) rfl ?_
      · rw [hwq]
        exact run_load_blk 58 (.tmp 5) rfl g _ _ rfl HBL.out _ Try.underlying58 rfl (infoM m2 tt)
      try simp only [List.setIfInBounds_toArray, List.set_cons_zero, List.set_cons_succ]
      refine px_quiet (v := ?_) rfl (by rfl) (fun wq hwq => ?_) rfl ?_
      rotate_left 1
      · rw [hwq]
        clear hwq wq
        go_simp
        try (with_reducible rfl)
      try simp only [List.setIfInBounds_toArray, List.set_cons_zero, List.set_cons_succ]
      refine px_eff rfl (by rfl) (fun K hK => ?_)
      go_simp
      refine (end_rs b s3 _ HRR.out).mono ?_
      rintro e w' ⟨rfl, rfl⟩
      simp only []
      refine hK (fun w' : World => w' = wd) _ _ (fun x h => h) rfl ?_
      clear hK K
      refine px_wall rfl (by rfl) (fun K hK => ?_)
      refine wp_store_blk 58 (.tmp 2) _ rfl rb _ _ (cellsM m2 tt) rfl rfl HRE.out (infoM m2 tt) rfl (onesM m2 tt) (fun wf hf1 hf2 => ?_)
      have HF1 := Lib.hid hf1
      have HF2 := Lib.hid hf2
      clear hf1 hf2
      refine hK (fun _ => True) _ _ trivial ?_
      clear hK K
      try simp only [Act.put, List.setIfInBounds_toArray, List.set_cons_zero, List.set_cons_succ]
      refine px_quiet (v := ?_) rfl (by rfl) (fun wq hwq => ?_) rfl ?_
      rotate_left 1
      · clear hwq
        go_simp
        try (with_reducible rfl)
      try simp only [List.setIfInBounds_toArray, List.set_cons_zero, List.set_cons_succ]
      refine px_done ?_
      go_wp2
      refine ret_blk2 2 3 58 58 rb (cellsM m2 tt) _ rfl rfl HF1.out Try.underlying58 rfl (infoM m2 tt) rfl _ rfl ?_
      exact HFIN.out _ tt HTT.out (HKX.out.trans HF2.out (fun _ _ h => h) (fun i hi e => by have h1 := HRB.out; have e2 : i = rb := e; omega))
    by_cases h97 : k = 97
    · subst h97
      have HGx := HG5
      clear HG5
      obtain ⟨wx, rfl⟩ : ∃ wx : World, wx = w5 := ⟨_, rfl⟩
      obtain ⟨s3, rfl⟩ : ∃ s3 : RS, s3 = s2 := ⟨_, rfl⟩
      have HRS : Hid (readS p = if wholeS 97 s3 then some ({ msg0 97 with tgt := n } : Msg) else none) := Lib.hid (readS_of (p := p) HHD.out (show bodyS _ s3 = (_, s3) from rfl) rfl)
      obtain ⟨m2, hm2⟩ : ∃ m2, m2 = ({ msg0 97 with tgt := n } : Msg) := ⟨_, rfl⟩
      rw [← hm2] at HGx HRS
      clear hm2 HHD
      have HFIN := Lib.hid (read_fin (w := w) (s2 := s3) HRS.out)
      clear HRS H90 H256 HNS HKS HBG
      go_upto_region 25 with (fail)
      clear hc0
      obtain ⟨tt, htt, hblk⟩ := HGx.out.mr.m
      have HTT := Lib.hid htt
      have HBL := Lib.hid (hblk.kp0 (Kp.refl _ wx).drew)
      have HRR := Lib.hid (HGx.out.mr.r.keep (Kp.refl (fun _ => False) wx).drew (fun h => h))
      have HRE := Lib.hid (HGx.out.res.kp0 (Kp.refl _ wx).drew)
      have HKX : Hid (Kp0 w wx.drew) := Lib.hid HGx.out.k.drew
      have HRB := Lib.hid HGx.out.h1
      clear htt hblk HGx
      refine wp_region_px 4 [3] (fun w' : World => w' = wx.drew) (.quiet 0 (.quiet 1 (.eff 2 (.wall 3 (.quiet 4 .done))))) (by kernel_rfl) (by kernel_rfl) (by kernel_rfl) (by kernel_rfl) (fun _ d _ _ _ h => by cases d <;> exact h) rfl ?_
      generalize wx.drew = wd at HBL HRR HRE HKX ⊢
      refine px_quiet (v := .agg (cellsM m2 tt).toArray) rfl (by rfl) (fun wq hwq => ?_) rfl ?_
      · rw [hwq]
        exact run_load_blk 58 (.tmp 5) rfl g _ _ rfl HBL.out _ Try.underlying58 rfl (infoM m2 tt)
      try simp only [List.setIfInBounds_toArray, List.set_cons_zero, List.set_cons_succ]
      refine px_quiet (v := ?_) rfl (by rfl) (fun wq hwq => ?_) rfl ?_
      rotate_left 1
      · rw [hwq]
        clear hwq wq
        go_simp
        try (with_reducible rfl)
      try simp only [List.setIfInBounds_toArray, List.set_cons_zero, List.set_cons_succ]
      refine px_eff rfl (by rfl) (fun K hK => ?_)
      go_simp
      refine (end_rs b s3 _ HRR.out).mono ?_
      rintro e w' ⟨rfl, rfl⟩
      simp only []
      refine hK (fun w' : World => w' = wd) _ _ (fun x h => h) rfl ?_
      clear hK K
      refine px_wall rfl (by rfl) (fun K hK => ?_)
      refine wp_store_blk 58 (.tmp 2) _ rfl rb _ _ (cellsM m2 tt) rfl rfl HRE.out (infoM m2 tt) rfl (onesM m2 tt) (fun wf hf1 hf2 => ?_)
      have HF1 := Lib.hid hf1
      have HF2 := Lib.hid hf2
      clear hf1 hf2
      refine hK (fun _ => True) _ _ trivial ?_
      clear hK K
      try simp only [Act.put, List.setIfInBounds_toArray, List.set_cons_zero, List.set_cons_succ]
      refine px_quiet (v := ?_) rfl (by rfl) (fun wq hwq => ?_) rfl ?_
      rotate_left 1
      · clear hwq
        go_simp
        try (with_reducible rfl)
      try simp only [List.setIfInBounds_toArray, List.set_cons_zero, List.set_cons_succ]
      refine px_done ?_
      go_wp2
      refine ret_blk2 2 3 58 58 rb (cellsM m2 tt) _ rfl rfl HF1.out Try.underlying58 rfl (infoM m2 tt) rfl _ rfl ?_
      exact HFIN.out _ tt HTT.out (HKX.out.trans HF2.out (fun _ _ h => h) (fun i hi e => by have h1 := HRB.out; have e2 : i = rb := e; omega))
    by_cases h99 : k = 99
    · subst h99
      have HGx := HG5
      clear HG5
      obtain ⟨wx, rfl⟩ : ∃ wx : World, wx = w5 := ⟨_, rfl⟩
      obtain ⟨s3, rfl⟩ : ∃ s3 : RS, s3 = s2 := ⟨_, rfl⟩
      have HRS : Hid (readS p = if wholeS 99 s3 then some ({ msg0 99 with tgt := n } : Msg) else none) := Lib.hid (readS_of (p := p) HHD.out (show bodyS _ s3 = (_, s3) from rfl) rfl)
      obtain ⟨m2, hm2⟩ : ∃ m2, m2 = ({ msg0 99 with tgt := n } : Msg) := ⟨_, rfl⟩
      rw [← hm2] at HGx HRS
      clear hm2 HHD
      have HFIN := Lib.hid (read_fin (w := w) (s2 := s3) HRS.out)
      clear HRS H90 H256 HNS HKS HBG
      go_upto_region 25 with (fail)
      clear hc0
      obtain ⟨tt, htt, hblk⟩ := HGx.out.mr.m
      have HTT := Lib.hid htt
      have HBL := Lib.hid (hblk.kp0 (Kp.refl _ wx).drew)
      have HRR := Lib.hid (HGx.out.mr.r.keep (Kp.refl (fun _ => False) wx).drew (fun h => h))
      have HRE := Lib.hid (HGx.out.res.kp0 (Kp.refl _ wx).drew)
      have HKX : Hid (Kp0 w wx.drew) := Lib.hid HGx.out.k.drew
      have HRB := Lib.hid HGx.out.h1
      clear htt hblk HGx
      refine wp_region_px 4 [3] (fun w' : World => w' = wx.drew) (.quiet 0 (.quiet 1 (.eff 2 (.wall 3 (.quiet 4 .done))))) (by kernel_rfl) (by kernel_rfl) (by kernel_rfl) (by kernel_rfl) (fun _ d _ _ _ h => by cases d <;> exact h) rfl ?_
      generalize wx.drew = wd at HBL HRR HRE HKX ⊢
      refine px_quiet (v := .agg (cellsM m2 tt).toArray) rfl (by rfl) (fun wq hwq => ?_) rfl ?_
      · rw [hwq]
        exact run_load_blk 58 (.tmp 5) rfl g _ _ rfl HBL.out _ Try.underlying58 rfl (infoM m2 tt)
      try simp only [List.setIfInBounds_toArray, List.set_cons_zero, List.set_cons_succ]
      refine px_quiet (v := ?_) rfl (by rfl) (fun wq hwq => ?_) rfl ?_
      rotate_left 1
      · rw [hwq]
        clear hwq wq
        go_simp
        try (with_reducible rfl)
      try simp only [List.setIfInBounds_toArray, List.set_cons_zero, List.set_cons_succ]
      refine px_eff rfl (by rfl) (fun K hK => ?_)
      go_simp
      refine (end_rs b s3 _ HRR.out).mono ?_
      rintro e w' ⟨rfl, rfl⟩
      simp only []
      refine hK (fun w' : World => w' = wd) _ _ (fun x h => h) rfl ?_
      clear hK K
      refine px_wall rfl (by rfl) (fun K hK => ?_)
      refine wp_store_blk 58 (.tmp 2) _ rfl rb _ _ (cellsM m2 tt) rfl rfl HRE.out (infoM m2 tt) rfl (onesM m2 tt) (fun wf hf1 hf2 => ?_)
      have HF1 := Lib.hid hf1
      have HF2 := Lib.hid hf2
      clear hf1 hf2
      refine hK (fun _ => True) _ _ trivial ?_
      clear hK K
      try simp only [Act.put, List.setIfInBounds_toArray, List.set_cons_zero, List.set_cons_succ]
      refine px_quiet (v := ?_) rfl (by rfl) (fun wq hwq => ?_) rfl ?_
      rotate_left 1
      · clear hwq
        go_simp
        try (with_reducible rfl)
      try simp only [List.setIfInBounds_toArray, List.set_cons_zero, List.set_cons_succ]
      refine px_done ?_
      go_wp2
      refine ret_blk2 2 3 58 58 rb (cellsM m2 tt) _ rfl rfl HF1.out Try.underlying58 rfl (infoM m2 tt) rfl _ rfl ?_
      exact HFIN.out _ tt HTT.out (HKX.out.trans HF2.out (fun _ _ h => h) (fun i hi e => by have h1 := HRB.out; have e2 : i = rb := e; omega))
    by_cases h100 : k = 100
    · subst h100
      have HGx := HG5
      clear HG5
      obtain ⟨wx, rfl⟩ : ∃ wx : World, wx = w5 := ⟨_, rfl⟩
      obtain ⟨s3, rfl⟩ : ∃ s3 : RS, s3 = s2 := ⟨_, rfl⟩
      have HRS : Hid (readS p = if wholeS 100 s3 then some ({ msg0 100 with tgt := n } : Msg) else none) := Lib.hid (readS_of (p := p) HHD.out (show bodyS _ s3 = (_, s3) from rfl) rfl)
      obtain ⟨m2, hm2⟩ : ∃ m2, m2 = ({ msg0 100 with tgt := n } : Msg) := ⟨_, rfl⟩
      rw [← hm2] at HGx HRS
      clear hm2 HHD
      have HFIN := Lib.hid (read_fin (w := w) (s2 := s3) HRS.out)
      clear HRS H90 H256 HNS HKS HBG
      go_upto_region 25 with (fail)
      clear hc0
      obtain ⟨tt, htt, hblk⟩ := HGx.out.mr.m
      have HTT := Lib.hid htt
      have HBL := Lib.hid (hblk.kp0 (Kp.refl _ wx).drew)
      have HRR := Lib.hid (HGx.out.mr.r.keep (Kp.refl (fun _ => False) wx).drew (fun h => h))
      have HRE := Lib.hid (HGx.out.res.kp0 (Kp.refl _ wx).drew)
      have HKX : Hid (Kp0 w wx.drew) := Lib.hid HGx.out.k.drew
      have HRB := Lib.hid HGx.out.h1
      clear htt hblk HGx
      refine wp_region_px 4 [3] (fun w' : World => w' = wx.drew) (.quiet 0 (.quiet 1 (.eff 2 (.wall 3 (.quiet 4 .done))))) (by kernel_rfl) (by kernel_rfl) (by kernel_rfl) (by kernel_rfl) (fun _ d _ _ _ h => by cases d <;> exact h) rfl ?_
      generalize wx.drew = wd at HBL HRR HRE HKX ⊢
      refine px_quiet (v := .agg (cellsM m2 tt).toArray) rfl (by rfl) (fun wq hwq => ?_) rfl ?_
      · rw [hwq]
        exact run_load_blk 58 (.tmp 5) rfl g _ _ rfl HBL.out _ Try.underlying58 rfl (infoM m2 tt)
      try simp only [List.setIfInBounds_toArray, List.set_cons_zero, List.set_cons_succ]
      refine px_quiet (v := ?_) rfl (by rfl) (fun wq hwq => ?_) rfl ?_
      rotate_left 1
      · rw [hwq]
        clear hwq wq
        go_simp
        try (with_reducible rfl)
      try simp only [List.setIfInBounds_toArray, List.set_cons_zero, List.set_cons_succ]
      refine px_eff rfl (by rfl) (fun K hK => ?_)
      go_simp
      refine (end_rs b s3 _ HRR.out).mono ?_
      rintro e w' ⟨rfl, rfl⟩
      simp only []
      refine hK (fun w' : World => w' = wd) _ _ (fun x h => h) rfl ?_
      clear hK K
      refine px_wall rfl (by rfl) (fun K hK => ?_)
      refine wp_store_blk 58 (.tmp 2) _ rfl rb _ _ (cellsM m2 tt) rfl rfl HRE.out (infoM m2 tt) rfl (onesM m2 tt) (fun wf hf1 hf2 => ?_)
      have HF1 := Lib.hid hf1
      have HF2 := Lib.hid hf2
      clear hf1 hf2
      refine hK (fun _ => True) _ _ trivial ?_
      clear hK K
      try simp only [Act.put, List.setIfInBounds_toArray, List.set_cons_zero, List.set_cons_succ]
      refine px_quiet (v := ?_) rfl (by rfl) (fun wq hwq => ?_) rfl ?_
      rotate_left 1
      · clear hwq
        go_simp
        try (with_reducible rfl)
      try simp only [List.setIfInBounds_toArray, List.set_cons_zero, List.set_cons_succ]
      refine px_done ?_
      go_wp2
      refine ret_blk2 2 3 58 58 rb (cellsM m2 tt) _ rfl rfl HF1.out Try.underlying58 rfl (infoM m2 tt) rfl _ rfl ?_
      exact HFIN.out _ tt HTT.out (HKX.out.trans HF2.out (fun _ _ h => h) (fun i hi e => by have h1 := HRB.out; have e2 : i = rb := e; omega))
    by_cases h92 : k = 92
    · subst h92
      have HGx := HG5
      clear HG5
      obtain ⟨wx, rfl⟩ : ∃ wx : World, wx = w5 := ⟨_, rfl⟩
      obtain ⟨s3, rfl⟩ : ∃ s3 : RS, s3 = s2 := ⟨_, rfl⟩
      have HRS : Hid (readS p = if wholeS 92 s3 then some ({ msg0 92 with tgt := n } : Msg) else none) := Lib.hid (readS_of (p := p) HHD.out (show bodyS _ s3 = (_, s3) from rfl) rfl)
      obtain ⟨m2, hm2⟩ : ∃ m2, m2 = ({ msg0 92 with tgt := n } : Msg) := ⟨_, rfl⟩
      rw [← hm2] at HGx HRS
      clear hm2 HHD
      have HFIN := Lib.hid (read_fin (w := w) (s2 := s3) HRS.out)
      clear HRS H90 H256 HNS HKS HBG
      go_upto_region 20 with (fail)
      clear hc0
      obtain ⟨tt, htt, hblk⟩ := HGx.out.mr.m
      have HTT := Lib.hid htt
      have HBL := Lib.hid (hblk.kp0 (Kp.refl _ wx).drew)
      have HRR := Lib.hid (HGx.out.mr.r.keep (Kp.refl (fun _ => False) wx).drew (fun h => h))
      have HRE := Lib.hid (HGx.out.res.kp0 (Kp.refl _ wx).drew)
      have HKX : Hid (Kp0 w wx.drew) := Lib.hid HGx.out.k.drew
      have HRB := Lib.hid HGx.out.h1
      clear htt hblk HGx
      refine wp_region_px 4 [3] (fun w' : World => w' = wx.drew) (.quiet 0 (.quiet 1 (.eff 2 (.wall 3 (.quiet 4 .done))))) (by kernel_rfl) (by kernel_rfl) (by kernel_rfl) (by kernel_rfl) (fun _ d _ _ _ h => by cases d <;> exact h) rfl ?_
      generalize wx.drew = wd at HBL HRR HRE HKX ⊢
      refine px_quiet (v := .agg (cellsM m2 tt).toArray) rfl (by rfl) (fun wq hwq => ?_) rfl ?_
      · rw [hwq]
        exact run_load_blk 58 (.tmp 5) rfl g _ _ rfl HBL.out _ Try.underlying58 rfl (infoM m2 tt)
      try simp only [List.setIfInBounds_toArray, List.set_cons_zero, List.set_cons_succ]
      refine px_quiet (v := ?_) rfl (by rfl) (fun wq hwq => ?_) rfl ?_
      rotate_left 1
      · rw [hwq]
        clear hwq wq
        go_simp
        try (with_reducible rfl)
      try simp only [List.setIfInBounds_toArray, List.set_cons_zero, List.set_cons_succ]
      refine px_eff rfl (by rfl) (fun K hK => ?_)
      go_simp
      refine (ok_rs b s3 _ HRR.out).mono ?_
      rintro e w' ⟨rfl, rfl⟩
      simp only []
      refine hK (fun w' : World => w' = wd) _ _ (fun x h => h) rfl ?_
      clear hK K
      refine px_wall rfl (by rfl) (fun K hK => ?_)
      refine wp_store_blk 58 (.tmp 2) _ rfl rb _ _ (cellsM m2 tt) rfl rfl HRE.out (infoM m2 tt) rfl (onesM m2 tt) (fun wf hf1 hf2 => ?_)
      have HF1 := Lib.hid hf1
      have HF2 := Lib.hid hf2
      clear hf1 hf2
      refine hK (fun _ => True) _ _ trivial ?_
      clear hK K
      try simp only [Act.put, List.setIfInBounds_toArray, List.set_cons_zero, List.set_cons_succ]
      refine px_quiet (v := ?_) rfl (by rfl) (fun wq hwq => ?_) rfl ?_
      rotate_left 1
      · clear hwq
        go_simp
        try (with_reducible rfl)
      try simp only [List.setIfInBounds_toArray, List.set_cons_zero, List.set_cons_succ]
      refine px_done ?_
      go_wp2
      refine ret_blk2 2 3 58 58 rb (cellsM m2 tt) _ rfl rfl HF1.out Try.underlying58 rfl (infoM m2 tt) rfl _ rfl ?_
      exact HFIN.out _ tt HTT.out (HKX.out.trans HF2.out (fun _ _ h => h) (fun i hi e => by have h1 := HRB.out; have e2 : i = rb := e; omega))
    by_cases h91 : k = 91
    · subst h91
      go_wp2_with fail
      clear hc0
      refine (readB_any g b _ s2 _ HG5.out.mr).mono ?_
      rintro e w6 ⟨rfl, hm, hk⟩
      have HGx := Lib.hid (HG5.out.next hm hk)
      clear hm hk HG5
      obtain ⟨wx, rfl⟩ : ∃ wx : World, wx = w6 := ⟨_, rfl⟩
      have HRS := Lib.hid (readS_of (p := p) HHD.out (show bodyS _ s2 = ((bndS { msg0 91 with tgt := n } s2).1, (bndS { msg0 91 with tgt := n } s2).2) from rfl) rfl)
      generalize (bndS { msg0 91 with tgt := n } s2).1 = m2 at HGx HRS
      generalize (bndS { msg0 91 with tgt := n } s2).2 = s3 at HGx HRS
      have HFIN := Lib.hid (read_fin (w := w) (s2 := s3) HRS.out)
      clear HRS HHD H90 H256 HNS HKS HBG
      go_upto_region 25 with (fail)
      obtain ⟨tt, htt, hblk⟩ := HGx.out.mr.m
      have HTT := Lib.hid htt
      have HBL := Lib.hid (hblk.kp0 (Kp.refl _ wx).drew)
      have HRR := Lib.hid (HGx.out.mr.r.keep (Kp.refl (fun _ => False) wx).drew (fun h => h))
      have HRE := Lib.hid (HGx.out.res.kp0 (Kp.refl _ wx).drew)
      have HKX : Hid (Kp0 w wx.drew) := Lib.hid HGx.out.k.drew
      have HRB := Lib.hid HGx.out.h1
      clear htt hblk HGx
      refine wp_region_px 4 [3] (fun w' : World => w' = wx.drew) (.quiet 0 (.quiet 1 (.eff 2 (.wall 3 (.quiet 4 .done))))) (by kernel_rfl) (by kernel_rfl) (by kernel_rfl) (by kernel_rfl) (fun _ d _ _ _ h => by cases d <;> exact h) rfl ?_
      generalize wx.drew = wd at HBL HRR HRE HKX ⊢
      refine px_quiet (v := .agg (cellsM m2 tt).toArray) rfl (by rfl) (fun wq hwq => ?_) rfl ?_
      · rw [hwq]
        exact run_load_blk 58 (.tmp 5) rfl g _ _ rfl HBL.out _ Try.underlying58 rfl (infoM m2 tt)
      try simp only [List.setIfInBounds_toArray, List.set_cons_zero, List.set_cons_succ]
      refine px_quiet (v := ?_) rfl (by rfl) (fun wq hwq => ?_) rfl ?_
      rotate_left 1
      · rw [hwq]
        clear hwq wq
        go_simp
        try (with_reducible rfl)
      try simp only [List.setIfInBounds_toArray, List.set_cons_zero, List.set_cons_succ]
      refine px_eff rfl (by rfl) (fun K hK => ?_)
      go_simp
      refine (end_rs b s3 _ HRR.out).mono ?_
      rintro e w' ⟨rfl, rfl⟩
      simp only []
      refine hK (fun w' : World => w' = wd) _ _ (fun x h => h) rfl ?_
      clear hK K
      refine px_wall rfl (by rfl) (fun K hK => ?_)
      refine wp_store_blk 58 (.tmp 2) _ rfl rb _ _ (cellsM m2 tt) rfl rfl HRE.out (infoM m2 tt) rfl (onesM m2 tt) (fun wf hf1 hf2 => ?_)
      have HF1 := Lib.hid hf1
      have HF2 := Lib.hid hf2
      clear hf1 hf2
      refine hK (fun _ => True) _ _ trivial ?_
      clear hK K
      try simp only [Act.put, List.setIfInBounds_toArray, List.set_cons_zero, List.set_cons_succ]
      refine px_quiet (v := ?_) rfl (by rfl) (fun wq hwq => ?_) rfl ?_
      rotate_left 1
      · clear hwq
        go_simp
        try (with_reducible rfl)
      try simp only [List.setIfInBounds_toArray, List.set_cons_zero, List.set_cons_succ]
      refine px_done ?_
      go_wp2
      refine ret_blk2 2 3 58 58 rb (cellsM m2 tt) _ rfl rfl HF1.out Try.underlying58 rfl (infoM m2 tt) rfl _ rfl ?_
      exact HFIN.out _ tt HTT.out (HKX.out.trans HF2.out (fun _ _ h => h) (fun i hi e => by have h1 := HRB.out; have e2 : i = rb := e; omega))
    by_cases h93 : k = 93
    · subst h93
      go_wp2_with fail
      clear hc0
      refine (u32_rs b s2 _ HG5.out.mr.r).mono ?_
      rintro e w7 ⟨rfl, hr, hk⟩
      have HG7 := Lib.hid (HG5.out.next (HG5.out.mr.read hr hk) (kp_at hk))
      obtain ⟨t, _, _, _, _, hc3, _, _, _, _, hfz⟩ := HG7.out.mr.m.cells
      have hf3 := hfz 3
      clear hr hk hfz HG5
      go_upto_region 25 with (fail)
      have HGx := Lib.hid (HG7.out.next (HG7.out.mr.put (m' := { msg0 93 with tgt := n, win := (u32S s2).1 }) 3 (.int .u32 ((u32S s2).1 : Int)) (fun _ => rfl) rfl) (kp_put (Kp.refl _ _) 3 (.int .u32 ((u32S s2).1 : Int))))
      generalize (w7.setCell ⟨g, 3, none⟩ (.int .u32 ((u32S s2).1 : Int))) = w6 at HGx ⊢
      clear hc3 hf3 HG7
      obtain ⟨wx, rfl⟩ : ∃ wx : World, wx = w6 := ⟨_, rfl⟩
      have HRS := Lib.hid (readS_of (p := p) HHD.out (show bodyS _ s2 = (({ msg0 93 with tgt := n, win := (u32S s2).1 } : Msg), (u32S s2).2) from rfl) rfl)
      generalize ({ msg0 93 with tgt := n, win := (u32S s2).1 } : Msg) = m2 at HGx HRS
      generalize (u32S s2).2 = s3 at HGx HRS
      have HFIN := Lib.hid (read_fin (w := w) (s2 := s3) HRS.out)
      clear HRS HHD H90 H256 HNS HKS HBG
      obtain ⟨tt, htt, hblk⟩ := HGx.out.mr.m
      have HTT := Lib.hid htt
      have HBL := Lib.hid (hblk.kp0 (Kp.refl _ wx).drew)
      have HRR := Lib.hid (HGx.out.mr.r.keep (Kp.refl (fun _ => False) wx).drew (fun h => h))
      have HRE := Lib.hid (HGx.out.res.kp0 (Kp.refl _ wx).drew)
      have HKX : Hid (Kp0 w wx.drew) := Lib.hid HGx.out.k.drew
      have HRB := Lib.hid HGx.out.h1
      clear htt hblk HGx
      refine wp_region_px 4 [3] (fun w' : World => w' = wx.drew) (.quiet 0 (.quiet 1 (.eff 2 (.wall 3 (.quiet 4 .done))))) (by kernel_rfl) (by kernel_rfl) (by kernel_rfl) (by kernel_rfl) (fun _ d _ _ _ h => by cases d <;> exact h) rfl ?_
      generalize wx.drew = wd at HBL HRR HRE HKX ⊢
      refine px_quiet (v := .agg (cellsM m2 tt).toArray) rfl (by rfl) (fun wq hwq => ?_) rfl ?_
      · rw [hwq]
        exact run_load_blk 58 (.tmp 5) rfl g _ _ rfl HBL.out _ Try.underlying58 rfl (infoM m2 tt)
      try simp only [List.setIfInBounds_toArray, List.set_cons_zero, List.set_cons_succ]
      refine px_quiet (v := ?_) rfl (by rfl) (fun wq hwq => ?_) rfl ?_
      rotate_left 1
      · rw [hwq]
        clear hwq wq
        go_simp
        try (with_reducible rfl)
      try simp only [List.setIfInBounds_toArray, List.set_cons_zero, List.set_cons_succ]
      refine px_eff rfl (by rfl) (fun K hK => ?_)
      go_simp
      refine (end_rs b s3 _ HRR.out).mono ?_
      rintro e w' ⟨rfl, rfl⟩
      simp only []
      refine hK (fun w' : World => w' = wd) _ _ (fun x h => h) rfl ?_
      clear hK K
      refine px_wall rfl (by rfl) (fun K hK => ?_)
      refine wp_store_blk 58 (.tmp 2) _ rfl rb _ _ (cellsM m2 tt) rfl rfl HRE.out (infoM m2 tt) rfl (onesM m2 tt) (fun wf hf1 hf2 => ?_)
      have HF1 := Lib.hid hf1
      have HF2 := Lib.hid hf2
      clear hf1 hf2
      refine hK (fun _ => True) _ _ trivial ?_
      clear hK K
      try simp only [Act.put, List.setIfInBounds_toArray, List.set_cons_zero, List.set_cons_succ]
      refine px_quiet (v := ?_) rfl (by rfl) (fun wq hwq => ?_) rfl ?_
      rotate_left 1
      · clear hwq
        go_simp
        try (with_reducible rfl)
      try simp only [List.setIfInBounds_toArray, List.set_cons_zero, List.set_cons_succ]
      refine px_done ?_
      go_wp2
      refine ret_blk2 2 3 58 58 rb (cellsM m2 tt) _ rfl rfl HF1.out Try.underlying58 rfl (infoM m2 tt) rfl _ rfl ?_
      exact HFIN.out _ tt HTT.out (HKX.out.trans HF2.out (fun _ _ h => h) (fun i hi e => by have h1 := HRB.out; have e2 : i = rb := e; omega))
    by_cases h94 : k = 94
    · subst h94
      obtain ⟨⟨tx0, s4⟩, hts⟩ : ∃ r, r = textS s2 := ⟨_, rfl⟩
      have HTS := Lib.hid hts
      clear hts
      go_wp2_with fail
      clear hc0
      refine (text_rs b s2 _ HG5.out.mr.r).mono ?_
      rw [← HTS.out]
      rintro e w7 ⟨tb, rfl, htb, hr, hk⟩
      have HG7 := Lib.hid (HG5.out.next (HG5.out.mr.read hr hk) (kp_at hk))
      have HTB := Lib.hid htb
      obtain ⟨t, _, _, _, _, _, _, hc5, _, _, hfz⟩ := HG7.out.mr.m.cells
      have hf5 := hfz 5
      clear hr hk hfz htb HG5
      simp only [] at HG7 HTB
      go_upto_region 25 with (fail)
      have HGx := Lib.hid (HG7.out.next (HG7.out.mr.putT tb tx0 HTB.out) (kp_put (Kp.refl _ _) 5 (.string tb)))
      generalize (w7.setCell ⟨g, 5, none⟩ (.string tb)) = w6 at HGx ⊢
      clear hc5 hf5 HG7
      obtain ⟨wx, rfl⟩ : ∃ wx : World, wx = w6 := ⟨_, rfl⟩
      have HRS := Lib.hid (readS_of (p := p) HHD.out (show bodyS _ s2 = (({ msg0 94 with tgt := n, text := tx0 } : Msg), s4) from (by unfold bodyS; rw [← HTS.out]; rfl)) rfl)
      generalize ({ msg0 94 with tgt := n, text := tx0 } : Msg) = m2 at HGx HRS
      obtain ⟨s3, rfl⟩ : ∃ s3 : RS, s3 = s4 := ⟨_, rfl⟩
      have HFIN := Lib.hid (read_fin (w := w) (s2 := s3) HRS.out)
      clear HRS HHD H90 H256 HNS HKS HBG
      obtain ⟨tt, htt, hblk⟩ := HGx.out.mr.m
      have HTT := Lib.hid htt
      have HBL := Lib.hid (hblk.kp0 (Kp.refl _ wx).drew)
      have HRR := Lib.hid (HGx.out.mr.r.keep (Kp.refl (fun _ => False) wx).drew (fun h => h))
      have HRE := Lib.hid (HGx.out.res.kp0 (Kp.refl _ wx).drew)
      have HKX : Hid (Kp0 w wx.drew) := Lib.hid HGx.out.k.drew
      have HRB := Lib.hid HGx.out.h1
      clear htt hblk HGx
      refine wp_region_px 4 [3] (fun w' : World => w' = wx.drew) (.quiet 0 (.quiet 1 (.eff 2 (.wall 3 (.quiet 4 .done))))) (by kernel_rfl) (by kernel_rfl) (by kernel_rfl) (by kernel_rfl) (fun _ d _ _ _ h => by cases d <;> exact h) rfl ?_
      generalize wx.drew = wd at HBL HRR HRE HKX ⊢
      refine px_quiet (v := .agg (cellsM m2 tt).toArray) rfl (by rfl) (fun wq hwq => ?_) rfl ?_
      · rw [hwq]
        exact run_load_blk 58 (.tmp 5) rfl g _ _ rfl HBL.out _ Try.underlying58 rfl (infoM m2 tt)
      try simp only [List.setIfInBounds_toArray, List.set_cons_zero, List.set_cons_succ]
      refine px_quiet (v := ?_) rfl (by rfl) (fun wq hwq => ?_) rfl ?_
      rotate_left 1
      · rw [hwq]
        clear hwq wq
        go_simp
        try (with_reducible rfl)
      try simp only [List.setIfInBounds_toArray, List.set_cons_zero, List.set_cons_succ]
      refine px_eff rfl (by rfl) (fun K hK => ?_)
      go_simp
      refine (end_rs b s3 _ HRR.out).mono ?_
      rintro e w' ⟨rfl, rfl⟩
      simp only []
      refine hK (fun w' : World => w' = wd) _ _ (fun x h => h) rfl ?_
      clear hK K
      refine px_wall rfl (by rfl) (fun K hK => ?_)
      refine wp_store_blk 58 (.tmp 2) _ rfl rb _ _ (cellsM m2 tt) rfl rfl HRE.out (infoM m2 tt) rfl (onesM m2 tt) (fun wf hf1 hf2 => ?_)
      have HF1 := Lib.hid hf1
      have HF2 := Lib.hid hf2
      clear hf1 hf2
      refine hK (fun _ => True) _ _ trivial ?_
      clear hK K
      try simp only [Act.put, List.setIfInBounds_toArray, List.set_cons_zero, List.set_cons_succ]
      refine px_quiet (v := ?_) rfl (by rfl) (fun wq hwq => ?_) rfl ?_
      rotate_left 1
      · clear hwq
        go_simp
        try (with_reducible rfl)
      try simp only [List.setIfInBounds_toArray, List.set_cons_zero, List.set_cons_succ]
      refine px_done ?_
      go_wp2
      refine ret_blk2 2 3 58 58 rb (cellsM m2 tt) _ rfl rfl HF1.out Try.underlying58 rfl (infoM m2 tt) rfl _ rfl ?_
      exact HFIN.out _ tt HTT.out (HKX.out.trans HF2.out (fun _ _ h => h) (fun i hi e => by have h1 := HRB.out; have e2 : i = rb := e; omega))
    by_cases h98 : k = 98
    · subst h98
      go_wp2_with fail
      clear hc0
      refine (readQ_any g b _ s2 _ HG5.out.mr rfl).mono ?_
      rintro e w6 ⟨rfl, hm, hk⟩
      have HGx := Lib.hid (HG5.out.next hm hk)
      clear hm hk HG5
      obtain ⟨wx, rfl⟩ : ∃ wx : World, wx = w6 := ⟨_, rfl⟩
      have HRS := Lib.hid (readS_of (p := p) HHD.out (show bodyS _ s2 = ((reqS { msg0 98 with tgt := n } s2).1, (reqS { msg0 98 with tgt := n } s2).2) from rfl) rfl)
      generalize (reqS { msg0 98 with tgt := n } s2).1 = m2 at HGx HRS
      generalize (reqS { msg0 98 with tgt := n } s2).2 = s3 at HGx HRS
      have HFIN := Lib.hid (read_fin (w := w) (s2 := s3) HRS.out)
      clear HRS HHD H90 H256 HNS HKS HBG
      go_upto_region 18 with (fail)
      obtain ⟨tt, htt, hblk⟩ := HGx.out.mr.m
      have HTT := Lib.hid htt
      have HBL := Lib.hid (hblk.kp0 (Kp.refl _ wx).drew)
      have HRR := Lib.hid (HGx.out.mr.r.keep (Kp.refl (fun _ => False) wx).drew (fun h => h))
      have HRE := Lib.hid (HGx.out.res.kp0 (Kp.refl _ wx).drew)
      have HKX : Hid (Kp0 w wx.drew) := Lib.hid HGx.out.k.drew
      have HRB := Lib.hid HGx.out.h1
      clear htt hblk HGx
      refine wp_region_px 4 [3] (fun w' : World => w' = wx.drew) (.quiet 0 (.quiet 1 (.eff 2 (.wall 3 (.quiet 4 .done))))) (by kernel_rfl) (by kernel_rfl) (by kernel_rfl) (by kernel_rfl) (fun _ d _ _ _ h => by cases d <;> exact h) rfl ?_
      generalize wx.drew = wd at HBL HRR HRE HKX ⊢
      refine px_quiet (v := .agg (cellsM m2 tt).toArray) rfl (by rfl) (fun wq hwq => ?_) rfl ?_
      · rw [hwq]
        exact run_load_blk 58 (.tmp 5) rfl g _ _ rfl HBL.out _ Try.underlying58 rfl (infoM m2 tt)
      try simp only [List.setIfInBounds_toArray, List.set_cons_zero, List.set_cons_succ]
      refine px_quiet (v := ?_) rfl (by rfl) (fun wq hwq => ?_) rfl ?_
      rotate_left 1
      · rw [hwq]
        clear hwq wq
        go_simp
        try (with_reducible rfl)
      try simp only [List.setIfInBounds_toArray, List.set_cons_zero, List.set_cons_succ]
      refine px_eff rfl (by rfl) (fun K hK => ?_)
      go_simp
      refine (ok_rs b s3 _ HRR.out).mono ?_
      rintro e w' ⟨rfl, rfl⟩
      simp only []
      refine hK (fun w' : World => w' = wd) _ _ (fun x h => h) rfl ?_
      clear hK K
      refine px_wall rfl (by rfl) (fun K hK => ?_)
      refine wp_store_blk 58 (.tmp 2) _ rfl rb _ _ (cellsM m2 tt) rfl rfl HRE.out (infoM m2 tt) rfl (onesM m2 tt) (fun wf hf1 hf2 => ?_)
      have HF1 := Lib.hid hf1
      have HF2 := Lib.hid hf2
      clear hf1 hf2
      refine hK (fun _ => True) _ _ trivial ?_
      clear hK K
      try simp only [Act.put, List.setIfInBounds_toArray, List.set_cons_zero, List.set_cons_succ]
      refine px_quiet (v := ?_) rfl (by rfl) (fun wq hwq => ?_) rfl ?_
      rotate_left 1
      · clear hwq
        go_simp
        try (with_reducible rfl)
      try simp only [List.setIfInBounds_toArray, List.set_cons_zero, List.set_cons_succ]
      refine px_done ?_
      go_wp2
      refine ret_blk2 2 3 58 58 rb (cellsM m2 tt) _ rfl rfl HF1.out Try.underlying58 rfl (infoM m2 tt) rfl _ rfl ?_
      exact HFIN.out _ tt HTT.out (HKX.out.trans HF2.out (fun _ _ h => h) (fun i hi e => by have h1 := HRB.out; have e2 : i = rb := e; omega))
    have hb91 : ((k : Int) == 91) = false := by rw [beq_eq_false_iff_ne]; omega
    have hb92 : ((k : Int) == 92) = false := by rw [beq_eq_false_iff_ne]; omega
    have hb93 : ((k : Int) == 93) = false := by rw [beq_eq_false_iff_ne]; omega
    have hb94 : ((k : Int) == 94) = false := by rw [beq_eq_false_iff_ne]; omega
    have hb96 : ((k : Int) == 96) = false := by rw [beq_eq_false_iff_ne]; omega
    have hb97 : ((k : Int) == 97) = false := by rw [beq_eq_false_iff_ne]; omega
    have hb98 : ((k : Int) == 98) = false := by rw [beq_eq_false_iff_ne]; omega
    have hb99 : ((k : Int) == 99) = false := by rw [beq_eq_false_iff_ne]; omega
    have hb100 : ((k : Int) == 100) = false := by rw [beq_eq_false_iff_ne]; omega
    have hb90 : ((k : Int) == 90) = false := by have := H90.out; rw [beq_eq_false_iff_ne]; omega
    have hkn : known k = false := by
      have := H90.out
      unfold known
      simp only [Bool.or_eq_false_iff, beq_eq_false_iff_ne]
      omega
    have HRS : Hid (readS p = if false then some (msg0 0) else none) := Lib.hid (by
      unfold readS
      rw [HHD.out]
      simp only []
      rw [show ({ msg0 k with tgt := n } : Msg).kind = k from rfl, hkn, Bool.false_and]
      rfl)
    have HFIN := Lib.hid (read_fin (w := w) (s2 := s2) (m2 := msg0 0) (ok := false) HRS.out)
    have HRE := Lib.hid HG5.out.res
    have HKX := Lib.hid HG5.out.k
    have HRB := Lib.hid HG5.out.h1
    clear HG5 HRS HHD hkn h91 h92 h93 h94 h96 h97 h98 h99 h100 H90
    go_wp2_with (refine wl_store_blk rfl 58 (.tmp 2) (.tmp 19) rfl rb _ _ (cellsM (msg0 0) { data := #[] }) rfl rfl HRE.out (infoM _ _) rfl (onesM _ _) ?_; intro w6 hA6 hK6; have HA6 := Lib.hid hA6; have HK6 := Lib.hid hK6; clear hA6 hK6)
    refine ret_blk2 2 3 58 58 rb (cellsM (msg0 0) { data := #[] }) _ rfl rfl HA6.out Try.underlying58 rfl (infoM (msg0 0) { data := #[] }) rfl _ rfl ?_
    exact HFIN.out _ { data := #[] } nil_toList (HKX.out.trans HK6.out (fun _ _ h => h) (fun i hi e => by have h1 := HRB.out; have e2 : i = rb := e; omega))
end Go.Proofs.Ytbifdckmkogbgaa
