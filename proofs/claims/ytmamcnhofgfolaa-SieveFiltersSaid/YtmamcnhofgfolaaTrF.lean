/- The reference of layer 14: which node stands ahead. -/
import Derived.Test.YtmamcnhofgfolaaTrE
namespace Go.Proofs.Ytmamcnhofgfolaa
open Go Go.RowKit
theorem KeyA.get {w w' : World} {o : Option (List (List UInt8))} {e : Ending} (h : KeyA w w' o e) : ∃ v, e = .returned (.tuple #[v, .bool o.isSome]) ∧ RdF (fun i => w.heap.size ≤ i) w' 1 v (o.getD []).length (txs (o.getD [])) := by
  cases o with
  | none => exact ⟨_, h, RdF.nil _ _ _⟩
  | some l => exact h
def keyD (ds : List PD) (i : Nat) (n : PN) : List (List UInt8) := match ds[i]? with
  | some d => (keyT d.ky n.ks).getD []
  | none => []
/-- Does a node stand ahead of another one? -/
def befM (ds : List PD) (a b : PN) : Option Nat → Option Nat → Bool
  | some i, some k => if i = k then decide (cmpT (keyD ds i a) (keyD ds i b) < 0) else decide (i < k)
  | i, k => decide (plI i < plI k)
def befT (ds : List PD) (a b : PN) : Bool := befM ds a b (plc ds a.nm) (plc ds b.nm)
theorem plc_lt {ds : List PD} {nm : List UInt8} {i : Nat} (h : plc ds nm = some i) : i < ds.length := by
  have := List.findIdx?_eq_some_iff_getElem.1 h
  exact this.1
def kyOk (ds : List PD) : Prop := ∀ d ∈ ds, d.ky.length ≤ 1000000
def dvl (d : PD) (a b c : Value) : List Value := [.string (S d.nm), .int .i64 d.kd, .int .i64 d.ty, a, .bool d.mu, b, c]
def nvl (n : PN) (v : Value) : List Value := [.string (S n.nm), .string (S n.vl), v]
theorem infoNd {n : PN} {v : Value} : (Try.prog.info? 40).map (·.size) = some (nvl n v).length := by
  show _ = some 3
  kernel_rfl
theorem infoDf {d : PD} {a b c : Value} : (Try.prog.info? 35).map (·.size) = some (dvl d a b c).length := by
  show _ = some 7
  kernel_rfl
theorem plI_neg {o : Option Nat} : plI o < 0 ↔ o = none := by
  cases o with
  | none => simp [plI]
  | some i => simp only [plI, reduceCtorEq, iff_false]; omega
theorem befM_else {ds : List PD} {x y : PN} {px py : Option Nat} (h : ¬ ∃ i, px = some i ∧ py = some i) : befM ds x y px py = decide (plI px < plI py) ∧ (plI px ≠ plI py ∨ (plI px = plI py ∧ plI px < 0)) := by
  cases px with
  | none =>
    cases py with
    | none => exact ⟨rfl, .inr ⟨rfl, by decide⟩⟩
    | some k => exact ⟨rfl, .inl (by simp only [plI]; omega)⟩
  | some i =>
    cases py with
    | none => exact ⟨rfl, .inl (by simp only [plI]; omega)⟩
    | some k =>
      have hne : i ≠ k := fun e => h ⟨i, rfl, by rw [e]⟩
      refine ⟨?_, .inl (by simp only [plI]; omega)⟩
      show (if i = k then _ else _) = _
      rw [if_neg hne]
      simp only [plI]
      exact decide_eq_decide.2 (by omega)
set_option maxRecDepth 20000 in
set_option maxHeartbeats 4000000 in
theorem before_any {F G H : Nat → Prop} (ds : List PD) (x y : PN) (lv xv yv : Value) (w : World) (hd : RowD F w lv ds) (hx : RowN G w xv x.ks) (hy : RowN H w yv y.ks) (hl : kyOk ds) :
    Calls Try.prog 44 #[lv, NodA x xv, NodA y yv] w fun e w' => e = .returned (.bool (befT ds x y)) ∧ Kp0 w w' := by
  have HD := Lib.hid hd
  have HX := Lib.hid hx
  have HY := Lib.hid hy
  have HL := Lib.hid hl
  obtain ⟨ao, ca, rfl, _, _, _⟩ := hd.shape
  clear hd hx hy hl
  unfold NodA
  go_enter Try.func44, Try.ntmps44
  go_upto_region 1 with (fail)
  have HB : Hid (Bks w ((w.alloc (.cells #[.string (S x.nm), .string (S x.vl), xv] 40)).alloc (.cells #[.string (S y.nm), .string (S y.vl), yv] 40)) [(w.heap.size, 40, nvl x xv), (w.heap.size + 1, 40, nvl y yv)]) :=
    Lib.hid (((Bks.nil w).push 40 (nvl x xv) rfl).push 40 (nvl y yv) (g := w.heap.size + 1) (by simp))
  generalize (w.alloc (.cells #[.string (S x.nm), .string (S x.vl), xv] 40)).alloc (.cells #[.string (S y.nm), .string (S y.vl), yv] 40) = w1 at HB ⊢
  obtain ⟨g4, hg4⟩ : ∃ x, x = w.heap.size := ⟨_, rfl⟩
  obtain ⟨g5, hg5⟩ : ∃ x, x = w.heap.size + 1 := ⟨_, rfl⟩
  rw [← hg5, ← hg4] at HB
  rw [← hg5, ← hg4]
  clear hg4 hg5
  have HKW := Lib.hid HB.out.kp
  have HD := Lib.hid (HD.out.kp0 HKW.out)
  have HX := Lib.hid (HX.out.kp0 HKW.out)
  have HY := Lib.hid (HY.out.kp0 HKW.out)
  refine wp_region_px 10 [] (fun w' : World => Kp0 w1 w') (.quiet 0 (.quiet 1 (.quiet 2 (.quiet 4 (.quiet 5 (.quiet 6 (.eff 3 (.eff 7 (.quiet 8 (.quiet 9 .done)))))))))) (by kernel_rfl) (by kernel_rfl) (by kernel_rfl) (by kernel_rfl) (fun _ d _ _ _ h => by cases d <;> exact h) (Kp.refl _ _).drew ?_
  have HK : Hid (Kp0 w1 w1.drew) := Lib.hid (Kp.refl _ _).drew
  generalize w1.drew = v0 at HK ⊢
  iterate 6 (refine px_quiet (v := ?_) rfl (by rfl) (fun wq hwq => ?_) rfl ?_; rotate_left 1; (focus (have c0 := ((HB.out.kp0 hwq).at 0 rfl).cellV 0 rfl; have c1 := ((HB.out.kp0 hwq).at 1 rfl).cellV 0 rfl; go_simp; try (with_reducible rfl); done)); try simp only [List.setIfInBounds_toArray, List.set_cons_zero, List.set_cons_succ])
  refine px_eff rfl (by rfl) (fun K hK => ?_)
  go_simp
  refine (place_any ds _ x.nm v0 (HD.out.kp0 HK.out)).mono ?_
  rintro e v1 ⟨rfl, hk⟩
  simp only []
  have HK := Lib.hid (HK.out.tr hk)
  refine hK (fun w' => Kp0 w1 w') _ _ (fun _ h => h) HK.out ?_
  clear hK K hk
  try simp only [List.setIfInBounds_toArray, List.set_cons_zero, List.set_cons_succ]
  refine px_eff rfl (by rfl) (fun K hK => ?_)
  go_simp
  refine (place_any ds _ y.nm v1 (HD.out.kp0 HK.out)).mono ?_
  rintro e v2 ⟨rfl, hk⟩
  simp only []
  have HK := Lib.hid (HK.out.tr hk)
  refine hK (fun w' => Kp0 w1 w') _ _ (fun _ h => h) HK.out ?_
  clear hK K hk
  try simp only [List.setIfInBounds_toArray, List.set_cons_zero, List.set_cons_succ]
  iterate 2 (refine px_quiet (v := ?_) rfl (by rfl) (fun wq hwq => ?_) rfl ?_; rotate_left 1; (focus (clear hwq; go_simp; try (with_reducible rfl); done)); try simp only [List.setIfInBounds_toArray, List.set_cons_zero, List.set_cons_succ])
  refine px_done ?_
  obtain ⟨px, hpx⟩ : ∃ p, p = plc ds x.nm := ⟨_, rfl⟩
  obtain ⟨py, hpy⟩ : ∃ p, p = plc ds y.nm := ⟨_, rfl⟩
  rw [← hpx, ← hpy]
  have HPX := Lib.hid hpx
  have HPY := Lib.hid hpy
  clear hpx hpy
  have HBF : Hid (befT ds x y = befM ds x y px py) := Lib.hid (by rw [HPX.out, HPY.out]; rfl)
  by_cases hs : ∃ i, px = some i ∧ py = some i
  · obtain ⟨i, rfl, rfl⟩ := hs
    have hi := plc_lt HPX.out.symm
    have f1 : (plI (some i) == plI (some i)) = true := beq_self_eq_true _
    have f2 : ¬ plI (some i) < 0 := by rw [plI_neg]; simp
    have f3 : plI (some i) = (i : Int) := rfl
    have i1 : (i : Int) < (ds.length : Int) := by omega
    obtain ⟨b0, o0, cap0, da, db, dc, e0, _, _, D0, D1, D2, D3, D4, D5, D6, hdr, _, _⟩ := HD.out.at i hi
    simp only [Value.slice.injEq] at e0
    obtain ⟨rfl, _, rfl⟩ := e0
    have D0 := Lib.hid D0
    have D1 := Lib.hid D1
    have D2 := Lib.hid D2
    have D3 := Lib.hid D3
    have D4 := Lib.hid D4
    have D5 := Lib.hid D5
    have D6 := Lib.hid D6
    have HDR := Lib.hid hdr
    have HKY := Lib.hid (HL.out _ (List.getElem_mem hi))
    have HKD : Hid (∀ n : PN, keyD ds i n = (keyT (ds[i]'hi).ky n.ks).getD []) := Lib.hid (fun n => by unfold keyD; rw [List.getElem?_eq_getElem hi])
    generalize ds[i]'hi = d at D0 D1 D2 D3 D4 D5 D6 HDR HKY HKD
    have HBF : Hid (befT ds x y = decide (cmpT ((keyT d.ky x.ks).getD []) ((keyT d.ky y.ks).getD []) < 0)) := Lib.hid (by
      rw [HBF.out]
      show (if i = i then _ else _) = _
      rw [if_pos rfl, HKD.out, HKD.out])
    rw [f3] at f1 f2 ⊢
    clear f3 hdr
    go_upto_region 4 with (fail)
    refine wp_region_px 11 [] (fun w' : World => Kp0 w1 w') (.quiet 0 (.quiet 1 (.quiet 2 (.quiet 3 (.quiet 4 (.eff 5 (.quiet 6 (.quiet 7 (.quiet 8 (.quiet 9 (.quiet 10 .done))))))))))) (by kernel_rfl) (by kernel_rfl) (by kernel_rfl) (by kernel_rfl) (fun _ d _ _ _ h => by cases d <;> exact h) HK.out.drew ?_
    have HK := Lib.hid HK.out.drew
    generalize v2.drew = x0 at HK ⊢
    iterate 4 (refine px_quiet (v := ?_) rfl (by rfl) (fun wq hwq => ?_) rfl ?_; rotate_left 1; (focus (have c0 := hwq.cell D0.out (fun h => h); have c1 := hwq.cell D1.out (fun h => h); have c2 := hwq.cell D2.out (fun h => h); have c3 := hwq.cell D3.out (fun h => h); have c4 := hwq.cell D4.out (fun h => h); have c5 := hwq.cell D5.out (fun h => h); have c6 := hwq.cell D6.out (fun h => h); go_simp; try (with_reducible rfl); done)); try simp only [List.setIfInBounds_toArray, List.set_cons_zero, List.set_cons_succ])
    refine px_quiet (v := .agg (nvl x xv).toArray) rfl (by rfl) (fun wq hwq => ?_) rfl ?_
    focus exact run_load_blk 40 (.tmp 4) rfl _ _ (nvl x xv) rfl ((HB.out.kp0 hwq).at 0 rfl) _ Try.underlying40 rfl infoNd
    try simp only [List.setIfInBounds_toArray, List.set_cons_zero, List.set_cons_succ]
    refine px_eff rfl (by rfl) (fun K hK => ?_)
    go_simp
    refine (key_any d x da db dc xv x0 (HDR.out.kp0 HK.out) (HX.out.kp0 HK.out) HKY.out).mono ?_
    rintro e v3 ⟨ha, hk⟩
    obtain ⟨k9, rfl, hrk⟩ := ha.get
    have HR9 := Lib.hid hrk
    simp only []
    skip
    have HK := Lib.hid (HK.out.tr hk)
    refine hK (fun w' => Kp0 w1 w') _ _ (fun _ h => h) HK.out ?_
    clear hK K hk ha hrk
    try simp only [List.setIfInBounds_toArray, List.set_cons_zero, List.set_cons_succ]
    iterate 5 (refine px_quiet (v := ?_) rfl (by rfl) (fun wq hwq => ?_) rfl ?_; rotate_left 1; (focus (clear hwq; go_simp; try (with_reducible rfl); done)); try simp only [List.setIfInBounds_toArray, List.set_cons_zero, List.set_cons_succ])
    refine px_done ?_
    go_upto_region 5 with (fail)
    refine wp_region_px 11 [] (fun w' : World => Kp0 w1 w') (.quiet 0 (.quiet 1 (.quiet 2 (.quiet 3 (.quiet 4 (.eff 5 (.quiet 6 (.quiet 7 (.quiet 8 (.quiet 9 (.quiet 10 .done))))))))))) (by kernel_rfl) (by kernel_rfl) (by kernel_rfl) (by kernel_rfl) (fun _ d _ _ _ h => by cases d <;> exact h) HK.out.drew ?_
    have HK := Lib.hid HK.out.drew
    have HR9 := Lib.hid (HR9.out.kp0 (Kp.refl (fun _ => False) v3).drew)
    generalize v3.drew = x0 at HK HR9 ⊢
    iterate 4 (refine px_quiet (v := ?_) rfl (by rfl) (fun wq hwq => ?_) rfl ?_; rotate_left 1; (focus (have c0 := hwq.cell D0.out (fun h => h); have c1 := hwq.cell D1.out (fun h => h); have c2 := hwq.cell D2.out (fun h => h); have c3 := hwq.cell D3.out (fun h => h); have c4 := hwq.cell D4.out (fun h => h); have c5 := hwq.cell D5.out (fun h => h); have c6 := hwq.cell D6.out (fun h => h); go_simp; try (with_reducible rfl); done)); try simp only [List.setIfInBounds_toArray, List.set_cons_zero, List.set_cons_succ])
    refine px_quiet (v := .agg (nvl y yv).toArray) rfl (by rfl) (fun wq hwq => ?_) rfl ?_
    focus exact run_load_blk 40 (.tmp 5) rfl _ _ (nvl y yv) rfl ((HB.out.kp0 hwq).at 1 rfl) _ Try.underlying40 rfl infoNd
    try simp only [List.setIfInBounds_toArray, List.set_cons_zero, List.set_cons_succ]
    refine px_eff rfl (by rfl) (fun K hK => ?_)
    go_simp
    refine (key_any d y da db dc yv x0 (HDR.out.kp0 HK.out) (HY.out.kp0 HK.out) HKY.out).mono ?_
    rintro e v4 ⟨ha, hk⟩
    obtain ⟨k11, rfl, hrk⟩ := ha.get
    have HR11 := Lib.hid hrk
    simp only []
    have HR9 := Lib.hid (HR9.out.kp0 hk)
    have HK := Lib.hid (HK.out.tr hk)
    refine hK (fun w' => Kp0 w1 w') _ _ (fun _ h => h) HK.out ?_
    clear hK K hk ha hrk
    try simp only [List.setIfInBounds_toArray, List.set_cons_zero, List.set_cons_succ]
    iterate 5 (refine px_quiet (v := ?_) rfl (by rfl) (fun wq hwq => ?_) rfl ?_; rotate_left 1; (focus (clear hwq; go_simp; try (with_reducible rfl); done)); try simp only [List.setIfInBounds_toArray, List.set_cons_zero, List.set_cons_succ])
    refine px_done ?_
    go_wp2_with (go_at_call 43; refine (compare_any _ _ _ _ _ HR9.out HR11.out).mono ?_; rintro e v5 ⟨rfl, hk⟩; have HK5 := Lib.hid (HK.out.tr hk); clear hk)
    go_ret
    exact ⟨by rw [HBF.out]; rfl, HKW.out.tr HK5.out⟩
  · obtain ⟨he, hq⟩ := befM_else (ds := ds) (x := x) (y := y) hs
    have HE := Lib.hid he
    clear hs he
    obtain ⟨a1, ha1⟩ : ∃ a, a = plI px := ⟨_, rfl⟩
    obtain ⟨a2, ha2⟩ : ∃ a, a = plI py := ⟨_, rfl⟩
    rw [← ha1, ← ha2] at hq ⊢
    have HE2 : Hid (befT ds x y = decide (a1 < a2)) := Lib.hid (by rw [HBF.out, HE.out, ha1, ha2])
    clear ha1 ha2
    rcases hq with hq | ⟨hq, hr⟩
    · go_wp2
      all_goals first | (exfalso; omega) | skip
      all_goals go_ret
      all_goals first | (exfalso; omega) | exact ⟨by rw [HE2.out]; rfl, HKW.out.tr HK.out⟩
    · subst hq
      have HE3 : Hid (befT ds x y = false) := Lib.hid (by rw [HE2.out]; simp)
      have f2 : (a1 == a1) = true := beq_self_eq_true _
      go_wp2
      go_ret
      exact ⟨by rw [HE3.out]; simp, HKW.out.tr HK.out⟩
end Go.Proofs.Ytmamcnhofgfolaa
