/- The reference of layer 16: the nodes that are chosen. -/
import Derived.Test.YtmamcnhofgfolaaTrZ
namespace Go.Proofs.Ytmamcnhofgfolaa
open Go Go.RowKit
mutual
/-- What a mark leaves of a node. -/
def cut1 : PN → PM → Option PN
  | .mk nm vl ks, m => if m.on then some (.mk nm vl (if m.al then ks else cutT ks m.ks)) else none
def cutT : List PN → List PM → List PN
  | [], _ => []
  | n :: ns, ms => (cut1 n (ms.headD pm0)).toList ++ cutT ns ms.tail
end
theorem cut1_off {n : PN} {m : PM} (h : m.on = false) : cut1 n m = none := by
  cases n
  unfold cut1
  rw [h]
  rfl
theorem cut1_all {n : PN} {m : PM} (h : m.on = true) (h2 : m.al = true) : cut1 n m = some n := by
  cases n
  unfold cut1
  rw [h, h2]
  rfl
theorem cut1_some {n : PN} {m : PM} (h : m.on = true) (h2 : m.al = false) : cut1 n m = some (.mk n.nm n.vl (cutT n.ks m.ks)) := by
  cases n
  unfold cut1
  rw [h, h2]
  rfl
theorem cutT_step : ∀ (ns : List PN) (ms : List PM) (k : Nat) (hk : k < ns.length), cutT (ns.take (k + 1)) ms = cutT (ns.take k) ms ++ (cut1 ns[k] (ms.getD k pm0)).toList
  | n :: ns, ms, 0, _ => by
    simp only [List.take_succ_cons, List.take_zero, List.getElem_cons_zero]
    rw [cutT, cutT, cutT, List.append_nil, List.nil_append]
    cases ms <;> rfl
  | n :: ns, ms, k + 1, hk => by
    simp only [List.take_succ_cons, List.getElem_cons_succ]
    rw [cutT, cutT, cutT_step ns ms.tail k (by simpa using hk), List.append_assoc]
    cases ms
    · simp only [List.tail_nil, List.getD_nil]
    · simp only [List.tail_cons, List.getD_cons_succ]
theorem cutT_len : ∀ (ns : List PN) (ms : List PM), (cutT ns ms).length ≤ ns.length
  | [], ms => by rw [cutT]; exact Nat.le_refl _
  | n :: ns, ms => by
    rw [cutT, List.length_append, List.length_cons]
    have := cutT_len ns ms.tail
    cases cut1 n (ms.headD pm0) <;> simp <;> omega
/-- A row of one's own of nodes; what they lead to was there, or is new and beside it. -/
def AccC (B : Nat) (G : Nat → Prop) (w : World) (v : Value) (out : List PN) : Prop := ∃ vs, w.ownsRow B 40 3 v out.length (ncs out vs) ∧ NdsV (fun i => (G i ∧ i < B) ∨ (B ≤ i ∧ v.ownBlock ≠ some i)) w out vs
section
variable {B : Nat} {G : Nat → Prop} {w w' : World} {v : Value} {out : List PN}
theorem AccC.nil (B : Nat) (G : Nat → Prop) (w : World) : AccC B G w (.slice none 0 0) [] := ⟨[], World.ownsRow_nil _ _ _ _, by unfold NdsV; rfl⟩
theorem AccC.kp0 (h : AccC B G w v out) (hk : Kp0 w w') : AccC B G w' v out := by
  obtain ⟨vs, h1, h2⟩ := h
  exact ⟨vs, own_keepB h1 hk (fun _ _ h => h), NdsV.keep hk (fun _ _ _ h => h) (fun _ h _ => h) _ _ h2⟩
theorem AccC.lt (h : AccC B G w v out) : ∀ b, v.ownBlock = some b → B ≤ b ∧ b < w.heap.size := by
  obtain ⟨vs, h1, h2⟩ := h
  exact fun b hb => World.ownsRow.lt h1 b hb
theorem AccC.row (h : AccC B G w v out) : RowN (fun i => G i ∨ B ≤ i) w v out := by
  obtain ⟨vs, h1, h2⟩ := h
  exact ⟨vs, (RdF.own h1).mono (fun i hi => .inr hi), NdsV.keep (Kp.refl (fun _ => False) w) (fun _ _ _ h => h) (fun i hi _ => hi.elim (fun h => .inl h.1) (fun h => .inr h.1)) _ _ h2⟩
theorem AccC.more {K : Nat → Prop} {n : PN} {kv v' : Value} {vs : List Value} (h1 : w.ownsRow B 40 3 v out.length (ncs out vs))
    (h3 : NdsV (fun i => (G i ∧ i < B) ∨ (B ≤ i ∧ v.ownBlock ≠ some i)) w out vs)
    (hn : RowN K w kv n.ks) (hK : ∀ i, K i → i < w.heap.size → (G i ∧ i < B) ∨ (B ≤ i ∧ v.ownBlock ≠ some i))
    (hk : Kp (fun b => v.ownBlock = some b) w w') (hb : ∀ b, v'.ownBlock = some b → v.ownBlock = some b ∨ w.heap.size ≤ b)
    (hr : w'.ownsRow B 40 3 v' (out.length + 1) (ncs out vs ++ nvl n kv)) : AccC B G w' v' (out ++ [n]) := by
  have hF : ∀ i, ((G i ∧ i < B) ∨ (B ≤ i ∧ v.ownBlock ≠ some i)) → i < w.heap.size → ((G i ∧ i < B) ∨ (B ≤ i ∧ v'.ownBlock ≠ some i)) := fun i hi hl => by
    rcases hi with hi | hi
    · exact .inl hi
    · refine .inr ⟨hi.1, fun e => ?_⟩
      rcases hb i e with h | h
      · exact hi.2 h
      · omega
  have hS : ∀ i, ((G i ∧ i < B) ∨ (B ≤ i ∧ v.ownBlock ≠ some i)) → ¬ v.ownBlock = some i := fun i hi e => by
    rcases hi with hi | hi
    · have := (World.ownsRow.lt h1 i e).1
      omega
    · exact hi.2 e
  have hn' : RowN (fun i => (G i ∧ i < B) ∨ (B ≤ i ∧ v'.ownBlock ≠ some i)) w' kv n.ks := hn.keep hk (fun i hi hl => hS i (hK i hi hl)) (fun i hi hl => hF i (hK i hi hl) hl)
  refine ⟨vs ++ [kv], ?_, ?_⟩
  · rw [List.length_append, ncs_app _ _ _ _ (NdsV.len _ _ h3)]
    exact hr
  · exact NdsV.app _ _ _ _ (NdsV.keep hk (fun i hi _ => hS i hi) hF _ _ h3) (NdsV.one hn')
end
def CutP (ns : List PN) : Prop := ∀ (F G : Nat → Prop) (ms : List PM) (nv mv : Value) (w : World), RowN F w nv ns → RowM G w mv ms → ksOk ns = true → ns.length ≤ 1000000 →
  Calls Try.prog 22 #[nv, mv] w fun e w' => (∃ v, e = .returned v ∧ RowN (fun i => F i ∨ w.heap.size ≤ i) w' v (cutT ns ms)) ∧ Kp0 w w'
set_option maxRecDepth 20000 in
set_option maxHeartbeats 4000000 in
theorem cut_step (ns : List PN) (ih : ∀ n ∈ ns, CutP n.ks) : CutP ns := by
  intro F G ms nv mv w hn hm hok hl
  have HN := Lib.hid hn
  have HM := Lib.hid hm
  have HOK := Lib.hid hok
  have HL := Lib.hid hl
  have HIH := Lib.hid ih
  obtain ⟨no, nc, rfl, _, _, _⟩ := hn.shape
  obtain ⟨mo, mc, rfl, _, _, _⟩ := hm.shape
  clear hn hm hok hl ih
  go_enter Try.func22, Try.ntmps22
  go_wp2
  go_loopg [5, 6] ns.length (fun gg vv i wr => ∃ (k : Nat), i = .int .i64 k ∧ k ≤ ns.length ∧ gg = ns.length - k ∧ Hid (AccC w.heap.size F wr vv (cutT (ns.take k) ms)) ∧ Kp0 w wr)
  case atStart => exact ⟨0, rfl, Nat.zero_le _, rfl, Lib.hid (by rw [List.take_zero, cutT]; exact AccC.nil _ _ _), Kp.refl _ _⟩
  case round =>
    obtain ⟨k, rfl, hk, rfl, HA, hkp⟩ := hrel
    have HKW := Lib.hid hkp
    clear hkp
    have hlm := HL.out
    by_cases h : k < ns.length
    · have i1 : (k : Int) < (ns.length : Int) := by omega
      have HTK := Lib.hid (cutT_step ns ms k h)
      have HLM : Hid ((cutT (ns.take k) ms).length ≤ 1000000) := Lib.hid (by
        have h1 := cutT_len (ns.take k) ms
        rw [List.length_take] at h1
        omega)
      generalize cutT (ns.take k) ms = out at HA HTK HLM
      rcases Nat.lt_or_ge k ms.length with hkm | hkm
      · have i2 : ¬ (k : Int) ≥ (ms.length : Int) := by omega
        have i2' : ¬ (ms.length : Int) ≤ (k : Int) := by omega
        have i3 : (k : Int) < (ms.length : Int) := by omega
        obtain ⟨b2, o2, d2, mv2, e2, _, _, M0, M1, M2, hmk, _⟩ := (HM.out.kp0 HKW.out).at k hkm
        simp only [Value.slice.injEq] at e2
        obtain ⟨rfl, _, rfl⟩ := e2
        have HMK := Lib.hid hmk
        have HGD : Hid (ms.getD k pm0 = ms[k]'hkm) := Lib.hid (by rw [List.getD_eq_getElem?_getD, List.getElem?_eq_getElem hkm]; rfl)
        clear hmk
        generalize ms[k]'hkm = x at M0 M1 M2 HMK HGD
        rw [HGD.out] at HTK
        clear HGD
        cases hon : x.on
        · have HTK : Hid (cutT (ns.take (k + 1)) ms = out) := Lib.hid (by rw [HTK.out, cut1_off hon]; simp)
          rw [hon] at M0
          go_wp2
          go_roundg (ns.length - (k + 1))
          case measure => omega
          case rel => exact ⟨k + 1, by go_num, by omega, rfl, by rw [HTK.out]; exact HA, HKW.out⟩
        · rw [hon] at M0
          obtain ⟨b1, o1, d1, kv1, e1, _, _, D0, D1, D2, hkv, _⟩ := (HN.out.kp0 HKW.out).at k h
          simp only [Value.slice.injEq] at e1
          obtain ⟨rfl, _, rfl⟩ := e1
          obtain ⟨b0, o0, d0, kv0, e0, _, _, _, _, C2, hkv0, _⟩ := HN.out.at k h
          simp only [Value.slice.injEq, Option.some.injEq, Addr.mk.injEq] at e0
          obtain ⟨⟨rfl, rfl, _⟩, _, rfl⟩ := e0
          have hvv : kv1 = kv0 := by
            have := HKW.out.cell C2 (fun h => h)
            rw [D2] at this
            cases this
            rfl
          subst hvv
          have HKV : Hid (RowN (fun i => F i ∧ i < w.heap.size) w kv1 (ns[k]'h).ks) := Lib.hid (hkv0.keep (Kp.refl (fun _ => False) w) (fun _ _ _ h => h) (fun i hi hl => ⟨hi, hl⟩))
          have HXO := Lib.hid (ksOk_mem HOK.out (List.getElem_mem h))
          have HIX := Lib.hid (HIH.out (ns[k]'h) (List.getElem_mem h))
          clear hkv hkv0 C2
          generalize ns[k]'h = y at D0 D1 D2 HKV HXO HIX HTK
          go_upto_region 7 with (first
            | (refine wl_alloc_as asNd rfl rfl ?_
               intro w5 g7 hw hg
               have HB7 : Hid (Blk w5 g7 40 nd0) := Lib.hid (by rw [hw, hg]; exact blk0 _ _ _)
               have HK5 : Hid (Kp0 wr w5) := Lib.hid (by rw [hw]; exact (Kp.refl _ _).alloc _)
               have HG7 : Hid (wr.heap.size ≤ g7 ∧ g7 < w5.heap.size) := Lib.hid (by rw [hw, hg]; simp)
               clear hw hg)
            | (refine wl_store_blk rfl 40 (.tmp 7) (.tmp 29) rfl g7 _ nd0 (nvl y kv1) rfl rfl HB7.out infoNd rfl HKV.out.onesN ?_
               intro w6 hA hk6
               have HBZ := Lib.hid hA
               have HK6 : Hid (Kp0 wr w6) := Lib.hid (HK5.out.trans hk6 (fun _ _ h => h) (fun i hi e => by have := HG7.out.1; omega))
               clear hA hk6))
          try simp only [Act.put]
          try simp only [List.setIfInBounds_toArray, List.set_cons_zero, List.set_cons_succ]
          have HLT := Lib.hid HA.out.lt
          have HSR : Hid (w.heap.size ≤ wr.heap.size ∧ wr.heap.size ≤ w6.heap.size) := Lib.hid ⟨HKW.out.size, HK6.out.size⟩
          have HKZ := Lib.hid (HKW.out.tr HK6.out)
          have m1 := HK6.out.cell M1 (fun h => h)
          have m2 := HK6.out.cell M2 (fun h => h)
          clear HK5 D0 D1 D2 M0 M1 M2
          cases hal : x.al
          · have HTK : Hid (cutT (ns.take (k + 1)) ms = out ++ [.mk y.nm y.vl (cutT y.ks x.ks)]) := Lib.hid (by rw [HTK.out, cut1_some hon hal]; rfl)
            rw [hal] at m1
            go_upto_region 8 with (fail)
            have HG7B := Lib.hid HBZ.out.lt
            refine wp_region_px 10 [9] (fun w' : World => Kp0 w6 w') (.quiet 0 (.quiet 1 (.quiet 2 (.quiet 3 (.quiet 4 (.quiet 5 (.quiet 6 (.eff 7 (.quiet 8 (.wall 9 .done)))))))))) (by kernel_rfl) (by kernel_rfl) (by kernel_rfl) (by kernel_rfl) (fun _ d _ _ _ h => by cases d <;> exact h) (Kp.refl (fun _ => False) w6).drew ?_
            have HX : Hid (Kp0 w6 w6.drew) := Lib.hid (Kp.refl (fun _ => False) w6).drew
            generalize w6.drew = x0 at HX ⊢
            iterate 7 (refine px_quiet (v := ?_) rfl (by rfl) (fun wq hwq => ?_) rfl ?_; rotate_left 1; (focus (have c2 := (HBZ.out.kp0 hwq).cellV 2 (v := kv1) rfl; have d2 := hwq.cell m2 (fun h => h); go_simp; try (with_reducible rfl); done)); try simp only [List.setIfInBounds_toArray, List.set_cons_zero, List.set_cons_succ])
            refine px_eff rfl (by rfl) (fun K hK => ?_)
            go_simp
            refine (HIX.out _ _ x.ks kv1 mv2 x0 (HKV.out.kp0 (HKZ.out.tr HX.out)) (HMK.out.kp0 (HK6.out.tr HX.out)) (kOk_ks HXO.out).2 (kOk_ks HXO.out).1).mono ?_
            rintro e x1 ⟨⟨kz, rfl, hr⟩, hk⟩
            obtain ⟨za, zc, rfl, _, _, _⟩ := hr.shape
            obtain ⟨z, hz⟩ : ∃ z, z = PN.mk y.nm y.vl (cutT y.ks x.ks) := ⟨_, rfl⟩
            rw [← hz] at HTK
            have HNV : Hid (nvl z (.slice za (cutT y.ks x.ks).length zc) = [.string (S y.nm), .string (S y.vl), .slice za (cutT y.ks x.ks).length zc]) := Lib.hid (by rw [hz]; rfl)
            have HRZ : Hid (RowN (fun i => (F i ∧ i < w.heap.size) ∨ x0.heap.size ≤ i) x1 (.slice za (cutT y.ks x.ks).length zc) z.ks) := Lib.hid (by rw [hz]; exact hr)
            have HSX : Hid (w6.heap.size ≤ x0.heap.size) := Lib.hid HX.out.size
            have HX := Lib.hid (HX.out.tr hk)
            simp only []
            refine hK (fun w' => Kp0 w6 w') _ _ (fun _ h => h) HX.out ?_
            clear hK K hk hr hz
            generalize (cutT y.ks x.ks).length = zl at HNV HRZ ⊢
            try simp only [List.setIfInBounds_toArray, List.set_cons_zero, List.set_cons_succ]
            iterate 1 (refine px_quiet (v := ?_) rfl (by rfl) (fun wq hwq => ?_) rfl ?_; rotate_left 1; (focus (clear hwq; go_simp; try (with_reducible rfl); done)); try simp only [List.setIfInBounds_toArray, List.set_cons_zero, List.set_cons_succ])
            refine px_wall rfl (by rfl) (fun K hK => ?_)
            have HB7 := Lib.hid (HBZ.out.kp0 HX.out)
            have hd := HB7.out.cellV 2 (v := kv1) rfl
            have hdf := blk_frozen HB7.out 2
            go_simp
            refine hK (fun _ => True) _ _ trivial (px_done ?_)
            clear hK K hd hdf
            have HS : Hid (Kp (fun b => b = g7) x1 (x1.setCell ⟨g7, 2, none⟩ (.slice za zl zc))) := Lib.hid (Kp.setCell (S := fun b => b = g7) (Kp.refl _ _) (p := ⟨g7, 2, none⟩) (fun _ => rfl) _)
            have HBZ := Lib.hid (HB7.out.set' 2 (.slice za zl zc))
            generalize x1.setCell ⟨g7, 2, none⟩ (.slice za zl zc) = wz at HS HBZ ⊢
            have HKY : Hid (Kp0 wr wz) := Lib.hid ((HK6.out.tr HX.out).trans HS.out (fun _ _ h => h) (fun i hi e => by have := HG7.out.1; omega))
            have HAZ := Lib.hid (HA.out.kp0 HKY.out)
            have HKZ := Lib.hid (HKW.out.tr HKY.out)
            obtain ⟨kz, hkz⟩ : ∃ x, x = Value.slice za zl zc := ⟨_, rfl⟩
            rw [← hkz] at HNV HRZ HBZ
            have HBZ : Hid (Blk wz g7 40 (nvl z kz)) := Lib.hid (by rw [HNV.out]; exact HBZ.out)
            have HRZ := Lib.hid (HRZ.out.keep (G := fun i => (F i ∧ i < w.heap.size) ∨ x0.heap.size ≤ i) HS.out (fun i hi _ e => by have := HG7.out; have := HSR.out; have := HSX.out; have := HG7B.out; omega) (fun _ h _ => h))
            have HFZ : Hid (∀ i, (F i ∧ i < w.heap.size) ∨ x0.heap.size ≤ i → (F i ∧ i < w.heap.size) ∨ (w.heap.size ≤ i ∧ u5.ownBlock ≠ some i)) := Lib.hid (fun i hi => hi.elim (fun h => .inl h) (fun h => .inr ⟨by have := HSR.out; have := HSX.out; omega, fun e => by have := (HLT.out i e).2; have := HSR.out; have := HSX.out; omega⟩))
            have HSZ : Hid (w.heap.size ≤ wz.heap.size) := Lib.hid HKZ.out.size
            clear HNV m1 m2 hkz
            have HMD := Lib.hid (RdF.made (T := 40) (k := 3) (cs := nvl z kz) wz rfl)
            have HON : Hid (Ones (nvl z kz)) := Lib.hid HRZ.out.onesN
            have z0 := HBZ.out.cellV 0 (v := .string (S z.nm)) rfl
            have z1 := HBZ.out.cellV 1 (v := .string (S z.vl)) rfl
            have z2 := HBZ.out.cellV 2 (v := kz) rfl
            have HQ : Hid (∀ o, AccC w.heap.size F (wz.alloc o) u5 out) := Lib.hid (fun o => HAZ.out.kp0 ((Kp.refl _ _).alloc o))
            go_wp2_with (at_builtin
                         obtain ⟨us, hq1, hq2⟩ := HQ.out (.cells (nvl z kz).toArray 40)
                         refine wl_append_rk rfl (.tmp 45) (.tmp 47) 24 rfl Try.underlying24 infoN rfl (by decide) rfl hq1 rfl HMD.out HON.out (by have := HLM.out; unfold maxLen; omega) (by have := HLM.out; omega) (by have := HSZ.out; simp; omega) ?_
                         intro v2 x3 ho2 hk3 hb3
                         obtain ⟨a2, c2, rfl, _, _⟩ := ownK_sl ho2
                         have HA3 := Lib.hid (AccC.more hq1 hq2 (HRZ.out.kp0 ((Kp.refl _ _).alloc _)) (fun i hi hl => HFZ.out i hi) hk3 hb3 ho2)
                         have HK3 : Hid (Kp0 w x3) := Lib.hid ((HKZ.out.alloc _).trans hk3 (fun _ _ h => h) (fun i hi e => by have := (HLT.out i e).1; omega))
                         clear hq1 hq2 ho2 hk3 hb3)
            go_roundg (ns.length - (k + 1))
            case measure => omega
            case rel => exact ⟨k + 1, by go_num, by omega, rfl, by rw [HTK.out]; exact HA3, HK3.out⟩
          · have HTK : Hid (cutT (ns.take (k + 1)) ms = out ++ [y]) := Lib.hid (by rw [HTK.out, cut1_all hon hal]; rfl)
            rw [hal] at m1
            have HAZ := Lib.hid (HA.out.kp0 HK6.out)
            obtain ⟨wz, hwz⟩ : ∃ x, x = w6 := ⟨_, rfl⟩
            subst hwz
            obtain ⟨z, hz⟩ : ∃ x, x = y := ⟨_, rfl⟩
            subst hz
            obtain ⟨kz, hkz⟩ : ∃ x, x = kv1 := ⟨_, rfl⟩
            subst hkz
            have HRZ := Lib.hid (HKV.out.kp0 HKZ.out)
            have HFZ : Hid (∀ i, F i ∧ i < w.heap.size → (F i ∧ i < w.heap.size) ∨ (w.heap.size ≤ i ∧ u5.ownBlock ≠ some i)) := Lib.hid (fun i hi => .inl hi)
            have HSZ : Hid (w.heap.size ≤ wz.heap.size) := Lib.hid HKZ.out.size
            have HMD := Lib.hid (RdF.made (T := 40) (k := 3) (cs := nvl z kz) wz rfl)
            have HON : Hid (Ones (nvl z kz)) := Lib.hid HRZ.out.onesN
            have z0 := HBZ.out.cellV 0 (v := .string (S z.nm)) rfl
            have z1 := HBZ.out.cellV 1 (v := .string (S z.vl)) rfl
            have z2 := HBZ.out.cellV 2 (v := kz) rfl
            have HQ : Hid (∀ o, AccC w.heap.size F (wz.alloc o) u5 out) := Lib.hid (fun o => HAZ.out.kp0 ((Kp.refl _ _).alloc o))
            go_wp2_with (at_builtin
                         obtain ⟨us, hq1, hq2⟩ := HQ.out (.cells (nvl z kz).toArray 40)
                         refine wl_append_rk rfl (.tmp 45) (.tmp 47) 24 rfl Try.underlying24 infoN rfl (by decide) rfl hq1 rfl HMD.out HON.out (by have := HLM.out; unfold maxLen; omega) (by have := HLM.out; omega) (by have := HSZ.out; simp; omega) ?_
                         intro v2 x3 ho2 hk3 hb3
                         obtain ⟨a2, c2, rfl, _, _⟩ := ownK_sl ho2
                         have HA3 := Lib.hid (AccC.more hq1 hq2 (HRZ.out.kp0 ((Kp.refl _ _).alloc _)) (fun i hi hl => HFZ.out i hi) hk3 hb3 ho2)
                         have HK3 : Hid (Kp0 w x3) := Lib.hid ((HKZ.out.alloc _).trans hk3 (fun _ _ h => h) (fun i hi e => by have := (HLT.out i e).1; omega))
                         clear hq1 hq2 ho2 hk3 hb3)
            go_roundg (ns.length - (k + 1))
            case measure => omega
            case rel => exact ⟨k + 1, by go_num, by omega, rfl, by rw [HTK.out]; exact HA3, HK3.out⟩
      · have i2 : (ms.length : Int) ≤ (k : Int) := by omega
        have i2' : (k : Int) ≥ (ms.length : Int) := by omega
        have HTK : Hid (cutT (ns.take (k + 1)) ms = out) := Lib.hid (by rw [HTK.out, List.getD_eq_getElem?_getD, List.getElem?_eq_none hkm, cut1_off rfl]; simp)
        go_wp2
        go_roundg (ns.length - (k + 1))
        case measure => omega
        case rel => exact ⟨k + 1, by go_num, by omega, rfl, by rw [HTK.out]; exact HA, HKW.out⟩
    · have i1 : ¬ (k : Int) < (ns.length : Int) := by omega
      have htk : ns.take k = ns := List.take_of_length_le (by omega)
      rw [htk] at HA
      go_wp2
      go_ret
      exact ⟨⟨_, rfl, HA.out.row⟩, HKW.out⟩
mutual
theorem cut_one : ∀ n : PN, CutP n.ks
  | .mk _ _ ks => cut_step ks (cut_all ks)
theorem cut_all : ∀ ns : List PN, ∀ n ∈ ns, CutP n.ks
  | [], _, h => by cases h
  | x :: xs, n, h => (List.mem_cons.1 h).elim (fun e => e ▸ cut_one x) (fun h => cut_all xs n h)
end
theorem cut_any (ns : List PN) : CutP ns := cut_step ns (cut_all ns)
end Go.Proofs.Ytmamcnhofgfolaa
