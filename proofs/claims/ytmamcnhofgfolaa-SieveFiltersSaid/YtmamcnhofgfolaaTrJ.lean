/- The reference of layer 14: nodes put in order, one by one. -/
import Derived.Test.YtmamcnhofgfolaaTrG
import Derived.Test.YtmamcnhofgfolaaTrI
namespace Go.Proofs.Ytmamcnhofgfolaa
open Go Go.RowKit
section
variable {F G : Nat → Prop} {w w1 : World}
theorem ncs_app : ∀ (a b : List PN) (va vb : List Value), a.length = va.length → ncs (a ++ b) (va ++ vb) = ncs a va ++ ncs b vb
  | [], b, [], vb, _ => rfl
  | [], b, v :: va, vb, h => by simp at h
  | x :: a, b, [], vb, h => by simp at h
  | x :: a, b, v :: va, vb, h => by
    simp only [List.cons_append, ncs]
    rw [ncs_app a b va vb (by simpa using h)]
theorem NdsV.len : ∀ (ns : List PN) (vs : List Value), NdsV F w ns vs → ns.length = vs.length
  | [], vs, h => by unfold NdsV at h; subst h; rfl
  | n :: ns, vs, h => by
    unfold NdsV at h
    obtain ⟨v, rest, rfl, h2, h3⟩ := h
    simp only [List.length_cons, NdsV.len ns rest h3]
theorem NdsV.app : ∀ (a b : List PN) (va vb : List Value), NdsV F w a va → NdsV F w b vb → NdsV F w (a ++ b) (va ++ vb)
  | [], b, va, vb, h, hb => by unfold NdsV at h; subst h; exact hb
  | n :: ns, b, va, vb, h, hb => by
    unfold NdsV at h
    obtain ⟨v, rest, rfl, h2, h3⟩ := h
    rw [List.cons_append, List.cons_append]
    unfold NdsV
    exact ⟨v, rest ++ vb, rfl, h2, NdsV.app ns b rest vb h3 hb⟩
theorem NdsV.cut : ∀ (ns : List PN) (vs : List Value) (i : Nat), NdsV F w ns vs → NdsV F w (ns.take i) (vs.take i) ∧ NdsV F w (ns.drop i) (vs.drop i)
  | [], vs, i, h => by unfold NdsV at h; subst h; simp only [List.take_nil, List.drop_nil]; unfold NdsV; exact ⟨rfl, rfl⟩
  | n :: ns, vs, 0, h => by
    refine ⟨?_, h⟩
    rw [List.take_zero, List.take_zero]
    unfold NdsV
    rfl
  | n :: ns, vs, i + 1, h => by
    unfold NdsV at h
    obtain ⟨v, rest, rfl, h2, h3⟩ := h
    have ih := NdsV.cut ns rest i h3
    refine ⟨?_, ih.2⟩
    rw [List.take_succ_cons, List.take_succ_cons]
    unfold NdsV
    exact ⟨v, rest.take i, rfl, h2, ih.1⟩
theorem NdsV.one {n : PN} {v : Value} (h : RowN F w v n.ks) : NdsV F w [n] [v] := by
  unfold NdsV
  exact ⟨v, [], rfl, h.nd, by unfold NdsV; rfl⟩
theorem ncs_take (ns : List PN) (vs : List Value) (i : Nat) (h : NdsV F w ns vs) : (ncs ns vs).take (i * 3) = ncs (ns.take i) (vs.take i) ∧ (ncs ns vs).drop (i * 3) = ncs (ns.drop i) (vs.drop i) := by
  rcases Nat.lt_or_ge ns.length i with hi | hi
  · have h1 := ncs_len ns vs h
    have h2 := NdsV.len ns vs h
    rw [List.take_of_length_le (by omega), List.drop_of_length_le (by omega), List.take_of_length_le (by omega), List.take_of_length_le (by omega), List.drop_of_length_le (by omega), List.drop_of_length_le (by omega)]
    exact ⟨rfl, rfl⟩
  · have h2 := NdsV.len ns vs h
    have hl : (ncs (ns.take i) (vs.take i)).length = i * 3 := by rw [ncs_len _ _ (NdsV.cut ns vs i h).1, List.length_take, Nat.min_eq_left hi]
    have e : ncs ns vs = ncs (ns.take i) (vs.take i) ++ ncs (ns.drop i) (vs.drop i) := by
      rw [← ncs_app _ _ _ _ (by rw [List.length_take, List.length_take, h2]), List.take_append_drop, List.take_append_drop]
    constructor
    · rw [e, List.take_append_of_le_length (by omega), List.take_of_length_le (by omega)]
    · rw [e, List.drop_append_of_le_length (by omega), List.drop_of_length_le (by omega), List.nil_append]
theorem ncs_ones : ∀ (ns : List PN) (vs : List Value), (∀ v ∈ vs, v.oneCell' = true) → ∀ u ∈ ncs ns vs, u.oneCell' = true
  | [], vs, _, u, hu => by cases vs <;> simp [ncs] at hu
  | n :: ns, [], _, u, hu => by simp [ncs] at hu
  | n :: ns, v :: vs, h, u, hu => by
    simp only [ncs, List.mem_cons] at hu
    rcases hu with rfl | rfl | rfl | hu
    · rfl
    · rfl
    · exact h _ (by simp)
    · exact ncs_ones ns vs (fun v hv => h v (by simp [hv])) u hu
theorem NdsV.ones : ∀ (ns : List PN) (vs : List Value), NdsV F w ns vs → ∀ v ∈ vs, v.oneCell' = true
  | [], vs, h, v, hv => by unfold NdsV at h; subst h; simp at hv
  | n :: ns, vs, h, v, hv => by
    unfold NdsV at h
    obtain ⟨v', rest, rfl, h2, h3⟩ := h
    rcases List.mem_cons.1 hv with rfl | hv
    · obtain ⟨ao, cap, rfl, _⟩ := h2.row.shape
      rfl
    · exact NdsV.ones ns rest h3 v hv
end
/-- A row of one's own of nodes; what they lead to lies in F. -/
def AccN (F : Nat → Prop) (B : Nat) (w : World) (v : Value) (ns : List PN) : Prop := ∃ vs, w.ownsRow B 40 3 v ns.length (ncs ns vs) ∧ NdsV F w ns vs
section
variable {F : Nat → Prop} {B : Nat} {w w1 : World} {v : Value} {ns : List PN}
theorem AccN.nil (F : Nat → Prop) (B : Nat) (w : World) : AccN F B w (.slice none 0 0) [] := ⟨[], World.ownsRow_nil _ _ _ _, by unfold NdsV; rfl⟩
theorem AccN.row (h : AccN F B w v ns) : RowN (fun i => F i ∨ B ≤ i) w v ns := by
  obtain ⟨vs, h1, h2⟩ := h
  exact ⟨vs, (RdF.own h1).mono (fun i hi => .inr hi), NdsV.keep (Kp.refl (fun _ => False) w) (fun _ _ _ h => h) (fun i hi _ => .inl hi) _ _ h2⟩
theorem AccN.kp0 {w0 : World} (h : AccN F w0.heap.size w v ns) (hk : Kp0 w w1) : AccN F w0.heap.size w1 v ns := by
  obtain ⟨vs, h1, h2⟩ := h
  exact ⟨vs, own_kpk h1 hk, NdsV.keep hk (fun _ _ _ h => h) (fun i hi _ => hi) _ _ h2⟩
end
theorem infoN : (Try.prog.info? 40).map (fun i => (i.zero, i.size, i.bytes)) = some (some (.agg #[.string .empty, .string .empty, .slice none 0 0]), 3, 56) := by kernel_rfl
/-- How far down a node goes. -/
def insAt (ds : List PD) (n : PN) (out : List PN) : Nat → Nat
  | 0 => 0
  | at_ + 1 => match out[at_]? with
    | some y => if befT ds n y then insAt ds n out at_ else at_ + 1
    | none => at_ + 1
def insT (ds : List PD) (out : List PN) (n : PN) : List PN := out.take (insAt ds n out out.length) ++ (n :: out.drop (insAt ds n out out.length))
def ordT (ds : List PD) (ns : List PN) : List PN := ns.foldl (insT ds) []
theorem insAt_le (ds : List PD) (n : PN) (out : List PN) : ∀ k, insAt ds n out k ≤ k
  | 0 => Nat.le_refl _
  | k + 1 => by
    unfold insAt
    split
    · split
      · exact Nat.le_succ_of_le (insAt_le ds n out k)
      · exact Nat.le_refl _
    · exact Nat.le_refl _
theorem insT_len (ds : List PD) (out : List PN) (n : PN) : (insT ds out n).length = out.length + 1 := by
  have := insAt_le ds n out out.length
  unfold insT
  simp only [List.length_append, List.length_take, List.length_cons, List.length_drop]
  omega
theorem ordT_take (ds : List PD) (ns : List PN) (k : Nat) (h : k < ns.length) : ordT ds (ns.take (k + 1)) = insT ds (ordT ds (ns.take k)) ns[k] := by
  unfold ordT
  rw [List.take_succ_eq_append_getElem h, List.foldl_append]
  rfl
set_option maxRecDepth 20000 in
set_option maxHeartbeats 4000000 in
theorem order_any {F G : Nat → Prop} (ds : List PD) (ns : List PN) (lv nv : Value) (w : World) (hd : RowD F w lv ds) (hn : RowN G w nv ns) (hl : kyOk ds) (hz : ns.length ≤ 1000000) :
    Calls Try.prog 32 #[lv, nv] w fun e w' => ∃ v, e = .returned v ∧ AccN (fun i => G i ∧ i < w.heap.size) w.heap.size w' v (ordT ds ns) ∧ Kp0 w w' := by
  have HD := Lib.hid hd
  have HN := Lib.hid (hn.mono (G := fun i => G i ∧ i < w.heap.size) (fun i h1 h2 => ⟨h1, h2⟩))
  have HL := Lib.hid hl
  have HZ := Lib.hid hz
  obtain ⟨ao, ca, rfl, _, _, _⟩ := hd.shape
  obtain ⟨no, nc, rfl, _, _, _⟩ := hn.shape
  clear hd hn hl hz
  go_enter Try.func32, Try.ntmps32
  go_wp2
  go_loopg [5, 6] ns.length (fun gg o i wr => ∃ (k : Nat) (out : List PN), i = .int .i64 k ∧ k ≤ ns.length ∧ gg = ns.length - k ∧ Hid (out = ordT ds (ns.take k)) ∧ Hid (AccN (fun i => G i ∧ i < w.heap.size) w.heap.size wr o out) ∧ Hid (out.length = k) ∧ Kp0 w wr)
  case atStart => exact ⟨0, [], rfl, Nat.zero_le _, rfl, Lib.hid (by rw [List.take_zero]; rfl), Lib.hid (AccN.nil _ _ _), Lib.hid rfl, Kp.refl _ _⟩
  case round =>
    obtain ⟨k, out, rfl, hk, rfl, HF, HO, HLN, hkp⟩ := hrel
    have HK := Lib.hid hkp
    clear hkp
    by_cases h : k < ns.length
    · have i1 : (k : Int) < (ns.length : Int) := by omega
      obtain ⟨b1, o1, cap1, xv, e1, _, _, D0, D1, D2, hxv, _, _⟩ := HN.out.at k h
      simp only [Value.slice.injEq] at e1
      obtain ⟨rfl, _, rfl⟩ := e1
      have D0 := Lib.hid D0
      have D1 := Lib.hid D1
      have D2 := Lib.hid D2
      have HXV := Lib.hid hxv
      have HOT := Lib.hid (ordT_take ds ns k h)
      rw [← HF.out] at HOT
      generalize ns[k]'h = x at D0 D1 D2 hxv HXV HOT
      clear hxv
      obtain ⟨so, sc, rfl, _, _, _⟩ := HO.out.row.shape
      obtain ⟨WB, HWB⟩ : ∃ x, Hid (x = wr) := ⟨_, Lib.hid rfl⟩
      have HK : Hid (Kp0 w WB) := Lib.hid (by rw [HWB.out]; exact HK.out)
      have HO : Hid (AccN (fun i => G i ∧ i < w.heap.size) w.heap.size WB (.slice so out.length sc) out) := Lib.hid (by rw [HWB.out]; exact HO.out)
      have D0 : Hid (WB.cell? ⟨b1, o1 + k * 3, none⟩ = some (.string (S x.nm))) := Lib.hid (HK.out.cell D0.out (fun h => h))
      have D1 : Hid (WB.cell? ⟨b1, o1 + k * 3 + 1, none⟩ = some (.string (S x.vl))) := Lib.hid (HK.out.cell D1.out (fun h => h))
      have D2 : Hid (WB.cell? ⟨b1, o1 + k * 3 + 2, none⟩ = some xv) := Lib.hid (HK.out.cell D2.out (fun h => h))
      go_wp2
      go_loopw [7] (fun i wx => ∃ j : Nat, i = .int .i64 j ∧ j ≤ out.length ∧ Hid (insAt ds x out out.length = insAt ds x out j) ∧ Hid (Kp0 WB wx)) (fun i _ => (intOf i).toNat)
      case atStart => exact ⟨out.length, rfl, Nat.le_refl _, Lib.hid rfl, Lib.hid (by rw [HWB.out]; exact Kp.refl _ _)⟩
      case round =>
        obtain ⟨j, rfl, hj, HI, HK2⟩ := hrel
        rcases Nat.eq_zero_or_pos j with hj0 | hjp
        · have i2 : ¬ (0 : Int) < (j : Int) := by omega
          go_upto_region 6 with (fail)
          refine wp_region_px 15 [] (fun w' : World => Kp0 WB w') (.quiet 0 (.quiet 1 (.quiet 2 (.quiet 3 (.quiet 4 (.quiet 5 (.quiet 6 (.quiet 7 (.quiet 8 (.quiet 9 (.quiet 10 (.quiet 11 (.quiet 12 (.eff 13 (.quiet 14 .done))))))))))))))) (by kernel_rfl) (by kernel_rfl) (by kernel_rfl) (by kernel_rfl) (fun _ d _ _ _ h => by cases d <;> exact h) HK2.out.drew ?_
          have HK2 := Lib.hid HK2.out.drew
          generalize wr.drew = x0 at HK2 ⊢
          iterate 3 (refine px_quiet (v := ?_) rfl (by rfl) (fun wq hwq => ?_) rfl ?_; rotate_left 1; (focus (clear hwq; go_simp; try (with_reducible rfl); done)); try simp only [List.setIfInBounds_toArray, List.set_cons_zero, List.set_cons_succ])
          iterate 10 (refine px_skip rfl (by rfl) rfl ?_; try simp only [List.setIfInBounds_toArray, List.set_cons_zero, List.set_cons_succ])
          refine px_skipE rfl (by rfl) rfl ?_
          try simp only [List.setIfInBounds_toArray, List.set_cons_zero, List.set_cons_succ]
          iterate 1 (refine px_quiet (v := ?_) rfl (by rfl) (fun wq hwq => ?_) rfl ?_; rotate_left 1; (focus (clear hwq; go_simp; try (with_reducible rfl); done)); try simp only [List.setIfInBounds_toArray, List.set_cons_zero, List.set_cons_succ])
          refine px_done ?_
          have HI : Hid (insAt ds x out out.length = j) := Lib.hid (by rw [HI.out, hj0]; rfl)
          clear hj0
          generalize x0 = xe at HK2 ⊢
          have HOX := Lib.hid (HO.out.kp0 HK2.out)
          have i6 : (j : Int) ≤ (out.length : Int) := by omega
          obtain ⟨vs, hown, hnds⟩ := HOX.out
          have HV := Lib.hid hnds
          have HR := Lib.hid (RdF.own hown)
          have HON := Lib.hid (ncs_ones out vs (NdsV.ones out vs hnds))
          have HNC := Lib.hid (ncs_take out vs j hnds)
          obtain ⟨_, _, hsh, hnsc, hscm⟩ := ownK_sl hown
          simp only [Value.slice.injEq] at hsh
          obtain ⟨rfl, _, rfl⟩ := hsh
          have i7 : (j : Int) ≤ (sc : Int) := by omega
          have HBS : Hid (w.heap.size ≤ xe.heap.size) := Lib.hid (Nat.le_trans HK.out.size HK2.out.size)
          have HOL : Hid (out.length ≤ 1000000) := Lib.hid (by have := HLN.out; have := HZ.out; omega)
          clear hown hnds
          go_upto_region 8 with (fail)
          go_upto_region 9 with (at_builtin
                                 refine wl_append_rk rfl (.const (.slice none 0 0)) (.tmp 36) 24 rfl Try.underlying24 infoN rfl (by decide) (B := w.heap.size) rfl (World.ownsRow_nil _ _ _ _) rfl (HR.out.cutI j hj) (fun u hu => HON.out u (List.mem_of_mem_drop hu)) (by have := HOL.out; unfold maxLen; omega) (by have := HOL.out; omega) HBS.out ?_
                                 intro rv x8 hor hk8 _
                                 rw [Nat.zero_add, List.nil_append] at hor
                                 obtain ⟨ra, rc, rfl, _, _⟩ := ownK_sl hor
                                 have HK8 : Hid (Kp0 xe x8) := Lib.hid (hk8.mono (fun k _ hk => by cases hk))
                                 have HOR := Lib.hid (RdF.own hor)
                                 clear hor hk8)
          have HK2 := Lib.hid (HK2.out.tr HK8.out)
          have HR := Lib.hid (HR.out.kp0 HK8.out)
          have HV := Lib.hid (NdsV.keep HK8.out (fun _ _ _ h => h) (fun _ h _ => h) _ _ HV.out)
          clear HK8
          try simp only [Act.put]
          try simp only [List.setIfInBounds_toArray, List.set_cons_zero, List.set_cons_succ]
          refine wp_region_px 13 [] (fun w' : World => Kp0 WB w') (.quiet 0 (.quiet 1 (.quiet 2 (.quiet 3 (.quiet 4 (.quiet 5 (.quiet 6 (.quiet 7 (.quiet 10 (.eff 8 (.eff 9 (.eff 11 (.quiet 12 .done))))))))))))) (by kernel_rfl) (by kernel_rfl) (by kernel_rfl) (by kernel_rfl) (fun _ d _ _ _ h => by cases d <;> exact h) HK2.out.drew ?_
          have HK2 := Lib.hid HK2.out.drew
          have HR := Lib.hid (HR.out.kp0 (Kp.refl _ _).drew)
          have HOR := Lib.hid (HOR.out.kp0 (Kp.refl _ _).drew)
          have HV := Lib.hid (NdsV.keep (Kp.refl _ _).drew (fun _ _ _ h => h) (fun _ h _ => h) _ _ HV.out)
          generalize x8.drew = x9 at HK2 HR HOR HV ⊢
          iterate 9 (refine px_quiet (v := ?_) rfl (by rfl) (fun wq hwq => ?_) rfl ?_; rotate_left 1; (focus (have c0 := hwq.cell D0.out (fun h => h); have c1 := hwq.cell D1.out (fun h => h); have c2 := hwq.cell D2.out (fun h => h); go_simp; try (with_reducible rfl); done)); try simp only [List.setIfInBounds_toArray, List.set_cons_zero, List.set_cons_succ])
          refine px_eff rfl (by rfl) (fun K hK => ?_)
          go_simp
          have HMD := Lib.hid (RdF.made (T := 40) (k := 3) (cs := nvl x xv) x9 rfl)
          have HKM : Hid (Kp0 x9 (x9.alloc (.cells (nvl x xv).toArray 40))) := Lib.hid ((Kp.refl _ _).alloc _)
          have hgx : (x9.alloc (.cells #[.string (S x.nm), .string (S x.vl), xv] 40)) = (x9.alloc (.cells (nvl x xv).toArray 40)) := rfl
          rw [hgx]
          clear hgx
          generalize x9.alloc (.cells (nvl x xv).toArray 40) = x10 at HMD HKM ⊢
          have HK2 := Lib.hid (HK2.out.tr HKM.out)
          have HR := Lib.hid (HR.out.kp0 HKM.out)
          have HOR := Lib.hid (HOR.out.kp0 HKM.out)
          have HV := Lib.hid (NdsV.keep HKM.out (fun _ _ _ h => h) (fun _ h _ => h) _ _ HV.out)
          refine hK (fun w' => Kp0 WB w') _ _ (fun _ h => h) HK2.out ?_
          clear hK K HKM
          try simp only [List.setIfInBounds_toArray, List.set_cons_zero, List.set_cons_succ]
          refine px_eff rfl (by rfl) (fun K hK => ?_)
          refine wp_append_nk (.tmp 41) (.tmp 46) 24 rfl Try.underlying24 infoN rfl (by decide) rfl (HR.out.taken j j hj (Nat.le_refl _) (by omega)) rfl HMD.out (by decide) (by
            intro u hu
            simp only [nvl, List.mem_cons, List.not_mem_nil, or_false] at hu
            rcases hu with rfl | rfl | rfl
            · rfl
            · rfl
            · obtain ⟨_, _, e, _⟩ := HXV.out.shape
              rw [e]
              rfl) (by have := HOL.out; unfold maxLen; omega) (by have := HOL.out; omega) ?_
          intro v1 x11 ho1 hk11
          obtain ⟨a1, c1, rfl, _, _⟩ := ownK_sl ho1
          have HO1 := Lib.hid ho1
          have HB10 : Hid (w.heap.size ≤ x10.heap.size ∧ x10.heap.size ≤ x11.heap.size ∧ WB.heap.size ≤ x10.heap.size) := Lib.hid ⟨Nat.le_trans HK.out.size HK2.out.size, hk11.size, HK2.out.size⟩
          have HK11 := Lib.hid hk11
          have HK2 := Lib.hid (HK2.out.tr hk11)
          have HOR := Lib.hid (HOR.out.kp0 hk11)
          have HV := Lib.hid (NdsV.keep hk11 (fun _ _ _ h => h) (fun _ h _ => h) _ _ HV.out)
          clear ho1 hk11
          simp only [Act.put, List.getElem_toArray, List.getElem_cons_succ, List.getElem_cons_zero]
          refine hK (fun w' => Kp0 WB w') _ _ (fun _ h => h) HK2.out ?_
          clear hK K
          try simp only [List.setIfInBounds_toArray, List.set_cons_zero, List.set_cons_succ]
          refine px_eff rfl (by rfl) (fun K hK => ?_)
          refine wp_append_rk (.tmp 47) (.tmp 48) 24 rfl Try.underlying24 infoN rfl (by decide) rfl HO1.out rfl HOR.out (fun u hu => HON.out u (List.mem_of_mem_drop hu)) (by have := HOL.out; unfold maxLen; omega) (by have := HOL.out; omega) HB10.out.2.1 ?_
          intro v2 x12 ho2 hk12 _
          have HK12 := Lib.hid (HK2.out.trans hk12 (fun _ _ h => h) (fun i hi e => by have h1 := (World.ownsRow.lt HO1.out i e).1; have h2 := HB10.out.2.2; omega))
          have HV := Lib.hid (NdsV.keep hk12 (fun i hi _ e => by have h1 := (World.ownsRow.lt HO1.out i e).1; have h2 := HB10.out.1; omega) (fun _ h _ => h) _ _ HV.out)
          have HXN := Lib.hid (HXV.out.kp0 (HK.out.tr HK12.out))
          have HNEW : Hid (AccN (fun i => G i ∧ i < w.heap.size) w.heap.size x12 v2 (insT ds out x)) := Lib.hid (by
            have hj1 := insT_len ds out x
            refine ⟨vs.take j ++ ([xv] ++ vs.drop j), ?_, ?_⟩
            · have e : ncs (insT ds out x) (vs.take j ++ ([xv] ++ vs.drop j)) = (ncs out vs).take (j * 3) ++ nvl x xv ++ (ncs out vs).drop (j * 3) := by
                unfold insT
                rw [HI.out, ncs_app _ _ _ _ (by rw [List.length_take, List.length_take, NdsV.len _ _ HV.out]), HNC.out.1, HNC.out.2, List.append_assoc]
                rfl
              have hl : j + 1 + (out.length - j) = out.length + 1 := by omega
              rw [hj1, e, ← hl]
              exact ownK_base ho2 HB10.out.1
            · unfold insT
              rw [HI.out]
              have hc := NdsV.cut out vs j HV.out
              exact NdsV.app _ _ _ _ hc.1 (NdsV.app [x] _ [xv] _ (NdsV.one HXN.out) hc.2))
          clear hk12 ho2
          simp only [Act.put, List.getElem_toArray, List.getElem_cons_succ, List.getElem_cons_zero]
          refine hK (fun w' => Kp0 WB w') _ _ (fun _ h => h) HK12.out ?_
          clear hK K
          try simp only [List.setIfInBounds_toArray, List.set_cons_zero, List.set_cons_succ]
          iterate 1 (refine px_quiet (v := ?_) rfl (by rfl) (fun wq hwq => ?_) rfl ?_; rotate_left 1; (focus (clear hwq; go_simp; try (with_reducible rfl); done)); try simp only [List.setIfInBounds_toArray, List.set_cons_zero, List.set_cons_succ])
          refine px_done ?_
          go_wp2
          all_goals
            go_roundg (ns.length - (k + 1))
            case measure => omega
            case rel => exact ⟨k + 1, insT ds out x, by go_num, by omega, rfl, Lib.hid HOT.out.symm, HNEW, Lib.hid (by rw [insT_len, HLN.out]), HK.out.tr HK12.out⟩
        · obtain ⟨p, hp⟩ : ∃ p, j = p + 1 := ⟨j - 1, by omega⟩
          have i2 : (0 : Int) < (j : Int) := by omega
          have hj' : p < out.length := by omega
          obtain ⟨b2, o2, cap2, yv, e2, _, _, E0, E1, E2, hyv, _, _⟩ := HO.out.row.at p hj'
          simp only [Value.slice.injEq] at e2
          obtain ⟨rfl, _, rfl⟩ := e2
          have HST : Hid (insAt ds x out j = if befT ds x (out[p]'hj') then insAt ds x out p else j) := Lib.hid (by
            rw [hp, insAt, List.getElem?_eq_getElem hj'])
          have E0 := Lib.hid E0
          have E1 := Lib.hid E1
          have E2 := Lib.hid E2
          have HYV := Lib.hid hyv
          generalize out[p]'hj' = y at E0 E1 E2 hyv HYV HST
          clear hyv
          have i3 : (j : Int) - 1 = (p : Int) := by omega
          have i4 : (p : Int) < (out.length : Int) := by omega
          have i5 : IntKind.i64.wrap (p : Int) = (p : Int) := by rw [IntKind.wrap_i64]; have := HLN.out; have := HZ.out; omega
          have HP := Lib.hid hp
          clear hp
          go_upto_region 6 with (fail)
          refine wp_region_px 15 [] (fun w' : World => Kp0 WB w') (.quiet 0 (.quiet 1 (.quiet 2 (.quiet 3 (.quiet 4 (.quiet 5 (.quiet 6 (.quiet 7 (.quiet 8 (.quiet 9 (.quiet 10 (.quiet 11 (.quiet 12 (.eff 13 (.quiet 14 .done))))))))))))))) (by kernel_rfl) (by kernel_rfl) (by kernel_rfl) (by kernel_rfl) (fun _ d _ _ _ h => by cases d <;> exact h) HK2.out.drew ?_
          have HK2 := Lib.hid HK2.out.drew
          generalize wr.drew = x0 at HK2 ⊢
          iterate 13 (refine px_quiet (v := ?_) rfl (by rfl) (fun wq hwq => ?_) rfl ?_; rotate_left 1; (focus (have c0 := hwq.cell D0.out (fun h => h); have c1 := hwq.cell D1.out (fun h => h); have c2 := hwq.cell D2.out (fun h => h); have e0 := hwq.cell E0.out (fun h => h); have e1 := hwq.cell E1.out (fun h => h); have e2 := hwq.cell E2.out (fun h => h); go_simp; try (with_reducible rfl); done)); try simp only [List.setIfInBounds_toArray, List.set_cons_zero, List.set_cons_succ])
          refine px_eff rfl (by rfl) (fun K hK => ?_)
          go_simp
          refine (before_any ds x y _ xv yv x0 (HD.out.kp0 (HK.out.tr HK2.out)) (HXV.out.kp0 (HK.out.tr HK2.out)) (HYV.out.kp0 HK2.out) HL.out).mono ?_
          rintro e x1 ⟨rfl, hk⟩
          simp only []
          have HK2 := Lib.hid (HK2.out.tr hk)
          refine hK (fun w' => Kp0 WB w') _ _ (fun _ h => h) HK2.out ?_
          clear hK K hk
          try simp only [List.setIfInBounds_toArray, List.set_cons_zero, List.set_cons_succ]
          iterate 1 (refine px_quiet (v := ?_) rfl (by rfl) (fun wq hwq => ?_) rfl ?_; rotate_left 1; (focus (clear hwq; go_simp; try (with_reducible rfl); done)); try simp only [List.setIfInBounds_toArray, List.set_cons_zero, List.set_cons_succ])
          refine px_done ?_
          cases hb : befT ds x y
          · have HI : Hid (insAt ds x out out.length = j) := Lib.hid (by rw [HI.out, HST.out, hb]; rfl)
            generalize x1 = xe at HK2 ⊢
            clear E0 E1 E2
            generalize hso : (some (⟨b2, o2, none⟩ : Addr)) = so at HO ⊢
            clear hso
            have HOX := Lib.hid (HO.out.kp0 HK2.out)
            have i6 : (j : Int) ≤ (out.length : Int) := by omega
            obtain ⟨vs, hown, hnds⟩ := HOX.out
            have HV := Lib.hid hnds
            have HR := Lib.hid (RdF.own hown)
            have HON := Lib.hid (ncs_ones out vs (NdsV.ones out vs hnds))
            have HNC := Lib.hid (ncs_take out vs j hnds)
            obtain ⟨_, _, hsh, hnsc, hscm⟩ := ownK_sl hown
            simp only [Value.slice.injEq] at hsh
            obtain ⟨rfl, _, rfl⟩ := hsh
            have i7 : (j : Int) ≤ (sc : Int) := by omega
            have HBS : Hid (w.heap.size ≤ xe.heap.size) := Lib.hid (Nat.le_trans HK.out.size HK2.out.size)
            have HOL : Hid (out.length ≤ 1000000) := Lib.hid (by have := HLN.out; have := HZ.out; omega)
            clear hown hnds
            go_upto_region 8 with (fail)
            go_upto_region 9 with (at_builtin
                                   refine wl_append_rk rfl (.const (.slice none 0 0)) (.tmp 36) 24 rfl Try.underlying24 infoN rfl (by decide) (B := w.heap.size) rfl (World.ownsRow_nil _ _ _ _) rfl (HR.out.cutI j hj) (fun u hu => HON.out u (List.mem_of_mem_drop hu)) (by have := HOL.out; unfold maxLen; omega) (by have := HOL.out; omega) HBS.out ?_
                                   intro rv x8 hor hk8 _
                                   rw [Nat.zero_add, List.nil_append] at hor
                                   obtain ⟨ra, rc, rfl, _, _⟩ := ownK_sl hor
                                   have HK8 : Hid (Kp0 xe x8) := Lib.hid (hk8.mono (fun k _ hk => by cases hk))
                                   have HOR := Lib.hid (RdF.own hor)
                                   clear hor hk8)
            have HK2 := Lib.hid (HK2.out.tr HK8.out)
            have HR := Lib.hid (HR.out.kp0 HK8.out)
            have HV := Lib.hid (NdsV.keep HK8.out (fun _ _ _ h => h) (fun _ h _ => h) _ _ HV.out)
            clear HK8
            try simp only [Act.put]
            try simp only [List.setIfInBounds_toArray, List.set_cons_zero, List.set_cons_succ]
            refine wp_region_px 13 [] (fun w' : World => Kp0 WB w') (.quiet 0 (.quiet 1 (.quiet 2 (.quiet 3 (.quiet 4 (.quiet 5 (.quiet 6 (.quiet 7 (.quiet 10 (.eff 8 (.eff 9 (.eff 11 (.quiet 12 .done))))))))))))) (by kernel_rfl) (by kernel_rfl) (by kernel_rfl) (by kernel_rfl) (fun _ d _ _ _ h => by cases d <;> exact h) HK2.out.drew ?_
            have HK2 := Lib.hid HK2.out.drew
            have HR := Lib.hid (HR.out.kp0 (Kp.refl _ _).drew)
            have HOR := Lib.hid (HOR.out.kp0 (Kp.refl _ _).drew)
            have HV := Lib.hid (NdsV.keep (Kp.refl _ _).drew (fun _ _ _ h => h) (fun _ h _ => h) _ _ HV.out)
            generalize x8.drew = x9 at HK2 HR HOR HV ⊢
            iterate 9 (refine px_quiet (v := ?_) rfl (by rfl) (fun wq hwq => ?_) rfl ?_; rotate_left 1; (focus (have c0 := hwq.cell D0.out (fun h => h); have c1 := hwq.cell D1.out (fun h => h); have c2 := hwq.cell D2.out (fun h => h); go_simp; try (with_reducible rfl); done)); try simp only [List.setIfInBounds_toArray, List.set_cons_zero, List.set_cons_succ])
            refine px_eff rfl (by rfl) (fun K hK => ?_)
            go_simp
            have HMD := Lib.hid (RdF.made (T := 40) (k := 3) (cs := nvl x xv) x9 rfl)
            have HKM : Hid (Kp0 x9 (x9.alloc (.cells (nvl x xv).toArray 40))) := Lib.hid ((Kp.refl _ _).alloc _)
            have hgx : (x9.alloc (.cells #[.string (S x.nm), .string (S x.vl), xv] 40)) = (x9.alloc (.cells (nvl x xv).toArray 40)) := rfl
            rw [hgx]
            clear hgx
            generalize x9.alloc (.cells (nvl x xv).toArray 40) = x10 at HMD HKM ⊢
            have HK2 := Lib.hid (HK2.out.tr HKM.out)
            have HR := Lib.hid (HR.out.kp0 HKM.out)
            have HOR := Lib.hid (HOR.out.kp0 HKM.out)
            have HV := Lib.hid (NdsV.keep HKM.out (fun _ _ _ h => h) (fun _ h _ => h) _ _ HV.out)
            refine hK (fun w' => Kp0 WB w') _ _ (fun _ h => h) HK2.out ?_
            clear hK K HKM
            try simp only [List.setIfInBounds_toArray, List.set_cons_zero, List.set_cons_succ]
            refine px_eff rfl (by rfl) (fun K hK => ?_)
            refine wp_append_nk (.tmp 41) (.tmp 46) 24 rfl Try.underlying24 infoN rfl (by decide) rfl (HR.out.taken j j hj (Nat.le_refl _) (by omega)) rfl HMD.out (by decide) (by
              intro u hu
              simp only [nvl, List.mem_cons, List.not_mem_nil, or_false] at hu
              rcases hu with rfl | rfl | rfl
              · rfl
              · rfl
              · obtain ⟨_, _, e, _⟩ := HXV.out.shape
                rw [e]
                rfl) (by have := HOL.out; unfold maxLen; omega) (by have := HOL.out; omega) ?_
            intro v1 x11 ho1 hk11
            obtain ⟨a1, c1, rfl, _, _⟩ := ownK_sl ho1
            have HO1 := Lib.hid ho1
            have HB10 : Hid (w.heap.size ≤ x10.heap.size ∧ x10.heap.size ≤ x11.heap.size ∧ WB.heap.size ≤ x10.heap.size) := Lib.hid ⟨Nat.le_trans HK.out.size HK2.out.size, hk11.size, HK2.out.size⟩
            have HK11 := Lib.hid hk11
            have HK2 := Lib.hid (HK2.out.tr hk11)
            have HOR := Lib.hid (HOR.out.kp0 hk11)
            have HV := Lib.hid (NdsV.keep hk11 (fun _ _ _ h => h) (fun _ h _ => h) _ _ HV.out)
            clear ho1 hk11
            simp only [Act.put, List.getElem_toArray, List.getElem_cons_succ, List.getElem_cons_zero]
            refine hK (fun w' => Kp0 WB w') _ _ (fun _ h => h) HK2.out ?_
            clear hK K
            try simp only [List.setIfInBounds_toArray, List.set_cons_zero, List.set_cons_succ]
            refine px_eff rfl (by rfl) (fun K hK => ?_)
            refine wp_append_rk (.tmp 47) (.tmp 48) 24 rfl Try.underlying24 infoN rfl (by decide) rfl HO1.out rfl HOR.out (fun u hu => HON.out u (List.mem_of_mem_drop hu)) (by have := HOL.out; unfold maxLen; omega) (by have := HOL.out; omega) HB10.out.2.1 ?_
            intro v2 x12 ho2 hk12 _
            have HK12 := Lib.hid (HK2.out.trans hk12 (fun _ _ h => h) (fun i hi e => by have h1 := (World.ownsRow.lt HO1.out i e).1; have h2 := HB10.out.2.2; omega))
            have HV := Lib.hid (NdsV.keep hk12 (fun i hi _ e => by have h1 := (World.ownsRow.lt HO1.out i e).1; have h2 := HB10.out.1; omega) (fun _ h _ => h) _ _ HV.out)
            have HXN := Lib.hid (HXV.out.kp0 (HK.out.tr HK12.out))
            have HNEW : Hid (AccN (fun i => G i ∧ i < w.heap.size) w.heap.size x12 v2 (insT ds out x)) := Lib.hid (by
              have hj1 := insT_len ds out x
              refine ⟨vs.take j ++ ([xv] ++ vs.drop j), ?_, ?_⟩
              · have e : ncs (insT ds out x) (vs.take j ++ ([xv] ++ vs.drop j)) = (ncs out vs).take (j * 3) ++ nvl x xv ++ (ncs out vs).drop (j * 3) := by
                  unfold insT
                  rw [HI.out, ncs_app _ _ _ _ (by rw [List.length_take, List.length_take, NdsV.len _ _ HV.out]), HNC.out.1, HNC.out.2, List.append_assoc]
                  rfl
                have hl : j + 1 + (out.length - j) = out.length + 1 := by omega
                rw [hj1, e, ← hl]
                exact ownK_base ho2 HB10.out.1
              · unfold insT
                rw [HI.out]
                have hc := NdsV.cut out vs j HV.out
                exact NdsV.app _ _ _ _ hc.1 (NdsV.app [x] _ [xv] _ (NdsV.one HXN.out) hc.2))
            clear hk12 ho2
            simp only [Act.put, List.getElem_toArray, List.getElem_cons_succ, List.getElem_cons_zero]
            refine hK (fun w' => Kp0 WB w') _ _ (fun _ h => h) HK12.out ?_
            clear hK K
            try simp only [List.setIfInBounds_toArray, List.set_cons_zero, List.set_cons_succ]
            iterate 1 (refine px_quiet (v := ?_) rfl (by rfl) (fun wq hwq => ?_) rfl ?_; rotate_left 1; (focus (clear hwq; go_simp; try (with_reducible rfl); done)); try simp only [List.setIfInBounds_toArray, List.set_cons_zero, List.set_cons_succ])
            refine px_done ?_
            go_wp2
            all_goals
              go_roundg (ns.length - (k + 1))
              case measure => omega
              case rel => exact ⟨k + 1, insT ds out x, by go_num, by omega, rfl, Lib.hid HOT.out.symm, HNEW, Lib.hid (by rw [insT_len, HLN.out]), HK.out.tr HK12.out⟩
          · have HI : Hid (insAt ds x out out.length = insAt ds x out p) := Lib.hid (by rw [HI.out, HST.out, hb]; rfl)
            go_wp2
            go_roundw
            case rel => exact ⟨p, by go_num, by omega, HI, HK2⟩
            case measure => simp [intOf]; have := HP.out; omega
    · have i1 : ¬ (k : Int) < (ns.length : Int) := by omega
      have HE : Hid (out = ordT ds ns) := Lib.hid (by rw [HF.out, List.take_of_length_le (by omega)])
      go_wp2
      go_ret
      exact ⟨_, rfl, by rw [← HE.out]; exact HO.out, HK.out⟩
end Go.Proofs.Ytmamcnhofgfolaa
