/- The law's Small: have elements few in them? -/
import Derived.Test.YtmamcnhofgfolaaTrN
namespace Go.Proofs.Ytmamcnhofgfolaa
open Go Go.RowKit
/-- What an element counts. -/
def smC (e : PE) : Int := 1 + ((e.tx.length + e.sp.length + e.nm.length : Nat) : Int) / 50 + (e.atts.length : Int)
mutual
def smOne : PE → Int → Int
  | .mk sp nm at_ tx ks, m => smAll ks m
def smAll : List PE → Int → Int
  | [], n => n
  | e :: es, n => if n - smC e < 0 then n - smC e else smAll es (smOne e (n - smC e))
end
theorem smOne_def (e : PE) (m : Int) : smOne e m = smAll e.ks m := by
  cases e
  unfold smOne
  rfl
/-- Texts and attributes as they may be in memory. -/
def tOk1 (e : PE) : Prop := e.tx.length ≤ 140737488351232 ∧ e.sp.length ≤ 140737488351232 ∧ e.nm.length ≤ 140737488351232 ∧ e.atts.length ≤ 140737488351232
mutual
def tOk : PE → Prop
  | .mk sp nm at_ tx ks => tOk1 (.mk sp nm at_ tx ks) ∧ tsOk ks
def tsOk : List PE → Prop
  | [] => True
  | e :: es => tOk e ∧ tsOk es
end
theorem tsOk_mem : ∀ {es : List PE} {e : PE}, tsOk es → e ∈ es → tOk1 e ∧ tsOk e.ks
  | e' :: es, e, h, hm => by
    unfold tsOk at h
    rcases List.mem_cons.1 hm with rfl | hm
    · cases e
      unfold tOk at h
      exact h.1
    · exact tsOk_mem h.2 hm
theorem smC_pos (e : PE) : 1 ≤ smC e := by unfold smC; omega
theorem smC_le {e : PE} (h : tOk1 e) : smC e ≤ 562949953421312 := by
  obtain ⟨h1, h2, h3, h4⟩ := h
  unfold smC
  omega
mutual
theorem smOne_le : ∀ (e : PE) (n : Int), smOne e n ≤ n
  | .mk sp nm at_ tx ks, n => by unfold smOne; exact smAll_le ks n
theorem smAll_le : ∀ (es : List PE) (n : Int), smAll es n ≤ n
  | [], n => by unfold smAll; exact Int.le_refl _
  | e :: es, n => by
    unfold smAll
    have h := smC_pos e
    have h1 := smOne_le e (n - smC e)
    have h2 := smAll_le es (smOne e (n - smC e))
    split <;> omega
end
theorem smAll_neg (es : List PE) (n : Int) (h : n < 0) : smAll es n < 0 := by
  have := smAll_le es n
  omega
mutual
theorem smOne_ge : ∀ (e : PE) (n : Int), tOk e → 0 ≤ n → -(562949953421312 * (n + 1)) ≤ smOne e n
  | .mk sp nm at_ tx ks, n, h, h0 => by
    unfold tOk at h
    unfold smOne
    exact (smAll_ge ks n h.2).1 h0
theorem smAll_ge : ∀ (es : List PE) (n : Int), tsOk es → (0 ≤ n → -(562949953421312 * (n + 1)) ≤ smAll es n) ∧ (n < 0 → n - 562949953421312 ≤ smAll es n)
  | [], n, _ => by
    unfold smAll
    constructor <;> intro h <;> omega
  | e :: es, n, ht => by
    unfold tsOk at ht
    have hc1 := smC_pos e
    have hc2 : smC e ≤ 562949953421312 := by
      have h := ht.1
      cases e
      unfold tOk at h
      exact smC_le h.1
    unfold smAll
    by_cases hm : n - smC e < 0
    · rw [if_pos hm]
      constructor <;> intro h <;> omega
    · rw [if_neg hm]
      refine ⟨fun h => ?_, fun h => by omega⟩
      have h1 := smOne_ge e (n - smC e) ht.1 (by omega)
      have h2 := smOne_le e (n - smC e)
      generalize smOne e (n - smC e) = r at h1 h2 ⊢
      have h3 := smAll_ge es r ht.2
      by_cases hr : 0 ≤ r
      · have := h3.1 hr
        omega
      · have := h3.2 (by omega)
        omega
end
mutual
theorem smOne_few : ∀ (e : PE) (n : Int), 0 ≤ smOne e n → n ≤ 1000 → eOk e = true
  | .mk sp nm at_ tx ks, n, h, hn => by
    unfold smOne at h
    have := smAll_few ks n h hn
    unfold eOk
    rw [this.1, Bool.and_true, decide_eq_true_eq]
    omega
theorem smAll_few : ∀ (es : List PE) (n : Int), 0 ≤ smAll es n → n ≤ 1000 → esOk es = true ∧ (es.length : Int) ≤ n
  | [], n, h, hn => by
    unfold smAll at h
    unfold esOk
    exact ⟨rfl, by simpa using h⟩
  | e :: es, n, h, hn => by
    have hc1 := smC_pos e
    unfold smAll at h
    by_cases hm : n - smC e < 0
    · rw [if_pos hm] at h
      omega
    · rw [if_neg hm] at h
      have h1 := smAll_le es (smOne e (n - smC e))
      have h2 := smOne_le e (n - smC e)
      have h3 := smOne_few e (n - smC e) (by omega) (by omega)
      have h4 := smAll_few es (smOne e (n - smC e)) h (by omega)
      unfold esOk
      rw [h3, h4.1]
      refine ⟨rfl, ?_⟩
      simp only [List.length_cons]
      omega
end
theorem w64i {x : Int} (h0 : -4611686018427387904 ≤ x) (h1 : x ≤ 4611686018427387904) : RowKit.wrap64 x = x := by
  unfold RowKit.wrap64
  omega
theorem smC_wrap {e : PE} {m : Int} {na : Nat} (hna : na = e.atts.length) (h : tOk1 e) (h1 : -(562949953421312 * 1002) ≤ m) (h2 : m ≤ 1000) :
    RowKit.wrap64 (m - RowKit.wrap64 (RowKit.wrap64 (1 + RowKit.wrap64 ((RowKit.wrap64 (RowKit.wrap64 (((S e.tx).size : Int) + ((S e.sp).size : Int)) + ((S e.nm).size : Int))).tdiv 50)) + (na : Int))) = m - smC e := by
  subst hna
  obtain ⟨a1, a2, a3, a4⟩ := h
  rw [S_size, S_size, S_size]
  rw [w64i (x := (e.tx.length : Int) + (e.sp.length : Int)) (by omega) (by omega), w64i (x := (e.tx.length : Int) + (e.sp.length : Int) + (e.nm.length : Int)) (by omega) (by omega)]
  rw [Int.tdiv_eq_ediv_of_nonneg (by omega)]
  have e1 : ((e.tx.length : Int) + (e.sp.length : Int) + (e.nm.length : Int)) / 50 = ((e.tx.length + e.sp.length + e.nm.length : Nat) : Int) / 50 := by omega
  rw [e1]
  unfold smC
  have hq : 0 ≤ ((e.tx.length + e.sp.length + e.nm.length : Nat) : Int) / 50 ∧ ((e.tx.length + e.sp.length + e.nm.length : Nat) : Int) / 50 ≤ 8444249301319680 := by omega
  generalize ((e.tx.length + e.sp.length + e.nm.length : Nat) : Int) / 50 = q at *
  rw [w64i (x := q) (by omega) (by omega), w64i (x := 1 + q) (by omega) (by omega), w64i (x := 1 + q + (e.atts.length : Int)) (by omega) (by omega), w64i (by omega) (by omega)]
def SmP (es : List PE) : Prop := ∀ (F : Nat → Prop) (ev : Value) (n : Int) (w : World), RowE F w ev es → tsOk es → 0 ≤ n → n ≤ 1000 →
  Calls Try.prog 9 #[ev, .int .i64 n] w fun e w' => e = .returned (.int .i64 (smAll es n)) ∧ Kp0 w w'
set_option maxRecDepth 20000 in
set_option maxHeartbeats 4000000 in
theorem small_step (es : List PE) (ih : ∀ x ∈ es, SmP x.ks) : SmP es := by
  intro F ev n w he ht h0 hn
  have HE := Lib.hid he
  have HT := Lib.hid ht
  have HN := Lib.hid hn
  have HIH0 := Lib.hid ih
  obtain ⟨eo, ec, rfl, _, _, _⟩ := he.shape
  have HN0 := Lib.hid h0
  clear he ht h0 hn ih
  go_enter Try.func9, Try.ntmps9
  go_wp2
  go_loopg [1, 9] es.length (fun gg mv i wr => ∃ (k : Nat) (m : Int), i = .int .i64 k ∧ mv = .int .i64 m ∧ k ≤ es.length ∧ gg = es.length - k ∧ Hid (smAll es n = smAll (es.drop k) m) ∧ Hid (-(562949953421312 * 1002) ≤ m ∧ m ≤ 1000) ∧ Kp0 w wr)
  case atStart => exact ⟨0, n, rfl, rfl, Nat.zero_le _, rfl, Lib.hid rfl, Lib.hid (by have := HN.out; have := HN0.out; omega), Kp.refl _ _⟩
  case round =>
    obtain ⟨k, m, rfl, rfl, hk, rfl, HF, HM, hkp⟩ := hrel
    have HK := Lib.hid hkp
    have HKR := Lib.hid hkp.size
    clear hkp
    by_cases h : k < es.length
    · have i1 : (k : Int) < (es.length : Int) := by omega
      obtain ⟨b1, o1, cap1, ea, ec2, e1, _, _, D0, D1, D2, D3, D4, hel, _, _⟩ := HE.out.at k h
      simp only [Value.slice.injEq] at e1
      obtain ⟨rfl, _, rfl⟩ := e1
      have d0 := HK.out.cell D0 (fun h => h)
      have d1 := HK.out.cell D1 (fun h => h)
      have d2 := HK.out.cell D2 (fun h => h)
      have d3 := HK.out.cell D3 (fun h => h)
      have d4 := HK.out.cell D4 (fun h => h)
      have HEL1 := Lib.hid (hel.kp0 HK.out)
      have HIH := Lib.hid (HIH0.out _ (List.getElem_mem h))
      have HTO := Lib.hid (tsOk_mem HT.out (List.getElem_mem h))
      have HST : Hid (smAll es n = if m - smC (es[k]'h) < 0 then m - smC (es[k]'h) else smAll (es.drop (k + 1)) (smAll (es[k]'h).ks (m - smC (es[k]'h)))) := Lib.hid (by rw [HF.out, List.drop_eq_getElem_cons h, smAll, smOne_def])
      clear D0 D1 D2 D3 D4 hel HF
      generalize es[k]'h = el at d0 d1 d2 d3 d4 HEL1 HIH HTO HST
      go_upto_region 4 with (first
        | (refine wl_alloc_as asEl rfl rfl ?_
           intro w2 g6 hw hg
           have HB2 : Hid (Blk w2 g6 38 el0) := Lib.hid (by rw [hw, hg]; exact blk0 _ _ _)
           have HK2 : Hid (Kp0 wr w2) := Lib.hid (by rw [hw]; exact (Kp.refl _ _).alloc _)
           have HG6 : Hid (wr.heap.size ≤ g6 ∧ g6 < w2.heap.size) := Lib.hid (by rw [hw, hg]; simp)
           clear hw hg)
        | (refine wl_store_blk rfl 38 (.tmp 6) (.tmp 12) rfl g6 _ el0 (evl el ea ec2) rfl rfl HB2.out infoEl rfl HEL1.out.ones ?_
           intro w3 hA hk3
           have HB3 := Lib.hid hA
           have HK3 : Hid (Kp0 wr w3) := Lib.hid (HK2.out.trans hk3 (fun _ _ h => h) (fun i hi e => by have := HG6.out.1; omega))
           clear hA hk3))
      try simp only [Act.put]
      try simp only [List.setIfInBounds_toArray, List.set_cons_zero, List.set_cons_succ]
      have HK := Lib.hid (HK.out.tr HK3.out)
      have HEL1 := Lib.hid (HEL1.out.kp0 HK3.out)
      clear d0 d1 d2 d3 d4 HK2 HK3 HB2
      obtain ⟨ao, ac, hsa, _, _, _⟩ := HEL1.out.at_.shape
      obtain ⟨na, hna⟩ : ∃ x, x = el.atts.length := ⟨_, rfl⟩
      have HNA0 := Lib.hid hna
      rw [← hna] at hsa
      subst hsa
      clear hna
      have c0 := HB3.out.cellV 0 (v := .string (S el.sp)) rfl
      have c1 := HB3.out.cellV 1 (v := .string (S el.nm)) rfl
      have c2 := HB3.out.cellV 2 (v := .slice ao na ac) rfl
      have c3 := HB3.out.cellV 3 (v := .string (S el.tx)) rfl
      have c4 := HB3.out.cellV 4 (v := ec2) rfl
      have HEX := Lib.hid (smC_wrap HNA0.out HTO.out.1 HM.out.1 HM.out.2)
      go_upto_region 5 with (fail)
      rw [HEX.out]
      have HC := Lib.hid (smC_pos el)
      obtain ⟨m2, hm2⟩ : ∃ x, x = m - smC el := ⟨_, rfl⟩
      rw [← hm2] at HST ⊢
      have HM2 : Hid (m2 ≤ 1000) := Lib.hid (by have := HM.out; have := HC.out; omega)
      clear hm2
      by_cases hm : m2 < 0
      · have HR : Hid (smAll es n = m2) := Lib.hid (by rw [HST.out, if_pos hm])
        go_wp2
        go_ret
        exact ⟨by rw [HR.out]; rfl, HK.out⟩
      · have HR : Hid (smAll es n = smAll (es.drop (k + 1)) (smAll el.ks m2)) := Lib.hid (by rw [HST.out, if_neg hm])
        have HM0 : Hid (0 ≤ m2) := Lib.hid (by omega)
        have HB2 := Lib.hid ((smAll_ge el.ks m2 HTO.out.2).1 HM0.out)
        have HB4 := Lib.hid (smAll_le el.ks m2)
        generalize hr : smAll el.ks m2 = r at HR HB2 HB4
        go_wp2_with (go_at_call 9; refine (HIH.out F _ m2 _ HEL1.out.ks HTO.out.2 HM0.out HM2.out).mono ?_; rw [hr]; rintro e w4 ⟨rfl, hk4⟩; have HK4 := Lib.hid (HK.out.tr hk4); clear hk4)
        go_roundg (es.length - (k + 1))
        case measure => omega
        case rel => exact ⟨k + 1, r, by go_num, rfl, by omega, rfl, HR, Lib.hid (by have := HB2.out; have := HB4.out; have := HM2.out; omega), HK4.out⟩
    · have i1 : ¬ (k : Int) < (es.length : Int) := by omega
      have HR : Hid (smAll es n = m) := Lib.hid (by rw [HF.out, List.drop_of_length_le (by omega), smAll])
      go_wp2
      go_ret
      exact ⟨by rw [HR.out]; rfl, HK.out⟩
theorem small_any (es : List PE) : SmP es := small_step es (fun x _ => small_any x.ks)
termination_by SizeOf.sizeOf es
decreasing_by exact eks_lt (by assumption)
end Go.Proofs.Ytmamcnhofgfolaa
