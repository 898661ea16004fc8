/- Package frame: the head that waits. -/
import Derived.Test.YtmmbhmfbhleglaaDoorFrB
namespace Go.Proofs.YtmmbhmfbhleglaaDoor
open Go Go.RowKit
def headS (W : List UInt8) : List UInt8 × Bool := if endAt (W.take 10) < (W.take 10).length then ((W.take 10).take (endAt (W.take 10)), true) else (W.take 10, false)
theorem beforeB {w : World} {ao : Option Addr} {n cap : Nat} {l : List UInt8} (h : Rd w (.slice ao n cap) (bys l)) (k : Nat) (hk : k ≤ l.length) : Rd w (.slice ao k cap) (bys (l.take k)) := by
  obtain ⟨a, c, e, h1, h2, h3, h4⟩ := h
  simp only [Value.slice.injEq] at e
  obtain ⟨rfl, rfl, rfl⟩ := e
  have hl : (bys l).length = l.length := by simp [bys]
  have hl2 : (bys (l.take k)).length = k := by simp [bys]; omega
  refine ⟨ao, cap, by rw [hl2], by omega, h2, h3, fun ad e i u hu => h4 ad e i u ?_⟩
  have hi : i < k := by
    have := (List.getElem?_eq_some_iff.1 hu).1
    omega
  have e2 : bys (l.take k) = (bys l).take k := by simp [bys, List.map_take]
  rw [e2, List.getElem?_take_of_lt hi] at hu
  exact hu
theorem str_get (t : ByteArray) (i : Nat) (h : i < t.size) : t.toList[i]? = some t[i] := by
  rw [ByteArray.toList_eq, Array.getElem?_toList, Array.getElem?_eq_getElem (by exact h)]
  rfl
theorem head_hit {W : List UInt8} {t : ByteArray} (ht : t.toList = W.take 10) {i : Nat} (h1 : 1 ≤ i) (hi : i < t.size) (hc : t[i] = 10) (hn : ∀ j, 1 ≤ j → j < i → t.toList[j]? ≠ some 10) : headS W = ((t.extract 0 i).toList, true) := by
  have e := endAt_unique (l := t.toList) h1 (by rw [size_toList]; exact hi) (by rw [str_get t i hi, hc]) hn
  unfold headS
  rw [← ht, e, if_pos (by rw [size_toList]; exact hi), extract_toList]
  simp
theorem head_miss {W : List UInt8} {t : ByteArray} (ht : t.toList = W.take 10) (hn : ∀ j, 1 ≤ j → j < t.size → t.toList[j]? ≠ some 10) : headS W = (t.toList, false) := by
  have e := endAt_miss (l := t.toList) (fun j hj h => by
    by_cases hlt : j < t.size
    · exact hn j hj hlt h
    · have := (List.getElem?_eq_some_iff.1 h).1
      rw [size_toList] at this
      exact hlt this)
  unfold headS
  rw [← ht, if_neg (by omega)]
def HeadPost (W : List UInt8) (w : World) (e : Ending) (w' : World) : Prop := ∃ t : ByteArray, e = .returned (.tuple #[.string t, .bool (headS W).2]) ∧ t.toList = (headS W).1 ∧ Kp0 w w'
set_option maxRecDepth 20000 in
set_option maxHeartbeats 1000000 in
theorem head_any (B : Nat) (Z : Nat → Prop) (b : Nat) (s : St) (w : World) (h : Dc B Z w b s) :
    Calls Tryd.prog 26 #[.pointer (some ⟨b, 0, none⟩)] w (HeadPost s.W w) := by
  obtain ⟨vw, vp, h⟩ := h
  obtain ⟨W, M, ch, ov⟩ := s
  have H := Lib.hid h
  obtain ⟨ao, cap, rfl, hc1, hc2, _⟩ := h.ow.shapeB
  simp only [] at hc1
  obtain ⟨L, hL⟩ : ∃ L, L = W.length := ⟨_, rfl⟩
  have HLL := Lib.hid hL
  obtain ⟨t, ht⟩ : ∃ t : ByteArray, t.toList = W.take 10 := ⟨⟨(W.take 10).toArray⟩, ByteArray.toList_mk _⟩
  have hts : t.size = min 10 W.length := by rw [← size_toList, ht, List.length_take]
  have hcA : ∀ w', Kp0 w.drew w' → w'.cell? ⟨b, 0, none⟩ = some (.slice ao L cap) := fun w' hk => by
    rw [hL]
    exact ((H.out.drew).kp0 hk).c0
  have hcv : ∀ w', Kp0 w.drew w' → (convert 24 9 (.slice ao t.size cap)).run Tryd.prog w' = .ok (.string t) w' := fun w' hk => by
    have hr := beforeB ((H.out.drew.kp0 hk).ow.rd) t.size (by simp only []; omega)
    simp only [] at hr
    have := run_string_of (P := Tryd.prog) (w := w') 24 5 9 Tryd.underlying24 Tryd.underlying5 Tryd.underlying9 hr
    rw [this]
    congr 2
    refine str_ext ?_
    rw [ByteArray.toList_mk, ht, hts, List.take_eq_take_iff]
    omega
  have hkc : t.size ≤ cap := by omega
  have hmin : t.size = L ∧ L ≤ 10 ∨ t.size = 10 ∧ 10 < L := by omega
  have HT := Lib.hid ht
  have ht10 : (t.size : Int) ≤ 10 := by omega
  rw [← hL] at hc1
  clear h hL ht hts
  suffices hmain : Calls Tryd.prog 26 #[.pointer (some ⟨b, 0, none⟩)] w (HeadPost W w) from hmain
  rcases hmin with ⟨e1, e2⟩ | ⟨e1, e2⟩
  · have hLi : ¬ (10 : Int) < L := by omega
    rw [e1] at hcv hkc
    have hkci : (L : Int) ≤ cap := by omega
    have HE := Lib.hid e1
    clear e1
    go_enter Tryd.func26, Tryd.ntmps26
    go_upto_region 1 with (fail)
    refine wp_region_px 11 [] (fun w' : World => Kp0 w.drew w') (.quiet 0 (.quiet 1 (.quiet 2 (.quiet 3 (.quiet 4 (.quiet 5 (.quiet 6 (.quiet 7 (.quiet 8 (.quiet 9 (.quiet 10 (.quiet 11 (.quiet 12 .done))))))))))))) (by kernel_rfl) (by kernel_rfl) (by kernel_rfl) (by kernel_rfl) (fun _ d _ _ _ h => by cases d <;> exact h) (Kp.refl _ _) ?_
    iterate 13 (refine px_quiet (v := ?_) rfl (by rfl) (fun wq hwq => ?_) rfl ?_; rotate_left 1; (focus (go_simp; try (with_reducible rfl); done)); try simp only [List.setIfInBounds_toArray, List.set_cons_zero, List.set_cons_succ])
    refine px_done ?_
    have HK0 : Hid (Kp0 w w.drew) := Lib.hid (Kp.refl _ _).drew
    clear hcv hcA
    go_wp2
    go_loopg [5] (t.size - 1) (fun gg i wr => ∃ k : Nat, i = .int .i64 k ∧ 1 ≤ k ∧ gg = t.size - k ∧ Hid (∀ j, 1 ≤ j → j < k → t.toList[j]? ≠ some 10) ∧ wr = w.drew)
    case atStart => exact ⟨1, rfl, Nat.le_refl _, rfl, Lib.hid (fun j h1 h2 => by omega), rfl⟩
    case round =>
      obtain ⟨k, rfl, hk1, rfl, HN, rfl⟩ := hrel
      by_cases hlt : k < t.size
      · have hlti : (k : Int) < t.size := by omega
        by_cases hc : t[k] = 10
        · have hb : ((t[k].toNat : Int) == 10) = true := by rw [hc]; rfl
          have HH := Lib.hid (head_hit HT.out hk1 hlt hc HN.out)
          clear hc HN
          go_wp2
          go_ret2
          exact ⟨t.extract 0 k, by rw [HH.out]; rfl, by rw [HH.out], HK0.out⟩
        · have hb : ((t[k].toNat : Int) == 10) = false := by
            rw [beq_eq_false_iff_ne]
            intro h
            exact hc (UInt8.toNat_inj.1 (by have : (10 : UInt8).toNat = 10 := rfl; omega))
          have HN2 : Hid (∀ j, 1 ≤ j → j < k + 1 → t.toList[j]? ≠ some 10) := Lib.hid (fun j h1 h2 => by
            by_cases e : j = k
            · subst e
              rw [str_get t j hlt]
              intro h
              exact hc (Option.some.inj h)
            · exact HN.out j h1 (by omega))
          clear hc HN
          go_wp2
          go_roundg (t.size - (k + 1))
          case measure => omega
          case rel => exact ⟨k + 1, by go_num, by omega, rfl, HN2, rfl⟩
      · have hlti : (t.size : Int) ≤ k := by omega
        have HH := Lib.hid (head_miss HT.out (fun j h1 h2 => HN.out j h1 (by omega)))
        clear HN
        go_wp2
        go_ret2
        exact ⟨t, by rw [HH.out]; rfl, by rw [HH.out], HK0.out⟩
  · have hLi : (10 : Int) < L := by omega
    rw [e1] at hcv hkc
    have hkci : (10 : Int) ≤ cap := by omega
    have HE := Lib.hid e1
    clear e1
    go_enter Tryd.func26, Tryd.ntmps26
    go_upto_region 1 with (fail)
    refine wp_region_px 11 [] (fun w' : World => Kp0 w.drew w') (.quiet 0 (.quiet 1 (.quiet 2 (.quiet 3 (.quiet 4 (.quiet 5 (.quiet 6 (.quiet 7 (.quiet 8 (.quiet 9 (.quiet 10 (.quiet 11 (.quiet 12 .done))))))))))))) (by kernel_rfl) (by kernel_rfl) (by kernel_rfl) (by kernel_rfl) (fun _ d _ _ _ h => by cases d <;> exact h) (Kp.refl _ _) ?_
    iterate 13 (refine px_quiet (v := ?_) rfl (by rfl) (fun wq hwq => ?_) rfl ?_; rotate_left 1; (focus (go_simp; try (with_reducible rfl); done)); try simp only [List.setIfInBounds_toArray, List.set_cons_zero, List.set_cons_succ])
    refine px_done ?_
    have HK0 : Hid (Kp0 w w.drew) := Lib.hid (Kp.refl _ _).drew
    clear hcv hcA
    go_wp2
    go_loopg [5] (t.size - 1) (fun gg i wr => ∃ k : Nat, i = .int .i64 k ∧ 1 ≤ k ∧ gg = t.size - k ∧ Hid (∀ j, 1 ≤ j → j < k → t.toList[j]? ≠ some 10) ∧ wr = w.drew)
    case atStart => exact ⟨1, rfl, Nat.le_refl _, rfl, Lib.hid (fun j h1 h2 => by omega), rfl⟩
    case round =>
      obtain ⟨k, rfl, hk1, rfl, HN, rfl⟩ := hrel
      by_cases hlt : k < t.size
      · have hlti : (k : Int) < t.size := by omega
        by_cases hc : t[k] = 10
        · have hb : ((t[k].toNat : Int) == 10) = true := by rw [hc]; rfl
          have HH := Lib.hid (head_hit HT.out hk1 hlt hc HN.out)
          clear hc HN
          go_wp2
          go_ret2
          exact ⟨t.extract 0 k, by rw [HH.out]; rfl, by rw [HH.out], HK0.out⟩
        · have hb : ((t[k].toNat : Int) == 10) = false := by
            rw [beq_eq_false_iff_ne]
            intro h
            exact hc (UInt8.toNat_inj.1 (by have : (10 : UInt8).toNat = 10 := rfl; omega))
          have HN2 : Hid (∀ j, 1 ≤ j → j < k + 1 → t.toList[j]? ≠ some 10) := Lib.hid (fun j h1 h2 => by
            by_cases e : j = k
            · subst e
              rw [str_get t j hlt]
              intro h
              exact hc (Option.some.inj h)
            · exact HN.out j h1 (by omega))
          clear hc HN
          go_wp2
          go_roundg (t.size - (k + 1))
          case measure => omega
          case rel => exact ⟨k + 1, by go_num, by omega, rfl, HN2, rfl⟩
      · have hlti : (t.size : Int) ≤ k := by omega
        have HH := Lib.hid (head_miss HT.out (fun j h1 h2 => HN.out j h1 (by omega)))
        clear HN
        go_wp2
        go_ret2
        exact ⟨t, by rw [HH.out]; rfl, by rw [HH.out], HK0.out⟩
end Go.Proofs.YtmmbhmfbhleglaaDoor
