/- The reference's reader. -/
import Derived.Test.YtcbkaamcjogbgaaDoorK7
import Derived.Test.YtcbkaamcjogbgaaDoorK1
import Derived.Deep.DeepCutAuto
namespace Go.Proofs.YtcbkaamcjogbgaaDoor
open Go Go.RowKit

def CB (w : World) (c : Nat) (v : Value) (n : Nat) (f : Bool) : Prop := w.heap[c]? = some (.cells #[v, .int .i64 n, .bool f] 78 (0, 0))
def cview (lb : List UInt8) (n : Nat) (f : Bool) : Option (List UInt8) := if f then none else some (lb.drop n)
/-- Cur c over v, which reads as lb, is in state st. -/
def Cs (w : World) (c : Nat) (v : Value) (lb : List UInt8) (st : Option (List UInt8)) : Prop :=
  (∃ n f, CB w c v n f ∧ n ≤ lb.length ∧ cview lb n f = st) ∧ Rd w v (bys lb) ∧ (∀ g, v.ownBlock = some g → ¬ g = c)
theorem Cs.keep {w w' : World} {c : Nat} {v : Value} {lb : List UInt8} {st : Option (List UInt8)} (h : Cs w c v lb st) {S : Nat → Prop} (hk : Kp S w w') (hs : ¬ S c) (hv : ∀ g, v.ownBlock = some g → g < w.heap.size → ¬ S g) : Cs w' c v lb st := by
  obtain ⟨⟨n, f, h1, h2, h3⟩, h4, h5⟩ := h
  exact ⟨⟨n, f, blk_keep hk h1 hs, h2, h3⟩, h4.keep hk hv, h5⟩
theorem CB.facts {w : World} {c : Nat} {v : Value} {n : Nat} {f : Bool} (h : CB w c v n f) :
    w.cell? ⟨c, 0, none⟩ = some v ∧ w.cell? ⟨c, 1, none⟩ = some (.int .i64 n) ∧ w.cell? ⟨c, 2, none⟩ = some (.bool f) ∧ w.frozen? ⟨c, 0, none⟩ = false ∧ w.frozen? ⟨c, 1, none⟩ = false ∧ w.frozen? ⟨c, 2, none⟩ = false :=
  ⟨blk_cell h 0, blk_cell h 1, blk_cell h 2, blk_frozen h 0, blk_frozen h 1, blk_frozen h 2⟩
theorem CB.bad {w : World} {c : Nat} {v : Value} {n : Nat} {f : Bool} (h : CB w c v n f) : CB (w.setCell ⟨c, 2, none⟩ (.bool true)) c v n true := blk_set h 2 (.bool true)

theorem cell_heap {w w' : World} (h : w'.heap = w.heap) {a : Addr} {x : Value} (hx : w.cell? a = some x) : w'.cell? a = some x := by rw [← hx]; unfold World.cell?; rw [h]

set_option maxHeartbeats 4000000 in
theorem take_cs (c : Nat) (v : Value) (lb : List UInt8) (n : Int) (st : Option (List UInt8)) (w : World) (h : Cs w c v lb st) (hlb : lb.length ≤ 140737488351232) :
    Calls Tryd.prog 46 #[.pointer (some ⟨c, 0, none⟩), .int .i64 n] w fun e w' => ∃ x, e = .returned x ∧ Rd w' x (bys (takeS st n).1) ∧ Cs w' c v lb (takeS st n).2 ∧ Kp (At c) w w' ∧ (∀ g, x.ownBlock = some g → v.ownBlock = some g) ∧ (st.isSome = true → (takeS st n).2 = none → (takeS st n).1 = []) := by
  obtain ⟨⟨k, f, hb, hk, rfl⟩, hv, hf⟩ := h
  obtain ⟨c0, c1, c2, f0, f1, f2⟩ := hb.facts
  have HB := Lib.hid hb
  have HV := Lib.hid hv
  have HF := Lib.hid hf
  obtain ⟨ao, cap, rfl, hc1, hc2, hc3⟩ := hv.shapeB
  clear hb hv hf
  cases f
  · by_cases hin : 0 ≤ n ∧ n ≤ ((lb.length - k : Nat) : Int)
    · obtain ⟨hin0, hin1⟩ := hin
      obtain ⟨m, rfl⟩ : ∃ m : Nat, n = (m : Int) := ⟨n.toNat, by omega⟩
      have HT : Hid (takeS (cview lb k false) (m : Int) = ((lb.drop k).take m, some (lb.drop (k + m)))) := Lib.hid (by
        simp only [takeS, cview]
        rw [if_neg (by simp)]
        simp only []
        rw [if_pos (by rw [List.length_drop]; omega)]
        simp [List.drop_drop])
      have hsub : IntKind.i64.wrap ((lb.length : Int) - (k : Int)) = ((lb.length - k : Nat) : Int) := by rw [IntKind.wrap_i64]; omega
      obtain ⟨r, hr⟩ : ∃ r : Nat, r = lb.length - k := ⟨_, rfl⟩
      rw [← hr] at hsub hin1
      obtain ⟨q, hq⟩ : ∃ q : Nat, q = k + m := ⟨_, rfl⟩
      have hadd : IntKind.i64.wrap ((k : Int) + (m : Int)) = (q : Int) := by rw [IntKind.wrap_i64]; omega
      have hback : IntKind.i64.wrap ((q : Int) - (m : Int)) = (k : Int) := by rw [IntKind.wrap_i64]; omega
      have hkq : k ≤ q := by omega
      have hql : q ≤ lb.length := by omega
      have hqc : q ≤ cap := by omega
      rw [← hq] at HT
      have HQ := Lib.hid hq
      clear hr hq
      go_enter Tryd.func46, Tryd.ntmps46
      go_upto_region 1 with (fail)
      have g0 : ∀ w' : World, w'.heap = w.heap → w'.cell? ⟨c, 0, none⟩ = some (.slice ao lb.length cap) := fun w' h => cell_heap h c0
      have g1 : ∀ w' : World, w'.heap = w.heap → w'.cell? ⟨c, 1, none⟩ = some (.int .i64 (k : Int)) := fun w' h => cell_heap h c1
      have g2 : ∀ w' : World, w'.heap = w.heap → w'.cell? ⟨c, 2, none⟩ = some _ := fun w' h => cell_heap h c2
      refine wp_region_plan (fun w' : World => w'.heap = w.heap) [(0, true), (1, true), (2, true), (3, true), (4, true), (5, true), (6, true), (7, true), (8, true), (9, true), (10, true), (11, true), (12, true), (13, true), (14, true), (15, true), (16, true), (17, true), (18, true), (19, true), (20, true), (21, true)] (by kernel_rfl) (by kernel_rfl) (by kernel_rfl) (by kernel_rfl) (fun _ d _ _ _ h => by cases d <;> exact h) rfl ?_
      simp only [List.map_cons, List.map_nil, List.getElem?_toArray, List.getElem?_cons_zero, List.getElem?_cons_succ, Option.getD_some]
      repeat (first
              | (refine plan_quiet (v := ?_) (by rfl) (fun wq hwq => ?_) ?_; rotate_left 1; (focus (go_simp; try (with_reducible rfl); done)); simp only [Act.put, List.setIfInBounds_toArray, List.set_cons_zero, List.set_cons_succ])
              | (refine plan_skip (by rfl) ?_; simp only [Act.put, List.setIfInBounds_toArray, List.set_cons_zero, List.set_cons_succ]))
      refine plan_nil ?_
      clear g0 g1 g2
      go_upto_region 5 with (fail)
      have HB2 : CB (w.setCell ⟨c, 1, none⟩ (.int .i64 (q : Int))) c (.slice ao lb.length cap) q false := blk_set HB.out 1 (.int .i64 (q : Int))
      have hkk : Kp (At c) w (w.setCell ⟨c, 1, none⟩ (.int .i64 (q : Int))).drew.drew := ((Kp.refl (At c) w).setCell (fun _ => rfl) _).drew.drew
      obtain ⟨d0, d1, _⟩ := HB2.facts
      obtain ⟨wn, hwn⟩ : ∃ wn : World, wn = (w.setCell ⟨c, 1, none⟩ (.int .i64 (q : Int))) := ⟨_, rfl⟩
      rw [← hwn] at HB2 d0 d1 hkk ⊢
      have HB2' := Lib.hid HB2
      have HKK := Lib.hid hkk
      clear hwn HB2 hkk c0 c1 c2 f0 f1 f2
      have g0 : ∀ w' : World, w'.heap = wn.heap → w'.cell? ⟨c, 0, none⟩ = some (.slice ao lb.length cap) := fun w' h => cell_heap h d0
      have g1 : ∀ w' : World, w'.heap = wn.heap → w'.cell? ⟨c, 1, none⟩ = some (.int .i64 (q : Int)) := fun w' h => cell_heap h d1
      clear d0 d1
      refine wp_region_plan (fun w' : World => w'.heap = wn.heap) [(0, true), (1, true), (2, true), (3, true), (4, true), (5, true), (6, true), (7, true), (8, true), (9, true), (10, true), (11, true), (12, true), (13, true), (14, true), (15, true)] (by kernel_rfl) (by kernel_rfl) (by kernel_rfl) (by kernel_rfl) (fun _ d _ _ _ h => by cases d <;> exact h) rfl ?_
      simp only [List.map_cons, List.map_nil, List.getElem?_toArray, List.getElem?_cons_zero, List.getElem?_cons_succ, Option.getD_some]
      repeat (first
              | (refine plan_quiet (v := ?_) (by rfl) (fun wq hwq => ?_) ?_; rotate_left 1; (focus (go_simp; try (with_reducible rfl); done)); simp only [Act.put, List.setIfInBounds_toArray, List.set_cons_zero, List.set_cons_succ])
              | (refine plan_skip (by rfl) ?_; simp only [Act.put, List.setIfInBounds_toArray, List.set_cons_zero, List.set_cons_succ]))
      refine plan_nil ?_
      clear g0 g1
      have hrd := (HV.out.keep HKK.out (fun g h1 _ h2 => HF.out g h1 h2)).cut k q cap hkq hql hqc (Nat.le_refl _)
      have e : ((bys lb).drop k).take (q - k) = bys ((lb.drop k).take m) := by
        have := HQ.out
        rw [show q - k = m by omega]
        simp [bys, List.map_take, List.map_drop]
      rw [e] at hrd
      have HRD := Lib.hid hrd
      have HCS : Hid (Cs wn.drew.drew c (.slice ao lb.length cap) lb (some (lb.drop q))) := Lib.hid ⟨⟨q, false, HB2'.out, hql, rfl⟩, HV.out.keep HKK.out (fun g h1 _ h2 => HF.out g h1 h2), HF.out⟩
      clear hrd e
      by_cases hck : cap = k
      · subst hck
        go_wp2
        go_ret
        rw [HT.out]
        refine ⟨_, rfl, ?_, HCS.out, HKK.out, ?_, fun _ h => by simp at h⟩
        · simpa [sliced] using HRD.out
        · intro g hg
          cases ao with
          | none => exact hg
          | some x => exact hg
      · go_wp2
        go_ret
        rw [HT.out]
        refine ⟨_, rfl, ?_, HCS.out, HKK.out, ?_, fun _ h => by simp at h⟩
        · simpa [sliced, hck] using HRD.out
        · intro g
          cases ao with
          | none => intro hg; simp [Value.ownBlock] at hg
          | some x => intro hg; simpa [Value.ownBlock, add_block] using hg
    · have HT : Hid (takeS (cview lb k false) n = ([], none)) := Lib.hid (by
        simp only [takeS, cview]
        rw [if_neg (by simp)]
        simp only []
        rw [if_neg (by rw [List.length_drop]; omega)])
      have hsub : IntKind.i64.wrap ((lb.length : Int) - (k : Int)) = ((lb.length - k : Nat) : Int) := by rw [IntKind.wrap_i64]; omega
      have fin : ∀ w', w' = (w.setCell ⟨c, 2, none⟩ (.bool true)).drew → ∃ x, Ending.returned (.slice none 0 0) = .returned x ∧ Rd w' x (bys (takeS (cview lb k false) n).1) ∧ Cs w' c (.slice ao lb.length cap) lb (takeS (cview lb k false) n).2 ∧ Kp (At c) w w' ∧ (∀ g, x.ownBlock = some g → (Value.slice ao lb.length cap).ownBlock = some g) ∧ ((cview lb k false).isSome = true → (takeS (cview lb k false) n).2 = none → (takeS (cview lb k false) n).1 = []) := by
        rintro w' rfl
        rw [HT.out]
        have hkk : Kp (At c) w (w.setCell ⟨c, 2, none⟩ (.bool true)).drew := ((Kp.refl (At c) w).setCell (fun _ => rfl) _).drew
        exact ⟨_, rfl, Rd.nil _, ⟨⟨k, true, HB.out.bad, hk, rfl⟩, HV.out.keep hkk (fun g h1 _ h2 => HF.out g h1 h2), HF.out⟩, hkk, by simp [Value.ownBlock], fun _ _ => rfl⟩
      have FIN := Lib.hid fin
      clear fin
      by_cases h0 : n < 0
      · clear hin
        go_enter Tryd.func46, Tryd.ntmps46
        go_upto_region 1 with (fail)
        have g0 : ∀ w' : World, w'.heap = w.heap → w'.cell? ⟨c, 0, none⟩ = some (.slice ao lb.length cap) := fun w' h => cell_heap h c0
        have g1 : ∀ w' : World, w'.heap = w.heap → w'.cell? ⟨c, 1, none⟩ = some (.int .i64 (k : Int)) := fun w' h => cell_heap h c1
        have g2 : ∀ w' : World, w'.heap = w.heap → w'.cell? ⟨c, 2, none⟩ = some _ := fun w' h => cell_heap h c2
        refine wp_region_plan (fun w' : World => w'.heap = w.heap) [(0, true), (1, true), (2, true), (3, true), (4, true), (5, true), (6, true), (7, true), (8, true), (9, true), (10, true), (11, true), (12, true), (13, true), (14, true), (15, true), (16, true), (17, true), (18, true), (19, true), (20, true), (21, true)] (by kernel_rfl) (by kernel_rfl) (by kernel_rfl) (by kernel_rfl) (fun _ d _ _ _ h => by cases d <;> exact h) rfl ?_
        simp only [List.map_cons, List.map_nil, List.getElem?_toArray, List.getElem?_cons_zero, List.getElem?_cons_succ, Option.getD_some]
        repeat (first
                | (refine plan_quiet (v := ?_) (by rfl) (fun wq hwq => ?_) ?_; rotate_left 1; (focus (go_simp; try (with_reducible rfl); done)); simp only [Act.put, List.setIfInBounds_toArray, List.set_cons_zero, List.set_cons_succ])
                | (refine plan_skip (by rfl) ?_; simp only [Act.put, List.setIfInBounds_toArray, List.set_cons_zero, List.set_cons_succ]))
        refine plan_nil ?_
        clear g0 g1 g2
        go_wp2
        go_ret
        exact FIN.out _ rfl
      · have h1 : ((lb.length - k : Nat) : Int) < n := by omega
        clear hin
        go_enter Tryd.func46, Tryd.ntmps46
        go_upto_region 1 with (fail)
        have g0 : ∀ w' : World, w'.heap = w.heap → w'.cell? ⟨c, 0, none⟩ = some (.slice ao lb.length cap) := fun w' h => cell_heap h c0
        have g1 : ∀ w' : World, w'.heap = w.heap → w'.cell? ⟨c, 1, none⟩ = some (.int .i64 (k : Int)) := fun w' h => cell_heap h c1
        have g2 : ∀ w' : World, w'.heap = w.heap → w'.cell? ⟨c, 2, none⟩ = some _ := fun w' h => cell_heap h c2
        refine wp_region_plan (fun w' : World => w'.heap = w.heap) [(0, true), (1, true), (2, true), (3, true), (4, true), (5, true), (6, true), (7, true), (8, true), (9, true), (10, true), (11, true), (12, true), (13, true), (14, true), (15, true), (16, true), (17, true), (18, true), (19, true), (20, true), (21, true)] (by kernel_rfl) (by kernel_rfl) (by kernel_rfl) (by kernel_rfl) (fun _ d _ _ _ h => by cases d <;> exact h) rfl ?_
        simp only [List.map_cons, List.map_nil, List.getElem?_toArray, List.getElem?_cons_zero, List.getElem?_cons_succ, Option.getD_some]
        repeat (first
                | (refine plan_quiet (v := ?_) (by rfl) (fun wq hwq => ?_) ?_; rotate_left 1; (focus (go_simp; try (with_reducible rfl); done)); simp only [Act.put, List.setIfInBounds_toArray, List.set_cons_zero, List.set_cons_succ])
                | (refine plan_skip (by rfl) ?_; simp only [Act.put, List.setIfInBounds_toArray, List.set_cons_zero, List.set_cons_succ]))
        refine plan_nil ?_
        clear g0 g1 g2
        go_wp2
        go_ret
        exact FIN.out _ rfl
  · have HT : Hid (takeS (cview lb k true) n = ([], none)) := Lib.hid rfl
    go_enter Tryd.func46, Tryd.ntmps46
    go_upto_region 1 with (fail)
    have g0 : ∀ w' : World, w'.heap = w.heap → w'.cell? ⟨c, 0, none⟩ = some (.slice ao lb.length cap) := fun w' h => cell_heap h c0
    have g1 : ∀ w' : World, w'.heap = w.heap → w'.cell? ⟨c, 1, none⟩ = some (.int .i64 (k : Int)) := fun w' h => cell_heap h c1
    have g2 : ∀ w' : World, w'.heap = w.heap → w'.cell? ⟨c, 2, none⟩ = some _ := fun w' h => cell_heap h c2
    refine wp_region_plan (fun w' : World => w'.heap = w.heap) [(0, true), (1, true), (2, true), (3, true), (4, true), (5, true), (6, true), (7, true), (8, true), (9, true), (10, true), (11, true), (12, true), (13, true), (14, true), (15, true), (16, true), (17, true), (18, true), (19, true), (20, true), (21, true)] (by kernel_rfl) (by kernel_rfl) (by kernel_rfl) (by kernel_rfl) (fun _ d _ _ _ h => by cases d <;> exact h) rfl ?_
    simp only [List.map_cons, List.map_nil, List.getElem?_toArray, List.getElem?_cons_zero, List.getElem?_cons_succ, Option.getD_some]
    repeat (first
            | (refine plan_quiet (v := ?_) (by rfl) (fun wq hwq => ?_) ?_; rotate_left 1; (focus (go_simp; try (with_reducible rfl); done)); simp only [Act.put, List.setIfInBounds_toArray, List.set_cons_zero, List.set_cons_succ])
            | (refine plan_skip (by rfl) ?_; simp only [Act.put, List.setIfInBounds_toArray, List.set_cons_zero, List.set_cons_succ]))
    refine plan_nil ?_
    clear g0 g1 g2
    go_wp2
    go_ret
    rw [HT.out]
    have hkk : Kp (At c) w (w.setCell ⟨c, 2, none⟩ (.bool true)).drew := ((Kp.refl (At c) w).setCell (fun _ => rfl) _).drew
    exact ⟨_, rfl, Rd.nil _, ⟨⟨k, true, HB.out.bad, hk, rfl⟩, HV.out.keep hkk (fun g h1 _ h2 => HF.out g h1 h2), HF.out⟩, hkk, by simp [Value.ownBlock], fun h _ => by simp [cview] at h⟩
end Go.Proofs.YtcbkaamcjogbgaaDoor
