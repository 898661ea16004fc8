/- Package packet: keys are taken. -/
import Derived.Test.YtnbfedmecmdjlaaDoorGo
import Derived.Test.YtnbfedmecmdjlaaDoorGa
import Derived.Laws.Cover3
namespace Go.Proofs.YtnbfedmecmdjlaaDoor
open Go Go.RowKit
theorem blk_setCells (b : Nat) : ∀ (vs : List Value) (o : Nat) (w : World) (T : TypeId) (cs : List Value), Blk w b T cs → o + vs.length ≤ cs.length → Blk (w.setCells b o vs) b T (cs.take o ++ vs ++ cs.drop (o + vs.length))
  | [], o, w, T, cs, h, _ => by
    have : cs.take o ++ [] ++ cs.drop (o + 0) = cs := by simp
    simp only [List.length_nil]
    rw [this]
    exact h
  | v :: vs, o, w, T, cs, h, hl => by
    have h1 := blk_setCells b vs (o + 1) _ T _ (h.set' o v) (by simp only [List.length_cons, List.length_set] at hl ⊢; omega)
    have ho : o < cs.length := by simp only [List.length_cons] at hl; omega
    have e : (cs.set o v).take (o + 1) ++ vs ++ (cs.set o v).drop (o + 1 + vs.length) = cs.take o ++ v :: vs ++ cs.drop (o + (v :: vs).length) := by
      rw [List.take_set, List.drop_set_of_lt (by omega), List.length_cons, show o + (vs.length + 1) = o + 1 + vs.length by omega]
      congr 1
      rw [List.take_succ_eq_append_getElem ho, List.set_append_right _ _ (by simp; omega), show o - (cs.take o).length = 0 by simp; omega, List.set_cons_zero, List.append_assoc]
      rfl
    rw [e] at h1
    exact h1
theorem dirC_take {sg : Option Nat} {d : Dn} {rest : List Value} {m : List UInt8} {g : Nat} (hm : d.mac.length = 32) (hm2 : m.length = 32) {key : Option (List (BitVec 32) × List UInt8 × Nat)} :
    ((((dirC sg d ++ rest).set 0 (.pointer (some ⟨g, 0, none⟩))).take 1 ++ bys m ++ ((dirC sg d ++ rest).set 0 (.pointer (some ⟨g, 0, none⟩))).drop (1 + (bys m).length)).set 33 (.int .i64 0)) = dirC (some g) { key := key, mac := m, cnt := 0, num := d.num } ++ rest := by
  have h1 : (bys d.mac).length = 32 := by rw [bys_len, hm]
  have h2 : (bys m).length = 32 := by rw [bys_len, hm2]
  have h3 : ((bys d.mac ++ [Value.int .i64 (d.cnt : Int), Value.int .u32 (d.num : Int)]) ++ rest).drop 32 = [Value.int .i64 (d.cnt : Int), Value.int .u32 (d.num : Int)] ++ rest := by
    rw [List.append_assoc, List.drop_append_of_le_length (by omega), List.drop_eq_nil_of_le (by omega)]
    rfl
  unfold dirC spV
  rw [List.cons_append, List.set_cons_zero, List.take_succ_cons, List.take_zero, Nat.add_comm, List.drop_succ_cons, h2, h3]
  simp only [List.cons_append, List.nil_append, List.set_cons_succ]
  rw [List.set_append_right _ _ (by omega), h2]
  simp
theorem there_blk {w : World} {b : Nat} {T : TypeId} {cs : List Value} (h : Blk w b T cs) {o n : Nat} (hl : o + n ≤ cs.length) : w.there b o n := by
  intro j hj
  have hc := h.cellV (o + j) (List.getElem?_eq_getElem (show o + j < cs.length by omega))
  exact ⟨by rw [hc]; rfl, blk_frozen h (o + j)⟩
/-- Keys as they come. -/
def keysV (k1 k2 k3 : Value) : Value := .agg #[k1, k2, k3]
def taken (d : Dn) (l1 l2 l3 : List UInt8) : Dn := { key := some (kyW (colsW l1), l2, 0), mac := l3, cnt := 0, num := d.num }
def okKeys (l1 l2 l3 : List UInt8) : Prop := l1.length = 16 ∧ l2.length = 16 ∧ l3.length = 32
set_option maxRecDepth 20000 in
set_option maxHeartbeats 8000000 in
theorem take_no1 (B b : Nat) (T : TypeId) (rest : List Value) (d : Dn) (sg : Option Nat) (k1 k2 k3 : Value) (l1 l2 l3 : List UInt8) (w : World) (_ : DirM B w b T rest d sg)
    (h1 : Rd w k1 (bys l1)) (h2 : Rd w k2 (bys l2)) (h3 : Rd w k3 (bys l3)) (hn : ¬ (l1.length = 16 ∧ l2.length = 16)) :
    Calls Tryd.prog 16 #[.pointer (some ⟨b, 0, none⟩), .agg #[k1, k2, k3]] w fun e w' => e = .returned (.int .i64 2) ∧ Kp0 w w' := by
  obtain ⟨a1, c1, rfl, -, -, -⟩ := h1.shapeB
  obtain ⟨a2, c2, rfl, -, -, -⟩ := h2.shapeB
  obtain ⟨a3, c3, rfl, -, -, -⟩ := h3.shapeB
  have H1 := Lib.hid h1
  have H2 := Lib.hid h2
  have HN := Lib.hid hn
  clear h1 h2 h3 hn
  go_enter Tryd.func16, Tryd.ntmps16
  go_wp2_with (go_at_call 30; refine (new_no _ _ l1 l2 _ (H1.out.alloc _) (H2.out.alloc _) HN.out).mono ?_; rintro e w2 ⟨rfl, k1⟩; have H3 : Hid (Kp0 w w2) := Lib.hid (((Kp.refl _ w).alloc _).tr k1); clear k1)
  go_ret
  exact ⟨rfl, H3.out⟩
set_option maxRecDepth 20000 in
set_option maxHeartbeats 8000000 in
theorem take_no2 (B b : Nat) (T : TypeId) (rest : List Value) (d : Dn) (sg : Option Nat) (k1 k2 k3 : Value) (l1 l2 l3 : List UInt8) (w : World) (_ : DirM B w b T rest d sg) (ht : TabM B w)
    (h1 : Rd w k1 (bys l1)) (h2 : Rd w k2 (bys l2)) (h3 : Rd w k3 (bys l3)) (hn : l1.length = 16 ∧ l2.length = 16) (hn3 : l3.length ≠ 32) :
    Calls Tryd.prog 16 #[.pointer (some ⟨b, 0, none⟩), .agg #[k1, k2, k3]] w fun e w' => e = .returned (.int .i64 2) ∧ Kp0 w w' := by
  obtain ⟨a1, c1, rfl, -, -, -⟩ := h1.shapeB
  obtain ⟨a2, c2, rfl, -, -, -⟩ := h2.shapeB
  obtain ⟨a3, c3, rfl, -, -, -⟩ := h3.shapeB
  have H1 := Lib.hid h1
  have H2 := Lib.hid h2
  have HN := Lib.hid hn
  have HT := Lib.hid ht.sqr
  have h32 : ¬ (l3.length : Int) = 32 := by omega
  have hq : ((l3.length : Int) != 32) = true := by rw [bne_iff_ne]; exact h32
  clear ht h1 h2 h3 hn hn3
  go_enter Tryd.func16, Tryd.ntmps16
  go_wp2_with (go_at_call 30; refine (new_any _ _ l1 l2 _ (H1.out.alloc _) (H2.out.alloc _) (HT.out.kp0 ((Kp.refl _ w).alloc _)) HN.out).mono ?_; rintro e w2 ⟨g, rfl, k0, k1, k2⟩; have H3 : Hid (Kp0 w w2) := Lib.hid (((Kp.refl _ w).alloc _).tr k2); have hk2 := blk_cell (blk_keep k2 (heap_alloc_new w _) (fun h => h)) 2; clear k0 k1 k2)
  go_ret
  exact ⟨rfl, H3.out⟩
set_option maxRecDepth 20000 in
set_option maxHeartbeats 8000000 in
theorem take_ok (B b : Nat) (T : TypeId) (rest : List Value) (d : Dn) (sg : Option Nat) (k1 k2 k3 : Value) (l1 l2 l3 : List UInt8) (w : World) (h : DirM B w b T rest d sg) (ht : TabM B w)
    (h1 : Rd w k1 (bys l1)) (h2 : Rd w k2 (bys l2)) (h3 : Rd w k3 (bys l3)) (hn : okKeys l1 l2 l3) :
    Calls Tryd.prog 16 #[.pointer (some ⟨b, 0, none⟩), .agg #[k1, k2, k3]] w fun e w' => e = .returned (.int .i64 0) ∧ ∃ g, w.heap.size ≤ g ∧ DirM B w' b T rest (taken d l1 l2 l3) (some g) ∧ Kp (fun k => k = b) w w' := by
  obtain ⟨hn1, hn2, hn3⟩ := hn
  obtain ⟨a1, c1, rfl, -, -, -⟩ := h1.shapeB
  obtain ⟨a2, c2, rfl, -, -, -⟩ := h2.shapeB
  obtain ⟨b3, o3, c3, rfl, -, -, -⟩ := h3.posB (by omega)
  have H := Lib.hid h
  have HT := Lib.hid ht
  have H1 := Lib.hid h1
  have H2 := Lib.hid h2
  have H3 := Lib.hid h3
  have HN : Hid (l1.length = 16 ∧ l2.length = 16) := Lib.hid ⟨hn1, hn2⟩
  have HN3 := Lib.hid hn3
  have hbl := h.blk.lt
  have hat : ∀ wq : World, (Instr.arrayAt 26 (.slice (some ⟨b3, o3, none⟩) 32 c3)).run Tryd.prog wq = .ok (.pointer (some ⟨b3, o3, none⟩)) wq := fun wq => run_arrayAt (w := wq) 26 5 32 _ 32 c3 Tryd.underlying26 (by decide)
  rw [hn3]
  have HBL := Lib.hid hbl
  clear h ht h1 h2 h3 hn1 hn2 hn3 hbl
  go_enter Tryd.func16, Tryd.ntmps16
  go_upto_region 4 with (go_at_call 30; refine (new_any _ _ l1 l2 _ (H1.out.alloc _) (H2.out.alloc _) (HT.out.sqr.kp0 ((Kp.refl _ w).alloc _)) HN.out).mono ?_; rintro e w2 ⟨g, rfl, k0, k1, k2⟩; have HK2 : Hid (Kp0 w w2) := Lib.hid (((Kp.refl _ w).alloc _).tr k2); have HA : Hid (AtC w2 g (kyW (colsW l1)) l2 0 ∧ w.heap.size ≤ g) := Lib.hid ⟨AtC.start k0, Nat.le_trans (by simp) k1⟩; have hk2 := blk_cell (blk_keep k2 (heap_alloc_new w _) (fun h => h)) 2; clear k0 k1 k2)
  have HB2 := Lib.hid (H.out.blk.kp0 HK2.out)
  have hq0 : w2.cell? ⟨b, 0, none⟩ = some (spV sg) := HB2.out.cellV 0 rfl
  have hf0 := blk_frozen HB2.out 0
  have HB3 := Lib.hid (HB2.out.set' 0 (.pointer (some ⟨g, 0, none⟩)))
  go_upto_region 5 with (first
    | (refine wpList_load_mid rfl 26 (.tmp 29) rfl b3 o3 rfl (bys l3) _ (H3.out.keep0 HK2.out).range Tryd.underlying26 rfl (infoB32 HN3.out) ?_)
    | (refine wpList_store_mid rfl 26 (.tmp 34) (.tmp 30) rfl b 1 (bys l3).toArray rfl rfl (there_blk HB3.out (by rw [List.size_toArray, bys_len, HN3.out, List.length_set, List.length_append, dirC_len H.out.mac]; omega)) (by rw [List.size_toArray]; exact infoB32 HN3.out) (bys_onesV l3).all ?_
       rw [List.toList_toArray]
       have HB4 := Lib.hid ((blk_setCells b (bys l3) 1 _ T _ HB3.out (by rw [bys_len, HN3.out, List.length_set, List.length_append, dirC_len H.out.mac]; omega)))
       have HK4 : Hid (Kp (fun k => k = b) w2 ((w2.setCell ⟨b, 0, none⟩ (.pointer (some ⟨g, 0, none⟩))).setCells b 1 (bys l3))) := Lib.hid (((Kp.refl (fun k => k = b) w2).setCell (p := ⟨b, 0, none⟩) (fun _ => rfl) _).tr (setCells_keep b (bys l3) 1 _))
       generalize (w2.setCell ⟨b, 0, none⟩ (.pointer (some ⟨g, 0, none⟩))).setCells b 1 (bys l3) = w4 at HB4 HK4 ⊢
       obtain ⟨cs4, hcs4⟩ : ∃ cs, cs = ((dirC sg d ++ rest).set 0 (.pointer (some ⟨g, 0, none⟩))).take 1 ++ bys l3 ++ ((dirC sg d ++ rest).set 0 (.pointer (some ⟨g, 0, none⟩))).drop (1 + (bys l3).length) := ⟨_, rfl⟩
       rw [← hcs4] at HB4
       have HCS4 := Lib.hid hcs4
       have hl4 : 35 ≤ cs4.length := by rw [hcs4]; simp only [List.length_append, List.length_take, List.length_drop, List.length_set, bys_len, HN3.out, dirC_len H.out.mac]; omega
       have hq33 := HB4.out.cellV 33 (List.getElem?_eq_getElem (show 33 < cs4.length by omega))
       have hf33 := blk_frozen HB4.out 33
       generalize cs4[33]'(by omega) = v33 at hq33
       clear hcs4 hl4))
  go_wp2
  go_ret
  have hb := HB4.out.set' 33 (.int .i64 0)
  rw [HCS4.out, dirC_take (key := some (kyW (colsW l1), l2, 0)) H.out.mac HN3.out] at hb
  have hk : Kp (fun k => k = b) w (w4.setCell ⟨b, 33, none⟩ (.int .i64 0)) := ((HK2.out.nil _).tr HK4.out).setCell (p := ⟨b, 33, none⟩) (fun _ => rfl) _
  have hge := HA.out.2
  have hbl := HBL.out
  refine ⟨rfl, g, hge, ⟨hb, HN3.out, ⟨?_, by omega, by have := H.out.ge; omega⟩, H.out.ge, H.out.num⟩, hk⟩
  exact (HA.out.1.kp0' HK4.out (by omega)).kp0' ((Kp.refl (fun k => k = b) w4).setCell (p := ⟨b, 33, none⟩) (fun _ => rfl) _) (by omega)
end Go.Proofs.YtnbfedmecmdjlaaDoor
