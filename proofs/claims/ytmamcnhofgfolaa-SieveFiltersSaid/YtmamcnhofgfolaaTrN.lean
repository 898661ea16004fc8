/- The schema that the statements use, as Schema lays it. -/
import Derived.Test.YtmamcnhofgfolaaTrM
namespace Go.Proofs.Ytmamcnhofgfolaa
open Go Go.RowKit
section
variable {B : Nat} {w w1 : World}
theorem RowD.made (ds : List PD) (vs : List (Value × Value × Value)) (w : World) (hB : B ≤ w.heap.size) (n : Nat) (hn : n = ds.length) (hm : n ≤ 9223372036854775807) (h : DfsV (fun i => B ≤ i) w ds vs) :
    RowD (fun i => B ≤ i) (w.alloc (.cells (dcs ds vs).toArray 35)) (.slice (some ⟨w.heap.size, 0, none⟩) n n) ds := by
  subst hn
  have h' := DfsV.keep (G := fun i => B ≤ i) ((Kp.refl (fun _ => False) w).alloc (.cells (dcs ds vs).toArray 35)) (fun _ _ _ h => h) (fun _ h _ => h) _ _ h
  refine ⟨vs, ⟨_, _, rfl, dcs_len _ _ h, Nat.le_refl _, hm, (fun e => by cases e), fun ad e j u hu => ?_⟩, h'⟩
  cases e
  refine ⟨hB, ?_⟩
  rw [Addr.add_lit, Nat.zero_add]
  exact (blk0 w 35 (dcs ds vs)).cellV j hu
theorem DfsV.nil' (F : Nat → Prop) (w : World) : DfsV F w [] [] := by unfold DfsV; rfl
theorem DfsV.cons' {F : Nat → Prop} {w : World} {d : PD} {ds : List PD} {a b c : Value} {vs : List (Value × Value × Value)} (h : DfR F w d a b c) (hs : DfsV F w ds vs) : DfsV F w (d :: ds) ((a, b, c) :: vs) := by
  unfold DfsV
  exact ⟨(a, b, c), vs, rfl, h.df, hs⟩
theorem dfr_leaf (F : Nat → Prop) (w : World) {d : PD} (h1 : d.vs = []) (h2 : d.ky = []) (h3 : d.ks = []) : DfR F w d (.slice none 0 0) (.slice none 0 0) (.slice none 0 0) := by
  refine ⟨?_, ?_, ?_⟩
  · rw [h1]; exact RdF.nil _ _ _
  · rw [h2]; exact RdF.nil _ _ _
  · rw [h3]; exact RowD.nil _ _
theorem txs_made (l : List (List UInt8)) (w : World) (hB : B ≤ w.heap.size) (n : Nat) (hn : n = l.length) (hm : n ≤ 9223372036854775807) : RdF (fun i => B ≤ i) (w.alloc (.cells (txs l).toArray 9)) 1 (.slice (some ⟨w.heap.size, 0, none⟩) n n) l.length (txs l) := by
  subst hn
  refine ⟨_, _, rfl, by rw [txs_len, Nat.mul_one], Nat.le_refl _, hm, (fun e => by cases e), fun ad e j u hu => ?_⟩
  cases e
  refine ⟨hB, ?_⟩
  rw [Addr.add_lit, Nat.zero_add]
  exact (blk0 w 9 (txs l)).cellV j hu
end
/-- A definition in a box. -/
structure BoxD (B : Nat) (w : World) (g : Nat) (d : PD) (a b c : Value) : Prop where
  blk : Blk w g 35 (dvl d a b c)
  df : DfR (fun i => B ≤ i) w d a b c
theorem BoxD.kp0 {B : Nat} {w w1 : World} {g : Nat} {d : PD} {a b c : Value} (h : BoxD B w g d a b c) (hk : Kp0 w w1) : BoxD B w1 g d a b c := ⟨h.blk.kp0 hk, h.df.kp0 hk⟩
theorem RowD.ofBlk {B g n : Nat} {w : World} {ds : List PD} {vs : List (Value × Value × Value)} (h : Blk w g 35 (dcs ds vs)) (hB : B ≤ g) (hv : DfsV (fun i => B ≤ i) w ds vs) (hn : n = ds.length) (hm : n ≤ 9223372036854775807) : RowD (fun i => B ≤ i) w (.slice (some ⟨g, 0, none⟩) n n) ds := by
  subst hn
  refine ⟨vs, ⟨_, _, rfl, dcs_len _ _ hv, Nat.le_refl _, hm, (fun e => by cases e), fun ad e j u hu => ?_⟩, hv⟩
  cases e
  refine ⟨hB, ?_⟩
  rw [Addr.add_lit, Nat.zero_add]
  exact h.cellV j hu
theorem RdF.ofTxs {B g n : Nat} {w : World} {l : List (List UInt8)} (h : Blk w g 9 (txs l)) (hB : B ≤ g) (hn : n = l.length) (hm : n ≤ 9223372036854775807) : RdF (fun i => B ≤ i) w 1 (.slice (some ⟨g, 0, none⟩) n n) l.length (txs l) := by
  subst hn
  refine ⟨_, _, rfl, by rw [txs_len, Nat.mul_one], Nat.le_refl _, hm, (fun e => by cases e), fun ad e j u hu => ?_⟩
  cases e
  refine ⟨hB, ?_⟩
  rw [Addr.add_lit, Nat.zero_add]
  exact h.cellV j hu
theorem box_done {B g3 g4 g5 k9 k7 : Nat} {pb wc : World} {sv pkv prv : Value} (hk : Kp0 pb wc) (hB : B ≤ pb.heap.size) (h5 : Blk wc g5 35 (dvl boxD (.slice none 0 0) (.slice none 0 0) (.slice (some ⟨k9, 0, none⟩) 4 4)))
    (h9 : Blk wc k9 35 (dcs [lfD sTitle 0, colorD, portD, deepD] [(.slice none 0 0, .slice none 0 0, .slice none 0 0), (sv, .slice none 0 0, .slice none 0 0), (.slice none 0 0, pkv, prv), (.slice none 0 0, .slice none 0 0, .slice (some ⟨k7, 0, none⟩) 2 2)]))
    (h7 : Blk wc k7 35 (dcs [idD, lfD sNote 0] [(.slice none 0 0, .slice none 0 0, .slice none 0 0), (.slice none 0 0, .slice none 0 0, .slice none 0 0)])) (g9 : pb.heap.size ≤ k9) (g7 : pb.heap.size ≤ k7)
    (hx3 : BoxD B pb g3 colorD sv (.slice none 0 0) (.slice none 0 0)) (hx4 : BoxD B pb g4 portD (.slice none 0 0) pkv prv) : BoxD B wc g5 boxD (.slice none 0 0) (.slice none 0 0) (.slice (some ⟨k9, 0, none⟩) 4 4) := by
  have hd : DfR (fun i => B ≤ i) wc deepD (.slice none 0 0) (.slice none 0 0) (.slice (some ⟨k7, 0, none⟩) 2 2) := ⟨RdF.nil _ _ _, RdF.nil _ _ _, RowD.ofBlk h7 (by omega) (DfsV.cons' (dfr_leaf _ _ rfl rfl rfl) (DfsV.cons' (dfr_leaf _ _ rfl rfl rfl) (DfsV.nil' _ _))) rfl (by decide)⟩
  exact ⟨h5, ⟨RdF.nil _ _ _, RdF.nil _ _ _, RowD.ofBlk h9 (by omega) (DfsV.cons' (dfr_leaf _ _ rfl rfl rfl) (DfsV.cons' (hx3.df.kp0 hk) (DfsV.cons' (hx4.df.kp0 hk) (DfsV.cons' hd (DfsV.nil' _ _))))) rfl (by decide)⟩⟩
theorem sch_done {B g4 g5 g6 k10 k8 k4 : Nat} {qb wc : World} {bv pkv prv qkv qrv : Value} (hk : Kp0 qb wc) (hB : B ≤ qb.heap.size)
    (h10 : Blk wc k10 35 (dcs [lfD sHost 0, boxD, pairD, areaD] [(.slice none 0 0, .slice none 0 0, .slice none 0 0), (.slice none 0 0, .slice none 0 0, bv), (.slice none 0 0, qkv, qrv), (.slice none 0 0, .slice (some ⟨k4, 0, none⟩) 1 1, .slice (some ⟨k8, 0, none⟩) 2 2)]))
    (h8 : Blk wc k8 35 (dcs [lfD sName 0, portD] [(.slice none 0 0, .slice none 0 0, .slice none 0 0), (.slice none 0 0, pkv, prv)])) (h4 : Blk wc k4 9 (txs [sName]))
    (g10' : qb.heap.size ≤ k10) (g8' : qb.heap.size ≤ k8) (g4' : qb.heap.size ≤ k4)
    (hx4 : BoxD B qb g4 portD (.slice none 0 0) pkv prv) (hx5 : BoxD B qb g5 boxD (.slice none 0 0) (.slice none 0 0) bv) (hx6 : BoxD B qb g6 pairD (.slice none 0 0) qkv qrv) : RowD (fun i => B ≤ i) wc (.slice (some ⟨k10, 0, none⟩) 4 4) schD := by
  have ha : DfR (fun i => B ≤ i) wc areaD (.slice none 0 0) (.slice (some ⟨k4, 0, none⟩) 1 1) (.slice (some ⟨k8, 0, none⟩) 2 2) :=
    ⟨RdF.nil _ _ _, RdF.ofTxs (l := [sName]) h4 (by omega) rfl (by decide), RowD.ofBlk h8 (by omega) (DfsV.cons' (dfr_leaf _ _ rfl rfl rfl) (DfsV.cons' (hx4.df.kp0 hk) (DfsV.nil' _ _))) rfl (by decide)⟩
  exact RowD.ofBlk h10 (by omega) (DfsV.cons' (dfr_leaf _ _ rfl rfl rfl) (DfsV.cons' (hx5.df.kp0 hk) (DfsV.cons' (hx6.df.kp0 hk) (DfsV.cons' ha (DfsV.nil' _ _))))) rfl (by decide)
set_option maxRecDepth 40000 in
set_option maxHeartbeats 4000000 in
theorem schema_any (w : World) : Calls Try.prog 10 #[] w fun e w' => ∃ v, e = .returned v ∧ RowD (fun i => w.heap.size ≤ i) w' v schD ∧ Kp0 w w' := by
  go_enter Try.func10, Try.ntmps10
  go_upto_region 3 with (first
    | (go_at_call 20; refine (leaf_any _ _ _).mono ?_; rintro e w1 ⟨rfl, hk⟩; have HK1 := Lib.hid hk; clear hk)
    | (refine wl_alloc_as asDf rfl rfl ?_
       intro w2 g2 hw hg
       have HB2 : Hid (Blk w2 g2 35 df0) := Lib.hid (by rw [hw, hg]; exact blk0 _ _ _)
       have HK2 : Hid (Kp0 w w2 ∧ w.heap.size ≤ g2) := Lib.hid (by rw [hw, hg]; exact ⟨HK1.out.alloc _, HK1.out.size⟩)
       clear hw hg)
    | (refine wl_store_blk rfl 35 (.tmp 2) (.tmp 8) rfl g2 _ df0 (dvl (lfD sId 1) (.slice none 0 0) (.slice none 0 0) (.slice none 0 0)) rfl rfl HB2.out infoDf rfl (dfr_leaf (fun _ => True) w (d := lfD sId 1) rfl rfl rfl).ones ?_
       intro w3 hA hk
       have HB3 := Lib.hid hA
       have HK3 : Hid (Kp0 w w3) := Lib.hid (HK2.out.1.trans hk (fun _ _ h => h) (fun i hi e => by have := HK2.out.2; omega))
       clear hA hk))
  try simp only [Act.put]
  try simp only [List.setIfInBounds_toArray, List.set_cons_zero, List.set_cons_succ]
  have q4 := HB3.out.cellV 4 (v := .bool false) rfl
  have z4 := blk_frozen HB3.out 4
  go_upto_region 4 with (fail)
  have HB4 : Hid (Blk (w3.setCell ⟨g2, 4, none⟩ (.bool true)) g2 35 (dvl idD (.slice none 0 0) (.slice none 0 0) (.slice none 0 0))) := Lib.hid (HB3.out.set' 4 _)
  have HK4 : Hid (Kp0 w (w3.setCell ⟨g2, 4, none⟩ (.bool true))) := Lib.hid (HK3.out.at HK2.out.2 _)
  have HG2 := Lib.hid HK2.out.2
  generalize w3.setCell ⟨g2, 4, none⟩ (.bool true) = w4 at HB4 HK4 ⊢
  clear q4 z4 HB3 HB2 HK1 HK2 HK3
  go_upto_region 5 with (first
    | (go_at_call 20; refine (leaf_any _ _ _).mono ?_; rintro e w5 ⟨rfl, hk⟩; have HK5 := Lib.hid hk; clear hk)
    | (refine wl_alloc_as asDf rfl rfl ?_
       intro w6 g3 hw hg
       have HB6 : Hid (Blk w6 g3 35 df0) := Lib.hid (by rw [hw, hg]; exact blk0 _ _ _)
       have HK6 : Hid (Kp0 w4 w6 ∧ w4.heap.size ≤ g3) := Lib.hid (by rw [hw, hg]; exact ⟨HK5.out.alloc _, HK5.out.size⟩)
       clear hw hg)
    | (refine wl_store_blk rfl 35 (.tmp 3) (.tmp 11) rfl g3 _ df0 (dvl (lfD sColor 3) (.slice none 0 0) (.slice none 0 0) (.slice none 0 0)) rfl rfl HB6.out infoDf rfl (dfr_leaf (fun _ => True) w (d := lfD sColor 3) rfl rfl rfl).ones ?_
       intro w7 hA hk
       have HB7 := Lib.hid hA
       have HK7 : Hid (Kp0 w4 w7) := Lib.hid (HK6.out.1.trans hk (fun _ _ h => h) (fun i hi e => by have := HK6.out.2; omega))
       clear hA hk))
  try simp only [Act.put]
  try simp only [List.setIfInBounds_toArray, List.set_cons_zero, List.set_cons_succ]
  have HL3 := Lib.hid HB7.out.lt
  have q3 : ∀ o, (w7.alloc o).cell? ⟨g3, 3, none⟩ = some (.slice none 0 0) := fun o => (HB7.out.kp0 ((Kp.refl _ _).alloc o)).cellV 3 rfl
  have z3 : ∀ o, (w7.alloc o).frozen? ⟨g3, 3, none⟩ = false := fun o => blk_frozen (HB7.out.kp0 ((Kp.refl _ _).alloc o)) 3
  go_upto_region 6 with (fail)
  have hw8 : ((w7.alloc (.cells #[.string ({ data := #[114, 101, 100] } : ByteArray), .string ({ data := #[103, 114, 101, 101, 110] } : ByteArray)] 9)).setCell ⟨g3, 3, none⟩ (.slice (some ⟨w7.heap.size, 0, none⟩) 2 2)) = ((w7.alloc (.cells (txs [sRed, sGreen]).toArray 9)).setCell ⟨g3, 3, none⟩ (.slice (some ⟨w7.heap.size, 0, none⟩) 2 2)) := rfl
  rw [hw8]
  clear hw8 q3 z3
  have kk : Kp (fun b => b = g3) (w7.alloc (.cells (txs [sRed, sGreen]).toArray 9)) ((w7.alloc (.cells (txs [sRed, sGreen]).toArray 9)).setCell ⟨g3, 3, none⟩ (.slice (some ⟨w7.heap.size, 0, none⟩) 2 2)) := (Kp.refl (fun b => b = g3) _).setCell (p := ⟨g3, 3, none⟩) (fun _ => rfl) _
  have HK8 : Hid (Kp0 w4 ((w7.alloc (.cells (txs [sRed, sGreen]).toArray 9)).setCell ⟨g3, 3, none⟩ (.slice (some ⟨w7.heap.size, 0, none⟩) 2 2))) := Lib.hid ((HK7.out.alloc _).at HK6.out.2 _)
  have HT3 : Hid (RdF (fun i => w.heap.size ≤ i) ((w7.alloc (.cells (txs [sRed, sGreen]).toArray 9)).setCell ⟨g3, 3, none⟩ (.slice (some ⟨w7.heap.size, 0, none⟩) 2 2)) 1 (.slice (some ⟨w7.heap.size, 0, none⟩) 2 2) 2 (txs [sRed, sGreen])) := Lib.hid (((txs_made (B := w7.heap.size) [sRed, sGreen] w7 (Nat.le_refl _) 2 rfl (by decide)).keep kk (fun i hi e => by have := HL3.out; omega)).mono (fun i hi => Nat.le_trans (Nat.le_trans HK4.out.size HK7.out.size) hi))
  have HB3 : Hid (Blk ((w7.alloc (.cells (txs [sRed, sGreen]).toArray 9)).setCell ⟨g3, 3, none⟩ (.slice (some ⟨w7.heap.size, 0, none⟩) 2 2)) g3 35 (dvl colorD (.slice (some ⟨w7.heap.size, 0, none⟩) 2 2) (.slice none 0 0) (.slice none 0 0))) := Lib.hid ((HB7.out.kp0 ((Kp.refl _ _).alloc _)).set' 3 _)
  obtain ⟨sv, hsv⟩ : ∃ v : Value, v = .slice (some ⟨w7.heap.size, 0, none⟩) 2 2 := ⟨_, rfl⟩
  generalize ((w7.alloc (.cells (txs [sRed, sGreen]).toArray 9)).setCell ⟨g3, 3, none⟩ (.slice (some ⟨w7.heap.size, 0, none⟩) 2 2)) = w8 at HK8 HT3 HB3 ⊢
  rw [← hsv] at HT3 HB3 ⊢
  clear hsv kk HB7 HB6 HK7 HK5 HL3 HK6
  have HX3 : Hid (BoxD w.heap.size w8 g3 colorD sv (.slice none 0 0) (.slice none 0 0)) := Lib.hid ⟨HB3.out, ⟨HT3.out, RdF.nil _ _ _, RowD.nil _ _⟩⟩
  have HX2 : Hid (BoxD w.heap.size w8 g2 idD (.slice none 0 0) (.slice none 0 0) (.slice none 0 0)) := Lib.hid ⟨HB4.out.kp0 HK8.out, dfr_leaf _ _ rfl rfl rfl⟩
  have HKW := Lib.hid (HK4.out.tr HK8.out)
  clear HB3 HT3 HB4 HK4 HK8 HG2
  have Tp0 : Hid True := Lib.hid trivial
  go_upto_region 7 with (first
    | (go_at_call 20; refine (leaf_any _ _ _).mono ?_; clear Tp0; rintro e p1 ⟨rfl, hk⟩; have HTp := Lib.hid ((txs_made (B := w.heap.size) [sName] w8 HKW.out.size 1 rfl (by decide)).kp0 hk); have HKp : Hid (Kp0 w8 p1) := Lib.hid (((Kp.refl _ _).alloc _).tr hk); have Tp1 : Hid True := Lib.hid trivial; clear hk)
    | (go_at_call 20; refine (leaf_any _ _ _).mono ?_; clear Tp1; rintro e p2 ⟨rfl, hk⟩; have HTp := Lib.hid (HTp.out.kp0 hk); have HKp := Lib.hid (HKp.out.tr hk); have Tp2 : Hid True := Lib.hid trivial; clear hk)
    | (go_at_call 20; refine (leaf_any _ _ _).mono ?_; clear Tp2; rintro e p3 ⟨rfl, hk⟩; have HTp := Lib.hid (HTp.out.kp0 hk); have HKp := Lib.hid (HKp.out.tr hk); have Tp3 : Hid True := Lib.hid trivial; clear hk)
    | (refine wl_alloc_as asDf rfl rfl ?_
       intro pa g4 hw hg
       have HRR := Lib.hid (RowD.made (B := w.heap.size) [lfD sName 0, lfD sSpeed 1, lfD sOn 2] [(.slice none 0 0, .slice none 0 0, .slice none 0 0), (.slice none 0 0, .slice none 0 0, .slice none 0 0), (.slice none 0 0, .slice none 0 0, .slice none 0 0)] p3 (Nat.le_trans HKW.out.size HKp.out.size) 3 rfl (by decide) (DfsV.cons' (dfr_leaf _ _ rfl rfl rfl) (DfsV.cons' (dfr_leaf _ _ rfl rfl rfl) (DfsV.cons' (dfr_leaf _ _ rfl rfl rfl) (DfsV.nil' _ _)))))
       have HTT := Lib.hid (HTp.out.kp0 ((Kp.refl _ _).alloc (.cells (dcs [lfD sName 0, lfD sSpeed 1, lfD sOn 2] [(.slice none 0 0, .slice none 0 0, .slice none 0 0), (.slice none 0 0, .slice none 0 0, .slice none 0 0), (.slice none 0 0, .slice none 0 0, .slice none 0 0)]).toArray 35)))
       have HBa : Hid (Blk pa g4 35 df0) := Lib.hid (by rw [hw, hg]; exact blk0 _ _ _)
       have HKa : Hid (Kp0 w8 pa ∧ w8.heap.size ≤ g4) := Lib.hid (by rw [hw, hg]; exact ⟨(HKp.out.alloc _).alloc _, (HKp.out.alloc _).size⟩)
       obtain ⟨pkv, hkv⟩ : ∃ v : Value, v = .slice (some ⟨w8.heap.size, 0, none⟩) 1 1 := ⟨_, rfl⟩
       obtain ⟨prv, hrv⟩ : ∃ v : Value, v = .slice (some ⟨p3.heap.size, 0, none⟩) 3 3 := ⟨_, rfl⟩
       rw [← hkv] at HTT ⊢
       rw [← hrv] at HRR ⊢
       have HDD : Hid (∃ X : World, DfR (fun i => w.heap.size ≤ i) X portD (.slice none 0 0) pkv prv ∧ Kp0 X pa ∧ X.heap.size ≤ g4) := Lib.hid ⟨_, ⟨RdF.nil _ _ _, HTT.out, HRR.out⟩, by rw [hw]; exact (Kp.refl _ _).alloc _, by rw [hg]; exact Nat.le_refl _⟩
       clear hw hg hkv hrv HTp HRR HTT)
    | (refine wl_store_blk rfl 35 (.tmp 4) (.tmp 22) rfl g4 _ df0 (dvl portD (.slice none 0 0) pkv prv) rfl rfl HBa.out infoDf rfl (HDD.out.choose_spec.1.ones) ?_
       intro pb hA hk
       have HBb := Lib.hid hA
       have HKb : Hid (Kp0 w8 pb) := Lib.hid (HKa.out.1.trans hk (fun _ _ h => h) (fun i hi e => by have := HKa.out.2; omega))
       have HDb : Hid (DfR (fun i => w.heap.size ≤ i) pb portD (.slice none 0 0) pkv prv) := Lib.hid (by obtain ⟨X, h1, h2, h3⟩ := HDD.out; exact h1.kp0 (h2.trans hk (fun _ _ h => h) (fun i hi e => by omega)))
       clear hA hk))
  try simp only [Act.put]
  try simp only [List.setIfInBounds_toArray, List.set_cons_zero, List.set_cons_succ]
  have HX4 : Hid (BoxD w.heap.size pb g4 portD (.slice none 0 0) pkv prv) := Lib.hid ⟨HBb.out, HDb.out⟩
  have HX2 := Lib.hid (HX2.out.kp0 HKb.out)
  have HX3 := Lib.hid (HX3.out.kp0 HKb.out)
  have HKW := Lib.hid (HKW.out.tr HKb.out)
  clear HBb HDb HKb HDD HKa HBa HKp
  go_cut [5] from 7 (fun s5 wc => ∃ (g5 : Nat) (bv : Value), s5 = .pointer (some ⟨g5, 0, none⟩) ∧ Hid (BoxD w.heap.size wc g5 boxD (.slice none 0 0) (.slice none 0 0) bv) ∧ Hid (Kp0 pb wc))
  case first =>
    refine wp_region_px 13 [12] (fun w' : World => Kp0 pb w') (.quiet 0 (.quiet 2 (.quiet 3 (.quiet 4 (.quiet 5 (.two 1 (.two 6 (.two 7 (.quiet 8 (.two 9 (.quiet 10 (.eff 11 (.wall 12 .done))) 11 (.eff 9 (.quiet 10 (.wall 12 .done))))) 11 (.eff 7 (.quiet 8 (.eff 9 (.quiet 10 (.wall 12 .done)))))) 11 (.eff 6 (.eff 7 (.quiet 8 (.eff 9 (.quiet 10 (.wall 12 .done))))))) 11 (.eff 1 (.eff 6 (.eff 7 (.quiet 8 (.eff 9 (.quiet 10 (.wall 12 .done))))))))))))) (by kernel_rfl) (by kernel_rfl) (by kernel_rfl) (by kernel_rfl) (fun _ d _ _ _ h => by cases d <;> exact h) (Kp.refl _ _).drew ?_
    have HB : Hid (Bks pb pb.drew []) := Lib.hid ((Bks.nil pb).drew)
    generalize pb.drew = v0 at HB ⊢
    iterate 1 (refine px_quiet (v := ?_) rfl (by rfl) (fun wq hwq => ?_) rfl ?_; rotate_left 1; (focus (clear hwq; go_simp; try (with_reducible rfl); done)); try simp only [List.setIfInBounds_toArray, List.set_cons_zero, List.set_cons_succ])
    refine px_quiet (v := (.agg #[.string (S (PD.nm colorD)), .int .i64 (PD.kd colorD), .int .i64 (PD.ty colorD), sv, .bool (PD.mu colorD), (.slice none 0 0), (.slice none 0 0)])) rfl (by rfl) (fun wq hwq => ?_) rfl ?_
    focus exact run_load_blk 35 (.tmp 3) rfl _ _ (dvl colorD sv (.slice none 0 0) (.slice none 0 0)) rfl (HX3.out.blk.kp0 hwq) _ Try.underlying35 rfl infoDf
    try simp only [List.setIfInBounds_toArray, List.set_cons_zero, List.set_cons_succ]
    refine px_quiet (v := (.agg #[.string (S (PD.nm portD)), .int .i64 (PD.kd portD), .int .i64 (PD.ty portD), (.slice none 0 0), .bool (PD.mu portD), pkv, prv])) rfl (by rfl) (fun wq hwq => ?_) rfl ?_
    focus exact run_load_blk 35 (.tmp 4) rfl _ _ (dvl portD (.slice none 0 0) pkv prv) rfl (HX4.out.blk.kp0 hwq) _ Try.underlying35 rfl infoDf
    try simp only [List.setIfInBounds_toArray, List.set_cons_zero, List.set_cons_succ]
    refine px_quiet (v := (.agg #[.string (S (PD.nm idD)), .int .i64 (PD.kd idD), .int .i64 (PD.ty idD), (.slice none 0 0), .bool (PD.mu idD), (.slice none 0 0), (.slice none 0 0)])) rfl (by rfl) (fun wq hwq => ?_) rfl ?_
    focus exact run_load_blk 35 (.tmp 2) rfl _ _ (dvl idD (.slice none 0 0) (.slice none 0 0) (.slice none 0 0)) rfl (HX2.out.blk.kp0 hwq) _ Try.underlying35 rfl infoDf
    try simp only [List.setIfInBounds_toArray, List.set_cons_zero, List.set_cons_succ]
    iterate 1 (refine px_quiet (v := ?_) rfl (by rfl) (fun wq hwq => ?_) rfl ?_; rotate_left 1; (focus (clear hwq; go_simp; try (with_reducible rfl); done)); try simp only [List.setIfInBounds_toArray, List.set_cons_zero, List.set_cons_succ])
    refine ⟨px_one rfl (by rfl) (fun K hK => ?_), px_one rfl (by rfl) (fun K hK => ?_)⟩
    · skip
      go_simp
      refine (leaf_any _ _ v0).mono ?_
      rintro e v1 ⟨rfl, hk⟩
      simp only []
      have HB := Lib.hid (HB.out.kp0 hk)
      clear hk
      refine hK (fun w' => Kp0 pb w') _ _ (fun _ h => h) HB.out.kp ?_
      clear hK K
      try simp only [List.setIfInBounds_toArray, List.set_cons_zero, List.set_cons_succ]
      refine ⟨px_one rfl (by rfl) (fun K hK => ?_), px_one rfl (by rfl) (fun K hK => ?_)⟩
      · skip
        go_simp
        refine (leaf_any _ _ v1).mono ?_
        rintro e v2 ⟨rfl, hk⟩
        simp only []
        have HB := Lib.hid (HB.out.kp0 hk)
        clear hk
        refine hK (fun w' => Kp0 pb w') _ _ (fun _ h => h) HB.out.kp ?_
        clear hK K
        try simp only [List.setIfInBounds_toArray, List.set_cons_zero, List.set_cons_succ]
        refine ⟨px_one rfl (by rfl) (fun K hK => ?_), px_one rfl (by rfl) (fun K hK => ?_)⟩
        · skip
          go_simp
          generalize hgv : World.alloc v2 _ = v3
          have HBN := Lib.hid (HB.out.push 35 (dcs [idD, lfD sNote 0] [(.slice none 0 0, .slice none 0 0, .slice none 0 0), (.slice none 0 0, .slice none 0 0, .slice none 0 0)]) (g := v2.heap.size) rfl)
          have HB : Hid (Bks pb v3 _) := Lib.hid (by rw [← hgv]; exact HBN.out)
          obtain ⟨k7, hg⟩ : ∃ x, x = v2.heap.size := ⟨_, rfl⟩
          rw [← hg] at HB ⊢
          clear hg hgv HBN
          refine hK (fun w' => Kp0 pb w') _ _ (fun _ h => h) HB.out.kp ?_
          clear hK K
          try simp only [List.setIfInBounds_toArray, List.set_cons_zero, List.set_cons_succ]
          iterate 1 (refine px_quiet (v := ?_) rfl (by rfl) (fun wq hwq => ?_) rfl ?_; rotate_left 1; (focus (clear hwq; go_simp; try (with_reducible rfl); done)); try simp only [List.setIfInBounds_toArray, List.set_cons_zero, List.set_cons_succ])
          refine ⟨px_one rfl (by rfl) (fun K hK => ?_), px_one rfl (by rfl) (fun K hK => ?_)⟩
          · skip
            go_simp
            generalize hgv : World.alloc v3 _ = v4
            have HBN := Lib.hid (HB.out.push 35 (dcs [lfD sTitle 0, colorD, portD, deepD] [(.slice none 0 0, .slice none 0 0, .slice none 0 0), (sv, .slice none 0 0, .slice none 0 0), (.slice none 0 0, pkv, prv), (.slice none 0 0, .slice none 0 0, .slice (some ⟨k7, 0, none⟩) 2 2)]) (g := v3.heap.size) rfl)
            have HB : Hid (Bks pb v4 _) := Lib.hid (by rw [← hgv]; exact HBN.out)
            obtain ⟨k9, hg⟩ : ∃ x, x = v3.heap.size := ⟨_, rfl⟩
            rw [← hg] at HB ⊢
            clear hg hgv HBN
            refine hK (fun w' => Kp0 pb w') _ _ (fun _ h => h) HB.out.kp ?_
            clear hK K
            try simp only [List.setIfInBounds_toArray, List.set_cons_zero, List.set_cons_succ]
            iterate 1 (refine px_quiet (v := ?_) rfl (by rfl) (fun wq hwq => ?_) rfl ?_; rotate_left 1; (focus (clear hwq; go_simp; try (with_reducible rfl); done)); try simp only [List.setIfInBounds_toArray, List.set_cons_zero, List.set_cons_succ])
            refine px_eff rfl (by rfl) (fun K hK => ?_)
            refine wp_alloc_as asDf rfl ?_
            intro v5 g5 hw hg
            have HB : Hid (Bks pb v5 _) := Lib.hid (by rw [hw]; exact HB.out.push 35 df0 (g := g5) hg)
            clear hw hg
            simp only [Act.put, List.getElem_toArray, List.getElem_cons_succ, List.getElem_cons_zero]
            refine hK (fun w' => Kp0 pb w') _ _ (fun _ h => h) HB.out.kp ?_
            clear hK K
            try simp only [List.setIfInBounds_toArray, List.set_cons_zero, List.set_cons_succ]
            refine px_wall rfl (by rfl) (fun K hK => ?_)
            refine wp_store_blk 35 (.tmp 5) (.tmp 33) rfl g5 _ df0 (dvl boxD (.slice none 0 0) (.slice none 0 0) (.slice (some ⟨k9, 0, none⟩) 4 4)) rfl rfl (HB.out.at 2 rfl) infoDf rfl (by intro u hu; simp only [dvl, List.mem_cons, List.not_mem_nil, or_false] at hu; rcases hu with rfl | rfl | rfl | rfl | rfl | rfl | rfl <;> rfl) ?_
            intro ve hA hk
            have HB := Lib.hid (HB.out.store 2 rfl hA hk)
            clear hA hk
            refine hK (fun _ => True) _ _ trivial (px_done ?_)
            clear hK K
            try simp only [Act.put]
            go_wp2
            go_meet
            case rel =>
              exact ⟨g5, .slice (some ⟨k9, 0, none⟩) 4 4, rfl, Lib.hid (box_done HB.out.kp HKW.out.size (HB.out.at 2 rfl) (HB.out.at 1 rfl) (HB.out.at 0 rfl) (HB.out.ge 1 _ rfl) (HB.out.ge 0 _ rfl) HX3.out HX4.out), Lib.hid HB.out.kp⟩
          · skip
            refine wp_alloc_as asDf rfl ?_
            intro v6 g5 hw hg
            have HB : Hid (Bks pb v6 _) := Lib.hid (by rw [hw]; exact HB.out.push 35 df0 (g := g5) hg)
            clear hw hg
            simp only [Act.put, List.getElem_toArray, List.getElem_cons_succ, List.getElem_cons_zero]
            refine hK (fun w' => Kp0 pb w') _ _ (fun _ h => h) HB.out.kp ?_
            clear hK K
            try simp only [List.setIfInBounds_toArray, List.set_cons_zero, List.set_cons_succ]
            refine px_eff rfl (by rfl) (fun K hK => ?_)
            go_simp
            generalize hgv : World.alloc v6 _ = v7
            have HBN := Lib.hid (HB.out.push 35 (dcs [lfD sTitle 0, colorD, portD, deepD] [(.slice none 0 0, .slice none 0 0, .slice none 0 0), (sv, .slice none 0 0, .slice none 0 0), (.slice none 0 0, pkv, prv), (.slice none 0 0, .slice none 0 0, .slice (some ⟨k7, 0, none⟩) 2 2)]) (g := v6.heap.size) rfl)
            have HB : Hid (Bks pb v7 _) := Lib.hid (by rw [← hgv]; exact HBN.out)
            obtain ⟨k9, hg⟩ : ∃ x, x = v6.heap.size := ⟨_, rfl⟩
            rw [← hg] at HB ⊢
            clear hg hgv HBN
            refine hK (fun w' => Kp0 pb w') _ _ (fun _ h => h) HB.out.kp ?_
            clear hK K
            try simp only [List.setIfInBounds_toArray, List.set_cons_zero, List.set_cons_succ]
            iterate 1 (refine px_quiet (v := ?_) rfl (by rfl) (fun wq hwq => ?_) rfl ?_; rotate_left 1; (focus (clear hwq; go_simp; try (with_reducible rfl); done)); try simp only [List.setIfInBounds_toArray, List.set_cons_zero, List.set_cons_succ])
            refine px_wall rfl (by rfl) (fun K hK => ?_)
            refine wp_store_blk 35 (.tmp 5) (.tmp 33) rfl g5 _ df0 (dvl boxD (.slice none 0 0) (.slice none 0 0) (.slice (some ⟨k9, 0, none⟩) 4 4)) rfl rfl (HB.out.at 1 rfl) infoDf rfl (by intro u hu; simp only [dvl, List.mem_cons, List.not_mem_nil, or_false] at hu; rcases hu with rfl | rfl | rfl | rfl | rfl | rfl | rfl <;> rfl) ?_
            intro ve hA hk
            have HB := Lib.hid (HB.out.store 1 rfl hA hk)
            clear hA hk
            refine hK (fun _ => True) _ _ trivial (px_done ?_)
            clear hK K
            try simp only [Act.put]
            go_wp2
            go_meet
            case rel =>
              exact ⟨g5, .slice (some ⟨k9, 0, none⟩) 4 4, rfl, Lib.hid (box_done HB.out.kp HKW.out.size (HB.out.at 1 rfl) (HB.out.at 2 rfl) (HB.out.at 0 rfl) (HB.out.ge 2 _ rfl) (HB.out.ge 0 _ rfl) HX3.out HX4.out), Lib.hid HB.out.kp⟩
        · skip
          refine wp_alloc_as asDf rfl ?_
          intro v8 g5 hw hg
          have HB : Hid (Bks pb v8 _) := Lib.hid (by rw [hw]; exact HB.out.push 35 df0 (g := g5) hg)
          clear hw hg
          simp only [Act.put, List.getElem_toArray, List.getElem_cons_succ, List.getElem_cons_zero]
          refine hK (fun w' => Kp0 pb w') _ _ (fun _ h => h) HB.out.kp ?_
          clear hK K
          try simp only [List.setIfInBounds_toArray, List.set_cons_zero, List.set_cons_succ]
          refine px_eff rfl (by rfl) (fun K hK => ?_)
          go_simp
          generalize hgv : World.alloc v8 _ = v9
          have HBN := Lib.hid (HB.out.push 35 (dcs [idD, lfD sNote 0] [(.slice none 0 0, .slice none 0 0, .slice none 0 0), (.slice none 0 0, .slice none 0 0, .slice none 0 0)]) (g := v8.heap.size) rfl)
          have HB : Hid (Bks pb v9 _) := Lib.hid (by rw [← hgv]; exact HBN.out)
          obtain ⟨k7, hg⟩ : ∃ x, x = v8.heap.size := ⟨_, rfl⟩
          rw [← hg] at HB ⊢
          clear hg hgv HBN
          refine hK (fun w' => Kp0 pb w') _ _ (fun _ h => h) HB.out.kp ?_
          clear hK K
          try simp only [List.setIfInBounds_toArray, List.set_cons_zero, List.set_cons_succ]
          iterate 1 (refine px_quiet (v := ?_) rfl (by rfl) (fun wq hwq => ?_) rfl ?_; rotate_left 1; (focus (clear hwq; go_simp; try (with_reducible rfl); done)); try simp only [List.setIfInBounds_toArray, List.set_cons_zero, List.set_cons_succ])
          refine px_eff rfl (by rfl) (fun K hK => ?_)
          go_simp
          generalize hgv : World.alloc v9 _ = v10
          have HBN := Lib.hid (HB.out.push 35 (dcs [lfD sTitle 0, colorD, portD, deepD] [(.slice none 0 0, .slice none 0 0, .slice none 0 0), (sv, .slice none 0 0, .slice none 0 0), (.slice none 0 0, pkv, prv), (.slice none 0 0, .slice none 0 0, .slice (some ⟨k7, 0, none⟩) 2 2)]) (g := v9.heap.size) rfl)
          have HB : Hid (Bks pb v10 _) := Lib.hid (by rw [← hgv]; exact HBN.out)
          obtain ⟨k9, hg⟩ : ∃ x, x = v9.heap.size := ⟨_, rfl⟩
          rw [← hg] at HB ⊢
          clear hg hgv HBN
          refine hK (fun w' => Kp0 pb w') _ _ (fun _ h => h) HB.out.kp ?_
          clear hK K
          try simp only [List.setIfInBounds_toArray, List.set_cons_zero, List.set_cons_succ]
          iterate 1 (refine px_quiet (v := ?_) rfl (by rfl) (fun wq hwq => ?_) rfl ?_; rotate_left 1; (focus (clear hwq; go_simp; try (with_reducible rfl); done)); try simp only [List.setIfInBounds_toArray, List.set_cons_zero, List.set_cons_succ])
          refine px_wall rfl (by rfl) (fun K hK => ?_)
          refine wp_store_blk 35 (.tmp 5) (.tmp 33) rfl g5 _ df0 (dvl boxD (.slice none 0 0) (.slice none 0 0) (.slice (some ⟨k9, 0, none⟩) 4 4)) rfl rfl (HB.out.at 0 rfl) infoDf rfl (by intro u hu; simp only [dvl, List.mem_cons, List.not_mem_nil, or_false] at hu; rcases hu with rfl | rfl | rfl | rfl | rfl | rfl | rfl <;> rfl) ?_
          intro ve hA hk
          have HB := Lib.hid (HB.out.store 0 rfl hA hk)
          clear hA hk
          refine hK (fun _ => True) _ _ trivial (px_done ?_)
          clear hK K
          try simp only [Act.put]
          go_wp2
          go_meet
          case rel =>
            exact ⟨g5, .slice (some ⟨k9, 0, none⟩) 4 4, rfl, Lib.hid (box_done HB.out.kp HKW.out.size (HB.out.at 0 rfl) (HB.out.at 2 rfl) (HB.out.at 1 rfl) (HB.out.ge 2 _ rfl) (HB.out.ge 1 _ rfl) HX3.out HX4.out), Lib.hid HB.out.kp⟩
      · skip
        refine wp_alloc_as asDf rfl ?_
        intro v11 g5 hw hg
        have HB : Hid (Bks pb v11 _) := Lib.hid (by rw [hw]; exact HB.out.push 35 df0 (g := g5) hg)
        clear hw hg
        simp only [Act.put, List.getElem_toArray, List.getElem_cons_succ, List.getElem_cons_zero]
        refine hK (fun w' => Kp0 pb w') _ _ (fun _ h => h) HB.out.kp ?_
        clear hK K
        try simp only [List.setIfInBounds_toArray, List.set_cons_zero, List.set_cons_succ]
        refine px_eff rfl (by rfl) (fun K hK => ?_)
        go_simp
        refine (leaf_any _ _ v11).mono ?_
        rintro e v12 ⟨rfl, hk⟩
        simp only []
        have HB := Lib.hid (HB.out.kp0 hk)
        clear hk
        refine hK (fun w' => Kp0 pb w') _ _ (fun _ h => h) HB.out.kp ?_
        clear hK K
        try simp only [List.setIfInBounds_toArray, List.set_cons_zero, List.set_cons_succ]
        refine px_eff rfl (by rfl) (fun K hK => ?_)
        go_simp
        generalize hgv : World.alloc v12 _ = v13
        have HBN := Lib.hid (HB.out.push 35 (dcs [idD, lfD sNote 0] [(.slice none 0 0, .slice none 0 0, .slice none 0 0), (.slice none 0 0, .slice none 0 0, .slice none 0 0)]) (g := v12.heap.size) rfl)
        have HB : Hid (Bks pb v13 _) := Lib.hid (by rw [← hgv]; exact HBN.out)
        obtain ⟨k7, hg⟩ : ∃ x, x = v12.heap.size := ⟨_, rfl⟩
        rw [← hg] at HB ⊢
        clear hg hgv HBN
        refine hK (fun w' => Kp0 pb w') _ _ (fun _ h => h) HB.out.kp ?_
        clear hK K
        try simp only [List.setIfInBounds_toArray, List.set_cons_zero, List.set_cons_succ]
        iterate 1 (refine px_quiet (v := ?_) rfl (by rfl) (fun wq hwq => ?_) rfl ?_; rotate_left 1; (focus (clear hwq; go_simp; try (with_reducible rfl); done)); try simp only [List.setIfInBounds_toArray, List.set_cons_zero, List.set_cons_succ])
        refine px_eff rfl (by rfl) (fun K hK => ?_)
        go_simp
        generalize hgv : World.alloc v13 _ = v14
        have HBN := Lib.hid (HB.out.push 35 (dcs [lfD sTitle 0, colorD, portD, deepD] [(.slice none 0 0, .slice none 0 0, .slice none 0 0), (sv, .slice none 0 0, .slice none 0 0), (.slice none 0 0, pkv, prv), (.slice none 0 0, .slice none 0 0, .slice (some ⟨k7, 0, none⟩) 2 2)]) (g := v13.heap.size) rfl)
        have HB : Hid (Bks pb v14 _) := Lib.hid (by rw [← hgv]; exact HBN.out)
        obtain ⟨k9, hg⟩ : ∃ x, x = v13.heap.size := ⟨_, rfl⟩
        rw [← hg] at HB ⊢
        clear hg hgv HBN
        refine hK (fun w' => Kp0 pb w') _ _ (fun _ h => h) HB.out.kp ?_
        clear hK K
        try simp only [List.setIfInBounds_toArray, List.set_cons_zero, List.set_cons_succ]
        iterate 1 (refine px_quiet (v := ?_) rfl (by rfl) (fun wq hwq => ?_) rfl ?_; rotate_left 1; (focus (clear hwq; go_simp; try (with_reducible rfl); done)); try simp only [List.setIfInBounds_toArray, List.set_cons_zero, List.set_cons_succ])
        refine px_wall rfl (by rfl) (fun K hK => ?_)
        refine wp_store_blk 35 (.tmp 5) (.tmp 33) rfl g5 _ df0 (dvl boxD (.slice none 0 0) (.slice none 0 0) (.slice (some ⟨k9, 0, none⟩) 4 4)) rfl rfl (HB.out.at 0 rfl) infoDf rfl (by intro u hu; simp only [dvl, List.mem_cons, List.not_mem_nil, or_false] at hu; rcases hu with rfl | rfl | rfl | rfl | rfl | rfl | rfl <;> rfl) ?_
        intro ve hA hk
        have HB := Lib.hid (HB.out.store 0 rfl hA hk)
        clear hA hk
        refine hK (fun _ => True) _ _ trivial (px_done ?_)
        clear hK K
        try simp only [Act.put]
        go_wp2
        go_meet
        case rel =>
          exact ⟨g5, .slice (some ⟨k9, 0, none⟩) 4 4, rfl, Lib.hid (box_done HB.out.kp HKW.out.size (HB.out.at 0 rfl) (HB.out.at 2 rfl) (HB.out.at 1 rfl) (HB.out.ge 2 _ rfl) (HB.out.ge 1 _ rfl) HX3.out HX4.out), Lib.hid HB.out.kp⟩
    · skip
      refine wp_alloc_as asDf rfl ?_
      intro v15 g5 hw hg
      have HB : Hid (Bks pb v15 _) := Lib.hid (by rw [hw]; exact HB.out.push 35 df0 (g := g5) hg)
      clear hw hg
      simp only [Act.put, List.getElem_toArray, List.getElem_cons_succ, List.getElem_cons_zero]
      refine hK (fun w' => Kp0 pb w') _ _ (fun _ h => h) HB.out.kp ?_
      clear hK K
      try simp only [List.setIfInBounds_toArray, List.set_cons_zero, List.set_cons_succ]
      refine px_eff rfl (by rfl) (fun K hK => ?_)
      go_simp
      refine (leaf_any _ _ v15).mono ?_
      rintro e v16 ⟨rfl, hk⟩
      simp only []
      have HB := Lib.hid (HB.out.kp0 hk)
      clear hk
      refine hK (fun w' => Kp0 pb w') _ _ (fun _ h => h) HB.out.kp ?_
      clear hK K
      try simp only [List.setIfInBounds_toArray, List.set_cons_zero, List.set_cons_succ]
      refine px_eff rfl (by rfl) (fun K hK => ?_)
      go_simp
      refine (leaf_any _ _ v16).mono ?_
      rintro e v17 ⟨rfl, hk⟩
      simp only []
      have HB := Lib.hid (HB.out.kp0 hk)
      clear hk
      refine hK (fun w' => Kp0 pb w') _ _ (fun _ h => h) HB.out.kp ?_
      clear hK K
      try simp only [List.setIfInBounds_toArray, List.set_cons_zero, List.set_cons_succ]
      refine px_eff rfl (by rfl) (fun K hK => ?_)
      go_simp
      generalize hgv : World.alloc v17 _ = v18
      have HBN := Lib.hid (HB.out.push 35 (dcs [idD, lfD sNote 0] [(.slice none 0 0, .slice none 0 0, .slice none 0 0), (.slice none 0 0, .slice none 0 0, .slice none 0 0)]) (g := v17.heap.size) rfl)
      have HB : Hid (Bks pb v18 _) := Lib.hid (by rw [← hgv]; exact HBN.out)
      obtain ⟨k7, hg⟩ : ∃ x, x = v17.heap.size := ⟨_, rfl⟩
      rw [← hg] at HB ⊢
      clear hg hgv HBN
      refine hK (fun w' => Kp0 pb w') _ _ (fun _ h => h) HB.out.kp ?_
      clear hK K
      try simp only [List.setIfInBounds_toArray, List.set_cons_zero, List.set_cons_succ]
      iterate 1 (refine px_quiet (v := ?_) rfl (by rfl) (fun wq hwq => ?_) rfl ?_; rotate_left 1; (focus (clear hwq; go_simp; try (with_reducible rfl); done)); try simp only [List.setIfInBounds_toArray, List.set_cons_zero, List.set_cons_succ])
      refine px_eff rfl (by rfl) (fun K hK => ?_)
      go_simp
      generalize hgv : World.alloc v18 _ = v19
      have HBN := Lib.hid (HB.out.push 35 (dcs [lfD sTitle 0, colorD, portD, deepD] [(.slice none 0 0, .slice none 0 0, .slice none 0 0), (sv, .slice none 0 0, .slice none 0 0), (.slice none 0 0, pkv, prv), (.slice none 0 0, .slice none 0 0, .slice (some ⟨k7, 0, none⟩) 2 2)]) (g := v18.heap.size) rfl)
      have HB : Hid (Bks pb v19 _) := Lib.hid (by rw [← hgv]; exact HBN.out)
      obtain ⟨k9, hg⟩ : ∃ x, x = v18.heap.size := ⟨_, rfl⟩
      rw [← hg] at HB ⊢
      clear hg hgv HBN
      refine hK (fun w' => Kp0 pb w') _ _ (fun _ h => h) HB.out.kp ?_
      clear hK K
      try simp only [List.setIfInBounds_toArray, List.set_cons_zero, List.set_cons_succ]
      iterate 1 (refine px_quiet (v := ?_) rfl (by rfl) (fun wq hwq => ?_) rfl ?_; rotate_left 1; (focus (clear hwq; go_simp; try (with_reducible rfl); done)); try simp only [List.setIfInBounds_toArray, List.set_cons_zero, List.set_cons_succ])
      refine px_wall rfl (by rfl) (fun K hK => ?_)
      refine wp_store_blk 35 (.tmp 5) (.tmp 33) rfl g5 _ df0 (dvl boxD (.slice none 0 0) (.slice none 0 0) (.slice (some ⟨k9, 0, none⟩) 4 4)) rfl rfl (HB.out.at 0 rfl) infoDf rfl (by intro u hu; simp only [dvl, List.mem_cons, List.not_mem_nil, or_false] at hu; rcases hu with rfl | rfl | rfl | rfl | rfl | rfl | rfl <;> rfl) ?_
      intro ve hA hk
      have HB := Lib.hid (HB.out.store 0 rfl hA hk)
      clear hA hk
      refine hK (fun _ => True) _ _ trivial (px_done ?_)
      clear hK K
      try simp only [Act.put]
      go_wp2
      go_meet
      case rel =>
        exact ⟨g5, .slice (some ⟨k9, 0, none⟩) 4 4, rfl, Lib.hid (box_done HB.out.kp HKW.out.size (HB.out.at 0 rfl) (HB.out.at 2 rfl) (HB.out.at 1 rfl) (HB.out.ge 2 _ rfl) (HB.out.ge 1 _ rfl) HX3.out HX4.out), Lib.hid HB.out.kp⟩
  case rest =>
    obtain ⟨g5, bv, rfl, HX5, HKC⟩ := hcut
    have HX4 := Lib.hid (HX4.out.kp0 HKC.out)
    have HKW := Lib.hid (HKW.out.tr HKC.out)
    clear HX2 HX3 HKC
    have Tq0 : Hid True := Lib.hid trivial
    go_upto_region 9 with (first
      | (go_at_call 20; refine (leaf_any _ _ _).mono ?_; clear Tq0; rintro e q1 ⟨rfl, hk⟩; have HTq := Lib.hid ((txs_made (B := w.heap.size) [sX, sY] wc HKW.out.size 2 rfl (by decide)).kp0 hk); have HKq : Hid (Kp0 wc q1) := Lib.hid (((Kp.refl _ _).alloc _).tr hk); have Tq1 : Hid True := Lib.hid trivial; clear hk)
      | (go_at_call 20; refine (leaf_any _ _ _).mono ?_; clear Tq1; rintro e q2 ⟨rfl, hk⟩; have HTq := Lib.hid (HTq.out.kp0 hk); have HKq := Lib.hid (HKq.out.tr hk); have Tq2 : Hid True := Lib.hid trivial; clear hk)
      | (go_at_call 20; refine (leaf_any _ _ _).mono ?_; clear Tq2; rintro e q3 ⟨rfl, hk⟩; have HTq := Lib.hid (HTq.out.kp0 hk); have HKq := Lib.hid (HKq.out.tr hk); have Tq3 : Hid True := Lib.hid trivial; clear hk)
      | (refine wl_alloc_as asDf rfl rfl ?_
         intro qa g6 hw hg
         have HRR := Lib.hid (RowD.made (B := w.heap.size) [lfD sY 0, lfD sX 1, lfD sV 0] [(.slice none 0 0, .slice none 0 0, .slice none 0 0), (.slice none 0 0, .slice none 0 0, .slice none 0 0), (.slice none 0 0, .slice none 0 0, .slice none 0 0)] q3 (Nat.le_trans HKW.out.size HKq.out.size) 3 rfl (by decide) (DfsV.cons' (dfr_leaf _ _ rfl rfl rfl) (DfsV.cons' (dfr_leaf _ _ rfl rfl rfl) (DfsV.cons' (dfr_leaf _ _ rfl rfl rfl) (DfsV.nil' _ _)))))
         have HTT := Lib.hid (HTq.out.kp0 ((Kp.refl _ _).alloc (.cells (dcs [lfD sY 0, lfD sX 1, lfD sV 0] [(.slice none 0 0, .slice none 0 0, .slice none 0 0), (.slice none 0 0, .slice none 0 0, .slice none 0 0), (.slice none 0 0, .slice none 0 0, .slice none 0 0)]).toArray 35)))
         have HBa : Hid (Blk qa g6 35 df0) := Lib.hid (by rw [hw, hg]; exact blk0 _ _ _)
         have HKa : Hid (Kp0 wc qa ∧ wc.heap.size ≤ g6) := Lib.hid (by rw [hw, hg]; exact ⟨(HKq.out.alloc _).alloc _, (HKq.out.alloc _).size⟩)
         obtain ⟨qkv, hkv⟩ : ∃ v : Value, v = .slice (some ⟨wc.heap.size, 0, none⟩) 2 2 := ⟨_, rfl⟩
         obtain ⟨qrv, hrv⟩ : ∃ v : Value, v = .slice (some ⟨q3.heap.size, 0, none⟩) 3 3 := ⟨_, rfl⟩
         rw [← hkv] at HTT ⊢
         rw [← hrv] at HRR ⊢
         have HDD : Hid (∃ X : World, DfR (fun i => w.heap.size ≤ i) X pairD (.slice none 0 0) qkv qrv ∧ Kp0 X qa ∧ X.heap.size ≤ g6) := Lib.hid ⟨_, ⟨RdF.nil _ _ _, HTT.out, HRR.out⟩, by rw [hw]; exact (Kp.refl _ _).alloc _, by rw [hg]; exact Nat.le_refl _⟩
         clear hw hg hkv hrv HTq HRR HTT)
      | (refine wl_store_blk rfl 35 (.tmp 6) (.tmp 42) rfl g6 _ df0 (dvl pairD (.slice none 0 0) qkv qrv) rfl rfl HBa.out infoDf rfl (HDD.out.choose_spec.1.ones) ?_
         intro qb hA hk
         have HBb := Lib.hid hA
         have HKb : Hid (Kp0 wc qb) := Lib.hid (HKa.out.1.trans hk (fun _ _ h => h) (fun i hi e => by have := HKa.out.2; omega))
         have HDb : Hid (DfR (fun i => w.heap.size ≤ i) qb pairD (.slice none 0 0) qkv qrv) := Lib.hid (by obtain ⟨X, h1, h2, h3⟩ := HDD.out; exact h1.kp0 (h2.trans hk (fun _ _ h => h) (fun i hi e => by omega)))
         clear hA hk))
    try simp only [Act.put]
    try simp only [List.setIfInBounds_toArray, List.set_cons_zero, List.set_cons_succ]
    have HX6 : Hid (BoxD w.heap.size qb g6 pairD (.slice none 0 0) qkv qrv) := Lib.hid ⟨HBb.out, HDb.out⟩
    have HX4 := Lib.hid (HX4.out.kp0 HKb.out)
    have HX5 := Lib.hid (HX5.out.kp0 HKb.out)
    have HKW := Lib.hid (HKW.out.tr HKb.out)
    clear HBb HDb HKb HDD HKa HBa HKq
    refine wp_region_px 12 [] (fun w' : World => Kp0 qb w') (.quiet 0 (.quiet 2 (.quiet 3 (.quiet 5 (.quiet 7 (.two 1 (.two 4 (.eff 6 (.eff 8 (.quiet 9 (.eff 10 (.quiet 11 .done))))) 6 (.two 4 (.eff 8 (.quiet 9 (.eff 10 (.quiet 11 .done)))) 8 (.eff 4 (.quiet 9 (.eff 10 (.quiet 11 .done)))))) 4 (.eff 1 (.eff 6 (.eff 8 (.quiet 9 (.eff 10 (.quiet 11 .done)))))))))))) (by kernel_rfl) (by kernel_rfl) (by kernel_rfl) (by kernel_rfl) (fun _ d _ _ _ h => by cases d <;> exact h) (Kp.refl _ _).drew ?_
    have HB : Hid (Bks qb qb.drew []) := Lib.hid ((Bks.nil qb).drew)
    generalize qb.drew = v0 at HB ⊢
    iterate 1 (refine px_quiet (v := ?_) rfl (by rfl) (fun wq hwq => ?_) rfl ?_; rotate_left 1; (focus (clear hwq; go_simp; try (with_reducible rfl); done)); try simp only [List.setIfInBounds_toArray, List.set_cons_zero, List.set_cons_succ])
    refine px_quiet (v := (.agg #[.string (S (PD.nm boxD)), .int .i64 (PD.kd boxD), .int .i64 (PD.ty boxD), (.slice none 0 0), .bool (PD.mu boxD), (.slice none 0 0), bv])) rfl (by rfl) (fun wq hwq => ?_) rfl ?_
    focus exact run_load_blk 35 (.tmp 5) rfl _ _ (dvl boxD (.slice none 0 0) (.slice none 0 0) bv) rfl (HX5.out.blk.kp0 hwq) _ Try.underlying35 rfl infoDf
    try simp only [List.setIfInBounds_toArray, List.set_cons_zero, List.set_cons_succ]
    refine px_quiet (v := (.agg #[.string (S (PD.nm pairD)), .int .i64 (PD.kd pairD), .int .i64 (PD.ty pairD), (.slice none 0 0), .bool (PD.mu pairD), qkv, qrv])) rfl (by rfl) (fun wq hwq => ?_) rfl ?_
    focus exact run_load_blk 35 (.tmp 6) rfl _ _ (dvl pairD (.slice none 0 0) qkv qrv) rfl (HX6.out.blk.kp0 hwq) _ Try.underlying35 rfl infoDf
    try simp only [List.setIfInBounds_toArray, List.set_cons_zero, List.set_cons_succ]
    iterate 1 (refine px_quiet (v := ?_) rfl (by rfl) (fun wq hwq => ?_) rfl ?_; rotate_left 1; (focus (clear hwq; go_simp; try (with_reducible rfl); done)); try simp only [List.setIfInBounds_toArray, List.set_cons_zero, List.set_cons_succ])
    refine px_quiet (v := (.agg #[.string (S (PD.nm portD)), .int .i64 (PD.kd portD), .int .i64 (PD.ty portD), (.slice none 0 0), .bool (PD.mu portD), pkv, prv])) rfl (by rfl) (fun wq hwq => ?_) rfl ?_
    focus exact run_load_blk 35 (.tmp 4) rfl _ _ (dvl portD (.slice none 0 0) pkv prv) rfl (HX4.out.blk.kp0 hwq) _ Try.underlying35 rfl infoDf
    try simp only [List.setIfInBounds_toArray, List.set_cons_zero, List.set_cons_succ]
    refine ⟨px_one rfl (by rfl) (fun K hK => ?_), px_one rfl (by rfl) (fun K hK => ?_)⟩
    · skip
      go_simp
      refine (leaf_any _ _ v0).mono ?_
      rintro e v20 ⟨rfl, hk⟩
      simp only []
      have HB := Lib.hid (HB.out.kp0 hk)
      clear hk
      refine hK (fun w' => Kp0 qb w') _ _ (fun _ h => h) HB.out.kp ?_
      clear hK K
      try simp only [List.setIfInBounds_toArray, List.set_cons_zero, List.set_cons_succ]
      refine ⟨px_one rfl (by rfl) (fun K hK => ?_), px_one rfl (by rfl) (fun K hK => ?_)⟩
      · skip
        go_simp
        generalize hgv : World.alloc v20 _ = v21
        have HBN := Lib.hid (HB.out.push 9 (txs [sName]) (g := v20.heap.size) rfl)
        have HB : Hid (Bks qb v21 _) := Lib.hid (by rw [← hgv]; exact HBN.out)
        obtain ⟨k4, hg⟩ : ∃ x, x = v20.heap.size := ⟨_, rfl⟩
        rw [← hg] at HB ⊢
        clear hg hgv HBN
        refine hK (fun w' => Kp0 qb w') _ _ (fun _ h => h) HB.out.kp ?_
        clear hK K
        try simp only [List.setIfInBounds_toArray, List.set_cons_zero, List.set_cons_succ]
        refine px_eff rfl (by rfl) (fun K hK => ?_)
        go_simp
        refine (leaf_any _ _ v21).mono ?_
        rintro e v22 ⟨rfl, hk⟩
        simp only []
        have HB := Lib.hid (HB.out.kp0 hk)
        clear hk
        refine hK (fun w' => Kp0 qb w') _ _ (fun _ h => h) HB.out.kp ?_
        clear hK K
        try simp only [List.setIfInBounds_toArray, List.set_cons_zero, List.set_cons_succ]
        refine px_eff rfl (by rfl) (fun K hK => ?_)
        go_simp
        generalize hgv : World.alloc v22 _ = v23
        have HBN := Lib.hid (HB.out.push 35 (dcs [lfD sName 0, portD] [(.slice none 0 0, .slice none 0 0, .slice none 0 0), (.slice none 0 0, pkv, prv)]) (g := v22.heap.size) rfl)
        have HB : Hid (Bks qb v23 _) := Lib.hid (by rw [← hgv]; exact HBN.out)
        obtain ⟨k8, hg⟩ : ∃ x, x = v22.heap.size := ⟨_, rfl⟩
        rw [← hg] at HB ⊢
        clear hg hgv HBN
        refine hK (fun w' => Kp0 qb w') _ _ (fun _ h => h) HB.out.kp ?_
        clear hK K
        try simp only [List.setIfInBounds_toArray, List.set_cons_zero, List.set_cons_succ]
        iterate 1 (refine px_quiet (v := ?_) rfl (by rfl) (fun wq hwq => ?_) rfl ?_; rotate_left 1; (focus (clear hwq; go_simp; try (with_reducible rfl); done)); try simp only [List.setIfInBounds_toArray, List.set_cons_zero, List.set_cons_succ])
        refine px_eff rfl (by rfl) (fun K hK => ?_)
        go_simp
        generalize hgv : World.alloc v23 _ = v24
        have HBN := Lib.hid (HB.out.push 35 (dcs [lfD sHost 0, boxD, pairD, areaD] [(.slice none 0 0, .slice none 0 0, .slice none 0 0), (.slice none 0 0, .slice none 0 0, bv), (.slice none 0 0, qkv, qrv), (.slice none 0 0, .slice (some ⟨k4, 0, none⟩) 1 1, .slice (some ⟨k8, 0, none⟩) 2 2)]) (g := v23.heap.size) rfl)
        have HB : Hid (Bks qb v24 _) := Lib.hid (by rw [← hgv]; exact HBN.out)
        obtain ⟨k10, hg⟩ : ∃ x, x = v23.heap.size := ⟨_, rfl⟩
        rw [← hg] at HB ⊢
        clear hg hgv HBN
        refine hK (fun w' => Kp0 qb w') _ _ (fun _ h => h) HB.out.kp ?_
        clear hK K
        try simp only [List.setIfInBounds_toArray, List.set_cons_zero, List.set_cons_succ]
        iterate 1 (refine px_quiet (v := ?_) rfl (by rfl) (fun wq hwq => ?_) rfl ?_; rotate_left 1; (focus (clear hwq; go_simp; try (with_reducible rfl); done)); try simp only [List.setIfInBounds_toArray, List.set_cons_zero, List.set_cons_succ])
        refine px_done ?_
        go_wp2
        go_ret
        exact ⟨_, rfl, sch_done HB.out.kp HKW.out.size (HB.out.at 2 rfl) (HB.out.at 1 rfl) (HB.out.at 0 rfl) (HB.out.ge 2 _ rfl) (HB.out.ge 1 _ rfl) (HB.out.ge 0 _ rfl) HX4.out HX5.out HX6.out, HKW.out.tr HB.out.kp⟩
      · skip
        go_simp
        refine (leaf_any _ _ v20).mono ?_
        rintro e v25 ⟨rfl, hk⟩
        simp only []
        have HB := Lib.hid (HB.out.kp0 hk)
        clear hk
        refine hK (fun w' => Kp0 qb w') _ _ (fun _ h => h) HB.out.kp ?_
        clear hK K
        try simp only [List.setIfInBounds_toArray, List.set_cons_zero, List.set_cons_succ]
        refine ⟨px_one rfl (by rfl) (fun K hK => ?_), px_one rfl (by rfl) (fun K hK => ?_)⟩
        · skip
          go_simp
          generalize hgv : World.alloc v25 _ = v26
          have HBN := Lib.hid (HB.out.push 9 (txs [sName]) (g := v25.heap.size) rfl)
          have HB : Hid (Bks qb v26 _) := Lib.hid (by rw [← hgv]; exact HBN.out)
          obtain ⟨k4, hg⟩ : ∃ x, x = v25.heap.size := ⟨_, rfl⟩
          rw [← hg] at HB ⊢
          clear hg hgv HBN
          refine hK (fun w' => Kp0 qb w') _ _ (fun _ h => h) HB.out.kp ?_
          clear hK K
          try simp only [List.setIfInBounds_toArray, List.set_cons_zero, List.set_cons_succ]
          refine px_eff rfl (by rfl) (fun K hK => ?_)
          go_simp
          generalize hgv : World.alloc v26 _ = v27
          have HBN := Lib.hid (HB.out.push 35 (dcs [lfD sName 0, portD] [(.slice none 0 0, .slice none 0 0, .slice none 0 0), (.slice none 0 0, pkv, prv)]) (g := v26.heap.size) rfl)
          have HB : Hid (Bks qb v27 _) := Lib.hid (by rw [← hgv]; exact HBN.out)
          obtain ⟨k8, hg⟩ : ∃ x, x = v26.heap.size := ⟨_, rfl⟩
          rw [← hg] at HB ⊢
          clear hg hgv HBN
          refine hK (fun w' => Kp0 qb w') _ _ (fun _ h => h) HB.out.kp ?_
          clear hK K
          try simp only [List.setIfInBounds_toArray, List.set_cons_zero, List.set_cons_succ]
          iterate 1 (refine px_quiet (v := ?_) rfl (by rfl) (fun wq hwq => ?_) rfl ?_; rotate_left 1; (focus (clear hwq; go_simp; try (with_reducible rfl); done)); try simp only [List.setIfInBounds_toArray, List.set_cons_zero, List.set_cons_succ])
          refine px_eff rfl (by rfl) (fun K hK => ?_)
          go_simp
          generalize hgv : World.alloc v27 _ = v28
          have HBN := Lib.hid (HB.out.push 35 (dcs [lfD sHost 0, boxD, pairD, areaD] [(.slice none 0 0, .slice none 0 0, .slice none 0 0), (.slice none 0 0, .slice none 0 0, bv), (.slice none 0 0, qkv, qrv), (.slice none 0 0, .slice (some ⟨k4, 0, none⟩) 1 1, .slice (some ⟨k8, 0, none⟩) 2 2)]) (g := v27.heap.size) rfl)
          have HB : Hid (Bks qb v28 _) := Lib.hid (by rw [← hgv]; exact HBN.out)
          obtain ⟨k10, hg⟩ : ∃ x, x = v27.heap.size := ⟨_, rfl⟩
          rw [← hg] at HB ⊢
          clear hg hgv HBN
          refine hK (fun w' => Kp0 qb w') _ _ (fun _ h => h) HB.out.kp ?_
          clear hK K
          try simp only [List.setIfInBounds_toArray, List.set_cons_zero, List.set_cons_succ]
          iterate 1 (refine px_quiet (v := ?_) rfl (by rfl) (fun wq hwq => ?_) rfl ?_; rotate_left 1; (focus (clear hwq; go_simp; try (with_reducible rfl); done)); try simp only [List.setIfInBounds_toArray, List.set_cons_zero, List.set_cons_succ])
          refine px_done ?_
          go_wp2
          go_ret
          exact ⟨_, rfl, sch_done HB.out.kp HKW.out.size (HB.out.at 2 rfl) (HB.out.at 1 rfl) (HB.out.at 0 rfl) (HB.out.ge 2 _ rfl) (HB.out.ge 1 _ rfl) (HB.out.ge 0 _ rfl) HX4.out HX5.out HX6.out, HKW.out.tr HB.out.kp⟩
        · skip
          go_simp
          generalize hgv : World.alloc v25 _ = v29
          have HBN := Lib.hid (HB.out.push 35 (dcs [lfD sName 0, portD] [(.slice none 0 0, .slice none 0 0, .slice none 0 0), (.slice none 0 0, pkv, prv)]) (g := v25.heap.size) rfl)
          have HB : Hid (Bks qb v29 _) := Lib.hid (by rw [← hgv]; exact HBN.out)
          obtain ⟨k8, hg⟩ : ∃ x, x = v25.heap.size := ⟨_, rfl⟩
          rw [← hg] at HB ⊢
          clear hg hgv HBN
          refine hK (fun w' => Kp0 qb w') _ _ (fun _ h => h) HB.out.kp ?_
          clear hK K
          try simp only [List.setIfInBounds_toArray, List.set_cons_zero, List.set_cons_succ]
          refine px_eff rfl (by rfl) (fun K hK => ?_)
          go_simp
          generalize hgv : World.alloc v29 _ = v30
          have HBN := Lib.hid (HB.out.push 9 (txs [sName]) (g := v29.heap.size) rfl)
          have HB : Hid (Bks qb v30 _) := Lib.hid (by rw [← hgv]; exact HBN.out)
          obtain ⟨k4, hg⟩ : ∃ x, x = v29.heap.size := ⟨_, rfl⟩
          rw [← hg] at HB ⊢
          clear hg hgv HBN
          refine hK (fun w' => Kp0 qb w') _ _ (fun _ h => h) HB.out.kp ?_
          clear hK K
          try simp only [List.setIfInBounds_toArray, List.set_cons_zero, List.set_cons_succ]
          iterate 1 (refine px_quiet (v := ?_) rfl (by rfl) (fun wq hwq => ?_) rfl ?_; rotate_left 1; (focus (clear hwq; go_simp; try (with_reducible rfl); done)); try simp only [List.setIfInBounds_toArray, List.set_cons_zero, List.set_cons_succ])
          refine px_eff rfl (by rfl) (fun K hK => ?_)
          go_simp
          generalize hgv : World.alloc v30 _ = v31
          have HBN := Lib.hid (HB.out.push 35 (dcs [lfD sHost 0, boxD, pairD, areaD] [(.slice none 0 0, .slice none 0 0, .slice none 0 0), (.slice none 0 0, .slice none 0 0, bv), (.slice none 0 0, qkv, qrv), (.slice none 0 0, .slice (some ⟨k4, 0, none⟩) 1 1, .slice (some ⟨k8, 0, none⟩) 2 2)]) (g := v30.heap.size) rfl)
          have HB : Hid (Bks qb v31 _) := Lib.hid (by rw [← hgv]; exact HBN.out)
          obtain ⟨k10, hg⟩ : ∃ x, x = v30.heap.size := ⟨_, rfl⟩
          rw [← hg] at HB ⊢
          clear hg hgv HBN
          refine hK (fun w' => Kp0 qb w') _ _ (fun _ h => h) HB.out.kp ?_
          clear hK K
          try simp only [List.setIfInBounds_toArray, List.set_cons_zero, List.set_cons_succ]
          iterate 1 (refine px_quiet (v := ?_) rfl (by rfl) (fun wq hwq => ?_) rfl ?_; rotate_left 1; (focus (clear hwq; go_simp; try (with_reducible rfl); done)); try simp only [List.setIfInBounds_toArray, List.set_cons_zero, List.set_cons_succ])
          refine px_done ?_
          go_wp2
          go_ret
          exact ⟨_, rfl, sch_done HB.out.kp HKW.out.size (HB.out.at 2 rfl) (HB.out.at 0 rfl) (HB.out.at 1 rfl) (HB.out.ge 2 _ rfl) (HB.out.ge 0 _ rfl) (HB.out.ge 1 _ rfl) HX4.out HX5.out HX6.out, HKW.out.tr HB.out.kp⟩
    · skip
      go_simp
      generalize hgv : World.alloc v0 _ = v32
      have HBN := Lib.hid (HB.out.push 9 (txs [sName]) (g := v0.heap.size) rfl)
      have HB : Hid (Bks qb v32 _) := Lib.hid (by rw [← hgv]; exact HBN.out)
      obtain ⟨k4, hg⟩ : ∃ x, x = v0.heap.size := ⟨_, rfl⟩
      rw [← hg] at HB ⊢
      clear hg hgv HBN
      refine hK (fun w' => Kp0 qb w') _ _ (fun _ h => h) HB.out.kp ?_
      clear hK K
      try simp only [List.setIfInBounds_toArray, List.set_cons_zero, List.set_cons_succ]
      refine px_eff rfl (by rfl) (fun K hK => ?_)
      go_simp
      refine (leaf_any _ _ v32).mono ?_
      rintro e v33 ⟨rfl, hk⟩
      simp only []
      have HB := Lib.hid (HB.out.kp0 hk)
      clear hk
      refine hK (fun w' => Kp0 qb w') _ _ (fun _ h => h) HB.out.kp ?_
      clear hK K
      try simp only [List.setIfInBounds_toArray, List.set_cons_zero, List.set_cons_succ]
      refine px_eff rfl (by rfl) (fun K hK => ?_)
      go_simp
      refine (leaf_any _ _ v33).mono ?_
      rintro e v34 ⟨rfl, hk⟩
      simp only []
      have HB := Lib.hid (HB.out.kp0 hk)
      clear hk
      refine hK (fun w' => Kp0 qb w') _ _ (fun _ h => h) HB.out.kp ?_
      clear hK K
      try simp only [List.setIfInBounds_toArray, List.set_cons_zero, List.set_cons_succ]
      refine px_eff rfl (by rfl) (fun K hK => ?_)
      go_simp
      generalize hgv : World.alloc v34 _ = v35
      have HBN := Lib.hid (HB.out.push 35 (dcs [lfD sName 0, portD] [(.slice none 0 0, .slice none 0 0, .slice none 0 0), (.slice none 0 0, pkv, prv)]) (g := v34.heap.size) rfl)
      have HB : Hid (Bks qb v35 _) := Lib.hid (by rw [← hgv]; exact HBN.out)
      obtain ⟨k8, hg⟩ : ∃ x, x = v34.heap.size := ⟨_, rfl⟩
      rw [← hg] at HB ⊢
      clear hg hgv HBN
      refine hK (fun w' => Kp0 qb w') _ _ (fun _ h => h) HB.out.kp ?_
      clear hK K
      try simp only [List.setIfInBounds_toArray, List.set_cons_zero, List.set_cons_succ]
      iterate 1 (refine px_quiet (v := ?_) rfl (by rfl) (fun wq hwq => ?_) rfl ?_; rotate_left 1; (focus (clear hwq; go_simp; try (with_reducible rfl); done)); try simp only [List.setIfInBounds_toArray, List.set_cons_zero, List.set_cons_succ])
      refine px_eff rfl (by rfl) (fun K hK => ?_)
      go_simp
      generalize hgv : World.alloc v35 _ = v36
      have HBN := Lib.hid (HB.out.push 35 (dcs [lfD sHost 0, boxD, pairD, areaD] [(.slice none 0 0, .slice none 0 0, .slice none 0 0), (.slice none 0 0, .slice none 0 0, bv), (.slice none 0 0, qkv, qrv), (.slice none 0 0, .slice (some ⟨k4, 0, none⟩) 1 1, .slice (some ⟨k8, 0, none⟩) 2 2)]) (g := v35.heap.size) rfl)
      have HB : Hid (Bks qb v36 _) := Lib.hid (by rw [← hgv]; exact HBN.out)
      obtain ⟨k10, hg⟩ : ∃ x, x = v35.heap.size := ⟨_, rfl⟩
      rw [← hg] at HB ⊢
      clear hg hgv HBN
      refine hK (fun w' => Kp0 qb w') _ _ (fun _ h => h) HB.out.kp ?_
      clear hK K
      try simp only [List.setIfInBounds_toArray, List.set_cons_zero, List.set_cons_succ]
      iterate 1 (refine px_quiet (v := ?_) rfl (by rfl) (fun wq hwq => ?_) rfl ?_; rotate_left 1; (focus (clear hwq; go_simp; try (with_reducible rfl); done)); try simp only [List.setIfInBounds_toArray, List.set_cons_zero, List.set_cons_succ])
      refine px_done ?_
      go_wp2
      go_ret
      exact ⟨_, rfl, sch_done HB.out.kp HKW.out.size (HB.out.at 2 rfl) (HB.out.at 1 rfl) (HB.out.at 0 rfl) (HB.out.ge 2 _ rfl) (HB.out.ge 1 _ rfl) (HB.out.ge 0 _ rfl) HX4.out HX5.out HX6.out, HKW.out.tr HB.out.kp⟩
end Go.Proofs.Ytmamcnhofgfolaa
