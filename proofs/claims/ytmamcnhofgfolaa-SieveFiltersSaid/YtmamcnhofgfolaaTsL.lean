/- The laws of layer 16: fit. -/
import Derived.Test.YtmamcnhofgfolaaTsK
namespace Go.Proofs.Ytmamcnhofgfolaa
open Go Go.RowKit
def fx (nm tx : List UInt8) : PE := .mk [] nm [] tx []
def pairE (ks : List PE) : PE := .mk [] [112, 97, 105, 114] [] [] ks
def fE1 : List PE := [fx [120] [49], fx [121] [97], fx [118] [119]]
def fE2 : List PE := [fx [120] [50], fx [121] [97]]
def fE3 : List PE := [fx [120] [49], fx [118] []]
def fitE : List PE := [pairE fE1, pairE fE2]
def fitF : List PE := [pairE fE3]
def fN1 : PN := .mk [112, 97, 105, 114] [] [.mk [121] [97] [], .mk [120] [49] [], .mk [118] [119] []]
def fN2 : PN := .mk [112, 97, 105, 114] [] [.mk [121] [97] [], .mk [120] [50] []]
theorem fit_tree : treeT fitE = some [fN1, fN2] := by kernel_rfl
theorem fit_filter : filterT schD [fN1, fN2] fitF = [fN1] := by kernel_rfl
theorem fit_ts : tsOk fitE := by simp [fitE, pairE, fE1, fE2, fx, tsOk, tOk, tOk1, PE.tx, PE.sp, PE.nm, PE.atts]
theorem fit_cnt : cntEs fitF ≤ 1000000 := by simp [fitF, pairE, fE3, fx, cntEs, cntE]
theorem fit_ks : ksOk [fN1, fN2] = true := rfl
theorem ElsV.cons' {F : Nat → Prop} {w : World} {e : PE} {a c : Value} {es : List PE} {cs : List Value} (h : ElR F w e a c) (hs : ElsV F w es cs) : ElsV F w (e :: es) (evl e a c ++ cs) := ElsV.app [e] es _ _ h.els hs
theorem ElsV.nil' (F : Nat → Prop) (w : World) : ElsV F w [] [] := by unfold ElsV; rfl
theorem fx_row (F : Nat → Prop) (w : World) (nm tx : List UInt8) : ElR F w (fx nm tx) (.slice none 0 0) (.slice none 0 0) := ⟨RdF.nil _ _ _, RowE.nil _ _⟩
theorem RowE.madeE {F : Nat → Prop} {es : List PE} {cs : List Value} {w : World} (h : ElsV F w es cs) (n g : Nat) (hn : n = es.length) (hm : n ≤ 9223372036854775807) (hg : g = w.heap.size) :
    RowE (fun i => F i ∨ i = g) (w.alloc (.cells cs.toArray 38)) (.slice (some ⟨g, 0, none⟩) n n) es := by
  subst hn hg
  refine ⟨cs, ⟨_, _, rfl, ElsV.len _ _ h, Nat.le_refl _, hm, (fun e => by cases e), fun ad e j u hu => ?_⟩, ElsV.keep ((Kp.refl (fun _ => False) w).alloc _) (fun _ _ h => h) (fun _ h => .inl h) _ _ h⟩
  cases e
  refine ⟨.inr rfl, ?_⟩
  rw [Addr.add_lit, Nat.zero_add]
  exact (blk0 w 38 cs).cellV j hu
theorem pair_row {F : Nat → Prop} {w : World} {es : List PE} {v : Value} (h : RowE F w v es) : ElR F w (pairE es) (.slice none 0 0) v := ⟨RdF.nil _ _ _, h⟩
abbrev c1 : List Value := evl (fx [120] [49]) (.slice none 0 0) (.slice none 0 0) ++ (evl (fx [121] [97]) (.slice none 0 0) (.slice none 0 0) ++ (evl (fx [118] [119]) (.slice none 0 0) (.slice none 0 0) ++ []))
abbrev c2 : List Value := evl (fx [120] [50]) (.slice none 0 0) (.slice none 0 0) ++ (evl (fx [121] [97]) (.slice none 0 0) (.slice none 0 0) ++ [])
abbrev c3 : List Value := evl (fx [120] [49]) (.slice none 0 0) (.slice none 0 0) ++ (evl (fx [118] []) (.slice none 0 0) (.slice none 0 0) ++ [])
abbrev c4 (g h : Nat) : List Value := evl (pairE fE1) (.slice none 0 0) (.slice (some ⟨g, 0, none⟩) 3 3) ++ (evl (pairE fE2) (.slice none 0 0) (.slice (some ⟨h, 0, none⟩) 2 2) ++ [])
abbrev c5 (g : Nat) : List Value := evl (pairE fE3) (.slice none 0 0) (.slice (some ⟨g, 0, none⟩) 2 2) ++ []
theorem fitE_row (w : World) : RowE (fun i => w.heap.size ≤ i) (((w.alloc (.cells c1.toArray 38)).alloc (.cells c2.toArray 38)).alloc (.cells (c4 w.heap.size (w.heap.size + 1)).toArray 38)) (.slice (some ⟨w.heap.size + 1 + 1, 0, none⟩) 2 2) fitE := by
  have h1 : RowE (fun i => w.heap.size ≤ i) (w.alloc (.cells c1.toArray 38)) (.slice (some ⟨w.heap.size, 0, none⟩) 3 3) fE1 :=
    (RowE.madeE (F := fun _ => False) (ElsV.cons' (fx_row _ w _ _) (ElsV.cons' (fx_row _ w _ _) (ElsV.cons' (fx_row _ w _ _) (ElsV.nil' _ _)))) 3 w.heap.size rfl (by decide) rfl).keep (Kp.refl (fun _ => False) _) (fun _ _ h => h) (fun i hi => by rcases hi with h | h; exact h.elim; omega)
  have hk2 := (Kp.refl (fun _ => False) (w.alloc (.cells c1.toArray 38))).alloc (.cells c2.toArray 38)
  have h2 : RowE (fun i => w.heap.size ≤ i) ((w.alloc (.cells c1.toArray 38)).alloc (.cells c2.toArray 38)) (.slice (some ⟨w.heap.size + 1, 0, none⟩) 2 2) fE2 :=
    (RowE.madeE (F := fun _ => False) (ElsV.cons' (fx_row _ _ _ _) (ElsV.cons' (fx_row _ _ _ _) (ElsV.nil' _ _))) 2 (w.heap.size + 1) rfl (by decide) (by simp)).keep (Kp.refl (fun _ => False) _) (fun _ _ h => h) (fun i hi => by rcases hi with h | h; exact h.elim; omega)
  exact (RowE.madeE (F := fun i => w.heap.size ≤ i) (ElsV.cons' (pair_row (h1.kp0 hk2)) (ElsV.cons' (pair_row h2) (ElsV.nil' _ _))) 2 (w.heap.size + 1 + 1) rfl (by decide) (by simp)).keep (Kp.refl (fun _ => False) _) (fun _ _ h => h) (fun i hi => by rcases hi with h | h; exact h; omega)
theorem fitF_row (w : World) : RowE (fun i => w.heap.size ≤ i) ((w.alloc (.cells c3.toArray 38)).alloc (.cells (c5 w.heap.size).toArray 38)) (.slice (some ⟨w.heap.size + 1, 0, none⟩) 1 1) fitF := by
  have h1 : RowE (fun i => w.heap.size ≤ i) (w.alloc (.cells c3.toArray 38)) (.slice (some ⟨w.heap.size, 0, none⟩) 2 2) fE3 :=
    (RowE.madeE (F := fun _ => False) (ElsV.cons' (fx_row _ w _ _) (ElsV.cons' (fx_row _ w _ _) (ElsV.nil' _ _))) 2 w.heap.size rfl (by decide) rfl).keep (Kp.refl (fun _ => False) _) (fun _ _ h => h) (fun i hi => by rcases hi with h | h; exact h.elim; omega)
  exact (RowE.madeE (F := fun i => w.heap.size ≤ i) (ElsV.cons' (pair_row h1) (ElsV.nil' _ _)) 1 (w.heap.size + 1) rfl (by decide) (by simp)).keep (Kp.refl (fun _ => False) _) (fun _ _ h => h) (fun i hi => by rcases hi with h | h; exact h; omega)
set_option maxRecDepth 20000 in
set_option maxHeartbeats 2000000 in
theorem fit_any (w : World) : Calls Try.prog 7 #[] w fun r w' => r = .returned (.bool true) ∧ Kp0 w w' := by
  have HER := Lib.hid (fitE_row w)
  have HEK : Hid (Kp0 w (((w.alloc (.cells c1.toArray 38)).alloc (.cells c2.toArray 38)).alloc (.cells (c4 w.heap.size (w.heap.size + 1)).toArray 38))) := Lib.hid (((Kp.refl _ _).alloc _).alloc _ |>.alloc _)
  go_enter Try.func7, Try.ntmps7
  go_upto_region 2 with (go_at_call 8
                         refine (tree_any fitE _ _ HER.out fit_ts).mono ?_
                         rw [fit_tree]
                         rintro r w1 ⟨⟨nv, rfl, hn⟩, hk⟩
                         have HN := Lib.hid hn
                         have HK1 := Lib.hid (HEK.out.tr hk)
                         clear hn hk)
  go_upto_region 3 with (first
    | (go_at_call 10
       refine (schema_any _).mono ?_
       rintro r w2 ⟨sv, rfl, hsv, hk⟩
       have HSV := Lib.hid hsv
       have HK2 := Lib.hid (HK1.out.tr hk)
       have HN := Lib.hid (HN.out.kp0 hk)
       have HFR := Lib.hid (fitF_row w2)
       have HFK : Hid (Kp0 w2 ((w2.alloc (.cells c3.toArray 38)).alloc (.cells (c5 w2.heap.size).toArray 38))) := Lib.hid (((Kp.refl _ _).alloc _).alloc _)
       clear hsv hk)
    | (go_at_call 12
       refine (filter_any schD [fN1, fN2] fitF sv nv _ _ (HSV.out.kp0 HFK.out) (HN.out.kp0 HFK.out) HFR.out (by decide) fit_ks fit_cnt).mono ?_
       rw [fit_filter]
       rintro r w3 ⟨⟨lv, rfl, hl⟩, hk⟩
       have HL := Lib.hid hl
       have HK3 := Lib.hid ((HK2.out.tr HFK.out).tr hk)
       clear hl hk))
  obtain ⟨no, nc, rfl, _, _, _⟩ := HN.out.shape
  obtain ⟨b1, o1, cap, kv, rfl, _, _, _, _, D2, hkv, _⟩ := HL.out.at 0 (by decide)
  obtain ⟨ko, kc, rfl, _, _, _⟩ := hkv.shape
  have D2 : w3.cell? ⟨b1, o1 + 2, none⟩ = some (.slice ko 3 kc) := by
    have h : w3.cell? ⟨b1, o1 + 2, none⟩ = some (.slice ko fN1.ks.length kc) := by simpa using D2
    exact h
  have f1 : (((([fN1, fN2] : List PN).length : Nat) : Int) == 2) = true := rfl
  have f2 : (((([fN1] : List PN).length : Nat) : Int) == 1) = true := rfl
  have f3 : (0 : Int) < ((([fN1] : List PN).length : Nat) : Int) := by decide
  go_wp2
  go_ret
  exact ⟨rfl, HK3.out⟩
end Go.Proofs.Ytmamcnhofgfolaa
