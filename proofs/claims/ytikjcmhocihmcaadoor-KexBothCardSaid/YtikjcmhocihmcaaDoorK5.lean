/- Package digest: what follows a text. Package digest: bytes are laid into the block, and full blocks are used. Package digest: the walk of what lays bytes into the block. -/
import Derived.Test.YtikjcmhocihmcaaDoorK3
import Derived.Test.YtikjcmhocihmcaaDoorK2
import Derived.Test.YtikjcmhocihmcaaDoorK1
import Derived.Test.YtikjcmhocihmcaaDoorK4
namespace Go.Proofs.YtikjcmhocihmcaaDoor
open Go Go.RowKit
theorem endB_len (s c n : Nat) (hs : 0 < s) (hc : 8 ≤ c) : (endB s c n).length = s - (n + c) % s + c := by
  have := Nat.mod_lt (n + c) hs
  simp [endB, be8]
  omega
theorem endB_cells {s c n m k : Nat} (hm : m = s - (n + c) % s + c) (hk : m = k + 8) (hs : 0 < s) (hc : 8 ≤ c) : ((zs m).set 0 128).take k ++ be8 (8 * n) = endB s c n := by
  have h0 := Nat.mod_lt (n + c) hs
  unfold endB zs
  rw [← List.cons_append]
  congr 1
  obtain ⟨j, rfl⟩ : ∃ j, k = j + 1 := ⟨k - 1, by omega⟩
  rw [hk, show j + 1 + 8 = (j + 8) + 1 by omega, List.replicate_succ, List.set_cons_zero, List.take_succ_cons, List.take_replicate, show s - (n + c) % s - 1 + (c - 8) = min j (j + 8) by omega]
set_option maxRecDepth 20000 in
set_option maxHeartbeats 4000000 in
theorem ending_any (n s c : Nat) (w : World) (hn : n ≤ 1000000000000000) (hs : s = 64 ∧ c = 8 ∨ s = 128 ∧ c = 16) :
    Calls Tryd.prog 99 #[.int .i64 (n : Int), .int .i64 (s : Int)] w fun e w' => ∃ g, e = .returned (.slice (some ⟨g, 0, none⟩) (endB s c n).length (endB s c n).length) ∧ Blk w' g 5 (bys (endB s c n)) ∧ w.heap.size ≤ g ∧ Kp0 w w' := by
  have hs0 : 0 < s := by omega
  have hc0 : 8 ≤ c := by omega
  obtain ⟨m, hm⟩ : ∃ m, m = s - (n + c) % s + c := ⟨_, rfl⟩
  obtain ⟨k, hk⟩ : ∃ k, m = k + 8 := ⟨m - 8, by have := Nat.mod_lt (n + c) hs0; omega⟩
  have HE : Hid (((zs m).set 0 128).take k ++ be8 (8 * n) = endB s c n) := Lib.hid (endB_cells hm hk hs0 hc0)
  have HEL : Hid ((endB s c n).length = m) := Lib.hid (by rw [endB_len s c n hs0 hc0, ← hm])
  have hmod := Nat.mod_lt (n + c) hs0
  have hm9 : 9 ≤ m := by omega
  have hm0 : m ≤ 1000 := by omega
  have hsc : s = 8 * c := by omega
  have hss : s ≤ 128 := by omega
  have hq : (s : Int) / 8 = (c : Int) := by omega
  obtain ⟨r, hr⟩ : ∃ r, r = (n + c) % s := ⟨_, rfl⟩
  have hmr : ((n : Int) + (c : Int)) % (s : Int) = (r : Int) := by rw [hr, Int.natCast_emod, Int.natCast_add]
  rw [← hr] at hm hmod
  have hsr : (s : Int) - (r : Int) + (c : Int) = (m : Int) := by omega
  have hb8 : (n : Int) * 8 = ((8 * n : Nat) : Int) := by omega
  have HB8 := Lib.hid hb8
  have HBD : Hid (8 * n < 18446744073709551616) := Lib.hid (by omega)
  have hmk := mkB m (by omega)
  rw [HEL.out]
  have hs1 : 1 ≤ (s : Int) := by omega
  have hm1 : 9 ≤ (m : Int) := by omega
  have hr1 : (r : Int) < s := by omega
  have hs2 : (s : Int) ≤ 128 := by omega
  have hc2 : (c : Int) ≤ 16 := by omega
  have hn2 : (n : Int) ≤ 1000000000000000 := by omega
  have HS := Lib.hid hs
  have HM := Lib.hid hm
  have hmk8 : (m : Int) - 8 = (k : Int) := by omega
  have hkm : (k : Int) ≤ (m : Int) := by omega
  have HK8 := Lib.hid hk
  have HM9 := Lib.hid hm9
  have HM0 := Lib.hid hm0
  obtain ⟨N8, hN8⟩ : ∃ x, x = 8 * n := ⟨_, rfl⟩
  rw [← hN8] at hb8 HB8 HBD HE
  have HEX := Lib.hid hN8
  obtain ⟨EB, hEB⟩ : ∃ x, x = endB s c n := ⟨_, rfl⟩
  rw [← hEB] at HE HEL ⊢
  clear hs hs0 hc0 hm hk hmod hm9 hm0 hsc hss hr hN8 hEB
  go_enter Tryd.func99, Tryd.ntmps99
  go_upto_region 4 with (fail)
  have HB1 : Hid (Bks w (w.alloc (.cells (bys (zs m)).toArray 5)) [(w.heap.size, 5, bys (zs m))]) := Lib.hid ((Bks.nil w).push 5 (bys (zs m)) rfl)
  generalize w.alloc (.cells (bys (zs m)).toArray 5) = w1 at HB1 ⊢
  have hc0 := (HB1.out.at 0 rfl).cellV 0 (bys_getV (l := zs m) (n := 0) (y := 0) (by unfold zs; rw [List.getElem?_replicate, if_pos (by have := HM9.out; omega)]))
  have hf0 := blk_frozen (HB1.out.at 0 rfl) 0
  go_upto_region 5 with (fail)
  have HB2 : Hid (Bks w (w1.setCell ⟨w.heap.size, 0, none⟩ (.int .u8 128)) [(w.heap.size, 5, bys ((zs m).set 0 128))]) := Lib.hid (by
    have := HB1.out.set 0 rfl 0 (.int .u8 ((128 : UInt8).toNat : Int))
    rw [bys_setV] at this
    exact this)
  generalize w1.setCell ⟨w.heap.size, 0, none⟩ (.int .u8 128) = w2 at HB2 ⊢
  clear hc0 hf0 HB1 hmk hmr hsr
  go_upto_region 6 with (first
    | (go_at_call 69
       refine (be_any N8 _ HBD.out).mono ?_
       rintro e w3 ⟨rfl, hk⟩
       have HB3 := Lib.hid (HB2.out.kp0 hk)
       clear hk)
    | (refine wl_alloc_as asB8 rfl rfl ?_
       intro w4 g8 hw hg
       have HB4 : Hid (Bks w w4 [(w.heap.size, 5, bys ((zs m).set 0 128)), (g8, 95, bys zb8)]) := Lib.hid (by rw [hw]; exact HB3.out.push 95 (bys zb8) hg)
       clear hw hg)
    | (refine wl_store_blk rfl 95 (.tmp 8) (.tmp 27) rfl g8 _ (bys zb8) (bys (be8 N8)) rfl rfl (HB4.out.at 1 rfl) (infoB8 (be8_len N8)) (len_of (T := 95) (infoB8 (l := zb8) rfl) (infoB8 (be8_len N8))) (bys_onesV _) ?_
       intro w5 hA hK
       have HB5 := Lib.hid (HB4.out.store 1 rfl hA hK)
       clear hA hK))
  clear HB3 HB4 HB2
  simp only [Act.put]
  have hk0 := HK8.out
  have hm0 := HM0.out
  have hwk : IntKind.i64.wrap (k : Int) = (k : Int) := IntWalk.i64_in _ ⟨by omega, by omega⟩
  have hk1 : (0 : Int) ≤ (k : Int) := by omega
  have hk2 : ¬ m = k := by omega
  have hk3 : m - k = 8 := by omega
  clear hk0 hm0 hb8 hq
  refine wp_region_px 7 [6] (fun w' : World => w' = w5.drew) (.quiet 0 (.quiet 1 (.quiet 2 (.quiet 3 (.quiet 4 (.quiet 5 (.wall 6 .done))))))) (by kernel_rfl) (by kernel_rfl) (by kernel_rfl) (by kernel_rfl) (fun _ d _ _ _ h => by cases d <;> exact h) rfl ?_
  iterate 6 (refine px_quiet (v := ?_) rfl (by rfl) (fun wq hwq => ?_) rfl ?_; rotate_left 1; (focus (subst hwq; go_simp; try (with_reducible rfl); done)); try simp only [List.setIfInBounds_toArray, List.set_cons_zero, List.set_cons_succ])
  refine px_wall rfl (by rfl) (fun K hK => ?_)
  have hk0 := HK8.out
  have hm0 := HM0.out
  refine wp_copy_blk (.tmp 32) (.tmp 33) 24 24 rfl (T := 5) (g := w.heap.size) (o := k) (n := 8) (cap := 8) (m := 8) (c := 8) (ad := ⟨g8, 0, none⟩) (cs := bys ((zs m).set 0 128)) (ds := bys (be8 N8)) Tryd.underlying24 sizeU8 (by rw [← hk3]; rfl) rfl (HB5.out.at 0 rfl) (by rw [bys_len, be8_len]; rfl) ?_ ?_ (bys_onesV _) ?_
  · intro j v hv
    rw [Addr.add_lit, Nat.zero_add]
    exact (HB5.out.at 1 rfl).cellV j hv
  · rw [bys_len, bys_len, be8_len]
    simp [zs]
    omega
  intro w6 hA hK6
  refine hK (fun _ => True) _ _ trivial (px_done ?_)
  have HB6 := Lib.hid (HB5.out.drew.store 0 rfl hA hK6)
  clear hA hK6 hK hk0 hm0
  go_wp2
  go_ret
  refine ⟨_, rfl, ?_, Nat.le_refl _, HB6.out.kp⟩
  have h6 := HB6.out.at 0 rfl
  rw [← HE.out, bys_app]
  have hk0 := HK8.out
  have e1 : ((zs m).set 0 128).length = m := by simp [zs]
  have e2 : (bys ((zs m).set 0 128)).drop (k + (bys (be8 N8)).length) = [] := by
    rw [List.drop_eq_nil_of_le]
    rw [bys_len, bys_len, be8_len, e1]
    omega
  rw [e2, List.append_nil] at h6
  rw [show bys (((zs m).set 0 128).take k) = (bys ((zs m).set 0 128)).take k by simp [bys, List.map_take]]
  exact h6
end Go.Proofs.YtikjcmhocihmcaaDoor
namespace Go.Proofs.YtikjcmhocihmcaaDoor
open Go Go.RowKit
/-- The variables of eachBlock, from block B on, behind the text t. -/
structure EbI (B gs : Nat) (w : World) (t : List UInt8) : Prop where
  h3 : Blk w B 3 [.int .i64 64]
  h5 : Blk w (B + 1) 119 [.func (.func 90) #[] #[.pointer (some ⟨gs, 0, none⟩)]]
  hB : ∃ cs, Blk w (B + 2) 5 (bys cs) ∧ cs.length = 64 ∧ cs.take (t.length % 64) = reB 64 t
  h6 : Blk w (B + 3) 24 [.slice (some ⟨B + 2, 0, none⟩) 64 64]
  h7 : Blk w (B + 4) 3 [.int .i64 (t.length : Int)]
  st : AtS gs w (whB 64 t)
  lt : gs < B
  lc : 1 < B
theorem EbI.kp0 {B gs : Nat} {w w' : World} {t : List UInt8} (h : EbI B gs w t) (hk : Kp0 w w') : EbI B gs w' t :=
  ⟨h.h3.kp0 hk, h.h5.kp0 hk, h.hB.imp fun _ ⟨a, b, c⟩ => ⟨a.kp0 hk, b, c⟩, h.h6.kp0 hk, h.h7.kp0 hk, h.st.keep hk (fun h => h) (fun h => h), h.lt, h.lc⟩
/-- The blocks that may change. -/
def EbS (B gs : Nat) (k : Nat) : Prop := k = gs ∨ k = B + 2 ∨ k = B + 4
/-- Behind a copy into the block, and the count. -/
theorem EbI.more {B gs : Nat} {w w1 w2 : World} {t u cs : List UInt8} (h : EbI B gs w t) (hb : Blk w1 (B + 2) 5 (bys cs)) (hcl : cs.length = 64) (hcs : cs.take (t.length % 64 + u.length) = reB 64 t ++ u)
    (hk1 : Kp (fun k => k = B + 2) w w1) (hn : Blk w2 (B + 4) 3 [.int .i64 ((t ++ u).length : Int)]) (hk2 : Kp (fun k => k = B + 4) w1 w2) (hlt : t.length % 64 + u.length < 64) : EbI B gs w2 (t ++ u) := by
  have hl := h.lt
  have hc := h.lc
  obtain ⟨e1, e2⟩ := wh_more (s := 64) (by decide) hlt
  refine ⟨(h.h3.keep hk1 (by omega)).keep hk2 (by omega), (h.h5.keep hk1 (by omega)).keep hk2 (by omega), ⟨cs, hb.keep hk2 (by omega), hcl, ?_⟩, (h.h6.keep hk1 (by omega)).keep hk2 (by omega), hn, ?_, hl, hc⟩
  · rw [List.length_append, mod_more hlt, e2, hcs]
  · rw [e1]
    exact (h.st.keep hk1 (by omega) (by omega)).keep hk2 (by omega) (by omega)
/-- Behind that, and the use of the full block. -/
theorem EbI.full {B gs : Nat} {w w1 w2 w3 : World} {t u cs : List UInt8} (h : EbI B gs w t) (hb : Blk w1 (B + 2) 5 (bys cs)) (hcl : cs.length = 64)
    (hk1 : Kp (fun k => k = B + 2) w w1) (hn : Blk w2 (B + 4) 3 [.int .i64 ((t ++ u).length : Int)]) (hk2 : Kp (fun k => k = B + 4) w1 w2) (heq : t.length % 64 + u.length = 64)
    (hu : AtS gs w3 (whB 64 t ++ (reB 64 t ++ u))) (hk3 : Kp (fun k => k = gs) w2 w3) : EbI B gs w3 (t ++ u) := by
  have hl := h.lt
  have hc := h.lc
  obtain ⟨e1, e2⟩ := wh_full (s := 64) (by decide) heq
  refine ⟨((h.h3.keep hk1 (by omega)).keep hk2 (by omega)).keep hk3 (by omega), ((h.h5.keep hk1 (by omega)).keep hk2 (by omega)).keep hk3 (by omega), ⟨cs, (hb.keep hk2 (by omega)).keep hk3 (by omega), hcl, ?_⟩, ((h.h6.keep hk1 (by omega)).keep hk2 (by omega)).keep hk3 (by omega), hn.keep hk3 (by omega), ?_, hl, hc⟩
  · rw [List.length_append, mod_full heq, e2]
    rfl
  · rw [e1]
    exact hu
/-- What is cut off in front, where the rest may be nothing. -/
theorem cut_any {w : World} {bb oo cap m : Nat} {l : List UInt8} (h : Rd w (.slice (some ⟨bb, oo, none⟩) m cap) (bys l)) (c : Nat) (hc : c ≤ m) :
    Rd w (.slice (if cap = c then some ⟨bb, oo, none⟩ else some ⟨bb, oo + c, none⟩) (m - c) (cap - c)) (bys (l.drop c)) := by
  obtain ⟨ao', cap', e, g1, g2, g3, g4⟩ := id h
  simp only [Value.slice.injEq] at e
  have h1 := h.cut c m cap hc (Nat.le_refl _) (by rw [e.2.1, e.2.2]; exact g1) (Nat.le_refl _)
  have e1 : ((bys l).drop c).take (m - c) = bys (l.drop c) := by
    rw [List.take_of_length_le (by rw [List.length_drop, e.2.1]; exact Nat.le_refl _)]
    simp [bys]
  rw [e1] at h1
  unfold sliced at h1
  simpa [Addr.add_lit] using h1
theorem AtS.drewS {gs : Nat} {w : World} {t : List UInt8} (h : AtS gs w t) : AtS gs w.drew t := h
theorem Kp.drewL {S : Nat → Prop} {w w' : World} (h : Kp S w.drew w') : Kp S w w' := ⟨h.os, h.tape, h.output, h.size, h.block⟩
/-- A slice of a whole block. -/
theorem rd_blk {w : World} {g : Nat} {T : TypeId} {l : List UInt8} {n : Nat} (h : Blk w g T (bys l)) (hl : l.length = n) (hn : n ≤ 9223372036854775807 := by decide) : Rd w (.slice (some ⟨g, 0, none⟩) n n) (bys l) := by
  subst hl
  refine ⟨some ⟨g, 0, none⟩, l.length, by rw [bys_len], by rw [bys_len]; exact Nat.le_refl _, by unfold maxLen; omega, by simp, fun ad e i u hu => ?_⟩
  cases e
  rw [Addr.add_lit, Nat.zero_add]
  exact h.cellV i hu
end Go.Proofs.YtikjcmhocihmcaaDoor
namespace Go.Proofs.YtikjcmhocihmcaaDoor
open Go Go.RowKit
/-- Where v's bytes lie nothing changes. -/
def FarI (B gs : Nat) (v : Value) (l : List UInt8) : Prop := 0 < l.length → ∀ b, v.ownBlock = some b → b ≠ gs ∧ (b < B ∨ B + 5 ≤ b)
theorem Rd.nowhere {v : Value} {w : World} (hv : Rd w v (bys [])) (w' : World) : Rd w' v (bys []) := by
  obtain ⟨ao, cap, h1, h2, h3, h4, _⟩ := hv
  exact ⟨ao, cap, h1, h2, h3, h4, fun _ _ i u hu => by simp [bys] at hu⟩
theorem FarI.keep {B gs : Nat} {v : Value} {w w' : World} {l : List UInt8} (h : FarI B gs v l) (hv : Rd w v (bys l)) (hk : Kp (EbS B gs) w w') : Rd w' v (bys l) := by
  by_cases hl : 0 < l.length
  · exact hv.keep hk (fun b hb _ hs => by
      have := h hl b hb
      rcases hs with rfl | rfl | rfl <;> omega)
  · obtain rfl : l = [] := List.eq_nil_of_length_eq_zero (by omega)
    exact hv.nowhere w'
attribute [local irreducible] AtS whB reB
set_option maxRecDepth 20000 in
set_option maxHeartbeats 8000000 in
theorem add_any (B gs : Nat) (v : Value) (t l : List UInt8) (w : World) (h : EbI B gs w t) (hv : Rd w v (bys l)) (hf : FarI B gs v l) (hl : t.length + l.length ≤ 1000000000000000) :
    Calls Tryd.prog 98 #[v, .pointer (some ⟨B + 3, 0, none⟩), .pointer (some ⟨B + 4, 0, none⟩), .pointer (some ⟨B, 0, none⟩), .pointer (some ⟨B + 1, 0, none⟩)] w
      fun e w' => e = .returned (.tuple #[]) ∧ EbI B gs w' (t ++ l) ∧ Kp (EbS B gs) w w' := by
  have H := Lib.hid h
  have HV := Lib.hid hv
  have HF := Lib.hid hf
  have HL := Lib.hid hl
  clear h hv hf hl
  go_enter Tryd.func98, Tryd.ntmps98
  go_wp2
  go_loopg [0, 6] l.length (fun gg vb _ wr => ∃ (k : Nat), k ≤ l.length ∧ gg = l.length - k ∧ Rd wr vb (bys (l.drop k)) ∧ FarI B gs vb (l.drop k) ∧ EbI B gs wr (t ++ l.take k) ∧ Kp (EbS B gs) w wr)
  case atStart => exact ⟨0, Nat.zero_le _, rfl, HV.out, HF.out, by rw [List.take_zero, List.append_nil]; exact H.out, Kp.refl _ _⟩
  case round =>
    obtain ⟨k, hk, rfl, hr1, hr2, hr3, hr4⟩ := hrel
    have HR := Lib.hid hr1
    have HFr := Lib.hid hr2
    have HE := Lib.hid hr3
    have HK := Lib.hid hr4
    clear hr2 hr3 hr4
    by_cases hlt : k < l.length
    · obtain ⟨bb, oo, cap, rfl, hc1, hc2, _⟩ := hr1.posB (by rw [List.length_drop]; omega)
      rw [List.length_drop] at hc1 hr1 ⊢
      obtain ⟨T, hT⟩ : ∃ T, T = t ++ l.take k := ⟨_, rfl⟩
      rw [← hT] at HE
      have hTl : T.length = t.length + k := by rw [hT, List.length_append, List.length_take]; omega
      obtain ⟨n, hn⟩ : ∃ n, n = T.length := ⟨_, rfl⟩
      obtain ⟨r, hr⟩ : ∃ r, r = T.length % 64 := ⟨_, rfl⟩
      have hr64 : r < 64 := by omega
      obtain ⟨m, hm⟩ : ∃ m, m = l.length - k := ⟨_, rfl⟩
      obtain ⟨c, hc⟩ : ∃ c, c = min m (64 - r) := ⟨_, rfl⟩
      obtain ⟨u, hu⟩ : ∃ u, u = (l.drop k).take c := ⟨_, rfl⟩
      have hul : u.length = c := by rw [hu, List.length_take, List.length_drop]; omega
      have hTu : T ++ u = t ++ l.take (k + c) := by rw [hT, hu, List.append_assoc, List.take_add]
      obtain ⟨cs, hcs1, hcs2, hcs3⟩ := HE.out.hB
      have HCS := Lib.hid hcs1
      have HCL := Lib.hid hcs2
      have HCT := Lib.hid hcs3
      have hq3 := HE.out.h3.cellV 0 rfl
      have hq6 := HE.out.h6.cellV 0 rfl
      have hq7 := HE.out.h7.cellV 0 rfl
      rw [← hn] at hq7
      rw [← hm] at hc1 hr1 ⊢
      have HR1 := Lib.hid hr1
      have hmp : 0 < (m : Int) := by omega
      have hmod : (n : Int).tmod 64 = (r : Int) := by rw [Int.tmod_eq_emod_of_nonneg (by omega)]; omega
      have hwr : IntKind.i64.wrap (r : Int) = (r : Int) := IntWalk.i64_in _ ⟨by omega, by omega⟩
      have hr0 : (0 : Int) ≤ (r : Int) := by omega
      have hr2 : (r : Int) ≤ 64 := by omega
      have hr3 : ¬ 64 = r := by omega
      have HN := Lib.hid hn
      have HRR := Lib.hid hr
      have HM := Lib.hid hm
      have HC := Lib.hid hc
      have HU := Lib.hid hul
      have HTU := Lib.hid hTu
      have HTL := Lib.hid hTl
      have HUE := Lib.hid hu
      have HKL := Lib.hid hlt
      have HR64 := Lib.hid hr64
      have HC1 := Lib.hid hc1
      clear hr1 hT hTl hn hr hm hc hu hul hTu hcs1 hcs2 hcs3 hlt hk hr64 hc1 hc2
      go_upto_region 1 with (fail)
      have hp3 : ∀ wq, wq = wr.drew → wq.cell? ⟨B, 0, none⟩ = some (.int .i64 64) := fun wq e => by subst e; exact hq3
      have hp6 : ∀ wq, wq = wr.drew → wq.cell? ⟨B + 3, 0, none⟩ = some (.slice (some ⟨B + 2, 0, none⟩) 64 64) := fun wq e => by subst e; exact hq6
      have hp7 : ∀ wq, wq = wr.drew → wq.cell? ⟨B + 4, 0, none⟩ = some (.int .i64 (n : Int)) := fun wq e => by subst e; exact hq7
      refine wp_region_px 8 [6] (fun w' : World => w' = wr.drew) (.quiet 0 (.quiet 1 (.quiet 2 (.quiet 3 (.quiet 4 (.quiet 5 (.wall 6 (.quiet 7 .done)))))))) (by kernel_rfl) (by kernel_rfl) (by kernel_rfl) (by kernel_rfl) (fun _ d _ _ _ h => by cases d <;> exact h) rfl ?_
      iterate 6 (refine px_quiet (v := ?_) rfl (by rfl) (fun wq hwq => ?_) rfl ?_; rotate_left 1; (focus (subst hwq; go_simp; try (with_reducible rfl); done)); try simp only [List.setIfInBounds_toArray, List.set_cons_zero, List.set_cons_succ])
      refine px_wall rfl (by rfl) (fun K hK => ?_)
      clear hp3 hp6 hp7 hmod hwr hr0 hr2 hr3 hmp hq3 hq6 hq7
      refine wp_copy_blk (.tmp 14) (.tmp 15) 24 24 rfl (T := 5) (g := B + 2) (o := r) (n := 64 - r) (cap := 64 - r) (m := m) (c := cap) (ad := ⟨bb, oo, none⟩) (cs := bys cs) (ds := bys u) Tryd.underlying24 sizeU8 rfl rfl HCS.out.drew' (by rw [bys_len, HU.out, HC.out]) ?_ ?_ (bys_onesV _) ?_
      · intro j x hx
        rw [Addr.add_lit]
        refine HR1.out.range j x ?_
        rw [HUE.out] at hx
        have : bys ((l.drop k).take c) = (bys (l.drop k)).take c := by simp [bys, List.map_take]
        rw [this, List.getElem?_take] at hx
        split at hx
        · exact hx
        · cases hx
      · rw [bys_len, bys_len, HU.out, HCL.out, HC.out]
        have := HR64.out
        omega
      intro w1 hA hK1
      refine hK (fun w' => w' = w1) _ _ rfl ?_
      clear hK
      rw [bys_len, HU.out]
      simp only [Act.put, List.getElem_toArray, List.getElem_cons_succ, List.getElem_cons_zero, List.setIfInBounds_toArray, List.set_cons_zero, List.set_cons_succ]
      refine px_quiet (v := .int .i64 (c : Int)) rfl (by rfl) (fun wq hwq => ?_) rfl (px_done ?_)
      · go_simp
      have HA := Lib.hid hA
      have HK1 := Lib.hid hK1
      clear hA hK1
      go_upto_region 2 with (fail)
      simp only [List.setIfInBounds_toArray, List.set_cons_zero, List.set_cons_succ]
      have hlb := HE.out.lt
      have h7 := HE.out.h7.drew'.keep HK1.out (fun e => by omega)
      rw [← HN.out] at h7
      have H7 := Lib.hid h7
      have hq7 := h7.cellV 0 rfl
      have hf7 := blk_frozen h7 0
      obtain ⟨n2, hn2⟩ : ∃ x, x = n + c := ⟨_, rfl⟩
      have hcm := HC.out
      have hc1 := HC1.out
      have hnb : n2 ≤ 1000000000000000 := by have := HL.out; have := HTL.out; have := HN.out; have := HM.out; omega
      have hws : IntKind.i64.wrap ((n : Int) + (c : Int)) = (n2 : Int) := by rw [IntWalk.i64_in _ ⟨by omega, by omega⟩]; omega
      have hwc : IntKind.i64.wrap (c : Int) = (c : Int) := IntWalk.i64_in _ ⟨by omega, by omega⟩
      have hc0 : (0 : Int) ≤ (c : Int) := by omega
      have hcm2 : (c : Int) ≤ (m : Int) := by omega
      have HN2 := Lib.hid hn2
      have HNB := Lib.hid hnb
      have HCM := Lib.hid hcm2
      clear hn2 hnb hcm hc1 hlb h7
      have hp7 : ∀ wq, wq = w1.drew → wq.cell? ⟨B + 4, 0, none⟩ = some (.int .i64 (n : Int)) := fun wq e => by subst e; exact hq7
      refine wp_region_px 8 [7] (fun w' : World => w' = w1.drew) (.quiet 0 (.quiet 1 (.quiet 2 (.quiet 3 (.quiet 4 (.quiet 5 (.quiet 6 (.wall 7 .done)))))))) (by kernel_rfl) (by kernel_rfl) (by kernel_rfl) (by kernel_rfl) (fun _ d _ _ _ h => by cases d <;> exact h) rfl ?_
      iterate 7 (refine px_quiet (v := ?_) rfl (by rfl) (fun wq hwq => ?_) rfl ?_; rotate_left 1; (focus (subst hwq; go_simp; try (with_reducible rfl); done)); try simp only [List.setIfInBounds_toArray, List.set_cons_zero, List.set_cons_succ])
      refine px_wall rfl (by rfl) (fun K hK => ?_)
      go_simp
      refine hK (fun _ => True) _ _ trivial (px_done ?_)
      clear hK K hp7
      have h7 := H7.out.set' 0 (.int .i64 (n2 : Int))
      have hk2 : Kp (fun k => k = B + 4) w1 (w1.drew.setCell ⟨B + 4, 0, none⟩ (.int .i64 (n2 : Int))) := (Kp.refl (fun k => k = B + 4) w1).drew.setCell (p := ⟨B + 4, 0, none⟩) (fun _ => rfl) _
      obtain ⟨w2, hw2⟩ : ∃ x, x = w1.drew.setCell ⟨B + 4, 0, none⟩ (.int .i64 (n2 : Int)) := ⟨_, rfl⟩
      have hw2' : (w1.setCell ⟨B + 4, 0, none⟩ (.int .i64 (n2 : Int))).drew = w2 := by rw [hw2]; rfl
      have h7' : Blk w2 (B + 4) 3 [.int .i64 (n2 : Int)] := by rw [hw2]; exact h7.drew'
      rw [← hw2] at hk2
      rw [hw2']
      have HK2 := Lib.hid hk2
      have H7' := Lib.hid h7'
      clear hw2 hw2' h7 hq7 hf7 hws hk2
      have hlb := HE.out.lt
      have hq7 := h7'.cellV 0 rfl
      have hq3 := ((HE.out.h3.drew'.keep HK1.out (by omega)).keep HK2.out (by omega)).cellV 0 rfl
      have HQ6 := Lib.hid (((HE.out.h6.drew'.keep HK1.out (by omega)).keep HK2.out (by omega)).cellV 0 rfl)
      have HQ5 := Lib.hid (((HE.out.h5.drew'.keep HK1.out (by omega)).keep HK2.out (by omega)).cellV 0 rfl)
      have HCU := cut_any HR1.out c (by have := HC.out; omega)
      have HFN : FarI B gs (.slice (if cap = c then some ⟨bb, oo, none⟩ else some ⟨bb, oo + c, none⟩) (m - c) (cap - c)) (l.drop (k + c)) := by
        intro _ b hb
        refine HFr.out (by have := HKL.out; rw [List.length_drop]; omega) b ?_
        rw [← hb]
        split <;> rfl
      rw [List.drop_drop] at HCU
      generalize (if cap = c then (some ⟨bb, oo, none⟩ : Option Addr) else some ⟨bb, oo + c, none⟩) = ad2 at HCU HFN ⊢
      have HK12 : Hid (Kp (EbS B gs) wr w2) := Lib.hid (HK1.out.drewL.trans HK2.out (fun _ _ e => .inr (.inl e)) (fun _ _ e => .inr (.inr e)))
      have HR2 := Lib.hid (HFN.keep (w := wr) (HCU) HK12.out)
      have HF2 := Lib.hid HFN
      clear HCU HFN
      have hnn := HN2.out
      have hnT := HN.out
      have hrT := HRR.out
      have hcm := HC.out
      have hrl := HR64.out
      obtain ⟨z, hz⟩ : ∃ z, z = n2 % 64 := ⟨_, rfl⟩
      have hzi : (n2 : Int) % 64 = (z : Int) := by omega
      by_cases hfull : r + c = 64
      · have hz0 : (z : Int) = 0 := by omega
        have hq5 := HQ5.out
        have hq6 := HQ6.out
        have HFU := Lib.hid hfull
        clear hz hnn hnT hrT hcm hrl hfull h7'
        have hb1 : Blk w1 (B + 2) 5 (bys (cs.take r ++ u)) := by
          have h := HA.out
          rw [List.drop_eq_nil_of_le (by rw [bys_len, bys_len, HCL.out, HU.out, HFU.out]; exact Nat.le_refl _), List.append_nil] at h
          rw [bys_app]
          rw [show bys (cs.take r) = (bys cs).take r by simp [bys, List.map_take]]
          exact h
        have hcl2 : (cs.take r ++ u).length = 64 := by rw [List.length_append, List.length_take, HCL.out, HU.out]; have := HFU.out; omega
        have HB1 := Lib.hid hb1
        have HCL2 := Lib.hid hcl2
        have hre : cs.take r = reB 64 T := by rw [← HCT.out, HRR.out]
        rw [hre] at HB1 HCL2
        have HBL2 := Lib.hid (HB1.out.keep HK2.out (by omega))
        have HUS := Lib.hid (use_any gs (.slice (some ⟨B + 2, 0, none⟩) 64 64) (whB 64 T) (reB 64 T ++ u) w2 ((HE.out.st.drewS.keep HK1.out (fun e => by have := HE.out.lt; omega) (fun e => by have := HE.out.lc; omega)).keep HK2.out (fun e => by have := HE.out.lt; omega) (fun e => by have := HE.out.lc; omega)) (by rw [wh_len]; omega) (rd_blk HBL2.out HCL2.out) HCL2.out)
        clear hb1 hcl2 hre hlb
        go_wp2_with (go_at_call 90; refine HUS.out.mono ?_; rintro e w3 ⟨rfl, hu1, hu2⟩; have HU1 := Lib.hid hu1; have HU2 := Lib.hid hu2; clear hu1 hu2)
        have hkk := HKL.out
        have hcc := HC.out
        have hmm := HM.out
        have hrr := HR64.out
        go_roundg (l.length - (k + c))
        case measure => omega
        case rel =>
          have hK3 : Kp (EbS B gs) w2 w3 := HU2.out.mono (fun _ _ e => .inl e)
          refine ⟨k + c, by omega, rfl, HF2.out.keep HR2.out hK3, HF2.out, ?_, (HK.out.tr HK12.out).tr hK3⟩
          rw [← HTU.out]
          refine HE.out.full (u := u) HB1.out HCL2.out HK1.out.drewL ?_ HK2.out ?_ HU1.out HU2.out
          · rw [List.length_append, HU.out, ← HN.out, ← HN2.out]
            exact H7'.out
          · rw [← HRR.out, HU.out]
            exact HFU.out
      · have hz0 : 0 < (z : Int) := by omega
        have HNF : Hid (¬ r + c = 64) := Lib.hid hfull
        clear hz hnn hnT hrT hcm hrl hfull hlb h7' HQ5 HQ6
        go_wp2
        have hkk := HKL.out
        have hcc := HC.out
        have hmm := HM.out
        have hrr := HR64.out
        go_roundg (l.length - (k + c))
        case measure => omega
        case rel =>
          refine ⟨k + c, by omega, rfl, by rw [show m - c = m - c from rfl]; exact HR2.out, HF2.out, ?_, HK.out.tr HK12.out⟩
          rw [← HTU.out]
          have hb := HA.out
          refine HE.out.more (u := u) (cs := cs.take r ++ u ++ cs.drop (r + c)) ?_ ?_ ?_ (HK1.out.drewL) ?_ HK2.out ?_
          · rw [bys_app, bys_app, show bys (cs.take r) = (bys cs).take r by simp [bys, List.map_take], show bys (cs.drop (r + c)) = (bys cs).drop (r + c) by simp [bys, List.map_drop]]
            rw [bys_len, HU.out] at hb
            exact hb
          · simp only [List.length_append, List.length_take, List.length_drop, HCL.out, HU.out]
            have := HR64.out
            omega
          · rw [← HRR.out, HU.out, List.take_append_of_le_length (by simp only [List.length_append, List.length_take, HCL.out, HU.out]; have := HR64.out; omega), List.take_of_length_le (by simp only [List.length_append, List.length_take, HCL.out, HU.out]; have := HR64.out; omega), ← HCT.out, HRR.out]
          · rw [List.length_append, HU.out, ← HN.out, ← HN2.out]
            exact H7'.out
          · rw [← HRR.out, HU.out]
            have := HNF.out
            have := HR64.out
            omega
    · obtain ⟨ao, cap, rfl, hc1, hc2, hc3⟩ := hr1.shapeB
      have hz : (l.drop k).length = 0 := by rw [List.length_drop]; omega
      rw [hz]
      clear hc1 hc2 hc3 hr1
      have HLT := Lib.hid hlt
      have HKK := Lib.hid hk
      clear hlt hk hz
      go_wp2
      go_end0
      have h1 := HLT.out
      have h2 := HKK.out
      obtain rfl : k = l.length := by omega
      refine ⟨rfl, ?_, HK.out⟩
      have := HE.out
      rwa [List.take_length] at this
end Go.Proofs.YtikjcmhocihmcaaDoor
