/- Package packet: a direction, as plain functions and in memory; what it is asked. Package packet: bytes turned, a code, keys taken. -/
import Derived.Test.YtnbfedmecmdjlaaDoorGg
import Derived.Test.YtnbfedmecmdjlaaDoorGl
import Derived.Test.YtnbfedmecmdjlaaDoorGm
namespace Go.Proofs.YtnbfedmecmdjlaaDoor
open Go Go.RowKit
theorem be4_l4 (n : Nat) : (be4 n).length = 4 := rfl
/-- A direction: the keys' schedule, their first counter, the place in their stream; the code's key; counts. -/
structure Dn where
  key : Option (List (BitVec 32) × List UInt8 × Nat)
  mac : List UInt8
  cnt : Nat
  num : Nat
def unitD (d : Dn) : Nat := if d.key.isNone then 8 else 16
def tailD (d : Dn) : Nat := if d.key.isNone then 0 else 32
/-- Bytes turned. -/
def turnB (d : Dn) (l : List UInt8) : List UInt8 := match d.key with
  | none => l
  | some (ks, c, p) => xorB ks c p l
/-- The direction behind n more bytes. -/
def gone (d : Dn) (n : Nat) : Dn := match d.key with
  | none => d
  | some (ks, c, p) => { d with key := some (ks, c, p + n) }
def codeB (d : Dn) (l : List UInt8) : List UInt8 := if d.key.isNone then [] else macB d.mac (be4 d.num ++ l)
def stepD (d : Dn) : Dn := { d with cnt := d.cnt + 1, num := (d.num + 1) % 4294967296 }
theorem turnB_len (d : Dn) (l : List UInt8) : (turnB d l).length = l.length := by
  unfold turnB
  split
  · rfl
  · exact xorB_len _ _ _ _
theorem codeB_len (d : Dn) (l : List UInt8) : (codeB d l).length = tailD d := by
  unfold codeB tailD
  split
  · rfl
  · exact macB_len _ _
def spV : Option Nat → Value
  | none => .pointer none
  | some g => .pointer (some ⟨g, 0, none⟩)
def dirC (sg : Option Nat) (d : Dn) : List Value := spV sg :: (bys d.mac ++ [.int .i64 (d.cnt : Int), .int .u32 (d.num : Int)])
/-- Whose keys lie where. -/
def KeyM (w : World) (B b : Nat) (key : Option (List (BitVec 32) × List UInt8 × Nat)) (sg : Option Nat) : Prop := match key, sg with
  | none, none => True
  | some (ks, c, p), some g => AtC w g ks c p ∧ g ≠ b ∧ B ≤ g
  | _, _ => False
/-- Block b begins with the direction d. -/
structure DirM (B : Nat) (w : World) (b : Nat) (T : TypeId) (rest : List Value) (d : Dn) (sg : Option Nat) : Prop where
  blk : Blk w b T (dirC sg d ++ rest)
  mac : d.mac.length = 32
  key : KeyM w B b d.key sg
  ge : B ≤ b
  num : d.num < 4294967296
/-- The tables, below block B. -/
structure TabM (B : Nat) (w : World) : Prop where
  sqd : Sqd w
  cub : Cub w
  sqr : Sqr w
  l1 : 0 < B
  l2 : 1 < B
  l3 : 2 < B
theorem TabM.keep {B : Nat} {w w' : World} {S : Nat → Prop} (h : TabM B w) (hk : Kp S w w') (hs : ∀ k, S k → B ≤ k) : TabM B w' :=
  ⟨h.sqd.keep hk (fun s => by have := hs _ s; have := h.l1; omega), h.cub.keep hk (fun s => by have := hs _ s; have := h.l2; omega), h.sqr.keep hk (fun s => by have := hs _ s; have := h.l3; omega), h.l1, h.l2, h.l3⟩
theorem TabM.kp0 {B : Nat} {w w' : World} (h : TabM B w) (hk : Kp0 w w') : TabM B w' := h.keep hk (fun _ h => h.elim)
theorem KeyM.keep {w w' : World} {B b : Nat} {key : Option (List (BitVec 32) × List UInt8 × Nat)} {sg : Option Nat} {S : Nat → Prop} (h : KeyM w B b key sg) (hk : Kp S w w') (hs : ∀ g, sg = some g → ¬ S g) : KeyM w' B b key sg := by
  unfold KeyM at h ⊢
  split at h
  · trivial
  · exact ⟨h.1.kp0' hk (hs _ rfl), h.2⟩
  · exact h.elim
section
variable {B : Nat} {w w' : World} {b : Nat} {T : TypeId} {rest : List Value} {d : Dn} {sg : Option Nat} {S : Nat → Prop}
theorem DirM.keep (h : DirM B w b T rest d sg) (hk : Kp S w w') (hb : ¬ S b) (hs : ∀ g, sg = some g → ¬ S g) : DirM B w' b T rest d sg :=
  ⟨h.blk.keep hk hb, h.mac, h.key.keep hk hs, h.ge, h.num⟩
theorem DirM.kp0 (h : DirM B w b T rest d sg) (hk : Kp0 w w') : DirM B w' b T rest d sg := h.keep hk (fun h => h) (fun _ _ h => h)
theorem DirM.c0 (h : DirM B w b T rest d sg) : w.cell? ⟨b, 0, none⟩ = some (spV sg) := h.blk.cellV 0 rfl
theorem dirC_len (h : d.mac.length = 32) : (dirC sg d).length = 35 := by simp [dirC, bys_len, h]
theorem DirM.cnt (h : DirM B w b T rest d sg) : w.cell? ⟨b, 33, none⟩ = some (.int .i64 (d.cnt : Int)) := h.blk.cellV 33 (by
  rw [List.getElem?_append_left (by rw [dirC_len h.mac]; omega), dirC, List.getElem?_cons_succ, List.getElem?_append_right (by rw [bys_len, h.mac]; omega), bys_len, h.mac]
  rfl)
theorem DirM.num' (h : DirM B w b T rest d sg) : w.cell? ⟨b, 34, none⟩ = some (.int .u32 (d.num : Int)) := h.blk.cellV 34 (by
  rw [List.getElem?_append_left (by rw [dirC_len h.mac]; omega), dirC, List.getElem?_cons_succ, List.getElem?_append_right (by rw [bys_len, h.mac]; omega), bys_len, h.mac]
  rfl)
theorem DirM.more (h : DirM B w b T rest d sg) (i : Nat) {v : Value} (hv : rest[i]? = some v) : w.cell? ⟨b, 35 + i, none⟩ = some v := h.blk.cellV (35 + i) (by
  rw [List.getElem?_append_right (by rw [dirC_len h.mac]; omega), dirC_len h.mac, Nat.add_sub_cancel_left]
  exact hv)
/-- The code's key, as a slice of the block. -/
theorem DirM.macRd (h : DirM B w b T rest d sg) : Rd w (.slice (some ⟨b, 1, none⟩) 32 32) (bys d.mac) := by
  refine ⟨some ⟨b, 1, none⟩, 32, by rw [bys_len, h.mac], by rw [bys_len, h.mac]; exact Nat.le_refl _, by decide, by simp, fun ad e i u hu => ?_⟩
  cases e
  rw [Addr.add_lit]
  have hi : i < 32 := by have := (List.getElem?_eq_some_iff.1 hu).1; rw [bys_len, h.mac] at this; exact this
  refine h.blk.cellV (1 + i) ?_
  rw [List.getElem?_append_left (by rw [dirC_len h.mac]; omega), Nat.add_comm 1 i, dirC, List.getElem?_cons_succ, List.getElem?_append_left (by rw [bys_len, h.mac]; exact hi)]
  exact hu
theorem KeyM.none_iff {key : Option (List (BitVec 32) × List UInt8 × Nat)} (h : KeyM w B b key sg) : (key = none ∧ sg = none) ∨ ∃ ks c p g, key = some (ks, c, p) ∧ sg = some g ∧ AtC w g ks c p ∧ g ≠ b ∧ B ≤ g := by
  unfold KeyM at h
  split at h
  · exact .inl ⟨rfl, rfl⟩
  · exact .inr ⟨_, _, _, _, rfl, rfl, h⟩
  · exact h.elim
end
set_option maxRecDepth 20000 in
theorem unit_any (B b : Nat) (T : TypeId) (rest : List Value) (d : Dn) (sg : Option Nat) (w : World) (h : DirM B w b T rest d sg) :
    Calls Tryd.prog 37 #[.pointer (some ⟨b, 0, none⟩)] w fun e w' => e = .returned (.int .i64 (unitD d : Int)) ∧ w = w' := by
  have hc := h.c0
  rcases h.key.none_iff with ⟨h1, rfl⟩ | ⟨ks, c, p, g, h1, rfl, _⟩
  · have hu : unitD d = 8 := by unfold unitD; rw [h1]; rfl
    rw [hu]
    clear h1 hu h
    unfold spV at hc
    go_enter Tryd.func37, Tryd.ntmps37
    go_wp2
    go_ret
    exact ⟨rfl, rfl⟩
  · have hu : unitD d = 16 := by unfold unitD; rw [h1]; rfl
    rw [hu]
    clear h1 hu h
    unfold spV at hc
    go_enter Tryd.func37, Tryd.ntmps37
    go_wp2
    go_ret
    exact ⟨rfl, rfl⟩
set_option maxRecDepth 20000 in
theorem tail_any (B b : Nat) (T : TypeId) (rest : List Value) (d : Dn) (sg : Option Nat) (w : World) (h : DirM B w b T rest d sg) :
    Calls Tryd.prog 35 #[.pointer (some ⟨b, 0, none⟩)] w fun e w' => e = .returned (.int .i64 (tailD d : Int)) ∧ w = w' := by
  have hc := h.c0
  rcases h.key.none_iff with ⟨h1, rfl⟩ | ⟨ks, c, p, g, h1, rfl, _⟩
  · have hu : tailD d = 0 := by unfold tailD; rw [h1]; rfl
    rw [hu]
    clear h1 hu h
    unfold spV at hc
    go_enter Tryd.func35, Tryd.ntmps35
    go_wp2
    go_ret
    exact ⟨rfl, rfl⟩
  · have hu : tailD d = 32 := by unfold tailD; rw [h1]; rfl
    rw [hu]
    clear h1 hu h
    unfold spV at hc
    go_enter Tryd.func35, Tryd.ntmps35
    go_wp2
    go_ret
    exact ⟨rfl, rfl⟩
theorem dirC_step {sg : Option Nat} {d : Dn} {rest : List Value} (hm : d.mac.length = 32) : ((dirC sg d ++ rest).set 33 (.int .i64 ((d.cnt + 1 : Nat) : Int))).set 34 (.int .u32 (((d.num + 1) % 4294967296 : Nat) : Int)) = dirC sg (stepD d) ++ rest := by
  have h1 : (bys d.mac).length = 32 := by rw [bys_len, hm]
  unfold dirC
  rw [List.cons_append, List.set_cons_succ, List.set_cons_succ, List.append_assoc, List.set_append_right _ _ (by omega), List.set_append_right _ _ (by omega), h1]
  unfold stepD
  simp
set_option maxRecDepth 20000 in
theorem step_any (B b : Nat) (T : TypeId) (rest : List Value) (d : Dn) (sg : Option Nat) (w : World) (h : DirM B w b T rest d sg) (hn : d.cnt ≤ 1000000000000) :
    Calls Tryd.prog 24 #[.pointer (some ⟨b, 0, none⟩)] w fun e w' => e = .returned (.tuple #[]) ∧ DirM B w' b T rest (stepD d) sg ∧ Kp (fun k => k = b) w w' := by
  have hc := h.cnt
  have hm := h.num'
  have hf := blk_frozen h.blk 33
  have hf2 := blk_frozen h.blk 34
  have H := Lib.hid h
  obtain ⟨m, hm2⟩ : ∃ m, m = (d.num + 1) % 4294967296 := ⟨_, rfl⟩
  have hmi : ((d.num : Int) + 1) % 4294967296 = (m : Int) := by omega
  have HM := Lib.hid hm2
  have hnn := h.num
  clear h hm2
  go_enter Tryd.func24, Tryd.ntmps24
  go_wp2
  go_end0
  have hk : Kp (fun k => k = b) w ((w.setCell ⟨b, 33, none⟩ (.int .i64 ((d.cnt + 1 : Nat) : Int))).setCell ⟨b, 34, none⟩ (.int .u32 (m : Int))) := ((Kp.refl (fun k => k = b) w).setCell (p := ⟨b, 33, none⟩) (fun _ => rfl) _).setCell (p := ⟨b, 34, none⟩) (fun _ => rfl) _
  have hb := (H.out.blk.set' 33 (.int .i64 ((d.cnt + 1 : Nat) : Int))).set' 34 (.int .u32 (m : Int))
  rw [HM.out, dirC_step H.out.mac] at hb
  rw [HM.out] at hk
  rw [HM.out]
  refine ⟨rfl, ⟨hb, H.out.mac, ?_, H.out.ge, by unfold stepD; exact Nat.mod_lt _ (by decide)⟩, hk⟩
  refine H.out.key.keep (S := fun k => k = b) hk (fun g hg e => ?_)
  subst e
  rcases H.out.key.none_iff with ⟨_, h2⟩ | ⟨_, _, _, g', _, h2, _, h3, _⟩
  · rw [h2] at hg; cases hg
  · rw [h2] at hg
    exact h3 (Option.some.inj hg)
end Go.Proofs.YtnbfedmecmdjlaaDoor
namespace Go.Proofs.YtnbfedmecmdjlaaDoor
open Go Go.RowKit
theorem own_blk {B : Nat} {w : World} {g : Nat} {l : List UInt8} (h : Blk w g 5 (bys l)) (hB : B ≤ g) (hl : l.length ≤ 9223372036854775807) : Own B 5 w (.slice (some ⟨g, 0, none⟩) l.length l.length) (bys l) := by
  refine ⟨by simp, .inr ⟨g, l.length, (bys l).toArray, by rw [bys_len], hB, h, by rw [bys_len]; exact Nat.le_refl _, by unfold maxLen; omega, by simp [bys_len], ?_⟩⟩
  rw [List.take_of_length_le (by simp)]
set_option maxRecDepth 20000 in
set_option maxHeartbeats 4000000 in
theorem clone_any (v : Value) (l : List UInt8) (w : World) (hv : Rd w v (bys l)) (hl : l.length ≤ 140737488351232) :
    Calls Tryd.prog 40 #[v] w fun e w' => ∃ v', e = .returned v' ∧ Own w.heap.size 5 w' v' (bys l) ∧ Kp0 w w' := by
  have HV := Lib.hid hv
  have HL := Lib.hid hl
  obtain ⟨ao, cap, rfl, hc1, hc2, hc3⟩ := hv.shapeB
  cases ao with
  | none =>
    have h0 := hc3 rfl
    obtain rfl : l = [] := List.eq_nil_of_length_eq_zero (by omega)
    obtain rfl := h0
    have hnil : ∀ u : World, (binOp .eql 32 (.slice none 0 0) (.slice none 0 0)).run Tryd.prog u = .ok (.bool true) u := fun u => Lib.run_eql_slice_nil u 32 5 none 0 0 0 0 Tryd.underlying32
    clear hv hl hc1 hc2 hc3
    go_enter Tryd.func40, Tryd.ntmps40
    go_wp2
    go_ret
    exact ⟨_, rfl, Own.nil _ _ _, Kp.refl _ _⟩
  | some ad =>
    have hnil : ∀ u : World, (binOp .eql 32 (.slice (some ad) l.length cap) (.slice none 0 0)).run Tryd.prog u = .ok (.bool false) u := fun u => Lib.run_eql_slice_nil u 32 5 (some ad) l.length cap 0 0 Tryd.underlying32
    clear hv hl hc1 hc2 hc3
    go_enter Tryd.func40, Tryd.ntmps40
    go_wp2_with (at_builtin
                 refine wl_append_own rfl (.tmp 5) (.tmp 6) 32 rfl (B := w.heap.size) (e := 5) (bytes := 1) (z := .int .u8 0) (xs := []) (ys := bys l) Tryd.underlying32 infoU8' rfl rfl rfl (Own.lit w #[] 5 0 rfl (by decide)) (HV.out.alloc _) (bys_one l) (by have := HL.out; unfold maxLen; rw [bys_len]; simp; omega) (by have := HL.out; rw [bys_len]; simp; omega) (by simp) ?_
                 intro v7 w7 ho hg
                 have HO7 := Lib.hid ho
                 have HK7 : Hid (Kp0 w w7) := Lib.hid (((Kp.refl (fun _ => False) w).alloc _).grown hg (fun k hk hlt => by obtain rfl : w.heap.size = k := Option.some.inj hk; exact absurd hlt (Nat.lt_irrefl _)))
                 clear ho hg)
    go_ret
    exact ⟨_, rfl, HO7.out, HK7.out⟩
theorem gone_key (d : Dn) (n : Nat) : (gone d n).mac = d.mac ∧ (gone d n).cnt = d.cnt ∧ (gone d n).num = d.num := by
  unfold gone
  split <;> exact ⟨rfl, rfl, rfl⟩
theorem dirC_gone (sg : Option Nat) (d : Dn) (n : Nat) : dirC sg (gone d n) = dirC sg d := by
  obtain ⟨h1, h2, h3⟩ := gone_key d n
  unfold dirC
  rw [h1, h2, h3]
set_option maxRecDepth 20000 in
set_option maxHeartbeats 4000000 in
theorem turned_any (B b : Nat) (T : TypeId) (rest : List Value) (d : Dn) (sg : Option Nat) (v : Value) (l : List UInt8) (w : World) (h : DirM B w b T rest d sg) (ht : TabM B w) (hv : Rd w v (bys l)) (hf : 0 < l.length → ∀ k, v.ownBlock = some k → sg ≠ some k) (hl : l.length ≤ 140737488351232) :
    Calls Tryd.prog 22 #[.pointer (some ⟨b, 0, none⟩), v] w fun e w' => ∃ v', e = .returned v' ∧ Own w.heap.size 5 w' v' (bys (turnB d l)) ∧ DirM B w' b T rest (gone d l.length) sg ∧ Kp (fun k => sg = some k) w w' := by
  have hc := h.c0
  have H := Lib.hid h
  have HT := Lib.hid ht
  have HV := Lib.hid hv
  have HF := Lib.hid hf
  have HL := Lib.hid hl
  rcases h.key.none_iff with ⟨h1, rfl⟩ | ⟨ks, c, p, g, h1, rfl, h2, h3, h4⟩
  · have hu : turnB d l = l := by unfold turnB; rw [h1]
    have hg : gone d l.length = d := by unfold gone; rw [h1]
    rw [hu, hg]
    clear h1 hu hg h ht hv hf hl
    unfold spV at hc
    go_enter Tryd.func22, Tryd.ntmps22
    go_wp2_with (go_at_call 40; refine (clone_any v l _ HV.out HL.out).mono ?_; rintro e w2 ⟨v2, rfl, h1, h2⟩; have H1 := Lib.hid h1; have H2 := Lib.hid h2; clear h1 h2)
    go_ret
    exact ⟨_, rfl, H1.out, H.out.kp0 H2.out, H2.out.nil _⟩
  · have hu : turnB d l = xorB ks c p l := by unfold turnB; rw [h1]
    have hg : (gone d l.length).key = some (ks, c, p + l.length) := by unfold gone; rw [h1]
    rw [hu]
    have HG := Lib.hid hg
    have HA := Lib.hid h2
    have HN : Hid (g ≠ b ∧ B ≤ g) := Lib.hid ⟨h3, h4⟩
    clear h1 hu hg h ht hv hf hl h2 h3 h4
    unfold spV at hc
    go_enter Tryd.func22, Tryd.ntmps22
    go_wp2_with (go_at_call 41; refine (turn_pos g ks c p v l _ HA.out HV.out (fun h0 k hk e => HF.out h0 k hk (by rw [e])) HT.out.sqr (by have := HN.out; have := HT.out.l3; omega) (by have := HL.out; omega)).mono ?_; rintro e w2 ⟨h2, rfl, k1, k2, k3, k4⟩; have H1 := Lib.hid k1; have H2 := Lib.hid k2; have H3 := Lib.hid k3; have H4 := Lib.hid k4; clear k1 k2 k3 k4)
    go_ret
    refine ⟨_, rfl, ?_, ⟨?_, ?_, ?_, H.out.ge, ?_⟩, H4.out.mono (fun _ _ e => by rw [e])⟩
    · have := own_blk H1.out H2.out (by rw [xorB_len]; have := HL.out; omega)
      rwa [xorB_len] at this
    · rw [dirC_gone]
      exact H.out.blk.keep H4.out (fun e => HN.out.1 e.symm)
    · rw [(gone_key d l.length).1]
      exact H.out.mac
    · rw [HG.out]
      exact ⟨H3.out, HN.out⟩
    · rw [(gone_key d l.length).2.2]
      exact H.out.num
end Go.Proofs.YtnbfedmecmdjlaaDoor
