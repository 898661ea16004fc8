/- Package packet: what is written is read as it was. Package packet: what the laws begin with. What the card's condition tells of the program's tables. -/
import Derived.Test.YtnbfedmecmdjlaaDoorGt
import Derived.Test.YtnbfedmecmdjlaaDoorRows
import Derived.Test.YtnbfedmecmdjlaaDoorGn
import Derived.Lib.LaidTab
import Derived.MakeChecks
namespace Go.Proofs.YtnbfedmecmdjlaaDoor
open Go Go.RowKit
theorem xorB_take (ks : List (BitVec 32)) (c : List UInt8) (p k : Nat) (l : List UInt8) : xorB ks c p (l.take k) = (xorB ks c p l).take k := by
  unfold xorB
  apply List.ext_getElem?
  intro i
  simp only [List.getElem?_mapIdx, List.getElem?_take]
  split <;> rfl
theorem xorB_drop (ks : List (BitVec 32)) (c : List UInt8) (p k : Nat) (l : List UInt8) : (xorB ks c p l).drop k = xorB ks c (p + k) (l.drop k) := by
  unfold xorB
  apply List.ext_getElem?
  intro i
  simp only [List.getElem?_mapIdx, List.getElem?_drop]
  rw [Nat.add_assoc]
theorem xorB_twice (ks : List (BitVec 32)) (c : List UInt8) (p : Nat) (l : List UInt8) : xorB ks c p (xorB ks c p l) = l := by
  unfold xorB
  apply List.ext_getElem?
  intro i
  simp only [List.getElem?_mapIdx]
  cases l[i]? with
  | none => rfl
  | some x =>
    simp only [Option.map_some, Option.some.injEq]
    rw [UInt8.xor_assoc, UInt8.xor_self, UInt8.xor_zero]
theorem turn_take (d : Dn) (k : Nat) (l : List UInt8) : turnB d (l.take k) = (turnB d l).take k := by
  unfold turnB
  split
  · rfl
  · exact xorB_take _ _ _ _ _
theorem turn_drop (d : Dn) (k : Nat) (l : List UInt8) : (turnB d l).drop k = turnB (gone d k) (l.drop k) := by
  unfold turnB gone
  rcases d with ⟨key, mac, cnt, num⟩
  rcases key with _ | ⟨ks, c, p⟩
  · rfl
  · exact xorB_drop _ _ _ _ _
theorem turn_twice (d : Dn) (l : List UInt8) : turnB d (turnB d l) = l := by
  unfold turnB
  split
  · rfl
  · exact xorB_twice _ _ _ _
theorem gone_gone (d : Dn) (a b : Nat) : gone (gone d a) b = gone d (a + b) := by
  rcases d with ⟨key, mac, cnt, num⟩
  rcases key with _ | ⟨ks, c, p⟩
  · rfl
  · simp [gone, Nat.add_assoc]
theorem pad_mod (d : Dn) (n : Nat) : (5 + n + padD d n) % unitD d = 0 := by
  unfold padD padN
  rcases unitD_or d with e | e <;> (rw [e]; omega)
theorem be_be (N : Nat) (h : N < 4294967296) : beNat (be4 N) = N := by
  simp only [be4, beNat, UInt8.toNat_ofNat']
  omega
/-- What is written is read as it was. -/
theorem next_seal (d : Dn) (l s : List UInt8) (h0 : 0 < l.length) (h1 : l.length ≤ 2048) : nextR ⟨d, sealB d l s, 0, false⟩ = (⟨wroteD d l s, [], 0, false⟩, l, 0) := by
  obtain ⟨P, hP⟩ : ∃ P, P = plainB d l s := ⟨_, rfl⟩
  obtain ⟨p, hp⟩ : ∃ p, p = padD d l.length := ⟨_, rfl⟩
  obtain ⟨u, hu⟩ : ∃ u, u = unitD d := ⟨_, rfl⟩
  obtain ⟨t, ht⟩ : ∃ t, t = tailD d := ⟨_, rfl⟩
  have hpl := padD_le d l.length
  have hpm := pad_mod d l.length
  have hu8 := unitD_or d
  rw [← hp] at hpl hpm
  rw [← hu] at hpm hu8
  obtain ⟨S, hS⟩ : ∃ S, S = 5 + l.length + p := ⟨_, rfl⟩
  rw [← hS] at hpm
  have hPl : P.length = S := by rw [hP, plainB_len, hS, hp]
  have hSu : u ≤ S := by rcases hu8 with e | e <;> (rw [e] at hpm ⊢; omega)
  have hW : sealB d l s = turnB d P ++ codeB d P := by rw [hP]; rfl
  have hC : (codeB d P).length = t := by rw [codeB_len, ht]
  have hT : (turnB d P).length = S := by rw [turnB_len, hPl]
  have hP4 : P.take 4 = be4 (S - 4) := by
    rw [hP]
    unfold plainB
    rw [List.append_assoc, List.append_assoc, List.take_append_of_le_length (by rw [be4_l4]; exact Nat.le_refl _), List.take_of_length_le (by rw [be4_l4]; exact Nat.le_refl _), hS, ← hp]
    congr 1
    omega
  have hP5 : P[4]? = some (UInt8.ofNat p) := by
    rw [hP]
    unfold plainB
    rw [← hp, List.append_assoc, List.append_assoc, List.getElem?_append_right (by rw [be4_l4]; exact Nat.le_refl _), be4_l4]
    rfl
  have hPd : (P.take (5 + l.length)).drop 5 = l := by
    rw [hP]
    unfold plainB
    have h5 : (be4 (1 + l.length + padD d l.length) ++ [UInt8.ofNat (padD d l.length)]).length = 5 := by rw [List.length_append, be4_l4]; rfl
    rw [List.take_append_of_le_length (by rw [List.length_append, h5]; exact Nat.le_refl _), List.take_of_length_le (by rw [List.length_append, h5]; exact Nat.le_refl _), List.drop_append_of_le_length (by rw [h5]; exact Nat.le_refl _), List.drop_eq_nil_of_le (by rw [h5]; exact Nat.le_refl _), List.nil_append]
  -- the first unit is turned back
  obtain ⟨r0, hr0⟩ : ∃ r0 : Rn, r0 = ⟨d, sealB d l s, 0, false⟩ := ⟨_, rfl⟩
  have hr0W : r0.W = turnB d P ++ codeB d P := by rw [hr0]; exact hW
  have hr0l : r0.W.length = S + t := by rw [hr0W, List.length_append, hT, hC]
  have ho1 : openR r0 u = ⟨gone d u, P.take u ++ (turnB d P).drop u ++ codeB d P, u, false⟩ := by
    have e1 : (r0.W.take u).drop 0 = (turnB d P).take u := by rw [List.drop_zero, hr0W, List.take_append_of_le_length (by omega)]
    have e2 : r0.W.drop u = (turnB d P).drop u ++ codeB d P := by rw [hr0W, List.drop_append_of_le_length (by omega)]
    have e3 : r0.op = 0 ∧ r0.d = d ∧ r0.dead = false := by rw [hr0]; exact ⟨rfl, rfl, rfl⟩
    unfold openR
    rw [e3.1, e3.2.1, e3.2.2, e1, e2, ← turn_take, turn_twice, List.take_zero, List.nil_append, List.append_assoc, Nat.sub_zero]
  have hN : beNat ((openR r0 u).W.take 4) = S - 4 := by
    rw [ho1]
    show beNat ((P.take u ++ (turnB d P).drop u ++ codeB d P).take 4) = _
    rw [List.append_assoc, List.take_append_of_le_length (by rw [List.length_take]; omega), List.take_take, Nat.min_eq_left (by omega), hP4, be_be _ (by omega)]
  have hA : awaitR r0 = (openR r0 u, S, 0) := by
    have e3 : r0.d = d := by rw [hr0]
    unfold awaitR
    rw [e3, ← hu, ← ht, hN, hr0l, if_neg (by omega), if_neg (by omega), if_neg (by rw [show 4 + (S - 4) = S by omega]; omega), if_neg (by omega), show 4 + (S - 4) = S by omega]
  -- the rest
  have ho2 : openR (openR r0 u) S = ⟨gone d S, P ++ codeB d P, S, false⟩ := by
    rw [ho1]
    have e1 : ((P.take u ++ (turnB d P).drop u ++ codeB d P).take S).drop u = (turnB d P).drop u := by
      rw [List.take_append_of_le_length (by rw [List.length_append, List.length_take, List.length_drop, hT]; omega), List.take_of_length_le (by rw [List.length_append, List.length_take, List.length_drop, hT]; omega), List.drop_append_of_le_length (by rw [List.length_take]; omega), List.drop_eq_nil_of_le (by rw [List.length_take]; omega), List.nil_append]
    have e2 : (P.take u ++ (turnB d P).drop u ++ codeB d P).drop S = codeB d P := by
      rw [List.drop_append_of_le_length (by rw [List.length_append, List.length_take, List.length_drop, hT]; omega), List.drop_eq_nil_of_le (by rw [List.length_append, List.length_take, List.length_drop, hT]; omega), List.nil_append]
    have e3 : (P.take u ++ (turnB d P).drop u ++ codeB d P).take u = P.take u := by
      rw [List.append_assoc, List.take_append_of_le_length (by rw [List.length_take]; omega), List.take_take, Nat.min_self]
    show (⟨gone (gone d u) (S - u), (P.take u ++ (turnB d P).drop u ++ codeB d P).take u ++ turnB (gone d u) (((P.take u ++ (turnB d P).drop u ++ codeB d P).take S).drop u) ++ (P.take u ++ (turnB d P).drop u ++ codeB d P).drop S, S, false⟩ : Rn) = _
    rw [e1, e2, e3, turn_drop, turn_twice, List.take_append_drop, gone_gone, show u + (S - u) = S by omega]
  have hPy : payR (openR r0 u) S = (⟨gone d S, P ++ codeB d P, S, false⟩, l, 0) := by
    have e1 : tailD (openR r0 u).d = t := by rw [ho1, ht]; exact (unitD_gone d u).2
    have e2 : (P ++ codeB d P).take S = P := by rw [List.take_append_of_le_length (by omega), List.take_of_length_le (by omega)]
    have e3 : ((P ++ codeB d P).drop S).take t = codeB d P := by rw [List.drop_append_of_le_length (by omega), List.drop_eq_nil_of_le (by omega), List.nil_append, List.take_of_length_le (by omega)]
    have e4 : ((P ++ codeB d P).getD 4 0).toNat = p := by
      rw [List.getD_eq_getElem?_getD, List.getElem?_append_left (by omega), hP5]
      show (UInt8.ofNat p).toNat = p
      rw [UInt8.toNat_ofNat']
      omega
    have e5 : sameB (codeB (gone d S) P) (codeB d P) = true := by rw [codeB_gone]; exact beq_self_eq_true _
    unfold payR
    rw [e1, ho2]
    show (if sameB (codeB (gone d S) ((P ++ codeB d P).take S)) (((P ++ codeB d P).drop S).take t) = false then _ else if (((P ++ codeB d P).getD 4 0).toNat < 4) ∨ S ≤ ((P ++ codeB d P).getD 4 0).toNat + 5 then _ else ((⟨gone d S, P ++ codeB d P, S, false⟩ : Rn), ((P ++ codeB d P).take (S - ((P ++ codeB d P).getD 4 0).toNat)).drop 5, 0)) = _
    rw [e2, e3, e4, e5, if_neg (by decide), if_neg (by omega), show S - p = 5 + l.length by omega, List.take_append_of_le_length (by omega), hPd]
  rw [← hr0]
  have hd0 : r0.dead = false := by rw [hr0]
  have hdd : r0.d = d := by rw [hr0]
  unfold nextR
  rw [hd0, hA]
  show (if (payR (openR r0 u) S).2.2 ≠ 0 then _ else ({ dropR (payR (openR r0 u) S).1 (S + tailD r0.d) with d := stepD (payR (openR r0 u) S).1.d }, (payR (openR r0 u) S).2.1, 0)) = _
  rw [hPy, if_neg (by simp), hdd, ← ht]
  have e6 : (P ++ codeB d P).drop (S + t) = [] := List.drop_eq_nil_of_le (by rw [List.length_append]; omega)
  show ((⟨stepD (gone d S), (P ++ codeB d P).drop (S + t), 0, false⟩ : Rn), l, 0) = _
  rw [e6]
  unfold wroteD
  rw [← hP, hPl]
end Go.Proofs.YtnbfedmecmdjlaaDoor
namespace Go.Proofs.YtnbfedmecmdjlaaDoor
open Go Go.RowKit
def d0 : Dn := ⟨none, List.replicate 32 0, 0, 0⟩
def r0 : Rn := ⟨d0, [], 0, false⟩
theorem asW : AllocAs 31 (dirC none d0 ++ []) := by
  intro w ev op ho
  unfold execOp
  simp only [ho]
  kernel_rfl
theorem asR : AllocAs 34 (dirC none d0 ++ rdC (.slice none 0 0) r0) := by
  intro w ev op ho
  unfold execOp
  simp only [ho]
  kernel_rfl
theorem dir_new (B : Nat) (w : World) (T : TypeId) (rest : List Value) (hB : B ≤ w.heap.size) : DirM B (w.alloc (.cells (dirC none d0 ++ rest).toArray T)) w.heap.size T rest d0 none :=
  ⟨blk0 w T _, by simp [d0], trivial, hB, by decide⟩
theorem rd_new (B : Nat) (Z : Nat → Prop) (w : World) (hB : B ≤ w.heap.size) (hz : ∀ k, Z k → k < w.heap.size) : RdV B Z (w.alloc (.cells (dirC none d0 ++ rdC (.slice none 0 0) r0).toArray 34)) w.heap.size (.slice none 0 0) r0 none :=
  ⟨dir_new B w _ _ hB, Ow.nil _ _ _, (fun h => by have := hz _ h; omega), (fun _ h => by cases h), (fun _ h => by cases h), (fun _ h => by cases h), fun k h => by have := hz k h; simp; omega⟩
set_option maxRecDepth 20000 in
theorem number_any (B b : Nat) (T : TypeId) (rest : List Value) (d : Dn) (sg : Option Nat) (w : World) (h : DirM B w b T rest d sg) :
    Calls Tryd.prog 13 #[.pointer (some ⟨b, 0, none⟩)] w fun e w' => e = .returned (.int .u32 (d.num : Int)) ∧ w = w' := by
  have hc := h.num'
  clear h
  go_enter Tryd.func13, Tryd.ntmps13
  go_wp2
  go_ret
  exact ⟨rfl, rfl⟩
set_option maxRecDepth 20000 in
theorem count_any (B b : Nat) (T : TypeId) (rest : List Value) (d : Dn) (sg : Option Nat) (w : World) (h : DirM B w b T rest d sg) :
    Calls Tryd.prog 12 #[.pointer (some ⟨b, 0, none⟩)] w fun e w' => e = .returned (.int .i64 (d.cnt : Int)) ∧ w = w' := by
  have hc := h.cnt
  clear h
  go_enter Tryd.func12, Tryd.ntmps12
  go_wp2
  go_ret
  exact ⟨rfl, rfl⟩
theorem feed_r0 (l : List UInt8) : feedR r0 l = ⟨d0, l, 0, false⟩ := rfl
theorem seal5 (s : List UInt8) : (sealB d0 [5] s).length = 16 ∧ (sealB d0 [5] s)[3]? = some 12 ∧ (sealB d0 [5] s)[4]? = some 10 := by
  have hp : padD d0 1 = 10 := by unfold padD padN unitD d0; rfl
  have he : sealB d0 [5] s = plainB d0 [5] s := by
    show plainB d0 [5] s ++ [] = _
    rw [List.append_nil]
  have hb : plainB d0 [5] s = [0, 0, 0, 12, 10, 5] ++ (drawB s d0.num).take 10 := by
    unfold plainB
    rw [show ([5] : List UInt8).length = 1 from rfl, hp]
    rfl
  rw [he, hb]
  refine ⟨?_, rfl, rfl⟩
  rw [List.length_append, List.length_take, drawB_len]
  rfl
attribute [local irreducible] sealB wroteD nextR
set_option maxRecDepth 20000 in
set_option maxHeartbeats 8000000 in
theorem pfit_any (w : World) (ht : TabM w.heap.size w) : Calls Tryd.prog 8 #[] w fun e w' => e = .returned (.bool true) ∧ Kp0 w w' := by
  have HT := Lib.hid ht
  clear ht
  go_enter Tryd.func8, Tryd.ntmps8
  go_upto_region 2 with (refine wl_alloc_as asW rfl rfl ?_
                         intro w1 b1 hw hb
                         have HD1 : Hid (DirM w.heap.size w1 b1 31 [] d0 none ∧ Kp0 w w1 ∧ b1 = w.heap.size ∧ w1.heap.size = w.heap.size + 1) := Lib.hid ⟨by rw [hw, hb]; exact dir_new _ w _ _ (Nat.le_refl _), by rw [hw]; exact (Kp.refl _ _).alloc _, hb, by rw [hw]; simp⟩
                         clear hw hb)
  go_upto_region 3 with (refine wl_alloc_as asR rfl rfl ?_
                         intro w2 b2 hw hb
                         have HR2 : Hid (RdV w.heap.size (fun k => k = b1) w2 b2 (.slice none 0 0) r0 none ∧ Kp0 w1 w2 ∧ b2 = w1.heap.size) := Lib.hid ⟨by rw [hw, hb]; exact rd_new _ _ w1 (HD1.out.2.1.size) (fun k e => by have := HD1.out.2.2; omega), by rw [hw]; exact (Kp.refl _ _).alloc _, hb⟩
                         clear hw hb)
  simp only [Act.put]
  obtain ⟨s, hs⟩ : ∃ s : ByteArray, s = { data := #[120] } := ⟨_, rfl⟩
  have HS : Hid (s.size ≤ 140737488351232) := Lib.hid (by rw [hs]; decide)
  rw [← hs]
  have HSE := Lib.hid (seal5 s.toList)
  have HNX : Hid (nextR ⟨d0, sealB d0 [5] s.toList, 0, false⟩ = (⟨wroteD d0 [5] s.toList, [], 0, false⟩, [5], 0)) := Lib.hid (next_seal d0 [5] s.toList (by decide) (by decide))
  have HWN : Hid ((wroteD d0 [5] s.toList).num = 1) := Lib.hid (by unfold wroteD stepD; rfl)
  generalize hsb : sealB d0 [5] s.toList = SB at HSE HNX
  have HSB := Lib.hid hsb
  clear hs hsb
  have HT2 := Lib.hid (HT.out.kp0 (HD1.out.2.1.tr HR2.out.2.1))
  have HBB : Hid (b1 < b2 ∧ b2 < w2.heap.size ∧ w.heap.size ≤ b1) := Lib.hid ⟨by have := HD1.out.2.2; have := HR2.out.2.2; omega, HR2.out.1.dir.blk.lt, by have := HD1.out.2.2; omega⟩
  go_upto_region 4 with (go_at_call 10
                         refine (write_any w.heap.size b1 _ _ d0 none _ [5] s _ (HD1.out.1.kp0 (HR2.out.2.1.alloc _)) (HT2.out.kp0 ((Kp.refl _ _).alloc _)) (rdSlice w2 (bys [5]) 1 5 rfl (by decide)) (by decide) HS.out (by decide)).mono ?_
                         rintro e w4 ⟨v4, rfl, q1, q2, q3⟩
                         rw [HSB.out] at q1
                         have HO4 := Lib.hid q1
                         have HD4 := Lib.hid q2
                         have HK4 : Hid (Kp (fun k => k = b1) w2 w4) := Lib.hid ((((Kp.refl (fun k => k = b1) w2).alloc _)).trans q3 (fun _ _ h => h) (fun _ _ h => h.elim id (fun e => by cases e)))
                         clear q1 q2 q3)
  obtain ⟨g4, o4, c4, e4, -, -, -⟩ := HO4.out.posB (by rw [HSE.out.1]; decide)
  rw [HSE.out.1] at e4
  have HG4 : Hid (w2.heap.size ≤ g4 ∧ g4 < w4.heap.size) := Lib.hid (by
    have := HO4.out.lt g4 (by rw [e4]; rfl)
    exact ⟨Nat.le_trans ((Kp.refl (fun _ => False) w2).alloc _).size this.1, this.2⟩)
  rw [e4] at HO4 ⊢
  clear e4
  have HR4 : Hid (RdV w.heap.size (fun k => k = b1 ∨ k = g4) w4 b2 (.slice none 0 0) r0 none) := Lib.hid (by
    have hb := HBB.out
    have hg := HG4.out
    refine (HR2.out.1.keep HK4.out (by omega) (fun _ h => by cases h) (fun _ h => by cases h)).reZ (by omega) (fun _ h => by cases h) (fun _ h => by cases h) (fun k e => ?_)
    have := HK4.out.size
    rcases e with e | e <;> omega)
  have HT4 := Lib.hid (HT2.out.keep HK4.out (fun k e => by have := HBB.out; omega))
  go_upto_region 5 with (go_at_call 18
                         refine (feed_any w.heap.size _ b2 r0 none _ SB _ HR4.out.rdm HO4.out.rd (by rw [HSE.out.1]; decide)).mono ?_
                         rintro e w5 ⟨rfl, q1, q2⟩
                         rw [feed_r0] at q1
                         have HR5 := Lib.hid q1
                         have HK5 := Lib.hid q2
                         clear q1 q2)
  go_upto_region 6 with (go_at_call 20
                         refine (pnext_any w.heap.size _ b2 _ none _ HR5.out (HT4.out.fb HK5.out) (fun _ => Nat.zero_le _) (by show SB.length ≤ _; rw [HSE.out.1]; decide) (by show d0.cnt ≤ _; decide)).mono ?_
                         rw [HNX.out]
                         rintro e w6 ⟨v6, rfl, q1, q2, q3⟩
                         have HV6 := Lib.hid q1
                         have HR6 := Lib.hid q2
                         have HK6 := Lib.hid q3
                         clear q1 q2 q3)
  have hz4 : ∀ k, k = b1 ∨ k = g4 → ¬ FB w.heap.size (fun k => k = b1 ∨ k = g4) k := fun k h e => e.2 h
  have HK46 : Hid (Kp (FB w.heap.size (fun k => k = b1 ∨ k = g4)) w4 w6) := Lib.hid (HK5.out.tr HK6.out)
  have HD6 := Lib.hid (HD4.out.keep HK46.out (hz4 b1 (.inl rfl)) (fun _ h => by cases h))
  have HR46 := Lib.hid (HO4.out.rd.keep HK46.out (fun k hk _ => by obtain rfl : g4 = k := Option.some.inj hk; exact hz4 g4 (.inr rfl)))
  have hc3 : w6.cell? ⟨g4, o4 + 3, none⟩ = some (.int .u8 12) := HR46.out.range 3 _ (bys_getV HSE.out.2.1)
  have hc4 : w6.cell? ⟨g4, o4 + 4, none⟩ = some (.int .u8 10) := HR46.out.range 4 _ (bys_getV HSE.out.2.2)
  have hcv := run_string_of (P := Tryd.prog) (w := w6) 32 5 9 Tryd.underlying32 Tryd.underlying5 Tryd.underlying9 HV6.out
  have hst : (⟨([5] : List UInt8).toArray⟩ : ByteArray) = { data := #[5] } := rfl
  rw [hst] at hcv
  clear hz4 hst
  have HKF : Hid (Kp0 w w6) := Lib.hid (((HD1.out.2.1.tr HR2.out.2.1).trans HK4.out (fun _ _ h => h) (fun i hi e => by have := HBB.out; omega)).trans HK46.out (fun _ _ h => h) (fun i hi e => by have := e.1; omega))
  go_wp2_with (first
    | (go_at_call 13
       refine (number_any w.heap.size b1 _ _ _ none _ HD6.out).mono ?_
       rintro e w7 ⟨rfl, rfl⟩
       rw [HWN.out])
    | (go_at_call 14
       refine (left_any w.heap.size _ b2 _ none _ HR6.out).mono ?_
       rintro e w7 ⟨rfl, rfl⟩))
  go_ret
  exact ⟨rfl, HKF.out⟩
end Go.Proofs.YtnbfedmecmdjlaaDoor
namespace Go.Proofs.YtnbfedmecmdjlaaDoor
open Go Go.RowKit
def laids : List (String × DataW Unit) := [("tabulary/digest.squareRoots", Rows.laid_tabulary_digest_squareRoots), ("tabulary/digest.cubeRoots", Rows.laid_tabulary_digest_cubeRoots), ("tabulary/cipher.squareOf", Rows.laid_tabulary_cipher_squareOf)]
def sqI : List Int := sqR.map Int.ofNat
def cuI : List Int := cubR.map Int.ofNat
theorem sq_eq : w64 K64.h0 = kis .u64 sqI := by kernel_rfl
theorem cu_eq : w64 K64.ks = kis .u64 cuI := by kernel_rfl
theorem range_of_tab {W : World} {name : String} {zs : List Int} {g : Nat} (h : Lib.TabIs Tryd.prog W name .u64 zs) (hg : Tryd.prog.globalNamed name = some g) : W.rangeAt g 0 (kis .u64 zs) := by
  intro j v hv
  have hj : j < zs.length := by have := (List.getElem?_eq_some_iff.1 hv).1; rwa [kis_len] at this
  have := h.cell (g := g) hg j hj
  rw [Nat.zero_add, this, ← hv]
  simp only [kis, List.getElem?_map, List.getElem?_eq_getElem hj, Option.map_some, List.getD_eq_getElem?_getD, Option.getD_some]
theorem tab_of_laid {W : World} (h : laidMetH Tryd.prog laids W) : TabM W.heap.size W := by
  rw [MakeChecks.laidMetH_plain _ _ _ rfl] at h
  obtain ⟨ps, hl, _, _⟩ := h
  obtain ⟨g1, t1, cs1, f1, p1, q1, hg1, ht1, hv1, hd1, hl, _⟩ := hl
  obtain ⟨g2, t2, cs2, f2, p2, q2, hg2, ht2, hv2, hd2, hl, _⟩ := hl
  obtain ⟨g3, t3, cs3, f3, p3, q3, hg3, ht3, hv3, hd3, _, _⟩ := hl
  obtain rfl : 108 = t1 := Option.some.inj ((show (Tryd.prog.globals[0]?).map (·.type) = some 108 by kernel_rfl).symm.trans (by
    rw [← ht1]
    obtain rfl := Option.some.inj ((show Tryd.prog.globalNamed "tabulary/digest.squareRoots" = some 0 by kernel_rfl).symm.trans hg1)
    rfl))
  obtain rfl : 110 = t2 := Option.some.inj ((show (Tryd.prog.globals[1]?).map (·.type) = some 110 by kernel_rfl).symm.trans (by
    rw [← ht2]
    obtain rfl := Option.some.inj ((show Tryd.prog.globalNamed "tabulary/digest.cubeRoots" = some 1 by kernel_rfl).symm.trans hg2)
    rfl))
  obtain rfl : 108 = t3 := Option.some.inj ((show (Tryd.prog.globals[2]?).map (·.type) = some 108 by kernel_rfl).symm.trans (by
    rw [← ht3]
    obtain rfl := Option.some.inj ((show Tryd.prog.globalNamed "tabulary/cipher.squareOf" = some 2 by kernel_rfl).symm.trans hg3)
    rfl))
  have hd1' : DataW.trod (fun _ => ()) Tryd.prog W 0 (fun _ => true) false f1 108 cs1.toList = some (Lib.tabData .u64 sqI, p1) := by rw [hd1]; congr 2
  have hd2' : DataW.trod (fun _ => ()) Tryd.prog W 0 (fun _ => true) false f2 110 cs2.toList = some (Lib.tabData .u64 cuI, p2) := by rw [hd2]; congr 2
  have hd3' : DataW.trod (fun _ => ()) Tryd.prog W 0 (fun _ => true) false f3 108 cs3.toList = some (Lib.tabData .u64 sqZ, p3) := by rw [hd3]; congr 2
  have t1 : Lib.TabIs Tryd.prog W "tabulary/digest.squareRoots" .u64 sqI := by
    unfold Lib.TabIs
    rw [hv1, ← Lib.cells_of_tab Tryd.underlying108 Tryd.underlying66 (by kernel_rfl) (by kernel_rfl) hd1']
  have t2 : Lib.TabIs Tryd.prog W "tabulary/digest.cubeRoots" .u64 cuI := by
    unfold Lib.TabIs
    rw [hv2, ← Lib.cells_of_tab Tryd.underlying110 Tryd.underlying66 (by kernel_rfl) (by kernel_rfl) hd2']
  have t3 : Lib.TabIs Tryd.prog W "tabulary/cipher.squareOf" .u64 sqZ := by
    unfold Lib.TabIs
    rw [hv3, ← Lib.cells_of_tab Tryd.underlying108 Tryd.underlying66 (by kernel_rfl) (by kernel_rfl) hd3']
  have s1 : Sqd W := by unfold Sqd; rw [sq_eq]; exact range_of_tab t1 (by kernel_rfl)
  have s2 : Cub W := by unfold Cub; rw [cu_eq]; exact range_of_tab t2 (by kernel_rfl)
  have s3 : Sqr W := range_of_tab t3 (by kernel_rfl)
  exact ⟨s1, s2, s3, s1.lt, s2.lt, s3.lt⟩
end Go.Proofs.YtnbfedmecmdjlaaDoor
