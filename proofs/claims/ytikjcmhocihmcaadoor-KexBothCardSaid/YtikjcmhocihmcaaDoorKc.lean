/- Law: is a talk short? A talk that came in. For the law KexBoth: a talk's room, append to nil. -/
import Derived.Test.YtikjcmhocihmcaaDoorKb
import Derived.Test.YtikjcmhocihmcaaDoorKa
import Derived.Test.YtikjcmhocihmcaaDoorK9
namespace Go.Proofs.YtikjcmhocihmcaaDoor
open Go Go.RowKit
attribute [local irreducible] sha256
theorem w64s {x : Int} (h0 : 0 ≤ x) (h1 : x ≤ 4611686018427387904) : RowKit.wrap64 x = x := by
  unfold RowKit.wrap64
  omega
set_option maxRecDepth 20000 in
set_option maxHeartbeats 4000000 in
theorem short_any (t : TalkP) (i0 i1 sh : Value) (w : World) (ht : TalkM w t i0 i1 sh) (hl : t.size ≤ 4611686018427387904) :
    Calls Tryd.prog 26 #[.agg (t.vals i0 i1 sh).toArray] w fun e w' => e = .returned (.bool (decide (t.size < 2000))) ∧ Kp0 w w' := by
  obtain ⟨a0, d0, rfl, -, -, -⟩ := ht.r0.shapeB
  obtain ⟨a1, d1, rfl, -, -, -⟩ := ht.r1.shapeB
  obtain ⟨a2, d2, rfl, -, -, -⟩ := ht.r2.shapeB
  have HL := Lib.hid hl
  clear hl ht
  go_enter Tryd.func26, Tryd.ntmps26
  go_upto_region 1 with (fail)
  obtain ⟨w1, hw1⟩ : ∃ x, x = w.alloc (.cells (t.vals (.slice a0 t.b0.length d0) (.slice a1 t.b1.length d1) (.slice a2 t.sh.length d2)).toArray 48) := ⟨_, rfl⟩
  rw [← hw1]
  have HB : Hid (Blk w1 w.heap.size 48 (t.vals (.slice a0 t.b0.length d0) (.slice a1 t.b1.length d1) (.slice a2 t.sh.length d2)) ∧ Kp0 w w1) := Lib.hid (by rw [hw1]; exact ⟨blk0 _ _ _, (Kp.refl _ _).alloc _⟩)
  obtain ⟨g, hg⟩ : ∃ x, x = w.heap.size := ⟨_, rfl⟩
  rw [← hg] at HB ⊢
  clear hw1 hg
  have c0 := HB.out.1.cellV 0 (v := .string t.l0) rfl
  have c1 := HB.out.1.cellV 1 (v := .string t.l1) rfl
  have c2 := HB.out.1.cellV 2 (v := .slice a0 t.b0.length d0) rfl
  have c3 := HB.out.1.cellV 3 (v := .slice a1 t.b1.length d1) rfl
  have c4 := HB.out.1.cellV 4 (v := .string t.h) rfl
  have c5 := HB.out.1.cellV 5 (v := .string t.s0) rfl
  have c6 := HB.out.1.cellV 6 (v := .string t.s1) rfl
  have c7 := HB.out.1.cellV 7 (v := .slice a2 t.sh.length d2) rfl
  go_wp2
  refine wp_loop_rounds 3 ?_
  rw [rounds_succ]
  go_wp2
  go_quiet (fail)
  go_wp2
  rw [rounds_succ]
  go_wp2
  go_quiet (fail)
  go_wp2
  rw [rounds_succ]
  go_wp2
  go_ret
  refine ⟨?_, HB.out.2.drewN _⟩
  have hz := HL.out
  unfold TalkP.size at hz
  show Ending.returned (Value.bool (decide (RowKit.wrap64 (RowKit.wrap64 (RowKit.wrap64 ((t.h.size : Int) + (t.sh.length : Int)) + RowKit.wrap64 (RowKit.wrap64 ((t.l0.size : Int) + (t.b0.length : Int)) + (t.s0.size : Int))) + RowKit.wrap64 (RowKit.wrap64 ((t.l1.size : Int) + (t.b1.length : Int)) + (t.s1.size : Int))) < 2000))) = _
  rw [w64s (x := (t.h.size : Int) + (t.sh.length : Int)) (by omega) (by omega), w64s (x := (t.l0.size : Int) + (t.b0.length : Int)) (by omega) (by omega), w64s (x := (t.l1.size : Int) + (t.b1.length : Int)) (by omega) (by omega), w64s (x := (t.l0.size : Int) + (t.b0.length : Int) + (t.s0.size : Int)) (by omega) (by omega), w64s (x := (t.l1.size : Int) + (t.b1.length : Int) + (t.s1.size : Int)) (by omega) (by omega), w64s (x := (t.h.size : Int) + (t.sh.length : Int) + ((t.l0.size : Int) + (t.b0.length : Int) + (t.s0.size : Int))) (by omega) (by omega), w64s (x := (t.h.size : Int) + (t.sh.length : Int) + ((t.l0.size : Int) + (t.b0.length : Int) + (t.s0.size : Int)) + ((t.l1.size : Int) + (t.b1.length : Int) + (t.s1.size : Int))) (by omega) (by omega)]
  congr 2
  apply decide_eq_decide.2
  unfold TalkP.size
  omega
end Go.Proofs.YtikjcmhocihmcaaDoor
namespace Go.Proofs.YtikjcmhocihmcaaDoor
open Go Go.RowKit
theorem two_of {α : Type} {l : List α} (h : l.length = 2) : ∃ a b, l = [a, b] := by
  match l, h with
  | [a, b], _ => exact ⟨a, b, rfl⟩
theorem five_of {α : Type} {l : List α} (h : l.length = 5) : ∃ a b c d e, l = [a, b, c, d, e] := by
  match l, h with
  | [a, b, c, d, e], _ => exact ⟨a, b, c, d, e, rfl⟩
theorem eight_of {α : Type} {l : List α} (h : l.length = 8) : ∃ a b c d e f g i, l = [a, b, c, d, e, f, g, i] := by
  match l, h with
  | [a, b, c, d, e, f, g, i], _ => exact ⟨a, b, c, d, e, f, g, i, rfl⟩
section
variable {H : Type} {enc : TypeId × Value → H} {w : World} {held : Bool} {base : Nat}
variable {P : Program}
theorem came_s1 {e : TypeId} {fuel : Nat} {c : Value} {x : DataW H × List MemPlace} (he : P.underlying e = some .string) (h : DataW.trod enc P w base (fun _ => true) held fuel e [c] = some x) :
    ∃ s : ByteArray, c = .string s ∧ ((∀ n ∈ x.1.weights P e, n ≤ reachBytes) → s.size ≤ 140737488351232) := by
  obtain ⟨s, e, rfl, _⟩ := DataW.trod_string he h
  exact ⟨s, by simpa using e, fun hz => came_str hz⟩
theorem came_b1 {s e : TypeId} {fuel : Nat} {c : Value} {x : DataW H × List MemPlace} (hs : P.underlying s = some (.slice e)) (he : P.underlying e = some (.int .u8)) (ce : P.cellsOf e = 1) (hb : P.bytesOf e = 1) (h : DataW.trod enc P w base (fun _ => true) held fuel s [c] = some x) :
    ∃ l : List UInt8, Rd w c (bys l) ∧ ((∀ n ∈ x.1.weights P s, n ≤ reachBytes) → l.length ≤ 140737488351232) := by
  obtain ⟨v, l, e, hr, hz⟩ := came_cell hs he ce h
  obtain rfl : c = v := by simpa using e
  exact ⟨l, hr, fun h => hz h hb⟩
theorem came_s2 {t e : TypeId} {fuel : Nat} {a b : Value} {x : DataW H × List MemPlace} (ht : P.underlying t = some (.array 2 e)) (he : P.underlying e = some .string) (c1 : P.cellsOf e = 1) (h : DataW.trod enc P w base (fun _ => true) held fuel t [a, b] = some x) :
    ∃ s u : ByteArray, a = .string s ∧ b = .string u ∧ ((∀ n ∈ x.1.weights P t, n ≤ reachBytes) → s.size ≤ 140737488351232 ∧ u.size ≤ 140737488351232) := by
  obtain ⟨xs, m, rfl, rfl, hl, hxl, hx⟩ := DataW.trod_array ht h
  have h0 := hx 0 (by decide)
  have h1 := hx 1 (by decide)
  rw [c1] at h0 h1
  obtain ⟨x0, x1, rfl⟩ := two_of hxl
  obtain ⟨s, rfl, z0⟩ := came_s1 (c := a) (x := x0) he (by simpa using h0)
  obtain ⟨u, rfl, z1⟩ := came_s1 (c := b) (x := x1) he (by simpa using h1)
  refine ⟨s, u, rfl, rfl, fun hz => ?_⟩
  simp only [DataW.weights, ht, List.map_cons, List.map_nil, DataW.weightsAll, List.append_nil, List.mem_append] at hz
  exact ⟨z0 (fun n hn => hz n (.inl hn)), z1 (fun n hn => hz n (.inr hn))⟩
theorem came_b2 {t s e : TypeId} {fuel : Nat} {a b : Value} {x : DataW H × List MemPlace} (ht : P.underlying t = some (.array 2 s)) (hs : P.underlying s = some (.slice e)) (he : P.underlying e = some (.int .u8)) (cs : P.cellsOf s = 1) (ce : P.cellsOf e = 1) (hb : P.bytesOf e = 1)
    (h : DataW.trod enc P w base (fun _ => true) held fuel t [a, b] = some x) :
    ∃ l u : List UInt8, Rd w a (bys l) ∧ Rd w b (bys u) ∧ ((∀ n ∈ x.1.weights P t, n ≤ reachBytes) → l.length ≤ 140737488351232 ∧ u.length ≤ 140737488351232) := by
  obtain ⟨xs, m, rfl, rfl, hl, hxl, hx⟩ := DataW.trod_array ht h
  have h0 := hx 0 (by decide)
  have h1 := hx 1 (by decide)
  rw [cs] at h0 h1
  obtain ⟨x0, x1, rfl⟩ := two_of hxl
  obtain ⟨l, r0, z0⟩ := came_b1 (c := a) (x := x0) hs he ce hb (by simpa using h0)
  obtain ⟨u, r1, z1⟩ := came_b1 (c := b) (x := x1) hs he ce hb (by simpa using h1)
  refine ⟨l, u, r0, r1, fun hz => ?_⟩
  simp only [DataW.weights, ht, List.map_cons, List.map_nil, DataW.weightsAll, List.append_nil, List.mem_append] at hz
  exact ⟨z0 (fun n hn => hz n (.inl hn)), z1 (fun n hn => hz n (.inr hn))⟩
theorem agg_of {cs : Array Value} {l : List Value} (h : cs.toList = l) : Value.agg cs = .agg l.toArray := by
  subst h
  rfl
theorem weights_five {t : TypeId} {f0 f1 f2 f3 f4 : Field} {x0 x1 x2 x3 x4 : DataW H × List MemPlace} (ht : P.underlying t = some (.struct #[f0, f1, f2, f3, f4])) (hz : ∀ n ∈ (DataW.agg ([x0, x1, x2, x3, x4].map (·.1))).weights P t, n ≤ reachBytes) :
    ∀ n, (n ∈ x0.1.weights P f0.type ∨ n ∈ x1.1.weights P f1.type ∨ n ∈ x2.1.weights P f2.type ∨ n ∈ x3.1.weights P f3.type ∨ n ∈ x4.1.weights P f4.type) → n ≤ reachBytes := by
  intro n hn
  refine hz n ?_
  simp only [DataW.weights, ht, List.map_cons, List.map_nil, DataW.weightsEach, List.append_nil, List.mem_append]
  exact hn
theorem came_talk {v : Value} {d : DataW H} {ps : List MemPlace} (hv : ∃ cs, v = .agg cs) (h : DataW.Trod enc Tryd.prog w base (fun _ => true) held 48 v d ps) (hz : ∀ n ∈ d.weights Tryd.prog 48, n ≤ reachBytes) :
    ∃ (tk : TalkP) (i0 i1 sh : Value), v = .agg (tk.vals i0 i1 sh).toArray ∧ TalkM w tk i0 i1 sh ∧ tk.size ≤ 1125899906809856 := by
  obtain ⟨cs, rfl⟩ := hv
  obtain ⟨k, hk⟩ := h
  obtain ⟨xs, n, rfl, hx0, hl, hxl, hf⟩ := DataW.trod_struct Tryd.underlying48 hk
  simp only [Prod.mk.injEq] at hx0
  obtain ⟨rfl, _⟩ := hx0
  have c8 : Tryd.prog.cellsOf 48 = 8 := by kernel_rfl
  have c2 : Tryd.prog.cellsOf 45 = 2 := by kernel_rfl
  have c3 : Tryd.prog.cellsOf 46 = 2 := by kernel_rfl
  have c4 : Tryd.prog.cellsOf 9 = 1 := by kernel_rfl
  have c5 : Tryd.prog.cellsOf 24 = 1 := by kernel_rfl
  rw [c8] at hl
  have h0 : DataW.trod enc Tryd.prog w base (fun _ => true) held n 45 (((Value.agg cs).cells.toList.drop 0).take (Tryd.prog.cellsOf 45)) = xs[0]? := hf 0 _ rfl
  have h1 : DataW.trod enc Tryd.prog w base (fun _ => true) held n 46 (((Value.agg cs).cells.toList.drop 2).take (Tryd.prog.cellsOf 46)) = xs[1]? := hf 1 _ rfl
  have h2 : DataW.trod enc Tryd.prog w base (fun _ => true) held n 9 (((Value.agg cs).cells.toList.drop 4).take (Tryd.prog.cellsOf 9)) = xs[2]? := hf 2 _ rfl
  have h3 : DataW.trod enc Tryd.prog w base (fun _ => true) held n 45 (((Value.agg cs).cells.toList.drop 5).take (Tryd.prog.cellsOf 45)) = xs[3]? := hf 3 _ rfl
  have h4 : DataW.trod enc Tryd.prog w base (fun _ => true) held n 24 (((Value.agg cs).cells.toList.drop 7).take (Tryd.prog.cellsOf 24)) = xs[4]? := hf 4 _ rfl
  simp only [Value.cells] at hl h0 h1 h2 h3 h4
  rw [c2] at h0 h3
  rw [c3] at h1
  rw [c4] at h2
  rw [c5] at h4
  obtain ⟨x0, x1, x2, x3, x4, rfl⟩ := five_of (show xs.length = 5 from hxl)
  obtain ⟨v0, v1, v2, v3, v4, v5, v6, v7, hcs⟩ := eight_of hl
  rw [hcs] at h0 h1 h2 h3 h4
  obtain ⟨l0, l1, rfl, rfl, z0⟩ := came_s2 (a := v0) (b := v1) (x := x0) Tryd.underlying45 Tryd.underlying9 c4 (by simpa using h0)
  obtain ⟨b0, b1, r0, r1, z1⟩ := came_b2 (a := v2) (b := v3) (x := x1) Tryd.underlying46 Tryd.underlying24 Tryd.underlying5 c5 (by kernel_rfl) (by kernel_rfl) (by simpa using h1)
  obtain ⟨hh, rfl, z2⟩ := came_s1 (c := v4) (x := x2) Tryd.underlying9 (by simpa using h2)
  obtain ⟨s0, s1, rfl, rfl, z3⟩ := came_s2 (a := v5) (b := v6) (x := x3) Tryd.underlying45 Tryd.underlying9 c4 (by simpa using h3)
  obtain ⟨sh, r2, z4⟩ := came_b1 (c := v7) (x := x4) Tryd.underlying24 Tryd.underlying5 (by kernel_rfl) (by kernel_rfl) (by simpa using h4)
  refine ⟨⟨l0, l1, b0, b1, hh, s0, s1, sh⟩, v2, v3, v7, ?_, ⟨r0, r1, r2⟩, ?_⟩
  · exact agg_of hcs
  · have hz := weights_five Tryd.underlying48 hz
    have y0 := z0 (fun n hn => hz n (.inl hn))
    have y1 := z1 (fun n hn => hz n (.inr (.inl hn)))
    have y2 := z2 (fun n hn => hz n (.inr (.inr (.inl hn))))
    have y3 := z3 (fun n hn => hz n (.inr (.inr (.inr (.inl hn)))))
    have y4 := z4 (fun n hn => hz n (.inr (.inr (.inr (.inr hn)))))
    unfold TalkP.size
    simp only
    omega
end
end Go.Proofs.YtikjcmhocihmcaaDoor
namespace Go.Proofs.YtikjcmhocihmcaaDoor
open Go Go.RowKit
attribute [local irreducible] sha256
def tk0 : List Value := [.string .empty, .string .empty, .slice none 0 0, .slice none 0 0, .string .empty, .string .empty, .string .empty, .slice none 0 0]
theorem asTk : AllocAs 48 tk0 := by
  intro w ev op ho
  unfold execOp
  simp only [ho]
  kernel_rfl
theorem onesTk {t : TalkP} {a0 a1 a2 : Option Addr} {n0 n1 n2 d0 d1 d2 : Nat} : Ones (t.vals (.slice a0 n0 d0) (.slice a1 n1 d1) (.slice a2 n2 d2)) := by
  intro u hu
  simp only [TalkP.vals, List.mem_cons, List.not_mem_nil, or_false] at hu
  rcases hu with rfl | rfl | rfl | rfl | rfl | rfl | rfl | rfl <;> rfl
theorem append_new {o : Oper} {a : Act} {w : World} {K : Act → World → Prop} {Q : Exit → Act → World → Prop} {x : Operand} {y : Value} {l : List UInt8}
    (ho : o.op = .call { callee := .builtin .append, args := #[.const (.slice none 0 0), x], argTypes := #[24, 24] })
    (hx : a.eval x = y) (hrd : Rd w y (bys l)) (hl : l.length ≤ 140737488351232)
    (h : ∀ ao c w', Rd w' (.slice ao l.length c) (bys l) → (∀ b, (Value.slice ao l.length c).ownBlock = some b → w.heap.size ≤ b) → Kp0 w w' → K (a.put o.dst (.slice ao l.length c)) w') : o.wp Tryd.prog a w K Q := by
  refine wp_append_ow (.const (.slice none 0 0)) x 24 ho (B := w.heap.size) Tryd.underlying24 infoU8 rfl rfl hx (Ow.nil _ _ _) hrd (bys_one l) (by unfold maxLen; rw [bys_len]; simp; omega) (by rw [bys_len]; simp; omega) (Nat.le_refl _) ?_
  intro v7 w7 ho hg _
  rw [List.nil_append] at ho
  obtain ⟨ao, c, rfl, _⟩ := ho.shapeB
  exact h ao c w7 ho.rd (fun b hb => (ho.lt b hb).1) (hg.mono (fun k _ e => by cases e))
end Go.Proofs.YtikjcmhocihmcaaDoor
