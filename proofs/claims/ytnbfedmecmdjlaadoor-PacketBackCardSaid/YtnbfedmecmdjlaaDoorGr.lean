/- Package packet: a reader, as plain functions and in memory; bytes are fed. Package packet: what waits is turned back. -/
import Derived.Test.YtnbfedmecmdjlaaDoorGq
import Derived.Test.YtnbfedmecmdjlaaDoorGm
import Derived.Laws.CopyOwn
namespace Go.Proofs.YtnbfedmecmdjlaaDoor
open Go Go.RowKit
/-- A reader: its direction, what waits, how much of it was turned back, whether it is over. -/
structure Rn where
  d : Dn
  W : List UInt8
  op : Nat
  dead : Bool
def openR (r : Rn) (n : Nat) : Rn := { r with W := r.W.take r.op ++ turnB r.d ((r.W.take n).drop r.op) ++ r.W.drop n, d := gone r.d (n - r.op), op := n }
theorem openR_len (r : Rn) (n : Nat) (h : r.op ≤ n) (hn : n ≤ r.W.length) : (openR r n).W.length = r.W.length := by
  simp only [openR, List.length_append, List.length_take, turnB_len, List.length_drop]
  omega
def dropR (r : Rn) (n : Nat) : Rn := { r with W := r.W.drop n, op := 0 }
def deadR (r : Rn) : Rn := { r with W := [], dead := true }
def feedR (r : Rn) (l : List UInt8) : Rn := if r.dead then r else { r with W := r.W ++ l }
def awaitR (r : Rn) : Rn × Nat × Nat :=
  if r.W.length < unitD r.d then (r, 0, 4) else
  if beNat ((openR r (unitD r.d)).W.take 4) < 5 ∨ 2348 < beNat ((openR r (unitD r.d)).W.take 4) then (openR r (unitD r.d), 0, 2) else
  if (4 + beNat ((openR r (unitD r.d)).W.take 4)) % unitD r.d ≠ 0 then (openR r (unitD r.d), 0, 2) else
  if r.W.length < 4 + beNat ((openR r (unitD r.d)).W.take 4) + tailD r.d then (openR r (unitD r.d), 0, 4) else
  (openR r (unitD r.d), 4 + beNat ((openR r (unitD r.d)).W.take 4), 0)
def payR (r : Rn) (size : Nat) : Rn × List UInt8 × Nat :=
  if sameB (codeB (openR r size).d ((openR r size).W.take size)) (((openR r size).W.drop size).take (tailD r.d)) = false then (openR r size, [], 5) else
  if (((openR r size).W.getD 4 0).toNat < 4) ∨ size ≤ ((openR r size).W.getD 4 0).toNat + 5 then (openR r size, [], 3) else
  (openR r size, ((openR r size).W.take (size - ((openR r size).W.getD 4 0).toNat)).drop 5, 0)
def nextR (r : Rn) : Rn × List UInt8 × Nat :=
  if r.dead then (r, [], 9) else
  if (awaitR r).2.2 = 4 then ((awaitR r).1, [], 4) else
  if (awaitR r).2.2 ≠ 0 then (deadR (awaitR r).1, [], (awaitR r).2.2) else
  if (payR (awaitR r).1 (awaitR r).2.1).2.2 ≠ 0 then (deadR (payR (awaitR r).1 (awaitR r).2.1).1, [], (payR (awaitR r).1 (awaitR r).2.1).2.2) else
  ({ dropR (payR (awaitR r).1 (awaitR r).2.1).1 ((awaitR r).2.1 + tailD r.d) with d := stepD (payR (awaitR r).1 (awaitR r).2.1).1.d }, (payR (awaitR r).1 (awaitR r).2.1).2.1, 0)
/-- What may change: blocks from B on that nobody keeps. -/
def FB (B : Nat) (Z : Nat → Prop) (k : Nat) : Prop := B ≤ k ∧ ¬ Z k
def rdC (vw : Value) (r : Rn) : List Value := [vw, .int .i64 (r.op : Int), .bool r.dead]
/-- Block b is the reader r; its bytes lie at vw. -/
structure RdV (B : Nat) (Z : Nat → Prop) (w : World) (b : Nat) (vw : Value) (r : Rn) (sg : Option Nat) : Prop where
  dir : DirM B w b 34 (rdC vw r) r.d sg
  ow : Ow B 5 w vw (bys r.W)
  nb : ¬ Z b
  ns : ∀ g, sg = some g → ¬ Z g
  nw : ∀ k, vw.ownBlock = some k → ¬ Z k
  ne : ∀ k, vw.ownBlock = some k → k ≠ b ∧ sg ≠ some k
  zl : ∀ k, Z k → k < w.heap.size
def RdM (B : Nat) (Z : Nat → Prop) (w : World) (b : Nat) (r : Rn) (sg : Option Nat) : Prop := ∃ vw, RdV B Z w b vw r sg
section
variable {B : Nat} {Z : Nat → Prop} {w w' : World} {b : Nat} {vw : Value} {r : Rn} {sg : Option Nat} {S : Nat → Prop}
theorem RdV.rdm (h : RdV B Z w b vw r sg) : RdM B Z w b r sg := ⟨vw, h⟩
theorem RdV.cW (h : RdV B Z w b vw r sg) : w.cell? ⟨b, 35, none⟩ = some vw := h.dir.more 0 rfl
theorem RdV.cO (h : RdV B Z w b vw r sg) : w.cell? ⟨b, 36, none⟩ = some (.int .i64 (r.op : Int)) := h.dir.more 1 rfl
theorem RdV.cD (h : RdV B Z w b vw r sg) : w.cell? ⟨b, 37, none⟩ = some (.bool r.dead) := h.dir.more 2 rfl
theorem RdV.fz (h : RdV B Z w b vw r sg) (i : Nat) : w.frozen? ⟨b, i, none⟩ = false := blk_frozen h.dir.blk i
theorem RdV.sgl (h : RdV B Z w b vw r sg) : ∀ g, sg = some g → B ≤ g ∧ g < w.heap.size ∧ g ≠ b := by
  intro g hg
  rcases h.dir.key.none_iff with ⟨_, h2⟩ | ⟨_, _, _, g', _, h2, h3, h4, h5⟩
  · rw [h2] at hg; cases hg
  · rw [h2] at hg
    cases hg
    exact ⟨h5, h3.lt, h4⟩
theorem RdV.keep (h : RdV B Z w b vw r sg) (hk : Kp S w w') (hb : ¬ S b) (hs : ∀ g, sg = some g → ¬ S g) (hw : ∀ k, vw.ownBlock = some k → ¬ S k) : RdV B Z w' b vw r sg :=
  ⟨h.dir.keep hk hb hs, h.ow.keep hk (fun k hk _ _ => hw k hk), h.nb, h.ns, h.nw, h.ne, fun k hk' => Nat.lt_of_lt_of_le (h.zl k hk') hk.size⟩
theorem RdV.kp0 (h : RdV B Z w b vw r sg) (hk : Kp0 w w') : RdV B Z w' b vw r sg := h.keep hk (fun h => h) (fun _ _ h => h) (fun _ _ h => h)
theorem RdV.fb (h : RdV B Z w b vw r sg) : FB B Z b := ⟨h.dir.ge, h.nb⟩
theorem RdV.fw (h : RdV B Z w b vw r sg) : ∀ k, vw.ownBlock = some k → FB B Z k := fun k hk => ⟨(h.ow.lt k hk).1, h.nw k hk⟩
theorem RdV.fs (h : RdV B Z w b vw r sg) : ∀ g, sg = some g → FB B Z g := fun g hg => ⟨(h.sgl g hg).1, h.ns g hg⟩
/-- The reader's own cells, from the 35th on. -/
theorem dir_rest {rest : List Value} {d : Dn} (h : DirM B w b 34 rest d sg) (i : Nat) (v : Value) : DirM B (w.setCell ⟨b, 35 + i, none⟩ v) b 34 (rest.set i v) d sg := by
  have hb := h.blk.set' (35 + i) v
  rw [List.set_append_right _ _ (by rw [dirC_len h.mac]; omega), dirC_len h.mac, Nat.add_sub_cancel_left] at hb
  refine ⟨hb, h.mac, h.key.keep (S := fun k => k = b) ((Kp.refl (fun k => k = b) w).setCell (p := ⟨b, 35 + i, none⟩) (fun _ => rfl) _) (fun g hg e => ?_), h.ge, h.num⟩
  rcases h.key.none_iff with ⟨_, h2⟩ | ⟨_, _, _, g', _, h2, _, h4, _⟩
  · rw [h2] at hg; cases hg
  · rw [h2] at hg
    cases hg
    exact h4 e
/-- Other bytes wait. -/
theorem RdV.setW (h : RdV B Z w b vw r sg) {w1 : World} {v1 : Value} {l : List UInt8} (hk : Kp (fun k => vw.ownBlock = some k) w w1) (ho : Ow B 5 w1 v1 (bys l)) (hb : ∀ k, v1.ownBlock = some k → vw.ownBlock = some k ∨ w.heap.size ≤ k) :
    RdV B Z (w1.setCell ⟨b, 35, none⟩ v1) b v1 { r with W := l } sg ∧ Kp (FB B Z) w (w1.setCell ⟨b, 35, none⟩ v1) := by
  have hd1 : DirM B w1 b 34 (rdC vw r) r.d sg := h.dir.keep hk (fun e => (h.ne b e).1 rfl) (fun g hg e => (h.ne g e).2 hg)
  have hd2 := dir_rest hd1 0 v1
  have hk2 : Kp (fun k => k = b) w1 (w1.setCell ⟨b, 35, none⟩ v1) := (Kp.refl (fun k => k = b) w1).setCell (p := ⟨b, 35, none⟩) (fun _ => rfl) _
  have hbl := h.dir.blk.lt
  have hne : ∀ k, v1.ownBlock = some k → k ≠ b ∧ sg ≠ some k := by
    intro k hk
    rcases hb k hk with e | e
    · exact h.ne k e
    · exact ⟨by omega, fun e2 => by have := (h.sgl k e2).2.1; omega⟩
  refine ⟨⟨hd2, ho.keep hk2 (fun k hk _ _ e => (hne k hk).1 e), h.nb, h.ns, fun k hk => ?_, hne, fun k hk' => Nat.lt_of_lt_of_le (h.zl k hk') (Nat.le_trans hk.size hk2.size)⟩, ?_⟩
  · rcases hb k hk with e | e
    · exact h.nw k e
    · exact fun hz => by have := h.zl k hz; omega
  · exact hk.trans hk2 (fun k _ e => h.fw k e) (fun k _ e => by rw [e]; exact h.fb)
end
set_option maxRecDepth 20000 in
theorem left_nil (w : World) : Calls Tryd.prog 14 #[.pointer none] w fun e w' => e = .returned (.bool false) ∧ w = w' := by
  go_enter Tryd.func14, Tryd.ntmps14
  go_wp2
  go_ret
  exact ⟨rfl, rfl⟩
set_option maxRecDepth 20000 in
theorem feed_nil (v : Value) (w : World) : Calls Tryd.prog 18 #[.pointer none, v] w fun e w' => e = .returned (.tuple #[]) ∧ w = w' := by
  go_enter Tryd.func18, Tryd.ntmps18
  go_wp2
  go_end0
  exact ⟨rfl, rfl⟩
set_option maxRecDepth 20000 in
theorem next_nil (w : World) : Calls Tryd.prog 20 #[.pointer none] w fun e w' => e = .returned (.tuple #[.slice none 0 0, .int .i64 9]) ∧ w = w' := by
  go_enter Tryd.func20, Tryd.ntmps20
  go_wp2
  go_ret2
  exact ⟨rfl, rfl⟩
set_option maxRecDepth 20000 in
theorem left_any (B : Nat) (Z : Nat → Prop) (b : Nat) (r : Rn) (sg : Option Nat) (w : World) (h : RdM B Z w b r sg) :
    Calls Tryd.prog 14 #[.pointer (some ⟨b, 0, none⟩)] w fun e w' => e = .returned (.bool (decide (0 < r.W.length))) ∧ w = w' := by
  obtain ⟨vw, h⟩ := h
  have hc := h.cW
  obtain ⟨a, c, rfl, -, -, -⟩ := h.ow.shapeB
  clear h
  go_enter Tryd.func14, Tryd.ntmps14
  go_wp2
  all_goals go_ret
  all_goals exact ⟨by simp_all, rfl⟩
set_option maxRecDepth 20000 in
set_option maxHeartbeats 4000000 in
theorem feed_any (B : Nat) (Z : Nat → Prop) (b : Nat) (r : Rn) (sg : Option Nat) (v : Value) (l : List UInt8) (w : World) (h : RdM B Z w b r sg) (hr : Rd w v (bys l)) (hl : r.W.length + l.length ≤ 140737488355328) :
    Calls Tryd.prog 18 #[.pointer (some ⟨b, 0, none⟩), v] w fun e w' => e = .returned (.tuple #[]) ∧ RdM B Z w' b (feedR r l) sg ∧ Kp (FB B Z) w w' := by
  obtain ⟨vw, h⟩ := h
  have H := Lib.hid h
  have HR := Lib.hid hr
  have HL : Hid ((bys r.W).length + (bys l).length ≤ maxLen ∧ ((bys r.W).length + (bys l).length) * 1 ≤ 140737488355328) := Lib.hid (by rw [bys_len, bys_len, Nat.mul_one]; unfold maxLen; exact ⟨by omega, hl⟩)
  have hc := h.cD
  have hc0 := h.cW
  have hf := h.fz 35
  obtain ⟨ar, cr, rfl, -, -, -⟩ := hr.shapeB
  obtain ⟨aw, nw, kw, e⟩ := h.ow.sl
  obtain ⟨vw', hvw⟩ : ∃ x, x = vw := ⟨_, rfl⟩
  have HB : Hid (B ≤ w.heap.size) := Lib.hid (by have := h.dir.ge; have := h.dir.blk.lt; omega)
  clear h hr hl hvw vw'
  cases hd : r.dead with
  | true =>
    have hfe : feedR r l = r := by unfold feedR; rw [if_pos hd]
    rw [hd] at hc
    rw [hfe]
    clear hd hfe
    subst e
    go_enter Tryd.func18, Tryd.ntmps18
    go_wp2
    go_end0
    exact ⟨rfl, H.out.rdm, Kp.refl _ _⟩
  | false =>
    have hfe : feedR r l = { r with W := r.W ++ l } := by unfold feedR; rw [if_neg (by rw [hd]; decide)]
    rw [hd] at hc
    rw [hfe]
    clear hd hfe
    subst e
    go_enter Tryd.func18, Tryd.ntmps18
    go_wp2_with (at_builtin
                 refine wl_append_ow rfl (.tmp 17) (.tmp 18) 32 rfl Tryd.underlying32 infoU8' rfl rfl rfl H.out.ow HR.out (bys_one _) HL.out.1 HL.out.2 HB.out ?_
                 intro v1 w1 ho hk hb
                 rw [← bys_app] at ho
                 have hs := H.out.setW hk ho hb
                 have HS := Lib.hid hs
                 have hcn := hk.cell H.out.cW (fun e => (H.out.ne b e).1 rfl)
                 have hfn := hk.frozen' (p := ⟨b, 35, none⟩) H.out.dir.blk.lt (H.out.fz 35) (fun e => (H.out.ne b e).1 rfl)
                 obtain ⟨a1, n1, c1, e1⟩ := ho.sl
                 subst e1
                 clear ho hk hb hs)
    go_end0
    exact ⟨rfl, HS.out.1.rdm, HS.out.2⟩
end Go.Proofs.YtnbfedmecmdjlaaDoor
namespace Go.Proofs.YtnbfedmecmdjlaaDoor
open Go Go.RowKit
/-- A slice of one's own, a part of which was written anew. -/
theorem ow_copied {B : Nat} {e : TypeId} {w' : World} {g o cap a : Nat} {cur xs ds : List Value} (hB : B ≤ g) (hc : xs.length ≤ cap) (hm : cap ≤ maxLen) (hs : o + cap ≤ cur.length) (hx : ∀ (i : Nat) (u : Value), xs[i]? = some u → cur[o + i]? = some u)
    (ha : a + ds.length ≤ xs.length) (hb : Blk w' g e (cur.take (o + a) ++ ds ++ cur.drop (o + a + ds.length))) : Ow B e w' (.slice (some ⟨g, o, none⟩) xs.length cap) (xs.take a ++ ds ++ xs.drop (a + ds.length)) := by
  have hl : (xs.take a ++ ds ++ xs.drop (a + ds.length)).length = xs.length := by simp only [List.length_append, List.length_take, List.length_drop]; omega
  have hcl : (cur.take (o + a) ++ ds ++ cur.drop (o + a + ds.length)).length = cur.length := by simp only [List.length_append, List.length_take, List.length_drop]; omega
  refine .inr ⟨g, o, cap, _, by rw [hl], hB, hb, by rw [hl]; exact hc, hm, by rw [List.size_toArray, hcl]; exact hs, fun i u hu => ?_⟩
  rw [List.getElem?_toArray]
  have hta : (xs.take a).length = a := by rw [List.length_take]; omega
  have htc : (cur.take (o + a)).length = o + a := by rw [List.length_take]; omega
  by_cases h1 : i < a
  · rw [List.append_assoc, List.getElem?_append_left (by omega), List.getElem?_take_of_lt h1] at hu
    rw [List.append_assoc, List.getElem?_append_left (by omega), List.getElem?_take_of_lt (by omega)]
    exact hx i u hu
  · by_cases h2 : i < a + ds.length
    · rw [List.append_assoc, List.getElem?_append_right (by omega), hta, List.getElem?_append_left (by omega)] at hu
      rw [List.append_assoc, List.getElem?_append_right (by omega), htc, List.getElem?_append_left (by omega), show o + i - (o + a) = i - a by omega]
      exact hu
    · rw [List.getElem?_append_right (by rw [List.length_append]; omega), List.length_append, hta, List.getElem?_drop] at hu
      rw [List.getElem?_append_right (by rw [List.length_append]; omega), List.length_append, htc, List.getElem?_drop, show o + a + ds.length + (o + i - (o + a + ds.length)) = o + i by omega]
      rw [show a + ds.length + (i - (a + ds.length)) = i by omega] at hu
      exact hx i u hu
theorem wp_copy_none {P : Program} {w : World} {op : Oper} {a : Act} {Q : Exit → Act → World → Prop} {K : Act → World → Prop} (d s : Operand) (dT sT : TypeId)
    (ho : op.op = .call { callee := .builtin .copy, args := #[d, s], argTypes := #[dT, sT] }) (elem : TypeId) (hu : P.underlying dT = some (.slice elem)) (hsz : (P.info? elem).map (·.size) = some 1)
    (dp sp : Option Addr) (dLen dCap sLen sCap : Nat) (hd : a.eval d = .slice dp dLen dCap) (hs : a.eval s = .slice sp sLen sCap) (hn : Nat.min sLen dLen = 0)
    (h : K (a.put op.dst (goInt 0)) w) : op.wp P a w K Q := by
  have hrun := run_copy_none (P := P) w dT sT op.type elem dp sp dLen dCap sLen sCap hu hsz hn
  unfold Oper.wp
  simp [execOp, ho, resolve, invoke, builtin, hd, hs, hrun, Result.andThen]
  exact h
section
variable {B : Nat} {Z : Nat → Prop} {w w1 : World} {b : Nat} {vw : Value} {r : Rn} {sg : Option Nat}
/-- Behind a part of the bytes written anew, the keys gone on, and the count of what is turned back. -/
theorem RdV.opened {d1 : Dn} {l1 : List UInt8} {n : Nat} (h : RdV B Z w b vw r sg) (hd : DirM B w1 b 34 (rdC vw r) d1 sg) (ho : Ow B 5 w1 vw (bys l1)) (hk : Kp (FB B Z) w w1) :
    RdV B Z (w1.setCell ⟨b, 36, none⟩ (.int .i64 (n : Int))) b vw { r with W := l1, d := d1, op := n } sg ∧ Kp (FB B Z) w (w1.setCell ⟨b, 36, none⟩ (.int .i64 (n : Int))) := by
  have hd2 := dir_rest hd 1 (.int .i64 (n : Int))
  have hk2 : Kp (fun k => k = b) w1 (w1.setCell ⟨b, 36, none⟩ (.int .i64 (n : Int))) := (Kp.refl (fun k => k = b) w1).setCell (p := ⟨b, 36, none⟩) (fun _ => rfl) _
  refine ⟨⟨hd2, ho.keep hk2 (fun k hk _ _ e => (h.ne k hk).1 e), h.nb, h.ns, h.nw, h.ne, fun k hk' => Nat.lt_of_lt_of_le (h.zl k hk') (Nat.le_trans hk.size hk2.size)⟩, ?_⟩
  exact hk.trans hk2 (fun k _ e => e) (fun k _ e => by rw [e]; exact h.fb)
end
attribute [local irreducible] turnB gone
set_option maxRecDepth 20000 in
set_option maxHeartbeats 8000000 in
theorem open_any (B : Nat) (Z : Nat → Prop) (b : Nat) (r : Rn) (sg : Option Nat) (n : Nat) (w : World) (h : RdM B Z w b r sg) (ht : TabM B w) (h1 : r.op ≤ n) (h2 : n ≤ r.W.length) (h3 : 0 < r.W.length) (h4 : r.W.length ≤ 140737488351232) :
    Calls Tryd.prog 49 #[.pointer (some ⟨b, 0, none⟩), .int .i64 (n : Int)] w fun e w' => e = .returned (.tuple #[]) ∧ RdM B Z w' b (openR r n) sg ∧ Kp (FB B Z) w w' := by
  obtain ⟨vw, h⟩ := h
  have H := Lib.hid h
  have HT := Lib.hid ht
  obtain ⟨g, o, cap, e, hc1, hc2, -⟩ := h.ow.posB h3
  subst e
  obtain ⟨L, hL⟩ : ∃ L, L = r.W.length := ⟨_, rfl⟩
  have hcW := h.cW
  have hcO := h.cO
  rw [← hL] at hcW
  obtain ⟨p, hp⟩ : ∃ p, p = r.op := ⟨_, rfl⟩
  rw [← hp] at hcO h1
  have HLL := Lib.hid hL
  have HPP := Lib.hid hp
  have HB : Hid (p ≤ n ∧ n ≤ L ∧ L ≤ cap ∧ 0 < L ∧ L ≤ 140737488351232 ∧ cap ≤ 9223372036854775807) := Lib.hid ⟨h1, by omega, by omega, by omega, by omega, hc2⟩
  have hwp : IntKind.i64.wrap (p : Int) = (p : Int) := IntWalk.i64_in _ ⟨by omega, by omega⟩
  have hwn : IntKind.i64.wrap (n : Int) = (n : Int) := IntWalk.i64_in _ ⟨by omega, by omega⟩
  have hp0 : (0 : Int) ≤ (p : Int) := by omega
  have hn0 : (0 : Int) ≤ (n : Int) := by omega
  have hpn : (p : Int) ≤ (n : Int) := by omega
  have hnc : (n : Int) ≤ (cap : Int) := by omega
  have HPART : Hid (Rd w (sliced (some ⟨g, o, none⟩) p n cap 1) (bys ((r.W.take n).drop p))) := Lib.hid (by
    have h5 := h.ow.rd.cut p n cap h1 h2 (by omega) (Nat.le_refl _)
    have e5 : ((bys r.W).drop p).take (n - p) = bys ((r.W.take n).drop p) := by
      rw [List.drop_take]
      simp [bys, List.map_drop, List.map_take]
    rw [e5] at h5
    exact h5)
  have HPL : Hid (((r.W.take n).drop p).length = n - p) := Lib.hid (by rw [List.length_drop, List.length_take]; omega)
  clear h ht h1 h2 h3 h4 hc1 hc2 hL hp
  go_enter Tryd.func49, Tryd.ntmps49
  have hq : ∀ wq : World, (wq.cell? ⟨b, 35, none⟩ = some (.slice (some ⟨g, o, none⟩) L cap) ∧ wq.cell? ⟨b, 36, none⟩ = some (.int .i64 (p : Int))) → wq.cell? ⟨b, 35, none⟩ = some (.slice (some ⟨g, o, none⟩) L cap) ∧ wq.cell? ⟨b, 36, none⟩ = some (.int .i64 (p : Int)) := fun _ e => e
  go_upto_region 0 with (fail)
  refine wp_region_px 25 [24] (fun w' : World => w'.cell? ⟨b, 35, none⟩ = some (.slice (some ⟨g, o, none⟩) L cap) ∧ w'.cell? ⟨b, 36, none⟩ = some (.int .i64 (p : Int))) (.quiet 0 (.quiet 1 (.quiet 2 (.quiet 3 (.quiet 4 (.quiet 5 (.quiet 6 (.quiet 7 (.quiet 8 (.quiet 9 (.quiet 10 (.quiet 11 (.quiet 12 (.quiet 13 (.quiet 14 (.quiet 15 (.quiet 16 (.quiet 17 (.quiet 18 (.quiet 19 (.quiet 20 (.quiet 21 (.quiet 22 (.eff 23 (.wall 24 .done))))))))))))))))))))))))) (by kernel_rfl) (by kernel_rfl) (by kernel_rfl) (by kernel_rfl) (fun _ d _ _ _ h => by cases d <;> exact h) ⟨hcW, hcO⟩ ?_
  iterate 23 (refine px_quiet (v := ?_) rfl (by rfl) (fun wq hwq => ?_) rfl ?_; rotate_left 1; (focus (obtain ⟨hx1, hx2⟩ := hq wq hwq; go_simp; try (with_reducible rfl); done)); try simp only [List.setIfInBounds_toArray, List.set_cons_zero, List.set_cons_succ])
  refine px_eff rfl (by rfl) (fun K hK => ?_)
  go_simp
  have HAD : Hid (sliced (some ⟨g, o, none⟩) p n cap 1 = .slice (if cap = p then (some ⟨g, o, none⟩ : Option Addr) else some ⟨g, o + p, none⟩) (n - p) (cap - p)) := Lib.hid (by simp [sliced, Addr.add_lit])
  have HPOS : Hid (p < n → (if cap = p then (some ⟨g, o, none⟩ : Option Addr) else some ⟨g, o + p, none⟩) = some ⟨g, o + p, none⟩) := Lib.hid (fun h => by rw [if_neg]; have := HB.out; omega)
  have HOB : Hid (∀ k, (Value.slice (if cap = p then (some ⟨g, o, none⟩ : Option Addr) else some ⟨g, o + p, none⟩) (n - p) (cap - p)).ownBlock = some k → k = g) := Lib.hid (fun k hk => by
    split at hk
    · exact (Option.some.inj hk).symm
    · exact (Option.some.inj hk).symm)
  rw [HAD.out] at HPART
  generalize (if cap = p then (some ⟨g, o, none⟩ : Option Addr) else some ⟨g, o + p, none⟩) = ad2 at HPART HPOS HOB ⊢
  clear HAD
  refine (turned_any B b _ _ r.d sg (.slice ad2 (n - p) (cap - p)) ((r.W.take n).drop p) w.drew (H.out.dir.kp0 (Kp.refl _ _).drew) (HT.out.kp0 (Kp.refl _ _).drew) HPART.out.drew (fun _ k hk e => by rw [HOB.out k hk] at e; exact (H.out.ne g rfl).2 e) (by rw [HPL.out]; have := HB.out; omega)).mono ?_
  rintro e w3 ⟨v3, rfl, ho, hd, hk⟩
  rw [HPL.out] at hd
  simp only []
  have HO3 := Lib.hid ho
  have HD3 := Lib.hid hd
  have HK3 : Hid (Kp (fun k => sg = some k) w w3) := Lib.hid hk.drewL
  have HTL : Hid ((turnB r.d ((r.W.take n).drop p)).length = n - p) := Lib.hid (by rw [turnB_len, HPL.out])
  have HOWE : Hid (openR r n = { r with W := r.W.take p ++ turnB r.d ((r.W.take n).drop p) ++ r.W.drop n, d := gone r.d (n - p), op := n }) := Lib.hid (by rw [HPP.out]; rfl)
  generalize turnB r.d ((r.W.take n).drop p) = tb at HO3 HTL HOWE
  have HOW := Lib.hid H.out.ow
  refine hK (fun w' => w' = w3) _ _ (fun x hx => ?_) rfl ?_
  · subst hx
    have hb3 := HD3.out.more 0 rfl
    have hb4 := HD3.out.more 1 rfl
    rw [← HLL.out] at hb3
    rw [← HPP.out] at hb4
    exact ⟨hb3, hb4⟩
  clear hK K ho hd hk
  try simp only [List.setIfInBounds_toArray, List.set_cons_zero, List.set_cons_succ]
  refine px_wall rfl (by rfl) (fun K hK => ?_)
  have hsz := HB.out
  rcases Nat.lt_or_ge p n with hlt | hge
  · rw [HPOS.out hlt]
    obtain ⟨g3, o3, c3, e3, -, -, -⟩ := HO3.out.rd.posB (by rw [HTL.out]; omega)
    subst e3
    rcases HOW.out with ⟨hv, _⟩ | ⟨g', o', cap', cur, hv, q1, q2, q3, q4, q5, q6⟩
    · cases hv
    · simp only [Value.slice.injEq, Option.some.injEq, Addr.mk.injEq] at hv
      obtain ⟨⟨rfl, rfl, -⟩, -, rfl⟩ := hv
      have hB3 : Blk w3 g 5 cur.toList := (show Blk w g 5 cur.toList by unfold Blk; simpa using q2).keep HK3.out (fun e => (H.out.ne g rfl).2 e)
      refine wp_copy_blk (.tmp 13) (.tmp 27) 32 32 rfl (T := 5) (g := g) (o := o + p) (n := n - p) (cap := cap - p) (m := tb.length) (c := c3) (ad := ⟨g3, o3, none⟩) (cs := cur.toList) (ds := bys tb) Tryd.underlying32 sizeU8 rfl rfl hB3 (by rw [bys_len, HTL.out]; exact (Nat.min_self _).symm) (fun j u hu => by rw [Addr.add_lit]; exact HO3.out.rd.range j u hu) (by rw [bys_len, HTL.out, Array.length_toList]; have := q5; omega) (bys_onesV _) ?_
      intro w4 hA hK4
      have HO4 := Lib.hid (show Ow B 5 w4 (.slice (some ⟨g, o, none⟩) r.W.length cap) (bys (r.W.take p ++ tb ++ r.W.drop n)) from by
        have h5 := ow_copied (xs := bys r.W) (ds := bys tb) (a := p) q1 q3 q4 (by rw [Array.length_toList]; exact q5) (fun i u hu => by have := q6 i u hu; simpa using this) (by rw [bys_len, bys_len, HTL.out]; have := HLL.out; omega) hA
        rw [bys_len, bys_len, HTL.out, show p + (n - p) = n by omega] at h5
        rw [bys_app, bys_app, ← bys_take]
        rw [show bys (r.W.drop n) = (bys r.W).drop n by simp [bys, List.map_drop]]
        exact h5)
      have HD4 := Lib.hid (HD3.out.keep hK4 (fun e => (H.out.ne g rfl).1 e.symm) (fun k hk e => (H.out.ne g rfl).2 (by rw [hk, e])))
      have HK4 : Hid (Kp (FB B Z) w w4) := Lib.hid (HK3.out.trans hK4 (fun k _ e => H.out.fs k e) (fun k _ e => by rw [e]; exact H.out.fw g rfl))
      clear hA hK4 hlt hsz hB3 q1 q2 q3 q4 q5 q6
      refine hK (fun _ => True) _ _ trivial (px_done ?_)
      clear hK K
      have hc4 := HD4.out.more 1 rfl
      have hf4 := blk_frozen HD4.out.blk 36
      go_wp2
      go_end0
      have hs := H.out.opened (n := n) HD4.out HO4.out HK4.out
      rw [HOWE.out]
      exact ⟨rfl, hs.1.rdm, hs.2⟩
  · obtain ⟨a3, c3, e3, -, -, -⟩ := HO3.out.rd.shapeB
    subst e3
    refine wp_copy_none (.tmp 13) (.tmp 27) 32 32 rfl 5 Tryd.underlying32 sizeU8 ad2 a3 (n - p) (cap - p) tb.length c3 rfl rfl (by rw [HTL.out, show n - p = 0 by omega]; rfl) ?_
    have htb : tb = [] := List.eq_nil_of_length_eq_zero (by rw [HTL.out]; omega)
    have HO4 := Lib.hid (show Ow B 5 w3 (.slice (some ⟨g, o, none⟩) r.W.length cap) (bys (r.W.take p ++ tb ++ r.W.drop n)) from by
      rw [htb, List.append_nil, show n = p by omega, List.take_append_drop]
      exact HOW.out.keep HK3.out (fun k hk _ _ e => by obtain rfl : g = k := Option.some.inj hk; exact (H.out.ne g rfl).2 e))
    have HD4 := HD3
    have HK4 : Hid (Kp (FB B Z) w w3) := Lib.hid (HK3.out.mono (fun k _ e => H.out.fs k e))
    clear hge hsz htb
    refine hK (fun _ => True) _ _ trivial (px_done ?_)
    clear hK K
    have hc4 := HD4.out.more 1 rfl
    have hf4 := blk_frozen HD4.out.blk 36
    go_wp2
    go_end0
    have hs := H.out.opened (n := n) HD4.out HO4.out HK4.out
    rw [HOWE.out]
    exact ⟨rfl, hs.1.rdm, hs.2⟩
end Go.Proofs.YtnbfedmecmdjlaaDoor
