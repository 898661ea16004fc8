/- Words of 32 and 64 bits as the program's numbers. The two hashes, as plain functions: words of w bits, blocks of 16 words. Nothing of the program stands here. A text in whole blocks and what is left; the state behind it. Nothing of the program stands here. An alloc of many cells, as one step. Package digest: what its tables hold. make([]byte, n); some rows of types. copy onto a block's cells. -/
import Derived.Test.YtikjcmhocihmcaaDoorK1
import Derived.WalkKit
import Derived.Test.YtikjcmhocihmcaaDoorChecked
import Derived.Deep.DeepCutAuto
import Derived.Laws.CopyRow
namespace Go.Proofs.YtikjcmhocihmcaaDoor
open Go Go.RowKit
theorem ofInt64 (a : BitVec 64) : BitVec.ofInt 64 (a.toNat : Int) = a := by
  rw [BitVec.ofInt_natCast, BitVec.ofNat_toNat, BitVec.setWidth_eq]
theorem ofInt32 (a : BitVec 32) : BitVec.ofInt 32 (a.toNat : Int) = a := by
  rw [BitVec.ofInt_natCast, BitVec.ofNat_toNat, BitVec.setWidth_eq]
theorem wrap64 (a : BitVec 64) : IntKind.u64.wrap (a.toNat : Int) = (a.toNat : Int) := by
  rw [IntKind.wrap_u64]; have := a.isLt; omega
theorem wrap32 (a : BitVec 32) : IntKind.u32.wrap (a.toNat : Int) = (a.toNat : Int) := by
  rw [IntKind.wrap_u32']; have := a.isLt; omega
theorem f64_xor (a b : BitVec 64) : bits .xor .u64 (a.toNat : Int) (b.toNat : Int) = ((a ^^^ b).toNat : Int) := by
  show IntKind.u64.wrap ((BitVec.ofInt 64 (a.toNat : Int) ^^^ BitVec.ofInt 64 (b.toNat : Int)).toNat : Int) = _
  rw [ofInt64, ofInt64, wrap64]
theorem f64_and (a b : BitVec 64) : bits .and .u64 (a.toNat : Int) (b.toNat : Int) = ((a &&& b).toNat : Int) := by
  show IntKind.u64.wrap ((BitVec.ofInt 64 (a.toNat : Int) &&& BitVec.ofInt 64 (b.toNat : Int)).toNat : Int) = _
  rw [ofInt64, ofInt64, wrap64]
theorem f64_or (a b : BitVec 64) : bits .or .u64 (a.toNat : Int) (b.toNat : Int) = ((a ||| b).toNat : Int) := by
  show IntKind.u64.wrap ((BitVec.ofInt 64 (a.toNat : Int) ||| BitVec.ofInt 64 (b.toNat : Int)).toNat : Int) = _
  rw [ofInt64, ofInt64, wrap64]
theorem f64_not (a b : BitVec 64) : bits .andNot .u64 (a.toNat : Int) (b.toNat : Int) = ((a &&& ~~~b).toNat : Int) := by
  show IntKind.u64.wrap ((BitVec.ofInt 64 (a.toNat : Int) &&& ~~~BitVec.ofInt 64 (b.toNat : Int)).toNat : Int) = _
  rw [ofInt64, ofInt64, wrap64]
theorem f32_xor (a b : BitVec 32) : bits .xor .u32 (a.toNat : Int) (b.toNat : Int) = ((a ^^^ b).toNat : Int) := by
  show IntKind.u32.wrap ((BitVec.ofInt 32 (a.toNat : Int) ^^^ BitVec.ofInt 32 (b.toNat : Int)).toNat : Int) = _
  rw [ofInt32, ofInt32, wrap32]
theorem f32_and (a b : BitVec 32) : bits .and .u32 (a.toNat : Int) (b.toNat : Int) = ((a &&& b).toNat : Int) := by
  show IntKind.u32.wrap ((BitVec.ofInt 32 (a.toNat : Int) &&& BitVec.ofInt 32 (b.toNat : Int)).toNat : Int) = _
  rw [ofInt32, ofInt32, wrap32]
theorem f32_or (a b : BitVec 32) : bits .or .u32 (a.toNat : Int) (b.toNat : Int) = ((a ||| b).toNat : Int) := by
  show IntKind.u32.wrap ((BitVec.ofInt 32 (a.toNat : Int) ||| BitVec.ofInt 32 (b.toNat : Int)).toNat : Int) = _
  rw [ofInt32, ofInt32, wrap32]
theorem f64_mul (a b : BitVec 64) {c : Int} (h : c = (a.toNat : Int) * (b.toNat : Int)) : IntKind.u64.wrap c = ((a * b).toNat : Int) := by
  rw [h, IntKind.wrap_u64, BitVec.toNat_mul, Int.natCast_emod, Int.natCast_mul]
  rfl
theorem f64_shl (a : BitVec 64) (n : Nat) {c : Int} (h : c = (a.toNat : Int) * ((2 ^ n : Nat) : Int)) : IntKind.u64.wrap c = ((a <<< n).toNat : Int) := by
  rw [h, IntKind.wrap_u64, BitVec.toNat_shiftLeft, Nat.shiftLeft_eq, Int.natCast_emod, Int.natCast_mul]
  rfl
theorem f32_shl (a : BitVec 32) (n : Nat) {c : Int} (h : c = (a.toNat : Int) * ((2 ^ n : Nat) : Int)) : IntKind.u32.wrap c = ((a <<< n).toNat : Int) := by
  rw [h, IntKind.wrap_u32', BitVec.toNat_shiftLeft, Nat.shiftLeft_eq, Int.natCast_emod, Int.natCast_mul]
  rfl
theorem f_shr {m : Nat} (a : BitVec m) (n : Nat) {c : Int} (h : c = ((2 ^ n : Nat) : Int)) : (a.toNat : Int) / c = ((a >>> n).toNat : Int) := by
  rw [h, BitVec.toNat_ushiftRight, Nat.shiftRight_eq_div_pow, Int.natCast_ediv]
theorem f_widen (x : BitVec 32) : (x.toNat : Int) = ((x.setWidth 64).toNat : Int) := by
  rw [BitVec.toNat_setWidth, Nat.mod_eq_of_lt (by have := x.isLt; omega)]
theorem f_trunc (x : BitVec 64) : IntKind.u32.wrap (x.toNat : Int) = ((x.setWidth 32).toNat : Int) := by
  rw [IntKind.wrap_u32', BitVec.toNat_setWidth, Int.natCast_emod]
  rfl
theorem f64_com (a : BitVec 64) : bits .xor .u64 (if IntKind.u64.signed = true then -1 else IntKind.u64.max) (a.toNat : Int) = ((~~~a).toNat : Int) := by
  have h : (if IntKind.u64.signed = true then -1 else IntKind.u64.max) = (((BitVec.allOnes 64).toNat : Nat) : Int) := by decide
  rw [h, f64_xor, BitVec.allOnes_xor]
theorem f64_add (a b : BitVec 64) {c : Int} (h : c = (a.toNat : Int) + (b.toNat : Int)) : IntKind.u64.wrap c = ((a + b).toNat : Int) := by
  rw [h, IntKind.wrap_u64, BitVec.toNat_add, Int.natCast_emod, Int.natCast_add]
  rfl
theorem f32_add (a b : BitVec 32) {c : Int} (h : c = (a.toNat : Int) + (b.toNat : Int)) : IntKind.u32.wrap c = ((a + b).toNat : Int) := by
  rw [h, IntKind.wrap_u32', BitVec.toNat_add, Int.natCast_emod, Int.natCast_add]
  rfl
theorem f64_byte (x : UInt8) : (x.toNat : Int) = ((BitVec.ofNat 64 x.toNat).toNat : Int) := by
  rw [BitVec.toNat_ofNat, Nat.mod_eq_of_lt (by have := x.toNat_lt; omega)]
theorem f32_byte (x : UInt8) : (x.toNat : Int) = ((BitVec.ofNat 32 x.toNat).toNat : Int) := by
  rw [BitVec.toNat_ofNat, Nat.mod_eq_of_lt (by have := x.toNat_lt; omega)]
/-- Words as values. -/
def w64 (l : List (BitVec 64)) : List Value := l.map fun x => .int .u64 (x.toNat : Int)
theorem w64_len (l : List (BitVec 64)) : (w64 l).length = l.length := by simp [w64]
theorem w64_get {l : List (BitVec 64)} {n : Nat} {x : BitVec 64} (h : l[n]? = some x) : (w64 l)[n]? = some (.int .u64 (x.toNat : Int)) := by simp [w64, h]
theorem w64_set (l : List (BitVec 64)) (n : Nat) (x : BitVec 64) : (w64 l).set n (.int .u64 (x.toNat : Int)) = w64 (l.set n x) := by simp [w64, List.map_set]
theorem w64_ones (l : List (BitVec 64)) : Ones (w64 l) := by
  intro v hv
  simp only [w64, List.mem_map] at hv
  obtain ⟨x, _, rfl⟩ := hv
  rfl
theorem Rd.range {w : World} {b o n cap : Nat} {xs : List Value} (h : Rd w (.slice (some ⟨b, o, none⟩) n cap) xs) : w.rangeAt b o xs := by
  obtain ⟨ao', cap', e, g1, g2, g3, g4⟩ := h
  simp only [Value.slice.injEq] at e
  obtain ⟨e1, _, _⟩ := e
  intro j v hv
  have := g4 ⟨b, o, none⟩ e1.symm j v hv
  rwa [Addr.add_lit] at this
/-- The first n of m, the others of l. -/
def upT {α : Type} (n : Nat) (l m : List α) : List α := m.take n ++ l.drop n
theorem upT_step {α : Type} {l m : List α} {n : Nat} {x y : α} (h : l.length = m.length) (hl : l[n]? = some x) (hm : m[n]? = some y) : (upT n l m)[n]? = some x ∧ (upT n l m).set n y = upT (n + 1) l m := by
  obtain ⟨hn, rfl⟩ := List.getElem?_eq_some_iff.1 hl
  obtain ⟨hn2, rfl⟩ := List.getElem?_eq_some_iff.1 hm
  have h1 : (m.take n).length = n := by rw [List.length_take]; omega
  constructor
  · rw [upT, List.getElem?_append_right (by omega), h1, Nat.sub_self, List.drop_eq_getElem_cons hn]
    rfl
  · rw [upT, List.set_append_right _ _ (by omega), h1, Nat.sub_self, List.drop_eq_getElem_cons hn, List.set_cons_zero, upT, List.take_succ_eq_append_getElem (by omega), List.append_assoc, List.singleton_append]
theorem upT_zero {α : Type} (l m : List α) : upT 0 l m = l := by simp [upT]
theorem upT_all {α : Type} {l m : List α} {n : Nat} (h : l.length ≤ n) (h2 : m.length ≤ n) : upT n l m = m := by
  rw [upT, List.take_of_length_le h2, List.drop_eq_nil_of_le h, List.append_nil]
theorem bys_getV {l : List UInt8} {n : Nat} {y : UInt8} (h : l[n]? = some y) : (bys l)[n]? = some (.int .u8 (y.toNat : Int)) := by simp [bys, h]
theorem bys_setV (l : List UInt8) (n : Nat) (y : UInt8) : (bys l).set n (.int .u8 (y.toNat : Int)) = bys (l.set n y) := by simp [bys, List.map_set]
theorem getD_some {α : Type} {l : List α} {n : Nat} (h : n < l.length) (d : α) : l[n]? = some (l.getD n d) := by
  rw [List.getD_eq_getElem?_getD, List.getElem?_eq_getElem h]
  rfl
theorem bys_onesV (l : List UInt8) : Ones (bys l) := fun v hv => bys_one l v hv
theorem u8_succ (x : UInt8) : (x.toNat + 1 : Int) % 256 = ((x + 1).toNat : Int) := by
  rw [UInt8.toNat_add, Int.natCast_emod]
  rfl
theorem u8_ne {x : UInt8} (h : x ≠ 0) : ((x.toNat : Int) != 0) = true := by
  rw [bne_iff_ne]
  intro e
  apply h
  apply UInt8.toNat_inj.1
  show x.toNat = 0
  omega
end Go.Proofs.YtikjcmhocihmcaaDoor
namespace Go.Proofs.YtikjcmhocihmcaaDoor
/-- Turned to the right. -/
def rr {w : Nat} (x : BitVec w) (n : Nat) : BitVec w := (x >>> n) ||| (x <<< (w - n))
def mS {w : Nat} (x : BitVec w) (a b c : Nat) : BitVec w := rr x a ^^^ rr x b ^^^ (x >>> c)
def mR {w : Nat} (x : BitVec w) (a b c : Nat) : BitVec w := rr x a ^^^ rr x b ^^^ rr x c
def chW {w : Nat} (e f g : BitVec w) : BitVec w := (e &&& f) ||| (~~~e &&& g)
def mjW {w : Nat} (a b c : BitVec w) : BitVec w := (a &&& b) ||| (b &&& c) ||| (a &&& c)
theorem ch_xor {w : Nat} (e f g : BitVec w) : (e &&& f) ^^^ (~~~e &&& g) = chW e f g := by
  unfold chW
  apply BitVec.eq_of_getLsbD_eq
  intro i hi
  simp only [BitVec.getLsbD_xor, BitVec.getLsbD_or, BitVec.getLsbD_and, BitVec.getLsbD_not, hi, decide_true, Bool.true_and]
  cases e.getLsbD i <;> cases f.getLsbD i <;> cases g.getLsbD i <;> rfl
theorem mj_perm {w : Nat} (a b c : BitVec w) : (a &&& b) ||| (a &&& c) ||| (b &&& c) = mjW a b c := by
  unfold mjW
  apply BitVec.eq_of_getLsbD_eq
  intro i hi
  simp only [BitVec.getLsbD_or, BitVec.getLsbD_and]
  cases a.getLsbD i <;> cases b.getLsbD i <;> cases c.getLsbD i <;> rfl
/-- The eight words of a state. -/
structure V8 (w : Nat) where
  a : BitVec w
  b : BitVec w
  c : BitVec w
  d : BitVec w
  e : BitVec w
  f : BitVec w
  g : BitVec w
  h : BitVec w
/-- The turns of a hash: of the words made (two), of the rounds (two); how many rounds. -/
structure Kind (w : Nat) where
  rounds : Nat
  s0 : Nat × Nat × Nat
  s1 : Nat × Nat × Nat
  r1 : Nat × Nat × Nat
  r0 : Nat × Nat × Nat
  ks : List (BitVec w)
  h0 : List (BitVec w)
def tT {w : Nat} (K : Kind w) (v : V8 w) (k x : BitVec w) : BitVec w := v.h + mR v.e K.r1.1 K.r1.2.1 K.r1.2.2 + chW v.e v.f v.g + k + x
def tU {w : Nat} (K : Kind w) (v : V8 w) : BitVec w := mR v.a K.r0.1 K.r0.2.1 K.r0.2.2 + mjW v.a v.b v.c
def rnd {w : Nat} (K : Kind w) (v : V8 w) (k x : BitVec w) : V8 w :=
  ⟨tT K v k x + tU K v, v.a, v.b, v.c, v.d + tT K v k x, v.e, v.f, v.g⟩
/-- The next word. -/
def nxW {w : Nat} (K : Kind w) (l : List (BitVec w)) : BitVec w :=
  l.getD (l.length - 16) 0 + l.getD (l.length - 7) 0 + mS (l.getD (l.length - 15) 0) K.s0.1 K.s0.2.1 K.s0.2.2 + mS (l.getD (l.length - 2) 0) K.s1.1 K.s1.2.1 K.s1.2.2
def scW {w : Nat} (K : Kind w) (l : List (BitVec w)) : Nat → List (BitVec w)
  | 0 => l
  | n + 1 => scW K l n ++ [nxW K (scW K l n)]
theorem scW_len {w : Nat} (K : Kind w) (l : List (BitVec w)) : ∀ n, (scW K l n).length = l.length + n
  | 0 => rfl
  | n + 1 => by rw [scW, List.length_append, scW_len K l n]; rfl
theorem scW_pre {w : Nat} (K : Kind w) (l : List (BitVec w)) (n : Nat) : ∀ m, (scW K l (n + m)).take (l.length + n) = scW K l n
  | 0 => by rw [Nat.add_zero, List.take_of_length_le (by rw [scW_len]; exact Nat.le_refl _)]
  | m + 1 => by
    rw [show n + (m + 1) = (n + m) + 1 from rfl, scW, List.take_append_of_le_length (by rw [scW_len]; omega), scW_pre K l n m]
theorem scW_getD {w : Nat} (K : Kind w) (l : List (BitVec w)) {n N i : Nat} (hn : n ≤ N) (hi : i < l.length + n) : (scW K l n).getD i 0 = (scW K l N).getD i 0 := by
  have h := scW_pre K l n (N - n)
  rw [show n + (N - n) = N by omega] at h
  rw [← h, List.getD_eq_getElem?_getD, List.getD_eq_getElem?_getD, List.getElem?_take, if_pos hi]
/-- Word i of those made, from the ones ahead of it. -/
theorem scW_at {w : Nat} (K : Kind w) (l : List (BitVec w)) (hl : l.length = 16) {i N : Nat} (h1 : 16 ≤ i) (h2 : i < 16 + N) :
    (scW K l N).getD i 0 = (scW K l N).getD (i - 16) 0 + (scW K l N).getD (i - 7) 0 + mS ((scW K l N).getD (i - 15) 0) K.s0.1 K.s0.2.1 K.s0.2.2 + mS ((scW K l N).getD (i - 2) 0) K.s1.1 K.s1.2.1 K.s1.2.2 := by
  obtain ⟨n, rfl⟩ : ∃ n, i = 16 + n := ⟨i - 16, by omega⟩
  rw [← scW_getD K l (n := n + 1) (N := N) (i := 16 + n) (by omega) (by omega)]
  rw [scW, List.getD_eq_getElem?_getD, List.getElem?_append_right (by rw [scW_len]; omega), scW_len, hl, Nat.sub_self]
  simp only [List.getElem?_cons_zero, Option.getD_some, nxW, scW_len, hl]
  rw [scW_getD K l (n := n) (N := N) (by omega) (by omega), scW_getD K l (n := n) (N := N) (i := 16 + n - 7) (by omega) (by omega), scW_getD K l (n := n) (N := N) (i := 16 + n - 15) (by omega) (by omega), scW_getD K l (n := n) (N := N) (i := 16 + n - 2) (by omega) (by omega)]
/-- The rounds. -/
def rdN {w : Nat} (K : Kind w) (W : List (BitVec w)) (v : V8 w) : Nat → V8 w
  | 0 => v
  | n + 1 => rnd K (rdN K W v n) (K.ks.getD n 0) (W.getD n 0)
def v8L {w : Nat} (v : V8 w) : List (BitVec w) := [v.a, v.b, v.c, v.d, v.e, v.f, v.g, v.h]
def l8V {w : Nat} (l : List (BitVec w)) : V8 w := ⟨l.getD 0 0, l.getD 1 0, l.getD 2 0, l.getD 3 0, l.getD 4 0, l.getD 5 0, l.getD 6 0, l.getD 7 0⟩
theorem v8_l8 {w : Nat} {l : List (BitVec w)} (h : l.length = 8) : v8L (l8V l) = l := by
  match l, h with
  | [a, b, c, d, e, f, g, h], _ => rfl
/-- A word of bytes, the highest first. -/
def wdB (w : Nat) (b : List UInt8) : BitVec w := b.foldl (fun x y => x <<< 8 ||| BitVec.ofNat w y.toNat) 0
/-- A block's words. -/
def wsB (w k : Nat) (b : List UInt8) (m : Nat) : List (BitVec w) := (List.range m).map fun i => wdB w ((b.drop (k * i)).take k)
/-- The state behind one more block (of 16 words of k bytes). -/
def behind {w : Nat} (K : Kind w) (st : List (BitVec w)) (b : List UInt8) : List (BitVec w) :=
  List.zipWith (· + ·) st (v8L (rdN K (scW K (wsB w (w / 8) b 16) (K.rounds - 16)) (l8V st) K.rounds))
theorem behind_len {w : Nat} (K : Kind w) {st : List (BitVec w)} (h : st.length = 8) (b : List UInt8) : (behind K st b).length = 8 := by simp [behind, h, v8L]
/-- The states behind a text's whole blocks of n bytes. -/
def blocks {w : Nat} (K : Kind w) (n : Nat) (st : List (BitVec w)) : Nat → List UInt8 → List (BitVec w)
  | 0, _ => st
  | m + 1, t => blocks K n (behind K st (t.take n)) m (t.drop n)
theorem blocks_snoc {w : Nat} (K : Kind w) (n : Nat) : ∀ (m : Nat) (st : List (BitVec w)) (t : List UInt8), blocks K n st (m + 1) t = behind K (blocks K n st m t) ((t.drop (n * m)).take n)
  | 0, st, t => by simp [blocks]
  | m + 1, st, t => by
    rw [blocks, blocks_snoc K n m, blocks, List.drop_drop]
    congr 3
    rw [Nat.mul_add, Nat.mul_one, Nat.add_comm]
theorem blocks_app {w : Nat} (K : Kind w) (n : Nat) : ∀ (m : Nat) (st : List (BitVec w)) (t u : List UInt8), n * m ≤ t.length → blocks K n st m (t ++ u) = blocks K n st m t
  | 0, _, _, _, _ => rfl
  | m + 1, st, t, u, h => by
    have hn : n ≤ t.length := by rw [Nat.mul_add] at h; omega
    rw [blocks, blocks, List.take_append_of_le_length hn, List.drop_append_of_le_length hn, blocks_app K n m _ _ _ (by rw [List.length_drop]; rw [Nat.mul_add] at h; omega)]
/-- A number's eight bytes, the highest first. -/
def be8 (n : Nat) : List UInt8 := (List.range 8).map fun i => UInt8.ofNat (n / 2 ^ (56 - 8 * i))
/-- What follows a text of n bytes: c is the bytes that its length has, s a block's. -/
def endB (s c n : Nat) : List UInt8 := 0x80 :: (List.replicate (s - (n + c) % s - 1 + (c - 8)) 0 ++ be8 (8 * n))
def padB (s c : Nat) (t : List UInt8) : List UInt8 := t ++ endB s c t.length
theorem padB_len (s c : Nat) (hs : 0 < s) (hc : 8 ≤ c) (t : List UInt8) : (padB s c t).length = t.length + (s - (t.length + c) % s) + c := by
  have := Nat.mod_lt (t.length + c) hs
  simp [padB, endB, be8]
  omega
theorem padB_mod (s c : Nat) (hs : 0 < s) (hc : 8 ≤ c) (t : List UInt8) : (padB s c t).length % s = 0 := by
  rw [padB_len s c hs hc]
  have h1 := Nat.mod_lt (t.length + c) hs
  have h2 := Nat.div_add_mod (t.length + c) s
  rw [show t.length + (s - (t.length + c) % s) + c = s * ((t.length + c) / s) + s by omega, Nat.mul_add_mod, Nat.mod_self]
/-- The hash of a text, as words. -/
def hashW {w : Nat} (K : Kind w) (s c : Nat) (t : List UInt8) : List (BitVec w) := blocks K s K.h0 ((padB s c t).length / s) (padB s c t)
/-- Words as bytes. -/
def bytW {w : Nat} (l : List (BitVec w)) (n : Nat) : List UInt8 := (List.range n).map fun i => UInt8.ofNat ((l.getD (8 * i / w) 0).toNat / 2 ^ (w - 8 - 8 * i % w))
def cubR : List Nat := [4794697086780616226, 8158064640168781261, 13096744586834688815, 16840607885511220156, 4131703408338449720, 6480981068601479193, 10538285296894168987, 12329834152419229976, 15566598209576043074, 1334009975649890238, 2608012711638119052, 6128411473006802146, 8268148722764581231, 9286055187155687089, 11230858885718282805, 13951009754708518548, 16472876342353939154, 17275323862435702243, 1135362057144423861, 2597628984639134821, 3308224258029322869, 5365058923640841347, 6679025012923562964, 8573033837759648693, 10970295158949994411, 12119686244451234320, 12683024718118986047, 13788192230050041572, 14330467153632333762, 15395433587784984357, 489312712824947311, 1452737877330783856, 2861767655752347644, 3322285676063803686, 5560940570517711597, 5996557281743188959, 7280758554555802590, 8532644243296465576, 9350256976987008742, 10552545826968843579, 11727347734174303076, 12113106623233404929, 14000437183269869457, 14369950271660146224, 15101387698204529176, 15463397548674623760, 17586052441742319658, 1182934255886127544, 1847814050463011016, 2177327727835720531, 2830643537854262169, 3796741975233480872, 4115178125766777443, 5681478168544905931, 6601373596472566643, 7507060721942968483, 8399075790359081724, 8693463985226723168, 9568029438360202098, 10144078919501101548, 10430055236837252648, 11840083180663258601, 13761210420658862357, 14299343276471374635, 14566680578165727644, 15097957966210449927, 16922976911328602910, 17689382322260857208, 500013540394364858, 748580250866718886, 1242879168328830382, 1977374033974150939, 2944078676154940804, 3659926193048069267, 4368137639120453308, 4836135668995329356, 5532061633213252278, 6448918945643986474, 6902733635092675308, 7801388544844847127]
def sqR : List Nat := [7640891576956012808, 13503953896175478587, 4354685564936845355, 11912009170470909681, 5840696475078001361, 11170449401992604703, 2270897969802886507, 6620516959819538809]
def K64 : Kind 64 := { rounds := 80, s0 := (1, 8, 7), s1 := (19, 61, 6), r1 := (14, 18, 41), r0 := (28, 34, 39), ks := cubR.map (BitVec.ofNat 64), h0 := sqR.map (BitVec.ofNat 64) }
def K32 : Kind 32 := { rounds := 64, s0 := (7, 18, 3), s1 := (17, 19, 10), r1 := (6, 11, 25), r0 := (2, 13, 22), ks := cubR.map fun x => BitVec.ofNat 32 (x / 4294967296), h0 := sqR.map fun x => BitVec.ofNat 32 (x / 4294967296) }
def sha512 (t : List UInt8) : List UInt8 := bytW (hashW K64 128 16 t) 64
def sha256 (t : List UInt8) : List UInt8 := bytW (hashW K32 64 8 t) 32
end Go.Proofs.YtikjcmhocihmcaaDoor
namespace Go.Proofs.YtikjcmhocihmcaaDoor
/-- The whole blocks of a text; what is left. -/
def whB (s : Nat) (t : List UInt8) : List UInt8 := t.take (s * (t.length / s))
def reB (s : Nat) (t : List UInt8) : List UInt8 := t.drop (s * (t.length / s))
theorem wh_re (s : Nat) (t : List UInt8) : whB s t ++ reB s t = t := List.take_append_drop _ _
theorem re_len {s : Nat} (t : List UInt8) : (reB s t).length = t.length % s := by
  have := Nat.div_add_mod t.length s
  unfold reB
  rw [List.length_drop]
  omega
theorem wh_len {s : Nat} (t : List UInt8) : (whB s t).length = s * (t.length / s) := by
  have := Nat.div_add_mod t.length s
  unfold whB
  rw [List.length_take]
  omega
theorem wh_nil (s : Nat) : whB s [] = [] := by simp [whB]
theorem re_nil (s : Nat) : reB s [] = [] := by simp [reB]
theorem div_more {s a b : Nat} (hs : 0 < s) (h : a % s + b < s) : (a + b) / s = a / s := by
  have h0 := Nat.div_add_mod a s
  rw [show a + b = s * (a / s) + (a % s + b) by omega, Nat.mul_add_div hs, Nat.div_eq_of_lt h]
  rfl
theorem div_full {s a b : Nat} (hs : 0 < s) (h : a % s + b = s) : (a + b) / s = a / s + 1 := by
  have h0 := Nat.div_add_mod a s
  rw [show a + b = s * (a / s) + s by omega, Nat.mul_add_div hs, Nat.div_self hs]
theorem mod_more {s a b : Nat} (h : a % s + b < s) : (a + b) % s = a % s + b := by
  have h0 := Nat.div_add_mod a s
  rw [show a + b = s * (a / s) + (a % s + b) by omega, Nat.mul_add_mod, Nat.mod_eq_of_lt h]
theorem mod_full {s a b : Nat} (h : a % s + b = s) : (a + b) % s = 0 := by
  have h0 := Nat.div_add_mod a s
  rw [show a + b = s * (a / s) + s by omega, Nat.mul_add_mod, Nat.mod_self]
theorem wh_more {s : Nat} (hs : 0 < s) {t u : List UInt8} (h : t.length % s + u.length < s) : whB s (t ++ u) = whB s t ∧ reB s (t ++ u) = reB s t ++ u := by
  have h0 := Nat.div_add_mod t.length s
  unfold whB reB
  rw [List.length_append, div_more hs h, List.take_append_of_le_length (by omega), List.drop_append_of_le_length (by omega)]
  exact ⟨rfl, rfl⟩
theorem wh_full {s : Nat} (hs : 0 < s) {t u : List UInt8} (h : t.length % s + u.length = s) : whB s (t ++ u) = whB s t ++ (reB s t ++ u) ∧ reB s (t ++ u) = [] := by
  have h0 := Nat.div_add_mod t.length s
  have hl : (t ++ u).length = s * (t.length / s + 1) := by rw [List.length_append, Nat.mul_add]; omega
  unfold whB reB
  rw [List.length_append, div_full hs h, ← hl, List.take_length, List.drop_length, ← List.append_assoc, List.take_append_drop]
  exact ⟨rfl, rfl⟩
/-- The state behind a text's whole blocks. -/
def stB {w : Nat} (K : Kind w) (s : Nat) (t : List UInt8) : List (BitVec w) := blocks K s K.h0 (t.length / s) t
theorem stB_nil {w : Nat} (K : Kind w) (s : Nat) : stB K s [] = K.h0 := by
  unfold stB
  rw [List.length_nil, Nat.zero_div]
  rfl
theorem stB_snoc {w : Nat} (K : Kind w) {s : Nat} (hs : 0 < s) {t b : List UInt8} (ht : t.length % s = 0) (hb : b.length = s) : stB K s (t ++ b) = behind K (stB K s t) b := by
  have h0 := Nat.div_add_mod t.length s
  unfold stB
  rw [List.length_append, div_full hs (by omega), blocks_snoc, blocks_app K s _ _ _ _ (by omega), List.drop_append_of_le_length (by omega), List.drop_eq_nil_of_le (by omega), List.nil_append, List.take_of_length_le (by omega)]
theorem stB_pad {w : Nat} (K : Kind w) (s c : Nat) (t : List UInt8) : stB K s (padB s c t) = hashW K s c t := rfl
theorem wh_pad {s c : Nat} (hs : 0 < s) (hc : 8 ≤ c) (t : List UInt8) : whB s (padB s c t) = padB s c t := by
  have h := padB_mod s c hs hc t
  have h0 := Nat.div_add_mod (padB s c t).length s
  unfold whB
  rw [List.take_of_length_le (by omega)]
theorem behind_len8 {w : Nat} (K : Kind w) {st : List (BitVec w)} (h : st.length = 8) (b : List UInt8) : (behind K st b).length = 8 := behind_len K h b
theorem blocks_len {w : Nat} (K : Kind w) (n : Nat) : ∀ (m : Nat) (st : List (BitVec w)) (t : List UInt8), st.length = 8 → (blocks K n st m t).length = 8
  | 0, _, _, h => h
  | m + 1, _, _, h => blocks_len K n m _ _ (behind_len K h _)
end Go.Proofs.YtikjcmhocihmcaaDoor
namespace Go.Proofs.YtikjcmhocihmcaaDoor
open Go Go.RowKit
def AllocAs (T : TypeId) (cs : List Value) : Prop := ∀ (w : World) (ev : Operand → Value) (op : Oper), op.op = .alloc T → (execOp ev op).run Tryd.prog w = .ok (.value (.pointer (some ⟨w.heap.size, 0, none⟩))) (w.alloc (.cells cs.toArray T))
theorem wl_alloc_as {T : TypeId} {cs : List Value} (hA : AllocAs T cs) {ops : Array Oper} {rest : List Oper} {op : Oper} {a : Act} {w : World} {Q : Exit → Act → World → Prop} (hgd : op.guard = none) (ho : op.op = .alloc T)
    (h : ∀ w' g, w' = w.alloc (.cells cs.toArray T) → g = w.heap.size → wpList Tryd.prog ops Q rest (a.put op.dst (.pointer (some ⟨g, 0, none⟩))) w') : wpList Tryd.prog ops Q (op :: rest) a w := by
  refine wpList_plain hgd fun _ hK => ?_
  unfold Oper.wp
  rw [hA w a.eval op ho]
  exact hK _ _ (h _ _ rfl rfl)
end Go.Proofs.YtikjcmhocihmcaaDoor
namespace Go.Proofs.YtikjcmhocihmcaaDoor
open Go Go.RowKit
/-- What the program's table of cube roots holds. -/
def Cub (w : World) : Prop := w.rangeAt 1 0 (w64 K64.ks)
theorem Cub.lt {w : World} (h : Cub w) : 1 < w.heap.size := World.block_lt_of_cell? w _ (h 0 (.int .u64 ((K64.ks.getD 0 0).toNat : Int)) (by rfl))
theorem Cub.keep {S : Nat → Prop} {w w' : World} (h : Cub w) (hk : Kp S w w') (h0 : ¬ S 1) : Cub w' := fun j v hv => hk.cell (h j v hv) h0
theorem Cub.kp0 {w w' : World} (h : Cub w) (hk : Kp0 w w') : Cub w' := h.keep hk (fun h => h)
theorem ks_get {n : Nat} (h : n < 80) : K64.ks[n]? = some (K64.ks.getD n 0) := getD_some (by show n < 80; exact h) 0
/-- What its table of square roots holds. -/
def Sqd (w : World) : Prop := w.rangeAt 0 0 (w64 K64.h0)
theorem Sqd.lt {w : World} (h : Sqd w) : 0 < w.heap.size := World.block_lt_of_cell? w _ (h 0 (.int .u64 ((K64.h0.getD 0 0).toNat : Int)) (by rfl))
theorem Sqd.keep {S : Nat → Prop} {w w' : World} (h : Sqd w) (hk : Kp S w w') (h0 : ¬ S 0) : Sqd w' := fun j v hv => hk.cell (h j v hv) h0
theorem Sqd.kp0 {w w' : World} (h : Sqd w) (hk : Kp0 w w') : Sqd w' := h.keep hk (fun h => h)
theorem hs_get {n : Nat} (h : n < 8) : K64.h0[n]? = some (K64.h0.getD n 0) := getD_some (by show n < 8; exact h) 0
/-- The first 32 bits are the upper half of 64. -/
theorem ks_half {n : Nat} (h : n < 80) : K32.ks.getD n 0 = ((K64.ks.getD n 0) >>> 32).setWidth 32 := by
  have : ∀ n : Fin 80, K32.ks.getD n.val 0 = ((K64.ks.getD n.val 0) >>> 32).setWidth 32 := by decide +kernel
  exact this ⟨n, h⟩
theorem hs_half {n : Nat} (h : n < 8) : K32.h0.getD n 0 = ((K64.h0.getD n 0) >>> 32).setWidth 32 := by
  have : ∀ n : Fin 8, K32.h0.getD n.val 0 = ((K64.h0.getD n.val 0) >>> 32).setWidth 32 := by decide +kernel
  exact this ⟨n, h⟩
end Go.Proofs.YtikjcmhocihmcaaDoor
namespace Go.Proofs.YtikjcmhocihmcaaDoor
open Go Go.RowKit
def zs (n : Nat) : List UInt8 := List.replicate n 0
theorem infoU8' : (Tryd.prog.info? 5).map (fun i => (i.zero, i.size, i.bytes)) = some (some (.int .u8 0), 1, 1) := by kernel_rfl
theorem sizeU8 : (Tryd.prog.info? 5).map (·.size) = some 1 := by kernel_rfl
theorem mkB (n : Nat) (hn : n ≤ 281474976710656) (u : World) : (Instr.makeSlice 24 (.int .i64 (n : Int)) (.int .i64 (n : Int))).run Tryd.prog u =
      .ok (.slice (some ⟨u.heap.size, 0, none⟩) n n) (u.alloc (.cells (bys (zs n)).toArray 5)) := by
  obtain ⟨i0, hi, hz0, hz1, hz2⟩ := info_parts infoU8'
  have h := run_make (P := Tryd.prog) u 24 5 i0 (.int .u8 0) Tryd.underlying24 hi hz0 .i64 .i64 (n : Int) (n : Int) (by omega) (Int.le_refl _) (by rw [hz2]; omega) (by omega)
  have e : (n : Int).toNat = n := by omega
  have e2 : madeCells #[Value.int .u8 0] n = (bys (zs n)).toArray := by
    apply Array.ext'
    rw [toList_madeCells_one]
    simp [bys, zs]
  rw [e] at h
  rw [← e2]
  simpa [hz1, Value.cells] using h
end Go.Proofs.YtikjcmhocihmcaaDoor
namespace Go.Proofs.YtikjcmhocihmcaaDoor
open Go Go.RowKit
variable {P : Program} {w : World} {op : Oper} {a : Act} {Q : Exit → Act → World → Prop} {K : Act → World → Prop}
/-- COPY of what reads as ds onto the cells of a block from o on. -/
theorem wp_copy_blk (x y : Operand) (dT sT : TypeId) (ho : op.op = .call { callee := .builtin .copy, args := #[x, y], argTypes := #[dT, sT] })
    {elem T : TypeId} {g o n cap m c : Nat} {ad : Addr} {cs ds : List Value} (hu : P.underlying dT = some (.slice elem)) (hs : (P.info? elem).map (·.size) = some 1)
    (hx : a.eval x = .slice (some ⟨g, o, none⟩) n cap) (hy : a.eval y = .slice (some ad) m c) (hB : Blk w g T cs) (hn : ds.length = Nat.min m n)
    (hsrc : ∀ (j : Nat) (v : Value), ds[j]? = some v → w.cell? (ad.add j) = some v) (hfit : o + ds.length ≤ cs.length) (h1 : Ones ds)
    (h : ∀ w', Blk w' g T (cs.take o ++ ds ++ cs.drop (o + ds.length)) → Kp (fun b => b = g) w w' → K (a.put op.dst (goInt ds.length)) w') : op.wp P a w K Q := by
  have hr := run_copy_row (P := P) w dT sT op.type elem g o n cap ad m c cs.toArray T ds hu hs hB hn hsrc (by simpa using hfit) h1
  unfold Oper.wp execOp
  simp only [ho, resolve, invoke, builtin, Sem.run_bind, Sem.run_pure, Result.andThen_ok, List.map_toArray, List.map_cons, List.map_nil, hx, hy, hr]
  exact h _ (set_blk hB).1 (set_blk hB).2
end Go.Proofs.YtikjcmhocihmcaaDoor
