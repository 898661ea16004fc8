/- What the calls of package field answer, whatever an Elem is. -/
import Derived.Test.YtcnehbfcagghpaaChecked
import Derived.Test.YtcnehbfcagghpaaBlk
import Derived.Test.YtcnehbfcagghpaaNt
import Derived.Test.YtcnehbfcagghpaaInv3
namespace Go.Proofs.Ytcnehbfcagghpaa
open Go Go.RowKit
/-- Cells that are the number n. -/
def Fe (R : List Value → Nat → Prop) (cs : List Value) (n : Nat) : Prop := R cs n ∧ n < 57896044618658097711785492504343953926634992332820282019728792003956564819949 ∧ (Try.prog.info? 40).map (·.size) = some cs.length ∧ Ones cs
/-- What reading answers. -/
def readN (l : List UInt8) : Nat := if l.length = 32 then leN l % 57896044618658097711785492504343953926634992332820282019728792003956564819968 % 57896044618658097711785492504343953926634992332820282019728792003956564819949 else 0
/-- p - 2. -/
def eInv : Nat := 57896044618658097711785492504343953926634992332820282019728792003956564819947
/-- A power. -/
def powN (e m : Nat) : Nat := m ^ e % 57896044618658097711785492504343953926634992332820282019728792003956564819949
/-- The power of p - 2. -/
def invN (m : Nat) : Nat := powN eInv m
theorem powN_mul {m e : Nat} (he : e = 57896044618658097711785492504343953926634992332820282019728792003956564819949 - 2) (h : m < 57896044618658097711785492504343953926634992332820282019728792003956564819949) (h0 : 0 < m) : m * powN e m % 57896044618658097711785492504343953926634992332820282019728792003956564819949 = 1 := by
  rw [powN, Nat.mul_mod_mod]
  have := Nt.inv_one Nt.pr25519 (Nt.small_free h0 h)
  rw [he]
  exact this
theorem powN_zero {e : Nat} (he : 0 < e) : powN e 0 = 0 := by
  rw [powN, Nat.zero_pow he, Nat.zero_mod]
theorem powN_lt (e m : Nat) : powN e m < 57896044618658097711785492504343953926634992332820282019728792003956564819949 := Nat.mod_lt _ (by omega)
theorem invN_mul (m : Nat) (h : m < 57896044618658097711785492504343953926634992332820282019728792003956564819949) (h0 : 0 < m) : m * invN m % 57896044618658097711785492504343953926634992332820282019728792003956564819949 = 1 := powN_mul (by unfold eInv; omega) h h0
theorem invN_zero : invN 0 = 0 := powN_zero (by unfold eInv; omega)
theorem invN_lt (m : Nat) : invN m < 57896044618658097711785492504343953926634992332820282019728792003956564819949 := powN_lt _ _
structure Fld (R : List Value → Nat → Prop) : Prop where
  small : ∀ (n : Nat) (w : World), n < 4294967296 → Calls Try.prog 27 #[.int .u32 n] w fun e w' => ∃ cs, e = .returned (.agg cs.toArray) ∧ Fe R cs n ∧ Kp0 w w'
  read : ∀ (v : Value) (l : List UInt8) (w : World), Rd w v (bys l) → (∀ g, v.ownBlock = some g → g < w.heap.size) → Calls Try.prog 16 #[v] w fun e w' => ∃ cs, e = .returned (.tuple #[.agg cs.toArray, .bool (decide (l.length = 32))]) ∧ Fe R cs (readN l) ∧ Kp0 w w'
  bytes : ∀ (cs : List Value) (n : Nat) (w : World), Fe R cs n → Calls Try.prog 18 #[.agg cs.toArray] w fun e w' => e = .returned (.agg (bys (leB 32 n)).toArray) ∧ Kp0 w w'
  add : ∀ (cs ds : List Value) (m n : Nat) (w : World), Fe R cs m → Fe R ds n → Calls Try.prog 40 #[.agg cs.toArray, .agg ds.toArray] w fun e w' => ∃ es, e = .returned (.agg es.toArray) ∧ Fe R es ((m + n) % 57896044618658097711785492504343953926634992332820282019728792003956564819949) ∧ Kp0 w w'
  sub : ∀ (cs ds : List Value) (m n : Nat) (w : World), Fe R cs m → Fe R ds n → Calls Try.prog 41 #[.agg cs.toArray, .agg ds.toArray] w fun e w' => ∃ es, e = .returned (.agg es.toArray) ∧ Fe R es ((m + 57896044618658097711785492504343953926634992332820282019728792003956564819949 - n) % 57896044618658097711785492504343953926634992332820282019728792003956564819949) ∧ Kp0 w w'
  mul : ∀ (cs ds : List Value) (m n : Nat) (w : World), Fe R cs m → Fe R ds n → Calls Try.prog 31 #[.agg cs.toArray, .agg ds.toArray] w fun e w' => ∃ es, e = .returned (.agg es.toArray) ∧ Fe R es (m * n % 57896044618658097711785492504343953926634992332820282019728792003956564819949) ∧ Kp0 w w'
  pow : ∀ (cs : List Value) (m : Nat) (v : Value) (l : List UInt8) (w : World), Fe R cs m → Rd w v (bys l) → (∀ g, v.ownBlock = some g → g < w.heap.size) → Calls Try.prog 47 #[.agg cs.toArray, v] w fun e w' => ∃ es, e = .returned (.agg es.toArray) ∧ Fe R es (powN (leN l) m) ∧ Kp0 w w'
  inv : ∀ (cs : List Value) (m : Nat) (w : World), Fe R cs m → Calls Try.prog 32 #[.agg cs.toArray] w fun e w' => ∃ es, e = .returned (.agg es.toArray) ∧ Fe R es (invN m) ∧ Kp0 w w'
  pick : ∀ (b : Bool) (cs ds : List Value) (m n : Nat) (w : World), Fe R cs m → Fe R ds n → Calls Try.prog 48 #[.bool b, .agg cs.toArray, .agg ds.toArray] w fun e w' => e = .returned (.agg (if b then cs else ds).toArray) ∧ Kp0 w w'
end Go.Proofs.Ytcnehbfcagghpaa
