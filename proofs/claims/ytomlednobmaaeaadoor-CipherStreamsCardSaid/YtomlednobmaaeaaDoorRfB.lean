/- The reference's bytes: others. -/
import Derived.Test.YtomlednobmaaeaaDoorRfA
namespace Go.Proofs.YtomlednobmaaeaaDoor
open Go Go.RowKit
def natI (l : List Nat) : List Int := l.map (fun n : Nat => (n : Int))
abbrev i64v (l : List Nat) : List Value := kis .i64 (natI l)
theorem i64v_len (l : List Nat) : (i64v l).length = l.length := by simp [kis, natI]
theorem i64v_get {l : List Nat} {n : Nat} {x : Nat} (h : l[n]? = some x) : (i64v l)[n]? = some (.int .i64 (x : Int)) := by simp [kis, natI, h]
theorem i64v_set (l : List Nat) (n : Nat) (x : Nat) : (i64v l).set n (.int .i64 (x : Int)) = i64v (l.set n x) := by simp [kis, natI, List.map_set]
theorem tmR_lt : ∀ (f a b r : Nat), a < 256 → r < 256 → tmR f a b r < 256
  | 0, _, _, _, _, hr => hr
  | f + 1, a, b, r, ha, hr => by
    rw [tmR]
    split
    · exact hr
    · refine tmR_lt f _ _ _ (dblR_lt a ha) ?_
      split
      · exact xN_lt (n := 8) hr ha
      · exact hr
def n256 : List Nat := List.replicate 256 0
def o1 : Nat → Nat × Nat × List Nat
  | 0 => (1, 1, n256)
  | n + 1 => (tmR 8 (o1 n).1 3 0, tmR 8 (o1 n).2.1 246 0, (o1 n).2.2.set (o1 n).1 (o1 n).2.1)
theorem o1_lt : ∀ n, (o1 n).1 < 256 ∧ (o1 n).2.1 < 256 ∧ (o1 n).2.2.length = 256
  | 0 => ⟨show 1 < 256 by omega, show 1 < 256 by omega, List.length_replicate⟩
  | n + 1 => by
    have ih := o1_lt n
    exact ⟨tmR_lt _ _ _ _ ih.1 (by omega), tmR_lt _ _ _ _ ih.2.1 (by omega), by rw [o1]; simp [ih.2.2]⟩
def invs : List Nat := (o1 255).2.2
theorem invs_lt : invs.all (· < 256) = true := by decide +kernel
def rp (x k : Nat) : Nat := ((x * 2 ^ k) &&& 255) ||| (x / 2 ^ (8 - k))
def yF (x : Nat) : Nat → Nat
  | 0 => x
  | k + 1 => xN (yF x k) (rp x (k + 1))
def sbN (x : Nat) : Nat := xN (yF x 4) 99
def sbT : List Nat := invs.map sbN
theorem rp_lt {x k : Nat} (hx : x < 256) : rp x k < 256 := by
  have h1 : (x * 2 ^ k) &&& 255 < 2 ^ 8 := Nat.and_lt_two_pow _ (by omega)
  have h2 : x / 2 ^ (8 - k) < 2 ^ 8 := Nat.lt_of_le_of_lt (Nat.div_le_self _ _) hx
  exact Nat.or_lt_two_pow (n := 8) h1 h2
theorem yF_lt {x : Nat} (hx : x < 256) : ∀ k, yF x k < 256
  | 0 => hx
  | k + 1 => xN_lt (n := 8) (yF_lt hx k) (rp_lt hx)
theorem sbN_lt {x : Nat} (hx : x < 256) : sbN x < 256 := xN_lt (n := 8) (yF_lt hx 4) (by omega)
theorem info256 {l : List Nat} (h : l.length = 256) : (Tryd.prog.info? 52).map (·.size) = some (i64v l).length := by
  rw [i64v_len, h]; kernel_rfl
theorem sb_tab : sbT = (List.range 256).map fun n => (Aes.ot8 (BitVec.ofNat 8 n)).toNat := by decide +kernel
end Go.Proofs.YtomlednobmaaeaaDoor
