/- The reference's Turn. -/
import Derived.Test.YtomlednobmaaeaaDoorRfG
namespace Go.Proofs.YtomlednobmaaeaaDoor
open Go Go.RowKit
theorem infoB' : (Tryd.prog.info? 5).map (fun i => (i.zero, i.size, i.bytes)) = some (some (.int .u8 0), 1, 1) := by kernel_rfl
/-- Bytes xor bytes. -/
def xz (a b : List UInt8) : List UInt8 := List.zipWith kxB a b
theorem xz_take {a b : List UInt8} {n : Nat} {x y : UInt8} (ha : a[n]? = some x) (hb : b[n]? = some y) : xz (a.take (n + 1)) b = xz (a.take n) b ++ [kxB x y] := by
  obtain ⟨h1, rfl⟩ := List.getElem?_eq_some_iff.1 ha
  obtain ⟨h2, rfl⟩ := List.getElem?_eq_some_iff.1 hb
  apply List.ext_getElem?
  intro m
  unfold xz
  by_cases hm : m < n
  · rw [List.getElem?_append_left (by simp; omega), List.getElem?_zipWith, List.getElem?_zipWith, List.getElem?_take, List.getElem?_take, if_pos (by omega), if_pos hm]
  · rw [List.getElem?_append_right (by simp; omega), List.getElem?_zipWith, List.getElem?_take]
    have hl : (List.zipWith kxB (a.take n) b).length = n := by simp; omega
    rw [hl]
    by_cases e : m = n
    · subst e
      rw [if_pos (by omega), Nat.sub_self]
      simp [h1, h2]
    · rw [if_neg (by omega)]
      have : 1 ≤ m - n := by omega
      simp
      omega
theorem xz_len {a b : List UInt8} {n : Nat} (h : a.length ≤ b.length) (hn : n ≤ a.length) : (xz (a.take n) b).length = n := by
  simp [xz]
  omega
attribute [local irreducible] kxB
set_option maxRecDepth 20000 in
set_option maxHeartbeats 4000000 in
theorem rturn_any (va vb : Value) (a b : List UInt8) (w : World) (ha : Rd w va (bys a)) (hb : Rd w vb (bys b)) (hl : a.length ≤ b.length) (hs : a.length ≤ 100000) :
    Calls Tryd.prog 13 #[va, vb] w fun e w' => ∃ v, e = .returned v ∧ Own w.heap.size 5 w' v (bys (xz a b)) ∧ Kp0 w w' := by
  obtain ⟨aa, ca, rfl, hca, hca2, _⟩ := ha.shapeB
  obtain ⟨ab, cb, rfl, hcb, hcb2, _⟩ := hb.shapeB
  have HA := Lib.hid ha
  have HB := Lib.hid hb
  have HL := Lib.hid hl
  have HS := Lib.hid hs
  clear ha hb hca hcb hl hs
  go_enter Tryd.func13, Tryd.ntmps13
  go_wp2
  go_loopg [5, 6] a.length (fun g s i wr => ∃ (n : Nat), i = .int .i64 n ∧ n ≤ a.length ∧ g = a.length - n ∧ Own w.heap.size 5 wr s (bys (xz (a.take n) b)) ∧ Kp0 w wr)
  case atStart => exact ⟨0, rfl, by omega, rfl, Own.nil _ _ _, Kp.refl _ w⟩
  case round =>
    obtain ⟨n, rfl, hn, rfl, hO, hK⟩ := hrel
    have HO := Lib.hid hO
    have HK := Lib.hid hK
    clear hO hK
    by_cases h : n < a.length
    · obtain ⟨ba, oa, xa, e, _, _, _⟩ := HA.out.posB (by omega)
      simp only [Value.slice.injEq] at e
      obtain ⟨rfl, _, rfl⟩ := e
      have hlb := HL.out
      obtain ⟨bb, ob, xb, e, _, _, _⟩ := HB.out.posB (by omega)
      simp only [Value.slice.injEq] at e
      obtain ⟨rfl, _, rfl⟩ := e
      obtain ⟨x, hx⟩ : ∃ x, a[n]? = some x := ⟨_, List.getElem?_eq_getElem h⟩
      obtain ⟨y, hy⟩ : ∃ y, b[n]? = some y := ⟨_, List.getElem?_eq_getElem (by omega)⟩
      have hc1 := (HA.out.keep0 HK.out).range n _ (bys_getV hx)
      have hc2 := (HB.out.keep0 HK.out).range n _ (bys_getV hy)
      have hv := kxB_val x y
      have hna : (n : Int) < a.length := by omega
      have hnb : (n : Int) < b.length := by omega
      have HT := Lib.hid (xz_take hx hy)
      have HXL := Lib.hid (xz_len (n := n) HL.out (by omega))
      have HSS : Hid (n ≤ 100000) := Lib.hid (by have := HS.out; omega)
      clear hx hy hlb
      go_upto_region 5 with (fail)
      go_region_law (first
        | (refine step_append_any rfl (.tmp 13) (.tmp 23) 22 rfl Tryd.underlying22 infoB' rfl rfl rfl (by first | exact HO.out.keep0 ((Kp.refl _ _).drew.alloc _) | exact HO.out.keep0 (((Kp.refl _ _).alloc _).drew)) (Rd.lit _ _ _ _ 1 rfl (by omega)) (by simp [Value.oneCell']) (by rw [bys_len, HXL.out]; have := HSS.out; simp; unfold maxLen; omega) (by rw [bys_len, HXL.out]; have := HSS.out; simp; omega) (by have := HK.out.size; simp; omega) ?_; intro vx wx hox hgx))
      all_goals
        go_simp
        go_wp2
        go_roundg (a.length - (n + 1))
        case measure => omega
        case rel =>
          refine ⟨n + 1, by go_num, by omega, rfl, ?_, ?_⟩
          · rw [HT.out, bys_app]
            exact hox
          · exact HK.out.trans (((Kp.refl (fun b => w.heap.size ≤ b) wr).drew.alloc _).grown hgx (fun k hk _ => (HO.out.lt k hk).1)) (fun _ _ h => h) (fun i hi e => by omega)
    · obtain rfl : n = a.length := by omega
      rw [List.take_length] at HO
      clear h hn
      go_wp2
      go_ret
      exact ⟨_, rfl, HO.out, HK.out⟩
end Go.Proofs.YtomlednobmaaeaaDoor
