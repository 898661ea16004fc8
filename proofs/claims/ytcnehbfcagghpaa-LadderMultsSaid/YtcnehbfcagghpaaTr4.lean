/- The reference's ladder: a secret's number. Bytes and bits of a number. Nothing of the program stands here but through the bytes' reading. -/
import Derived.Test.YtcnehbfcagghpaaDbl4
import Derived.Test.YtcnehbfcagghpaaRd3m
import Derived.Test.YtcnehbfcagghpaaCurve
namespace Go.Proofs.Ytcnehbfcagghpaa
open Go Go.RowKit
/-- The bytes of a secret's number. -/
def trimB (l : List UInt8) : List UInt8 := (l.set 0 (UInt8.ofNat ((l.getD 0 0).toNat - (l.getD 0 0).toNat % 8))).set 31 (UInt8.ofNat ((l.getD 31 0).toNat % 64 + 64))
theorem Own.put {B : Nat} {e : TypeId} {w : World} {g n cap : Nat} {xs : List Value} (h : Own B e w (.slice (some ⟨g, 0, none⟩) n cap) xs) (i : Nat) (x : Value) (hi : i < n) :
    Own B e (w.setCell ⟨g, i, none⟩ x) (.slice (some ⟨g, 0, none⟩) n cap) (xs.set i x) := by
  obtain ⟨h1, h2⟩ := h
  refine ⟨by simp, .inr ?_⟩
  rcases h2 with ⟨e0, _⟩ | ⟨g2, cap2, cur, e0, hb, hh, hn, hc, hs, ht⟩
  · simp at e0
  · simp only [Value.slice.injEq, Option.some.injEq, Addr.mk.injEq] at e0
    obtain ⟨⟨rfl, _, _⟩, rfl, rfl⟩ := e0
    refine ⟨g, cap, cur.setIfInBounds i x, by simp, hb, blk_set hh i x, by simpa using hn, hc, by simpa using hs, ?_⟩
    rw [Array.toList_setIfInBounds, List.length_set, List.take_set, ht]
/-- A row of 32 bytes that the call made: its address written out. -/
theorem Own.pos32 {B : Nat} {e : TypeId} {w : World} {v : Value} {l : List UInt8} (h : Own B e w v (bys l)) (hl : l.length = 32) :
    ∃ g cap, v = .slice (some ⟨g, 0, none⟩) 32 cap ∧ B ≤ g ∧ (∀ i (hi : i < l.length), w.cell? ⟨g, i, none⟩ = some (.int .u8 ((l[i]'hi).toNat : Int))) ∧ ∀ i, w.frozen? ⟨g, i, none⟩ = false := by
  have hlen : (bys l).length = 32 := by rw [bys_len, hl]
  have hc := Own.rd h
  obtain ⟨h1, h2⟩ := h
  rw [hlen] at h2
  rcases h2 with ⟨_, h0⟩ | ⟨g, cap, cur, rfl, hb, hh, hn, hc2, hs, ht⟩
  · exfalso
    omega
  · refine ⟨g, cap, rfl, hb, fun i hi => ?_, fun i => blk_frozen hh i⟩
    obtain ⟨b3, o3, c3, e3, _, _, hcell⟩ := hc.posB (by omega)
    rw [hl] at e3
    simp only [Value.slice.injEq, Option.some.injEq, Addr.mk.injEq] at e3
    obtain ⟨⟨rfl, rfl, _⟩, _, _⟩ := e3
    have := hcell i hi
    rwa [Nat.zero_add] at this
theorem trim_first (x : Nat) (_hx : x < 256) : (((UInt8.ofNat (x - x % 8)).toNat : Nat) : Int) = (x : Int) - (x : Int) % 8 := by
  rw [UInt8.toNat_ofNat']
  omega
theorem trim_last (x : Nat) (_hx : x < 256) : (((UInt8.ofNat (x % 64 + 64)).toNat : Nat) : Int) = (x : Int) % 64 + 64 := by
  rw [UInt8.toNat_ofNat']
  omega
set_option maxRecDepth 20000 in
set_option maxHeartbeats 4000000 in
theorem trim_any (v : Value) (l : List UInt8) (w : World) (hv : Rd w v (bys l)) (hl : l.length = 32) :
    Calls Try.prog 15 #[v] w fun e w' => ∃ v', e = .returned v' ∧ Own w.heap.size 5 w' v' (bys (trimB l)) ∧ Kp0 w w' := by
  obtain ⟨ao, cap, rfl, hc1, hc2, hc3⟩ := hv.shapeB
  have HV := Lib.hid hv
  have HL := Lib.hid hl
  clear hv
  go_enter Try.func15, Try.ntmps15
  go_upto_region 2 with (at_builtin; refine wl_append_own rfl _ _ 22 rfl Try.underlying22 infoB rfl rfl rfl (Own.nil w.heap.size 5 w) HV.out (bys_one _) (by rw [bys_len]; simp [maxLen]; omega) (by rw [bys_len]; simp; omega) (Nat.le_refl _) ?_; intro v1 w1 ho hg; rw [List.nil_append] at ho; have HO := Lib.hid ho; have HK : Hid (Kp0 w w1) := Lib.hid ((Kp.refl _ w).grown hg (fun k hk _ => by cases hk)); clear ho hg)
  obtain ⟨g, cap1, rfl, hgB, hcell, hfr⟩ := HO.out.pos32 HL.out
  obtain ⟨x0, hx0⟩ : ∃ x, x = (l[0]'(by rw [HL.out]; omega)).toNat := ⟨_, rfl⟩
  obtain ⟨x31, hx31⟩ : ∃ x, x = (l[31]'(by rw [HL.out]; omega)).toNat := ⟨_, rfl⟩
  have hb0 : x0 < 256 := by rw [hx0]; exact UInt8.toNat_lt _
  have hb31 : x31 < 256 := by rw [hx31]; exact UInt8.toNat_lt _
  have hc0 := hcell 0 (by rw [HL.out]; omega)
  have hc31 := hcell 31 (by rw [HL.out]; omega)
  rw [← hx0] at hc0
  rw [← hx31] at hc31
  have hf0 := hfr 0
  have hf31 := hfr 31
  have HT : Hid (trimB l = (l.set 0 (UInt8.ofNat (x0 - x0 % 8))).set 31 (UInt8.ofNat (x31 % 64 + 64))) := Lib.hid (by
    rw [trimB, List.getD_eq_getElem?_getD, List.getElem?_eq_getElem (by rw [HL.out]; omega), List.getD_eq_getElem?_getD, List.getElem?_eq_getElem (by rw [HL.out]; omega), Option.getD_some, Option.getD_some, ← hx0, ← hx31])
  clear hx0 hx31 hcell hfr
  go_region
  all_goals
    have HW : Hid (Own w.heap.size 5 ((w1.setCell ⟨g, 0, none⟩ (.int .u8 ((x0 : Int) - (x0 : Int) % 8))).setCell ⟨g, 31, none⟩ (.int .u8 ((x31 : Int) % 64 + 64))) (.slice (some ⟨g, 0, none⟩) 32 cap1) (bys (trimB l))) := Lib.hid (by
      have h1 := (HO.out.put 0 (.int .u8 (((UInt8.ofNat (x0 - x0 % 8)).toNat : Nat) : Int)) (by omega)).put 31 (.int .u8 (((UInt8.ofNat (x31 % 64 + 64)).toNat : Nat) : Int)) (by omega)
      rw [HT.out]
      rw [trim_first x0 hb0, trim_last x31 hb31] at h1
      have e : bys ((l.set 0 (UInt8.ofNat (x0 - x0 % 8))).set 31 (UInt8.ofNat (x31 % 64 + 64))) = ((bys l).set 0 (.int .u8 (((UInt8.ofNat (x0 - x0 % 8)).toNat : Nat) : Int))).set 31 (.int .u8 (((UInt8.ofNat (x31 % 64 + 64)).toNat : Nat) : Int)) := by simp only [bys, List.map_set]
      rw [e, trim_first x0 hb0, trim_last x31 hb31]
      exact h1)
    have HK2 := Lib.hid ((HK.out.setCell (p := ⟨g, 0, none⟩) (fun hlt => absurd hlt (by simp; omega)) (.int .u8 ((x0 : Int) - (x0 : Int) % 8))).setCell (p := ⟨g, 31, none⟩) (fun hlt => absurd hlt (by simp; omega)) (.int .u8 ((x31 : Int) % 64 + 64)))
    go_wp2
    go_ret
    exact ⟨_, rfl, HW.out, HK2.out.drew⟩
end Go.Proofs.Ytcnehbfcagghpaa
namespace Go.Proofs.Ytcnehbfcagghpaa
theorem leN_byte (l : List UInt8) (q : Nat) (h : q < l.length) : (l[q]).toNat = leN l / 256 ^ q % 256 := by
  induction l generalizing q with
  | nil => simp at h
  | cons c t ih =>
    have hc := UInt8.toNat_lt c
    cases q with
    | zero => simp only [List.getElem_cons_zero, leN, Nat.pow_zero, Nat.div_one]; omega
    | succ q =>
      rw [List.getElem_cons_succ, ih q (by simpa using h), leN, Nat.pow_succ, Nat.mul_comm (256 ^ q), ← Nat.div_div_eq_div_mul, show (c.toNat + 256 * leN t) / 256 = leN t by omega]
theorem byte_bit (N q r : Nat) (hr : r < 8) : N / 256 ^ q % 256 / 2 ^ r % 2 = N / 2 ^ (8 * q + r) % 2 := by
  obtain ⟨c, hc⟩ : ∃ c, 8 = r + (1 + c) := ⟨8 - (r + 1), by omega⟩
  rw [show (256 : Nat) ^ q = 2 ^ (8 * q) by rw [Nat.pow_mul], show (256 : Nat) = 2 ^ (r + (1 + c)) by rw [← hc]]
  rw [Nat.pow_add 2 r, Nat.mod_mul_right_div_self, Nat.pow_add 2 1 c, Nat.mod_mul_right_mod, Nat.pow_one, Nat.div_div_eq_div_mul, ← Nat.pow_add]
namespace Edw
theorem bitsN_len (k n : Nat) : (bitsN k n).length = k := by
  induction k generalizing n with
  | zero => rfl
  | succ k ih => rw [bitsN, List.length_append, ih]; rfl
theorem bitsN_get (K n k : Nat) (h : k < K) : (bitsN K n)[k]? = some (n / 2 ^ (K - 1 - k) % 2 == 1) := by
  induction K generalizing n k with
  | zero => omega
  | succ K ih =>
    rw [bitsN]
    by_cases hk : k < K
    · rw [List.getElem?_append_left (by rw [bitsN_len]; exact hk), ih (n / 2) k hk, Nat.div_div_eq_div_mul, ← Nat.pow_succ', show (K - 1 - k).succ = K + 1 - 1 - k by omega]
    · have : k = K := by omega
      subst this
      rw [List.getElem?_append_right (by rw [bitsN_len]; exact Nat.le_refl _), bitsN_len, Nat.sub_self]
      simp
theorem ladN_take (p u : Nat) (l : List Bool) (k : Nat) (b : Bool) (h : l[k]? = some b) : ladN p u (l.take (k + 1)) = stpN p u (ladN p u (l.take k)) b := by
  obtain ⟨h1, rfl⟩ := List.getElem?_eq_some_iff.1 h
  unfold ladN
  rw [List.take_succ_eq_append_getElem h1, List.foldl_append]
  rfl
end Edw
end Go.Proofs.Ytcnehbfcagghpaa
