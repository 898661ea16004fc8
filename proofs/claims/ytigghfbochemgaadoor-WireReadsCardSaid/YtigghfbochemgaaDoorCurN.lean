/- The reference's reader: Names. -/
import Derived.Test.YtigghfbochemgaaDoorCur2
import Derived.Test.YtigghfbochemgaaDoorWire
import Derived.Test.YtigghfbochemgaaDoorSplit
import Derived.Test.YtigghfbochemgaaDoorReg2
import Derived.Deep.DeepCutAuto
namespace Go.Proofs.YtigghfbochemgaaDoor
open Go Go.RowKit

theorem split_snoc_comma (t : List UInt8) : splitC (t ++ [44]) = splitC t ++ [[]] := by
  induction t with
  | nil => rfl
  | cons d t ih =>
    rw [List.cons_append, splitC, splitC]
    split
    · rw [ih]; rfl
    · rw [ih]
      cases h : splitC t with
      | nil => exact absurd h (splitC_ne t)
      | cons p r => rfl
theorem split_snoc (c : UInt8) (hc : ¬ c = 44) (t : List UInt8) : ∀ (a : List (List UInt8)) (z : List UInt8), splitC t = a ++ [z] → splitC (t ++ [c]) = a ++ [z ++ [c]] := by
  induction t with
  | nil =>
    intro a z h
    cases a with
    | nil => simp [splitC] at h; subst h; simp [splitC, hc]
    | cons q a => simp [splitC] at h
  | cons d t ih =>
    intro a z h
    rw [splitC] at h
    rw [List.cons_append, splitC]
    split at h
    · rename_i hd
      rw [if_pos hd]
      cases a with
      | nil => exact absurd (List.cons.inj h).2 (splitC_ne t)
      | cons q a =>
        have h2 := (List.cons.inj h)
        rw [ih a z h2.2, ← h2.1]; rfl
    · rename_i hd
      rw [if_neg hd]
      cases hs : splitC t with
      | nil => exact absurd hs (splitC_ne t)
      | cons p r =>
        rw [hs] at h
        simp only [] at h
        cases a with
        | nil =>
          obtain ⟨h1, h2⟩ := List.cons.inj h
          subst h2
          rw [ih [] p (by rw [hs]; rfl), ← h1]; rfl
        | cons q a =>
          obtain ⟨h1, h2⟩ := List.cons.inj h
          rw [ih (p :: a) z (by rw [hs, h2]; rfl), ← h1]; rfl

theorem splitC_len (t : List UInt8) : ∀ x ∈ splitC t, x.length ≤ t.length := by
  induction t with
  | nil => intro x hx; simp [splitC] at hx; subst hx; simp
  | cons c t ih =>
    intro x hx
    rw [splitC] at hx
    split at hx
    · rcases List.mem_cons.1 hx with rfl | h
      · simp
      · have := ih x h; simp; omega
    · cases hs : splitC t with
      | nil => exact absurd hs (splitC_ne t)
      | cons p r =>
        rw [hs] at hx ih
        rcases List.mem_cons.1 hx with rfl | h
        · have := ih p (by simp); simp; omega
        · have := ih x (by simp [h]); simp; omega
theorem strs_set (a : List ByteArray) (z y : ByteArray) : (strs (a ++ [z])).set a.length (.string y) = strs (a ++ [y]) := by simp [strs]
theorem Own.set {B : Nat} {e : TypeId} {w : World} {g n cap : Nat} {xs : List Value} (h : Own B e w (.slice (some ⟨g, 0, none⟩) n cap) xs) (i : Nat) (x : Value) (hi : i < n) :
    Own B e (w.setCell ⟨g, i, none⟩ x) (.slice (some ⟨g, 0, none⟩) n cap) (xs.set i x) := by
  obtain ⟨h1, h2⟩ := h
  refine ⟨by simp, .inr ?_⟩
  rcases h2 with ⟨e0, _⟩ | ⟨g2, cap2, cur, e0, hb, hh, hn, hc, hs, ht⟩
  · simp at e0
  · simp only [Value.slice.injEq, Option.some.injEq, Addr.mk.injEq] at e0
    obtain ⟨⟨rfl, _, _⟩, rfl, rfl⟩ := e0
    refine ⟨g, cap, cur.setIfInBounds i x, by simp, hb, blk_set hh i x, by simpa using hn, hc, by simpa using hs, ?_⟩
    rw [Array.toList_setIfInBounds, List.length_set, List.take_set, ht]

theorem infoStr : (Tryd.prog.info? 9).map (fun i => (i.zero, i.size, i.bytes)) = some (some (.string .empty), 1, 16) := by kernel_rfl
theorem strs_one (l : List ByteArray) : ∀ u ∈ strs l, u.oneCell' = true := by
  intro u hu
  obtain ⟨x, _, rfl⟩ := List.mem_map.1 hu
  rfl

theorem str_take_succ (s : ByteArray) (k : Nat) (h : k < s.size) : s.toList.take (k + 1) = s.toList.take k ++ [s[k]'h] := by
  have hl : k < s.data.toList.length := by rw [Array.length_toList]; exact h
  rw [ByteArray.toList_eq, List.take_succ_eq_append_getElem hl]
  congr 2
theorem cat_one (z s : ByteArray) (k : Nat) (h : k < s.size) : (z ++ s.extract k (k + 1)).toList = z.toList ++ [s[k]'h] := by
  have hl : k < s.data.toList.length := by rw [Array.length_toList]; exact h
  rw [ByteArray.toList_eq, ByteArray.toList_eq, ByteArray.data_append, Array.toList_append, ByteArray.data_extract, Array.toList_extract]
  congr 1
  rw [List.extract_eq_take_drop, Nat.add_sub_cancel_left, List.drop_eq_getElem_cons hl]
  rfl

set_option maxRecDepth 20000 in
set_option maxHeartbeats 4000000 in
theorem names_cs (c : Nat) (v : Value) (lb : List UInt8) (st : Option (List UInt8)) (w : World) (h : Cs w c v lb st) (hlb : lb.length ≤ 140737488351232) (hc0 : ∀ g, v.ownBlock = some g → g < w.heap.size) :
    Calls Tryd.prog 17 #[.pointer (some ⟨c, 0, none⟩)] w fun e w' => ∃ x ls, e = .returned x ∧ Rd w' x (strs ls) ∧ lists ls = (namesS st).1 ∧ Cs w' c v lb (namesS st).2 ∧ Kp (At c) w w' ∧ (∀ g, x.ownBlock = some g → w.heap.size ≤ g) := by
  have H := Lib.hid h
  have hcw : c < w.heap.size := by obtain ⟨⟨n, f, h1, _⟩, _⟩ := h; exact blk_lt h1
  have HV0 := Lib.hid hc0
  clear h hc0
  go_enter Tryd.func17, Tryd.ntmps17
  go_wp2_with fail
  refine (text_cs c v lb st _ H.out hlb).mono ?_
  rintro e w1 ⟨s, rfl, ht, hc, hk⟩
  have hst : s.size ≤ 16384 := by rw [← size_toList, ht]; exact textS_len st
  have HC := Lib.hid hc
  have HK := Lib.hid hk
  have HT := Lib.hid ht
  have hs1 := hk.size
  clear hc hk ht
  by_cases h0 : 0 < s.size
  · have hne := ne_empty h0
    have HN : Hid (namesS st = if [] ∈ splitC s.toList then ([], none) else (splitC s.toList, (textS st).2)) := Lib.hid (by
      unfold namesS
      rw [← HT.out, if_neg (fun e => by have := size_toList s; rw [e] at this; simp at this; omega)])
    go_wp2
    go_loopw [4, 5] (fun lv i wr => ∃ (k : Nat) (ls : List ByteArray), i = .int .i64 k ∧ k ≤ s.size ∧ Own w1.heap.size 9 wr lv (strs ls) ∧ Hid (lists ls = splitC (s.toList.take k)) ∧ ls.length ≤ k + 1 ∧ Kp (fun b => w1.heap.size ≤ b) w1 wr) (fun _ i _ => s.size - (intOf i).toNat)
    case atStart => exact ⟨0, [.empty], rfl, Nat.zero_le _, Own.lit w1 #[.string .empty] _ 1 rfl (by decide), Lib.hid (by simp [lists, splitC]), by simp, (Kp.refl _ _).alloc _⟩
    case round =>
      obtain ⟨k, ls, rfl, hk, ho, HL, hll, hkp⟩ := hrel
      have HO := Lib.hid ho
      have HP := Lib.hid hkp
      have hs2 := hkp.size
      clear ho hkp
      by_cases h : k < s.size
      · by_cases hcm : s[k]'h = 44
        · have hb : (((s[k]'h).toNat : Int) == 44) = true := by rw [hcm]; rfl
          have HCM := Lib.hid hcm
          have hlen : (strs ls).length = ls.length := strs_len ls
          clear hcm
          go_wp2_with (at_builtin; refine wl_append_own rfl _ _ 36 rfl Tryd.underlying36 infoStr rfl rfl rfl (HO.out.keep0 ((Kp.refl _ wr).alloc _)) (Rd.lit wr #[.string .empty] 9 (0, 0) 1 rfl (by decide)) (strs_one [.empty]) (by rw [hlen]; simp [maxLen]; omega) (by rw [hlen]; simp; omega) (by simp; omega) ?_)
          intro v2 w2 ho2 hg2
          have HK2 : Hid (Kp (fun b => w1.heap.size ≤ b) w1 w2) := Lib.hid ((HP.out.alloc _).grown hg2 (fun g hg _ => (HO.out.lt g hg).1))
          have HO2 : Hid (Own w1.heap.size 9 w2 v2 (strs (ls ++ [.empty]))) := Lib.hid (by
            have := ho2
            simpa [strs] using this)
          clear ho2 hg2 hlen
          go_wp2
          go_roundw
          case rel => exact ⟨k + 1, ls ++ [.empty], by go_num, by omega, HO2.out, Lib.hid (by
            rw [str_take_succ s k h, HCM.out, split_snoc_comma, ← HL.out]
            simp [lists]), by simp; omega, HK2.out⟩
          case measure => simp [intOf]; omega
        · have hb : (((s[k]'h).toNat : Int) == 44) = false := by
            rw [beq_eq_false_iff_ne]; intro e; exact hcm (UInt8.toNat_inj.1 (by show _ = 44; omega))
          have HCM := Lib.hid hcm
          clear hcm
          obtain ⟨a, z, rfl⟩ : ∃ a z, ls = a ++ [z] := by
            rcases List.eq_nil_or_concat ls with e | ⟨a, z, e⟩
            · exfalso
              have := HL.out
              rw [e] at this
              exact splitC_ne _ this.symm
            · exact ⟨a, z, by rw [e, List.concat_eq_append]⟩
          have hsl : (strs (a ++ [z])).length = a.length + 1 := by simp [strs]
          obtain ⟨_, hrow⟩ := id HO.out
          rcases hrow with ⟨_, e0⟩ | ⟨g, cap, cur, rfl, hgb, hh, hn, hcap, hs, htk⟩
          · rw [hsl] at e0; omega
          · have hcl : wr.cell? ⟨g, a.length, none⟩ = some (.string z) := by
              have := World.ownsRow.cells (g := g) HO.out rfl a.length (.string z) (by simp [strs])
              rwa [Addr.add_lit, Nat.zero_add] at this
            have hfz : wr.frozen? ⟨g, a.length, none⟩ = false := blk_frozen hh a.length
            rw [hsl] at HO hn ⊢
            have hll2 : a.length ≤ k := by simp at hll; omega
            have HSET := Lib.hid (fun x => HO.out.set a.length x (Nat.lt_succ_self _))
            have hcap2 : cap ≤ 9223372036854775807 := hcap
            have hk1 : k + 1 ≤ s.size := by omega
            have hzs : z.size ≤ 16384 := by
              have h2 := splitC_len (s.toList.take k) z.toList (by rw [← HL.out]; simp [lists])
              rw [size_toList] at h2
              simp at h2
              omega
            have hes : (s.extract k (k + 1)).size = 1 := by rw [ByteArray.size_extract]; omega
            have hzz : (z ++ s.extract k (k + 1)).size ≤ 16385 := by rw [ByteArray.size_append, hes]; omega
            obtain ⟨y, hy⟩ : ∃ y, y = s.extract k (k + 1) := ⟨_, rfl⟩
            have HY := Lib.hid hy
            have hzy : z.size + y.size ≤ 9223372036854775807 := by rw [hy, hes]; omega
            have hzy2 : (z ++ y).size ≤ 9223372036854775807 := by rw [ByteArray.size_append]; exact hzy
            clear hy
            clear hh hcap hs htk hsl hll
            go_upto_region 10 with (fail)
            go_region
            have HO2 : Hid (Own w1.heap.size 9 (wr.drew.setCell ⟨g, a.length, none⟩ (.string (z ++ s.extract k (k + 1)))) (.slice (some ⟨g, 0, none⟩) (a.length + 1) cap) (strs (a ++ [z ++ s.extract k (k + 1)]))) := Lib.hid (by
              rw [← strs_set a z]; exact HSET.out _)
            have HK2 : Hid (Kp (fun b => w1.heap.size ≤ b) w1 (wr.drew.setCell ⟨g, a.length, none⟩ (.string (z ++ s.extract k (k + 1))))) := Lib.hid (HP.out.drew.setCell (fun _ => hgb) _)
            go_wp2
            go_roundw
            case rel => exact ⟨k + 1, a ++ [z ++ s.extract k (k + 1)], by go_num, by omega, HO2.out, Lib.hid (by
              rw [str_take_succ s k h, split_snoc _ HCM.out _ (lists a) z.toList (by rw [← HL.out]; simp [lists])]
              simp [lists, cat_one z s k h]), by simp; omega, HK2.out⟩
            case measure => simp [intOf]; omega
      · have e0 : s.toList.take k = s.toList := List.take_of_length_le (by rw [size_toList]; omega)
        rw [e0] at HL
        clear e0
        obtain ⟨ao, cap, rfl, hc1, hc2, hc3⟩ := HO.out.rd.shapeS
        have hfr : Hid (∀ g, (Value.slice ao ls.length cap).ownBlock = some g → w.heap.size ≤ g) := Lib.hid (fun g hg => by have := (HO.out.lt g hg).1; omega)
        have HRD := Lib.hid HO.out.rd
        have HC2 : Hid (Cs wr c v lb (textS st).2) := Lib.hid (HC.out.keep HP.out (fun h => by omega) (fun g hg _ h => by have := HV0.out g hg; omega))
        have HKK : Hid (Kp (At c) w wr) := Lib.hid (HK.out.trans HP.out (fun _ _ h => h) (fun i hi (h : w1.heap.size ≤ i) => by omega))
        clear HO
        go_wp2
        go_loop [6] (fun i => ∃ j : Nat, i = .int .i64 j ∧ j ≤ ls.length ∧ Hid (∀ x ∈ ls.take j, 0 < x.size)) (fun i => ls.length - (intOf i).toNat)
        case atStart => exact ⟨0, rfl, Nat.zero_le _, Lib.hid (by simp)⟩
        case round =>
          obtain ⟨j, rfl, hj, HJ⟩ := hrel
          by_cases hjl : j < ls.length
          · obtain ⟨b8, o8, c8, e8, _, _, hcell⟩ := HRD.out.posS (by omega)
            simp only [Value.slice.injEq] at e8
            obtain ⟨rfl, _, rfl⟩ := e8
            have hck := hcell j hjl
            obtain ⟨x, hxx⟩ : ∃ x, x = ls[j]'hjl := ⟨_, rfl⟩
            have HX := Lib.hid hxx
            rw [← hxx] at hck
            clear hcell hxx
            by_cases hx0 : 0 < x.size
            · have hxe := ne_empty hx0
              go_wp2
              go_round
              case rel => exact ⟨j + 1, by go_num, by omega, Lib.hid (fun y hy => by
                rw [List.take_succ_eq_append_getElem hjl] at hy
                rcases List.mem_append.1 hy with h1 | h1
                · exact HJ.out y h1
                · simp at h1; rw [h1, ← HX.out]; exact hx0)⟩
              case measure => simp [intOf]; omega
            · have hxe := toList_nil hx0
              have HNN : Hid (namesS st = ([], none)) := Lib.hid (by
                rw [HN.out, if_pos]
                rw [← HL.out]
                exact List.mem_map.2 ⟨x, by rw [HX.out]; exact List.getElem_mem hjl, hxe⟩)
              obtain ⟨hcf, hkf, hfz⟩ := HC2.out.fail
              have hbad := HC2.out.bad
              have HCF := Lib.hid hcf
              have HKF := Lib.hid hkf
              clear hcf hkf
              go_wp2
              go_ret
              rw [HNN.out]
              exact ⟨_, rfl, [], Rd.nil _, rfl, HCF.out, HKK.out.tr HKF.out, by simp [Value.ownBlock]⟩
          · have hje : ls.take j = ls := List.take_of_length_le (by omega)
            rw [hje] at HJ
            have HNN : Hid (namesS st = (splitC s.toList, (textS st).2)) := Lib.hid (by
              rw [HN.out, if_neg]
              rw [← HL.out]
              intro hm
              obtain ⟨y, hy, e⟩ := List.mem_map.1 hm
              have h1 := HJ.out y hy
              have h2 := size_toList y
              rw [e] at h2
              simp at h2
              omega)
            clear hje
            go_wp2
            go_ret
            rw [HNN.out]
            exact ⟨_, rfl, ls, HRD.out, HL.out, HC2.out, HKK.out, hfr.out⟩
  · have hne := toList_nil h0
    have hem : s = .empty := str_ext (by rw [hne]; exact nil_toList.symm)
    have HN : Hid (namesS st = ([], (textS st).2)) := Lib.hid (by
      unfold namesS
      rw [← HT.out, hne, if_pos rfl])
    go_wp2
    go_ret
    rw [HN.out]
    exact ⟨_, [], rfl, Rd.nil _, rfl, HC.out, HK.out, by simp [Value.ownBlock]⟩
end Go.Proofs.YtigghfbochemgaaDoor
