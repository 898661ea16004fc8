/- The reader's other calls: bytes, names, and a reader that is none. -/
import Derived.Test.YtigghfbochemgaaDoorRead
import Derived.Test.YtigghfbochemgaaDoorJoin
import Derived.Test.YtigghfbochemgaaDoorSplit
namespace Go.Proofs.YtigghfbochemgaaDoor
open Go Go.RowKit

def headNat : List UInt8 → Nat
  | [] => 0
  | c :: _ => c.toNat
def byteS (st : Option (List UInt8)) : Nat × Option (List UInt8) := (headNat (takeS st 1).1, (takeS st 1).2)
theorem headNat_get (s : ByteArray) (h : 0 < s.size) : headNat s.toList = (s[0]'h).toNat := by rw [str_get0 s h]; rfl
theorem headNat_lt (l : List UInt8) : headNat l < 256 := by
  cases l with
  | nil => decide
  | cons c l => exact c.toNat_lt

theorem byte_rs (b : Nat) (st : Option (List UInt8)) (w : World) (h : Rs w b st) :
    Calls Tryd.prog 8 #[.pointer (some ⟨b, 0, none⟩)] w fun e w' => e = .returned (.int .u8 ((byteS st).1 : Int)) ∧ Rs w' b (byteS st).2 ∧ Kp (At b) w w' := by
  have H := Lib.hid h
  clear h
  go_enter Tryd.func8, Tryd.ntmps8
  go_wp2_with fail
  refine (take_rb b 1 st _ H.out).mono ?_
  rintro e w' ⟨t, rfl, ht, hr, hk⟩
  have HR := Lib.hid hr
  have HT := Lib.hid ht
  clear hr ht
  by_cases h : 0 < t.size
  · have hne := ne_empty h
    have HG := Lib.hid (headNat_get t h)
    go_wp2
    go_ret
    have e : (byteS st).1 = (t[0]'h).toNat := by unfold byteS; rw [← HT.out, HG.out]
    exact ⟨by rw [e]; rfl, HR.out, hk⟩
  · have hne := toList_nil h
    have HN := Lib.hid hne
    go_wp2
    go_ret
    exact ⟨by unfold byteS; rw [← HT.out, HN.out]; rfl, HR.out, hk⟩

theorem flag_rs (b : Nat) (st : Option (List UInt8)) (w : World) (h : Rs w b st) :
    Calls Tryd.prog 10 #[.pointer (some ⟨b, 0, none⟩)] w fun e w' => e = .returned (.bool (decide (¬ (byteS st).1 = 0))) ∧ Rs w' b (byteS st).2 ∧ Kp (At b) w w' := by
  have H := Lib.hid h
  clear h
  obtain ⟨n, hn⟩ : ∃ n, n = (byteS st).1 := ⟨_, rfl⟩
  have HN := Lib.hid hn
  clear hn
  by_cases h0 : n = 0
  all_goals
    first
      | (have hb : ((n : Int) != 0) = false := by rw [h0]; rfl)
      | (have hb : ((n : Int) != 0) = true := by rw [bne_iff_ne]; omega)
    have H0 := Lib.hid h0
    clear h0
    go_enter Tryd.func10, Tryd.ntmps10
    go_wp2_with fail
    refine (byte_rs b st _ H.out).mono ?_
    rintro e w' ⟨rfl, hr, hk⟩
    have HR := Lib.hid hr
    clear hr
    rw [← HN.out]
    go_wp2
    go_ret
    exact ⟨by rw [← HN.out]; have := H0.out; simp [this], HR.out, hk⟩

theorem bytes_rs (b : Nat) (n : Int) (st : Option (List UInt8)) (w : World) (h : Rs w b st) (hl : (takeS st n).1.length ≤ 9223372036854775807) :
    Calls Tryd.prog 20 #[.pointer (some ⟨b, 0, none⟩), .int .i64 n] w fun e w' => ∃ v, e = .returned v ∧ Rd w' v (bys (takeS st n).1) ∧ Rs w' b (takeS st n).2 ∧ Kp (At b) w w' ∧ (∀ g, v.ownBlock = some g → w.heap.size ≤ g) := by
  have H := Lib.hid h
  clear h
  go_enter Tryd.func20, Tryd.ntmps20
  go_wp2_with fail
  refine (take_rb b n st _ H.out).mono ?_
  rintro e w1 ⟨t, rfl, ht, hr, hk⟩
  have HR := Lib.hid hr
  have hst : t.size ≤ 9223372036854775807 := by rw [← size_toList, ht]; exact hl
  have HT := Lib.hid ht
  have hsz := hk.size
  clear hr ht
  go_wp2_with (refine wl_bytes_of_str (o := ⟨some 8, _, _, _, _, _⟩) rfl _ 9 22 5 rfl Tryd.underlying9 Tryd.underlying22 Tryd.underlying5 t rfl hst ?_)
  intro cap w2 hrd hg
  have HD := Lib.hid hrd
  clear hrd
  have hk2 := (Kp.refl (At b) w1).grown hg (by simp)
  go_wp2
  go_ret
  exact ⟨_, rfl, by rw [← HT.out]; exact HD.out, HR.out.keep ((Kp.refl (fun _ => False) w1).grown hg (by simp)) (fun h => h), hk.tr hk2, by simp [Value.ownBlock]; omega⟩

/-- The library's largest needle stands where it stood. -/
def Gm (w : World) : Prop := ∃ m, w.cell? ⟨0, 0, none⟩ = some (.int .i64 m)
theorem Gm.keep {S : Nat → Prop} {w w' : World} (h : Gm w) (hk : Kp S w w') (hs : ¬ S 0) : Gm w' := by obtain ⟨m, hm⟩ := h; exact ⟨m, hk.cell hm hs⟩

theorem split_any (s : ByteArray) (w : World) (hg : Gm w) (hs : s.size ≤ 16384) :
    Calls Tryd.prog 30 #[.string s, .string { data := #[44] }] w fun e w' => ∃ n ls, e = .returned (.slice (some ⟨w.heap.size, 0, none⟩) n n) ∧ ls.length = n ∧ n ≤ 16386 ∧ lists ls = splitC s.toList ∧ Rd w' (.slice (some ⟨w.heap.size, 0, none⟩) n n) (strs ls) ∧ Kp0 w w' := by
  obtain ⟨m, hm⟩ := hg
  refine (Tryd.strings_Split s _ m w (by omega) hm (by decide)).mono ?_
  rintro e w' ⟨rfl, rfl⟩
  have hd := Lib.splitB_data ({ data := #[44] } : ByteArray) 0 (Lib.countB s { data := #[44] }) s
  have hc : Lib.countB s { data := #[44] } = Lib.count s.data.toList [44] := rfl
  rw [comma_list, hc, splitK_comma _ _ (Nat.le_refl _), ← ByteArray.toList_eq] at hd
  have hl : lists (Lib.splitB { data := #[44] } 0 (Lib.count s.toList [44]) s) = splitC s.toList := by rw [← hd, lists_data]
  have hn := count_len _ s.toList (Nat.le_refl _)
  rw [← ByteArray.toList_eq] at hc
  have hlen : (Lib.splitB { data := #[44] } 0 (Lib.count s.toList [44]) s).length = Lib.count s.toList [44] + 1 := by
    rw [hn, ← hl]; simp [lists]
  have hcl := Lib.count_le s.toList [44]
  rw [size_toList] at hcl
  rw [hc]
  refine ⟨_, Lib.splitB { data := #[44] } 0 (Lib.count s.toList [44]) s, rfl, hlen, by omega, hl, ?_, (Kp.refl _ w).alloc _⟩
  have := Rd.lit w ((Lib.splitB { data := #[44] } 0 (Lib.count s.toList [44]) s).map Value.string).toArray 9 (0, 0) (Lib.count s.toList [44] + 1) (by simp [hlen]) (by omega)
  simpa [strs] using this

def namesS (st : Option (List UInt8)) : List (List UInt8) × Option (List UInt8) :=
  if (textS st).1 = [] then ([], (textS st).2) else if [] ∈ splitC (textS st).1 then ([], none) else (splitC (textS st).1, (textS st).2)

set_option maxHeartbeats 1000000 in
theorem names_rs (b : Nat) (st : Option (List UInt8)) (w : World) (h : Rs w b st) (hg : Gm w) (hb : ¬ b = 0) :
    Calls Tryd.prog 16 #[.pointer (some ⟨b, 0, none⟩)] w fun e w' => ∃ v ls, e = .returned v ∧ Rd w' v (strs ls) ∧ lists ls = (namesS st).1 ∧ Rs w' b (namesS st).2 ∧ Kp (At b) w w' ∧ (∀ g, v.ownBlock = some g → w.heap.size ≤ g) := by
  have H := Lib.hid h
  have HGm := Lib.hid hg
  clear h hg
  go_enter Tryd.func16, Tryd.ntmps16
  go_wp2_with fail
  refine (text_rs b st _ H.out).mono ?_
  rintro e w1 ⟨t, rfl, ht, hr, hk⟩
  have HR := Lib.hid hr
  have hst : t.size ≤ 16384 := by rw [← size_toList, ht]; exact textS_len st
  have HT := Lib.hid ht
  have hsz := hk.size
  have HK := Lib.hid hk
  clear hr ht hk
  by_cases h : 0 < t.size
  · have hne := ne_empty h
    have HNE := Lib.hid (toList_ne h)
    go_wp2_with fail
    refine (split_any t w1 (HGm.out.keep HK.out (fun e => hb e.symm)) hst).mono ?_
    rintro e w2 ⟨n, ls, rfl, hln, hn, hls, hrd, hk2⟩
    have HLS := Lib.hid hls
    have HRD := Lib.hid hrd
    have HK2 := Lib.hid hk2
    have HLN := Lib.hid hln
    clear hls hrd hk2 hln
    go_wp2
    go_loop [15] (fun i => ∃ k : Nat, i = .int .i64 k ∧ k ≤ n ∧ Hid (∀ x ∈ ls.take k, 0 < x.size)) (fun i => n - (intOf i).toNat)
    case atStart => exact ⟨0, rfl, Nat.zero_le _, Lib.hid (by simp)⟩
    case round =>
      obtain ⟨k, rfl, hkn, HF⟩ := hrel
      by_cases hk : k < n
      · have hkl : k < ls.length := by have := HLN.out; omega
        obtain ⟨b1, o1, c1, e, _, _, hcell⟩ := HRD.out.posS (by omega)
        simp only [Value.slice.injEq, Option.some.injEq, Addr.mk.injEq] at e
        obtain ⟨⟨rfl, rfl, _⟩, _, _⟩ := e
        have hck := hcell k hkl
        simp only [Nat.zero_add] at hck
        clear hcell
        obtain ⟨x, hx⟩ : ∃ x, x = ls[k]'hkl := ⟨_, rfl⟩
        rw [← hx] at hck
        have HX := Lib.hid hx
        clear hx
        by_cases hx0 : 0 < x.size
        · have hxe := ne_empty hx0
          go_wp2
          go_round
          case rel => exact ⟨k + 1, by go_num, by omega, Lib.hid (by
            rw [List.take_succ_eq_append_getElem hkl]
            intro y hy
            rcases List.mem_append.1 hy with h1 | h1
            · exact HF.out y h1
            · simp at h1; subst h1; rw [← HX.out]; exact hx0)⟩
          case measure => simp [intOf]; omega
        · have hxe := toList_nil hx0
          have HXE := Lib.hid hxe
          go_wp2_with fail
          refine (fail_rs b _ w2 (HR.out.keep HK2.out (fun h => h))).mono ?_
          rintro e w3 ⟨rfl, hr3, hk3⟩
          have HR3 := Lib.hid hr3
          clear hr3
          have HNS : Hid (namesS st = ([], none)) := Lib.hid (by
            unfold namesS
            rw [← HT.out, if_neg HNE.out, if_pos]
            rw [← HLS.out, ← HXE.out, HX.out]
            exact List.mem_map.2 ⟨_, List.getElem_mem hkl, rfl⟩)
          go_wp2
          go_ret
          exact ⟨_, [], rfl, Rd.nil _, by rw [HNS.out]; rfl, by rw [HNS.out]; exact HR3.out, (HK.out.tr (HK2.out.nil _)).tr hk3, by simp [Value.ownBlock]⟩
      · have HNS : Hid (namesS st = (splitC t.toList, (textS st).2)) := Lib.hid (by
          unfold namesS
          rw [← HT.out, if_neg HNE.out, if_neg]
          rw [← HLS.out]
          intro hm
          obtain ⟨y, hy, h0⟩ := List.mem_map.1 hm
          have h1 := HF.out y (by rw [List.take_of_length_le (by have := HLN.out; omega)]; exact hy)
          have h2 := size_toList y
          rw [h0] at h2
          simp at h2
          omega)
        go_wp2
        go_ret
        exact ⟨_, rfl, ls, HRD.out, by rw [HNS.out]; exact HLS.out, by rw [HNS.out]; exact HR.out.keep HK2.out (fun h => h), HK.out.tr (HK2.out.nil _), by simp [Value.ownBlock]; omega⟩
  · have hne := toList_nil h
    have HNS : Hid (namesS st = ([], (textS st).2)) := Lib.hid (by unfold namesS; rw [← HT.out, if_pos hne])
    go_wp2
    go_ret
    exact ⟨_, [], rfl, Rd.nil _, by rw [HNS.out]; rfl, by rw [HNS.out]; exact HR.out, HK.out, by simp [Value.ownBlock]⟩
end Go.Proofs.YtigghfbochemgaaDoor
