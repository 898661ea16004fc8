/- The law FrameBack: its walk. -/
import Derived.Test.YtdjknljhpbebiaaDoorRefE
import Derived.Test.YtdjknljhpbebiaaDoorFSe
import Derived.Test.YtdjknljhpbebiaaDoorUtf
namespace Go.Proofs.YtdjknljhpbebiaaDoor
open Go Go.RowKit
/-- n mod d, at least 0. -/
theorem mod_posB (n : Int) (d : Nat) (hd : 0 < d) : ∃ (q : Int) (m : Nat), n.tmod (d : Int) = q ∧ -(d : Int) < q ∧ q < d ∧ (q + (d : Int)).tmod (d : Int) = (m : Int) ∧ (q + (d : Int)) % (d : Int) = (m : Int) ∧ m < d := by
  have hk : (0 : Int) < (d : Int) := by omega
  have h1 : n.tmod (d : Int) < (d : Int) := Int.tmod_lt_of_pos n hk
  have h2 : -(d : Int) < n.tmod (d : Int) := by
    have := Int.tmod_lt_of_pos (-n) hk
    rw [Int.neg_tmod] at this
    omega
  have h3 : 0 ≤ n.tmod (d : Int) + (d : Int) := by omega
  have h4 := Int.emod_nonneg (n.tmod (d : Int) + (d : Int)) (by omega : (d : Int) ≠ 0)
  have h5 := Int.emod_lt_of_pos (n.tmod (d : Int) + (d : Int)) hk
  refine ⟨_, ((n.tmod (d : Int) + (d : Int)) % (d : Int)).toNat, rfl, by omega, by omega, ?_, by omega, by omega⟩
  rw [Int.tmod_eq_emod_of_nonneg h3]
  omega
/-- What a range has passed holds no such byte. -/
def No93 (s : ByteArray) (pos : Nat) : Prop := ∀ j (h : j < s.size), j < pos → ¬ s[j]'h = 93
theorem No93.step {s : ByteArray} {pos : Nat} (h : No93 s pos) (hp : pos < s.size) (hc : ¬ s[pos]'hp = 93) : No93 s (pos + (Utf8.decode s pos).2) := by
  intro j hj hlt
  by_cases h1 : j < pos
  · exact h j hj h1
  · by_cases h2 : j = pos
    · subst h2; exact hc
    · have := decode_tail s pos (j - pos) (by omega) (by omega)
      rw [show pos + (j - pos) = j by omega, get_bang s j hj] at this
      intro e
      rw [e] at this
      exact absurd this (by decide)
theorem No93.all {s : ByteArray} {pos : Nat} (h : No93 s pos) (hp : ¬ pos < s.size) : 93 ∉ s.toList := by
  intro hm
  obtain ⟨j, hj, e⟩ := List.getElem_of_mem hm
  have hl := size_toList s
  have hj2 : j < s.size := by omega
  refine h j hj2 (by omega) ?_
  rw [← e]
  have h3 : s.toList = s.data.toList := ByteArray.toList_eq s
  simp only [h3]
  rfl
def txt (lb : List ByteArray) : List (List UInt8) := lb.map ByteArray.toList
theorem txt_take_succ {lb : List ByteArray} {k : Nat} (h : k < lb.length) : (txt lb).take (k + 1) = (txt lb).take k ++ [(lb[k]'h).toList] := by
  rw [List.take_succ_eq_append_getElem (by simpa [txt] using h)]
  simp [txt]
structure BInv (ch : Bool) (lb : List ByteArray) (ta : ByteArray) (k : Nat) : Prop where
  eq : ta.toList = encAll ch ((txt lb).take k)
  good : ∀ s ∈ (txt lb).take k, Good ch s
  sz : ta.size ≤ 26000
theorem encS_le (s : List UInt8) (ch : Bool) (h : s.length ≤ 5000) : (encS s ch).length ≤ 5012 := by
  unfold encS
  cases ch with
  | false =>
    rw [if_neg (by decide), List.length_append]
    show s.length + 6 ≤ _
    omega
  | true =>
    rw [if_pos rfl]
    split
    · simp
    · have := digits_len (u := s.length) (by omega)
      simp only [List.length_append, List.length_cons, List.length_nil]
      omega
theorem BInv.step {ch : Bool} {lb : List ByteArray} {ta t : ByteArray} {k : Nat} (h : BInv ch lb ta k) (hk : k < lb.length) (hg : Good ch (lb[k]'hk).toList) (ha : ta.size ≤ 20000) (ht : t.toList = encS (lb[k]'hk).toList ch) : BInv ch lb (ta ++ t) (k + 1) := by
  have hl := encS_le _ ch hg.len
  have h1 : t.size ≤ 5012 := by rw [← size_toList, ht]; exact hl
  refine ⟨?_, ?_, by rw [ByteArray.size_append]; omega⟩
  · rw [app_toList, h.eq, ht, txt_take_succ hk, encAll_app, encAll_cons, encAll_nil, List.append_nil]
  · intro s hs
    rw [txt_take_succ hk, List.mem_append, List.mem_singleton] at hs
    rcases hs with hs | rfl
    · exact h.good s hs
    · exact hg
structure AllOk (ch : Bool) (lb : List ByteArray) (ta : ByteArray) : Prop where
  eq : ta.toList = encAll ch (txt lb)
  good : ∀ s ∈ txt lb, Good ch s
  sz : ta.size ≤ 26000
theorem BInv.all {ch : Bool} {lb : List ByteArray} {ta : ByteArray} (h : BInv ch lb ta lb.length) : AllOk ch lb ta := by
  have e : (txt lb).take lb.length = txt lb := List.take_of_length_le (by simp [txt])
  have h1 := h.eq
  have h2 := h.good
  rw [e] at h1 h2
  exact ⟨h1, h2, h.sz⟩
structure LInv (ch : Bool) (lb : List ByteArray) (tr : ByteArray) (k : Nat) (W M : List UInt8) : Prop where
  sync : Sync ch W M tr.toList ((txt lb).drop k)
  fin : tr.toList = [] → (txt lb).drop k = []
  le : k ≤ lb.length
theorem AllOk.drop {ch : Bool} {lb : List ByteArray} {ta : ByteArray} (h : AllOk ch lb ta) (k : Nat) : (encAll ch ((txt lb).drop k)).length ≤ 26000 ∧ ∀ s ∈ (txt lb).drop k, Good ch s := by
  have h1 : (encAll ch (txt lb)).length ≤ 26000 := by rw [← h.eq, size_toList]; exact h.sz
  rw [← List.take_append_drop k (txt lb), encAll_app, List.length_append] at h1
  exact ⟨by omega, fun s hs => h.good s (List.mem_of_mem_drop hs)⟩
theorem encS_big (s : List UInt8) (ch : Bool) (h : ch = true → s ≠ []) : 4 ≤ (encS s ch).length := by
  cases ch with
  | false =>
    show 4 ≤ (s ++ endM).length
    rw [List.length_append]
    show 4 ≤ s.length + 6
    omega
  | true =>
    rw [encS_chunk (h rfl), List.length_append]
    show 4 ≤ _ + 4
    omega
theorem sync_bd {ch : Bool} {W M R : List UInt8} {ls : List (List UInt8)} (h : Sync ch W M R ls) (hl : (encAll ch ls).length ≤ 26000) (hg : ∀ s ∈ ls, Good ch s) : W.length + R.length ≤ 26000 ∧ M.length ≤ 5000 := by
  rcases h with ⟨rfl, h2⟩ | ⟨rfl, s, rest, rfl, rfl, h4⟩
  · have := congrArg List.length h2
    rw [List.length_append] at this
    exact ⟨by omega, by simp⟩
  · have := congrArg List.length h4
    have gs := hg M (by simp)
    have h5 := encS_big M true gs.ne
    rw [encAll_cons, List.length_append] at hl
    simp only [List.length_append, List.length_cons, List.length_nil] at this
    exact ⟨by omega, gs.len⟩
theorem AllOk.start {ch : Bool} {lb : List ByteArray} {ta : ByteArray} (h : AllOk ch lb ta) : LInv ch lb ta 0 [] [] := by
  refine ⟨.inl ⟨rfl, by rw [List.drop_zero, List.nil_append]; exact h.eq⟩, fun h0 => ?_, Nat.zero_le _⟩
  have h1 := h.eq
  rw [h0] at h1
  rw [List.drop_zero]
  cases hl : txt lb with
  | nil => rfl
  | cons s rest =>
    rw [hl, encAll_cons] at h1
    have gs := h.good s (by rw [hl]; simp)
    have h5 := encS_big s ch gs.ne
    have := congrArg List.length h1
    rw [List.length_append] at this
    simp at this
    omega
theorem LInv.size {ch : Bool} {lb : List ByteArray} {ta tr : ByteArray} {k : Nat} {W M : List UInt8} (h : LInv ch lb tr k W M) (ha : AllOk ch lb ta) : tr.size ≤ 26000 := by
  have h1 := (sync_bd h.sync (ha.drop k).1 (ha.drop k).2).1
  rw [size_toList] at h1
  omega
theorem LInv.done {ch : Bool} {lb : List ByteArray} {tr : ByteArray} {k : Nat} {W M : List UInt8} (h : LInv ch lb tr k W M) (hz : tr.size = 0) : k = lb.length := by
  have h1 := h.fin (List.eq_nil_of_length_eq_zero (by rw [size_toList]; exact hz))
  have := congrArg List.length h1
  rw [List.length_drop] at this
  simp [txt] at this
  have := h.le
  omega
set_option maxRecDepth 20000 in
set_option maxHeartbeats 4000000 in
theorem fback_walk (v : Value) (lb : List ByteArray) (ch : Bool) (step : Int) (w : World) (hg : Gw w) (hv : Rd w v (strs lb)) (hb : ∀ x ∈ lb, x.size ≤ 140737488351232) :
    Calls Tryd.prog 4 #[v, .bool ch, .int .i64 step] w fun e w' => e = .returned (.bool true) ∧ Kp0 w w' := by
  have HG := Lib.hid hg
  have HV := Lib.hid hv
  have HB := Lib.hid hb
  obtain ⟨ao, cap, rfl, hc1, hc2, -⟩ := hv.shapeS
  have hli : (lb.length : Int) ≤ 9223372036854775807 := by omega
  clear hg hv hb hc2
  go_enter Tryd.func4, Tryd.ntmps4
  go_wp2_with fail
  refine (fit_any _ HG.out).mono ?_
  rintro e w1 ⟨rfl, hk⟩
  have HK1 := Lib.hid hk
  have HB0 : Hid (BInv ch lb { data := #[] } 0) := Lib.hid ⟨by rw [lit_toList]; simp [encAll], by simp, by decide⟩
  clear hk
  go_wp2
  go_loopg [7, 9, 10, 20] lb.length (fun gg al s x i wr => ∃ (k : Nat) (ta : ByteArray), al = .string ta ∧ i = .int .i64 k ∧ gg = lb.length - k ∧ k ≤ lb.length ∧ BInv ch lb ta k ∧ Kp0 w wr)
  case atStart => exact ⟨0, _, rfl, rfl, rfl, Nat.zero_le _, HB0.out, HK1.out⟩
  case round =>
    obtain ⟨k, ta, rfl, rfl, rfl, hkl, hi, hkp⟩ := hrel
    have HI := Lib.hid hi
    have HK := Lib.hid hkp
    have hta : (ta.size : Int) ≤ 26000 := by have := hi.sz; omega
    clear hi hkp HB0
    by_cases h : k < lb.length
    · have hi2 : (k : Int) < lb.length := by omega
      obtain ⟨gb, go, cp, ev, -, -, hcell⟩ := (HV.out.keep0 HK.out).posS (by omega)
      simp only [Value.slice.injEq] at ev
      obtain ⟨rfl, -, rfl⟩ := ev
      have hcx := hcell k h
      clear hcell
      obtain ⟨x, hx⟩ : ∃ x, x = lb[k] := ⟨_, rfl⟩
      have HX : Hid (∃ h : k < lb.length, x = lb[k]'h) := Lib.hid ⟨h, hx⟩
      have hxs : (x.size : Int) ≤ 140737488351232 := by have := HB.out lb[k] (List.getElem_mem h); rw [hx]; omega
      rw [← hx] at hcx
      clear hx
      by_cases h5 : 5000 < x.size
      · have h5i : (5000 : Int) < x.size := by omega
        clear h5 h
        go_wp2
        all_goals go_ret
        all_goals exact ⟨rfl, HK.out⟩
      · have h5i : ¬ (5000 : Int) < x.size := by omega
        by_cases h2 : 20000 < ta.size
        · have h2i : (20000 : Int) < ta.size := by omega
          clear h5 h h2
          go_wp2
          all_goals go_ret
          all_goals exact ⟨rfl, HK.out⟩
        · have h2i : ¬ (20000 : Int) < ta.size := by omega
          have HSZ : Hid (x.size ≤ 5000 ∧ ta.size ≤ 20000) := Lib.hid (by omega)
          clear h5 h h2
          cases ch with
          | true =>
            by_cases h0 : x.toList = []
            · have h0e : x.toList.isEmpty = true := by simpa using h0
              clear h0
              go_wp2
              all_goals go_ret
              all_goals exact ⟨rfl, HK.out⟩
            · have h0e : x.toList.isEmpty = false := by simpa using h0
              have HGd : Hid (Good true x.toList) := Lib.hid ⟨by rw [size_toList]; exact HSZ.out.1, fun _ => h0, fun h => by cases h⟩
              clear h0
              obtain ⟨wo, rfl⟩ : ∃ wo : World, wo = wr := ⟨_, rfl⟩
              go_wp2
              go_loopw [10] (fun _ wx => ∃ pos : Nat, wx = wo.iter x pos) (fun _ wx => x.size - wx.iterPos wo.heap.size)
              case atStart => exact ⟨0, rfl⟩
              case round =>
                obtain ⟨pos, rfl⟩ := hrel
                by_cases hp : pos < x.size
                · have hnx : ∀ ty, (Instr.next (.pointer (some ⟨wo.heap.size, 0, none⟩)) true ty).run Tryd.prog (wo.iter x pos) = _ := fun ty => run_next_any wo x pos ty hp
                  have hwd := width_pos x pos hp
                  go_wp2
                  go_roundw
                  case rel => exact ⟨_, rfl⟩
                  case measure => simp; omega
                · have hnx : ∀ ty, (Instr.next (.pointer (some ⟨wo.heap.size, 0, none⟩)) true ty).run Tryd.prog (wo.iter x pos) = _ := fun ty => run_next_end wo x pos ty hp
                  have HKI : Hid (Kp0 w (wo.iter x pos)) := Lib.hid (HK.out.alloc _)
                  go_wp2_with fail
                  go_at_call 13
                  refine (encode_any x _ _ (HG.out.kp0 HKI.out) (by have := HSZ.out; omega)).mono ?_
                  rintro e w3 ⟨t, rfl, ht, hk3⟩
                  obtain ⟨hx1, hx2⟩ := HX.out
                  have HI2 := Lib.hid (HI.out.step hx1 (by rw [← hx2]; exact HGd.out) HSZ.out.2 (by rw [← hx2]; exact ht))
                  have HK3 := Lib.hid (HKI.out.tr hk3)
                  have hti : (t.size : Int) ≤ 6000 := by
                    have h1 := Nat.le_trans (Nat.le_of_eq (congrArg List.length ht)) (encS_le _ _ HGd.out.len)
                    rw [size_toList] at h1
                    omega
                  clear ht hk3 hx1 hx2
                  go_wp2
                  go_roundg (lb.length - (k + 1))
                  case measure => have := HX.out.1; omega
                  case rel => exact ⟨k + 1, _, rfl, by go_num, rfl, HX.out.1, HI2.out, HK3.out⟩
          | false =>
            obtain ⟨wo, rfl⟩ : ∃ wo : World, wo = wr := ⟨_, rfl⟩
            go_wp2
            go_loopw [10] (fun _ wx => ∃ pos : Nat, wx = wo.iter x pos ∧ Hid (No93 x pos)) (fun _ wx => x.size - wx.iterPos wo.heap.size)
            case atStart => exact ⟨0, rfl, Lib.hid (fun j _ h => absurd h (Nat.not_lt_zero _))⟩
            case round =>
              obtain ⟨pos, rfl, HN⟩ := hrel
              by_cases hp : pos < x.size
              · have hnx : ∀ ty, (Instr.next (.pointer (some ⟨wo.heap.size, 0, none⟩)) true ty).run Tryd.prog (wo.iter x pos) = _ := fun ty => run_next_any wo x pos ty hp
                have hwd := width_pos x pos hp
                by_cases hcm : x[pos]'hp = 93
                · have hb : (((x[pos]'hp).toNat : Int) == 93) = true := by rw [hcm]; rfl
                  clear hcm
                  go_wp2
                  all_goals go_ret
                  all_goals exact ⟨rfl, HK.out.alloc _⟩
                · have hb : (((x[pos]'hp).toNat : Int) == 93) = false := by
                    rw [beq_eq_false_iff_ne]; intro e; exact hcm (UInt8.toNat_inj.1 (by show _ = 93; omega))
                  have HS := Lib.hid (HN.out.step hp hcm)
                  by_cases hcn : x[pos]'hp = 62
                  · have hb2 : (((x[pos]'hp).toNat : Int) == 62) = true := by rw [hcn]; rfl
                    clear hcm hcn
                    go_wp2
                    all_goals go_ret
                    all_goals exact ⟨rfl, HK.out.alloc _⟩
                  · have hb2 : (((x[pos]'hp).toNat : Int) == 62) = false := by
                      rw [beq_eq_false_iff_ne]; intro e; exact hcn (UInt8.toNat_inj.1 (by show _ = 62; omega))
                    clear hcm hcn
                    go_wp2
                    go_roundw
                    case rel => exact ⟨_, rfl, HS.out⟩
                    case measure => simp; omega
              · have hnx : ∀ ty, (Instr.next (.pointer (some ⟨wo.heap.size, 0, none⟩)) true ty).run Tryd.prog (wo.iter x pos) = _ := fun ty => run_next_end wo x pos ty hp
                have HGd : Hid (Good false x.toList) := Lib.hid ⟨by rw [size_toList]; exact HSZ.out.1, (fun h => by cases h), fun _ => HN.out.all hp⟩
                have HKI : Hid (Kp0 w (wo.iter x pos)) := Lib.hid (HK.out.alloc _)
                go_wp2_with fail
                go_at_call 13
                refine (encode_any x _ _ (HG.out.kp0 HKI.out) (by have := HSZ.out; omega)).mono ?_
                rintro e w3 ⟨t, rfl, ht, hk3⟩
                obtain ⟨hx1, hx2⟩ := HX.out
                have HI2 := Lib.hid (HI.out.step hx1 (by rw [← hx2]; exact HGd.out) HSZ.out.2 (by rw [← hx2]; exact ht))
                have HK3 := Lib.hid (HKI.out.tr hk3)
                have hti : (t.size : Int) ≤ 6000 := by
                  have h1 := Nat.le_trans (Nat.le_of_eq (congrArg List.length ht)) (encS_le _ _ HGd.out.len)
                  rw [size_toList] at h1
                  omega
                clear ht hk3 hx1 hx2
                go_wp2
                go_roundg (lb.length - (k + 1))
                case measure => have := HX.out.1; omega
                case rel => exact ⟨k + 1, _, rfl, by go_num, rfl, HX.out.1, HI2.out, HK3.out⟩
    · obtain rfl : k = lb.length := by omega
      have hlti2 : ¬ (lb.length : Int) < lb.length := by omega
      have HALL : Hid (AllOk ch lb ta) := Lib.hid (HI.out.all)
      obtain ⟨q, m, hq, hq1, hq2, hq3, hq4, hq5⟩ := mod_posB step 300 (by decide)
      obtain ⟨st, hst⟩ : ∃ st, st = m + 1 := ⟨_, rfl⟩
      have hst1 : (m : Int) + 1 = (st : Int) := by omega
      have hqa : -300 ≤ q := by omega
      have hqb : q ≤ 300 := by omega
      have hmi : (m : Int) ≤ 299 := by omega
      have hst2 : (st : Int) ≤ 300 := by omega
      have hst3 : (1 : Int) ≤ st := by omega
      simp only [Int.cast_ofNat_Int] at hq hq3 hq4
      clear hq1 hq2 hq5 hst
      obtain ⟨bd, hbd⟩ : ∃ bd, bd = wr.heap.size := ⟨_, rfl⟩
      have HD3 := Lib.hid (dc_new (B := w.heap.size) (Z := NoZ) (w := wr) HK.out.size (fun i h => h.elim))
      have HK3 : Hid (Kp0 w (wr.alloc (.cells #[.slice none 0 0, .slice none 0 0, .bool false, .bool false] 26))) := Lib.hid (HK.out.alloc _)
      rw [← hbd] at HD3
      cases ch with
      | false =>
        go_wp2
        rw [← hbd]
        clear hbd
        generalize (wr.alloc (.cells #[.slice none 0 0, .slice none 0 0, .bool false, .bool false] 26)) = w4 at HD3 HK3 ⊢
        clear hq hq3 hq4 hst1 hqa hqb hmi
        go_loopg [7, 12, 13, 14, 15] ta.size (fun gg al kk n a b wr => ∃ (tr : ByteArray) (k : Nat) (W M : List UInt8), al = .string tr ∧ kk = .int .i64 k ∧ tr.size = gg ∧ LInv false lb tr k W M ∧ Dc w.heap.size NoZ wr bd ⟨W, M, false, false⟩ ∧ Kp0 w wr)
        case atStart => exact ⟨ta, 0, [], [], rfl, rfl, rfl, HALL.out.start, HD3.out, HK3.out⟩
        case round =>
          obtain ⟨tr, k, W, M, rfl, rfl, rfl, hi, hd, hkp⟩ := hrel
          have HL := Lib.hid hi
          have HD := Lib.hid hd
          have HKL := Lib.hid hkp
          have htr : (tr.size : Int) ≤ 26000 := by have := hi.size HALL.out; omega
          clear hi hd hkp
          by_cases hz : tr.size = 0
          · have hzi : (tr.size : Int) = 0 := by omega
            have hfin := HL.out.done hz
            have hkb : ((k : Int) == (lb.length : Int)) = true := by rw [beq_iff_eq]; omega
            clear hfin hz
            go_wp2
            all_goals go_ret
            all_goals exact ⟨rfl, HKL.out⟩
          · have hzi : (0 : Int) < tr.size := by omega
            obtain ⟨n, hn⟩ : ∃ n, n = min st tr.size := ⟨_, rfl⟩
            have hmin : min (st : Int) (tr.size : Int) = (n : Int) := by omega
            have hn1 : (n : Int) ≤ tr.size := by omega
            have hn2 : (1 : Int) ≤ n := by omega
            have HNN : Hid (1 ≤ n ∧ n ≤ tr.size) := Lib.hid (by omega)
            have HE1 : Hid ((tr.extract 0 n).toList = tr.toList.take n) := Lib.hid (by rw [extract_toList, List.drop_zero, Nat.sub_zero])
            have HE2 : Hid ((tr.extract n tr.size).toList = tr.toList.drop n) := Lib.hid (by
              rw [extract_toList, List.take_of_length_le]
              rw [List.length_drop, size_toList]
              omega)
            have HES : Hid ((tr.extract 0 n).size ≤ 9223372036854775807) := Lib.hid (by rw [ByteArray.size_extract]; omega)
            have HER : Hid ((tr.extract n tr.size).size = tr.size - n) := Lib.hid (by rw [ByteArray.size_extract]; omega)
            have HFD : Hid (W.length + (tr.toList.take n).length ≤ 140737488355328) := Lib.hid (by
              have := (sync_bd HL.out.sync (HALL.out.drop k).1 (HALL.out.drop k).2).1
              rw [List.length_take]
              rw [size_toList] at this ⊢
              omega)
            clear hn hz
            go_wp2_with (refine wl_bytes_of_str (o := ⟨some 81, _, _, _, _, _⟩) rfl _ 9 24 5 rfl Tryd.underlying9 Tryd.underlying24 Tryd.underlying5 (tr.extract 0 n) rfl HES.out ?_; intro cap5 w5 hrd hgr; have HK5 := Lib.hid (HKL.out.grown hgr (by simp)); have HD5 := Lib.hid (HD.out.kp0 ((Kp.refl _ _).grown hgr (by simp))); rw [HE1.out] at hrd; (obtain ⟨v5, hv5⟩ : ∃ v, v = Value.slice (some ⟨wr.heap.size, 0, none⟩) (tr.extract 0 n).size cap5 := ⟨_, rfl⟩); rw [← hv5] at hrd ⊢; clear hv5; have HR5 := Lib.hid hrd; clear hrd hgr)
            go_at_call 11
            refine (feed_any w.heap.size NoZ bd ⟨W, M, false, false⟩ _ (tr.toList.take n) _ HD5.out HR5.out HFD.out).mono ?_
            rintro e w6 ⟨rfl, hd, hk6⟩
            have HK6 := Lib.hid (kp0_of_fb HK5.out hk6)
            have HD6 : Hid (Dc w.heap.size NoZ w6 bd ⟨W ++ tr.toList.take n, M, false, false⟩) := Lib.hid hd
            have HS6 : Hid (Sync false (W ++ tr.toList.take n) M (tr.toList.drop n) ((txt lb).drop k)) := Lib.hid (sync_feed HL.out.sync (List.take_append_drop n tr.toList).symm)
            have HLE : Hid (k ≤ lb.length) := Lib.hid HL.out.le
            clear hd hk6
            go_wp2
            go_loopg [12, 14, 15] (lb.length - k) (fun gg kk a b wr => ∃ (j : Nat) (W2 M2 : List UInt8), kk = .int .i64 j ∧ gg = lb.length - j ∧ j ≤ lb.length ∧ Sync false W2 M2 (tr.toList.drop n) ((txt lb).drop j) ∧ Dc w.heap.size NoZ wr bd ⟨W2, M2, false, false⟩ ∧ Kp0 w wr)
            case atStart => exact ⟨k, _, _, rfl, rfl, HLE.out, HS6.out, HD6.out, HK6.out⟩
            case round =>
              obtain ⟨j, W2, M2, rfl, rfl, hj, hs, hd, hkp⟩ := hrel
              have HSj := Lib.hid hs
              have HDj := Lib.hid hd
              have HKj := Lib.hid hkp
              have HJ := Lib.hid hj
              have HF : Hid (Fine ⟨W2, M2, false, false⟩) := Lib.hid (by
                have h1 := sync_bd HSj.out (HALL.out.drop j).1 (HALL.out.drop j).2
                exact ⟨by simp only []; omega, by simp only []; omega⟩)
              have hnx := next_sync (HALL.out.drop j).2 hs
              clear hs hd hkp hj
              rcases hnx with ⟨W3, M3, hx, hs3, hf3⟩ | ⟨s, rest, W3, M3, hls, hx, hs3⟩
              · have HX := Lib.hid hx
                have HS3 := Lib.hid hs3
                have HF3 := Lib.hid hf3
                clear hx hs3 hf3
                go_wp2_with fail
                refine (Next_any w.heap.size NoZ bd _ _ HDj.out (HG.out.kp0 HKj.out) HG.out.sz HF.out).mono ?_
                rw [HX.out]
                rintro e w7 ⟨sm, rfl, hsm, hd, hk7⟩
                have HK7 := Lib.hid (kp0_of_fb HKj.out hk7)
                have HD7 := Lib.hid hd
                clear hd hk7 hsm
                simp only [] at HD7 ⊢
                go_wp2
                go_roundg (tr.size - n)
                case measure => have := HNN.out; omega
                case rel => exact ⟨tr.extract n tr.size, j, W3, M3, rfl, rfl, HER.out, ⟨by rw [HE2.out]; exact HS3.out, by rw [HE2.out]; exact HF3.out, HJ.out⟩, HD7.out, HK7.out⟩
              · have hjl : j < lb.length := by
                  have := congrArg List.length hls
                  rw [List.length_drop] at this
                  simp [txt] at this
                  omega
                have hls2 : (txt lb).drop j = lb[j].toList :: (txt lb).drop (j + 1) := by
                  rw [List.drop_eq_getElem_cons (by simpa [txt] using hjl)]
                  simp [txt]
                rw [hls2] at hls
                simp only [List.cons.injEq] at hls
                obtain ⟨rfl, rfl⟩ := hls
                have HX := Lib.hid hx
                have HS3 := Lib.hid hs3
                clear hx hs3 hls2
                go_wp2_with fail
                refine (Next_any w.heap.size NoZ bd _ _ HDj.out (HG.out.kp0 HKj.out) HG.out.sz HF.out).mono ?_
                rw [HX.out]
                rintro e w7 ⟨sm, rfl, hsm, hd, hk7⟩
                have HK7 := Lib.hid (kp0_of_fb HKj.out hk7)
                have HD7 := Lib.hid hd
                obtain ⟨gb, go, cp, ev, -, -, hcell⟩ := (HV.out.keep0 HK7.out).posS (by omega)
                simp only [Value.slice.injEq] at ev
                obtain ⟨rfl, -, rfl⟩ := ev
                have hcx := hcell j hjl
                obtain rfl : sm = lb[j] := str_ext hsm
                have HJL := Lib.hid hjl
                have hjli : (j : Int) < lb.length := by omega
                have hjl2 : ¬ (lb.length : Int) ≤ j := by omega
                clear hd hk7 hcell hsm
                simp only [] at HD7 ⊢
                generalize lb[j] = y at hcx HX ⊢
                go_wp2
                go_roundg (lb.length - (j + 1))
                case measure => have := HJL.out; omega
                case rel => exact ⟨j + 1, W3, M3, by go_num, rfl, HJL.out, HS3.out, HD7.out, HK7.out⟩
      | true =>
        go_wp2_with fail
        rw [← hbd]
        clear hbd
        generalize (wr.alloc (.cells #[.slice none 0 0, .slice none 0 0, .bool false, .bool false] 26)) = w3 at HD3 HK3 ⊢
        refine (switch_any w.heap.size NoZ bd _ _ HD3.out).mono ?_
        rintro e w4 ⟨rfl, hd, hk4⟩
        have HK4 := Lib.hid (kp0_of_fb HK3.out hk4)
        have HD4 : Hid (Dc w.heap.size NoZ w4 bd ⟨[], [], true, false⟩) := Lib.hid hd
        clear hd hk4 HD3 HK3
        have HD3 := HD4
        have HK3 := HK4
        go_wp2
        clear hq hq3 hq4 hst1 hqa hqb hmi HD4 HK4
        go_loopg [7, 12, 13, 14, 15] ta.size (fun gg al kk n a b wr => ∃ (tr : ByteArray) (k : Nat) (W M : List UInt8), al = .string tr ∧ kk = .int .i64 k ∧ tr.size = gg ∧ LInv true lb tr k W M ∧ Dc w.heap.size NoZ wr bd ⟨W, M, true, false⟩ ∧ Kp0 w wr)
        case atStart => exact ⟨ta, 0, [], [], rfl, rfl, rfl, HALL.out.start, HD3.out, HK3.out⟩
        case round =>
          obtain ⟨tr, k, W, M, rfl, rfl, rfl, hi, hd, hkp⟩ := hrel
          have HL := Lib.hid hi
          have HD := Lib.hid hd
          have HKL := Lib.hid hkp
          have htr : (tr.size : Int) ≤ 26000 := by have := hi.size HALL.out; omega
          clear hi hd hkp
          by_cases hz : tr.size = 0
          · have hzi : (tr.size : Int) = 0 := by omega
            have hfin := HL.out.done hz
            have hkb : ((k : Int) == (lb.length : Int)) = true := by rw [beq_iff_eq]; omega
            clear hfin hz
            go_wp2
            all_goals go_ret
            all_goals exact ⟨rfl, HKL.out⟩
          · have hzi : (0 : Int) < tr.size := by omega
            obtain ⟨n, hn⟩ : ∃ n, n = min st tr.size := ⟨_, rfl⟩
            have hmin : min (st : Int) (tr.size : Int) = (n : Int) := by omega
            have hn1 : (n : Int) ≤ tr.size := by omega
            have hn2 : (1 : Int) ≤ n := by omega
            have HNN : Hid (1 ≤ n ∧ n ≤ tr.size) := Lib.hid (by omega)
            have HE1 : Hid ((tr.extract 0 n).toList = tr.toList.take n) := Lib.hid (by rw [extract_toList, List.drop_zero, Nat.sub_zero])
            have HE2 : Hid ((tr.extract n tr.size).toList = tr.toList.drop n) := Lib.hid (by
              rw [extract_toList, List.take_of_length_le]
              rw [List.length_drop, size_toList]
              omega)
            have HES : Hid ((tr.extract 0 n).size ≤ 9223372036854775807) := Lib.hid (by rw [ByteArray.size_extract]; omega)
            have HER : Hid ((tr.extract n tr.size).size = tr.size - n) := Lib.hid (by rw [ByteArray.size_extract]; omega)
            have HFD : Hid (W.length + (tr.toList.take n).length ≤ 140737488355328) := Lib.hid (by
              have := (sync_bd HL.out.sync (HALL.out.drop k).1 (HALL.out.drop k).2).1
              rw [List.length_take]
              rw [size_toList] at this ⊢
              omega)
            clear hn hz
            go_wp2_with (refine wl_bytes_of_str (o := ⟨some 81, _, _, _, _, _⟩) rfl _ 9 24 5 rfl Tryd.underlying9 Tryd.underlying24 Tryd.underlying5 (tr.extract 0 n) rfl HES.out ?_; intro cap5 w5 hrd hgr; have HK5 := Lib.hid (HKL.out.grown hgr (by simp)); have HD5 := Lib.hid (HD.out.kp0 ((Kp.refl _ _).grown hgr (by simp))); rw [HE1.out] at hrd; (obtain ⟨v5, hv5⟩ : ∃ v, v = Value.slice (some ⟨wr.heap.size, 0, none⟩) (tr.extract 0 n).size cap5 := ⟨_, rfl⟩); rw [← hv5] at hrd ⊢; clear hv5; have HR5 := Lib.hid hrd; clear hrd hgr)
            go_at_call 11
            refine (feed_any w.heap.size NoZ bd ⟨W, M, true, false⟩ _ (tr.toList.take n) _ HD5.out HR5.out HFD.out).mono ?_
            rintro e w6 ⟨rfl, hd, hk6⟩
            have HK6 := Lib.hid (kp0_of_fb HK5.out hk6)
            have HD6 : Hid (Dc w.heap.size NoZ w6 bd ⟨W ++ tr.toList.take n, M, true, false⟩) := Lib.hid hd
            have HS6 : Hid (Sync true (W ++ tr.toList.take n) M (tr.toList.drop n) ((txt lb).drop k)) := Lib.hid (sync_feed HL.out.sync (List.take_append_drop n tr.toList).symm)
            have HLE : Hid (k ≤ lb.length) := Lib.hid HL.out.le
            clear hd hk6
            go_wp2
            go_loopg [12, 14, 15] (lb.length - k) (fun gg kk a b wr => ∃ (j : Nat) (W2 M2 : List UInt8), kk = .int .i64 j ∧ gg = lb.length - j ∧ j ≤ lb.length ∧ Sync true W2 M2 (tr.toList.drop n) ((txt lb).drop j) ∧ Dc w.heap.size NoZ wr bd ⟨W2, M2, true, false⟩ ∧ Kp0 w wr)
            case atStart => exact ⟨k, _, _, rfl, rfl, HLE.out, HS6.out, HD6.out, HK6.out⟩
            case round =>
              obtain ⟨j, W2, M2, rfl, rfl, hj, hs, hd, hkp⟩ := hrel
              have HSj := Lib.hid hs
              have HDj := Lib.hid hd
              have HKj := Lib.hid hkp
              have HJ := Lib.hid hj
              have HF : Hid (Fine ⟨W2, M2, true, false⟩) := Lib.hid (by
                have h1 := sync_bd HSj.out (HALL.out.drop j).1 (HALL.out.drop j).2
                exact ⟨by simp only []; omega, by simp only []; omega⟩)
              have hnx := next_sync (HALL.out.drop j).2 hs
              clear hs hd hkp hj
              rcases hnx with ⟨W3, M3, hx, hs3, hf3⟩ | ⟨s, rest, W3, M3, hls, hx, hs3⟩
              · have HX := Lib.hid hx
                have HS3 := Lib.hid hs3
                have HF3 := Lib.hid hf3
                clear hx hs3 hf3
                go_wp2_with fail
                refine (Next_any w.heap.size NoZ bd _ _ HDj.out (HG.out.kp0 HKj.out) HG.out.sz HF.out).mono ?_
                rw [HX.out]
                rintro e w7 ⟨sm, rfl, hsm, hd, hk7⟩
                have HK7 := Lib.hid (kp0_of_fb HKj.out hk7)
                have HD7 := Lib.hid hd
                clear hd hk7 hsm
                simp only [] at HD7 ⊢
                go_wp2
                go_roundg (tr.size - n)
                case measure => have := HNN.out; omega
                case rel => exact ⟨tr.extract n tr.size, j, W3, M3, rfl, rfl, HER.out, ⟨by rw [HE2.out]; exact HS3.out, by rw [HE2.out]; exact HF3.out, HJ.out⟩, HD7.out, HK7.out⟩
              · have hjl : j < lb.length := by
                  have := congrArg List.length hls
                  rw [List.length_drop] at this
                  simp [txt] at this
                  omega
                have hls2 : (txt lb).drop j = lb[j].toList :: (txt lb).drop (j + 1) := by
                  rw [List.drop_eq_getElem_cons (by simpa [txt] using hjl)]
                  simp [txt]
                rw [hls2] at hls
                simp only [List.cons.injEq] at hls
                obtain ⟨rfl, rfl⟩ := hls
                have HX := Lib.hid hx
                have HS3 := Lib.hid hs3
                clear hx hs3 hls2
                go_wp2_with fail
                refine (Next_any w.heap.size NoZ bd _ _ HDj.out (HG.out.kp0 HKj.out) HG.out.sz HF.out).mono ?_
                rw [HX.out]
                rintro e w7 ⟨sm, rfl, hsm, hd, hk7⟩
                have HK7 := Lib.hid (kp0_of_fb HKj.out hk7)
                have HD7 := Lib.hid hd
                obtain ⟨gb, go, cp, ev, -, -, hcell⟩ := (HV.out.keep0 HK7.out).posS (by omega)
                simp only [Value.slice.injEq] at ev
                obtain ⟨rfl, -, rfl⟩ := ev
                have hcx := hcell j hjl
                obtain rfl : sm = lb[j] := str_ext hsm
                have HJL := Lib.hid hjl
                have hjli : (j : Int) < lb.length := by omega
                have hjl2 : ¬ (lb.length : Int) ≤ j := by omega
                clear hd hk7 hcell hsm
                simp only [] at HD7 ⊢
                generalize lb[j] = y at hcx HX ⊢
                go_wp2
                go_roundg (lb.length - (j + 1))
                case measure => have := HJL.out; omega
                case rel => exact ⟨j + 1, W3, M3, by go_num, rfl, HJL.out, HS3.out, HD7.out, HK7.out⟩
end Go.Proofs.YtdjknljhpbebiaaDoor
