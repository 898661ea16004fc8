/- The law WireBack: its walk. -/
import Derived.Test.YtigghfbochemgaaDoorFit
import Derived.Test.YtigghfbochemgaaDoorTexts
import Derived.Test.YtigghfbochemgaaDoorUtf
import Derived.Test.YtigghfbochemgaaDoorRef
import Derived.Test.YtigghfbochemgaaDoorReg
import Derived.Deep.DeepCutAuto
namespace Go.Proofs.YtigghfbochemgaaDoor
open Go Go.RowKit

def sizes (l : List ByteArray) : Nat := (l.map fun x => x.size).sum
theorem sizes_take_succ (l : List ByteArray) (k : Nat) (h : k < l.length) : sizes (l.take (k + 1)) = sizes (l.take k) + (l[k]'h).size := by
  unfold sizes
  rw [List.take_succ_eq_append_getElem h, List.map_append, List.sum_append]
  simp
theorem sizes_le (l : List ByteArray) (B : Nat) (h : ∀ x ∈ l, x.size ≤ B) : sizes l ≤ l.length * B := by
  induction l with
  | nil => simp [sizes]
  | cons x l ih =>
    have h1 := h x (by simp)
    have h2 := ih (fun y hy => h y (by simp [hy]))
    have : sizes (x :: l) = x.size + sizes l := by simp [sizes]
    rw [this, List.length_cons, Nat.add_mul]
    omega
theorem wide_sizes (l : List ByteArray) : wide l = sizes l + l.length := by
  induction l with
  | nil => rfl
  | cons x l ih =>
    have : sizes (x :: l) = x.size + sizes l := by simp [sizes]
    rw [wide_cons, this, ih, List.length_cons]; omega
def Clean (l : List ByteArray) : Prop := ∀ x ∈ l, 0 < x.size ∧ 44 ∉ x.toList
theorem namesS_enc (l : List ByteArray) (r : List UInt8) (hc : Clean l) (hw : wide l ≤ 16384) : namesS (some (encNames l ++ r)) = (lists l, some r) := by
  have hj := join_wide l
  unfold namesS encNames
  rw [textS_enc _ _ (by omega)]
  simp only []
  by_cases h0 : l = []
  · subst h0; rfl
  · have hne : lists l ≠ [] := by
      intro e; exact h0 (List.map_eq_nil_iff.1 e)
    have hs : splitC (Lib.join (lists l) [44]) = lists l := split_join _ hne (fun x hx => by
      obtain ⟨y, hy, rfl⟩ := List.mem_map.1 hx
      exact (hc y hy).2)
    rw [hs]
    have hemp : ¬ [] ∈ lists l := fun hm => by
      obtain ⟨y, hy, e⟩ := List.mem_map.1 hm
      have := (hc y hy).1
      have h2 := size_toList y
      rw [e] at h2
      simp at h2
      omega
    have hjn : ¬ Lib.join (lists l) [44] = [] := fun e => by
      rw [e] at hs
      exact hemp (by rw [← hs]; simp [splitC])
    rw [if_neg hjn, if_neg hemp]

/-- What the law's first loop has found. -/
def Found (w1 : World) (l : List ByteArray) (k : Nat) (wr : World) : Prop := Clean (l.take k) ∧ Kp0 w1 wr

set_option maxHeartbeats 4000000 in
theorem back_loop_big (s : ByteArray) (p v : Value) (l : List ByteArray) (lb : List UInt8) (w : World) (hp : Rd w p (strs l)) (hv : Rd w v (bys lb)) (hx : ∀ x ∈ l, x.size ≤ 140737488351232) (hbig : 100 < l.length) :
    Calls Tryd.prog 4 #[.string s, p, v] w fun e w' => e = .returned (.bool true) ∧ Kp0 w w' := by
  have HP := Lib.hid hp
  obtain ⟨ao, cap, rfl, hc1, hc2, hc3⟩ := hv.shapeB
  obtain ⟨po, pcap, rfl, hp1, hp2, hp3⟩ := hp.shapeS
  have HX := Lib.hid hx
  clear hv hp hx
  go_enter Tryd.func4, Tryd.ntmps4
  go_wp2_with fail
  refine (fit_any _).mono ?_
  rintro e w1 ⟨rfl, hk1⟩
  have HP1 := Lib.hid (HP.out.keep0 hk1)
  have HK1 := Lib.hid hk1
  clear hk1
  go_wp2
  go_loopw [7, 22] (fun n i wr => ∃ (k : Nat) (m : Int), i = .int .i64 k ∧ k ≤ l.length ∧ n = .int .i64 m ∧ Kp0 w1 wr) (fun _ i _ => l.length - (intOf i).toNat)
  case atStart => exact ⟨0, _, rfl, Nat.zero_le _, rfl, Kp.refl _ _⟩
  case round =>
    obtain ⟨k, m, rfl, hk, rfl, hkp⟩ := hrel
    have HR := Lib.hid (HP1.out.keep0 hkp)
    have HK := Lib.hid hkp
    clear hkp
    by_cases h : k < l.length
    · obtain ⟨b, o, c, e, _, _, hcell⟩ := HR.out.posS (by omega)
      simp only [Value.slice.injEq] at e
      obtain ⟨rfl, _, rfl⟩ := e
      have hck := hcell k h
      clear hcell
      obtain ⟨x, hxx⟩ : ∃ x, x = l[k]'h := ⟨_, rfl⟩
      rw [← hxx] at hck
      clear hxx
      by_cases hx0 : 0 < x.size
      · have hxe := ne_empty hx0
        obtain ⟨wo, rfl⟩ : ∃ wo : World, wo = wr := ⟨_, rfl⟩
        go_wp2
        go_loopw [34] (fun _ wx => ∃ pos : Nat, wx = wo.iter x pos ∧ Hid (NoComma x pos)) (fun _ wx => x.size - wx.iterPos wo.heap.size)
        case atStart => exact ⟨0, rfl, Lib.hid (fun j _ h => absurd h (Nat.not_lt_zero _))⟩
        case round =>
          obtain ⟨pos, rfl, HN⟩ := hrel
          by_cases hp : pos < x.size
          · have hnx : ∀ ty, (Instr.next (.pointer (some ⟨wo.heap.size, 0, none⟩)) true ty).run Tryd.prog (wo.iter x pos) = _ := fun ty => run_next_any wo x pos ty hp
            have hwd := width_pos x pos hp
            by_cases hcm : x[pos]'hp = 44
            · have hb : (((x[pos]'hp).toNat : Int) == 44) = true := by rw [hcm]; rfl
              clear hcm
              go_wp2
              go_ret
              exact ⟨rfl, (HK1.out.tr HK.out).alloc _⟩
            · have hb : (((x[pos]'hp).toNat : Int) == 44) = false := by
                rw [beq_eq_false_iff_ne]; intro e; exact hcm (UInt8.toNat_inj.1 (by show _ = 44; omega))
              have HS := Lib.hid (HN.out.step hp hcm)
              clear hcm
              go_wp2
              go_roundw
              case rel => exact ⟨_, rfl, HS.out⟩
              case measure => simp; omega
          · have hnx : ∀ ty, (Instr.next (.pointer (some ⟨wo.heap.size, 0, none⟩)) true ty).run Tryd.prog (wo.iter x pos) = _ := fun ty => run_next_end wo x pos ty hp
            have HA := Lib.hid (HN.out.all hp)
            go_wp2
            go_roundw
            case rel => exact ⟨k + 1, _, by go_num, by omega, rfl, HK.out.alloc _⟩
            case measure => simp [intOf]; omega
      · have hxe := toList_nil hx0
        go_wp2
        go_ret
        exact ⟨rfl, HK1.out.tr HK.out⟩
    · go_wp2
      all_goals go_ret
      all_goals exact ⟨rfl, HK1.out.tr HK.out⟩
set_option maxHeartbeats 4000000 in
theorem back_loop_small (s : ByteArray) (p v : Value) (l : List ByteArray) (lb : List UInt8) (w : World) (hp : Rd w p (strs l)) (hv : Rd w v (bys lb)) (hx : ∀ x ∈ l, x.size ≤ 140737488351232) (hbig : l.length ≤ 100) (hgm : Gm w) (hsb : s.size ≤ 140737488351232) (hlb : lb.length ≤ 140737488351232) :
    Calls Tryd.prog 4 #[.string s, p, v] w fun e w' => e = .returned (.bool true) ∧ Kp0 w w' := by
  have HG := Lib.hid hgm
  have hsz0 : 0 < w.heap.size := by obtain ⟨m, hm⟩ := hgm; exact World.block_lt_of_cell? w _ hm
  clear hgm
  have HV := Lib.hid hv
  have HP := Lib.hid hp
  obtain ⟨ao, cap, rfl, hc1, hc2, hc3⟩ := hv.shapeB
  obtain ⟨po, pcap, rfl, hp1, hp2, hp3⟩ := hp.shapeS
  have HX := Lib.hid hx
  clear hv hp hx
  go_enter Tryd.func4, Tryd.ntmps4
  go_wp2_with fail
  refine (fit_any _).mono ?_
  rintro e w1 ⟨rfl, hk1⟩
  have HP1 := Lib.hid (HP.out.keep0 hk1)
  have HK1 := Lib.hid hk1
  clear hk1
  go_wp2
  go_loopw [7, 22] (fun n i wr => ∃ k : Nat, i = .int .i64 k ∧ k ≤ l.length ∧ n = .int .i64 ((s.size + lb.length + sizes (l.take k) : Nat) : Int) ∧ sizes (l.take k) ≤ k * 140737488351232 ∧ Hid (Clean (l.take k)) ∧ Kp0 w1 wr) (fun _ i _ => l.length - (intOf i).toNat)
  case atStart => exact ⟨0, rfl, Nat.zero_le _, by simp [sizes], Nat.zero_le _, Lib.hid (fun x h => by simp at h), Kp.refl _ _⟩
  case round =>
    obtain ⟨k, rfl, hk, rfl, hsz, HCL, hkp⟩ := hrel
    have HR := Lib.hid (HP1.out.keep0 hkp)
    have HK := Lib.hid hkp
    clear hkp
    by_cases h : k < l.length
    · obtain ⟨b, o, c, e, _, _, hcell⟩ := HR.out.posS (by omega)
      simp only [Value.slice.injEq] at e
      obtain ⟨rfl, _, rfl⟩ := e
      have hck := hcell k h
      clear hcell
      obtain ⟨x, hxx⟩ : ∃ x, x = l[k]'h := ⟨_, rfl⟩
      have hxb : x.size ≤ 140737488351232 := by rw [hxx]; exact HX.out _ (List.getElem_mem h)
      have HSZ : Hid (sizes (l.take (k + 1)) = sizes (l.take k) + x.size) := Lib.hid (by rw [hxx]; exact sizes_take_succ l k h)
      have HXX := Lib.hid hxx
      have hkb : k * 140737488351232 ≤ 14073748835123200 := by omega
      have HKK : Hid ((k + 1) * 140737488351232 = k * 140737488351232 + 140737488351232) := Lib.hid (by omega)
      rw [← hxx] at hck
      clear hxx
      by_cases hx0 : 0 < x.size
      · have hxe := ne_empty hx0
        obtain ⟨wo, rfl⟩ : ∃ wo : World, wo = wr := ⟨_, rfl⟩
        go_wp2
        go_loopw [34] (fun _ wx => ∃ pos : Nat, wx = wo.iter x pos ∧ Hid (NoComma x pos)) (fun _ wx => x.size - wx.iterPos wo.heap.size)
        case atStart => exact ⟨0, rfl, Lib.hid (fun j _ h => absurd h (Nat.not_lt_zero _))⟩
        case round =>
          obtain ⟨pos, rfl, HN⟩ := hrel
          by_cases hp : pos < x.size
          · have hnx : ∀ ty, (Instr.next (.pointer (some ⟨wo.heap.size, 0, none⟩)) true ty).run Tryd.prog (wo.iter x pos) = _ := fun ty => run_next_any wo x pos ty hp
            have hwd := width_pos x pos hp
            by_cases hcm : x[pos]'hp = 44
            · have hb : (((x[pos]'hp).toNat : Int) == 44) = true := by rw [hcm]; rfl
              clear hcm
              go_wp2
              go_ret
              exact ⟨rfl, (HK1.out.tr HK.out).alloc _⟩
            · have hb : (((x[pos]'hp).toNat : Int) == 44) = false := by
                rw [beq_eq_false_iff_ne]; intro e; exact hcm (UInt8.toNat_inj.1 (by show _ = 44; omega))
              have HS := Lib.hid (HN.out.step hp hcm)
              clear hcm
              go_wp2
              go_roundw
              case rel => exact ⟨_, rfl, HS.out⟩
              case measure => simp; omega
          · have hnx : ∀ ty, (Instr.next (.pointer (some ⟨wo.heap.size, 0, none⟩)) true ty).run Tryd.prog (wo.iter x pos) = _ := fun ty => run_next_end wo x pos ty hp
            have HA := Lib.hid (HN.out.all hp)
            go_wp2
            go_roundw
            case rel => exact ⟨k + 1, by go_num, by omega, by rw [HSZ.out]; go_num, by rw [HSZ.out, HKK.out]; omega, Lib.hid (by
                rw [List.take_succ_eq_append_getElem h]
                intro y hy
                rcases List.mem_append.1 hy with h1 | h1
                · exact HCL.out y h1
                · simp at h1; subst h1; rw [← HXX.out]; exact ⟨hx0, HA.out⟩), HK.out.alloc _⟩
            case measure => simp [intOf]; omega
      · have hxe := toList_nil hx0
        go_wp2
        go_ret
        exact ⟨rfl, HK1.out.tr HK.out⟩
    · have e0 : l.take k = l := List.take_of_length_le (by omega)
      rw [e0] at HCL hsz ⊢
      clear e0
      by_cases hg : s.size + lb.length + sizes l ≤ 2000
      · go_wp2_with fail
        have HVr := Lib.hid (HV.out.keep0 (HK1.out.tr HK.out))
        have HKW := Lib.hid (HK1.out.tr HK.out)
        have hwl : wide l ≤ 2100 := by rw [wide_sizes]; omega
        have hjw := join_wide l
        clear hsz
        refine (text_any _ [] s wr (Rd.nil _) (by simp; omega)).mono ?_
        rintro e w2 ⟨v50, rfl, ho50, hk2⟩
        have HO50 := Lib.hid ho50.rd
        have HK2 := Lib.hid hk2
        clear ho50 hk2
        go_wp2_with fail
        refine (names_any _ _ ([] ++ encText s.toList) l w2 HO50.out (HR.out.keep0 HK2.out) (by simp only [List.nil_append, encText, List.length_append, be4_len, size_toList]; omega)).mono ?_
        rintro e w3 ⟨v52, rfl, ho52, hk3⟩
        have HO52 := Lib.hid ho52.rd
        have HK3 := Lib.hid hk3
        clear ho52 hk3
        go_wp2_with fail
        refine (int_any _ _ ([] ++ encText s.toList ++ encNames l) lb w3 HO52.out ((HVr.out.keep0 HK2.out).keep0 HK3.out) (by simp only [List.nil_append, encText, encNames, List.length_append, be4_len, size_toList]; omega)).mono ?_
        rintro e w4 ⟨v54, rfl, ho54, hk4⟩
        have HO54 := Lib.hid ho54.rd
        have HK4 := Lib.hid hk4
        clear ho54 hk4
        go_wp2_with fail
        refine (from_any _ _ w4 HO54.out).mono ?_
        rintro e w5 ⟨b, rfl, hb, hr5, hk5⟩
        have HR5 := Lib.hid hr5
        have HK5 : Hid (Kp (fun j => wr.heap.size ≤ j) wr w5) := Lib.hid ((((HK2.out.tr HK3.out).tr HK4.out).tr hk5).nil _)
        have hbw : wr.heap.size ≤ b := by have h1 := HK2.out.size; have h2 := HK3.out.size; have h3 := HK4.out.size; omega
        have hpos : ¬ wr.heap.size ≤ 0 := by have := HKW.out.size; omega
        have hb0 : ¬ b = 0 := by omega
        have HAB : Hid (∀ w w' : World, Kp (At b) w w' → Kp (fun j => wr.heap.size ≤ j) w w') := Lib.hid (fun w w' h => h.mono (fun i _ (e : i = b) => by omega))
        clear hr5 hk5 hb
        go_wp2
        go_loop [12] (fun i => ∃ k : Nat, i = .int .i64 k ∧ k ≤ lb.length ∧ Hid (stripZ (lb.drop k) = stripZ lb)) (fun i => lb.length - (intOf i).toNat)
        case atStart => exact ⟨0, rfl, Nat.zero_le _, Lib.hid rfl⟩
        case round =>
          obtain ⟨i, rfl, hi, HS⟩ := hrel
          have HV5 := Lib.hid (HVr.out.keep HK5.out (fun g _ h1 (h2 : wr.heap.size ≤ g) => by omega))
          by_cases hc : ∃ h : i < lb.length, (lb[i]'h).toNat = 0
          · have hc2 := hc
            obtain ⟨h, hz⟩ := hc2
            have HSt := Lib.hid (rint_step lb i h hz)
            obtain ⟨b8, o8, c8, e8, _, _, hcell⟩ := HV5.out.posB (by omega)
            simp only [Value.slice.injEq] at e8
            obtain ⟨rfl, _, rfl⟩ := e8
            have hck := hcell i h
            have hzb : (((lb[i]'h).toNat : Int) == 0) = true := by rw [hz]; rfl
            clear hcell hc hz
            go_wp2
            go_round
            case rel => exact ⟨i + 1, by go_num, by omega, Lib.hid (by rw [HSt.out, HS.out])⟩
            case measure => simp [intOf]; omega
          · have hfin : Hid (lb.drop i = stripZ lb) := Lib.hid (by rw [← HS.out, rint_end lb i hc])
            by_cases h : i < lb.length
            · obtain ⟨b8, o8, c8, e8, _, _, hcell⟩ := HV5.out.posB (by omega)
              simp only [Value.slice.injEq] at e8
              obtain ⟨rfl, _, rfl⟩ := e8
              have hck := hcell i h
              have hzb : (((lb[i]'h).toNat : Int) == 0) = false := by
                rw [beq_eq_false_iff_ne]; exact fun e => hc ⟨h, by omega⟩
              have HA := Lib.hid (HV5.out.afterB i h)
              clear hcell hc
              go_upto_region 22 with (fail)
              obtain ⟨sz, hsz⟩ : ∃ sz : ByteArray, sz = ⟨(stripZ lb).toArray⟩ := ⟨_, rfl⟩
              have HSZ := Lib.hid hsz
              clear hsz
              have hcvA : ∀ w', Kp (fun j => wr.heap.size ≤ j) wr w' → (convert 22 9 (.slice (if cap = i then some ⟨b8, o8, none⟩ else some ⟨b8, o8 + i, none⟩) (lb.length - i) (cap - i))).run Tryd.prog w' = .ok (.string sz) w' := fun w' hw => by
                rw [if_neg (by omega), HSZ.out, ← hfin.out]
                exact run_string_of 22 5 9 Tryd.underlying22 Tryd.underlying5 Tryd.underlying9 ((HVr.out.afterB i h).keep hw (fun g _ h1 (h2 : wr.heap.size ≤ g) => by omega))
              have HR6 : Hid (Rs w5 b (some (encText s.toList ++ (encNames l ++ encInt lb)))) := Lib.hid (by
                have := HR5.out
                simpa only [List.nil_append, List.append_assoc] using this)
              have HG5 : Hid (Gm w5.drew) := Lib.hid ((HG.out.keep HKW.out (fun h => h)).keep HK5.out.drew (fun h => hpos h))
              refine wp_region_plan (fun w => Kp (fun j => wr.heap.size ≤ j) wr w) [(0, true), (2, true), (1, false), (3, true), (4, true), (5, true), (7, true), (6, false), (8, false), (9, true), (10, true), (11, true), (14, true), (15, true), (16, true), (17, true), (12, false), (13, false), (18, true), (19, true), (20, true), (21, true), (22, false), (23, true), (24, true)] (by kernel_rfl) (by kernel_rfl) (by kernel_rfl) (by kernel_rfl) (fun _ d _ _ _ h => by cases d <;> exact h) HK5.out.drew ?_
              simp only [List.map_cons, List.map_nil, List.getElem?_toArray, List.getElem?_cons_zero, List.getElem?_cons_succ, Option.getD_some]
              repeat (first
                      | (refine plan_quiet (v := ?_) (by rfl) (fun wq hwq => ?_) ?_; rotate_left 1; (focus (go_simp; try (with_reducible rfl); done)); simp only [Act.put, List.setIfInBounds_toArray, List.set_cons_zero, List.set_cons_succ])
                      | (refine plan_skip (by rfl) ?_; simp only [Act.put, List.setIfInBounds_toArray, List.set_cons_zero, List.set_cons_succ]))
              refine plan_eff (by rfl) (fun K hK => ?_)
              go_simp
              refine (text_rs b _ w5.drew HR6.out).mono ?_
              rw [textS_enc s.toList _ (by rw [size_toList]; omega)]
              rintro e w6 ⟨t, rfl, ht, hr6, hk6⟩
              obtain rfl : t = s := str_ext ht
              simp only []
              have S6 := Lib.hid (HK5.out.drew.tr (HAB.out _ _ hk6))
              have H6 := Lib.hid hr6
              have G6 := Lib.hid (Gm.keep HG5.out hk6 (fun (e : 0 = b) => hb0 e.symm))
              refine hK _ _ S6.out ?_
              clear hK K ht hr6 hk6
              repeat (first
                      | (refine plan_quiet (v := ?_) (by rfl) (fun wq hwq => ?_) ?_; rotate_left 1; (focus (go_simp; try (with_reducible rfl); done)); simp only [Act.put, List.setIfInBounds_toArray, List.set_cons_zero, List.set_cons_succ])
                      | (refine plan_skip (by rfl) ?_; simp only [Act.put, List.setIfInBounds_toArray, List.set_cons_zero, List.set_cons_succ]))
              refine plan_eff (by rfl) (fun K hK => ?_)
              go_simp
              refine (names_rs b _ w6 H6.out G6.out hb0).mono ?_
              rw [namesS_enc l _ HCL.out (by omega)]
              rintro e w7 ⟨v75, ls, rfl, hd7, hls, hr7, hk7, _⟩
              simp only []
              have S7 := Lib.hid (S6.out.tr (HAB.out _ _ hk7))
              have H7 := Lib.hid hr7
              have D7 := Lib.hid hd7
              have HLS : Hid (decide (lists ls = lists l) = true) := Lib.hid (decide_eq_true hls)
              refine hK _ _ S7.out ?_
              clear hK K hr7 hk7 hd7 hls
              repeat (first
                      | (refine plan_quiet (v := ?_) (by rfl) (fun wq hwq => ?_) ?_; rotate_left 1; (focus (go_simp; try (with_reducible rfl); done)); simp only [Act.put, List.setIfInBounds_toArray, List.set_cons_zero, List.set_cons_succ])
                      | (refine plan_skip (by rfl) ?_; simp only [Act.put, List.setIfInBounds_toArray, List.set_cons_zero, List.set_cons_succ]))
              refine plan_eff (by rfl) (fun K hK => ?_)
              go_simp
              refine (texts_any _ _ ls l w7 D7.out (HR.out.keep S7.out (fun g _ h1 (h2 : wr.heap.size ≤ g) => by omega))).mono ?_
              rw [HLS.out]
              rintro e w8 ⟨rfl, hk8⟩
              simp only []
              have S8 := Lib.hid (S7.out.tr (hk8.nil _))
              have H8 := Lib.hid (H7.out.keep hk8 (fun h => h))
              refine hK _ _ S8.out ?_
              clear hK K hk8
              repeat (first
                      | (refine plan_quiet (v := ?_) (by rfl) (fun wq hwq => ?_) ?_; rotate_left 1; (focus (go_simp; try (with_reducible rfl); done)); simp only [Act.put, List.setIfInBounds_toArray, List.set_cons_zero, List.set_cons_succ])
                      | (refine plan_skip (by rfl) ?_; simp only [Act.put, List.setIfInBounds_toArray, List.set_cons_zero, List.set_cons_succ]))
              refine plan_eff (by rfl) (fun K hK => ?_)
              go_simp
              have ei := intS_enc lb [] (by omega)
              rw [List.append_nil] at ei
              refine (int_rs b _ w8 H8.out).mono ?_
              rw [ei]
              clear ei
              rintro e w9 ⟨v81, rfl, hd9, hr9, hk9, _⟩
              simp only []
              have hcv81 := run_string_of (P := Tryd.prog) (w := w9) 22 5 9 Tryd.underlying22 Tryd.underlying5 Tryd.underlying9 hd9
              rw [← HSZ.out] at hcv81
              have S9 := Lib.hid (S8.out.tr (HAB.out _ _ hk9))
              have H9 := Lib.hid hr9
              refine hK _ _ S9.out ?_
              clear hK K hd9 hr9 hk9
              refine plan_eff (by rfl) (fun K hK => ?_)
              go_simp
              refine hK _ _ S9.out ?_
              clear hK K hcv81
              repeat (first
                      | (refine plan_quiet (v := ?_) (by rfl) (fun wq hwq => ?_) ?_; rotate_left 1; (focus (go_simp; try (with_reducible rfl); done)); simp only [Act.put, List.setIfInBounds_toArray, List.set_cons_zero, List.set_cons_succ])
                      | (refine plan_skip (by rfl) ?_; simp only [Act.put, List.setIfInBounds_toArray, List.set_cons_zero, List.set_cons_succ]))
              refine plan_eff (by rfl) (fun K hK => ?_)
              go_simp
              refine (end_rs b _ w9 H9.out).mono ?_
              rw [decide_eq_true rfl]
              rintro e w10 ⟨rfl, rfl⟩
              simp only []
              refine hK _ _ S9.out ?_
              clear hK K
              repeat (first
                      | (refine plan_quiet (v := ?_) (by rfl) (fun wq hwq => ?_) ?_; rotate_left 1; (focus (go_simp; try (with_reducible rfl); done)); simp only [Act.put, List.setIfInBounds_toArray, List.set_cons_zero, List.set_cons_succ])
                      | (refine plan_skip (by rfl) ?_; simp only [Act.put, List.setIfInBounds_toArray, List.set_cons_zero, List.set_cons_succ]))
              refine plan_nil ?_
              go_wp2
              go_ret
              exact ⟨rfl, HKW.out.trans S9.out (fun _ _ h => h) (fun j hj (h : wr.heap.size ≤ j) => by have := HKW.out.size; omega)⟩
            · have hil : i = lb.length := by omega
              subst hil
              clear hc h
              obtain ⟨sz, hsz⟩ : ∃ sz : ByteArray, sz = ⟨(stripZ lb).toArray⟩ := ⟨_, rfl⟩
              have HSZ := Lib.hid hsz
              clear hsz
              go_upto_region 22 with (fail)
              by_cases hcc : cap = lb.length
              · subst hcc
                have hcvA : ∀ w', Kp (fun j => wr.heap.size ≤ j) wr w' → (convert 22 9 (.slice ao 0 0)).run Tryd.prog w' = .ok (.string sz) w' := fun w' hw => by
                  rw [HSZ.out, ← hfin.out, List.drop_length]
                  exact run_string_of 22 5 9 Tryd.underlying22 Tryd.underlying5 Tryd.underlying9 (Rd.empty w' ao 0 (Nat.zero_le _) (fun _ => rfl))
                have HR6 : Hid (Rs w5 b (some (encText s.toList ++ (encNames l ++ encInt lb)))) := Lib.hid (by
                  have := HR5.out
                  simpa only [List.nil_append, List.append_assoc] using this)
                have HG5 : Hid (Gm w5.drew) := Lib.hid ((HG.out.keep HKW.out (fun h => h)).keep HK5.out.drew (fun h => hpos h))
                refine wp_region_plan (fun w => Kp (fun j => wr.heap.size ≤ j) wr w) [(0, true), (2, true), (1, false), (3, true), (4, true), (5, true), (7, true), (6, false), (8, false), (9, true), (10, true), (11, true), (14, true), (15, true), (16, true), (17, true), (12, false), (13, false), (18, true), (19, true), (20, true), (21, true), (22, false), (23, true), (24, true)] (by kernel_rfl) (by kernel_rfl) (by kernel_rfl) (by kernel_rfl) (fun _ d _ _ _ h => by cases d <;> exact h) HK5.out.drew ?_
                simp only [List.map_cons, List.map_nil, List.getElem?_toArray, List.getElem?_cons_zero, List.getElem?_cons_succ, Option.getD_some]
                repeat (first
                        | (refine plan_quiet (v := ?_) (by rfl) (fun wq hwq => ?_) ?_; rotate_left 1; (focus (go_simp; try (with_reducible rfl); done)); simp only [Act.put, List.setIfInBounds_toArray, List.set_cons_zero, List.set_cons_succ])
                        | (refine plan_skip (by rfl) ?_; simp only [Act.put, List.setIfInBounds_toArray, List.set_cons_zero, List.set_cons_succ]))
                refine plan_eff (by rfl) (fun K hK => ?_)
                go_simp
                refine (text_rs b _ w5.drew HR6.out).mono ?_
                rw [textS_enc s.toList _ (by rw [size_toList]; omega)]
                rintro e w6 ⟨t, rfl, ht, hr6, hk6⟩
                obtain rfl : t = s := str_ext ht
                simp only []
                have S6 := Lib.hid (HK5.out.drew.tr (HAB.out _ _ hk6))
                have H6 := Lib.hid hr6
                have G6 := Lib.hid (Gm.keep HG5.out hk6 (fun (e : 0 = b) => hb0 e.symm))
                refine hK _ _ S6.out ?_
                clear hK K ht hr6 hk6
                repeat (first
                        | (refine plan_quiet (v := ?_) (by rfl) (fun wq hwq => ?_) ?_; rotate_left 1; (focus (go_simp; try (with_reducible rfl); done)); simp only [Act.put, List.setIfInBounds_toArray, List.set_cons_zero, List.set_cons_succ])
                        | (refine plan_skip (by rfl) ?_; simp only [Act.put, List.setIfInBounds_toArray, List.set_cons_zero, List.set_cons_succ]))
                refine plan_eff (by rfl) (fun K hK => ?_)
                go_simp
                refine (names_rs b _ w6 H6.out G6.out hb0).mono ?_
                rw [namesS_enc l _ HCL.out (by omega)]
                rintro e w7 ⟨v75, ls, rfl, hd7, hls, hr7, hk7, _⟩
                simp only []
                have S7 := Lib.hid (S6.out.tr (HAB.out _ _ hk7))
                have H7 := Lib.hid hr7
                have D7 := Lib.hid hd7
                have HLS : Hid (decide (lists ls = lists l) = true) := Lib.hid (decide_eq_true hls)
                refine hK _ _ S7.out ?_
                clear hK K hr7 hk7 hd7 hls
                repeat (first
                        | (refine plan_quiet (v := ?_) (by rfl) (fun wq hwq => ?_) ?_; rotate_left 1; (focus (go_simp; try (with_reducible rfl); done)); simp only [Act.put, List.setIfInBounds_toArray, List.set_cons_zero, List.set_cons_succ])
                        | (refine plan_skip (by rfl) ?_; simp only [Act.put, List.setIfInBounds_toArray, List.set_cons_zero, List.set_cons_succ]))
                refine plan_eff (by rfl) (fun K hK => ?_)
                go_simp
                refine (texts_any _ _ ls l w7 D7.out (HR.out.keep S7.out (fun g _ h1 (h2 : wr.heap.size ≤ g) => by omega))).mono ?_
                rw [HLS.out]
                rintro e w8 ⟨rfl, hk8⟩
                simp only []
                have S8 := Lib.hid (S7.out.tr (hk8.nil _))
                have H8 := Lib.hid (H7.out.keep hk8 (fun h => h))
                refine hK _ _ S8.out ?_
                clear hK K hk8
                repeat (first
                        | (refine plan_quiet (v := ?_) (by rfl) (fun wq hwq => ?_) ?_; rotate_left 1; (focus (go_simp; try (with_reducible rfl); done)); simp only [Act.put, List.setIfInBounds_toArray, List.set_cons_zero, List.set_cons_succ])
                        | (refine plan_skip (by rfl) ?_; simp only [Act.put, List.setIfInBounds_toArray, List.set_cons_zero, List.set_cons_succ]))
                refine plan_eff (by rfl) (fun K hK => ?_)
                go_simp
                have ei := intS_enc lb [] (by omega)
                rw [List.append_nil] at ei
                refine (int_rs b _ w8 H8.out).mono ?_
                rw [ei]
                clear ei
                rintro e w9 ⟨v81, rfl, hd9, hr9, hk9, _⟩
                simp only []
                have hcv81 := run_string_of (P := Tryd.prog) (w := w9) 22 5 9 Tryd.underlying22 Tryd.underlying5 Tryd.underlying9 hd9
                rw [← HSZ.out] at hcv81
                have S9 := Lib.hid (S8.out.tr (HAB.out _ _ hk9))
                have H9 := Lib.hid hr9
                refine hK _ _ S9.out ?_
                clear hK K hd9 hr9 hk9
                refine plan_eff (by rfl) (fun K hK => ?_)
                go_simp
                refine hK _ _ S9.out ?_
                clear hK K hcv81
                repeat (first
                        | (refine plan_quiet (v := ?_) (by rfl) (fun wq hwq => ?_) ?_; rotate_left 1; (focus (go_simp; try (with_reducible rfl); done)); simp only [Act.put, List.setIfInBounds_toArray, List.set_cons_zero, List.set_cons_succ])
                        | (refine plan_skip (by rfl) ?_; simp only [Act.put, List.setIfInBounds_toArray, List.set_cons_zero, List.set_cons_succ]))
                refine plan_eff (by rfl) (fun K hK => ?_)
                go_simp
                refine (end_rs b _ w9 H9.out).mono ?_
                rw [decide_eq_true rfl]
                rintro e w10 ⟨rfl, rfl⟩
                simp only []
                refine hK _ _ S9.out ?_
                clear hK K
                repeat (first
                        | (refine plan_quiet (v := ?_) (by rfl) (fun wq hwq => ?_) ?_; rotate_left 1; (focus (go_simp; try (with_reducible rfl); done)); simp only [Act.put, List.setIfInBounds_toArray, List.set_cons_zero, List.set_cons_succ])
                        | (refine plan_skip (by rfl) ?_; simp only [Act.put, List.setIfInBounds_toArray, List.set_cons_zero, List.set_cons_succ]))
                refine plan_nil ?_
                go_wp2
                go_ret
                exact ⟨rfl, HKW.out.trans S9.out (fun _ _ h => h) (fun j hj (h : wr.heap.size ≤ j) => by have := HKW.out.size; omega)⟩
              · obtain ⟨x, rfl⟩ : ∃ x, ao = some x := Option.isSome_iff_exists.1 (by
                  cases ao with
                  | none => have := hc3 rfl; omega
                  | some x => rfl)
                clear hc3
                have hcvA : ∀ w', Kp (fun j => wr.heap.size ≤ j) wr w' → (convert 22 9 (.slice (some (x.add lb.length)) 0 (cap - lb.length))).run Tryd.prog w' = .ok (.string sz) w' := fun w' hw => by
                  rw [HSZ.out, ← hfin.out, List.drop_length]
                  exact run_string_of 22 5 9 Tryd.underlying22 Tryd.underlying5 Tryd.underlying9 (Rd.empty w' (some _) _ (by unfold maxLen; omega) (by simp))
                have HR6 : Hid (Rs w5 b (some (encText s.toList ++ (encNames l ++ encInt lb)))) := Lib.hid (by
                  have := HR5.out
                  simpa only [List.nil_append, List.append_assoc] using this)
                have HG5 : Hid (Gm w5.drew) := Lib.hid ((HG.out.keep HKW.out (fun h => h)).keep HK5.out.drew (fun h => hpos h))
                refine wp_region_plan (fun w => Kp (fun j => wr.heap.size ≤ j) wr w) [(0, true), (2, true), (1, false), (3, true), (4, true), (5, true), (7, true), (6, false), (8, false), (9, true), (10, true), (11, true), (14, true), (15, true), (16, true), (17, true), (12, false), (13, false), (18, true), (19, true), (20, true), (21, true), (22, false), (23, true), (24, true)] (by kernel_rfl) (by kernel_rfl) (by kernel_rfl) (by kernel_rfl) (fun _ d _ _ _ h => by cases d <;> exact h) HK5.out.drew ?_
                simp only [List.map_cons, List.map_nil, List.getElem?_toArray, List.getElem?_cons_zero, List.getElem?_cons_succ, Option.getD_some]
                repeat (first
                        | (refine plan_quiet (v := ?_) (by rfl) (fun wq hwq => ?_) ?_; rotate_left 1; (focus (go_simp; try (with_reducible rfl); done)); simp only [Act.put, List.setIfInBounds_toArray, List.set_cons_zero, List.set_cons_succ])
                        | (refine plan_skip (by rfl) ?_; simp only [Act.put, List.setIfInBounds_toArray, List.set_cons_zero, List.set_cons_succ]))
                refine plan_eff (by rfl) (fun K hK => ?_)
                go_simp
                refine (text_rs b _ w5.drew HR6.out).mono ?_
                rw [textS_enc s.toList _ (by rw [size_toList]; omega)]
                rintro e w6 ⟨t, rfl, ht, hr6, hk6⟩
                obtain rfl : t = s := str_ext ht
                simp only []
                have S6 := Lib.hid (HK5.out.drew.tr (HAB.out _ _ hk6))
                have H6 := Lib.hid hr6
                have G6 := Lib.hid (Gm.keep HG5.out hk6 (fun (e : 0 = b) => hb0 e.symm))
                refine hK _ _ S6.out ?_
                clear hK K ht hr6 hk6
                repeat (first
                        | (refine plan_quiet (v := ?_) (by rfl) (fun wq hwq => ?_) ?_; rotate_left 1; (focus (go_simp; try (with_reducible rfl); done)); simp only [Act.put, List.setIfInBounds_toArray, List.set_cons_zero, List.set_cons_succ])
                        | (refine plan_skip (by rfl) ?_; simp only [Act.put, List.setIfInBounds_toArray, List.set_cons_zero, List.set_cons_succ]))
                refine plan_eff (by rfl) (fun K hK => ?_)
                go_simp
                refine (names_rs b _ w6 H6.out G6.out hb0).mono ?_
                rw [namesS_enc l _ HCL.out (by omega)]
                rintro e w7 ⟨v75, ls, rfl, hd7, hls, hr7, hk7, _⟩
                simp only []
                have S7 := Lib.hid (S6.out.tr (HAB.out _ _ hk7))
                have H7 := Lib.hid hr7
                have D7 := Lib.hid hd7
                have HLS : Hid (decide (lists ls = lists l) = true) := Lib.hid (decide_eq_true hls)
                refine hK _ _ S7.out ?_
                clear hK K hr7 hk7 hd7 hls
                repeat (first
                        | (refine plan_quiet (v := ?_) (by rfl) (fun wq hwq => ?_) ?_; rotate_left 1; (focus (go_simp; try (with_reducible rfl); done)); simp only [Act.put, List.setIfInBounds_toArray, List.set_cons_zero, List.set_cons_succ])
                        | (refine plan_skip (by rfl) ?_; simp only [Act.put, List.setIfInBounds_toArray, List.set_cons_zero, List.set_cons_succ]))
                refine plan_eff (by rfl) (fun K hK => ?_)
                go_simp
                refine (texts_any _ _ ls l w7 D7.out (HR.out.keep S7.out (fun g _ h1 (h2 : wr.heap.size ≤ g) => by omega))).mono ?_
                rw [HLS.out]
                rintro e w8 ⟨rfl, hk8⟩
                simp only []
                have S8 := Lib.hid (S7.out.tr (hk8.nil _))
                have H8 := Lib.hid (H7.out.keep hk8 (fun h => h))
                refine hK _ _ S8.out ?_
                clear hK K hk8
                repeat (first
                        | (refine plan_quiet (v := ?_) (by rfl) (fun wq hwq => ?_) ?_; rotate_left 1; (focus (go_simp; try (with_reducible rfl); done)); simp only [Act.put, List.setIfInBounds_toArray, List.set_cons_zero, List.set_cons_succ])
                        | (refine plan_skip (by rfl) ?_; simp only [Act.put, List.setIfInBounds_toArray, List.set_cons_zero, List.set_cons_succ]))
                refine plan_eff (by rfl) (fun K hK => ?_)
                go_simp
                have ei := intS_enc lb [] (by omega)
                rw [List.append_nil] at ei
                refine (int_rs b _ w8 H8.out).mono ?_
                rw [ei]
                clear ei
                rintro e w9 ⟨v81, rfl, hd9, hr9, hk9, _⟩
                simp only []
                have hcv81 := run_string_of (P := Tryd.prog) (w := w9) 22 5 9 Tryd.underlying22 Tryd.underlying5 Tryd.underlying9 hd9
                rw [← HSZ.out] at hcv81
                have S9 := Lib.hid (S8.out.tr (HAB.out _ _ hk9))
                have H9 := Lib.hid hr9
                refine hK _ _ S9.out ?_
                clear hK K hd9 hr9 hk9
                refine plan_eff (by rfl) (fun K hK => ?_)
                go_simp
                refine hK _ _ S9.out ?_
                clear hK K hcv81
                repeat (first
                        | (refine plan_quiet (v := ?_) (by rfl) (fun wq hwq => ?_) ?_; rotate_left 1; (focus (go_simp; try (with_reducible rfl); done)); simp only [Act.put, List.setIfInBounds_toArray, List.set_cons_zero, List.set_cons_succ])
                        | (refine plan_skip (by rfl) ?_; simp only [Act.put, List.setIfInBounds_toArray, List.set_cons_zero, List.set_cons_succ]))
                refine plan_eff (by rfl) (fun K hK => ?_)
                go_simp
                refine (end_rs b _ w9 H9.out).mono ?_
                rw [decide_eq_true rfl]
                rintro e w10 ⟨rfl, rfl⟩
                simp only []
                refine hK _ _ S9.out ?_
                clear hK K
                repeat (first
                        | (refine plan_quiet (v := ?_) (by rfl) (fun wq hwq => ?_) ?_; rotate_left 1; (focus (go_simp; try (with_reducible rfl); done)); simp only [Act.put, List.setIfInBounds_toArray, List.set_cons_zero, List.set_cons_succ])
                        | (refine plan_skip (by rfl) ?_; simp only [Act.put, List.setIfInBounds_toArray, List.set_cons_zero, List.set_cons_succ]))
                refine plan_nil ?_
                go_wp2
                go_ret
                exact ⟨rfl, HKW.out.trans S9.out (fun _ _ h => h) (fun j hj (h : wr.heap.size ≤ j) => by have := HKW.out.size; omega)⟩
      · go_wp2
        all_goals go_ret
        all_goals exact ⟨rfl, HK1.out.tr HK.out⟩
theorem back_walk (s : ByteArray) (p v : Value) (l : List ByteArray) (lb : List UInt8) (w : World) (hp : Rd w p (strs l)) (hv : Rd w v (bys lb)) (hx : ∀ x ∈ l, x.size ≤ 140737488351232) (hgm : Gm w) (hsb : s.size ≤ 140737488351232) (hlb : lb.length ≤ 140737488351232) :
    Calls Tryd.prog 4 #[.string s, p, v] w fun e w' => e = .returned (.bool true) ∧ Kp0 w w' := by
  by_cases h : l.length ≤ 100
  · exact back_loop_small s p v l lb w hp hv hx h hgm hsb hlb
  · exact back_loop_big s p v l lb w hp hv hx (by omega)
end Go.Proofs.YtigghfbochemgaaDoor
