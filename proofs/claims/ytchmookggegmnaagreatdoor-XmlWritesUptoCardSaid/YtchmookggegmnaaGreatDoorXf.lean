/- Package xml: how texts are written. Package xml: how attributes are written. Package xml: how a tag is written. Package xml: how an element's end is written. Package xml: Text. The law of layer 13: an element, read and written. -/
import Derived.Test.YtchmookggegmnaaGreatDoorXe
namespace Go.Proofs.YtchmookggegmnaaGreatDoor
open Go Go.RowKit
/-- The entity as which a sign is written; []: it stands as it is. -/
def entN (x : Nat) : List UInt8 :=
  if x = 38 then [38, 97, 109, 112, 59] else if x = 60 then [38, 108, 116, 59] else if x = 62 then [38, 103, 116, 59] else if x = 34 then [38, 113, 117, 111, 116, 59]
  else if x = 13 then [38, 35, 49, 51, 59] else if x = 10 then [38, 35, 49, 48, 59] else if x = 9 then [38, 35, 57, 59] else []
def sp32 : List UInt8 := [38, 35, 51, 50, 59]
def escC (sp : Bool) (c : UInt8) : List UInt8 := if sp then sp32 else if entN c.toNat = [] then [c] else entN c.toNat
def escs (sp : Bool) : List UInt8 → List UInt8
  | [] => []
  | c :: l => escC sp c ++ escs sp l
def spaces (l : List UInt8) : Bool := Lib.trimS l [32] == []
def escX (l : List UInt8) : List UInt8 := escs (spaces l) l
theorem escC_len (sp : Bool) (c : UInt8) : (escC sp c).length ≤ 6 := by
  unfold escC entN sp32
  repeat' split
  all_goals simp
theorem escs_len (sp : Bool) : ∀ l, (escs sp l).length ≤ 6 * l.length
  | [] => by simp [escs]
  | c :: l => by
    have h1 := escC_len sp c
    have h2 := escs_len sp l
    simp only [escs, List.length_append, List.length_cons]
    omega
theorem escs_app (sp : Bool) : ∀ a b, escs sp (a ++ b) = escs sp a ++ escs sp b
  | [], b => rfl
  | c :: a, b => by
    simp only [List.cons_append, escs, escs_app sp a b, List.append_assoc]
theorem escs_step (sp : Bool) (s : List UInt8) (k : Nat) (h : k < s.length) : escs sp (s.take (k + 1)) = escs sp (s.take k) ++ escC sp (s[k]) := by
  rw [List.take_succ_eq_append_getElem h, escs_app]
  simp [escs]
/-- A write behind others. -/
theorem BbPost.step {T : TypeId} {B b : Nat} {v v1 : Value} {rest : List Value} {l2 : List UInt8} {w w1 w2 : World} (hk : Kp (fun g => g = b ∨ v.ownBlock = some g) w w1) (hv : ∀ g, v1.ownBlock = some g → v.ownBlock = some g ∨ w.heap.size ≤ g) (h : BbPost T B b v1 rest l2 w1 w2) : BbPost T B b v rest l2 w w2 := by
  obtain ⟨p2, v2, hb2, hk2, hv2⟩ := h
  refine ⟨p2, v2, hb2, kp_hear (B := B) hk hk2 hv, fun g hg => ?_⟩
  rcases hv2 g hg with h | h
  · exact hv g h
  · exact .inr (Nat.le_trans hk.size h)
set_option maxRecDepth 20000 in
theorem entityOf_any (x : Nat) (w : World) : Calls Tryz.prog 31 #[.int .u8 x] w fun e w' => ∃ s, e = .returned (.string s) ∧ s.toList = entN x ∧ w = w' := by
  by_cases h38 : x = 38
  · subst h38
    go_enter Tryz.func31, Tryz.ntmps31
    go_wp2
    all_goals go_ret
    all_goals exact ⟨_, rfl, (lit1 _).trans rfl, rfl⟩
  by_cases h60 : x = 60
  · subst h60
    go_enter Tryz.func31, Tryz.ntmps31
    go_wp2
    all_goals go_ret
    all_goals exact ⟨_, rfl, (lit1 _).trans rfl, rfl⟩
  by_cases h62 : x = 62
  · subst h62
    go_enter Tryz.func31, Tryz.ntmps31
    go_wp2
    all_goals go_ret
    all_goals exact ⟨_, rfl, (lit1 _).trans rfl, rfl⟩
  by_cases h34 : x = 34
  · subst h34
    go_enter Tryz.func31, Tryz.ntmps31
    go_wp2
    all_goals go_ret
    all_goals exact ⟨_, rfl, (lit1 _).trans rfl, rfl⟩
  by_cases h13 : x = 13
  · subst h13
    go_enter Tryz.func31, Tryz.ntmps31
    go_wp2
    all_goals go_ret
    all_goals exact ⟨_, rfl, (lit1 _).trans rfl, rfl⟩
  by_cases h10 : x = 10
  · subst h10
    go_enter Tryz.func31, Tryz.ntmps31
    go_wp2
    all_goals go_ret
    all_goals exact ⟨_, rfl, (lit1 _).trans rfl, rfl⟩
  by_cases h9 : x = 9
  · subst h9
    go_enter Tryz.func31, Tryz.ntmps31
    go_wp2
    all_goals go_ret
    all_goals exact ⟨_, rfl, (lit1 _).trans rfl, rfl⟩
  have g38 : ((x : Int) == 38) = false := by rw [beq_eq_false_iff_ne]; omega
  have g60 : ((x : Int) == 60) = false := by rw [beq_eq_false_iff_ne]; omega
  have g62 : ((x : Int) == 62) = false := by rw [beq_eq_false_iff_ne]; omega
  have g34 : ((x : Int) == 34) = false := by rw [beq_eq_false_iff_ne]; omega
  have g13 : ((x : Int) == 13) = false := by rw [beq_eq_false_iff_ne]; omega
  have g10 : ((x : Int) == 10) = false := by rw [beq_eq_false_iff_ne]; omega
  have g9 : ((x : Int) == 9) = false := by rw [beq_eq_false_iff_ne]; omega
  have he : Hid (entN x = []) := Lib.hid (by unfold entN; rw [if_neg h38, if_neg h60, if_neg h62, if_neg h34, if_neg h13, if_neg h10, if_neg h9])
  clear h38 h60 h62 h34 h13 h10 h9
  go_enter Tryz.func31, Tryz.ntmps31
  go_wp2
  all_goals go_ret
  all_goals exact ⟨_, rfl, (lit1 _).trans he.out.symm, rfl⟩
theorem sp_lit : ∀ (j : Nat) b, ({ data := #[32] } : ByteArray).data.toList[j]? = some b → b.toNat < 128 := ascii_of_all (by decide)
theorem hasW : HasB 43 3 := by unfold HasB; kernel_rfl
abbrev WrB : Nat → World → Nat → Value → Value → Value → List UInt8 → Prop := fun B w b p v ov l => Bb 43 B w b p v [ov] l
abbrev WrP : Nat → Nat → Value → Value → List UInt8 → World → World → Prop := fun B b v ov l w w' => BbPost 43 B b v [ov] l w w'
set_option maxRecDepth 20000 in
set_option maxHeartbeats 1000000 in
theorem escape_any (B b : Nat) (p v ov : Value) (l s : List UInt8) (w : World) (h : WrB B w b p v ov l) (hs : s.length ≤ 1000000000) (hl : l.length ≤ 100000000000000) :
    Calls Tryz.prog 23 #[.pointer (some ⟨b, 0, none⟩), .string (S s)] w fun e w' => e = .returned (.tuple #[]) ∧ WrP B b v ov (l ++ escX s) w w' := by
  obtain ⟨t, ht⟩ : ∃ t, t = Lib.trimS s [32] := ⟨_, rfl⟩
  have HT := Lib.hid ht
  have HX := Lib.hid h
  have HL := Lib.hid hl
  have HLS := Lib.hid hs
  have HS : Hid ((S s).size ≤ 9223372036854775807) := Lib.hid (by rw [S_size]; omega)
  obtain ⟨n, hn⟩ : ∃ n, n = s.length := ⟨_, rfl⟩
  have hsz : (S s).size = n := by rw [S_size, hn]
  have hni : (n : Int) ≤ 1000000000 := by omega
  have HNL := Lib.hid hn
  obtain ⟨sp, hsp⟩ : ∃ b, b = spaces s := ⟨_, rfl⟩
  have HSP := Lib.hid hsp
  have HSP2 : Hid (sp = (t == [])) := Lib.hid (by rw [hsp, ht]; rfl)
  have HE : Hid (escX s = escs sp s) := Lib.hid (by rw [hsp]; rfl)
  rw [HE.out]
  clear ht h hl hs hn hsp
  cases t with
  | nil =>
    obtain rfl : sp = true := HSP2.out
    have e0 : (S ([] : List UInt8)).toList = [] := S_toList _
    go_enter Tryz.func23, Tryz.ntmps23
    go_wp2_with fail
    refine (Any.strings_Trim_laid Tryz.lays160 (by kernel_rfl) (S s) _ _ HS.out (by decide) sp_lit).mono ?_
    (show ∀ (e : Ending) (w' : World), e = .returned (.string (S (Lib.trimS (S s).data.toList [32]))) ∧ _ → _)
    rw [S_data, ← HT.out]
    rintro e w1 ⟨rfl, hb⟩
    have HX1 := Lib.hid (HX.out.kp0 ((Kp.of_below hb).mono (fun i hi h2 => absurd hi (Nat.not_lt.2 h2))))
    have HK1 : Hid (Kp0 w w1) := Lib.hid ((Kp.of_below hb).mono (fun i hi h2 => absurd hi (Nat.not_lt.2 h2)))
    clear hb
    go_wp2
    obtain ⟨sp, hsp⟩ : ∃ b, b = true := ⟨_, rfl⟩
    have HQ := Lib.hid hsp
    go_loopg [12] n (fun gg i wr => ∃ (k : Nat) (p' v' : Value), i = .int .i64 k ∧ k ≤ n ∧ gg = n - k ∧ WrB B wr b p' v' ov (l ++ escs sp (s.take k)) ∧ Kp (fun g => g = b ∨ v.ownBlock = some g) w wr ∧ ∀ g, v'.ownBlock = some g → v.ownBlock = some g ∨ w.heap.size ≤ g)
    case atStart => exact ⟨0, p, v, rfl, Nat.zero_le _, rfl, by rw [List.take_zero]; show WrB _ _ _ _ _ _ (l ++ []); rw [List.append_nil]; exact HX1.out, HK1.out.nil _, fun g hg => .inl hg⟩
    case round =>
      obtain ⟨k, pk, vk, rfl, hk, rfl, hb, hkp, hv⟩ := hrel
      have HB := Lib.hid hb
      have HKP := Lib.hid hkp
      have HV := Lib.hid hv
      clear hb hkp hv
      by_cases hlt : k < n
      · have hlt' : k < s.length := by rw [← HNL.out]; exact hlt
        have hki : (k : Int) < n := by omega
        have HEC : Hid (escC sp (s[k]) = sp32) := Lib.hid (by rw [hsp]; rfl)
        have HLX : Hid ((l ++ escs sp (s.take k)).length + 5 ≤ 140737488355328) := Lib.hid (by
          have h1 := escs_len sp (s.take k)
          have h2 := HL.out
          have h3 := HLS.out
          rw [List.length_take] at h1
          rw [List.length_append]
          omega)
        clear hsp
        go_wp2_with (go_at_call 21; refine (writeS_any _ B b pk vk [ov] _ ⟨#[38, 35, 51, 50, 59]⟩ _ hasW HB.out HLX.out).mono ?_; rintro e2 w2 ⟨rfl, hp⟩; rw [lit1] at hp; have HP : Hid (WrP B b v ov (l ++ escs sp (s.take k) ++ escC sp (s[k])) w w2) := Lib.hid (by rw [HEC.out]; exact BbPost.step HKP.out HV.out hp); clear hp)
        go_roundg (n - (k + 1))
        case measure => omega
        case rel =>
          obtain ⟨p2, v2, hb2, hk2, hv2⟩ := HP.out
          refine ⟨k + 1, p2, v2, by go_num, by omega, rfl, ?_, hk2, hv2⟩
          rw [escs_step _ _ _ hlt', ← List.append_assoc]
          exact hb2
      ·
        obtain rfl : k = n := by omega
        have HF : Hid (escs sp (s.take k) = escs sp s) := Lib.hid (by rw [HNL.out, List.take_length])
        go_wp2
        all_goals go_end0
        all_goals exact ⟨rfl, pk, vk, by rw [← HQ.out, ← HF.out]; exact HB.out, HKP.out, HV.out⟩
  | cons a t =>
    obtain rfl : sp = false := HSP2.out
    have e0 : (S (a :: t)).toList.isEmpty = false := by rw [S_toList]; rfl
    have e1 : ((S (a :: t)).toList == []) = false := by rw [S_toList]; rfl
    go_enter Tryz.func23, Tryz.ntmps23
    go_wp2_with fail
    refine (Any.strings_Trim_laid Tryz.lays160 (by kernel_rfl) (S s) _ _ HS.out (by decide) sp_lit).mono ?_
    (show ∀ (e : Ending) (w' : World), e = .returned (.string (S (Lib.trimS (S s).data.toList [32]))) ∧ _ → _)
    rw [S_data, ← HT.out]
    rintro e w1 ⟨rfl, hb⟩
    have HX1 := Lib.hid (HX.out.kp0 ((Kp.of_below hb).mono (fun i hi h2 => absurd hi (Nat.not_lt.2 h2))))
    have HK1 : Hid (Kp0 w w1) := Lib.hid ((Kp.of_below hb).mono (fun i hi h2 => absurd hi (Nat.not_lt.2 h2)))
    clear hb
    go_wp2
    obtain ⟨sp, hsp⟩ : ∃ b, b = false := ⟨_, rfl⟩
    have HQ := Lib.hid hsp
    go_loopg [12] n (fun gg i wr => ∃ (k : Nat) (p' v' : Value), i = .int .i64 k ∧ k ≤ n ∧ gg = n - k ∧ WrB B wr b p' v' ov (l ++ escs sp (s.take k)) ∧ Kp (fun g => g = b ∨ v.ownBlock = some g) w wr ∧ ∀ g, v'.ownBlock = some g → v.ownBlock = some g ∨ w.heap.size ≤ g)
    case atStart => exact ⟨0, p, v, rfl, Nat.zero_le _, rfl, by rw [List.take_zero]; show WrB _ _ _ _ _ _ (l ++ []); rw [List.append_nil]; exact HX1.out, HK1.out.nil _, fun g hg => .inl hg⟩
    case round =>
      obtain ⟨k, pk, vk, rfl, hk, rfl, hb, hkp, hv⟩ := hrel
      have HB := Lib.hid hb
      have HKP := Lib.hid hkp
      have HV := Lib.hid hv
      clear hb hkp hv
      by_cases hlt : k < n
      · have hlt' : k < s.length := by rw [← HNL.out]; exact hlt
        have hki : (k : Int) < n := by omega
        have HLX : Hid ((l ++ escs sp (s.take k)).length + 6 ≤ 140737488355328) := Lib.hid (by
          have h1 := escs_len sp (s.take k)
          have h2 := HL.out
          have h3 := HLS.out
          rw [List.length_take] at h1
          rw [List.length_append]
          omega)
        obtain ⟨en, hen⟩ : ∃ x, x = entN (s[k]).toNat := ⟨_, rfl⟩
        have HEN := Lib.hid hen.symm
        have HEC : Hid (escC sp (s[k]) = if en = [] then [s[k]] else en) := Lib.hid (by rw [hsp, hen]; rfl)
        clear hsp hen
        cases en with
        | nil =>
          have HEC2 : Hid (escC sp (s[k]) = [s[k]]) := Lib.hid (by rw [HEC.out, if_pos rfl])
          go_upto_region 9 with (go_at_call 31; refine (entityOf_any (s[k]).toNat _).mono ?_; rw [HEN.out]; rintro e2 w2 ⟨st, rfl, hst, rfl⟩; have f0 : (st.toList == []) = true := (by rw [hst]; rfl); have f1 : st.toList.isEmpty = true := (by rw [hst]; rfl))
          refine wp_region_px 6 [] (fun _ : World => True) (.quiet 0 (.quiet 1 (.quiet 2 (.quiet 3 (.quiet 4 (.quiet 5 (.eff 6 .done))))))) (by kernel_rfl) (by kernel_rfl) (by kernel_rfl) (by kernel_rfl) (fun _ d _ _ _ h => by cases d <;> exact h) trivial ?_
          have HBD := Lib.hid (HB.out.kp0 (Kp.refl _ _).drew)
          have HKD := Lib.hid (HKP.out.drew)
          generalize wr.drew = wd at HBD HKD ⊢
          iterate 6 (refine px_quiet (v := ?_) rfl (by rfl) (fun wq hwq => ?_) rfl ?_; rotate_left 1; (focus (go_simp; try (with_reducible rfl); done)); try simp only [List.setIfInBounds_toArray, List.set_cons_zero, List.set_cons_succ])
          refine px_eff rfl (by rfl) (fun K hK => ?_)
          go_simp
          refine (writeB_any _ B b pk vk [ov] _ (s[k]) _ hasW HBD.out (by have := HLX.out; omega)).mono ?_
          rintro e2 w2 ⟨rfl, hp⟩
          have HP : Hid (WrP B b v ov (l ++ escs sp (s.take k) ++ escC sp (s[k])) w w2) := Lib.hid (by rw [HEC2.out]; exact BbPost.step HKD.out HV.out hp)
          simp only []
          refine hK (fun _ => True) _ _ (fun _ hx => hx) trivial (px_done ?_)
          clear hp
          go_wp2
          go_roundg (n - (k + 1))
          case measure => omega
          case rel =>
            obtain ⟨p2, v2, hb2, hk2, hv2⟩ := HP.out
            refine ⟨k + 1, p2, v2, by go_num, by omega, rfl, ?_, hk2, hv2⟩
            rw [escs_step _ _ _ hlt', ← List.append_assoc]
            exact hb2
        | cons x en =>
          have HEC2 : Hid (escC sp (s[k]) = x :: en) := Lib.hid (by rw [HEC.out, if_neg (by simp)])
          have HEL : Hid ((x :: en).length ≤ 6) := Lib.hid (by rw [← HEC2.out]; exact escC_len _ _)
          go_wp2_with (first
            | (go_at_call 31; refine (entityOf_any (s[k]).toNat _).mono ?_; rw [HEN.out]; rintro e2 w2 ⟨st, rfl, hst, rfl⟩; have HST := Lib.hid hst; have f0 : (st.toList == []) = false := (by rw [hst]; rfl); have f1 : st.toList.isEmpty = false := (by rw [hst]; rfl); clear hst)
            | (go_at_call 21; refine (writeS_any _ B b pk vk [ov] _ st _ hasW HB.out (by have h1 := HLX.out; have h2 := HEL.out; rw [← HST.out, size_toList] at h2; omega)).mono ?_; rintro e2 w2 ⟨rfl, hp⟩; rw [HST.out] at hp; have HP : Hid (WrP B b v ov (l ++ escs sp (s.take k) ++ escC sp (s[k])) w w2) := Lib.hid (by rw [HEC2.out]; exact BbPost.step HKP.out HV.out hp); clear hp))
          go_roundg (n - (k + 1))
          case measure => omega
          case rel =>
            obtain ⟨p2, v2, hb2, hk2, hv2⟩ := HP.out
            refine ⟨k + 1, p2, v2, by go_num, by omega, rfl, ?_, hk2, hv2⟩
            rw [escs_step _ _ _ hlt', ← List.append_assoc]
            exact hb2
      ·
        obtain rfl : k = n := by omega
        have HF : Hid (escs sp (s.take k) = escs sp s) := Lib.hid (by rw [HNL.out, List.take_length])
        go_wp2
        all_goals go_end0
        all_goals exact ⟨rfl, pk, vk, by rw [← HQ.out, ← HF.out]; exact HB.out, HKP.out, HV.out⟩
end Go.Proofs.YtchmookggegmnaaGreatDoor
namespace Go.Proofs.YtchmookggegmnaaGreatDoor
open Go Go.RowKit
def attW (n v : List UInt8) : List UInt8 := ([32] ++ n ++ [61, 34]) ++ escX v ++ [34]
theorem attW_len (n v : List UInt8) : (attW n v).length ≤ n.length + 6 * v.length + 4 := by
  have := escs_len (spaces v) v
  simp only [attW, escX, List.length_append, List.length_cons, List.length_nil]
  omega
theorem app_toList (a b : ByteArray) : (a ++ b).toList = a.toList ++ b.toList := by
  have h := S_app a.toList b.toList
  rw [S_of, S_of] at h
  rw [h, S_toList]
set_option maxRecDepth 20000 in
set_option maxHeartbeats 1000000 in
theorem attribute_w (B b : Nat) (p v ov : Value) (l n x : List UInt8) (w : World) (h : WrB B w b p v ov l) (hn : n.length ≤ 1000000000) (hx : x.length ≤ 1000000000) (hl : l.length ≤ 10000000000000) :
    Calls Tryz.prog 22 #[.pointer (some ⟨b, 0, none⟩), .string (S n), .string (S x)] w fun e w' => e = .returned (.tuple #[]) ∧ WrP B b v ov (l ++ attW n x) w w' := by
  have HX := Lib.hid h
  have HL := Lib.hid hl
  have HNL := Lib.hid hn
  have HXL := Lib.hid hx
  have hsn : (S n).size ≤ 1000000000 := by rw [S_size]; exact hn
  clear h hl hn hx
  go_enter Tryz.func22, Tryz.ntmps22
  go_wp2_with fail
  refine (writeS_any _ B b p v [ov] _ _ _ hasW HX.out (by rw [ByteArray.size_append, ByteArray.size_append, S_size]; have h1 := HL.out; have h2 := HNL.out; show l.length + (1 + n.length + 2) ≤ _; omega)).mono ?_
  rintro e1 w1 ⟨rfl, hp1⟩
  rw [app_toList, app_toList, S_toList, lit1, lit1] at hp1
  obtain ⟨p1, v1, hb1, hk1, hv1⟩ := hp1
  have HB1 := Lib.hid hb1
  have HK1 := Lib.hid hk1
  have HV1 := Lib.hid hv1
  clear hb1 hk1 hv1
  go_wp2_with fail
  refine (escape_any B b p1 v1 ov _ x _ HB1.out HXL.out (by have h1 := HL.out; have h2 := HNL.out; simp only [List.length_append, List.length_cons, List.length_nil]; omega)).mono ?_
  rintro e2 w2 ⟨rfl, hp2⟩
  obtain ⟨p2, v2, hb2, hk2, hv2⟩ := BbPost.step HK1.out HV1.out hp2
  have HB2 := Lib.hid hb2
  have HK2 := Lib.hid hk2
  have HV2 := Lib.hid hv2
  clear hb2 hk2 hv2 hp2
  go_wp2_with fail
  refine (writeS_any _ B b p2 v2 [ov] _ ⟨#[34]⟩ _ hasW HB2.out (by
    have h1 := HL.out
    have h2 := HNL.out
    have h3 := HXL.out
    have h4 := escs_len (spaces x) x
    simp only [escX, List.length_append, List.length_cons, List.length_nil]
    show _ + 1 ≤ _
    omega)).mono ?_
  rintro e3 w3 ⟨rfl, hp3⟩
  rw [lit1] at hp3
  have HP := Lib.hid (BbPost.step HK2.out HV2.out hp3)
  clear hp3
  go_wp2
  all_goals go_end0
  all_goals refine ⟨rfl, ?_⟩
  all_goals (have h := HP.out; simp only [attW]; simp only [← List.append_assoc] at h ⊢; exact h)
/-- An element whose end isn't written yet: its name, its namespace, what is left in it. -/
abbrev Lv := (List UInt8 × List UInt8) × List PE
def LvsV (F : Nat → Prop) (w : World) : List Lv → List Value → Prop
  | [], kc => kc = []
  | x :: st, kc => ∃ k rest cs, kc = .string (S x.1.1) :: .string (S x.1.2) :: k :: rest ∧ RdF F w 5 k x.2.length cs ∧ ElsV F w x.2 cs ∧ LvsV F w st rest
theorem LvsV.keep {F : Nat → Prop} {w w1 : World} {S' : Nat → Prop} (hk : Kp S' w w1) (hs : ∀ i, F i → ¬ S' i) : ∀ (st : List Lv) (kc : List Value), LvsV F w st kc → LvsV F w1 st kc
  | [], _, h => h
  | _ :: st, _, ⟨k, rest, cs, h1, h2, h3, h4⟩ => ⟨k, rest, cs, h1, h2.keep hk hs, ElsV.keep hk hs (fun _ h => h) _ _ h3, LvsV.keep hk hs st rest h4⟩
theorem LvsV.len {F : Nat → Prop} {w : World} : ∀ (st : List Lv) (kc : List Value), LvsV F w st kc → kc.length = st.length * 3
  | [], kc, h => by cases h; rfl
  | x :: st, kc, ⟨k, rest, cs, h1, _, _, h4⟩ => by
    subst h1
    have := LvsV.len st rest h4
    simp only [List.length_cons, this]
    omega
theorem LvsV.snoc {F : Nat → Prop} {w : World} {x : Lv} {k : Value} {cs : List Value} (h2 : RdF F w 5 k x.2.length cs) (h3 : ElsV F w x.2 cs) : ∀ (st : List Lv) (kc : List Value), LvsV F w st kc → LvsV F w (st ++ [x]) (kc ++ [.string (S x.1.1), .string (S x.1.2), k])
  | [], kc, h => by cases h; exact ⟨k, [], cs, rfl, h2, h3, rfl⟩
  | y :: st, kc, ⟨k', rest, cs', h1, a, b, c⟩ => by
    subst h1
    exact ⟨k', _, cs', rfl, a, b, LvsV.snoc h2 h3 st rest c⟩
/-- The last one's cells. -/
theorem LvsV.last {F : Nat → Prop} {w : World} {x : Lv} : ∀ (st : List Lv) (kc : List Value), LvsV F w (st ++ [x]) kc → ∃ kc0 k cs, kc = kc0 ++ [.string (S x.1.1), .string (S x.1.2), k] ∧ LvsV F w st kc0 ∧ RdF F w 5 k x.2.length cs ∧ ElsV F w x.2 cs
  | [], kc, ⟨k, rest, cs, h1, a, b, c⟩ => by cases c; exact ⟨[], k, cs, h1, rfl, a, b⟩
  | y :: st, kc, ⟨k', rest, cs', h1, a, b, c⟩ => by
    subst h1
    obtain ⟨kc0, k, cs, rfl, h2, h3, h4⟩ := LvsV.last st rest c
    exact ⟨_, k, cs, rfl, ⟨k', kc0, cs', rfl, a, b, h2⟩, h3, h4⟩
/-- A writer in memory. -/
structure WrV (B : Nat) (F : Nat → Prop) (w : World) (b : Nat) (p v ov : Value) (l : List UInt8) (st : List Lv) (kc : List Value) : Prop where
  bb : WrB B w b p v ov l
  ow : w.ownsRow B 47 3 ov st.length kc
  lv : LvsV F w st kc
  n1 : ∀ g, ov.ownBlock = some g → g ≠ b
  n2 : ∀ g, v.ownBlock = some g → ov.ownBlock ≠ some g
  ff : ∀ i, F i → i < B
section
variable {B : Nat} {F : Nat → Prop} {w w1 : World} {b : Nat} {p v ov : Value} {l l' : List UInt8} {st : List Lv} {kc : List Value}
theorem WrV.lt (h : WrV B F w b p v ov l st kc) : b < w.heap.size := h.bb.lt
theorem WrV.keep (h : WrV B F w b p v ov l st kc) {S' : Nat → Prop} (hk : Kp S' w w1) (hb : ¬ S' b) (hv : ∀ g, v.ownBlock = some g → ¬ S' g) (ho : ∀ g, ov.ownBlock = some g → ¬ S' g) (hf : ∀ i, F i → ¬ S' i) : WrV B F w1 b p v ov l st kc :=
  ⟨h.bb.keep hk hb hv, own_keep h.ow hk ho, h.lv.keep hk hf, h.n1, h.n2, h.ff⟩
theorem WrV.kp0 (h : WrV B F w b p v ov l st kc) (hk : Kp0 w w1) : WrV B F w1 b p v ov l st kc := h.keep hk (fun h => h) (fun _ _ h => h) (fun _ _ h => h) (fun _ _ h => h)
theorem WrV.vB (h : WrV B F w b p v ov l st kc) {g : Nat} (hg : v.ownBlock = some g) : B ≤ g ∧ g < w.heap.size := h.bb.ow.lt g hg
theorem WrV.oB (h : WrV B F w b p v ov l st kc) {g : Nat} (hg : ov.ownBlock = some g) : B ≤ g ∧ g < w.heap.size := h.ow.lt g hg
/-- Something was written. -/
theorem WrV.write (h : WrV B F w b p v ov l st kc) (hp : WrP B b v ov l' w w1) : ∃ p' v', WrV B F w1 b p' v' ov l' st kc ∧ Kp (fun g => g = b ∨ v.ownBlock = some g) w w1 ∧ ∀ g, v'.ownBlock = some g → v.ownBlock = some g ∨ w.heap.size ≤ g := by
  obtain ⟨p', v', hb, hk, hv⟩ := hp
  refine ⟨p', v', ⟨hb, own_keep h.ow hk (fun g hg e => ?_), h.lv.keep hk (fun i hi e => ?_), h.n1, fun g hg e => ?_, h.ff⟩, hk, hv⟩
  · exact e.elim (h.n1 g hg) (fun e => h.n2 g e hg)
  · have h1 := h.ff i hi
    have h2 := h.bb.ge
    rcases e with e | e
    · omega
    · have := (h.vB e).1; omega
  · rcases hv g hg with h1 | h1
    · exact h.n2 g h1 e
    · have := (h.oB e).2; omega
/-- Another row of open elements laid. -/
theorem WrV.putO (h : WrV B F w b p v ov l st kc) (hk : Kp (fun g => ov.ownBlock = some g) w w1) {st1 : List Lv} {kc1 : List Value} {ov1 : Value} (ho : w1.ownsRow B 47 3 ov1 st1.length kc1) (hv : LvsV F w1 st1 kc1) (hb : ∀ g, ov1.ownBlock = some g → ov.ownBlock = some g ∨ w.heap.size ≤ g) :
    WrV B F (w1.setCell ⟨b, 2, none⟩ ov1) b p v ov1 l st1 kc1 ∧ Kp (fun g => g = b ∨ ov.ownBlock = some g) w (w1.setCell ⟨b, 2, none⟩ ov1) := by
  have hs : Kp (fun g => g = b) w1 (w1.setCell ⟨b, 2, none⟩ ov1) := (Kp.refl (fun g => g = b) w1).setCell (p := ⟨b, 2, none⟩) (fun _ => rfl) _
  have hlt := h.lt
  have hne : ∀ g, ov1.ownBlock = some g → g ≠ b := fun g hg => by
    rcases hb g hg with h1 | h1
    · exact h.n1 g h1
    · omega
  have hB := h.bb.blk.keep hk (fun e => h.n1 b e rfl)
  refine ⟨⟨⟨hB.set' 2 ov1, (h.bb.ow.keep hk (fun g hg _ _ e => h.n2 g hg e)).keep hs (fun g hg _ _ => h.bb.ne g hg), h.bb.pp, h.bb.ge, h.bb.ne, h.bb.nl⟩, own_keep ho hs hne, hv.keep hs (fun i hi e => by have h1 := h.ff i hi; have h2 := h.bb.ge; omega), hne, fun g hg e => ?_, h.ff⟩, hk.trans hs (fun _ _ h => .inr h) (fun _ _ h => .inl h)⟩
  rcases hb g e with h1 | h1
  · exact h.n2 g hg h1
  · have := (h.vB hg).2; omega
end
def SW (b : Nat) (v ov : Value) : Nat → Prop := fun g => g = b ∨ v.ownBlock = some g ∨ ov.ownBlock = some g
end Go.Proofs.YtchmookggegmnaaGreatDoor
namespace Go.Proofs.YtchmookggegmnaaGreatDoor
open Go Go.RowKit
def attsW : List (List UInt8 × List UInt8) → List UInt8
  | [] => []
  | a :: l => attW a.1 a.2 ++ attsW l
def xmlnsL : List UInt8 := [120, 109, 108, 110, 115]
def spW (sp ar : List UInt8) : List UInt8 := if sp = ar then [] else attW xmlnsL sp
def endW (tx : List UInt8) (ks : List PE) : List UInt8 := if tx = [] ∧ ks = [] then [47, 62] else [62] ++ escX tx
def tagW : PE → List UInt8 → List UInt8
  | .mk sp nm at_ tx ks, ar => [60] ++ nm ++ spW sp ar ++ attsW at_ ++ endW tx ks
def stW (st : List Lv) : PE → List Lv
  | .mk sp nm _ tx ks => if tx = [] ∧ ks = [] then st else st ++ [((nm, sp), ks)]
theorem attsW_app : ∀ a b, attsW (a ++ b) = attsW a ++ attsW b
  | [], b => rfl
  | x :: a, b => by simp only [List.cons_append, attsW, attsW_app a b, List.append_assoc]
theorem attsW_step (s : List (List UInt8 × List UInt8)) (k : Nat) (h : k < s.length) : attsW (s.take (k + 1)) = attsW (s.take k) ++ attW (s[k]).1 (s[k]).2 := by
  rw [List.take_succ_eq_append_getElem h, attsW_app]
  simp [attsW]
theorem attsW_le (s : List (List UInt8 × List UInt8)) (k : Nat) : (attsW (s.take k)).length ≤ (attsW s).length := by
  have h := congrArg List.length (attsW_app (s.take k) (s.drop k))
  rw [List.take_append_drop, List.length_append] at h
  omega
theorem escs_ge (sp : Bool) : ∀ l, l.length ≤ (escs sp l).length
  | [] => by simp
  | c :: l => by
    have h1 : 1 ≤ (escC sp c).length := by
      unfold escC sp32 entN
      repeat' split
      all_goals simp_all
    have h2 := escs_ge sp l
    simp only [escs, List.length_append, List.length_cons]
    omega
theorem attW_ge (n v : List UInt8) : n.length ≤ (attW n v).length ∧ v.length ≤ (attW n v).length := by
  have := escs_ge (spaces v) v
  simp only [attW, escX, List.length_append, List.length_cons, List.length_nil]
  omega
theorem atts_get (s : List (List UInt8 × List UInt8)) (k : Nat) (h : k < s.length) : (s[k]).1.length ≤ (attsW s).length ∧ (s[k]).2.length ≤ (attsW s).length := by
  have h1 := attsW_step s k h
  have h2 := attsW_le s (k + 1)
  have h3 := attW_ge (s[k]).1 (s[k]).2
  rw [h1, List.length_append] at h2
  omega
theorem attsW_ge : ∀ s : List (List UInt8 × List UInt8), s.length ≤ (attsW s).length
  | [] => by simp
  | a :: s => by
    have h1 := attsW_ge s
    simp only [attsW, attW, List.length_append, List.length_cons, List.length_nil]
    omega
theorem infoLv : (Tryz.prog.info? 47).map (fun i => (i.zero, i.size, i.bytes)) = some (some (.agg #[.string { data := #[] }, .string { data := #[] }, .slice none 0 0]), 3, 56) := by kernel_rfl
def BgW (B : Nat) (F : Nat → Prop) (b : Nat) (v ov : Value) (l : List UInt8) (st : List Lv) (w w' : World) : Prop :=
  ∃ p' v' ov' kc', WrV B F w' b p' v' ov' l st kc' ∧ Kp (SW b v ov) w w' ∧ (∀ g, v'.ownBlock = some g → v.ownBlock = some g ∨ w.heap.size ≤ g) ∧ ∀ g, ov'.ownBlock = some g → ov.ownBlock = some g ∨ w.heap.size ≤ g
set_option maxRecDepth 20000 in
set_option maxHeartbeats 4000000 in
theorem begin_w (B : Nat) (F : Nat → Prop) (b : Nat) (p v ov : Value) (l : List UInt8) (st : List Lv) (kc : List Value) (e : PE) (ar : List UInt8) (c0 c1 c2 c3 c4 : Value) (w : World) (h : WrV B F w b p v ov l st kc) (he : ElV F w e c0 c1 c2 c3 c4) (hl : (l ++ tagW e ar).length ≤ 1000000000) (hst : st.length ≤ 1000000000) :
    Calls Tryz.prog 13 #[.pointer (some ⟨b, 0, none⟩), .agg #[c0, c1, c2, c3, c4], .string (S ar)] w fun e' w' => e' = .returned (.tuple #[]) ∧ BgW B F b v ov (l ++ tagW e ar) (stW st e) w w' := by
  obtain ⟨sp, nm, at_, tx, ks⟩ := e
  unfold ElV at he
  obtain ⟨rfl, rfl, hra, rfl, cs, hrk, hek⟩ := he
  obtain ⟨a2, p2, rfl, hp2, -⟩ := hra.sl
  obtain ⟨a4, p4, rfl, hp4, -⟩ := hrk.sl
  obtain ⟨aov, cov, hvs, -⟩ := ownK_sl h.ow
  have HVS := Lib.hid hvs
  clear hvs
  obtain ⟨eb, heb⟩ : ∃ g, g = w.heap.size := ⟨_, rfl⟩
  obtain ⟨w0, hw0⟩ : ∃ x, x = w.alloc (.cells #[.string (S sp), .string (S nm), .slice a2 at_.length p2, .string (S tx), .slice a4 ks.length p4] 25) := ⟨_, rfl⟩
  have hkA : Kp0 w w0 := by rw [hw0]; exact (Kp.refl _ _).alloc _
  have HBE : Hid (Blk w0 eb 25 [.string (S sp), .string (S nm), .slice a2 at_.length p2, .string (S tx), .slice a4 ks.length p4]) := Lib.hid (by rw [hw0, heb]; exact blk0 w _ _)
  have HEB : Hid (eb = w.heap.size ∧ b < w.heap.size ∧ w0.heap.size = w.heap.size + 1) := Lib.hid ⟨heb, h.lt, by rw [hw0]; simp⟩
  have H := Lib.hid h
  have H0 := Lib.hid (h.kp0 hkA)
  have HKA := Lib.hid hkA
  have HRA := Lib.hid (hra.keep hkA (fun _ _ h => h))
  have HRK := Lib.hid (hrk.keep hkA (fun _ _ h => h))
  have HEK := Lib.hid (ElsV.keep hkA (fun _ _ h => h) (fun _ h => h) _ _ hek)
  have hsn : (S nm).size ≤ 1000000000 := by
    rw [S_size]
    simp only [tagW, List.length_append] at hl
    omega
  have hng : ¬ 9223372036854775807 < 1 + (S nm).size := by omega
  obtain ⟨nk, hnk⟩ : ∃ n, n = ks.length := ⟨_, rfl⟩
  have HNK := Lib.hid hnk
  obtain ⟨na, hna⟩ : ∃ n, n = at_.length := ⟨_, rfl⟩
  have HNA := Lib.hid hna
  have HL := Lib.hid hl
  have HST := Lib.hid hst
  rw [← hna] at HRA HBE hw0 ⊢
  rw [← hnk] at HRK HBE hw0 ⊢
  have hnai : (na : Int) ≤ p2 := by omega
  have hnab : (na : Int) ≤ 1000000000 := by
    have h1 := attsW_ge at_
    have h2 := HL.out
    simp only [tagW, List.length_append] at h2
    omega
  clear h hra hrk hek hl hst hkA hp2 hp4 hna hnk
  go_enter Tryz.func13, Tryz.ntmps13
  go_upto_region 1 with (fail)
  rw [← hw0, ← heb]
  clear hw0 heb
  have b0 := HBE.out.cellV 0 rfl
  have b1 := HBE.out.cellV 1 rfl
  have HSV : Hid (∀ g, (g = b ∨ v.ownBlock = some g) → g ≠ eb ∧ ¬ F g) := Lib.hid (fun g hg => by
    have h1 := HEB.out
    have h2 := H.out.bb.ge
    rcases hg with rfl | e
    · exact ⟨by omega, fun hf => by have := H.out.ff _ hf; omega⟩
    · have := H.out.vB e
      exact ⟨by omega, fun hf => by have := H.out.ff _ hf; omega⟩)
  refine wp_region_px 6 [] (fun w' : World => Kp (fun g => g = b ∨ v.ownBlock = some g) w0.drew w') (.quiet 0 (.quiet 1 (.quiet 2 (.quiet 3 (.quiet 4 (.quiet 5 (.eff 6 .done))))))) (by kernel_rfl) (by kernel_rfl) (by kernel_rfl) (by kernel_rfl) (fun _ d _ _ _ h => by cases d <;> exact h) (Kp.refl _ _) ?_
  have HB8 := Lib.hid (HBE.out.kp0 (Kp.refl _ _).drew)
  have H8 := Lib.hid (H0.out.kp0 (Kp.refl _ _).drew)
  have HK8 := Lib.hid (HKA.out.drew)
  have HS8 : Hid (w0.drew.heap.size = w.heap.size + 1) := Lib.hid HEB.out.2.2
  have HRA8 := Lib.hid (HRA.out.keep ((Kp.refl (fun _ => False) w0).drew) (fun _ _ h => h))
  have HRK8 := Lib.hid (HRK.out.keep ((Kp.refl (fun _ => False) w0).drew) (fun _ _ h => h))
  have HEK8 := Lib.hid (ElsV.keep ((Kp.refl (fun _ => False) w0).drew) (fun _ _ h => h) (fun _ h => h) _ _ HEK.out)
  generalize w0.drew = w8 at HB8 H8 HK8 HS8 HRA8 HRK8 HEK8 ⊢
  clear b0 b1 HBE H0 HKA HRA HRK HEK
  iterate 6 (refine px_quiet (v := ?_) rfl (by rfl) (fun wq hwq => ?_) rfl ?_; rotate_left 1; (focus (have b1 := (HB8.out.keep hwq (fun e => (HSV.out _ e).1 rfl)).cellV 1 rfl; go_simp; first | (with_reducible rfl) | (rw [if_neg hng]; rfl))); try simp only [List.setIfInBounds_toArray, List.set_cons_zero, List.set_cons_succ])
  refine px_eff rfl (by rfl) (fun K hK => ?_)
  go_simp
  refine (writeS_any _ B b p v [ov] _ _ _ hasW H8.out.bb (by rw [ByteArray.size_append, S_size]; have h1 := HL.out; simp only [tagW, List.length_append] at h1; show l.length + (1 + nm.length) ≤ _; omega)).mono ?_
  rintro e1 w1 ⟨he1, hp1⟩
  obtain ⟨z1, rfl⟩ : ∃ z : Int, e1 = .returned (.tuple #[.int .i64 z, .nilIface]) := ⟨_, he1⟩
  rw [app_toList, S_toList, lit1] at hp1
  clear he1
  simp only []
  obtain ⟨p1, v1, h1, hk1, hv1⟩ := H8.out.write hp1
  refine hK (fun w' => Kp (fun g => g = b ∨ v.ownBlock = some g) w8 w') _ _ (fun _ h => h) hk1 (px_done ?_)
  clear hp1
  have H1 := Lib.hid h1
  have HK1 := Lib.hid hk1
  have HV1 := Lib.hid hv1
  clear h1 hk1 hv1 hng hK K
  have hbe1 := HB8.out.keep HK1.out (fun e => (HSV.out _ e).1 rfl)
  have b0 := hbe1.cellV 0 rfl
  have b1 := hbe1.cellV 1 rfl
  by_cases hsa : sp = ar
  · have HSP : Hid (spW sp ar = []) := Lib.hid (if_pos hsa)
    have t1 : ((S sp).toList == (S ar).toList) = true := by rw [hsa]; simp
    have t2 : (S sp).toList = (S ar).toList := by rw [hsa]
    clear hsa
    go_upto_region 4 with (fail)
    obtain ⟨L0, hL0⟩ : ∃ x, x = l ++ ([60] ++ nm) := ⟨_, rfl⟩
    rw [← hL0] at H1
    have HTL : Hid (l ++ tagW (.mk sp nm at_ tx ks) ar = L0 ++ attsW at_ ++ endW tx ks) := Lib.hid (by rw [hL0]; simp only [tagW, HSP.out, List.append_nil, ← List.append_assoc])
    have HLT : Hid ((L0 ++ attsW at_ ++ endW tx ks).length ≤ 1000000000) := Lib.hid (by rw [← HTL.out]; exact HL.out)
    have HX := H1
    have HKX := HK1
    have HVX := HV1
    clear hL0
    have hbx := HB8.out.keep HKX.out (fun e => (HSV.out _ e).1 rfl)
    have b2 := hbx.cellV 2 rfl
    clear hbx
    go_wp2
    go_loopg [26] na (fun gg i wr => ∃ (k : Nat) (pk vk : Value), i = .int .i64 k ∧ k ≤ na ∧ gg = na - k ∧ WrV B F wr b pk vk ov (L0 ++ attsW (at_.take k)) st kc ∧ Kp (fun g => g = b ∨ v.ownBlock = some g) w8 wr ∧ ∀ g, vk.ownBlock = some g → v.ownBlock = some g ∨ w8.heap.size ≤ g)
    case atStart => exact ⟨0, _, _, rfl, Nat.zero_le _, rfl, by rw [List.take_zero]; show WrV _ _ _ _ _ _ _ (L0 ++ []) _ _; rw [List.append_nil]; exact HX.out, HKX.out, HVX.out⟩
    case round =>
      obtain ⟨k, pk, vk, rfl, hk, rfl, hb, hkp, hv⟩ := hrel
      have HB := Lib.hid hb
      have HKP := Lib.hid hkp
      have HV := Lib.hid hv
      have hra := HRA8.out.keep hkp (fun i hi e => (HSV.out _ e).2 hi)
      clear hb hkp hv
      by_cases hlt : k < na
      · have hlt' : k < at_.length := by rw [← HNA.out]; exact hlt
        have hki : (k : Int) < na := by omega
        obtain ⟨ao, cap, h1, h2, h3, h4, h5, h6⟩ := hra
        simp only [Value.slice.injEq] at h1
        obtain ⟨rfl, -, rfl⟩ := h1
        obtain ⟨ad, rfl⟩ : ∃ ad, a2 = some ad := by
          cases a2 with
          | none => have := h5 rfl; omega
          | some ad => exact ⟨ad, rfl⟩
        obtain ⟨g1, g2⟩ := prs_get at_ k hlt'
        have c0 := (h6 ad rfl _ _ g1).2
        have c1 := (h6 ad rfl _ _ g2).2
        have c1b : wr.cell? ((ad.add (k * 2)).add 1) = some (.string (S (at_[k]).2)) := by rw [Addr.add_add]; exact c1
        have c1c : wr.cell? ⟨(ad.add (k * 2)).block, (ad.add (k * 2)).off + 1, none⟩ = some (.string (S (at_[k]).2)) := c1b
        clear h2 h4 h5 h6 g1 g2
        go_wp2_with fail
        have HBA := Lib.hid (HB.out.kp0 ((Kp.refl _ _).alloc (.cells #[.string (S (at_[k]).1), .string (S (at_[k]).2)] 62)))
        have HKA2 := Lib.hid (HKP.out.alloc (.cells #[.string (S (at_[k]).1), .string (S (at_[k]).2)] 62))
        have HGE := Lib.hid (atts_get at_ k hlt')
        refine (attribute_w B b pk vk ov _ (at_[k]).1 (at_[k]).2 _ HBA.out.bb (by have h1 := HGE.out; have h2 := HLT.out; simp only [List.length_append] at h2; omega) (by have h1 := HGE.out; have h2 := HLT.out; simp only [List.length_append] at h2; omega) (by have h1 := attsW_le at_ k; have h2 := HLT.out; simp only [List.length_append] at h2 ⊢; omega)).mono ?_
        rintro e2 w2 ⟨rfl, hp⟩
        obtain ⟨p2', v2', h2, hk2, hv2⟩ := HBA.out.write hp
        have H2 := Lib.hid h2
        have HK2 := Lib.hid hk2
        have HV2 := Lib.hid hv2
        clear hp h2 hk2 hv2 c0 c1 c1b c1c
        go_wp2
        go_roundg (na - (k + 1))
        case measure => omega
        case rel => exact ⟨k + 1, p2', v2', by go_num, by omega, rfl, by rw [attsW_step at_ k hlt', ← List.append_assoc]; exact H2.out, kp_hear (B := B) HKA2.out HK2.out HV.out, fun g hg => (HV2.out g hg).elim (HV.out g) (fun h => .inr (Nat.le_trans HKA2.out.size h))⟩
      · obtain rfl : k = na := by omega
        have HF : Hid (attsW (at_.take k) = attsW at_) := Lib.hid (by rw [HNA.out, List.take_length])
        have HZ : Hid (WrV B F wr b pk vk ov (L0 ++ attsW at_) st kc) := Lib.hid (by rw [← HF.out]; exact HB.out)
        have hbx := HB8.out.keep HKP.out (fun e => (HSV.out _ e).1 rfl)
        have b3 := hbx.cellV 3 rfl
        have b4 := hbx.cellV 4 rfl
        clear hbx hra HB
        cases tx with
        | nil =>
          have t3 : (S ([] : List UInt8)).toList = [] := S_toList _
          have t4 : ((S ([] : List UInt8)).toList == []) = true := by rw [S_toList]; rfl
          by_cases hnk : nk = 0
          · have hks : ks = [] := List.eq_nil_of_length_eq_zero (by rw [← HNK.out]; exact hnk)
            have HEW : Hid (endW ([] : List UInt8) ks = [47, 62]) := Lib.hid (if_pos ⟨rfl, hks⟩)
            have HSTW : Hid (stW st (.mk sp nm at_ [] ks) = st) := Lib.hid (if_pos ⟨rfl, hks⟩)
            have hnki : ((nk : Int) == 0) = true := by rw [beq_iff_eq]; omega
            clear hks hnk
            go_wp2_with fail
            refine (writeS_any _ B b pk vk [ov] _ ⟨#[47, 62]⟩ _ hasW HZ.out.bb (by have h2 := HLT.out; simp only [List.length_append] at h2 ⊢; show _ + 2 ≤ _; omega)).mono ?_
            rintro e3 w3 ⟨rfl, hp⟩
            rw [lit1] at hp
            obtain ⟨p3, v3, h3, hk3, hv3⟩ := HZ.out.write hp
            have H3 := Lib.hid h3
            have HK3 := Lib.hid hk3
            have HV3 := Lib.hid hv3
            clear hp h3 hk3 hv3
            go_wp2
            all_goals ((try simp only [Exit.inBlock, Exit.then]); refine bodyPost_ret (results_none rfl _ _ _) rfl ?_)
            all_goals refine ⟨rfl, p3, v3, ov, kc, ?_, ?_, fun g hg => ?_, fun g hg => .inl hg⟩
            · rw [HTL.out, HEW.out, HSTW.out]
              exact H3.out
            · exact (HK8.out.in0 (kp_hear (B := B) HKP.out HK3.out HV.out)).mono (fun i _ h => h.elim .inl (fun h => .inr (.inl h)))
            · rcases HV3.out g hg with h | h
              · rcases HV.out g h with h | h
                · exact .inl h
                · exact .inr (Nat.le_trans HK8.out.size h)
              · exact .inr (Nat.le_trans HK8.out.size (Nat.le_trans HKP.out.size h))
          · have hks : ¬ ks = [] := fun e => hnk (by rw [HNK.out, e]; rfl)
            have HEW : Hid (endW ([] : List UInt8) ks = [62] ++ escX []) := Lib.hid (if_neg (fun h => hks h.2))
            have HSTW : Hid (stW st (.mk sp nm at_ [] ks) = st ++ [((nm, sp), ks)]) := Lib.hid (if_neg (fun h => hks h.2))
            have hnki : ((nk : Int) == 0) = false := by rw [beq_eq_false_iff_ne]; omega
            have HTXL : Hid (([] : List UInt8).length ≤ 1000000000) := Lib.hid (Nat.zero_le _)
            clear hks hnk
            go_wp2_with fail
            refine (writeS_any _ B b pk vk [ov] _ ⟨#[62]⟩ _ hasW HZ.out.bb (by have h2 := HLT.out; simp only [List.length_append] at h2 ⊢; show _ + 1 ≤ _; omega)).mono ?_
            rintro e3 w3 ⟨rfl, hp⟩
            rw [lit1] at hp
            obtain ⟨p3, v3, h3, hk3, hv3⟩ := HZ.out.write hp
            have H3 := Lib.hid h3
            have HK3 := Lib.hid (kp_hear (B := B) HKP.out hk3 HV.out)
            have HV3 : Hid (∀ g, v3.ownBlock = some g → v.ownBlock = some g ∨ w8.heap.size ≤ g) := Lib.hid (fun g hg => (hv3 g hg).elim (HV.out g) (fun h => .inr (Nat.le_trans HKP.out.size h)))
            have hbx := HB8.out.keep HK3.out (fun e => (HSV.out _ e).1 rfl)
            have b3 := hbx.cellV 3 rfl
            clear hp h3 hk3 hv3 b4 hbx
            go_wp2_with fail
            refine (escape_any B b p3 v3 ov _ _ _ H3.out.bb HTXL.out (by have h2 := HLT.out; simp only [List.length_append, List.length_cons, List.length_nil] at h2 ⊢; omega)).mono ?_
            rintro e4 w4 ⟨rfl, hp⟩
            obtain ⟨pz, vz, h4, hk4, hv4⟩ := H3.out.write hp
            have H4 := Lib.hid h4
            have HK4 := Lib.hid (kp_hear (B := B) HK3.out hk4 HV3.out)
            have HV4 : Hid (∀ g, vz.ownBlock = some g → v.ownBlock = some g ∨ w8.heap.size ≤ g) := Lib.hid (fun g hg => (hv4 g hg).elim (HV3.out g) (fun h => .inr (Nat.le_trans HK3.out.size h)))
            clear hp h4 hk4 hv4 b3
            go_upto_region 13 with (fail)
            refine wp_region_px 16 [16] (fun w' : World => Kp (fun g => ov.ownBlock = some g) w4.drew w') (.quiet 0 (.quiet 1 (.quiet 2 (.quiet 3 (.quiet 4 (.quiet 5 (.quiet 6 (.quiet 7 (.quiet 8 (.quiet 9 (.quiet 10 (.quiet 11 (.eff 12 (.eff 13 (.quiet 14 (.quiet 15 (.wall 16 .done))))))))))))))))) (by kernel_rfl) (by kernel_rfl) (by kernel_rfl) (by kernel_rfl) (fun _ d _ _ _ h => by cases d <;> exact h) (Kp.refl _ _) ?_
            have H5 := Lib.hid (H4.out.kp0 (Kp.refl _ _).drew)
            have HK5 := Lib.hid (HK4.out.drew)
            have HSW : Hid (w8.heap.size ≤ w4.drew.heap.size) := Lib.hid HK5.out.size
            generalize w4.drew = w5 at H5 HK5 HSW ⊢
            clear H4 HK4
            have HB5 := Lib.hid (HB8.out.keep HK5.out (fun e => (HSV.out _ e).1 rfl))
            have HRK5 := Lib.hid (HRK8.out.keep HK5.out (fun i hi e => (HSV.out _ e).2 hi))
            have HEK5 := Lib.hid (ElsV.keep HK5.out (fun i hi e => (HSV.out _ e).2 hi) (fun _ h => h) _ _ HEK8.out)
            have HOE : Hid (∀ g, ov.ownBlock = some g → eb ≠ g) := Lib.hid (fun g hg e => by have := H.out.oB hg; have := HEB.out; omega)
            have HOF : Hid (∀ g, F g → ¬ ov.ownBlock = some g) := Lib.hid (fun g hf hg => by have := H.out.oB hg; have := H.out.ff g hf; omega)
            iterate 12 (refine px_quiet (v := ?_) rfl (by rfl) (fun wq hwq => ?_) rfl ?_; rotate_left 1; (focus (have q5 := (H5.out.bb.blk.keep hwq (fun e => H5.out.n1 b e rfl)).cellV 2 rfl; rw [HVS.out] at q5; have hbq := HB5.out.keep hwq (fun e => HOE.out _ e rfl); have q0 := hbq.cellV 0 rfl; have q1 := hbq.cellV 1 rfl; have q4 := hbq.cellV 4 rfl; go_simp; try (with_reducible rfl); done)); try simp only [List.setIfInBounds_toArray, List.set_cons_zero, List.set_cons_succ])
            refine px_eff rfl (by rfl) (fun K hK => ?_)
            go_simp
            have hkA : Kp0 w5 (w5.alloc (.cells #[.string (S nm), .string (S sp), .slice a4 nk p4] 47)) := (Kp.refl _ _).alloc _
            have HCE : Hid (∀ j u, ([.string (S nm), .string (S sp), .slice a4 nk p4] : List Value)[j]? = some u → (w5.alloc (.cells #[.string (S nm), .string (S sp), .slice a4 nk p4] 47)).cell? ((⟨w5.heap.size, 0, none⟩ : Addr).add j) = some u) := Lib.hid (fun j u hj => by
              rw [Addr.add_lit, Nat.zero_add]
              have hB := blk0 w5 47 [.string (S nm), .string (S sp), .slice a4 nk p4]
              rw [blk_cell hB j, List.getElem?_toArray]
              exact hj)
            have H9 := Lib.hid (H5.out.kp0 hkA)
            have HRK9 := Lib.hid (HRK5.out.keep hkA (fun _ _ h => h))
            have HEK9 := Lib.hid (ElsV.keep hkA (fun _ _ h => h) (fun _ h => h) _ _ HEK5.out)
            have HKA := Lib.hid hkA
            generalize w5.alloc (.cells #[.string (S nm), .string (S sp), .slice a4 nk p4] 47) = w9 at H9 HRK9 HEK9 HKA HCE hkA ⊢
            refine hK (fun w' => Kp (fun g => ov.ownBlock = some g) w9 w') _ _ (fun x hx => (hkA.nil _).tr hx) (Kp.refl _ _) ?_
            clear hK K hkA
            refine px_eff rfl (by rfl) (fun K hK => ?_)
            have hown9 := H9.out.ow
            rw [HVS.out] at hown9
            refine wp_append_k (.tmp 62) (.tmp 70) 41 rfl Tryz.underlying41 infoLv rfl (by decide) rfl hown9 ⟨w5.heap.size, 0, none⟩ 1 1 [.string (S nm), .string (S sp), .slice a4 nk p4] rfl rfl HCE.out (by intro u hu; simp at hu; rcases hu with rfl | rfl | rfl <;> rfl) (by have := HST.out; unfold maxLen; omega) (by have := HST.out; omega) (by have h1 := HKA.out.size; have h2 := H5.out.bb.ge; have h3 := H5.out.lt; omega) ?_
            intro va2 wA hoA hkA hbA hnA
            obtain ⟨aoA, capA, hvaA, hcA1, hcA2⟩ := ownK_sl hoA
            subst hvaA
            rw [← HVS.out] at hkA hbA
            have hst1 : st.length + 1 = (st ++ [((nm, sp), ks)]).length := by simp
            have HT := Lib.hid (H9.out.putO (st1 := st ++ [((nm, sp), ks)]) (kc1 := kc ++ [.string (S nm), .string (S sp), .slice a4 nk p4]) hkA (by rw [← hst1]; exact hoA) (LvsV.snoc (x := ((nm, sp), ks)) (by have h := HRK9.out.keep hkA HOF.out; rw [HNK.out] at h ⊢; exact h) (ElsV.keep hkA HOF.out (fun _ h => h) _ _ HEK9.out) _ _ (H9.out.lv.keep hkA HOF.out)) hbA)
            have hfA : wA.frozen? ⟨b, 2, none⟩ = false := blk_frozen (H9.out.bb.blk.keep hkA (fun e => H9.out.n1 b e rfl)) 2
            have hcA : wA.cell? ⟨b, 2, none⟩ = some ov := (H9.out.bb.blk.keep hkA (fun e => H9.out.n1 b e rfl)).cellV 2 rfl
            have HBA := Lib.hid hbA
            refine hK (fun w' => Kp (fun g => ov.ownBlock = some g) w9 w') _ _ (fun _ h => h) hkA ?_
            clear hK K hown9 hoA hkA hbA hnA hcA1 hcA2 hst1
            simp only [Act.put, List.getElem_toArray, List.getElem_cons_succ, List.getElem_cons_zero]
            try simp only [List.setIfInBounds_toArray, List.set_cons_zero, List.set_cons_succ]
            iterate 2 (refine px_quiet (v := ?_) rfl (by rfl) (fun wq hwq => ?_) rfl ?_; rotate_left 1; (focus (clear hwq; go_simp; try (with_reducible rfl); done)); try simp only [List.setIfInBounds_toArray, List.set_cons_zero, List.set_cons_succ])
            refine px_wall rfl (by rfl) (fun K hK => ?_)
            go_simp
            refine hK (fun _ => True) _ _ trivial (px_done ?_)
            clear hK K hfA hcA
            go_wp2
            all_goals go_end0
            all_goals refine ⟨rfl, pz, vz, .slice aoA (st.length + 1) capA, _, by rw [HTL.out, HEW.out, HSTW.out, ← List.append_assoc]; exact HT.out.1, ?_, fun g hg => ?_, fun g hg => ?_⟩
            · exact ((HK8.out.in0 HK5.out).tr (HKA.out.nil _)).trans HT.out.2 (fun i _ h => h.elim .inl (fun h => .inr (.inl h))) (fun i _ h => h.elim .inl (fun h => .inr (.inr h)))
            · exact (HV4.out g hg).imp id (fun h => Nat.le_trans HK8.out.size h)
            · exact (HBA.out g hg).imp id (fun h => by have h1 := HK8.out.size; have h2 := HSW.out; have h3 := HKA.out.size; have h4 := HK5.out.size; omega)
        | cons ch tx =>
          have t3 : ¬ (S (ch :: tx)).toList = [] := by rw [S_toList]; simp
          have t4 : ((S (ch :: tx)).toList == []) = false := by rw [S_toList]; rfl
          have HEW : Hid (endW (ch :: tx) ks = [62] ++ escX (ch :: tx)) := Lib.hid (if_neg (fun h => by cases h.1))
          have HSTW : Hid (stW st (.mk sp nm at_ (ch :: tx) ks) = st ++ [((nm, sp), ks)]) := Lib.hid (show (if (ch :: tx) = [] ∧ ks = [] then st else st ++ [((nm, sp), ks)]) = _ from if_neg (by simp))
          have HTXL : Hid ((ch :: tx).length ≤ 1000000000) := Lib.hid (by
            have h1 := HLT.out
            rw [HEW.out] at h1
            have h2 := escs_ge (spaces (ch :: tx)) (ch :: tx)
            simp only [List.length_append, escX] at h1
            omega)
          go_wp2_with fail
          refine (writeS_any _ B b pk vk [ov] _ ⟨#[62]⟩ _ hasW HZ.out.bb (by have h2 := HLT.out; simp only [List.length_append] at h2 ⊢; show _ + 1 ≤ _; omega)).mono ?_
          rintro e3 w3 ⟨rfl, hp⟩
          rw [lit1] at hp
          obtain ⟨p3, v3, h3, hk3, hv3⟩ := HZ.out.write hp
          have H3 := Lib.hid h3
          have HK3 := Lib.hid (kp_hear (B := B) HKP.out hk3 HV.out)
          have HV3 : Hid (∀ g, v3.ownBlock = some g → v.ownBlock = some g ∨ w8.heap.size ≤ g) := Lib.hid (fun g hg => (hv3 g hg).elim (HV.out g) (fun h => .inr (Nat.le_trans HKP.out.size h)))
          have hbx := HB8.out.keep HK3.out (fun e => (HSV.out _ e).1 rfl)
          have b3 := hbx.cellV 3 rfl
          clear hp h3 hk3 hv3 b4 hbx
          go_wp2_with fail
          refine (escape_any B b p3 v3 ov _ _ _ H3.out.bb HTXL.out (by have h2 := HLT.out; simp only [List.length_append, List.length_cons, List.length_nil] at h2 ⊢; omega)).mono ?_
          rintro e4 w4 ⟨rfl, hp⟩
          obtain ⟨pz, vz, h4, hk4, hv4⟩ := H3.out.write hp
          have H4 := Lib.hid h4
          have HK4 := Lib.hid (kp_hear (B := B) HK3.out hk4 HV3.out)
          have HV4 : Hid (∀ g, vz.ownBlock = some g → v.ownBlock = some g ∨ w8.heap.size ≤ g) := Lib.hid (fun g hg => (hv4 g hg).elim (HV3.out g) (fun h => .inr (Nat.le_trans HK3.out.size h)))
          clear hp h4 hk4 hv4 b3
          go_upto_region 13 with (fail)
          refine wp_region_px 16 [16] (fun w' : World => Kp (fun g => ov.ownBlock = some g) w4.drew w') (.quiet 0 (.quiet 1 (.quiet 2 (.quiet 3 (.quiet 4 (.quiet 5 (.quiet 6 (.quiet 7 (.quiet 8 (.quiet 9 (.quiet 10 (.quiet 11 (.eff 12 (.eff 13 (.quiet 14 (.quiet 15 (.wall 16 .done))))))))))))))))) (by kernel_rfl) (by kernel_rfl) (by kernel_rfl) (by kernel_rfl) (fun _ d _ _ _ h => by cases d <;> exact h) (Kp.refl _ _) ?_
          have H5 := Lib.hid (H4.out.kp0 (Kp.refl _ _).drew)
          have HK5 := Lib.hid (HK4.out.drew)
          have HSW : Hid (w8.heap.size ≤ w4.drew.heap.size) := Lib.hid HK5.out.size
          generalize w4.drew = w5 at H5 HK5 HSW ⊢
          clear H4 HK4
          have HB5 := Lib.hid (HB8.out.keep HK5.out (fun e => (HSV.out _ e).1 rfl))
          have HRK5 := Lib.hid (HRK8.out.keep HK5.out (fun i hi e => (HSV.out _ e).2 hi))
          have HEK5 := Lib.hid (ElsV.keep HK5.out (fun i hi e => (HSV.out _ e).2 hi) (fun _ h => h) _ _ HEK8.out)
          have HOE : Hid (∀ g, ov.ownBlock = some g → eb ≠ g) := Lib.hid (fun g hg e => by have := H.out.oB hg; have := HEB.out; omega)
          have HOF : Hid (∀ g, F g → ¬ ov.ownBlock = some g) := Lib.hid (fun g hf hg => by have := H.out.oB hg; have := H.out.ff g hf; omega)
          iterate 12 (refine px_quiet (v := ?_) rfl (by rfl) (fun wq hwq => ?_) rfl ?_; rotate_left 1; (focus (have q5 := (H5.out.bb.blk.keep hwq (fun e => H5.out.n1 b e rfl)).cellV 2 rfl; rw [HVS.out] at q5; have hbq := HB5.out.keep hwq (fun e => HOE.out _ e rfl); have q0 := hbq.cellV 0 rfl; have q1 := hbq.cellV 1 rfl; have q4 := hbq.cellV 4 rfl; go_simp; try (with_reducible rfl); done)); try simp only [List.setIfInBounds_toArray, List.set_cons_zero, List.set_cons_succ])
          refine px_eff rfl (by rfl) (fun K hK => ?_)
          go_simp
          have hkA : Kp0 w5 (w5.alloc (.cells #[.string (S nm), .string (S sp), .slice a4 nk p4] 47)) := (Kp.refl _ _).alloc _
          have HCE : Hid (∀ j u, ([.string (S nm), .string (S sp), .slice a4 nk p4] : List Value)[j]? = some u → (w5.alloc (.cells #[.string (S nm), .string (S sp), .slice a4 nk p4] 47)).cell? ((⟨w5.heap.size, 0, none⟩ : Addr).add j) = some u) := Lib.hid (fun j u hj => by
            rw [Addr.add_lit, Nat.zero_add]
            have hB := blk0 w5 47 [.string (S nm), .string (S sp), .slice a4 nk p4]
            rw [blk_cell hB j, List.getElem?_toArray]
            exact hj)
          have H9 := Lib.hid (H5.out.kp0 hkA)
          have HRK9 := Lib.hid (HRK5.out.keep hkA (fun _ _ h => h))
          have HEK9 := Lib.hid (ElsV.keep hkA (fun _ _ h => h) (fun _ h => h) _ _ HEK5.out)
          have HKA := Lib.hid hkA
          generalize w5.alloc (.cells #[.string (S nm), .string (S sp), .slice a4 nk p4] 47) = w9 at H9 HRK9 HEK9 HKA HCE hkA ⊢
          refine hK (fun w' => Kp (fun g => ov.ownBlock = some g) w9 w') _ _ (fun x hx => (hkA.nil _).tr hx) (Kp.refl _ _) ?_
          clear hK K hkA
          refine px_eff rfl (by rfl) (fun K hK => ?_)
          have hown9 := H9.out.ow
          rw [HVS.out] at hown9
          refine wp_append_k (.tmp 62) (.tmp 70) 41 rfl Tryz.underlying41 infoLv rfl (by decide) rfl hown9 ⟨w5.heap.size, 0, none⟩ 1 1 [.string (S nm), .string (S sp), .slice a4 nk p4] rfl rfl HCE.out (by intro u hu; simp at hu; rcases hu with rfl | rfl | rfl <;> rfl) (by have := HST.out; unfold maxLen; omega) (by have := HST.out; omega) (by have h1 := HKA.out.size; have h2 := H5.out.bb.ge; have h3 := H5.out.lt; omega) ?_
          intro va2 wA hoA hkA hbA hnA
          obtain ⟨aoA, capA, hvaA, hcA1, hcA2⟩ := ownK_sl hoA
          subst hvaA
          rw [← HVS.out] at hkA hbA
          have hst1 : st.length + 1 = (st ++ [((nm, sp), ks)]).length := by simp
          have HT := Lib.hid (H9.out.putO (st1 := st ++ [((nm, sp), ks)]) (kc1 := kc ++ [.string (S nm), .string (S sp), .slice a4 nk p4]) hkA (by rw [← hst1]; exact hoA) (LvsV.snoc (x := ((nm, sp), ks)) (by have h := HRK9.out.keep hkA HOF.out; rw [HNK.out] at h ⊢; exact h) (ElsV.keep hkA HOF.out (fun _ h => h) _ _ HEK9.out) _ _ (H9.out.lv.keep hkA HOF.out)) hbA)
          have hfA : wA.frozen? ⟨b, 2, none⟩ = false := blk_frozen (H9.out.bb.blk.keep hkA (fun e => H9.out.n1 b e rfl)) 2
          have hcA : wA.cell? ⟨b, 2, none⟩ = some ov := (H9.out.bb.blk.keep hkA (fun e => H9.out.n1 b e rfl)).cellV 2 rfl
          have HBA := Lib.hid hbA
          refine hK (fun w' => Kp (fun g => ov.ownBlock = some g) w9 w') _ _ (fun _ h => h) hkA ?_
          clear hK K hown9 hoA hkA hbA hnA hcA1 hcA2 hst1
          simp only [Act.put, List.getElem_toArray, List.getElem_cons_succ, List.getElem_cons_zero]
          try simp only [List.setIfInBounds_toArray, List.set_cons_zero, List.set_cons_succ]
          iterate 2 (refine px_quiet (v := ?_) rfl (by rfl) (fun wq hwq => ?_) rfl ?_; rotate_left 1; (focus (clear hwq; go_simp; try (with_reducible rfl); done)); try simp only [List.setIfInBounds_toArray, List.set_cons_zero, List.set_cons_succ])
          refine px_wall rfl (by rfl) (fun K hK => ?_)
          go_simp
          refine hK (fun _ => True) _ _ trivial (px_done ?_)
          clear hK K hfA hcA
          go_wp2
          all_goals go_end0
          all_goals refine ⟨rfl, pz, vz, .slice aoA (st.length + 1) capA, _, by rw [HTL.out, HEW.out, HSTW.out, ← List.append_assoc]; exact HT.out.1, ?_, fun g hg => ?_, fun g hg => ?_⟩
          · exact ((HK8.out.in0 HK5.out).tr (HKA.out.nil _)).trans HT.out.2 (fun i _ h => h.elim .inl (fun h => .inr (.inl h))) (fun i _ h => h.elim .inl (fun h => .inr (.inr h)))
          · exact (HV4.out g hg).imp id (fun h => Nat.le_trans HK8.out.size h)
          · exact (HBA.out g hg).imp id (fun h => by have h1 := HK8.out.size; have h2 := HSW.out; have h3 := HKA.out.size; have h4 := HK5.out.size; omega)
  · have HSP : Hid (spW sp ar = attW xmlnsL sp) := Lib.hid (if_neg hsa)
    have t1 : ((S sp).toList == (S ar).toList) = false := by rw [S_toList, S_toList, beq_eq_false_iff_ne]; exact hsa
    have t2 : ¬ (S sp).toList = (S ar).toList := by rw [S_toList, S_toList]; exact hsa
    clear hsa
    go_wp2_with fail
    refine (attribute_w B b _ _ ov _ xmlnsL sp _ H1.out.bb (by decide) (by have h1 := (attW_ge xmlnsL sp).2; have h2 := HL.out; simp only [tagW, HSP.out, List.length_append] at h2; omega) (by have h2 := HL.out; simp only [tagW, HSP.out, List.length_append] at h2 ⊢; omega)).mono ?_
    rintro e2 w2 ⟨rfl, hp⟩
    obtain ⟨p2', v2', h2, hk2, hv2⟩ := H1.out.write hp
    obtain ⟨L0, hL0⟩ : ∃ x, x = l ++ ([60] ++ nm) ++ attW xmlnsL sp := ⟨_, rfl⟩
    rw [← hL0] at h2
    have HTL : Hid (l ++ tagW (.mk sp nm at_ tx ks) ar = L0 ++ attsW at_ ++ endW tx ks) := Lib.hid (by rw [hL0]; simp only [tagW, HSP.out, ← List.append_assoc])
    have HLT : Hid ((L0 ++ attsW at_ ++ endW tx ks).length ≤ 1000000000) := Lib.hid (by rw [← HTL.out]; exact HL.out)
    have HX := Lib.hid h2
    have HKX := Lib.hid (kp_hear (B := B) HK1.out hk2 HV1.out)
    have HVX : Hid (∀ g, v2'.ownBlock = some g → v.ownBlock = some g ∨ w8.heap.size ≤ g) := Lib.hid (fun g hg => (hv2 g hg).elim (HV1.out g) (fun h => .inr (Nat.le_trans HK1.out.size h)))
    clear hp h2 hk2 hv2 hL0 b0 b1 t1 t2
    have hbx := HB8.out.keep HKX.out (fun e => (HSV.out _ e).1 rfl)
    have b2 := hbx.cellV 2 rfl
    clear hbx
    go_wp2
    go_loopg [26] na (fun gg i wr => ∃ (k : Nat) (pk vk : Value), i = .int .i64 k ∧ k ≤ na ∧ gg = na - k ∧ WrV B F wr b pk vk ov (L0 ++ attsW (at_.take k)) st kc ∧ Kp (fun g => g = b ∨ v.ownBlock = some g) w8 wr ∧ ∀ g, vk.ownBlock = some g → v.ownBlock = some g ∨ w8.heap.size ≤ g)
    case atStart => exact ⟨0, _, _, rfl, Nat.zero_le _, rfl, by rw [List.take_zero]; show WrV _ _ _ _ _ _ _ (L0 ++ []) _ _; rw [List.append_nil]; exact HX.out, HKX.out, HVX.out⟩
    case round =>
      obtain ⟨k, pk, vk, rfl, hk, rfl, hb, hkp, hv⟩ := hrel
      have HB := Lib.hid hb
      have HKP := Lib.hid hkp
      have HV := Lib.hid hv
      have hra := HRA8.out.keep hkp (fun i hi e => (HSV.out _ e).2 hi)
      clear hb hkp hv
      by_cases hlt : k < na
      · have hlt' : k < at_.length := by rw [← HNA.out]; exact hlt
        have hki : (k : Int) < na := by omega
        obtain ⟨ao, cap, h1, h2, h3, h4, h5, h6⟩ := hra
        simp only [Value.slice.injEq] at h1
        obtain ⟨rfl, -, rfl⟩ := h1
        obtain ⟨ad, rfl⟩ : ∃ ad, a2 = some ad := by
          cases a2 with
          | none => have := h5 rfl; omega
          | some ad => exact ⟨ad, rfl⟩
        obtain ⟨g1, g2⟩ := prs_get at_ k hlt'
        have c0 := (h6 ad rfl _ _ g1).2
        have c1 := (h6 ad rfl _ _ g2).2
        have c1b : wr.cell? ((ad.add (k * 2)).add 1) = some (.string (S (at_[k]).2)) := by rw [Addr.add_add]; exact c1
        have c1c : wr.cell? ⟨(ad.add (k * 2)).block, (ad.add (k * 2)).off + 1, none⟩ = some (.string (S (at_[k]).2)) := c1b
        clear h2 h4 h5 h6 g1 g2
        go_wp2_with fail
        have HBA := Lib.hid (HB.out.kp0 ((Kp.refl _ _).alloc (.cells #[.string (S (at_[k]).1), .string (S (at_[k]).2)] 62)))
        have HKA2 := Lib.hid (HKP.out.alloc (.cells #[.string (S (at_[k]).1), .string (S (at_[k]).2)] 62))
        have HGE := Lib.hid (atts_get at_ k hlt')
        refine (attribute_w B b pk vk ov _ (at_[k]).1 (at_[k]).2 _ HBA.out.bb (by have h1 := HGE.out; have h2 := HLT.out; simp only [List.length_append] at h2; omega) (by have h1 := HGE.out; have h2 := HLT.out; simp only [List.length_append] at h2; omega) (by have h1 := attsW_le at_ k; have h2 := HLT.out; simp only [List.length_append] at h2 ⊢; omega)).mono ?_
        rintro e2 w2 ⟨rfl, hp⟩
        obtain ⟨p2', v2', h2, hk2, hv2⟩ := HBA.out.write hp
        have H2 := Lib.hid h2
        have HK2 := Lib.hid hk2
        have HV2 := Lib.hid hv2
        clear hp h2 hk2 hv2 c0 c1 c1b c1c
        go_wp2
        go_roundg (na - (k + 1))
        case measure => omega
        case rel => exact ⟨k + 1, p2', v2', by go_num, by omega, rfl, by rw [attsW_step at_ k hlt', ← List.append_assoc]; exact H2.out, kp_hear (B := B) HKA2.out HK2.out HV.out, fun g hg => (HV2.out g hg).elim (HV.out g) (fun h => .inr (Nat.le_trans HKA2.out.size h))⟩
      · obtain rfl : k = na := by omega
        have HF : Hid (attsW (at_.take k) = attsW at_) := Lib.hid (by rw [HNA.out, List.take_length])
        have HZ : Hid (WrV B F wr b pk vk ov (L0 ++ attsW at_) st kc) := Lib.hid (by rw [← HF.out]; exact HB.out)
        have hbx := HB8.out.keep HKP.out (fun e => (HSV.out _ e).1 rfl)
        have b3 := hbx.cellV 3 rfl
        have b4 := hbx.cellV 4 rfl
        clear hbx hra HB
        cases tx with
        | nil =>
          have t3 : (S ([] : List UInt8)).toList = [] := S_toList _
          have t4 : ((S ([] : List UInt8)).toList == []) = true := by rw [S_toList]; rfl
          by_cases hnk : nk = 0
          · have hks : ks = [] := List.eq_nil_of_length_eq_zero (by rw [← HNK.out]; exact hnk)
            have HEW : Hid (endW ([] : List UInt8) ks = [47, 62]) := Lib.hid (if_pos ⟨rfl, hks⟩)
            have HSTW : Hid (stW st (.mk sp nm at_ [] ks) = st) := Lib.hid (if_pos ⟨rfl, hks⟩)
            have hnki : ((nk : Int) == 0) = true := by rw [beq_iff_eq]; omega
            clear hks hnk
            go_wp2_with fail
            refine (writeS_any _ B b pk vk [ov] _ ⟨#[47, 62]⟩ _ hasW HZ.out.bb (by have h2 := HLT.out; simp only [List.length_append] at h2 ⊢; show _ + 2 ≤ _; omega)).mono ?_
            rintro e3 w3 ⟨rfl, hp⟩
            rw [lit1] at hp
            obtain ⟨p3, v3, h3, hk3, hv3⟩ := HZ.out.write hp
            have H3 := Lib.hid h3
            have HK3 := Lib.hid hk3
            have HV3 := Lib.hid hv3
            clear hp h3 hk3 hv3
            go_wp2
            all_goals ((try simp only [Exit.inBlock, Exit.then]); refine bodyPost_ret (results_none rfl _ _ _) rfl ?_)
            all_goals refine ⟨rfl, p3, v3, ov, kc, ?_, ?_, fun g hg => ?_, fun g hg => .inl hg⟩
            · rw [HTL.out, HEW.out, HSTW.out]
              exact H3.out
            · exact (HK8.out.in0 (kp_hear (B := B) HKP.out HK3.out HV.out)).mono (fun i _ h => h.elim .inl (fun h => .inr (.inl h)))
            · rcases HV3.out g hg with h | h
              · rcases HV.out g h with h | h
                · exact .inl h
                · exact .inr (Nat.le_trans HK8.out.size h)
              · exact .inr (Nat.le_trans HK8.out.size (Nat.le_trans HKP.out.size h))
          · have hks : ¬ ks = [] := fun e => hnk (by rw [HNK.out, e]; rfl)
            have HEW : Hid (endW ([] : List UInt8) ks = [62] ++ escX []) := Lib.hid (if_neg (fun h => hks h.2))
            have HSTW : Hid (stW st (.mk sp nm at_ [] ks) = st ++ [((nm, sp), ks)]) := Lib.hid (if_neg (fun h => hks h.2))
            have hnki : ((nk : Int) == 0) = false := by rw [beq_eq_false_iff_ne]; omega
            have HTXL : Hid (([] : List UInt8).length ≤ 1000000000) := Lib.hid (Nat.zero_le _)
            clear hks hnk
            go_wp2_with fail
            refine (writeS_any _ B b pk vk [ov] _ ⟨#[62]⟩ _ hasW HZ.out.bb (by have h2 := HLT.out; simp only [List.length_append] at h2 ⊢; show _ + 1 ≤ _; omega)).mono ?_
            rintro e3 w3 ⟨rfl, hp⟩
            rw [lit1] at hp
            obtain ⟨p3, v3, h3, hk3, hv3⟩ := HZ.out.write hp
            have H3 := Lib.hid h3
            have HK3 := Lib.hid (kp_hear (B := B) HKP.out hk3 HV.out)
            have HV3 : Hid (∀ g, v3.ownBlock = some g → v.ownBlock = some g ∨ w8.heap.size ≤ g) := Lib.hid (fun g hg => (hv3 g hg).elim (HV.out g) (fun h => .inr (Nat.le_trans HKP.out.size h)))
            have hbx := HB8.out.keep HK3.out (fun e => (HSV.out _ e).1 rfl)
            have b3 := hbx.cellV 3 rfl
            clear hp h3 hk3 hv3 b4 hbx
            go_wp2_with fail
            refine (escape_any B b p3 v3 ov _ _ _ H3.out.bb HTXL.out (by have h2 := HLT.out; simp only [List.length_append, List.length_cons, List.length_nil] at h2 ⊢; omega)).mono ?_
            rintro e4 w4 ⟨rfl, hp⟩
            obtain ⟨pz, vz, h4, hk4, hv4⟩ := H3.out.write hp
            have H4 := Lib.hid h4
            have HK4 := Lib.hid (kp_hear (B := B) HK3.out hk4 HV3.out)
            have HV4 : Hid (∀ g, vz.ownBlock = some g → v.ownBlock = some g ∨ w8.heap.size ≤ g) := Lib.hid (fun g hg => (hv4 g hg).elim (HV3.out g) (fun h => .inr (Nat.le_trans HK3.out.size h)))
            clear hp h4 hk4 hv4 b3
            go_upto_region 13 with (fail)
            refine wp_region_px 16 [16] (fun w' : World => Kp (fun g => ov.ownBlock = some g) w4.drew w') (.quiet 0 (.quiet 1 (.quiet 2 (.quiet 3 (.quiet 4 (.quiet 5 (.quiet 6 (.quiet 7 (.quiet 8 (.quiet 9 (.quiet 10 (.quiet 11 (.eff 12 (.eff 13 (.quiet 14 (.quiet 15 (.wall 16 .done))))))))))))))))) (by kernel_rfl) (by kernel_rfl) (by kernel_rfl) (by kernel_rfl) (fun _ d _ _ _ h => by cases d <;> exact h) (Kp.refl _ _) ?_
            have H5 := Lib.hid (H4.out.kp0 (Kp.refl _ _).drew)
            have HK5 := Lib.hid (HK4.out.drew)
            have HSW : Hid (w8.heap.size ≤ w4.drew.heap.size) := Lib.hid HK5.out.size
            generalize w4.drew = w5 at H5 HK5 HSW ⊢
            clear H4 HK4
            have HB5 := Lib.hid (HB8.out.keep HK5.out (fun e => (HSV.out _ e).1 rfl))
            have HRK5 := Lib.hid (HRK8.out.keep HK5.out (fun i hi e => (HSV.out _ e).2 hi))
            have HEK5 := Lib.hid (ElsV.keep HK5.out (fun i hi e => (HSV.out _ e).2 hi) (fun _ h => h) _ _ HEK8.out)
            have HOE : Hid (∀ g, ov.ownBlock = some g → eb ≠ g) := Lib.hid (fun g hg e => by have := H.out.oB hg; have := HEB.out; omega)
            have HOF : Hid (∀ g, F g → ¬ ov.ownBlock = some g) := Lib.hid (fun g hf hg => by have := H.out.oB hg; have := H.out.ff g hf; omega)
            iterate 12 (refine px_quiet (v := ?_) rfl (by rfl) (fun wq hwq => ?_) rfl ?_; rotate_left 1; (focus (have q5 := (H5.out.bb.blk.keep hwq (fun e => H5.out.n1 b e rfl)).cellV 2 rfl; rw [HVS.out] at q5; have hbq := HB5.out.keep hwq (fun e => HOE.out _ e rfl); have q0 := hbq.cellV 0 rfl; have q1 := hbq.cellV 1 rfl; have q4 := hbq.cellV 4 rfl; go_simp; try (with_reducible rfl); done)); try simp only [List.setIfInBounds_toArray, List.set_cons_zero, List.set_cons_succ])
            refine px_eff rfl (by rfl) (fun K hK => ?_)
            go_simp
            have hkA : Kp0 w5 (w5.alloc (.cells #[.string (S nm), .string (S sp), .slice a4 nk p4] 47)) := (Kp.refl _ _).alloc _
            have HCE : Hid (∀ j u, ([.string (S nm), .string (S sp), .slice a4 nk p4] : List Value)[j]? = some u → (w5.alloc (.cells #[.string (S nm), .string (S sp), .slice a4 nk p4] 47)).cell? ((⟨w5.heap.size, 0, none⟩ : Addr).add j) = some u) := Lib.hid (fun j u hj => by
              rw [Addr.add_lit, Nat.zero_add]
              have hB := blk0 w5 47 [.string (S nm), .string (S sp), .slice a4 nk p4]
              rw [blk_cell hB j, List.getElem?_toArray]
              exact hj)
            have H9 := Lib.hid (H5.out.kp0 hkA)
            have HRK9 := Lib.hid (HRK5.out.keep hkA (fun _ _ h => h))
            have HEK9 := Lib.hid (ElsV.keep hkA (fun _ _ h => h) (fun _ h => h) _ _ HEK5.out)
            have HKA := Lib.hid hkA
            generalize w5.alloc (.cells #[.string (S nm), .string (S sp), .slice a4 nk p4] 47) = w9 at H9 HRK9 HEK9 HKA HCE hkA ⊢
            refine hK (fun w' => Kp (fun g => ov.ownBlock = some g) w9 w') _ _ (fun x hx => (hkA.nil _).tr hx) (Kp.refl _ _) ?_
            clear hK K hkA
            refine px_eff rfl (by rfl) (fun K hK => ?_)
            have hown9 := H9.out.ow
            rw [HVS.out] at hown9
            refine wp_append_k (.tmp 62) (.tmp 70) 41 rfl Tryz.underlying41 infoLv rfl (by decide) rfl hown9 ⟨w5.heap.size, 0, none⟩ 1 1 [.string (S nm), .string (S sp), .slice a4 nk p4] rfl rfl HCE.out (by intro u hu; simp at hu; rcases hu with rfl | rfl | rfl <;> rfl) (by have := HST.out; unfold maxLen; omega) (by have := HST.out; omega) (by have h1 := HKA.out.size; have h2 := H5.out.bb.ge; have h3 := H5.out.lt; omega) ?_
            intro va2 wA hoA hkA hbA hnA
            obtain ⟨aoA, capA, hvaA, hcA1, hcA2⟩ := ownK_sl hoA
            subst hvaA
            rw [← HVS.out] at hkA hbA
            have hst1 : st.length + 1 = (st ++ [((nm, sp), ks)]).length := by simp
            have HT := Lib.hid (H9.out.putO (st1 := st ++ [((nm, sp), ks)]) (kc1 := kc ++ [.string (S nm), .string (S sp), .slice a4 nk p4]) hkA (by rw [← hst1]; exact hoA) (LvsV.snoc (x := ((nm, sp), ks)) (by have h := HRK9.out.keep hkA HOF.out; rw [HNK.out] at h ⊢; exact h) (ElsV.keep hkA HOF.out (fun _ h => h) _ _ HEK9.out) _ _ (H9.out.lv.keep hkA HOF.out)) hbA)
            have hfA : wA.frozen? ⟨b, 2, none⟩ = false := blk_frozen (H9.out.bb.blk.keep hkA (fun e => H9.out.n1 b e rfl)) 2
            have hcA : wA.cell? ⟨b, 2, none⟩ = some ov := (H9.out.bb.blk.keep hkA (fun e => H9.out.n1 b e rfl)).cellV 2 rfl
            have HBA := Lib.hid hbA
            refine hK (fun w' => Kp (fun g => ov.ownBlock = some g) w9 w') _ _ (fun _ h => h) hkA ?_
            clear hK K hown9 hoA hkA hbA hnA hcA1 hcA2 hst1
            simp only [Act.put, List.getElem_toArray, List.getElem_cons_succ, List.getElem_cons_zero]
            try simp only [List.setIfInBounds_toArray, List.set_cons_zero, List.set_cons_succ]
            iterate 2 (refine px_quiet (v := ?_) rfl (by rfl) (fun wq hwq => ?_) rfl ?_; rotate_left 1; (focus (clear hwq; go_simp; try (with_reducible rfl); done)); try simp only [List.setIfInBounds_toArray, List.set_cons_zero, List.set_cons_succ])
            refine px_wall rfl (by rfl) (fun K hK => ?_)
            go_simp
            refine hK (fun _ => True) _ _ trivial (px_done ?_)
            clear hK K hfA hcA
            go_wp2
            all_goals go_end0
            all_goals refine ⟨rfl, pz, vz, .slice aoA (st.length + 1) capA, _, by rw [HTL.out, HEW.out, HSTW.out, ← List.append_assoc]; exact HT.out.1, ?_, fun g hg => ?_, fun g hg => ?_⟩
            · exact ((HK8.out.in0 HK5.out).tr (HKA.out.nil _)).trans HT.out.2 (fun i _ h => h.elim .inl (fun h => .inr (.inl h))) (fun i _ h => h.elim .inl (fun h => .inr (.inr h)))
            · exact (HV4.out g hg).imp id (fun h => Nat.le_trans HK8.out.size h)
            · exact (HBA.out g hg).imp id (fun h => by have h1 := HK8.out.size; have h2 := HSW.out; have h3 := HKA.out.size; have h4 := HK5.out.size; omega)
        | cons ch tx =>
          have t3 : ¬ (S (ch :: tx)).toList = [] := by rw [S_toList]; simp
          have t4 : ((S (ch :: tx)).toList == []) = false := by rw [S_toList]; rfl
          have HEW : Hid (endW (ch :: tx) ks = [62] ++ escX (ch :: tx)) := Lib.hid (if_neg (fun h => by cases h.1))
          have HSTW : Hid (stW st (.mk sp nm at_ (ch :: tx) ks) = st ++ [((nm, sp), ks)]) := Lib.hid (show (if (ch :: tx) = [] ∧ ks = [] then st else st ++ [((nm, sp), ks)]) = _ from if_neg (by simp))
          have HTXL : Hid ((ch :: tx).length ≤ 1000000000) := Lib.hid (by
            have h1 := HLT.out
            rw [HEW.out] at h1
            have h2 := escs_ge (spaces (ch :: tx)) (ch :: tx)
            simp only [List.length_append, escX] at h1
            omega)
          go_wp2_with fail
          refine (writeS_any _ B b pk vk [ov] _ ⟨#[62]⟩ _ hasW HZ.out.bb (by have h2 := HLT.out; simp only [List.length_append] at h2 ⊢; show _ + 1 ≤ _; omega)).mono ?_
          rintro e3 w3 ⟨rfl, hp⟩
          rw [lit1] at hp
          obtain ⟨p3, v3, h3, hk3, hv3⟩ := HZ.out.write hp
          have H3 := Lib.hid h3
          have HK3 := Lib.hid (kp_hear (B := B) HKP.out hk3 HV.out)
          have HV3 : Hid (∀ g, v3.ownBlock = some g → v.ownBlock = some g ∨ w8.heap.size ≤ g) := Lib.hid (fun g hg => (hv3 g hg).elim (HV.out g) (fun h => .inr (Nat.le_trans HKP.out.size h)))
          have hbx := HB8.out.keep HK3.out (fun e => (HSV.out _ e).1 rfl)
          have b3 := hbx.cellV 3 rfl
          clear hp h3 hk3 hv3 b4 hbx
          go_wp2_with fail
          refine (escape_any B b p3 v3 ov _ _ _ H3.out.bb HTXL.out (by have h2 := HLT.out; simp only [List.length_append, List.length_cons, List.length_nil] at h2 ⊢; omega)).mono ?_
          rintro e4 w4 ⟨rfl, hp⟩
          obtain ⟨pz, vz, h4, hk4, hv4⟩ := H3.out.write hp
          have H4 := Lib.hid h4
          have HK4 := Lib.hid (kp_hear (B := B) HK3.out hk4 HV3.out)
          have HV4 : Hid (∀ g, vz.ownBlock = some g → v.ownBlock = some g ∨ w8.heap.size ≤ g) := Lib.hid (fun g hg => (hv4 g hg).elim (HV3.out g) (fun h => .inr (Nat.le_trans HK3.out.size h)))
          clear hp h4 hk4 hv4 b3
          go_upto_region 13 with (fail)
          refine wp_region_px 16 [16] (fun w' : World => Kp (fun g => ov.ownBlock = some g) w4.drew w') (.quiet 0 (.quiet 1 (.quiet 2 (.quiet 3 (.quiet 4 (.quiet 5 (.quiet 6 (.quiet 7 (.quiet 8 (.quiet 9 (.quiet 10 (.quiet 11 (.eff 12 (.eff 13 (.quiet 14 (.quiet 15 (.wall 16 .done))))))))))))))))) (by kernel_rfl) (by kernel_rfl) (by kernel_rfl) (by kernel_rfl) (fun _ d _ _ _ h => by cases d <;> exact h) (Kp.refl _ _) ?_
          have H5 := Lib.hid (H4.out.kp0 (Kp.refl _ _).drew)
          have HK5 := Lib.hid (HK4.out.drew)
          have HSW : Hid (w8.heap.size ≤ w4.drew.heap.size) := Lib.hid HK5.out.size
          generalize w4.drew = w5 at H5 HK5 HSW ⊢
          clear H4 HK4
          have HB5 := Lib.hid (HB8.out.keep HK5.out (fun e => (HSV.out _ e).1 rfl))
          have HRK5 := Lib.hid (HRK8.out.keep HK5.out (fun i hi e => (HSV.out _ e).2 hi))
          have HEK5 := Lib.hid (ElsV.keep HK5.out (fun i hi e => (HSV.out _ e).2 hi) (fun _ h => h) _ _ HEK8.out)
          have HOE : Hid (∀ g, ov.ownBlock = some g → eb ≠ g) := Lib.hid (fun g hg e => by have := H.out.oB hg; have := HEB.out; omega)
          have HOF : Hid (∀ g, F g → ¬ ov.ownBlock = some g) := Lib.hid (fun g hf hg => by have := H.out.oB hg; have := H.out.ff g hf; omega)
          iterate 12 (refine px_quiet (v := ?_) rfl (by rfl) (fun wq hwq => ?_) rfl ?_; rotate_left 1; (focus (have q5 := (H5.out.bb.blk.keep hwq (fun e => H5.out.n1 b e rfl)).cellV 2 rfl; rw [HVS.out] at q5; have hbq := HB5.out.keep hwq (fun e => HOE.out _ e rfl); have q0 := hbq.cellV 0 rfl; have q1 := hbq.cellV 1 rfl; have q4 := hbq.cellV 4 rfl; go_simp; try (with_reducible rfl); done)); try simp only [List.setIfInBounds_toArray, List.set_cons_zero, List.set_cons_succ])
          refine px_eff rfl (by rfl) (fun K hK => ?_)
          go_simp
          have hkA : Kp0 w5 (w5.alloc (.cells #[.string (S nm), .string (S sp), .slice a4 nk p4] 47)) := (Kp.refl _ _).alloc _
          have HCE : Hid (∀ j u, ([.string (S nm), .string (S sp), .slice a4 nk p4] : List Value)[j]? = some u → (w5.alloc (.cells #[.string (S nm), .string (S sp), .slice a4 nk p4] 47)).cell? ((⟨w5.heap.size, 0, none⟩ : Addr).add j) = some u) := Lib.hid (fun j u hj => by
            rw [Addr.add_lit, Nat.zero_add]
            have hB := blk0 w5 47 [.string (S nm), .string (S sp), .slice a4 nk p4]
            rw [blk_cell hB j, List.getElem?_toArray]
            exact hj)
          have H9 := Lib.hid (H5.out.kp0 hkA)
          have HRK9 := Lib.hid (HRK5.out.keep hkA (fun _ _ h => h))
          have HEK9 := Lib.hid (ElsV.keep hkA (fun _ _ h => h) (fun _ h => h) _ _ HEK5.out)
          have HKA := Lib.hid hkA
          generalize w5.alloc (.cells #[.string (S nm), .string (S sp), .slice a4 nk p4] 47) = w9 at H9 HRK9 HEK9 HKA HCE hkA ⊢
          refine hK (fun w' => Kp (fun g => ov.ownBlock = some g) w9 w') _ _ (fun x hx => (hkA.nil _).tr hx) (Kp.refl _ _) ?_
          clear hK K hkA
          refine px_eff rfl (by rfl) (fun K hK => ?_)
          have hown9 := H9.out.ow
          rw [HVS.out] at hown9
          refine wp_append_k (.tmp 62) (.tmp 70) 41 rfl Tryz.underlying41 infoLv rfl (by decide) rfl hown9 ⟨w5.heap.size, 0, none⟩ 1 1 [.string (S nm), .string (S sp), .slice a4 nk p4] rfl rfl HCE.out (by intro u hu; simp at hu; rcases hu with rfl | rfl | rfl <;> rfl) (by have := HST.out; unfold maxLen; omega) (by have := HST.out; omega) (by have h1 := HKA.out.size; have h2 := H5.out.bb.ge; have h3 := H5.out.lt; omega) ?_
          intro va2 wA hoA hkA hbA hnA
          obtain ⟨aoA, capA, hvaA, hcA1, hcA2⟩ := ownK_sl hoA
          subst hvaA
          rw [← HVS.out] at hkA hbA
          have hst1 : st.length + 1 = (st ++ [((nm, sp), ks)]).length := by simp
          have HT := Lib.hid (H9.out.putO (st1 := st ++ [((nm, sp), ks)]) (kc1 := kc ++ [.string (S nm), .string (S sp), .slice a4 nk p4]) hkA (by rw [← hst1]; exact hoA) (LvsV.snoc (x := ((nm, sp), ks)) (by have h := HRK9.out.keep hkA HOF.out; rw [HNK.out] at h ⊢; exact h) (ElsV.keep hkA HOF.out (fun _ h => h) _ _ HEK9.out) _ _ (H9.out.lv.keep hkA HOF.out)) hbA)
          have hfA : wA.frozen? ⟨b, 2, none⟩ = false := blk_frozen (H9.out.bb.blk.keep hkA (fun e => H9.out.n1 b e rfl)) 2
          have hcA : wA.cell? ⟨b, 2, none⟩ = some ov := (H9.out.bb.blk.keep hkA (fun e => H9.out.n1 b e rfl)).cellV 2 rfl
          have HBA := Lib.hid hbA
          refine hK (fun w' => Kp (fun g => ov.ownBlock = some g) w9 w') _ _ (fun _ h => h) hkA ?_
          clear hK K hown9 hoA hkA hbA hnA hcA1 hcA2 hst1
          simp only [Act.put, List.getElem_toArray, List.getElem_cons_succ, List.getElem_cons_zero]
          try simp only [List.setIfInBounds_toArray, List.set_cons_zero, List.set_cons_succ]
          iterate 2 (refine px_quiet (v := ?_) rfl (by rfl) (fun wq hwq => ?_) rfl ?_; rotate_left 1; (focus (clear hwq; go_simp; try (with_reducible rfl); done)); try simp only [List.setIfInBounds_toArray, List.set_cons_zero, List.set_cons_succ])
          refine px_wall rfl (by rfl) (fun K hK => ?_)
          go_simp
          refine hK (fun _ => True) _ _ trivial (px_done ?_)
          clear hK K hfA hcA
          go_wp2
          all_goals go_end0
          all_goals refine ⟨rfl, pz, vz, .slice aoA (st.length + 1) capA, _, by rw [HTL.out, HEW.out, HSTW.out, ← List.append_assoc]; exact HT.out.1, ?_, fun g hg => ?_, fun g hg => ?_⟩
          · exact ((HK8.out.in0 HK5.out).tr (HKA.out.nil _)).trans HT.out.2 (fun i _ h => h.elim .inl (fun h => .inr (.inl h))) (fun i _ h => h.elim .inl (fun h => .inr (.inr h)))
          · exact (HV4.out g hg).imp id (fun h => Nat.le_trans HK8.out.size h)
          · exact (HBA.out g hg).imp id (fun h => by have h1 := HK8.out.size; have h2 := HSW.out; have h3 := HKA.out.size; have h4 := HK5.out.size; omega)
end Go.Proofs.YtchmookggegmnaaGreatDoor
namespace Go.Proofs.YtchmookggegmnaaGreatDoor
open Go Go.RowKit
def endT (nm : List UInt8) : List UInt8 := [60, 47] ++ nm ++ [62]
set_option maxRecDepth 20000 in
set_option maxHeartbeats 4000000 in
theorem end_w (B : Nat) (F : Nat → Prop) (b : Nat) (p v ov : Value) (l : List UInt8) (st : List Lv) (nm sp : List UInt8) (ks : List PE) (kc : List Value) (w : World) (h : WrV B F w b p v ov l (st ++ [((nm, sp), ks)]) kc) (hl : (l ++ endT nm).length ≤ 1000000000) (hst : st.length ≤ 1000000000) :
    Calls Tryz.prog 14 #[.pointer (some ⟨b, 0, none⟩)] w fun e' w' => e' = .returned (.tuple #[]) ∧ BgW B F b v ov (l ++ endT nm) st w w' := by
  obtain ⟨n, hn⟩ : ∃ n, n = st.length := ⟨_, rfl⟩
  have HN := Lib.hid hn
  have hrow := h.ow
  rw [List.length_append, List.length_singleton, ← hn] at hrow
  obtain ⟨kc0, k4, cs, hkc, hlv, hrd, hel⟩ := LvsV.last st kc h.lv
  have hk0 : kc0.length = n * 3 := by rw [hn]; exact LvsV.len _ _ hlv
  obtain ⟨g, cp, cur, hv, hb, hc1, hc2, hg, hcells⟩ := ownK_pos hrow (by omega)
  subst hv
  have x0 : w.cell? ⟨g, n * 3, none⟩ = some (.string (S nm)) := hcells _ _ (by rw [hkc, List.getElem?_append_right (by omega), hk0, Nat.sub_self]; rfl)
  have hsn : (S nm).size ≤ 1000000000 := by
    rw [S_size]
    simp only [endT, List.length_append] at hl
    omega
  have hng : ¬ 9223372036854775807 < 2 + (S nm).size := by omega
  have hng2 : ¬ 9223372036854775807 < 2 + (S nm).size + 1 := by omega
  have hni : (n : Int) ≤ 1000000000 := by omega
  have hlt1 : (n : Int) < (n : Int) + 1 := by omega
  have c2 : w.cell? ⟨b, 2, none⟩ = _ := h.bb.blk.cellV 2 rfl
  have HROW := Lib.hid hrow
  have HKC := Lib.hid hkc
  have HLV := Lib.hid hlv
  have HK0 := Lib.hid hk0
  have HX0 := Lib.hid x0
  have H := Lib.hid h
  have HL := Lib.hid hl
  clear hrow hkc hlv hk0 hrd hel hg hcells h hl hst hb hn
  go_enter Tryz.func14, Tryz.ntmps14
  go_upto_region 1 with (fail)
  refine wp_region_px 13 [] (fun w' : World => w'.cell? ⟨b, 2, none⟩ = some (.slice (some ⟨g, 0, none⟩) (n + 1) cp) ∧ w'.cell? ⟨g, n * 3, none⟩ = some (.string (S nm))) (.quiet 0 (.quiet 1 (.quiet 2 (.quiet 3 (.quiet 4 (.quiet 5 (.quiet 6 (.quiet 7 (.quiet 8 (.quiet 9 (.quiet 10 (.quiet 11 (.quiet 12 (.eff 13 .done)))))))))))))) (by kernel_rfl) (by kernel_rfl) (by kernel_rfl) (by kernel_rfl) (fun _ d _ _ _ h => by cases d <;> exact h) ⟨c2, x0⟩ ?_
  have H1 := Lib.hid (H.out.kp0 (Kp.refl _ _).drew)
  have HK1 : Hid (Kp0 w w.drew) := Lib.hid (Kp.refl _ _).drew
  have HX1 : Hid (w.drew.cell? ⟨g, n * 3, none⟩ = some (.string (S nm))) := Lib.hid x0
  generalize w.drew = w1 at H1 HK1 HX1 ⊢
  clear c2 x0
  iterate 13 (refine px_quiet (v := ?_) rfl (by rfl) (fun wq hwq => ?_) rfl ?_; rotate_left 1; (focus (have q5 := hwq.1; have q6 := hwq.2; go_simp; first | (with_reducible rfl) | (rw [if_neg hng]; rfl) | (rw [if_neg hng2]; rfl) | (rw [if_pos hlt1]; rfl))); try simp only [List.setIfInBounds_toArray, List.set_cons_zero, List.set_cons_succ])
  refine px_eff rfl (by rfl) (fun K hK => ?_)
  go_simp
  refine (writeS_any _ B b p v [.slice (some ⟨g, 0, none⟩) (n + 1) cp] _ _ _ hasW H1.out.bb (by rw [ByteArray.size_append, ByteArray.size_append, S_size]; have h1 := HL.out; simp only [endT, List.length_append] at h1; show l.length + (2 + nm.length + 1) ≤ _; simp only [List.length_cons, List.length_nil] at h1; omega)).mono ?_
  rintro e1 w2 ⟨he1, hp⟩
  obtain ⟨z1, rfl⟩ : ∃ z : Int, e1 = .returned (.tuple #[.int .i64 z, .nilIface]) := ⟨_, he1⟩
  rw [app_toList, app_toList, S_toList, lit1, lit1] at hp
  obtain ⟨p2, v2, h2, hk2, hv2⟩ := H1.out.write hp
  clear he1 hp
  simp only []
  have c2 : w2.cell? ⟨b, 2, none⟩ = some (.slice (some ⟨g, 0, none⟩) (n + 1) cp) := h2.bb.blk.cellV 2 rfl
  have hgb : ¬ (g = b ∨ v.ownBlock = some g) := fun e => e.elim (H.out.n1 g rfl) (fun e => H.out.n2 g e rfl)
  refine hK _ _ _ (fun _ h => h) ⟨c2, hk2.cell HX1.out hgb⟩ (px_done ?_)
  have H2 := Lib.hid h2
  have HK2 := Lib.hid hk2
  have HV2 := Lib.hid hv2
  have hfz : w2.frozen? ⟨b, 2, none⟩ = false := blk_frozen h2.bb.blk 2
  have hcp : (n : Int) ≤ cp := by omega
  have hk3 := own_keep (H.out.ow) (HK1.out.in0 hk2) (fun i hi e => by
    rcases e with e | e
    · exact H.out.n1 i hi e
    · exact H.out.n2 i e hi)
  clear h2 hk2 hv2 hgb hng hng2 hlt1 hK K hsn
  have HROW2 : Hid (w2.ownsRow B 47 3 (.slice (some ⟨g, 0, none⟩) n cp) n kc0) := Lib.hid (by
    have h1 := ownK_take H2.out.ow n (by rw [List.length_append, List.length_singleton, ← HN.out]; omega)
    rw [HKC.out, ← HK0.out, List.take_left] at h1
    exact h1)
  have HT := Lib.hid (H2.out.putO (Kp.refl _ _) (st1 := st) (kc1 := kc0) (ov1 := .slice (some ⟨g, 0, none⟩) n cp) (by rw [← HN.out]; exact HROW2.out) (HLV.out.keep (HK1.out.in0 HK2.out) (fun i hi e => by
    have h1 := H.out.ff i hi
    rcases e with e | e
    · have := H.out.bb.ge; omega
    · have := (H.out.vB e).1; omega)) (fun g hg => .inl hg))
  clear hk3
  go_wp2
  all_goals go_end0
  all_goals refine ⟨rfl, p2, v2, .slice (some ⟨g, 0, none⟩) n cp, kc0, by simp only [endT, ← List.append_assoc] at HT ⊢; exact HT.out.1, ?_, fun g hg => (HV2.out g hg).imp id (fun h => Nat.le_trans HK1.out.size h), fun g hg => .inl hg⟩
  · exact (HK1.out.in0 HK2.out).trans HT.out.2 (fun i _ h => h.elim .inl (fun h => .inr (.inl h))) (fun i _ h => h.elim .inl (fun h => .inr (.inr h)))
end Go.Proofs.YtchmookggegmnaaGreatDoor
namespace Go.Proofs.YtchmookggegmnaaGreatDoor
open Go Go.RowKit
mutual
def textW : PE → List UInt8 → List UInt8
  | .mk sp nm at_ tx ks, ar => tagW (.mk sp nm at_ tx ks) ar ++ (if tx = [] ∧ ks = [] then [] else textsW ks sp ++ endT nm)
def textsW : List PE → List UInt8 → List UInt8
  | [], _ => []
  | e :: es, sp => textW e sp ++ textsW es sp
end
mutual
def nodes : PE → Nat
  | .mk _ _ _ _ ks => 2 + nodesL ks
def nodesL : List PE → Nat
  | [] => 0
  | e :: es => nodes e + nodesL es
end
def restR : List Lv → List UInt8
  | [] => []
  | x :: st => textsW x.2 x.1.2 ++ endT x.1.1 ++ restR st
def restW (st : List Lv) : List UInt8 := restR st.reverse
theorem restW_snoc (st : List Lv) (x : Lv) : restW (st ++ [x]) = textsW x.2 x.1.2 ++ endT x.1.1 ++ restW st := by
  unfold restW
  rw [List.reverse_append]
  rfl
def muR : List Lv → Nat
  | [] => 0
  | x :: st => 1 + nodesL x.2 + muR st
def mu (st : List Lv) : Nat := muR st.reverse
theorem mu_snoc (st : List Lv) (x : Lv) : mu (st ++ [x]) = 1 + nodesL x.2 + mu st := by
  unfold mu
  rw [List.reverse_append]
  rfl
theorem restR_len : ∀ st, st.length ≤ (restR st).length
  | [] => by simp
  | x :: st => by
    have := restR_len st
    simp only [restR, endT, List.length_append, List.length_cons, List.length_nil]
    omega
theorem restW_len (st : List Lv) : st.length ≤ (restW st).length := by
  have := restR_len st.reverse
  rw [List.length_reverse] at this
  exact this
/-- A tag, and what is still to come. -/
theorem tag_rest (e : PE) (sp : List UInt8) (st : List Lv) : tagW e sp ++ restW (stW st e) = textW e sp ++ restW st := by
  obtain ⟨s, nm, at_, tx, ks⟩ := e
  unfold textW
  show _ ++ restW (if tx = [] ∧ ks = [] then st else st ++ [((nm, s), ks)]) = _
  by_cases h : tx = [] ∧ ks = []
  · rw [if_pos h, if_pos h, List.append_nil]
  · rw [if_neg h, if_neg h, restW_snoc]
    simp only [List.append_assoc]
theorem tag_mu (e : PE) (st : List Lv) : mu (stW st e) + 1 ≤ mu st + nodes e := by
  obtain ⟨s, nm, at_, tx, ks⟩ := e
  unfold nodes
  show mu (if tx = [] ∧ ks = [] then st else st ++ [((nm, s), ks)]) + 1 ≤ _
  by_cases h : tx = [] ∧ ks = []
  · rw [if_pos h]
    omega
  · rw [if_neg h, mu_snoc]
    simp only []
    omega
theorem st_snoc (st : List Lv) : st = [] ∨ ∃ st0 x, st = st0 ++ [x] := by
  rcases List.eq_nil_or_concat st with h | ⟨s, a, h⟩
  · exact .inl h
  · exact .inr ⟨s, a, by rw [h, List.concat_eq_append]⟩
/-- A cell of a row of one's own, written. -/
theorem own_set {B e k n g cap i : Nat} {w : World} {xs : List Value} (h : w.ownsRow B e k (.slice (some ⟨g, 0, none⟩) n cap) n xs) (u : Value) : (w.setCell ⟨g, i, none⟩ u).ownsRow B e k (.slice (some ⟨g, 0, none⟩) n cap) n (xs.set i u) := by
  refine ⟨by rw [List.length_set]; exact h.1, ?_⟩
  rcases h.2 with ⟨hv, _⟩ | ⟨g', cap', cur, hv, hb, hg, h1, h2, h3, h4⟩
  · cases hv
  · simp only [Value.slice.injEq, Option.some.injEq, Addr.mk.injEq] at hv
    obtain ⟨⟨rfl, -⟩, -, rfl⟩ := hv
    refine .inr ⟨g, cap, _, rfl, hb, heap_set hg i u, h1, h2, by simpa using h3, ?_⟩
    rw [Array.toList_setIfInBounds, List.take_set, h4]
theorem rd_tail {F : Nat → Prop} {w : World} {ad : Addr} {n cap : Nat} {c0 c1 c2 c3 c4 : Value} {rc : List Value} (h : RdF F w 5 (.slice (some ad) (n + 1) cap) (n + 1) (c0 :: c1 :: c2 :: c3 :: c4 :: rc)) :
    RdF F w 5 (.slice (if cap = 1 then some ad else some { block := ad.block, off := ad.off + 5 }) n (cap - 1)) n rc := by
  obtain ⟨ao, cp, h1, h2, h3, h4, _, h6⟩ := h
  simp only [Value.slice.injEq] at h1
  obtain ⟨rfl, -, rfl⟩ := h1
  have hlen : rc.length = n * 5 := by simp only [List.length_cons] at h2; omega
  refine ⟨_, _, rfl, hlen, by omega, by omega, fun e => ?_, fun a ha => ?_⟩
  · split at e <;> cases e
  · by_cases h0 : cap = 1
    · rw [if_pos h0] at ha
      cases ha
      intro i u hu
      have := (List.getElem?_eq_some_iff.1 hu).1
      omega
    · rw [if_neg h0] at ha
      cases ha
      intro i u hu
      have h7 := h6 ad rfl (i + 5) u (by simpa using hu)
      have h8 : ({ block := ad.block, off := ad.off + 5 } : Addr) = ad.add 5 := rfl
      rw [h8, Addr.add_add, Nat.add_comm 5 i]
      exact ⟨by rw [add_block]; exact h7.1, h7.2⟩
set_option maxRecDepth 20000 in
set_option maxHeartbeats 4000000 in
theorem Text_any (F : Nat → Prop) (e : PE) (c0 c1 c2 c3 c4 : Value) (w : World) (he : ElV F w e c0 c1 c2 c3 c4) (hF : ∀ i, F i → i < w.heap.size) (hl : (textW e []).length ≤ 1000000000) :
    Calls Tryz.prog 8 #[.agg #[c0, c1, c2, c3, c4]] w fun e' w' => e' = .returned (.string (S (textW e []))) ∧ Kp0 w w' := by
  obtain ⟨T, hT⟩ : ∃ x, x = textW e [] := ⟨_, rfl⟩
  have HT := Lib.hid hT
  rw [← hT] at hl ⊢
  have HL := Lib.hid hl
  clear hl
  have HE := Lib.hid he
  have he2 := he
  obtain ⟨sp, nm, at_, tx, ks⟩ := e
  unfold ElV at he2
  obtain ⟨rfl, rfl, hra, rfl, cs, hrk, -⟩ := he2
  obtain ⟨a2, p2, rfl, -⟩ := hra.sl
  obtain ⟨a4, p4, rfl, -⟩ := hrk.sl
  obtain ⟨w0, hw0⟩ : ∃ x, x = w.alloc (.cells #[.string (S sp), .string (S nm), .slice a2 at_.length p2, .string (S tx), .slice a4 ks.length p4] 25) := ⟨_, rfl⟩
  obtain ⟨w1, hw1⟩ : ∃ x, x = w0.alloc (.cells #[.pointer none, .slice none 0 0, .slice none 0 0] 43) := ⟨_, rfl⟩
  obtain ⟨eb, heb⟩ : ∃ g, g = w.heap.size := ⟨_, rfl⟩
  obtain ⟨b, hb⟩ : ∃ g, g = w0.heap.size := ⟨_, rfl⟩
  have hz0 : w0.heap.size = w.heap.size + 1 := by rw [hw0]; simp
  have HK1 : Hid (Kp0 w w1) := Lib.hid (by rw [hw1, hw0]; exact ((Kp.refl _ _).alloc _).alloc _)
  have HBE : Hid (Blk w1 eb 25 [.string (S sp), .string (S nm), .slice a2 at_.length p2, .string (S tx), .slice a4 ks.length p4]) := Lib.hid (by
    rw [hw1]
    refine Blk.kp0 ?_ ((Kp.refl _ _).alloc _)
    rw [hw0, heb]
    exact blk0 w _ _)
  have HBZ : Hid (b = w.heap.size + 1) := Lib.hid (by omega)
  have HW1 : Hid (WrV w.heap.size F w1 b (.pointer none) (.slice none 0 0) (.slice none 0 0) [] [] []) := Lib.hid (by
    refine ⟨⟨?_, Own.nil _ _ _, .inl rfl, by omega, (fun g hg => by cases hg), fun _ => rfl⟩, World.ownsRow_nil _ _ _ _, rfl, (fun g hg => by cases hg), (fun g hg => by cases hg), hF⟩
    rw [hw1, hb]
    exact blk0 w0 _ _)
  have HE1 := Lib.hid (ElV.keep HK1.out (fun _ _ h => h) (fun _ h => h) _ _ _ _ _ _ HE.out)
  have e0 := HBE.out.cellV 0 rfl
  have e1 := HBE.out.cellV 1 rfl
  have e2 := HBE.out.cellV 2 rfl
  have e3 := HBE.out.cellV 3 rfl
  have e4 := HBE.out.cellV 4 rfl
  clear he hra hrk hz0 hT
  go_enter Tryz.func8, Tryz.ntmps8
  go_upto_region 2 with (fail)
  have hb2 := HBZ.out
  rw [← hw0, ← hw1, ← hb2, ← heb]
  clear hw0 heb hb hw1 hb2
  have HTL : Hid (([] ++ tagW (.mk sp nm at_ tx ks) []) ++ restW (stW [] (.mk sp nm at_ tx ks)) = T) := Lib.hid (by
    rw [List.nil_append, tag_rest, HT.out]
    exact List.append_nil _)
  go_wp2_with fail
  refine (begin_w _ F b _ _ _ _ _ _ (.mk sp nm at_ tx ks) [] _ _ _ _ _ _ HW1.out HE1.out (by have h1 := congrArg List.length HTL.out; have h2 := HL.out; rw [List.length_append] at h1; omega) (Nat.zero_le _)).mono ?_
  rintro e2' w2 ⟨rfl, p2', v2, ov2, kc2, h2, hk2, hv2, ho2⟩
  have H2 := Lib.hid h2
  have HK2 : Hid (Kp0 w w2) := Lib.hid (HK1.out.new hk2 (fun i hi => by
    rcases hi with rfl | h | h
    · have := HBZ.out; omega
    · cases h
    · cases h))
  clear h2 hk2 hv2 ho2 e0 e1 e2 e3 e4
  generalize hst2 : stW [] (.mk sp nm at_ tx ks) = st2 at H2 HTL
  clear hst2
  go_wp2
  go_loopg [] (mu st2) (fun gg wr => ∃ pk vk ovk lk st kc, WrV w.heap.size F wr b pk vk ovk lk st kc ∧ lk ++ restW st = T ∧ mu st ≤ gg ∧ Kp0 w wr)
  case atStart => exact ⟨p2', v2, ov2, _, st2, kc2, H2.out, HTL.out, Nat.le_refl _, HK2.out⟩
  case round =>
    obtain ⟨pk, vk, ovk, lk, st, kc, hw, hlr, hmu, hkp⟩ := hrel
    have HW := Lib.hid hw
    have HLR := Lib.hid hlr
    have HMU := Lib.hid hmu
    have HKP := Lib.hid hkp
    clear hw hlr hmu hkp
    rcases st_snoc st with rfl | ⟨st0, ⟨⟨nmx, spx⟩, ksx⟩, rfl⟩
    · have hlT : lk = T := by rw [← HLR.out]; exact (List.append_nil _).symm
      subst hlT
      obtain ⟨ao, cp, rfl, -⟩ := ownK_sl HW.out.ow
      have c2 : wr.cell? ⟨b, 2, none⟩ = some (.slice ao 0 cp) := HW.out.bb.blk.cellV 2 rfl
      go_wp2_with (go_at_call 15; refine (string_any _ _ _ _ _ _ _ _ HW.out.bb).mono ?_; rintro e5 w5 ⟨rfl, hk⟩; have HK5 : Hid (Kp0 w w5) := Lib.hid (HKP.out.new hk (fun i hi => (HW.out.vB hi).1)); clear hk)
      all_goals go_ret
      all_goals exact ⟨rfl, HK5.out⟩
    · obtain ⟨n, hn⟩ : ∃ n, n = st0.length := ⟨_, rfl⟩
      have HN := Lib.hid hn
      have hrow := HW.out.ow
      rw [List.length_append, List.length_singleton, ← hn] at hrow
      obtain ⟨kc0, k4, cs4, hkc, hlv, hrd, hel⟩ := LvsV.last st0 kc HW.out.lv
      have hk0 : kc0.length = n * 3 := by rw [hn]; exact LvsV.len _ _ hlv
      obtain ⟨g, cp, cur, hv, hb, hc1, hc2, hg, hcells⟩ := ownK_pos hrow (by omega)
      subst hv
      have hni : (n : Int) ≤ 1000000000 := by
        have h1 := restW_len (st0 ++ [((nmx, spx), ksx)])
        have h2 := congrArg List.length HLR.out
        have h3 := HL.out
        rw [List.length_append] at h1 h2
        omega
      have hlt1 : (n : Int) < (n : Int) + 1 := by omega
      have hlt2 : (0 : Int) < (n : Int) + 1 := by omega
      obtain ⟨ao4, cp4, rfl, hcp4, hcp5⟩ := hrd.sl
      have x1 : wr.cell? ⟨g, n * 3 + 1, none⟩ = some (.string (S spx)) := hcells _ _ (by rw [hkc, List.getElem?_append_right (by omega), hk0]; simp)
      have x2 : wr.cell? ⟨g, n * 3 + 2, none⟩ = some (.slice ao4 ksx.length cp4) := hcells _ _ (by rw [hkc, List.getElem?_append_right (by omega), hk0]; simp)
      have c2 : wr.cell? ⟨b, 2, none⟩ = _ := HW.out.bb.blk.cellV 2 rfl
      have HROW := Lib.hid hrow
      have HKC := Lib.hid hkc
      have HLV := Lib.hid hlv
      have HK0 := Lib.hid hk0
      have HRD := Lib.hid hrd
      have HEL := Lib.hid hel
      have HHG := Lib.hid hg
      clear hrow hkc hlv hk0 hrd hel hg hcells hn hb
      cases ksx with
      | nil =>
        have hz : wr.cell? ⟨g, n * 3 + 2, none⟩ = some (.slice ao4 0 cp4) := x2
        have HLT : Hid ((lk ++ endT nmx) ++ restW st0 = T) := Lib.hid (by rw [← HLR.out, restW_snoc]; simp only [textsW, List.nil_append, List.append_assoc])
        have HM2 : Hid (mu st0 + 1 ≤ gk) := Lib.hid (by have h1 := HMU.out; rw [mu_snoc] at h1; simp only [nodesL] at h1; omega)
        go_wp2_with fail
        refine (end_w _ F b _ _ _ lk st0 nmx spx [] kc _ HW.out (by have h1 := congrArg List.length HLT.out; have h2 := HL.out; rw [List.length_append] at h1; omega) (by have := HN.out; omega)).mono ?_
        rintro e3 w3 ⟨rfl, p3, v3, ov3, kc3, h3, hk3, hv3, ho3⟩
        have H3 := Lib.hid h3
        have HK3 : Hid (Kp0 w w3) := Lib.hid (HKP.out.new hk3 (fun i hi => by
          rcases hi with rfl | h | h
          · have := HBZ.out; omega
          · exact (HW.out.vB h).1
          · exact (HW.out.oB h).1))
        clear h3 hk3 hv3 ho3 x1 x2 c2 hz
        go_wp2
        go_roundg (mu st0)
        case measure => have := HM2.out; omega
        case rel => exact ⟨p3, v3, ov3, _, st0, kc3, H3.out, HLT.out, Nat.le_refl _, HK3.out⟩
      | cons kid rest =>
        obtain ⟨ksp, knm, kat, ktx, kks⟩ := kid
        have hel2 := HEL.out
        unfold ElsV at hel2
        obtain ⟨d0, d1, d2, d3, d4, rc, hcs, hk1, hrest⟩ := hel2
        have HKV := Lib.hid hk1
        have HRS := Lib.hid hrest
        unfold ElV at hk1
        obtain ⟨rfl, rfl, hka, rfl, kcs, hkk, -⟩ := hk1
        obtain ⟨ka2, kp2, rfl, -⟩ := hka.sl
        obtain ⟨ka4, kp4, rfl, -⟩ := hkk.sl
        obtain ⟨ao', cap', h1, h2, h3, h4, h5, h6⟩ := HRD.out
        simp only [Value.slice.injEq] at h1
        obtain ⟨rfl, -, rfl⟩ := h1
        simp only [List.length_cons] at *
        obtain ⟨ad, rfl⟩ : ∃ ad, ao4 = some ad := by
          cases ao4 with
          | none => have := h5 rfl; omega
          | some ad => exact ⟨ad, rfl⟩
        have HCS := Lib.hid hcs
        have hcc := fun i u hu => (h6 ad rfl i u (by rw [HCS.out]; exact hu)).2
        have d0 : wr.cell? ad = some (.string (S ksp)) := hcc 0 _ rfl
        have d1 : wr.cell? ⟨ad.block, ad.off + 1, none⟩ = some (.string (S knm)) := hcc 1 _ rfl
        have d2 : wr.cell? ⟨ad.block, ad.off + 2, none⟩ = some (.slice ka2 kat.length kp2) := hcc 2 _ rfl
        have d3 : wr.cell? ⟨ad.block, ad.off + 3, none⟩ = some (.string (S ktx)) := hcc 3 _ rfl
        have d4 : wr.cell? ⟨ad.block, ad.off + 4, none⟩ = some (.slice ka4 kks.length kp4) := hcc 4 _ rfl
        clear hcc
        go_upto_region 8 with (fail)
        obtain ⟨wA, hwA⟩ : ∃ x, x = wr.alloc (.cells #[.string (S ksp), .string (S knm), .slice ka2 kat.length kp2, .string (S ktx), .slice ka4 kks.length kp4] 25) := ⟨_, rfl⟩
        obtain ⟨kb, hkb⟩ : ∃ x, x = wr.heap.size := ⟨_, rfl⟩
        have HKA : Hid (Kp0 wr wA) := Lib.hid (by rw [hwA]; exact (Kp.refl _ _).alloc _)
        have HBK : Hid (Blk wA kb 25 [.string (S ksp), .string (S knm), .slice ka2 kat.length kp2, .string (S ktx), .slice ka4 kks.length kp4]) := Lib.hid (by rw [hwA, hkb]; exact blk0 wr _ _)
        have HKB : Hid (kb = wr.heap.size ∧ wA.heap.size = wr.heap.size + 1) := Lib.hid ⟨hkb, by rw [hwA]; simp⟩
        rw [← hwA, ← hkb]
        have y1 := HKA.out.cell x1 (fun h => h)
        have y2 := HKA.out.cell x2 (fun h => h)
        have yf : wA.frozen? ⟨g, n * 3 + 2, none⟩ = false := by
          have hg1 : w.heap.size ≤ g ∧ g < wr.heap.size := HW.out.oB (g := g) rfl
          refine HKA.out.frozen' (p := ⟨g, n * 3 + 2, none⟩) hg1.2 ?_ (fun h => h)
          simp [World.frozen?, HHG.out]
        have HRT := Lib.hid (rd_tail (by rw [← HCS.out]; exact HRD.out))
        have HWS : Hid (WrV w.heap.size F (wA.setCell ⟨g, n * 3 + 2, none⟩ (.slice (if cp4 = 1 then some ad else some { block := ad.block, off := ad.off + 5 }) rest.length (cp4 - 1))) b pk vk (.slice (some ⟨g, 0, none⟩) (n + 1) cp) lk (st0 ++ [((nmx, spx), rest)]) (kc0 ++ [.string (S nmx), .string (S spx), .slice (if cp4 = 1 then some ad else some { block := ad.block, off := ad.off + 5 }) rest.length (cp4 - 1)])) := Lib.hid (by
          have hA := HW.out.kp0 HKA.out
          have hs : Kp (fun i => i = g) wA (wA.setCell ⟨g, n * 3 + 2, none⟩ (.slice (if cp4 = 1 then some ad else some { block := ad.block, off := ad.off + 5 }) rest.length (cp4 - 1))) := (Kp.refl (fun i => i = g) wA).setCell (p := ⟨g, n * 3 + 2, none⟩) (fun _ => rfl) _
          have hf : ∀ i, F i → ¬ i = g := fun i hi e => by have h1 := HW.out.ff i hi; have h2 := (HW.out.oB (g := g) rfl).1; omega
          refine ⟨hA.bb.keep hs (fun e => HW.out.n1 g rfl e.symm) (fun i hi e => HW.out.n2 i hi (by rw [e]; rfl)), ?_, LvsV.snoc (x := ((nmx, spx), rest)) ((HRT.out.keep HKA.out (fun _ _ h => h)).keep hs hf) (ElsV.keep hs hf (fun _ h => h) _ _ (ElsV.keep HKA.out (fun _ _ h => h) (fun _ h => h) _ _ HRS.out)) _ _ ((HLV.out.keep HKA.out (fun _ _ h => h)).keep hs hf), HW.out.n1, HW.out.n2, HW.out.ff⟩
          have h1 := own_set (i := n * 3 + 2) (own_keep HROW.out HKA.out (fun _ _ h => h)) (.slice (if cp4 = 1 then some ad else some { block := ad.block, off := ad.off + 5 }) rest.length (cp4 - 1))
          have hset : kc.set (n * 3 + 2) (.slice (if cp4 = 1 then some ad else some { block := ad.block, off := ad.off + 5 }) rest.length (cp4 - 1)) = kc0 ++ [.string (S nmx), .string (S spx), .slice (if cp4 = 1 then some ad else some { block := ad.block, off := ad.off + 5 }) rest.length (cp4 - 1)] := by
            rw [HKC.out, List.set_append_right _ _ (by rw [HK0.out]; omega), HK0.out, Nat.add_sub_cancel_left]
            rfl
          rw [hset] at h1
          rw [List.length_append, List.length_singleton, ← HN.out]
          exact h1)
        clear hwA hkb x1 x2 c2 d0 d1 d2 d3 d4
        go_upto_region 9 with (fail)
        obtain ⟨nsl, hnsl⟩ : ∃ x, x = (Value.slice (if cp4 = 1 then some ad else some { block := ad.block, off := ad.off + 5 }) rest.length (cp4 - 1)) := ⟨_, rfl⟩
        rw [← hnsl] at HWS ⊢
        clear hnsl
        refine wp_region_px 5 [5] (fun w' : World => Kp0 (wA.setCell ⟨g, n * 3 + 2, none⟩ nsl).drew w') (.quiet 0 (.quiet 1 (.quiet 2 (.quiet 3 (.quiet 4 (.wall 5 .done)))))) (by kernel_rfl) (by kernel_rfl) (by kernel_rfl) (by kernel_rfl) (fun _ d _ _ _ h => by cases d <;> exact h) (Kp.refl _ _) ?_
        have HP := Lib.hid (HWS.out.kp0 (Kp.refl _ _).drew)
        have hgk : ¬ kb = g := fun e => by have h1 := (HW.out.oB (g := g) rfl).2; have := HKB.out; omega
        have hs : Kp (fun i => i = g) wA (wA.setCell ⟨g, n * 3 + 2, none⟩ nsl).drew := ((Kp.refl (fun i => i = g) wA).setCell (p := ⟨g, n * 3 + 2, none⟩) (fun _ => rfl) _).drew
        have HBK2 := Lib.hid (HBK.out.keep hs hgk)
        have HKV2 : Hid (ElV F (wA.setCell ⟨g, n * 3 + 2, none⟩ nsl).drew (.mk ksp knm kat ktx kks) (.string (S ksp)) (.string (S knm)) (.slice ka2 kat.length kp2) (.string (S ktx)) (.slice ka4 kks.length kp4)) := Lib.hid (ElV.keep hs (fun i hi e => by have h1 := HW.out.ff i hi; have h2 := (HW.out.oB (g := g) rfl).1; omega) (fun _ h => h) _ _ _ _ _ _ (ElV.keep HKA.out (fun _ _ h => h) (fun _ h => h) _ _ _ _ _ _ HKV.out))
        have HKW : Hid (Kp0 w (wA.setCell ⟨g, n * 3 + 2, none⟩ nsl).drew) := Lib.hid ((HKP.out.tr HKA.out).new hs (fun i e => by have h2 := (HW.out.oB (g := g) rfl).1; omega))
        obtain ⟨g', cp', cur', hv', _, _, _, _, hcells'⟩ := ownK_pos HP.out.ow (by simp)
        simp only [Value.slice.injEq, Option.some.injEq, Addr.mk.injEq] at hv'
        obtain ⟨⟨rfl, -⟩, -, rfl⟩ := hv'
        have HZ1 : Hid ((wA.setCell ⟨g, n * 3 + 2, none⟩ nsl).drew.cell? ⟨g, n * 3 + 1, none⟩ = some (.string (S spx))) := Lib.hid (hcells' _ _ (by rw [List.getElem?_append_right (by rw [HK0.out]; omega), HK0.out]; simp))
        clear hcells' hs yf y1 y2
        generalize (wA.setCell ⟨g, n * 3 + 2, none⟩ nsl).drew = wd at HP HBK2 HKV2 HKW HZ1 ⊢
        iterate 5 (refine px_quiet (v := ?_) rfl (by rfl) (fun wq hwq => ?_) rfl ?_; rotate_left 1; (focus (have z1 := hwq.cell HZ1.out (fun h => h); have hbq := HBK2.out.kp0 hwq; have q0 := hbq.cellV 0 rfl; have q1 := hbq.cellV 1 rfl; have q2 := hbq.cellV 2 rfl; have q3 := hbq.cellV 3 rfl; have q4 := hbq.cellV 4 rfl; go_simp; try (with_reducible rfl); done)); try simp only [List.setIfInBounds_toArray, List.set_cons_zero, List.set_cons_succ])
        refine px_wall rfl (by rfl) (fun K hK => ?_)
        go_simp
        have HLT : Hid ((lk ++ tagW (.mk ksp knm kat ktx kks) spx) ++ restW (stW (st0 ++ [((nmx, spx), rest)]) (.mk ksp knm kat ktx kks)) = T) := Lib.hid (by
          rw [List.append_assoc, tag_rest, restW_snoc, ← HLR.out, restW_snoc]
          simp only [textsW, List.append_assoc])
        have HM2 : Hid (mu (stW (st0 ++ [((nmx, spx), rest)]) (.mk ksp knm kat ktx kks)) + 1 ≤ gk) := Lib.hid (by
          have h1 := HMU.out
          have h2 := tag_mu (.mk ksp knm kat ktx kks) (st0 ++ [((nmx, spx), rest)])
          rw [mu_snoc] at h1 h2
          simp only [nodesL] at h1 h2
          omega)
        refine (begin_w _ F b _ _ _ lk _ _ (.mk ksp knm kat ktx kks) spx _ _ _ _ _ _ HP.out HKV2.out (by have h1 := congrArg List.length HLT.out; have h2 := HL.out; rw [List.length_append] at h1; omega) (by have h1 := restW_len (st0 ++ [((nmx, spx), rest)]); have h2 := congrArg List.length HLT.out; rw [List.append_assoc, tag_rest] at h2; have h3 := HL.out; simp only [List.length_append] at h1 h2 ⊢; omega)).mono ?_
        rintro e3 w3 ⟨rfl, p3, v3, ov3, kc3, h3, hk3, hv3, ho3⟩
        have H3 := Lib.hid h3
        have HK3 : Hid (Kp0 w w3) := Lib.hid (HKW.out.new hk3 (fun i hi => by
          rcases hi with rfl | h | h
          · have := HBZ.out; omega
          · exact (HW.out.vB h).1
          · exact (HW.out.oB h).1))
        clear h3 hk3 hv3 ho3
        simp only []
        refine hK (fun _ => True) _ _ trivial (px_done ?_)
        clear hK K
        go_wp2
        go_roundg (mu (stW (st0 ++ [((nmx, spx), rest)]) (.mk ksp knm kat ktx kks)))
        case measure => have := HM2.out; omega
        case rel => exact ⟨p3, v3, ov3, _, _, kc3, H3.out, HLT.out, Nat.le_refl _, HK3.out⟩
end Go.Proofs.YtchmookggegmnaaGreatDoor
namespace Go.Proofs.YtchmookggegmnaaGreatDoor
open Go Go.RowKit
def fitL : List UInt8 := [60, 97, 32, 120, 61, 39, 49, 39, 62, 32, 60, 98, 32, 120, 109, 108, 110, 115, 61, 39, 110, 39, 62, 116, 60, 47, 98, 62, 32, 60, 47, 97, 62]
def fitE : PE := .mk [] [97] [([120], [49])] [] [.mk [110] [98] [] [116] []]
theorem fit_parse : parseX fitL = .ok fitE := by kernel_rfl
theorem fit_text : textW fitE [] = [60, 97, 32, 120, 61, 34, 49, 34, 62, 60, 98, 32, 120, 109, 108, 110, 115, 61, 34, 110, 34, 62, 116, 60, 47, 98, 62, 60, 47, 97, 62] := by kernel_rfl
theorem fit_n1 : isName [97, 45, 49] = true := by kernel_rfl
theorem fit_n2 : isName [49, 97] = false := by kernel_rfl
set_option maxRecDepth 20000 in
set_option maxHeartbeats 4000000 in
theorem fit_any (w : World) (hm : Ml w) : Calls Tryz.prog 6 #[] w fun e w' => e = .returned (.bool true) ∧ Kp0 w w' := by
  have HM := Lib.hid hm
  clear hm
  go_enter Tryz.func6, Tryz.ntmps6
  go_wp2_with fail
  refine (parse_any fitL _ HM.out (by rw [fit_parse]; exact fun h => by cases h)).mono ?_
  rw [fit_parse]
  rintro e1 w1 ⟨c0, c1, c2, c3, c4, rfl, hel, hk⟩
  have HEL := Lib.hid hel
  have HK1 := Lib.hid hk
  unfold fitE ElV at hel
  obtain ⟨rfl, rfl, hat, rfl, cs, hkd, hks⟩ := hel
  unfold ElsV at hks
  obtain ⟨d0, d1, d2, d3, d4, rest, rfl, hkv, -⟩ := hks
  unfold ElV at hkv
  obtain ⟨rfl, -⟩ := hkv
  obtain ⟨a2, p2, rfl, -⟩ := hat.sl
  obtain ⟨ao, p4, h1, h2, h3, h4, h5, h6⟩ := hkd
  subst h1
  obtain ⟨ad, rfl⟩ : ∃ ad, ao = some ad := by
    cases ao with
    | none => have := h5 rfl; simp at h3; omega
    | some ad => exact ⟨ad, rfl⟩
  have HC : Hid (w1.cell? ad = some (.string (S [110]))) := Lib.hid ((h6 ad rfl 0 _ rfl).2)
  clear hat h2 h3 h4 h5 h6 hk
  go_upto_region 2 with (fail)
  obtain ⟨wA, hwA⟩ : ∃ x, x = w1.alloc (.cells #[.string (S []), .string (S [97]), .slice a2 1 p2, .string (S []), .slice (some ad) 1 p4] 25) := ⟨_, rfl⟩
  obtain ⟨eb, heb⟩ : ∃ x, x = w1.heap.size := ⟨_, rfl⟩
  have HKA : Hid (Kp0 w1 wA) := Lib.hid (by rw [hwA]; exact (Kp.refl _ _).alloc _)
  have HBE : Hid (Blk wA eb 25 [.string (S []), .string (S [97]), .slice a2 1 p2, .string (S []), .slice (some ad) 1 p4]) := Lib.hid (by rw [hwA, heb]; exact blk0 w1 _ _)
  have HEA := Lib.hid (ElV.keep (G := fun i => w.heap.size ≤ i ∧ i < wA.heap.size) HKA.out (fun _ _ h => h) (fun i hi => ⟨hi.1, Nat.lt_of_lt_of_le hi.2 HKA.out.size⟩) _ _ _ _ _ _ HEL.out)
  have hc := HKA.out.cell HC.out (fun h => h)
  have hc2 : ((S [110]).toList == [110]) = true := by rw [S_toList]; rfl
  have hc3 : (S [110]).toList = [110] := S_toList _
  have e0 := HBE.out.cellV 0 rfl
  have e1 := HBE.out.cellV 1 rfl
  have e2 := HBE.out.cellV 2 rfl
  have e3 := HBE.out.cellV 3 rfl
  have e4 := HBE.out.cellV 4 rfl
  obtain ⟨T, hT⟩ : ∃ T, T = textW fitE [] := ⟨_, rfl⟩
  have HTX := Lib.hid hT
  have ht2 : ((S T).toList == [60, 97, 32, 120, 61, 34, 49, 34, 62, 60, 98, 32, 120, 109, 108, 110, 115, 61, 34, 110, 34, 62, 116, 60, 47, 98, 62, 60, 47, 97, 62]) = true := by rw [S_toList, hT, fit_text]; rfl
  have ht : (S T).toList = [60, 97, 32, 120, 61, 34, 49, 34, 62, 60, 98, 32, 120, 109, 108, 110, 115, 61, 34, 110, 34, 62, 116, 60, 47, 98, 62, 60, 47, 97, 62] := by rw [S_toList, hT, fit_text]
  clear hT
  rw [← hwA, ← heb]
  clear hwA heb
  go_wp2_with fail
  have hcall := Text_any _ fitE _ _ _ _ _ _ HEA.out (fun i hi => hi.2) (by rw [fit_text]; simp only [List.length_cons, List.length_nil]; omega)
  rw [← HTX.out] at hcall
  refine hcall.mono ?_
  rintro e2 w2 ⟨rfl, hk⟩
  have HK2 := Lib.hid (HK1.out.tr (HKA.out.tr hk))
  clear hk hcall
  go_wp2_with fail
  refine (name_any ⟨#[97, 45, 49]⟩ _ (by decide)).mono ?_
  rw [lit1, fit_n1]
  rintro e3 w3 ⟨rfl, hk⟩
  have HK3 := Lib.hid (HK2.out.tr hk)
  clear hk
  go_wp2_with fail
  refine (name_any ⟨#[49, 97]⟩ _ (by decide)).mono ?_
  rw [lit1, fit_n2]
  rintro e4 w4 ⟨rfl, hk⟩
  have HK4 := Lib.hid (HK3.out.tr hk)
  clear hk
  go_wp2
  all_goals go_ret
  all_goals exact ⟨rfl, HK4.out⟩
end Go.Proofs.YtchmookggegmnaaGreatDoor
