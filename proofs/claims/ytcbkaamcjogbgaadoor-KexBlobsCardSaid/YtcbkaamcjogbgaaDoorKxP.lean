/- Keys and signatures as they are told, and lines: the program's other calls, the document's. -/
import Derived.Test.YtcbkaamcjogbgaaDoorKa
import Derived.Test.YtcbkaamcjogbgaaDoorRef
import Derived.Test.YtcbkaamcjogbgaaDoorCur2
namespace Go.Proofs.YtcbkaamcjogbgaaDoor
open Go Go.RowKit
theorem wl_bytes_new {P : Program} {w : World} {ops : Array Oper} {rest : List Oper} {o : Oper} {a : Act} {Q : Exit → Act → World → Prop} (hgd : o.guard = none) (x : Operand) (src dst e : TypeId) (ho : o.op = .convert src dst x)
    (hs : P.underlying src = some .string) (hd : P.underlying dst = some (.slice e)) (he : P.underlying e = some (.int .u8)) (s : ByteArray) (hx : a.eval x = .string s) (hl : s.size ≤ 9223372036854775807)
    (h : ∀ cap w', Rd w' (.slice (some ⟨w.heap.size, 0, none⟩) s.size cap) (bys s.toList) → Kp0 w w' → w.heap.size < w'.heap.size → wpList P ops Q rest (a.put o.dst (.slice (some ⟨w.heap.size, 0, none⟩) s.size cap)) w') :
    wpList P ops Q (o :: rest) a w := by
  refine wpList_plain hgd fun K hK => ?_
  have hrun := run_bytes_of_string (P := P) w src dst e s hs hd he
  have hrd := fun fz => Rd.of_str w s e fz (grownCap w s.size 0 e) (grownCap_ge _ _ _ _) (grownCap_le_maxLen _ _ _ _ (by unfold maxLen; omega))
  unfold Oper.wp
  simp only [execOp, ho, hx, Sem.run_bind, hrun, Result.andThen_ok, Sem.run_pure]
  exact hK _ _ (h _ _ (hrd _) ((Kp.refl _ w).drew.alloc _) (by simp))
theorem own_sl {B : Nat} {e : TypeId} {w : World} {v : Value} {xs : List Value} (h : Own B e w v xs) : ∃ a n c, v = .slice a n c := by
  obtain ⟨ao, cap, e, _⟩ := h.rd.shape
  exact ⟨_, _, _, e⟩
set_option maxRecDepth 20000 in
theorem signature_any (v : Value) (l : List UInt8) (w : World) (hv : Rd w v (bys l)) (hl : l.length ≤ 100000000) :
    Calls Tryd.prog 20 #[v] w fun e w' => ∃ t, e = .returned (.string t) ∧ t.toList = toldB l ∧ Kp0 w w' := by
  have HV := Lib.hid hv
  have HL := Lib.hid hl
  clear hv hl
  go_enter Tryd.func20, Tryd.ntmps20
  go_wp2_with (first
    | (refine wl_str_of (o := ⟨some 4, _, _, _, _, _⟩) rfl _ 24 9 5 rfl Tryd.underlying24 Tryd.underlying5 Tryd.underlying9 rfl HV.out ?_
       intro s hs
       have HS := Lib.hid hs
       clear hs)
    | (go_at_call 54; refine (told_any s _ (by rw [← size_toList, HS.out]; exact HL.out)).mono ?_; rw [HS.out]; rintro e w1 ⟨t, rfl, ht, hk⟩; have HT := Lib.hid ht; have HK := Lib.hid hk; clear ht hk))
  go_ret
  exact ⟨t, rfl, HT.out, HK.out⟩
set_option maxRecDepth 20000 in
theorem readSig_any (s : ByteArray) (w : World) (hs : s.size ≤ 140737488351232) :
    Calls Tryd.prog 23 #[.string s] w fun e w' => ∃ v, e = .returned v ∧ Rd w' v (bys (readT s.toList 64)) ∧ Kp0 w w' := by
  have HS := Lib.hid hs
  have HL : Hid ((readT s.toList 64).length ≤ 64) := Lib.hid (by
    rw [readT_eq]
    unfold readTB
    split
    · rename_i h; rw [h.2.2]; exact Nat.le_refl _
    · exact Nat.zero_le _)
  clear hs
  go_enter Tryd.func23, Tryd.ntmps23
  go_wp2_with (first
    | (go_at_call 56; refine (readTold_any s 64 _ HS.out (by decide)).mono ?_; rintro e w1 ⟨t, rfl, ht, hk⟩; have HT := Lib.hid ht; have HK := Lib.hid hk; have HTS : Hid (t.size ≤ 64) := Lib.hid (by rw [← size_toList, ht]; exact HL.out); clear ht hk)
    | (refine wl_bytes_of_str rfl (.tmp 4) 9 24 5 rfl Tryd.underlying9 Tryd.underlying24 Tryd.underlying5 t rfl (by have := HTS.out; omega) ?_
       intro cap w2 hrd hg
       have HR2 := Lib.hid hrd
       have HK2 : Hid (Kp0 w w2) := Lib.hid (HK.out.grown hg (by simp))
       clear hrd hg))
  go_ret
  exact ⟨_, rfl, by rw [← HT.out]; exact HR2.out, HK2.out⟩
set_option maxRecDepth 20000 in
set_option maxHeartbeats 2000000 in
theorem refBlob_any (s : ByteArray) (w : World) (hs : s.size ≤ 100000000) :
    Calls Tryd.prog 19 #[.string s] w fun e w' => ∃ t, e = .returned (.string t) ∧ t.toList = toldB s.toList ∧ Kp0 w w' := by
  have HS := Lib.hid hs
  have HZ : Hid (ownE.size ≤ 800000000) := Lib.hid (by rw [ownE_size]; decide)
  have HL1 : Hid ((bys (encText ownE.toList)).length = 15) := Lib.hid (by rw [bys_len, encText_len, size_toList, ownE_size])
  have HL2 : Hid ((bys (encText s.toList)).length ≤ 100000004) := Lib.hid (by rw [bys_len, encText_len, size_toList]; omega)
  clear hs
  go_enter Tryd.func19, Tryd.ntmps19
  go_wp2_with (first
    | (go_at_call 55; refine (rtext_any ownE _ HZ.out).mono ?_; rintro e w1 ⟨v1, rfl, ho, hk⟩; obtain ⟨a1, n1, c1, rfl⟩ := own_sl ho; have HO1 := Lib.hid ho; have HK1 := Lib.hid hk; clear ho hk HZ)
    | (go_at_call 55; refine (rtext_any s _ (by have := HS.out; omega)).mono ?_; rintro e w2 ⟨v2, rfl, ho, hk⟩; obtain ⟨a2, n2, c2, rfl⟩ := own_sl ho; have HO2 := Lib.hid ho; have HO12 := Lib.hid (HO1.out.keep0 hk); have HK2 := Lib.hid (HK1.out.tr hk); have HSZ := Lib.hid hk.size; clear ho hk HK1)
    | (at_builtin
       refine wl_append_own (v := .slice a1 n1 c1) rfl _ _ 24 rfl Tryd.underlying24 infoU8 rfl rfl rfl HO12.out HO2.out.rd (bys_one _) (by rw [HL1.out]; have := HL2.out; unfold maxLen; omega) (by rw [HL1.out]; have := HL2.out; omega) (Nat.le_trans (by have := HK2.out.size; exact this) (Nat.le_refl _)) ?_
       intro v3 w3 ho hgr
       have HO3 : Hid (Rd w3 v3 (bys (toldB s.toList))) := Lib.hid (by unfold toldB; rw [bys_app]; exact ho.rd)
       have HK3 : Hid (Kp0 w w3) := Lib.hid (HK2.out.grown hgr (fun g hg1 hg2 => by have := (HO12.out.lt g hg1).1; omega))
       clear ho hgr)
    | (refine wl_str_of (o := ⟨some 7, _, _, _, _, _⟩) rfl _ 24 9 5 rfl Tryd.underlying24 Tryd.underlying5 Tryd.underlying9 rfl HO3.out ?_
       intro t ht
       have HT := Lib.hid ht
       clear ht))
  go_ret
  exact ⟨t, rfl, HT.out, HK3.out⟩
set_option maxRecDepth 20000 in
set_option maxHeartbeats 2000000 in
theorem unblob_any (s : ByteArray) (n : Nat) (w : World) (hs : s.size ≤ 140737488351232) :
    Calls Tryd.prog 22 #[.string s, .int .i64 (n : Int)] w fun e w' => ∃ t, e = .returned (.string t) ∧ t.toList = readT s.toList n ∧ Kp0 w w' := by
  have HS := Lib.hid hs
  have HR := Lib.hid (readT_eq s.toList n)
  have HL1 := Lib.hid (textS_len (textS (some s.toList)).2)
  have HLB : Hid (s.toList.length ≤ 140737488351232) := Lib.hid (by rw [size_toList]; exact hs)
  clear hs
  go_enter Tryd.func22, Tryd.ntmps22
  go_upto_region 2 with (refine wl_bytes_new rfl (.tmp 8) 9 24 5 rfl Tryd.underlying9 Tryd.underlying24 Tryd.underlying5 s rfl (by have := HS.out; omega) ?_
                         intro cap w1 hrd hk1 hlt1
                         have HR1 := Lib.hid hrd
                         have HK1 := Lib.hid hk1
                         have HLT := Lib.hid hlt1
                         clear hrd hk1 hlt1)
  have hcb : CB (w1.alloc (.cells #[.slice (some ⟨w.heap.size, 0, none⟩) s.size cap, .int .i64 0, .bool false] 78)) w1.heap.size (.slice (some ⟨w.heap.size, 0, none⟩) s.size cap) 0 false := heap_alloc_new w1 _
  have HSZ := Lib.hid HK1.out.size
  have HCS : Hid (Cs (w1.alloc (.cells #[.slice (some ⟨w.heap.size, 0, none⟩) s.size cap, .int .i64 0, .bool false] 78)) w1.heap.size (.slice (some ⟨w.heap.size, 0, none⟩) s.size cap) s.toList (some s.toList)) := Lib.hid (by
    have hlt : w.heap.size < w1.heap.size := HLT.out
    exact ⟨⟨0, false, hcb, Nat.zero_le _, by unfold cview; simp⟩, HR1.out.keep0 ((Kp.refl _ _).alloc _), fun g hg e => by have e2 := Option.some.inj (show some w.heap.size = some g from hg); omega⟩)
  have HK2 := Lib.hid (HK1.out.alloc (.cells #[.slice (some ⟨w.heap.size, 0, none⟩) s.size cap, .int .i64 0, .bool false] 78))
  obtain ⟨c, hc⟩ : ∃ x, x = w1.heap.size := ⟨_, rfl⟩
  have HC : Hid (w.heap.size ≤ c) := Lib.hid (by rw [hc]; exact HSZ.out)
  rw [← hc] at HCS ⊢
  clear hc hcb
  generalize w1.alloc (.cells #[.slice (some ⟨w.heap.size, 0, none⟩) s.size cap, .int .i64 0, .bool false] 78) = w2 at HCS HK2 ⊢
  go_upto_region 4 with (first
    | (go_at_call 57
       refine (text_cs c _ s.toList (some s.toList) _ HCS.out HLB.out).mono ?_
       rintro e w3 ⟨t1, rfl, ht, hr, hk⟩
       have HT1 := Lib.hid ht
       have HCS3 := Lib.hid hr
       have HK3 : Hid (Kp0 w w3) := Lib.hid (HK2.out.trans hk (fun _ _ h => h) (fun i hi h => by have := HC.out; omega))
       clear ht hr hk HCS)
    | (go_at_call 57
       refine (text_cs c _ s.toList (textS (some s.toList)).2 _ HCS3.out HLB.out).mono ?_
       rintro e w4 ⟨t2, rfl, ht, hr, hk⟩
       have HT2 := Lib.hid ht
       have HCS4 := Lib.hid hr
       have HK4 : Hid (Kp0 w w4) := Lib.hid (HK3.out.trans hk (fun _ _ h => h) (fun i hi h => by have := HC.out; omega))
       clear ht hr hk HCS3))
  rw [← HT2.out] at HL1
  rw [← HT1.out, ← HT2.out] at HR
  have hl2 := HL1.out
  rw [size_toList] at hl2
  have HZ := Lib.hid (size_toList t2)
  obtain ⟨st, hst⟩ : ∃ x, x = (textS (textS (some s.toList)).2).2 := ⟨_, rfl⟩
  rw [← hst] at HCS4 HR
  clear hst
  by_cases h1 : st = some []
  · by_cases h2 : t1.toList = ownE.toList
    · have hb2 : (t1.toList == [115, 115, 104, 45, 101, 100, 50, 53, 53, 49, 57]) = true := by rw [h2, ownE_list]; simp
      by_cases h3 : t2.size = n
      · have hb3 : ((t2.size : Int) == (n : Int)) = true := by rw [h3]; simp
        have HE : Hid (readT s.toList n = t2.toList) := Lib.hid (by rw [HR.out]; unfold readTB; rw [if_pos ⟨h1, h2, by rw [HZ.out, h3]⟩])
        have HD : Hid (decide (st = some []) = true) := Lib.hid (decide_eq_true h1)
        clear h1 h2 h3
        go_wp2_with (go_at_call 49; refine (end_cs c _ s.toList st _ HCS4.out HLB.out).mono ?_; rintro e w5 ⟨rfl, hk⟩; have HK5 := Lib.hid (HK4.out.tr hk); clear hk; rw [HD.out])
        go_ret
        exact ⟨t2, rfl, HE.out.symm, HK5.out⟩
      · have hb3 : ((t2.size : Int) == (n : Int)) = false := by rw [beq_eq_false_iff_ne]; omega
        have HE : Hid (readT s.toList n = []) := Lib.hid (by rw [HR.out]; unfold readTB; rw [if_neg (fun h => h3 (by rw [← HZ.out]; exact h.2.2))])
        have HD : Hid (decide (st = some []) = true) := Lib.hid (decide_eq_true h1)
        clear h1 h2 h3
        go_wp2_with (go_at_call 49; refine (end_cs c _ s.toList st _ HCS4.out HLB.out).mono ?_; rintro e w5 ⟨rfl, hk⟩; have HK5 := Lib.hid (HK4.out.tr hk); clear hk; rw [HD.out])
        go_ret
        exact ⟨_, rfl, by rw [HE.out]; exact nil_toList, HK5.out⟩
    · have hb2 : (t1.toList == [115, 115, 104, 45, 101, 100, 50, 53, 53, 49, 57]) = false := by rw [beq_eq_false_iff_ne, ← ownE_list]; exact h2
      have HE : Hid (readT s.toList n = []) := Lib.hid (by rw [HR.out]; unfold readTB; rw [if_neg (fun h => h2 h.2.1)])
      have HD : Hid (decide (st = some []) = true) := Lib.hid (decide_eq_true h1)
      clear h1 h2
      go_wp2_with (go_at_call 49; refine (end_cs c _ s.toList st _ HCS4.out HLB.out).mono ?_; rintro e w5 ⟨rfl, hk⟩; have HK5 := Lib.hid (HK4.out.tr hk); clear hk; rw [HD.out])
      go_ret
      exact ⟨_, rfl, by rw [HE.out]; exact nil_toList, HK5.out⟩
  · have HE : Hid (readT s.toList n = []) := Lib.hid (by rw [HR.out]; unfold readTB; rw [if_neg (fun h => h1 h.1)])
    have HD : Hid (decide (st = some []) = false) := Lib.hid (decide_eq_false h1)
    clear h1
    go_wp2_with (go_at_call 49; refine (end_cs c _ s.toList st _ HCS4.out HLB.out).mono ?_; rintro e w5 ⟨rfl, hk⟩; have HK5 := Lib.hid (HK4.out.tr hk); clear hk; rw [HD.out])
    go_ret
    exact ⟨_, rfl, by rw [HE.out]; exact nil_toList, HK5.out⟩
end Go.Proofs.YtcbkaamcjogbgaaDoor
