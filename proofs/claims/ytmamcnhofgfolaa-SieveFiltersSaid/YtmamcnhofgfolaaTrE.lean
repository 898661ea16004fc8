/- The reference of layer 14: the keys of an entry. Rows of one's own. -/
import Derived.Test.YtmamcnhofgfolaaSb
import Derived.Test.YtmamcnhofgfolaaSa
namespace Go.Proofs.Ytmamcnhofgfolaa
open Go Go.RowKit
def keyT : List (List UInt8) → List PN → Option (List (List UInt8))
  | [], _ => some []
  | k :: ky, ks => match ks.find? (fun n => n.nm == k) with
    | none => none
    | some n => match keyT ky ks with
      | none => none
      | some l => some (n.vl :: l)
theorem keyT_snoc {ks : List PN} {key : List UInt8} : ∀ (l : List (List UInt8)) (o : List (List UInt8)), keyT l ks = some o → keyT (l ++ [key]) ks = match ks.find? (fun n => n.nm == key) with
    | none => none
    | some n => some (o ++ [n.vl])
  | [], o, h => by
    simp only [keyT, Option.some.injEq] at h
    subst h
    simp only [List.nil_append, keyT]
  | k :: l, o, h => by
    simp only [keyT] at h
    rw [List.cons_append]
    simp only [keyT]
    cases hf : ks.find? (fun n => n.nm == k) with
    | none => rw [hf] at h; simp at h
    | some n =>
      rw [hf] at h
      simp only at h ⊢
      cases hk : keyT l ks with
      | none => rw [hk] at h; simp at h
      | some o' =>
        rw [hk] at h
        simp only [Option.some.injEq] at h
        subst h
        rw [keyT_snoc l o' hk]
        cases ks.find? (fun n => n.nm == key) <;> rfl
theorem keyT_none {ks : List PN} : ∀ (l m : List (List UInt8)), keyT l ks = none → keyT (l ++ m) ks = none
  | [], m, h => by simp [keyT] at h
  | k :: l, m, h => by
    simp only [keyT] at h
    rw [List.cons_append]
    simp only [keyT]
    cases hf : ks.find? (fun n => n.nm == k) with
    | none => rfl
    | some n =>
      rw [hf] at h
      simp only at h ⊢
      cases hk : keyT l ks with
      | none => rw [keyT_none l m hk]
      | some o' => rw [hk] at h; simp at h
section
variable {α : Type} {p : α → Bool} {l : List α} {k : Nat}
theorem NoneTo.find (h : NoneTo p l k) (hk : k < l.length) (hx : p l[k] = true) : l.find? p = some l[k] := by
  rw [List.find?_eq_some_iff_getElem]
  exact ⟨hx, k, hk, rfl, fun j hj => by simp [h j hj (by omega)]⟩
theorem NoneTo.nofind (h : NoneTo p l k) (hk : l.length ≤ k) : l.find? p = Option.none := by
  rw [List.find?_eq_none]
  intro x hx
  obtain ⟨j, hj, rfl⟩ := List.getElem_of_mem hx
  simp [h j (by omega) hj]
end
/-- A row of one's own changes in its own block alone: what stood ahead of it stays. -/
theorem own_kp0 {e size n : Nat} {w0 w w' : World} {v : Value} {xs : List Value} (hk : Kp0 w0 w) (ho : w.ownsRow w0.heap.size e size v n xs) (h : Kp (fun b => v.ownBlock = some b) w w') : Kp0 w0 w' :=
  hk.trans h (fun _ _ h => h) (fun i hi e => by have := (World.ownsRow.lt ho i e).1; omega)
theorem own_kpk {e size n : Nat} {w0 w w' : World} {v : Value} {xs : List Value} (ho : w.ownsRow w0.heap.size e size v n xs) (h : Kp0 w w') : w'.ownsRow w0.heap.size e size v n xs := by
  refine ⟨ho.1, ?_⟩
  rcases ho.2 with h0 | ⟨g, cap, cur, rfl, hb, hh, r⟩
  · exact .inl h0
  · have hl := (Array.getElem?_eq_some_iff.1 hh).1
    exact .inr ⟨g, cap, cur, rfl, hb, by rw [h.block g hl (fun h => h)]; exact hh, r⟩
theorem RdF.own {B e size n : Nat} {w : World} {v : Value} {xs : List Value} (h : w.ownsRow B e size v n xs) : RdF (fun i => B ≤ i) w size v n xs :=
  RdF.of_own h (fun g hg => (World.ownsRow.lt h g hg).1)
def NodA (n : PN) (v : Value) : Value := .agg #[.string (S n.nm), .string (S n.vl), v]
theorem infoStr : (Try.prog.info? 9).map (fun i => (i.zero, i.size, i.bytes)) = some (some (.string .empty), 1, 16) := by kernel_rfl
theorem txs_ones (l : List (List UInt8)) : ∀ u ∈ txs l, u.oneCell' = true := by
  intro u hu
  obtain ⟨c, _, rfl⟩ := List.mem_map.1 hu
  rfl
/-- What Key answers. -/
def KeyA (w w' : World) (o : Option (List (List UInt8))) (e : Ending) : Prop := match o with
  | none => e = .returned (.tuple #[.slice none 0 0, .bool false])
  | some l => ∃ v, e = .returned (.tuple #[v, .bool true]) ∧ RdF (fun i => w.heap.size ≤ i) w' 1 v l.length (txs l)
set_option maxRecDepth 20000 in
set_option maxHeartbeats 4000000 in
theorem key_any {F G : Nat → Prop} (d : PD) (n : PN) (a b c v : Value) (w : World) (hd : DfR F w d a b c) (hn : RowN G w v n.ks) (hl : d.ky.length ≤ 1000000) :
    Calls Try.prog 30 #[DefA d a b c, NodA n v] w fun e w' => KeyA w w' (keyT d.ky n.ks) e ∧ Kp0 w w' := by
  have HY := Lib.hid hd.ky
  have HN := Lib.hid hn
  have HL := Lib.hid hl
  obtain ⟨ao, ca, rfl, _, _, _⟩ := hn.shape
  obtain ⟨bo, cb, rfl, _, _, _⟩ := hd.ky.shape
  clear hd hn hl
  obtain ⟨ky, hky⟩ : ∃ x, x = d.ky := ⟨_, rfl⟩
  obtain ⟨ks, hks⟩ : ∃ x, x = n.ks := ⟨_, rfl⟩
  unfold DefA NodA
  rw [← hky, ← hks]
  rw [← hky] at HY HL
  rw [← hks] at HN
  clear hky hks
  go_enter Try.func30, Try.ntmps30
  go_upto_region 1 with (fail)
  have HB : Hid (Bks w ((w.alloc (.cells #[.string (S d.nm), .int .i64 d.kd, .int .i64 d.ty, a, .bool d.mu, .slice bo ky.length cb, c] 35)).alloc (.cells #[.string (S n.nm), .string (S n.vl), .slice ao ks.length ca] 40)) [(w.heap.size, 35, [.string (S d.nm), .int .i64 d.kd, .int .i64 d.ty, a, .bool d.mu, .slice bo ky.length cb, c]), (w.heap.size + 1, 40, [.string (S n.nm), .string (S n.vl), .slice ao ks.length ca])]) :=
    Lib.hid (((Bks.nil w).push 35 [.string (S d.nm), .int .i64 d.kd, .int .i64 d.ty, a, .bool d.mu, .slice bo ky.length cb, c] rfl).push 40 [.string (S n.nm), .string (S n.vl), .slice ao ks.length ca] (g := w.heap.size + 1) (by simp))
  generalize (w.alloc (.cells #[.string (S d.nm), .int .i64 d.kd, .int .i64 d.ty, a, .bool d.mu, .slice bo ky.length cb, c] 35)).alloc (.cells #[.string (S n.nm), .string (S n.vl), .slice ao ks.length ca] 40) = w1 at HB ⊢
  obtain ⟨g2, hg2⟩ : ∃ x, x = w.heap.size := ⟨_, rfl⟩
  obtain ⟨g3, hg3⟩ : ∃ x, x = w.heap.size + 1 := ⟨_, rfl⟩
  rw [← hg3, ← hg2] at HB
  rw [← hg3, ← hg2]
  clear hg2 hg3
  have HKW := Lib.hid HB.out.kp
  have HY := Lib.hid (HY.out.kp0 HKW.out)
  have HN := Lib.hid (HN.out.kp0 HKW.out)
  go_wp2
  go_loopg [6, 7] ky.length (fun gg o i wr => ∃ (k : Nat) (l : List (List UInt8)), i = .int .i64 k ∧ k ≤ ky.length ∧ gg = ky.length - k ∧ Hid (keyT (ky.take k) ks = some l) ∧ Hid (wr.ownsRow w1.heap.size 9 1 o l.length (txs l)) ∧ Hid (l.length = k) ∧ Kp0 w1 wr)
  case atStart => exact ⟨0, [], rfl, Nat.zero_le _, rfl, Lib.hid rfl, Lib.hid (World.ownsRow_nil _ _ _ _), Lib.hid rfl, Kp.refl _ _⟩
  case round =>
    obtain ⟨k, l, rfl, hk, rfl, HF, HO, HLN, hkp⟩ := hrel
    have HK := Lib.hid hkp
    have HBR := Lib.hid (HB.out.kp0 hkp)
    have c5 := (HBR.out.at 0 rfl).cellV 5 rfl
    clear hkp
    by_cases h : k < ky.length
    · have i1 : (k : Int) < (ky.length : Int) := by omega
      obtain ⟨b1, o1, d1, e1, _, _, kc⟩ := HY.out.atT k h
      simp only [Value.slice.injEq] at e1
      obtain ⟨rfl, _, rfl⟩ := e1
      obtain ⟨key, hkey⟩ : ∃ x, x = ky[k]'h := ⟨_, rfl⟩
      have HST : Hid (keyT (ky.take (k + 1)) ks = match ks.find? (fun n => n.nm == key) with
        | none => none
        | some n => some (l ++ [n.vl])) := Lib.hid (by rw [List.take_succ_eq_append_getElem h, ← hkey]; exact keyT_snoc _ _ HF.out)
      have HNO : Hid (keyT (ky.take (k + 1)) ks = none → keyT ky ks = none) := Lib.hid (fun hn => by
        have := keyT_none _ (ky.drop (k + 1)) hn
        rwa [List.take_append_drop] at this)
      rw [← hkey] at kc
      clear hkey
      have HKC : Hid (w1.cell? ⟨b1, o1 + k, none⟩ = some (.string (S key))) := Lib.hid kc
      clear c5 kc
      obtain ⟨ov, hov⟩ : ∃ x, x = u6 := ⟨_, rfl⟩
      rw [← hov] at HO ⊢
      clear hov
      have c5 := (HBR.out.at 0 rfl).cellV 5 rfl
      go_wp2
      go_loopg [6, 8, 9] ks.length (fun gg o f i wx => ∃ (j : Nat), i = .int .i64 j ∧ j ≤ ks.length ∧ gg = ks.length - j ∧ Hid (Kp0 w1 wx) ∧ ((f = .bool false ∧ o = ov ∧ Hid (NoneTo (fun n => n.nm == key) ks j) ∧ Hid (wx.ownsRow w1.heap.size 9 1 ov l.length (txs l))) ∨ (f = .bool true ∧ ∃ x : PN, Hid (ks.find? (fun n => n.nm == key) = some x) ∧ Hid (wx.ownsRow w1.heap.size 9 1 o (l ++ [x.vl]).length (txs (l ++ [x.vl]))))))
      case atStart => exact ⟨0, rfl, Nat.zero_le _, rfl, HK, .inl ⟨rfl, rfl, Lib.hid NoneTo.zero, HO⟩⟩
      case round =>
        clear HBR HK HO c5
        obtain ⟨j, rfl, hj, rfl, HK, hor⟩ := hrel
        have HBR := Lib.hid (HB.out.kp0 HK.out)
        have c5 := (HBR.out.at 0 rfl).cellV 5 rfl
        have n2 := (HBR.out.at 1 rfl).cellV 2 rfl
        rcases hor with ⟨rfl, rfl, HF2, HO⟩ | ⟨rfl, x, HFX, HO⟩
        · by_cases h2 : j < ks.length
          · have i2 : (j : Int) < (ks.length : Int) := by omega
            obtain ⟨b3, o3, d3, kv, e3, _, _, m0, m1, _⟩ := (HN.out.kp0 HK.out).at j h2
            simp only [Value.slice.injEq] at e3
            obtain ⟨rfl, _, rfl⟩ := e3
            obtain ⟨nm, hnm⟩ : ∃ x, x = (ks[j]'h2).nm := ⟨_, rfl⟩
            obtain ⟨vl, hvl⟩ : ∃ x, x = (ks[j]'h2).vl := ⟨_, rfl⟩
            have HNM := Lib.hid hnm
            have HVL := Lib.hid hvl
            rw [← hnm] at m0
            rw [← hvl] at m1
            clear hnm hvl
            have kc := HK.out.cell HKC.out (fun h => h)
            have HKD : Hid (Kp0 w1 wr.drew) := Lib.hid HK.out.drew
            cases hb : ((S nm).toList == (S key).toList)
            · have HB2 : Hid ((nm == key) = false) := Lib.hid (by rw [← S_beq]; exact hb)
              go_upto_region 9 with (fail)
              go_quiet (fail)
              go_wp2
              go_roundg (ks.length - (j + 1))
              case measure => omega
              case rel => exact ⟨j + 1, by go_num, by omega, rfl, Lib.hid (HK.out.drewN _), .inl ⟨rfl, rfl, Lib.hid (HF2.out.step h2 (by rw [← HNM.out]; exact HB2.out)), Lib.hid (own_kpk HO.out ((Kp.refl _ _).drewN _))⟩⟩
            · have HB2 : Hid ((nm == key) = true) := Lib.hid (by rw [← S_beq]; exact hb)
              have HFX := Lib.hid (HF2.out.find h2 (by rw [← HNM.out]; exact HB2.out))
              go_upto_region 9 with (fail)
              go_quiet (fail)
              go_upto_region 10 with (fail)
              have HO2 : Hid (∀ m o, ((wr.drewN m).alloc o).ownsRow w1.heap.size 9 1 u6 l.length (txs l)) := Lib.hid (fun m o => own_kpk HO.out (((Kp.refl _ _).drewN m).alloc o))
              have HC2 : Hid (∀ m j u, (txs [vl])[j]? = some u → ((wr.drewN m).alloc (.cells (txs [vl]).toArray 9)).cell? ((⟨wr.heap.size, 0, none⟩ : Addr).add j) = some u) := Lib.hid (fun m j u hu => by
                rw [Addr.add_lit, Nat.zero_add]
                exact (blk0 (wr.drewN m) 9 (txs [vl])).cellV j hu)
              have HK2 : Hid (∀ m o, Kp0 w1 ((wr.drewN m).alloc o)) := Lib.hid (fun m o => (HK.out.drewN m).alloc o)
              go_wp2_with (at_builtin
                           refine wl_append_k rfl (.tmp 40) (.tmp 47) 33 rfl Try.underlying33 infoStr rfl (by decide) (v := u6) rfl (HO2.out _ _) ⟨wr.heap.size, 0, none⟩ 1 1 (txs [vl]) rfl rfl (HC2.out _) (txs_ones _) (by have := HL.out; have := HLN.out; unfold maxLen; omega) (by have := HL.out; have := HLN.out; omega) (HK2.out _ _).size ?_
                           intro v7 w7 ho hk7 hb7 hn7
                           have HK7 := Lib.hid (own_kp0 (HK2.out _ _) (HO2.out _ _) hk7)
                           have HO7 : Hid (w7.ownsRow w1.heap.size 9 1 v7 (l ++ [vl]).length (txs (l ++ [vl]))) := Lib.hid (by rw [txs_app, List.length_append]; exact ho)
                           clear ho hk7 hb7 hn7)
              go_roundg (ks.length - (j + 1))
              case measure => omega
              case rel => exact ⟨j + 1, by go_num, by omega, rfl, HK7, .inr ⟨rfl, _, HFX, by rw [← HVL.out]; exact HO7⟩⟩
          · have i2 : ¬ (j : Int) < (ks.length : Int) := by omega
            have HN0 : Hid (keyT ky ks = none) := Lib.hid (HNO.out (by rw [HST.out, HF2.out.nofind (by omega)]))
            go_wp2
            go_ret2
            refine ⟨?_, HKW.out.tr HK.out⟩
            rw [HN0.out]
            exact rfl
        · have HX := Lib.hid (show keyT (ky.take (k + 1)) ks = some (l ++ [x.vl]) by rw [HST.out, HFX.out])
          by_cases h2 : j < ks.length
          · have i2 : (j : Int) < (ks.length : Int) := by omega
            go_wp2
            go_roundg (ky.length - (k + 1))
            case measure => omega
            case rel => exact ⟨k + 1, l ++ [x.vl], by go_num, by omega, rfl, HX, HO, Lib.hid (by rw [List.length_append, HLN.out]; rfl), HK.out⟩
          · have i2 : ¬ (j : Int) < (ks.length : Int) := by omega
            go_wp2
            go_roundg (ky.length - (k + 1))
            case measure => omega
            case rel => exact ⟨k + 1, l ++ [x.vl], by go_num, by omega, rfl, HX, HO, Lib.hid (by rw [List.length_append, HLN.out]; rfl), HK.out⟩
    · have i1 : ¬ (k : Int) < (ky.length : Int) := by omega
      have HX : Hid (keyT ky ks = some l) := Lib.hid (by have := HF.out; rwa [List.take_of_length_le (by omega)] at this)
      go_wp2
      go_ret2
      refine ⟨?_, HKW.out.tr HK.out⟩
      rw [HX.out]
      exact ⟨_, rfl, (RdF.own HO.out).mono (fun i hi => Nat.le_trans HKW.out.size hi)⟩
end Go.Proofs.Ytmamcnhofgfolaa
