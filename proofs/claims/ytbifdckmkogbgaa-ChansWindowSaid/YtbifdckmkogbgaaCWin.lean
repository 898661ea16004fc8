/- The law ChansWindow: its walk. -/
import Derived.Test.YtbifdckmkogbgaaCSec
import Derived.Test.YtbifdckmkogbgaaCur2
namespace Go.Proofs.Ytbifdckmkogbgaa
open Go Go.RowKit
def opw (w m : Nat) : Ch := ⟨true, 2, true, 7, min w 1073741824, min m 512, 4096, [], [], [], false, false⟩
def opw0 (w m : Nat) : Ch := ⟨true, 2, false, 7, min w 1073741824, min m 512, 4096, [], [], [confirmB 7], false, false⟩
theorem take_open (w m : Nat) (hw : w < 4294967296) (hm : m < 4294967296) (h0 : m ≠ 0) : takeC (newS true) (wishX 7 w m) = (opw0 w m, 0) := by
  rw [takeC_some (readS_wish 7 w m (by decide) hw hm) rfl]
  have e : (decide ((newS true).st ≠ 0) || decide (sessionB ≠ sessionB) || decide (m = 0)) = false := by simp [newS, h0]
  show ((if (decide ((newS true).st ≠ 0) || decide (sessionB ≠ sessionB) || decide (m = 0)) = true then sayS (newS true) (refuseB 7) else sayS (openS (newS true) { msg0 90 with text := sessionB, frm := 7, win := w, most := m }) (confirmB 7)), 0) = _
  rw [e]
  rfl
theorem take_reqN (w m : Nat) : takeC (opw0 w m) reqN = ({ opw0 w m with rd := true }, 0) := takeC_some readS_reqN rfl
theorem ok_opw0 (w m : Nat) (h0 : m ≠ 0) (rd : Bool) : TakeOk { opw0 w m with rd := rd } :=
  ⟨by show 7 < _; decide, by show min w 1073741824 ≤ _; omega, by show min m 512 ≤ _; omega, fun _ => by show 1 ≤ min m 512; omega, by show 0 ≤ _; decide, by show 1 + 0 ≤ _; decide, by show 0 ≤ _; decide, by show 4096 ≤ _; decide⟩
theorem sendOk_opw (w m : Nat) (d : List UInt8) (h0 : m ≠ 0) (h : d.length ≤ 20000) : SendOk (opw w m) d := ⟨by show 7 < _; decide, by show min w 1073741824 ≤ _; omega, by show min m 512 ≤ _; omega, fun _ => by show 1 ≤ min m 512; omega, by show 0 + d.length ≤ _; omega, by show 0 + 0 + d.length ≤ _; omega⟩
structure Win (d : List UInt8) (w m n : Nat) (cs : List (List UInt8)) : Prop where
  fl : cs.flatten = d.take n
  each : ∀ x ∈ cs, x ≠ [] ∧ x.length ≤ 512 ∧ x.length ≤ m
  n : n = min d.length w
theorem send_opw (w m : Nat) (d : List UInt8) (h0 : m ≠ 0) (h : d.length ≤ 20000) : ∃ cs n, Win d w m n cs ∧ sendS (opw w m) d = ({ opw w m with out := cs.map (dataB 7), wa := d.drop n, wi := min w 1073741824 - n }, 0) := by
  obtain ⟨cs, hF⟩ := flown { opw w m with wa := d } (by show 1 ≤ min m 512; omega) rfl
  have hn : min d.length (min w 1073741824) = min d.length w := by omega
  have e0 : min ({ opw w m with wa := d } : Ch).wa.length ({ opw w m with wa := d } : Ch).wi = min d.length w := hn
  rw [e0] at hF
  refine ⟨cs, min d.length w, ⟨hF.fl, fun x hx => ?_, rfl⟩, ?_⟩
  · have := hF.each x hx
    have h2 : x.length ≤ min m 512 := this.2
    exact ⟨this.1, by omega, by omega⟩
  · have e : sendS (opw w m) d = (flowS { opw w m with wa := d }, 0) := rfl
    rw [e, hF.eq]
    rfl
theorem flat_take1 {ls : List (List UInt8)} {k : Nat} {l : List UInt8} (h : ls[k]? = some l) : (ls.take (k + 1)).flatten = (ls.take k).flatten ++ l := by
  rw [List.take_add_one, h]
  simp
/-- A message's bytes stand in what was sent. -/
theorem Win.at {d : List UInt8} {w m n : Nat} {cs : List (List UInt8)} (h : Win d w m n cs) {k : Nat} {s : List UInt8} (hs : cs[k]? = some s) : (cs.take k).flatten.length + s.length ≤ d.length ∧ (d.drop (cs.take k).flatten.length).take s.length = s ∧ (cs.take (k + 1)).flatten.length = (cs.take k).flatten.length + s.length := by
  have h1 := flat_take1 hs
  have h2 : (cs.take (k + 1)).flatten ++ (cs.drop (k + 1)).flatten = d.take n := by rw [← List.flatten_append, List.take_append_drop, h.fl]
  have h3 : d = (cs.take k).flatten ++ (s ++ ((cs.drop (k + 1)).flatten ++ d.drop n)) := by
    conv => lhs; rw [← List.take_append_drop n d, ← h2, h1]
    simp only [List.append_assoc]
  refine ⟨?_, ?_, by rw [h1, List.length_append]⟩
  · have := congrArg List.length h3
    simp only [List.length_append] at this
    omega
  · conv => lhs; rw [h3]
    rw [List.drop_left, List.take_left]
theorem Win.all {d : List UInt8} {w m n : Nat} {cs : List (List UInt8)} (h : Win d w m n cs) : cs.flatten.length = min d.length w := by rw [h.fl, List.length_take, h.n]; omega
theorem byte_data (s : List UInt8) : byteS (some (dataB 7 s)) = (94, some (be4 7 ++ encText s)) := by
  unfold dataB toB
  rw [List.cons_append, byteS_cons]
  rfl
theorem req7_flat : [[UInt8.ofNat 98], be4 0, encText [115, 117, 98, 115, 121, 115, 116, 101, 109], [UInt8.ofNat 0], encText [110, 101, 116, 99, 111, 110, 102]].flatten = reqN := rfl
theorem okNw : TakeOk (newS true) := takeOk_of (by decide +kernel)
theorem rowsR_at {w : World} {rows : List Value} {cs : List (List UInt8)} (h : RowsR w rows (cs.map (dataB 7))) {k : Nat} (hk : k < rows.length) : ∃ v s, rows[k]? = some v ∧ cs[k]? = some s ∧ Rd w v (bys (dataB 7 s)) := by
  obtain ⟨v, hv⟩ : ∃ v, rows[k]? = some v := ⟨_, List.getElem?_eq_getElem hk⟩
  obtain ⟨l, hl, hr⟩ := h.2 k v hv
  rw [List.getElem?_map] at hl
  cases hc : cs[k]? with
  | none => rw [hc] at hl; cases hl
  | some s =>
    rw [hc] at hl
    simp at hl
    subst hl
    exact ⟨v, s, hv, rfl, hr⟩
theorem tx_of (t : ByteArray) : t = tx t.toList := by
  cases t
  unfold tx
  rw [ByteArray.toList_eq]
theorem rd_own3 {w : World} {v : Value} {l : List UInt8} (h : Rd w v (bys l)) (hl : 0 < l.length) : ∀ b, v.ownBlock = some b → b < w.heap.size := by
  obtain ⟨b0, o, cap, rfl, _, _, hc⟩ := h.posB hl
  intro b hb
  obtain rfl : b0 = b := Option.some.inj hb
  exact World.block_lt_of_cell? w _ (hc 0 hl)
set_option maxRecDepth 100000 in
set_option maxHeartbeats 4000000 in
theorem cwin_walk (win most : Int) (vd : Value) (d : List UInt8) (w : World) (hwin : 0 ≤ win ∧ win ≤ 4294967295) (hmost : 0 ≤ most ∧ most ≤ 4294967295) (hd : Rd w vd (bys d)) :
    Calls Try.prog 4 #[.int .u32 win, .int .u32 most, vd] w fun e w' => e = .returned (.bool true) ∧ Kp0 w w' := by
  obtain ⟨wn, rfl, hwn⟩ : ∃ j : Nat, win = j ∧ j < 4294967296 := ⟨win.toNat, by omega, by omega⟩
  obtain ⟨mn, rfl, hmn⟩ : ∃ j : Nat, most = j ∧ j < 4294967296 := ⟨most.toNat, by omega, by omega⟩
  have HWN := Lib.hid hwn
  have HMN := Lib.hid hmn
  have HWW : Hid (IntKind.i64.wrap (wn : Int) = (wn : Int)) := Lib.hid (by rw [IntKind.wrap_i64]; omega)
  have HMW : Hid (IntKind.i64.wrap (mn : Int) = (mn : Int)) := Lib.hid (by rw [IntKind.wrap_i64]; omega)
  have HD := Lib.hid hd
  obtain ⟨ad, cd, rfl, hdc, _, _⟩ := hd.shapeB
  clear hd hwin hmost hwn hmn
  obtain ⟨L, hL⟩ : ∃ L, L = d.length := ⟨_, rfl⟩
  have HL := Lib.hid hL
  rw [← hL] at hdc ⊢
  clear hL
  go_enter Try.func4, Try.ntmps4
  go_wp2_with fail
  refine (fit_any _).mono ?_
  rintro e w0 ⟨rfl, hk⟩
  have HK0 := Lib.hid hk
  clear hk
  by_cases h1 : mn = 0
  · have h1b : ((mn : Int) == 0) = true := by rw [beq_iff_eq]; omega
    clear h1
    go_wp2
    all_goals go_ret
    all_goals exact ⟨rfl, HK0.out⟩
  have h1b : ((mn : Int) == 0) = false := by rw [beq_eq_false_iff_ne]; omega
  have HM0 := Lib.hid h1
  clear h1
  by_cases h2 : 10000 < L
  · have h2i : (10000 : Int) < L := by omega
    clear h2
    go_wp2
    all_goals go_ret
    all_goals exact ⟨rfl, HK0.out⟩
  have h2i : ¬ (10000 : Int) < L := by omega
  have HDL : Hid (d.length ≤ 10000) := Lib.hid (by have := HL.out; omega)
  clear h2
  go_wp2_with fail
  refine (new_any true _).mono ?_
  rintro e y1 ⟨rfl, hc, hk⟩
  have hc0 := hc _ (Nat.le_refl _)
  obtain ⟨F0, hF0⟩ : ∃ F0, Cm w0.heap.size y1 w0.heap.size F0 (newS true) := ⟨_, hc0⟩
  obtain ⟨bc, hbc⟩ : ∃ bc, bc = w0.heap.size := ⟨_, rfl⟩
  have hF1 : Cm w0.heap.size y1 bc F0 (newS true) := by rw [hbc]; exact hF0
  have HC := Lib.hid hF1
  have K13 := Lib.hid hk
  rw [← hbc]
  clear hc hk hc0 hF0 hF1 hbc
  have hww := HWW.out
  have hmw := HMW.out
  have H90 := Lib.hid (Rd.lit y1 #[Value.int .u8 90] 5 (0, 0) 1 rfl (by decide))
  rw [one_byte (k := 90) (n := 90) rfl (by decide)] at H90
  have KA : Hid (Kp0 y1 (y1.alloc (.cells #[.int .u8 90] 5))) := Lib.hid ((Kp.refl _ y1).alloc _)
  go_wp2_with fail
  generalize (y1.alloc (.cells #[.int .u8 90] 5)) = wA at H90 KA ⊢
  refine (rtext_i _ _ (by decide)).mono ?_
  rintro e w4 h
  obtain ⟨v4, rfl, hr4, hk4⟩ := h.rd
  rw [lit_toList [115, 101, 115, 115, 105, 111, 110]] at hr4
  have HR4 := Lib.hid hr4
  have K4 := Lib.hid hk4
  clear h hr4 hk4
  go_wp2_with fail
  refine (ru32_i _ 7 _ rfl (by decide)).mono ?_
  rintro e w5 h
  obtain ⟨v5, rfl, hr5, hk5⟩ := h.rd
  have HR5 := Lib.hid hr5
  have K5 := Lib.hid hk5
  clear h hr5 hk5
  go_wp2_with fail
  refine (ru32_i _ wn _ rfl HWN.out).mono ?_
  rintro e w6 h
  obtain ⟨v6, rfl, hr6, hk6⟩ := h.rd
  have HR6 := Lib.hid hr6
  have K6 := Lib.hid hk6
  clear h hr6 hk6
  go_wp2_with fail
  refine (ru32_i _ mn _ rfl HMN.out).mono ?_
  rintro e w7 h
  obtain ⟨v7, rfl, hr7, hk7⟩ := h.rd
  have HR7 := Lib.hid hr7
  have K7 := Lib.hid hk7
  clear h hr7 hk7
  obtain ⟨a4, c4, rfl, _, _, _⟩ := HR4.out.shapeB
  obtain ⟨a5, c5, rfl, _, _, _⟩ := HR5.out.shapeB
  obtain ⟨a6, c6, rfl, _, _, _⟩ := HR6.out.shapeB
  obtain ⟨a7, c7, rfl, _, _, _⟩ := HR7.out.shapeB
  have hx := fun (o : Obj) => AllRd.cons ((((((H90.out.keep0 K4.out).keep0 K5.out).keep0 K6.out).keep0 K7.out)).alloc o) (AllRd.cons ((((HR4.out.keep0 K5.out).keep0 K6.out).keep0 K7.out).alloc o) (AllRd.cons (((HR5.out.keep0 K6.out).keep0 K7.out).alloc o) (AllRd.cons ((HR6.out.keep0 K7.out).alloc o) (AllRd.cons (HR7.out.alloc o) (AllRd.nil _)))))
  have HX := Lib.hid hx
  clear hx
  go_wp2_with fail
  refine (rjoin_i _ _ _ _ (Rd.lit _ #[_, _, _, _, _] 33 (0, 0) 5 rfl (by decide)) (HX.out _) (by rw [wish_flat, wish_len]; decide)).mono ?_
  rintro e w8 h
  obtain ⟨v8, rfl, hr8, hk8⟩ := h.rd
  rw [wish_flat] at hr8
  have HR8 := Lib.hid hr8
  have K8 : Hid (Kp0 y1 w8) := Lib.hid (((((KA.out.tr K4.out).tr K5.out).tr K6.out).tr K7.out).tr (((Kp.refl (fun _ => False) _).alloc _).tr hk8))
  clear h hr8 hk8 HX H90 KA K4 K5 K6 K7 HR4 HR5 HR6 HR7
  go_wp2_with fail
  refine (take_any w0.heap.size bc _ (newS true) v8 _ _ (HC.out.kp0 K8.out) HR8.out okNw).mono ?_
  rw [take_open wn mn HWN.out HMN.out HM0.out]
  rintro e w9 ⟨rfl, F9, hC9, hF9, hk9⟩
  have HC9 : Hid (Cm w0.heap.size w9 bc F9 (opw0 wn mn)) := Lib.hid hC9
  have K9 : Hid (Kp0 w0 w9) := Lib.hid (kpG (K13.out.tr K8.out) ((HC.out.kp0 K8.out).kge hk9))
  clear hC9 hF9 hk9 HR8 K8 HC K13
  have H98 := Lib.hid (Rd.lit w9 #[Value.int .u8 98] 5 (0, 0) 1 rfl (by decide))
  rw [one_byte (k := 98) (n := 98) rfl (by decide)] at H98
  have KA : Hid (Kp0 w9 (w9.alloc (.cells #[.int .u8 98] 5))) := Lib.hid ((Kp.refl _ w9).alloc _)
  go_wp2_with fail
  generalize (w9.alloc (.cells #[.int .u8 98] 5)) = wA at H98 KA ⊢
  refine (ru32_i _ 0 _ rfl (by decide)).mono ?_
  rintro e w4 h
  obtain ⟨v4, rfl, hr4, hk4⟩ := h.rd
  have HR4 := Lib.hid hr4
  have K4 := Lib.hid hk4
  clear h hr4 hk4
  go_wp2_with fail
  refine (rtext_i _ _ (by decide)).mono ?_
  rintro e w5 h
  obtain ⟨v5, rfl, hr5, hk5⟩ := h.rd
  rw [lit_toList [115, 117, 98, 115, 121, 115, 116, 101, 109]] at hr5
  have HR5 := Lib.hid hr5
  have K5 := Lib.hid hk5
  clear h hr5 hk5
  have HFL := Lib.hid (Rd.lit w5 #[Value.int .u8 0] 5 (0, 0) 1 rfl (by decide))
  rw [one_byte (k := 0) (n := 0) rfl (by decide)] at HFL
  have KF : Hid (Kp0 w5 (w5.alloc (.cells #[.int .u8 0] 5))) := Lib.hid ((Kp.refl _ w5).alloc _)
  go_wp2_with fail
  generalize (w5.alloc (.cells #[.int .u8 0] 5)) = wF at HFL KF ⊢
  refine (rtext_i _ _ (by decide)).mono ?_
  rintro e w6 h
  obtain ⟨v6, rfl, hr6, hk6⟩ := h.rd
  rw [lit_toList [110, 101, 116, 99, 111, 110, 102]] at hr6
  have HR6 := Lib.hid hr6
  have K6 := Lib.hid hk6
  clear h hr6 hk6
  obtain ⟨a4, c4, rfl, _, _, _⟩ := HR4.out.shapeB
  obtain ⟨a5, c5, rfl, _, _, _⟩ := HR5.out.shapeB
  obtain ⟨a6, c6, rfl, _, _, _⟩ := HR6.out.shapeB
  have hx := fun (o : Obj) => AllRd.cons (((((H98.out.keep0 K4.out).keep0 K5.out).keep0 KF.out).keep0 K6.out).alloc o) (AllRd.cons ((((HR4.out.keep0 K5.out).keep0 KF.out).keep0 K6.out).alloc o) (AllRd.cons (((HR5.out.keep0 KF.out).keep0 K6.out).alloc o) (AllRd.cons ((HFL.out.keep0 K6.out).alloc o) (AllRd.cons (HR6.out.alloc o) (AllRd.nil _)))))
  have HX := Lib.hid hx
  clear hx
  go_wp2_with fail
  refine (rjoin_i _ _ _ _ (Rd.lit _ #[_, _, _, _, _] 33 (0, 0) 5 rfl (by decide)) (HX.out _) (by rw [req7_flat]; decide)).mono ?_
  rintro e w8 h
  obtain ⟨v8, rfl, hr8, hk8⟩ := h.rd
  rw [req7_flat] at hr8
  have HR8 := Lib.hid hr8
  have K8 : Hid (Kp0 w9 w8) := Lib.hid (((((KA.out.tr K4.out).tr K5.out).tr KF.out).tr K6.out).tr (((Kp.refl (fun _ => False) _).alloc _).tr hk8))
  clear h hr8 hk8 HX H98 HFL KA K4 K5 K6 KF HR4 HR5 HR6
  go_wp2_with fail
  refine (take_any w0.heap.size bc _ _ v8 _ _ (HC9.out.kp0 K8.out) HR8.out (ok_opw0 wn mn HM0.out false)).mono ?_
  rw [take_reqN]
  rintro e w10 ⟨rfl, F10, hC10, hF10, hk10⟩
  have HC10 : Hid (Cm w0.heap.size w10 bc F10 { opw0 wn mn with rd := true }) := Lib.hid hC10
  have K10 : Hid (Kp0 w0 w10) := Lib.hid (kpG (K9.out.tr K8.out) ((HC9.out.kp0 K8.out).kge hk10))
  clear hC10 hF10 hk10 HR8 K8 HC9 K9
  go_wp2_with fail
  refine (out_any w0.heap.size bc F10 _ _ HC10.out).mono ?_
  rintro e w11 ⟨vl, rows, F11, rfl, hl, _, hC11, _, _, _, hkb, _⟩
  obtain ⟨al, cl, rfl, _, _, _⟩ := hl.shape
  have HC11 : Hid (Cm w0.heap.size w11 bc F11 (opw wn mn)) := Lib.hid hC11
  have K11 : Hid (Kp0 w0 w11) := Lib.hid (kpG K10.out (hkb.mono (fun i _ e => by rw [e]; exact (HC10.out.fB _ HC10.out.fb).1)))
  clear hC11 hkb HC10 K10 hl
  obtain ⟨cs, N, hwin, hse⟩ := send_opw wn mn d HM0.out (by have := HDL.out; omega)
  have HWIN := Lib.hid hwin
  have HSE := Lib.hid hse
  clear hwin hse
  go_wp2_with fail
  refine (send_any w0.heap.size bc F11 (opw wn mn) _ d _ HC11.out (by have := (HD.out.keep0 HK0.out).keep0 K11.out; rw [← HL.out] at this; exact this) (sendOk_opw wn mn d HM0.out (by have := HDL.out; omega))).mono ?_
  rw [HSE.out]
  rintro e w12 ⟨rfl, F12, hC12, hF12, hk12⟩
  have HC12 := Lib.hid hC12
  have K12 : Hid (Kp0 w0 w12) := Lib.hid (kpG K11.out (HC11.out.kge hk12))
  clear hC12 hF12 hk12 HC11 K11 HSE
  go_wp2_with fail
  refine (out_any w0.heap.size bc F12 _ _ HC12.out).mono ?_
  rintro e w13 ⟨vl, rows, F13, rfl, hl, hrs, hC13, _, _, _, hkb, _⟩
  obtain ⟨al, cl, rfl, _, hl2, _⟩ := hl.shape
  have hrl : (rows.length : Int) ≤ 9223372036854775807 := by unfold maxLen at hl2; omega
  have HC13 : Hid (Cm w0.heap.size w13 bc F13 ⟨true, 2, true, 7, min wn 1073741824 - N, min mn 512, 4096, d.drop N, [], [], false, false⟩) := Lib.hid hC13
  have K13 : Hid (Kp0 w0 w13) := Lib.hid (kpG K12.out (hkb.mono (fun i _ e => by rw [e]; exact (HC12.out.fB _ HC12.out.fb).1)))
  have HLI := Lib.hid hl
  have HRS : Hid (RowsR w13 rows (cs.map (dataB 7))) := Lib.hid hrs
  have HRL : Hid (rows.length = cs.length) := Lib.hid (by have := HRS.out.1; rw [List.length_map] at this; exact this)
  clear hC13 hkb HC12 K12 hl hrs hl2
  go_wp2
  go_loopg [8, 56] rows.length (fun gg n i wr => ∃ k : Nat, i = .int .i64 k ∧ n = .int .i64 (((cs.take k).flatten.length : Nat) : Int) ∧ gg = rows.length - k ∧ k ≤ rows.length ∧ Kp0 w13 wr)
  case atStart => exact ⟨0, rfl, rfl, rfl, Nat.zero_le _, Kp.refl _ _⟩
  case round =>
    obtain ⟨k, rfl, rfl, rfl, hk, hkp⟩ := hrel
    have HKP := Lib.hid hkp
    have HAA := Lib.hid (HLI.out.keep0 hkp)
    obtain ⟨n0, hn0⟩ : ∃ n0, n0 = (cs.take k).flatten.length := ⟨_, rfl⟩
    rw [← hn0]
    have HN0 := Lib.hid hn0
    clear hkp hn0
    by_cases hlt : k < rows.length
    · have hlti : (k : Int) < rows.length := by omega
      obtain ⟨v, s, hv, hs, hr⟩ := rowsR_at HRS.out hlt
      obtain ⟨bp, op, xp, e, _, _, _⟩ := HAA.out.pos (by omega)
      simp only [Value.slice.injEq] at e
      obtain ⟨rfl, _, rfl⟩ := e
      have hcp := HAA.out.range2 k _ hv
      have HAT := Lib.hid (HWIN.out.at hs)
      have HEA := Lib.hid (HWIN.out.each s (List.mem_of_getElem? hs))
      have HV := Lib.hid (hr.keep0 HKP.out)
      have HVO := Lib.hid (fun g hg => rd_own3 (hr.keep0 HKP.out) (by unfold dataB toB; simp) g hg)
      have HE := Lib.hid hlt
      obtain ⟨av, cv, rfl, _, _, _⟩ := hr.shapeB
      clear hv hs hr hlt
      go_wp2_with fail
      have HDS : Hid ((dataB 7 s).length ≤ 140737488351232) := Lib.hid (by have := HEA.out.2.1; simp [dataB, toB, be4, encText]; omega)
      have HCU : Hid (Cs (wr.alloc (.cells #[.slice av (dataB 7 s).length cv, .int .i64 0, .bool false] 47)) wr.heap.size (.slice av (dataB 7 s).length cv) (dataB 7 s) (some (dataB 7 s))) := Lib.hid ⟨⟨0, false, heap_alloc_new wr _, Nat.zero_le _, rfl⟩, HV.out.alloc _, fun g hg e => by have := HVO.out g hg; omega⟩
      have HKC : Hid (Kp0 w13 (wr.alloc (.cells #[.slice av (dataB 7 s).length cv, .int .i64 0, .bool false] 47))) := Lib.hid (HKP.out.alloc _)
      have HCB : Hid (w13.heap.size ≤ wr.heap.size) := Lib.hid HKP.out.size
      generalize (wr.alloc (.cells #[.slice av (dataB 7 s).length cv, .int .i64 0, .bool false] 47)) = q0 at HCU HKC ⊢
      generalize wr.heap.size = c at HCU HCB ⊢
      refine (byte_cs c _ (dataB 7 s) _ _ HCU.out HDS.out).mono ?_
      rw [byte_data]
      rintro e q1 ⟨rfl, hc1, hk1⟩
      have HC1 := Lib.hid hc1
      have HQ1 := Lib.hid hk1
      clear hc1 hk1
      go_wp2_with fail
      refine (u32_cs c _ (dataB 7 s) _ _ HC1.out HDS.out).mono ?_
      rw [u32S_be4 7 _ (by decide)]
      rintro e q2 ⟨rfl, hc2, hk2⟩
      have HC2 := Lib.hid hc2
      have HQ2 := Lib.hid (HQ1.out.tr hk2)
      clear hc2 hk2
      go_wp2_with fail
      refine (text_cs c _ (dataB 7 s) _ _ HC2.out HDS.out).mono ?_
      rw [textS_ence s (by have := HEA.out.2.1; omega)]
      rintro e q3 ⟨t, rfl, ht, hc3, hk3⟩
      have ht2 : t.toList = s := ht
      obtain rfl : t = tx s := by rw [← ht2]; exact tx_of t
      have HC3 := Lib.hid hc3
      have HQ3 := Lib.hid (HQ2.out.tr hk3)
      clear hc3 hk3 ht ht2 HC1 HC2 HQ1 HQ2 HCU
      have HN1 := Lib.hid HAT.out.2.2
      have HS2 := Lib.hid HAT.out.2.1
      have HS1 := Lib.hid HAT.out.1
      clear HAT
      obtain ⟨n1, hn1⟩ : ∃ n1, n1 = (cs.take (k + 1)).flatten.length := ⟨_, rfl⟩
      rw [← hn1] at HN1
      have HNE := Lib.hid hn1
      clear hn1
      rw [← HN0.out] at HN1 HS1 HS2
      have hsz : (tx s).size = s.length := tx_size s
      have hpos : 0 < s.length := List.length_pos_iff.2 HEA.out.1
      have z0 : (((tx s).size : Int) == 0) = false := by rw [beq_eq_false_iff_ne]; omega
      have z1 : ¬ (512 : Int) < ((tx s).size : Int) := by have := HEA.out.2.1; omega
      have z2 : IntKind.u32.wrap ((tx s).size : Int) = ((tx s).size : Int) := by have := HEA.out.2.1; rw [IntKind.wrap_u32]; omega
      have z3 : ¬ (mn : Int) < ((tx s).size : Int) := by have := HEA.out.2.2; omega
      have z4 : IntKind.i64.wrap ((n0 : Int) + ((tx s).size : Int)) = (n1 : Int) := by have h1 := HN1.out; have h2 := HS1.out; have h3 := HDL.out; rw [IntKind.wrap_i64]; omega
      have z5 : n0 ≤ n1 := by have := HN1.out; omega
      have z6 : n1 ≤ L := by have h1 := HN1.out; have h2 := HS1.out; have h3 := HL.out; omega
      have z7 : n1 ≤ cd := by omega
      have z8 : ¬ cd = n0 := by have := HN1.out; omega
      have z9 : ((tx s).toList != (tx s).toList) = false := by simp
      clear hsz hpos
      go_wp2_with fail
      refine (end_cs c _ (dataB 7 s) _ _ HC3.out HDS.out).mono ?_
      rintro e q4 ⟨rfl, hk4⟩
      have hq4 : Kp0 w13 q4 := kpG HKC.out ((HQ3.out.mono (fun i _ e => by have h1 : i = c := e; have h2 := HCB.out; omega)).tr (hk4.mono (fun i _ e => e.elim)))
      have HQ4 := Lib.hid hq4
      clear hk4 hq4
      have hrd := ((HD.out.keep0 HK0.out).keep0 (K13.out.tr HQ4.out)).cut n0 n1 cd z5 (by have := HL.out; omega) z7 (Nat.le_refl _)
      have ec : ((bys d).drop n0).take (n1 - n0) = bys s := by
        have h1 := HN1.out
        have h2 := HS2.out
        rw [show n1 - n0 = s.length by omega]
        unfold bys
        rw [← List.map_drop, ← List.map_take, h2]
      rw [ec] at hrd
      have cv0 := cv_tx hrd
      simp only [sliced, z8, if_false, Nat.mul_one] at cv0
      clear hrd ec
      go_wp2
      go_roundg (rows.length - (k + 1))
      case measure => have := HE.out; omega
      case rel => exact ⟨k + 1, by go_num, by rw [← HNE.out], rfl, HE.out, HQ4.out⟩
    · obtain rfl : k = rows.length := by omega
      have hn1 : n0 = min L wn := by
        have h1 := HN0.out
        rw [List.take_of_length_le (by have := HRL.out; omega), HWIN.out.all, ← HL.out] at h1
        exact h1
      have hn2 : N = n0 := by rw [HWIN.out.n, hn1, HL.out]
      subst hn2
      have HCW := Lib.hid (HC13.out.kp0 HKP.out)
      have HKW := Lib.hid (K13.out.tr HKP.out)
      have hpl : (((d.drop N).length : Nat) : Int) = ((L - N : Nat) : Int) := by rw [List.length_drop, HL.out]
      have HPL := Lib.hid hpl
      have hsub : IntKind.i64.wrap ((L : Int) - (N : Int)) = ((L - N : Nat) : Int) := by have h3 := HDL.out; have h2 := HL.out; rw [IntKind.wrap_i64]; omega
      have hww := HWW.out
      clear hk hlt hpl HC13 HLI HRS HAA
      by_cases hwl : (wn : Int) < (L : Int)
      · obtain rfl : N = wn := by omega
        clear hn1
        go_wp2_with fail
        refine (pending_any w0.heap.size bc F13 _ _ HCW.out).mono ?_
        rintro e y ⟨rfl, rfl⟩
        simp only [HPL.out]
        go_wp2
        all_goals go_ret
        all_goals exact ⟨rfl, HK0.out.tr HKW.out⟩
      · obtain rfl : N = L := by omega
        clear hn1
        go_wp2_with fail
        refine (pending_any w0.heap.size bc F13 _ _ HCW.out).mono ?_
        rintro e y ⟨rfl, rfl⟩
        simp only [HPL.out]
        go_wp2
        all_goals go_ret
        all_goals exact ⟨rfl, HK0.out.tr HKW.out⟩
end Go.Proofs.Ytbifdckmkogbgaa
