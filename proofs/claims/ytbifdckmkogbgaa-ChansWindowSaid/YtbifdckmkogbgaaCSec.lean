/- The law ChansSecond: its walk. -/
import Derived.Test.YtbifdckmkogbgaaChV
import Derived.Test.YtbifdckmkogbgaaRefB
import Derived.Test.YtbifdckmkogbgaaReg7
namespace Go.Proofs.Ytbifdckmkogbgaa
open Go Go.RowKit
theorem begin_no (B b : Nat) (F : Nat → Prop) (c : Ch) (w : World) (h : Cm B w b F c) (hst : c.st ≠ 0) (hsv : c.sv = false) :
    Calls Try.prog 11 #[.pointer (some ⟨b, 0, none⟩)] w fun e w' => e = .returned (.int .i64 8) ∧ w = w' := by
  obtain ⟨vw, vc, vo, rows, h⟩ := h
  have hc0 := h.c0
  have hc1 := h.c1
  rw [hsv] at hc0
  have hb : ((c.st : Int) != 0) = true := by rw [bne_iff_ne]; omega
  clear h hst hsv
  go_enter Try.func11, Try.ntmps11
  go_wp2
  go_ret
  exact ⟨rfl, rfl⟩
theorem ru32_i (m : Int) (k : Nat) (w : World) (hm : m = k) (hk : k < 4294967296) : Calls Try.prog 19 #[.int .i64 m] w (MadeP (be4 k) w) := by
  subst hm
  exact ru32_any k w hk
theorem rtext_i (s : ByteArray) (w : World) (hl : s.size ≤ 800000000) : Calls Try.prog 18 #[.string s] w (MadeP (encText s.toList) w) := rtext_any s w hl
theorem rjoin_i (p : Value) (vs : List Value) (ls : List (List UInt8)) (w : World) (hp : Rd w p vs) (ha : AllRd w vs ls) (hl : ls.flatten.length ≤ 600000000) : Calls Try.prog 17 #[p] w (MadeP ls.flatten w) := rjoin_any p vs ls w hp ha hl
theorem AllRd.kp0 {w w1 : World} {vs : List Value} {ls : List (List UInt8)} (h : AllRd w vs ls) (hk : Kp0 w w1) : AllRd w1 vs ls := ⟨h.1, fun i h1 h2 => (h.2 i h1 h2).keep0 hk⟩
theorem MadeP.rd {l : List UInt8} {w w' : World} {e : Ending} (h : MadeP l w e w') : ∃ v, e = .returned v ∧ Rd w' v (bys l) ∧ Kp0 w w' := by
  obtain ⟨v, h1, h2, h3⟩ := h
  exact ⟨v, h1, h2.rd, h3⟩
theorem wish_flat (j w m : Nat) : [[UInt8.ofNat 90], encText [115, 101, 115, 115, 105, 111, 110], be4 j, be4 w, be4 m].flatten = wishX j w m := rfl
theorem wish_len (j w m : Nat) : (wishX j w m).length = 24 := rfl
def refB (j : Nat) : Ch := sayS pairB (refuseB j)
theorem take_wish (j : Nat) (hj : j < 4294967296) : takeC pairB (wishX j 9 9) = (refB j, 0) := takeC_some (readS_wish j 9 9 hj (by decide) (by decide)) rfl
theorem okB : TakeOk pairB := takeOk_of (by decide +kernel)
theorem row_one {w : World} {rows : List Value} {l : List UInt8} (h : RowsR w rows [l]) : ∃ v, rows = [v] ∧ Rd w v (bys l) := by
  obtain ⟨h1, h2⟩ := h
  match rows, h1 with
  | [v], _ =>
    obtain ⟨l', e, hr⟩ := h2 0 v rfl
    simp at e
    subst e
    exact ⟨v, rfl, hr⟩
theorem Pair.second {B : Nat} {w w1 : World} {ba bb : Nat} {x : Ch × Ch} {c : Ch} {Fa Fb : Nat → Prop} (h1 : Cm B w ba Fa x.1) (h2 : Cm B w bb Fb x.2) (h3 : ∀ i, Fa i → ¬ Fb i) (hp : CmP B bb Fb w c w1) : Pair B w1 ba bb (x.1, c) :=
  (Pair.first (x := (x.2, x.1)) h2 h1 (fun i hb ha => h3 i ha hb) hp).swap
theorem send_no (B b : Nat) (F : Nat → Prop) (c : Ch) (v : Value) (w : World) (h : Cm B w b F c) (hst : c.st = 2) (hrd : c.rd = false) :
    Calls Try.prog 14 #[.pointer (some ⟨b, 0, none⟩), v] w fun e w' => e = .returned (.int .i64 8) ∧ w = w' := by
  obtain ⟨vw, vc, vo, rows, h⟩ := h
  have hc1 := h.c1
  have hc2 := h.c2
  rw [hrd] at hc2
  rw [hst] at hc1
  clear h hst hrd
  go_enter Try.func14, Try.ntmps14
  go_wp2
  go_ret
  exact ⟨rfl, rfl⟩
def opnB : Ch := ⟨true, 2, false, 3, 9, 9, 4096, [], [], [], false, false⟩
theorem take_wish3 : takeC (newS true) (wishX 3 9 9) = (sayS opnB (confirmB 3), 0) := by decide +kernel
theorem take_req (name : List UInt8) (f : UInt8) (h1 : name.length ≤ 300) (h2 : name ≠ subsystemB) : takeC opnB (reqX name f) = (if f.toNat ≠ 0 then sayS opnB (toB 100 3) else opnB, 0) := by
  rw [takeC_some (readS_req name f (by omega) h2) rfl]
  unfold heedS answerS
  simp [msg0, opnB]
theorem req_flat (name : List UInt8) (f : UInt8) : [[UInt8.ofNat 98], be4 0, encText name, [f]].flatten = reqX name f := by
  unfold reqX toB
  simp
theorem req_len (name : List UInt8) (f : UInt8) : (reqX name f).length = name.length + 10 := by
  unfold reqX toB encText
  simp [be4_len]
  omega
theorem Rd.lit2 (w : World) (o : Obj) (cs : Array Value) (e : TypeId) (n : Nat) (hn : cs.size = n) (hm : n ≤ 9223372036854775807) : Rd ((w.alloc o).alloc (.cells cs e (0, 0))) (.slice (some ⟨w.heap.size + 1, 0, none⟩) n n) cs.toList := by
  have := Rd.lit (w.alloc o) cs e (0, 0) n hn hm
  rwa [show (w.alloc o).heap.size = w.heap.size + 1 from by simp] at this
theorem okN : TakeOk (newS true) := takeOk_of (by decide +kernel)
theorem okO : TakeOk opnB := takeOk_of (by decide +kernel)
set_option maxRecDepth 100000 in
set_option maxHeartbeats 4000000 in
theorem csec_walk (id : Int) (name : ByteArray) (reply : Bool) (w : World) (hid : 0 ≤ id ∧ id ≤ 4294967295) (hn : name.size ≤ 140737488351232) :
    Calls Try.prog 7 #[.int .u32 id, .string name, .bool reply] w fun e w' => e = .returned (.bool true) ∧ Kp0 w w' := by
  obtain ⟨j, rfl, hj⟩ : ∃ j : Nat, id = j ∧ j < 4294967296 := ⟨id.toNat, by omega, by omega⟩
  have HJ := Lib.hid hj
  have HJI : Hid (IntKind.i64.wrap (j : Int) = (j : Int)) := Lib.hid (by rw [IntKind.wrap_i64]; omega)
  clear hid hj
  go_enter Try.func7, Try.ntmps7
  go_wp2_with fail
  refine (fit_any _).mono ?_
  rintro e w0 ⟨rfl, hk⟩
  have HK0 := Lib.hid hk
  clear hk
  by_cases hbig : 300 < name.size
  · have hbi : (300 : Int) < name.size := by omega
    clear hbig
    go_wp2
    all_goals go_ret
    all_goals exact ⟨rfl, HK0.out⟩
  have hbi : ¬ (300 : Int) < name.size := by omega
  have HNM : Hid (name.size ≤ 300) := Lib.hid (by omega)
  clear hbig hn
  go_wp2_with fail
  refine (new_any false _).mono ?_
  rintro e w1 ⟨rfl, hc1, hk1⟩
  have HC1 := Lib.hid hc1
  have HK1 := Lib.hid hk1
  clear hc1 hk1
  go_wp2_with fail
  refine (new_any true _).mono ?_
  rintro e w2 ⟨rfl, hc2, hk2⟩
  have HC2 := Lib.hid hc2
  have HK2 := Lib.hid hk2
  clear hc2 hk2
  go_wp2_with fail
  refine (begin_any w0.heap.size w0.heap.size _ _ _ ((HC1.out _ (Nat.le_refl _)).kp0 HK2.out) (by decide)).mono ?_
  rintro e w3 h3
  obtain ⟨rfl, hs⟩ := sq_start HC1.out HK1.out HC2.out HK2.out h3
  have HS0 := Lib.hid hs
  clear h3 hs HC1 HK1 HC2 HK2
  generalize w0.heap.size = ba at HS0 ⊢
  generalize w1.heap.size = bb at HS0 ⊢
  go_wp2
  go_loopg [23] 4 (fun gg i wr => ∃ k : Nat, i = .int .i64 k ∧ gg = 4 - k ∧ k ≤ 4 ∧ Sq w0 wr ba bb k)
  case atStart => exact ⟨0, rfl, rfl, by omega, HS0.out⟩
  case round =>
    obtain ⟨k, rfl, rfl, hk, hs⟩ := hrel
    have HS := Lib.hid hs
    clear hs HS0
    by_cases hlt : k < 4
    · have hlti : (k : Int) < 4 := by omega
      have HOK := Lib.hid (seq_ok k hlt)
      have HE := Lib.hid hlt
      clear hlt
      go_wp2_with fail
      refine (carry_any w0.heap.size ba bb (seqS k) _ HS.out.p (carryOk_of HOK.out.1)).mono ?_
      rintro e w4 ⟨rfl, h4⟩
      have H4 := Lib.hid h4
      clear h4
      go_wp2_with fail
      refine (carry_any w0.heap.size bb ba _ _ H4.out.1.swap (carryOk_of HOK.out.2)).mono ?_
      rintro e w5 ⟨rfl, h5⟩
      have H5 := Lib.hid (HS.out.carry ⟨rfl, H4.out⟩ ⟨rfl, h5⟩)
      clear h5 H4 HS
      go_wp2
      go_roundg (4 - (k + 1))
      case measure => have := HE.out; omega
      case rel => exact ⟨k + 1, by go_num, rfl, HE.out, H5.out⟩
    · obtain rfl : k = 4 := by omega
      have HP : Hid (Pair w0.heap.size wr ba bb (pairA, pairB)) := Lib.hid (by have hp := HS.out.p; rw [seq_4] at hp; exact hp)
      have HKW : Hid (Kp0 w0 wr) := Lib.hid HS.out.k
      clear hk hlt HS
      have H90 := Lib.hid (Rd.lit wr #[Value.int .u8 90] 5 (0, 0) 1 rfl (by decide))
      rw [one_byte (k := 90) (n := 90) rfl (by decide)] at H90
      have KA : Hid (Kp0 wr (wr.alloc (.cells #[.int .u8 90] 5))) := Lib.hid ((Kp.refl _ wr).alloc _)
      have hwj := HJI.out
      go_wp2_with fail
      generalize (wr.alloc (.cells #[.int .u8 90] 5)) = wA at H90 KA ⊢
      refine (rtext_i _ _ (by decide)).mono ?_
      rintro e w4 h
      obtain ⟨v4, rfl, hr4, hk4⟩ := h.rd
      rw [lit_toList [115, 101, 115, 115, 105, 111, 110]] at hr4
      have HR4 := Lib.hid hr4
      have K4 := Lib.hid hk4
      clear h hr4 hk4
      go_wp2_with fail
      refine (ru32_i _ j _ rfl HJ.out).mono ?_
      rintro e w5 h
      obtain ⟨v5, rfl, hr5, hk5⟩ := h.rd
      have HR5 := Lib.hid hr5
      have K5 := Lib.hid hk5
      clear h hr5 hk5
      go_wp2_with fail
      refine (ru32_i _ 9 _ rfl (by decide)).mono ?_
      rintro e w6 h
      obtain ⟨v6, rfl, hr6, hk6⟩ := h.rd
      have HR6 := Lib.hid hr6
      have K6 := Lib.hid hk6
      clear h hr6 hk6
      go_wp2_with fail
      refine (ru32_i _ 9 _ rfl (by decide)).mono ?_
      rintro e w7 h
      obtain ⟨v7, rfl, hr7, hk7⟩ := h.rd
      have HR7 := Lib.hid hr7
      have K7 := Lib.hid hk7
      clear h hr7 hk7
      obtain ⟨a4, c4, rfl, _, _, _⟩ := HR4.out.shapeB
      obtain ⟨a5, c5, rfl, _, _, _⟩ := HR5.out.shapeB
      obtain ⟨a6, c6, rfl, _, _, _⟩ := HR6.out.shapeB
      obtain ⟨a7, c7, rfl, _, _, _⟩ := HR7.out.shapeB
      have hx := fun (o : Obj) => AllRd.cons ((((((H90.out.keep0 K4.out).keep0 K5.out).keep0 K6.out).keep0 K7.out)).alloc o) (AllRd.cons ((((HR4.out.keep0 K5.out).keep0 K6.out).keep0 K7.out).alloc o) (AllRd.cons (((HR5.out.keep0 K6.out).keep0 K7.out).alloc o) (AllRd.cons ((HR6.out.keep0 K7.out).alloc o) (AllRd.cons (HR7.out.alloc o) (AllRd.nil _)))))
      have HX := Lib.hid hx
      clear hx
      go_wp2_with fail
      refine (rjoin_i _ _ _ _ (Rd.lit _ #[_, _, _, _, _] 33 (0, 0) 5 rfl (by decide)) (HX.out _) (by rw [wish_flat, wish_len]; decide)).mono ?_
      rintro e w8 h
      obtain ⟨v8, rfl, hr8, hk8⟩ := h.rd
      rw [wish_flat] at hr8
      have HR8 := Lib.hid hr8
      have K8 : Hid (Kp0 wr w8) := Lib.hid (((((KA.out.tr K4.out).tr K5.out).tr K6.out).tr K7.out).tr (((Kp.refl (fun _ => False) _).alloc _).tr hk8))
      obtain ⟨Fa, Fb, hca, hcb, hab⟩ := (HP.out.kp0 K8.out).p
      have HCA := Lib.hid hca
      have HCB := Lib.hid hcb
      have HAB := Lib.hid hab
      clear h hr8 hk8 hca hcb hab HX H90 KA K4 K5 K6 K7 HR4 HR5 HR6 HR7 hwj
      go_wp2_with fail
      refine (take_any w0.heap.size bb Fb pairB v8 _ _ HCB.out HR8.out okB).mono ?_
      rw [take_wish j HJ.out]
      rintro e w9 ⟨rfl, hp⟩
      have K9 : Hid (Kp0 w0 w9) := Lib.hid (kpG (HKW.out.tr K8.out) (HCB.out.kge hp.choose_spec.2.2))
      have HP9 : Hid (Pair w0.heap.size w9 ba bb (pairA, refB j)) := Lib.hid (Pair.second (x := (pairA, pairB)) HCA.out HCB.out HAB.out hp)
      clear hp HCA HCB HAB K8 HR8 HP
      obtain ⟨Fa, Fb, hca, hcb, hab⟩ := HP9.out.p
      have HCA := Lib.hid hca
      have HCB := Lib.hid hcb
      have HAB := Lib.hid hab
      clear hca hcb hab HP9
      go_wp2_with fail
      refine (out_any w0.heap.size bb Fb (refB j) _ HCB.out).mono ?_
      rintro e w10 ⟨vl, rows, Fb2, rfl, hl, hrs, hcb2, hsub, hnl, hnr, hkb, _⟩
      obtain ⟨vx, rfl, hx⟩ := row_one (l := refuseB j) hrs
      obtain ⟨gl, ol, cl, rfl, _, _, hcell⟩ := hl.pos (by simp)
      obtain ⟨gx, ox, cx, rfl, hx17, _, hcx⟩ := hx.posB (by show 0 < 17; decide)
      have hr4 := (hx.afterB 1 (by show 1 < 17; decide))
      have hr4 := Rd.take hr4 4 (by show 4 ≤ 17 - 1; decide)
      have hr4 : Rd w10 (.slice (some ⟨gx, ox + 1, none⟩) 4 (cx - 1)) (bys (be4 j)) := hr4
      have hq1 : w10.drew.cell? ⟨gl, ol, none⟩ = some (.slice (some ⟨gx, ox, none⟩) 17 cx) := hcell 0 (by simp)
      have hq2 : w10.drew.cell? ⟨gx, ox, none⟩ = some (.int .u8 92) := hcx 0 (by show 0 < 17; decide)
      have h17 : 17 ≤ cx := hx17
      clear hx17
      have hcx1 : ¬ cx = 1 := by omega
      have hcx5 : ¬ cx < 5 := by omega
      have hcxi : (5 : Int) ≤ cx := by omega
      have hfb := hcb2.fb
      have HCB2 : Hid (Cm w0.heap.size w10 bb Fb2 pairB) := Lib.hid hcb2
      have HCA2 : Hid (Cm w0.heap.size w10 ba Fa pairA) := Lib.hid (HCA.out.keep hkb (fun i hi e => HAB.out i hi (by rw [e]; exact HCB.out.fb)))
      have HAB2 : Hid (∀ i, Fa i → ¬ Fb2 i) := Lib.hid (fun i hi hb => HAB.out i hi (hsub i hb))
      have K10 : Hid (Kp0 w0 w10) := Lib.hid (kpG K9.out (hkb.mono (fun i _ e => by rw [e]; exact (HCB.out.fB _ HCB.out.fb).1)))
      have HR4 := Lib.hid (hr4.keep0 (Kp.refl _ w10).drew)
      have HCA3 := Lib.hid (HCA2.out.kp0 (Kp.refl _ w10).drew)
      have HCB3 := Lib.hid (HCB2.out.kp0 (Kp.refl _ w10).drew)
      have K11 : Hid (Kp0 w0 w10.drew) := Lib.hid K10.out.drew
      have HQ1 := Lib.hid hq1
      have HQ2 := Lib.hid hq2
      clear hl hrs hcb2 hsub hnl hnr hkb hcell hcx hx hr4 hfb hq1 hq2 HCA HCB HAB K9 HCB2 HCA2 K10
      go_upto_region 14 with (fail)
      refine wp_region_px7 [[1,2,3,4,5,6,7,8,9,10,11,12,13,14,15,16,17,18,19,20,21,22,23,24,25,26,27,28,29,30,31,32,33,34,35,36],[2,3,4,5,6,7,8,9,10,11,12,13,14,15,16,17,18,19,20,21,22,23,24,25,26,27,28,29,30,31,32,33,34,35,36],[3,4,5,6,7,8,9,10,11,12,13,14,15,16,17,18,19,20,21,22,23,24,25,26,27,28,29,30,31,32,33,34,35,36],[4,5,6,7,8,9,10,11,12,13,14,15,16,17,18,19,20,21,22,23,24,25,26,27,28,29,30,31,32,33,34,35,36],[5,6,7,8,9,10,11,12,13,14,15,16,17,18,19,20,21,22,23,24,25,26,27,28,29,30,31,32,33,34,35,36],[6,7,8,9,10,11,12,13,14,15,16,17,18,19,20,21,22,23,24,25,26,27,28,29,30,31,32,33,34,35,36],[7,8,9,10,11,12,13,14,15,16,17,18,19,20,21,22,23,24,25,26,27,28,29,30,31,32,33,34,35,36],[8,9,10,11,12,13,14,15,16,17,18,19,20,21,22,23,24,25,26,27,28,29,30,31,32,33,34,35,36],[9,10,11,12,13,14,15,16,17,18,19,20,21,22,23,24,25,26,27,28,29,30,31,32,33,34,35,36],[10,11,12,13,14,15,16,17,18,19,20,21,22,23,24,25,26,27,28,29,30,31,32,33,34,35,36],[11,12,13,14,15,16,17,18,19,20,21,22,23,24,25,26,27,28,29,30,31,32,33,34,35,36],[12,13,14,15,16,17,18,19,20,21,22,23,24,25,26,27,28,29,30,31,32,33,34,35,36],[13,14,15,16,17,18,19,20,21,22,23,24,25,26,27,28,29,30,31,32,33,34,35,36],[14,15,16,17,18,19,20,21,22,23,24,25,26,27,28,29,30,31,32,33,34,35,36],[15,16,17,18,19,20,21,22,23,24,25,26,27,28,29,30,31,32,33,34,35,36],[16,17,18,19,20,21,22,23,24,25,26,27,28,29,30,31,32,33,34,35,36],[17,18,19,20,21,22,23,24,25,26,27,28,29,30,31,32,33,34,35,36],[18,19,20,21,22,23,24,25,26,27,28,29,30,31,32,33,34,35,36],[19,20,21,22,23,24,25,26,27,28,29,30,31,32,33,34,35,36],[20,21,22,23,24,25,26,27,28,29,30,31,32,33,34,35,36],[21,22,23,24,25,26,27,28,29,30,31,32,33,34,35,36],[22,23,24,25,30,31,32,33,34,35,36],[23,24,25,30,31,32,33,34,35,36],[24,25,30,31,32,33,34,35,36],[25,30,31,32,33,34,35,36],[30,31,32,33,34,35,36],[27,28,29,30,31,32,33,34,35,36],[28,29,30,31,32,33,34,35,36],[29,30,31,32,33,34,35,36],[30,31,32,33,34,35,36],[31,32,33,34,35,36],[32,33,34,35,36],[33,34,35,36],[34,35,36],[35,36],[36],[]] (fun w' : World => Kp0 w10.drew w') (.quiet 0 (.eff 1 (.quiet 2 (.quiet 3 (.quiet 4 (.quiet 5 (.quiet 6 (.quiet 7 (.quiet 8 (.quiet 9 (.quiet 10 (.quiet 11 (.quiet 12 (.quiet 13 (.quiet 14 (.quiet 15 (.quiet 16 (.quiet 17 (.quiet 18 (.quiet 19 (.quiet 20 (.quiet 21 (.quiet 22 (.quiet 23 (.quiet 24 (.quiet 25 (.quiet 26 (.quiet 27 (.eff 28 (.quiet 29 (.quiet 30 (.quiet 31 (.quiet 32 (.quiet 33 (.eff 34 (.quiet 35 (.quiet 36 .done))))))))))))))))))))))))))))))))))))) (by kernel_rfl) (by kernel_rfl) (by kernel_rfl) (by kernel_rfl) (fun _ d _ _ _ h => by cases d <;> exact h) (Kp.refl _ _) ?_
      generalize w10.drew = wd at HR4 HCA3 HCB3 K11 HQ1 HQ2 ⊢
      refine px_quiet (v := ?_) rfl (by rfl) (fun wq hwq => ?_) rfl ?_; rotate_left 1; (focus (go_simp; try (with_reducible rfl); done)); try simp only [List.setIfInBounds_toArray, List.set_cons_zero, List.set_cons_succ]
      refine px_eff rfl (by rfl) (fun K hK => ?_)
      go_simp
      refine (begin_no _ ba Fa pairA _ HCA3.out (by decide) rfl).mono ?_
      rintro e z1 ⟨rfl, rfl⟩
      simp only []
      refine hK (fun w' : World => Kp0 wd w') _ _ (fun x h => h) (Kp.refl _ _) ?_
      clear hK K
      have hwj := HJI.out
      iterate 26 (refine px_quiet (v := ?_) rfl (by rfl) (fun wq hwq => ?_) rfl ?_; rotate_left 1; (focus (have q1 := hwq.cell HQ1.out (fun h => h); have q2 := hwq.cell HQ2.out (fun h => h); have cv := cv_tx (HR4.out.keep0 hwq); go_simp; try (with_reducible rfl); done)); try simp only [List.setIfInBounds_toArray, List.set_cons_zero, List.set_cons_succ])
      refine px_eff rfl (by rfl) (fun K hK => ?_)
      go_simp
      refine (ru32_i _ j _ rfl HJ.out).mono ?_
      rintro e z2 h
      obtain ⟨v2, rfl, hr2, hk2⟩ := h.rd
      simp only []
      have HR2 := Lib.hid hr2
      have Z2 : Hid (Kp0 wd z2) := Lib.hid hk2
      obtain ⟨a2, c2, rfl, _, _, _⟩ := hr2.shapeB
      clear h hr2 hk2
      refine hK (fun w' : World => Kp0 z2 w') _ _ (fun x h => Z2.out.tr h) (Kp.refl _ _) ?_
      clear hK K
      have hne : ((tx (be4 j)).toList != (tx (be4 j)).toList) = false := by simp
      iterate 5 (refine px_quiet (v := ?_) rfl (by rfl) (fun wq hwq => ?_) rfl ?_; rotate_left 1; (focus (have cv := cv_tx (HR2.out.keep0 hwq); go_simp; try (with_reducible rfl); done)); try simp only [List.setIfInBounds_toArray, List.set_cons_zero, List.set_cons_succ])
      refine px_eff rfl (by rfl) (fun K hK => ?_)
      go_simp
      refine (state_any _ bb Fb2 pairB _ (HCB3.out.kp0 Z2.out)).mono ?_
      rintro e z3 ⟨rfl, rfl⟩
      simp only []
      refine hK (fun w' : World => Kp0 z2 w') _ _ (fun x h => h) (Kp.refl _ _) ?_
      clear hK K
      iterate 2 (refine px_quiet (v := ?_) rfl (by rfl) (fun wq hwq => ?_) rfl ?_; rotate_left 1; (focus (go_simp; try (with_reducible rfl); done)); try simp only [List.setIfInBounds_toArray, List.set_cons_zero, List.set_cons_succ])
      refine px_done ?_
      have K12 : Hid (Kp0 w0 z2) := Lib.hid (K11.out.tr Z2.out)
      clear HR4 HCA3 HCB3 K11 HQ1 HQ2 Z2 HR2 HAB2 HKW
      by_cases hsub : name.toList = subsystemB
      · have hsb : (name.toList == ([115, 117, 98, 115, 121, 115, 116, 101, 109] : List UInt8)) = true := by rw [hsub]; rfl
        clear hsub
        go_wp2
        all_goals go_ret
        all_goals exact ⟨rfl, HK0.out.tr K12.out⟩
      have hsb : (name.toList == ([115, 117, 98, 115, 121, 115, 116, 101, 109] : List UInt8)) = false := by rw [beq_eq_false_iff_ne]; exact hsub
      have HSUB := Lib.hid hsub
      have HB0 : Hid (w0.heap.size ≤ z2.heap.size) := Lib.hid K12.out.size
      clear hsub
      cases reply with
      | true =>
        go_wp2_with fail
        refine (new_any true _).mono ?_
        rintro e y1 ⟨rfl, hc, hk⟩
        have HC := Lib.hid (hc _ HB0.out)
        have K13 := Lib.hid (K12.out.tr hk)
        clear hc hk
        generalize z2.heap.size = bc at HC ⊢
        have H90 := Lib.hid (Rd.lit y1 #[Value.int .u8 90] 5 (0, 0) 1 rfl (by decide))
        rw [one_byte (k := 90) (n := 90) rfl (by decide)] at H90
        have KA : Hid (Kp0 y1 (y1.alloc (.cells #[.int .u8 90] 5))) := Lib.hid ((Kp.refl _ y1).alloc _)
        go_wp2_with fail
        generalize (y1.alloc (.cells #[.int .u8 90] 5)) = wA at H90 KA ⊢
        refine (rtext_i _ _ (by decide)).mono ?_
        rintro e w4 h
        obtain ⟨v4, rfl, hr4, hk4⟩ := h.rd
        rw [lit_toList [115, 101, 115, 115, 105, 111, 110]] at hr4
        have HR4 := Lib.hid hr4
        have K4 := Lib.hid hk4
        clear h hr4 hk4
        go_wp2_with fail
        refine (ru32_i _ 3 _ rfl (by decide)).mono ?_
        rintro e w5 h
        obtain ⟨v5, rfl, hr5, hk5⟩ := h.rd
        have HR5 := Lib.hid hr5
        have K5 := Lib.hid hk5
        clear h hr5 hk5
        go_wp2_with fail
        refine (ru32_i _ 9 _ rfl (by decide)).mono ?_
        rintro e w6 h
        obtain ⟨v6, rfl, hr6, hk6⟩ := h.rd
        have HR6 := Lib.hid hr6
        have K6 := Lib.hid hk6
        clear h hr6 hk6
        go_wp2_with fail
        refine (ru32_i _ 9 _ rfl (by decide)).mono ?_
        rintro e w7 h
        obtain ⟨v7, rfl, hr7, hk7⟩ := h.rd
        have HR7 := Lib.hid hr7
        have K7 := Lib.hid hk7
        clear h hr7 hk7
        obtain ⟨a4, c4, rfl, _, _, _⟩ := HR4.out.shapeB
        obtain ⟨a5, c5, rfl, _, _, _⟩ := HR5.out.shapeB
        obtain ⟨a6, c6, rfl, _, _, _⟩ := HR6.out.shapeB
        obtain ⟨a7, c7, rfl, _, _, _⟩ := HR7.out.shapeB
        have hx := fun (o : Obj) => AllRd.cons ((((((H90.out.keep0 K4.out).keep0 K5.out).keep0 K6.out).keep0 K7.out)).alloc o) (AllRd.cons ((((HR4.out.keep0 K5.out).keep0 K6.out).keep0 K7.out).alloc o) (AllRd.cons (((HR5.out.keep0 K6.out).keep0 K7.out).alloc o) (AllRd.cons ((HR6.out.keep0 K7.out).alloc o) (AllRd.cons (HR7.out.alloc o) (AllRd.nil _)))))
        have HX := Lib.hid hx
        clear hx
        go_wp2_with fail
        refine (rjoin_i _ _ _ _ (Rd.lit _ #[_, _, _, _, _] 33 (0, 0) 5 rfl (by decide)) (HX.out _) (by rw [wish_flat, wish_len]; decide)).mono ?_
        rintro e w8 h
        obtain ⟨v8, rfl, hr8, hk8⟩ := h.rd
        rw [wish_flat] at hr8
        have HR8 := Lib.hid hr8
        have K8 : Hid (Kp0 y1 w8) := Lib.hid (((((KA.out.tr K4.out).tr K5.out).tr K6.out).tr K7.out).tr (((Kp.refl (fun _ => False) _).alloc _).tr hk8))
        clear h hr8 hk8 HX H90 KA K4 K5 K6 K7 HR4 HR5 HR6 HR7
        go_wp2_with fail
        refine (take_any w0.heap.size bc _ (newS true) v8 _ _ (HC.out.kp0 K8.out) HR8.out okN).mono ?_
        rw [take_wish3]
        rintro e w9 ⟨rfl, F9, hC9, hF9, hk9⟩
        have HC9 := Lib.hid hC9
        have K9 : Hid (Kp0 w0 w9) := Lib.hid (kpG (K13.out.tr K8.out) ((HC.out.kp0 K8.out).kge hk9))
        clear hC9 hF9 hk9 HR8 K8 HC K13
        go_wp2_with fail
        refine (out_any w0.heap.size bc F9 _ _ HC9.out).mono ?_
        rintro e w10 ⟨vl, rows, F10, rfl, _, _, hC10, _, _, _, hkb, hfb⟩
        obtain ⟨al, cl, rfl, _, _, _⟩ := (show ∃ a c, vl = .slice a rows.length c ∧ True ∧ True ∧ True by rename_i h1 _ _ _ _; obtain ⟨a, c, h2, _⟩ := h1.shape; exact ⟨a, c, h2, trivial, trivial, trivial⟩)
        have HC10 : Hid (Cm w0.heap.size w10 bc F10 opnB) := Lib.hid hC10
        have K10 : Hid (Kp0 w0 w10) := Lib.hid (kpG K9.out (hkb.mono (fun i _ e => by rw [e]; exact (HC9.out.fB _ HC9.out.fb).1)))
        clear hC10 hkb hfb HC9 K9
        have H98 := Lib.hid (Rd.lit w10 #[Value.int .u8 98] 5 (0, 0) 1 rfl (by decide))
        rw [one_byte (k := 98) (n := 98) rfl (by decide)] at H98
        have KA : Hid (Kp0 w10 (w10.alloc (.cells #[.int .u8 98] 5))) := Lib.hid ((Kp.refl _ w10).alloc _)
        go_wp2_with fail
        generalize (w10.alloc (.cells #[.int .u8 98] 5)) = wA at H98 KA ⊢
        refine (ru32_i _ 0 _ rfl (by decide)).mono ?_
        rintro e w4 h
        obtain ⟨v4, rfl, hr4, hk4⟩ := h.rd
        have HR4 := Lib.hid hr4
        have K4 := Lib.hid hk4
        clear h hr4 hk4
        go_wp2_with fail
        refine (rtext_i name _ (by have := HNM.out; omega)).mono ?_
        rintro e w5 h
        obtain ⟨v5, rfl, hr5, hk5⟩ := h.rd
        have HR5 := Lib.hid hr5
        have K5 := Lib.hid hk5
        clear h hr5 hk5
        obtain ⟨a4, c4, rfl, _, _, _⟩ := HR4.out.shapeB
        obtain ⟨a5, c5, rfl, _, _, _⟩ := HR5.out.shapeB
        have HFL := Lib.hid (Rd.lit w5 #[Value.int .u8 1] 5 (0, 0) 1 rfl (by decide))
        rw [one_byte (k := 1) (n := 1) rfl (by decide)] at HFL
        have hx := fun (o : Obj) => AllRd.cons ((((H98.out.keep0 K4.out).keep0 K5.out).alloc (.cells #[.int .u8 1] 5)).alloc o) (AllRd.cons (((HR4.out.keep0 K5.out).alloc (.cells #[.int .u8 1] 5)).alloc o) (AllRd.cons ((HR5.out.alloc (.cells #[.int .u8 1] 5)).alloc o) (AllRd.cons (HFL.out.alloc o) (AllRd.nil _))))
        have HX := Lib.hid hx
        clear hx
        go_wp2_with fail
        refine (rjoin_i _ _ _ _ (Rd.lit2 _ _ #[_, _, _, _] 33 4 rfl (by decide)) (HX.out _) (by rw [req_flat, req_len, size_toList]; have := HNM.out; omega)).mono ?_
        rintro e w8 h
        obtain ⟨v8, rfl, hr8, hk8⟩ := h.rd
        rw [req_flat] at hr8
        have HR8 := Lib.hid hr8
        have K8 : Hid (Kp0 w10 w8) := Lib.hid (((KA.out.tr K4.out).tr K5.out).tr ((((Kp.refl (fun _ => False) _).alloc _).alloc _).tr hk8))
        clear h hr8 hk8 HX H98 HFL KA K4 K5 HR4 HR5
        go_wp2_with fail
        refine (take_any w0.heap.size bc _ opnB v8 _ _ (HC10.out.kp0 K8.out) HR8.out okO).mono ?_
        rw [take_req name.toList _ (by rw [size_toList]; exact HNM.out) HSUB.out]
        rintro e w9 ⟨rfl, F9, hC9, hF9, hk9⟩
        have K9 : Hid (Kp0 w0 w9) := Lib.hid (kpG (K10.out.tr K8.out) ((HC10.out.kp0 K8.out).kge hk9))
        have HC9 : Hid (Cm w0.heap.size w9 bc F9 (sayS opnB (toB 100 3))) := Lib.hid hC9
        clear hC9 hF9 hk9 HR8 K8 HC10 K10
        go_wp2_with fail
        refine (out_any w0.heap.size bc F9 _ _ HC9.out).mono ?_
        rintro e w11 ⟨vl, rows, F10, rfl, hl, hrs, hC10, _, _, _, hkb, _⟩
        obtain ⟨vx, rfl, hx⟩ := row_one (l := toB 100 3) hrs
        obtain ⟨gl, ol, cl, rfl, _, _, hcell⟩ := hl.pos (by simp)
        obtain ⟨gx, ox, cx, rfl, _, _, hcx⟩ := hx.posB (by show 0 < 5; decide)
        have q1 : w11.cell? ⟨gl, ol, none⟩ = some (.slice (some ⟨gx, ox, none⟩) 5 cx) := hcell 0 (by simp)
        have q2 : w11.cell? ⟨gx, ox, none⟩ = some (.int .u8 100) := hcx 0 (by show 0 < 5; decide)
        have HC10 : Hid (Cm w0.heap.size w11 bc F10 opnB) := Lib.hid hC10
        have K11 : Hid (Kp0 w0 w11) := Lib.hid (kpG K9.out (hkb.mono (fun i _ e => by rw [e]; exact (HC9.out.fB _ HC9.out.fb).1)))
        clear hC10 hkb HC9 K9 hrs hl hcell hcx hx
        go_wp2_with fail
        refine (ready_any _ bc F10 opnB _ HC10.out).mono ?_
        rintro e y ⟨rfl, rfl⟩
        go_wp2_with fail
        refine (send_no _ bc F10 opnB _ _ HC10.out rfl rfl).mono ?_
        rintro e y ⟨rfl, rfl⟩
        go_wp2
        all_goals go_ret
        all_goals exact ⟨rfl, HK0.out.tr K11.out⟩
      | false =>
        go_wp2_with fail
        refine (new_any true _).mono ?_
        rintro e y1 ⟨rfl, hc, hk⟩
        have HC := Lib.hid (hc _ HB0.out)
        have K13 := Lib.hid (K12.out.tr hk)
        clear hc hk
        generalize z2.heap.size = bc at HC ⊢
        have H90 := Lib.hid (Rd.lit y1 #[Value.int .u8 90] 5 (0, 0) 1 rfl (by decide))
        rw [one_byte (k := 90) (n := 90) rfl (by decide)] at H90
        have KA : Hid (Kp0 y1 (y1.alloc (.cells #[.int .u8 90] 5))) := Lib.hid ((Kp.refl _ y1).alloc _)
        go_wp2_with fail
        generalize (y1.alloc (.cells #[.int .u8 90] 5)) = wA at H90 KA ⊢
        refine (rtext_i _ _ (by decide)).mono ?_
        rintro e w4 h
        obtain ⟨v4, rfl, hr4, hk4⟩ := h.rd
        rw [lit_toList [115, 101, 115, 115, 105, 111, 110]] at hr4
        have HR4 := Lib.hid hr4
        have K4 := Lib.hid hk4
        clear h hr4 hk4
        go_wp2_with fail
        refine (ru32_i _ 3 _ rfl (by decide)).mono ?_
        rintro e w5 h
        obtain ⟨v5, rfl, hr5, hk5⟩ := h.rd
        have HR5 := Lib.hid hr5
        have K5 := Lib.hid hk5
        clear h hr5 hk5
        go_wp2_with fail
        refine (ru32_i _ 9 _ rfl (by decide)).mono ?_
        rintro e w6 h
        obtain ⟨v6, rfl, hr6, hk6⟩ := h.rd
        have HR6 := Lib.hid hr6
        have K6 := Lib.hid hk6
        clear h hr6 hk6
        go_wp2_with fail
        refine (ru32_i _ 9 _ rfl (by decide)).mono ?_
        rintro e w7 h
        obtain ⟨v7, rfl, hr7, hk7⟩ := h.rd
        have HR7 := Lib.hid hr7
        have K7 := Lib.hid hk7
        clear h hr7 hk7
        obtain ⟨a4, c4, rfl, _, _, _⟩ := HR4.out.shapeB
        obtain ⟨a5, c5, rfl, _, _, _⟩ := HR5.out.shapeB
        obtain ⟨a6, c6, rfl, _, _, _⟩ := HR6.out.shapeB
        obtain ⟨a7, c7, rfl, _, _, _⟩ := HR7.out.shapeB
        have hx := fun (o : Obj) => AllRd.cons ((((((H90.out.keep0 K4.out).keep0 K5.out).keep0 K6.out).keep0 K7.out)).alloc o) (AllRd.cons ((((HR4.out.keep0 K5.out).keep0 K6.out).keep0 K7.out).alloc o) (AllRd.cons (((HR5.out.keep0 K6.out).keep0 K7.out).alloc o) (AllRd.cons ((HR6.out.keep0 K7.out).alloc o) (AllRd.cons (HR7.out.alloc o) (AllRd.nil _)))))
        have HX := Lib.hid hx
        clear hx
        go_wp2_with fail
        refine (rjoin_i _ _ _ _ (Rd.lit _ #[_, _, _, _, _] 33 (0, 0) 5 rfl (by decide)) (HX.out _) (by rw [wish_flat, wish_len]; decide)).mono ?_
        rintro e w8 h
        obtain ⟨v8, rfl, hr8, hk8⟩ := h.rd
        rw [wish_flat] at hr8
        have HR8 := Lib.hid hr8
        have K8 : Hid (Kp0 y1 w8) := Lib.hid (((((KA.out.tr K4.out).tr K5.out).tr K6.out).tr K7.out).tr (((Kp.refl (fun _ => False) _).alloc _).tr hk8))
        clear h hr8 hk8 HX H90 KA K4 K5 K6 K7 HR4 HR5 HR6 HR7
        go_wp2_with fail
        refine (take_any w0.heap.size bc _ (newS true) v8 _ _ (HC.out.kp0 K8.out) HR8.out okN).mono ?_
        rw [take_wish3]
        rintro e w9 ⟨rfl, F9, hC9, hF9, hk9⟩
        have HC9 := Lib.hid hC9
        have K9 : Hid (Kp0 w0 w9) := Lib.hid (kpG (K13.out.tr K8.out) ((HC.out.kp0 K8.out).kge hk9))
        clear hC9 hF9 hk9 HR8 K8 HC K13
        go_wp2_with fail
        refine (out_any w0.heap.size bc F9 _ _ HC9.out).mono ?_
        rintro e w10 ⟨vl, rows, F10, rfl, _, _, hC10, _, _, _, hkb, hfb⟩
        obtain ⟨al, cl, rfl, _, _, _⟩ := (show ∃ a c, vl = .slice a rows.length c ∧ True ∧ True ∧ True by rename_i h1 _ _ _ _; obtain ⟨a, c, h2, _⟩ := h1.shape; exact ⟨a, c, h2, trivial, trivial, trivial⟩)
        have HC10 : Hid (Cm w0.heap.size w10 bc F10 opnB) := Lib.hid hC10
        have K10 : Hid (Kp0 w0 w10) := Lib.hid (kpG K9.out (hkb.mono (fun i _ e => by rw [e]; exact (HC9.out.fB _ HC9.out.fb).1)))
        clear hC10 hkb hfb HC9 K9
        have H98 := Lib.hid (Rd.lit w10 #[Value.int .u8 98] 5 (0, 0) 1 rfl (by decide))
        rw [one_byte (k := 98) (n := 98) rfl (by decide)] at H98
        have KA : Hid (Kp0 w10 (w10.alloc (.cells #[.int .u8 98] 5))) := Lib.hid ((Kp.refl _ w10).alloc _)
        go_wp2_with fail
        generalize (w10.alloc (.cells #[.int .u8 98] 5)) = wA at H98 KA ⊢
        refine (ru32_i _ 0 _ rfl (by decide)).mono ?_
        rintro e w4 h
        obtain ⟨v4, rfl, hr4, hk4⟩ := h.rd
        have HR4 := Lib.hid hr4
        have K4 := Lib.hid hk4
        clear h hr4 hk4
        go_wp2_with fail
        refine (rtext_i name _ (by have := HNM.out; omega)).mono ?_
        rintro e w5 h
        obtain ⟨v5, rfl, hr5, hk5⟩ := h.rd
        have HR5 := Lib.hid hr5
        have K5 := Lib.hid hk5
        clear h hr5 hk5
        obtain ⟨a4, c4, rfl, _, _, _⟩ := HR4.out.shapeB
        obtain ⟨a5, c5, rfl, _, _, _⟩ := HR5.out.shapeB
        have HFL := Lib.hid (Rd.lit w5 #[Value.int .u8 0] 5 (0, 0) 1 rfl (by decide))
        rw [one_byte (k := 0) (n := 0) rfl (by decide)] at HFL
        have hx := fun (o : Obj) => AllRd.cons ((((H98.out.keep0 K4.out).keep0 K5.out).alloc (.cells #[.int .u8 0] 5)).alloc o) (AllRd.cons (((HR4.out.keep0 K5.out).alloc (.cells #[.int .u8 0] 5)).alloc o) (AllRd.cons ((HR5.out.alloc (.cells #[.int .u8 0] 5)).alloc o) (AllRd.cons (HFL.out.alloc o) (AllRd.nil _))))
        have HX := Lib.hid hx
        clear hx
        go_wp2_with fail
        refine (rjoin_i _ _ _ _ (Rd.lit2 _ _ #[_, _, _, _] 33 4 rfl (by decide)) (HX.out _) (by rw [req_flat, req_len, size_toList]; have := HNM.out; omega)).mono ?_
        rintro e w8 h
        obtain ⟨v8, rfl, hr8, hk8⟩ := h.rd
        rw [req_flat] at hr8
        have HR8 := Lib.hid hr8
        have K8 : Hid (Kp0 w10 w8) := Lib.hid (((KA.out.tr K4.out).tr K5.out).tr ((((Kp.refl (fun _ => False) _).alloc _).alloc _).tr hk8))
        clear h hr8 hk8 HX H98 HFL KA K4 K5 HR4 HR5
        go_wp2_with fail
        refine (take_any w0.heap.size bc _ opnB v8 _ _ (HC10.out.kp0 K8.out) HR8.out okO).mono ?_
        rw [take_req name.toList _ (by rw [size_toList]; exact HNM.out) HSUB.out]
        rintro e w9 ⟨rfl, F9, hC9, hF9, hk9⟩
        have K9 : Hid (Kp0 w0 w9) := Lib.hid (kpG (K10.out.tr K8.out) ((HC10.out.kp0 K8.out).kge hk9))
        have HC9 : Hid (Cm w0.heap.size w9 bc F9 opnB) := Lib.hid hC9
        clear hC9 hF9 hk9 HR8 K8 HC10 K10
        go_wp2_with fail
        refine (out_any w0.heap.size bc F9 _ _ HC9.out).mono ?_
        rintro e w11 ⟨vl, rows, F10, rfl, hl, hrs, hC10, _, _, _, hkb, _⟩
        obtain rfl : rows = [] := List.eq_nil_of_length_eq_zero hrs.1
        obtain ⟨al, cl, rfl, _, _, _⟩ := hl.shape
        have HC10 : Hid (Cm w0.heap.size w11 bc F10 opnB) := Lib.hid hC10
        have K11 : Hid (Kp0 w0 w11) := Lib.hid (kpG K9.out (hkb.mono (fun i _ e => by rw [e]; exact (HC9.out.fB _ HC9.out.fb).1)))
        clear hC10 hkb HC9 K9 hrs hl
        go_wp2_with fail
        refine (ready_any _ bc F10 opnB _ HC10.out).mono ?_
        rintro e y ⟨rfl, rfl⟩
        go_wp2_with fail
        refine (send_no _ bc F10 opnB _ _ HC10.out rfl rfl).mono ?_
        rintro e y ⟨rfl, rfl⟩
        go_wp2
        all_goals go_ret
        all_goals exact ⟨rfl, HK0.out.tr K11.out⟩
end Go.Proofs.Ytbifdckmkogbgaa
