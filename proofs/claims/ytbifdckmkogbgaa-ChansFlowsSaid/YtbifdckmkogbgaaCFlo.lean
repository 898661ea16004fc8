/- The law ChansFlows: its walk. -/
import Derived.Test.YtbifdckmkogbgaaChX
import Derived.Test.YtbifdckmkogbgaaFlC
import Derived.Test.YtbifdckmkogbgaaReg7
namespace Go.Proofs.Ytbifdckmkogbgaa
open Go Go.RowKit
def cs0 : Nat → Ch := fun i => if i = 0 then bse false else bse true
def no0 : Nat → List UInt8 := fun _ => []
theorem fli0 : FlI cs0 no0 no0 := ⟨fun k hk => by
    obtain rfl | rfl : k = 0 ∨ k = 1 := by omega
    · exact bse_live false
    · exact bse_live true, fun k hk => by
    obtain rfl | rfl : k = 0 ∨ k = 1 := by omega
    · exact ⟨rfl, rfl, rfl, .inl rfl⟩
    · exact ⟨rfl, rfl, rfl, .inl rfl⟩⟩
theorem sumL_take (ls : List (Int × List UInt8)) {k : Nat} {x : Int × List UInt8} (h : ls[k]? = some x) : sumL (ls.take (k + 1)) = sumL (ls.take k) + x.2.length := by
  unfold sumL
  rw [List.take_add_one, h]
  simp
theorem sumL_take_le (ls : List (Int × List UInt8)) (k : Nat) : sumL (ls.take k) ≤ sumL ls := by
  unfold sumL
  conv => rhs; rw [← List.take_append_drop k ls, List.map_append, List.sum_append]
  omega
theorem gotLen {cs : Nat → Ch} {sent got : Nat → List UInt8} (h : FlI cs sent got) {k k' : Nat} (hk : k + k' = 1) (hs : (sent 0).length + (sent 1).length ≤ 20000) : (got k).length ≤ 20000 := by
  obtain ⟨rfl, rfl⟩ | ⟨rfl, rfl⟩ : (k = 0 ∧ k' = 1) ∨ (k = 1 ∧ k' = 0) := by omega
  · have := (h.d 1 (by omega)).len
    simp only [Nat.sub_self] at this
    omega
  · have := (h.d 0 (by omega)).len
    simp only [Nat.sub_zero] at this
    omega
def lie (cs : Nat → Ch) (k k' : Nat) : Nat := (cs k').ca.length + (cs k).wa.length
theorem FlI.less {cs : Nat → Ch} {sent got : Nat → List UInt8} (h : FlI cs sent got) {k k' : Nat} (hk : k + k' = 1) : (cs k').wa.length ≤ ((cs k).ca.length + (cs k').wa.length) - 4096 := by
  have hd := h.d k' (by omega)
  rw [show 1 - k' = k by omega] at hd
  have h1 := hd.full
  rcases hd.done with h2 | h2
  · rw [h2]; simp
  · omega
theorem fin_eq {cs : Nat → Ch} {sent got : Nat → List UInt8} (h : FlI cs sent got) {k k' : Nat} (hk : k + k' = 1) (h0 : lie cs k k' = 0) : (cs k).wa = [] ∧ got k' = sent k := by
  have hd := h.d k (by omega)
  rw [show 1 - k = k' by omega] at hd
  unfold lie at h0
  have h1 : (cs k).wa = [] := List.eq_nil_of_length_eq_zero (by omega)
  have h2 : (cs k').ca = [] := List.eq_nil_of_length_eq_zero (by omega)
  have h3 := hd.eq
  rw [h1, h2, List.append_nil, List.append_nil] at h3
  exact ⟨h1, h3⟩
theorem lie_step {cs : Nat → Ch} {s s' : Nat} {c1 c2 : Ch} {M : Nat} (hss : s + s' = 1) (h1 : c1.ca.length + c2.wa.length = (cs s').wa.length) (h2 : c2.ca = (cs s').ca) (h3 : c1.wa = (cs s).wa) (hd : (cs s').wa.length ≤ ((cs s).ca.length + (cs s').wa.length) - 4096)
    (ha : lie cs 0 1 ≤ (if s = 2 then M - 4096 else M)) (hb : lie cs 1 0 ≤ (if 1 ≤ s then M - 4096 else M)) :
    lie (upd2 cs s s' (c1, c2)) 0 1 ≤ (if s + 1 = 2 then M - 4096 else M) ∧ lie (upd2 cs s s' (c1, c2)) 1 0 ≤ (if 1 ≤ s + 1 then M - 4096 else M) := by
  have e1 : upd2 cs s s' (c1, c2) s = c1 := upd2_k hss _
  have e2 : upd2 cs s s' (c1, c2) s' = c2 := upd2_k' _
  have h2 : c2.ca.length = (cs s').ca.length := by rw [h2]
  have h3 : c1.wa.length = (cs s).wa.length := by rw [h3]
  unfold lie at *
  obtain ⟨rfl, rfl⟩ | ⟨rfl, rfl⟩ : (s = 0 ∧ s' = 1) ∨ (s = 1 ∧ s' = 0) := by omega
  · rw [e1, e2]
    simp at ha hb ⊢
    omega
  · rw [e1, e2]
    simp at ha hb ⊢
    omega
theorem tx_app (a b : List UInt8) : tx a ++ tx b = tx (a ++ b) := by
  refine ByteArray.ext ?_
  simp [tx, ByteArray.data_append]
theorem tx_extract (a : List UInt8) (n : Nat) : (tx a).extract 0 n = tx (a.take n) := by
  refine ByteArray.ext ?_
  rw [ByteArray.data_extract]
  simp [tx]
theorem i_odd (k : Nat) (h : k < 9223372036854775808) : ∃ s s' : Nat, s + s' = 1 ∧ bits .and .i64 (k : Int) 1 = (s : Int) := by
  refine ⟨k % 2, 1 - k % 2, by omega, ?_⟩
  show IntKind.i64.wrap ((BitVec.ofInt 64 (k : Int) &&& BitVec.ofInt 64 ((1 : Nat) : Int)).toNat : Int) = _
  rw [BitVec.toNat_and, BitVec.ofInt_natCast, BitVec.ofInt_natCast, BitVec.toNat_ofNat, BitVec.toNat_ofNat, Nat.mod_eq_of_lt (by omega), show 1 % 2 ^ 64 = 1 from rfl, Nat.and_one_is_mod, IntKind.wrap_i64]
  omega
theorem alloc_sz (w : World) (o : Obj) : (w.alloc o).heap.size = w.heap.size + 1 := by show (w.heap.push o).size = _; simp
theorem flm_start {w0 wr : World} {ba bb : Nat} (hp : Pair w0.heap.size wr ba bb (bse false, bse true)) (hk : Kp0 w0 wr) (T1 T2 T3 : TypeId) (w : World)
    (hw : w = (((wr.alloc (.cells #[.string ⟨#[]⟩, .string ⟨#[]⟩] T1)).alloc (.cells #[.string ⟨#[]⟩, .string ⟨#[]⟩] T1)).alloc (.cells #[.pointer (some ⟨ba, 0, none⟩), .pointer (some ⟨bb, 0, none⟩)] T2)).alloc (.cells #[.int .i64 0, .int .i64 0] T3)) :
    FlM w0 w (fun i => if i = 0 then ba else bb) wr.heap.size (wr.heap.size + 1) (wr.heap.size + 1 + 1) (wr.heap.size + 1 + 1 + 1) cs0 no0 no0 := by
  generalize ho1 : Obj.cells #[.string ⟨#[]⟩, .string ⟨#[]⟩] T1 = o1 at hw
  generalize ho3 : Obj.cells #[.pointer (some ⟨ba, 0, none⟩), .pointer (some ⟨bb, 0, none⟩)] T2 = o3 at hw
  generalize ho4 : Obj.cells #[.int .i64 0, .int .i64 0] T3 = o4 at hw
  have k1 : Kp0 (wr.alloc o1) w := by rw [hw]; exact (((Kp.refl (fun _ => False) _).alloc _).alloc _).alloc _
  have k2 : Kp0 ((wr.alloc o1).alloc o1) w := by rw [hw]; exact ((Kp.refl (fun _ => False) _).alloc _).alloc _
  have k3 : Kp0 (((wr.alloc o1).alloc o1).alloc o3) w := by rw [hw]; exact (Kp.refl (fun _ => False) _).alloc _
  have k0 : Kp0 wr w := ((Kp.refl (fun _ => False) wr).alloc o1).tr k1
  have h1 := blk_keep k1 (heap_alloc_new wr o1) (fun h => h)
  have h2 := blk_keep k2 (heap_alloc_new (wr.alloc o1) o1) (fun h => h)
  have h3 := blk_keep k3 (heap_alloc_new ((wr.alloc o1).alloc o1) o3) (fun h => h)
  have h4 : w.heap[(((wr.alloc o1).alloc o1).alloc o3).heap.size]? = some o4 := by rw [hw]; exact heap_alloc_new _ o4
  simp only [alloc_sz] at h2 h3 h4
  obtain ⟨Fa, Fb, q1, q2, q3⟩ := hp.p
  have hs := hk.size
  refine ⟨⟨Fa, Fb, q1.kp0 k0, q2.kp0 k0, q3, fun i hi => ?_, fun i hi => ?_⟩, ⟨T1, ?_⟩, ⟨T1, ?_⟩, ⟨T2, ?_⟩, ⟨T3, .int .i64 0, .int .i64 0, ?_⟩, ⟨by omega, by omega, by omega, by omega, by omega, by omega⟩, ⟨by omega, by omega, by omega, by omega⟩, hk.tr k0⟩
  · have := q1.fB i hi
    exact ⟨this.1, by omega, by omega, by omega, by omega⟩
  · have := q2.fB i hi
    exact ⟨this.1, by omega, by omega, by omega, by omega⟩
  · rw [h1, ← ho1]; rfl
  · rw [h2, ← ho1]; rfl
  · rw [h3, ← ho3]; rfl
  · rw [h4, ← ho4]
set_option maxRecDepth 100000 in
set_option maxHeartbeats 4000000 in
theorem cflo_walk (v : Value) (ls : List (Int × List UInt8)) (w : World) (h : CallsR w v ls) :
    Calls Try.prog 3 #[v] w fun e w' => e = .returned (.bool true) ∧ Kp0 w w' := by
  have HC := Lib.hid h
  obtain ⟨ao, cap, rfl, hc1, hc2, _⟩ := h.sh
  have hrl : (ls.length : Int) ≤ 9223372036854775807 := by omega
  clear h hc2
  go_enter Try.func3, Try.ntmps3
  go_wp2_with fail
  refine (fit_any _).mono ?_
  rintro e w0 ⟨rfl, hk⟩
  have HK0 := Lib.hid hk
  clear hk
  go_wp2_with fail
  refine (light_any _ ls _ (HC.out.keep0 HK0.out)).mono ?_
  rintro e w01 ⟨r, rfl, hl, hk⟩
  have HK0 := Lib.hid (HK0.out.tr hk)
  cases r with
  | false =>
    go_wp2
    all_goals go_ret
    all_goals exact ⟨rfl, HK0.out⟩
  | true =>
    have HL := Lib.hid (hl rfl)
    clear hl hk
    go_wp2_with fail
    refine (new_any false _).mono ?_
    rintro e w1 ⟨rfl, hc1, hk1⟩
    have HC1 := Lib.hid hc1
    have HK1 := Lib.hid hk1
    clear hc1 hk1
    go_wp2_with fail
    refine (new_any true _).mono ?_
    rintro e w2 ⟨rfl, hc2, hk2⟩
    have HC2 := Lib.hid hc2
    have HK2 := Lib.hid hk2
    clear hc2 hk2
    go_wp2_with fail
    refine (begin_any w01.heap.size w01.heap.size _ _ _ ((HC1.out _ (Nat.le_refl _)).kp0 HK2.out) (by decide)).mono ?_
    rintro e w3 h3
    obtain ⟨rfl, hs⟩ := sq_start HC1.out HK1.out HC2.out HK2.out h3
    have HS0 := Lib.hid hs
    clear h3 hs HC1 HK1 HC2 HK2
    generalize w01.heap.size = ba at HS0 ⊢
    generalize w1.heap.size = bb at HS0 ⊢
    go_wp2
    go_loopg [25] 4 (fun gg i wr => ∃ k : Nat, i = .int .i64 k ∧ gg = 4 - k ∧ k ≤ 4 ∧ Sq w01 wr ba bb k)
    case atStart => exact ⟨0, rfl, rfl, by omega, HS0.out⟩
    case round =>
      obtain ⟨k, rfl, rfl, hk, hs⟩ := hrel
      have HS := Lib.hid hs
      clear hs HS0
      by_cases hlt : k < 4
      · have hlti : (k : Int) < 4 := by omega
        have HOK := Lib.hid (seq_ok k hlt)
        have HE := Lib.hid hlt
        clear hlt
        go_wp2_with fail
        refine (carry_any w01.heap.size ba bb (seqS k) _ HS.out.p (carryOk_of HOK.out.1)).mono ?_
        rintro e w4 ⟨rfl, h4⟩
        have H4 := Lib.hid h4
        clear h4
        go_wp2_with fail
        refine (carry_any w01.heap.size bb ba _ _ H4.out.1.swap (carryOk_of HOK.out.2)).mono ?_
        rintro e w5 ⟨rfl, h5⟩
        have H5 := Lib.hid (HS.out.carry ⟨rfl, H4.out⟩ ⟨rfl, h5⟩)
        clear h5 H4 HS
        go_wp2
        go_roundg (4 - (k + 1))
        case measure => have := HE.out; omega
        case rel => exact ⟨k + 1, by go_num, rfl, HE.out, H5.out⟩
      · obtain rfl : k = 4 := by omega
        have HPQ : Hid (Pair w01.heap.size wr ba bb (bse false, bse true)) := Lib.hid (by have hp := HS.out.p; rw [seq_4] at hp; exact hp)
        have HKW : Hid (Kp0 w01 wr) := Lib.hid HS.out.k
        clear hk hlt HS
        go_wp2
        generalize hW : (((wr.alloc _).alloc _).alloc _).alloc _ = wz
        have hm := flm_start HPQ.out HKW.out _ _ _ wz hW.symm
        obtain ⟨eb, heb⟩ : ∃ eb : Nat → Nat, eb = fun i => if i = 0 then ba else bb := ⟨_, rfl⟩
        have he0 : ba = eb 0 := by rw [heb]; rfl
        have he1 : bb = eb 1 := by rw [heb]; rfl
        rw [← heb] at hm
        generalize wr.heap.size + 1 + 1 + 1 = bu at hm ⊢
        generalize wr.heap.size + 1 + 1 = be at hm ⊢
        generalize wr.heap.size + 1 = bg at hm ⊢
        generalize hbs : wr.heap.size = bs at hm ⊢
        have HM0 := Lib.hid hm
        clear hm hW hbs heb HPQ HKW
        subst he0 he1
        go_loopg [40] ls.length (fun gg i wr => ∃ (k : Nat) (cs : Nat → Ch) (sent got : Nat → List UInt8), i = .int .i64 k ∧ gg = ls.length - k ∧ k ≤ ls.length ∧ FlM w01 wr eb bs bg be bu cs sent got ∧ FlI cs sent got ∧ (sent 0).length + (sent 1).length ≤ sumL (ls.take k))
        case atStart => exact ⟨0, _, _, _, rfl, rfl, Nat.zero_le _, HM0.out, fli0, Nat.zero_le _⟩
        case round =>
          obtain ⟨k, cs, sent, got, rfl, rfl, hk, hm, hi, hsl⟩ := hrel
          have HM := Lib.hid hm
          have HI := Lib.hid hi
          have HSL := Lib.hid hsl
          clear hm hi hsl HM0
          by_cases hlt : k < ls.length
          · have hlti : (k : Int) < ls.length := by omega
            obtain ⟨x, hx⟩ : ∃ x, ls[k]? = some x := ⟨_, List.getElem?_eq_getElem hlt⟩
            obtain ⟨_, _, _, _, _, hcs⟩ := HC.out.sh
            obtain ⟨b, o, dv, rfl, c1, c2, q3, q4⟩ := hcs k x hx
            have HKR := Lib.hid (HK0.out.tr HM.out.k)
            have c1 := HKR.out.cell c1 (fun h => h)
            have c2 := HKR.out.cell c2 (fun h => h)
            obtain ⟨av, cv, rfl, _, _, _⟩ := q3.shapeB
            have HX := Lib.hid hx
            have HQ := Lib.hid q3
            have HE := Lib.hid hlt
            have hki : (k : Int) ≤ 9223372036854775807 := by omega
            clear hx q3 hcs hlt
            obtain ⟨s, s', hss, hbit⟩ := i_odd k (by omega)
            have HSS := Lib.hid hss
            have hs2 : (s : Int) < 2 := by omega
            have hs2' : (s' : Int) < 2 := by omega
            have hsw : IntKind.i64.wrap (1 - (s : Int)) = (s' : Int) := by rw [IntKind.wrap_i64]; omega
            have HMA := Lib.hid (HM.out.kp0 ((Kp.refl (fun _ => False) wr).alloc (.cells #[.int .i64 x.1, .slice av x.2.length cv] 35)))
            have hce := HMA.out.e.cell (k := s) (by have := HSS.out; omega)
            by_cases hx2 : x.1 = 2
            · have hx2b : (x.1 == 2) = true := by rw [beq_iff_eq]; exact hx2
              clear hx2
              go_wp2_with fail
              refine (recv_fl HMA.out HSS.out (HI.out.recvOk HSS.out)).mono ?_
              rintro e w1 ⟨v1, rfl, hr1, hm1, _⟩
              obtain ⟨a1, cv1, rfl, _, _, _⟩ := hr1.shapeB
              have cvt := cv_tx hr1
              obtain ⟨c1', c2', e1, e2, _, _, _, e6, e7⟩ := HI.out.recv2 HSS.out (by have h1 := HSL.out; have h2 := HL.out; have h3 := sumL_take_le ls k; omega)
              have hgl := gotLen HI.out HSS.out (by have h1 := HSL.out; have h2 := HL.out; have h3 := sumL_take_le ls k; omega)
              have hbl := (HI.out.bnd HSS.out).2.2.1
              have hsz : ¬ 9223372036854775807 < (tx (got s)).size + (tx (cs s).ca).size := by rw [tx_size, tx_size]; omega
              have HE1 := Lib.hid e1
              have HI2 := Lib.hid e2
              have HO1 := Lib.hid e6
              have HO2 := Lib.hid e7
              have hgc := (hm1.g.cell (k := s) (by have := HSS.out; omega)).1
              have hgf := (hm1.g.cell (k := s) (by have := HSS.out; omega)).2
              obtain ⟨⟨u0, huc⟩, huf⟩ := hm1.u.cell (k := s) (by have := HSS.out; omega)
              have hne := hm1.n.2.2.2.2.1
              have hm2 := (hm1.setG (k := s) (by have := HSS.out; omega) (got s ++ (cs s).ca)).setU (k := s) (by have := HSS.out; omega) (.int .i64 0)
              rw [← tx_app] at hm2
              have HM2 := Lib.hid hm2
              clear hm1 hm2 hr1 hce HMA hgl hbl e1 e2 e6 e7
              go_upto_region 23 with (fail)
              obtain ⟨wx, hwx⟩ : ∃ wx, wx = (w1.setCell ⟨bg, s, none⟩ (.string (tx (got s) ++ tx (cs s).ca))).setCell ⟨bu, s, none⟩ (.int .i64 0) := ⟨_, rfl⟩
              rw [← hwx] at HM2 ⊢
              clear hwx hgc hgf huc huf hne hsz cvt
              go_upto_region 23 with (fail)
              have hce := fun (wq : World) (hq : Kp0 wx wq) => (HM2.out.kp0 hq).e.cell (k := s) (by have := HSS.out; omega)
              have hce' := fun (wq : World) (hq : Kp0 wx wq) => (HM2.out.kp0 hq).e.cell (k := s') (by have := HSS.out; omega)
              refine wp_region_px 8 [7] (fun w' : World => Kp0 wx w') (.quiet 0 (.quiet 1 (.quiet 2 (.quiet 3 (.quiet 4 (.quiet 5 (.quiet 6 (.wall 7 .done)))))))) (by kernel_rfl) (by kernel_rfl) (by kernel_rfl) (by kernel_rfl) (fun _ d _ _ _ h => by cases d <;> exact h) (Kp.refl _ _).drew ?_
              iterate 7 (refine px_quiet (v := ?_) rfl (by rfl) (fun wq hwq => ?_) rfl ?_; rotate_left 1; (focus (have hq1 := hce wq hwq; have hq2 := hce' wq hwq; go_simp; try (with_reducible rfl); done)); try simp only [List.setIfInBounds_toArray, List.set_cons_zero, List.set_cons_succ])
              refine px_wall rfl (by rfl) (fun K hK => ?_)
              go_simp
              refine (carry_fl2 (HM2.out.kp0 (Kp.refl (fun _ => False) _).drew) HSS.out HO1.out).mono ?_
              rintro e z23 ⟨rfl, hm⟩
              simp only []
              have HZ23 := Lib.hid hm
              refine hK (fun w' => w' = z23) _ _ rfl ?_
              clear hK K hm hce hce'
              refine px_done ?_
              go_upto_region 24 with (fail)
              have hce := fun (wq : World) (hq : Kp0 z23 wq) => (HZ23.out.kp0 hq).e.cell (k := s) (by have := HSS.out; omega)
              have hce' := fun (wq : World) (hq : Kp0 z23 wq) => (HZ23.out.kp0 hq).e.cell (k := s') (by have := HSS.out; omega)
              refine wp_region_px 8 [7] (fun w' : World => Kp0 z23 w') (.quiet 0 (.quiet 1 (.quiet 2 (.quiet 3 (.quiet 4 (.quiet 5 (.quiet 6 (.wall 7 .done)))))))) (by kernel_rfl) (by kernel_rfl) (by kernel_rfl) (by kernel_rfl) (fun _ d _ _ _ h => by cases d <;> exact h) (Kp.refl _ _).drew ?_
              iterate 7 (refine px_quiet (v := ?_) rfl (by rfl) (fun wq hwq => ?_) rfl ?_; rotate_left 1; (focus (have hq1 := hce wq hwq; have hq2 := hce' wq hwq; go_simp; try (with_reducible rfl); done)); try simp only [List.setIfInBounds_toArray, List.set_cons_zero, List.set_cons_succ])
              refine px_wall rfl (by rfl) (fun K hK => ?_)
              go_simp
              refine (carry_fl3 (HZ23.out.kp0 (Kp.refl (fun _ => False) _).drew) HSS.out (fun j _ => HO2.out j)).mono ?_
              rintro e z24 ⟨rfl, hm⟩
              simp only []
              have HZ24 := Lib.hid hm
              refine hK (fun w' => w' = z24) _ _ rfl ?_
              clear hK K hm hce hce'
              refine px_done ?_
              rw [HE1.out] at HZ24
              obtain ⟨csT, hcsT⟩ : ∃ csT, csT = upd2 cs s s' (c1', c2') := ⟨_, rfl⟩
              obtain ⟨sentT, hsentT⟩ : ∃ sentT, sentT = sent := ⟨_, rfl⟩
              obtain ⟨gotT, hgotT⟩ : ∃ gotT, gotT = upd got s (got s ++ (cs s).ca) := ⟨_, rfl⟩
              have HMT : Hid (FlM w01 z24 eb bs bg be bu csT sentT gotT) := Lib.hid (by rw [hcsT, hsentT, hgotT]; exact HZ24.out)
              have HIT : Hid (FlI csT sentT gotT) := Lib.hid (by rw [hcsT, hsentT, hgotT]; exact HI2.out)
              have HST : Hid ((sentT 0).length + (sentT 1).length ≤ sumL (ls.take (k + 1))) := Lib.hid (by rw [hsentT, sumL_take ls HX.out]; have := HSL.out; omega)
              obtain ⟨wt, rfl⟩ : ∃ wt, wt = z24 := ⟨_, rfl⟩
              clear hcsT hsentT hgotT HZ24 HI2 HZ23 HO1 HO2 HE1 HM2
              go_wp2
              go_loopg [116] 2 (fun gg i wr => ∃ j : Nat, i = .int .i64 j ∧ gg = 2 - j ∧ j ≤ 2 ∧ Kp0 wt wr)
              case atStart => exact ⟨0, rfl, rfl, by omega, Kp.refl _ _⟩
              case round =>
                obtain ⟨j, rfl, rfl, hj, hkz⟩ := hrel
                have HMZ := Lib.hid (HMT.out.kp0 hkz)
                have HKZ := Lib.hid hkz
                clear hkz
                by_cases hlj : j < 2
                · have hlji : (j : Int) < 2 := by omega
                  obtain ⟨j', hjj⟩ : ∃ j', j + j' = 1 := ⟨1 - j, by omega⟩
                  have HJJ := Lib.hid hjj
                  have hj2' : (j' : Int) < 2 := by omega
                  have hjw : IntKind.i64.wrap (1 - (j : Int)) = (j' : Int) := by rw [IntKind.wrap_i64]; omega
                  have hjd := HIT.out.d j' (by omega)
                  rw [show 1 - j' = j by omega] at hjd
                  have hjl := hjd.len
                  have hjp := hjd.pre
                  have hle : ¬ ((tx (sentT j')).size : Int) < ((tx (gotT j)).size : Int) := by rw [tx_size, tx_size]; omega
                  have hle2 : (tx (gotT j)).size ≤ (tx (sentT j')).size := by rw [tx_size, tx_size]; omega
                  have hex : (tx (sentT j')).extract 0 (tx (gotT j)).size = tx (gotT j) := by rw [tx_extract, tx_size, hjp]
                  have heq : ((tx (gotT j)).toList != (tx (gotT j)).toList) = false := by simp
                  clear hjj hjd hlj
                  go_upto_region 35 with (fail)
                  have hgz := fun (wq : World) (hq : Kp0 wr wq) => ((HMZ.out.kp0 hq).g.cell (k := j) (by have := HJJ.out; omega)).1
                  have hsz := fun (wq : World) (hq : Kp0 wr wq) => ((HMZ.out.kp0 hq).s.cell (k := j') (by have := HJJ.out; omega)).1
                  refine wp_region_px7 [[1,2,3,9,10,11,12,13,14,15,16,17,18,19,20,21,22,23,24],[2,3,9,10,11,12,13,14,15,16,17,18,19,20,21,22,23,24],[3,9,10,11,12,13,14,15,16,17,18,19,20,21,22,23,24],[9,10,11,12,13,14,15,16,17,18,19,20,21,22,23,24],[5,6,7,8,9,10,11,12,13,14,15,16,17,18,19,20,21,22,23,24],[6,7,8,9,10,11,12,13,14,15,16,17,18,19,20,21,22,23,24],[7,8,9,10,11,12,13,14,15,16,17,18,19,20,21,22,23,24],[8,9,10,11,12,13,14,15,16,17,18,19,20,21,22,23,24],[9,10,11,12,13,14,15,16,17,18,19,20,21,22,23,24],[10,11,12,13,14,15,16,17,18,19,20,21,22,23,24],[11,12,13,14,15,16,17,18,19,20,21,22,23,24],[12,13,23,24],[13,23,24],[23,24],[15,16,17,22,23,24],[16,17,22,23,24],[17,22,23,24],[22,23,24],[19,20,21,22,23,24],[20,21,22,23,24],[21,22,23,24],[22,23,24],[23,24],[24],[]] (fun w' : World => Kp0 wr w') (.quiet 0 (.quiet 1 (.quiet 2 (.quiet 3 (.quiet 4 (.quiet 5 (.quiet 6 (.quiet 7 (.quiet 8 (.quiet 9 (.quiet 10 (.quiet 11 (.quiet 12 (.quiet 13 (.quiet 14 (.quiet 15 (.quiet 16 (.quiet 17 (.quiet 18 (.quiet 19 (.quiet 20 (.quiet 21 (.quiet 22 (.quiet 23 (.quiet 24 .done))))))))))))))))))))))))) (by kernel_rfl) (by kernel_rfl) (by kernel_rfl) (by kernel_rfl) (fun _ d _ _ _ h => by cases d <;> exact h) (Kp.refl _ _).drew ?_
                  iterate 25 (refine px_quiet (v := ?_) rfl (by rfl) (fun wq hwq => ?_) rfl ?_; rotate_left 1; (focus (have hq1 := hgz wq hwq; have hq2 := hsz wq hwq; go_simp; try (with_reducible rfl); done)); try simp only [List.setIfInBounds_toArray, List.set_cons_zero, List.set_cons_succ])
                  refine px_done ?_
                  clear hgz hsz
                  go_wp2
                  go_roundg (2 - (j + 1))
                  case measure => have := HJJ.out; omega
                  case rel => exact ⟨j + 1, by go_num, rfl, by have := HJJ.out; omega, HKZ.out.drew⟩
                · obtain rfl : j = 2 := by omega
                  clear hj hlj
                  go_wp2
                  go_roundg (ls.length - (k + 1))
                  case measure => have := HE.out; omega
                  case rel => exact ⟨k + 1, csT, sentT, gotT, by go_num, rfl, HE.out, HMZ.out, HIT.out, HST.out⟩
            · have hx2b : (x.1 == 2) = false := by rw [beq_eq_false_iff_ne]; exact hx2
              have hsum := HX.out
              obtain ⟨c1', c2', e1, e2, e3, e4, e5⟩ := HI.out.send2 HSS.out (by have h1 := HSL.out; have h2 := HL.out; have h3 := sumL_take_le ls k; omega) x.2
              have HE1 := Lib.hid e1
              have HE2 := Lib.hid e2
              have HE3 := Lib.hid e3
              have HI2 := Lib.hid e4
              have HO1 := Lib.hid e5
              have hss1 : (sent s).length + x.2.length ≤ 20000 := by
                have h1 := HSL.out
                have h2 := HL.out
                have h3 := sumL_take_le ls (k + 1)
                rw [sumL_take ls HX.out] at h3
                have h4 := HSS.out
                obtain rfl | rfl : s = 0 ∨ s = 1 := by omega
                · omega
                · omega
              have HSO := Lib.hid (HI.out.sendOk HSS.out hss1)
              have HZL := Lib.hid hss1
              clear hx2 e1 e2 e3 e4 e5 hce hss1 hsum
              go_upto_region 25 with (fail)
              obtain ⟨wA, hwA⟩ : ∃ wA, wA = wr.alloc (.cells #[.int .i64 x.1, .slice av x.2.length cv] 35) := ⟨_, rfl⟩
              have hka : Kp0 wr wA := by rw [hwA]; exact (Kp.refl (fun _ => False) wr).alloc _
              have hbk : wA.heap[wr.heap.size]? = some (.cells #[.int .i64 x.1, .slice av x.2.length cv] 35 (0, 0)) := by rw [hwA]; exact heap_alloc_new wr _
              rw [← hwA] at HMA ⊢
              obtain ⟨c, hc⟩ : ∃ c, c = wr.heap.size := ⟨_, rfl⟩
              rw [← hc] at hbk ⊢
              have HBK := Lib.hid hbk
              have HKA := Lib.hid hka
              have HCE := Lib.hid hc
              have hce := fun (wq : World) (hq : Kp0 wA wq) => (HMA.out.kp0 hq).e.cell (k := s) (by have := HSS.out; omega)
              have hbx := fun (wq : World) (hq : Kp0 wA wq) => blk_cell (blk_keep hq HBK.out (fun h => h)) 1
              have HQA := Lib.hid (HQ.out.keep0 (HKR.out.tr HKA.out))
              clear hwA hka hbk hc
              refine wp_region_px 7 [5] (fun w' : World => Kp0 wA w') (.quiet 0 (.quiet 1 (.quiet 2 (.quiet 3 (.quiet 4 (.wall 5 (.quiet 6 .done))))))) (by kernel_rfl) (by kernel_rfl) (by kernel_rfl) (by kernel_rfl) (fun _ d _ _ _ h => by cases d <;> exact h) (Kp.refl _ _).drew ?_
              iterate 5 (refine px_quiet (v := ?_) rfl (by rfl) (fun wq hwq => ?_) rfl ?_; rotate_left 1; (focus (have hq1 := hce wq hwq; have hq2 := hbx wq hwq; go_simp; try (with_reducible rfl); done)); try simp only [List.setIfInBounds_toArray, List.set_cons_zero, List.set_cons_succ])
              refine px_wall rfl (by rfl) (fun K hK => ?_)
              go_simp
              refine (send_fl HM.out HKA.out.drew HSS.out (HQA.out.keep0 (Kp.refl (fun _ => False) _).drew) HSO.out).mono ?_
              rw [HE1.out]
              rintro e z25 ⟨rfl, hm, hkl⟩
              simp only []
              have HZ25 := Lib.hid hm
              have HKL := Lib.hid hkl
              refine hK (fun w' => w' = z25) _ _ rfl ?_
              clear hK K hm hkl hce hbx
              refine px_quiet (v := ?_) rfl (by rfl) (fun wq hwq => ?_) rfl ?_
              rotate_left 1
              · go_simp
                try (with_reducible rfl)
              simp only [List.setIfInBounds_toArray, List.set_cons_zero, List.set_cons_succ]
              refine px_done ?_
              go_upto_region 26 with (fail)
              have hcl : c < wr.heap.size → False := fun h => by have := HCE.out; omega
              have hbk := blk_keep HKL.out HBK.out hcl
              have HBK2 := Lib.hid hbk
              have hsx := fun (wq : World) (hq : Kp0 z25 wq) => ((HZ25.out.kp0 hq).s.cell (k := s) (by have := HSS.out; omega)).1
              have hbx := fun (wq : World) (hq : Kp0 z25 wq) => blk_cell (blk_keep hq HBK2.out (fun h => h)) 1
              have hcv := fun (wq : World) (hq : Kp0 z25 wq) => cv_tx (HQ.out.keep0 ((HK0.out.tr HZ25.out.k).tr hq))
              have hsz : ¬ 9223372036854775807 < (tx (sent s)).size + (tx x.2).size := by rw [tx_size, tx_size]; have := HZL.out; omega
              have hm2 := (HZ25.out.setS (k := s) (by have := HSS.out; omega) (sent s ++ x.2)).kp0 ((Kp.refl (fun _ => False) _).drew)
              rw [← tx_app] at hm2
              have HM26 := Lib.hid hm2
              clear hbk hcl hm2
              refine wp_region_px 9 [8] (fun w' : World => Kp0 z25 w') (.quiet 0 (.quiet 1 (.quiet 2 (.quiet 3 (.quiet 4 (.quiet 5 (.quiet 6 (.quiet 7 (.wall 8 .done))))))))) (by kernel_rfl) (by kernel_rfl) (by kernel_rfl) (by kernel_rfl) (fun _ d _ _ _ h => by cases d <;> exact h) (Kp.refl _ _).drew ?_
              iterate 8 (refine px_quiet (v := ?_) rfl (by rfl) (fun wq hwq => ?_) rfl ?_; rotate_left 1; (focus (have hq1 := hsx wq hwq; have hq2 := hbx wq hwq; have hq3 := hcv wq hwq; go_simp; try (with_reducible rfl); done)); try simp only [List.setIfInBounds_toArray, List.set_cons_zero, List.set_cons_succ])
              refine px_wall rfl (by rfl) (fun K hK => ?_)
              have hgc := (HZ25.out.s.cell (k := s) (by have := HSS.out; omega)).1
              have hgf := (HZ25.out.s.cell (k := s) (by have := HSS.out; omega)).2
              go_simp
              refine hK (fun w' => w' = (z25.setCell ⟨bs, s, none⟩ (.string (tx (sent s) ++ tx x.2))).drew) _ _ rfl ?_
              clear hK K hgc hgf hsz hsx hbx hcv
              refine px_done ?_
              generalize (z25.setCell ⟨bs, s, none⟩ (.string (tx (sent s) ++ tx x.2))).drew = z26 at HM26 ⊢
              have hce := HM26.out.e.cell (k := s) (by have := HSS.out; omega)
              go_wp2_with fail
              refine (pending_fl HM26.out HSS.out).mono ?_
              rw [upd2_k HSS.out]
              rintro e y ⟨rfl, rfl⟩
              rw [HE2.out]
              obtain ⟨q, hq⟩ : ∃ q, q = c1'.wa.length := ⟨_, rfl⟩
              rw [← hq]
              have HQQ := Lib.hid hq
              clear hq hce
              go_upto_region 28 with (fail)
              have hce := fun (wq : World) (hq : Kp0 z26 wq) => (HM26.out.kp0 hq).e.cell (k := s) (by have := HSS.out; omega)
              have hce' := fun (wq : World) (hq : Kp0 z26 wq) => (HM26.out.kp0 hq).e.cell (k := s') (by have := HSS.out; omega)
              refine wp_region_px 8 [7] (fun w' : World => Kp0 z26 w') (.quiet 0 (.quiet 1 (.quiet 2 (.quiet 3 (.quiet 4 (.quiet 5 (.quiet 6 (.wall 7 .done)))))))) (by kernel_rfl) (by kernel_rfl) (by kernel_rfl) (by kernel_rfl) (fun _ d _ _ _ h => by cases d <;> exact h) (Kp.refl _ _).drew ?_
              iterate 7 (refine px_quiet (v := ?_) rfl (by rfl) (fun wq hwq => ?_) rfl ?_; rotate_left 1; (focus (have hq1 := hce wq hwq; have hq2 := hce' wq hwq; go_simp; try (with_reducible rfl); done)); try simp only [List.setIfInBounds_toArray, List.set_cons_zero, List.set_cons_succ])
              refine px_wall rfl (by rfl) (fun K hK => ?_)
              go_simp
              refine (carry_fl2 (HM26.out.kp0 (Kp.refl (fun _ => False) _).drew) HSS.out (fun j _ => HO1.out j)).mono ?_
              rintro e z28 ⟨rfl, hm⟩
              simp only []
              have HZ28 := Lib.hid hm
              refine hK (fun w' => w' = z28) _ _ rfl ?_
              clear hK K hm hce hce'
              refine px_done ?_
              rw [HE3.out] at HZ28
              have hce := HZ28.out.e.cell (k := s) (by have := HSS.out; omega)
              obtain ⟨csT, hcsT⟩ : ∃ csT, csT = upd2 cs s s' (c1', c2') := ⟨_, rfl⟩
              obtain ⟨sentT, hsentT⟩ : ∃ sentT, sentT = upd sent s (sent s ++ x.2) := ⟨_, rfl⟩
              obtain ⟨gotT, hgotT⟩ : ∃ gotT, gotT = got := ⟨_, rfl⟩
              have HMT : Hid (FlM w01 z28 eb bs bg be bu csT sentT gotT) := Lib.hid (by rw [hcsT, hsentT, hgotT]; exact HZ28.out)
              have HIT : Hid (FlI csT sentT gotT) := Lib.hid (by rw [hcsT, hsentT, hgotT]; exact HI2.out)
              have HST : Hid ((sentT 0).length + (sentT 1).length ≤ sumL (ls.take (k + 1))) := Lib.hid (by rw [hsentT, sumL_take ls HX.out, len_upd (by have := HSS.out; omega)]; have := HSL.out; omega)
              have HQT : Hid (((csT s).wa.length : Int) = (q : Int)) := Lib.hid (by rw [hcsT, upd2_k HSS.out, HQQ.out])
              clear hcsT hsentT hgotT HZ28 HI2 HO1 HE1 HE2 HE3 HM26 HZ25 HQQ
              by_cases hq0 : 0 < q
              · have hq0i : (0 : Int) < (q : Int) := by omega
                clear hq0
                go_wp2_with fail
                refine (pending_fl HMT.out HSS.out).mono ?_
                rw [HQT.out]
                rintro e y ⟨rfl, rfl⟩
                obtain ⟨wt, rfl⟩ : ∃ wt, wt = z28 := ⟨_, rfl⟩
                clear hce HQT
                go_wp2
                go_loopg [116] 2 (fun gg i wr => ∃ j : Nat, i = .int .i64 j ∧ gg = 2 - j ∧ j ≤ 2 ∧ Kp0 wt wr)
                case atStart => exact ⟨0, rfl, rfl, by omega, Kp.refl _ _⟩
                case round =>
                  obtain ⟨j, rfl, rfl, hj, hkz⟩ := hrel
                  have HMZ := Lib.hid (HMT.out.kp0 hkz)
                  have HKZ := Lib.hid hkz
                  clear hkz
                  by_cases hlj : j < 2
                  · have hlji : (j : Int) < 2 := by omega
                    obtain ⟨j', hjj⟩ : ∃ j', j + j' = 1 := ⟨1 - j, by omega⟩
                    have HJJ := Lib.hid hjj
                    have hj2' : (j' : Int) < 2 := by omega
                    have hjw : IntKind.i64.wrap (1 - (j : Int)) = (j' : Int) := by rw [IntKind.wrap_i64]; omega
                    have hjd := HIT.out.d j' (by omega)
                    rw [show 1 - j' = j by omega] at hjd
                    have hjl := hjd.len
                    have hjp := hjd.pre
                    have hle : ¬ ((tx (sentT j')).size : Int) < ((tx (gotT j)).size : Int) := by rw [tx_size, tx_size]; omega
                    have hle2 : (tx (gotT j)).size ≤ (tx (sentT j')).size := by rw [tx_size, tx_size]; omega
                    have hex : (tx (sentT j')).extract 0 (tx (gotT j)).size = tx (gotT j) := by rw [tx_extract, tx_size, hjp]
                    have heq : ((tx (gotT j)).toList != (tx (gotT j)).toList) = false := by simp
                    clear hjj hjd hlj
                    go_upto_region 35 with (fail)
                    have hgz := fun (wq : World) (hq : Kp0 wr wq) => ((HMZ.out.kp0 hq).g.cell (k := j) (by have := HJJ.out; omega)).1
                    have hsz := fun (wq : World) (hq : Kp0 wr wq) => ((HMZ.out.kp0 hq).s.cell (k := j') (by have := HJJ.out; omega)).1
                    refine wp_region_px7 [[1,2,3,9,10,11,12,13,14,15,16,17,18,19,20,21,22,23,24],[2,3,9,10,11,12,13,14,15,16,17,18,19,20,21,22,23,24],[3,9,10,11,12,13,14,15,16,17,18,19,20,21,22,23,24],[9,10,11,12,13,14,15,16,17,18,19,20,21,22,23,24],[5,6,7,8,9,10,11,12,13,14,15,16,17,18,19,20,21,22,23,24],[6,7,8,9,10,11,12,13,14,15,16,17,18,19,20,21,22,23,24],[7,8,9,10,11,12,13,14,15,16,17,18,19,20,21,22,23,24],[8,9,10,11,12,13,14,15,16,17,18,19,20,21,22,23,24],[9,10,11,12,13,14,15,16,17,18,19,20,21,22,23,24],[10,11,12,13,14,15,16,17,18,19,20,21,22,23,24],[11,12,13,14,15,16,17,18,19,20,21,22,23,24],[12,13,23,24],[13,23,24],[23,24],[15,16,17,22,23,24],[16,17,22,23,24],[17,22,23,24],[22,23,24],[19,20,21,22,23,24],[20,21,22,23,24],[21,22,23,24],[22,23,24],[23,24],[24],[]] (fun w' : World => Kp0 wr w') (.quiet 0 (.quiet 1 (.quiet 2 (.quiet 3 (.quiet 4 (.quiet 5 (.quiet 6 (.quiet 7 (.quiet 8 (.quiet 9 (.quiet 10 (.quiet 11 (.quiet 12 (.quiet 13 (.quiet 14 (.quiet 15 (.quiet 16 (.quiet 17 (.quiet 18 (.quiet 19 (.quiet 20 (.quiet 21 (.quiet 22 (.quiet 23 (.quiet 24 .done))))))))))))))))))))))))) (by kernel_rfl) (by kernel_rfl) (by kernel_rfl) (by kernel_rfl) (fun _ d _ _ _ h => by cases d <;> exact h) (Kp.refl _ _).drew ?_
                    iterate 25 (refine px_quiet (v := ?_) rfl (by rfl) (fun wq hwq => ?_) rfl ?_; rotate_left 1; (focus (have hq1 := hgz wq hwq; have hq2 := hsz wq hwq; go_simp; try (with_reducible rfl); done)); try simp only [List.setIfInBounds_toArray, List.set_cons_zero, List.set_cons_succ])
                    refine px_done ?_
                    clear hgz hsz
                    go_wp2
                    go_roundg (2 - (j + 1))
                    case measure => have := HJJ.out; omega
                    case rel => exact ⟨j + 1, by go_num, rfl, by have := HJJ.out; omega, HKZ.out.drew⟩
                  · obtain rfl : j = 2 := by omega
                    clear hj hlj
                    go_wp2
                    go_roundg (ls.length - (k + 1))
                    case measure => have := HE.out; omega
                    case rel => exact ⟨k + 1, csT, sentT, gotT, by go_num, rfl, HE.out, HMZ.out, HIT.out, HST.out⟩
              · have hq0i : ¬ (0 : Int) < (q : Int) := by omega
                obtain ⟨wt, rfl⟩ : ∃ wt, wt = z28 := ⟨_, rfl⟩
                clear hce HQT hq0
                go_wp2
                go_loopg [116] 2 (fun gg i wr => ∃ j : Nat, i = .int .i64 j ∧ gg = 2 - j ∧ j ≤ 2 ∧ Kp0 wt wr)
                case atStart => exact ⟨0, rfl, rfl, by omega, Kp.refl _ _⟩
                case round =>
                  obtain ⟨j, rfl, rfl, hj, hkz⟩ := hrel
                  have HMZ := Lib.hid (HMT.out.kp0 hkz)
                  have HKZ := Lib.hid hkz
                  clear hkz
                  by_cases hlj : j < 2
                  · have hlji : (j : Int) < 2 := by omega
                    obtain ⟨j', hjj⟩ : ∃ j', j + j' = 1 := ⟨1 - j, by omega⟩
                    have HJJ := Lib.hid hjj
                    have hj2' : (j' : Int) < 2 := by omega
                    have hjw : IntKind.i64.wrap (1 - (j : Int)) = (j' : Int) := by rw [IntKind.wrap_i64]; omega
                    have hjd := HIT.out.d j' (by omega)
                    rw [show 1 - j' = j by omega] at hjd
                    have hjl := hjd.len
                    have hjp := hjd.pre
                    have hle : ¬ ((tx (sentT j')).size : Int) < ((tx (gotT j)).size : Int) := by rw [tx_size, tx_size]; omega
                    have hle2 : (tx (gotT j)).size ≤ (tx (sentT j')).size := by rw [tx_size, tx_size]; omega
                    have hex : (tx (sentT j')).extract 0 (tx (gotT j)).size = tx (gotT j) := by rw [tx_extract, tx_size, hjp]
                    have heq : ((tx (gotT j)).toList != (tx (gotT j)).toList) = false := by simp
                    clear hjj hjd hlj
                    go_upto_region 35 with (fail)
                    have hgz := fun (wq : World) (hq : Kp0 wr wq) => ((HMZ.out.kp0 hq).g.cell (k := j) (by have := HJJ.out; omega)).1
                    have hsz := fun (wq : World) (hq : Kp0 wr wq) => ((HMZ.out.kp0 hq).s.cell (k := j') (by have := HJJ.out; omega)).1
                    refine wp_region_px7 [[1,2,3,9,10,11,12,13,14,15,16,17,18,19,20,21,22,23,24],[2,3,9,10,11,12,13,14,15,16,17,18,19,20,21,22,23,24],[3,9,10,11,12,13,14,15,16,17,18,19,20,21,22,23,24],[9,10,11,12,13,14,15,16,17,18,19,20,21,22,23,24],[5,6,7,8,9,10,11,12,13,14,15,16,17,18,19,20,21,22,23,24],[6,7,8,9,10,11,12,13,14,15,16,17,18,19,20,21,22,23,24],[7,8,9,10,11,12,13,14,15,16,17,18,19,20,21,22,23,24],[8,9,10,11,12,13,14,15,16,17,18,19,20,21,22,23,24],[9,10,11,12,13,14,15,16,17,18,19,20,21,22,23,24],[10,11,12,13,14,15,16,17,18,19,20,21,22,23,24],[11,12,13,14,15,16,17,18,19,20,21,22,23,24],[12,13,23,24],[13,23,24],[23,24],[15,16,17,22,23,24],[16,17,22,23,24],[17,22,23,24],[22,23,24],[19,20,21,22,23,24],[20,21,22,23,24],[21,22,23,24],[22,23,24],[23,24],[24],[]] (fun w' : World => Kp0 wr w') (.quiet 0 (.quiet 1 (.quiet 2 (.quiet 3 (.quiet 4 (.quiet 5 (.quiet 6 (.quiet 7 (.quiet 8 (.quiet 9 (.quiet 10 (.quiet 11 (.quiet 12 (.quiet 13 (.quiet 14 (.quiet 15 (.quiet 16 (.quiet 17 (.quiet 18 (.quiet 19 (.quiet 20 (.quiet 21 (.quiet 22 (.quiet 23 (.quiet 24 .done))))))))))))))))))))))))) (by kernel_rfl) (by kernel_rfl) (by kernel_rfl) (by kernel_rfl) (fun _ d _ _ _ h => by cases d <;> exact h) (Kp.refl _ _).drew ?_
                    iterate 25 (refine px_quiet (v := ?_) rfl (by rfl) (fun wq hwq => ?_) rfl ?_; rotate_left 1; (focus (have hq1 := hgz wq hwq; have hq2 := hsz wq hwq; go_simp; try (with_reducible rfl); done)); try simp only [List.setIfInBounds_toArray, List.set_cons_zero, List.set_cons_succ])
                    refine px_done ?_
                    clear hgz hsz
                    go_wp2
                    go_roundg (2 - (j + 1))
                    case measure => have := HJJ.out; omega
                    case rel => exact ⟨j + 1, by go_num, rfl, by have := HJJ.out; omega, HKZ.out.drew⟩
                  · obtain rfl : j = 2 := by omega
                    clear hj hlj
                    go_wp2
                    go_roundg (ls.length - (k + 1))
                    case measure => have := HE.out; omega
                    case rel => exact ⟨k + 1, csT, sentT, gotT, by go_num, rfl, HE.out, HMZ.out, HIT.out, HST.out⟩
          · obtain rfl : k = ls.length := by omega
            have HS15 : Hid ((sent 0).length + (sent 1).length ≤ 15000) := Lib.hid (by have h1 := HSL.out; have h2 := HL.out; rw [List.take_length] at h1; omega)
            have hb0 := HI.out.bnd (k := 0) (k' := 1) rfl
            have hl0 := HI.out.d 0 (by omega)
            have hl1 := HI.out.d 1 (by omega)
            simp only [Nat.sub_zero, Nat.sub_self] at hl0 hl1
            have hA : lie cs 0 1 ≤ 16384 := by have h1 := hl0.len; have h2 := HS15.out; unfold lie; omega
            have hB : lie cs 1 0 ≤ 16384 := by have h1 := hl1.len; have h2 := HS15.out; unfold lie; omega
            have HA := Lib.hid hA
            have HB := Lib.hid hB
            clear hk hlt hA hB hl0 hl1 hb0 HSL HL
            go_wp2
            go_loopg [146] 2000 (fun gg i wr => ∃ (r : Nat) (cs : Nat → Ch) (got : Nat → List UInt8), i = .int .i64 r ∧ gg = 2000 - r ∧ r ≤ 3 ∧ FlM w01 wr eb bs bg be bu cs sent got ∧ FlI cs sent got ∧ lie cs 0 1 ≤ 16384 - 4096 * r ∧ lie cs 1 0 ≤ 16384 - 4096 * r)
            case atStart => exact ⟨0, cs, got, rfl, rfl, by omega, HM.out, HI.out, HA.out, HB.out⟩
            case round =>
              obtain ⟨r, cs, got, rfl, rfl, hr, hm, hi, ha, hb⟩ := hrel
              have HM := Lib.hid hm
              have HI := Lib.hid hi
              have HR := Lib.hid hr
              obtain ⟨M, hM⟩ : ∃ M, M = 16384 - 4096 * r := ⟨_, rfl⟩
              rw [← hM] at ha hb
              have HMM := Lib.hid hM
              have HA := Lib.hid ha
              have HB := Lib.hid hb
              have hri : (r : Int) < 2000 := by omega
              clear hm hi ha hb hM hr
              go_wp2
              go_loopg [148] 2 (fun gg i wr => ∃ (s : Nat) (cs : Nat → Ch) (got : Nat → List UInt8), i = .int .i64 s ∧ gg = 2 - s ∧ s ≤ 2 ∧ FlM w01 wr eb bs bg be bu cs sent got ∧ FlI cs sent got ∧ lie cs 0 1 ≤ (if s = 2 then M - 4096 else M) ∧ lie cs 1 0 ≤ (if 1 ≤ s then M - 4096 else M))
              case atStart => exact ⟨0, cs, got, rfl, rfl, by omega, HM.out, HI.out, by simpa using HA.out, by simpa using HB.out⟩
              case round =>
                obtain ⟨s, cs, got, rfl, rfl, hs, hm, hi, ha, hb⟩ := hrel
                have HM := Lib.hid hm
                have HI := Lib.hid hi
                have HA := Lib.hid ha
                have HB := Lib.hid hb
                clear hm hi ha hb
                by_cases hls : s < 2
                · have hs2 : (s : Int) < 2 := by omega
                  obtain ⟨s', hss⟩ : ∃ s', s + s' = 1 := ⟨1 - s, by omega⟩
                  have HSS := Lib.hid hss
                  have hs2' : (s' : Int) < 2 := by omega
                  have hsw : IntKind.i64.wrap (1 - (s : Int)) = (s' : Int) := by rw [IntKind.wrap_i64]; omega
                  obtain ⟨c1', c2', e1, e2, e3, e4, e5, e6, e7⟩ := HI.out.recv2 HSS.out (by have h1 := HS15.out; omega)
                  have hgl := gotLen HI.out HSS.out (by have h1 := HS15.out; omega)
                  have hbl := (HI.out.bnd HSS.out).2.2.1
                  have hsz : ¬ 9223372036854775807 < (tx (got s)).size + (tx (cs s).ca).size := by rw [tx_size, tx_size]; omega
                  have hst := lie_step HSS.out e3 e4 e5 (HI.out.less HSS.out) HA.out HB.out
                  have HST := Lib.hid hst
                  have HE1 := Lib.hid e1
                  have HI2 := Lib.hid e2
                  have HO1 := Lib.hid e6
                  have HO2 := Lib.hid e7
                  clear e1 e2 e3 e4 e5 e6 e7 hst hgl hbl hss hls
                  go_upto_region 44 with (fail)
                  have hgz := fun (wq : World) (hq : Kp (GS w01.heap.size bs bg be bu) wr wq) => ((HM.out.g.keep hq (fun hh => hh.2.2.1 rfl)).cell (k := s) (by have := HSS.out; omega)).1
                  have hce := fun (wq : World) (hq : Kp (GS w01.heap.size bs bg be bu) wr wq) => (HM.out.e.keep hq (fun hh => hh.2.2.2.1 rfl)).cell (k := s) (by have := HSS.out; omega)
                  refine wp_region_px 11 [10] (fun w' : World => Kp (GS w01.heap.size bs bg be bu) wr w') (.quiet 0 (.quiet 1 (.quiet 2 (.quiet 3 (.quiet 4 (.quiet 5 (.eff 6 (.quiet 7 (.quiet 8 (.quiet 9 (.wall 10 .done))))))))))) (by kernel_rfl) (by kernel_rfl) (by kernel_rfl) (by kernel_rfl) (fun _ d _ _ _ h => by cases d <;> exact h) (Kp.refl _ _).drew ?_
                  iterate 6 (refine px_quiet (v := ?_) rfl (by rfl) (fun wq hwq => ?_) rfl ?_; rotate_left 1; (focus (have hq1 := hgz wq hwq; have hq2 := hce wq hwq; go_simp; try (with_reducible rfl); done)); try simp only [List.setIfInBounds_toArray, List.set_cons_zero, List.set_cons_succ])
                  refine px_eff rfl (by rfl) (fun K hK => ?_)
                  go_simp
                  refine (recv_fl (HM.out.kp0 (Kp.refl (fun _ => False) _).drew) HSS.out (HI.out.recvOk HSS.out)).mono ?_
                  rintro e z44 ⟨v1, rfl, hr1, hm1, hk1⟩
                  obtain ⟨a1, cv1, rfl, _, _, _⟩ := hr1.shapeB
                  have HR1 := Lib.hid hr1
                  have HM1 := Lib.hid hm1
                  have HK1 : Hid (Kp (GS w01.heap.size bs bg be bu) wr z44) := Lib.hid (((Kp.refl _ wr).drew).tr hk1)
                  simp only []
                  refine hK (fun w' : World => Kp0 z44 w') _ _ (fun x hx => HK1.out.trans hx (fun _ _ h => h) (fun _ _ h => h.elim)) (Kp.refl _ _) ?_
                  clear hK K hr1 hm1 hk1
                  have hcv := fun (wq : World) (hq : Kp0 z44 wq) => cv_tx (HR1.out.keep0 hq)
                  iterate 3 (refine px_quiet (v := ?_) rfl (by rfl) (fun wq hwq => ?_) rfl ?_; rotate_left 1; (focus (have hq1 := hcv wq hwq; go_simp; try (with_reducible rfl); done)); try simp only [List.setIfInBounds_toArray, List.set_cons_zero, List.set_cons_succ])
                  refine px_wall rfl (by rfl) (fun K hK => ?_)
                  have hgc := (HM1.out.g.cell (k := s) (by have := HSS.out; omega)).1
                  have hgf := (HM1.out.g.cell (k := s) (by have := HSS.out; omega)).2
                  have hm2 := HM1.out.setG (k := s) (by have := HSS.out; omega) (got s ++ (cs s).ca)
                  rw [← tx_app] at hm2
                  have HM2 := Lib.hid hm2
                  clear hm2
                  go_simp
                  refine hK (fun w' => w' = z44.setCell ⟨bg, s, none⟩ (.string (tx (got s) ++ tx (cs s).ca))) _ _ rfl ?_
                  clear hK K hgc hgf hsz hgz hce hcv
                  refine px_done ?_
                  generalize z44.setCell ⟨bg, s, none⟩ (.string (tx (got s) ++ tx (cs s).ca)) = wx at HM2 ⊢
                  go_upto_region 45 with (fail)
                  have hce := fun (wq : World) (hq : Kp0 wx wq) => (HM2.out.kp0 hq).e.cell (k := s) (by have := HSS.out; omega)
                  have hce' := fun (wq : World) (hq : Kp0 wx wq) => (HM2.out.kp0 hq).e.cell (k := s') (by have := HSS.out; omega)
                  refine wp_region_px 8 [7] (fun w' : World => Kp0 wx w') (.quiet 0 (.quiet 1 (.quiet 2 (.quiet 3 (.quiet 4 (.quiet 5 (.quiet 6 (.wall 7 .done)))))))) (by kernel_rfl) (by kernel_rfl) (by kernel_rfl) (by kernel_rfl) (fun _ d _ _ _ h => by cases d <;> exact h) (Kp.refl _ _).drew ?_
                  iterate 7 (refine px_quiet (v := ?_) rfl (by rfl) (fun wq hwq => ?_) rfl ?_; rotate_left 1; (focus (have hq1 := hce wq hwq; have hq2 := hce' wq hwq; go_simp; try (with_reducible rfl); done)); try simp only [List.setIfInBounds_toArray, List.set_cons_zero, List.set_cons_succ])
                  refine px_wall rfl (by rfl) (fun K hK => ?_)
                  go_simp
                  refine (carry_fl2 (HM2.out.kp0 (Kp.refl (fun _ => False) _).drew) HSS.out HO1.out).mono ?_
                  rintro e z45 ⟨rfl, hm⟩
                  simp only []
                  have HZ45 := Lib.hid hm
                  refine hK (fun w' => w' = z45) _ _ rfl ?_
                  clear hK K hm hce hce'
                  refine px_done ?_
                  go_upto_region 46 with (fail)
                  have hce := fun (wq : World) (hq : Kp0 z45 wq) => (HZ45.out.kp0 hq).e.cell (k := s) (by have := HSS.out; omega)
                  have hce' := fun (wq : World) (hq : Kp0 z45 wq) => (HZ45.out.kp0 hq).e.cell (k := s') (by have := HSS.out; omega)
                  refine wp_region_px 8 [7] (fun w' : World => Kp0 z45 w') (.quiet 0 (.quiet 1 (.quiet 2 (.quiet 3 (.quiet 4 (.quiet 5 (.quiet 6 (.wall 7 .done)))))))) (by kernel_rfl) (by kernel_rfl) (by kernel_rfl) (by kernel_rfl) (fun _ d _ _ _ h => by cases d <;> exact h) (Kp.refl _ _).drew ?_
                  iterate 7 (refine px_quiet (v := ?_) rfl (by rfl) (fun wq hwq => ?_) rfl ?_; rotate_left 1; (focus (have hq1 := hce wq hwq; have hq2 := hce' wq hwq; go_simp; try (with_reducible rfl); done)); try simp only [List.setIfInBounds_toArray, List.set_cons_zero, List.set_cons_succ])
                  refine px_wall rfl (by rfl) (fun K hK => ?_)
                  go_simp
                  refine (carry_fl3 (HZ45.out.kp0 (Kp.refl (fun _ => False) _).drew) HSS.out (fun j _ => HO2.out j)).mono ?_
                  rintro e z46 ⟨rfl, hm⟩
                  simp only []
                  have HZ46 := Lib.hid hm
                  refine hK (fun w' => w' = z46) _ _ rfl ?_
                  clear hK K hm hce hce'
                  refine px_done ?_
                  rw [HE1.out] at HZ46
                  go_wp2
                  go_roundg (2 - (s + 1))
                  case measure => have := HSS.out; omega
                  case rel => exact ⟨s + 1, _, _, by go_num, rfl, by have := HSS.out; omega, HZ46.out, HI2.out, HST.out.1, HST.out.2⟩
                · obtain rfl : s = 2 := by omega
                  have HA2 : Hid (lie cs 0 1 ≤ M - 4096) := Lib.hid (by simpa using HA.out)
                  have HB2 : Hid (lie cs 1 0 ≤ M - 4096) := Lib.hid (by simpa using HB.out)
                  clear hs hls
                  go_wp2_with fail
                  refine (pending_fl HM.out (k := 0) (k' := 1) rfl).mono ?_
                  obtain ⟨q0, hq0⟩ : ∃ q0, q0 = (cs 0).wa.length := ⟨_, rfl⟩
                  rw [← hq0]
                  have HQ0 := Lib.hid hq0
                  clear hq0
                  rintro e y ⟨rfl, rfl⟩
                  go_wp2_with fail
                  refine (pending_fl HM.out (k := 1) (k' := 0) rfl).mono ?_
                  obtain ⟨q1, hq1⟩ : ∃ q1, q1 = (cs 1).wa.length := ⟨_, rfl⟩
                  rw [← hq1]
                  rintro e y ⟨rfl, rfl⟩
                  have hq0 := HQ0.out
                  have hnext : ¬ (q0 + q1 = 0 ∧ got 0 = sent 1 ∧ got 1 = sent 0) → r + 1 ≤ 3 := by
                    intro hn
                    have h1 := HR.out
                    have h2 := HMM.out
                    by_cases h3 : r = 3
                    · exfalso
                      obtain ⟨u1, u2⟩ := fin_eq HI.out (k := 0) (k' := 1) rfl (by have := HA2.out; omega)
                      obtain ⟨u3, u4⟩ := fin_eq HI.out (k := 1) (k' := 0) rfl (by have := HB2.out; omega)
                      exact hn ⟨by rw [hq0, hq1, u1, u3]; rfl, u4, u2⟩
                    · omega
                  have HNX := Lib.hid hnext
                  have hb0 := HI.out.bnd (k := 0) (k' := 1) rfl
                  have hb1 := HI.out.bnd (k := 1) (k' := 0) rfl
                  have hqw : IntKind.i64.wrap ((q0 : Int) + (q1 : Int)) = ((q0 + q1 : Nat) : Int) := by have h1 := HS15.out; rw [IntKind.wrap_i64]; omega
                  obtain ⟨q, hq⟩ : ∃ q, q = q0 + q1 := ⟨_, rfl⟩
                  rw [← hq] at hqw HNX
                  have hg0 := (HM.out.g.cell (k := 0) (by omega)).1
                  have hg1 := (HM.out.g.cell (k := 1) (by omega)).1
                  have hs0 := (HM.out.s.cell (k := 0) (by omega)).1
                  have hs1 := (HM.out.s.cell (k := 1) (by omega)).1
                  have HN1 : Hid (r + 1 ≤ 3 → lie cs 0 1 ≤ 16384 - 4096 * (r + 1) ∧ lie cs 1 0 ≤ 16384 - 4096 * (r + 1)) := Lib.hid (fun _ => by have h1 := HA2.out; have h2 := HB2.out; have h3 := HMM.out; omega)
                  clear hq hq0 hq1 hb0 hb1 hnext
                  by_cases hz : q = 0
                  · have hzb : ((q : Int) == 0) = true := by rw [beq_iff_eq]; omega
                    by_cases g1 : got 0 = sent 1
                    · have g1b : ((tx (got 0)).toList == (tx (sent 1)).toList) = true := by rw [g1]; simp
                      by_cases g2 : got 1 = sent 0
                      · have g2b : ((tx (got 1)).toList == (tx (sent 0)).toList) = true := by rw [g2]; simp
                        clear hz g1 g2
                        go_wp2
                        all_goals go_ret
                        all_goals exact ⟨rfl, HK0.out.tr HM.out.k⟩
                      · have g2b : ((tx (got 1)).toList == (tx (sent 0)).toList) = false := by rw [tx_list, tx_list, beq_eq_false_iff_ne]; exact g2
                        have HN := Lib.hid (HNX.out (fun h => g2 h.2.2))
                        clear hz g1 g2
                        go_wp2
                        go_roundg (2000 - (r + 1))
                        case measure => have := HN.out; omega
                        case rel => exact ⟨r + 1, cs, got, by go_num, rfl, HN.out, HM.out, HI.out, (HN1.out HN.out).1, (HN1.out HN.out).2⟩
                    · have g1b : ((tx (got 0)).toList == (tx (sent 1)).toList) = false := by rw [tx_list, tx_list, beq_eq_false_iff_ne]; exact g1
                      have HN := Lib.hid (HNX.out (fun h => g1 h.2.1))
                      clear hz g1
                      go_wp2
                      go_roundg (2000 - (r + 1))
                      case measure => have := HN.out; omega
                      case rel => exact ⟨r + 1, cs, got, by go_num, rfl, HN.out, HM.out, HI.out, (HN1.out HN.out).1, (HN1.out HN.out).2⟩
                  · have hzb : ((q : Int) == 0) = false := by rw [beq_eq_false_iff_ne]; omega
                    have HN := Lib.hid (HNX.out (fun h => hz h.1))
                    clear hz
                    go_wp2
                    go_roundg (2000 - (r + 1))
                    case measure => have := HN.out; omega
                    case rel => exact ⟨r + 1, cs, got, by go_num, rfl, HN.out, HM.out, HI.out, (HN1.out HN.out).1, (HN1.out HN.out).2⟩
end Go.Proofs.Ytbifdckmkogbgaa
