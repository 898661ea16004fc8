/- The laws of package cipher: what becomes of its own. -/
import Derived.Test.YtomlednobmaaeaaDoorCL2
namespace Go.Proofs.YtomlednobmaaeaaDoor
open Go Go.RowKit
def tx (l : List UInt8) : ByteArray := ⟨l.toArray⟩
theorem cv_tx {w : World} {v : Value} {l : List UInt8} (h : Rd w v (bys l)) : (convert 22 9 v).run Tryd.prog w = .ok (.string (tx l)) w :=
  run_string_of 22 5 9 Tryd.underlying22 Tryd.underlying5 Tryd.underlying9 h
/-- A row of bytes that the call owns, written out. -/
theorem own_blk {w : World} {B : Nat} {v : Value} {l : List UInt8} (h : Own B 5 w v (bys l)) (hl : 0 < l.length) : ∃ g cap rest, v = .slice (some ⟨g, 0, none⟩) l.length cap ∧ Blk w g 5 (bys l ++ rest) ∧ B ≤ g ∧ l.length ≤ cap := by
  rcases h.2 with ⟨_, h0⟩ | ⟨g, cap, cur, rfl, hb, hh, hn, hc, hs, ht⟩
  · rw [bys_len] at h0; omega
  · rw [bys_len] at hn ht
    refine ⟨g, cap, cur.toList.drop l.length, by rw [bys_len], ?_, hb, hn⟩
    rw [Nat.mul_one] at ht
    have : bys l ++ cur.toList.drop l.length = cur.toList := by
      rw [← ht]
      exact List.take_append_drop _ _
    unfold Blk
    rw [hh, this]
theorem app_get {l : List UInt8} {rest : List Value} {n : Nat} {x : UInt8} (h : l[n]? = some x) : (bys l ++ rest)[n]? = some (.int .u8 (x.toNat : Int)) := by
  have hn : n < l.length := (List.getElem?_eq_some_iff.1 h).1
  rw [List.getElem?_append_left (by rw [bys_len]; exact hn)]
  exact bys_getV h
theorem app_set {l : List UInt8} {rest : List Value} {n : Nat} (h : n < l.length) (y : UInt8) : (bys l ++ rest).set n (.int .u8 (y.toNat : Int)) = bys (l.set n y) ++ rest := by
  rw [List.set_append_left _ _ (by rw [bys_len]; exact h), bys_setV]
theorem kx0 (y : UInt8) : kxB 0 y = y := by
  unfold kxB
  simp
theorem xor_strm (ks : List (BitVec 32)) (c l : List UInt8) {n : Nat} (h : l.length ≤ n) : xorB ks c 0 l = xz l (strm ks c n) := by
  apply List.ext_getElem?
  intro i
  by_cases hi : i < l.length
  · have h1 : l[i]? = some (l[i]'hi) := List.getElem?_eq_getElem hi
    have h2 : (strm ks c n)[i]? = some (kb ks c i) := by
      simp only [strm, List.getElem?_map]
      rw [List.getElem?_range (by omega)]
      rfl
    rw [xorB_get ks c 0 h1, Nat.zero_add]
    unfold xz
    rw [List.getElem?_zipWith, h1, h2]
  · rw [List.getElem?_eq_none (by rw [xorB_len]; omega), List.getElem?_eq_none (by unfold xz; rw [List.length_zipWith, strm_len]; omega)]
theorem zero_strm (ks : List (BitVec 32)) (c : List UInt8) (p m : Nat) : xorB ks c p (zs m) = (strm ks c (p + m)).drop p := by
  apply List.ext_getElem?
  intro i
  rw [List.getElem?_drop]
  by_cases hi : i < m
  · have h1 : (zs m)[i]? = some 0 := by unfold zs; rw [List.getElem?_replicate, if_pos hi]
    rw [xorB_get ks c p h1, kx0]
    simp only [strm, List.getElem?_map]
    rw [List.getElem?_range (by omega)]
    rfl
  · rw [List.getElem?_eq_none (by rw [xorB_len]; simp [zs]; omega), List.getElem?_eq_none (by rw [strm_len]; omega)]
attribute [local irreducible] kyW colsW aesK kb xorB strm xz tx
set_option maxRecDepth 20000 in
set_option maxHeartbeats 4000000 in
theorem cown_walk (vk vc vb : Value) (lk lc lb : List UInt8) (w : World) (hk : Rd w vk (bys lk)) (hc : Rd w vc (bys lc)) (hb : Rd w vb (bys lb)) (ok : ∀ g, vk.ownBlock = some g → g < w.heap.size) (oc : ∀ g, vc.ownBlock = some g → g < w.heap.size) (ob : ∀ g, vb.ownBlock = some g → g < w.heap.size) (hq : Sqr w) :
    Calls Tryd.prog 6 #[vk, vc, vb] w fun e w' => e = .returned (.bool true) ∧ Kp0 w w' := by
  obtain ⟨ak, ck, rfl, _, _, _⟩ := hk.shapeB
  obtain ⟨ac, cc, rfl, _, _, _⟩ := hc.shapeB
  obtain ⟨ab, cb, rfl, _, _, _⟩ := hb.shapeB
  have Hk := Lib.hid hk
  have Hc := Lib.hid hc
  have Hb := Lib.hid hb
  have Ok := Lib.hid ok
  have Oc := Lib.hid oc
  have Ob := Lib.hid ob
  have HQ := Lib.hid hq
  have HW0 := Lib.hid hq.lt
  clear hk hc hb ok oc ob hq
  go_enter Tryd.func6, Tryd.ntmps6
  go_wp2_with fail
  refine (fit6_any _ HQ.out).mono ?_
  rintro e w1 ⟨rfl, hk1⟩
  have HK1 := Lib.hid hk1
  clear hk1
  by_cases h : lk.length = 16 ∧ lc.length = 16 ∧ lb.length ≤ 300
  · have HH := Lib.hid h
    have b1 : ((lk.length : Int) != 16) = false := by rw [bne_eq_false_iff_eq]; omega
    have b2 : ((lc.length : Int) != 16) = false := by rw [bne_eq_false_iff_eq]; omega
    have b3 : (lb.length : Int) ≤ 300 := by omega
    clear h
    go_upto_region 5 with (fail)
    go_upto_region 6 with (first
      | (refine wl_append_own rfl (.const (.slice none 0 0)) (.tmp 32) 22 rfl Tryd.underlying22 infoB' rfl (v := .slice none 0 0) (xs := []) rfl rfl (Own.nil w1.heap.size 5 w1) (Hk.out.keep0 HK1.out) (bys_onesV _) (by rw [bys_len]; have := HH.out.1; simp; unfold maxLen; omega) (by rw [bys_len]; have := HH.out.1; simp; omega) (Nat.le_refl _) ?_
         intro v2 w2 hO hG
         have HO2 : Hid (Own w1.heap.size 5 w2 v2 (bys _)) := Lib.hid (by rw [List.nil_append] at hO; exact hO)
         have HG2 : Hid (Kp0 w1 w2) := Lib.hid ((Kp.refl _ _).grown hG (fun k hk _ => by cases hk))
         clear hO hG)
      | (refine wl_append_own rfl (.const (.slice none 0 0)) (.tmp 34) 22 rfl Tryd.underlying22 infoB' rfl (v := .slice none 0 0) (xs := []) rfl rfl (Own.nil w2.heap.size 5 w2) ((Hc.out.keep0 HK1.out).keep0 HG2.out) (bys_onesV _) (by rw [bys_len]; have := HH.out.2.1; simp; unfold maxLen; omega) (by rw [bys_len]; have := HH.out.2.1; simp; omega) (Nat.le_refl _) ?_
         intro v3 w3 hO hG
         have HO3 : Hid (Own w2.heap.size 5 w3 v3 (bys _)) := Lib.hid (by rw [List.nil_append] at hO; exact hO)
         have HG3 : Hid (Kp0 w2 w3) := Lib.hid ((Kp.refl _ _).grown hG (fun k hk _ => by cases hk))
         clear hO hG))
    obtain ⟨gk, xk, rk, rfl, hBk, hgk, hck⟩ := own_blk HO2.out (by rw [HH.out.1]; omega)
    obtain ⟨gc, xc, rc, rfl, hBc, hgc, hcc⟩ := own_blk HO3.out (by rw [HH.out.2.1]; omega)
    have hle1 := HK1.out.size
    have hlt2 : gk < w2.heap.size := hBk.lt
    have HBk := Lib.hid (hBk.kp0 HG3.out)
    have HBc := Lib.hid hBc
    have HN : Hid (gk ≠ gc ∧ w.heap.size ≤ gk ∧ w.heap.size ≤ gc) := Lib.hid ⟨by omega, by omega, by have := HG2.out.size; omega⟩
    have HRk := Lib.hid (HO2.out.rd.keep0 HG3.out)
    have HRc := Lib.hid HO3.out.rd
    have HK3 := Lib.hid ((HK1.out.tr HG2.out).tr HG3.out)
    clear hBk hBc hgk hgc hle1 hlt2 HO2 HO3 HG2 HG3 HK1
    go_upto_region 7 with (go_at_call 9
                           refine (new_any _ _ lk lc _ HRk.out HRc.out (HQ.out.kp0 HK3.out) ⟨HH.out.1, HH.out.2.1⟩).mono ?_
                           rintro e w4 ⟨g, rfl, hs, hg, hk⟩
                           have HS := Lib.hid hs
                           have HG := Lib.hid hg
                           have HBk4 := Lib.hid (HBk.out.kp0 hk)
                           have HBc4 := Lib.hid (HBc.out.kp0 hk)
                           have HK4 := Lib.hid (HK3.out.tr hk)
                           clear hk hs hg)
    have HNG : Hid (gk ≠ g ∧ gc ≠ g ∧ w.heap.size ≤ g ∧ g ≠ 0) := Lib.hid (by
      have h1 := HBk.out.lt
      have h2 := HBc.out.lt
      have h3 := HG.out
      have h4 := HW0.out
      have h5 := HK3.out.size
      exact ⟨by omega, by omega, by omega, by omega⟩)
    clear HBk HBc HRk HRc HG HK3 hck hcc
    obtain ⟨ks, hks⟩ : ∃ ks, ks = kyW (colsW lk) := ⟨_, rfl⟩
    have HKS := Lib.hid hks
    rw [← hks] at HS
    clear hks
    go_wp2
    have hl16 : (lk.length : Int) = 16 := by have := HH.out.1; omega
    go_loopg [44] 16 (fun gg i wr => ∃ (n : Nat) (mk mc : List UInt8), i = .int .i64 (n : Int) ∧ n ≤ 16 ∧ gg = 16 - n ∧ (mk.length = 16 ∧ mc.length = 16) ∧ Blk wr gk 5 (bys mk ++ rk) ∧ Blk wr gc 5 (bys mc ++ rc) ∧ Stm wr g ks lc z16 0 ∧ Kp0 w wr)
    case atStart => exact ⟨0, lk, lc, rfl, by omega, rfl, ⟨HH.out.1, HH.out.2.1⟩, HBk4.out, HBc4.out, HS.out, HK4.out⟩
    case round =>
      obtain ⟨n, mk, mc, rfl, hn, rfl, hm, h1, h2, h3, h4⟩ := hrel
      have HM := Lib.hid hm
      have HB1 := Lib.hid h1
      have HB2 := Lib.hid h2
      have HS1 := Lib.hid h3
      have HK5 := Lib.hid h4
      clear hm h1 h2 h3 h4 HBk4 HBc4 HS HK4
      by_cases hn16 : n < 16
      · have hn1 : (n : Int) < lk.length := by omega
        have hn2 : (n : Int) < lc.length := by have := HH.out.2.1; omega
        obtain ⟨x, hx⟩ : ∃ x, mk[n]? = some x := ⟨_, List.getElem?_eq_getElem (by rw [HM.out.1]; exact hn16)⟩
        obtain ⟨y, hy⟩ : ∃ y, mc[n]? = some y := ⟨_, List.getElem?_eq_getElem (by rw [HM.out.2]; exact hn16)⟩
        have hcx := HB1.out.cellV n (app_get hx)
        have hfx := blk_frozen HB1.out n
        have sx := u8_succ x
        have sy := u8_succ y
        obtain ⟨x', hx'⟩ : ∃ x', x' = x + 1 := ⟨_, rfl⟩
        obtain ⟨y', hy'⟩ : ∃ y', y' = y + 1 := ⟨_, rfl⟩
        rw [← hx'] at sx
        rw [← hy'] at sy
        have HY := Lib.hid hy
        have HN16 := Lib.hid hn16
        clear hx hy hx' hy' hn16
        go_upto_region 11 with (fail)
        have hk6 := (Kp.refl (fun b => b = gk) wr).setCell (p := ⟨gk, n, none⟩) (fun _ => rfl) (.int .u8 (x'.toNat : Int))
        have HB1' : Hid (Blk (wr.setCell ⟨gk, n, none⟩ (.int .u8 (x'.toNat : Int))) gk 5 (bys (mk.set n x') ++ rk)) := Lib.hid (by
          have := HB1.out.set' n (.int .u8 (x'.toNat : Int))
          rw [app_set (by rw [HM.out.1]; exact HN16.out)] at this
          exact this)
        have HB2' := Lib.hid (HB2.out.keep hk6 (fun e => HN.out.1 e.symm))
        have HS1' : Hid (Stm (wr.setCell ⟨gk, n, none⟩ (.int .u8 (x'.toNat : Int))) g ks lc z16 0) := Lib.hid ⟨HS1.out.1.keep hk6 (fun e => HNG.out.1 e.symm), HS1.out.2⟩
        have HK6 : Hid (Kp0 w (wr.setCell ⟨gk, n, none⟩ (.int .u8 (x'.toNat : Int)))) := Lib.hid (HK5.out.trans hk6 (fun _ _ h => h) (fun i hi e => by have := HN.out.2.1; omega))
        clear hk6 hcx hfx HB1 HB2 HS1 HK5
        generalize (wr.setCell ⟨gk, n, none⟩ (.int .u8 (x'.toNat : Int))) = w6 at HB1' HB2' HS1' HK6 ⊢
        have hcy := HB2'.out.cellV n (app_get HY.out)
        have hfy := blk_frozen HB2'.out n
        go_wp2
        have HNo := HN16.out
        go_roundg (16 - (n + 1))
        case measure => omega
        case rel =>
          have hk7 := (Kp.refl (fun b => b = gc) w6).setCell (p := ⟨gc, n, none⟩) (fun _ => rfl) (.int .u8 (y'.toNat : Int))
          refine ⟨n + 1, mk.set n x', mc.set n y', by go_num, by omega, rfl, ⟨by rw [List.length_set]; exact HM.out.1, by rw [List.length_set]; exact HM.out.2⟩, HB1'.out.keep hk7 (fun e => HN.out.1 e), ?_, ⟨HS1'.out.1.keep hk7 (fun e => HNG.out.2.1 e.symm), HS1'.out.2⟩, HK6.out.trans hk7 (fun _ _ h => h) (fun i hi e => by have := HN.out.2.2; omega)⟩
          have := HB2'.out.set' n (.int .u8 (y'.toNat : Int))
          rw [app_set (by rw [HM.out.2]; exact HNo)] at this
          exact this
      · obtain rfl : n = 16 := by omega
        obtain ⟨n3, hn3⟩ : ∃ n3, n3 = lb.length + 3 := ⟨_, rfl⟩
        have hn3' : (lb.length : Int) + 3 = (n3 : Int) := by omega
        have HN3 := Lib.hid hn3
        have HRb := Lib.hid (Hb.out.keep0 HK5.out)
        clear hn3 hn16 hn HB1 HB2
        go_upto_region 13 with (fail)
        go_upto_region 15 with (first
          | (refine wl_append_own rfl (.const (.slice none 0 0)) (.tmp 60) 22 rfl Tryd.underlying22 infoB' rfl (v := .slice none 0 0) (xs := []) rfl rfl (Own.nil wr.heap.size 5 wr) (HRb.out) (bys_onesV _) (by rw [bys_len]; have := HH.out.2.2; simp; unfold maxLen; omega) (by rw [bys_len]; have := HH.out.2.2; simp; omega) (Nat.le_refl _) ?_
             intro vi wi hO hG
             have HOi : Hid (Own wr.heap.size 5 wi vi (bys _)) := Lib.hid (by rw [List.nil_append] at hO; exact hO)
             have HGi : Hid (Kp0 wr wi) := Lib.hid ((Kp.refl _ _).grown hG (fun k hk _ => by cases hk))
             clear hO hG)
          | (go_at_call 11
             refine (turn_any g ks lc 0 _ lb _ ((At.start HS1.out).kp0 HGi.out) HOi.out.rd (fun b hb e => by have h1 := (HOi.out.lt b hb).1; have h2 := HS1.out.lt; omega) ((HQ.out.kp0 HK5.out).kp0 HGi.out) HNG.out.2.2.2 (by have := HH.out.2.2; omega)).mono ?_
             rintro e w8 ⟨hx, rfl, hbx, hhx, hat, hk⟩
             have HX := Lib.hid hbx
             have HAT := Lib.hid hat
             have HXG := Lib.hid hhx
             have HK8 : Hid (Kp0 w w8) := Lib.hid ((HK5.out.tr HGi.out).trans hk (fun _ _ h => h) (fun i hi e => by have := HNG.out.2.2.1; omega))
             have HRi := Lib.hid (HOi.out.rd.keep hk (fun b hb _ e => by have h1 := (HOi.out.lt b hb).1; have h2 := HS1.out.lt; omega))
             clear hbx hhx hat hk))
        have HXW : Hid (w.heap.size ≤ hx ∧ hx ≠ g) := Lib.hid ⟨by have h1 := HXG.out; have h2 := HK5.out.size; have h3 := HGi.out.size; omega, by have h1 := HXG.out; have h3 := HGi.out.size; have h4 := HS1.out.lt; omega⟩
        have c1 := cv_tx HRi.out
        have c2 := cv_tx (Hb.out.keep0 HK8.out)
        clear HRi HOi HGi HS1 HK5 HRb HXG
        go_upto_region 17 with (fail)
        go_upto_region 18 with (first
          | (go_at_call 14
             refine (rbytes_any _ _ lk lc n3 _ (Hk.out.keep0 HK8.out) (Hc.out.keep0 HK8.out) HH.out.1 HH.out.2.1 (by have h1 := HN3.out; have h2 := HH.out.2.2; omega)).mono ?_
             rintro e w9 ⟨vB, rfl, hr, ho, hk⟩
             rw [← HKS.out] at hr
             have HRB := Lib.hid hr
             have HK9 := Lib.hid (HK8.out.tr hk)
             have HX9 := Lib.hid (HX.out.kp0 hk)
             have HAT9 := Lib.hid (HAT.out.kp0 hk)
             clear hr ho hk)
          | (go_at_call 13
             refine (rturn_any _ vB lb (strm ks lc n3) _ (Hb.out.keep0 HK9.out) HRB.out (by rw [strm_len]; have := HN3.out; omega) (by have := HH.out.2.2; omega)).mono ?_
             rintro e wa ⟨vT, rfl, ho, hk⟩
             rw [← xor_strm ks lc lb (n := n3) (by have := HN3.out; omega)] at ho
             have HRT := Lib.hid ho.rd
             have HKa := Lib.hid (HK9.out.tr hk)
             have HXa := Lib.hid (HX9.out.kp0 hk)
             have HATa := Lib.hid (HAT9.out.kp0 hk)
             clear ho hk))
        have c3 := cv_tx (HRT.out)
        have c4 := cv_tx (blk_rd (n := lb.length) HXa.out (xorB_len _ _ _ _) (by have := HH.out.2.2; omega))
        clear HX HAT HX9 HAT9 HRB HK8 HK9 c1 c2
        go_upto_region 20 with (fail)
        go_wp2
        have hlb : (lb.length : Int) ≤ 300 := by have := HH.out.2.2; omega
        go_loopg [92] lb.length (fun gg i wr => ∃ (n : Nat) (mx : List UInt8), i = .int .i64 (n : Int) ∧ n ≤ lb.length ∧ gg = lb.length - n ∧ mx.length = lb.length ∧ Blk wr hx 5 (bys mx) ∧ At wr g ks lc (0 + lb.length) ∧ Kp0 w wr)
        case atStart => exact ⟨0, _, rfl, by omega, rfl, xorB_len _ _ _ _, HXa.out, HATa.out, HKa.out⟩
        case round =>
          obtain ⟨n, mx, rfl, hn, rfl, hm, h1, h2, h3⟩ := hrel
          have HM := Lib.hid hm
          have HB1 := Lib.hid h1
          have HA1 := Lib.hid h2
          have HK1 := Lib.hid h3
          clear hm h1 h2 h3 HXa HATa HKa HRT c3 c4
          by_cases hnl : n < lb.length
          · obtain ⟨x, hx'⟩ : ∃ x, mx[n]? = some x := ⟨_, List.getElem?_eq_getElem (by rw [HM.out]; exact hnl)⟩
            have hcx := HB1.out.cellV n (bys_getV hx')
            have hfx := blk_frozen HB1.out n
            have sx := u8_succ x
            obtain ⟨x', hx1⟩ : ∃ x', x' = x + 1 := ⟨_, rfl⟩
            rw [← hx1] at sx
            have hnl' : (n : Int) < lb.length := by omega
            have HNL := Lib.hid hnl
            clear hx' hx1 hnl
            go_wp2
            have hno := HNL.out
            go_roundg (lb.length - (n + 1))
            case measure => omega
            case rel =>
              have hk6 := (Kp.refl (fun b => b = hx) wr).setCell (p := ⟨hx, n, none⟩) (fun _ => rfl) (.int .u8 (x'.toNat : Int))
              refine ⟨n + 1, mx.set n x', by go_num, by omega, rfl, by rw [List.length_set]; exact HM.out, ?_, HA1.out.kp0' hk6 (fun e => HXW.out.2 e.symm), HK1.out.trans hk6 (fun _ _ h => h) (fun i hi e => by have := HXW.out.1; omega)⟩
              have := HB1.out.set' n (.int .u8 (x'.toNat : Int))
              rw [bys_setV] at this
              exact this
          · obtain rfl : n = lb.length := by omega
            clear hnl hn HB1
            go_upto_region 26 with (go_at_call 11
                                    have HBZ : Hid (Blk (wr.alloc (.cells (bys (zs 3)).toArray 5)) wr.heap.size 5 (bys (zs 3))) := Lib.hid (blk0 wr _ _)
                                    have HKZ : Hid (Kp0 wr (wr.alloc (.cells (bys (zs 3)).toArray 5))) := Lib.hid ((Kp.refl _ wr).alloc _)
                                    refine (turn_any g ks lc (0 + lb.length) _ (zs 3) _ (HA1.out.kp0 HKZ.out) (blk_rd (n := 3) HBZ.out rfl (by omega)) (fun b hb e => absurd HA1.out.lt (by rw [← e, own16 b hb]; exact Nat.lt_irrefl _)) ((HQ.out.kp0 HK1.out).kp0 HKZ.out) HNG.out.2.2.2 (by decide)).mono ?_
                                    rintro e w5 ⟨hy, rfl, hb, _, _, hk⟩
                                    have HY := Lib.hid hb
                                    have HK5 : Hid (Kp0 w w5) := Lib.hid ((HK1.out.tr HKZ.out).trans hk (fun _ _ h => h) (fun i hi e => by have := HNG.out.2.2.1; omega))
                                    clear hb hk HBZ HKZ)
            rw [show (zs 3).length = 3 from rfl]
            have HYR := Lib.hid (blk_rd (n := 3) HY.out (by rw [xorB_len]; rfl) (by omega))
            rw [Nat.zero_add, zero_strm, ← HN3.out] at HYR
            have cy : ∀ wq, Kp0 w5.drew wq → (convert 22 9 (.slice (some ⟨hy, 0, none⟩) 3 3)).run Tryd.prog wq = .ok (.string (tx ((strm ks lc n3).drop lb.length))) wq := fun wq hk => cv_tx ((HYR.out.keep0 (Kp.refl _ _).drew).keep0 hk)
            have hw3 : IntKind.i64.wrap (n3 : Int) = (n3 : Int) := wrapI _ (by have h1 := HN3.out; have h2 := HH.out.2.2; omega)
            clear HY HA1
            have HK0 : Hid (Kp0 w5.drew w5.drew) := Lib.hid (Kp.refl _ _)
            refine wp_region_px 14 [] (fun w' : World => Kp0 w5.drew w') (.quiet 0 (.quiet 1 (.quiet 2 (.quiet 3 (.quiet 4 (.quiet 5 (.quiet 6 (.quiet 8 (.quiet 9 (.eff 7 (.quiet 10 (.quiet 11 (.quiet 12 (.quiet 13 .done)))))))))))))) (by kernel_rfl) (by kernel_rfl) (by kernel_rfl) (by kernel_rfl) (fun _ d _ _ _ h => by cases d <;> exact h) HK0.out ?_
            repeat (refine px_quiet (v := ?_) rfl (by rfl) (fun wq hwq => ?_) rfl ?_; rotate_left 1; (focus (go_simp; try (with_reducible rfl); done)); try simp only [List.setIfInBounds_toArray, List.set_cons_zero, List.set_cons_succ])
            refine px_eff rfl (by rfl) (fun K hK => ?_)
            go_simp
            refine (rbytes_any _ _ lk lc n3 _ ((Hk.out.keep0 HK5.out).keep0 (Kp.refl _ _).drew) ((Hc.out.keep0 HK5.out).keep0 (Kp.refl _ _).drew) HH.out.1 HH.out.2.1 (by have h1 := HN3.out; have h2 := HH.out.2.2; omega)).mono ?_
            rintro e w6 ⟨vB, rfl, hr, ho, hk⟩
            simp only []
            rw [← HKS.out] at hr
            obtain ⟨bb, oo, cc', rfl, hcap, hcap2, _⟩ := hr.posB (by rw [strm_len]; have := HN3.out; omega)
            rw [strm_len] at hr hcap
            have HRB := Lib.hid (hr.afterB lb.length (by have := HN3.out; omega))
            have HK6 : Hid (Kp0 w5.drew w6) := Lib.hid (HK0.out.tr hk)
            have hne1 : ¬ cc' = lb.length := by have := HN3.out; omega
            have hle1 : lb.length ≤ n3 := by have := HN3.out; omega
            have hle2 : (lb.length : Int) ≤ (n3 : Int) := by omega
            have hle3 : (n3 : Int) ≤ (cc' : Int) := by omega
            have cz : ∀ wq, Kp0 w6 wq → (convert 22 9 (.slice (some ⟨bb, oo + lb.length, none⟩) (n3 - lb.length) (cc' - lb.length))).run Tryd.prog wq = .ok (.string (tx ((strm ks lc n3).drop lb.length))) wq := fun wq hk => cv_tx (HRB.out.keep0 hk)
            clear hr ho hk cy
            rw [strm_len]
            refine hK (fun w' : World => Kp0 w6 w') _ _ (fun x h => HK6.out.tr h) (Kp.refl _ _) ?_
            clear hK K
            repeat (refine px_quiet (v := ?_) rfl (by rfl) (fun wq hwq => ?_) rfl ?_; rotate_left 1; (focus (go_simp; try (with_reducible rfl); done)); try simp only [List.setIfInBounds_toArray, List.set_cons_zero, List.set_cons_succ])
            refine px_done ?_
            go_wp2
            go_ret
            exact ⟨rfl, HK5.out.tr ((Kp.refl _ _).drew.tr HK6.out)⟩
  · by_cases g1 : lk.length = 16
    · by_cases g2 : lc.length = 16
      · have g3 : ¬ lb.length ≤ 300 := fun e => h ⟨g1, g2, e⟩
        have b1 : ((lk.length : Int) != 16) = false := by rw [bne_eq_false_iff_eq]; omega
        have b2 : ((lc.length : Int) != 16) = false := by rw [bne_eq_false_iff_eq]; omega
        have b3 : 300 < (lb.length : Int) := by omega
        clear h g1 g2 g3
        go_wp2
        go_ret
        exact ⟨rfl, HK1.out⟩
      · have b1 : ((lk.length : Int) != 16) = false := by rw [bne_eq_false_iff_eq]; omega
        have b2 : ((lc.length : Int) != 16) = true := by rw [bne_iff_ne]; omega
        clear h g1 g2
        go_wp2
        go_ret
        exact ⟨rfl, HK1.out⟩
    · have b1 : ((lk.length : Int) != 16) = true := by rw [bne_iff_ne]; omega
      clear h g1
      go_wp2
      go_ret
      exact ⟨rfl, HK1.out⟩
end Go.Proofs.YtomlednobmaaeaaDoor
