/- The laws of package cipher: a stream in parts. -/
import Derived.Test.YtomlednobmaaeaaDoorCL4
import Derived.Test.YtomlednobmaaeaaDoorSq6
namespace Go.Proofs.YtomlednobmaaeaaDoor
open Go Go.RowKit
section
variable {P : Program} {w : World} {ops : Array Oper} {rest : List Oper} {o : Oper} {a : Act} {Q : Exit → Act → World → Prop}
/-- APPEND to what the call owns: the row stays where it is, or is new. -/
theorem wl_append_at (hgd : o.guard = none) (s x : Operand) (t : TypeId)
    (ho : o.op = .call { callee := .builtin .append, args := #[s, x], argTypes := #[t, t] })
    {B e bytes : Nat} {z : Value} (ht : P.underlying t = some (.slice e)) (hi : (P.info? e).map (fun i => (i.zero, i.size, i.bytes)) = some (some z, 1, bytes)) (hz : z.cells.size = 1)
    {v y : Value} {xs ys : List Value} (hs : a.eval s = v) (hx : a.eval x = y) (hown : Own B e w v xs) (hrd : Rd w y ys) (h1 : ∀ u ∈ ys, u.oneCell' = true)
    (h63 : xs.length + ys.length ≤ maxLen) (hbytes : (xs.length + ys.length) * bytes ≤ 140737488355328) (hbase : B ≤ w.heap.size)
    (h : ∀ v' w', Own B e w' v' (xs ++ ys) → w.grownBy w' v.ownBlock → (∀ b, v'.ownBlock = some b → v.ownBlock = some b ∨ w.heap.size ≤ b) → wpList P ops Q rest (a.put o.dst v') w') : wpList P ops Q (o :: rest) a w := by
  obtain ⟨i, hi, hz0, hz1, hz2⟩ := info_parts hi
  obtain ⟨ao, cap, rfl, hc1, hc2, hn, hcells⟩ := hrd
  have e0 : xs.length + ys.length = (xs ++ ys).length := by simp
  cases ao with
  | none =>
    obtain rfl := hn rfl
    obtain rfl : ys = [] := List.eq_nil_of_length_eq_zero (by omega)
    exact wpList_append_own_none hgd s x t ho B e i 1 ht hi v _ xs hs hown hx (h v w (by simpa using hown) (World.grownBy.refl _ _) (fun b hb => .inl hb))
  | some ad =>
    obtain ⟨v', w', hrun, r1, r2, _⟩ := run_append_own (P := P) w B t o.type e i z 1 bytes ht hi hz0 hz1 hz2 hz (by decide) v _ xs hown ad _ cap ys (by simp) (hcells ad rfl) h1 h63 hbytes hbase
    have hblk : ∀ b, v'.ownBlock = some b → v.ownBlock = some b ∨ w.heap.size ≤ b := by
      rcases hown.2 with ⟨rfl, h0⟩ | ⟨g, c2, cur, rfl, hbg, hg, hnc, hcm, hcs, htake⟩
      · have hx0 : xs = [] := List.eq_nil_of_length_eq_zero h0
        subst hx0
        obtain ⟨v2, w2, hrun2, r3, _⟩ := run_append_own (P := P) w w.heap.size t o.type e i z 1 bytes ht hi hz0 hz1 hz2 hz (by decide) _ _ [] (World.ownsRow_nil w w.heap.size e 1) ad _ cap ys (by simp) (hcells ad rfl) h1 h63 hbytes (Nat.le_refl _)
        rw [hrun] at hrun2
        simp only [Result.ok.injEq] at hrun2
        obtain ⟨rfl, rfl⟩ := hrun2
        exact fun b hb => .inr (World.ownsRow.lt r3 b hb).1
      · have hl2 : ys.length = ys.length * i.size := by rw [hz1, Nat.mul_one]
        by_cases hroom : xs.length + ys.length ≤ c2
        · have hr := run_append_room (P := P) w t o.type e i ht hi g xs.length c2 cur hg ad ys.length cap ys hl2 (hcells ad rfl) h1 hroom (by rw [hz1, hcs]; omega)
          rw [hrun] at hr
          simp only [Result.ok.injEq] at hr
          rw [hr.1]
          exact fun b hb => .inl hb
        · have holds : ∀ j u, xs[j]? = some u → w.cell? ((⟨g, 0, none⟩ : Addr).add j) = some u := hown.cells (g := g) rfl
          have hr := run_append_grow (P := P) w t o.type e i z ht hi hz0 ⟨g, 0, none⟩ xs.length c2 xs (by rw [hz1, Nat.mul_one]) holds ad ys.length cap ys hl2 (hcells ad rfl) (by omega) (by unfold maxLen at h63; omega) (by rw [hz2]; exact growslice_fits (by omega) hbytes)
          rw [hrun] at hr
          simp only [Result.ok.injEq] at hr
          rw [hr.1]
          exact fun b hb => .inr (Nat.le_of_eq (Option.some.inj hb))
    refine wpList_plain hgd fun K hK => ?_
    unfold Oper.wp
    simp [execOp, ho, resolve, invoke, builtin, hs, hx, hrun, Result.andThen]
    exact hK _ _ (h v' w' (by unfold Own; rw [← e0]; exact r1) r2 hblk)
end
/-- How many bytes, and one more for each row. -/
def tot (ls : List (List UInt8)) : Nat := (ls.map fun l => 1 + l.length).sum
theorem tot_nil : tot [] = 0 := rfl
theorem tot_take {ls : List (List UInt8)} {k : Nat} {l : List UInt8} (h : ls[k]? = some l) : tot (ls.take (k + 1)) = tot (ls.take k) + (1 + l.length) := by
  have hk := (List.getElem?_eq_some_iff.1 h).1
  unfold tot
  rw [List.take_add_one, h]
  simp [List.sum_append]
theorem flat_take {ls : List (List UInt8)} {k : Nat} {l : List UInt8} (h : ls[k]? = some l) : (ls.take (k + 1)).flatten = (ls.take k).flatten ++ l := by
  rw [List.take_add_one, h]
  simp
theorem flat_tot (ls : List (List UInt8)) (k : Nat) : (ls.take k).flatten.length ≤ tot ls := by
  unfold tot
  induction ls generalizing k with
  | nil => simp
  | cons l ls ih =>
    cases k with
    | zero => simp
    | succ k =>
      have := ih k
      simp only [List.take_succ_cons, List.flatten_cons, List.length_append, List.map_cons, List.sum_cons]
      omega
theorem tot_len (ls : List (List UInt8)) : ls.length ≤ tot ls := by
  unfold tot
  induction ls with
  | nil => simp
  | cons l ls ih =>
    simp only [List.length_cons, List.map_cons, List.sum_cons]
    omega
theorem mapx_app (f : Nat → UInt8) (p : Nat) (a b : List UInt8) : (a ++ b).mapIdx (fun i x => x ^^^ f (p + i)) = a.mapIdx (fun i x => x ^^^ f (p + i)) ++ b.mapIdx (fun i x => x ^^^ f (p + a.length + i)) := by
  rw [List.mapIdx_append]
  congr 2
  funext i x
  rw [show p + (i + a.length) = p + a.length + i by omega]
theorem xorB_nil (ks : List (BitVec 32)) (c : List UInt8) (p : Nat) : xorB ks c p [] = [] := by simp [xorB]
theorem xorB_app (ks : List (BitVec 32)) (c : List UInt8) (p : Nat) (a b : List UInt8) : xorB ks c p (a ++ b) = xorB ks c p a ++ xorB ks c (p + a.length) b := by
  unfold xorB
  exact mapx_app (kb ks c) p a b
theorem rd_own {w : World} {v : Value} {l : List UInt8} (h : Rd w v (bys l)) (hl : 0 < l.length) : ∀ b, v.ownBlock = some b → b < w.heap.size := by
  obtain ⟨b0, o, cap, rfl, _, _, hc⟩ := h.pos (by rw [bys_len]; exact hl)
  intro b hb
  rw [own_at b hb]
  exact World.block_lt_of_cell? w _ (hc 0 (by rw [bys_len]; exact hl))
attribute [local irreducible] kyW colsW aesK kb xorB strm xz tx tot
set_option maxRecDepth 20000 in
set_option maxHeartbeats 4000000 in
theorem cstreams_walk (vk vc vp : Value) (lk lc : List UInt8) (vs : List Value) (ls : List (List UInt8)) (w : World) (hk : Rd w vk (bys lk)) (hc : Rd w vc (bys lc)) (hp : Rd w vp vs) (hr : RowsB w vs ls) (hq : Sqr w) :
    Calls Tryd.prog 4 #[vk, vc, vp] w fun e w' => e = .returned (.bool true) ∧ Kp0 w w' := by
  obtain ⟨ak, ck, rfl, _, _, _⟩ := hk.shapeB
  obtain ⟨ac, cc, rfl, _, _, _⟩ := hc.shapeB
  obtain ⟨ap, cp, rfl, _, hpm, _⟩ := hp.shape
  have hpl : (vs.length : Int) ≤ 9223372036854775807 := by unfold maxLen at hpm; omega
  have Hk := Lib.hid hk
  have Hc := Lib.hid hc
  have Hp := Lib.hid hp
  have Hr := Lib.hid hr
  have HQ := Lib.hid hq
  have HW0 := Lib.hid hq.lt
  clear hk hc hp hr hq hpm
  go_enter Tryd.func4, Tryd.ntmps4
  go_wp2_with fail
  refine (fit6_any _ HQ.out).mono ?_
  rintro e w2 ⟨rfl, hk2⟩
  have HK2 := Lib.hid hk2
  clear hk2
  by_cases h : lk.length = 16 ∧ lc.length = 16
  · have HH := Lib.hid h
    have b1 : ((lk.length : Int) != 16) = false := by rw [bne_eq_false_iff_eq]; omega
    have b2 : ((lc.length : Int) != 16) = false := by rw [bne_eq_false_iff_eq]; omega
    clear h
    go_wp2
    go_loopg [7, 28] vs.length (fun gg s i wr => ∃ (n : Nat), i = .int .i64 n ∧ s = .int .i64 ((tot (ls.take n) : Nat) : Int) ∧ n ≤ vs.length ∧ gg = vs.length - n ∧ tot (ls.take n) ≤ 500 ∧ wr = w2)
    case atStart => exact ⟨0, rfl, by rw [List.take_zero, tot_nil]; rfl, by omega, rfl, by rw [List.take_zero, tot_nil]; omega, rfl⟩
    case round =>
      obtain ⟨n, rfl, rfl, hn, rfl, ht, rfl⟩ := hrel
      by_cases h : n < vs.length
      · obtain ⟨bp, op, xp, e, _, _, _⟩ := Hp.out.pos (by omega)
        simp only [Value.slice.injEq] at e
        obtain ⟨rfl, _, rfl⟩ := e
        obtain ⟨v, hv⟩ : ∃ v, vs[n]? = some v := ⟨_, List.getElem?_eq_getElem h⟩
        obtain ⟨l, hl, hrd, hlen⟩ := Hr.out.2 n v hv
        obtain ⟨av, cv, rfl, _, _, _⟩ := hrd.shapeB
        have hcp := (Hp.out.keep0 HK2.out).range n _ hv
        have hnn : (n : Int) < vs.length := by omega
        have hll : (l.length : Int) ≤ 140737488351232 := by omega
        have htt := tot_take hl
        obtain ⟨T, hT⟩ : ∃ T, T = tot (ls.take n) := ⟨_, rfl⟩
        rw [← hT] at ht htt ⊢
        have hTi : (T : Int) ≤ 500 := by omega
        have HT := Lib.hid htt
        have HE := Lib.hid h
        clear hT hl hv hrd hlen htt ht h
        by_cases h5 : T + (1 + l.length) ≤ 500
        · have h5' : (T : Int) + (1 + (l.length : Int)) ≤ 500 := by omega
          go_wp2
          go_roundg (vs.length - (n + 1))
          case measure => have := HE.out; omega
          case rel =>
            have := HE.out
            exact ⟨n + 1, by go_num, by rw [HT.out, Int.natCast_add, Int.natCast_add]; rfl, by omega, rfl, by rw [HT.out]; exact h5, rfl⟩
        · have h5' : 500 < (T : Int) + (1 + (l.length : Int)) := by omega
          go_wp2
          go_ret
          exact ⟨rfl, HK2.out⟩
      · obtain rfl : n = vs.length := by omega
        have HTL : Hid (tot ls ≤ 500) := Lib.hid (by rw [List.take_of_length_le (by rw [Hr.out.1]; exact Nat.le_refl _)] at ht; exact ht)
        clear ht hn h
        generalize tot (ls.take vs.length) = T
        go_wp2_with fail
        go_at_call 9
        refine (new_any _ _ lk lc _ (Hk.out.keep0 HK2.out) (Hc.out.keep0 HK2.out) (HQ.out.kp0 HK2.out) ⟨HH.out.1, HH.out.2⟩).mono ?_
        rintro e w3 ⟨g, rfl, hs, hg, hk⟩
        have HS := Lib.hid hs
        have HK3 := Lib.hid (HK2.out.tr hk)
        have HNG : Hid (w.heap.size ≤ g ∧ g ≠ 0 ∧ g < w3.heap.size) := Lib.hid (by
          have h1 := HK2.out.size
          have h2 := HW0.out
          have h3 := (At.start hs).lt
          exact ⟨by omega, by omega, h3⟩)
        clear hs hg hk HK2
        go_upto_region 14 with (fail)
        obtain ⟨ks, hks⟩ : ∃ ks, ks = kyW (colsW lk) := ⟨_, rfl⟩
        have HKS := Lib.hid hks
        rw [← hks] at HS
        clear hks
        go_wp2
        go_loopg [12, 13, 48] vs.length (fun gg al go i wr => ∃ (n : Nat), i = .int .i64 n ∧ n ≤ vs.length ∧ gg = vs.length - n ∧ At wr g ks lc (0 + (ls.take n).flatten.length) ∧ Own w3.heap.size 5 wr al (bys (ls.take n).flatten) ∧ Own w3.heap.size 5 wr go (bys (xorB ks lc 0 (ls.take n).flatten)) ∧ (∀ b, al.ownBlock = some b → go.ownBlock = some b → False) ∧ Kp0 w wr ∧ w3.heap.size ≤ wr.heap.size)
        case atStart => exact ⟨0, rfl, by omega, rfl, At.start HS.out, by rw [List.take_zero]; exact Own.nil _ _ _, by rw [List.take_zero, List.flatten_nil, xorB_nil]; exact Own.nil _ _ _, (fun b hb => by cases hb), HK3.out, Nat.le_refl _⟩
        case round =>
          obtain ⟨n, rfl, hn, rfl, h1, h2, h3, h4, h5, h6⟩ := hrel
          have HA := Lib.hid h1
          have HAL := Lib.hid h2
          have HGO := Lib.hid h3
          have HAP := Lib.hid h4
          have HK4 := Lib.hid h5
          have HSZ := Lib.hid h6
          clear h1 h2 h3 h4 h5 h6 HS HK3
          have hfl := flat_tot ls n
          have HFL : Hid ((ls.take n).flatten.length ≤ 500) := Lib.hid (by have := HTL.out; omega)
          clear hfl
          obtain ⟨F, hF⟩ : ∃ F, F = (ls.take n).flatten := ⟨_, rfl⟩
          have HF := Lib.hid hF
          rw [← hF] at HA HAL HGO HFL
          clear hF
          by_cases h : n < vs.length
          · obtain ⟨bp, op, xp, e, _, _, _⟩ := Hp.out.pos (by omega)
            simp only [Value.slice.injEq] at e
            obtain ⟨rfl, _, rfl⟩ := e
            obtain ⟨v, hv⟩ : ∃ v, vs[n]? = some v := ⟨_, List.getElem?_eq_getElem h⟩
            obtain ⟨l, hl, hrd, hlen⟩ := Hr.out.2 n v hv
            obtain ⟨av, cv, rfl, _, _, _⟩ := hrd.shapeB
            have hcp := (Hp.out.keep0 HK4.out).range n _ hv
            have hnn : (n : Int) < vs.length := by omega
            have HE := Lib.hid h
            have HFN : Hid ((ls.take (n + 1)).flatten = F ++ l) := Lib.hid (by rw [flat_take hl, HF.out])
            have HLL : Hid (F.length + l.length ≤ 500) := Lib.hid (by
              have h1 := flat_tot ls (n + 1)
              rw [HFN.out, List.length_append] at h1
              have := HTL.out
              omega)
            have HRD := Lib.hid hrd
            clear hv hl hrd hlen h
            go_upto_region 18 with (fail)
            go_wp2_with fail
            go_at_call 11
            refine (turn_pos g ks lc (0 + F.length) _ l _ HA.out (HRD.out.keep0 HK4.out) (fun hl b hb e => by have h1 := rd_own HRD.out hl b hb; have := HNG.out.1; omega) (HQ.out.kp0 HK4.out) HNG.out.2.1 (by have := HLL.out; omega)).mono ?_
            rintro e w5 ⟨hx, rfl, hb, hh, hat, hk⟩
            have HX := Lib.hid (blk_rd (n := l.length) hb (xorB_len _ _ _ _) (by have := HLL.out; omega))
            have HA5 := Lib.hid hat
            have HK5 : Hid (Kp0 w w5) := Lib.hid (HK4.out.trans hk (fun _ _ h => h) (fun i hi e => by have := HNG.out.1; omega))
            have HAL5 := Lib.hid (HAL.out.keep hk (fun b _ hB _ e => by have := HNG.out.2.2; omega))
            have HGO5 := Lib.hid (HGO.out.keep hk (fun b _ hB _ e => by have := HNG.out.2.2; omega))
            have HSZ5 : Hid (w3.heap.size ≤ w5.heap.size) := Lib.hid (Nat.le_trans HSZ.out hk.size)
            clear hb hh hat hk HA HAL HGO HK4 HSZ
            go_upto_region 19 with (refine wl_append_at rfl (.tmp 53) (.tmp 56) 22 rfl Tryd.underlying22 infoB' rfl rfl rfl HGO5.out HX.out (bys_onesV _) (by rw [bys_len, bys_len, xorB_len, xorB_len]; have := HLL.out; unfold maxLen; omega) (by rw [bys_len, bys_len, xorB_len, xorB_len]; have := HLL.out; omega) HSZ5.out ?_
                                    intro vg wg hO hG hB
                                    rw [← bys_app, ← xorB_app] at hO
                                    have hkg := (Kp.refl (fun b => Value.ownBlock u13 = some b) w5).grown hG (fun k hk _ => hk)
                                    have HGO6 := Lib.hid hO
                                    have HAL6 := Lib.hid (HAL5.out.keep hkg (fun b hb _ _ e => HAP.out b hb e))
                                    have HA6 := Lib.hid (HA5.out.kp0' hkg (fun e => by have h1 := (HGO5.out.lt g e).1; have h2 := HNG.out.2.2; omega))
                                    have HK6 : Hid (Kp0 w wg) := Lib.hid (HK5.out.trans hkg (fun _ _ h => h) (fun i hi e => by have h1 := (HGO5.out.lt i e).1; have h2 := HNG.out.2.2; have h3 := HNG.out.1; omega))
                                    have HAP6 : Hid (∀ b, Value.ownBlock u12 = some b → vg.ownBlock = some b → False) := Lib.hid (fun b h1 h2 => (hB b h2).elim (fun h3 => HAP.out b h1 h3) (fun h3 => by have := (HAL5.out.lt b h1).2; omega))
                                    have HSZ6 : Hid (w3.heap.size ≤ wg.heap.size) := Lib.hid (Nat.le_trans HSZ5.out hG.size)
                                    clear hO hG hB hkg)
            clear HA5 HAL5 HGO5 HK5 HSZ5 HX HAP
            go_upto_region 20 with (refine wl_append_at rfl (.tmp 58) (.tmp 59) 22 rfl Tryd.underlying22 infoB' rfl rfl rfl HAL6.out (HRD.out.keep0 HK6.out) (bys_onesV _) (by rw [bys_len, bys_len]; have := HLL.out; unfold maxLen; omega) (by rw [bys_len, bys_len]; have := HLL.out; omega) HSZ6.out ?_
                                    intro va wa hO hG hB
                                    rw [← bys_app] at hO
                                    have hkg := (Kp.refl (fun b => Value.ownBlock u12 = some b) wg).grown hG (fun k hk _ => hk)
                                    have HAL7 := Lib.hid hO
                                    have HGO7 := Lib.hid (HGO6.out.keep hkg (fun b hb _ _ e => HAP6.out b e hb))
                                    have HA7 := Lib.hid (HA6.out.kp0' hkg (fun e => by have h1 := (HAL6.out.lt g e).1; have h2 := HNG.out.2.2; omega))
                                    have HK7 : Hid (Kp0 w wa) := Lib.hid (HK6.out.trans hkg (fun _ _ h => h) (fun i hi e => by have h1 := (HAL6.out.lt i e).1; have h2 := HNG.out.2.2; have h3 := HNG.out.1; omega))
                                    have HAP7 : Hid (∀ b, va.ownBlock = some b → Value.ownBlock vg = some b → False) := Lib.hid (fun b h1 h2 => (hB b h1).elim (fun h3 => HAP6.out b h3 h2) (fun h3 => by have := (HGO6.out.lt b h2).2; omega))
                                    have HSZ7 : Hid (w3.heap.size ≤ wa.heap.size) := Lib.hid (Nat.le_trans HSZ6.out hG.size)
                                    clear hO hG hB hkg)
            clear HA6 HAL6 HGO6 HK6 HSZ6 HAP6
            go_wp2_with fail
            have hz : (n : Int) % 256 = (((UInt8.ofNat n).toNat : Nat) : Int) := by rw [UInt8.toNat_ofNat']; omega
            rw [hz]
            clear hz
            obtain ⟨last, hst, _⟩ := HA7.out
            generalize UInt8.ofNat n = z
            go_at_call 10
            refine (blk_any g ks _ _ _ [z, 0, 0, 0, 0, 0, 0, 0, 0, 0, 0, 0, 0, 0, 0, 0] _ hst rfl (HQ.out.kp0 HK7.out)).mono ?_
            rintro e w8 ⟨rfl, hk⟩
            have HAL8 := Lib.hid (HAL7.out.keep0 hk)
            have HGO8 := Lib.hid (HGO7.out.keep0 hk)
            have HA8 := Lib.hid (HA7.out.kp0 hk)
            have HK8 := Lib.hid (HK7.out.tr hk)
            have HSZ8 : Hid (w3.heap.size ≤ w8.heap.size) := Lib.hid (Nat.le_trans HSZ7.out hk.size)
            clear hk hst HAL7 HGO7 HA7 HK7 HSZ7
            go_wp2
            have he := HE.out
            go_roundg (vs.length - (n + 1))
            case measure => omega
            case rel => exact ⟨n + 1, by go_num, by omega, rfl, by rw [HFN.out, List.length_append, ← Nat.add_assoc]; exact HA8.out, by rw [HFN.out]; exact HAL8.out, by rw [HFN.out]; exact HGO8.out, HAP7.out, HK8.out, HSZ8.out⟩
          · obtain rfl : n = vs.length := by omega
            obtain ⟨aa, ca, rfl, _, _, _⟩ := HAL.out.rd.shapeB
            have HRA := Lib.hid HAL.out.rd
            have HRG := Lib.hid HGO.out.rd
            clear hn h HA HAL HGO HAP HSZ HF
            go_upto_region 22 with (fail)
            have cvg : ∀ wq, Kp0 wr.drew wq → (convert 22 9 u13).run Tryd.prog wq = .ok (.string (tx (xorB ks lc 0 F))) wq := fun wq hk => cv_tx ((HRG.out.keep0 (Kp.refl _ _).drew).keep0 hk)
            have HK0 : Hid (Kp0 wr.drew wr.drew) := Lib.hid (Kp.refl _ _)
            refine wp_region_px 12 [] (fun w' : World => Kp0 wr.drew w') (.quiet 0 (.quiet 1 (.quiet 2 (.quiet 3 (.quiet 4 (.quiet 5 (.quiet 6 (.eff 7 (.eff 8 (.quiet 9 (.quiet 10 (.quiet 11 .done)))))))))))) (by kernel_rfl) (by kernel_rfl) (by kernel_rfl) (by kernel_rfl) (fun _ d _ _ _ h => by cases d <;> exact h) HK0.out ?_
            repeat (refine px_quiet (v := ?_) rfl (by rfl) (fun wq hwq => ?_) rfl ?_; rotate_left 1; (focus (go_simp; try (with_reducible rfl); done)); try simp only [List.setIfInBounds_toArray, List.set_cons_zero, List.set_cons_succ])
            refine px_eff rfl (by rfl) (fun K hK => ?_)
            go_simp
            refine (rbytes_any _ _ lk lc F.length _ ((Hk.out.keep0 HK4.out).keep0 (Kp.refl _ _).drew) ((Hc.out.keep0 HK4.out).keep0 (Kp.refl _ _).drew) HH.out.1 HH.out.2 (by have := HFL.out; omega)).mono ?_
            rintro e z1 ⟨vB, rfl, hr, ho, hk⟩
            simp only []
            rw [← HKS.out] at hr
            have HRB := Lib.hid hr
            have HZ1 : Hid (Kp0 wr.drew z1) := Lib.hid hk
            clear hr ho hk
            refine hK (fun w' : World => Kp0 wr.drew w') _ _ (fun x h => h) HZ1.out ?_
            clear hK K
            refine px_eff rfl (by rfl) (fun K hK => ?_)
            go_simp
            refine (rturn_any _ vB F (strm ks lc F.length) _ ((HRA.out.keep0 (Kp.refl _ _).drew).keep0 HZ1.out) HRB.out (by rw [strm_len]; exact Nat.le_refl _) (by have := HFL.out; omega)).mono ?_
            rintro e z2 ⟨vT, rfl, ho, hk⟩
            simp only []
            rw [← xor_strm ks lc F (Nat.le_refl _)] at ho
            have HRT := Lib.hid ho.rd
            have HZ2 : Hid (Kp0 wr.drew z2) := Lib.hid (HZ1.out.tr hk)
            clear ho hk
            have cvt : ∀ wq, Kp0 z2 wq → (convert 22 9 vT).run Tryd.prog wq = .ok (.string (tx (xorB ks lc 0 F))) wq := fun wq hk => cv_tx (HRT.out.keep0 hk)
            refine hK (fun w' : World => Kp0 z2 w') _ _ (fun x h => HZ2.out.tr h) (Kp.refl _ _) ?_
            clear hK K
            repeat (refine px_quiet (v := ?_) rfl (by rfl) (fun wq hwq => ?_) rfl ?_; rotate_left 1; (focus (go_simp; try (with_reducible rfl); done)); try simp only [List.setIfInBounds_toArray, List.set_cons_zero, List.set_cons_succ])
            refine px_done ?_
            go_wp2
            go_ret
            exact ⟨rfl, HK4.out.tr ((Kp.refl _ wr).drew.tr HZ2.out)⟩
  · by_cases g1 : lk.length = 16
    · have g2 : ¬ lc.length = 16 := fun e => h ⟨g1, e⟩
      have b1 : ((lk.length : Int) != 16) = false := by rw [bne_eq_false_iff_eq]; omega
      have b2 : ((lc.length : Int) != 16) = true := by rw [bne_iff_ne]; omega
      clear h g1 g2
      go_wp2
      go_ret
      exact ⟨rfl, HK2.out⟩
    · have b1 : ((lk.length : Int) != 16) = true := by rw [bne_iff_ne]; omega
      clear h g1
      go_wp2
      go_ret
      exact ⟨rfl, HK2.out⟩
end Go.Proofs.YtomlednobmaaeaaDoor
