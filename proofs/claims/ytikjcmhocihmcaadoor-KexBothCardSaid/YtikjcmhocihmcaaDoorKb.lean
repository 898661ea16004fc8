/- Package slices: Grow of a slice that is none, Concat of rows of bytes. Package kex: a key of a talk. Append to rows of one's own whose elements have several cells: where the row lies, what changes. Nothing of the program stands here. Package kex: the keys of a talk. -/
import Derived.Test.YtikjcmhocihmcaaDoorK9
import Derived.Test.YtikjcmhocihmcaaDoorK6
import Derived.Test.YtikjcmhocihmcaaDoorK1
namespace Go.Proofs.YtikjcmhocihmcaaDoor
open Go Go.RowKit
set_option maxHeartbeats 1000000 in
theorem grow_any (n : Nat) (w : World) (hn : n ≤ 1000000000) :
    Calls Tryd.prog 88 #[.slice none 0 0, .int .i64 (n : Int)] w fun e w' => ∃ v', e = .returned v' ∧ Own w.heap.size 5 w' v' [] ∧ Kp0 w w' := by
  have HN := Lib.hid hn
  clear hn
  by_cases h0 : 0 < n
  · have i0 : (0 : Int) < (n : Int) := by omega
    have i1 : ¬ (n : Int) < 0 := by omega
    have hw : RowKit.wrap64 (n : Int) = (n : Int) := by unfold RowKit.wrap64; have := HN.out; omega
    have H0 := Lib.hid h0
    clear h0
    go_enter Tryd.func88, Tryd.ntmps88
    have hby : Tryd.t5.bytes = 1 := by kernel_rfl
    have hsz : Tryd.t5.size = 1 := by kernel_rfl
    have hnb : (n : Int) ≤ 1000000000 := by have := HN.out; omega
    have hnx : Builtin.nextslicecap n 0 = n := nextslicecap_zero H0.out
    have HLE := Lib.hid (grownCap_le_maxLen w n 0 5 (by unfold maxLen; have := HN.out; omega))
    have HGE := Lib.hid (grownCap_ge w n 0 5)
    go_wp2
    go_ret
    refine ⟨_, rfl, ⟨rfl, .inr ⟨w.heap.size, _, _, rfl, Nat.le_refl _, heap_alloc_new w.drew _, Nat.zero_le _, HLE.out, ?_, rfl⟩⟩, (Kp.refl _ w).drew.alloc _⟩
    have hge := HGE.out
    unfold grownCap at hge
    rw [Array.size_append, size_zeroCells, size_zeroCells, Nat.mul_one]
    show n * 1 + _ * 1 = _
    rw [Nat.mul_one, Nat.mul_one]
    omega
  · obtain rfl : n = 0 := by omega
    clear h0
    go_enter Tryd.func88, Tryd.ntmps88
    go_wp2
    go_ret
    exact ⟨_, rfl, Own.nil _ _ _, Kp.refl _ _⟩
set_option maxRecDepth 20000 in
set_option maxHeartbeats 4000000 in
theorem concat_any (pv : Value) (vs : List Value) (ls : List (List UInt8)) (w : World) (hp : Rd w pv vs) (hr : RowsB w vs ls) (hl : ls.flatten.length ≤ 1000000000) :
    Calls Tryd.prog 67 #[pv] w fun e w' => ∃ v', e = .returned v' ∧ Own w.heap.size 5 w' v' (bys ls.flatten) ∧ Kp0 w w' := by
  have HP := Lib.hid hp
  have HR := Lib.hid hr
  have HL := Lib.hid hl
  obtain ⟨ao, cap, rfl, hc1, hc2, -⟩ := hp.shape
  have hvl : vs.length ≤ 9223372036854775807 := by unfold maxLen at hc2; omega
  clear hp hr hl hc1 hc2
  go_enter Tryd.func67, Tryd.ntmps67
  go_wp2
  go_loopw [3, 11] (fun s3 s11 wr => ∃ k : Nat, s11 = .int .i64 k ∧ s3 = .int .i64 ((ls.take k).flatten.length : Nat) ∧ k ≤ vs.length ∧ w = wr) (fun _ i _ => vs.length - (intOf i).toNat)
  case atStart => exact ⟨0, rfl, rfl, Nat.zero_le _, rfl⟩
  case round =>
    obtain ⟨k, rfl, rfl, hk, rfl⟩ := hrel
    by_cases h : k < vs.length
    · have i1 : (k : Int) < (vs.length : Int) := by omega
      have hv : vs[k]? = some (vs[k]'h) := List.getElem?_eq_getElem h
      obtain ⟨b1, o1, d1, e1, -, -, cell1⟩ := HP.out.pos (by omega)
      simp only [Value.slice.injEq] at e1
      obtain ⟨rfl, -, rfl⟩ := e1
      have ck := cell1 k h
      generalize vs[k]'h = v at hv ck
      obtain ⟨l, h1, h2, h3⟩ := rows_take HR.out hv
      obtain ⟨a2, c2, rfl, -, -, -⟩ := h2.shapeB
      have h4 := flat_le ls (k + 1)
      obtain ⟨m, hm⟩ : ∃ m, m = (ls.take k).flatten.length := ⟨_, rfl⟩
      have h5 : (ls.take (k + 1)).flatten.length = m + l.length := by rw [h3, List.length_append, hm]
      rw [← hm]
      have H5 := Lib.hid h5
      have hb : m + l.length ≤ 1000000000 := by have := HL.out; omega
      have hw : IntKind.i64.wrap ((m : Int) + (l.length : Int)) = (m : Int) + (l.length : Int) := by rw [IntKind.wrap_i64]; omega
      have hw2 : RowKit.wrap64 ((m : Int) + (l.length : Int)) = (m : Int) + (l.length : Int) := by unfold RowKit.wrap64; omega
      have hng : ¬ ((m : Int) + (l.length : Int)) < 0 := by omega
      clear cell1 h1 h2 h3 h4 h5 hm hv
      go_wp2
      go_roundw
      case rel => exact ⟨k + 1, by go_num, by rw [H5.out]; go_num, by omega, trivial⟩
      case measure => simp [intOf]; omega
    · obtain rfl : k = vs.length := by omega
      have HT : Hid (ls.take vs.length = ls) := Lib.hid (List.take_of_length_le (by rw [HR.out.1]; exact Nat.le_refl _))
      rw [HT.out]
      obtain ⟨n, hn⟩ : ∃ n, n = ls.flatten.length := ⟨_, rfl⟩
      have HN := Lib.hid hn
      rw [← hn]
      have HNL : Hid (n ≤ 1000000000) := Lib.hid (by rw [hn]; exact HL.out)
      clear hn
      have HLT := Lib.hid (Nat.le_refl w.heap.size)
      go_wp2_with (go_at_call 88; refine (grow_any n _ HNL.out).mono ?_; rintro e w1 ⟨v1, rfl, ho, hk1⟩; have HO1 := Lib.hid ho; have HK1 := Lib.hid hk1; clear ho hk1)
      go_loopg [6, 27] vs.length (fun gg s6 s27 w5 => ∃ j : Nat, s27 = .int .i64 j ∧ j ≤ vs.length ∧ vs.length - j ≤ gg ∧ Hid (Own w.heap.size 5 w5 s6 (bys (ls.take j).flatten)) ∧ Hid (Kp0 w w5))
      case atStart => exact ⟨0, rfl, Nat.zero_le _, by omega, HO1, HK1⟩
      case round =>
        obtain ⟨j, rfl, hj, hgg, HO, HK⟩ := hrel
        by_cases hl : j < vs.length
        · have i1 : (j : Int) < (vs.length : Int) := by omega
          have hv : vs[j]? = some (vs[j]'hl) := List.getElem?_eq_getElem hl
          obtain ⟨b1, o1, d1, e1, -, -, cell1⟩ := (HP.out.keep0 HK.out).pos (by omega)
          simp only [Value.slice.injEq] at e1
          obtain ⟨rfl, -, rfl⟩ := e1
          have ck := cell1 j hl
          generalize vs[j]'hl = v at hv ck
          obtain ⟨l, h1, h2, h3⟩ := rows_take HR.out hv
          obtain ⟨a2, c2, rfl, -, -, -⟩ := h2.shapeB
          have h4 := flat_le ls (j + 1)
          have HF := Lib.hid h3
          have HRD := Lib.hid (h2.keep0 HK.out)
          have HB : Hid ((bys (ls.take j).flatten).length + (bys l).length ≤ 1000000000) := Lib.hid (by
            rw [bys_len, bys_len]
            have e := congrArg List.length h3
            rw [List.length_append] at e
            have := HL.out
            omega)
          have HSZ := Lib.hid HK.out.size
          obtain ⟨a6, n6, c6, rfl⟩ : ∃ a n c, u6 = Value.slice a n c := by
            obtain ⟨ao, cap, e, _⟩ := HO.out.rd.shape
            exact ⟨_, _, _, e⟩
          clear cell1 h1 h2 h3 h4 hv
          go_wp2_with (at_builtin
                       refine wl_append_own (v := .slice a6 n6 c6) rfl _ _ 24 rfl Tryd.underlying24 infoU8 rfl rfl rfl HO.out HRD.out (bys_one _) (by have := HB.out; unfold maxLen; omega) (by have := HB.out; omega) HSZ.out ?_
                       intro v6 w6 ho hgr
                       have HO6 := Lib.hid ho
                       have HK6 : Hid (Kp0 w w6) := Lib.hid (HK.out.grown hgr (fun g hg1 hg2 => by have := (HO.out.lt g hg1).1; omega))
                       clear ho hgr)
          go_roundg (vs.length - (j + 1))
          case measure => omega
          case rel => exact ⟨j + 1, by go_num, by omega, by omega, Lib.hid (by rw [HF.out, bys_app]; exact HO6.out), HK6⟩
        · obtain rfl : j = vs.length := by omega
          have HO2 : Hid (Own w.heap.size 5 wr u6 (bys ls.flatten)) := Lib.hid (by have := HO.out; rwa [HT.out] at this)
          go_wp2
          go_ret
          exact ⟨_, rfl, HO2.out, HK.out⟩
end Go.Proofs.YtikjcmhocihmcaaDoor
namespace Go.Proofs.YtikjcmhocihmcaaDoor
open Go Go.RowKit
attribute [local irreducible] sha256
theorem rows_three {w : World} {v1 v2 v3 : Value} {l1 l2 l3 : List UInt8} (h1 : Rd w v1 (bys l1)) (h2 : Rd w v2 (bys l2)) (h3 : Rd w v3 (bys l3)) (b1 : l1.length ≤ 140737488351232) (b2 : l2.length ≤ 140737488351232) (b3 : l3.length ≤ 140737488351232) : RowsB w [v1, v2, v3] [l1, l2, l3] := by
  refine ⟨rfl, fun i v hv => ?_⟩
  match i, hv with
  | 0, hv => simp at hv; subst hv; exact ⟨l1, rfl, h1, b1⟩
  | 1, hv => simp at hv; subst hv; exact ⟨l2, rfl, h2, b2⟩
  | 2, hv => simp at hv; subst hv; exact ⟨l3, rfl, h3, b3⟩
theorem sl_hm (g n : Nat) (w : World) (h : n ≤ 32) : (Instr.sliceAt 61 (.pointer (some ⟨g, 0, none⟩)) none (some (.int .i64 (n : Int))) (some (.int .i64 (n : Int)))).run Tryd.prog w = .ok (.slice (some ⟨g, 0, none⟩) n n) w := by
  have ha : Tryd.prog.arrayLen 61 = 32 := by kernel_rfl
  have ht : Tryd.prog.underlying 61 = some (.array (Tryd.prog.arrayLen 61) (Tryd.prog.elem 61)) := by kernel_rfl
  obtain ⟨i, hi, h2⟩ : ∃ i, Tryd.prog.info? (Tryd.prog.elem 61) = some i ∧ Tryd.prog.cellsOf (Tryd.prog.elem 61) = 1 := by
    have : (Tryd.prog.info? (Tryd.prog.elem 61)).isSome = true := by kernel_rfl
    obtain ⟨i, hi⟩ := Option.isSome_iff_exists.1 this
    exact ⟨i, hi, by kernel_rfl⟩
  rw [run_sliceAt_array_hm w 61 _ ht .i64 .i64 n n (by omega) (Int.le_refl _) (by rw [ha]; omega), run_sizeOf _ hi, Result.andThen_ok]
  unfold slicedAt
  simp only [Int.toNat_natCast, Nat.zero_mul, Nat.sub_zero, show Addr.add ⟨g, 0, none⟩ 0 = ⟨g, 0, none⟩ from rfl, ite_self]
set_option maxRecDepth 20000 in
set_option maxHeartbeats 4000000 in
theorem key1_any (gs gn : Nat) (vs vn : Value) (ls ln : List UInt8) (c : UInt8) (n : Nat) (w : World) (hq : Sqd w) (hc : Cub w) (hs : Blk w gs 24 [vs]) (hn : Blk w gn 24 [vn]) (hrs : Rd w vs (bys ls)) (hrn : Rd w vn (bys ln))
    (hl : ls.length + 1 + ln.length ≤ 1000000000) (h32 : n ≤ 32) :
    Calls Tryd.prog 66 #[.int .u8 (c.toNat : Int), .int .i64 (n : Int), .pointer (some ⟨gs, 0, none⟩), .pointer (some ⟨gn, 0, none⟩)] w fun e w' => ∃ g, e = .returned (.slice (some ⟨g, 0, none⟩) n n) ∧ w.heap.size ≤ g ∧ Blk w' g 61 (bys (sha256 (ls ++ [c] ++ ln))) ∧ Kp0 w w' := by
  have HQ := Lib.hid hq
  have HC := Lib.hid hc
  have HS := Lib.hid hs
  have HN := Lib.hid hn
  have HRS := Lib.hid hrs
  have HRN := Lib.hid hrn
  have HL := Lib.hid hl
  have H32 := Lib.hid h32
  obtain ⟨q1, cs, rfl, _, _, _⟩ := hrs.shapeB
  obtain ⟨q2, cn, rfl, _, _, _⟩ := hrn.shapeB
  clear hq hc hs hn hrs hrn hl h32
  go_enter Tryd.func66, Tryd.ntmps66
  have HB1 : Hid (Kp0 w (w.alloc (.cells #[.int .u8 (c.toNat : Int)] 5))) := Lib.hid ((Kp.refl _ w).alloc _)
  have c1 := HS.out.cellV 0 (v := .slice q1 ls.length cs) rfl
  have c2 := (HN.out.kp0 HB1.out).cellV 0 (v := .slice q2 ln.length cn) rfl
  have HB2 : Hid (Kp0 w ((w.alloc (.cells #[.int .u8 (c.toNat : Int)] 5)).alloc (.cells #[.slice q1 ls.length cs, .slice (some ⟨w.heap.size, 0, none⟩) 1 1, .slice q2 ln.length cn] 24))) := Lib.hid (HB1.out.alloc _)
  have HLC : Hid (Rd (w.alloc (.cells #[.int .u8 (c.toNat : Int)] 5)) (.slice (some ⟨w.heap.size, 0, none⟩) 1 1) (bys [c])) := Lib.hid (Rd.lit w #[.int .u8 (c.toNat : Int)] 5 (0, 0) 1 rfl (by decide))
  have HRR : Hid (RowsB (w.alloc (.cells #[.int .u8 (c.toNat : Int)] 5)) [.slice q1 ls.length cs, .slice (some ⟨w.heap.size, 0, none⟩) 1 1, .slice q2 ln.length cn] [ls, [c], ln]) := Lib.hid (rows_three (HRS.out.keep0 HB1.out) HLC.out (HRN.out.keep0 HB1.out) (by have := HL.out; omega) (by simp) (by have := HL.out; omega))
  have HRL : Hid (Rd ((w.alloc (.cells #[.int .u8 (c.toNat : Int)] 5)).alloc (.cells #[.slice q1 ls.length cs, .slice (some ⟨w.heap.size, 0, none⟩) 1 1, .slice q2 ln.length cn] 24)) (.slice (some ⟨w.heap.size + 1, 0, none⟩) 3 3) [.slice q1 ls.length cs, .slice (some ⟨w.heap.size, 0, none⟩) 1 1, .slice q2 ln.length cn]) := Lib.hid (by
    have h := Rd.lit (w.alloc (.cells #[.int .u8 (c.toNat : Int)] 5)) #[.slice q1 ls.length cs, .slice (some ⟨w.heap.size, 0, none⟩) 1 1, .slice q2 ln.length cn] 24 (0, 0) 3 rfl (by decide)
    rwa [show (w.alloc (.cells #[.int .u8 (c.toNat : Int)] 5)).heap.size = w.heap.size + 1 from by simp] at h)
  have HRR2 := Lib.hid (HRR.out.keep0 ((Kp.refl _ _).alloc (.cells #[.slice q1 ls.length cs, .slice (some ⟨w.heap.size, 0, none⟩) 1 1, .slice q2 ln.length cn] 24)))
  clear HRR
  have HFL : Hid ([ls, [c], ln].flatten = ls ++ [c] ++ ln) := Lib.hid (by simp)
  have HFB : Hid ((ls ++ [c] ++ ln).length ≤ 1000000000) := Lib.hid (by have := HL.out; simp only [List.length_append, List.length_singleton]; omega)
  have sl := fun g u => sl_hm g n u H32.out
  go_wp2_with (first
    | (go_at_call 67
       refine (concat_any _ [.slice q1 ls.length cs, .slice (some ⟨w.heap.size, 0, none⟩) 1 1, .slice q2 ln.length cn] [ls, [c], ln] _ HRL.out HRR2.out (by rw [HFL.out]; exact HFB.out)).mono ?_
       rw [HFL.out]
       rintro e w3 ⟨v3, rfl, ho, hk⟩
       have HO3 := Lib.hid ho
       have HK3 := Lib.hid (HB2.out.tr hk)
       clear ho hk)
    | (go_at_call 62
       refine (sum_any v3 _ _ (HQ.out.kp0 HK3.out) (HC.out.kp0 HK3.out) HO3.out.rd (Nat.le_trans HFB.out (by decide))).mono ?_
       rintro e w4 ⟨rfl, hk⟩
       have HS4 := Lib.hid (sha256_len (ls ++ [c] ++ ln))
       obtain ⟨S, hS⟩ : ∃ S, S = sha256 (ls ++ [c] ++ ln) := ⟨_, rfl⟩
       rw [← hS] at HS4 ⊢
       have HSE := Lib.hid hS
       clear hS
       have HK4 := Lib.hid (HK3.out.tr hk)
       clear hk)
    | (refine wl_alloc_as asB32 rfl rfl ?_
       intro w5 g5 hw hg
       have HB5 : Hid (Bks w w5 [(g5, 61, bys zb32)]) := Lib.hid (by rw [hw]; exact ((Bks.nil w).kp0 HK4.out).push 61 (bys zb32) hg)
       have HG5 : Hid (w.heap.size ≤ g5) := Lib.hid (by rw [hg]; exact HK4.out.size)
       clear hw hg)
    | (refine wl_store_blk rfl 61 _ _ rfl g5 _ (bys zb32) (bys S) rfl rfl (HB5.out.at 0 rfl) (infoB32 HS4.out) (len_of (T := 61) (infoB32 (l := zb32) rfl) (infoB32 HS4.out)) (bys_onesV _) ?_
       intro w6 hA hK
       have HB6 := Lib.hid (HB5.out.store 0 rfl hA hK)
       clear hA hK))
  go_ret
  exact ⟨g5, rfl, HG5.out, by rw [← HSE.out]; exact HB6.out.at 0 rfl, HB6.out.kp⟩
end Go.Proofs.YtikjcmhocihmcaaDoor
namespace Go.Proofs.YtikjcmhocihmcaaDoor
open Go Go.RowKit
section
variable {P : Program} {w : World} {ops : Array Oper} {rest : List Oper} {o : Oper} {a : Act} {Q : Exit → Act → World → Prop}
theorem run_append_k (t ty e size bytes : Nat) (z : Value) (ht : P.underlying t = some (.slice e)) (hi : (P.info? e).map (fun i => (i.zero, i.size, i.bytes)) = some (some z, size, bytes)) (hz : z.cells.size = size) (hsz : 0 < size)
    {B n : Nat} {v : Value} {xs : List Value} (hown : w.ownsRow B e size v n xs) (ad : Addr) (m cap : Nat) (ys : List Value) (hl : ys.length = m * size) (hcells : ∀ j u, ys[j]? = some u → w.cell? (ad.add j) = some u) (h1 : ∀ u ∈ ys, u.oneCell' = true)
    (h63 : n + m ≤ maxLen) (hbytes : (n + m) * bytes ≤ 140737488355328) (hbase : B ≤ w.heap.size) :
    ∃ v' w', (Builtin.append_ #[t, t] ty #[v, .slice (some ad) m cap]).run P w = .ok v' w' ∧ w'.ownsRow B e size v' (n + m) (xs ++ ys) ∧ Kp (fun b => v.ownBlock = some b) w w' ∧ (∀ b, v'.ownBlock = some b → v.ownBlock = some b ∨ w.heap.size ≤ b) ∧ (v' = .slice none 0 0 ↔ v = .slice none 0 0 ∧ m = 0) := by
  obtain ⟨i, hi, hz0, hz1, hz2⟩ := info_parts hi
  obtain ⟨v', w', hrun, r1, r2, r3⟩ := run_append_own (P := P) w B t ty e i z size bytes ht hi hz0 hz1 hz2 hz hsz v n xs hown ad m cap ys hl hcells h1 h63 hbytes hbase
  refine ⟨v', w', hrun, r1, (Kp.refl (fun b => v.ownBlock = some b) w).grown r2 (fun k hk _ => hk), ?_, r3⟩
  rcases hown.2 with ⟨rfl, h0⟩ | ⟨g, c2, cur, rfl, hbg, hg, hnc, hcm, hcs, htake⟩
  · subst h0
    have hx0 : xs = [] := List.eq_nil_of_length_eq_zero (by rw [hown.1, Nat.zero_mul])
    subst hx0
    obtain ⟨v2, w2, hrun2, q3, _⟩ := run_append_own (P := P) w w.heap.size t ty e i z size bytes ht hi hz0 hz1 hz2 hz hsz _ _ [] (World.ownsRow_nil w w.heap.size e size) ad m cap ys hl hcells h1 h63 hbytes (Nat.le_refl _)
    rw [hrun] at hrun2
    simp only [Result.ok.injEq] at hrun2
    obtain ⟨rfl, rfl⟩ := hrun2
    exact fun b hb => .inr (World.ownsRow.lt q3 b hb).1
  · have hl2 : ys.length = m * i.size := by rw [hz1]; exact hl
    by_cases hroom : n + m ≤ c2
    · have hr := run_append_room (P := P) w t ty e i ht hi g n c2 cur hg ad m cap ys hl2 hcells h1 hroom (by rw [hz1, hl, hcs, ← Nat.add_mul]; exact Nat.mul_le_mul_right _ hroom)
      rw [hrun] at hr
      simp only [Result.ok.injEq] at hr
      rw [hr.1]
      exact fun b hb => .inl hb
    · have holds : ∀ j u, xs[j]? = some u → w.cell? ((⟨g, 0, none⟩ : Addr).add j) = some u := hown.cells (g := g) rfl
      have hr := run_append_grow (P := P) w t ty e i z ht hi hz0 ⟨g, 0, none⟩ n c2 xs (by rw [hz1]; exact hown.1) holds ad m cap ys hl2 hcells (by omega) (by unfold maxLen at h63; omega) (by rw [hz2]; exact growslice_fits (by omega) hbytes)
      rw [hrun] at hr
      simp only [Result.ok.injEq] at hr
      rw [hr.1]
      exact fun b hb => .inr (Nat.le_of_eq (Option.some.inj hb))
theorem wp_append_k (s x : Operand) (t : TypeId) (ho : o.op = .call { callee := .builtin .append, args := #[s, x], argTypes := #[t, t] })
    {e size bytes : Nat} {z : Value} (ht : P.underlying t = some (.slice e)) (hi : (P.info? e).map (fun i => (i.zero, i.size, i.bytes)) = some (some z, size, bytes)) (hz : z.cells.size = size) (hsz : 0 < size)
    {B n : Nat} {v : Value} {xs : List Value} (hs : a.eval s = v) (hown : w.ownsRow B e size v n xs) (ad : Addr) (m cap : Nat) (ys : List Value) (hx : a.eval x = .slice (some ad) m cap) (hl : ys.length = m * size) (hcells : ∀ j u, ys[j]? = some u → w.cell? (ad.add j) = some u) (h1 : ∀ u ∈ ys, u.oneCell' = true)
    (h63 : n + m ≤ maxLen) (hbytes : (n + m) * bytes ≤ 140737488355328) (hbase : B ≤ w.heap.size) {K : Act → World → Prop}
    (h : ∀ v' w', w'.ownsRow B e size v' (n + m) (xs ++ ys) → Kp (fun b => v.ownBlock = some b) w w' → (∀ b, v'.ownBlock = some b → v.ownBlock = some b ∨ w.heap.size ≤ b) → (v' = .slice none 0 0 ↔ v = .slice none 0 0 ∧ m = 0) → K (a.put o.dst v') w') : o.wp P a w K Q := by
  obtain ⟨v', w', hrun, r1, r2, r3, r4⟩ := run_append_k (P := P) t o.type e size bytes z ht hi hz hsz hown ad m cap ys hl hcells h1 h63 hbytes hbase
  unfold Oper.wp
  simp [execOp, ho, resolve, invoke, builtin, hs, hx, hrun, Result.andThen]
  exact h v' w' r1 r2 r3 r4
theorem wl_append_k (hgd : o.guard = none) (s x : Operand) (t : TypeId) (ho : o.op = .call { callee := .builtin .append, args := #[s, x], argTypes := #[t, t] })
    {e size bytes : Nat} {z : Value} (ht : P.underlying t = some (.slice e)) (hi : (P.info? e).map (fun i => (i.zero, i.size, i.bytes)) = some (some z, size, bytes)) (hz : z.cells.size = size) (hsz : 0 < size)
    {B n : Nat} {v : Value} {xs : List Value} (hs : a.eval s = v) (hown : w.ownsRow B e size v n xs) (ad : Addr) (m cap : Nat) (ys : List Value) (hx : a.eval x = .slice (some ad) m cap) (hl : ys.length = m * size) (hcells : ∀ j u, ys[j]? = some u → w.cell? (ad.add j) = some u) (h1 : ∀ u ∈ ys, u.oneCell' = true)
    (h63 : n + m ≤ maxLen) (hbytes : (n + m) * bytes ≤ 140737488355328) (hbase : B ≤ w.heap.size)
    (h : ∀ v' w', w'.ownsRow B e size v' (n + m) (xs ++ ys) → Kp (fun b => v.ownBlock = some b) w w' → (∀ b, v'.ownBlock = some b → v.ownBlock = some b ∨ w.heap.size ≤ b) → (v' = .slice none 0 0 ↔ v = .slice none 0 0 ∧ m = 0) → wpList P ops Q rest (a.put o.dst v') w') : wpList P ops Q (o :: rest) a w :=
  wpList_plain hgd fun _ hK => wp_append_k s x t ho ht hi hz hsz hs hown ad m cap ys hx hl hcells h1 h63 hbytes hbase (fun v' w' q1 q2 q3 q4 => hK _ _ (h v' w' q1 q2 q3 q4))
end
/-- A row of one's own: its shape. -/
theorem ownK_sl {B e size n : Nat} {w : World} {v : Value} {xs : List Value} (h : w.ownsRow B e size v n xs) : ∃ ao cap, v = .slice ao n cap ∧ n ≤ cap ∧ cap ≤ 9223372036854775807 := by
  rcases h.2 with ⟨hv, h0⟩ | ⟨g, cap, cur, hv, _, _, h1, h2, _⟩
  · exact ⟨none, 0, by rw [hv, h0], by omega, by omega⟩
  · exact ⟨_, _, hv, h1, h2⟩
theorem ownK_pos {B e size n : Nat} {w : World} {v : Value} {xs : List Value} (h : w.ownsRow B e size v n xs) (hn : 0 < n) :
    ∃ g cap cur, v = .slice (some ⟨g, 0, none⟩) n cap ∧ B ≤ g ∧ n ≤ cap ∧ cap ≤ 9223372036854775807 ∧ w.heap[g]? = some (.cells cur e (0, 0)) ∧ (∀ j u, xs[j]? = some u → w.cell? ⟨g, j, none⟩ = some u) := by
  rcases h.2 with ⟨hv, h0⟩ | ⟨g, cap, cur, hv, hb, hg, h1, h2, _⟩
  · omega
  · refine ⟨g, cap, cur, hv, hb, h1, h2, hg, fun j u hu => ?_⟩
    have := h.cells (g := g) (by rw [hv]; rfl) j u hu
    rwa [Addr.add_lit, Nat.zero_add] at this
/-- Fewer of them. -/
theorem ownK_take {B e size n : Nat} {w : World} {ao : Option Addr} {m cap : Nat} {xs : List Value} (h : w.ownsRow B e size (.slice ao m cap) n xs) (k : Nat) (hk : k ≤ n) : w.ownsRow B e size (.slice ao k cap) k (xs.take (k * size)) := by
  have hl : (xs.take (k * size)).length = k * size := by rw [List.length_take, h.1, Nat.min_eq_left (Nat.mul_le_mul_right _ hk)]
  refine ⟨hl, ?_⟩
  rcases h.2 with ⟨hv, h0⟩ | ⟨g, cap', cur, hv, hb, hg, h1, h2, h3, h4⟩
  · simp only [Value.slice.injEq] at hv
    obtain ⟨rfl, rfl, rfl⟩ := hv
    exact .inl ⟨by rw [show k = 0 by omega], by omega⟩
  · simp only [Value.slice.injEq] at hv
    obtain ⟨rfl, rfl, rfl⟩ := hv
    refine .inr ⟨g, cap, cur, rfl, hb, hg, by omega, h2, h3, ?_⟩
    rw [← h4, List.take_take, Nat.min_eq_left (Nat.mul_le_mul_right _ hk)]
end Go.Proofs.YtikjcmhocihmcaaDoor
namespace Go.Proofs.YtikjcmhocihmcaaDoor
open Go Go.RowKit
attribute [local irreducible] sha256
theorem wp_alloc_as {T : TypeId} {cs : List Value} (hA : AllocAs T cs) {op : Oper} {a : Act} {w : World} {K : Act → World → Prop} {Q : Exit → Act → World → Prop} (ho : op.op = .alloc T)
    (h : ∀ w' g, w' = w.alloc (.cells cs.toArray T) → g = w.heap.size → K (a.put op.dst (.pointer (some ⟨g, 0, none⟩))) w') : Oper.wp Tryd.prog op a w K Q := by
  unfold Oper.wp
  rw [hA w a.eval op ho]
  exact h _ _ rfl rfl
theorem asSl : AllocAs 24 [.slice none 0 0] := by
  intro w ev op ho
  unfold execOp
  simp only [ho]
  kernel_rfl
theorem own_sl {B : Nat} {e : TypeId} {w : World} {v : Value} {xs : List Value} (h : Own B e w v xs) : ∃ a n c, v = .slice a n c := by
  obtain ⟨ao, cap, rfl, _⟩ := h.rd.shape
  exact ⟨_, _, _, rfl⟩
theorem infoTk {t : TalkP} {i0 i1 sh : Value} : (Tryd.prog.info? 48).map (·.size) = some (t.vals i0 i1 sh).length := by
  show _ = some 8
  kernel_rfl
def secretB (t : TalkP) : List UInt8 := encInt t.sh ++ sha256 (hashIn t)
def keyB (t : TalkP) (ls : List UInt8) (c : UInt8) (n : Nat) : List UInt8 := (sha256 (secretB t ++ [c] ++ ls)).take n
def nil6 : List Value := [.slice none 0 0, .slice none 0 0, .slice none 0 0, .slice none 0 0, .slice none 0 0, .slice none 0 0]
/-- Where the keys' reckoning stands: the talk, the session, the result's room, the secret. -/
structure KS (w : World) (t : TalkP) (i0 i1 sh : Value) (ls : List UInt8) (g0 g1 g2 gs : Nat) (sec ses : Value) (wx : World) : Prop where
  q : Sqd wx
  c : Cub wx
  bk : Bks w wx [(g0, 48, t.vals i0 i1 sh), (g1, 24, [ses]), (g2, 55, nil6)]
  bs : Blk wx gs 24 [sec]
  rs : Rd wx sec (bys (secretB t))
  r1 : Rd wx ses (bys ls)
theorem KS.kp0 {w wx wy : World} {t : TalkP} {i0 i1 sh : Value} {ls : List UInt8} {g0 g1 g2 gs : Nat} {sec ses : Value} (h : KS w t i0 i1 sh ls g0 g1 g2 gs sec ses wx) (hk : Kp0 wx wy) : KS w t i0 i1 sh ls g0 g1 g2 gs sec ses wy :=
  ⟨h.q.kp0 hk, h.c.kp0 hk, h.bk.kp0 hk, h.bs.kp0 hk, h.rs.keep0 hk, h.r1.keep0 hk⟩
theorem KS.lt {w wx : World} {t : TalkP} {i0 i1 sh : Value} {ls : List UInt8} {g0 g1 g2 gs : Nat} {sec ses : Value} (h : KS w t i0 i1 sh ls g0 g1 g2 gs sec ses wx) : g2 < wx.heap.size := (Array.getElem?_eq_some_iff.1 (h.bk.at 2 rfl)).1
/-- A slice of a block of its own. -/
def RdK (w : World) (k n : Nat) (l : List UInt8) : Prop := Rd w (.slice (some ⟨k, 0, none⟩) n n) (bys l) ∧ k < w.heap.size
theorem RdK.keep {w w' : World} {k n : Nat} {l : List UInt8} (h : RdK w k n l) {S : Nat → Prop} (hk : Kp S w w') (hs : ¬ S k) : RdK w' k n l :=
  ⟨h.1.keep hk (fun b hb _ e => by have hb' : k = b := Option.some.inj hb; exact hs (hb' ▸ e)), Nat.lt_of_lt_of_le h.2 hk.size⟩
theorem RdK.keep0 {w w' : World} {k n : Nat} {l : List UInt8} (h : RdK w k n l) (hk : Kp0 w w') : RdK w' k n l := h.keep hk (fun h => h)
/-- The six keys, in blocks of their own from B on. -/
def KsM (B : Nat) (w : World) (t : TalkP) (ls : List UInt8) (cs : List Value) : Prop :=
  ∃ k1 k2 k3 k4 k5 k6 : Nat, cs = [.slice (some ⟨k1, 0, none⟩) 16 16, .slice (some ⟨k2, 0, none⟩) 16 16, .slice (some ⟨k3, 0, none⟩) 32 32, .slice (some ⟨k4, 0, none⟩) 16 16, .slice (some ⟨k5, 0, none⟩) 16 16, .slice (some ⟨k6, 0, none⟩) 32 32] ∧
    (RdK w k1 16 (keyB t ls 67 16) ∧ RdK w k2 16 (keyB t ls 65 16) ∧ RdK w k3 32 (keyB t ls 69 32) ∧ RdK w k4 16 (keyB t ls 68 16) ∧ RdK w k5 16 (keyB t ls 66 16) ∧ RdK w k6 32 (keyB t ls 70 32)) ∧
    (B ≤ k1 ∧ B ≤ k2 ∧ B ≤ k3 ∧ B ≤ k4 ∧ B ≤ k5 ∧ B ≤ k6)
theorem KsM.keep {B g : Nat} {w w' : World} {t : TalkP} {ls : List UInt8} {cs : List Value} (h : KsM B w t ls cs) (hk : Kp (fun b => b = g) w w') (hg : g < B ∨ w.heap.size ≤ g) : KsM B w' t ls cs := by
  obtain ⟨k1, k2, k3, k4, k5, k6, rfl, ⟨r1, r2, r3, r4, r5, r6⟩, b1, b2, b3, b4, b5, b6⟩ := h
  have l1 := r1.2
  have l2 := r2.2
  have l3 := r3.2
  have l4 := r4.2
  have l5 := r5.2
  have l6 := r6.2
  exact ⟨k1, k2, k3, k4, k5, k6, rfl, ⟨r1.keep hk (by omega), r2.keep hk (by omega), r3.keep hk (by omega), r4.keep hk (by omega), r5.keep hk (by omega), r6.keep hk (by omega)⟩, b1, b2, b3, b4, b5, b6⟩
theorem KsM.keep0 {B : Nat} {w w' : World} {t : TalkP} {ls : List UInt8} {cs : List Value} (h : KsM B w t ls cs) (hk : Kp0 w w') : KsM B w' t ls cs := by
  obtain ⟨k1, k2, k3, k4, k5, k6, rfl, ⟨r1, r2, r3, r4, r5, r6⟩, hb⟩ := h
  exact ⟨k1, k2, k3, k4, k5, k6, rfl, ⟨r1.keep0 hk, r2.keep0 hk, r3.keep0 hk, r4.keep0 hk, r5.keep0 hk, r6.keep0 hk⟩, hb⟩
theorem KsM.base {B C : Nat} {w : World} {t : TalkP} {ls : List UInt8} {cs : List Value} (h : KsM B w t ls cs) (hc : C ≤ B) : KsM C w t ls cs := by
  obtain ⟨k1, k2, k3, k4, k5, k6, rfl, hr, b1, b2, b3, b4, b5, b6⟩ := h
  exact ⟨k1, k2, k3, k4, k5, k6, rfl, hr, by omega, by omega, by omega, by omega, by omega, by omega⟩
theorem key2_any {w wx : World} {t : TalkP} {i0 i1 sh : Value} {ls : List UInt8} {g0 g1 g2 gs : Nat} {sec ses : Value} (h : KS w t i0 i1 sh ls g0 g1 g2 gs sec ses wx) (hl : (secretB t).length + 1 + ls.length ≤ 1000000000) (c : UInt8) (n : Nat) (z m : Int) (hz : (c.toNat : Int) = z) (hm : (n : Int) = m) (h32 : n ≤ 32) :
    Calls Tryd.prog 66 #[.int .u8 z, .int .i64 m, .pointer (some ⟨gs, 0, none⟩), .pointer (some ⟨g1, 0, none⟩)] wx fun e w' => ∃ k : Nat, e = .returned (.slice (some ⟨k, 0, none⟩) n n) ∧ RdK w' k n (keyB t ls c n) ∧ g2 < k ∧ KS w t i0 i1 sh ls g0 g1 g2 gs sec ses w' ∧ Kp0 wx w' := by
  subst hz hm
  refine (key1_any gs g1 sec ses (secretB t) ls c n wx h.q h.c h.bs (h.bk.at 1 rfl) h.rs h.r1 hl h32).mono ?_
  rintro e w' ⟨k, rfl, hge, hb, hk⟩
  exact ⟨k, rfl, ⟨rd_take hb (by rw [sha256_len]; exact h32) (Nat.le_refl _) (by omega), (Array.getElem?_eq_some_iff.1 hb).1⟩, Nat.lt_of_lt_of_le h.lt hge, h.kp0 hk, hk⟩
theorem infoKeys {a b c d e f : Value} : (Tryd.prog.info? 55).map (·.size) = some [a, b, c, d, e, f].length := by
  show _ = some 6
  kernel_rfl
set_option maxRecDepth 20000 in
set_option maxHeartbeats 4000000 in
theorem keys_any (t : TalkP) (i0 i1 sh sv : Value) (ls : List UInt8) (w : World) (hq : Sqd w) (hc : Cub w) (ht : TalkM w t i0 i1 sh) (hs : Rd w sv (bys ls)) (hl : t.size ≤ 100000000) (hsl : ls.length ≤ 100000000) :
    Calls Tryd.prog 29 #[.agg (t.vals i0 i1 sh).toArray, sv] w fun e w' => ∃ cs : List Value, e = .returned (.agg cs.toArray) ∧ KsM w.heap.size w' t ls cs ∧ Kp0 w w' := by
  have HQ := Lib.hid hq
  have HC := Lib.hid hc
  have HT := Lib.hid ht
  have HS := Lib.hid hs
  have HL := Lib.hid hl
  have HSL := Lib.hid hsl
  have HLS : Hid (([] : List UInt8).length + t.sh.length ≤ 700000000) := Lib.hid (by unfold TalkP.size at hl; simp only [List.length_nil]; omega)
  have HEL : Hid ((encInt t.sh).length ≤ 100000100) := Lib.hid (by
    have hs := stripZ_len t.sh
    have hg : (signed (stripZ t.sh)).length ≤ t.sh.length + 1 := by
      unfold signed
      split
      · simp only [List.length_cons]
        omega
      · omega
    unfold TalkP.size at hl
    unfold encInt
    rw [encText_len]
    omega)
  obtain ⟨sq, sc, rfl, -, -, -⟩ := hs.shapeB
  clear hq hc ht hs hl hsl
  go_enter Tryd.func29, Tryd.ntmps29
  go_upto_region 1 with (fail)
  have HB1 : Hid (Bks w (((w.alloc (.cells (t.vals i0 i1 sh).toArray 48)).alloc (.cells #[.slice sq ls.length sc] 24)).alloc (.cells nil6.toArray 55)) [(w.heap.size, 48, t.vals i0 i1 sh), (w.heap.size + 1, 24, [.slice sq ls.length sc]), (w.heap.size + 1 + 1, 55, nil6)]) :=
    Lib.hid ((((Bks.nil w).push 48 (t.vals i0 i1 sh) (g := w.heap.size) rfl).push 24 [.slice sq ls.length sc] (g := w.heap.size + 1) (by simp)).push 55 nil6 (g := w.heap.size + 1 + 1) (by simp))
  obtain ⟨w1, hw1⟩ : ∃ x, x = (((w.alloc (.cells (t.vals i0 i1 sh).toArray 48)).alloc (.cells #[.slice sq ls.length sc] 24)).alloc (.cells nil6.toArray 55)) := ⟨_, rfl⟩
  obtain ⟨g2, hg2⟩ : ∃ x, x = w.heap.size + 1 + 1 := ⟨_, rfl⟩
  obtain ⟨g1, hg1⟩ : ∃ x, x = w.heap.size + 1 := ⟨_, rfl⟩
  obtain ⟨g0, hg0⟩ : ∃ x, x = w.heap.size := ⟨_, rfl⟩
  rw [← hw1, ← hg2, ← hg1, ← hg0] at HB1
  rw [show (((w.alloc (Obj.cells (t.vals i0 i1 sh).toArray 48)).alloc (Obj.cells #[.slice sq ls.length sc] 24)).alloc (Obj.cells #[.slice none 0 0, .slice none 0 0, .slice none 0 0, .slice none 0 0, .slice none 0 0, .slice none 0 0] 55)) = w1 from hw1.symm, ← hg2, ← hg1, ← hg0]
  clear hw1 hg2 hg1 hg0
  go_cut [5] from 6 (fun s5 wc => ∃ (g : Nat) (ao : Option Addr) (n c : Nat), s5 = .pointer (some ⟨g, 0, none⟩) ∧ Hid (w1.heap.size ≤ g) ∧ Hid (Blk wc g 24 [.slice ao n c]) ∧ Hid (Rd wc (.slice ao n c) (bys (secretB t))) ∧ Hid (Kp0 w1 wc))
  case first =>
    refine wp_region_px 8 [7] (fun w' : World => Kp0 w1 w') (.quiet 0 (.quiet 1 (.quiet 3 (.two 2 (.two 4 (.two 5 (.eff 6 (.wall 7 .done)) 6 (.eff 5 (.wall 7 .done))) 6 (.eff 4 (.eff 5 (.wall 7 .done)))) 6 (.eff 2 (.eff 4 (.eff 5 (.wall 7 .done)))))))) (by kernel_rfl) (by kernel_rfl) (by kernel_rfl) (by kernel_rfl) (fun _ d _ _ _ h => by cases d <;> exact h) (Kp.refl _ _).drew ?_
    have HK : Hid (Kp0 w1 w1.drew) := Lib.hid (Kp.refl _ _).drew
    generalize w1.drew = v0 at HK ⊢
    iterate 2 (refine px_quiet (v := ?_) rfl (by rfl) (fun wq hwq => ?_) rfl ?_; rotate_left 1; (focus (have c7 := ((HB1.out.kp0 hwq).at 0 rfl).cellV 7 (v := sh) rfl; go_simp; try (with_reducible rfl); done)); try simp only [List.setIfInBounds_toArray, List.set_cons_zero, List.set_cons_succ])
    refine px_quiet (v := .agg (t.vals i0 i1 sh).toArray) rfl (by rfl) (fun wq hwq => ?_) rfl ?_
    focus exact run_load_blk 48 (.tmp 2) rfl g0 _ (t.vals i0 i1 sh) rfl ((HB1.out.kp0 hwq).at 0 rfl) _ Tryd.underlying48 rfl infoTk
    try simp only [List.setIfInBounds_toArray, List.set_cons_zero, List.set_cons_succ]
    refine ⟨px_one rfl (by rfl) (fun K hK => ?_), px_one rfl (by rfl) (fun K hK => ?_)⟩
    · skip
      go_simp
      refine (int_any (.slice none 0 0) sh [] t.sh v0 (Rd.nil _) (HT.out.kp0 (HB1.out.kp.tr HK.out)).r2 HLS.out).mono ?_
      rintro e v1 ⟨s2, rfl, ho, hk⟩
      rw [List.nil_append] at ho
      obtain ⟨a2, n2, c2, rfl⟩ := own_sl ho
      simp only []
      have HO : Hid (Own w1.heap.size 5 v1 (.slice a2 n2 c2) (bys (encInt t.sh))) := Lib.hid (ho.base HK.out.size)
      have HK := Lib.hid (HK.out.tr hk)
      clear ho hk
      refine hK (fun w' => Kp0 w1 w') _ _ (fun _ h => h) HK.out ?_
      clear hK K
      try simp only [List.setIfInBounds_toArray, List.set_cons_zero, List.set_cons_succ]
      refine ⟨px_one rfl (by rfl) (fun K hK => ?_), px_one rfl (by rfl) (fun K hK => ?_)⟩
      · skip
        go_simp
        refine (hash_any t i0 i1 sh v1 (HQ.out.kp0 (HB1.out.kp.tr HK.out)) (HC.out.kp0 (HB1.out.kp.tr HK.out)) (HT.out.kp0 (HB1.out.kp.tr HK.out)) HL.out).mono ?_
        rintro e v2 ⟨gh, rfl, hgh, hbh, hk⟩
        simp only []
        have HH := Lib.hid hbh
        have HO := Lib.hid (HO.out.keep0 hk)
        have HK := Lib.hid (HK.out.tr hk)
        clear hgh hbh hk
        refine hK (fun w' => Kp0 w1 w') _ _ (fun _ h => h) HK.out ?_
        clear hK K
        try simp only [List.setIfInBounds_toArray, List.set_cons_zero, List.set_cons_succ]
        refine ⟨px_one rfl (by rfl) (fun K hK => ?_), px_one rfl (by rfl) (fun K hK => ?_)⟩
        · skip
          refine wp_append_k (.tmp 9) (.tmp 11) 24 rfl Tryd.underlying24 infoU8 rfl (by decide) rfl HO.out ⟨gh, 0, none⟩ 32 32 (bys (sha256 (hashIn t))) rfl (by rw [bys_len, sha256_len]) (fun j u hj => by rw [Addr.add_lit, Nat.zero_add]; exact HH.out.cellV j hj) (bys_onesV _) (by rw [bys_len]; have := HEL.out; unfold maxLen; omega) (by rw [bys_len]; have := HEL.out; omega) HK.out.size ?_
          intro s3 v3 hoA hkA hbA hnA
          have ho : Own w1.heap.size 5 v3 s3 (bys (secretB t)) := by
            unfold secretB Own
            rw [bys_app, List.length_append, show (bys (sha256 (hashIn t))).length = 32 from by rw [bys_len, sha256_len]]
            exact hoA
          obtain ⟨a3, n3, c3, rfl⟩ := own_sl ho
          have hk0 : Kp0 w1 v3 := HK.out.trans hkA (fun _ _ h => h) (fun i hi e => by have := (HO.out.lt i e).1; omega)
          have HO := Lib.hid ho
          have HK := Lib.hid hk0
          clear hoA hkA hbA hnA ho hk0
          simp only [Act.put, List.getElem_toArray, List.getElem_cons_succ, List.getElem_cons_zero]
          refine hK (fun w' => Kp0 w1 w') _ _ (fun _ h => h) HK.out ?_
          clear hK K
          try simp only [List.setIfInBounds_toArray, List.set_cons_zero, List.set_cons_succ]
          refine px_eff rfl (by rfl) (fun K hK => ?_)
          refine wp_alloc_as asSl rfl ?_
          intro v4 g5 hw hg
          have hk : Kp0 v3 v4 := by rw [hw]; exact (Kp.refl _ _).alloc _
          have HG : Hid (Blk v4 g5 24 [.slice none 0 0] ∧ g5 < v4.heap.size) := Lib.hid ⟨by rw [hw, hg]; exact blk0 _ _ _, by rw [hw, hg]; simp⟩
          have HGB : Hid (w1.heap.size ≤ g5) := Lib.hid (by rw [hg]; exact HK.out.size)
          have HNV : Hid (∀ b, (Value.slice a3 n3 c3).ownBlock = some b → b ≠ g5) := Lib.hid (fun b hb => by have := (HO.out.lt b hb).2; omega)
          have HO := Lib.hid (HO.out.keep0 hk)
          have HK := Lib.hid (HK.out.tr hk)
          clear hw hg hk
          simp only [Act.put, List.getElem_toArray, List.getElem_cons_succ, List.getElem_cons_zero]
          refine hK (fun w' => Kp0 w1 w') _ _ (fun _ h => h) HK.out ?_
          clear hK K
          try simp only [List.setIfInBounds_toArray, List.set_cons_zero, List.set_cons_succ]
          refine px_wall rfl (by rfl) (fun K hK => ?_)
          have hf : v4.frozen? ⟨g5, 0, none⟩ = false := blk_frozen HG.out.1 0
          have hc : v4.cell? ⟨g5, 0, none⟩ = some (.slice none 0 0) := HG.out.1.cellV 0 rfl
          go_simp
          refine hK (fun _ => True) _ _ trivial (px_done ?_)
          clear hK K hf hc
          go_wp2
          go_meet
          case rel =>
            exact ⟨g5, a3, n3, c3, rfl, HGB, Lib.hid (HG.out.1.set' 0 _), Lib.hid (HO.out.rd.keep (S := fun b => b = g5) ((Kp.refl (fun b => b = g5) _).setCell (p := ⟨g5, 0, none⟩) (fun _ => rfl) _) (fun b hb _ e => HNV.out b hb e)), Lib.hid (HK.out.trans ((Kp.refl (fun b => b = g5) _).setCell (p := ⟨g5, 0, none⟩) (fun _ => rfl) _) (fun _ _ h => h) (fun i hi e => by have := HGB.out; omega))⟩
        · skip
          refine wp_alloc_as asSl rfl ?_
          intro v5 g5 hw hg
          have hk : Kp0 v2 v5 := by rw [hw]; exact (Kp.refl _ _).alloc _
          have HG : Hid (Blk v5 g5 24 [.slice none 0 0] ∧ g5 < v5.heap.size) := Lib.hid ⟨by rw [hw, hg]; exact blk0 _ _ _, by rw [hw, hg]; simp⟩
          have HGB : Hid (w1.heap.size ≤ g5) := Lib.hid (by rw [hg]; exact HK.out.size)
          have HNV : Hid (∀ b, (Value.slice a2 n2 c2).ownBlock = some b → b ≠ g5) := Lib.hid (fun b hb => by have := (HO.out.lt b hb).2; omega)
          have HO := Lib.hid (HO.out.keep0 hk)
          have HH := Lib.hid (HH.out.kp0 hk)
          have HK := Lib.hid (HK.out.tr hk)
          clear hw hg hk
          simp only [Act.put, List.getElem_toArray, List.getElem_cons_succ, List.getElem_cons_zero]
          refine hK (fun w' => Kp0 w1 w') _ _ (fun _ h => h) HK.out ?_
          clear hK K
          try simp only [List.setIfInBounds_toArray, List.set_cons_zero, List.set_cons_succ]
          refine px_eff rfl (by rfl) (fun K hK => ?_)
          refine wp_append_k (.tmp 9) (.tmp 11) 24 rfl Tryd.underlying24 infoU8 rfl (by decide) rfl HO.out ⟨gh, 0, none⟩ 32 32 (bys (sha256 (hashIn t))) rfl (by rw [bys_len, sha256_len]) (fun j u hj => by rw [Addr.add_lit, Nat.zero_add]; exact HH.out.cellV j hj) (bys_onesV _) (by rw [bys_len]; have := HEL.out; unfold maxLen; omega) (by rw [bys_len]; have := HEL.out; omega) HK.out.size ?_
          intro s3 v6 hoA hkA hbA hnA
          have ho : Own w1.heap.size 5 v6 s3 (bys (secretB t)) := by
            unfold secretB Own
            rw [bys_app, List.length_append, show (bys (sha256 (hashIn t))).length = 32 from by rw [bys_len, sha256_len]]
            exact hoA
          obtain ⟨a3, n3, c3, rfl⟩ := own_sl ho
          have hk0 : Kp0 w1 v6 := HK.out.trans hkA (fun _ _ h => h) (fun i hi e => by have := (HO.out.lt i e).1; omega)
          have HNV3 : Hid (∀ b, (Value.slice a3 n3 c3).ownBlock = some b → b ≠ g5) := Lib.hid (fun b hb => (hbA b hb).elim (HNV.out b) (fun h => by have := HG.out.2; omega))
          have HG : Hid (Blk v6 g5 24 [.slice none 0 0] ∧ g5 < v6.heap.size) := Lib.hid ⟨HG.out.1.keep hkA (fun e => HNV.out g5 e rfl), Nat.lt_of_lt_of_le HG.out.2 hkA.size⟩
          clear HNV
          have HNV := HNV3
          have HO := Lib.hid ho
          have HK := Lib.hid hk0
          clear hoA hkA hbA hnA ho hk0
          simp only [Act.put, List.getElem_toArray, List.getElem_cons_succ, List.getElem_cons_zero]
          refine hK (fun w' => Kp0 w1 w') _ _ (fun _ h => h) HK.out ?_
          clear hK K
          try simp only [List.setIfInBounds_toArray, List.set_cons_zero, List.set_cons_succ]
          refine px_wall rfl (by rfl) (fun K hK => ?_)
          have hf : v6.frozen? ⟨g5, 0, none⟩ = false := blk_frozen HG.out.1 0
          have hc : v6.cell? ⟨g5, 0, none⟩ = some (.slice none 0 0) := HG.out.1.cellV 0 rfl
          go_simp
          refine hK (fun _ => True) _ _ trivial (px_done ?_)
          clear hK K hf hc
          go_wp2
          go_meet
          case rel =>
            exact ⟨g5, a3, n3, c3, rfl, HGB, Lib.hid (HG.out.1.set' 0 _), Lib.hid (HO.out.rd.keep (S := fun b => b = g5) ((Kp.refl (fun b => b = g5) _).setCell (p := ⟨g5, 0, none⟩) (fun _ => rfl) _) (fun b hb _ e => HNV.out b hb e)), Lib.hid (HK.out.trans ((Kp.refl (fun b => b = g5) _).setCell (p := ⟨g5, 0, none⟩) (fun _ => rfl) _) (fun _ _ h => h) (fun i hi e => by have := HGB.out; omega))⟩
      · skip
        refine wp_alloc_as asSl rfl ?_
        intro v7 g5 hw hg
        have hk : Kp0 v1 v7 := by rw [hw]; exact (Kp.refl _ _).alloc _
        have HG : Hid (Blk v7 g5 24 [.slice none 0 0] ∧ g5 < v7.heap.size) := Lib.hid ⟨by rw [hw, hg]; exact blk0 _ _ _, by rw [hw, hg]; simp⟩
        have HGB : Hid (w1.heap.size ≤ g5) := Lib.hid (by rw [hg]; exact HK.out.size)
        have HNV : Hid (∀ b, (Value.slice a2 n2 c2).ownBlock = some b → b ≠ g5) := Lib.hid (fun b hb => by have := (HO.out.lt b hb).2; omega)
        have HO := Lib.hid (HO.out.keep0 hk)
        have HK := Lib.hid (HK.out.tr hk)
        clear hw hg hk
        simp only [Act.put, List.getElem_toArray, List.getElem_cons_succ, List.getElem_cons_zero]
        refine hK (fun w' => Kp0 w1 w') _ _ (fun _ h => h) HK.out ?_
        clear hK K
        try simp only [List.setIfInBounds_toArray, List.set_cons_zero, List.set_cons_succ]
        refine px_eff rfl (by rfl) (fun K hK => ?_)
        go_simp
        refine (hash_any t i0 i1 sh v7 (HQ.out.kp0 (HB1.out.kp.tr HK.out)) (HC.out.kp0 (HB1.out.kp.tr HK.out)) (HT.out.kp0 (HB1.out.kp.tr HK.out)) HL.out).mono ?_
        rintro e v8 ⟨gh, rfl, hgh, hbh, hk⟩
        simp only []
        have HH := Lib.hid hbh
        have HO := Lib.hid (HO.out.keep0 hk)
        have HG : Hid (Blk v8 g5 24 [.slice none 0 0] ∧ g5 < v8.heap.size) := Lib.hid ⟨HG.out.1.kp0 hk, Nat.lt_of_lt_of_le HG.out.2 hk.size⟩
        have HK := Lib.hid (HK.out.tr hk)
        clear hgh hbh hk
        refine hK (fun w' => Kp0 w1 w') _ _ (fun _ h => h) HK.out ?_
        clear hK K
        try simp only [List.setIfInBounds_toArray, List.set_cons_zero, List.set_cons_succ]
        refine px_eff rfl (by rfl) (fun K hK => ?_)
        refine wp_append_k (.tmp 9) (.tmp 11) 24 rfl Tryd.underlying24 infoU8 rfl (by decide) rfl HO.out ⟨gh, 0, none⟩ 32 32 (bys (sha256 (hashIn t))) rfl (by rw [bys_len, sha256_len]) (fun j u hj => by rw [Addr.add_lit, Nat.zero_add]; exact HH.out.cellV j hj) (bys_onesV _) (by rw [bys_len]; have := HEL.out; unfold maxLen; omega) (by rw [bys_len]; have := HEL.out; omega) HK.out.size ?_
        intro s3 v9 hoA hkA hbA hnA
        have ho : Own w1.heap.size 5 v9 s3 (bys (secretB t)) := by
          unfold secretB Own
          rw [bys_app, List.length_append, show (bys (sha256 (hashIn t))).length = 32 from by rw [bys_len, sha256_len]]
          exact hoA
        obtain ⟨a3, n3, c3, rfl⟩ := own_sl ho
        have hk0 : Kp0 w1 v9 := HK.out.trans hkA (fun _ _ h => h) (fun i hi e => by have := (HO.out.lt i e).1; omega)
        have HNV3 : Hid (∀ b, (Value.slice a3 n3 c3).ownBlock = some b → b ≠ g5) := Lib.hid (fun b hb => (hbA b hb).elim (HNV.out b) (fun h => by have := HG.out.2; omega))
        have HG : Hid (Blk v9 g5 24 [.slice none 0 0] ∧ g5 < v9.heap.size) := Lib.hid ⟨HG.out.1.keep hkA (fun e => HNV.out g5 e rfl), Nat.lt_of_lt_of_le HG.out.2 hkA.size⟩
        clear HNV
        have HNV := HNV3
        have HO := Lib.hid ho
        have HK := Lib.hid hk0
        clear hoA hkA hbA hnA ho hk0
        simp only [Act.put, List.getElem_toArray, List.getElem_cons_succ, List.getElem_cons_zero]
        refine hK (fun w' => Kp0 w1 w') _ _ (fun _ h => h) HK.out ?_
        clear hK K
        try simp only [List.setIfInBounds_toArray, List.set_cons_zero, List.set_cons_succ]
        refine px_wall rfl (by rfl) (fun K hK => ?_)
        have hf : v9.frozen? ⟨g5, 0, none⟩ = false := blk_frozen HG.out.1 0
        have hc : v9.cell? ⟨g5, 0, none⟩ = some (.slice none 0 0) := HG.out.1.cellV 0 rfl
        go_simp
        refine hK (fun _ => True) _ _ trivial (px_done ?_)
        clear hK K hf hc
        go_wp2
        go_meet
        case rel =>
          exact ⟨g5, a3, n3, c3, rfl, HGB, Lib.hid (HG.out.1.set' 0 _), Lib.hid (HO.out.rd.keep (S := fun b => b = g5) ((Kp.refl (fun b => b = g5) _).setCell (p := ⟨g5, 0, none⟩) (fun _ => rfl) _) (fun b hb _ e => HNV.out b hb e)), Lib.hid (HK.out.trans ((Kp.refl (fun b => b = g5) _).setCell (p := ⟨g5, 0, none⟩) (fun _ => rfl) _) (fun _ _ h => h) (fun i hi e => by have := HGB.out; omega))⟩
    · skip
      refine wp_alloc_as asSl rfl ?_
      intro v10 g5 hw hg
      have hk : Kp0 v0 v10 := by rw [hw]; exact (Kp.refl _ _).alloc _
      have HG : Hid (Blk v10 g5 24 [.slice none 0 0] ∧ g5 < v10.heap.size) := Lib.hid ⟨by rw [hw, hg]; exact blk0 _ _ _, by rw [hw, hg]; simp⟩
      have HGB : Hid (w1.heap.size ≤ g5) := Lib.hid (by rw [hg]; exact HK.out.size)
      have HK := Lib.hid (HK.out.tr hk)
      clear hw hg hk
      simp only [Act.put, List.getElem_toArray, List.getElem_cons_succ, List.getElem_cons_zero]
      refine hK (fun w' => Kp0 w1 w') _ _ (fun _ h => h) HK.out ?_
      clear hK K
      try simp only [List.setIfInBounds_toArray, List.set_cons_zero, List.set_cons_succ]
      refine px_eff rfl (by rfl) (fun K hK => ?_)
      go_simp
      refine (int_any (.slice none 0 0) sh [] t.sh v10 (Rd.nil _) (HT.out.kp0 (HB1.out.kp.tr HK.out)).r2 HLS.out).mono ?_
      rintro e v11 ⟨s2, rfl, ho, hk⟩
      rw [List.nil_append] at ho
      obtain ⟨a2, n2, c2, rfl⟩ := own_sl ho
      simp only []
      have HNV : Hid (∀ b, (Value.slice a2 n2 c2).ownBlock = some b → b ≠ g5) := Lib.hid (fun b hb => by have h1 := (ho.lt b hb).1; have h2 := HG.out.2; omega)
      have HO : Hid (Own w1.heap.size 5 v11 (.slice a2 n2 c2) (bys (encInt t.sh))) := Lib.hid (ho.base HK.out.size)
      have HG : Hid (Blk v11 g5 24 [.slice none 0 0] ∧ g5 < v11.heap.size) := Lib.hid ⟨HG.out.1.kp0 hk, Nat.lt_of_lt_of_le HG.out.2 hk.size⟩
      have HK := Lib.hid (HK.out.tr hk)
      clear ho hk
      refine hK (fun w' => Kp0 w1 w') _ _ (fun _ h => h) HK.out ?_
      clear hK K
      try simp only [List.setIfInBounds_toArray, List.set_cons_zero, List.set_cons_succ]
      refine px_eff rfl (by rfl) (fun K hK => ?_)
      go_simp
      refine (hash_any t i0 i1 sh v11 (HQ.out.kp0 (HB1.out.kp.tr HK.out)) (HC.out.kp0 (HB1.out.kp.tr HK.out)) (HT.out.kp0 (HB1.out.kp.tr HK.out)) HL.out).mono ?_
      rintro e v12 ⟨gh, rfl, hgh, hbh, hk⟩
      simp only []
      have HH := Lib.hid hbh
      have HO := Lib.hid (HO.out.keep0 hk)
      have HG : Hid (Blk v12 g5 24 [.slice none 0 0] ∧ g5 < v12.heap.size) := Lib.hid ⟨HG.out.1.kp0 hk, Nat.lt_of_lt_of_le HG.out.2 hk.size⟩
      have HK := Lib.hid (HK.out.tr hk)
      clear hgh hbh hk
      refine hK (fun w' => Kp0 w1 w') _ _ (fun _ h => h) HK.out ?_
      clear hK K
      try simp only [List.setIfInBounds_toArray, List.set_cons_zero, List.set_cons_succ]
      refine px_eff rfl (by rfl) (fun K hK => ?_)
      refine wp_append_k (.tmp 9) (.tmp 11) 24 rfl Tryd.underlying24 infoU8 rfl (by decide) rfl HO.out ⟨gh, 0, none⟩ 32 32 (bys (sha256 (hashIn t))) rfl (by rw [bys_len, sha256_len]) (fun j u hj => by rw [Addr.add_lit, Nat.zero_add]; exact HH.out.cellV j hj) (bys_onesV _) (by rw [bys_len]; have := HEL.out; unfold maxLen; omega) (by rw [bys_len]; have := HEL.out; omega) HK.out.size ?_
      intro s3 v13 hoA hkA hbA hnA
      have ho : Own w1.heap.size 5 v13 s3 (bys (secretB t)) := by
        unfold secretB Own
        rw [bys_app, List.length_append, show (bys (sha256 (hashIn t))).length = 32 from by rw [bys_len, sha256_len]]
        exact hoA
      obtain ⟨a3, n3, c3, rfl⟩ := own_sl ho
      have hk0 : Kp0 w1 v13 := HK.out.trans hkA (fun _ _ h => h) (fun i hi e => by have := (HO.out.lt i e).1; omega)
      have HNV3 : Hid (∀ b, (Value.slice a3 n3 c3).ownBlock = some b → b ≠ g5) := Lib.hid (fun b hb => (hbA b hb).elim (HNV.out b) (fun h => by have := HG.out.2; omega))
      have HG : Hid (Blk v13 g5 24 [.slice none 0 0] ∧ g5 < v13.heap.size) := Lib.hid ⟨HG.out.1.keep hkA (fun e => HNV.out g5 e rfl), Nat.lt_of_lt_of_le HG.out.2 hkA.size⟩
      clear HNV
      have HNV := HNV3
      have HO := Lib.hid ho
      have HK := Lib.hid hk0
      clear hoA hkA hbA hnA ho hk0
      simp only [Act.put, List.getElem_toArray, List.getElem_cons_succ, List.getElem_cons_zero]
      refine hK (fun w' => Kp0 w1 w') _ _ (fun _ h => h) HK.out ?_
      clear hK K
      try simp only [List.setIfInBounds_toArray, List.set_cons_zero, List.set_cons_succ]
      refine px_wall rfl (by rfl) (fun K hK => ?_)
      have hf : v13.frozen? ⟨g5, 0, none⟩ = false := blk_frozen HG.out.1 0
      have hc : v13.cell? ⟨g5, 0, none⟩ = some (.slice none 0 0) := HG.out.1.cellV 0 rfl
      go_simp
      refine hK (fun _ => True) _ _ trivial (px_done ?_)
      clear hK K hf hc
      go_wp2
      go_meet
      case rel =>
        exact ⟨g5, a3, n3, c3, rfl, HGB, Lib.hid (HG.out.1.set' 0 _), Lib.hid (HO.out.rd.keep (S := fun b => b = g5) ((Kp.refl (fun b => b = g5) _).setCell (p := ⟨g5, 0, none⟩) (fun _ => rfl) _) (fun b hb _ e => HNV.out b hb e)), Lib.hid (HK.out.trans ((Kp.refl (fun b => b = g5) _).setCell (p := ⟨g5, 0, none⟩) (fun _ => rfl) _) (fun _ _ h => h) (fun i hi e => by have := HGB.out; omega))⟩
  case rest =>
    obtain ⟨gs, ao, n, c, rfl, HGS, HBS, HRS, HKC⟩ := hcut
    have HKS : Hid (KS w t i0 i1 sh ls g0 g1 g2 gs (.slice ao n c) (.slice sq ls.length sc) wc) := Lib.hid ⟨HQ.out.kp0 (HB1.out.kp.tr HKC.out), HC.out.kp0 (HB1.out.kp.tr HKC.out), HB1.out.kp0 HKC.out, HBS.out, HRS.out, HS.out.keep0 (HB1.out.kp.tr HKC.out)⟩
    have HLL : Hid ((secretB t).length + 1 + ls.length ≤ 1000000000) := Lib.hid (by
      have := HEL.out
      have := HSL.out
      unfold secretB
      rw [List.length_append, sha256_len]
      omega)
    have T0 : Hid True := Lib.hid trivial
    clear HB1 HBS HRS HGS HKC
    go_wp2_with (first
      | (go_at_call 66
         clear T0
         refine (key2_any HKS.out HLL.out 65 16 65 16 (by decide) (by decide) (by decide)).mono ?_
         rintro e x0 ⟨k2, rfl, hr, hg, hs, hk⟩
         have HR2 := Lib.hid hr
         have HN2 := Lib.hid hg
         have HKS := Lib.hid hs
         
         have T1 : Hid True := Lib.hid trivial
         clear hr hg hs hk)
      | (go_at_call 66
         clear T1
         refine (key2_any HKS.out HLL.out 67 16 67 16 (by decide) (by decide) (by decide)).mono ?_
         rintro e x1 ⟨k1, rfl, hr, hg, hs, hk⟩
         have HR1 := Lib.hid hr
         have HN1 := Lib.hid hg
         have HKS := Lib.hid hs
         have HR2 := Lib.hid (HR2.out.keep0 hk);
         have T2 : Hid True := Lib.hid trivial
         clear hr hg hs hk)
      | (go_at_call 66
         clear T2
         refine (key2_any HKS.out HLL.out 69 32 69 32 (by decide) (by decide) (by decide)).mono ?_
         rintro e x2 ⟨k3, rfl, hr, hg, hs, hk⟩
         have HR3 := Lib.hid hr
         have HN3 := Lib.hid hg
         have HKS := Lib.hid hs
         have HR2 := Lib.hid (HR2.out.keep0 hk); have HR1 := Lib.hid (HR1.out.keep0 hk);
         have T3 : Hid True := Lib.hid trivial
         clear hr hg hs hk)
      | (go_at_call 66
         clear T3
         refine (key2_any HKS.out HLL.out 66 16 66 16 (by decide) (by decide) (by decide)).mono ?_
         rintro e x3 ⟨k5, rfl, hr, hg, hs, hk⟩
         have HR5 := Lib.hid hr
         have HN5 := Lib.hid hg
         have HKS := Lib.hid hs
         have HR2 := Lib.hid (HR2.out.keep0 hk); have HR1 := Lib.hid (HR1.out.keep0 hk); have HR3 := Lib.hid (HR3.out.keep0 hk);
         have T4 : Hid True := Lib.hid trivial
         clear hr hg hs hk)
      | (go_at_call 66
         clear T4
         refine (key2_any HKS.out HLL.out 68 16 68 16 (by decide) (by decide) (by decide)).mono ?_
         rintro e x4 ⟨k4, rfl, hr, hg, hs, hk⟩
         have HR4 := Lib.hid hr
         have HN4 := Lib.hid hg
         have HKS := Lib.hid hs
         have HR2 := Lib.hid (HR2.out.keep0 hk); have HR1 := Lib.hid (HR1.out.keep0 hk); have HR3 := Lib.hid (HR3.out.keep0 hk); have HR5 := Lib.hid (HR5.out.keep0 hk);
         have T5 : Hid True := Lib.hid trivial
         clear hr hg hs hk)
      | (go_at_call 66
         clear T5
         refine (key2_any HKS.out HLL.out 70 32 70 32 (by decide) (by decide) (by decide)).mono ?_
         rintro e x5 ⟨k6, rfl, hr, hg, hs, hk⟩
         have HR6 := Lib.hid hr
         have HN6 := Lib.hid hg
         have HKS := Lib.hid hs
         have HR2 := Lib.hid (HR2.out.keep0 hk); have HR1 := Lib.hid (HR1.out.keep0 hk); have HR3 := Lib.hid (HR3.out.keep0 hk); have HR5 := Lib.hid (HR5.out.keep0 hk); have HR4 := Lib.hid (HR4.out.keep0 hk);
         have T6 : Hid True := Lib.hid trivial
         clear hr hg hs hk)
      | (refine wl_store_blk rfl 55 (.tmp 4) (.tmp 28) rfl g2 _ nil6 [.slice (some ⟨k1, 0, none⟩) 16 16, .slice (some ⟨k2, 0, none⟩) 16 16, .slice (some ⟨k3, 0, none⟩) 32 32, .slice (some ⟨k4, 0, none⟩) 16 16, .slice (some ⟨k5, 0, none⟩) 16 16, .slice (some ⟨k6, 0, none⟩) 32 32] rfl rfl (HKS.out.bk.at 2 rfl) infoKeys rfl (by intro u hu; simp only [List.mem_cons, List.not_mem_nil, or_false] at hu; rcases hu with rfl | rfl | rfl | rfl | rfl | rfl <;> rfl) ?_
         intro x7 hA hK
         have HB7 := Lib.hid (HKS.out.bk.store 2 rfl hA hK)
         have HK7 := Lib.hid hK
         clear hA hK))
    refine ret_blk 4 55 55 g2 [.slice (some ⟨k1, 0, none⟩) 16 16, .slice (some ⟨k2, 0, none⟩) 16 16, .slice (some ⟨k3, 0, none⟩) 32 32, .slice (some ⟨k4, 0, none⟩) 16 16, .slice (some ⟨k5, 0, none⟩) 16 16, .slice (some ⟨k6, 0, none⟩) 32 32] _ rfl rfl (HB7.out.at 2 rfl) Tryd.underlying55 rfl infoKeys rfl ?_
    have hge : w.heap.size ≤ g2 := HB7.out.ge 2 (g2, _, _) rfl
    have n1 := HN1.out
    have n2 := HN2.out
    have n3 := HN3.out
    have n4 := HN4.out
    have n5 := HN5.out
    have n6 := HN6.out
    exact ⟨_, rfl, ⟨k1, k2, k3, k4, k5, k6, rfl, ⟨HR1.out.keep HK7.out (by omega), HR2.out.keep HK7.out (by omega), HR3.out.keep HK7.out (by omega), HR4.out.keep HK7.out (by omega), HR5.out.keep HK7.out (by omega), HR6.out.keep HK7.out (by omega)⟩, by omega, by omega, by omega, by omega, by omega, by omega⟩, HB7.out.kp⟩
end Go.Proofs.YtikjcmhocihmcaaDoor
