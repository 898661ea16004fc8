/- Package digest: a key's block, a mask, a draw. Package digest: a draw; a key's block. Package digest: the code of parts under a key; whether two are the same. Package digest: whether two texts are the same. -/
import Derived.Test.YtnbfedmecmdjlaaDoorGf
import Derived.Lib.AppendStr
namespace Go.Proofs.YtnbfedmecmdjlaaDoor
open Go Go.RowKit
theorem u8_ofInt (a : UInt8) : BitVec.ofInt 8 (a.toNat : Int) = a.toBitVec := by
  rw [BitVec.ofInt_natCast]
  exact BitVec.ofNat_toNat _ _ |>.trans (BitVec.setWidth_eq _)
theorem wrap8 (n : Nat) (h : n < 256) : IntKind.u8.wrap (n : Int) = (n : Int) := by
  rw [IntKind.wrap_u8]; omega
theorem u8bx (x y : UInt8) : bits .xor .u8 (x.toNat : Int) (y.toNat : Int) = ((x ^^^ y).toNat : Int) := by
  show IntKind.u8.wrap ((BitVec.ofInt 8 (x.toNat : Int) ^^^ BitVec.ofInt 8 (y.toNat : Int)).toNat : Int) = _
  rw [u8_ofInt, u8_ofInt, wrap8 _ (BitVec.isLt _)]
  rfl
theorem u8bo (x y : UInt8) : bits .or .u8 (x.toNat : Int) (y.toNat : Int) = ((x ||| y).toNat : Int) := by
  show IntKind.u8.wrap ((BitVec.ofInt 8 (x.toNat : Int) ||| BitVec.ofInt 8 (y.toNat : Int)).toNat : Int) = _
  rw [u8_ofInt, u8_ofInt, wrap8 _ (BitVec.isLt _)]
  rfl
def mxB (m x : UInt8) : UInt8 := x ^^^ m
theorem mxB_val (m x : UInt8) : bits .xor .u8 (x.toNat : Int) (m.toNat : Int) = ((mxB m x).toNat : Int) := u8bx x m
/-- A key's block under a mask. -/
def maskB (m : UInt8) (l : List UInt8) : List UInt8 := l.map (mxB m)
theorem maskB_len (m : UInt8) (l : List UInt8) : (maskB m l).length = l.length := by simp [maskB]
theorem infoB64 {l : List UInt8} (h : l.length = 64) : (Tryd.prog.info? 103).map (·.size) = some (bys l).length := by
  rw [bys_len, h]
  kernel_rfl
set_option maxRecDepth 20000 in
set_option maxHeartbeats 8000000 in
theorem masked_any (l : List UInt8) (m : UInt8) (w : World) (hl : l.length = 64) :
    Calls Tryd.prog 58 #[.agg (bys l).toArray, .int .u8 (m.toNat : Int)] w fun e w' => ∃ g, e = .returned (.slice (some ⟨g, 0, none⟩) 64 64) ∧ Blk w' g 103 (bys (maskB m l)) ∧ w.heap.size ≤ g ∧ Kp0 w w' := by
  obtain ⟨L, hL⟩ : ∃ L, L = maskB m l := ⟨_, rfl⟩
  have HST : Hid (∀ k x, l[k]? = some x → (upT k l L)[k]? = some x ∧ (upT k l L).set k (mxB m x) = upT (k + 1) l L) := Lib.hid (fun k x hx => upT_step (by rw [hL, maskB_len]) hx (by rw [hL]; simp [maskB, hx]))
  have HLL : Hid (L.length = 64) := Lib.hid (by rw [hL, maskB_len, hl])
  have HL := Lib.hid hl
  rw [← hL]
  clear hL hl
  go_enter Tryd.func58, Tryd.ntmps58
  go_upto_region 1 with (fail)
  have HB1 : Hid (Bks w (w.alloc (.cells (bys l).toArray 103)) [(w.heap.size, 103, bys l)]) := Lib.hid ((Bks.nil w).push 103 (bys l) rfl)
  generalize w.alloc (.cells (bys l).toArray 103) = w1 at HB1 ⊢
  go_wp2
  go_loopg [6, 5] 64 (fun gg i _ wr => ∃ (k : Nat), i = .int .i64 k ∧ k ≤ 64 ∧ gg = 64 - k ∧ Bks w wr [(w.heap.size, 103, bys (upT k l L))])
  case atStart => exact ⟨0, rfl, by omega, rfl, by rw [upT_zero]; exact HB1.out⟩
  case round =>
    obtain ⟨k, rfl, hk, rfl, hr⟩ := hrel
    have HB3 := Lib.hid hr
    clear hr HB1
    by_cases h : k < 64
    · have hx : l[k]? = some (l.getD k 0) := getD_some (by rw [HL.out]; exact h) 0
      generalize l.getD k 0 = x at hx
      obtain ⟨s1, s2⟩ := HST.out k x hx
      have hcx := (HB3.out.at 0 rfl).cellV k (bys_getV s1)
      have hfx := blk_frozen (HB3.out.at 0 rfl) k
      have hv := mxB_val m x
      have hk8 : (k : Int) < 64 := by omega
      have HS := Lib.hid s2
      have HK := Lib.hid h
      clear s1 s2 hx h
      go_wp2
      have hko := HK.out
      go_roundg (64 - (k + 1))
      case measure => omega
      case rel =>
        refine ⟨k + 1, by go_num, by omega, rfl, ?_⟩
        have hx := HB3.out.set 0 rfl k (.int .u8 ((mxB m x).toNat : Int))
        rw [bys_setV, HS.out] at hx
        exact hx
    · obtain rfl : k = 64 := by omega
      rw [upT_all (by rw [HL.out]; exact Nat.le_refl _) (by rw [HLL.out]; exact Nat.le_refl _)] at HB3
      clear h hk HST
      go_wp2
      go_ret
      exact ⟨_, rfl, HB3.out.at 0 rfl, Nat.le_refl _, HB3.out.kp⟩
end Go.Proofs.YtnbfedmecmdjlaaDoor
namespace Go.Proofs.YtnbfedmecmdjlaaDoor
open Go Go.RowKit
/-- Draw n of a seed. -/
def drawB (s : List UInt8) (n : Nat) : List UInt8 := sha256 (s ++ be8 n)
theorem drawB_len (s : List UInt8) (n : Nat) : (drawB s n).length = 32 := sha256_len _
/-- Two parts. -/
theorem rows_two {w : World} {v1 v2 : Value} {l1 l2 : List UInt8} (h1 : Rd w v1 (bys l1)) (h2 : Rd w v2 (bys l2)) (b1 : l1.length ≤ 140737488351232) (b2 : l2.length ≤ 140737488351232) : RowsB w [v1, v2] [l1, l2] := by
  refine ⟨rfl, fun i v hv => ?_⟩
  match i, hv with
  | 0, hv => simp at hv; subst hv; exact ⟨l1, rfl, h1, b1⟩
  | 1, hv => simp at hv; subst hv; exact ⟨l2, rfl, h2, b2⟩
theorem rows_one {w : World} {v1 : Value} {l1 : List UInt8} (h1 : Rd w v1 (bys l1)) (b1 : l1.length ≤ 140737488351232) : RowsB w [v1] [l1] := by
  refine ⟨rfl, fun i v hv => ?_⟩
  match i, hv with
  | 0, hv => simp at hv; subst hv; exact ⟨l1, rfl, h1, b1⟩
theorem RowsB.there {w : World} {vs : List Value} {ls : List (List UInt8)} (h : RowsB w vs ls) : ThereP w vs ls := by
  intro i v l hv hl h0 b hb
  obtain ⟨l', h1, h2, _⟩ := h.2 i v hv
  rw [hl] at h1
  obtain rfl := Option.some.inj h1
  exact rd_own2 h2 h0 b hb
theorem RowsB.keep0 {w w' : World} {vs : List Value} {ls : List (List UInt8)} (h : RowsB w vs ls) (hk : Kp0 w w') : RowsB w' vs ls :=
  ⟨h.1, fun i v hv => by obtain ⟨l, h1, h2, h3⟩ := h.2 i v hv; exact ⟨l, h1, h2.keep0 hk, h3⟩⟩
theorem Rd.there {w : World} {v : Value} {vs : List Value} (h : Rd w v vs) (h0 : 0 < vs.length) : ∀ b, v.ownBlock = some b → b < w.heap.size := by
  obtain ⟨b0, o, cap, rfl, _, _, hc⟩ := h.pos h0
  intro b hb
  obtain rfl : b0 = b := Option.some.inj hb
  exact World.block_lt_of_cell? w _ (hc 0 h0)
/-- The small hash of any parts. -/
theorem small_of (pv : Value) (vs : List Value) (ls : List (List UInt8)) (w : World) (hq : Sqd w) (hc : Cub w) (hp : Rd w pv vs) (hr : RowsB w vs ls) (hl : ls.flatten.length ≤ 900000000000000) :
    Calls Tryd.prog 54 #[pv] w fun e w' => e = .returned (.agg (bys (sha256 ls.flatten)).toArray) ∧ Kp0 w w' :=
  small_any pv vs ls w hq hc hp hr hr.there (fun h => hp.there h) hl
theorem rdSlice (w : World) (cs : List Value) (n : Nat) (e : TypeId) (hn : cs.length = n) (hm : n ≤ 9223372036854775807) : Rd (w.alloc (.cells cs.toArray e)) (.slice (some ⟨w.heap.size, 0, none⟩) n n) cs := by
  have h := Rd.lit w cs.toArray e (0, 0) n (by simp [hn]) hm
  simpa using h
attribute [local irreducible] sha256
set_option maxRecDepth 20000 in
set_option maxHeartbeats 8000000 in
theorem draw_any (s : ByteArray) (n : Nat) (w : World) (hq : Sqd w) (hc : Cub w) (hs : s.size ≤ 140737488351232) (hn : n < 18446744073709551616) :
    Calls Tryd.prog 38 #[.string s, .int .u64 (n : Int)] w fun e w' => e = .returned (.agg (bys (drawB s.toList n)).toArray) ∧ Kp0 w w' := by
  have HQ := Lib.hid hq
  have HC := Lib.hid hc
  have HS := Lib.hid hs
  have HSL := Lib.hid (size_toList s)
  clear hq hc hs
  go_enter Tryd.func38, Tryd.ntmps38
  go_upto_region 1 with (refine wl_alloc_as asB32 rfl rfl ?_
                         intro w1 g4 hw hg
                         have HB1 : Hid (Bks w w1 [(g4, 26, bys zb32)]) := Lib.hid (by rw [hw]; exact (Bks.nil w).push 26 (bys zb32) hg)
                         clear hw hg)
  simp only [Act.put]
  go_upto_region 2 with (first
    | (go_at_call 53
       refine (be_any n _ hn).mono ?_
       rintro e w3 ⟨rfl, hk⟩
       have HB3 := Lib.hid (HB1.out.kp0 hk)
       clear hk)
    | (refine wl_alloc_as asB8 rfl rfl ?_
       intro w4 g5 hw hg
       have HB4 : Hid (Bks w w4 [(g4, 26, bys zb32), (g5, 96, bys zb8)]) := Lib.hid (by rw [hw]; exact HB3.out.push 96 (bys zb8) hg)
       clear hw hg)
    | (refine wl_store_blk rfl 96 (.tmp 5) (.tmp 7) rfl g5 _ (bys zb8) (bys (be8 n)) rfl rfl (HB4.out.at 1 rfl) (infoB8 (be8_len n)) (len_of (T := 96) (infoB8 (l := zb8) rfl) (infoB8 (be8_len n))) (bys_onesV _) ?_
       intro w5 hA hK
       have HB5 : Hid (Bks w w5 [(g4, 26, bys zb32), (g5, 96, bys (be8 n))]) := Lib.hid (HB4.out.store 1 rfl hA hK)
       clear hA hK))
  simp only [Act.put]
  clear HB1 HB3 HB4
  have HSZ5 : Hid (g5 < w5.heap.size) := Lib.hid (HB5.out.at 1 rfl).lt
  go_wp2_with (first
    | (refine wl_bytes_of_str rfl (.tmp 8) 9 32 5 rfl Tryd.underlying9 Tryd.underlying32 Tryd.underlying5 s rfl (by have := HS.out; omega) ?_
       intro cap w6 hrd hg
       have HR6 := Lib.hid hrd
       have HK6 : Hid (Kp0 w5 w6) := Lib.hid ((Kp.refl _ _).grown hg (by simp))
       clear hrd hg)
    | (go_at_call 54
       refine (small_of _ [.slice (some ⟨w5.heap.size, 0, none⟩) s.size cap, .slice (some ⟨g5, 0, none⟩) 8 8] [s.toList, be8 n] _ (HQ.out.kp0 ((HB5.out.kp.tr HK6.out).alloc _)) (HC.out.kp0 ((HB5.out.kp.tr HK6.out).alloc _)) (rdSlice w6 _ 2 32 rfl (by decide)) (rows_two (HR6.out.alloc _) (rd_blk ((HB5.out.kp0 (HK6.out.alloc _)).at 1 rfl) (be8_len n)) (by rw [HSL.out]; exact HS.out) (by rw [be8_len]; decide)) (by simp only [List.flatten_cons, List.flatten_nil, List.append_nil, List.length_append, be8_len, HSL.out]; have := HS.out; omega)).mono ?_
       rintro e w7 ⟨rfl, hk⟩
       have HB7 := Lib.hid (HB5.out.kp0 ((HK6.out.alloc _).tr hk))
       have HSD : Hid (sha256 [s.toList, be8 n].flatten = drawB s.toList n) := Lib.hid (by unfold drawB; simp)
       rw [HSD.out]
       clear hk)
    | (refine wl_store_blk rfl 26 (.tmp 4) (.tmp 12) rfl g4 _ (bys zb32) (bys (drawB s.toList n)) rfl rfl (HB7.out.at 0 rfl) (infoB32 (drawB_len _ _)) (len_of (T := 26) (infoB32 (l := zb32) rfl) (infoB32 (drawB_len s.toList n))) (bys_onesV _) ?_
       intro w8 hA hK
       have HB8 := Lib.hid (HB7.out.store 0 rfl hA hK)
       clear hA hK))
  refine ret_blk 4 26 26 g4 (bys (drawB s.toList n)) _ rfl rfl (HB8.out.at 0 rfl) Tryd.underlying26 rfl (infoB32 (drawB_len _ _)) rfl ?_
  exact ⟨rfl, HB8.out.kp⟩
end Go.Proofs.YtnbfedmecmdjlaaDoor
namespace Go.Proofs.YtnbfedmecmdjlaaDoor
open Go Go.RowKit
theorem wl_copy_blk {P : Program} {ops : Array Oper} {rest : List Oper} {w : World} {op : Oper} {a : Act} {Q : Exit → Act → World → Prop} (hgd : op.guard = none)
    (x y : Operand) (dT sT : TypeId) (ho : op.op = .call { callee := .builtin .copy, args := #[x, y], argTypes := #[dT, sT] })
    {elem T : TypeId} {g o n cap m c : Nat} {ad : Addr} {cs ds : List Value} (hu : P.underlying dT = some (.slice elem)) (hs : (P.info? elem).map (·.size) = some 1)
    (hx : a.eval x = .slice (some ⟨g, o, none⟩) n cap) (hy : a.eval y = .slice (some ad) m c) (hB : Blk w g T cs) (hn : ds.length = Nat.min m n)
    (hsrc : ∀ (j : Nat) (v : Value), ds[j]? = some v → w.cell? (ad.add j) = some v) (hfit : o + ds.length ≤ cs.length) (h1 : Ones ds)
    (h : ∀ w', Blk w' g T (cs.take o ++ ds ++ cs.drop (o + ds.length)) → Kp (fun b => b = g) w w' → wpList P ops Q rest (a.put op.dst (goInt ds.length)) w') : wpList P ops Q (op :: rest) a w :=
  wpList_plain hgd fun _ hK => wp_copy_blk x y dT sT ho hu hs hx hy hB hn hsrc hfit h1 (fun w' h1 h2 => hK _ _ (h w' h1 h2))
/-- A key as one block. -/
def keyB (k : List UInt8) : List UInt8 := k ++ List.replicate (64 - k.length) 0
theorem keyB_len {k : List UInt8} (h : k.length ≤ 64) : (keyB k).length = 64 := by simp [keyB]; omega
def zb64 : List UInt8 := List.replicate 64 0
theorem asB64 : AllocAs 103 (bys zb64) := by
  intro w ev op ho
  unfold execOp
  simp only [ho]
  kernel_rfl
theorem keyB_cells {k : List UInt8} (h : k.length ≤ 64) : (bys zb64).take 0 ++ bys k ++ (bys zb64).drop (0 + (bys k).length) = bys (keyB k) := by
  rw [List.take_zero, List.nil_append, bys_len, Nat.zero_add, keyB, bys_app]
  congr 1
  unfold zb64 bys
  rw [← List.map_drop, List.drop_replicate]
set_option maxRecDepth 20000 in
set_option maxHeartbeats 8000000 in
theorem keyBlock_any (v : Value) (k : List UInt8) (w : World) (hv : Rd w v (bys k)) (h0 : 0 < k.length) (hl : k.length ≤ 64) :
    Calls Tryd.prog 57 #[v] w fun e w' => e = .returned (.agg (bys (keyB k)).toArray) ∧ Kp0 w w' := by
  obtain ⟨bb, oo, cap, rfl, _, _, _⟩ := hv.posB h0
  have HV := Lib.hid hv
  have HL := Lib.hid hl
  have hl2 : (k.length : Int) ≤ 64 := by omega
  have hl3 : ¬ 64 < k.length := by omega
  clear hv h0 hl
  go_enter Tryd.func57, Tryd.ntmps57
  go_upto_region 1 with (refine wl_alloc_as asB64 rfl rfl ?_
                         intro w1 g2 hw hg
                         have HB1 : Hid (Bks w w1 [(g2, 103, bys zb64)]) := Lib.hid (by rw [hw]; exact (Bks.nil w).push 103 (bys zb64) hg)
                         clear hw hg)
  go_upto_region 2 with (refine wl_alloc_as asB64 rfl rfl ?_
                         intro w2 g3 hw hg
                         have HB2 : Hid (Bks w w2 [(g2, 103, bys zb64), (g3, 103, bys zb64)]) := Lib.hid (by rw [hw]; exact HB1.out.push 103 (bys zb64) hg)
                         clear hw hg)
  simp only [Act.put]
  clear HB1
  go_wp2_with (first
    | (refine wl_copy_blk rfl (.tmp 14) (.tmp 15) 32 32 rfl (T := 103) (g := g3) (o := 0) (n := 64) (cap := 64) (m := k.length) (c := cap) (ad := ⟨bb, oo, none⟩) (cs := bys zb64) (ds := bys k) Tryd.underlying32 sizeU8 rfl rfl (HB2.out.at 1 rfl) (by rw [bys_len]; exact (Nat.min_eq_left HL.out).symm) (fun j u hu => by rw [Addr.add_lit]; exact (HV.out.keep0 HB2.out.kp).range j u hu) (by rw [bys_len, bys_len]; have := HL.out; simp [zb64]; omega) (bys_onesV _) ?_
       intro w3 hA hK
       rw [keyB_cells HL.out] at hA
       have HB3 := Lib.hid (HB2.out.store 1 rfl hA hK)
       clear hA hK)
    | (refine wl_load_blk rfl 103 (.tmp 3) rfl g3 _ (bys (keyB k)) rfl (HB3.out.at 1 rfl) _ Tryd.underlying103 rfl (infoB64 (keyB_len HL.out)) ?_)
    | (refine wl_store_blk rfl 103 (.tmp 2) (.tmp 17) rfl g2 _ (bys zb64) (bys (keyB k)) rfl rfl (HB3.out.at 0 rfl) (infoB64 (keyB_len HL.out)) (len_of (T := 103) (infoB64 (l := zb64) rfl) (infoB64 (keyB_len HL.out))) (bys_onesV _) ?_
       intro w8 hA8 hK8
       have HB8 := Lib.hid (HB3.out.store 0 rfl hA8 hK8)
       clear hA8 hK8))
  refine ret_blk 2 103 103 g2 (bys (keyB k)) _ rfl rfl (HB8.out.at 0 rfl) Tryd.underlying103 rfl (infoB64 (keyB_len HL.out)) rfl ?_
  exact ⟨rfl, HB8.out.kp⟩
/-- The code of a text under a key. -/
def macB (k t : List UInt8) : List UInt8 := sha256 (maskB 0x5C (keyB k) ++ sha256 (maskB 0x36 (keyB k) ++ t))
theorem macB_len (k t : List UInt8) : (macB k t).length = 32 := sha256_len _
theorem infoRow : (Tryd.prog.info? 32).map (fun i => (i.zero, i.size, i.bytes)) = some (some (.slice none 0 0), 1, 24) := by kernel_rfl
theorem rows_cons {w : World} {v1 : Value} {l1 : List UInt8} {vs : List Value} {ls : List (List UInt8)} (h1 : Rd w v1 (bys l1)) (b1 : l1.length ≤ 140737488351232) (h : RowsB w vs ls) : RowsB w (v1 :: vs) (l1 :: ls) := by
  refine ⟨by simp [h.1], fun i v hv => ?_⟩
  match i, hv with
  | 0, hv => simp at hv; subst hv; exact ⟨l1, rfl, h1, b1⟩
  | i + 1, hv => exact h.2 i v hv
theorem rows_ones {w : World} {vs : List Value} {ls : List (List UInt8)} (h : RowsB w vs ls) : ∀ u ∈ vs, u.oneCell' = true := by
  intro u hu
  obtain ⟨i, hi, rfl⟩ := List.getElem_of_mem hu
  obtain ⟨l, _, h2, _⟩ := h.2 i _ (List.getElem?_eq_getElem hi)
  obtain ⟨ao, cap, e, _⟩ := h2.shapeB
  rw [e]
  rfl
attribute [local irreducible] sha256
set_option maxRecDepth 20000 in
set_option maxHeartbeats 8000000 in
theorem mac_any (kv pv : Value) (k : List UInt8) (vs : List Value) (ls : List (List UInt8)) (w : World) (hq : Sqd w) (hc : Cub w) (hk : Rd w kv (bys k)) (hp : Rd w pv vs) (hr : RowsB w vs ls) (h0 : 0 < k.length) (h64 : k.length ≤ 64) (hvl : vs.length ≤ 1000000) (hl : ls.flatten.length ≤ 800000000000000) :
    Calls Tryd.prog 42 #[kv, pv] w fun e w' => e = .returned (.agg (bys (macB k ls.flatten)).toArray) ∧ Kp0 w w' := by
  have HQ := Lib.hid hq
  have HC := Lib.hid hc
  have HKY := Lib.hid hk
  have HP := Lib.hid hp
  have HR := Lib.hid hr
  have HL := Lib.hid hl
  have HVL := Lib.hid hvl
  have HKL : Hid (0 < k.length ∧ k.length ≤ 64) := Lib.hid ⟨h0, h64⟩
  have HYL : Hid ((keyB k).length = 64) := Lib.hid (keyB_len h64)
  obtain ⟨ao, cap, rfl, -, -, -⟩ := hp.shape
  clear hq hc hk hp hr h0 h64 hvl hl
  obtain ⟨Y, hY⟩ : ∃ Y, Y = keyB k := ⟨_, rfl⟩
  have HYE := Lib.hid hY
  rw [← hY] at HYL
  clear hY
  go_enter Tryd.func42, Tryd.ntmps42
  go_upto_region 1 with (refine wl_alloc_as asB32 rfl rfl ?_
                         intro w1 g4 hw hg
                         have HB1 : Hid (Bks w w1 [(g4, 26, bys zb32)]) := Lib.hid (by rw [hw]; exact (Bks.nil w).push 26 (bys zb32) hg)
                         clear hw hg)
  simp only [Act.put]
  go_upto_region 2 with (first
    | (go_at_call 57
       refine (keyBlock_any kv k _ (HKY.out.keep0 HB1.out.kp) HKL.out.1 HKL.out.2).mono ?_
       rintro e w3 ⟨rfl, hk⟩
       rw [← HYE.out]
       have HB3 := Lib.hid (HB1.out.kp0 hk)
       clear hk)
    | (refine wl_alloc_as asB64 rfl rfl ?_
       intro w4 g5 hw hg
       have HB4 : Hid (Bks w w4 [(g4, 26, bys zb32), (g5, 103, bys zb64)]) := Lib.hid (by rw [hw]; exact HB3.out.push 103 (bys zb64) hg)
       clear hw hg)
    | (refine wl_store_blk rfl 103 (.tmp 5) (.tmp 8) rfl g5 _ (bys zb64) (bys Y) rfl rfl (HB4.out.at 1 rfl) (infoB64 HYL.out) (len_of (T := 103) (infoB64 (l := zb64) rfl) (infoB64 HYL.out)) (bys_onesV _) ?_
       intro w5 hA hK
       have HB5 : Hid (Bks w w5 [(g4, 26, bys zb32), (g5, 103, bys Y)]) := Lib.hid (HB4.out.store 1 rfl hA hK)
       clear hA hK))
  simp only [Act.put]
  clear HB1 HB3 HB4
  go_wp2_with (first
    | (refine wl_load_blk rfl 103 (.tmp 5) rfl g5 _ (bys Y) rfl (HB5.out.at 1 rfl) _ Tryd.underlying103 rfl (infoB64 HYL.out) ?_)
    | (go_at_call 58
       refine (masked_any Y 0x36 _ HYL.out).mono ?_
       rintro e w6 ⟨g6, rfl, hg1, hg2, hk⟩
       have HG6 := Lib.hid hg1
       have HB6 := Lib.hid (HB5.out.kp0 hk)
       clear hg1 hg2 hk)
    | (at_builtin
       refine wl_append_own rfl (.tmp 11) (.tmp 12) 102 rfl (B := w6.heap.size) (e := 32) (bytes := 24) (z := .slice none 0 0) (xs := [.slice (some ⟨g6, 0, none⟩) 64 64]) (ys := vs) Tryd.underlying102 infoRow rfl rfl rfl (Own.lit w6 #[.slice (some ⟨g6, 0, none⟩) 64 64] 32 1 rfl (by decide)) (HP.out.keep0 (HB6.out.kp.alloc _)) (rows_ones HR.out) (by have := HVL.out; unfold maxLen; rw [List.length_singleton]; omega) (by have := HVL.out; rw [List.length_singleton]; omega) (by simp) ?_
       intro v7 w7 ho hg
       have HO7 := Lib.hid ho
       have HK7 : Hid (Kp0 w6 w7) := Lib.hid (((Kp.refl (fun _ => False) w6).alloc _).grown hg (fun k hk hlt => by obtain rfl : w6.heap.size = k := Option.some.inj hk; exact absurd hlt (Nat.lt_irrefl _)))
       clear ho hg)
    | (go_at_call 54
       refine (small_of _ (.slice (some ⟨g6, 0, none⟩) 64 64 :: vs) (maskB 0x36 Y :: ls) _ (HQ.out.kp0 (HB6.out.kp.tr HK7.out)) (HC.out.kp0 (HB6.out.kp.tr HK7.out)) HO7.out.rd (rows_cons (rd_blk (HG6.out.kp0 HK7.out) (by rw [maskB_len, HYL.out])) (by rw [maskB_len, HYL.out]; decide) (HR.out.keep0 (HB6.out.kp.tr HK7.out))) (by rw [List.flatten_cons, List.length_append, maskB_len, HYL.out]; have := HL.out; omega)).mono ?_
       rintro e w8 ⟨rfl, hk⟩
       have HB8 := Lib.hid (HB6.out.kp0 (HK7.out.tr hk))
       clear hk)
    | (refine wl_alloc_as asB32 rfl rfl ?_
       intro w9 g9 hw hg
       have HB9 : Hid (Bks w w9 [(g4, 26, bys zb32), (g5, 103, bys Y), (g9, 26, bys zb32)]) := Lib.hid (by rw [hw]; exact HB8.out.push 26 (bys zb32) hg)
       clear hw hg)
    | (refine wl_store_blk rfl 26 (.tmp 6) (.tmp 14) rfl g9 _ (bys zb32) (bys (sha256 (maskB 0x36 Y ++ ls.flatten))) rfl rfl (HB9.out.at 2 rfl) (infoB32 (sha256_len _)) (len_of (T := 26) (infoB32 (l := zb32) rfl) (infoB32 (sha256_len (maskB 0x36 Y ++ ls.flatten)))) (bys_onesV _) ?_
       intro w10 hA hK
       have HB10 : Hid (Bks w w10 [(g4, 26, bys zb32), (g5, 103, bys Y), (g9, 26, bys (sha256 (maskB 0x36 Y ++ ls.flatten)))]) := Lib.hid (HB9.out.store 2 rfl hA hK)
       clear hA hK))
  clear HB5 HB6 HB8 HB9 HO7 HK7 HG6
  obtain ⟨I, hI⟩ : ∃ I, I = sha256 (maskB 0x36 Y ++ ls.flatten) := ⟨_, rfl⟩
  have HI : Hid (I = sha256 (maskB 0x36 Y ++ ls.flatten)) := Lib.hid hI
  have HIL : Hid (I.length = 32) := Lib.hid (by rw [hI, sha256_len])
  rw [← hI] at HB10 ⊢
  clear hI
  simp only [Act.put]
  go_upto_region 3 with (fail)
  refine wp_region_px 6 [5] (fun w' : World => Kp0 w10 w') (.quiet 0 (.quiet 2 (.eff 1 (.eff 3 (.eff 4 (.wall 5 .done)))))) (by kernel_rfl) (by kernel_rfl) (by kernel_rfl) (by kernel_rfl) (fun _ d _ _ _ h => by cases d <;> exact h) (Kp.refl _ _).drew ?_
  refine px_quiet (v := .agg (bys Y).toArray) rfl (by rfl) (fun wq hwq => ?_) rfl ?_
  · exact run_load_blk 103 (.tmp 5) rfl g5 _ (bys Y) rfl ((HB10.out.kp0 hwq).at 1 rfl) _ Tryd.underlying103 rfl (infoB64 HYL.out)
  refine px_quiet (v := ?_) rfl (by rfl) (fun wq hwq => ?_) rfl ?_
  rotate_left 1
  · go_simp
    try (with_reducible rfl)
  simp only [List.setIfInBounds_toArray, List.set_cons_zero, List.set_cons_succ]
  refine px_eff rfl (by rfl) (fun K hK => ?_)
  go_simp
  refine (masked_any Y 0x5C _ HYL.out).mono ?_
  rintro e w11 ⟨g11, rfl, hg1, hg2, hk⟩
  have HG11 := Lib.hid hg1
  have HK11 : Hid (Kp0 w10 w11) := Lib.hid ((Kp.refl (fun _ => False) w10).drew.tr hk)
  refine hK (fun w' => Kp0 w11 w') _ _ (fun x hx => HK11.out.tr hx) (Kp.refl _ _) ?_
  clear hK hg1 hg2 hk K
  refine px_eff rfl (by rfl) (fun K hK => ?_)
  go_simp
  refine hK (fun w' => Kp0 (w11.alloc (.cells [.slice (some ⟨g11, 0, none⟩) 64 64, .slice (some ⟨g9, 0, none⟩) 32 32].toArray 32)) w') _ _ (fun x hx => ((Kp.refl (fun _ => False) _).alloc _).tr hx) (Kp.refl _ _) ?_
  clear hK K
  refine px_eff rfl (by rfl) (fun K hK => ?_)
  go_simp
  refine (small_of _ [.slice (some ⟨g11, 0, none⟩) 64 64, .slice (some ⟨g9, 0, none⟩) 32 32] [maskB 0x5C Y, I] _ (HQ.out.kp0 ((HB10.out.kp.tr HK11.out).alloc _)) (HC.out.kp0 ((HB10.out.kp.tr HK11.out).alloc _)) (rdSlice w11 _ 2 32 rfl (by decide)) (rows_two (rd_blk (HG11.out.kp0 ((Kp.refl _ _).alloc _)) (by rw [maskB_len, HYL.out])) (rd_blk ((HB10.out.kp0 (HK11.out.alloc _)).at 2 rfl) HIL.out) (by rw [maskB_len, HYL.out]; decide) (by rw [HIL.out]; decide)) (by simp only [List.flatten_cons, List.flatten_nil, List.append_nil, List.length_append, maskB_len, HYL.out, HIL.out]; decide)).mono ?_
  rintro e w12 ⟨rfl, hk⟩
  have HB12 := Lib.hid (HB10.out.kp0 ((HK11.out.alloc _).tr hk))
  have HM : Hid (sha256 [maskB 0x5C Y, I].flatten = macB k ls.flatten) := Lib.hid (by
    unfold macB
    rw [← HYE.out, ← HI.out]
    simp)
  simp only []
  rw [HM.out]
  refine hK (fun w' => w' = w12) _ _ (fun x hx => by subst hx; exact hk) rfl ?_
  clear hK hk K
  refine px_wall rfl (by rfl) (fun K hK => ?_)
  refine wp_store_blk 26 (.tmp 4) (.tmp 19) rfl g4 _ (bys zb32) (bys (macB k ls.flatten)) rfl rfl (HB12.out.at 0 rfl) (infoB32 (macB_len _ _)) (len_of (T := 26) (infoB32 (l := zb32) rfl) (infoB32 (macB_len k ls.flatten))) (bys_onesV _) ?_
  intro w8 hA hK8
  have HB8 := Lib.hid (HB12.out.store 0 rfl hA hK8)
  refine hK (fun _ => True) _ _ trivial (px_done ?_)
  clear hA hK8 hK
  go_wp2
  refine ret_blk 4 26 26 g4 (bys (macB k ls.flatten)) _ rfl rfl (HB8.out.at 0 rfl) Tryd.underlying26 rfl (infoB32 (macB_len _ _)) rfl ?_
  exact ⟨rfl, HB8.out.kp⟩
end Go.Proofs.YtnbfedmecmdjlaaDoor
namespace Go.Proofs.YtnbfedmecmdjlaaDoor
open Go Go.RowKit
def oxB (d x y : UInt8) : UInt8 := d ||| (x ^^^ y)
theorem oxB_val (d x y : UInt8) : bits .or .u8 (d.toNat : Int) (bits .xor .u8 (x.toNat : Int) (y.toNat : Int)) = ((oxB d x y).toNat : Int) := by rw [u8bx, u8bo]; rfl
def dfB (a b : List UInt8) : Nat → UInt8
  | 0 => 0
  | k + 1 => oxB (dfB a b k) (a.getD k 0) (b.getD k 0)
theorem ox_zero (d x y : UInt8) : oxB d x y = 0 ↔ d = 0 ∧ x = y := by
  unfold oxB
  rw [← UInt8.toBitVec_inj, ← UInt8.toBitVec_inj, ← UInt8.toBitVec_inj, UInt8.toBitVec_or, UInt8.toBitVec_xor]
  show _ ||| _ = 0#8 ↔ _ = 0#8 ∧ _
  rw [BitVec.or_eq_zero_iff, BitVec.xor_eq_zero_iff]
theorem df_zero (a b : List UInt8) (h : a.length = b.length) : ∀ k, k ≤ a.length → (dfB a b k = 0 ↔ a.take k = b.take k)
  | 0, _ => by simp [dfB]
  | k + 1, hk => by
    rw [dfB, ox_zero, df_zero a b h k (by omega), List.take_succ_eq_append_getElem (by omega), List.take_succ_eq_append_getElem (by omega)]
    rw [List.getD_eq_getElem?_getD, List.getElem?_eq_getElem (by omega), List.getD_eq_getElem?_getD, List.getElem?_eq_getElem (by omega)]
    simp only [Option.getD_some]
    constructor
    · rintro ⟨h1, h2⟩
      rw [h1, h2]
    · intro h0
      obtain ⟨h1, h2⟩ := List.append_inj h0 (by simp; omega)
      exact ⟨h1, by simpa using h2⟩
def sameB (a b : List UInt8) : Bool := a == b
theorem same_ne {a b : List UInt8} (h : a.length ≠ b.length) : sameB a b = false := by
  unfold sameB
  rw [beq_eq_false_iff_ne]
  exact fun e => h (by rw [e])
theorem same_df {a b : List UInt8} (h : a.length = b.length) : (((dfB a b a.length).toNat : Int) == 0) = sameB a b := by
  unfold sameB
  rw [Bool.eq_iff_iff, beq_iff_eq, beq_iff_eq]
  have h1 := df_zero a b h a.length (Nat.le_refl _)
  rw [List.take_length, h, List.take_length] at h1
  rw [h, ← h1, ← UInt8.toNat_inj]
  constructor
  · intro e; show _ = 0; omega
  · intro e
    have : (dfB a b b.length).toNat = 0 := e
    omega
attribute [local irreducible] oxB sameB
set_option maxRecDepth 20000 in
set_option maxHeartbeats 8000000 in
theorem same_any (va vb : Value) (a b : List UInt8) (w : World) (ha : Rd w va (bys a)) (hb : Rd w vb (bys b)) (hal : a.length ≤ 140737488351232) (hbl : b.length ≤ 140737488351232) :
    Calls Tryd.prog 52 #[va, vb] w fun e w' => e = .returned (.bool (sameB a b)) ∧ Kp0 w w' := by
  obtain ⟨aa, ca, rfl, hca, hca2, _⟩ := ha.shapeB
  obtain ⟨ab, cb, rfl, hcb, hcb2, _⟩ := hb.shapeB
  have HA := Lib.hid ha
  have HB := Lib.hid hb
  have HAL := Lib.hid hal
  by_cases hl : a.length = b.length
  · have hsd := same_df hl
    have HL := Lib.hid hl
    rw [← hl]
    obtain ⟨m, hm⟩ : ∃ m, m = a.length := ⟨_, rfl⟩
    have hmb : (m : Int) ≤ 140737488351232 := by omega
    rw [← hm] at hsd ⊢
    have HM := Lib.hid hm
    have HSD := Lib.hid hsd
    clear ha hb hal hbl hl hm hsd hca hca2 hcb hcb2
    go_enter Tryd.func52, Tryd.ntmps52
    go_wp2
    go_loopg [14, 5, 6] m (fun gg i d _ wr => ∃ (k : Nat), i = .int .i64 k ∧ k ≤ m ∧ gg = m - k ∧ d = .int .u8 ((dfB a b k).toNat : Int) ∧ Kp0 w wr)
    case atStart => exact ⟨0, rfl, Nat.zero_le _, rfl, rfl, Kp.refl _ _⟩
    case round =>
      obtain ⟨k, rfl, hk, rfl, rfl, hr⟩ := hrel
      have HK := Lib.hid hr
      clear hr
      by_cases h : k < m
      · have hx : a[k]? = some (a.getD k 0) := getD_some (by rw [← HM.out]; exact h) 0
        have hy : b[k]? = some (b.getD k 0) := getD_some (by rw [← HL.out, ← HM.out]; exact h) 0
        have HS : Hid (dfB a b (k + 1) = oxB (dfB a b k) (a.getD k 0) (b.getD k 0)) := Lib.hid rfl
        generalize a.getD k 0 = x at hx HS
        generalize b.getD k 0 = y at hy HS
        generalize dfB a b k = d at HS ⊢
        obtain ⟨b1, o1, c1, e1, -, -, -⟩ := HA.out.posB (by have := HM.out; omega)
        obtain ⟨b2, o2, c2, e2, -, -, -⟩ := HB.out.posB (by have := HM.out; have := HL.out; omega)
        simp only [Value.slice.injEq] at e1 e2
        obtain ⟨rfl, -, rfl⟩ := e1
        obtain ⟨rfl, -, rfl⟩ := e2
        have hq1 := (HA.out.keep0 HK.out).range k _ (bys_getV hx)
        have hq2 := (HB.out.keep0 HK.out).range k _ (bys_getV hy)
        have hv := oxB_val d x y
        have hk0 : (0 : Int) ≤ (k : Int) := by omega
        have hkm : (k : Int) < (m : Int) := by omega
        have HLT := Lib.hid h
        clear hx hy h hk
        go_upto_region 7 with (fail)
        refine wp_region_px 12 [] (fun w' : World => w' = wr.drew) (.quiet 0 (.quiet 1 (.quiet 2 (.quiet 3 (.quiet 4 (.quiet 5 (.quiet 6 (.quiet 7 (.quiet 8 (.quiet 9 (.quiet 10 (.quiet 11 .done)))))))))))) (by kernel_rfl) (by kernel_rfl) (by kernel_rfl) (by kernel_rfl) (fun _ d _ _ _ h => by cases d <;> exact h) rfl ?_
        iterate 12 (refine px_quiet (v := ?_) rfl (by rfl) (fun wq hwq => ?_) rfl ?_; rotate_left 1; (focus (subst hwq; go_simp; try (with_reducible rfl); done)); try simp only [List.setIfInBounds_toArray, List.set_cons_zero, List.set_cons_succ])
        refine px_done ?_
        clear hq1 hq2 hv
        go_wp2
        have hlo := HLT.out
        go_roundg (m - (k + 1))
        case measure => omega
        case rel => exact ⟨k + 1, by go_num, by omega, rfl, by rw [HS.out], HK.out.drew⟩
      · obtain rfl : k = m := by omega
        clear h hk
        go_wp2
        go_ret
        refine ⟨?_, HK.out⟩
        show Ending.returned (.bool (((dfB a b k).toNat : Int) == 0)) = _
        rw [HSD.out]
  · rw [same_ne hl]
    have hl2 : ¬ (a.length : Int) = b.length := by omega
    clear ha hb hal hbl hca hca2 hcb hcb2
    go_enter Tryd.func52, Tryd.ntmps52
    go_wp2
    go_ret
    exact ⟨rfl, Kp.refl _ _⟩
end Go.Proofs.YtnbfedmecmdjlaaDoor
