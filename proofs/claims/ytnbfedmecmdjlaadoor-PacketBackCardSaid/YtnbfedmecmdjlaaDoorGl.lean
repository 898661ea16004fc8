/- Package cipher: New; what none answers. Package cipher: Turn. -/
import Derived.Test.YtnbfedmecmdjlaaDoorGk
import Derived.Test.YtnbfedmecmdjlaaDoorGb
namespace Go.Proofs.YtnbfedmecmdjlaaDoor
open Go Go.RowKit
attribute [local irreducible] kyW colsW
set_option maxRecDepth 20000 in
set_option maxHeartbeats 4000000 in
theorem new_any (vk vc : Value) (lk lc : List UInt8) (w : World) (hk : Rd w vk (bys lk)) (hc : Rd w vc (bys lc)) (hq : Sqr w) (h16 : lk.length = 16 ∧ lc.length = 16) :
    Calls Tryd.prog 30 #[vk, vc] w fun e w' => ∃ g, e = .returned (.tuple #[.pointer (some ⟨g, 0, none⟩), .int .i64 0]) ∧ Stm w' g (kyW (colsW lk)) lc z16 0 ∧ w.heap.size ≤ g ∧ Kp0 w w' := by
  obtain ⟨bk, ok, ck, rfl, _, _, _⟩ := hk.posB (by omega)
  obtain ⟨bc, oc, cc, rfl, _, _, _⟩ := hc.posB (by omega)
  have Hk := Lib.hid hk.range
  have Hc := Lib.hid hc.range
  have HQ := Lib.hid hq
  have H16 := Lib.hid h16
  have HKL : Hid ((kyW (colsW lk)).length = 44) := Lib.hid (kyW_len (colsW_len h16.1))
  have e1 := h16.1
  have e2 := h16.2
  rw [e1, e2]
  obtain ⟨ks, hks⟩ : ∃ ks, ks = kyW (colsW lk) := ⟨_, rfl⟩
  have HKS := Lib.hid hks
  rw [← hks] at HKL ⊢
  have ha1 : ∀ wq : World, (Instr.arrayAt 87 (.slice (some ⟨bk, ok, none⟩) 16 ck)).run Tryd.prog wq = .ok (.pointer (some ⟨bk, ok, none⟩)) wq := fun wq => run_arrayAt _ 87 _ 16 _ 16 ck Tryd.underlying87 (Nat.le_refl _)
  have ha2 : ∀ wq : World, (Instr.arrayAt 87 (.slice (some ⟨bc, oc, none⟩) 16 cc)).run Tryd.prog wq = .ok (.pointer (some ⟨bc, oc, none⟩)) wq := fun wq => run_arrayAt _ 87 _ 16 _ 16 cc Tryd.underlying87 (Nat.le_refl _)
  clear hk hc hq h16 e1 e2 hks
  go_enter Tryd.func30, Tryd.ntmps30
  go_upto_region 3 with (fail)
  have HK0 : Hid (Kp0 w.drew w.drew) := Lib.hid (Kp.refl _ _)
  refine wp_region_px 11 [] (fun w' : World => Kp0 w.drew w') (.quiet 0 (.quiet 1 (.quiet 2 (.quiet 4 (.quiet 5 (.quiet 6 (.eff 3 (.quiet 7 (.eff 8 (.quiet 9 (.quiet 10 .done))))))))))) (by kernel_rfl) (by kernel_rfl) (by kernel_rfl) (by kernel_rfl) (fun _ d _ _ _ h => by cases d <;> exact h) HK0.out ?_
  refine px_quiet (v := ?_) rfl (by rfl) (fun wq hwq => ?_) rfl ?_; rotate_left 1; (focus (go_simp; try (with_reducible rfl); done)); try simp only [List.setIfInBounds_toArray, List.set_cons_zero, List.set_cons_succ]
  refine px_quiet (v := ?_) rfl (by rfl) (fun wq hwq => ?_) rfl ?_; rotate_left 1; (focus (go_simp; try (with_reducible rfl); done)); try simp only [List.setIfInBounds_toArray, List.set_cons_zero, List.set_cons_succ]
  refine px_quiet (v := .agg (bys lk).toArray) rfl (by rfl) (fun wq hwq => run_load_mid 87 (.tmp 15) rfl (bk) (ok) (bys lk) rfl (fun j v hv => ((Kp.refl (fun _ => False) _).drew.tr hwq).cell (Hk.out j v hv) (fun h => h)) _ Tryd.underlying87 rfl (info16 H16.out.1)) rfl ?_
  try simp only [List.setIfInBounds_toArray, List.set_cons_zero, List.set_cons_succ]
  refine px_quiet (v := ?_) rfl (by rfl) (fun wq hwq => ?_) rfl ?_; rotate_left 1; (focus (go_simp; try (with_reducible rfl); done)); try simp only [List.setIfInBounds_toArray, List.set_cons_zero, List.set_cons_succ]
  refine px_quiet (v := ?_) rfl (by rfl) (fun wq hwq => ?_) rfl ?_; rotate_left 1; (focus (go_simp; try (with_reducible rfl); done)); try simp only [List.setIfInBounds_toArray, List.set_cons_zero, List.set_cons_succ]
  refine px_quiet (v := .agg (bys lc).toArray) rfl (by rfl) (fun wq hwq => run_load_mid 87 (.tmp 19) rfl (bc) (oc) (bys lc) rfl (fun j v hv => ((Kp.refl (fun _ => False) _).drew.tr hwq).cell (Hc.out j v hv) (fun h => h)) _ Tryd.underlying87 rfl (info16 H16.out.2)) rfl ?_
  try simp only [List.setIfInBounds_toArray, List.set_cons_zero, List.set_cons_succ]
  refine px_eff rfl (by rfl) (fun K hK => ?_)
  go_simp
  refine (kof_any lk _ H16.out.1 (HQ.out.kp0 (Kp.refl _ _).drew)).mono ?_
  rintro e zw1 ⟨rfl, hk⟩
  simp only []
  have HK1 : Hid (Kp0 w.drew zw1) := Lib.hid (HK0.out.tr hk)
  clear hk
  refine hK (fun w' : World => Kp0 w.drew w') _ _ (fun x h => h) HK1.out ?_
  clear hK K
  rw [← HKS.out]
  refine px_quiet (v := .agg (stm ks lc z16 0).toArray) rfl (by rfl) (fun wq hwq => run_build_st wq _ _ 17 20 rfl (u32s ks) (bys lc) (by rw [u32s_len, HKL.out]) (by rw [bys_len, H16.out.2]) rfl rfl) rfl ?_
  try simp only [List.setIfInBounds_toArray, List.set_cons_zero, List.set_cons_succ]
  refine px_eff rfl (by rfl) (fun K hK => ?_)
  go_simp
  have HB : Hid (Blk (zw1.alloc (.cells (stm ks lc z16 0).toArray 89)) zw1.heap.size 89 (stm ks lc z16 0)) := Lib.hid (blk0 zw1 _ _)
  have HK2 : Hid (Kp0 w.drew (zw1.alloc (.cells (stm ks lc z16 0).toArray 89))) := Lib.hid (HK1.out.alloc _)
  have HSZ : Hid (w.heap.size ≤ zw1.heap.size) := Lib.hid HK1.out.size
  refine hK (fun w' : World => Kp0 w.drew w') _ _ (fun x h => h) HK2.out ?_
  clear hK K
  refine px_quiet (v := ?_) rfl (by rfl) (fun wq hwq => ?_) rfl ?_; rotate_left 1; (focus (go_simp; try (with_reducible rfl); done)); try simp only [List.setIfInBounds_toArray, List.set_cons_zero, List.set_cons_succ]
  refine px_quiet (v := ?_) rfl (by rfl) (fun wq hwq => ?_) rfl ?_; rotate_left 1; (focus (go_simp; try (with_reducible rfl); done)); try simp only [List.setIfInBounds_toArray, List.set_cons_zero, List.set_cons_succ]
  refine px_done ?_
  go_wp2
  go_ret2
  exact ⟨_, rfl, ⟨HB.out, HKL.out, H16.out.2, rfl⟩, HSZ.out, (Kp.refl _ w).drew.tr HK2.out⟩
set_option maxRecDepth 20000 in
set_option maxHeartbeats 4000000 in
theorem new_no (vk vc : Value) (lk lc : List UInt8) (w : World) (hk : Rd w vk (bys lk)) (hc : Rd w vc (bys lc)) (h16 : ¬ (lk.length = 16 ∧ lc.length = 16)) :
    Calls Tryd.prog 30 #[vk, vc] w fun e w' => e = .returned (.tuple #[.pointer none, .int .i64 2]) ∧ Kp0 w w' := by
  obtain ⟨ak, ck, rfl, _, _, _⟩ := hk.shapeB
  obtain ⟨ac, cc, rfl, _, _, _⟩ := hc.shapeB
  clear hk hc
  by_cases h1 : lk.length = 16
  · have h2 : lc.length ≠ 16 := fun e => h16 ⟨h1, e⟩
    have bk : ((lk.length : Int) != 16) = false := by rw [bne_eq_false_iff_eq]; omega
    have bc : ((lc.length : Int) != 16) = true := by rw [bne_iff_ne]; omega
    clear h1 h2 h16
    go_enter Tryd.func30, Tryd.ntmps30
    go_wp2
    go_ret2
    exact ⟨rfl, Kp.refl _ _⟩
  · have bk : ((lk.length : Int) != 16) = true := by rw [bne_iff_ne]; omega
    clear h1 h16
    go_enter Tryd.func30, Tryd.ntmps30
    go_wp2
    go_ret2
    exact ⟨rfl, Kp.refl _ _⟩
set_option maxRecDepth 20000 in
set_option maxHeartbeats 4000000 in
theorem blk_nil (b : List UInt8) (w : World) (hb : b.length = 16) :
    Calls Tryd.prog 72 #[.pointer none, .agg (bys b).toArray] w fun e w' => e = .returned (.agg (bys z16).toArray) ∧ Kp0 w w' := by
  have HB := Lib.hid hb
  clear hb
  go_enter Tryd.func72, Tryd.ntmps72
  go_upto_region 1 with (fail)
  have HR := Lib.hid (rows2 w 87 (bys b) 87 (bys z16))
  change Code.wp _ _ _ _ ((w.alloc (.cells (bys b).toArray 87)).alloc (.cells (bys z16).toArray 87))
  generalize ((w.alloc (.cells (bys b).toArray 87)).alloc (.cells (bys z16).toArray 87)) = w1 at HR
  have hz : ∀ wq : World, (Instr.build 87 #[]).run Tryd.prog wq = .ok (.agg (bys z16).toArray) wq := fun wq => by kernel_rfl
  go_wp2_with (refine wl_store_blk rfl 87 (.tmp 4) (.tmp 7) rfl (w.heap.size + 1) _ (bys z16) (bys z16) rfl rfl (HR.out.blk 1 rfl rfl) (info16 (l := z16) rfl) rfl (bys_onesV _) ?_
               intro w8 hA8 hK8
               have HA8 := Lib.hid hA8
               have HK8 : Hid (Kp0 w w8) := Lib.hid (HR.out.kp.trans hK8 (fun _ _ h => h) (fun i hi e => by omega))
               clear hA8 hK8)
  refine ret_blk 4 87 87 (w.heap.size + 1) (bys z16) _ rfl rfl HA8.out Tryd.underlying87 rfl (info16 (l := z16) rfl) rfl ?_
  exact ⟨rfl, HK8.out⟩
set_option maxRecDepth 20000 in
set_option maxHeartbeats 4000000 in
theorem turn_nil (v : Value) (w : World) :
    Calls Tryd.prog 41 #[.pointer none, v] w fun e w' => e = .returned (.slice none 0 0) ∧ Kp0 w w' := by
  go_enter Tryd.func41, Tryd.ntmps41
  go_wp2
  go_ret
  exact ⟨rfl, Kp.refl _ _⟩
end Go.Proofs.YtnbfedmecmdjlaaDoor
namespace Go.Proofs.YtnbfedmecmdjlaaDoor
open Go Go.RowKit
/-- The counter and n. -/
def incN (c : List UInt8) : Nat → List UInt8
  | 0 => c
  | n + 1 => incB (incN c n)
theorem incN_len {c : List UInt8} (h : c.length = 16) : ∀ n, (incN c n).length = 16
  | 0 => h
  | n + 1 => by rw [incN, incB_len, incN_len h n]
/-- Byte p of a stream. -/
def kb (ks : List (BitVec 32)) (c : List UInt8) (p : Nat) : UInt8 := (aesK ks (incN c (p / 16))).getD (p % 16) 0
/-- A stream of which p bytes were used. -/
def AtC (w : World) (g : Nat) (ks : List (BitVec 32)) (c : List UInt8) (p : Nat) : Prop :=
  ∃ last, Stm w g ks (incN c ((p + 15) / 16)) last (((16 - p % 16) % 16 : Nat) : Int) ∧ (p % 16 ≠ 0 → last = aesK ks (incN c (p / 16)))
theorem AtC.kp0 {w w' : World} {g : Nat} {ks : List (BitVec 32)} {c : List UInt8} {p : Nat} (h : AtC w g ks c p) (hk : Kp0 w w') : AtC w' g ks c p := by
  obtain ⟨l, h1, h2⟩ := h
  exact ⟨l, h1.kp0 hk, h2⟩
theorem AtC.kp0' {w w' : World} {g : Nat} {ks : List (BitVec 32)} {c : List UInt8} {p : Nat} (h : AtC w g ks c p) {S : Nat → Prop} (hk : Kp S w w') (hs : ¬ S g) : AtC w' g ks c p := by
  obtain ⟨l, h1, h2⟩ := h
  exact ⟨l, ⟨h1.1.keep hk hs, h1.2⟩, h2⟩
theorem AtC.lt {w : World} {g : Nat} {ks : List (BitVec 32)} {c : List UInt8} {p : Nat} (h : AtC w g ks c p) : g < w.heap.size := by
  obtain ⟨l, h1, _⟩ := h
  exact h1.lt
theorem AtC.start {w : World} {g : Nat} {ks : List (BitVec 32)} {c : List UInt8} (h : Stm w g ks c z16 0) : AtC w g ks c 0 := ⟨z16, h, fun h => absurd rfl h⟩
theorem AtC.keysLen {w : World} {g : Nat} {ks : List (BitVec 32)} {c : List UInt8} {p : Nat} (h : AtC w g ks c p) : ks.length = 44 := by
  obtain ⟨l, h1, _⟩ := h
  exact h1.2.1
theorem next_at (g : Nat) (ks : List (BitVec 32)) (c : List UInt8) (p : Nat) (w : World) (h : AtC w g ks c p) (hq : Sqr w) (hg : g ≠ 2) :
    Calls Tryd.prog 56 #[.pointer (some ⟨g, 0, none⟩)] w fun e w' => e = .returned (.int .u8 ((kb ks c p).toNat : Int)) ∧ AtC w' g ks c (p + 1) ∧ Kp (fun b => b = g) w w' := by
  obtain ⟨last, hs, hl⟩ := h
  refine (next_any g ks _ last ((16 - p % 16) % 16) w hs (by omega) hq hg).mono ?_
  rintro e w' ⟨rfl, h2, h3⟩
  by_cases h0 : p % 16 = 0
  · have e0 : (16 - p % 16) % 16 = 0 := by omega
    rw [e0] at h2 ⊢
    unfold nxB
    unfold nxC nxL nxN at h2
    rw [if_pos rfl] at h2 ⊢
    rw [if_pos rfl, if_pos rfl] at h2
    have e1 : (p + 15) / 16 = p / 16 := by omega
    have e2 : (p + 1 + 15) / 16 = p / 16 + 1 := by omega
    have e3 : (16 - (p + 1) % 16) % 16 = 15 := by omega
    have e4 : (p + 1) / 16 = p / 16 := by omega
    rw [e1] at h2 ⊢
    refine ⟨by unfold kb; rw [h0], ⟨aesK ks (incN c (p / 16)), ?_, fun _ => ?_⟩, h3⟩
    · rw [e2, e3]
      exact h2
    · rw [e4]
  · have e0 : ¬ (16 - p % 16) % 16 = 0 := by omega
    unfold nxB
    unfold nxC nxL nxN at h2
    rw [if_neg e0] at h2 ⊢
    rw [if_neg e0, if_neg e0] at h2
    have e2 : (p + 1 + 15) / 16 = (p + 15) / 16 := by omega
    have e3 : (16 - p % 16) % 16 - 1 = (16 - (p + 1) % 16) % 16 := by omega
    have e4 : 16 - (16 - p % 16) % 16 = p % 16 := by omega
    refine ⟨by unfold kb; rw [e4, hl h0], ⟨last, ?_, fun h => ?_⟩, h3⟩
    · rw [e2, ← e3]
      exact h2
    · rw [hl h0, show (p + 1) / 16 = p / 16 by omega]
def xorB (ks : List (BitVec 32)) (c : List UInt8) (p : Nat) (l : List UInt8) : List UInt8 := l.mapIdx fun i x => x ^^^ kb ks c (p + i)
theorem xorB_len (ks : List (BitVec 32)) (c : List UInt8) (p : Nat) (l : List UInt8) : (xorB ks c p l).length = l.length := by simp [xorB]
theorem u8_xor (x y : UInt8) : bits .xor .u8 (x.toNat : Int) (y.toNat : Int) = ((x ^^^ y).toNat : Int) := by
  rw [u8_xor_nat _ _ x.toNat_lt y.toNat_lt, UInt8.toNat_xor]
def kxB (x y : UInt8) : UInt8 := x ^^^ y
theorem kxB_val (x y : UInt8) : bits .xor .u8 (x.toNat : Int) (y.toNat : Int) = ((kxB x y).toNat : Int) := u8_xor x y
theorem xorB_get (ks : List (BitVec 32)) (c : List UInt8) (p : Nat) {l : List UInt8} {n : Nat} {x : UInt8} (h : l[n]? = some x) : (xorB ks c p l)[n]? = some (kxB x (kb ks c (p + n))) := by
  simp [xorB, h, kxB]
attribute [local irreducible] kb aesK
set_option maxRecDepth 20000 in
set_option maxHeartbeats 4000000 in
theorem turn_pos (g : Nat) (ks : List (BitVec 32)) (c : List UInt8) (p : Nat) (vb : Value) (l : List UInt8) (w : World) (h : AtC w g ks c p) (hb : Rd w vb (bys l)) (hg : 0 < l.length → ∀ b, vb.ownBlock = some b → b ≠ g) (hq : Sqr w) (hg0 : g ≠ 2) (hsm : l.length ≤ 281474976710656) :
    Calls Tryd.prog 41 #[.pointer (some ⟨g, 0, none⟩), vb] w fun e w' => ∃ h, e = .returned (.slice (some ⟨h, 0, none⟩) l.length l.length) ∧ Blk w' h 5 (bys (xorB ks c p l)) ∧ w.heap.size ≤ h ∧ AtC w' g ks c (p + l.length) ∧ Kp (fun b => b = g) w w' := by
  obtain ⟨ab, cb, rfl, hcb, hcb2, _⟩ := hb.shapeB
  have HA := Lib.hid h
  have Hb := Lib.hid hb
  have Hg := Lib.hid hg
  have HQ := Lib.hid hq
  have Hg0 := Lib.hid hg0
  have HGL := Lib.hid h.lt
  have hmk := mkB l.length hsm
  obtain ⟨rs, hrs⟩ : ∃ rs, rs = xorB ks c p l := ⟨_, rfl⟩
  have HRL : Hid (rs.length = l.length) := Lib.hid (by rw [hrs, xorB_len])
  have HST : Hid (∀ n x, l[n]? = some x → (upT n (zs l.length) rs)[n]? = some 0 ∧ (upT n (zs l.length) rs).set n (kxB x (kb ks c (p + n))) = upT (n + 1) (zs l.length) rs) := Lib.hid (by
    intro n x hx
    have hn : n < l.length := (List.getElem?_eq_some_iff.1 hx).1
    refine upT_step (by rw [HRL.out]; simp [zs]) (by unfold zs; rw [List.getElem?_replicate]; simp [hn]) ?_
    rw [hrs]
    exact xorB_get ks c p hx)
  rw [← hrs]
  clear h hb hg hq hg0 hrs hcb
  go_enter Tryd.func41, Tryd.ntmps41
  go_upto_region 4 with (fail)
  have HB1 : Hid (Blk (w.alloc (.cells (bys (zs l.length)).toArray 5)) w.heap.size 5 (bys (zs l.length))) := Lib.hid (blk0 w _ _)
  have HK1 : Hid (Kp0 w (w.alloc (.cells (bys (zs l.length)).toArray 5))) := Lib.hid ((Kp.refl _ w).alloc _)
  have HA1 := Lib.hid (HA.out.kp0 HK1.out)
  change Code.wp _ _ _ _ (w.alloc (.cells (bys (zs l.length)).toArray 5))
  generalize (w.alloc (.cells (bys (zs l.length)).toArray 5)) = w1 at HB1 HK1 HA1 ⊢
  clear hmk
  go_wp2
  go_loopg [15] l.length (fun gg i wr => ∃ (n : Nat), i = .int .i64 n ∧ n ≤ l.length ∧ gg = l.length - n ∧ Blk wr w.heap.size 5 (bys (upT n (zs l.length) rs)) ∧ AtC wr g ks c (p + n) ∧ Kp (fun b => b = g) w wr)
  case atStart => exact ⟨0, rfl, by omega, rfl, by rw [upT_zero]; exact HB1.out, HA1.out, HK1.out.nil _⟩
  case round =>
    obtain ⟨n, rfl, hn, rfl, hr1, hr2, hr3⟩ := hrel
    have HB2 := Lib.hid hr1
    have HA2 := Lib.hid hr2
    have HK2 := Lib.hid hr3
    clear hr1 hr2 hr3 HB1 HK1 HA1
    by_cases h : n < l.length
    · obtain ⟨bb, oo, cc, e, _, _, _⟩ := Hb.out.posB (by omega)
      simp only [Value.slice.injEq] at e
      obtain ⟨rfl, _, rfl⟩ := e
      have hx : l[n]? = some (l[n]'h) := List.getElem?_eq_getElem h
      obtain ⟨x, hxx⟩ : ∃ x, x = l[n]'h := ⟨_, rfl⟩
      rw [← hxx] at hx
      have hst := HST.out n x hx
      have hcb := (Hb.out.keep HK2.out (fun b hb _ => Hg.out (by omega) b hb)).range n _ (bys_getV hx)
      have hv := kxB_val x (kb ks c (p + n))
      have H3 := Lib.hid hst.2
      have H4 := Lib.hid hst.1
      have hnl : (n : Int) < l.length := by omega
      have HBW : Hid (∀ wq, Kp (fun b => b = g) wr wq → Blk wq w.heap.size 5 (bys (upT n (zs l.length) rs))) := Lib.hid (fun wq hk => HB2.out.keep hk (fun e => by have := HGL.out; omega))
      clear hx hxx hst
      go_wp2_with (go_at_call 56; refine (next_at g ks c (p + n) _ HA2.out (HQ.out.keep HK2.out (fun e => Hg0.out e.symm)) Hg0.out).mono ?_; rintro e w3 ⟨rfl, hk1, hk2⟩; have HA3 := Lib.hid hk1; have HK3 := Lib.hid (HK2.out.tr hk2); have HB3 := Lib.hid (HBW.out _ hk2); have hc3 := HB3.out.cellV n (bys_getV H4.out); have hf3 := blk_frozen HB3.out n; clear hk1 hk2)
      go_roundg (l.length - (n + 1))
      case measure => omega
      case rel =>
        have HL0 := HGL.out
        refine ⟨n + 1, by go_num, by omega, rfl, ?_, ?_, ?_⟩
        · have hs := HB3.out.set' n (.int .u8 ((kxB x (kb ks c (p + n))).toNat : Int))
          rw [bys_setV, H3.out] at hs
          exact hs
        · rw [← Nat.add_assoc]
          exact HA3.out.kp0' ((Kp.refl (fun b => b = w.heap.size) _).setCell (p := ⟨w.heap.size, n, none⟩) (fun _ => rfl) _) (fun e => by omega)
        · exact HK3.out.setCell (p := ⟨w.heap.size, n, none⟩) (fun hlt => absurd hlt (by simp)) _
    · obtain rfl : n = l.length := by omega
      rw [upT_all (by simp [zs]) (by rw [HRL.out]; exact Nat.le_refl _)] at HB2
      clear h hn HST
      go_wp2
      go_ret
      exact ⟨_, rfl, HB2.out, Nat.le_refl _, HA2.out, HK2.out⟩
theorem turn_any (g : Nat) (ks : List (BitVec 32)) (c : List UInt8) (p : Nat) (vb : Value) (l : List UInt8) (w : World) (h : AtC w g ks c p) (hb : Rd w vb (bys l)) (hg : ∀ b, vb.ownBlock = some b → b ≠ g) (hq : Sqr w) (hg0 : g ≠ 2) (hsm : l.length ≤ 281474976710656) :
    Calls Tryd.prog 41 #[.pointer (some ⟨g, 0, none⟩), vb] w fun e w' => ∃ h, e = .returned (.slice (some ⟨h, 0, none⟩) l.length l.length) ∧ Blk w' h 5 (bys (xorB ks c p l)) ∧ w.heap.size ≤ h ∧ AtC w' g ks c (p + l.length) ∧ Kp (fun b => b = g) w w' :=
  turn_pos g ks c p vb l w h hb (fun _ => hg) hq hg0 hsm
end Go.Proofs.YtnbfedmecmdjlaaDoor
