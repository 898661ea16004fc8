/- Package packet: the laws' keys. -/
import Derived.Test.YtnbfedmecmdjlaaDoorGu
namespace Go.Proofs.YtnbfedmecmdjlaaDoor
open Go Go.RowKit
/-- Byte i of the keys of c. -/
def kyB (c i : Nat) : UInt8 := UInt8.ofNat (c + i * i)
def kysB (c : Nat) : List UInt8 := (List.range 64).map (kyB c)
theorem kysB_len (c : Nat) : (kysB c).length = 64 := by simp [kysB]
theorem kysB_get (c : Nat) {i : Nat} (h : i < 64) : (kysB c)[i]? = some (kyB c i) := by
  unfold kysB
  rw [List.getElem?_map, List.getElem?_range h]
  rfl
def k1B (c : Nat) : List UInt8 := (kysB c).take 16
def k2B (c : Nat) : List UInt8 := ((kysB c).take 32).drop 16
def k3B (c : Nat) : List UInt8 := (kysB c).drop 32
theorem keys_ok (c : Nat) : okKeys (k1B c) (k2B c) (k3B c) := by
  unfold okKeys k1B k2B k3B
  simp only [List.length_take, List.length_drop, kysB_len]
  decide
set_option maxRecDepth 20000 in
set_option maxHeartbeats 8000000 in
theorem keys_any (c : Nat) (w : World) (hc : c < 256) : Calls Tryd.prog 15 #[.int .u8 (c : Int)] w fun e w' => ∃ v1 v2 v3, e = .returned (.agg #[v1, v2, v3]) ∧ Rd w' v1 (bys (k1B c)) ∧ Rd w' v2 (bys (k2B c)) ∧ Rd w' v3 (bys (k3B c)) ∧ Kp0 w w' := by
  have hmk : ∀ u : World, (Instr.makeSlice 32 (.int .i64 64) (.int .i64 64)).run Tryd.prog u = .ok (.slice (some ⟨u.heap.size, 0, none⟩) 64 64) (u.alloc (.cells (bys (zs 64)).toArray 5)) := fun u => mkB 64 (by decide) u
  have HST : Hid (∀ i, i < 64 → (upT i (zs 64) (kysB c))[i]? = some 0 ∧ (upT i (zs 64) (kysB c)).set i (kyB c i) = upT (i + 1) (zs 64) (kysB c)) := Lib.hid (fun i hi => upT_step (l := zs 64) (m := kysB c) (x := 0) (by rw [kysB_len]; rfl) (by unfold zs; rw [List.getElem?_replicate, if_pos hi]) (kysB_get c hi))
  go_enter Tryd.func15, Tryd.ntmps15
  go_upto_region 2 with (fail)
  have HB1 : Hid (Bks w ((w.alloc (.cells #[.slice none 0 0, .slice none 0 0, .slice none 0 0] 50)).alloc (.cells (bys (zs 64)).toArray 5)) [(w.heap.size, 50, [.slice none 0 0, .slice none 0 0, .slice none 0 0]), (w.heap.size + 1, 5, bys (zs 64))]) := by
    have h1 := (Bks.nil w).push 50 [.slice none 0 0, .slice none 0 0, .slice none 0 0] rfl
    have h2 := h1.push 5 (bys (zs 64)) (g := w.heap.size + 1) (by simp)
    exact Lib.hid (by simpa using h2)
  clear hmk
  generalize (w.alloc (.cells #[.slice none 0 0, .slice none 0 0, .slice none 0 0] 50)).alloc (.cells (bys (zs 64)).toArray 5) = w1 at HB1 ⊢
  go_wp2
  go_loopg [8, 4] 64 (fun gg i _ wr => ∃ (k : Nat), i = .int .i64 k ∧ k ≤ 64 ∧ gg = 64 - k ∧ Bks w wr [(w.heap.size, 50, [.slice none 0 0, .slice none 0 0, .slice none 0 0]), (w.heap.size + 1, 5, bys (upT k (zs 64) (kysB c)))])
  case atStart => exact ⟨0, rfl, by omega, rfl, by rw [upT_zero]; exact HB1.out⟩
  case round =>
    obtain ⟨k, rfl, hk, rfl, hr⟩ := hrel
    have HB3 := Lib.hid hr
    clear hr HB1
    by_cases h : k < 64
    · obtain ⟨s1, s2⟩ := HST.out k h
      have hcx := (HB3.out.at 1 rfl).cellV k (bys_getV s1)
      have hfx := blk_frozen (HB3.out.at 1 rfl) k
      have hk8 : (k : Int) < 64 := by omega
      have hq : (k : Int) * (k : Int) = ((k * k : Nat) : Int) := by rw [Int.natCast_mul]
      have hq2 : k * k ≤ 3969 := Nat.mul_le_mul (by omega : k ≤ 63) (by omega : k ≤ 63)
      have hv : kyB c k = UInt8.ofNat (c + k * k) := rfl
      generalize kyB c k = y at s2 hv
      generalize k * k = q at hq hq2 hv
      have HS := Lib.hid s2
      have HK := Lib.hid h
      clear s1 s2 h
      go_wp2
      have hko := HK.out
      go_roundg (64 - (k + 1))
      case measure => omega
      case rel =>
        refine ⟨k + 1, by go_num, by omega, rfl, ?_⟩
        have hx := HB3.out.set 1 rfl k (.int .u8 (y.toNat : Int))
        rw [bys_setV, HS.out] at hx
        have e1 : ((c : Int) + (q : Int)) % 256 = (y.toNat : Int) := by
          rw [hv, UInt8.toNat_ofNat']
          omega
        rw [e1]
        exact hx
    · obtain rfl : k = 64 := by omega
      rw [upT_all (by unfold zs; rw [List.length_replicate]; exact Nat.le_refl _) (by rw [kysB_len]; exact Nat.le_refl _)] at HB3
      clear h hk HST
      go_wp2
      go_upto_region 7 with (fail)
      have h1 : Rd wr (.slice (some ⟨w.heap.size + 1, 0, none⟩) 64 64) (bys (kysB c)) := rd_blk (HB3.out.at 1 rfl) (kysB_len c)
      have r1 := h1.cut 0 16 64 (by decide) (by decide) (by decide) (by decide)
      have r2 := h1.cut 16 32 64 (by decide) (by decide) (by decide) (by decide)
      have r3 := h1.cut 32 64 64 (by decide) (by decide) (by decide) (by decide)
      have e1 : ((bys (kysB c)).drop 0).take (16 - 0) = bys (k1B c) := by unfold k1B bys; simp
      have e2 : ((bys (kysB c)).drop 16).take (32 - 16) = bys (k2B c) := by unfold k2B bys; simp [List.take_drop, List.map_drop, List.map_take]
      have e3 : ((bys (kysB c)).drop 32).take (64 - 32) = bys (k3B c) := by
        unfold k3B bys
        rw [List.take_of_length_le (by simp [kysB_len])]
        simp
      rw [e1] at r1
      rw [e2] at r2
      rw [e3] at r3
      clear e1 e2 e3 h1
      unfold sliced at r1 r2 r3
      simp only [Option.map_some, Addr.add_lit, Nat.reduceMul, Nat.reduceAdd, Nat.reduceSub, Nat.reduceEqDiff, if_false] at r1 r2 r3
      have HR := Lib.hid (And.intro r1 (And.intro r2 r3))
      clear r1 r2 r3
      refine wp_region_px 8 [7] (fun w' : World => Kp0 wr w') (.quiet 0 (.quiet 1 (.quiet 2 (.quiet 3 (.quiet 4 (.quiet 5 (.quiet 6 (.wall 7 .done)))))))) (by kernel_rfl) (by kernel_rfl) (by kernel_rfl) (by kernel_rfl) (fun _ d _ _ _ h => by cases d <;> exact h) (Kp.refl _ _).drew ?_
      iterate 7
        refine px_quiet (v := ?_) rfl (by rfl) (fun wq hwq => ?_) rfl ?_
        rotate_left 1
        · go_simp
          try (with_reducible rfl)
        simp only [List.setIfInBounds_toArray, List.set_cons_zero, List.set_cons_succ]
      refine px_wall rfl (by rfl) (fun K hK => ?_)
      refine wp_store_blk 50 (.tmp 2) (.tmp 27) rfl w.heap.size _ [.slice none 0 0, .slice none 0 0, .slice none 0 0] [.slice (some ⟨w.heap.size + 1, 0, none⟩) 16 64, .slice (some ⟨w.heap.size + 1, 16, none⟩) 16 48, .slice (some ⟨w.heap.size + 1, 32, none⟩) 32 32] rfl rfl (HB3.out.at 0 rfl) (by kernel_rfl) rfl (fun v hv => by simp only [List.mem_cons, List.not_mem_nil, or_false] at hv; rcases hv with rfl | rfl | rfl <;> rfl) ?_
      intro w8 hA hK8
      have HB8 := Lib.hid (HB3.out.store 0 rfl hA hK8.drewL)
      refine hK (fun _ => True) _ _ trivial (px_done ?_)
      clear hK
      go_wp2
      refine ret_blk 2 50 50 w.heap.size _ _ rfl rfl (HB8.out.at 0 rfl) Tryd.underlying50 rfl (by kernel_rfl) rfl ?_
      obtain ⟨r1, r2, r3⟩ := HR.out
      have hN : ∀ o n cap b, Value.ownBlock (.slice (some ⟨w.heap.size + 1, o, none⟩) n cap) = some b → b < wr.heap.size → ¬ b = w.heap.size := by
        intro o n cap b hb _
        simp [Value.ownBlock] at hb
        omega
      exact ⟨_, _, _, rfl, r1.keep hK8.drewL (hN _ _ _), r2.keep hK8.drewL (hN _ _ _), r3.keep hK8.drewL (hN _ _ _), HB8.out.kp⟩
end Go.Proofs.YtnbfedmecmdjlaaDoor
