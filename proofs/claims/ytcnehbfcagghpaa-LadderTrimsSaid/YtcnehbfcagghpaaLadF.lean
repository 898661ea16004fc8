/- Two elements side by side. Package ladder: Trim, isZero. -/
import Derived.Test.YtcnehbfcagghpaaRead5m
import Derived.Test.YtcnehbfcagghpaaRegs
import Derived.Test.YtcnehbfcagghpaaMult4
import Derived.Test.YtcnehbfcagghpaaCurve
import Derived.Deep.DeepCutAuto
import Derived.Test.YtcnehbfcagghpaaMulB
namespace Go.Proofs.Ytcnehbfcagghpaa
open Go Go.RowKit
open Edw (nA nS nM)
theorem fe_len {cs : List Value} {n : Nat} (h : Fe El cs n) : cs.length = 5 := by
  obtain ⟨l, hl, rfl, _⟩ := fe_inv h
  rw [kis_len, hl.1]
theorem info_fr {cs ds : List Value} {m n : Nat} (h : Fe El cs m) (h2 : Fe El ds n) : (Try.prog.info? 60).map (·.size) = some (cs ++ ds).length := by
  rw [List.length_append, fe_len h, fe_len h2]; kernel_rfl
theorem ones_app {cs ds : List Value} (h : Ones cs) (h2 : Ones ds) : Ones (cs ++ ds) := by
  intro v hv
  rcases List.mem_append.1 hv with hv | hv
  · exact h v hv
  · exact h2 v hv
theorem blk_l {w : World} {g : Nat} {T : TypeId} {cs ds : List Value} (h : Blk w g T (cs ++ ds)) : w.rangeAt g 0 cs := by
  intro j v hv
  have hj := (List.getElem?_eq_some_iff.1 hv).1
  rw [Nat.zero_add, blk_cell h j, ← hv]
  simp only [List.getElem?_toArray]
  rw [List.getElem?_append_left hj]
theorem blk_r {w : World} {g k : Nat} {T : TypeId} {cs ds : List Value} (hk : cs.length = k) (h : Blk w g T (cs ++ ds)) : w.rangeAt g k ds := by
  subst hk
  intro j v hv
  rw [blk_cell h, ← hv]
  simp only [List.getElem?_toArray]
  rw [List.getElem?_append_right (Nat.le_add_right _ _), Nat.add_sub_cancel_left]
theorem blk_n {w : World} {g : Nat} {T : TypeId} {cs : List Value} (h : w.heap.size = g) : Blk (w.alloc (.cells cs.toArray T)) g T cs := by
  subst h
  exact blk0 w T cs
theorem bysOnes (l : List UInt8) : Ones (bys l) := by
  intro v hv
  simp only [bys, List.mem_map] at hv
  obtain ⟨x, _, rfl⟩ := hv
  rfl
theorem infoA32 (l : List UInt8) (h : l.length = 32) : (Try.prog.info? 32).map (·.size) = some (bys l).length := by rw [bys_len, h]; kernel_rfl
theorem Blk.setB {w : World} {g : Nat} {T : TypeId} {l : List UInt8} (h : Blk w g T (bys l)) (i : Nat) (x : UInt8) : Blk (w.setCell ⟨g, i, none⟩ (.int .u8 ((x.toNat : Nat) : Int))) g T (bys (l.set i x)) := by
  have := blk_set h i (.int .u8 ((x.toNat : Nat) : Int))
  unfold Blk
  rw [this]
  simp [bys, List.map_set]
theorem Blk.cellB {w : World} {g : Nat} {T : TypeId} {l : List UInt8} (h : Blk w g T (bys l)) (i : Nat) (hi : i < l.length) : w.cell? ⟨g, i, none⟩ = some (.int .u8 (((l[i]'hi).toNat : Nat) : Int)) := by
  rw [blk_cell h i]
  simp [bys, hi]
theorem fives {α : Type} (l : List α) (h : l.length = 5) : ∃ a b c d e, l = [a, b, c, d, e] := by
  match l, h with
  | [a, b, c, d, e], _ => exact ⟨a, b, c, d, e, rfl⟩
theorem build_fr (cs ds : List Value) (h : cs.length = 5) (h2 : ds.length = 5) (w : World) : (Instr.build 60 #[(0, .agg cs.toArray), (1, .agg ds.toArray)]).run Try.prog w = .ok (.agg (cs ++ ds).toArray) w := by
  obtain ⟨a, b, c, d, e, rfl⟩ := fives cs h
  obtain ⟨a', b', c', d', e', rfl⟩ := fives ds h2
  kernel_rfl
theorem build_fr1 (cs : List Value) (h : cs.length = 5) (w : World) : (Instr.build 60 #[(0, .agg cs.toArray)]).run Try.prog w = .ok (.agg (cs ++ kis .u64 z5).toArray) w := by
  obtain ⟨a, b, c, d, e, rfl⟩ := fives cs h
  kernel_rfl
theorem run_build_fr (w : World) (op : Oper) (a : Act) (t u : Tmp) (ho : op.op = .build 60 #[(0, .tmp t), (1, .tmp u)]) (cs ds : List Value) (h1 : cs.length = 5) (h2 : ds.length = 5) (hx : a.eval (.tmp t) = .agg cs.toArray) (hz : a.eval (.tmp u) = .agg ds.toArray) :
    (execOp a.eval op).run Try.prog w = .ok (.value (.agg (cs ++ ds).toArray)) w := by
  have e : Array.map (fun x : Nat × Operand => (x.1, a.eval x.2)) #[(0, .tmp t), (1, .tmp u)] = #[(0, .agg cs.toArray), (1, .agg ds.toArray)] := by
    simp [hx, hz]
  have hb := build_fr cs ds h1 h2 w
  unfold execOp
  simp only [ho]
  rw [e]
  simp [hb]
theorem run_build_fr1 (w : World) (op : Oper) (a : Act) (t : Tmp) (ho : op.op = .build 60 #[(0, .tmp t)]) (cs : List Value) (h1 : cs.length = 5) (hx : a.eval (.tmp t) = .agg cs.toArray) :
    (execOp a.eval op).run Try.prog w = .ok (.value (.agg (cs ++ kis .u64 z5).toArray)) w := by
  have e : Array.map (fun x : Nat × Operand => (x.1, a.eval x.2)) #[(0, .tmp t)] = #[(0, .agg cs.toArray)] := by
    simp [hx]
  have hb := build_fr1 cs h1 w
  unfold execOp
  simp only [ho]
  rw [e]
  simp [hb]
/-- An operation that yields a value in every world, in a straight region. -/
theorem wl_quiet_val {P : Program} {ops : Array Oper} {rest : List Oper} {op : Oper} {a : Act} {w : World} {Q : Exit → Act → World → Prop} {v : Value} (hgd : op.guard = none)
    (hv : ∀ w, (execOp a.eval op).run P w = .ok (.value v) w) (h : wpList P ops Q rest (a.put op.dst v) w) : wpList P ops Q (op :: rest) a w :=
  wpList_plain hgd fun _ hK => by
    unfold Oper.wp
    rw [hv w]
    exact hK _ _ h
/-- Two blocks' cells, returned. -/
theorem ret_blks {P : Program} {fn : Func} {R : Ending → World → Prop} {a : Act} {w : World} (t u : Tmp) (T T' U U' : TypeId) (g h : Nat) (cs ds : List Value) (d d' : TypeDesc) (hr : fn.results = #[.cell t T, .cell u T']) (hx : a.tmps.getD t undef = .pointer (some ⟨g, 0, none⟩)) (hy : a.tmps.getD u undef = .pointer (some ⟨h, 0, none⟩))
    (hA : Blk w g U cs) (hB : Blk w h U' ds) (hu : P.underlying T = some d) (hd : d.isRow = true) (hi : (P.info? T).map (·.size) = some cs.length) (hu' : P.underlying T' = some d') (hd' : d'.isRow = true) (hi' : (P.info? T').map (·.size) = some ds.length) (hdf : a.defers = []) (hR : R (.returned (.tuple #[.agg cs.toArray, .agg ds.toArray])) w) : bodyPost P fn R .ret a w := by
  refine ⟨hdf, _, ?_, hR⟩
  have h1 := run_loadVar_mid (P := P) w g 0 T cs d hA.range hu hd hi
  have h2 := run_loadVar_mid (P := P) w h 0 T' ds d' hB.range hu' hd' hi'
  rw [Array.getD_eq_getD_getElem?] at hx hy
  simp [results, hr, hx, hy, asAddr, h1, h2]
end Go.Proofs.Ytcnehbfcagghpaa
namespace Go.Proofs.Ytcnehbfcagghpaa
open Go Go.RowKit
theorem not7 (x : Nat) (hx : x < 256) : bits .andNot .u8 (x : Int) 7 = (((UInt8.ofNat (x - x % 8)).toNat : Nat) : Int) := by
  have : ∀ x : Fin 256, bits .andNot .u8 ((x.val : Nat) : Int) 7 = (((UInt8.ofNat (x.val - x.val % 8)).toNat : Nat) : Int) := by decide +kernel
  exact this ⟨x, hx⟩
theorem not128 (x : Nat) (hx : x < 256) : bits .andNot .u8 (x : Int) 128 = ((x % 128 : Nat) : Int) ∧ bits .or .u8 ((x % 128 : Nat) : Int) 64 = (((UInt8.ofNat (x % 64 + 64)).toNat : Nat) : Int) := by
  have : ∀ x : Fin 256, bits .andNot .u8 ((x.val : Nat) : Int) 128 = ((x.val % 128 : Nat) : Int) ∧ bits .or .u8 ((x.val % 128 : Nat) : Int) 64 = (((UInt8.ofNat (x.val % 64 + 64)).toNat : Nat) : Int) := by decide +kernel
  exact this ⟨x, hx⟩
def z32 : List UInt8 := List.replicate 32 0
set_option maxRecDepth 20000 in
set_option maxHeartbeats 4000000 in
theorem trim4_any (l : List UInt8) (w : World) (hl : l.length = 32) :
    Calls Try.prog 14 #[.agg (bys l).toArray] w fun e w' => e = .returned (.agg (bys (trimB l)).toArray) ∧ Kp0 w w' := by
  have HL := Lib.hid hl
  clear hl
  go_enter Try.func14, Try.ntmps14
  go_upto_region 1 with (fail)
  obtain ⟨w0, hw0⟩ : ∃ w0, w0 = (w.alloc (.cells (bys l).toArray 32)).alloc (.cells (bys z32).toArray 32) := ⟨_, rfl⟩
  have H1 : Hid (Blk w0 w.heap.size 32 (bys l)) := Lib.hid (by rw [hw0]; exact (blk0 w _ _).kp0 ((Kp.refl _ _).alloc _))
  have H2 : Hid (Blk w0 (w.heap.size + 1) 32 (bys z32)) := Lib.hid (by rw [hw0]; exact blk_n (w := w.alloc (.cells (bys l).toArray 32)) (by simp))
  have HK : Hid (Kp0 w w0) := Lib.hid (by rw [hw0]; exact ((Kp.refl _ w).alloc _).alloc _)
  change Code.wp _ _ _ _ ((w.alloc (.cells (bys l).toArray 32)).alloc (.cells (bys z32).toArray 32))
  rw [← hw0]
  clear hw0
  obtain ⟨x0, hx0⟩ : ∃ x, x = (l[0]'(by rw [HL.out]; omega)).toNat := ⟨_, rfl⟩
  obtain ⟨x31, hx31⟩ : ∃ x, x = (l[31]'(by rw [HL.out]; omega)).toNat := ⟨_, rfl⟩
  have hc0 := H1.out.cellB 0 (by rw [HL.out]; omega)
  have hc31 := H1.out.cellB 31 (by rw [HL.out]; omega)
  rw [← hx0] at hc0
  rw [← hx31] at hc31
  have hf0 := blk_frozen H1.out 0
  have hf31 := blk_frozen H1.out 31
  have hb0 : x0 < 256 := by rw [hx0]; exact UInt8.toNat_lt _
  have hb31 : x31 < 256 := by rw [hx31]; exact UInt8.toNat_lt _
  have e1 := not7 x0 hb0
  have e2 := (not128 x31 hb31).1
  have e3 := (not128 x31 hb31).2
  have HT : Hid (((l.set 0 (UInt8.ofNat (x0 - x0 % 8))).set 31 (UInt8.ofNat (x31 % 128))).set 31 (UInt8.ofNat (x31 % 64 + 64)) = trimB l) := Lib.hid (by
    rw [List.set_set, trimB, List.getD_eq_getElem?_getD, List.getElem?_eq_getElem (by rw [HL.out]; omega), List.getD_eq_getElem?_getD, List.getElem?_eq_getElem (by rw [HL.out]; omega), Option.getD_some, Option.getD_some, ← hx0, ← hx31])
  have HB := Lib.hid (((H1.out.setB 0 (UInt8.ofNat (x0 - x0 % 8))).setB 31 (UInt8.ofNat (x31 % 128))).setB 31 (UInt8.ofNat (x31 % 64 + 64)))
  have E128 : Hid (((UInt8.ofNat (x31 % 128)).toNat : Int) = ((x31 % 128 : Nat) : Int)) := Lib.hid (by rw [UInt8.toNat_ofNat']; omega)
  rw [HT.out, E128.out] at HB
  have HTL : Hid ((trimB l).length = 32) := Lib.hid (trimB_len HL.out)
  clear hx0 hx31 HT E128
  generalize x31 % 128 = y at e2 e3 HB
  generalize (UInt8.ofNat (x0 - x0 % 8)).toNat = a at e1 HB
  generalize (UInt8.ofNat (x31 % 64 + 64)).toNat = b at e3 HB
  go_upto_region 4 with (fail)
  clear hc0 hc31 hf0 hf31 e1 e2 e3
  obtain ⟨w3, hw3⟩ : ∃ w3, w3 = ((w0.setCell ⟨w.heap.size, 0, none⟩ (.int .u8 (a : Int))).setCell ⟨w.heap.size, 31, none⟩ (.int .u8 (y : Int))).setCell ⟨w.heap.size, 31, none⟩ (.int .u8 (b : Int)) := ⟨_, rfl⟩
  have HK3 : Hid (Kp (fun g => g = w.heap.size) w0 w3) := Lib.hid (by rw [hw3]; exact (((Kp.refl (fun g => g = w.heap.size) w0).setCell (p := ⟨w.heap.size, 0, none⟩) (fun _ => rfl) _).setCell (p := ⟨w.heap.size, 31, none⟩) (fun _ => rfl) _).setCell (p := ⟨w.heap.size, 31, none⟩) (fun _ => rfl) _)
  rw [← hw3] at HB
  rw [← hw3]
  clear hw3
  go_wp2_with (first
    | (refine wl_load_blk rfl 32 (.tmp 1) rfl w.heap.size _ (bys (trimB l)) rfl HB.out _ Try.underlying32 rfl (infoA32 _ HTL.out) ?_)
    | (refine wl_store_blk rfl 32 (.tmp 2) (.tmp 15) rfl (w.heap.size + 1) _ (bys z32) (bys (trimB l)) rfl rfl (H2.out.keep HK3.out (fun e => by omega)) (infoA32 _ HTL.out) (by rw [bys_len, bys_len, HTL.out]; rfl) (bysOnes _) ?_; intro w4 hA4 hK4; have HA4 := Lib.hid hA4; have HK4 := Lib.hid hK4; clear hA4 hK4))
  refine ret_blk 2 32 32 (w.heap.size + 1) (bys (trimB l)) _ rfl rfl HA4.out Try.underlying32 rfl (infoA32 _ HTL.out) rfl ?_
  exact ⟨rfl, (HK.out.trans HK3.out (fun _ _ h => h) (fun i hi e => by omega)).trans HK4.out (fun _ _ h => h) (fun i hi e => by omega)⟩
/-- All bytes are 0. -/
def allZ (l : List UInt8) : Bool := l.all (fun c => c == 0)
theorem allZ_snoc (l : List UInt8) (k : Nat) (h : k < l.length) : allZ (l.take (k + 1)) = (allZ (l.take k) && (l[k] == 0)) := by
  rw [allZ, List.take_succ_eq_append_getElem h, List.all_append, List.all_cons, List.all_nil, Bool.and_true]
  rfl
theorem or_zero (x y : Nat) (hx : x < 256) (hy : y < 256) : ∃ z : Nat, bits .or .u8 (x : Int) (y : Int) = (z : Int) ∧ z < 256 ∧ (z == 0) = ((x == 0) && (y == 0)) := by
  refine ⟨x ||| y, (bits_nat .u8 8 (by decide) wraps_u8 x y hx hy).2, Nat.or_lt_two_pow (n := 8) hx hy, ?_⟩
  rw [Bool.eq_iff_iff, Bool.and_eq_true, beq_iff_eq, beq_iff_eq, beq_iff_eq, Nat.or_eq_zero_iff]
set_option maxRecDepth 20000 in
set_option maxHeartbeats 4000000 in
theorem isZero_any (v : Value) (l : List UInt8) (w : World) (hv : Rd w v (bys l)) (hn : 0 < l.length) :
    Calls Try.prog 26 #[v] w fun e w' => e = .returned (.bool (allZ l)) ∧ w = w' := by
  obtain ⟨b, o, cap, rfl, hc1, hc2, hcell⟩ := hv.posB hn
  have HC := Lib.hid hcell
  obtain ⟨bb, hbb⟩ : ∃ bb, bb = allZ l := ⟨_, rfl⟩
  have HBB := Lib.hid hbb
  rw [← hbb]
  clear hcell hv hbb
  go_enter Try.func26, Try.ntmps26
  go_wp2
  go_loop [3, 8] (fun a i => ∃ k x : Nat, k ≤ l.length ∧ i = .int .i64 k ∧ a = .int .u8 (x : Int) ∧ x < 256 ∧ (x == 0) = allZ (l.take k)) (fun _ i => l.length - (intOf i).toNat)
  case atStart => exact ⟨0, 0, Nat.zero_le _, rfl, rfl, by omega, by rw [List.take_zero]; rfl⟩
  case round =>
    obtain ⟨k, x, hk, rfl, rfl, hx, hz⟩ := hrel
    have HZ := Lib.hid hz
    clear hz
    by_cases h : k < l.length
    · have hcl := HC.out k h
      obtain ⟨y, hy⟩ : ∃ y, y = (l[k]'h).toNat := ⟨_, rfl⟩
      have hyb : y < 256 := by rw [hy]; exact UInt8.toNat_lt _
      rw [← hy] at hcl
      obtain ⟨z, hor, hzb, hzz⟩ := or_zero x y hx hyb
      have HS : Hid ((z == 0) = allZ (l.take (k + 1))) := Lib.hid (by
        rw [allZ_snoc l k h, hzz, HZ.out, hy]
        refine congrArg _ ?_
        rw [Bool.eq_iff_iff, beq_iff_eq, beq_iff_eq, ← UInt8.toNat_inj]
        rfl)
      clear hy hzz
      go_wp2
      go_round
      case rel => exact ⟨k + 1, z, by omega, by go_num, rfl, hzb, HS.out⟩
      case measure => simp [intOf]; omega
    · have hkl : k = l.length := by omega
      subst hkl
      rw [List.take_length] at HZ
      have he : ((x : Int) == 0) = bb := by rw [HBB.out, ← HZ.out, Bool.eq_iff_iff, beq_iff_eq, beq_iff_eq]; omega
      clear HZ
      go_wp2
      go_ret
      exact ⟨rfl, rfl⟩
end Go.Proofs.Ytcnehbfcagghpaa
