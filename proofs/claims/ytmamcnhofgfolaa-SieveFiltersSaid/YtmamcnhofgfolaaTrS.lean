/- Package sieve: what an element of a node's name asks of it. -/
import Derived.Test.YtmamcnhofgfolaaTrR
namespace Go.Proofs.Ytmamcnhofgfolaa
open Go Go.RowKit
/-- The leaf that matched, by its name and its value alone. -/
def madeE (k : PE) : PE := .mk [] k.nm [] k.tx []
def askL (d : PD) (ns : List PN) : List PE → List PE → Bool → List PE × Bool
  | [], ins, all => if all then ([], true) else (ins, false)
  | k :: ks, ins, all => if isMatch d k then (if hasL ns k.nm k.tx then askL d ns ks (ins ++ [madeE k]) all else ([], false)) else askL d ns ks (ins ++ [k]) false
def askT (d : PD) (n : PN) (e : PE) : List PE × Bool :=
  if d.kd = 3 then ([], e.ks.isEmpty && (e.tx.isEmpty || e.tx == n.vl)) else if e.tx.isEmpty then askL d n.ks e.ks [] true else ([], false)
/-- A row of one's own of elements. -/
def AccE (B : Nat) (G : Nat → Prop) (w : World) (v : Value) (es : List PE) : Prop := ∃ cs, w.ownsRow B 38 5 v es.length cs ∧ ElsV G w es cs
/-- A row in new blocks of elements that lead to what was there. -/
def NewE (w0 : World) (G : Nat → Prop) (w : World) (v : Value) (es : List PE) : Prop := ∃ cs, RdF (fun i => w0.heap.size ≤ i) w 5 v es.length cs ∧ ElsV (fun i => G i ∧ i < w0.heap.size) w es cs
theorem NewE.nil (w0 : World) (G : Nat → Prop) (w : World) : NewE w0 G w (.slice none 0 0) [] := ⟨[], RdF.nil _ _ _, by unfold ElsV; rfl⟩
section
variable {B : Nat} {F G : Nat → Prop} {w0 w w1 : World} {v : Value} {es : List PE}
theorem AccE.nil (B : Nat) (G : Nat → Prop) (w : World) : AccE B G w (.slice none 0 0) [] := ⟨[], World.ownsRow_nil _ _ _ _, by unfold ElsV; rfl⟩
theorem AccE.kp0 (h : AccE B G w v es) (hk : Kp0 w w1) : AccE B G w1 v es := by
  obtain ⟨cs, h1, h2⟩ := h
  exact ⟨cs, own_keepB h1 hk (fun _ _ h => h), ElsV.keep hk (fun _ _ h => h) (fun _ h => h) es cs h2⟩
theorem AccE.new (h : AccE B (fun i => G i ∧ i < w0.heap.size) w v es) (hB : w0.heap.size ≤ B) : NewE w0 G w v es := by
  obtain ⟨cs, h1, h2⟩ := h
  exact ⟨cs, RdF.of_own h1 (fun g hg => Nat.le_trans hB (World.ownsRow.lt h1 g hg).1), h2⟩
theorem ElR.els {e : PE} {a c : Value} (h : ElR F w e a c) : ElsV F w [e] (evl e a c) := by
  obtain ⟨sp, nm, at_, tx, ks⟩ := e
  obtain ⟨cs, h1, h2⟩ := h.ks
  unfold ElsV
  refine ⟨_, _, _, _, _, [], rfl, ?_, by unfold ElsV; rfl⟩
  unfold ElV
  exact ⟨rfl, rfl, h.at_, rfl, cs, h1, h2⟩
theorem RowE.lt {es : List PE} (h : RowE F w v es) : RowE (fun i => F i ∧ i < w.heap.size) w v es := by
  obtain ⟨cs, h1, h2⟩ := h
  exact ⟨cs, h1.lt, ElsV.keepL (Kp.refl (fun _ => False) w) (fun _ _ _ h => h) (fun i h hl => ⟨h, hl⟩) es cs h2⟩
theorem ElR.lt {e : PE} {a c : Value} (h : ElR F w e a c) : ElR (fun i => F i ∧ i < w.heap.size) w e a c := ⟨h.at_.lt, h.ks.lt⟩
theorem ElsV.app : ∀ (a b : List PE) (ca cb : List Value), ElsV F w a ca → ElsV F w b cb → ElsV F w (a ++ b) (ca ++ cb)
  | [], b, ca, cb, h, hb => by unfold ElsV at h; subst h; exact hb
  | e :: es, b, ca, cb, h, hb => by
    unfold ElsV at h
    obtain ⟨c0, c1, c2, c3, c4, rest, rfl, h2, h3⟩ := h
    rw [List.cons_append]
    unfold ElsV
    exact ⟨c0, c1, c2, c3, c4, rest ++ cb, rfl, h2, ElsV.app es b rest cb h3 hb⟩
theorem ElsV.onesV : ∀ (es : List PE) (cs : List Value), ElsV F w es cs → ∀ u ∈ cs, u.oneCell' = true
  | [], cs, h, u, hu => by unfold ElsV at h; subst h; simp at hu
  | .mk sp nm at_ tx ks :: es, cs, h, u, hu => by
    unfold ElsV at h
    obtain ⟨c0, c1, c2, c3, c4, rest, rfl, h2, h3⟩ := h
    unfold ElV at h2
    obtain ⟨rfl, rfl, ha, rfl, kc, hk, hks⟩ := h2
    obtain ⟨_, _, ea, _⟩ := ha.shape
    obtain ⟨_, _, ek, _⟩ := hk.shape
    simp only [List.mem_cons] at hu
    rcases hu with rfl | rfl | rfl | rfl | rfl | hu
    · rfl
    · rfl
    · rw [ea]; rfl
    · rfl
    · rw [ek]; rfl
    · exact ElsV.onesV es rest h3 u hu
end
theorem infoE : (Try.prog.info? 38).map (fun i => (i.zero, i.size, i.bytes)) = some (some (.agg el0.toArray), 5, 96) := by kernel_rfl
/-- One more, or several. -/
theorem AccE.more {B : Nat} {G : Nat → Prop} {w w1 : World} {v v' : Value} {es fs : List PE} {cs ds : List Value} (h1 : w.ownsRow B 38 5 v es.length cs) (h2 : ElsV G w es cs) (hG : ∀ i, G i → i < B) (h3 : ElsV G w fs ds)
    (hk : Kp (fun b => v.ownBlock = some b) w w1) (ho : w1.ownsRow B 38 5 v' (es.length + fs.length) (cs ++ ds)) : AccE B G w1 v' (es ++ fs) := by
  have hs : ∀ i, G i → ¬ v.ownBlock = some i := fun i hi e => by
    have := (World.ownsRow.lt h1 i e).1
    have := hG i hi
    omega
  refine ⟨cs ++ ds, by rw [List.length_append]; exact ho, ?_⟩
  exact ElsV.app es fs cs ds (ElsV.keep hk hs (fun _ h => h) es cs h2) (ElsV.keep hk hs (fun _ h => h) fs ds h3)
theorem askT_leaf {d : PD} {n : PN} {e : PE} (h : (d.kd == 3) = true) : askT d n e = ([], e.ks.isEmpty && (e.tx.isEmpty || e.tx == n.vl)) := by
  unfold askT
  rw [if_pos (beq_iff_eq.1 h)]
theorem askT_text {d : PD} {n : PN} {e : PE} (h : (d.kd == 3) = false) (ht : e.tx.isEmpty = false) : askT d n e = ([], false) := by
  unfold askT
  rw [if_neg (fun h1 => by rw [beq_iff_eq.2 h1] at h; cases h), ht]
  rfl
theorem askT_kids {d : PD} {n : PN} {e : PE} (h : (d.kd == 3) = false) (ht : e.tx.isEmpty = true) : askT d n e = askL d n.ks e.ks [] true := by
  unfold askT
  rw [if_neg (fun h1 => by rw [beq_iff_eq.2 h1] at h; cases h), ht]
  rfl
set_option maxRecDepth 20000 in
set_option maxHeartbeats 4000000 in
theorem asked_any {F G H : Nat → Prop} (d : PD) (n : PN) (e : PE) (da db dc kv ea ec : Value) (w : World) (hd : DfR F w d da db dc) (hn : RowN G w kv n.ks) (he : ElR H w e ea ec) (hl : e.ks.length ≤ 1000000) :
    Calls Try.prog 33 #[DefA d da db dc, NodA n kv, ElmA e ea ec] w fun r w' => (∃ v, r = .returned (.tuple #[v, .bool (askT d n e).2]) ∧ NewE w H w' v (askT d n e).1) ∧ Kp0 w w' := by
  have HD := Lib.hid hd
  have HN := Lib.hid hn
  have HE := Lib.hid he
  have HL := Lib.hid hl
  obtain ⟨eo, ecp, rfl, _, _, _⟩ := he.ks.shape
  clear hd hn he hl
  unfold DefA NodA ElmA
  go_enter Try.func33, Try.ntmps33
  go_upto_region 1 with (fail)
  have HB : Hid (Bks w (((w.alloc (.cells #[.string (S d.nm), .int .i64 d.kd, .int .i64 d.ty, da, .bool d.mu, db, dc] 35)).alloc (.cells #[.string (S n.nm), .string (S n.vl), kv] 40)).alloc (.cells #[.string (S e.sp), .string (S e.nm), ea, .string (S e.tx), .slice eo e.ks.length ecp] 38)) [(w.heap.size, 35, dvl d da db dc), (w.heap.size + 1, 40, nvl n kv), (w.heap.size + 1 + 1, 38, evl e ea (.slice eo e.ks.length ecp))]) :=
    Lib.hid ((((Bks.nil w).push 35 (dvl d da db dc) rfl).push 40 (nvl n kv) (g := w.heap.size + 1) (by simp)).push 38 (evl e ea (.slice eo e.ks.length ecp)) (g := w.heap.size + 1 + 1) (by simp))
  generalize (((w.alloc (.cells #[.string (S d.nm), .int .i64 d.kd, .int .i64 d.ty, da, .bool d.mu, db, dc] 35)).alloc (.cells #[.string (S n.nm), .string (S n.vl), kv] 40)).alloc (.cells #[.string (S e.sp), .string (S e.nm), ea, .string (S e.tx), .slice eo e.ks.length ecp] 38)) = w1 at HB ⊢
  obtain ⟨g5, hg5⟩ : ∃ x, x = w.heap.size + 1 + 1 := ⟨_, rfl⟩
  obtain ⟨g4, hg4⟩ : ∃ x, x = w.heap.size + 1 := ⟨_, rfl⟩
  obtain ⟨g3, hg3⟩ : ∃ x, x = w.heap.size := ⟨_, rfl⟩
  rw [← hg5, ← hg4, ← hg3] at HB
  rw [← hg5, ← hg4, ← hg3]
  have HG : Hid (w.heap.size = g3 ∧ g4 = g3 + 1 ∧ g5 = g3 + 2) := Lib.hid (by omega)
  clear hg5 hg4 hg3
  obtain ⟨m, hm⟩ : ∃ x, x = e.ks.length := ⟨_, rfl⟩
  rw [← hm] at HB
  rw [← hm]
  have HM := Lib.hid hm
  clear hm
  have k1 := (HB.out.at 0 rfl).cellV 1 (v := .int .i64 d.kd) rfl
  have n1 := (HB.out.at 1 rfl).cellV 1 (v := .string (S n.vl)) rfl
  have e3 := (HB.out.at 2 rfl).cellV 3 (v := .string (S e.tx)) rfl
  have e4 := (HB.out.at 2 rfl).cellV 4 (v := .slice eo m ecp) rfl
  cases h3 : (d.kd == 3)
  · have H3 := Lib.hid h3
    cases ht : ((S e.tx).toList == [])
    · have HR : Hid (askT d n e = ([], false)) := Lib.hid (askT_text H3.out (by rw [← tx_empty]; exact ht))
      have t1 : ((S e.tx).toList != []) = true := by rw [bne, ht]; rfl
      clear H3
      go_wp2
      go_ret2
      exact ⟨⟨.slice none 0 0, by rw [HR.out]; rfl, by rw [HR.out]; exact NewE.nil _ _ _⟩, HB.out.kp⟩
    · have HF0 : Hid (askT d n e = askL d n.ks e.ks [] true) := Lib.hid (askT_kids H3.out (by rw [← tx_empty]; exact ht))
      have t1 : ((S e.tx).toList != []) = false := by rw [bne, ht]; rfl
      clear H3
      go_wp2
      clear k1 n1 e3 e4
      go_loopg [6, 7, 35] m (fun gg ins al i wr => ∃ (k : Nat) (es : List PE) (b : Bool), i = .int .i64 k ∧ al = .bool b ∧ k ≤ m ∧ gg = m - k ∧ Hid (askT d n e = askL d n.ks (e.ks.drop k) es b) ∧ Hid (AccE w1.heap.size (fun i => H i ∧ i < w.heap.size) wr ins es) ∧ Hid (es.length ≤ k) ∧ Kp0 w1 wr)
      case atStart => exact ⟨0, [], true, rfl, rfl, Nat.zero_le _, rfl, Lib.hid HF0.out, Lib.hid (AccE.nil _ _ _), Lib.hid (Nat.zero_le _), Kp.refl _ _⟩
      case round =>
        obtain ⟨k, es, b, rfl, rfl, hk, rfl, HF, HA, HLN, hkp⟩ := hrel
        have HK := Lib.hid hkp
        clear hkp
        have HBW := Lib.hid (HB.out.kp0 HK.out)
        by_cases h : k < m
        · have i1 : (k : Int) < (m : Int) := by omega
          have h' : k < e.ks.length := by have := HM.out; omega
          obtain ⟨b1, o1, cap1, xa, xc, e1, _, _, D0, D1, D2, D3, D4, hel, _, _⟩ := HE.out.ks.at k h'
          have HKW := Lib.hid (HB.out.kp.tr HK.out)
          have hm := HM.out
          rw [← hm] at e1
          simp only [Value.slice.injEq] at e1
          obtain ⟨rfl, _, rfl⟩ := e1
          have HXF := Lib.hid (hel.lt.kp0 HKW.out)
          have d0 := HKW.out.cell D0 (fun h => h)
          have d1 := HKW.out.cell D1 (fun h => h)
          have d2 := HKW.out.cell D2 (fun h => h)
          have d3 := HKW.out.cell D3 (fun h => h)
          have d4 := HKW.out.cell D4 (fun h => h)
          have HST : Hid (askT d n e = if isMatch d (e.ks[k]'h') then (if hasL n.ks (e.ks[k]'h').nm (e.ks[k]'h').tx then askL d n.ks (e.ks.drop (k + 1)) (es ++ [madeE (e.ks[k]'h')]) b else ([], false)) else askL d n.ks (e.ks.drop (k + 1)) (es ++ [(e.ks[k]'h')]) false) := Lib.hid (by rw [HF.out, List.drop_eq_getElem_cons h', askL])
          clear hel HF hm D0 D1 D2 D3 D4
          generalize e.ks[k]'h' = el at d0 d1 d2 d3 d4 HST HXF
          go_upto_region 9 with (first
            | (refine wl_alloc_as asEl rfl rfl ?_
               intro w2 g9 hw hg
               have HB2 : Hid (Blk w2 g9 38 el0) := Lib.hid (by rw [hw, hg]; exact blk0 _ _ _)
               have HK2 : Hid (Kp0 wr w2) := Lib.hid (by rw [hw]; exact (Kp.refl _ _).alloc _)
               have HG9 : Hid (wr.heap.size ≤ g9 ∧ g9 < w2.heap.size) := Lib.hid (by rw [hw, hg]; simp)
               clear hw hg)
            | (refine wl_store_blk rfl 38 (.tmp 9) (.tmp 38) rfl g9 _ el0 (evl el xa xc) rfl rfl HB2.out infoEl rfl HXF.out.ones ?_
               intro w3 hA hk3
               have HB3 := Lib.hid hA
               have HK3 := Lib.hid hk3
               clear hA hk3))
          try simp only [Act.put]
          try simp only [List.setIfInBounds_toArray, List.set_cons_zero, List.set_cons_succ]
          have HKB : Hid (Kp0 wr w3) := Lib.hid (HK2.out.trans HK3.out (fun _ _ h => h) (fun i hi e => by have := HG9.out.1; omega))
          have HK := Lib.hid (HK.out.tr HKB.out)
          have HBW := Lib.hid (HBW.out.kp0 HKB.out)
          have HXF := Lib.hid (HXF.out.kp0 HKB.out)
          have HA := Lib.hid (HA.out.kp0 HKB.out)
          clear HKB HK2 HK3 HB2 HG9 HKW d0 d1 d2 d3 d4
          have q0 := (HBW.out.at 0 rfl).cellV 0 (v := .string (S d.nm)) rfl
          have q1 := (HBW.out.at 0 rfl).cellV 1 (v := .int .i64 d.kd) rfl
          have q2 := (HBW.out.at 0 rfl).cellV 2 (v := .int .i64 d.ty) rfl
          have q3 := (HBW.out.at 0 rfl).cellV 3 (v := da) rfl
          have q4 := (HBW.out.at 0 rfl).cellV 4 (v := .bool d.mu) rfl
          have q5 := (HBW.out.at 0 rfl).cellV 5 (v := db) rfl
          have q6 := (HBW.out.at 0 rfl).cellV 6 (v := dc) rfl
          have x0 := HB3.out.cellV 0 (v := .string (S el.sp)) rfl
          have x1 := HB3.out.cellV 1 (v := .string (S el.nm)) rfl
          have x2 := HB3.out.cellV 2 (v := xa) rfl
          have x3 := HB3.out.cellV 3 (v := .string (S el.tx)) rfl
          have x4 := HB3.out.cellV 4 (v := xc) rfl
          cases hm : isMatch d el with
          | false =>
            have HST : Hid (askT d n e = askL d n.ks (e.ks.drop (k + 1)) (es ++ [el]) false) := Lib.hid (by rw [HST.out, hm]; rfl)
            have HMB := Lib.hid hm
            clear hm
            go_upto_region 11 with (go_at_call 45; refine (matches_any d el da db dc xa xc _ (HD.out.kp0 (HB.out.kp.tr HK.out)) HXF.out).mono ?_; rw [HMB.out]; rintro r w4 ⟨rfl, hk4⟩; have HK4 := Lib.hid hk4; clear hk4)
            have HK := Lib.hid (HK.out.tr HK4.out)
            have HBW := Lib.hid (HBW.out.kp0 HK4.out)
            have HB3 := Lib.hid (HB3.out.kp0 HK4.out)
            have HXF := Lib.hid (HXF.out.kp0 HK4.out)
            have HA := Lib.hid (HA.out.kp0 HK4.out)
            clear HK4 q0 q1 q2 q3 q4 q5 q6 x0 x1 x2 x3 x4
            have x0 := HB3.out.cellV 0 (v := .string (S el.sp)) rfl
            have x1 := HB3.out.cellV 1 (v := .string (S el.nm)) rfl
            have x2 := HB3.out.cellV 2 (v := xa) rfl
            have x3 := HB3.out.cellV 3 (v := .string (S el.tx)) rfl
            have x4 := HB3.out.cellV 4 (v := xc) rfl
            have hAC := HA.out
            obtain ⟨cs, hO, hE⟩ := hAC
            have HO : Hid (∀ o, (w4.alloc o).ownsRow w1.heap.size 38 5 u6 es.length cs) := Lib.hid (fun o => own_keepB hO ((Kp.refl (fun _ => False) _).alloc o) (fun _ _ h => h))
            have HE1 : Hid (∀ o, ElsV (fun i => H i ∧ i < w.heap.size) (w4.alloc o) es cs) := Lib.hid (fun o => ElsV.keep ((Kp.refl (fun _ => False) _).alloc o) (fun _ _ h => h) (fun _ h => h) _ _ hE)
            have HE2 : Hid (∀ o, ElsV (fun i => H i ∧ i < w.heap.size) (w4.alloc o) [el] (evl el xa xc)) := Lib.hid (fun o => ElsV.keep ((Kp.refl (fun _ => False) _).alloc o) (fun _ _ h => h) (fun _ h => h) _ _ HXF.out.els)
            have HMD := Lib.hid (RdF.made (T := 38) (k := 5) (cs := evl el xa xc) w4 rfl)
            have HON := Lib.hid HXF.out.ones
            have HSZ : Hid (w.heap.size ≤ w1.heap.size ∧ w1.heap.size ≤ w4.heap.size) := Lib.hid ⟨HB.out.kp.size, HK.out.size⟩
            have HOB : Hid (∀ b, u6.ownBlock = some b → w1.heap.size ≤ b) := Lib.hid (fun b hb => (World.ownsRow.lt hO b hb).1)
            clear hO hE
            go_wp2_with (at_builtin
                         refine wl_append_rk rfl (.tmp 43) (.tmp 45) 22 rfl Try.underlying22 infoE rfl (by decide) rfl (HO.out _) rfl HMD.out HON.out (by have := HLN.out; have := HL.out; have := HM.out; unfold maxLen; omega) (by have := HLN.out; have := HL.out; have := HM.out; omega) (by have := HSZ.out; simp; omega) ?_
                         intro u6b wz ho hkz hbz
                         have HZ := Lib.hid (AccE.more (fs := [el]) (HO.out _) (HE1.out _) (fun i hi => Nat.lt_of_lt_of_le hi.2 HSZ.out.1) (HE2.out _) hkz ho)
                         have HKZ : Hid (Kp0 w1 wz) := Lib.hid ((HK.out.alloc _).trans hkz (fun _ _ h => h) (fun i hi e => by have := HOB.out i e; omega))
                         clear ho hkz hbz)
            go_roundg (m - (k + 1))
            case measure => omega
            case rel => exact ⟨k + 1, es ++ [el], false, by go_num, rfl, by omega, rfl, HST, HZ, Lib.hid (by rw [List.length_append]; have := HLN.out; simp; omega), HKZ.out⟩
          | true =>
            have HST : Hid (askT d n e = if hasL n.ks el.nm el.tx then askL d n.ks (e.ks.drop (k + 1)) (es ++ [madeE el]) b else ([], false)) := Lib.hid (by rw [HST.out, hm]; rfl)
            have HMB := Lib.hid hm
            clear hm
            go_upto_region 12 with (go_at_call 45; refine (matches_any d el da db dc xa xc _ (HD.out.kp0 (HB.out.kp.tr HK.out)) HXF.out).mono ?_; rw [HMB.out]; rintro r w4 ⟨rfl, hk4⟩; have HK4 := Lib.hid hk4; clear hk4)
            have HK := Lib.hid (HK.out.tr HK4.out)
            have HBW := Lib.hid (HBW.out.kp0 HK4.out)
            have HB3 := Lib.hid (HB3.out.kp0 HK4.out)
            have HXF := Lib.hid (HXF.out.kp0 HK4.out)
            have HA := Lib.hid (HA.out.kp0 HK4.out)
            clear HK4 q0 q1 q2 q3 q4 q5 q6 x0 x1 x2 x3 x4
            have x0 := HB3.out.cellV 0 (v := .string (S el.sp)) rfl
            have x1 := HB3.out.cellV 1 (v := .string (S el.nm)) rfl
            have x2 := HB3.out.cellV 2 (v := xa) rfl
            have x3 := HB3.out.cellV 3 (v := .string (S el.tx)) rfl
            have x4 := HB3.out.cellV 4 (v := xc) rfl
            have n0 := (HBW.out.at 1 rfl).cellV 0 (v := .string (S n.nm)) rfl
            have n1 := (HBW.out.at 1 rfl).cellV 1 (v := .string (S n.vl)) rfl
            have n2 := (HBW.out.at 1 rfl).cellV 2 (v := kv) rfl
            cases hh : hasL n.ks el.nm el.tx with
            | false =>
              have HR : Hid (askT d n e = ([], false)) := Lib.hid (by rw [HST.out, hh]; rfl)
              have HMB := Lib.hid hh
              clear hh
              go_wp2_with (go_at_call 46; refine (hasL_any n kv el.nm el.tx _ (HN.out.kp0 (HB.out.kp.tr HK.out))).mono ?_; rw [HMB.out]; rintro r w5 ⟨rfl, hk5⟩; have HK5 := Lib.hid (HK.out.tr hk5); clear hk5)
              go_ret2
              exact ⟨⟨.slice none 0 0, by rw [HR.out]; rfl, by rw [HR.out]; exact NewE.nil _ _ _⟩, HB.out.kp.tr HK5.out⟩
            | true =>
              have HST : Hid (askT d n e = askL d n.ks (e.ks.drop (k + 1)) (es ++ [madeE el]) b) := Lib.hid (by rw [HST.out, hh]; rfl)
              have HMB := Lib.hid hh
              clear hh
              go_upto_region 14 with (go_at_call 46; refine (hasL_any n kv el.nm el.tx _ (HN.out.kp0 (HB.out.kp.tr HK.out))).mono ?_; rw [HMB.out]; rintro r w5 ⟨rfl, hk5⟩; have HK5 := Lib.hid hk5; clear hk5)
              have HK := Lib.hid (HK.out.tr HK5.out)
              have HA := Lib.hid (HA.out.kp0 HK5.out)
              have HB3 := Lib.hid (HB3.out.kp0 HK5.out)
              clear HK5 x0 x1 x2 x3 x4 n0 n1 n2
              have x1 := HB3.out.cellV 1 (v := .string (S el.nm)) rfl
              have x3 := HB3.out.cellV 3 (v := .string (S el.tx)) rfl
              have hAC := HA.out
              obtain ⟨cs, hO, hE⟩ := hAC
              have HO : Hid (∀ o, (w5.alloc o).ownsRow w1.heap.size 38 5 u6 es.length cs) := Lib.hid (fun o => own_keepB hO ((Kp.refl (fun _ => False) _).alloc o) (fun _ _ h => h))
              have HE1 : Hid (∀ o, ElsV (fun i => H i ∧ i < w.heap.size) (w5.alloc o) es cs) := Lib.hid (fun o => ElsV.keep ((Kp.refl (fun _ => False) _).alloc o) (fun _ _ h => h) (fun _ h => h) _ _ hE)
              have HE2 : Hid (∀ o, ElsV (fun i => H i ∧ i < w.heap.size) (w5.alloc o) [madeE el] (evl (madeE el) (.slice none 0 0) (.slice none 0 0))) := Lib.hid (fun o => ElR.els ⟨RdF.nil _ _ _, RowE.nil _ _⟩)
              have HMD := Lib.hid (RdF.made (T := 38) (k := 5) (cs := evl (madeE el) (.slice none 0 0) (.slice none 0 0)) w5 rfl)
              have HON : Hid (Ones (evl (madeE el) (.slice none 0 0) (.slice none 0 0))) := Lib.hid (ElR.ones (F := fun _ => False) (w := w5) ⟨RdF.nil _ _ _, RowE.nil _ _⟩)
              have HSZ : Hid (w.heap.size ≤ w1.heap.size ∧ w1.heap.size ≤ w5.heap.size) := Lib.hid ⟨HB.out.kp.size, HK.out.size⟩
              have HOB : Hid (∀ b, u6.ownBlock = some b → w1.heap.size ≤ b) := Lib.hid (fun b hb => (World.ownsRow.lt hO b hb).1)
              clear hO hE
              go_wp2_with (at_builtin
                           refine wl_append_rk rfl (.tmp 54) (.tmp 60) 22 rfl Try.underlying22 infoE rfl (by decide) rfl (HO.out _) rfl HMD.out HON.out (by have := HLN.out; have := HL.out; have := HM.out; unfold maxLen; omega) (by have := HLN.out; have := HL.out; have := HM.out; omega) (by have := HSZ.out; simp; omega) ?_
                           intro u6b wz ho hkz hbz
                           have HZ := Lib.hid (AccE.more (fs := [madeE el]) (HO.out _) (HE1.out _) (fun i hi => Nat.lt_of_lt_of_le hi.2 HSZ.out.1) (HE2.out _) hkz ho)
                           have HKZ : Hid (Kp0 w1 wz) := Lib.hid ((HK.out.alloc _).trans hkz (fun _ _ h => h) (fun i hi e => by have := HOB.out i e; omega))
                           clear ho hkz hbz)
              go_roundg (m - (k + 1))
              case measure => omega
              case rel => exact ⟨k + 1, es ++ [madeE el], b, by go_num, rfl, by omega, rfl, HST, HZ, Lib.hid (by rw [List.length_append]; have := HLN.out; simp; omega), HKZ.out⟩
        · have i1 : ¬ (k : Int) < (m : Int) := by omega
          have HR : Hid (askT d n e = if b then ([], true) else (es, false)) := Lib.hid (by rw [HF.out, List.drop_eq_nil_of_le (by have := HM.out; omega), askL])
          cases b
          · go_wp2
            go_ret2
            exact ⟨⟨_, by rw [HR.out]; rfl, by rw [HR.out]; exact HA.out.new HB.out.kp.size⟩, HB.out.kp.tr HK.out⟩
          · go_wp2
            go_ret2
            exact ⟨⟨.slice none 0 0, by rw [HR.out]; rfl, by rw [HR.out]; exact NewE.nil _ _ _⟩, HB.out.kp.tr HK.out⟩
  · have HR : Hid (askT d n e = ([], e.ks.isEmpty && (e.tx.isEmpty || e.tx == n.vl))) := Lib.hid (askT_leaf h3)
    cases m with
    | succ m =>
      have HR2 : Hid (askT d n e = ([], false)) := Lib.hid (by
        rw [HR.out]
        cases hks : e.ks with
        | nil => have := HM.out; rw [hks] at this; simp at this
        | cons x l => rfl)
      have f1 : (((m + 1 : Nat) : Int) == 0) = false := by rw [beq_eq_false_iff_ne]; omega
      go_upto_region 2 with (fail)
      refine wp_region_px 18 [] (fun w' : World => Kp0 w1 w') (.quiet 0 (.quiet 1 (.quiet 2 (.quiet 3 (.quiet 4 (.quiet 5 (.quiet 6 (.quiet 7 (.quiet 8 (.quiet 9 (.quiet 10 (.quiet 11 (.quiet 12 (.quiet 13 (.quiet 14 (.quiet 15 (.quiet 16 (.quiet 17 .done)))))))))))))))))) (by kernel_rfl) (by kernel_rfl) (by kernel_rfl) (by kernel_rfl) (fun _ d _ _ _ h => by cases d <;> exact h) (Kp.refl (fun _ => False) w1).drew ?_
      have HK : Hid (Kp0 w1 w1.drew) := Lib.hid (Kp.refl (fun _ => False) w1).drew
      clear k1 n1 e3 e4
      iterate 5 (refine px_quiet (v := ?_) rfl (by rfl) (fun wq hwq => ?_) rfl ?_; rotate_left 1; (focus (have c1 := (HB.out.kp0 hwq).at 1 rfl |>.cellV 1 (v := .string (S n.vl)) rfl; have c3 := (HB.out.kp0 hwq).at 2 rfl |>.cellV 3 (v := .string (S e.tx)) rfl; have c4 := (HB.out.kp0 hwq).at 2 rfl |>.cellV 4 (v := .slice eo (m + 1 : Nat) ecp) rfl;  go_simp; try (with_reducible rfl); done)); try simp only [List.setIfInBounds_toArray, List.set_cons_zero, List.set_cons_succ])
      iterate 10 (refine px_skip rfl (by rfl) rfl ?_; try simp only [List.setIfInBounds_toArray, List.set_cons_zero, List.set_cons_succ])
      iterate 3 (refine px_quiet (v := ?_) rfl (by rfl) (fun wq hwq => ?_) rfl ?_; rotate_left 1; (focus (have c1 := (HB.out.kp0 hwq).at 1 rfl |>.cellV 1 (v := .string (S n.vl)) rfl; have c3 := (HB.out.kp0 hwq).at 2 rfl |>.cellV 3 (v := .string (S e.tx)) rfl; have c4 := (HB.out.kp0 hwq).at 2 rfl |>.cellV 4 (v := .slice eo (m + 1 : Nat) ecp) rfl;  go_simp; try (with_reducible rfl); done)); try simp only [List.setIfInBounds_toArray, List.set_cons_zero, List.set_cons_succ])
      refine px_done ?_
      go_wp2
      go_ret2
      exact ⟨⟨.slice none 0 0, by rw [HR2.out]; rfl, by rw [HR2.out]; exact NewE.nil _ _ _⟩, HB.out.kp.tr HK.out⟩
    | zero =>
      have HKS : Hid (e.ks.isEmpty = true) := Lib.hid (by
        cases hks : e.ks with
        | nil => rfl
        | cons x l => have := HM.out; rw [hks] at this; simp at this)
      have f1 : (((0 : Nat) : Int) == 0) = true := rfl
      cases ht : ((S e.tx).toList == [])
      · have HR1 : Hid (askT d n e = ([], ((S e.tx).toList == (S n.vl).toList))) := Lib.hid (by rw [HR.out, HKS.out, ← tx_empty, ht, S_beq]; simp)
        cases hv : ((S e.tx).toList == (S n.vl).toList)
        all_goals
          have HR2 := HR1.out
          rw [hv] at HR2
          replace HR2 := Lib.hid HR2
          go_upto_region 2 with (fail)
          refine wp_region_px 18 [] (fun w' : World => Kp0 w1 w') (.quiet 0 (.quiet 1 (.quiet 2 (.quiet 3 (.quiet 4 (.quiet 5 (.quiet 6 (.quiet 7 (.quiet 8 (.quiet 9 (.quiet 10 (.quiet 11 (.quiet 12 (.quiet 13 (.quiet 14 (.quiet 15 (.quiet 16 (.quiet 17 .done)))))))))))))))))) (by kernel_rfl) (by kernel_rfl) (by kernel_rfl) (by kernel_rfl) (fun _ d _ _ _ h => by cases d <;> exact h) (Kp.refl (fun _ => False) w1).drew ?_
          have HK : Hid (Kp0 w1 w1.drew) := Lib.hid (Kp.refl (fun _ => False) w1).drew
          clear k1 n1 e3 e4
          iterate 16 (refine px_quiet (v := ?_) rfl (by rfl) (fun wq hwq => ?_) rfl ?_; rotate_left 1; (focus (have c1 := (HB.out.kp0 hwq).at 1 rfl |>.cellV 1 (v := .string (S n.vl)) rfl; have c3 := (HB.out.kp0 hwq).at 2 rfl |>.cellV 3 (v := .string (S e.tx)) rfl; have c4 := (HB.out.kp0 hwq).at 2 rfl |>.cellV 4 (v := .slice eo 0 ecp) rfl;  go_simp; try (with_reducible rfl); done)); try simp only [List.setIfInBounds_toArray, List.set_cons_zero, List.set_cons_succ])
          iterate 2 (refine px_quiet (v := ?_) rfl (by rfl) (fun wq hwq => ?_) rfl ?_; rotate_left 1; (focus (have c1 := (HB.out.kp0 hwq).at 1 rfl |>.cellV 1 (v := .string (S n.vl)) rfl; have c3 := (HB.out.kp0 hwq).at 2 rfl |>.cellV 3 (v := .string (S e.tx)) rfl; have c4 := (HB.out.kp0 hwq).at 2 rfl |>.cellV 4 (v := .slice eo 0 ecp) rfl;  go_simp; try (with_reducible rfl); done)); try simp only [List.setIfInBounds_toArray, List.set_cons_zero, List.set_cons_succ])
          refine px_done ?_
          go_wp2
          go_ret2
          exact ⟨⟨.slice none 0 0, by rw [HR2.out]; rfl, by rw [HR2.out]; exact NewE.nil _ _ _⟩, HB.out.kp.tr HK.out⟩
      · have HR2 : Hid (askT d n e = ([], true)) := Lib.hid (by rw [HR.out, HKS.out, ← tx_empty, ht]; rfl)
        go_upto_region 2 with (fail)
        refine wp_region_px 18 [] (fun w' : World => Kp0 w1 w') (.quiet 0 (.quiet 1 (.quiet 2 (.quiet 3 (.quiet 4 (.quiet 5 (.quiet 6 (.quiet 7 (.quiet 8 (.quiet 9 (.quiet 10 (.quiet 11 (.quiet 12 (.quiet 13 (.quiet 14 (.quiet 15 (.quiet 16 (.quiet 17 .done)))))))))))))))))) (by kernel_rfl) (by kernel_rfl) (by kernel_rfl) (by kernel_rfl) (fun _ d _ _ _ h => by cases d <;> exact h) (Kp.refl (fun _ => False) w1).drew ?_
        have HK : Hid (Kp0 w1 w1.drew) := Lib.hid (Kp.refl (fun _ => False) w1).drew
        clear k1 n1 e3 e4
        iterate 9 (refine px_quiet (v := ?_) rfl (by rfl) (fun wq hwq => ?_) rfl ?_; rotate_left 1; (focus (have c1 := (HB.out.kp0 hwq).at 1 rfl |>.cellV 1 (v := .string (S n.vl)) rfl; have c3 := (HB.out.kp0 hwq).at 2 rfl |>.cellV 3 (v := .string (S e.tx)) rfl; have c4 := (HB.out.kp0 hwq).at 2 rfl |>.cellV 4 (v := .slice eo 0 ecp) rfl;  go_simp; try (with_reducible rfl); done)); try simp only [List.setIfInBounds_toArray, List.set_cons_zero, List.set_cons_succ])
        iterate 5 (refine px_skip rfl (by rfl) rfl ?_; try simp only [List.setIfInBounds_toArray, List.set_cons_zero, List.set_cons_succ])
        iterate 4 (refine px_quiet (v := ?_) rfl (by rfl) (fun wq hwq => ?_) rfl ?_; rotate_left 1; (focus (have c1 := (HB.out.kp0 hwq).at 1 rfl |>.cellV 1 (v := .string (S n.vl)) rfl; have c3 := (HB.out.kp0 hwq).at 2 rfl |>.cellV 3 (v := .string (S e.tx)) rfl; have c4 := (HB.out.kp0 hwq).at 2 rfl |>.cellV 4 (v := .slice eo 0 ecp) rfl;  go_simp; try (with_reducible rfl); done)); try simp only [List.setIfInBounds_toArray, List.set_cons_zero, List.set_cons_succ])
        refine px_done ?_
        go_wp2
        go_ret2
        exact ⟨⟨.slice none 0 0, by rw [HR2.out]; rfl, by rw [HR2.out]; exact NewE.nil _ _ _⟩, HB.out.kp.tr HK.out⟩
end Go.Proofs.Ytmamcnhofgfolaa
