/- The law FrameRuns: its walk. -/
import Derived.Test.YtmmbhmfbhleglaaDoorRefQ
import Derived.Test.YtmmbhmfbhleglaaDoorFSf
import Derived.Test.YtmmbhmfbhleglaaDoorCame2
namespace Go.Proofs.YtmmbhmfbhleglaaDoor
open Go Go.RowKit
theorem cv_tx {w : World} {v : Value} {l : List UInt8} (h : Rd w v (bys l)) : (convert 24 9 v).run Tryd.prog w = .ok (.string (tx l)) w :=
  run_string_of 24 5 9 Tryd.underlying24 Tryd.underlying5 Tryd.underlying9 h
theorem Rf.keep {w w1 : World} {c : Nat} {s : St} (h : Rf w c s) {S : Nat → Prop} (hk : Kp S w w1) (hs : ¬ S c) : Rf w1 c s := by
  unfold Rf at h ⊢
  split
  · rename_i ho
    rw [if_pos ho] at h
    obtain ⟨x, b, m, y, hb⟩ := h
    exact ⟨x, b, m, y, hb.keep hk hs⟩
  · rename_i ho
    rw [if_neg ho] at h
    obtain ⟨b, m, hb, h1, h2⟩ := h
    exact ⟨b, m, hb.keep hk hs, h1, h2⟩
theorem Dc.keepZ {B : Nat} {Z : Nat → Prop} {w w1 : World} {b : Nat} {s : St} (h : Dc B Z w b s) {S : Nat → Prop} (hk : Kp S w w1) (hs : ∀ i, S i → Z i) : Dc B Z w1 b s := by
  obtain ⟨vw, vp, h⟩ := h
  exact ⟨vw, vp, h.keep hk (fun e => h.nz (hs _ e)) (fun g hg e => (h.aw g hg).2.1 (hs _ e)) (fun g hg e => (h.ap g hg).2 (hs _ e))⟩
abbrev ZC (c : Nat) : Nat → Prop := fun i => i = c
def AlikePost (B b c : Nat) (r : List UInt8 × Nat × St) (w : World) (e : Ending) (w' : World) : Prop :=
  e = .returned (.tuple #[.bool true, .bool (r.2.1 == 0)]) ∧ Dc B (ZC c) w' b r.2.2 ∧ Rf w' c r.2.2 ∧ Kp (fun i => B ≤ i) w w'
set_option maxRecDepth 20000 in
set_option maxHeartbeats 2000000 in
theorem alike_any (B b c : Nat) (s : St) (w : World) (h : Dc B (ZC c) w b s) (hr : Rf w c s) (hg : Gw w) (hB : 6 ≤ B) (hc : B ≤ c) (hs : Fine s) :
    Calls Tryd.prog 7 #[.pointer (some ⟨b, 0, none⟩), .pointer (some ⟨c, 0, none⟩)] w (AlikePost B b c (nextS s) w) := by
  have H := Lib.hid h
  have HR := Lib.hid hr
  have HG := Lib.hid hg
  have HS := Lib.hid hs
  have HB := Lib.hid hB
  have HC := Lib.hid hc
  clear h hr hg hs hB hc
  obtain ⟨⟨r1, n, s'⟩, hn⟩ : ∃ r, r = nextS s := ⟨_, rfl⟩
  have HN := Lib.hid hn
  rw [← hn]
  clear hn
  go_enter Tryd.func7, Tryd.ntmps7
  go_wp2_with fail
  refine (Next_any B (ZC c) b s _ H.out HG.out HB.out HS.out).mono ?_
  rw [← HN.out]
  rintro e w1 ⟨t1, rfl, ht1, hd, hk⟩
  have HD1 := Lib.hid hd
  have HR1 := Lib.hid (HR.out.keep hk (fun h => h.2 rfl))
  have HK1 : Hid (Kp (fun i => B ≤ i) w w1) := Lib.hid (hk.mono (fun i _ h => h.1))
  have HT1 := Lib.hid ht1
  clear hd hk ht1
  simp only [] at HD1 HT1 ⊢
  go_wp2_with fail
  refine (refNext_any c s _ HR1.out HS.out.l HS.out.m).mono ?_
  rw [← HN.out]
  rintro e w2 ⟨t2, rfl, ht2, hd, hk⟩
  have HR2 := Lib.hid hd
  have HD2 := Lib.hid (HD1.out.keepZ hk (fun _ h => h))
  have HK2 : Hid (Kp (fun i => B ≤ i) w w2) := Lib.hid (HK1.out.tr (hk.mono (fun i _ h => by rw [h]; exact HC.out)))
  obtain rfl : t1 = t2 := str_ext (HT1.out.trans ht2.symm)
  clear hd hk ht2
  simp only [] at HR2 ⊢
  have hss : (t1.toList == t1.toList) = true := by simp
  have hnn : ((n : Int) == (n : Int)) = true := by simp
  have hn0 : ((n : Int) == 0) = (n == 0) := by
    rw [Bool.eq_iff_iff, beq_iff_eq, beq_iff_eq]; omega
  have HN0 := Lib.hid hn0
  clear hn0
  go_wp2
  all_goals go_ret2
  all_goals exact ⟨congrArg (fun x => Ending.returned (.tuple #[.bool true, .bool x])) HN0.out, HD2.out, HR2.out, HK2.out⟩
theorem Rf.set {w : World} {c : Nat} {s : St} (h : Rf w c s) : Rf (w.setCell ⟨c, 0, none⟩ (.bool true)) c (switchS s) := by
  obtain ⟨W, M, ch, ov⟩ := s
  unfold Rf at h ⊢
  cases ov with
  | true =>
    rw [if_pos rfl] at h
    obtain ⟨x, b, m, y, hb⟩ := h
    refine (if_pos (show (switchS ⟨W, M, ch, true⟩).ov = true from rfl)).symm ▸ ?_
    exact ⟨true, b, m, y, hb.set' 0 (.bool true)⟩
  | false =>
    rw [if_neg (by simp)] at h
    obtain ⟨b, m, hb, h1, h2⟩ := h
    rw [if_neg (by simp [switchS])]
    exact ⟨b, m, hb.set' 0 (.bool true), h1, h2⟩
theorem Rf.lt {w : World} {c : Nat} {s : St} (h : Rf w c s) : c < w.heap.size := by
  unfold Rf at h
  split at h
  · obtain ⟨x, b, m, y, hb⟩ := h
    exact hb.lt
  · obtain ⟨b, m, hb, _⟩ := h
    exact hb.lt
theorem Rf.blk {w : World} {c : Nat} {s : St} (h : Rf w c s) : ∃ x b m y, Blk w c 29 [.bool x, .string b, .string m, .bool y, .bool s.ov] := by
  unfold Rf at h
  split at h
  · rename_i ho
    obtain ⟨x, b, m, y, hb⟩ := h
    exact ⟨x, b, m, y, by rw [ho]; exact hb⟩
  · rename_i ho
    obtain ⟨b, m, hb, _⟩ := h
    exact ⟨_, b, m, _, by rw [Bool.eq_false_iff.2 ho]; exact hb⟩
theorem Rf.cell0 {w : World} {c : Nat} {s : St} (h : Rf w c s) : ∃ x, w.cell? ⟨c, 0, none⟩ = some x := by
  obtain ⟨x, b, m, y, hb⟩ := h.blk
  exact ⟨_, hb.cellV 0 rfl⟩
theorem Rf.cell4 {w : World} {c : Nat} {s : St} (h : Rf w c s) : w.cell? ⟨c, 4, none⟩ = some (.bool s.ov) := by
  obtain ⟨x, b, m, y, hb⟩ := h.blk
  exact hb.cellV 4 rfl
theorem Rf.fz {w : World} {c i : Nat} {s : St} (h : Rf w c s) : w.frozen? ⟨c, i, none⟩ = false := by
  obtain ⟨x, b, m, y, hb⟩ := h.blk
  exact blk_frozen hb i
/-- Both decoders, alike. -/
structure Both (w0 w : World) (b c : Nat) (s : St) (n : Nat) : Prop where
  d : Dc w0.heap.size (ZC c) w b s
  r : Rf w c s
  m : s.M.length ≤ 16384
  n : s.W.length ≤ n
  k : Kp0 w0 w
  c : w0.heap.size ≤ c
theorem Both.fine {w0 w : World} {b c : Nat} {s : St} {n : Nat} (h : Both w0 w b c s n) (hn : n ≤ 40000) : Fine s := ⟨h.m, by have := h.n; omega⟩
theorem both_new (w0 w : World) (hk : Kp0 w0 w) (wx : World) (hw : wx = (w.alloc (.cells #[.slice none 0 0, .slice none 0 0, .bool false, .bool false] 26)).alloc (.cells #[.bool false, .string { data := #[] }, .string { data := #[] }, .bool false, .bool false] 29)) :
    Both w0 wx w.heap.size (w.heap.size + 1) ⟨[], [], false, false⟩ 0 := by
  subst hw
  have hs := hk.size
  have h1 : Blk (w.alloc (.cells #[.slice none 0 0, .slice none 0 0, .bool false, .bool false] 26)) w.heap.size 26 [.slice none 0 0, .slice none 0 0, .bool false, .bool false] := blk0 w _ _
  have e : (w.alloc (.cells #[.slice none 0 0, .slice none 0 0, .bool false, .bool false] 26)).heap.size = w.heap.size + 1 := by show (w.heap.push _).size = _; rw [Array.size_push]
  have h2 := blk0 (w.alloc (.cells #[.slice none 0 0, .slice none 0 0, .bool false, .bool false] 26)) 29 [.bool false, .string { data := #[] }, .string { data := #[] }, .bool false, .bool false]
  rw [e] at h2
  have hk2 : Kp0 w ((w.alloc (.cells #[.slice none 0 0, .slice none 0 0, .bool false, .bool false] 26)).alloc (.cells #[.bool false, .string { data := #[] }, .string { data := #[] }, .bool false, .bool false] 29)) := ((Kp.refl _ _).alloc _).alloc _
  refine ⟨⟨_, _, h1.kp0 ((Kp.refl _ _).alloc _), Ow.nil _ _ _, Ow.nil _ _ _, hs, (fun h => by have h : w.heap.size = w.heap.size + 1 := h; omega), (fun g hg => by cases hg), (fun g hg => by cases hg), (fun i hi => by have hi : i = w.heap.size + 1 := hi; rw [hi]; exact h2.lt)⟩, rf_live h2 nil_toList nil_toList, Nat.zero_le _, Nat.zero_le _, hk.tr hk2, by omega⟩
theorem kpF {w0 w w1 : World} {c : Nat} (h : Kp0 w0 w) (hk : Kp (FB w0.heap.size (ZC c)) w w1) : Kp0 w0 w1 := h.trans hk (fun _ _ h => h) (fun i hi h2 => by have := h2.1; omega)
theorem kpC {w0 w w1 : World} {c : Nat} (h : Kp0 w0 w) (hk : Kp (fun i => i = c) w w1) (hc : w0.heap.size ≤ c) : Kp0 w0 w1 := h.trans hk (fun _ _ h => h) (fun i hi h2 => by omega)
theorem Both.more {w0 w : World} {b c : Nat} {s : St} {n m : Nat} (h : Both w0 w b c s n) (hm : n ≤ m) : Both w0 w b c s m := ⟨h.d, h.r, h.m, Nat.le_trans h.n hm, h.k, h.c⟩
/-- Switch, and Chunks. -/
theorem Both.switched {w0 w w1 : World} {b c : Nat} {s : St} {n : Nat} (h : Both w0 w b c s n) (hd : Dc w0.heap.size (ZC c) w1 b (switchS s)) (hk : Kp (FB w0.heap.size (ZC c)) w w1) : Both w0 (w1.setCell ⟨c, 0, none⟩ (.bool true)) b c (switchS s) n := by
  have h1 : Kp (fun i => i = c) w1 (w1.setCell ⟨c, 0, none⟩ (.bool true)) := (Kp.refl (fun i => i = c) w1).setCell (p := ⟨c, 0, none⟩) (fun _ => rfl) _
  exact ⟨hd.keepZ h1 (fun _ h => h), (h.r.keep hk (fun h => h.2 rfl)).set, h.m, h.n, kpC (kpF h.k hk) h1 h.c, h.c⟩
theorem Both.fed {w0 w w1 : World} {b c : Nat} {s : St} {l : List UInt8} {n m : Nat} (h : Both w0 w b c s n) (hm : n + l.length ≤ m) (hd : Dc w0.heap.size (ZC c) w1 b (feedS s l)) (hk : Kp (FB w0.heap.size (ZC c)) w w1) (ho : s.ov = true) : Both w0 w1 b c (feedS s l) m := by
  have e : feedS s l = s := by unfold feedS; rw [ho]; rfl
  rw [e] at hd ⊢
  exact ⟨hd, h.r.keep hk (fun h => h.2 rfl), h.m, by have := h.n; omega, kpF h.k hk, h.c⟩
theorem Both.fed2 {w0 w w1 wd : World} {b c : Nat} {s : St} {l : List UInt8} {n m : Nat} {t : ByteArray} (h : Both w0 w b c s n) (hm : n + l.length ≤ m) (hd : Dc w0.heap.size (ZC c) w1 b (feedS s l)) (hk : Kp (FB w0.heap.size (ZC c)) w w1) (ho : s.ov = false) (hkd : Kp0 w1 wd)
    {x : ByteArray} {mm : ByteArray} (hb : Blk wd c 29 [.bool s.ch, .string x, .string mm, .bool (!s.M.isEmpty), .bool false]) (h1 : x.toList = s.W) (h2 : mm.toList = s.M) (ht : t.toList = s.W ++ l) :
    Both w0 (wd.setCell ⟨c, 1, none⟩ (.string t)) b c (feedS s l) m := by
  have e : feedS s l = ⟨s.W ++ l, s.M, s.ch, false⟩ := by unfold feedS; rw [ho, if_neg (by decide)]
  rw [e] at hd ⊢
  have hs : Kp (fun i => i = c) wd (wd.setCell ⟨c, 1, none⟩ (.string t)) := (Kp.refl (fun i => i = c) wd).setCell (p := ⟨c, 1, none⟩) (fun _ => rfl) _
  exact ⟨(hd.kp0 hkd).keepZ hs (fun _ h => h), rf_live (hb.set' 1 (.string t)) ht h2, h.m, by have := h.n; show (s.W ++ l).length ≤ m; rw [List.length_append]; omega, kpC ((kpF h.k hk).tr hkd) hs h.c, h.c⟩
theorem Both.next {w0 w w1 : World} {b c : Nat} {s : St} {n : Nat} (h : Both w0 w b c s n) (hd : Dc w0.heap.size (ZC c) w1 b (nextS s).2.2) (hr : Rf w1 c (nextS s).2.2) (hk : Kp (fun i => w0.heap.size ≤ i) w w1) : Both w0 w1 b c (nextS s).2.2 n :=
  ⟨hd, hr, (next_ok s h.m).m, Nat.le_trans (next_ok s h.m).w h.n, h.k.trans hk (fun _ _ h => h) (fun i hi h2 => by omega), h.c⟩
theorem Rf.live {w : World} {c : Nat} {s : St} (h : Rf w c s) (ho : s.ov = false) : ∃ b m, Blk w c 29 [.bool s.ch, .string b, .string m, .bool (!s.M.isEmpty), .bool false] ∧ b.toList = s.W ∧ m.toList = s.M := by
  unfold Rf at h
  rw [if_neg (by rw [ho]; decide)] at h
  exact h
theorem meas (x : Bool) (n m k : Nat) (hx : x = (m == 0)) (h : m = 0 → k < n) : (if x = true then k + 1 else 0) < n + 1 := by
  subst hx
  by_cases h0 : m = 0
  · have := h h0
    subst h0
    show (if true = true then k + 1 else 0) < n + 1
    rw [if_pos rfl]
    omega
  · rw [if_neg (by simpa using h0)]; omega
set_option maxRecDepth 20000 in
set_option maxHeartbeats 4000000 in
theorem fruns_walk (vp : Value) (vs : List Value) (ls : List (List UInt8)) (at_ : Int) (w : World) (hg : Gw w) (hp : Rd w vp vs) (hr : RowsB w vs ls) :
    Calls Tryd.prog 3 #[vp, .int .i64 at_] w fun e w' => e = .returned (.bool true) ∧ Kp0 w w' := by
  obtain ⟨ap, cp, rfl, _, hpm, _⟩ := hp.shape
  have hpl : (vs.length : Int) ≤ 9223372036854775807 := by unfold maxLen at hpm; omega
  have HG := Lib.hid hg
  have HP := Lib.hid hp
  have HR := Lib.hid hr
  clear hg hp hr hpm
  go_enter Tryd.func3, Tryd.ntmps3
  go_wp2_with fail
  refine (fit_any _ HG.out).mono ?_
  rintro e w1 ⟨rfl, hk⟩
  have HK1 := Lib.hid hk
  clear hk
  go_wp2
  go_loopg [5, 18] vs.length (fun gg s i wr => ∃ (n : Nat), i = .int .i64 n ∧ s = .int .i64 ((tot (ls.take n) : Nat) : Int) ∧ n ≤ vs.length ∧ gg = vs.length - n ∧ tot (ls.take n) ≤ 40000 ∧ wr = w1)
  case atStart => exact ⟨0, rfl, by rw [List.take_zero, tot_nil]; rfl, by omega, rfl, by rw [List.take_zero, tot_nil]; omega, rfl⟩
  case round =>
    obtain ⟨n, rfl, rfl, hn, rfl, ht, rfl⟩ := hrel
    by_cases h : n < vs.length
    · obtain ⟨bp, op, xp, e, _, _, _⟩ := HP.out.pos (by omega)
      simp only [Value.slice.injEq] at e
      obtain ⟨rfl, _, rfl⟩ := e
      obtain ⟨v, hv⟩ : ∃ v, vs[n]? = some v := ⟨_, List.getElem?_eq_getElem h⟩
      obtain ⟨l, hl, hrd, hlen⟩ := HR.out.2 n v hv
      obtain ⟨av, cv, rfl, _, _, _⟩ := hrd.shapeB
      have hcp := (HP.out.keep0 HK1.out).range2 n _ hv
      have hnn : (n : Int) < vs.length := by omega
      have hll : (l.length : Int) ≤ 140737488351232 := by omega
      have htt := tot_take hl
      obtain ⟨T, hT⟩ : ∃ T, T = tot (ls.take n) := ⟨_, rfl⟩
      rw [← hT] at ht htt ⊢
      have hTi : (T : Int) ≤ 40000 := by omega
      have HT := Lib.hid htt
      have HE := Lib.hid h
      clear hT hl hv hrd hlen htt ht h
      by_cases h5 : T + (1 + l.length) ≤ 40000
      · have h5' : (T : Int) + (1 + (l.length : Int)) ≤ 40000 := by omega
        go_wp2
        go_roundg (vs.length - (n + 1))
        case measure => have := HE.out; omega
        case rel =>
          have := HE.out
          exact ⟨n + 1, by go_num, by rw [HT.out, Int.natCast_add, Int.natCast_add]; rfl, by omega, rfl, by rw [HT.out]; exact h5, rfl⟩
      · have h5' : 40000 < (T : Int) + (1 + (l.length : Int)) := by omega
        go_wp2
        all_goals go_ret
        all_goals exact ⟨rfl, HK1.out⟩
    · obtain rfl : n = vs.length := by omega
      have HTL : Hid (tot ls ≤ 40000) := Lib.hid (by rw [List.take_of_length_le (by rw [HR.out.1]; exact Nat.le_refl _)] at ht; exact ht)
      clear ht hn h
      generalize tot (ls.take vs.length) = T
      go_wp2
      have HB0 := Lib.hid (both_new w wr HK1.out _ rfl)
      generalize (World.alloc (World.alloc wr _) _) = w2 at HB0 ⊢
      generalize wr.heap.size = bd at HB0 ⊢
      obtain ⟨c, hc⟩ : ∃ c, c = bd + 1 := ⟨_, rfl⟩
      rw [← hc] at HB0 ⊢
      clear hc HK1
      go_loopg [34] vs.length (fun gg i wr => ∃ (n : Nat) (s : St), i = .int .i64 n ∧ n ≤ vs.length ∧ gg = vs.length - n ∧ Both w wr bd c s (tot (ls.take n)))
      case atStart => exact ⟨0, _, rfl, by omega, rfl, by rw [List.take_zero, tot_nil]; exact HB0.out⟩
      case round =>
        obtain ⟨n, s, rfl, hn, rfl, hb⟩ := hrel
        have HB := Lib.hid hb
        clear hb HB0
        by_cases h : n < vs.length
        · obtain ⟨bp, op, xp, e, _, _, _⟩ := HP.out.pos (by omega)
          simp only [Value.slice.injEq] at e
          obtain ⟨rfl, _, rfl⟩ := e
          obtain ⟨v, hv⟩ : ∃ v, vs[n]? = some v := ⟨_, List.getElem?_eq_getElem h⟩
          obtain ⟨l, hl, hrd, hlen⟩ := HR.out.2 n v hv
          obtain ⟨av, cv, rfl, _, _, _⟩ := hrd.shapeB
          have hcp := (HP.out.keep0 HB.out.k).range2 n _ hv
          have hnn : (n : Int) < vs.length := by omega
          have HE := Lib.hid h
          have HTT := Lib.hid (tot_take hl)
          have HTM : Hid (tot (ls.take (n + 1)) ≤ 40000) := Lib.hid (Nat.le_trans (tot_le _ _) HTL.out)
          have HRD := Lib.hid hrd
          clear hv hl hrd hlen h
          by_cases hat : (n : Int) = at_
          · have hab : ((n : Int) == at_) = true := by rw [beq_iff_eq]; exact hat
            clear hat
            go_wp2_with fail
            refine (switch_any w.heap.size (ZC c) bd s _ HB.out.d).mono ?_
            rintro e w3 ⟨rfl, hd, hk⟩
            have hc0 : ∃ x, w3.cell? ⟨c, 0, none⟩ = some x := ((HB.out.r).keep hk (fun h => h.2 rfl)).cell0
            obtain ⟨x0, hc0⟩ := hc0
            have hf0 : w3.frozen? ⟨c, 0, none⟩ = false := ((HB.out.r).keep hk (fun h => h.2 rfl)).fz
            have HB3 := Lib.hid (HB.out.switched hd hk)
            clear hd hk
            go_wp2_with fail
            clear hc0 hf0
            generalize (World.setCell w3 _ _) = w4 at HB3 ⊢
            clear HB
            generalize switchS s = s3 at HB3
            refine (feed_any w.heap.size (ZC c) bd s3 _ l _ HB3.out.d (HRD.out.keep0 HB3.out.k) (by have h1 := HB3.out.n; have h2 := HTT.out; have h3 := HTM.out; omega)).mono ?_
            rintro e w5 ⟨rfl, hd, hk⟩
            have hle : tot (ls.take n) + l.length ≤ tot (ls.take (n + 1)) := by have := HTT.out; omega
            have HLE := Lib.hid hle
            clear hle
            have hc4 := (HB3.out.r.keep hk (fun h => h.2 rfl)).cell4
            obtain ⟨ov, hov⟩ : ∃ o, o = s3.ov := ⟨_, rfl⟩
            rw [← hov] at hc4
            have HOV := Lib.hid hov
            clear hov
            cases ov with
            | true =>
              have HB6 := Lib.hid (HB3.out.fed HLE.out hd hk HOV.out.symm)
              clear hd hk HB3
              generalize feedS s3 l = s5 at HB6
              go_wp2
              clear hc4
              go_loopg [12] (s5.W.length + 1) (fun gg on wr => ∃ (s : St) (f : Bool), on = .bool f ∧ gg = (if f then s.W.length + 1 else 0) ∧ Both w wr bd c s (tot (ls.take (n + 1))))
              case atStart => exact ⟨s5, true, rfl, rfl, HB6.out⟩
              case round =>
                obtain ⟨s, f, rfl, rfl, hb⟩ := hrel
                have HBi := Lib.hid hb
                clear hb HB6
                cases f with
                | false =>
                  go_wp2
                  have he := HE.out
                  go_roundg (vs.length - (n + 1))
                  case measure => omega
                  case rel => exact ⟨n + 1, s, by go_num, by omega, rfl, HBi.out⟩
                | true =>
                  have hnx := next_ok s HBi.out.m
                  have HNX := Lib.hid hnx
                  clear hnx
                  go_wp2_with fail
                  refine (alike_any w.heap.size bd c s _ HBi.out.d HBi.out.r (HG.out.kp0 HBi.out.k) HG.out.sz HBi.out.c (HBi.out.fine HTM.out)).mono ?_
                  rintro e w7 ⟨rfl, hd, hr, hk⟩
                  have HB7 := Lib.hid (HBi.out.next hd hr hk)
                  clear hd hr hk
                  obtain ⟨x, hx⟩ : ∃ x, x = ((nextS s).2.1 == 0) := ⟨_, rfl⟩
                  have HX := Lib.hid hx
                  rw [← hx]
                  clear hx
                  go_wp2
                  go_roundg (if x then (nextS s).2.2.W.length + 1 else 0)
                  case measure => exact meas x _ _ _ HX.out HNX.out.lt
                  case rel => exact ⟨_, x, rfl, rfl, HB7.out⟩
            | false =>
              obtain ⟨x, mm, hblk, hx1, hx2⟩ := (HB3.out.r.keep hk (fun h => h.2 rfl)).live HOV.out.symm
              have HBL := Lib.hid (hblk.kp0 (Kp.refl _ _).drew)
              have HX1 := Lib.hid hx1
              have HX2 := Lib.hid hx2
              have hsl : ¬ (100000 : Int) < (x.size : Int) + (tx l).size := by
                have h1 := HB3.out.n; have h2 := HTM.out; have h3 := HLE.out
                rw [tx_size, ← size_toList, hx1]
                omega
              have cvg := cv_tx ((HRD.out.keep0 (kpF HB3.out.k hk)).keep0 (Kp.refl _ _).drew)
              have HCV := Lib.hid cvg
              have HD := Lib.hid hd
              have HK := Lib.hid hk
              clear hblk hx1 hx2 cvg hd hk
              go_wp2
              have hc1 := HBL.out.cellV 1 rfl
              have hf1 := blk_frozen HBL.out 1
              clear hc4
              have cvg := HCV.out
              refine wp_region_px 9 [9] (fun w' : World => w' = w5.drew) (.quiet 0 (.quiet 1 (.quiet 2 (.quiet 3 (.quiet 4 (.quiet 5 (.quiet 6 (.quiet 7 (.quiet 8 (.wall 9 .done)))))))))) (by kernel_rfl) (by kernel_rfl) (by kernel_rfl) (by kernel_rfl) (fun _ d _ _ _ h => by cases d <;> exact h) rfl ?_
              have HTX : Hid ((x ++ tx l).toList = s3.W ++ l) := Lib.hid (by rw [app_toList, HX1.out, tx_list])
              have HKD : Hid (Kp0 w5 w5.drew) := Lib.hid (Kp.refl _ _).drew
              generalize tx l = tl at hsl cvg HTX ⊢
              generalize w5.drew = wd at HBL hc1 hf1 cvg HKD ⊢
              iterate 6 (refine px_quiet (v := ?_) rfl (by rfl) (fun wq hwq => ?_) rfl ?_; rotate_left 1; (focus (rw [hwq]; clear hwq wq; go_simp; try (with_reducible rfl); done)); try simp only [List.setIfInBounds_toArray, List.set_cons_zero, List.set_cons_succ])
              refine px_quiet (v := .string (x ++ tl)) rfl (by rfl) (fun wq hwq => ?_) rfl ?_
              · rw [hwq]
                clear hwq wq
                go_simp
                omega
              try simp only [List.setIfInBounds_toArray, List.set_cons_zero, List.set_cons_succ]
              iterate 2 (refine px_quiet (v := ?_) rfl (by rfl) (fun wq hwq => ?_) rfl ?_; rotate_left 1; (focus (rw [hwq]; clear hwq wq; go_simp; try (with_reducible rfl); done)); try simp only [List.setIfInBounds_toArray, List.set_cons_zero, List.set_cons_succ])
              refine px_wall rfl (by rfl) (fun K hK => ?_)
              go_simp
              refine hK (fun _ => True) _ _ trivial ?_
              clear hK K hc1 hf1 cvg
              refine px_done ?_
              have HB6 := Lib.hid (HB3.out.fed2 HLE.out HD.out HK.out HOV.out.symm HKD.out HBL.out HX1.out HX2.out HTX.out)
              clear HB3 HD HK HKD HBL HX1 HX2 HTX hsl
              generalize (World.setCell wd _ _) = w6 at HB6 ⊢
              generalize feedS s3 l = s5 at HB6
              go_wp2
              go_loopg [12] (s5.W.length + 1) (fun gg on wr => ∃ (s : St) (f : Bool), on = .bool f ∧ gg = (if f then s.W.length + 1 else 0) ∧ Both w wr bd c s (tot (ls.take (n + 1))))
              case atStart => exact ⟨s5, true, rfl, rfl, HB6.out⟩
              case round =>
                obtain ⟨s, f, rfl, rfl, hb⟩ := hrel
                have HBi := Lib.hid hb
                clear hb HB6
                cases f with
                | false =>
                  go_wp2
                  have he := HE.out
                  go_roundg (vs.length - (n + 1))
                  case measure => omega
                  case rel => exact ⟨n + 1, s, by go_num, by omega, rfl, HBi.out⟩
                | true =>
                  have hnx := next_ok s HBi.out.m
                  have HNX := Lib.hid hnx
                  clear hnx
                  go_wp2_with fail
                  refine (alike_any w.heap.size bd c s _ HBi.out.d HBi.out.r (HG.out.kp0 HBi.out.k) HG.out.sz HBi.out.c (HBi.out.fine HTM.out)).mono ?_
                  rintro e w7 ⟨rfl, hd, hr, hk⟩
                  have HB7 := Lib.hid (HBi.out.next hd hr hk)
                  clear hd hr hk
                  obtain ⟨x, hx⟩ : ∃ x, x = ((nextS s).2.1 == 0) := ⟨_, rfl⟩
                  have HX := Lib.hid hx
                  rw [← hx]
                  clear hx
                  go_wp2
                  go_roundg (if x then (nextS s).2.2.W.length + 1 else 0)
                  case measure => exact meas x _ _ _ HX.out HNX.out.lt
                  case rel => exact ⟨_, x, rfl, rfl, HB7.out⟩
          · have hab : ((n : Int) == at_) = false := by rw [beq_eq_false_iff_ne]; exact hat
            clear hat
            go_wp2_with fail
            obtain ⟨w4, rfl⟩ : ∃ w4 : World, w4 = wr := ⟨_, rfl⟩
            obtain ⟨s3, rfl⟩ : ∃ s3 : St, s3 = s := ⟨_, rfl⟩
            have HB3 := HB
            clear HB
            refine (feed_any w.heap.size (ZC c) bd s3 _ l _ HB3.out.d (HRD.out.keep0 HB3.out.k) (by have h1 := HB3.out.n; have h2 := HTT.out; have h3 := HTM.out; omega)).mono ?_
            rintro e w5 ⟨rfl, hd, hk⟩
            have hle : tot (ls.take n) + l.length ≤ tot (ls.take (n + 1)) := by have := HTT.out; omega
            have HLE := Lib.hid hle
            clear hle
            have hc4 := (HB3.out.r.keep hk (fun h => h.2 rfl)).cell4
            obtain ⟨ov, hov⟩ : ∃ o, o = s3.ov := ⟨_, rfl⟩
            rw [← hov] at hc4
            have HOV := Lib.hid hov
            clear hov
            cases ov with
            | true =>
              have HB6 := Lib.hid (HB3.out.fed HLE.out hd hk HOV.out.symm)
              clear hd hk HB3
              generalize feedS s3 l = s5 at HB6
              go_wp2
              clear hc4
              go_loopg [12] (s5.W.length + 1) (fun gg on wr => ∃ (s : St) (f : Bool), on = .bool f ∧ gg = (if f then s.W.length + 1 else 0) ∧ Both w wr bd c s (tot (ls.take (n + 1))))
              case atStart => exact ⟨s5, true, rfl, rfl, HB6.out⟩
              case round =>
                obtain ⟨s, f, rfl, rfl, hb⟩ := hrel
                have HBi := Lib.hid hb
                clear hb HB6
                cases f with
                | false =>
                  go_wp2
                  have he := HE.out
                  go_roundg (vs.length - (n + 1))
                  case measure => omega
                  case rel => exact ⟨n + 1, s, by go_num, by omega, rfl, HBi.out⟩
                | true =>
                  have hnx := next_ok s HBi.out.m
                  have HNX := Lib.hid hnx
                  clear hnx
                  go_wp2_with fail
                  refine (alike_any w.heap.size bd c s _ HBi.out.d HBi.out.r (HG.out.kp0 HBi.out.k) HG.out.sz HBi.out.c (HBi.out.fine HTM.out)).mono ?_
                  rintro e w7 ⟨rfl, hd, hr, hk⟩
                  have HB7 := Lib.hid (HBi.out.next hd hr hk)
                  clear hd hr hk
                  obtain ⟨x, hx⟩ : ∃ x, x = ((nextS s).2.1 == 0) := ⟨_, rfl⟩
                  have HX := Lib.hid hx
                  rw [← hx]
                  clear hx
                  go_wp2
                  go_roundg (if x then (nextS s).2.2.W.length + 1 else 0)
                  case measure => exact meas x _ _ _ HX.out HNX.out.lt
                  case rel => exact ⟨_, x, rfl, rfl, HB7.out⟩
            | false =>
              obtain ⟨x, mm, hblk, hx1, hx2⟩ := (HB3.out.r.keep hk (fun h => h.2 rfl)).live HOV.out.symm
              have HBL := Lib.hid (hblk.kp0 (Kp.refl _ _).drew)
              have HX1 := Lib.hid hx1
              have HX2 := Lib.hid hx2
              have hsl : ¬ (100000 : Int) < (x.size : Int) + (tx l).size := by
                have h1 := HB3.out.n; have h2 := HTM.out; have h3 := HLE.out
                rw [tx_size, ← size_toList, hx1]
                omega
              have cvg := cv_tx ((HRD.out.keep0 (kpF HB3.out.k hk)).keep0 (Kp.refl _ _).drew)
              have HCV := Lib.hid cvg
              have HD := Lib.hid hd
              have HK := Lib.hid hk
              clear hblk hx1 hx2 cvg hd hk
              go_wp2
              have hc1 := HBL.out.cellV 1 rfl
              have hf1 := blk_frozen HBL.out 1
              clear hc4
              have cvg := HCV.out
              refine wp_region_px 9 [9] (fun w' : World => w' = w5.drew) (.quiet 0 (.quiet 1 (.quiet 2 (.quiet 3 (.quiet 4 (.quiet 5 (.quiet 6 (.quiet 7 (.quiet 8 (.wall 9 .done)))))))))) (by kernel_rfl) (by kernel_rfl) (by kernel_rfl) (by kernel_rfl) (fun _ d _ _ _ h => by cases d <;> exact h) rfl ?_
              have HTX : Hid ((x ++ tx l).toList = s3.W ++ l) := Lib.hid (by rw [app_toList, HX1.out, tx_list])
              have HKD : Hid (Kp0 w5 w5.drew) := Lib.hid (Kp.refl _ _).drew
              generalize tx l = tl at hsl cvg HTX ⊢
              generalize w5.drew = wd at HBL hc1 hf1 cvg HKD ⊢
              iterate 6 (refine px_quiet (v := ?_) rfl (by rfl) (fun wq hwq => ?_) rfl ?_; rotate_left 1; (focus (rw [hwq]; clear hwq wq; go_simp; try (with_reducible rfl); done)); try simp only [List.setIfInBounds_toArray, List.set_cons_zero, List.set_cons_succ])
              refine px_quiet (v := .string (x ++ tl)) rfl (by rfl) (fun wq hwq => ?_) rfl ?_
              · rw [hwq]
                clear hwq wq
                go_simp
                omega
              try simp only [List.setIfInBounds_toArray, List.set_cons_zero, List.set_cons_succ]
              iterate 2 (refine px_quiet (v := ?_) rfl (by rfl) (fun wq hwq => ?_) rfl ?_; rotate_left 1; (focus (rw [hwq]; clear hwq wq; go_simp; try (with_reducible rfl); done)); try simp only [List.setIfInBounds_toArray, List.set_cons_zero, List.set_cons_succ])
              refine px_wall rfl (by rfl) (fun K hK => ?_)
              go_simp
              refine hK (fun _ => True) _ _ trivial ?_
              clear hK K hc1 hf1 cvg
              refine px_done ?_
              have HB6 := Lib.hid (HB3.out.fed2 HLE.out HD.out HK.out HOV.out.symm HKD.out HBL.out HX1.out HX2.out HTX.out)
              clear HB3 HD HK HKD HBL HX1 HX2 HTX hsl
              generalize (World.setCell wd _ _) = w6 at HB6 ⊢
              generalize feedS s3 l = s5 at HB6
              go_wp2
              go_loopg [12] (s5.W.length + 1) (fun gg on wr => ∃ (s : St) (f : Bool), on = .bool f ∧ gg = (if f then s.W.length + 1 else 0) ∧ Both w wr bd c s (tot (ls.take (n + 1))))
              case atStart => exact ⟨s5, true, rfl, rfl, HB6.out⟩
              case round =>
                obtain ⟨s, f, rfl, rfl, hb⟩ := hrel
                have HBi := Lib.hid hb
                clear hb HB6
                cases f with
                | false =>
                  go_wp2
                  have he := HE.out
                  go_roundg (vs.length - (n + 1))
                  case measure => omega
                  case rel => exact ⟨n + 1, s, by go_num, by omega, rfl, HBi.out⟩
                | true =>
                  have hnx := next_ok s HBi.out.m
                  have HNX := Lib.hid hnx
                  clear hnx
                  go_wp2_with fail
                  refine (alike_any w.heap.size bd c s _ HBi.out.d HBi.out.r (HG.out.kp0 HBi.out.k) HG.out.sz HBi.out.c (HBi.out.fine HTM.out)).mono ?_
                  rintro e w7 ⟨rfl, hd, hr, hk⟩
                  have HB7 := Lib.hid (HBi.out.next hd hr hk)
                  clear hd hr hk
                  obtain ⟨x, hx⟩ : ∃ x, x = ((nextS s).2.1 == 0) := ⟨_, rfl⟩
                  have HX := Lib.hid hx
                  rw [← hx]
                  clear hx
                  go_wp2
                  go_roundg (if x then (nextS s).2.2.W.length + 1 else 0)
                  case measure => exact meas x _ _ _ HX.out HNX.out.lt
                  case rel => exact ⟨_, x, rfl, rfl, HB7.out⟩
        · obtain rfl : n = vs.length := by omega
          clear hn h
          go_wp2
          go_ret
          exact ⟨rfl, HB.out.k⟩
end Go.Proofs.YtmmbhmfbhleglaaDoor
