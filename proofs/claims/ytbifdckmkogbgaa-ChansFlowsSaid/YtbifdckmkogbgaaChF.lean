/- Channels: what messages are read as, what flows. Nothing of the program's text stands here. -/
import Derived.Test.YtbifdckmkogbgaaChS
import Derived.Test.YtbifdckmkogbgaaFit
namespace Go.Proofs.Ytbifdckmkogbgaa
open Go
theorem byteS_cons (k : UInt8) (l : List UInt8) : byteS (some (k :: l)) = (k.toNat, some l) := by
  unfold byteS takeS
  simp only [List.length_cons]
  rw [if_pos (by omega)]
  rfl
theorem u32S_be4 (n : Nat) (l : List UInt8) (h : n < 4294967296) : u32S (some (be4 n ++ l)) = (n, some l) := by
  unfold u32S
  rw [takeS_app (be4 n) l 4 rfl, beNat_be4 n h]
theorem u32S_be4e (n : Nat) (h : n < 4294967296) : u32S (some (be4 n)) = (n, some []) := by
  have := u32S_be4 n [] h
  rwa [List.append_nil] at this
theorem textS_ence (l : List UInt8) (h : l.length ≤ 16384) : textS (some (encText l)) = (l, some []) := by
  have := textS_enc l [] h
  rwa [List.append_nil] at this
theorem headS_num (k : Nat) (n : Nat) (l : List UInt8) (hk : k < 256) (h9 : k ≠ 90) (hn : n < 4294967296) : headS (toB k n ++ l) = ({ msg0 k with tgt := n }, some l) := by
  have e : (UInt8.ofNat k).toNat = k := by simp; omega
  have h1 : byteS (some (toB k n ++ l)) = (k, some (be4 n ++ l)) := by
    unfold toB
    rw [List.cons_append, byteS_cons, e]
  unfold headS
  rw [h1]
  simp only []
  rw [if_neg h9, u32S_be4 n l hn]
theorem headS_nume (k : Nat) (n : Nat) (hk : k < 256) (h9 : k ≠ 90) (hn : n < 4294967296) : headS (toB k n) = ({ msg0 k with tgt := n }, some []) := by
  have := headS_num k n [] hk h9 hn
  rwa [List.append_nil] at this
theorem readS_data (s : List UInt8) (h : s.length ≤ 16384) : readS (dataB 0 s) = some { msg0 94 with text := s } := by
  have h1 : headS (dataB 0 s) = ({ msg0 94 with tgt := 0 }, some (encText s)) := headS_num 94 0 _ (by decide) (by decide) (by decide)
  have h2 : bodyS { msg0 94 with tgt := 0 } (some (encText s)) = ({ msg0 94 with text := s }, some []) := by
    unfold bodyS
    rw [textS_ence s h]
    rfl
  unfold readS
  rw [h1]
  simp only []
  rw [h2]
  rfl
theorem readS_adjust (n : Nat) (h : n < 4294967296) : readS (adjustB 0 n) = some { msg0 93 with win := n } := by
  have h1 : headS (adjustB 0 n) = ({ msg0 93 with tgt := 0 }, some (be4 n)) := headS_num 93 0 _ (by decide) (by decide) (by decide)
  have h2 : bodyS { msg0 93 with tgt := 0 } (some (be4 n)) = ({ msg0 93 with win := n }, some []) := by
    unfold bodyS
    rw [u32S_be4e n h]
    rfl
  unfold readS
  rw [h1]
  simp only []
  rw [h2]
  rfl
theorem readS_eof : readS (toB 96 0) = some (msg0 96) := by decide +kernel
theorem readS_close : readS (toB 97 0) = some (msg0 97) := by decide +kernel
def wishX (id w m : Nat) : List UInt8 := 90 :: (encText sessionB ++ (be4 id ++ (be4 w ++ be4 m)))
theorem readS_wish (id w m : Nat) (h1 : id < 4294967296) (h2 : w < 4294967296) (h3 : m < 4294967296) : readS (wishX id w m) = some { msg0 90 with text := sessionB, frm := id, win := w, most := m } := by
  have e1 : headS (wishX id w m) = (msg0 90, some (encText sessionB ++ (be4 id ++ (be4 w ++ be4 m)))) := by
    unfold headS wishX
    rw [byteS_cons]
    rfl
  have e2 : bodyS (msg0 90) (some (encText sessionB ++ (be4 id ++ (be4 w ++ be4 m)))) = ({ msg0 90 with text := sessionB, frm := id, win := w, most := m }, some []) := by
    unfold bodyS
    rw [textS_enc sessionB _ (by decide)]
    unfold bndS
    simp only [u32S_be4 id _ h1, u32S_be4 w _ h2, u32S_be4e m h3]
    rfl
  unfold readS
  rw [e1]
  simp only []
  rw [e2]
  rfl
def reqX (name : List UInt8) (f : UInt8) : List UInt8 := toB 98 0 ++ (encText name ++ [f])
theorem readS_req (name : List UInt8) (f : UInt8) (h1 : name.length ≤ 16384) (h2 : name ≠ subsystemB) : readS (reqX name f) = some { msg0 98 with ask := decide (f.toNat ≠ 0) } := by
  have e1 : headS (reqX name f) = ({ msg0 98 with tgt := 0 }, some (encText name ++ [f])) := headS_num 98 0 _ (by decide) (by decide) (by decide)
  have e2 : bodyS { msg0 98 with tgt := 0 } (some (encText name ++ [f])) = ({ msg0 98 with ask := decide (f.toNat ≠ 0) }, some []) := by
    unfold bodyS reqS
    rw [textS_enc name _ h1]
    simp only []
    rw [if_neg h2]
    unfold flagS
    rw [byteS_cons]
    rfl
  unfold readS
  rw [e1]
  simp only []
  rw [e2]
  rfl
def reqN : List UInt8 := toB 98 0 ++ (encText subsystemB ++ (0 :: encText netconfB))
theorem readS_reqN : readS reqN = some { msg0 98 with runs := true } := by decide +kernel

/- What flows. -/
theorem flowN_pos {c : Ch} (h : flows c = true) (hm : 1 ≤ c.mo) : 1 ≤ flowN c ∧ flowN c ≤ c.wa.length ∧ flowN c ≤ c.wi ∧ flowN c ≤ c.mo := by
  unfold flows at h
  simp only [Bool.and_eq_true, Bool.not_eq_true', List.isEmpty_eq_false_iff, decide_eq_true_eq] at h
  have := List.length_pos_iff.2 h.1.1
  unfold flowN
  omega
theorem flow1_wa (c : Ch) : (flow1 c).wa.length = c.wa.length - flowN c := by unfold flow1; simp
theorem flowF_more : ∀ (k : Nat) (c : Ch), c.wa.length ≤ k → 1 ≤ c.mo → flowF k c = flowF c.wa.length c := by
  intro k
  induction k with
  | zero => intro c h _; rw [Nat.le_zero.1 h]
  | succ k ih =>
    intro c h hm
    cases hf : flows c with
    | false =>
      have e : flowF (k + 1) c = c := by show (if flows c then _ else c) = c; rw [hf]; rfl
      rw [e]
      cases hn : c.wa.length with
      | zero => rfl
      | succ n => show c = (if flows c then _ else c); rw [hf]; rfl
    | true =>
      have hp := flowN_pos hf hm
      have e : flowF (k + 1) c = flowF k (flow1 c) := by show (if flows c then _ else c) = _; rw [hf]; rfl
      obtain ⟨n, hn⟩ : ∃ n, c.wa.length = n + 1 := ⟨c.wa.length - 1, by omega⟩
      have e2 : flowF c.wa.length c = flowF n (flow1 c) := by rw [hn]; show (if flows c then _ else c) = _; rw [hf]; rfl
      have hw := flow1_wa c
      rw [e, e2, ih (flow1 c) (by omega) hm]
      by_cases hk : n ≤ k
      · exact (by
          have : ∀ m, m ≤ k → (flow1 c).wa.length ≤ m → flowF m (flow1 c) = flowF (flow1 c).wa.length (flow1 c) := by
            intro m
            induction m with
            | zero => intro _ h; rw [Nat.le_zero.1 h]
            | succ m ihm =>
              intro h1 h2
              by_cases hlt : (flow1 c).wa.length ≤ m
              · have hs : flowF (m + 1) (flow1 c) = flowF m (flow1 c) := by
                  by_cases hkk : m + 1 ≤ k
                  · clear ihm
                    obtain ⟨d, hd⟩ : ∃ d, d = flow1 c := ⟨_, rfl⟩
                    rw [← hd] at hlt ⊢
                    have hmo : 1 ≤ d.mo := by rw [hd]; exact hm
                    clear hd h2 hw e e2 hp hf
                    have gen : ∀ (m : Nat) (d : Ch), d.wa.length ≤ m → 1 ≤ d.mo → flowF (m + 1) d = flowF m d := by
                      intro m
                      induction m with
                      | zero =>
                        intro d h1 _
                        have : flows d = false := by unfold flows; rw [List.eq_nil_of_length_eq_zero (Nat.le_zero.1 h1)]; rfl
                        show (if flows d then _ else d) = d
                        rw [this]; rfl
                      | succ m ih =>
                        intro d h1 h2
                        show (if flows d then flowF (m + 1) (flow1 d) else d) = (if flows d then flowF m (flow1 d) else d)
                        cases hf : flows d with
                        | false => rfl
                        | true =>
                          have hp := flowN_pos hf h2
                          rw [if_pos rfl, if_pos rfl]
                          exact ih (flow1 d) (by rw [flow1_wa]; omega) h2
                    exact gen m d hlt hmo
                  · omega
                rw [hs]
                exact ihm (by omega) hlt
              · rw [show m + 1 = (flow1 c).wa.length by omega]
          rw [this n hk (by omega)])
      · omega
theorem flowS_step {c : Ch} (h : flows c = true) (hm : 1 ≤ c.mo) : flowS c = flowS (flow1 c) := by
  have hp := flowN_pos h hm
  obtain ⟨n, hn⟩ : ∃ n, c.wa.length = n + 1 := ⟨c.wa.length - 1, by omega⟩
  have e2 : flowF c.wa.length c = flowF n (flow1 c) := by rw [hn]; show (if flows c then _ else c) = _; rw [h]; rfl
  unfold flowS
  rw [e2, flowF_more n (flow1 c) (by rw [flow1_wa]; omega) hm]
theorem flowS_stop {c : Ch} (h : flows c = false) : flowS c = c := by
  unfold flowS
  cases c.wa.length with
  | zero => rfl
  | succ n => show (if flows c then _ else c) = c; rw [h]; rfl
/-- All that flows: in messages of so many at most. -/
structure Flown (c d : Ch) (cs : List (List UInt8)) (n : Nat) : Prop where
  eq : d = { c with out := c.out ++ cs.map (dataB c.nu), wa := c.wa.drop n, wi := c.wi - n }
  fl : cs.flatten = c.wa.take n
  each : ∀ x ∈ cs, x ≠ [] ∧ x.length ≤ c.mo
  n : n = min c.wa.length c.wi
theorem min_sum (L W q : Nat) (h1 : q ≤ L) (h2 : q ≤ W) : q + min (L - q) (W - q) = min L W := by omega
theorem flow_spec : ∀ (k : Nat) (c : Ch), c.wa.length ≤ k → 1 ≤ c.mo → c.cl = false → ∃ cs, Flown c (flowS c) cs (min c.wa.length c.wi) := by
  intro k
  induction k with
  | zero =>
    intro c h _ _
    have hf : flows c = false := by unfold flows; rw [List.eq_nil_of_length_eq_zero (Nat.le_zero.1 h)]; rfl
    rw [flowS_stop hf, Nat.le_zero.1 h, Nat.zero_min]
    exact ⟨[], by simp, by simp, by simp, by omega⟩
  | succ k ih =>
    intro c h hm hc
    cases hf : flows c with
    | false =>
      have hn : min c.wa.length c.wi = 0 := by
        unfold flows at hf
        rw [hc] at hf
        simp only [Bool.not_false, Bool.and_true, Bool.and_eq_false_iff, Bool.not_eq_false', List.isEmpty_iff, decide_eq_false_iff_not] at hf
        rcases hf with h0 | h0
        · rw [h0]; simp
        · omega
      rw [flowS_stop hf, hn]
      exact ⟨[], by simp, by simp, by simp, hn.symm⟩
    | true =>
      have hp := flowN_pos hf hm
      have hw := flow1_wa c
      have hi : (flow1 c).wi = c.wi - flowN c := rfl
      have hsum := min_sum c.wa.length c.wi (flowN c) hp.2.1 hp.2.2.1
      obtain ⟨cs, hF⟩ := ih (flow1 c) (by omega) hm hc
      rw [flowS_step hf hm]
      refine ⟨c.wa.take (flowN c) :: cs, ?_, ?_, ?_, rfl⟩
      · rw [hF.eq, hF.n, hw, hi]
        unfold flow1 sayS
        simp only [List.append_assoc, List.map_cons, List.cons_append, List.nil_append, List.drop_drop]
        rw [hsum, Nat.sub_sub, hsum]
      · rw [List.flatten_cons, hF.fl, hw, hi]
        show _ ++ (c.wa.drop (flowN c)).take _ = _
        rw [← List.take_add, hsum]
      · intro x hx
        rcases List.mem_cons.1 hx with rfl | hx
        · refine ⟨fun e => ?_, ?_⟩
          · have := congrArg List.length e
            rw [List.length_take, List.length_nil] at this
            have h1 := hp.1
            have h2 := hp.2.1
            rw [Nat.min_eq_left h2] at this
            omega
          · have h2 := hp.2.1
            rw [List.length_take, Nat.min_eq_left h2]
            exact hp.2.2.2
        · exact hF.each x hx
theorem flown (c : Ch) (hm : 1 ≤ c.mo) (hc : c.cl = false) : ∃ cs, Flown c (flowS c) cs (min c.wa.length c.wi) := flow_spec _ c (Nat.le_refl _) hm hc
end Go.Proofs.Ytbifdckmkogbgaa
