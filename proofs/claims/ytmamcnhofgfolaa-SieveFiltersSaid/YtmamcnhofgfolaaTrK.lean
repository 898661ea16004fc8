/- The reference of layer 14: elements read as trees, as a plain function; two rows of one's own side by side. -/
import Derived.Test.YtmamcnhofgfolaaTrJ
namespace Go.Proofs.Ytmamcnhofgfolaa
open Go Go.RowKit
inductive RR (α : Type) where
  | er (e : Nat)
  | ok (a : α)
/-- Is a node kept? -/
def kept (d : PD) (n : PN) : Bool := !(d.kd == 1) || !(n.ks.isEmpty)
def rdFin (ds : List PD) (out : List PN) : RR (List PN) := if 256 < out.length then .er 2 else .ok (ordT ds out)
def rdLeaf (d : PD) (nm tx : List UInt8) (none_ : Bool) : RR (PD × PN) := if none_ && valT d.ty d.vs tx then .ok (d, .mk nm tx []) else .er 12
def rdKeys (d : PD) (nm : List UInt8) (kids : List PN) : RR (PD × PN) := match keyT d.ky kids with
  | none => .er 13
  | some _ => .ok (d, .mk nm [] kids)
mutual
def rdOne (ds : List PD) : PE → RR (PD × PN)
  | .mk _ nm _ tx ks => match plc ds nm with
    | none => .er 11
    | some i => match ds[i]? with
      | none => .er 11
      | some d => if d.kd = 3 then rdLeaf d nm tx ks.isEmpty else if tx.isEmpty then (match rdAll d.ks ks [] [] with
        | .er x => .er x
        | .ok kids => rdKeys d nm kids) else .er 12
def rdAll (ds : List PD) : List PE → List PN → List PN → RR (List PN)
  | [], _, out => rdFin ds out
  | e :: es, all, out => match rdOne ds e with
    | .er x => .er x
    | .ok p => match sameT p.1 all p.2 with
      | some _ => .er 15
      | none => rdAll ds es (all ++ [p.2]) (if kept p.1 p.2 then out ++ [p.2] else out)
end
def readT (ds : List PD) (es : List PE) : RR (List PN) := rdAll ds es [] []
mutual
def dOk : PD → Bool
  | .mk _ _ _ _ _ ky ks => decide (ky.length ≤ 1000000) && dsOk ks
def dsOk : List PD → Bool
  | [] => true
  | d :: ds => dOk d && dsOk ds
end
mutual
def eOk : PE → Bool
  | .mk _ _ _ _ ks => decide (ks.length ≤ 1000000) && esOk ks
def esOk : List PE → Bool
  | [] => true
  | e :: es => eOk e && esOk es
end
theorem dsOk_mem : ∀ {ds : List PD} {d : PD}, dsOk ds = true → d ∈ ds → d.ky.length ≤ 1000000 ∧ dsOk d.ks = true
  | d' :: ds, d, h, hm => by
    unfold dsOk at h
    rw [Bool.and_eq_true] at h
    rcases List.mem_cons.1 hm with rfl | hm
    · cases d
      unfold dOk at h
      simp only [Bool.and_eq_true, decide_eq_true_eq] at h
      exact ⟨h.1.1, h.1.2⟩
    · exact dsOk_mem h.2 hm
theorem dsOk_ky {ds : List PD} (h : dsOk ds = true) : kyOk ds := fun d hd => (dsOk_mem h hd).1
theorem esOk_mem : ∀ {es : List PE} {e : PE}, esOk es = true → e ∈ es → e.ks.length ≤ 1000000 ∧ esOk e.ks = true
  | e' :: es, e, h, hm => by
    unfold esOk at h
    rw [Bool.and_eq_true] at h
    rcases List.mem_cons.1 hm with rfl | hm
    · cases e
      unfold eOk at h
      simp only [Bool.and_eq_true, decide_eq_true_eq] at h
      exact ⟨h.1.1, h.1.2⟩
    · exact esOk_mem h.2 hm
/-- Two rows of one's own of nodes, side by side; what they lead to lies beside both. -/
def AccF (B : Nat) (w : World) (v u : Value) (out all : List PN) : Prop := ∃ vs us, w.ownsRow B 40 3 v out.length (ncs out vs) ∧ w.ownsRow B 40 3 u all.length (ncs all us) ∧
  NdsV (fun i => B ≤ i ∧ v.ownBlock ≠ some i ∧ u.ownBlock ≠ some i) w out vs ∧ NdsV (fun i => B ≤ i ∧ v.ownBlock ≠ some i ∧ u.ownBlock ≠ some i) w all us ∧ (∀ b, v.ownBlock = some b → u.ownBlock ≠ some b)
section
variable {B : Nat} {w w' : World} {v u : Value} {out all : List PN}
theorem AccF.nil (B : Nat) (w : World) : AccF B w (.slice none 0 0) (.slice none 0 0) [] [] := ⟨[], [], World.ownsRow_nil _ _ _ _, World.ownsRow_nil _ _ _ _, by unfold NdsV; rfl, by unfold NdsV; rfl, fun b hb => by cases hb⟩
theorem AccF.swap (h : AccF B w v u out all) : AccF B w u v all out := by
  obtain ⟨vs, us, h1, h2, h3, h4, h5⟩ := h
  exact ⟨us, vs, h2, h1, NdsV.keep (Kp.refl (fun _ => False) w) (fun _ _ _ h => h) (fun i hi _ => ⟨hi.1, hi.2.2, hi.2.1⟩) _ _ h4, NdsV.keep (Kp.refl (fun _ => False) w) (fun _ _ _ h => h) (fun i hi _ => ⟨hi.1, hi.2.2, hi.2.1⟩) _ _ h3, fun b hb hv => h5 b hv hb⟩
theorem own_keepB {e size n : Nat} {xs : List Value} {S0 : Nat → Prop} (ho : w.ownsRow B e size v n xs) (hk : Kp S0 w w') (hs : ∀ b, v.ownBlock = some b → ¬ S0 b) : w'.ownsRow B e size v n xs := by
  refine ⟨ho.1, ?_⟩
  rcases ho.2 with h0 | ⟨g, cap, cur, rfl, hb, hh, r⟩
  · exact .inl h0
  · have hl := (Array.getElem?_eq_some_iff.1 hh).1
    exact .inr ⟨g, cap, cur, rfl, hb, by rw [hk.block g hl (hs g rfl)]; exact hh, r⟩
theorem AccF.kp0 (h : AccF B w v u out all) (hk : Kp0 w w') : AccF B w' v u out all := by
  obtain ⟨vs, us, h1, h2, h3, h4, h5⟩ := h
  exact ⟨vs, us, own_keepB h1 hk (fun _ _ h => h), own_keepB h2 hk (fun _ _ h => h), NdsV.keep hk (fun _ _ _ h => h) (fun _ h _ => h) _ _ h3, NdsV.keep hk (fun _ _ _ h => h) (fun _ h _ => h) _ _ h4, h5⟩
/-- Blocks apart from both may change. -/
theorem AccF.keep {S0 : Nat → Prop} (h : AccF B w v u out all) (hk : Kp S0 w w') (hs : ∀ i, B ≤ i → i < w.heap.size → ¬ S0 i) : AccF B w' v u out all := by
  obtain ⟨vs, us, h1, h2, h3, h4, h5⟩ := h
  exact ⟨vs, us, own_keepB h1 hk (fun b hb => hs b (World.ownsRow.lt h1 b hb).1 (World.ownsRow.lt h1 b hb).2), own_keepB h2 hk (fun b hb => hs b (World.ownsRow.lt h2 b hb).1 (World.ownsRow.lt h2 b hb).2), NdsV.keep hk (fun i hi hl => hs i hi.1 hl) (fun _ h _ => h) _ _ h3, NdsV.keep hk (fun i hi hl => hs i hi.1 hl) (fun _ h _ => h) _ _ h4, h5⟩
theorem AccF.lt (h : AccF B w v u out all) : (∀ b, v.ownBlock = some b → B ≤ b ∧ b < w.heap.size) ∧ (∀ b, u.ownBlock = some b → B ≤ b ∧ b < w.heap.size) := by
  obtain ⟨vs, us, h1, h2, _⟩ := h
  exact ⟨fun b hb => World.ownsRow.lt h1 b hb, fun b hb => World.ownsRow.lt h2 b hb⟩
theorem AccF.row1 (h : AccF B w v u out all) : RowN (fun i => B ≤ i) w v out := by
  obtain ⟨vs, us, h1, h2, h3, _⟩ := h
  exact ⟨vs, RdF.own h1, NdsV.keep (Kp.refl (fun _ => False) w) (fun _ _ _ h => h) (fun i hi _ => hi.1) _ _ h3⟩
/-- One more in the first row. -/
theorem AccF.more {K : Nat → Prop} {n : PN} {kv v' : Value} {vs us : List Value} (h1 : w.ownsRow B 40 3 v out.length (ncs out vs)) (h2 : w.ownsRow B 40 3 u all.length (ncs all us))
    (h3 : NdsV (fun i => B ≤ i ∧ v.ownBlock ≠ some i ∧ u.ownBlock ≠ some i) w out vs) (h4 : NdsV (fun i => B ≤ i ∧ v.ownBlock ≠ some i ∧ u.ownBlock ≠ some i) w all us) (h5 : ∀ b, v.ownBlock = some b → u.ownBlock ≠ some b)
    (hn : RowN K w kv n.ks) (hK : ∀ i, K i → i < w.heap.size → B ≤ i ∧ v.ownBlock ≠ some i ∧ u.ownBlock ≠ some i)
    (hk : Kp (fun b => v.ownBlock = some b) w w') (hb : ∀ b, v'.ownBlock = some b → v.ownBlock = some b ∨ w.heap.size ≤ b)
    (hr : w'.ownsRow B 40 3 v' (out.length + 1) (ncs out vs ++ nvl n kv)) :
    AccF B w' v' u (out ++ [n]) all ∧ RowN (fun i => B ≤ i ∧ v'.ownBlock ≠ some i ∧ u.ownBlock ≠ some i) w' kv n.ks := by
  have hu : ∀ b, u.ownBlock = some b → v.ownBlock ≠ some b := fun b hb hv => h5 b hv hb
  have hF : ∀ i, (B ≤ i ∧ v.ownBlock ≠ some i ∧ u.ownBlock ≠ some i) → i < w.heap.size → (B ≤ i ∧ v'.ownBlock ≠ some i ∧ u.ownBlock ≠ some i) := fun i hi hl => ⟨hi.1, fun e => by
    rcases hb i e with h | h
    · exact hi.2.1 h
    · omega, hi.2.2⟩
  have hn' : RowN (fun i => B ≤ i ∧ v'.ownBlock ≠ some i ∧ u.ownBlock ≠ some i) w' kv n.ks := hn.keep hk (fun i hi hl => (hK i hi hl).2.1) (fun i hi hl => hF i (hK i hi hl) hl)
  refine ⟨⟨vs ++ [kv], us, ?_, own_keepB h2 hk hu, ?_, NdsV.keep hk (fun i hi _ => hi.2.1) hF _ _ h4, ?_⟩, hn'⟩
  · rw [List.length_append, ncs_app _ _ _ _ (NdsV.len _ _ h3)]
    exact hr
  · exact NdsV.app _ _ _ _ (NdsV.keep hk (fun i hi _ => hi.2.1) hF _ _ h3) (NdsV.one hn')
  · intro b hb' hub
    rcases hb b hb' with h | h
    · exact h5 b h hub
    · have := (World.ownsRow.lt h2 b hub).2
      omega
end
end Go.Proofs.Ytmamcnhofgfolaa
