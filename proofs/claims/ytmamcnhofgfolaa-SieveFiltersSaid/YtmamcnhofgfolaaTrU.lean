/- Package sieve: what elements choose of a node, as a plain function; how many elements. -/
import Derived.Test.YtmamcnhofgfolaaTrT
namespace Go.Proofs.Ytmamcnhofgfolaa
open Go Go.RowKit
mutual
/-- How many elements. -/
def cntE : PE → Nat
  | .mk _ _ _ _ ks => 1 + cntEs ks
def cntEs : List PE → Nat
  | [] => 0
  | e :: es => cntE e + cntEs es
end
theorem cntE_ks (e : PE) : cntE e = 1 + cntEs e.ks := by cases e; rw [cntE]; rfl
theorem cntEs_app : ∀ a b : List PE, cntEs (a ++ b) = cntEs a + cntEs b
  | [], b => by rw [List.nil_append, cntEs, Nat.zero_add]
  | e :: a, b => by rw [List.cons_append, cntEs, cntEs, cntEs_app a b]; omega
theorem cntEs_len : ∀ a : List PE, a.length ≤ cntEs a
  | [] => Nat.zero_le _
  | e :: a => by rw [cntEs, cntE_ks]; have := cntEs_len a; simp only [List.length_cons]; omega
theorem cntEs_one (e : PE) : cntEs [e] = cntE e := by rw [cntEs, cntEs]; omega
theorem askL_cnt (d : PD) (ns : List PN) : ∀ (ks ins : List PE) (all : Bool), cntEs (askL d ns ks ins all).1 ≤ cntEs ins + cntEs ks
  | [], ins, all => by
    unfold askL
    cases all
    · exact Nat.le_add_right _ _
    · exact Nat.zero_le _
  | k :: ks, ins, all => by
    unfold askL
    have hk := cntE_ks k
    cases isMatch d k
    · have := askL_cnt d ns ks (ins ++ [k]) false
      rw [cntEs_app, cntEs_one] at this
      rw [cntEs]
      simp only [Bool.false_eq_true, if_false]
      omega
    · cases hasL ns k.nm k.tx
      · exact Nat.zero_le _
      · have := askL_cnt d ns ks (ins ++ [madeE k]) all
        rw [cntEs_app, cntEs_one, show cntE (madeE k) = 1 from rfl] at this
        rw [cntEs]
        simp only [if_true]
        omega
theorem askT_cnt (d : PD) (n : PN) (e : PE) : cntEs (askT d n e).1 ≤ cntEs e.ks := by
  unfold askT
  split
  · exact Nat.zero_le _
  · split
    · have := askL_cnt d n.ks e.ks [] true
      rw [show cntEs [] = 0 from rfl, Nat.zero_add] at this
      exact this
    · exact Nat.zero_le _
/-- What elements of the node's name ask of it; none: all of it. -/
def insL (d : PD) (n : PN) : List PE → List PE → Option (List PE)
  | [], ins => some ins
  | e :: es, ins => if e.nm == n.nm then (if (askT d n e).2 then none else insL d n es (ins ++ (askT d n e).1)) else insL d n es ins
theorem insL_cnt (d : PD) (n : PN) : ∀ (es ins l : List PE), insL d n es ins = some l → cntEs l ≤ cntEs ins + cntEs es
  | [], ins, l, h => by
    unfold insL at h
    cases h
    exact Nat.le_add_right _ _
  | e :: es, ins, l, h => by
    unfold insL at h
    rw [cntEs]
    have hk := cntE_ks e
    have ha := askT_cnt d n e
    split at h
    · split at h
      · cases h
      · have := insL_cnt d n es _ l h
        rw [cntEs_app] at this
        omega
    · have := insL_cnt d n es _ l h
      omega
/-- A node of what is chosen of its own nodes. -/
def wiK (c : PN → Option PN) (wh : PN → PN) (d : PD) (k : PN) : Option PN := match c k with
  | some x => some x
  | none => if d.kd == 2 && hasT d.ky k.nm then some (wh k) else none
def wiT (c : PN → Option PN) (wh : PN → PN) (d : PD) (n : PN) : Option PN :=
  if n.ks.any (fun k => (c k).isSome) then some (.mk n.nm n.vl (n.ks.filterMap (wiK c wh d))) else none
/-- What elements choose of a node that has so many levels. -/
def chT : Nat → List PD → PN → List PE → Option PN
  | 0, _, _, _ => none
  | lv + 1, ds, n, es => match plc ds n.nm with
    | none => none
    | some i => match ds[i]? with
      | none => none
      | some d => match insL d n es [] with
        | none => some (wholeT (lv + 1) n)
        | some ins => wiT (fun k => chT lv d.ks k ins) (wholeT lv) d n
def ChA (w0 w : World) (e : Ending) : Option PN → Prop
  | none => e = .returned (.tuple #[NodA (.mk [] [] []) (.slice none 0 0), .bool false])
  | some y => ∃ kv, e = .returned (.tuple #[NodA y kv, .bool true]) ∧ RowN (fun i => w0.heap.size ≤ i) w kv y.ks
def ChooseP (lv : Nat) : Prop := lv ≤ 1000 → ∀ (F G H : Nat → Prop) (ds : List PD) (n : PN) (es : List PE) (dv kv ev : Value) (w : World), RowD F w dv ds → RowN G w kv n.ks → RowE H w ev es → kOk n = true → cntEs es ≤ 1000000 →
  Calls Try.prog 21 #[dv, NodA n kv, ev, .int .i64 lv] w fun e w' => ChA w w' e (chT lv ds n es) ∧ Kp0 w w'
/-- A way out that answers a block's cells and a value. -/
theorem ret_blkT {P : Program} {fn : Func} {R : Ending → World → Prop} {a : Act} {w : World} (t u : Tmp) (T U : TypeId) (g : Nat) (cs : List Value) (d : TypeDesc) (hr : fn.results = #[.cell t T, .tmp u]) (hx : a.tmps.getD t undef = .pointer (some ⟨g, 0, none⟩))
    (hA : Blk w g U cs) (hu : P.underlying T = some d) (hd : d.isRow = true) (hi : (P.info? T).map (·.size) = some cs.length) (hdf : a.defers = []) (v : Value) (hv : a.tmps.getD u undef = v) (hR : R (.returned (.tuple #[.agg cs.toArray, v])) w) : bodyPost P fn R .ret a w := by
  subst hv
  refine ⟨hdf, _, ?_, hR⟩
  have := run_loadVar_mid (P := P) w g 0 T cs d hA.range hu hd hi
  rw [Array.getD_eq_getD_getElem?] at hx
  simp [results, hr, hx, asAddr, this]
end Go.Proofs.Ytmamcnhofgfolaa
