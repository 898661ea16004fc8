/- The law KexBoth, for every input: the call returns true, and each argument reads afterwards as it did; and its tied card. No condition. -/
import Derived.Test.YtikjcmhocihmcaaDoorRows
import Derived.Test.YtikjcmhocihmcaaDoorCards
import Derived.Test.YtikjcmhocihmcaaDoorTie
import Derived.Test.YtikjcmhocihmcaaDoorKxY
import Derived.Test.YtikjcmhocihmcaaDoorK1
import Derived.Test.YtikjcmhocihmcaaDoorKa
import Derived.Test.YtikjcmhocihmcaaDoorK7
import Derived.Lay
import Derived.Deep.DeepHandedRow
namespace Go.Proofs.YtikjcmhocihmcaaDoor.kexBoth
open Go.ChangeShapes Go.WideShapes Go.ChangeAt Go.RowKit
open Go.ChangeMaps (open_string shut_string)
set_option linter.unusedVariables false

theorem own : ownKnob Tryd.prog.godebug = none := by kernel_rfl
theorem laidOut : laidOutB Tryd.prog = true := by kernel_rfl

set_option maxRecDepth 100000 in
/-- What the walk gives. -/
theorem contract (H : Type) (enc : TypeId × Value → H) (W : World) (base : Nat) (args : Array Value) (ds gs : List (DataW H)) (before : List MemPlace)
    (hval0 : ∀ (j : Nat) t v, Tryd.f7.params[j]? = some t → args[j]? = some v → Value.okWide Tryd.prog W .any base t v)
    (hW : DataW.Whole enc Tryd.prog Tryd.f7.params.toList Rows.kexBothSpec.vars false W args.toList ds gs before)
    (hsz0 : (DataW.weightsEach Tryd.prog (Tryd.f7.params.toList ++ (OpenSpec.ofChange Rows.kexBothSpec).bare.plain.varTypes Tryd.prog) (ds ++ gs)).all (· ≤ reachBytes) = true)
    (tb : Sqd W ∧ Cub W) (gm : Gm W) :
    Calls Tryd.prog 7 args W fun e W' => ∃ v, e = .returned v ∧ Rows.kexBothSpec.post enc Tryd.prog Tryd.f7 false true false false W args v W' := by
  have hsz : (DataW.weightsEach Tryd.prog (Tryd.f7.params.toList ++ Rows.kexBothSpec.plain.varTypes Tryd.prog) (ds ++ gs)).all (· ≤ reachBytes) = true := hsz0
  have hval : ∀ (j : Nat) t v, Tryd.f7.params[j]? = some t → args[j]? = some v → Value.okWide Tryd.prog W .any base t v := hval0
  have hW' := hW
  obtain ⟨p, q, hA0, hV, rfl, hfz, hnd⟩ := hW
  have hA : DataW.TrodAll enc Tryd.prog W 0 (fun _ => true) true Tryd.f7.params.toList args.toList ds p := hA0
  rw [Tryd.params7] at hA hval hsz
  obtain ⟨v0, vs0, d0, ds0, p0, p0', hargs, rfl, rfl, h0, e0⟩ := trodAll_cons hA
  obtain ⟨v1, vs1, d1, ds1, p1, p1', rfl, rfl, rfl, h1, e1⟩ := trodAll_cons e0
  obtain ⟨rfl, rfl, rfl⟩ := trodAll_nil e1
  obtain rfl : args = #[v0, v1] := by cases args; simp_all
  obtain ⟨rfl, rfl⟩ := trodVars_none hV
  have lt0 : ∀ x ∈ p0, x.block < W.heap.size := by obtain ⟨m, hm⟩ := h0; exact DataW.trod_lt m _ _ _ hm
  obtain ⟨tk0, ia0, ib0, ic0, rfl, tm0, tz0⟩ := came_talk (okWide_str ⟨_, Tryd.underlying48⟩ (hval 0 48 v0 rfl rfl)) h0 (reach_at hsz (j := 0) rfl rfl)
  obtain ⟨q1, n1, c1, rfl⟩ := okWide_slice Tryd.underlying24 (hval 1 24 v1 rfl rfl)
  have lt1 : ∀ x ∈ p1, x.block < W.heap.size := by obtain ⟨m, hm⟩ := h1; exact DataW.trod_lt m _ _ _ hm
  obtain ⟨l1, _, b1, r1⟩ := came_bytes Tryd.underlying24 Tryd.underlying5 (by kernel_rfl) (by kernel_rfl) h1 (reach_at hsz (j := 1) rfl rfl)
  clear hA0 hval0 hsz0
  have hwalk : Calls Tryd.prog 7 #[.agg (tk0.vals ia0 ib0 ic0).toArray, .slice q1 n1 c1] W fun e W' => e = .returned (.bool true) ∧ Kp0 W W' := kboth_walk tk0 ia0 ib0 ic0 _ l1 W tb.1 tb.2 gm tm0 tz0 r1 b1
  refine hwalk.mono fun e W' ⟨he, hkp⟩ => ?_
  have bel := hkp.below (Nat.le_refl _) (fun _ _ h => h)
  subst he
  exact ⟨_, rfl, _, _, _, [], _, [], hW', trodAll_mk1 (shut_bool Tryd.underlying4 _), (trodAll_cons_mk (Below.trod laidOut (by kernel_rfl) (of_decide_eq_true (by kernel_rfl)) h0 bel lt0) (trodAll_cons_mk (Below.trod laidOut (by kernel_rfl) (of_decide_eq_true (by kernel_rfl)) h1 bel lt1) trodAll_mk0)), rfl, bel.frame _, fun h => by cases h⟩

/-- A world for the witness: the listed variables laid. -/
noncomputable def laidWorld (os : Os) : World := World.laidAll Tryd.prog os Rows.kexBothRow.laid
theorem laid_met (os : Os) : laidMet Tryd.prog Rows.kexBothRow.laid ((laidWorld os).forCall (fun _ _ => 0) ⟨#[], #[.agg #[Value.string .empty, Value.string .empty, Value.slice none 0 0, Value.slice none 0 0, Value.string .empty, Value.string .empty, Value.string .empty, Value.slice none 0 0], .slice none 0 0], []⟩).memory :=
  laidMet_laidAll _ (by kernel_rfl) (by kernel_rfl)
theorem reads (os : Os) {H : Type} (enc : TypeId × Value → H) : ∃ ds places, DataW.whole enc Tryd.prog ((laidWorld os).forCall (fun _ _ => 0) ⟨#[], #[.agg #[Value.string .empty, Value.string .empty, Value.slice none 0 0, Value.slice none 0 0, Value.string .empty, Value.string .empty, Value.string .empty, Value.slice none 0 0], .slice none 0 0], []⟩).memory Tryd.f7.params.toList Rows.kexBothSpec.vars false #[(.agg #[Value.string .empty, Value.string .empty, Value.slice none 0 0, Value.slice none 0 0, Value.string .empty, Value.string .empty, Value.string .empty, Value.slice none 0 0] : Value), (.slice none 0 0 : Value)].toList 8 = some (ds, [], places) :=
  ⟨[.agg [.agg [.lit (.string []), .lit (.string [])], .agg [.nil, .nil], .lit (.string []), .agg [.lit (.string []), .lit (.string [])], .nil], .nil], [], by kernel_rfl⟩

set_option maxRecDepth 100000 in
theorem lifted (os : Os) (started : os.Started) (H : Type) (enc : TypeId × Value → H) (F : Stop.Interp) :
    ReturnsInHanded {} Tryd.checked os 7 .any ((OpenSpec.ofChange Rows.kexBothSpec).preRow enc Tryd.prog Tryd.f7 Rows.kexBothRow.domain false Rows.kexBothRow.laid) (((OpenSpec.ofChange Rows.kexBothSpec).at F).post enc Tryd.prog Tryd.f7 false true false false) := by
  obtain ⟨ds, places, hx⟩ := reads os enc
  have hok : Input.okWideB Tryd.checked.prog ((laidWorld os).forCall (fun _ _ => 0) ⟨#[], #[.agg #[Value.string .empty, Value.string .empty, Value.slice none 0 0, Value.slice none 0 0, Value.string .empty, Value.string .empty, Value.string .empty, Value.slice none 0 0], .slice none 0 0], []⟩) 7 ⟨#[], #[.agg #[Value.string .empty, Value.string .empty, Value.slice none 0 0, Value.slice none 0 0, Value.string .empty, Value.string .empty, Value.string .empty, Value.slice none 0 0], .slice none 0 0], []⟩ = true := by kernel_rfl
  refine returnsInHanded_of_row (C := Tryd.checked) (s := OpenSpec.ofChange Rows.kexBothSpec) own started (by kernel_rfl) Tryd.func7
    ⟨laidWorld os, fun _ _ => 0, ⟨#[], #[.agg #[Value.string .empty, Value.string .empty, Value.slice none 0 0, Value.slice none 0 0, Value.string .empty, Value.string .empty, Value.string .empty, Value.slice none 0 0], .slice none 0 0], []⟩, World.laidAll_os _ _ _, World.shaped_of_ZipB (by kernel_rfl) (by kernel_rfl), rfl, (Input.okWide_of_okWideB hok).2,
      OpenSpec.preRow_of_cond 8 hx (by kernel_rfl) (fun k hk => by cases hk) (by kernel_rfl) (laid_met os), by
        simp only [Assume.holds]
        exact ⟨by simp, by simp, fun _ => Modest.zero, by simp, by simp⟩⟩ ?_
  intro W base args ds gs before hval hW _ _ hsz hlaid hsh _
  exact contract H enc W base args ds gs before hval hW hsz (tab_of_laid hlaid) (gm_of_shape hsh)

theorem said : Rows.KexBothSaid :=
  OpenClaim.holds_of_cond 7 Tryd.f7 rfl rfl rfl rfl rfl rfl rfl ⟨rfl, rfl, rfl, rfl, rfl⟩ rfl rfl rfl rfl rfl (by kernel_rfl) Tryd.func7 (by kernel_rfl)
    (of_decide_eq_true (by kernel_rfl)) (by unfold Func.isWrapper; first | (rw [if_pos (by decide +kernel)]; kernel_rfl) | (rw [if_neg (by decide +kernel)]; exact ⟨rfl, rfl⟩))
    (fun os started H enc _ F => by rw [OpenClaim.pre_eq_preRow]; exact lifted os started H enc F)

theorem plain (f : FuncId) (fn : Func) (hf : Tryd.pinned.checked.prog.funcNamed "tabulary/tabularylaw08.KexBoth" = some f) (hfn : Tryd.pinned.checked.prog.funcs[f]? = some fn) :
    false = Tryd.pinned.checked.prog.looks [] ∧ ∀ (j : Nat) t, fn.params[j]? = some t → Tryd.pinned.checked.prog.wantsStandIn t = false := by
  obtain rfl : f = 7 := Option.some.inj ((show Tryd.prog.funcNamed "tabulary/tabularylaw08.KexBoth" = some 7 by kernel_rfl).symm.trans hf) |>.symm
  obtain rfl : fn = Tryd.f7 := (Option.some.inj (Tryd.func7.symm.trans hfn)).symm
  refine ⟨by kernel_rfl, fun j t ht => ?_⟩
  rw [Tryd.params7] at ht
  have hm := Array.mem_of_getElem? ht
  simp only [List.mem_toArray, List.mem_cons, List.not_mem_nil, or_false] at hm
  rcases hm with rfl | rfl
  · exact (show Tryd.prog.wantsStandIn 48 = false by kernel_rfl)
  · exact (show Tryd.prog.wantsStandIn 24 = false by kernel_rfl)

theorem proved : Rows.KexBothCardSaid :=
  Claim7.holds_tied_plain_at .later [] _ _ _ _ said (fun _ h => by cases h) (by kernel_rfl) (fun _ h => by cases h) kexBoth_row_tie rfl ⟨rfl, rfl⟩ (by kernel_rfl) rfl plain (by kernel_rfl)
end Go.Proofs.YtikjcmhocihmcaaDoor.kexBoth
