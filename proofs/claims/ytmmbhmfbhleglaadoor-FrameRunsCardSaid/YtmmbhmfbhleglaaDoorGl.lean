/- What the card's condition tells of the program's own variables. -/
import Derived.Test.YtmmbhmfbhleglaaDoorRows
import Derived.Test.YtmmbhmfbhleglaaDoorGw
import Derived.Clock
import Derived.Lib.LaidTab
import Derived.LaidLaws
import Derived.MakeChecks
namespace Go.Proofs.YtmmbhmfbhleglaaDoor
open Go Go.RowKit
theorem int_of_shape {P : Program} {w : World} {g : Nat} {t : TypeId} {k : IntKind} {zero : Array Value} (h : w.ShapedOpen P) (hg : g < P.globals.size)
    (h0 : ((begin P (fun _ _ => 0) default).world.heap[g]?).bind Obj.row? = some (zero, t)) (hz : zero.size = 1)
    (hb : P.buildable t = true) (hc : P.cellTypes P.depth t = some [t]) (hu : P.underlying t = some (.int k)) : ∃ m, w.cell? ⟨g, 0, none⟩ = some (.int k m) := by
  obtain ⟨cs, hh, hs, hr⟩ := h.1 g zero t hg h0
  obtain ⟨ts, hts, _, hall⟩ := hr hb
  rw [hc] at hts
  cases hts
  have h1 : 0 < cs.size := by omega
  obtain ⟨u, hu', hok⟩ := hall 0 cs[0] (by simp [h1])
  have : u = t := by simpa using hu'.symm
  subst this
  have hcell : w.cell? ⟨g, 0, none⟩ = some cs[0] := by simp [World.cell?, hh, h1]
  rw [hcell]
  unfold Cell.ok at hok
  rw [hu] at hok
  cases hv : cs[0] <;> rw [hv] at hok <;> first | (simp at hok; done) | skip
  obtain ⟨rfl, _⟩ : _ ∧ _ := by simpa using hok
  exact ⟨_, rfl⟩
def laids : List (String × DataW Unit) := [("math/bits.deBruijn32tab", Rows.laid_math_bits_deBruijn32tab), ("math/bits.deBruijn64tab", Rows.laid_math_bits_deBruijn64tab), ("internal/strconv.uint64pow10", Rows.laid_internal_strconv_uint64pow10), ("strconv.ErrRange", Rows.laid_strconv_ErrRange), ("strconv.ErrSyntax", Rows.laid_strconv_ErrSyntax)]
theorem gw_of_laid {W : World} (h : laidMetH Tryd.prog laids W) (hs : W.ShapedOpen Tryd.prog) : Gw W := by
  rw [MakeChecks.laidMetH_plain _ _ _ rfl] at h
  obtain ⟨ps, hl, _, _⟩ := h
  obtain ⟨g1, t1, cs1, f1, p1, q1, _, _, _, _, hl, _⟩ := hl
  obtain ⟨g2, t2, cs2, f2, p2, q2, _, _, _, _, hl, _⟩ := hl
  obtain ⟨g3, t3, cs3, f3, p3, q3, hg3, ht3, hv3, hd3, hl, _⟩ := hl
  obtain ⟨g4, t4, cs4, f4, p4, q4, hg4, ht4, hv4, _, hl, _⟩ := hl
  obtain ⟨g5, t5, cs5, f5, p5, q5, hg5, ht5, hv5, hd5, _, _⟩ := hl
  obtain rfl : 63 = t3 := Option.some.inj ((show (Tryd.prog.globals[0]?).map (·.type) = some 63 by kernel_rfl).symm.trans (by
    rw [← ht3]
    obtain rfl := Option.some.inj ((show Tryd.prog.globalNamed "internal/strconv.uint64pow10" = some 0 by kernel_rfl).symm.trans hg3)
    rfl))
  obtain rfl : 76 = t5 := Option.some.inj ((show (Tryd.prog.globals[4]?).map (·.type) = some 76 by kernel_rfl).symm.trans (by
    rw [← ht5]
    obtain rfl := Option.some.inj ((show Tryd.prog.globalNamed "strconv.ErrSyntax" = some 4 by kernel_rfl).symm.trans hg5)
    rfl))
  have hd3' : DataW.trod (fun _ => ()) Tryd.prog W 0 (fun _ => true) false f3 63 cs3.toList = some (Lib.tabData .u64 Lib.pow10Tab, p3) := by
    rw [hd3]
    congr 2
  have tab : Lib.TabIs Tryd.prog W "internal/strconv.uint64pow10" .u64 Lib.pow10Tab := by
    unfold Lib.TabIs
    rw [hv3, ← Lib.cells_of_tab Tryd.underlying63 Tryd.underlying51 (by kernel_rfl) (by kernel_rfl) hd3']
  obtain ⟨f6, u, v, hc, _, _⟩ := iface_of_trod Tryd.underlying76 hd5
  refine ⟨tab, int_of_shape (P := Tryd.prog) (t := 3) (zero := #[.int .i64 0]) hs (of_decide_eq_true (by kernel_rfl)) (by kernel_rfl) rfl (by kernel_rfl) (by kernel_rfl) Tryd.underlying3, ⟨u, v, ?_⟩, ?_⟩
  · have := World.var?_cell (show Tryd.prog.globalNamed "strconv.ErrSyntax" = some 4 by kernel_rfl) hv5 0
    rw [this, ← Array.getElem?_toList, hc]
    rfl
  · unfold World.var? at hv4
    rw [show Tryd.prog.globalNamed "strconv.ErrRange" = some 5 by kernel_rfl] at hv4
    simp only [Option.bind_some] at hv4
    cases hh : W.heap[5]? with
    | none => rw [hh] at hv4; cases hv4
    | some o => have := (Array.getElem?_eq_some_iff.1 hh).1; omega
end Go.Proofs.YtmmbhmfbhleglaaDoor
