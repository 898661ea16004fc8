/- What the card's condition tells of the program's table; an array of two slices, a slice of slices, that came in. -/
import Derived.Test.YtomlednobmaaeaaDoorRows
import Derived.Test.YtomlednobmaaeaaDoorCiA
import Derived.Test.YtomlednobmaaeaaDoorFrame
import Derived.Test.YtomlednobmaaeaaDoorArg1
import Derived.Lib.LaidTab
import Derived.MakeChecks
import Derived.OpenShut
import Derived.WideShapes
namespace Go.Proofs.YtomlednobmaaeaaDoor
open Go Go.RowKit
theorem sqr_of_laid {W : World} (h : laidMetH Tryd.prog [("tabulary/cipher.squareOf", Rows.laid_tabulary_cipher_squareOf)] W) : Sqr W := by
  rw [MakeChecks.laidMetH_plain _ _ _ rfl] at h
  have ht : Lib.TabIs Tryd.prog W "tabulary/cipher.squareOf" .u64 sqZ :=
    Lib.tabIs_of_head (P := Tryd.prog) (zs := sqZ) (rest := []) (g := 0) (t := 66) (e := 58) (n := 8) (by kernel_rfl) (by kernel_rfl) Tryd.underlying66 Tryd.underlying58 (by kernel_rfl) (by kernel_rfl) h
  intro j v hv
  have hj : j < sqZ.length := by have := (List.getElem?_eq_some_iff.1 hv).1; rwa [kis_len] at this
  have := ht.cell (g := 0) (by kernel_rfl) j hj
  rw [Nat.zero_add, this, ← hv]
  simp only [kis, List.getElem?_map, List.getElem?_eq_getElem hj, Option.map_some, List.getD_eq_getElem?_getD, Option.getD_some]
end Go.Proofs.YtomlednobmaaeaaDoor
