/- The schema that the statements use, in memory. -/
import Derived.Test.YtmamcnhofgfolaaTrL
namespace Go.Proofs.Ytmamcnhofgfolaa
open Go Go.RowKit
def lfD (nm : List UInt8) (ty : Int) : PD := .mk nm 3 ty [] false [] []
def sId : List UInt8 := [105, 100]
def sColor : List UInt8 := [99, 111, 108, 111, 114]
def sRed : List UInt8 := [114, 101, 100]
def sGreen : List UInt8 := [103, 114, 101, 101, 110]
def sName : List UInt8 := [110, 97, 109, 101]
def sSpeed : List UInt8 := [115, 112, 101, 101, 100]
def sOn : List UInt8 := [111, 110]
def sPort : List UInt8 := [112, 111, 114, 116]
def sTitle : List UInt8 := [116, 105, 116, 108, 101]
def sNote : List UInt8 := [110, 111, 116, 101]
def sDeep : List UInt8 := [100, 101, 101, 112]
def sBox : List UInt8 := [98, 111, 120]
def sX : List UInt8 := [120]
def sY : List UInt8 := [121]
def sV : List UInt8 := [118]
def sPair : List UInt8 := [112, 97, 105, 114]
def sHost : List UInt8 := [104, 111, 115, 116]
def sArea : List UInt8 := [97, 114, 101, 97]
def idD : PD := .mk sId 3 1 [] true [] []
def colorD : PD := .mk sColor 3 3 [sRed, sGreen] false [] []
def portD : PD := .mk sPort 2 0 [] false [sName] [lfD sName 0, lfD sSpeed 1, lfD sOn 2]
def deepD : PD := .mk sDeep 1 0 [] false [] [idD, lfD sNote 0]
def boxD : PD := .mk sBox 1 0 [] false [] [lfD sTitle 0, colorD, portD, deepD]
def pairD : PD := .mk sPair 2 0 [] false [sX, sY] [lfD sY 0, lfD sX 1, lfD sV 0]
def areaD : PD := .mk sArea 2 0 [] false [sName] [lfD sName 0, portD]
/-- The schema. -/
def schD : List PD := [lfD sHost 0, boxD, pairD, areaD]
abbrev lfV (s : ByteArray) (ty : Int) : Value := .agg #[.string s, .int .i64 3, .int .i64 ty, .slice none 0 0, .bool false, .slice none 0 0, .slice none 0 0]
set_option maxRecDepth 20000 in
theorem leaf_any (s : ByteArray) (ty : Int) (w : World) : Calls Try.prog 20 #[.string s, .int .i64 ty] w fun e w' => e = .returned (lfV s ty) ∧ Kp0 w w' := by
  go_enter Try.func20, Try.ntmps20
  go_wp2_with (first
    | (refine wl_alloc_as asDf rfl rfl ?_
       intro w1 g hw hg
       have HB : Hid (Blk w1 g 35 df0) := Lib.hid (by rw [hw, hg]; exact blk0 _ _ _)
       have HK : Hid (Kp0 w w1 ∧ w.heap.size ≤ g) := Lib.hid (by rw [hw, hg]; exact ⟨(Kp.refl _ _).alloc _, Nat.le_refl _⟩)
       clear hw hg)
    | (refine wl_store_blk rfl 35 (.tmp 4) (.tmp 7) rfl g _ df0 [.string s, .int .i64 3, .int .i64 ty, .slice none 0 0, .bool false, .slice none 0 0, .slice none 0 0] rfl rfl HB.out rfl rfl (by intro u hu; simp only [List.mem_cons, List.not_mem_nil, or_false] at hu; rcases hu with rfl | rfl | rfl | rfl | rfl | rfl | rfl <;> rfl) ?_
       intro w2 hA hk
       have HB2 := Lib.hid hA
       have HK2 : Hid (Kp0 w w2) := Lib.hid (HK.out.1.trans hk (fun _ _ h => h) (fun i hi e => by have := HK.out.2; omega))
       clear hA hk))
  refine ret_blk 4 35 35 g [.string s, .int .i64 3, .int .i64 ty, .slice none 0 0, .bool false, .slice none 0 0, .slice none 0 0] _ rfl rfl HB2.out Try.underlying35 rfl rfl rfl ?_
  exact ⟨rfl, HK2.out⟩
end Go.Proofs.Ytmamcnhofgfolaa
