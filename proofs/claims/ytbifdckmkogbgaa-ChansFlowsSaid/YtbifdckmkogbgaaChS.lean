/- One end of a channel, as plain functions: messages, what each call makes of an end. Nothing of the program's text stands here. -/
import Derived.Test.YtbifdckmkogbgaaRead2
namespace Go.Proofs.Ytbifdckmkogbgaa
open Go
structure Ch where
  sv : Bool
  st : Nat
  rd : Bool
  nu : Nat
  wi : Nat
  mo : Nat
  ro : Nat
  wa : List UInt8
  ca : List UInt8
  out : List (List UInt8)
  en : Bool
  cl : Bool
  deriving DecidableEq
structure Msg where
  kind : Nat
  tgt : Nat
  frm : Nat
  win : Nat
  most : Nat
  text : List UInt8
  ask : Bool
  runs : Bool
  deriving DecidableEq
def sessionB : List UInt8 := [115, 101, 115, 115, 105, 111, 110]
def subsystemB : List UInt8 := [115, 117, 98, 115, 121, 115, 116, 101, 109]
def netconfB : List UInt8 := [110, 101, 116, 99, 111, 110, 102]
def toB (k n : Nat) : List UInt8 := UInt8.ofNat k :: be4 n
def boundsB (l : List UInt8) : List UInt8 := l ++ be4 0 ++ be4 4096 ++ be4 512
def wishB : List UInt8 := boundsB (90 :: encText sessionB)
def confirmB (n : Nat) : List UInt8 := boundsB (toB 91 n)
def refuseB (n : Nat) : List UInt8 := toB 92 n ++ be4 3 ++ encText [] ++ encText []
def adjustB (n k : Nat) : List UInt8 := toB 93 n ++ be4 k
def dataB (n : Nat) (s : List UInt8) : List UInt8 := toB 94 n ++ encText s
def requestB (n : Nat) : List UInt8 := toB 98 n ++ encText subsystemB ++ [1] ++ encText netconfB
/-- A reader's state. -/
abbrev RS := Option (List UInt8)
def flagS (st : RS) : Bool × RS := (decide ((byteS st).1 ≠ 0), (byteS st).2)
def bndS (m : Msg) (s : RS) : Msg × RS :=
  ({ m with frm := (u32S s).1, win := (u32S (u32S s).2).1, most := (u32S (u32S (u32S s).2).2).1 }, (u32S (u32S (u32S s).2).2).2)
def reqS (m : Msg) (s : RS) : Msg × RS :=
  if (textS s).1 = subsystemB then
    ({ m with ask := (flagS (textS s).2).1, runs := decide ((textS (flagS (textS s).2).2).1 = netconfB) && decide ((textS (flagS (textS s).2).2).2 = some []) }, (textS (flagS (textS s).2).2).2)
  else ({ m with ask := (flagS (textS s).2).1 }, (flagS (textS s).2).2)
def msg0 (k : Nat) : Msg := ⟨k, 0, 0, 0, 0, [], false, false⟩
/-- What a kind's message holds behind the number, what is left, whether it may be left. -/
def bodyS (m : Msg) (s : RS) : Msg × RS :=
  if m.kind = 90 then bndS { m with text := (textS s).1 } (textS s).2
  else if m.kind = 91 then bndS m s
  else if m.kind = 93 then ({ m with win := (u32S s).1 }, (u32S s).2)
  else if m.kind = 94 then ({ m with text := (textS s).1 }, (textS s).2)
  else if m.kind = 98 then reqS m s
  else (m, s)
def headS (p : List UInt8) : Msg × RS :=
  if (byteS (some p)).1 = 90 then (msg0 (byteS (some p)).1, (byteS (some p)).2)
  else ({ msg0 (byteS (some p)).1 with tgt := (u32S (byteS (some p)).2).1 }, (u32S (byteS (some p)).2).2)
def known (k : Nat) : Bool := k == 90 || k == 91 || k == 92 || k == 93 || k == 94 || k == 96 || k == 97 || k == 98 || k == 99 || k == 100
def wholeS (k : Nat) (s : RS) : Bool := if k = 92 ∨ k = 98 then s.isSome else decide (s = some [])
def readS (p : List UInt8) : Option Msg :=
  if known (headS p).1.kind && wholeS (headS p).1.kind (bodyS (headS p).1 (headS p).2).2 then some (bodyS (headS p).1 (headS p).2).1 else none
def sayS (c : Ch) (p : List UInt8) : Ch := { c with out := c.out ++ [p] }
def newS (sv : Bool) : Ch := ⟨sv, 0, false, 0, 0, 0, 0, [], [], [], false, false⟩
def closeS (c : Ch) : Ch := if c.cl then c else sayS (sayS { c with cl := true, wa := [] } (toB 96 c.nu)) (toB 97 c.nu)
def flowN (c : Ch) : Nat := min (min c.wa.length c.wi) c.mo
def flow1 (c : Ch) : Ch := { sayS c (dataB c.nu (c.wa.take (flowN c))) with wa := c.wa.drop (flowN c), wi := c.wi - flowN c }
def flows (c : Ch) : Bool := !c.wa.isEmpty && decide (0 < c.wi) && !c.cl
def flowF : Nat → Ch → Ch
  | 0, c => c
  | k + 1, c => if flows c then flowF k (flow1 c) else c
def flowS (c : Ch) : Ch := flowF c.wa.length c
def beginS (c : Ch) : Ch × Nat := if c.sv || decide (c.st ≠ 0) then (c, 8) else (sayS { c with st := 1 } wishB, 0)
def sendS (c : Ch) (b : List UInt8) : Ch × Nat := if decide (c.st ≠ 2) || !c.rd || c.cl then (c, 8) else (flowS { c with wa := c.wa ++ b }, 0)
def recvS (c : Ch) : Ch := if !c.ca.isEmpty && decide (c.st = 2) && !c.cl then sayS { c with ca := [], ro := c.ro + c.ca.length } (adjustB c.nu c.ca.length) else { c with ca := [] }
def endS (c : Ch) : Ch × Nat := if decide (c.st ≠ 2) || c.cl then (c, 8) else (closeS c, 0)
def hearsO (c : Ch) (m : Msg) : Bool :=
  if m.kind = 93 then decide (m.win ≤ 2147483647 - c.wi)
  else if m.kind = 94 then !c.en && decide (m.text.length ≤ min c.ro 512)
  else if m.kind = 96 then !c.en
  else if m.kind = 99 ∨ m.kind = 100 then !c.sv && !c.rd
  else true
def hearsS (c : Ch) (m : Msg) : Bool :=
  if m.kind = 90 then c.sv
  else if m.kind = 91 then decide (c.st = 1) && decide (m.tgt = 0) && decide (0 < m.most)
  else if m.kind = 92 then decide (c.st = 1)
  else decide (c.st = 2) && decide (m.tgt = 0) && hearsO c m
def openS (c : Ch) (m : Msg) : Ch := { c with st := 2, nu := m.frm, wi := min m.win 1073741824, mo := min m.most 512, ro := 4096 }
def admitS (c : Ch) (m : Msg) : Ch :=
  if decide (c.st ≠ 0) || decide (m.text ≠ sessionB) || decide (m.most = 0) then sayS c (refuseB m.frm) else sayS (openS c m) (confirmB m.frm)
def answerS (c : Ch) (m : Msg) : Ch :=
  if m.ask then sayS { c with rd := c.rd || (m.runs && c.sv && !c.rd) } (toB (if m.runs && c.sv && !c.rd then 99 else 100) c.nu)
  else { c with rd := c.rd || (m.runs && c.sv && !c.rd) }
def heedS (c : Ch) (m : Msg) : Ch :=
  if m.kind = 90 then admitS c m
  else if m.kind = 91 then sayS (openS c m) (requestB m.frm)
  else if m.kind = 92 then { c with st := 3 }
  else if m.kind = 93 then flowS { c with wi := c.wi + m.win }
  else if m.kind = 94 then { c with ro := c.ro - m.text.length, ca := c.ca ++ m.text }
  else if m.kind = 96 then { c with en := true }
  else if m.kind = 97 then { closeS c with st := 3 }
  else if m.kind = 98 then answerS c m
  else if m.kind = 99 then { c with rd := true }
  else closeS c
def takeC (c : Ch) (p : List UInt8) : Ch × Nat :=
  match readS p with
  | none => (c, 3)
  | some m => if hearsS c m then (heedS c m, 0) else (c, 3)
def takesC (c : Ch) (l : List (List UInt8)) : Ch := l.foldl (fun c p => (takeC c p).1) c
/-- What goes out of a comes to b. -/
def carryS (a b : Ch) : Ch × Ch := ({ a with out := [] }, takesC b a.out)
def roundS (x : Ch × Ch) : Ch × Ch := ((carryS (carryS x.1 x.2).2 (carryS x.1 x.2).1).2, (carryS (carryS x.1 x.2).2 (carryS x.1 x.2).1).1)
end Go.Proofs.Ytbifdckmkogbgaa
