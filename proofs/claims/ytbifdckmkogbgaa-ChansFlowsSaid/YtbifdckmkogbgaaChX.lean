/- Channels closed by both sides. Nothing of the program's text stands here. -/
import Derived.Test.YtbifdckmkogbgaaChV
namespace Go.Proofs.Ytbifdckmkogbgaa
open Go
def bse (sv : Bool) : Ch := ⟨sv, 2, true, 0, 4096, 512, 4096, [], [], [], false, false⟩
theorem bse_live (sv : Bool) : Live (bse sv) := ⟨rfl, rfl, rfl, rfl, rfl, rfl, rfl⟩
def sentC (sv : Bool) (n : Nat) (cs : List (List UInt8)) : Ch := ⟨sv, 2, true, 0, 4096 - n, 512, 4096, [], [], cs.map (dataB 0), false, false⟩
def outX (cs : List (List UInt8)) : List (List UInt8) := cs.map (dataB 0) ++ [toB 96 0, toB 97 0]
def clsX (sv : Bool) (n : Nat) (cs : List (List UInt8)) : Ch := ⟨sv, 2, true, 0, 4096 - n, 512, 4096, [], [], outX cs, false, true⟩
def clsX0 (sv : Bool) (n : Nat) : Ch := ⟨sv, 2, true, 0, 4096 - n, 512, 4096, [], [], [], false, true⟩
def clsY (sv : Bool) (d : List UInt8) : Ch := ⟨sv, 3, true, 0, 4096, 512, 4096 - d.length, [], d, [toB 96 0, toB 97 0], true, true⟩
def finX (sv : Bool) (n : Nat) : Ch := ⟨sv, 3, true, 0, 4096 - n, 512, 4096, [], [], [], true, true⟩
def finY (sv : Bool) (d : List UInt8) : Ch := ⟨sv, 3, true, 0, 4096, 512, 4096 - d.length, [], d, [], true, true⟩
def finZ (sv : Bool) (n : Nat) : Ch := ⟨sv, 3, true, 0, 4096, 512, 4096 - n, [], [], [], true, true⟩
structure Cut (d : List UInt8) (cs : List (List UInt8)) : Prop where
  fl : cs.flatten = d
  le : ∀ x ∈ cs, x.length ≤ 512
  ne : ∀ x ∈ cs, x ≠ []
theorem send_bse (sv : Bool) (d : List UInt8) (h : d.length ≤ 4096) : ∃ cs, Cut d cs ∧ sendS (bse sv) d = (sentC sv d.length cs, 0) := by
  obtain ⟨cs, hF⟩ := flown { bse sv with wa := d } (by show 1 ≤ 512; decide) rfl
  have hn : min d.length 4096 = d.length := by omega
  refine ⟨cs, ⟨?_, fun x hx => (hF.each x hx).2, fun x hx => (hF.each x hx).1⟩, ?_⟩
  · have := hF.fl
    rw [show min ({ bse sv with wa := d } : Ch).wa.length ({ bse sv with wa := d } : Ch).wi = d.length from hn] at this
    rw [this]
    exact List.take_length
  · have e : sendS (bse sv) d = (flowS { bse sv with wa := d }, 0) := rfl
    rw [e, hF.eq]
    rw [show min ({ bse sv with wa := d } : Ch).wa.length ({ bse sv with wa := d } : Ch).wi = d.length from hn]
    unfold sentC bse
    simp
theorem end_sent (sv : Bool) (n : Nat) (cs : List (List UInt8)) : endS (sentC sv n cs) = (clsX sv n cs, 0) := by
  have e : endS (sentC sv n cs) = (closeS (sentC sv n cs), 0) := rfl
  rw [e]
  unfold closeS sentC clsX sayS outX
  simp
theorem send_cls (sv : Bool) (n : Nat) (cs : List (List UInt8)) (d : List UInt8) : sendS (clsX sv n cs) d = (clsX sv n cs, 8) := rfl
theorem end_cls (sv : Bool) (n : Nat) (cs : List (List UInt8)) : endS (clsX sv n cs) = (clsX sv n cs, 8) := rfl
def midY (sv : Bool) (d : List UInt8) (en : Bool) : Ch := ⟨sv, 2, true, 0, 4096, 512, 4096 - d.length, [], d, [], en, false⟩
theorem takes_data (sv : Bool) (cs : List (List UInt8)) (h : cs.flatten.length ≤ 4096) (hl : ∀ x ∈ cs, x.length ≤ 512) : takesC (bse sv) (cs.map (dataB 0)) = midY sv cs.flatten false := by
  rw [takesC_data cs (bse sv) rfl rfl (by show _ ≤ 4096; exact h) hl]
  unfold midY bse
  simp
theorem take_eof (sv : Bool) (d : List UInt8) : takeC (midY sv d false) (toB 96 0) = (midY sv d true, 0) := takeC_some readS_eof rfl
theorem take_cls (sv : Bool) (d : List UInt8) : takeC (midY sv d true) (toB 97 0) = (clsY sv d, 0) := takeC_some readS_close rfl
theorem midY_ok (sv : Bool) (d : List UInt8) (en : Bool) (h : d.length ≤ 4096) : TakeOk (midY sv d en) :=
  ⟨by show 0 < _; decide, by show 4096 ≤ _; decide, by show 512 ≤ _; decide, fun _ => by show 1 ≤ 512; decide, by show 0 ≤ _; decide, by show 0 + 0 ≤ _; decide, by show d.length ≤ _; omega, by show 4096 - d.length ≤ _; omega⟩
theorem carry_xy (sx sy : Bool) (d : List UInt8) (cs : List (List UInt8)) (hc : Cut d cs) (h : d.length ≤ 3000) : carryS (clsX sx d.length cs) (bse sy) = (clsX0 sx d.length, clsY sy d) := by
  unfold carryS
  refine Prod.ext rfl ?_
  show takesC (bse sy) (cs.map (dataB 0) ++ [toB 96 0, toB 97 0]) = _
  rw [takesC_app, takes_data sy cs (by rw [hc.fl]; omega) hc.le, hc.fl, takesC_cons, take_eof, takesC_cons, take_cls, takesC_nil]
theorem carry_xy_ok (sx sy : Bool) (d : List UInt8) (cs : List (List UInt8)) (hc : Cut d cs) (h : d.length ≤ 3000) : ∀ k, k < (clsX sx d.length cs).out.length → TakeOk (takesC (bse sy) ((clsX sx d.length cs).out.take k)) := by
  intro k hk
  have hk2 : k < cs.length + 2 := by
    have : (clsX sx d.length cs).out.length = cs.length + 2 := by show (cs.map (dataB 0) ++ [toB 96 0, toB 97 0]).length = _; simp
    omega
  show TakeOk (takesC (bse sy) ((cs.map (dataB 0) ++ [toB 96 0, toB 97 0]).take k))
  rw [List.take_append, List.length_map, takesC_app, ← List.map_take]
  have hfl : (cs.take k).flatten.length ≤ d.length := by
    rw [← hc.fl]
    conv => rhs; rw [← List.take_append_drop k cs]
    rw [List.flatten_append, List.length_append]
    omega
  rw [takes_data sy (cs.take k) (by omega) (fun x hx => hc.le x (List.mem_of_mem_take hx))]
  by_cases h1 : k ≤ cs.length
  · rw [show k - cs.length = 0 by omega, List.take_zero, takesC_nil]
    exact midY_ok _ _ _ (by omega)
  · rw [show k - cs.length = 1 by omega]
    show TakeOk (takesC (midY sy (cs.take k).flatten false) [toB 96 0])
    rw [takesC_cons, take_eof, takesC_nil]
    exact midY_ok _ _ _ (by omega)
theorem take_eofX (sv : Bool) (n : Nat) : takeC (clsX0 sv n) (toB 96 0) = ({ clsX0 sv n with en := true }, 0) := takeC_some readS_eof rfl
theorem take_clsX (sv : Bool) (n : Nat) : takeC { clsX0 sv n with en := true } (toB 97 0) = (finX sv n, 0) := takeC_some readS_close rfl
theorem carry_yx (sx sy : Bool) (d : List UInt8) : carryS (clsY sy d) (clsX0 sx d.length) = (finY sy d, finX sx d.length) := by
  unfold carryS
  refine Prod.ext rfl ?_
  show takesC (clsX0 sx d.length) [toB 96 0, toB 97 0] = _
  rw [takesC_cons, take_eofX, takesC_cons, take_clsX, takesC_nil]
theorem clsX0_ok (sv : Bool) (n : Nat) (en : Bool) : TakeOk { clsX0 sv n with en := en } :=
  ⟨by show 0 < _; decide, by show 4096 - n ≤ _; omega, by show 512 ≤ _; decide, fun _ => by show 1 ≤ 512; decide, by show 0 ≤ _; decide, by show 0 + 0 ≤ _; decide, by show 0 ≤ _; decide, by show 4096 ≤ _; decide⟩
theorem carry_yx_ok (sx sy : Bool) (d : List UInt8) : ∀ k, k < (clsY sy d).out.length → TakeOk (takesC (clsX0 sx d.length) ((clsY sy d).out.take k)) := by
  intro k hk
  have hk2 : k < 2 := hk
  rcases (show k = 0 ∨ k = 1 by omega) with rfl | rfl
  · exact clsX0_ok _ _ _
  · show TakeOk (takesC (clsX0 sx d.length) [toB 96 0])
    rw [takesC_cons, take_eofX, takesC_nil]
    exact clsX0_ok _ _ _
theorem fin_xy (sx sy : Bool) (d : List UInt8) : carryS (finX sx d.length) (finY sy d) = (finX sx d.length, finY sy d) := rfl
theorem fin_yx (sx sy : Bool) (d : List UInt8) : carryS (finY sy d) (finX sx d.length) = (finY sy d, finX sx d.length) := rfl
/-- The ends after so many rounds. -/
def clsSeq (sx sy : Bool) (d : List UInt8) (cs : List (List UInt8)) (k : Nat) : Ch × Ch := if k = 0 then (clsX sx d.length cs, bse sy) else (finX sx d.length, finY sy d)
theorem fin_send (sv : Bool) (d l : List UInt8) : sendS (finY sv d) l = (finY sv d, 8) := rfl
theorem fin_recv (sv : Bool) (d : List UInt8) : recvS (finY sv d) = finZ sv d.length := by
  unfold recvS
  rw [if_neg (by show ¬ (!d.isEmpty && decide (3 = 2) && !true) = true; simp)]
  rfl
theorem finZ_ok (sv : Bool) (n : Nat) : TakeOk (finZ sv n) :=
  ⟨by show 0 < _; decide, by show 4096 ≤ _; decide, by show 512 ≤ _; decide, fun _ => by show 1 ≤ 512; decide, by show 0 ≤ _; decide, by show 0 + 0 ≤ _; decide, by show 0 ≤ _; decide, by show 4096 - n ≤ _; omega⟩
/-- What a shut end makes of anything. -/
theorem take_fin (sv : Bool) (n : Nat) (p : List UInt8) : (takeC (finZ sv n) p).1.st = 3 ∧ ((takeC (finZ sv n) p).2 = 3 ∨ ((takeC (finZ sv n) p).2 = 0 ∧ p.head? = some 90)) := by
  cases hr : readS p with
  | none =>
    have e : takeC (finZ sv n) p = (finZ sv n, 3) := by unfold takeC; rw [hr]
    rw [e]
    exact ⟨rfl, .inl rfl⟩
  | some m =>
    cases hh : hearsS (finZ sv n) m with
    | false => rw [takeC_deaf hr hh]; exact ⟨rfl, .inl rfl⟩
    | true =>
      rw [takeC_some hr hh]
      by_cases h90 : m.kind = 90
      · refine ⟨?_, .inr ⟨rfl, ?_⟩⟩
        · have e : heedS (finZ sv n) m = sayS (finZ sv n) (refuseB m.frm) := by
            unfold heedS
            rw [if_pos h90]
            rfl
          rw [e]
          rfl
        · have hk : m.kind = (headS p).1.kind := by
            unfold readS at hr
            split at hr
            · rw [← Option.some.inj hr]
              unfold bodyS bndS reqS
              split
              · rfl
              · split
                · rfl
                · split
                  · rfl
                  · split
                    · rfl
                    · split
                      · split <;> rfl
                      · rfl
            · cases hr
          have hb : (byteS (some p)).1 = 90 := by
            rw [h90] at hk
            unfold headS at hk
            split at hk
            · exact hk.symm
            · exact hk.symm
          cases p with
          | nil => exact absurd hb (by decide)
          | cons c l =>
            rw [byteS_cons] at hb
            simp only [List.head?_cons, Option.some.injEq]
            exact UInt8.toNat_inj.1 hb
      · exfalso
        unfold hearsS at hh
        rw [if_neg h90] at hh
        by_cases h91 : m.kind = 91
        · rw [if_pos h91] at hh
          have : (decide ((finZ sv n).st = 1)) = false := rfl
          rw [this] at hh
          simp at hh
        · rw [if_neg h91] at hh
          by_cases h92 : m.kind = 92
          · rw [if_pos h92] at hh
            have : (decide ((finZ sv n).st = 1)) = false := rfl
            rw [this] at hh
            cases hh
          · rw [if_neg h92] at hh
            have : (decide ((finZ sv n).st = 2)) = false := rfl
            rw [this] at hh
            simp at hh
end Go.Proofs.Ytbifdckmkogbgaa
