/- The reference of layer 16: Filter. -/
import Derived.Test.YtmamcnhofgfolaaTsE
namespace Go.Proofs.Ytmamcnhofgfolaa
open Go Go.RowKit
mutual
theorem one_all : ∀ n : PN, OneP n
  | .mk nm vl ks => one_step (.mk nm vl ks) (marks_step ks (ones_all ks))
theorem ones_all : ∀ ns : List PN, ∀ n ∈ ns, OneP n
  | [], _, h => by cases h
  | x :: xs, n, h => (List.mem_cons.1 h).elim (fun e => e ▸ one_all x) (fun h => ones_all xs n h)
end
theorem marks_any (ns : List PN) : MarksP ns := marks_step ns (ones_all ns)
set_option maxRecDepth 20000 in
set_option maxHeartbeats 1000000 in
theorem refFilter_any {F G H : Nat → Prop} (ds : List PD) (ns : List PN) (es : List PE) (dv nv ev : Value) (w : World) (hd : RowD F w dv ds) (hn : RowN G w nv ns) (he : RowE H w ev es) (hl : ns.length ≤ 1000000) (hok : ksOk ns = true) (heo : esOk es = true) :
    Calls Try.prog 13 #[dv, nv, ev] w fun r w' => (∃ v, r = .returned v ∧ RowN (fun i => G i ∨ w.heap.size ≤ i) w' v (cutT ns (marksT ds ns es))) ∧ Kp0 w w' := by
  have HD := Lib.hid hd
  have HN := Lib.hid hn
  have HE := Lib.hid he
  have HL := Lib.hid hl
  have HOK := Lib.hid hok
  have HEO := Lib.hid heo
  clear hd hn he hl hok heo
  go_enter Try.func13, Try.ntmps13
  go_wp2_with (first
    | (go_at_call 23
       refine (marks_any ns _ _ _ ds es dv nv ev _ HD.out HN.out HE.out HOK.out HL.out HEO.out).mono ?_
       rintro r w1 ⟨⟨mv, rfl, hm⟩, hk⟩
       have HM := Lib.hid hm
       have HK1 := Lib.hid hk
       clear hm hk)
    | (go_at_call 22
       refine (cut_any ns _ _ _ nv mv _ (HN.out.kp0 HK1.out) HM.out HOK.out HL.out).mono ?_
       rintro r w2 ⟨⟨v, rfl, hr⟩, hk⟩
       have HR := Lib.hid hr
       have HK2 := Lib.hid (HK1.out.tr hk)
       have HS : Hid (w.heap.size ≤ w1.heap.size) := Lib.hid HK1.out.size
       clear hr hk))
  go_ret
  exact ⟨⟨_, rfl, HR.out.mono (fun i hi _ => by have := HS.out; rcases hi with h | h; exact .inl h; exact .inr (by omega))⟩, HK2.out⟩
end Go.Proofs.Ytmamcnhofgfolaa
