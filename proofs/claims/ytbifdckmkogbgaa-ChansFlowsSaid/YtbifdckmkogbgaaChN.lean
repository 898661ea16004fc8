/- Package chans: a message taken. -/
import Derived.Test.YtbifdckmkogbgaaChL
namespace Go.Proofs.Ytbifdckmkogbgaa
open Go Go.RowKit
theorem u32S_lt (st : RS) : (u32S st).1 < 4294967296 := beNat_lt _
theorem readS_ok {p : List UInt8} {m : Msg} (h : readS p = some m) : MsgOk m ∧ known m.kind = true := by
  unfold readS at h
  split at h
  · rename_i hk
    have hm := Option.some.inj h
    simp only [Bool.and_eq_true] at hk
    have hkind : m.kind = (headS p).1.kind := by
      rw [← hm]
      unfold bodyS bndS reqS
      split
      · rfl
      · split
        · rfl
        · split
          · rfl
          · split
            · rfl
            · split
              · split <;> rfl
              · rfl
    refine ⟨?_, by rw [hkind]; exact hk.1⟩
    have h0 : MsgOk (headS p).1 := by
      unfold headS MsgOk
      split <;> simp [msg0]
    rw [← hm]
    unfold bodyS
    split
    · exact ⟨u32S_lt _, u32S_lt _, u32S_lt _, textS_len _⟩
    · split
      · exact ⟨u32S_lt _, u32S_lt _, u32S_lt _, h0.2.2.2⟩
      · split
        · exact ⟨h0.1, u32S_lt _, h0.2.2⟩
        · split
          · exact ⟨h0.1, h0.2.1, h0.2.2.1, textS_len _⟩
          · split
            · unfold reqS
              split <;> exact h0
            · exact h0
  · cases h
set_option maxRecDepth 20000 in
set_option maxHeartbeats 1000000 in
theorem take_nil (v : Value) (p : List UInt8) (w : World) (hv : Rd w v (bys p)) : Calls Try.prog 16 #[.pointer none, v] w fun e w' => e = .returned (.int .i64 3) ∧ Kp0 w w' := by
  have HV := Lib.hid hv
  clear hv
  go_enter Try.func16, Try.ntmps16
  go_wp2_with fail
  refine (read_any v p _ HV.out).mono ?_
  rintro e w1 ⟨t, m, rfl, ht, hms, hk⟩
  have HT := Lib.hid ht
  have HMS := Lib.hid hms
  have HK1 := Lib.hid hk
  have HZ : Hid (Blk (w1.alloc (.cells #[.int .u8 0, .int .u32 0, .int .u32 0, .int .u32 0, .int .u32 0, .string { data := #[] }, .bool false, .bool false] 58)) w1.heap.size 58 (cellsM (msg0 0) { data := #[] })) := Lib.hid (blk0 w1 _ _)
  have HKZ : Hid (Kp0 w (w1.alloc (.cells #[.int .u8 0, .int .u32 0, .int .u32 0, .int .u32 0, .int .u32 0, .string { data := #[] }, .bool false, .bool false] 58))) := Lib.hid (hk.alloc _)
  clear ht hms hk
  obtain ⟨ok, hok⟩ : ∃ ok, ok = (readS p).isSome := ⟨_, rfl⟩
  rw [← hok]
  clear hok
  go_wp2_with (refine wl_store_blk rfl 58 (.tmp 5) (.tmp 10) rfl w1.heap.size _ _ (cellsM m t) rfl rfl HZ.out (infoM m t) rfl (onesM m t) ?_; intro w3 hA3 hK3; have HK3 := Lib.hid hK3; clear hA3 hK3)
  all_goals go_ret
  all_goals exact ⟨rfl, HKZ.out.trans HK3.out (fun _ _ h => h) (fun i hi e => by have h1 := HK1.out.size; have e2 : i = w1.heap.size := e; omega)⟩
set_option maxRecDepth 20000 in
set_option maxHeartbeats 2000000 in
theorem take_any (B b : Nat) (F : Nat → Prop) (c : Ch) (v : Value) (p : List UInt8) (w : World) (h0 : Cm B w b F c) (hv : Rd w v (bys p)) (hok : TakeOk c) :
    Calls Try.prog 16 #[.pointer (some ⟨b, 0, none⟩), v] w (ErrP B b F w (takeC c p)) := by
  have HV := Lib.hid hv
  have HC := Lib.hid h0
  have HOK := Lib.hid hok
  clear hv h0 hok
  go_enter Try.func16, Try.ntmps16
  go_wp2_with fail
  refine (read_any v p _ HV.out).mono ?_
  rintro e w1 ⟨t, m, rfl, ht, hms, hk⟩
  have HT := Lib.hid ht
  have HMS := Lib.hid hms
  have HK1 := Lib.hid hk
  have HZ : Hid (Blk (w1.alloc (.cells #[.int .u8 0, .int .u32 0, .int .u32 0, .int .u32 0, .int .u32 0, .string { data := #[] }, .bool false, .bool false] 58)) w1.heap.size 58 (cellsM (msg0 0) { data := #[] })) := Lib.hid (blk0 w1 _ _)
  have HKZ : Hid (Kp0 w (w1.alloc (.cells #[.int .u8 0, .int .u32 0, .int .u32 0, .int .u32 0, .int .u32 0, .string { data := #[] }, .bool false, .bool false] 58))) := Lib.hid (hk.alloc _)
  clear ht hms hk
  cases hr : readS p with
  | none =>
    have HE : Hid (takeC c p = (c, 3)) := Lib.hid (by unfold takeC; rw [hr])
    clear hr HMS
    simp only [Option.isSome_none]
    go_wp2_with (refine wl_store_blk rfl 58 (.tmp 5) (.tmp 10) rfl w1.heap.size _ _ (cellsM m t) rfl rfl HZ.out (infoM m t) rfl (onesM m t) ?_; intro w3 hA3 hK3; have HK3 := Lib.hid hK3; clear hA3 hK3)
    all_goals go_ret
    rw [HE.out]
    have hk3 : Kp0 w w3 := HKZ.out.trans HK3.out (fun _ _ h => h) (fun i hi e => by have h1 := HK1.out.size; have e2 : i = w1.heap.size := e; omega)
    exact ⟨rfl, CmP.trans (fun _ h => .inl h) (hk3.nil F) (CmP.refl (HC.out.kp0 hk3))⟩
  | some m' =>
    obtain rfl := HMS.out m' hr
    have HMO := Lib.hid (readS_ok hr)
    have HR := Lib.hid hr
    clear hr HMS
    simp only [Option.isSome_some]
    cases hh : hearsS c m with
    | false =>
      have HE : Hid (takeC c p = (c, 3)) := Lib.hid (takeC_deaf HR.out hh)
      have HH := Lib.hid hh
      clear hh
      go_wp2_with (first
        | (refine wl_store_blk rfl 58 (.tmp 5) (.tmp 10) rfl w1.heap.size _ _ (cellsM m t) rfl rfl HZ.out (infoM m t) rfl (onesM m t) ?_; intro w3 hA3 hK3; have hq0 := hA3.cellV 0 rfl; have hq1 := hA3.cellV 1 rfl; have hq2 := hA3.cellV 2 rfl; have hq3 := hA3.cellV 3 rfl; have hq4 := hA3.cellV 4 rfl; have hq5 := hA3.cellV 5 rfl; have hq6 := hA3.cellV 6 rfl; have hq7 := hA3.cellV 7 rfl; have HK3 : Hid (Kp0 w w3) := Lib.hid (HKZ.out.trans hK3 (fun _ _ h => h) (fun i hi e => by have h1 := HK1.out.size; have e2 : i = w1.heap.size := e; omega)); clear hA3 hK3)
        | (go_at_call 33; refine (hears_any B b F c m t _ (HC.out.kp0 HK3.out) HT.out HOK.out.wi HMO.out.1.2.1).mono ?_; rw [HH.out]; rintro e w4 ⟨rfl, hk4⟩; have HK4 := Lib.hid (HK3.out.tr hk4); clear hk4))
      all_goals go_ret
      rw [HE.out]
      exact ⟨rfl, CmP.trans (fun _ h => .inl h) (HK4.out.nil F) (CmP.refl (HC.out.kp0 HK4.out))⟩
    | true =>
      have HE : Hid (takeC c p = (heedS c m, 0)) := Lib.hid (takeC_some HR.out hh)
      have HH := Lib.hid hh
      clear hh
      go_wp2_with (first
        | (refine wl_store_blk rfl 58 (.tmp 5) (.tmp 10) rfl w1.heap.size _ _ (cellsM m t) rfl rfl HZ.out (infoM m t) rfl (onesM m t) ?_; intro w3 hA3 hK3; have HA3 := Lib.hid hA3; have hq0 := hA3.cellV 0 rfl; have hq1 := hA3.cellV 1 rfl; have hq2 := hA3.cellV 2 rfl; have hq3 := hA3.cellV 3 rfl; have hq4 := hA3.cellV 4 rfl; have hq5 := hA3.cellV 5 rfl; have hq6 := hA3.cellV 6 rfl; have hq7 := hA3.cellV 7 rfl; have HK3 : Hid (Kp0 w w3) := Lib.hid (HKZ.out.trans hK3 (fun _ _ h => h) (fun i hi e => by have h1 := HK1.out.size; have e2 : i = w1.heap.size := e; omega)); clear hA3 hK3)
        | (go_at_call 33; refine (hears_any B b F c m t _ (HC.out.kp0 HK3.out) HT.out HOK.out.wi HMO.out.1.2.1).mono ?_; rw [HH.out]; rintro e w4 ⟨rfl, hk4⟩; have HK4 := Lib.hid (HK3.out.tr hk4); have HA4 := Lib.hid (HA3.out.kp0 hk4); clear hk4; clear hq0 hq1 hq2 hq3 hq4 hq5 hq6 hq7; have hq0 := HA4.out.cellV 0 rfl; have hq1 := HA4.out.cellV 1 rfl; have hq2 := HA4.out.cellV 2 rfl; have hq3 := HA4.out.cellV 3 rfl; have hq4 := HA4.out.cellV 4 rfl; have hq5 := HA4.out.cellV 5 rfl; have hq6 := HA4.out.cellV 6 rfl; have hq7 := HA4.out.cellV 7 rfl)
        | (go_at_call 34; refine (heed_any B b F c m t _ (HC.out.kp0 HK4.out) HT.out HMO.out.1 HMO.out.2 HH.out HOK.out).mono ?_; rintro e w5 ⟨rfl, h5⟩; have H5 := Lib.hid (CmP.trans (fun _ h => .inl h) (HK4.out.nil F) h5); clear h5))
      all_goals go_ret
      rw [HE.out]
      exact ⟨rfl, H5.out⟩
end Go.Proofs.Ytbifdckmkogbgaa
