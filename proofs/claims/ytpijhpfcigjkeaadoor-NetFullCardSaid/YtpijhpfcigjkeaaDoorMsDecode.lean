/-
  THE PROGRAM's MESSAGES (layer 19): Decode.
-/
import Derived.Test.YtpijhpfcigjkeaaDoorMsParse
import Derived.Test.YtpijhpfcigjkeaaDoorAllMsMy
import Derived.Test.YtpijhpfcigjkeaaDoorMsSeal
import Derived.Test.YtpijhpfcigjkeaaDoorAllLaid
namespace Go.Proofs.YtpijhpfcigjkeaaDoor
open Go Go.RowKit Go.Joins

/-- What Decode answers. -/
def DecodePost (w : World) (l : List UInt8) (e : Ending) (w' : World) : Prop := Kp w w' ∧
  ((∃ m a, mayM m = true ∧ encM m = l ∧ MsIn w' m a (fun b => w.heap.size ≤ b ∧ b < w'.heap.size) ∧ MsFree w' m a ∧ e = .returned (.tuple #[msV m a, .int .i64 0])) ∨ ((∀ m, mayM m = true → encM m ≠ l) ∧ e = .returned (.tuple #[msV ms0 msA0, .int .i64 1])))
set_option maxRecDepth 100000 in
set_option maxHeartbeats 2000000 in
theorem mdecode (w : World) (hT : Taken w) (A : Option Addr) (c : Nat) (l : List UInt8) (hr : Row w A (fun _ => True) (bcells l)) (hlc : l.length ≤ c) (hc : c ≤ maxLen) (hl : l.length ≤ 1000000) :
    Calls Tryd.prog 30 #[.slice A l.length c] w (DecodePost w l) := by
  have HU := Lib.hid (fun (W : World) (hk : Kp w W) => munseal W A c l (hr.keep hk) hlc hc hl (hT.keep hk))
  obtain ⟨n, hn⟩ : ∃ n, l.length = n := ⟨_, rfl⟩
  have HN := Lib.hid hn
  rw [hn] at hl HU ⊢
  obtain ⟨vZ, hvZ⟩ : ∃ v, msV ms0 msA0 = v := ⟨_, rfl⟩
  have HVZ := Lib.hid hvZ
  clear hr hn hvZ hT hlc hc
  go_enter Tryd.func30, Tryd.ntmps30
  go_upto_region 1 with (refine list_allocM rfl rfl ?_; intro w1 hb1 hk1 hs1)
  obtain ⟨g, hg⟩ : ∃ g, w.heap.size = g := ⟨_, rfl⟩
  rw [hg] at hb1 hs1 ⊢
  have HB1 := Lib.hid hb1
  have HK1 := Lib.hid hk1
  have HG := Lib.hid hg
  clear hb1 hk1 hg
  go_wp2_with fail
  refine (HU.out _ HK1.out).mono ?_
  rintro e w2 ⟨(⟨body, B, k, hbd, rfl, hbk, hkm, hrow⟩ | ⟨hno, v, rfl⟩), hk2⟩
  · have HK2 := Lib.hid (HK1.out.trans hk2)
    have HB2 := Lib.hid (HB1.out.kp hk2)
    have hgs2 : g < w2.heap.size := by have := hk2.size; omega
    have HBD := Lib.hid hbd
    have hbl : body.length ≤ 1000000 := by
      have := congrArg List.length hbd
      rw [List.length_append, sealL_len, HN.out] at this
      omega
    have HP := Lib.hid (fun (W : World) (hk : Kp w2 W) => mparse W B k body (hrow.keep hk) hbk hkm hbl)
    clear hbd hk2 hrow HB1 HK1 HU hs1 hbk hkm hbl
    go_wp2_with fail
    refine (HP.out _ (Keeps.refl _ _)).mono ?_
    rintro e w3 ⟨hk3, (⟨m, a, hbm, hwd, huni, hat, rfl⟩ | ⟨hno, rfl⟩)⟩
    · obtain ⟨vM, hvM⟩ : ∃ v, msV m a = v := ⟨_, rfl⟩
      have HVM := Lib.hid hvM
      have HMAY := Lib.hid (fun w2 (hk : Kp w3 w2) => mmay w2 m a (hat w2 (hk.mono fun _ _ _ => trivial)).1.at_ hwd)
      rw [hvM] at HMAY ⊢
      have HK3 := Lib.hid (HK2.out.trans hk3)
      have HB3 := Lib.hid (HB2.out.kp hk3)
      have hgs3 : g < w3.heap.size := by have := hk3.size; omega
      have HAT := Lib.hid hat
      have HBM := Lib.hid hbm
      have HUNI := Lib.hid huni
      have hg2 := hgs2
      clear hbm hwd huni hat hk3 hvM HK2 HB2 HP hgs2
      go_upto_region 5 with (first
        | (refine list_allocM rfl rfl ?_; intro w4 hb4 hk4 hs4)
        | (refine list_storeM rfl (.tmp 6) (.tmp 18) rfl _ ms0 m msA0 a hb4 rfl HVM.out.symm ?_; intro w5 hb5 hk5 hs5))
      obtain ⟨h, hh⟩ : ∃ h, w3.heap.size = h := ⟨_, rfl⟩
      rw [hh] at hb4 hb5 hk5 hs4 hgs3 ⊢
      have HM5 := Lib.hid hb5
      have hk35 : Kp w3 w5 := kp_behind hk4 hk5 (by omega)
      have HK35 := Lib.hid hk35
      have HK5 := Lib.hid (HK3.out.trans hk35)
      have HB5 := Lib.hid (HB3.out.kp hk35)
      clear hb4 hk4 hs4 hb5 hk5 hs5 hk35 hh HB3
      have HMM := Lib.hid (show mayM m = mayM m from rfl)
      generalize hq : mayM m = q at HMAY
      have HQ := Lib.hid hq
      clear hq HMM
      cases q with
      | false =>
        go_wp2_with (refine list_loadM rfl (.tmp 6) rfl h _ _ HM5.out rfl vM HVM.out ?_)
        refine (HMAY.out _ HK35.out).mono ?_
        rintro e w6 ⟨rfl, hk6⟩
        have HK6 := Lib.hid (HK5.out.trans hk6)
        have HB6 := Lib.hid (HB5.out.kp hk6)
        have HNO := Lib.hid (show ∀ m', mayM m' = true → encM m' ≠ l from fun m' hm' e => by
          unfold encM at e
          rw [HBD.out] at e
          have e2 : bodyM m' = body := by
            have hlen := congrArg List.length e
            rw [List.length_append, List.length_append, sealL_len, sealL_len] at hlen
            exact (List.append_inj e (by omega)).1
          have e3 := HUNI.out m' hm' e2
          rw [e3, HQ.out] at hm'
          cases hm')
        clear hk6
        go_wp2_with (first
          | (refine list_buildM rfl _ rfl vZ (by rw [← HVZ.out]; kernel_rfl) ?_)
          | (refine list_storeM rfl (.tmp 2) (.tmp 27) rfl g _ ms0 _ msA0 HB6.out rfl HVZ.out.symm ?_; intro wz hbz hkz hsz))
        refine bodyPost_ret (v := .tuple #[msV ms0 msA0, .int .i64 1]) (results_cell2 rfl rfl rfl (run_loadM hbz)) rfl ?_
        exact ⟨kp_behind HK6.out hkz (by have := HG.out; omega), .inr ⟨HNO.out, rfl⟩⟩
      | true =>
        go_wp2_with (refine list_loadM rfl (.tmp 6) rfl h _ _ HM5.out rfl vM HVM.out ?_)
        refine (HMAY.out _ HK35.out).mono ?_
        rintro e w6 ⟨rfl, hk6⟩
        have HK6 := Lib.hid (HK5.out.trans hk6)
        have HB6 := Lib.hid (HB5.out.kp hk6)
        have HM6 := Lib.hid (HM5.out.kp hk6)
        have HAT6 := Lib.hid (show ∀ W', Keeps (fun b => b ≠ g) w6 W' → MsIn W' m a (fun b => w2.heap.size ≤ b) ∧ MsFree W' m a from fun W' hW => HAT.out W' (((HK35.out.trans hk6).mono fun _ _ _ => trivial).trans (hW.mono fun b _ (hb : w2.heap.size ≤ b) => by omega)))
        clear hk6
        go_wp2_with (first
          | (refine list_loadM rfl (.tmp 6) rfl h _ _ HM6.out rfl vM HVM.out ?_)
          | (refine list_storeM rfl (.tmp 2) (.tmp 28) rfl g _ m _ a HB6.out rfl HVM.out.symm ?_; intro wz hbz hkz hsz))
        refine bodyPost_ret (v := .tuple #[msV m a, .int .i64 0]) (results_cell2 rfl rfl rfl (run_loadM hbz)) rfl ?_
        refine ⟨kp_behind HK6.out hkz (by have := HG.out; omega), .inl ⟨m, a, HQ.out, ?_, (HAT6.out _ hkz).1.mono fun b hb (hb2 : w2.heap.size ≤ b) => ⟨by have := HG.out; omega, hb⟩, (HAT6.out _ hkz).2, rfl⟩⟩
        unfold encM
        rw [HBM.out]
        exact HBD.out.symm
    · obtain ⟨vY, hvY⟩ : ∃ v, msV ms0 msA0 = v := ⟨_, rfl⟩
      have HVY := Lib.hid hvY
      rw [hvY]
      have HK3 := Lib.hid (HK2.out.trans hk3)
      have HB3 := Lib.hid (HB2.out.kp hk3)
      have hgs3 : g < w3.heap.size := by have := hk3.size; omega
      have HNO := Lib.hid (show ∀ m', mayM m' = true → encM m' ≠ l from fun m' hm' e => by
        unfold encM at e
        rw [HBD.out] at e
        have e2 : bodyM m' = body := by
          have hlen := congrArg List.length e
          rw [List.length_append, List.length_append, sealL_len, sealL_len] at hlen
          exact (List.append_inj e (by omega)).1
        exact hno m' hm' e2)
      clear hk3 hno hvY HK2 HB2 HP hgs2
      go_upto_region 5 with (first
        | (refine list_allocM rfl rfl ?_; intro w4 hb4 hk4 hs4)
        | (refine list_storeM rfl (.tmp 6) (.tmp 18) rfl _ ms0 ms0 msA0 msA0 hb4 rfl HVY.out.symm ?_; intro w5 hb5 hk5 hs5))
      have hk35 : Kp w3 w5 := kp_behind hk4 hk5 (by omega)
      have HK5 := Lib.hid (HK3.out.trans hk35)
      have HB5 := Lib.hid (HB3.out.kp hk35)
      clear hb4 hk4 hs4 hb5 hk5 hs5 hk35 HB3
      go_wp2_with (first
        | (refine list_buildM rfl _ rfl vZ (by rw [← HVZ.out]; kernel_rfl) ?_)
        | (refine list_storeM rfl (.tmp 2) (.tmp 27) rfl g _ ms0 _ msA0 HB5.out rfl HVZ.out.symm ?_; intro wz hbz hkz hsz))
      refine bodyPost_ret (v := .tuple #[msV ms0 msA0, .int .i64 1]) (results_cell2 rfl rfl rfl (run_loadM hbz)) rfl ?_
      exact ⟨kp_behind HK5.out hkz (by have := HG.out; omega), .inr ⟨HNO.out, rfl⟩⟩
  · have HK2 := Lib.hid (HK1.out.trans hk2)
    have HB2 := Lib.hid (HB1.out.kp hk2)
    have HNO := Lib.hid (show ∀ m', mayM m' = true → encM m' ≠ l from fun m' _ e => hno (bodyM m') e.symm)
    clear hk2 hno HB1 HK1 HU
    go_wp2_with (first
      | (refine list_buildM rfl _ rfl vZ (by rw [← HVZ.out]; kernel_rfl) ?_)
      | (refine list_storeM rfl (.tmp 2) (.tmp 14) rfl g _ ms0 _ msA0 HB2.out rfl HVZ.out.symm ?_; intro wz hbz hkz hsz))
    refine bodyPost_ret (v := .tuple #[msV ms0 msA0, .int .i64 1]) (results_cell2 rfl rfl rfl (run_loadM hbz)) rfl ?_
    exact ⟨kp_behind HK2.out hkz (by have := HG.out; omega), .inr ⟨HNO.out, rfl⟩⟩

end Go.Proofs.YtpijhpfcigjkeaaDoor
