/-
  'begun' OF LAYER 19 ANSWERS true, however messages are written.
-/
import Derived.Test.YtfhhobinpmbgmaaDoorMsLocs
import Derived.Outline
namespace Go.Proofs.YtfhhobinpmbgmaaDoor
open Go Go.RowKit Go.Joins

def msB : Ms := ⟨13, 1, 2, 0, 0, 0, 0, 5, 1, ⟨#[107]⟩, 0, false, it0, [], [], [], 0, []⟩
theorem msB_fits : msB.Fits := ⟨⟨by decide, by decide⟩, ⟨by decide, by decide⟩, ⟨by decide, by decide⟩, ⟨by decide, by decide⟩, ⟨by decide, by decide⟩, ⟨by decide, by decide⟩, ⟨by decide, by decide⟩, ⟨by decide, by decide⟩, ⟨by decide, by decide⟩, ⟨by decide, by decide⟩, ⟨by decide, by decide⟩, by decide, ⟨by decide, by decide, by decide, by decide⟩, by decide, by simp [msB], by decide, by simp [msB], by decide, by simp [msB], by decide, by simp [msB]⟩
theorem ms0_fits : ms0.Fits := ⟨⟨by decide, by decide⟩, ⟨by decide, by decide⟩, ⟨by decide, by decide⟩, ⟨by decide, by decide⟩, ⟨by decide, by decide⟩, ⟨by decide, by decide⟩, ⟨by decide, by decide⟩, ⟨by decide, by decide⟩, ⟨by decide, by decide⟩, ⟨by decide, by decide⟩, ⟨by decide, by decide⟩, by decide, ⟨by decide, by decide, by decide, by decide⟩, by decide, by simp [ms0], by decide, by simp [ms0], by decide, by simp [ms0], by decide, by simp [ms0]⟩
theorem msB_may : mayM msB = true := by decide
theorem ms0_may : mayM ms0 = false := by decide
theorem msB_at (w : World) : MsAt w msB msA0 :=
  ⟨ItsAt.nil _ _ _, ⟨Nat.le_refl _, Nat.zero_le _⟩, MksAt.nil _ _ _, ⟨Nat.le_refl _, Nat.zero_le _⟩, Row.nil _ _ _, ⟨Nat.le_refl _, Nat.zero_le _, fun _ => rfl⟩, Row.nil _ _ _, ⟨Nat.le_refl _, Nat.zero_le _, fun _ => rfl⟩⟩
theorem dec_nil (S : MsgOK) : S.dec [] = none := by
  cases h : S.dec [] with
  | none => rfl
  | some m =>
    obtain ⟨h1, h2⟩ := S.decMay _ _ h
    have := (S.encLen m h1).1
    rw [h2] at this
    simp at this

set_option maxRecDepth 100000 in
set_option maxHeartbeats 4000000 in
theorem begun19 (S : MsgOK) (w : World) (hT : S.T w) : Calls Tryd.prog 9 #[] w fun e w' => e = .returned (.bool true) ∧ Kp w w' := by
  have HT := Lib.hid hT
  clear hT
  obtain ⟨vB, hvB⟩ : ∃ v, msV msB msA0 = v := ⟨_, rfl⟩
  obtain ⟨vZ, hvZ⟩ : ∃ v, msV ms0 msA0 = v := ⟨_, rfl⟩
  have HVB := Lib.hid hvB
  have HVZ := Lib.hid hvZ
  have HE := Lib.hid (fun w2 (hk : Kp w w2) => S.encode w2 msB msA0 (S.tk HT.out hk) (msB_at w2) msB_fits)
  have HM := Lib.hid (fun w2 (hk : Kp w w2) => S.may w2 msB msA0 (S.tk HT.out hk) (msB_at w2) msB_fits)
  have HM0 := Lib.hid (fun w2 (hk : Kp w w2) => S.may w2 ms0 msA0 (S.tk HT.out hk) (MsAt.zero w2) ms0_fits)
  have HQ := Lib.hid (fun w2 (hk : Kp w w2) b hb => S.eq w2 msB msB msA0 b (S.tk HT.out hk) (msB_at w2) hb msB_fits msB_fits)
  have HQ0 := Lib.hid (fun w2 (hk : Kp w w2) => S.eq w2 msB ms0 msA0 msA0 (S.tk HT.out hk) (msB_at w2) (MsAt.zero w2) msB_fits ms0_fits)
  rw [show decide (msB = msB) = true from decide_eq_true rfl] at HQ
  rw [show decide (msB = ms0) = false from by decide] at HQ0
  have HL := Lib.hid (S.encLen msB msB_may)
  have HDC := Lib.hid (S.decEnc msB msB_may)
  have HD := Lib.hid (fun w2 A c (hk : Kp w w2) hr h1 h2 => S.decode w2 A c (S.enc msB) (S.tk HT.out hk) hr h1 h2 (by have := HL.out.2; omega))
  have HD0 := Lib.hid (fun w2 (hk : Kp w w2) => S.decode w2 none 0 [] (S.tk HT.out hk) (Row.nil _ _ _) (Nat.le_refl _) (Nat.zero_le _) (Nat.zero_le _))
  rw [msB_may, hvB] at HE
  rw [msB_may, hvB] at HM
  rw [ms0_may, hvZ] at HM0
  rw [hvB] at HQ
  rw [hvB, hvZ] at HQ0
  generalize S.enc msB = L at HE HL HDC HD
  clear hvB hvZ
  go_enter Tryd.func9, Tryd.ntmps9
  go_upto_region 2 with (first
    | (refine list_buildM rfl _ rfl vB (by rw [← HVB.out]; kernel_rfl) ?_)
    | (refine list_allocM rfl rfl ?_; intro w2 hb2 hk2 hs2)
    | (refine list_storeM rfl (.tmp 1) (.tmp 7) rfl _ _ msB _ msA0 hb2 rfl HVB.out.symm ?_; intro w3 hb3 hk3 hs3))
  have HK3 := Lib.hid (kp_made hk2 hk3)
  have HB := Lib.hid hb3
  obtain ⟨g, hg⟩ : ∃ g, w.heap.size = g := ⟨_, rfl⟩
  rw [hg] at HB ⊢
  clear hb2 hk2 hs2 hb3 hk3 hs3 hg
  go_wp2_with (refine list_loadM rfl (.tmp 1) rfl g msB msA0 HB.out rfl vB HVB.out ?_)
  refine (show Calls _ _ _ _ _ from HE.out _ HK3.out).mono ?_
  rintro e w4 ⟨h1, -, hk⟩
  obtain ⟨A, c, rfl, h2, h3, h4⟩ := h1 (by first | rfl | trivial)
  have HK4 := Lib.hid (HK3.out.trans hk)
  replace HB := Lib.hid (HB.out.kp hk)
  have HDD := Lib.hid (HD.out w4 A c HK4.out (h4.mono fun _ _ _ => trivial) h2 h3)
  clear h1 h2 h3 h4 hk HK3 HE HD
  go_wp2_with fail
  refine (show Calls _ _ _ _ _ from HDD.out).mono ?_
  rintro e w5 ⟨h1, -, hk⟩
  obtain ⟨b5, rfl, h2⟩ := h1 _ HDC.out
  have HK5 := Lib.hid (HK4.out.trans hk)
  replace HB := Lib.hid (HB.out.kp hk)
  have HAT := Lib.hid h2
  obtain ⟨v5, hv5⟩ : ∃ v, msV msB b5 = v := ⟨_, rfl⟩
  have HV5 := Lib.hid hv5
  rw [hv5]
  clear h1 h2 hk hv5 HK4 HDD
  go_upto_region 4 with (first
    | (refine list_allocM rfl rfl ?_; intro w6 hb6 hk6 hs6)
    | (refine list_storeM rfl (.tmp 3) (.tmp 13) rfl _ _ msB _ b5 hb6 rfl HV5.out.symm ?_; intro w7 hb7 hk7 hs7))
  have hkm := kp_made hk6 hk7
  have HK7 := Lib.hid (HK5.out.trans hkm)
  replace HB := Lib.hid (HB.out.kp hkm)
  replace HAT := Lib.hid (HAT.out.keep hkm)
  obtain ⟨g2, hg2⟩ : ∃ g, w5.heap.size = g := ⟨_, rfl⟩
  have HB2 := Lib.hid hb7
  rw [hg2] at HB2 ⊢
  have HN := Lib.hid (HD0.out w7 HK7.out)
  clear hb6 hk6 hs6 hb7 hk7 hs7 hkm hg2 HK5
  go_wp2_with fail
  refine (show Calls _ _ _ _ _ from HN.out).mono ?_
  rintro e w8 ⟨-, h1, hk⟩
  obtain ⟨m8, a8, rfl, h2, h3⟩ := h1 (dec_nil S)
  have HK8 := Lib.hid (HK7.out.trans hk)
  replace HB := Lib.hid (HB.out.kp hk)
  replace HB2 := Lib.hid (HB2.out.kp hk)
  replace HAT := Lib.hid (HAT.out.keep hk)
  obtain ⟨v8, hv8⟩ : ∃ v, msV m8 a8 = v := ⟨_, rfl⟩
  have HV8 := Lib.hid hv8
  rw [hv8]
  clear h1 h2 h3 hk hv8 HK7 HN HD0
  go_upto_region 5 with (first
    | (refine list_allocM rfl rfl ?_; intro w9 hb9 hk9 hs9)
    | (refine list_storeM rfl (.tmp 5) (.tmp 17) rfl _ _ m8 _ a8 hb9 rfl HV8.out.symm ?_; intro w10 hb10 hk10 hs10))
  have hkm := kp_made hk9 hk10
  have HK := Lib.hid (HK8.out.trans hkm)
  replace HB := Lib.hid (HB.out.kp hkm)
  replace HB2 := Lib.hid (HB2.out.kp hkm)
  replace HAT := Lib.hid (HAT.out.keep hkm)
  obtain ⟨g3, hg3⟩ : ∃ g, w8.heap.size = g := ⟨_, rfl⟩
  rw [hg3]
  clear hb9 hk9 hs9 hb10 hk10 hs10 hkm hg3 HK8
  have hL0 := HL.out.1
  have hL1 : (0 : Int) < (L.length : Int) := by omega
  go_wp2_with (refine list_loadM rfl (.tmp 1) rfl g msB msA0 HB.out rfl vB HVB.out ?_)
  refine (show Calls _ _ _ _ _ from HM.out _ HK.out).mono ?_
  rintro e wa ⟨rfl, hk⟩
  replace HK := Lib.hid (HK.out.trans hk)
  replace HB := Lib.hid (HB.out.kp hk)
  replace HB2 := Lib.hid (HB2.out.kp hk)
  replace HAT := Lib.hid (HAT.out.keep hk)
  clear hk HM
  go_wp2_with (refine list_buildM rfl _ rfl vZ (by rw [← HVZ.out]; kernel_rfl) ?_)
  refine (show Calls _ _ _ _ _ from HM0.out _ HK.out).mono ?_
  rintro e wb ⟨rfl, hk⟩
  replace HK := Lib.hid (HK.out.trans hk)
  replace HB := Lib.hid (HB.out.kp hk)
  replace HB2 := Lib.hid (HB2.out.kp hk)
  replace HAT := Lib.hid (HAT.out.keep hk)
  have HQ2 := Lib.hid (HQ.out wb HK.out b5 HAT.out)
  rw [HV5.out] at HQ2
  clear hk HM0 HQ
  go_wp2_with (first
    | (refine list_loadM rfl (.tmp 1) rfl g msB msA0 HB.out rfl vB HVB.out ?_)
    | (refine list_loadM rfl (.tmp 3) rfl g2 msB b5 HB2.out rfl v5 HV5.out ?_))
  refine (show Calls _ _ _ _ _ from HQ2.out).mono ?_
  rintro e wc ⟨rfl, hk⟩
  replace HK := Lib.hid (HK.out.trans hk)
  replace HB := Lib.hid (HB.out.kp hk)
  clear hk HQ2
  go_wp2_with (first
    | (refine list_loadM rfl (.tmp 1) rfl g msB msA0 HB.out rfl vB HVB.out ?_)
    | (refine list_buildM rfl _ rfl vZ (by rw [← HVZ.out]; kernel_rfl) ?_))
  refine (show Calls _ _ _ _ _ from HQ0.out _ HK.out).mono ?_
  rintro e wd ⟨rfl, hk⟩
  replace HK := Lib.hid (HK.out.trans hk)
  clear hk HQ0
  go_wp2_with fail
  go_ret
  exact ⟨rfl, HK.out⟩

end Go.Proofs.YtfhhobinpmbgmaaDoor
