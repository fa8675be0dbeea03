/-
  MsgMay (layer 19), walked.
-/
import Derived.Test.YtfhhobinpmbgmaaDoorMsLaw
namespace Go.Proofs.YtfhhobinpmbgmaaDoor.msgMay
open Go Go.RowKit Go.Joins

set_option maxRecDepth 100000 in
set_option maxHeartbeats 4000000 in
theorem walk (S : MsgOK) (w : World) (hT : S.T w) (m : Ms) (a : MsA) (hm : MsAt w m a) (hc : m.Came) :
    Calls Tryd.prog 3 #[msV m a] w fun e w' => e = .returned (.bool true) ∧ Below w.heap.size w w' := by
  have HT := Lib.hid hT
  have HM := Lib.hid hm
  have HF := Lib.hid (cutM_fits hc)
  have HC := Lib.hid (fun w2 h => ms_cut w2 m a h hc)
  obtain ⟨vM, hvM⟩ : ∃ v, msV m a = v := ⟨_, rfl⟩
  have HVM := Lib.hid hvM
  rw [hvM] at HC ⊢
  clear hT hm hc hvM
  go_enter Tryd.func3, Tryd.ntmps3
  go_upto_region 1 with (refine list_boxM rfl (.tmp 0) rfl m a HVM.out.symm ?_; intro w1 hb1 hk1 hs1)
  obtain ⟨g, hg⟩ : ∃ g, w.heap.size = g := ⟨_, rfl⟩
  have HG := Lib.hid hg
  have HB1 := Lib.hid hb1
  have HK := Lib.hid hk1
  have HFIN := Lib.hid (show ∀ w', Kp w w' → Below w.heap.size w w' from fun w' h => h.below)
  rw [hg] at HB1 ⊢
  clear hb1 hk1 hs1 hg
  go_wp2_with fail
  refine (show Calls _ _ _ _ _ from begun19 S _ (S.tk HT.out HK.out)).mono ?_
  rintro e w2 ⟨rfl, hk2⟩
  replace HB1 := Lib.hid (HB1.out.kp hk2)
  replace HK := Lib.hid (HK.out.trans hk2)
  clear hk2
  go_upto_region 4 with fail
  go_upto_region 5 with (first
    | (refine list_loadM rfl (.tmp 1) rfl g m a HB1.out rfl vM HVM.out ?_)
    | (go_at_call 10; ((with_reducible refine (HC.out _ (HM.out.keep HK.out)).mono ?_); rintro e w3 ⟨a2, rfl, hat, eba, eoa, hit, hmk, hk3⟩))
    | (refine list_storeM rfl (.tmp 1) (.tmp 8) rfl g m (cutM m) a a2 (HB1.out.kp hk3) rfl rfl ?_; intro w4 hb4 hk4 hs4))
  have HK4 := Lib.hid (kp_behind (HK.out.trans hk3) hk4 (Nat.le_of_eq HG.out))
  have HB4 := Lib.hid hb4
  have HAT := Lib.hid ((HM.out.keep HK4.out).over hat eba eoa hit hmk hk4 HB1.out.lt)
  obtain ⟨vC, hvC⟩ : ∃ v, msV (cutM m) a2 = v := ⟨_, rfl⟩
  have HVC := Lib.hid hvC
  rw [hvC]
  obtain ⟨r, hr⟩ : ∃ b, mayM (cutM m) = b := ⟨_, rfl⟩
  have HP := Lib.hid (fun w5 (h : Kp w4 w5) => S.may w5 (cutM m) a2 (S.tk HT.out (HK4.out.trans h)) (HAT.out.keep h) HF.out)
  have HQ := Lib.hid (fun w5 (h : Kp w4 w5) => rmsg w5 (cutM m) a2 (HAT.out.keep h) HF.out)
  rw [hr, hvC] at HP HQ
  clear hb4 hk4 hs4 hat eba eoa hit hmk hk3 hvC hr HC HB1 HK
  refine wp_region_valsD [vC, .bool r, vC, .bool r, .bool true, .bool true] [] ⟨#[vM, .pointer (some ⟨g, 0, none⟩), .bool true, .bool true, .bool true, .bool true, .bool false, vM, vC, vC, .bool r, vC, .bool r, .bool true], []⟩ rfl (by kernel_rfl) (by kernel_rfl) (by kernel_rfl) (fun p hp => by cases hp) (fun i o ho hw => (all_wanted (by kernel_rfl) ho hw).elim) (each_of ?_) ?_ (by kernel_rfl)
  · refine ⟨?_, ?_, ?_, ?_, ?_, ?_, trivial⟩ <;> intro hw a1 wx L
    · exact kp_loadM HVC.out (HB4.out.kp L.rel) rfl (L.old 1 (by kernel_rfl))
    · exact kp_c19 (cf_mmay _ _) (HP.out _ L.rel) rfl (L.val 0 9 (by kernel_rfl) (by kernel_rfl))
    · exact kp_loadM HVC.out (HB4.out.kp L.rel) rfl (L.old 1 (by kernel_rfl))
    · exact kp_c19 (cf_rmsg _ _) (HQ.out _ L.rel) rfl (L.val 2 11 (by kernel_rfl) (by kernel_rfl))
    · exact kp_eq19B (beq_self_eq_true _) rfl (L.val 1 10 (by kernel_rfl) (by kernel_rfl)) (L.val 3 12 (by kernel_rfl) (by kernel_rfl))
    · exact kp_assign rfl (L.val 4 13 (by kernel_rfl) (by kernel_rfl))
  intro w5 hk5
  have HK5 := Lib.hid (HK4.out.trans hk5)
  clear hk5
  simp only [Exit.then]
  go_wp2_with fail
  go_ret
  exact ⟨rfl, HFIN.out _ HK5.out⟩
end Go.Proofs.YtfhhobinpmbgmaaDoor.msgMay
