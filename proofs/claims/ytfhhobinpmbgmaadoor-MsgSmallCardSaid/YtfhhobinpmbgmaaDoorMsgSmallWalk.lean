/-
  MsgSmall (layer 19), walked.
-/
import Derived.Test.YtfhhobinpmbgmaaDoorMsLaw
namespace Go.Proofs.YtfhhobinpmbgmaaDoor.msgSmall
open Go Go.RowKit Go.Joins

def msS (k f t : Int) : Ms := ⟨k, f, t, 0, 0, 0, 0, 0, 0, ⟨#[]⟩, 0, false, it0, [], [], [], 0, []⟩
theorem msS_fits {k f t : Int} (hk : i64z k) (hf : i64z f) (ht : i64z t) : (msS k f t).Fits :=
  ⟨hk, hf, ht, ms0_fits.k4, ms0_fits.k5, ms0_fits.k6, ms0_fits.k7, ms0_fits.k8, ms0_fits.k9, ms0_fits.k10, ms0_fits.k11, ms0_fits.key, ms0_fits.item, ms0_fits.il, ms0_fits.its, ms0_fits.ml, ms0_fits.mks, ms0_fits.bl, ms0_fits.mem, ms0_fits.ol, ms0_fits.old⟩
theorem msS_at (w : World) (k f t : Int) : MsAt w (msS k f t) msA0 :=
  ⟨(MsAt.zero w).its, (MsAt.zero w).il, (MsAt.zero w).mks, (MsAt.zero w).ml, (MsAt.zero w).mem, (MsAt.zero w).bl, (MsAt.zero w).old, (MsAt.zero w).ol⟩

set_option maxRecDepth 100000 in
set_option maxHeartbeats 4000000 in
theorem walk (S : MsgOK) (w : World) (hT : S.T w) (k f t : Int) (hk : i64z k) (hf : i64z f) (ht : i64z t) :
    Calls Tryd.prog 8 #[.int .i64 k, .int .i64 f, .int .i64 t] w fun e w' => e = .returned (.bool true) ∧ Below w.heap.size w w' := by
  have HT := Lib.hid hT
  obtain ⟨vM, hvM⟩ : ∃ v, msV (msS k f t) msA0 = v := ⟨_, rfl⟩
  have HVM := Lib.hid hvM
  have HFT := Lib.hid (msS_fits hk hf ht)
  have HEN := Lib.hid (fun w2 (h : Kp w w2) => S.encode w2 (msS k f t) msA0 (S.tk hT h) (msS_at w2 k f t) HFT.out)
  have HMS := Lib.hid (fun w2 => rmsg w2 (msS k f t) msA0 (msS_at w2 k f t) HFT.out)
  have HFIN := Lib.hid (show ∀ w', Kp w w' → Below w.heap.size w w' from fun w' h => h.below)
  rw [hvM] at HEN HMS
  clear hT hvM hk hf ht
  go_enter Tryd.func8, Tryd.ntmps8
  go_wp2_with fail
  refine (show Calls _ _ _ _ _ from begun19 S _ HT.out).mono ?_
  rintro e w1 ⟨rfl, hk1⟩
  have HK1 := Lib.hid hk1
  clear hk1
  go_upto_region 4 with fail
  go_upto_region 5 with (first
    | (refine list_buildM rfl _ rfl vM (by rw [← HVM.out]; kernel_rfl) ?_)
    | (refine list_allocM rfl rfl ?_; intro w2 hb2 hk2 hs2)
    | (refine list_storeM rfl (.tmp 8) (.tmp 18) rfl _ _ (msS k f t) _ msA0 hb2 rfl HVM.out.symm ?_; intro w3 hb3 hk3 hs3))
  have HK3 := Lib.hid (HK1.out.trans (kp_made hk2 hk3))
  have HB := Lib.hid hb3
  obtain ⟨g, hg⟩ : ∃ g, w1.heap.size = g := ⟨_, rfl⟩
  rw [hg] at HB ⊢
  clear hb2 hk2 hs2 hb3 hk3 hs3 hg HK1
  go_wp2_with (refine list_loadM rfl (.tmp 8) rfl g _ _ HB.out rfl vM HVM.out ?_)
  refine (show Calls _ _ _ _ _ from HEN.out _ HK3.out).mono ?_
  rintro e w4 ⟨h1, h0, hk⟩
  have HK4 := Lib.hid (HK3.out.trans hk)
  replace HB := Lib.hid (HB.out.kp hk)
  clear hk HK3 HEN
  cases hmay : mayM (msS k f t) with
  | false =>
    obtain ⟨A, c, rfl⟩ := h0 hmay
    rw [hmay] at HMS
    clear h0 h1 hmay
    go_wp2_with (refine list_loadM rfl (.tmp 8) rfl g _ _ HB.out rfl vM HVM.out ?_)
    refine (show Calls _ _ _ _ _ from HMS.out _).mono ?_
    rintro e w5 ⟨rfl, hk⟩
    have HK5 := Lib.hid (HK4.out.trans hk)
    clear hk
    go_wp2_with fail
    go_ret
    exact ⟨rfl, HFIN.out _ HK5.out⟩
  | true =>
    obtain ⟨A, c, rfl, h2, h3, h4⟩ := h1 hmay
    rw [hmay] at HMS
    have HL := Lib.hid (S.encLen _ hmay)
    have HDC := Lib.hid (S.decEnc _ hmay)
    have HR4 := Lib.hid h4
    have HDD := Lib.hid (fun w2 (h : Kp w4 w2) => S.decode w2 A c (S.enc (msS k f t)) (S.tk HT.out (HK4.out.trans h)) ((h4.mono fun _ _ _ => trivial).keep h) h2 h3 (by have := HL.out.2; omega))
    generalize S.enc (msS k f t) = L at HL HDC HDD h2 ⊢
    clear h0 h1 h3 h4 hmay HR4 h2
    go_wp2_with (refine list_loadM rfl (.tmp 8) rfl g _ _ HB.out rfl vM HVM.out ?_)
    refine (show Calls _ _ _ _ _ from HMS.out _).mono ?_
    rintro e w5 ⟨rfl, hk⟩
    have HK5 := Lib.hid (HK4.out.trans hk)
    have HDE := Lib.hid (HDD.out _ hk)
    clear hk HDD HK4
    go_wp2_with fail
    refine (show Calls _ _ _ _ _ from HDE.out).mono ?_
    rintro e w6 ⟨h1, -, hk⟩
    obtain ⟨b5, rfl, -⟩ := h1 _ HDC.out
    have HK6 := Lib.hid (HK5.out.trans hk)
    obtain ⟨v5, hv5⟩ : ∃ v, msV (msS k f t) b5 = v := ⟨_, rfl⟩
    have HV5 := Lib.hid hv5
    rw [hv5]
    clear h1 hk hv5 HK5 HDE
    go_upto_region 9 with (first
      | (refine list_allocM rfl rfl ?_; intro w7 hb7 hk7 hs7)
      | (refine list_storeM rfl (.tmp 10) (.tmp 30) rfl _ _ (msS k f t) _ b5 hb7 rfl HV5.out.symm ?_; intro w8 hb8 hk8 hs8))
    have HK8 := Lib.hid (HK6.out.trans (kp_made hk7 hk8))
    obtain ⟨g2, hg2⟩ : ∃ g, w6.heap.size = g := ⟨_, rfl⟩
    rw [hg2] at hb8 ⊢
    have c0 := hb8.cell 0 (.int .i64 k) rfl
    have c1 := hb8.cell 1 (.int .i64 f) rfl
    have c2 := hb8.cell 2 (.int .i64 t) rfl
    have hL0 := HL.out.1
    have hL1 : (0 : Int) < (L.length : Int) := by omega
    clear hb7 hk7 hs7 hb8 hk8 hs8 hg2 HK6
    go_wp2_with fail
    go_ret
    exact ⟨rfl, HFIN.out _ HK8.out⟩
end Go.Proofs.YtfhhobinpmbgmaaDoor.msgSmall
