/-
  'begun' OF LAYER 18 ANSWERS true, however rights are kept.
-/
import Derived.Test.YtoegdfiehjabjaaTkIf
import Derived.Outline
namespace Go.Proofs.Ytoegdfiehjabjaa
open Go Go.RowKit Go.Joins

theorem kk_size : kk.size ≤ 1000000 := by decide
def xx : ByteArray := ⟨#[120]⟩
theorem tk_u1 : tkUse [tkNew kk, tkNew kk] 1 = (kk, true) := by decide
theorem tk_s1 : tkUsed [tkNew kk, tkNew kk] 1 = [⟨kk, true, true⟩, tkNew kk] := by rfl
theorem tk_c : tkCount (inKeys [kk, xx]) [⟨kk, true, true⟩, tkNew kk] = 1 := by decide
theorem tk_k : tkKill (inKeys [kk, xx]) [⟨kk, true, true⟩, tkNew kk] = [⟨kk, true, true⟩, ⟨kk, false, false⟩] := by rfl
theorem tk_u2 : tkUse [⟨kk, true, true⟩, ⟨kk, false, false⟩] 2 = (kk, false) := by decide
theorem tk_s2 : tkUsed [⟨kk, true, true⟩, ⟨kk, false, false⟩] 2 = [⟨kk, true, true⟩, ⟨kk, false, true⟩] := by rfl
theorem tk_u3 : tkUse [⟨kk, true, true⟩, ⟨kk, false, true⟩] 1 = (⟨#[]⟩, false) := by decide
theorem tk_s3 : tkUsed [⟨kk, true, true⟩, ⟨kk, false, true⟩] 1 = [⟨kk, true, true⟩, ⟨kk, false, true⟩] := by rfl
theorem tk_l : tkLen [⟨kk, true, true⟩, ⟨kk, false, true⟩] = 0 := by decide

set_option maxRecDepth 100000 in
set_option maxHeartbeats 4000000 in
theorem begun18 (S : TokensOK) (w : World) (hT : S.T w) : Calls Try.prog 7 #[] w fun e w' => e = .returned (.bool true) ∧ Kp w w' := by
  have HT := Lib.hid hT
  clear hT
  go_enter Try.func7, Try.ntmps7
  go_wp2_with fail
  refine (show Calls _ _ _ _ _ from S.new w w HT.out (Keeps.refl _ w)).mono ?_
  rintro e w1 ⟨t, F, rfl, h, -, -⟩
  have HG := Lib.hid (S.give w w1 t F [] kk HT.out h (by decide) kk_size)
  clear h
  go_wp2_with fail
  refine (show Calls _ _ _ _ _ from HG.out).mono ?_
  rintro e w2 ⟨rfl, F2, h, -, -⟩
  have HG2 := Lib.hid (S.give w w2 t F2 _ kk HT.out h (by decide) kk_size)
  clear h HG
  go_wp2_with fail
  refine (show Calls _ _ _ _ _ from HG2.out).mono ?_
  rintro e w3 ⟨rfl, F3, h, -, -⟩
  have HU := Lib.hid (S.use w w3 t F3 _ 1 HT.out (show S.At w w3 t F3 [tkNew kk, tkNew kk] from h) (by decide) (by decide) (by decide))
  rw [tk_u1, tk_s1] at HU
  clear h HG2
  go_wp2_with fail
  refine (show Calls _ _ _ _ _ from HU.out).mono ?_
  rintro e w4 ⟨rfl, F4, h, -, -⟩
  have hA := S.atK h ((Keeps.refl (fun _ => True) w4).alloc (.cells #[.string kk, .string xx] 9))
  have hr : Row (w4.alloc (.cells #[.string kk, .string xx] 9)) (some ⟨w4.heap.size, 0, none⟩) (fun b => b = w4.heap.size) ([kk, xx].map Value.string) := Row.fresh (F := fun b => b = w4.heap.size) w4 #[.string kk, .string xx] 9 (0, 0) _ rfl rfl _ rfl
  have hlt := (S.atIn h).2
  have HX := Lib.hid (S.kill w _ t F4 _ (some ⟨w4.heap.size, 0, none⟩) 2 2 _ [kk, xx] HT.out hA (by decide) rfl hr (fun b hb hf => by have := (hlt b hf).2; omega) (by decide) (by decide) (by decide) (by decide))
  rw [tk_c, tk_k] at HX
  clear h hA hr hlt HU
  unfold kk xx at HX
  go_wp2_with fail
  refine (show Calls _ _ _ _ _ from HX.out).mono ?_
  rintro e w5 ⟨rfl, F5, h, -, -⟩
  have HU := Lib.hid (S.use w w5 t F5 _ 2 HT.out (show S.At w w5 t F5 [⟨kk, true, true⟩, ⟨kk, false, false⟩] from h) (by decide) (by decide) (by decide))
  rw [tk_u2, tk_s2] at HU
  clear h HX
  go_wp2_with fail
  refine (show Calls _ _ _ _ _ from HU.out).mono ?_
  rintro e w6 ⟨rfl, F6, h, -, -⟩
  have HU2 := Lib.hid (S.use w w6 t F6 _ 1 HT.out h (by decide) (by decide) (by decide))
  rw [tk_u3, tk_s3] at HU2
  clear h HU
  go_wp2_with fail
  refine (show Calls _ _ _ _ _ from HU2.out).mono ?_
  rintro e w7 ⟨rfl, F7, h, -, -⟩
  have HL := Lib.hid (S.len w w7 t F7 _ HT.out h (by decide))
  have HK := Lib.hid (S.atIn h).1
  rw [tk_l] at HL
  clear h HU2
  unfold kk
  go_wp2_with fail
  refine (show Calls _ _ _ _ _ from HL.out).mono ?_
  rintro e w8 ⟨rfl, hk⟩
  have HK8 := Lib.hid (HK.out.trans hk)
  clear hk HK HL
  go_wp2_with fail
  go_ret
  exact ⟨rfl, HK8.out⟩

end Go.Proofs.Ytoegdfiehjabjaa
