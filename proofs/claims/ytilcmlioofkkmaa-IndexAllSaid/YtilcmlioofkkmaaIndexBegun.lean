/-
  'begun' OF LAYER 8 ANSWERS true, whatever the program's index is made of.
-/
import Derived.Test.YtilcmlioofkkmaaIndexIf
import Derived.Outline
namespace Go.Proofs.Ytilcmlioofkkmaa
open Go Go.RowKit

def kA : ByteArray := { data := #[97] }
def kB : ByteArray := { data := #[98] }
theorem kA_size : kA.size ≤ 4096 := by decide
theorem kB_size : kB.size ≤ 4096 := by decide

set_option maxRecDepth 100000 in
set_option maxHeartbeats 1000000 in
theorem begun8 (S : IndexOK) (w : World) (hT : S.T w) : Calls Try.prog 8 #[] w fun e w' => e = .returned (.bool true) ∧ Keeps (fun _ => True) w w' := by
  have HT := Lib.hid hT
  clear hT
  go_enter Try.func8, Try.ntmps8
  go_wp2_with fail
  refine (ix_new S HT.out (Keeps.refl _ w)).mono ?_
  rintro e w1 ⟨q, F, rfl, h⟩
  have H1 := Lib.hid h
  clear h
  go_wp2_with fail
  refine (show Calls _ _ _ _ _ from ix_put HT.out H1.out (by decide) kA 5 kA_size ⟨by decide, by decide⟩ 0 rfl [(kA, 5)] rfl).mono ?_
  rintro e w2 ⟨rfl, F2, h⟩
  have H2 := Lib.hid h
  clear h H1
  go_wp2_with fail
  refine (show Calls _ _ _ _ _ from ix_put HT.out H2.out (by decide) kB 3 kB_size ⟨by decide, by decide⟩ 0 rfl [(kA, 5), (kB, 3)] rfl).mono ?_
  rintro e w3 ⟨rfl, F3, h⟩
  have H3 := Lib.hid h
  clear h H2
  go_wp2_with fail
  refine (show Calls _ _ _ _ _ from ix_put HT.out H3.out (by decide) kA 7 kA_size ⟨by decide, by decide⟩ 5 rfl [(kA, 7), (kB, 3)] rfl).mono ?_
  rintro e w4 ⟨rfl, F4, h⟩
  have H4 := Lib.hid h
  clear h H3
  go_wp2_with fail
  refine (show Calls _ _ _ _ _ from ix_get HT.out H4.out (by decide) kA kA_size 7 true rfl rfl).mono ?_
  rintro e w5 ⟨rfl, h⟩
  have H5 := Lib.hid h
  clear h H4
  go_wp2_with fail
  refine (show Calls _ _ _ _ _ from ix_len HT.out H5.out (by decide) 2 rfl).mono ?_
  rintro e w6 ⟨rfl, h⟩
  have H6 := Lib.hid h
  clear h H5
  go_wp2_with fail
  refine (show Calls _ _ _ _ _ from ix_below HT.out H6.out (by decide) 4 ⟨by decide, by decide⟩ 1 rfl [(kA, 7)] rfl).mono ?_
  rintro e w7 ⟨rfl, F7, h⟩
  have H7 := Lib.hid h
  clear h H6
  go_wp2_with fail
  refine (show Calls _ _ _ _ _ from ix_drop HT.out H7.out (by decide) kA kA_size true rfl [] rfl).mono ?_
  rintro e w8 ⟨rfl, F8, h⟩
  have H8 := Lib.hid h
  clear h H7
  go_wp2_with fail
  refine (show Calls _ _ _ _ _ from ix_drop HT.out H8.out (by decide) kA kA_size false rfl [] rfl).mono ?_
  rintro e w9 ⟨rfl, F9, h⟩
  have H9 := Lib.hid h
  clear h H8
  go_wp2_with fail
  refine (show Calls _ _ _ _ _ from ix_len HT.out H9.out (by decide) 0 rfl).mono ?_
  rintro e w10 ⟨rfl, h⟩
  have H10 := Lib.hid h
  clear h H9
  go_wp2_with fail
  go_ret
  exact ⟨rfl, H10.out.kp⟩

end Go.Proofs.Ytilcmlioofkkmaa
