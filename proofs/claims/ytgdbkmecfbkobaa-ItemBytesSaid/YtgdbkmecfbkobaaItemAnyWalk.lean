/-
  'tells' AND THE WALK OF ItemAny, whatever way the program goes.
-/
import Derived.Test.YtgdbkmecfbkobaaItemBegun
import Derived.Test.YtgdbkmecfbkobaaItemItems
import Derived.Test.YtgdbkmecfbkobaaShort
namespace Go.Proofs.Ytgdbkmecfbkobaa
open Go Go.RowKit Go.Joins

set_option maxRecDepth 100000 in
set_option maxHeartbeats 4000000 in
theorem tells_any (S : ItemOK) (w : World) (hT : S.T w) (A : Option Addr) (cap : Nat) (b : List UInt8) (hr : Row w A (fun _ => True) (bcells b)) (h1 : b.length ≤ cap) (h2 : cap ≤ maxLen) (h3 : b.length ≤ 4000) (n : Nat) (hn : n = b.length) :
    Calls Try.prog 20 #[.slice A n cap] w fun e w' => e = .returned (.bool true) ∧ Keeps (fun _ => True) w w' := by
  have HT := Lib.hid hT
  have HR := Lib.hid hr
  have HD := Lib.hid (S.decode w A cap b hT hr h1 h2 (by omega))
  have HN := Lib.hid hn
  clear hT hr
  rw [← hn] at h1 h3
  have h2' := h2
  unfold maxLen at h2'
  clear hn h2
  go_enter Try.func20, Try.ntmps20
  go_wp2_with fail
  have hd := HD.out
  rw [← HN.out] at hd
  refine (show Calls _ _ _ _ _ from hd).mono ?_
  rintro e w2 ⟨hkp, hcase⟩
  clear hd HD
  have HK := Lib.hid hkp
  clear hkp
  rcases hcase with ⟨B, k, l, rfl, hne, hall, hb, g1, g2, hit⟩ | ⟨-, B, k, rfl⟩
  · have hl4 := bytesOf_four l
    rw [hb, ← HN.out] at hl4
    have hpos : 0 < l.length := List.length_pos_iff.2 hne
    have t1 : decide ((0 : Int) < (l.length : Int)) = true := by simp; omega
    have he : encs l = b := by rw [encs_may hall, hb]
    have ri := ritems w2.drew B k l ((hit.mono fun b' _ h => h.2).keep (Keeps.refl _ w2).drew) g1 g2 (by omega) (all_fits hall)
    rw [he] at ri
    have kc1 : (convert 30 9 (.slice A n cap)).run Try.prog w2.drew = .ok (.string (txt b)) w2.drew :=
      (HR.out.keep (HK.out.drew)).to_string Try.underlying30 Try.underlying5 Try.underlying9 _ _ HN.out
    have teq : ((txt b).toList == (txt b).toList) = true := beq_self_eq_true _
    unfold maxLen at g2
    clear hne hall hb hit he hl4
    go_wp2_with fail
    go_region_with (go_at_call 16; (with_reducible refine ri.mono ?_); rintro e w' ⟨B3, k3, rfl, q1, q2, hr3, hk3⟩; have kc2 := hr3.to_string (P := Try.prog) Try.underlying30 Try.underlying5 Try.underlying9 b.length k3 rfl; have kc3 := (HR.out.keep ((HK.out.drew).trans hk3)).to_string (P := Try.prog) Try.underlying30 Try.underlying5 Try.underlying9 n cap HN.out; unfold maxLen at q2)
    all_goals
      have HK3 := Lib.hid ((HK.out.drew).trans hk3)
      clear hk3 hr3 ri
      go_wp2_with fail
      go_ret
      exact ⟨by first | rfl | (rw [teq]; rfl), HK3.out⟩
  · go_wp2_with fail
    go_ret
    exact ⟨rfl, HK.out⟩

end Go.Proofs.Ytgdbkmecfbkobaa
namespace Go.Proofs.Ytgdbkmecfbkobaa.itemAny
open Go Go.RowKit Go.Joins

theorem walk (S : ItemOK) (w : World) (hT : S.T w) (BA : Option Addr) (Bc : Nat) (l : List UInt8) (f3 : l.length ≤ Bc) (f4 : Bc ≤ maxLen) (hf5 : BA = none → Bc = 0) (hB : Row w BA (fun b => b < w.heap.size) (bcells l)) :
    Calls Try.prog 5 #[.slice BA l.length Bc] w fun e w' => e = .returned (.bool true) ∧ Below w.heap.size w w' := by
  have HT := Lib.hid hT
  have HB := Lib.hid hB
  have HF := Lib.hid hf5
  have H4 := Lib.hid f4
  clear hT hB hf5 f4
  go_enter Try.func5, Try.ntmps5
  go_wp2_with fail
  refine (begun7 S w HT.out).mono ?_
  rintro e w1 ⟨rfl, hk1⟩
  have HK1 := Lib.hid hk1
  clear hk1
  go_wp2_with fail
  refine (short_at BA l.length Bc 100 100 (min l.length 100) rfl rfl w1 f3 H4.out HF.out (by decide)).mono ?_
  rintro e w' ⟨rfl, rfl⟩
  go_wp2_with fail
  have ht := tells_any S w1 (S.tk HT.out HK1.out) BA Bc (l.take 100) ((bcells_take HB.out 100).keep (HK1.out.mono fun _ _ _ => trivial) |>.mono fun _ _ _ => trivial) (by rw [List.length_take]; omega) H4.out (by rw [List.length_take]; omega) (min l.length 100) (by rw [List.length_take, Nat.min_comm])
  refine (show Calls _ _ _ _ _ from ht).mono ?_
  rintro e w2 ⟨rfl, hk2⟩
  have HK2 := Lib.hid (HK1.out.trans hk2)
  clear ht hk2
  go_wp2_with fail
  go_ret
  exact ⟨rfl, HK2.out.below⟩

end Go.Proofs.Ytgdbkmecfbkobaa.itemAny
