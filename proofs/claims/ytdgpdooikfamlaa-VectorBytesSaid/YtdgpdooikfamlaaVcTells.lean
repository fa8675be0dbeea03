/-
  'tells' OF LAYER 11: are bytes a vector's, just its, or nobody's?
-/
import Derived.Test.YtdgpdooikfamlaaVcLocs
import Derived.Test.YtdgpdooikfamlaaBytes
import Derived.BigQuiet
namespace Go.Proofs.Ytdgpdooikfamlaa
open Go Go.RowKit Go.Joins

theorem encV_len {f : Nat → Int} (hf : VOk f) : (encV f).length ≤ 50 := by
  have h : ∀ i, (putZ (f i)).length ≤ 10 := fun i => putZ_len _ (by have := hf.low i; omega) (hf.high i)
  have := h 1
  have := h 2
  have := h 3
  have := h 4
  have := h 5
  unfold encV
  simp only [List.length_append]
  omega
theorem encV_pos (f : Nat → Int) : 0 < (encV f).length := by
  unfold encV
  rw [List.length_append]
  have : 0 < (putZ (f 1)).length := vin_pos _
  omega
set_option maxRecDepth 100000 in
set_option maxHeartbeats 4000000 in
theorem vtells_any (S : VectorOK) (w : World) (hT : S.T w) (A : Option Addr) (cap : Nat) (b : List UInt8) (hr : Row w A (fun _ => True) (bcells b)) (h1 : b.length ≤ cap) (h2 : cap ≤ maxLen) (h3 : b.length ≤ 4000) (n : Nat) (hn : n = b.length) :
    Calls Try.prog 19 #[.slice A n cap] w fun e w' => e = .returned (.bool true) ∧ Kp w w' := by
  have HT := Lib.hid hT
  have HR := Lib.hid hr
  by_cases hex : ∃ f, VOk f ∧ smallB f = true ∧ encV f = b
  · obtain ⟨f, hf, hsm, rfl⟩ := hex
    have HD := Lib.hid (show Calls Try.prog 18 #[.slice A n cap] w fun e w' => e = .returned (.tuple #[vagg f, .int .i64 0]) ∧ Kp w w' from by
      rw [hn]; exact S.decode w f A cap hT hf hsm hr h1 h2)
    have HE := Lib.hid (show ∀ w', Kp w w' → Calls Try.prog 17 #[vagg f] w' fun e w2 => ∃ B k, e = .returned (.slice B n k) ∧ k ≤ maxLen ∧ Row w2 B (fun _ => True) (bcells (encV f)) ∧ Kp w' w2 from fun w' hk => by
      refine (S.encode w' f (S.tk HT.out hk) hf hsm).mono ?_
      rintro e w2 ⟨B, k, rfl, -, g2, hr2, hk2⟩
      exact ⟨B, k, by rw [hn], g2, hr2.mono fun _ _ _ => trivial, hk2⟩)
    have HN := Lib.hid hn
    have teq : ((txt (encV f)).toList == (txt (encV f)).toList) = true := beq_self_eq_true _
    generalize encV f = eb at HE HN HR teq
    unfold vagg vcells at HD HE
    clear hT hr h1 h2 h3 hn hf hsm
    go_enter Try.func19, Try.ntmps19
    go_wp2_with fail
    refine (show Calls _ _ _ _ _ from HD.out).mono ?_
    rintro e w2 ⟨rfl, hk2⟩
    have HK2 := Lib.hid hk2
    clear hk2 HD
    obtain ⟨pv, hpv⟩ : ∃ pv, w2.heap.size = pv := ⟨_, rfl⟩
    have HNW := Lib.hid (show ∀ wa, wa = w2.alloc (.cells (vcells f) 26) → VBlk wa pv 26 f ∧ Kp w wa from by
      rintro wa rfl
      exact ⟨VBlk.new w2 _ f pv hpv.symm, HK2.out.alloc _⟩)
    unfold vcells at HNW
    go_wp2_with fail
    obtain ⟨g1, g2⟩ := HNW.out _ rfl
    try rw [hpv]
    generalize w2.alloc (.cells #[.int .i64 (f 0), .int .i64 (f 1), .int .i64 (f 2), .int .i64 (f 3), .int .i64 (f 4), .int .i64 (f 5)] 26) = wa at g1 g2 ⊢
    obtain ⟨a0, a1, a2, a3, a4, a5⟩ := g1.six (w' := wa.drew) ((Keeps.refl _ _).drew)
    have HKA := Lib.hid g2
    have ri := HE.out wa.drew (g2.drew)
    have kc1 : (convert 33 9 (.slice A n cap)).run Try.prog wa.drew = .ok (.string (txt eb)) wa.drew :=
      (HR.out.keep (HKA.out.drew)).to_string Try.underlying33 Try.underlying5 Try.underlying9 _ _ HN.out
    clear g1 g2 hpv HNW HK2 HE
    go_region_with (go_at_call 17; (with_reducible refine ri.mono ?_); rintro e w' ⟨B3, k3, rfl, q2, hr3, hk3⟩; have kc2 := hr3.to_string (P := Try.prog) Try.underlying33 Try.underlying5 Try.underlying9 n k3 HN.out; have kc3 := (HR.out.keep ((HKA.out.drew).trans hk3)).to_string (P := Try.prog) Try.underlying33 Try.underlying5 Try.underlying9 n cap HN.out)
    all_goals
      have HK3 := Lib.hid ((HKA.out.drew).trans hk3)
      clear hk3 hr3 ri
      go_wp2_with fail
      go_ret
      exact ⟨by first | rfl | (rw [teq]; rfl), HK3.out⟩
  · have HD := Lib.hid (show Calls Try.prog 18 #[.slice A n cap] w fun e w' => e = .returned (.tuple #[vagg (fun _ => 0), .int .i64 1]) ∧ Kp w w' from by
      rw [hn]; exact S.decodeNo w A cap b hT (fun f h4 h5 h6 => hex ⟨f, h4, h5, h6⟩) hr h1 h2 (by omega))
    have HS := Lib.hid (show ∀ w', Kp w w' → Calls Try.prog 11 #[vagg (fun _ => 0), vagg (fun _ => 0)] w' fun e w2 => e = .returned (.bool true) ∧ Kp w' w2 from fun w' hk => by
      rw [← eqB_refl (fun _ => 0)]; exact same_any S w' (S.tk HT.out hk) _ _ VOk.nil)
    unfold vagg vcells at HD HS
    clear hT hr h1 h2 h3 hn hex
    go_enter Try.func19, Try.ntmps19
    go_wp2_with fail
    refine (show Calls _ _ _ _ _ from HD.out).mono ?_
    rintro e w2 ⟨rfl, hk2⟩
    have HK2 := Lib.hid (show Kp w (w2.alloc (.cells #[.int .i64 0, .int .i64 0, .int .i64 0, .int .i64 0, .int .i64 0, .int .i64 0] 26)) from hk2.alloc _)
    clear hk2 HD
    go_wp2_with fail
    refine (show Calls _ _ _ _ _ from HS.out _ HK2.out).mono ?_
    rintro e w3 ⟨rfl, hk3⟩
    have HK3 := Lib.hid (HK2.out.trans hk3)
    clear hk3
    go_wp2_with fail
    go_ret
    exact ⟨rfl, HK3.out⟩

end Go.Proofs.Ytdgpdooikfamlaa
