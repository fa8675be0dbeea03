/-
  FlashWipe, walked over what a cache keeps.
-/
import Derived.Test.YtoepgbpmcjnbmaaGreatDoorFlashLocs
namespace Go.Proofs.YtoepgbpmcjnbmaaGreatDoor.flashWipe
open Go Go.RowKit Go.Joins
def iN : It := ⟨⟨#[110, 101, 119]⟩, ⟨#[119]⟩, 0, false⟩
def valW (_ : Nat) : ByteArray := ⟨#[118]⟩
theorem valW_size (i : Nat) : (valW i).size = 1 := rfl
def stW (n g a : Nat) : FSt := ⟨0, 50, numbered valW n, g, a⟩
def itW (i : Nat) : It := ⟨fname i, valW i, 0, false⟩
theorem fcost_iN : fcosts [fput iN] = 84 := by
  have : fcosts [fput iN] = iN.key.size + iN.val.size + 80 + 400 * 0 := by simp [fcosts, FEnt.cost, fput]
  rw [this]
  have a1 : iN.key.size = 3 := rfl
  have a2 : iN.val.size = 1 := rfl
  omega
theorem keys_0 (a : Nat) {ks : List ByteArray} (hm : ∀ k, k ∈ ks ↔ ((⟨0, 50, [], 0, a⟩ : FSt).at_ k).isSome = true) : ks = [] := by
  rw [List.eq_nil_iff_forall_not_mem]
  intro k hk
  have h1 := (hm k).1 hk
  exact absurd h1 (by simp [FSt.at_, fLast])
theorem keys_1 (o a : Nat) {ks : List ByteArray} (hm : ∀ k, k ∈ ks ↔ ((⟨0, 50, [⟨iN, o⟩], 0, a⟩ : FSt).at_ k).isSome = true) (k : ByteArray) : k ∈ ks ↔ k = ⟨#[110, 101, 119]⟩ := by
  rw [hm k]
  constructor
  · intro h
    refine Classical.byContradiction fun hne => ?_
    have h2 : isKF k ⟨iN, o⟩ = false := by
      cases h3 : isKF k ⟨iN, o⟩ with
      | false => rfl
      | true => exact absurd (isKF_iff.1 h3).symm hne
    unfold FSt.at_ fLast at h
    simp [List.find?, h2] at h
  · rintro rfl
    rfl
set_option maxRecDepth 100000 in
set_option maxHeartbeats 1000000 in
theorem walk (S : FlashOK) (w : World) (hT : S.T w) (n : Int) (_ : -9223372036854775808 ≤ n) (_ : n < 9223372036854775808) (K : Option Addr) (kc : Nat) (keep : List Bool) (hkl : keep.length ≤ kc) (hkc : kc ≤ maxLen) (hK : Row w K (fun b => b < w.heap.size) (keep.map Value.bool)) : Calls Tryz.prog 9 #[.int .i64 n, .slice K keep.length kc] w fun e w' => e = .returned (.bool true) ∧ Below w.heap.size w w' := by
  have HT := Lib.hid hT
  have HK := Lib.hid hK
  obtain ⟨kl, hl0⟩ : ∃ kl, keep.length = kl := ⟨_, rfl⟩
  have HL := Lib.hid hl0
  have HKM := Lib.hid (show keep.length ≤ maxLen by omega)
  have hkm : kl ≤ 9223372036854775807 := by unfold maxLen at hkc; omega
  rw [hl0] at hkl ⊢
  clear hT hK hl0 hkl hkc
  have hcs : (decide (n < 0) = true) ∨ (decide (n < 0) = false ∧ decide (12 < n) = true) ∨ (decide (n < 0) = false ∧ decide (12 < n) = false ∧ decide ((60 : Int) < (kl : Int)) = true) ∨ (decide (n < 0) = false ∧ decide (12 < n) = false ∧ decide ((60 : Int) < (kl : Int)) = false) := by
    cases decide (n < 0) <;> cases decide (12 < n) <;> cases decide ((60 : Int) < (kl : Int)) <;> simp
  go_enter Tryz.func9, Tryz.ntmps9
  go_wp2_with fail
  refine (show Calls _ _ _ _ _ from begun9 S w HT.out).mono ?_
  rintro e w1 ⟨rfl, hk⟩
  have K1 := Lib.hid hk
  clear hk
  rcases hcs with c1 | ⟨c1, c2⟩ | ⟨c1, c2, c3⟩ | ⟨c1, c2, c3⟩
  · go_wp2_with fail
    go_ret
    exact ⟨rfl, K1.out.below⟩
  · go_wp2_with fail
    go_ret
    exact ⟨rfl, K1.out.below⟩
  · go_wp2_with fail
    go_ret
    exact ⟨rfl, K1.out.below⟩
  · have n1 : 0 ≤ n := by have := of_decide_eq_false c1; omega
    have n2 : n ≤ 12 := by have := of_decide_eq_false c2; omega
    obtain ⟨N, rfl⟩ : ∃ N : Nat, n = (N : Int) := ⟨n.toNat, by omega⟩
    have n3 : N ≤ 12 := by omega
    clear n1 n2
    go_wp2_with fail
    refine (show Calls _ _ _ _ _ from fo_dev (X := fun _ => False) K1.out (fun _ h => h.elim) 400 (by decide) (by decide) 400 rfl).mono ?_
    rintro e w2 ⟨p, rfl, hB, -⟩
    have HB := Lib.hid hB
    clear hB K1 c1 c2 c3
    go_wp2_with fail
    refine (show Calls _ _ _ _ _ from fo_open HT.out HB.out 0 50 0 50 rfl rfl (by omega) (by omega) (by omega)).mono ?_
    rintro e w3 ⟨q, rfl, hF, -⟩
    have HF := Lib.hid (show Fo S w w3 p q (stW 0 0 1) false (fun _ => False) from hF)
    clear hF HB
    go_wp2_with fail
    go_loopw [9] (fun i wr => ∃ k gn : Nat, k ≤ N ∧ i = .int .i64 (k : Int) ∧ Hid (Fo S w wr p q (stW k gn (k + 1)) false (fun _ => False))) (fun i _ => N - (intOf i).toNat)
    case atStart => exact ⟨0, 0, Nat.zero_le _, rfl, HF⟩
    case round =>
      clear HF
      obtain ⟨k, gn, hk, rfl, HF⟩ := hrel
      by_cases hl : k < N
      · have hl' : (k : Int) < (N : Int) := by omega
        go_wp2_with fail
        refine (show Calls _ _ _ _ _ from fname_any wr k (by omega) _ rfl).mono ?_
        rintro e w4 ⟨rfl, hk4⟩
        have HF4 := Lib.hid (HF.out.keep hk4)
        clear hk4 HF
        go_wp2_with fail
        refine (show Calls _ _ _ _ _ from fo_put HT.out HF4.out (by show k + 1 ≤ 20000; omega) (itW k) (num_may valW (fun j => by rw [valW_size]; decide) k) rfl).mono ?_
        rintro e w6 ⟨rfl, g6, -, hF, -⟩
        have HF6 := Lib.hid (show Fo S w w6 p q (stW (k + 1) g6 (k + 1 + 1)) false (fun _ => False) from by unfold stW; rw [numbered_succ]; exact hF)
        clear hF HF4
        go_wp2_with fail
        go_roundw
        case rel => exact ⟨k + 1, g6, by omega, by go_num, HF6⟩
        case measure => simp [intOf]; omega
      · obtain rfl : N = k := by omega
        have hl' : ¬ (N : Int) < (N : Int) := by omega
        go_wp2_with fail
        refine (show Calls _ _ _ _ _ from fo_wipe HT.out HF.out (by show N + 1 ≤ 20000; omega)).mono ?_
        rintro e w4 ⟨rfl, hF, -⟩
        have HF4 := Lib.hid (show Fo S w w4 p q ⟨0, 50, [], 0, N + 2⟩ true (fun _ => False) from hF)
        clear hF HF
        go_wp2_with fail
        refine (show Calls _ _ _ _ _ from fo_keys HT.out HF4.out).mono ?_
        rintro e w5 ⟨A5, c5, ks, rfl, -, hm, -, -, hF⟩
        have hks := keys_0 (N + 2) hm
        subst hks
        have HF5 := Lib.hid hF
        clear hF HF4 hm
        go_wp2_with fail
        refine (show Calls _ _ _ _ _ from fo_put HT.out HF5.out (by show N + 2 ≤ 20000; omega) iN (by decide) rfl).mono ?_
        rintro e w6 ⟨rfl, g, -, hF, -⟩
        have hF : Fo S w w6 p q ⟨0, 50, [fput iN], g, N + 3⟩ false (fun _ => False) := hF
        have hg : g = 0 := hF.wf.whole (by show fcosts [fput iN] ≤ 200 * (50 - 2); rw [fcost_iN]; decide)
        subst hg
        have HF6 := Lib.hid hF
        clear hF HF5
        go_wp2_with fail
        refine (show Calls _ _ _ _ _ from fo_flush HT.out HF6.out (by show N + 3 ≤ 20000; omega)).mono ?_
        rintro e w7 ⟨rfl, hF, -⟩
        have HF7 := Lib.hid (show Fo S w w7 p q ⟨0, 50, [fput iN], 0, N + 4⟩ true (fun _ => False) from hF)
        clear hF HF6
        go_wp2_with fail
        refine (show Calls _ _ _ _ _ from fo_crash HF7.out K kc (fun _ => True) keep kl HL.out.symm ((HK.out.keep (HF7.out.kp.mono fun _ _ _ => trivial)).mono fun _ _ _ => trivial) HKM.out).mono ?_
        rintro e w8 ⟨r, rfl, hD, -, -⟩
        have HD := Lib.hid hD
        clear hD HF7
        go_wp2_with fail
        refine (show Calls _ _ _ _ _ from fo_again HT.out HD.out (by show N + 4 ≤ 20000; omega) 0 50 rfl rfl).mono ?_
        rintro e w9 ⟨q2, rfl, hG, -⟩
        have HG := Lib.hid (show Fo S w w9 r q2 ⟨0, 50, [⟨iN, 1⟩], 0, N + 5⟩ false (fun _ => False) from hG)
        clear hG HD
        go_wp2_with fail
        refine (show Calls _ _ _ _ _ from fo_keys HT.out HG.out).mono ?_
        rintro e w10 ⟨A, c, ks, rfl, hr, hm, ht, -, hF⟩
        have hks := rising_single hr (keys_1 1 (N + 5) hm)
        subst hks
        obtain ⟨b, o, rfl, -, hc⟩ := ht.at_ (k := 0) (by decide)
        have hc : w10.cell? ⟨b, o, none⟩ = some (.string ⟨#[110, 101, 119]⟩) := hc
        have HE := Lib.hid hF.kp
        clear hF HG hr hm ht
        go_wp2_with fail
        go_ret
        exact ⟨rfl, HE.out.below⟩
end Go.Proofs.YtoepgbpmcjnbmaaGreatDoor.flashWipe
