/-
  StoreStarts, walked over what cache and journal keep.
-/
import Derived.Test.YticophaepapjoaaGreatDoorAllA08
namespace Go.Proofs.YticophaepapjoaaGreatDoor.storeStarts
open Go Go.RowKit Go.Joins

def zN (k : Nat) (c : Nat) : Sto := ⟨⟨162, segsOf 300, [], 0, 1⟩, ⟨2, 20, [], 0, 32, 1⟩, k + 2, ⟨(k : Int) + 1, 0, 0, false⟩, (k : Int) + 1, c⟩
set_option maxRecDepth 100000 in
set_option maxHeartbeats 2000000 in
theorem walk (S : FlashOK) (J : JournalOK) (w : World) (hS : S.T w) (hJ : J.T w) (hT : theSup.T w) (n : Int) (_ : -9223372036854775808 ≤ n) (_ : n < 9223372036854775808) (K : Option Addr) (kc : Nat) (keep : List Bool) (hkl : keep.length ≤ kc) (hkc : kc ≤ maxLen) (hK : Row w K (fun b => b < w.heap.size) (keep.map Value.bool)) :
    Calls Tryz.prog 6 #[.int .i64 n, .slice K keep.length kc] w fun e w' => e = .returned (.bool true) ∧ Below w.heap.size w w' := by
  have HS := Lib.hid hS
  have HJ := Lib.hid hJ
  have HT := Lib.hid hT
  have HK := Lib.hid hK
  obtain ⟨kl, hl0⟩ : ∃ kl, keep.length = kl := ⟨_, rfl⟩
  have HL := Lib.hid hl0
  have HKM := Lib.hid (show keep.length ≤ maxLen by omega)
  have hkm : kl ≤ 9223372036854775807 := by unfold maxLen at hkc; omega
  rw [hl0] at hkl ⊢
  clear hS hJ hT hK hl0 hkl hkc
  have hcs : (decide (n < 0) = true) ∨ (decide (n < 0) = false ∧ decide (12 < n) = true) ∨ (decide (n < 0) = false ∧ decide (12 < n) = false ∧ decide ((20 : Int) < (kl : Int)) = true) ∨ (decide (n < 0) = false ∧ decide (12 < n) = false ∧ decide ((20 : Int) < (kl : Int)) = false) := by
    cases decide (n < 0) <;> cases decide (12 < n) <;> cases decide ((20 : Int) < (kl : Int)) <;> simp
  go_enter Tryz.func6, Tryz.ntmps6
  go_wp2_with fail
  refine (show Calls _ _ _ _ _ from begun21 S J w HS.out HJ.out HT.out).mono ?_
  rintro e w1 ⟨rfl, hk⟩
  have K1 := Lib.hid hk
  clear hk
  rcases hcs with c1 | ⟨c1, c2⟩ | ⟨c1, c2, c3⟩ | ⟨c1, c2, c3⟩
  · go_wp2_with fail
    go_ret
    exact ⟨rfl, K1.out.below⟩
  · go_wp2_with fail
    go_ret
    exact ⟨rfl, K1.out.below⟩
  · go_wp2_with fail
    go_ret
    exact ⟨rfl, K1.out.below⟩
  · have n1 : 0 ≤ n := by have := of_decide_eq_false c1; omega
    have n2 : n ≤ 12 := by have := of_decide_eq_false c2; omega
    obtain ⟨N, rfl⟩ : ∃ N : Nat, n = (N : Int) := ⟨n.toNat, by omega⟩
    have n3 : N ≤ 12 := by omega
    clear n1 n2
    go_wp2_with fail
    refine (show Calls _ _ _ _ _ from fo_dev (X := fun _ => False) K1.out (fun _ h => h.elim) 300 (by decide) (by decide) 300 rfl).mono ?_
    rintro e w2 ⟨p, rfl, hB, -⟩
    have HB := Lib.hid hB.dev
    clear hB K1 c1 c2 c3
    go_wp2_with fail
    refine (show Calls _ _ _ _ _ from so_make HS.out HJ.out HT.out HB.out (by decide) (by decide)).mono ?_
    rintro e w3 ⟨b, q1, q2, k, c, rfl, hat, hc, -⟩
    have HA := Lib.hid (show StAt S J w w3 p b q1 q2 k (zN 0 c) 300 1 (fun _ => False) from hat)
    clear hat hc HB
    go_wp2_with fail
    refine (show Calls _ _ _ _ _ from so_started HA.out 1 rfl).mono ?_
    rintro e w4 ⟨rfl, rfl⟩
    go_wp2_with fail
    go_loopw [6, 7, 9] (fun d s i wr => ∃ (j c p b q1 q2 k : Nat), j ≤ N ∧ d = .pointer (some ⟨p, 0, none⟩) ∧ s = .pointer (some ⟨b, 0, none⟩) ∧ i = .int .i64 (j : Int) ∧ Hid (StAt S J w wr p b q1 q2 k (zN j c) 300 1 (fun _ => False))) (fun _ _ i _ => N - (intOf i).toNat)
    case atStart => exact ⟨0, c, p, b, q1, q2, k, Nat.zero_le _, rfl, rfl, rfl, HA⟩
    case round =>
      clear HA
      obtain ⟨j, c, p, b, q1, q2, k, hj, rfl, rfl, rfl, HA⟩ := hrel
      by_cases hl : j < N
      · have hl' : (j : Int) < (N : Int) := by omega
        go_wp2_with fail
        refine (show Calls _ _ _ _ _ from so_crash HA.out (by decide) K kc (fun _ => True) keep kl HL.out.symm ((HK.out.keep (HA.out.kp.mono fun _ _ _ => trivial)).mono fun _ _ _ => trivial) HKM.out).mono ?_
        rintro e w4 ⟨r, rfl, hD, -, -⟩
        have HD := Lib.hid hD
        clear hD HA
        go_wp2_with fail
        refine (show Calls _ _ _ _ _ from so_openNew HS.out HJ.out HT.out HD.out (by show (j : Int) + 1 < 1099511627776; omega) (by show j + 2 ≤ 300000000000; omega)).mono ?_
        rintro e w5 ⟨b2, p1, p2, k2, rfl, hat, -⟩
        have e2 : (((j + 1 : Nat) : Int) + 1) = (j : Int) + 1 + 1 := by omega
        have hat : StAt S J w w5 r b2 p1 p2 k2 (zN (j + 1) 100) 300 1 (fun c => c = b ∨ False) := by
          unfold zN
          rw [e2]
          exact hat
        have HA5 := Lib.hid (hat.less (Y := fun _ => False) fun _ h => h.elim)
        have c2 := hat.blk.c2
        clear hat HD e2
        go_wp2_with fail
        refine (show Calls _ _ _ _ _ from so_started HA5.out ((j : Int) + 2) (by show (j : Int) + 2 = ((j + 1 : Nat) : Int) + 1; omega)).mono ?_
        rintro e w6 ⟨rfl, rfl⟩
        go_wp2_with fail
        have HM := so_meta HA5.out
        rw [show magg (zN (j + 1) 100).m = .agg #[.int .i64 ((j : Int) + 2), .int .i64 0, .int .i64 0, .bool false] from by
          show Value.agg #[.int .i64 (((j + 1 : Nat) : Int) + 1), .int .i64 0, .int .i64 0, .bool false] = _
          rw [show (((j + 1 : Nat) : Int) + 1) = (j : Int) + 2 by omega]] at HM
        have HMH := Lib.hid HM
        clear HM c2
        refine (show Calls _ _ _ _ _ from HMH.out).mono ?_
        rintro e w6 ⟨rfl, -, hat⟩
        have HA6 := Lib.hid hat
        clear hat HMH HA5
        go_wp2_with (rw [meta_field0])
        go_roundw
        case rel => exact ⟨j + 1, 100, r, b2, p1, p2, k2, by omega, rfl, rfl, by go_num, HA6⟩
        case measure => simp [intOf]; omega
      · obtain rfl : N = j := by omega
        have hl' : ¬ (N : Int) < (N : Int) := by omega
        have HE := Lib.hid HA.out.kp
        clear HA
        go_wp2_with fail
        go_ret
        exact ⟨rfl, HE.out.below⟩

end Go.Proofs.YticophaepapjoaaGreatDoor.storeStarts
