/-
  StoreStartsWalk, StoreStartsProof: texts of mine, joined.
-/
import Derived.Test.YticophaepapjoaaGreatDoorAllA38
import Derived.Test.YticophaepapjoaaGreatDoorAllA47
import Derived.Test.YticophaepapjoaaGreatDoorAllA30
import Derived.Test.YticophaepapjoaaGreatDoorAllA28
import Derived.Test.YticophaepapjoaaGreatDoorCards
import Derived.SevenTiedAt
namespace Go.Proofs.YticophaepapjoaaGreatDoor.storeStarts
open Go Go.RowKit Go.Joins
def zN (k : Nat) (c : Nat) : Sto := ⟨⟨162, segsOf 300, [], 0, 1⟩, ⟨2, 20, [], 0, 32, 1⟩, k + 2, ⟨(k : Int) + 1, 0, 0, false⟩, (k : Int) + 1, c⟩
set_option maxRecDepth 100000 in
set_option maxHeartbeats 2000000 in
theorem walk (S : FlashOK) (J : JournalOK) (w : World) (hS : S.T w) (hJ : J.T w) (hT : theSup.T w) (n : Int) (_ : -9223372036854775808 ≤ n) (_ : n < 9223372036854775808) (K : Option Addr) (kc : Nat) (keep : List Bool) (hkl : keep.length ≤ kc) (hkc : kc ≤ maxLen) (hK : Row w K (fun b => b < w.heap.size) (keep.map Value.bool)) :
  Calls Tryz.prog 6 #[.int .i64 n, .slice K keep.length kc] w fun e w' => e = .returned (.bool true) ∧ Below w.heap.size w w' := by
 have HS := Lib.hid hS
 have HJ := Lib.hid hJ
 have HT := Lib.hid hT
 have HK := Lib.hid hK
 obtain ⟨kl, hl0⟩ : ∃ kl, keep.length = kl := ⟨_, rfl⟩
 have HL := Lib.hid hl0
 have HKM := Lib.hid (show keep.length ≤ maxLen by omega)
 have hkm : kl ≤ 9223372036854775807 := by unfold maxLen at hkc; omega
 rw [hl0] at hkl ⊢
 clear hS hJ hT hK hl0 hkl hkc
 have hcs : (decide (n < 0) = true) ∨ (decide (n < 0) = false ∧ decide (12 < n) = true) ∨ (decide (n < 0) = false ∧ decide (12 < n) = false ∧ decide ((20 : Int) < (kl : Int)) = true) ∨ (decide (n < 0) = false ∧ decide (12 < n) = false ∧ decide ((20 : Int) < (kl : Int)) = false) := by
  cases decide (n < 0) <;> cases decide (12 < n) <;> cases decide ((20 : Int) < (kl : Int)) <;> simp
 go_enter Tryz.func6, Tryz.ntmps6
 go_wp2_with fail
 refine (show Calls _ _ _ _ _ from begun21 S J w HS.out HJ.out HT.out).mono ?_
 rintro e w1 ⟨rfl, hk⟩
 have K1 := Lib.hid hk
 clear hk
 rcases hcs with c1 | ⟨c1, c2⟩ | ⟨c1, c2, c3⟩ | ⟨c1, c2, c3⟩
 ·go_wp2_with fail
  go_ret
  exact ⟨rfl, K1.out.below⟩
 ·go_wp2_with fail
  go_ret
  exact ⟨rfl, K1.out.below⟩
 ·go_wp2_with fail
  go_ret
  exact ⟨rfl, K1.out.below⟩
 ·have n1 : 0 ≤ n := by have := of_decide_eq_false c1; omega
  have n2 : n ≤ 12 := by have := of_decide_eq_false c2; omega
  obtain ⟨N, rfl⟩ : ∃ N : Nat, n = (N : Int) := ⟨n.toNat, by omega⟩
  have n3 : N ≤ 12 := by omega
  clear n1 n2
  go_wp2_with fail
  refine (show Calls _ _ _ _ _ from fo_dev (X := fun _ => False) K1.out (fun _ h => h.elim) 300 (by decide) (by decide) 300 rfl).mono ?_
  rintro e w2 ⟨p, rfl, hB, -⟩
  have HB := Lib.hid hB.dev
  clear hB K1 c1 c2 c3
  go_wp2_with fail
  refine (show Calls _ _ _ _ _ from so_make HS.out HJ.out HT.out HB.out (by decide) (by decide)).mono ?_
  rintro e w3 ⟨b, q1, q2, k, c, rfl, hat, hc, -⟩
  have HA := Lib.hid (show StAt S J w w3 p b q1 q2 k (zN 0 c) 300 1 (fun _ => False) from hat)
  clear hat hc HB
  go_wp2_with fail
  refine (show Calls _ _ _ _ _ from so_started HA.out 1 rfl).mono ?_
  rintro e w4 ⟨rfl, rfl⟩
  go_wp2_with fail
  go_loopw [6, 7, 9] (fun d s i wr => ∃ (j c p b q1 q2 k : Nat), j ≤ N ∧ d = .pointer (some ⟨p, 0, none⟩) ∧ s = .pointer (some ⟨b, 0, none⟩) ∧ i = .int .i64 (j : Int) ∧ Hid (StAt S J w wr p b q1 q2 k (zN j c) 300 1 (fun _ => False))) (fun _ _ i _ => N - (intOf i).toNat)
  case atStart => exact ⟨0, c, p, b, q1, q2, k, Nat.zero_le _, rfl, rfl, rfl, HA⟩
  case round =>
   clear HA
   obtain ⟨j, c, p, b, q1, q2, k, hj, rfl, rfl, rfl, HA⟩ := hrel
   by_cases hl : j < N
   ·have hl' : (j : Int) < (N : Int) := by omega
    go_wp2_with fail
    refine (show Calls _ _ _ _ _ from so_crash HA.out (by decide) K kc (fun _ => True) keep kl HL.out.symm ((HK.out.keep (HA.out.kp.mono fun _ _ _ => trivial)).mono fun _ _ _ => trivial) HKM.out).mono ?_
    rintro e w4 ⟨r, rfl, hD, -, -⟩
    have HD := Lib.hid hD
    clear hD HA
    go_wp2_with fail
    refine (show Calls _ _ _ _ _ from so_openNew HS.out HJ.out HT.out HD.out (by show (j : Int) + 1 < 1099511627776; omega) (by show j + 2 ≤ 300000000000; omega)).mono ?_
    rintro e w5 ⟨b2, p1, p2, k2, rfl, hat, -⟩
    have e2 : (((j + 1 : Nat) : Int) + 1) = (j : Int) + 1 + 1 := by omega
    have hat : StAt S J w w5 r b2 p1 p2 k2 (zN (j + 1) 100) 300 1 (fun c => c = b ∨ False) := by
     unfold zN
     rw [e2]
     exact hat
    have HA5 := Lib.hid (hat.less (Y := fun _ => False) fun _ h => h.elim)
    have c2 := hat.blk.c2
    clear hat HD e2
    go_wp2_with fail
    refine (show Calls _ _ _ _ _ from so_started HA5.out ((j : Int) + 2) (by show (j : Int) + 2 = ((j + 1 : Nat) : Int) + 1; omega)).mono ?_
    rintro e w6 ⟨rfl, rfl⟩
    go_wp2_with fail
    have HM := so_meta HA5.out
    rw [show magg (zN (j + 1) 100).m = .agg #[.int .i64 ((j : Int) + 2), .int .i64 0, .int .i64 0, .bool false] from by
     show Value.agg #[.int .i64 (((j + 1 : Nat) : Int) + 1), .int .i64 0, .int .i64 0, .bool false] = _
     rw [show (((j + 1 : Nat) : Int) + 1) = (j : Int) + 2 by omega]] at HM
    have HMH := Lib.hid HM
    clear HM c2
    refine (show Calls _ _ _ _ _ from HMH.out).mono ?_
    rintro e w6 ⟨rfl, -, hat⟩
    have HA6 := Lib.hid hat
    clear hat HMH HA5
    go_wp2_with (rw [meta_field0])
    go_roundw
    case rel => exact ⟨j + 1, 100, r, b2, p1, p2, k2, by omega, rfl, rfl, by go_num, HA6⟩
    case measure => simp [intOf]; omega
   ·obtain rfl : N = j := by omega
    have hl' : ¬ (N : Int) < (N : Int) := by omega
    have HE := Lib.hid HA.out.kp
    clear HA
    go_wp2_with fail
    go_ret
    exact ⟨rfl, HE.out.below⟩
end Go.Proofs.YticophaepapjoaaGreatDoor.storeStarts
namespace Go.Proofs.YticophaepapjoaaGreatDoor.storeStarts
open Go Go.ChangeShapes Go.WideShapes Go.ChangeAt Go.RowKit
theorem walked (W : World) (n : Int) (wn : (Lit.int .i64 n).wf = true) (K : Option Addr) (kc : Nat) (keep : List Bool) (ka : keep.length ≤ kc) (kb : kc ≤ maxLen) (_ : K = none → kc = 0) (kg : Row W K (fun b => b < W.heap.size) (keep.map Value.bool)) (hT : Taken W) :
  Calls Tryz.prog 6 #[.int .i64 n, .slice K keep.length kc] W fun e W' => e = .returned (.bool true) ∧ Below W.heap.size W W' := by
 exact walk theFlash theJournal W ⟨hT, trivial, trivial⟩ (jtaken hT) hT n (by have := bounds_i64 wn; omega) (by have := bounds_i64 wn; omega) K kc keep ka kb kg
set_option maxRecDepth 100000 in
theorem lawWalk (H : Type) (enc : TypeId × Value → H) : LawWalk H enc Tryz.prog 6 Tryz.f6 (laidMetH Tryz.prog listed) := by
 intro W base args ds p hval hA hL
 rw [Tryz.params6] at hA hval
 obtain ⟨v0, vs0, d0, ds0, p0, q0, hargs, rfl, rfl, h0, r0⟩ := trodAll_cons hA
 obtain ⟨v1, vs1, d1, ds1, p1, q1, rfl, rfl, rfl, h1, r1⟩ := trodAll_cons r0
 obtain ⟨rfl, rfl, rfl⟩ := trodAll_nil r1
 obtain rfl : args = #[v0, v1] := by cases args; simp_all
 obtain ⟨n0, rfl, _, _, w0⟩ := open_int Tryz.underlying3 (hval 0 3 v0 rfl rfl) h0
 obtain ⟨A1, c1, l1, rfl, a1, b1, e1, g1⟩ := open_bools_whole Tryz.underlying41 Tryz.underlying4 (by kernel_rfl) (hval 1 41 v1 rfl rfl) h1
 exact walked W n0 w0 A1 c1 l1 a1 b1 e1 g1 (taken_of hL)
set_option maxRecDepth 100000 in
theorem lifted (os : Os) (started : os.Started) (H : Type) (enc : TypeId × Value → H) :
  ReturnsInHanded {} Tryz.checked os 6 .any (fun w args => (Rows.storeStartsSpec.pre enc Tryz.prog Tryz.f6 [] false w args ∧ laidMetH Tryz.prog listed w) ∧ sizedMet enc Tryz.prog Tryz.f6 (OpenSpec.ofChange Rows.storeStartsSpec) false w args)
   (Rows.storeStartsSpec.post enc Tryz.prog Tryz.f6 false true false false) :=
 law_laid (C := Tryz.checked) (X := laidMetH Tryz.prog listed) (tb := 4) (fun _ _ hh h => h.of_heap hh) own started (by kernel_rfl) Tryz.func6
  (ChangeSpec.witness_shaped (enc := enc) (C := Tryz.checked) (os := os) (X := fun w _ => laidMetH Tryz.prog listed w) false (World.doorLaid Tryz.prog 400 os) #[.int .i64 0, .slice none 0 0] 8 rfl (World.shaped_of_RefB (by kernel_rfl) (by kernel_rfl)) (by kernel_rfl) (by kernel_rfl) (by kernel_rfl) (door_met os _))
  laidOut (by kernel_rfl) (by kernel_rfl) Tryz.underlying4 rfl (fun ds h => by match ds, h with | [_, _], _ => rfl) (lawWalk H enc)
set_option maxRecDepth 100000 in
theorem over : Rows.storeStartsRow.holds Tryz.pinned (OpenSpec.ofChange Rows.storeStartsSpec) :=
 OpenClaim.holds_of_wide 6 Tryz.f6 rfl rfl rfl rfl rfl rfl rfl ⟨rfl, rfl, rfl, rfl, rfl⟩ rfl rfl rfl rfl rfl (by kernel_rfl) Tryz.func6 (by kernel_rfl)
  (of_decide_eq_true (by kernel_rfl)) (by unfold Func.isWrapper; first | (rw [if_pos (by decide +kernel)]; kernel_rfl) | (rw [if_neg (by decide +kernel)]; exact ⟨rfl, rfl⟩))
  (fun os started H enc _ => lifted os started H enc)
theorem proved : Rows.StoreStartsCardSaid :=
 Claim7.holds_tied_plain_at .later [] Rows.storeStartsCard.laidKinds true (true, Rows.storeStartsCard.stood.harness.2) false
  over (fun _ h => by cases h) (by kernel_rfl) (fun _ h => by cases h) storeStarts_row_tie rfl ⟨rfl, rfl⟩ (by kernel_rfl) rfl
  (fun f fn hf hfn => by
   obtain rfl : f = 6 := Option.some.inj ((show Tryz.prog.funcNamed "icehouse/icehouselaw21.StoreStarts" = some 6 by kernel_rfl).symm.trans hf) |>.symm
   obtain rfl : fn = Tryz.f6 := (Option.some.inj (Tryz.func6.symm.trans hfn)).symm
   exact ⟨by kernel_rfl, fun j t ht => by
    rw [Tryz.params6] at ht
    have hm : t ∈ [3, 41] := by simpa using Array.mem_of_getElem? ht
    have hall : ([3, 41].all fun u => !Tryz.prog.wantsStandIn u) = true := by kernel_rfl
    exact (show Tryz.prog.wantsStandIn t = false by simpa using List.all_eq_true.1 hall t hm)⟩)
  (by kernel_rfl)
#print axioms proved
end Go.Proofs.YticophaepapjoaaGreatDoor.storeStarts
