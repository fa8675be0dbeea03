/-
  For every row of entries, every two hashes and every number: the entries of that range are told by their keys, so many, behind a key, each once: FlashBetween answers true.
  Conditions: none (the table of half bytes is tied to the program's text by the card).
-/
import Derived.Test.YtoepgbpmcjnbmaaGreatDoorFlashBetweenWalk
import Derived.Test.YtoepgbpmcjnbmaaGreatDoorFlThe
import Derived.Test.YtoepgbpmcjnbmaaGreatDoorAllLaid
import Derived.Test.YtoepgbpmcjnbmaaGreatDoorItemOpen
import Derived.Test.YtoepgbpmcjnbmaaGreatDoorCards
import Derived.SevenTiedAt
namespace Go.Proofs.YtoepgbpmcjnbmaaGreatDoor.flashBetween
open Go Go.ChangeShapes Go.WideShapes Go.ChangeAt Go.RowKit
theorem walked (W : World) (A : Option Addr) (c : Nat) (l : List It) (a : l.length ≤ c) (b : c ≤ maxLen) (_ : A = none → c = 0) (g : ItsAt W A (fun b => b < W.heap.size) l) (f : ∀ x ∈ l, x.came) (lo : Int) (wlo : (Lit.int .u64 lo).wf = true) (hi : Int) (whi : (Lit.int .u64 hi).wf = true) (n : Int) (wn : (Lit.int .i64 n).wf = true) (hT : Taken W) :
    Calls Tryz.prog 4 #[.slice A l.length c, .int .u64 lo, .int .u64 hi, .int .i64 n] W fun e W' => e = .returned (.bool true) ∧ Below W.heap.size W W' := by
  obtain ⟨lo, rfl⟩ : ∃ k : Nat, lo = (k : Int) := ⟨lo.toNat, by have := bounds_u64 wlo; omega⟩
  obtain ⟨hi, rfl⟩ : ∃ k : Nat, hi = (k : Int) := ⟨hi.toNat, by have := bounds_u64 whi; omega⟩
  exact walk theFlash W ⟨hT, trivial, trivial⟩ A c l a b g f lo hi (by have := bounds_u64 wlo; omega) (by have := bounds_u64 whi; omega) n (by have := bounds_i64 wn; omega) (by have := bounds_i64 wn; omega)
set_option maxRecDepth 100000 in
theorem lawWalk (H : Type) (enc : TypeId × Value → H) : LawWalk H enc Tryz.prog 4 Tryz.f4 (laidMetH Tryz.prog listed) := by
  intro W base args ds p hval hA hL
  rw [Tryz.params4] at hA hval
  obtain ⟨v0, vs0, d0, ds0, p0, q0, hargs, rfl, rfl, h0, r0⟩ := trodAll_cons hA
  obtain ⟨v1, vs1, d1, ds1, p1, q1, rfl, rfl, rfl, h1, r1⟩ := trodAll_cons r0
  obtain ⟨v2, vs2, d2, ds2, p2, q2, rfl, rfl, rfl, h2, r2⟩ := trodAll_cons r1
  obtain ⟨v3, vs3, d3, ds3, p3, q3, rfl, rfl, rfl, h3, r3⟩ := trodAll_cons r2
  obtain ⟨rfl, rfl, rfl⟩ := trodAll_nil r3
  obtain rfl : args = #[v0, v1, v2, v3] := by cases args; simp_all
  obtain ⟨A0, c0, l0, rfl, a0, b0, e0, g0, f0⟩ := open_items (hval 0 52 v0 rfl rfl) h0
  obtain ⟨n1, rfl, _, _, w1⟩ := open_int Tryz.underlying53 (hval 1 53 v1 rfl rfl) h1
  obtain ⟨n2, rfl, _, _, w2⟩ := open_int Tryz.underlying53 (hval 2 53 v2 rfl rfl) h2
  obtain ⟨n3, rfl, _, _, w3⟩ := open_int Tryz.underlying3 (hval 3 3 v3 rfl rfl) h3
  exact walked W A0 c0 l0 a0 b0 e0 g0 f0 n1 w1 n2 w2 n3 w3 (taken_of hL)
set_option maxRecDepth 100000 in
theorem lifted (os : Os) (started : os.Started) (H : Type) (enc : TypeId × Value → H) :
    ReturnsInHanded {} Tryz.checked os 4 .any (fun w args => (Rows.flashBetweenSpec.pre enc Tryz.prog Tryz.f4 [] false w args ∧ laidMetH Tryz.prog listed w) ∧ sizedMet enc Tryz.prog Tryz.f4 (OpenSpec.ofChange Rows.flashBetweenSpec) false w args)
      (Rows.flashBetweenSpec.post enc Tryz.prog Tryz.f4 false true false false) :=
  law_laid (C := Tryz.checked) (X := laidMetH Tryz.prog listed) (tb := 4) (fun _ _ hh h => h.of_heap hh) own started (by kernel_rfl) Tryz.func4
    (ChangeSpec.witness_shaped (enc := enc) (C := Tryz.checked) (os := os) (X := fun w _ => laidMetH Tryz.prog listed w) false (World.doorLaid Tryz.prog 400 os) #[.slice none 0 0, .int .u64 0, .int .u64 0, .int .i64 0] 8 rfl (World.shaped_of_RefB (by kernel_rfl) (by kernel_rfl)) (by kernel_rfl) (by kernel_rfl) (by kernel_rfl) (door_met os _))
    laidOut (by kernel_rfl) (by kernel_rfl) Tryz.underlying4 rfl (fun ds h => by match ds, h with | [_, _, _, _], _ => rfl) (lawWalk H enc)
set_option maxRecDepth 100000 in
theorem over : Rows.flashBetweenRow.holds Tryz.pinned (OpenSpec.ofChange Rows.flashBetweenSpec) :=
  OpenClaim.holds_of_wide 4 Tryz.f4 rfl rfl rfl rfl rfl rfl rfl ⟨rfl, rfl, rfl, rfl, rfl⟩ rfl rfl rfl rfl rfl (by kernel_rfl) Tryz.func4 (by kernel_rfl)
    (of_decide_eq_true (by kernel_rfl)) (by unfold Func.isWrapper; first | (rw [if_pos (by decide +kernel)]; kernel_rfl) | (rw [if_neg (by decide +kernel)]; exact ⟨rfl, rfl⟩))
    (fun os started H enc _ => lifted os started H enc)
theorem proved : Rows.FlashBetweenCardSaid :=
  Claim7.holds_tied_plain_at .later [] Rows.flashBetweenCard.laidKinds true (true, Rows.flashBetweenCard.stood.harness.2) false
    over (fun _ h => by cases h) (by kernel_rfl) (fun _ h => by cases h) flashBetween_row_tie rfl ⟨rfl, rfl⟩ (by kernel_rfl) rfl
    (fun f fn hf hfn => by
      obtain rfl : f = 4 := Option.some.inj ((show Tryz.prog.funcNamed "icehouse/icehouselaw9.FlashBetween" = some 4 by kernel_rfl).symm.trans hf) |>.symm
      obtain rfl : fn = Tryz.f4 := (Option.some.inj (Tryz.func4.symm.trans hfn)).symm
      exact ⟨by kernel_rfl, fun j t ht => by
        rw [Tryz.params4] at ht
        have hm : t ∈ [52, 53, 53, 3] := by simpa using Array.mem_of_getElem? ht
        have hall : ([52, 53, 53, 3].all fun u => !Tryz.prog.wantsStandIn u) = true := by kernel_rfl
        exact (show Tryz.prog.wantsStandIn t = false by simpa using List.all_eq_true.1 hall t hm)⟩)
    (by kernel_rfl)
#print axioms proved
end Go.Proofs.YtoepgbpmcjnbmaaGreatDoor.flashBetween
