/-
  For every number of entries, all that are taken away, every crash behind it: they are there no more, the others are: FlashDrop answers true.
  Conditions: none (the table of half bytes is tied to the program's text by the card).
-/
import Derived.Test.YtoepgbpmcjnbmaaGreatDoorFlashDropWalk
import Derived.Test.YtoepgbpmcjnbmaaGreatDoorFlThe
import Derived.Test.YtoepgbpmcjnbmaaGreatDoorAllLaid
import Derived.Test.YtoepgbpmcjnbmaaGreatDoorCards
import Derived.SevenTiedAt
namespace Go.Proofs.YtoepgbpmcjnbmaaGreatDoor.flashDrop
open Go Go.ChangeShapes Go.WideShapes Go.ChangeAt Go.RowKit
theorem walked (W : World) (n : Int) (wn : (Lit.int .i64 n).wf = true) (D : Option Addr) (dc : Nat) (drop : List Int) (da : drop.length ≤ dc) (db : dc ≤ maxLen) (_ : D = none → dc = 0) (dg : Row W D (fun b => b < W.heap.size) (drop.map (Value.int .i64))) (df : ∀ z ∈ drop, (Lit.int .i64 z).wf = true) (K : Option Addr) (kc : Nat) (keep : List Bool) (ka : keep.length ≤ kc) (kb : kc ≤ maxLen) (_ : K = none → kc = 0) (kg : Row W K (fun b => b < W.heap.size) (keep.map Value.bool)) (hT : Taken W) :
    Calls Tryz.prog 8 #[.int .i64 n, .slice D drop.length dc, .slice K keep.length kc] W fun e W' => e = .returned (.bool true) ∧ Below W.heap.size W W' := by
  exact walk theFlash W ⟨hT, trivial, trivial⟩ n (by have := bounds_i64 wn; omega) (by have := bounds_i64 wn; omega) D dc drop da db dg (fun z hz => bounds_i64 (df z hz)) K kc keep ka kb kg
set_option maxRecDepth 100000 in
theorem lawWalk (H : Type) (enc : TypeId × Value → H) : LawWalk H enc Tryz.prog 8 Tryz.f8 (laidMetH Tryz.prog listed) := by
  intro W base args ds p hval hA hL
  rw [Tryz.params8] at hA hval
  obtain ⟨v0, vs0, d0, ds0, p0, q0, hargs, rfl, rfl, h0, r0⟩ := trodAll_cons hA
  obtain ⟨v1, vs1, d1, ds1, p1, q1, rfl, rfl, rfl, h1, r1⟩ := trodAll_cons r0
  obtain ⟨v2, vs2, d2, ds2, p2, q2, rfl, rfl, rfl, h2, r2⟩ := trodAll_cons r1
  obtain ⟨rfl, rfl, rfl⟩ := trodAll_nil r2
  obtain rfl : args = #[v0, v1, v2] := by cases args; simp_all
  obtain ⟨n0, rfl, _, _, w0⟩ := open_int Tryz.underlying3 (hval 0 3 v0 rfl rfl) h0
  obtain ⟨A1, c1, l1, rfl, a1, b1, e1, g1, f1⟩ := open_row_ints Tryz.underlying65 Tryz.underlying3 (by kernel_rfl) (hval 1 65 v1 rfl rfl) h1
  obtain ⟨A2, c2, l2, rfl, a2, b2, e2, g2⟩ := open_bools_whole Tryz.underlying36 Tryz.underlying4 (by kernel_rfl) (hval 2 36 v2 rfl rfl) h2
  exact walked W n0 w0 A1 c1 l1 a1 b1 e1 g1 f1 A2 c2 l2 a2 b2 e2 g2 (taken_of hL)
set_option maxRecDepth 100000 in
theorem lifted (os : Os) (started : os.Started) (H : Type) (enc : TypeId × Value → H) :
    ReturnsInHanded {} Tryz.checked os 8 .any (fun w args => (Rows.flashDropSpec.pre enc Tryz.prog Tryz.f8 [] false w args ∧ laidMetH Tryz.prog listed w) ∧ sizedMet enc Tryz.prog Tryz.f8 (OpenSpec.ofChange Rows.flashDropSpec) false w args)
      (Rows.flashDropSpec.post enc Tryz.prog Tryz.f8 false true false false) :=
  law_laid (C := Tryz.checked) (X := laidMetH Tryz.prog listed) (tb := 4) (fun _ _ hh h => h.of_heap hh) own started (by kernel_rfl) Tryz.func8
    (ChangeSpec.witness_shaped (enc := enc) (C := Tryz.checked) (os := os) (X := fun w _ => laidMetH Tryz.prog listed w) false (World.doorLaid Tryz.prog 400 os) #[.int .i64 0, .slice none 0 0, .slice none 0 0] 8 rfl (World.shaped_of_RefB (by kernel_rfl) (by kernel_rfl)) (by kernel_rfl) (by kernel_rfl) (by kernel_rfl) (door_met os _))
    laidOut (by kernel_rfl) (by kernel_rfl) Tryz.underlying4 rfl (fun ds h => by match ds, h with | [_, _, _], _ => rfl) (lawWalk H enc)
set_option maxRecDepth 100000 in
theorem over : Rows.flashDropRow.holds Tryz.pinned (OpenSpec.ofChange Rows.flashDropSpec) :=
  OpenClaim.holds_of_wide 8 Tryz.f8 rfl rfl rfl rfl rfl rfl rfl ⟨rfl, rfl, rfl, rfl, rfl⟩ rfl rfl rfl rfl rfl (by kernel_rfl) Tryz.func8 (by kernel_rfl)
    (of_decide_eq_true (by kernel_rfl)) (by unfold Func.isWrapper; first | (rw [if_pos (by decide +kernel)]; kernel_rfl) | (rw [if_neg (by decide +kernel)]; exact ⟨rfl, rfl⟩))
    (fun os started H enc _ => lifted os started H enc)
theorem proved : Rows.FlashDropCardSaid :=
  Claim7.holds_tied_plain_at .later [] Rows.flashDropCard.laidKinds true (true, Rows.flashDropCard.stood.harness.2) false
    over (fun _ h => by cases h) (by kernel_rfl) (fun _ h => by cases h) flashDrop_row_tie rfl ⟨rfl, rfl⟩ (by kernel_rfl) rfl
    (fun f fn hf hfn => by
      obtain rfl : f = 8 := Option.some.inj ((show Tryz.prog.funcNamed "icehouse/icehouselaw9.FlashDrop" = some 8 by kernel_rfl).symm.trans hf) |>.symm
      obtain rfl : fn = Tryz.f8 := (Option.some.inj (Tryz.func8.symm.trans hfn)).symm
      exact ⟨by kernel_rfl, fun j t ht => by
        rw [Tryz.params8] at ht
        have hm : t ∈ [3, 65, 36] := by simpa using Array.mem_of_getElem? ht
        have hall : ([3, 65, 36].all fun u => !Tryz.prog.wantsStandIn u) = true := by kernel_rfl
        exact (show Tryz.prog.wantsStandIn t = false by simpa using List.all_eq_true.1 hall t hm)⟩)
    (by kernel_rfl)
#print axioms proved
end Go.Proofs.YtoepgbpmcjnbmaaGreatDoor.flashDrop
