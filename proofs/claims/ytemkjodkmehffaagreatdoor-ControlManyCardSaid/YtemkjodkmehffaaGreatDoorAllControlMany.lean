/-
  ControlManyProof: texts of mine, joined.
-/
import Derived.Test.YtemkjodkmehffaaGreatDoorAllM47
import Derived.Test.YtemkjodkmehffaaGreatDoorAllM16
import Derived.Test.YtemkjodkmehffaaGreatDoorAllM35
import Derived.Test.YtemkjodkmehffaaGreatDoorCards
import Derived.SevenTiedAt
namespace Go.Proofs.YtemkjodkmehffaaGreatDoor.controlMany
open Go Go.ChangeShapes Go.WideShapes Go.ChangeAt Go.RowKit
theorem walked (W : World) (D : Option Addr) (dc : Nat) (drop : List Int) (da : drop.length ≤ dc) (db : dc ≤ maxLen) (_ : D = none → dc = 0) (dg : Row W D (fun b => b < W.heap.size) (drop.map (Value.int .i64))) (df : ∀ z ∈ drop, (Lit.int .i64 z).wf = true) (K : Option Addr) (kc : Nat) (keep : List Bool) (ka : keep.length ≤ kc) (kb : kc ≤ maxLen) (_ : K = none → kc = 0) (kg : Row W K (fun b => b < W.heap.size) (keep.map Value.bool)) (hT : Taken W) :
  Calls Tryz.prog 5 #[.slice D drop.length dc, .slice K keep.length kc] W fun e W' => e = .returned (.bool true) ∧ Below W.heap.size W W' := by
 exact walk W hT D dc drop da db dg (fun z hz => ⟨(bounds_i64 (df z hz)).1, by have := (bounds_i64 (df z hz)).2; omega⟩) K kc keep ka kb kg
set_option maxRecDepth 100000 in
theorem lawWalk (H : Type) (enc : TypeId × Value → H) : LawWalk H enc Tryz.prog 5 Tryz.f5 (laidMetH Tryz.prog listed) := by
 intro W base args ds p hval hA hL
 rw [Tryz.params5] at hA hval
 obtain ⟨v0, vs0, d0, ds0, p0, q0, hargs, rfl, rfl, h0, r0⟩ := trodAll_cons hA
 obtain ⟨v1, vs1, d1, ds1, p1, q1, rfl, rfl, rfl, h1, r1⟩ := trodAll_cons r0
 obtain ⟨rfl, rfl, rfl⟩ := trodAll_nil r1
 obtain rfl : args = #[v0, v1] := by cases args; simp_all
 obtain ⟨A0, c0, l0, rfl, a0, b0, e0, g0, f0⟩ := open_row_ints Tryz.underlying48 Tryz.underlying3 (by kernel_rfl) (hval 0 48 v0 rfl rfl) h0
 obtain ⟨A1, c1, l1, rfl, a1, b1, e1, g1⟩ := open_bools_whole Tryz.underlying58 Tryz.underlying4 (by kernel_rfl) (hval 1 58 v1 rfl rfl) h1
 exact walked W A0 c0 l0 a0 b0 e0 g0 f0 A1 c1 l1 a1 b1 e1 g1 (taken_of hL)
set_option maxRecDepth 100000 in
theorem lifted (os : Os) (started : os.Started) (H : Type) (enc : TypeId × Value → H) :
  ReturnsInHanded {} Tryz.checked os 5 .any (fun w args => (Rows.controlManySpec.pre enc Tryz.prog Tryz.f5 [] false w args ∧ laidMetH Tryz.prog listed w) ∧ sizedMet enc Tryz.prog Tryz.f5 (OpenSpec.ofChange Rows.controlManySpec) false w args)
   (Rows.controlManySpec.post enc Tryz.prog Tryz.f5 false true false false) :=
 law_laid (C := Tryz.checked) (X := laidMetH Tryz.prog listed) (tb := 4) (fun _ _ hh h => h.of_heap hh) own started (by kernel_rfl) Tryz.func5
  (ChangeSpec.witness_shaped (enc := enc) (C := Tryz.checked) (os := os) (X := fun w _ => laidMetH Tryz.prog listed w) false (World.doorLaid Tryz.prog 400 os) #[.slice none 0 0, .slice none 0 0] 8 rfl (World.shaped_of_RefB (by kernel_rfl) (by kernel_rfl)) (by kernel_rfl) (by kernel_rfl) (by kernel_rfl) (door_met os _))
  laidOut (by kernel_rfl) (by kernel_rfl) Tryz.underlying4 rfl (fun ds h => by match ds, h with | [_, _], _ => rfl) (lawWalk H enc)
set_option maxRecDepth 100000 in
theorem over : Rows.controlManyRow.holds Tryz.pinned (OpenSpec.ofChange Rows.controlManySpec) :=
 OpenClaim.holds_of_wide 5 Tryz.f5 rfl rfl rfl rfl rfl rfl rfl ⟨rfl, rfl, rfl, rfl, rfl⟩ rfl rfl rfl rfl rfl (by kernel_rfl) Tryz.func5 (by kernel_rfl)
  (of_decide_eq_true (by kernel_rfl)) (by unfold Func.isWrapper; first | (rw [if_pos (by decide +kernel)]; kernel_rfl) | (rw [if_neg (by decide +kernel)]; exact ⟨rfl, rfl⟩))
  (fun os started H enc _ => lifted os started H enc)
theorem proved : Rows.ControlManyCardSaid :=
 Claim7.holds_tied_plain_at .later [] Rows.controlManyCard.laidKinds true (true, Rows.controlManyCard.stood.harness.2) false
  over (fun _ h => by cases h) (by kernel_rfl) (fun _ h => by cases h) controlMany_row_tie rfl ⟨rfl, rfl⟩ (by kernel_rfl) rfl
  (fun f fn hf hfn => by
   obtain rfl : f = 5 := Option.some.inj ((show Tryz.prog.funcNamed "icehouse/icehouselaw23.ControlMany" = some 5 by kernel_rfl).symm.trans hf) |>.symm
   obtain rfl : fn = Tryz.f5 := (Option.some.inj (Tryz.func5.symm.trans hfn)).symm
   exact ⟨by kernel_rfl, fun j t ht => by
    rw [Tryz.params5] at ht
    have hm : t ∈ [48, 58] := by simpa using Array.mem_of_getElem? ht
    have hall : ([48, 58].all fun u => !Tryz.prog.wantsStandIn u) = true := by kernel_rfl
    exact (show Tryz.prog.wantsStandIn t = false by simpa using List.all_eq_true.1 hall t hm)⟩)
  (by kernel_rfl)
#print axioms proved
end Go.Proofs.YtemkjodkmehffaaGreatDoor.controlMany
