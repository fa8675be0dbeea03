/-
  For every two rows of rows of bytes: two logs on one device know nothing of one another: SlogApart answers true.
  Conditions: none (the table of half bytes is tied to the program's text by the card).
-/
import Derived.Test.YtgdbkmecfbkobaaDoorSlogApartWalk
import Derived.Test.YtgdbkmecfbkobaaDoorSlgThe
import Derived.Test.YtgdbkmecfbkobaaDoorAllLaid
import Derived.Test.YtgdbkmecfbkobaaDoorSlogOps
import Derived.Test.YtgdbkmecfbkobaaDoorCards
import Derived.SevenTiedAt
namespace Go.Proofs.YtgdbkmecfbkobaaDoor.slogApart
open Go Go.ChangeShapes Go.WideShapes Go.ChangeAt Go.RowKit

theorem walked (W : World) (A0 : Option Addr) (c0 : Nat) (l0 : List Part) (a0 : l0.length ≤ c0) (b0 : c0 ≤ maxLen) (_ : A0 = none → c0 = 0) (g0 : Row W A0 (fun b => b < W.heap.size) (l0.map Part.val)) (f0 : ∀ p ∈ l0, p.Fits W (fun b => b < W.heap.size)) (A1 : Option Addr) (c1 : Nat) (l1 : List Part) (a1 : l1.length ≤ c1) (b1 : c1 ≤ maxLen) (_ : A1 = none → c1 = 0) (g1 : Row W A1 (fun b => b < W.heap.size) (l1.map Part.val)) (f1 : ∀ p ∈ l1, p.Fits W (fun b => b < W.heap.size)) (hT : Taken W) :
    Calls Tryd.prog 7 #[.slice A0 l0.length c0, .slice A1 l1.length c1] W fun e W' => e = .returned (.bool true) ∧ Below W.heap.size W W' := by
  exact walk theSlog W hT A0 c0 l0 a0 b0 g0 f0 A1 c1 l1 a1 b1 g1 f1

set_option maxRecDepth 100000 in
theorem lawWalk (H : Type) (enc : TypeId × Value → H) : LawWalk H enc Tryd.prog 7 Tryd.f7 (laidMetH Tryd.prog listed) := by
  intro W base args ds p hval hA hL
  rw [Tryd.params7] at hA hval
  obtain ⟨v0, vs0, d0, ds0, p0, q0, hargs, rfl, rfl, h0, r0⟩ := trodAll_cons hA
  obtain ⟨v1, vs1, d1, ds1, p1, q1, rfl, rfl, rfl, h1, r1⟩ := trodAll_cons r0
  obtain ⟨rfl, rfl, rfl⟩ := trodAll_nil r1
  obtain rfl : args = #[v0, v1] := by cases args; simp_all
  obtain ⟨A0, c0, l0, rfl, a0, b0, e0, g0, f0⟩ := open_parts Tryd.underlying52 Tryd.underlying31 Tryd.underlying5 (by kernel_rfl) (by kernel_rfl) (hval 0 52 v0 rfl rfl) h0
  obtain ⟨A1, c1, l1, rfl, a1, b1, e1, g1, f1⟩ := open_parts Tryd.underlying52 Tryd.underlying31 Tryd.underlying5 (by kernel_rfl) (by kernel_rfl) (hval 1 52 v1 rfl rfl) h1
  exact walked W A0 c0 l0 a0 b0 e0 g0 f0 A1 c1 l1 a1 b1 e1 g1 f1 (taken_of hL)

set_option maxRecDepth 100000 in
theorem lifted (os : Os) (started : os.Started) (H : Type) (enc : TypeId × Value → H) :
    ReturnsInHanded {} Tryd.checked os 7 .any (fun w args => (Rows.slogApartSpec.pre enc Tryd.prog Tryd.f7 [] false w args ∧ laidMetH Tryd.prog listed w) ∧ sizedMet enc Tryd.prog Tryd.f7 (OpenSpec.ofChange Rows.slogApartSpec) false w args)
      (Rows.slogApartSpec.post enc Tryd.prog Tryd.f7 false true false false) :=
  law_laid (C := Tryd.checked) (X := laidMetH Tryd.prog listed) (tb := 4) (fun _ _ hh h => h.of_heap hh) own started (by kernel_rfl) Tryd.func7
    (ChangeSpec.witness_shaped (enc := enc) (C := Tryd.checked) (os := os) (X := fun w _ => laidMetH Tryd.prog listed w) false (World.doorLaid Tryd.prog 400 os) #[.slice none 0 0, .slice none 0 0] 8 rfl (World.shaped_of_RefB (by kernel_rfl) (by kernel_rfl)) (by kernel_rfl) (by kernel_rfl) (by kernel_rfl) (door_met os _))
    laidOut (by kernel_rfl) (by kernel_rfl) Tryd.underlying4 rfl (fun ds h => by match ds, h with | [_, _], _ => rfl) (lawWalk H enc)

set_option maxRecDepth 100000 in
theorem over : Rows.slogApartRow.holds Tryd.pinned (OpenSpec.ofChange Rows.slogApartSpec) :=
  OpenClaim.holds_of_wide 7 Tryd.f7 rfl rfl rfl rfl rfl rfl rfl ⟨rfl, rfl, rfl, rfl, rfl⟩ rfl rfl rfl rfl rfl (by kernel_rfl) Tryd.func7 (by kernel_rfl)
    (of_decide_eq_true (by kernel_rfl)) (by unfold Func.isWrapper; first | (rw [if_pos (by decide +kernel)]; kernel_rfl) | (rw [if_neg (by decide +kernel)]; exact ⟨rfl, rfl⟩))
    (fun os started H enc _ => lifted os started H enc)

/-- The statement. -/
theorem proved : Rows.SlogApartCardSaid :=
  Claim7.holds_tied_plain_at .later [] Rows.slogApartCard.laidKinds true (true, Rows.slogApartCard.stood.harness.2) false
    over (fun _ h => by cases h) (by kernel_rfl) (fun _ h => by cases h) slogApart_row_tie rfl ⟨rfl, rfl⟩ (by kernel_rfl) rfl
    (fun f fn hf hfn => by
      obtain rfl : f = 7 := Option.some.inj ((show Tryd.prog.funcNamed "icehouse/icehouselaw6.SlogApart" = some 7 by kernel_rfl).symm.trans hf) |>.symm
      obtain rfl : fn = Tryd.f7 := (Option.some.inj (Tryd.func7.symm.trans hfn)).symm
      exact ⟨by kernel_rfl, fun j t ht => by
        rw [Tryd.params7] at ht
        have hm : t ∈ [52, 52] := by simpa using Array.mem_of_getElem? ht
        have hall : ([52, 52].all fun u => !Tryd.prog.wantsStandIn u) = true := by kernel_rfl
        exact (show Tryd.prog.wantsStandIn t = false by simpa using List.all_eq_true.1 hall t hm)⟩)
    (by kernel_rfl)
#print axioms proved
end Go.Proofs.YtgdbkmecfbkobaaDoor.slogApart
