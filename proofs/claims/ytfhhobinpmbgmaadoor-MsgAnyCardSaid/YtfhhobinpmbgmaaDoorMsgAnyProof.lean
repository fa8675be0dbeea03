/-
  For every row of bytes: any bytes are a message's, just its, or nobody's: MsgAny answers true.
  Conditions: none (the table of half bytes is tied to the program's text by the card).
-/
import Derived.Test.YtfhhobinpmbgmaaDoorMsgAnyWalk
import Derived.Test.YtfhhobinpmbgmaaDoorMsMade
import Derived.Test.YtfhhobinpmbgmaaDoorAllLaid
import Derived.Test.YtfhhobinpmbgmaaDoorMsOpen
import Derived.Test.YtfhhobinpmbgmaaDoorCards
import Derived.SevenTiedAt
namespace Go.Proofs.YtfhhobinpmbgmaaDoor.msgAny
open Go Go.ChangeShapes Go.WideShapes Go.ChangeAt Go.RowKit

theorem walked (W : World) (A : Option Addr) (c : Nat) (l : List UInt8) (a : l.length ≤ c) (b : c ≤ maxLen) (e : A = none → c = 0) (g : Row W A (fun b => b < W.heap.size) (bcells l)) (hT : Taken W) :
    Calls Tryd.prog 5 #[.slice A l.length c] W fun e W' => e = .returned (.bool true) ∧ Below W.heap.size W W' := by
  exact msgAny.walk theMsg W (gtaken hT) A c l a b e g

set_option maxRecDepth 100000 in
theorem lawWalk (H : Type) (enc : TypeId × Value → H) : LawWalk H enc Tryd.prog 5 Tryd.f5 (laidMetH Tryd.prog listed) := by
  intro W base args ds p hval hA hL
  rw [Tryd.params5] at hA hval
  obtain ⟨v0, vs0, d0, ds0, p0, q0, hargs, rfl, rfl, h0, r0⟩ := trodAll_cons hA
  obtain ⟨rfl, rfl, rfl⟩ := trodAll_nil r0
  obtain rfl : args = #[v0] := by cases args; simp_all
  obtain ⟨A0, c0, l0, rfl, a0, b0, e0, g0⟩ := open_bytes Tryd.underlying33 Tryd.underlying5 (by kernel_rfl) (hval 0 33 v0 rfl rfl) h0
  exact walked W A0 c0 l0 a0 b0 e0 g0 (taken_of hL)

set_option maxRecDepth 100000 in
theorem lifted (os : Os) (started : os.Started) (H : Type) (enc : TypeId × Value → H) :
    ReturnsInHanded {} Tryd.checked os 5 .any (fun w args => (Rows.msgAnySpec.pre enc Tryd.prog Tryd.f5 [] false w args ∧ laidMetH Tryd.prog listed w) ∧ sizedMet enc Tryd.prog Tryd.f5 (OpenSpec.ofChange Rows.msgAnySpec) false w args)
      (Rows.msgAnySpec.post enc Tryd.prog Tryd.f5 false true false false) :=
  law_laid (C := Tryd.checked) (X := laidMetH Tryd.prog listed) (tb := 4) (fun _ _ hh h => h.of_heap hh) own started (by kernel_rfl) Tryd.func5
    (ChangeSpec.witness_shaped (enc := enc) (C := Tryd.checked) (os := os) (X := fun w _ => laidMetH Tryd.prog listed w) false (World.doorLaid Tryd.prog 400 os) #[.slice none 0 0] 8 rfl (World.shaped_of_RefB (by kernel_rfl) (by kernel_rfl)) (by kernel_rfl) (by kernel_rfl) (by kernel_rfl) (door_met os _))
    laidOut (by kernel_rfl) (by kernel_rfl) Tryd.underlying4 rfl (fun ds h => by match ds, h with | [_], _ => rfl) (lawWalk H enc)

set_option maxRecDepth 100000 in
theorem over : Rows.msgAnyRow.holds Tryd.pinned (OpenSpec.ofChange Rows.msgAnySpec) :=
  OpenClaim.holds_of_wide 5 Tryd.f5 rfl rfl rfl rfl rfl rfl rfl ⟨rfl, rfl, rfl, rfl, rfl⟩ rfl rfl rfl rfl rfl (by kernel_rfl) Tryd.func5 (by kernel_rfl)
    (of_decide_eq_true (by kernel_rfl)) (by unfold Func.isWrapper; first | (rw [if_pos (by decide +kernel)]; kernel_rfl) | (rw [if_neg (by decide +kernel)]; exact ⟨rfl, rfl⟩))
    (fun os started H enc _ => lifted os started H enc)

/-- The statement. -/
theorem proved : Rows.MsgAnyCardSaid :=
  Claim7.holds_tied_plain_at .later [] Rows.msgAnyCard.laidKinds true (true, Rows.msgAnyCard.stood.harness.2) false
    over (fun _ h => by cases h) (by kernel_rfl) (fun _ h => by cases h) msgAny_row_tie rfl ⟨rfl, rfl⟩ (by kernel_rfl) rfl
    (fun f fn hf hfn => by
      obtain rfl : f = 5 := Option.some.inj ((show Tryd.prog.funcNamed "icehouse/icehouselaw19.MsgAny" = some 5 by kernel_rfl).symm.trans hf) |>.symm
      obtain rfl : fn = Tryd.f5 := (Option.some.inj (Tryd.func5.symm.trans hfn)).symm
      exact ⟨by kernel_rfl, fun j t ht => by
        rw [Tryd.params5] at ht
        have hm : t ∈ [33] := by simpa using Array.mem_of_getElem? ht
        have hall : ([33].all fun u => !Tryd.prog.wantsStandIn u) = true := by kernel_rfl
        exact (show Tryd.prog.wantsStandIn t = false by simpa using List.all_eq_true.1 hall t hm)⟩)
    (by kernel_rfl)
#print axioms proved
end Go.Proofs.YtfhhobinpmbgmaaDoor.msgAny
