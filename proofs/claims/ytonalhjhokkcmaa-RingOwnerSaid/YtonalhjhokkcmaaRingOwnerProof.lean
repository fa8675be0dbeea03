/-
  For every epoch, every set of nodes by bits, every hash and text: each hash and each key has its owner: RingOwner answers true.
  Conditions: none.
-/
import Derived.Test.YtonalhjhokkcmaaRingOwnerWalk
import Derived.Test.YtonalhjhokkcmaaRgMade
import Derived.Test.YtonalhjhokkcmaaRows
import Derived.Test.YtonalhjhokkcmaaFrame
import Derived.Test.YtonalhjhokkcmaaOpenText
namespace Go.Proofs.Ytonalhjhokkcmaa.ringOwner
open Go Go.ChangeShapes Go.WideShapes Go.ChangeAt Go.RowKit

theorem walked (W : World) (a : Int) (_wa : (Lit.int .i64 a).wf = true) (z : Int) (_wz : (Lit.int .i64 z).wf = true) (h : Int) (wh : (Lit.int .u64 h).wf = true) (s : ByteArray) (hs : s.size ≤ maxLen) :
    Calls Try.prog 3 #[.int .i64 a, .int .i64 z, .int .u64 h, .string s] W fun e W' => e = .returned (.bool true) ∧ Below W.heap.size W W' := by
  exact ringOwner.walk theRing W trivial a z h s (bounds_u64 wh).1 (Int.lt_of_le_of_lt (bounds_u64 wh).2 (by decide)) hs

set_option maxRecDepth 100000 in
theorem lawWalk (H : Type) (enc : TypeId × Value → H) : LawWalk H enc Try.prog 3 Try.f3 (fun _ => True) := by
  intro W base args ds p hval hA hL
  rw [Try.params3] at hA hval
  obtain ⟨v0, vs0, d0, ds0, p0, q0, hargs, rfl, rfl, h0, r0⟩ := trodAll_cons hA
  obtain ⟨v1, vs1, d1, ds1, p1, q1, rfl, rfl, rfl, h1, r1⟩ := trodAll_cons r0
  obtain ⟨v2, vs2, d2, ds2, p2, q2, rfl, rfl, rfl, h2, r2⟩ := trodAll_cons r1
  obtain ⟨v3, vs3, d3, ds3, p3, q3, rfl, rfl, rfl, h3, r3⟩ := trodAll_cons r2
  obtain ⟨rfl, rfl, rfl⟩ := trodAll_nil r3
  obtain rfl : args = #[v0, v1, v2, v3] := by cases args; simp_all
  obtain ⟨n0, rfl, _, _, w0⟩ := open_int Try.underlying2 (hval 0 2 v0 rfl rfl) h0
  obtain ⟨n1, rfl, _, _, w1⟩ := open_int Try.underlying3 (hval 1 3 v1 rfl rfl) h1
  obtain ⟨n2, rfl, _, _, w2⟩ := open_int Try.underlying22 (hval 2 22 v2 rfl rfl) h2
  obtain ⟨n3, rfl, _, w3⟩ := open_text Try.underlying9 (hval 3 9 v3 rfl rfl) h3
  exact walked W n0 w0 n1 w1 n2 w2 n3 w3

set_option maxRecDepth 100000 in
theorem lifted (os : Os) (started : os.Started) (H : Type) (enc : TypeId × Value → H) :
    ReturnsInHanded {} Try.checked os 3 .any (Rows.ringOwnerSpec.pre6 enc Try.prog Try.f3 Rows.ringOwnerRow.domain false) (Rows.ringOwnerSpec.post enc Try.prog Try.f3 false true false false) :=
  law_plain (C := Try.checked) (tb := 4) own started (by kernel_rfl) Try.func3
    (ChangeSpec.witness6 (enc := enc) (C := Try.checked) false ⟨#[], #[.int .i64 0, .int .i64 0, .int .u64 0, .string ⟨#[]⟩], []⟩ 8 (by kernel_rfl) (by kernel_rfl) (by kernel_rfl) (by kernel_rfl))
    laidOut (by kernel_rfl) (by kernel_rfl) Try.underlying4 rfl (fun ds h => by match ds, h with | [_, _, _, _], _ => rfl) (lawWalk H enc)

set_option maxRecDepth 100000 in
theorem over : Rows.ringOwnerRow.holds Try.pinned (OpenSpec.ofChange Rows.ringOwnerSpec) :=
  OpenClaim.holds_of_wide 3 Try.f3 rfl rfl rfl rfl rfl rfl rfl ⟨rfl, rfl, rfl, rfl, rfl⟩ rfl rfl rfl rfl rfl (by kernel_rfl) Try.func3 (by kernel_rfl)
    (of_decide_eq_true (by kernel_rfl)) (by unfold Func.isWrapper; first | (rw [if_pos (by decide +kernel)]; kernel_rfl) | (rw [if_neg (by decide +kernel)]; exact ⟨rfl, rfl⟩))
    (fun os started H enc _ => lifted os started H enc)

/-- The statement. -/
theorem proved : Rows.RingOwnerSaid :=
  over
#print axioms proved
end Go.Proofs.Ytonalhjhokkcmaa.ringOwner
