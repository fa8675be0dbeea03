/-
  For every set of nodes by bits, every two epochs and every text: the epoch says nothing of owners: RingEpoch answers true.
  Conditions: none.
-/
import Derived.Test.YtonalhjhokkcmaaRingEpochWalk
import Derived.Test.YtonalhjhokkcmaaRgMade
import Derived.Test.YtonalhjhokkcmaaRows
import Derived.Test.YtonalhjhokkcmaaFrame
import Derived.Test.YtonalhjhokkcmaaOpenText
namespace Go.Proofs.Ytonalhjhokkcmaa.ringEpoch
open Go Go.ChangeShapes Go.WideShapes Go.ChangeAt Go.RowKit

theorem walked (W : World) (z : Int) (_wz : (Lit.int .i64 z).wf = true) (a : Int) (_wa : (Lit.int .i64 a).wf = true) (b : Int) (_wb : (Lit.int .i64 b).wf = true) (s : ByteArray) (hs : s.size ≤ maxLen) :
    Calls Try.prog 8 #[.int .i64 z, .int .i64 a, .int .i64 b, .string s] W fun e W' => e = .returned (.bool true) ∧ Below W.heap.size W W' := by
  exact ringEpoch.walk theRing W trivial z a b s hs

set_option maxRecDepth 100000 in
theorem lawWalk (H : Type) (enc : TypeId × Value → H) : LawWalk H enc Try.prog 8 Try.f8 (fun _ => True) := by
  intro W base args ds p hval hA hL
  rw [Try.params8] at hA hval
  obtain ⟨v0, vs0, d0, ds0, p0, q0, hargs, rfl, rfl, h0, r0⟩ := trodAll_cons hA
  obtain ⟨v1, vs1, d1, ds1, p1, q1, rfl, rfl, rfl, h1, r1⟩ := trodAll_cons r0
  obtain ⟨v2, vs2, d2, ds2, p2, q2, rfl, rfl, rfl, h2, r2⟩ := trodAll_cons r1
  obtain ⟨v3, vs3, d3, ds3, p3, q3, rfl, rfl, rfl, h3, r3⟩ := trodAll_cons r2
  obtain ⟨rfl, rfl, rfl⟩ := trodAll_nil r3
  obtain rfl : args = #[v0, v1, v2, v3] := by cases args; simp_all
  obtain ⟨n0, rfl, _, _, w0⟩ := open_int Try.underlying3 (hval 0 3 v0 rfl rfl) h0
  obtain ⟨n1, rfl, _, _, w1⟩ := open_int Try.underlying2 (hval 1 2 v1 rfl rfl) h1
  obtain ⟨n2, rfl, _, _, w2⟩ := open_int Try.underlying2 (hval 2 2 v2 rfl rfl) h2
  obtain ⟨n3, rfl, _, w3⟩ := open_text Try.underlying9 (hval 3 9 v3 rfl rfl) h3
  exact walked W n0 w0 n1 w1 n2 w2 n3 w3

set_option maxRecDepth 100000 in
theorem lifted (os : Os) (started : os.Started) (H : Type) (enc : TypeId × Value → H) :
    ReturnsInHanded {} Try.checked os 8 .any (Rows.ringEpochSpec.pre6 enc Try.prog Try.f8 Rows.ringEpochRow.domain false) (Rows.ringEpochSpec.post enc Try.prog Try.f8 false true false false) :=
  law_plain (C := Try.checked) (tb := 4) own started (by kernel_rfl) Try.func8
    (ChangeSpec.witness6 (enc := enc) (C := Try.checked) false ⟨#[], #[.int .i64 0, .int .i64 0, .int .i64 0, .string ⟨#[]⟩], []⟩ 8 (by kernel_rfl) (by kernel_rfl) (by kernel_rfl) (by kernel_rfl))
    laidOut (by kernel_rfl) (by kernel_rfl) Try.underlying4 rfl (fun ds h => by match ds, h with | [_, _, _, _], _ => rfl) (lawWalk H enc)

set_option maxRecDepth 100000 in
theorem over : Rows.ringEpochRow.holds Try.pinned (OpenSpec.ofChange Rows.ringEpochSpec) :=
  OpenClaim.holds_of_wide 8 Try.f8 rfl rfl rfl rfl rfl rfl rfl ⟨rfl, rfl, rfl, rfl, rfl⟩ rfl rfl rfl rfl rfl (by kernel_rfl) Try.func8 (by kernel_rfl)
    (of_decide_eq_true (by kernel_rfl)) (by unfold Func.isWrapper; first | (rw [if_pos (by decide +kernel)]; kernel_rfl) | (rw [if_neg (by decide +kernel)]; exact ⟨rfl, rfl⟩))
    (fun os started H enc _ => lifted os started H enc)

/-- The statement. -/
theorem proved : Rows.RingEpochSaid :=
  over
#print axioms proved
end Go.Proofs.Ytonalhjhokkcmaa.ringEpoch
