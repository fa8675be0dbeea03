/-
  'Cut', AND THE SUM OF TWO TEXTS AS IT STANDS IN A DRAWN REGION.
-/
import Derived.Test.YtegglcgopddfcaaLoc
import Derived.Test.YtegglcgopddfcaaLast
import Derived.WalkSpells
namespace Go.Proofs.Ytegglcgopddfcaa
open Go.RowKit

/-- The text, or its first n bytes. -/
def cutZ (s : ByteArray) (n : Nat) : ByteArray := if n < s.size then s.extract 0 n else s
theorem cutZ_size (s : ByteArray) (n : Nat) : (cutZ s n).size ≤ n := by
  unfold cutZ; split
  · simp; omega
  · omega
theorem cut_any (s : ByteArray) (n : Nat) (_hs : s.size ≤ maxLen) (hn : n ≤ 100) (w : World) :
    Calls Try.prog 15 #[.string s, .int .i64 (n : Int)] w fun e w' => e = .returned (.string (cutZ s n)) ∧ w = w' := by
  unfold maxLen at _hs
  unfold cutZ
  by_cases h : n < s.size
  · rw [if_pos h]
    have h' : (n : Int) < (s.size : Int) := by omega
    go_enter Try.func15, Try.ntmps15
    go_wp2
    go_ret
    exact ⟨rfl, rfl⟩
  · rw [if_neg h]
    have h' : ¬ (n : Int) < (s.size : Int) := by omega
    go_enter Try.func15, Try.ntmps15
    go_wp2
    go_ret
    exact ⟨rfl, rfl⟩

section
variable {o : Oper} {a : Act} {w : World} {Q : Exit → Act → World → Prop} {x y : Operand}
theorem loc_add {s : ByteArray} {n : Int} (ho : o.op = .binOp .add 9 x y 9) (hx : a.eval x = .string s) (hy : a.eval y = .string (one n)) (hs : s.size ≤ 100) :
    o.wp Try.prog a w (fun a' w' => ∃ v, a' = a.put o.dst v ∧ Adds w w' ∧ Is (.string (more s n)) w' v) Q := by
  refine loc_yield (v := .string (more s n)) (w' := w) ?_ (Adds.refl w) rfl
  have h1 : (one n).size ≤ 1 := by rw [one_more, more_size]; decide
  unfold more
  have e : strOfNums [n] = one n := rfl
  rw [e]
  generalize one n = t at *
  generalize a.eval = ρ at hx hy ⊢
  unfold execOp
  rw [ho]
  go_simp
  omega
end
end Go.Proofs.Ytegglcgopddfcaa
