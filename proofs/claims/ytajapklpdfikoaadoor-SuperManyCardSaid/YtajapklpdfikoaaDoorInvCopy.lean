/-
  A DRAWN REGION IN WHICH ONE 'copy' WRITES INTO A ROW OF THE CALL's OWN (my own text): what the row holds ahead of it and behind it; bytes and literals beside that row; single operations.
-/
import Derived.Test.YtajapklpdfikoaaDoorInvOne
import Derived.Test.YtajapklpdfikoaaDoorArr
import Derived.Test.YtajapklpdfikoaaDoorBytes
import Derived.WalkKit
namespace Go.Proofs.YtajapklpdfikoaaDoor
open Go Go.RowKit

/-- The row at block g holds xs ahead of the writing, ys behind it; all other blocks are as they were in W. -/
def StRow (W : World) (base g : Nat) (e : TypeId) (n c : Nat) (xs ys : List Value) (b : Bool) (w : World) : Prop :=
  w.ownsRow base e 1 (.slice (some ⟨g, 0, none⟩) n c) n (if b then ys else xs) ∧ Keeps (fun b => b ≠ g) W w ∧ g < w.heap.size
section
variable {W w w' : World} {base g : Nat} {e : TypeId} {n c : Nat} {xs ys : List Value} {b : Bool}
theorem StRow.keep (h : Kp w w') (hs : StRow W base g e n c xs ys b w) : StRow W base g e n c xs ys b w' :=
  ⟨h.own hs.1 fun _ _ => trivial, hs.2.1.trans (h.mono fun _ _ _ => trivial), Nat.lt_of_lt_of_le hs.2.2 h.size⟩
theorem StRow.put (hs : StRow W base g e n c xs ys false w) (ho : w'.ownsRow base e 1 (.slice (some ⟨g, 0, none⟩) n c) n ys) (hg : w.grownBy w' (some g)) : StRow W base g e n c xs ys true w' :=
  ⟨ho, hs.2.1.trans (Keeps.of_grown hg fun _ e _ hn => by cases e; exact hn rfl), Nat.lt_of_lt_of_le hs.2.2 hg.size⟩
end
/-- Bytes beside the row. -/
def TextG (g : Nat) (l : List UInt8) : World → Value → Prop := fun w v => ∃ A c, v = .slice A l.length c ∧ l.length ≤ c ∧ c ≤ maxLen ∧ Row w A (fun b => b ≠ g) (bcells l)
theorem TextG.keep {g : Nat} {l : List UInt8} {w w' : World} {v : Value} (h : Keeps (fun b => b ≠ g) w w') (hv : TextG g l w v) : TextG g l w' v := by
  obtain ⟨A, c, e, h1, h2, hr⟩ := hv
  exact ⟨A, c, e, h1, h2, hr.keep h⟩
theorem TextG.of_own {g m : Nat} {l : List UInt8} {w' : World} {v : Value} (h : OwnB w' m v l) (hg : g < m) : TextG g l w' v := by
  obtain ⟨A, c, e, hn, hr⟩ := own_slice h
  refine ⟨A, c, e, ?_, ?_, hr.mono fun b _ hb => by omega⟩
  all_goals
    rw [e] at h
    rcases h.2 with ⟨h', h0⟩ | ⟨g', cap', cur, h', _, _, h1, h2, _⟩
    · injection h' with _ h3 h4; omega
    · injection h' with _ h3 h4; omega
/-- A slice of one-cell values beside the row. -/
def RowG (g : Nat) (xs : List Value) : World → Value → Prop := fun w v => ∃ A c, v = .slice A xs.length c ∧ Row w A (fun b => b ≠ g) xs
theorem RowG.keep {g : Nat} {xs : List Value} {w w' : World} {v : Value} (h : Keeps (fun b => b ≠ g) w w') (hv : RowG g xs w v) : RowG g xs w' v := by
  obtain ⟨A, c, e, hr⟩ := hv
  exact ⟨A, c, e, hr.keep h⟩
theorem keeps_grown {g : Nat} {w w' : World} (h : w.grownBy w' (some g)) : Keeps (fun b => b ≠ g) w w' := Keeps.of_grown h fun _ e _ hn => by cases e; exact hn rfl

section
variable {P : Program} {w : World} {o : Oper} {a : Act} {Q : Exit → Act → World → Prop}
/-- copy of bytes into the row, not nothing. -/
theorem one_copy {W : World} {base g n c : Nat} {e : TypeId} {xs ys cs : List Value} (d s : Operand) (dT sT : TypeId) (ho : o.op = .call { callee := .builtin .copy, args := #[d, s], argTypes := #[dT, sT] }) (hu : P.underlying dT = some (.slice e)) (hsz : (P.info? e).map (·.size) = some 1)
    (hs : StRow W base g e n c xs ys false w) (off dLen dCap : Nat) (hd : a.eval d = .slice (some ⟨g, off, none⟩) dLen dCap) (A : Option Addr) (m sc : Nat) (hv : a.eval s = .slice A m sc) (hm : m = cs.length) (hle : cs.length ≤ dLen) (hne : cs ≠ [])
    {G : Nat → Prop} (hrow : Row w A G cs) (h1 : ∀ v ∈ cs, v.oneCell' = true) (hfit : off + cs.length ≤ xs.length) (hys : xs.take off ++ cs ++ xs.drop (off + cs.length) = ys) :
    o.wp P a w (fun a' w' => ∃ v, a' = a.put o.dst v ∧ w.grownBy w' (some g) ∧ StRow W base g e n c xs ys true w' ∧ IsV (goInt cs.length) w' v) Q := by
  subst hm
  obtain ⟨b, o', rfl, _, hc⟩ := hrow hne
  obtain ⟨cur, hg, hl, h2, h3⟩ := own_splice (show w.ownsRow base e 1 (.slice (some ⟨g, 0, none⟩) n c) n xs from hs.1) off cs hfit
  rw [hys] at h2
  have hrun := run_copy_row (P := P) w dT sT o.type e g off dLen dCap ⟨b, o', none⟩ cs.length sc cur e cs hu hsz hg (Nat.min_eq_left hle).symm (fun j v hv => by rw [WideShapes.add_plain]; exact hc j v hv) (by simpa using hl) h1
  clear hys
  generalize w.setRow g (cur.toList.take off ++ cs ++ cur.toList.drop (off + cs.length)).toArray = w2 at hrun h2 h3
  unfold Oper.wp
  simp [execOp, ho, resolve, invoke, builtin, hd, hv, hrun, Result.andThen]
  exact ⟨goInt cs.length, rfl, h3, hs.put h2 h3, rfl⟩
end

end Go.Proofs.YtajapklpdfikoaaDoor
