/-
  THE WALK OF DevAll: what the operations of its drawn regions leave; the writing calls, spelled as they come up.
-/
import Derived.Test.YtgmgojpkjchmcaaDevTwo
import Derived.Deep.RegionWith
import Derived.Outline
namespace Go.Proofs.Ytgmgojpkjchmcaa.devAll
open Go Go.RowKit Go.Joins

/-- What each operation of 'd.Write(..) != r.Write(..)' leaves. -/
def V0 (p q ob : Nat) (xi : Int) (cB : Value) (X : Int) : Nat → Value → Value → Value → Prop
  | 0 => fun _ _ v => v = .pointer (some ⟨p, 0, none⟩)
  | 1 => fun _ _ v => v = .pointer (some ⟨ob, 1, none⟩)
  | 2 => fun _ _ v => v = .int .i64 xi
  | 3 => fun _ _ v => v = .pointer (some ⟨ob, 2, none⟩)
  | 4 => fun _ _ v => v = cB
  | 6 => fun _ _ v => v = .pointer (some ⟨q, 0, none⟩)
  | 7 => fun _ _ v => v = .pointer (some ⟨ob, 1, none⟩)
  | 8 => fun _ _ v => v = .int .i64 xi
  | 9 => fun _ _ v => v = .pointer (some ⟨ob, 2, none⟩)
  | 10 => fun _ _ v => v = cB
  | 12 => fun _ _ v => v = .bool (X != X)
  | _ => fun _ _ _ => True
theorem V0_free (p q ob : Nat) (xi : Int) (cB : Value) (X : Int) (i : Nat) (va va' vb vb' v : Value) (h : V0 p q ob xi cB X i va vb v) : V0 p q ob xi cB X i va' vb' v := by
  unfold V0 at *
  split at h <;> exact h
/-- What each operation of 'c, e := d.Crash(..), r.Crash(..)' leaves. -/
def V3 (p q ob : Nat) (cK : Value) : Nat → Value → Value → Value → Prop
  | 0 => fun _ _ v => v = .pointer (some ⟨p, 0, none⟩)
  | 1 => fun _ _ v => v = .pointer (some ⟨ob, 3, none⟩)
  | 2 => fun _ _ v => v = cK
  | 4 => fun _ _ v => v = .pointer (some ⟨q, 0, none⟩)
  | 5 => fun _ _ v => v = .pointer (some ⟨ob, 3, none⟩)
  | 6 => fun _ _ v => v = cK
  | 8 => fun va _ v => v = va
  | 9 => fun _ vb v => v = vb
  | _ => fun _ _ _ => True
theorem V3_freeA (p q ob : Nat) (cK : Value) (i : Nat) (va va' vb v : Value) (hi : i ≠ 8) (h : V3 p q ob cK i va vb v) : V3 p q ob cK i va' vb v := by
  unfold V3 at *
  split at h <;> first | exact h | exact absurd rfl hi
theorem V3_freeB (p q ob : Nat) (cK : Value) (i : Nat) (va vb vb' v : Value) (hi : i ≠ 9) (h : V3 p q ob cK i va vb v) : V3 p q ob cK i va vb' v := by
  unfold V3 at *
  split at h <;> first | exact h | exact absurd rfl hi
/-- With its bytes' length spelled otherwise. -/
theorem write_at (D : DevOK) (w : World) (p : Nat) (F : Foot) (s : SDev) (h : D.rep w p F s) (i : Int) (A : Option Addr) (n c : Nat) (G : Nat → Prop) (l : List UInt8) (hn : n = l.length) (i1 : -9223372036854775808 ≤ i) (i2 : i < 9223372036854775808) (hr : Row w A G (bcells l)) (hG : ∀ b, G b → ¬ F.all b) (hc : n ≤ c) (hm : c ≤ maxLen) (hA : A = none → c = 0) (hs : s.calls ≤ 1099511627776) :
    Calls Try.prog 13 #[.pointer (some ⟨p, 0, none⟩), .int .i64 i, .slice A n c] w fun e w' => e = .returned (.int .i64 (s.writeZ i l).1) ∧ ∃ F', D.rep w' p F' (s.writeZ i l).2 ∧ Step F F' w w' := by
  subst hn; exact D.write w p F s h i A c G l i1 i2 hr hG hc hm hA hs
theorem rwrite_at (w : World) (p : Nat) (F : Foot) (s : SDev) (h : RAt w p F s) (i : Int) (A : Option Addr) (n c : Nat) (G : Nat → Prop) (l : List UInt8) (hn : n = l.length) (hr : Row w A G (bcells l)) (hl : n ≤ maxLen) (hs : s.calls ≤ 1099511627776) :
    Calls Try.prog 14 #[.pointer (some ⟨p, 0, none⟩), .int .i64 i, .slice A n c] w fun e w' => e = .returned (.int .i64 (s.writeZ i l).1) ∧ ∃ F', RAt w' p F' (s.writeZ i l).2 ∧ Step F F' w w' := by
  subst hn; exact rwrite_any w p F s h i A c G l hr hl hs
theorem crash_at (D : DevOK) (w : World) (p : Nat) (F : Foot) (s : SDev) (h : D.rep w p F s) (K : Option Addr) (n kc : Nat) (G : Nat → Prop) (keep : List Bool) (hn : n = keep.length) (hK : Row w K G (keep.map Value.bool)) (hl : n ≤ maxLen) :
    Calls Try.prog 18 #[.pointer (some ⟨p, 0, none⟩), .slice K n kc] w fun e w' => ∃ q F', e = .returned (.pointer (some ⟨q, 0, none⟩)) ∧ D.rep w' q F' (s.crash keep) ∧ (∀ b, F'.M b → w.heap.size ≤ b) ∧ (∀ b, F'.I b → F.I b ∨ w.heap.size ≤ b) ∧ Keeps (fun _ => True) w w' := by
  subst hn; exact D.crash w p F s h K kc G keep hK hl
theorem rcrash_at (w : World) (p : Nat) (F : Foot) (s : SDev) (h : RAt w p F s) (K : Option Addr) (n kc : Nat) (G : Nat → Prop) (keep : List Bool) (hn : n = keep.length) (hK : Row w K G (keep.map Value.bool)) (hl : n ≤ maxLen) :
    Calls Try.prog 19 #[.pointer (some ⟨p, 0, none⟩), .slice K n kc] w fun e w' => ∃ q F', e = .returned (.pointer (some ⟨q, 0, none⟩)) ∧ RAt w' q F' (s.crash keep) ∧ (∀ b, F'.M b → w.heap.size ≤ b) ∧ (∀ b, F'.I b → F.I b ∨ w.heap.size ≤ b) ∧ Keeps (fun _ => True) w w' := by
  subst hn; exact rcrash_any w p F s h K kc G keep hK hl
end Go.Proofs.Ytgmgojpkjchmcaa.devAll
