/-
  THE PROGRAM's DEVICE keeps all that layer 4 asks of one.
-/
import Derived.Test.YtgmgojpkjchmcaaMadeCrash
import Derived.Test.YtgmgojpkjchmcaaFrame
namespace Go.Proofs.Ytgmgojpkjchmcaa
open Go Go.RowKit Go.Joins Go.Maps

theorem dwrite_any (w : World) (p : Nat) (F : Foot) (s : SDev) (h : DAt w p F s) (i : Int) (A : Option Addr) (c : Nat) (G : Nat → Prop) (l : List UInt8) (hr : Row w A G (bcells l)) (hG : ∀ b, G b → ¬ F.all b) (hl : l.length ≤ maxLen) (hcalls : s.calls ≤ 1099511627776) :
    Calls Try.prog 13 #[.pointer (some ⟨p, 0, none⟩), .int .i64 i, .slice A l.length c] w fun e w' => e = .returned (.int .i64 (s.writeZ i l).1) ∧ ∃ F', DAt w' p F' (s.writeZ i l).2 ∧ Step F F' w w' := by
  unfold SDev.writeZ
  by_cases h1 : i < 0 ∨ (s.now.length : Int) ≤ i
  · rw [if_pos h1]
    refine (dwrite_no w p F s h i A c l.length 4 hl (.inl ⟨h1, rfl⟩)).mono ?_
    rintro e w' ⟨rfl, rfl⟩
    exact ⟨rfl, F, h, Step.refl _ _⟩
  · rw [if_neg h1]
    by_cases h2 : 64 < l.length
    · rw [if_pos h2]
      refine (dwrite_no w p F s h i A c l.length 1 hl (.inr ⟨h1, h2, rfl⟩)).mono ?_
      rintro e w' ⟨rfl, rfl⟩
      exact ⟨rfl, F, h, Step.refl _ _⟩
    · rw [if_neg h2]
      obtain ⟨k, rfl⟩ : ∃ k : Nat, i = (k : Int) := ⟨i.toNat, by omega⟩
      exact dwrite_yes w p F s h k A c G l hr hG (by omega) (by omega) hcalls

def theDev : DevOK := {
  rep := DAt
  ok := fun h => h.ok
  lt := fun h => h.lt
  two := fun h => h.two
  keep := fun h hk => h.keep hk
  new := dnew_any
  write := fun w p F s h i A c G l _ _ hr hG hlc hc _ hcalls => dwrite_any w p F s h i A c G l hr hG (Nat.le_trans hlc hc) hcalls
  flush := dflush_any
  read := dread_any
  len := dlen_any
  calls := dcalls_any
  loose := dloose_any
  crash := dcrash_any }

theorem theNil : NilOK := {
  read := fun w => dread_nil w 0
  len := dlen_nil
  write := fun w => dwrite_nil w 0 none 0 0
  flush := dflush_nil
  loose := dloose_nil
  calls := dcalls_nil
  crash := fun w b _ => dcrash_nil w _ }

theorem own : ownKnob Try.prog.godebug = none := by kernel_rfl
set_option maxRecDepth 100000 in
theorem laidOut : laidOutB Try.prog = true := by kernel_rfl

end Go.Proofs.Ytgmgojpkjchmcaa
