/-
  'begun' ANSWERS true: for every world, whatever stands in it; it lays two new blocks and turns nothing that was there.
-/
import Derived.Test.YtegglcgopddfcaaOf
import Derived.Test.YtegglcgopddfcaaInv
import Derived.Maps.AppendAt
namespace Go.Proofs.Ytegglcgopddfcaa
open Go.RowKit

/-- Of, of one text. -/
theorem of_one (s : ByteArray) (b o : Nat) (w : World) (hs : s.size ≤ maxLen) (hc : w.cell? ⟨b, o, none⟩ = some (.string s)) :
    Calls Try.prog 9 #[.slice (some ⟨b, o, none⟩) 1 1] w fun e w' => e = .returned (.int .u64 (partsZ [s])) ∧ w = w' :=
  of_any [s] b o 1 w (show 1 ≤ maxLen by decide) (by intro x hx; simp at hx; rw [hx]; exact hs)
    (fun i hi => by have hi0 : i = 0 := by simpa using hi
                    subst hi0; exact hc)
theorem rof_one (s : ByteArray) (b o : Nat) (w : World) (hs : s.size ≤ maxLen) (hc : w.cell? ⟨b, o, none⟩ = some (.string s)) :
    Calls Try.prog 10 #[.slice (some ⟨b, o, none⟩) 1 1] w fun e w' => e = .returned (.int .u64 (partsZ [s])) ∧ w = w' :=
  rof_any [s] b o 1 w (show 1 ≤ maxLen by decide) (by intro x hx; simp at hx; rw [hx]; exact hs)
    (fun i hi => by have hi0 : i = 0 := by simpa using hi
                    subst hi0; exact hc)

theorem cell_new (w : World) (x : Value) (t : TypeId) (b : Nat) (hb : b = w.heap.size) : (w.alloc (.cells #[x] t)).cell? ⟨b, 0, none⟩ = some x := by
  subst hb
  exact cell_one_new w x t 0 x rfl
theorem of_empty (b : Nat) (w : World) (hc : w.cell? ⟨b, 0, none⟩ = some (.string { data := #[] })) :
    Calls Try.prog 9 #[.slice (some { block := b, off := 0 }) 1 1] w fun e w' => e = .returned (.int .u64 (partsZ [{ data := #[] }])) ∧ w = w' :=
  of_one { data := #[] } b 0 w (by decide) hc
theorem rof_empty (b : Nat) (w : World) (hc : w.cell? ⟨b, 0, none⟩ = some (.string { data := #[] })) :
    Calls Try.prog 10 #[.slice (some { block := b, off := 0 }) 1 1] w fun e w' => e = .returned (.int .u64 (partsZ [{ data := #[] }])) ∧ w = w' :=
  rof_one { data := #[] } b 0 w (by decide) hc
theorem stZ_zero : stZ 0 = 0 := by decide
theorem stir_0 (w : World) : Calls Try.prog 11 #[.int .u64 0] w fun e w' => e = .returned (.int .u64 0) ∧ w = w' := by
  have h := stir_any 0 (by decide) (by decide) w
  rw [stZ_zero] at h
  exact h
theorem of_nil0 (w : World) : Calls Try.prog 9 #[.slice none 0 0] w fun e w' => e = .returned (.int .u64 11400714819323198485) ∧ w = w' := by
  have h := of_nil w
  have e : partsZ [] = 11400714819323198485 := rfl
  rw [e] at h
  exact h
theorem point_10 (w : World) : Calls Try.prog 13 #[.int .i64 1, .int .i64 0] w fun e w' => e = .returned (.int .u64 (stZ 1000003)) ∧ w = w' := by
  have h := point_any 1 0 w
  have e : IntKind.u64.wrap (wrap64 (wrap64 (1 * 1000003) + 0)) = 1000003 := by decide +kernel
  rw [e] at h
  exact h

theorem begun_any (w : World) : Calls Try.prog 7 #[] w fun e w' => e = .returned (.bool true) ∧ Adds w w' := by
  go_enter Try.func7, Try.ntmps7
  go_wp2_with (first
    | (go_at_call 9; ((with_reducible refine (of_nil0 _).mono ?_); rintro e w' ⟨rfl, rfl⟩))
    | (go_at_call 9; ((with_reducible refine (of_empty _ _ (cell_new _ _ _ _ ?_)).mono ?_); (focus simp); rintro e w' ⟨rfl, rfl⟩))
    | (go_at_call 10; ((with_reducible refine (rof_empty _ _ (cell_new _ _ _ _ ?_)).mono ?_); (focus simp); rintro e w' ⟨rfl, rfl⟩))
    | (go_at_call 11; ((with_reducible refine (stir_0 _).mono ?_); rintro e w' ⟨rfl, rfl⟩))
    | (go_at_call 13; ((with_reducible refine (point_10 _).mono ?_); rintro e w' ⟨rfl, rfl⟩))
    | (go_at_call 12; ((with_reducible refine (rstir_any 1000003 (by decide) (by decide) _).mono ?_); rintro e w' ⟨rfl, rfl⟩)))
  go_ret
  exact ⟨rfl, ((Adds.refl w).alloc _ _).alloc _ _⟩

end Go.Proofs.Ytegglcgopddfcaa
