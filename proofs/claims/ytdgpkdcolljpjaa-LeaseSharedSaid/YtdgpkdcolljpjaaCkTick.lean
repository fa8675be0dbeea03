/-
  TICKS BY NUMBERS IN A NEW BLOCK, AND BY NONE (layers 16 and up).
-/
import Derived.Test.YtdgpkdcolljpjaaCkIf
namespace Go.Proofs.Ytdgpkdcolljpjaa
open Go Go.RowKit Go.Joins

/-- A row in a new block, beside a clock. -/
theorem cints_new (w : World) (l : List Int) (C : Array Value) (hC : C.toList = l.map (Value.int .i64)) : Row (w.alloc (.cells C 2)) (some ⟨w.heap.size, 0, none⟩) (fun b => b = w.heap.size) (l.map (Value.int .i64)) :=
  Row.fresh (F := fun b => b = w.heap.size) w C 2 (0, 0) _ rfl rfl _ hC
/-- Tick by numbers in a new block. -/
theorem tick_new (S : ClockOK) {W w : World} {c : Nat} {F : Nat → Prop} {n : Int} (h : S.At W w c F n) (l : List Int) (C : Array Value) (hC : C.toList = l.map (Value.int .i64)) (hl : l.length ≤ 1000) :
    Calls Try.prog 12 #[.pointer (some ⟨c, 0, none⟩), .slice (some ⟨w.heap.size, 0, none⟩) l.length l.length] (w.alloc (.cells C 2)) fun e w' => e = .returned (.int .i64 (ticks n l)) ∧ ∃ F', S.At W w' c F' (ticks n l) ∧ Kp W w' ∧ (∀ b, F' b → F b ∨ w.heap.size ≤ b) ∧ Keeps (fun b => ¬ F b) w w' := by
  have hk : Kp w (w.alloc (.cells C 2)) := (Keeps.refl _ w).alloc _
  have ha := S.atK h hk
  refine (S.tick W _ c F n _ l.length l ha ((cints_new w l C hC).mono fun b _ (hb : b = w.heap.size) hF => by have := ((S.atIn h).2.1 b hF).2; omega) (Nat.le_refl _) (by unfold maxLen; omega)).mono ?_
  rintro e w' ⟨h1, F', h2, h3, h4⟩
  exact ⟨h1, F', h2, S.past ha h4, fun b hb => (h3 b hb).imp (fun h => h) fun h => Nat.le_trans hk.size h, (hk.mono fun _ _ _ => trivial : Keeps (fun b => ¬ F b) w _).trans h4⟩
/-- Tick by none. -/
theorem tick_none (S : ClockOK) {W w : World} {c : Nat} {F : Nat → Prop} {n : Int} (h : S.At W w c F n) :
    Calls Try.prog 12 #[.pointer (some ⟨c, 0, none⟩), .slice none 0 0] w fun e w' => e = .returned (.int .i64 (tickZ n 1)) ∧ ∃ F', S.At W w' c F' (tickZ n 1) ∧ Kp W w' ∧ (∀ b, F' b → F b ∨ w.heap.size ≤ b) ∧ Keeps (fun b => ¬ F b) w w' :=
  (S.tick W w c F n none 0 [] h (Row.nil _ _ _) (Nat.le_refl _) (Nat.zero_le _)).mono fun _ _ ⟨h1, F', h2, h3, h4⟩ => ⟨h1, F', h2, S.past h h4, h3, h4⟩

theorem tick_by {n x : Int} (h0 : 0 ≤ x) (h1 : n + x ≤ 1099511627776) : tickZ n x = n + x := by
  unfold tickZ
  rw [if_neg (by omega)]

end Go.Proofs.Ytdgpkdcolljpjaa
