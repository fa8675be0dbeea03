/-
  THE OPERATIONS THAT STAND IN THE DRAWN REGIONS OF LAYER 9's LAWS, each by itself.
-/
import Derived.Test.YtoepgbpmcjnbmaaGreatDoorFlashName
import Derived.IntWalk
namespace Go.Proofs.YtoepgbpmcjnbmaaGreatDoor
open Go Go.RowKit
section
variable {o : Oper} {a : Act} {w : World} {Q : Exit → Act → World → Prop} {x y : Operand}
theorem kp_name {i : Nat} (hi : i ≤ 1000) (ho : o.op = .call { callee := .value (.func 29), args := #[x], argTypes := #[3] }) (hx : a.eval x = .int .i64 (i : Int)) :
    o.wp Tryz.prog a w (fun a' w' => ∃ v, a' = a.put o.dst v ∧ Kp w w' ∧ IsV (.string (fname i)) w' v) Q := by
  have hf : a.eval (.func 29) = .func (.func 29) #[] #[] := rfl
  refine kp_enter (f := 29) (args := #[.int .i64 (i : Int)]) ?_ (fname_any w i hi _ rfl) ?_
  · generalize a.eval = ρ at hx hf ⊢
    unfold execOp
    rw [ho]
    go_simp
  · rintro e w' ⟨rfl, hk⟩
    exact ⟨_, rfl, hk, rfl⟩
theorem kp_field {b n : Nat} (ho : o.op = .fieldAddr 35 x n) (hn : n = 1) (hx : a.eval x = .pointer (some ⟨b, 0, none⟩)) :
    o.wp Tryz.prog a w (fun a' w' => ∃ v, a' = a.put o.dst v ∧ Kp w w' ∧ IsV (.pointer (some ⟨b, 1, none⟩)) w' v) Q := by
  subst hn
  refine kp_yield (v := .pointer (some ⟨b, 1, none⟩)) (w' := w) ?_ (Keeps.refl _ _) rfl
  generalize a.eval = ρ at hx ⊢
  unfold execOp
  go_simp
theorem kp_loadT {p : Addr} {s : ByteArray} (hc : w.cell? p = some (.string s)) (ho : o.op = .load 9 x) (hx : a.eval x = .pointer (some p)) :
    o.wp Tryz.prog a w (fun a' w' => ∃ v, a' = a.put o.dst v ∧ Kp w w' ∧ IsV (.string s) w' v) Q := by
  refine kp_yield (v := .string s) (w' := w) ?_ (Keeps.refl _ _) rfl
  generalize a.eval = ρ at hx ⊢
  unfold execOp
  go_simp
theorem kp_one1 {m : Nat} (h : m ≤ 1000000) (ho : o.op = .binOp .add 3 x y 3) (hx : a.eval x = .int .i64 (m : Int)) (hy : a.eval y = .int .i64 1) : o.wp Tryz.prog a w (fun a' w' => ∃ v, a' = a.put o.dst v ∧ Kp w w' ∧ IsV (.int .i64 ((m + 1 : Nat) : Int)) w' v) Q := by
  have h1 : ((m + 1 : Nat) : Int) = (m : Int) + 1 := by omega
  rw [h1]
  refine kp_yield (v := .int .i64 ((m : Int) + 1)) (w' := w) ?_ (Keeps.refl _ _) rfl
  have h2 : (m : Int) + 1 ≤ 1000001 := by omega
  have h3 : (0 : Int) ≤ (m : Int) := by omega
  clear h1
  generalize (m : Int) = M at *
  generalize a.eval = ρ at hx hy ⊢
  unfold execOp
  rw [ho]
  go_simp
  exact IntWalk.i64_in _ (by omega)
theorem kp_neT {s : ByteArray} (ho : o.op = .binOp .neq 9 x y 9) (hx : a.eval x = .string s) (hy : a.eval y = .string s) : o.wp Tryz.prog a w (fun a' w' => ∃ v, a' = a.put o.dst v ∧ Kp w w' ∧ IsV (.bool false) w' v) Q := by
  refine kp_yield (v := .bool false) (w' := w) ?_ (Keeps.refl _ _) rfl
  generalize a.eval = ρ at hx hy ⊢
  unfold execOp
  rw [ho]
  go_simp
theorem kp_notB {b : Bool} (ho : o.op = .unOp .not 4 x) (hx : a.eval x = .bool b) : o.wp Tryz.prog a w (fun a' w' => ∃ v, a' = a.put o.dst v ∧ Kp w w' ∧ IsV (.bool (!b)) w' v) Q := by
  refine kp_yield (v := .bool (!b)) (w' := w) ?_ (Keeps.refl _ _) rfl
  generalize a.eval = ρ at hx ⊢
  unfold execOp
  rw [ho]
  go_simp
end
def Vs (l : List Value) : Nat → World → Value → Prop := fun i => IsV (l.getD i undef)
theorem Vs_keep (l : List Value) (i : Nat) (w w' : World) (v : Value) (_ : Kp w w') (h : Vs l i w v) : Vs l i w' v := h
end Go.Proofs.YtoepgbpmcjnbmaaGreatDoor
