/-
  SINGLE OPERATIONS ON A MESSAGE'S FIELDS (layer 19).
-/
import Derived.Test.YtpijhpfcigjkeaaDoorMsLocs
import Derived.Test.YtpijhpfcigjkeaaDoorAllInvs
namespace Go.Proofs.YtpijhpfcigjkeaaDoor
open Go Go.RowKit Go.Joins
section
variable {o : Oper} {a : Act} {w : World} {Q : Exit → Act → World → Prop} {x y : Operand}
theorem kp_f19_0 {b : Nat} (ho : o.op = .fieldAddr 36 x 0) (hx : a.eval x = .pointer (some ⟨b, 0, none⟩)) : o.wp Tryd.prog a w (fun a' w' => ∃ v, a' = a.put o.dst v ∧ Kp w w' ∧ IsV (.pointer (some ⟨b, 0, none⟩)) w' v) Q := by
  refine kp_yield (v := .pointer (some ⟨b, 0, none⟩)) (w' := w) ?_ (Keeps.refl _ _) rfl
  generalize a.eval = ρ at hx ⊢
  unfold execOp
  rw [ho]
  go_simp
theorem kp_f19_1 {b : Nat} (ho : o.op = .fieldAddr 36 x 1) (hx : a.eval x = .pointer (some ⟨b, 0, none⟩)) : o.wp Tryd.prog a w (fun a' w' => ∃ v, a' = a.put o.dst v ∧ Kp w w' ∧ IsV (.pointer (some ⟨b, 1, none⟩)) w' v) Q := by
  refine kp_yield (v := .pointer (some ⟨b, 1, none⟩)) (w' := w) ?_ (Keeps.refl _ _) rfl
  generalize a.eval = ρ at hx ⊢
  unfold execOp
  rw [ho]
  go_simp
theorem kp_f19_2 {b : Nat} (ho : o.op = .fieldAddr 36 x 2) (hx : a.eval x = .pointer (some ⟨b, 0, none⟩)) : o.wp Tryd.prog a w (fun a' w' => ∃ v, a' = a.put o.dst v ∧ Kp w w' ∧ IsV (.pointer (some ⟨b, 2, none⟩)) w' v) Q := by
  refine kp_yield (v := .pointer (some ⟨b, 2, none⟩)) (w' := w) ?_ (Keeps.refl _ _) rfl
  generalize a.eval = ρ at hx ⊢
  unfold execOp
  rw [ho]
  go_simp
theorem kp_f19_3 {b : Nat} (ho : o.op = .fieldAddr 36 x 3) (hx : a.eval x = .pointer (some ⟨b, 0, none⟩)) : o.wp Tryd.prog a w (fun a' w' => ∃ v, a' = a.put o.dst v ∧ Kp w w' ∧ IsV (.pointer (some ⟨b, 3, none⟩)) w' v) Q := by
  refine kp_yield (v := .pointer (some ⟨b, 3, none⟩)) (w' := w) ?_ (Keeps.refl _ _) rfl
  generalize a.eval = ρ at hx ⊢
  unfold execOp
  rw [ho]
  go_simp
theorem kp_f19_4 {b : Nat} (ho : o.op = .fieldAddr 36 x 4) (hx : a.eval x = .pointer (some ⟨b, 0, none⟩)) : o.wp Tryd.prog a w (fun a' w' => ∃ v, a' = a.put o.dst v ∧ Kp w w' ∧ IsV (.pointer (some ⟨b, 4, none⟩)) w' v) Q := by
  refine kp_yield (v := .pointer (some ⟨b, 4, none⟩)) (w' := w) ?_ (Keeps.refl _ _) rfl
  generalize a.eval = ρ at hx ⊢
  unfold execOp
  rw [ho]
  go_simp
theorem kp_f19_5 {b : Nat} (ho : o.op = .fieldAddr 36 x 5) (hx : a.eval x = .pointer (some ⟨b, 0, none⟩)) : o.wp Tryd.prog a w (fun a' w' => ∃ v, a' = a.put o.dst v ∧ Kp w w' ∧ IsV (.pointer (some ⟨b, 5, none⟩)) w' v) Q := by
  refine kp_yield (v := .pointer (some ⟨b, 5, none⟩)) (w' := w) ?_ (Keeps.refl _ _) rfl
  generalize a.eval = ρ at hx ⊢
  unfold execOp
  rw [ho]
  go_simp
theorem kp_f19_6 {b : Nat} (ho : o.op = .fieldAddr 36 x 6) (hx : a.eval x = .pointer (some ⟨b, 0, none⟩)) : o.wp Tryd.prog a w (fun a' w' => ∃ v, a' = a.put o.dst v ∧ Kp w w' ∧ IsV (.pointer (some ⟨b, 6, none⟩)) w' v) Q := by
  refine kp_yield (v := .pointer (some ⟨b, 6, none⟩)) (w' := w) ?_ (Keeps.refl _ _) rfl
  generalize a.eval = ρ at hx ⊢
  unfold execOp
  rw [ho]
  go_simp
theorem kp_f19_7 {b : Nat} (ho : o.op = .fieldAddr 36 x 7) (hx : a.eval x = .pointer (some ⟨b, 0, none⟩)) : o.wp Tryd.prog a w (fun a' w' => ∃ v, a' = a.put o.dst v ∧ Kp w w' ∧ IsV (.pointer (some ⟨b, 7, none⟩)) w' v) Q := by
  refine kp_yield (v := .pointer (some ⟨b, 7, none⟩)) (w' := w) ?_ (Keeps.refl _ _) rfl
  generalize a.eval = ρ at hx ⊢
  unfold execOp
  rw [ho]
  go_simp
theorem kp_f19_8 {b : Nat} (ho : o.op = .fieldAddr 36 x 8) (hx : a.eval x = .pointer (some ⟨b, 0, none⟩)) : o.wp Tryd.prog a w (fun a' w' => ∃ v, a' = a.put o.dst v ∧ Kp w w' ∧ IsV (.pointer (some ⟨b, 8, none⟩)) w' v) Q := by
  refine kp_yield (v := .pointer (some ⟨b, 8, none⟩)) (w' := w) ?_ (Keeps.refl _ _) rfl
  generalize a.eval = ρ at hx ⊢
  unfold execOp
  rw [ho]
  go_simp
theorem kp_f19_9 {b : Nat} (ho : o.op = .fieldAddr 36 x 9) (hx : a.eval x = .pointer (some ⟨b, 0, none⟩)) : o.wp Tryd.prog a w (fun a' w' => ∃ v, a' = a.put o.dst v ∧ Kp w w' ∧ IsV (.pointer (some ⟨b, 9, none⟩)) w' v) Q := by
  refine kp_yield (v := .pointer (some ⟨b, 9, none⟩)) (w' := w) ?_ (Keeps.refl _ _) rfl
  generalize a.eval = ρ at hx ⊢
  unfold execOp
  rw [ho]
  go_simp
theorem kp_f19_10 {b : Nat} (ho : o.op = .fieldAddr 36 x 10) (hx : a.eval x = .pointer (some ⟨b, 0, none⟩)) : o.wp Tryd.prog a w (fun a' w' => ∃ v, a' = a.put o.dst v ∧ Kp w w' ∧ IsV (.pointer (some ⟨b, 10, none⟩)) w' v) Q := by
  refine kp_yield (v := .pointer (some ⟨b, 10, none⟩)) (w' := w) ?_ (Keeps.refl _ _) rfl
  generalize a.eval = ρ at hx ⊢
  unfold execOp
  rw [ho]
  go_simp
theorem kp_f19_11 {b : Nat} (ho : o.op = .fieldAddr 36 x 11) (hx : a.eval x = .pointer (some ⟨b, 0, none⟩)) : o.wp Tryd.prog a w (fun a' w' => ∃ v, a' = a.put o.dst v ∧ Kp w w' ∧ IsV (.pointer (some ⟨b, 11, none⟩)) w' v) Q := by
  refine kp_yield (v := .pointer (some ⟨b, 11, none⟩)) (w' := w) ?_ (Keeps.refl _ _) rfl
  generalize a.eval = ρ at hx ⊢
  unfold execOp
  rw [ho]
  go_simp
theorem kp_f19_12 {b : Nat} (ho : o.op = .fieldAddr 36 x 12) (hx : a.eval x = .pointer (some ⟨b, 0, none⟩)) : o.wp Tryd.prog a w (fun a' w' => ∃ v, a' = a.put o.dst v ∧ Kp w w' ∧ IsV (.pointer (some ⟨b, 12, none⟩)) w' v) Q := by
  refine kp_yield (v := .pointer (some ⟨b, 12, none⟩)) (w' := w) ?_ (Keeps.refl _ _) rfl
  generalize a.eval = ρ at hx ⊢
  unfold execOp
  rw [ho]
  go_simp
theorem kp_f19_13 {b : Nat} (ho : o.op = .fieldAddr 36 x 13) (hx : a.eval x = .pointer (some ⟨b, 0, none⟩)) : o.wp Tryd.prog a w (fun a' w' => ∃ v, a' = a.put o.dst v ∧ Kp w w' ∧ IsV (.pointer (some ⟨b, 16, none⟩)) w' v) Q := by
  refine kp_yield (v := .pointer (some ⟨b, 16, none⟩)) (w' := w) ?_ (Keeps.refl _ _) rfl
  generalize a.eval = ρ at hx ⊢
  unfold execOp
  rw [ho]
  go_simp
theorem kp_f19_14 {b : Nat} (ho : o.op = .fieldAddr 36 x 14) (hx : a.eval x = .pointer (some ⟨b, 0, none⟩)) : o.wp Tryd.prog a w (fun a' w' => ∃ v, a' = a.put o.dst v ∧ Kp w w' ∧ IsV (.pointer (some ⟨b, 17, none⟩)) w' v) Q := by
  refine kp_yield (v := .pointer (some ⟨b, 17, none⟩)) (w' := w) ?_ (Keeps.refl _ _) rfl
  generalize a.eval = ρ at hx ⊢
  unfold execOp
  rw [ho]
  go_simp
theorem kp_f19_15 {b : Nat} (ho : o.op = .fieldAddr 36 x 15) (hx : a.eval x = .pointer (some ⟨b, 0, none⟩)) : o.wp Tryd.prog a w (fun a' w' => ∃ v, a' = a.put o.dst v ∧ Kp w w' ∧ IsV (.pointer (some ⟨b, 18, none⟩)) w' v) Q := by
  refine kp_yield (v := .pointer (some ⟨b, 18, none⟩)) (w' := w) ?_ (Keeps.refl _ _) rfl
  generalize a.eval = ρ at hx ⊢
  unfold execOp
  rw [ho]
  go_simp
theorem kp_f19_16 {b : Nat} (ho : o.op = .fieldAddr 36 x 16) (hx : a.eval x = .pointer (some ⟨b, 0, none⟩)) : o.wp Tryd.prog a w (fun a' w' => ∃ v, a' = a.put o.dst v ∧ Kp w w' ∧ IsV (.pointer (some ⟨b, 19, none⟩)) w' v) Q := by
  refine kp_yield (v := .pointer (some ⟨b, 19, none⟩)) (w' := w) ?_ (Keeps.refl _ _) rfl
  generalize a.eval = ρ at hx ⊢
  unfold execOp
  rw [ho]
  go_simp
theorem kp_f19_17 {b : Nat} (ho : o.op = .fieldAddr 36 x 17) (hx : a.eval x = .pointer (some ⟨b, 0, none⟩)) : o.wp Tryd.prog a w (fun a' w' => ∃ v, a' = a.put o.dst v ∧ Kp w w' ∧ IsV (.pointer (some ⟨b, 20, none⟩)) w' v) Q := by
  refine kp_yield (v := .pointer (some ⟨b, 20, none⟩)) (w' := w) ?_ (Keeps.refl _ _) rfl
  generalize a.eval = ρ at hx ⊢
  unfold execOp
  rw [ho]
  go_simp
theorem kp_ld19I {p : Addr} {n : Int} (hc : w.cell? p = some (.int .i64 n)) (ho : o.op = .load 3 x) (hx : a.eval x = .pointer (some p)) : o.wp Tryd.prog a w (fun a' w' => ∃ v, a' = a.put o.dst v ∧ Kp w w' ∧ IsV (.int .i64 n) w' v) Q := by
  refine kp_yield (v := .int .i64 n) (w' := w) ?_ (Keeps.refl _ _) rfl
  generalize a.eval = ρ at hx ⊢
  unfold execOp
  rw [ho]
  go_simp
theorem kp_ne19I {m n : Int} (ho : o.op = .binOp .neq 3 x y 3) (hx : a.eval x = .int .i64 m) (hy : a.eval y = .int .i64 n) : o.wp Tryd.prog a w (fun a' w' => ∃ v, a' = a.put o.dst v ∧ Kp w w' ∧ IsV (.bool (m != n)) w' v) Q := by
  refine kp_yield (v := .bool (m != n)) (w' := w) ?_ (Keeps.refl _ _) rfl
  generalize a.eval = ρ at hx hy ⊢
  unfold execOp
  rw [ho]
  go_simp
theorem kp_ld19L {p : Addr} {n : Int} (hc : w.cell? p = some (.int .i64 n)) (ho : o.op = .load 2 x) (hx : a.eval x = .pointer (some p)) : o.wp Tryd.prog a w (fun a' w' => ∃ v, a' = a.put o.dst v ∧ Kp w w' ∧ IsV (.int .i64 n) w' v) Q := by
  refine kp_yield (v := .int .i64 n) (w' := w) ?_ (Keeps.refl _ _) rfl
  generalize a.eval = ρ at hx ⊢
  unfold execOp
  rw [ho]
  go_simp
theorem kp_ne19L {m n : Int} (ho : o.op = .binOp .neq 2 x y 2) (hx : a.eval x = .int .i64 m) (hy : a.eval y = .int .i64 n) : o.wp Tryd.prog a w (fun a' w' => ∃ v, a' = a.put o.dst v ∧ Kp w w' ∧ IsV (.bool (m != n)) w' v) Q := by
  refine kp_yield (v := .bool (m != n)) (w' := w) ?_ (Keeps.refl _ _) rfl
  generalize a.eval = ρ at hx hy ⊢
  unfold execOp
  rw [ho]
  go_simp
theorem kp_ld19E {p : Addr} {n : Int} (hc : w.cell? p = some (.int .i64 n)) (ho : o.op = .load 29 x) (hx : a.eval x = .pointer (some p)) : o.wp Tryd.prog a w (fun a' w' => ∃ v, a' = a.put o.dst v ∧ Kp w w' ∧ IsV (.int .i64 n) w' v) Q := by
  refine kp_yield (v := .int .i64 n) (w' := w) ?_ (Keeps.refl _ _) rfl
  generalize a.eval = ρ at hx ⊢
  unfold execOp
  rw [ho]
  go_simp
theorem kp_ne19E {m n : Int} (ho : o.op = .binOp .neq 29 x y 29) (hx : a.eval x = .int .i64 m) (hy : a.eval y = .int .i64 n) : o.wp Tryd.prog a w (fun a' w' => ∃ v, a' = a.put o.dst v ∧ Kp w w' ∧ IsV (.bool (m != n)) w' v) Q := by
  refine kp_yield (v := .bool (m != n)) (w' := w) ?_ (Keeps.refl _ _) rfl
  generalize a.eval = ρ at hx hy ⊢
  unfold execOp
  rw [ho]
  go_simp
theorem kp_ld19B {p : Addr} {n : Bool} (hc : w.cell? p = some (.bool n)) (ho : o.op = .load 4 x) (hx : a.eval x = .pointer (some p)) : o.wp Tryd.prog a w (fun a' w' => ∃ v, a' = a.put o.dst v ∧ Kp w w' ∧ IsV (.bool n) w' v) Q := by
  refine kp_yield (v := .bool n) (w' := w) ?_ (Keeps.refl _ _) rfl
  generalize a.eval = ρ at hx ⊢
  unfold execOp
  rw [ho]
  go_simp
theorem kp_ne19B {m n : Bool} (ho : o.op = .binOp .neq 4 x y 4) (hx : a.eval x = .bool m) (hy : a.eval y = .bool n) : o.wp Tryd.prog a w (fun a' w' => ∃ v, a' = a.put o.dst v ∧ Kp w w' ∧ IsV (.bool (m != n)) w' v) Q := by
  refine kp_yield (v := .bool (m != n)) (w' := w) ?_ (Keeps.refl _ _) rfl
  generalize a.eval = ρ at hx hy ⊢
  unfold execOp
  rw [ho]
  go_simp
  cases m <;> cases n <;> rfl
theorem kp_ld19T {p : Addr} {n : ByteArray} (hc : w.cell? p = some (.string n)) (ho : o.op = .load 9 x) (hx : a.eval x = .pointer (some p)) : o.wp Tryd.prog a w (fun a' w' => ∃ v, a' = a.put o.dst v ∧ Kp w w' ∧ IsV (.string n) w' v) Q := by
  refine kp_yield (v := .string n) (w' := w) ?_ (Keeps.refl _ _) rfl
  generalize a.eval = ρ at hx ⊢
  unfold execOp
  rw [ho]
  go_simp
theorem kp_ne19T {m n : ByteArray} (ho : o.op = .binOp .neq 9 x y 9) (hx : a.eval x = .string m) (hy : a.eval y = .string n) : o.wp Tryd.prog a w (fun a' w' => ∃ v, a' = a.put o.dst v ∧ Kp w w' ∧ IsV (.bool (!(m.toList == n.toList))) w' v) Q := by
  refine kp_yield (v := .bool (!(m.toList == n.toList))) (w' := w) ?_ (Keeps.refl _ _) rfl
  generalize a.eval = ρ at hx hy ⊢
  unfold execOp
  rw [ho]
  go_simp
theorem kp_lt19I {m n : Int} (ho : o.op = .binOp .lss 3 x y 3) (hx : a.eval x = .int .i64 m) (hy : a.eval y = .int .i64 n) : o.wp Tryd.prog a w (fun a' w' => ∃ v, a' = a.put o.dst v ∧ Kp w w' ∧ IsV (.bool (decide (m < n))) w' v) Q := by
  refine kp_yield (v := .bool (decide (m < n))) (w' := w) ?_ (Keeps.refl _ _) rfl
  generalize a.eval = ρ at hx hy ⊢
  unfold execOp
  rw [ho]
  go_simp
theorem kp_gt19I {m n : Int} (ho : o.op = .binOp .gtr 3 x y 3) (hx : a.eval x = .int .i64 m) (hy : a.eval y = .int .i64 n) : o.wp Tryd.prog a w (fun a' w' => ∃ v, a' = a.put o.dst v ∧ Kp w w' ∧ IsV (.bool (decide (n < m))) w' v) Q := by
  refine kp_yield (v := .bool (decide (n < m))) (w' := w) ?_ (Keeps.refl _ _) rfl
  generalize a.eval = ρ at hx hy ⊢
  unfold execOp
  rw [ho]
  go_simp
theorem kp_lt19L {m n : Int} (ho : o.op = .binOp .lss 2 x y 2) (hx : a.eval x = .int .i64 m) (hy : a.eval y = .int .i64 n) : o.wp Tryd.prog a w (fun a' w' => ∃ v, a' = a.put o.dst v ∧ Kp w w' ∧ IsV (.bool (decide (m < n))) w' v) Q := by
  refine kp_yield (v := .bool (decide (m < n))) (w' := w) ?_ (Keeps.refl _ _) rfl
  generalize a.eval = ρ at hx hy ⊢
  unfold execOp
  rw [ho]
  go_simp
theorem kp_gt19L {m n : Int} (ho : o.op = .binOp .gtr 2 x y 2) (hx : a.eval x = .int .i64 m) (hy : a.eval y = .int .i64 n) : o.wp Tryd.prog a w (fun a' w' => ∃ v, a' = a.put o.dst v ∧ Kp w w' ∧ IsV (.bool (decide (n < m))) w' v) Q := by
  refine kp_yield (v := .bool (decide (n < m))) (w' := w) ?_ (Keeps.refl _ _) rfl
  generalize a.eval = ρ at hx hy ⊢
  unfold execOp
  rw [ho]
  go_simp
theorem kp_lt19E {m n : Int} (ho : o.op = .binOp .lss 29 x y 29) (hx : a.eval x = .int .i64 m) (hy : a.eval y = .int .i64 n) : o.wp Tryd.prog a w (fun a' w' => ∃ v, a' = a.put o.dst v ∧ Kp w w' ∧ IsV (.bool (decide (m < n))) w' v) Q := by
  refine kp_yield (v := .bool (decide (m < n))) (w' := w) ?_ (Keeps.refl _ _) rfl
  generalize a.eval = ρ at hx hy ⊢
  unfold execOp
  rw [ho]
  go_simp
theorem kp_gt19E {m n : Int} (ho : o.op = .binOp .gtr 29 x y 29) (hx : a.eval x = .int .i64 m) (hy : a.eval y = .int .i64 n) : o.wp Tryd.prog a w (fun a' w' => ∃ v, a' = a.put o.dst v ∧ Kp w w' ∧ IsV (.bool (decide (n < m))) w' v) Q := by
  refine kp_yield (v := .bool (decide (n < m))) (w' := w) ?_ (Keeps.refl _ _) rfl
  generalize a.eval = ρ at hx hy ⊢
  unfold execOp
  rw [ho]
  go_simp
theorem kp_le19L {m n : Int} (ho : o.op = .binOp .leq 2 x y 2) (hx : a.eval x = .int .i64 m) (hy : a.eval y = .int .i64 n) : o.wp Tryd.prog a w (fun a' w' => ∃ v, a' = a.put o.dst v ∧ Kp w w' ∧ IsV (.bool (decide (m ≤ n))) w' v) Q := by
  refine kp_yield (v := .bool (decide (m ≤ n))) (w' := w) ?_ (Keeps.refl _ _) rfl
  generalize a.eval = ρ at hx hy ⊢
  unfold execOp
  rw [ho]
  go_simp
theorem kp_eq19I {m n : Int} (ho : o.op = .binOp .eql 3 x y 3) (hx : a.eval x = .int .i64 m) (hy : a.eval y = .int .i64 n) : o.wp Tryd.prog a w (fun a' w' => ∃ v, a' = a.put o.dst v ∧ Kp w w' ∧ IsV (.bool (m == n)) w' v) Q := by
  refine kp_yield (v := .bool (m == n)) (w' := w) ?_ (Keeps.refl _ _) rfl
  generalize a.eval = ρ at hx hy ⊢
  unfold execOp
  rw [ho]
  go_simp
theorem kp_not19 {b : Bool} (ho : o.op = .unOp .not 4 x) (hx : a.eval x = .bool b) : o.wp Tryd.prog a w (fun a' w' => ∃ v, a' = a.put o.dst v ∧ Kp w w' ∧ IsV (.bool (!b)) w' v) Q := by
  refine kp_yield (v := .bool (!b)) (w' := w) ?_ (Keeps.refl _ _) rfl
  generalize a.eval = ρ at hx ⊢
  unfold execOp
  rw [ho]
  go_simp
theorem kp_len19T {s : ByteArray} (ho : o.op = .call { callee := .builtin .len, args := #[x], argTypes := #[9] }) (hx : a.eval x = .string s) : o.wp Tryd.prog a w (fun a' w' => ∃ v, a' = a.put o.dst v ∧ Kp w w' ∧ IsV (.int .i64 (s.size : Int)) w' v) Q := by
  refine kp_yield (v := .int .i64 (s.size : Int)) (w' := w) ?_ (Keeps.refl _ _) rfl
  generalize a.eval = ρ at hx ⊢
  unfold execOp
  rw [ho]
  go_simp
theorem kp_len19S {A : Option Addr} {n c : Nat} (ho : o.op = .call { callee := .builtin .len, args := #[x], argTypes := #[32] }) (hx : a.eval x = .slice A n c) : o.wp Tryd.prog a w (fun a' w' => ∃ v, a' = a.put o.dst v ∧ Kp w w' ∧ IsV (.int .i64 (n : Int)) w' v) Q := by
  refine kp_yield (v := .int .i64 (n : Int)) (w' := w) ?_ (Keeps.refl _ _) rfl
  generalize a.eval = ρ at hx ⊢
  unfold execOp
  rw [ho]
  go_simp
theorem kp_ld19S {p : Addr} {A : Option Addr} {n c : Nat} (hc : w.cell? p = some (.slice A n c)) (ho : o.op = .load 32 x) (hx : a.eval x = .pointer (some p)) : o.wp Tryd.prog a w (fun a' w' => ∃ v, a' = a.put o.dst v ∧ Kp w w' ∧ IsV (.slice A n c) w' v) Q := by
  refine kp_yield (v := .slice A n c) (w' := w) ?_ (Keeps.refl _ _) rfl
  generalize a.eval = ρ at hx ⊢
  unfold execOp
  rw [ho]
  go_simp
theorem kp_len19K {A : Option Addr} {n c : Nat} (ho : o.op = .call { callee := .builtin .len, args := #[x], argTypes := #[33] }) (hx : a.eval x = .slice A n c) : o.wp Tryd.prog a w (fun a' w' => ∃ v, a' = a.put o.dst v ∧ Kp w w' ∧ IsV (.int .i64 (n : Int)) w' v) Q := by
  refine kp_yield (v := .int .i64 (n : Int)) (w' := w) ?_ (Keeps.refl _ _) rfl
  generalize a.eval = ρ at hx ⊢
  unfold execOp
  rw [ho]
  go_simp
theorem kp_ld19K {p : Addr} {A : Option Addr} {n c : Nat} (hc : w.cell? p = some (.slice A n c)) (ho : o.op = .load 33 x) (hx : a.eval x = .pointer (some p)) : o.wp Tryd.prog a w (fun a' w' => ∃ v, a' = a.put o.dst v ∧ Kp w w' ∧ IsV (.slice A n c) w' v) Q := by
  refine kp_yield (v := .slice A n c) (w' := w) ?_ (Keeps.refl _ _) rfl
  generalize a.eval = ρ at hx ⊢
  unfold execOp
  rw [ho]
  go_simp
theorem kp_len19N {A : Option Addr} {n c : Nat} (ho : o.op = .call { callee := .builtin .len, args := #[x], argTypes := #[34] }) (hx : a.eval x = .slice A n c) : o.wp Tryd.prog a w (fun a' w' => ∃ v, a' = a.put o.dst v ∧ Kp w w' ∧ IsV (.int .i64 (n : Int)) w' v) Q := by
  refine kp_yield (v := .int .i64 (n : Int)) (w' := w) ?_ (Keeps.refl _ _) rfl
  generalize a.eval = ρ at hx ⊢
  unfold execOp
  rw [ho]
  go_simp
theorem kp_ld19N {p : Addr} {A : Option Addr} {n c : Nat} (hc : w.cell? p = some (.slice A n c)) (ho : o.op = .load 34 x) (hx : a.eval x = .pointer (some p)) : o.wp Tryd.prog a w (fun a' w' => ∃ v, a' = a.put o.dst v ∧ Kp w w' ∧ IsV (.slice A n c) w' v) Q := by
  refine kp_yield (v := .slice A n c) (w' := w) ?_ (Keeps.refl _ _) rfl
  generalize a.eval = ρ at hx ⊢
  unfold execOp
  rw [ho]
  go_simp
theorem kp_ld19Y {g off : Nat} {k u : ByteArray} {t : Int} {d : Bool} (h0 : w.cell? ⟨g, off, none⟩ = some (.string k)) (h1 : w.cell? ⟨g, off + 1, none⟩ = some (.string u)) (h2 : w.cell? ⟨g, off + 2, none⟩ = some (.int .i64 t)) (h3 : w.cell? ⟨g, off + 3, none⟩ = some (.bool d)) (ho : o.op = .load 31 x) (hx : a.eval x = .pointer (some ⟨g, off, none⟩)) : o.wp Tryd.prog a w (fun a' w' => ∃ v, a' = a.put o.dst v ∧ Kp w w' ∧ IsV (.agg #[.string k, .string u, .int .i64 t, .bool d]) w' v) Q := by
  refine kp_yield (v := .agg #[.string k, .string u, .int .i64 t, .bool d]) (w' := w) ?_ (Keeps.refl _ _) rfl
  generalize a.eval = ρ at hx ⊢
  unfold execOp
  rw [ho]
  go_simp
theorem kp_bd19Y (ho : o.op = .build 31 #[]) : o.wp Tryd.prog a w (fun a' w' => ∃ v, a' = a.put o.dst v ∧ Kp w w' ∧ IsV (.agg #[.string ⟨#[]⟩, .string ⟨#[]⟩, .int .i64 0, .bool false]) w' v) Q := by
  refine kp_yield (v := .agg #[.string ⟨#[]⟩, .string ⟨#[]⟩, .int .i64 0, .bool false]) (w' := w) ?_ (Keeps.refl _ _) rfl
  unfold execOp
  rw [ho]
  go_simp
theorem kp_c19 {f : FuncId} {ty : TypeId} {v r : Value} (hcf : (callFunc f #[v]).run Tryd.prog w = .ok (.enter f #[v]) w) (hc : Calls Tryd.prog f #[v] w fun e w' => e = .returned r ∧ Kp w w') (ho : o.op = .call { callee := .value (.func f), args := #[x], argTypes := #[ty] }) (hx : a.eval x = v) : o.wp Tryd.prog a w (fun a' w' => ∃ v, a' = a.put o.dst v ∧ Kp w w' ∧ IsV r w' v) Q := by
  refine kp_enter (f := f) (args := #[v]) ?_ hc (fun e w' h => ⟨r, h.1, h.2, rfl⟩)
  have hf : a.eval (.func f) = .func (.func f) #[] #[] := rfl
  generalize a.eval = ρ at hx hf ⊢
  unfold execOp
  rw [ho]
  go_simp
theorem kp_c19b {f : FuncId} {ty : TypeId} {v u r : Value} (hcf : (callFunc f #[v, u]).run Tryd.prog w = .ok (.enter f #[v, u]) w) (hc : Calls Tryd.prog f #[v, u] w fun e w' => e = .returned r ∧ Kp w w') (ho : o.op = .call { callee := .value (.func f), args := #[x, y], argTypes := #[ty, ty] }) (hx : a.eval x = v) (hy : a.eval y = u) : o.wp Tryd.prog a w (fun a' w' => ∃ v, a' = a.put o.dst v ∧ Kp w w' ∧ IsV r w' v) Q := by
  refine kp_enter (f := f) (args := #[v, u]) ?_ hc (fun e w' h => ⟨r, h.1, h.2, rfl⟩)
  have hf : a.eval (.func f) = .func (.func f) #[] #[] := rfl
  generalize a.eval = ρ at hx hy hf ⊢
  unfold execOp
  rw [ho]
  go_simp
end
theorem cf_num (v : Value) (w : World) : (callFunc 23 #[v]).run Tryd.prog w = .ok (.enter 23 #[v]) w := by go_simp
theorem cf_nodes (v : Value) (w : World) : (callFunc 26 #[v]).run Tryd.prog w = .ok (.enter 26 #[v]) w := by go_simp
theorem cf_imay (v : Value) (w : World) : (callFunc 25 #[v]).run Tryd.prog w = .ok (.enter 25 #[v]) w := by go_simp
theorem cf_key (v : Value) (w : World) : (callFunc 27 #[v]).run Tryd.prog w = .ok (.enter 27 #[v]) w := by go_simp
theorem cf_eqi (v u : Value) (w : World) : (callFunc 24 #[v, u]).run Tryd.prog w = .ok (.enter 24 #[v, u]) w := by go_simp

end Go.Proofs.YtpijhpfcigjkeaaDoor
