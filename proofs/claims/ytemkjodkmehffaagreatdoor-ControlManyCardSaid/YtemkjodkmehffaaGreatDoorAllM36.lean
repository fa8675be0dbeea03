/-
  MsHead: texts of mine, joined.
-/
import Derived.Test.YtemkjodkmehffaaGreatDoorAllM18
import Derived.Test.YtemkjodkmehffaaGreatDoorAllM35
namespace Go.Proofs.YtemkjodkmehffaaGreatDoor
open Go Go.RowKit Go.Joins
section
variable {o : Oper} {a : Act} {w : World} {Q : Exit → Act → World → Prop} {x y : Operand}
theorem kp_f19_0 {b : Nat} (ho : o.op = .fieldAddr 50 x 0) (hx : a.eval x = .pointer (some ⟨b, 0, none⟩)) : o.wp Tryz.prog a w (fun a' w' => ∃ v, a' = a.put o.dst v ∧ Kp w w' ∧ IsV (.pointer (some ⟨b, 0, none⟩)) w' v) Q := by
 refine kp_yield (v := .pointer (some ⟨b, 0, none⟩)) (w' := w) ?_ (Keeps.refl _ _) rfl
 generalize a.eval = ρ at hx ⊢
 unfold execOp
 rw [ho]
 go_simp
theorem kp_f19_1 {b : Nat} (ho : o.op = .fieldAddr 50 x 1) (hx : a.eval x = .pointer (some ⟨b, 0, none⟩)) : o.wp Tryz.prog a w (fun a' w' => ∃ v, a' = a.put o.dst v ∧ Kp w w' ∧ IsV (.pointer (some ⟨b, 1, none⟩)) w' v) Q := by
 refine kp_yield (v := .pointer (some ⟨b, 1, none⟩)) (w' := w) ?_ (Keeps.refl _ _) rfl
 generalize a.eval = ρ at hx ⊢
 unfold execOp
 rw [ho]
 go_simp
theorem kp_f19_2 {b : Nat} (ho : o.op = .fieldAddr 50 x 2) (hx : a.eval x = .pointer (some ⟨b, 0, none⟩)) : o.wp Tryz.prog a w (fun a' w' => ∃ v, a' = a.put o.dst v ∧ Kp w w' ∧ IsV (.pointer (some ⟨b, 2, none⟩)) w' v) Q := by
 refine kp_yield (v := .pointer (some ⟨b, 2, none⟩)) (w' := w) ?_ (Keeps.refl _ _) rfl
 generalize a.eval = ρ at hx ⊢
 unfold execOp
 rw [ho]
 go_simp
theorem kp_f19_3 {b : Nat} (ho : o.op = .fieldAddr 50 x 3) (hx : a.eval x = .pointer (some ⟨b, 0, none⟩)) : o.wp Tryz.prog a w (fun a' w' => ∃ v, a' = a.put o.dst v ∧ Kp w w' ∧ IsV (.pointer (some ⟨b, 3, none⟩)) w' v) Q := by
 refine kp_yield (v := .pointer (some ⟨b, 3, none⟩)) (w' := w) ?_ (Keeps.refl _ _) rfl
 generalize a.eval = ρ at hx ⊢
 unfold execOp
 rw [ho]
 go_simp
theorem kp_f19_4 {b : Nat} (ho : o.op = .fieldAddr 50 x 4) (hx : a.eval x = .pointer (some ⟨b, 0, none⟩)) : o.wp Tryz.prog a w (fun a' w' => ∃ v, a' = a.put o.dst v ∧ Kp w w' ∧ IsV (.pointer (some ⟨b, 4, none⟩)) w' v) Q := by
 refine kp_yield (v := .pointer (some ⟨b, 4, none⟩)) (w' := w) ?_ (Keeps.refl _ _) rfl
 generalize a.eval = ρ at hx ⊢
 unfold execOp
 rw [ho]
 go_simp
theorem kp_f19_5 {b : Nat} (ho : o.op = .fieldAddr 50 x 5) (hx : a.eval x = .pointer (some ⟨b, 0, none⟩)) : o.wp Tryz.prog a w (fun a' w' => ∃ v, a' = a.put o.dst v ∧ Kp w w' ∧ IsV (.pointer (some ⟨b, 5, none⟩)) w' v) Q := by
 refine kp_yield (v := .pointer (some ⟨b, 5, none⟩)) (w' := w) ?_ (Keeps.refl _ _) rfl
 generalize a.eval = ρ at hx ⊢
 unfold execOp
 rw [ho]
 go_simp
theorem kp_f19_6 {b : Nat} (ho : o.op = .fieldAddr 50 x 6) (hx : a.eval x = .pointer (some ⟨b, 0, none⟩)) : o.wp Tryz.prog a w (fun a' w' => ∃ v, a' = a.put o.dst v ∧ Kp w w' ∧ IsV (.pointer (some ⟨b, 6, none⟩)) w' v) Q := by
 refine kp_yield (v := .pointer (some ⟨b, 6, none⟩)) (w' := w) ?_ (Keeps.refl _ _) rfl
 generalize a.eval = ρ at hx ⊢
 unfold execOp
 rw [ho]
 go_simp
theorem kp_f19_7 {b : Nat} (ho : o.op = .fieldAddr 50 x 7) (hx : a.eval x = .pointer (some ⟨b, 0, none⟩)) : o.wp Tryz.prog a w (fun a' w' => ∃ v, a' = a.put o.dst v ∧ Kp w w' ∧ IsV (.pointer (some ⟨b, 7, none⟩)) w' v) Q := by
 refine kp_yield (v := .pointer (some ⟨b, 7, none⟩)) (w' := w) ?_ (Keeps.refl _ _) rfl
 generalize a.eval = ρ at hx ⊢
 unfold execOp
 rw [ho]
 go_simp
theorem kp_f19_8 {b : Nat} (ho : o.op = .fieldAddr 50 x 8) (hx : a.eval x = .pointer (some ⟨b, 0, none⟩)) : o.wp Tryz.prog a w (fun a' w' => ∃ v, a' = a.put o.dst v ∧ Kp w w' ∧ IsV (.pointer (some ⟨b, 8, none⟩)) w' v) Q := by
 refine kp_yield (v := .pointer (some ⟨b, 8, none⟩)) (w' := w) ?_ (Keeps.refl _ _) rfl
 generalize a.eval = ρ at hx ⊢
 unfold execOp
 rw [ho]
 go_simp
theorem kp_f19_9 {b : Nat} (ho : o.op = .fieldAddr 50 x 9) (hx : a.eval x = .pointer (some ⟨b, 0, none⟩)) : o.wp Tryz.prog a w (fun a' w' => ∃ v, a' = a.put o.dst v ∧ Kp w w' ∧ IsV (.pointer (some ⟨b, 9, none⟩)) w' v) Q := by
 refine kp_yield (v := .pointer (some ⟨b, 9, none⟩)) (w' := w) ?_ (Keeps.refl _ _) rfl
 generalize a.eval = ρ at hx ⊢
 unfold execOp
 rw [ho]
 go_simp
theorem kp_f19_10 {b : Nat} (ho : o.op = .fieldAddr 50 x 10) (hx : a.eval x = .pointer (some ⟨b, 0, none⟩)) : o.wp Tryz.prog a w (fun a' w' => ∃ v, a' = a.put o.dst v ∧ Kp w w' ∧ IsV (.pointer (some ⟨b, 10, none⟩)) w' v) Q := by
 refine kp_yield (v := .pointer (some ⟨b, 10, none⟩)) (w' := w) ?_ (Keeps.refl _ _) rfl
 generalize a.eval = ρ at hx ⊢
 unfold execOp
 rw [ho]
 go_simp
theorem kp_f19_12 {b : Nat} (ho : o.op = .fieldAddr 50 x 12) (hx : a.eval x = .pointer (some ⟨b, 0, none⟩)) : o.wp Tryz.prog a w (fun a' w' => ∃ v, a' = a.put o.dst v ∧ Kp w w' ∧ IsV (.pointer (some ⟨b, 12, none⟩)) w' v) Q := by
 refine kp_yield (v := .pointer (some ⟨b, 12, none⟩)) (w' := w) ?_ (Keeps.refl _ _) rfl
 generalize a.eval = ρ at hx ⊢
 unfold execOp
 rw [ho]
 go_simp
theorem kp_f19_13 {b : Nat} (ho : o.op = .fieldAddr 50 x 13) (hx : a.eval x = .pointer (some ⟨b, 0, none⟩)) : o.wp Tryz.prog a w (fun a' w' => ∃ v, a' = a.put o.dst v ∧ Kp w w' ∧ IsV (.pointer (some ⟨b, 16, none⟩)) w' v) Q := by
 refine kp_yield (v := .pointer (some ⟨b, 16, none⟩)) (w' := w) ?_ (Keeps.refl _ _) rfl
 generalize a.eval = ρ at hx ⊢
 unfold execOp
 rw [ho]
 go_simp
theorem kp_f19_14 {b : Nat} (ho : o.op = .fieldAddr 50 x 14) (hx : a.eval x = .pointer (some ⟨b, 0, none⟩)) : o.wp Tryz.prog a w (fun a' w' => ∃ v, a' = a.put o.dst v ∧ Kp w w' ∧ IsV (.pointer (some ⟨b, 17, none⟩)) w' v) Q := by
 refine kp_yield (v := .pointer (some ⟨b, 17, none⟩)) (w' := w) ?_ (Keeps.refl _ _) rfl
 generalize a.eval = ρ at hx ⊢
 unfold execOp
 rw [ho]
 go_simp
theorem kp_f19_15 {b : Nat} (ho : o.op = .fieldAddr 50 x 15) (hx : a.eval x = .pointer (some ⟨b, 0, none⟩)) : o.wp Tryz.prog a w (fun a' w' => ∃ v, a' = a.put o.dst v ∧ Kp w w' ∧ IsV (.pointer (some ⟨b, 18, none⟩)) w' v) Q := by
 refine kp_yield (v := .pointer (some ⟨b, 18, none⟩)) (w' := w) ?_ (Keeps.refl _ _) rfl
 generalize a.eval = ρ at hx ⊢
 unfold execOp
 rw [ho]
 go_simp
theorem kp_f19_16 {b : Nat} (ho : o.op = .fieldAddr 50 x 16) (hx : a.eval x = .pointer (some ⟨b, 0, none⟩)) : o.wp Tryz.prog a w (fun a' w' => ∃ v, a' = a.put o.dst v ∧ Kp w w' ∧ IsV (.pointer (some ⟨b, 19, none⟩)) w' v) Q := by
 refine kp_yield (v := .pointer (some ⟨b, 19, none⟩)) (w' := w) ?_ (Keeps.refl _ _) rfl
 generalize a.eval = ρ at hx ⊢
 unfold execOp
 rw [ho]
 go_simp
theorem kp_f19_17 {b : Nat} (ho : o.op = .fieldAddr 50 x 17) (hx : a.eval x = .pointer (some ⟨b, 0, none⟩)) : o.wp Tryz.prog a w (fun a' w' => ∃ v, a' = a.put o.dst v ∧ Kp w w' ∧ IsV (.pointer (some ⟨b, 20, none⟩)) w' v) Q := by
 refine kp_yield (v := .pointer (some ⟨b, 20, none⟩)) (w' := w) ?_ (Keeps.refl _ _) rfl
 generalize a.eval = ρ at hx ⊢
 unfold execOp
 rw [ho]
 go_simp
theorem kp_ld19I {p : Addr} {n : Int} (hc : w.cell? p = some (.int .i64 n)) (ho : o.op = .load 3 x) (hx : a.eval x = .pointer (some p)) : o.wp Tryz.prog a w (fun a' w' => ∃ v, a' = a.put o.dst v ∧ Kp w w' ∧ IsV (.int .i64 n) w' v) Q := by
 refine kp_yield (v := .int .i64 n) (w' := w) ?_ (Keeps.refl _ _) rfl
 generalize a.eval = ρ at hx ⊢
 unfold execOp
 rw [ho]
 go_simp
theorem kp_ne19I {m n : Int} (ho : o.op = .binOp .neq 3 x y 3) (hx : a.eval x = .int .i64 m) (hy : a.eval y = .int .i64 n) : o.wp Tryz.prog a w (fun a' w' => ∃ v, a' = a.put o.dst v ∧ Kp w w' ∧ IsV (.bool (m != n)) w' v) Q := by
 refine kp_yield (v := .bool (m != n)) (w' := w) ?_ (Keeps.refl _ _) rfl
 generalize a.eval = ρ at hx hy ⊢
 unfold execOp
 rw [ho]
 go_simp
theorem kp_ld19L {p : Addr} {n : Int} (hc : w.cell? p = some (.int .i64 n)) (ho : o.op = .load 2 x) (hx : a.eval x = .pointer (some p)) : o.wp Tryz.prog a w (fun a' w' => ∃ v, a' = a.put o.dst v ∧ Kp w w' ∧ IsV (.int .i64 n) w' v) Q := by
 refine kp_yield (v := .int .i64 n) (w' := w) ?_ (Keeps.refl _ _) rfl
 generalize a.eval = ρ at hx ⊢
 unfold execOp
 rw [ho]
 go_simp
theorem kp_ld19E {p : Addr} {n : Int} (hc : w.cell? p = some (.int .i64 n)) (ho : o.op = .load 28 x) (hx : a.eval x = .pointer (some p)) : o.wp Tryz.prog a w (fun a' w' => ∃ v, a' = a.put o.dst v ∧ Kp w w' ∧ IsV (.int .i64 n) w' v) Q := by
 refine kp_yield (v := .int .i64 n) (w' := w) ?_ (Keeps.refl _ _) rfl
 generalize a.eval = ρ at hx ⊢
 unfold execOp
 rw [ho]
 go_simp
theorem kp_ld19T {p : Addr} {n : ByteArray} (hc : w.cell? p = some (.string n)) (ho : o.op = .load 9 x) (hx : a.eval x = .pointer (some p)) : o.wp Tryz.prog a w (fun a' w' => ∃ v, a' = a.put o.dst v ∧ Kp w w' ∧ IsV (.string n) w' v) Q := by
 refine kp_yield (v := .string n) (w' := w) ?_ (Keeps.refl _ _) rfl
 generalize a.eval = ρ at hx ⊢
 unfold execOp
 rw [ho]
 go_simp
theorem kp_not19 {b : Bool} (ho : o.op = .unOp .not 4 x) (hx : a.eval x = .bool b) : o.wp Tryz.prog a w (fun a' w' => ∃ v, a' = a.put o.dst v ∧ Kp w w' ∧ IsV (.bool (!b)) w' v) Q := by
 refine kp_yield (v := .bool (!b)) (w' := w) ?_ (Keeps.refl _ _) rfl
 generalize a.eval = ρ at hx ⊢
 unfold execOp
 rw [ho]
 go_simp
theorem kp_len19T {s : ByteArray} (ho : o.op = .call { callee := .builtin .len, args := #[x], argTypes := #[9] }) (hx : a.eval x = .string s) : o.wp Tryz.prog a w (fun a' w' => ∃ v, a' = a.put o.dst v ∧ Kp w w' ∧ IsV (.int .i64 (s.size : Int)) w' v) Q := by
 refine kp_yield (v := .int .i64 (s.size : Int)) (w' := w) ?_ (Keeps.refl _ _) rfl
 generalize a.eval = ρ at hx ⊢
 unfold execOp
 rw [ho]
 go_simp
theorem kp_ld19S {p : Addr} {A : Option Addr} {n c : Nat} (hc : w.cell? p = some (.slice A n c)) (ho : o.op = .load 46 x) (hx : a.eval x = .pointer (some p)) : o.wp Tryz.prog a w (fun a' w' => ∃ v, a' = a.put o.dst v ∧ Kp w w' ∧ IsV (.slice A n c) w' v) Q := by
 refine kp_yield (v := .slice A n c) (w' := w) ?_ (Keeps.refl _ _) rfl
 generalize a.eval = ρ at hx ⊢
 unfold execOp
 rw [ho]
 go_simp
theorem kp_ld19K {p : Addr} {A : Option Addr} {n c : Nat} (hc : w.cell? p = some (.slice A n c)) (ho : o.op = .load 47 x) (hx : a.eval x = .pointer (some p)) : o.wp Tryz.prog a w (fun a' w' => ∃ v, a' = a.put o.dst v ∧ Kp w w' ∧ IsV (.slice A n c) w' v) Q := by
 refine kp_yield (v := .slice A n c) (w' := w) ?_ (Keeps.refl _ _) rfl
 generalize a.eval = ρ at hx ⊢
 unfold execOp
 rw [ho]
 go_simp
theorem kp_ld19N {p : Addr} {A : Option Addr} {n c : Nat} (hc : w.cell? p = some (.slice A n c)) (ho : o.op = .load 48 x) (hx : a.eval x = .pointer (some p)) : o.wp Tryz.prog a w (fun a' w' => ∃ v, a' = a.put o.dst v ∧ Kp w w' ∧ IsV (.slice A n c) w' v) Q := by
 refine kp_yield (v := .slice A n c) (w' := w) ?_ (Keeps.refl _ _) rfl
 generalize a.eval = ρ at hx ⊢
 unfold execOp
 rw [ho]
 go_simp
theorem kp_ld19Y {g off : Nat} {k u : ByteArray} {t : Int} {d : Bool} (h0 : w.cell? ⟨g, off, none⟩ = some (.string k)) (h1 : w.cell? ⟨g, off + 1, none⟩ = some (.string u)) (h2 : w.cell? ⟨g, off + 2, none⟩ = some (.int .i64 t)) (h3 : w.cell? ⟨g, off + 3, none⟩ = some (.bool d)) (ho : o.op = .load 45 x) (hx : a.eval x = .pointer (some ⟨g, off, none⟩)) : o.wp Tryz.prog a w (fun a' w' => ∃ v, a' = a.put o.dst v ∧ Kp w w' ∧ IsV (.agg #[.string k, .string u, .int .i64 t, .bool d]) w' v) Q := by
 refine kp_yield (v := .agg #[.string k, .string u, .int .i64 t, .bool d]) (w' := w) ?_ (Keeps.refl _ _) rfl
 generalize a.eval = ρ at hx ⊢
 unfold execOp
 rw [ho]
 go_simp
theorem kp_bd19Y (ho : o.op = .build 45 #[]) : o.wp Tryz.prog a w (fun a' w' => ∃ v, a' = a.put o.dst v ∧ Kp w w' ∧ IsV (.agg #[.string ⟨#[]⟩, .string ⟨#[]⟩, .int .i64 0, .bool false]) w' v) Q := by
 refine kp_yield (v := .agg #[.string ⟨#[]⟩, .string ⟨#[]⟩, .int .i64 0, .bool false]) (w' := w) ?_ (Keeps.refl _ _) rfl
 unfold execOp
 rw [ho]
 go_simp
theorem kp_c19 {f : FuncId} {ty : TypeId} {v r : Value} (hcf : (callFunc f #[v]).run Tryz.prog w = .ok (.enter f #[v]) w) (hc : Calls Tryz.prog f #[v] w fun e w' => e = .returned r ∧ Kp w w') (ho : o.op = .call { callee := .value (.func f), args := #[x], argTypes := #[ty] }) (hx : a.eval x = v) : o.wp Tryz.prog a w (fun a' w' => ∃ v, a' = a.put o.dst v ∧ Kp w w' ∧ IsV r w' v) Q := by
 refine kp_enter (f := f) (args := #[v]) ?_ hc (fun e w' h => ⟨r, h.1, h.2, rfl⟩)
 have hf : a.eval (.func f) = .func (.func f) #[] #[] := rfl
 generalize a.eval = ρ at hx hf ⊢
 unfold execOp
 rw [ho]
 go_simp
end
end Go.Proofs.YtemkjodkmehffaaGreatDoor
