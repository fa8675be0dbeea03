/-
  FlashAll's last region: '!s.right(c, o.X.Key, ..) || len(s.now) > 0 && !s.right(c, s.now[i%len(s.now)].x.Key, ..)'.
-/
import Derived.Test.YtoepgbpmcjnbmaaGreatDoorFlashSeat
namespace Go.Proofs.YtoepgbpmcjnbmaaGreatDoor.flashAll
open Go Go.RowKit Go.Joins
section
variable {o : Oper} {a : Act} {w : World} {Q : Exit → Act → World → Prop} {x y z u v : Operand}
theorem kp_fO1 {b : Nat} (ho : o.op = .fieldAddr 38 x 1) (hx : a.eval x = .pointer (some ⟨b, 0, none⟩)) :
    o.wp Tryz.prog a w (fun a' w' => ∃ v, a' = a.put o.dst v ∧ Kp w w' ∧ IsV (.pointer (some ⟨b, 1, none⟩)) w' v) Q := by
  refine kp_yield (v := .pointer (some ⟨b, 1, none⟩)) (w' := w) ?_ (Keeps.refl _ _) rfl
  generalize a.eval = ρ at hx ⊢
  unfold execOp
  go_simp
theorem kp_fO2 {b : Nat} (ho : o.op = .fieldAddr 38 x 2) (hx : a.eval x = .pointer (some ⟨b, 0, none⟩)) :
    o.wp Tryz.prog a w (fun a' w' => ∃ v, a' = a.put o.dst v ∧ Kp w w' ∧ IsV (.pointer (some ⟨b, 5, none⟩)) w' v) Q := by
  refine kp_yield (v := .pointer (some ⟨b, 5, none⟩)) (w' := w) ?_ (Keeps.refl _ _) rfl
  generalize a.eval = ρ at hx ⊢
  unfold execOp
  go_simp
theorem kp_fI0 {b j : Nat} (ho : o.op = .fieldAddr 35 x 0) (hx : a.eval x = .pointer (some ⟨b, j, none⟩)) :
    o.wp Tryz.prog a w (fun a' w' => ∃ v, a' = a.put o.dst v ∧ Kp w w' ∧ IsV (.pointer (some ⟨b, j, none⟩)) w' v) Q := by
  refine kp_yield (v := .pointer (some ⟨b, j, none⟩)) (w' := w) ?_ (Keeps.refl _ _) rfl
  generalize a.eval = ρ at hx ⊢
  unfold execOp
  go_simp
theorem kp_fE0 {b j : Nat} (ho : o.op = .fieldAddr 50 x 0) (hx : a.eval x = .pointer (some ⟨b, j, none⟩)) :
    o.wp Tryz.prog a w (fun a' w' => ∃ v, a' = a.put o.dst v ∧ Kp w w' ∧ IsV (.pointer (some ⟨b, j, none⟩)) w' v) Q := by
  refine kp_yield (v := .pointer (some ⟨b, j, none⟩)) (w' := w) ?_ (Keeps.refl _ _) rfl
  generalize a.eval = ρ at hx ⊢
  unfold execOp
  go_simp
theorem kp_loadN {p : Addr} {n : Int} (hc : w.cell? p = some (.int .i64 n)) (ho : o.op = .load 2 x) (hx : a.eval x = .pointer (some p)) :
    o.wp Tryz.prog a w (fun a' w' => ∃ v, a' = a.put o.dst v ∧ Kp w w' ∧ IsV (.int .i64 n) w' v) Q := by
  refine kp_yield (v := .int .i64 n) (w' := w) ?_ (Keeps.refl _ _) rfl
  generalize a.eval = ρ at hx ⊢
  unfold execOp
  go_simp
theorem kp_gtr0 {n : Nat} {b : Bool} (hb : decide (0 < n) = b) (ho : o.op = .binOp .gtr 3 x y 3) (hx : a.eval x = .int .i64 (n : Int)) (hy : a.eval y = .int .i64 0) :
    o.wp Tryz.prog a w (fun a' w' => ∃ v, a' = a.put o.dst v ∧ Kp w w' ∧ IsV (.bool b) w' v) Q := by
  subst hb
  refine kp_yield (v := .bool (decide (0 < n))) (w' := w) ?_ (Keeps.refl _ _) rfl
  generalize a.eval = ρ at hx hy ⊢
  unfold execOp
  rw [ho]
  go_simp
theorem kp_remN {k n : Nat} (hn : 0 < n) (hk : k ≤ 1000) (ho : o.op = .binOp .rem 3 x y 3) (hx : a.eval x = .int .i64 (k : Int)) (hy : a.eval y = .int .i64 (n : Int)) :
    o.wp Tryz.prog a w (fun a' w' => ∃ v, a' = a.put o.dst v ∧ Kp w w' ∧ IsV (.int .i64 ((k % n : Nat) : Int)) w' v) Q := by
  refine kp_yield (v := .int .i64 ((k % n : Nat) : Int)) (w' := w) ?_ (Keeps.refl _ _) rfl
  have hz : (k : Int).tmod (n : Int) = ((k % n : Nat) : Int) := by rw [Int.tmod_eq_emod_of_nonneg (by omega)]; rfl
  have hlt : k % n < n := Nat.mod_lt _ hn
  have hle : k % n ≤ k := Nat.mod_le _ _
  generalize k % n = m at *
  have h1 : (0 : Int) ≤ (m : Int) := by omega
  have h2 : (m : Int) ≤ 1000 := by omega
  have hn0 : ¬ (n : Int) = 0 := by omega
  have hn1 : ¬ n = 0 := by omega
  generalize a.eval = ρ at hx hy ⊢
  unfold execOp
  rw [ho]
  go_simp
theorem kp_atE {b f n c i : Nat} (hi : i < n) (ho : o.op = .indexAddr 31 x y) (hx : a.eval x = .slice (some ⟨b, f, none⟩) n c) (hy : a.eval y = .int .i64 (i : Int)) :
    o.wp Tryz.prog a w (fun a' w' => ∃ v, a' = a.put o.dst v ∧ Kp w w' ∧ IsV (.pointer (some ⟨b, f + i * 6, none⟩)) w' v) Q := by
  refine kp_yield (v := .pointer (some ⟨b, f + i * 6, none⟩)) (w' := w) ?_ (Keeps.refl _ _) rfl
  generalize a.eval = ρ at hx hy ⊢
  unfold execOp
  go_simp
theorem kp_right {sp q : Nat} {k : ByteArray} {now s : Int} (hc : Calls Tryz.prog 22 #[.pointer (some ⟨sp, 0, none⟩), .pointer (some ⟨q, 0, none⟩), .string k, .int .i64 now, .int .i64 s] w fun e w' => e = .returned (.bool true) ∧ Kp w w')
    (ho : o.op = .call { callee := .value (.func 22), args := #[x, y, z, u, v], argTypes := #[30, 24, 9, 2, 3] })
    (hx : a.eval x = .pointer (some ⟨sp, 0, none⟩)) (hy : a.eval y = .pointer (some ⟨q, 0, none⟩)) (hz : a.eval z = .string k) (hu : a.eval u = .int .i64 now) (hv : a.eval v = .int .i64 s) :
    o.wp Tryz.prog a w (fun a' w' => ∃ v, a' = a.put o.dst v ∧ Kp w w' ∧ IsV (.bool true) w' v) Q := by
  have hf : a.eval (.func 22) = .func (.func 22) #[] #[] := rfl
  refine kp_enter (f := 22) (args := #[.pointer (some ⟨sp, 0, none⟩), .pointer (some ⟨q, 0, none⟩), .string k, .int .i64 now, .int .i64 s]) ?_ hc ?_
  · generalize a.eval = ρ at hx hy hz hu hv hf ⊢
    unfold execOp
    rw [ho]
    go_simp
  · rintro e w' ⟨rfl, hk⟩
    exact ⟨_, rfl, hk, rfl⟩
end
def pS (b j : Nat) : Value := .pointer (some ⟨b, j, none⟩)
def headV (sp q ob : Nat) (k : ByteArray) (now s : Int) (V : Value) (n : Nat) (m : Bool) : List Value := [pS sp 0, pS q 0, pS ob 1, pS ob 1, .string k, pS ob 5, .int .i64 now, .int .i64 s, .bool true, .bool false, .bool false, pS sp 0, pS sp 0, pS sp 0, V, .int .i64 (n : Int), .bool m, .bool m]
def V0 (sp q ob : Nat) (k : ByteArray) (now s : Int) (V : Value) : List Value := headV sp q ob k now s V 0 false ++ [undef, undef, undef, undef, undef, undef, undef, undef, undef, undef, undef, undef, undef, undef, undef, undef, undef, undef, undef, undef, undef, undef, .bool false, .bool false]
def V1 (sp q ob b f r : Nat) (k k2 : ByteArray) (now s : Int) (V : Value) (n i : Nat) : List Value := headV sp q ob k now s V n true ++ [pS sp 0, pS q 0, pS sp 0, pS sp 0, pS sp 0, V, .int .i64 (i : Int), pS sp 0, pS sp 0, pS sp 0, V, .int .i64 (n : Int), .int .i64 (r : Int), pS b (f + r * 6), pS b (f + r * 6), pS b (f + r * 6), .string k2, pS ob 5, .int .i64 now, .int .i64 s, .bool true, .bool false, .bool false, .bool false]
def GR (m : Bool) : Nat → Option Bool
  | 10 => some false
  | 17 => some m
  | _ => none
theorem GR_0 {sp q ob : Nat} {k : ByteArray} {now s : Int} {V : Value} (g : Nat) (c : Bool) (h : GR false g = some c) (w : World) (v : Value) (hv : Vs (V0 sp q ob k now s V) g w v) : v = .bool c := by
  unfold GR at h
  split at h
  all_goals first | (cases h; exact hv) | cases h
theorem GR_1 {sp q ob b f r : Nat} {k k2 : ByteArray} {now s : Int} {V : Value} {n i : Nat} (g : Nat) (c : Bool) (h : GR true g = some c) (w : World) (v : Value) (hv : Vs (V1 sp q ob b f r k k2 now s V n i) g w v) : v = .bool c := by
  unfold GR at h
  split at h
  all_goals first | (cases h; exact hv) | cases h
end Go.Proofs.YtoepgbpmcjnbmaaGreatDoor.flashAll
