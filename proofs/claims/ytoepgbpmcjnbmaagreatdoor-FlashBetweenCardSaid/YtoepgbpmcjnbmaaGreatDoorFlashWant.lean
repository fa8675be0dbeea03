/-
  FlashBetween's 'want = append(want[:k:k], append([]api.Item{l[i]}, want[k:]...)...)': each operation by itself (as XRise has it of texts).
-/
import Derived.Test.YtoepgbpmcjnbmaaGreatDoorFlashLocs
import Derived.Test.YtoepgbpmcjnbmaaGreatDoorFlashBetweenMath
import Derived.Test.YtoepgbpmcjnbmaaGreatDoorOwnLe
namespace Go.Proofs.YtoepgbpmcjnbmaaGreatDoor.flashBetween
open Go Go.RowKit Go.Joins Go.Proofs.YtoepgbpmcjnbmaaGreatDoor
theorem itC_cons (x : It) (l : List It) : itCells (x :: l) = x.cells ++ itCells l := rfl
theorem itC_four (x : It) (l : List It) : itCells (x :: l) = .string x.key :: .string x.val :: .int .i64 x.till :: .bool x.gone :: itCells l := rfl
theorem itC_app (a b : List It) : itCells (a ++ b) = itCells a ++ itCells b := by simp [itCells]
theorem itC_drop (l : List It) (k : Nat) : (itCells l).drop (k * 4) = itCells (l.drop k) := by
  induction l generalizing k with
  | nil => simp [itCells]
  | cons a l ih =>
    cases k with
    | zero => simp
    | succ k =>
      rw [itC_four, show (k + 1) * 4 = k * 4 + 1 + 1 + 1 + 1 by omega, List.drop_succ_cons, List.drop_succ_cons, List.drop_succ_cons, List.drop_succ_cons, ih, List.drop_succ_cons]
theorem itC_take (l : List It) (k : Nat) : (itCells l).take (k * 4) = itCells (l.take k) := by
  induction l generalizing k with
  | nil => simp [itCells]
  | cons a l ih =>
    cases k with
    | zero => simp [itCells]
    | succ k =>
      rw [itC_four, show (k + 1) * 4 = k * 4 + 1 + 1 + 1 + 1 by omega, List.take_succ_cons, List.take_succ_cons, List.take_succ_cons, List.take_succ_cons, ih, List.take_succ_cons, itC_four]
theorem itC_one (l : List It) : ∀ u ∈ itCells l, u.oneCell' = true := by
  intro u hu
  unfold itCells at hu
  obtain ⟨x, -, hx⟩ := List.mem_flatMap.1 hu
  simp only [It.cells, List.mem_cons, List.not_mem_nil, or_false] at hx
  rcases hx with rfl | rfl | rfl | rfl <;> rfl
def cutI (A : Option Addr) (k c : Nat) : Option Addr := if c = k then A else A.map (·.add (k * 4))
theorem row_cut4 {w : World} {A : Option Addr} {F : Nat → Prop} {l : List It} {k c : Nat} (h : Row w A F (itCells l)) (hk : k ≤ l.length) (hc : l.length ≤ c) : Row w (cutI A k c) F (itCells (l.drop k)) := by
  have h1 := h.cut (k := k * 4) (cap := c * 4) (by rw [itCells_len]; omega) (by rw [itCells_len]; omega)
  rw [itC_drop] at h1
  unfold cutI
  by_cases he : c = k
  · rw [if_pos (by omega)] at h1
    rw [if_pos he]; exact h1
  · rw [if_neg (by omega)] at h1
    rw [if_neg he]; exact h1
theorem row_src4 {w : World} {A : Option Addr} {F : Nat → Prop} {l : List It} {c : Nat} (h : Row w A F (itCells l)) (h0 : 0 < l.length) : Src Tryz.prog 4 52 (.slice A l.length c) l.length (itCells l) w := by
  obtain ⟨b, o, rfl, _, hc⟩ := h (by intro e; have := itCells_len l; rw [e] at this; simp at this; omega)
  exact Src.ofSlice _ Tryz.underlying52 ⟨b, o, none⟩ l.length c (itCells l) (itCells_len l) (fun j v hv => by
    rw [WideShapes.add_plain]
    exact hc j v hv) (itC_one l)
section
variable {o : Oper} {a : Act} {w : World} {Q : Exit → Act → World → Prop} {x y z : Operand}
theorem kp_firstI {A : Option Addr} {n c k : Nat} (hk : k ≤ n) (hn : n ≤ c) (hc : c ≤ 9223372036854775807) (hA : A = none → c = 0) (ho : o.op = .slice 52 x none (some y) (some z)) (hx : a.eval x = .slice A n c) (hy : a.eval y = .int .i64 (k : Int)) (hz : a.eval z = .int .i64 (k : Int)) :
    o.wp Tryz.prog a w (fun a' w' => ∃ v, a' = a.put o.dst v ∧ Kp w w' ∧ IsV (.slice A k k) w' v) Q := by
  refine kp_yield (v := .slice A k k) (w' := w) ?_ (Keeps.refl _ _) rfl
  generalize a.eval = ρ at hx hy hz ⊢
  unfold execOp
  have hkc : k ≤ c := by omega
  cases A with
  | none =>
    obtain rfl : c = 0 := hA rfl
    obtain rfl : k = 0 := by omega
    go_simp
  | some ad => go_simp
theorem kp_restI {A : Option Addr} {n c k : Nat} (hk : k ≤ n) (hn : n ≤ c) (hc : c ≤ 9223372036854775807) (hA : A = none → c = 0) (ho : o.op = .slice 52 x (some y) none none) (hx : a.eval x = .slice A n c) (hy : a.eval y = .int .i64 (k : Int)) :
    o.wp Tryz.prog a w (fun a' w' => ∃ v, a' = a.put o.dst v ∧ Kp w w' ∧ IsV (.slice (cutI A k c) (n - k) (c - k)) w' v) Q := by
  refine kp_yield (v := .slice (cutI A k c) (n - k) (c - k)) (w' := w) ?_ (Keeps.refl _ _) rfl
  generalize a.eval = ρ at hx hy ⊢
  unfold execOp
  have hkc : k ≤ c := by omega
  cases A with
  | none =>
    obtain rfl : c = 0 := hA rfl
    obtain rfl : k = 0 := by omega
    obtain rfl : n = 0 := by omega
    go_simp
    simp [cutI]
  | some ad =>
    by_cases hck : c = k
    · subst hck
      obtain rfl : n = c := by omega
      go_simp
      simp [cutI]
    · go_simp
      simp [cutI, hck]
theorem kp_atI {b f n c i : Nat} (hi : i < n) (ho : o.op = .indexAddr 52 x y) (hx : a.eval x = .slice (some ⟨b, f, none⟩) n c) (hy : a.eval y = .int .i64 (i : Int)) :
    o.wp Tryz.prog a w (fun a' w' => ∃ v, a' = a.put o.dst v ∧ Kp w w' ∧ IsV (.pointer (some ⟨b, f + i * 4, none⟩)) w' v) Q := by
  refine kp_yield (v := .pointer (some ⟨b, f + i * 4, none⟩)) (w' := w) ?_ (Keeps.refl _ _) rfl
  generalize a.eval = ρ at hx hy ⊢
  unfold execOp
  go_simp
theorem kp_loadI {b j : Nat} {v0 v1 v2 v3 : Value} (h0 : w.cell? ⟨b, j, none⟩ = some v0) (h1 : w.cell? ⟨b, j + 1, none⟩ = some v1) (h2 : w.cell? ⟨b, j + 2, none⟩ = some v2) (h3 : w.cell? ⟨b, j + 3, none⟩ = some v3) (ho : o.op = .load 35 x) (hx : a.eval x = .pointer (some ⟨b, j, none⟩)) :
    o.wp Tryz.prog a w (fun a' w' => ∃ v, a' = a.put o.dst v ∧ Kp w w' ∧ IsV (.agg #[v0, v1, v2, v3]) w' v) Q := by
  refine kp_yield (v := .agg #[v0, v1, v2, v3]) (w' := w) ?_ (Keeps.refl _ _) rfl
  generalize a.eval = ρ at hx ⊢
  unfold execOp
  rw [ho]
  go_simp
def OneI (base : Nat) (s : It) (w : World) (v : Value) : Prop := ∃ g, v = .slice (some ⟨g, 0, none⟩) 1 1 ∧ w.ownsRow base 35 4 (.slice (some ⟨g, 0, none⟩) 1 1) 1 s.cells
def InI (l : List It) (n : Nat) (w : World) (v : Value) : Prop := ∃ B d, v = .slice B n d ∧ Row w B (fun _ => True) (itCells l)
theorem kp_oneI {base : Nat} {s : It} (hb : base ≤ w.heap.size) (ho : o.op = .buildSlice 52 1 #[(0, x)]) (hx : a.eval x = .agg #[.string s.key, .string s.val, .int .i64 s.till, .bool s.gone]) :
    o.wp Tryz.prog a w (fun a' w' => ∃ v, a' = a.put o.dst v ∧ Kp w w' ∧ OneI base s w' v) Q := by
  refine kp_yield (V := OneI base s) (v := .slice (some ⟨w.heap.size, 0, none⟩) 1 1) (w' := w.alloc (.cells #[.string s.key, .string s.val, .int .i64 s.till, .bool s.gone] 35)) ?_ ((Keeps.refl _ w).alloc _) ⟨_, rfl, by simp [It.cells], .inr ⟨w.heap.size, 1, #[.string s.key, .string s.val, .int .i64 s.till, .bool s.gone], rfl, hb, heap_alloc_new w _, Nat.le_refl _, by decide, by simp, by simp [It.cells]⟩⟩
  generalize a.eval = ρ at hx ⊢
  unfold execOp
  go_simp
theorem wp_appended {P : Program} {V : World → Value → Prop} {t tx : TypeId} {s u : Operand} {v v' : Value} {y : Value} {w' : World} (ho : o.op = .call { callee := .builtin .append, args := #[s, u], argTypes := #[t, tx] }) (hs : a.eval s = v) (hx : a.eval u = y)
    (hr : (Builtin.append_ #[t, tx] o.type #[v, y]).run P w = .ok v' w') (hk : Kp w w') (hv : V w' v') : o.wp P a w (fun a' w' => ∃ v, a' = a.put o.dst v ∧ Kp w w' ∧ V w' v) Q := by
  unfold Oper.wp execOp
  simp only [ho, resolve, invoke, builtin, Sem.run_bind, Sem.run_pure, Result.andThen_ok, List.map_toArray, List.map_cons, List.map_nil, hs, hx, hr]
  exact ⟨_, rfl, hk, hv⟩
theorem own_row4 {w : World} {base n c : Nat} {A : Option Addr} {l : List It} (h : w.ownsRow base 35 4 (.slice A n c) n (itCells l)) (hn : 0 < n) : Row w A (fun b => base ≤ b ∧ b < w.heap.size) (itCells l) := by
  obtain ⟨g, cap, e, hb, -⟩ := h.form hn
  injection e with e1 e2 e3
  subst e1
  have hc := h.cells (g := g) rfl
  refine fun _ => ⟨g, 0, rfl, h.lt g rfl, fun i v hv => ?_⟩
  have := hc i v hv
  rw [WideShapes.add_plain] at this
  exact this
theorem kp_app_inI {base : Nat} {s : It} {B : Option Addr} {m d : Nat} {l : List It} (hb : base ≤ w.heap.size) (hm : m = l.length) (hl : m ≤ 1000000) (ho : o.op = .call { callee := .builtin .append, args := #[x, y], argTypes := #[52, 52] })
    (hx : OneI base s w (a.eval x)) (hy : a.eval y = .slice B m d) (hr : Row w B (fun _ => True) (itCells l)) :
    o.wp Tryz.prog a w (fun a' w' => ∃ v, a' = a.put o.dst v ∧ Kp w w' ∧ InI (s :: l) (1 + m) w' v) Q := by
  obtain ⟨g, e, hown⟩ := hx
  subst hm
  have hs1 : itCells [s] = s.cells := by simp [itCells]
  rcases Nat.eq_zero_or_pos l.length with h0 | h0
  · have hl0 := List.eq_nil_of_length_eq_zero h0
    subst hl0
    refine wp_appended (V := InI [s] 1) ho e hy (item_elem.run_append_none 52 o.type Tryz.underlying52 _ _ 1 1 d (Nat.le_refl _) w) (Keeps.refl _ _) ⟨_, _, rfl, ?_⟩
    rw [← hs1] at hown
    exact (own_row4 hown (by decide)).mono fun _ _ _ => trivial
  · obtain ⟨c, w', hrun, ho2, hk⟩ := item_elem.run_append_tight 52 o.type (OwnLe.of_own hown) (row_src4 hr h0) h0 (by unfold maxLen; omega) (by omega) base hb
    refine wp_appended (V := InI (s :: l) (1 + l.length)) ho e hy hrun hk ⟨_, _, rfl, ?_⟩
    rw [← itC_cons] at ho2
    exact (own_row4 ho2 (by omega)).mono fun _ _ _ => trivial
theorem kp_app_outI {base W k m : Nat} {A : Option Addr} {p l : List It} (hb : W ≤ w.heap.size) (hm : m = l.length) (hl : m ≤ 1000000) (hm0 : 0 < m) (hk : k = p.length) (hp : k ≤ 1000000) (ho : o.op = .call { callee := .builtin .append, args := #[x, y], argTypes := #[52, 52] })
    (hx : a.eval x = .slice A k k) (hown : OwnLe w base 35 4 (.slice A k k) k (itCells p)) (hy : InI l m w (a.eval y)) :
    o.wp Tryz.prog a w (fun a' w' => ∃ v, a' = a.put o.dst v ∧ Kp w w' ∧ w'.ownsRow W 35 4 v (k + m) (itCells (p ++ l))) Q := by
  obtain ⟨B, d, e, hr⟩ := hy
  subst hm hk
  obtain ⟨c, w', hrun, ho2, hk⟩ := item_elem.run_append_tight 52 o.type hown (row_src4 hr hm0) hm0 (by unfold maxLen; omega) (by omega) W hb
  refine wp_appended (V := fun w' v => w'.ownsRow W 35 4 v (p.length + l.length) (itCells (p ++ l))) ho hx e hrun hk ?_
  rw [itC_app]; exact ho2
end
end Go.Proofs.YtoepgbpmcjnbmaaGreatDoor.flashBetween
