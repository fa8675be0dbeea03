/-
  A ROW OF VECTORS of a law's own; the greatest, the least of many, in whatever order.
-/
import Derived.Test.YtdgpdooikfamlaaVcLocs
namespace Go.Proofs.Ytdgpdooikfamlaa
open Go Go.RowKit Go.Joins

/-- A slice of numbers that came in. -/
structure IPart where
  A : Option Addr
  cap : Nat
  l : List Int
instance : Inhabited IPart := ⟨⟨none, 0, []⟩⟩
def IPart.val (p : IPart) : Value := .slice p.A p.l.length p.cap
structure IPart.Fits (W : World) (p : IPart) : Prop where
  len : p.l.length ≤ p.cap
  cap : p.cap ≤ maxLen
  row : Row W p.A (fun b => b < W.heap.size) (p.l.map (Value.int .i64))
  small : ∀ x ∈ p.l, x < 9223372036854775808
def IPart.f (p : IPart) : Nat → Int := ofF p.l (min p.l.length 5)
theorem vec_elem : Elem Try.prog 44 26 (.agg #[.int .i64 0, .int .i64 0, .int .i64 0, .int .i64 0, .int .i64 0, .int .i64 0]) 6 48 := ⟨Try.underlying44, by kernel_rfl, rfl, by decide⟩
theorem src_vec (w : World) (f : Nat → Int) (b : Nat) (hb : b = w.heap.size) (c : Nat) (t : TypeId) : Src Try.prog 6 44 (.slice (some ⟨b, 0, none⟩) 1 c) 1 (vcells f).toList (w.alloc (.cells (vcells f) t)) := by
  subst hb
  refine Src.ofSlice _ Try.underlying44 _ 1 c _ rfl (fun j u hu => ?_) (fun u hu => ?_)
  · have hb := heap_alloc_new w (.cells (vcells f) t)
    rw [WideShapes.add_plain, Nat.zero_add]
    have hj : j < 6 := by
      have := (List.getElem?_eq_some_iff.1 hu).1
      simpa [vcells] using this
    rw [Array.getElem?_toList] at hu
    exact (cell_of_block hb j).trans hu
  · simp [vcells] at hu
    rcases hu with rfl | rfl | rfl | rfl | rfl | rfl <;> rfl
theorem own_form6 {w : World} {base n : Nat} {e : TypeId} {v : Value} {xs : List Value} (h : w.ownsRow base e 6 v n xs) : ∃ A c, v = .slice A n c ∧ n ≤ c ∧ c ≤ maxLen ∧ (0 < n → ∃ g, A = some ⟨g, 0, none⟩) := by
  rcases h.2 with ⟨rfl, h0⟩ | ⟨g, cap, cur, rfl, hb, hg, h1, h2, r⟩
  · exact ⟨none, 0, by rw [h0], by omega, Nat.zero_le _, fun h => by omega⟩
  · exact ⟨_, _, rfl, h1, h2, fun _ => ⟨g, rfl⟩⟩
theorem VRow.of_own {w : World} {base n c : Nat} {A : Option Addr} {e : TypeId} {gs : List (Nat → Int)} (h : w.ownsRow base e 6 (.slice A n c) n (vrow gs)) (hn : n = gs.length) : VRow w A (fun _ => True) gs := by
  intro hne
  have hp : 0 < n := by
    rcases Nat.eq_zero_or_pos n with h0 | h0
    · exfalso
      have hl := vrow_len gs
      rw [← hn, h0, Nat.zero_mul] at hl
      exact hne (List.eq_nil_of_length_eq_zero hl)
    · exact h0
  obtain ⟨g, cap, e, hb, -⟩ := h.form hp
  injection e with e1 e2 e3
  subst e1
  refine ⟨g, 0, rfl, trivial, fun i v hv => ?_⟩
  have := h.cells (g := g) rfl i v hv
  rwa [WideShapes.add_plain] at this
/-- Six cells within a row. -/
def SixR (w : World) (g j : Nat) (f : Nat → Int) : Prop := w.cell? ⟨g, j * 6, none⟩ = some (.int .i64 (f 0)) ∧ w.cell? ⟨g, j * 6 + 1, none⟩ = some (.int .i64 (f 1)) ∧ w.cell? ⟨g, j * 6 + 2, none⟩ = some (.int .i64 (f 2)) ∧ w.cell? ⟨g, j * 6 + 3, none⟩ = some (.int .i64 (f 3)) ∧ w.cell? ⟨g, j * 6 + 4, none⟩ = some (.int .i64 (f 4)) ∧ w.cell? ⟨g, j * 6 + 5, none⟩ = some (.int .i64 (f 5))
theorem VRow.six {w : World} {g : Nat} {F : Nat → Prop} {gs : List (Nat → Int)} (h : VRow w (some ⟨g, 0, none⟩) F gs) {j : Nat} (hj : j < gs.length) : SixR w g j gs[j] := by
  obtain ⟨b, o, e, -, hc⟩ := h.at_ hj
  injection e with e
  injection e with e1 e2
  subst e1 e2
  have c := fun i (hi : i < 6) => hc i hi
  simp only [Nat.zero_add] at c
  exact ⟨by simpa using c 0 (by decide), c 1 (by decide), c 2 (by decide), c 3 (by decide), c 4 (by decide), c 5 (by decide)⟩
section
variable {o : Oper} {a : Act} {w : World} {Q : Exit → Act → World → Prop} {x y z : Operand}
theorem kp_ixR {g n c j : Nat} (hj : j < n) (ho : o.op = .indexAddr 44 x y) (hx : a.eval x = .slice (some ⟨g, 0, none⟩) n c) (hy : a.eval y = .int .i64 (j : Int)) :
    o.wp Try.prog a w (fun a' w' => ∃ v, a' = a.put o.dst v ∧ Kp w w' ∧ IsV (.pointer (some ⟨g, j * 6, none⟩)) w' v) Q := by
  refine kp_yield (v := .pointer (some ⟨g, j * 6, none⟩)) (w' := w) ?_ (Keeps.refl _ _) rfl
  generalize a.eval = ρ at hx hy ⊢
  unfold execOp
  rw [ho]
  go_simp
theorem kp_ldR {g j : Nat} {f : Nat → Int} (h : SixR w g j f) (ho : o.op = .load 26 x) (hx : a.eval x = .pointer (some ⟨g, j * 6, none⟩)) : o.wp Try.prog a w (fun a' w' => ∃ v, a' = a.put o.dst v ∧ Kp w w' ∧ IsV (vagg f) w' v) Q := by
  obtain ⟨c0, c1, c2, c3, c4, c5⟩ := h
  refine kp_yield (v := vagg f) (w' := w) ?_ (Keeps.refl _ _) rfl
  generalize a.eval = ρ at hx ⊢
  unfold execOp vagg vcells
  rw [ho]
  go_simp
theorem kp_lenR {A : Option Addr} {n c : Nat} (ho : o.op = .call { callee := .builtin .len, args := #[x], argTypes := #[44] }) (hx : a.eval x = .slice A n c) : o.wp Try.prog a w (fun a' w' => ∃ v, a' = a.put o.dst v ∧ Kp w w' ∧ IsV (.int .i64 (n : Int)) w' v) Q := by
  refine kp_yield (v := .int .i64 (n : Int)) (w' := w) ?_ (Keeps.refl _ _) rfl
  generalize a.eval = ρ at hx ⊢
  unfold execOp
  rw [ho]
  go_simp
theorem kp_remZ {m n : Nat} (hm : (m : Int) < 9223372036854775808) (hn : 0 < n) (ho : o.op = .binOp .rem 3 x y 3) (hx : a.eval x = .int .i64 (m : Int)) (hy : a.eval y = .int .i64 (n : Int)) : o.wp Try.prog a w (fun a' w' => ∃ v, a' = a.put o.dst v ∧ Kp w w' ∧ IsV (.int .i64 ((m % n : Nat) : Int)) w' v) Q := by
  have hrm : ((m : Int).tmod (n : Int)) = ((m % n : Nat) : Int) := by rw [← Int.ofNat_tmod]
  have h0 : (n : Int) ≠ 0 := by omega
  have hlt := Nat.mod_le m n
  generalize m % n = q at hrm hlt ⊢
  have hw : IntKind.i64.wrap (q : Int) = (q : Int) := by rw [IntKind.wrap_i64]; omega
  refine kp_yield (v := .int .i64 (q : Int)) (w' := w) ?_ (Keeps.refl _ _) rfl
  generalize a.eval = ρ at hx hy ⊢
  unfold execOp
  rw [ho]
  go_simp
  omega
theorem kp_addZ {m n : Nat} (hm : m ≤ 1000000) (hn : n ≤ 1000000) (ho : o.op = .binOp .add 3 x y 3) (hx : a.eval x = .int .i64 (m : Int)) (hy : a.eval y = .int .i64 (n : Int)) : o.wp Try.prog a w (fun a' w' => ∃ v, a' = a.put o.dst v ∧ Kp w w' ∧ IsV (.int .i64 ((m + n : Nat) : Int)) w' v) Q := by
  refine kp_yield (v := .int .i64 ((m + n : Nat) : Int)) (w' := w) ?_ (Keeps.refl _ _) rfl
  generalize a.eval = ρ at hx hy ⊢
  unfold execOp
  rw [ho]
  go_simp
  rw [IntKind.wrap_i64]
  omega
theorem kp_minR (S : VectorOK) {f : Nat → Int} {gs : List (Nat → Int)} {A : Option Addr} {n c : Nat} (hT : S.T w) (hf : VOk f) (hg : ∀ g ∈ gs, VOk g) (hr : VRow w A (fun _ => True) gs) (hn : n = gs.length) (hc : gs.length ≤ c) (hcm : c ≤ maxLen) (ho : o.op = .call { callee := .value (.func 13), args := #[x, y], argTypes := #[26, 44] }) (hx : a.eval x = vagg f) (hy : a.eval y = .slice A n c) :
    o.wp Try.prog a w (fun a' w' => ∃ v', a' = a.put o.dst v' ∧ Kp w w' ∧ IsV (vagg (minF f gs)) w' v') Q := by
  subst hn
  have he : a.eval (.func 13) = .func (.func 13) #[] #[] := rfl
  refine kp_callV (F := 13) (args := #[vagg f, .slice A gs.length c]) ?_ (S.min_ w f A c gs hT hf hg hr hc hcm)
  generalize a.eval = ρ at hx hy he ⊢
  unfold execOp
  rw [ho]
  go_simp
end

/-! ### The greatest, the least -/
theorem maxF_ge (f : Nat → Int) (gs : List (Nat → Int)) (i : Nat) : f i ≤ maxF f gs i ∧ ∀ g ∈ gs, g i ≤ maxF f gs i := by
  induction gs generalizing f with
  | nil => exact ⟨Int.le_refl _, fun g hg => by cases hg⟩
  | cons a gs ih =>
    rw [maxF_cons]
    have h := ih (maxF f [a])
    have h1 : maxF f [a] i = max (f i) (a i) := rfl
    rw [h1] at h
    refine ⟨by omega, fun g hg => ?_⟩
    rcases List.mem_cons.1 hg with rfl | hg
    · omega
    · exact h.2 g hg
theorem maxF_is (f : Nat → Int) (gs : List (Nat → Int)) (i : Nat) : maxF f gs i = f i ∨ ∃ g ∈ gs, maxF f gs i = g i := by
  induction gs generalizing f with
  | nil => exact .inl rfl
  | cons a gs ih =>
    rw [maxF_cons]
    have h1 : maxF f [a] i = max (f i) (a i) := rfl
    rcases ih (maxF f [a]) with h | ⟨g, hg, h⟩
    · rw [h, h1]
      rcases Int.le_total (f i) (a i) with hh | hh
      · exact .inr ⟨a, List.mem_cons_self, by omega⟩
      · exact .inl (by omega)
    · exact .inr ⟨g, List.mem_cons_of_mem _ hg, h⟩
theorem minF_le (f : Nat → Int) (gs : List (Nat → Int)) (i : Nat) : minF f gs i ≤ f i ∧ ∀ g ∈ gs, minF f gs i ≤ g i := by
  induction gs generalizing f with
  | nil => exact ⟨Int.le_refl _, fun g hg => by cases hg⟩
  | cons a gs ih =>
    rw [minF_cons]
    have h := ih (minF f [a])
    have h1 : minF f [a] i = min (f i) (a i) := rfl
    rw [h1] at h
    refine ⟨by omega, fun g hg => ?_⟩
    rcases List.mem_cons.1 hg with rfl | hg
    · omega
    · exact h.2 g hg
/-- Of the same vectors, in whatever order. -/
theorem maxF_same {f g : Nat → Int} {fs gs : List (Nat → Int)} (h1 : f ∈ gs) (h2 : ∀ x ∈ fs, x ∈ gs) (h3 : g ∈ fs) (h4 : ∀ x ∈ gs, x ∈ fs) (i : Nat) : maxF f fs i = maxF g gs i := by
  have a := maxF_ge f fs i
  have b := maxF_ge g gs i
  apply Int.le_antisymm
  · rcases maxF_is f fs i with h | ⟨x, hx, h⟩
    · rw [h]; exact b.2 f h1
    · rw [h]; exact b.2 x (h2 x hx)
  · rcases maxF_is g gs i with h | ⟨x, hx, h⟩
    · rw [h]; exact a.2 g h3
    · rw [h]; exact a.2 x (h4 x hx)
theorem maxF_snoc (f : Nat → Int) (gs : List (Nat → Int)) (g : Nat → Int) : maxF f (gs ++ [g]) = maxF (maxF f gs) [g] := by
  funext i
  show (gs ++ [g]).foldl _ (f i) = _
  rw [List.foldl_append]
  rfl
/-- Turned round by t. -/
def rotR (gs : List (Nat → Int)) (t k : Nat) : List (Nat → Int) := (List.range k).map fun i => gs.getD ((i + t) % gs.length) (fun _ => 0)
theorem rotR_next (gs : List (Nat → Int)) (t k : Nat) : rotR gs t (k + 1) = rotR gs t k ++ [gs.getD ((k + t) % gs.length) (fun _ => 0)] := by
  unfold rotR
  rw [List.range_succ, List.map_append]
  rfl
theorem rotR_mem {gs : List (Nat → Int)} (h0 : 0 < gs.length) (t : Nat) : (∀ x ∈ rotR gs t gs.length, x ∈ gs) ∧ ∀ x ∈ gs, x ∈ rotR gs t gs.length := by
  constructor
  · intro x hx
    obtain ⟨i, hi, rfl⟩ := List.mem_map.1 hx
    have hl : (i + t) % gs.length < gs.length := Nat.mod_lt _ h0
    rw [List.getD_eq_getElem?_getD, List.getElem?_eq_getElem hl]
    exact List.getElem_mem hl
  · intro x hx
    obtain ⟨j, hj, rfl⟩ := List.getElem_of_mem hx
    have ht : t % gs.length < gs.length := Nat.mod_lt _ h0
    refine List.mem_map.2 ⟨(j + (gs.length - t % gs.length)) % gs.length, List.mem_range.2 (Nat.mod_lt _ h0), ?_⟩
    have e : ((j + (gs.length - t % gs.length)) % gs.length + t) % gs.length = j := by
      rw [Nat.mod_add_mod]
      have h1 : j + (gs.length - t % gs.length) + t = j + gs.length * (t / gs.length + 1) := by
        have h2 := Nat.div_add_mod t gs.length
        have h3 : gs.length * (t / gs.length + 1) = gs.length * (t / gs.length) + gs.length := Nat.mul_succ _ _
        omega
      rw [h1, Nat.add_mul_mod_self_left]
      exact Nat.mod_eq_of_lt hj
    rw [e, List.getD_eq_getElem?_getD, List.getElem?_eq_getElem hj]
    rfl

end Go.Proofs.Ytdgpdooikfamlaa
