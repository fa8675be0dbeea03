/-
  FlashBetween: rows of entries in memory; what its last region's operations leave; what a put does to the look-up. (Small lemmas for the walk.)
-/
import Derived.Test.YtoepgbpmcjnbmaaGreatDoorFlashWnt
namespace Go.Proofs.YtoepgbpmcjnbmaaGreatDoor.flashBetween
open Go Go.RowKit Go.Joins Go.Proofs.YtoepgbpmcjnbmaaGreatDoor
theorem own_any4 {w : World} {base n c : Nat} {A : Option Addr} {xs : List Value} (h : w.ownsRow base 35 4 (.slice A n c) n xs) : n ≤ c ∧ c ≤ 9223372036854775807 ∧ (A = none → c = 0) := by
  rcases h.2 with ⟨h', h0⟩ | ⟨g', cap', cur, h', _, _, h1, h2, _⟩
  · injection h' with a1 a2 a3
    subst a2 a3
    exact ⟨Nat.le_refl _, Nat.zero_le _, fun _ => rfl⟩
  · injection h' with a1 a2 a3
    subst a1 a3
    unfold maxLen at h2
    exact ⟨h1, by omega, fun h => by cases h⟩
theorem own_form9 {w : World} {base n size : Nat} {e : TypeId} {v : Value} {xs : List Value} (h : w.ownsRow base e size v n xs) : ∃ A c, v = .slice A n c := by
  rcases h.2 with ⟨rfl, h0⟩ | ⟨g, cap, cur, rfl, r⟩
  · exact ⟨none, 0, by rw [h0]⟩
  · exact ⟨_, _, rfl⟩
theorem own_rowany {w : World} {base n c : Nat} {A : Option Addr} {l : List It} (h : w.ownsRow base 35 4 (.slice A n c) n (itCells l)) (hn : n = l.length) : Row w A (fun b => base ≤ b ∧ b < w.heap.size) (itCells l) := by
  rcases Nat.eq_zero_or_pos n with h0 | h0
  · obtain rfl : l = [] := List.eq_nil_of_length_eq_zero (by omega)
    exact Row.nil _ _ _
  · exact own_row4 h h0
theorem own_first4 {w : World} {base n c k : Nat} {A : Option Addr} {l : List It} (h : w.ownsRow base 35 4 (.slice A n c) n (itCells l)) (hn : n = l.length) (hk : k ≤ n) : OwnLe w base 35 4 (.slice A k k) k (itCells (l.take k)) := by
  rcases h.2 with ⟨h1, h0⟩ | ⟨g, cap, cur, h1, -⟩
  · injection h1 with h1 _ h2
    subst h1
    obtain rfl : k = 0 := by omega
    rw [List.take_zero]
    exact OwnLe.nil _ _ _ _
  · injection h1 with h1 _ h8
    subst h1 h8
    rw [← itC_take]
    exact (OwnLe.of_own h).first hk
theorem its_row {w : World} {A : Option Addr} {F : Nat → Prop} {l : List It} (h : ItsAt w A F l) : Row w A F (itCells l) := by
  intro hne
  have hl : 0 < l.length := by
    have := itCells_len l
    have h2 := List.length_pos_iff.2 hne
    omega
  obtain ⟨b, o, e, hF, -⟩ := h 0 hl
  refine ⟨b, o, e, hF, fun i v hv => ?_⟩
  have hi : i < l.length * 4 := by
    have := (List.getElem?_eq_some_iff.1 hv).1
    rw [itCells_len] at this
    exact this
  obtain ⟨k, r, hr, rfl⟩ : ∃ k r, r < 4 ∧ i = k * 4 + r := ⟨i / 4, i % 4, by omega, by omega⟩
  have hk : k < l.length := by omega
  rw [itCells_at l k r hk hr] at hv
  obtain ⟨b', o', e', -, c0, c1, c2, c3⟩ := h k hk
  rw [e] at e'
  injection e' with e'
  injection e' with e1 e2
  subst e1 e2
  have h4 : r = 0 ∨ r = 1 ∨ r = 2 ∨ r = 3 := by omega
  rcases h4 with rfl | rfl | rfl | rfl <;> (injection hv with hv; subst hv)
  · exact c0
  · exact c1
  · exact c2
  · exact c3
theorem its_key {w : World} {A : Option Addr} {F : Nat → Prop} {l : List It} {k : Nat} (h : ItsAt w A F l) (hk : k < l.length) : ∃ b o, A = some ⟨b, o, none⟩ ∧ w.cell? ⟨b, o + k * 4, none⟩ = some (.string l[k].key) := by
  obtain ⟨b, o, e, -, c0, -⟩ := h k hk
  exact ⟨b, o, e, c0⟩
def VB (base W n c k i : Nat) (A LA : Option Addr) (m lc b f : Nat) (want : List It) (y : It) : Nat → World → Value → Prop
  | 0 => IsV (.slice A n c)
  | 1 => IsV (.int .i64 (k : Int))
  | 2 => IsV (.int .i64 (k : Int))
  | 3 => IsV (.slice A k k)
  | 4 => IsV (.slice LA m lc)
  | 5 => IsV (.int .i64 (i : Int))
  | 6 => IsV (.pointer (some ⟨b, f + i * 4, none⟩))
  | 7 => IsV (.agg #[.string y.key, .string y.val, .int .i64 y.till, .bool y.gone])
  | 8 => OneI base y
  | 9 => IsV (.slice A n c)
  | 10 => IsV (.int .i64 (k : Int))
  | 11 => IsV (.slice (cutI A k c) (n - k) (c - k))
  | 12 => InI (y :: want.drop k) (1 + (n - k))
  | 13 => fun w v => w.ownsRow W 35 4 v (k + (1 + (n - k))) (itCells (want.take k ++ y :: want.drop k))
  | 14 => fun w v => w.ownsRow W 35 4 v (k + (1 + (n - k))) (itCells (want.take k ++ y :: want.drop k))
  | _ => fun _ _ => True
theorem VB_keep {base W n c k i : Nat} {A LA : Option Addr} {m lc b f : Nat} {want : List It} {y : It} (j : Nat) (w w' : World) (v : Value) (h : Kp w w') (hv : VB base W n c k i A LA m lc b f want y j w v) : VB base W n c k i A LA m lc b f want y j w' v := by
  match j, hv with
  | 0, hv => exact hv
  | 1, hv => exact hv
  | 2, hv => exact hv
  | 3, hv => exact hv
  | 4, hv => exact hv
  | 5, hv => exact hv
  | 6, hv => exact hv
  | 7, hv => exact hv
  | 8, hv =>
    obtain ⟨g, e, ho⟩ := hv
    exact ⟨g, e, h.own ho fun _ _ => trivial⟩
  | 9, hv => exact hv
  | 10, hv => exact hv
  | 11, hv => exact hv
  | 12, hv =>
    obtain ⟨B, d, e, hr⟩ := hv
    exact ⟨B, d, e, hr.keep h⟩
  | 13, hv => exact h.own hv fun _ _ => trivial
  | 14, hv => exact h.own hv fun _ _ => trivial
  | n + 15, _ => trivial
theorem kp_passI {P : Program} {o : Oper} {a : Act} {w : World} {Q : Exit → Act → World → Prop} {x : Operand} {V : World → Value → Prop} (ho : o.op = .assign x) (hx : V w (a.eval x)) : o.wp P a w (fun a' w' => ∃ v', a' = a.put o.dst v' ∧ Kp w w' ∧ V w' v') Q := by
  refine kp_yield (v := a.eval x) (w' := w) ?_ (Keeps.refl _ _) hx
  generalize a.eval = ρ
  unfold execOp
  rw [ho]
  go_simp
def lookB (E : List FEnt) (k : ByteArray) : Option It := (fLast E 0 k).bind fun x => if x.gone then none else some x
theorem look_at (E : List FEnt) (a : Nat) : (FSt.mk 0 40 E 0 a).at_ = lookB E := rfl
theorem look_put (E : List FEnt) (y : It) (hg : y.gone = false) : lookB (E ++ [fput y]) = fun k => if k = y.key then some y else lookB E k := by
  funext k
  unfold lookB
  rw [fLast_snoc]
  by_cases h : k = y.key
  · rw [if_pos h, if_pos (show (fput y).x.key = k from h.symm)]
    show (if y.gone then none else some y) = some y
    rw [hg]; rfl
  · rw [if_neg h, if_neg (show ¬ (fput y).x.key = k from fun e => h (Eq.symm e))]
theorem look_nil (k : ByteArray) : lookB [] k = none := rfl
def InR (S : FlashOK) (lo hi : Nat) (k : ByteArray) : Prop := lo ≤ S.hash k ∧ S.hash k ≤ hi
structure WOk (S : FlashOK) (lo hi : Nat) (E : List FEnt) (want : List It) (j : Nat) : Prop where
  rise : RiseK want
  is : Wants (InR S lo hi) (lookB E) want
  len : want.length ≤ j
  cost : fcosts E ≤ 400 * j
  may : ∀ e ∈ E, e.x.may = true
section
variable {S : FlashOK} {lo hi : Nat} {E : List FEnt} {want : List It} {j : Nat} {y : It}
theorem WOk.nil : WOk S lo hi [] [] 0 := ⟨List.Pairwise.nil, fun x => by simp [look_nil], Nat.le_refl _, Nat.zero_le _, fun e he => by simp at he⟩
theorem cost_one (hm : y.may = true) : fcosts [fput y] ≤ 400 := by
  have := It.may_is hm
  show (FEnt.cost (fput y)) + 0 ≤ 400
  unfold FEnt.cost fput
  simp only
  omega
theorem WOk.pass (h : WOk S lo hi E want j) : WOk S lo hi E want (j + 1) := ⟨h.rise, h.is, Nat.le_succ_of_le h.len, by have := h.cost; omega, h.may⟩
theorem WOk.grow (h : WOk S lo hi E want j) (hm : y.may = true) {want' : List It} (h1 : RiseK want') (h2 : Wants (InR S lo hi) (lookB (E ++ [fput y])) want') (h3 : want'.length ≤ j + 1) : WOk S lo hi (E ++ [fput y]) want' (j + 1) :=
  ⟨h1, h2, h3, by rw [fcosts_append]; have := h.cost; have := cost_one hm; omega, fun e he => by
    rcases List.mem_append.1 he with he | he
    · exact h.may e he
    · rw [List.mem_singleton.1 he]; exact hm⟩
theorem WOk.skip (h : WOk S lo hi E want j) (hm : y.may = true) (hg : y.gone = false) (hR : ¬ InR S lo hi y.key) : WOk S lo hi (E ++ [fput y]) want (j + 1) :=
  h.grow hm h.rise (by rw [look_put E y hg]; exact wants_skip h.is hR) (Nat.le_succ_of_le h.len)
theorem WOk.set (h : WOk S lo hi E want j) (hm : y.may = true) (hg : y.gone = false) (hR : InR S lo hi y.key) {k : Nat} (hk : k < want.length) (h1 : ∀ t (ht : t < want.length), t < k → lessB want[t].key y.key = true) (he : want[k].key = y.key) : WOk S lo hi (E ++ [fput y]) (want.set k y) (j + 1) := by
  obtain ⟨a, -⟩ := wants_put h.is h.rise hR (Nat.le_of_lt hk) h1 (fun _ => by rw [he, lessB_irrefl])
  obtain ⟨p1, p2⟩ := a hk he
  exact h.grow hm p1 (by rw [look_put E y hg]; exact p2) (by rw [List.length_set]; exact Nat.le_succ_of_le h.len)
theorem WOk.ins (h : WOk S lo hi E want j) (hm : y.may = true) (hg : y.gone = false) (hR : InR S lo hi y.key) {k : Nat} (hk : k ≤ want.length) (h1 : ∀ t (ht : t < want.length), t < k → lessB want[t].key y.key = true) (h2 : ∀ hk : k < want.length, lessB want[k].key y.key = false) (hne : ∀ hk : k < want.length, want[k].key ≠ y.key) : WOk S lo hi (E ++ [fput y]) (want.take k ++ y :: want.drop k) (j + 1) := by
  obtain ⟨-, b⟩ := wants_put h.is h.rise hR hk h1 h2
  obtain ⟨p1, p2⟩ := b hne
  refine h.grow hm p1 (by rw [look_put E y hg]; exact p2) ?_
  have := h.len
  simp only [List.length_append, List.length_take, List.length_cons, List.length_drop]
  omega
theorem look_may (h : WOk S lo hi E want j) {x : It} (hx : x ∈ want) : x.may = true := by
  have h1 := ((h.is x).1 hx).1
  unfold lookB fLast at h1
  cases hf : (E.drop 0).reverse.find? (isKF x.key) with
  | none => rw [hf] at h1; cases h1
  | some e =>
    rw [hf] at h1
    have hm := h.may e (List.mem_of_mem_drop (List.mem_reverse.1 (List.mem_of_find?_eq_some hf)))
    change (if e.x.gone then none else some e.x) = some x at h1
    by_cases hg : e.x.gone = true
    · rw [if_pos hg] at h1; cases h1
    · rw [if_neg hg] at h1; cases h1; exact hm
end
theorem wnt_put {S : FlashOK} {W w : World} {p q a g0 g1 c j lo hi : Nat} {E : List FEnt} {IA A : Option Addr} {its want : List It} (hT : S.T W) (h : Wnt S W w p q ⟨0, 40, E, 0, a⟩ g0 g1 IA its A c want) (hw : WOk S lo hi E want j) (hj : j ≤ 8) (ha : a ≤ 20000) (y : It) (hm : y.may = true) (hg : y.gone = false) :
    Calls Tryz.prog 15 #[.pointer (some ⟨q, 0, none⟩), .agg #[.string y.key, .string y.val, .int .i64 y.till, .bool y.gone]] w fun e w' => e = .returned (.int .i64 0) ∧ Wnt S W w' p q ⟨0, 40, E ++ [fput y], 0, a + 1⟩ g0 g1 IA its A c want := by
  refine (fo_put hT h.fo ha y hm hg).mono ?_
  rintro e w' ⟨rfl, g, hgg, hf, hk⟩
  have hz : g = 0 := by
    have hok := hf.wf
    refine hok.whole ?_
    show fcosts (E ++ [fput y]) ≤ 200 * (40 - 2)
    rw [fcosts_append]
    have := hw.cost
    have := cost_one hm
    omega
  subst hz
  exact ⟨rfl, h.cache hf hk⟩
end Go.Proofs.YtoepgbpmcjnbmaaGreatDoor.flashBetween
