/-
  WHAT THE PROGRAM's VECTORS ANSWER (the face of layer 11), however it reckons; rows of vectors.
-/
import Derived.Test.YtdgpdooikfamlaaVcOf
import Derived.Test.YtdgpdooikfamlaaInvG
import Derived.Test.YtdgpdooikfamlaaNumMath
import Derived.Lib.SmallJoins
namespace Go.Proofs.Ytdgpdooikfamlaa
open Go Go.RowKit Go.Joins

/-- A vector that may be: the place 0 is 0, the others fit a machine and are not below 0. -/
structure VOk (f : Nat → Int) : Prop where
  zero : f 0 = 0
  low : ∀ i, 0 ≤ f i
  high : ∀ i, f i < 9223372036854775808
def maxF (f : Nat → Int) (gs : List (Nat → Int)) : Nat → Int := fun i => gs.foldl (fun m g => max m (g i)) (f i)
def minF (f : Nat → Int) (gs : List (Nat → Int)) : Nat → Int := fun i => gs.foldl (fun m g => min m (g i)) (f i)
def hasB (f g : Nat → Int) : Bool := (List.range 6).all fun i => decide (g i ≤ f i)
def eqB (f g : Nat → Int) : Bool := (List.range 6).all fun i => decide (f i = g i)
def isNode (z : Int) : Bool := decide (1 ≤ z) && decide (z ≤ 5)
def setF (f : Nat → Int) (z n : Int) : Nat → Int := if isNode z then upd f z.toNat (max 0 n) else f
def getF (f : Nat → Int) (z : Int) : Int := if isNode z then f z.toNat else 0
def smallB (f : Nat → Int) : Bool := (List.range 6).all fun i => decide (f i ≤ 1099511627776)
def encV (f : Nat → Int) : List UInt8 := putZ (f 1) ++ (putZ (f 2) ++ (putZ (f 3) ++ (putZ (f 4) ++ putZ (f 5))))
/-- Vectors behind one another, as cells. -/
def vrow (gs : List (Nat → Int)) : List Value := gs.flatMap fun g => (vcells g).toList
theorem vrow_len (gs : List (Nat → Int)) : (vrow gs).length = gs.length * 6 := by
  induction gs with
  | nil => rfl
  | cons g gs ih =>
    have e : vrow (g :: gs) = (vcells g).toList ++ vrow gs := by simp [vrow]
    rw [e, List.length_append, ih, List.length_cons]
    show 6 + _ = _
    omega
theorem vrow_at (gs : List (Nat → Int)) (j i : Nat) (hj : j < gs.length) (hi : i < 6) : (vrow gs)[j * 6 + i]? = some (.int .i64 (gs[j] i)) := by
  induction gs generalizing j with
  | nil => simp at hj
  | cons g gs ih =>
    have e : vrow (g :: gs) = (vcells g).toList ++ vrow gs := by simp [vrow]
    have e6 : (vcells g).toList.length = 6 := rfl
    rw [e]
    cases j with
    | zero =>
      rw [Nat.zero_mul, Nat.zero_add, List.getElem?_append_left (by rw [e6]; exact hi), Array.getElem?_toList]
      exact vcells_at g i hi
    | succ j =>
      rw [List.getElem?_append_right (by rw [e6]; omega), e6, show (j + 1) * 6 + i - 6 = j * 6 + i by omega, ih j (by simpa using hj)]
      rfl
theorem vrow_snoc (gs : List (Nat → Int)) (g : Nat → Int) : vrow (gs ++ [g]) = vrow gs ++ (vcells g).toList := by simp [vrow]
/-- A slice of vectors. -/
def VRow (w : World) (A : Option Addr) (F : Nat → Prop) (gs : List (Nat → Int)) : Prop := Row w A F (vrow gs)
theorem VRow.at_ {w : World} {A : Option Addr} {F : Nat → Prop} {gs : List (Nat → Int)} (h : VRow w A F gs) {j : Nat} (hj : j < gs.length) : ∃ b o, A = some ⟨b, o, none⟩ ∧ F b ∧ ∀ i, i < 6 → w.cell? ⟨b, o + j * 6 + i, none⟩ = some (.int .i64 (gs[j] i)) := by
  obtain ⟨b, o, e, hF, hc⟩ := h (fun e => by have := vrow_len gs; rw [e] at this; simp at this; omega)
  exact ⟨b, o, e, hF, fun i hi => by rw [Nat.add_assoc]; exact hc _ _ (vrow_at gs j i hj hi)⟩

structure VectorOK where
  T : World → Prop
  tk : ∀ {w w' : World}, T w → Kp w w' → T w'
  of : ∀ (w : World) (A : Option Addr) (c : Nat) (l : List Int), T w → Row w A (fun _ => True) (l.map (Value.int .i64)) → l.length ≤ c → c ≤ maxLen →
    Calls Try.prog 10 #[.slice A l.length c] w fun e w' => e = .returned (vagg (ofF l (min l.length 5))) ∧ Kp w w'
  get : ∀ (w : World) (f : Nat → Int) (z : Int), T w → VOk f →
    Calls Try.prog 21 #[vagg f, .int .i64 z] w fun e w' => e = .returned (.int .i64 (getF f z)) ∧ Kp w w'
  set : ∀ (w : World) (f : Nat → Int) (z n : Int), T w → VOk f →
    Calls Try.prog 14 #[vagg f, .int .i64 z, .int .i64 n] w fun e w' => e = .returned (vagg (setF f z n)) ∧ Kp w w'
  max_ : ∀ (w : World) (f : Nat → Int) (A : Option Addr) (c : Nat) (gs : List (Nat → Int)), T w → VOk f → (∀ g ∈ gs, VOk g) → VRow w A (fun _ => True) gs → gs.length ≤ c → c ≤ maxLen →
    Calls Try.prog 12 #[vagg f, .slice A gs.length c] w fun e w' => e = .returned (vagg (maxF f gs)) ∧ Kp w w'
  min_ : ∀ (w : World) (f : Nat → Int) (A : Option Addr) (c : Nat) (gs : List (Nat → Int)), T w → VOk f → (∀ g ∈ gs, VOk g) → VRow w A (fun _ => True) gs → gs.length ≤ c → c ≤ maxLen →
    Calls Try.prog 13 #[vagg f, .slice A gs.length c] w fun e w' => e = .returned (vagg (minF f gs)) ∧ Kp w w'
  has : ∀ (w : World) (f g : Nat → Int), T w → VOk f → VOk g →
    Calls Try.prog 15 #[vagg f, vagg g] w fun e w' => e = .returned (.bool (hasB f g)) ∧ Kp w w'
  encode : ∀ (w : World) (f : Nat → Int), T w → VOk f → smallB f = true →
    Calls Try.prog 17 #[vagg f] w fun e w' => ∃ A c, e = .returned (.slice A (encV f).length c) ∧ (encV f).length ≤ c ∧ c ≤ maxLen ∧ Row w' A (fun b => w.heap.size ≤ b ∧ b < w'.heap.size) (bcells (encV f)) ∧ Kp w w'
  encodeNo : ∀ (w : World) (f : Nat → Int), T w → VOk f → smallB f = false →
    Calls Try.prog 17 #[vagg f] w fun e w' => (∃ A c, e = .returned (.slice A 0 c)) ∧ Kp w w'
  decode : ∀ (w : World) (f : Nat → Int) (A : Option Addr) (c : Nat), T w → VOk f → smallB f = true → Row w A (fun _ => True) (bcells (encV f)) → (encV f).length ≤ c → c ≤ maxLen →
    Calls Try.prog 18 #[.slice A (encV f).length c] w fun e w' => e = .returned (.tuple #[vagg f, .int .i64 0]) ∧ Kp w w'
  decodeNo : ∀ (w : World) (A : Option Addr) (c : Nat) (b : List UInt8), T w → (∀ f, VOk f → smallB f = true → encV f ≠ b) → Row w A (fun _ => True) (bcells b) → b.length ≤ c → c ≤ maxLen → b.length ≤ 1000000 →
    Calls Try.prog 18 #[.slice A b.length c] w fun e w' => e = .returned (.tuple #[vagg (fun _ => 0), .int .i64 1]) ∧ Kp w w'

/-! ### Vectors -/
theorem VOk.nil : VOk fun _ => 0 := ⟨rfl, fun _ => Int.le_refl 0, fun _ => by decide⟩
theorem VOk.of {l : List Int} (h : ∀ x ∈ l, x < 9223372036854775808) (k : Nat) : VOk (ofF l k) := by
  refine ⟨by unfold ofF; rw [if_neg (by omega)], fun i => ?_, fun i => ?_⟩
  · unfold ofF; split <;> omega
  · unfold ofF
    split
    · have : l.getD (i - 1) 0 < 9223372036854775808 := by
        rw [List.getD_eq_getElem?_getD]
        cases hx : l[i - 1]? with
        | none => decide
        | some x => exact h x (List.mem_of_getElem? hx)
      omega
    · decide
theorem maxF_cons (f g : Nat → Int) (gs : List (Nat → Int)) : maxF f (g :: gs) = maxF (maxF f [g]) gs := rfl
theorem minF_cons (f g : Nat → Int) (gs : List (Nat → Int)) : minF f (g :: gs) = minF (minF f [g]) gs := rfl
theorem VOk.max1 {f g : Nat → Int} (hf : VOk f) (hg : VOk g) : VOk (maxF f [g]) := by
  refine ⟨?_, fun i => ?_, fun i => ?_⟩
  · show max (f 0) (g 0) = 0; rw [hf.zero, hg.zero]; rfl
  · show 0 ≤ max (f i) (g i); have := hf.low i; omega
  · show max (f i) (g i) < _; have := hf.high i; have := hg.high i; omega
theorem VOk.min1 {f g : Nat → Int} (hf : VOk f) (hg : VOk g) : VOk (minF f [g]) := by
  refine ⟨?_, fun i => ?_, fun i => ?_⟩
  · show min (f 0) (g 0) = 0; rw [hf.zero, hg.zero]; rfl
  · show 0 ≤ min (f i) (g i); have := hf.low i; have := hg.low i; omega
  · show min (f i) (g i) < _; have := hf.high i; omega
theorem VOk.max_ {gs : List (Nat → Int)} {f : Nat → Int} (hf : VOk f) (hg : ∀ g ∈ gs, VOk g) : VOk (maxF f gs) := by
  induction gs generalizing f with
  | nil => exact hf
  | cons g gs ih => rw [maxF_cons]; exact ih (hf.max1 (hg g List.mem_cons_self)) fun x hx => hg x (List.mem_cons_of_mem _ hx)
theorem VOk.min_ {gs : List (Nat → Int)} {f : Nat → Int} (hf : VOk f) (hg : ∀ g ∈ gs, VOk g) : VOk (minF f gs) := by
  induction gs generalizing f with
  | nil => exact hf
  | cons g gs ih => rw [minF_cons]; exact ih (hf.min1 (hg g List.mem_cons_self)) fun x hx => hg x (List.mem_cons_of_mem _ hx)
theorem VOk.set {f : Nat → Int} (hf : VOk f) (z : Int) {n : Int} (hn : n < 9223372036854775808) : VOk (setF f z n) := by
  unfold setF
  cases h : isNode z with
  | false => exact hf
  | true =>
    unfold isNode at h
    simp only [Bool.and_eq_true, decide_eq_true_eq] at h
    refine ⟨?_, fun i => ?_, fun i => ?_⟩
    · show upd f z.toNat (max 0 n) 0 = 0
      unfold upd; rw [if_neg (by omega)]; exact hf.zero
    · show 0 ≤ upd f z.toNat (max 0 n) i
      unfold upd; split
      · omega
      · exact hf.low i
    · show upd f z.toNat (max 0 n) i < _
      unfold upd; split
      · omega
      · exact hf.high i
theorem eqB_iff {f g : Nat → Int} : eqB f g = true ↔ ∀ i, i < 6 → f i = g i := by simp [eqB]
theorem eqB_refl (f : Nat → Int) : eqB f f = true := eqB_iff.2 fun _ _ => rfl
theorem hasB_iff {f g : Nat → Int} : hasB f g = true ↔ ∀ i, i < 6 → g i ≤ f i := by simp [hasB]
theorem smallB_iff {f : Nat → Int} : smallB f = true ↔ ∀ i, i < 6 → f i ≤ 1099511627776 := by simp [smallB]
theorem vagg_eq {f g : Nat → Int} (h : ∀ i, i < 6 → f i = g i) : vagg f = vagg g := by
  unfold vagg vcells
  rw [h 0 (by decide), h 1 (by decide), h 2 (by decide), h 3 (by decide), h 4 (by decide), h 5 (by decide)]

/-! ### The operations -/
section
variable {o : Oper} {a : Act} {w : World} {Q : Exit → Act → World → Prop} {x y z : Operand}
theorem kp_ldV {g : Nat} {t : TypeId} {f : Nat → Int} (h : VBlk w g t f) (ho : o.op = .load 26 x) (hx : a.eval x = .pointer (some ⟨g, 0, none⟩)) : o.wp Try.prog a w (fun a' w' => ∃ v, a' = a.put o.dst v ∧ Kp w w' ∧ IsV (vagg f) w' v) Q := by
  have c0 := h.at_ 0 (by decide)
  have c1 := h.at_ 1 (by decide)
  have c2 := h.at_ 2 (by decide)
  have c3 := h.at_ 3 (by decide)
  have c4 := h.at_ 4 (by decide)
  have c5 := h.at_ 5 (by decide)
  refine kp_yield (v := vagg f) (w' := w) ?_ (Keeps.refl _ _) rfl
  generalize a.eval = ρ at hx ⊢
  unfold execOp vagg vcells
  rw [ho]
  go_simp
theorem kp_ldW {g : Nat} {t : TypeId} {f : Nat → Int} (h : VBlk w g t f) (ho : o.op = .load 24 x) (hx : a.eval x = .pointer (some ⟨g, 0, none⟩)) : o.wp Try.prog a w (fun a' w' => ∃ v, a' = a.put o.dst v ∧ Kp w w' ∧ IsV (vagg f) w' v) Q := by
  have c0 := h.at_ 0 (by decide)
  have c1 := h.at_ 1 (by decide)
  have c2 := h.at_ 2 (by decide)
  have c3 := h.at_ 3 (by decide)
  have c4 := h.at_ 4 (by decide)
  have c5 := h.at_ 5 (by decide)
  refine kp_yield (v := vagg f) (w' := w) ?_ (Keeps.refl _ _) rfl
  generalize a.eval = ρ at hx ⊢
  unfold execOp vagg vcells
  rw [ho]
  go_simp
/-- Vectors in a new block. -/
def VNew (gs : List (Nat → Int)) (w : World) (v : Value) : Prop := ∃ B, v = .slice (some ⟨B, 0, none⟩) gs.length gs.length ∧ VRow w (some ⟨B, 0, none⟩) (fun _ => True) gs
theorem VNew.keep {gs : List (Nat → Int)} {w w' : World} {v : Value} (h : VNew gs w v) (hk : Kp w w') : VNew gs w' v := by
  obtain ⟨B, e, hr⟩ := h
  exact ⟨B, e, Row.keep hr hk⟩
theorem kp_vs1 {f : Nat → Int} (ho : o.op = .buildSlice 44 1 #[(0, x)]) (hx : a.eval x = vagg f) : o.wp Try.prog a w (fun a' w' => ∃ v, a' = a.put o.dst v ∧ Kp w w' ∧ VNew [f] w' v) Q := by
  refine kp_yield (V := VNew [f]) (v := .slice (some ⟨w.heap.size, 0, none⟩) 1 1) (w' := w.alloc (.cells (vcells f) 26)) ?_ ((Keeps.refl _ _).alloc _) ⟨_, rfl, ?_⟩
  · generalize a.eval = ρ at hx ⊢
    unfold execOp
    unfold vagg vcells at hx
    unfold vcells
    rw [ho]
    go_simp
  · exact Row.fresh w (vcells f) 26 (0, 0) _ rfl trivial _ (by simp [vrow])
theorem kp_vs2 {f g : Nat → Int} (ho : o.op = .buildSlice 44 2 #[(0, x), (1, y)]) (hx : a.eval x = vagg f) (hy : a.eval y = vagg g) : o.wp Try.prog a w (fun a' w' => ∃ v, a' = a.put o.dst v ∧ Kp w w' ∧ VNew [f, g] w' v) Q := by
  refine kp_yield (V := VNew [f, g]) (v := .slice (some ⟨w.heap.size, 0, none⟩) 2 2) (w' := w.alloc (.cells (vcells f ++ vcells g) 26)) ?_ ((Keeps.refl _ _).alloc _) ⟨_, rfl, ?_⟩
  · generalize a.eval = ρ at hx hy ⊢
    unfold execOp
    unfold vagg vcells at hx hy
    unfold vcells
    rw [ho]
    go_simp
  · exact Row.fresh w (vcells f ++ vcells g) 26 (0, 0) _ rfl trivial _ (by simp [vrow])
end

end Go.Proofs.Ytdgpdooikfamlaa
