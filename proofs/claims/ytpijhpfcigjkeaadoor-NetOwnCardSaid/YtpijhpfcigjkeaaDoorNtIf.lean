/-
  WHAT IS ON ITS WAY (layer 20): rows of messages in memory; what a net keeps (the face), however it keeps it.
-/
import Derived.Test.YtpijhpfcigjkeaaDoorAllLaw
import Derived.Test.YtpijhpfcigjkeaaDoorMsIn
namespace Go.Proofs.YtpijhpfcigjkeaaDoor
open Go Go.RowKit Go.Joins

/-- Messages, each with where its lists lie. -/
abbrev MP := Ms × MsA
def mcs (p : MP) : List Value := (msC p.1 p.2).toList
theorem mcs_len (p : MP) : (mcs p).length = 21 := rfl
theorem mcs_one (p : MP) : ∀ v ∈ mcs p, v.oneCell' = true := msC_one p.1 p.2
def msRow (l : List MP) : List Value := l.flatMap mcs
theorem msRow_len (l : List MP) : (msRow l).length = l.length * 21 := by
  induction l with
  | nil => rfl
  | cons r l ih =>
    have e : msRow (r :: l) = mcs r ++ msRow l := by simp [msRow]
    rw [e, List.length_append, ih, List.length_cons, mcs_len]
    omega
theorem msRow_at (l : List MP) (j i : Nat) (hj : j < l.length) (hi : i < 21) : (msRow l)[j * 21 + i]? = (mcs l[j])[i]? := by
  induction l generalizing j with
  | nil => simp at hj
  | cons r l ih =>
    have e : msRow (r :: l) = mcs r ++ msRow l := by simp [msRow]
    rw [e]
    cases j with
    | zero =>
      rw [Nat.zero_mul, Nat.zero_add, List.getElem?_append_left (by rw [mcs_len]; exact hi)]
      rfl
    | succ j =>
      rw [List.getElem?_append_right (by rw [mcs_len]; omega), show (j + 1) * 21 + i - (mcs r).length = j * 21 + i by rw [mcs_len]; omega, ih j (by simpa using hj)]
      rfl
theorem msRow_snoc (l : List MP) (r : MP) : msRow (l ++ [r]) = msRow l ++ mcs r := by simp [msRow]
theorem msRow_append (l r : List MP) : msRow (l ++ r) = msRow l ++ msRow r := by simp [msRow]
theorem msRow_one (l : List MP) : ∀ v ∈ msRow l, v.oneCell' = true := fun v hv => by
  unfold msRow at hv
  obtain ⟨x, -, hx⟩ := List.mem_flatMap.1 hv
  exact mcs_one x v hx
/-- A slice of messages: its cells in blocks of kind F, the lists in blocks of kind G. -/
structure MsgsAt (w : World) (A : Option Addr) (F G : Nat → Prop) (l : List MP) : Prop where
  row : Row w A F (msRow l)
  lists : ∀ p ∈ l, MsIn w p.1 p.2 G
section
variable {w w' : World} {A : Option Addr} {F G : Nat → Prop} {l : List MP}
/-- An element's cells. -/
theorem msRow_cells (h : Row w A F (msRow l)) {j : Nat} (hj : j < l.length) : ∃ b o, A = some ⟨b, o, none⟩ ∧ F b ∧ ∀ i v, (mcs l[j])[i]? = some v → w.cell? ⟨b, o + j * 21 + i, none⟩ = some v := by
  have hl := msRow_len l
  obtain ⟨b, o, e, hF, hc⟩ := h (by intro h0; rw [h0] at hl; simp at hl; omega)
  refine ⟨b, o, e, hF, fun i v hv => ?_⟩
  have hi : i < 21 := by
    have := (List.getElem?_eq_some_iff.1 hv).1
    rwa [mcs_len] at this
  rw [Nat.add_assoc]
  exact hc _ v (by rw [msRow_at l j i hj hi]; exact hv)
end
theorem msg_elem : Elem Tryd.prog 26 36 (msV ms0 msA0) 21 256 := ⟨Tryd.underlying26, by kernel_rfl, rfl, by decide⟩
theorem msRow_src {w : World} {A : Option Addr} {F : Nat → Prop} {l : List MP} {c : Nat} (h : Row w A F (msRow l)) : Src Tryd.prog 21 26 (.slice A l.length c) l.length (msRow l) w := by
  have hl := msRow_len l
  rcases A with _ | ad
  · have hx : msRow l = [] := Classical.byContradiction fun hx => by
      obtain ⟨b, o, e, _⟩ := h hx
      cases e
    rw [hx] at hl ⊢
    have h0 : l.length = 0 := by simp at hl; omega
    rw [h0]
    exact Src.ofNil w Tryd.underlying26 c
  · refine Src.ofSlice w Tryd.underlying26 ad l.length c (msRow l) hl (fun j u hu => ?_) (msRow_one l)
    obtain ⟨b, o, e, _, hc⟩ := h (by intro h0; rw [h0] at hu; simp at hu)
    injection e with e
    subst e
    rw [WideShapes.add_plain]
    exact hc j u hu
section
variable {w : World} {ops : Array Oper} {rest : List Oper} {o : Oper} {a : Act} {Q : Exit → Act → World → Prop}
/-- A message is read out of a row, whole. -/
theorem list_loadR (hgd : Region.wanted o (yielded ops a.tmps) = true) (x : Operand) (ho : o.op = .load 36 x) (g off : Nat) (p : MP) (h : ∀ i v, (mcs p)[i]? = some v → w.cell? ⟨g, off + i, none⟩ = some v) (hx : a.eval x = .pointer (some ⟨g, off, none⟩)) (u : Value) (hu : msV p.1 p.2 = u) (hK : wpList Tryd.prog ops Q rest (a.put o.dst u) w) : wpList Tryd.prog ops Q (o :: rest) a w := by
  subst hu
  have hr := run_load_part (P := Tryd.prog) (w := w) 36 g off (mcs p) Tryd.underlying36 rfl (by rw [mcs_len]; exact ms_info) h
  unfold mcs at hr
  rw [Array.toArray_toList] at hr
  refine wpList_wanted hgd fun K hh => ?_
  unfold Oper.wp execOp
  simp only [ho, hx, Instr.loadAt, Instr.sureAddr, Sem.run_bind, Sem.run_pure, Result.andThen_ok, hr]
  exact hh _ _ hK
theorem run_slice1 (w : World) (m : Ms) (b : MsA) : (Instr.buildSlice 26 1 #[(0, msV m b)]).run Tryd.prog w = .ok (.slice (some ⟨w.heap.size, 0, none⟩) 1 1) (w.alloc (.cells (msC m b) 36)) := by kernel_rfl
/-- A slice of one message is made. -/
theorem list_slice1 (hgd : Region.wanted o (yielded ops a.tmps) = true) (x : Operand) (ho : o.op = .buildSlice 26 1 #[(0, x)]) (m : Ms) (b : MsA) (hx : a.eval x = msV m b)
    (hK : ∀ w', MB w' w.heap.size m b → Kp w w' → w'.heap.size = w.heap.size + 1 → wpList Tryd.prog ops Q rest (a.put o.dst (.slice (some ⟨w.heap.size, 0, none⟩) 1 1)) w') : wpList Tryd.prog ops Q (o :: rest) a w := by
  refine wpList_wanted hgd fun K hh => ?_
  have hr := run_slice1 w m b
  rw [← hx] at hr
  unfold Oper.wp execOp
  simp only [ho, Sem.run_bind, Sem.run_pure, Result.andThen_ok, List.map_toArray, List.map_cons, List.map_nil, hr]
  exact hh _ _ (hK _ (heap_alloc_new w _) ((Keeps.refl _ w).alloc _) (by simp))
end
theorem MB.row {w : World} {g : Nat} {m : Ms} {a : MsA} (h : MB w g m a) : Row w (some ⟨g, 0, none⟩) (fun b => b = g) (msRow [(m, a)]) := fun _ =>
  ⟨g, 0, rfl, rfl, fun i v hv => by
    rw [Nat.zero_add]
    exact h.cell i v (by
      have e : msRow [(m, a)] = (msC m a).toList := by simp [msRow, mcs]
      rw [e, Array.getElem?_toList] at hv
      exact hv)⟩

/-- What is on its way behind a sending, and how many of those that were sent. -/
def sent : List Ms → List Ms → List Ms × Nat
  | l, [] => (l, 0)
  | l, m :: ms => if mayM m && decide (l.length < 300) then ((sent (l ++ [m]) ms).1, (sent (l ++ [m]) ms).2 + 1) else sent l ms

structure NetOK where
  T : World → Prop
  tk : ∀ {w w' : World}, T w → Kp w w' → T w'
  At : World → World → Nat → (Nat → Prop) → List Ms → Prop
  atIn : ∀ {W w n F l}, At W w n F l → Kp W w ∧ ∀ b, F b → W.heap.size ≤ b ∧ b < w.heap.size
  atKeep : ∀ {W w w' n F l}, At W w n F l → Keeps F w w' → Kp W w' → At W w' n F l
  atLen : ∀ {W w n F l}, At W w n F l → l.length ≤ 300
  new : ∀ (W w : World), T W → Kp W w →
    Calls Tryd.prog 9 #[] w fun e w' => ∃ n F, e = .returned (.pointer (some ⟨n, 0, none⟩)) ∧ At W w' n F [] ∧ (∀ b, F b → w.heap.size ≤ b) ∧ Kp w w'
  send : ∀ (W w : World) (n : Nat) (F : Nat → Prop) (l : List Ms) (A : Option Addr) (c k : Nat) (G : Nat → Prop) (ps : List MP), T W → At W w n F l → k = ps.length → MsgsAt w A G G ps → (∀ b, G b → ¬ F b) → k ≤ c → c ≤ maxLen → k ≤ 1000 → (∀ p ∈ ps, p.1.Fits) →
    Calls Tryd.prog 12 #[.pointer (some ⟨n, 0, none⟩), .slice A k c] w fun e w' => e = .returned (.int .i64 ((sent l (ps.map (·.1))).2 : Int)) ∧ ∃ F', At W w' n F' (sent l (ps.map (·.1))).1 ∧ (∀ b, F' b → F b ∨ w.heap.size ≤ b) ∧ Keeps (fun b => ¬ F b) w w'
  sendNil : ∀ (w : World) (A : Option Addr) (c k : Nat), k ≤ c → c ≤ maxLen → Calls Tryd.prog 12 #[.pointer none, .slice A k c] w fun e w' => e = .returned (.int .i64 0) ∧ Kp w w'
  len : ∀ (W w : World) (n : Nat) (F : Nat → Prop) (l : List Ms), T W → At W w n F l →
    Calls Tryd.prog 17 #[.pointer (some ⟨n, 0, none⟩)] w fun e w' => e = .returned (.int .i64 (l.length : Int)) ∧ Kp w w'
  lenNil : ∀ (w : World), Calls Tryd.prog 17 #[.pointer none] w fun e w' => e = .returned (.int .i64 0) ∧ Kp w w'
  look : ∀ (W w : World) (n : Nat) (F : Nat → Prop) (l : List Ms) (i : Nat) (h : i < l.length), T W → At W w n F l →
    Calls Tryd.prog 13 #[.pointer (some ⟨n, 0, none⟩), .int .i64 (i : Int)] w fun e w' => (∃ a, e = .returned (.tuple #[msV l[i] a, .bool true]) ∧ MsIn w' l[i] a (fun b => w.heap.size ≤ b ∧ b < w'.heap.size) ∧ MsFree w' l[i] a) ∧ Kp w w'
  lookNo : ∀ (W w : World) (n : Nat) (F : Nat → Prop) (l : List Ms) (i : Int), T W → At W w n F l → (i < 0 ∨ (l.length : Int) ≤ i) →
    Calls Tryd.prog 13 #[.pointer (some ⟨n, 0, none⟩), .int .i64 i] w fun e w' => (∃ m a, e = .returned (.tuple #[msV m a, .bool false]) ∧ m.kind = 0) ∧ Kp w w'
  lookNil : ∀ (w : World) (i : Int), Calls Tryd.prog 13 #[.pointer none, .int .i64 i] w fun e w' => (∃ m a, e = .returned (.tuple #[msV m a, .bool false]) ∧ m.kind = 0) ∧ Kp w w'
  take : ∀ (W w : World) (n : Nat) (F : Nat → Prop) (l : List Ms) (i : Nat) (h : i < l.length), T W → At W w n F l →
    Calls Tryd.prog 14 #[.pointer (some ⟨n, 0, none⟩), .int .i64 (i : Int)] w fun e w' => (∃ a F', e = .returned (.tuple #[msV l[i] a, .bool true]) ∧ At W w' n F' (l.eraseIdx i) ∧ (∀ b, F' b → F b ∨ w.heap.size ≤ b) ∧ MsIn w' l[i] a (fun b => ¬ F' b ∧ (F b ∨ w.heap.size ≤ b) ∧ b < w'.heap.size)) ∧ Keeps (fun b => ¬ F b) w w'
  takeNo : ∀ (W w : World) (n : Nat) (F : Nat → Prop) (l : List Ms) (i : Int), T W → At W w n F l → (i < 0 ∨ (l.length : Int) ≤ i) →
    Calls Tryd.prog 14 #[.pointer (some ⟨n, 0, none⟩), .int .i64 i] w fun e w' => (∃ m a, e = .returned (.tuple #[msV m a, .bool false]) ∧ m.kind = 0) ∧ Kp w w'
  takeNil : ∀ (w : World) (i : Int), Calls Tryd.prog 14 #[.pointer none, .int .i64 i] w fun e w' => (∃ m a, e = .returned (.tuple #[msV m a, .bool false]) ∧ m.kind = 0) ∧ Kp w w'
  drop : ∀ (W w : World) (n : Nat) (F : Nat → Prop) (l : List Ms) (i : Nat) (_h : i < l.length), T W → At W w n F l →
    Calls Tryd.prog 16 #[.pointer (some ⟨n, 0, none⟩), .int .i64 (i : Int)] w fun e w' => e = .returned (.bool true) ∧ ∃ F', At W w' n F' (l.eraseIdx i) ∧ (∀ b, F' b → F b ∨ w.heap.size ≤ b) ∧ Keeps (fun b => ¬ F b) w w'
  dropNo : ∀ (W w : World) (n : Nat) (F : Nat → Prop) (l : List Ms) (i : Int), T W → At W w n F l → (i < 0 ∨ (l.length : Int) ≤ i) →
    Calls Tryd.prog 16 #[.pointer (some ⟨n, 0, none⟩), .int .i64 i] w fun e w' => e = .returned (.bool false) ∧ Kp w w'
  dropNil : ∀ (w : World) (i : Int), Calls Tryd.prog 16 #[.pointer none, .int .i64 i] w fun e w' => e = .returned (.bool false) ∧ Kp w w'

section
variable {W w w' : World} {n : Nat} {F : Nat → Prop} {l : List Ms}
theorem NetOK.atK (S : NetOK) (h : S.At W w n F l) (hk : Kp w w') : S.At W w' n F l := S.atKeep h (hk.mono fun _ _ _ => trivial) ((S.atIn h).1.trans hk)
theorem NetOK.past (S : NetOK) (h : S.At W w n F l) (hk : Keeps (fun b => ¬ F b) w w') : Kp W w' :=
  (((S.atIn h).1.mono fun _ _ _ => trivial : Keeps (fun b => ¬ F b) W w).trans hk).mono fun b hb _ hF => by have := ((S.atIn h).2 b hF).1; omega
end

end Go.Proofs.YtpijhpfcigjkeaaDoor
