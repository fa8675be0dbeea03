/- Texts of one proof, behind one another: each says above its part what it proves and on which conditions. -/
import Derived.Test.YtpijhpfcigjkeaaDoorMsBegun
import Derived.Test.YtpijhpfcigjkeaaDoorAllCutG
import Derived.Test.YtpijhpfcigjkeaaDoorAllRefG
import Derived.Test.YtpijhpfcigjkeaaDoorMsIf
/-
  WHAT THE LAWS OF LAYER 19 LEAN ON: a message that was cut and put over itself; calls as single operations.
-/
section
namespace Go.Proofs.YtpijhpfcigjkeaaDoor
open Go Go.RowKit Go.Joins
theorem cf_rmsg (v : Value) (w : World) : (callFunc 11 #[v]).run Tryd.prog w = .ok (.enter 11 #[v]) w := by go_simp
theorem cf_rmeq (v u : Value) (w : World) : (callFunc 15 #[v, u]).run Tryd.prog w = .ok (.enter 15 #[v, u]) w := by go_simp
theorem kp_eq19B {o : Oper} {a : Act} {w : World} {Q : Exit → Act → World → Prop} {x y : Operand} {m n c : Bool} (hc : (m == n) = c) (ho : o.op = .binOp .eql 4 x y 4) (hx : a.eval x = .bool m) (hy : a.eval y = .bool n) : o.wp Tryd.prog a w (fun a' w' => ∃ v, a' = a.put o.dst v ∧ Kp w w' ∧ IsV (.bool c) w' v) Q := by
  subst hc
  refine kp_yield (v := .bool (m == n)) (w' := w) ?_ (Keeps.refl _ _) rfl
  generalize a.eval = ρ at hx hy ⊢
  unfold execOp
  rw [ho]
  go_simp
theorem cf_menc (v : Value) (w : World) : (callFunc 28 #[v]).run Tryd.prog w = .ok (.enter 28 #[v]) w := by go_simp
theorem kp_eq19T {o : Oper} {a : Act} {w : World} {Q : Exit → Act → World → Prop} {x y : Operand} {m n : ByteArray} {c : Bool} (hc : (m.toList == n.toList) = c) (ho : o.op = .binOp .eql 9 x y 9) (hx : a.eval x = .string m) (hy : a.eval y = .string n) : o.wp Tryd.prog a w (fun a' w' => ∃ v, a' = a.put o.dst v ∧ Kp w w' ∧ IsV (.bool c) w' v) Q := by
  subst hc
  refine kp_yield (v := .bool (m.toList == n.toList)) (w' := w) ?_ (Keeps.refl _ _) rfl
  generalize a.eval = ρ at hx hy ⊢
  unfold execOp
  rw [ho]
  go_simp
/-- A call whose result has a property. -/
theorem kp_c19V {o : Oper} {a : Act} {w : World} {Q : Exit → Act → World → Prop} {x : Operand} {f : FuncId} {ty : TypeId} {v : Value} {V : World → Value → Prop} {C : Ending → World → Prop} (hcf : (callFunc f #[v]).run Tryd.prog w = .ok (.enter f #[v]) w) (hc : Calls Tryd.prog f #[v] w C) (hC : ∀ e w', C e w' → ∃ v, e = .returned v ∧ Kp w w' ∧ V w' v) (ho : o.op = .call { callee := .value (.func f), args := #[x], argTypes := #[ty] }) (hx : a.eval x = v) : o.wp Tryd.prog a w (fun a' w' => ∃ v, a' = a.put o.dst v ∧ Kp w w' ∧ V w' v) Q := by
  refine kp_enter (f := f) (args := #[v]) ?_ hc hC
  have hf : a.eval (.func f) = .func (.func f) #[] #[] := rfl
  generalize a.eval = ρ at hx hf ⊢
  unfold execOp
  rw [ho]
  go_simp
theorem kp_mv19 {o : Oper} {a : Act} {w : World} {Q : Exit → Act → World → Prop} {x : Operand} {V : World → Value → Prop} (ho : o.op = .move x) (hx : V w (a.eval x)) : o.wp Tryd.prog a w (fun a' w' => ∃ v', a' = a.put o.dst v' ∧ Kp w w' ∧ V w' v') Q := by
  refine kp_yield (v := a.eval x) ?_ (Keeps.refl _ _) hx
  unfold execOp; rw [ho]; rfl
/-- What Encode gives of a message that may be. -/
theorem enc_text {m : Ms} {L : List UInt8} {w : World} (hmay : mayM m = true) : ∀ (e : Ending) (w' : World), ((mayM m = true → ∃ A c, e = .returned (.slice A L.length c) ∧ L.length ≤ c ∧ c ≤ maxLen ∧ Row w' A (fun b => w.heap.size ≤ b ∧ b < w'.heap.size) (bcells L)) ∧ (mayM m = false → ∃ A c, e = .returned (.slice A 0 c)) ∧ Kp w w') → ∃ v, e = .returned v ∧ Kp w w' ∧ TextV L w' v := by
  rintro e w' ⟨h1, -, hk⟩
  obtain ⟨A, c, rfl, -, -, hr⟩ := h1 hmay
  exact ⟨_, rfl, hk, A, c, rfl, hr.mono fun _ _ _ => trivial⟩
theorem MsAt.over {w3 w4 : World} {g n0 : Nat} {m : Ms} {a a2 : MsA} (hm4 : MsAt w4 m a) (hat : MsAt w3 (cutM m) a2) (eba : a2.ba = a.ba) (eoa : a2.oa = a.oa) (hit : ItsAt w3 a2.ia (fun b => n0 ≤ b) (cutM m).items) (hmk : MksAt w3 a2.ma (fun b => n0 ≤ b) (cutM m).marks) (hk : Keeps (fun b => b ≠ g) w3 w4) (hg : g < n0) : MsAt w4 (cutM m) a2 :=
  ⟨(hit.keep (hk.mono fun b _ (hb : n0 ≤ b) => show b ≠ g by omega)).mono fun _ _ _ => trivial, hat.il, (hmk.keep (hk.mono fun b _ (hb : n0 ≤ b) => show b ≠ g by omega)).mono fun _ _ _ => trivial, hat.ml,
   by rw [eba]; show Row w4 a.ba _ ((m.mem.take 7).map _); rw [List.map_take]; exact hm4.mem.take, hat.bl,
   by rw [eoa]; show Row w4 a.oa _ ((m.old.take 7).map _); rw [List.map_take]; exact hm4.old.take, hat.ol⟩
end Go.Proofs.YtpijhpfcigjkeaaDoor
end

/-
  A MESSAGE THAT MAY BE FITS (layer 19).
-/
section
namespace Go.Proofs.YtpijhpfcigjkeaaDoor
open Go Go.RowKit

theorem nodes_len {l : List Int} (h : nodesB l = true) : l.length ≤ 5 ∧ ∀ z ∈ l, i64z z := by
  obtain ⟨-, h2⟩ := nodesB_iff.1 h
  have hj : ∀ j, j < l.length → 1 ≤ l.getD j 0 ∧ l.getD j 0 ≤ 5 ∧ (j = 0 ∨ l.getD (j - 1) 0 < l.getD j 0) := fun j hj => by
    have := h2 j hj
    simp only [nodeB, Bool.and_eq_true, Bool.or_eq_true, decide_eq_true_eq] at this
    exact this
  have hup : ∀ j, j < l.length → (j : Int) + 1 ≤ l.getD j 0 := by
    intro j
    induction j with
    | zero => intro h0; have := (hj 0 h0).1; omega
    | succ n ih =>
      intro hn
      have h1 := ih (by omega)
      rcases (hj (n + 1) hn).2.2 with h0 | h0
      · omega
      · rw [Nat.add_sub_cancel] at h0; omega
  refine ⟨?_, fun z hz => ?_⟩
  · rcases Nat.lt_or_ge 5 l.length with h5 | h5
    · have h1 := hup 5 h5
      have h3 := (hj 5 h5).2.1
      omega
    · exact h5
  · obtain ⟨j, hjl, rfl⟩ := List.getElem_of_mem hz
    have e : l.getD j 0 = l[j] := by rw [List.getD_eq_getElem?_getD, List.getElem?_eq_getElem hjl]; rfl
    have := hj j hjl
    rw [e] at this
    exact ⟨by omega, by omega⟩

theorem may_fits {m : Ms} (h : mayM m = true) : m.Fits := by
  unfold mayM at h
  simp only [Bool.and_eq_true] at h
  obtain ⟨hh, hl, hi, hk⟩ := h
  simp only [headB, numB, Bool.and_eq_true, decide_eq_true_eq] at hh
  obtain ⟨a1, a2, a3, a4, a5, a6, -, a7, a8, a9, a10, a11, a12, a13, a14, a15, a16, a17, a18⟩ := hh
  simp only [listB, Bool.and_eq_true, Bool.or_eq_true, decide_eq_true_eq] at hl
  obtain ⟨b1, b2, b3, b4, b5⟩ := hl
  have hmk : ∀ x ∈ m.marks, x.key.size ≤ 1000 ∧ i64z x.seq := fun x hx => by
    obtain ⟨j, hj, rfl⟩ := List.getElem_of_mem hx
    have h1 := List.all_eq_true.1 hk j (List.mem_range.2 hj)
    have e : m.marks.getD j default = m.marks[j] := by rw [List.getD_eq_getElem?_getD, List.getElem?_eq_getElem hj]; rfl
    unfold markB at h1
    rw [e] at h1
    simp only [Bool.and_eq_true, decide_eq_true_eq] at h1
    exact ⟨by omega, by omega, by omega⟩
  have hn : ∀ l : List Int, (l.length = 0 ∨ nodesB l = true) → l.length ≤ 100 ∧ ∀ z ∈ l, i64z z := fun l h => by
    rcases h with h | h
    · obtain rfl : l = [] := List.eq_nil_of_length_eq_zero h
      exact ⟨Nat.zero_le _, fun z hz => by cases hz⟩
    · have := nodes_len h
      exact ⟨by omega, this.2⟩
  refine ⟨⟨by omega, by omega⟩, ⟨by omega, by omega⟩, ⟨by omega, by omega⟩, ⟨by omega, by omega⟩, ⟨by omega, by omega⟩, ⟨by omega, by omega⟩, ⟨by omega, by omega⟩, ⟨by omega, by omega⟩, ⟨by omega, by omega⟩, ⟨by omega, by omega⟩, ⟨by omega, by omega⟩, by omega, ?_, by omega, all_fits hi, by omega, hmk, (hn _ b4).1, (hn _ b4).2, (hn _ b5).1, (hn _ b5).2⟩
  rcases b1 with b1 | b1
  · rw [b1]; refine ⟨?_, ?_, ?_, ?_⟩ <;> decide
  · exact It.may_fits b1
end Go.Proofs.YtpijhpfcigjkeaaDoor
end

/-
  LISTS OF ENTRIES AND OF MARKS AS WHAT AN APPEND APPENDS (layers 19, 20).
-/
section
namespace Go.Proofs.YtpijhpfcigjkeaaDoor
open Go Go.RowKit Go.Joins

theorem its_all {w : World} {A : Option Addr} {F : Nat → Prop} {l : List It} {c : Nat} (h : ItsAt w A F l) : Src Tryd.prog 4 32 (.slice A l.length c) l.length (itCells l) w := by
  rcases A with _ | ad
  · have hl : l = [] := by
      cases l with
      | nil => rfl
      | cons x l => obtain ⟨b, o, e, _⟩ := h 0 (by simp); cases e
    subst hl
    exact Src.ofNil w Tryd.underlying32 c
  · refine Src.ofSlice w Tryd.underlying32 ad l.length c (itCells l) (itCells_len l) (fun j u hu => ?_) (fun u hu => ?_)
    · have hj : j < l.length * 4 := by
        have := (List.getElem?_eq_some_iff.1 hu).1
        rwa [itCells_len] at this
      have hk : j / 4 < l.length := by omega
      obtain ⟨b, o, e, -, c0, c1, c2, c3⟩ := h (j / 4) hk
      injection e with e
      subst e
      have e1 := itCells_at l (j / 4) (j % 4) hk (by omega)
      rw [show j / 4 * 4 + j % 4 = j by omega, hu] at e1
      rw [WideShapes.add_plain, show o + j = o + j / 4 * 4 + j % 4 by omega]
      have h4 : j % 4 = 0 ∨ j % 4 = 1 ∨ j % 4 = 2 ∨ j % 4 = 3 := by omega
      rcases h4 with h4 | h4 | h4 | h4 <;> rw [h4] at e1 ⊢ <;> injection e1 with e1 <;> subst e1
      · exact c0
      · exact c1
      · exact c2
      · exact c3
    · unfold itCells at hu
      obtain ⟨x, -, hx⟩ := List.mem_flatMap.1 hu
      simp only [It.cells, List.mem_cons, List.not_mem_nil, or_false] at hx
      rcases hx with rfl | rfl | rfl | rfl <;> rfl
theorem mks_all {w : World} {A : Option Addr} {F : Nat → Prop} {l : List Mk} {c : Nat} (h : MksAt w A F l) : Src Tryd.prog 2 33 (.slice A l.length c) l.length (mkCells l) w := by
  rcases A with _ | ad
  · have hl : l = [] := by
      cases l with
      | nil => rfl
      | cons x l => obtain ⟨b, o, e, _⟩ := h 0 (by simp); cases e
    subst hl
    exact Src.ofNil w Tryd.underlying33 c
  · refine Src.ofSlice w Tryd.underlying33 ad l.length c (mkCells l) (mkCells_len l) (fun j u hu => ?_) (fun u hu => ?_)
    · have hj : j < l.length * 2 := by
        have := (List.getElem?_eq_some_iff.1 hu).1
        rwa [mkCells_len] at this
      have hk : j / 2 < l.length := by omega
      obtain ⟨b, o, e, -, c0, c1⟩ := h (j / 2) hk
      injection e with e
      subst e
      have e1 := mkCells_at l (j / 2) (j % 2) hk (by omega)
      rw [show j / 2 * 2 + j % 2 = j by omega, hu] at e1
      rw [WideShapes.add_plain, show o + j = o + j / 2 * 2 + j % 2 by omega]
      have h4 : j % 2 = 0 ∨ j % 2 = 1 := by omega
      rcases h4 with h4 | h4 <;> rw [h4] at e1 ⊢ <;> injection e1 with e1 <;> subst e1
      · exact c0
      · exact c1
    · unfold mkCells at hu
      obtain ⟨x, -, hx⟩ := List.mem_flatMap.1 hu
      simp only [Mk.cells, List.mem_cons, List.not_mem_nil, or_false] at hx
      rcases hx with rfl | rfl <;> rfl
/-- An own row of entries, of marks. -/
theorem own_formL {w : World} {base n size : Nat} {e : TypeId} {v : Value} {xs : List Value} (h : w.ownsRow base e size v n xs) : ∃ A c, v = .slice A n c ∧ n ≤ c ∧ c ≤ maxLen ∧ (0 < n → ∃ g, A = some ⟨g, 0, none⟩ ∧ base ≤ g) := by
  rcases h.2 with ⟨rfl, h0⟩ | ⟨g, cap, cur, rfl, hb, hg, h1, h2, r⟩
  · exact ⟨none, 0, by rw [h0], by omega, Nat.zero_le _, fun h => by omega⟩
  · exact ⟨_, _, rfl, h1, h2, fun _ => ⟨g, rfl, hb⟩⟩
theorem mark_src (W : World) (x : Mk) : Src Tryd.prog 2 33 (.slice (some ⟨W.heap.size, 0, none⟩) 1 1) 1 x.cells (W.alloc (.cells #[.int .i64 x.seq, .string x.key] 57)) := mks_src W x.seq x.key

end Go.Proofs.YtpijhpfcigjkeaaDoor
end
