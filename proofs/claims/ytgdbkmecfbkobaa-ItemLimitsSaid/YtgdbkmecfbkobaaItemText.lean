/-
  'Items' OF THE REFERENCE: an entry's two texts put behind what there is, in whatever order; then all entries' bytes.
-/
import Derived.Test.YtgdbkmecfbkobaaItemRef
import Derived.Test.YtgdbkmecfbkobaaRefNum
import Derived.Deep.RegionWith
namespace Go.Proofs.Ytgdbkmecfbkobaa
open Go Go.RowKit Go.Joins

/-- One of the texts' bytes: not made yet, or in a row beside u's. -/
def Lies (base : Nat) (W : World) (u r : Value) (l : List UInt8) : Prop := r = undef ∨ ∃ A c, r = .slice A l.length c ∧ Row W A (fun g => u.ownBlock ≠ some g ∧ base ≤ g) (bcells l)
/-- Between the operations: what lies in memory. -/
structure Amid (w W : World) (x : It) (b i : Nat) (u : Value) (p : List UInt8) (r1 r2 : Value) : Prop where
  kp : Keeps (fun _ => True) w W
  old : b < w.heap.size
  c0 : W.cell? ⟨b, i, none⟩ = some (.string x.key)
  c1 : W.cell? ⟨b, i + 1, none⟩ = some (.string x.val)
  own : OwnB W w.heap.size u p
  s1 : Lies w.heap.size W u r1 (putT x.key.data.toList)
  s2 : Lies w.heap.size W u r2 (putT x.val.data.toList)
section
variable {w W W' : World} {x : It} {b i : Nat} {u r1 r2 : Value} {p : List UInt8}
theorem Lies.keep {base : Nat} {r : Value} {l : List UInt8} (h : Lies base W u r l) (hk : Keeps (fun g => u.ownBlock ≠ some g ∧ base ≤ g) W W') : Lies base W' u r l := by
  rcases h with h | ⟨A, c, e, hr⟩
  · exact .inl h
  · exact .inr ⟨A, c, e, hr.keep hk⟩
theorem Lies.new {base : Nat} {v : Value} {l : List UInt8} (ho : OwnB W' W.heap.size v l) (hu : ∀ g, u.ownBlock = some g → g < W.heap.size) (hb : base ≤ W.heap.size) : Lies base W' u v l ∧ ∃ A c, v = .slice A l.length c := by
  obtain ⟨A, c, rfl, -, hr⟩ := own_slice ho
  exact ⟨.inr ⟨A, c, rfl, hr.mono fun g _ hg => ⟨fun e => by have := hu g e; omega, by omega⟩⟩, A, c, rfl⟩
theorem Amid.keep (h : Amid w W x b i u p r1 r2) (hk : Keeps (fun _ => True) W W') : Amid w W' x b i u p r1 r2 :=
  ⟨h.kp.trans hk, h.old, hk.cell h.c0 trivial, hk.cell h.c1 trivial, hk.own h.own fun _ _ => trivial, h.s1.keep (hk.mono fun _ _ _ => trivial), h.s2.keep (hk.mono fun _ _ _ => trivial)⟩
theorem Amid.drew (h : Amid w W x b i u p r1 r2) : Amid w W.drew x b i u p r1 r2 := h.keep ((Keeps.refl _ W).drew)
theorem Amid.put1 (h : Amid w W x b i u p r1 r2) (hx : x.key.size ≤ 1000000) :
    Calls Try.prog 25 #[.string x.key] W fun e W' => ∃ A c, e = .returned (.slice A (putT x.key.data.toList).length c) ∧ Amid w W' x b i u p (.slice A (putT x.key.data.toList).length c) r2 := by
  refine (rput_text x.key (by omega) W).mono ?_
  rintro e W' ⟨v, rfl, ho, hk⟩
  have h' := h.keep hk
  obtain ⟨hl, A, c, rfl⟩ := Lies.new (u := u) (base := w.heap.size) ho (fun g hg => (h.own.lt g hg).2) h.kp.size
  exact ⟨A, c, rfl, ⟨h'.kp, h'.old, h'.c0, h'.c1, h'.own, hl, h'.s2⟩⟩
theorem Amid.put2 (h : Amid w W x b i u p r1 r2) (hx : x.val.size ≤ 1000000) :
    Calls Try.prog 25 #[.string x.val] W fun e W' => ∃ A c, e = .returned (.slice A (putT x.val.data.toList).length c) ∧ Amid w W' x b i u p r1 (.slice A (putT x.val.data.toList).length c) := by
  refine (rput_text x.val (by omega) W).mono ?_
  rintro e W' ⟨v, rfl, ho, hk⟩
  have h' := h.keep hk
  obtain ⟨hl, A, c, rfl⟩ := Lies.new (u := u) (base := w.heap.size) ho (fun g hg => (h.own.lt g hg).2) h.kp.size
  exact ⟨A, c, rfl, ⟨h'.kp, h'.old, h'.c0, h'.c1, h'.own, h'.s1, hl⟩⟩
/-- An append onto u. -/
theorem Amid.app {l : List UInt8} {A : Option Addr} {n c : Nat} (h : Amid w W x b i u p r1 r2) (hr : Lies w.heap.size W u (.slice A n c) l) (hn : n = l.length) (hl : p.length + l.length ≤ 4000000) {ops : Array Oper} {o : Oper} {a : Act} {K : Act → World → Prop} {Q : Exit → Act → World → Prop} {E : Prop} (hgd : o.guard = none) (s y : Operand)
    (ho : o.op = .call { callee := .builtin .append, args := #[s, y], argTypes := #[30, 30] }) (hs : a.eval s = u) (hy : a.eval y = .slice A n c)
    (hK : ∀ u' W', Amid w W' x b i u' (p ++ l) undef undef → (Lies w.heap.size W u r2 (putT x.val.data.toList) → Lies w.heap.size W' u' r2 (putT x.val.data.toList)) → K (a.put o.dst u') W') :
    if Region.wanted o (yielded ops a.tmps) = true then Oper.wp Try.prog o a W K Q else E := by
  subst hn
  rcases hr with hr | ⟨A', c', e, hr⟩
  · cases hr
  · injection e with e1 e2 e3
    subst e1 e3
    have hsrc : Src Try.prog 1 30 (.slice A l.length c) l.length (bcells l) W := by
      have := hr.src (P := Try.prog) (c := c) Try.underlying30 (bcells_one l)
      rwa [bcells_len] at this
    refine byte_elem.step_append hgd s y _ ho hs h.own hy hsrc (by unfold maxLen; omega) (by omega) h.kp.size fun u' W' hown hg hb => hK u' W' ?_ ?_
    · have hk : Keeps (fun g => u.ownBlock ≠ some g) W W' := Keeps.of_grown hg fun g e _ hn => hn e
      have hb0 : u.ownBlock ≠ some b := fun e => by have := (h.own.lt b e).1; have := h.old; omega
      refine ⟨h.kp.grown hg fun g e => (h.own.lt g e).1, h.old, hk.cell h.c0 hb0, hk.cell h.c1 hb0, OwnB.snoc hown (by rw [List.length_append]) rfl, .inl rfl, .inl rfl⟩
    · intro hl2
      have hk : Keeps (fun g => u.ownBlock ≠ some g) W W' := Keeps.of_grown hg fun g e _ hn => hn e
      rcases hl2 with h2 | ⟨A2, c2, e2, hr2⟩
      · exact .inl h2
      · refine .inr ⟨A2, c2, e2, ((hr2.lt).mono fun g _ hg2 => ?_).keep (F := fun g => (u.ownBlock ≠ some g ∧ w.heap.size ≤ g) ∧ g < W.heap.size) (hk.mono fun g _ hg2 => hg2.1.1) |>.mono fun g _ hg2 => ⟨?_, hg2.1.2⟩⟩
        · exact hg2
        · rcases hb with e | e
          · rw [e]; exact hg2.1.1
          · rw [e]; intro e'; injection e' with e'; omega
theorem Amid.app1 {A : Option Addr} {n c : Nat} (h : Amid w W x b i u p (.slice A n c) r2) (hn : n = (putT x.key.data.toList).length) (hl : p.length + (putT x.key.data.toList).length ≤ 4000000) {ops : Array Oper} {o : Oper} {a : Act} {K : Act → World → Prop} {Q : Exit → Act → World → Prop} {E : Prop} (hgd : o.guard = none) (s y : Operand)
    (ho : o.op = .call { callee := .builtin .append, args := #[s, y], argTypes := #[30, 30] }) (hs : a.eval s = u) (hy : a.eval y = .slice A n c)
    (hK : ∀ u' W', Amid w W' x b i u' (p ++ putT x.key.data.toList) undef r2 → K (a.put o.dst u') W') :
    if Region.wanted o (yielded ops a.tmps) = true then Oper.wp Try.prog o a W K Q else E :=
  h.app h.s1 hn hl hgd s y ho hs hy fun u' W' h' k => hK u' W' ⟨h'.kp, h'.old, h'.c0, h'.c1, h'.own, .inl rfl, k h.s2⟩
theorem Amid.app2 {A : Option Addr} {n c : Nat} (h : Amid w W x b i u p r1 (.slice A n c)) (hn : n = (putT x.val.data.toList).length) (hl : p.length + (putT x.val.data.toList).length ≤ 4000000) {ops : Array Oper} {o : Oper} {a : Act} {K : Act → World → Prop} {Q : Exit → Act → World → Prop} {E : Prop} (hgd : o.guard = none) (s y : Operand)
    (ho : o.op = .call { callee := .builtin .append, args := #[s, y], argTypes := #[30, 30] }) (hs : a.eval s = u) (hy : a.eval y = .slice A n c)
    (hK : ∀ u' W', Amid w W' x b i u' (p ++ putT x.val.data.toList) undef undef → K (a.put o.dst u') W') :
    if Region.wanted o (yielded ops a.tmps) = true then Oper.wp Try.prog o a W K Q else E :=
  h.app h.s2 hn hl hgd s y ho hs hy fun u' W' h' _ => hK u' W' h'
set_option maxRecDepth 100000 in
theorem call1_run {o : Oper} {a : Act} {s : Operand} {v0 : Value} {ts : Array TypeId} (ho : o.op = .call { callee := .value (.func 25), args := #[s], argTypes := ts }) (hs : a.eval s = v0) :
    (execOp a.eval o).run Try.prog W = .ok (.enter 25 #[v0]) W := by
  have hf : a.eval (.func 25) = .func (.func 25) #[] #[] := rfl
  generalize a.eval = ρ at hs hf ⊢
  unfold execOp
  rw [ho]
  have h : ∀ vs W, (callFunc 25 vs).run Try.prog W = .ok (.enter 25 vs) W := fun _ _ => rfl
  go_simp
theorem Amid.text1 (h : Amid w W x b i u p r1 r2) (hx : x.key.size ≤ 1000000) {ops : Array Oper} {o : Oper} {a : Act} {K : Act → World → Prop} {Q : Exit → Act → World → Prop} {E : Prop} (hgd : o.guard = none) (s : Operand) {ts : Array TypeId}
    (ho : o.op = .call { callee := .value (.func 25), args := #[s], argTypes := ts }) (hs : a.eval s = .string x.key)
    (hK : ∀ A c W', Amid w W' x b i u p (.slice A (putT x.key.data.toList).length c) r2 → K (a.put o.dst (.slice A (putT x.key.data.toList).length c)) W') :
    if Region.wanted o (yielded ops a.tmps) = true then Oper.wp Try.prog o a W K Q else E := by
  have hw : Region.wanted o (yielded ops a.tmps) = true := by simp [Region.wanted, hgd]
  rw [if_pos hw]
  unfold Oper.wp
  rw [call1_run ho hs]
  refine (h.put1 hx).mono ?_
  rintro e w' ⟨A, c, rfl, h'⟩
  exact hK A c w' h'
theorem Amid.text2 (h : Amid w W x b i u p r1 r2) (hx : x.val.size ≤ 1000000) {ops : Array Oper} {o : Oper} {a : Act} {K : Act → World → Prop} {Q : Exit → Act → World → Prop} {E : Prop} (hgd : o.guard = none) (s : Operand) {ts : Array TypeId}
    (ho : o.op = .call { callee := .value (.func 25), args := #[s], argTypes := ts }) (hs : a.eval s = .string x.val)
    (hK : ∀ A c W', Amid w W' x b i u p r1 (.slice A (putT x.val.data.toList).length c) → K (a.put o.dst (.slice A (putT x.val.data.toList).length c)) W') :
    if Region.wanted o (yielded ops a.tmps) = true then Oper.wp Try.prog o a W K Q else E := by
  have hw : Region.wanted o (yielded ops a.tmps) = true := by simp [Region.wanted, hgd]
  rw [if_pos hw]
  unfold Oper.wp
  rw [call1_run ho hs]
  refine (h.put2 hx).mono ?_
  rintro e w' ⟨A, c, rfl, h'⟩
  exact hK A c w' h'
end

end Go.Proofs.Ytgdbkmecfbkobaa
