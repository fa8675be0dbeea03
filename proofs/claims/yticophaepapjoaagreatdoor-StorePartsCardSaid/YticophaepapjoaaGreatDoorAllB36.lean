/-
  StoreParts0: texts of mine, joined.
-/
import Derived.Test.YticophaepapjoaaGreatDoorAllB35
import Derived.Test.YticophaepapjoaaGreatDoorAllB15
import Derived.Test.YticophaepapjoaaGreatDoorAllB10
import Derived.Test.YticophaepapjoaaGreatDoorAllB24
namespace Go.Proofs.YticophaepapjoaaGreatDoor.storeParts
open Go Go.RowKit Go.Joins
section
variable {S : FlashOK} {J : JournalOK} {W w w' : World} {p b q1 q2 k n d : Nat} {z : Sto} {X : Nat → Prop}
def putB (x : It) : Bool := x.may && !x.gone
def putE (x : It) : Int := if putB x then 0 else 1
def One (S : FlashOK) (J : JournalOK) (W w : World) (p b q1 q2 k : Nat) (x : It) (z : Sto) (X : Nat → Prop) : Prop :=
 StAt S J W w p b q1 q2 k z 300 0 X ∧ (z.f.ents = [] ∨ z.f.ents = [fput x]) ∧ z.j.keys = [] ∧ z.j.age = 1 ∧ z.c ≤ 100000 ∧ z.m = ⟨1, 0, 0, false⟩
theorem put_any (hT : S.T W) (h : StAt S J W w p b q1 q2 k z 300 d X) (hf : z.f = ⟨162, segsOf 300, [], 0, 1⟩) (hj : z.j = ⟨2, 20, [], 0, 32, 1⟩) (hc : z.c ≤ 90000) (hm : z.m = ⟨1, 0, 0, false⟩) (x : It) (hx : x.fits) :
  Calls Tryz.prog 14 #[.pointer (some ⟨q1, 0, none⟩), .agg #[.string x.key, .string x.val, .int .i64 x.till, .bool x.gone]] w fun e w' => e = .returned (.int .i64 (putE x)) ∧ ∃ z', One S J W w' p b q1 q2 k x z' X ∧ Keeps X w w' := by
 unfold putE
 by_cases hb : putB x = true
 ·rw [if_pos hb]
  have hb2 : x.may = true ∧ x.gone = false := by unfold putB at hb; simpa using hb
  refine (so_put hT h (by rw [hf]; exact (by decide : 1 ≤ 20000)) (by omega) x hb2.1 hb2.2).mono ?_
  rintro e w' ⟨rfl, g, -, hat, hk⟩
  exact ⟨rfl, _, ⟨hat, .inr (by show z.f.ents ++ [fput x] = _; rw [hf]; rfl), by show z.j.keys = _; rw [hj], by show z.j.age = _; rw [hj], by show z.c + 2000 ≤ _; omega, hm⟩, hk⟩
 ·rw [if_neg hb]
  have hb2 : x.may = false ∨ x.gone = true := by
   unfold putB at hb
   cases h1 : x.may <;> cases h2 : x.gone <;> simp_all
  refine (so_putNo hT h x hx hb2).mono ?_
  rintro e w' ⟨rfl, hk, hat⟩
  exact ⟨rfl, z, ⟨hat.loose, .inl (by rw [hf]), by rw [hj], by rw [hj], by omega, hm⟩, hk.mono fun _ _ _ => trivial⟩
def addB (l : List ByteArray) : Bool := l.all fun s => decide (1 ≤ s.size) && decide (s.size ≤ 40)
theorem addB_yes {l : List ByteArray} (h : addB l = true) : ∀ s ∈ l, keyOk s := fun s hs => by
 have := List.all_eq_true.1 h s hs
 simpa [keyOk] using this
theorem addB_no {l : List ByteArray} (h : addB l ≠ true) : ∃ s ∈ l, ¬ keyOk s := by
 refine Classical.byContradiction fun hn => h ?_
 refine List.all_eq_true.2 fun s hs => ?_
 have : keyOk s := Classical.byContradiction fun h2 => hn ⟨s, hs, h2⟩
 simpa [keyOk] using this
theorem add_any (hT : J.T W) {x : It} (h : One S J W w p b q1 q2 k x z X) (A : Option Addr) (l : List ByteArray) (hr : Row w A X (l.map Value.string)) (c m : Nat) (hn : m = l.length) (hcc : m ≤ c) (hcm : c ≤ maxLen) (hl : m ≤ 1000) (hs : ∀ s ∈ l, s.size ≤ 1000000) :
  Calls Tryz.prog 26 #[.pointer (some ⟨q2, 0, none⟩), .slice A m c] w fun e w' => e = .returned (.tuple #[.int .i64 (if addB l then (m : Int) else 0), .int .i64 (if addB l then 0 else 1)]) ∧ ∃ z' d, StAt S J W w' p b q1 q2 k z' 300 d X ∧ z'.f = z.f ∧ z'.j.keys.length = (if addB l then m else 0) ∧ z'.m = ⟨1, 0, 0, false⟩ ∧ Keeps X w w' := by
 obtain ⟨hat, h1, h2, h3, h4, h5⟩ := h
 by_cases hb : addB l = true
 ·simp only [hb, if_true]
  refine (so_add hT hat (by rw [h3]; decide) (by omega) A l hr c m hn hcc hcm hl (addB_yes hb) (m : Int) (by rw [h2, hn]; simp)).mono ?_
  rintro e w' ⟨rfl, g, -, hat', hk⟩
  exact ⟨rfl, _, 3, hat', rfl, by show (z.j.keys ++ l).length = m; rw [h2, hn]; simp, h5, hk⟩
 ·have hb' : addB l = false := by simpa using hb
  simp only [hb', Bool.false_eq_true, if_false]
  refine (so_addNo hT hat A l (hr.mono fun _ _ _ => trivial) c m hn hcc hcm hl hs (addB_no hb)).mono ?_
  rintro e w' ⟨rfl, hk, hat'⟩
  exact ⟨rfl, z, 0, hat', rfl, by rw [h2]; rfl, h5, hk.mono fun _ _ _ => trivial⟩
theorem get_is (st : FSt) (key : ByteArray) (x : It) (hx : x.fits) (h : st.ents = [] ∨ st.ents = [fput x]) : ∃ (y : It) (r : Bool), y.fits ∧ Ending.returned (.tuple #[.agg #[.string y.key, .string y.val, .int .i64 y.till, .bool y.gone], .bool r]) = getE st key 0 := by
 have h0 : (⟨⟨#[]⟩, ⟨#[]⟩, 0, false⟩ : It).fits := ⟨by decide, by decide, by decide, by decide⟩
 unfold getE
 cases hat : st.at_ key with
 | none => exact ⟨_, false, h0, rfl⟩
 | some y =>
  have hy : y = x := by
   unfold FSt.at_ fLast at hat
   rcases h with h | h
   ·rw [h] at hat; simp at hat
   ·rw [h] at hat
    simp only [Option.bind_eq_some_iff, Option.map_eq_some_iff] at hat
    obtain ⟨u, ⟨e, he, rfl⟩, hu⟩ := hat
    have := List.mem_of_mem_drop (List.mem_reverse.1 (List.mem_of_find?_eq_some he))
    rw [List.mem_singleton.1 this] at hu
    split at hu
    ·cases hu
    ·exact (Option.some.inj hu).symm
  subst hy
  by_cases hl : y.live 0 = true
  ·exact ⟨y, true, hx, by simp only [hl, if_true]⟩
  ·exact ⟨_, false, h0, by simp only [hl]; rfl⟩
end
def itC (y : It) : Obj := .cells #[.string y.key, .string y.val, .int .i64 y.till, .bool y.gone] 40 (0, 0)
structure GB (S : FlashOK) (J : JournalOK) (W : World) (p b q1 q2 k : Nat) (x : It) (z : Sto) (g0 : Nat) (X : Nat → Prop) (A : Option Addr) (xs : List Value) (fs : List (Nat × It)) (w : World) : Prop where
 ge : g0 ≤ w.heap.size
 lo : W.heap.size ≤ g0
 at_ : One S J W w p b q1 q2 k x z (fun c => X c ∨ (g0 ≤ c ∧ c < w.heap.size))
 xl : ∀ c, X c → c < g0
 row : Row w A X xs
 fx : ∀ f ∈ fs, X f.1 ∧ w.heap[f.1]? = some (itC f.2)
section
variable {S : FlashOK} {J : JournalOK} {W w w' : World} {p b q1 q2 k g0 B : Nat} {x : It} {z : Sto} {X : Nat → Prop} {A : Option Addr} {xs : List Value} {fs : List (Nat × It)}
theorem GB.keep (hk : Kp w w') (h : GB S J W p b q1 q2 k x z g0 X A xs fs w) : GB S J W p b q1 q2 k x z g0 X A xs fs w' := by
 have hs := hk.size
 have hg := h.ge
 refine ⟨by omega, h.lo, ⟨h.at_.1.more hk fun c hc => ?_, h.at_.2⟩, h.xl, h.row.keep (hk.mono fun _ _ _ => trivial), fun f hf => ⟨(h.fx f hf).1, (hk.block _ trivial (Array.getElem?_eq_some_iff.1 (h.fx f hf).2).1).trans (h.fx f hf).2⟩⟩
 rcases hc with hc | hc
 ·exact .inl (.inl hc)
 ·by_cases h6 : c < w.heap.size
  ·exact .inl (.inr ⟨hc.1, h6⟩)
  ·exact .inr ⟨by omega, hc.2⟩
theorem GB.store (h : GB S J W p b q1 q2 k x z g0 X A xs fs w) (hk : Keeps (fun c => c ≠ B) w w') (hB : g0 ≤ B) (hs : w'.heap.size = w.heap.size) : GB S J W p b q1 q2 k x z g0 X A xs fs w' := by
 have hlo := h.lo
 have hne : ∀ c, X c → c ≠ B := fun c hc e => by have := h.xl c hc; omega
 refine ⟨by rw [hs]; exact h.ge, h.lo, ⟨?_, h.at_.2⟩, h.xl, h.row.keep (hk.mono fun b _ hb => hne b hb), fun f hf => ⟨(h.fx f hf).1, (hk.block _ (hne _ (h.fx f hf).1) (Array.getElem?_eq_some_iff.1 (h.fx f hf).2).1).trans (h.fx f hf).2⟩⟩
 rw [hs]
 refine h.at_.1.own hk fun c hc hn => ?_
 have : c = B := Classical.byContradiction hn
 subst this
 exact ⟨.inr ⟨hB, hc⟩, by omega⟩
theorem One.xlt (h : One S J W w p b q1 q2 k x z X) : ∀ c, X c → c < w.heap.size := fun c hc => by
 obtain ⟨q3, wh, F, Fc, Fj, Fs, s, h1, -⟩ := h.1
 exact h1.elt c (efoot_all.2 (.inr hc))
theorem GB.start (h : One S J W w p b q1 q2 k x z X) (hx : ∀ c, X c → c < w.heap.size) (hr : Row w A X xs) (hf : ∀ f ∈ fs, X f.1 ∧ w.heap[f.1]? = some (itC f.2)) : GB S J W p b q1 q2 k x z w.heap.size X A xs fs w :=
 ⟨Nat.le_refl _, h.1.kp.size, ⟨h.1.less fun c hc => by
  rcases hc with hc | hc
  ·exact hc
  ·omega, h.2⟩, hx, hr, hf⟩
theorem GB.next (h : GB S J W p b q1 q2 k x z g0 X A xs fs w) (hB : g0 ≤ B) {y : It} (hb : w.heap[B]? = some (itC y)) : GB S J W p b q1 q2 k x z w.heap.size (fun c => X c ∨ c = B) A xs ((B, y) :: fs) w := by
 have hlt := (Array.getElem?_eq_some_iff.1 hb).1
 have hge := h.ge
 refine GB.start ⟨h.at_.1.less fun c hc => ?_, h.at_.2⟩ (fun c hc => ?_) (h.row.mono fun c _ hc => .inl hc) fun f hf => ?_
 ·rcases hc with hc | rfl
  ·exact .inl hc
  ·exact .inr ⟨hB, hlt⟩
 ·rcases hc with hc | rfl
  ·have := h.xl c hc; omega
  ·exact hlt
 ·rcases List.mem_cons.1 hf with rfl | hf
  ·exact ⟨.inr rfl, hb⟩
  ·exact ⟨.inl (h.fx f hf).1, (h.fx f hf).2⟩
end
section
variable {o : Oper} {a : Act} {w : World} {Q : Exit → Act → World → Prop} {u v : Operand}
theorem op_storeJ {g B : Nat} {y : It} (hB : ItB w B) (hg : g ≤ B) (ho : o.op = .store 40 u v) (hx : a.eval u = .pointer (some ⟨B, 0, none⟩)) (hy : a.eval v = .agg #[.string y.key, .string y.val, .int .i64 y.till, .bool y.gone]) :
  o.wp Tryz.prog a w (fun a' w' => ∃ v, a' = a.put o.dst v ∧ Rg g w w' ∧ Keeps (fun b => b ≠ B) w w' ∧ w'.heap.size = w.heap.size ∧ w'.heap[B]? = some (itC y)) Q := by
 obtain ⟨c0, c1, c2, c3, hb⟩ := hB
 have e : (storeVar 40 ⟨B, 0, none⟩ (.agg #[.string y.key, .string y.val, .int .i64 y.till, .bool y.gone])).run Tryz.prog w = .ok () (w.setRow B #[.string y.key, .string y.val, .int .i64 y.till, .bool y.gone]) :=
  run_store_part (P := Tryz.prog) (w := w) 40 B 0 40 #[c0, c1, c2, c3] [.string y.key, .string y.val, .int .i64 y.till, .bool y.gone] hb it_info (Nat.le_refl 4) (by intro v hv; simp only [List.mem_cons, List.not_mem_nil, or_false] at hv; rcases hv with rfl | rfl | rfl | rfl <;> rfl)
 have hh := setRow_heap w B #[c0, c1, c2, c3] #[.string y.key, .string y.val, .int .i64 y.till, .bool y.gone] 40 _ hb
 have hk : Keeps (fun b => b ≠ B) w (w.setRow B #[.string y.key, .string y.val, .int .i64 y.till, .bool y.gone]) := ⟨rfl, rfl, rfl, by simp, fun b hb _ => setRow_other w B b _ hb⟩
 have hs : (w.setRow B #[.string y.key, .string y.val, .int .i64 y.till, .bool y.gone]).heap.size = w.heap.size := by simp
 unfold Oper.wp execOp
 simp only [ho, hx, hy, Instr.storeAt, Instr.sureAddr, Sem.run_bind, Sem.run_pure, Result.andThen_ok, e]
 refine ⟨_, rfl, ⟨Nat.le_of_eq hs.symm, fun B' _ h' => ?_⟩, hk, hs, hh.trans rfl⟩
 by_cases hBB : B' = B
 ·subst hBB
  exact ⟨_, _, _, _, hh.trans rfl⟩
 ·obtain ⟨x0, x1, x2, x3, hx'⟩ := h'
  exact ⟨x0, x1, x2, x3, (hk.block B' hBB (Array.getElem?_eq_some_iff.1 hx').1).trans hx'⟩
theorem kp_ldIt {B : Nat} {y : It} (hb : w.heap[B]? = some (itC y)) (ho : o.op = .load 40 u) (hx : a.eval u = .pointer (some ⟨B, 0, none⟩)) : o.wp Tryz.prog a w (fun a' w' => ∃ v, a' = a.put o.dst v ∧ Kp w w' ∧ IsV (.agg #[.string y.key, .string y.val, .int .i64 y.till, .bool y.gone]) w' v) Q := by
 have d0 : w.cell? ⟨B, 0, none⟩ = some (.string y.key) := (cell_of_block hb 0).trans rfl
 have d1 : w.cell? ⟨B, 1, none⟩ = some (.string y.val) := (cell_of_block hb 1).trans rfl
 have d2 : w.cell? ⟨B, 2, none⟩ = some (.int .i64 y.till) := (cell_of_block hb 2).trans rfl
 have d3 : w.cell? ⟨B, 3, none⟩ = some (.bool y.gone) := (cell_of_block hb 3).trans rfl
 clear hb
 refine kp_yield (v := .agg #[.string y.key, .string y.val, .int .i64 y.till, .bool y.gone]) (w' := w) ?_ (Keeps.refl _ _) rfl
 generalize a.eval = ρ at hx ⊢
 unfold execOp
 rw [ho]
 go_simp
theorem kp_it0 {B : Nat} (ho : o.op = .fieldAddr 40 u 0) (hx : a.eval u = .pointer (some ⟨B, 0, none⟩)) : o.wp Tryz.prog a w (fun a' w' => ∃ v, a' = a.put o.dst v ∧ Kp w w' ∧ IsV (.pointer (some ⟨B, 0, none⟩)) w' v) Q := by
 refine kp_yield (v := .pointer (some ⟨B, 0, none⟩)) (w' := w) ?_ (Keeps.refl _ _) rfl
 generalize a.eval = ρ at hx ⊢
 unfold execOp
 rw [ho]
 go_simp
theorem kp_itK {B : Nat} {y : It} (hb : w.heap[B]? = some (itC y)) (ho : o.op = .load 9 u) (hx : a.eval u = .pointer (some ⟨B, 0, none⟩)) : o.wp Tryz.prog a w (fun a' w' => ∃ v, a' = a.put o.dst v ∧ Kp w w' ∧ IsV (.string y.key) w' v) Q := by
 have d0 : w.cell? ⟨B, 0, none⟩ = some (.string y.key) := (cell_of_block hb 0).trans rfl
 clear hb
 refine kp_yield (v := .string y.key) (w' := w) ?_ (Keeps.refl _ _) rfl
 generalize a.eval = ρ at hx ⊢
 unfold execOp
 rw [ho]
 go_simp
theorem kp_x0 {s t : Value} (ho : o.op = .extract u 0) (hx : a.eval u = .tuple #[s, t]) : o.wp Tryz.prog a w (fun a' w' => ∃ v', a' = a.put o.dst v' ∧ Kp w w' ∧ IsV s w' v') Q := by
 refine kp_yield (v := s) (w' := w) ?_ (Keeps.refl _ _) rfl
 generalize a.eval = ρ at hx ⊢
 unfold execOp
 rw [ho]
 go_simp
theorem kp_x1 {s t : Value} (ho : o.op = .extract u 1) (hx : a.eval u = .tuple #[s, t]) : o.wp Tryz.prog a w (fun a' w' => ∃ v', a' = a.put o.dst v' ∧ Kp w w' ∧ IsV t w' v') Q := by
 refine kp_yield (v := t) (w' := w) ?_ (Keeps.refl _ _) rfl
 generalize a.eval = ρ at hx ⊢
 unfold execOp
 rw [ho]
 go_simp
theorem kp_as {s : Value} (ho : o.op = .assign u) (hx : a.eval u = s) : o.wp Tryz.prog a w (fun a' w' => ∃ v', a' = a.put o.dst v' ∧ Kp w w' ∧ IsV s w' v') Q := by
 refine kp_yield (v := s) (w' := w) ?_ (Keeps.refl _ _) rfl
 unfold execOp
 rw [ho]
 simp [hx]
theorem kp_getP {S : FlashOK} {J : JournalOK} {W : World} {p b q1 q2 kk n d : Nat} {z : Sto} {X : Nat → Prop} {key : ByteArray} {y : It} {r : Bool} (hT : S.T W) (h : StAt S J W w p b q1 q2 kk z n d X) (hk : key.size ≤ 1000000) (he : Ending.returned (.tuple #[.agg #[.string y.key, .string y.val, .int .i64 y.till, .bool y.gone], .bool r]) = getE z.f key 0)
  (ho : o.op = .call { callee := .value (.func 25), args := #[u, v, .const (.int .i64 0)], argTypes := #[34, 9, 2] }) (hx : a.eval u = .pointer (some ⟨q1, 0, none⟩)) (hy : a.eval v = .string key) :
  o.wp Tryz.prog a w (fun a' w' => ∃ v, a' = a.put o.dst v ∧ Kp w w' ∧ IsV (.tuple #[.agg #[.string y.key, .string y.val, .int .i64 y.till, .bool y.gone], .bool r]) w' v) Q := by
 have hf : a.eval (.func 25) = .func (.func 25) #[] #[] := rfl
 have h0 : a.eval (.const (.int .i64 0)) = .int .i64 0 := rfl
 refine kp_enter (f := 25) (args := #[.pointer (some ⟨q1, 0, none⟩), .string key, .int .i64 0]) ?_ (so_get hT h key 0 hk (by decide) (by decide) _ he) ?_
 ·clear h he
  generalize a.eval = ρ at hx hy hf h0 ⊢
  unfold execOp
  rw [ho]
  go_simp
 ·rintro e w' ⟨rfl, hk2, -⟩
  exact ⟨_, rfl, hk2, rfl⟩
end
def V8 (b q1 : Nat) (y : It) : Nat → World → Value → Prop
 | 3 => IsV (.pointer (some ⟨q1, 0, none⟩))
 | 4 => IsV (.agg #[.string y.key, .string y.val, .int .i64 y.till, .bool y.gone])
 | 5 => IsV (.int .i64 (putE y))
 | 6 => IsV (.int .i64 (putE y))
 | _ => IsV (.pointer (some ⟨b, 0, none⟩))
theorem V8_keep {b q1 : Nat} {y : It} (j : Nat) (w w' : World) (v : Value) (hv : V8 b q1 y j w v) : V8 b q1 y j w' v := by
 unfold V8 at hv ⊢
 split at hv <;> exact hv
def V9 (g b q1 bx : Nat) (key : ByteArray) (y : It) (r : Bool) : Nat → World → Value → Prop
 | 3 => IsV (.pointer (some ⟨q1, 0, none⟩))
 | 4 => IsV (.pointer (some ⟨bx, 0, none⟩))
 | 5 => IsV (.string key)
 | 6 => IsV (.tuple #[.agg #[.string y.key, .string y.val, .int .i64 y.till, .bool y.gone], .bool r])
 | 7 => IsV (.tuple #[.agg #[.string y.key, .string y.val, .int .i64 y.till, .bool y.gone], .bool r])
 | 8 => IsV (.agg #[.string y.key, .string y.val, .int .i64 y.till, .bool y.gone])
 | 9 => IsV (.bool r)
 | 10 => NewIt g
 | 11 => fun _ _ => True
 | 12 => IsV (.bool r)
 | _ => IsV (.pointer (some ⟨b, 0, none⟩))
theorem V9_keep {g b q1 bx : Nat} {key : ByteArray} {y : It} {r : Bool} (j : Nat) (w w' : World) (v : Value) (h : Rg g w w') (hv : V9 g b q1 bx key y r j w v) : V9 g b q1 bx key y r j w' v := by
 unfold V9 at hv ⊢
 split at hv
 all_goals first | exact NewIt.keep h hv | exact hv
inductive Kd where
 | is (v : Value)
 | txts (l : List ByteArray)
def Kd.V : Kd → World → Value → Prop
 | .is x => IsV x
 | .txts l => fun w v => ∃ A c, v = .slice A l.length c ∧ Row w A (fun _ => True) (l.map Value.string)
theorem Kd.keep {k : Kd} {w w' : World} {v : Value} (h : Kp w w') (hv : k.V w v) : k.V w' v := by
 cases k with
 | is x => exact hv
 | txts l =>
  obtain ⟨A, c, e, hr⟩ := hv
  exact ⟨A, c, e, hr.keep h⟩
def keysOf (st : FSt) (x : It) : List ByteArray := if (st.at_ x.key).isSome = true then [x.key] else []
theorem keysOf_len (st : FSt) (x : It) : (keysOf st x).length ≤ 1 := by
 unfold keysOf; split <;> simp
theorem keys_is (st : FSt) (x : It) (h : st.ents = [] ∨ st.ents = [fput x]) (ks : List ByteArray) (hk : Rising ks) (h1 : ∀ k, k ∈ ks ↔ (st.at_ k).isSome = true) : ks = keysOf st x := by
 have hone : ∀ k, (st.at_ k).isSome = true → k = x.key := fun k hs => by
  unfold FSt.at_ fLast at hs
  rcases h with h | h
  ·rw [h] at hs; simp at hs
  ·rw [h] at hs
   by_cases e : x.key = k
   ·exact e.symm
   ·have : isKF k (fput x) = false := by
     cases h3 : isKF k (fput x) with
     | false => rfl
     | true => exact absurd (isKF_iff.1 h3) e
    exfalso
    rcases Nat.eq_zero_or_pos st.gone with h0 | h0
    ·rw [h0] at hs; simp [this] at hs
    ·rw [List.drop_eq_nil_of_le (show [fput x].length ≤ st.gone from h0)] at hs; simp at hs
 unfold keysOf
 by_cases hx : (st.at_ x.key).isSome = true
 ·rw [if_pos hx]
  exact rising_single hk fun k => ⟨fun hh => hone k ((h1 k).1 hh), fun e => by rw [e]; exact (h1 _).2 hx⟩
 ·rw [if_neg hx]
  exact List.eq_nil_iff_forall_not_mem.2 fun k hh => by have h3 := (h1 k).1 hh; rw [hone k h3] at h3; exact hx h3
section
variable {S : FlashOK} {J : JournalOK} {W w : World} {p b q1 q2 kk n d : Nat} {z : Sto} {X : Nat → Prop} {o : Oper} {a : Act} {Q : Exit → Act → World → Prop} {u v : Operand}
theorem kp_st1 {b : Nat} (ho : o.op = .fieldAddr 38 u 1) (hx : a.eval u = .pointer (some ⟨b, 0, none⟩)) : o.wp Tryz.prog a w (fun a' w' => ∃ v, a' = a.put o.dst v ∧ Kp w w' ∧ IsV (.pointer (some ⟨b, 1, none⟩)) w' v) Q := by
 refine kp_yield (v := .pointer (some ⟨b, 1, none⟩)) (w' := w) ?_ (Keeps.refl _ _) rfl
 generalize a.eval = ρ at hx ⊢
 unfold execOp
 rw [ho]
 go_simp
theorem kp_st2 {b : Nat} (ho : o.op = .fieldAddr 38 u 2) (hx : a.eval u = .pointer (some ⟨b, 0, none⟩)) : o.wp Tryz.prog a w (fun a' w' => ∃ v, a' = a.put o.dst v ∧ Kp w w' ∧ IsV (.pointer (some ⟨b, 2, none⟩)) w' v) Q := by
 refine kp_yield (v := .pointer (some ⟨b, 2, none⟩)) (w' := w) ?_ (Keeps.refl _ _) rfl
 generalize a.eval = ρ at hx ⊢
 unfold execOp
 rw [ho]
 go_simp
theorem kp_ldJ {b q : Nat} (hc : w.cell? ⟨b, 1, none⟩ = some (.pointer (some ⟨q, 0, none⟩))) (ho : o.op = .load 35 u) (hx : a.eval u = .pointer (some ⟨b, 1, none⟩)) : o.wp Tryz.prog a w (fun a' w' => ∃ v, a' = a.put o.dst v ∧ Kp w w' ∧ IsV (.pointer (some ⟨q, 0, none⟩)) w' v) Q := by
 refine kp_yield (v := .pointer (some ⟨q, 0, none⟩)) (w' := w) ?_ (Keeps.refl _ _) rfl
 generalize a.eval = ρ at hx ⊢
 unfold execOp
 rw [ho]
 go_simp
theorem kp_ldK {b q : Nat} (hc : w.cell? ⟨b, 2, none⟩ = some (.pointer (some ⟨q, 0, none⟩))) (ho : o.op = .load 36 u) (hx : a.eval u = .pointer (some ⟨b, 2, none⟩)) : o.wp Tryz.prog a w (fun a' w' => ∃ v, a' = a.put o.dst v ∧ Kp w w' ∧ IsV (.pointer (some ⟨q, 0, none⟩)) w' v) Q := by
 refine kp_yield (v := .pointer (some ⟨q, 0, none⟩)) (w' := w) ?_ (Keeps.refl _ _) rfl
 generalize a.eval = ρ at hx ⊢
 unfold execOp
 rw [ho]
 go_simp
theorem kp_it3 {B : Nat} (ho : o.op = .fieldAddr 40 u 3) (hx : a.eval u = .pointer (some ⟨B, 0, none⟩)) : o.wp Tryz.prog a w (fun a' w' => ∃ v, a' = a.put o.dst v ∧ Kp w w' ∧ IsV (.pointer (some ⟨B, 3, none⟩)) w' v) Q := by
 refine kp_yield (v := .pointer (some ⟨B, 3, none⟩)) (w' := w) ?_ (Keeps.refl _ _) rfl
 generalize a.eval = ρ at hx ⊢
 unfold execOp
 rw [ho]
 go_simp
theorem kp_itG {B : Nat} {y : It} {g : Bool} (hg : y.gone = g) (hb : w.heap[B]? = some (itC y)) (ho : o.op = .load 4 u) (hx : a.eval u = .pointer (some ⟨B, 3, none⟩)) : o.wp Tryz.prog a w (fun a' w' => ∃ v, a' = a.put o.dst v ∧ Kp w w' ∧ IsV (.bool g) w' v) Q := by
 subst hg
 have d3 : w.cell? ⟨B, 3, none⟩ = some (.bool y.gone) := (cell_of_block hb 3).trans rfl
 clear hb
 refine kp_yield (v := .bool y.gone) (w' := w) ?_ (Keeps.refl _ _) rfl
 generalize a.eval = ρ at hx ⊢
 unfold execOp
 rw [ho]
 go_simp
theorem kp_mf0 {x0 x1 x2 : Int} {x3 : Bool} (ho : o.op = .field 32 u 0) (hx : a.eval u = .agg #[.int .i64 x0, .int .i64 x1, .int .i64 x2, .bool x3]) : o.wp Tryz.prog a w (fun a' w' => ∃ v, a' = a.put o.dst v ∧ Kp w w' ∧ IsV (.int .i64 x0) w' v) Q := by
 refine kp_yield (v := .int .i64 x0) (w' := w) ?_ (Keeps.refl _ _) rfl
 have e := meta_field0 w x0 x1 x2 x3
 unfold execOp
 simp [ho, hx, e, Result.andThen]
theorem kp_mayP {y : It} {m : Bool} (hm : y.may = m) (hf : y.fits) (ho : o.op = .call { callee := .value (.func 27), args := #[u], argTypes := #[40] }) (hx : a.eval u = .agg #[.string y.key, .string y.val, .int .i64 y.till, .bool y.gone]) : o.wp Tryz.prog a w (fun a' w' => ∃ v, a' = a.put o.dst v ∧ Kp w w' ∧ IsV (.bool m) w' v) Q := by
 subst hm
 have hg : a.eval (.func 27) = .func (.func 27) #[] #[] := rfl
 refine kp_enter (f := 27) (args := #[.agg #[.string y.key, .string y.val, .int .i64 y.till, .bool y.gone]]) ?_ (rmay w y hf) ?_
 ·generalize a.eval = ρ at hx hg ⊢
  unfold execOp
  rw [ho]
  go_simp
 ·rintro e w' ⟨rfl, hk⟩
  exact ⟨_, rfl, hk, rfl⟩
theorem kp_eqIt {y : It} (hf : y.fits) (ho : o.op = .call { callee := .value (.func 28), args := #[u, v], argTypes := #[40, 40] }) (hx : a.eval u = .agg #[.string y.key, .string y.val, .int .i64 y.till, .bool y.gone]) (hy : a.eval v = .agg #[.string y.key, .string y.val, .int .i64 y.till, .bool y.gone]) : o.wp Tryz.prog a w (fun a' w' => ∃ v, a' = a.put o.dst v ∧ Kp w w' ∧ IsV (.bool true) w' v) Q := by
 have hg : a.eval (.func 28) = .func (.func 28) #[] #[] := rfl
 refine kp_enter (f := 28) (args := #[.agg #[.string y.key, .string y.val, .int .i64 y.till, .bool y.gone], .agg #[.string y.key, .string y.val, .int .i64 y.till, .bool y.gone]]) ?_ (reqItem w y y hf hf true (by simp)) ?_
 ·generalize a.eval = ρ at hx hy hg ⊢
  unfold execOp
  rw [ho]
  go_simp
 ·rintro e w' ⟨rfl, hk⟩
  exact ⟨_, rfl, hk, rfl⟩
theorem kp_keysP {x : It} (hT : S.T W) (h : StAt S J W w p b q1 q2 kk z n d X) (he : z.f.ents = [] ∨ z.f.ents = [fput x]) (ho : o.op = .call { callee := .value (.func 30), args := #[u], argTypes := #[34] }) (hx : a.eval u = .pointer (some ⟨q1, 0, none⟩)) : o.wp Tryz.prog a w (fun a' w' => ∃ v, a' = a.put o.dst v ∧ Kp w w' ∧ (Kd.txts (keysOf z.f x)).V w' v) Q := by
 have hg : a.eval (.func 30) = .func (.func 30) #[] #[] := rfl
 refine kp_enter (f := 30) (args := #[.pointer (some ⟨q1, 0, none⟩)]) ?_ (so_keys hT h) ?_
 ·clear h he
  generalize a.eval = ρ at hx hg ⊢
  unfold execOp
  rw [ho]
  go_simp
 ·rintro e w' ⟨A, c, ks, rfl, hr, hm, -, -, ht, hk, -⟩
  obtain rfl := keys_is z.f x he ks hr hm
  exact ⟨_, rfl, hk, A, c, rfl, ht.mono fun _ _ _ => trivial⟩
theorem kp_eqTx {l : List ByteArray} (hl : l.length ≤ 1) (ho : o.op = .call { callee := .value (.func 29), args := #[u, v], argTypes := #[30, 30] }) (hx : (Kd.txts l).V w (a.eval u)) (hy : (Kd.txts l).V w (a.eval v)) : o.wp Tryz.prog a w (fun a' w' => ∃ v, a' = a.put o.dst v ∧ Kp w w' ∧ IsV (.bool true) w' v) Q := by
 have hg : a.eval (.func 29) = .func (.func 29) #[] #[] := rfl
 obtain ⟨A, c, e1, hr⟩ := hx
 obtain ⟨B, d, e2, hs⟩ := hy
 refine kp_enter (f := 29) (args := #[.slice A l.length c, .slice B l.length d]) ?_ (eqtexts_same w A B c d l hr hs (by omega)) ?_
 ·clear hr hs
  generalize a.eval = ρ at e1 e2 hg ⊢
  unfold execOp
  rw [ho]
  go_simp
 ·rintro e w' ⟨rfl, hk⟩
  exact ⟨_, rfl, hk, rfl⟩
theorem kp_seqP {m : Int} (hT : J.T W) (h : StAt S J W w p b q1 q2 kk z n d X) (hm : m = (z.j.keys.length : Int)) (ho : o.op = .call { callee := .value (.func 24), args := #[u], argTypes := #[35] }) (hx : a.eval u = .pointer (some ⟨q2, 0, none⟩)) : o.wp Tryz.prog a w (fun a' w' => ∃ v, a' = a.put o.dst v ∧ Kp w w' ∧ IsV (.int .i64 m) w' v) Q := by
 have hg : a.eval (.func 24) = .func (.func 24) #[] #[] := rfl
 refine kp_enter (f := 24) (args := #[.pointer (some ⟨q2, 0, none⟩)]) ?_ (so_seq hT h m hm) ?_
 ·clear h hm
  generalize a.eval = ρ at hx hg ⊢
  unfold execOp
  rw [ho]
  go_simp
 ·rintro e w' ⟨rfl, hk, -⟩
  exact ⟨_, rfl, hk, rfl⟩
theorem kp_baseP {m : Int} (hT : J.T W) (h : StAt S J W w p b q1 q2 kk z n d X) (hm : m = (z.j.base : Int)) (ho : o.op = .call { callee := .value (.func 31), args := #[u], argTypes := #[35] }) (hx : a.eval u = .pointer (some ⟨q2, 0, none⟩)) : o.wp Tryz.prog a w (fun a' w' => ∃ v, a' = a.put o.dst v ∧ Kp w w' ∧ IsV (.int .i64 m) w' v) Q := by
 have hg : a.eval (.func 31) = .func (.func 31) #[] #[] := rfl
 refine kp_enter (f := 31) (args := #[.pointer (some ⟨q2, 0, none⟩)]) ?_ (so_base hT h m hm) ?_
 ·clear h hm
  generalize a.eval = ρ at hx hg ⊢
  unfold execOp
  rw [ho]
  go_simp
 ·rintro e w' ⟨rfl, hk, -⟩
  exact ⟨_, rfl, hk, rfl⟩
theorem kp_metaP (h : StAt S J W w p b q1 q2 kk z n d X) (hm : z.m = ⟨1, 0, 0, false⟩) (ho : o.op = .call { callee := .value (.func 12), args := #[u], argTypes := #[36] }) (hx : a.eval u = .pointer (some ⟨kk, 0, none⟩)) : o.wp Tryz.prog a w (fun a' w' => ∃ v, a' = a.put o.dst v ∧ Kp w w' ∧ IsV (.agg #[.int .i64 1, .int .i64 0, .int .i64 0, .bool false]) w' v) Q := by
 have hg : a.eval (.func 12) = .func (.func 12) #[] #[] := rfl
 have hc := so_meta h
 rw [hm] at hc
 refine kp_enter (f := 12) (args := #[.pointer (some ⟨kk, 0, none⟩)]) ?_ hc ?_
 ·clear h hm hc
  generalize a.eval = ρ at hx hg ⊢
  unfold execOp
  rw [ho]
  go_simp
 ·rintro e w' ⟨rfl, hk, -⟩
  exact ⟨_, rfl, hk, rfl⟩
end
theorem putAll_snoc (d : Option Tmp) (v : Value) : ∀ (ds : List (Option Tmp)) (us : List Value) (a : Act), ds.length = us.length → putAll a (ds ++ [d]) (us ++ [v]) = (putAll a ds us).put d v
 | [], [], a, _ => rfl
 | _ :: ds, _ :: us, a, h => putAll_snoc d v ds us (a.put _ _) (by simpa using h)
theorem putAll_same : ∀ (ds : List (Option Tmp)) (us : List Value) (a : Act), (putAll a ds us).tmps.size = a.tmps.size ∧ (putAll a ds us).defers = a.defers
 | [], _, a => by cases ‹List Value› <;> exact ⟨rfl, rfl⟩
 | _ :: _, [], a => ⟨rfl, rfl⟩
 | d :: ds, u :: us, a => by
  have h := putAll_same ds us (a.put d u)
  refine ⟨h.1.trans ?_, h.2.trans ?_⟩
  ·cases d <;> simp [Act.put]
  ·cases d <;> rfl
theorem done_by {Q : Exit → Act → World → Prop} {a0 : Act} {ds : List (Option Tmp)} {us : List Value} {w : World} (n d : Nat) (v : Value) (hn : ds.length = n + 1) (hl : us.length = ds.length) (hd : ds[n]? = some (some d)) (hs : d < a0.tmps.size) (hv : us.getD n undef = v)
  (h : ∀ aE : Act, aE.tmps.getD d undef = v → aE.defers = a0.defers → Q .normal aE w) : Q .normal (putAll a0 ds us) w := by
 have e1 : ds = ds.take n ++ [some d] := by
  have hlt : n < ds.length := by omega
  rw [List.getElem?_eq_getElem hlt] at hd
  have h2 : ds.take (n + 1) = ds := List.take_of_length_le (by omega)
  rw [List.take_succ_eq_append_getElem hlt, Option.some.inj hd] at h2
  exact h2.symm
 have e2 : us = us.take n ++ [v] := by
  have hlt : n < us.length := by omega
  have h2 : us.take (n + 1) = us := List.take_of_length_le (by omega)
  rw [List.take_succ_eq_append_getElem hlt] at h2
  have h3 : us[n] = v := by rw [← hv, List.getD_eq_getElem?_getD, List.getElem?_eq_getElem hlt]; rfl
  rw [h3] at h2
  exact h2.symm
 have hsz := putAll_same (ds.take n) (us.take n) a0
 rw [e1, e2, putAll_snoc (some d) v _ _ _ (by simp; omega)]
 refine h _ ?_ ?_
 ·rw [getD_put (by rw [hsz.1]; exact hs), if_pos rfl]
 ·exact hsz.2
end Go.Proofs.YticophaepapjoaaGreatDoor.storeParts
