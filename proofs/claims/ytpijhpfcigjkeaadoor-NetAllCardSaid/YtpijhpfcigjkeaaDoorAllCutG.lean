/- Texts of one proof, behind one another: each says above its part what it proves and on which conditions. -/
import Derived.Test.YtpijhpfcigjkeaaDoorMsLocs
import Derived.Test.YtpijhpfcigjkeaaDoorItemTake
import Derived.Laws.OwnMore
import Derived.Deep.RegionLaw
import Derived.Test.YtpijhpfcigjkeaaDoorAllInvs
/-
  THE LAWS' OWN 'Cut' OF A MESSAGE (layer 19).
-/
section
namespace Go.Proofs.YtpijhpfcigjkeaaDoor
open Go Go.RowKit Go.Joins

def Mk.cut (x : Mk) : Mk := ⟨x.seq, cutTo x.key 50⟩
def cutMk (l : List Mk) (k : Nat) : List Mk := (l.take k).map Mk.cut
theorem cutMk_len (l : List Mk) (k : Nat) : (cutMk l k).length = min k l.length := by simp [cutMk]
theorem cutMk_next (l : List Mk) (k : Nat) (h : k < l.length) : mkCells (cutMk l k) ++ (l[k].cut).cells = mkCells (cutMk l (k + 1)) := by
  unfold cutMk
  rw [List.take_succ_eq_append_getElem h, List.map_append, List.map_cons, List.map_nil, mkCells_snoc]
/-- What Cut leaves. -/
def cutM (m : Ms) : Ms := { m with key := cutTo m.key 50, item := m.item.cut, items := cutL m.items 6, marks := cutMk m.marks 6, mem := m.mem.take 7, old := m.old.take 7 }
/-- What came in may have texts of any length. -/
structure Ms.Came (m : Ms) : Prop where
  k1 : i64z m.kind
  k2 : i64z m.frm
  k3 : i64z m.to_
  k4 : i64z m.epoch
  k5 : i64z m.tick
  k6 : i64z m.seq
  k7 : i64z m.n
  k8 : i64z m.id
  k9 : i64z m.op
  k10 : i64z m.err
  k11 : i64z m.base
  key : m.key.size ≤ maxLen
  item : (m.item.key.size ≤ maxLen ∧ m.item.val.size ≤ maxLen) ∧ i64z m.item.till
  its : ∀ x ∈ m.items, (x.key.size ≤ maxLen ∧ x.val.size ≤ maxLen) ∧ i64z x.till
  mks : ∀ x ∈ m.marks, x.key.size ≤ maxLen ∧ i64z x.seq
  mem : ∀ z ∈ m.mem, i64z z
  old : ∀ z ∈ m.old, i64z z
theorem cutM_fits {m : Ms} (h : m.Came) : (cutM m).Fits := by
  refine ⟨h.k1, h.k2, h.k3, h.k4, h.k5, h.k6, h.k7, h.k8, h.k9, h.k10, h.k11, ?_, It.cut_fits _ h.item.2.1 h.item.2.2, ?_, ?_, ?_, ?_, ?_, ?_, ?_, ?_⟩
  · have := cutTo_size m.key 50
    show (cutTo m.key 50).size ≤ 1000
    omega
  · show (cutL m.items 6).length ≤ 100
    rw [cutL_len]; omega
  · exact cutL_fits (fun x hx => (h.its x hx).2) 6
  · show (cutMk m.marks 6).length ≤ 100
    rw [cutMk_len]; omega
  · intro x hx
    obtain ⟨y, hy, rfl⟩ := List.mem_map.1 hx
    have := cutTo_size y.key 50
    exact ⟨show (cutTo y.key 50).size ≤ 1000 by omega, (h.mks y (List.mem_of_mem_take hy)).2⟩
  · show (m.mem.take 7).length ≤ 100
    rw [List.length_take]; omega
  · exact fun z hz => h.mem z (List.mem_of_mem_take hz)
  · show (m.old.take 7).length ≤ 100
    rw [List.length_take]; omega
  · exact fun z hz => h.old z (List.mem_of_mem_take hz)
section
variable {w : World} {g : Nat} {m : Ms} {a : MsA}
theorem MB.setKey (h : MB w g m a) (k : ByteArray) : MB (w.setCell ⟨g, 9, none⟩ (.string k)) g { m with key := k } a := (block_setCell h _).trans rfl
theorem MB.setItem (h : MB w g m a) (x : It) : MB ((((w.setCell ⟨g, 12, none⟩ (.string x.key)).setCell ⟨g, 13, none⟩ (.string x.val)).setCell ⟨g, 14, none⟩ (.int .i64 x.till)).setCell ⟨g, 15, none⟩ (.bool x.gone)) g { m with item := x } a :=
  (block_setCell (block_setCell (block_setCell (block_setCell h _) _) _) _).trans rfl
theorem MB.setItems (h : MB w g m a) (l : List It) (A : Option Addr) (c : Nat) : MB (w.setCell ⟨g, 16, none⟩ (.slice A l.length c)) g { m with items := l } { a with ia := A, ic := c } := (block_setCell h _).trans rfl
theorem MB.setMarks (h : MB w g m a) (l : List Mk) (A : Option Addr) (c : Nat) : MB (w.setCell ⟨g, 17, none⟩ (.slice A l.length c)) g { m with marks := l } { a with ma := A, mc := c } := (block_setCell h _).trans rfl
theorem MB.setMem (h : MB w g m a) (l : List Int) (A : Option Addr) (c : Nat) : MB (w.setCell ⟨g, 18, none⟩ (.slice A l.length c)) g { m with mem := l } { a with ba := A, bc := c } := (block_setCell h _).trans rfl
theorem MB.setOld (h : MB w g m a) (l : List Int) (A : Option Addr) (c : Nat) : MB (w.setCell ⟨g, 20, none⟩ (.slice A l.length c)) g { m with old := l } { a with oa := A, oc := c } := (block_setCell h _).trans rfl
end
theorem mks_src (W : World) (q : Int) (k : ByteArray) : Src Tryd.prog 2 33 (.slice (some ⟨W.heap.size, 0, none⟩) 1 1) 1 [.int .i64 q, .string k] (W.alloc (.cells #[.int .i64 q, .string k] 57)) :=
  Src.ofSlice _ Tryd.underlying33 ⟨W.heap.size, 0, none⟩ 1 1 [.int .i64 q, .string k] rfl (fun j v hv => by
    rw [WideShapes.add_plain, World.cell?, heap_alloc_new]
    have hj : j < 2 := (List.getElem?_eq_some_iff.1 hv).1
    have hc : j = 0 ∨ j = 1 := by omega
    rcases hc with rfl | rfl <;> (simp at hv; rw [← hv]; rfl)) (fun v hv => by
    simp only [List.mem_cons, List.not_mem_nil, or_false] at hv
    rcases hv with rfl | rfl <;> rfl)
theorem mk_form {w : World} {base n size : Nat} {e : TypeId} {v : Value} {xs : List Value} (h : w.ownsRow base e size v n xs) : ∃ A c, v = .slice A n c := by
  rcases h.2 with ⟨rfl, h0⟩ | ⟨g, cap, cur, rfl, r⟩
  · exact ⟨none, 0, by rw [h0]⟩
  · exact ⟨_, _, rfl⟩
theorem mk_room {w : World} {base n size : Nat} {e : TypeId} {A : Option Addr} {c : Nat} {xs : List Value} (h : w.ownsRow base e size (.slice A n c) n xs) : n ≤ c ∧ c ≤ maxLen ∧ (A = none → c = 0) := by
  rcases h.2 with ⟨h', h0⟩ | ⟨g', cap', cur, h', _, _, h1, h2, _⟩
  · injection h' with h1 _ h2
    exact ⟨by omega, by rw [h2]; exact Nat.zero_le _, fun _ => h2⟩
  · injection h' with e1 _ e2
    subst e1 e2
    exact ⟨h1, h2, fun h => by cases h⟩

/-- While the laws' own Cut goes on. -/
structure CutSt (w : World) (g : Nat) (M : Ms) (A : MsA) (w8 : World) : Prop where
  mb : MB w8 g M A
  res : MB w8 (g + 1) ms0 msA0
  kp : Kp w w8
  its : ItsAt w8 A.ia (fun b => g + 2 ≤ b) M.items
  mks : MksAt w8 A.ma (fun b => g + 2 ≤ b) M.marks
section
variable {w w8 : World} {g : Nat} {M : Ms} {A : MsA}
theorem cut_kk (F : Nat → Prop) (hF : ¬ F g) (w8 : World) (i : Nat) (v : Value) : Keeps F w8 (w8.setCell ⟨g, i, none⟩ v) := (Keeps.refl F w8).setCell (p := ⟨g, i, none⟩) (.inr hF) _
theorem CutSt.mem7 (h : CutSt w g M A w8) (hg : w.heap.size ≤ g) (l : List Int) (n : Nat) (hn : n = l.length) : CutSt w g { M with mem := l } A (w8.setCell ⟨g, 18, none⟩ (.slice A.ba n A.bc)) := by
  subst hn
  exact ⟨h.mb.setMem l A.ba A.bc, h.res.keep (cut_kk (fun b => b ≠ g) (fun h => h rfl) _ _ _) (by omega), kp_behind h.kp (cut_kk (fun b => b ≠ g) (fun h => h rfl) _ _ _) hg, h.its.keep (cut_kk _ (fun (h : g + 2 ≤ g) => by omega) _ _ _), h.mks.keep (cut_kk _ (fun (h : g + 2 ≤ g) => by omega) _ _ _)⟩
theorem CutSt.old7 (h : CutSt w g M A w8) (hg : w.heap.size ≤ g) (l : List Int) (n : Nat) (hn : n = l.length) : CutSt w g { M with old := l } A (w8.setCell ⟨g, 20, none⟩ (.slice A.oa n A.oc)) := by
  subst hn
  exact ⟨h.mb.setOld l A.oa A.oc, h.res.keep (cut_kk (fun b => b ≠ g) (fun h => h rfl) _ _ _) (by omega), kp_behind h.kp (cut_kk (fun b => b ≠ g) (fun h => h rfl) _ _ _) hg, h.its.keep (cut_kk _ (fun (h : g + 2 ≤ g) => by omega) _ _ _), h.mks.keep (cut_kk _ (fun (h : g + 2 ≤ g) => by omega) _ _ _)⟩
end

end Go.Proofs.YtpijhpfcigjkeaaDoor
end

/-
  SINGLE OPERATIONS ON MARKS; one more mark onto a row (layer 19).
-/
section
namespace Go.Proofs.YtpijhpfcigjkeaaDoor
open Go Go.RowKit Go.Joins

theorem ms_not_chained {ops : Array Oper} {k i : Nat} {js : List Nat} {C : Prop} (h : chained ops k i js = false) (t : chained ops k i js = true) : C := by rw [h] at t; cases t
section
variable {o : Oper} {a : Act} {w : World} {Q : Exit → Act → World → Prop} {x y : Operand}
theorem kp_fMs14 {b : Nat} (ho : o.op = .fieldAddr 36 x 14) (hx : a.eval x = .pointer (some ⟨b, 0, none⟩)) : o.wp Tryd.prog a w (fun a' w' => ∃ v, a' = a.put o.dst v ∧ Kp w w' ∧ IsV (.pointer (some ⟨b, 17, none⟩)) w' v) Q := by
  refine kp_yield (v := .pointer (some ⟨b, 17, none⟩)) (w' := w) ?_ (Keeps.refl _ _) rfl
  generalize a.eval = ρ at hx ⊢
  unfold execOp
  rw [ho]
  go_simp
theorem kp_lMks {p : Addr} {A : Option Addr} {n c : Nat} (hc : w.cell? p = some (.slice A n c)) (ho : o.op = .load 33 x) (hx : a.eval x = .pointer (some p)) : o.wp Tryd.prog a w (fun a' w' => ∃ v, a' = a.put o.dst v ∧ Kp w w' ∧ IsV (.slice A n c) w' v) Q := by
  refine kp_yield (v := .slice A n c) (w' := w) ?_ (Keeps.refl _ _) rfl
  generalize a.eval = ρ at hx ⊢
  unfold execOp
  rw [ho]
  go_simp
theorem kp_ixMk {b off n c j : Nat} (hj : j < n) (ho : o.op = .indexAddr 33 x y) (hx : a.eval x = .slice (some ⟨b, off, none⟩) n c) (hy : a.eval y = .int .i64 (j : Int)) : o.wp Tryd.prog a w (fun a' w' => ∃ v, a' = a.put o.dst v ∧ Kp w w' ∧ IsV (.pointer (some ⟨b, off + j * 2, none⟩)) w' v) Q := by
  refine kp_yield (v := .pointer (some ⟨b, off + j * 2, none⟩)) (w' := w) ?_ (Keeps.refl _ _) rfl
  generalize a.eval = ρ at hx hy ⊢
  unfold execOp
  rw [ho]
  go_simp
theorem kp_fMk0 {b f : Nat} (ho : o.op = .fieldAddr 57 x 0) (hx : a.eval x = .pointer (some ⟨b, f, none⟩)) : o.wp Tryd.prog a w (fun a' w' => ∃ v, a' = a.put o.dst v ∧ Kp w w' ∧ IsV (.pointer (some ⟨b, f, none⟩)) w' v) Q := by
  refine kp_yield (v := .pointer (some ⟨b, f, none⟩)) (w' := w) ?_ (Keeps.refl _ _) rfl
  generalize a.eval = ρ at hx ⊢
  unfold execOp
  rw [ho]
  go_simp
theorem kp_fMk1 {b f : Nat} (ho : o.op = .fieldAddr 57 x 1) (hx : a.eval x = .pointer (some ⟨b, f, none⟩)) : o.wp Tryd.prog a w (fun a' w' => ∃ v, a' = a.put o.dst v ∧ Kp w w' ∧ IsV (.pointer (some ⟨b, f + 1, none⟩)) w' v) Q := by
  refine kp_yield (v := .pointer (some ⟨b, f + 1, none⟩)) (w' := w) ?_ (Keeps.refl _ _) rfl
  generalize a.eval = ρ at hx ⊢
  unfold execOp
  rw [ho]
  go_simp
theorem kp_lMkN {p : Addr} {n : Int} (hc : w.cell? p = some (.int .i64 n)) (ho : o.op = .load 2 x) (hx : a.eval x = .pointer (some p)) : o.wp Tryd.prog a w (fun a' w' => ∃ v, a' = a.put o.dst v ∧ Kp w w' ∧ IsV (.int .i64 n) w' v) Q := by
  refine kp_yield (v := .int .i64 n) (w' := w) ?_ (Keeps.refl _ _) rfl
  generalize a.eval = ρ at hx ⊢
  unfold execOp
  rw [ho]
  go_simp
theorem kp_lMkT {p : Addr} {s : ByteArray} (hc : w.cell? p = some (.string s)) (ho : o.op = .load 9 x) (hx : a.eval x = .pointer (some p)) : o.wp Tryd.prog a w (fun a' w' => ∃ v, a' = a.put o.dst v ∧ Kp w w' ∧ IsV (.string s) w' v) Q := by
  refine kp_yield (v := .string s) (w' := w) ?_ (Keeps.refl _ _) rfl
  generalize a.eval = ρ at hx ⊢
  unfold execOp
  rw [ho]
  go_simp
theorem kp_bMk {q : Int} {s : ByteArray} (ho : o.op = .build 57 #[(0, x), (1, y)]) (hx : a.eval x = .int .i64 q) (hy : a.eval y = .string s) : o.wp Tryd.prog a w (fun a' w' => ∃ v, a' = a.put o.dst v ∧ Kp w w' ∧ IsV (.agg #[.int .i64 q, .string s]) w' v) Q := by
  refine kp_yield (v := .agg #[.int .i64 q, .string s]) (w' := w) ?_ (Keeps.refl _ _) rfl
  generalize a.eval = ρ at hx hy ⊢
  unfold execOp
  rw [ho]
  go_simp
theorem kp_cut50 {s : ByteArray} (hs : s.size ≤ maxLen) (ho : o.op = .call { callee := .value (.func 20), args := #[x, .const (.int .i64 50)], argTypes := #[9, 3] }) (hx : a.eval x = .string s) : o.wp Tryd.prog a w (fun a' w' => ∃ v, a' = a.put o.dst v ∧ Kp w w' ∧ IsV (.string (cutTo s 50)) w' v) Q := by
  have hg : a.eval (.func 20) = .func (.func 20) #[] #[] := rfl
  have hz : a.eval (.const (.int .i64 50)) = .int .i64 50 := rfl
  refine kp_enter (f := 20) (args := #[.string s, .int .i64 50]) ?_ (cut_50 s hs w) ?_
  · generalize a.eval = ρ at hx hg hz ⊢
    unfold execOp
    rw [ho]
    go_simp
  · rintro e w' ⟨rfl, rfl⟩
    exact ⟨_, rfl, Keeps.refl _ _, rfl⟩
/-- []Mark{x}. -/
def LitMk (v0 : Value) (q : Int) (s : ByteArray) : World → Value → Prop := fun w v => ∃ B, v = .slice (some ⟨B, 0, none⟩) 1 1 ∧ v0.ownBlock ≠ some B ∧ Row w (some ⟨B, 0, none⟩) (fun b => b = B) [.int .i64 q, .string s]
theorem kp_sMk {v0 : Value} {q : Int} {s : ByteArray} (h0 : ∀ b, v0.ownBlock = some b → b < w.heap.size) (ho : o.op = .buildSlice 33 1 #[(0, x)]) (hx : a.eval x = .agg #[.int .i64 q, .string s]) : o.wp Tryd.prog a w (fun a' w' => ∃ v, a' = a.put o.dst v ∧ Kp w w' ∧ LitMk v0 q s w' v) Q := by
  refine kp_yield (V := LitMk v0 q s) (v := .slice (some ⟨w.heap.size, 0, none⟩) 1 1) (w' := w.alloc (.cells #[.int .i64 q, .string s] 57)) ?_ ((Keeps.refl _ w).alloc _) ⟨w.heap.size, rfl, fun e => by have := h0 _ e; omega, Row.fresh (F := fun b => b = w.heap.size) w _ 57 (0, 0) _ rfl rfl _ rfl⟩
  generalize a.eval = ρ at hx ⊢
  unfold execOp
  rw [ho]
  go_simp
theorem kp_asMk {V : World → Value → Prop} (ho : o.op = .assign x) (hx : V w (a.eval x)) : o.wp Tryd.prog a w (fun a' w' => ∃ v', a' = a.put o.dst v' ∧ Kp w w' ∧ V w' v') Q := by
  refine kp_yield (v := a.eval x) ?_ (Keeps.refl _ _) hx
  unfold execOp; rw [ho]; rfl
end
theorem LitMk.src {w : World} {B : Nat} {q : Int} {s : ByteArray} (hr : Row w (some ⟨B, 0, none⟩) (fun b => b = B) [.int .i64 q, .string s]) : Src Tryd.prog 2 33 (.slice (some ⟨B, 0, none⟩) 1 1) 1 [.int .i64 q, .string s] w :=
  Src.ofSlice _ Tryd.underlying33 ⟨B, 0, none⟩ 1 1 [.int .i64 q, .string s] rfl (fun j v hv => by
    obtain ⟨b, o, e, _, hc⟩ := hr (by simp)
    injection e with e
    injection e with e1 e2
    subst e1 e2
    rw [WideShapes.add_plain]
    exact hc j v hv) (fun v hv => by
    simp only [List.mem_cons, List.not_mem_nil, or_false] at hv
    rcases hv with rfl | rfl <;> rfl)

def VMk (v0 : Value) (g : Nat) (A : Value) (k b o : Nat) (q : Int) (s s' : ByteArray) (n0 : Nat) (xs : List Value) : Nat → World → Value → Prop
  | 0 => IsV v0
  | 1 => IsV (.pointer (some ⟨g, 17, none⟩))
  | 2 => IsV A
  | 3 => IsV (.int .i64 (k : Int))
  | 4 => IsV (.pointer (some ⟨b, o + k * 2, none⟩))
  | 5 => IsV (.pointer (some ⟨b, o + k * 2, none⟩))
  | 6 => IsV (.int .i64 q)
  | 7 => IsV (.pointer (some ⟨g, 17, none⟩))
  | 8 => IsV A
  | 9 => IsV (.int .i64 (k : Int))
  | 10 => IsV (.pointer (some ⟨b, o + k * 2, none⟩))
  | 11 => IsV (.pointer (some ⟨b, o + k * 2 + 1, none⟩))
  | 12 => IsV (.string s)
  | 13 => IsV (.string s')
  | 14 => IsV (.agg #[.int .i64 q, .string s'])
  | 15 => LitMk v0 q s'
  | 16 => fun w v => w.ownsRow n0 57 2 v (k + 1) xs
  | 17 => fun w v => w.ownsRow n0 57 2 v (k + 1) xs
  | _ => fun _ _ => True
theorem VMk_keep {v0 : Value} {g : Nat} {A : Value} {k b o : Nat} {q : Int} {s s' : ByteArray} {n0 : Nat} {xs : List Value} (G : Nat → Prop) (i : Nat) (hl : i = 15 → ∀ B, v0.ownBlock ≠ some B → G B) (ha : i = 16 ∨ i = 17 → ∀ b, G b) (w w' : World) (v : Value) (h : Keeps G w w') (hv : VMk v0 g A k b o q s s' n0 xs i w v) : VMk v0 g A k b o q s s' n0 xs i w' v := by
  unfold VMk at hv ⊢
  split at hv
  case h_16 =>
    obtain ⟨B, e, h1, hr⟩ := hv
    exact ⟨B, e, h1, hr.keep (h.mono fun b _ hb => by rw [show b = B from hb]; exact hl rfl B h1)⟩
  case h_17 => exact h.own hv fun b _ => ha (.inl rfl) b
  case h_18 => exact h.own hv fun b _ => ha (.inr rfl) b
  all_goals exact hv
def StMk (v0 : Value) (w0 : World) (b : Bool) (w : World) : Prop := cond b (Keeps (fun x => v0.ownBlock ≠ some x) w0 w) (Kp w0 w)
theorem StMk.keep {v0 : Value} {w0 w w' : World} {b : Bool} (h : StMk v0 w0 b w) (hk : Kp w w') : StMk v0 w0 b w' := by
  cases b with
  | true => exact Keeps.trans h (hk.mono fun _ _ _ => trivial)
  | false => exact Keeps.trans h hk
theorem StMk.size {v0 : Value} {w0 w : World} {b : Bool} (h : StMk v0 w0 b w) : w0.heap.size ≤ w.heap.size := by
  cases b with
  | true => exact Keeps.size h
  | false => exact Keeps.size h

end Go.Proofs.YtpijhpfcigjkeaaDoor
end

/-
  THE LAWS' OWN 'Cut' OF A MESSAGE (layer 19), walked.
-/
section
namespace Go.Proofs.YtpijhpfcigjkeaaDoor
open Go Go.RowKit Go.Joins

set_option maxRecDepth 100000 in
set_option maxHeartbeats 4000000 in
theorem ms_cut (w : World) (m : Ms) (a : MsA) (hm : MsAt w m a) (hc : m.Came) :
    Calls Tryd.prog 10 #[msV m a] w fun e w' => ∃ a', e = .returned (msV (cutM m) a') ∧ MsAt w' (cutM m) a' ∧ a'.ba = a.ba ∧ a'.oa = a.oa ∧ ItsAt w' a'.ia (fun b => w.heap.size ≤ b) (cutM m).items ∧ MksAt w' a'.ma (fun b => w.heap.size ≤ b) (cutM m).marks ∧ Kp w w' := by
  have HC := Lib.hid hc
  have HMA := Lib.hid hm
  obtain ⟨vM, hvM⟩ : ∃ v, msV m a = v := ⟨_, rfl⟩
  have HVM := Lib.hid hvM
  rw [hvM]
  clear hm hc hvM
  go_enter Tryd.func10, Tryd.ntmps10
  go_upto_region 1 with (first
    | (refine list_boxM rfl (.tmp 0) rfl m a HVM.out.symm ?_; intro w1 hb1 hk1 hs1)
    | (refine list_allocM rfl rfl ?_; intro w2 hb2 hk2 hs2))
  obtain ⟨g, hg⟩ : ∃ g, w.heap.size = g := ⟨_, rfl⟩
  have HGW := Lib.hid (Nat.le_of_eq hg)
  rw [hg] at hb1 hs1 ⊢
  rw [hs1] at hb2 hs2 ⊢
  replace hb1 := hb1.kp hk2
  have hK0 := hk1.trans hk2
  -- the key
  have c9 := hb1.cell 9 (.string m.key) rfl
  have f9 := hb1.fz 9
  have HKK := Lib.hid HC.out.key
  have HNX := Lib.hid (show ∀ w3, w3 = w2.setCell ⟨g, 9, none⟩ (.string (cutTo m.key 50)) → MB w3 g { m with key := cutTo m.key 50 } a ∧ MB w3 (g + 1) ms0 msA0 ∧ Kp w w3 ∧ w3.heap.size = g + 2 from by
    rintro w3 rfl
    have kk : ∀ F : Nat → Prop, ¬ F g → Keeps F w2 (w2.setCell ⟨g, 9, none⟩ (.string (cutTo m.key 50))) := fun F hF => (Keeps.refl F w2).setCell (p := ⟨g, 9, none⟩) (.inr hF) _
    exact ⟨hb1.setKey _, hb2.keep (kk (fun b => b ≠ g) (fun h => h rfl)) (by omega), hK0.setCell (p := ⟨g, 9, none⟩) (.inl (show w.heap.size ≤ g by omega)) _, by simp [World.setCell]; omega⟩)
  clear hb1 hb2 hk1 hk2 hs1 hs2 hK0
  go_upto_region 2 with (go_at_call 20; ((with_reducible refine (cut_50 m.key HKK.out _).mono ?_); rintro e w' ⟨rfl, rfl⟩))
  obtain ⟨hb1, hb2, hK, hs⟩ := HNX.out _ rfl
  generalize World.setCell w2 _ _ = w3 at hb1 hb2 hK hs ⊢
  -- the entry
  have c12 := hb1.cell 12 (.string m.item.key) rfl
  have c13 := hb1.cell 13 (.string m.item.val) rfl
  have c14 := hb1.cell 14 (.int .i64 m.item.till) rfl
  have c15 := hb1.cell 15 (.bool m.item.gone) rfl
  have HIT := Lib.hid HC.out.item.1
  have HB1 := Lib.hid hb1
  have HB2 := Lib.hid hb2
  have HK := Lib.hid hK
  have HS := Lib.hid hs
  have HLC := Lib.hid (law_cut w3 m.item HIT.out.1 HIT.out.2)
  clear hb1 hb2 hK hs HNX c9 f9
  generalize hy : m.item.cut = y at HLC
  have HY := Lib.hid hy
  clear hy
  obtain ⟨yk, yv, yt, yg⟩ := y
  have HLC2 := Lib.hid (show Calls Tryd.prog 21 #[.agg #[.string m.item.key, .string m.item.val, .int .i64 m.item.till, .bool m.item.gone]] w3 fun e w' => e = .returned (.agg #[.string yk, .string yv, .int .i64 yt, .bool yg]) ∧ Kp w3 w' from HLC.out)
  clear HLC
  go_wp2_with fail
  refine (show Calls _ _ _ _ _ from HLC2.out).mono ?_
  rintro e w4 ⟨rfl, hk4⟩
  have hb4 := HB1.out.kp hk4
  have p12 := hb4.cell 12 (.string m.item.key) rfl
  have p13 := hb4.cell 13 (.string m.item.val) rfl
  have p14 := hb4.cell 14 (.int .i64 m.item.till) rfl
  have p15 := hb4.cell 15 (.bool m.item.gone) rfl
  have q12 := hb4.fz 12
  have q13 := hb4.fz 13
  have q14 := hb4.fz 14
  have q15 := hb4.fz 15
  have HNX := Lib.hid (show ∀ w5, w5 = (((w4.setCell ⟨g, 12, none⟩ (.string yk)).setCell ⟨g, 13, none⟩ (.string yv)).setCell ⟨g, 14, none⟩ (.int .i64 yt)).setCell ⟨g, 15, none⟩ (.bool yg) → MB w5 g { m with key := cutTo m.key 50, item := m.item.cut } a ∧ MB w5 (g + 1) ms0 msA0 ∧ Kp w w5 ∧ g + 2 ≤ w5.heap.size from by
    rintro w5 rfl
    have hgw : w.heap.size ≤ g := by have h1 := HK.out.size; have h2 := HS.out; have h3 := HGW.out; omega
    have kk : ∀ F : Nat → Prop, ¬ F g → Keeps F w4 ((((w4.setCell ⟨g, 12, none⟩ (.string yk)).setCell ⟨g, 13, none⟩ (.string yv)).setCell ⟨g, 14, none⟩ (.int .i64 yt)).setCell ⟨g, 15, none⟩ (.bool yg)) := fun F hF => ((((Keeps.refl F w4).setCell (p := ⟨g, 12, none⟩) (.inr hF) _).setCell (p := ⟨g, 13, none⟩) (.inr hF) _).setCell (p := ⟨g, 14, none⟩) (.inr hF) _).setCell (p := ⟨g, 15, none⟩) (.inr hF) _
    refine ⟨by rw [HY.out]; exact hb4.setItem ⟨yk, yv, yt, yg⟩, (HB2.out.kp hk4).keep (kk (fun b => b ≠ g) (fun h => h rfl)) (by omega), kp_behind (HK.out.trans hk4) (kk (fun b => b ≠ g) (fun h => h rfl)) hgw, ?_⟩
    have := hk4.size
    have := HS.out
    have := (kk (fun b => b ≠ g) (fun h => h rfl)).size
    omega)
  clear hk4 hb4 HLC2 HY HB1 HB2 HK HS c12 c13 c14 c15
  go_upto_region 3 with fail
  obtain ⟨hb1, hb2, hK, hs⟩ := HNX.out _ rfl
  generalize World.setCell (World.setCell (World.setCell (World.setCell w4 _ _) _ _) _ _) _ _ = w5 at hb1 hb2 hK hs ⊢
  -- the entries
  have c16 := hb1.cell 16 (.slice a.ia m.items.length a.ic) rfl
  have HB1 := Lib.hid hb1
  have HB2 := Lib.hid hb2
  have HK := Lib.hid hK
  have HS := Lib.hid hs
  have HLI := Lib.hid (law_items w5 a.ia a.ic m.items 6 ((HMA.out.keep hK).its.mono fun b hb _ => hb) HMA.out.il.1 HMA.out.il.2 (fun x hx => (HC.out.its x hx).1) (by decide))
  clear hb1 hb2 hK hs HNX p12 p13 p14 p15 q12 q13 q14 q15
  obtain ⟨L6, hL6⟩ : ∃ L, cutL m.items 6 = L := ⟨_, rfl⟩
  rw [hL6] at HLI
  have HL6 := Lib.hid hL6
  clear hL6
  go_wp2_with fail
  refine (show Calls _ _ _ _ _ from HLI.out).mono ?_
  rintro e w6 ⟨B6, k6, rfl, r1, r2, r3, hk6⟩
  have hb6 := HB1.out.kp hk6
  have p16 := hb6.cell 16 (.slice a.ia m.items.length a.ic) rfl
  have q16 := hb6.fz 16
  have HI6 := Lib.hid (And.intro r1 r2)
  have HNX := Lib.hid (show ∀ w7, w7 = w6.setCell ⟨g, 16, none⟩ (.slice B6 L6.length k6) → MB w7 g { m with key := cutTo m.key 50, item := m.item.cut, items := L6 } { a with ia := B6, ic := k6 } ∧ MB w7 (g + 1) ms0 msA0 ∧ Kp w w7 ∧ g + 2 ≤ w7.heap.size ∧ ItsAt w7 B6 (fun b => g + 2 ≤ b) L6 from by
    rintro w7 rfl
    have hgw := HGW.out
    have kk : ∀ F : Nat → Prop, ¬ F g → Keeps F w6 (w6.setCell ⟨g, 16, none⟩ (.slice B6 L6.length k6)) := fun F hF => (Keeps.refl F w6).setCell (p := ⟨g, 16, none⟩) (.inr hF) _
    have := HS.out
    refine ⟨hb6.setItems L6 B6 k6, (HB2.out.kp hk6).keep (kk (fun b => b ≠ g) (fun h => h rfl)) (by omega), kp_behind (HK.out.trans hk6) (kk (fun b => b ≠ g) (fun h => h rfl)) hgw, ?_, (r3.mono fun b _ hb => by omega).keep (kk (fun b => g + 2 ≤ b) (by omega))⟩
    have := hk6.size
    have := (kk (fun b => b ≠ g) (fun h => h rfl)).size
    omega)
  clear hk6 hb6 HLI r1 r2 r3 HB1 HB2 HK HS c16
  go_upto_region 4 with fail
  obtain ⟨hb1, hb2, hK, hs, hit⟩ := HNX.out _ rfl
  generalize World.setCell w6 _ _ = w7 at hb1 hb2 hK hs hit ⊢
  have HB1 := Lib.hid hb1
  have HB2 := Lib.hid hb2
  have HK := Lib.hid hK
  have HS := Lib.hid hs
  have HIT := Lib.hid hit
  clear hb1 hb2 hK hs hit HNX p16 q16
  obtain ⟨n0, hn0⟩ : ∃ n0, w7.heap.size = n0 := ⟨_, rfl⟩
  rw [hn0] at HS
  have HN0 := Lib.hid hn0
  clear hn0
  obtain ⟨N, hN⟩ : ∃ N, m.marks.length = N := ⟨_, rfl⟩
  have HN := Lib.hid hN
  clear hN
  go_wp2_with fail
  go_loopw [3, 4] (fun v3 v4 wr => ∃ k : Nat, k ≤ N ∧ k ≤ 6 ∧ v4 = .int .i64 (k : Int) ∧ (∃ A c, v3 = .slice A k c) ∧ Hid (wr.ownsRow n0 57 2 v3 k (mkCells (cutMk m.marks k))) ∧ Hid (MB wr g { m with key := cutTo m.key 50, item := m.item.cut, items := L6 } { a with ia := B6, ic := k6 }) ∧ Hid (MB wr (g + 1) ms0 msA0) ∧ Hid (Kp w wr) ∧ Hid (ItsAt wr B6 (fun b => g + 2 ≤ b ∧ b < n0) L6) ∧ Hid (n0 ≤ wr.heap.size)) (fun _ v _ => 6 - (intOf v).toNat)
  case atStart => exact ⟨0, Nat.zero_le _, Nat.zero_le _, rfl, ⟨none, 0, rfl⟩, Lib.hid (World.ownsRow_nil _ _ _ _), HB1, HB2, HK, Lib.hid (HIT.out.mono fun b hb h => ⟨h, by have := HN0.out; omega⟩), Lib.hid (by have := HN0.out; omega)⟩
  case round =>
    clear HB1 HB2 HK HIT
    obtain ⟨k, hk, hk6, rfl, ⟨A0, c0, rfl⟩, HO, HB1, HB2, HK, HIT, HNW⟩ := hrel
    have c17 := HB1.out.cell 17 (.slice a.ma m.marks.length a.mc) rfl
    rw [HN.out] at c17
    have hc2 : (k < N ∧ k < 6) ∨ (k < N ∧ ¬ k < 6) ∨ ¬ k < N := by omega
    rcases hc2 with ⟨t1, t2⟩ | ⟨t1, t2⟩ | t1
    case inl =>
      have t1' : (k : Int) < (N : Int) := by omega
      have t2' : (k : Int) < 6 := by omega
      have hkl : k < m.marks.length := by rw [HN.out]; exact t1
      obtain ⟨b, o, hma, -, d0, d1⟩ := (HMA.out.keep HK.out).mks k hkl
      rw [hma] at c17
      have hsz := (HC.out.mks _ (List.getElem_mem hkl)).1
      have HX := Lib.hid (cutMk_next m.marks k hkl)
      generalize m.marks[k] = x at d0 d1 hsz HX
      obtain ⟨xq, xk⟩ := x
      simp only at d0 d1 hsz
      have hbl : b < wr.heap.size := World.block_lt_of_cell? wr _ d0
      have HOB := Lib.hid (show ∀ b, (Value.slice A0 k c0).ownBlock = some b → n0 ≤ b ∧ b < wr.heap.size from fun b hb => HO.out.lt b hb)
      have HSZ := Lib.hid hsz
      have H63 := Lib.hid (show k + 1 ≤ maxLen from by unfold maxLen; omega)
      have HBY := Lib.hid (show (k + 1) * 24 ≤ 140737488355328 from by omega)
      have hgl := HB1.out.lt
      clear hsz hkl hma
      go_wp2_with fail
      refine wp_region_past (V := VMk (.slice A0 k c0) g (.slice (some ⟨b, o, none⟩) N a.mc) k b o xq xk (cutTo xk 50) n0 (mkCells (cutMk m.marks (k + 1)))) (w0 := wr) 16 (StMk (.slice A0 k c0) wr) (fun a b => Keeps (fun x => (Value.slice A0 k c0).ownBlock ≠ some x) a b) (fun _ => none) (by kernel_rfl) (fun i w w' v h hv => VMk_keep (fun _ => True) i (fun _ _ _ => trivial) (fun _ _ => trivial) w w' v h hv) (fun _ _ _ h hs => hs.keep h) ?_ (by kernel_rfl) (by decide) (fun g c h => by cases h) (fun i o ho hw => (all_wanted (by kernel_rfl) ho hw).elim) ((Keeps.refl _ wr).drew) (each_of ?_) ?_
      · intro i hne hch wa wb v hR hv
        by_cases h17 : i = 17
        · subst h17; exact ms_not_chained (hch []) (by kernel_rfl)
        · exact VMk_keep _ i (fun _ B hB => hB) (fun h => by omega) wa wb v hR hv
      · refine ⟨?_, ?_, ?_, ?_, ?_, ?_, ?_, ?_, ?_, ?_, ?_, ?_, ?_, ?_, ?_, ?_, ?_, ?_, trivial⟩ <;> intro hw a1 w5 L
        · rw [if_neg (by decide)]; intro b hs _ _; exact kp_move rfl (L.old 3 (by kernel_rfl))
        · rw [if_neg (by decide)]; intro b hs _ _; exact kp_fMs14 rfl (L.old 1 (by kernel_rfl))
        · rw [if_neg (by decide)]; intro b hs _ hb; obtain rfl := hb [15, 14, 6, 5, 4] (by kernel_rfl); have hs0 : Kp wr w5 := hs; exact kp_lMks (hs0.cell c17 trivial) rfl (L.val 1 29 (by kernel_rfl) (by kernel_rfl))
        · rw [if_neg (by decide)]; intro b hs _ _; exact kp_move rfl (L.old 4 (by kernel_rfl))
        · rw [if_neg (by decide)]; intro b hs _ _; exact kp_ixMk t1 rfl (L.val 2 30 (by kernel_rfl) (by kernel_rfl)) (L.val 3 31 (by kernel_rfl) (by kernel_rfl))
        · rw [if_neg (by decide)]; intro b hs _ _; exact kp_fMk0 rfl (L.val 4 32 (by kernel_rfl) (by kernel_rfl))
        · rw [if_neg (by decide)]; intro b hs _ hb; obtain rfl := hb [15, 14] (by kernel_rfl); have hs0 : Kp wr w5 := hs; exact kp_lMkN (hs0.cell d0 trivial) rfl (L.val 5 33 (by kernel_rfl) (by kernel_rfl))
        · rw [if_neg (by decide)]; intro b hs _ _; exact kp_fMs14 rfl (L.old 1 (by kernel_rfl))
        · rw [if_neg (by decide)]; intro b hs _ hb; obtain rfl := hb [15, 14, 13, 12, 11, 10] (by kernel_rfl); have hs0 : Kp wr w5 := hs; exact kp_lMks (hs0.cell c17 trivial) rfl (L.val 7 35 (by kernel_rfl) (by kernel_rfl))
        · rw [if_neg (by decide)]; intro b hs _ _; exact kp_move rfl (L.old 4 (by kernel_rfl))
        · rw [if_neg (by decide)]; intro b hs _ _; exact kp_ixMk t1 rfl (L.val 8 36 (by kernel_rfl) (by kernel_rfl)) (L.val 9 37 (by kernel_rfl) (by kernel_rfl))
        · rw [if_neg (by decide)]; intro b hs _ _; exact kp_fMk1 rfl (L.val 10 38 (by kernel_rfl) (by kernel_rfl))
        · rw [if_neg (by decide)]; intro b hs _ hb; obtain rfl := hb [15, 14, 13] (by kernel_rfl); have hs0 : Kp wr w5 := hs; exact kp_lMkT (hs0.cell d1 trivial) rfl (L.val 11 39 (by kernel_rfl) (by kernel_rfl))
        · rw [if_neg (by decide)]; intro b hs _ _; exact kp_cut50 HSZ.out rfl (L.val 12 40 (by kernel_rfl) (by kernel_rfl))
        · rw [if_neg (by decide)]; intro b hs _ _; exact kp_bMk rfl (L.val 6 34 (by kernel_rfl) (by kernel_rfl)) (L.val 13 41 (by kernel_rfl) (by kernel_rfl))
        · rw [if_neg (by decide)]; intro b hs _ _; exact kp_sMk (fun b hb => Nat.lt_of_lt_of_le (HOB.out b hb).2 hs.size) rfl (L.val 14 42 (by kernel_rfl) (by kernel_rfl))
        · rw [if_pos rfl]
          intro hs
          have hs0 : Kp wr w5 := hs
          obtain ⟨B, e15, b1, hr⟩ := (show LitMk (.slice A0 k c0) xq (cutTo xk 50) w5 (a1.eval (.tmp 43)) from (L.val 15 43 (by kernel_rfl) (by kernel_rfl)))
          refine mark_elem.wp_append (.tmp 28) (.tmp 43) 33 rfl (L.val 0 28 (by kernel_rfl) (by kernel_rfl)) (hs0.own HO.out fun _ _ => trivial) e15 (LitMk.src hr) H63.out HBY.out (Nat.le_trans HNW.out hs0.size) ?_
          intro v' w' ho hg hb
          have hgr : Keeps (fun x => (Value.slice A0 k c0).ownBlock ≠ some x) w5 w' := Keeps.of_grown hg fun x hx _ hn => hn hx
          refine ⟨v', rfl, hgr, (hs0.mono fun _ _ _ => trivial).trans hgr, ?_⟩
          show w'.ownsRow n0 57 2 v' (k + 1) (mkCells (cutMk m.marks (k + 1)))
          rw [← HX.out]
          exact ho
        · rw [if_neg (by decide)]; intro b hs _ _; exact kp_asMk rfl (L.val 16 44 (by kernel_rfl) (by kernel_rfl))
      · intro vs w8 hs8 hlen hv
        match vs, hlen with
        | [u0, u1, u2, u3, u4, u5, u6, u7, u8, u9, u10, u11, u12, u13, u14, u15, u16, u17], _ =>
          have ho8 : w8.ownsRow n0 57 2 u17 (k + 1) (mkCells (cutMk m.marks (k + 1))) := hv 17 3 (by kernel_rfl)
          clear hv
          have hkB : Keeps (fun b => b < n0) wr w8 := Keeps.mono hs8 fun b _ hb e => by have := (HOB.out b e).1; omega
          obtain ⟨A9, c9, e9⟩ := mk_form ho8
          subst e9
          have hn2 := HS.out
          have HO8 := Lib.hid ho8
          have HB8 := Lib.hid (HB1.out.keep hkB (by omega))
          have HB28 := Lib.hid (HB2.out.keep hkB (by omega))
          have HK8 := Lib.hid (show Kp w w8 from ⟨hkB.os.trans HK.out.os, hkB.tape.trans HK.out.tape, hkB.output.trans HK.out.output, Nat.le_trans HK.out.size hkB.size, fun b _ hb => (hkB.block b (by have := HGW.out; omega) (Nat.lt_of_lt_of_le hb HK.out.size)).trans (HK.out.block b trivial hb)⟩)
          have HIT8 := Lib.hid (HIT.out.keep (hkB.mono fun b _ hb => hb.2))
          have HNW8 := Lib.hid (Nat.le_trans HNW.out hkB.size)
          clear ho8 hs8 hkB HOB HSZ H63 HBY HX HO HB1 HB2 HK HIT HNW c17 d0 d1 hbl hgl
          simp only [putAll, List.map, Act.put, List.setIfInBounds_toArray, List.set_cons_succ, List.set_cons_zero]
          go_wp2_with fail
          go_roundw
          case rel => exact ⟨k + 1, by omega, by omega, by go_num, ⟨A9, c9, rfl⟩, HO8, HB8, HB28, HK8, HIT8, HNW8⟩
          case measure => simp [intOf]; omega
    all_goals (try have t1' : (k : Int) < (N : Int) := by omega)
    all_goals (try have t2' : ¬ (k : Int) < 6 := by omega)
    all_goals (try have t1' : ¬ (k : Int) < (N : Int) := by omega)
    all_goals (
      have hck : cutMk m.marks k = cutMk m.marks 6 := by
        unfold cutMk
        have hkk : k = 6 ∨ (k = N ∧ N ≤ 6) := by omega
        rcases hkk with rfl | ⟨rfl, h6⟩
        · rfl
        · rw [← HN.out, List.take_of_length_le (Nat.le_refl _), List.take_of_length_le (by rw [HN.out]; exact h6)]
      have hln : (cutMk m.marks 6).length = k := by rw [cutMk_len, HN.out]; omega
      have hmr := mk_room HO.out
      have hmk := MksAt.of_own HO.out (by rw [hck, hln])
      rw [hck] at hmk
      have hgw := HGW.out
      have hn2 := HS.out
      have f17 := HB1.out.fz 17
      have HST := Lib.hid (show ∀ w8, w8 = wr.setCell ⟨g, 17, none⟩ (.slice A0 k c0) → CutSt w g { m with key := cutTo m.key 50, item := m.item.cut, items := L6, marks := cutMk m.marks 6 } { a with ia := B6, ic := k6, ma := A0, mc := c0 } w8 from by
        rintro w8 rfl
        have hmb := HB1.out.setMarks (cutMk m.marks 6) A0 c0
        rw [hln] at hmb
        exact ⟨hmb, HB2.out.keep (cut_kk (fun b => b ≠ g) (fun h => h rfl) _ _ _) (by omega), kp_behind HK.out (cut_kk (fun b => b ≠ g) (fun h => h rfl) _ _ _) hgw, (HIT.out.mono (G := fun b => g + 2 ≤ b) fun b _ hb => by omega).keep (cut_kk _ (fun (h : g + 2 ≤ g) => by omega) _ _ _), (hmk.mono (G := fun b => g + 2 ≤ b) fun b _ hb => by omega).keep (cut_kk _ (fun (h : g + 2 ≤ g) => by omega) _ _ _)⟩)
      have HMR := Lib.hid hmr
      clear hck hln hmr hmk HO HB1 HB2 HK HIT HNW HN0 HS
      go_upto_region 10 with fail
      have HS8 := HST.out _ rfl
      generalize World.setCell wr _ _ = w8 at HS8 ⊢
      have HS8 := Lib.hid HS8
      clear HST c17 f17
      obtain ⟨BN, hBN⟩ : ∃ n, m.mem.length = n := ⟨_, rfl⟩
      obtain ⟨ON, hON⟩ : ∃ n, m.old.length = n := ⟨_, rfl⟩
      have c18 := HS8.out.mb.cell 18 (.slice a.ba m.mem.length a.bc) rfl
      have f18 := HS8.out.mb.fz 18
      have hbl := HMA.out.bl
      have hol := HMA.out.ol
      rw [hBN] at c18 hbl
      rw [hON] at hol
      have HBN := Lib.hid hBN
      have HON := Lib.hid hON
      clear hBN hON
      obtain ⟨b1, b2, b3⟩ := hbl
      obtain ⟨o1, o2, o3⟩ := hol
      have HBR := Lib.hid HMA.out.mem
      have HOR := Lib.hid HMA.out.old
      have h7 : (∃ ad, a.ba = some ad ∧ (7 : Int) < (BN : Int)) ∨ ¬ (7 : Int) < (BN : Int) := by
        by_cases h : 7 < BN
        · left
          rcases hba : a.ba with _ | ad
          · have := b3 hba; omega
          · exact ⟨ad, rfl, by omega⟩
        · right; omega
      have h8 : (∃ ad, a.oa = some ad ∧ (7 : Int) < (ON : Int)) ∨ ¬ (7 : Int) < (ON : Int) := by
        by_cases h : 7 < ON
        · left
          rcases hba : a.oa with _ | ad
          · have := o3 hba; omega
          · exact ⟨ad, rfl, by omega⟩
        · right; omega
      unfold maxLen at b2 o2
      clear b3 o3
      have HP1 := Lib.hid (show ∀ w9 ad, a.ba = some ad → (7 : Int) < (BN : Int) → w9 = w8.setCell ⟨g, 18, none⟩ (.slice (some ad) 7 a.bc) → CutSt w g { m with key := cutTo m.key 50, item := m.item.cut, items := L6, marks := cutMk m.marks 6, mem := m.mem.take 7 } { a with ia := B6, ic := k6, ma := A0, mc := c0 } w9 from by
        rintro w9 ad hba h rfl
        rw [← hba]
        exact HS8.out.mem7 HGW.out (m.mem.take 7) 7 (by rw [List.length_take, HBN.out]; omega))
      have HP2 := Lib.hid (show ¬ (7 : Int) < (BN : Int) → CutSt w g { m with key := cutTo m.key 50, item := m.item.cut, items := L6, marks := cutMk m.marks 6, mem := m.mem.take 7 } { a with ia := B6, ic := k6, ma := A0, mc := c0 } w8 from fun h => by
        rw [List.take_of_length_le (by rw [HBN.out]; omega)]
        exact HS8.out)
      clear HS8
      rcases h7 with ⟨ad, hba, h7⟩ | h7
      rotate_left 1
      · go_upto_region 12 with fail
        have HS9 := Lib.hid (HP2.out h7)
        obtain ⟨w9, hw9⟩ : ∃ w9, w8 = w9 := ⟨_, rfl⟩
        rw [hw9] at HS9 ⊢
        have c20 := HS9.out.mb.cell 20 (.slice a.oa m.old.length a.oc) rfl
        have f20 := HS9.out.mb.fz 20
        rw [HON.out] at c20
        have HQ1 := Lib.hid (show ∀ w10 ad, a.oa = some ad → (7 : Int) < (ON : Int) → w10 = w9.setCell ⟨g, 20, none⟩ (.slice (some ad) 7 a.oc) → CutSt w g { m with key := cutTo m.key 50, item := m.item.cut, items := L6, marks := cutMk m.marks 6, mem := m.mem.take 7, old := m.old.take 7 } { a with ia := B6, ic := k6, ma := A0, mc := c0 } w10 from by
          rintro w10 ad hoa h rfl
          rw [← hoa]
          exact HS9.out.old7 HGW.out (m.old.take 7) 7 (by rw [List.length_take, HON.out]; omega))
        have HQ2 := Lib.hid (show ¬ (7 : Int) < (ON : Int) → CutSt w g { m with key := cutTo m.key 50, item := m.item.cut, items := L6, marks := cutMk m.marks 6, mem := m.mem.take 7, old := m.old.take 7 } { a with ia := B6, ic := k6, ma := A0, mc := c0 } w9 from fun h => by
          have e : m.old.take 7 = m.old := List.take_of_length_le (by rw [HON.out]; omega)
          rw [e]
          exact HS9.out)
        clear HS9 HP1 HP2
        rcases h8 with ⟨ad2, hoa, h8⟩ | h8
        rotate_left 1
        · go_upto_region 14 with fail
          have HS10 := Lib.hid (HQ2.out h8)
          obtain ⟨w10, hw10⟩ : ∃ w10, w9 = w10 := ⟨_, rfl⟩
          rw [hw10] at HS10 ⊢
          have HRB := HS10.out.res
          have HGB := HS10.out.mb
          obtain ⟨vF, hvF⟩ : ∃ v, msV (cutM m) { a with ia := B6, ic := k6, ma := A0, mc := c0 } = v := ⟨_, rfl⟩
          have HVF := Lib.hid hvF
          have HML := Lib.hid (show { m with key := cutTo m.key 50, item := m.item.cut, items := L6, marks := cutMk m.marks 6, mem := m.mem.take 7, old := m.old.take 7 } = cutM m from by rw [← HL6.out]; rfl)
          rw [HML.out] at HGB
          clear hvF
          go_wp2_with (first
            | (refine list_loadM rfl (.tmp 1) rfl g (cutM m) _ HGB rfl vF HVF.out ?_)
            | (refine list_storeM rfl (.tmp 2) (.tmp 63) rfl (g + 1) ms0 (cutM m) msA0 { a with ia := B6, ic := k6, ma := A0, mc := c0 } HRB rfl HVF.out.symm ?_; intro w11 hb11 hk11 hs11))
          have hgw := HGW.out
          have hkE : Kp w w11 := kp_behind HS10.out.kp hk11 (by omega)
          have hk10 := HS10.out.kp
          refine bodyPost_ret (v := msV (cutM m) { a with ia := B6, ic := k6, ma := A0, mc := c0 }) ?_ rfl ⟨_, rfl, ?_, by first | rfl | exact hba, by first | rfl | exact hoa, ?_, ?_, hkE⟩
          · exact results_cell rfl rfl (run_loadM hb11)
          · have hM := HMA.out.keep hkE
            have hi := HS10.out.its
            have hq := HS10.out.mks
            have hlm := HMA.out.bl
            have hlo := HMA.out.ol
            refine ⟨?_, ?_, ?_, ?_, ?_, ?_, ?_, ?_⟩
            · show ItsAt w11 B6 (fun _ => True) (cutL m.items 6)
              rw [HL6.out]
              exact (hi.keep (hk11.mono fun b _ (hb : g + 2 ≤ b) => show b ≠ g + 1 by omega)).mono fun _ _ _ => trivial
            · show (cutL m.items 6).length ≤ k6 ∧ k6 ≤ maxLen
              rw [HL6.out]
              exact HI6.out
            · exact (hq.keep (hk11.mono fun b _ (hb : g + 2 ≤ b) => show b ≠ g + 1 by omega)).mono fun _ _ _ => trivial
            · show (cutMk m.marks 6).length ≤ c0 ∧ c0 ≤ maxLen
              rw [cutMk_len, HN.out]
              exact ⟨by have := HMR.out.1; omega, HMR.out.2.1⟩
            · show Row w11 a.ba (fun _ => True) ((m.mem.take 7).map (Value.int .i64))
              rw [List.map_take]
              exact hM.mem.take
            · exact ⟨by show (m.mem.take 7).length ≤ a.bc; rw [List.length_take]; omega, hlm.2⟩
            · show Row w11 a.oa (fun _ => True) ((m.old.take 7).map (Value.int .i64))
              rw [List.map_take]
              exact hM.old.take
            · exact ⟨by show (m.old.take 7).length ≤ a.oc; rw [List.length_take]; omega, hlo.2⟩
          · show ItsAt w11 B6 (fun b => g ≤ b) (cutL m.items 6)
            rw [HL6.out]
            exact (HS10.out.its.keep (hk11.mono fun b _ (hb : g + 2 ≤ b) => show b ≠ g + 1 by omega)).mono fun b _ (hb : g + 2 ≤ b) => show g ≤ b by omega
          · exact (HS10.out.mks.keep (hk11.mono fun b _ (hb : g + 2 ≤ b) => show b ≠ g + 1 by omega)).mono fun b _ (hb : g + 2 ≤ b) => show g ≤ b by omega
        · rw [hoa] at c20
          go_upto_region 14 with fail
          have HS10 := Lib.hid (HQ1.out _ _ hoa h8 rfl)
          generalize World.setCell w9 _ _ = w10 at HS10 ⊢
          have HRB := HS10.out.res
          have HGB := HS10.out.mb
          obtain ⟨vF, hvF⟩ : ∃ v, msV (cutM m) { a with ia := B6, ic := k6, ma := A0, mc := c0 } = v := ⟨_, rfl⟩
          have HVF := Lib.hid hvF
          have HML := Lib.hid (show { m with key := cutTo m.key 50, item := m.item.cut, items := L6, marks := cutMk m.marks 6, mem := m.mem.take 7, old := m.old.take 7 } = cutM m from by rw [← HL6.out]; rfl)
          rw [HML.out] at HGB
          clear hvF
          go_wp2_with (first
            | (refine list_loadM rfl (.tmp 1) rfl g (cutM m) _ HGB rfl vF HVF.out ?_)
            | (refine list_storeM rfl (.tmp 2) (.tmp 63) rfl (g + 1) ms0 (cutM m) msA0 { a with ia := B6, ic := k6, ma := A0, mc := c0 } HRB rfl HVF.out.symm ?_; intro w11 hb11 hk11 hs11))
          have hgw := HGW.out
          have hkE : Kp w w11 := kp_behind HS10.out.kp hk11 (by omega)
          have hk10 := HS10.out.kp
          refine bodyPost_ret (v := msV (cutM m) { a with ia := B6, ic := k6, ma := A0, mc := c0 }) ?_ rfl ⟨_, rfl, ?_, by first | rfl | exact hba, by first | rfl | exact hoa, ?_, ?_, hkE⟩
          · exact results_cell rfl rfl (run_loadM hb11)
          · have hM := HMA.out.keep hkE
            have hi := HS10.out.its
            have hq := HS10.out.mks
            have hlm := HMA.out.bl
            have hlo := HMA.out.ol
            refine ⟨?_, ?_, ?_, ?_, ?_, ?_, ?_, ?_⟩
            · show ItsAt w11 B6 (fun _ => True) (cutL m.items 6)
              rw [HL6.out]
              exact (hi.keep (hk11.mono fun b _ (hb : g + 2 ≤ b) => show b ≠ g + 1 by omega)).mono fun _ _ _ => trivial
            · show (cutL m.items 6).length ≤ k6 ∧ k6 ≤ maxLen
              rw [HL6.out]
              exact HI6.out
            · exact (hq.keep (hk11.mono fun b _ (hb : g + 2 ≤ b) => show b ≠ g + 1 by omega)).mono fun _ _ _ => trivial
            · show (cutMk m.marks 6).length ≤ c0 ∧ c0 ≤ maxLen
              rw [cutMk_len, HN.out]
              exact ⟨by have := HMR.out.1; omega, HMR.out.2.1⟩
            · show Row w11 a.ba (fun _ => True) ((m.mem.take 7).map (Value.int .i64))
              rw [List.map_take]
              exact hM.mem.take
            · exact ⟨by show (m.mem.take 7).length ≤ a.bc; rw [List.length_take]; omega, hlm.2⟩
            · show Row w11 a.oa (fun _ => True) ((m.old.take 7).map (Value.int .i64))
              rw [List.map_take]
              exact hM.old.take
            · exact ⟨by show (m.old.take 7).length ≤ a.oc; rw [List.length_take]; omega, hlo.2⟩
          · show ItsAt w11 B6 (fun b => g ≤ b) (cutL m.items 6)
            rw [HL6.out]
            exact (HS10.out.its.keep (hk11.mono fun b _ (hb : g + 2 ≤ b) => show b ≠ g + 1 by omega)).mono fun b _ (hb : g + 2 ≤ b) => show g ≤ b by omega
          · exact (HS10.out.mks.keep (hk11.mono fun b _ (hb : g + 2 ≤ b) => show b ≠ g + 1 by omega)).mono fun b _ (hb : g + 2 ≤ b) => show g ≤ b by omega
      · rw [hba] at c18
        go_upto_region 12 with fail
        have HS9 := Lib.hid (HP1.out _ _ hba h7 rfl)
        generalize World.setCell w8 _ _ = w9 at HS9 ⊢
        have c20 := HS9.out.mb.cell 20 (.slice a.oa m.old.length a.oc) rfl
        have f20 := HS9.out.mb.fz 20
        rw [HON.out] at c20
        have HQ1 := Lib.hid (show ∀ w10 ad, a.oa = some ad → (7 : Int) < (ON : Int) → w10 = w9.setCell ⟨g, 20, none⟩ (.slice (some ad) 7 a.oc) → CutSt w g { m with key := cutTo m.key 50, item := m.item.cut, items := L6, marks := cutMk m.marks 6, mem := m.mem.take 7, old := m.old.take 7 } { a with ia := B6, ic := k6, ma := A0, mc := c0 } w10 from by
          rintro w10 ad hoa h rfl
          rw [← hoa]
          exact HS9.out.old7 HGW.out (m.old.take 7) 7 (by rw [List.length_take, HON.out]; omega))
        have HQ2 := Lib.hid (show ¬ (7 : Int) < (ON : Int) → CutSt w g { m with key := cutTo m.key 50, item := m.item.cut, items := L6, marks := cutMk m.marks 6, mem := m.mem.take 7, old := m.old.take 7 } { a with ia := B6, ic := k6, ma := A0, mc := c0 } w9 from fun h => by
          have e : m.old.take 7 = m.old := List.take_of_length_le (by rw [HON.out]; omega)
          rw [e]
          exact HS9.out)
        clear HS9 HP1 HP2
        rcases h8 with ⟨ad2, hoa, h8⟩ | h8
        rotate_left 1
        · go_upto_region 14 with fail
          have HS10 := Lib.hid (HQ2.out h8)
          obtain ⟨w10, hw10⟩ : ∃ w10, w9 = w10 := ⟨_, rfl⟩
          rw [hw10] at HS10 ⊢
          have HRB := HS10.out.res
          have HGB := HS10.out.mb
          obtain ⟨vF, hvF⟩ : ∃ v, msV (cutM m) { a with ia := B6, ic := k6, ma := A0, mc := c0 } = v := ⟨_, rfl⟩
          have HVF := Lib.hid hvF
          have HML := Lib.hid (show { m with key := cutTo m.key 50, item := m.item.cut, items := L6, marks := cutMk m.marks 6, mem := m.mem.take 7, old := m.old.take 7 } = cutM m from by rw [← HL6.out]; rfl)
          rw [HML.out] at HGB
          clear hvF
          go_wp2_with (first
            | (refine list_loadM rfl (.tmp 1) rfl g (cutM m) _ HGB rfl vF HVF.out ?_)
            | (refine list_storeM rfl (.tmp 2) (.tmp 63) rfl (g + 1) ms0 (cutM m) msA0 { a with ia := B6, ic := k6, ma := A0, mc := c0 } HRB rfl HVF.out.symm ?_; intro w11 hb11 hk11 hs11))
          have hgw := HGW.out
          have hkE : Kp w w11 := kp_behind HS10.out.kp hk11 (by omega)
          have hk10 := HS10.out.kp
          refine bodyPost_ret (v := msV (cutM m) { a with ia := B6, ic := k6, ma := A0, mc := c0 }) ?_ rfl ⟨_, rfl, ?_, by first | rfl | exact hba, by first | rfl | exact hoa, ?_, ?_, hkE⟩
          · exact results_cell rfl rfl (run_loadM hb11)
          · have hM := HMA.out.keep hkE
            have hi := HS10.out.its
            have hq := HS10.out.mks
            have hlm := HMA.out.bl
            have hlo := HMA.out.ol
            refine ⟨?_, ?_, ?_, ?_, ?_, ?_, ?_, ?_⟩
            · show ItsAt w11 B6 (fun _ => True) (cutL m.items 6)
              rw [HL6.out]
              exact (hi.keep (hk11.mono fun b _ (hb : g + 2 ≤ b) => show b ≠ g + 1 by omega)).mono fun _ _ _ => trivial
            · show (cutL m.items 6).length ≤ k6 ∧ k6 ≤ maxLen
              rw [HL6.out]
              exact HI6.out
            · exact (hq.keep (hk11.mono fun b _ (hb : g + 2 ≤ b) => show b ≠ g + 1 by omega)).mono fun _ _ _ => trivial
            · show (cutMk m.marks 6).length ≤ c0 ∧ c0 ≤ maxLen
              rw [cutMk_len, HN.out]
              exact ⟨by have := HMR.out.1; omega, HMR.out.2.1⟩
            · show Row w11 a.ba (fun _ => True) ((m.mem.take 7).map (Value.int .i64))
              rw [List.map_take]
              exact hM.mem.take
            · exact ⟨by show (m.mem.take 7).length ≤ a.bc; rw [List.length_take]; omega, hlm.2⟩
            · show Row w11 a.oa (fun _ => True) ((m.old.take 7).map (Value.int .i64))
              rw [List.map_take]
              exact hM.old.take
            · exact ⟨by show (m.old.take 7).length ≤ a.oc; rw [List.length_take]; omega, hlo.2⟩
          · show ItsAt w11 B6 (fun b => g ≤ b) (cutL m.items 6)
            rw [HL6.out]
            exact (HS10.out.its.keep (hk11.mono fun b _ (hb : g + 2 ≤ b) => show b ≠ g + 1 by omega)).mono fun b _ (hb : g + 2 ≤ b) => show g ≤ b by omega
          · exact (HS10.out.mks.keep (hk11.mono fun b _ (hb : g + 2 ≤ b) => show b ≠ g + 1 by omega)).mono fun b _ (hb : g + 2 ≤ b) => show g ≤ b by omega
        · rw [hoa] at c20
          go_upto_region 14 with fail
          have HS10 := Lib.hid (HQ1.out _ _ hoa h8 rfl)
          generalize World.setCell w9 _ _ = w10 at HS10 ⊢
          have HRB := HS10.out.res
          have HGB := HS10.out.mb
          obtain ⟨vF, hvF⟩ : ∃ v, msV (cutM m) { a with ia := B6, ic := k6, ma := A0, mc := c0 } = v := ⟨_, rfl⟩
          have HVF := Lib.hid hvF
          have HML := Lib.hid (show { m with key := cutTo m.key 50, item := m.item.cut, items := L6, marks := cutMk m.marks 6, mem := m.mem.take 7, old := m.old.take 7 } = cutM m from by rw [← HL6.out]; rfl)
          rw [HML.out] at HGB
          clear hvF
          go_wp2_with (first
            | (refine list_loadM rfl (.tmp 1) rfl g (cutM m) _ HGB rfl vF HVF.out ?_)
            | (refine list_storeM rfl (.tmp 2) (.tmp 63) rfl (g + 1) ms0 (cutM m) msA0 { a with ia := B6, ic := k6, ma := A0, mc := c0 } HRB rfl HVF.out.symm ?_; intro w11 hb11 hk11 hs11))
          have hgw := HGW.out
          have hkE : Kp w w11 := kp_behind HS10.out.kp hk11 (by omega)
          have hk10 := HS10.out.kp
          refine bodyPost_ret (v := msV (cutM m) { a with ia := B6, ic := k6, ma := A0, mc := c0 }) ?_ rfl ⟨_, rfl, ?_, by first | rfl | exact hba, by first | rfl | exact hoa, ?_, ?_, hkE⟩
          · exact results_cell rfl rfl (run_loadM hb11)
          · have hM := HMA.out.keep hkE
            have hi := HS10.out.its
            have hq := HS10.out.mks
            have hlm := HMA.out.bl
            have hlo := HMA.out.ol
            refine ⟨?_, ?_, ?_, ?_, ?_, ?_, ?_, ?_⟩
            · show ItsAt w11 B6 (fun _ => True) (cutL m.items 6)
              rw [HL6.out]
              exact (hi.keep (hk11.mono fun b _ (hb : g + 2 ≤ b) => show b ≠ g + 1 by omega)).mono fun _ _ _ => trivial
            · show (cutL m.items 6).length ≤ k6 ∧ k6 ≤ maxLen
              rw [HL6.out]
              exact HI6.out
            · exact (hq.keep (hk11.mono fun b _ (hb : g + 2 ≤ b) => show b ≠ g + 1 by omega)).mono fun _ _ _ => trivial
            · show (cutMk m.marks 6).length ≤ c0 ∧ c0 ≤ maxLen
              rw [cutMk_len, HN.out]
              exact ⟨by have := HMR.out.1; omega, HMR.out.2.1⟩
            · show Row w11 a.ba (fun _ => True) ((m.mem.take 7).map (Value.int .i64))
              rw [List.map_take]
              exact hM.mem.take
            · exact ⟨by show (m.mem.take 7).length ≤ a.bc; rw [List.length_take]; omega, hlm.2⟩
            · show Row w11 a.oa (fun _ => True) ((m.old.take 7).map (Value.int .i64))
              rw [List.map_take]
              exact hM.old.take
            · exact ⟨by show (m.old.take 7).length ≤ a.oc; rw [List.length_take]; omega, hlo.2⟩
          · show ItsAt w11 B6 (fun b => g ≤ b) (cutL m.items 6)
            rw [HL6.out]
            exact (HS10.out.its.keep (hk11.mono fun b _ (hb : g + 2 ≤ b) => show b ≠ g + 1 by omega)).mono fun b _ (hb : g + 2 ≤ b) => show g ≤ b by omega
          · exact (HS10.out.mks.keep (hk11.mono fun b _ (hb : g + 2 ≤ b) => show b ≠ g + 1 by omega)).mono fun b _ (hb : g + 2 ≤ b) => show g ≤ b by omega)

end Go.Proofs.YtpijhpfcigjkeaaDoor
end
