/-
  THE PROGRAM's LOG: collect: its region 'l.kept = append(l.kept, s)'; the segments that were collected so far.
-/
import Derived.Test.YtgdbkmecfbkobaaDoorSlgAppend
import Derived.Test.YtgdbkmecfbkobaaDoorSlgScan
namespace Go.Proofs.YtgdbkmecfbkobaaDoor
open Go Go.RowKit Go.Joins Go.Shelf

/-! ### Segments backwards -/
theorem enc_snoc (d : List SegP) (x : SegP) : encP (d ++ [x]) = encP d ++ x.1.cells x.E := by
  induction d with
  | nil => simp [encP, SegP.enc]
  | cons y d ih => rw [List.cons_append, encP_tail, ih, encP_tail, List.append_assoc]
/-- Collected: their rows, all in blocks that are new, each its own. -/
structure Coll (w0 w : World) (q : Nat) (K : Value) (d : List SegP) : Prop where
  row : w.ownsRow 0 67 3 K d.length (encP d)
  kb : ∀ b, K.ownBlock = some b → w0.heap.size ≤ b
  own : ∀ x ∈ d, w.ownsRow 0 3 1 x.E x.1.recs.length (endsC x.1.recs)
  eb : ∀ x ∈ d, ∀ b, x.E.ownBlock = some b → w0.heap.size ≤ b ∧ K.ownBlock ≠ some b
  two : (d.map SegP.E).Pairwise ApartV
theorem Coll.keep {w0 w w' : World} {q : Nat} {K : Value} {d : List SegP} (h : Coll w0 w q K d) (hk : Keeps (fun b => w0.heap.size ≤ b) w w') : Coll w0 w' q K d :=
  ⟨hk.own h.row h.kb, h.kb, fun x hx => hk.own (h.own x hx) fun b e => (h.eb x hx b e).1, h.eb, h.two⟩
/-- One more, its row appended. -/
theorem Coll.put {w0 w w1 : World} {q : Nat} {K K' : Value} {d : List SegP} {x : SegP} (h : Coll w0 w q K d) (hx : w.ownsRow 0 3 1 x.E x.1.recs.length (endsC x.1.recs)) (hxb : ∀ b, x.E.ownBlock = some b → w0.heap.size ≤ b ∧ K.ownBlock ≠ some b) (hxd : ∀ y ∈ d, ApartV y.E x.E)
    (hr : w1.ownsRow 0 67 3 K' (d.length + 1) (encP (d ++ [x]))) (hk : Keeps (fun b => K.ownBlock ≠ some b) w w1) (hb : K'.ownBlock = K.ownBlock ∨ ∃ b, K'.ownBlock = some b ∧ w.heap.size ≤ b) (hz : w0.heap.size ≤ w.heap.size) : Coll w0 w1 q K' (d ++ [x]) := by
  have hall : ∀ y ∈ d ++ [x], w.ownsRow 0 3 1 y.E y.1.recs.length (endsC y.1.recs) ∧ ∀ b, y.E.ownBlock = some b → w0.heap.size ≤ b ∧ K.ownBlock ≠ some b := fun y hy => by
    rcases List.mem_append.1 hy with hy | hy
    · exact ⟨h.own y hy, h.eb y hy⟩
    · rw [List.mem_singleton.1 hy]; exact ⟨hx, hxb⟩
  refine ⟨by rw [List.length_append, List.length_singleton]; exact hr, fun b e => ?_, fun y hy => hk.own (hall y hy).1 fun b e => ((hall y hy).2 b e).2, fun y hy b e => ⟨((hall y hy).2 b e).1, fun e2 => ?_⟩, ?_⟩
  · rcases hb with h2 | ⟨c, h2, h3⟩
    · exact h.kb b (by rw [← h2]; exact e)
    · rw [h2] at e; injection e with e; omega
  · rcases hb with h2 | ⟨c, h2, h3⟩
    · exact ((hall y hy).2 b e).2 (by rw [← h2]; exact e2)
    · rw [h2] at e2; injection e2 with e2
      have := ((hall y hy).1.lt b e).2
      omega
  · rw [List.map_append, List.map_cons, List.map_nil]
    refine List.pairwise_append.2 ⟨h.two, by simp, fun a ha b hb2 => ?_⟩
    rw [List.mem_singleton.1 hb2]
    obtain ⟨y, hy, rfl⟩ := List.mem_map.1 ha
    exact hxd y hy

/-! ### l.kept = append(l.kept, s) -/
def LitS (O : Option Nat) (q : Nat) (cs : List Value) : World → Value → Prop := fun w v => ∃ B, v = .slice (some ⟨B, 0, none⟩) 1 1 ∧ O ≠ some B ∧ B ≠ q ∧ w.heap[B]? = some (.cells cs.toArray 67 (0, 0))
def AppS (n0 q : Nat) (O : Option Nat) (m : Nat) (cs : List Value) : World → Value → Prop := fun w v => w.ownsRow 0 67 3 v m cs ∧ (v.ownBlock = O ∨ ∃ b, v.ownBlock = some b ∧ n0 ≤ b) ∧ v.ownBlock ≠ some q
def VC (n0 q : Nat) (K sv : Value) (cs : List Value) (m : Nat) (xs : List Value) : Nat → World → Value → Prop
  | 0 => IsV (.pointer (some ⟨q, 0, none⟩))
  | 1 => IsV (.pointer (some ⟨q, 0, none⟩))
  | 2 => IsV (.pointer (some ⟨q, 0, none⟩))
  | 3 => IsV (.pointer (some ⟨q, 3, none⟩))
  | 4 => IsV K
  | 5 => IsV sv
  | 6 => LitS K.ownBlock q cs
  | 7 => AppS n0 q K.ownBlock m xs
  | 8 => IsV (.pointer (some ⟨q, 0, none⟩))
  | 9 => IsV (.pointer (some ⟨q, 3, none⟩))
  | _ => fun _ _ => True
theorem VC_k {n0 q : Nat} {K sv : Value} {cs : List Value} {m : Nat} {xs : List Value} (G : Nat → Prop) (i : Nat) (hl : i = 6 → ∀ B, K.ownBlock ≠ some B → B ≠ q → G B) (ha : i = 7 → ∀ b, b ≠ q → G b) (w w' : World) (v : Value) (h : Keeps G w w') (hv : VC n0 q K sv cs m xs i w v) : VC n0 q K sv cs m xs i w' v := by
  match i, hv with
  | 0, hv => exact hv
  | 1, hv => exact hv
  | 2, hv => exact hv
  | 3, hv => exact hv
  | 4, hv => exact hv
  | 5, hv => exact hv
  | 6, hv =>
    obtain ⟨B, e, h1, h2, hb⟩ := hv
    exact ⟨B, e, h1, h2, (h.block B (hl rfl B h1 h2) (Array.getElem?_eq_some_iff.1 hb).1).trans hb⟩
  | 7, hv => exact ⟨h.own hv.1 fun b hb => ha rfl b fun e => hv.2.2 (by rw [hb, e]), hv.2⟩
  | 8, hv => exact hv
  | 9, hv => exact hv
  | n + 10, _ => trivial
def SC (wN : World) (q : Nat) (O : Option Nat) (m : Nat) (xs : List Value) : Bool → Bool → World → Prop
  | false, false, w => Kp wN w
  | true, false, w => Keeps (fun b => O ≠ some b) wN w
  | true, true, w => ∃ W1 v, Keeps (fun b => O ≠ some b) wN W1 ∧ AppS wN.heap.size q O m xs W1 v ∧ Kp (W1.setCell ⟨q, 3, none⟩ v) w
  | false, true, _ => False
theorem SC.keep {wN w w' : World} {q : Nat} {O : Option Nat} {m : Nat} {xs : List Value} {b c : Bool} (hs : SC wN q O m xs b c w) (h : Kp w w') : SC wN q O m xs b c w' := by
  cases b <;> cases c
  · exact hs.trans h
  · exact hs
  · exact hs.trans (h.mono fun _ _ _ => trivial)
  · obtain ⟨W1, v, h1, h2, h3⟩ := hs
    exact ⟨W1, v, h1, h2, h3.trans h⟩
theorem SC.kp0 {wN w : World} {q : Nat} {O : Option Nat} {m : Nat} {xs : List Value} {c : Bool} (hs : SC wN q O m xs false c w) : Kp wN w := by
  cases c
  · exact hs
  · exact hs.elim
theorem lits_src {w : World} {B : Nat} {cs : List Value} (hb : w.heap[B]? = some (.cells cs.toArray 67 (0, 0))) (hl : cs.length = 3) (h1 : ∀ v ∈ cs, v.oneCell' = true) : Src Tryd.prog 3 58 (.slice (some ⟨B, 0, none⟩) 1 1) 1 cs w :=
  Src.ofSlice _ Tryd.underlying58 ⟨B, 0, none⟩ 1 1 _ (by rw [hl]) (fun j v hv => by
    rw [WideShapes.add_plain, Nat.zero_add]
    exact (cell_of_block hb j).trans (by rw [← hv]; simp)) h1
theorem kp_oneS {w : World} {o : Oper} {a : Act} {Q : Exit → Act → World → Prop} {x : Operand} {v0 v1 v2 : Value} (_h0 : v0.oneCell' = true) (_h1 : v1.oneCell' = true) (_h2 : v2.oneCell' = true) (ho : o.op = .buildSlice 58 1 #[(0, x)]) (hx : a.eval x = .agg #[v0, v1, v2]) : o.wp Tryd.prog a w (fun a' w' => ∃ v, a' = a.put o.dst v ∧ Kp w w' ∧ (v = .slice (some ⟨w.heap.size, 0, none⟩) 1 1 ∧ w' = w.alloc (.cells #[v0, v1, v2] 67))) Q := by
  refine kp_yield (V := fun w' v => v = .slice (some ⟨w.heap.size, 0, none⟩) 1 1 ∧ w' = w.alloc (.cells #[v0, v1, v2] 67)) (v := .slice (some ⟨w.heap.size, 0, none⟩) 1 1) (w' := w.alloc (.cells #[v0, v1, v2] 67)) ?_ ((Keeps.refl _ w).alloc _) ⟨rfl, rfl⟩
  generalize a.eval = ρ at hx
  unfold execOp
  go_simp

end Go.Proofs.YtgdbkmecfbkobaaDoor
