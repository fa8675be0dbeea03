/-
  WHAT LAYER 6's LAW OF ALL OPERATIONS IS HANDED, as it lies in memory; its own row of records.
-/
import Derived.Test.YtgdbkmecfbkobaaDoorSlogShows
import Derived.Test.YtgdbkmecfbkobaaDoorAllLaid
import Derived.Test.YtgdbkmecfbkobaaDoorShort
import Derived.Test.YtgdbkmecfbkobaaDoorAllBase
namespace Go.Proofs.YtgdbkmecfbkobaaDoor.slogAll
open Go Go.RowKit Go.Joins Go.ChangeShapes Go.WideShapes Go.ChangeAt

structure OpE where
  kind : Int
  B : Part
  KA : Option Addr
  kc : Nat
  keep : List Bool
instance : Inhabited OpE := ⟨⟨0, default, none, 0, []⟩⟩
/-- A slice of them. -/
def OpsAt (W : World) (A : Option Addr) (F : Nat → Prop) (l : List OpE) : Prop := ∀ k (h : k < l.length), ∃ b o, A = some ⟨b, o, none⟩ ∧ F b ∧ W.cell? ⟨b, o + k * 3, none⟩ = some (.int .i64 l[k].kind) ∧
  W.cell? ⟨b, o + k * 3 + 1, none⟩ = some l[k].B.val ∧ W.cell? ⟨b, o + k * 3 + 2, none⟩ = some (.slice l[k].KA l[k].keep.length l[k].kc) ∧ l[k].B.Fits W F
theorem OpsAt.keep {W W' : World} {A : Option Addr} {F : Nat → Prop} {l : List OpE} (h : OpsAt W A F l) (hk : Keeps F W W') : OpsAt W' A F l := fun k hl => by
  obtain ⟨b, o, e, hF, c0, c2, c3, f⟩ := h k hl
  exact ⟨b, o, e, hF, hk.cell c0 hF, hk.cell c2 hF, hk.cell c3 hF, f.keep hk⟩

set_option maxRecDepth 100000 in
theorem open_ops6 {H : Type} {enc : TypeId × Value → H} {W : World} {v : Value} {d : DataW H} {ps : List MemPlace} {base : Nat}
    (hok : Value.okWide Tryd.prog W .any base 22 v) (h : DataW.Trod enc Tryd.prog W 0 (fun _ => true) true 22 v d ps) :
    ∃ (A : Option Addr) (cap : Nat) (l : List OpE), v = .slice A l.length cap ∧ l.length ≤ cap ∧ cap ≤ maxLen ∧ (A = none → cap = 0) ∧ OpsAt W A (fun b => b < W.heap.size) l := by
  obtain ⟨a, len, cap, rfl⟩ := okWide_slice Tryd.underlying22 hok
  obtain ⟨fuel, hf⟩ := h
  obtain ⟨A, n, c, hcs, h1, h2, h3, h4⟩ := open_structs Tryd.underlying22 Tryd.underlying34 (by kernel_rfl) (by kernel_rfl) (by decide) hf
  simp [Value.cells] at hcs
  obtain ⟨rfl, rfl, rfl⟩ := hcs
  have each : ∀ i, i < len → ∃ x : OpE, ∃ b o, a = some ⟨b, o, none⟩ ∧ b < W.heap.size ∧ W.cell? ⟨b, o + i * 3, none⟩ = some (.int .i64 x.kind) ∧
      W.cell? ⟨b, o + i * 3 + 1, none⟩ = some x.B.val ∧ W.cell? ⟨b, o + i * 3 + 2, none⟩ = some (.slice x.KA x.keep.length x.kc) ∧ x.B.Fits W (fun b => b < W.heap.size) := fun i hi => by
    obtain ⟨b, o, vs, n, rfl, hb, hvl, hc, hfl⟩ := h4 i hi
    obtain ⟨v0, y0, e0, t0⟩ := hfl 0 _ rfl
    obtain ⟨v2, y2, e2, t2⟩ := hfl 1 _ rfl
    obtain ⟨v3, y3, e3, t3⟩ := hfl 2 _ rfl
    obtain ⟨n0, q0, _, w0⟩ := DataW.trod_int Tryd.underlying3 t0
    obtain ⟨BA, bc, bl, q2, f1, f2, f3, f4⟩ := open_bytes_cs Tryd.underlying31 Tryd.underlying5 (by kernel_rfl) t2
    obtain ⟨KA, kc, kl, q3, g1, g2, g3, g4⟩ := open_bools Tryd.underlying32 Tryd.underlying4 (by kernel_rfl) t3
    have p0 := (List.cons.inj q0).1
    have p2 := (List.cons.inj q2).1
    have p3 := (List.cons.inj q3).1
    subst p0 p2 p3
    exact ⟨⟨n0, ⟨BA, bc, bl⟩, KA, kc, kl⟩, b, o, rfl, hb, hc 0 _ e0, hc 1 _ e2, hc 2 _ e3, ⟨f1, f2, f3, f4⟩⟩
  obtain ⟨l, hl, hget⟩ : ∃ l : List OpE, l.length = len ∧ ∀ i (h : i < l.length), ∃ b o, a = some ⟨b, o, none⟩ ∧ b < W.heap.size ∧ W.cell? ⟨b, o + i * 3, none⟩ = some (.int .i64 l[i].kind) ∧
      W.cell? ⟨b, o + i * 3 + 1, none⟩ = some l[i].B.val ∧ W.cell? ⟨b, o + i * 3 + 2, none⟩ = some (.slice l[i].KA l[i].keep.length l[i].kc) ∧ l[i].B.Fits W (fun b => b < W.heap.size) := by
    refine ⟨(List.range len).map fun i => if h : i < len then (each i h).choose else default, by simp, fun i hi => ?_⟩
    have hi' : i < len := by simpa using hi
    have e : ((List.range len).map fun i => if h : i < len then (each i h).choose else default)[i] = (each i hi').choose := by simp [hi']
    rw [e]
    exact (each i hi').choose_spec
  subst hl
  exact ⟨_, _, l, rfl, h1, h2, h3, hget⟩

/-! ### The law's own records -/
def recCells (r : LRec) : List Value := [.int .i64 (r.pos : Int), .string (txt r.body), .int .i64 (r.opens : Int), .bool false]
def histCells (l : List LRec) : List Value := l.flatMap recCells
theorem histCells_len (l : List LRec) : (histCells l).length = l.length * 4 := by
  induction l with
  | nil => rfl
  | cons r l ih =>
    have e : histCells (r :: l) = recCells r ++ histCells l := by simp [histCells]
    rw [e, List.length_append, ih, List.length_cons]
    show 4 + _ = _
    omega
theorem histCells_at (l : List LRec) (j i : Nat) (hj : j < l.length) (hi : i < 4) : (histCells l)[j * 4 + i]? = (recCells l[j])[i]? := by
  induction l generalizing j with
  | nil => simp at hj
  | cons r l ih =>
    have e : histCells (r :: l) = recCells r ++ histCells l := by simp [histCells]
    rw [e]
    cases j with
    | zero =>
      rw [Nat.zero_mul, Nat.zero_add, List.getElem?_append_left (by show i < 4; exact hi)]
      rfl
    | succ j =>
      rw [List.getElem?_append_right (by show 4 ≤ _; omega), show (j + 1) * 4 + i - (recCells r).length = j * 4 + i by show (j + 1) * 4 + i - 4 = _; omega, ih j (by simpa using hj)]
      rfl
theorem histCells_snoc (l : List LRec) (r : LRec) : histCells (l ++ [r]) = histCells l ++ recCells r := by simp [histCells]
theorem opened_cells (l : List LRec) (n : Nat) (hn : l.length = n + 1) (z : Nat) (hz : (l[n]'(by omega)).opens = z) : (histCells l).set (n * 4 + 2) (.int .i64 ((z + 1 : Nat) : Int)) = histCells (opened l) := by
  induction l generalizing n with
  | nil => simp at hn
  | cons r l ih =>
    have e : histCells (r :: l) = recCells r ++ histCells l := by simp [histCells]
    rw [e]
    cases l with
    | nil =>
      obtain rfl : n = 0 := by simp at hn; omega
      simp only [List.getElem_cons_zero] at hz
      subst hz
      rfl
    | cons x l =>
      obtain ⟨n, rfl⟩ : ∃ m, n = m + 1 := ⟨n - 1, by simp at hn; omega⟩
      rw [List.set_append_right _ _ (by show 4 ≤ _; omega), show (n + 1) * 4 + 2 - (recCells r).length = n * 4 + 2 by show (n + 1) * 4 + 2 - 4 = _; omega, ih n (by simpa using hn) (by simpa using hz)]
      simp [opened, histCells]
theorem rec_elem : Elem Tryd.prog 30 39 (.agg #[.int .i64 0, .string ⟨#[]⟩, .int .i64 0, .bool false]) 4 40 := ⟨Tryd.underlying30, by kernel_rfl, rfl, by decide⟩
theorem hist_of_own {w : World} {base n c : Nat} {A : Option Addr} {l : List LRec} (h : w.ownsRow base 39 4 (.slice A n c) n (histCells l)) (hn : n = l.length) : HistAt w A l := fun hne => by
  have hp : 0 < n := by rw [hn]; exact List.length_pos_iff.2 hne
  obtain ⟨g, cap, e, -, -⟩ := h.form hp
  injection e with e1 e2 e3
  subst e1
  have hc := h.cells (g := g) rfl
  refine ⟨g, 0, rfl, fun j hj => ?_⟩
  have cell : ∀ i v, i < 4 → (recCells l[j])[i]? = some v → w.cell? ⟨g, 0 + j * 4 + i, none⟩ = some v := fun i v hi hv => by
    have := hc (j * 4 + i) v (by rw [histCells_at l j i hj hi]; exact hv)
    rw [WideShapes.add_plain] at this
    rw [Nat.add_assoc]; exact this
  exact ⟨by simpa using cell 0 _ (by decide) rfl, cell 1 _ (by decide) rfl, cell 2 _ (by decide) rfl, cell 3 _ (by decide) rfl⟩

end Go.Proofs.YtgdbkmecfbkobaaDoor.slogAll
