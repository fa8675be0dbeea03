/-
  WHAT THE PROGRAM's PLANS ANSWER (the face of layer 15), however they are made; rows of parts.
-/
import Derived.Test.YtcmblihlbmclaaaPnMath
import Derived.WalkSpells
import Derived.Lib.Hide
namespace Go.Proofs.Ytcmblihlbmclaaa
open Go Go.RowKit Go.Joins

def mvcells (m : Mv) : Array Value := #[.int .u64 m.frm, .int .u64 m.til, .int .i64 m.src, .int .i64 m.dst]
def mvagg (m : Mv) : Value := .agg (mvcells m)
def mvrow (l : List Mv) : List Value := l.flatMap fun x => (mvcells x).toList
theorem mvrow_len (l : List Mv) : (mvrow l).length = l.length * 4 := by
  induction l with
  | nil => rfl
  | cons g l ih =>
    have e : mvrow (g :: l) = (mvcells g).toList ++ mvrow l := by simp [mvrow]
    rw [e, List.length_append, ih, List.length_cons]
    show 4 + _ = _
    omega
theorem mvrow_at (l : List Mv) (j i : Nat) (hj : j < l.length) (hi : i < 4) : (mvrow l)[j * 4 + i]? = (mvcells l[j])[i]? := by
  induction l generalizing j with
  | nil => simp at hj
  | cons g l ih =>
    have e : mvrow (g :: l) = (mvcells g).toList ++ mvrow l := by simp [mvrow]
    cases j with
    | zero =>
      rw [e, List.getElem?_append_left (by show _ < 4; omega)]
      simp
    | succ j =>
      have hl : j < l.length := by simpa using hj
      rw [e, List.getElem?_append_right (by show 4 ≤ _; omega)]
      have e2 : (j + 1) * 4 + i - (mvcells g).toList.length = j * 4 + i := by show (j + 1) * 4 + i - 4 = _; omega
      rw [e2, ih j hl]
      simp
theorem mvrow_snoc (l : List Mv) (x : Mv) : mvrow (l ++ [x]) = mvrow l ++ (mvcells x).toList := by simp [mvrow]
/-- A row of parts in memory. -/
def MVRow (w : World) (A : Option Addr) (F : Nat → Prop) (l : List Mv) : Prop := Row w A F (mvrow l)
/-- The four cells of a part. -/
structure Mv4 (w : World) (b q : Nat) (m : Mv) : Prop where
  c0 : w.cell? ⟨b, q, none⟩ = some (.int .u64 m.frm)
  c1 : w.cell? ⟨b, q + 1, none⟩ = some (.int .u64 m.til)
  c2 : w.cell? ⟨b, q + 2, none⟩ = some (.int .i64 m.src)
  c3 : w.cell? ⟨b, q + 3, none⟩ = some (.int .i64 m.dst)
theorem MVRow.at_ {w : World} {A : Option Addr} {F : Nat → Prop} {l : List Mv} (h : MVRow w A F l) {j : Nat} (hj : j < l.length) : ∃ b o, A = some ⟨b, o, none⟩ ∧ F b ∧ Mv4 w b (o + j * 4) l[j] := by
  have hl := mvrow_len l
  obtain ⟨b, o, e, hF, hc⟩ := h (by intro h0; rw [h0] at hl; simp at hl; omega)
  have c0 := hc (j * 4 + 0) _ (mvrow_at l j 0 hj (by decide))
  have c1 := hc (j * 4 + 1) _ (mvrow_at l j 1 hj (by decide))
  have c2 := hc (j * 4 + 2) _ (mvrow_at l j 2 hj (by decide))
  have c3 := hc (j * 4 + 3) _ (mvrow_at l j 3 hj (by decide))
  exact ⟨b, o, e, hF, c0, by rw [Nat.add_assoc]; exact c1, by rw [Nat.add_assoc]; exact c2, by rw [Nat.add_assoc]; exact c3⟩
theorem MVRow.fixed {w : World} {b o : Nat} {F : Nat → Prop} {l : List Mv} (h : MVRow w (some ⟨b, o, none⟩) F l) {j : Nat} (hj : j < l.length) : Mv4 w b (o + j * 4) l[j] := by
  obtain ⟨b', o', e, -, hm⟩ := h.at_ hj
  injection e with e
  injection e with e1 e2
  rw [e1, e2]; exact hm

/-- A block that holds a part. -/
def MvBlk (w : World) (g : Nat) (m : Mv) : Prop := w.heap[g]? = some (.cells (mvcells m) 32 (0, 0))
section
variable {w w' : World} {g : Nat} {m : Mv} {G : Nat → Prop}
theorem MvBlk.new (w : World) (m : Mv) (g : Nat) (hg : w.heap.size = g) : MvBlk (w.alloc (.cells (mvcells m) 32)) g m := by subst hg; exact heap_alloc_new w _
theorem MvBlk.keep (h : MvBlk w g m) (hk : Keeps G w w') (hq : G g) : MvBlk w' g m := (hk.block g hq (Array.getElem?_eq_some_iff.1 h).1).trans h
theorem MvBlk.c0 (h : MvBlk w g m) : w.cell? ⟨g, 0, none⟩ = some (.int .u64 m.frm) := (cell_of_block h 0).trans rfl
theorem MvBlk.c1 (h : MvBlk w g m) : w.cell? ⟨g, 1, none⟩ = some (.int .u64 m.til) := (cell_of_block h 1).trans rfl
theorem MvBlk.c2 (h : MvBlk w g m) : w.cell? ⟨g, 2, none⟩ = some (.int .i64 m.src) := (cell_of_block h 2).trans rfl
theorem MvBlk.c3 (h : MvBlk w g m) : w.cell? ⟨g, 3, none⟩ = some (.int .i64 m.dst) := (cell_of_block h 3).trans rfl
end

structure PlanOK (S : RingOK) where
  of : ∀ (W w : World) (r1 : Nat) (F1 : Nat → Prop) (e1 : Int) (x : List Int) (r2 : Nat) (F2 : Nat → Prop) (e2 : Int) (y : List Int), S.T W → S.At W w r1 F1 e1 x → S.At W w r2 F2 e2 y →
    Calls Try.prog 11 #[.pointer (some ⟨r1, 0, none⟩), .pointer (some ⟨r2, 0, none⟩)] w fun e w' => ∃ B cb P, e = .returned (.slice B P.length cb) ∧ MVRow w' B (fun _ => True) P ∧ PlanIs (ownerL x) (ownerL y) P ∧ P.length ≤ 1000 ∧ P.length ≤ cb ∧ cb ≤ maxLen ∧ Kp w w'
  ofNil : ∀ w : World, Calls Try.prog 11 #[.pointer none, .pointer none] w fun e w' => (∃ B cb, e = .returned (.slice B 0 cb)) ∧ Kp w w'
  from_ : ∀ (w : World) (A : Option Addr) (c : Nat) (P : List Mv) (n : Int), MVRow w A (fun _ => True) P → P.length ≤ c → c ≤ maxLen → P.length ≤ 1000000 →
    Calls Try.prog 16 #[.slice A P.length c, .int .i64 n] w fun e w' => ∃ B cb, e = .returned (.slice B (P.filter fun m => m.src == n).length cb) ∧ MVRow w' B (fun _ => True) (P.filter fun m => m.src == n) ∧ (P.filter fun m => m.src == n).length ≤ cb ∧ cb ≤ maxLen ∧ Kp w w'
  to_ : ∀ (w : World) (A : Option Addr) (c : Nat) (P : List Mv) (n : Int), MVRow w A (fun _ => True) P → P.length ≤ c → c ≤ maxLen → P.length ≤ 1000000 →
    Calls Try.prog 17 #[.slice A P.length c, .int .i64 n] w fun e w' => ∃ B cb, e = .returned (.slice B (P.filter fun m => m.dst == n).length cb) ∧ MVRow w' B (fun _ => True) (P.filter fun m => m.dst == n) ∧ (P.filter fun m => m.dst == n).length ≤ cb ∧ cb ≤ maxLen ∧ Kp w w'
  covers : ∀ (w : World) (A : Option Addr) (c : Nat) (P : List Mv) (h : Int), MVRow w A (fun _ => True) P → P.length ≤ c → c ≤ maxLen → P.length ≤ 1000000 → Apart15 P → 0 ≤ h → h < 18446744073709551616 →
    Calls Try.prog 14 #[.slice A P.length c, .int .u64 h] w fun e w' => e = .returned (.tuple #[mvagg (covM P h), .bool (covB P h)]) ∧ Kp w w'

end Go.Proofs.Ytcmblihlbmclaaa
