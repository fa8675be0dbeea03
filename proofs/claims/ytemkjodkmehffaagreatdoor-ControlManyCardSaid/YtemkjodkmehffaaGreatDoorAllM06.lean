/-
  PtMath, RgMath, RgIf, MsIf: texts of mine, joined.
-/
import Derived.Test.YtemkjodkmehffaaGreatDoorProg
import Derived.Test.YtemkjodkmehffaaGreatDoorAllM00
import Derived.Test.YtemkjodkmehffaaGreatDoorAllM02
import Derived.Test.YtemkjodkmehffaaGreatDoorAllM04
import Derived.WalkSpells
import Derived.Lib.Hide
import Derived.Lib.SmallJoins
import Derived.Test.YtemkjodkmehffaaGreatDoorAllM05
namespace Go.Proofs.YtemkjodkmehffaaGreatDoor
open Go Go.RowKit Go.Joins
structure P2 where
 place : Int
 node : Int
deriving DecidableEq
instance : Inhabited P2 := ⟨⟨0, 0⟩⟩
def pagg (x : P2) : Value := .agg #[.int .u64 x.place, .int .i64 x.node]
def pcells (x : P2) : Array Value := #[.int .u64 x.place, .int .i64 x.node]
def lessB (a b : P2) : Bool := decide (a.place < b.place) || ((a.place == b.place) && decide (a.node < b.node))
def placeZ (n i : Int) : Int := stZ (IntKind.u64.wrap (wrap64 (wrap64 (n * 1000003) + i)))
def ptsOf (n : Int) : List P2 := [⟨placeZ n 0, n⟩, ⟨placeZ n 1, n⟩, ⟨placeZ n 2, n⟩, ⟨placeZ n 3, n⟩, ⟨placeZ n 4, n⟩, ⟨placeZ n 5, n⟩, ⟨placeZ n 6, n⟩, ⟨placeZ n 7, n⟩]
def ins (x : P2) : List P2 → List P2
 | [] => [x]
 | y :: l => if lessB y x then y :: ins x l else x :: y :: l
def sortP (l : List P2) : List P2 := l.foldr ins []
def pts (l : List Int) : List P2 := sortP (l.flatMap ptsOf)
def prow (l : List P2) : List Value := l.flatMap fun x => (pcells x).toList
theorem prow_len (l : List P2) : (prow l).length = l.length * 2 := by
 induction l with
 | nil => rfl
 | cons g l ih =>
  have e : prow (g :: l) = (pcells g).toList ++ prow l := by simp [prow]
  rw [e, List.length_append, ih, List.length_cons]
  show 2 + _ = _
  omega
theorem prow_at (l : List P2) (j i : Nat) (hj : j < l.length) (hi : i < 2) : (prow l)[j * 2 + i]? = (pcells l[j])[i]? := by
 induction l generalizing j with
 | nil => simp at hj
 | cons g l ih =>
  have e : prow (g :: l) = (pcells g).toList ++ prow l := by simp [prow]
  cases j with
  | zero =>
   rw [e, List.getElem?_append_left (by show _ < 2; omega)]
   simp
  | succ j =>
   have hl : j < l.length := by simpa using hj
   rw [e, List.getElem?_append_right (by show 2 ≤ _; omega)]
   have e2 : (j + 1) * 2 + i - (pcells g).toList.length = j * 2 + i := by show (j + 1) * 2 + i - 2 = _; omega
   rw [e2, ih j hl]
   simp
theorem ins_perm (x : P2) (l : List P2) : (ins x l).Perm (x :: l) := by
 induction l with
 | nil => exact .refl _
 | cons y l ih =>
  unfold ins
  split
  ·exact (ih.cons y).trans (.swap x y l)
  ·exact .refl _
theorem sort_perm (l : List P2) : (sortP l).Perm l := by
 induction l with
 | nil => exact .refl _
 | cons x l ih => exact (ins_perm x (sortP l)).trans (ih.cons x)
def PRow (w : World) (A : Option Addr) (F : Nat → Prop) (l : List P2) : Prop := Row w A F (prow l)
theorem less_irr (a : P2) : lessB a a = false := by simp [lessB]
theorem less_not {a b c : P2} (h1 : lessB b a = false) (h2 : lessB c a = true) : lessB c b = true := by
 simp only [lessB, Bool.or_eq_true, Bool.and_eq_true, decide_eq_true_eq, beq_iff_eq, Bool.or_eq_false_iff, Bool.and_eq_false_iff, decide_eq_false_iff_not, beq_eq_false_iff_ne, ne_eq] at *
 omega
def Asc (l : List P2) : Prop := l.Pairwise fun a b => lessB b a = false
theorem ins_asc {x : P2} {l : List P2} (h : Asc l) : Asc (ins x l) := by
 induction l with
 | nil => exact List.pairwise_singleton _ _
 | cons y l ih =>
  obtain ⟨h1, h2⟩ := List.pairwise_cons.1 h
  unfold ins
  cases hb : lessB y x with
  | true =>
   rw [if_pos rfl]
   refine List.pairwise_cons.2 ⟨fun z hz => ?_, ih h2⟩
   rcases List.mem_cons.1 ((ins_perm x l).mem_iff.1 hz) with rfl | hz
   ·cases hc : lessB z y with
    | false => rfl
    | true =>
     simp only [lessB, Bool.or_eq_true, Bool.and_eq_true, decide_eq_true_eq, beq_iff_eq] at hb hc
     omega
   ·exact h1 z hz
  | false =>
   rw [if_neg (by simp)]
   refine List.pairwise_cons.2 ⟨fun z hz => ?_, h⟩
   rcases List.mem_cons.1 hz with rfl | hz
   ·exact hb
   ·cases hc : lessB z x with
    | false => rfl
    | true => have := less_not hb hc; rw [h1 z hz] at this; cases this
theorem sort_asc (l : List P2) : Asc (sortP l) := by
 induction l with
 | nil => exact List.Pairwise.nil
 | cons x l ih => exact ins_asc ih
theorem nodes_rise {l : List Int} (h : nodesB l = true) (i j : Nat) (hij : i < j) (hj : j < l.length) : l.getD i 0 < l.getD j 0 := by
 have hs := (nodesB_iff.1 h).2
 induction j with
 | zero => omega
 | succ j ih =>
  have h1 := hs (j + 1) hj
  have h2 : l.getD j 0 < l.getD (j + 1) 0 := by
   unfold nodeB at h1
   simp only [Bool.and_eq_true, Bool.or_eq_true, decide_eq_true_eq, Nat.add_sub_cancel] at h1
   rcases h1.2.2 with h1 | h1
   ·omega
   ·exact h1
  rcases Nat.lt_or_ge i j with g | g
  ·exact Int.lt_trans (ih g (by omega)) h2
  ·obtain rfl : i = j := by omega
   exact h2
theorem less_tri {a b : P2} (h : lessB b a = false) (hn : a ≠ b) : lessB a b = true := by
 obtain ⟨ap, an⟩ := a
 obtain ⟨bp, bn⟩ := b
 have hn' : ¬ (ap = bp ∧ an = bn) := fun e => hn (by rw [e.1, e.2])
 simp only [lessB, Bool.or_eq_true, Bool.and_eq_true, decide_eq_true_eq, beq_iff_eq, Bool.or_eq_false_iff, Bool.and_eq_false_iff, decide_eq_false_iff_not, beq_eq_false_iff_ne, ne_eq] at *
 omega
theorem asc_unique {a b : List P2} (ha : Asc a) (hb : Asc b) (h : a.Perm b) : a = b := by
 induction a generalizing b with
 | nil => exact h.nil_eq
 | cons x a ih =>
  cases b with
  | nil => exact absurd h.length_eq (by simp)
  | cons y b =>
   obtain ⟨ha1, ha2⟩ := List.pairwise_cons.1 ha
   obtain ⟨hb1, hb2⟩ := List.pairwise_cons.1 hb
   have e : x = y := by
    apply Classical.byContradiction
    intro hn
    have h1 : lessB x y = false := by
     rcases List.mem_cons.1 (h.mem_iff.1 List.mem_cons_self) with e | hx
     ·exact absurd e hn
     ·exact hb1 x hx
    have h2 : lessB y x = false := by
     rcases List.mem_cons.1 (h.mem_iff.2 List.mem_cons_self) with e | hy
     ·exact absurd e.symm hn
     ·exact ha1 y hy
    rw [less_tri h2 hn] at h1; cases h1
   subst e
   rw [ih ha2 hb2 (h.cons_inv)]
theorem pts_is {l : List Int} {L : List P2} (hL : Asc L) (h : L.Perm (l.flatMap ptsOf)) : L = pts l :=
 asc_unique hL (sort_asc _) (h.trans (sort_perm _).symm)
theorem nodes_five {l : List Int} (h : nodesB l = true) : l.length ≤ 5 := by
 have hk : ∀ k, k < l.length → (k : Int) + 1 ≤ l.getD k 0 := by
  intro k
  induction k with
  | zero =>
   intro hl
   have h1 := (nodesB_iff.1 h).2 0 hl
   unfold nodeB at h1
   simp only [Bool.and_eq_true, decide_eq_true_eq] at h1
   simpa using h1.1
  | succ k ih =>
   intro hl
   have h1 := nodes_rise h k (k + 1) (by omega) hl
   have h2 := ih (by omega)
   omega
 rcases Nat.lt_or_ge 5 l.length with h5 | h5
 ·have h1 := hk 5 h5
  have h2 := (nodesB_iff.1 h).2 5 h5
  unfold nodeB at h2
  simp only [Bool.and_eq_true, decide_eq_true_eq] at h2
  omega
 ·exact h5
def ringB (e : Int) (l : List Int) : Bool := decide (1 ≤ e) && (decide (e ≤ 1099511627776) && nodesB l)
theorem ring_nodes {e : Int} {l : List Int} (h : ringB e l = true) : nodesB l = true := by
 unfold ringB at h
 simp only [Bool.and_eq_true] at h
 exact h.2.2
theorem ringB_of {e : Int} {l : List Int} (h1 : 1 ≤ e) (h2 : e ≤ 1099511627776) (h3 : nodesB l = true) : ringB e l = true := by
 unfold ringB; rw [decide_eq_true h1, decide_eq_true h2, h3]; rfl
structure Mk where
 seq : Int
 key : ByteArray
deriving DecidableEq
instance instMk : Inhabited Mk := ⟨⟨0, ⟨#[]⟩⟩⟩
def MksAt (w : World) (A : Option Addr) (F : Nat → Prop) (l : List Mk) : Prop := ∀ k (h : k < l.length), ∃ b o, A = some ⟨b, o, none⟩ ∧ F b ∧ w.cell? ⟨b, o + k * 2, none⟩ = some (.int .i64 l[k].seq) ∧ w.cell? ⟨b, o + k * 2 + 1, none⟩ = some (.string l[k].key)
section
variable {w w' : World} {A : Option Addr} {F G : Nat → Prop} {l : List Mk}
theorem MksAt.keep (h : MksAt w A F l) (hk : Keeps F w w') : MksAt w' A F l := fun k hl => by
 obtain ⟨b, o, e, hF, c0, c1⟩ := h k hl
 exact ⟨b, o, e, hF, hk.cell c0 hF, hk.cell c1 hF⟩
theorem MksAt.mono (h : MksAt w A F l) (hF : ∀ b, b < w.heap.size → F b → G b) : MksAt w A G l := fun k hl => by
 obtain ⟨b, o, e, hFb, c0, c1⟩ := h k hl
 exact ⟨b, o, e, hF b (World.block_lt_of_cell? w _ c0) hFb, c0, c1⟩
theorem MksAt.nil (w : World) (A : Option Addr) (F : Nat → Prop) : MksAt w A F [] := fun k hl => absurd hl (by simp)
end
structure Ms where
 kind : Int
 frm : Int
 to_ : Int
 epoch : Int
 tick : Int
 seq : Int
 n : Int
 id : Int
 op : Int
 key : ByteArray
 err : Int
 last : Bool
 item : It
 items : List It
 marks : List Mk
 mem : List Int
 base : Int
 old : List Int
deriving DecidableEq
structure MsA where
 ia : Option Addr
 ic : Nat
 ma : Option Addr
 mc : Nat
 ba : Option Addr
 bc : Nat
 oa : Option Addr
 oc : Nat
def msA0 : MsA := ⟨none, 0, none, 0, none, 0, none, 0⟩
def it0 : It := ⟨⟨#[]⟩, ⟨#[]⟩, 0, false⟩
def ms0 : Ms := ⟨0, 0, 0, 0, 0, 0, 0, 0, 0, ⟨#[]⟩, 0, false, it0, [], [], [], 0, []⟩
def msC (m : Ms) (a : MsA) : Array Value := #[.int .i64 m.kind, .int .i64 m.frm, .int .i64 m.to_, .int .i64 m.epoch, .int .i64 m.tick, .int .i64 m.seq, .int .i64 m.n, .int .i64 m.id, .int .i64 m.op, .string m.key, .int .i64 m.err, .bool m.last,
 .string m.item.key, .string m.item.val, .int .i64 m.item.till, .bool m.item.gone, .slice a.ia m.items.length a.ic, .slice a.ma m.marks.length a.mc, .slice a.ba m.mem.length a.bc, .int .i64 m.base, .slice a.oa m.old.length a.oc]
def msV (m : Ms) (a : MsA) : Value := .agg (msC m a)
structure MsAt (w : World) (m : Ms) (a : MsA) : Prop where
 its : ItsAt w a.ia (fun _ => True) m.items
 il : m.items.length ≤ a.ic ∧ a.ic ≤ maxLen
 mks : MksAt w a.ma (fun _ => True) m.marks
 ml : m.marks.length ≤ a.mc ∧ a.mc ≤ maxLen
 mem : Row w a.ba (fun _ => True) (m.mem.map (Value.int .i64))
 bl : m.mem.length ≤ a.bc ∧ a.bc ≤ maxLen ∧ (a.ba = none → a.bc = 0)
 old : Row w a.oa (fun _ => True) (m.old.map (Value.int .i64))
 ol : m.old.length ≤ a.oc ∧ a.oc ≤ maxLen ∧ (a.oa = none → a.oc = 0)
theorem MsAt.keep {w w' : World} {m : Ms} {a : MsA} (h : MsAt w m a) (hk : Kp w w') : MsAt w' m a :=
 ⟨h.its.keep hk, h.il, h.mks.keep hk, h.ml, h.mem.keep hk, h.bl, h.old.keep hk, h.ol⟩
def numB (z : Int) : Bool := decide (0 ≤ z) && decide (z ≤ 1099511627776)
def markB (l : List Mk) (j : Nat) : Bool := decide (1 ≤ (l.getD j default).seq) && (decide ((l.getD j default).seq ≤ 1099511627776) && ((decide (1 ≤ (l.getD j default).key.size) && decide ((l.getD j default).key.size ≤ 40)) && (decide (j = 0) || decide ((l.getD (j - 1) default).seq < (l.getD j default).seq))))
def marksB (l : List Mk) : Bool := (List.range l.length).all (markB l)
def headB (m : Ms) : Bool := decide (1 ≤ m.kind) && (decide (m.kind ≤ 14) && (decide (0 ≤ m.frm) && (decide (m.frm ≤ 5) && (decide (0 ≤ m.to_) && (decide (m.to_ ≤ 5) && ((!(m.frm == m.to_)) && (numB m.epoch && (numB m.tick && (numB m.seq && (numB m.id && (numB m.base &&
 (decide (0 ≤ m.n) && (decide (m.n ≤ 1073741824) && (decide (0 ≤ m.op) && (decide (m.op ≤ 2) && (decide (m.key.size ≤ 40) && (decide (0 ≤ m.err) && decide (m.err ≤ 10))))))))))))))))))
def listB (m : Ms) : Bool := (decide (m.item = it0) || m.item.may) && (decide (m.items.length ≤ 4) && (decide (m.marks.length ≤ 4) && ((decide (m.mem.length = 0) || nodesB m.mem) && (decide (m.old.length = 0) || nodesB m.old))))
def mayM (m : Ms) : Bool := headB m && (listB m && (m.items.all It.may && marksB m.marks))
end Go.Proofs.YtemkjodkmehffaaGreatDoor
