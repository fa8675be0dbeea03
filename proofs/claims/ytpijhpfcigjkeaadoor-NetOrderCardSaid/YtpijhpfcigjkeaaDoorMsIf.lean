/-
  MESSAGES (layer 19): what they say, how they lie in memory; what the program's May, Encode, Decode, Eq answer (the face).
-/
import Derived.Test.YtpijhpfcigjkeaaDoorItemIf
import Derived.Test.YtpijhpfcigjkeaaDoorNodes
import Derived.Test.YtpijhpfcigjkeaaDoorAllInvs
import Derived.WalkSpells
import Derived.Lib.SmallJoins
namespace Go.Proofs.YtpijhpfcigjkeaaDoor
open Go Go.RowKit Go.Joins

/-- A mark: its number, its key. -/
structure Mk where
  seq : Int
  key : ByteArray
deriving DecidableEq
instance instMk : Inhabited Mk := ⟨⟨0, ⟨#[]⟩⟩⟩
def Mk.cells (x : Mk) : List Value := [.int .i64 x.seq, .string x.key]
def mkCells (l : List Mk) : List Value := l.flatMap Mk.cells
theorem mkCells_len (l : List Mk) : (mkCells l).length = l.length * 2 := by
  induction l with
  | nil => rfl
  | cons r l ih =>
    have e : mkCells (r :: l) = r.cells ++ mkCells l := by simp [mkCells]
    rw [e, List.length_append, ih, List.length_cons]
    show 2 + _ = _
    omega
theorem mkCells_at (l : List Mk) (j i : Nat) (hj : j < l.length) (hi : i < 2) : (mkCells l)[j * 2 + i]? = (l[j].cells)[i]? := by
  induction l generalizing j with
  | nil => simp at hj
  | cons r l ih =>
    have e : mkCells (r :: l) = r.cells ++ mkCells l := by simp [mkCells]
    rw [e]
    cases j with
    | zero =>
      rw [Nat.zero_mul, Nat.zero_add, List.getElem?_append_left (by show i < 2; exact hi)]
      rfl
    | succ j =>
      rw [List.getElem?_append_right (by show 2 ≤ _; omega), show (j + 1) * 2 + i - r.cells.length = j * 2 + i by show (j + 1) * 2 + i - 2 = _; omega, ih j (by simpa using hj)]
      rfl
theorem mkCells_snoc (l : List Mk) (r : Mk) : mkCells (l ++ [r]) = mkCells l ++ r.cells := by simp [mkCells]
/-- A slice of marks: each one's two cells. -/
def MksAt (w : World) (A : Option Addr) (F : Nat → Prop) (l : List Mk) : Prop := ∀ k (h : k < l.length), ∃ b o, A = some ⟨b, o, none⟩ ∧ F b ∧ w.cell? ⟨b, o + k * 2, none⟩ = some (.int .i64 l[k].seq) ∧ w.cell? ⟨b, o + k * 2 + 1, none⟩ = some (.string l[k].key)
section
variable {w w' : World} {A : Option Addr} {F G : Nat → Prop} {l : List Mk}
theorem MksAt.keep (h : MksAt w A F l) (hk : Keeps F w w') : MksAt w' A F l := fun k hl => by
  obtain ⟨b, o, e, hF, c0, c1⟩ := h k hl
  exact ⟨b, o, e, hF, hk.cell c0 hF, hk.cell c1 hF⟩
theorem MksAt.mono (h : MksAt w A F l) (hF : ∀ b, b < w.heap.size → F b → G b) : MksAt w A G l := fun k hl => by
  obtain ⟨b, o, e, hFb, c0, c1⟩ := h k hl
  exact ⟨b, o, e, hF b (World.block_lt_of_cell? w _ c0) hFb, c0, c1⟩
theorem MksAt.nil (w : World) (A : Option Addr) (F : Nat → Prop) : MksAt w A F [] := fun k hl => absurd hl (by simp)
theorem MksAt.of_row (h : Row w A F (mkCells l)) : MksAt w A F l := fun k hk => by
  obtain ⟨b, o, e, hF, hc⟩ := h (fun e => by have := mkCells_len l; rw [e] at this; simp at this; omega)
  have cell : ∀ i v, i < 2 → (l[k].cells)[i]? = some v → w.cell? ⟨b, o + k * 2 + i, none⟩ = some v := fun i v hi hv => by
    rw [Nat.add_assoc]
    exact hc _ v (by rw [mkCells_at l k i hk hi]; exact hv)
  exact ⟨b, o, e, hF, by simpa using cell 0 _ (by decide) rfl, cell 1 _ (by decide) rfl⟩
theorem MksAt.of_own {base n c : Nat} {e : TypeId} (h : w.ownsRow base e 2 (.slice A n c) n (mkCells l)) (hn : n = l.length) : MksAt w A (fun b => base ≤ b ∧ b < w.heap.size) l := by
  rcases Nat.eq_zero_or_pos n with h0 | hp
  · intro k hk; omega
  obtain ⟨g, cap, e, hb, -⟩ := h.form hp
  injection e with e1 e2 e3
  subst e1
  have hc := h.cells (g := g) rfl
  refine MksAt.of_row fun _ => ⟨g, 0, rfl, h.lt g rfl, fun i v hv => ?_⟩
  have := hc i v hv
  rw [WideShapes.add_plain] at this
  exact this
end
theorem mark_elem : Elem Tryd.prog 33 57 (.agg #[.int .i64 0, .string ⟨#[]⟩]) 2 24 := ⟨Tryd.underlying33, by kernel_rfl, rfl, by decide⟩

/-- What a message says. -/
structure Ms where
  kind : Int
  frm : Int
  to_ : Int
  epoch : Int
  tick : Int
  seq : Int
  n : Int
  id : Int
  op : Int
  key : ByteArray
  err : Int
  last : Bool
  item : It
  items : List It
  marks : List Mk
  mem : List Int
  base : Int
  old : List Int
deriving DecidableEq
/-- Where its lists lie. -/
structure MsA where
  ia : Option Addr
  ic : Nat
  ma : Option Addr
  mc : Nat
  ba : Option Addr
  bc : Nat
  oa : Option Addr
  oc : Nat
def msA0 : MsA := ⟨none, 0, none, 0, none, 0, none, 0⟩
def it0 : It := ⟨⟨#[]⟩, ⟨#[]⟩, 0, false⟩
def ms0 : Ms := ⟨0, 0, 0, 0, 0, 0, 0, 0, 0, ⟨#[]⟩, 0, false, it0, [], [], [], 0, []⟩
def msC (m : Ms) (a : MsA) : Array Value := #[.int .i64 m.kind, .int .i64 m.frm, .int .i64 m.to_, .int .i64 m.epoch, .int .i64 m.tick, .int .i64 m.seq, .int .i64 m.n, .int .i64 m.id, .int .i64 m.op, .string m.key, .int .i64 m.err, .bool m.last,
  .string m.item.key, .string m.item.val, .int .i64 m.item.till, .bool m.item.gone, .slice a.ia m.items.length a.ic, .slice a.ma m.marks.length a.mc, .slice a.ba m.mem.length a.bc, .int .i64 m.base, .slice a.oa m.old.length a.oc]
def msV (m : Ms) (a : MsA) : Value := .agg (msC m a)
/-- Its lists, as they are read. -/
structure MsAt (w : World) (m : Ms) (a : MsA) : Prop where
  its : ItsAt w a.ia (fun _ => True) m.items
  il : m.items.length ≤ a.ic ∧ a.ic ≤ maxLen
  mks : MksAt w a.ma (fun _ => True) m.marks
  ml : m.marks.length ≤ a.mc ∧ a.mc ≤ maxLen
  mem : Row w a.ba (fun _ => True) (m.mem.map (Value.int .i64))
  bl : m.mem.length ≤ a.bc ∧ a.bc ≤ maxLen ∧ (a.ba = none → a.bc = 0)
  old : Row w a.oa (fun _ => True) (m.old.map (Value.int .i64))
  ol : m.old.length ≤ a.oc ∧ a.oc ≤ maxLen ∧ (a.oa = none → a.oc = 0)
theorem MsAt.keep {w w' : World} {m : Ms} {a : MsA} (h : MsAt w m a) (hk : Kp w w') : MsAt w' m a :=
  ⟨h.its.keep hk, h.il, h.mks.keep hk, h.ml, h.mem.keep hk, h.bl, h.old.keep hk, h.ol⟩
theorem MsAt.zero (w : World) : MsAt w ms0 msA0 :=
  ⟨ItsAt.nil _ _ _, ⟨Nat.le_refl _, Nat.zero_le _⟩, MksAt.nil _ _ _, ⟨Nat.le_refl _, Nat.zero_le _⟩, Row.nil _ _ _, ⟨Nat.le_refl _, Nat.zero_le _, fun _ => rfl⟩, Row.nil _ _ _, ⟨Nat.le_refl _, Nat.zero_le _, fun _ => rfl⟩⟩
def i64z (z : Int) : Prop := -9223372036854775808 ≤ z ∧ z < 9223372036854775808
/-- What fits a machine, and is not too great for a law. -/
structure Ms.Fits (m : Ms) : Prop where
  k1 : i64z m.kind
  k2 : i64z m.frm
  k3 : i64z m.to_
  k4 : i64z m.epoch
  k5 : i64z m.tick
  k6 : i64z m.seq
  k7 : i64z m.n
  k8 : i64z m.id
  k9 : i64z m.op
  k10 : i64z m.err
  k11 : i64z m.base
  key : m.key.size ≤ 1000
  item : m.item.fits
  il : m.items.length ≤ 100
  its : ∀ x ∈ m.items, x.fits
  ml : m.marks.length ≤ 100
  mks : ∀ x ∈ m.marks, x.key.size ≤ 1000 ∧ i64z x.seq
  bl : m.mem.length ≤ 100
  mem : ∀ z ∈ m.mem, i64z z
  ol : m.old.length ≤ 100
  old : ∀ z ∈ m.old, i64z z
/-- Is a number from 0 to 2^40? -/
def numB (z : Int) : Bool := decide (0 ≤ z) && decide (z ≤ 1099511627776)
/-- The marks: their numbers 1 to 2^40, rising, their keys 1 to 40 bytes. -/
def markB (l : List Mk) (j : Nat) : Bool := decide (1 ≤ (l.getD j default).seq) && (decide ((l.getD j default).seq ≤ 1099511627776) && ((decide (1 ≤ (l.getD j default).key.size) && decide ((l.getD j default).key.size ≤ 40)) && (decide (j = 0) || decide ((l.getD (j - 1) default).seq < (l.getD j default).seq))))
def marksB (l : List Mk) : Bool := (List.range l.length).all (markB l)
def headB (m : Ms) : Bool := decide (1 ≤ m.kind) && (decide (m.kind ≤ 14) && (decide (0 ≤ m.frm) && (decide (m.frm ≤ 5) && (decide (0 ≤ m.to_) && (decide (m.to_ ≤ 5) && ((!(m.frm == m.to_)) && (numB m.epoch && (numB m.tick && (numB m.seq && (numB m.id && (numB m.base &&
  (decide (0 ≤ m.n) && (decide (m.n ≤ 1073741824) && (decide (0 ≤ m.op) && (decide (m.op ≤ 2) && (decide (m.key.size ≤ 40) && (decide (0 ≤ m.err) && decide (m.err ≤ 10))))))))))))))))))
def listB (m : Ms) : Bool := (decide (m.item = it0) || m.item.may) && (decide (m.items.length ≤ 4) && (decide (m.marks.length ≤ 4) && ((decide (m.mem.length = 0) || nodesB m.mem) && (decide (m.old.length = 0) || nodesB m.old))))
/-- May it be? -/
def mayM (m : Ms) : Bool := headB m && (listB m && (m.items.all It.may && marksB m.marks))

structure MsgOK where
  T : World → Prop
  tk : ∀ {w w' : World}, T w → Kp w w' → T w'
  enc : Ms → List UInt8
  dec : List UInt8 → Option Ms
  encLen : ∀ m, mayM m = true → 0 < (enc m).length ∧ (enc m).length ≤ 100000
  decEnc : ∀ m, mayM m = true → dec (enc m) = some m
  decMay : ∀ l m, dec l = some m → mayM m = true ∧ enc m = l
  decTurn : ∀ (m : Ms) (i : Nat) (b : UInt8), mayM m = true → i < (enc m).length → b ≠ 0 → dec ((enc m).set i ((enc m).getD i 0 ^^^ b)) = none
  decMore : ∀ (m : Ms) (b : UInt8), mayM m = true → dec (enc m ++ [b]) = none
  decCut : ∀ (m : Ms) (k : Nat), mayM m = true → k < (enc m).length → dec ((enc m).take k) = none
  may : ∀ (w : World) (m : Ms) (a : MsA), T w → MsAt w m a → m.Fits →
    Calls Tryd.prog 35 #[msV m a] w fun e w' => e = .returned (.bool (mayM m)) ∧ Kp w w'
  encode : ∀ (w : World) (m : Ms) (a : MsA), T w → MsAt w m a → m.Fits →
    Calls Tryd.prog 28 #[msV m a] w fun e w' => (mayM m = true → ∃ A c, e = .returned (.slice A (enc m).length c) ∧ (enc m).length ≤ c ∧ c ≤ maxLen ∧ Row w' A (fun b => w.heap.size ≤ b ∧ b < w'.heap.size) (bcells (enc m))) ∧ (mayM m = false → ∃ A c, e = .returned (.slice A 0 c)) ∧ Kp w w'
  decode : ∀ (w : World) (A : Option Addr) (c : Nat) (l : List UInt8), T w → Row w A (fun _ => True) (bcells l) → l.length ≤ c → c ≤ maxLen → l.length ≤ 1000000 →
    Calls Tryd.prog 30 #[.slice A l.length c] w fun e w' => (∀ m, dec l = some m → ∃ a, e = .returned (.tuple #[msV m a, .int .i64 0]) ∧ MsAt w' m a) ∧ (dec l = none → ∃ m a, e = .returned (.tuple #[msV m a, .int .i64 1]) ∧ m.kind = 0 ∧ MsAt w' m a) ∧ Kp w w'

end Go.Proofs.YtpijhpfcigjkeaaDoor
