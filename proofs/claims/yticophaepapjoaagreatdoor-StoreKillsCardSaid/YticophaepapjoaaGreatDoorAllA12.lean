/-
  ItemIf, MtIf, MtLocs, IndexIf, IxMath, ItemRef, SlgChunk, SlgConcat, InvOneIn: texts of mine, joined.
-/
import Derived.Test.YticophaepapjoaaGreatDoorAllA04
import Derived.Test.YticophaepapjoaaGreatDoorAllA00
import Derived.Lib.Hide
import Derived.Test.YticophaepapjoaaGreatDoorProg
import Derived.Test.YticophaepapjoaaGreatDoorAllA06
import Derived.WalkSpells
import Derived.Lib.SmallJoins
import Derived.Test.YticophaepapjoaaGreatDoorAllA03
import Derived.RangeFuncBox
import Derived.RangeFuncLeaves
import Derived.RangeFuncNested
import Derived.RangeFuncBound
import Derived.RangeFuncCalls
import Derived.Shelf.Abstract
import Derived.Shelf.RegionOpen
import Derived.OwnWalkIn
import Derived.TacticsInMore
import Derived.LoopNIn
import Derived.LoopIn
import Derived.Lib.MinMax
import Derived.Test.YticophaepapjoaaGreatDoorAllA08
import Derived.Test.YticophaepapjoaaGreatDoorAllA05
import Derived.Test.YticophaepapjoaaGreatDoorAllA09
import Derived.Test.YticophaepapjoaaGreatDoorAllA11
import Derived.OrdersIn
import Derived.TacticsIn
namespace Go.Proofs.YticophaepapjoaaGreatDoor
open Go Go.RowKit
def It.cells (x : It) : List Value := [.string x.key, .string x.val, .int .i64 x.till, .bool x.gone]
def itCells (l : List It) : List Value := l.flatMap It.cells
def It.fits (x : It) : Prop := x.key.size ≤ 1000000 ∧ x.val.size ≤ 1000000 ∧ -9223372036854775808 ≤ x.till ∧ x.till < 9223372036854775808
theorem It.may_fits {x : It} (h : x.may = true) : x.fits := by
 have := It.may_is h
 exact ⟨by omega, by omega, by omega, by omega⟩
theorem itCells_len (l : List It) : (itCells l).length = l.length * 4 := by
 induction l with
 | nil => rfl
 | cons r l ih =>
  have e : itCells (r :: l) = r.cells ++ itCells l := by simp [itCells]
  rw [e, List.length_append, ih, List.length_cons]
  show 4 + _ = _
  omega
theorem itCells_at (l : List It) (j i : Nat) (hj : j < l.length) (hi : i < 4) : (itCells l)[j * 4 + i]? = (l[j].cells)[i]? := by
 induction l generalizing j with
 | nil => simp at hj
 | cons r l ih =>
  have e : itCells (r :: l) = r.cells ++ itCells l := by simp [itCells]
  rw [e]
  cases j with
  | zero =>
   rw [Nat.zero_mul, Nat.zero_add, List.getElem?_append_left (by show i < 4; exact hi)]
   rfl
  | succ j =>
   rw [List.getElem?_append_right (by show 4 ≤ _; omega), show (j + 1) * 4 + i - r.cells.length = j * 4 + i by show (j + 1) * 4 + i - 4 = _; omega, ih j (by simpa using hj)]
   rfl
theorem itCells_snoc (l : List It) (r : It) : itCells (l ++ [r]) = itCells l ++ r.cells := by simp [itCells]
def ItsAt (w : World) (A : Option Addr) (F : Nat → Prop) (l : List It) : Prop := ∀ k (h : k < l.length), ∃ b o, A = some ⟨b, o, none⟩ ∧ F b ∧ w.cell? ⟨b, o + k * 4, none⟩ = some (.string l[k].key) ∧
 w.cell? ⟨b, o + k * 4 + 1, none⟩ = some (.string l[k].val) ∧ w.cell? ⟨b, o + k * 4 + 2, none⟩ = some (.int .i64 l[k].till) ∧ w.cell? ⟨b, o + k * 4 + 3, none⟩ = some (.bool l[k].gone)
section
variable {w w' : World} {A : Option Addr} {F G : Nat → Prop} {l : List It}
theorem ItsAt.of_row (h : Row w A F (itCells l)) : ItsAt w A F l := fun k hk => by
 obtain ⟨b, o, e, hF, hc⟩ := h (fun e => by have := itCells_len l; rw [e] at this; simp at this; omega)
 have cell : ∀ i v, i < 4 → (l[k].cells)[i]? = some v → w.cell? ⟨b, o + k * 4 + i, none⟩ = some v := fun i v hi hv => by
  rw [Nat.add_assoc]
  exact hc _ v (by rw [itCells_at l k i hk hi]; exact hv)
 exact ⟨b, o, e, hF, by simpa using cell 0 _ (by decide) rfl, cell 1 _ (by decide) rfl, cell 2 _ (by decide) rfl, cell 3 _ (by decide) rfl⟩
theorem ItsAt.of_own {base n c : Nat} {e : TypeId} (h : w.ownsRow base e 4 (.slice A n c) n (itCells l)) (hn : n = l.length) : ItsAt w A (fun b => base ≤ b ∧ b < w.heap.size) l := by
 rcases Nat.eq_zero_or_pos n with h0 | hp
 ·intro k hk; omega
 obtain ⟨g, cap, e, hb, -⟩ := h.form hp
 injection e with e1 e2 e3
 subst e1
 have hc := h.cells (g := g) rfl
 refine ItsAt.of_row fun _ => ⟨g, 0, rfl, h.lt g rfl, fun i v hv => ?_⟩
 have := hc i v hv
 rw [WideShapes.add_plain] at this
 exact this
theorem ItsAt.fresh (w : World) (C : Array Value) (t : TypeId) (fr : Nat × Nat) (b : Nat) (hb : b = w.heap.size) (hF : F b) (l : List It) (hx : C.toList = itCells l) : ItsAt (w.alloc (.cells C t fr)) (some ⟨b, 0, none⟩) F l :=
 ItsAt.of_row (Row.fresh w C t fr b hb hF _ hx)
end
theorem item_elem : Elem Tryz.prog 133 40 (.agg #[.string ⟨#[]⟩, .string ⟨#[]⟩, .int .i64 0, .bool false]) 4 48 := ⟨Tryz.underlying133, by kernel_rfl, rfl, by decide⟩
structure ItemOK where
 T : World → Prop
 tk : ∀ {w w' : World}, T w → Keeps (fun _ => True) w w' → T w'
 may : ∀ (w : World) (x : It), T w → x.fits →
  Calls Tryz.prog 42 #[.agg #[.string x.key, .string x.val, .int .i64 x.till, .bool x.gone]] w fun e w' => e = .returned (.bool x.may) ∧ Keeps (fun _ => True) w w'
 live : ∀ (w : World) (x : It) (now : Int), T w → x.fits → -9223372036854775808 ≤ now → now < 9223372036854775808 →
  Calls Tryz.prog 58 #[.agg #[.string x.key, .string x.val, .int .i64 x.till, .bool x.gone], .int .i64 now] w fun e w' => e = .returned (.bool (x.live now)) ∧ Keeps (fun _ => True) w w'
 encode : ∀ (w : World) (A : Option Addr) (c : Nat) (l : List It), T w → ItsAt w A (fun _ => True) l → l.length ≤ c → c ≤ maxLen → l.length ≤ 1000 → (∀ x ∈ l, x.fits) →
  Calls Tryz.prog 45 #[.slice A l.length c] w fun e w' => ∃ B k, e = .returned (.slice B (encs l).length k) ∧ (encs l).length ≤ k ∧ k ≤ maxLen ∧ Row w' B (fun b => w.heap.size ≤ b ∧ b < w'.heap.size) (bcells (encs l)) ∧ Keeps (fun _ => True) w w'
 decode : ∀ (w : World) (A : Option Addr) (c : Nat) (b : List UInt8), T w → Row w A (fun _ => True) (bcells b) → b.length ≤ c → c ≤ maxLen → b.length ≤ 1000000 →
  Calls Tryz.prog 120 #[.slice A b.length c] w fun e w' => Keeps (fun _ => True) w w' ∧
   ((∃ B k l, e = .returned (.tuple #[.slice B l.length k, .int .i64 0]) ∧ l ≠ [] ∧ l.all It.may = true ∧ bytesOf l = b ∧ l.length ≤ k ∧ k ≤ maxLen ∧ ItsAt w' B (fun b => w.heap.size ≤ b ∧ b < w'.heap.size) l) ∨
    ((∀ l : List It, l ≠ [] → l.all It.may = true → bytesOf l ≠ b) ∧ ∃ B k, e = .returned (.tuple #[.slice B 0 k, .int .i64 1])))
end Go.Proofs.YticophaepapjoaaGreatDoor
namespace Go.Proofs.YticophaepapjoaaGreatDoor
open Go Go.RowKit Go.Joins
structure M4 where
 boot : Int
 epoch : Int
 ready : Int
 frozen : Bool
def magg (m : M4) : Value := .agg #[.int .i64 m.boot, .int .i64 m.epoch, .int .i64 m.ready, .bool m.frozen]
def mcells (m : M4) : Array Value := #[.int .i64 m.boot, .int .i64 m.epoch, .int .i64 m.ready, .bool m.frozen]
def m0 : M4 := ⟨0, 0, 0, false⟩
def small12 (m : M4) : Bool := decide (0 ≤ m.boot) && (decide (m.boot ≤ 1099511627776) && (decide (0 ≤ m.epoch) && (decide (m.epoch ≤ 1099511627776) && (decide (0 ≤ m.ready) && decide (m.ready ≤ 1099511627776)))))
def mayB (m : M4) : Bool := small12 m && (((m.ready == 0) && !m.frozen) || decide (m.epoch < m.ready))
def overB (n m : M4) : Bool := decide (n.boot ≤ m.boot) && decide (n.epoch ≤ m.epoch)
structure M4.Fits (m : M4) : Prop where
 b1 : -9223372036854775808 ≤ m.boot
 b2 : m.boot < 9223372036854775808
 e1 : -9223372036854775808 ≤ m.epoch
 e2 : m.epoch < 9223372036854775808
 r1 : -9223372036854775808 ≤ m.ready
 r2 : m.ready < 9223372036854775808
def Four (w : World) (g : Nat) (m : M4) : Prop := w.cell? ⟨g, 0, none⟩ = some (.int .i64 m.boot) ∧ w.cell? ⟨g, 1, none⟩ = some (.int .i64 m.epoch) ∧ w.cell? ⟨g, 2, none⟩ = some (.int .i64 m.ready) ∧ w.cell? ⟨g, 3, none⟩ = some (.bool m.frozen)
def MBlk (w : World) (g : Nat) (m : M4) : Prop := w.heap[g]? = some (.cells (mcells m) 32 (0, 0))
section
variable {w w' : World} {g : Nat} {m : M4} {F : Nat → Prop}
theorem MBlk.lt (h : MBlk w g m) : g < w.heap.size := (Array.getElem?_eq_some_iff.1 h).1
theorem MBlk.keep (h : MBlk w g m) (hk : Keeps F w w') (hq : F g) : MBlk w' g m := (hk.block g hq h.lt).trans h
theorem MBlk.fz (h : MBlk w g m) (i : Nat) : w.frozen? ⟨g, i, none⟩ = false := unfrozen_of_block h i
theorem MBlk.four (h : MBlk w g m) : Four w g m := ⟨cell_of_block h 0, cell_of_block h 1, cell_of_block h 2, cell_of_block h 3⟩
theorem MBlk.new (w : World) (m : M4) (g : Nat) (hg : g = w.heap.size) : MBlk (w.alloc (.cells (mcells m) 32)) g m := by subst hg; exact heap_alloc_new w _
theorem MBlk.set4 (h : MBlk w g m) (x : M4) : MBlk ((((w.setCell ⟨g, 0, none⟩ (.int .i64 x.boot)).setCell ⟨g, 1, none⟩ (.int .i64 x.epoch)).setCell ⟨g, 2, none⟩ (.int .i64 x.ready)).setCell ⟨g, 3, none⟩ (.bool x.frozen)) g x :=
 (block_setCell (block_setCell (block_setCell (block_setCell h _) _) _) _).trans rfl
end
section
variable {o : Oper} {a : Act} {w : World} {Q : Exit → Act → World → Prop} {x y z : Operand}
theorem kp_ldM {g : Nat} {m : M4} (h : Four w g m) (ho : o.op = .load 32 x) (hx : a.eval x = .pointer (some ⟨g, 0, none⟩)) : o.wp Tryz.prog a w (fun a' w' => ∃ v, a' = a.put o.dst v ∧ Kp w w' ∧ IsV (magg m) w' v) Q := by
 obtain ⟨c0, c1, c2, c3⟩ := h
 refine kp_yield (v := magg m) (w' := w) ?_ (Keeps.refl _ _) rfl
 generalize a.eval = ρ at hx ⊢
 unfold execOp magg
 rw [ho]
 go_simp
theorem kp_call12 {F : FuncId} {args : Array Value} {v : Value} (e : (execOp a.eval o).run Tryz.prog w = .ok (.enter F args) w) (hc : Calls Tryz.prog F args w fun e w' => e = .returned v ∧ Kp w w') :
  o.wp Tryz.prog a w (fun a' w' => ∃ v', a' = a.put o.dst v' ∧ Kp w w' ∧ IsV v w' v') Q := by
 refine kp_enter e hc ?_
 rintro e w' ⟨rfl, hk⟩
 exact ⟨_, rfl, hk, rfl⟩
theorem kp_not12 {b c : Bool} (hc : (!b) = c) (ho : o.op = .unOp .not 4 x) (hx : a.eval x = .bool b) : o.wp Tryz.prog a w (fun a' w' => ∃ v, a' = a.put o.dst v ∧ Kp w w' ∧ IsV (.bool c) w' v) Q := by
 subst hc
 refine kp_yield (v := .bool (!b)) (w' := w) ?_ (Keeps.refl _ _) rfl
 generalize a.eval = ρ at hx ⊢
 unfold execOp
 rw [ho]
 go_simp
theorem one_enter12 {P : Program} {X : World → Value → Prop} {f : FuncId} {args : Array Value} {C : Ending → World → Prop} (e : (execOp a.eval o).run P w = .ok (.enter f args) w) (hc : Calls P f args w C)
  (hC : ∀ e w', C e w' → ∃ v, e = .returned v ∧ X w' v) : o.wp P a w (fun a' w' => ∃ v, a' = a.put o.dst v ∧ X w' v) Q := by
 unfold Oper.wp
 rw [e]
 refine hc.mono fun e w' h => ?_
 obtain ⟨v, rfl, hv⟩ := hC e w' h
 exact ⟨v, rfl, hv⟩
end
end Go.Proofs.YticophaepapjoaaGreatDoor
namespace Go.Proofs.YticophaepapjoaaGreatDoor
open Go Go.RowKit
abbrev IxSt := List (ByteArray × Int)
def isK (k : ByteArray) (x : ByteArray × Int) : Bool := x.1.data.toList == k.data.toList
def ixGet (st : IxSt) (k : ByteArray) : Option Int := (st.find? (isK k)).map (·.2)
def ixPut (st : IxSt) (k : ByteArray) (p : Int) : IxSt := if (ixGet st k).isSome then st.map (fun x => if isK k x then (x.1, p) else x) else st ++ [(k, p)]
def ixDrop (st : IxSt) (k : ByteArray) : IxSt := st.filter fun x => !isK k x
def ixBelow (st : IxSt) (p : Int) : IxSt := st.filter fun x => decide (p ≤ x.2)
def i64 (p : Int) : Prop := -9223372036854775808 ≤ p ∧ p < 9223372036854775808
structure IndexOK where
 T : World → Prop
 tk : ∀ {w w' : World}, T w → Keeps (fun _ => True) w w' → T w'
 rep : World → Nat → Foot → IxSt → Prop
 lt : ∀ {w q F st}, rep w q F st → ∀ b, F.all b → b < w.heap.size
 keep : ∀ {w w' q F st}, rep w q F st → Keeps F.all w w' → rep w' q F st
 new : ∀ w : World, T w → Calls Tryz.prog 99 #[] w fun e w' => ∃ (q : Nat) (F : Foot), e = .returned (.pointer (some ⟨q, 0, none⟩)) ∧ rep w' q F [] ∧ (∀ b, F.all b → w.heap.size ≤ b) ∧ Keeps (fun _ => True) w w'
 put : ∀ (W w : World) (q : Nat) (F : Foot) (st : IxSt), rep w q F st → T W → Keeps (fun _ => True) W w → (∀ b, F.all b → W.heap.size ≤ b) → st.length ≤ 32768 → ∀ (k : ByteArray) (p : Int), k.size ≤ 1000000 → i64 p →
  Calls Tryz.prog 108 #[.pointer (some ⟨q, 0, none⟩), .string k, .int .i64 p] w fun e w' => e = .returned (.int .i64 ((ixGet st k).getD 0)) ∧ ∃ F' : Foot, rep w' q F' (ixPut st k p) ∧ Step F F' w w'
 get : ∀ (w : World) (q : Nat) (F : Foot) (st : IxSt), rep w q F st → T w → st.length ≤ 32768 → ∀ k : ByteArray, k.size ≤ 1000000 →
  Calls Tryz.prog 43 #[.pointer (some ⟨q, 0, none⟩), .string k] w fun e w' => e = .returned (.tuple #[.int .i64 ((ixGet st k).getD 0), .bool (ixGet st k).isSome]) ∧ Keeps (fun _ => True) w w'
 drop : ∀ (W w : World) (q : Nat) (F : Foot) (st : IxSt), rep w q F st → T W → Keeps (fun _ => True) W w → (∀ b, F.all b → W.heap.size ≤ b) → st.length ≤ 32768 → ∀ k : ByteArray, k.size ≤ 1000000 →
  Calls Tryz.prog 107 #[.pointer (some ⟨q, 0, none⟩), .string k] w fun e w' => e = .returned (.bool (ixGet st k).isSome) ∧ ∃ F' : Foot, rep w' q F' (ixDrop st k) ∧ Step F F' w w'
 below : ∀ (W w : World) (q : Nat) (F : Foot) (st : IxSt), rep w q F st → T W → Keeps (fun _ => True) W w → (∀ b, F.all b → W.heap.size ≤ b) → st.length ≤ 32768 → ∀ p : Int, i64 p →
  Calls Tryz.prog 73 #[.pointer (some ⟨q, 0, none⟩), .int .i64 p] w fun e w' => e = .returned (.int .i64 ((st.length - (ixBelow st p).length : Nat) : Int)) ∧ ∃ F' : Foot, rep w' q F' (ixBelow st p) ∧ Step F F' w w'
structure Sl where
 key : ByteArray
 hash : Int
 pos : Int
 full : Bool
def Sl.zero : Sl := ⟨⟨#[]⟩, 0, 0, false⟩
abbrev Tab := Nat → Sl
def setT (T : Tab) (i : Nat) (s : Sl) : Tab := fun j => if j = i then s else T j
def ent (s : Sl) : IxSt := if s.full then [(s.key, s.pos)] else []
def ents (T : Tab) (n : Nat) : IxSt := (List.range n).flatMap fun i => ent (T i)
def nx (n i d : Nat) : Nat := if i + d < n then i + d else i + d - n
def way (n i k : Nat) : Nat := if i ≤ k then k - i else k + n - i
section
variable {n i j k d e f : Nat} {T T' : Tab} {s : Sl} {st : IxSt}
theorem nx_c (n i d : Nat) : (i + d < n ∧ nx n i d = i + d) ∨ (n ≤ i + d ∧ nx n i d = i + d - n) := by
 unfold nx; split <;> omega
theorem way_c (n i k : Nat) : (i ≤ k ∧ way n i k = k - i) ∨ (k < i ∧ way n i k = k + n - i) := by
 unfold way; split <;> omega
theorem nx_lt (hi : i < n) (hd : d ≤ n) : nx n i d < n := by have := nx_c n i d; omega
theorem way_lt (hi : i < n) (hk : k < n) : way n i k < n := by have := way_c n i k; omega
theorem nx_way (hi : i < n) (hk : k < n) : nx n i (way n i k) = k := by
 have := way_c n i k
 have := nx_c n i (way n i k)
 omega
theorem way_nx (hi : i < n) (hd : d < n) : way n i (nx n i d) = d := by
 have := nx_c n i d
 have := way_c n i (nx n i d)
 omega
theorem nx_one (hi : i < n) (hd : d + 1 < n) : nx n (nx n i d) 1 = nx n i (d + 1) := by
 have := nx_c n i d
 have := nx_c n (nx n i d) 1
 have := nx_c n i (d + 1)
 omega
theorem nx_zero (hi : i < n) : nx n i 0 = i := by have := nx_c n i 0; omega
theorem way_self (n i : Nat) : way n i i = 0 := by have := way_c n i i; omega
theorem setT_at (T : Tab) (i : Nat) (s : Sl) : setT T i s i = s := by simp [setT]
theorem setT_ne (T : Tab) (s : Sl) (h : j ≠ i) : setT T i s j = T j := by simp [setT, h]
theorem setT_two (T : Tab) (i : Nat) (s u : Sl) : setT (setT T i s) i u = setT T i u := by
 funext j; unfold setT; split <;> rfl
theorem ents_succ (T : Tab) (n : Nat) : ents T (n + 1) = ents T n ++ ent (T n) := by
 unfold ents; rw [List.range_succ, List.flatMap_append]; simp
theorem ents_congr (h : ∀ i, i < n → T i = T' i) : ents T n = ents T' n := by
 induction n with
 | zero => rfl
 | succ n ih => rw [ents_succ, ents_succ, ih fun i hi => h i (by omega), h n (by omega)]
theorem ents_take (hi : i < n) : (ents T n).Perm (ent (T i) ++ ents (setT T i Sl.zero) n) := by
 induction n with
 | zero => omega
 | succ n ih =>
  rw [ents_succ, ents_succ]
  by_cases h : i = n
  ·subst h
   rw [setT_at, ents_congr (T := setT T i Sl.zero) (T' := T) fun j hj => setT_ne _ _ (by omega)]
   have : ent Sl.zero = [] := rfl
   rw [this, List.append_nil]
   exact List.perm_append_comm
  ·rw [setT_ne _ _ (by omega), ← List.append_assoc]
   exact (ih (by omega)).append_right _
theorem ents_mem (hi : i < n) (hf : (T i).full = true) : ((T i).key, (T i).pos) ∈ ents T n := by
 refine (ents_take hi).symm.subset ?_
 simp [ent, hf]
theorem ents_of {x : ByteArray × Int} (h : x ∈ ents T n) : ∃ i, i < n ∧ (T i).full = true ∧ x = ((T i).key, (T i).pos) := by
 unfold ents at h
 rw [List.mem_flatMap] at h
 obtain ⟨i, hi, hx⟩ := h
 unfold ent at hx
 refine ⟨i, List.mem_range.1 hi, ?_⟩
 split at hx
 ·rename_i hf
  exact ⟨hf, by simpa using hx⟩
 ·cases hx
theorem ents_len (T : Tab) (n : Nat) : (ents T n).length ≤ n := by
 induction n with
 | zero => simp [ents]
 | succ n ih =>
  rw [ents_succ, List.length_append]
  have : (ent (T n)).length ≤ 1 := by unfold ent; split <;> simp
  omega
theorem ents_all (h : ∀ i, i < n → (T i).full = true) : (ents T n).length = n := by
 induction n with
 | zero => simp [ents]
 | succ n ih =>
  rw [ents_succ, List.length_append, ih fun i hi => h i (by omega)]
  simp [ent, h n (by omega)]
theorem free_slot (h : (ents T n).length < n) : ∃ f, f < n ∧ (T f).full = false := by
 refine Classical.byContradiction fun hn => ?_
 have : (ents T n).length = n := ents_all fun i hi => by
  cases hf : (T i).full with
  | true => rfl
  | false => exact absurd ⟨i, hi, hf⟩ hn
 omega
end
section
variable {st st' : IxSt} {k : ByteArray} {p : Int} {x : ByteArray × Int}
theorem isK_iff : isK k x = true ↔ x.1 = k := by
 unfold isK
 rw [beq_iff_eq]
 refine ⟨fun h => ByteArray.ext ?_, fun h => by rw [h]⟩
 exact Array.toList_inj.1 h
theorem isK_not : isK k x = false ↔ x.1 ≠ k := by
 cases h : isK k x with
 | true => simp [isK_iff.1 h]
 | false => simp; exact fun e => by rw [isK_iff.2 e] at h; cases h
theorem ixGet_mem (h : ixGet st k = some p) : (k, p) ∈ st := by
 unfold ixGet at h
 obtain ⟨x, hx, e⟩ := Option.map_eq_some_iff.1 h
 have e1 := isK_iff.1 (List.find?_some hx)
 have := List.mem_of_find?_eq_some hx
 rw [← e1, ← e]
 exact this
theorem ixGet_of (hnd : (st.map (·.1)).Nodup) (h : (k, p) ∈ st) : ixGet st k = some p := by
 unfold ixGet
 induction st with
 | nil => cases h
 | cons a st ih =>
  rw [List.map_cons, List.nodup_cons] at hnd
  rw [List.find?_cons]
  by_cases ha : a.1 = k
  ·rw [isK_iff.2 ha]
   rcases List.mem_cons.1 h with rfl | h
   ·rfl
   ·exact absurd (List.mem_map.2 ⟨_, h, ha.symm⟩) hnd.1
  ·rw [isK_not.2 ha]
   rcases List.mem_cons.1 h with rfl | h
   ·exact absurd rfl ha
   ·exact ih hnd.2 h
theorem ixGet_none : ixGet st k = none ↔ ∀ x ∈ st, x.1 ≠ k := by
 unfold ixGet
 rw [Option.map_eq_none_iff, List.find?_eq_none]
 exact ⟨fun h x hx e => h x hx (isK_iff.2 e), fun h x hx e => h x hx (isK_iff.1 e)⟩
theorem ixDrop_perm (hp : st.Perm st') : (ixDrop st k).Perm (ixDrop st' k) := hp.filter _
theorem ixBelow_perm (hp : st.Perm st') : (ixBelow st p).Perm (ixBelow st' p) := hp.filter _
theorem ixDrop_cons (hnd : (((k, p) :: st).map (·.1)).Nodup) : ixDrop ((k, p) :: st) k = st := by
 rw [List.map_cons, List.nodup_cons] at hnd
 unfold ixDrop
 rw [List.filter_cons, show isK k (k, p) = true from isK_iff.2 rfl]
 simp only [Bool.not_true, Bool.false_eq_true, if_false]
 rw [List.filter_eq_self]
 intro x hx
 rw [isK_not.2 fun e => hnd.1 (List.mem_map.2 ⟨x, hx, e⟩)]
 rfl
theorem ixPut_new (h : ixGet st k = none) : ixPut st k p = st ++ [(k, p)] := by simp [ixPut, h]
theorem ixPut_keys (st : IxSt) (k : ByteArray) (p : Int) (hs : (ixGet st k).isSome = true) : (ixPut st k p).map (·.1) = st.map (·.1) := by
 unfold ixPut
 rw [if_pos hs, List.map_map]
 refine List.map_congr_left fun x _ => ?_
 show (if isK k x then (x.1, p) else x).1 = x.1
 split <;> rfl
theorem ixPut_nodup (hnd : (st.map (·.1)).Nodup) : ((ixPut st k p).map (·.1)).Nodup := by
 cases hg : ixGet st k with
 | some v => rw [ixPut_keys st k p (by rw [hg]; rfl)]; exact hnd
 | none =>
  rw [ixPut_new hg, List.map_append, List.nodup_append]
  refine ⟨hnd, by simp, ?_⟩
  intro a ha b hb
  obtain ⟨x, hx, rfl⟩ := List.mem_map.1 ha
  simp at hb
  subst hb
  exact ixGet_none.1 hg x hx
theorem ixDrop_nodup (hnd : (st.map (·.1)).Nodup) : ((ixDrop st k).map (·.1)).Nodup := (List.Sublist.map _ List.filter_sublist).nodup hnd
theorem ixBelow_nodup (hnd : (st.map (·.1)).Nodup) : ((ixBelow st p).map (·.1)).Nodup := (List.Sublist.map _ List.filter_sublist).nodup hnd
theorem ixPut_again {q : Int} {rest : IxSt} (hp : st.Perm ((k, q) :: rest)) (hnd : (st.map (·.1)).Nodup) : (ixPut st k p).Perm ((k, p) :: rest) := by
 have hnd' := (hp.map (·.1)).nodup_iff.1 hnd
 have hg : ixGet st k = some q := ixGet_of hnd (hp.symm.subset List.mem_cons_self)
 unfold ixPut
 rw [hg, if_pos (show (some q).isSome = true from rfl)]
 refine (hp.map _).trans ?_
 rw [List.map_cons, show isK k (k, q) = true from isK_iff.2 rfl, if_pos rfl]
 rw [List.map_cons, List.nodup_cons] at hnd'
 have : rest.map (fun x => if isK k x then (x.1, p) else x) = rest := by
  refine (List.map_congr_left fun x hx => ?_).trans (List.map_id rest)
  rw [isK_not.2 fun e => hnd'.1 (List.mem_map.2 ⟨x, hx, e⟩)]
  rfl
 rw [this]
theorem ixPut_i64 (hs : ∀ x ∈ st, i64 x.2) (hp : i64 p) : ∀ x ∈ ixPut st k p, i64 x.2 := by
 intro x hx
 unfold ixPut at hx
 split at hx
 ·obtain ⟨y, hy, rfl⟩ := List.mem_map.1 hx
  split
  ·exact hp
  ·exact hs y hy
 ·rcases List.mem_append.1 hx with h | h
  ·exact hs x h
  ·simp at h; subst h; exact hp
end
theorem ixDrop_i64 {st : IxSt} {k : ByteArray} (hs : ∀ x ∈ st, i64 x.2) : ∀ x ∈ ixDrop st k, i64 x.2 := fun x hx => hs x (List.mem_filter.1 hx).1
theorem ixBelow_i64 {st : IxSt} {p : Int} (hs : ∀ x ∈ st, i64 x.2) : ∀ x ∈ ixBelow st p, i64 x.2 := fun x hx => hs x (List.mem_filter.1 hx).1
end Go.Proofs.YticophaepapjoaaGreatDoor
namespace Go.Proofs.YticophaepapjoaaGreatDoor
open Go Go.RowKit Go.Joins
theorem str_same (a b : ByteArray) : (a.toList == b.toList) = decide (a = b) := by
 by_cases h : a = b
 ·subst h; simp
 ·have : a.toList ≠ b.toList := fun e => h (by
   rw [Lib.toList_data, Lib.toList_data] at e
   exact data_inj e)
  simp [h, this]
theorem size_zero {s : ByteArray} : s = ⟨#[]⟩ ↔ s.size = 0 := by
 constructor
 ·rintro rfl; rfl
 ·intro h
  obtain ⟨d⟩ := s
  have : d.size = 0 := h
  rw [Array.size_eq_zero_iff] at this
  rw [this]
end Go.Proofs.YticophaepapjoaaGreatDoor
namespace Go.Proofs.YticophaepapjoaaGreatDoor
open Go Go.RowKit Go.Joins Go.Shelf
attribute [local go_sem] Oper.semAt_some
def chunks (len : Nat) : Nat := (len + 52) / 53
def chLen (len k : Nat) : Nat := min 53 (len - 53 * k)
def encCh (g o len k : Nat) : Array Value := #[.slice (some ⟨g, o + 53 * k, none⟩) (chLen len k) (chLen len k)]
def KpB (Bs Bn : Nat) (W W' : World) : Prop := Keeps (fun b => b = Bs ∨ b = Bn) W W'
set_option maxRecDepth 100000 in
set_option maxHeartbeats 1000000 in
theorem chunk1_in (F : Fence) (n : Nat) (hfn : F.fn 172) (hro : F.round = none) (hn : 1 ≤ n) (l Bs Bn g o len cap : Nat) (hlc : len ≤ cap) (hlm : len ≤ 1000000000000) (J Jx : List Nat → World → Prop) (hJd : ∀ s W, J s W → J s W.drew)
  (hY : ∀ pre x W, J pre W → pre.length < chunks len → YieldAt F (n - 1) Tryz.prog l (encCh g o len x) W fun e W' =>
   (e = .returned (.bool true) ∧ J (pre ++ [x]) W' ∧ KpB Bs Bn W W') ∨ (e = .returned (.bool false) ∧ Jx (pre ++ [x]) W'))
  (W : World) (hBs : W.cell? ⟨Bs, 0, none⟩ = some (.slice (some ⟨g, o, none⟩) len cap)) (hBn : W.cell? ⟨Bn, 0, none⟩ = some (.int .i64 53)) (h0 : J [] W) :
  CallsIn F n Tryz.prog 172 #[.func (.yield l) #[] #[], .pointer (some ⟨Bs, 0, none⟩), .pointer (some ⟨Bn, 0, none⟩)] W fun e W' => (∃ v, e = .returned v) ∧
   ((∃ ys, ys = List.range (chunks len) ∧ J ys W') ∨ (∃ pre, (∃ k, k ≤ chunks len ∧ pre = List.range k) ∧ Jx pre W')) := by
 refine callsIn_of_wp Tryz.func172 rfl hfn ?_ hro
 simp only [Tryz.ntmps172, List.size_toArray, List.length_cons, List.length_nil, Nat.reduceAdd, Nat.reduceSub, Array.replicate_succ, Array.replicate_zero, List.push_toArray, List.append_toArray, List.nil_append, List.cons_append]
 have HY := Lib.hid hY
 have HBs := Lib.hid hBs
 have HBn := Lib.hid hBn
 clear hY hBs hBn
 gi_wp2
 gi_loopw [4] (fun vi wr => ∃ k i : Nat, RowKit.Hid (i = 53 * k) ∧ k ≤ chunks len ∧ vi = .int .i64 i ∧ J (List.range k) wr ∧ KpB Bs Bn W wr)
  (fun vi _ => len + 53 - (intOf vi).toNat)
 case atStart => exact ⟨0, 0, Lib.hid rfl, Nat.zero_le _, rfl, h0, Keeps.refl _ _⟩
 case round =>
  obtain ⟨k, i, hi, hk, rfl, hJs, hkp⟩ := hrel
  have cs := hkp.cell HBs.out (.inl rfl)
  have cn := hkp.cell HBn.out (.inr rfl)
  by_cases hlt : k < chunks len
  ·have hil : i < len := by have := hi.out; unfold chunks at hlt; omega
   obtain ⟨e, he⟩ : ∃ e, chLen len k = e := ⟨_, rfl⟩
   obtain ⟨fn, tmps, assign, body, hy, hR⟩ := HY.out _ k wr.drew (hJd _ _ hJs) (by rw [List.length_range]; exact hlt)
   have hee : e = min 53 (len - i) := by rw [← he, hi.out]; rfl
   have hHI := Lib.hid hi.out
   have hy' : (Instr.yield l #[.slice (some ⟨g, o + i, none⟩) e e]).run Tryz.prog wr.drew = .ok (.round l fn tmps assign body) wr.drew := by
    have h := hy
    unfold encCh at h
    rw [he, ← hi.out] at h
    exact h
   have hmin : min (53 : Int) ((len - i : Nat) : Int) = (e : Int) := by omega
   have hne : ¬ cap = i := by omega
   have h1 : i ≤ len := by omega
   have h2 : i ≤ cap := by omega
   have h3 : i + e ≤ cap := by omega
   have h4 : i ≤ i + e := by omega
   have HEE := Lib.hid hee
   have HK := Lib.hid hkp
   clear hy he hee hi hkp
   gi_wp2
   gi_region
   all_goals gi_wp2
   all_goals refine hR.mono ?_
   all_goals rintro e' W3 (⟨rfl, hJ3, hk3⟩ | ⟨rfl, hJx3⟩)
   all_goals first
    | (have cs := hk3.cell cs (.inl rfl)
       have cn := hk3.cell cn (.inr rfl)
       gi_wp2
       go_roundw
       case rel => exact ⟨k + 1, i + 53, Lib.hid (by have := hHI.out; omega), by omega, by go_num, by rw [List.range_succ]; exact hJ3, HK.out.drew.trans hk3⟩
       case measure => simp [intOf]; omega)
    | (gi_wp2
       refine bodyPost_ret (results_none rfl _ _ _) rfl ?_
       exact ⟨⟨_, rfl⟩, .inr ⟨_, ⟨k + 1, by omega, (List.range_succ).symm⟩, hJx3⟩⟩)
  ·obtain rfl : k = chunks len := by omega
   have hil : ¬ (i : Int) < (len : Int) := by have := hi.out; unfold chunks at this; omega
   gi_wp2
   go_end0
   exact ⟨⟨_, rfl⟩, .inl hJs⟩
end Go.Proofs.YticophaepapjoaaGreatDoor
namespace Go.Proofs.YticophaepapjoaaGreatDoor
end Go.Proofs.YticophaepapjoaaGreatDoor
namespace Go.Proofs.YticophaepapjoaaGreatDoor
open Go Go.RowKit
section
variable {P : Program} {ops : Array Oper} {Q : Exit → Act → World → Prop} {V : Nat → World → Value → Prop} {a0 : Act} {w0 : World} {G : Nat → Option Bool} {St : Bool → World → Prop} {Rk : World → World → Prop} {k : Nat}
theorem rowsIn_wide' {n : Nat} {row : String} {args : Array Value} {w : World} {R : Value → World → Prop} (h : Rows P row args w R) : RowsIn Fence.wide n P row args w R := fun c cs _ =>
 let ⟨v, w', r, s⟩ := h c cs
 ⟨v, w', r, stepsIn_wide.2 s⟩
theorem wpIn_round_of_wp {n l : Nat} {o : Oper} {a : Act} {w : World} {K : Act → World → Prop} (hd : ∀ c, o.op ≠ .defer c) (hh : o.wp P a w K Q) : o.wpIn (Fence.wide.inRound l) n P a w K Q := by
 refine ⟨fun _ _ => trivial, ?_⟩
 show o.uponIn (Fence.wide.inRound l) n P a K Q ((o.semAt (some l) a.eval).run P w)
 rw [Oper.semAt_some l a.eval o hd]
 unfold Oper.wp at hh
 have hdep : ((Fence.wide.inRound l).depth.isSome = true → 1 ≤ n) := fun h => by cases h
 generalize (execOp a.eval o).run P w = r at hh ⊢
 cases r with
 | ok x w' =>
  cases x with
  | value v => exact hh
  | skip => exact hh
  | «defer» d => exact hh
  | enter f args => exact ⟨hdep, CallsIn.inRound l (callsIn_wide.2 hh)⟩
  | row row args => exact ⟨hdep, rowsIn_wide' hh⟩
  | _ => exact hh.elim
 | halt x w' => cases x <;> exact hh
theorem wpIn_region_one {n lp id : Nat} {w : World} (k : Nat) (St : Bool → World → Prop) (Rk : World → World → Prop) (G : Nat → Option Bool) (hm : P.follows .mixedOrders = true) (hnd : ∀ o ∈ ops, ∀ c, o.op ≠ .defer c)
  (hV : ∀ i w w' v, Kp w w' → V i w v → V i w' v) (hS : ∀ b w w', Kp w w' → St b w → St b w') (hVk : ∀ i, i ≠ k → ∀ w w' v, Rk w w' → V i w v → V i w' v)
  (hfit : fitsG G ops a0.tmps.size = true) (hk : k < ops.size) (hG : ∀ g c, G g = some c → ∀ w v, V g w v → v = .bool c) (hU : ∀ (i : Nat) (o : Oper), ops[i]? = some o → wantsG G o = false → i ≠ k ∧ V i = IsV undef) (hw : St false w.drew)
  (loc : ∀ (i : Nat) (o : Oper), ops[i]? = some o → wantsG G o = true → ∀ a w, Leans (fun _ _ => True) V ops a0 w0 i a w →
   if i = k then (St false w → o.wp P a w (fun a' w' => ∃ v, a' = a.put o.dst v ∧ Rk w w' ∧ St true w' ∧ V i w' v) Q)
   else (∀ b, St b w → (∀ js, chained ops k i js = true → b = true) → o.wp P a w (fun a' w' => ∃ v, a' = a.put o.dst v ∧ Kp w w' ∧ V i w' v) Q))
  (done : ∀ vs w, St true w → vs.length = ops.size → (∀ i d, dstOf ops i = some d → V i w (vs.getD i undef)) → Q .normal (putAll a0 (ops.toList.map (·.dst)) vs) w) :
  (Code.region id ops true).wpIn (Fence.wide.inRound lp) n P Q a0 w := by
 have look : ∀ (i : Nat) (o : Oper), ops[i]? = some o → (∀ g b, o.guard = some (g, b) → waits ops i g = true ∧ (dstOf ops g).isSome = true ∧ ((G g).isSome = true ∨ ∃ o', ops[g]? = some o' ∧ wantsG G o' = false)) ∧ (∀ e ∈ o.after, Region.binds .any e = true → e.on < i) ∧ (∀ d, o.dst = some d → d < a0.tmps.size) ∧ (∀ j, i ≠ j → ∀ d, o.dst = some d → dstOf ops j ≠ some d) := by
  intro i o ho
  have hi : i < ops.size := (Array.getElem?_eq_some_iff.1 ho).1
  have h := List.all_eq_true.1 hfit i (List.mem_range.2 hi)
  simp only [ho, Option.all_some, Bool.and_eq_true] at h
  obtain ⟨⟨⟨h1, h2⟩, h3⟩, h4⟩ := h
  refine ⟨fun g b hgb => ?_, fun e he hb => ?_, fun d hd => ?_, fun j hj d hd hx => ?_⟩
  ·rw [hgb] at h1
   simp only [Bool.and_eq_true, Bool.or_eq_true] at h1
   refine ⟨h1.1.1, h1.1.2, h1.2.imp (fun hx => hx) fun hx => ?_⟩
   cases ho' : ops[g]? with
   | none => rw [ho'] at hx; cases hx
   | some o' =>
    rw [ho'] at hx
    exact ⟨o', rfl, by simpa using hx⟩
  ·have := Array.all_eq_true_iff_forall_mem.1 h2 e he
   simpa [hb] using this
  ·rw [hd] at h3; simpa using h3
  ·have hjs : j < ops.size := by
    rcases Nat.lt_or_ge j ops.size with h' | h'
    ·exact h'
    ·simp [dstOf, Array.getElem?_eq_none h'] at hx
   have := List.all_eq_true.1 h4 j (List.mem_range.2 hjs)
   rw [hd, hx] at this
   simp [hj] at this
 have some_of : ∀ i d, dstOf ops i = some d → ∃ o, ops[i]? = some o ∧ o.dst = some d := fun i d h => by
  unfold dstOf at h
  cases ho : ops[i]? with
  | none => simp [ho] at h
  | some o => exact ⟨o, rfl, by simpa [ho] using h⟩
 have hd : ∀ i j d, dstOf ops i = some d → dstOf ops j = some d → i = j := by
  intro i j d hi hj
  obtain ⟨o, ho, hd⟩ := some_of i d hi
  exact Classical.byContradiction fun hne => (look i o ho).2.2.2 j hne d hd hj
 have hb : ∀ i d, dstOf ops i = some d → d < a0.tmps.size := by
  intro i d hi
  obtain ⟨o, ho, hd⟩ := some_of i d hi
  exact (look i o ho).2.2.1 d hd
 have hac : ∀ i j, waits ops i j = true → j < i := by
  intro i j h
  obtain ⟨o, ho, e, he, hb, rfl⟩ := (waits_iff i j).1 h
  exact (look i o ho).2.1 e he hb
 have fin : ∀ (l : Array Bool) (a : Act) (w' : World), (∀ i, i < ops.size → l.getD i false = true) → StandsAt (fun _ _ => True) V ops a0 w0 l a w' → St (l.getD k false) w' → Q .normal a w' := by
  intro l a w' hall h hs
  rw [hall k hk] at hs
  have hlen : ((ops.toList.map (·.dst)).map (slotOf a)).length = ops.size := by simp
  have hq := done ((ops.toList.map (·.dst)).map (slotOf a)) w' hs hlen (fun i d hid => by
   obtain ⟨o, ho, hd⟩ := some_of i d hid
   have hi : i < ops.size := (Array.getElem?_eq_some_iff.1 ho).1
   have hv := h.val i d (hall i hi) hid
   have e : ((ops.toList.map (·.dst)).map (slotOf a)).getD i undef = a.tmps.getD d undef := by
    rw [List.getD_eq_getElem?_getD, List.getElem?_map, List.getElem?_map, Array.getElem?_toList, ho]
    simp [hd, slotOf]
   rw [e]; exact hv)
  rw [← putAll_of a _ a0 h.defers h.tmps ?_ ?_] at hq
  ·exact hq
  ·intro d hd
   obtain ⟨o, ho, hod⟩ := List.mem_map.1 hd
   obtain ⟨i, hi, rfl⟩ := List.getElem_of_mem ho
   exact (look i ops[i] (by simp at hi; simp [hi])).2.2.1 d (by simpa using hod)
  ·intro t ht
   refine h.old t fun i _ hid => ht ?_
   obtain ⟨o, ho, hd⟩ := some_of i t hid
   refine List.mem_map.2 ⟨o, ?_, hd⟩
   rw [← Array.mem_def]
   exact Array.mem_of_getElem? ho
 have go : ∀ (fuel : Nat) (l : Array Bool) (a : Act) (w : World), (leftOver ops.size l).length ≤ fuel → StandsAt (fun _ _ => True) V ops a0 w0 l a w → St (l.getD k false) w → wpAnyIn (Fence.wide.inRound lp) n P .any ops Q fuel l a w := by
  intro fuel
  induction fuel with
  | zero =>
   intro l a w hf h hs
   have hn : leftOver ops.size l = [] := List.eq_nil_of_length_eq_zero (by omega)
   have hnot : ∀ i, i < ops.size → l.getD i false = true := fun i hi => by
    have hm : i ∉ leftOver ops.size l := by rw [hn]; simp
    have hl' : i < l.size := by rw [h.size]; exact hi
    unfold leftOver at hm
    simp only [List.mem_filter, List.mem_range, hi, true_and, Array.getD, hl'] at hm ⊢
    simpa using hm
   refine ⟨?_, fin l a w hnot h hs⟩
   refine List.eq_nil_iff_forall_not_mem.2 fun i hi => ?_
   have hm := (mem_ready.1 hi).1
   have hx := getD_false_of hm
   rw [hnot i (by rw [← h.size]; exact hx.2)] at hx
   exact absurd hx.1 (by simp)
  | succ fuel ih =>
   intro l a w hf h hs
   refine ⟨fun hr => fin l a w (all_listed hac h.size hr) h hs, fun i hi => ?_⟩
   obtain ⟨hl, o, ho, hall⟩ := mem_ready.1 hi
   have hwt : ∀ j, waits ops i j = true → l.getD j false = true := fun j hj => by
    obtain ⟨o', ho', e, he, hb', rfl⟩ := (waits_iff i j).1 hj
    rw [ho] at ho'; cases ho'
    exact hall e he hb'
   have hdst : o.dst = dstOf ops i := by simp [dstOf, ho]
   have hleft : (leftOver ops.size (l.setIfInBounds i true)).length ≤ fuel := by
    have := leftOver_set ops.size l i (by rw [← h.size]; exact (getD_false_of hl).2) hl
    omega
   have hwant := wanted_is (h.leans hl hwt) (fun j d hj => by rw [h.tmps]; exact hb j d hj) (look i o ho).1 hG (fun i o ho hw => (hU i o ho hw).2)
   have hset : ∀ (hne : i ≠ k), (l.setIfInBounds i true).getD k false = l.getD k false := fun hne => getD_set_ne false hne
   have hloc := loc i o ho
   unfold wpOpIn
   cases hwo : wantsG G o
   ·rw [hwo] at hwant
    obtain ⟨hne, hu⟩ := hU i o ho hwo
    simp only [ho, hwant, Bool.false_eq_true, if_false]
    rw [hdst]
    exact ⟨fun _ _ => trivial, ih _ _ _ hleft (h.step' trivial (fun _ => trivial) hd hb hl (fun _ _ _ hh => hh) hwt (by rw [hu]; rfl)) (by rw [hset hne]; exact hs)⟩
   ·rw [hwo] at hwant
    simp only [ho, hwant, if_true]
    have hlc := hloc hwo a w (h.leans hl hwt)
    by_cases hik : i = k
    ·subst hik
     rw [if_pos rfl] at hlc
     have hlf := (getD_false_of hl).1
     rw [hlf] at hs
     refine wpIn_round_of_wp (hnd o (Array.mem_of_getElem? ho)) (Oper.wp_mono (fun a' w' hk' => ?_) (hlc hs))
     obtain ⟨v, rfl, hr, hst, hv⟩ := hk'
     rw [hdst]
     refine ih _ _ _ hleft (h.step' trivial (fun _ => trivial) hd hb hl (fun j u hj hu => ?_) hwt hv) (by
      have : (l.setIfInBounds i true).getD i false = true := by simp [(getD_false_of hl).2]
      rw [this]; exact hst)
     exact hVk j (fun e => by subst e; rw [hj] at hlf; cases hlf) w w' u hr hu
    ·rw [if_neg hik] at hlc
     refine wpIn_round_of_wp (hnd o (Array.mem_of_getElem? ho)) (Oper.wp_mono (fun a' w' hk' => ?_) (hlc _ hs (fun js hbh => chained_listed h js i hwt hbh)))
     obtain ⟨v, rfl, hr, hv⟩ := hk'
     rw [hdst]
     exact ih _ _ _ hleft (h.step' trivial (fun _ => trivial) hd hb hl (fun j u _ hu => hV j w w' u hr hu) hwt hv) (by rw [hset hik]; exact hS _ _ _ hr hs)
 refine wpIn_region_any hm ?_
 refine go ops.size _ a0 _ ?_ ?_ ?_
 ·refine Nat.le_trans (List.length_filter_le _ _) ?_
  simp
 ·refine ⟨by simp, trivial, rfl, rfl, fun _ _ => rfl, ?_, ?_⟩
  ·intro i d h; exact absurd h (by simp [Array.getD])
  ·intro i j h; exact absurd h (by simp [Array.getD])
 ·have : (Array.replicate ops.size false).getD k false = false := by simp [Array.getD]
  rw [this]; exact hw
end
end Go.Proofs.YticophaepapjoaaGreatDoor
