/-
  THE REGION OF ItemLimits: an entry whose key and value are strings of so many zeros, in a block of its own.
-/
import Derived.Test.YtgdbkmecfbkobaaItemBegun
import Derived.Test.YtgdbkmecfbkobaaInvSlot
import Derived.Test.YtgdbkmecfbkobaaArr
namespace Go.Proofs.Ytgdbkmecfbkobaa.itemLimits
open Go Go.RowKit Go.Joins

/-- So many bytes 0. -/
def zerosL (n : Nat) : List UInt8 := List.replicate n 0
def IsIt (w : World) (b : Nat) : Prop := ∃ cs : Array Value, cs.size = 4 ∧ w.heap[b]? = some (.cells cs 23 (0, 0))
def PtrI (n0 : Nat) : World → Value → Prop := fun w v => ∃ b, v = .pointer (some ⟨b, 0, none⟩) ∧ IsIt w b ∧ n0 ≤ b
def ZeroV (n : Nat) : World → Value → Prop := fun w v => ∃ b, v = .slice (some ⟨b, 0, none⟩) n n ∧ w.heap[b]? = some (.cells (madeCells (Value.int .u8 0).cells (n * 1)) 5 (0, 0))
def Rk (w w' : World) : Prop := Keeps (fun b => ¬ IsIt w b) w w' ∧ ∀ b, IsIt w b → IsIt w' b
theorem IsIt.kp {w w' : World} {b : Nat} (h : Kp w w') (hi : IsIt w b) : IsIt w' b := by
  obtain ⟨cs, hs, hb⟩ := hi
  exact ⟨cs, hs, (h.block b trivial (Array.getElem?_eq_some_iff.1 hb).1).trans hb⟩
theorem made_zeros (n : Nat) : (madeCells (Value.int .u8 0).cells (n * 1)).toList = bcells (zerosL n) := by
  have e : (Value.int IntKind.u8 0).cells = #[.int .u8 0] := rfl
  unfold madeCells zerosL bcells
  rw [e, Nat.mul_one, Array.toList_map, Array.toList_range, List.map_replicate]
  refine List.eq_replicate_iff.2 ⟨by simp, fun b hb => ?_⟩
  obtain ⟨i, -, rfl⟩ := List.mem_map.1 hb
  have e1 : i % (#[Value.int IntKind.u8 0] : Array Value).size = 0 := by show i % 1 = 0; omega
  rw [e1]; rfl
theorem ZeroV.text {n : Nat} {w : World} {v : Value} (h : ZeroV n w v) : TextV (zerosL n) w v := by
  obtain ⟨b, rfl, hb⟩ := h
  refine ⟨some ⟨b, 0, none⟩, n, by simp [zerosL], fun _ => ⟨b, 0, rfl, trivial, fun i u hu => ?_⟩⟩
  rw [Nat.zero_add]
  refine (cell_of_block hb i).trans ?_
  rw [← Array.getElem?_toList, made_zeros]
  exact hu
theorem ZeroV.kp {n : Nat} {w w' : World} {v : Value} (h : Kp w w') (hv : ZeroV n w v) : ZeroV n w' v := by
  obtain ⟨b, e, hb⟩ := hv
  exact ⟨b, e, (h.block b trivial (Array.getElem?_eq_some_iff.1 hb).1).trans hb⟩
theorem ZeroV.rk {n : Nat} {w w' : World} {v : Value} (h : Rk w w') (hv : ZeroV n w v) : ZeroV n w' v := by
  obtain ⟨b, e, hb⟩ := hv
  refine ⟨b, e, (h.1.block b (fun hi => ?_) (Array.getElem?_eq_some_iff.1 hb).1).trans hb⟩
  obtain ⟨cs, -, hb2⟩ := hi
  rw [hb] at hb2
  injection hb2 with hb2
  injection hb2 with _ e2 _
  exact absurd e2 (by decide)
def VL (n0 kn vn : Nat) (till : Int) (gone : Bool) : Nat → World → Value → Prop
  | 0 => IsV (.int .i64 (kn : Int))
  | 1 => ZeroV kn
  | 2 => IsV (.string (txt (zerosL kn)))
  | 3 => IsV (.int .i64 (vn : Int))
  | 4 => ZeroV vn
  | 5 => IsV (.string (txt (zerosL vn)))
  | 6 => IsV (.int .i64 till)
  | 7 => IsV (.bool gone)
  | 8 => IsV (.agg #[.string (txt (zerosL kn)), .string (txt (zerosL vn)), .int .i64 till, .bool gone])
  | 9 => PtrI n0
  | _ => fun _ _ => True
theorem VL_kp {n0 kn vn : Nat} {till : Int} {gone : Bool} (i : Nat) (w w' : World) (v : Value) (h : Kp w w') (hv : VL n0 kn vn till gone i w v) : VL n0 kn vn till gone i w' v := by
  match i, hv with
  | 0, hv => exact hv
  | 1, hv => exact ZeroV.kp h hv
  | 2, hv => exact hv
  | 3, hv => exact hv
  | 4, hv => exact ZeroV.kp h hv
  | 5, hv => exact hv
  | 6, hv => exact hv
  | 7, hv => exact hv
  | 8, hv => exact hv
  | 9, hv => obtain ⟨b, e, hi, hb⟩ := hv; exact ⟨b, e, hi.kp h, hb⟩
  | n + 10, _ => trivial
theorem VL_rk {n0 kn vn : Nat} {till : Int} {gone : Bool} (i : Nat) (w w' : World) (v : Value) (h : Rk w w') (hv : VL n0 kn vn till gone i w v) : VL n0 kn vn till gone i w' v := by
  match i, hv with
  | 0, hv => exact hv
  | 1, hv => exact ZeroV.rk h hv
  | 2, hv => exact hv
  | 3, hv => exact hv
  | 4, hv => exact ZeroV.rk h hv
  | 5, hv => exact hv
  | 6, hv => exact hv
  | 7, hv => exact hv
  | 8, hv => exact hv
  | 9, hv => obtain ⟨b, e, hi, hb⟩ := hv; exact ⟨b, e, h.2 b hi, hb⟩
  | n + 10, _ => trivial
/-- What the world is ahead of the store, behind it. -/
def SL (w0 : World) (kn vn : Nat) (till : Int) (gone : Bool) : Bool → Value → World → Prop
  | false, _, w => Kp w0 w
  | true, u, w => Kp w0 w ∧ ∃ b, u = .pointer (some ⟨b, 0, none⟩) ∧ w0.heap.size ≤ b ∧ w.heap[b]? = some (.cells #[.string (txt (zerosL kn)), .string (txt (zerosL vn)), .int .i64 till, .bool gone] 23 (0, 0))
theorem SL.kp0 {w0 w : World} {kn vn : Nat} {till : Int} {gone b : Bool} {u : Value} (h : SL w0 kn vn till gone b u w) : Kp w0 w := by
  cases b
  · exact h
  · exact h.1
section
variable {w : World} {o : Oper} {a : Act} {Q : Exit → Act → World → Prop} {x y : Operand}
theorem kp_make {n : Nat} (hn : n ≤ 1000) (ho : o.op = .makeSlice 30 x x) (hx : a.eval x = .int .i64 (n : Int)) : o.wp Try.prog a w (fun a' w' => ∃ v, a' = a.put o.dst v ∧ Kp w w' ∧ ZeroV n w' v) Q := by
  obtain ⟨i, hi, hz, hs, hb⟩ := info_parts byte_elem.info
  have hr := run_makeSlice (w := w) 30 5 i (.int .u8 0) Try.underlying30 hi hz .i64 .i64 (n : Int) (n : Int) (by omega) (Int.le_refl _) (by rw [hs]; omega) (by rw [hb]; omega) (by omega)
  rw [Int.toNat_natCast, hs] at hr
  refine kp_yield (v := .slice (some ⟨w.heap.size, 0, none⟩) n n) (w' := w.alloc (.cells (madeCells (Value.int .u8 0).cells (n * 1)) 5)) ?_ ((Keeps.refl _ w).alloc _) ⟨_, rfl, heap_alloc_new w _⟩
  unfold execOp
  rw [ho]
  simp [hx, hr, Result.andThen]
theorem kp_allocI {n0 : Nat} (h0 : n0 ≤ w.heap.size) (ho : o.op = .alloc 23) : o.wp Try.prog a w (fun a' w' => ∃ v, a' = a.put o.dst v ∧ Kp w w' ∧ PtrI n0 w' v) Q := by
  refine kp_yield (v := .pointer (some ⟨w.heap.size, 0, none⟩)) (w' := w.alloc (.cells #[.string ⟨#[]⟩, .string ⟨#[]⟩, .int .i64 0, .bool false] 23)) ?_ ((Keeps.refl _ w).alloc _) ⟨_, rfl, ⟨_, rfl, heap_alloc_new w _⟩, h0⟩
  unfold execOp
  go_simp
theorem kp_buildI {s t : ByteArray} {n : Int} {g : Bool} {z u : Operand} (ho : o.op = .build 23 #[(0, x), (1, y), (2, z), (3, u)]) (hx : a.eval x = .string s) (hy : a.eval y = .string t) (hz : a.eval z = .int .i64 n) (hu : a.eval u = .bool g) :
    o.wp Try.prog a w (fun a' w' => ∃ v, a' = a.put o.dst v ∧ Kp w w' ∧ IsV (.agg #[.string s, .string t, .int .i64 n, .bool g]) w' v) Q := by
  refine kp_yield (v := .agg #[.string s, .string t, .int .i64 n, .bool g]) ?_ (Keeps.refl _ _) rfl
  generalize a.eval = ρ at hx hy hz hu
  unfold execOp
  go_simp
/-- A store of a struct. -/
theorem slot_store {P : Program} (ty : TypeId) (ho : o.op = .store ty x y) (g j : Nat) (hx : a.eval x = .pointer (some ⟨g, j, none⟩)) (cs : List Value) (hy : a.eval y = .agg cs.toArray)
    (t : TypeId) (cur : Array Value) (hg : w.heap[g]? = some (.cells cur t (0, 0))) (hi : (P.info? ty).map (·.size) = some cs.length) (hfit : j + cs.length ≤ cur.size) (h1 : ∀ v ∈ cs, v.oneCell' = true) :
    o.wp P a w (fun a' w' => ∃ v, a' = a.put o.dst v ∧ w.grownBy w' (some g) ∧ w'.heap[g]? = some (.cells (cur.toList.take j ++ cs ++ cur.toList.drop (j + cs.length)).toArray t (0, 0))) Q := by
  unfold Oper.wp execOp
  simp only [ho, hx, hy, Instr.storeAt, Instr.sureAddr, Sem.run_bind, Sem.run_pure, Result.andThen_ok, run_store_part ty g j t cur cs hg hi hfit h1]
  exact ⟨_, rfl, ⟨rfl, rfl, rfl, by simp, fun k _ hk => setRow_other w g k _ (fun e => hk (by rw [e]))⟩, setRow_heap w g cur _ t _ hg⟩
end
def GL : Nat → Option Bool := fun _ => none
theorem GL_is {V : Nat → World → Value → Prop} (g : Nat) (c : Bool) (h : GL g = some c) (w : World) (x : Value) (_ : V g w x) : x = .bool c := by cases h

end Go.Proofs.Ytgdbkmecfbkobaa.itemLimits
