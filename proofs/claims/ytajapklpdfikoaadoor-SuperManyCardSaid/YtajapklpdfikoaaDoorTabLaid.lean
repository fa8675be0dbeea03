/-
  WHAT THE ROWS' LISTED TABLE GIVES THE WALKS; a start that meets it.
-/
import Derived.Test.YtajapklpdfikoaaDoorCrc
import Derived.Test.YtajapklpdfikoaaDoorFrame
import Derived.Test.YtajapklpdfikoaaDoorRows
import Derived.Test.YtajapklpdfikoaaDoorTie
namespace Go.Proofs.YtajapklpdfikoaaDoor
open Go Go.ChangeShapes Go.WideShapes Go.ChangeAt Go.RowKit

theorem own : ownKnob Tryd.prog.godebug = none := by kernel_rfl
set_option maxRecDepth 100000 in
theorem laidOut : laidOutB Tryd.prog = true := by kernel_rfl
theorem gTaken : Tryd.prog.globalNamed "icehouse/crc.taken" = some 0 := by kernel_rfl
theorem tTaken : (Tryd.prog.globals[0]?).map (·.type) = some 150 := by kernel_rfl
/-- What the rows list. -/
abbrev listed : List (String × DataW Unit) := [("icehouse/crc.taken", Rows.laid_icehouse_crc_taken)]
set_option maxRecDepth 100000 in
theorem door_met (os : Os) (args : Array Value) : laidMetH Tryd.prog listed ((World.doorLaid Tryd.prog 400 os).forCall (fun _ _ => 0) ⟨#[], args, []⟩).memory :=
  laidMetH_of_parts3 (fuel := 8) (laidMet_of_run' 8 (by kernel_rfl) (by kernel_rfl)) (by kernel_rfl) (by kernel_rfl)
def tab : List (DataW Unit) := (List.range 16).map fun i => .lit (.int .u32 ((tbits 4 i : Nat) : Int))
theorem tab_is : (Rows.laid_icehouse_crc_taken : DataW Unit) = .agg tab := by kernel_rfl
set_option maxRecDepth 100000 in
theorem taken_of {W : World} (h : laidMetH Tryd.prog listed W) : Taken W := by
  rw [MakeChecks.laidMetH_plain _ _ _ (by kernel_rfl)] at h
  obtain ⟨ps, ⟨g0, t0, cs0, f0, p0, q0, hg0, ht0, hv0, hd0, _⟩, _⟩ := h
  obtain rfl := Option.some.inj (gTaken.symm.trans hg0)
  obtain rfl := Option.some.inj (tTaken.symm.trans ht0)
  rw [tab_is] at hd0
  obtain ⟨xs, m, rfl, hx, hlen, hn, hel⟩ := DataW.trod_array Tryd.underlying150 hd0
  have c1 : Tryd.prog.cellsOf 126 = 1 := by kernel_rfl
  simp only [Prod.mk.injEq, DataW.agg.injEq] at hx
  intro i hi
  have he := hel i hi
  rw [c1, Nat.mul_one] at he
  have hxi : i < xs.length := by omega
  rw [List.getElem?_eq_getElem hxi] at he
  obtain ⟨n, e1, e2, _⟩ := DataW.trod_int Tryd.underlying126 he
  have e3 : (xs.map (·.1))[i]? = some (.lit (.int .u32 n)) := by rw [List.getElem?_map, List.getElem?_eq_getElem hxi, e2]; rfl
  rw [← hx.1] at e3
  have e4 : tab[i]? = some (.lit (.int .u32 ((tbits 4 i : Nat) : Int))) := by unfold tab; simp [hi]
  rw [e4] at e3
  have hk : n = ((tbits 4 i : Nat) : Int) := by injection e3 with e; injection e with e; injection e with _ e; exact e.symm
  have hc := World.var?_cell hg0 hv0 i
  rw [hc]
  have e5 : cs0.toList[i]? = some (.int .u32 n) := by
    have := congrArg (·[0]?) e1
    simpa [List.getElem?_take, List.getElem?_drop] using this
  rw [← Array.getElem?_toList, e5, hk]

end Go.Proofs.YtajapklpdfikoaaDoor
