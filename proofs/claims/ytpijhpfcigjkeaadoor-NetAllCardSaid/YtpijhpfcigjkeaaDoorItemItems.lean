/-
  'Items' AND 'EqItems' OF THE REFERENCE.
-/
import Derived.Test.YtpijhpfcigjkeaaDoorItemText
import Derived.Test.YtpijhpfcigjkeaaDoorItemEq
import Derived.Deep.RegionLaw
namespace Go.Proofs.YtpijhpfcigjkeaaDoor
open Go Go.RowKit Go.Joins

theorem src_own {w : World} {base : Nat} {v : Value} {l : List UInt8} (h : OwnB w base v l) : Src Tryd.prog 1 63 v l.length (bcells l) w := by
  obtain ⟨A, c, rfl, -, hr⟩ := own_slice h
  have := hr.src (P := Tryd.prog) (c := c) Tryd.underlying63 (bcells_one l)
  rwa [bcells_len] at this
theorem take_may (l : List It) (k : Nat) (h : k < l.length) : (l.take (k + 1)).all It.may = ((l.take k).all It.may && l[k].may) := by
  rw [List.take_succ_eq_append_getElem h, List.all_append]; simp
theorem take_bytes (l : List It) (k : Nat) (h : k < l.length) : bytesOf (l.take (k + 1)) = bytesOf (l.take k) ++ l[k].bytes := by
  rw [List.take_succ_eq_append_getElem h, bytesOf_snoc]
theorem not_may {l : List It} {k : Nat} (h : k < l.length) (hm : l[k].may = false) : encs l = [] := by
  unfold encs
  rw [if_neg]
  intro ha
  have := List.all_eq_true.1 ha l[k] (List.getElem_mem h)
  rw [hm] at this; cases this


end Go.Proofs.YtpijhpfcigjkeaaDoor
