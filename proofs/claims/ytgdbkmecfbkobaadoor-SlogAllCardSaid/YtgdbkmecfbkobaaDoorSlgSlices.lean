/-
  THE PROGRAM's LOG: slices.Reverse and slices.DeleteFunc on its segments.
-/
import Derived.Test.YtgdbkmecfbkobaaDoorSlgAt
import Derived.Test.YtgdbkmecfbkobaaDoorSlgLay
import Derived.Sort.Row
namespace Go.Proofs.YtgdbkmecfbkobaaDoor
open Go Go.RowKit Go.Joins Go.Sort

/-- The library's words for a row that was written over, in mine. -/
theorem row_put {w : World} {base n c g size k : Nat} {e : TypeId} {xs : List Value} (F : Array Value) (h : w.ownsRow base e size (.slice (some ⟨g, 0, none⟩) n c) n xs) (hF : F.size = xs.length) :
    (putRow id (Go.Sort.ahead w k) g 0 F).ownsRow base e size (.slice (some ⟨g, 0, none⟩) n c) n F.toList ∧ w.grownBy (putRow id (Go.Sort.ahead w k) g 0 F) (some g) := by
  refine ⟨?_, ⟨rfl, rfl, rfl, by simp [putRow, mapBlock, Go.Sort.ahead], fun j hj hne => by
    have : g ≠ j := fun e => hne (by rw [e])
    simp [putRow, mapBlock, Go.Sort.ahead, Array.getElem?_modify, this]⟩⟩
  rcases h.2 with ⟨e0, _⟩ | ⟨g', cap', cur, e0, hb, hg, hn, hm, hs, ht⟩
  · cases e0
  · injection e0 with e1 _ e3
    injection e1 with e1
    injection e1 with e1
    subst e1; subst e3
    have hxs : xs.length = n * size := h.1
    have hle : n * size ≤ cur.size := by rw [hs]; exact Nat.mul_le_mul_right _ hn
    refine ⟨by rw [Array.length_toList, hF, hxs], .inr ⟨g, c, putCells id 0 F cur, rfl, hb, ?_, hn, hm, by simpa [putCells] using hs, ?_⟩⟩
    · simp [putRow, mapBlock, Go.Sort.ahead, Array.getElem?_modify, hg, onCells]
    · apply List.ext_getElem?
      intro j
      rw [List.getElem?_take, Array.getElem?_toList, Array.getElem?_toList]
      by_cases hj : j < n * size
      · have hjc : j < cur.size := by omega
        have hjF : j < F.size := by omega
        simp only [if_pos hj, putCells, Array.getElem?_mapIdx, Array.getElem?_eq_getElem hjc, Option.map_some]
        rw [if_pos (by omega), Nat.sub_zero, Array.getElem?_eq_getElem hjF, getElem!_pos F j hjF]
        rfl
      · rw [if_neg hj, Array.getElem?_eq_none (by omega)]
/-- A segment with where its ends lie. -/
abbrev SegP := Seg × (Option Addr × Nat)
instance : Inhabited SegP := ⟨(⟨0, 0, []⟩, (none, 0))⟩
def SegP.E (x : SegP) : Value := .slice x.2.1 x.1.recs.length x.2.2
def SegP.enc (x : SegP) : List Value := x.1.cells x.E
def encP (d : List SegP) : List Value := d.flatMap SegP.enc
theorem encP_len (d : List SegP) : (encP d).length = d.length * 3 := by
  induction d with
  | nil => rfl
  | cons x d ih =>
    have e : encP (x :: d) = x.enc ++ encP d := rfl
    rw [e, List.length_append, ih, List.length_cons]
    simp [SegP.enc, Seg.cells]; omega
theorem encP_at (d : List SegP) (j : Nat) (hj : j < d.length) (t : Nat) (ht : t < 3) : (encP d)[j * 3 + t]? = ((d[j]).enc)[t]? := by
  induction d generalizing j with
  | nil => simp at hj
  | cons x d ih =>
    have e : encP (x :: d) = x.enc ++ encP d := rfl
    have hx : x.enc.length = 3 := by simp [SegP.enc, Seg.cells]
    cases j with
    | zero => rw [e, Nat.zero_mul, Nat.zero_add, List.getElem?_append_left (by omega)]; rfl
    | succ j =>
      rw [e, List.getElem?_append_right (by omega), hx, show (j + 1) * 3 + t - 3 = j * 3 + t by omega, ih j (by simpa using hj)]
      rfl
theorem segC_encP (d : List SegP) : segC (d.map Prod.fst) (d.map SegP.E) = encP d := by
  induction d with
  | nil => rfl
  | cons x d ih => simp only [List.map_cons, segC, ih]; rfl
theorem flatK_encP (d : List SegP) : (flatK SegP.enc 3 d.toArray).toList = encP d := by
  apply List.ext_getElem?
  intro j
  have hs : (flatK SegP.enc 3 d.toArray).size = d.length * 3 := by simp [flatK]
  by_cases hj : j < d.length * 3
  · have hd : j / 3 < d.length := by omega
    rw [Array.getElem?_toList, Array.getElem?_eq_getElem (by omega)]
    have h1 := encP_at d (j / 3) hd (j % 3) (Nat.mod_lt _ (by omega))
    rw [show j / 3 * 3 + j % 3 = j by omega] at h1
    rw [h1]
    have hl : (d[j / 3]).enc.length = 3 := by simp [SegP.enc, Seg.cells]
    rw [List.getElem?_eq_getElem (by rw [hl]; exact Nat.mod_lt _ (by omega))]
    congr 1
    have e := get_flatK SegP.enc 3 d.toArray j (by simpa using hj)
    rw [getElem!_pos _ j (by omega)] at e
    rw [e, getElem!_pos d.toArray (j / 3) (by simpa using hd)]
    have e2 : d.toArray[j / 3]'(by simpa using hd) = d[j / 3] := by simp
    rw [e2, getElem!_pos _ (j % 3) (by rw [hl]; exact Nat.mod_lt _ (by omega))]
  · rw [Array.getElem?_toList, Array.getElem?_eq_none (by omega), List.getElem?_eq_none (by rw [encP_len]; omega)]

theorem reverse_any (w : World) (g c n : Nat) (d : List SegP) (hn : n = d.length) (h : w.ownsRow 0 67 3 (.slice (some ⟨g, 0, none⟩) n c) n (encP d)) (hsz : d.length ≤ 4096) :
    Calls Tryd.prog 57 #[.slice (some ⟨g, 0, none⟩) n c] w fun e w' => e = .returned (.tuple #[]) ∧ w'.ownsRow 0 67 3 (.slice (some ⟨g, 0, none⟩) n c) n (encP d.reverse) ∧ w.grownBy w' (some g) := by
  subst hn
  have hH : HoldsK SegP.enc 3 w g 0 d.toArray := by
    intro j hj
    have hs : (flatK SegP.enc 3 d.toArray).size = d.length * 3 := by simp [flatK]
    have e := flatK_encP d
    have hv : (encP d)[j]? = some ((flatK SegP.enc 3 d.toArray)[j]!) := by
      rw [← e, Array.getElem?_toList, Array.getElem?_eq_getElem hj, getElem!_pos _ j hj]
    have hc := h.cells (g := g) rfl j _ hv
    rw [WideShapes.add_plain] at hc
    exact ⟨hc, h.frozenAt (0 + j)⟩
  have hr := AnyQ.slices_Reverse Tryd.reverseA 3 Tryd.isAgg67 Tryd.sizeOf67 SegP.enc (fun _ => rfl) (fun x v hv => by
    simp only [SegP.enc, Seg.cells, SegP.E, List.mem_cons, List.not_mem_nil, or_false] at hv
    rcases hv with rfl | rfl | rfl <;> rfl) g 0 c d.toArray w hH (by simp; omega)
  rw [show d.toArray.size = d.length by simp] at hr
  refine (show Calls _ _ _ _ _ from hr).mono ?_
  rintro e w' ⟨rfl, k, rfl⟩
  have hF : (flatK SegP.enc 3 d.toArray.reverse).toList = encP d.reverse := by
    have := flatK_encP d.reverse
    simpa using this
  have := row_put (k := k) (flatK SegP.enc 3 d.toArray.reverse) h (by rw [encP_len]; simp [flatK])
  rw [hF] at this
  exact ⟨rfl, this.1, this.2⟩
theorem reverse_none (w : World) (p : Option Addr) (c : Nat) :
    Calls Tryd.prog 57 #[.slice p 0 c] w fun e w' => e = .returned (.tuple #[]) ∧ w' = w :=
  AnyQ.slices_Reverse_empty Tryd.reverseA p c w

end Go.Proofs.YtgdbkmecfbkobaaDoor
