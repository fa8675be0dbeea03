/-
  A ROW OF POINTS THROUGH slices.SortFunc (layer 13): the same points, in order.
-/
import Derived.Test.YtcmblihlbmclaaaAllPtA
import Derived.Test.YtcmblihlbmclaaaPtLay
import Derived.Shelf.SlSortCmp.WholeK
namespace Go.Proofs.Ytcmblihlbmclaaa
open Go Go.RowKit Go.Joins

def penc (x : P2) : List Value := [.int .u64 x.place, .int .i64 x.node]
theorem prow_flat {l : List P2} {t : Nat} (h : t < l.length * 2) : (prow l)[t]? = some (Go.Sort.flatK penc 2 l.toArray)[t]! := by
  have hj : t / 2 < l.length := by omega
  rw [Go.Sort.get_flatK penc 2 l.toArray t (by simpa using h)]
  have e : t = t / 2 * 2 + t % 2 := by omega
  have h1 := prow_at l (t / 2) (t % 2) hj (by omega)
  rw [← e] at h1
  rw [h1]
  have h2 : l.toArray[t / 2]! = l[t / 2] := by simp [hj]
  rw [h2]
  have h3 : t % 2 = 0 ∨ t % 2 = 1 := by omega
  rcases h3 with h3 | h3 <;> rw [h3] <;> rfl
theorem holds_own {w : World} {base g c : Nat} {e : TypeId} {l : List P2} (h : w.ownsRow base e 2 (.slice (some ⟨g, 0, none⟩) l.length c) l.length (prow l)) : Go.Sort.HoldsK penc 2 w g 0 l.toArray := by
  intro t ht
  have ht' : t < l.length * 2 := by simpa using ht
  have h1 := h.cells (g := g) rfl t _ (prow_flat ht')
  rw [WideShapes.add_plain] at h1
  refine ⟨h1, ?_⟩
  rcases h.2 with ⟨h', _⟩ | ⟨g', cap', cur, h', _, hg, _⟩
  · cases h'
  · injection h' with h'
    injection h' with h'
    injection h' with h'
    subst h'
    simp [World.frozen?, hg]
theorem prow_holds {w : World} {g : Nat} {l : List P2} (h : Go.Sort.HoldsK penc 2 w g 0 l.toArray) : PRow w (some ⟨g, 0, none⟩) (fun b => b = g) l := by
  intro _
  refine ⟨g, 0, rfl, rfl, fun t v hv => ?_⟩
  have ht : t < l.length * 2 := by
    have := (List.getElem?_eq_some_iff.1 hv).1
    rwa [prow_len] at this
  rw [prow_flat ht] at hv
  injection hv with hv
  have h1 := (h t (by simpa using ht)).1
  rw [← hv]; exact h1
theorem swo_less : Go.Sort.SWO lessB where
  irrefl x := less_irr x
  trans x y z h1 h2 := by
    simp only [lessB, Bool.or_eq_true, Bool.and_eq_true, decide_eq_true_eq, beq_iff_eq] at *
    omega
  ntrans x y z h1 h2 := by
    simp only [lessB, Bool.or_eq_false_iff, Bool.and_eq_false_iff, decide_eq_false_iff_not, beq_eq_false_iff_ne, ne_eq] at *
    omega
theorem lt_ord : ltOf ordZ = lessB := by
  funext a b
  exact ord_less a b
set_option maxRecDepth 100000 in
set_option maxHeartbeats 1000000 in
theorem psort_any (w : World) (base g c : Nat) (e : TypeId) (l : List P2) (ho : w.ownsRow base e 2 (.slice (some ⟨g, 0, none⟩) l.length c) l.length (prow l)) (hl : l.length < 1000) :
    Calls Try.prog 38 #[.slice (some ⟨g, 0, none⟩) l.length c, .func (.func 39) #[] #[]] w fun e w' => e = .returned (.tuple #[]) ∧
      ∃ l', l'.Perm l ∧ Asc l' ∧ PRow w' (some ⟨g, 0, none⟩) (fun b => b = g) l' ∧ Keeps (fun b => b ≠ g) w w' := by
  have hH := holds_own ho
  have hb : g < w.heap.size := (ho.lt g rfl).2
  have hO : Go.Sort.SWO (ltOf ordZ) := by rw [lt_ord]; exact swo_less
  have hC : CmpLays Try.prog 39 #[] penc 2 ordZ g 0 l.toArray.size w := fun m os dk _ x y => order_any x y _
  have h := AnyQ.slices_SortFunc Try.sortPt 2 Try.isAgg59 Try.sizeOf59 penc (fun _ => rfl) (fun x v hv => by simp [penc] at hv; rcases hv with rfl | rfl <;> rfl) ordZ hO 39 #[] g 0 c l.toArray w (enters_of Try.func39 (by kernel_rfl) rfl) hC hH hb (by simp; omega)
  refine (show Calls Try.prog 38 _ w _ from h).mono ?_
  rintro e w' ⟨rfl, d', n, os, hp, hs, hw⟩
  have hps := hp.1
  have hpp := hp.2.2
  have e1 : (d'.extract 0 l.toArray.size).toList = d'.toList := by rw [← hps]; simp
  have e2 : (l.toArray.extract 0 l.toArray.size).toList = l := by simp
  rw [e1, e2] at hpp
  refine ⟨rfl, d'.toList, hpp, ?_, prow_holds ?_, ?_⟩
  · refine List.pairwise_iff_getElem.2 fun i j hi hj hij => ?_
    have := hs i j (Nat.zero_le _) hij (by rw [← hps]; simpa using hj)
    rw [lt_ord] at this
    have hi' : i < d'.size := by simpa using hi
    have hj' : j < d'.size := by simpa using hj
    rw [getElem!_pos d' i hi', getElem!_pos d' j hj'] at this
    simpa using this
  · rw [hw, Array.toArray_toList]
    exact holdsK_sortWorldK penc 2 w g 0 n l.toArray d' os hb hH hps
  · rw [hw]
    refine ⟨rfl, rfl, rfl, ?_, fun b hF hb2 => ?_⟩
    · simp [sortWorldK]
      have : (Go.Sort.putRowK penc 2 (Go.Sort.ahead w n) g 0 d').heap.size = w.heap.size := Go.Sort.size_putRowK penc 2 _ g 0 d'
      omega
    · unfold sortWorldK
      rw [Go.Sort.heap_grow_old _ _ (by rw [Go.Sort.size_putRowK]; exact hb2)]
      unfold Go.Sort.putRowK Go.Sort.putRow Go.Sort.mapBlock
      simp [Array.getElem?_modify, Ne.symm hF]

end Go.Proofs.Ytcmblihlbmclaaa
