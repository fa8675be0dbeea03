/- Texts of one proof, behind one another: each says above its part what it proves and on which conditions. -/
import Derived.Test.YtcmblihlbmclaaaRgIf
import Derived.Test.YtcmblihlbmclaaaRgMath
/-
  THE PROGRAM's RINGS IN MEMORY (layer 14): what a ring's block says.
-/
section
namespace Go.Proofs.Ytcmblihlbmclaaa
open Go Go.RowKit Go.Joins

/-- The cells of a ring in the block r, its rows in blocks F. -/
structure RgC (w : World) (r : Nat) (F : Nat → Prop) (e : Int) (l : List Int) (A : Option Addr) (c : Nat) (B : Option Addr) (cb : Nat) : Prop where
  e0 : w.cell? ⟨r, 0, none⟩ = some (.int .i64 e)
  e1 : w.cell? ⟨r, 1, none⟩ = some (.slice A l.length c)
  e2 : w.cell? ⟨r, 2, none⟩ = some (.slice B (8 * l.length) cb)
  row : Row w A F (l.map (Value.int .i64))
  prow : PRow w B F (pts l)
  c1 : l.length ≤ c
  c2 : c ≤ maxLen
  c3 : 8 * l.length ≤ cb
  c4 : cb ≤ maxLen
theorem RgC.keep {w w' : World} {r : Nat} {F : Nat → Prop} {e : Int} {l : List Int} {A : Option Addr} {c : Nat} {B : Option Addr} {cb : Nat} (h : RgC w r F e l A c B cb) (hF : F r) (hk : Keeps F w w') : RgC w' r F e l A c B cb :=
  ⟨hk.cell h.e0 hF, hk.cell h.e1 hF, hk.cell h.e2 hF, h.row.keep hk, h.prow.keep hk, h.c1, h.c2, h.c3, h.c4⟩
def RgAt (W w : World) (r : Nat) (F : Nat → Prop) (e : Int) (l : List Int) : Prop :=
  ringB e l = true ∧ Kp W w ∧ (∀ b, F b → W.heap.size ≤ b ∧ b < w.heap.size) ∧ F r ∧ ∃ A c B cb, RgC w r F e l A c B cb
theorem rgAt_keep {W w w' : World} {r : Nat} {F : Nat → Prop} {e : Int} {l : List Int} (h : RgAt W w r F e l) (hk : Keeps F w w') (hW : Kp W w') : RgAt W w' r F e l := by
  obtain ⟨h1, _, h3, h4, A, c, B, cb, h5⟩ := h
  exact ⟨h1, hW, fun b hb => ⟨(h3 b hb).1, Nat.lt_of_lt_of_le (h3 b hb).2 hk.size⟩, h4, A, c, B, cb, h5.keep h4 hk⟩

end Go.Proofs.Ytcmblihlbmclaaa
end

/-
  THE FIRST POINT AT A HASH OR BEHIND IT, BY COUNTING THOSE AHEAD OF IT (layer 14).
-/
section
namespace Go.Proofs.Ytcmblihlbmclaaa
open Go Go.RowKit Go.Joins

theorem find_count {p : P2 → Bool} : ∀ {L : List P2}, L.Pairwise (fun a b => p a = true → p b = true) → L.find? p = L[L.countP (fun x => !p x)]?
  | [], _ => rfl
  | x :: L, h => by
    obtain ⟨h1, h2⟩ := List.pairwise_cons.1 h
    cases hp : p x with
    | true =>
      have h0 : L.countP (fun x => !p x) = 0 := List.countP_eq_zero.2 fun y hy => by simp [h1 y hy hp]
      rw [List.find?_cons_of_pos hp, List.countP_cons_of_neg (by simp [hp]), h0]
      rfl
    | false =>
      rw [List.find?_cons_of_neg (by simp [hp]), List.countP_cons_of_pos (by simp [hp]), find_count h2]
      rfl
/-- How many of the places lie ahead of h. -/
def seekN (l : List Int) (h : Int) : Nat := (pts l).countP fun x => !decide (h ≤ x.place)
theorem seek_le (l : List Int) (h : Int) : seekN l h ≤ 8 * l.length := by
  unfold seekN
  rw [← pts_len l]
  exact List.countP_le_length
theorem pts_up (l : List Int) (h : Int) : (pts l).Pairwise (fun a b => decide (h ≤ a.place) = true → decide (h ≤ b.place) = true) := by
  refine (sort_asc (l.flatMap ptsOf)).imp fun {a b} hab ha => ?_
  unfold lessB at hab
  simp only [Bool.or_eq_false_iff, decide_eq_false_iff_not, decide_eq_true_eq] at hab ha ⊢
  omega
/-- The owner's point lies at that number, round the ring. -/
theorem seek_own {l : List Int} (hn : nodesB l = true) (h : Int) (k : Nat) (hk : seekN l h % (8 * l.length) = k) : ∃ x, (pts l)[k]? = some x ∧ ownerL l h = x.node ∧ k < 8 * l.length := by
  have hl := pts_len l
  have h0 := (nodesB_iff.1 hn).1
  have hf := find_count (pts_up l h)
  have hle := seek_le l h
  have hkl : k < 8 * l.length := by rw [← hk]; exact Nat.mod_lt _ (by omega)
  unfold seekN at hk hle
  generalize (pts l).countP (fun x => !decide (h ≤ x.place)) = m at hk hle hf
  rcases Nat.lt_or_ge m (8 * l.length) with hm | hm
  · have e : m = k := by rw [← hk, Nat.mod_eq_of_lt hm]
    subst e
    have hx : (pts l)[m]? = some ((pts l)[m]'(by omega)) := List.getElem?_eq_getElem (by omega)
    refine ⟨_, hx, ?_, hkl⟩
    unfold ownerL ownO
    rw [hn, if_pos rfl, hf, hx]
    rfl
  · have e : m = 8 * l.length := by omega
    have e2 : k = 0 := by rw [← hk, e, Nat.mod_self]
    subst e2
    have hx : (pts l)[0]? = some ((pts l)[0]'(by omega)) := List.getElem?_eq_getElem (by omega)
    refine ⟨_, hx, ?_, hkl⟩
    unfold ownerL ownO
    rw [hn, if_pos rfl, hf, show (pts l)[m]? = none from List.getElem?_eq_none (by omega)]
    show nodeO (pts l).head? = _
    rw [List.head?_eq_getElem?, hx]
    rfl

end Go.Proofs.Ytcmblihlbmclaaa
end
