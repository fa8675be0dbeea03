/-
  THE ROW OF PLACES BESIDE AN INDEX (IndexBelow): integers of 64 bits that a function of their number tells.
-/
import Derived.Test.YtilcmlioofkkmaaIndexLess
import Derived.Test.YtilcmlioofkkmaaArr
import Derived.Test.YtilcmlioofkkmaaInvPrev
import Derived.Laws.OwnMore
namespace Go.Proofs.Ytilcmlioofkkmaa
open Go Go.RowKit

theorem i64_elem : Elem Try.prog 47 2 (.int .i64 0) 1 8 := ⟨Try.underlying47, by kernel_rfl, rfl, by decide⟩
def posL (n : Nat) (f : Nat → Int) : List Value := (List.range n).map fun i => Value.int .i64 (f i)
theorem posL_len (n : Nat) (f : Nat → Int) : (posL n f).length = n := by simp [posL]
def PosN (w : World) (base g n : Nat) (f : Nat → Int) : Prop := w.ownsRow base 2 1 (.slice (some ⟨g, 0, none⟩) n n) n (posL n f) ∧ g < w.heap.size ∧ base ≤ g
section
variable {w w' : World} {base g n : Nat} {f : Nat → Int} {G : Nat → Prop}
theorem PosN.at_ (h : PosN w base g n f) {j : Nat} (hj : j < n) : w.cell? ⟨g, j, none⟩ = some (.int .i64 (f j)) := by
  refine (h.1.cellAt j (by omega)).trans ?_
  simp [posL, hj]
theorem PosN.frozen (h : PosN w base g n f) (j : Nat) : w.frozen? ⟨g, j, none⟩ = false := h.1.frozenAt j
theorem PosN.store (h : PosN w base g n f) (j : Nat) (z : Int) : PosN (w.setCell ⟨g, j, none⟩ (.int .i64 z)) base g n (fun i => if i = j then z else f i) := by
  refine ⟨?_, by simpa using h.2.1, h.2.2⟩
  have e : posL n (fun i => if i = j then z else f i) = (posL n f).set j (.int .i64 z) := by
    refine List.ext_getElem (by simp [posL]) fun i h1 h2 => ?_
    rw [List.getElem_set]
    by_cases hij : j = i
    · subst hij; simp [posL]
    · simp [posL, hij, Ne.symm hij]
  rw [e]
  exact (h.1.stored j _).1
theorem PosN.keep (h : PosN w base g n f) (hk : Keeps G w w') (hG : G g) : PosN w' base g n f :=
  ⟨hk.own h.1 fun b hb => by
    have : b = g := by simpa [Value.ownBlock] using hb.symm
    rw [this]; exact hG, Nat.lt_of_lt_of_le h.2.1 hk.size, h.2.2⟩
end
section
variable {S : IndexOK} {W w : World} {q : Nat} {F : Foot} {st : IxSt}
theorem ix_put2 (hT : S.T W) (h : Ix S W w q F st) (hl : st.length ≤ 4096) (k : ByteArray) (p : Int) (hk : k.size ≤ 4096) (hp : i64 p) (v : Int) (hv : v = (ixGet st k).getD 0) (st' : IxSt) (hst : st' = ixPut st k p) :
    Calls Try.prog 12 #[.pointer (some ⟨q, 0, none⟩), .string k, .int .i64 p] w fun e w' => e = .returned (.int .i64 v) ∧ ∃ F' : Foot, Ix S W w' q F' st' ∧ Step F F' w w' := by
  subst hv; subst hst
  refine (S.put W w q F st h.r hT h.kp h.gs hl k p hk hp).mono ?_
  rintro e w' ⟨rfl, F', hr, hs⟩
  exact ⟨rfl, F', h.step hr hs, hs⟩
/-- The row beside the index. -/
def Beside (S : IndexOK) (W w : World) (q : Nat) (st : IxSt) (base g n : Nat) (f : Nat → Int) : Prop := ∃ F : Foot, Ix S W w q F st ∧ ¬ F.all g ∧ PosN w base g n f
theorem Beside.keep {w' : World} {base g n : Nat} {f : Nat → Int} (h : Beside S W w q st base g n f) (hk : Keeps (fun _ => True) w w') : Beside S W w' q st base g n f := by
  obtain ⟨F, h1, h2, h3⟩ := h
  exact ⟨F, h1.keep hk, h2, h3.keep hk trivial⟩
theorem Beside.store {base g n : Nat} {f : Nat → Int} (h : Beside S W w q st base g n f) (hW : W.heap.size ≤ g) (j : Nat) (z : Int) : Beside S W (w.setCell ⟨g, j, none⟩ (.int .i64 z)) q st base g n (fun i => if i = j then z else f i) := by
  obtain ⟨F, h1, h2, h3⟩ := h
  refine ⟨F, ⟨S.keep h1.r ((Keeps.refl _ w).setCell (.inr h2) _), h1.gs, h1.kp.setCell (.inl hW) _⟩, h2, h3.store j z⟩
theorem beside_put {base g n : Nat} {f : Nat → Int} (hT : S.T W) (h : Beside S W w q st base g n f) (hl : st.length ≤ 4096) (k : ByteArray) (p : Int) (hk : k.size ≤ 4096) (hp : i64 p) (v : Int) (hv : v = (ixGet st k).getD 0) (st' : IxSt) (hst : st' = ixPut st k p) :
    Calls Try.prog 12 #[.pointer (some ⟨q, 0, none⟩), .string k, .int .i64 p] w fun e w' => e = .returned (.int .i64 v) ∧ Beside S W w' q st' base g n f := by
  obtain ⟨F, h1, h2, h3⟩ := h
  refine (ix_put2 hT h1 hl k p hk hp v hv st' hst).mono ?_
  rintro e w' ⟨rfl, F', h4, hs⟩
  refine ⟨rfl, F', h4, fun hb => ?_, h3.keep hs.keeps fun hm => h2 (.inl hm)⟩
  rcases hs.all g hb with h5 | h5
  · exact h2 h5
  · have := h3.2.1; omega
end

end Go.Proofs.Ytilcmlioofkkmaa
