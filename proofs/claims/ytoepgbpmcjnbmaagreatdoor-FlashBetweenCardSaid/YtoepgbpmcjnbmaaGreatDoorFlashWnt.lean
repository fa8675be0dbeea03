/-
  FlashBetween: the cache, the entries that were handed in, and the law's own row 'want', apart from one another.
-/
import Derived.Test.YtoepgbpmcjnbmaaGreatDoorFlashWant
import Derived.Laws.OwnMore
namespace Go.Proofs.YtoepgbpmcjnbmaaGreatDoor.flashBetween
open Go Go.RowKit Go.Joins Go.Proofs.YtoepgbpmcjnbmaaGreatDoor
def XW (g0 g1 : Nat) (V : Value) : Nat → Prop := fun b => (g0 ≤ b ∧ b < g1) ∨ V.ownBlock = some b
structure Wnt (S : FlashOK) (W w : World) (p q : Nat) (st : FSt) (g0 g1 : Nat) (IA : Option Addr) (its : List It) (A : Option Addr) (c : Nat) (want : List It) : Prop where
  fo : Fo S W w p q st false (XW g0 g1 (.slice A want.length c))
  own : w.ownsRow g1 35 4 (.slice A want.length c) want.length (itCells want)
  its : ItsAt w IA (fun b => g0 ≤ b ∧ b < g1) its
  lo : W.heap.size ≤ g0
  mid : g0 ≤ g1
  hi : g1 ≤ w.heap.size
section
variable {S : FlashOK} {W w w' : World} {p q : Nat} {st : FSt} {g0 g1 : Nat} {IA A : Option Addr} {its want : List It} {c : Nat}
theorem Wnt.keep (h : Wnt S W w p q st g0 g1 IA its A c want) (hk : Kp w w') : Wnt S W w' p q st g0 g1 IA its A c want :=
  ⟨h.fo.keep hk, hk.own h.own fun _ _ => trivial, h.its.keep (hk.mono fun _ _ _ => trivial), h.lo, h.mid, Nat.le_trans h.hi hk.size⟩
theorem Wnt.cache (h : Wnt S W w p q st g0 g1 IA its A c want) {st' : FSt} {dk : Bool} (hf : Fo S W w' p q st' dk (XW g0 g1 (.slice A want.length c))) (hk : Keeps (XW g0 g1 (.slice A want.length c)) w w') : Wnt S W w' p q st' g0 g1 IA its A c want :=
  ⟨hf.loose, hk.own h.own fun _ hb => .inr hb, h.its.keep (hk.mono fun b _ hb => .inl hb), h.lo, h.mid, Nat.le_trans h.hi hk.size⟩
theorem Wnt.fresh (h : Wnt S W w p q st g0 g1 IA its A c want) (hk : Kp w w') {A' : Option Addr} {c' : Nat} {want' : List It} (ho : w'.ownsRow w.heap.size 35 4 (.slice A' want'.length c') want'.length (itCells want')) : Wnt S W w' p q st g0 g1 IA its A' c' want' := by
  refine ⟨h.fo.more hk fun b hb => ?_, ?_, h.its.keep (hk.mono fun _ _ _ => trivial), h.lo, h.mid, Nat.le_trans h.hi hk.size⟩
  · rcases hb with hb | hb
    · exact .inl (.inl hb)
    · exact .inr (ho.lt b hb)
  · refine ⟨ho.1, ?_⟩
    rcases ho.2 with h1 | ⟨g, cap, cur, e, h1, h2, h3⟩
    · exact .inl h1
    · exact .inr ⟨g, cap, cur, e, Nat.le_trans h.hi h1, h2, h3⟩
theorem itC_set (l : List It) (k : Nat) (y : It) (hk : k < l.length) : ((((itCells l).set (k * 4) (.string y.key)).set (k * 4 + 1) (.string y.val)).set (k * 4 + 2) (.int .i64 y.till)).set (k * 4 + 3) (.bool y.gone) = itCells (l.set k y) := by
  induction l generalizing k with
  | nil => simp at hk
  | cons a l ih =>
    cases k with
    | zero => rfl
    | succ k =>
      rw [itC_four, List.set_cons_succ, itC_four, ← ih k (by simpa using hk)]
      rw [show (k + 1) * 4 = k * 4 + 1 + 1 + 1 + 1 by omega]
      rfl
theorem Wnt.store {g : Nat} (h : Wnt S W w p q st g0 g1 IA its (some ⟨g, 0, none⟩) c want) {k : Nat} (hk : k < want.length) (y : It) :
    Wnt S W ((((w.setCell ⟨g, k * 4, none⟩ (.string y.key)).setCell ⟨g, k * 4 + 1, none⟩ (.string y.val)).setCell ⟨g, k * 4 + 2, none⟩ (.int .i64 y.till)).setCell ⟨g, k * 4 + 3, none⟩ (.bool y.gone)) p q st g0 g1 IA its (some ⟨g, 0, none⟩) c (want.set k y) := by
  have hg : g1 ≤ g ∧ g < w.heap.size := h.own.lt g rfl
  have hl : (want.set k y).length = want.length := by simp
  have hkp : Keeps (fun b => b ≠ g) w ((((w.setCell ⟨g, k * 4, none⟩ (.string y.key)).setCell ⟨g, k * 4 + 1, none⟩ (.string y.val)).setCell ⟨g, k * 4 + 2, none⟩ (.int .i64 y.till)).setCell ⟨g, k * 4 + 3, none⟩ (.bool y.gone)) :=
    ((((Keeps.refl (fun b => b ≠ g) w).setCell (p := ⟨g, k * 4, none⟩) (.inr fun e => e rfl) _).setCell (p := ⟨g, k * 4 + 1, none⟩) (.inr fun e => e rfl) _).setCell (p := ⟨g, k * 4 + 2, none⟩) (.inr fun e => e rfl) _).setCell (p := ⟨g, k * 4 + 3, none⟩) (.inr fun e => e rfl) _
  refine ⟨?_, ?_, h.its.keep (hkp.mono fun b _ hb => by have := h.mid; omega), h.lo, h.mid, Nat.le_trans h.hi hkp.size⟩
  · rw [hl]
    refine h.fo.own hkp fun b _ hn => ?_
    have : b = g := Classical.byContradiction hn
    subst this
    exact ⟨.inr rfl, by have := h.lo; have := h.mid; omega⟩
  · rw [hl, ← itC_set want k y hk]
    exact ((((h.own.stored (k * 4) _).1.stored (k * 4 + 1) _).1.stored (k * 4 + 2) _).1.stored (k * 4 + 3) _).1
end
end Go.Proofs.YtoepgbpmcjnbmaaGreatDoor.flashBetween
