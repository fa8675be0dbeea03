/-
  THE PLAIN MATHEMATICS OF CrcBurst: a text of which some neighbouring bytes were changed. It imports nothing of the program.
-/
import Derived.Test.YtfcbiaedhidibaaDoorCrcMath
import Derived.Test.YtfcbiaedhidibaaDoorWords
namespace Go.Proofs.YtfcbiaedhidibaaDoor
open Go

/-- Is one of them not 0? -/
def anyNZ (l : List UInt8) : Bool := l.any (· != 0)
theorem anyNZ_next (l : List UInt8) (k : Nat) (h : k < l.length) : anyNZ (l.take (k + 1)) = (anyNZ (l.take k) || l[k] != 0) := by
  unfold anyNZ; rw [List.take_succ_eq_append_getElem h, List.any_append]; simp
theorem byte_ne (b : UInt8) : ((b.toNat : Int) != 0) = (b != 0) := by
  by_cases h : b = 0
  · subst h; rfl
  · have h1 : (b != 0) = true := by simpa using h
    have h2 : b.toNat ≠ 0 := fun e => h (UInt8.toNat_inj.1 (by simpa using e))
    rw [h1]; simp; omega

/-- The first j bytes of x, laid over l from a on by exclusive or. -/
def patch (a j : Nat) (x l : List UInt8) : List UInt8 := l.mapIdx fun i b => if a ≤ i ∧ i < a + j then b ^^^ x.getD (i - a) 0 else b
theorem patch_len (a j : Nat) (x l : List UInt8) : (patch a j x l).length = l.length := by simp [patch]
theorem patch_get (a j : Nat) (x l : List UInt8) (i : Nat) (h : i < l.length) (h' : i < (patch a j x l).length) : (patch a j x l)[i] = if a ≤ i ∧ i < a + j then l[i] ^^^ x.getD (i - a) 0 else l[i] := by
  simp [patch]
theorem patch_zero (a : Nat) (x l : List UInt8) : patch a 0 x l = l := by
  refine List.ext_getElem (patch_len _ _ _ _) fun i h1 h2 => ?_
  rw [patch_get _ _ _ _ _ h2, if_neg (by omega)]
theorem patch_next (a j : Nat) (x l : List UInt8) (hj : j < x.length) (ha : a + j < l.length) :
    (bcells (patch a j x l)).set (a + j) (.int .u8 ((l[a + j].toNat ^^^ x[j].toNat : Nat) : Int)) = bcells (patch a (j + 1) x l) := by
  refine List.ext_getElem (by simp [bcells, patch_len]) fun i h1 h2 => ?_
  have hi : i < l.length := by simpa [bcells, patch_len] using h2
  rw [List.getElem_set]
  by_cases e : a + j = i
  · subst e
    rw [if_pos rfl]
    simp only [bcells, List.getElem_map, bcell]
    rw [patch_get _ _ _ _ _ hi, if_pos (by omega)]
    have e2 : x.getD (a + j - a) 0 = x[j] := by rw [Nat.add_sub_cancel_left, List.getD_eq_getElem?_getD, List.getElem?_eq_getElem hj]; rfl
    rw [e2, UInt8.toNat_xor]
  · rw [if_neg e]
    simp only [bcells, List.getElem_map]
    rw [patch_get _ _ _ _ _ hi, patch_get _ _ _ _ _ hi]
    by_cases h : a ≤ i ∧ i < a + j
    · rw [if_pos h, if_pos (by omega)]
    · rw [if_neg h, if_neg (by omega)]
theorem patch_at (a j : Nat) (x l : List UInt8) (ha : a + j < l.length) : (bcells (patch a j x l))[a + j]? = some (.int .u8 ((l[a + j].toNat : Nat) : Int)) := by
  have hl : a + j < (patch a j x l).length := by rw [patch_len]; exact ha
  unfold bcells
  rw [List.getElem?_map, List.getElem?_eq_getElem hl, patch_get _ _ _ _ _ ha, if_neg (by omega)]; rfl
theorem xor_self8 (a b : UInt8) : a ^^^ (a ^^^ b) = b := by rw [← UInt8.xor_assoc, UInt8.xor_self, UInt8.zero_xor]
theorem patch_xor (a : Nat) (x l : List UInt8) (h : a + x.length ≤ l.length) :
    xorL l (patch a x.length x l) = List.replicate a 0 ++ x ++ List.replicate (l.length - a - x.length) 0 := by
  refine List.ext_getElem (by simp [xorL, patch_len]; omega) fun i h1 h2 => ?_
  have hi : i < l.length := by simp [xorL] at h1; omega
  have hp : i < (patch a x.length x l).length := by rw [patch_len]; exact hi
  have e : (xorL l (patch a x.length x l))[i] = l[i] ^^^ (patch a x.length x l)[i] := by simp [xorL]
  rw [e, patch_get _ _ _ _ _ hi]
  by_cases c1 : i < a
  · rw [if_neg (by omega), List.getElem_append_left (by simp; omega), List.getElem_append_left (by simp; omega)]
    simp
  · by_cases c2 : i < a + x.length
    · rw [if_pos ⟨by omega, c2⟩, List.getElem_append_left (by simp; omega), List.getElem_append_right (by simp; omega), xor_self8]
      simp only [List.length_replicate]
      rw [List.getD_eq_getElem?_getD, List.getElem?_eq_getElem (by omega)]; rfl
    · rw [if_neg (by omega), List.getElem_append_right (by simp; omega)]
      simp
theorem patch_burst (a : Nat) (x l : List UInt8) (h : a + x.length ≤ l.length) (h4 : x.length ≤ 4) (hn : anyNZ x = true) : crcN l ≠ crcN (patch a x.length x l) := by
  refine crcN_burst l _ x a (l.length - a - x.length) h4 ?_ (patch_len _ _ _ _).symm (patch_xor a x l h)
  unfold anyNZ at hn
  obtain ⟨b, hb, hb0⟩ := List.any_eq_true.1 hn
  exact ⟨b, hb, by simpa using hb0⟩

end Go.Proofs.YtfcbiaedhidibaaDoor
