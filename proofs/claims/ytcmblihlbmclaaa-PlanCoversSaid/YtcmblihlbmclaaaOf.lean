/-
  THE CONTRACTS OF LAYER 1 (mix) AND OF ITS REFERENCE: addPart, Of, Point.
-/
import Derived.Test.YtcmblihlbmclaaaMix
import Derived.Lib.Hide
namespace Go.Proofs.Ytcmblihlbmclaaa
open Go.RowKit

/-- One byte more. -/
def stepZ (h c : Int) : Int := IntKind.u64.wrap (stZ (bits .xor .u64 h (IntKind.u64.wrap c)) + 1)
/-- A text's bytes, one behind the other. -/
def bytesZ (h : Int) (l : List UInt8) : Int := l.foldl (fun h c => stepZ h (c.toNat : Int)) h
/-- What stands behind a part of n bytes. -/
def endZ (h : Int) (n : Nat) : Int := stZ (bits .xor .u64 h (256 + (n : Int)))
/-- One part more. -/
def partZ (h : Int) (s : ByteArray) : Int := endZ (bytesZ h s.data.toList) s.size
/-- All parts. -/
def partsZ (ss : List ByteArray) : Int := ss.foldl partZ 11400714819323198485

theorem take_snoc (s : ByteArray) (k : Nat) (h : k < s.size) : s.data.toList.take (k + 1) = s.data.toList.take k ++ [s[k]] := by
  rw [List.take_succ_eq_append_getElem (by simpa using h)]; rfl
theorem bytesZ_snoc (h : Int) (l : List UInt8) (c : UInt8) : bytesZ h (l ++ [c]) = stepZ (bytesZ h l) (c.toNat : Int) := by
  unfold bytesZ; rw [List.foldl_append]; rfl
theorem bytesZ_next (h : Int) (s : ByteArray) (k : Nat) (hk : k < s.size) :
    bytesZ h (s.data.toList.take (k + 1)) = IntKind.u64.wrap (stZ (bits .xor .u64 (bytesZ h (s.data.toList.take k)) (IntKind.u64.wrap (s[k].toNat : Int))) + 1) := by
  rw [take_snoc s k hk, bytesZ_snoc]; rfl
theorem bytesZ_all (h : Int) (s : ByteArray) (k : Nat) (h1 : k ≤ s.size) (h2 : ¬ k < s.size) : bytesZ h (s.data.toList.take k) = bytesZ h s.data.toList := by
  rw [List.take_of_length_le]
  have : s.data.toList.length = s.size := by simp
  omega
theorem getD_at (ss : List ByteArray) (k : Nat) (h : k < ss.length) : ss.getD k ByteArray.empty = ss[k] := by
  rw [List.getD_eq_getElem?_getD, List.getElem?_eq_getElem h]; rfl
theorem partsZ_next (ss : List ByteArray) (k : Nat) (h : k < ss.length) : partsZ (ss.take (k + 1)) = partZ (partsZ (ss.take k)) (ss.getD k ByteArray.empty) := by
  unfold partsZ
  rw [List.take_succ_eq_append_getElem h, List.foldl_append, getD_at ss k h]; rfl
theorem partsZ_all (ss : List ByteArray) (k : Nat) (h1 : k ≤ ss.length) (h2 : ¬ k < ss.length) : partsZ (ss.take k) = partsZ ss := by
  rw [List.take_of_length_le (by omega)]

theorem point_any (n i : Int) (w : World) :
    Calls Try.prog 37 #[.int .i64 n, .int .i64 i] w fun e w' => e = .returned (.int .u64 (stZ (IntKind.u64.wrap (wrap64 (wrap64 (n * 1000003) + i))))) ∧ w = w' := by
  go_enter Try.func37, Try.ntmps37
  go_wp2_with (go_at_call 42; refine (stir_any _ (wrap_nonneg _) (wrap_lt _) _).mono ?_; rintro e w' ⟨rfl, rfl⟩)
  go_ret
  exact ⟨rfl, rfl⟩
theorem rpoint_any (n i : Int) (w : World) :
    Calls Try.prog 15 #[.int .i64 n, .int .i64 i] w fun e w' => e = .returned (.int .u64 (stZ (IntKind.u64.wrap (wrap64 (wrap64 (n * 1000003) + i))))) ∧ w = w' := by
  go_enter Try.func15, Try.ntmps15
  go_wp2_with (go_at_call 27; refine (rstir_any _ (wrap_nonneg _) (wrap_lt _) _).mono ?_; rintro e w' ⟨rfl, rfl⟩)
  go_ret
  exact ⟨rfl, rfl⟩

end Go.Proofs.Ytcmblihlbmclaaa
