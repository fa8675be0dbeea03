/-
  THE CONTRACTS OF LAYER 1 (mix) AND OF ITS REFERENCE: addPart, Of, Point.
-/
import Derived.Test.YtonalhjhokkcmaaMix
import Derived.Lib.Hide
namespace Go.Proofs.Ytonalhjhokkcmaa
open Go.RowKit

/-- One byte more. -/
def stepZ (h c : Int) : Int := IntKind.u64.wrap (stZ (bits .xor .u64 h (IntKind.u64.wrap c)) + 1)
/-- A text's bytes, one behind the other. -/
def bytesZ (h : Int) (l : List UInt8) : Int := l.foldl (fun h c => stepZ h (c.toNat : Int)) h
/-- What stands behind a part of n bytes. -/
def endZ (h : Int) (n : Nat) : Int := stZ (bits .xor .u64 h (256 + (n : Int)))
/-- One part more. -/
def partZ (h : Int) (s : ByteArray) : Int := endZ (bytesZ h s.data.toList) s.size
/-- All parts. -/
def partsZ (ss : List ByteArray) : Int := ss.foldl partZ 11400714819323198485

theorem take_snoc (s : ByteArray) (k : Nat) (h : k < s.size) : s.data.toList.take (k + 1) = s.data.toList.take k ++ [s[k]] := by
  rw [List.take_succ_eq_append_getElem (by simpa using h)]; rfl
theorem bytesZ_snoc (h : Int) (l : List UInt8) (c : UInt8) : bytesZ h (l ++ [c]) = stepZ (bytesZ h l) (c.toNat : Int) := by
  unfold bytesZ; rw [List.foldl_append]; rfl
theorem bytesZ_next (h : Int) (s : ByteArray) (k : Nat) (hk : k < s.size) :
    bytesZ h (s.data.toList.take (k + 1)) = IntKind.u64.wrap (stZ (bits .xor .u64 (bytesZ h (s.data.toList.take k)) (IntKind.u64.wrap (s[k].toNat : Int))) + 1) := by
  rw [take_snoc s k hk, bytesZ_snoc]; rfl
theorem bytesZ_all (h : Int) (s : ByteArray) (k : Nat) (h1 : k ≤ s.size) (h2 : ¬ k < s.size) : bytesZ h (s.data.toList.take k) = bytesZ h s.data.toList := by
  rw [List.take_of_length_le]
  have : s.data.toList.length = s.size := by simp
  omega
theorem getD_at (ss : List ByteArray) (k : Nat) (h : k < ss.length) : ss.getD k ByteArray.empty = ss[k] := by
  rw [List.getD_eq_getElem?_getD, List.getElem?_eq_getElem h]; rfl
theorem partsZ_next (ss : List ByteArray) (k : Nat) (h : k < ss.length) : partsZ (ss.take (k + 1)) = partZ (partsZ (ss.take k)) (ss.getD k ByteArray.empty) := by
  unfold partsZ
  rw [List.take_succ_eq_append_getElem h, List.foldl_append, getD_at ss k h]; rfl
theorem partsZ_all (ss : List ByteArray) (k : Nat) (h1 : k ≤ ss.length) (h2 : ¬ k < ss.length) : partsZ (ss.take k) = partsZ ss := by
  rw [List.take_of_length_le (by omega)]

theorem point_any (n i : Int) (w : World) :
    Calls Try.prog 33 #[.int .i64 n, .int .i64 i] w fun e w' => e = .returned (.int .u64 (stZ (IntKind.u64.wrap (wrap64 (wrap64 (n * 1000003) + i))))) ∧ w = w' := by
  go_enter Try.func33, Try.ntmps33
  go_wp2_with (go_at_call 38; refine (stir_any _ (wrap_nonneg _) (wrap_lt _) _).mono ?_; rintro e w' ⟨rfl, rfl⟩)
  go_ret
  exact ⟨rfl, rfl⟩
theorem rpoint_any (n i : Int) (w : World) :
    Calls Try.prog 23 #[.int .i64 n, .int .i64 i] w fun e w' => e = .returned (.int .u64 (stZ (IntKind.u64.wrap (wrap64 (wrap64 (n * 1000003) + i))))) ∧ w = w' := by
  go_enter Try.func23, Try.ntmps23
  go_wp2_with (go_at_call 32; refine (rstir_any _ (wrap_nonneg _) (wrap_lt _) _).mono ?_; rintro e w' ⟨rfl, rfl⟩)
  go_ret
  exact ⟨rfl, rfl⟩

theorem part_any (h : Int) (s : ByteArray) (hs : s.size ≤ maxLen) (w : World) :
    Calls Try.prog 37 #[.int .u64 h, .string s] w fun e w' => e = .returned (.int .u64 (partZ h s)) ∧ w = w' := by
  unfold maxLen at hs
  go_enter Try.func37, Try.ntmps37
  go_wp2
  go_loop [0, 5] (fun t i => ∃ k : Nat, k ≤ s.size ∧ i = .int .i64 k ∧ t = .int .u64 (bytesZ h (s.data.toList.take k))) (fun _ i => s.size - (intOf i).toNat)
  case atStart => exact ⟨0, Nat.zero_le _, rfl, rfl⟩
  case round =>
    obtain ⟨k, hk, rfl, rfl⟩ := hrel
    by_cases hlt : k < s.size
    · have H := Lib.hid (bytesZ_next h s k hlt)
      go_wp2_with (go_at_call 38; refine (stir_any _ (xor_nonneg _ _) (xor_lt _ _) _).mono ?_; rintro e w' ⟨rfl, rfl⟩)
      go_round
      case rel => exact ⟨k + 1, by omega, by go_num, by rw [H.out]⟩
      case measure => simp [intOf]; omega
    · go_wp2_with (go_at_call 38; refine (stir_any _ (xor_nonneg _ _) (xor_lt _ _) _).mono ?_; rintro e w' ⟨rfl, rfl⟩)
      go_ret
      exact ⟨ret_u64 (by unfold partZ endZ; rw [← bytesZ_all h s k hk hlt]), rfl⟩

/-- Of, of any list of texts that lies in a row of cells. -/
theorem of_any (ss : List ByteArray) (b o cap : Nat) (w : World) (hn : ss.length ≤ maxLen) (hs : ∀ s ∈ ss, s.size ≤ maxLen)
    (hc : ∀ i, i < ss.length → w.cell? ⟨b, o + i, none⟩ = some (.string (ss.getD i ByteArray.empty))) :
    Calls Try.prog 31 #[.slice (some ⟨b, o, none⟩) ss.length cap] w fun e w' => e = .returned (.int .u64 (partsZ ss)) ∧ w = w' := by
  unfold maxLen at hn
  go_enter Try.func31, Try.ntmps31
  go_wp2
  go_loop [3, 8] (fun t i => ∃ k : Nat, k ≤ ss.length ∧ i = .int .i64 k ∧ t = .int .u64 (partsZ (ss.take k))) (fun _ i => ss.length - (intOf i).toNat)
  case atStart => exact ⟨0, Nat.zero_le _, rfl, rfl⟩
  case round =>
    obtain ⟨k, hk, rfl, rfl⟩ := hrel
    by_cases hlt : k < ss.length
    · have H := Lib.hid (partsZ_next ss k hlt)
      have hcell := hc k hlt
      have hsz : (ss.getD k ByteArray.empty).size ≤ maxLen := by
        rw [getD_at ss k hlt]; exact hs _ (List.getElem_mem hlt)
      clear hc
      generalize ss.getD k ByteArray.empty = s at hcell hsz H
      go_wp2_with (go_at_call 37; refine (part_any _ _ hsz _).mono ?_; rintro e w' ⟨rfl, rfl⟩)
      go_round
      case rel => exact ⟨k + 1, by omega, by go_num, by rw [H.out]⟩
      case measure => simp [intOf]; omega
    · go_wp2
      go_ret
      exact ⟨ret_u64 (partsZ_all ss k hk hlt), rfl⟩
theorem of_nil (w : World) :
    Calls Try.prog 31 #[.slice none 0 0] w fun e w' => e = .returned (.int .u64 (partsZ [])) ∧ w = w' := by
  go_enter Try.func31, Try.ntmps31
  go_wp2
  go_loop [3, 8] (fun t i => i = .int .i64 0 ∧ t = .int .u64 11400714819323198485) (fun _ _ => 0)
  case atStart => exact ⟨rfl, rfl⟩
  case round =>
    obtain ⟨rfl, rfl⟩ := hrel
    go_wp2
    go_ret
    exact ⟨rfl, rfl⟩

/-- The reference's Of, of any list of texts that lies in a row of cells. -/
theorem rof_any (ss : List ByteArray) (b o cap : Nat) (w : World) (hn : ss.length ≤ maxLen) (hs : ∀ s ∈ ss, s.size ≤ maxLen)
    (hc : ∀ i, i < ss.length → w.cell? ⟨b, o + i, none⟩ = some (.string (ss.getD i ByteArray.empty))) :
    Calls Try.prog 22 #[.slice (some ⟨b, o, none⟩) ss.length cap] w fun e w' => e = .returned (.int .u64 (partsZ ss)) ∧ w = w' := by
  unfold maxLen at hn
  go_enter Try.func22, Try.ntmps22
  go_wp2
  go_loop [3, 4] (fun t i => ∃ k : Nat, k ≤ ss.length ∧ i = .int .i64 k ∧ t = .int .u64 (partsZ (ss.take k))) (fun _ i => ss.length - (intOf i).toNat)
  case atStart => exact ⟨0, Nat.zero_le _, rfl, rfl⟩
  case round =>
    obtain ⟨k, hk, rfl, rfl⟩ := hrel
    by_cases hlt : k < ss.length
    · have H := Lib.hid (partsZ_next ss k hlt)
      have hcell := hc k hlt
      have hsz : (ss.getD k ByteArray.empty).size ≤ maxLen := by
        rw [getD_at ss k hlt]; exact hs _ (List.getElem_mem hlt)
      clear hc
      unfold maxLen at hsz
      generalize ss.getD k ByteArray.empty = s at hcell hsz H
      generalize partsZ (ss.take k) = h at H
      go_wp2
      go_loop [3, 5] (fun t i => ∃ j : Nat, j ≤ s.size ∧ i = .int .i64 j ∧ t = .int .u64 (bytesZ h (s.data.toList.take j))) (fun _ i => s.size - (intOf i).toNat)
      case atStart => exact ⟨0, Nat.zero_le _, rfl, rfl⟩
      case round =>
        obtain ⟨j, hj, rfl, rfl⟩ := hrel
        by_cases hlj : j < s.size
        · have J := Lib.hid (bytesZ_next h s j hlj)
          go_wp2_with (go_at_call 32; refine (rstir_any _ (xor_nonneg _ _) (xor_lt _ _) _).mono ?_; rintro e w' ⟨rfl, rfl⟩)
          go_round
          case rel => exact ⟨j + 1, by omega, by go_num, by rw [J.out]⟩
          case measure => simp [intOf]; omega
        · have J := Lib.hid (bytesZ_all h s j hj hlj)
          go_wp2_with (go_at_call 32; refine (rstir_any _ (xor_nonneg _ _) (xor_lt _ _) _).mono ?_; rintro e w' ⟨rfl, rfl⟩)
          go_round
          case rel => exact ⟨k + 1, by omega, by go_num, by rw [H.out]; unfold partZ endZ; rw [← J.out]⟩
          case measure => simp [intOf]; omega
    · go_wp2
      go_ret
      exact ⟨ret_u64 (partsZ_all ss k hk hlt), rfl⟩
theorem rof_nil (w : World) :
    Calls Try.prog 22 #[.slice none 0 0] w fun e w' => e = .returned (.int .u64 (partsZ [])) ∧ w = w' := by
  go_enter Try.func22, Try.ntmps22
  go_wp2
  go_loop [3, 4] (fun t i => i = .int .i64 0 ∧ t = .int .u64 11400714819323198485) (fun _ _ => 0)
  case atStart => exact ⟨rfl, rfl⟩
  case round =>
    obtain ⟨rfl, rfl⟩ := hrel
    go_wp2
    go_ret
    exact ⟨rfl, rfl⟩

end Go.Proofs.Ytonalhjhokkcmaa
