/- Texts of one proof, behind one another: each says above its part what it proves and on which conditions. -/
import Derived.Test.YtoepgbpmcjnbmaaGreatDoorRows
import Derived.WalkKit
import Derived.Laws.Bits64
import Derived.Lib.Hide
/-
  THE PLAIN MATHEMATICS OF LAYER 1 (mix): 'stN', what Stir answers, on natural numbers below 2^64; that it stays below 2^64; that no two numbers below 2^64 have one. It imports nothing of the program.
-/
section
namespace Go.Proofs.YtoepgbpmcjnbmaaGreatDoor
def foN (k x : Nat) : Nat := x ^^^ x / 2 ^ k
def stN (x : Nat) : Nat :=
  foN 31 (foN 27 (foN 30 x * 13787848793156543929 % 18446744073709551616) * 10723151780598845931 % 18446744073709551616)
theorem foN_lt (k x : Nat) (h : x < 18446744073709551616) : foN k x < 18446744073709551616 :=
  Nat.xor_lt_two_pow (n := 64) h (Nat.lt_of_le_of_lt (Nat.div_le_self _ _) h)
theorem stN_lt (x : Nat) : stN x < 18446744073709551616 := foN_lt 31 _ (Nat.mod_lt _ (by decide))
theorem foN_bit (k x i : Nat) : (foN k x).testBit i = (x.testBit i ^^ x.testBit (i + k)) := by
  unfold foN
  rw [Nat.testBit_xor, Nat.testBit_div_two_pow]
theorem foN_inj (k x y : Nat) (hk : 0 < k) (hx : x < 18446744073709551616) (hy : y < 18446744073709551616) (h : foN k x = foN k y) : x = y := by
  have top : ∀ z : Nat, z < 18446744073709551616 → ∀ i, 64 ≤ i → z.testBit i = false := fun z hz i hi =>
    Nat.testBit_lt_two_pow (Nat.lt_of_lt_of_le (show z < 2 ^ 64 from hz) (Nat.pow_le_pow_right (by decide) hi))
  have down : ∀ n i, 64 ≤ i + n → x.testBit i = y.testBit i := by
    intro n
    induction n with
    | zero => intro i hi; rw [top x hx i (by omega), top y hy i (by omega)]
    | succ n ih =>
      intro i hi
      have e : (foN k x).testBit i = (foN k y).testBit i := by rw [h]
      rw [foN_bit, foN_bit, ih (i + k) (by omega)] at e
      cases hA : x.testBit i <;> cases hB : y.testBit i <;> cases hC : y.testBit (i + k) <;> simp_all
  exact Nat.eq_of_testBit_eq fun i => down 64 i (by omega)
theorem mul_inj (c d x y : Nat) (hcd : c * d % 18446744073709551616 = 1) (hx : x < 18446744073709551616) (hy : y < 18446744073709551616)
    (h : x * c % 18446744073709551616 = y * c % 18446744073709551616) : x = y := by
  have back : ∀ z : Nat, z < 18446744073709551616 → (z * c % 18446744073709551616) * d % 18446744073709551616 = z := by
    intro z hz
    rw [Nat.mul_mod, Nat.mod_mod, ← Nat.mul_mod, Nat.mul_assoc, Nat.mul_mod, hcd, Nat.mul_one, Nat.mod_mod]
    exact Nat.mod_eq_of_lt hz
  rw [← back x hx, ← back y hy, h]
theorem stN_inj (x y : Nat) (hx : x < 18446744073709551616) (hy : y < 18446744073709551616) (h : stN x = stN y) : x = y := by
  unfold stN at h
  have h1 := foN_inj 31 _ _ (by decide) (Nat.mod_lt _ (by decide)) (Nat.mod_lt _ (by decide)) h
  have h2 := mul_inj 10723151780598845931 3573116690164977347 _ _ (by decide) (foN_lt _ _ (Nat.mod_lt _ (by decide))) (foN_lt _ _ (Nat.mod_lt _ (by decide))) h1
  have h3 := foN_inj 27 _ _ (by decide) (Nat.mod_lt _ (by decide)) (Nat.mod_lt _ (by decide)) h2
  have h4 := mul_inj 13787848793156543929 10871156337175269513 _ _ (by decide) (foN_lt _ _ hx) (foN_lt _ _ hy) h3
  exact foN_inj 30 _ _ (by decide) hx hy h4
end Go.Proofs.YtoepgbpmcjnbmaaGreatDoor
end
/-
  THE CONTRACTS OF LAYER 1 (mix) AND OF ITS REFERENCE: Stir, for every number below 2^64.
-/
section
namespace Go.Proofs.YtoepgbpmcjnbmaaGreatDoor
open Go.RowKit
theorem fo_shift (k n : Nat) (h : n < 18446744073709551616) : bits .xor .u64 (n : Int) ((n : Int) / ((2 ^ k : Nat) : Int)) = ((foN k n : Nat) : Int) :=
  xorShift_u64 n (2 ^ k) h
theorem fo_step (k n C : Nat) (h : n < 18446744073709551616) :
    IntKind.u64.wrap (bits .xor .u64 (n : Int) ((n : Int) / ((2 ^ k : Nat) : Int)) * (C : Int)) = ((foN k n * C % 18446744073709551616 : Nat) : Int) :=
  mixStep_u64 n (2 ^ k) C h
theorem quo_wrap (n s : Nat) (h : n < 18446744073709551616) : IntKind.u64.wrap ((n : Int).tdiv (s : Int)) = (n : Int) / (s : Int) := by
  have h1 : (n : Int).tdiv (s : Int) = ((n / s : Nat) : Int) := rfl
  have h2 : (n : Int) / (s : Int) = ((n / s : Nat) : Int) := rfl
  rw [h1, h2, IntKind.wrap_u64]
  have hq := Nat.lt_of_le_of_lt (Nat.div_le_self n s) h
  generalize n / s = q at hq
  omega
theorem st_shift (x : Nat) (h : x < 18446744073709551616) (A B : Int)
    (hA : A = IntKind.u64.wrap (bits .xor .u64 (x : Int) ((x : Int) / 1073741824) * 13787848793156543929))
    (hB : B = IntKind.u64.wrap (bits .xor .u64 A (A / 134217728) * 10723151780598845931)) :
    bits .xor .u64 B (B / 2147483648) = ((stN x : Nat) : Int) := by
  have e1 : A = ((foN 30 x * 13787848793156543929 % 18446744073709551616 : Nat) : Int) := hA.trans (fo_step 30 x 13787848793156543929 h)
  have e2 : B = ((foN 27 (foN 30 x * 13787848793156543929 % 18446744073709551616) * 10723151780598845931 % 18446744073709551616 : Nat) : Int) := by
    rw [hB, e1]; exact fo_step 27 _ 10723151780598845931 (Nat.mod_lt _ (by decide))
  rw [e2]
  exact fo_shift 31 _ (Nat.mod_lt _ (by decide))
theorem wrap_nat (z : Int) : ∃ n : Nat, n < 18446744073709551616 ∧ IntKind.u64.wrap z = (n : Int) := by
  refine ⟨(z % 18446744073709551616).toNat, ?_, ?_⟩
  · omega
  · rw [IntKind.wrap_u64]; omega
theorem st_quo (x : Nat) (h : x < 18446744073709551616) (A B : Int)
    (hA : A = IntKind.u64.wrap (bits .xor .u64 (x : Int) ((x : Int) / 1073741824) * 13787848793156543929))
    (hB : B = IntKind.u64.wrap (bits .xor .u64 A (IntKind.u64.wrap (A.tdiv 134217728)) * 10723151780598845931)) :
    bits .xor .u64 B (IntKind.u64.wrap (B.tdiv 2147483648)) = ((stN x : Nat) : Int) := by
  obtain ⟨a, la, ea⟩ := wrap_nat (bits .xor .u64 (x : Int) ((x : Int) / 1073741824) * 13787848793156543929)
  rw [ea] at hA
  have qa : IntKind.u64.wrap (A.tdiv 134217728) = A / 134217728 := by rw [hA]; exact quo_wrap a 134217728 la
  rw [qa] at hB
  obtain ⟨b, lb, eb⟩ := wrap_nat (bits .xor .u64 A (A / 134217728) * 10723151780598845931)
  have qb : IntKind.u64.wrap (B.tdiv 2147483648) = B / 2147483648 := by rw [hB, eb]; exact quo_wrap b 2147483648 lb
  rw [qb]
  exact st_shift x h A B (by rw [hA, ea]) hB
theorem ret_u64 {a b : Int} (h : a = b) : Ending.returned (.int .u64 a) = .returned (.int .u64 b) := by rw [h]
theorem stir_nat (x : Nat) (hx : x < 18446744073709551616) (w : World) :
    Calls Tryz.prog 98 #[.int .u64 (x : Int)] w fun e w' => e = .returned (.int .u64 ((stN x : Nat) : Int)) ∧ w = w' := by
  go_enter Tryz.func98, Tryz.ntmps98
  go_wp2
  go_ret
  exact ⟨ret_u64 (st_shift x hx _ _ rfl rfl), rfl⟩
theorem rstir_nat (x : Nat) (hx : x < 18446744073709551616) (w : World) :
    Calls Tryz.prog 50 #[.int .u64 (x : Int)] w fun e w' => e = .returned (.int .u64 ((stN x : Nat) : Int)) ∧ w = w' := by
  go_enter Tryz.func50, Tryz.ntmps50
  go_wp2
  go_ret
  exact ⟨ret_u64 (st_quo x hx _ _ rfl rfl), rfl⟩
/-! ### The same over integers: how a caller's operands stand. -/
def stZ (x : Int) : Int := ((stN x.toNat : Nat) : Int)
theorem stZ_nonneg (x : Int) : 0 ≤ stZ x := Int.natCast_nonneg _
theorem stZ_lt (x : Int) : stZ x < 18446744073709551616 := by have := stN_lt x.toNat; unfold stZ; omega
theorem stZ_inj (x y : Int) (hx : 0 ≤ x) (lx : x < 18446744073709551616) (hy : 0 ≤ y) (ly : y < 18446744073709551616) (h : stZ x = stZ y) : x = y := by
  have := stN_inj x.toNat y.toNat (by omega) (by omega) (by unfold stZ at h; omega)
  omega
theorem stir_any (x : Int) (hx : 0 ≤ x) (lx : x < 18446744073709551616) (w : World) :
    Calls Tryz.prog 98 #[.int .u64 x] w fun e w' => e = .returned (.int .u64 (stZ x)) ∧ w = w' := by
  have h := stir_nat x.toNat (by omega) w
  rw [Int.toNat_of_nonneg hx] at h
  exact h
theorem rstir_any (x : Int) (hx : 0 ≤ x) (lx : x < 18446744073709551616) (w : World) :
    Calls Tryz.prog 50 #[.int .u64 x] w fun e w' => e = .returned (.int .u64 (stZ x)) ∧ w = w' := by
  have h := rstir_nat x.toNat (by omega) w
  rw [Int.toNat_of_nonneg hx] at h
  exact h
theorem xor_nonneg (a b : Int) : 0 ≤ bits .xor .u64 a b := by
  show 0 ≤ IntKind.u64.wrap _
  rw [IntKind.wrap_u64]; omega
theorem xor_lt (a b : Int) : bits .xor .u64 a b < 18446744073709551616 := by
  show IntKind.u64.wrap _ < _
  rw [IntKind.wrap_u64]; omega
theorem wrap_nonneg (a : Int) : 0 ≤ IntKind.u64.wrap a := by rw [IntKind.wrap_u64]; omega
theorem wrap_lt (a : Int) : IntKind.u64.wrap a < 18446744073709551616 := by rw [IntKind.wrap_u64]; omega
end Go.Proofs.YtoepgbpmcjnbmaaGreatDoor
end
/-
  THE CONTRACTS OF LAYER 1 (mix) AND OF ITS REFERENCE: addPart, Of, Point.
-/
section
namespace Go.Proofs.YtoepgbpmcjnbmaaGreatDoor
open Go.RowKit
def stepZ (h c : Int) : Int := IntKind.u64.wrap (stZ (bits .xor .u64 h (IntKind.u64.wrap c)) + 1)
def bytesZ (h : Int) (l : List UInt8) : Int := l.foldl (fun h c => stepZ h (c.toNat : Int)) h
def endZ (h : Int) (n : Nat) : Int := stZ (bits .xor .u64 h (256 + (n : Int)))
def partZ (h : Int) (s : ByteArray) : Int := endZ (bytesZ h s.data.toList) s.size
def partsZ (ss : List ByteArray) : Int := ss.foldl partZ 11400714819323198485
theorem take_snoc (s : ByteArray) (k : Nat) (h : k < s.size) : s.data.toList.take (k + 1) = s.data.toList.take k ++ [s[k]] := by
  rw [List.take_succ_eq_append_getElem (by simpa using h)]; rfl
theorem bytesZ_snoc (h : Int) (l : List UInt8) (c : UInt8) : bytesZ h (l ++ [c]) = stepZ (bytesZ h l) (c.toNat : Int) := by
  unfold bytesZ; rw [List.foldl_append]; rfl
theorem bytesZ_next (h : Int) (s : ByteArray) (k : Nat) (hk : k < s.size) :
    bytesZ h (s.data.toList.take (k + 1)) = IntKind.u64.wrap (stZ (bits .xor .u64 (bytesZ h (s.data.toList.take k)) (IntKind.u64.wrap (s[k].toNat : Int))) + 1) := by
  rw [take_snoc s k hk, bytesZ_snoc]; rfl
theorem bytesZ_all (h : Int) (s : ByteArray) (k : Nat) (h1 : k ≤ s.size) (h2 : ¬ k < s.size) : bytesZ h (s.data.toList.take k) = bytesZ h s.data.toList := by
  rw [List.take_of_length_le]
  have : s.data.toList.length = s.size := by simp
  omega
theorem getD_at (ss : List ByteArray) (k : Nat) (h : k < ss.length) : ss.getD k ByteArray.empty = ss[k] := by
  rw [List.getD_eq_getElem?_getD, List.getElem?_eq_getElem h]; rfl
theorem partsZ_next (ss : List ByteArray) (k : Nat) (h : k < ss.length) : partsZ (ss.take (k + 1)) = partZ (partsZ (ss.take k)) (ss.getD k ByteArray.empty) := by
  unfold partsZ
  rw [List.take_succ_eq_append_getElem h, List.foldl_append, getD_at ss k h]; rfl
theorem partsZ_all (ss : List ByteArray) (k : Nat) (h1 : k ≤ ss.length) (h2 : ¬ k < ss.length) : partsZ (ss.take k) = partsZ ss := by
  rw [List.take_of_length_le (by omega)]
theorem part_any (h : Int) (s : ByteArray) (hs : s.size ≤ maxLen) (w : World) :
    Calls Tryz.prog 72 #[.int .u64 h, .string s] w fun e w' => e = .returned (.int .u64 (partZ h s)) ∧ w = w' := by
  unfold maxLen at hs
  go_enter Tryz.func72, Tryz.ntmps72
  go_wp2
  go_loop [0, 5] (fun t i => ∃ k : Nat, k ≤ s.size ∧ i = .int .i64 k ∧ t = .int .u64 (bytesZ h (s.data.toList.take k))) (fun _ i => s.size - (intOf i).toNat)
  case atStart => exact ⟨0, Nat.zero_le _, rfl, rfl⟩
  case round =>
    obtain ⟨k, hk, rfl, rfl⟩ := hrel
    by_cases hlt : k < s.size
    · have H := Lib.hid (bytesZ_next h s k hlt)
      go_wp2_with (go_at_call 98; refine (stir_any _ (xor_nonneg _ _) (xor_lt _ _) _).mono ?_; rintro e w' ⟨rfl, rfl⟩)
      go_round
      case rel => exact ⟨k + 1, by omega, by go_num, by rw [H.out]⟩
      case measure => simp [intOf]; omega
    · go_wp2_with (go_at_call 98; refine (stir_any _ (xor_nonneg _ _) (xor_lt _ _) _).mono ?_; rintro e w' ⟨rfl, rfl⟩)
      go_ret
      exact ⟨ret_u64 (by unfold partZ endZ; rw [← bytesZ_all h s k hk hlt]), rfl⟩
theorem of_any (ss : List ByteArray) (b o cap : Nat) (w : World) (hn : ss.length ≤ maxLen) (hs : ∀ s ∈ ss, s.size ≤ maxLen)
    (hc : ∀ i, i < ss.length → w.cell? ⟨b, o + i, none⟩ = some (.string (ss.getD i ByteArray.empty))) :
    Calls Tryz.prog 52 #[.slice (some ⟨b, o, none⟩) ss.length cap] w fun e w' => e = .returned (.int .u64 (partsZ ss)) ∧ w = w' := by
  unfold maxLen at hn
  go_enter Tryz.func52, Tryz.ntmps52
  go_wp2
  go_loop [3, 8] (fun t i => ∃ k : Nat, k ≤ ss.length ∧ i = .int .i64 k ∧ t = .int .u64 (partsZ (ss.take k))) (fun _ i => ss.length - (intOf i).toNat)
  case atStart => exact ⟨0, Nat.zero_le _, rfl, rfl⟩
  case round =>
    obtain ⟨k, hk, rfl, rfl⟩ := hrel
    by_cases hlt : k < ss.length
    · have H := Lib.hid (partsZ_next ss k hlt)
      have hcell := hc k hlt
      have hsz : (ss.getD k ByteArray.empty).size ≤ maxLen := by
        rw [getD_at ss k hlt]; exact hs _ (List.getElem_mem hlt)
      clear hc
      generalize ss.getD k ByteArray.empty = s at hcell hsz H
      go_wp2_with (go_at_call 72; refine (part_any _ _ hsz _).mono ?_; rintro e w' ⟨rfl, rfl⟩)
      go_round
      case rel => exact ⟨k + 1, by omega, by go_num, by rw [H.out]⟩
      case measure => simp [intOf]; omega
    · go_wp2
      go_ret
      exact ⟨ret_u64 (partsZ_all ss k hk hlt), rfl⟩
theorem of_nil (w : World) :
    Calls Tryz.prog 52 #[.slice none 0 0] w fun e w' => e = .returned (.int .u64 (partsZ [])) ∧ w = w' := by
  go_enter Tryz.func52, Tryz.ntmps52
  go_wp2
  go_loop [3, 8] (fun t i => i = .int .i64 0 ∧ t = .int .u64 11400714819323198485) (fun _ _ => 0)
  case atStart => exact ⟨rfl, rfl⟩
  case round =>
    obtain ⟨rfl, rfl⟩ := hrel
    go_wp2
    go_ret
    exact ⟨rfl, rfl⟩
theorem rof_any (ss : List ByteArray) (b o cap : Nat) (w : World) (hn : ss.length ≤ maxLen) (hs : ∀ s ∈ ss, s.size ≤ maxLen)
    (hc : ∀ i, i < ss.length → w.cell? ⟨b, o + i, none⟩ = some (.string (ss.getD i ByteArray.empty))) :
    Calls Tryz.prog 24 #[.slice (some ⟨b, o, none⟩) ss.length cap] w fun e w' => e = .returned (.int .u64 (partsZ ss)) ∧ w = w' := by
  unfold maxLen at hn
  go_enter Tryz.func24, Tryz.ntmps24
  go_wp2
  go_loop [3, 4] (fun t i => ∃ k : Nat, k ≤ ss.length ∧ i = .int .i64 k ∧ t = .int .u64 (partsZ (ss.take k))) (fun _ i => ss.length - (intOf i).toNat)
  case atStart => exact ⟨0, Nat.zero_le _, rfl, rfl⟩
  case round =>
    obtain ⟨k, hk, rfl, rfl⟩ := hrel
    by_cases hlt : k < ss.length
    · have H := Lib.hid (partsZ_next ss k hlt)
      have hcell := hc k hlt
      have hsz : (ss.getD k ByteArray.empty).size ≤ maxLen := by
        rw [getD_at ss k hlt]; exact hs _ (List.getElem_mem hlt)
      clear hc
      unfold maxLen at hsz
      generalize ss.getD k ByteArray.empty = s at hcell hsz H
      generalize partsZ (ss.take k) = h at H
      go_wp2
      go_loop [3, 5] (fun t i => ∃ j : Nat, j ≤ s.size ∧ i = .int .i64 j ∧ t = .int .u64 (bytesZ h (s.data.toList.take j))) (fun _ i => s.size - (intOf i).toNat)
      case atStart => exact ⟨0, Nat.zero_le _, rfl, rfl⟩
      case round =>
        obtain ⟨j, hj, rfl, rfl⟩ := hrel
        by_cases hlj : j < s.size
        · have J := Lib.hid (bytesZ_next h s j hlj)
          go_wp2_with (go_at_call 50; refine (rstir_any _ (xor_nonneg _ _) (xor_lt _ _) _).mono ?_; rintro e w' ⟨rfl, rfl⟩)
          go_round
          case rel => exact ⟨j + 1, by omega, by go_num, by rw [J.out]⟩
          case measure => simp [intOf]; omega
        · have J := Lib.hid (bytesZ_all h s j hj hlj)
          go_wp2_with (go_at_call 50; refine (rstir_any _ (xor_nonneg _ _) (xor_lt _ _) _).mono ?_; rintro e w' ⟨rfl, rfl⟩)
          go_round
          case rel => exact ⟨k + 1, by omega, by go_num, by rw [H.out]; unfold partZ endZ; rw [← J.out]⟩
          case measure => simp [intOf]; omega
    · go_wp2
      go_ret
      exact ⟨ret_u64 (partsZ_all ss k hk hlt), rfl⟩
theorem rof_nil (w : World) :
    Calls Tryz.prog 24 #[.slice none 0 0] w fun e w' => e = .returned (.int .u64 (partsZ [])) ∧ w = w' := by
  go_enter Tryz.func24, Tryz.ntmps24
  go_wp2
  go_loop [3, 4] (fun t i => i = .int .i64 0 ∧ t = .int .u64 11400714819323198485) (fun _ _ => 0)
  case atStart => exact ⟨rfl, rfl⟩
  case round =>
    obtain ⟨rfl, rfl⟩ := hrel
    go_wp2
    go_ret
    exact ⟨rfl, rfl⟩
end Go.Proofs.YtoepgbpmcjnbmaaGreatDoor
end
