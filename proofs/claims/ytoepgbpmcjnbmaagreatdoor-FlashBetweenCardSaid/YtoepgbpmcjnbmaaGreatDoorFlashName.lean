/-
  'name' OF LAYER 9: a key by a number; a cache into which such keys were put one by one.
-/
import Derived.Test.YtoepgbpmcjnbmaaGreatDoorFlashBegun
namespace Go.Proofs.YtoepgbpmcjnbmaaGreatDoor
open Go Go.RowKit Go.Joins
def fnameL (i : Nat) : List UInt8 := [107, UInt8.ofNat (97 + i % 26), UInt8.ofNat (97 + i / 26)]
def fname (i : Nat) : ByteArray := txt (fnameL i)
theorem fname_size (i : Nat) : (fname i).size = 3 := by unfold fname; rw [txt_size]; rfl
theorem fnameL_inj {i j : Nat} (hi : i ≤ 1000) (hj : j ≤ 1000) (h : fnameL i = fnameL j) : i = j := by
  unfold fnameL at h
  injection h with _ h
  injection h with h2 h
  injection h with h3 _
  have e2 := congrArg UInt8.toNat h2
  have e3 := congrArg UInt8.toNat h3
  simp only [UInt8.toNat_ofNat'] at e2 e3
  have m1 := Nat.mod_lt i (show 26 > 0 by decide)
  have m2 := Nat.mod_lt j (show 26 > 0 by decide)
  rw [Nat.mod_eq_of_lt (show 97 + i % 26 < 2 ^ 8 by omega), Nat.mod_eq_of_lt (show 97 + j % 26 < 2 ^ 8 by omega)] at e2
  rw [Nat.mod_eq_of_lt (show 97 + i / 26 < 2 ^ 8 by omega), Nat.mod_eq_of_lt (show 97 + j / 26 < 2 ^ 8 by omega)] at e3
  omega
theorem fname_inj {i j : Nat} (hi : i ≤ 1000) (hj : j ≤ 1000) (h : fname i = fname j) : i = j :=
  fnameL_inj hi hj (by have := congrArg (fun b : ByteArray => b.data.toList) h; simpa [fname, txt_list] using this)
theorem fnameV_is (i : Nat) (hi : i ≤ 1000) : [Value.int .u8 107, .int .u8 (97 + (i : Int) % 26), .int .u8 (97 + (i : Int) / 26)] = bcells (fnameL i) := by
  have m1 := Nat.mod_lt i (show 26 > 0 by decide)
  have e : ∀ n : Nat, n < 256 → ((UInt8.ofNat n).toNat : Int) = (n : Int) := fun n h => by rw [UInt8.toNat_ofNat', Nat.mod_eq_of_lt h]
  unfold fnameL bcells
  simp only [List.map, bcell]
  rw [e _ (by omega), e _ (by omega)]
  simp
set_option maxRecDepth 100000 in
set_option maxHeartbeats 1000000 in
theorem fname_any (w : World) (i : Nat) (hi : i ≤ 1000) (z : Int) (hz : z = (i : Int)) :
    Calls Tryz.prog 29 #[.int .i64 z] w fun e w' => e = .returned (.string (fname i)) ∧ Keeps (fun _ => True) w w' := by
  subst hz
  have kc : ∀ fr : Nat × Nat, (convert 78 9 (.slice (some ⟨w.heap.size, 0, none⟩) 3 3)).run Tryz.prog (w.alloc (.cells #[Value.int .u8 107, .int .u8 (97 + (i : Int) % 26), .int .u8 (97 + (i : Int) / 26)] 5 fr)) = .ok (.string (fname i)) (w.alloc (.cells #[Value.int .u8 107, .int .u8 (97 + (i : Int) % 26), .int .u8 (97 + (i : Int) / 26)] 5 fr)) := fun fr =>
    (Row.fresh (F := fun _ => True) w _ 5 fr _ rfl trivial (bcells (fnameL i)) (fnameV_is i hi)).to_string Tryz.underlying78 Tryz.underlying5 Tryz.underlying9 3 3 rfl
  go_enter Tryz.func29, Tryz.ntmps29
  go_wp2_with fail
  go_ret
  exact ⟨rfl, (Keeps.refl _ _).alloc _⟩
def numbered (v : Nat → ByteArray) (n : Nat) : List FEnt := (List.range n).map fun i => fput ⟨fname i, v i, 0, false⟩
theorem numbered_len (v : Nat → ByteArray) (n : Nat) : (numbered v n).length = n := by simp [numbered]
theorem numbered_succ (v : Nat → ByteArray) (n : Nat) : numbered v (n + 1) = numbered v n ++ [fput ⟨fname n, v n, 0, false⟩] := by
  unfold numbered; rw [List.range_succ, List.map_append]; rfl
theorem num_may (v : Nat → ByteArray) (hv : ∀ i, (v i).size ≤ 200) (i : Nat) : (⟨fname i, v i, 0, false⟩ : It).may = true := by
  have := hv i
  simp [It.may, fname_size, this]
theorem numbered_last (v : Nat → ByteArray) (n g i : Nat) (hn : n ≤ 1000) (hi : i < n) : fLast (numbered v n) g (fname i) = if g ≤ i then some ⟨fname i, v i, 0, false⟩ else none := by
  induction n with
  | zero => omega
  | succ n ih =>
    unfold fLast
    by_cases hg : g ≤ n
    · rw [numbered_succ, List.drop_append_of_le_length (by rw [numbered_len]; exact hg), List.reverse_append]
      by_cases h : i = n
      · subst h
        rw [if_pos hg]
        have hk : isKF (fname i) ⟨⟨fname i, v i, 0, false⟩, 0⟩ = true := isKF_iff.2 rfl
        simp [fput, hk]
      · have h2 : isKF (fname i) (fput ⟨fname n, v n, 0, false⟩) = false := by
          cases h3 : isKF (fname i) (fput ⟨fname n, v n, 0, false⟩) with
          | false => rfl
          | true => exact absurd (fname_inj (by omega) (by omega) (isKF_iff.1 h3)).symm h
        have := ih (by omega) (by omega)
        unfold fLast at this
        simp [h2]
        simpa using this
    · rw [List.drop_eq_nil_of_le (by rw [numbered_len]; omega), if_neg (by omega)]
      rfl
theorem numbered_none (v : Nat → ByteArray) (n g : Nat) (k : ByteArray) (hk : ∀ i, i < n → fname i ≠ k) : fLast (numbered v n) g k = none := by
  unfold fLast
  rw [Option.map_eq_none_iff, List.find?_eq_none]
  intro e he h
  have h1 := List.mem_of_mem_drop (List.mem_reverse.1 he)
  obtain ⟨i, hi, rfl⟩ := List.mem_map.1 h1
  exact hk i (List.mem_range.1 hi) (isKF_iff.1 h)
theorem numbered_cost (v : Nat → ByteArray) (s : Nat) (hv : ∀ i, (v i).size = s) (n g : Nat) (hg : g ≤ n) : fcosts ((numbered v n).drop g) = (n - g) * (83 + s) := by
  induction n with
  | zero => simp [numbered, fcosts]
  | succ n ih =>
    by_cases h : g ≤ n
    · rw [numbered_succ, List.drop_append_of_le_length (by rw [numbered_len]; exact h), fcosts_append, ih h]
      have : fcosts [fput ⟨fname n, v n, 0, false⟩] = 83 + s := by
        simp [fcosts, FEnt.cost, fput, fname_size, hv n]
        omega
      rw [this, show n + 1 - g = (n - g) + 1 by omega, Nat.add_mul]
      omega
    · rw [List.drop_eq_nil_of_le (by rw [numbered_len]; omega), show n + 1 - g = 0 by omega]
      simp [fcosts]
end Go.Proofs.YtoepgbpmcjnbmaaGreatDoor
