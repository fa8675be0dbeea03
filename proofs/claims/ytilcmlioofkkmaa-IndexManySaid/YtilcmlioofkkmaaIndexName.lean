/-
  'name' OF LAYER 8: a key by a number; and an index whose keys are such names.
-/
import Derived.Test.YtilcmlioofkkmaaIndexBegun
namespace Go.Proofs.Ytilcmlioofkkmaa
open Go Go.RowKit

def nameL (i : Nat) : List UInt8 := [UInt8.ofNat (97 + i % 26), UInt8.ofNat (97 + i / 26 % 26), UInt8.ofNat (97 + i / 676)]
def nameZ (i : Nat) : ByteArray := txt (nameL i)
theorem nameZ_size (i : Nat) : (nameZ i).size ≤ 4096 := by unfold nameZ; rw [txt_size]; show 3 ≤ 4096; decide
theorem nameL_inj {i j : Nat} (hi : i ≤ 17575) (hj : j ≤ 17575) (h : nameL i = nameL j) : i = j := by
  unfold nameL at h
  injection h with h1 h
  injection h with h2 h
  injection h with h3 _
  have e1 := congrArg UInt8.toNat h1
  have e2 := congrArg UInt8.toNat h2
  have e3 := congrArg UInt8.toNat h3
  simp only [UInt8.toNat_ofNat'] at e1 e2 e3
  have m1 := Nat.mod_lt i (show 26 > 0 by decide)
  have m2 := Nat.mod_lt j (show 26 > 0 by decide)
  have m3 := Nat.mod_lt (i / 26) (show 26 > 0 by decide)
  have m4 := Nat.mod_lt (j / 26) (show 26 > 0 by decide)
  have q1 : i / 676 = i / 26 / 26 := by rw [Nat.div_div_eq_div_mul]
  have q2 : j / 676 = j / 26 / 26 := by rw [Nat.div_div_eq_div_mul]
  rw [Nat.mod_eq_of_lt (show 97 + i % 26 < 2 ^ 8 by omega), Nat.mod_eq_of_lt (show 97 + j % 26 < 2 ^ 8 by omega)] at e1
  rw [Nat.mod_eq_of_lt (show 97 + i / 26 % 26 < 2 ^ 8 by omega), Nat.mod_eq_of_lt (show 97 + j / 26 % 26 < 2 ^ 8 by omega)] at e2
  rw [Nat.mod_eq_of_lt (show 97 + i / 676 < 2 ^ 8 by omega), Nat.mod_eq_of_lt (show 97 + j / 676 < 2 ^ 8 by omega)] at e3
  omega
theorem nameV_is (i : Nat) (hi : i ≤ 17575) : [Value.int .u8 (97 + (i : Int) % 26), .int .u8 (97 + (i : Int) / 26 % 26), .int .u8 (97 + (i : Int) / 676)] = bcells (nameL i) := by
  have m1 := Nat.mod_lt i (show 26 > 0 by decide)
  have m3 := Nat.mod_lt (i / 26) (show 26 > 0 by decide)
  have e : ∀ n : Nat, n < 256 → ((UInt8.ofNat n).toNat : Int) = (n : Int) := fun n h => by rw [UInt8.toNat_ofNat', Nat.mod_eq_of_lt h]
  unfold nameL bcells
  simp only [List.map, bcell]
  rw [e _ (by omega), e _ (by omega), e _ (by omega)]
  simp
theorem isK_name {i j : Nat} (hi : i ≤ 17575) (hj : j ≤ 17575) (p : Int) : isK (nameZ j) (nameZ i, p) = decide (i = j) := by
  unfold isK nameZ
  show ((nameL i) == (nameL j)) = _
  by_cases h : i = j
  · subst h; simp
  · rw [decide_eq_false h, beq_eq_false_iff_ne]
    exact fun e => h (nameL_inj hi hj e)

set_option maxRecDepth 100000 in
set_option maxHeartbeats 1000000 in
theorem name_any (w : World) (i : Nat) (hi : i ≤ 17575) :
    Calls Try.prog 20 #[.int .i64 (i : Int)] w fun e w' => e = .returned (.string (nameZ i)) ∧ Keeps (fun _ => True) w w' := by
  have kc : ∀ fr : Nat × Nat, (convert 65 9 (.slice (some ⟨w.heap.size, 0, none⟩) 3 3)).run Try.prog (w.alloc (.cells #[Value.int .u8 (97 + (i : Int) % 26), .int .u8 (97 + (i : Int) / 26 % 26), .int .u8 (97 + (i : Int) / 676)] 5 fr)) = .ok (.string (nameZ i)) (w.alloc (.cells #[Value.int .u8 (97 + (i : Int) % 26), .int .u8 (97 + (i : Int) / 26 % 26), .int .u8 (97 + (i : Int) / 676)] 5 fr)) := fun fr =>
    (Row.fresh (F := fun _ => True) w _ 5 fr _ rfl trivial (bcells (nameL i)) (nameV_is i hi)).to_string Try.underlying65 Try.underlying5 Try.underlying9 3 3 rfl
  go_enter Try.func20, Try.ntmps20
  go_wp2_with fail
  go_ret
  exact ⟨rfl, (Keeps.refl _ _).alloc _⟩

end Go.Proofs.Ytilcmlioofkkmaa
