/-
  A KEY's HASH as the program's index takes it: mix.Of of that one text.
-/
import Derived.Test.YtilcmlioofkkmaaOf
import Derived.Test.YtilcmlioofkkmaaIxMem
namespace Go.Proofs.Ytilcmlioofkkmaa
open Go Go.RowKit Go.Joins

def hashN (s : ByteArray) : Nat := (partsZ [s]).toNat
theorem hashZ_is (s : ByteArray) : 0 ≤ partsZ [s] ∧ partsZ [s] < 18446744073709551616 := by
  show 0 ≤ endZ _ _ ∧ endZ _ _ < _
  unfold endZ
  exact ⟨stZ_nonneg _, stZ_lt _⟩
theorem hashN_cast (s : ByteArray) : ((hashN s : Nat) : Int) = partsZ [s] := by
  have := hashZ_is s
  unfold hashN; omega
theorem hashN_lt (s : ByteArray) : hashN s < 18446744073709551616 := by
  have := hashZ_is s
  unfold hashN; omega
theorem hash_any (s : ByteArray) (b : Nat) (w : World) (hs : s.size ≤ 4096) (hc : w.cell? ⟨b, 0, none⟩ = some (.string s)) :
    Calls Try.prog 21 #[.slice (some ⟨b, 0, none⟩) 1 1] w fun e w' => e = .returned (.int .u64 ((hashN s : Nat) : Int)) ∧ w' = w := by
  rw [hashN_cast]
  refine (of_any [s] b 0 1 w (show 1 ≤ maxLen by decide) (by intro x hx; simp at hx; rw [hx]; unfold maxLen; omega)
    (fun i hi => by have hi0 : i = 0 := by simpa using hi
                    subst hi0; exact hc)).mono ?_
  rintro e w' ⟨rfl, rfl⟩
  exact ⟨rfl, rfl⟩

end Go.Proofs.Ytilcmlioofkkmaa
