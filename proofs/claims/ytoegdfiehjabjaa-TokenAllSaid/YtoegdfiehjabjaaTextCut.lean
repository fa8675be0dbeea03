/-
  'Cut': THE TEXT, OR ITS FIRST BYTES.
-/
import Derived.Test.YtoegdfiehjabjaaProg
import Derived.WalkSpells
import Derived.Lib.Hide
namespace Go.Proofs.Ytoegdfiehjabjaa
open Go.RowKit

def cutZ (s : ByteArray) (n : Nat) : ByteArray := if n < s.size then s.extract 0 n else s
theorem cutZ_size (s : ByteArray) (n : Nat) : (cutZ s n).size ≤ n := by
  unfold cutZ; split
  · simp; omega
  · omega
theorem tcut_any (s : ByteArray) (n : Nat) (_hs : s.size ≤ maxLen) (hn : n ≤ 100) (w : World) :
    Calls Try.prog 9 #[.string s, .int .i64 (n : Int)] w fun e w' => e = .returned (.string (cutZ s n)) ∧ w = w' := by
  unfold maxLen at _hs
  unfold cutZ
  by_cases h : n < s.size
  · rw [if_pos h]
    have h' : (n : Int) < (s.size : Int) := by omega
    go_enter Try.func9, Try.ntmps9
    go_wp2
    go_ret
    exact ⟨rfl, rfl⟩
  · rw [if_neg h]
    have h' : ¬ (n : Int) < (s.size : Int) := by omega
    go_enter Try.func9, Try.ntmps9
    go_wp2
    go_ret
    exact ⟨rfl, rfl⟩

end Go.Proofs.Ytoegdfiehjabjaa
