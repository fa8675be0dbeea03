/-
  THE LAW's OWN 'Cut' OF TEXTS AND OF ENTRIES.
-/
import Derived.Test.YtpijhpfcigjkeaaDoorItemIf
import Derived.WalkSpells
import Derived.Lib.SmallJoins
import Derived.Deep.RegionWith
namespace Go.Proofs.YtpijhpfcigjkeaaDoor
open Go Go.RowKit Go.Joins

/-- The text, or its first n bytes. -/
def cutTo (s : ByteArray) (n : Nat) : ByteArray := if n < s.size then s.extract 0 n else s
theorem cutTo_size (s : ByteArray) (n : Nat) : (cutTo s n).size ≤ n := by
  unfold cutTo; split
  · simp; omega
  · omega
theorem cut_nat (s : ByteArray) (n : Nat) (_hs : s.size ≤ maxLen) (hn : n ≤ 1000) (w : World) :
    Calls Tryd.prog 20 #[.string s, .int .i64 (n : Int)] w fun e w' => e = .returned (.string (cutTo s n)) ∧ w = w' := by
  unfold maxLen at _hs
  unfold cutTo
  by_cases h : n < s.size
  · rw [if_pos h]
    have h' : (n : Int) < (s.size : Int) := by omega
    go_enter Tryd.func20, Tryd.ntmps20
    go_wp2
    go_ret
    exact ⟨rfl, rfl⟩
  · rw [if_neg h]
    have h' : ¬ (n : Int) < (s.size : Int) := by omega
    go_enter Tryd.func20, Tryd.ntmps20
    go_wp2
    go_ret
    exact ⟨rfl, rfl⟩
theorem cut_50 (s : ByteArray) (hs : s.size ≤ maxLen) (w : World) : Calls Tryd.prog 20 #[.string s, .int .i64 50] w fun e w' => e = .returned (.string (cutTo s 50)) ∧ w = w' := cut_nat s 50 hs (by decide) w
theorem cut_210 (s : ByteArray) (hs : s.size ≤ maxLen) (w : World) : Calls Tryd.prog 20 #[.string s, .int .i64 210] w fun e w' => e = .returned (.string (cutTo s 210)) ∧ w = w' := cut_nat s 210 hs (by decide) w

def It.cut (x : It) : It := ⟨cutTo x.key 50, cutTo x.val 210, x.till, x.gone⟩
theorem It.cut_fits (x : It) (h1 : -9223372036854775808 ≤ x.till) (h2 : x.till < 9223372036854775808) : x.cut.fits := by
  have a := cutTo_size x.key 50
  have b := cutTo_size x.val 210
  exact ⟨show (cutTo x.key 50).size ≤ _ by omega, show (cutTo x.val 210).size ≤ _ by omega, h1, h2⟩
set_option maxHeartbeats 1000000 in
theorem law_cut (w : World) (x : It) (hk : x.key.size ≤ maxLen) (hv : x.val.size ≤ maxLen) :
    Calls Tryd.prog 21 #[.agg #[.string x.key, .string x.val, .int .i64 x.till, .bool x.gone]] w fun e w' =>
      e = .returned (.agg #[.string x.cut.key, .string x.cut.val, .int .i64 x.cut.till, .bool x.cut.gone]) ∧ Keeps (fun _ => True) w w' := by
  obtain ⟨key, val, till, gone⟩ := x
  simp only [It.cut] at *
  have C1 := fun w => cut_50 key hk w
  have C2 := fun w => cut_210 val hv w
  generalize cutTo key 50 = k' at *
  generalize cutTo val 210 = v' at *
  clear hk hv
  go_enter Tryd.func21, Tryd.ntmps21
  go_wp2_with fail
  go_region_with (first
    | (go_at_call 20; ((with_reducible refine (C1 _).mono ?_); rintro e w' ⟨rfl, rfl⟩))
    | (go_at_call 20; ((with_reducible refine (C2 _).mono ?_); rintro e w' ⟨rfl, rfl⟩)))
  all_goals go_wp2_with fail
  all_goals exact bodyPost_ret (v := .agg #[.string k', .string v', .int .i64 till, .bool gone]) (by simp [results, Tryd.results21, go_sem]) rfl ⟨rfl, (((Keeps.refl _ w).alloc _).alloc _).drew⟩

end Go.Proofs.YtpijhpfcigjkeaaDoor
