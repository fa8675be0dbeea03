/-
  'begun' OF LAYER 3 ANSWERS true: where the table reads as it is laid; it lays new blocks and turns nothing that was there.
-/
import Derived.Test.YtfcbiaedhidibaaDoorCrc
import Derived.Lib.SmallJoins
namespace Go.Proofs.YtfcbiaedhidibaaDoor
open Go Go.RowKit

def d1 : List UInt8 := [49, 50, 51, 52]
def d2 : List UInt8 := [53, 54, 55, 56, 57]
def d1v : Array Value := #[.int .u8 49, .int .u8 50, .int .u8 51, .int .u8 52]
def d2v : Array Value := #[.int .u8 53, .int .u8 54, .int .u8 55, .int .u8 56, .int .u8 57]
theorem nine : crcN (d1 ++ ([] ++ d2)) = 3421780262 := by decide +kernel
/-- Every block. -/
abbrev Any : Nat → Prop := fun _ => True
/-- The nine digits, in three parts. -/
theorem sum_three (w : World) (b1 b2 b3 : Nat) (h1 : Row w (some ⟨b1, 0, none⟩) Any (bcells d1)) (h2 : Row w (some ⟨b2, 0, none⟩) Any (bcells d2))
    (h3 : Row w (some ⟨b3, 0, none⟩) Any [.slice (some ⟨b1, 0, none⟩) 4 4, .slice none 0 0, .slice (some ⟨b2, 0, none⟩) 5 5]) (hT : Taken w) :
    Calls Tryd.prog 9 #[.slice (some ⟨b3, 0, none⟩) 3 3] w fun e w' => e = .returned (.int .u32 3421780262) ∧ w = w' := by
  have h := sum_any (some ⟨b3, 0, none⟩) 3 Any Any [⟨some ⟨b1, 0, none⟩, 4, d1⟩, ⟨none, 0, []⟩, ⟨some ⟨b2, 0, none⟩, 5, d2⟩] w h3 ?_ (by show 3 ≤ maxLen; decide) hT
  · have e : joined [⟨some ⟨b1, 0, none⟩, 4, d1⟩, ⟨none, 0, []⟩, ⟨some ⟨b2, 0, none⟩, 5, d2⟩] = d1 ++ ([] ++ d2) := by simp [joined]
    rw [e, nine] at h
    exact h
  · intro p hp
    simp only [List.mem_cons, List.not_mem_nil, or_false] at hp
    rcases hp with rfl | rfl | rfl
    · exact ⟨h1, by show 4 ≤ maxLen; decide⟩
    · exact ⟨Row.nil _ _ _, by show 0 ≤ maxLen; decide⟩
    · exact ⟨h2, by show 5 ≤ maxLen; decide⟩
theorem sum_nine (w : World) (hT : Taken w) (n2 n3 : Nat) (e2 : n2 = w.heap.size + 1) (e3 : n3 = w.heap.size + 1 + 1) (C : Array Value) (eC : C.toList = [.slice (some ⟨w.heap.size, 0, none⟩) 4 4, .slice none 0 0, .slice (some ⟨n2, 0, none⟩) 5 5]) :
    Calls Tryd.prog 9 #[.slice (some ⟨n3, 0, none⟩) 3 3] (((w.alloc (.cells d1v 5 (4, 5))).alloc (.cells d2v 5 (5, 6))).alloc (.cells C 24))
      fun e w' => e = .returned (.int .u32 3421780262) ∧ ((w.alloc (.cells d1v 5 (4, 5))).alloc (.cells d2v 5 (5, 6))).alloc (.cells C 24) = w' := by
  refine sum_three _ w.heap.size n2 n3 ?_ ?_ ?_ (((hT.alloc _).alloc _).alloc _)
  · exact ((Row.fresh w d1v 5 (4, 5) _ rfl trivial _ rfl).alloc _).alloc _
  · exact (Row.fresh _ d2v 5 (5, 6) _ (by rw [e2]; simp) trivial _ rfl).alloc _
  · exact Row.fresh _ C 24 (0, 0) _ (by rw [e3]; simp) trivial _ eC
theorem sum_none (w : World) (hT : Taken w) : Calls Tryd.prog 9 #[.slice none 0 0] w fun e w' => e = .returned (.int .u32 0) ∧ w = w' := by
  have h := sum_any none 0 Any Any [] w (Row.nil _ _ _) (fun p hp => by cases hp) (by show 0 ≤ maxLen; decide) hT
  have e : crcN (joined []) = 0 := by decide
  rw [e] at h
  exact h

theorem begun_any (w : World) (hT : Taken w) : Calls Tryd.prog 7 #[] w fun e w' => e = .returned (.bool true) ∧ Below w.heap.size w w' := by
  have HT := Lib.hid hT
  clear hT
  have k1 : (convert 24 24 (.slice (some ⟨w.heap.size, 0, none⟩) 4 4)).run Tryd.prog (w.alloc (.cells #[.int .u8 49, .int .u8 50, .int .u8 51, .int .u8 52] 5)) = .ok (.slice (some ⟨w.heap.size, 0, none⟩) 4 4) (w.alloc (.cells d1v 5 (4, 5))) :=
    Lib.run_convert_bytes_const w 24 5 d1v 4 4 Tryd.underlying24 Tryd.underlying5
  have k2 : (convert 24 24 (.slice (some ⟨w.heap.size + 1, 0, none⟩) 5 5)).run Tryd.prog ((w.alloc (.cells d1v 5 (4, 5))).alloc (.cells #[.int .u8 53, .int .u8 54, .int .u8 55, .int .u8 56, .int .u8 57] 5)) = .ok (.slice (some ⟨w.heap.size + 1, 0, none⟩) 5 5) ((w.alloc (.cells d1v 5 (4, 5))).alloc (.cells d2v 5 (5, 6))) :=
    Joins.run_convert_bytes_const_at _ 24 5 d2v 5 5 _ (by simp) Tryd.underlying24 Tryd.underlying5
  go_enter Tryd.func7, Tryd.ntmps7
  go_wp2_with fail
  refine (sum_nine _ HT.out _ _ rfl rfl _ rfl).mono ?_
  rintro e w' ⟨rfl, rfl⟩
  go_wp2_with fail
  refine (sum_none _ (((HT.out.alloc _).alloc _).alloc _)).mono ?_
  rintro e w' ⟨rfl, rfl⟩
  go_wp2
  go_ret
  exact ⟨rfl, (((Below.refl _ _).alloc (Nat.le_refl _) _).alloc (by simp) _).alloc (by simp; omega) _⟩

end Go.Proofs.YtfcbiaedhidibaaDoor
