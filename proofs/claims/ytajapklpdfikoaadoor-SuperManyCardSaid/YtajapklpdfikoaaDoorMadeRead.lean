/-
  THE PROGRAM's DEVICE: Read.
-/
import Derived.Test.YtajapklpdfikoaaDoorMadeAt
import Derived.Test.YtajapklpdfikoaaDoorClone
namespace Go.Proofs.YtajapklpdfikoaaDoor
open Go Go.RowKit Go.Joins

set_option maxHeartbeats 400000 in
theorem dread_any (w : World) (p : Nat) (F : Foot) (s : SDev) (h : DAt w p F s) (i : Int) (hi1 : -9223372036854775808 ≤ i) (hi2 : i < 9223372036854775808) :
    Calls Tryd.prog 24 #[.pointer (some ⟨p, 0, none⟩), .int .i64 i] w fun e w' => ∃ v, e = .returned (.tuple #[v, .int .i64 (s.readE i)]) ∧ OwnB w' w.heap.size v (s.readL i) ∧ Keeps (fun _ => True) w w' := by
  have hch := dcheck_any w p F s h i
  by_cases hi : i < 0 ∨ (s.now.length : Int) ≤ i
  · have hr : s.readE i = 4 := if_pos hi
    have hl : s.readL i = [] := if_pos hi
    rw [hr] at hch ⊢
    rw [hl]
    have H := Lib.hid (show ∃ v, Ending.returned (.tuple #[.slice none 0 0, .int .i64 4]) = .returned (.tuple #[v, .int .i64 4]) ∧ OwnB w w.heap.size v [] ∧ Keeps (fun _ => True) w w from ⟨_, rfl, World.ownsRow_nil _ _ _ _, Keeps.refl _ _⟩)
    have HC := Lib.hid hch
    clear hr hl hch h hi hi1 hi2
    go_enter Tryd.func24, Tryd.ntmps24
    go_wp2_with fail
    refine HC.out.mono ?_
    rintro e w' ⟨rfl, rfl⟩
    go_wp2_with fail
    go_ret2
    exact H.out
  · have hr : s.readE i = 0 := if_neg hi
    obtain ⟨k, rfl⟩ : ∃ k : Nat, i = (k : Int) := ⟨i.toNat, by omega⟩
    have hk : k < s.now.length := by omega
    have hl : s.readL (k : Int) = s.now[k] := (if_neg hi).trans (by rw [Int.toNat_natCast, getD_mem _ _ _ hk])
    rw [hr] at hch ⊢
    rw [hl]
    obtain ⟨g, c, m, h1, h2, h3, h4, m1, m2, m3⟩ := h.ex
    have c0 : w.cell? ⟨p, 0, none⟩ = some (.slice (some ⟨g, 0, none⟩) s.now.length c) := (cell_of_block h1 0).trans rfl
    have hlen : s.now[k].length = 64 := h.ok.nrow _ (List.getElem_mem hk)
    have hcl := clone_any (some ⟨g, k * 64, none⟩) 64 (fun _ => True) s.now[k] w (fun _ => ⟨g, k * 64, rfl, trivial, DAt.row h2 h.ok.nrow k hk⟩) (by omega)
    rw [hlen] at hcl
    have hsm := h.ok.small
    have HC := Lib.hid hch
    have HL := Lib.hid hcl
    clear hr hl hch h hi hi1 hi2 h1 h2 h3 h4 hcl hlen m1 m2 m3
    go_enter Tryd.func24, Tryd.ntmps24
    go_wp2_with fail
    refine HC.out.mono ?_
    rintro e w' ⟨rfl, rfl⟩
    go_wp2_with fail
    refine HL.out.mono ?_
    rintro e w' ⟨v, rfl, ho, hk'⟩
    have H1 := Lib.hid ho
    have H2 := Lib.hid hk'
    clear ho hk'
    go_wp2_with fail
    go_ret2
    exact ⟨_, rfl, H1.out, H2.out⟩

end Go.Proofs.YtajapklpdfikoaaDoor
