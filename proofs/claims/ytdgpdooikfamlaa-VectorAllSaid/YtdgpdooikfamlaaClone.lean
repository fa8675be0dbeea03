/-
  slices.Clone OF BYTES: its contract.
-/
import Derived.Test.YtdgpdooikfamlaaBytes
import Derived.WalkSpells
import Derived.Lib.Hide
import Derived.Lib.SmallJoins
namespace Go.Proofs.Ytdgpdooikfamlaa
open Go Go.RowKit

theorem clone_nil (c : Nat) (w : World) :
    Calls Try.prog 29 #[.slice none 0 c] w fun e w' => ∃ v', e = .returned v' ∧ OwnB w' w.heap.size v' [] ∧ Keeps (fun _ => True) w w' := by
  have hn := fun w : World => Lib.run_eql_slice_nil (P := Try.prog) w 33 5 none 0 c 0 0 Try.underlying33
  have H := Lib.hid (show ∃ v', Ending.returned (.slice none 0 0) = .returned v' ∧ OwnB w w.heap.size v' [] ∧ Keeps (fun _ => True) w w from ⟨_, rfl, World.ownsRow_nil _ _ _ _, Keeps.refl _ _⟩)
  go_enter Try.func29, Try.ntmps29
  go_wp2
  go_ret
  exact H.out
theorem clone_some (ad : Addr) (c : Nat) (F : Nat → Prop) (l : List UInt8) (w : World) (h : Row w (some ad) F (bcells l)) (hl : l.length ≤ 1099511627776) :
    Calls Try.prog 29 #[.slice (some ad) l.length c] w fun e w' => ∃ v', e = .returned v' ∧ OwnB w' w.heap.size v' l ∧ Keeps (fun _ => True) w w' := by
  have hn := fun w : World => Lib.run_eql_slice_nil (P := Try.prog) w 33 5 (some ad) l.length c 0 0 Try.underlying33
  have h0 : (w.alloc (.cells #[] 5)).ownsRow w.heap.size 5 1 (.slice (some ⟨w.heap.size, 0, none⟩) 0 0) 0 [] := World.ownsRow_made w #[] 0 (Nat.le_refl _) (by decide) rfl
  have hsrc : Src Try.prog 1 33 (.slice (some ad) l.length c) l.length (bcells l) (w.alloc (.cells #[] 5)) := by
    have := (h.keep ((Keeps.refl F w).alloc (.cells #[] 5))).src (c := c) Try.underlying33 (bcells_one l)
    rwa [bcells_len] at this
  have H0 := Lib.hid h0
  have HS := Lib.hid hsrc
  clear h h0 hsrc
  go_enter Try.func29, Try.ntmps29
  go_wp2_with (at_builtin; refine byte_elem.list_append rfl (.tmp 5) (.tmp 6) _ rfl rfl H0.out rfl HS.out ?c3 ?c4 ?c5 ?_)
  case c3 => unfold maxLen; omega
  case c4 => omega
  case c5 => simp
  intro v' w1 hown' hg hb
  have hk : Keeps (fun _ => True) w w1 := by
    exact ((Onto.refl _ _).grown hg (by simpa using hb)).keeps ((Keeps.refl _ w).alloc _) (by simp [Value.ownBlock])
  have ho : OwnB w1 w.heap.size v' l := by unfold OwnB; simpa using hown'
  have H1 := Lib.hid ho
  have H2 := Lib.hid hk
  clear ho hk hown' hg hb
  go_wp2
  go_ret
  exact ⟨_, rfl, H1.out, H2.out⟩

theorem clone_any (A : Option Addr) (c : Nat) (F : Nat → Prop) (l : List UInt8) (w : World) (h : Row w A F (bcells l)) (hl : l.length ≤ 1099511627776) :
    Calls Try.prog 29 #[.slice A l.length c] w fun e w' => ∃ v', e = .returned v' ∧ OwnB w' w.heap.size v' l ∧ Keeps (fun _ => True) w w' := by
  rcases A with _ | ad
  · have hx : l = [] := Classical.byContradiction fun hx => by
      obtain ⟨b, o, e, _⟩ := h (by simpa [bcells] using hx)
      cases e
    subst hx
    exact clone_nil c w
  · exact clone_some ad c F l w h hl

end Go.Proofs.Ytdgpdooikfamlaa
