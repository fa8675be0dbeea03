/-
  slices.Clone, slices.Index, slices.Contains OF NUMBERS: their contracts (layer 14).
-/
import Derived.Test.YtcmblihlbmclaaaRowZ
import Derived.Test.YtcmblihlbmclaaaNodes
import Derived.Deep.AppendSrc
import Derived.Deep.AppendLies
namespace Go.Proofs.Ytcmblihlbmclaaa
open Go Go.RowKit Go.Joins

theorem int_elem : Elem Try.prog 24 3 (.int .i64 0) 1 8 := ⟨Try.underlying24, by kernel_rfl, rfl, by decide⟩
theorem mine_own {w : World} {base n c : Nat} {e : TypeId} {k : IntKind} {A : Option Addr} {zs : List Int} (h : w.ownsRow base e 1 (.slice A n c) n (zs.map (Value.int k))) : Mine w k A n := by
  intro hn
  have hl : n = zs.length := by have := h.1; simp at this; omega
  obtain ⟨g, cap, hv, hb, hlt⟩ := h.form hn
  injection hv with hv
  subst hv
  rcases h.2 with ⟨h', _⟩ | ⟨g', cap', cur, h', _, hg, _⟩
  · cases h'
  · injection h' with h'
    injection h' with h'
    injection h' with h'
    subst h'
    refine ⟨g, 0, cur, e, _, rfl, hg, fun i hi => ⟨⟨zs[i]'(by omega), ?_⟩, ?_⟩⟩
    · have h1 := h.cellAt i (by simp; omega)
      rw [cell_of_block hg, List.getElem?_map, List.getElem?_eq_getElem (show i < zs.length by omega)] at h1
      rw [Nat.zero_add]
      exact h1
    · rw [Nat.zero_add]; exact h.frozenAt i
set_option maxRecDepth 100000 in
set_option maxHeartbeats 1000000 in
theorem iclone_nil (c : Nat) (w : World) :
    Calls Try.prog 24 #[.slice none 0 c] w fun e w' => e = .returned (.slice none 0 0) ∧ w = w' := by
  have hn := fun w : World => Lib.run_eql_slice_nil (P := Try.prog) w 24 3 none 0 c 0 0 Try.underlying24
  go_enter Try.func24, Try.ntmps24
  go_wp2_with fail
  go_ret
  exact ⟨rfl, rfl⟩
set_option maxRecDepth 100000 in
set_option maxHeartbeats 1000000 in
theorem iclone_some (ad : Addr) (c : Nat) (F : Nat → Prop) (l : List Int) (w : World) (h : Row w (some ad) F (l.map (Value.int .i64))) (hl : l.length ≤ 1099511627776) :
    Calls Try.prog 24 #[.slice (some ad) l.length c] w fun e w' => ∃ B cb, e = .returned (.slice B l.length cb) ∧ Row w' B (fun b => w.heap.size ≤ b) (l.map (Value.int .i64)) ∧ Mine w' .i64 B l.length ∧ l.length ≤ cb ∧ cb ≤ maxLen ∧ Kp w w' := by
  have hn := fun w : World => Lib.run_eql_slice_nil (P := Try.prog) w 24 3 (some ad) l.length c 0 0 Try.underlying24
  have h0 : (w.alloc (.cells #[] 3)).ownsRow w.heap.size 3 1 (.slice (some ⟨w.heap.size, 0, none⟩) 0 0) 0 [] := World.ownsRow_made w #[] 0 (Nat.le_refl _) (by decide) rfl
  have hsrc : Src Try.prog 1 24 (.slice (some ad) l.length c) l.length (l.map (Value.int .i64)) (w.alloc (.cells #[] 3)) := by
    have := (h.keep ((Keeps.refl F w).alloc (.cells #[] 3))).src (c := c) Try.underlying24 (fun u hu => by obtain ⟨x, _, rfl⟩ := List.mem_map.1 hu; rfl)
    rwa [List.length_map] at this
  have H0 := Lib.hid h0
  have HS := Lib.hid hsrc
  obtain ⟨m, hm⟩ : ∃ m, l.length = m := ⟨_, rfl⟩
  have HM := Lib.hid hm
  rw [hm] at hl HS hn ⊢
  clear h h0 hsrc hm
  go_enter Try.func24, Try.ntmps24
  go_wp2_with (at_builtin; refine int_elem.list_append rfl (.tmp 5) (.tmp 6) _ rfl rfl H0.out rfl HS.out ?c3 ?c4 ?c5 ?_)
  case c3 => unfold maxLen; omega
  case c4 => omega
  · simp
  intro v' w1 hown' hg hb
  have hk : Kp w w1 := by
    exact ((Onto.refl _ _).grown hg (by simpa using hb)).keeps ((Keeps.refl _ w).alloc _) (by simp [Value.ownBlock])
  have ho : w1.ownsRow w.heap.size 3 1 v' m (l.map (Value.int .i64)) := by simpa using hown'
  have H1 := Lib.hid ho
  have H2 := Lib.hid hk
  clear ho hk hown' hg hb
  go_wp2_with fail
  go_ret
  obtain ⟨A, c', rfl, -, hrow⟩ := own_slice H1.out
  obtain ⟨h1, h2, -⟩ := own_cap H1.out
  exact ⟨A, c', rfl, hrow.mono fun b _ hb => hb.1, mine_own H1.out, h1, h2, H2.out⟩
theorem iclone_any (A : Option Addr) (c : Nat) (F : Nat → Prop) (l : List Int) (w : World) (h : Row w A F (l.map (Value.int .i64))) (hl : l.length ≤ 1099511627776) :
    Calls Try.prog 24 #[.slice A l.length c] w fun e w' => ∃ B cb, e = .returned (.slice B l.length cb) ∧ Row w' B (fun b => w.heap.size ≤ b) (l.map (Value.int .i64)) ∧ Mine w' .i64 B l.length ∧ l.length ≤ cb ∧ cb ≤ maxLen ∧ Kp w w' := by
  rcases A with _ | ad
  · have hx : l = [] := Classical.byContradiction fun hx => by
      obtain ⟨b, o, e, _⟩ := h (by simpa using hx)
      cases e
    subst hx
    refine (iclone_nil c w).mono ?_
    rintro e w' ⟨rfl, rfl⟩
    exact ⟨none, 0, rfl, Row.nil _ _ _, fun h => absurd h (by simp), Nat.le_refl _, Nat.zero_le _, Keeps.refl _ _⟩
  · exact iclone_some ad c F l w h hl

/-- Where a number lies first. -/
def IdxZ (l : List Int) (n : Int) (z : Int) : Prop := (hasN l n = true ∧ 0 ≤ z) ∨ (hasN l n = false ∧ z = -1)
theorem idx_yes {l : List Int} {n : Int} {k : Nat} (hk : k < l.length) (h : (n == l[k]) = true) : IdxZ l n (k : Int) := by
  refine .inl ⟨?_, by omega⟩
  unfold hasN
  rw [List.any_eq_true]
  exact ⟨l[k], List.getElem_mem hk, by simpa using (beq_iff_eq.1 h).symm⟩
theorem idx_no {l : List Int} {n : Int} (h : ∀ (j : Nat) (hj : j < l.length), (n == l[j]) = false) : IdxZ l n (-1) := by
  refine .inr ⟨?_, rfl⟩
  unfold hasN
  rw [List.any_eq_false]
  intro x hx
  obtain ⟨j, hj, rfl⟩ := List.mem_iff_getElem.1 hx
  have := h j hj
  simp at this ⊢
  exact fun e => this e.symm

end Go.Proofs.Ytcmblihlbmclaaa
