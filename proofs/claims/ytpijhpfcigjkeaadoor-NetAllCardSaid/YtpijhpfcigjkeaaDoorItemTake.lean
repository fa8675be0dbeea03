/-
  THE LAW's OWN 'Items': the first n entries, each cut, in a slice of the call's own.
-/
import Derived.Test.YtpijhpfcigjkeaaDoorItemCut
namespace Go.Proofs.YtpijhpfcigjkeaaDoor
open Go Go.RowKit Go.Joins

/-- The first n entries, each cut. -/
def cutL (l : List It) (n : Nat) : List It := (l.take n).map It.cut
theorem cutL_len (l : List It) (n : Nat) : (cutL l n).length = min n l.length := by unfold cutL; simp
theorem cutL_next (l : List It) (k : Nat) (h : k < l.length) : itCells (cutL l k) ++ (l[k].cut).cells = itCells (cutL l (k + 1)) := by
  unfold cutL
  rw [List.take_succ_eq_append_getElem h, List.map_append, List.map_cons, List.map_nil, itCells_snoc]
theorem cutL_fits {l : List It} (h : ∀ x ∈ l, -9223372036854775808 ≤ x.till ∧ x.till < 9223372036854775808) (n : Nat) : ∀ x ∈ cutL l n, x.fits := fun x hx => by
  unfold cutL at hx
  obtain ⟨y, hy, rfl⟩ := List.mem_map.1 hx
  have := h y (List.mem_of_mem_take hy)
  exact y.cut_fits this.1 this.2
theorem src_item (W : World) (x : It) : Src Tryd.prog 4 32 (.slice (some ⟨W.heap.size, 0, none⟩) 1 1) 1 x.cells (W.alloc (.cells #[.string x.key, .string x.val, .int .i64 x.till, .bool x.gone] 31)) :=
  Src.ofSlice _ Tryd.underlying32 ⟨W.heap.size, 0, none⟩ 1 1 x.cells rfl (fun j v hv => by
    rw [WideShapes.add_plain, Nat.zero_add]
    exact (cell_alloc_mark_at W _ _ _ W.heap.size j rfl).trans (by rw [← hv, ← Array.getElem?_toList]; rfl)) (fun v hv => by
    simp only [It.cells, List.mem_cons, List.not_mem_nil, or_false] at hv
    rcases hv with rfl | rfl | rfl | rfl <;> rfl)

set_option maxHeartbeats 1000000 in
theorem law_items (w : World) (A : Option Addr) (cap : Nat) (l : List It) (n : Nat) (hA : ItsAt w A (fun b => b < w.heap.size) l) (hl : l.length ≤ cap) (hc : cap ≤ maxLen) (hs : ∀ x ∈ l, x.key.size ≤ maxLen ∧ x.val.size ≤ maxLen) (hn : n ≤ 8) :
    Calls Tryd.prog 22 #[.slice A l.length cap, .int .i64 (n : Int)] w fun e w' => ∃ B k, e = .returned (.slice B (cutL l n).length k) ∧ (cutL l n).length ≤ k ∧ k ≤ maxLen ∧
      ItsAt w' B (fun b => w.heap.size ≤ b ∧ b < w'.heap.size) (cutL l n) ∧ Keeps (fun _ => True) w w' := by
  have hc' := hc
  unfold maxLen at hc'
  have HFIN := Lib.hid (show ∀ (k : Nat) (v : Value) (wr : World), k = (cutL l n).length → wr.ownsRow w.heap.size 31 4 v k (itCells (cutL l n)) → Keeps (fun _ => True) w wr →
      ∃ B k, Ending.returned v = .returned (.slice B (cutL l n).length k) ∧ (cutL l n).length ≤ k ∧ k ≤ maxLen ∧ ItsAt wr B (fun b => w.heap.size ≤ b ∧ b < wr.heap.size) (cutL l n) ∧ Keeps (fun _ => True) w wr from fun k v wr hk ho hkp => by
    subst hk
    rcases Nat.eq_zero_or_pos (cutL l n).length with h0 | hp
    · rcases ho.2 with ⟨rfl, -⟩ | ⟨g, c, cur, rfl, -, -, h1, h2, -⟩
      · exact ⟨none, 0, by rw [h0], by omega, by decide, fun k hk => by omega, hkp⟩
      · exact ⟨_, c, rfl, h1, h2, fun k hk => by omega, hkp⟩
    · obtain ⟨g, c, rfl, -⟩ := ho.form hp
      have := own_room ho
      exact ⟨_, c, rfl, this.1, this.2, ItsAt.of_own ho rfl, hkp⟩)
  have HA := Lib.hid hA
  have HS := Lib.hid hs
  clear hA hs hc
  go_enter Tryd.func22, Tryd.ntmps22
  go_wp2
  go_loopw [5, 6] (fun v i wr => ∃ k : Nat, k ≤ l.length ∧ k ≤ n ∧ i = .int .i64 k ∧ wr.ownsRow w.heap.size 31 4 v k (itCells (cutL l k)) ∧ Keeps (fun _ => True) w wr) (fun _ i _ => 8 - (intOf i).toNat)
  case atStart => exact ⟨0, Nat.zero_le _, Nat.zero_le _, rfl, World.ownsRow_nil _ _ _ _, Keeps.refl _ _⟩
  case round =>
    obtain ⟨k, hk, hkn, rfl, hown, hkp⟩ := hrel
    have hwz := hkp.size
    have HW := Lib.hid hown
    have HK := Lib.hid hkp
    clear hown hkp
    by_cases hlt : k < l.length
    · by_cases hln : k < n
      · have t1 : decide ((k : Int) < (l.length : Int)) = true := by simp; omega
        have t2 : decide ((k : Int) < (n : Int)) = true := by simp; omega
        obtain ⟨b, o, rfl, hb, c0, c1, c2, c3⟩ := (HA.out.keep (HK.out.mono fun _ _ _ => trivial)) k hlt
        have hsz := HS.out _ (List.getElem_mem hlt)
        have HN := Lib.hid (cutL_next l k hlt)
        generalize l[k] = x at c0 c1 c2 c3 hsz HN
        go_wp2_with fail
        refine (law_cut wr x hsz.1 hsz.2).mono ?_
        rintro e w1 ⟨rfl, hk1⟩
        have HSRC := Lib.hid (fun W : World => src_item W x.cut)
        have HK1 := Lib.hid (HK.out.trans hk1)
        have HW1 := Lib.hid (hk1.own HW.out fun _ _ => trivial)
        have hz1 := hk1.size
        clear hk1 c0 c1 c2 c3 HW
        go_wp2_with (at_builtin; refine item_elem.list_append rfl (.tmp 18) (.tmp 24) _ rfl rfl (HW1.out.alloc _) rfl (HSRC.out w1) ?c3 ?c4 ?c5 ?_)
        case c3 => unfold maxLen; omega
        case c4 => omega
        case c5 => simp; omega
        intro v' w2 hown' hg _
        rw [HN.out] at hown'
        have hk2 : Keeps (fun _ => True) w w2 := (HK1.out.alloc _).grown hg fun j hj => (HW1.out.lt j hj).1
        clear hg HN HSRC HW1 HK1
        have H1 := Lib.hid hown'
        have H2 := Lib.hid hk2
        clear hown' hk2
        go_wp2
        go_roundw
        case rel => exact ⟨k + 1, by omega, by omega, by go_num, H1.out, H2.out⟩
        case measure => simp [intOf]; omega
      · have t1 : decide ((k : Int) < (l.length : Int)) = true := by simp; omega
        have t2 : decide ((k : Int) < (n : Int)) = false := by simp; omega
        obtain rfl : k = n := by omega
        have hm : k = (cutL l k).length := by rw [cutL_len]; omega
        have HM := Lib.hid hm
        clear hm
        go_wp2_with fail
        go_ret
        exact HFIN.out k _ _ HM.out HW.out HK.out
    · have t1 : decide ((k : Int) < (l.length : Int)) = false := by simp; omega
      obtain rfl : k = l.length := by omega
      have hm : l.length = (cutL l n).length := by rw [cutL_len]; omega
      have he : cutL l l.length = cutL l n := by unfold cutL; rw [List.take_of_length_le (Nat.le_refl _), List.take_of_length_le hkn]
      have HM := Lib.hid hm
      have HE := Lib.hid he
      clear hm he
      go_wp2_with fail
      go_ret
      exact HFIN.out l.length _ _ HM.out (by rw [← HE.out]; exact HW.out) HK.out

end Go.Proofs.YtpijhpfcigjkeaaDoor
