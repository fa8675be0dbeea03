/-
  'Texts': the first six texts, each cut to 60 bytes, in a slice of the call's own.
-/
import Derived.Test.YtegglcgopddfcaaCut
import Derived.Laws.AppendOwn
import Derived.WideShapes
namespace Go.Proofs.Ytegglcgopddfcaa
open Go.RowKit

/-- What Texts answers of the first k texts. -/
def textsZ (ss : List ByteArray) (k : Nat) : List ByteArray := (ss.take k).map (cutZ · 60)
theorem textsZ_len (ss : List ByteArray) (k : Nat) (h : k ≤ ss.length) : (textsZ ss k).length = k := by unfold textsZ; simp; omega
theorem textsZ_next (ss : List ByteArray) (k : Nat) (h : k < ss.length) : (textsZ ss k).map Value.string ++ [Value.string (cutZ (ss.getD k ByteArray.empty) 60)] = (textsZ ss (k + 1)).map Value.string := by
  unfold textsZ
  rw [List.take_succ_eq_append_getElem h, getD_at ss k h, List.map_append, List.map_append]; rfl

theorem cut_60 (s : ByteArray) (hs : s.size ≤ maxLen) (w : World) : Calls Try.prog 15 #[.string s, .int .i64 60] w fun e w' => e = .returned (.string (cutZ s 60)) ∧ w = w' := cut_any s 60 hs (by decide) w
theorem Try.info9 : (Try.prog.info? 9).map (fun i => (i.zero, i.size, i.bytes)) = some (some (.string { data := #[] }), 1, 16) := by kernel_rfl

set_option maxHeartbeats 400000 in
theorem texts_any (ss : List ByteArray) (b o cap : Nat) (w : World) (hn : ss.length ≤ maxLen) (hs : ∀ s ∈ ss, s.size ≤ maxLen) (hb : b < w.heap.size)
    (hc : ∀ i, i < ss.length → w.cell? ⟨b, o + i, none⟩ = some (.string (ss.getD i ByteArray.empty))) :
    Calls Try.prog 8 #[.slice (some ⟨b, o, none⟩) ss.length cap, .int .i64 6, .int .i64 60] w fun e w' => ∃ v, e = .returned v ∧
      w'.ownsRow w.heap.size 9 1 v (min ss.length 6) ((textsZ ss (min ss.length 6)).map Value.string) ∧ Below w.heap.size w w' := by
  unfold maxLen at hn
  obtain ⟨i0, hi, hz0, hz1, hz2⟩ := info_parts Try.info9
  go_enter Try.func8, Try.ntmps8
  go_wp2
  go_loopw [7, 8] (fun v i wr => ∃ k : Nat, k ≤ ss.length ∧ k ≤ 6 ∧ i = .int .i64 k ∧ wr.ownsRow w.heap.size 9 1 v k ((textsZ ss k).map Value.string) ∧ Below w.heap.size w wr) (fun _ i _ => 6 - (intOf i).toNat)
  case atStart => exact ⟨0, Nat.zero_le _, by omega, rfl, World.ownsRow_nil _ _ _ _, Below.refl _ _⟩
  case round =>
    obtain ⟨k, hk, hk6, rfl, hown, hbel⟩ := hrel
    by_cases hlt : k < ss.length
    · by_cases hl6 : k < 6
      · have hl6' : (k : Int) < 6 := by omega
        have hcell : wr.cell? ⟨b, o + k, none⟩ = some (.string (ss.getD k ByteArray.empty)) := by
          rw [hbel.cell (p := ⟨b, o + k, none⟩) hb]; exact hc k hlt
        have hsz : (ss.getD k ByteArray.empty).size ≤ maxLen := by rw [getD_at ss k hlt]; exact hs _ (List.getElem_mem hlt)
        have H := Lib.hid (textsZ_next ss k hlt)
        have hwz := hbel.size
        have HB := Lib.hid hbel
        clear hc hbel
        generalize ss.getD k ByteArray.empty = s at hcell hsz H
        go_wp2_with (first
          | (go_at_call 15; ((with_reducible refine (cut_60 s hsz _).mono ?_); rintro e w' ⟨rfl, rfl⟩))
          | (at_builtin; refine wpList_append_own _ rfl _ _ 22 rfl w.heap.size 9 i0 (.string { data := #[] }) 1 16 Try.underlying22 hi hz0 hz1 hz2 rfl (by decide) _ _ _ rfl (hown.alloc _) ⟨wr.heap.size, 0, none⟩ 1 1 [.string (cutZ s 60)] rfl rfl ?c1 ?c2 ?c3 ?c4 ?c5 ?_))
        case c1 => exact cell_one_new _ _ _
        case c2 => intro u hu; simp at hu; subst hu; rfl
        case c3 => unfold maxLen; omega
        case c4 => omega
        case c5 => simp; omega
        intro v' w1 hown' hgrow _
        rw [H.out] at hown'
        have hb1 : Below w.heap.size w w1 := (HB.out.alloc hwz _).grown hgrow (by simp; omega) fun j hj => (hown.lt j hj).1
        clear hgrow H
        go_wp2
        go_roundw
        case rel => exact ⟨k + 1, by omega, by omega, by go_num, hown', hb1⟩
        case measure => simp [intOf]; omega
      · obtain rfl : k = 6 := by omega
        have hm : min ss.length 6 = 6 := by omega
        have hown6 : wr.ownsRow w.heap.size 9 1 u7 (min ss.length 6) ((textsZ ss (min ss.length 6)).map Value.string) := by rw [hm]; exact hown
        clear hc hm hown
        have HO := Lib.hid hown6
        have HB := Lib.hid hbel
        clear hown6 hbel
        go_wp2
        go_ret
        exact ⟨_, rfl, HO.out, HB.out⟩
    · obtain rfl : k = ss.length := by omega
      have hm : min ss.length 6 = ss.length := by omega
      have hown6 : wr.ownsRow w.heap.size 9 1 u7 (min ss.length 6) ((textsZ ss (min ss.length 6)).map Value.string) := by rw [hm]; exact hown
      clear hc hm hown
      have HO := Lib.hid hown6
      have HB := Lib.hid hbel
      clear hown6 hbel
      go_wp2
      go_ret
      exact ⟨_, rfl, HO.out, HB.out⟩

/-- A slice that lies in memory of the call's own, or nil, and reads as these texts. -/
def OwnTexts (w : World) (v : Value) (ss : List ByteArray) : Prop := (∃ base, w.ownsRow base 9 1 v ss.length (ss.map Value.string)) ∧ ss.length ≤ maxLen ∧ ∀ s ∈ ss, s.size ≤ maxLen
theorem texts_own (ss : List ByteArray) (b o cap : Nat) (w : World) (hn : ss.length ≤ maxLen) (hs : ∀ s ∈ ss, s.size ≤ maxLen) (hb : b < w.heap.size)
    (hc : ∀ i, i < ss.length → w.cell? ⟨b, o + i, none⟩ = some (.string (ss.getD i ByteArray.empty))) :
    Calls Try.prog 8 #[.slice (some ⟨b, o, none⟩) ss.length cap, .int .i64 6, .int .i64 60] w fun e w' => ∃ v ts, e = .returned v ∧ OwnTexts w' v ts ∧ Below w.heap.size w w' := by
  refine (texts_any ss b o cap w hn hs hb hc).mono ?_
  rintro e w' ⟨v, rfl, hown, hbel⟩
  have hl : (textsZ ss (min ss.length 6)).length = min ss.length 6 := textsZ_len ss _ (Nat.min_le_left _ _)
  refine ⟨v, textsZ ss (min ss.length 6), rfl, ⟨⟨w.heap.size, by rw [hl]; exact hown⟩, by rw [hl]; unfold maxLen; omega, fun s hs' => ?_⟩, hbel⟩
  unfold textsZ at hs'
  obtain ⟨x, _, rfl⟩ := List.mem_map.1 hs'
  have := cutZ_size x 60
  unfold maxLen; omega
theorem texts_none (a : Option Addr) (cap : Nat) (w : World) :
    Calls Try.prog 8 #[.slice a 0 cap, .int .i64 6, .int .i64 60] w fun e w' => ∃ v ts, e = .returned v ∧ OwnTexts w' v ts ∧ Below w.heap.size w w' := by
  have H := Lib.hid (show ∃ v ts, Ending.returned (.slice none 0 0) = .returned v ∧ OwnTexts w v ts ∧ Below w.heap.size w w from
    ⟨.slice none 0 0, [], rfl, ⟨⟨0, World.ownsRow_nil _ _ _ _⟩, by decide, by simp⟩, Below.refl _ _⟩)
  go_enter Try.func8, Try.ntmps8
  go_wp2
  refine wp_loop_rounds 1 ?_
  rw [rounds_succ]
  go_wp2
  go_ret
  exact H.out

theorem of_own (v : Value) (ss : List ByteArray) (w : World) (h : OwnTexts w v ss) : Calls Try.prog 9 #[v] w fun e w' => e = .returned (.int .u64 (partsZ ss)) ∧ w = w' := by
  obtain ⟨⟨base, hl, hx⟩, hn, hs⟩ := h
  rcases hx with ⟨rfl, h0⟩ | ⟨g, cap, cur, rfl, hx⟩
  · obtain rfl : ss = [] := List.eq_nil_of_length_eq_zero h0
    exact of_nil w
  · refine of_any ss g 0 cap w hn hs fun i hi => ?_
    have hown : w.ownsRow base 9 1 (.slice (some ⟨g, 0, none⟩) ss.length cap) ss.length (ss.map Value.string) := ⟨hl, .inr ⟨g, cap, cur, rfl, hx⟩⟩
    have := hown.cells (g := g) rfl i (.string (ss.getD i ByteArray.empty)) (by rw [getD_at ss i hi]; simp [hi])
    rw [WideShapes.add_plain] at this
    exact this
theorem rof_own (v : Value) (ss : List ByteArray) (w : World) (h : OwnTexts w v ss) : Calls Try.prog 10 #[v] w fun e w' => e = .returned (.int .u64 (partsZ ss)) ∧ w = w' := by
  obtain ⟨⟨base, hl, hx⟩, hn, hs⟩ := h
  rcases hx with ⟨rfl, h0⟩ | ⟨g, cap, cur, rfl, hx⟩
  · obtain rfl : ss = [] := List.eq_nil_of_length_eq_zero h0
    exact rof_nil w
  · refine rof_any ss g 0 cap w hn hs fun i hi => ?_
    have hown : w.ownsRow base 9 1 (.slice (some ⟨g, 0, none⟩) ss.length cap) ss.length (ss.map Value.string) := ⟨hl, .inr ⟨g, cap, cur, rfl, hx⟩⟩
    have := hown.cells (g := g) rfl i (.string (ss.getD i ByteArray.empty)) (by rw [getD_at ss i hi]; simp [hi])
    rw [WideShapes.add_plain] at this
    exact this

end Go.Proofs.Ytegglcgopddfcaa
