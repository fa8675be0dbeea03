/-
  'nodes' OF LAYER 15's LAWS: nodes by the bits of a number.
-/
import Derived.Test.YtcmblihlbmclaaaRgBits
import Derived.WalkSpells
import Derived.Deep.AppendSrc
import Derived.Deep.AppendLies
namespace Go.Proofs.Ytcmblihlbmclaaa
open Go Go.RowKit Go.Joins

theorem pnode_elem : Elem Try.prog 24 3 (.int .i64 0) 1 8 := ⟨Try.underlying24, by kernel_rfl, rfl, by decide⟩
set_option maxRecDepth 100000 in
set_option maxHeartbeats 2000000 in
theorem pnodes_any (w : World) (z : Int) :
    Calls Try.prog 10 #[.int .i64 z] w fun e w' => ∃ A c, e = .returned (.slice A (nodes5 (bitB z) 5).length c) ∧ Row w' A (fun b => w.heap.size ≤ b ∧ b < w'.heap.size) ((nodes5 (bitB z) 5).map (Value.int .i64)) ∧ (nodes5 (bitB z) 5).length ≤ c ∧ c ≤ maxLen ∧ Kp w w' := by
  go_enter Try.func10, Try.ntmps10
  go_wp2_with fail
  go_loopw [3, 4] (fun u i wr => ∃ k : Nat, k ≤ 5 ∧ i = .int .i64 (k : Int) ∧ wr.ownsRow w.heap.size 3 1 u (nodes5 (bitB z) k).length ((nodes5 (bitB z) k).map (Value.int .i64)) ∧ Hid (Kp w wr)) (fun _ i _ => 5 - (intOf i).toNat)
  case atStart => exact ⟨0, Nat.zero_le _, rfl, ⟨by rfl, .inl ⟨rfl, rfl⟩⟩, Lib.hid (Keeps.refl _ _)⟩
  case round =>
    obtain ⟨k, hk, rfl, ho, HK⟩ := hrel
    by_cases hk5 : k < 5
    · have hkI : (k : Int) < 5 := by omega
      have HO := Lib.hid ho
      have hln := nodes5_len (bitB z) k
      have ht := bit_test z k
      have hnx := nodes5_next (bitB z) k
      have hsz := HK.out.size
      clear ho
      cases hq : bitB z k with
      | false =>
        rw [hq] at ht hnx
        have HNX := Lib.hid (show nodes5 (bitB z) (k + 1) = nodes5 (bitB z) k from by rw [hnx]; simp)
        clear hnx hln hq hsz
        go_wp2_with fail
        go_roundw
        case rel => exact ⟨k + 1, by omega, by go_num, by rw [HNX.out]; exact HO.out, HK⟩
        case measure => simp [intOf]; omega
      | true =>
        rw [hq] at ht hnx
        have HNX := Lib.hid (show nodes5 (bitB z) (k + 1) = nodes5 (bitB z) k ++ [(k : Int) + 1] from by rw [hnx]; simp)
        clear hnx hq
        generalize nodes5 (bitB z) k = L at HO HNX hln
        have hsz1 : w.heap.size ≤ (wr.alloc (.cells #[.int .i64 ((k : Int) + 1)] 3)).heap.size := by simp; omega
        go_wp2_with (at_builtin; refine pnode_elem.list_append rfl (.tmp 15) (.tmp 18) _ rfl rfl (HO.out.alloc _) rfl (src_one Try.underlying24 _ _ _ rfl _ rfl _) ?c3 ?c4 hsz1 ?_)
        case c3 => unfold maxLen; omega
        case c4 => omega
        intro v3 w3 ho3 hg3 hb3
        have hown := HO.out
        have hg3' := grown_of_alloc hg3
        have HK3 := Lib.hid (show Kp w w3 from HK.out.grown hg3' fun b hb => (hown.lt b hb).1)
        have HO3 := Lib.hid (show w3.ownsRow w.heap.size 3 1 v3 (nodes5 (bitB z) (k + 1)).length ((nodes5 (bitB z) (k + 1)).map (Value.int .i64)) from by
          rw [HNX.out, List.length_append, List.map_append]
          exact ho3)
        clear ho3 hg3 hb3 hg3' hown hsz hsz1 hln HO HK
        go_wp2_with fail
        go_roundw
        case rel => exact ⟨k + 1, by omega, by go_num, HO3.out, HK3⟩
        case measure => simp [intOf]; omega
    · obtain rfl : k = 5 := by omega
      have HO := Lib.hid ho
      clear hk5 ho
      go_wp2_with fail
      go_ret
      have ho := HO.out
      have hcap : ∃ A c, u3 = .slice A (nodes5 (bitB z) 5).length c ∧ (nodes5 (bitB z) 5).length ≤ c ∧ c ≤ maxLen := by
        rcases ho.2 with ⟨h', h0⟩ | ⟨g', cap', cur, h', _, _, h1, h2, _⟩
        · exact ⟨none, 0, by rw [h0]; exact h', by omega, Nat.zero_le _⟩
        · exact ⟨_, _, h', h1, h2⟩
      obtain ⟨A, c, rfl, h1, h2⟩ := hcap
      have e : (nodes5 (bitB z) 5).length = ((nodes5 (bitB z) 5).map (Value.int .i64)).length := by rw [List.length_map]
      rw [e] at ho
      exact ⟨A, c, rfl, Row.of_own ho, h1, h2, HK.out⟩

end Go.Proofs.Ytcmblihlbmclaaa
