/-
  THE REFERENCE's EqInts OVER EQUAL ROWS, its hash of one text (layers 14, 15).
-/
import Derived.Test.YtonalhjhokkcmaaRgNodes
import Derived.BigQuiet
namespace Go.Proofs.Ytonalhjhokkcmaa
open Go Go.RowKit Go.Joins

theorem rof_one (w : World) (s : ByteArray) (hs : s.size ≤ maxLen) : Calls Try.prog 22 #[.slice (some ⟨w.heap.size, 0, none⟩) 1 1] (w.alloc (.cells #[.string s] 9)) fun e w' => e = .returned (.int .u64 (partsZ [s])) ∧ Kp w w' :=
  (rof_any [s] w.heap.size 0 1 (w.alloc (.cells #[.string s] 9)) (show 1 ≤ maxLen by decide) (fun x hx => by rw [List.mem_singleton.1 hx]; exact hs) (fun i hi => by
    obtain rfl : i = 0 := by simpa using hi
    have h := cell_of_block (heap_alloc_new w (.cells #[.string s] 9)) 0
    exact h.trans rfl)).mono fun e w' ⟨h1, h2⟩ => ⟨h1, by rw [← h2]; exact (Keeps.refl _ w).alloc _⟩
theorem part_u64 (h : Int) (s : ByteArray) : 0 ≤ partZ h s ∧ partZ h s < 18446744073709551616 := ⟨stZ_nonneg _, stZ_lt _⟩
theorem parts_u64 (s : ByteArray) : 0 ≤ partsZ [s] ∧ partsZ [s] < 18446744073709551616 := part_u64 _ s
set_option maxRecDepth 100000 in
set_option maxHeartbeats 1000000 in
theorem eqints_same (w : World) (A B : Option Addr) (c d : Nat) (l : List Int) (hA : Row w A (fun _ => True) (l.map (Value.int .i64))) (hB : Row w B (fun _ => True) (l.map (Value.int .i64))) (hm : l.length ≤ 9223372036854775807) :
    Calls Try.prog 15 #[.slice A l.length c, .slice B l.length d] w fun e w' => e = .returned (.bool true) ∧ Kp w w' := by
  have HA := Lib.hid hA
  have HB := Lib.hid hB
  obtain ⟨N, hN⟩ : ∃ N, l.length = N := ⟨_, rfl⟩
  have HN := Lib.hid hN
  rw [hN] at hm ⊢
  have t0 : ((N : Int) != (N : Int)) = false := by simp
  clear hA hB hN
  go_enter Try.func15, Try.ntmps15
  go_wp2_with fail
  go_loopw [5] (fun i wr => ∃ k : Nat, k ≤ N ∧ i = .int .i64 (k : Int) ∧ Hid (Kp w wr)) (fun i _ => N - (intOf i).toNat)
  case atStart => exact ⟨0, Nat.zero_le _, rfl, Lib.hid (Keeps.refl _ _)⟩
  case round =>
    obtain ⟨k, hk, rfl, HK⟩ := hrel
    by_cases hkN : k < N
    · have hkI : (k : Int) < (N : Int) := by omega
      have hkl' : k < l.length := by rw [HN.out]; exact hkN
      have hkl : k < (l.map (Value.int .i64)).length := by rw [List.length_map]; exact hkl'
      obtain ⟨b, o, rfl, -, c0⟩ := (HA.out.keep HK.out).at_ hkl
      obtain ⟨b2, o2, rfl, -, c1⟩ := (HB.out.keep HK.out).at_ hkl
      rw [List.getElem_map] at c0 c1
      generalize l[k] = x at c0 c1
      have t1 : (x != x) = false := by simp
      have HK2 := Lib.hid HK.out.drew
      clear hkl hkl'
      go_wp2_with fail
      go_region
      go_wp2_with fail
      go_roundw
      case rel => exact ⟨k + 1, by omega, by go_num, HK2⟩
      case measure => simp [intOf]; omega
    · obtain rfl : k = N := by omega
      clear hkN
      go_wp2_with fail
      go_ret
      exact ⟨rfl, HK.out⟩

end Go.Proofs.Ytonalhjhokkcmaa
