/-
  WHAT THE PROGRAM's INDEX TAKES OF Go's LIBRARY: strings.Clone, and slices.Sort of texts.
-/
import Derived.Test.YtilcmlioofkkmaaIdxLay
import Derived.Test.YtilcmlioofkkmaaIndexIf
import Derived.Sort.OwnSorted
import Derived.Lib.Hide
import Derived.Lib.SmallJoins
import Derived.WalkKit
namespace Go.Proofs.Ytilcmlioofkkmaa
open Go Go.RowKit Go.Joins Go.Sort

set_option maxRecDepth 100000 in
theorem sclone_any (s : ByteArray) (w : World) (hs : s.size ≤ 281474976710656) :
    Calls Try.prog 25 #[.string s] w fun e w' => e = .returned (.string s) ∧ Keeps (fun _ => True) w w' := by
  have hC := Lib.hid (show Calls Try.prog 33 #[.string s] w fun e w' => e = .returned (.string s) ∧ Below w.heap.size w w' from Any.stringslite_Clone Try.cloneA s w hs)
  clear hs
  go_enter Try.func25, Try.ntmps25
  go_wp2_with fail
  refine (show Calls _ _ _ _ _ from hC.out).mono ?_
  rintro e w1 ⟨rfl, hb⟩
  have hk : Keeps (fun _ => True) w w1 := Keeps.of_below hb _
  go_wp2_with fail
  go_ret
  exact ⟨rfl, hk⟩

theorem enc_is (l : List ByteArray) : l.map Value.string = (l.map fun s => s.data.toList).map encStr := by
  rw [List.map_map]
  refine List.map_congr_left fun s _ => ?_
  show _ = encStr s.data.toList
  unfold encStr
  simp
theorem txt_map (l : List (List UInt8)) : (l.map txt).map Value.string = l.map encStr := by
  rw [List.map_map]
  rfl
theorem rising_of {l : List (List UInt8)} (h : l.Pairwise fun a b => a ≤ b) (hn : l.Nodup) : Rising (l.map txt) := by
  unfold Rising
  rw [List.pairwise_map]
  refine (h.and hn).imp fun {a b} hab => ?_
  show Op.bytesLess a b = true
  rw [bytesLess_eq, decide_eq_true_eq]
  rcases List.le_iff_lt_or_eq.1 hab.1 with h1 | h1
  · exact h1
  · exact absurd h1 hab.2
/-- A row of texts that the call owns, sorted in place. -/
theorem sort_any (w : World) (base : Nat) (B : Option Addr) (c : Nat) (l : List ByteArray) (hnd : l.Nodup) (ho : w.ownsRow base 9 1 (.slice B l.length c) l.length (l.map Value.string)) (hl : l.length ≤ 68719476736) :
    Calls Try.prog 29 #[.slice B l.length c] w fun e w' => e = .returned (.tuple #[]) ∧ ∃ ks : List ByteArray, ks.Perm l ∧ Rising ks ∧ w'.ownsRow base 9 1 (.slice B l.length c) l.length (ks.map Value.string) ∧ Keeps (fun b => ∀ o, B ≠ some ⟨b, o, none⟩) w w' := by
  rcases Nat.eq_zero_or_pos l.length with h0 | h0
  · have hl0 := List.eq_nil_of_length_eq_zero h0
    subst hl0
    refine (show Calls Try.prog 29 #[.slice B 0 c] w fun e w' => e = .returned (.tuple #[]) ∧ w' = w from Any.slices_Sort_string_none Try.sortA B c w).mono ?_
    rintro e w' ⟨rfl, rfl⟩
    exact ⟨rfl, [], List.Perm.refl _, List.Pairwise.nil, ho, Keeps.refl _ _⟩
  · rcases ho.2 with ⟨-, h1⟩ | ⟨g, cap, cur, hv, hbase, hb, hcap, hmax, hsz, htake⟩
    · omega
    injection hv with e1 e2 e3
    subst e1 e3
    have hll : (l.map fun s => s.data.toList).length = l.length := by simp
    have hH : Holds encStr w g 0 (l.map fun s => s.data.toList).toArray := holds_of_block hb (by rw [hll, ← enc_is, ← htake, Nat.mul_one])
    have hlt : g < w.heap.size := (Array.getElem?_eq_some_iff.1 hb).1
    have h := Any.slices_Sort_string Try.sortA g 0 c (l.map fun s => s.data.toList) w hH hlt (by rw [hll]; omega)
    rw [hll] at h
    refine (show Calls Try.prog 29 #[.slice (some ⟨g, 0, none⟩) l.length c] w _ from h).mono ?_
    rintro e w' ⟨rfl, n, os, rfl⟩
    have hperm := List.mergeSort_perm (l.map fun s => s.data.toList) (fun x y => decide (x ≤ y))
    have hlen : ((l.map fun s => s.data.toList).mergeSort fun x y => decide (x ≤ y)).length = (l.map fun s => s.data.toList).length := hperm.length_eq
    have hsorted : ((l.map fun s => s.data.toList).mergeSort fun x y => decide (x ≤ y)).Pairwise fun a b => a ≤ b := by
      have := List.pairwise_mergeSort (le := fun x y : List UInt8 => decide (x ≤ y)) (by
        intro a b c h1 h2
        rw [decide_eq_true_eq] at h1 h2 ⊢
        exact List.le_trans h1 h2) (by
        intro a b
        rw [Bool.or_eq_true, decide_eq_true_eq, decide_eq_true_eq]
        exact List.le_total a b) (l.map fun s => s.data.toList)
      exact this.imp fun h => by simpa using h
    have hnd' : (l.map fun s => s.data.toList).Nodup := List.pairwise_map.2 (hnd.imp fun hab e => hab (ByteArray.ext (Array.toList_inj.1 e)))
    have hback : (l.map fun s => s.data.toList).map txt = l := by
      rw [List.map_map]
      refine (List.map_congr_left fun s _ => ?_).trans (List.map_id l)
      exact txt_data s
    refine ⟨rfl, ((l.map fun s => s.data.toList).mergeSort fun x y => decide (x ≤ y)).map txt, ?_, rising_of hsorted (hperm.nodup_iff.2 hnd'), ?_, ?_⟩
    · have := hperm.map txt
      rwa [hback] at this
    · rw [txt_map]
      have := ownsRow_sorted (w := w) (base := base) (g := g) (cap := c) (n := n) (os := os) hlen hbase hb (by rw [hll]; exact hcap) hmax hsz
      rwa [hll] at this
    · refine Keeps.of_grown (grownBy_sorted _) fun b hb _ hno => ?_
      injection hb with hb
      subst hb
      exact hno 0 rfl

end Go.Proofs.Ytilcmlioofkkmaa
