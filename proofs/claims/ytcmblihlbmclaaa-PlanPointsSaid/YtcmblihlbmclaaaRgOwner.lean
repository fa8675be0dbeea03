/-
  THE PROGRAM's OWNER OF A HASH (layer 14): Owner, Of.
-/
import Derived.Test.YtcmblihlbmclaaaAllRgA
import Derived.Test.YtcmblihlbmclaaaRgLay
import Derived.Test.YtcmblihlbmclaaaOf
import Derived.Shelf.SlSorted.Search
namespace Go.Proofs.Ytcmblihlbmclaaa
open Go Go.RowKit Go.Joins

set_option maxRecDepth 100000 in
set_option maxHeartbeats 1000000 in
/-- The closure: is the point at i at h or behind it? -/
theorem rclose_any (W : World) (br bh r b o n cb i : Nat) (h z : Int) (hi : i < n) (h0 : W.cell? ⟨br, 0, none⟩ = some (.pointer (some ⟨r, 0, none⟩))) (h1 : W.cell? ⟨bh, 0, none⟩ = some (.int .u64 h))
    (h2 : W.cell? ⟨r, 2, none⟩ = some (.slice (some ⟨b, o, none⟩) n cb)) (hc : W.cell? ⟨b, o + i * 2, none⟩ = some (.int .u64 z)) :
    Calls Try.prog 35 (#[.int .i64 i] ++ #[.pointer (some ⟨br, 0, none⟩), .pointer (some ⟨bh, 0, none⟩)]) W fun e w' => e = .returned (.bool (decide (h ≤ z))) ∧ ∃ q, w' = W.drewN q := by
  have hiz : (i : Int) < (n : Int) := by omega
  go_enter Try.func35, Try.ntmps35
  go_wp2_with fail
  go_region
  all_goals go_wp2_with fail
  all_goals go_ret
  all_goals exact ⟨by first | rfl | simp, 1, rfl⟩

set_option maxRecDepth 100000 in
theorem mowner_nil (w : World) (h : Int) : Calls Try.prog 21 #[.pointer none, .int .u64 h] w fun x w' => x = .returned (.int .i64 0) ∧ Kp w w' := by
  have HK := Lib.hid (((Keeps.refl (fun _ => True) w).alloc (.cells #[.pointer none] 28)).alloc (.cells #[.int .u64 h] 30))
  go_enter Try.func21, Try.ntmps21
  go_wp2_with fail
  go_ret
  exact ⟨rfl, HK.out⟩

set_option maxRecDepth 100000 in
set_option maxHeartbeats 1000000 in
theorem mowner_any (w : World) (r : Nat) (F : Nat → Prop) (e : Int) (l : List Int) (A : Option Addr) (c : Nat) (B : Option Addr) (cb : Nat) (h : Int) (hC : RgC w r F e l A c B cb) (hn : nodesB l = true) :
    Calls Try.prog 21 #[.pointer (some ⟨r, 0, none⟩), .int .u64 h] w fun x w' => x = .returned (.int .i64 (ownerL l h)) ∧ Kp w w' := by
  have h5 := nodes_five hn
  have h0 := (nodesB_iff.1 hn).1
  have hpl := pts_len l
  have hpr := prow_len (pts l)
  obtain ⟨b, o, rfl, -, hcell⟩ := hC.prow (by intro e; rw [e] at hpr; simp at hpr; omega)
  obtain ⟨W0, hW0⟩ : ∃ W0, W0 = (w.alloc (.cells #[.pointer (some ⟨r, 0, none⟩)] 28)).alloc (.cells #[.int .u64 h] 30) := ⟨_, rfl⟩
  have hKW : Kp w W0 := by rw [hW0]; exact ((Keeps.refl _ w).alloc _).alloc _
  have hsize : W0.heap.size = w.heap.size + 1 + 1 := by rw [hW0]; simp
  have ca : W0.cell? ⟨w.heap.size, 0, none⟩ = some (.pointer (some ⟨r, 0, none⟩)) := by rw [hW0]; exact cell_alloc_sl _ (cell_new_sl w _ _)
  have cx : W0.cell? ⟨w.heap.size + 1, 0, none⟩ = some (.int .u64 h) := by rw [hW0]; have := cell_new_sl (w.alloc (.cells #[.pointer (some ⟨r, 0, none⟩)] 28)) (.int .u64 h) 30; rwa [World.size_alloc] at this
  have c2 := hKW.cell hC.e2 trivial
  have hrs : r < W0.heap.size := World.block_lt_of_cell? W0 _ c2
  have hws : w.heap.size < W0.heap.size := by omega
  have hsz : ((pts l).map P2.place).toArray.size = 8 * l.length := by simp [hpl]
  have cp : ∀ i, i < 8 * l.length → W0.cell? ⟨b, o + i * 2, none⟩ = some (.int .u64 ((pts l).map P2.place).toArray[i]!) := by
    intro i hi
    have h1 := prow_at (pts l) i 0 (by omega) (by omega)
    have h2 := hKW.cell (hcell _ _ h1) trivial
    rw [getElem!_pos _ i (by rw [hsz]; exact hi)]
    have h3 : W0.cell? ⟨b, o + i * 2, none⟩ = some (.int .u64 ((pts l)[i]'(by omega)).place) := h2
    simpa using h3
  have cn : ∀ k x, (pts l)[k]? = some x → W0.cell? ⟨b, o + k * 2 + 1, none⟩ = some (.int .i64 x.node) := by
    intro k x hx
    obtain ⟨hk, rfl⟩ := List.getElem?_eq_some_iff.1 hx
    have h1 := prow_at (pts l) k 1 hk (by omega)
    exact hKW.cell (hcell _ _ h1) trivial
  have hbs : b < W0.heap.size := World.block_lt_of_cell? W0 _ (cp 0 (by omega))
  have eg : ∀ args w, (callFunc 35 args).run Try.prog w = .ok (.enter 35 args) w := enters_of Try.func35 (by kernel_rfl) rfl
  have hS := Any.sort_Search Try.searchR 35 #[.pointer (some ⟨w.heap.size, 0, none⟩), .pointer (some ⟨w.heap.size + 1, 0, none⟩)] (8 * l.length) (fun i => decide (h ≤ ((pts l).map P2.place).toArray[i]!)) W0 eg (by omega)
    (fun m os i hi => (rclose_any _ w.heap.size (w.heap.size + 1) r b o (8 * l.length) cb i h _ hi (cell_grown (by simp [hsize]; omega) ca m os) (cell_grown (by simp [hsize]) cx m os) (cell_grown hrs c2 m os) (cell_grown hbs (cp i hi) m os)).mono
      fun _ _ ⟨he, q, hq⟩ => ⟨he, q, #[], by rw [hq, Go.Sort.grow_empty]⟩)
    (fun a b hab hb ha => by
      have hp := pts_up l h
      rcases Nat.lt_or_eq_of_le hab with hlt | rfl
      · have := List.pairwise_iff_getElem.1 hp a b (by omega) (by omega) hlt
        rw [getElem!_pos _ a (by rw [hsz]; omega)] at ha
        rw [getElem!_pos _ b (by rw [hsz]; omega)]
        simpa using this (by simpa using ha)
      · exact ha)
  rw [← hsz, Go.Lib.countP_range ((pts l).map P2.place).toArray (fun y => !decide (h ≤ y)), hsz] at hS
  rw [show ((pts l).map P2.place).toArray.toList.countP (fun y => !decide (h ≤ y)) = seekN l h from by unfold seekN; rw [List.toList_toArray, List.countP_map]; rfl] at hS
  obtain ⟨k, hk⟩ : ∃ k, seekN l h % (8 * l.length) = k := ⟨_, rfl⟩
  obtain ⟨x, hx, hox, hkl⟩ := seek_own hn h k hk
  have hcn := cn k x hx
  have hsl := seek_le l h
  have HX := Lib.hid hox
  have HG := Lib.hid (show ∀ q os, W0.heap.size ≤ (Go.Sort.grow (W0.drewN q) os).heap.size ∧ Kp w (Go.Sort.grow (W0.drewN q) os) ∧ (Go.Sort.grow (W0.drewN q) os).cell? ⟨w.heap.size, 0, none⟩ = some (.pointer (some ⟨r, 0, none⟩)) ∧ (Go.Sort.grow (W0.drewN q) os).cell? ⟨r, 2, none⟩ = some (.slice (some ⟨b, o, none⟩) (8 * l.length) cb) ∧ (Go.Sort.grow (W0.drewN q) os).cell? ⟨b, o + k * 2 + 1, none⟩ = some (.int .i64 x.node) from
    fun q os => ⟨by simp, hKW.trans ⟨rfl, rfl, rfl, by simp, fun b _ hb => (Go.Sort.heap_grow_old (W0.drewN q) os hb).trans rfl⟩, cell_grown hws ca q os, cell_grown hrs c2 q os, cell_grown hbs hcn q os⟩)
  have c0 := c2
  rw [hW0] at c0
  generalize seekN l h = m at hk hS hsl
  generalize hN : 8 * l.length = N at *
  clear hcell hC hpl hpr cp cn hx hcn hn hsz eg hox
  have HS := Lib.hid hS
  have HW := Lib.hid hW0
  have hnz : (((N : Nat) : Int) == 0) = false := by simp; omega
  clear hS hW0 hKW ca cx c2
  go_enter Try.func21, Try.ntmps21
  go_wp2_with fail
  rw [← HW.out]
  refine (show Calls _ _ _ _ _ from HS.out).mono ?_
  rintro e w1 ⟨rfl, q, os, rfl⟩
  obtain ⟨-, hk1, ca, c2, cn⟩ := HG.out q os
  generalize Go.Sort.grow (W0.drewN q) os = w1 at *
  have HK := Lib.hid hk1
  clear hk1 HG HS HW c0 hws hsize
  have hkI : (k : Int) < (N : Int) := by omega
  have hrem : ((m : Int).tmod (N : Int)) = (k : Int) := by rw [← hk]; exact (Int.ofNat_tmod m N).symm
  clear hk
  go_wp2_with fail
  go_region
  all_goals go_wp2_with fail
  all_goals go_ret
  all_goals exact ⟨by rw [HX.out]; rfl, HK.out.drew⟩

end Go.Proofs.Ytcmblihlbmclaaa
