/-
  MadeAt: texts of mine, joined.
-/
import Derived.Test.YtemkjodkmehffaaGreatDoorAllM00
import Derived.Test.YtemkjodkmehffaaGreatDoorAllM11
import Derived.Test.YtemkjodkmehffaaGreatDoorMap
import Derived.WalkKit
import Derived.Lib.Hide
import Derived.Lib.SmallJoins
import Derived.Lib.SlBytesConst
namespace Go.Proofs.YtemkjodkmehffaaGreatDoor
open Go Go.RowKit Go.Joins
def secZ : Value := .agg (Array.replicate 64 (.int .u8 0))
theorem sec_elem : Elem Tryz.prog 67 89 secZ 64 64 := ⟨Tryz.underlying67, by kernel_rfl, rfl, by decide⟩
def sec (l : List UInt8) : Value := .agg (bcells l).toArray
def SDev.look (s : SDev) : Lit → Option Value
 | .int .i64 i => if 0 ≤ i ∧ s.dirty.getD i.toNat false = true then some (sec (s.fast.getD i.toNat [])) else none
 | _ => none
theorem look_at (s : SDev) (x : Int) : s.look (.int .i64 x) = if 0 ≤ x ∧ s.dirty.getD x.toNat false = true then some (sec (s.fast.getD x.toNat [])) else none := rfl
structure DAt (w : World) (p : Nat) (F : Foot) (s : SDev) : Prop where
 ok : s.Ok
 lt : ∀ b, F.all b → b < w.heap.size
 two : ∀ b, F.M b → ¬ F.I b
 same : ∀ i, s.dirty.getD i false = false → s.now.getD i [] = s.fast.getD i []
 ex : ∃ (g c m : Nat),
  w.heap[p]? = some (.cells #[.slice (some ⟨g, 0, none⟩) s.now.length c, .map (some m), .int .i64 (s.calls : Int)] 92 (0, 0)) ∧
  w.ownsRow 0 89 64 (.slice (some ⟨g, 0, none⟩) s.now.length c) s.now.length (flat s.now) ∧
  MapIs Tryz.prog 3 w m s.loose.length s.look ∧ [p, g, m].Nodup ∧ F.M p ∧ F.M g ∧ F.M m
theorem DAt.row {w : World} {g c n : Nat} {rows : List (List UInt8)} (h2 : w.ownsRow 0 89 64 (.slice (some ⟨g, 0, none⟩) n c) n (flat rows)) (hr : ∀ r ∈ rows, r.length = 64) (k : Nat) (hk : k < rows.length) :
  ∀ i v, (bcells rows[k])[i]? = some v → w.cell? ⟨g, k * 64 + i, none⟩ = some v := fun i v hv => by
 have := h2.cells (g := g) rfl _ v (flat_at rows hr k hk i v hv)
 rwa [WideShapes.add_plain, Nat.zero_add] at this
theorem DAt.keep {w w' : World} {p : Nat} {F : Foot} {s : SDev} (h : DAt w p F s) (hk : Keeps F.all w w') : DAt w' p F s := by
 obtain ⟨g, c, m, h1, h2, h3, h4, m1, m2, m3⟩ := h.ex
 refine ⟨h.ok, fun b hb => Nat.lt_of_lt_of_le (h.lt b hb) hk.size, h.two, h.same, g, c, m, ?_, ?_, ?_, h4, m1, m2, m3⟩
 ·rw [hk.block p (.inl m1) (h.lt p (.inl m1))]; exact h1
 ·exact hk.own h2 fun b hb => by cases hb; exact .inl m2
 ·exact h3.keep hk (.inl m3)
theorem dlen_any (w : World) (p : Nat) (F : Foot) (s : SDev) (h : DAt w p F s) : Calls Tryz.prog 83 #[.pointer (some ⟨p, 0, none⟩)] w fun e w' => e = .returned (.int .i64 (s.now.length : Int)) ∧ w = w' := by
 obtain ⟨g, c, m, h1, h2, h3, h4, m1, m2, m3⟩ := h.ex
 have c0 := (cell_of_block h1 0).trans rfl
 clear h1 h2 h3 h4 m1 m2 m3 h
 go_enter Tryz.func83, Tryz.ntmps83
 go_wp2
 go_ret
 exact ⟨rfl, rfl⟩
theorem dcheck_any (w : World) (p : Nat) (F : Foot) (s : SDev) (h : DAt w p F s) (i : Int) : Calls Tryz.prog 112 #[.pointer (some ⟨p, 0, none⟩), .int .i64 i] w fun e w' => e = .returned (.int .i64 (s.readE i)) ∧ w = w' := by
 obtain ⟨g, c, m, h1, h2, h3, h4, m1, m2, m3⟩ := h.ex
 have c0 := (cell_of_block h1 0).trans rfl
 clear h1 h2 h3 h4 m1 m2 m3 h
 by_cases hi : i < 0 ∨ (s.now.length : Int) ≤ i
 ·have hr := Lib.hid (show s.readE i = 4 from if_pos hi)
  have hd : decide (i < 0) = true ∨ decide (i < 0) = false ∧ decide ((s.now.length : Int) ≤ i) = true := by
   by_cases h0 : i < 0
   ·simp [h0]
   ·right; simp; omega
  clear hi
  rcases hd with hd | ⟨hd, hd2⟩
  all_goals
   go_enter Tryz.func112, Tryz.ntmps112
   go_wp2
   go_ret
   exact ⟨by rw [hr.out]; rfl, rfl⟩
 ·have hr := Lib.hid (show s.readE i = 0 from if_neg hi)
  have hd : decide (i < 0) = false := by simp; omega
  have hd2 : decide ((s.now.length : Int) ≤ i) = false := by simp; omega
  clear hi
  go_enter Tryz.func112, Tryz.ntmps112
  go_wp2
  go_ret
  exact ⟨by rw [hr.out]; rfl, rfl⟩
theorem flush_loose (s : SDev) : s.flush.loose = [] := by
 show (List.range (List.replicate s.now.length false).length).filter _ = []
 rw [List.filter_eq_nil_iff]
 intro i hi
 have : i < s.now.length := by simpa using hi
 simp [SDev.flush, List.getD, this]
theorem flush_look (s : SDev) : s.flush.look = fun _ => none := by
 funext l
 unfold SDev.look
 split
 ·rename_i i
  have : s.flush.dirty.getD i.toNat false = false := by
   simp only [SDev.flush, List.getD_eq_getElem?_getD, List.getElem?_replicate]; split <;> rfl
  rw [if_neg (by rw [this]; simp)]
 ·rfl
set_option maxHeartbeats 400000 in
theorem dflush_any (w : World) (p : Nat) (F : Foot) (s : SDev) (h : DAt w p F s) (hcalls : s.calls ≤ 1099511627776) :
  Calls Tryz.prog 85 #[.pointer (some ⟨p, 0, none⟩)] w fun e w' => e = .returned (.int .i64 0) ∧ ∃ F', DAt w' p F' s.flush ∧ Step F F' w w' := by
 obtain ⟨g, c, m, h1, h2, h3, h4, m1, m2, m3⟩ := h.ex
 simp only [List.nodup_cons, List.mem_cons, List.not_mem_nil, or_false, not_or, not_false_eq_true, List.nodup_nil, and_true] at h4
 obtain ⟨⟨d1, d2⟩, d3⟩ := h4
 have hp := h.lt p (.inl m1)
 have hg := h.lt g (.inl m2)
 have c1 : w.cell? ⟨p, 1, none⟩ = some (.map (some m)) := (cell_of_block h1 1).trans rfl
 have c2 : w.cell? ⟨p, 2, none⟩ = some (.int .i64 (s.calls : Int)) := (cell_of_block h1 2).trans rfl
 have f1 := unfrozen_of_block h1 1
 have f2 := unfrozen_of_block h1 2
 have hb1 := block_setCell h1 (i := 1) (.map (some w.heap.size))
 have hb2 := block_setCell hb1 (i := 2) (.int .i64 ((s.calls : Int) + 1))
 have hk0 : Keeps (fun b => b ≠ p) w ((w.setCell ⟨p, 1, none⟩ (.map (some w.heap.size))).setCell ⟨p, 2, none⟩ (.int .i64 ((s.calls : Int) + 1))) :=
  ((Keeps.refl _ w).setCell (.inr fun hn => hn rfl) _).setCell (.inr fun hn => hn rfl) _
 have hsz : ((w.setCell ⟨p, 1, none⟩ (.map (some w.heap.size))).setCell ⟨p, 2, none⟩ (.int .i64 ((s.calls : Int) + 1))).heap.size = w.heap.size := by simp [World.setCell]
 have hfin : ∃ F', DAt (((w.setCell ⟨p, 1, none⟩ (.map (some w.heap.size))).setCell ⟨p, 2, none⟩ (.int .i64 ((s.calls : Int) + 1))).alloc (.map #[] 0)) p F' s.flush ∧ Step F F' w (((w.setCell ⟨p, 1, none⟩ (.map (some w.heap.size))).setCell ⟨p, 2, none⟩ (.int .i64 ((s.calls : Int) + 1))).alloc (.map #[] 0)) := by
  generalize ((w.setCell ⟨p, 1, none⟩ (.map (some w.heap.size))).setCell ⟨p, 2, none⟩ (.int .i64 ((s.calls : Int) + 1))) = W at hb2 hk0 hsz
  have hm0 := MapIs.made Tryz.prog 3 W
  have hk1 := hk0.alloc (.map #[] 0)
  have hs2 := hk1.size
  have hz : (W.alloc (.map #[] 0)).heap.size = w.heap.size + 1 := by simp [hsz]
  refine ⟨⟨fun b => b = p ∨ b = g ∨ b = w.heap.size, fun _ => False⟩, ⟨flush_ok s h.ok, fun b hb => ?_, fun b _ hi => hi, fun i _ => rfl, g, c, w.heap.size, ?_, ?_, ?_, ?_, .inl rfl, .inr (.inl rfl), .inr (.inr rfl)⟩, ⟨hk1.mono fun b _ hb e => ?_, fun b hb => ?_, fun b hb => hb.elim⟩⟩
  ·rcases hb with (rfl | rfl | rfl) | hb <;> first | omega | exact hb.elim
  ·exact (Below.heap_alloc W _ p (by omega)).trans hb2
  ·exact hk1.own h2 fun b hb => by cases hb; exact Ne.symm d1
  ·rw [flush_loose, flush_look, ← hsz]
   exact hm0
  ·simp; omega
  ·subst e; exact hb m1
  ·rcases hb with rfl | rfl | rfl
   ·exact .inl m1
   ·exact .inl m2
   ·exact .inr (Nat.le_refl _)
 have HF := Lib.hid hfin
 have hmm := @run_makeMap Tryz.prog
 clear h1 h2 h3 m1 m2 m3 h hb1 hb2 hk0 hfin hsz
 go_enter Tryz.func85, Tryz.ntmps85
 go_wp2
 go_ret
 exact ⟨rfl, HF.out⟩
end Go.Proofs.YtemkjodkmehffaaGreatDoor
