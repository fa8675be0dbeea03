/-
  THE PROGRAM's DEVICE: how it lies in memory; Len, Calls, check, Flush; the answers without a device.
-/
import Derived.Test.YtajapklpdfikoaaDoorDevMath
import Derived.Test.YtajapklpdfikoaaDoorObj
import Derived.Test.YtajapklpdfikoaaDoorNats
import Derived.Test.YtajapklpdfikoaaDoorBytes
import Derived.Test.YtajapklpdfikoaaDoorArr
import Derived.Test.YtajapklpdfikoaaDoorMap
import Derived.WalkKit
import Derived.Lib.Hide
import Derived.Lib.SmallJoins
import Derived.Lib.SlBytesConst
namespace Go.Proofs.YtajapklpdfikoaaDoor
open Go Go.RowKit Go.Joins

def secZ : Value := .agg (Array.replicate 64 (.int .u8 0))
theorem sec_elem : Elem Tryd.prog 70 80 secZ 64 64 := ⟨Tryd.underlying70, by kernel_rfl, rfl, by decide⟩
/-- A sector, as a value. -/
def sec (l : List UInt8) : Value := .agg (bcells l).toArray
theorem sec_blank : sec blank = secZ := rfl
/-- What the map has: each loose sector as it was at the last Flush. -/
def SDev.look (s : SDev) : Lit → Option Value
  | .int .i64 i => if 0 ≤ i ∧ s.dirty.getD i.toNat false = true then some (sec (s.fast.getD i.toNat [])) else none
  | _ => none

theorem look_at (s : SDev) (x : Int) : s.look (.int .i64 x) = if 0 ≤ x ∧ s.dirty.getD x.toNat false = true then some (sec (s.fast.getD x.toNat [])) else none := rfl

/-- The program's device at block p. -/
structure DAt (w : World) (p : Nat) (F : Foot) (s : SDev) : Prop where
  ok : s.Ok
  lt : ∀ b, F.all b → b < w.heap.size
  two : ∀ b, F.M b → ¬ F.I b
  same : ∀ i, s.dirty.getD i false = false → s.now.getD i [] = s.fast.getD i []
  ex : ∃ (g c m : Nat),
    w.heap[p]? = some (.cells #[.slice (some ⟨g, 0, none⟩) s.now.length c, .map (some m), .int .i64 (s.calls : Int)] 83 (0, 0)) ∧
    w.ownsRow 0 80 64 (.slice (some ⟨g, 0, none⟩) s.now.length c) s.now.length (flat s.now) ∧
    MapIs Tryd.prog 3 w m s.loose.length s.look ∧ [p, g, m].Nodup ∧ F.M p ∧ F.M g ∧ F.M m

/-- A sector's bytes, in memory. -/
theorem DAt.row {w : World} {g c n : Nat} {rows : List (List UInt8)} (h2 : w.ownsRow 0 80 64 (.slice (some ⟨g, 0, none⟩) n c) n (flat rows)) (hr : ∀ r ∈ rows, r.length = 64) (k : Nat) (hk : k < rows.length) :
    ∀ i v, (bcells rows[k])[i]? = some v → w.cell? ⟨g, k * 64 + i, none⟩ = some v := fun i v hv => by
  have := h2.cells (g := g) rfl _ v (flat_at rows hr k hk i v hv)
  rwa [WideShapes.add_plain, Nat.zero_add] at this

theorem DAt.keep {w w' : World} {p : Nat} {F : Foot} {s : SDev} (h : DAt w p F s) (hk : Keeps F.all w w') : DAt w' p F s := by
  obtain ⟨g, c, m, h1, h2, h3, h4, m1, m2, m3⟩ := h.ex
  refine ⟨h.ok, fun b hb => Nat.lt_of_lt_of_le (h.lt b hb) hk.size, h.two, h.same, g, c, m, ?_, ?_, ?_, h4, m1, m2, m3⟩
  · rw [hk.block p (.inl m1) (h.lt p (.inl m1))]; exact h1
  · exact hk.own h2 fun b hb => by cases hb; exact .inl m2
  · exact h3.keep hk (.inl m3)

theorem dlen_any (w : World) (p : Nat) (F : Foot) (s : SDev) (h : DAt w p F s) : Calls Tryd.prog 56 #[.pointer (some ⟨p, 0, none⟩)] w fun e w' => e = .returned (.int .i64 (s.now.length : Int)) ∧ w = w' := by
  obtain ⟨g, c, m, h1, h2, h3, h4, m1, m2, m3⟩ := h.ex
  have c0 := (cell_of_block h1 0).trans rfl
  clear h1 h2 h3 h4 m1 m2 m3 h
  go_enter Tryd.func56, Tryd.ntmps56
  go_wp2
  go_ret
  exact ⟨rfl, rfl⟩
theorem dcheck_any (w : World) (p : Nat) (F : Foot) (s : SDev) (h : DAt w p F s) (i : Int) : Calls Tryd.prog 43 #[.pointer (some ⟨p, 0, none⟩), .int .i64 i] w fun e w' => e = .returned (.int .i64 (s.readE i)) ∧ w = w' := by
  obtain ⟨g, c, m, h1, h2, h3, h4, m1, m2, m3⟩ := h.ex
  have c0 := (cell_of_block h1 0).trans rfl
  clear h1 h2 h3 h4 m1 m2 m3 h
  by_cases hi : i < 0 ∨ (s.now.length : Int) ≤ i
  · have hr := Lib.hid (show s.readE i = 4 from if_pos hi)
    have hd : decide (i < 0) = true ∨ decide (i < 0) = false ∧ decide ((s.now.length : Int) ≤ i) = true := by
      by_cases h0 : i < 0
      · simp [h0]
      · right; simp; omega
    clear hi
    rcases hd with hd | ⟨hd, hd2⟩
    all_goals
      go_enter Tryd.func43, Tryd.ntmps43
      go_wp2
      go_ret
      exact ⟨by rw [hr.out]; rfl, rfl⟩
  · have hr := Lib.hid (show s.readE i = 0 from if_neg hi)
    have hd : decide (i < 0) = false := by simp; omega
    have hd2 : decide ((s.now.length : Int) ≤ i) = false := by simp; omega
    clear hi
    go_enter Tryd.func43, Tryd.ntmps43
    go_wp2
    go_ret
    exact ⟨by rw [hr.out]; rfl, rfl⟩

/-! ### Without a device -/
theorem dlen_nil (w : World) : Calls Tryd.prog 56 #[.pointer none] w fun e w' => e = .returned (.int .i64 0) ∧ w = w' := by
  go_enter Tryd.func56, Tryd.ntmps56
  go_wp2
  go_ret
  exact ⟨rfl, rfl⟩
theorem dcheck_nil (w : World) (i : Int) : Calls Tryd.prog 43 #[.pointer none, .int .i64 i] w fun e w' => e = .returned (.int .i64 8) ∧ w = w' := by
  go_enter Tryd.func43, Tryd.ntmps43
  go_wp2
  go_ret
  exact ⟨rfl, rfl⟩
theorem dread_nil (w : World) (i : Int) : Calls Tryd.prog 24 #[.pointer none, .int .i64 i] w fun e w' => ∃ v, e = .returned (.tuple #[v, .int .i64 8]) ∧ Keeps (fun _ => True) w w' := by
  go_enter Tryd.func24, Tryd.ntmps24
  go_wp2_with fail
  refine (dcheck_nil _ _).mono ?_
  rintro e w' ⟨rfl, rfl⟩
  go_wp2_with fail
  go_ret2
  exact ⟨_, rfl, Keeps.refl _ _⟩
theorem dwrite_nil (w : World) (i : Int) (A : Option Addr) (n c : Nat) : Calls Tryd.prog 25 #[.pointer none, .int .i64 i, .slice A n c] w fun e w' => e = .returned (.int .i64 8) ∧ Keeps (fun _ => True) w w' := by
  go_enter Tryd.func25, Tryd.ntmps25
  go_wp2_with fail
  refine (dcheck_nil _ _).mono ?_
  rintro e w' ⟨rfl, rfl⟩
  go_wp2_with fail
  go_ret
  exact ⟨rfl, Keeps.refl _ _⟩
theorem dflush_nil (w : World) : Calls Tryd.prog 39 #[.pointer none] w fun e w' => e = .returned (.int .i64 8) ∧ Keeps (fun _ => True) w w' := by
  go_enter Tryd.func39, Tryd.ntmps39
  go_wp2
  go_ret
  exact ⟨rfl, Keeps.refl _ _⟩
theorem dloose_nil (w : World) : Calls Tryd.prog 41 #[.pointer none] w fun e w' => ∃ A c, e = .returned (.slice A 0 c) ∧ Keeps (fun _ => True) w w' := by
  go_enter Tryd.func41, Tryd.ntmps41
  go_wp2
  go_ret
  exact ⟨_, _, rfl, Keeps.refl _ _⟩
theorem dcrash_nil (w : World) (v : Value) : Calls Tryd.prog 19 #[.pointer none, v] w fun e w' => e = .returned (.pointer none) ∧ Keeps (fun _ => True) w w' := by
  go_enter Tryd.func19, Tryd.ntmps19
  go_wp2
  go_ret
  exact ⟨rfl, Keeps.refl _ _⟩
/-! ### Flush -/
theorem flush_loose (s : SDev) : s.flush.loose = [] := by
  show (List.range (List.replicate s.now.length false).length).filter _ = []
  rw [List.filter_eq_nil_iff]
  intro i hi
  have : i < s.now.length := by simpa using hi
  simp [SDev.flush, List.getD, this]
theorem flush_look (s : SDev) : s.flush.look = fun _ => none := by
  funext l
  unfold SDev.look
  split
  · rename_i i
    have : s.flush.dirty.getD i.toNat false = false := by
      simp only [SDev.flush, List.getD_eq_getElem?_getD, List.getElem?_replicate]; split <;> rfl
    rw [if_neg (by rw [this]; simp)]
  · rfl
set_option maxHeartbeats 400000 in
theorem dflush_any (w : World) (p : Nat) (F : Foot) (s : SDev) (h : DAt w p F s) (hcalls : s.calls ≤ 1099511627776) :
    Calls Tryd.prog 39 #[.pointer (some ⟨p, 0, none⟩)] w fun e w' => e = .returned (.int .i64 0) ∧ ∃ F', DAt w' p F' s.flush ∧ Step F F' w w' := by
  obtain ⟨g, c, m, h1, h2, h3, h4, m1, m2, m3⟩ := h.ex
  simp only [List.nodup_cons, List.mem_cons, List.not_mem_nil, or_false, not_or, not_false_eq_true, List.nodup_nil, and_true] at h4
  obtain ⟨⟨d1, d2⟩, d3⟩ := h4
  have hp := h.lt p (.inl m1)
  have hg := h.lt g (.inl m2)
  have c1 : w.cell? ⟨p, 1, none⟩ = some (.map (some m)) := (cell_of_block h1 1).trans rfl
  have c2 : w.cell? ⟨p, 2, none⟩ = some (.int .i64 (s.calls : Int)) := (cell_of_block h1 2).trans rfl
  have f1 := unfrozen_of_block h1 1
  have f2 := unfrozen_of_block h1 2
  have hb1 := block_setCell h1 (i := 1) (.map (some w.heap.size))
  have hb2 := block_setCell hb1 (i := 2) (.int .i64 ((s.calls : Int) + 1))
  have hk0 : Keeps (fun b => b ≠ p) w ((w.setCell ⟨p, 1, none⟩ (.map (some w.heap.size))).setCell ⟨p, 2, none⟩ (.int .i64 ((s.calls : Int) + 1))) :=
    ((Keeps.refl _ w).setCell (.inr fun hn => hn rfl) _).setCell (.inr fun hn => hn rfl) _
  have hsz : ((w.setCell ⟨p, 1, none⟩ (.map (some w.heap.size))).setCell ⟨p, 2, none⟩ (.int .i64 ((s.calls : Int) + 1))).heap.size = w.heap.size := by simp [World.setCell]
  have hfin : ∃ F', DAt (((w.setCell ⟨p, 1, none⟩ (.map (some w.heap.size))).setCell ⟨p, 2, none⟩ (.int .i64 ((s.calls : Int) + 1))).alloc (.map #[] 0)) p F' s.flush ∧ Step F F' w (((w.setCell ⟨p, 1, none⟩ (.map (some w.heap.size))).setCell ⟨p, 2, none⟩ (.int .i64 ((s.calls : Int) + 1))).alloc (.map #[] 0)) := by
    generalize ((w.setCell ⟨p, 1, none⟩ (.map (some w.heap.size))).setCell ⟨p, 2, none⟩ (.int .i64 ((s.calls : Int) + 1))) = W at hb2 hk0 hsz
    have hm0 := MapIs.made Tryd.prog 3 W
    have hk1 := hk0.alloc (.map #[] 0)
    have hs2 := hk1.size
    have hz : (W.alloc (.map #[] 0)).heap.size = w.heap.size + 1 := by simp [hsz]
    refine ⟨⟨fun b => b = p ∨ b = g ∨ b = w.heap.size, fun _ => False⟩, ⟨flush_ok s h.ok, fun b hb => ?_, fun b _ hi => hi, fun i _ => rfl, g, c, w.heap.size, ?_, ?_, ?_, ?_, .inl rfl, .inr (.inl rfl), .inr (.inr rfl)⟩, ⟨hk1.mono fun b _ hb e => ?_, fun b hb => ?_, fun b hb => hb.elim⟩⟩
    · rcases hb with (rfl | rfl | rfl) | hb <;> first | omega | exact hb.elim
    · exact (Below.heap_alloc W _ p (by omega)).trans hb2
    · exact hk1.own h2 fun b hb => by cases hb; exact Ne.symm d1
    · rw [flush_loose, flush_look, ← hsz]
      exact hm0
    · simp; omega
    · subst e; exact hb m1
    · rcases hb with rfl | rfl | rfl
      · exact .inl m1
      · exact .inl m2
      · exact .inr (Nat.le_refl _)
  have HF := Lib.hid hfin
  have hmm := @run_makeMap Tryd.prog
  clear h1 h2 h3 m1 m2 m3 h hb1 hb2 hk0 hfin hsz
  go_enter Tryd.func39, Tryd.ntmps39
  go_wp2
  go_ret
  exact ⟨rfl, HF.out⟩

end Go.Proofs.YtajapklpdfikoaaDoor
