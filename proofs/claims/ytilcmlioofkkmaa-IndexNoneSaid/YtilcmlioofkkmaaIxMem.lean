/-
  THE PROGRAM's INDEX IN MEMORY: its block, its row of slots; home, behind, way.
-/
import Derived.Test.YtilcmlioofkkmaaIxTab
import Derived.Test.YtilcmlioofkkmaaBytes
import Derived.Test.YtilcmlioofkkmaaInvOne
import Derived.Lib.SmallJoins
import Derived.Lib.Hide
import Derived.BigQuiet
namespace Go.Proofs.Ytilcmlioofkkmaa
open Go Go.RowKit Go.Joins

def Sl.val (s : Sl) : Value := .agg #[.string s.key, .int .u64 s.hash, .int .i64 s.pos, .bool s.full]
/-- The cell of number m of a row of slots. -/
def tabV (T : Tab) (m : Nat) : Value :=
  if m % 4 = 0 then .string (T (m / 4)).key else if m % 4 = 1 then .int .u64 (T (m / 4)).hash else if m % 4 = 2 then .int .i64 (T (m / 4)).pos else .bool (T (m / 4)).full
structure TabAt (w : World) (g n : Nat) (T : Tab) : Prop where
  cell : ∀ m, m < 4 * n → w.cell? ⟨g, m, none⟩ = some (tabV T m)
  ice : ∀ m, w.frozen? ⟨g, m, none⟩ = false
  lt : g < w.heap.size
section
variable {w w' : World} {g n i : Nat} {T : Tab} {G : Nat → Prop}
theorem TabAt.c0 (h : TabAt w g n T) (hi : i < n) : w.cell? ⟨g, i * 4, none⟩ = some (.string (T i).key) := by
  have := h.cell (i * 4) (by omega)
  rwa [tabV, if_pos (by omega), Nat.mul_div_cancel _ (by decide)] at this
theorem TabAt.c1 (h : TabAt w g n T) (hi : i < n) : w.cell? ⟨g, i * 4 + 1, none⟩ = some (.int .u64 (T i).hash) := by
  have := h.cell (i * 4 + 1) (by omega)
  rwa [tabV, if_neg (by omega), if_pos (by omega), show (i * 4 + 1) / 4 = i by omega] at this
theorem TabAt.c2 (h : TabAt w g n T) (hi : i < n) : w.cell? ⟨g, i * 4 + 2, none⟩ = some (.int .i64 (T i).pos) := by
  have := h.cell (i * 4 + 2) (by omega)
  rwa [tabV, if_neg (by omega), if_neg (by omega), if_pos (by omega), show (i * 4 + 2) / 4 = i by omega] at this
theorem TabAt.c3 (h : TabAt w g n T) (hi : i < n) : w.cell? ⟨g, i * 4 + 3, none⟩ = some (.bool (T i).full) := by
  have := h.cell (i * 4 + 3) (by omega)
  rwa [tabV, if_neg (by omega), if_neg (by omega), if_neg (by omega), show (i * 4 + 3) / 4 = i by omega] at this
theorem TabAt.keep (h : TabAt w g n T) (hk : Keeps G w w') (hg : G g) : TabAt w' g n T :=
  ⟨fun m hm => hk.cell (h.cell m hm) hg, fun m => by rw [hk.frozen (p := ⟨g, m, none⟩) h.lt hg]; exact h.ice m, Nat.lt_of_lt_of_le h.lt hk.size⟩
theorem TabAt.store (h : TabAt w g n T) (hi : i < n) (s : Sl) : TabAt ((((w.setCell ⟨g, i * 4, none⟩ (.string s.key)).setCell ⟨g, i * 4 + 1, none⟩ (.int .u64 s.hash)).setCell ⟨g, i * 4 + 2, none⟩ (.int .i64 s.pos)).setCell ⟨g, i * 4 + 3, none⟩ (.bool s.full)) g n (setT T i s) := by
  refine ⟨fun m hm => ?_, fun m => ?_, by simpa using h.lt⟩
  · have oth : ∀ (W : World) (a b : Nat) (v : Value), a ≠ b → (W.setCell ⟨g, a, none⟩ v).cell? ⟨g, b, none⟩ = W.cell? ⟨g, b, none⟩ := fun W a b v hab => World.cell?_setCell_other _ _ _ _ (fun e => hab (by injection e))
    have h0 := h.c0 hi
    have h1 := h.c1 hi
    have h2 := h.c2 hi
    have h3 := h.c3 hi
    by_cases e : m / 4 = i
    · have hT : setT T i s (m / 4) = s := by rw [e]; exact setT_at T i s
      unfold tabV
      rw [hT]
      by_cases e0 : m % 4 = 0
      · obtain rfl : m = i * 4 := by omega
        rw [if_pos e0, oth _ (i * 4 + 3) _ _ (by omega), oth _ (i * 4 + 2) _ _ (by omega), oth _ (i * 4 + 1) _ _ (by omega)]
        exact World.cell?_setCell_same _ _ _ h0
      · rw [if_neg e0]
        by_cases e1 : m % 4 = 1
        · obtain rfl : m = i * 4 + 1 := by omega
          rw [if_pos e1, oth _ (i * 4 + 3) _ _ (by omega), oth _ (i * 4 + 2) _ _ (by omega)]
          refine World.cell?_setCell_same (u := .int .u64 (T i).hash) _ _ _ ?_
          rw [oth _ (i * 4) _ _ (by omega)]; exact h1
        · rw [if_neg e1]
          by_cases e2 : m % 4 = 2
          · obtain rfl : m = i * 4 + 2 := by omega
            rw [if_pos e2, oth _ (i * 4 + 3) _ _ (by omega)]
            refine World.cell?_setCell_same (u := .int .i64 (T i).pos) _ _ _ ?_
            rw [oth _ (i * 4 + 1) _ _ (by omega), oth _ (i * 4) _ _ (by omega)]; exact h2
          · obtain rfl : m = i * 4 + 3 := by omega
            rw [if_neg e2]
            refine World.cell?_setCell_same (u := .bool (T i).full) _ _ _ ?_
            rw [oth _ (i * 4 + 2) _ _ (by omega), oth _ (i * 4 + 1) _ _ (by omega), oth _ (i * 4) _ _ (by omega)]; exact h3
    · rw [oth _ (i * 4 + 3) _ _ (by omega), oth _ (i * 4 + 2) _ _ (by omega), oth _ (i * 4 + 1) _ _ (by omega), oth _ (i * 4) _ _ (by omega), h.cell m hm]
      unfold tabV
      rw [setT_ne _ _ e]
  · rw [World.frozen?_setCell, World.frozen?_setCell, World.frozen?_setCell, World.frozen?_setCell]; exact h.ice m
end

/-- The index's block. -/
def IxBlk (w : World) (q : Nat) (V : Value) (c : Nat) : Prop := w.heap[q]? = some (.cells #[V, .int .i64 (c : Int)] 52 (0, 0))
structure IxAt (w : World) (q g n c : Nat) (T : Tab) : Prop where
  blk : IxBlk w q (.slice (some ⟨g, 0, none⟩) n n) c
  tab : TabAt w g n T
  ne : g ≠ q
section
variable {w w' : World} {q g n c i : Nat} {T : Tab} {G : Nat → Prop} {V : Value}
theorem IxBlk.keep (h : IxBlk w q V c) (hk : Keeps G w w') (hq : G q) : IxBlk w' q V c := (hk.block q hq (Array.getElem?_eq_some_iff.1 h).1).trans h
theorem IxBlk.lt (h : IxBlk w q V c) : q < w.heap.size := (Array.getElem?_eq_some_iff.1 h).1
theorem IxBlk.c0 (h : IxBlk w q V c) : w.cell? ⟨q, 0, none⟩ = some V := (cell_of_block h 0).trans rfl
theorem IxBlk.c1 (h : IxBlk w q V c) : w.cell? ⟨q, 1, none⟩ = some (.int .i64 (c : Int)) := (cell_of_block h 1).trans rfl
theorem IxBlk.f0 (h : IxBlk w q V c) (i : Nat) : w.frozen? ⟨q, i, none⟩ = false := unfrozen_of_block h i
theorem IxBlk.set0 (h : IxBlk w q V c) (V' : Value) : IxBlk (w.setCell ⟨q, 0, none⟩ V') q V' c := (block_setCell h V').trans rfl
theorem IxBlk.set1 (h : IxBlk w q V c) (c' : Nat) : IxBlk (w.setCell ⟨q, 1, none⟩ (.int .i64 (c' : Int))) q V c' := (block_setCell h _).trans rfl
theorem IxAt.keep (h : IxAt w q g n c T) (hk : Keeps G w w') (hq : G q) (hg : G g) : IxAt w' q g n c T := ⟨h.blk.keep hk hq, h.tab.keep hk hg, h.ne⟩
end

theorem modN_cast (h n : Nat) : ((h : Int).tmod (n : Int)) = ((h % n : Nat) : Int) := by
  rw [Int.tmod_eq_emod_of_nonneg (by omega)]; rfl

set_option maxRecDepth 100000 in
set_option maxHeartbeats 1000000 in
theorem home_any (w : World) (q g n c : Nat) (T : Tab) (hI : IxAt w q g n c T) (h0 : 0 < n) (hn : n ≤ 1099511627776) (h : Nat) (hh : h < 18446744073709551616) :
    Calls Try.prog 31 #[.pointer (some ⟨q, 0, none⟩), .int .u64 (h : Int)] w fun e w' => e = .returned (.int .i64 ((h % n : Nat) : Int)) ∧ w' = w := by
  have c0 := hI.blk.c0
  have hm := modN_cast h n
  have hl := Nat.mod_lt h h0
  obtain ⟨r, hr⟩ : ∃ r, h % n = r := ⟨_, rfl⟩
  rw [hr] at hm hl ⊢
  have e2 : ((h : Int) % (n : Int)) = (r : Int) := by rw [← hr]; rfl
  clear hI hr
  go_enter Try.func31, Try.ntmps31
  go_wp2_with fail
  go_ret
  exact ⟨rfl, rfl⟩
set_option maxRecDepth 100000 in
set_option maxHeartbeats 1000000 in
theorem behind_any (w : World) (q g n c : Nat) (T : Tab) (hI : IxAt w q g n c T) (i : Nat) (hi : i < n) (hn : n ≤ 1099511627776) :
    Calls Try.prog 32 #[.pointer (some ⟨q, 0, none⟩), .int .i64 (i : Int)] w fun e w' => e = .returned (.int .i64 ((nx n i 1 : Nat) : Int)) ∧ w' = w := by
  have c0 := hI.blk.c0
  have hm : (((i : Int) + 1).tmod (n : Int)) = ((nx n i 1 : Nat) : Int) := by
    rw [show (i : Int) + 1 = ((i + 1 : Nat) : Int) by omega, modN_cast]
    congr 1
    rcases nx_c n i 1 with ⟨h1, h2⟩ | ⟨h1, h2⟩
    · rw [h2, Nat.mod_eq_of_lt h1]
    · rw [h2, show i + 1 = n by omega, Nat.mod_self]; omega
  have e2 : (((i : Int) + 1) % (n : Int)) = ((nx n i 1 : Nat) : Int) := by rw [← hm, Int.tmod_eq_emod_of_nonneg (by omega)]
  generalize nx n i 1 = r at *
  clear hI
  go_enter Try.func32, Try.ntmps32
  go_wp2_with fail
  go_ret
  exact ⟨rfl, rfl⟩
set_option maxRecDepth 100000 in
set_option maxHeartbeats 1000000 in
theorem way_any (w : World) (q g n c : Nat) (T : Tab) (hI : IxAt w q g n c T) (i k : Nat) (hi : i < n) (hk : k < n) (hn : n ≤ 1099511627776) :
    Calls Try.prog 34 #[.pointer (some ⟨q, 0, none⟩), .int .i64 (i : Int), .int .i64 (k : Int)] w fun e w' => e = .returned (.int .i64 ((way n i k : Nat) : Int)) ∧ Kp w w' := by
  have c0 := hI.blk.c0
  have hm : (((k : Int) - (i : Int) + (n : Int)).tmod (n : Int)) = ((way n i k : Nat) : Int) := by
    rw [show (k : Int) - (i : Int) + (n : Int) = ((k + n - i : Nat) : Int) by omega, modN_cast]
    congr 1
    rcases way_c n i k with ⟨h1, h2⟩ | ⟨h1, h2⟩
    · rw [h2, show k + n - i = (k - i) + n by omega, Nat.add_mod_right, Nat.mod_eq_of_lt (by omega)]
    · rw [h2, Nat.mod_eq_of_lt (by omega)]
  have e2 : (((k : Int) - (i : Int) + (n : Int)) % (n : Int)) = ((way n i k : Nat) : Int) := by rw [← hm, Int.tmod_eq_emod_of_nonneg (by omega)]
  generalize way n i k = r at *
  clear hI
  go_enter Try.func34, Try.ntmps34
  go_wp2_with fail
  go_region
  go_wp2_with fail
  go_ret
  exact ⟨rfl, (Keeps.refl _ _).drew⟩

end Go.Proofs.Ytilcmlioofkkmaa
