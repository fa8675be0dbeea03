/-
  THE PROGRAM's INDEX: from: the full slots at a place and above.
-/
import Derived.Test.YtilcmlioofkkmaaIxEmpty
namespace Go.Proofs.Ytilcmlioofkkmaa
open Go Go.RowKit Go.Joins

theorem slot_elem : Elem Try.prog 50 58 (.agg #[.string ⟨#[]⟩, .int .u64 0, .int .i64 0, .bool false]) 4 40 := ⟨Try.underlying50, by kernel_rfl, rfl, by decide⟩
def Sl.cells (s : Sl) : List Value := [.string s.key, .int .u64 s.hash, .int .i64 s.pos, .bool s.full]
def slC (l : List Sl) : List Value := l.flatMap Sl.cells
theorem slC_snoc (l : List Sl) (s : Sl) : slC (l ++ [s]) = slC l ++ s.cells := by simp [slC]
theorem slC_len (l : List Sl) : (slC l).length = l.length * 4 := by
  induction l with
  | nil => rfl
  | cons r l ih =>
    have e : slC (r :: l) = r.cells ++ slC l := by simp [slC]
    rw [e, List.length_append, ih, List.length_cons]
    show 4 + _ = _
    omega
/-- The full slots at p and above, of the first n. -/
def fromL (T : Tab) (p : Int) (n : Nat) : List Sl := ((List.range n).map T).filter fun s => s.full && decide (p ≤ s.pos)
theorem fromL_succ (T : Tab) (p : Int) (n : Nat) : fromL T p (n + 1) = fromL T p n ++ (if (T n).full && decide (p ≤ (T n).pos) then [T n] else []) := by
  unfold fromL
  rw [List.range_succ, List.map_append, List.filter_append]
  congr 1
  simp only [List.map_cons, List.map_nil, List.filter_cons, List.filter_nil]
theorem fromL_len (T : Tab) (p : Int) (n : Nat) : (fromL T p n).length ≤ n := by
  unfold fromL
  refine Nat.le_trans (List.length_filter_le _ _) ?_
  simp
/-- The slots, whatever their number. -/
structure IxS (w : World) (q : Nat) (A : Option Addr) (n c : Nat) (T : Tab) : Prop where
  blk : IxBlk w q (.slice A n n) c
  tab : 0 < n → ∃ g, A = some ⟨g, 0, none⟩ ∧ TabAt w g n T ∧ g ≠ q
theorem IxS.keep {w w' : World} {q n c : Nat} {A : Option Addr} {T : Tab} (h : IxS w q A n c T) (hk : Keeps (fun _ => True) w w') : IxS w' q A n c T :=
  ⟨h.blk.keep hk trivial, fun h0 => by obtain ⟨g, e, h1, h2⟩ := h.tab h0; exact ⟨g, e, h1.keep hk trivial, h2⟩⟩
theorem IxAt.s {w : World} {q g n c : Nat} {T : Tab} (h : IxAt w q g n c T) : IxS w q (some ⟨g, 0, none⟩) n c T := ⟨h.blk, fun _ => ⟨g, rfl, h.tab, h.ne⟩⟩
theorem src_slot (W : World) (s : Sl) : Src Try.prog 4 50 (.slice (some ⟨W.heap.size, 0, none⟩) 1 1) 1 s.cells (W.alloc (.cells #[.string s.key, .int .u64 s.hash, .int .i64 s.pos, .bool s.full] 58)) :=
  Src.ofSlice _ Try.underlying50 ⟨W.heap.size, 0, none⟩ 1 1 s.cells rfl (fun j v hv => by
    rw [WideShapes.add_plain, Nat.zero_add]
    exact (cell_alloc_mark_at W _ _ _ W.heap.size j rfl).trans (by rw [← hv, ← Array.getElem?_toList]; rfl)) (fun v hv => by
    simp only [Sl.cells, List.mem_cons, List.not_mem_nil, or_false] at hv
    rcases hv with rfl | rfl | rfl | rfl <;> rfl)

set_option maxRecDepth 100000 in
set_option maxHeartbeats 1000000 in
theorem from_any (w : World) (q : Nat) (A : Option Addr) (n c : Nat) (T : Tab) (hI : IxS w q A n c T) (hn : n ≤ 1099511627776) (p : Int) :
    Calls Try.prog 27 #[.pointer (some ⟨q, 0, none⟩), .int .i64 p] w fun e w' => ∃ B k, e = .returned (.slice B (fromL T p n).length k) ∧ w'.ownsRow w.heap.size 58 4 (.slice B (fromL T p n).length k) (fromL T p n).length (slC (fromL T p n)) ∧ Kp w w' := by
  have HI := Lib.hid hI
  have c0 := hI.blk.c0
  clear hI
  go_enter Try.func27, Try.ntmps27
  go_wp2_with fail
  go_loopw [5, 13] (fun v i wr => ∃ (k : Nat) (B : Option Addr) (m cc : Nat), k ≤ n ∧ i = .int .i64 (k : Int) ∧ m ≤ k ∧ v = .slice B m cc ∧ Hid (m = (fromL T p k).length ∧ wr.ownsRow w.heap.size 58 4 v m (slC (fromL T p k)) ∧ Kp w wr)) (fun _ i _ => n - (intOf i).toNat)
  case atStart => exact ⟨0, none, 0, 0, Nat.zero_le _, rfl, Nat.le_refl _, rfl, Lib.hid ⟨rfl, World.ownsRow_nil _ _ _ _, Keeps.refl _ _⟩⟩
  case round =>
    obtain ⟨k, B, m, cc, hk, rfl, hmk, rfl, HR⟩ := hrel
    by_cases hl : k < n
    · have hl' : (k : Int) < (n : Int) := by omega
      have HIr := Lib.hid (HI.out.keep HR.out.2.2)
      obtain ⟨g, rfl, hta, hgq⟩ := HIr.out.tab (by omega)
      have t0 := hta.c0 hl
      have t1 := hta.c1 hl
      have t2 := hta.c2 hl
      have t3 := hta.c3 hl
      have hs := fromL_succ T p k
      have hg := hta.lt
      clear hta c0
      generalize T k = s at t0 t1 t2 t3 hs
      obtain ⟨K, Z, P, b⟩ := s
      simp only at t0 t1 t2 t3 hs
      have HS := Lib.hid hs
      clear hs
      cases b
      · go_wp2_with fail
        go_roundw
        case rel => exact ⟨k + 1, B, m, cc, hl, by go_num, by omega, rfl, Lib.hid (by
          have e : fromL T p (k + 1) = fromL T p k := by rw [HS.out]; simp
          rw [e]
          exact ⟨HR.out.1, HR.out.2.1.alloc _, HR.out.2.2.alloc _⟩)⟩
        case measure => simp [intOf]; omega
      · by_cases hp : p ≤ P
        · have hp' : decide (p ≤ P) = true := by simpa using hp
          have hsrc := src_slot (wr.alloc (.cells #[.string K, .int .u64 Z, .int .i64 P, .bool true] 58)) ⟨K, Z, P, true⟩
          rw [show (wr.alloc (.cells #[.string K, .int .u64 Z, .int .i64 P, .bool true] 58)).heap.size = wr.heap.size + 1 by simp] at hsrc
          have HSRC := Lib.hid hsrc
          have HOWN := Lib.hid HR.out.2.1
          clear hsrc
          go_wp2_with (at_builtin; refine slot_elem.list_append rfl (.tmp 25) (.tmp 27) _ rfl rfl ((HOWN.out.alloc _).alloc _) rfl HSRC.out ?c3 ?c4 ?c5 ?_)
          case c3 => unfold maxLen; omega
          case c4 => omega
          case c5 => have := HR.out.2.2.size; simp; omega
          intro v3 w3 ho3 hg3 hb3
          have hk3 : Kp w w3 := ((HR.out.2.2.alloc _).alloc _).grown hg3 fun j hj => (HOWN.out.lt j hj).1
          have HK3 := Lib.hid hk3
          have HE := Lib.hid (show fromL T p (k + 1) = fromL T p k ++ [⟨K, Z, P, true⟩] from by rw [HS.out]; simp [hp])
          have HO3 := Lib.hid (show w3.ownsRow w.heap.size 58 4 v3 (m + 1) (slC (fromL T p (k + 1))) from by rw [HE.out, slC_snoc]; exact ho3)
          obtain ⟨B3, c3, rfl, -, -⟩ := ho3.form (by omega)
          clear hk3 ho3 hg3 hb3 HSRC HOWN
          go_wp2_with fail
          go_roundw
          case rel => exact ⟨k + 1, some ⟨B3, 0, none⟩, m + 1, c3, hl, by go_num, by omega, rfl, Lib.hid ⟨by rw [HE.out, List.length_append, ← HR.out.1]; rfl, HO3.out, HK3.out⟩⟩
          case measure => simp [intOf]; omega
        · have hp' : decide (p ≤ P) = false := by simpa using hp
          go_wp2_with fail
          go_roundw
          case rel => exact ⟨k + 1, B, m, cc, hl, by go_num, by omega, rfl, Lib.hid (by
            have e : fromL T p (k + 1) = fromL T p k := by rw [HS.out]; simp [hp]
            rw [e]
            exact ⟨HR.out.1, HR.out.2.1.alloc _, HR.out.2.2.alloc _⟩)⟩
          case measure => simp [intOf]; omega
    · obtain rfl : n = k := by omega
      have hl' : ¬ (n : Int) < (n : Int) := by omega
      go_wp2_with fail
      go_ret
      obtain ⟨e, h1, h2⟩ := HR.out
      subst e
      exact ⟨B, cc, rfl, h1, h2⟩

end Go.Proofs.Ytilcmlioofkkmaa
