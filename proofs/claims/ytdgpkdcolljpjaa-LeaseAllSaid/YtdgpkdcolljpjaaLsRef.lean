/-
  THE REFERENCE's LEASES (layer 17): Take, Good, Left, Drop over a block of four numbers.
-/
import Derived.Test.YtdgpkdcolljpjaaLsIf
import Derived.BigQuiet
import Derived.Lib.MinMax
namespace Go.Proofs.Ytdgpkdcolljpjaa
open Go Go.RowKit Go.Joins

def rlcells (n : Int) (s : LsS) : Array Value := #[.int .i64 n, .int .i64 s.fin, .int .i64 s.ep, .int .i64 s.top]
def RBlk (w : World) (g : Nat) (n : Int) (s : LsS) : Prop := w.heap[g]? = some (.cells (rlcells n s) 31 (0, 0))
section
variable {w w' : World} {g : Nat} {n : Int} {s : LsS} {G : Nat → Prop}
theorem RBlk.keep (h : RBlk w g n s) (hk : Keeps G w w') (hq : G g) : RBlk w' g n s := (hk.block g hq (Array.getElem?_eq_some_iff.1 h).1).trans h
theorem RBlk.lt (h : RBlk w g n s) : g < w.heap.size := (Array.getElem?_eq_some_iff.1 h).1
theorem RBlk.c0 (h : RBlk w g n s) : w.cell? ⟨g, 0, none⟩ = some (.int .i64 n) := (cell_of_block h 0).trans rfl
theorem RBlk.c1 (h : RBlk w g n s) : w.cell? ⟨g, 1, none⟩ = some (.int .i64 s.fin) := (cell_of_block h 1).trans rfl
theorem RBlk.c2 (h : RBlk w g n s) : w.cell? ⟨g, 2, none⟩ = some (.int .i64 s.ep) := (cell_of_block h 2).trans rfl
theorem RBlk.c3 (h : RBlk w g n s) : w.cell? ⟨g, 3, none⟩ = some (.int .i64 s.top) := (cell_of_block h 3).trans rfl
theorem RBlk.fz (h : RBlk w g n s) (i : Nat) : w.frozen? ⟨g, i, none⟩ = false := unfrozen_of_block h i
theorem RBlk.set0 (h : RBlk w g n s) (x : Int) : RBlk (w.setCell ⟨g, 0, none⟩ (.int .i64 x)) g x s := (block_setCell h _).trans rfl
theorem RBlk.set3 (h : RBlk w g n s) (x y z : Int) : RBlk (((w.setCell ⟨g, 1, none⟩ (.int .i64 x)).setCell ⟨g, 2, none⟩ (.int .i64 y)).setCell ⟨g, 3, none⟩ (.int .i64 z)) g n ⟨x, y, z⟩ := by
  have h1 : (w.setCell ⟨g, 1, none⟩ (.int .i64 x)).heap[g]? = _ := block_setCell h _
  have h2 := block_setCell h1 (i := 2) (.int .i64 y)
  exact (block_setCell h2 (i := 3) (.int .i64 z)).trans rfl
theorem set3_keeps (w : World) (g : Nat) (x y z : Int) : Keeps (fun b => b ≠ g) w (((w.setCell ⟨g, 1, none⟩ (.int .i64 x)).setCell ⟨g, 2, none⟩ (.int .i64 y)).setCell ⟨g, 3, none⟩ (.int .i64 z)) :=
  (((Keeps.refl _ w).setCell (p := ⟨g, 1, none⟩) (.inr fun h => h rfl) _).setCell (p := ⟨g, 2, none⟩) (.inr fun h => h rfl) _).setCell (p := ⟨g, 3, none⟩) (.inr fun h => h rfl) _
end
set_option maxRecDepth 100000 in
set_option maxHeartbeats 4000000 in
theorem rtake_any (w : World) (g : Nat) (n : Int) (s : LsS) (sent ep : Int) (h : RBlk w g n s) (h0 : 0 ≤ n) (h1 : n ≤ 1099511627776) :
    Calls Try.prog 14 #[.pointer (some ⟨g, 0, none⟩), .int .i64 sent, .int .i64 ep] w fun e w' => e = .returned (.bool (takeB n s sent ep)) ∧ RBlk w' g n (takeS n s sent ep) ∧ Keeps (fun b => b ≠ g) w w' := by
  have HB := Lib.hid h
  obtain ⟨fin, sep, top⟩ := s
  have c0 := h.c0
  have c1 := h.c1
  have c2 := h.c2
  have c3 := h.c3
  simp only at c1 c2 c3
  have f1 := h.fz 1
  have f2 := h.fz 2
  have f3 := h.fz 3
  have no : takeB n ⟨fin, sep, top⟩ sent ep = false → (Ending.returned (.bool false) = Ending.returned (.bool (takeB n ⟨fin, sep, top⟩ sent ep)) ∧ RBlk w g n (takeS n ⟨fin, sep, top⟩ sent ep) ∧ Keeps (fun b => b ≠ g) w w) := fun e => by
    unfold takeS
    rw [e]
    exact ⟨rfl, HB.out, Keeps.refl _ _⟩
  have NO := Lib.hid no
  have YES := Lib.hid (h.set3 (sent + 20) ep ep)
  clear h no
  have hcs : sent < 0 ∨ ¬ sent < 0 ∧ (n < sent ∨ ¬ n < sent ∧ (sent + 20 ≤ n ∨ ¬ sent + 20 ≤ n ∧ (ep < top ∨ ¬ ep < top ∧ (ep < 1 ∨ ¬ ep < 1 ∧ ((ep == sep) = false ∨ (ep == sep) = true ∧ (sent + 20 ≤ fin ∨ ¬ sent + 20 ≤ fin)))))) := by
    by_cases a1 : sent < 0
    · exact .inl a1
    refine .inr ⟨a1, ?_⟩
    by_cases a2 : n < sent
    · exact .inl a2
    refine .inr ⟨a2, ?_⟩
    by_cases a3 : sent + 20 ≤ n
    · exact .inl a3
    refine .inr ⟨a3, ?_⟩
    by_cases a4 : ep < top
    · exact .inl a4
    refine .inr ⟨a4, ?_⟩
    by_cases a5 : ep < 1
    · exact .inl a5
    refine .inr ⟨a5, ?_⟩
    cases (ep == sep) with
    | false => exact .inl rfl
    | true =>
      refine .inr ⟨rfl, ?_⟩
      by_cases a6 : sent + 20 ≤ fin
      · exact .inl a6
      · exact .inr a6
  have fl : ∀ (b1 b2 b3 b4 b5 b6 : Bool), b1 = decide (0 ≤ sent) → b2 = decide (sent ≤ n) → b3 = decide (n < sent + 20) → b4 = decide (top ≤ ep) → b5 = decide (1 ≤ ep) → b6 = (decide (ep = sep) && decide (sent + 20 ≤ fin)) → takeB n ⟨fin, sep, top⟩ sent ep = (b1 && (b2 && (b3 && (b4 && (b5 && !b6))))) := by
    rintro _ _ _ _ _ _ rfl rfl rfl rfl rfl rfl
    rfl
  have FL := Lib.hid fl
  clear fl
  rcases hcs with a1 | ⟨a1, a2 | ⟨a2, a3 | ⟨a3, a4 | ⟨a4, a5 | ⟨a5, a6 | ⟨a6, a7 | a7⟩⟩⟩⟩⟩⟩
  · have HF := Lib.hid (NO.out (by rw [FL.out false _ _ _ _ _ (decide_eq_false (by omega)).symm rfl rfl rfl rfl rfl]; rfl))
    have t1 : decide (sent < 0) = true := decide_eq_true a1
    clear NO YES FL
    go_enter Try.func14, Try.ntmps14
    go_wp2_with fail
    go_ret
    exact HF.out
  · have HF := Lib.hid (NO.out (by rw [FL.out true false _ _ _ _ (decide_eq_true (by omega)).symm (decide_eq_false (by omega)).symm rfl rfl rfl rfl]; rfl))
    have t1 : decide (sent < 0) = false := decide_eq_false a1
    have t2 : decide (n < sent) = true := decide_eq_true a2
    clear NO YES FL
    go_enter Try.func14, Try.ntmps14
    go_wp2_with fail
    go_ret
    exact HF.out
  · have HF := Lib.hid (NO.out (by rw [FL.out true true false _ _ _ (decide_eq_true (by omega)).symm (decide_eq_true (by omega)).symm (decide_eq_false (by omega)).symm rfl rfl rfl]; rfl))
    have t1 : decide (sent < 0) = false := decide_eq_false a1
    have t2 : decide (n < sent) = false := decide_eq_false a2
    have t3 : decide (sent + 20 ≤ n) = true := decide_eq_true a3
    clear NO YES FL
    go_enter Try.func14, Try.ntmps14
    go_wp2_with fail
    go_ret
    exact HF.out
  · have HF := Lib.hid (NO.out (by rw [FL.out true true true false _ _ (decide_eq_true (by omega)).symm (decide_eq_true (by omega)).symm (decide_eq_true (by omega)).symm (decide_eq_false (by omega)).symm rfl rfl]; rfl))
    have t1 : decide (sent < 0) = false := decide_eq_false a1
    have t2 : decide (n < sent) = false := decide_eq_false a2
    have t3 : decide (sent + 20 ≤ n) = false := decide_eq_false a3
    have t4 : decide (ep < top) = true := decide_eq_true a4
    clear NO YES FL
    go_enter Try.func14, Try.ntmps14
    go_wp2_with fail
    go_ret
    exact HF.out
  · have HF := Lib.hid (NO.out (by rw [FL.out true true true true false _ (decide_eq_true (by omega)).symm (decide_eq_true (by omega)).symm (decide_eq_true (by omega)).symm (decide_eq_true (by omega)).symm (decide_eq_false (by omega)).symm rfl]; rfl))
    have t1 : decide (sent < 0) = false := decide_eq_false a1
    have t2 : decide (n < sent) = false := decide_eq_false a2
    have t3 : decide (sent + 20 ≤ n) = false := decide_eq_false a3
    have t4 : decide (ep < top) = false := decide_eq_false a4
    have t5 : decide (ep < 1) = true := decide_eq_true a5
    clear NO YES FL
    go_enter Try.func14, Try.ntmps14
    go_wp2_with fail
    go_ret
    exact HF.out
  · have e1 : takeB n ⟨fin, sep, top⟩ sent ep = true := by
      rw [FL.out true true true true true false (decide_eq_true (by omega)).symm (decide_eq_true (by omega)).symm (decide_eq_true (by omega)).symm (decide_eq_true (by omega)).symm (decide_eq_true (by omega)).symm (by rw [decide_eq_false (by simpa using a6)]; rfl)]; rfl
    have HE := Lib.hid e1
    have HS := Lib.hid (show takeS n ⟨fin, sep, top⟩ sent ep = ⟨sent + 20, ep, ep⟩ from by unfold takeS; rw [e1]; rfl)
    have t1 : decide (sent < 0) = false := decide_eq_false a1
    have t2 : decide (n < sent) = false := decide_eq_false a2
    have t3 : decide (sent + 20 ≤ n) = false := decide_eq_false a3
    have t4 : decide (ep < top) = false := decide_eq_false a4
    have t5 : decide (ep < 1) = false := decide_eq_false a5
    clear NO FL e1
    go_enter Try.func14, Try.ntmps14
    go_wp2_with fail
    go_ret
    exact ⟨by rw [HE.out]; rfl, by rw [HS.out]; exact YES.out, set3_keeps _ _ _ _ _⟩
  · have HF := Lib.hid (NO.out (by rw [FL.out true true true true true true (decide_eq_true (by omega)).symm (decide_eq_true (by omega)).symm (decide_eq_true (by omega)).symm (decide_eq_true (by omega)).symm (decide_eq_true (by omega)).symm (by rw [decide_eq_true (by simpa using a6), decide_eq_true a7]; rfl)]; rfl))
    have t1 : decide (sent < 0) = false := decide_eq_false a1
    have t2 : decide (n < sent) = false := decide_eq_false a2
    have t3 : decide (sent + 20 ≤ n) = false := decide_eq_false a3
    have t4 : decide (ep < top) = false := decide_eq_false a4
    have t5 : decide (ep < 1) = false := decide_eq_false a5
    have t7 : decide (sent + 20 ≤ fin) = true := decide_eq_true a7
    clear NO YES FL
    go_enter Try.func14, Try.ntmps14
    go_wp2_with fail
    go_ret
    exact HF.out
  · have e1 : takeB n ⟨fin, sep, top⟩ sent ep = true := by
      rw [FL.out true true true true true false (decide_eq_true (by omega)).symm (decide_eq_true (by omega)).symm (decide_eq_true (by omega)).symm (decide_eq_true (by omega)).symm (decide_eq_true (by omega)).symm (by rw [decide_eq_false a7, Bool.and_false])]; rfl
    have HE := Lib.hid e1
    have HS := Lib.hid (show takeS n ⟨fin, sep, top⟩ sent ep = ⟨sent + 20, ep, ep⟩ from by unfold takeS; rw [e1]; rfl)
    have t1 : decide (sent < 0) = false := decide_eq_false a1
    have t2 : decide (n < sent) = false := decide_eq_false a2
    have t3 : decide (sent + 20 ≤ n) = false := decide_eq_false a3
    have t4 : decide (ep < top) = false := decide_eq_false a4
    have t5 : decide (ep < 1) = false := decide_eq_false a5
    have t7 : decide (sent + 20 ≤ fin) = false := decide_eq_false a7
    clear NO FL e1
    go_enter Try.func14, Try.ntmps14
    go_wp2_with fail
    go_ret
    exact ⟨by rw [HE.out]; rfl, by rw [HS.out]; exact YES.out, set3_keeps _ _ _ _ _⟩

set_option maxRecDepth 100000 in
set_option maxHeartbeats 2000000 in
theorem rgood_any (w : World) (g : Nat) (n : Int) (s : LsS) (ep : Int) (h : RBlk w g n s) :
    Calls Try.prog 18 #[.pointer (some ⟨g, 0, none⟩), .int .i64 ep] w fun e w' => e = .returned (.bool (goodB n s ep)) ∧ Kp w w' := by
  obtain ⟨fin, sep, top⟩ := s
  have c0 := h.c0
  have c1 := h.c1
  have c2 := h.c2
  simp only at c1 c2
  clear h
  have hcs : (decide (0 < ep) = false) ∨ (decide (0 < ep) = true ∧ ((ep == sep) = false ∨ (ep == sep) = true ∧ (decide (n < fin) = false ∨ decide (n < fin) = true))) := by
    cases decide (0 < ep) <;> cases (ep == sep) <;> cases decide (n < fin) <;> simp
  have hg : goodB n ⟨fin, sep, top⟩ ep = (decide (0 < ep) && ((ep == sep) && decide (n < fin))) := rfl
  rcases hcs with t1 | ⟨t1, t2 | ⟨t2, t3 | t3⟩⟩
  · have HE := Lib.hid (show goodB n ⟨fin, sep, top⟩ ep = false from by rw [hg, t1]; rfl)
    clear hg
    go_enter Try.func18, Try.ntmps18
    go_wp2_with fail
    go_quiet (fail)
    go_wp2_with fail
    go_ret
    exact ⟨by rw [HE.out]; rfl, (Keeps.refl _ _).drewN _⟩
  · have HE := Lib.hid (show goodB n ⟨fin, sep, top⟩ ep = false from by rw [hg, t1, t2]; rfl)
    clear hg
    go_enter Try.func18, Try.ntmps18
    go_wp2_with fail
    go_quiet (fail)
    go_wp2_with fail
    go_ret
    exact ⟨by rw [HE.out]; rfl, (Keeps.refl _ _).drewN _⟩
  · have HE := Lib.hid (show goodB n ⟨fin, sep, top⟩ ep = false from by rw [hg, t1, t2, t3]; rfl)
    clear hg
    go_enter Try.func18, Try.ntmps18
    go_wp2_with fail
    go_quiet (fail)
    go_wp2_with fail
    go_ret
    exact ⟨by rw [HE.out]; rfl, (Keeps.refl _ _).drewN _⟩
  · have HE := Lib.hid (show goodB n ⟨fin, sep, top⟩ ep = true from by rw [hg, t1, t2, t3]; rfl)
    clear hg
    go_enter Try.func18, Try.ntmps18
    go_wp2_with fail
    go_quiet (fail)
    go_wp2_with fail
    go_ret
    exact ⟨by rw [HE.out]; rfl, (Keeps.refl _ _).drewN _⟩
set_option maxRecDepth 100000 in
set_option maxHeartbeats 2000000 in
theorem rleft_any (w : World) (g : Nat) (n : Int) (s : LsS) (h : RBlk w g n s) (hs : s.Ok) (h0 : 0 ≤ n) (h1 : n ≤ 1099511627776) :
    Calls Try.prog 20 #[.pointer (some ⟨g, 0, none⟩)] w fun e w' => e = .returned (.int .i64 (leftZ n s)) ∧ Kp w w' := by
  obtain ⟨fin, sep, top⟩ := s
  have c0 := h.c0
  have c1 := h.c1
  simp only at c1
  have hf0 : 0 ≤ fin := hs.f0
  have hf1 : fin ≤ 1099511627796 := hs.f1
  have HE := Lib.hid (show leftZ n ⟨fin, sep, top⟩ = max 0 (fin - n) from rfl)
  clear h hs
  go_enter Try.func20, Try.ntmps20
  go_wp2_with fail
  go_quiet (fail)
  go_wp2_with fail
  go_ret
  exact ⟨by rw [HE.out]; rfl, (Keeps.refl _ _).drewN _⟩
set_option maxRecDepth 100000 in
set_option maxHeartbeats 1000000 in
theorem rdrop_any (w : World) (g : Nat) (n : Int) (s : LsS) (h : RBlk w g n s) :
    Calls Try.prog 16 #[.pointer (some ⟨g, 0, none⟩)] w fun e w' => e = .returned (.tuple #[]) ∧ RBlk w' g n ls0 ∧ Keeps (fun b => b ≠ g) w w' := by
  have YES := Lib.hid (h.set3 0 0 0)
  have c1 := h.c1
  have c2 := h.c2
  have c3 := h.c3
  have f1 := h.fz 1
  have f2 := h.fz 2
  have f3 := h.fz 3
  clear h
  go_enter Try.func16, Try.ntmps16
  go_wp2_with fail
  go_end0
  exact ⟨rfl, YES.out, set3_keeps _ _ _ _ _⟩

end Go.Proofs.Ytdgpkdcolljpjaa
