/-
  VECTORS AS FUNCTIONS, their blocks; the laws' own 'of' (layer 11).
-/
import Derived.Test.YtdgpdooikfamlaaProg
import Derived.Test.YtdgpdooikfamlaaObj
import Derived.Test.YtdgpdooikfamlaaInvOne
import Derived.WalkSpells
import Derived.Lib.Hide
import Derived.Lib.MinMax
import Derived.Lib.SmallJoins
namespace Go.Proofs.Ytdgpdooikfamlaa
open Go Go.RowKit Go.Joins

def vcells (f : Nat → Int) : Array Value := #[.int .i64 (f 0), .int .i64 (f 1), .int .i64 (f 2), .int .i64 (f 3), .int .i64 (f 4), .int .i64 (f 5)]
def vagg (f : Nat → Int) : Value := .agg (vcells f)
/-- A block of six numbers. -/
def VBlk (w : World) (g : Nat) (t : TypeId) (f : Nat → Int) : Prop := w.heap[g]? = some (.cells (vcells f) t (0, 0))
section
variable {w w' : World} {g : Nat} {t : TypeId} {f : Nat → Int} {G : Nat → Prop}
theorem VBlk.keep (h : VBlk w g t f) (hk : Keeps G w w') (hq : G g) : VBlk w' g t f := (hk.block g hq (Array.getElem?_eq_some_iff.1 h).1).trans h
theorem VBlk.lt (h : VBlk w g t f) : g < w.heap.size := (Array.getElem?_eq_some_iff.1 h).1
theorem vcells_at (f : Nat → Int) (i : Nat) (hi : i < 6) : (vcells f)[i]? = some (.int .i64 (f i)) := by
  have h : i = 0 ∨ i = 1 ∨ i = 2 ∨ i = 3 ∨ i = 4 ∨ i = 5 := by omega
  rcases h with rfl | rfl | rfl | rfl | rfl | rfl <;> rfl
theorem VBlk.at_ (h : VBlk w g t f) (i : Nat) (hi : i < 6) : w.cell? ⟨g, i, none⟩ = some (.int .i64 (f i)) := (cell_of_block h i).trans (vcells_at f i hi)
theorem VBlk.fz (h : VBlk w g t f) (i : Nat) : w.frozen? ⟨g, i, none⟩ = false := unfrozen_of_block h i
def upd (f : Nat → Int) (i : Nat) (x : Int) : Nat → Int := fun j => if j = i then x else f j
theorem VBlk.set (h : VBlk w g t f) (i : Nat) (hi : i < 6) (x : Int) : VBlk (w.setCell ⟨g, i, none⟩ (.int .i64 x)) g t (upd f i x) := by
  refine (block_setCell h _).trans ?_
  have h : i = 0 ∨ i = 1 ∨ i = 2 ∨ i = 3 ∨ i = 4 ∨ i = 5 := by omega
  rcases h with rfl | rfl | rfl | rfl | rfl | rfl <;> rfl
end
/-- What 'of' says of the first k numbers. -/
def ofF (l : List Int) (k : Nat) : Nat → Int := fun i => if 1 ≤ i ∧ i ≤ k then max 0 (l.getD (i - 1) 0) else 0
theorem ofF_next (l : List Int) (k : Nat) : upd (ofF l k) (k + 1) (max 0 (l.getD k 0)) = ofF l (k + 1) := by
  funext i
  unfold upd ofF
  by_cases h : i = k + 1
  · subst h; simp
  · rw [if_neg h]
    by_cases h2 : 1 ≤ i ∧ i ≤ k
    · rw [if_pos h2, if_pos (by omega)]
    · rw [if_neg h2, if_neg (by omega)]
set_option maxHeartbeats 1000000 in
theorem vof_any (w : World) (A : Option Addr) (c : Nat) (l : List Int) (hl : l.length ≤ c) (hc : c ≤ maxLen) (hr : Row w A (fun b => b < w.heap.size) (l.map (Value.int .i64))) :
    Calls Try.prog 9 #[.slice A l.length c] w fun e w' => e = .returned (vagg (ofF l (min l.length 5))) ∧ Kp w w' := by
  obtain ⟨N, hN⟩ : ∃ N, l.length = N := ⟨_, rfl⟩
  have HN := Lib.hid hN
  have HR := Lib.hid hr
  have hNm : N ≤ 9223372036854775807 := by unfold maxLen at hc; omega
  obtain ⟨G0, hG0⟩ : ∃ G, w.heap.size = G := ⟨_, rfl⟩
  have HG := Lib.hid hG0
  rw [hN]
  clear hr hN hl hc
  have HW := Lib.hid (show ∀ w2, w2 = (w.alloc (.cells #[.int .i64 0, .int .i64 0, .int .i64 0, .int .i64 0, .int .i64 0, .int .i64 0] 24)).alloc (.cells #[.int .i64 0, .int .i64 0, .int .i64 0, .int .i64 0, .int .i64 0, .int .i64 0] 24) → VBlk w2 G0 24 (fun _ => 0) ∧ VBlk w2 (G0 + 1) 24 (ofF l 0) ∧ Kp w w2 from by
    rintro w2 rfl
    have h1 : VBlk (w.alloc (.cells #[.int .i64 0, .int .i64 0, .int .i64 0, .int .i64 0, .int .i64 0, .int .i64 0] 24)) G0 24 (fun _ => 0) := by rw [← hG0]; exact heap_alloc_new w _
    have h2 := heap_alloc_new (w.alloc (.cells #[.int .i64 0, .int .i64 0, .int .i64 0, .int .i64 0, .int .i64 0, .int .i64 0] 24)) (.cells #[.int .i64 0, .int .i64 0, .int .i64 0, .int .i64 0, .int .i64 0, .int .i64 0] 24)
    refine ⟨h1.keep (G := fun _ => True) ((Keeps.refl _ _).alloc _) trivial, ?_, ((Keeps.refl _ _).alloc _).alloc _⟩
    have e : ofF l 0 = fun _ => 0 := by
      funext i
      unfold ofF
      rw [if_neg (by omega)]
    rw [e, ← hG0]
    unfold VBlk
    have hs : (w.alloc (.cells #[.int .i64 0, .int .i64 0, .int .i64 0, .int .i64 0, .int .i64 0, .int .i64 0] 24)).heap.size = w.heap.size + 1 := by simp
    rw [hs] at h2
    exact h2)
  clear hG0
  go_enter Try.func9, Try.ntmps9
  go_wp2_with fail
  obtain ⟨a1, a2, a3⟩ := HW.out _ rfl
  have H0 := Lib.hid a1
  have H1 := Lib.hid a2
  have HK := Lib.hid a3
  clear a1 a2 a3 HW
  rw [HG.out]
  have HGL := Lib.hid (Nat.le_of_eq HG.out)
  clear HG
  go_loopw [4] (fun i wr => ∃ k : Nat, k ≤ N ∧ k ≤ 5 ∧ i = .int .i64 (k : Int) ∧ Hid (VBlk wr G0 24 (fun _ => 0)) ∧ Hid (VBlk wr (G0 + 1) 24 (ofF l k)) ∧ Hid (Kp w wr)) (fun i _ => 5 - (intOf i).toNat)
  case atStart => exact ⟨0, Nat.zero_le _, by omega, rfl, H0, H1, HK⟩
  case round =>
    clear H0 H1 HK
    obtain ⟨k, hk, hk5, rfl, H0, H1, HK⟩ := hrel
    have hc2 : (k < N ∧ k < 5) ∨ (k < N ∧ ¬ k < 5) ∨ ¬ k < N := by omega
    rcases hc2 with ⟨t1, t2⟩ | ⟨t1, t2⟩ | t1
    case inl =>
      have t1' : (k : Int) < (N : Int) := by omega
      have t2' : (k : Int) < 5 := by omega
      have hkl : k < l.length := by rw [HN.out]; exact t1
      obtain ⟨b, o, rfl, -, hcell⟩ := (HR.out.keep (HK.out.mono fun _ _ _ => trivial)).at_ (k := k) (by rw [List.length_map]; exact hkl)
      rw [List.getElem_map] at hcell
      have HX := Lib.hid (show upd (ofF l k) (k + 1) (max 0 l[k]) = ofF l (k + 1) from by
        have h := ofF_next l k
        rw [List.getD_eq_getElem?_getD, List.getElem?_eq_getElem hkl] at h
        exact h)
      generalize l[k] = x at hcell HX
      have c0 := H1.out.at_ (k + 1) (by omega)
      have f0 := H1.out.fz (k + 1)
      have HS := Lib.hid (H1.out.set (k + 1) (by omega) (max 0 x))
      have HK2 := Lib.hid (show Kp w (wr.setCell ⟨G0 + 1, k + 1, none⟩ (.int .i64 (max 0 x))) from HK.out.setCell (.inl (Nat.le_succ_of_le HGL.out)) _)
      have H02 := Lib.hid (H0.out.keep ((Keeps.refl (fun b => b ≠ G0 + 1) wr).setCell (p := ⟨G0 + 1, k + 1, none⟩) (.inr (fun h => h rfl)) (.int .i64 (max 0 x))) (by omega))
      clear hkl
      go_wp2_with fail
      rw [HX.out] at HS
      go_roundw
      case rel => exact ⟨k + 1, by omega, by omega, by go_num, H02, HS, HK2⟩
      case measure => simp [intOf]; omega
    all_goals (try have t1' : (k : Int) < (N : Int) := by omega)
    all_goals (try have t2' : ¬ (k : Int) < 5 := by omega)
    all_goals (try have t1' : ¬ (k : Int) < (N : Int) := by omega)
    all_goals (
      have hm : min N 5 = k := by omega
      have a0 := H1.out.at_ 0 (by omega)
      have a1 := H1.out.at_ 1 (by omega)
      have a2 := H1.out.at_ 2 (by omega)
      have a3 := H1.out.at_ 3 (by omega)
      have a4 := H1.out.at_ 4 (by omega)
      have a5 := H1.out.at_ 5 (by omega)
      have HE := Lib.hid (show vagg (ofF l (min N 5)) = vagg (ofF l k) from by rw [hm])
      clear hm
      generalize ofF l k = f at a0 a1 a2 a3 a4 a5 HE H1
      have b0 := H0.out.at_ 0 (by omega)
      have b1 := H0.out.at_ 1 (by omega)
      have b2 := H0.out.at_ 2 (by omega)
      have b3 := H0.out.at_ 3 (by omega)
      have b4 := H0.out.at_ 4 (by omega)
      have b5 := H0.out.at_ 5 (by omega)
      have d0 := H0.out.fz 0
      have d1 := H0.out.fz 1
      have d2 := H0.out.fz 2
      have d3 := H0.out.fz 3
      have d4 := H0.out.fz 4
      have d5 := H0.out.fz 5
      go_wp2_with fail
      have hb := (((((H0.out.set 0 (by omega) (f 0)).set 1 (by omega) (f 1)).set 2 (by omega) (f 2)).set 3 (by omega) (f 3)).set 4 (by omega) (f 4)).set 5 (by omega) (f 5)
      have hk := ((((((HK.out.setCell (p := ⟨G0, 0, none⟩) (.inl HGL.out) (.int .i64 (f 0))).setCell (p := ⟨G0, 1, none⟩) (.inl HGL.out) (.int .i64 (f 1))).setCell (p := ⟨G0, 2, none⟩) (.inl HGL.out) (.int .i64 (f 2))).setCell (p := ⟨G0, 3, none⟩) (.inl HGL.out) (.int .i64 (f 3))).setCell (p := ⟨G0, 4, none⟩) (.inl HGL.out) (.int .i64 (f 4))).setCell (p := ⟨G0, 5, none⟩) (.inl HGL.out) (.int .i64 (f 5)))
      refine bodyPost_ret (v := vagg f) ?_ rfl ⟨by rw [HE.out], hk⟩
      generalize World.setCell (World.setCell (World.setCell (World.setCell (World.setCell (World.setCell wr _ _) _ _) _ _) _ _) _ _) _ _ = W6 at hb ⊢
      have e0 := hb.at_ 0 (by omega)
      have e1 := hb.at_ 1 (by omega)
      have e2 := hb.at_ 2 (by omega)
      have e3 := hb.at_ 3 (by omega)
      have e4 := hb.at_ 4 (by omega)
      have e5 := hb.at_ 5 (by omega)
      simp only [upd] at e0 e1 e2 e3 e4 e5
      simp [results, Try.results9, go_sem, vagg, vcells, e0, e1, e2, e3, e4, e5])

end Go.Proofs.Ytdgpdooikfamlaa
