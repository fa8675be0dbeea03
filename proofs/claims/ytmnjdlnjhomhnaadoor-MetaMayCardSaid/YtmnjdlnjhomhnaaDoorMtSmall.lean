/-
  THE PROGRAM's KEEPER OF METAS, the small functions: fits, May, down, Meta (layer 12).
-/
import Derived.Test.YtmnjdlnjhomhnaaDoorMtLocs
namespace Go.Proofs.YtmnjdlnjhomhnaaDoor
open Go Go.RowKit Go.Joins
def fitZ (z : Int) : Bool := decide (0 ≤ z) && decide (z ≤ 1099511627776)
theorem mfits_any (w : World) (z : Int) : Calls Tryd.prog 20 #[.int .i64 z] w fun e w' => e = .returned (.bool (fitZ z)) ∧ w = w' := by
  have hcase : (decide (0 ≤ z) = true ∧ decide (z ≤ 1099511627776) = true) ∨ (decide (0 ≤ z) = true ∧ decide (z ≤ 1099511627776) = false) ∨ decide (0 ≤ z) = false := by
    cases h1 : decide (0 ≤ z) <;> cases h2 : decide (z ≤ 1099511627776) <;> simp
  have HM := Lib.hid (show fitZ z = (decide (0 ≤ z) && decide (z ≤ 1099511627776)) from rfl)
  generalize fitZ z = b at HM ⊢
  rcases hcase with ⟨t1, t2⟩ | ⟨t1, t2⟩ | t1
  all_goals (
    go_enter Tryd.func20, Tryd.ntmps20
    go_wp2_with fail
    go_ret
    exact ⟨by simp [HM.out, *], rfl⟩)
theorem mayB_fits (x : M4) : mayB x = (fitZ x.boot && (fitZ x.epoch && (fitZ x.ready && (if x.ready == 0 then !x.frozen else decide (x.epoch < x.ready))))) := by
  obtain ⟨bo, ep, re, fr⟩ := x
  unfold mayB small12 fitZ
  simp only
  by_cases h : re = 0
  · subst h
    have e1 : ((0 : Int) == 0) = true := by decide
    have e2 : (decide (0 ≤ ep) && decide (ep < 0)) = false := by
      cases h1 : decide (0 ≤ ep) <;> simp_all
    rw [e1]
    cases decide (0 ≤ bo) <;> cases decide (bo ≤ 1099511627776) <;> cases h1 : decide (0 ≤ ep) <;> cases decide (ep ≤ 1099511627776) <;> cases fr <;> simp_all
  · have e1 : (re == 0) = false := by simpa using h
    rw [e1]
    cases decide (0 ≤ bo) <;> cases decide (bo ≤ 1099511627776) <;> cases h1 : decide (0 ≤ ep) <;> cases decide (ep ≤ 1099511627776) <;> cases decide (0 ≤ re) <;> cases decide (re ≤ 1099511627776) <;> simp
set_option maxHeartbeats 1000000 in
theorem mmay_any (w : World) (x : M4) : Calls Tryd.prog 11 #[magg x] w fun e w' => e = .returned (.bool (mayB x)) ∧ Kp w w' := by
  have HM := Lib.hid (mayB_fits x)
  generalize mayB x = b at HM ⊢
  obtain ⟨bo, ep, re, fr⟩ := x
  have HM2 := Lib.hid (show b = (fitZ bo && (fitZ ep && (fitZ re && (if re == 0 then !fr else decide (ep < re))))) from HM.out)
  clear HM
  have HK := Lib.hid ((Keeps.refl (fun _ => True) w).alloc (.cells #[.int .i64 bo, .int .i64 ep, .int .i64 re, .bool fr] 32))
  unfold magg
  go_enter Tryd.func11, Tryd.ntmps11
  go_wp2_with fail
  refine (mfits_any _ bo).mono ?_
  rintro e w1 ⟨rfl, rfl⟩
  cases h1 : fitZ bo with
  | false =>
    have HE := Lib.hid h1
    clear h1
    go_wp2_with fail
    go_ret
    exact ⟨by simp [HM2.out, HE.out], HK.out⟩
  | true =>
    have HE1 := Lib.hid h1
    clear h1
    go_wp2_with fail
    refine (mfits_any _ ep).mono ?_
    rintro e w1 ⟨rfl, rfl⟩
    cases h1 : fitZ ep with
    | false =>
      have HE := Lib.hid h1
      clear h1
      go_wp2_with fail
      go_ret
      exact ⟨by simp [HM2.out, HE.out], HK.out⟩
    | true =>
      have HE2 := Lib.hid h1
      clear h1
      go_wp2_with fail
      refine (mfits_any _ re).mono ?_
      rintro e w1 ⟨rfl, rfl⟩
      cases h1 : fitZ re with
      | false =>
        have HE := Lib.hid h1
        clear h1
        go_wp2_with fail
        go_ret
        exact ⟨by simp [HM2.out, HE.out], HK.out⟩
      | true =>
        have HE3 := Lib.hid h1
        clear h1
        have hc : (re == 0) = true ∨ (re == 0) = false := by cases (re == 0) <;> simp
        rcases hc with t | t
        · have HF := Lib.hid (show b = !fr from by rw [HM2.out, HE1.out, HE2.out, HE3.out, t]; rfl)
          go_wp2_with fail
          go_ret
          exact ⟨by rw [HF.out]; rfl, HK.out⟩
        · have HF := Lib.hid (show b = decide (ep < re) from by rw [HM2.out, HE1.out, HE2.out, HE3.out, t]; rfl)
          go_wp2_with fail
          go_ret
          exact ⟨by rw [HF.out]; rfl, HK.out⟩
def KBlk (w : World) (k q : Nat) (m : M4) : Prop :=
  w.heap[k]? = some (.cells #[.pointer (some ⟨q, 0, none⟩), .int .i64 m.boot, .int .i64 m.epoch, .int .i64 m.ready, .bool m.frozen] 48 (0, 0))
section
variable {w w' : World} {k q : Nat} {m : M4} {G : Nat → Prop}
theorem KBlk.lt (h : KBlk w k q m) : k < w.heap.size := (Array.getElem?_eq_some_iff.1 h).1
theorem KBlk.keep (h : KBlk w k q m) (hk : Keeps G w w') (hG : G k) : KBlk w' k q m := (hk.block k hG h.lt).trans h
theorem KBlk.c0 (h : KBlk w k q m) : w.cell? ⟨k, 0, none⟩ = some (.pointer (some ⟨q, 0, none⟩)) := cell_of_block h 0
theorem KBlk.c1 (h : KBlk w k q m) : w.cell? ⟨k, 1, none⟩ = some (.int .i64 m.boot) := cell_of_block h 1
theorem KBlk.c2 (h : KBlk w k q m) : w.cell? ⟨k, 2, none⟩ = some (.int .i64 m.epoch) := cell_of_block h 2
theorem KBlk.c3 (h : KBlk w k q m) : w.cell? ⟨k, 3, none⟩ = some (.int .i64 m.ready) := cell_of_block h 3
theorem KBlk.c4 (h : KBlk w k q m) : w.cell? ⟨k, 4, none⟩ = some (.bool m.frozen) := cell_of_block h 4
theorem KBlk.fz (h : KBlk w k q m) (i : Nat) : w.frozen? ⟨k, i, none⟩ = false := unfrozen_of_block h i
theorem KBlk.new (w : World) (q : Nat) (m : M4) (k : Nat) (hk : k = w.heap.size) : KBlk (w.alloc (.cells #[.pointer (some ⟨q, 0, none⟩), .int .i64 m.boot, .int .i64 m.epoch, .int .i64 m.ready, .bool m.frozen] 48)) k q m := by subst hk; exact heap_alloc_new w _
theorem KBlk.set4 (h : KBlk w k q m) (x : M4) : KBlk ((((w.setCell ⟨k, 1, none⟩ (.int .i64 x.boot)).setCell ⟨k, 2, none⟩ (.int .i64 x.epoch)).setCell ⟨k, 3, none⟩ (.int .i64 x.ready)).setCell ⟨k, 4, none⟩ (.bool x.frozen)) k q x :=
  (block_setCell (block_setCell (block_setCell (block_setCell h _) _) _) _).trans rfl
end
theorem down_no (w : World) (k q : Nat) (m : M4) (h : KBlk w k q m) : Calls Tryd.prog 21 #[.pointer (some ⟨k, 0, none⟩)] w fun e w' => e = .returned (.bool false) ∧ w = w' := by
  have c0 := h.c0
  clear h
  go_enter Tryd.func21, Tryd.ntmps21
  go_wp2_with fail
  go_ret
  exact ⟨rfl, rfl⟩
theorem down_nil (w : World) : Calls Tryd.prog 21 #[.pointer none] w fun e w' => e = .returned (.bool true) ∧ w = w' := by
  go_enter Tryd.func21, Tryd.ntmps21
  go_wp2_with fail
  go_ret
  exact ⟨rfl, rfl⟩
set_option maxHeartbeats 1000000 in
theorem kmeta_any (w : World) (k q : Nat) (m : M4) (h : KBlk w k q m) : Calls Tryd.prog 16 #[.pointer (some ⟨k, 0, none⟩)] w fun e w' => e = .returned (magg m) ∧ Kp w w' := by
  obtain ⟨bo, ep, re, fr⟩ := m
  have c1 := h.c1
  have c2 := h.c2
  have c3 := h.c3
  have c4 := h.c4
  have hlt := h.lt
  simp only at c1 c2 c3 c4
  clear h
  have HK := Lib.hid ((Keeps.refl (fun _ => True) w).alloc (.cells #[.int .i64 bo, .int .i64 ep, .int .i64 re, .bool fr] 32))
  unfold magg
  go_enter Tryd.func16, Tryd.ntmps16
  go_wp2_with fail
  refine bodyPost_ret (v := .agg #[.int .i64 bo, .int .i64 ep, .int .i64 re, .bool fr]) ?_ rfl ⟨rfl, HK.out⟩
  simp [results, Tryd.results16, go_sem]
set_option maxHeartbeats 1000000 in
theorem kmeta_nil (w : World) : Calls Tryd.prog 16 #[.pointer none] w fun e w' => e = .returned (magg m0) ∧ Kp w w' := by
  have HK := Lib.hid ((Keeps.refl (fun _ => True) w).alloc (.cells #[.int .i64 0, .int .i64 0, .int .i64 0, .bool false] 32))
  go_enter Tryd.func16, Tryd.ntmps16
  go_wp2_with fail
  refine bodyPost_ret (v := .agg #[.int .i64 0, .int .i64 0, .int .i64 0, .bool false]) ?_ rfl ⟨rfl, HK.out⟩
  simp [results, Tryd.results16, go_sem]
theorem ksave_nil (w : World) (x : M4) : Calls Tryd.prog 12 #[.pointer none, magg x] w fun e w' => e = .returned (.int .i64 8) ∧ Kp w w' := by
  obtain ⟨bo, ep, re, fr⟩ := x
  have HK := Lib.hid ((Keeps.refl (fun _ => True) w).alloc (.cells #[.int .i64 bo, .int .i64 ep, .int .i64 re, .bool fr] 32))
  unfold magg
  go_enter Tryd.func12, Tryd.ntmps12
  go_wp2_with fail
  refine (down_nil _).mono ?_
  rintro e w1 ⟨rfl, rfl⟩
  go_wp2_with fail
  go_ret
  exact ⟨rfl, HK.out⟩
end Go.Proofs.YtmnjdlnjhomhnaaDoor
