/-
  THE WALK OF PointsLess, however the program compares.
-/
import Derived.Test.YtgikpilgmdlegaaPtBegun
namespace Go.Proofs.Ytgikpilgmdlegaa.pointsLess
open Go Go.RowKit Go.Joins

/-- A point's two cells. -/
def Two (w : World) (g : Nat) (x : P2) : Prop := w.cell? ⟨g, 0, none⟩ = some (.int .u64 x.place) ∧ w.cell? ⟨g, 1, none⟩ = some (.int .i64 x.node)
theorem Two.keep {w w' : World} {g : Nat} {x : P2} (h : Two w g x) (hk : Kp w w') : Two w' g x := ⟨hk.cell h.1 trivial, hk.cell h.2 trivial⟩
theorem Two.new (w : World) (x : P2) (t : TypeId) (g : Nat) (hg : g = w.heap.size) : Two (w.alloc (.cells (pcells x) t)) g x := by
  subst hg
  have hb := heap_alloc_new w (.cells (pcells x) t)
  exact ⟨by rw [World.cell?, hb]; rfl, by rw [World.cell?, hb]; rfl⟩
section
variable {o : Oper} {a : Act} {w : World} {Q : Exit → Act → World → Prop} {x y : Operand}
theorem kp_ldP {g : Nat} {m : P2} (h : Two w g m) (ho : o.op = .load 31 x) (hx : a.eval x = .pointer (some ⟨g, 0, none⟩)) : o.wp Try.prog a w (fun a' w' => ∃ v, a' = a.put o.dst v ∧ Kp w w' ∧ IsV (pagg m) w' v) Q := by
  obtain ⟨c0, c1⟩ := h
  refine kp_yield (v := pagg m) (w' := w) ?_ (Keeps.refl _ _) rfl
  generalize a.eval = ρ at hx ⊢
  unfold execOp pagg
  rw [ho]
  go_simp
theorem kp_less (S : PointsOK) {m n : P2} {b : Bool} (hb : lessB m n = b) (ho : o.op = .call { callee := .value (.func 11), args := #[x, y], argTypes := #[31, 31] }) (hx : a.eval x = pagg m) (hy : a.eval y = pagg n) :
    o.wp Try.prog a w (fun a' w' => ∃ v, a' = a.put o.dst v ∧ Kp w w' ∧ IsV (.bool b) w' v) Q := by
  subst hb
  have hg : a.eval (.func 11) = .func (.func 11) #[] #[] := rfl
  refine kp_enter (f := 11) (args := #[pagg m, pagg n]) ?_ (S.less w m n) ?_
  · generalize a.eval = ρ at hx hy hg ⊢
    unfold execOp
    rw [ho]
    go_simp
  · rintro e w' ⟨rfl, hk⟩
    exact ⟨_, rfl, hk, rfl⟩
end
def G4 : Nat → Option Bool := fun _ => none
def L4 (a b : P2) : List Value := [pagg a, pagg b, .bool (lessB a b), pagg b, pagg a, .bool (lessB b a), .bool (lessB a b), .bool (lessB b a)]
def V4 (a b : P2) : Nat → World → Value → Prop := fun i => IsV ((L4 a b).getD i undef)

set_option maxRecDepth 100000 in
set_option maxHeartbeats 4000000 in
theorem walk (S : PointsOK) (w : World) (hT : S.T w) (a b : P2) : Calls Try.prog 4 #[pagg a, pagg b] w fun e w' => e = .returned (.bool true) ∧ Below w.heap.size w w' := by
  have HT := Lib.hid hT
  clear hT
  have HA := Lib.hid (Two.new w a 31 _ rfl)
  have HB := Lib.hid (Two.new (w.alloc (.cells (pcells a) 31)) b 31 (w.heap.size + 1) (by simp))
  have hcs : (decide (a.place < b.place) = true ∧ (a.place == b.place) = false ∧ (a.place != b.place) = true ∧ lessB a b = true ∧ lessB b a = false) ∨
      (decide (a.place < b.place) = false ∧ (a.place == b.place) = false ∧ (a.place != b.place) = true ∧ lessB a b = false ∧ lessB b a = true) ∨
      (decide (a.place < b.place) = false ∧ (a.place == b.place) = true ∧ (a.place != b.place) = false ∧ decide (a.node < b.node) = true ∧ (a.node != b.node) = true ∧ lessB a b = true ∧ lessB b a = false) ∨
      (decide (a.place < b.place) = false ∧ (a.place == b.place) = true ∧ (a.place != b.place) = false ∧ decide (a.node < b.node) = false ∧ (a.node != b.node) = true ∧ lessB a b = false ∧ lessB b a = true) ∨
      (decide (a.place < b.place) = false ∧ (a.place == b.place) = true ∧ (a.place != b.place) = false ∧ decide (a.node < b.node) = false ∧ (a.node != b.node) = false ∧ lessB a b = false ∧ lessB b a = false) := by
    rcases Int.lt_trichotomy a.place b.place with h | h | h
    · have h1 : ¬ b.place < a.place := by omega
      have h2 : a.place ≠ b.place := by omega
      exact .inl (by simp [lessB, h, h1, h2, Ne.symm h2])
    · rcases Int.lt_trichotomy a.node b.node with g | g | g
      · have g1 : ¬ b.node < a.node := by omega
        have g2 : a.node ≠ b.node := by omega
        exact .inr (.inr (.inl (by simp [lessB, h, g, g1, g2])))
      · exact .inr (.inr (.inr (.inr (by simp [lessB, h, g]))))
      · have g1 : ¬ a.node < b.node := by omega
        have g2 : a.node ≠ b.node := by omega
        exact .inr (.inr (.inr (.inl (by simp [lessB, h, g, g1, g2]))))
    · have h1 : ¬ a.place < b.place := by omega
      have h2 : a.place ≠ b.place := by omega
      exact .inr (.inl (by simp [lessB, h, h1, h2]))
  have HG1 := Lib.hid (show pagg a = .agg #[.int .u64 a.place, .int .i64 a.node] from rfl)
  have HG2 := Lib.hid (show pagg b = .agg #[.int .u64 b.place, .int .i64 b.node] from rfl)
  rw [HG1.out, HG2.out]
  go_enter Try.func4, Try.ntmps4
  go_wp2_with fail
  refine (begun13 S _ (S.tk HT.out (((Keeps.refl _ w).alloc _).alloc _))).mono ?_
  rintro e w1 ⟨rfl, hk⟩
  have HA1 := Lib.hid ((HA.out.keep ((Keeps.refl _ _).alloc _)).keep hk)
  have HB1 := Lib.hid (HB.out.keep hk)
  have HW := Lib.hid ((((Keeps.refl (fun _ => True) w).alloc _).alloc _).trans hk)
  clear hk HA HB
  go_wp2_with fail
  refine wp_region_guard (R := Kp) (V := V4 a b) (w0 := w1) G4 (by kernel_rfl) (fun w => Keeps.refl _ w) (fun _ _ _ h k => h.trans k) (fun _ _ _ _ _ h => h) (by kernel_rfl) (fun _ _ h => by cases h) (unwanted_of [] (by kernel_rfl) (fun _ h => by cases h)) ((Keeps.refl _ w1).drew) (each_of ?_) ?_
  · refine ⟨?_, ?_, ?_, ?_, ?_, ?_, ?_, ?_, trivial⟩ <;> intro hw a1 wx L
    · exact kp_ldP (HA1.out.keep L.rel) rfl (L.old 2 (by kernel_rfl))
    · exact kp_ldP (HB1.out.keep L.rel) rfl (L.old 3 (by kernel_rfl))
    · exact kp_less S rfl rfl (L.val 0 11 (by kernel_rfl) (by kernel_rfl)) (L.val 1 12 (by kernel_rfl) (by kernel_rfl))
    · exact kp_ldP (HB1.out.keep L.rel) rfl (L.old 3 (by kernel_rfl))
    · exact kp_ldP (HA1.out.keep L.rel) rfl (L.old 2 (by kernel_rfl))
    · exact kp_less S rfl rfl (L.val 3 14 (by kernel_rfl) (by kernel_rfl)) (L.val 4 15 (by kernel_rfl) (by kernel_rfl))
    · exact kp_assign rfl (L.val 2 13 (by kernel_rfl) (by kernel_rfl))
    · exact kp_assign rfl (L.val 5 16 (by kernel_rfl) (by kernel_rfl))
  · intro vs w8 hw8 hlen hv
    match vs, hlen with
    | [v0, v1, v2, v3, v4, v5, v6, v7], _ =>
      have e6 : v6 = .bool (lessB a b) := hv 6 6 (by kernel_rfl)
      have e7 : v7 = .bool (lessB b a) := hv 7 7 (by kernel_rfl)
      clear hv
      subst e6 e7
      have HK8 := Lib.hid (HW.out.trans hw8)
      obtain ⟨c0, c1⟩ := HA1.out.keep hw8
      obtain ⟨d0, d1⟩ := HB1.out.keep hw8
      clear hw8 HA1 HB1 HW
      simp only [putAll, List.map, Act.put, List.setIfInBounds_toArray, List.set_cons_succ, List.set_cons_zero, Exit.then]
      rcases hcs with ⟨t1, t2, t3, l1, l2⟩ | ⟨t1, t2, t3, l1, l2⟩ | ⟨t1, t2, t3, t4, t5, l1, l2⟩ | ⟨t1, t2, t3, t4, t5, l1, l2⟩ | ⟨t1, t2, t3, t4, t5, l1, l2⟩
      all_goals (
        rw [l1, l2]
        clear l1 l2
        go_wp2_with fail
        go_ret
        exact ⟨rfl, HK8.out.below⟩)
end Go.Proofs.Ytgikpilgmdlegaa.pointsLess
