/-
  THE PROGRAM's KEEPER OF METAS: Save (layer 12).
-/
import Derived.Test.YtmnjdlnjhomhnaaDoorMtKeep
namespace Go.Proofs.YtmnjdlnjhomhnaaDoor
open Go Go.RowKit Go.Joins
section
variable {o : Oper} {a : Act} {w : World} {Q : Exit → Act → World → Prop} {x y : Operand}
theorem kp_mayC {v : Value} {b : Bool} (hm : ∀ w2, Calls Tryd.prog 11 #[v] w2 fun e w' => e = .returned (.bool b) ∧ Kp w2 w') (ho : o.op = .call { callee := .value (.func 11), args := #[x], argTypes := #[32] }) (hx : a.eval x = v) : o.wp Tryd.prog a w (fun a' w' => ∃ v, a' = a.put o.dst v ∧ Kp w w' ∧ IsV (.bool b) w' v) Q := by
  have hg : a.eval (.func 11) = .func (.func 11) #[] #[] := rfl
  refine kp_call12 (F := 11) (args := #[v]) ?_ (hm w)
  clear hm
  generalize a.eval = ρ at hx hg ⊢
  unfold execOp
  rw [ho]
  go_simp
theorem kp_fM0 {b j : Nat} (ho : o.op = .fieldAddr 32 x 0) (hx : a.eval x = .pointer (some ⟨b, j, none⟩)) : o.wp Tryd.prog a w (fun a' w' => ∃ v, a' = a.put o.dst v ∧ Kp w w' ∧ IsV (.pointer (some ⟨b, j, none⟩)) w' v) Q := by
  refine kp_yield (v := .pointer (some ⟨b, j, none⟩)) (w' := w) ?_ (Keeps.refl _ _) rfl
  generalize a.eval = ρ at hx ⊢
  unfold execOp
  rw [ho]
  go_simp
theorem kp_fM1 {b j : Nat} (ho : o.op = .fieldAddr 32 x 1) (hx : a.eval x = .pointer (some ⟨b, j, none⟩)) : o.wp Tryd.prog a w (fun a' w' => ∃ v, a' = a.put o.dst v ∧ Kp w w' ∧ IsV (.pointer (some ⟨b, j + 1, none⟩)) w' v) Q := by
  refine kp_yield (v := .pointer (some ⟨b, j + 1, none⟩)) (w' := w) ?_ (Keeps.refl _ _) rfl
  generalize a.eval = ρ at hx ⊢
  unfold execOp
  rw [ho]
  go_simp
theorem kp_fK1 {b : Nat} (ho : o.op = .fieldAddr 48 x 1) (hx : a.eval x = .pointer (some ⟨b, 0, none⟩)) : o.wp Tryd.prog a w (fun a' w' => ∃ v, a' = a.put o.dst v ∧ Kp w w' ∧ IsV (.pointer (some ⟨b, 1, none⟩)) w' v) Q := by
  refine kp_yield (v := .pointer (some ⟨b, 1, none⟩)) (w' := w) ?_ (Keeps.refl _ _) rfl
  generalize a.eval = ρ at hx ⊢
  unfold execOp
  rw [ho]
  go_simp
theorem kp_nilM {p : Addr} (ho : o.op = .nilCheck x) (hx : a.eval x = .pointer (some p)) : o.wp Tryd.prog a w (fun a' w' => ∃ v, a' = a.put o.dst v ∧ Kp w w' ∧ IsV (.pointer (some p)) w' v) Q := by
  refine kp_yield (v := .pointer (some p)) (w' := w) ?_ (Keeps.refl _ _) rfl
  generalize a.eval = ρ at hx ⊢
  unfold execOp
  rw [ho]
  go_simp
theorem kp_ldN12 {p : Addr} {n : Int} (hc : w.cell? p = some (.int .i64 n)) (ho : o.op = .load 2 x) (hx : a.eval x = .pointer (some p)) : o.wp Tryd.prog a w (fun a' w' => ∃ v, a' = a.put o.dst v ∧ Kp w w' ∧ IsV (.int .i64 n) w' v) Q := by
  refine kp_yield (v := .int .i64 n) (w' := w) ?_ (Keeps.refl _ _) rfl
  generalize a.eval = ρ at hx ⊢
  unfold execOp
  rw [ho]
  go_simp
theorem kp_lssM {m n : Int} {b : Bool} (hb : decide (m < n) = b) (ho : o.op = .binOp .lss 2 x y 2) (hx : a.eval x = .int .i64 m) (hy : a.eval y = .int .i64 n) : o.wp Tryd.prog a w (fun a' w' => ∃ v, a' = a.put o.dst v ∧ Kp w w' ∧ IsV (.bool b) w' v) Q := by
  subst hb
  refine kp_yield (v := .bool (decide (m < n))) (w' := w) ?_ (Keeps.refl _ _) rfl
  generalize a.eval = ρ at hx hy ⊢
  unfold execOp
  rw [ho]
  go_simp
end
theorem g_two {V : Nat → World → Value → Prop} {x y : Bool} (i j : Nat) (hi : ∀ w v, V i w v → v = .bool x) (hj : ∀ w v, V j w v → v = .bool y) (g : Nat) (c : Bool) (h : (if g = i then some x else if g = j then some y else none) = some c) (w : World) (v : Value) (hv : V g w v) : v = .bool c := by
  by_cases e : g = i
  · subst e; rw [if_pos rfl] at h; cases h; exact hi _ _ hv
  · rw [if_neg e] at h
    by_cases e2 : g = j
    · subst e2; rw [if_pos rfl] at h; cases h; exact hj _ _ hv
    · rw [if_neg e2] at h; cases h
set_option maxRecDepth 100000 in
set_option maxHeartbeats 2000000 in
theorem ksave_no (w : World) (k q : Nat) (m x : M4) (hb : KBlk w k q m) (hx : (mayB x && overB m x) = false) :
    Calls Tryd.prog 12 #[.pointer (some ⟨k, 0, none⟩), magg x] w fun e w' => e = .returned (.int .i64 1) ∧ Kp w w' := by
  have hcase : mayB x = false ∨ (mayB x = true ∧ decide (x.boot < m.boot) = true) ∨ (mayB x = true ∧ decide (x.boot < m.boot) = false ∧ decide (x.epoch < m.epoch) = true) := by
    cases h1 : mayB x with
    | false => exact .inl rfl
    | true =>
      right
      rw [h1, Bool.true_and] at hx
      unfold overB at hx
      by_cases h2 : x.boot < m.boot
      · left; exact ⟨rfl, by simpa using h2⟩
      · right
        have e1 : decide (m.boot ≤ x.boot) = true := by simp; omega
        rw [e1, Bool.true_and] at hx
        have h3 : ¬ m.epoch ≤ x.epoch := by simpa using hx
        exact ⟨rfl, by simpa using h2, by simp; omega⟩
  have HM := Lib.hid (show ∀ w2, Calls Tryd.prog 11 #[magg x] w2 fun e w' => e = .returned (.bool (mayB x)) ∧ Kp w2 w' from fun w2 => mmay_any w2 x)
  have HBW := Lib.hid hb
  clear hb hx
  obtain ⟨bo, ep, re, fr⟩ := x
  obtain ⟨b0, e0, r0, f0⟩ := m
  have hcase2 : mayB ⟨bo, ep, re, fr⟩ = false ∨ (mayB ⟨bo, ep, re, fr⟩ = true ∧ decide (bo < b0) = true) ∨ (mayB ⟨bo, ep, re, fr⟩ = true ∧ decide (bo < b0) = false ∧ decide (ep < e0) = true) := hcase
  clear hcase
  unfold magg at HM ⊢
  have HMM := Lib.hid (show ∀ w2, Calls Tryd.prog 11 #[.agg #[.int .i64 bo, .int .i64 ep, .int .i64 re, .bool fr]] w2 fun e w' => e = .returned (.bool (mayB ⟨bo, ep, re, fr⟩)) ∧ Kp w2 w' from HM.out)
  have HM := HMM
  clear HMM
  show Calls _ _ #[.pointer (some ⟨k, 0, none⟩), .agg #[.int .i64 bo, .int .i64 ep, .int .i64 re, .bool fr]] _ _
  generalize mayB ⟨bo, ep, re, fr⟩ = b at HM hcase2
  obtain ⟨g, hg⟩ : ∃ g, w.heap.size = g := ⟨_, rfl⟩
  have HW := Lib.hid (show ∀ w2, w2 = w.alloc (.cells #[.int .i64 bo, .int .i64 ep, .int .i64 re, .bool fr] 32) → MBlk w2 g ⟨bo, ep, re, fr⟩ ∧ KBlk w2 k q ⟨b0, e0, r0, f0⟩ ∧ Kp w w2 from by
    rintro w2 rfl
    exact ⟨MBlk.new w ⟨bo, ep, re, fr⟩ g hg.symm, HBW.out.keep ((Keeps.refl (fun _ => True) w).alloc _) trivial, (Keeps.refl _ w).alloc _⟩)
  clear HBW
  rcases hcase2 with h1 | ⟨h1, h2⟩ | ⟨h1, h2, h3⟩
  · subst h1
    go_enter Tryd.func12, Tryd.ntmps12
    go_upto_region 1 with fail
    obtain ⟨a1, a2, a3⟩ := HW.out _ rfl
    rw [hg] at *
    generalize World.alloc w _ = w1 at a1 a2 a3 ⊢
    have HX := Lib.hid a1
    have HB := Lib.hid a2
    have HK := Lib.hid a3
    clear a1 a2 a3 HW
    go_wp2_with fail
    refine (show Calls _ _ _ _ _ from down_no w1 k q _ HB.out).mono ?_
    rintro e w2 ⟨rfl, rfl⟩
    go_wp2_with fail
    refine wp_region_guard (R := Kp) (V := fun i => IsV (([.agg #[.int .i64 bo, .int .i64 ep, .int .i64 re, .bool fr], .bool false, .bool true, .bool true, undef, undef, undef, undef, undef, undef, undef, undef, .bool true, .bool true, undef, undef, undef, undef, undef, undef, undef, undef, .bool true] : List Value).getD i undef)) (w0 := w1) (fun i => if i = 3 then some true else if i = 13 then some true else none) (by kernel_rfl) (fun w => Keeps.refl _ w) (fun _ _ _ h k => h.trans k) (fun _ _ _ _ _ h => h) (by kernel_rfl) (g_two 3 13 (fun _ _ h => h) (fun _ _ h => h)) (unwanted_of [4, 5, 6, 7, 8, 9, 10, 11, 14, 15, 16, 17, 18, 19, 20, 21] (by kernel_rfl) (by intro i hi; simp only [List.mem_cons, List.not_mem_nil, or_false] at hi; rcases hi with rfl | rfl | rfl | rfl | rfl | rfl | rfl | rfl | rfl | rfl | rfl | rfl | rfl | rfl | rfl | rfl <;> rfl)) ((Keeps.refl _ w1).drew) (each_of ?_) ?_
    · refine ⟨?_, ?_, ?_, ?_, ?_, ?_, ?_, ?_, ?_, ?_, ?_, ?_, ?_, ?_, ?_, ?_, ?_, ?_, ?_, ?_, ?_, ?_, ?_, trivial⟩ <;> intro hw a1 w3 L
      · exact kp_ldM (HX.out.keep L.rel trivial).four rfl (L.old 3 (by kernel_rfl))
      · exact kp_mayC HM.out rfl (L.val 0 8 (by kernel_rfl) (by kernel_rfl))
      · exact kp_not12 rfl rfl (L.val 1 9 (by kernel_rfl) (by kernel_rfl))
      · exact kp_move rfl (L.val 2 10 (by kernel_rfl) (by kernel_rfl))
      · cases hw
      · cases hw
      · cases hw
      · cases hw
      · cases hw
      · cases hw
      · cases hw
      · cases hw
      · exact kp_pick rfl (L.val 3 11 (by kernel_rfl) (by kernel_rfl)) rfl
      · exact kp_move rfl (L.val 12 20 (by kernel_rfl) (by kernel_rfl))
      · cases hw
      · cases hw
      · cases hw
      · cases hw
      · cases hw
      · cases hw
      · cases hw
      · cases hw
      · exact kp_pick rfl (L.val 13 21 (by kernel_rfl) (by kernel_rfl)) rfl
    · intro vs w3 hk3 hlen3 hv
      match vs, hlen3 with
      | u0 :: u1 :: u2 :: u3 :: u4 :: u5 :: u6 :: u7 :: u8 :: u9 :: u10 :: u11 :: u12 :: u13 :: u14 :: u15 :: u16 :: u17 :: u18 :: u19 :: u20 :: u21 :: u22 :: [], _ =>
        have e22 : u22 = .bool true := hv 22 30 (by kernel_rfl)
        clear hv
        subst e22
        have HK3 := Lib.hid (HK.out.trans hk3)
        have HB3 := Lib.hid (HB.out.keep hk3 trivial)
        have HX3 := Lib.hid (HX.out.keep hk3 trivial)
        have HD3 := Lib.hid hk3
        clear hk3
        simp only [putAll, List.map, Act.put, List.setIfInBounds_toArray, List.set_cons_succ, List.set_cons_zero, Exit.then]
        clear HB3 HX3 HD3 HX HB HK HM
        go_wp2_with fail
        go_ret
        exact ⟨rfl, HK3.out⟩
  · subst h1
    go_enter Tryd.func12, Tryd.ntmps12
    go_upto_region 1 with fail
    obtain ⟨a1, a2, a3⟩ := HW.out _ rfl
    rw [hg] at *
    generalize World.alloc w _ = w1 at a1 a2 a3 ⊢
    have HX := Lib.hid a1
    have HB := Lib.hid a2
    have HK := Lib.hid a3
    clear a1 a2 a3 HW
    go_wp2_with fail
    refine (show Calls _ _ _ _ _ from down_no w1 k q _ HB.out).mono ?_
    rintro e w2 ⟨rfl, rfl⟩
    go_wp2_with fail
    refine wp_region_guard (R := Kp) (V := fun i => IsV (([.agg #[.int .i64 bo, .int .i64 ep, .int .i64 re, .bool fr], .bool true, .bool false, .bool false, .pointer (some ⟨g, 0, none⟩), .int .i64 bo, .pointer (some ⟨k, 0, none⟩), .pointer (some ⟨k, 0, none⟩), .pointer (some ⟨k, 1, none⟩), .pointer (some ⟨k, 1, none⟩), .int .i64 b0, .bool true, .bool true, .bool true, undef, undef, undef, undef, undef, undef, undef, undef, .bool true] : List Value).getD i undef)) (w0 := w1) (fun i => if i = 3 then some false else if i = 13 then some true else none) (by kernel_rfl) (fun w => Keeps.refl _ w) (fun _ _ _ h k => h.trans k) (fun _ _ _ _ _ h => h) (by kernel_rfl) (g_two 3 13 (fun _ _ h => h) (fun _ _ h => h)) (unwanted_of [14, 15, 16, 17, 18, 19, 20, 21] (by kernel_rfl) (by intro i hi; simp only [List.mem_cons, List.not_mem_nil, or_false] at hi; rcases hi with rfl | rfl | rfl | rfl | rfl | rfl | rfl | rfl <;> rfl)) ((Keeps.refl _ w1).drew) (each_of ?_) ?_
    · refine ⟨?_, ?_, ?_, ?_, ?_, ?_, ?_, ?_, ?_, ?_, ?_, ?_, ?_, ?_, ?_, ?_, ?_, ?_, ?_, ?_, ?_, ?_, ?_, trivial⟩ <;> intro hw a1 w3 L
      · exact kp_ldM (HX.out.keep L.rel trivial).four rfl (L.old 3 (by kernel_rfl))
      · exact kp_mayC HM.out rfl (L.val 0 8 (by kernel_rfl) (by kernel_rfl))
      · exact kp_not12 rfl rfl (L.val 1 9 (by kernel_rfl) (by kernel_rfl))
      · exact kp_move rfl (L.val 2 10 (by kernel_rfl) (by kernel_rfl))
      · exact kp_fM0 rfl (L.old 3 (by kernel_rfl))
      · exact kp_ldN12 (HX.out.keep L.rel trivial).four.1 rfl (L.val 4 12 (by kernel_rfl) (by kernel_rfl))
      · exact kp_move rfl (L.old 0 (by kernel_rfl))
      · exact kp_nilM rfl (L.val 6 14 (by kernel_rfl) (by kernel_rfl))
      · exact kp_fK1 rfl (L.val 7 15 (by kernel_rfl) (by kernel_rfl))
      · exact kp_fM0 rfl (L.val 8 16 (by kernel_rfl) (by kernel_rfl))
      · exact kp_ldN12 (HB.out.keep L.rel trivial).c1 rfl (L.val 9 17 (by kernel_rfl) (by kernel_rfl))
      · exact kp_lssM h2 rfl (L.val 5 13 (by kernel_rfl) (by kernel_rfl)) (L.val 10 18 (by kernel_rfl) (by kernel_rfl))
      · exact kp_pick rfl (L.val 3 11 (by kernel_rfl) (by kernel_rfl)) (L.val 11 19 (by kernel_rfl) (by kernel_rfl))
      · exact kp_move rfl (L.val 12 20 (by kernel_rfl) (by kernel_rfl))
      · cases hw
      · cases hw
      · cases hw
      · cases hw
      · cases hw
      · cases hw
      · cases hw
      · cases hw
      · exact kp_pick rfl (L.val 13 21 (by kernel_rfl) (by kernel_rfl)) rfl
    · intro vs w3 hk3 hlen3 hv
      match vs, hlen3 with
      | u0 :: u1 :: u2 :: u3 :: u4 :: u5 :: u6 :: u7 :: u8 :: u9 :: u10 :: u11 :: u12 :: u13 :: u14 :: u15 :: u16 :: u17 :: u18 :: u19 :: u20 :: u21 :: u22 :: [], _ =>
        have e22 : u22 = .bool true := hv 22 30 (by kernel_rfl)
        clear hv
        subst e22
        have HK3 := Lib.hid (HK.out.trans hk3)
        have HB3 := Lib.hid (HB.out.keep hk3 trivial)
        have HX3 := Lib.hid (HX.out.keep hk3 trivial)
        have HD3 := Lib.hid hk3
        clear hk3
        simp only [putAll, List.map, Act.put, List.setIfInBounds_toArray, List.set_cons_succ, List.set_cons_zero, Exit.then]
        clear HB3 HX3 HD3 HX HB HK HM
        go_wp2_with fail
        go_ret
        exact ⟨rfl, HK3.out⟩
  · subst h1
    go_enter Tryd.func12, Tryd.ntmps12
    go_upto_region 1 with fail
    obtain ⟨a1, a2, a3⟩ := HW.out _ rfl
    rw [hg] at *
    generalize World.alloc w _ = w1 at a1 a2 a3 ⊢
    have HX := Lib.hid a1
    have HB := Lib.hid a2
    have HK := Lib.hid a3
    clear a1 a2 a3 HW
    go_wp2_with fail
    refine (show Calls _ _ _ _ _ from down_no w1 k q _ HB.out).mono ?_
    rintro e w2 ⟨rfl, rfl⟩
    go_wp2_with fail
    refine wp_region_guard (R := Kp) (V := fun i => IsV (([.agg #[.int .i64 bo, .int .i64 ep, .int .i64 re, .bool fr], .bool true, .bool false, .bool false, .pointer (some ⟨g, 0, none⟩), .int .i64 bo, .pointer (some ⟨k, 0, none⟩), .pointer (some ⟨k, 0, none⟩), .pointer (some ⟨k, 1, none⟩), .pointer (some ⟨k, 1, none⟩), .int .i64 b0, .bool false, .bool false, .bool false, .pointer (some ⟨g, 1, none⟩), .int .i64 ep, .pointer (some ⟨k, 0, none⟩), .pointer (some ⟨k, 0, none⟩), .pointer (some ⟨k, 1, none⟩), .pointer (some ⟨k, 2, none⟩), .int .i64 e0, .bool true, .bool true] : List Value).getD i undef)) (w0 := w1) (fun i => if i = 3 then some false else if i = 13 then some false else none) (by kernel_rfl) (fun w => Keeps.refl _ w) (fun _ _ _ h k => h.trans k) (fun _ _ _ _ _ h => h) (by kernel_rfl) (g_two 3 13 (fun _ _ h => h) (fun _ _ h => h)) (fun i o ho hw => (all_wanted (by kernel_rfl) ho hw).elim) ((Keeps.refl _ w1).drew) (each_of ?_) ?_
    · refine ⟨?_, ?_, ?_, ?_, ?_, ?_, ?_, ?_, ?_, ?_, ?_, ?_, ?_, ?_, ?_, ?_, ?_, ?_, ?_, ?_, ?_, ?_, ?_, trivial⟩ <;> intro hw a1 w3 L
      · exact kp_ldM (HX.out.keep L.rel trivial).four rfl (L.old 3 (by kernel_rfl))
      · exact kp_mayC HM.out rfl (L.val 0 8 (by kernel_rfl) (by kernel_rfl))
      · exact kp_not12 rfl rfl (L.val 1 9 (by kernel_rfl) (by kernel_rfl))
      · exact kp_move rfl (L.val 2 10 (by kernel_rfl) (by kernel_rfl))
      · exact kp_fM0 rfl (L.old 3 (by kernel_rfl))
      · exact kp_ldN12 (HX.out.keep L.rel trivial).four.1 rfl (L.val 4 12 (by kernel_rfl) (by kernel_rfl))
      · exact kp_move rfl (L.old 0 (by kernel_rfl))
      · exact kp_nilM rfl (L.val 6 14 (by kernel_rfl) (by kernel_rfl))
      · exact kp_fK1 rfl (L.val 7 15 (by kernel_rfl) (by kernel_rfl))
      · exact kp_fM0 rfl (L.val 8 16 (by kernel_rfl) (by kernel_rfl))
      · exact kp_ldN12 (HB.out.keep L.rel trivial).c1 rfl (L.val 9 17 (by kernel_rfl) (by kernel_rfl))
      · exact kp_lssM h2 rfl (L.val 5 13 (by kernel_rfl) (by kernel_rfl)) (L.val 10 18 (by kernel_rfl) (by kernel_rfl))
      · exact kp_pick rfl (L.val 3 11 (by kernel_rfl) (by kernel_rfl)) (L.val 11 19 (by kernel_rfl) (by kernel_rfl))
      · exact kp_move rfl (L.val 12 20 (by kernel_rfl) (by kernel_rfl))
      · exact kp_fM1 rfl (L.old 3 (by kernel_rfl))
      · exact kp_ldN12 (HX.out.keep L.rel trivial).four.2.1 rfl (L.val 14 22 (by kernel_rfl) (by kernel_rfl))
      · exact kp_move rfl (L.old 0 (by kernel_rfl))
      · exact kp_nilM rfl (L.val 16 24 (by kernel_rfl) (by kernel_rfl))
      · exact kp_fK1 rfl (L.val 17 25 (by kernel_rfl) (by kernel_rfl))
      · exact kp_fM1 rfl (L.val 18 26 (by kernel_rfl) (by kernel_rfl))
      · exact kp_ldN12 (HB.out.keep L.rel trivial).c2 rfl (L.val 19 27 (by kernel_rfl) (by kernel_rfl))
      · exact kp_lssM h3 rfl (L.val 15 23 (by kernel_rfl) (by kernel_rfl)) (L.val 20 28 (by kernel_rfl) (by kernel_rfl))
      · exact kp_pick rfl (L.val 13 21 (by kernel_rfl) (by kernel_rfl)) (L.val 21 29 (by kernel_rfl) (by kernel_rfl))
    · intro vs w3 hk3 hlen3 hv
      match vs, hlen3 with
      | u0 :: u1 :: u2 :: u3 :: u4 :: u5 :: u6 :: u7 :: u8 :: u9 :: u10 :: u11 :: u12 :: u13 :: u14 :: u15 :: u16 :: u17 :: u18 :: u19 :: u20 :: u21 :: u22 :: [], _ =>
        have e22 : u22 = .bool true := hv 22 30 (by kernel_rfl)
        clear hv
        subst e22
        have HK3 := Lib.hid (HK.out.trans hk3)
        have HB3 := Lib.hid (HB.out.keep hk3 trivial)
        have HX3 := Lib.hid (HX.out.keep hk3 trivial)
        have HD3 := Lib.hid hk3
        clear hk3
        simp only [putAll, List.map, Act.put, List.setIfInBounds_toArray, List.set_cons_succ, List.set_cons_zero, Exit.then]
        clear HB3 HX3 HD3 HX HB HK HM
        go_wp2_with fail
        go_ret
        exact ⟨rfl, HK3.out⟩
def EncV (n0 : Nat) (L : List UInt8) : World → Value → Prop := fun w v => ∃ A c, v = .slice A L.length c ∧ L.length ≤ c ∧ c ≤ maxLen ∧ (A = none → c = 0) ∧ Row w A (fun b => n0 ≤ b) (bcells L)
def SPost (W w0 : World) (p q : Nat) (F Fs : Foot) (s : SDev) (st : SSt) (L : List UInt8) (w : World) : Prop :=
  ∃ (F' Fs' : Foot) (n : Nat), Duo theSup W w p q F' Fs' (SDev.still (s.now.set (st.place + (1 - st.which)) (theSup.enc (st.turn + 1) L)) n) ⟨p, st.place, 1 - st.which, st.turn + 1, L⟩ ∧ n ≤ s.calls + 100 ∧
    Keeps (fun b => ¬ F.M b ∧ ¬ Fs.M b) w0 w ∧ (∀ b, F'.M b → F.M b ∨ w0.heap.size ≤ b) ∧ (∀ b, F'.I b → F.all b ∨ w0.heap.size ≤ b) ∧ (∀ b, Fs'.M b → Fs.M b ∨ w0.heap.size ≤ b) ∧ (∀ b, Fs'.I b → Fs.all b ∨ w0.heap.size ≤ b)
theorem SPost.keep {W w0 w w' : World} {p q : Nat} {F Fs : Foot} {s : SDev} {st : SSt} {L : List UInt8} (h : SPost W w0 p q F Fs s st L w) (hk : Kp w w') : SPost W w0 p q F Fs s st L w' := by
  obtain ⟨F', Fs', n, h1, h2, h3, h4, h5, h6, h7⟩ := h
  exact ⟨F', Fs', n, h1.keep hk, h2, h3.trans (hk.mono fun _ _ _ => trivial), h4, h5, h6, h7⟩
def Sv (W w0 : World) (p q k g : Nat) (F Fs : Foot) (s : SDev) (st : SSt) (L : List UInt8) (m x : M4) (b : Bool) (w : World) : Prop :=
  MBlk w g x ∧ KBlk w k q m ∧ cond b (SPost W w0 p q F Fs s st L w) (Kp w0 w)
theorem Sv.keep {W w0 w w' : World} {p q k g : Nat} {F Fs : Foot} {s : SDev} {st : SSt} {L : List UInt8} {m x : M4} {b : Bool} (h : Sv W w0 p q k g F Fs s st L m x b w) (hk : Kp w w') : Sv W w0 p q k g F Fs s st L m x b w' := by
  obtain ⟨h1, h2, h3⟩ := h
  refine ⟨h1.keep hk trivial, h2.keep hk trivial, ?_⟩
  cases b with
  | true => exact SPost.keep h3 hk
  | false => exact Keeps.trans h3 hk
def VS (q k : Nat) (x : M4) (n0 : Nat) (L : List UInt8) : Nat → World → Value → Prop
  | 0 => IsV (.pointer (some ⟨k, 0, none⟩))
  | 1 => IsV (.pointer (some ⟨k, 0, none⟩))
  | 2 => IsV (.pointer (some ⟨k, 0, none⟩))
  | 3 => IsV (.pointer (some ⟨q, 0, none⟩))
  | 4 => IsV (magg x)
  | 5 => EncV n0 L
  | 6 => IsV (.int .i64 0)
  | 7 => IsV (.int .i64 0)
  | _ => fun _ _ => True
theorem EncV.keep {n0 : Nat} {L : List UInt8} {w w' : World} {v : Value} (h : EncV n0 L w v) (hk : Keeps (fun b => n0 ≤ b) w w') : EncV n0 L w' v := by
  obtain ⟨A, c, e, h1, h2, h3, h4⟩ := h
  exact ⟨A, c, e, h1, h2, h3, h4.keep hk⟩
theorem VS_keep {q k : Nat} {x : M4} {n0 : Nat} {L : List UInt8} (i : Nat) (w w' : World) (v : Value) (hk : Keeps (fun b => n0 ≤ b) w w') (h : VS q k x n0 L i w v) : VS q k x n0 L i w' v := by
  match i, h with
  | 0, h => exact h
  | 1, h => exact h
  | 2, h => exact h
  | 3, h => exact h
  | 4, h => exact h
  | 5, h => exact EncV.keep h hk
  | 6, h => exact h
  | 7, h => exact h
  | n + 8, _ => trivial
def GS0 : Nat → Option Bool := fun _ => none
section
variable {o : Oper} {a : Act} {w : World} {Q : Exit → Act → World → Prop} {x y : Operand}
theorem kp_fK0 {b : Nat} (ho : o.op = .fieldAddr 48 x 0) (hx : a.eval x = .pointer (some ⟨b, 0, none⟩)) : o.wp Tryd.prog a w (fun a' w' => ∃ v, a' = a.put o.dst v ∧ Kp w w' ∧ IsV (.pointer (some ⟨b, 0, none⟩)) w' v) Q := by
  refine kp_yield (v := .pointer (some ⟨b, 0, none⟩)) (w' := w) ?_ (Keeps.refl _ _) rfl
  generalize a.eval = ρ at hx ⊢
  unfold execOp
  rw [ho]
  go_simp
theorem kp_ldSp {p u : Addr} (hc : w.cell? p = some (.pointer (some u))) (ho : o.op = .load 42 x) (hx : a.eval x = .pointer (some p)) : o.wp Tryd.prog a w (fun a' w' => ∃ v, a' = a.put o.dst v ∧ Kp w w' ∧ IsV (.pointer (some u)) w' v) Q := by
  refine kp_yield (v := .pointer (some u)) (w' := w) ?_ (Keeps.refl _ _) rfl
  generalize a.eval = ρ at hx ⊢
  unfold execOp
  rw [ho]
  go_simp
theorem kp_enc {m : M4} {n0 : Nat} (hm : m.Fits) (hn : n0 ≤ w.heap.size) (ho : o.op = .call { callee := .value (.func 19), args := #[x], argTypes := #[32] }) (hx : a.eval x = magg m) : o.wp Tryd.prog a w (fun a' w' => ∃ v, a' = a.put o.dst v ∧ Kp w w' ∧ EncV n0 (encM m) w' v) Q := by
  have hg : a.eval (.func 19) = .func (.func 19) #[] #[] := rfl
  refine kp_enter (f := 19) (args := #[magg m]) ?_ (mencode_any w m hm) ?_
  · clear hm
    generalize a.eval = ρ at hx hg ⊢
    unfold execOp
    rw [ho]
    go_simp
  · rintro e w' ⟨A, c, rfl, h1, h2, h3, h4, h5⟩
    exact ⟨_, rfl, h5, A, c, rfl, h1, h2, h3, h4.mono fun b _ hb => Nat.le_trans hn hb.1⟩
end
set_option maxRecDepth 100000 in
set_option maxHeartbeats 2000000 in
theorem ksave_yes (W w : World) (hT : theSup.T W) (p q k : Nat) (F Fs : Foot) (s : SDev) (st : SSt) (m x : M4) (h : Kep W w p q k F Fs s st m) (hcalls : s.calls ≤ 549755813888) (ht : st.turn ≤ 549755813888) (hx : (mayB x && overB m x) = true) :
    Calls Tryd.prog 12 #[.pointer (some ⟨k, 0, none⟩), magg x] w fun e w' => e = .returned (.int .i64 0) ∧ ∃ (F' Fs' : Foot) (n : Nat), Kep W w' p q k F' Fs' (SDev.still (s.now.set (st.place + (1 - st.which)) (theSup.enc (st.turn + 1) (encM x))) n) ⟨p, st.place, 1 - st.which, st.turn + 1, encM x⟩ x ∧ n ≤ s.calls + 100 ∧
      Keeps (fun b => ¬ F.M b ∧ ¬ Fs.M b ∧ b ≠ k) w w' ∧ (∀ b, F'.M b → F.M b ∨ w.heap.size ≤ b) ∧ (∀ b, F'.I b → F.all b ∨ w.heap.size ≤ b) ∧ (∀ b, Fs'.M b → Fs.M b ∨ w.heap.size ≤ b) ∧ (∀ b, Fs'.I b → Fs.all b ∨ w.heap.size ≤ b) := by
  rw [Bool.and_eq_true] at hx
  obtain ⟨hmay, hov⟩ := hx
  have hfit := may_fits hmay
  have hl := encM_len hfit
  have HSV := Lib.hid (show ∀ w5 A c, Kp w w5 → Row w5 A (fun b => w.heap.size ≤ b) (bcells (encM x)) → (encM x).length ≤ c → c ≤ maxLen → (A = none → c = 0) → _ from fun w5 A c hk hr h1 h2 h3 =>
    duo_save hT (h.du.keep hk) A c (encM x) (encM x).length rfl (hr.mono fun b _ hb => ⟨fun hf => by have := h.du.dv.d.lt b hf; omega, fun hf => by have := theSup.lt h.du.su b hf; omega⟩) h1 h2 h3 hl hcalls ht)
  have HM := Lib.hid (show ∀ w2, Calls Tryd.prog 11 #[magg x] w2 fun e w' => e = .returned (.bool true) ∧ Kp w2 w' from fun w2 => (mmay_any w2 x).mono fun e w' h => ⟨by rw [h.1, hmay], h.2⟩)
  have HBW := Lib.hid h.kb
  have HFM := Lib.hid hfit
  have HMAY := Lib.hid hmay
  have HH := Lib.hid h
  have HLF := Lib.hid (show ∀ b, F.all b → b < w.heap.size from h.du.dv.d.lt)
  have HLS := Lib.hid (show ∀ b, Fs.all b → b < w.heap.size from fun b hb => theSup.lt h.du.su b hb)
  have HNF := Lib.hid h.nf
  have HNS := Lib.hid h.ns
  have HGK := Lib.hid h.gk
  have hkl := h.kb.lt
  clear h hmay hfit hl hT hcalls ht
  obtain ⟨bo, ep, re, fr⟩ := x
  obtain ⟨b0, e0, r0, f0⟩ := m
  have hov2 : (decide (b0 ≤ bo) && decide (e0 ≤ ep)) = true := hov
  simp only [Bool.and_eq_true, decide_eq_true_eq] at hov2
  have h2 : decide (bo < b0) = false := by simp; omega
  have h3 : decide (ep < e0) = false := by simp; omega
  clear hov hov2
  unfold magg at HM ⊢
  have HMM := Lib.hid (show ∀ w2, Calls Tryd.prog 11 #[.agg #[.int .i64 bo, .int .i64 ep, .int .i64 re, .bool fr]] w2 fun e w' => e = .returned (.bool true) ∧ Kp w2 w' from HM.out)
  have HM := HMM
  clear HMM
  show Calls _ _ #[.pointer (some ⟨k, 0, none⟩), .agg #[.int .i64 bo, .int .i64 ep, .int .i64 re, .bool fr]] _ _
  obtain ⟨g, hg⟩ : ∃ g, w.heap.size = g := ⟨_, rfl⟩
  have HW := Lib.hid (show ∀ w2, w2 = w.alloc (.cells #[.int .i64 bo, .int .i64 ep, .int .i64 re, .bool fr] 32) → MBlk w2 g ⟨bo, ep, re, fr⟩ ∧ KBlk w2 k q ⟨b0, e0, r0, f0⟩ ∧ Kp w w2 from by
    rintro w2 rfl
    exact ⟨MBlk.new w ⟨bo, ep, re, fr⟩ g hg.symm, HBW.out.keep ((Keeps.refl (fun _ => True) w).alloc _) trivial, (Keeps.refl _ w).alloc _⟩)
  clear HBW
  have HGG := Lib.hid hg
  go_enter Tryd.func12, Tryd.ntmps12
  go_upto_region 1 with fail
  obtain ⟨a1, a2, a3⟩ := HW.out _ rfl
  generalize World.alloc w _ = w1 at a1 a2 a3 ⊢
  have HX := Lib.hid a1
  have HB := Lib.hid a2
  have HK := Lib.hid a3
  clear a1 a2 a3 HW hg
  go_wp2_with fail
  refine (show Calls _ _ _ _ _ from down_no w1 k q _ HB.out).mono ?_
  rintro e w2 ⟨rfl, rfl⟩
  go_wp2_with fail
  refine wp_region_guard (R := Kp) (V := fun i => IsV (([.agg #[.int .i64 bo, .int .i64 ep, .int .i64 re, .bool fr], .bool true, .bool false, .bool false, .pointer (some ⟨g, 0, none⟩), .int .i64 bo, .pointer (some ⟨k, 0, none⟩), .pointer (some ⟨k, 0, none⟩), .pointer (some ⟨k, 1, none⟩), .pointer (some ⟨k, 1, none⟩), .int .i64 b0, .bool false, .bool false, .bool false, .pointer (some ⟨g, 1, none⟩), .int .i64 ep, .pointer (some ⟨k, 0, none⟩), .pointer (some ⟨k, 0, none⟩), .pointer (some ⟨k, 1, none⟩), .pointer (some ⟨k, 2, none⟩), .int .i64 e0, .bool false, .bool false] : List Value).getD i undef)) (w0 := w1) (fun i => if i = 3 then some false else if i = 13 then some false else none) (by kernel_rfl) (fun w => Keeps.refl _ w) (fun _ _ _ h k => h.trans k) (fun _ _ _ _ _ h => h) (by kernel_rfl) (g_two 3 13 (fun _ _ h => h) (fun _ _ h => h)) (fun i o ho hw => (all_wanted (by kernel_rfl) ho hw).elim) ((Keeps.refl _ w1).drew) (each_of ?_) ?_
  · refine ⟨?_, ?_, ?_, ?_, ?_, ?_, ?_, ?_, ?_, ?_, ?_, ?_, ?_, ?_, ?_, ?_, ?_, ?_, ?_, ?_, ?_, ?_, ?_, trivial⟩ <;> intro hw a1 w3 L
    · exact kp_ldM (HX.out.keep L.rel trivial).four rfl (L.old 3 (by kernel_rfl))
    · exact kp_mayC HM.out rfl (L.val 0 8 (by kernel_rfl) (by kernel_rfl))
    · exact kp_not12 rfl rfl (L.val 1 9 (by kernel_rfl) (by kernel_rfl))
    · exact kp_move rfl (L.val 2 10 (by kernel_rfl) (by kernel_rfl))
    · exact kp_fM0 rfl (L.old 3 (by kernel_rfl))
    · exact kp_ldN12 (HX.out.keep L.rel trivial).four.1 rfl (L.val 4 12 (by kernel_rfl) (by kernel_rfl))
    · exact kp_move rfl (L.old 0 (by kernel_rfl))
    · exact kp_nilM rfl (L.val 6 14 (by kernel_rfl) (by kernel_rfl))
    · exact kp_fK1 rfl (L.val 7 15 (by kernel_rfl) (by kernel_rfl))
    · exact kp_fM0 rfl (L.val 8 16 (by kernel_rfl) (by kernel_rfl))
    · exact kp_ldN12 (HB.out.keep L.rel trivial).c1 rfl (L.val 9 17 (by kernel_rfl) (by kernel_rfl))
    · exact kp_lssM h2 rfl (L.val 5 13 (by kernel_rfl) (by kernel_rfl)) (L.val 10 18 (by kernel_rfl) (by kernel_rfl))
    · exact kp_pick rfl (L.val 3 11 (by kernel_rfl) (by kernel_rfl)) (L.val 11 19 (by kernel_rfl) (by kernel_rfl))
    · exact kp_move rfl (L.val 12 20 (by kernel_rfl) (by kernel_rfl))
    · exact kp_fM1 rfl (L.old 3 (by kernel_rfl))
    · exact kp_ldN12 (HX.out.keep L.rel trivial).four.2.1 rfl (L.val 14 22 (by kernel_rfl) (by kernel_rfl))
    · exact kp_move rfl (L.old 0 (by kernel_rfl))
    · exact kp_nilM rfl (L.val 16 24 (by kernel_rfl) (by kernel_rfl))
    · exact kp_fK1 rfl (L.val 17 25 (by kernel_rfl) (by kernel_rfl))
    · exact kp_fM1 rfl (L.val 18 26 (by kernel_rfl) (by kernel_rfl))
    · exact kp_ldN12 (HB.out.keep L.rel trivial).c2 rfl (L.val 19 27 (by kernel_rfl) (by kernel_rfl))
    · exact kp_lssM h3 rfl (L.val 15 23 (by kernel_rfl) (by kernel_rfl)) (L.val 20 28 (by kernel_rfl) (by kernel_rfl))
    · exact kp_pick rfl (L.val 13 21 (by kernel_rfl) (by kernel_rfl)) (L.val 21 29 (by kernel_rfl) (by kernel_rfl))
  · intro vs w3 hk3 hlen3 hv
    match vs, hlen3 with
    | u0 :: u1 :: u2 :: u3 :: u4 :: u5 :: u6 :: u7 :: u8 :: u9 :: u10 :: u11 :: u12 :: u13 :: u14 :: u15 :: u16 :: u17 :: u18 :: u19 :: u20 :: u21 :: u22 :: [], _ =>
      have e22 : u22 = .bool false := hv 22 30 (by kernel_rfl)
      clear hv
      subst e22
      have HK3 := Lib.hid (HK.out.trans hk3)
      have HB3 := Lib.hid (HB.out.keep hk3 trivial)
      have HX3 := Lib.hid (HX.out.keep hk3 trivial)
      have HD3 := Lib.hid hk3
      clear hk3
      simp only [putAll, List.map, Act.put, List.setIfInBounds_toArray, List.set_cons_succ, List.set_cons_zero, Exit.then]
      clear HX HB HK HM HD3
      go_wp2_with fail
      refine wp_region_one (V := VS q k ⟨bo, ep, re, fr⟩ w3.heap.size (encM ⟨bo, ep, re, fr⟩)) (w0 := w3) 6 (Sv W w3 p q k g F Fs s st (encM ⟨bo, ep, re, fr⟩) ⟨b0, e0, r0, f0⟩ ⟨bo, ep, re, fr⟩) (fun w w' => Keeps (fun b => w3.heap.size ≤ b) w w') GS0 (by kernel_rfl) (fun i w w' v h hv => VS_keep i w w' v (h.mono fun _ _ _ => trivial) hv) (fun _ _ _ h hs => hs.keep h) (fun i _ w w' v h hv => VS_keep i w w' v h hv) (by kernel_rfl) (by decide) (fun g c h => by cases h) (fun i o ho hw => (all_wanted (by kernel_rfl) ho hw).elim) ⟨HX3.out.keep (Keeps.refl (fun _ => True) w3).drew trivial, HB3.out.keep (Keeps.refl (fun _ => True) w3).drew trivial, (Keeps.refl _ w3).drew⟩ (each_of ?_) ?_
      · refine ⟨?_, ?_, ?_, ?_, ?_, ?_, ?_, ?_, trivial⟩ <;> intro hw a1 w5 L
        · rw [if_neg (by decide)]; intro b hs _; exact kp_move rfl (L.old 0 (by kernel_rfl))
        · rw [if_neg (by decide)]; intro b hs _; exact kp_nilM rfl (L.val 0 31 (by kernel_rfl) (by kernel_rfl))
        · rw [if_neg (by decide)]; intro b hs _; exact kp_fK0 rfl (L.val 1 32 (by kernel_rfl) (by kernel_rfl))
        · rw [if_neg (by decide)]; intro b hs _; exact kp_ldSp hs.2.1.c0 rfl (L.val 2 33 (by kernel_rfl) (by kernel_rfl))
        · rw [if_neg (by decide)]; intro b hs _; exact kp_ldM hs.1.four rfl (L.old 3 (by kernel_rfl))
        · rw [if_neg (by decide)]; intro b hs _
          refine kp_enc HFM.out ?_ rfl (L.val 4 35 (by kernel_rfl) (by kernel_rfl))
          cases b with
          | true => obtain ⟨_, _, _, _, _, h, _⟩ := hs.2.2; exact h.size
          | false => exact Keeps.size hs.2.2
        · rw [if_pos rfl]
          rintro ⟨s1, s2, s3⟩
          have s3' : Kp w3 w5 := s3
          obtain ⟨A, c, e3, h4, h5, h6, hr⟩ := L.val 5 36 (by kernel_rfl) (by kernel_rfl)
          have hf : a1.eval (.func 22) = .func (.func 22) #[] #[] := rfl
          have e0 : a1.eval (.tmp 34) = .pointer (some ⟨q, 0, none⟩) := L.val 3 34 (by kernel_rfl) (by kernel_rfl)
          have e3' : a1.eval (.tmp 36) = .slice A (encM ⟨bo, ep, re, fr⟩).length c := e3
          refine one_enter12 (f := 22) (args := #[.pointer (some ⟨q, 0, none⟩), .slice A (encM ⟨bo, ep, re, fr⟩).length c]) ?_ (HSV.out w5 A c (HK3.out.trans s3') (hr.mono fun b _ hb => Nat.le_trans HK3.out.size hb) h4 h5 h6) ?_
          · clear s1 s2 s3 s3'
            generalize a1.eval = ρ at e0 e3' hf ⊢
            unfold execOp
            go_simp
          · rintro e w6 ⟨rfl, F', Fs', n, hd, hn, hkp, f1, f2, f3, f4⟩
            have hsz := s3'.size
            have hsz3 := HK3.out.size
            refine ⟨_, rfl, hkp.mono fun b _ hb => ⟨fun hf => by have := HLF.out b (.inl hf); omega, fun hf => by have := HLS.out b (.inl hf); omega⟩, ⟨s1.keep hkp ⟨fun hf => by have := HLF.out _ (.inl hf); have := HGG.out; omega, fun hf => by have := HLS.out _ (.inl hf); have := HGG.out; omega⟩, s2.keep hkp ⟨fun hf => HNF.out (.inl hf), fun hf => HNS.out (.inl hf)⟩,
              ⟨F', Fs', n, hd, hn, (s3'.mono fun _ _ _ => trivial).trans hkp, fun b hb => ?_, fun b hb => ?_, fun b hb => ?_, fun b hb => ?_⟩⟩, rfl⟩
            · rcases f1 b hb with h | h
              · exact .inl h
              · exact .inr (by omega)
            · rcases f2 b hb with h | h
              · exact .inl h
              · exact .inr (by omega)
            · rcases f3 b hb with h | h
              · exact .inl h
              · exact .inr (by omega)
            · rcases f4 b hb with h | h
              · exact .inl h
              · exact .inr (by omega)
        · rw [if_neg (by decide)]; intro b hs _; exact kp_assign rfl (L.val 6 37 (by kernel_rfl) (by kernel_rfl))
      · intro vs w6 hs6 hlen6 hv
        match vs, hlen6 with
        | [u0, u1, u2, u3, u4, u5, u6, u7], _ =>
          have e7 : u7 = .int .i64 0 := hv 7 5 (by kernel_rfl)
          clear hv
          subst e7
          obtain ⟨s1, s2, F', Fs', n, hd, hn, hkp, f1, f2, f3, f4⟩ := hs6
          have k1 := s2.c1
          have k2 := s2.c2
          have k3 := s2.c3
          have k4 := s2.c4
          have z1 := s2.fz 1
          have z2 := s2.fz 2
          have z3 := s2.fz 3
          have z4 := s2.fz 4
          have x0 := s1.four.1
          have x1 := s1.four.2.1
          have x2 := s1.four.2.2.1
          have x3 := s1.four.2.2.2
          simp only at k1 k2 k3 k4 x0 x1 x2 x3
          have kk : Keeps (fun b => b ≠ k) w6 ((((w6.setCell ⟨k, 1, none⟩ (.int .i64 bo)).setCell ⟨k, 2, none⟩ (.int .i64 ep)).setCell ⟨k, 3, none⟩ (.int .i64 re)).setCell ⟨k, 4, none⟩ (.bool fr)) :=
            ((((Keeps.refl (fun b => b ≠ k) w6).setCell (p := ⟨k, 1, none⟩) (.inr (fun h => h rfl)) _).setCell (p := ⟨k, 2, none⟩) (.inr (fun h => h rfl)) _).setCell (p := ⟨k, 3, none⟩) (.inr (fun h => h rfl)) _).setCell (p := ⟨k, 4, none⟩) (.inr (fun h => h rfl)) _
          have hb6 := s2.set4 ⟨bo, ep, re, fr⟩
          have hgk := HGK.out
          have hkW : ∀ {w' : World}, Keeps (fun b => b ≠ k) w6 w' → Kp W w' := fun {w'} hk6 => ⟨hk6.os.trans hd.dv.kp.os, hk6.tape.trans hd.dv.kp.tape, hk6.output.trans hd.dv.kp.output, Nat.le_trans hd.dv.kp.size hk6.size, fun b _ hb => (hk6.block b (by omega) (Nat.lt_of_lt_of_le hb hd.dv.kp.size)).trans (hd.dv.kp.block b trivial hb)⟩
          have hsz3 := HK3.out.size
          have nF : ¬ F'.all k := fun hf => by
            rcases hf with hf | hf
            · rcases f1 k hf with h | h
              · exact HNF.out (.inl h)
              · omega
            · rcases f2 k hf with h | h
              · exact HNF.out h
              · omega
          have nS : ¬ Fs'.all k := fun hf => by
            rcases hf with hf | hf
            · rcases f3 k hf with h | h
              · exact HNS.out (.inl h)
              · omega
            · rcases f4 k hf with h | h
              · exact HNS.out h
              · omega
          have HQ := Lib.hid (show ∀ w', w' = ((((w6.setCell ⟨k, 1, none⟩ (.int .i64 bo)).setCell ⟨k, 2, none⟩ (.int .i64 ep)).setCell ⟨k, 3, none⟩ (.int .i64 re)).setCell ⟨k, 4, none⟩ (.bool fr)) → ∃ (F' Fs' : Foot) (n : Nat), Kep W w' p q k F' Fs' (SDev.still (s.now.set (st.place + (1 - st.which)) (theSup.enc (st.turn + 1) (encM ⟨bo, ep, re, fr⟩))) n) ⟨p, st.place, 1 - st.which, st.turn + 1, encM ⟨bo, ep, re, fr⟩⟩ ⟨bo, ep, re, fr⟩ ∧ n ≤ s.calls + 100 ∧
              Keeps (fun b => ¬ F.M b ∧ ¬ Fs.M b ∧ b ≠ k) w w' ∧ (∀ b, F'.M b → F.M b ∨ w.heap.size ≤ b) ∧ (∀ b, F'.I b → F.all b ∨ w.heap.size ≤ b) ∧ (∀ b, Fs'.M b → Fs.M b ∨ w.heap.size ≤ b) ∧ (∀ b, Fs'.I b → Fs.all b ∨ w.heap.size ≤ b) from by
            rintro w' rfl
            refine ⟨F', Fs', n, ⟨⟨⟨hd.dv.d.keep (kk.mono fun b _ hb e => nF (by rw [← e]; exact hb)), hd.dv.gd, hkW kk⟩, theSup.keep hd.su (kk.mono fun b _ hb e => nS (by rw [← e]; exact hb)), hd.ap, hd.gs, hd.on, hd.room, hd.sec⟩, hb6, HMAY.out, rfl, nF, nS, hgk⟩, hn,
              ((HK3.out.mono fun _ _ _ => trivial).trans (hkp.mono fun b _ hb => ⟨hb.1, hb.2.1⟩)).trans (kk.mono fun b _ hb => hb.2.2), fun b hb => ?_, fun b hb => ?_, fun b hb => ?_, fun b hb => ?_⟩
            · rcases f1 b hb with h | h
              · exact .inl h
              · exact .inr (by omega)
            · rcases f2 b hb with h | h
              · exact .inl h
              · exact .inr (by omega)
            · rcases f3 b hb with h | h
              · exact .inl h
              · exact .inr (by omega)
            · rcases f4 b hb with h | h
              · exact .inl h
              · exact .inr (by omega))
          clear s1 s2 hd hn hkp f1 f2 f3 f4 nF nS hkW kk hb6 HSV HH HLF HLS HNF HNS HGK HB3 HX3
          simp only [putAll, List.map, Act.put, List.setIfInBounds_toArray, List.set_cons_succ, List.set_cons_zero, Exit.then]
          go_wp2_with fail
          go_ret
          exact ⟨rfl, HQ.out _ rfl⟩
end Go.Proofs.YtmnjdlnjhomhnaaDoor
