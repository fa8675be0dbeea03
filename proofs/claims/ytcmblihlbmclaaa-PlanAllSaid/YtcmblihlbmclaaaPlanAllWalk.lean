/-
  THE WALK OF PlanAll, however the program's plans are made.
-/
import Derived.Test.YtcmblihlbmclaaaPnBegun
import Derived.Test.YtcmblihlbmclaaaRgRef
import Derived.BigQuiet
import Derived.Deep.CutRange
import Derived.Test.YtcmblihlbmclaaaPnLocs
namespace Go.Proofs.Ytcmblihlbmclaaa.planAll
open Go Go.RowKit Go.Joins
/-- What region 17's operations leave. -/
def VP (l : List Value) : Nat → World → Value → Prop := fun i => IsV (l.getD i undef)
theorem VP_keep (l : List Value) (i : Nat) (w w' : World) (v : Value) (_ : Kp w w') (h : VP l i w v) : VP l i w' v := h
def GP : Nat → Option Bool
  | 6 => some false
  | _ => none
theorem GP_is {l : List Value} (hl : l.getD 6 undef = .bool false) (g : Nat) (x : Bool) (h : GP g = some x) (w : World) (v : Value) (hv : VP l g w v) : v = .bool x := by
  unfold GP at h
  split at h
  · cases h
    have h2 : v = l.getD 6 undef := hv
    rw [h2, hl]
  · cases h
section
variable {o : Oper} {a : Act} {w : World} {Q : Exit → Act → World → Prop} {x y z : Operand}
theorem kp_rowner {A : Option Addr} {c : Nat} {l : List Int} {h m : Int} (hr : Row w A (fun _ => True) (l.map (Value.int .i64))) (hl : l.length ≤ c) (hc : c ≤ maxLen) (hm : ownerL l h = m)
    (ho : o.op = .call { callee := .value (.func 13), args := #[x, y], argTypes := #[24, 30] }) (hx : a.eval x = .slice A l.length c) (hy : a.eval y = .int .u64 h) :
    o.wp Try.prog a w (fun a' w' => ∃ v', a' = a.put o.dst v' ∧ Kp w w' ∧ IsV (.int .i64 m) w' v') Q := by
  subst hm
  have hg : a.eval (.func 13) = .func (.func 13) #[] #[] := rfl
  refine kp_enter (f := 13) (args := #[.slice A l.length c, .int .u64 h]) ?_ (rowner_any w A c l h hr hl hc) ?_
  · generalize a.eval = ρ at hx hy hg ⊢
    unfold execOp
    rw [ho]
    go_simp
  · rintro e w' ⟨rfl, hk⟩
    exact ⟨_, rfl, hk, rfl⟩
theorem kp_fld2 {b : Nat} (ho : o.op = .fieldAddr 32 x 2) (hx : a.eval x = .pointer (some ⟨b, 0, none⟩)) : o.wp Try.prog a w (fun a' w' => ∃ v, a' = a.put o.dst v ∧ Kp w w' ∧ IsV (.pointer (some ⟨b, 2, none⟩)) w' v) Q := by
  refine kp_yield (v := .pointer (some ⟨b, 2, none⟩)) (w' := w) ?_ (Keeps.refl _ _) rfl
  generalize a.eval = ρ at hx ⊢
  unfold execOp
  rw [ho]
  go_simp
theorem kp_fld3 {b : Nat} (ho : o.op = .fieldAddr 32 x 3) (hx : a.eval x = .pointer (some ⟨b, 0, none⟩)) : o.wp Try.prog a w (fun a' w' => ∃ v, a' = a.put o.dst v ∧ Kp w w' ∧ IsV (.pointer (some ⟨b, 3, none⟩)) w' v) Q := by
  refine kp_yield (v := .pointer (some ⟨b, 3, none⟩)) (w' := w) ?_ (Keeps.refl _ _) rfl
  generalize a.eval = ρ at hx ⊢
  unfold execOp
  rw [ho]
  go_simp
theorem kp_ld15 {n : Int} {p : Addr} (hc : w.cell? p = some (.int .i64 n)) (ho : o.op = .load 3 x) (hx : a.eval x = .pointer (some p)) : o.wp Try.prog a w (fun a' w' => ∃ v, a' = a.put o.dst v ∧ Kp w w' ∧ IsV (.int .i64 n) w' v) Q := by
  refine kp_yield (v := .int .i64 n) (w' := w) ?_ (Keeps.refl _ _) rfl
  generalize a.eval = ρ at hx ⊢
  unfold execOp
  rw [ho]
  go_simp
theorem kp_ne15 {m n : Int} {b : Bool} (hb : (m != n) = b) (ho : o.op = .binOp .neq 3 x y 3) (hx : a.eval x = .int .i64 m) (hy : a.eval y = .int .i64 n) : o.wp Try.prog a w (fun a' w' => ∃ v, a' = a.put o.dst v ∧ Kp w w' ∧ IsV (.bool b) w' v) Q := by
  subst hb
  refine kp_yield (v := .bool (m != n)) (w' := w) ?_ (Keeps.refl _ _) rfl
  generalize a.eval = ρ at hx hy ⊢
  unfold execOp
  rw [ho]
  go_simp
end

set_option maxRecDepth 100000 in
set_option maxHeartbeats 8000000 in
theorem walk {S : RingOK} (O : PlanOK S) (w : World) (hT : S.T w) (a b : Int) (A0 : Option Addr) (k0 : Nat) (l0 : List Int) (hl1 : l0.length ≤ k0) (hl2 : k0 ≤ maxLen) (hrow : Row w A0 (fun b => b < w.heap.size) (l0.map (Value.int .u64))) (hu : ∀ z ∈ l0, 0 ≤ z ∧ z < 18446744073709551616) :
    Calls Try.prog 3 #[.int .i64 a, .int .i64 b, .slice A0 l0.length k0] w fun e w' => e = .returned (.bool true) ∧ Below w.heap.size w w' := by
  have HT := Lib.hid hT
  clear hT
  have HR0 := Lib.hid hrow
  have HU0 := Lib.hid hu
  obtain ⟨N0, hN0⟩ : ∃ N0, l0.length = N0 := ⟨_, rfl⟩
  have HN0 := Lib.hid hN0
  have hk0 : k0 ≤ 9223372036854775807 := by unfold maxLen at hl2; omega
  rw [hN0] at hl1 ⊢
  clear hrow hu hl2 hN0
  go_enter Try.func3, Try.ntmps3
  go_wp2_with fail
  refine (begun15 O w HT.out).mono ?_
  rintro e w1 ⟨rfl, hk⟩
  have HK1 := Lib.hid hk
  clear hk
  go_wp2_with fail
  refine (pnodes_any w1 a).mono ?_
  rintro e w2 ⟨A, c, rfl, hr, hc1, hc2, hk⟩
  have HK2 := Lib.hid (HK1.out.trans hk)
  have HRX := Lib.hid (show ∀ w', Kp w2 w' → Row w' A (fun _ => True) ((nodes5 (bitB a) 5).map (Value.int .i64)) from fun w' hk => (hr.mono fun _ _ _ => trivial).keep hk)
  have HMX := Lib.hid (nodes5_may (bitB a))
  have hx5 := nodes5_len (bitB a) 5
  generalize nodes5 (bitB a) 5 = x at HRX HMX hc1 hx5 ⊢
  clear hk hr HK1
  go_wp2_with fail
  refine (pnodes_any w2 b).mono ?_
  rintro e w3 ⟨B, d, rfl, hr, hd1, hd2, hk⟩
  have HK3 := Lib.hid hk
  have HRY := Lib.hid (show ∀ w', Kp w3 w' → Row w' B (fun _ => True) ((nodes5 (bitB b) 5).map (Value.int .i64)) from fun w' hk => (hr.mono fun _ _ _ => trivial).keep hk)
  have HMY := Lib.hid (nodes5_may (bitB b))
  have hy5 := nodes5_len (bitB b) 5
  generalize nodes5 (bitB b) 5 = y at HRY HMY hd1 hy5 ⊢
  clear hk hr
  have hcs : ((x.length : Int) == 0) = true ∨ ((x.length : Int) == 0) = false ∧ (((y.length : Int) == 0) = true ∨ ((y.length : Int) == 0) = false) := by
    cases ((x.length : Int) == 0) <;> cases ((y.length : Int) == 0) <;> simp
  rcases hcs with t0 | ⟨t0, t1 | t1⟩
  rotate_right 1
  · have hmx : nodesB x = true := by
      rw [HMX.out]
      cases x with
      | nil => simp at t0
      | cons z x => rfl
    have hmy : nodesB y = true := by
      rw [HMY.out]
      cases y with
      | nil => simp at t1
      | cons z y => rfl
    have HX := Lib.hid hmx
    have HY := Lib.hid hmy
    clear hmx hmy HMX HMY
    go_wp2_with fail
    refine (ring_at S (e := 1) HT.out (HK2.out.trans HK3.out) (HRX.out w3 HK3.out) hc1 hc2 HX.out (by decide) (by decide)).mono ?_
    rintro e w4 ⟨r1, F1, rfl, ha1, hk⟩
    have HA1 := Lib.hid ha1
    have HK4 := Lib.hid hk
    clear ha1 hk
    go_wp2_with fail
    refine (ring_at S (e := 2) HT.out (HK2.out.trans (HK3.out.trans HK4.out)) (HRY.out w4 HK4.out) hd1 hd2 HY.out (by decide) (by decide)).mono ?_
    rintro e w5 ⟨r2, F2, rfl, ha2, hk⟩
    have HA2 := Lib.hid ha2
    have HK5 := Lib.hid hk
    clear ha2 hk
    go_wp2_with fail
    refine (O.of w w5 r1 F1 1 x r2 F2 2 y HT.out (HA1.out w5 HK5.out) (HA2.out w5 (Keeps.refl _ _))).mono ?_
    rintro e w6 ⟨D, cd, P, rfl, hr, hP, hp1, hp2, hp3, hk⟩
    have HP := Lib.hid hP
    have HRP := Lib.hid (show ∀ w', Kp w6 w' → MVRow w' D (fun _ => True) P from fun w' hk => Row.keep hr hk)
    have HK6 := Lib.hid (HK2.out.trans (HK3.out.trans (HK4.out.trans (HK5.out.trans hk))))
    have HRX6 := Lib.hid (show ∀ w', Kp w6 w' → Row w' A (fun _ => True) (x.map (Value.int .i64)) from fun w' hk2 => HRX.out w' (HK3.out.trans (HK4.out.trans (HK5.out.trans (hk.trans hk2)))))
    have HRY6 := Lib.hid (show ∀ w', Kp w6 w' → Row w' B (fun _ => True) (y.map (Value.int .i64)) from fun w' hk2 => HRY.out w' (HK4.out.trans (HK5.out.trans (hk.trans hk2))))
    have hcd : cd ≤ 9223372036854775807 := by unfold maxLen at hp3; omega
    clear hr hP hk HK2 HK3 HK4 HK5 HRX HRY HA1 HA2
    have HCV := Lib.hid (show ∀ (w' : World) (h : Int), Kp w6 w' → 0 ≤ h → h < 18446744073709551616 → Calls Try.prog 14 #[.slice D P.length cd, .int .u64 h] w' fun e w'' => e = .returned (.tuple #[mvagg (covM P h), .bool (covB P h)]) ∧ Kp w' w'' from fun w' h hk h0 h1 => O.covers w' D cd P h (HRP.out w' hk) hp2 hp3 (by omega) (PlanFrom.apart HP.out) h0 h1)
    have HOX := Lib.hid (show ∀ (w' : World) (h : Int), Kp w6 w' → Calls Try.prog 13 #[.slice A x.length c, .int .u64 h] w' fun e w'' => e = .returned (.int .i64 (ownerL x h)) ∧ Kp w' w'' from fun w' h hk => rowner_any w' A c x h (HRX6.out w' hk) hc1 hc2)
    have HOY := Lib.hid (show ∀ (w' : World) (h : Int), Kp w6 w' → Calls Try.prog 13 #[.slice B y.length d, .int .u64 h] w' fun e w'' => e = .returned (.int .i64 (ownerL y h)) ∧ Kp w' w'' from fun w' h hk => rowner_any w' B d y h (HRY6.out w' hk) hd1 hd2)
    go_wp2_with fail
    go_loopw [11] (fun i wr => ∃ j : Nat, j ≤ P.length ∧ i = .int .i64 (j : Int) ∧ Hid (Kp w6 wr)) (fun i _ => P.length - (intOf i).toNat)
    case atStart => exact ⟨0, Nat.zero_le _, rfl, Lib.hid (Keeps.refl _ _)⟩
    case round =>
      obtain ⟨j, hj, rfl, HKa⟩ := hrel
      by_cases hj1 : j < P.length
      · have hjI : (j : Int) < (P.length : Int) := by omega
        have hrow := HRP.out wr HKa.out
        obtain ⟨b0, o0, rfl, -, h4⟩ := hrow.at_ hj1
        have hrg := HP.out.rng P[j] (List.getElem_mem hj1)
        have hlo := HP.out.low P[j] (List.getElem_mem hj1)
        have hne := HP.out.ne P[j] (List.getElem_mem hj1)
        have HOWN := Lib.hid (HP.out.own P[j] (List.getElem_mem hj1))
        have hprev : j = 0 ∨ ∃ i, j = i + 1 := by cases j with | zero => exact .inl rfl | succ i => exact .inr ⟨i, rfl⟩
        have HPREV := Lib.hid (show ∀ i (hi : j = i + 1), ∃ f p s t : Int, Mv4 wr b0 (o0 + i * 4) ⟨f, p, s, t⟩ ∧ 0 ≤ p ∧ p < P[j].frm ∧ ¬ (p + 1 = P[j].frm ∧ s = P[j].src ∧ t = P[j].dst) from fun i hi => by
          subst hi
          have hm := MaxL.at_ HP.out.top (i := i) hj1
          have h5 := hrow.fixed (j := i) (by omega)
          have h6 := List.pairwise_iff_getElem.1 HP.out.asc i (i + 1) (by omega) hj1 (by omega)
          have h7 := HP.out.rng P[i] (List.getElem_mem (by omega))
          have h8 := HP.out.low P[i] (List.getElem_mem (by omega))
          exact ⟨P[i].frm, P[i].til, P[i].src, P[i].dst, h5, by omega, h6, hm⟩)
        generalize P[j] = m at h4 hrg hlo hne HOWN HPREV
        obtain ⟨m1, m2, m3, m4⟩ := m
        have c0 := h4.c0
        have c1 := h4.c1
        have c2 := h4.c2
        have c3 := h4.c3
        simp only at c0 c1 c2 c3 hrg hlo hne HPREV HOWN
        clear h4 hrow
        go_upto_region 12 with fail
        obtain ⟨wo, hwo⟩ : ∃ wo, wr = wo := ⟨_, rfl⟩
        rw [hwo] at HKa HPREV ⊢
        subst hwo
        obtain ⟨g, hg⟩ : ∃ g, wr.heap.size = g := ⟨_, rfl⟩
        have hb := MvBlk.new wr ⟨m1, m2, m3, m4⟩ g hg
        have hkw := (Keeps.refl (fun _ => True) wr).alloc (.cells (mvcells ⟨m1, m2, m3, m4⟩) 32)
        have HPV := Lib.hid (show ∀ i (hi : j = i + 1), ∃ f p s t : Int, Mv4 (wr.alloc (.cells (mvcells ⟨m1, m2, m3, m4⟩) 32)) b0 (o0 + i * 4) ⟨f, p, s, t⟩ ∧ 0 ≤ p ∧ p < m1 ∧ ¬ (p + 1 = m1 ∧ s = m3 ∧ t = m4) from fun i hi => by
          obtain ⟨f, p, s, t, h4, h5⟩ := HPREV.out i hi
          exact ⟨f, p, s, t, ⟨hkw.cell h4.c0 trivial, hkw.cell h4.c1 trivial, hkw.cell h4.c2 trivial, hkw.cell h4.c3 trivial⟩, h5⟩)
        have HKb := Lib.hid (HKa.out.trans hkw)
        unfold mvcells at hb HKb HPV
        rw [hg]
        clear c0 c1 c2 c3 hkw HPREV HKa
        generalize wr.alloc (.cells #[.int .u64 m1, .int .u64 m2, .int .i64 m3, .int .i64 m4] 32) = wa at hb HKb HPV ⊢
        have HB := Lib.hid hb
        have e0 := hb.c0
        have e1 := hb.c1
        have e2 := hb.c2
        have e3 := hb.c3
        simp only at e0 e1 e2 e3
        have v0 : decide (m2 < m1) = false := decide_eq_false (by omega)
        have v9 : (m3 == m4) = false := by simpa using hne
        have hcs : (j = 0) ∨ ∃ i, j = i + 1 ∧ ∃ p s t : Int, wa.cell? ⟨b0, o0 + i * 4 + 1, none⟩ = some (.int .u64 p) ∧ wa.cell? ⟨b0, o0 + i * 4 + 2, none⟩ = some (.int .i64 s) ∧ wa.cell? ⟨b0, o0 + i * 4 + 3, none⟩ = some (.int .i64 t) ∧ decide (m1 ≤ p) = false ∧ IntKind.u64.wrap (m1 - 1) = m1 - 1 ∧ ((m1 - 1 == p) = false ∨ (m1 - 1 == p) = true ∧ ((m3 == s) = false ∨ (m3 == s) = true ∧ (m4 == t) = false)) := by
          rcases hprev with h0 | ⟨i, hi⟩
          · exact .inl h0
          · obtain ⟨f, p, s, t, h4, hp0, hlt, hnot⟩ := HPV.out i hi
            refine .inr ⟨i, hi, p, s, t, h4.c1, h4.c2, h4.c3, decide_eq_false (by omega), by rw [IntKind.wrap_u64]; omega, ?_⟩
            cases ha : (m1 - 1 == p) with
            | false => exact .inl rfl
            | true =>
              refine .inr ⟨rfl, ?_⟩
              cases hb : (m3 == s) with
              | false => exact .inl rfl
              | true =>
                refine .inr ⟨rfl, ?_⟩
                simp only [beq_iff_eq] at ha hb
                cases hc : (m4 == t) with
                | false => rfl
                | true =>
                  simp only [beq_iff_eq] at hc
                  exact absurd ⟨by omega, hb.symm, hc.symm⟩ hnot
        clear hb hg hprev HPV hne
        rcases hcs with rfl | ⟨i, rfl, p, s, t, d1, d2, d3, v1, v2, v3 | ⟨v3, v4 | ⟨v4, v5⟩⟩⟩
        all_goals (
          go_quiet (fail)
          have HKq := Lib.hid (HKb.out.drewN nq)
          have HBq := Lib.hid (HB.out.keep ((Keeps.refl (fun _ => True) wa).drewN nq) trivial)
          generalize wa.drewN nq = wq at HKq HBq ⊢
          clear e0 e1 e2 e3 HKb HB v0 v9
          have e0 := HBq.out.c0
          have e1 := HBq.out.c1
          simp only at e0 e1
          go_wp2_with fail
          have hmid : m1 ≤ m1 + (m2 - m1) / 2 ∧ m1 + (m2 - m1) / 2 ≤ m2 := by omega
          generalize m1 + (m2 - m1) / 2 = mid at hmid ⊢
          obtain ⟨gq, hgq⟩ : ∃ gq, wq.heap.size = gq := ⟨_, rfl⟩
          have hb3 := heap_alloc_new wq (.cells #[.int .u64 m1, .int .u64 m2, .int .u64 mid] 30)
          have hkt := (Keeps.refl (fun _ => True) wq).alloc (.cells #[.int .u64 m1, .int .u64 m2, .int .u64 mid] 30)
          have HKt := Lib.hid (HKq.out.trans hkt)
          have HBt := Lib.hid (HBq.out.keep hkt trivial)
          rw [hgq] at hb3 ⊢
          generalize wq.alloc (.cells #[.int .u64 m1, .int .u64 m2, .int .u64 mid] 30) = wt at hb3 HKt HBt ⊢
          have HC3 := Lib.hid (show ∀ (w' : World) (k : Nat), Kp wt w' → k < 3 → ∃ z : Int, w'.cell? ⟨gq, k, none⟩ = some (.int .u64 z) ∧ m1 ≤ z ∧ z ≤ m2 from fun w' k hk hk3 => by
            have hh : k = 0 ∨ k = 1 ∨ k = 2 := by omega
            rcases hh with rfl | rfl | rfl
            · exact ⟨m1, hk.cell ((cell_of_block hb3 0).trans rfl) trivial, Int.le_refl _, hrg.1⟩
            · exact ⟨m2, hk.cell ((cell_of_block hb3 1).trans rfl) trivial, hrg.1, Int.le_refl _⟩
            · exact ⟨mid, hk.cell ((cell_of_block hb3 2).trans rfl) trivial, hmid.1, hmid.2⟩)
          clear hb3 hkt hgq e0 e1 HKq HBq hmid
          go_wp2_with fail
          go_loopw [127] (fun i wi => ∃ k : Nat, k ≤ 3 ∧ i = .int .i64 (k : Int) ∧ Hid (Kp wt wi)) (fun i _ => 3 - (intOf i).toNat)
          case atStart => exact ⟨0, by omega, rfl, Lib.hid (Keeps.refl _ _)⟩
          case round =>
            obtain ⟨k, hk3, rfl, HKi⟩ := hrel
            by_cases hk : k < 3
            · have u1 : decide ((k : Int) < 3) = true := by simp; omega
              obtain ⟨z, cz, hz1, hz2⟩ := HC3.out wr k HKi.out hk
              obtain ⟨hs1, hs2⟩ := HOWN.out z hz1 hz2
              have HS1 := Lib.hid hs1
              have HS2 := Lib.hid hs2
              have v1 : (m3 != m3) = false := by simp
              have v2 : (m4 != m4) = false := by simp
              clear hs1 hs2 hz1 hz2
              go_wp2_with fail
              refine wp_region_guard (R := Kp) (V := VP [.slice A x.length c, .int .u64 z, .int .i64 m3, .pointer (some ⟨g, 2, none⟩), .int .i64 m3, .bool false, .bool false, .slice B y.length d, .int .u64 z, .int .i64 m4, .pointer (some ⟨g, 3, none⟩), .int .i64 m4, .bool false, .bool false]) (w0 := wr) GP (by kernel_rfl) (fun w => Keeps.refl _ w) (fun _ _ _ h k => h.trans k) (VP_keep _) (by kernel_rfl) (GP_is rfl) (fun i o ho hw => (all_wanted (by kernel_rfl) ho hw).elim) ((Keeps.refl _ wr).drew) (each_of ?_) ?_
              · refine ⟨?_, ?_, ?_, ?_, ?_, ?_, ?_, ?_, ?_, ?_, ?_, ?_, ?_, ?_, trivial⟩ <;> intro hw a1 w3 L
                · exact kp_move rfl (L.old 8 (by kernel_rfl))
                · exact kp_move rfl (L.old 14 (by kernel_rfl))
                · exact kp_rowner (HRX6.out _ (HKt.out.trans (HKi.out.trans L.rel))) hc1 hc2 HS1.out rfl (L.val 0 131 (by kernel_rfl) (by kernel_rfl)) (L.val 1 132 (by kernel_rfl) (by kernel_rfl))
                · exact kp_fld2 rfl (L.old 12 (by kernel_rfl))
                · exact kp_ld15 (HBt.out.keep (HKi.out.trans L.rel) trivial).c2 rfl (L.val 3 134 (by kernel_rfl) (by kernel_rfl))
                · exact kp_ne15 v1 rfl (L.val 2 133 (by kernel_rfl) (by kernel_rfl)) (L.val 4 135 (by kernel_rfl) (by kernel_rfl))
                · exact kp_move rfl (L.val 5 136 (by kernel_rfl) (by kernel_rfl))
                · exact kp_move rfl (L.old 9 (by kernel_rfl))
                · exact kp_move rfl (L.old 14 (by kernel_rfl))
                · exact kp_rowner (HRY6.out _ (HKt.out.trans (HKi.out.trans L.rel))) hd1 hd2 HS2.out rfl (L.val 7 138 (by kernel_rfl) (by kernel_rfl)) (L.val 8 139 (by kernel_rfl) (by kernel_rfl))
                · exact kp_fld3 rfl (L.old 12 (by kernel_rfl))
                · exact kp_ld15 (HBt.out.keep (HKi.out.trans L.rel) trivial).c3 rfl (L.val 10 141 (by kernel_rfl) (by kernel_rfl))
                · exact kp_ne15 v2 rfl (L.val 9 140 (by kernel_rfl) (by kernel_rfl)) (L.val 11 142 (by kernel_rfl) (by kernel_rfl))
                · exact kp_pick rfl (L.val 6 137 (by kernel_rfl) (by kernel_rfl)) (L.val 12 143 (by kernel_rfl) (by kernel_rfl))
              · intro vs w7 hk7 hlen7 hv
                match vs, hlen7 with
                | [u0, u1', u2, u3, u4, u5, u6', u7, u8, u9, u10, u11, u12, u13], _ =>
                  have hx13 : u13 = .bool false := hv 13 144 (by kernel_rfl)
                  subst hx13
                  have HK7 := Lib.hid (HKi.out.trans hk7)
                  clear hv hk7 cz
                  simp only [putAll, List.map, Act.put, List.setIfInBounds_toArray, List.set_cons_succ, List.set_cons_zero, Exit.then]
                  go_wp2_with fail
                  go_roundw
                  case rel => exact ⟨k + 1, by omega, by go_num, HK7⟩
                  case measure => simp [intOf]; omega
            · obtain rfl : k = 3 := by omega
              have u1 : decide (((3 : Nat) : Int) < 3) = false := by decide
              have HK9 := Lib.hid (HKt.out.trans HKi.out)
              go_wp2_with fail
              go_roundw
              case rel => first | exact ⟨1, by omega, by go_num, HK9⟩ | exact ⟨i + 1 + 1, by omega, by go_num, HK9⟩
              case measure => simp [intOf]; omega)
      · obtain rfl : j = P.length := by omega
        clear hj1
        go_wp2_with fail
        go_loopw [15] (fun i wi => ∃ k : Nat, k ≤ N0 ∧ k ≤ 20 ∧ i = .int .i64 (k : Int) ∧ Hid (Kp w6 wi)) (fun i _ => 20 - (intOf i).toNat)
        case atStart => exact ⟨0, Nat.zero_le _, by omega, rfl, HKa⟩
        case round =>
          clear HKa
          obtain ⟨k, hkN, hk20, rfl, HKc⟩ := hrel
          by_cases hkk : k < N0 ∧ k < 20
          · obtain ⟨hk1, hk2⟩ := hkk
            have u1 : (k : Int) < (N0 : Int) := by omega
            have u2 : (k : Int) < 20 := by omega
            have hkl : k < l0.length := by rw [HN0.out]; exact hk1
            obtain ⟨b1, o1, rfl, -, c0⟩ := (HR0.out.keep ((HK6.out.trans HKc.out).mono fun _ _ _ => trivial)).at_ (k := k) (by rw [List.length_map]; exact hkl)
            rw [List.getElem_map] at c0
            obtain ⟨h0, h1⟩ := HU0.out l0[k] (List.getElem_mem hkl)
            generalize l0[k] = h at c0 h0 h1
            have hsay := plan_says HP.out h0 h1
            have HC := Lib.hid (HCV.out wr h HKc.out h0 h1)
            have HOXh := Lib.hid (fun w' hk => HOX.out w' h hk)
            have HOYh := Lib.hid (fun w' hk => HOY.out w' h hk)
            clear h0 h1 hkl
            generalize covM P h = m at hsay HC
            generalize covB P h = f at hsay HC
            generalize ownerL x h = s at hsay HOXh
            generalize ownerL y h = t at hsay HOYh
            obtain ⟨m1, m2, m3, m4⟩ := m
            unfold mvagg mvcells at HC
            go_wp2_with fail
            refine (show Calls _ _ _ _ _ from HC.out).mono ?_
            rintro e w7 ⟨rfl, hk7⟩
            have HK7 := Lib.hid (HKc.out.trans hk7)
            clear hk7 HC HKc c0
            go_upto_region 25 with fail
            obtain ⟨g, hg⟩ : ∃ g, w7.heap.size = g := ⟨_, rfl⟩
            have hb := MvBlk.new w7 ⟨m1, m2, m3, m4⟩ g hg
            have HK8 := Lib.hid (HK7.out.alloc (.cells (mvcells ⟨m1, m2, m3, m4⟩) 32))
            unfold mvcells at hb HK8
            rw [hg]
            generalize w7.alloc (.cells #[.int .u64 m1, .int .u64 m2, .int .i64 m3, .int .i64 m4] 32) = w8 at hb HK8 ⊢
            have HB := Lib.hid hb
            clear hb hg HK7
            go_wp2_with fail
            refine (show Calls _ _ _ _ _ from HOXh.out w8 HK8.out).mono ?_
            rintro e w9 ⟨rfl, hk⟩
            have HK9 := Lib.hid (HK8.out.trans hk)
            replace HB := Lib.hid (HB.out.keep hk trivial)
            clear hk HK8
            go_wp2_with fail
            refine (show Calls _ _ _ _ _ from HOYh.out w9 HK9.out).mono ?_
            rintro e w10 ⟨rfl, hk⟩
            have HK10 := Lib.hid (HK9.out.trans hk)
            have c0 := (HB.out.keep hk trivial).c0
            have c1 := (HB.out.keep hk trivial).c1
            have c2 := (HB.out.keep hk trivial).c2
            have c3 := (HB.out.keep hk trivial).c3
            simp only at c0 c1 c2 c3
            clear hk HK9 HB HOXh HOYh
            rcases hsay with ⟨hne, rfl, hs, ht, hf1, hf2⟩ | ⟨hst, rfl⟩
            · subst hs ht
              have v1 : (m3 != m4) = true := by simpa using hne
              have v2 : (m3 != m3) = false := by simp
              have v3 : (m4 != m4) = false := by simp
              have v4 : decide (h < m1) = false := decide_eq_false (by omega)
              have v5 : decide (m2 < h) = false := decide_eq_false (by omega)
              clear hne hf1 hf2
              go_wp2_with fail
              go_roundw
              case rel => exact ⟨k + 1, by omega, by omega, by go_num, HK10⟩
              case measure => simp [intOf]; omega
            · subst hst
              have v1 : (s != s) = false := by simp
              go_wp2_with fail
              go_roundw
              case rel => exact ⟨k + 1, by omega, by omega, by go_num, HK10⟩
              case measure => simp [intOf]; omega
          · have hst : k = N0 ∨ (k = 20 ∧ (20 : Int) < (N0 : Int)) := by
              by_cases hk1 : k < N0
              · exact .inr ⟨by omega, by omega⟩
              · exact .inl (by omega)
            clear hkk
            rcases hst with rfl | ⟨rfl, u1⟩
            all_goals (
              go_wp2_with fail
              go_ret
              exact ⟨rfl, (HK6.out.trans HKc.out).below⟩)
  · go_wp2_with fail
    go_ret
    exact ⟨rfl, (HK2.out.trans HK3.out).below⟩
  · go_wp2_with fail
    go_ret
    exact ⟨rfl, (HK2.out.trans HK3.out).below⟩

end Go.Proofs.Ytcmblihlbmclaaa.planAll
