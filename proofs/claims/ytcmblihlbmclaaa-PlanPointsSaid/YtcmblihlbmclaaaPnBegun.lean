/-
  'begun' OF LAYER 15 ANSWERS true, however the program's plans are made.
-/
import Derived.Test.YtcmblihlbmclaaaPnIf
import Derived.Test.YtcmblihlbmclaaaPnNodes
import Derived.Deep.CutRange
namespace Go.Proofs.Ytcmblihlbmclaaa
open Go Go.RowKit Go.Joins

theorem pints_new (w : World) (l : List Int) (C : Array Value) (hC : C.toList = l.map (Value.int .i64)) : Row (w.alloc (.cells C 3)) (some ⟨w.heap.size, 0, none⟩) (fun _ => True) (l.map (Value.int .i64)) :=
  Row.fresh w C 3 (0, 0) _ rfl trivial _ hC
/-- Two rings and their plan, as the laws make them. -/
theorem ring_at (S : RingOK) {W w : World} {A : Option Addr} {c : Nat} {l : List Int} {e : Int} (hT : S.T W) (hk : Kp W w) (hr : Row w A (fun _ => True) (l.map (Value.int .i64))) (hl : l.length ≤ c) (hc : c ≤ maxLen) (hm : nodesB l = true) (h1 : 1 ≤ e) (h2 : e ≤ 1099511627776) :
    Calls Try.prog 12 #[.int .i64 e, .slice A l.length c] w fun x w' => ∃ r F, x = .returned (.pointer (some ⟨r, 0, none⟩)) ∧ (∀ w2, Kp w' w2 → S.At W w2 r F e l) ∧ Kp w w' :=
  (S.new W w A c l e hT hk hr hl hc (ringB_of h1 h2 hm)).mono fun _ _ ⟨r, F, h1, h2, _, h4⟩ => ⟨r, F, h1, fun _ hk => S.atK h2 hk, h4⟩
theorem l0_any (w : World) (A : Option Addr) (c : Nat) (m : Mv) (P : List Mv) (N : Nat) (hN : (m :: P).length = N) (hn : N ≤ 1000000) (hr : MVRow w A (fun _ => True) (m :: P)) :
    Calls Try.prog 19 #[.slice A N c] w fun e w' => e = .returned (.int .u64 m.frm) ∧ w = w' := by
  obtain ⟨b, o, rfl, -, h4⟩ := hr.at_ (j := 0) (by simp)
  have c0 : w.cell? ⟨b, o, none⟩ = some (.int .u64 m.frm) := by simpa using h4.c0
  have hN0 : 0 < N := by rw [← hN]; simp
  have hN1 : ((N : Int) == 0) = false := by simp; omega
  clear hr h4 hN
  go_enter Try.func19, Try.ntmps19
  go_wp2_with fail
  go_ret
  exact ⟨rfl, rfl⟩
set_option maxRecDepth 100000 in
set_option maxHeartbeats 2000000 in
theorem begun15 {S : RingOK} (O : PlanOK S) (w : World) (hT : S.T w) : Calls Try.prog 9 #[] w fun e w' => e = .returned (.bool true) ∧ Kp w w' := by
  have HT := Lib.hid hT
  clear hT
  have hm1 : nodesB [1] = true := by decide
  have hm2 : nodesB [1, 2] = true := by decide
  have HMORE := Lib.hid (show ∀ P, PlanIs (ownerL [1]) (ownerL [1, 2]) P → P ≠ [] ∧ ∀ m ∈ P, m.dst = 2 ∧ m.src ∈ ([1] : List Int) from fun P hP => plan_more (n := 2) hm1 hm2 (by intro z; simp) (by decide) hP)
  have HN1 := Lib.hid (show Calls Try.prog 12 #[.int .i64 1, .slice (some ⟨w.heap.size, 0, none⟩) 1 1] (w.alloc (.cells #[.int .i64 1] 3)) _ from ring_at S (l := [1]) HT.out ((Keeps.refl _ w).alloc _) (pints_new w [1] _ rfl) (by decide) (by decide) hm1 (by decide) (by decide))
  have HN2 := Lib.hid (show ∀ w1, Kp w w1 → Calls Try.prog 12 #[.int .i64 2, .slice (some ⟨w1.heap.size, 0, none⟩) 2 2] (w1.alloc (.cells #[.int .i64 1, .int .i64 2] 3)) _ from fun w1 hk => ring_at S (l := [1, 2]) HT.out (hk.alloc _) (pints_new w1 [1, 2] _ rfl) (by decide) (by decide) hm2 (by decide) (by decide))
  go_enter Try.func9, Try.ntmps9
  go_wp2_with fail
  refine (show Calls _ _ _ _ _ from HN1.out).mono ?_
  rintro e w1 ⟨r1, F1, rfl, ha1, hk1⟩
  have HA1 := Lib.hid ha1
  have HK1 := Lib.hid (show Kp w w1 from ((Keeps.refl _ w).alloc _).trans hk1)
  clear ha1 hk1 HN1 hm1
  go_wp2_with fail
  refine (show Calls _ _ _ _ _ from HN2.out w1 HK1.out).mono ?_
  rintro e w2 ⟨r2, F2, rfl, ha2, hk2⟩
  have HA2 := Lib.hid ha2
  have HK2 := Lib.hid (show Kp w1 w2 from ((Keeps.refl _ w1).alloc _).trans hk2)
  clear ha2 hk2 HN2 hm2
  go_wp2_with fail
  refine (O.of w w2 r1 F1 1 [1] r2 F2 2 [1, 2] HT.out (HA1.out w2 HK2.out) (HA2.out w2 (Keeps.refl _ _))).mono ?_
  rintro e w3 ⟨B, cb, P, rfl, hr, hP, hp1, hp2, hp3, hk3⟩
  obtain ⟨hne, hall⟩ := HMORE.out P hP
  obtain ⟨m, P', rfl⟩ : ∃ m P', P = m :: P' := by
    cases P with
    | nil => exact absurd rfl hne
    | cons m P => exact ⟨m, P, rfl⟩
  obtain ⟨N, hN⟩ : ∃ N, (m :: P').length = N := ⟨_, rfl⟩
  have hN0 : 0 < N := by rw [← hN]; simp
  have hAp := PlanFrom.apart hP
  have hcov : covO (m :: P') m.frm = some m := by
    unfold covO
    have hin : inM m.frm m = true := by
      unfold inM
      rw [decide_eq_true (Int.le_refl _), decide_eq_true (hAp.rng m List.mem_cons_self).2.1]; rfl
    rw [List.find?_cons, hin]
  have hr1 := hAp.rng m List.mem_cons_self
  obtain ⟨hd, hs⟩ := hall m List.mem_cons_self
  have hs1 : m.src = 1 := by simpa using hs
  have hfrom : (m :: P').filter (fun x => x.src == 1) = m :: P' := List.filter_eq_self.2 fun x hx => by have := (hall x hx).2; simpa using this
  have hto : (m :: P').filter (fun x => x.dst == 1) = [] := List.filter_eq_nil_iff.2 fun x hx => by have := (hall x hx).1; simp [this]
  have HROW := Lib.hid (show ∀ w', Kp w3 w' → MVRow w' B (fun _ => True) (m :: P') from fun w' hk => Row.keep hr hk)
  have HL0 := Lib.hid (show ∀ w', Kp w3 w' → Calls Try.prog 19 #[.slice B N cb] w' _ from fun w' hk => l0_any w' B cb m P' N hN (by omega) (HROW.out w' hk))
  have HCOV := Lib.hid (show ∀ w', Kp w3 w' → Calls Try.prog 14 #[.slice B N cb, .int .u64 m.frm] w' fun e w'' => e = .returned (.tuple #[mvagg m, .bool true]) ∧ Kp w' w'' from fun w' hk => by
    rw [← hN]
    have h := O.covers w' B cb (m :: P') m.frm (HROW.out w' hk) hp2 hp3 (by omega) hAp hr1.1 (by omega)
    have e1 : covM (m :: P') m.frm = m := by unfold covM; rw [hcov]; rfl
    have e2 : covB (m :: P') m.frm = true := by unfold covB; rw [hcov]; rfl
    rw [e1, e2] at h
    exact h)
  have HFR := Lib.hid (show ∀ w', Kp w3 w' → Calls Try.prog 16 #[.slice B N cb, .int .i64 1] w' fun e w'' => (∃ D cd, e = .returned (.slice D N cd)) ∧ Kp w' w'' from fun w' hk => by
    have h := O.from_ w' B cb (m :: P') 1 (HROW.out w' hk) hp2 hp3 (by omega)
    rw [hfrom, hN] at h
    exact h.mono fun e w'' ⟨D, cd, h1, _, _, _, h2⟩ => ⟨⟨D, cd, h1⟩, h2⟩)
  have HTO := Lib.hid (show ∀ w', Kp w3 w' → Calls Try.prog 17 #[.slice B N cb, .int .i64 1] w' fun e w'' => (∃ D cd, e = .returned (.slice D 0 cd)) ∧ Kp w' w'' from fun w' hk => by
    have h := O.to_ w' B cb (m :: P') 1 (HROW.out w' hk) hp2 hp3 (by omega)
    rw [hto, hN] at h
    exact h.mono fun e w'' ⟨D, cd, h1, _, _, _, h2⟩ => ⟨⟨D, cd, h1⟩, h2⟩)
  have HK3 := Lib.hid (HK1.out.trans (HK2.out.trans hk3))
  have HC := Lib.hid (show ∃ b o, B = some ⟨b, o, none⟩ ∧ ∀ w', Kp w3 w' → Mv4 w' b o m from by
    obtain ⟨b, o, e, -, h4⟩ := hr.at_ (j := 0) (by simp)
    refine ⟨b, o, e, fun w' hk => ?_⟩
    subst e
    have := (HROW.out w' hk).fixed (j := 0) (by simp)
    simpa using this)
  have hN2 : N ≤ 1000 := by omega
  rw [hN]
  clear hP hr hk3 hne hall hAp hcov hr1 hs hfrom hto hp1 hp2 HROW hN HMORE HA1 HA2
  obtain ⟨frm, til, src, dst⟩ := m
  simp only at hs1 hd
  subst hs1 hd
  obtain ⟨b, o, rfl, hc4⟩ := HC.out
  have HC4 := Lib.hid hc4
  have hcb : cb ≤ 9223372036854775807 := by unfold maxLen at hp3; omega
  clear HC hc4 hp3
  go_wp2_with fail
  refine (show Calls _ _ _ _ _ from HL0.out w3 (Keeps.refl _ _)).mono ?_
  rintro e w3' ⟨rfl, rfl⟩
  go_wp2_with fail
  refine (show Calls _ _ _ _ _ from HCOV.out w3 (Keeps.refl _ _)).mono ?_
  rintro e w4 ⟨rfl, hk4⟩
  have HK4 := Lib.hid hk4
  clear hk4
  unfold mvagg mvcells
  go_upto_region 3 with fail
  obtain ⟨g, hg⟩ : ∃ g, w4.heap.size = g := ⟨_, rfl⟩
  have hb := MvBlk.new w4 ⟨frm, til, 1, 2⟩ g hg
  have HK5 := Lib.hid (HK4.out.alloc (.cells (mvcells ⟨frm, til, 1, 2⟩) 32))
  unfold mvcells at hb HK5
  rw [hg]
  generalize w4.alloc (.cells #[.int .u64 frm, .int .u64 til, .int .i64 1, .int .i64 2] 32) = w5 at hb HK5 ⊢
  have e2 := hb.c2
  clear hb HK4 hg
  have hq := HC4.out w5 HK5.out
  have q2 := hq.c2
  have q3 := hq.c3
  have t1 : decide ((0 : Int) < (N : Int)) = true := by simp; omega
  have t2 : ((N : Int) == (N : Int)) = true := by simp
  have hNI : (0 : Int) < (N : Int) := by omega
  clear hq
  go_wp2_with fail
  refine (show Calls _ _ _ _ _ from HFR.out w5 HK5.out).mono ?_
  rintro e w6 ⟨⟨D, cd, rfl⟩, hk⟩
  have HK6 := Lib.hid (HK5.out.trans hk)
  clear hk q2 q3 e2
  go_wp2_with fail
  refine (show Calls _ _ _ _ _ from HTO.out w6 HK6.out).mono ?_
  rintro e w7 ⟨⟨D2, cd2, rfl⟩, hk⟩
  have HK7 := Lib.hid (HK6.out.trans hk)
  clear hk
  go_wp2_with fail
  refine (O.ofNil w7).mono ?_
  rintro e w8 ⟨⟨D3, cd3, rfl⟩, hk⟩
  have HK8 := Lib.hid (HK3.out.trans (HK7.out.trans hk))
  clear hk
  go_wp2_with fail
  go_ret
  exact ⟨rfl, HK8.out⟩

end Go.Proofs.Ytcmblihlbmclaaa
