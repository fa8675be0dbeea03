/-
  VectorSet, walked: what is set is got, and nothing else has changed; the vector itself stays as it was.
-/
import Derived.Test.YtdgpdooikfamlaaVcLocs
import Derived.Outline
import Derived.Deep.CutRange
import Derived.Deep.CutBlock
namespace Go.Proofs.Ytdgpdooikfamlaa.vectorSet
open Go Go.RowKit Go.Joins Go.Proofs.Ytdgpdooikfamlaa

theorem isNode_nat {z : Int} (h : isNode z = true) : ∃ m : Nat, z = m ∧ 1 ≤ m ∧ m ≤ 5 := by
  unfold isNode at h
  simp only [Bool.and_eq_true, decide_eq_true_eq] at h
  exact ⟨z.toNat, by omega, by omega, by omega⟩
theorem get_set {f : Nat → Int} {z n : Int} (h : isNode z = true) : getF (setF f z n) z = max 0 n := by
  unfold getF setF
  rw [if_pos h, if_pos h]
  unfold upd
  rw [if_pos rfl]
theorem get_other {f : Nat → Int} {z y n : Int} (hy : isNode y = true) (hne : y ≠ z) : getF (setF f z n) y = getF f y := by
  unfold getF
  rw [if_pos hy, if_pos hy]
  unfold setF
  cases hz : isNode z with
  | false => rfl
  | true =>
    obtain ⟨m, rfl, -, -⟩ := isNode_nat hy
    obtain ⟨k, rfl, -, -⟩ := isNode_nat hz
    show upd f (k : Int).toNat (max 0 n) (m : Int).toNat = _
    unfold upd
    rw [if_neg (by omega)]
theorem set_none {f : Nat → Int} {z n : Int} (h : isNode z = false) : setF f z n = f := by
  unfold setF
  rw [h]
  rfl
set_option maxRecDepth 100000 in
set_option maxHeartbeats 4000000 in
theorem walk (S : VectorOK) (w : World) (hT : S.T w) (A : Option Addr) (ca : Nat) (a : List Int) (hla : a.length ≤ ca) (hca : ca ≤ maxLen) (hra : Row w A (fun b => b < w.heap.size) (a.map (Value.int .i64))) (hwa : ∀ x ∈ a, x < 9223372036854775808)
    (z n : Int) (hn : n < 9223372036854775808) (y : Int) :
    Calls Try.prog 7 #[.slice A a.length ca, .int .i64 z, .int .i64 n, .int .i64 y] w fun e w' => e = .returned (.bool true) ∧ Below w.heap.size w w' := by
  have HT := Lib.hid hT
  have HRA := Lib.hid (show ∀ w', Kp w w' → Row w' A (fun _ => True) (a.map (Value.int .i64)) from fun w' hk => (hra.mono fun _ _ _ => trivial).keep hk)
  have HLA := Lib.hid hla
  have HCA := Lib.hid hca
  obtain ⟨ka, hka⟩ : ∃ ka, min a.length 5 = ka := ⟨_, rfl⟩
  obtain ⟨f, hf⟩ : ∃ f, ofF a ka = f := ⟨_, rfl⟩
  have HOF := Lib.hid (show VOk f from by rw [← hf]; exact VOk.of hwa _)
  have HKA5 := Lib.hid hka
  have HF := Lib.hid hf
  have HA := Lib.hid (show ∀ w', Kp w w' → Calls Try.prog 10 #[.slice A a.length ca] w' fun e w2 => e = .returned (vagg f) ∧ Kp w' w2 from fun w' hk => by
    rw [← hf, ← hka]; exact S.of w' A ca a (S.tk HT.out hk) (HRA.out w' hk) HLA.out HCA.out)
  obtain ⟨s, hs⟩ : ∃ s, setF f z n = s := ⟨_, rfl⟩
  have HS := Lib.hid hs
  have HOS := Lib.hid (show VOk s from by rw [← hs]; exact HOF.out.set z hn)
  have HSET := Lib.hid (show ∀ w', Kp w w' → Calls Try.prog 14 #[vagg f, .int .i64 z, .int .i64 n] w' fun e w2 => e = .returned (vagg s) ∧ Kp w' w2 from fun w' hk => by
    rw [← hs]; exact S.set w' f z n (S.tk HT.out hk) HOF.out)
  have HGET := Lib.hid (show ∀ (x : Nat → Int) (m : Int), VOk x → ∀ w', Kp w w' → Calls Try.prog 21 #[vagg x, .int .i64 m] w' fun e w2 => e = .returned (.int .i64 (getF x m)) ∧ Kp w' w2 from fun x m hx w' hk => S.get w' x m (S.tk HT.out hk) hx)
  have HSAME := Lib.hid (show ∀ (x u : Nat → Int), VOk x → ∀ w', Kp w w' → Calls Try.prog 11 #[vagg x, vagg u] w' fun e w2 => e = .returned (.bool (eqB x u)) ∧ Kp w' w2 from fun x u hx w' hk => same_any S w' (S.tk HT.out hk) x u hx)
  have G1 := Lib.hid (HGET.out s z HOS.out)
  have E1 := Lib.hid (HSAME.out s f HOS.out)
  unfold vagg vcells at HA HSET G1 E1
  clear hT hn hla hca hra hwa hka hf hs HGET HSAME
  go_enter Try.func7, Try.ntmps7
  go_wp2_with fail
  refine (show Calls _ _ _ _ _ from begun11 S w HT.out).mono ?_
  rintro e w1 ⟨rfl, hk⟩
  have HK1 := Lib.hid hk
  clear hk
  go_wp2_with fail
  refine (show Calls _ _ _ _ _ from HA.out w1 HK1.out).mono ?_
  rintro e w2 ⟨rfl, hk⟩
  have HK2 := Lib.hid (HK1.out.trans hk)
  clear hk HK1 HA
  obtain ⟨pv, hpv⟩ : ∃ pv, w2.heap.size = pv := ⟨_, rfl⟩
  have HN := Lib.hid (show ∀ wa, wa = w2.alloc (.cells (vcells f) 26) → VBlk wa pv 26 f ∧ Kp w wa from by
    rintro wa rfl
    exact ⟨VBlk.new w2 _ f pv hpv.symm, HK2.out.alloc _⟩)
  unfold vcells at HN
  go_wp2_with fail
  obtain ⟨h1, h2⟩ := HN.out _ rfl
  try rw [hpv]
  generalize w2.alloc (.cells #[.int .i64 (f 0), .int .i64 (f 1), .int .i64 (f 2), .int .i64 (f 3), .int .i64 (f 4), .int .i64 (f 5)] 26) = wa at h1 h2 ⊢
  have HV := Lib.hid h1
  have HKA := Lib.hid h2
  clear h1 h2 hpv HN HK2
  refine (show Calls _ _ _ _ _ from HSET.out wa HKA.out).mono ?_
  rintro e w3 ⟨rfl, hk⟩
  have HV3 := Lib.hid (HV.out.keep hk trivial)
  have HK3 := Lib.hid (HKA.out.trans hk)
  clear hk HSET HV HKA
  obtain ⟨pw, hpw⟩ : ∃ pw, w3.heap.size = pw := ⟨_, rfl⟩
  have HN := Lib.hid (show ∀ wb, wb = w3.alloc (.cells (vcells s) 26) → VBlk wb pw 26 s ∧ VBlk wb pv 26 f ∧ Kp w wb from by
    rintro wb rfl
    exact ⟨VBlk.new w3 _ s pw hpw.symm, HV3.out.keep (G := fun _ => True) ((Keeps.refl _ _).alloc _) trivial, HK3.out.alloc _⟩)
  unfold vcells at HN
  have hin : ∃ bi, isNode z = bi := ⟨_, rfl⟩
  obtain ⟨bi, hbi⟩ := hin
  have HBI := Lib.hid hbi
  have hcz : (decide (1 ≤ z) = false ∧ bi = false) ∨ (decide (1 ≤ z) = true ∧ decide (z ≤ 5) = false ∧ bi = false) ∨ (decide (1 ≤ z) = true ∧ decide (z ≤ 5) = true ∧ bi = true) := by
    rw [← hbi]
    unfold isNode
    cases decide (1 ≤ z) <;> cases decide (z ≤ 5) <;> simp
  clear hbi
  go_upto_region 6 with fail
  obtain ⟨h1, h2, h3⟩ := HN.out _ rfl
  try rw [hpw]
  generalize w3.alloc (.cells #[.int .i64 (s 0), .int .i64 (s 1), .int .i64 (s 2), .int .i64 (s 3), .int .i64 (s 4), .int .i64 (s 5)] 26) = wb at h1 h2 h3 ⊢
  have HW := Lib.hid h1
  have HV := Lib.hid h2
  have HKB := Lib.hid h3
  clear h1 h2 h3 hpw HN HV3 HK3
  go_cut [12] from 22 to 70 (fun s12 wx => s12 = .bool bi ∧ wx = wb)
  case first =>
    rcases hcz with ⟨z1, rfl⟩ | ⟨z1, z2, rfl⟩ | ⟨z1, z2, rfl⟩
    all_goals (
      go_wp2_with fail
      go_meet
      exact ⟨rfl, rfl⟩)
  case rest =>
    obtain ⟨rfl, rfl⟩ := hcut
    clear hcz
    have hcy : (decide (1 ≤ y) = false) ∨ (decide (1 ≤ y) = true ∧ decide (y ≤ 5) = false) ∨ (decide (1 ≤ y) = true ∧ decide (y ≤ 5) = true ∧ (y != z) = false) ∨ (decide (1 ≤ y) = true ∧ decide (y ≤ 5) = true ∧ (y != z) = true) := by
      cases decide (1 ≤ y) <;> cases decide (y ≤ 5) <;> cases (y != z) <;> simp
    obtain ⟨a0, a1, a2, a3, a4, a5⟩ := HW.out.six (Keeps.refl _ _)
    obtain ⟨b0, b1, b2, b3, b4, b5⟩ := HV.out.six (Keeps.refl _ _)
    rcases bi with _ | _
    · have HEQ := Lib.hid (show eqB s f = true from by rw [← HS.out, set_none HBI.out]; exact eqB_refl f)
      rw [HEQ.out] at E1
      go_wp2_with fail
      refine (show Calls _ _ _ _ _ from E1.out wc HKB.out).mono ?_
      rintro e wd ⟨rfl, hkd⟩
      have HWD := Lib.hid (HW.out.keep hkd trivial)
      have HVD := Lib.hid (HV.out.keep hkd trivial)
      have HKD := Lib.hid (HKB.out.trans hkd)
      have HT0 := Lib.hid (S.tk HT.out HKD.out)
      clear hkd a0 a1 a2 a3 a4 a5 b0 b1 b2 b3 b4 b5 HW HV HKB
      go_upto_region 9 with fail
      rcases hcy with y1 | ⟨y1, y2⟩ | ⟨y1, y2, y3⟩ | ⟨y1, y2, y3⟩
      · have hy := y1
        refine wp_region_guard (R := Kp) (V := Vk [.v (.int .i64 y), .v (.bool false), .v (.bool false), .v undef, .v undef, .v (.bool false), .v (.bool false), .v undef, .v undef, .v undef, .v (.bool false), .v (.bool false), .v undef, .v undef, .v undef, .v undef, .v undef, .v undef, .v undef, .v (.bool false)]) (w0 := wd) (Gl [(2, false), (6, false), (11, false)]) (by kernel_rfl) (fun w => Keeps.refl _ w) (fun _ _ _ h k => h.trans k) (Vk_keep _) (by kernel_rfl) (Gl_is (by intro p hp; simp only [List.mem_cons, List.not_mem_nil, or_false] at hp; rcases hp with rfl | rfl | rfl <;> rfl)) (unwanted_of [3, 4, 7, 8, 9, 12, 13, 14, 15, 16, 17, 18] (by kernel_rfl) (by intro i hi; simp only [List.mem_cons, List.not_mem_nil, or_false] at hi; rcases hi with rfl | rfl | rfl | rfl | rfl | rfl | rfl | rfl | rfl | rfl | rfl | rfl <;> rfl)) ((Keeps.refl _ wd).drew) (each_of ?_) ?_
        · refine ⟨?_, ?_, ?_, ?_, ?_, ?_, ?_, ?_, ?_, ?_, ?_, ?_, ?_, ?_, ?_, ?_, ?_, ?_, ?_, ?_, trivial⟩ <;> intro hw a1 w3 L
          · exact kp_move rfl (L.old 3 (by kernel_rfl))
          · exact kp_geqZ y1 rfl (L.val 0 47 (by kernel_rfl) (by kernel_rfl)) rfl
          · exact kp_move rfl (L.val 1 48 (by kernel_rfl) (by kernel_rfl))
          · cases hw
          · cases hw
          · exact kp_pick rfl (L.val 2 49 (by kernel_rfl) (by kernel_rfl)) rfl
          · exact kp_move rfl (L.val 5 52 (by kernel_rfl) (by kernel_rfl))
          · cases hw
          · cases hw
          · cases hw
          · exact kp_pick rfl (L.val 6 53 (by kernel_rfl) (by kernel_rfl)) rfl
          · exact kp_move rfl (L.val 10 57 (by kernel_rfl) (by kernel_rfl))
          · cases hw
          · cases hw
          · cases hw
          · cases hw
          · cases hw
          · cases hw
          · cases hw
          · exact kp_pick rfl (L.val 11 58 (by kernel_rfl) (by kernel_rfl)) rfl
        · intro vs w7 hk7 hlen7 hv
          match vs, hlen7 with
          | [u0, u1, u2, u3, u4, u5, u6, u7, u8, u9, u10, u11, u12, u13, u14, u15, u16, u17, u18, u19], _ =>
          have hx19 : u19 = .bool false := hv 19 66 (by kernel_rfl)
          subst hx19
          have HVE := Lib.hid (HVD.out.keep hk7 trivial)
          have HKE := Lib.hid (HKD.out.trans hk7)
          have HT1 := Lib.hid (S.tk HT.out HKE.out)
          have HRE := Lib.hid (HRA.out _ HKE.out)
          have HEF := Lib.hid (show eqB f (ofF a ka) = true from by rw [HF.out]; exact eqB_refl f)
          clear hv hk7
          simp only [putAll, List.map, Act.put, List.setIfInBounds_toArray, List.set_cons_succ, List.set_cons_zero, Exit.then]
          go_upto_region 11 with fail
          refine wp_region_guard (R := Kp) (V := Vk [.v (vagg f), .v (.slice A a.length ca), .v (vagg (ofF a ka)), .v (.bool true), .v (.bool true)]) (w0 := w7) (Gl []) (by kernel_rfl) (fun w => Keeps.refl _ w) (fun _ _ _ h k => h.trans k) (Vk_keep _) (by kernel_rfl) (Gl_is (by intro p hp; cases hp)) (fun i o ho hw => (all_wanted (by kernel_rfl) ho hw).elim) ((Keeps.refl _ w7).drew) (each_of ?_) ?_
          · refine ⟨?_, ?_, ?_, ?_, ?_, trivial⟩ <;> intro hw a1 w3 L
            · exact kp_ldV (HVE.out.keep L.rel trivial) rfl (L.old 10 (by kernel_rfl))
            · exact kp_move rfl (L.old 0 (by kernel_rfl))
            · exact kp_of (HRE.out.keep L.rel) rfl HLA.out HCA.out HKA5.out rfl (L.val 1 68 (by kernel_rfl) (by kernel_rfl))
            · exact kp_same S (S.tk HT1.out L.rel) HOF.out HEF.out rfl (L.val 0 67 (by kernel_rfl) (by kernel_rfl)) (L.val 2 69 (by kernel_rfl) (by kernel_rfl))
            · exact kp_assign rfl (L.val 3 70 (by kernel_rfl) (by kernel_rfl))
          · intro vs2 w8 hk8 hlen8 hv2
            match vs2, hlen8 with
            | [v0, v1, v2, v3, v4], _ =>
              have hx4 : v4 = .bool true := hv2 4 8 (by kernel_rfl)
              subst hx4
              have HKF := Lib.hid (HKE.out.trans hk8)
              clear hv2 hk8
              simp only [putAll, List.map, Act.put, List.setIfInBounds_toArray, List.set_cons_succ, List.set_cons_zero, Exit.then]
              go_wp2_with fail
              go_ret
              exact ⟨rfl, HKF.out.below⟩
      · have hy := y1
        refine wp_region_guard (R := Kp) (V := Vk [.v (.int .i64 y), .v (.bool true), .v (.bool true), .v (.int .i64 y), .v (.bool false), .v (.bool false), .v (.bool false), .v undef, .v undef, .v undef, .v (.bool false), .v (.bool false), .v undef, .v undef, .v undef, .v undef, .v undef, .v undef, .v undef, .v (.bool false)]) (w0 := wd) (Gl [(2, true), (6, false), (11, false)]) (by kernel_rfl) (fun w => Keeps.refl _ w) (fun _ _ _ h k => h.trans k) (Vk_keep _) (by kernel_rfl) (Gl_is (by intro p hp; simp only [List.mem_cons, List.not_mem_nil, or_false] at hp; rcases hp with rfl | rfl | rfl <;> rfl)) (unwanted_of [7, 8, 9, 12, 13, 14, 15, 16, 17, 18] (by kernel_rfl) (by intro i hi; simp only [List.mem_cons, List.not_mem_nil, or_false] at hi; rcases hi with rfl | rfl | rfl | rfl | rfl | rfl | rfl | rfl | rfl | rfl <;> rfl)) ((Keeps.refl _ wd).drew) (each_of ?_) ?_
        · refine ⟨?_, ?_, ?_, ?_, ?_, ?_, ?_, ?_, ?_, ?_, ?_, ?_, ?_, ?_, ?_, ?_, ?_, ?_, ?_, ?_, trivial⟩ <;> intro hw a1 w3 L
          · exact kp_move rfl (L.old 3 (by kernel_rfl))
          · exact kp_geqZ y1 rfl (L.val 0 47 (by kernel_rfl) (by kernel_rfl)) rfl
          · exact kp_move rfl (L.val 1 48 (by kernel_rfl) (by kernel_rfl))
          · exact kp_move rfl (L.old 3 (by kernel_rfl))
          · exact kp_leqZ y2 rfl (L.val 3 50 (by kernel_rfl) (by kernel_rfl)) rfl
          · exact kp_pick rfl (L.val 2 49 (by kernel_rfl) (by kernel_rfl)) (L.val 4 51 (by kernel_rfl) (by kernel_rfl))
          · exact kp_move rfl (L.val 5 52 (by kernel_rfl) (by kernel_rfl))
          · cases hw
          · cases hw
          · cases hw
          · exact kp_pick rfl (L.val 6 53 (by kernel_rfl) (by kernel_rfl)) rfl
          · exact kp_move rfl (L.val 10 57 (by kernel_rfl) (by kernel_rfl))
          · cases hw
          · cases hw
          · cases hw
          · cases hw
          · cases hw
          · cases hw
          · cases hw
          · exact kp_pick rfl (L.val 11 58 (by kernel_rfl) (by kernel_rfl)) rfl
        · intro vs w7 hk7 hlen7 hv
          match vs, hlen7 with
          | [u0, u1, u2, u3, u4, u5, u6, u7, u8, u9, u10, u11, u12, u13, u14, u15, u16, u17, u18, u19], _ =>
          have hx19 : u19 = .bool false := hv 19 66 (by kernel_rfl)
          subst hx19
          have HVE := Lib.hid (HVD.out.keep hk7 trivial)
          have HKE := Lib.hid (HKD.out.trans hk7)
          have HT1 := Lib.hid (S.tk HT.out HKE.out)
          have HRE := Lib.hid (HRA.out _ HKE.out)
          have HEF := Lib.hid (show eqB f (ofF a ka) = true from by rw [HF.out]; exact eqB_refl f)
          clear hv hk7
          simp only [putAll, List.map, Act.put, List.setIfInBounds_toArray, List.set_cons_succ, List.set_cons_zero, Exit.then]
          go_upto_region 11 with fail
          refine wp_region_guard (R := Kp) (V := Vk [.v (vagg f), .v (.slice A a.length ca), .v (vagg (ofF a ka)), .v (.bool true), .v (.bool true)]) (w0 := w7) (Gl []) (by kernel_rfl) (fun w => Keeps.refl _ w) (fun _ _ _ h k => h.trans k) (Vk_keep _) (by kernel_rfl) (Gl_is (by intro p hp; cases hp)) (fun i o ho hw => (all_wanted (by kernel_rfl) ho hw).elim) ((Keeps.refl _ w7).drew) (each_of ?_) ?_
          · refine ⟨?_, ?_, ?_, ?_, ?_, trivial⟩ <;> intro hw a1 w3 L
            · exact kp_ldV (HVE.out.keep L.rel trivial) rfl (L.old 10 (by kernel_rfl))
            · exact kp_move rfl (L.old 0 (by kernel_rfl))
            · exact kp_of (HRE.out.keep L.rel) rfl HLA.out HCA.out HKA5.out rfl (L.val 1 68 (by kernel_rfl) (by kernel_rfl))
            · exact kp_same S (S.tk HT1.out L.rel) HOF.out HEF.out rfl (L.val 0 67 (by kernel_rfl) (by kernel_rfl)) (L.val 2 69 (by kernel_rfl) (by kernel_rfl))
            · exact kp_assign rfl (L.val 3 70 (by kernel_rfl) (by kernel_rfl))
          · intro vs2 w8 hk8 hlen8 hv2
            match vs2, hlen8 with
            | [v0, v1, v2, v3, v4], _ =>
              have hx4 : v4 = .bool true := hv2 4 8 (by kernel_rfl)
              subst hx4
              have HKF := Lib.hid (HKE.out.trans hk8)
              clear hv2 hk8
              simp only [putAll, List.map, Act.put, List.setIfInBounds_toArray, List.set_cons_succ, List.set_cons_zero, Exit.then]
              go_wp2_with fail
              go_ret
              exact ⟨rfl, HKF.out.below⟩
      · have hy := y1
        refine wp_region_guard (R := Kp) (V := Vk [.v (.int .i64 y), .v (.bool true), .v (.bool true), .v (.int .i64 y), .v (.bool true), .v (.bool true), .v (.bool true), .v (.int .i64 y), .v (.int .i64 z), .v (.bool false), .v (.bool false), .v (.bool false), .v undef, .v undef, .v undef, .v undef, .v undef, .v undef, .v undef, .v (.bool false)]) (w0 := wd) (Gl [(2, true), (6, true), (11, false)]) (by kernel_rfl) (fun w => Keeps.refl _ w) (fun _ _ _ h k => h.trans k) (Vk_keep _) (by kernel_rfl) (Gl_is (by intro p hp; simp only [List.mem_cons, List.not_mem_nil, or_false] at hp; rcases hp with rfl | rfl | rfl <;> rfl)) (unwanted_of [12, 13, 14, 15, 16, 17, 18] (by kernel_rfl) (by intro i hi; simp only [List.mem_cons, List.not_mem_nil, or_false] at hi; rcases hi with rfl | rfl | rfl | rfl | rfl | rfl | rfl <;> rfl)) ((Keeps.refl _ wd).drew) (each_of ?_) ?_
        · refine ⟨?_, ?_, ?_, ?_, ?_, ?_, ?_, ?_, ?_, ?_, ?_, ?_, ?_, ?_, ?_, ?_, ?_, ?_, ?_, ?_, trivial⟩ <;> intro hw a1 w3 L
          · exact kp_move rfl (L.old 3 (by kernel_rfl))
          · exact kp_geqZ y1 rfl (L.val 0 47 (by kernel_rfl) (by kernel_rfl)) rfl
          · exact kp_move rfl (L.val 1 48 (by kernel_rfl) (by kernel_rfl))
          · exact kp_move rfl (L.old 3 (by kernel_rfl))
          · exact kp_leqZ y2 rfl (L.val 3 50 (by kernel_rfl) (by kernel_rfl)) rfl
          · exact kp_pick rfl (L.val 2 49 (by kernel_rfl) (by kernel_rfl)) (L.val 4 51 (by kernel_rfl) (by kernel_rfl))
          · exact kp_move rfl (L.val 5 52 (by kernel_rfl) (by kernel_rfl))
          · exact kp_move rfl (L.old 3 (by kernel_rfl))
          · exact kp_move rfl (L.old 1 (by kernel_rfl))
          · exact kp_neqZ y3 rfl (L.val 7 54 (by kernel_rfl) (by kernel_rfl)) (L.val 8 55 (by kernel_rfl) (by kernel_rfl))
          · exact kp_pick rfl (L.val 6 53 (by kernel_rfl) (by kernel_rfl)) (L.val 9 56 (by kernel_rfl) (by kernel_rfl))
          · exact kp_move rfl (L.val 10 57 (by kernel_rfl) (by kernel_rfl))
          · cases hw
          · cases hw
          · cases hw
          · cases hw
          · cases hw
          · cases hw
          · cases hw
          · exact kp_pick rfl (L.val 11 58 (by kernel_rfl) (by kernel_rfl)) rfl
        · intro vs w7 hk7 hlen7 hv
          match vs, hlen7 with
          | [u0, u1, u2, u3, u4, u5, u6, u7, u8, u9, u10, u11, u12, u13, u14, u15, u16, u17, u18, u19], _ =>
          have hx19 : u19 = .bool false := hv 19 66 (by kernel_rfl)
          subst hx19
          have HVE := Lib.hid (HVD.out.keep hk7 trivial)
          have HKE := Lib.hid (HKD.out.trans hk7)
          have HT1 := Lib.hid (S.tk HT.out HKE.out)
          have HRE := Lib.hid (HRA.out _ HKE.out)
          have HEF := Lib.hid (show eqB f (ofF a ka) = true from by rw [HF.out]; exact eqB_refl f)
          clear hv hk7
          simp only [putAll, List.map, Act.put, List.setIfInBounds_toArray, List.set_cons_succ, List.set_cons_zero, Exit.then]
          go_upto_region 11 with fail
          refine wp_region_guard (R := Kp) (V := Vk [.v (vagg f), .v (.slice A a.length ca), .v (vagg (ofF a ka)), .v (.bool true), .v (.bool true)]) (w0 := w7) (Gl []) (by kernel_rfl) (fun w => Keeps.refl _ w) (fun _ _ _ h k => h.trans k) (Vk_keep _) (by kernel_rfl) (Gl_is (by intro p hp; cases hp)) (fun i o ho hw => (all_wanted (by kernel_rfl) ho hw).elim) ((Keeps.refl _ w7).drew) (each_of ?_) ?_
          · refine ⟨?_, ?_, ?_, ?_, ?_, trivial⟩ <;> intro hw a1 w3 L
            · exact kp_ldV (HVE.out.keep L.rel trivial) rfl (L.old 10 (by kernel_rfl))
            · exact kp_move rfl (L.old 0 (by kernel_rfl))
            · exact kp_of (HRE.out.keep L.rel) rfl HLA.out HCA.out HKA5.out rfl (L.val 1 68 (by kernel_rfl) (by kernel_rfl))
            · exact kp_same S (S.tk HT1.out L.rel) HOF.out HEF.out rfl (L.val 0 67 (by kernel_rfl) (by kernel_rfl)) (L.val 2 69 (by kernel_rfl) (by kernel_rfl))
            · exact kp_assign rfl (L.val 3 70 (by kernel_rfl) (by kernel_rfl))
          · intro vs2 w8 hk8 hlen8 hv2
            match vs2, hlen8 with
            | [v0, v1, v2, v3, v4], _ =>
              have hx4 : v4 = .bool true := hv2 4 8 (by kernel_rfl)
              subst hx4
              have HKF := Lib.hid (HKE.out.trans hk8)
              clear hv2 hk8
              simp only [putAll, List.map, Act.put, List.setIfInBounds_toArray, List.set_cons_succ, List.set_cons_zero, Exit.then]
              go_wp2_with fail
              go_ret
              exact ⟨rfl, HKF.out.below⟩
      · have hy := y1
        have HGS := Lib.hid (show getF s y = getF f y from by
          rw [← HS.out]
          exact get_other (by unfold isNode; rw [y1, y2]; rfl) (by simpa using y3))
        refine wp_region_guard (R := Kp) (V := Vk [.v (.int .i64 y), .v (.bool true), .v (.bool true), .v (.int .i64 y), .v (.bool true), .v (.bool true), .v (.bool true), .v (.int .i64 y), .v (.int .i64 z), .v (.bool true), .v (.bool true), .v (.bool true), .v (vagg s), .v (.int .i64 y), .v (.int .i64 (getF s y)), .v (vagg f), .v (.int .i64 y), .v (.int .i64 (getF f y)), .v (.bool false), .v (.bool false)]) (w0 := wd) (Gl [(2, true), (6, true), (11, true)]) (by kernel_rfl) (fun w => Keeps.refl _ w) (fun _ _ _ h k => h.trans k) (Vk_keep _) (by kernel_rfl) (Gl_is (by intro p hp; simp only [List.mem_cons, List.not_mem_nil, or_false] at hp; rcases hp with rfl | rfl | rfl <;> rfl)) (fun i o ho hw => (all_wanted (by kernel_rfl) ho hw).elim) ((Keeps.refl _ wd).drew) (each_of ?_) ?_
        · refine ⟨?_, ?_, ?_, ?_, ?_, ?_, ?_, ?_, ?_, ?_, ?_, ?_, ?_, ?_, ?_, ?_, ?_, ?_, ?_, ?_, trivial⟩ <;> intro hw a1 w3 L
          · exact kp_move rfl (L.old 3 (by kernel_rfl))
          · exact kp_geqZ y1 rfl (L.val 0 47 (by kernel_rfl) (by kernel_rfl)) rfl
          · exact kp_move rfl (L.val 1 48 (by kernel_rfl) (by kernel_rfl))
          · exact kp_move rfl (L.old 3 (by kernel_rfl))
          · exact kp_leqZ y2 rfl (L.val 3 50 (by kernel_rfl) (by kernel_rfl)) rfl
          · exact kp_pick rfl (L.val 2 49 (by kernel_rfl) (by kernel_rfl)) (L.val 4 51 (by kernel_rfl) (by kernel_rfl))
          · exact kp_move rfl (L.val 5 52 (by kernel_rfl) (by kernel_rfl))
          · exact kp_move rfl (L.old 3 (by kernel_rfl))
          · exact kp_move rfl (L.old 1 (by kernel_rfl))
          · exact kp_neqZ y3 rfl (L.val 7 54 (by kernel_rfl) (by kernel_rfl)) (L.val 8 55 (by kernel_rfl) (by kernel_rfl))
          · exact kp_pick rfl (L.val 6 53 (by kernel_rfl) (by kernel_rfl)) (L.val 9 56 (by kernel_rfl) (by kernel_rfl))
          · exact kp_move rfl (L.val 10 57 (by kernel_rfl) (by kernel_rfl))
          · exact kp_ldV (HWD.out.keep L.rel trivial) rfl (L.old 11 (by kernel_rfl))
          · exact kp_move rfl (L.old 3 (by kernel_rfl))
          · exact kp_get S (S.tk HT0.out L.rel) HOS.out rfl rfl (L.val 12 59 (by kernel_rfl) (by kernel_rfl)) (L.val 13 60 (by kernel_rfl) (by kernel_rfl))
          · exact kp_ldV (HVD.out.keep L.rel trivial) rfl (L.old 10 (by kernel_rfl))
          · exact kp_move rfl (L.old 3 (by kernel_rfl))
          · exact kp_get S (S.tk HT0.out L.rel) HOF.out rfl rfl (L.val 15 62 (by kernel_rfl) (by kernel_rfl)) (L.val 16 63 (by kernel_rfl) (by kernel_rfl))
          · exact kp_neN (by simp [HGS.out]) rfl (L.val 14 61 (by kernel_rfl) (by kernel_rfl)) (L.val 17 64 (by kernel_rfl) (by kernel_rfl))
          · exact kp_pick rfl (L.val 11 58 (by kernel_rfl) (by kernel_rfl)) (L.val 18 65 (by kernel_rfl) (by kernel_rfl))
        · intro vs w7 hk7 hlen7 hv
          match vs, hlen7 with
          | [u0, u1, u2, u3, u4, u5, u6, u7, u8, u9, u10, u11, u12, u13, u14, u15, u16, u17, u18, u19], _ =>
          have hx19 : u19 = .bool false := hv 19 66 (by kernel_rfl)
          subst hx19
          have HVE := Lib.hid (HVD.out.keep hk7 trivial)
          have HKE := Lib.hid (HKD.out.trans hk7)
          have HT1 := Lib.hid (S.tk HT.out HKE.out)
          have HRE := Lib.hid (HRA.out _ HKE.out)
          have HEF := Lib.hid (show eqB f (ofF a ka) = true from by rw [HF.out]; exact eqB_refl f)
          clear hv hk7
          simp only [putAll, List.map, Act.put, List.setIfInBounds_toArray, List.set_cons_succ, List.set_cons_zero, Exit.then]
          go_upto_region 11 with fail
          refine wp_region_guard (R := Kp) (V := Vk [.v (vagg f), .v (.slice A a.length ca), .v (vagg (ofF a ka)), .v (.bool true), .v (.bool true)]) (w0 := w7) (Gl []) (by kernel_rfl) (fun w => Keeps.refl _ w) (fun _ _ _ h k => h.trans k) (Vk_keep _) (by kernel_rfl) (Gl_is (by intro p hp; cases hp)) (fun i o ho hw => (all_wanted (by kernel_rfl) ho hw).elim) ((Keeps.refl _ w7).drew) (each_of ?_) ?_
          · refine ⟨?_, ?_, ?_, ?_, ?_, trivial⟩ <;> intro hw a1 w3 L
            · exact kp_ldV (HVE.out.keep L.rel trivial) rfl (L.old 10 (by kernel_rfl))
            · exact kp_move rfl (L.old 0 (by kernel_rfl))
            · exact kp_of (HRE.out.keep L.rel) rfl HLA.out HCA.out HKA5.out rfl (L.val 1 68 (by kernel_rfl) (by kernel_rfl))
            · exact kp_same S (S.tk HT1.out L.rel) HOF.out HEF.out rfl (L.val 0 67 (by kernel_rfl) (by kernel_rfl)) (L.val 2 69 (by kernel_rfl) (by kernel_rfl))
            · exact kp_assign rfl (L.val 3 70 (by kernel_rfl) (by kernel_rfl))
          · intro vs2 w8 hk8 hlen8 hv2
            match vs2, hlen8 with
            | [v0, v1, v2, v3, v4], _ =>
              have hx4 : v4 = .bool true := hv2 4 8 (by kernel_rfl)
              subst hx4
              have HKF := Lib.hid (HKE.out.trans hk8)
              clear hv2 hk8
              simp only [putAll, List.map, Act.put, List.setIfInBounds_toArray, List.set_cons_succ, List.set_cons_zero, Exit.then]
              go_wp2_with fail
              go_ret
              exact ⟨rfl, HKF.out.below⟩
    · have HGV := Lib.hid (show getF s z = max 0 n from by rw [← HS.out]; exact get_set HBI.out)
      rw [HGV.out] at G1
      go_wp2_with fail
      refine (show Calls _ _ _ _ _ from G1.out wc HKB.out).mono ?_
      rintro e wd ⟨rfl, hkd⟩
      have HWD := Lib.hid (HW.out.keep hkd trivial)
      have HVD := Lib.hid (HV.out.keep hkd trivial)
      have HKD := Lib.hid (HKB.out.trans hkd)
      have HT0 := Lib.hid (S.tk HT.out HKD.out)
      clear hkd a0 a1 a2 a3 a4 a5 b0 b1 b2 b3 b4 b5 HW HV HKB
      go_upto_region 9 with fail
      rcases hcy with y1 | ⟨y1, y2⟩ | ⟨y1, y2, y3⟩ | ⟨y1, y2, y3⟩
      · have hy := y1
        refine wp_region_guard (R := Kp) (V := Vk [.v (.int .i64 y), .v (.bool false), .v (.bool false), .v undef, .v undef, .v (.bool false), .v (.bool false), .v undef, .v undef, .v undef, .v (.bool false), .v (.bool false), .v undef, .v undef, .v undef, .v undef, .v undef, .v undef, .v undef, .v (.bool false)]) (w0 := wd) (Gl [(2, false), (6, false), (11, false)]) (by kernel_rfl) (fun w => Keeps.refl _ w) (fun _ _ _ h k => h.trans k) (Vk_keep _) (by kernel_rfl) (Gl_is (by intro p hp; simp only [List.mem_cons, List.not_mem_nil, or_false] at hp; rcases hp with rfl | rfl | rfl <;> rfl)) (unwanted_of [3, 4, 7, 8, 9, 12, 13, 14, 15, 16, 17, 18] (by kernel_rfl) (by intro i hi; simp only [List.mem_cons, List.not_mem_nil, or_false] at hi; rcases hi with rfl | rfl | rfl | rfl | rfl | rfl | rfl | rfl | rfl | rfl | rfl | rfl <;> rfl)) ((Keeps.refl _ wd).drew) (each_of ?_) ?_
        · refine ⟨?_, ?_, ?_, ?_, ?_, ?_, ?_, ?_, ?_, ?_, ?_, ?_, ?_, ?_, ?_, ?_, ?_, ?_, ?_, ?_, trivial⟩ <;> intro hw a1 w3 L
          · exact kp_move rfl (L.old 3 (by kernel_rfl))
          · exact kp_geqZ y1 rfl (L.val 0 47 (by kernel_rfl) (by kernel_rfl)) rfl
          · exact kp_move rfl (L.val 1 48 (by kernel_rfl) (by kernel_rfl))
          · cases hw
          · cases hw
          · exact kp_pick rfl (L.val 2 49 (by kernel_rfl) (by kernel_rfl)) rfl
          · exact kp_move rfl (L.val 5 52 (by kernel_rfl) (by kernel_rfl))
          · cases hw
          · cases hw
          · cases hw
          · exact kp_pick rfl (L.val 6 53 (by kernel_rfl) (by kernel_rfl)) rfl
          · exact kp_move rfl (L.val 10 57 (by kernel_rfl) (by kernel_rfl))
          · cases hw
          · cases hw
          · cases hw
          · cases hw
          · cases hw
          · cases hw
          · cases hw
          · exact kp_pick rfl (L.val 11 58 (by kernel_rfl) (by kernel_rfl)) rfl
        · intro vs w7 hk7 hlen7 hv
          match vs, hlen7 with
          | [u0, u1, u2, u3, u4, u5, u6, u7, u8, u9, u10, u11, u12, u13, u14, u15, u16, u17, u18, u19], _ =>
          have hx19 : u19 = .bool false := hv 19 66 (by kernel_rfl)
          subst hx19
          have HVE := Lib.hid (HVD.out.keep hk7 trivial)
          have HKE := Lib.hid (HKD.out.trans hk7)
          have HT1 := Lib.hid (S.tk HT.out HKE.out)
          have HRE := Lib.hid (HRA.out _ HKE.out)
          have HEF := Lib.hid (show eqB f (ofF a ka) = true from by rw [HF.out]; exact eqB_refl f)
          clear hv hk7
          simp only [putAll, List.map, Act.put, List.setIfInBounds_toArray, List.set_cons_succ, List.set_cons_zero, Exit.then]
          go_upto_region 11 with fail
          refine wp_region_guard (R := Kp) (V := Vk [.v (vagg f), .v (.slice A a.length ca), .v (vagg (ofF a ka)), .v (.bool true), .v (.bool true)]) (w0 := w7) (Gl []) (by kernel_rfl) (fun w => Keeps.refl _ w) (fun _ _ _ h k => h.trans k) (Vk_keep _) (by kernel_rfl) (Gl_is (by intro p hp; cases hp)) (fun i o ho hw => (all_wanted (by kernel_rfl) ho hw).elim) ((Keeps.refl _ w7).drew) (each_of ?_) ?_
          · refine ⟨?_, ?_, ?_, ?_, ?_, trivial⟩ <;> intro hw a1 w3 L
            · exact kp_ldV (HVE.out.keep L.rel trivial) rfl (L.old 10 (by kernel_rfl))
            · exact kp_move rfl (L.old 0 (by kernel_rfl))
            · exact kp_of (HRE.out.keep L.rel) rfl HLA.out HCA.out HKA5.out rfl (L.val 1 68 (by kernel_rfl) (by kernel_rfl))
            · exact kp_same S (S.tk HT1.out L.rel) HOF.out HEF.out rfl (L.val 0 67 (by kernel_rfl) (by kernel_rfl)) (L.val 2 69 (by kernel_rfl) (by kernel_rfl))
            · exact kp_assign rfl (L.val 3 70 (by kernel_rfl) (by kernel_rfl))
          · intro vs2 w8 hk8 hlen8 hv2
            match vs2, hlen8 with
            | [v0, v1, v2, v3, v4], _ =>
              have hx4 : v4 = .bool true := hv2 4 8 (by kernel_rfl)
              subst hx4
              have HKF := Lib.hid (HKE.out.trans hk8)
              clear hv2 hk8
              simp only [putAll, List.map, Act.put, List.setIfInBounds_toArray, List.set_cons_succ, List.set_cons_zero, Exit.then]
              go_wp2_with fail
              go_ret
              exact ⟨rfl, HKF.out.below⟩
      · have hy := y1
        refine wp_region_guard (R := Kp) (V := Vk [.v (.int .i64 y), .v (.bool true), .v (.bool true), .v (.int .i64 y), .v (.bool false), .v (.bool false), .v (.bool false), .v undef, .v undef, .v undef, .v (.bool false), .v (.bool false), .v undef, .v undef, .v undef, .v undef, .v undef, .v undef, .v undef, .v (.bool false)]) (w0 := wd) (Gl [(2, true), (6, false), (11, false)]) (by kernel_rfl) (fun w => Keeps.refl _ w) (fun _ _ _ h k => h.trans k) (Vk_keep _) (by kernel_rfl) (Gl_is (by intro p hp; simp only [List.mem_cons, List.not_mem_nil, or_false] at hp; rcases hp with rfl | rfl | rfl <;> rfl)) (unwanted_of [7, 8, 9, 12, 13, 14, 15, 16, 17, 18] (by kernel_rfl) (by intro i hi; simp only [List.mem_cons, List.not_mem_nil, or_false] at hi; rcases hi with rfl | rfl | rfl | rfl | rfl | rfl | rfl | rfl | rfl | rfl <;> rfl)) ((Keeps.refl _ wd).drew) (each_of ?_) ?_
        · refine ⟨?_, ?_, ?_, ?_, ?_, ?_, ?_, ?_, ?_, ?_, ?_, ?_, ?_, ?_, ?_, ?_, ?_, ?_, ?_, ?_, trivial⟩ <;> intro hw a1 w3 L
          · exact kp_move rfl (L.old 3 (by kernel_rfl))
          · exact kp_geqZ y1 rfl (L.val 0 47 (by kernel_rfl) (by kernel_rfl)) rfl
          · exact kp_move rfl (L.val 1 48 (by kernel_rfl) (by kernel_rfl))
          · exact kp_move rfl (L.old 3 (by kernel_rfl))
          · exact kp_leqZ y2 rfl (L.val 3 50 (by kernel_rfl) (by kernel_rfl)) rfl
          · exact kp_pick rfl (L.val 2 49 (by kernel_rfl) (by kernel_rfl)) (L.val 4 51 (by kernel_rfl) (by kernel_rfl))
          · exact kp_move rfl (L.val 5 52 (by kernel_rfl) (by kernel_rfl))
          · cases hw
          · cases hw
          · cases hw
          · exact kp_pick rfl (L.val 6 53 (by kernel_rfl) (by kernel_rfl)) rfl
          · exact kp_move rfl (L.val 10 57 (by kernel_rfl) (by kernel_rfl))
          · cases hw
          · cases hw
          · cases hw
          · cases hw
          · cases hw
          · cases hw
          · cases hw
          · exact kp_pick rfl (L.val 11 58 (by kernel_rfl) (by kernel_rfl)) rfl
        · intro vs w7 hk7 hlen7 hv
          match vs, hlen7 with
          | [u0, u1, u2, u3, u4, u5, u6, u7, u8, u9, u10, u11, u12, u13, u14, u15, u16, u17, u18, u19], _ =>
          have hx19 : u19 = .bool false := hv 19 66 (by kernel_rfl)
          subst hx19
          have HVE := Lib.hid (HVD.out.keep hk7 trivial)
          have HKE := Lib.hid (HKD.out.trans hk7)
          have HT1 := Lib.hid (S.tk HT.out HKE.out)
          have HRE := Lib.hid (HRA.out _ HKE.out)
          have HEF := Lib.hid (show eqB f (ofF a ka) = true from by rw [HF.out]; exact eqB_refl f)
          clear hv hk7
          simp only [putAll, List.map, Act.put, List.setIfInBounds_toArray, List.set_cons_succ, List.set_cons_zero, Exit.then]
          go_upto_region 11 with fail
          refine wp_region_guard (R := Kp) (V := Vk [.v (vagg f), .v (.slice A a.length ca), .v (vagg (ofF a ka)), .v (.bool true), .v (.bool true)]) (w0 := w7) (Gl []) (by kernel_rfl) (fun w => Keeps.refl _ w) (fun _ _ _ h k => h.trans k) (Vk_keep _) (by kernel_rfl) (Gl_is (by intro p hp; cases hp)) (fun i o ho hw => (all_wanted (by kernel_rfl) ho hw).elim) ((Keeps.refl _ w7).drew) (each_of ?_) ?_
          · refine ⟨?_, ?_, ?_, ?_, ?_, trivial⟩ <;> intro hw a1 w3 L
            · exact kp_ldV (HVE.out.keep L.rel trivial) rfl (L.old 10 (by kernel_rfl))
            · exact kp_move rfl (L.old 0 (by kernel_rfl))
            · exact kp_of (HRE.out.keep L.rel) rfl HLA.out HCA.out HKA5.out rfl (L.val 1 68 (by kernel_rfl) (by kernel_rfl))
            · exact kp_same S (S.tk HT1.out L.rel) HOF.out HEF.out rfl (L.val 0 67 (by kernel_rfl) (by kernel_rfl)) (L.val 2 69 (by kernel_rfl) (by kernel_rfl))
            · exact kp_assign rfl (L.val 3 70 (by kernel_rfl) (by kernel_rfl))
          · intro vs2 w8 hk8 hlen8 hv2
            match vs2, hlen8 with
            | [v0, v1, v2, v3, v4], _ =>
              have hx4 : v4 = .bool true := hv2 4 8 (by kernel_rfl)
              subst hx4
              have HKF := Lib.hid (HKE.out.trans hk8)
              clear hv2 hk8
              simp only [putAll, List.map, Act.put, List.setIfInBounds_toArray, List.set_cons_succ, List.set_cons_zero, Exit.then]
              go_wp2_with fail
              go_ret
              exact ⟨rfl, HKF.out.below⟩
      · have hy := y1
        refine wp_region_guard (R := Kp) (V := Vk [.v (.int .i64 y), .v (.bool true), .v (.bool true), .v (.int .i64 y), .v (.bool true), .v (.bool true), .v (.bool true), .v (.int .i64 y), .v (.int .i64 z), .v (.bool false), .v (.bool false), .v (.bool false), .v undef, .v undef, .v undef, .v undef, .v undef, .v undef, .v undef, .v (.bool false)]) (w0 := wd) (Gl [(2, true), (6, true), (11, false)]) (by kernel_rfl) (fun w => Keeps.refl _ w) (fun _ _ _ h k => h.trans k) (Vk_keep _) (by kernel_rfl) (Gl_is (by intro p hp; simp only [List.mem_cons, List.not_mem_nil, or_false] at hp; rcases hp with rfl | rfl | rfl <;> rfl)) (unwanted_of [12, 13, 14, 15, 16, 17, 18] (by kernel_rfl) (by intro i hi; simp only [List.mem_cons, List.not_mem_nil, or_false] at hi; rcases hi with rfl | rfl | rfl | rfl | rfl | rfl | rfl <;> rfl)) ((Keeps.refl _ wd).drew) (each_of ?_) ?_
        · refine ⟨?_, ?_, ?_, ?_, ?_, ?_, ?_, ?_, ?_, ?_, ?_, ?_, ?_, ?_, ?_, ?_, ?_, ?_, ?_, ?_, trivial⟩ <;> intro hw a1 w3 L
          · exact kp_move rfl (L.old 3 (by kernel_rfl))
          · exact kp_geqZ y1 rfl (L.val 0 47 (by kernel_rfl) (by kernel_rfl)) rfl
          · exact kp_move rfl (L.val 1 48 (by kernel_rfl) (by kernel_rfl))
          · exact kp_move rfl (L.old 3 (by kernel_rfl))
          · exact kp_leqZ y2 rfl (L.val 3 50 (by kernel_rfl) (by kernel_rfl)) rfl
          · exact kp_pick rfl (L.val 2 49 (by kernel_rfl) (by kernel_rfl)) (L.val 4 51 (by kernel_rfl) (by kernel_rfl))
          · exact kp_move rfl (L.val 5 52 (by kernel_rfl) (by kernel_rfl))
          · exact kp_move rfl (L.old 3 (by kernel_rfl))
          · exact kp_move rfl (L.old 1 (by kernel_rfl))
          · exact kp_neqZ y3 rfl (L.val 7 54 (by kernel_rfl) (by kernel_rfl)) (L.val 8 55 (by kernel_rfl) (by kernel_rfl))
          · exact kp_pick rfl (L.val 6 53 (by kernel_rfl) (by kernel_rfl)) (L.val 9 56 (by kernel_rfl) (by kernel_rfl))
          · exact kp_move rfl (L.val 10 57 (by kernel_rfl) (by kernel_rfl))
          · cases hw
          · cases hw
          · cases hw
          · cases hw
          · cases hw
          · cases hw
          · cases hw
          · exact kp_pick rfl (L.val 11 58 (by kernel_rfl) (by kernel_rfl)) rfl
        · intro vs w7 hk7 hlen7 hv
          match vs, hlen7 with
          | [u0, u1, u2, u3, u4, u5, u6, u7, u8, u9, u10, u11, u12, u13, u14, u15, u16, u17, u18, u19], _ =>
          have hx19 : u19 = .bool false := hv 19 66 (by kernel_rfl)
          subst hx19
          have HVE := Lib.hid (HVD.out.keep hk7 trivial)
          have HKE := Lib.hid (HKD.out.trans hk7)
          have HT1 := Lib.hid (S.tk HT.out HKE.out)
          have HRE := Lib.hid (HRA.out _ HKE.out)
          have HEF := Lib.hid (show eqB f (ofF a ka) = true from by rw [HF.out]; exact eqB_refl f)
          clear hv hk7
          simp only [putAll, List.map, Act.put, List.setIfInBounds_toArray, List.set_cons_succ, List.set_cons_zero, Exit.then]
          go_upto_region 11 with fail
          refine wp_region_guard (R := Kp) (V := Vk [.v (vagg f), .v (.slice A a.length ca), .v (vagg (ofF a ka)), .v (.bool true), .v (.bool true)]) (w0 := w7) (Gl []) (by kernel_rfl) (fun w => Keeps.refl _ w) (fun _ _ _ h k => h.trans k) (Vk_keep _) (by kernel_rfl) (Gl_is (by intro p hp; cases hp)) (fun i o ho hw => (all_wanted (by kernel_rfl) ho hw).elim) ((Keeps.refl _ w7).drew) (each_of ?_) ?_
          · refine ⟨?_, ?_, ?_, ?_, ?_, trivial⟩ <;> intro hw a1 w3 L
            · exact kp_ldV (HVE.out.keep L.rel trivial) rfl (L.old 10 (by kernel_rfl))
            · exact kp_move rfl (L.old 0 (by kernel_rfl))
            · exact kp_of (HRE.out.keep L.rel) rfl HLA.out HCA.out HKA5.out rfl (L.val 1 68 (by kernel_rfl) (by kernel_rfl))
            · exact kp_same S (S.tk HT1.out L.rel) HOF.out HEF.out rfl (L.val 0 67 (by kernel_rfl) (by kernel_rfl)) (L.val 2 69 (by kernel_rfl) (by kernel_rfl))
            · exact kp_assign rfl (L.val 3 70 (by kernel_rfl) (by kernel_rfl))
          · intro vs2 w8 hk8 hlen8 hv2
            match vs2, hlen8 with
            | [v0, v1, v2, v3, v4], _ =>
              have hx4 : v4 = .bool true := hv2 4 8 (by kernel_rfl)
              subst hx4
              have HKF := Lib.hid (HKE.out.trans hk8)
              clear hv2 hk8
              simp only [putAll, List.map, Act.put, List.setIfInBounds_toArray, List.set_cons_succ, List.set_cons_zero, Exit.then]
              go_wp2_with fail
              go_ret
              exact ⟨rfl, HKF.out.below⟩
      · have hy := y1
        have HGS := Lib.hid (show getF s y = getF f y from by
          rw [← HS.out]
          exact get_other (by unfold isNode; rw [y1, y2]; rfl) (by simpa using y3))
        refine wp_region_guard (R := Kp) (V := Vk [.v (.int .i64 y), .v (.bool true), .v (.bool true), .v (.int .i64 y), .v (.bool true), .v (.bool true), .v (.bool true), .v (.int .i64 y), .v (.int .i64 z), .v (.bool true), .v (.bool true), .v (.bool true), .v (vagg s), .v (.int .i64 y), .v (.int .i64 (getF s y)), .v (vagg f), .v (.int .i64 y), .v (.int .i64 (getF f y)), .v (.bool false), .v (.bool false)]) (w0 := wd) (Gl [(2, true), (6, true), (11, true)]) (by kernel_rfl) (fun w => Keeps.refl _ w) (fun _ _ _ h k => h.trans k) (Vk_keep _) (by kernel_rfl) (Gl_is (by intro p hp; simp only [List.mem_cons, List.not_mem_nil, or_false] at hp; rcases hp with rfl | rfl | rfl <;> rfl)) (fun i o ho hw => (all_wanted (by kernel_rfl) ho hw).elim) ((Keeps.refl _ wd).drew) (each_of ?_) ?_
        · refine ⟨?_, ?_, ?_, ?_, ?_, ?_, ?_, ?_, ?_, ?_, ?_, ?_, ?_, ?_, ?_, ?_, ?_, ?_, ?_, ?_, trivial⟩ <;> intro hw a1 w3 L
          · exact kp_move rfl (L.old 3 (by kernel_rfl))
          · exact kp_geqZ y1 rfl (L.val 0 47 (by kernel_rfl) (by kernel_rfl)) rfl
          · exact kp_move rfl (L.val 1 48 (by kernel_rfl) (by kernel_rfl))
          · exact kp_move rfl (L.old 3 (by kernel_rfl))
          · exact kp_leqZ y2 rfl (L.val 3 50 (by kernel_rfl) (by kernel_rfl)) rfl
          · exact kp_pick rfl (L.val 2 49 (by kernel_rfl) (by kernel_rfl)) (L.val 4 51 (by kernel_rfl) (by kernel_rfl))
          · exact kp_move rfl (L.val 5 52 (by kernel_rfl) (by kernel_rfl))
          · exact kp_move rfl (L.old 3 (by kernel_rfl))
          · exact kp_move rfl (L.old 1 (by kernel_rfl))
          · exact kp_neqZ y3 rfl (L.val 7 54 (by kernel_rfl) (by kernel_rfl)) (L.val 8 55 (by kernel_rfl) (by kernel_rfl))
          · exact kp_pick rfl (L.val 6 53 (by kernel_rfl) (by kernel_rfl)) (L.val 9 56 (by kernel_rfl) (by kernel_rfl))
          · exact kp_move rfl (L.val 10 57 (by kernel_rfl) (by kernel_rfl))
          · exact kp_ldV (HWD.out.keep L.rel trivial) rfl (L.old 11 (by kernel_rfl))
          · exact kp_move rfl (L.old 3 (by kernel_rfl))
          · exact kp_get S (S.tk HT0.out L.rel) HOS.out rfl rfl (L.val 12 59 (by kernel_rfl) (by kernel_rfl)) (L.val 13 60 (by kernel_rfl) (by kernel_rfl))
          · exact kp_ldV (HVD.out.keep L.rel trivial) rfl (L.old 10 (by kernel_rfl))
          · exact kp_move rfl (L.old 3 (by kernel_rfl))
          · exact kp_get S (S.tk HT0.out L.rel) HOF.out rfl rfl (L.val 15 62 (by kernel_rfl) (by kernel_rfl)) (L.val 16 63 (by kernel_rfl) (by kernel_rfl))
          · exact kp_neN (by simp [HGS.out]) rfl (L.val 14 61 (by kernel_rfl) (by kernel_rfl)) (L.val 17 64 (by kernel_rfl) (by kernel_rfl))
          · exact kp_pick rfl (L.val 11 58 (by kernel_rfl) (by kernel_rfl)) (L.val 18 65 (by kernel_rfl) (by kernel_rfl))
        · intro vs w7 hk7 hlen7 hv
          match vs, hlen7 with
          | [u0, u1, u2, u3, u4, u5, u6, u7, u8, u9, u10, u11, u12, u13, u14, u15, u16, u17, u18, u19], _ =>
          have hx19 : u19 = .bool false := hv 19 66 (by kernel_rfl)
          subst hx19
          have HVE := Lib.hid (HVD.out.keep hk7 trivial)
          have HKE := Lib.hid (HKD.out.trans hk7)
          have HT1 := Lib.hid (S.tk HT.out HKE.out)
          have HRE := Lib.hid (HRA.out _ HKE.out)
          have HEF := Lib.hid (show eqB f (ofF a ka) = true from by rw [HF.out]; exact eqB_refl f)
          clear hv hk7
          simp only [putAll, List.map, Act.put, List.setIfInBounds_toArray, List.set_cons_succ, List.set_cons_zero, Exit.then]
          go_upto_region 11 with fail
          refine wp_region_guard (R := Kp) (V := Vk [.v (vagg f), .v (.slice A a.length ca), .v (vagg (ofF a ka)), .v (.bool true), .v (.bool true)]) (w0 := w7) (Gl []) (by kernel_rfl) (fun w => Keeps.refl _ w) (fun _ _ _ h k => h.trans k) (Vk_keep _) (by kernel_rfl) (Gl_is (by intro p hp; cases hp)) (fun i o ho hw => (all_wanted (by kernel_rfl) ho hw).elim) ((Keeps.refl _ w7).drew) (each_of ?_) ?_
          · refine ⟨?_, ?_, ?_, ?_, ?_, trivial⟩ <;> intro hw a1 w3 L
            · exact kp_ldV (HVE.out.keep L.rel trivial) rfl (L.old 10 (by kernel_rfl))
            · exact kp_move rfl (L.old 0 (by kernel_rfl))
            · exact kp_of (HRE.out.keep L.rel) rfl HLA.out HCA.out HKA5.out rfl (L.val 1 68 (by kernel_rfl) (by kernel_rfl))
            · exact kp_same S (S.tk HT1.out L.rel) HOF.out HEF.out rfl (L.val 0 67 (by kernel_rfl) (by kernel_rfl)) (L.val 2 69 (by kernel_rfl) (by kernel_rfl))
            · exact kp_assign rfl (L.val 3 70 (by kernel_rfl) (by kernel_rfl))
          · intro vs2 w8 hk8 hlen8 hv2
            match vs2, hlen8 with
            | [v0, v1, v2, v3, v4], _ =>
              have hx4 : v4 = .bool true := hv2 4 8 (by kernel_rfl)
              subst hx4
              have HKF := Lib.hid (HKE.out.trans hk8)
              clear hv2 hk8
              simp only [putAll, List.map, Act.put, List.setIfInBounds_toArray, List.set_cons_succ, List.set_cons_zero, Exit.then]
              go_wp2_with fail
              go_ret
              exact ⟨rfl, HKF.out.below⟩

end Go.Proofs.Ytdgpdooikfamlaa.vectorSet
