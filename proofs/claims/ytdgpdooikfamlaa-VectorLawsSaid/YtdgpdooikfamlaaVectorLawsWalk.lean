/-
  VectorLaws, walked: the greater one has both, both have the lesser one; which has which is an order.
-/
import Derived.Test.YtdgpdooikfamlaaVcLocs
namespace Go.Proofs.Ytdgpdooikfamlaa.vectorLaws
open Go Go.RowKit Go.Joins Go.Proofs.Ytdgpdooikfamlaa

theorem one_ok {g : Nat → Int} (h : VOk g) : ∀ x ∈ [g], VOk x := fun x hx => by rw [List.mem_singleton.1 hx]; exact h
theorem both_is {f g : Nat → Int} : (hasB f g && hasB g f) = eqB f g := by
  rw [Bool.eq_iff_iff, Bool.and_eq_true, hasB_iff, hasB_iff, eqB_iff]
  exact ⟨fun h i hi => by have := h.1 i hi; have := h.2 i hi; omega, fun h => ⟨fun i hi => by rw [h i hi]; exact Int.le_refl _, fun i hi => by rw [h i hi]; exact Int.le_refl _⟩⟩
theorem max1_at (f g : Nat → Int) (i : Nat) : maxF f [g] i = max (f i) (g i) := rfl
theorem min1_at (f g : Nat → Int) (i : Nat) : minF f [g] i = min (f i) (g i) := rfl
set_option maxRecDepth 100000 in
set_option maxHeartbeats 4000000 in
theorem walk (S : VectorOK) (w : World) (hT : S.T w) (A : Option Addr) (ca : Nat) (a : List Int) (hla : a.length ≤ ca) (hca : ca ≤ maxLen) (hra : Row w A (fun b => b < w.heap.size) (a.map (Value.int .i64))) (hwa : ∀ x ∈ a, x < 9223372036854775808)
    (B : Option Addr) (cb : Nat) (b : List Int) (hlb : b.length ≤ cb) (hcb : cb ≤ maxLen) (hrb : Row w B (fun b => b < w.heap.size) (b.map (Value.int .i64))) (hwb : ∀ x ∈ b, x < 9223372036854775808) :
    Calls Try.prog 5 #[.slice A a.length ca, .slice B b.length cb] w fun e w' => e = .returned (.bool true) ∧ Below w.heap.size w w' := by
  have HT := Lib.hid hT
  have HRA := Lib.hid (show ∀ w', Kp w w' → Row w' A (fun _ => True) (a.map (Value.int .i64)) from fun w' hk => (hra.mono fun _ _ _ => trivial).keep hk)
  have HRB0 := Lib.hid (show ∀ w', Kp w w' → Row w' B (fun _ => True) (b.map (Value.int .i64)) from fun w' hk => (hrb.mono fun _ _ _ => trivial).keep hk)
  have HLA := Lib.hid hla
  have HLB := Lib.hid hlb
  have HCA := Lib.hid hca
  have HCB := Lib.hid hcb
  obtain ⟨f, hf⟩ : ∃ f, ofF a (min a.length 5) = f := ⟨_, rfl⟩
  obtain ⟨kb, hkb⟩ : ∃ kb, min b.length 5 = kb := ⟨_, rfl⟩
  obtain ⟨g, hg⟩ : ∃ g, ofF b kb = g := ⟨_, rfl⟩
  have HOF := Lib.hid (show VOk f from by rw [← hf]; exact VOk.of hwa _)
  have HOG := Lib.hid (show VOk g from by rw [← hg]; exact VOk.of hwb _)
  have HKB := Lib.hid hkb
  have HG := Lib.hid hg
  have HA := Lib.hid (show ∀ w', Kp w w' → Calls Try.prog 10 #[.slice A a.length ca] w' fun e w2 => e = .returned (vagg f) ∧ Kp w' w2 from fun w' hk => by
    rw [← hf]; exact S.of w' A ca a (S.tk HT.out hk) (HRA.out w' hk) HLA.out HCA.out)
  have HB := Lib.hid (show ∀ w', Kp w w' → Calls Try.prog 10 #[.slice B b.length cb] w' fun e w2 => e = .returned (vagg g) ∧ Kp w' w2 from fun w' hk => by
    rw [← hg, ← hkb]; exact S.of w' B cb b (S.tk HT.out hk) (HRB0.out w' hk) HLB.out HCB.out)
  unfold vagg vcells at HA HB
  clear hT hla hca hra hwa hlb hcb hrb hwb hf hkb hg HRA HLA HCA
  go_enter Try.func5, Try.ntmps5
  go_wp2_with fail
  refine (show Calls _ _ _ _ _ from begun11 S w HT.out).mono ?_
  rintro e w1 ⟨rfl, hk⟩
  have HK1 := Lib.hid hk
  clear hk
  go_wp2_with fail
  refine (show Calls _ _ _ _ _ from HA.out w1 HK1.out).mono ?_
  rintro e w2 ⟨rfl, hk⟩
  have HK2 := Lib.hid (HK1.out.trans hk)
  clear hk HK1 HA
  go_wp2_with fail
  refine (show Calls _ _ _ _ _ from HB.out w2 HK2.out).mono ?_
  rintro e w3 ⟨rfl, hk⟩
  have HK3 := Lib.hid (HK2.out.trans hk)
  clear hk HK2 HB
  obtain ⟨pv, hpv⟩ : ∃ pv, w3.heap.size = pv := ⟨_, rfl⟩
  have HN := Lib.hid (show ∀ wa, wa = ((w3.alloc (.cells (vcells f) 26)).alloc (.cells (vcells g) 26)) → VBlk wa pv 26 f ∧ VBlk wa (pv + 1) 26 g ∧ Kp w wa ∧ wa.heap.size = pv + 2 from by
    rintro wa rfl
    exact ⟨(VBlk.new w3 _ f pv hpv.symm).keep (G := fun _ => True) ((Keeps.refl _ _).alloc _) trivial, VBlk.new _ _ g (pv + 1) (by simp [hpv]), (HK3.out.alloc _).alloc _, by simp [hpv]⟩)
  unfold vcells at HN
  go_wp2_with fail
  obtain ⟨h1, h2, h3, h4⟩ := HN.out _ rfl
  try rw [hpv]
  generalize (w3.alloc (.cells #[.int .i64 (f 0), .int .i64 (f 1), .int .i64 (f 2), .int .i64 (f 3), .int .i64 (f 4), .int .i64 (f 5)] 26)).alloc (.cells #[.int .i64 (g 0), .int .i64 (g 1), .int .i64 (g 2), .int .i64 (g 3), .int .i64 (g 4), .int .i64 (g 5)] 26) = wa at h1 h2 h3 h4 ⊢
  have HV := Lib.hid h1
  have HW := Lib.hid h2
  have HKA := Lib.hid h3
  obtain ⟨n0, hn0⟩ : ∃ n0, wa.heap.size = n0 := ⟨_, rfl⟩
  have HN0 := Lib.hid (Nat.le_of_eq hn0.symm)
  have HNE := Lib.hid hn0
  have HPV := Lib.hid (show pv + 1 < n0 from by omega)
  have HT0 := Lib.hid (S.tk HT.out h3)
  clear h1 h2 h3 h4 hpv hn0 HN HK3
  refine wp_region_tailB (R := Kp) (V := Vk [.v (vagg f), .v (vagg g), .n [g], .v (vagg (maxF f [g])), .v (vagg f), .v (vagg g), .n [g], .v (vagg (minF f [g])), .b n0 26, .b n0 26, .any, .any]) (w0 := wa) (fun i => i == 8 || i == 9) 10 (Gl []) (by kernel_rfl) (by decide) (fun w => Keeps.refl _ w) (fun _ _ _ h k => h.trans k) (Vk_keep _) (by kernel_rfl) (Gl_is (by intro p hp; cases hp)) (fun i o ho hw => (all_wanted (by kernel_rfl) ho hw).elim) (by kernel_rfl) (by kernel_rfl) ((Keeps.refl _ wa).drew)
    (by intro j hj w v g hv e; simp only [Bool.or_eq_true, beq_iff_eq] at hj; rcases hj with rfl | rfl <;> exact Vk_low rfl w v g hv e) ?_ ?_
  · intro i o hi ho hw a1 w3 L
    have hi : i = 0 ∨ i = 1 ∨ i = 2 ∨ i = 3 ∨ i = 4 ∨ i = 5 ∨ i = 6 ∨ i = 7 ∨ i = 8 ∨ i = 9 := by omega
    rcases hi with rfl | rfl | rfl | rfl | rfl | rfl | rfl | rfl | rfl | rfl
    · cases ho; exact Oper.wp_mono (fun _ _ ⟨v, e, hk, hv⟩ => ⟨v, e, hk, hv, fun h => by cases h⟩) (kp_ldV (HV.out.keep L.rel trivial) rfl (L.old 6 (by kernel_rfl)))
    · cases ho; exact Oper.wp_mono (fun _ _ ⟨v, e, hk, hv⟩ => ⟨v, e, hk, hv, fun h => by cases h⟩) (kp_ldV (HW.out.keep L.rel trivial) rfl (L.old 7 (by kernel_rfl)))
    · cases ho; exact Oper.wp_mono (fun _ _ ⟨v, e, hk, hv⟩ => ⟨v, e, hk, hv, fun h => by cases h⟩) (kp_vs1 rfl (L.val 1 19 (by kernel_rfl) (by kernel_rfl)))
    · cases ho; exact Oper.wp_mono (fun _ _ ⟨v, e, hk, hv⟩ => ⟨v, e, hk, hv, fun h => by cases h⟩) (kp_max S (S.tk HT0.out L.rel) HOF.out (one_ok HOG.out) (by simp) rfl (L.val 0 18 (by kernel_rfl) (by kernel_rfl)) (L.val 2 20 (by kernel_rfl) (by kernel_rfl)))
    · cases ho; exact Oper.wp_mono (fun _ _ ⟨v, e, hk, hv⟩ => ⟨v, e, hk, hv, fun h => by cases h⟩) (kp_ldV (HV.out.keep L.rel trivial) rfl (L.old 6 (by kernel_rfl)))
    · cases ho; exact Oper.wp_mono (fun _ _ ⟨v, e, hk, hv⟩ => ⟨v, e, hk, hv, fun h => by cases h⟩) (kp_ldV (HW.out.keep L.rel trivial) rfl (L.old 7 (by kernel_rfl)))
    · cases ho; exact Oper.wp_mono (fun _ _ ⟨v, e, hk, hv⟩ => ⟨v, e, hk, hv, fun h => by cases h⟩) (kp_vs1 rfl (L.val 5 23 (by kernel_rfl) (by kernel_rfl)))
    · cases ho; exact Oper.wp_mono (fun _ _ ⟨v, e, hk, hv⟩ => ⟨v, e, hk, hv, fun h => by cases h⟩) (kp_min S (S.tk HT0.out L.rel) HOF.out (one_ok HOG.out) (by simp) rfl (L.val 4 22 (by kernel_rfl) (by kernel_rfl)) (L.val 6 24 (by kernel_rfl) (by kernel_rfl)))
    · cases ho; exact Oper.wp_mono (fun _ _ ⟨v, e, hk, hv, hf⟩ => ⟨v, e, hk, hv, fun _ => hf⟩) (kp_newV (n0 := n0) (Nat.le_trans HN0.out L.rel.size) rfl)
    · cases ho; exact Oper.wp_mono (fun _ _ ⟨v, e, hk, hv, hf⟩ => ⟨v, e, hk, hv, fun _ => hf⟩) (kp_newV (n0 := n0) (Nat.le_trans HN0.out L.rel.size) rfl)
  · intro vs w7 hk7 hlen7 hne hv
    match vs, hlen7 with
    | [u0, u1, u2, u3, u4, u5, u6, u7, u8, u9], _ =>
      have h3 : u3 = vagg (maxF f [g]) := hv 3 21 (by decide) (by kernel_rfl)
      have h7 : u7 = vagg (minF f [g]) := hv 7 25 (by decide) (by kernel_rfl)
      obtain ⟨q8, e8, hb8, hn8⟩ := (show VNil n0 26 w7 u8 from hv 8 8 (by decide) (by kernel_rfl))
      obtain ⟨q9, e9, hb9, hn9⟩ := (show VNil n0 26 w7 u9 from hv 9 9 (by decide) (by kernel_rfl))
      have hq : q8 ≠ q9 := hne 8 9 q8 q9 rfl rfl (by decide) (by decide) (by decide) (by kernel_rfl) (by kernel_rfl) e8 e9
      subst h3 h7 e8 e9
      have hx3 : maxF f [g] = maxF f [g] := rfl
      obtain ⟨x, hx⟩ : ∃ x, maxF f [g] = x := ⟨_, rfl⟩
      obtain ⟨y, hy⟩ : ∃ y, minF f [g] = y := ⟨_, rfl⟩
      rw [hx, hy] at hv
      rw [hx, hy]
      have HX1 := Lib.hid hx
      have HY1 := Lib.hid hy
      have HVW := Lib.hid (show VBlk w7 pv 26 f ∧ VBlk w7 (pv + 1) 26 g ∧ Kp w w7 from ⟨HV.out.keep hk7 trivial, HW.out.keep hk7 trivial, HKA.out.trans hk7⟩)
      clear hv hx hy hx3
      change wpList _ _ _ (_ :: _ :: []) _ _
      simp only [putAll, List.map, List.take, Act.put, List.setIfInBounds_toArray, List.set_cons_succ, List.set_cons_zero]
      refine list_st6 x rfl 26 _ _ rfl (by kernel_rfl) hb8 rfl rfl fun w8 hb8' hk8 => ?_
      have hb9' := hb9.keep hk8 (fun e => hq e.symm)
      refine list_st6 y rfl 26 _ _ rfl (by kernel_rfl) hb9' rfl rfl fun w9 hb9'' hk9 => ?_
      have hb8'' := hb8'.keep hk9 hq
      have h89 : Keeps (fun b => b ≠ q8 ∧ b ≠ q9) w7 w9 := (hk8.mono fun b _ h => h.1).trans (hk9.mono fun b _ h => h.2)
      have hpn := HPV.out
      have HV9 := Lib.hid (HVW.out.1.keep h89 ⟨by omega, by omega⟩)
      have HW9 := Lib.hid (HVW.out.2.1.keep h89 ⟨by omega, by omega⟩)
      have HX9 := Lib.hid hb8''
      have HY9 := Lib.hid hb9''
      have HK9 := Lib.hid (show Kp w w9 from by
        have h := HVW.out.2.2
        have hz := HKA.out.size
        have hn := HNE.out
        refine ⟨h89.os.trans h.os, h89.tape.trans h.tape, h89.output.trans h.output, Nat.le_trans h.size h89.size, fun b _ hb => (h89.block b ⟨?_, ?_⟩ (Nat.lt_of_lt_of_le hb h.size)).trans (h.block b trivial hb)⟩
        · omega
        · omega)
      clear hb8 hb9 hb8' hb9' hb8'' hb9'' hk8 hk9 h89 hpn HVW HV HW HKA hq hn8 hn9 hk7 hne
      simp only [Act.put]
      have HTY := Lib.hid (show VOk x ∧ VOk y from ⟨by rw [← HX1.out]; exact HOF.out.max1 HOG.out, by rw [← HY1.out]; exact HOF.out.min1 HOG.out⟩)
      have HOX := Lib.hid HTY.out.1
      have HOY := Lib.hid HTY.out.2
      have HT9 := Lib.hid (S.tk HT.out HK9.out)
      have HHS := Lib.hid (show ∀ (f g : Nat → Int) , VOk f → VOk g → ∀ w', Kp w9 w' → Calls Try.prog 15 #[vagg f, vagg g] w' fun e w2 => e = .returned (.bool (hasB f g)) ∧ Kp w' w2 from fun f g hf hg w' hk => S.has w' f g (S.tk HT9.out hk) hf hg)
      have S1 := Lib.hid (HHS.out f g HOF.out HOG.out)
      have S2 := Lib.hid (HHS.out g f HOG.out HOF.out)
      have HB6 := Lib.hid (both_is (f := f) (g := g))
      generalize hasB f g = bx at S1 HB6
      generalize hasB g f = by_ at S2 HB6
      obtain ⟨a0, a1, a2, a3, a4, a5⟩ := HV9.out.six (Keeps.refl _ _)
      obtain ⟨b0, b1, b2, b3, b4, b5⟩ := HW9.out.six (Keeps.refl _ _)
      unfold vagg vcells at S1 S2
      clear HHS HTY
      go_wp2_with fail
      refine (show Calls _ _ _ _ _ from S1.out w9 (Keeps.refl _ _)).mono ?_
      rintro e wb ⟨rfl, hkb⟩
      have HKB9 := Lib.hid hkb
      clear hkb a0 a1 a2 a3 a4 a5 b0 b1 b2 b3 b4 b5
      cases bx with
      | false =>
        go_wp2_with fail
        have HTB := Lib.hid (S.tk HT9.out HKB9.out)
        have HT0 := Lib.hid HTB.out
        have HV := Lib.hid (HV9.out.keep HKB9.out trivial)
        have HW := Lib.hid (HW9.out.keep HKB9.out trivial)
        have HX := Lib.hid (HX9.out.keep HKB9.out trivial)
        have HY := Lib.hid (HY9.out.keep HKB9.out trivial)
        have HKE := Lib.hid (HK9.out.trans HKB9.out)
        have HRB := Lib.hid (HRB0.out _ HKE.out)
        have HX6 := Lib.hid (show eqB f (ofF b kb) = false from by rw [HG.out]; rw [← HB6.out]; rfl)
        have HX_1 := Lib.hid (show hasB x f = true from by rw [← HX1.out]; exact hasB_iff.2 fun i _ => by rw [max1_at]; omega)
        have HX_2 := Lib.hid (show hasB x g = true from by rw [← HX1.out]; exact hasB_iff.2 fun i _ => by rw [max1_at]; omega)
        have HX_3 := Lib.hid (show hasB f y = true from by rw [← HY1.out]; exact hasB_iff.2 fun i _ => by rw [min1_at]; omega)
        have HX_4 := Lib.hid (show hasB g y = true from by rw [← HY1.out]; exact hasB_iff.2 fun i _ => by rw [min1_at]; omega)
        have HX_5 := Lib.hid (show hasB f f = true from hasB_iff.2 fun i _ => Int.le_refl _)
        have HX_7 := Lib.hid (show eqB x (maxF g [f]) = true from by rw [← HX1.out]; exact eqB_iff.2 fun i _ => by rw [max1_at, max1_at]; omega)
        have HX_8 := Lib.hid (show eqB y (minF g [f]) = true from by rw [← HY1.out]; exact eqB_iff.2 fun i _ => by rw [min1_at, min1_at]; omega)
        refine wp_region_guard (R := Kp) (V := Vk [.v (vagg x), .v (vagg f), .v (.bool true), .v (.bool true), .v (vagg x), .v (vagg g), .v (.bool true), .v (.bool true), .v (.bool true), .v (vagg f), .v (vagg y), .v (.bool true), .v (.bool true), .v (.bool true), .v (vagg g), .v (vagg y), .v (.bool true), .v (.bool true), .v (.bool true), .v (vagg f), .v (vagg f), .v (.bool true), .v (.bool true), .v (.bool true), .v (.bool false), .v (vagg f), .v (.slice B b.length cb), .v (vagg (ofF b kb)), .v (.bool false), .v (.bool true), .v (.bool true), .v (.bool true), .v (vagg x), .v (vagg g), .v (vagg f), .n [f], .v (vagg (maxF g [f])), .v (.bool true), .v (.bool true), .v (.bool true), .v (vagg y), .v (vagg g), .v (vagg f), .n [f], .v (vagg (minF g [f])), .v (.bool true), .v (.bool true), .v (.bool true)]) (w0 := wb) (Gl [(3, true), (8, true), (13, true), (18, true), (23, true), (31, true), (39, true)]) (by kernel_rfl) (fun w => Keeps.refl _ w) (fun _ _ _ h k => h.trans k) (Vk_keep _) (by kernel_rfl) (Gl_is (by intro p hp; simp only [List.mem_cons, List.not_mem_nil, or_false] at hp; rcases hp with rfl | rfl | rfl | rfl | rfl | rfl | rfl <;> rfl)) (fun i o ho hw => (all_wanted (by kernel_rfl) ho hw).elim) ((Keeps.refl _ wb).drew) (each_of ?_) ?_
        · refine ⟨?_, ?_, ?_, ?_, ?_, ?_, ?_, ?_, ?_, ?_, ?_, ?_, ?_, ?_, ?_, ?_, ?_, ?_, ?_, ?_, ?_, ?_, ?_, ?_, ?_, ?_, ?_, ?_, ?_, ?_, ?_, ?_, ?_, ?_, ?_, ?_, ?_, ?_, ?_, ?_, ?_, ?_, ?_, ?_, ?_, ?_, ?_, ?_, trivial⟩ <;> intro hw a1 w3 L
          · exact kp_ldV (HX.out.keep L.rel trivial) rfl (L.old 8 (by kernel_rfl))
          · exact kp_ldV (HV.out.keep L.rel trivial) rfl (L.old 6 (by kernel_rfl))
          · exact kp_has S (S.tk HT0.out L.rel) HOX.out HOF.out HX_1.out rfl (L.val 0 34 (by kernel_rfl) (by kernel_rfl)) (L.val 1 35 (by kernel_rfl) (by kernel_rfl))
          · exact kp_move rfl (L.val 2 36 (by kernel_rfl) (by kernel_rfl))
          · exact kp_ldV (HX.out.keep L.rel trivial) rfl (L.old 8 (by kernel_rfl))
          · exact kp_ldV (HW.out.keep L.rel trivial) rfl (L.old 7 (by kernel_rfl))
          · exact kp_has S (S.tk HT0.out L.rel) HOX.out HOG.out HX_2.out rfl (L.val 4 38 (by kernel_rfl) (by kernel_rfl)) (L.val 5 39 (by kernel_rfl) (by kernel_rfl))
          · exact kp_pick rfl (L.val 3 37 (by kernel_rfl) (by kernel_rfl)) (L.val 6 40 (by kernel_rfl) (by kernel_rfl))
          · exact kp_move rfl (L.val 7 41 (by kernel_rfl) (by kernel_rfl))
          · exact kp_ldV (HV.out.keep L.rel trivial) rfl (L.old 6 (by kernel_rfl))
          · exact kp_ldV (HY.out.keep L.rel trivial) rfl (L.old 9 (by kernel_rfl))
          · exact kp_has S (S.tk HT0.out L.rel) HOF.out HOY.out HX_3.out rfl (L.val 9 43 (by kernel_rfl) (by kernel_rfl)) (L.val 10 44 (by kernel_rfl) (by kernel_rfl))
          · exact kp_pick rfl (L.val 8 42 (by kernel_rfl) (by kernel_rfl)) (L.val 11 45 (by kernel_rfl) (by kernel_rfl))
          · exact kp_move rfl (L.val 12 46 (by kernel_rfl) (by kernel_rfl))
          · exact kp_ldV (HW.out.keep L.rel trivial) rfl (L.old 7 (by kernel_rfl))
          · exact kp_ldV (HY.out.keep L.rel trivial) rfl (L.old 9 (by kernel_rfl))
          · exact kp_has S (S.tk HT0.out L.rel) HOG.out HOY.out HX_4.out rfl (L.val 14 48 (by kernel_rfl) (by kernel_rfl)) (L.val 15 49 (by kernel_rfl) (by kernel_rfl))
          · exact kp_pick rfl (L.val 13 47 (by kernel_rfl) (by kernel_rfl)) (L.val 16 50 (by kernel_rfl) (by kernel_rfl))
          · exact kp_move rfl (L.val 17 51 (by kernel_rfl) (by kernel_rfl))
          · exact kp_ldV (HV.out.keep L.rel trivial) rfl (L.old 6 (by kernel_rfl))
          · exact kp_ldV (HV.out.keep L.rel trivial) rfl (L.old 6 (by kernel_rfl))
          · exact kp_has S (S.tk HT0.out L.rel) HOF.out HOF.out HX_5.out rfl (L.val 19 53 (by kernel_rfl) (by kernel_rfl)) (L.val 20 54 (by kernel_rfl) (by kernel_rfl))
          · exact kp_pick rfl (L.val 18 52 (by kernel_rfl) (by kernel_rfl)) (L.val 21 55 (by kernel_rfl) (by kernel_rfl))
          · exact kp_move rfl (L.val 22 56 (by kernel_rfl) (by kernel_rfl))
          · exact kp_move rfl (L.old 10 (by kernel_rfl))
          · exact kp_ldV (HV.out.keep L.rel trivial) rfl (L.old 6 (by kernel_rfl))
          · exact kp_move rfl (L.old 1 (by kernel_rfl))
          · exact kp_of (HRB.out.keep L.rel) rfl HLB.out HCB.out HKB.out rfl (L.val 26 60 (by kernel_rfl) (by kernel_rfl))
          · exact kp_same S (S.tk HT0.out L.rel) HOF.out HX6.out rfl (L.val 25 59 (by kernel_rfl) (by kernel_rfl)) (L.val 27 61 (by kernel_rfl) (by kernel_rfl))
          · exact kp_eqBB (by simp) rfl (L.val 24 58 (by kernel_rfl) (by kernel_rfl)) (L.val 28 62 (by kernel_rfl) (by kernel_rfl))
          · exact kp_pick rfl (L.val 23 57 (by kernel_rfl) (by kernel_rfl)) (L.val 29 63 (by kernel_rfl) (by kernel_rfl))
          · exact kp_move rfl (L.val 30 64 (by kernel_rfl) (by kernel_rfl))
          · exact kp_ldV (HX.out.keep L.rel trivial) rfl (L.old 8 (by kernel_rfl))
          · exact kp_ldV (HW.out.keep L.rel trivial) rfl (L.old 7 (by kernel_rfl))
          · exact kp_ldV (HV.out.keep L.rel trivial) rfl (L.old 6 (by kernel_rfl))
          · exact kp_vs1 rfl (L.val 34 68 (by kernel_rfl) (by kernel_rfl))
          · exact kp_max S (S.tk HT0.out L.rel) HOG.out (one_ok HOF.out) (by simp) rfl (L.val 33 67 (by kernel_rfl) (by kernel_rfl)) (L.val 35 69 (by kernel_rfl) (by kernel_rfl))
          · exact kp_same S (S.tk HT0.out L.rel) HOX.out HX_7.out rfl (L.val 32 66 (by kernel_rfl) (by kernel_rfl)) (L.val 36 70 (by kernel_rfl) (by kernel_rfl))
          · exact kp_pick rfl (L.val 31 65 (by kernel_rfl) (by kernel_rfl)) (L.val 37 71 (by kernel_rfl) (by kernel_rfl))
          · exact kp_move rfl (L.val 38 72 (by kernel_rfl) (by kernel_rfl))
          · exact kp_ldV (HY.out.keep L.rel trivial) rfl (L.old 9 (by kernel_rfl))
          · exact kp_ldV (HW.out.keep L.rel trivial) rfl (L.old 7 (by kernel_rfl))
          · exact kp_ldV (HV.out.keep L.rel trivial) rfl (L.old 6 (by kernel_rfl))
          · exact kp_vs1 rfl (L.val 42 76 (by kernel_rfl) (by kernel_rfl))
          · exact kp_min S (S.tk HT0.out L.rel) HOG.out (one_ok HOF.out) (by simp) rfl (L.val 41 75 (by kernel_rfl) (by kernel_rfl)) (L.val 43 77 (by kernel_rfl) (by kernel_rfl))
          · exact kp_same S (S.tk HT0.out L.rel) HOY.out HX_8.out rfl (L.val 40 74 (by kernel_rfl) (by kernel_rfl)) (L.val 44 78 (by kernel_rfl) (by kernel_rfl))
          · exact kp_pick rfl (L.val 39 73 (by kernel_rfl) (by kernel_rfl)) (L.val 45 79 (by kernel_rfl) (by kernel_rfl))
          · exact kp_assign rfl (L.val 46 80 (by kernel_rfl) (by kernel_rfl))
        · intro vs w7 hk7 hlen7 hv
          match vs, hlen7 with
          | u0 :: u1 :: u2 :: u3 :: u4 :: u5 :: u6 :: u7 :: u8 :: u9 :: u10 :: u11 :: u12 :: u13 :: u14 :: u15 :: u16 :: u17 :: u18 :: u19 :: u20 :: u21 :: u22 :: u23 :: u24 :: u25 :: u26 :: u27 :: u28 :: u29 :: u30 :: u31 :: u32 :: u33 :: u34 :: u35 :: u36 :: u37 :: u38 :: u39 :: u40 :: u41 :: u42 :: u43 :: u44 :: u45 :: u46 :: u47 :: [], _ =>
          have hx47 : u47 = .bool true := hv 47 4 (by kernel_rfl)
          subst hx47
          have HKF := Lib.hid (HKE.out.trans hk7)
          clear hv hk7
          simp only [putAll, List.map, Act.put, List.setIfInBounds_toArray, List.set_cons_succ, List.set_cons_zero, Exit.then]
          go_wp2_with fail
          go_ret
          exact ⟨rfl, HKF.out.below⟩
      | true =>
        obtain ⟨a0, a1, a2, a3, a4, a5⟩ := HV9.out.six HKB9.out
        obtain ⟨b0, b1, b2, b3, b4, b5⟩ := HW9.out.six HKB9.out
        go_wp2_with fail
        refine (show Calls _ _ _ _ _ from S2.out wb HKB9.out).mono ?_
        rintro e wc ⟨rfl, hkc⟩
        have HKC9 := Lib.hid (HKB9.out.trans hkc)
        clear hkc a0 a1 a2 a3 a4 a5 b0 b1 b2 b3 b4 b5
        go_wp2_with fail
        have HTB := Lib.hid (S.tk HT9.out HKC9.out)
        have HT0 := Lib.hid HTB.out
        have HV := Lib.hid (HV9.out.keep HKC9.out trivial)
        have HW := Lib.hid (HW9.out.keep HKC9.out trivial)
        have HX := Lib.hid (HX9.out.keep HKC9.out trivial)
        have HY := Lib.hid (HY9.out.keep HKC9.out trivial)
        have HKE := Lib.hid (HK9.out.trans HKC9.out)
        have HRB := Lib.hid (HRB0.out _ HKE.out)
        have HX6 := Lib.hid (show eqB f (ofF b kb) = by_ from by rw [HG.out]; rw [← HB6.out]; rfl)
        have HX_1 := Lib.hid (show hasB x f = true from by rw [← HX1.out]; exact hasB_iff.2 fun i _ => by rw [max1_at]; omega)
        have HX_2 := Lib.hid (show hasB x g = true from by rw [← HX1.out]; exact hasB_iff.2 fun i _ => by rw [max1_at]; omega)
        have HX_3 := Lib.hid (show hasB f y = true from by rw [← HY1.out]; exact hasB_iff.2 fun i _ => by rw [min1_at]; omega)
        have HX_4 := Lib.hid (show hasB g y = true from by rw [← HY1.out]; exact hasB_iff.2 fun i _ => by rw [min1_at]; omega)
        have HX_5 := Lib.hid (show hasB f f = true from hasB_iff.2 fun i _ => Int.le_refl _)
        have HX_7 := Lib.hid (show eqB x (maxF g [f]) = true from by rw [← HX1.out]; exact eqB_iff.2 fun i _ => by rw [max1_at, max1_at]; omega)
        have HX_8 := Lib.hid (show eqB y (minF g [f]) = true from by rw [← HY1.out]; exact eqB_iff.2 fun i _ => by rw [min1_at, min1_at]; omega)
        refine wp_region_guard (R := Kp) (V := Vk [.v (vagg x), .v (vagg f), .v (.bool true), .v (.bool true), .v (vagg x), .v (vagg g), .v (.bool true), .v (.bool true), .v (.bool true), .v (vagg f), .v (vagg y), .v (.bool true), .v (.bool true), .v (.bool true), .v (vagg g), .v (vagg y), .v (.bool true), .v (.bool true), .v (.bool true), .v (vagg f), .v (vagg f), .v (.bool true), .v (.bool true), .v (.bool true), .v (.bool by_), .v (vagg f), .v (.slice B b.length cb), .v (vagg (ofF b kb)), .v (.bool by_), .v (.bool true), .v (.bool true), .v (.bool true), .v (vagg x), .v (vagg g), .v (vagg f), .n [f], .v (vagg (maxF g [f])), .v (.bool true), .v (.bool true), .v (.bool true), .v (vagg y), .v (vagg g), .v (vagg f), .n [f], .v (vagg (minF g [f])), .v (.bool true), .v (.bool true), .v (.bool true)]) (w0 := wc) (Gl [(3, true), (8, true), (13, true), (18, true), (23, true), (31, true), (39, true)]) (by kernel_rfl) (fun w => Keeps.refl _ w) (fun _ _ _ h k => h.trans k) (Vk_keep _) (by kernel_rfl) (Gl_is (by intro p hp; simp only [List.mem_cons, List.not_mem_nil, or_false] at hp; rcases hp with rfl | rfl | rfl | rfl | rfl | rfl | rfl <;> rfl)) (fun i o ho hw => (all_wanted (by kernel_rfl) ho hw).elim) ((Keeps.refl _ wc).drew) (each_of ?_) ?_
        · refine ⟨?_, ?_, ?_, ?_, ?_, ?_, ?_, ?_, ?_, ?_, ?_, ?_, ?_, ?_, ?_, ?_, ?_, ?_, ?_, ?_, ?_, ?_, ?_, ?_, ?_, ?_, ?_, ?_, ?_, ?_, ?_, ?_, ?_, ?_, ?_, ?_, ?_, ?_, ?_, ?_, ?_, ?_, ?_, ?_, ?_, ?_, ?_, ?_, trivial⟩ <;> intro hw a1 w3 L
          · exact kp_ldV (HX.out.keep L.rel trivial) rfl (L.old 8 (by kernel_rfl))
          · exact kp_ldV (HV.out.keep L.rel trivial) rfl (L.old 6 (by kernel_rfl))
          · exact kp_has S (S.tk HT0.out L.rel) HOX.out HOF.out HX_1.out rfl (L.val 0 34 (by kernel_rfl) (by kernel_rfl)) (L.val 1 35 (by kernel_rfl) (by kernel_rfl))
          · exact kp_move rfl (L.val 2 36 (by kernel_rfl) (by kernel_rfl))
          · exact kp_ldV (HX.out.keep L.rel trivial) rfl (L.old 8 (by kernel_rfl))
          · exact kp_ldV (HW.out.keep L.rel trivial) rfl (L.old 7 (by kernel_rfl))
          · exact kp_has S (S.tk HT0.out L.rel) HOX.out HOG.out HX_2.out rfl (L.val 4 38 (by kernel_rfl) (by kernel_rfl)) (L.val 5 39 (by kernel_rfl) (by kernel_rfl))
          · exact kp_pick rfl (L.val 3 37 (by kernel_rfl) (by kernel_rfl)) (L.val 6 40 (by kernel_rfl) (by kernel_rfl))
          · exact kp_move rfl (L.val 7 41 (by kernel_rfl) (by kernel_rfl))
          · exact kp_ldV (HV.out.keep L.rel trivial) rfl (L.old 6 (by kernel_rfl))
          · exact kp_ldV (HY.out.keep L.rel trivial) rfl (L.old 9 (by kernel_rfl))
          · exact kp_has S (S.tk HT0.out L.rel) HOF.out HOY.out HX_3.out rfl (L.val 9 43 (by kernel_rfl) (by kernel_rfl)) (L.val 10 44 (by kernel_rfl) (by kernel_rfl))
          · exact kp_pick rfl (L.val 8 42 (by kernel_rfl) (by kernel_rfl)) (L.val 11 45 (by kernel_rfl) (by kernel_rfl))
          · exact kp_move rfl (L.val 12 46 (by kernel_rfl) (by kernel_rfl))
          · exact kp_ldV (HW.out.keep L.rel trivial) rfl (L.old 7 (by kernel_rfl))
          · exact kp_ldV (HY.out.keep L.rel trivial) rfl (L.old 9 (by kernel_rfl))
          · exact kp_has S (S.tk HT0.out L.rel) HOG.out HOY.out HX_4.out rfl (L.val 14 48 (by kernel_rfl) (by kernel_rfl)) (L.val 15 49 (by kernel_rfl) (by kernel_rfl))
          · exact kp_pick rfl (L.val 13 47 (by kernel_rfl) (by kernel_rfl)) (L.val 16 50 (by kernel_rfl) (by kernel_rfl))
          · exact kp_move rfl (L.val 17 51 (by kernel_rfl) (by kernel_rfl))
          · exact kp_ldV (HV.out.keep L.rel trivial) rfl (L.old 6 (by kernel_rfl))
          · exact kp_ldV (HV.out.keep L.rel trivial) rfl (L.old 6 (by kernel_rfl))
          · exact kp_has S (S.tk HT0.out L.rel) HOF.out HOF.out HX_5.out rfl (L.val 19 53 (by kernel_rfl) (by kernel_rfl)) (L.val 20 54 (by kernel_rfl) (by kernel_rfl))
          · exact kp_pick rfl (L.val 18 52 (by kernel_rfl) (by kernel_rfl)) (L.val 21 55 (by kernel_rfl) (by kernel_rfl))
          · exact kp_move rfl (L.val 22 56 (by kernel_rfl) (by kernel_rfl))
          · exact kp_move rfl (L.old 10 (by kernel_rfl))
          · exact kp_ldV (HV.out.keep L.rel trivial) rfl (L.old 6 (by kernel_rfl))
          · exact kp_move rfl (L.old 1 (by kernel_rfl))
          · exact kp_of (HRB.out.keep L.rel) rfl HLB.out HCB.out HKB.out rfl (L.val 26 60 (by kernel_rfl) (by kernel_rfl))
          · exact kp_same S (S.tk HT0.out L.rel) HOF.out HX6.out rfl (L.val 25 59 (by kernel_rfl) (by kernel_rfl)) (L.val 27 61 (by kernel_rfl) (by kernel_rfl))
          · exact kp_eqBB (by simp) rfl (L.val 24 58 (by kernel_rfl) (by kernel_rfl)) (L.val 28 62 (by kernel_rfl) (by kernel_rfl))
          · exact kp_pick rfl (L.val 23 57 (by kernel_rfl) (by kernel_rfl)) (L.val 29 63 (by kernel_rfl) (by kernel_rfl))
          · exact kp_move rfl (L.val 30 64 (by kernel_rfl) (by kernel_rfl))
          · exact kp_ldV (HX.out.keep L.rel trivial) rfl (L.old 8 (by kernel_rfl))
          · exact kp_ldV (HW.out.keep L.rel trivial) rfl (L.old 7 (by kernel_rfl))
          · exact kp_ldV (HV.out.keep L.rel trivial) rfl (L.old 6 (by kernel_rfl))
          · exact kp_vs1 rfl (L.val 34 68 (by kernel_rfl) (by kernel_rfl))
          · exact kp_max S (S.tk HT0.out L.rel) HOG.out (one_ok HOF.out) (by simp) rfl (L.val 33 67 (by kernel_rfl) (by kernel_rfl)) (L.val 35 69 (by kernel_rfl) (by kernel_rfl))
          · exact kp_same S (S.tk HT0.out L.rel) HOX.out HX_7.out rfl (L.val 32 66 (by kernel_rfl) (by kernel_rfl)) (L.val 36 70 (by kernel_rfl) (by kernel_rfl))
          · exact kp_pick rfl (L.val 31 65 (by kernel_rfl) (by kernel_rfl)) (L.val 37 71 (by kernel_rfl) (by kernel_rfl))
          · exact kp_move rfl (L.val 38 72 (by kernel_rfl) (by kernel_rfl))
          · exact kp_ldV (HY.out.keep L.rel trivial) rfl (L.old 9 (by kernel_rfl))
          · exact kp_ldV (HW.out.keep L.rel trivial) rfl (L.old 7 (by kernel_rfl))
          · exact kp_ldV (HV.out.keep L.rel trivial) rfl (L.old 6 (by kernel_rfl))
          · exact kp_vs1 rfl (L.val 42 76 (by kernel_rfl) (by kernel_rfl))
          · exact kp_min S (S.tk HT0.out L.rel) HOG.out (one_ok HOF.out) (by simp) rfl (L.val 41 75 (by kernel_rfl) (by kernel_rfl)) (L.val 43 77 (by kernel_rfl) (by kernel_rfl))
          · exact kp_same S (S.tk HT0.out L.rel) HOY.out HX_8.out rfl (L.val 40 74 (by kernel_rfl) (by kernel_rfl)) (L.val 44 78 (by kernel_rfl) (by kernel_rfl))
          · exact kp_pick rfl (L.val 39 73 (by kernel_rfl) (by kernel_rfl)) (L.val 45 79 (by kernel_rfl) (by kernel_rfl))
          · exact kp_assign rfl (L.val 46 80 (by kernel_rfl) (by kernel_rfl))
        · intro vs w7 hk7 hlen7 hv
          match vs, hlen7 with
          | u0 :: u1 :: u2 :: u3 :: u4 :: u5 :: u6 :: u7 :: u8 :: u9 :: u10 :: u11 :: u12 :: u13 :: u14 :: u15 :: u16 :: u17 :: u18 :: u19 :: u20 :: u21 :: u22 :: u23 :: u24 :: u25 :: u26 :: u27 :: u28 :: u29 :: u30 :: u31 :: u32 :: u33 :: u34 :: u35 :: u36 :: u37 :: u38 :: u39 :: u40 :: u41 :: u42 :: u43 :: u44 :: u45 :: u46 :: u47 :: [], _ =>
          have hx47 : u47 = .bool true := hv 47 4 (by kernel_rfl)
          subst hx47
          have HKF := Lib.hid (HKE.out.trans hk7)
          clear hv hk7
          simp only [putAll, List.map, Act.put, List.setIfInBounds_toArray, List.set_cons_succ, List.set_cons_zero, Exit.then]
          go_wp2_with fail
          go_ret
          exact ⟨rfl, HKF.out.below⟩

end Go.Proofs.Ytdgpdooikfamlaa.vectorLaws
