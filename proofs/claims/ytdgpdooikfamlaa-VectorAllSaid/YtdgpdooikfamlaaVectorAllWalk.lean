/-
  VectorAll, walked: the greater, the lesser one, node by node; one more node's; which has which.
-/
import Derived.Test.YtdgpdooikfamlaaVcLocs
import Derived.StillTailTactics
import Derived.Outline
import Derived.BigQuiet
import Derived.Deep.QuietTactic
import Derived.Deep.CutRange
import Derived.Deep.CutBlock
namespace Go.Proofs.Ytdgpdooikfamlaa.vectorAll
open Go Go.RowKit Go.Joins Go.Proofs.Ytdgpdooikfamlaa

theorem two_ok {g h : Nat → Int} (hg : VOk g) (hh : VOk h) : ∀ x ∈ [g, h], VOk x := fun x hx => by
  rcases List.mem_cons.1 hx with rfl | hx
  · exact hg
  · rw [List.mem_singleton.1 hx]; exact hh
/-- What the loop has laid of the greater one, of the lesser one, of which has which, ahead of k. -/
def hiF (f g h : Nat → Int) (k : Nat) : Nat → Int := fun i => if 1 ≤ i ∧ i < k then max (f i) (max (g i) (h i)) else f i
def loF (f g h : Nat → Int) (k : Nat) : Nat → Int := fun i => if 1 ≤ i ∧ i < k then min (f i) (min (g i) (h i)) else f i
def hsF (f g : Nat → Int) (k : Nat) : Bool := (List.range k).all fun i => i == 0 || decide (g i ≤ f i)
theorem hiF_next (f g h : Nat → Int) (k : Nat) (hk : 1 ≤ k) : upd (hiF f g h k) k (max (f k) (max (g k) (h k))) = hiF f g h (k + 1) := by
  funext i
  unfold upd hiF
  by_cases e : i = k
  · subst e; rw [if_pos rfl, if_pos ⟨hk, Nat.lt_succ_self _⟩]
  · rw [if_neg e]
    by_cases c : 1 ≤ i ∧ i < k
    · rw [if_pos c, if_pos ⟨c.1, by omega⟩]
    · rw [if_neg c, if_neg (by omega)]
theorem loF_next (f g h : Nat → Int) (k : Nat) (hk : 1 ≤ k) : upd (loF f g h k) k (min (f k) (min (g k) (h k))) = loF f g h (k + 1) := by
  funext i
  unfold upd loF
  by_cases e : i = k
  · subst e; rw [if_pos rfl, if_pos ⟨hk, Nat.lt_succ_self _⟩]
  · rw [if_neg e]
    by_cases c : 1 ≤ i ∧ i < k
    · rw [if_pos c, if_pos ⟨c.1, by omega⟩]
    · rw [if_neg c, if_neg (by omega)]
theorem hsF_next (f g : Nat → Int) (k : Nat) (hk : 1 ≤ k) : hsF f g (k + 1) = (hsF f g k && decide (g k ≤ f k)) := by
  unfold hsF
  rw [List.range_succ, List.all_append]
  have : (k == 0) = false := by simp; omega
  simp [this]
theorem hi_end {f g h : Nat → Int} (hf : VOk f) (hg : VOk g) (hh : VOk h) : eqB (maxF f [g, h]) (hiF f g h 6) = true := eqB_iff.2 fun i hi => by
  show max (max (f i) (g i)) (h i) = _
  unfold hiF
  by_cases c : 1 ≤ i ∧ i < 6
  · rw [if_pos c]; omega
  · obtain rfl : i = 0 := by omega
    rw [if_neg c, hf.zero, hg.zero, hh.zero]; rfl
theorem lo_end {f g h : Nat → Int} (hf : VOk f) (hg : VOk g) (hh : VOk h) : eqB (minF f [g, h]) (loF f g h 6) = true := eqB_iff.2 fun i hi => by
  show min (min (f i) (g i)) (h i) = _
  unfold loF
  by_cases c : 1 ≤ i ∧ i < 6
  · rw [if_pos c]; omega
  · obtain rfl : i = 0 := by omega
    rw [if_neg c, hf.zero, hg.zero, hh.zero]; rfl
theorem hs_end {f g : Nat → Int} (hf : VOk f) (hg : VOk g) : hasB f g = hsF f g 6 := by
  rw [Bool.eq_iff_iff, hasB_iff]
  unfold hsF
  rw [List.all_eq_true]
  constructor
  · intro h i hi
    have := h i (List.mem_range.1 hi)
    simp [this]
  · intro h i hi
    have := h i (List.mem_range.2 hi)
    simp only [Bool.or_eq_true, beq_iff_eq, decide_eq_true_eq] at this
    rcases this with rfl | this
    · rw [hf.zero, hg.zero]; exact Int.le_refl _
    · exact this
set_option maxRecDepth 100000 in
set_option maxHeartbeats 4000000 in
theorem walk (S : VectorOK) (w : World) (hT : S.T w) (A : Option Addr) (ca : Nat) (a : List Int) (hla : a.length ≤ ca) (hca : ca ≤ maxLen) (hra : Row w A (fun b => b < w.heap.size) (a.map (Value.int .i64))) (hwa : ∀ x ∈ a, x < 9223372036854775808)
    (B : Option Addr) (cb : Nat) (b : List Int) (hlb : b.length ≤ cb) (hcb : cb ≤ maxLen) (hrb : Row w B (fun b => b < w.heap.size) (b.map (Value.int .i64))) (hwb : ∀ x ∈ b, x < 9223372036854775808)
    (C : Option Addr) (cc : Nat) (c : List Int) (hlc : c.length ≤ cc) (hcc : cc ≤ maxLen) (hrc : Row w C (fun b => b < w.heap.size) (c.map (Value.int .i64))) (hwc : ∀ x ∈ c, x < 9223372036854775808)
    (z n : Int) (hn : n < 9223372036854775808) :
    Calls Try.prog 3 #[.slice A a.length ca, .slice B b.length cb, .slice C c.length cc, .int .i64 z, .int .i64 n] w fun e w' => e = .returned (.bool true) ∧ Below w.heap.size w w' := by
  have HT := Lib.hid hT
  have HNN := Lib.hid hn
  have made : ∀ (D : Option Addr) (cd : Nat) (d : List Int), d.length ≤ cd → cd ≤ maxLen → Row w D (fun b => b < w.heap.size) (d.map (Value.int .i64)) → (∀ x ∈ d, x < 9223372036854775808) →
      VOk (ofF d (min d.length 5)) ∧ (∀ w', Kp w w' → Calls Try.prog 10 #[.slice D d.length cd] w' fun e w2 => e = .returned (vagg (ofF d (min d.length 5))) ∧ Kp w' w2) ∧
      ∀ w', Kp w w' → Calls Try.prog 9 #[.slice D d.length cd] w' fun e w2 => e = .returned (vagg (ofF d (min d.length 5))) ∧ Kp w' w2 := fun D cd d h1 h2 h3 h4 =>
    ⟨VOk.of h4 _, fun w' hk => S.of w' D cd d (S.tk HT.out hk) ((h3.mono fun _ _ _ => trivial).keep hk) h1 h2, fun w' hk => vof_any w' D cd d h1 h2 (((h3.mono fun _ _ _ => trivial).keep hk).lt.mono fun b _ hb => hb.2)⟩
  obtain ⟨hof, hA, hA2⟩ := made A ca a hla hca hra hwa
  obtain ⟨hog, hB, hB2⟩ := made B cb b hlb hcb hrb hwb
  obtain ⟨hoh, hC, hC2⟩ := made C cc c hlc hcc hrc hwc
  generalize ofF a (min a.length 5) = f at hof hA hA2
  generalize ofF b (min b.length 5) = g at hog hB hB2
  generalize ofF c (min c.length 5) = h at hoh hC hC2
  have HOF := Lib.hid hof
  have HOG := Lib.hid hog
  have HOH := Lib.hid hoh
  have HA := Lib.hid hA
  have HB := Lib.hid hB
  have HC := Lib.hid hC
  have HA2 := Lib.hid hA2
  have HB2 := Lib.hid hB2
  have HC2 := Lib.hid hC2
  unfold vagg vcells at HA HB HC HA2 HB2 HC2
  clear made hT hn hla hca hra hwa hlb hcb hrb hwb hlc hcc hrc hwc hof hA hA2 hog hB hB2 hoh hC hC2
  go_enter Try.func3, Try.ntmps3
  go_wp2_with fail
  refine (show Calls _ _ _ _ _ from begun11 S w HT.out).mono ?_
  rintro e w1 ⟨rfl, hk⟩
  have HK1 := Lib.hid hk
  clear hk
  go_wp2_with fail
  refine (show Calls _ _ _ _ _ from HA2.out w1 HK1.out).mono ?_
  rintro e w2 ⟨rfl, hk⟩
  have HK2 := Lib.hid (HK1.out.trans hk)
  clear hk HK1 HA2
  go_wp2_with fail
  refine (show Calls _ _ _ _ _ from HB2.out w2 HK2.out).mono ?_
  rintro e w3 ⟨rfl, hk⟩
  have HK3 := Lib.hid (HK2.out.trans hk)
  clear hk HK2 HB2
  go_wp2_with fail
  refine (show Calls _ _ _ _ _ from HC2.out w3 HK3.out).mono ?_
  rintro e w4 ⟨rfl, hk⟩
  have HK4 := Lib.hid (HK3.out.trans hk)
  clear hk HK3 HC2
  obtain ⟨px, hpx⟩ : ∃ px, w4.heap.size = px := ⟨_, rfl⟩
  have HN := Lib.hid (show ∀ wa, wa = (((w4.alloc (.cells (vcells f) 24)).alloc (.cells (vcells g) 24)).alloc (.cells (vcells h) 24)) → VBlk wa px 24 f ∧ VBlk wa (px + 1) 24 g ∧ VBlk wa (px + 2) 24 h ∧ Kp w wa ∧ wa.heap.size = px + 3 from by
    rintro wa rfl
    exact ⟨((VBlk.new w4 _ f px hpx.symm).keep (G := fun _ => True) ((Keeps.refl _ _).alloc _) trivial).keep (G := fun _ => True) ((Keeps.refl _ _).alloc _) trivial, (VBlk.new _ _ g (px + 1) (by simp [hpx])).keep (G := fun _ => True) ((Keeps.refl _ _).alloc _) trivial, VBlk.new _ _ h (px + 2) (by simp [hpx]), ((HK4.out.alloc _).alloc _).alloc _, by simp [hpx]⟩)
  unfold vcells at HN
  go_wp2_with fail
  obtain ⟨h1, h2, h3, h4, h5⟩ := HN.out _ rfl
  try rw [hpx]
  generalize ((w4.alloc (.cells #[.int .i64 (f 0), .int .i64 (f 1), .int .i64 (f 2), .int .i64 (f 3), .int .i64 (f 4), .int .i64 (f 5)] 24)).alloc (.cells #[.int .i64 (g 0), .int .i64 (g 1), .int .i64 (g 2), .int .i64 (g 3), .int .i64 (g 4), .int .i64 (g 5)] 24)).alloc (.cells #[.int .i64 (h 0), .int .i64 (h 1), .int .i64 (h 2), .int .i64 (h 3), .int .i64 (h 4), .int .i64 (h 5)] 24) = wa at h1 h2 h3 h4 h5 ⊢
  have HX := Lib.hid h1
  have HY := Lib.hid h2
  have HZ := Lib.hid h3
  have HKA := Lib.hid h4
  have HSA := Lib.hid h5
  clear h1 h2 h3 h4 h5 hpx HN HK4
  refine (show Calls _ _ _ _ _ from HA.out wa HKA.out).mono ?_
  rintro e w5 ⟨rfl, hk⟩
  have HK5 := Lib.hid hk
  clear hk HA
  go_wp2_with fail
  refine (show Calls _ _ _ _ _ from HB.out w5 (HKA.out.trans HK5.out)).mono ?_
  rintro e w6 ⟨rfl, hk⟩
  have HK6 := Lib.hid (HK5.out.trans hk)
  clear hk HK5 HB
  go_wp2_with fail
  refine (show Calls _ _ _ _ _ from HC.out w6 (HKA.out.trans HK6.out)).mono ?_
  rintro e w7 ⟨rfl, hk⟩
  have HK7 := Lib.hid (HK6.out.trans hk)
  clear hk HK6 HC
  obtain ⟨pv, hpv⟩ : ∃ pv, w7.heap.size = pv := ⟨_, rfl⟩
  have HN := Lib.hid (show ∀ wb, wb = (((w7.alloc (.cells (vcells f) 26)).alloc (.cells (vcells g) 26)).alloc (.cells (vcells h) 26)) → VBlk wb pv 26 f ∧ VBlk wb (pv + 1) 26 g ∧ VBlk wb (pv + 2) 26 h ∧ Kp wa wb ∧ wb.heap.size = pv + 3 from by
    rintro wb rfl
    exact ⟨((VBlk.new w7 _ f pv hpv.symm).keep (G := fun _ => True) ((Keeps.refl _ _).alloc _) trivial).keep (G := fun _ => True) ((Keeps.refl _ _).alloc _) trivial, (VBlk.new _ _ g (pv + 1) (by simp [hpv])).keep (G := fun _ => True) ((Keeps.refl _ _).alloc _) trivial, VBlk.new _ _ h (pv + 2) (by simp [hpv]), ((HK7.out.alloc _).alloc _).alloc _, by simp [hpv]⟩)
  have HVX := Lib.hid (show px + 3 ≤ pv from by have := HK7.out.size; have := HSA.out; omega)
  unfold vcells at HN
  go_upto_region 6 with fail
  obtain ⟨h1, h2, h3, h4, h5⟩ := HN.out _ rfl
  try rw [hpv]
  generalize ((w7.alloc (.cells #[.int .i64 (f 0), .int .i64 (f 1), .int .i64 (f 2), .int .i64 (f 3), .int .i64 (f 4), .int .i64 (f 5)] 26)).alloc (.cells #[.int .i64 (g 0), .int .i64 (g 1), .int .i64 (g 2), .int .i64 (g 3), .int .i64 (g 4), .int .i64 (g 5)] 26)).alloc (.cells #[.int .i64 (h 0), .int .i64 (h 1), .int .i64 (h 2), .int .i64 (h 3), .int .i64 (h 4), .int .i64 (h 5)] 26) = wb at h1 h2 h3 h4 h5 ⊢
  replace HX := Lib.hid (HX.out.keep h4 trivial)
  replace HY := Lib.hid (HY.out.keep h4 trivial)
  replace HZ := Lib.hid (HZ.out.keep h4 trivial)
  have HV := Lib.hid h1
  have HW := Lib.hid h2
  have HU := Lib.hid h3
  have HKB := Lib.hid (HKA.out.trans h4)
  obtain ⟨n0, hn0⟩ : ∃ n0, wb.heap.size = n0 := ⟨_, rfl⟩
  have HN0 := Lib.hid (Nat.le_of_eq hn0.symm)
  have HNE := Lib.hid hn0
  have HPV := Lib.hid (show pv + 3 ≤ n0 from by omega)
  clear h1 h2 h3 h4 h5 hpv hn0 HN HK7 HKA HSA
  go_cut [18, 19, 20] from 38 to 143 (fun s18 s19 s20 wx => ∃ q3 q4 q5 : Nat, s18 = .pointer (some ⟨q3, 0, none⟩) ∧ s19 = .pointer (some ⟨q4, 0, none⟩) ∧ s20 = .pointer (some ⟨q5, 0, none⟩) ∧ Hid (q3 ≠ q4 ∧ q3 ≠ q5 ∧ q4 ≠ q5 ∧ n0 ≤ q3 ∧ n0 ≤ q4 ∧ n0 ≤ q5) ∧ Hid (VBlk wx q3 24 f ∧ VBlk wx q4 24 f ∧ VBlk wx q5 24 f) ∧ Hid (Kp wb wx))
  case first =>
    have HF3 := Lib.hid (show VBlk ((((wb.alloc (.cells #[.int .i64 (f 0), .int .i64 (f 1), .int .i64 (f 2), .int .i64 (f 3), .int .i64 (f 4), .int .i64 (f 5)] 24)).alloc (.cells #[.int .i64 (f 0), .int .i64 (f 1), .int .i64 (f 2), .int .i64 (f 3), .int .i64 (f 4), .int .i64 (f 5)] 24)).alloc (.cells #[.int .i64 (f 0), .int .i64 (f 1), .int .i64 (f 2), .int .i64 (f 3), .int .i64 (f 4), .int .i64 (f 5)] 24)).drew) n0 24 f ∧ VBlk ((((wb.alloc (.cells #[.int .i64 (f 0), .int .i64 (f 1), .int .i64 (f 2), .int .i64 (f 3), .int .i64 (f 4), .int .i64 (f 5)] 24)).alloc (.cells #[.int .i64 (f 0), .int .i64 (f 1), .int .i64 (f 2), .int .i64 (f 3), .int .i64 (f 4), .int .i64 (f 5)] 24)).alloc (.cells #[.int .i64 (f 0), .int .i64 (f 1), .int .i64 (f 2), .int .i64 (f 3), .int .i64 (f 4), .int .i64 (f 5)] 24)).drew) (n0 + 1) 24 f ∧ VBlk ((((wb.alloc (.cells #[.int .i64 (f 0), .int .i64 (f 1), .int .i64 (f 2), .int .i64 (f 3), .int .i64 (f 4), .int .i64 (f 5)] 24)).alloc (.cells #[.int .i64 (f 0), .int .i64 (f 1), .int .i64 (f 2), .int .i64 (f 3), .int .i64 (f 4), .int .i64 (f 5)] 24)).alloc (.cells #[.int .i64 (f 0), .int .i64 (f 1), .int .i64 (f 2), .int .i64 (f 3), .int .i64 (f 4), .int .i64 (f 5)] 24)).drew) (n0 + 1 + 1) 24 f ∧ Kp wb ((((wb.alloc (.cells #[.int .i64 (f 0), .int .i64 (f 1), .int .i64 (f 2), .int .i64 (f 3), .int .i64 (f 4), .int .i64 (f 5)] 24)).alloc (.cells #[.int .i64 (f 0), .int .i64 (f 1), .int .i64 (f 2), .int .i64 (f 3), .int .i64 (f 4), .int .i64 (f 5)] 24)).alloc (.cells #[.int .i64 (f 0), .int .i64 (f 1), .int .i64 (f 2), .int .i64 (f 3), .int .i64 (f 4), .int .i64 (f 5)] 24)).drew) from by
      have hn := HNE.out
      have k3 := (((Keeps.refl (fun _ => True) wb).alloc (.cells #[.int .i64 (f 0), .int .i64 (f 1), .int .i64 (f 2), .int .i64 (f 3), .int .i64 (f 4), .int .i64 (f 5)] 24)).alloc (.cells #[.int .i64 (f 0), .int .i64 (f 1), .int .i64 (f 2), .int .i64 (f 3), .int .i64 (f 4), .int .i64 (f 5)] 24)).alloc (.cells #[.int .i64 (f 0), .int .i64 (f 1), .int .i64 (f 2), .int .i64 (f 3), .int .i64 (f 4), .int .i64 (f 5)] 24)
      refine ⟨?_, ?_, ?_, k3.drew⟩
      · exact (((VBlk.new wb _ f n0 hn.symm).keep (G := fun _ => True) ((Keeps.refl _ _).alloc _) trivial).keep (G := fun _ => True) ((Keeps.refl _ _).alloc _) trivial).keep (G := fun _ => True) ((Keeps.refl _ _).drew) trivial
      · exact ((VBlk.new _ _ f (n0 + 1) (by simp [hn])).keep (G := fun _ => True) ((Keeps.refl _ _).alloc _) trivial).keep (G := fun _ => True) ((Keeps.refl _ _).drew) trivial
      · exact (VBlk.new _ _ f (n0 + 1 + 1) (by simp [hn])).keep (G := fun _ => True) ((Keeps.refl _ _).drew) trivial)
    obtain ⟨a0, a1, a2, a3, a4, a5⟩ := HX.out.six (Keeps.refl _ _)
    have hlx : px < n0 := by have := HVX.out; have := HPV.out; omega
    have hne := HNE.out
    obtain ⟨b00, b01, b02, b03, b04, b05⟩ := HX.out.six (w' := (((wb.alloc (.cells #[.int .i64 0, .int .i64 0, .int .i64 0, .int .i64 0, .int .i64 0, .int .i64 0] 24)).alloc (.cells #[.int .i64 0, .int .i64 0, .int .i64 0, .int .i64 0, .int .i64 0, .int .i64 0] 24)).alloc (.cells #[.int .i64 0, .int .i64 0, .int .i64 0, .int .i64 0, .int .i64 0, .int .i64 0] 24)).drew) ((((((Keeps.refl _ _).alloc _).alloc _).alloc _)).drew)
    obtain ⟨b10, b11, b12, b13, b14, b15⟩ := HX.out.six (w' := (((wb.alloc (.cells #[.int .i64 0, .int .i64 0, .int .i64 0, .int .i64 0, .int .i64 0, .int .i64 0] 24)).alloc (.cells #[.int .i64 0, .int .i64 0, .int .i64 0, .int .i64 0, .int .i64 0, .int .i64 0] 24)).alloc (.cells #[.int .i64 (f 0), .int .i64 (f 1), .int .i64 (f 2), .int .i64 (f 3), .int .i64 (f 4), .int .i64 (f 5)] 24)).drew) ((((((Keeps.refl _ _).alloc _).alloc _).alloc _)).drew)
    obtain ⟨b20, b21, b22, b23, b24, b25⟩ := HX.out.six (w' := (((wb.alloc (.cells #[.int .i64 0, .int .i64 0, .int .i64 0, .int .i64 0, .int .i64 0, .int .i64 0] 24)).alloc (.cells #[.int .i64 (f 0), .int .i64 (f 1), .int .i64 (f 2), .int .i64 (f 3), .int .i64 (f 4), .int .i64 (f 5)] 24)).alloc (.cells #[.int .i64 0, .int .i64 0, .int .i64 0, .int .i64 0, .int .i64 0, .int .i64 0] 24)).drew) ((((((Keeps.refl _ _).alloc _).alloc _).alloc _)).drew)
    obtain ⟨b30, b31, b32, b33, b34, b35⟩ := HX.out.six (w' := (((wb.alloc (.cells #[.int .i64 0, .int .i64 0, .int .i64 0, .int .i64 0, .int .i64 0, .int .i64 0] 24)).alloc (.cells #[.int .i64 (f 0), .int .i64 (f 1), .int .i64 (f 2), .int .i64 (f 3), .int .i64 (f 4), .int .i64 (f 5)] 24)).alloc (.cells #[.int .i64 (f 0), .int .i64 (f 1), .int .i64 (f 2), .int .i64 (f 3), .int .i64 (f 4), .int .i64 (f 5)] 24)).drew) ((((((Keeps.refl _ _).alloc _).alloc _).alloc _)).drew)
    obtain ⟨b40, b41, b42, b43, b44, b45⟩ := HX.out.six (w' := (((wb.alloc (.cells #[.int .i64 (f 0), .int .i64 (f 1), .int .i64 (f 2), .int .i64 (f 3), .int .i64 (f 4), .int .i64 (f 5)] 24)).alloc (.cells #[.int .i64 0, .int .i64 0, .int .i64 0, .int .i64 0, .int .i64 0, .int .i64 0] 24)).alloc (.cells #[.int .i64 0, .int .i64 0, .int .i64 0, .int .i64 0, .int .i64 0, .int .i64 0] 24)).drew) ((((((Keeps.refl _ _).alloc _).alloc _).alloc _)).drew)
    obtain ⟨b50, b51, b52, b53, b54, b55⟩ := HX.out.six (w' := (((wb.alloc (.cells #[.int .i64 (f 0), .int .i64 (f 1), .int .i64 (f 2), .int .i64 (f 3), .int .i64 (f 4), .int .i64 (f 5)] 24)).alloc (.cells #[.int .i64 0, .int .i64 0, .int .i64 0, .int .i64 0, .int .i64 0, .int .i64 0] 24)).alloc (.cells #[.int .i64 (f 0), .int .i64 (f 1), .int .i64 (f 2), .int .i64 (f 3), .int .i64 (f 4), .int .i64 (f 5)] 24)).drew) ((((((Keeps.refl _ _).alloc _).alloc _).alloc _)).drew)
    obtain ⟨b60, b61, b62, b63, b64, b65⟩ := HX.out.six (w' := (((wb.alloc (.cells #[.int .i64 (f 0), .int .i64 (f 1), .int .i64 (f 2), .int .i64 (f 3), .int .i64 (f 4), .int .i64 (f 5)] 24)).alloc (.cells #[.int .i64 (f 0), .int .i64 (f 1), .int .i64 (f 2), .int .i64 (f 3), .int .i64 (f 4), .int .i64 (f 5)] 24)).alloc (.cells #[.int .i64 0, .int .i64 0, .int .i64 0, .int .i64 0, .int .i64 0, .int .i64 0] 24)).drew) ((((((Keeps.refl _ _).alloc _).alloc _).alloc _)).drew)
    obtain ⟨b70, b71, b72, b73, b74, b75⟩ := HX.out.six (w' := (((wb.alloc (.cells #[.int .i64 (f 0), .int .i64 (f 1), .int .i64 (f 2), .int .i64 (f 3), .int .i64 (f 4), .int .i64 (f 5)] 24)).alloc (.cells #[.int .i64 (f 0), .int .i64 (f 1), .int .i64 (f 2), .int .i64 (f 3), .int .i64 (f 4), .int .i64 (f 5)] 24)).alloc (.cells #[.int .i64 (f 0), .int .i64 (f 1), .int .i64 (f 2), .int .i64 (f 3), .int .i64 (f 4), .int .i64 (f 5)] 24)).drew) ((((((Keeps.refl _ _).alloc _).alloc _).alloc _)).drew)
    go_region
    all_goals (
      go_wp2_with fail
      go_meet
      first | exact ⟨n0, n0 + 1, n0 + 1 + 1, rfl, rfl, rfl, Lib.hid ⟨by omega, by omega, by omega, by omega, by omega, by omega⟩, Lib.hid ⟨HF3.out.1, HF3.out.2.1, HF3.out.2.2.1⟩, Lib.hid HF3.out.2.2.2⟩ | exact ⟨n0, n0 + 1 + 1, n0 + 1, rfl, rfl, rfl, Lib.hid ⟨by omega, by omega, by omega, by omega, by omega, by omega⟩, Lib.hid ⟨HF3.out.1, HF3.out.2.2.1, HF3.out.2.1⟩, Lib.hid HF3.out.2.2.2⟩ | exact ⟨n0 + 1, n0, n0 + 1 + 1, rfl, rfl, rfl, Lib.hid ⟨by omega, by omega, by omega, by omega, by omega, by omega⟩, Lib.hid ⟨HF3.out.2.1, HF3.out.1, HF3.out.2.2.1⟩, Lib.hid HF3.out.2.2.2⟩ | exact ⟨n0 + 1, n0 + 1 + 1, n0, rfl, rfl, rfl, Lib.hid ⟨by omega, by omega, by omega, by omega, by omega, by omega⟩, Lib.hid ⟨HF3.out.2.1, HF3.out.2.2.1, HF3.out.1⟩, Lib.hid HF3.out.2.2.2⟩ | exact ⟨n0 + 1 + 1, n0, n0 + 1, rfl, rfl, rfl, Lib.hid ⟨by omega, by omega, by omega, by omega, by omega, by omega⟩, Lib.hid ⟨HF3.out.2.2.1, HF3.out.1, HF3.out.2.1⟩, Lib.hid HF3.out.2.2.2⟩ | exact ⟨n0 + 1 + 1, n0 + 1, n0, rfl, rfl, rfl, Lib.hid ⟨by omega, by omega, by omega, by omega, by omega, by omega⟩, Lib.hid ⟨HF3.out.2.2.1, HF3.out.2.1, HF3.out.1⟩, Lib.hid HF3.out.2.2.2⟩)
  case rest =>
      obtain ⟨q3, q4, q5, rfl, rfl, rfl, HQQ, HBS, HKX⟩ := hcut
      obtain ⟨h34, h35, h45, hn3, hn4, hn5⟩ := HQQ.out
      have hkx := HKX.out
      have hpn := HPV.out
      have hvx := HVX.out
      replace HX := Lib.hid (HX.out.keep hkx trivial)
      replace HY := Lib.hid (HY.out.keep hkx trivial)
      replace HZ := Lib.hid (HZ.out.keep hkx trivial)
      replace HV := Lib.hid (HV.out.keep hkx trivial)
      replace HW := Lib.hid (HW.out.keep hkx trivial)
      replace HU := Lib.hid (HU.out.keep hkx trivial)
      have HHI := Lib.hid (show VBlk wc q3 24 (hiF f g h 1) from by
        have e : hiF f g h 1 = f := by funext i; unfold hiF; rw [if_neg (by omega)]
        rw [e]
        exact HBS.out.1)
      have HLO := Lib.hid (show VBlk wc q4 24 (loF f g h 1) from by
        have e : loF f g h 1 = f := by funext i; unfold loF; rw [if_neg (by omega)]
        rw [e]
        exact HBS.out.2.1)
      have HST := Lib.hid HBS.out.2.2
      have HKD := Lib.hid (HKB.out.trans hkx)
      have HQ := Lib.hid (show px + 3 ≤ pv ∧ pv + 3 ≤ q3 ∧ pv + 3 ≤ q4 ∧ pv + 3 ≤ q5 ∧ w.heap.size ≤ q3 ∧ w.heap.size ≤ q4 ∧ w.heap.size ≤ q5 from by
        have hz := HKB.out.size
        have hn := HNE.out
        exact ⟨by omega, by omega, by omega, by omega, by omega, by omega, by omega⟩)
      have H34 := Lib.hid h34
      have H35 := Lib.hid h35
      have H45 := Lib.hid h45
      clear hpn hvx hn3 hn4 hn5 h34 h35 h45 hkx HQQ HBS HKX HKB HN0 HNE HPV HVX
      go_wp2_with fail
      go_loopw [21, 22] (fun hs i wr => ∃ k : Nat, 1 ≤ k ∧ k ≤ 6 ∧ i = .int .i64 (k : Int) ∧ hs = .bool (hsF f g k) ∧ Hid (VBlk wr q3 24 (hiF f g h k)) ∧ Hid (VBlk wr q4 24 (loF f g h k)) ∧ Hid (Keeps (fun b => b ≠ q3 ∧ b ≠ q4) wc wr)) (fun _ i _ => 6 - (intOf i).toNat)
      case atStart => exact ⟨1, by omega, by omega, rfl, rfl, HHI, HLO, Lib.hid (Keeps.refl _ _)⟩
      case round =>
        clear HHI HLO
        obtain ⟨k, hk1, hk6, rfl, rfl, HHI, HLO, HKR⟩ := hrel
        have hq := HQ.out
        by_cases hk : k < 6
        · have t1 : decide ((k : Int) < 6) = true := by simp; omega
          have t2 : (k : Int) < 6 := by omega
          have HXR := Lib.hid (HX.out.keep HKR.out ⟨by omega, by omega⟩)
          have HYR := Lib.hid (HY.out.keep HKR.out ⟨by omega, by omega⟩)
          have HZR := Lib.hid (HZ.out.keep HKR.out ⟨by omega, by omega⟩)
          have cx := HXR.out.at_ k hk
          have cy := HYR.out.at_ k hk
          have cz := HZR.out.at_ k hk
          have ch := HHI.out.at_ k hk
          have fh := HHI.out.fz k
          clear hq
          obtain ⟨bs, hbs⟩ : ∃ bs, hsF f g k = bs := ⟨_, rfl⟩
          have HBS := Lib.hid hbs
          rw [hbs]
          clear hbs
          go_wp2_with fail
          go_still_tail 13, (by kernel_rfl)
          change wpList _ _ _ _ _ wr.drew
          have hkd := (Keeps.refl (fun _ => True) wr).drew
          replace ch := hkd.cell ch trivial
          replace fh := (show wr.drew.frozen? ⟨q3, k, none⟩ = false from fh)
          have HHD := Lib.hid (HHI.out.keep hkd trivial)
          have HLD := Lib.hid (HLO.out.keep hkd trivial)
          have HXD := Lib.hid (HXR.out.keep hkd trivial)
          have HYD := Lib.hid (HYR.out.keep hkd trivial)
          have HZD := Lib.hid (HZR.out.keep hkd trivial)
          have HKD2 := Lib.hid (HKR.out.drew)
          clear hkd cx cy cz
          generalize wr.drew = wd at ch fh HHD HLD HXD HYD HZD HKD2 ⊢
          have hst := HHD.out.set k hk (max (f k) (max (g k) (h k)))
          rw [hiF_next f g h k hk1] at hst
          have HH2 := Lib.hid hst
          have hkk : Keeps (fun b => b ≠ q3) wd (wd.setCell ⟨q3, k, none⟩ (.int .i64 (max (f k) (max (g k) (h k))))) := (Keeps.refl _ _).setCell (.inr fun e => e rfl) _
          have hq2 := HQ.out
          have h34 := H34.out
          have HL2 := Lib.hid (HLD.out.keep hkk (fun e => h34 e.symm))
          have HX2 := Lib.hid (HXD.out.keep hkk (by omega))
          have HY2 := Lib.hid (HYD.out.keep hkk (by omega))
          have HZ2 := Lib.hid (HZD.out.keep hkk (by omega))
          have HK2 := Lib.hid (HKD2.out.trans (hkk.mono fun b _ hb => hb.1))
          clear hst hkk hq2 h34
          go_upto_region 12 with fail
          generalize wd.setCell ⟨q3, k, none⟩ (.int .i64 (max (f k) (max (g k) (h k)))) = we at HH2 HL2 HX2 HY2 HZ2 HK2 ⊢
          clear HHI HLO HKR HXR HYR HZR HHD HLD HXD HYD HZD HKD2 ch fh
          have cx := HX2.out.at_ k hk
          have cy := HY2.out.at_ k hk
          have cz := HZ2.out.at_ k hk
          have cl := HL2.out.at_ k hk
          have fl := HL2.out.fz k
          go_still_tail 13, (by kernel_rfl)
          change wpList _ _ _ _ _ we.drew
          have hkd := (Keeps.refl (fun _ => True) we).drew
          replace cl := hkd.cell cl trivial
          replace fl := (show we.drew.frozen? ⟨q4, k, none⟩ = false from fl)
          have HHD := Lib.hid (HH2.out.keep hkd trivial)
          have HLD := Lib.hid (HL2.out.keep hkd trivial)
          have HXD := Lib.hid (HX2.out.keep hkd trivial)
          have HYD := Lib.hid (HY2.out.keep hkd trivial)
          have HKD2 := Lib.hid (HK2.out.drew)
          clear hkd cx cy cz HH2 HL2 HX2 HY2 HZ2 HK2
          generalize we.drew = wf at cl fl HHD HLD HXD HYD HKD2 ⊢
          have hst := HLD.out.set k hk (min (f k) (min (g k) (h k)))
          rw [loF_next f g h k hk1] at hst
          have HL3 := Lib.hid hst
          have hkk : Keeps (fun b => b ≠ q4) wf (wf.setCell ⟨q4, k, none⟩ (.int .i64 (min (f k) (min (g k) (h k))))) := (Keeps.refl _ _).setCell (.inr fun e => e rfl) _
          have hq2 := HQ.out
          have h34 := H34.out
          have HH3 := Lib.hid (HHD.out.keep hkk (fun e => h34 e))
          have HX3 := Lib.hid (HXD.out.keep hkk (by omega))
          have HY3 := Lib.hid (HYD.out.keep hkk (by omega))
          have HK3 := Lib.hid (HKD2.out.trans (hkk.mono fun b _ hb => hb.2))
          clear hst hkk hq2 h34
          go_upto_region 13 with fail
          generalize wf.setCell ⟨q4, k, none⟩ (.int .i64 (min (f k) (min (g k) (h k)))) = wg at HH3 HL3 HX3 HY3 HK3 ⊢
          clear HHD HLD HXD HYD HKD2 cl fl
          have cx := HX3.out.at_ k hk
          have cy := HY3.out.at_ k hk
          have HSN := Lib.hid (hsF_next f g k hk1)
          rw [HBS.out] at HSN
          cases bs with
          | false =>
            go_quiet (fail)
            go_wp2_with fail
            go_roundw
            case rel => exact ⟨k + 1, by omega, by omega, by go_num, by rw [HSN.out]; rfl, Lib.hid (HH3.out.keep (G := fun _ => True) ((Keeps.refl _ _).drewN _) trivial), Lib.hid (HL3.out.keep (G := fun _ => True) ((Keeps.refl _ _).drewN _) trivial), Lib.hid (HK3.out.drewN _)⟩
            case measure => simp [intOf]; omega
          | true =>
            go_quiet (fail)
            go_wp2_with fail
            go_roundw
            case rel => exact ⟨k + 1, by omega, by omega, by go_num, by rw [HSN.out]; rfl, Lib.hid (HH3.out.keep (G := fun _ => True) ((Keeps.refl _ _).drewN _) trivial), Lib.hid (HL3.out.keep (G := fun _ => True) ((Keeps.refl _ _).drewN _) trivial), Lib.hid (HK3.out.drewN _)⟩
            case measure => simp [intOf]; omega
        · have t1 : decide ((k : Int) < 6) = false := by simp; omega
          obtain rfl : k = 6 := by omega
          have hq2 := HQ.out
          have h35 := H35.out
          have h45 := H45.out
          have HX6 := Lib.hid (HX.out.keep HKR.out ⟨by omega, by omega⟩)
          have HV6 := Lib.hid (HV.out.keep HKR.out ⟨by omega, by omega⟩)
          have HW6 := Lib.hid (HW.out.keep HKR.out ⟨by omega, by omega⟩)
          have HU6 := Lib.hid (HU.out.keep HKR.out ⟨by omega, by omega⟩)
          have HS6 := Lib.hid (HST.out.keep HKR.out ⟨fun e => h35 e.symm, fun e => h45 e.symm⟩)
          have HK6 := Lib.hid (show Kp w wr from by
            have h := HKD.out
            have k := HKR.out
            have hw3 := hq2.2.2.2.2.1
            have hw4 := hq2.2.2.2.2.2.1
            exact ⟨k.os.trans h.os, k.tape.trans h.tape, k.output.trans h.output, Nat.le_trans h.size k.size, fun b _ hb => (k.block b ⟨by omega, by omega⟩ (Nat.lt_of_lt_of_le hb h.size)).trans (h.block b trivial hb)⟩)
          have HHS := Lib.hid (hs_end (f := f) (g := g) HOF.out HOG.out)
          obtain ⟨bo, hbo⟩ : ∃ bo, hsF f g 6 = bo := ⟨_, rfl⟩
          have HBO := Lib.hid hbo
          rw [hbo]
          clear hbo hq hk hk1 hk6 hq2 h35 h45 HX HV HW HU HY HZ HST HKD HKR
          have hcz : (decide (1 ≤ z) = false) ∨ (decide (1 ≤ z) = true ∧ decide (z ≤ 5) = false) ∨ (decide (1 ≤ z) = true ∧ decide (z ≤ 5) = true) := by
            cases decide (1 ≤ z) <;> cases decide (z ≤ 5) <;> simp
          rcases hcz with z1 | ⟨z1, z2⟩ | ⟨z1, z2⟩
          · have HSZ := Lib.hid (show setF f z n = f from by unfold setF isNode; rw [z1]; rfl)
            have HSE := Lib.hid (show VBlk wr q5 24 (setF f z n) from by rw [HSZ.out]; exact HS6.out)
            have HKE := Lib.hid (Keeps.refl (fun b => b ≠ q5) wr)
            go_upto_region 16 with fail
            have hq2 := HQ.out
            have h35 := H35.out
            have h45 := H45.out
            have HX7 := Lib.hid (HX6.out.keep HKE.out (show px ≠ q5 by omega))
            have HV7 := Lib.hid (HV6.out.keep HKE.out (show pv ≠ q5 by omega))
            have HW7 := Lib.hid (HW6.out.keep HKE.out (show pv + 1 ≠ q5 by omega))
            have HU7 := Lib.hid (HU6.out.keep HKE.out (show pv + 2 ≠ q5 by omega))
            have HH7 := Lib.hid (HHI.out.keep HKE.out h35)
            have HL7 := Lib.hid (HLO.out.keep HKE.out h45)
            have HK7 := Lib.hid (show Kp w wr from by
              have h := HK6.out
              have k := HKE.out
              have hw5 := hq2.2.2.2.2.2.2
              exact ⟨k.os.trans h.os, k.tape.trans h.tape, k.output.trans h.output, Nat.le_trans h.size k.size, fun b _ hb => (k.block b (by omega) (Nat.lt_of_lt_of_le hb h.size)).trans (h.block b trivial hb)⟩)
            have HT0 := Lib.hid (S.tk HT.out HK7.out)
            have HE1 := Lib.hid (eqB_refl f)
            have HE2 := Lib.hid (hi_end HOF.out HOG.out HOH.out)
            have HE3 := Lib.hid (lo_end HOF.out HOG.out HOH.out)
            have HE4 := Lib.hid (eqB_refl (setF f z n))
            have HE5 := Lib.hid (show hasB f g = bo from HHS.out.trans HBO.out)
            have HOM := Lib.hid (HOF.out.max_ (two_ok HOG.out HOH.out))
            have HON := Lib.hid (HOF.out.min_ (two_ok HOG.out HOH.out))
            have HOS := Lib.hid (HOF.out.set z HNN.out)
            clear hq2 h35 h45
            refine wp_region_guard (R := Kp) (V := Vk [.v (vagg f), .v (vagg f), .v (.bool true), .v (.bool true), .v (vagg f), .v (vagg g), .v (vagg h), .n [g, h], .v (vagg (maxF f [g, h])), .v (vagg (hiF f g h 6)), .v (.bool true), .v (.bool true), .v (.bool true), .v (vagg f), .v (vagg g), .v (vagg h), .n [g, h], .v (vagg (minF f [g, h])), .v (vagg (loF f g h 6)), .v (.bool true), .v (.bool true), .v (.bool true), .v (vagg f), .v (vagg f), .v (vagg f), .v (.bool true), .v (.bool true), .v (.bool true), .v (vagg f), .v (vagg f), .v (vagg f), .v (.bool true), .v (.bool true), .v (.bool true), .v (vagg f), .v (.int .i64 z), .v (.int .i64 n), .v (vagg (setF f z n)), .v (vagg (setF f z n)), .v (.bool true), .v (.bool true), .v (.bool true), .v (vagg f), .v (vagg f), .v (.bool true), .v (.bool true), .v (.bool true), .v (vagg f), .v (vagg g), .v (.bool bo), .v (.bool bo), .v (.bool true), .v (.bool true), .v (.bool true)]) (w0 := wr) (Gl [(3, true), (12, true), (21, true), (27, true), (33, true), (41, true), (46, true)]) (by kernel_rfl) (fun w => Keeps.refl _ w) (fun _ _ _ h k => h.trans k) (Vk_keep _) (by kernel_rfl) (Gl_is (by intro p hp; simp only [List.mem_cons, List.not_mem_nil, or_false] at hp; rcases hp with rfl | rfl | rfl | rfl | rfl | rfl | rfl <;> rfl)) (fun i o ho hw => (all_wanted (by kernel_rfl) ho hw).elim) ((Keeps.refl _ wr).drew) (each_of ?_) ?_
            · refine ⟨?_, ?_, ?_, ?_, ?_, ?_, ?_, ?_, ?_, ?_, ?_, ?_, ?_, ?_, ?_, ?_, ?_, ?_, ?_, ?_, ?_, ?_, ?_, ?_, ?_, ?_, ?_, ?_, ?_, ?_, ?_, ?_, ?_, ?_, ?_, ?_, ?_, ?_, ?_, ?_, ?_, ?_, ?_, ?_, ?_, ?_, ?_, ?_, ?_, ?_, ?_, ?_, ?_, ?_, trivial⟩ <;> intro hw a1 w3 L
              · exact kp_ldV (HV7.out.keep L.rel trivial) rfl (L.old 15 (by kernel_rfl))
              · exact kp_ldW (HX7.out.keep L.rel trivial) rfl (L.old 12 (by kernel_rfl))
              · exact kp_same S (S.tk HT0.out L.rel) HOF.out HE1.out rfl (L.val 0 91 (by kernel_rfl) (by kernel_rfl)) (L.val 1 92 (by kernel_rfl) (by kernel_rfl))
              · exact kp_move rfl (L.val 2 93 (by kernel_rfl) (by kernel_rfl))
              · exact kp_ldV (HV7.out.keep L.rel trivial) rfl (L.old 15 (by kernel_rfl))
              · exact kp_ldV (HW7.out.keep L.rel trivial) rfl (L.old 16 (by kernel_rfl))
              · exact kp_ldV (HU7.out.keep L.rel trivial) rfl (L.old 17 (by kernel_rfl))
              · exact kp_vs2 rfl (L.val 5 96 (by kernel_rfl) (by kernel_rfl)) (L.val 6 97 (by kernel_rfl) (by kernel_rfl))
              · exact kp_max S (S.tk HT0.out L.rel) HOF.out (two_ok HOG.out HOH.out) (by simp) rfl (L.val 4 95 (by kernel_rfl) (by kernel_rfl)) (L.val 7 98 (by kernel_rfl) (by kernel_rfl))
              · exact kp_ldW (HH7.out.keep L.rel trivial) rfl (L.old 18 (by kernel_rfl))
              · exact kp_same S (S.tk HT0.out L.rel) HOM.out HE2.out rfl (L.val 8 99 (by kernel_rfl) (by kernel_rfl)) (L.val 9 100 (by kernel_rfl) (by kernel_rfl))
              · exact kp_pick rfl (L.val 3 94 (by kernel_rfl) (by kernel_rfl)) (L.val 10 101 (by kernel_rfl) (by kernel_rfl))
              · exact kp_move rfl (L.val 11 102 (by kernel_rfl) (by kernel_rfl))
              · exact kp_ldV (HV7.out.keep L.rel trivial) rfl (L.old 15 (by kernel_rfl))
              · exact kp_ldV (HW7.out.keep L.rel trivial) rfl (L.old 16 (by kernel_rfl))
              · exact kp_ldV (HU7.out.keep L.rel trivial) rfl (L.old 17 (by kernel_rfl))
              · exact kp_vs2 rfl (L.val 14 105 (by kernel_rfl) (by kernel_rfl)) (L.val 15 106 (by kernel_rfl) (by kernel_rfl))
              · exact kp_min S (S.tk HT0.out L.rel) HOF.out (two_ok HOG.out HOH.out) (by simp) rfl (L.val 13 104 (by kernel_rfl) (by kernel_rfl)) (L.val 16 107 (by kernel_rfl) (by kernel_rfl))
              · exact kp_ldW (HL7.out.keep L.rel trivial) rfl (L.old 19 (by kernel_rfl))
              · exact kp_same S (S.tk HT0.out L.rel) HON.out HE3.out rfl (L.val 17 108 (by kernel_rfl) (by kernel_rfl)) (L.val 18 109 (by kernel_rfl) (by kernel_rfl))
              · exact kp_pick rfl (L.val 12 103 (by kernel_rfl) (by kernel_rfl)) (L.val 19 110 (by kernel_rfl) (by kernel_rfl))
              · exact kp_move rfl (L.val 20 111 (by kernel_rfl) (by kernel_rfl))
              · exact kp_ldV (HV7.out.keep L.rel trivial) rfl (L.old 15 (by kernel_rfl))
              · exact kp_max0 S (S.tk HT0.out L.rel) HOF.out rfl (L.val 22 113 (by kernel_rfl) (by kernel_rfl)) rfl
              · exact kp_ldW (HX7.out.keep L.rel trivial) rfl (L.old 12 (by kernel_rfl))
              · exact kp_same S (S.tk HT0.out L.rel) HOF.out HE1.out rfl (L.val 23 114 (by kernel_rfl) (by kernel_rfl)) (L.val 24 115 (by kernel_rfl) (by kernel_rfl))
              · exact kp_pick rfl (L.val 21 112 (by kernel_rfl) (by kernel_rfl)) (L.val 25 116 (by kernel_rfl) (by kernel_rfl))
              · exact kp_move rfl (L.val 26 117 (by kernel_rfl) (by kernel_rfl))
              · exact kp_ldV (HV7.out.keep L.rel trivial) rfl (L.old 15 (by kernel_rfl))
              · exact kp_min0 S (S.tk HT0.out L.rel) HOF.out rfl (L.val 28 119 (by kernel_rfl) (by kernel_rfl)) rfl
              · exact kp_ldW (HX7.out.keep L.rel trivial) rfl (L.old 12 (by kernel_rfl))
              · exact kp_same S (S.tk HT0.out L.rel) HOF.out HE1.out rfl (L.val 29 120 (by kernel_rfl) (by kernel_rfl)) (L.val 30 121 (by kernel_rfl) (by kernel_rfl))
              · exact kp_pick rfl (L.val 27 118 (by kernel_rfl) (by kernel_rfl)) (L.val 31 122 (by kernel_rfl) (by kernel_rfl))
              · exact kp_move rfl (L.val 32 123 (by kernel_rfl) (by kernel_rfl))
              · exact kp_ldV (HV7.out.keep L.rel trivial) rfl (L.old 15 (by kernel_rfl))
              · exact kp_move rfl (L.old 3 (by kernel_rfl))
              · exact kp_move rfl (L.old 4 (by kernel_rfl))
              · exact kp_set S (S.tk HT0.out L.rel) HOF.out rfl (L.val 34 125 (by kernel_rfl) (by kernel_rfl)) (L.val 35 126 (by kernel_rfl) (by kernel_rfl)) (L.val 36 127 (by kernel_rfl) (by kernel_rfl))
              · exact kp_ldW (HSE.out.keep L.rel trivial) rfl (L.old 20 (by kernel_rfl))
              · exact kp_same S (S.tk HT0.out L.rel) HOS.out HE4.out rfl (L.val 37 128 (by kernel_rfl) (by kernel_rfl)) (L.val 38 129 (by kernel_rfl) (by kernel_rfl))
              · exact kp_pick rfl (L.val 33 124 (by kernel_rfl) (by kernel_rfl)) (L.val 39 130 (by kernel_rfl) (by kernel_rfl))
              · exact kp_move rfl (L.val 40 131 (by kernel_rfl) (by kernel_rfl))
              · exact kp_ldV (HV7.out.keep L.rel trivial) rfl (L.old 15 (by kernel_rfl))
              · exact kp_ldW (HX7.out.keep L.rel trivial) rfl (L.old 12 (by kernel_rfl))
              · exact kp_same S (S.tk HT0.out L.rel) HOF.out HE1.out rfl (L.val 42 133 (by kernel_rfl) (by kernel_rfl)) (L.val 43 134 (by kernel_rfl) (by kernel_rfl))
              · exact kp_pick rfl (L.val 41 132 (by kernel_rfl) (by kernel_rfl)) (L.val 44 135 (by kernel_rfl) (by kernel_rfl))
              · exact kp_move rfl (L.val 45 136 (by kernel_rfl) (by kernel_rfl))
              · exact kp_ldV (HV7.out.keep L.rel trivial) rfl (L.old 15 (by kernel_rfl))
              · exact kp_ldV (HW7.out.keep L.rel trivial) rfl (L.old 16 (by kernel_rfl))
              · exact kp_has S (S.tk HT0.out L.rel) HOF.out HOG.out HE5.out rfl (L.val 47 138 (by kernel_rfl) (by kernel_rfl)) (L.val 48 139 (by kernel_rfl) (by kernel_rfl))
              · exact kp_move rfl (L.old 21 (by kernel_rfl))
              · exact kp_eqBB (by simp) rfl (L.val 49 140 (by kernel_rfl) (by kernel_rfl)) (L.val 50 141 (by kernel_rfl) (by kernel_rfl))
              · exact kp_pick rfl (L.val 46 137 (by kernel_rfl) (by kernel_rfl)) (L.val 51 142 (by kernel_rfl) (by kernel_rfl))
              · exact kp_assign rfl (L.val 52 143 (by kernel_rfl) (by kernel_rfl))
            · intro vs w7 hk7 hlen7 hv
              match vs, hlen7 with
              | u0 :: u1 :: u2 :: u3 :: u4 :: u5 :: u6 :: u7 :: u8 :: u9 :: u10 :: u11 :: u12 :: u13 :: u14 :: u15 :: u16 :: u17 :: u18 :: u19 :: u20 :: u21 :: u22 :: u23 :: u24 :: u25 :: u26 :: u27 :: u28 :: u29 :: u30 :: u31 :: u32 :: u33 :: u34 :: u35 :: u36 :: u37 :: u38 :: u39 :: u40 :: u41 :: u42 :: u43 :: u44 :: u45 :: u46 :: u47 :: u48 :: u49 :: u50 :: u51 :: u52 :: u53 :: [], _ =>
              have hx53 : u53 = .bool true := hv 53 10 (by kernel_rfl)
              subst hx53
              have HKF := Lib.hid (HK7.out.trans hk7)
              clear hv hk7
              simp only [putAll, List.map, Act.put, List.setIfInBounds_toArray, List.set_cons_succ, List.set_cons_zero, Exit.then]
              go_wp2_with fail
              go_ret
              exact ⟨rfl, HKF.out.below⟩
          · have HSZ := Lib.hid (show setF f z n = f from by unfold setF isNode; rw [z1, z2]; rfl)
            have HSE := Lib.hid (show VBlk wr q5 24 (setF f z n) from by rw [HSZ.out]; exact HS6.out)
            have HKE := Lib.hid (Keeps.refl (fun b => b ≠ q5) wr)
            go_upto_region 16 with fail
            have hq2 := HQ.out
            have h35 := H35.out
            have h45 := H45.out
            have HX7 := Lib.hid (HX6.out.keep HKE.out (show px ≠ q5 by omega))
            have HV7 := Lib.hid (HV6.out.keep HKE.out (show pv ≠ q5 by omega))
            have HW7 := Lib.hid (HW6.out.keep HKE.out (show pv + 1 ≠ q5 by omega))
            have HU7 := Lib.hid (HU6.out.keep HKE.out (show pv + 2 ≠ q5 by omega))
            have HH7 := Lib.hid (HHI.out.keep HKE.out h35)
            have HL7 := Lib.hid (HLO.out.keep HKE.out h45)
            have HK7 := Lib.hid (show Kp w wr from by
              have h := HK6.out
              have k := HKE.out
              have hw5 := hq2.2.2.2.2.2.2
              exact ⟨k.os.trans h.os, k.tape.trans h.tape, k.output.trans h.output, Nat.le_trans h.size k.size, fun b _ hb => (k.block b (by omega) (Nat.lt_of_lt_of_le hb h.size)).trans (h.block b trivial hb)⟩)
            have HT0 := Lib.hid (S.tk HT.out HK7.out)
            have HE1 := Lib.hid (eqB_refl f)
            have HE2 := Lib.hid (hi_end HOF.out HOG.out HOH.out)
            have HE3 := Lib.hid (lo_end HOF.out HOG.out HOH.out)
            have HE4 := Lib.hid (eqB_refl (setF f z n))
            have HE5 := Lib.hid (show hasB f g = bo from HHS.out.trans HBO.out)
            have HOM := Lib.hid (HOF.out.max_ (two_ok HOG.out HOH.out))
            have HON := Lib.hid (HOF.out.min_ (two_ok HOG.out HOH.out))
            have HOS := Lib.hid (HOF.out.set z HNN.out)
            clear hq2 h35 h45
            refine wp_region_guard (R := Kp) (V := Vk [.v (vagg f), .v (vagg f), .v (.bool true), .v (.bool true), .v (vagg f), .v (vagg g), .v (vagg h), .n [g, h], .v (vagg (maxF f [g, h])), .v (vagg (hiF f g h 6)), .v (.bool true), .v (.bool true), .v (.bool true), .v (vagg f), .v (vagg g), .v (vagg h), .n [g, h], .v (vagg (minF f [g, h])), .v (vagg (loF f g h 6)), .v (.bool true), .v (.bool true), .v (.bool true), .v (vagg f), .v (vagg f), .v (vagg f), .v (.bool true), .v (.bool true), .v (.bool true), .v (vagg f), .v (vagg f), .v (vagg f), .v (.bool true), .v (.bool true), .v (.bool true), .v (vagg f), .v (.int .i64 z), .v (.int .i64 n), .v (vagg (setF f z n)), .v (vagg (setF f z n)), .v (.bool true), .v (.bool true), .v (.bool true), .v (vagg f), .v (vagg f), .v (.bool true), .v (.bool true), .v (.bool true), .v (vagg f), .v (vagg g), .v (.bool bo), .v (.bool bo), .v (.bool true), .v (.bool true), .v (.bool true)]) (w0 := wr) (Gl [(3, true), (12, true), (21, true), (27, true), (33, true), (41, true), (46, true)]) (by kernel_rfl) (fun w => Keeps.refl _ w) (fun _ _ _ h k => h.trans k) (Vk_keep _) (by kernel_rfl) (Gl_is (by intro p hp; simp only [List.mem_cons, List.not_mem_nil, or_false] at hp; rcases hp with rfl | rfl | rfl | rfl | rfl | rfl | rfl <;> rfl)) (fun i o ho hw => (all_wanted (by kernel_rfl) ho hw).elim) ((Keeps.refl _ wr).drew) (each_of ?_) ?_
            · refine ⟨?_, ?_, ?_, ?_, ?_, ?_, ?_, ?_, ?_, ?_, ?_, ?_, ?_, ?_, ?_, ?_, ?_, ?_, ?_, ?_, ?_, ?_, ?_, ?_, ?_, ?_, ?_, ?_, ?_, ?_, ?_, ?_, ?_, ?_, ?_, ?_, ?_, ?_, ?_, ?_, ?_, ?_, ?_, ?_, ?_, ?_, ?_, ?_, ?_, ?_, ?_, ?_, ?_, ?_, trivial⟩ <;> intro hw a1 w3 L
              · exact kp_ldV (HV7.out.keep L.rel trivial) rfl (L.old 15 (by kernel_rfl))
              · exact kp_ldW (HX7.out.keep L.rel trivial) rfl (L.old 12 (by kernel_rfl))
              · exact kp_same S (S.tk HT0.out L.rel) HOF.out HE1.out rfl (L.val 0 91 (by kernel_rfl) (by kernel_rfl)) (L.val 1 92 (by kernel_rfl) (by kernel_rfl))
              · exact kp_move rfl (L.val 2 93 (by kernel_rfl) (by kernel_rfl))
              · exact kp_ldV (HV7.out.keep L.rel trivial) rfl (L.old 15 (by kernel_rfl))
              · exact kp_ldV (HW7.out.keep L.rel trivial) rfl (L.old 16 (by kernel_rfl))
              · exact kp_ldV (HU7.out.keep L.rel trivial) rfl (L.old 17 (by kernel_rfl))
              · exact kp_vs2 rfl (L.val 5 96 (by kernel_rfl) (by kernel_rfl)) (L.val 6 97 (by kernel_rfl) (by kernel_rfl))
              · exact kp_max S (S.tk HT0.out L.rel) HOF.out (two_ok HOG.out HOH.out) (by simp) rfl (L.val 4 95 (by kernel_rfl) (by kernel_rfl)) (L.val 7 98 (by kernel_rfl) (by kernel_rfl))
              · exact kp_ldW (HH7.out.keep L.rel trivial) rfl (L.old 18 (by kernel_rfl))
              · exact kp_same S (S.tk HT0.out L.rel) HOM.out HE2.out rfl (L.val 8 99 (by kernel_rfl) (by kernel_rfl)) (L.val 9 100 (by kernel_rfl) (by kernel_rfl))
              · exact kp_pick rfl (L.val 3 94 (by kernel_rfl) (by kernel_rfl)) (L.val 10 101 (by kernel_rfl) (by kernel_rfl))
              · exact kp_move rfl (L.val 11 102 (by kernel_rfl) (by kernel_rfl))
              · exact kp_ldV (HV7.out.keep L.rel trivial) rfl (L.old 15 (by kernel_rfl))
              · exact kp_ldV (HW7.out.keep L.rel trivial) rfl (L.old 16 (by kernel_rfl))
              · exact kp_ldV (HU7.out.keep L.rel trivial) rfl (L.old 17 (by kernel_rfl))
              · exact kp_vs2 rfl (L.val 14 105 (by kernel_rfl) (by kernel_rfl)) (L.val 15 106 (by kernel_rfl) (by kernel_rfl))
              · exact kp_min S (S.tk HT0.out L.rel) HOF.out (two_ok HOG.out HOH.out) (by simp) rfl (L.val 13 104 (by kernel_rfl) (by kernel_rfl)) (L.val 16 107 (by kernel_rfl) (by kernel_rfl))
              · exact kp_ldW (HL7.out.keep L.rel trivial) rfl (L.old 19 (by kernel_rfl))
              · exact kp_same S (S.tk HT0.out L.rel) HON.out HE3.out rfl (L.val 17 108 (by kernel_rfl) (by kernel_rfl)) (L.val 18 109 (by kernel_rfl) (by kernel_rfl))
              · exact kp_pick rfl (L.val 12 103 (by kernel_rfl) (by kernel_rfl)) (L.val 19 110 (by kernel_rfl) (by kernel_rfl))
              · exact kp_move rfl (L.val 20 111 (by kernel_rfl) (by kernel_rfl))
              · exact kp_ldV (HV7.out.keep L.rel trivial) rfl (L.old 15 (by kernel_rfl))
              · exact kp_max0 S (S.tk HT0.out L.rel) HOF.out rfl (L.val 22 113 (by kernel_rfl) (by kernel_rfl)) rfl
              · exact kp_ldW (HX7.out.keep L.rel trivial) rfl (L.old 12 (by kernel_rfl))
              · exact kp_same S (S.tk HT0.out L.rel) HOF.out HE1.out rfl (L.val 23 114 (by kernel_rfl) (by kernel_rfl)) (L.val 24 115 (by kernel_rfl) (by kernel_rfl))
              · exact kp_pick rfl (L.val 21 112 (by kernel_rfl) (by kernel_rfl)) (L.val 25 116 (by kernel_rfl) (by kernel_rfl))
              · exact kp_move rfl (L.val 26 117 (by kernel_rfl) (by kernel_rfl))
              · exact kp_ldV (HV7.out.keep L.rel trivial) rfl (L.old 15 (by kernel_rfl))
              · exact kp_min0 S (S.tk HT0.out L.rel) HOF.out rfl (L.val 28 119 (by kernel_rfl) (by kernel_rfl)) rfl
              · exact kp_ldW (HX7.out.keep L.rel trivial) rfl (L.old 12 (by kernel_rfl))
              · exact kp_same S (S.tk HT0.out L.rel) HOF.out HE1.out rfl (L.val 29 120 (by kernel_rfl) (by kernel_rfl)) (L.val 30 121 (by kernel_rfl) (by kernel_rfl))
              · exact kp_pick rfl (L.val 27 118 (by kernel_rfl) (by kernel_rfl)) (L.val 31 122 (by kernel_rfl) (by kernel_rfl))
              · exact kp_move rfl (L.val 32 123 (by kernel_rfl) (by kernel_rfl))
              · exact kp_ldV (HV7.out.keep L.rel trivial) rfl (L.old 15 (by kernel_rfl))
              · exact kp_move rfl (L.old 3 (by kernel_rfl))
              · exact kp_move rfl (L.old 4 (by kernel_rfl))
              · exact kp_set S (S.tk HT0.out L.rel) HOF.out rfl (L.val 34 125 (by kernel_rfl) (by kernel_rfl)) (L.val 35 126 (by kernel_rfl) (by kernel_rfl)) (L.val 36 127 (by kernel_rfl) (by kernel_rfl))
              · exact kp_ldW (HSE.out.keep L.rel trivial) rfl (L.old 20 (by kernel_rfl))
              · exact kp_same S (S.tk HT0.out L.rel) HOS.out HE4.out rfl (L.val 37 128 (by kernel_rfl) (by kernel_rfl)) (L.val 38 129 (by kernel_rfl) (by kernel_rfl))
              · exact kp_pick rfl (L.val 33 124 (by kernel_rfl) (by kernel_rfl)) (L.val 39 130 (by kernel_rfl) (by kernel_rfl))
              · exact kp_move rfl (L.val 40 131 (by kernel_rfl) (by kernel_rfl))
              · exact kp_ldV (HV7.out.keep L.rel trivial) rfl (L.old 15 (by kernel_rfl))
              · exact kp_ldW (HX7.out.keep L.rel trivial) rfl (L.old 12 (by kernel_rfl))
              · exact kp_same S (S.tk HT0.out L.rel) HOF.out HE1.out rfl (L.val 42 133 (by kernel_rfl) (by kernel_rfl)) (L.val 43 134 (by kernel_rfl) (by kernel_rfl))
              · exact kp_pick rfl (L.val 41 132 (by kernel_rfl) (by kernel_rfl)) (L.val 44 135 (by kernel_rfl) (by kernel_rfl))
              · exact kp_move rfl (L.val 45 136 (by kernel_rfl) (by kernel_rfl))
              · exact kp_ldV (HV7.out.keep L.rel trivial) rfl (L.old 15 (by kernel_rfl))
              · exact kp_ldV (HW7.out.keep L.rel trivial) rfl (L.old 16 (by kernel_rfl))
              · exact kp_has S (S.tk HT0.out L.rel) HOF.out HOG.out HE5.out rfl (L.val 47 138 (by kernel_rfl) (by kernel_rfl)) (L.val 48 139 (by kernel_rfl) (by kernel_rfl))
              · exact kp_move rfl (L.old 21 (by kernel_rfl))
              · exact kp_eqBB (by simp) rfl (L.val 49 140 (by kernel_rfl) (by kernel_rfl)) (L.val 50 141 (by kernel_rfl) (by kernel_rfl))
              · exact kp_pick rfl (L.val 46 137 (by kernel_rfl) (by kernel_rfl)) (L.val 51 142 (by kernel_rfl) (by kernel_rfl))
              · exact kp_assign rfl (L.val 52 143 (by kernel_rfl) (by kernel_rfl))
            · intro vs w7 hk7 hlen7 hv
              match vs, hlen7 with
              | u0 :: u1 :: u2 :: u3 :: u4 :: u5 :: u6 :: u7 :: u8 :: u9 :: u10 :: u11 :: u12 :: u13 :: u14 :: u15 :: u16 :: u17 :: u18 :: u19 :: u20 :: u21 :: u22 :: u23 :: u24 :: u25 :: u26 :: u27 :: u28 :: u29 :: u30 :: u31 :: u32 :: u33 :: u34 :: u35 :: u36 :: u37 :: u38 :: u39 :: u40 :: u41 :: u42 :: u43 :: u44 :: u45 :: u46 :: u47 :: u48 :: u49 :: u50 :: u51 :: u52 :: u53 :: [], _ =>
              have hx53 : u53 = .bool true := hv 53 10 (by kernel_rfl)
              subst hx53
              have HKF := Lib.hid (HK7.out.trans hk7)
              clear hv hk7
              simp only [putAll, List.map, Act.put, List.setIfInBounds_toArray, List.set_cons_succ, List.set_cons_zero, Exit.then]
              go_wp2_with fail
              go_ret
              exact ⟨rfl, HKF.out.below⟩
          · obtain ⟨m, rfl⟩ : ∃ m : Nat, z = m := ⟨z.toNat, by have := of_decide_eq_true z1; omega⟩
            have hm1 : 1 ≤ m := by have := of_decide_eq_true z1; omega
            have hm5 : m ≤ 5 := by have := of_decide_eq_true z2; omega
            have hm6 : (m : Int) < 6 := by omega
            have HSZ := Lib.hid (show setF f (m : Int) n = upd f m (max 0 n) from by unfold setF isNode; rw [z1, z2]; rfl)
            have n1 : decide (1 ≤ m) = true := by simp; omega
            have n2 : decide (m ≤ 5) = true := by simp; omega
            have cs := HS6.out.at_ m (by omega)
            have fs := HS6.out.fz m
            have hs7 := HS6.out.set m (by omega) (max 0 n)
            rw [← HSZ.out] at hs7
            have HSE := Lib.hid hs7
            have HKE := Lib.hid (show Keeps (fun b => b ≠ q5) wr (wr.setCell ⟨q5, m, none⟩ (.int .i64 (max 0 n))) from (Keeps.refl _ _).setCell (p := ⟨q5, m, none⟩) (.inr fun e => absurd rfl e) _)
            clear hs7
            go_upto_region 16 with fail
            generalize wr.setCell ⟨q5, m, none⟩ (.int .i64 (max 0 n)) = wt at HSE HKE ⊢
            clear cs fs
            have hq2 := HQ.out
            have h35 := H35.out
            have h45 := H45.out
            have HX7 := Lib.hid (HX6.out.keep HKE.out (show px ≠ q5 by omega))
            have HV7 := Lib.hid (HV6.out.keep HKE.out (show pv ≠ q5 by omega))
            have HW7 := Lib.hid (HW6.out.keep HKE.out (show pv + 1 ≠ q5 by omega))
            have HU7 := Lib.hid (HU6.out.keep HKE.out (show pv + 2 ≠ q5 by omega))
            have HH7 := Lib.hid (HHI.out.keep HKE.out h35)
            have HL7 := Lib.hid (HLO.out.keep HKE.out h45)
            have HK7 := Lib.hid (show Kp w wt from by
              have h := HK6.out
              have k := HKE.out
              have hw5 := hq2.2.2.2.2.2.2
              exact ⟨k.os.trans h.os, k.tape.trans h.tape, k.output.trans h.output, Nat.le_trans h.size k.size, fun b _ hb => (k.block b (by omega) (Nat.lt_of_lt_of_le hb h.size)).trans (h.block b trivial hb)⟩)
            have HT0 := Lib.hid (S.tk HT.out HK7.out)
            have HE1 := Lib.hid (eqB_refl f)
            have HE2 := Lib.hid (hi_end HOF.out HOG.out HOH.out)
            have HE3 := Lib.hid (lo_end HOF.out HOG.out HOH.out)
            have HE4 := Lib.hid (eqB_refl (setF f (m : Int) n))
            have HE5 := Lib.hid (show hasB f g = bo from HHS.out.trans HBO.out)
            have HOM := Lib.hid (HOF.out.max_ (two_ok HOG.out HOH.out))
            have HON := Lib.hid (HOF.out.min_ (two_ok HOG.out HOH.out))
            have HOS := Lib.hid (HOF.out.set (m : Int) HNN.out)
            clear hq2 h35 h45
            refine wp_region_guard (R := Kp) (V := Vk [.v (vagg f), .v (vagg f), .v (.bool true), .v (.bool true), .v (vagg f), .v (vagg g), .v (vagg h), .n [g, h], .v (vagg (maxF f [g, h])), .v (vagg (hiF f g h 6)), .v (.bool true), .v (.bool true), .v (.bool true), .v (vagg f), .v (vagg g), .v (vagg h), .n [g, h], .v (vagg (minF f [g, h])), .v (vagg (loF f g h 6)), .v (.bool true), .v (.bool true), .v (.bool true), .v (vagg f), .v (vagg f), .v (vagg f), .v (.bool true), .v (.bool true), .v (.bool true), .v (vagg f), .v (vagg f), .v (vagg f), .v (.bool true), .v (.bool true), .v (.bool true), .v (vagg f), .v (.int .i64 (m : Int)), .v (.int .i64 n), .v (vagg (setF f (m : Int) n)), .v (vagg (setF f (m : Int) n)), .v (.bool true), .v (.bool true), .v (.bool true), .v (vagg f), .v (vagg f), .v (.bool true), .v (.bool true), .v (.bool true), .v (vagg f), .v (vagg g), .v (.bool bo), .v (.bool bo), .v (.bool true), .v (.bool true), .v (.bool true)]) (w0 := wt) (Gl [(3, true), (12, true), (21, true), (27, true), (33, true), (41, true), (46, true)]) (by kernel_rfl) (fun w => Keeps.refl _ w) (fun _ _ _ h k => h.trans k) (Vk_keep _) (by kernel_rfl) (Gl_is (by intro p hp; simp only [List.mem_cons, List.not_mem_nil, or_false] at hp; rcases hp with rfl | rfl | rfl | rfl | rfl | rfl | rfl <;> rfl)) (fun i o ho hw => (all_wanted (by kernel_rfl) ho hw).elim) ((Keeps.refl _ wt).drew) (each_of ?_) ?_
            · refine ⟨?_, ?_, ?_, ?_, ?_, ?_, ?_, ?_, ?_, ?_, ?_, ?_, ?_, ?_, ?_, ?_, ?_, ?_, ?_, ?_, ?_, ?_, ?_, ?_, ?_, ?_, ?_, ?_, ?_, ?_, ?_, ?_, ?_, ?_, ?_, ?_, ?_, ?_, ?_, ?_, ?_, ?_, ?_, ?_, ?_, ?_, ?_, ?_, ?_, ?_, ?_, ?_, ?_, ?_, trivial⟩ <;> intro hw a1 w3 L
              · exact kp_ldV (HV7.out.keep L.rel trivial) rfl (L.old 15 (by kernel_rfl))
              · exact kp_ldW (HX7.out.keep L.rel trivial) rfl (L.old 12 (by kernel_rfl))
              · exact kp_same S (S.tk HT0.out L.rel) HOF.out HE1.out rfl (L.val 0 91 (by kernel_rfl) (by kernel_rfl)) (L.val 1 92 (by kernel_rfl) (by kernel_rfl))
              · exact kp_move rfl (L.val 2 93 (by kernel_rfl) (by kernel_rfl))
              · exact kp_ldV (HV7.out.keep L.rel trivial) rfl (L.old 15 (by kernel_rfl))
              · exact kp_ldV (HW7.out.keep L.rel trivial) rfl (L.old 16 (by kernel_rfl))
              · exact kp_ldV (HU7.out.keep L.rel trivial) rfl (L.old 17 (by kernel_rfl))
              · exact kp_vs2 rfl (L.val 5 96 (by kernel_rfl) (by kernel_rfl)) (L.val 6 97 (by kernel_rfl) (by kernel_rfl))
              · exact kp_max S (S.tk HT0.out L.rel) HOF.out (two_ok HOG.out HOH.out) (by simp) rfl (L.val 4 95 (by kernel_rfl) (by kernel_rfl)) (L.val 7 98 (by kernel_rfl) (by kernel_rfl))
              · exact kp_ldW (HH7.out.keep L.rel trivial) rfl (L.old 18 (by kernel_rfl))
              · exact kp_same S (S.tk HT0.out L.rel) HOM.out HE2.out rfl (L.val 8 99 (by kernel_rfl) (by kernel_rfl)) (L.val 9 100 (by kernel_rfl) (by kernel_rfl))
              · exact kp_pick rfl (L.val 3 94 (by kernel_rfl) (by kernel_rfl)) (L.val 10 101 (by kernel_rfl) (by kernel_rfl))
              · exact kp_move rfl (L.val 11 102 (by kernel_rfl) (by kernel_rfl))
              · exact kp_ldV (HV7.out.keep L.rel trivial) rfl (L.old 15 (by kernel_rfl))
              · exact kp_ldV (HW7.out.keep L.rel trivial) rfl (L.old 16 (by kernel_rfl))
              · exact kp_ldV (HU7.out.keep L.rel trivial) rfl (L.old 17 (by kernel_rfl))
              · exact kp_vs2 rfl (L.val 14 105 (by kernel_rfl) (by kernel_rfl)) (L.val 15 106 (by kernel_rfl) (by kernel_rfl))
              · exact kp_min S (S.tk HT0.out L.rel) HOF.out (two_ok HOG.out HOH.out) (by simp) rfl (L.val 13 104 (by kernel_rfl) (by kernel_rfl)) (L.val 16 107 (by kernel_rfl) (by kernel_rfl))
              · exact kp_ldW (HL7.out.keep L.rel trivial) rfl (L.old 19 (by kernel_rfl))
              · exact kp_same S (S.tk HT0.out L.rel) HON.out HE3.out rfl (L.val 17 108 (by kernel_rfl) (by kernel_rfl)) (L.val 18 109 (by kernel_rfl) (by kernel_rfl))
              · exact kp_pick rfl (L.val 12 103 (by kernel_rfl) (by kernel_rfl)) (L.val 19 110 (by kernel_rfl) (by kernel_rfl))
              · exact kp_move rfl (L.val 20 111 (by kernel_rfl) (by kernel_rfl))
              · exact kp_ldV (HV7.out.keep L.rel trivial) rfl (L.old 15 (by kernel_rfl))
              · exact kp_max0 S (S.tk HT0.out L.rel) HOF.out rfl (L.val 22 113 (by kernel_rfl) (by kernel_rfl)) rfl
              · exact kp_ldW (HX7.out.keep L.rel trivial) rfl (L.old 12 (by kernel_rfl))
              · exact kp_same S (S.tk HT0.out L.rel) HOF.out HE1.out rfl (L.val 23 114 (by kernel_rfl) (by kernel_rfl)) (L.val 24 115 (by kernel_rfl) (by kernel_rfl))
              · exact kp_pick rfl (L.val 21 112 (by kernel_rfl) (by kernel_rfl)) (L.val 25 116 (by kernel_rfl) (by kernel_rfl))
              · exact kp_move rfl (L.val 26 117 (by kernel_rfl) (by kernel_rfl))
              · exact kp_ldV (HV7.out.keep L.rel trivial) rfl (L.old 15 (by kernel_rfl))
              · exact kp_min0 S (S.tk HT0.out L.rel) HOF.out rfl (L.val 28 119 (by kernel_rfl) (by kernel_rfl)) rfl
              · exact kp_ldW (HX7.out.keep L.rel trivial) rfl (L.old 12 (by kernel_rfl))
              · exact kp_same S (S.tk HT0.out L.rel) HOF.out HE1.out rfl (L.val 29 120 (by kernel_rfl) (by kernel_rfl)) (L.val 30 121 (by kernel_rfl) (by kernel_rfl))
              · exact kp_pick rfl (L.val 27 118 (by kernel_rfl) (by kernel_rfl)) (L.val 31 122 (by kernel_rfl) (by kernel_rfl))
              · exact kp_move rfl (L.val 32 123 (by kernel_rfl) (by kernel_rfl))
              · exact kp_ldV (HV7.out.keep L.rel trivial) rfl (L.old 15 (by kernel_rfl))
              · exact kp_move rfl (L.old 3 (by kernel_rfl))
              · exact kp_move rfl (L.old 4 (by kernel_rfl))
              · exact kp_set S (S.tk HT0.out L.rel) HOF.out rfl (L.val 34 125 (by kernel_rfl) (by kernel_rfl)) (L.val 35 126 (by kernel_rfl) (by kernel_rfl)) (L.val 36 127 (by kernel_rfl) (by kernel_rfl))
              · exact kp_ldW (HSE.out.keep L.rel trivial) rfl (L.old 20 (by kernel_rfl))
              · exact kp_same S (S.tk HT0.out L.rel) HOS.out HE4.out rfl (L.val 37 128 (by kernel_rfl) (by kernel_rfl)) (L.val 38 129 (by kernel_rfl) (by kernel_rfl))
              · exact kp_pick rfl (L.val 33 124 (by kernel_rfl) (by kernel_rfl)) (L.val 39 130 (by kernel_rfl) (by kernel_rfl))
              · exact kp_move rfl (L.val 40 131 (by kernel_rfl) (by kernel_rfl))
              · exact kp_ldV (HV7.out.keep L.rel trivial) rfl (L.old 15 (by kernel_rfl))
              · exact kp_ldW (HX7.out.keep L.rel trivial) rfl (L.old 12 (by kernel_rfl))
              · exact kp_same S (S.tk HT0.out L.rel) HOF.out HE1.out rfl (L.val 42 133 (by kernel_rfl) (by kernel_rfl)) (L.val 43 134 (by kernel_rfl) (by kernel_rfl))
              · exact kp_pick rfl (L.val 41 132 (by kernel_rfl) (by kernel_rfl)) (L.val 44 135 (by kernel_rfl) (by kernel_rfl))
              · exact kp_move rfl (L.val 45 136 (by kernel_rfl) (by kernel_rfl))
              · exact kp_ldV (HV7.out.keep L.rel trivial) rfl (L.old 15 (by kernel_rfl))
              · exact kp_ldV (HW7.out.keep L.rel trivial) rfl (L.old 16 (by kernel_rfl))
              · exact kp_has S (S.tk HT0.out L.rel) HOF.out HOG.out HE5.out rfl (L.val 47 138 (by kernel_rfl) (by kernel_rfl)) (L.val 48 139 (by kernel_rfl) (by kernel_rfl))
              · exact kp_move rfl (L.old 21 (by kernel_rfl))
              · exact kp_eqBB (by simp) rfl (L.val 49 140 (by kernel_rfl) (by kernel_rfl)) (L.val 50 141 (by kernel_rfl) (by kernel_rfl))
              · exact kp_pick rfl (L.val 46 137 (by kernel_rfl) (by kernel_rfl)) (L.val 51 142 (by kernel_rfl) (by kernel_rfl))
              · exact kp_assign rfl (L.val 52 143 (by kernel_rfl) (by kernel_rfl))
            · intro vs w7 hk7 hlen7 hv
              match vs, hlen7 with
              | u0 :: u1 :: u2 :: u3 :: u4 :: u5 :: u6 :: u7 :: u8 :: u9 :: u10 :: u11 :: u12 :: u13 :: u14 :: u15 :: u16 :: u17 :: u18 :: u19 :: u20 :: u21 :: u22 :: u23 :: u24 :: u25 :: u26 :: u27 :: u28 :: u29 :: u30 :: u31 :: u32 :: u33 :: u34 :: u35 :: u36 :: u37 :: u38 :: u39 :: u40 :: u41 :: u42 :: u43 :: u44 :: u45 :: u46 :: u47 :: u48 :: u49 :: u50 :: u51 :: u52 :: u53 :: [], _ =>
              have hx53 : u53 = .bool true := hv 53 10 (by kernel_rfl)
              subst hx53
              have HKF := Lib.hid (HK7.out.trans hk7)
              clear hv hk7
              simp only [putAll, List.map, Act.put, List.setIfInBounds_toArray, List.set_cons_succ, List.set_cons_zero, Exit.then]
              go_wp2_with fail
              go_ret
              exact ⟨rfl, HKF.out.below⟩

end Go.Proofs.Ytdgpdooikfamlaa.vectorAll
