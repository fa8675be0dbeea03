/-
  VectorMany, walked: the greatest of many is reached one by one, in any order.
-/
import Derived.Test.YtdgpdooikfamlaaVcRow
import Derived.StillTailTactics
import Derived.Outline
import Derived.Deep.CutRange
import Derived.Deep.CutBlock
namespace Go.Proofs.Ytdgpdooikfamlaa.vectorMany
open Go Go.RowKit Go.Joins Go.Proofs.Ytdgpdooikfamlaa

set_option maxRecDepth 100000 in
set_option maxHeartbeats 4000000 in
theorem walk (S : VectorOK) (w : World) (hT : S.T w) (L : Option Addr) (lc : Nat) (ps : List IPart) (_h1 : ps.length ≤ lc) (_h2 : lc ≤ maxLen) (hL : Row w L (fun b => b < w.heap.size) (ps.map IPart.val)) (hF : ∀ p ∈ ps, p.Fits w) (turn : Int) (ht2 : turn < 9223372036854775808) :
    Calls Try.prog 6 #[.slice L ps.length lc, .int .i64 turn] w fun e w' => e = .returned (.bool true) ∧ Below w.heap.size w w' := by
  have HT := Lib.hid hT
  obtain ⟨m, hm⟩ : ∃ m, ps.length = m := ⟨_, rfl⟩
  have HM := Lib.hid hm
  rw [hm] at _h1 ⊢
  unfold maxLen at _h2
  have hcs : ((m : Int) == 0) = true ∨ ((m : Int) == 0) = false ∧ decide ((8 : Int) < (m : Int)) = true ∨ ((m : Int) == 0) = false ∧ decide ((8 : Int) < (m : Int)) = false ∧ decide (turn < 0) = true ∨ ((m : Int) == 0) = false ∧ decide ((8 : Int) < (m : Int)) = false ∧ decide (turn < 0) = false := by
    cases ((m : Int) == 0) <;> cases decide ((8 : Int) < (m : Int)) <;> cases decide (turn < 0) <;> simp
  have HL := Lib.hid (show ∀ w', Kp w w' → Row w' L (fun _ => True) (ps.map IPart.val) from fun w' hk => (hL.mono fun _ _ _ => trivial).keep hk)
  have HOF := Lib.hid (show ∀ (w' : World) (j : Nat) (hj : j < ps.length), Kp w w' → Calls Try.prog 10 #[ps[j].val] w' fun e w2 => e = .returned (vagg ps[j].f) ∧ Kp w' w2 from fun w' j hj hk => by
    have hp := hF _ (List.getElem_mem hj)
    exact S.of w' ps[j].A ps[j].cap ps[j].l (S.tk HT.out hk) ((hp.row.mono fun _ _ _ => trivial).keep hk) hp.len hp.cap)
  have HOK := Lib.hid (show ∀ g ∈ ps.map IPart.f, VOk g from fun g hg => by
    obtain ⟨p, hp, rfl⟩ := List.mem_map.1 hg
    exact VOk.of (hF p hp).small _)
  have HT2 := Lib.hid ht2
  clear hT hm hL hF ht2
  go_enter Try.func6, Try.ntmps6
  go_wp2_with fail
  refine (show Calls _ _ _ _ _ from begun11 S w HT.out).mono ?_
  rintro e w1 ⟨rfl, hk⟩
  have HK1 := Lib.hid hk
  clear hk
  rcases hcs with c1 | ⟨c1, c2⟩ | ⟨c1, c2, c3⟩ | ⟨c1, c2, c3⟩
  · have c1' : m = 0 := by simpa using c1
    go_wp2_with fail
    go_ret
    exact ⟨rfl, HK1.out.below⟩
  · have c1' : ¬ m = 0 := by simpa using c1
    have c2' : 8 < m := by have := of_decide_eq_true c2; omega
    go_wp2_with fail
    go_ret
    exact ⟨rfl, HK1.out.below⟩
  · have c1' : ¬ m = 0 := by simpa using c1
    have c2' : ¬ 8 < m := by have := of_decide_eq_false c2; omega
    go_wp2_with fail
    go_ret
    exact ⟨rfl, HK1.out.below⟩
  · have c1' : ¬ m = 0 := by simpa using c1
    have c2' : ¬ 8 < m := by have := of_decide_eq_false c2; omega
    obtain ⟨N, rfl⟩ : ∃ N : Nat, turn = N := ⟨turn.toNat, by have := of_decide_eq_false c3; omega⟩
    have hm1 : 0 < m := by omega
    have hm8 : m ≤ 8 := by omega
    obtain ⟨fs, hfs⟩ : ∃ fs, ps.map IPart.f = fs := ⟨_, rfl⟩
    have HFS := Lib.hid hfs
    rw [hfs] at HOK
    have HFL := Lib.hid (show fs.length = m from by rw [← hfs, List.length_map]; exact HM.out)
    clear hfs
    go_wp2_with fail
    clear c1 c2 c3 c1' c2'
    go_loopw [6, 7] (fun v i wr => ∃ (k : Nat), k ≤ m ∧ i = .int .i64 (k : Int) ∧ Hid (wr.ownsRow w1.heap.size 26 6 v k (vrow (fs.take k))) ∧ Hid (Kp w1 wr)) (fun _ i _ => m - (intOf i).toNat)
    case atStart => exact ⟨0, Nat.zero_le _, rfl, Lib.hid (World.ownsRow_nil _ _ _ _), Lib.hid (Keeps.refl _ _)⟩
    case round =>
      obtain ⟨k, hk, rfl, hown, hkp⟩ := hrel
      obtain ⟨A2, c2, rfl, hc2, hcm2, hA2⟩ := own_form6 hown.out
      by_cases hkm : k < m
      · have t1 : decide ((k : Int) < (m : Int)) = true := by simp; omega
        have t1' : decide (k < m) = true := by simp; omega
        have hkl : k < ps.length := by rw [HM.out]; exact hkm
        have hkf : k < fs.length := by rw [HFL.out]; exact hkm
        obtain ⟨b, o, rfl, -, hcell⟩ := (HL.out wr (HK1.out.trans hkp.out)).at_ (k := k) (by simpa using hkl)
        rw [List.getElem_map] at hcell
        have HC := Lib.hid (HOF.out wr k hkl (HK1.out.trans hkp.out))
        have HNX := Lib.hid (show vrow (fs.take (k + 1)) = vrow (fs.take k) ++ (vcells ps[k].f).toList from by
          rw [List.take_succ_eq_append_getElem hkf, vrow_snoc]
          congr 3
          have := HFS.out
          subst this
          simp)
        unfold IPart.val at hcell HC
        generalize ps[k].f = f at HC HNX
        generalize ps[k] = p at hcell HC
        unfold vagg vcells at HC
        go_wp2_with fail
        refine (show Calls _ _ _ _ _ from HC.out).mono ?_
        rintro e w5 ⟨rfl, hk5⟩
        have HK5 := Lib.hid (hkp.out.trans hk5)
        have HOW := Lib.hid (hk5.own hown.out fun _ _ => trivial)
        have hsrc := src_vec w5 f _ rfl 1 26
        unfold vcells at hsrc
        have HSRC := Lib.hid hsrc
        have hs5 := HK5.out.size
        clear hk5 hsrc hcell HC hown hkp hA2 hkl hkf
        go_wp2_with (at_builtin; refine vec_elem.list_append rfl (.tmp 34) (.tmp 40) _ rfl rfl (HOW.out.alloc _) rfl HSRC.out ?c3 ?c4 ?c5 ?_)
        case c3 => unfold maxLen; omega
        case c4 => omega
        case c5 => simp; omega
        intro v3 w6 ho6 hg6 hb6
        have HK6 := Lib.hid (show Kp w1 w6 from (HK5.out.alloc _).grown hg6 fun j hj => (HOW.out.lt j hj).1)
        have HO6 := Lib.hid (show w6.ownsRow w1.heap.size 26 6 v3 (k + 1) (vrow (fs.take (k + 1))) from by
          rw [HNX.out]
          exact ho6)
        clear ho6 hg6 hb6 HSRC HOW HK5
        go_wp2_with fail
        go_roundw
        case rel => exact ⟨k + 1, by omega, by go_num, HO6, HK6⟩
        case measure => simp [intOf]; omega
      · have t1 : decide ((k : Int) < (m : Int)) = false := by simp; omega
        have t1' : decide (k < m) = false := by simp; omega
        obtain rfl : m = k := by omega
        obtain ⟨g, rfl⟩ := hA2 hm1
        have hown' := hown.out
        rw [List.take_of_length_le (by rw [HFL.out]; exact Nat.le_refl _)] at hown'
        have HVR := Lib.hid (show ∀ w', Kp wr w' → VRow w' (some ⟨g, 0, none⟩) (fun _ => True) fs from fun w' hk => Row.keep (VRow.of_own hown' HFL.out.symm) hk)
        have HGL := Lib.hid (show w1.heap.size ≤ g ∧ g < wr.heap.size from hown'.lt g rfl)
        have HKR := Lib.hid (HK1.out.trans hkp.out)
        have HC2 := Lib.hid hcm2
        unfold maxLen at hcm2
        clear hown hown' hkp hkm hk hA2 HL HOF HFS HK1
        go_upto_region 11 with fail
        obtain ⟨t, ht⟩ : ∃ t, N % m = t := ⟨_, rfl⟩
        have htm : t < m := by rw [← ht]; exact Nat.mod_lt _ hm1
        have HTR := Lib.hid ht
        have hrm : ((N : Int).tmod (m : Int)) = (t : Int) := by rw [← Int.ofNat_tmod, ht]
        have hrm2 : (N : Int) % (m : Int) = (t : Int) := by rw [← Int.natCast_emod, ht]
        have hm0 : ¬ m = 0 := by omega
        have hNb : (N : Int) < 9223372036854775808 := HT2.out
        have htl : t < fs.length := by rw [HFL.out]; exact htm
        have h0l : 0 < fs.length := by rw [HFL.out]; exact hm1
        obtain ⟨f0, hf0⟩ : ∃ f0, fs[0] = f0 := ⟨_, rfl⟩
        obtain ⟨ft, hft⟩ : ∃ ft, fs[t] = ft := ⟨_, rfl⟩
        have HF0 := Lib.hid (show f0 ∈ fs ∧ fs[0]? = some f0 from ⟨by rw [← hf0]; exact List.getElem_mem h0l, by rw [List.getElem?_eq_getElem h0l, hf0]⟩)
        have HFT := Lib.hid (show ft ∈ fs ∧ fs[t]? = some ft from ⟨by rw [← hft]; exact List.getElem_mem htl, by rw [List.getElem?_eq_getElem htl, hft]⟩)
        obtain ⟨n0, hn0⟩ : ∃ n0, wr.heap.size = n0 := ⟨_, rfl⟩
        have HNE := Lib.hid hn0
        clear ht
        go_cut [8, 9] from 42 to 118 (fun s8 s9 wx => ∃ q8 q9 : Nat, s8 = .pointer (some ⟨q8, 0, none⟩) ∧ s9 = .pointer (some ⟨q9, 0, none⟩) ∧ Hid (q8 ≠ q9 ∧ n0 ≤ q8 ∧ n0 ≤ q9) ∧ Hid (VBlk wx q8 26 f0 ∧ VBlk wx q9 26 ft) ∧ Hid (Kp wr wx))
        case first =>
          have HFA := Lib.hid (show VBlk (((wr.alloc (.cells #[.int .i64 (f0 0), .int .i64 (f0 1), .int .i64 (f0 2), .int .i64 (f0 3), .int .i64 (f0 4), .int .i64 (f0 5)] 26)).alloc (.cells #[.int .i64 (ft 0), .int .i64 (ft 1), .int .i64 (ft 2), .int .i64 (ft 3), .int .i64 (ft 4), .int .i64 (ft 5)] 26)).drew) n0 26 f0 ∧ VBlk (((wr.alloc (.cells #[.int .i64 (f0 0), .int .i64 (f0 1), .int .i64 (f0 2), .int .i64 (f0 3), .int .i64 (f0 4), .int .i64 (f0 5)] 26)).alloc (.cells #[.int .i64 (ft 0), .int .i64 (ft 1), .int .i64 (ft 2), .int .i64 (ft 3), .int .i64 (ft 4), .int .i64 (ft 5)] 26)).drew) (n0 + 1) 26 ft ∧ Kp wr (((wr.alloc (.cells #[.int .i64 (f0 0), .int .i64 (f0 1), .int .i64 (f0 2), .int .i64 (f0 3), .int .i64 (f0 4), .int .i64 (f0 5)] 26)).alloc (.cells #[.int .i64 (ft 0), .int .i64 (ft 1), .int .i64 (ft 2), .int .i64 (ft 3), .int .i64 (ft 4), .int .i64 (ft 5)] 26)).drew) from
            ⟨((VBlk.new wr _ f0 n0 hn0.symm).keep (G := fun _ => True) ((Keeps.refl _ _).alloc _) trivial).keep (G := fun _ => True) ((Keeps.refl _ _).drew) trivial, (VBlk.new _ _ ft (n0 + 1) (by simp [hn0])).keep (G := fun _ => True) ((Keeps.refl _ _).drew) trivial, (((Keeps.refl _ _).alloc _).alloc _).drew⟩)
          have HFB := Lib.hid (show VBlk (((wr.alloc (.cells #[.int .i64 (ft 0), .int .i64 (ft 1), .int .i64 (ft 2), .int .i64 (ft 3), .int .i64 (ft 4), .int .i64 (ft 5)] 26)).alloc (.cells #[.int .i64 (f0 0), .int .i64 (f0 1), .int .i64 (f0 2), .int .i64 (f0 3), .int .i64 (f0 4), .int .i64 (f0 5)] 26)).drew) (n0 + 1) 26 f0 ∧ VBlk (((wr.alloc (.cells #[.int .i64 (ft 0), .int .i64 (ft 1), .int .i64 (ft 2), .int .i64 (ft 3), .int .i64 (ft 4), .int .i64 (ft 5)] 26)).alloc (.cells #[.int .i64 (f0 0), .int .i64 (f0 1), .int .i64 (f0 2), .int .i64 (f0 3), .int .i64 (f0 4), .int .i64 (f0 5)] 26)).drew) n0 26 ft ∧ Kp wr (((wr.alloc (.cells #[.int .i64 (ft 0), .int .i64 (ft 1), .int .i64 (ft 2), .int .i64 (ft 3), .int .i64 (ft 4), .int .i64 (ft 5)] 26)).alloc (.cells #[.int .i64 (f0 0), .int .i64 (f0 1), .int .i64 (f0 2), .int .i64 (f0 3), .int .i64 (f0 4), .int .i64 (f0 5)] 26)).drew) from
            ⟨(VBlk.new _ _ f0 (n0 + 1) (by simp [hn0])).keep (G := fun _ => True) ((Keeps.refl _ _).drew) trivial, ((VBlk.new wr _ ft n0 hn0.symm).keep (G := fun _ => True) ((Keeps.refl _ _).alloc _) trivial).keep (G := fun _ => True) ((Keeps.refl _ _).drew) trivial, (((Keeps.refl _ _).alloc _).alloc _).drew⟩)
          obtain ⟨b00, b01, b02, b03, b04, b05⟩ := (HVR.out (((wr.alloc (.cells #[.int .i64 0, .int .i64 0, .int .i64 0, .int .i64 0, .int .i64 0, .int .i64 0] 26)).alloc (.cells #[.int .i64 0, .int .i64 0, .int .i64 0, .int .i64 0, .int .i64 0, .int .i64 0] 26)).drew) ((((Keeps.refl _ _).alloc _).alloc _).drew)).six htl
          rw [hft] at b00 b01 b02 b03 b04 b05
          obtain ⟨c00, c01, c02, c03, c04, c05⟩ := (HVR.out (((wr.alloc (.cells #[.int .i64 0, .int .i64 0, .int .i64 0, .int .i64 0, .int .i64 0, .int .i64 0] 26)).alloc (.cells #[.int .i64 0, .int .i64 0, .int .i64 0, .int .i64 0, .int .i64 0, .int .i64 0] 26)).drew) ((((Keeps.refl _ _).alloc _).alloc _).drew)).six h0l
          rw [hf0, Nat.zero_mul] at c00 c01 c02 c03 c04 c05
          obtain ⟨b10, b11, b12, b13, b14, b15⟩ := (HVR.out (((wr.alloc (.cells #[.int .i64 (f0 0), .int .i64 (f0 1), .int .i64 (f0 2), .int .i64 (f0 3), .int .i64 (f0 4), .int .i64 (f0 5)] 26)).alloc (.cells #[.int .i64 0, .int .i64 0, .int .i64 0, .int .i64 0, .int .i64 0, .int .i64 0] 26)).drew) ((((Keeps.refl _ _).alloc _).alloc _).drew)).six htl
          rw [hft] at b10 b11 b12 b13 b14 b15
          obtain ⟨c10, c11, c12, c13, c14, c15⟩ := (HVR.out (((wr.alloc (.cells #[.int .i64 (f0 0), .int .i64 (f0 1), .int .i64 (f0 2), .int .i64 (f0 3), .int .i64 (f0 4), .int .i64 (f0 5)] 26)).alloc (.cells #[.int .i64 0, .int .i64 0, .int .i64 0, .int .i64 0, .int .i64 0, .int .i64 0] 26)).drew) ((((Keeps.refl _ _).alloc _).alloc _).drew)).six h0l
          rw [hf0, Nat.zero_mul] at c10 c11 c12 c13 c14 c15
          obtain ⟨b20, b21, b22, b23, b24, b25⟩ := (HVR.out (((wr.alloc (.cells #[.int .i64 0, .int .i64 0, .int .i64 0, .int .i64 0, .int .i64 0, .int .i64 0] 26)).alloc (.cells #[.int .i64 (f0 0), .int .i64 (f0 1), .int .i64 (f0 2), .int .i64 (f0 3), .int .i64 (f0 4), .int .i64 (f0 5)] 26)).drew) ((((Keeps.refl _ _).alloc _).alloc _).drew)).six htl
          rw [hft] at b20 b21 b22 b23 b24 b25
          obtain ⟨c20, c21, c22, c23, c24, c25⟩ := (HVR.out (((wr.alloc (.cells #[.int .i64 0, .int .i64 0, .int .i64 0, .int .i64 0, .int .i64 0, .int .i64 0] 26)).alloc (.cells #[.int .i64 (f0 0), .int .i64 (f0 1), .int .i64 (f0 2), .int .i64 (f0 3), .int .i64 (f0 4), .int .i64 (f0 5)] 26)).drew) ((((Keeps.refl _ _).alloc _).alloc _).drew)).six h0l
          rw [hf0, Nat.zero_mul] at c20 c21 c22 c23 c24 c25
          obtain ⟨d00, d01, d02, d03, d04, d05⟩ := (HVR.out (wr.drew) ((Keeps.refl _ _).drew)).six htl
          rw [hft] at d00 d01 d02 d03 d04 d05
          obtain ⟨e00, e01, e02, e03, e04, e05⟩ := (HVR.out (wr.drew) ((Keeps.refl _ _).drew)).six h0l
          rw [hf0, Nat.zero_mul] at e00 e01 e02 e03 e04 e05
          obtain ⟨d10, d11, d12, d13, d14, d15⟩ := (HVR.out ((wr.alloc (.cells #[.int .i64 0, .int .i64 0, .int .i64 0, .int .i64 0, .int .i64 0, .int .i64 0] 26)).drew) (((Keeps.refl _ _).alloc _).drew)).six htl
          rw [hft] at d10 d11 d12 d13 d14 d15
          obtain ⟨e10, e11, e12, e13, e14, e15⟩ := (HVR.out ((wr.alloc (.cells #[.int .i64 0, .int .i64 0, .int .i64 0, .int .i64 0, .int .i64 0, .int .i64 0] 26)).drew) (((Keeps.refl _ _).alloc _).drew)).six h0l
          rw [hf0, Nat.zero_mul] at e10 e11 e12 e13 e14 e15
          have hlx : g < n0 := by have := HGL.out.2; omega
          clear hf0 hft
          go_region
          all_goals (
            go_wp2_with fail
            go_meet
            first | exact ⟨n0, n0 + 1, rfl, rfl, Lib.hid ⟨by omega, by omega, by omega⟩, Lib.hid ⟨HFA.out.1, HFA.out.2.1⟩, Lib.hid HFA.out.2.2⟩ | exact ⟨n0 + 1, n0, rfl, rfl, Lib.hid ⟨by omega, by omega, by omega⟩, Lib.hid ⟨HFB.out.1, HFB.out.2.1⟩, Lib.hid HFB.out.2.2⟩)
        case rest =>
          obtain ⟨q8, q9, rfl, rfl, HQ, HB, HKX⟩ := hcut
          have hq89 := HQ.out.1
          have H89 := Lib.hid hq89
          have HQ2 := Lib.hid (show g < q8 ∧ g < q9 ∧ w.heap.size ≤ q8 ∧ w.heap.size ≤ q9 from by
            have _h1 := HQ.out
            have _h2 := HGL.out
            have h3 := HKR.out.size
            have h4 := HNE.out
            exact ⟨by omega, by omega, by omega, by omega⟩)
          have HV8 := Lib.hid (show VBlk wc q8 26 (maxF f0 (fs.take 0)) from HB.out.1)
          have HV9 := Lib.hid (show VBlk wc q9 26 (maxF ft (rotR fs (N % m) 0)) from HB.out.2)
          have HVC := Lib.hid (show ∀ w', Keeps (fun b => b ≠ q8 ∧ b ≠ q9) wc w' → VRow w' (some ⟨g, 0, none⟩) (fun _ => True) fs from fun w' hk => by
            have h := HVR.out wc HKX.out
            have _h2 : Row wc (some ⟨g, 0, none⟩) (fun b => b = g) (vrow fs) := fun hne => by
              obtain ⟨b, o, e, -, hc⟩ := h hne
              injection e with e
              injection e with e1 e2
              exact ⟨b, o, by rw [← e1, ← e2], e1.symm, hc⟩
            exact (_h2.keep (hk.mono fun b _ hb => by
              have h3 := HQ2.out
              subst hb
              exact ⟨by omega, by omega⟩)).mono fun _ _ _ => trivial)
          have HKC := Lib.hid (HKR.out.trans HKX.out)
          have HTC := Lib.hid (S.tk HT.out HKC.out)
          have hNm : N % m ≤ 8 := by have := Nat.mod_lt N hm1; omega
          clear hq89 HQ HB HKX HVR HGL HKR HNE hn0 hf0 hft htl h0l hrm hrm2
          go_upto_region 12 with fail
          go_wp2_with fail
          go_loopw [10] (fun i wr => ∃ k : Nat, k ≤ m ∧ i = .int .i64 (k : Int) ∧ Hid (VBlk wr q8 26 (maxF f0 (fs.take k))) ∧ Hid (VBlk wr q9 26 (maxF ft (rotR fs (N % m) k))) ∧ Hid (Keeps (fun b => b ≠ q8 ∧ b ≠ q9) wc wr)) (fun i _ => m - (intOf i).toNat)
          case atStart => exact ⟨0, Nat.zero_le _, rfl, HV8, HV9, Lib.hid (Keeps.refl _ _)⟩
          case round =>
            clear HV8 HV9
            obtain ⟨k, hk, rfl, HV8, HV9, HKW⟩ := hrel
            by_cases hkm : k < m
            · have t1 : decide ((k : Int) < (m : Int)) = true := by simp; omega
              have t1' : decide (k < m) = true := by simp; omega
              have hkl : k < fs.length := by rw [HFL.out]; exact hkm
              have hjm : (k + N % m) % m < m := Nat.mod_lt _ hm1
              have hjl : (k + N % m) % m < fs.length := by rw [HFL.out]; exact hjm
              obtain ⟨fk, hfk⟩ : ∃ fk, fs[k] = fk := ⟨_, rfl⟩
              obtain ⟨fj, hfj⟩ : ∃ fj, fs[(k + N % m) % m] = fj := ⟨_, rfl⟩
              have HNA := Lib.hid (show maxF f0 (fs.take (k + 1)) = maxF (maxF f0 (fs.take k)) [fk] from by rw [List.take_succ_eq_append_getElem hkl, maxF_snoc, hfk])
              have HNB := Lib.hid (show maxF ft (rotR fs (N % m) (k + 1)) = maxF (maxF ft (rotR fs (N % m) k)) [fj] from by
                rw [rotR_next, maxF_snoc, HFL.out, List.getD_eq_getElem?_getD, List.getElem?_eq_getElem hjl, hfj]
                rfl)
              have HOA := Lib.hid (show VOk (maxF f0 (fs.take k)) from (HOK.out f0 HF0.out.1).max_ fun x hx => HOK.out x (List.mem_of_mem_take hx))
              have HOB := Lib.hid (show VOk (maxF ft (rotR fs (N % m) k)) from (HOK.out ft HFT.out.1).max_ fun x hx => by
                obtain ⟨i, hi, rfl⟩ := List.mem_map.1 hx
                have hl : (i + N % m) % fs.length < fs.length := Nat.mod_lt _ (by omega)
                rw [List.getD_eq_getElem?_getD, List.getElem?_eq_getElem hl]
                exact HOK.out _ (List.getElem_mem hl))
              have HOK1 := Lib.hid (show ∀ x ∈ [fk], VOk x from fun x hx => by rw [List.mem_singleton.1 hx, ← hfk]; exact HOK.out _ (List.getElem_mem hkl))
              have HOJ1 := Lib.hid (show ∀ x ∈ [fj], VOk x from fun x hx => by rw [List.mem_singleton.1 hx, ← hfj]; exact HOK.out _ (List.getElem_mem hjl))
              have HSK := Lib.hid (show ∀ w', Keeps (fun b => b ≠ q8 ∧ b ≠ q9) wc w' → SixR w' g k fk from fun w' hk => by rw [← hfk]; exact (HVC.out w' hk).six hkl)
              have HSJ := Lib.hid (show ∀ w', Keeps (fun b => b ≠ q8 ∧ b ≠ q9) wc w' → SixR w' g ((k + N % m) % m) fj from fun w' hk => by rw [← hfj]; exact (HVC.out w' hk).six hjl)
              have kw : ∀ w', Keeps (fun b => b ≠ q8 ∧ b ≠ q9) wc w' → Kp w w' := fun w' k => by
                have h := HKC.out
                have hq := HQ2.out
                exact ⟨k.os.trans h.os, k.tape.trans h.tape, k.output.trans h.output, Nat.le_trans h.size k.size, fun b _ hb => (k.block b ⟨by omega, by omega⟩ (Nat.lt_of_lt_of_le hb h.size)).trans (h.block b trivial hb)⟩
              have HT0 := Lib.hid (S.tk HT.out (kw _ HKW.out))
              generalize maxF f0 (fs.take k) = fa at HV8 HNA HOA
              generalize maxF ft (rotR fs (N % m) k) = fb at HV9 HNB HOB
              clear hfk hfj hkl hjl
              go_upto_region 15 with fail
              refine wp_region_tail (R := Kp) (V := Vk [.v (vagg fa), .v (.slice (some ⟨g, 0, none⟩) m c2), .v (.int .i64 (k : Int)), .v (.pointer (some ⟨g, k * 6, none⟩)), .v (vagg fk), .n [fk], .v (vagg (maxF fa [fk])), .any]) (w0 := wr) 7 (Gl []) (by kernel_rfl) (by decide) (fun w => Keeps.refl _ w) (fun _ _ _ h k => h.trans k) (Vk_keep _) (by kernel_rfl) (Gl_is (by intro p hp; cases hp)) (fun i o ho hw => (all_wanted (by kernel_rfl) ho hw).elim) (by kernel_rfl) (by kernel_rfl) ((Keeps.refl _ wr).drew) ?_ ?_
              · intro i o hi ho hw a1 w3 L
                have hi : i = 0 ∨ i = 1 ∨ i = 2 ∨ i = 3 ∨ i = 4 ∨ i = 5 ∨ i = 6 := by omega
                rcases hi with rfl | rfl | rfl | rfl | rfl | rfl | rfl
                · cases ho; exact kp_ldV (HV8.out.keep L.rel trivial) rfl (L.old 8 (by kernel_rfl))
                · cases ho; exact kp_move rfl (L.old 6 (by kernel_rfl))
                · cases ho; exact kp_move rfl (L.old 10 (by kernel_rfl))
                · cases ho; exact kp_ixR hkm rfl (L.val 1 59 (by kernel_rfl) (by kernel_rfl)) (L.val 2 60 (by kernel_rfl) (by kernel_rfl))
                · cases ho; exact kp_ldR (HSK.out _ (HKW.out.trans (L.rel.mono fun _ _ _ => trivial))) rfl (L.val 3 61 (by kernel_rfl) (by kernel_rfl))
                · cases ho; exact kp_vs1 rfl (L.val 4 62 (by kernel_rfl) (by kernel_rfl))
                · cases ho; exact kp_max S (S.tk HT0.out L.rel) HOA.out HOK1.out (by simp) rfl (L.val 0 58 (by kernel_rfl) (by kernel_rfl)) (L.val 5 63 (by kernel_rfl) (by kernel_rfl))
              · intro vs w7 hk7 hlen7 hv
                match vs, hlen7 with
                | [u0, u1, u2, u3, u4, u5, u6], _ =>
                  have h6 : u6 = vagg (maxF fa [fk]) := hv 6 64 (by decide) (by kernel_rfl)
                  subst h6
                  have HV97 := Lib.hid (HV9.out.keep hk7 trivial)
                  have hb8 := HV8.out.keep hk7 trivial
                  have HKW7 := Lib.hid (HKW.out.trans (hk7.mono fun _ _ _ => trivial))
                  clear hv hk7
                  change wpList _ _ _ (_ :: []) _ _
                  simp only [putAll, List.map, List.take, Act.put, List.setIfInBounds_toArray, List.set_cons_succ, List.set_cons_zero]
                  refine list_st6 (maxF fa [fk]) rfl 26 _ _ rfl (by kernel_rfl) hb8 rfl rfl fun w8 hb8' hk8 => ?_
                  have HV88 := Lib.hid (show VBlk w8 q8 26 (maxF f0 (fs.take (k + 1))) from by rw [HNA.out]; exact hb8')
                  have HV98 := Lib.hid (HV97.out.keep hk8 (fun e => H89.out e.symm))
                  have HKW8 := Lib.hid (HKW7.out.trans (hk8.mono fun b _ h => h.1))
                  have HT1 := Lib.hid (S.tk HT.out (kw _ HKW8.out))
                  clear hb8 hb8' hk8 HV97 HKW7 HV8 HV9 HKW HT0
                  simp only [Act.put]
                  go_upto_region 16 with fail
                  refine wp_region_tail (R := Kp) (V := Vk [.v (vagg fb), .v (.slice (some ⟨g, 0, none⟩) m c2), .v (.int .i64 (k : Int)), .v (.int .i64 (N : Int)), .v (.slice (some ⟨g, 0, none⟩) m c2), .v (.int .i64 (m : Int)), .v (.int .i64 ((N % m : Nat) : Int)), .v (.int .i64 ((k + N % m : Nat) : Int)), .v (.slice (some ⟨g, 0, none⟩) m c2), .v (.int .i64 (m : Int)), .v (.int .i64 (((k + N % m) % m : Nat) : Int)), .v (.pointer (some ⟨g, ((k + N % m) % m) * 6, none⟩)), .v (vagg fj), .n [fj], .v (vagg (maxF fb [fj])), .any]) (w0 := w8) 15 (Gl []) (by kernel_rfl) (by decide) (fun w => Keeps.refl _ w) (fun _ _ _ h k => h.trans k) (Vk_keep _) (by kernel_rfl) (Gl_is (by intro p hp; cases hp)) (fun i o ho hw => (all_wanted (by kernel_rfl) ho hw).elim) (by kernel_rfl) (by kernel_rfl) ((Keeps.refl _ w8).drew) ?_ ?_
                  · intro i o hi ho hw a1 w3 L
                    have hi : i = 0 ∨ i = 1 ∨ i = 2 ∨ i = 3 ∨ i = 4 ∨ i = 5 ∨ i = 6 ∨ i = 7 ∨ i = 8 ∨ i = 9 ∨ i = 10 ∨ i = 11 ∨ i = 12 ∨ i = 13 ∨ i = 14 := by omega
                    rcases hi with rfl | rfl | rfl | rfl | rfl | rfl | rfl | rfl | rfl | rfl | rfl | rfl | rfl | rfl | rfl
                    · cases ho; exact kp_ldV (HV98.out.keep L.rel trivial) rfl (L.old 9 (by kernel_rfl))
                    · cases ho; exact kp_move rfl (L.old 6 (by kernel_rfl))
                    · cases ho; exact kp_move rfl (L.old 10 (by kernel_rfl))
                    · cases ho; exact kp_move rfl (L.old 1 (by kernel_rfl))
                    · cases ho; exact kp_move rfl (L.old 6 (by kernel_rfl))
                    · cases ho; exact kp_lenR rfl (L.val 4 69 (by kernel_rfl) (by kernel_rfl))
                    · cases ho; exact kp_remZ hNb hm1 rfl (L.val 3 68 (by kernel_rfl) (by kernel_rfl)) (L.val 5 70 (by kernel_rfl) (by kernel_rfl))
                    · cases ho; exact kp_addZ (by omega) (by omega) rfl (L.val 2 67 (by kernel_rfl) (by kernel_rfl)) (L.val 6 71 (by kernel_rfl) (by kernel_rfl))
                    · cases ho; exact kp_move rfl (L.old 6 (by kernel_rfl))
                    · cases ho; exact kp_lenR rfl (L.val 8 73 (by kernel_rfl) (by kernel_rfl))
                    · cases ho; exact kp_remZ (by omega) hm1 rfl (L.val 7 72 (by kernel_rfl) (by kernel_rfl)) (L.val 9 74 (by kernel_rfl) (by kernel_rfl))
                    · cases ho; exact kp_ixR hjm rfl (L.val 1 66 (by kernel_rfl) (by kernel_rfl)) (L.val 10 75 (by kernel_rfl) (by kernel_rfl))
                    · cases ho; exact kp_ldR (HSJ.out _ (HKW8.out.trans (L.rel.mono fun _ _ _ => trivial))) rfl (L.val 11 76 (by kernel_rfl) (by kernel_rfl))
                    · cases ho; exact kp_vs1 rfl (L.val 12 77 (by kernel_rfl) (by kernel_rfl))
                    · cases ho; exact kp_max S (S.tk HT1.out L.rel) HOB.out HOJ1.out (by simp) rfl (L.val 0 65 (by kernel_rfl) (by kernel_rfl)) (L.val 13 78 (by kernel_rfl) (by kernel_rfl))
                  · intro vs2 w9 hk9 hlen9 hv2
                    match vs2, hlen9 with
                    | [v0, v1, v2, v3, v4, v5, v6, v7, v8, v9, v10, v11, v12, v13, v14], _ =>
                      have h14 : v14 = vagg (maxF fb [fj]) := hv2 14 79 (by decide) (by kernel_rfl)
                      subst h14
                      have HV89 := Lib.hid (HV88.out.keep hk9 trivial)
                      have hb9 := HV98.out.keep hk9 trivial
                      have HKW9 := Lib.hid (HKW8.out.trans (hk9.mono fun _ _ _ => trivial))
                      clear hv2 hk9
                      change wpList _ _ _ (_ :: []) _ _
                      simp only [putAll, List.map, List.take, Act.put, List.setIfInBounds_toArray, List.set_cons_succ, List.set_cons_zero]
                      refine list_st6 (maxF fb [fj]) rfl 26 _ _ rfl (by kernel_rfl) hb9 rfl rfl fun w10 hb9' hk10 => ?_
                      have HV810 := Lib.hid (HV89.out.keep hk10 H89.out)
                      have HV910 := Lib.hid (show VBlk w10 q9 26 (maxF ft (rotR fs (N % m) (k + 1))) from by rw [HNB.out]; exact hb9')
                      have HKW10 := Lib.hid (HKW9.out.trans (hk10.mono fun b _ h => h.2))
                      clear hb9 hb9' hk10 HV89 HKW9 HV88 HV98 HKW8 HT1 kw hjm
                      simp only [Act.put]
                      go_wp2_with fail
                      go_roundw
                      case rel => exact ⟨k + 1, by omega, by go_num, HV810, HV910, HKW10⟩
                      case measure => simp [intOf]; omega
            · have t1 : decide ((k : Int) < (m : Int)) = false := by simp; omega
              have t1' : decide (k < m) = false := by simp; omega
              obtain rfl : m = k := by omega
              have hv8 := HV8.out
              rw [List.take_of_length_le (by rw [HFL.out]; exact Nat.le_refl _)] at hv8
              have HV8F := Lib.hid hv8
              obtain ⟨MM, hMM⟩ : ∃ MM, maxF f0 fs = MM := ⟨_, rfl⟩
              have hmem := rotR_mem (gs := fs) (by rw [HFL.out]; exact hm1) (N % m)
              rw [HFL.out] at hmem
              have HEA := Lib.hid (show eqB (maxF f0 fs) MM = true from by rw [← hMM]; exact eqB_refl _)
              have HEB := Lib.hid (show eqB (maxF ft (rotR fs (N % m) m)) MM = true from by
                rw [← hMM]
                exact eqB_iff.2 fun i _ => maxF_same HFT.out.1 hmem.1 (hmem.2 f0 HF0.out.1) hmem.2 i)
              have HHA := Lib.hid (show ∀ x ∈ fs, hasB MM x = true from fun x hx => by rw [← hMM]; exact hasB_iff.2 fun i _ => (maxF_ge f0 fs i).2 x hx)
              have HHB := Lib.hid (show ∀ x ∈ fs, hasB x (minF f0 fs) = true from fun x hx => hasB_iff.2 fun i _ => (minF_le f0 fs i).2 x hx)
              have HOM := Lib.hid (show VOk MM from by rw [← hMM]; exact (HOK.out f0 HF0.out.1).max_ HOK.out)
              have HON := Lib.hid (show VOk (minF f0 fs) from (HOK.out f0 HF0.out.1).min_ HOK.out)
              have HO8 := Lib.hid (show VOk (maxF f0 fs) from (HOK.out f0 HF0.out.1).max_ HOK.out)
              have HO9 := Lib.hid (show VOk (maxF ft (rotR fs (N % m) m)) from (HOK.out ft HFT.out.1).max_ fun x hx => HOK.out x (hmem.1 x hx))
              have HKW2 := Lib.hid (show Kp w wr from by
                have k := HKW.out
                have h := HKC.out
                have hq := HQ2.out
                exact ⟨k.os.trans h.os, k.tape.trans h.tape, k.output.trans h.output, Nat.le_trans h.size k.size, fun b _ hb => (k.block b ⟨by omega, by omega⟩ (Nat.lt_of_lt_of_le hb h.size)).trans (h.block b trivial hb)⟩)
              have HVW := Lib.hid (show ∀ w', Kp wr w' → VRow w' (some ⟨g, 0, none⟩) (fun _ => True) fs from fun w' hk => Row.keep (HVC.out wr HKW.out) hk)
              have HMX := Lib.hid (show Calls Try.prog 12 #[vagg f0, .slice (some ⟨g, 0, none⟩) m c2] wr fun e w' => e = .returned (vagg MM) ∧ Kp wr w' from by
                rw [← hMM]
                have h := S.max_ wr f0 (some ⟨g, 0, none⟩) c2 fs (S.tk HT.out HKW2.out) (HOK.out f0 HF0.out.1) HOK.out (HVW.out wr (Keeps.refl _ _)) (by rw [HFL.out]; exact hc2) HC2.out
                rwa [HFL.out] at h)
              have h0l : 0 < fs.length := by rw [HFL.out]; exact hm1
              have hs0 := (HVW.out wr (Keeps.refl _ _)).six h0l
              rw [show fs[0] = f0 from by have := HF0.out.2; rw [List.getElem?_eq_getElem h0l] at this; injection this] at hs0
              obtain ⟨a0, a1, a2, a3, a4, a5⟩ := hs0
              rw [Nat.zero_mul] at a0 a1 a2 a3 a4 a5
              unfold vagg vcells at HMX
              generalize maxF f0 fs = fx at HV8F HEA HO8
              generalize maxF ft (rotR fs (N % m) m) = fy at HV9 HEB HO9
              clear hv8 hmem hMM hkm hk HV8 HKW HVC HKC HTC hNm
              go_wp2_with fail
              refine (show Calls _ _ _ _ _ from HMX.out).mono ?_
              rintro e w5 ⟨rfl, hk5⟩
              have HK5 := Lib.hid hk5
              clear hk5 HMX a0 a1 a2 a3 a4 a5
              obtain ⟨pm, hpm⟩ : ∃ pm, w5.heap.size = pm := ⟨_, rfl⟩
              have HN := Lib.hid (show ∀ wd, wd = w5.alloc (.cells (vcells MM) 26) → VBlk wd pm 26 MM ∧ Kp wr wd from by
                rintro wd rfl
                exact ⟨VBlk.new w5 _ MM pm hpm.symm, HK5.out.alloc _⟩)
              unfold vcells at HN
              go_wp2_with fail
              obtain ⟨h1', h2'⟩ := HN.out _ rfl
              try rw [hpm]
              generalize w5.alloc (.cells #[.int .i64 (MM 0), .int .i64 (MM 1), .int .i64 (MM 2), .int .i64 (MM 3), .int .i64 (MM 4), .int .i64 (MM 5)] 26) = wd at h1' h2' ⊢
              have HVM := Lib.hid h1'
              have HV8D := Lib.hid (HV8F.out.keep h2' trivial)
              have HV9D := Lib.hid (HV9.out.keep h2' trivial)
              have HVD := Lib.hid (show ∀ w', Kp wd w' → VRow w' (some ⟨g, 0, none⟩) (fun _ => True) fs from fun w' hk => HVW.out w' (h2'.trans hk))
              have HKD := Lib.hid (HKW2.out.trans h2')
              clear h1' h2' hpm HN HK5 HV8F HV9 HVW HKW2
              go_loopw [12] (fun i wr => ∃ k : Nat, k ≤ m ∧ i = .int .i64 (k : Int) ∧ Hid (Kp wd wr)) (fun i _ => m - (intOf i).toNat)
              case atStart => exact ⟨0, Nat.zero_le _, rfl, Lib.hid (Keeps.refl _ _)⟩
              case round =>
                obtain ⟨k, hk, rfl, HKL⟩ := hrel
                by_cases hkm : k < m
                · have t1 : decide ((k : Int) < (m : Int)) = true := by simp; omega
                  have t1' : decide (k < m) = true := by simp; omega
                  have hkl : k < fs.length := by rw [HFL.out]; exact hkm
                  obtain ⟨fk, hfk⟩ : ∃ fk, fs[k] = fk := ⟨_, rfl⟩
                  have hfm : fk ∈ fs := by rw [← hfk]; exact List.getElem_mem hkl
                  have HFK := Lib.hid (show VOk fk ∧ hasB MM fk = true ∧ hasB fk (minF f0 fs) = true from ⟨HOK.out fk hfm, HHA.out fk hfm, HHB.out fk hfm⟩)
                  have HOFK := Lib.hid HFK.out.1
                  have HOF0 := Lib.hid (HOK.out f0 HF0.out.1)
                  have HSK := Lib.hid (show ∀ w', Kp wd w' → SixR w' g k fk from fun w' hk => by rw [← hfk]; exact (HVD.out w' hk).six hkl)
                  have HS0 := Lib.hid (show ∀ w', Kp wd w' → SixR w' g 0 f0 from fun w' hk => by
                    have h := (HVD.out w' hk).six h0l
                    rwa [show fs[0] = f0 from by have := HF0.out.2; rw [List.getElem?_eq_getElem h0l] at this; injection this] at h)
                  have HVML := Lib.hid (HVM.out.keep HKL.out trivial)
                  have HT0 := Lib.hid (S.tk HT.out (HKD.out.trans HKL.out))
                  clear hfk hfm hkl
                  go_upto_region 21 with fail
                  refine wp_region_guard (R := Kp) (V := Vk [.v (vagg MM), .v (.slice (some ⟨g, 0, none⟩) m c2), .v (.int .i64 (k : Int)), .v (.pointer (some ⟨g, k * 6, none⟩)), .v (vagg fk), .v (.bool true), .v (.bool false), .v (.bool false), .v (.slice (some ⟨g, 0, none⟩) m c2), .v (.int .i64 (k : Int)), .v (.pointer (some ⟨g, k * 6, none⟩)), .v (vagg fk), .v (.slice (some ⟨g, 0, none⟩) m c2), .v (.pointer (some ⟨g, 0 * 6, none⟩)), .v (vagg f0), .v (.slice (some ⟨g, 0, none⟩) m c2), .v (vagg (minF f0 fs)), .v (.bool true), .v (.bool false), .v (.bool false)]) (w0 := wr) (Gl [(7, false)]) (by kernel_rfl) (fun w => Keeps.refl _ w) (fun _ _ _ h k => h.trans k) (Vk_keep _) (by kernel_rfl) (Gl_is (by intro p hp; simp only [List.mem_cons, List.not_mem_nil, or_false] at hp; rcases hp with rfl <;> rfl)) (fun i o ho hw => (all_wanted (by kernel_rfl) ho hw).elim) ((Keeps.refl _ wr).drew) (each_of ?_) ?_
                  · refine ⟨?_, ?_, ?_, ?_, ?_, ?_, ?_, ?_, ?_, ?_, ?_, ?_, ?_, ?_, ?_, ?_, ?_, ?_, ?_, ?_, trivial⟩ <;> intro hw a1 w3 L
                    · exact kp_ldV (HVML.out.keep L.rel trivial) rfl (L.old 11 (by kernel_rfl))
                    · exact kp_move rfl (L.old 6 (by kernel_rfl))
                    · exact kp_move rfl (L.old 12 (by kernel_rfl))
                    · exact kp_ixR hkm rfl (L.val 1 92 (by kernel_rfl) (by kernel_rfl)) (L.val 2 93 (by kernel_rfl) (by kernel_rfl))
                    · exact kp_ldR (HSK.out _ (HKL.out.trans L.rel)) rfl (L.val 3 94 (by kernel_rfl) (by kernel_rfl))
                    · exact kp_has S (S.tk HT0.out L.rel) HOM.out HOFK.out HFK.out.2.1 rfl (L.val 0 91 (by kernel_rfl) (by kernel_rfl)) (L.val 4 95 (by kernel_rfl) (by kernel_rfl))
                    · exact kp_notV rfl rfl (L.val 5 96 (by kernel_rfl) (by kernel_rfl))
                    · exact kp_move rfl (L.val 6 97 (by kernel_rfl) (by kernel_rfl))
                    · exact kp_move rfl (L.old 6 (by kernel_rfl))
                    · exact kp_move rfl (L.old 12 (by kernel_rfl))
                    · exact kp_ixR hkm rfl (L.val 8 99 (by kernel_rfl) (by kernel_rfl)) (L.val 9 100 (by kernel_rfl) (by kernel_rfl))
                    · exact kp_ldR (HSK.out _ (HKL.out.trans L.rel)) rfl (L.val 10 101 (by kernel_rfl) (by kernel_rfl))
                    · exact kp_move rfl (L.old 6 (by kernel_rfl))
                    · exact kp_ixR hm1 rfl (L.val 12 103 (by kernel_rfl) (by kernel_rfl)) rfl
                    · exact kp_ldR (HS0.out _ (HKL.out.trans L.rel)) rfl (L.val 13 104 (by kernel_rfl) (by kernel_rfl))
                    · exact kp_move rfl (L.old 6 (by kernel_rfl))
                    · exact kp_minR S (S.tk HT0.out L.rel) HOF0.out HOK.out (HVD.out _ (HKL.out.trans L.rel)) HFL.out.symm (by rw [HFL.out]; exact hc2) HC2.out rfl (L.val 14 105 (by kernel_rfl) (by kernel_rfl)) (L.val 15 106 (by kernel_rfl) (by kernel_rfl))
                    · exact kp_has S (S.tk HT0.out L.rel) HOFK.out HON.out HFK.out.2.2 rfl (L.val 11 102 (by kernel_rfl) (by kernel_rfl)) (L.val 16 107 (by kernel_rfl) (by kernel_rfl))
                    · exact kp_notV rfl rfl (L.val 17 108 (by kernel_rfl) (by kernel_rfl))
                    · exact kp_pick rfl (L.val 7 98 (by kernel_rfl) (by kernel_rfl)) (L.val 18 109 (by kernel_rfl) (by kernel_rfl))
                  · intro vs w7 hk7 hlen7 hv
                    match vs, hlen7 with
                    | [u0, u1, u2, u3, u4, u5, u6, u7, u8, u9, u10, u11, u12, u13, u14, u15, u16, u17, u18, u19], _ =>
                    have hx19 : u19 = .bool false := hv 19 110 (by kernel_rfl)
                    subst hx19
                    have HK7 := Lib.hid (HKL.out.trans hk7)
                    clear hv hk7
                    simp only [putAll, List.map, Act.put, List.setIfInBounds_toArray, List.set_cons_succ, List.set_cons_zero, Exit.then]
                    go_wp2_with fail
                    go_roundw
                    case rel => exact ⟨k + 1, by omega, by go_num, HK7⟩
                    case measure => simp [intOf]; omega
                · have t1 : decide ((k : Int) < (m : Int)) = false := by simp; omega
                  have t1' : decide (k < m) = false := by simp; omega
                  obtain rfl : m = k := by omega
                  have HS1 := Lib.hid (show ∀ w', Kp wd w' → Calls Try.prog 11 #[vagg fx, vagg MM] w' fun e w2 => e = .returned (.bool true) ∧ Kp w' w2 from fun w' hk => by
                    rw [← HEA.out]; exact same_any S w' (S.tk HT.out (HKD.out.trans hk)) fx MM HO8.out)
                  have HS2 := Lib.hid (show ∀ w', Kp wd w' → Calls Try.prog 11 #[vagg fy, vagg MM] w' fun e w2 => e = .returned (.bool true) ∧ Kp w' w2 from fun w' hk => by
                    rw [← HEB.out]; exact same_any S w' (S.tk HT.out (HKD.out.trans hk)) fy MM HO9.out)
                  unfold vagg vcells at HS1 HS2
                  obtain ⟨a0, a1, a2, a3, a4, a5⟩ := HV8D.out.six HKL.out
                  obtain ⟨b0, b1, b2, b3, b4, b5⟩ := HVM.out.six HKL.out
                  go_wp2_with fail
                  refine (show Calls _ _ _ _ _ from HS1.out wr HKL.out).mono ?_
                  rintro e w6 ⟨rfl, hk6⟩
                  have HK6 := Lib.hid (HKL.out.trans hk6)
                  clear hk6 a0 a1 a2 a3 a4 a5 b0 b1 b2 b3 b4 b5
                  obtain ⟨a0, a1, a2, a3, a4, a5⟩ := HV9D.out.six HK6.out
                  obtain ⟨b0, b1, b2, b3, b4, b5⟩ := HVM.out.six HK6.out
                  go_wp2_with fail
                  refine (show Calls _ _ _ _ _ from HS2.out w6 HK6.out).mono ?_
                  rintro e w7 ⟨rfl, hk7⟩
                  have HK7 := Lib.hid (HKD.out.trans (HK6.out.trans hk7))
                  clear hk7
                  go_wp2_with fail
                  go_ret
                  exact ⟨rfl, HK7.out.below⟩

end Go.Proofs.Ytdgpdooikfamlaa.vectorMany
