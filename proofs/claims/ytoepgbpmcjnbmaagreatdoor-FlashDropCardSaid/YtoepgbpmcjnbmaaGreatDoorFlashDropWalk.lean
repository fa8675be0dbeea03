/-
  FlashDrop, walked over what a cache keeps.
-/
import Derived.Test.YtoepgbpmcjnbmaaGreatDoorFlashDropMath
import Derived.BigQuiet
import Derived.Deep.QuietTactic
namespace Go.Proofs.YtoepgbpmcjnbmaaGreatDoor.flashDrop
open Go Go.RowKit Go.Joins
theorem src_name (W : World) (s : ByteArray) : Src Tryz.prog 1 46 (.slice (some ⟨W.heap.size, 0, none⟩) 1 1) 1 [.string s] (W.alloc (.cells #[.string s] 9)) :=
  src_one Tryz.underlying46 W (.string s) 9 rfl W.heap.size rfl 1
theorem turn (z : Int) (N : Nat) (h1 : 1 ≤ N) (h2 : N ≤ 12) : ∃ (t : Int) (k : Nat), z.tmod (N : Int) = t ∧ -12 ≤ t ∧ t ≤ 12 ∧ (t + (N : Int)).tmod (N : Int) = (k : Int) ∧ k < N := by
  have a1 := Int.tmod_lt_of_pos z (show (0 : Int) < (N : Int) by omega)
  have a2 := Int.tmod_lt_of_pos (-z) (show (0 : Int) < (N : Int) by omega)
  rw [Int.neg_tmod] at a2
  have a3 := Int.emod_nonneg (z.tmod (N : Int) + (N : Int)) (show (N : Int) ≠ 0 by omega)
  have a4 := Int.emod_lt_of_pos (z.tmod (N : Int) + (N : Int)) (show (0 : Int) < (N : Int) by omega)
  exact ⟨z.tmod (N : Int), ((z.tmod (N : Int) + (N : Int)) % (N : Int)).toNat, rfl, by omega, by omega, by rw [Int.tmod_eq_emod_of_nonneg (by omega)]; omega, by omega⟩
set_option maxRecDepth 100000 in
set_option maxHeartbeats 1000000 in
theorem walk (S : FlashOK) (w : World) (hT : S.T w) (n : Int) (_ : -9223372036854775808 ≤ n) (_ : n < 9223372036854775808) (D : Option Addr) (dc : Nat) (drop : List Int) (hdl : drop.length ≤ dc) (hdc : dc ≤ maxLen) (hD : Row w D (fun b => b < w.heap.size) (drop.map (Value.int .i64))) (hDf : ∀ z ∈ drop, -9223372036854775808 ≤ z ∧ z ≤ 9223372036854775807) (K : Option Addr) (kc : Nat) (keep : List Bool) (hkl : keep.length ≤ kc) (hkc : kc ≤ maxLen) (hK : Row w K (fun b => b < w.heap.size) (keep.map Value.bool)) : Calls Tryz.prog 8 #[.int .i64 n, .slice D drop.length dc, .slice K keep.length kc] w fun e w' => e = .returned (.bool true) ∧ Below w.heap.size w w' := by
  have HT := Lib.hid hT
  have HK := Lib.hid hK
  have HD := Lib.hid hD
  have HDF := Lib.hid hDf
  obtain ⟨kl, hl0⟩ : ∃ kl, keep.length = kl := ⟨_, rfl⟩
  obtain ⟨dl, hl1⟩ : ∃ dl, drop.length = dl := ⟨_, rfl⟩
  have HL := Lib.hid hl0
  have HDL := Lib.hid hl1
  have HKM := Lib.hid (show keep.length ≤ maxLen by omega)
  have hkm : kl ≤ 9223372036854775807 := by unfold maxLen at hkc; omega
  have hdm : dl ≤ 9223372036854775807 := by unfold maxLen at hdc; omega
  rw [hl0] at hkl ⊢
  rw [hl1] at hdl ⊢
  clear hT hK hl0 hkl hkc hD hDf hl1 hdl hdc
  have hcs : (decide (n < 1) = true) ∨ (decide (n < 1) = false ∧ decide (12 < n) = true) ∨ (decide (n < 1) = false ∧ decide (12 < n) = false ∧ decide ((60 : Int) < (kl : Int)) = true) ∨ (decide (n < 1) = false ∧ decide (12 < n) = false ∧ decide ((60 : Int) < (kl : Int)) = false) := by
    cases decide (n < 1) <;> cases decide (12 < n) <;> cases decide ((60 : Int) < (kl : Int)) <;> simp
  go_enter Tryz.func8, Tryz.ntmps8
  go_wp2_with fail
  refine (show Calls _ _ _ _ _ from begun9 S w HT.out).mono ?_
  rintro e w1 ⟨rfl, hk⟩
  have K1 := Lib.hid hk
  clear hk
  rcases hcs with c1 | ⟨c1, c2⟩ | ⟨c1, c2, c3⟩ | ⟨c1, c2, c3⟩
  · go_wp2_with fail
    go_ret
    exact ⟨rfl, K1.out.below⟩
  · go_wp2_with fail
    go_ret
    exact ⟨rfl, K1.out.below⟩
  · go_wp2_with fail
    go_ret
    exact ⟨rfl, K1.out.below⟩
  · have n1 : 1 ≤ n := by have := of_decide_eq_false c1; omega
    have n2 : n ≤ 12 := by have := of_decide_eq_false c2; omega
    obtain ⟨N, rfl⟩ : ∃ N : Nat, n = (N : Int) := ⟨n.toNat, by omega⟩
    have n3 : N ≤ 12 := by omega
    have n4 : 1 ≤ N := by omega
    clear n1 n2
    go_wp2_with fail
    refine (show Calls _ _ _ _ _ from fo_dev (X := fun _ => False) K1.out (fun _ h => h.elim) 400 (by decide) (by decide) 400 rfl).mono ?_
    rintro e w2 ⟨p, rfl, hB, -⟩
    have HB := Lib.hid hB
    clear hB K1 c1 c2 c3
    go_wp2_with fail
    refine (show Calls _ _ _ _ _ from fo_open HT.out HB.out 0 50 0 50 rfl rfl (by omega) (by omega) (by omega)).mono ?_
    rintro e w3 ⟨q, rfl, hF, -⟩
    have HF := Lib.hid (show Fo S w w3 p q (stD 0 0 1) false (fun _ => False) from hF)
    clear hF HB
    go_wp2_with fail
    go_loopw [11] (fun i wr => ∃ k gn : Nat, k ≤ N ∧ i = .int .i64 (k : Int) ∧ Hid (Fo S w wr p q (stD k gn (k + 1)) false (fun _ => False))) (fun i _ => N - (intOf i).toNat)
    case atStart => exact ⟨0, 0, Nat.zero_le _, rfl, HF⟩
    case round =>
      clear HF
      obtain ⟨k, gn, hk, rfl, HF⟩ := hrel
      by_cases hl : k < N
      · have hl' : (k : Int) < (N : Int) := by omega
        go_wp2_with fail
        refine (show Calls _ _ _ _ _ from fname_any wr k (by omega) _ rfl).mono ?_
        rintro e w4 ⟨rfl, hk4⟩
        have HF4 := Lib.hid (HF.out.keep hk4)
        clear hk4 HF
        go_wp2_with fail
        refine (show Calls _ _ _ _ _ from fo_put HT.out HF4.out (by show k + 1 ≤ 20000; omega) (itD k) (num_may valD (fun j => by rw [valD_size]; decide) k) rfl).mono ?_
        rintro e w6 ⟨rfl, g6, -, hF, -⟩
        have HF6 := Lib.hid (show Fo S w w6 p q (stD (k + 1) g6 (k + 1 + 1)) false (fun _ => False) from by unfold stD; rw [numbered_succ]; exact hF)
        clear hF HF4
        go_wp2_with fail
        go_roundw
        case rel => exact ⟨k + 1, g6, by omega, by go_num, HF6⟩
        case measure => simp [intOf]; omega
      · obtain rfl : N = k := by omega
        have hl' : ¬ (N : Int) < (N : Int) := by omega
        go_wp2_with (refine list_make rfl (.tmp 55) (.tmp 55) 36 rfl bool_elem .i64 .i64 N rfl rfl (by omega) (by unfold maxLen; omega) (goneL N []) (made_gone N) ?_)
        intro w4 hown hg4
        have hk4 : Keeps (fun _ => True) wr w4 := Keeps.of_grown hg4 (fun _ h => by cases h)
        have hlt4 : wr.heap.size < w4.heap.size := by
          have := hown.lt
          exact (this wr.heap.size rfl).2
        have HS := Lib.hid (show Sit S w w4 p q (stD N gn (N + 1)) w4.heap.size wr.heap.size N [] [] none 0 from
          ⟨fo_apart (HF.out.more (Keeps.refl _ wr) fun b hb => .inr hb) (hk4.mono fun _ _ _ => trivial) HF.out.kp.size, hown, World.ownsRow_nil _ _ _ _, HF.out.kp.size, hlt4, Nat.le_refl _⟩)
        clear hown hg4 hk4 hlt4 HF
        generalize wr.heap.size = g at HS ⊢
        obtain ⟨B, hB⟩ : ∃ B, w4.heap.size = B := ⟨_, rfl⟩
        rw [hB] at HS
        clear hB
        go_wp2_with fail
        go_loopw [13, 14] (fun v i wr => ∃ (j : Nat) (js : List Nat) (A : Option Addr) (c : Nat), j ≤ dl ∧ j ≤ 6 ∧ i = .int .i64 (j : Int) ∧ v = .slice A j c ∧ Hid (js.length = j ∧ ∀ i ∈ js, i < N) ∧ Hid (Sit S w wr p q (stD N gn (N + 1)) B g N js js A c)) (fun _ i _ => 6 - (intOf i).toNat)
        case atStart => exact ⟨0, [], none, 0, Nat.zero_le _, by decide, rfl, rfl, Lib.hid ⟨rfl, fun _ h => by cases h⟩, HS⟩
        case round =>
          clear HS
          obtain ⟨j, js, A, c, hj1, hj2, rfl, rfl, HJ, HS⟩ := hrel
          have hc2 : (j < dl ∧ j < 6) ∨ (j < dl ∧ ¬ j < 6) ∨ ¬ j < dl := by omega
          rcases hc2 with ⟨t1, t2⟩ | ⟨t1, t2⟩ | t1
          case inl =>
            have t1' : (j : Int) < (dl : Int) := by omega
            have t2' : (j : Int) < 6 := by omega
            have hjd : j < drop.length := by rw [HDL.out]; exact t1
            obtain ⟨b, o, rfl, -, hc⟩ := (HD.out.keep (HS.out.fo.kp.mono fun _ _ _ => trivial)).at_ (k := j) (by rw [List.length_map]; exact hjd)
            rw [List.getElem_map] at hc
            obtain ⟨z1, z2⟩ := HDF.out _ (List.getElem_mem hjd)
            generalize drop[j] = z at hc z1 z2
            obtain ⟨t, k, ht, hr1, hr2, hrk, hkN⟩ := turn z N n4 n3
            have HR1 := Lib.hid ht
            have HR2 := Lib.hid hrk
            have HKN := Lib.hid hkN
            have HN1 := Lib.hid (show (1 : Int) ≤ (N : Int) by omega)
            have HN2 := Lib.hid (show (N : Int) ≤ 12 by omega)
            have HK2 := Lib.hid (show (-12 : Int) ≤ (k : Int) ∧ (k : Int) ≤ 12 by omega)
            have hcg := HS.out.at_ hkN
            have hfz := HS.out.gone.frozenAt k
            have HS2 := Lib.hid (HS.out.store k)
            have hkN2 := hkN
            clear z1 z2 hkN HS hjd ht hrk hkN2
            have hkN' : k < N := HKN.out
            go_wp2_with (first | refine list_rem rfl (.tmp 70) (.tmp 71) z (N : Int) t rfl rfl rfl HN1.out HN2.out HR1.out hr1 hr2 ?_ | refine list_rem rfl (.tmp 74) (.tmp 75) (t + (N : Int)) (N : Int) (k : Int) rfl rfl rfl HN1.out HN2.out HR2.out HK2.out.1 HK2.out.2 ?_)
            refine (show Calls _ _ _ _ _ from fname_any _ k (by omega) _ rfl).mono ?_
            rintro e w6 ⟨rfl, hk6⟩
            have HS6 := Lib.hid (HS2.out.keep hk6)
            clear HS2 hcg hfz hc hk6
            have HJ6 := Lib.hid (show (js ++ [k]).length = j + 1 ∧ ∀ i ∈ js ++ [k], i < N from ⟨by rw [List.length_append, HJ.out.1]; rfl, fun i hi => by
              rcases List.mem_append.1 hi with h | h
              · exact HJ.out.2 i h
              · rw [List.mem_singleton.1 h]; exact HKN.out⟩)
            have HA6 := Lib.hid (HS6.out.keep ((Keeps.refl _ w6).alloc (.cells #[.string (fname k)] 9)))
            have HROW := Lib.hid (show (w6.alloc (.cells #[.string (fname k)] 9)).ownsRow B 9 1 (.slice A j c) j (nameL js) from by have h := HA6.out.l; rw [HJ.out.1] at h; exact h)
            have HSRC := Lib.hid (src_name w6 (fname k))
            have HBH := Lib.hid (show B ≤ (w6.alloc (.cells #[.string (fname k)] 9)).heap.size from HA6.out.hi)
            go_wp2_with (at_builtin; refine str_elem.list_append rfl (.tmp 80) (.tmp 83) _ rfl rfl HROW.out rfl HSRC.out ?c3 ?c4 HBH.out ?_)
            case c3 => unfold maxLen; omega
            case c4 => omega
            intro v7 w7 ho7 hg7 hb7
            obtain ⟨A7, c7, rfl, hs7⟩ := HA6.out.app (k := k) (by rw [HJ.out.1]; exact ho7) (by rw [HJ.out.1]; exact hg7)
            rw [HJ.out.1]
            have HS7 := Lib.hid hs7
            clear ho7 hg7 hb7 hs7 HROW HSRC HBH HA6 HS6 HJ
            go_wp2_with fail
            go_roundw
            case rel => exact ⟨j + 1, js ++ [k], A7, c7, by omega, by omega, by go_num, rfl, HJ6, HS7⟩
            case measure => simp [intOf]; omega
          all_goals (try have t1' : (j : Int) < (dl : Int) := by omega)
          all_goals (try have t2' : ¬ (j : Int) < 6 := by omega)
          all_goals (try have t1' : ¬ (j : Int) < (dl : Int) := by omega)
          all_goals (
            have hjl : js.length = j := HJ.out.1
            go_wp2_with fail
            refine (show Calls _ _ _ _ _ from fo_flush HT.out HS.out.fo (by show N + 1 ≤ 20000; omega)).mono ?_
            rintro e w4 ⟨rfl, hF, hk4⟩
            have hXg : g ≤ g ∧ g < wr.heap.size := ⟨Nat.le_refl _, by have h1 := HS.out.mid; have h2 := HS.out.hi; omega⟩
            have HGA := Lib.hid ((show GoneAt wr g N js from fun i hi => HS.out.at_ hi).keep hk4 hXg)
            obtain ⟨hrow, hc1, hc2⟩ := HS.out.row
            have HRW := Lib.hid (hrow.keep hk4)
            have HC1 := Lib.hid (And.intro hc1 hc2)
            have HF4 := Lib.hid (show Fo S w w4 p q ⟨0, 50, numbered valD N, gn, N + 2⟩ true (fun b => g ≤ b ∧ b < wr.heap.size) from hF)
            have HX := Lib.hid hXg
            clear hF hk4 hXg hrow hc1 hc2 HS
            generalize wr.heap.size = E at HRW HF4 HX
            go_wp2_with fail
            refine (show Calls _ _ _ _ _ from fo_drop HT.out HF4.out (by show N + 2 ≤ 20000; omega) A (js.map fname) HRW.out c j (by rw [List.length_map, hjl]) (by rw [← hjl]; exact HC1.out.1) HC1.out.2 (by omega) (graves_ok js)).mono ?_
            rintro e w5 ⟨rfl, g5, -, hF, hk5⟩
            have hF : Fo S w w5 p q ⟨0, 50, numbered valD N ++ gravesD js, g5, N + 2 + (js.map fname).length + 1⟩ true (fun b => g ≤ b ∧ b < E) := hF
            have hg : g5 = 0 := hF.wf.whole (cost_D N js n3 (by omega))
            subst hg
            have hage : N + 2 + (js.map fname).length + 1 ≤ 1000 := by rw [List.length_map, hjl]; omega
            generalize N + 2 + (js.map fname).length + 1 = a5 at hF hage
            have HGA5 := Lib.hid (HGA.out.keep hk5 HX.out)
            have HF5 := Lib.hid hF
            clear hF hk5 HRW HF4 HGA HC1
            go_wp2_with fail
            refine (show Calls _ _ _ _ _ from fo_crash HF5.out K kc (fun _ => True) keep kl HL.out.symm ((HK.out.keep (HF5.out.kp.mono fun _ _ _ => trivial)).mono fun _ _ _ => trivial) HKM.out).mono ?_
            rintro e w8 ⟨r, rfl, hDk, hk8, hF⟩
            have HDK := Lib.hid hDk
            have HF8 := Lib.hid hF
            have HGA8 := Lib.hid (HGA5.out.keep hk8 trivial)
            clear hDk hF HF5 hk8 HGA5
            go_wp2_with fail
            refine (show Calls _ _ _ _ _ from fo_again HT.out HDK.out (by show a5 ≤ 20000; omega) 0 50 rfl rfl).mono ?_
            rintro e w9 ⟨q2, rfl, hG, hk9⟩
            have HG := Lib.hid (show Fo S w w9 r q2 ⟨0, 50, fopened (numbered valD N ++ gravesD js), 0, a5 + 1⟩ false (fun b => g ≤ b ∧ b < E) from hG)
            have HF9 := Lib.hid (HF8.out.keep hk9)
            have HGA9 := Lib.hid (HGA8.out.keep hk9 trivial)
            clear hG HDK HF8 HGA8 hk9 HX
            go_wp2_with fail
            go_loopw [17] (fun i wr => ∃ k : Nat, k ≤ N ∧ i = .int .i64 (k : Int) ∧ Hid (Fo S w wr p q ⟨0, 50, numbered valD N ++ gravesD js, 0, a5⟩ true (fun b => g ≤ b ∧ b < E)) ∧ Hid (Fo S w wr r q2 ⟨0, 50, fopened (numbered valD N ++ gravesD js), 0, a5 + 1⟩ false (fun b => g ≤ b ∧ b < E)) ∧ Hid (GoneAt wr g N js)) (fun i _ => N - (intOf i).toNat)
            case atStart => exact ⟨0, Nat.zero_le _, rfl, HF9, HG, HGA9⟩
            case round =>
              clear HF9 HG HGA9
              obtain ⟨k, hk, rfl, HF, HG, HGA⟩ := hrel
              by_cases hl : k < N
              · have hl' : (k : Int) < (N : Int) := by omega
                obtain ⟨s1, s2, b, hb, hE⟩ := told_D N js k (by omega) hl HJ.out.2
                have HE1 := Lib.hid (hE (numbered valD N ++ gravesD js) a5 rfl)
                have HE2 := Lib.hid (hE (fopened (numbered valD N ++ gravesD js)) (a5 + 1) (fopened_x _))
                have hcell := HGA.out k hl
                rw [hb] at hcell
                have HCL := Lib.hid hcell
                clear hb hE hcell
                go_wp2_with fail
                refine (show Calls _ _ _ _ _ from fname_any wr k (by omega) _ rfl).mono ?_
                rintro e w4 ⟨rfl, hk4⟩
                have HF4 := Lib.hid (HF.out.keep hk4)
                have HG4 := Lib.hid (HG.out.keep hk4)
                have HGA4 := Lib.hid (HGA.out.keep hk4 trivial)
                have HCL4 := Lib.hid (hk4.cell HCL.out trivial)
                clear hk4 HF HG HGA HCL
                go_wp2_with fail
                refine (show Calls _ _ _ _ _ from fo_get HT.out HF4.out (fname k) 0 (by rw [fname_size]; decide) (by decide) (by decide) _ HE1.out).mono ?_
                rintro e w5 ⟨rfl, hk5, -⟩
                obtain ⟨w6, hw6⟩ : ∃ w6, w5.alloc (.cells #[.string s1, .string s2, .int .i64 0, .bool false] 35) = w6 := ⟨_, rfl⟩
                have hk6 : Kp w5 (w5.alloc (.cells #[.string s1, .string s2, .int .i64 0, .bool false] 35)) := (Keeps.refl _ w5).alloc _
                rw [hw6] at hk6
                have hk6 := hk5.trans hk6
                have HF6 := Lib.hid (HF4.out.keep hk6)
                have HG6 := Lib.hid (HG4.out.keep hk6)
                have HGA6 := Lib.hid (HGA4.out.keep hk6 trivial)
                have HCL6 := Lib.hid (hk6.cell HCL4.out trivial)
                have HW6 := Lib.hid hw6
                clear hk5 hk6 hw6 HF4 HG4 HGA4 HCL4 HE1
                go_wp2_with fail
                rw [HW6.out]
                clear HW6
                refine (show Calls _ _ _ _ _ from fname_any w6 k (by omega) _ rfl).mono ?_
                rintro e w7 ⟨rfl, hk7⟩
                have HF7 := Lib.hid (HF6.out.keep hk7)
                have HG7 := Lib.hid (HG6.out.keep hk7)
                have HGA7 := Lib.hid (HGA6.out.keep hk7 trivial)
                have HCL7 := Lib.hid (hk7.cell HCL6.out trivial)
                clear hk7 HF6 HG6 HGA6 HCL6
                go_wp2_with fail
                refine (show Calls _ _ _ _ _ from fo_get HT.out HG7.out (fname k) 0 (by rw [fname_size]; decide) (by decide) (by decide) _ HE2.out).mono ?_
                rintro e w8 ⟨rfl, hk8, -⟩
                obtain ⟨w9, hw9⟩ : ∃ w9, w8.alloc (.cells #[.string s1, .string s2, .int .i64 0, .bool false] 35) = w9 := ⟨_, rfl⟩
                have hk9 : Kp w8 (w8.alloc (.cells #[.string s1, .string s2, .int .i64 0, .bool false] 35)) := (Keeps.refl _ w8).alloc _
                rw [hw9] at hk9
                have hk9 := hk8.trans hk9
                have HF9 := Lib.hid (HF7.out.keep hk9)
                have HG9 := Lib.hid (HG7.out.keep hk9)
                have HGA9 := Lib.hid (HGA7.out.keep hk9 trivial)
                have hcl := hk9.cell HCL7.out trivial
                have HW9 := Lib.hid hw9
                clear hk8 hk9 hw9 HF7 HG7 HGA7 HCL7 HE2
                cases b
                all_goals (
                  have hcl := hcl
                  go_wp2_with (rw [HW9.out])
                  go_roundw
                  case rel => exact ⟨k + 1, by omega, by go_num, HF9, HG9, HGA9⟩
                  case measure => simp [intOf]; omega)
              · obtain rfl : N = k := by omega
                have hl' : ¬ (N : Int) < (N : Int) := by omega
                have HE := Lib.hid HF.out.kp
                clear HF HG HGA
                go_wp2_with fail
                go_ret
                exact ⟨rfl, HE.out.below⟩)
end Go.Proofs.YtoepgbpmcjnbmaaGreatDoor.flashDrop
