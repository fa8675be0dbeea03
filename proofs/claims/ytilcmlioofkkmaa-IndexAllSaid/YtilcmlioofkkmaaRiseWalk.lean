/-
  THE REFERENCE's Rise, walked: rows of texts of which no two are the same.
-/
import Derived.Test.YtilcmlioofkkmaaRise
namespace Go.Proofs.Ytilcmlioofkkmaa
open Go Go.RowKit Go.Sort

theorem perm_ins {out l : List ByteArray} {s : ByteArray} (k : Nat) (h : out.Perm l) : (out.take k ++ s :: out.drop k).Perm (l ++ [s]) := by
  have h1 : (out.take k ++ s :: out.drop k).Perm (s :: (out.take k ++ out.drop k)) := List.perm_middle
  rw [List.take_append_drop] at h1
  exact (h1.trans (List.Perm.cons s h)).trans (List.perm_append_comm (l₁ := [s]))

set_option maxRecDepth 100000 in
set_option maxHeartbeats 2000000 in
theorem rise_any (w : World) (LA : Option Addr) (lc : Nat) (l : List ByteArray) (hnd : l.Nodup) (hL : Row w LA (fun _ => True) (strC l)) (hl : l.length ≤ 1000) :
    Calls Try.prog 19 #[.slice LA l.length lc] w fun e w' => ∃ A c ks, e = .returned (.slice A l.length c) ∧ ks.Perm l ∧ Rising ks ∧ Row w' A (fun _ => True) (strC ks) ∧ Kp w w' := by
  have HND := Lib.hid hnd
  have HL := Lib.hid hL
  obtain ⟨m, hm⟩ : ∃ m, l.length = m := ⟨_, rfl⟩
  have HM := Lib.hid hm
  rw [hm] at hl ⊢
  clear hnd hL hm
  go_enter Try.func19, Try.ntmps19
  go_wp2_with fail
  go_loopw [3, 4] (fun v i wr => ∃ (j : Nat) (A : Option Addr) (c : Nat) (out : List ByteArray), j ≤ m ∧ i = .int .i64 (j : Int) ∧ v = .slice A j c ∧ Hid (out.Perm (l.take j)) ∧ Hid (Rising out) ∧ Hid (wr.ownsRow w.heap.size 9 1 v j (strC out)) ∧ Hid (Kp w wr)) (fun _ i _ => m - (intOf i).toNat)
  case atStart => exact ⟨0, none, 0, [], Nat.zero_le _, rfl, rfl, Lib.hid (by simp), Lib.hid List.Pairwise.nil, Lib.hid (World.ownsRow_nil _ _ _ _), Lib.hid (Keeps.refl _ _)⟩
  case round =>
    obtain ⟨j, A, c, out, hj, rfl, rfl, HP, HR, HO, HK⟩ := hrel
    by_cases hjm : j < m
    · have hjm' : (j : Int) < (m : Int) := by omega
      have hjl : j < l.length := by rw [HM.out]; exact hjm
      have hol : out.length = j := by rw [HP.out.length_eq, List.length_take]; omega
      have HOL := Lib.hid hol
      have HTK := Lib.hid (show l.take (j + 1) = l.take j ++ [l[j]] from List.take_succ_eq_append_getElem hjl)
      have HSN := Lib.hid (show l[j] ∉ out from fun h => by
        obtain ⟨i, hi, e⟩ := List.getElem_of_mem (HP.out.subset h)
        rw [List.length_take] at hi
        rw [List.getElem_take] at e
        exact List.pairwise_iff_getElem.1 HND.out i j (by omega) hjl (by omega) e)
      have HLR := Lib.hid (HL.out.keep HK.out)
      obtain ⟨b, f, rfl, -, cl⟩ := strC_at HLR.out hjl
      generalize l[j] = s at cl HTK HSN
      clear hol
      go_wp2_with fail
      obtain ⟨W, rfl⟩ : ∃ W, W = wr := ⟨wr, rfl⟩
      go_loopw [5] (fun i wr => ∃ k : Nat, k ≤ j ∧ i = .int .i64 (k : Int) ∧ Hid (∀ t (ht : t < out.length), t < k → lessB out[t] s = true) ∧ Hid (Kp W wr)) (fun i _ => j - (intOf i).toNat)
      case atStart => exact ⟨0, Nat.zero_le _, rfl, Lib.hid (fun t _ h => absurd h (by omega)), Lib.hid (Keeps.refl _ _)⟩
      case round =>
        obtain ⟨k, hk, rfl, HB, HK2⟩ := hrel
        have cl2 := HK2.out.cell cl trivial
        have HO2 := Lib.hid (HK2.out.own HO.out fun _ _ => trivial)
        have HKW := Lib.hid (HK.out.trans HK2.out)
        by_cases hkj : k < j
        · have hkj' : (k : Int) < (j : Int) := by omega
          have hd1 : decide (k < j) = true := by simpa using hkj
          obtain ⟨g, o, rfl, -, ck⟩ := strC_at (Row.of_own (xs := strC out) (by rw [strC_len, HOL.out]; exact HO2.out)) (k := k) (by rw [HOL.out]; exact hkj)
          have HT := Lib.hid (show ∀ h : lessB (out[k]'(by rw [HOL.out]; exact hkj)) s = true, ∀ t (ht : t < out.length), t < k + 1 → lessB out[t] s = true from fun h t ht htk => by
            rcases Nat.lt_or_ge t k with h1 | h1
            · exact HB.out t ht h1
            · obtain rfl : t = k := by omega
              exact h)
          have HF := Lib.hid (show ∀ h : lessB (out[k]'(by rw [HOL.out]; exact hkj)) s = false, ∀ hk : k < out.length, lessB out[k] s = false from fun h _ => h)
          have HNE := Lib.hid (show out[k]'(by rw [HOL.out]; exact hkj) ≠ s from fun e => HSN.out (e ▸ List.getElem_mem _))
          generalize out[k]'(by rw [HOL.out]; exact hkj) = u at ck HT HF HNE
          cases hless : lessB u s with
          | true =>
            have hb : Op.bytesLess u.toList s.toList = true := by rw [ByteArray.toList_eq, ByteArray.toList_eq]; exact hless
            have HT2 := Lib.hid (HT.out hless)
            clear hless HT HF
            go_wp2_with fail
            go_quiet (fail)
            go_wp2_with fail
            go_roundw
            case rel => exact ⟨k + 1, by omega, by go_num, HT2, Lib.hid (HK2.out.drewN _)⟩
            case measure => simp [intOf]; omega
          | false =>
            have hb : Op.bytesLess u.toList s.toList = false := by rw [ByteArray.toList_eq, ByteArray.toList_eq]; exact hless
            have HF2 := Lib.hid (HF.out hless)
            have hne : (u.toList == s.toList) = false := by
              rw [beq_eq_false_iff_ne]
              intro e
              rw [ByteArray.toList_eq, ByteArray.toList_eq] at e
              exact HNE.out (data_eq e)
            have hd2 : ((k : Int) == (j : Int)) = false := by rw [beq_eq_false_iff_ne]; omega
            clear hless HT HF
            go_wp2_with fail
            go_quiet (fail)
            go_wp2_with fail
            have k1 : Kp wr (wr.drewN nq) := (Keeps.refl _ wr).drewN nq
            have HO3 := Lib.hid (k1.own HO2.out fun _ _ => trivial)
            have cl3 := k1.cell cl2 trivial
            have ck3 := k1.cell ck trivial
            have HKW3 := Lib.hid (HKW.out.trans k1)
            clear HO2 cl2 cl HKW HK2 HLR HO HK k1 ck
            generalize wr.drewN nq = w1 at *
            go_quiet (fail)
            go_wp2_with fail
            have k2 : Kp w1 (w1.drewN nq) := (Keeps.refl _ w1).drewN nq
            have HO4 := Lib.hid (k2.own HO3.out fun _ _ => trivial)
            have HC4 := Lib.hid (k2.cell cl3 trivial)
            have HKW4 := Lib.hid (HKW3.out.trans k2)
            clear HO3 cl3 HKW3 k2 ck3
            generalize w1.drewN nq = w2 at *
            have hcap := own_cap HO4.out
            unfold maxLen at hcap
            have HCAP := Lib.hid hcap
            have HB2 := Lib.hid HKW4.out.size
            clear hcap
            refine wp_region_guard (R := Kp) (V := VR w.heap.size j c k j (some ⟨g, o, none⟩) (some ⟨b, f, none⟩) m lc b f out s) (w0 := w2) (fun _ => none) (by kernel_rfl) (fun w => Keeps.refl _ w) (fun _ _ _ h k => h.trans k) (fun i w w' v h hv => VR_keep i w w' v h hv) (by kernel_rfl) (fun g c h => by cases h) (fun i o ho hw => (all_wanted (by kernel_rfl) ho hw).elim) ((Keeps.refl _ w2).drew) (each_of ?_) ?_
            · refine ⟨?_, ?_, ?_, ?_, ?_, ?_, ?_, ?_, ?_, ?_, ?_, ?_, ?_, ?_, ?_, trivial⟩ <;> intro hw a1 w3 L
              · exact kp_move rfl (L.old 3 (by kernel_rfl))
              · exact kp_move rfl (L.old 5 (by kernel_rfl))
              · exact kp_move rfl (L.old 5 (by kernel_rfl))
              · exact kp_first (n := j) (c := c) (k := k) (by omega) HCAP.out.1 HCAP.out.2.1 HCAP.out.2.2 rfl (L.val 0 44 (by kernel_rfl) (by kernel_rfl)) (L.val 1 45 (by kernel_rfl) (by kernel_rfl)) (L.val 2 46 (by kernel_rfl) (by kernel_rfl))
              · exact kp_move rfl (L.old 0 (by kernel_rfl))
              · exact kp_move rfl (L.old 4 (by kernel_rfl))
              · exact kp_at (n := m) (c := lc) (i := j) hjm rfl (L.val 4 48 (by kernel_rfl) (by kernel_rfl)) (L.val 5 49 (by kernel_rfl) (by kernel_rfl))
              · exact kp_loadS (L.rel.cell HC4.out trivial) rfl (L.val 6 50 (by kernel_rfl) (by kernel_rfl))
              · exact kp_oneT (Nat.le_trans HB2.out L.rel.size) rfl (L.val 7 51 (by kernel_rfl) (by kernel_rfl))
              · exact kp_move rfl (L.old 3 (by kernel_rfl))
              · exact kp_move rfl (L.old 5 (by kernel_rfl))
              · exact kp_rest (n := j) (c := c) (k := k) (by omega) HCAP.out.1 HCAP.out.2.1 HCAP.out.2.2 rfl (L.val 9 53 (by kernel_rfl) (by kernel_rfl)) (L.val 10 54 (by kernel_rfl) (by kernel_rfl))
              · have hr : Row w2 (cutA (some ⟨g, o, none⟩) k c) (fun _ => True) (strC (out.drop k)) := by
                  have h := (Row.of_own (xs := strC out) (by rw [strC_len, HOL.out]; exact HO4.out)).cut (k := k) (cap := c) (by rw [strC_len, HOL.out]; omega) (by rw [strC_len, HOL.out]; exact HCAP.out.1)
                  have e : (strC out).drop k = strC (out.drop k) := by simp [strC]
                  rw [e] at h
                  exact h.mono fun _ _ _ => trivial
                exact kp_app_in (Nat.le_trans HB2.out L.rel.size) (m := j - k) (by rw [List.length_drop, HOL.out]) (by omega) rfl (L.val 8 52 (by kernel_rfl) (by kernel_rfl)) (L.val 11 55 (by kernel_rfl) (by kernel_rfl)) (hr.keep L.rel)
              · have ho : OwnLe w2 w.heap.size 9 1 (.slice (some ⟨g, o, none⟩) k k) k (strC (out.take k)) := by
                  obtain ⟨g5, cap5, h5, -, -⟩ := HO4.out.form (by omega)
                  injection h5 with h5 _ _
                  injection h5 with h5
                  injection h5 with h5 h6
                  subst h5 h6
                  have h := (OwnLe.of_own HO4.out).first (k := k) (by omega)
                  have e : (strC out).take (k * 1) = strC (out.take k) := by simp [strC]
                  rw [e] at h
                  exact h
                exact kp_app_out (Nat.le_trans HB2.out L.rel.size) (m := 1 + (j - k)) (by rw [List.length_cons, List.length_drop, HOL.out]; omega) (by omega) (by omega) (k := k) (by rw [List.length_take, HOL.out]; omega) (by omega) rfl (L.val 3 47 (by kernel_rfl) (by kernel_rfl)) (ho.keep L.rel fun _ _ => trivial) (L.val 12 56 (by kernel_rfl) (by kernel_rfl))
              · exact kp_pass (V := fun w4 v => w4.ownsRow w.heap.size 9 1 v (k + (1 + (j - k))) (strC (out.take k ++ s :: out.drop k))) rfl (L.val 13 57 (by kernel_rfl) (by kernel_rfl))
            · intro vs w8 hk8 hlen hv
              have hv14 := hv 14 3 (by kernel_rfl)
              match vs, hlen with
              | [v0, v1, v2, v3, v4, v5, v6, v7, v8, v9, v10, v11, v12, v13, v14], _ =>
                have h14 : w8.ownsRow w.heap.size 9 1 v14 (k + (1 + (j - k))) (strC (out.take k ++ s :: out.drop k)) := hv14
                rw [show k + (1 + (j - k)) = j + 1 by omega] at h14
                have HP8 := Lib.hid (show (out.take k ++ s :: out.drop k).Perm (l.take (j + 1)) from by rw [HTK.out]; exact perm_ins k HP.out)
                have HR8 := Lib.hid (rising_ins HR.out (k := k) (by rw [HOL.out]; omega) HB.out (HF2.out) HSN.out)
                have HK8 := Lib.hid (HKW4.out.trans hk8)
                obtain ⟨g8, c8, rfl, -, -⟩ := h14.form (by omega)
                have HO8 := Lib.hid h14
                clear hv hv14 h14 hk8 HO4 HC4 HCAP HB2
                simp only [putAll, List.map, Act.put, List.setIfInBounds_toArray, List.set_cons_succ, List.set_cons_zero, Exit.then]
                go_wp2_with fail
                go_roundw
                case rel => exact ⟨j + 1, some ⟨g8, 0, none⟩, c8, _, by omega, by go_num, rfl, HP8, HR8, HO8, HK8⟩
                case measure => simp [intOf]; omega
        · obtain rfl : j = k := by omega
          have hkj' : ¬ (j : Int) < (j : Int) := by omega
          go_wp2_with fail
          go_quiet (fail)
          go_wp2_with fail
          have k1 : Kp wr (wr.drewN nq) := (Keeps.refl _ wr).drewN nq
          have HO3 := Lib.hid (k1.own HO2.out fun _ _ => trivial)
          have cl3 := k1.cell cl2 trivial
          have HKW3 := Lib.hid (HKW.out.trans k1)
          clear HO2 cl2 cl HKW HK2 HLR HO HK k1
          generalize wr.drewN nq = w1 at *
          go_quiet (fail)
          go_wp2_with fail
          have k2 : Kp w1 (w1.drewN nq) := (Keeps.refl _ w1).drewN nq
          have HO4 := Lib.hid (k2.own HO3.out fun _ _ => trivial)
          have HC4 := Lib.hid (k2.cell cl3 trivial)
          have HKW4 := Lib.hid (HKW3.out.trans k2)
          clear HO3 cl3 HKW3 k2
          generalize w1.drewN nq = w2 at *
          have hcap := own_cap HO4.out
          unfold maxLen at hcap
          have HCAP := Lib.hid hcap
          have HB2 := Lib.hid HKW4.out.size
          clear hcap
          refine wp_region_guard (R := Kp) (V := VR w.heap.size j c j j A (some ⟨b, f, none⟩) m lc b f out s) (w0 := w2) (fun _ => none) (by kernel_rfl) (fun w => Keeps.refl _ w) (fun _ _ _ h k => h.trans k) (fun i w w' v h hv => VR_keep i w w' v h hv) (by kernel_rfl) (fun g c h => by cases h) (fun i o ho hw => (all_wanted (by kernel_rfl) ho hw).elim) ((Keeps.refl _ w2).drew) (each_of ?_) ?_
          · refine ⟨?_, ?_, ?_, ?_, ?_, ?_, ?_, ?_, ?_, ?_, ?_, ?_, ?_, ?_, ?_, trivial⟩ <;> intro hw a1 w3 L
            · exact kp_move rfl (L.old 3 (by kernel_rfl))
            · exact kp_move rfl (L.old 5 (by kernel_rfl))
            · exact kp_move rfl (L.old 5 (by kernel_rfl))
            · exact kp_first (n := j) (c := c) (k := j) (by omega) HCAP.out.1 HCAP.out.2.1 HCAP.out.2.2 rfl (L.val 0 44 (by kernel_rfl) (by kernel_rfl)) (L.val 1 45 (by kernel_rfl) (by kernel_rfl)) (L.val 2 46 (by kernel_rfl) (by kernel_rfl))
            · exact kp_move rfl (L.old 0 (by kernel_rfl))
            · exact kp_move rfl (L.old 4 (by kernel_rfl))
            · exact kp_at (n := m) (c := lc) (i := j) hjm rfl (L.val 4 48 (by kernel_rfl) (by kernel_rfl)) (L.val 5 49 (by kernel_rfl) (by kernel_rfl))
            · exact kp_loadS (L.rel.cell HC4.out trivial) rfl (L.val 6 50 (by kernel_rfl) (by kernel_rfl))
            · exact kp_oneT (Nat.le_trans HB2.out L.rel.size) rfl (L.val 7 51 (by kernel_rfl) (by kernel_rfl))
            · exact kp_move rfl (L.old 3 (by kernel_rfl))
            · exact kp_move rfl (L.old 5 (by kernel_rfl))
            · exact kp_rest (n := j) (c := c) (k := j) (by omega) HCAP.out.1 HCAP.out.2.1 HCAP.out.2.2 rfl (L.val 9 53 (by kernel_rfl) (by kernel_rfl)) (L.val 10 54 (by kernel_rfl) (by kernel_rfl))
            · have hr : Row w2 (cutA A j c) (fun _ => True) (strC (out.drop j)) := by
                have h := (Row.of_own (xs := strC out) (by rw [strC_len, HOL.out]; exact HO4.out)).cut (k := j) (cap := c) (by rw [strC_len, HOL.out]; omega) (by rw [strC_len, HOL.out]; exact HCAP.out.1)
                have e : (strC out).drop j = strC (out.drop j) := by simp [strC]
                rw [e] at h
                exact h.mono fun _ _ _ => trivial
              exact kp_app_in (Nat.le_trans HB2.out L.rel.size) (m := j - j) (by rw [List.length_drop, HOL.out]) (by omega) rfl (L.val 8 52 (by kernel_rfl) (by kernel_rfl)) (L.val 11 55 (by kernel_rfl) (by kernel_rfl)) (hr.keep L.rel)
            · have ho : OwnLe w2 w.heap.size 9 1 (.slice A j j) j (strC (out.take j)) := by
                have e : (strC out).take (j * 1) = strC (out.take j) := by simp [strC]
                rcases Nat.eq_zero_or_pos j with h0 | h0
                · subst h0
                  have h1 := HO4.out.2
                  rcases h1 with ⟨h1, -⟩ | ⟨g, cap, cur, h1, h2, h3, h4, h5, h6, h7⟩
                  · injection h1 with h1 _ h2
                    subst h1
                    rw [← e]
                    exact ⟨by simp, .inl ⟨rfl, rfl⟩⟩
                  · injection h1 with h1 _ h8
                    subst h1 h8
                    have h := (OwnLe.of_own HO4.out).first (k := 0) (by omega)
                    rw [e] at h
                    exact h
                · obtain ⟨g, cap, h1, -, -⟩ := HO4.out.form h0
                  injection h1 with h1 _ _
                  subst h1
                  have h := (OwnLe.of_own HO4.out).first (k := j) (by omega)
                  rw [e] at h
                  exact h
              exact kp_app_out (Nat.le_trans HB2.out L.rel.size) (m := 1 + (j - j)) (by rw [List.length_cons, List.length_drop, HOL.out]; omega) (by omega) (by omega) (k := j) (by rw [List.length_take, HOL.out]; omega) (by omega) rfl (L.val 3 47 (by kernel_rfl) (by kernel_rfl)) (ho.keep L.rel fun _ _ => trivial) (L.val 12 56 (by kernel_rfl) (by kernel_rfl))
            · exact kp_pass (V := fun w4 v => w4.ownsRow w.heap.size 9 1 v (j + (1 + (j - j))) (strC (out.take j ++ s :: out.drop j))) rfl (L.val 13 57 (by kernel_rfl) (by kernel_rfl))
          · intro vs w8 hk8 hlen hv
            have hv14 := hv 14 3 (by kernel_rfl)
            match vs, hlen with
            | [v0, v1, v2, v3, v4, v5, v6, v7, v8, v9, v10, v11, v12, v13, v14], _ =>
              have h14 : w8.ownsRow w.heap.size 9 1 v14 (j + (1 + (j - j))) (strC (out.take j ++ s :: out.drop j)) := hv14
              rw [show j + (1 + (j - j)) = j + 1 by omega] at h14
              have HP8 := Lib.hid (show (out.take j ++ s :: out.drop j).Perm (l.take (j + 1)) from by rw [HTK.out]; exact perm_ins j HP.out)
              have HR8 := Lib.hid (rising_ins HR.out (k := j) (by rw [HOL.out]; omega) HB.out (fun h => absurd h (by rw [HOL.out]; omega)) HSN.out)
              have HK8 := Lib.hid (HKW4.out.trans hk8)
              obtain ⟨g8, c8, rfl, -, -⟩ := h14.form (by omega)
              have HO8 := Lib.hid h14
              clear hv hv14 h14 hk8 HO4 HC4 HCAP HB2
              simp only [putAll, List.map, Act.put, List.setIfInBounds_toArray, List.set_cons_succ, List.set_cons_zero, Exit.then]
              go_wp2_with fail
              go_roundw
              case rel => exact ⟨j + 1, some ⟨g8, 0, none⟩, c8, _, by omega, by go_num, rfl, HP8, HR8, HO8, HK8⟩
              case measure => simp [intOf]; omega
    · obtain rfl : m = j := by omega
      have hjm' : ¬ (m : Int) < (m : Int) := by omega
      have e : l.take m = l := by rw [← HM.out]; exact List.take_length
      have HP2 := Lib.hid (show out.Perm l from by rw [← e]; exact HP.out)
      have hol : out.length = m := by rw [HP2.out.length_eq]; exact HM.out
      have HRO := Lib.hid (show Row wr A (fun _ => True) (strC out) from (Row.of_own (xs := strC out) (by rw [strC_len, hol]; exact HO.out)).mono fun _ _ _ => trivial)
      clear e hol
      go_wp2_with fail
      go_ret
      exact ⟨A, ⟨c, rfl⟩, out, HP2.out, HR.out, HRO.out, HK.out⟩

end Go.Proofs.Ytilcmlioofkkmaa
