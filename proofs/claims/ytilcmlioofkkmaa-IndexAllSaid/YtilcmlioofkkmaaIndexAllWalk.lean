/-
  IndexAll, walked over what an index keeps.
-/
import Derived.Test.YtilcmlioofkkmaaIndexTri
import Derived.Deep.CutRange
import Derived.Deep.CutBlock
import Derived.Deep.LoopGhost
import Derived.Outline
namespace Go.Proofs.Ytilcmlioofkkmaa.indexAll
open Go Go.RowKit Go.Joins

set_option maxRecDepth 100000 in
set_option maxHeartbeats 1000000 in
theorem walk (S : IndexOK) (w : World) (hT : S.T w) (A : Option Addr) (c : Nat) (l : List OpI) (ha : l.length ≤ c) (hb : c ≤ maxLen) (hg : OpIsAt w A (fun b => b < w.heap.size) l) :
    Calls Try.prog 3 #[.slice A l.length c] w fun e w' => e = .returned (.bool true) ∧ Below w.heap.size w w' := by
  have HT := Lib.hid hT
  have HG := Lib.hid hg
  obtain ⟨m, hm⟩ : ∃ m, l.length = m := ⟨_, rfl⟩
  have HM := Lib.hid hm
  rw [hm] at ha ⊢
  unfold maxLen at hb
  clear hT hg hm
  go_enter Try.func3, Try.ntmps3
  go_wp2_with fail
  refine (show Calls _ _ _ _ _ from begun8 S w HT.out).mono ?_
  rintro e w1 ⟨rfl, hk⟩
  have K1 := Lib.hid hk
  clear hk
  go_wp2_with fail
  refine (show Calls _ _ _ _ _ from ix_new S HT.out K1.out).mono ?_
  rintro e w2 ⟨q, F, rfl, h⟩
  have HB := Lib.hid (show Both S w w2 q [] [] (.slice none 0 0) from ⟨F, h, OwnLe.nil _ _ _ _, fun b hb => by cases hb⟩)
  clear h K1
  go_wp2_with fail
  go_loopg [5, 6] 80 (fun g v i wr => ∃ (j : Nat) (st : IxSt) (A1 : Option Addr) (n1 c1 : Nat), g = 80 - j ∧ j ≤ m ∧ j ≤ 80 ∧ i = .int .i64 (j : Int) ∧ v = .slice A1 n1 c1 ∧ n1 ≤ j ∧ Hid (n1 = st.length ∧ (st.map (·.1)).Nodup ∧ (∀ x ∈ st, i64 x.2) ∧ Both S w wr q st st v))
  case atStart => exact ⟨0, [], none, 0, 0, rfl, Nat.zero_le _, by omega, rfl, rfl, Nat.le_refl _, Lib.hid ⟨rfl, List.nodup_nil, fun x hx => absurd hx List.not_mem_nil, HB.out⟩⟩
  case round =>
    clear HB
    obtain ⟨j, st, A1, n1, c1, rfl, hjm, hj80, rfl, rfl, hnj, HS⟩ := hrel
    have hcs : (decide (j < m) = false) ∨ (decide (j < m) = true ∧ decide ((j : Int) < 80) = false) ∨ (decide (j < m) = true ∧ decide ((j : Int) < 80) = true) := by
      cases decide (j < m) <;> cases decide ((j : Int) < 80) <;> simp
    rcases hcs with d1 | ⟨d1, d2⟩ | ⟨d1, d2⟩
    · have hfin : Below w.heap.size w wr := by obtain ⟨F, h, _⟩ := HS.out.2.2.2; exact h.kp.below
      go_wp2_with fail
      go_ret
      exact ⟨rfl, hfin⟩
    · have hfin : Below w.heap.size w wr := by obtain ⟨F, h, _⟩ := HS.out.2.2.2; exact h.kp.below
      go_wp2_with fail
      go_ret
      exact ⟨rfl, hfin⟩
    · have hjm2 : j < m := of_decide_eq_true d1
      have hj2 : j < 80 := by have := of_decide_eq_true d2; omega
      obtain ⟨⟨b, o, rfl, hbw, o0, o1, o2⟩, hks, hpi⟩ := HG.out j (by rw [HM.out]; exact hjm2)
      obtain ⟨F, hix, -, -⟩ := HS.out.2.2.2
      have p0 := hix.kp.cell o0 trivial
      have p1 := hix.kp.cell o1 trivial
      have p2 := hix.kp.cell o2 trivial
      generalize (l[j]'(by rw [HM.out]; exact hjm2)) = x at p0 p1 p2 hks hpi
      obtain ⟨kd, key, pos⟩ := x
      simp only at p0 p1 p2 hks hpi
      clear o0 o1 o2 hix
      go_wp2_with fail
      refine (show Calls _ _ _ _ _ from cut_any key 50 hks (by decide) _).mono ?_
      rintro e w3 ⟨rfl, rfl⟩
      have hcz := cutZ_size key 50
      generalize cutZ key 50 = K at hcz ⊢
      clear hks p1
      go_wp2_with fail
      obtain ⟨w4, hw4⟩ : ∃ w4, wr.alloc (.cells #[.int .i64 kd, .string K, .int .i64 pos] 28) = w4 := ⟨_, rfl⟩
      have hbk := heap_alloc_new wr (.cells #[.int .i64 kd, .string K, .int .i64 pos] 28)
      have hka : Kp wr (wr.alloc (.cells #[.int .i64 kd, .string K, .int .i64 pos] 28)) := (Keeps.refl _ wr).alloc _
      have hsz : (wr.alloc (.cells #[.int .i64 kd, .string K, .int .i64 pos] 28)).heap.size = wr.heap.size + 1 := by simp
      rw [hw4] at hbk hka hsz
      have ho0 : w4.cell? ⟨wr.heap.size, 0, none⟩ = some (.int .i64 kd) := (cell_of_block hbk 0).trans rfl
      have HTR := Lib.hid (HS.out.2.2.2.tri hka hsz ((cell_of_block hbk 1).trans rfl) ((cell_of_block hbk 2).trans rfl))
      have HNL := Lib.hid HS.out.1
      have HND := Lib.hid HS.out.2.1
      have HI64 := Lib.hid HS.out.2.2.1
      have HPI := Lib.hid hpi
      have HW4 := Lib.hid hw4
      have hlen : st.length ≤ 4096 := by have := HS.out.1; omega
      have HLEN := Lib.hid hlen
      have HKS := Lib.hid (show K.size ≤ 4096 by omega)
      have HAT := Lib.hid (at_any w4 A1 n1 c1 st K HNL.out (HTR.out.pairs HNL.out) (by omega))
      clear hw4 hbk hka hsz HS p0 p2 hpi hcz hlen
      rw [HW4.out]
      generalize wr.heap.size = ob at *
      refine (show Calls _ _ _ _ _ from HAT.out).mono ?_
      rintro e w3 ⟨rfl, hw3⟩
      have hw3 := hw3.symm
      subst hw3
      clear HAT
      go_upto_block 2 with fail
      go_cut [5, 8, 9, 10, 11] from 20 to 192 (fun s5 s8 s9 s10 s11 wx => ∃ (st2 : IxSt) (A2 : Option Addr) (n2 c2 : Nat), s5 = .slice A2 n2 c2 ∧ n2 ≤ j + 1 ∧ Hid (n2 = st2.length ∧ (st2.map (·.1)).Nodup ∧ (∀ x ∈ st2, i64 x.2)) ∧ Hid (Tri S w wx q st2 st2 s5 ob K pos))
      case first =>
        have hcs : ((kd == 0) = true) ∨ ((kd == 0) = false ∧ (kd == 1) = true) ∨ ((kd == 0) = false ∧ (kd == 1) = false ∧ (kd == 2) = true) ∨ ((kd == 0) = false ∧ (kd == 1) = false ∧ (kd == 2) = false) := by
          cases (kd == 0) <;> cases (kd == 1) <;> cases (kd == 2) <;> simp
        rcases hcs with e0 | ⟨e0, e1⟩ | ⟨e0, e1, e2⟩ | ⟨e0, e1, e2⟩
        · have c1' := HTR.out.o1
          have c2' := HTR.out.o2
          cases hat : ixAt st K with
          | none =>
            have hz : atZ st K = -1 := by unfold atZ; rw [hat]
            rw [hz]
            have HNO := Lib.hid (ixAt_none.1 hat)
            have HSRC := Lib.hid (src_pair w4 K pos)
            have hrow := HTR.out.row
            rw [← HNL.out] at hrow
            have HROW := Lib.hid (hrow.keep ((Keeps.refl (fun _ => True) w4).alloc (.cells #[.string K, .int .i64 pos] 32)) fun _ _ => trivial)
            have HTA := Lib.hid (HTR.out.keep ((Keeps.refl (fun _ => True) w4).alloc (.cells #[.string K, .int .i64 pos] 32)))
            have hsz := HTR.out.below.size
            clear hrow hat hz
            go_wp2_with (at_builtin; refine pair_elem.list_append_le rfl (.tmp 59) (.tmp 65) _ rfl rfl HROW.out rfl HSRC.out ?c3 ?c4 ?c5 ?_)
            case c3 => unfold maxLen; omega
            case c4 => omega
            case c5 => simp; omega
            intro v5 w5 ho5 hg5 hb5
            have hput : ixPut st K pos = st ++ [(K, pos)] := ixPut_new HNO.out
            have hl5 : (ixPut st K pos).length = n1 + 1 := by rw [hput, List.length_append, ← HNL.out]; rfl
            have hT5 : Tri S w w5 q st (ixPut st K pos) v5 ob K pos := HTA.out.grown (by rw [hl5, hput, pairC_app]; exact ho5) hg5 (hb5.imp id fun h => h.trans (by simp))
            obtain ⟨A5, c5, rfl, -, -, -⟩ := ho5.form
            have HT5 := Lib.hid hT5
            have HPL := Lib.hid hl5
            have o1' := hT5.o1
            have o2' := hT5.o2
            clear ho5 hg5 hb5 hput hl5 hT5 HTA HROW HSRC HTR c1' c2' ho0
            go_wp2_with fail
            refine (show Calls _ _ _ _ _ from tri_put HT.out HT5.out HLEN.out K pos HKS.out HPI.out 0 (by rw [HNO.out]; rfl) _ rfl).mono ?_
            rintro e w6 ⟨rfl, h⟩
            have H6 := Lib.hid h
            clear h HT5
            go_wp2_with fail
            go_meet
            exact ⟨_, A5, n1 + 1, c5, rfl, by omega, Lib.hid ⟨HPL.out.symm, ixPut_nodup HND.out, ixPut_i64 HI64.out HPI.out⟩, H6⟩
          | some i =>
            have hz : atZ st K = (i : Int) := by unfold atZ; rw [hat]
            rw [hz]
            obtain ⟨hi, hK, hget⟩ := ixAt_get HND.out hat
            have hin : i < n1 := by have := HNL.out; omega
            obtain ⟨g, rfl⟩ := HTR.out.head HNL.out (by omega)
            obtain ⟨-, pp⟩ := HTR.out.pair_at HNL.out hi
            have pf := HTR.out.frozen HNL.out
            obtain ⟨hi2, hput⟩ := ixAt_put HND.out hat pos
            have hl5 : (ixPut st K pos).length = n1 := by rw [hput, List.length_set]; exact HNL.out.symm
            have HT5 := Lib.hid (show Tri S w (w4.setCell ⟨g, i * 2 + 1, none⟩ (.int .i64 pos)) q st (ixPut st K pos) (.slice (some ⟨g, 0, none⟩) n1 c1) ob K pos from by rw [hput]; exact HTR.out.store hi HNL.out pos)
            have HPL := Lib.hid hl5
            have HGT := Lib.hid hget
            have o1' := HT5.out.o1
            have o2' := HT5.out.o2
            clear hat hz hK hget hput hl5 hi2 HTR ho0
            generalize (st[i]).2 = z at pp HGT
            go_wp2_with fail
            refine (show Calls _ _ _ _ _ from tri_put HT.out HT5.out HLEN.out K pos HKS.out HPI.out z (by rw [HGT.out]; rfl) _ rfl).mono ?_
            rintro e w6 ⟨rfl, h⟩
            have H6 := Lib.hid h
            clear h HT5
            go_wp2_with fail
            go_meet
            exact ⟨_, _, n1, c1, rfl, by omega, Lib.hid ⟨HPL.out.symm, ixPut_nodup HND.out, ixPut_i64 HI64.out HPI.out⟩, H6⟩
        · have c1' := HTR.out.o1
          cases hat : ixAt st K with
          | none =>
            have hz : atZ st K = -1 := by unfold atZ; rw [hat]
            rw [hz]
            have HNO := Lib.hid (ixAt_none.1 hat)
            have hd : ixDrop st K = st := by
              unfold ixDrop
              rw [List.filter_eq_self]
              intro x hx
              rw [isK_not.2 (ixGet_none.1 HNO.out x hx)]
              rfl
            have HD := Lib.hid hd
            clear hat hz hd
            go_wp2_with fail
            refine (show Calls _ _ _ _ _ from tri_drop HT.out HTR.out HLEN.out K HKS.out false (by rw [HNO.out]; rfl) st HD.out.symm).mono ?_
            rintro e w6 ⟨rfl, h⟩
            have H6 := Lib.hid h
            clear h HTR ho0
            go_wp2_with fail
            go_meet
            exact ⟨st, A1, n1, c1, rfl, by omega, Lib.hid ⟨HNL.out, HND.out, HI64.out⟩, H6⟩
          | some i =>
            have hz : atZ st K = (i : Int) := by unfold atZ; rw [hat]
            rw [hz]
            obtain ⟨hi, hK, hget⟩ := ixAt_get HND.out hat
            have hin : i < n1 := by have := HNL.out; omega
            obtain ⟨g, rfl⟩ := HTR.out.head HNL.out (by omega)
            have hdr := ixAt_drop HND.out hat
            have HDR := Lib.hid hdr
            have HGT := Lib.hid hget
            clear hat hz hK hget hdr
            go_wp2_with fail
            refine (show Calls _ _ _ _ _ from tri_drop HT.out HTR.out HLEN.out K HKS.out true (by rw [HGT.out]; rfl) _ rfl).mono ?_
            rintro e w6 ⟨rfl, h⟩
            have H6 := Lib.hid h
            clear h HTR ho0
            go_wp2_with fail
            have hrow6 := H6.out.row
            rw [← HNL.out] at hrow6
            obtain ⟨A6, c6, e6, hc6, hc62, -⟩ := hrow6.form
            injection e6 with _ _ e6
            subst e6
            unfold maxLen at hc62
            have HR6 := Lib.hid hrow6
            have HB6 := Lib.hid H6.out.below.size
            clear hrow6
            refine wp_region_guard (R := Kp) (V := V25 w.heap.size w6.heap.size g n1 c1 i st) (w0 := w6) (fun _ => none) (by kernel_rfl) (fun w => Keeps.refl _ w) (fun _ _ _ h k => h.trans k) (fun i w w' v h hv => V25_keep i w w' v h hv) (by kernel_rfl) (fun g c h => by cases h) (fun i o ho hw => (all_wanted (by kernel_rfl) ho hw).elim) ((Keeps.refl _ w6).drew) (each_of ?_) ?_
            · refine ⟨?_, ?_, ?_, ?_, ?_, ?_, ?_, ?_, ?_, ?_, trivial⟩ <;> intro hw a1 w7 L
              · exact kp_move rfl (L.old 5 (by kernel_rfl))
              · exact kp_move rfl (L.old 8 (by kernel_rfl))
              · exact kp_move rfl (L.old 8 (by kernel_rfl))
              · exact kp_first2 (n := n1) (c := c1) (k := i) (by omega) hc6 hc62 rfl (L.val 0 86 (by kernel_rfl) (by kernel_rfl)) (L.val 1 87 (by kernel_rfl) (by kernel_rfl)) (L.val 2 88 (by kernel_rfl) (by kernel_rfl))
              · exact kp_move rfl (L.old 5 (by kernel_rfl))
              · exact kp_move rfl (L.old 8 (by kernel_rfl))
              · exact kp_inc (by omega) rfl (L.val 5 91 (by kernel_rfl) (by kernel_rfl))
              · exact kp_rest2 (n := n1) (c := c1) (k := i + 1) (by omega) hc6 hc62 rfl (L.val 4 90 (by kernel_rfl) (by kernel_rfl)) (L.val 6 92 (by kernel_rfl) (by kernel_rfl))
              · exact kp_app25 (Nat.le_trans HB6.out L.rel.size) L.rel.size HNL.out (by omega) hc6 hin (HR6.out.keep L.rel fun _ _ => trivial) rfl (L.val 3 89 (by kernel_rfl) (by kernel_rfl)) (L.val 7 93 (by kernel_rfl) (by kernel_rfl))
              · exact kp_pass (V := Out25 w.heap.size w6.heap.size g (st.take i ++ st.drop (i + 1)) (n1 - 1)) rfl (L.val 8 94 (by kernel_rfl) (by kernel_rfl))
            · intro vs w8 hk8 hlen hv
              have hv9 := hv 9 5 (by kernel_rfl)
              match vs, hlen with
              | [v0, v1, v2, v3, v4, v5, v6, v7, v8, v9], _ =>
                have h9 : Out25 w.heap.size w6.heap.size g (st.take i ++ st.drop (i + 1)) (n1 - 1) w8 v9 := hv9
                have hl9 : (ixDrop st K).length = n1 - 1 := by
                  rw [HDR.out, List.length_append, List.length_take, List.length_drop, ← HNL.out]; omega
                have hT9 : Tri S w w8 q (ixDrop st K) (ixDrop st K) v9 ob K pos := H6.out.next hk8 (by rw [hl9, HDR.out]; exact h9.1) fun b hb => by
                  rcases h9.2 b hb with e | e
                  · exact .inl (by rw [e]; rfl)
                  · exact .inr e
                obtain ⟨A9, c9, rfl, -, -, -⟩ := h9.1.form
                have HT9 := Lib.hid hT9
                have HL9 := Lib.hid hl9
                clear hv hv9 h9 hl9 hT9 H6 HR6 hk8
                simp only [putAll, List.map, Act.put, List.setIfInBounds_toArray, List.set_cons_succ, List.set_cons_zero, Exit.then]
                go_wp2_with fail
                go_meet
                exact ⟨ixDrop st K, A9, n1 - 1, c9, rfl, by omega, Lib.hid ⟨HL9.out.symm, ixDrop_nodup HND.out, ixDrop_i64 HI64.out⟩, HT9⟩
        · have o2' := HTR.out.o2
          go_wp2_with fail
          go_loopg [10, 11] n1 (fun g s10 s11 wr => ∃ (t nm : Nat) (Am : Option Addr) (cm : Nat), g = n1 - t ∧ t ≤ n1 ∧ s11 = .int .i64 (t : Int) ∧ s10 = .slice Am nm cm ∧ nm ≤ t ∧ Hid (nm = (ixBelow (st.take t) pos).length) ∧ Hid (OwnLe wr w4.heap.size 32 2 s10 nm (pairC (ixBelow (st.take t) pos))) ∧ Hid (Kp w4 wr))
          case atStart => exact ⟨0, 0, none, 0, rfl, Nat.zero_le _, rfl, rfl, Nat.le_refl _, Lib.hid rfl, Lib.hid (OwnLe.nil _ _ _ _), Lib.hid (Keeps.refl _ _)⟩
          case round =>
            obtain ⟨t, nm, Am, cm, rfl, ht, rfl, rfl, hnm, HNM, HOM, HK⟩ := hrel
            have o2r := HK.out.cell o2' trivial
            by_cases htn : t < n1
            · have htn' : (t : Int) < (n1 : Int) := by omega
              have htl : t < st.length := by have := HNL.out; omega
              obtain ⟨g, rfl⟩ := HTR.out.head HNL.out (by omega)
              obtain ⟨q0, q1⟩ := (HTR.out.keep HK.out).pair_at HNL.out htl
              have HBT := Lib.hid (below_take htl pos)
              obtain ⟨x1, x2, hx⟩ : ∃ x1 x2, st[t] = (x1, x2) := ⟨_, _, rfl⟩
              rw [hx] at q0 q1 HBT
              simp only at q0 q1 HBT
              clear hx
              by_cases hp : pos ≤ x2
              · have hp' : decide (pos ≤ x2) = true := by simpa using hp
                have HBT2 := Lib.hid (show ixBelow (st.take (t + 1)) pos = ixBelow (st.take t) pos ++ [(x1, x2)] from by rw [HBT.out, if_pos hp])
                go_wp2_with fail
                go_quiet (fail)
                have kq : Kp wr (wr.drewN nq) := (Keeps.refl _ wr).drewN nq
                have r0 := kq.cell q0 trivial
                have r1 := kq.cell q1 trivial
                have HK5 := Lib.hid (HK.out.trans kq)
                have HO5 := Lib.hid (HOM.out.keep kq fun _ _ => trivial)
                clear kq q0 q1 o2r HK HOM HBT
                generalize wr.drewN nq = w5 at *
                have HSRC := Lib.hid (src_pair w5 x1 x2)
                have HROW := Lib.hid (HO5.out.keep ((Keeps.refl (fun _ => True) w5).alloc (.cells #[.string x1, .int .i64 x2] 32)) fun _ _ => trivial)
                have hsz := HK5.out.size
                go_wp2_with (at_builtin; refine pair_elem.list_append_le rfl (.tmp 111) (.tmp 116) _ rfl rfl HROW.out rfl HSRC.out ?c3 ?c4 ?c5 ?_)
                case c3 => unfold maxLen; omega
                case c4 => omega
                case c5 => simp; omega
                intro v6 w6 ho6 hg6 hb6
                have HK6 := Lib.hid (show Kp w4 w6 from (HK5.out.alloc _).grown hg6 fun b hb => (HO5.out.lt b hb).1)
                have HO6 := Lib.hid (show OwnLe w6 w4.heap.size 32 2 v6 (nm + 1) (pairC (ixBelow (st.take (t + 1)) pos)) from by rw [HBT2.out, pairC_app]; exact ho6)
                obtain ⟨A6, c6, rfl, -, -, -⟩ := ho6.form
                clear ho6 hg6 hb6 HROW HSRC HO5 HK5 r0 r1
                go_wp2_with fail
                go_roundg (n1 - (t + 1))
                case measure => omega
                case rel => exact ⟨t + 1, nm + 1, A6, c6, rfl, by omega, by go_num, rfl, by omega, Lib.hid (by rw [HBT2.out, List.length_append, ← HNM.out]; rfl), HO6, HK6⟩
              · have hp' : decide (pos ≤ x2) = false := by simpa using hp
                have HBT2 := Lib.hid (show ixBelow (st.take (t + 1)) pos = ixBelow (st.take t) pos from by rw [HBT.out, if_neg hp, List.append_nil])
                go_wp2_with fail
                go_quiet (fail)
                go_wp2_with fail
                go_roundg (n1 - (t + 1))
                case measure => omega
                case rel => exact ⟨t + 1, nm, Am, cm, rfl, by omega, by go_num, rfl, by omega, Lib.hid (by rw [HBT2.out]; exact HNM.out), Lib.hid (by rw [HBT2.out]; exact HOM.out.keep ((Keeps.refl _ wr).drewN nq) fun _ _ => trivial), Lib.hid (HK.out.drewN _)⟩
            · obtain rfl : n1 = t := by omega
              have htn' : ¬ (n1 : Int) < (n1 : Int) := by omega
              have hst : st.take n1 = st := by rw [HNL.out]; exact List.take_length
              rw [hst] at HNM HOM
              have HTM := Lib.hid (show Tri S w wr q st (ixBelow st pos) (.slice Am nm cm) ob K pos from HTR.out.next HK.out (by rw [← HNM.out]; exact OwnLe.base HOM.out HTR.out.below.size) fun b hb => .inr (HOM.out.lt b hb).1)
              have HX := Lib.hid (show (n1 : Int) - (nm : Int) = ((st.length - (ixBelow st pos).length : Nat) : Int) from by
                have h1 := HNL.out
                have h2 := HNM.out
                have h3 : (ixBelow st pos).length ≤ st.length := List.length_filter_le _ _
                omega)
              clear hst HOM HK HTR o2'
              go_wp2_with fail
              refine (show Calls _ _ _ _ _ from tri_below HT.out HTM.out HLEN.out pos HPI.out ((n1 : Int) - (nm : Int)) HX.out _ rfl).mono ?_
              rintro e w6 ⟨rfl, h⟩
              have H6 := Lib.hid h
              clear h HTM
              go_wp2_with fail
              go_meet
              exact ⟨ixBelow st pos, Am, nm, cm, rfl, by omega, Lib.hid ⟨HNM.out, ixBelow_nodup HND.out, ixBelow_i64 HI64.out⟩, H6⟩
        · go_wp2_with fail
          go_meet
          exact ⟨st, A1, n1, c1, rfl, by omega, Lib.hid ⟨HNL.out, HND.out, HI64.out⟩, HTR⟩
      case rest =>
        clear HTR HNL HND HI64 HLEN ho0 hnj HW4
        obtain ⟨st2, A2, n2, c2, rfl, hn2, HS2, HT2⟩ := hcut
        go_wp2_with fail
        go_loopg [12, 13] n2 (fun g s12 s13 wr => ∃ (t : Nat) (A3 : Option Addr) (c3 : Nat), g = n2 - t ∧ t ≤ n2 ∧ s13 = .int .i64 (t : Int) ∧ s12 = .slice A3 t c3 ∧ Hid (wr.ownsRow wc.heap.size 9 1 s12 t (keyC st2 t)) ∧ Hid (Kp wc wr))
        case atStart => exact ⟨0, none, 0, rfl, Nat.zero_le _, rfl, rfl, Lib.hid (World.ownsRow_nil _ _ _ _), Lib.hid (Keeps.refl _ _)⟩
        case round =>
          obtain ⟨t, A3, c3, rfl, ht, rfl, rfl, HO, HK⟩ := hrel
          by_cases htn : t < n2
          · have htn' : (t : Int) < (n2 : Int) := by omega
            have htl : t < st2.length := by have := HS2.out.1; omega
            obtain ⟨g, rfl⟩ := HT2.out.head HS2.out.1 (by omega)
            obtain ⟨q0, -⟩ := (HT2.out.keep HK.out).pair_at HS2.out.1 htl
            have HKC := Lib.hid (keyC_succ htl)
            generalize st2[t].1 = x1 at q0 HKC
            have HSRC := Lib.hid (src_key wr x1)
            have HROW := Lib.hid (HO.out.alloc (.cells #[.string x1] 9))
            have hsz := HK.out.size
            go_wp2_with (at_builtin; refine str_elem.list_append rfl (.tmp 135) (.tmp 141) _ rfl rfl HROW.out rfl HSRC.out ?c3 ?c4 ?c5 ?_)
            case c3 => unfold maxLen; omega
            case c4 => omega
            case c5 => simp; omega
            intro v6 w6 ho6 hg6 hb6
            have HK6 := Lib.hid (show Kp wc w6 from (HK.out.alloc _).grown hg6 fun b hb => (HO.out.lt b hb).1)
            have HO6 := Lib.hid (show w6.ownsRow wc.heap.size 9 1 v6 (t + 1) (keyC st2 (t + 1)) from by rw [HKC.out]; exact ho6)
            obtain ⟨g6, c6, rfl, -, -⟩ := ho6.form (by omega)
            clear ho6 hg6 hb6 HROW HSRC HO HK q0
            go_wp2_with fail
            go_roundg (n2 - (t + 1))
            case measure => omega
            case rel => exact ⟨t + 1, some ⟨g6, 0, none⟩, c6, rfl, by omega, by go_num, rfl, HO6, HK6⟩
          · obtain rfl : n2 = t := by omega
            have htn' : ¬ (n2 : Int) < (n2 : Int) := by omega
            have HT3 := Lib.hid (HT2.out.keep HK.out)
            have HRK := Lib.hid (show Row wr A3 (fun _ => True) (strC (st2.map (·.1))) from by
              have h := HO.out
              unfold keyC at h
              rw [show st2.take n2 = st2 from by rw [HS2.out.1]; exact List.take_length] at h
              have e : n2 = (strC (st2.map (·.1))).length := by rw [strC_len, List.length_map]; exact HS2.out.1
              rw [e] at h
              exact (Row.of_own h).mono fun _ _ _ => trivial)
            have HAT := Lib.hid (at_any wr A2 n2 c2 st2 K HS2.out.1 (HT3.out.pairs HS2.out.1) (by omega))
            have o1' := HT3.out.o1
            have HL2 := Lib.hid (show st2.length ≤ 4096 by have := HS2.out.1; omega)
            clear HO HK HT2
            go_wp2_with fail
            refine (show Calls _ _ _ _ _ from HAT.out).mono ?_
            rintro e w5 ⟨rfl, hw5⟩
            have hw5 := hw5.symm
            subst hw5
            clear HAT
            cases hat : ixAt st2 K with
            | none =>
              have hz : atZ st2 K = -1 := by unfold atZ; rw [hat]
              rw [hz]
              have HNO := Lib.hid (ixAt_none.1 hat)
              clear hat hz
              go_wp2_with fail
              refine (show Calls _ _ _ _ _ from tri_get HT.out HT3.out HL2.out K HKS.out 0 false (by rw [HNO.out]; rfl) (by rw [HNO.out]; rfl)).mono ?_
              rintro e w6 ⟨rfl, hk6, h⟩
              have HT6 := Lib.hid h
              have HRK6 := Lib.hid (HRK.out.keep hk6)
              clear h hk6 HT3 HRK o1'
              go_wp2_with fail
              refine (show Calls _ _ _ _ _ from tri_len HT.out HT6.out HL2.out (n2 : Int) (by rw [HS2.out.1])).mono ?_
              rintro e w7 ⟨rfl, hk7, h⟩
              have HT7 := Lib.hid h
              have HRK7 := Lib.hid (HRK6.out.keep hk7)
              clear h hk7 HT6 HRK6
              go_wp2_with fail
              refine (show Calls _ _ _ _ _ from tri_keys HT.out HT7.out n2 HS2.out.1 (by omega)).mono ?_
              rintro e w8 ⟨A8, c8, ks, rfl, hp8, hr8, hrow8, hk8, h⟩
              have HT8 := Lib.hid h
              have HRISE := Lib.hid (show Calls Try.prog 19 #[.slice A3 n2 c3] w8 fun e w' => ∃ A c ks, e = .returned (.slice A n2 c) ∧ ks.Perm (st2.map (·.1)) ∧ Rising ks ∧ Row w' A (fun _ => True) (strC ks) ∧ Kp w8 w' from by
                have hx := rise_any w8 A3 c3 (st2.map (·.1)) HS2.out.2.1 (HRK7.out.keep hk8) (by rw [List.length_map, ← HS2.out.1]; omega)
                rw [List.length_map, ← HS2.out.1] at hx
                exact hx)
              have HP8 := Lib.hid hp8
              have HR8 := Lib.hid hr8
              have HROW8 := Lib.hid hrow8
              clear h hp8 hr8 hrow8 hk8 HT7 HRK7
              go_wp2_with fail
              refine (show Calls _ _ _ _ _ from HRISE.out).mono ?_
              rintro e w9 ⟨A9, c9, ks9, rfl, hp9, hr9, hrow9, hk9⟩
              have HT9 := Lib.hid (HT8.out.keep hk9)
              have HEQ := Lib.hid (show Calls Try.prog 17 #[.slice A8 n2 c8, .slice A9 n2 c9] w9 fun e w' => e = .returned (.bool true) ∧ Kp w9 w' from by
                have e : ks = ks9 := rising_one HR8.out hr9 (HP8.out.trans hp9.symm)
                have hl : ks9.length = n2 := by rw [hp9.length_eq, List.length_map]; exact HS2.out.1.symm
                have hx := eqtexts_same w9 A8 A9 c8 c9 ks9 (by rw [← e]; exact HROW8.out.keep hk9) hrow9 (by omega)
                rw [hl] at hx
                exact hx)
              clear hp9 hr9 hrow9 hk9 HT8 HRISE HP8 HR8 HROW8
              go_wp2_with fail
              refine (show Calls _ _ _ _ _ from HEQ.out).mono ?_
              rintro e w10 ⟨rfl, hk10⟩
              have HB10 := Lib.hid (HT9.out.keep hk10).both
              clear hk10 HT9 HEQ
              go_wp2_with fail
              go_roundg (80 - (j + 1))
              case measure => omega
              case rel => exact ⟨j + 1, st2, _, n2, c2, rfl, by omega, by omega, by go_num, rfl, hn2, Lib.hid ⟨HS2.out.1, HS2.out.2.1, HS2.out.2.2, HB10.out⟩⟩
            | some i =>
              have hz : atZ st2 K = (i : Int) := by unfold atZ; rw [hat]
              rw [hz]
              obtain ⟨hi, -, hget⟩ := ixAt_get HS2.out.2.1 hat
              have hin : i < n2 := by have := HS2.out.1; omega
              obtain ⟨g, rfl⟩ := HT3.out.head HS2.out.1 (by omega)
              obtain ⟨-, pp⟩ := HT3.out.pair_at HS2.out.1 hi
              have HGT := Lib.hid hget
              clear hat hz hget
              generalize (st2[i]).2 = z at pp HGT
              go_wp2_with fail
              refine (show Calls _ _ _ _ _ from tri_get HT.out HT3.out HL2.out K HKS.out z true (by rw [HGT.out]; rfl) (by rw [HGT.out]; rfl)).mono ?_
              rintro e w6 ⟨rfl, hk6, h⟩
              have pp6 := hk6.cell pp trivial
              have HT6 := Lib.hid h
              have HRK6 := Lib.hid (HRK.out.keep hk6)
              clear h hk6 HT3 HRK o1'
              go_wp2_with fail
              refine (show Calls _ _ _ _ _ from tri_len HT.out HT6.out HL2.out (n2 : Int) (by rw [HS2.out.1])).mono ?_
              rintro e w7 ⟨rfl, hk7, h⟩
              have HT7 := Lib.hid h
              have HRK7 := Lib.hid (HRK6.out.keep hk7)
              clear h hk7 HT6 HRK6
              go_wp2_with fail
              refine (show Calls _ _ _ _ _ from tri_keys HT.out HT7.out n2 HS2.out.1 (by omega)).mono ?_
              rintro e w8 ⟨A8, c8, ks, rfl, hp8, hr8, hrow8, hk8, h⟩
              have HT8 := Lib.hid h
              have HRISE := Lib.hid (show Calls Try.prog 19 #[.slice A3 n2 c3] w8 fun e w' => ∃ A c ks, e = .returned (.slice A n2 c) ∧ ks.Perm (st2.map (·.1)) ∧ Rising ks ∧ Row w' A (fun _ => True) (strC ks) ∧ Kp w8 w' from by
                have hx := rise_any w8 A3 c3 (st2.map (·.1)) HS2.out.2.1 (HRK7.out.keep hk8) (by rw [List.length_map, ← HS2.out.1]; omega)
                rw [List.length_map, ← HS2.out.1] at hx
                exact hx)
              have HP8 := Lib.hid hp8
              have HR8 := Lib.hid hr8
              have HROW8 := Lib.hid hrow8
              clear h hp8 hr8 hrow8 hk8 HT7 HRK7
              go_wp2_with fail
              refine (show Calls _ _ _ _ _ from HRISE.out).mono ?_
              rintro e w9 ⟨A9, c9, ks9, rfl, hp9, hr9, hrow9, hk9⟩
              have HT9 := Lib.hid (HT8.out.keep hk9)
              have HEQ := Lib.hid (show Calls Try.prog 17 #[.slice A8 n2 c8, .slice A9 n2 c9] w9 fun e w' => e = .returned (.bool true) ∧ Kp w9 w' from by
                have e : ks = ks9 := rising_one HR8.out hr9 (HP8.out.trans hp9.symm)
                have hl : ks9.length = n2 := by rw [hp9.length_eq, List.length_map]; exact HS2.out.1.symm
                have hx := eqtexts_same w9 A8 A9 c8 c9 ks9 (by rw [← e]; exact HROW8.out.keep hk9) hrow9 (by omega)
                rw [hl] at hx
                exact hx)
              clear hp9 hr9 hrow9 hk9 HT8 HRISE HP8 HR8 HROW8
              go_wp2_with fail
              refine (show Calls _ _ _ _ _ from HEQ.out).mono ?_
              rintro e w10 ⟨rfl, hk10⟩
              have HB10 := Lib.hid (HT9.out.keep hk10).both
              clear hk10 HT9 HEQ
              go_wp2_with fail
              go_roundg (80 - (j + 1))
              case measure => omega
              case rel => exact ⟨j + 1, st2, _, n2, c2, rfl, by omega, by omega, by go_num, rfl, hn2, Lib.hid ⟨HS2.out.1, HS2.out.2.1, HS2.out.2.2, HB10.out⟩⟩

end Go.Proofs.Ytilcmlioofkkmaa.indexAll
