/-
  'begun' OF LAYER 20 ANSWERS true, however messages are held.
-/
import Derived.Test.YtpijhpfcigjkeaaDoorNtIf
import Derived.Outline
namespace Go.Proofs.YtpijhpfcigjkeaaDoor
open Go Go.RowKit Go.Joins

theorem run_slice3 (w : World) (m n p : Ms) (a b c : MsA) : (Instr.buildSlice 26 3 #[(0, msV m a), (1, msV n b), (2, msV p c)]).run Tryd.prog w = .ok (.slice (some ⟨w.heap.size, 0, none⟩) 3 3) (w.alloc (.cells (msRow [(m, a), (n, b), (p, c)]).toArray 36)) := by kernel_rfl
theorem list_slice3 {w : World} {ops : Array Oper} {rest : List Oper} {o : Oper} {a : Act} {Q : Exit → Act → World → Prop} (hgd : Region.wanted o (yielded ops a.tmps) = true) (x y z : Operand) (ho : o.op = .buildSlice 26 3 #[(0, x), (1, y), (2, z)]) (p q r : MP)
    (hx : a.eval x = msV p.1 p.2) (hy : a.eval y = msV q.1 q.2) (hz : a.eval z = msV r.1 r.2)
    (hK : ∀ w', Row w' (some ⟨w.heap.size, 0, none⟩) (fun b => b = w.heap.size) (msRow [p, q, r]) → Kp w w' → w'.heap.size = w.heap.size + 1 → wpList Tryd.prog ops Q rest (a.put o.dst (.slice (some ⟨w.heap.size, 0, none⟩) 3 3)) w') : wpList Tryd.prog ops Q (o :: rest) a w := by
  refine wpList_wanted hgd fun K hh => ?_
  have hr := run_slice3 w p.1 q.1 r.1 p.2 q.2 r.2
  rw [← hx, ← hy, ← hz] at hr
  unfold Oper.wp execOp
  simp only [ho, Sem.run_bind, Sem.run_pure, Result.andThen_ok, List.map_toArray, List.map_cons, List.map_nil, hr]
  exact hh _ _ (hK _ (Row.fresh (F := fun b => b = w.heap.size) w _ _ _ _ rfl rfl _ rfl) ((Keeps.refl _ w).alloc _) (by simp))
def msN : Ms := ⟨12, 0, 2, 4, 0, 0, 0, 0, 0, ⟨#[]⟩, 0, false, it0, [], [], [], 0, []⟩
theorem msN_may : mayM msN = true := by decide
theorem msN_fits : msN.Fits := may_fits msN_may
theorem sent_N : sent [] [msN, ms0, msN] = ([msN, msN], 2) := by
  have h0 : mayM ms0 = false := by decide
  simp [sent, msN_may, h0]

set_option maxRecDepth 100000 in
set_option maxHeartbeats 4000000 in
theorem begun20 (S : NetOK) (w : World) (hT : S.T w) : Calls Tryd.prog 8 #[] w fun e w' => e = .returned (.bool true) ∧ Kp w w' := by
  have HT := Lib.hid hT
  clear hT
  obtain ⟨vN, hvN⟩ : ∃ v, msV msN msA0 = v := ⟨_, rfl⟩
  obtain ⟨v0, hv0⟩ : ∃ v, msV ms0 msA0 = v := ⟨_, rfl⟩
  have HVN := Lib.hid hvN
  have HV0 := Lib.hid hv0
  clear hvN hv0
  go_enter Tryd.func8, Tryd.ntmps8
  go_wp2_with fail
  refine (show Calls _ _ _ _ _ from S.new w w HT.out (Keeps.refl _ w)).mono ?_
  rintro e w1 ⟨n, F, rfl, h, -, hk⟩
  have HA := Lib.hid h
  have HK1 := Lib.hid hk
  clear h hk
  go_upto_region 5 with (first
    | (refine list_buildM rfl _ rfl vN (by rw [← HVN.out]; kernel_rfl) ?_)
    | (refine list_allocM rfl rfl ?_; intro w2 hb2 hk2 hs2)
    | (refine list_storeM rfl (.tmp 2) (.tmp 9) rfl _ _ msN _ msA0 hb2 rfl HVN.out.symm ?_; intro w3 hb3 hk3 hs3))
  have hk13 := kp_made hk2 hk3
  have HA3 := Lib.hid (S.atK HA.out hk13)
  have HK3 := Lib.hid (HK1.out.trans hk13)
  obtain ⟨g, hg⟩ : ∃ g, w1.heap.size = g := ⟨_, rfl⟩
  rw [hg] at hb3 ⊢
  have HB3 := Lib.hid hb3
  clear hb2 hk2 hs2 hb3 hk3 hs3 hk13 hg HA HK1
  go_wp2_with (first
    | (refine list_loadM rfl (.tmp 2) rfl g msN msA0 HB3.out rfl vN HVN.out ?_)
    | (refine list_buildM rfl _ rfl v0 (by rw [← HV0.out]; kernel_rfl) ?_)
    | (refine list_slice3 rfl (.tmp 11) (.tmp 12) (.tmp 13) rfl (msN, msA0) (ms0, msA0) (msN, msA0) HVN.out.symm HV0.out.symm HVN.out.symm ?_; intro w4 hr4 hk4 hs4))
  have hA4 := S.atK HA3.out hk4
  have hlt := (S.atIn HA3.out).2
  have HS := Lib.hid (S.send w w4 n F [] (some ⟨w3.heap.size, 0, none⟩) 3 3 (fun b => b = w3.heap.size) [(msN, msA0), (ms0, msA0), (msN, msA0)] HT.out hA4 rfl ⟨hr4, fun p hp => by
      simp only [List.mem_cons, List.not_mem_nil, or_false] at hp
      rcases hp with rfl | rfl | rfl <;> exact MsIn.zero _ _ _ rfl rfl rfl rfl⟩ (fun b hb hf => by have := (hlt b hf).2; omega) (by decide) (by decide) (by decide) (fun p hp => by
      simp only [List.mem_cons, List.not_mem_nil, or_false] at hp
      rcases hp with rfl | rfl | rfl
      · exact msN_fits
      · exact ms0_fits
      · exact msN_fits))
  rw [show [(msN, msA0), (ms0, msA0), (msN, msA0)].map (·.1) = [msN, ms0, msN] from rfl, sent_N] at HS
  have HB4 := Lib.hid (HB3.out.kp hk4)
  have hAT := (S.atIn hA4).1
  clear hA4 hlt hr4 hk4 hs4 HA3 HK3 HB3
  refine (show Calls _ _ _ _ _ from HS.out).mono ?_
  rintro e w5 ⟨rfl, F5, hA5, hF5, -⟩
  have HT5 := Lib.hid (S.take w w5 n F5 _ 0 (by decide) HT.out hA5)
  clear hA5 hF5 HS
  go_wp2_with fail
  refine (show Calls _ _ _ _ _ from HT5.out).mono ?_
  rintro e w6 ⟨⟨a6, F6, rfl, hA6, -, -⟩, -⟩
  obtain ⟨v6, hv6⟩ : ∃ v, msV msN a6 = v := ⟨_, rfl⟩
  have HV6 := Lib.hid hv6
  have HA6 := Lib.hid (show S.At w w6 n F6 [msN] from hA6)
  rw [show ([msN, msN][0]'(by decide)) = msN from rfl, hv6]
  clear hA6 HT5 hv6
  go_upto_region 7 with (first
    | (refine list_allocM rfl rfl ?_; intro w7 hb7 hk7 hs7)
    | (refine list_storeM rfl (.tmp 4) (.tmp 19) rfl _ _ msN _ a6 hb7 rfl HV6.out.symm ?_; intro w8 hb8 hk8 hs8))
  have hk68 := kp_made hk7 hk8
  have HA8 := Lib.hid (S.atK HA6.out hk68)
  obtain ⟨g2, hg2⟩ : ∃ g, w6.heap.size = g := ⟨_, rfl⟩
  rw [hg2] at hb8 ⊢
  have c3 := hb8.cell 3 (.int .i64 4) rfl
  have HL := Lib.hid (S.len w w8 n F6 _ HT.out HA8.out)
  clear hb7 hk7 hs7 hb8 hk8 hs8 hk68 hg2 HA6
  go_wp2_with fail
  refine (show Calls _ _ _ _ _ from HL.out).mono ?_
  rintro e w9 ⟨rfl, hk9⟩
  have hA9 := S.atK HA8.out hk9
  have HD := Lib.hid (S.drop w w9 n F6 _ 0 (by decide) HT.out hA9)
  clear hk9 hA9 HL HA8 c3
  go_wp2_with fail
  refine (show Calls _ _ _ _ _ from HD.out).mono ?_
  rintro e w10 ⟨rfl, F10, hA10, -, -⟩
  have HD2 := Lib.hid (S.dropNo w w10 n F10 _ 0 HT.out hA10 (.inr (by decide)))
  have HA10 := Lib.hid hA10
  clear hA10 HD
  go_wp2_with fail
  refine (show Calls _ _ _ _ _ from HD2.out).mono ?_
  rintro e w11 ⟨rfl, hk11⟩
  have HK := Lib.hid ((S.atIn HA10.out).1.trans hk11)
  clear hk11 HD2
  go_wp2_with fail
  go_ret
  exact ⟨rfl, HK.out⟩

end Go.Proofs.YtpijhpfcigjkeaaDoor
