/-
  IndexBelow, walked over what an index keeps.
-/
import Derived.Test.YtilcmlioofkkmaaIndexBelowMath
namespace Go.Proofs.Ytilcmlioofkkmaa.indexBelow
open Go Go.RowKit

section
variable {o : Oper} {a : Act} {w : World} {Q : Exit → Act → World → Prop} {x : Operand}
theorem one_enter {P : Program} {X : World → Value → Prop} {f : FuncId} {args : Array Value} {C : Ending → World → Prop} (e : (execOp a.eval o).run P w = .ok (.enter f args) w) (hc : Calls P f args w C)
    (hC : ∀ e w', C e w' → ∃ v, e = .returned v ∧ X w' v) : o.wp P a w (fun a' w' => ∃ v, a' = a.put o.dst v ∧ X w' v) Q := by
  unfold Oper.wp
  rw [e]
  refine hc.mono fun e w' h => ?_
  obtain ⟨v, rfl, hv⟩ := hC e w' h
  exact ⟨v, rfl, hv⟩
theorem kp_name {k : Nat} (hk : k ≤ 17575) (ho : o.op = .call { callee := .value (.func 20), args := #[x], argTypes := #[3] })
    (hx : a.eval x = .int .i64 (k : Int)) : o.wp Try.prog a w (fun a' w' => ∃ v, a' = a.put o.dst v ∧ Kp w w' ∧ IsV (.string (nameZ k)) w' v) Q := by
  have hf : a.eval (.func 20) = .func (.func 20) #[] #[] := rfl
  refine kp_enter (f := 20) (args := #[.int .i64 (k : Int)]) ?_ (name_any w k hk) ?_
  · generalize a.eval = ρ at hx hf ⊢
    unfold execOp
    rw [ho]
    go_simp
  · rintro e w' ⟨rfl, hk⟩
    exact ⟨_, rfl, hk, rfl⟩
end

set_option maxRecDepth 100000 in
set_option maxHeartbeats 1000000 in
theorem walk (S : IndexOK) (w : World) (hT : S.T w) (n p : Int) (A : Option Addr) (c : Nat) (l : List Int) (ha : l.length ≤ c) (hb : c ≤ maxLen) (hg : Row w A (fun b => b < w.heap.size) (l.map (Value.int .i64))) (hf : ∀ z ∈ l, -9223372036854775808 ≤ z ∧ z ≤ 9223372036854775807) : Calls Try.prog 6 #[.int .i64 n, .int .i64 p, .slice A l.length c] w fun e w' => e = .returned (.bool true) ∧ Below w.heap.size w w' := by
  have HT := Lib.hid hT
  have HROW := Lib.hid hg
  have HLF := Lib.hid hf
  unfold maxLen at hb
  obtain ⟨m, hm⟩ : ∃ m, l.length = m := ⟨_, rfl⟩
  have HM := Lib.hid hm
  rw [hm] at ha ⊢
  clear hg hf hm
  have hcs : (decide (n < 0) = true) ∨ (decide (n < 0) = false ∧ decide (60 < n) = true) ∨ (decide (n < 0) = false ∧ decide (60 < n) = false ∧ decide (p < 0) = true) ∨ (decide (n < 0) = false ∧ decide (60 < n) = false ∧ decide (p < 0) = false ∧ decide (200 < p) = true) ∨ (decide (n < 0) = false ∧ decide (60 < n) = false ∧ decide (p < 0) = false ∧ decide (200 < p) = false) := by
    cases decide (n < 0) <;> cases decide (60 < n) <;> cases decide (p < 0) <;> cases decide (200 < p) <;> simp
  clear hT
  go_enter Try.func6, Try.ntmps6
  go_wp2_with fail
  refine (show Calls _ _ _ _ _ from begun8 S w HT.out).mono ?_
  rintro e w1 ⟨rfl, hk⟩
  have K1 := Lib.hid hk
  clear hk
  rcases hcs with c1 | ⟨c1, c2⟩ | ⟨c1, c2, c3⟩ | ⟨c1, c2, c3, c4⟩ | ⟨c1, c2, c3, c4⟩
  · go_wp2_with fail
    go_ret
    exact ⟨rfl, K1.out.below⟩
  · go_wp2_with fail
    go_ret
    exact ⟨rfl, K1.out.below⟩
  · go_wp2_with fail
    go_ret
    exact ⟨rfl, K1.out.below⟩
  · go_wp2_with fail
    go_ret
    exact ⟨rfl, K1.out.below⟩
  · have n1 : 0 ≤ n := by have := of_decide_eq_false c1; omega
    have n2 : n ≤ 60 := by have := of_decide_eq_false c2; omega
    have q1 : 0 ≤ p := by have := of_decide_eq_false c3; omega
    have q2 : p ≤ 200 := by have := of_decide_eq_false c4; omega
    obtain ⟨N, rfl⟩ : ∃ N : Nat, n = (N : Int) := ⟨n.toNat, by omega⟩
    have n3 : N ≤ 60 := by omega
    clear n1 n2
    go_wp2_with fail
    refine (show Calls _ _ _ _ _ from ix_new S HT.out K1.out).mono ?_
    rintro e w2 ⟨q, F, rfl, h⟩
    have H2 := Lib.hid h
    clear h K1 c1 c2 c3 c4
    go_wp2_with (refine list_make rfl (.tmp 36) (.tmp 36) 47 rfl i64_elem .i64 .i64 N rfl rfl (by omega) (by unfold maxLen; omega) (posL N (p1 0)) (made_pos N) ?_)
    intro w3 hown hg3
    have hk3 : Keeps (fun _ => True) w2 w3 := Keeps.of_grown hg3 (fun _ h => by cases h)
    have hlt3 : w2.heap.size < w3.heap.size := by
      have := hown.lt
      exact (this w2.heap.size rfl).2
    have hb : Beside S w w3 q [] w2.heap.size w2.heap.size N (p1 0) := ⟨F, H2.out.keep hk3, fun hf => by have := S.lt H2.out.r _ hf; omega, hown, hlt3, Nat.le_refl _⟩
    have hWg : w.heap.size ≤ w2.heap.size := H2.out.kp.size
    have HB := Lib.hid hb
    clear hown hg3 hk3 hlt3 hb H2
    generalize w2.heap.size = g at HB hWg ⊢
    go_wp2_with fail
    go_loopw [10] (fun i wr => ∃ (k : Nat) (st : IxSt), k ≤ N ∧ i = .int .i64 k ∧ NSt st (f1 k) k ∧ Beside S w wr q st g g N (p1 k)) (fun i _ => N - (intOf i).toNat)
    case atStart => exact ⟨0, [], Nat.zero_le _, rfl, ⟨[], rfl, by simp, by simp, fun i => rfl, rfl⟩, HB.out⟩
    case round =>
      clear HB
      obtain ⟨k, st, hk, rfl, hn, h⟩ := hrel
      have HN := Lib.hid hn
      have hcell := (by obtain ⟨_, _, _, h⟩ := h; exact h : PosN wr g g N (p1 k))
      have H := Lib.hid h
      clear hn h
      by_cases hl : k < N
      · have hl' : (k : Int) < (N : Int) := by omega
        have hc := hcell.at_ hl
        have hfz := hcell.frozen k
        have H3 := Lib.hid (show Beside S w (wr.setCell ⟨g, k, none⟩ (.int .i64 ((k : Int) + 1))) q st g g N (p1 (k + 1)) from by
          rw [← p1_step]; exact H.out.store hWg k _)
        have hnone : ixGet st (nameZ k) = none := by rw [HN.out.get (by omega)]; simp [f1]
        have HNO := Lib.hid hnone
        have HLn := Lib.hid (show st.length ≤ 4096 by rw [HN.out.len]; omega)
        clear hcell H hnone
        go_wp2_with fail
        clear hc hfz
        generalize wr.setCell ⟨g, k, none⟩ (.int .i64 ((k : Int) + 1)) = w4 at H3 ⊢
        refine wp_region_prev (V := V12 q g N k) (w0 := w4) 7 (S12 S w q st g g N k) (fun _ _ => True) (fun _ => none) (by kernel_rfl) (fun i w w' v _ hv => V12_keep i w w' v hv) (fun _ _ _ h hs => hs.keep h) (fun i _ w w' v _ hv => V12_keep i w w' v hv) (by kernel_rfl) (by decide) (fun g c h => by cases h) (fun i o ho hw => (all_wanted (by kernel_rfl) ho hw).elim) (show S12 S w q st g g N k false w4.drew from Beside.keep H3.out ((Keeps.refl _ w4).drew)) (each_of ?_) ?_
        · refine ⟨?_, ?_, ?_, ?_, ?_, ?_, ?_, ?_, trivial⟩ <;> intro hw a1 w5 L
          · rw [if_neg (by decide)]
            intro b _ _ _
            exact kp_move rfl (L.old 8 (by kernel_rfl))
          · rw [if_neg (by decide)]
            intro b _ _ _
            exact kp_move rfl (L.old 10 (by kernel_rfl))
          · rw [if_neg (by decide)]
            intro b _ _ _
            exact kp_name (by omega) rfl (L.val 1 49 (by kernel_rfl) (by kernel_rfl))
          · rw [if_neg (by decide)]
            intro b _ _ _
            exact kp_move rfl (L.old 9 (by kernel_rfl))
          · rw [if_neg (by decide)]
            intro b _ _ _
            exact kp_move rfl (L.old 10 (by kernel_rfl))
          · rw [if_neg (by decide)]
            intro b _ _ _
            have e0 : a1.eval (.tmp 51) = .slice (some ⟨g, 0, none⟩) N N := L.val 3 51 (by kernel_rfl) (by kernel_rfl)
            have e1 : a1.eval (.tmp 52) = .int .i64 (k : Int) := L.val 4 52 (by kernel_rfl) (by kernel_rfl)
            refine kp_yield (v := .pointer (some ⟨g, k, none⟩)) (w' := w5) ?_ (Keeps.refl _ _) rfl
            clear L
            generalize a1.eval = ρ at e0 e1 ⊢
            unfold execOp
            go_simp
          · rw [if_neg (by decide)]
            intro b hs _ _
            have hc := hs.row hl
            have e0 : a1.eval (.tmp 53) = .pointer (some ⟨g, k, none⟩) := L.val 5 53 (by kernel_rfl) (by kernel_rfl)
            refine kp_yield (v := .int .i64 ((k : Int) + 1)) (w' := w5) ?_ (Keeps.refl _ _) rfl
            clear L hs
            generalize a1.eval = ρ at e0 ⊢
            unfold execOp
            go_simp
          · rw [if_pos rfl]
            intro hb
            have hb : Beside S w w5 q st g g N (p1 (k + 1)) := hb
            have e0 : a1.eval (.tmp 48) = .pointer (some ⟨q, 0, none⟩) := L.val 0 48 (by kernel_rfl) (by kernel_rfl)
            have e1 : a1.eval (.tmp 50) = .string (nameZ k) := L.val 2 50 (by kernel_rfl) (by kernel_rfl)
            have e2 : a1.eval (.tmp 54) = .int .i64 ((k : Int) + 1) := L.val 6 54 (by kernel_rfl) (by kernel_rfl)
            have hf : a1.eval (.func 12) = .func (.func 12) #[] #[] := rfl
            refine one_enter (f := 12) (args := #[.pointer (some ⟨q, 0, none⟩), .string (nameZ k), .int .i64 ((k : Int) + 1)]) ?_ (beside_put HT.out hb HLn.out (nameZ k) ((k : Int) + 1) (nameZ_size k) ⟨by omega, by omega⟩ 0 (by rw [HNO.out]; rfl) _ rfl) ?_
            · clear hb
              generalize a1.eval = ρ at e0 e1 e2 hf ⊢
              unfold execOp
              go_simp
            · rintro e w' ⟨rfl, hb'⟩
              exact ⟨_, rfl, trivial, hb', rfl⟩
        · intro vs w8 hs8 hlen hv
          match vs, hlen with
          | [v0, v1, v2, v3, v4, v5, v6, v7], _ =>
            have HB8 := Lib.hid (show Beside S w w8 q (ixPut st (nameZ k) ((k : Int) + 1)) g g N (p1 (k + 1)) from hs8)
            clear hv hs8
            simp only [putAll, List.map, Act.put, List.setIfInBounds_toArray, List.set_cons_succ, List.set_cons_zero, Exit.then]
            go_wp2
            go_roundw
            case rel => exact ⟨k + 1, _, by omega, by go_num, by rw [← f1_step]; exact HN.out.new (by omega) (by simp [f1]) _, HB8.out⟩
            case measure => simp [intOf]; omega
      · obtain rfl : N = k := by omega
        have hl' : ¬ (N : Int) < (N : Int) := by omega
        go_wp2_with fail
        have HN0 := Lib.hid (show NSt st (fp N (p1 N)) N from by rw [← fp_first]; exact HN.out)
        have HI0 := Lib.hid (show ∀ i, i64 (p1 N i) from fun i => by unfold p1 i64; split <;> omega)
        go_loopw [11] (fun i wr => ∃ (j : Nat) (pos : Nat → Int) (st : IxSt), j ≤ 20 ∧ j ≤ m ∧ i = .int .i64 (j : Int) ∧ Hid (NSt st (fp N pos) N) ∧ Hid (Beside S w wr q st g g N pos) ∧ Hid (∀ i, i64 (pos i))) (fun i _ => 20 - (intOf i).toNat)
        case atStart => exact ⟨0, p1 N, st, by omega, by omega, rfl, HN0, H, HI0⟩
        case round =>
          clear HN H HN0 HI0
          obtain ⟨j, pos, st, hj20, hjm, rfl, HN, H, HI⟩ := hrel
          have HLn := Lib.hid (show st.length ≤ 4096 by rw [HN.out.len]; omega)
          have hcs : (decide (j < m) = false) ∨ (decide (j < m) = true ∧ decide ((j : Int) < 20) = false) ∨ (decide (j < m) = true ∧ decide ((j : Int) < 20) = true ∧ decide (0 < N) = false) ∨ (decide (j < m) = true ∧ decide ((j : Int) < 20) = true ∧ decide (0 < N) = true) := by
            cases decide (j < m) <;> cases decide ((j : Int) < 20) <;> cases decide (0 < N) <;> simp
          by_cases hgo : decide (j < m) = true ∧ decide ((j : Int) < 20) = true ∧ decide (0 < N) = true
          · clear hcs
            obtain ⟨d1, d2, d3⟩ := hgo
            have hjm2 : j < m := of_decide_eq_true d1
            have hjl : j < l.length := by rw [HM.out]; exact hjm2
            have hj2 : j < 20 := by have := of_decide_eq_true d2; omega
            have hN0 : 0 < N := of_decide_eq_true d3
            obtain ⟨F, h1, h2, h3⟩ := H.out
            have HROW2 := Lib.hid (HROW.out.keep (h1.kp.mono fun _ _ _ => trivial))
            clear h1 h2 h3
            obtain ⟨b, o, rfl, -, hcell⟩ := HROW2.out.at_ (k := j) (by rw [List.length_map]; exact hjl)
            rw [List.getElem_map] at hcell
            generalize l[j] = z at hcell
            obtain ⟨r, k, e1, r1, r2, e2, e3, hk⟩ := turn_in z N hN0
            have HGET := Lib.hid (show ixGet st (nameZ k) = some (pos k) from by rw [HN.out.get (by omega)]; simp [fp, hk])
            have hwf : (wr.frozen? ⟨g, k, none⟩ = false) := by obtain ⟨F, _, _, h⟩ := H.out; exact h.frozen k
            have HST := Lib.hid (show S17 S w q st g g N k j pos false wr.drew from Beside.keep H.out ((Keeps.refl _ wr).drew))
            have HPI := Lib.hid (show i64 (100 + (j : Int)) from ⟨by omega, by omega⟩)
            clear HROW2 hjl
            go_wp2_with fail
            clear hcell
            refine wp_region_prev (V := V17 q g N k j (pos k)) (w0 := wr) 5 (S17 S w q st g g N k j pos) (fun _ _ => True) (fun _ => none) (by kernel_rfl) (fun i w w' v _ hv => V17_keep i w w' v hv) (fun _ _ _ h hs => hs.keep h) (fun i _ w w' v _ hv => V17_keep i w w' v hv) (by kernel_rfl) (by decide) (fun g c h => by cases h) (fun i o ho hw => (all_wanted (by kernel_rfl) ho hw).elim) HST.out (each_of ?_) ?_
            · refine ⟨?_, ?_, ?_, ?_, ?_, ?_, ?_, ?_, ?_, ?_, ?_, trivial⟩ <;> intro hw a1 w5 L
              · rw [if_neg (by decide)]
                intro b _ _ _
                exact kp_move rfl (L.old 8 (by kernel_rfl))
              · rw [if_neg (by decide)]
                intro b _ _ _
                exact kp_move rfl (L.old 12 (by kernel_rfl))
              · rw [if_neg (by decide)]
                intro b _ _ _
                exact kp_name (by omega) rfl (L.val 1 81 (by kernel_rfl) (by kernel_rfl))
              · rw [if_neg (by decide)]
                intro b _ _ _
                exact kp_move rfl (L.old 11 (by kernel_rfl))
              · rw [if_neg (by decide)]
                intro b _ _ _
                have e0 : a1.eval (.tmp 83) = .int .i64 (j : Int) := L.val 3 83 (by kernel_rfl) (by kernel_rfl)
                have k0' : a1.eval (.const (.int .i64 100)) = .int .i64 100 := rfl
                refine kp_yield (v := .int .i64 (100 + (j : Int))) (w' := w5) ?_ (Keeps.refl _ _) rfl
                clear L
                generalize a1.eval = ρ at e0 k0' ⊢
                unfold execOp
                go_simp
                rw [IntKind.wrap_i64]; omega
              · rw [if_pos rfl]
                intro hb
                have hb : Beside S w w5 q st g g N pos := hb
                have e0 : a1.eval (.tmp 80) = .pointer (some ⟨q, 0, none⟩) := L.val 0 80 (by kernel_rfl) (by kernel_rfl)
                have e1 : a1.eval (.tmp 82) = .string (nameZ k) := L.val 2 82 (by kernel_rfl) (by kernel_rfl)
                have e2 : a1.eval (.tmp 84) = .int .i64 (100 + (j : Int)) := L.val 4 84 (by kernel_rfl) (by kernel_rfl)
                have hf : a1.eval (.func 12) = .func (.func 12) #[] #[] := rfl
                refine one_enter (f := 12) (args := #[.pointer (some ⟨q, 0, none⟩), .string (nameZ k), .int .i64 (100 + (j : Int))]) ?_ (beside_put HT.out hb HLn.out (nameZ k) (100 + (j : Int)) (nameZ_size k) HPI.out (pos k) (by rw [HGET.out]; rfl) _ rfl) ?_
                · clear hb
                  generalize a1.eval = ρ at e0 e1 e2 hf ⊢
                  unfold execOp
                  go_simp
                · rintro e w' ⟨rfl, hb'⟩
                  exact ⟨_, rfl, trivial, hb', rfl⟩
              · rw [if_neg (by decide)]
                intro b _ _ _
                exact kp_move rfl (L.old 9 (by kernel_rfl))
              · rw [if_neg (by decide)]
                intro b _ _ _
                exact kp_move rfl (L.old 12 (by kernel_rfl))
              · rw [if_neg (by decide)]
                intro b _ _ _
                have e0 : a1.eval (.tmp 86) = .slice (some ⟨g, 0, none⟩) N N := L.val 6 86 (by kernel_rfl) (by kernel_rfl)
                have e1 : a1.eval (.tmp 87) = .int .i64 (k : Int) := L.val 7 87 (by kernel_rfl) (by kernel_rfl)
                refine kp_yield (v := .pointer (some ⟨g, k, none⟩)) (w' := w5) ?_ (Keeps.refl _ _) rfl
                clear L
                generalize a1.eval = ρ at e0 e1 ⊢
                unfold execOp
                go_simp
              · rw [if_neg (by decide)]
                intro b hs _ _
                have hc := hs.row hk
                have e0 : a1.eval (.tmp 88) = .pointer (some ⟨g, k, none⟩) := L.val 8 88 (by kernel_rfl) (by kernel_rfl)
                refine kp_yield (v := .int .i64 (pos k)) (w' := w5) ?_ (Keeps.refl _ _) rfl
                clear L hs
                generalize a1.eval = ρ at e0 ⊢
                unfold execOp
                go_simp
              · rw [if_neg (by decide)]
                intro b _ _ _
                have e0 : a1.eval (.tmp 85) = .int .i64 (pos k) := L.val 5 85 (by kernel_rfl) (by kernel_rfl)
                have e1 : a1.eval (.tmp 89) = .int .i64 (pos k) := L.val 9 89 (by kernel_rfl) (by kernel_rfl)
                refine kp_yield (v := .bool false) (w' := w5) ?_ (Keeps.refl _ _) rfl
                clear L
                generalize a1.eval = ρ at e0 e1 ⊢
                unfold execOp
                go_simp
            · intro vs w8 hs8 hlen hv
              have hv10 := hv 10 90 (by kernel_rfl)
              match vs, hlen with
              | [v0, v1, v2, v3, v4, v5, v6, v7, v8, v9, v10], _ =>
                have h10 : v10 = .bool false := hv10
                subst h10
                have HB8 := Lib.hid (show Beside S w w8 q (ixPut st (nameZ k) (100 + (j : Int))) g g N pos from hs8)
                have HN8 := Lib.hid (show NSt (ixPut st (nameZ k) (100 + (j : Int))) (fp N (fun i => if i = k then 100 + (j : Int) else pos i)) N from by
                  rw [← fp_upd hk]; exact HN.out.again (by omega) (v := pos k) (by simp [fp, hk]) _)
                have HI8 := Lib.hid (show ∀ i, i64 ((fun i => if i = k then 100 + (j : Int) else pos i) i) from fun i => by
                  show i64 (if i = k then 100 + (j : Int) else pos i)
                  split
                  · exact HPI.out
                  · exact HI.out i)
                have HST8 := Lib.hid (show Beside S w (w8.setCell ⟨g, k, none⟩ (.int .i64 (100 + (j : Int)))) q (ixPut st (nameZ k) (100 + (j : Int))) g g N (fun i => if i = k then 100 + (j : Int) else pos i) from HB8.out.store hWg k _)
                have hc8 : w8.cell? ⟨g, k, none⟩ = some (.int .i64 (pos k)) := by obtain ⟨F, _, _, h⟩ := HB8.out; exact h.at_ hk
                have hf8 : w8.frozen? ⟨g, k, none⟩ = false := by obtain ⟨F, _, _, h⟩ := HB8.out; exact h.frozen k
                clear hv hs8 HB8 HST HGET hwf
                generalize ixPut st (nameZ k) (100 + (j : Int)) = st8 at HN8 HST8
                generalize (fun i => if i = k then 100 + (j : Int) else pos i) = pos8 at HN8 HI8 HST8
                simp only [putAll, List.map, Act.put, List.setIfInBounds_toArray, List.set_cons_succ, List.set_cons_zero, Exit.then]
                go_wp2_with fail
                go_roundw
                case rel => exact ⟨j + 1, pos8, st8, by omega, by omega, by go_num, HN8, HST8, HI8⟩
                case measure => simp [intOf]; omega
          · have hex : (decide (j < m) = false) ∨ (decide (j < m) = true ∧ decide ((j : Int) < 20) = false) ∨ (decide (j < m) = true ∧ decide ((j : Int) < 20) = true ∧ decide (0 < N) = false) := by
              rcases hcs with h | h | h | h
              · exact .inl h
              · exact .inr (.inl h)
              · exact .inr (.inr h)
              · exact absurd h hgo
            clear hcs hgo
            have HBL := Lib.hid (HN.out.below (fp_some N pos) p)
            have HLB := Lib.hid (show lessN (fp N pos) p N ≤ N from by have := HBL.out.2.1; omega)
            rcases hex with d1 | ⟨d1, d2⟩ | ⟨d1, d2, d3⟩
            all_goals
              go_wp2_with fail
              go_loopw [13, 14] (fun x i wr => ∃ (i' L : Nat), i' ≤ N ∧ i = .int .i64 (i' : Int) ∧ x = .int .i64 (L : Int) ∧ L ≤ i' ∧ Hid (L = lessN (fp N pos) p i') ∧ Hid (Beside S w wr q st g g N pos)) (fun _ i _ => N - (intOf i).toNat)
              case atStart => exact ⟨0, 0, Nat.zero_le _, rfl, rfl, Nat.le_refl _, Lib.hid rfl, H⟩
              case round =>
                clear H
                obtain ⟨i', L, hi, rfl, rfl, hLi, HL, H⟩ := hrel
                by_cases hl2 : i' < N
                · have hl2' : (i' : Int) < (N : Int) := by omega
                  have hc : wr.cell? ⟨g, i', none⟩ = some (.int .i64 (pos i')) := by obtain ⟨F, _, _, h⟩ := H.out; exact h.at_ hl2
                  have HSU := Lib.hid (show lessN (fp N pos) p (i' + 1) = lessN (fp N pos) p i' + (if pos i' < p then 1 else 0) from by
                    rw [lessN_succ]; simp [fp, hl2])
                  generalize pos i' = z at hc HSU
                  by_cases hz : z < p
                  · have hz' : decide (z < p) = true := by simpa using hz
                    go_wp2_with fail
                    go_roundw
                    case rel => exact ⟨i' + 1, L + 1, by omega, by go_num, by go_num, by omega, Lib.hid (by rw [HSU.out, if_pos hz, ← HL.out]), H⟩
                    case measure => simp [intOf]; omega
                  · have hz' : decide (z < p) = false := by simpa using hz
                    go_wp2_with fail
                    go_roundw
                    case rel => exact ⟨i' + 1, L, by omega, by go_num, rfl, by omega, Lib.hid (by rw [HSU.out, if_neg hz, ← HL.out]; rfl), H⟩
                    case measure => simp [intOf]; omega
                · obtain rfl : N = i' := by omega
                  have hl2' : ¬ (N : Int) < (N : Int) := by omega
                  have HPP := Lib.hid (show i64 p from ⟨by omega, by omega⟩)
                  have hv1 : (L : Int) = ((st.length - (ixBelow st p).length : Nat) : Int) := by
                    have h1 := HBL.out.1
                    have h2 := HBL.out.2.1
                    have h3 := HL.out
                    omega
                  have hv2 : (N : Int) - (L : Int) = ((ixBelow st p).length : Int) := by
                    have h1 := HBL.out.1
                    have h2 := HBL.out.2.1
                    have h3 := HL.out
                    omega
                  have hll : (ixBelow st p).length ≤ 4096 := by
                    have h2 := HBL.out.2.1
                    omega
                  have HV1 := Lib.hid hv1
                  have HV2 := Lib.hid hv2
                  have HLL := Lib.hid hll
                  clear hv1 hv2 hll
                  go_wp2_with fail
                  refine (show Calls _ _ _ _ _ from beside_below HT.out H.out HLn.out p HPP.out (L : Int) HV1.out).mono ?_
                  rintro e w3 ⟨rfl, h⟩
                  have H3 := Lib.hid h
                  clear h H
                  go_wp2_with fail
                  refine (show Calls _ _ _ _ _ from beside_len HT.out H3.out HLL.out ((N : Int) - (L : Int)) HV2.out).mono ?_
                  rintro e w4 ⟨rfl, h⟩
                  have H4 := Lib.hid h
                  clear h H3
                  go_wp2_with fail
                  go_loopw [15] (fun i wr => ∃ (i2 : Nat), i2 ≤ N ∧ i = .int .i64 (i2 : Int) ∧ Hid (Beside S w wr q (ixBelow st p) g g N pos)) (fun i _ => N - (intOf i).toNat)
                  case atStart => exact ⟨0, Nat.zero_le _, rfl, H4⟩
                  case round =>
                    clear H4
                    obtain ⟨i2, hi2, rfl, H⟩ := hrel
                    by_cases hl3 : i2 < N
                    · have hl3' : (i2 : Int) < (N : Int) := by omega
                      go_wp2_with fail
                      refine (show Calls _ _ _ _ _ from name_any wr i2 (by omega)).mono ?_
                      rintro e w5 ⟨rfl, hkk⟩
                      have H5 := Lib.hid (H.out.keep hkk)
                      clear hkk H
                      have hg5 := HBL.out.2.2.get (k := i2) (by omega)
                      have hfp : fp N pos i2 = some (pos i2) := by simp [fp, hl3]
                      rw [hfp] at hg5
                      have hg5 : ixGet (ixBelow st p) (nameZ i2) = if p ≤ pos i2 then some (pos i2) else none := hg5
                      by_cases hz : p ≤ pos i2
                      · rw [if_pos hz] at hg5
                        have HG := Lib.hid hg5
                        clear hg5 hfp
                        go_wp2_with fail
                        refine (show Calls _ _ _ _ _ from beside_get HT.out H5.out HLL.out (nameZ i2) (nameZ_size i2) (pos i2) true (by rw [HG.out]; rfl) (by rw [HG.out]; rfl)).mono ?_
                        rintro e w6 ⟨rfl, h⟩
                        have H6 := Lib.hid h
                        have hc : w6.cell? ⟨g, i2, none⟩ = some (.int .i64 (pos i2)) := by obtain ⟨F, _, _, h⟩ := h; exact h.at_ hl3
                        clear h H5 HG
                        generalize pos i2 = z at hc hz ⊢
                        have hz' : decide (p ≤ z) = true := by simpa using hz
                        go_wp2_with fail
                        go_roundw
                        case rel => exact ⟨i2 + 1, by omega, by go_num, H6⟩
                        case measure => simp [intOf]; omega
                      · rw [if_neg hz] at hg5
                        have HG := Lib.hid hg5
                        clear hg5 hfp
                        go_wp2_with fail
                        refine (show Calls _ _ _ _ _ from beside_get HT.out H5.out HLL.out (nameZ i2) (nameZ_size i2) 0 false (by rw [HG.out]; rfl) (by rw [HG.out]; rfl)).mono ?_
                        rintro e w6 ⟨rfl, h⟩
                        have H6 := Lib.hid h
                        have hc : w6.cell? ⟨g, i2, none⟩ = some (.int .i64 (pos i2)) := by obtain ⟨F, _, _, h⟩ := h; exact h.at_ hl3
                        clear h H5 HG
                        generalize pos i2 = z at hc hz ⊢
                        have hz' : decide (p ≤ z) = false := by simpa using hz
                        go_wp2_with fail
                        go_roundw
                        case rel => exact ⟨i2 + 1, by omega, by go_num, H6⟩
                        case measure => simp [intOf]; omega
                    · obtain rfl : N = i2 := by omega
                      have hl3' : ¬ (N : Int) < (N : Int) := by omega
                      have hfin : Below w.heap.size w wr := by obtain ⟨F, h, _, _⟩ := H.out; exact h.kp.below
                      go_wp2_with fail
                      go_ret
                      exact ⟨rfl, hfin⟩

end Go.Proofs.Ytilcmlioofkkmaa.indexBelow
