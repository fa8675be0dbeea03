/-
  FlashMany, walked over what a cache keeps.
-/
import Derived.Test.YtoepgbpmcjnbmaaGreatDoorFlashLocs
import Derived.BigQuiet
import Derived.Deep.QuietTactic
namespace Go.Proofs.YtoepgbpmcjnbmaaGreatDoor.flashMany
open Go Go.RowKit Go.Joins
def val (i : Nat) : ByteArray := fname (i + 1)
theorem val_size (i : Nat) : (val i).size = 3 := fname_size (i + 1)
def stM (segs n g a : Nat) : FSt := ⟨0, segs, numbered val n, g, a⟩
def itM (i : Nat) : It := ⟨fname i, val i, 0, false⟩
theorem at_M (segs n g a i : Nat) (hn : n ≤ 999) (hi : i < n) : (stM segs n g a).at_ (fname i) = if g ≤ i then some (itM i) else none := by
  unfold FSt.at_ stM
  rw [numbered_last val n g i (by omega) hi]
  by_cases h : g ≤ i
  · rw [if_pos h, if_pos h]; rfl
  · rw [if_neg h, if_neg h]; rfl
theorem getE_M (segs n g a i : Nat) (hn : n ≤ 999) (hi : i < n) : getE (stM segs n g a) (fname i) 0 = if g ≤ i then .returned (.tuple #[.agg #[.string (fname i), .string (val i), .int .i64 0, .bool false], .bool true]) else .returned (.tuple #[.agg #[.string ⟨#[]⟩, .string ⟨#[]⟩, .int .i64 0, .bool false], .bool false]) := by
  have hm : (itM i).may = true := num_may val (fun j => by rw [val_size]; decide) i
  have hl : (itM i).live 0 = true := by
    unfold It.live
    rw [hm]
    rfl
  unfold getE
  rw [at_M segs n g a i hn hi]
  by_cases h : g ≤ i
  · rw [if_pos h, if_pos h]
    show (if (itM i).live 0 = true then _ else _) = _
    rw [if_pos hl]
    rfl
  · rw [if_neg h, if_neg h]
theorem must_M {segs n g a : Nat} (hs : 4 ≤ segs) (h : (stM segs n g a).Ok) : g ≤ n ∧ (n ≤ 200 * (segs - 2) / 86 → g = 0) ∧ g + 200 * (segs - 2) / 86 ≤ n ∨ g = 0 := by
  have hg := h.gone
  have hk := h.kept (n - 200 * (segs - 2) / 86) (by show _ ≤ (numbered val n).length; rw [numbered_len]; omega)
  have hc : fcosts ((numbered val n).drop (n - 200 * (segs - 2) / 86)) ≤ 200 * (segs - 2) := by
    rw [numbered_cost val 3 val_size n _ (by omega)]
    have h1 : n - (n - 200 * (segs - 2) / 86) ≤ 200 * (segs - 2) / 86 := by omega
    refine Nat.le_trans (Nat.mul_le_mul_right _ h1) ?_
    exact Nat.div_mul_le_self _ _
  have h2 : g ≤ n - 200 * (segs - 2) / 86 := hk hc
  have h3 : g ≤ (numbered val n).length := hg
  rw [numbered_len] at h3
  rcases Nat.eq_zero_or_pos g with h0 | h0
  · exact .inr h0
  · refine .inl ⟨h3, fun h4 => by omega, by omega⟩
theorem keys_M {segs n g a : Nat} {ks : List ByteArray} (_hn : n ≤ 999) (hr : Rising ks) (hm : ∀ k, k ∈ ks ↔ ((stM segs n g a).at_ k).isSome = true) : ks.length ≤ n := by
  have hsub : ∀ k ∈ ks, k ∈ (List.range n).map fname := fun k hk => by
    have h := (hm k).1 hk
    refine Classical.byContradiction fun hno => ?_
    have h1 : fLast (numbered val n) g k = none := numbered_none val n g k fun i hi e => hno (List.mem_map.2 ⟨i, List.mem_range.2 hi, e⟩)
    unfold FSt.at_ stM at h
    rw [h1] at h
    cases h
  have h2 := (rising_nodup hr).length_le_of_subset hsub
  simpa using h2
def VM (bx k : Nat) (t : ByteArray) : List Value := [.bool true, .bool true, .pointer (some ⟨bx, 1, none⟩), .string t, .int .i64 (k : Int), .int .i64 ((k + 1 : Nat) : Int), .string t, .bool false, .bool false, .bool false, .bool true, .bool false, .bool false, undef, undef, undef, undef, undef, .bool false, .bool false]
def GM : Nat → Option Bool
  | 1 => some true
  | 9 => some false
  | 12 => some false
  | _ => none
theorem GM_is {bx k : Nat} {t : ByteArray} (g : Nat) (c : Bool) (h : GM g = some c) (w : World) (v : Value) (hv : Vs (VM bx k t) g w v) : v = .bool c := by
  unfold GM at h
  split at h
  all_goals first | (cases h; exact hv) | cases h
set_option maxRecDepth 100000 in
set_option maxHeartbeats 1000000 in
theorem walk (S : FlashOK) (w : World) (hT : S.T w) (g n : Int) (_ : -9223372036854775808 ≤ g) (_ : g < 9223372036854775808) : Calls Tryz.prog 6 #[.int .i64 g, .int .i64 n] w fun e w' => e = .returned (.bool true) ∧ Below w.heap.size w w' := by
  have HT := Lib.hid hT
  clear hT
  have hcs : (decide (g < 4) = true) ∨ (decide (g < 4) = false ∧ decide (40 < g) = true) ∨ (decide (g < 4) = false ∧ decide (40 < g) = false ∧ decide (n < 0) = true) ∨ (decide (g < 4) = false ∧ decide (40 < g) = false ∧ decide (n < 0) = false ∧ decide (150 < n) = true) ∨ (decide (g < 4) = false ∧ decide (40 < g) = false ∧ decide (n < 0) = false ∧ decide (150 < n) = false) := by
    cases decide (g < 4) <;> cases decide (40 < g) <;> cases decide (n < 0) <;> cases decide (150 < n) <;> simp
  go_enter Tryz.func6, Tryz.ntmps6
  go_wp2_with fail
  refine (show Calls _ _ _ _ _ from begun9 S w HT.out).mono ?_
  rintro e w1 ⟨rfl, hk⟩
  have K1 := Lib.hid hk
  clear hk
  rcases hcs with c1 | ⟨c1, c2⟩ | ⟨c1, c2, c3⟩ | ⟨c1, c2, c3, c4⟩ | ⟨c1, c2, c3, c4⟩
  · go_wp2_with fail
    go_ret
    exact ⟨rfl, K1.out.below⟩
  · go_wp2_with fail
    go_ret
    exact ⟨rfl, K1.out.below⟩
  · go_wp2_with fail
    go_ret
    exact ⟨rfl, K1.out.below⟩
  · go_wp2_with fail
    go_ret
    exact ⟨rfl, K1.out.below⟩
  · have g1 : 4 ≤ g := by have := of_decide_eq_false c1; omega
    have g2 : g ≤ 40 := by have := of_decide_eq_false c2; omega
    have n1 : 0 ≤ n := by have := of_decide_eq_false c3; omega
    have n2 : n ≤ 150 := by have := of_decide_eq_false c4; omega
    obtain ⟨G, rfl⟩ : ∃ G : Nat, g = (G : Int) := ⟨g.toNat, by omega⟩
    obtain ⟨N, rfl⟩ : ∃ N : Nat, n = (N : Int) := ⟨n.toNat, by omega⟩
    have g3 : 4 ≤ G := by omega
    have g4 : G ≤ 40 := by omega
    have n3 : N ≤ 150 := by omega
    clear g1 g2 n1 n2
    go_wp2_with fail
    refine (show Calls _ _ _ _ _ from fo_dev (X := fun _ => False) K1.out (fun _ h => h.elim) (G * 8) (by omega) (by omega) ((G : Int) * 8) (by omega)).mono ?_
    rintro e w2 ⟨p, rfl, hB, -⟩
    have HB := Lib.hid hB
    clear hB K1 c1 c2 c3 c4
    go_wp2_with fail
    refine (show Calls _ _ _ _ _ from fo_open HT.out HB.out 0 G 0 (G : Int) rfl rfl (by omega) (by omega) (by omega)).mono ?_
    rintro e w3 ⟨q, rfl, hF, -⟩
    have HF := Lib.hid (show Fo S w w3 p q (stM G 0 0 1) false (fun _ => False) from hF)
    clear hF HB
    go_wp2_with fail
    go_loopw [8] (fun i wr => ∃ k gn : Nat, k ≤ N ∧ i = .int .i64 (k : Int) ∧ Hid (Fo S w wr p q (stM G k gn (k + 1)) false (fun _ => False))) (fun i _ => N - (intOf i).toNat)
    case atStart => exact ⟨0, 0, Nat.zero_le _, rfl, HF⟩
    case round =>
      clear HF
      obtain ⟨k, gn, hk, rfl, HF⟩ := hrel
      by_cases hl : k < N
      · have hl' : (k : Int) < (N : Int) := by omega
        go_wp2_with fail
        refine (show Calls _ _ _ _ _ from fname_any wr k (by omega) _ rfl).mono ?_
        rintro e w4 ⟨rfl, hk4⟩
        have HF4 := Lib.hid (HF.out.keep hk4)
        clear hk4 HF
        go_wp2_with fail
        refine (show Calls _ _ _ _ _ from fname_any w4 (k + 1) (by omega) _ (by omega)).mono ?_
        rintro e w5 ⟨rfl, hk5⟩
        have HF5 := Lib.hid (HF4.out.keep hk5)
        clear hk5 HF4
        go_wp2_with fail
        refine (show Calls _ _ _ _ _ from fo_put HT.out HF5.out (by show k + 1 ≤ 20000; omega) (itM k) (num_may val (fun j => by rw [val_size]; decide) k) rfl).mono ?_
        rintro e w6 ⟨rfl, g6, -, hF, -⟩
        have HF6 := Lib.hid (show Fo S w w6 p q (stM G (k + 1) g6 (k + 1 + 1)) false (fun _ => False) from by unfold stM; rw [numbered_succ]; exact hF)
        clear hF HF5
        go_wp2_with fail
        go_roundw
        case rel => exact ⟨k + 1, g6, by omega, by go_num, HF6⟩
        case measure => simp [intOf]; omega
      · obtain rfl : N = k := by omega
        have hl' : ¬ (N : Int) < (N : Int) := by omega
        obtain ⟨M, hM⟩ : ∃ M : Nat, 200 * (G - 2) / 86 = M := ⟨_, rfl⟩
        have HM := Lib.hid (show gn ≤ N ∧ (N ≤ M → gn = 0) ∧ gn + M ≤ N ∨ gn = 0 from by rw [← hM]; exact must_M g3 HF.out.wf)
        have HM2 := Lib.hid (show 200 * ((G : Int) - 2) / 86 = (M : Int) by omega)
        have M2 : M ≤ 1000 := by omega
        clear hM
        go_wp2_with fail
        rw [HM2.out]
        clear HM2
        go_loopw [10] (fun i wr => ∃ k : Nat, k ≤ N ∧ i = .int .i64 (k : Int) ∧ Hid (Fo S w wr p q (stM G N gn (N + 1)) false (fun _ => False))) (fun i _ => N - (intOf i).toNat)
        case atStart => exact ⟨0, Nat.zero_le _, rfl, HF⟩
        case round =>
          clear HF
          obtain ⟨k, hk, rfl, HF⟩ := hrel
          by_cases hl : k < N
          · have hl' : (k : Int) < (N : Int) := by omega
            go_wp2_with fail
            refine (show Calls _ _ _ _ _ from fname_any wr k (by omega) _ rfl).mono ?_
            rintro e w4 ⟨rfl, hk4⟩
            have HF4 := Lib.hid (HF.out.keep hk4)
            clear hk4 HF
            go_wp2_with fail
            by_cases hg : gn ≤ k
            · refine (show Calls _ _ _ _ _ from fo_get HT.out HF4.out (fname k) 0 (by rw [fname_size]; decide) (by decide) (by decide) _ (by rw [getE_M G N gn (N + 1) k (by omega) hl, if_pos hg])).mono ?_
              rintro e w5 ⟨rfl, hk5, hF⟩
              have HF5 := Lib.hid hF
              clear hF HF4 hk5 hg HM
              obtain ⟨v, hv⟩ : ∃ v, val k = v := ⟨_, rfl⟩
              have HV := Lib.hid (show fname (k + 1) = v from hv)
              rw [hv]
              clear hv
              go_wp2_with fail
              obtain ⟨w6, hw6⟩ : ∃ w6, w5.alloc (.cells #[.string (fname k), .string v, .int .i64 0, .bool false] 35) = w6 := ⟨_, rfl⟩
              have hb6 := heap_alloc_new w5 (.cells #[.string (fname k), .string v, .int .i64 0, .bool false] 35)
              have hk6 : Kp w5 (w5.alloc (.cells #[.string (fname k), .string v, .int .i64 0, .bool false] 35)) := (Keeps.refl _ w5).alloc _
              rw [hw6] at hb6 hk6
              have HF6 := Lib.hid (HF5.out.keep hk6)
              have HC6 := Lib.hid (show w6.cell? ⟨w5.heap.size, 1, none⟩ = some (.string v) from (cell_of_block hb6 1).trans rfl)
              rw [hw6]
              clear hw6 hb6 hk6 HF5
              generalize w5.heap.size = bx at *
              refine wp_region_guard (R := Kp) (V := Vs (VM bx k v)) (w0 := w6) GM (by kernel_rfl) (fun w => Keeps.refl _ w) (fun _ _ _ h k => h.trans k) (Vs_keep _) (by kernel_rfl) GM_is (unwanted_of [13, 14, 15, 16, 17] (by kernel_rfl) (by intro i hi; simp only [List.mem_cons, List.not_mem_nil, or_false] at hi; rcases hi with rfl | rfl | rfl | rfl | rfl <;> rfl)) ((Keeps.refl _ w6).drew) (each_of ?_) ?_
              · refine ⟨?_, ?_, ?_, ?_, ?_, ?_, ?_, ?_, ?_, ?_, ?_, ?_, ?_, ?_, ?_, ?_, ?_, ?_, ?_, ?_, trivial⟩ <;> intro hw a1 w3 L
                · exact kp_move rfl (L.old 12 (by kernel_rfl))
                · exact kp_move rfl (L.val 0 70 (by kernel_rfl) (by kernel_rfl))
                · exact kp_field rfl rfl (L.old 11 (by kernel_rfl))
                · exact kp_loadT (L.rel.cell HC6.out trivial) rfl (L.val 2 72 (by kernel_rfl) (by kernel_rfl))
                · exact kp_move rfl (L.old 10 (by kernel_rfl))
                · exact kp_one1 (m := k) (by omega) rfl (L.val 4 74 (by kernel_rfl) (by kernel_rfl)) rfl
                · have h := HV.out
                  subst h
                  exact kp_name (by omega) rfl (L.val 5 75 (by kernel_rfl) (by kernel_rfl))
                · exact kp_neT rfl (L.val 3 73 (by kernel_rfl) (by kernel_rfl)) (L.val 6 76 (by kernel_rfl) (by kernel_rfl))
                · exact kp_pick rfl (L.val 1 71 (by kernel_rfl) (by kernel_rfl)) (L.val 7 77 (by kernel_rfl) (by kernel_rfl))
                · exact kp_move rfl (L.val 8 78 (by kernel_rfl) (by kernel_rfl))
                · exact kp_move rfl (L.old 12 (by kernel_rfl))
                · exact kp_notB rfl (L.val 10 80 (by kernel_rfl) (by kernel_rfl))
                · exact kp_move rfl (L.val 11 81 (by kernel_rfl) (by kernel_rfl))
                · exact absurd hw (by decide)
                · exact absurd hw (by decide)
                · exact absurd hw (by decide)
                · exact absurd hw (by decide)
                · exact absurd hw (by decide)
                · exact kp_pick rfl (L.val 12 82 (by kernel_rfl) (by kernel_rfl)) rfl
                · exact kp_pick rfl (L.val 9 79 (by kernel_rfl) (by kernel_rfl)) (L.val 18 88 (by kernel_rfl) (by kernel_rfl))
              · intro vs w8 hw8 hlen hv
                match vs, hlen with
                | [v0, v1, v2, v3, v4, v5, v6, v7, v8, v9, v10, v11, v12, v13, v14, v15, v16, v17, v18, v19], _ =>
                  have e19 : v19 = .bool false := hv 19 89 (by kernel_rfl)
                  clear hv
                  subst e19
                  have HF8 := Lib.hid (HF6.out.keep hw8)
                  clear HF6 hw8 HC6
                  simp only [putAll, List.map, Act.put, List.setIfInBounds_toArray, List.set_cons_succ, List.set_cons_zero, Exit.then]
                  go_wp2_with fail
                  go_roundw
                  case rel => exact ⟨k + 1, by omega, by go_num, HF8⟩
                  case measure => simp [intOf]; omega
            · refine (show Calls _ _ _ _ _ from fo_get HT.out HF4.out (fname k) 0 (by rw [fname_size]; decide) (by decide) (by decide) _ (by rw [getE_M G N gn (N + 1) k (by omega) hl, if_neg hg])).mono ?_
              rintro e w5 ⟨rfl, hk5, hF⟩
              have hd : decide ((N : Int) - (M : Int) ≤ (k : Int)) = false := by
                have := HM.out
                rw [decide_eq_false_iff_not]
                omega
              have HF5 := Lib.hid hF
              clear hF HF4 hk5 hg
              go_wp2_with fail
              obtain ⟨w6, hw6⟩ : ∃ w6, w5.alloc (.cells #[.string ⟨#[]⟩, .string ⟨#[]⟩, .int .i64 0, .bool false] 35) = w6 := ⟨_, rfl⟩
              have hk6 : Kp w5 (w5.alloc (.cells #[.string ⟨#[]⟩, .string ⟨#[]⟩, .int .i64 0, .bool false] 35)) := (Keeps.refl _ w5).alloc _
              rw [hw6] at hk6
              have HF6 := Lib.hid (HF5.out.keep hk6)
              rw [hw6]
              clear hw6 hk6 HF5
              generalize w5.heap.size = bx at *
              go_quiet (fail)
              go_wp2_with fail
              go_roundw
              case rel => exact ⟨k + 1, by omega, by go_num, Lib.hid (HF6.out.keep ((Keeps.refl _ w6).drewN _))⟩
              case measure => simp [intOf]; omega
          · obtain rfl : N = k := by omega
            have hl' : ¬ (N : Int) < (N : Int) := by omega
            go_wp2_with fail
            refine (show Calls _ _ _ _ _ from fo_keys HT.out HF.out).mono ?_
            rintro e w6 ⟨A, c, ks, rfl, hr, hm, -, -, hF⟩
            have hks : (ks.length : Int) ≤ (N : Int) := by have := keys_M (by omega) hr hm; omega
            have HK := Lib.hid hF.kp
            clear hF HF hr hm
            go_wp2_with fail
            go_ret
            exact ⟨rfl, HK.out.below⟩
end Go.Proofs.YtoepgbpmcjnbmaaGreatDoor.flashMany
