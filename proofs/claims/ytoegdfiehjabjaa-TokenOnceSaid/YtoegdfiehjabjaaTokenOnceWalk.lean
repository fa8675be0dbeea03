/-
  THE WALK OF TokenOnce, however rights are kept.
-/
import Derived.Test.YtoegdfiehjabjaaTkBegun
import Derived.Test.YtoegdfiehjabjaaTkList
namespace Go.Proofs.Ytoegdfiehjabjaa.tokenOnce
open Go Go.RowKit Go.Joins

set_option maxRecDepth 100000 in
set_option maxHeartbeats 4000000 in
theorem walk (S : TokensOK) (w : World) (hT : S.T w) (nz kz : Int) : Calls Try.prog 4 #[.int .i64 nz, .int .i64 kz] w fun e w' => e = .returned (.bool true) ∧ Below w.heap.size w w' := by
  have HT := Lib.hid hT
  clear hT
  go_enter Try.func4, Try.ntmps4
  go_wp2_with fail
  refine (begun18 S w HT.out).mono ?_
  rintro e w1 ⟨rfl, hk⟩
  have HK1 := Lib.hid hk
  clear hk
  have hcs : decide (nz < 0) = true ∨ decide (nz < 0) = false ∧ (decide ((40 : Int) < nz) = true ∨ decide ((40 : Int) < nz) = false ∧ (decide (kz < 0) = true ∨ decide (kz < 0) = false ∧ (decide (nz < kz) = true ∨ decide (nz < kz) = false))) := by
    cases decide (nz < 0) <;> cases decide ((40 : Int) < nz) <;> cases decide (kz < 0) <;> cases decide (nz < kz) <;> simp
  rcases hcs with t0 | ⟨t0, t1 | ⟨t1, t2 | ⟨t2, t3 | t3⟩⟩⟩
  rotate_right 1
  · obtain ⟨n, rfl⟩ : ∃ n : Nat, nz = (n : Int) := ⟨nz.toNat, by simp at t0; omega⟩
    obtain ⟨kill, rfl⟩ : ∃ k : Nat, kz = (k : Int) := ⟨kz.toNat, by simp at t2; omega⟩
    have hn : n ≤ 40 := by simp at t1; omega
    have hkn : kill ≤ n := by simp at t3; omega
    go_wp2_with fail
    refine (show Calls _ _ _ _ _ from S.new w w1 HT.out HK1.out).mono ?_
    rintro e w2 ⟨t, F, rfl, h, -, -⟩
    have HA := Lib.hid h
    clear h HK1
    go_wp2_with fail
    go_loopw [7] (fun v7 wr => ∃ (i : Nat) (F : Nat → Prop), i ≤ n ∧ v7 = .int .i64 (i : Int) ∧ Hid (S.At w wr t F (mkT i (givenF kill i)))) (fun v _ => n - (intOf v).toNat)
    case atStart => exact ⟨0, F, Nat.zero_le _, rfl, HA⟩
    case round =>
      clear HA
      obtain ⟨i, F, hi, rfl, HA⟩ := hrel
      by_cases hl : i < n
      · have hl' : (i : Int) < (n : Int) := by omega
        by_cases hik : i = kill
        · subst hik
          have ha := S.atK HA.out ((Keeps.refl (fun _ => True) wr).alloc (.cells #[.string kk] 9))
          have hr : Row (wr.alloc (.cells #[.string kk] 9)) (some ⟨wr.heap.size, 0, none⟩) (fun b => b = wr.heap.size) ([kk].map Value.string) := Row.fresh (F := fun b => b = wr.heap.size) wr #[.string kk] 9 (0, 0) _ rfl rfl _ rfl
          have hlt := (S.atIn HA.out).2
          have HX := Lib.hid (S.kill w _ t F _ (some ⟨wr.heap.size, 0, none⟩) 1 1 _ [kk] HT.out ha (by rw [mkT_len]; omega) rfl hr (fun b hb hf => by have := (hlt b hf).2; omega) (by decide) (by decide) (by decide) (by decide))
          rw [(given_kill i).1] at HX
          have e0 : ((i : Int) == (i : Int)) = true := by simp
          have e1 : ((i : Int) != (i : Int)) = false := by simp
          clear ha hr hlt HA hkn t2 t3
          unfold kk at HX
          go_wp2_with fail
          refine (show Calls _ _ _ _ _ from HX.out).mono ?_
          rintro e w3 ⟨rfl, F3, h, -, -⟩
          have HG := Lib.hid (S.give w w3 t F3 _ kk HT.out h (by rw [tkKill_len, mkT_len]; omega) kk_size)
          have HE := Lib.hid (given_kill i).2
          clear h HX
          unfold kk at HG
          go_wp2_with fail
          refine (show Calls _ _ _ _ _ from HG.out).mono ?_
          rintro e w4 ⟨rfl, F4, h, -, -⟩
          have HA4 := Lib.hid (show S.At w w4 t F4 (mkT (i + 1) (givenF i (i + 1))) from by rw [← HE.out]; exact h)
          clear h HG HE
          go_wp2_with fail
          go_roundw
          case rel => exact ⟨i + 1, F4, by omega, by go_num, HA4⟩
          case measure => simp [intOf]; omega
        · have e0 : ((i : Int) == (kill : Int)) = false := by simp; omega
          have HG := Lib.hid (S.give w wr t F _ kk HT.out HA.out (by rw [mkT_len]; omega) kk_size)
          have HE := Lib.hid (given_next hik)
          clear HA hik hkn t2 t3
          unfold kk at HG
          go_wp2_with fail
          refine (show Calls _ _ _ _ _ from HG.out).mono ?_
          rintro e w4 ⟨rfl, F4, h, -, -⟩
          have HA4 := Lib.hid (show S.At w w4 t F4 (mkT (i + 1) (givenF kill (i + 1))) from by rw [← HE.out]; exact h)
          clear h HG HE
          go_wp2_with fail
          go_roundw
          case rel => exact ⟨i + 1, F4, by omega, by go_num, HA4⟩
          case measure => simp [intOf]; omega
      · obtain rfl : i = n := by omega
        rw [given_all] at HA
        go_wp2_with fail
        go_loopw [8] (fun v8 wr => ∃ (m : Nat) (F : Nat → Prop), m ≤ i ∧ v8 = .int .i64 ((m : Int) + 1) ∧ Hid (S.At w wr t F (mkT i (usedF i kill m)))) (fun v _ => i + 1 - (intOf v).toNat)
        case atStart => exact ⟨0, F, Nat.zero_le _, rfl, HA⟩
        case round =>
          clear HA
          obtain ⟨m, F, hm, rfl, HA⟩ := hrel
          by_cases hl2 : m < i
          · have hl' : (m : Int) + 1 ≤ (i : Int) := by omega
            have HU := Lib.hid (S.use w wr t F _ ((m : Int) + 1) HT.out HA.out (by rw [mkT_len]; omega) (by omega) (by omega))
            rw [(used_use hl2 _ rfl).1, (used_use hl2 _ rfl).2] at HU
            have HON := Lib.hid (show onceF i kill m = (!decide (kill < i) || decide (kill ≤ m)) from rfl)
            clear HA
            generalize onceF i kill m = g at HU HON
            go_wp2_with fail
            refine (show Calls _ _ _ _ _ from HU.out).mono ?_
            rintro e w3 ⟨rfl, F3, h, -, -⟩
            have HU2 := Lib.hid (S.use w w3 t F3 _ ((m : Int) + 1) HT.out h (by rw [mkT_len]; omega) (by omega) (by omega))
            rw [(used_again hl2 _ rfl).1, (used_again hl2 _ rfl).2] at HU2
            clear h HU
            go_wp2_with fail
            refine (show Calls _ _ _ _ _ from HU2.out).mono ?_
            rintro e w4 ⟨rfl, F4, h, -, -⟩
            have HA4 := Lib.hid h
            clear h HU2
            have hb : g = true ∧ decide (i ≤ kill) = true ∨ g = true ∧ decide (i ≤ kill) = false ∧ decide ((kill : Int) < (m : Int) + 1) = true ∨ g = false ∧ decide (i ≤ kill) = false ∧ decide ((kill : Int) < (m : Int) + 1) = false := by
              rw [HON.out]
              by_cases h1 : kill < i
              · by_cases h2 : kill ≤ m
                · right; left; simp [h1, h2]; omega
                · right; right; simp [h1, h2]; omega
              · left; simp [h1]; omega
            unfold kk
            rcases hb with ⟨rfl, b1⟩ | ⟨rfl, b1, b2⟩ | ⟨rfl, b1, b2⟩
            all_goals (
              go_wp2_with fail
              go_roundw
              case rel => exact ⟨m + 1, F4, by omega, by go_num, HA4⟩
              case measure => simp [intOf]; omega)
          · obtain rfl : m = i := by omega
            have HL := Lib.hid (S.len w wr t F _ HT.out HA.out (by rw [mkT_len]; omega))
            rw [used_len] at HL
            have HK := Lib.hid (S.atIn HA.out).1
            clear HA
            go_wp2_with fail
            refine (show Calls _ _ _ _ _ from HL.out).mono ?_
            rintro e w3 ⟨rfl, hk⟩
            have HK3 := Lib.hid (HK.out.trans hk)
            clear hk HL HK
            go_wp2_with fail
            go_ret
            exact ⟨rfl, HK3.out.below⟩
  all_goals (
    go_wp2_with fail
    go_ret
    exact ⟨rfl, HK1.out.below⟩)

end Go.Proofs.Ytoegdfiehjabjaa.tokenOnce
