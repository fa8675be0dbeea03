/-
  THE WALK OF ClockAll, however the program's clocks count.
-/
import Derived.Test.YtpiknekopmoepaaCkBegun
import Derived.Test.YtpiknekopmoepaaIPart
import Derived.Deep.CutRange
namespace Go.Proofs.Ytpiknekopmoepaa.clockAll
open Go Go.RowKit Go.Joins

/-- What the law's own counting starts from. -/
def from0 (n : Int) (l : List Int) : Int := if l = [] then tickZ n 1 else n
theorem from_all (n : Int) (l : List Int) : l.foldl tickZ (from0 n l) = ticks n l := by
  unfold from0 ticks
  by_cases h : l = []
  · subst h; simp
  · rw [if_neg h, if_neg h]
set_option maxRecDepth 100000 in
set_option maxHeartbeats 8000000 in
theorem walk (S : ClockOK) (w : World) (A : Option Addr) (c : Nat) (ps : List IPart) (h1 : ps.length ≤ c) (h2 : c ≤ maxLen) (hL : Row w A (fun b => b < w.heap.size) (ps.map IPart.val)) (hF : ∀ p ∈ ps, p.Fits w) (t : Int) (ht1 : -9223372036854775808 ≤ t) (ht2 : t < 9223372036854775808) :
    Calls Try.prog 3 #[.slice A ps.length c, .int .i64 t] w fun e w' => e = .returned (.bool true) ∧ Below w.heap.size w w' := by
  have HR := Lib.hid hL
  have HFT := Lib.hid hF
  obtain ⟨N, hN⟩ : ∃ N, ps.length = N := ⟨_, rfl⟩
  have HN := Lib.hid hN
  have hNm : N ≤ 9223372036854775807 := by unfold maxLen at h2; omega
  rw [hN]
  clear h1 h2 hL hF hN
  go_enter Try.func3, Try.ntmps3
  go_wp2_with fail
  refine (begun16 S w).mono ?_
  rintro e w1 ⟨rfl, hk⟩
  have hz := S.zero w w1 hk
  unfold zClock at hz
  clear hk
  go_upto_region 5 with fail
  obtain ⟨q, hq⟩ : ∃ q, w1.heap.size = q := ⟨_, rfl⟩
  rw [hq] at hz ⊢
  generalize World.alloc _ _ = w2 at hz ⊢
  have HZ := Lib.hid hz
  clear hq hz
  go_wp2_with fail
  go_loopw [7, 8] (fun s7 i wr => ∃ (k : Nat) (n : Int) (F : Nat → Prop), k ≤ N ∧ k ≤ 20 ∧ i = .int .i64 (k : Int) ∧ s7 = .int .i64 n ∧ Hid (S.At w wr q F n)) (fun _ i _ => 20 - (intOf i).toNat)
  case atStart => exact ⟨0, 0, _, Nat.zero_le _, by omega, rfl, rfl, HZ⟩
  case round =>
    clear HZ
    obtain ⟨k, n, F, hkN, hk20, rfl, rfl, HA⟩ := hrel
    by_cases hkk : k < N ∧ k < 20
    · obtain ⟨hk1, hk2⟩ := hkk
      have u1 : (k : Int) < (N : Int) := by omega
      have u2 : (k : Int) < 20 := by omega
      have hkl : k < ps.length := by rw [HN.out]; exact hk1
      have HK := Lib.hid (S.atIn HA.out).1
      have hn0 := (S.atIn HA.out).2.2.1
      have hn1 := (S.atIn HA.out).2.2.2
      obtain ⟨b, o, rfl, -, c0⟩ := (HR.out.keep (HK.out.mono fun _ _ _ => trivial)).at_ (k := k) (by rw [List.length_map]; exact hkl)
      rw [List.getElem_map] at c0
      have hfit := HFT.out ps[k] (List.getElem_mem hkl)
      generalize ps[k] = p at c0 hfit
      obtain ⟨B, cap, l⟩ := p
      have hl1 := hfit.len
      have hl2 := hfit.cap
      have HRL := Lib.hid hfit.row
      simp only at hl1 hl2 HRL
      unfold IPart.val at c0
      simp only at c0
      have hcap : cap ≤ 9223372036854775807 := by unfold maxLen at hl2; omega
      clear hfit hkl
      obtain ⟨M, hM⟩ : ∃ M, l.length = M := ⟨_, rfl⟩
      obtain ⟨q5, hq5⟩ : ∃ q5, l.take 5 = q5 := ⟨_, rfl⟩
      have hq5l : q5.length = min M 5 := by rw [← hq5, List.length_take, hM]; omega
      have HRQ := Lib.hid (show Row w B (fun b => b < w.heap.size) (q5.map (Value.int .i64)) from by rw [← hq5, List.map_take]; exact Row.take HRL.out)
      rw [hM] at c0 hl1
      have HQL := Lib.hid hq5l
      have hm5 : q5.length ≤ 5 := by omega
      have hmc : q5.length ≤ cap := by omega
      have hst : (decide ((5 : Int) < (M : Int)) = true ∧ q5.length = 5) ∨ (decide ((5 : Int) < (M : Int)) = false ∧ q5.length = M) := by
        by_cases h5 : 5 < M
        · exact .inl ⟨decide_eq_true (by omega), by omega⟩
        · exact .inr ⟨decide_eq_false (by omega), by omega⟩
      have h5c : 5 < M → 5 ≤ cap := by omega
      have hempty : ((q5.length : Int) == 0) = true ∧ from0 n q5 = tickZ n 1 ∨ ((q5.length : Int) == 0) = false ∧ from0 n q5 = n := by
        cases q5 with
        | nil => exact .inl ⟨rfl, rfl⟩
        | cons x l => exact .inr ⟨by simp; omega, by unfold from0; rw [if_neg (by simp)]⟩
      clear hq5 hM hq5l
      have hr0 : 0 ≤ from0 n q5 ∧ from0 n q5 ≤ 1099511627776 := by
        unfold from0
        split
        · exact tickZ_rng hn0 hn1 1
        · exact ⟨hn0, hn1⟩
      have HT := Lib.hid (show ∀ w', S.At w w' q F n → Calls Try.prog 9 #[.pointer (some ⟨q, 0, none⟩), .slice B q5.length cap] w' fun e w'' => e = .returned (.int .i64 (ticks n q5)) ∧ ∃ F', S.At w w'' q F' (ticks n q5) from fun w' ha =>
        (S.tick w w' q F n B cap q5 ha ((HRQ.out.keep ((S.atIn ha).1.mono fun _ _ _ => trivial)).mono fun b _ (hb : b < w.heap.size) hF => by have := ((S.atIn ha).2.1 b hF).1; omega) hmc hl2).mono fun e w'' ⟨h1, F', h2, _⟩ => ⟨h1, F', h2⟩)
      have hB5 : 5 < M → ∃ b2 o2, B = some ⟨b2, o2, none⟩ := fun h5 => by
        obtain ⟨b2, o2, e, -⟩ := HRQ.out.at_ (k := 0) (by rw [List.length_map]; omega)
        exact ⟨b2, o2, e⟩
      clear hl2 HRL
      rcases hst with ⟨v1, e5⟩ | ⟨v1, e5⟩
      · obtain ⟨b2, o2, rfl⟩ := hB5 (by have := of_decide_eq_true v1; omega)
        have hc5 : 5 ≤ cap := h5c (by have := of_decide_eq_true v1; omega)
        clear hB5 h5c
        go_upto_region 12 with fail
        rw [show Value.slice (some ⟨b2, o2, none⟩) 5 cap = Value.slice (some ⟨b2, o2, none⟩) q5.length cap from by rw [e5]]
        clear e5 HQL v1
        rcases hempty with ⟨v2, hf⟩ | ⟨v2, hf⟩
        all_goals (
          have HFR := Lib.hid hf
          clear hf
          go_wp2_with fail
          (try (refine (rtick_any wr n 1 hn0 hn1).mono ?_; rintro e w3 ⟨rfl, rfl⟩; go_wp2_with fail))
          go_loopw [7, 10] (fun s7 i wi => ∃ j : Nat, j ≤ q5.length ∧ i = .int .i64 (j : Int) ∧ s7 = .int .i64 ((q5.take j).foldl tickZ (from0 n q5)) ∧ Hid (S.At w wi q F n)) (fun _ i _ => q5.length - (intOf i).toNat)
          case atStart => exact ⟨0, Nat.zero_le _, rfl, by rw [List.take_zero]; show _ = Value.int .i64 (from0 n q5); rw [HFR.out], HA⟩
          case round =>
            clear HA
            obtain ⟨j, hj, rfl, rfl, HA⟩ := hrel
            by_cases hj1 : j < q5.length
            · have hjI : (j : Int) < (q5.length : Int) := by omega
              obtain ⟨b3, o3, he3, -, d0⟩ := (HRQ.out.keep ((S.atIn HA.out).1.mono fun _ _ _ => trivial)).at_ (k := j) (by rw [List.length_map]; exact hj1)
              rw [List.getElem_map] at d0
              have HNX := Lib.hid (fold_next q5 (from0 n q5) j hj1)
              have hr1 := fold_rng (q5.take j) hr0.1 hr0.2
              generalize q5[j] = x at d0 HNX
              generalize (q5.take j).foldl tickZ (from0 n q5) = m at hr1 HNX ⊢
              injection he3 with he3; injection he3 with he3 he4; subst he3 he4
              go_wp2_with fail
              refine (rtick_any wr m x hr1.1 hr1.2).mono ?_
              rintro e w3 ⟨rfl, rfl⟩
              go_wp2_with fail
              go_roundw
              case rel => exact ⟨j + 1, by omega, by go_num, by rw [HNX.out], HA⟩
              case measure => simp [intOf]; omega
            · obtain rfl : j = q5.length := by omega
              rw [List.take_length, from_all]
              have hr1 := fold_rng q5 hr0.1 hr0.2
              rw [from_all] at hr1
              have HT1 := Lib.hid (HT.out wr HA.out)
              generalize ticks n q5 = m at hr1 HT1 ⊢
              have v3 : (m != m) = false := by simp
              clear hj1 HT HA HFR
              go_wp2_with fail
              refine (show Calls _ _ _ _ _ from HT1.out).mono ?_
              rintro e w5 ⟨rfl, F5, ha5⟩
              have HA5 := Lib.hid (show ∀ w', Kp w5 w' → S.At w w' q F5 m from fun w' hk => S.atK ha5 hk)
              clear ha5 HT1
              go_wp2_with fail
              refine (S.now w w5 q F5 m (HA5.out w5 (Keeps.refl _ _))).mono ?_
              rintro e w6 ⟨rfl, hk⟩
              have HK6 := Lib.hid hk
              clear hk
              have hct : (decide (0 ≤ t) = true ∧ decide (t ≤ m) = true ∧ sinceZ m t = m - t ∧ wrap64 (m - t) = m - t) ∨ (decide (0 ≤ t) = true ∧ decide (t ≤ m) = false ∧ sinceZ m t = 0) ∨ (decide (0 ≤ t) = false ∧ sinceZ m t = 0) := by
                unfold sinceZ
                by_cases h0 : 0 ≤ t
                · by_cases h1 : t ≤ m
                  · exact .inl ⟨decide_eq_true h0, decide_eq_true h1, if_pos ⟨h0, h1⟩, by simp only [wrap64]; omega⟩
                  · exact .inr (.inl ⟨decide_eq_true h0, decide_eq_false h1, if_neg (fun h => h1 h.2)⟩)
                · exact .inr (.inr ⟨decide_eq_false h0, if_neg (fun h => h0 h.1)⟩)
              have HSN := Lib.hid (S.since w w6 q F5 m t (HA5.out w6 HK6.out))
              rcases hct with ⟨s1, s2, hs, hw⟩ | ⟨s1, s2, hs⟩ | ⟨s1, hs⟩
              all_goals (
                rw [hs] at HSN
                clear hs
                go_wp2_with fail
                refine (show Calls _ _ _ _ _ from HSN.out).mono ?_
                rintro e w7 ⟨rfl, hk⟩
                have HA7 := Lib.hid (HA5.out w7 (HK6.out.trans hk))
                clear hk HSN
                go_wp2_with fail
                go_roundw
                case rel => exact ⟨k + 1, m, F5, by omega, by omega, by go_num, rfl, HA7⟩
                case measure => simp [intOf]; omega))
      · clear hB5 h5c
        go_upto_region 12 with fail
        rw [show Value.slice B M cap = Value.slice B q5.length cap from by rw [e5]]
        clear e5 HQL v1
        rcases hempty with ⟨v2, hf⟩ | ⟨v2, hf⟩
        all_goals (
          have HFR := Lib.hid hf
          clear hf
          go_wp2_with fail
          (try (refine (rtick_any wr n 1 hn0 hn1).mono ?_; rintro e w3 ⟨rfl, rfl⟩; go_wp2_with fail))
          go_loopw [7, 10] (fun s7 i wi => ∃ j : Nat, j ≤ q5.length ∧ i = .int .i64 (j : Int) ∧ s7 = .int .i64 ((q5.take j).foldl tickZ (from0 n q5)) ∧ Hid (S.At w wi q F n)) (fun _ i _ => q5.length - (intOf i).toNat)
          case atStart => exact ⟨0, Nat.zero_le _, rfl, by rw [List.take_zero]; show _ = Value.int .i64 (from0 n q5); rw [HFR.out], HA⟩
          case round =>
            clear HA
            obtain ⟨j, hj, rfl, rfl, HA⟩ := hrel
            by_cases hj1 : j < q5.length
            · have hjI : (j : Int) < (q5.length : Int) := by omega
              obtain ⟨b3, o3, he3, -, d0⟩ := (HRQ.out.keep ((S.atIn HA.out).1.mono fun _ _ _ => trivial)).at_ (k := j) (by rw [List.length_map]; exact hj1)
              rw [List.getElem_map] at d0
              have HNX := Lib.hid (fold_next q5 (from0 n q5) j hj1)
              have hr1 := fold_rng (q5.take j) hr0.1 hr0.2
              generalize q5[j] = x at d0 HNX
              generalize (q5.take j).foldl tickZ (from0 n q5) = m at hr1 HNX ⊢
              subst he3
              go_wp2_with fail
              refine (rtick_any wr m x hr1.1 hr1.2).mono ?_
              rintro e w3 ⟨rfl, rfl⟩
              go_wp2_with fail
              go_roundw
              case rel => exact ⟨j + 1, by omega, by go_num, by rw [HNX.out], HA⟩
              case measure => simp [intOf]; omega
            · obtain rfl : j = q5.length := by omega
              rw [List.take_length, from_all]
              have hr1 := fold_rng q5 hr0.1 hr0.2
              rw [from_all] at hr1
              have HT1 := Lib.hid (HT.out wr HA.out)
              generalize ticks n q5 = m at hr1 HT1 ⊢
              have v3 : (m != m) = false := by simp
              clear hj1 HT HA HFR
              go_wp2_with fail
              refine (show Calls _ _ _ _ _ from HT1.out).mono ?_
              rintro e w5 ⟨rfl, F5, ha5⟩
              have HA5 := Lib.hid (show ∀ w', Kp w5 w' → S.At w w' q F5 m from fun w' hk => S.atK ha5 hk)
              clear ha5 HT1
              go_wp2_with fail
              refine (S.now w w5 q F5 m (HA5.out w5 (Keeps.refl _ _))).mono ?_
              rintro e w6 ⟨rfl, hk⟩
              have HK6 := Lib.hid hk
              clear hk
              have hct : (decide (0 ≤ t) = true ∧ decide (t ≤ m) = true ∧ sinceZ m t = m - t ∧ wrap64 (m - t) = m - t) ∨ (decide (0 ≤ t) = true ∧ decide (t ≤ m) = false ∧ sinceZ m t = 0) ∨ (decide (0 ≤ t) = false ∧ sinceZ m t = 0) := by
                unfold sinceZ
                by_cases h0 : 0 ≤ t
                · by_cases h1 : t ≤ m
                  · exact .inl ⟨decide_eq_true h0, decide_eq_true h1, if_pos ⟨h0, h1⟩, by simp only [wrap64]; omega⟩
                  · exact .inr (.inl ⟨decide_eq_true h0, decide_eq_false h1, if_neg (fun h => h1 h.2)⟩)
                · exact .inr (.inr ⟨decide_eq_false h0, if_neg (fun h => h0 h.1)⟩)
              have HSN := Lib.hid (S.since w w6 q F5 m t (HA5.out w6 HK6.out))
              rcases hct with ⟨s1, s2, hs, hw⟩ | ⟨s1, s2, hs⟩ | ⟨s1, hs⟩
              all_goals (
                rw [hs] at HSN
                clear hs
                go_wp2_with fail
                refine (show Calls _ _ _ _ _ from HSN.out).mono ?_
                rintro e w7 ⟨rfl, hk⟩
                have HA7 := Lib.hid (HA5.out w7 (HK6.out.trans hk))
                clear hk HSN
                go_wp2_with fail
                go_roundw
                case rel => exact ⟨k + 1, m, F5, by omega, by omega, by go_num, rfl, HA7⟩
                case measure => simp [intOf]; omega))
    · have hst : k = N ∨ (k = 20 ∧ (20 : Int) < (N : Int)) := by
        by_cases hk1 : k < N
        · exact .inr ⟨by omega, by omega⟩
        · exact .inl (by omega)
      clear hkk
      rcases hst with rfl | ⟨rfl, u1⟩
      all_goals (
        go_wp2_with fail
        go_ret
        exact ⟨rfl, (S.atIn HA.out).1.below⟩)

end Go.Proofs.Ytpiknekopmoepaa.clockAll
