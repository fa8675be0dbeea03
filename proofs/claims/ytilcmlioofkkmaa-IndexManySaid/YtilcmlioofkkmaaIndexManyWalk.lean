/-
  IndexMany, walked over what an index keeps.
-/
import Derived.Test.YtilcmlioofkkmaaIndexNums
namespace Go.Proofs.Ytilcmlioofkkmaa.indexMany
open Go Go.RowKit

/-- What the index tells after k puts; ahead of the m-th key's turn to go; ahead of its turn to come again. -/
def f1 (k : Nat) : Nat → Option Int := fun i => if i < k then some ((i : Int) + 1) else none
def f2 (N s m : Nat) : Nat → Option Int := fun i => if i % s = 0 ∧ i < m then none else f1 N i
def f4 (N s m : Nat) : Nat → Option Int := fun i => if i % s = 0 then (if i < m then some 7 else none) else f1 N i
theorem f1_step (k : Nat) : upd (f1 k) k (some ((k : Int) + 1)) = f1 (k + 1) := by
  funext i
  unfold upd f1
  by_cases h : i = k
  · subst h; simp
  · by_cases h2 : i < k
    · simp [h, h2, Nat.lt_succ_of_lt h2]
    · have : ¬ i < k + 1 := by omega
      simp [h, h2, this]
theorem f2_zero (N s : Nat) : f2 N s 0 = f1 N := by funext i; simp [f2]
theorem mod_step {s m i : Nat} (hm : m % s = 0) (hi : i % s = 0) (h : i < m + s) (hne : i ≠ m) (hs : 1 ≤ s) : i < m := by
  obtain ⟨a, rfl⟩ := Nat.dvd_of_mod_eq_zero hm
  obtain ⟨b, rfl⟩ := Nat.dvd_of_mod_eq_zero hi
  have h1 : b < a + 1 := Nat.lt_of_mul_lt_mul_left (a := s) (by rw [Nat.mul_add]; simpa using h)
  have h2 : b ≠ a := fun e => hne (by rw [e])
  exact Nat.mul_lt_mul_of_pos_left (by omega) (by omega)
theorem f2_step (N s m : Nat) (hm : m % s = 0) (hs : 1 ≤ s) : upd (f2 N s m) m none = f2 N s (m + s) := by
  funext i
  unfold upd f2
  by_cases h : i = m
  · subst h
    have : i < i + s := by omega
    simp [hm, this]
  · by_cases h2 : i % s = 0 ∧ i < m
    · have : i % s = 0 ∧ i < m + s := ⟨h2.1, by omega⟩
      rw [if_neg h, if_pos h2, if_pos this]
    · have : ¬ (i % s = 0 ∧ i < m + s) := fun h3 => h2 ⟨h3.1, mod_step hm h3.1 h3.2 h hs⟩
      rw [if_neg h, if_neg h2, if_neg this]
theorem f4_zero (N s m : Nat) (h : N ≤ m) : f2 N s m = f4 N s 0 := by
  funext i
  unfold f2 f4 f1
  by_cases h1 : i % s = 0
  · by_cases h2 : i < m
    · simp [h1, h2]
    · have : ¬ i < N := by omega
      simp [h1, h2, this]
  · simp [h1]
theorem f4_step (N s m : Nat) (hm : m % s = 0) (hs : 1 ≤ s) : upd (f4 N s m) m (some 7) = f4 N s (m + s) := by
  funext i
  unfold upd f4
  by_cases h : i = m
  · subst h
    have : i < i + s := by omega
    simp [hm, this]
  · by_cases h1 : i % s = 0
    · by_cases h2 : i < m
      · have : i < m + s := by omega
        simp [h, h1, h2, this]
      · have : ¬ i < m + s := fun h3 => h2 (mod_step hm h1 h3 h hs)
        simp [h, h1, h2, this]
    · simp [h, h1]
/-- How far a count by steps has come. -/
def Steps (N s m c : Nat) : Prop := m = s * c ∧ (c = 0 ∨ s * (c - 1) < N)
theorem Steps.next {N s m c : Nat} (h : Steps N s m c) (hm : m < N) : Steps N s (m + s) (c + 1) := by
  obtain ⟨rfl, -⟩ := h
  exact ⟨by rw [Nat.mul_add, Nat.mul_one], .inr hm⟩
theorem Steps.mod {N s m c : Nat} (h : Steps N s m c) : m % s = 0 := by rw [h.1]; exact Nat.mul_mod_right s c
theorem Steps.same {N s m c m' c' : Nat} (h : Steps N s m c) (h' : Steps N s m' c') (hm : N ≤ m) (hm' : N ≤ m') : c = c' := by
  obtain ⟨rfl, h⟩ := h
  obtain ⟨rfl, h'⟩ := h'
  rcases Nat.lt_trichotomy c c' with hlt | he | hlt
  · have := Nat.mul_le_mul_left s (show c ≤ c' - 1 by omega)
    omega
  · exact he
  · have := Nat.mul_le_mul_left s (show c' ≤ c - 1 by omega)
    omega

set_option maxRecDepth 100000 in
set_option maxHeartbeats 2000000 in
theorem walk (S : IndexOK) (w : World) (hT : S.T w) (n st : Int) : Calls Try.prog 4 #[.int .i64 n, .int .i64 st] w fun e w' => e = .returned (.bool true) ∧ Below w.heap.size w w' := by
  have HT := Lib.hid hT
  have hcs : (decide (n < 0) = true) ∨ (decide (n < 0) = false ∧ decide (300 < n) = true) ∨ (decide (n < 0) = false ∧ decide (300 < n) = false ∧ decide (st < 1) = true) ∨ (decide (n < 0) = false ∧ decide (300 < n) = false ∧ decide (st < 1) = false ∧ decide (20 < st) = true) ∨ (decide (n < 0) = false ∧ decide (300 < n) = false ∧ decide (st < 1) = false ∧ decide (20 < st) = false) := by
    cases decide (n < 0) <;> cases decide (300 < n) <;> cases decide (st < 1) <;> cases decide (20 < st) <;> simp
  clear hT
  go_enter Try.func4, Try.ntmps4
  go_wp2_with fail
  refine (show Calls _ _ _ _ _ from begun8 S w HT.out).mono ?_
  rintro e w1 ⟨rfl, hk⟩
  have K1 := Lib.hid hk
  clear hk
  rcases hcs with c1 | ⟨c1, c2⟩ | ⟨c1, c2, c3⟩ | ⟨c1, c2, c3, c4⟩ | ⟨c1, c2, c3, c4⟩
  · go_wp2_with fail
    go_ret
    exact ⟨rfl, K1.out.below⟩
  · go_wp2_with fail
    go_ret
    exact ⟨rfl, K1.out.below⟩
  · go_wp2_with fail
    go_ret
    exact ⟨rfl, K1.out.below⟩
  · go_wp2_with fail
    go_ret
    exact ⟨rfl, K1.out.below⟩
  · have n1 : 0 ≤ n := by have := of_decide_eq_false c1; omega
    have n2 : n ≤ 300 := by have := of_decide_eq_false c2; omega
    have s1 : 1 ≤ st := by have := of_decide_eq_false c3; omega
    have s2 : st ≤ 20 := by have := of_decide_eq_false c4; omega
    obtain ⟨N, rfl⟩ : ∃ N : Nat, n = (N : Int) := ⟨n.toNat, by omega⟩
    obtain ⟨s, rfl⟩ : ∃ s : Nat, st = (s : Int) := ⟨st.toNat, by omega⟩
    have n3 : N ≤ 300 := by omega
    have s3 : 1 ≤ s := by omega
    have s4 : s ≤ 20 := by omega
    clear n1 n2 s1 s2
    go_wp2_with fail
    refine (show Calls _ _ _ _ _ from ix_new S HT.out K1.out).mono ?_
    rintro e w2 ⟨q, F, rfl, h⟩
    have H2 := Lib.hid h
    clear h K1 c1 c2 c3 c4
    go_wp2_with fail
    go_loopw [7] (fun i wr => ∃ (k : Nat) (F : Foot) (st : IxSt), k ≤ N ∧ i = .int .i64 k ∧ NSt st (f1 k) k ∧ Ix S w wr q F st) (fun i _ => N - (intOf i).toNat)
    case atStart => exact ⟨0, F, [], Nat.zero_le _, rfl, ⟨[], rfl, by simp, by simp, fun i => rfl, rfl⟩, H2.out⟩
    case round =>
      clear H2
      obtain ⟨k, F, st, hk, rfl, hn, h⟩ := hrel
      have HN := Lib.hid hn
      have H := Lib.hid h
      clear hn h
      by_cases hl : k < N
      · have hl' : (k : Int) < (N : Int) := by omega
        go_wp2_with fail
        refine (show Calls _ _ _ _ _ from name_any wr k (by omega)).mono ?_
        rintro e w3 ⟨rfl, hkk⟩
        have H3 := Lib.hid (H.out.keep hkk)
        clear hkk H
        go_wp2_with fail
        refine (show Calls _ _ _ _ _ from ix_put HT.out H3.out (by rw [HN.out.len]; omega) (nameZ k) ((k : Int) + 1) (nameZ_size k) ⟨by omega, by omega⟩ 0 (by rw [HN.out.get (by omega)]; simp [f1]) _ rfl).mono ?_
        rintro e w4 ⟨rfl, F4, h⟩
        have H4 := Lib.hid h
        clear h H3
        go_wp2_with fail
        go_roundw
        case rel => exact ⟨k + 1, F4, _, by omega, by go_num, by rw [← f1_step]; exact HN.out.new (by omega) (by simp [f1]) _, H4.out⟩
        case measure => simp [intOf]; omega
      · obtain rfl : N = k := by omega
        have hl' : ¬ (N : Int) < (N : Int) := by omega
        go_wp2_with fail
        go_loopw [8, 9] (fun g i wr => ∃ (c m r : Nat) (F : Foot) (st : IxSt), m ≤ N + 20 ∧ c ≤ N ∧ g = .int .i64 c ∧ i = .int .i64 m ∧ r + c = N ∧ Hid (Steps N s m c) ∧ NSt st (f2 N s m) r ∧ Ix S w wr q F st) (fun _ i _ => N + 40 - (intOf i).toNat)
        case atStart => exact ⟨0, 0, N, F, st, by omega, by omega, rfl, rfl, by omega, Lib.hid ⟨by simp, .inl rfl⟩, by rw [f2_zero]; exact HN.out, H.out⟩
        case round =>
          clear HN H
          obtain ⟨c, m, r, F, st, hm, hc, rfl, rfl, hr, HS, hn, h⟩ := hrel
          have HN := Lib.hid hn
          have H := Lib.hid h
          have HR := Lib.hid hr
          have hrN : r ≤ 300 := by omega
          clear hn h hr
          by_cases hl : m < N
          · have hl' : (m : Int) < (N : Int) := by omega
            go_wp2_with fail
            refine (show Calls _ _ _ _ _ from name_any wr m (by omega)).mono ?_
            rintro e w3 ⟨rfl, hkk⟩
            have H3 := Lib.hid (H.out.keep hkk)
            clear hkk H
            go_wp2_with fail
            have hf : f2 N s m m = some ((m : Int) + 1) := by simp [f2, f1, hl]
            refine (show Calls _ _ _ _ _ from ix_drop HT.out H3.out (by rw [HN.out.len]; omega) (nameZ m) (nameZ_size m) true (by rw [HN.out.get (by omega), hf]; rfl) _ rfl).mono ?_
            rintro e w4 ⟨rfl, F4, h⟩
            have H4 := Lib.hid h
            obtain ⟨r', hr', hn'⟩ := HN.out.drop (k := m) (by omega) hf
            have HN4 := Lib.hid hn'
            have HR4 := Lib.hid (show r' + (c + 1) = N by have := HR.out; omega)
            have hcN : c + 1 ≤ N := by have := HR.out; omega
            clear h H3 hf hr' hn'
            go_wp2_with fail
            go_roundw
            case rel => exact ⟨c + 1, m + s, r', F4, _, by omega, hcN, by go_num, by go_num, HR4.out, Lib.hid (HS.out.next hl), by rw [← f2_step N s m HS.out.mod s3]; exact HN4.out, H4.out⟩
            case measure => simp [intOf]; omega
          · have hl' : ¬ (m : Int) < (N : Int) := by omega
            have HF := Lib.hid (f4_zero N s m (by omega))
            go_wp2_with fail
            go_loopw [10] (fun i wr => ∃ k : Nat, k ≤ N ∧ i = .int .i64 k ∧ Ix S w wr q F st) (fun i _ => N - (intOf i).toNat)
            case atStart => exact ⟨0, Nat.zero_le _, rfl, H.out⟩
            case round =>
              clear H
              obtain ⟨k, hk, rfl, h⟩ := hrel
              have H := Lib.hid h
              clear h
              by_cases hl2 : k < N
              · have hl2' : (k : Int) < (N : Int) := by omega
                go_wp2_with fail
                refine (show Calls _ _ _ _ _ from name_any wr k (by omega)).mono ?_
                rintro e w3 ⟨rfl, hkk⟩
                have H3 := Lib.hid (H.out.keep hkk)
                clear hkk H
                go_wp2_with fail
                by_cases hz : k % s = 0
                · have hf : f2 N s m k = none := by unfold f2; rw [if_pos ⟨hz, by omega⟩]
                  have hz' : (k : Int) % (s : Int) = 0 := by exact_mod_cast congrArg (Nat.cast (R := Int)) hz
                  refine (show Calls _ _ _ _ _ from ix_get HT.out H3.out (by rw [HN.out.len]; omega) (nameZ k) (nameZ_size k) 0 false (by rw [HN.out.get (by omega), hf]; rfl) (by rw [HN.out.get (by omega), hf]; rfl)).mono ?_
                  rintro e w4 ⟨rfl, h⟩
                  have H4 := Lib.hid h
                  clear h H3 hf hz
                  go_wp2_with fail
                  go_roundw
                  case rel => exact ⟨k + 1, by omega, by go_num, H4.out⟩
                  case measure => simp [intOf]; omega
                · have hf : f2 N s m k = some ((k : Int) + 1) := by
                    unfold f2
                    rw [if_neg (fun h => hz h.1)]
                    simp [f1, hl2]
                  have hz' : ((k : Int) % (s : Int) != 0) = true := by rw [bne_iff_ne]; exact fun e => hz (by exact_mod_cast e)
                  refine (show Calls _ _ _ _ _ from ix_get HT.out H3.out (by rw [HN.out.len]; omega) (nameZ k) (nameZ_size k) ((k : Int) + 1) true (by rw [HN.out.get (by omega), hf]; rfl) (by rw [HN.out.get (by omega), hf]; rfl)).mono ?_
                  rintro e w4 ⟨rfl, h⟩
                  have H4 := Lib.hid h
                  clear h H3 hf hz
                  go_wp2_with fail
                  go_roundw
                  case rel => exact ⟨k + 1, by omega, by go_num, H4.out⟩
                  case measure => simp [intOf]; omega
              · obtain rfl : N = k := by omega
                have hl2' : ¬ (N : Int) < (N : Int) := by omega
                go_wp2_with fail
                go_loopw [13] (fun i wr => ∃ (c' m' r' : Nat) (F : Foot) (st : IxSt), m' ≤ N + 20 ∧ c' ≤ m' ∧ r' ≤ 4000 ∧ i = .int .i64 m' ∧ Hid (r' = r + c' ∧ Steps N s m' c') ∧ NSt st (f4 N s m') r' ∧ Ix S w wr q F st) (fun i _ => N + 40 - (intOf i).toNat)
                case atStart => exact ⟨0, 0, r, F, st, by omega, by omega, by omega, rfl, Lib.hid ⟨rfl, by simp, .inl rfl⟩, by rw [← HF.out]; exact HN.out, H.out⟩
                case round =>
                  clear HN H HF
                  obtain ⟨c', m', r', F, st, hm', hc', hr', rfl, HS', hn, h⟩ := hrel
                  have HN := Lib.hid hn
                  have H := Lib.hid h
                  clear hn h
                  by_cases hl3 : m' < N
                  · have hl3' : (m' : Int) < (N : Int) := by omega
                    go_wp2_with fail
                    refine (show Calls _ _ _ _ _ from name_any wr m' (by omega)).mono ?_
                    rintro e w3 ⟨rfl, hkk⟩
                    have H3 := Lib.hid (H.out.keep hkk)
                    clear hkk H
                    go_wp2_with fail
                    have hf : f4 N s m' m' = none := by simp [f4, HS'.out.2.mod]
                    refine (show Calls _ _ _ _ _ from ix_put HT.out H3.out (by rw [HN.out.len]; omega) (nameZ m') 7 (nameZ_size m') ⟨by decide, by decide⟩ 0 (by rw [HN.out.get (by omega), hf]; rfl) _ rfl).mono ?_
                    rintro e w4 ⟨rfl, F4, h⟩
                    have H4 := Lib.hid h
                    have HN4 := Lib.hid (HN.out.new (k := m') (by omega) hf 7)
                    have hb : r' + 1 ≤ 4000 := by have := HS'.out.1; omega
                    have hc2 : c' + 1 ≤ m' + s := by omega
                    clear h H3 hf
                    go_wp2_with fail
                    go_roundw
                    case rel => exact ⟨c' + 1, m' + s, r' + 1, F4, _, by omega, hc2, hb, by go_num, Lib.hid ⟨by have := HS'.out.1; omega, HS'.out.2.next hl3⟩, by rw [← f4_step N s m' HS'.out.2.mod s3]; exact HN4.out, H4.out⟩
                    case measure => simp [intOf]; omega
                  · have hl3' : ¬ (m' : Int) < (N : Int) := by omega
                    have he : r' = N := by
                      have h1 := HS'.out.2.same HS.out (by omega) (by omega)
                      have h2 := HS'.out.1
                      have h3 := HR.out
                      omega
                    subst he
                    have hcN' : (c : Int) ≤ (r' : Int) := by omega
                    go_wp2_with fail
                    refine (show Calls _ _ _ _ _ from ix_len HT.out H.out (by rw [HN.out.len]; omega) (r' : Int) (by rw [HN.out.len])).mono ?_
                    rintro e w4 ⟨rfl, h⟩
                    have H4 := Lib.hid h
                    clear h H
                    go_wp2_with fail
                    go_ret
                    exact ⟨rfl, H4.out.kp.below⟩

end Go.Proofs.Ytilcmlioofkkmaa.indexMany
