/-
  NetFull (layer 20), walked.
-/
import Derived.Test.YtpijhpfcigjkeaaDoorNtLocs
import Derived.Lib.MinMax
namespace Go.Proofs.YtpijhpfcigjkeaaDoor.netFull
open Go Go.RowKit Go.Joins

def msF (k : Nat) : Ms := ⟨1, 1, 0, 0, (k : Int), 0, 0, 0, 0, ⟨#[]⟩, 0, false, it0, [], [], [], 0, []⟩
def msR : Ms := ⟨1, 2, 0, 0, 0, 0, 0, 0, 0, ⟨#[]⟩, 0, false, it0, [], [], [], 0, []⟩
theorem msF_may {k : Nat} (h : k < 1000) : mayM (msF k) = true := by
  have h1 : numB (k : Int) = true := by simp [numB]; omega
  have h0 : numB 0 = true := by decide
  have e1 : headB (msF k) = true := by
    unfold headB msF
    simp only [h1, h0]
    rfl
  have e2 : listB (msF k) = true := by
    unfold listB msF
    simp only
    rfl
  have e3 : ((msF k).items.all It.may && marksB (msF k).marks) = true := by
    unfold msF
    simp only
    rfl
  unfold mayM
  rw [e1, e2, e3]; rfl
theorem msR_may : mayM msR = true := by decide
/-- How many are taken on. -/
theorem sent_all (ms : List Ms) : ∀ l : List Ms, (∀ m ∈ ms, mayM m = true) → l.length ≤ 300 → (sent l ms).2 = min ms.length (300 - l.length) ∧ (sent l ms).1.length = min 300 (l.length + ms.length) := by
  induction ms with
  | nil => intro l _ hl; exact ⟨by simp [sent], by simp [sent]; omega⟩
  | cons m ms ih =>
    intro l hm hl
    have h1 := hm m List.mem_cons_self
    by_cases h : l.length < 300
    · have e : sent l (m :: ms) = ((sent (l ++ [m]) ms).1, (sent (l ++ [m]) ms).2 + 1) := by simp [sent, h1, h]
      obtain ⟨a, b⟩ := ih (l ++ [m]) (fun x hx => hm x (List.mem_cons_of_mem _ hx)) (by rw [List.length_append]; show l.length + 1 ≤ 300; omega)
      rw [List.length_append] at a b
      simp only [List.length_cons, List.length_nil] at a b
      rw [e]
      refine ⟨?_, ?_⟩
      · show (sent (l ++ [m]) ms).2 + 1 = _
        rw [a, List.length_cons]; omega
      · show (sent (l ++ [m]) ms).1.length = _
        rw [b, List.length_cons]; omega
    · have e : sent l (m :: ms) = sent l ms := by simp [sent, h]
      obtain ⟨a, b⟩ := ih l (fun x hx => hm x (List.mem_cons_of_mem _ hx)) hl
      rw [e, a, b, List.length_cons]
      exact ⟨by omega, by omega⟩
theorem bit_any (b : Bool) (w : World) : Calls Tryd.prog 18 #[.bool b] w fun e w' => e = .returned (.int .i64 (if b then 1 else 0)) ∧ w = w' := by
  cases b
  all_goals
    go_enter Tryd.func18, Tryd.ntmps18
    go_wp2_with fail
    go_ret
    exact ⟨rfl, rfl⟩
/-- How a net stands behind k sendings. -/
def heldF (k : Nat) : List Ms := (List.range (min k 300)).map msF
theorem heldF_len (k : Nat) : (heldF k).length = min k 300 := by simp [heldF]
theorem heldF_next {k : Nat} (hk : k < 330) : sent (heldF k) [msF k] = (heldF (k + 1), if k < 300 then 1 else 0) := by
  by_cases h : k < 300
  · rw [sent_one (msF_may (by omega)) (by rw [heldF_len]; omega), if_pos h]
    unfold heldF
    rw [show min (k + 1) 300 = k + 1 by omega, show min k 300 = k by omega, List.range_succ, List.map_append]; rfl
  · rw [sent_full (by rw [heldF_len]; omega), if_neg h]
    unfold heldF
    rw [show min (k + 1) 300 = min k 300 by omega]

set_option maxRecDepth 100000 in
set_option maxHeartbeats 4000000 in
theorem walk (S : NetOK) (w : World) (hT : S.T w) (n more : Int) (hn1 : -9223372036854775808 ≤ n) (hn2 : n < 9223372036854775808) (hm1 : -9223372036854775808 ≤ more) (hm2 : more < 9223372036854775808) :
    Calls Tryd.prog 4 #[.int .i64 n, .int .i64 more] w fun e w' => e = .returned (.bool true) ∧ Below w.heap.size w w' := by
  have HT := Lib.hid hT
  have HFIN := Lib.hid (show ∀ w', Kp w w' → Below w.heap.size w w' from fun w' h => h.below)
  clear hT
  go_enter Tryd.func4, Tryd.ntmps4
  go_wp2_with fail
  refine (show Calls _ _ _ _ _ from begun20 S w HT.out).mono ?_
  rintro e w1 ⟨rfl, hk⟩
  have HK1 := Lib.hid hk
  clear hk
  have hcs : decide (n < 0) = true ∨ (decide (n < 0) = false ∧ decide (330 < n) = true) ∨ (decide (n < 0) = false ∧ decide (330 < n) = false ∧ decide (more < 0) = true) ∨ (decide (n < 0) = false ∧ decide (330 < n) = false ∧ decide (more < 0) = false ∧ decide (10 < more) = true) ∨ ∃ N M : Nat, n = (N : Int) ∧ more = (M : Int) ∧ N ≤ 330 ∧ M ≤ 10 := by
    by_cases h : n < 0
    · exact .inl (decide_eq_true h)
    · by_cases h2 : 330 < n
      · exact .inr (.inl ⟨decide_eq_false h, decide_eq_true h2⟩)
      · by_cases h3 : more < 0
        · exact .inr (.inr (.inl ⟨decide_eq_false h, decide_eq_false h2, decide_eq_true h3⟩))
        · by_cases h4 : 10 < more
          · exact .inr (.inr (.inr (.inl ⟨decide_eq_false h, decide_eq_false h2, decide_eq_false h3, decide_eq_true h4⟩)))
          · exact .inr (.inr (.inr (.inr ⟨n.toNat, more.toNat, by omega, by omega, by omega, by omega⟩)))
  rcases hcs with t1 | ⟨t1, t2⟩ | ⟨t1, t2, t3⟩ | ⟨t1, t2, t3, t4⟩ | ⟨N, M, rfl, rfl, hN, hM⟩
  · go_wp2_with fail
    go_ret
    exact ⟨rfl, HFIN.out _ HK1.out⟩
  · go_wp2_with fail
    go_ret
    exact ⟨rfl, HFIN.out _ HK1.out⟩
  · go_wp2_with fail
    go_ret
    exact ⟨rfl, HFIN.out _ HK1.out⟩
  · go_wp2_with fail
    go_ret
    exact ⟨rfl, HFIN.out _ HK1.out⟩
  · have t1 : decide ((N : Int) < 0) = false := by simp
    have t2 : decide (330 < (N : Int)) = false := decide_eq_false (by omega)
    have t3 : decide ((M : Int) < 0) = false := by simp
    have t4 : decide (10 < (M : Int)) = false := decide_eq_false (by omega)
    have t5 : decide (330 < N) = false := decide_eq_false (by omega)
    have t6 : decide (10 < M) = false := decide_eq_false (by omega)
    clear hn1 hn2 hm1 hm2
    go_wp2_with fail
    refine (show Calls _ _ _ _ _ from S.new w w1 HT.out HK1.out).mono ?_
    rintro e w2 ⟨q, F, rfl, h, -, -⟩
    have HA := Lib.hid (show S.At w w2 q F (heldF 0) from h)
    clear h t1 t2 t3 t4 t5 t6
    go_wp2_with fail
    go_loopw [7] (fun i wr => ∃ (k : Nat) (F : Nat → Prop), k ≤ N ∧ i = .int .i64 (k : Int) ∧ Hid (S.At w wr q F (heldF k))) (fun i _ => N - (intOf i).toNat)
    case atStart => exact ⟨0, F, Nat.zero_le _, rfl, HA⟩
    case round =>
      clear HA
      obtain ⟨k, F, hk, rfl, HA⟩ := hrel
      by_cases hlt : k < N
      · have hlt' : (k : Int) < (N : Int) := by omega
        obtain ⟨vO, hvO⟩ : ∃ v, msV (msF k) msA0 = v := ⟨_, rfl⟩
        have HVO := Lib.hid hvO
        clear hvO
        go_wp2_with (first
          | (refine list_buildM rfl _ rfl vO (by rw [← HVO.out]; kernel_rfl) ?_)
          | (refine list_slice1 rfl (.tmp 35) rfl _ _ HVO.out.symm ?_; intro w3 hb3 hk3 hs3))
        have hA3 := S.atK HA.out hk3
        have hlt3 := (S.atIn HA.out).2
        have HS := Lib.hid (S.send w w3 q F _ (some ⟨wr.heap.size, 0, none⟩) 1 1 (fun b => b = wr.heap.size) [(msF k, msA0)] HT.out hA3 rfl ⟨hb3.row, fun p hp => by
          rw [List.mem_singleton.1 hp]; exact MsIn.zero _ _ _ rfl rfl rfl rfl⟩ (fun b hb hf => by have := (hlt3 b hf).2; omega) (by decide) (by decide) (by decide) (fun p hp => by
          rw [List.mem_singleton.1 hp]; exact may_fits (msF_may (by omega))))
        rw [show [(msF k, msA0)].map (·.1) = [msF k] from rfl, heldF_next (by omega)] at HS
        clear hA3 hlt3 hb3 hk3 hs3
        refine (show Calls _ _ _ _ _ from HS.out).mono ?_
        rintro e w4 ⟨rfl, F4, hA4, -, -⟩
        have HA4 := Lib.hid hA4
        clear hA4 HS HA
        by_cases h3 : k < 300
        · have p1 : (k : Int) < 300 := by omega
          have p2 : decide (k < 300) = true := decide_eq_true h3
          rw [if_pos h3]
          go_wp2_with fail
          try rw [show decide ((k : Int) < 300) = true from decide_eq_true (by omega)]
          refine (bit_any true _).mono ?_
          rintro e w5 ⟨rfl, rfl⟩
          go_wp2_with fail
          go_roundw
          case rel => exact ⟨k + 1, F4, hlt, by go_num, HA4⟩
          case measure => simp [intOf]; omega
        · have p1 : ¬ (k : Int) < 300 := by omega
          have p2 : decide (k < 300) = false := decide_eq_false h3
          rw [if_neg h3]
          go_wp2_with fail
          try rw [show decide ((k : Int) < 300) = false from decide_eq_false (by omega)]
          refine (bit_any false _).mono ?_
          rintro e w5 ⟨rfl, rfl⟩
          go_wp2_with fail
          go_roundw
          case rel => exact ⟨k + 1, F4, hlt, by go_num, HA4⟩
          case measure => simp [intOf]; omega
      · obtain rfl : k = N := by omega
        have hlt' : ¬ ((k : Int) < (k : Int)) := by omega
        clear hlt hk
        obtain ⟨vR, hvR⟩ : ∃ v, msV msR msA0 = v := ⟨_, rfl⟩
        have HVR := Lib.hid hvR
        obtain ⟨l, hl⟩ : ∃ l, heldF k = l := ⟨_, rfl⟩
        have HLL := Lib.hid (show l.length = min k 300 from by rw [← hl]; exact heldF_len k)
        rw [hl] at HA
        clear hvR hl
        go_wp2_with fail
        go_loopw [8, 9] (fun v i wr => ∃ (j : Nat) (A : Option Addr) (c : Nat) (F : Nat → Prop), j ≤ M ∧ i = .int .i64 (j : Int) ∧ v = .slice A j c ∧ Hid (wr.ownsRow w.heap.size 36 21 v j (msRow (List.replicate j (msR, msA0)))) ∧ Hid (S.At w wr q F l) ∧ Hid (∀ b, v.ownBlock = some b → ¬ F b)) (fun _ i _ => M - (intOf i).toNat)
        case atStart => exact ⟨0, none, 0, F, Nat.zero_le _, rfl, rfl, Lib.hid (World.ownsRow_nil _ _ _ _), HA, Lib.hid (fun b hb => by cases hb)⟩
        case round =>
          clear HA
          obtain ⟨j, A, c, F, hj, rfl, rfl, HO, HA, HD⟩ := hrel
          by_cases hlt : j < M
          · have hlt' : (j : Int) < (M : Int) := by omega
            have hsz := (S.atIn HA.out).1.size
            go_wp2_with (first
              | (refine list_buildM rfl _ rfl vR (by rw [← HVR.out]; kernel_rfl) ?_)
              | (refine list_slice1 rfl (.tmp 48) rfl _ _ HVR.out.symm ?_; intro w3 hb3 hk3 hs3)
              | (at_builtin; refine msg_elem.list_append rfl (.tmp 47) (.tmp 49) _ rfl rfl (hk3.own HO.out fun _ _ => trivial) rfl (msRow_src (c := 1) hb3.row) ?c3 ?c4 ?c5 ?_))
            case c3 => unfold maxLen; show j + 1 ≤ _; omega
            case c4 => show (j + 1) * 256 ≤ _; omega
            case c5 => omega
            intro v4 w4 ho4 hg4 hb4
            have HO3 := Lib.hid (hk3.own HO.out fun _ _ => trivial)
            have hA3 := S.atK HA.out hk3
            have HA3 := Lib.hid hA3
            have HL3 := Lib.hid (S.atIn hA3).2
            clear hA3 hb3 HO HA
            have hown3 := HO3.out.lt
            have hk4 : Kp w w4 := ((S.atIn HA3.out).1).grown hg4 fun b hb => (hown3 b hb).1
            have HA4 := Lib.hid (S.atKeep HA3.out (Keeps.of_grown hg4 fun b hb _ hf => HD.out b hb hf) hk4)
            have HO4 := Lib.hid (show w4.ownsRow w.heap.size 36 21 v4 (j + 1) (msRow (List.replicate (j + 1) (msR, msA0))) from by
              rw [List.replicate_succ', msRow_append]; exact ho4)
            have HD4 := Lib.hid (show ∀ b, v4.ownBlock = some b → ¬ F b from fun b hb hf => by
              rcases hb4 with h | h
              · exact HD.out b (by rw [← h]; exact hb) hf
              · rw [h] at hb
                injection hb with hb
                have := (HL3.out b hf).2
                omega)
            obtain ⟨A4, c4, rfl, -, -, -⟩ := own_formL ho4
            clear ho4 hg4 hb4 hown3 hk4 HO3 HA3 HL3 HD hk3 hs3
            go_wp2_with fail
            go_roundw
            case rel => exact ⟨j + 1, A4, c4, F, hlt, by go_num, rfl, HO4, HA4, HD4⟩
            case measure => simp [intOf]; omega
          · obtain rfl : j = M := by omega
            have hlt' : ¬ ((j : Int) < (j : Int)) := by omega
            obtain ⟨hr1, hr2⟩ := sent_all (List.replicate j msR) l (fun m hm => by rw [List.eq_of_mem_replicate hm]; exact msR_may) (by rw [HLL.out]; omega)
            obtain ⟨A5, c5, e5, h51, h52, -⟩ := own_formL HO.out
            injection e5 with e51 e52 e53
            subst e51 e53
            have HS := Lib.hid (S.send w wr q F l A c j (fun b => ¬ F b) (List.replicate j (msR, msA0)) HT.out HA.out (by rw [List.length_replicate]) ⟨by
                intro hne
                have h0 : 0 < j := by
                  rcases Nat.eq_zero_or_pos j with h0 | h0
                  · subst h0; exact absurd rfl hne
                  · exact h0
                obtain ⟨b, cap, e6, -, -⟩ := HO.out.form h0
                injection e6 with e61 e62 e63
                subst e61
                refine ⟨b, 0, rfl, HD.out b rfl, fun i v hv => ?_⟩
                have := HO.out.cells (g := b) rfl i v hv
                rwa [WideShapes.add_plain] at this, fun p hp => by
                rw [List.eq_of_mem_replicate hp]; exact MsIn.zero _ _ _ rfl rfl rfl rfl⟩ (fun b hb => hb) h51 h52 (by omega) (fun p hp => by
                rw [List.eq_of_mem_replicate hp]; exact may_fits msR_may))
            rw [show (List.replicate j (msR, msA0)).map (·.1) = List.replicate j msR from by rw [List.map_replicate]] at HS
            obtain ⟨cnt, hcn⟩ : ∃ cnt, (sent l (List.replicate j msR)).2 = cnt := ⟨_, rfl⟩
            have HR2 := Lib.hid hr2
            rw [hcn] at HS hr1
            rw [List.length_replicate, HLL.out] at hr1
            have t1 : (((cnt : Nat) : Int) == min (j : Int) (max 0 (300 - (k : Int)))) = true := beq_iff_eq.2 (by omega)
            clear hcn hr1 hr2 HO HD hlt hj h51 h52
            go_wp2_with fail
            refine (show Calls _ _ _ _ _ from HS.out).mono ?_
            rintro e w6 ⟨rfl, F6, hA6, -, -⟩
            have HL6 := Lib.hid (S.len w w6 q F6 _ HT.out hA6)
            have HA6 := Lib.hid hA6
            rw [HR2.out, List.length_replicate, HLL.out] at HL6
            have t2 : (((min 300 (min k 300 + j) : Nat) : Int) == min 300 ((k : Int) + (j : Int))) = true := beq_iff_eq.2 (by omega)
            obtain ⟨cn2, hc2⟩ : ∃ c, min 300 (min k 300 + j) = c := ⟨_, rfl⟩
            rw [hc2] at HL6 t2
            have HK6 := Lib.hid (S.atIn hA6).1
            clear hA6 hc2 HS HA HR2
            go_wp2_with fail
            refine (show Calls _ _ _ _ _ from HL6.out).mono ?_
            rintro e w7 ⟨rfl, hk7⟩
            have HK7 := Lib.hid (HK6.out.trans hk7)
            clear hk7
            go_wp2_with fail
            go_ret
            exact ⟨rfl, HFIN.out _ HK7.out⟩

end Go.Proofs.YtpijhpfcigjkeaaDoor.netFull
