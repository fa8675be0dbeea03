/-
  THE REFERENCE's Owner (layer 14): least and best, point by point.
-/
import Derived.Test.YtcmblihlbmclaaaRgMath
import Derived.Test.YtcmblihlbmclaaaPtNodes
namespace Go.Proofs.Ytcmblihlbmclaaa
open Go Go.RowKit Go.Joins

theorem ptsOf_at (n : Int) (k : Nat) (hk : k < 8) : (ptsOf n)[k]? = some ⟨placeZ n (k : Int), n⟩ := by
  have h : k = 0 ∨ k = 1 ∨ k = 2 ∨ k = 3 ∨ k = 4 ∨ k = 5 ∨ k = 6 ∨ k = 7 := by omega
  rcases h with rfl | rfl | rfl | rfl | rfl | rfl | rfl | rfl <;> rfl
theorem ptsOf_take (n : Int) (k : Nat) (hk : k < 8) : (ptsOf n).take (k + 1) = (ptsOf n).take k ++ [⟨placeZ n (k : Int), n⟩] := by
  rw [List.take_add_one, ptsOf_at n k hk]
  rfl
/-- Which were seen: those of the first i nodes and k of the next. -/
def seen (l : List Int) (i k : Nat) : List P2 := (l.take i).flatMap ptsOf ++ (match l[i]? with | some n => (ptsOf n).take k | none => [])
theorem seen_next {l : List Int} {i k : Nat} {n : Int} (hn : l[i]? = some n) (hk : k < 8) : seen l i (k + 1) = seen l i k ++ [⟨placeZ n (k : Int), n⟩] := by
  unfold seen
  rw [hn]
  simp only
  rw [ptsOf_take n k hk, List.append_assoc]
theorem seen_over {l : List Int} {i : Nat} {n : Int} (hn : l[i]? = some n) : seen l i 8 = seen l (i + 1) 0 := by
  have e : l.take (i + 1) = l.take i ++ [n] := by rw [List.take_add_one, hn]; rfl
  have z : (match l[i + 1]? with | some m => (ptsOf m).take 0 | none => ([] : List P2)) = [] := by cases l[i + 1]? <;> rfl
  unfold seen
  rw [hn, e, z, List.flatMap_append, List.append_nil]
  simp only [List.flatMap_cons, List.flatMap_nil, List.append_nil]
  rfl
theorem seen_all (l : List Int) : seen l l.length 0 = l.flatMap ptsOf := by
  unfold seen
  rw [List.take_length, List.getElem?_eq_none (Nat.le_refl _)]
  simp
theorem seen_none (l : List Int) : seen l 0 0 = [] := by
  unfold seen
  cases l[0]? <;> rfl
def lowO (l : List Int) (i k : Nat) : Option P2 := (seen l i k).foldl minB none
def topO (l : List Int) (h : Int) (i k : Nat) : Option P2 := ((seen l i k).filter fun x => decide (h ≤ x.place)).foldl minB none
theorem lowO_next {l : List Int} {i k : Nat} {n : Int} (hn : l[i]? = some n) (hk : k < 8) : lowO l i (k + 1) = minB (lowO l i k) ⟨placeZ n (k : Int), n⟩ := by
  unfold lowO
  rw [seen_next hn hk, fold_snoc]
theorem topO_next {l : List Int} {h : Int} {i k : Nat} {n : Int} (hn : l[i]? = some n) (hk : k < 8) : topO l h i (k + 1) = if decide (h ≤ placeZ n (k : Int)) = true then minB (topO l h i k) ⟨placeZ n (k : Int), n⟩ else topO l h i k := by
  unfold topO
  rw [seen_next hn hk, List.filter_append]
  cases hd : decide (h ≤ placeZ n (k : Int)) with
  | true =>
    rw [List.filter_cons_of_pos (by simpa using hd), List.filter_nil, fold_snoc, if_pos rfl]
  | false =>
    rw [List.filter_cons_of_neg (by simpa using hd), List.filter_nil, List.append_nil, if_neg (by simp)]
set_option maxRecDepth 100000 in
set_option maxHeartbeats 20000000 in
theorem rowner_any (w : World) (A : Option Addr) (c : Nat) (l : List Int) (h : Int) (hr : Row w A (fun _ => True) (l.map (Value.int .i64))) (hl : l.length ≤ c) (hc : c ≤ maxLen) :
    Calls Try.prog 13 #[.slice A l.length c, .int .u64 h] w fun e w' => e = .returned (.int .i64 (ownerL l h)) ∧ Kp w w' := by
  have HND := Lib.hid (nodes_any w A c l hr hl hc)
  obtain ⟨N, hN⟩ : ∃ N, l.length = N := ⟨_, rfl⟩
  have HN := Lib.hid hN
  have HR := Lib.hid hr
  unfold maxLen at hc
  have hNm : N ≤ 9223372036854775807 := by omega
  rw [hN] at HND ⊢
  clear hr hN hl hc
  go_enter Try.func13, Try.ntmps13
  go_wp2_with fail
  refine (show Calls _ _ _ _ _ from HND.out).mono ?_
  rintro e w1 ⟨rfl, hk1⟩
  have HK1 := Lib.hid hk1
  clear hk1 HND
  cases hb : nodesB l with
  | false =>
    have HE := Lib.hid (show ownerL l h = 0 from by unfold ownerL; rw [hb]; rfl)
    clear hb
    go_wp2_with fail
    go_ret
    exact ⟨by rw [HE.out]; rfl, HK1.out⟩
  | true =>
    have HB := Lib.hid hb
    clear hb
    go_wp2_with fail
    go_loopw [5, 6, 7, 8, 9] (fun s5 s6 s7 s8 s9 wr => ∃ i : Nat, i ≤ N ∧ s9 = .int .i64 (i : Int) ∧ s6 = .int .i64 (nodeO (lowO l i 0)) ∧ s8 = .int .u64 (placeO (lowO l i 0)) ∧ s5 = .int .i64 (nodeO (topO l h i 0)) ∧ s7 = .int .u64 (placeO (topO l h i 0)) ∧ Hid (Nod (lowO l i 0)) ∧ Hid (Nod (topO l h i 0)) ∧ Hid (Kp w wr)) (fun _ _ _ _ s9 _ => N - (intOf s9).toNat)
    case atStart =>
      have e1 : lowO l 0 0 = none := by unfold lowO; rw [seen_none]; rfl
      have e2 : topO l h 0 0 = none := by unfold topO; rw [seen_none]; rfl
      exact ⟨0, Nat.zero_le _, rfl, by rw [e1]; rfl, by rw [e1]; rfl, by rw [e2]; rfl, by rw [e2]; rfl, Lib.hid (by rw [e1]; exact Nod.none), Lib.hid (by rw [e2]; exact Nod.none), HK1⟩
    case round =>
      clear HK1
      obtain ⟨i, hi, rfl, rfl, rfl, rfl, rfl, HN1, HN2, HK⟩ := hrel
      by_cases hiN : i < N
      · have hiI : (i : Int) < (N : Int) := by omega
        have hil : i < l.length := by rw [HN.out]; exact hiN
        obtain ⟨b, o, rfl, -, hcell⟩ := HR.out.at_ (k := i) (by rw [List.length_map]; exact hil)
        rw [List.getElem_map] at hcell
        have HIN := Lib.hid (List.getElem?_eq_getElem hil)
        have HNI := Lib.hid (node_in HB.out (List.getElem_mem hil))
        generalize l[i] = n at hcell HIN HNI
        have HC := Lib.hid (show ∀ w2, Kp w w2 → w2.cell? ⟨b, o + i, none⟩ = some (.int .i64 n) from fun w2 hk => hk.cell hcell trivial)
        clear hil hcell
        go_wp2_with fail
        obtain ⟨wo, hwo⟩ : ∃ wo, wr = wo := ⟨_, rfl⟩
        rw [hwo] at HK ⊢
        subst hwo
        go_loopw [5, 6, 7, 8, 10] (fun s5 s6 s7 s8 s10 wi => ∃ k : Nat, k ≤ 8 ∧ s10 = .int .i64 (k : Int) ∧ s6 = .int .i64 (nodeO (lowO l i k)) ∧ s8 = .int .u64 (placeO (lowO l i k)) ∧ s5 = .int .i64 (nodeO (topO l h i k)) ∧ s7 = .int .u64 (placeO (topO l h i k)) ∧ Hid (Nod (lowO l i k)) ∧ Hid (Nod (topO l h i k)) ∧ Hid (Kp w wi)) (fun _ _ _ _ s10 _ => 8 - (intOf s10).toNat)
        case atStart => exact ⟨0, Nat.zero_le _, rfl, rfl, rfl, rfl, rfl, HN1, HN2, HK⟩
        case round =>
          clear HN1 HN2 HK
          obtain ⟨k, hk, rfl, rfl, rfl, rfl, rfl, HN1, HN2, HK⟩ := hrel
          by_cases hk8 : k < 8
          · have hkI : (k : Int) < 8 := by omega
            have c0 := HC.out _ HK.out
            have HPT := Lib.hid (show ∀ w2, Calls Try.prog 15 #[.int .i64 n, .int .i64 (k : Int)] w2 fun e w' => e = .returned (.int .u64 (placeZ n (k : Int))) ∧ w2 = w' from fun w2 => rpoint_any n (k : Int) w2)
            have HL := Lib.hid (lowO_next HIN.out hk8)
            have HT := Lib.hid (topO_next (h := h) HIN.out hk8)
            have hls := lesser_is HN1.out (placeZ n (k : Int)) n
            have hlt := lesser_is HN2.out (placeZ n (k : Int)) n
            have HM1 := Lib.hid (show Nod (lowO l i (k + 1)) from by rw [HL.out]; exact HN1.out.min HNI.out.1)
            have HM2 := Lib.hid (show Nod (topO l h i (k + 1)) from by
              rw [HT.out]
              split
              · exact HN2.out.min HNI.out.1
              · exact HN2.out)
            clear HN1 HN2
            rw [← HL.out] at hls
            generalize placeZ n (k : Int) = p at HPT HT hls hlt
            have hss : decide (h ≤ p) = false ∧ nodeO (topO l h i (k + 1)) = nodeO (topO l h i k) ∧ placeO (topO l h i (k + 1)) = placeO (topO l h i k) ∨ decide (h ≤ p) = true ∧ Lesser2 (topO l h i (k + 1)) p n (nodeO (topO l h i k)) (placeO (topO l h i k)) := by
              rw [HT.out]
              cases hd : decide (h ≤ p) with
              | false => exact .inl ⟨rfl, by rw [if_neg (by simp)], by rw [if_neg (by simp)]⟩
              | true => exact .inr ⟨rfl, by rw [if_pos rfl]; exact hlt⟩
            clear hlt HL HT
            have hls2 : Lesser2 (lowO l i (k + 1)) p n (nodeO (lowO l i k)) (placeO (lowO l i k)) := hls
            clear hls
            generalize nodeO (lowO l i k) = a1 at hls2 ⊢
            generalize placeO (lowO l i k) = b1 at hls2 ⊢
            generalize nodeO (topO l h i k) = a2 at hss ⊢
            generalize placeO (topO l h i k) = b2 at hss ⊢
            unfold Lesser2 at hls2 hss
            rcases hls2 with ⟨t1, E1, E2⟩ | ⟨t1, t2, E1, E2⟩ | ⟨t1, t2, t3, E1, E2⟩ | ⟨t1, t2, t3, t4, E1, E2⟩ | ⟨t1, t2, t3, t4, E1, E2⟩
            all_goals rcases hss with ⟨s0, E3, E4⟩ | ⟨s0, ⟨s1, E3, E4⟩ | ⟨s1, s2, E3, E4⟩ | ⟨s1, s2, s3, E3, E4⟩ | ⟨s1, s2, s3, s4, E3, E4⟩ | ⟨s1, s2, s3, s4, E3, E4⟩⟩
            all_goals (
              have G1 := Lib.hid E1
              have G2 := Lib.hid E2
              have G3 := Lib.hid E3
              have G4 := Lib.hid E4
              clear E1 E2 E3 E4
              go_wp2_with fail
              refine (show Calls _ _ _ _ _ from HPT.out _).mono ?_
              rintro e w3 ⟨rfl, rfl⟩
              go_wp2_with fail
              go_roundw
              case rel => exact ⟨k + 1, by omega, by go_num, by rw [G1.out], by rw [G2.out], by rw [G3.out], by rw [G4.out], HM1, HM2, HK⟩
              case measure => simp [intOf]; omega)
          · obtain rfl : k = 8 := by omega
            have hE1 : lowO l i 8 = lowO l (i + 1) 0 := by unfold lowO; rw [seen_over HIN.out]
            have hE2 : topO l h i 8 = topO l h (i + 1) 0 := by unfold topO; rw [seen_over HIN.out]
            rw [hE1] at HN1 ⊢
            rw [hE2] at HN2 ⊢
            clear hE1 hE2 hk8
            have t1 : decide (((8 : Nat) : Int) < 8) = false := by decide
            go_wp2_with fail
            go_roundw
            case rel => exact ⟨i + 1, by omega, by go_num, rfl, rfl, rfl, rfl, HN1, HN2, HK⟩
            case measure => simp [intOf]; omega
      · obtain rfl : i = N := by omega
        have hE : ownerL l h = if nodeO (topO l h i 0) = 0 then nodeO (lowO l i 0) else nodeO (topO l h i 0) := by
          have e1 : lowO l i 0 = (pts l).head? := by unfold lowO; rw [← HN.out, seen_all, fold_all]
          have e2 : topO l h i 0 = (pts l).find? fun x => decide (h ≤ x.place) := by unfold topO; rw [← HN.out, seen_all, fold_over]
          have h2 := HN2.out
          unfold ownerL ownO
          rw [e1, e2, if_pos HB.out]
          rw [e2] at h2
          cases hf : (pts l).find? fun x => decide (h ≤ x.place) with
          | none => rfl
          | some x =>
            rw [hf] at h2
            have := h2 x rfl
            show nodeO (some x) = if nodeO (some x) = 0 then _ else nodeO (some x)
            rw [if_neg (by show ¬ x.node = 0; omega)]
        have HE := Lib.hid hE
        generalize nodeO (topO l h i 0) = a at HE
        generalize nodeO (lowO l i 0) = a1 at HE
        generalize placeO (topO l h i 0) = a2
        generalize placeO (lowO l i 0) = a3
        clear hE hiN
        have hcs : (a == 0) = true ∨ (a == 0) = false := by cases (a == 0) <;> simp
        rcases hcs with t1 | t1
        · have HE2 := Lib.hid (show ownerL l h = a1 from by rw [HE.out, if_pos (by simpa using t1)])
          clear HE
          go_wp2_with fail
          go_ret
          exact ⟨by rw [HE2.out]; rfl, HK.out⟩
        · have HE2 := Lib.hid (show ownerL l h = a from by rw [HE.out, if_neg (by simpa using t1)])
          clear HE
          go_wp2_with fail
          go_ret
          exact ⟨by rw [HE2.out]; rfl, HK.out⟩

end Go.Proofs.Ytcmblihlbmclaaa
