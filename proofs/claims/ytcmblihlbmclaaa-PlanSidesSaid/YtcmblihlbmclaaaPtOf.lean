/-
  THE PROGRAM's POINTS: Of (layer 13).
-/
import Derived.Test.YtcmblihlbmclaaaPtSort
import Derived.Test.YtcmblihlbmclaaaMake0
namespace Go.Proofs.Ytcmblihlbmclaaa
open Go Go.RowKit Go.Joins

theorem kp_but {a b c : World} {g : Nat} (h : Kp a b) (k : Keeps (fun i => i ≠ g) b c) (hg : a.heap.size ≤ g) : Kp a c :=
  ⟨k.os.trans h.os, k.tape.trans h.tape, k.output.trans h.output, Nat.le_trans h.size k.size, fun i _ hi =>
    (k.block i (by omega) (Nat.lt_of_lt_of_le hi h.size)).trans (h.block i trivial hi)⟩
theorem flat8_len (l : List Int) : (l.flatMap ptsOf).length = 8 * l.length := by
  induction l with
  | nil => rfl
  | cons x l ih => rw [List.flatMap_cons, List.length_append, ih]; show 8 + _ = 8 * (l.length + 1); omega
theorem ptsOf_more {n : Int} {j : Nat} (h : j < 8) : (ptsOf n).take (j + 1) = (ptsOf n).take j ++ [⟨placeZ n (j : Int), n⟩] := by
  have : j = 0 ∨ j = 1 ∨ j = 2 ∨ j = 3 ∨ j = 4 ∨ j = 5 ∨ j = 6 ∨ j = 7 := by omega
  rcases this with rfl | rfl | rfl | rfl | rfl | rfl | rfl | rfl <;> rfl

set_option maxRecDepth 100000 in
set_option maxHeartbeats 1000000 in
theorem pof_no (w : World) (A : Option Addr) (c : Nat) (l : List Int) (hr : Row w A (fun _ => True) (l.map (Value.int .i64))) (hl : l.length ≤ c) (hc : c ≤ maxLen) (hn : nodesB l = false) :
    Calls Try.prog 25 #[.slice A l.length c] w fun e w' => e = .returned (.slice none 0 0) ∧ Kp w w' := by
  have HM := Lib.hid (may_any w A c l hr hl hc)
  rw [hn] at HM
  clear hr hn
  go_enter Try.func25, Try.ntmps25
  go_wp2_with fail
  refine (show Calls _ _ _ _ _ from HM.out).mono ?_
  rintro e w1 ⟨rfl, hk⟩
  have HK := Lib.hid hk
  clear hk HM
  go_wp2_with fail
  go_ret
  exact ⟨rfl, HK.out⟩

set_option maxRecDepth 100000 in
set_option maxHeartbeats 1000000 in
theorem pof_yes (w : World) (A : Option Addr) (c : Nat) (l : List Int) (hr : Row w A (fun _ => True) (l.map (Value.int .i64))) (hl : l.length ≤ c) (hc : c ≤ maxLen) (hn : nodesB l = true) :
    Calls Try.prog 25 #[.slice A l.length c] w fun e w' => ∃ B cb, e = .returned (.slice B (8 * l.length) cb) ∧ PRow w' B (fun b => w.heap.size ≤ b) (pts l) ∧ 8 * l.length ≤ cb ∧ cb ≤ maxLen ∧ Kp w w' := by
  have HM := Lib.hid (may_any w A c l hr hl hc)
  have h5 := nodes_five hn
  have h0 := (nodesB_iff.1 hn).1
  rw [hn] at HM
  have HR := Lib.hid hr
  unfold maxLen at hc
  obtain ⟨m, hm⟩ : ∃ m, l.length = m := ⟨_, rfl⟩
  rw [hm] at hl h5 h0 HM ⊢
  have HL := Lib.hid hm
  clear hr hn hm
  go_enter Try.func25, Try.ntmps25
  go_wp2_with fail
  refine (show Calls _ _ _ _ _ from HM.out).mono ?_
  rintro e w1 ⟨rfl, hk⟩
  have HK := Lib.hid hk
  have hs1 := hk.size
  clear hk HM
  go_wp2_with (refine list_empty rfl (.const (.int .i64 0)) (.tmp 12) 49 rfl pt_elem .i64 .i64 (m * 8) rfl rfl (by omega) (by unfold maxLen; omega) ?_)
  intro w2 hown hg
  have HK2 := Lib.hid (HK.out.trans (Keeps.of_grown hg fun _ h => by cases h))
  have HO := Lib.hid (own_base hown hs1)
  clear hown hg HK
  go_wp2_with fail
  go_loopw [3, 16] (fun v i wr => ∃ (k : Nat) (A1 : Option Addr) (cc : Nat), k ≤ m ∧ i = .int .i64 (k : Int) ∧ v = .slice A1 (8 * k) cc ∧ Hid (wr.ownsRow w.heap.size 59 2 v (8 * k) (prow ((l.take k).flatMap ptsOf))) ∧ Hid (Kp w wr)) (fun _ i _ => m - (intOf i).toNat)
  case atStart => exact ⟨0, some ⟨w1.heap.size, 0, none⟩, m * 8, Nat.zero_le _, rfl, rfl, HO, HK2⟩
  case round =>
    clear HO HK2
    obtain ⟨k, A1, cc, hk, rfl, rfl, HO, HW⟩ := hrel
    by_cases hlt : k < m
    · have hlt' : (k : Int) < (m : Int) := by omega
      have hkl : k < l.length := by rw [HL.out]; exact hlt
      obtain ⟨b, o, rfl, -, c0⟩ := HR.out.at_ (k := k) (by simpa using hkl)
      rw [List.getElem_map] at c0
      replace c0 := HW.out.cell c0 trivial
      have HT := Lib.hid (show (l.take (k + 1)).flatMap ptsOf = (l.take k).flatMap ptsOf ++ ptsOf l[k] from by
        rw [List.take_succ_eq_append_getElem hkl, List.flatMap_append]; simp)
      generalize l[k] = x at c0 HT
      generalize hPk : (l.take k).flatMap ptsOf = Pk at HO HT
      clear hPk
      go_wp2_with fail
      go_loopw [3, 20] (fun v i wr => ∃ (j : Nat) (A1 : Option Addr) (cc : Nat), j ≤ 8 ∧ i = .int .i64 (j : Int) ∧ v = .slice A1 (8 * k + j) cc ∧ Hid (wr.ownsRow w.heap.size 59 2 v (8 * k + j) (prow (Pk ++ (ptsOf x).take j))) ∧ Hid (Kp w wr)) (fun _ i _ => 8 - (intOf i).toNat)
      case atStart => exact ⟨0, A1, cc, Nat.zero_le _, rfl, rfl, by simpa using HO, HW⟩
      case round =>
        clear HO HW
        obtain ⟨j, A2, c2, hj, rfl, rfl, HO, HW⟩ := hrel
        by_cases hj8 : j < 8
        · have hj8' : (j : Int) < 8 := by omega
          have HP := fun w1 => Lib.hid (show Calls Try.prog 37 #[.int .i64 x, .int .i64 (j : Int)] w1 fun e w' => e = .returned (.int .u64 (placeZ x (j : Int))) ∧ w1 = w' from point_any x (j : Int) w1)
          have HQ := Lib.hid (show prow (Pk ++ (ptsOf x).take (j + 1)) = prow (Pk ++ (ptsOf x).take j) ++ [Value.int .u64 (placeZ x (j : Int)), .int .i64 x] from by
            rw [ptsOf_more hj8, ← List.append_assoc, prow_snoc]; rfl)
          generalize placeZ x (j : Int) = z at HP HQ
          generalize prow (Pk ++ (ptsOf x).take j) = R at HO HQ
          have hsrc := Lib.hid (src_pt wr ⟨z, x⟩ wr.heap.size rfl 1 59)
          have hszr := HW.out.size
          have h63 : 8 * k + j + 1 ≤ maxLen := by unfold maxLen; omega
          have h16 : (8 * k + j + 1) * 16 ≤ 140737488355328 := by omega
          go_wp2_with (first | (go_at_call 37; refine (show Calls _ _ _ _ _ from (HP _).out).mono ?_; rintro e w' ⟨rfl, rfl⟩) | (at_builtin; refine pt_elem.list_append rfl (.tmp 23) (.tmp 29) _ rfl rfl (HO.out.alloc _) rfl hsrc.out ?c3 ?c4 ?c5 ?_))
          case c3 => exact h63
          case c4 => exact h16
          case c5 => simp; omega
          intro v3 w3 ho3 hg3 hb3
          have HK3 := Lib.hid (show Kp w w3 from ((HW.out.alloc _)).grown hg3 fun j hj => (HO.out.lt j hj).1)
          obtain ⟨A3, c3, rfl, -, -, -⟩ := own_form2 ho3
          have HO3 := Lib.hid (show w3.ownsRow w.heap.size 59 2 (.slice A3 (8 * k + (j + 1)) c3) (8 * k + (j + 1)) (prow (Pk ++ (ptsOf x).take (j + 1))) from by rw [HQ.out]; exact ho3)
          clear ho3 hg3 hb3 hsrc HO HW HP HQ h63 h16
          go_wp2_with fail
          go_roundw
          case rel => exact ⟨j + 1, A3, c3, hj8, by go_num, rfl, HO3, HK3⟩
          case measure => simp [intOf]; omega
        · obtain rfl : j = 8 := by omega
          have HO3 := Lib.hid (show wr.ownsRow w.heap.size 59 2 (.slice A2 (8 * (k + 1)) c2) (8 * (k + 1)) (prow ((l.take (k + 1)).flatMap ptsOf)) from by
            rw [HT.out]
            have := HO.out
            rwa [show (ptsOf x).take 8 = ptsOf x from rfl] at this)
          clear HO HT hj hj8
          go_wp2_with fail
          go_roundw
          case rel => exact ⟨k + 1, A2, c2, hlt, by go_num, rfl, HO3, HW⟩
          case measure => simp [intOf]; omega
    · obtain rfl : k = m := by omega
      have hlt' : ¬ ((k : Int) < (k : Int)) := by omega
      have ho := HO.out
      rw [show l.take k = l from by rw [← HL.out]; exact List.take_length] at ho
      obtain ⟨A4, c4, e4, hc1, hc2, hc3⟩ := own_form2 ho
      injection e4 with e1 e2 e3
      subst e1 e3
      obtain ⟨g, rfl⟩ := hc3 (by omega)
      have hfl := flat8_len l
      rw [HL.out] at hfl
      have hps : ∀ n, n = 8 * k → Calls Try.prog 38 #[.slice (some ⟨g, 0, none⟩) n cc, .func (.func 39) #[] #[]] wr fun e w' => e = .returned (.tuple #[]) ∧
          ∃ l', l'.Perm (l.flatMap ptsOf) ∧ Asc l' ∧ PRow w' (some ⟨g, 0, none⟩) (fun b => b = g) l' ∧ Keeps (fun b => b ≠ g) wr w' := by
        intro n hn
        rw [hn, ← hfl]
        rw [← hfl] at ho
        exact psort_any wr w.heap.size g cc _ _ ho (by omega)
      have HS := Lib.hid (hps _ rfl)
      have hg := (HO.out.lt g rfl).1
      have HG := Lib.hid hg
      clear ho HO hfl hps hg hc3 hlt
      go_wp2_with fail
      refine (show Calls _ _ _ _ _ from HS.out).mono ?_
      rintro e w4 ⟨rfl, l', hp, ha, hrow, hkeep⟩
      have HE := Lib.hid (show PRow w4 (some ⟨g, 0, none⟩) (fun b => w.heap.size ≤ b) (pts l) from by
        have e5 := pts_is ha hp
        subst e5
        exact hrow.mono fun b _ hb => by rw [hb]; exact HG.out)
      have HK4 := Lib.hid (kp_but HW.out hkeep HG.out)
      clear hp ha hrow hkeep HS
      go_wp2_with fail
      go_ret
      exact ⟨_, _, rfl, HE.out, hc1, hc2, HK4.out⟩

theorem pof_any (w : World) (A : Option Addr) (c : Nat) (l : List Int) (hr : Row w A (fun _ => True) (l.map (Value.int .i64))) (hl : l.length ≤ c) (hc : c ≤ maxLen) :
    Calls Try.prog 25 #[.slice A l.length c] w fun e w' => ∃ B cb, e = .returned (.slice B (ofP l).length cb) ∧ PRow w' B (fun _ => True) (ofP l) ∧ (ofP l).length ≤ cb ∧ cb ≤ maxLen ∧ Kp w w' := by
  cases hn : nodesB l with
  | false =>
    refine (pof_no w A c l hr hl hc hn).mono ?_
    rintro e w' ⟨rfl, hk⟩
    unfold ofP
    rw [hn]
    exact ⟨none, 0, rfl, Row.nil _ _ _, Nat.le_refl _, Nat.zero_le _, hk⟩
  | true =>
    refine (pof_yes w A c l hr hl hc hn).mono ?_
    rintro e w' ⟨B, cb, rfl, hrow, h1, h2, hk⟩
    unfold ofP
    rw [hn, if_pos rfl, pts_len]
    exact ⟨B, cb, rfl, hrow.mono fun _ _ _ => trivial, h1, h2, hk⟩

end Go.Proofs.Ytcmblihlbmclaaa
