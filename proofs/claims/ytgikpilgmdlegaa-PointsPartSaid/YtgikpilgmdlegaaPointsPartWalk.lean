/-
  THE WALK OF PointsPart, however the program sorts.
-/
import Derived.Test.YtgikpilgmdlegaaPtBegun
import Derived.Test.YtgikpilgmdlegaaPtRow
import Derived.Test.YtgikpilgmdlegaaPtNodes
namespace Go.Proofs.Ytgikpilgmdlegaa.pointsPart
open Go Go.RowKit Go.Joins

theorem part_next {L : List P2} {n : Int} {k : Nat} (hk : k < L.length) : (L.take (k + 1)).filter (fun x => x.node == n) = (L.take k).filter (fun x => x.node == n) ++ (if L[k].node == n then [L[k]] else []) := by
  rw [List.take_succ_eq_append_getElem hk, List.filter_append]
  congr 1
  rw [List.filter_cons]; rfl

set_option maxRecDepth 100000 in
set_option maxHeartbeats 8000000 in
theorem walk (S : PointsOK) (w : World) (hT : S.T w) (A : Option Addr) (c : Nat) (l : List Int) (h1 : l.length ≤ c) (h2 : c ≤ maxLen) (hA : A = none → c = 0) (hr : Row w A (fun b => b < w.heap.size) (l.map (Value.int .i64))) (n : Int) :
    Calls Try.prog 5 #[.slice A l.length c, .int .i64 n] w fun e w' => e = .returned (.bool true) ∧ Below w.heap.size w w' := by
  have HT := Lib.hid hT
  have HR := Lib.hid (show ∀ w', Kp w w' → Row w' A (fun _ => True) ((l.take 8).map (Value.int .i64)) from fun w' hk => by
    rw [List.map_take]
    exact Row.take ((hr.mono fun _ _ _ => trivial).keep hk))
  have HA := Lib.hid hA
  have hm : (l.take 8).length = min l.length 8 := by rw [List.length_take]; omega
  have h3 : (l.take 8).length ≤ c := by omega
  clear hT hr hA
  go_enter Try.func5, Try.ntmps5
  go_wp2_with fail
  refine (begun13 S w HT.out).mono ?_
  rintro e w1 ⟨rfl, hk⟩
  have HK1 := Lib.hid hk
  clear hk
  go_wp2_with fail
  refine (cut13 A l.length c w1 h1 h2 HA.out).mono ?_
  rintro e w' ⟨rfl, rfl⟩
  rw [← hm]
  have hl8 : (l.take 8).length ≤ 8 := by omega
  clear hm h1 HA
  generalize l.take 8 = l8 at HR h3 hl8 ⊢
  go_wp2_with fail
  refine (nodes_any w1 A c l8 (HR.out w1 HK1.out) h3 h2).mono ?_
  rintro e w2 ⟨rfl, hk⟩
  have HK2 := Lib.hid (HK1.out.trans hk)
  clear hk HK1
  cases hn : nodesB l8 with
  | false =>
    go_wp2_with fail
    go_ret
    exact ⟨rfl, HK2.out.below⟩
  | true =>
    have HNB := Lib.hid hn
    clear hn
    go_wp2_with fail
    refine (has_any w2 A c l8 n (HR.out w2 HK2.out) h3 h2).mono ?_
    rintro e w3 ⟨rfl, hk⟩
    have HK3 := Lib.hid (HK2.out.trans hk)
    clear hk HK2
    cases hh : hasN l8 n with
    | false =>
      go_wp2_with fail
      go_ret
      exact ⟨rfl, HK3.out.below⟩
    | true =>
      have HN := Lib.hid (has_mem hh)
      have H1 := Lib.hid (show ofP [n] = pts [n] from if_pos (nodes_one HNB.out HN.out))
      have H8 := Lib.hid (show ofP l8 = pts l8 from if_pos HNB.out)
      have HF := Lib.hid (pts_filter HNB.out HN.out)
      have HPL := Lib.hid (show (pts [n]).length = 8 from pts_len [n])
      have HPN := Lib.hid (show ∀ (j : Nat) (hj : j < (pts [n]).length), (pts [n])[j].node = n from fun j hj => by
        obtain ⟨m, hm, hx⟩ := pts_mem.1 (List.getElem_mem hj)
        rw [ptsOf_node hx]; simpa using hm)
      clear hh
      go_wp2_with fail
      refine (show Calls _ _ _ _ _ from S.of _ _ 1 [n] (S.tk HT.out (HK3.out.alloc _)) (new_nodes w3 [n] _ rfl) (Nat.le_refl 1) (by decide)).mono ?_
      rintro e w4 ⟨B, cb, rfl, hr, hb1, hb2, hk⟩
      rw [H1.out] at hr hb1 ⊢
      generalize pts [n] = P at hr hb1 HF HPL HPN ⊢
      rw [HPL.out] at hb1 ⊢
      have HK4 := Lib.hid (show Kp w w4 from (HK3.out.alloc _).trans hk)
      have HB := Lib.hid (show ∀ w', Kp w4 w' → PRow w' B (fun _ => True) P from fun w' hk => Row.keep hr hk)
      clear hk hr HK3 H1
      unfold maxLen at hb2
      go_wp2_with fail
      refine (S.of w4 A c l8 (S.tk HT.out HK4.out) (HR.out w4 HK4.out) h3 h2).mono ?_
      rintro e w5 ⟨D, cd, rfl, hr, hd1, hd2, hk⟩
      rw [H8.out] at hr hd1 ⊢
      have hL64 : (pts l8).length ≤ 64 := by rw [pts_len]; omega
      generalize pts l8 = L at hr hd1 HF hL64 ⊢
      have HK45 := Lib.hid hk
      have HK5 := Lib.hid (show Kp w w5 from HK4.out.trans hk)
      have HD := Lib.hid (show ∀ w', Kp w5 w' → PRow w' D (fun _ => True) L from fun w' hk => Row.keep hr hk)
      clear hk hr HK4 H8 HR HNB HN
      unfold maxLen at hd2 h2
      go_wp2_with fail
      go_loopw [7, 9] (fun v i wr => ∃ (k q : Nat), k ≤ L.length ∧ i = .int .i64 (k : Int) ∧ q ≤ k ∧ Hid (q = ((L.take k).filter (fun x => x.node == n)).length) ∧ Hid (wr.ownsRow w5.heap.size 31 2 v q (prow ((L.take k).filter (fun x => x.node == n)))) ∧ Hid (Kp w5 wr)) (fun _ i _ => L.length - (intOf i).toNat)
      case atStart => exact ⟨0, 0, Nat.zero_le _, rfl, Nat.le_refl _, Lib.hid rfl, Lib.hid (World.ownsRow_nil _ _ _ _), Lib.hid (Keeps.refl _ _)⟩
      case round =>
        obtain ⟨k, q, hk, rfl, hqk, hq, hown, hkp⟩ := hrel
        obtain ⟨A2, c2, rfl, hc2, hcm2, hA2⟩ := own_form2 hown.out
        unfold maxLen at hcm2
        by_cases hkm : k < L.length
        · have t1 : decide ((k : Int) < (L.length : Int)) = true := by simp; omega
          have t1' : decide (k < L.length) = true := by simp; omega
          obtain ⟨b, o, rfl, -, c0, c1⟩ := (HD.out wr hkp.out).at_ hkm
          have HNX := Lib.hid (part_next (n := n) hkm)
          generalize L[k] = x at c0 c1 HNX
          cases hx : (x.node == n) with
          | false =>
            have hx' := hx
            have HQ := Lib.hid (show q = ((L.take (k + 1)).filter (fun x => x.node == n)).length from by rw [HNX.out, hx']; simpa using hq.out)
            have HO := Lib.hid (show wr.ownsRow w5.heap.size 31 2 (.slice A2 q c2) q (prow ((L.take (k + 1)).filter (fun x => x.node == n))) from by rw [HNX.out, hx']; simpa using hown.out)
            clear hx' HNX hq hown hA2
            go_wp2_with fail
            go_roundw
            case rel => exact ⟨k + 1, q, by omega, by go_num, by omega, HQ, HO, hkp⟩
            case measure => simp [intOf]; omega
          | true =>
            have hx' := hx
            have HQ := Lib.hid (show q + 1 = ((L.take (k + 1)).filter (fun x => x.node == n)).length from by rw [HNX.out, hx', List.length_append, ← hq.out]; rfl)
            have HE := Lib.hid (show prow ((L.take (k + 1)).filter (fun x => x.node == n)) = prow ((L.take k).filter (fun x => x.node == n)) ++ (pcells x).toList from by rw [HNX.out, hx', if_pos rfl, prow_snoc])
            have hsrc := src_pt wr x _ rfl 1 31
            unfold pcells at hsrc
            have HSRC := Lib.hid hsrc
            clear hx' HNX hsrc
            go_wp2_with (at_builtin; refine pt_elem.list_append rfl (.tmp 43) (.tmp 48) _ rfl rfl (hown.out.alloc _) rfl HSRC.out ?c3 ?c4 ?c5 ?_)
            case c3 => unfold maxLen; omega
            case c4 => omega
            case c5 => have := hkp.out.size; simp; omega
            intro v3 w6 ho6 hg6 hb6
            have HK6 := Lib.hid (show Kp w5 w6 from (hkp.out.alloc _).grown hg6 fun j hj => (hown.out.lt j hj).1)
            have HO6 := Lib.hid (show w6.ownsRow w5.heap.size 31 2 v3 (q + 1) (prow ((L.take (k + 1)).filter (fun x => x.node == n))) from by rw [HE.out]; exact ho6)
            clear ho6 hg6 hb6 HSRC HE hown hq hkp hA2
            go_wp2_with fail
            go_roundw
            case rel => exact ⟨k + 1, q + 1, by omega, by go_num, by omega, HQ, HO6, HK6⟩
            case measure => simp [intOf]; omega
        · have t1 : decide ((k : Int) < (L.length : Int)) = false := by simp; omega
          have t1' : decide (k < L.length) = false := by simp; omega
          have hq' := hq.out
          have hown' := hown.out
          rw [List.take_of_length_le (by omega), HF.out] at hq' hown'
          rw [HPL.out] at hq'
          subst hq'
          have HG := Lib.hid (show ∀ w', Kp wr w' → PRow w' A2 (fun _ => True) P from fun w' hk => Row.keep (PRow.of_own hown' HPL.out.symm) hk)
          have HKR := Lib.hid (HK45.out.trans hkp.out)
          have HKW := Lib.hid (HK5.out.trans hkp.out)
          clear hown' hown hq hkp hA2 HF HD HK45 HK5
          go_wp2_with fail
          go_loopw [10] (fun i wx => ∃ k : Nat, k ≤ 8 ∧ i = .int .i64 (k : Int) ∧ Hid (Kp wr wx)) (fun i _ => 8 - (intOf i).toNat)
          case atStart => exact ⟨0, Nat.zero_le _, rfl, Lib.hid (Keeps.refl _ _)⟩
          case round =>
            clear t1 t1' hkm hk hqk
            obtain ⟨j, hj, rfl, hkx⟩ := hrel
            by_cases hj8 : j < 8
            · have t2 : decide ((j : Int) < 8) = true := by simp; omega
              have t2' : decide (j < 8) = true := by simp; omega
              have hjl : j < P.length := by rw [HPL.out]; exact hj8
              obtain ⟨b, o, rfl, -, c0, c1⟩ := (HB.out wr (HKR.out.trans hkx.out)).at_ hjl
              obtain ⟨b2, o2, rfl, -, d0, d1⟩ := (HG.out wr hkx.out).at_ hjl
              have hxn := HPN.out j hjl
              generalize P[j] = x at c0 c1 d0 d1 hxn
              obtain ⟨xp, xn⟩ := x
              simp only at c0 c1 d0 d1 hxn
              subst hxn
              go_wp2_with fail
              go_quiet (fail)
              go_wp2_with fail
              go_roundw
              case rel => exact ⟨j + 1, by omega, by go_num, Lib.hid (hkx.out.drewN _)⟩
              case measure => simp [intOf]; omega
            · have t2 : decide ((j : Int) < 8) = false := by simp; omega
              have t2' : decide (j < 8) = false := by simp; omega
              go_wp2_with fail
              go_ret
              exact ⟨rfl, (HKW.out.trans hkx.out).below⟩

end Go.Proofs.Ytgikpilgmdlegaa.pointsPart
