/-
  THE WALK OF DevTwice, whatever the program's device is made of.
-/
import Derived.Test.YtgmgojpkjchmcaaDevOne
import Derived.Test.YtgmgojpkjchmcaaDevTwo
import Derived.StillTailTactics
import Derived.Outline
namespace Go.Proofs.Ytgmgojpkjchmcaa.devTwice
open Go Go.RowKit Go.Joins

theorem twice_now (s : SDev) (a b : List Bool) : ((s.crash a).crash b).now = (s.crash a).now := by
  have h : (s.crash a).loose = [] := by
    unfold SDev.loose trues SDev.crash
    refine List.filter_eq_nil_iff.2 fun i hi => ?_
    simp only [List.length_replicate, List.mem_range] at hi
    simp [List.getD_eq_getElem?_getD, hi]
  show keptN (s.crash a) b (min (s.crash a).loose.length b.length) = _
  rw [h]
  simp only [List.length_nil, Nat.zero_min, keptN_zero]
  rfl
theorem twice_readL (s : SDev) (a b : List Bool) (i : Int) : ((s.crash a).crash b).readL i = (s.crash a).readL i := by
  unfold SDev.readL; rw [twice_now]

set_option maxRecDepth 100000 in
set_option maxHeartbeats 4000000 in
theorem walk (D : DevOK) (w : World) (A : Option Addr) (cap : Nat) (l : List OpD) (h1 : l.length ≤ cap) (h2 : cap ≤ maxLen) (hO : OpsAt w A (fun b => b < w.heap.size) l)
    (K : Option Addr) (kc : Nat) (kl : List Bool) (a1 : kl.length ≤ kc) (a2 : kc ≤ maxLen) (hK : Row w K (fun b => b < w.heap.size) (kl.map Value.bool))
    (J : Option Addr) (jc : Nat) (jl : List Bool) (b1 : jl.length ≤ jc) (b2 : jc ≤ maxLen) (hJ : Row w J (fun b => b < w.heap.size) (jl.map Value.bool)) :
    Calls Try.prog 8 #[.slice A l.length cap, .slice K kl.length kc, .slice J jl.length jc] w fun e w' => e = .returned (.bool true) ∧ Below w.heap.size w w' := by
  have HO := Lib.hid hO
  have HKR := Lib.hid hK
  have HJR := Lib.hid hJ
  unfold maxLen at h2 a2 b2
  clear hO hK hJ
  have hcs : (decide (20 < (kl.length : Int)) = true) ∨ (decide (20 < (kl.length : Int)) = false ∧ decide (20 < (jl.length : Int)) = true) ∨ (decide (20 < (kl.length : Int)) = false ∧ decide (20 < (jl.length : Int)) = false) := by
    cases decide (20 < (kl.length : Int)) <;> cases decide (20 < (jl.length : Int)) <;> simp
  go_enter Try.func8, Try.ntmps8
  go_wp2_with fail
  refine (begun_any D w).mono ?_
  rintro e w1 ⟨rfl, hk1⟩
  have HK1 := Lib.hid hk1
  clear hk1
  rcases hcs with c1 | ⟨c1, c2⟩ | ⟨c1, c2⟩
  · go_wp2_with fail
    go_ret
    exact ⟨rfl, HK1.out.below⟩
  · go_wp2_with fail
    go_ret
    exact ⟨rfl, HK1.out.below⟩
  · go_wp2_with fail
    refine (D.new _ 10 (by decide) (by decide)).mono ?_
    rintro e w2 ⟨p, F, rfl, hr, hge, hk2⟩
    have HN := Lib.hid (show One D w w2 p F (SDev.new (clampN 10)) from ⟨hr, fun b hb => Nat.le_trans HK1.out.size (hge b hb), HK1.out.trans hk2⟩)
    have hs0 : (SDev.new (clampN 10)).calls ≤ 0 := Nat.le_refl _
    have HS0 := Lib.hid hs0
    clear hr hge hk2 hs0 c1 c2
    go_wp2_with fail
    go_loopw [9] (fun i wr => ∃ (k : Nat) (F : Foot) (s : SDev), k ≤ l.length ∧ k ≤ 30 ∧ i = .int .i64 k ∧ s.calls ≤ k ∧ One D w wr p F s) (fun i _ => 30 - (intOf i).toNat)
    case atStart => exact ⟨0, F, _, Nat.zero_le _, by omega, rfl, HS0.out, HN.out⟩
    case round =>
      clear HN HS0
      obtain ⟨k, F, s, hkl, hk30, rfl, hcalls, hN⟩ := hrel
      have HN := Lib.hid hN
      clear hN
      have hex : (k < l.length ∧ k < 30) ∨ (k < l.length ∧ ¬ (k : Int) < 30) ∨ ¬ (k : Int) < (l.length : Int) := by omega
      rcases hex with ⟨hl, h30⟩ | ⟨hl, h30⟩ | hl
      · have h30' : (k : Int) < 30 := by omega
        obtain ⟨b, o, hAe, -, x0, x1, x2, -, hfit⟩ := HO.out k hl
        cases hAe
        replace x0 := HN.out.kp.cell x0 trivial
        replace x1 := HN.out.kp.cell x1 trivial
        replace x2 := HN.out.kp.cell x2 trivial
        generalize l[k] = x at x0 x1 x2 hfit
        obtain ⟨xk, xi, ⟨BA, Bc, Bl⟩, KA, kc', kl'⟩ := x
        simp only [Part.val] at x0 x1 x2
        have f2 := hfit.i1
        have f3 := hfit.b.len
        have f4 := hfit.b.cap
        have f5 := Lib.hid hfit.b.none
        have f6 := Lib.hid hfit.b.row
        simp only at f2 f3 f4
        unfold maxLen at f4
        clear hfit
        have hkk : ((xk == 0) = true ∧ decide ((Bl.length : Int) ≤ 64) = true) ∨ ((xk == 0) = true ∧ decide ((Bl.length : Int) ≤ 64) = false ∧ (xk == 1) = false) ∨ ((xk == 0) = false ∧ (xk == 1) = true) ∨ ((xk == 0) = false ∧ (xk == 1) = false) := by
          by_cases z : xk = 0
          · subst z; cases decide ((Bl.length : Int) ≤ 64) <;> simp
          · have : (xk == 0) = false := by simpa using z
            rw [this]; cases (xk == 1) <;> simp
        rcases hkk with ⟨z0, z1⟩ | ⟨z0, z1, z2⟩ | ⟨z0, z1⟩ | ⟨z0, z1⟩
        · go_wp2_with fail
          go_still_tail 11, (by kernel_rfl)
          change wpList _ _ _ _ _ wr.drew
          have HND := Lib.hid (HN.out.keep ((Keeps.refl _ _).drew))
          replace x1 := ((Keeps.refl (fun _ => True) wr).drew).cell x1 trivial
          replace x2 := ((Keeps.refl (fun _ => True) wr).drew).cell x2 trivial
          clear HN x0
          generalize wr.drew = wd at HND x1 x2 ⊢
          go_wp2_with fail
          refine (D.write wd p F s HND.out.d xi BA Bc (fun b => b < w.heap.size) Bl f2.1 f2.2 (f6.out.keep (HND.out.kp.mono fun _ _ _ => trivial)) (fun b hb hF => by have := HND.out.gf b hF; omega) f3 (by unfold maxLen; omega) f5.out (by omega)).mono ?_
          rintro e w3 ⟨rfl, F3, hr, hs⟩
          have HO3 := Lib.hid (HND.out.step hr hs)
          have hcl := writeZ_calls s xi Bl
          generalize (s.writeZ xi Bl).2 = s3 at HO3 hcl
          generalize (s.writeZ xi Bl).1 = x3
          clear hr hs HND
          go_wp2_with fail
          go_roundw
          case rel => exact ⟨k + 1, F3, s3, by omega, by omega, by go_num, by omega, HO3.out⟩
          case measure => simp [intOf]; omega
        · go_wp2_with fail
          go_roundw
          case rel => exact ⟨k + 1, F, s, by omega, by omega, by go_num, by omega, HN.out⟩
          case measure => simp [intOf]; omega
        · go_wp2_with fail
          refine (D.flush _ p F s HN.out.d (by omega)).mono ?_
          rintro e w3 ⟨rfl, F3, hr, hs⟩
          have HO3 := Lib.hid (HN.out.step hr hs)
          have hcl : s.flush.calls ≤ s.calls + 1 := Nat.le_refl _
          generalize s.flush = s3 at HO3 hcl
          clear hr hs HN
          go_wp2_with fail
          go_roundw
          case rel => exact ⟨k + 1, F3, s3, by omega, by omega, by go_num, by omega, HO3.out⟩
          case measure => simp [intOf]; omega
        · go_wp2_with fail
          go_roundw
          case rel => exact ⟨k + 1, F, s, by omega, by omega, by go_num, by omega, HN.out⟩
          case measure => simp [intOf]; omega
      all_goals
        go_wp2_with fail
        refine (D.crash _ p F s HN.out.d K kc (fun b => b < w.heap.size) kl (HKR.out.keep (HN.out.kp.mono fun _ _ _ => trivial)) (by unfold maxLen; omega)).mono ?_
        rintro e w4 ⟨q, Q, rfl, hr, -, -, hk4⟩
        have HK4 := Lib.hid (HN.out.kp.trans hk4)
        have HR4 := Lib.hid hr
        have hrl := twice_readL s kl jl
        generalize s.crash kl = c at hrl HR4
        have HRL := Lib.hid hrl
        clear hr hk4 HN hrl
        go_wp2_with fail
        refine (D.crash _ q Q c HR4.out J jc (fun b => b < w.heap.size) jl (HJR.out.keep (HK4.out.mono fun _ _ _ => trivial)) (by unfold maxLen; omega)).mono ?_
        rintro e w5 ⟨q5, Q5, rfl, hr5, -, -, hk5⟩
        have HK5 := Lib.hid (HK4.out.trans hk5)
        have HR5 := Lib.hid (D.keep HR4.out (hk5.mono fun _ _ _ => trivial))
        have HS5 := Lib.hid hr5
        generalize c.crash jl = e5 at HRL HS5
        clear hr5 hk5 HR4 HK4
        go_wp2_with fail
        go_loopw [12] (fun i wr => ∃ (j : Nat), j ≤ 10 ∧ i = .int .i64 j ∧ Keeps (fun _ => True) w5 wr) (fun i _ => 10 - (intOf i).toNat)
        case atStart => exact ⟨0, Nat.zero_le _, rfl, Keeps.refl _ _⟩
        case round =>
          obtain ⟨j, hj, rfl, hkp⟩ := hrel
          by_cases hl : j < 10
          · have hl' : (j : Int) < 10 := by omega
            have HKP := Lib.hid hkp
            clear hkp
            go_wp2_with fail
            refine (D.read _ q Q c (D.keep HR5.out (HKP.out.mono fun _ _ _ => trivial)) (j : Int) (by omega) (by omega)).mono ?_
            rintro e w6 ⟨v6, rfl, ho6, hk6⟩
            have HK6 := Lib.hid (HKP.out.trans hk6)
            obtain ⟨A6, c6, rfl, -, r6⟩ := own_slice ho6
            have R6 := Lib.hid r6
            clear ho6 hk6 r6 HKP
            go_wp2_with fail
            refine (D.read _ q5 Q5 e5 (D.keep HS5.out (HK6.out.mono fun _ _ _ => trivial)) (j : Int) (by omega) (by omega)).mono ?_
            rintro e w7 ⟨v7, rfl, ho7, hk7⟩
            rw [HRL.out] at ho7
            obtain ⟨A7, c7, rfl, -, r7⟩ := own_slice ho7
            have HK7 := Lib.hid (HK6.out.trans hk7)
            have k1 : (convert 28 9 (.slice A6 (c.readL (j : Int)).length c6)).run Try.prog w7 = .ok (.string (txt (c.readL (j : Int)))) w7 :=
              (R6.out.keep (hk7.mono fun _ _ _ => trivial)).to_string Try.underlying28 Try.underlying5 Try.underlying9 _ _ rfl
            have k2 : (convert 28 9 (.slice A7 (c.readL (j : Int)).length c7)).run Try.prog w7 = .ok (.string (txt (c.readL (j : Int)))) w7 :=
              r7.to_string Try.underlying28 Try.underlying5 Try.underlying9 _ _ rfl
            clear ho7 hk7 r7 R6 HK6
            generalize e5.readE (j : Int) = y7
            generalize c.readE (j : Int) = y6
            generalize c.readL (j : Int) = ll at k1 k2 ⊢
            go_wp2_with fail
            go_roundw
            case rel => exact ⟨j + 1, by omega, by go_num, HK7.out⟩
            case measure => simp [intOf]; omega
          · have hl' : ¬ (j : Int) < 10 := by omega
            have HKE := Lib.hid (HK5.out.trans hkp)
            clear hkp
            go_wp2_with fail
            go_ret
            exact ⟨rfl, HKE.out.below⟩
end Go.Proofs.Ytgmgojpkjchmcaa.devTwice
