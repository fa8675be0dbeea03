/-
  'Same' OF LAYER 4's LAWS: a device of the program and the reference's, of one state, are the same.
-/
import Derived.Test.YtgmgojpkjchmcaaDevIf
import Derived.Deep.QuietTactic
import Derived.BigQuiet
import Derived.WalkSpells
import Derived.Outline
namespace Go.Proofs.Ytgmgojpkjchmcaa
open Go Go.RowKit Go.Joins

set_option maxHeartbeats 2000000 in
theorem same_any (D : DevOK) (w : World) (p q : Nat) (F G : Foot) (s : SDev) (hd : D.rep w p F s) (hr : RAt w q G s) (hc : s.calls ≤ 1099511627776) :
    Calls Try.prog 20 #[.pointer (some ⟨p, 0, none⟩), .pointer (some ⟨q, 0, none⟩)] w fun e w' => e = .returned (.bool true) ∧ Keeps (fun _ => True) w w' := by
  have hok := hr.ok
  have hsm := hok.small
  obtain ⟨gn, cn, gf, cf, gd, cd, ns, fs, h1, h2, h3, h4, h5, h6, h7, h8, h9, m1, m2, m3, m4⟩ := hr.ex
  have c0 : w.cell? ⟨q, 0, none⟩ = some (.slice (some ⟨gn, 0, none⟩) s.now.length cn) := (cell_of_block h1 0).trans rfl
  have c3 : w.cell? ⟨q, 3, none⟩ = some (.int .i64 (s.calls : Int)) := (cell_of_block h1 3).trans rfl
  have HD := Lib.hid hd
  have HR := Lib.hid hr
  have hll : s.loose.length ≤ s.now.length := by have := trues_len s.dirty; rw [hok.dirty] at this; exact this
  clear h1 h2 h3 h4 h5 h6 h7 h8 h9 m1 m2 m3 m4 hd hr hok
  go_enter Try.func20, Try.ntmps20
  go_wp2
  go_quiet ((first
    | (go_at_call 21; exact Calls.quiet_of_same ((D.len _ p F s (D.keep HD.out ((Keeps.refl _ _).drewN _))).mono fun _ _ h => ⟨h.1, h.2.symm⟩))
    | (go_at_call 23; exact Calls.quiet_of_same ((D.calls _ p F s (D.keep HD.out ((Keeps.refl _ _).drewN _))).mono fun _ _ h => ⟨h.1, h.2.symm⟩))))
  go_wp2_with fail
  have HD1 := Lib.hid (D.keep HD.out ((Keeps.refl _ _).drewN nq))
  have HR1 := Lib.hid (HR.out.keep ((Keeps.refl _ _).drewN nq))
  refine (D.loose _ p F s HD1.out).mono ?_
  rintro e w2 ⟨v1, rfl, ho1, hk1⟩
  have HR2 := Lib.hid (HR1.out.keep (hk1.mono fun _ _ _ => trivial))
  have HD2 := Lib.hid (D.keep HD1.out (hk1.mono fun _ _ _ => trivial))
  have HK1 := Lib.hid (((Keeps.refl (fun _ => True) w).drewN nq).trans hk1)
  obtain ⟨A1, d1, rfl, -, r1⟩ := own_slice ho1
  have R1 := Lib.hid r1.lt
  clear ho1 hk1 r1
  go_wp2_with fail
  refine (rloose_any w2 q G s HR2.out).mono ?_
  rintro e w3 ⟨v2, rfl, ho2, hk2⟩
  have HR3 := Lib.hid (HR2.out.keep (hk2.mono fun _ _ _ => trivial))
  have HD3 := Lib.hid (D.keep HD2.out (hk2.mono fun _ _ _ => trivial))
  have HK3 := Lib.hid (HK1.out.trans hk2)
  have R1' := Lib.hid (R1.out.keep (hk2.mono fun _ _ _ => trivial))
  obtain ⟨A2, d2, rfl, -, r2⟩ := own_slice ho2
  have R2 := Lib.hid r2
  clear ho2 hk2 r2 R1
  go_wp2_with fail
  go_loopw [7] (fun i wr => ∃ j : Nat, j ≤ s.loose.length ∧ i = .int .i64 j ∧ Keeps (fun _ => True) w3 wr) (fun i _ => s.loose.length - (intOf i).toNat)
  case atStart => exact ⟨0, Nat.zero_le _, rfl, Keeps.refl _ _⟩
  case round =>
    obtain ⟨j, hj, rfl, hkp⟩ := hrel
    by_cases hl : j < s.loose.length
    · obtain ⟨b1, o1, e1, -, k1⟩ := (R1'.out.keep (hkp.mono fun _ _ _ => trivial)).at_ (k := j) (by simpa [nats] using hl)
      obtain ⟨b2, o2, e2, -, k2⟩ := (R2.out.keep (hkp.mono fun _ _ _ => trivial)).at_ (k := j) (by simpa [nats] using hl)
      cases e1
      cases e2
      rw [nats_at] at k1 k2
      generalize s.loose.getD j 0 = t at k1 k2
      have HKP := Lib.hid hkp
      clear hkp
      go_wp2_with fail
      go_quiet (fail)
      go_wp2_with fail
      go_roundw
      case rel => exact ⟨j + 1, by omega, by go_num, HKP.out.drewN _⟩
      case measure => simp [intOf]; omega
    · obtain rfl : j = s.loose.length := by omega
      have HR4 := Lib.hid (HR3.out.keep (hkp.mono fun _ _ _ => trivial))
      have HD4 := Lib.hid (D.keep HD3.out (hkp.mono fun _ _ _ => trivial))
      have HK4 := Lib.hid (HK3.out.trans hkp)
      clear hkp R1' R2 HR3 HD3 HK3
      obtain ⟨w4, rfl⟩ : ∃ w4 : World, w4 = wr := ⟨_, rfl⟩
      obtain ⟨gn, cn, gf, cf, ns, fs, hnl, -, hnm, -, hnf, -, hcells⟩ := HR4.out.parts
      have HC := Lib.hid hcells
      have HNF := Lib.hid hnf
      have HNL := Lib.hid hnl
      have HNM := Lib.hid hnm
      clear hcells hnf hnl hnm
      go_wp2_with fail
      go_loopw [8] (fun i wr => ∃ j : Nat, j ≤ s.now.length ∧ i = .int .i64 j ∧ Keeps (fun _ => True) w4 wr) (fun i _ => s.now.length - (intOf i).toNat)
      case atStart => exact ⟨0, Nat.zero_le _, rfl, Keeps.refl _ _⟩
      case round =>
        obtain ⟨j, hj, rfl, hkp⟩ := hrel
        have hc := HC.out wr hkp
        have hc0 := hc.1
        by_cases hl : j < s.now.length
        · have HD5 := Lib.hid (D.keep HD4.out (hkp.mono fun _ _ _ => trivial))
          have HKP := Lib.hid hkp
          have e1 : s.readE (j : Int) = 0 := by unfold SDev.readE; rw [if_neg (by omega)]
          have e2 : s.readL (j : Int) = s.now[j] := by unfold SDev.readL; rw [if_neg (by omega), Int.toNat_natCast, getD_mem _ _ _ hl]
          have E1 := Lib.hid e1
          have E2 := Lib.hid e2
          clear hkp hc e1 e2
          go_wp2_with fail
          refine (D.read _ p F s HD5.out (j : Int) (by omega) (by omega)).mono ?_
          rintro e w5 ⟨v, rfl, ho, hk⟩
          rw [E2.out] at ho
          rw [E1.out]
          obtain ⟨Av, cv, rfl, -, hrow⟩ := own_slice ho
          have hkp2 := HKP.out.trans hk
          have hjn : j < ns.length := by rw [HNL.out]; exact hl
          have hc := HC.out w5 hkp2
          have hc0 := hc.1
          have hcn := hc.2.2.1 j hjn
          have hfit := (HNF.out ns[j] (List.getElem_mem hjn)).row.keep (hkp2.mono fun _ _ _ => trivial)
          have hnl : ns[j].l = s.now[j] := by simp [← HNM.out]
          rw [hnl] at hfit
          simp only [Part.val] at hcn
          rw [hnl] at hcn
          generalize ns[j] = pt at hcn hfit hnl
          obtain ⟨pa, pc, pl⟩ := pt
          simp only at hcn hfit hnl
          clear hnl
          generalize s.now[j] = l at hcn hfit hrow
          have k1 : ∀ m, (convert 28 9 (.slice Av l.length cv)).run Try.prog (w5.drewN m) = .ok (.string (txt l)) (w5.drewN m) := fun m =>
            (hrow.keep ((Keeps.refl _ _).drewN m)).to_string Try.underlying28 Try.underlying5 Try.underlying9 _ _ rfl
          have k2 : ∀ m, (convert 28 9 (.slice pa l.length pc)).run Try.prog (w5.drewN m) = .ok (.string (txt l)) (w5.drewN m) := fun m =>
            (hfit.keep ((Keeps.refl _ _).drewN m)).to_string Try.underlying28 Try.underlying5 Try.underlying9 _ _ rfl
          have HKP2 := Lib.hid hkp2
          clear hc hkp2 hk ho hrow hfit
          go_wp2_with fail
          go_quiet (fail)
          go_wp2_with fail
          go_roundw
          case rel => exact ⟨j + 1, by omega, by go_num, HKP2.out.drewN _⟩
          case measure => simp [intOf]; omega
        · have HKP := Lib.hid hkp
          clear hkp hc
          go_wp2_with fail
          go_ret
          exact ⟨rfl, HK4.out.trans HKP.out⟩
end Go.Proofs.Ytgmgojpkjchmcaa
