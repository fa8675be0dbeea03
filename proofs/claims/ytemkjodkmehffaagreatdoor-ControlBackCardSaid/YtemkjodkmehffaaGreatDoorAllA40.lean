/-
  CtBeat: texts of mine, joined.
-/
import Derived.Test.YtemkjodkmehffaaGreatDoorAllA34
namespace Go.Proofs.YtemkjodkmehffaaGreatDoor
open Go Go.RowKit Go.Joins
section
variable {W w w' : World} {p q c : Nat} {Fd Fs : Foot} {ck g : Option Nat} {R F : Nat → Prop} {s : SDev} {st : SSt} {n : Int} {k : Nat} {S : CtS}
theorem CtAt.same (h : CtAt W w p c ck F n k S) {out : List Ms} {v : Value} {k' : Nat} (hk : Kp w w') (hm : MOut w.heap.size w' v out) (h1 : k ≤ k') (h2 : k' ≤ 1000000) : OutP W w p c ck F n k' S out v w' :=
 ⟨F, w.heap.size, (h.kp hk).more k' h1 h2, fun b hb => ⟨.inl hb, (h.rng b hb).2⟩, Nat.le_refl _, hm, hk.mono fun _ _ _ => trivial⟩
theorem cbeat_nil (w : World) : Calls Tryz.prog 15 #[.pointer none] w fun e w' => e = .returned (.slice none 0 0) ∧ w = w' := by
 have HU := fun w => cunder_nil w
 go_enter Tryz.func15, Tryz.ntmps15
 go_wp2_with fail
 refine (HU _).mono ?_
 rintro e w1 ⟨rfl, rfl⟩
 go_wp2_with fail
 go_ret
 exact ⟨rfl, rfl⟩
set_option maxRecDepth 100000 in
set_option maxHeartbeats 4000000 in
theorem beat_any (hT : theSup.T W) (h : CtAt W w p c ck F n k S) (hk : k + 1 ≤ 1000000) :
  Calls Tryz.prog 15 #[.pointer (some ⟨c, 0, none⟩)] w fun e w' => ∃ v, e = .returned v ∧ OutP W w p c ck F n (k + 1) (beatC S n).2 (beatC S n).1 v w' := by
 have HH := Lib.hid h
 obtain ⟨q, Fd, Fs, g, R, s, st, hin, hF, hFr⟩ := h
 have HU := Lib.hid hin.bd.under
 have hu' := hin.bd.und
 cases hS : S.und with
 | none =>
  have HE := Lib.hid (show beatC S n = ([], S) from by unfold beatC; rw [hS])
  have HZ := Lib.hid (show S.underZ = 0 from by unfold CtS.underZ; rw [hS])
  rw [HZ.out] at HU
  have HF := Lib.hid (HH.out.same (out := []) (v := .slice none 0 0) (Keeps.refl _ w) (MOut.nil _ _) (Nat.le_succ k) hk)
  rw [HE.out]
  clear hin hF hFr hu' hS HE HZ HH hT
  go_enter Tryz.func15, Tryz.ntmps15
  go_wp2_with fail
  refine (show Calls _ _ _ _ _ from HU.out).mono ?_
  rintro e w1 ⟨rfl, rfl⟩
  go_wp2_with fail
  go_ret
  exact ⟨_, rfl, HF.out⟩
 | some x =>
  have hok := hin.bd.ok.und x hS
  rw [hS] at hu'
  obtain ⟨kk, rfl, rt, A, ca, B, cb, C, cc, hblk, -⟩ := hu'
  obtain ⟨r, hb, -⟩ := hin.bd.ex
  have c4 : w.cell? ⟨c, 4, none⟩ = some (.pointer (some ⟨kk, 0, none⟩)) := hb.c4
  have k4 := hblk.c4
  have k2 := hblk.c2
  obtain ⟨i, hi⟩ : ∃ i : Nat, x.lost = (i : Int) := ⟨x.lost.toNat, by have := hok.l0; omega⟩
  have hi5 : i ≤ 5 := by have := hok.l5; omega
  have hov := hb.over i hi5
  have hit : x.lost.toNat = i := by omega
  have HE := Lib.hid (show beatC S n = (if x.phase = 0 then (S.asks 3 x, S) else if x.phase = 1 then (S.asks 7 x, S) else if n < S.over i then ([], S) else (x.commits, S.commit x)) from by unfold beatC; rw [hS, ← hit])
  have HA := Lib.hid (fun y => hin.bd.ask x hS y)
  have HCM := Lib.hid (fun n => commit_any hT (HH.out.kp ((Keeps.refl (fun _ => True) w).drewN n)) x hS hk)
  have HN := Lib.hid (fun m => (hin.cl.keep ((Keeps.refl (fun _ => True) w).drewN m) fun _ _ => trivial).now)
  have hnu : (x.num == 0) = false := by have := (ringB_num hok.ring).1; simp; omega
  have HZ := Lib.hid (show S.underZ = x.num from by unfold CtS.underZ; rw [hS])
  rw [HZ.out] at HU
  rw [hi] at k2
  have c0 := hb.c0
  obtain ⟨vck, hvck⟩ : ∃ v, pOf ck = v := ⟨_, rfl⟩
  rw [hvck] at c0 HN
  generalize S.over i = ov at hov HE
  generalize x.phase = ph at k4 HE
  generalize x.num = nu at hnu HU
  have hil : (i : Int) < 6 := by omega
  clear hin hF hFr hS hok hblk hb hi hit HZ hvck hT
  go_enter Tryz.func15, Tryz.ntmps15
  go_wp2_with fail
  refine (show Calls _ _ _ _ _ from HU.out).mono ?_
  rintro e w1 ⟨rfl, rfl⟩
  by_cases p0 : ph = 0
  ·have HX := Lib.hid (show beatC S n = (S.asks 3 x, S) from by rw [HE.out, if_pos p0])
   subst p0
   have HF := Lib.hid (fun v w' (hm : MOut w.heap.size w' v (S.asks 3 x)) (hkk : Kp w w') => HH.out.same (out := S.asks 3 x) hkk hm (Nat.le_succ k) hk)
   clear HE HCM HN
   go_wp2_with fail
   refine (show Calls _ _ _ _ _ from HA.out 3).mono ?_
   rintro e w1 ⟨v, rfl, hm, hkk⟩
   have HF1 := Lib.hid (HF.out v w1 hm hkk)
   clear hm hkk HF
   go_wp2_with fail
   go_ret
   exact ⟨_, rfl, by rw [HX.out]; exact HF1.out⟩
  ·rw [if_neg p0] at HE
   have q0 : (ph == 0) = false := by simpa using p0
   by_cases p1 : ph = 1
   ·have HX := Lib.hid (show beatC S n = (S.asks 7 x, S) from by rw [HE.out, if_pos p1])
    subst p1
    have HF := Lib.hid (fun v w' (hm : MOut w.heap.size w' v (S.asks 7 x)) (hkk : Kp w w') => HH.out.same (out := S.asks 7 x) hkk hm (Nat.le_succ k) hk)
    clear HE HCM HN p0 q0
    go_wp2_with fail
    refine (show Calls _ _ _ _ _ from HA.out 7).mono ?_
    rintro e w1 ⟨v, rfl, hm, hkk⟩
    have HF1 := Lib.hid (HF.out v w1 hm hkk)
    clear hm hkk HF
    go_wp2_with fail
    go_ret
    exact ⟨_, rfl, by rw [HX.out]; exact HF1.out⟩
   ·rw [if_neg p1] at HE
    have q1 : (ph == 1) = false := by simpa using p1
    clear p0 p1 HA
    go_wp2_with fail
    go_quiet ((first | (go_at_call 41; exact Calls.quiet_of_same ((HN.out _).mono fun _ _ h => ⟨h.1, h.2.symm⟩))))
    by_cases hlt : n < ov
    ·have HX := Lib.hid (show beatC S n = ([], S) from by rw [HE.out, if_pos hlt])
     clear HE
     have HF := Lib.hid (fun m => HH.out.same (out := []) (v := .slice none 0 0) (w' := w.drewN m) ((Keeps.refl _ w).drewN m) (MOut.nil _ _) (Nat.le_succ k) hk)
     go_wp2_with fail
     go_ret
     exact ⟨_, rfl, by rw [HX.out]; exact HF.out _⟩
    ·have HX := Lib.hid (show beatC S n = (x.commits, S.commit x) from by rw [HE.out, if_neg hlt])
     clear HE
     go_wp2_with fail
     refine (show Calls _ _ _ _ _ from HCM.out _).mono ?_
     rintro e w1 ⟨v, rfl, ho⟩
     have HO := Lib.hid (show OutP W w p c ck F n (k + 1) (S.commit x) x.commits v w1 from by
      obtain ⟨F', B, o1, o2, o3, o4, o5⟩ := ho
      exact ⟨F', B, o1, o2, o3, o4, ⟨o5.os, o5.tape, o5.output, o5.size, o5.block⟩⟩)
     clear ho HCM
     go_wp2_with fail
     go_ret
     exact ⟨_, rfl, by rw [HX.out]; exact HO.out⟩
end
end Go.Proofs.YtemkjodkmehffaaGreatDoor
