/-
  CtStep, CtLaw: texts of mine, joined.
-/
import Derived.Test.YtemkjodkmehffaaGreatDoorAllM43
import Derived.Test.YtemkjodkmehffaaGreatDoorAllM38
import Derived.Test.YtemkjodkmehffaaGreatDoorAllM39
namespace Go.Proofs.YtemkjodkmehffaaGreatDoor
open Go Go.RowKit Go.Joins
section
variable {W w w' : World} {p c : Nat} {ck : Option Nat} {F : Nat → Prop} {n : Int} {k : Nat} {S : CtS}
set_option maxRecDepth 100000 in
set_option maxHeartbeats 4000000 in
theorem step_any (hT : theSup.T W) (h : CtAt W w p c ck F n k S) (m : Ms) (a : MsA) (hm : MsAt w m a) (hw : m.Wide) (hk : k + 1 ≤ 1000000) :
  Calls Tryz.prog 13 #[.pointer (some ⟨c, 0, none⟩), msV m a] w fun e w' => ∃ v, e = .returned v ∧ OutP W w p c ck F n (k + 1) (stepC S n m).2 (stepC S n m).1 v w' := by
 have HNO := Lib.hid (fun w' (hkk : Kp w w') => h.same (out := []) (v := .slice none 0 0) hkk (MOut.nil _ _) (Nat.le_succ k) hk)
 have HRN := Lib.hid (fun w1 (hk1 : Kp w w1) => renew_any (h.kp hk1) m a hk)
 have HNT := Lib.hid (fun w1 (hk1 : Kp w w1) => note_any hT (h.kp hk1) m a hk)
 have HMAY := Lib.hid (fun w1 (hk1 : Kp w w1) => mmay w1 m a (hm.keep hk1) hw)
 have HDN := Lib.hid (fun w1 (hk1 : Kp w w1) => (show Calls Tryz.prog 34 #[.pointer (some ⟨c, 0, none⟩)] w1 fun e w' => e = .returned (.bool false) ∧ w1 = w' from by
  obtain ⟨q, Fd, Fs, g, R, s, st, hin, -⟩ := h
  exact (hin.bd.kp hk1).down))
 have HAF := Lib.hid (fun w1 (hk1 : Kp w w1) {k' : Nat} {S' : CtS} {out : List Ms} {v : Value} {w' : World} (ho : OutP W w1 p c ck F n k' S' out v w') => ho.after (F := F) (w0 := w) (hk1.mono fun _ _ _ => trivial) (fun _ hb => .inl hb))
 obtain ⟨vM, hvM⟩ : ∃ v, msV m a = v := ⟨_, rfl⟩
 have HVM := Lib.hid hvM
 rw [hvM] at HRN HNT HMAY ⊢
 have HST := Lib.hid (show stepC S n m = (if m.to_ = 0 ∧ mayM m = true then (if m.kind = 1 then renewC S n m else if m.kind = 4 ∨ m.kind = 10 then noteC S n m else ([], S)) else ([], S)) from rfl)
 clear h hm hw hk hvM hT
 go_enter Tryz.func13, Tryz.ntmps13
 go_upto_region 1 with (refine list_boxM rfl (.tmp 1) rfl m a HVM.out.symm ?_; intro w1 hb1 hk1 hs1)
 obtain ⟨gg, hg⟩ : ∃ gg, w.heap.size = gg := ⟨_, rfl⟩
 rw [hg] at hb1 hs1 ⊢
 have HB := Lib.hid hb1
 have HK := Lib.hid hk1
 have d2 := hb1.cell 2 (.int .i64 m.to_) rfl
 clear hb1 hk1 hs1 hg
 obtain ⟨tt, htt⟩ : ∃ tt, m.to_ = tt := ⟨_, rfl⟩
 rw [htt] at d2 HST
 clear htt
 cases t1 : (tt == 0) with
 | false =>
  have t1' : (tt != 0) = true := by simpa using t1
  have HE := Lib.hid (show stepC S n m = ([], S) from by rw [HST.out, if_neg (by intro hh; rw [hh.1] at t1; cases t1)])
  have HF := Lib.hid (HNO.out w1 HK.out)
  clear HST HNO HRN HNT HMAY HAF
  go_wp2_with fail
  refine (show Calls _ _ _ _ _ from HDN.out _ HK.out).mono ?_
  rintro e w2 ⟨rfl, rfl⟩
  go_wp2_with fail
  go_ret
  exact ⟨_, rfl, by rw [HE.out]; exact HF.out⟩
 | true =>
  have t1' : (tt != 0) = false := by simpa using t1
  have ht0 : tt = 0 := by simpa using t1
  have HT0 := Lib.hid ht0
  clear ht0
  go_wp2_with fail
  refine (show Calls _ _ _ _ _ from HDN.out _ HK.out).mono ?_
  rintro e w2 ⟨rfl, rfl⟩
  go_wp2_with (refine list_loadM rfl (.tmp 3) rfl gg _ _ HB.out rfl vM HVM.out ?_)
  refine (show Calls _ _ _ _ _ from HMAY.out _ HK.out).mono ?_
  rintro e w2 ⟨rfl, hk2⟩
  have HK2 := Lib.hid (HK.out.trans hk2)
  have HB2 := Lib.hid (HB.out.kp hk2)
  clear hk2 HMAY d2
  cases t2 : mayM m with
  | false =>
   have HE := Lib.hid (show stepC S n m = ([], S) from by rw [HST.out, if_neg (by rw [t2]; simp)])
   have HF := Lib.hid (HNO.out w2 HK2.out)
   clear HST HNO HRN HNT HAF
   go_wp2_with fail
   go_ret
   exact ⟨_, rfl, by rw [HE.out]; exact HF.out⟩
  | true =>
   have HST2 := Lib.hid (show stepC S n m = (if m.kind = 1 then renewC S n m else if m.kind = 4 ∨ m.kind = 10 then noteC S n m else ([], S)) from by rw [HST.out, if_pos ⟨HT0.out, t2⟩])
   have d0 := HB2.out.cell 0 (.int .i64 m.kind) rfl
   obtain ⟨mk, hmk⟩ : ∃ mk, m.kind = mk := ⟨_, rfl⟩
   rw [hmk] at d0 HST2
   clear hmk HST
   by_cases q1 : mk = 1
   ·have HE := Lib.hid (show stepC S n m = renewC S n m from by rw [HST2.out, if_pos q1])
    subst q1
    have HR := Lib.hid (HRN.out w2 HK2.out)
    clear HST2 HNO HRN HNT
    go_wp2_with (refine list_loadM rfl (.tmp 3) rfl gg _ _ HB2.out rfl vM HVM.out ?_)
    refine (show Calls _ _ _ _ _ from HR.out).mono ?_
    rintro e w3 ⟨v, rfl, ho⟩
    have HO := Lib.hid (HAF.out w2 HK2.out ho)
    clear ho HR HAF
    go_wp2_with fail
    go_ret
    exact ⟨_, rfl, by rw [HE.out]; exact HO.out⟩
   ·rw [if_neg q1] at HST2
    have q1' : (mk == 1) = false := by simpa using q1
    clear q1
    by_cases q2 : mk = 4
    ·have HE := Lib.hid (show stepC S n m = noteC S n m from by rw [HST2.out, if_pos (.inl q2)])
     subst q2
     have HR := Lib.hid (HNT.out w2 HK2.out)
     clear HST2 HNO HRN HNT
     go_wp2_with (refine list_loadM rfl (.tmp 3) rfl gg _ _ HB2.out rfl vM HVM.out ?_)
     refine (show Calls _ _ _ _ _ from HR.out).mono ?_
     rintro e w3 ⟨v, rfl, ho⟩
     have HO := Lib.hid (HAF.out w2 HK2.out ho)
     clear ho HR HAF
     go_wp2_with fail
     go_ret
     exact ⟨_, rfl, by rw [HE.out]; exact HO.out⟩
    ·have q2' : (mk == 4) = false := by simpa using q2
     by_cases q3 : mk = 10
     ·have HE := Lib.hid (show stepC S n m = noteC S n m from by rw [HST2.out, if_pos (.inr q3)])
      subst q3
      have HR := Lib.hid (HNT.out w2 HK2.out)
      clear HST2 HNO HRN HNT q2 q2' q1'
      go_wp2_with (refine list_loadM rfl (.tmp 3) rfl gg _ _ HB2.out rfl vM HVM.out ?_)
      refine (show Calls _ _ _ _ _ from HR.out).mono ?_
      rintro e w3 ⟨v, rfl, ho⟩
      have HO := Lib.hid (HAF.out w2 HK2.out ho)
      clear ho HR HAF
      go_wp2_with fail
      go_ret
      exact ⟨_, rfl, by rw [HE.out]; exact HO.out⟩
     ·have HE := Lib.hid (show stepC S n m = ([], S) from by rw [HST2.out, if_neg (by omega)])
      have q3' : (mk == 10) = false := by simpa using q3
      have HF := Lib.hid (HNO.out w2 HK2.out)
      clear HST2 HNO HRN HNT HAF q2 q3
      go_wp2_with fail
      go_ret
      exact ⟨_, rfl, by rw [HE.out]; exact HF.out⟩
end
def CtW (W w : World) (p c : Nat) (ck : Option Nat) (n : Int) (k : Nat) (S : CtS) : Prop := ∃ F, CtAt W w p c ck F n k S
def SaidP (W : World) (p c : Nat) (ck : Option Nat) (n : Int) (k : Nat) (S : CtS) (out : List Ms) (v : Value) (w' : World) : Prop := CtW W w' p c ck n k S ∧ MOut 0 w' v out
def stM (k i e : Int) (b : Bool) : Ms := ⟨k, i, 0, e, 0, 0, 0, 0, 0, ⟨#[]⟩, 0, b, it0, [], [], [], 0, []⟩
theorem stM_at (w : World) (k i e : Int) (b : Bool) : MsAt w (stM k i e b) msA0 := (MsIn.zero w (fun _ => True) _ rfl rfl rfl rfl).at_
theorem stM_wide (k i e : Int) (b : Bool) : (stM k i e b).Wide where
 item := show it0.fits from ⟨by decide, by decide, by decide, by decide⟩
 il := Nat.zero_le _
 its := fun x (hx : x ∈ []) => absurd hx List.not_mem_nil
 ml := Nat.zero_le _
 mks := fun x (hx : x ∈ []) => absurd hx List.not_mem_nil
theorem stM_may {k i e : Int} (b : Bool) (hk : 1 ≤ k ∧ k ≤ 14) (hi : 1 ≤ i ∧ i ≤ 5) (he : 0 ≤ e ∧ e ≤ 1099511627776) : mayM (stM k i e b) = true := by
 have h1 : listB (stM k i e b) = true := rfl
 have h2 : ((stM k i e b).items.all It.may && marksB (stM k i e b).marks) = true := rfl
 unfold mayM
 rw [h1, h2]
 have h3 : headB (stM k i e b) = true := by
  unfold headB stM numB
  simp only [Bool.and_eq_true, decide_eq_true_eq, Bool.not_eq_true', beq_eq_false_iff_ne, ne_eq]
  exact ⟨hk.1, hk.2, by omega, hi.2, by decide, by decide, by omega, he, by decide, by decide, by decide, by decide, by decide, by decide, by decide, by decide, by decide, by decide, by decide⟩
 rw [h3]
 rfl
section
variable {W w w' : World} {p c : Nat} {ck : Option Nat} {F : Nat → Prop} {n : Int} {k : Nat} {S : CtS} {out : List Ms} {v : Value} {z e t : Int} {l : List Int}
theorem OutP.said (h : OutP W w p c ck F n k S out v w') : SaidP W p c ck n k S out v w' := by
 obtain ⟨F', B, h1, -, -, h4, -⟩ := h
 exact ⟨⟨F', h1⟩, h4.mono (Nat.zero_le _)⟩
theorem CtW.kpW (h : CtW W w p c ck n k S) : Kp W w := by obtain ⟨F, h⟩ := h; exact h.kpW
theorem CtW.ok (h : CtW W w p c ck n k S) : S.Ok := by obtain ⟨F, h⟩ := h; exact h.ok
theorem CtW.epoch (h : CtW W w p c ck n k S) : Calls Tryz.prog 16 #[.pointer (some ⟨c, 0, none⟩)] w fun e w' => e = .returned (.int .i64 S.epoch) ∧ w = w' := by
 obtain ⟨F, q, Fd, Fs, g, R, s, st, h1, -⟩ := h
 exact h1.bd.epoch
theorem CtW.under (h : CtW W w p c ck n k S) : Calls Tryz.prog 17 #[.pointer (some ⟨c, 0, none⟩)] w fun e w' => e = .returned (.int .i64 S.underZ) ∧ w = w' := by
 obtain ⟨F, q, Fd, Fs, g, R, s, st, h1, -⟩ := h
 exact h1.bd.under
theorem CtW.mem (h : CtW W w p c ck n k S) : Calls Tryz.prog 21 #[.pointer (some ⟨c, 0, none⟩)] w fun e w' => ∃ A cA, e = .returned (.slice A S.mem.length cA) ∧ Row w' A (fun _ => True) (S.mem.map (Value.int .i64)) ∧ Kp w w' := by
 obtain ⟨F, h⟩ := h
 refine h.mem.mono ?_
 rintro e w' ⟨v, rfl, ho, hk⟩
 obtain ⟨A, cA, rfl, -, hrow⟩ := own_slice ho
 exact ⟨A, cA, rfl, hrow.mono fun _ _ _ => trivial, hk⟩
theorem CtW.step (h : CtW W w p c ck n k S) (hT : theSup.T W) (m : Ms) (a : MsA) (hm : MsAt w m a) (hw : m.Wide) (hk : k + 1 ≤ 1000000) :
  Calls Tryz.prog 13 #[.pointer (some ⟨c, 0, none⟩), msV m a] w fun e w' => ∃ v, e = .returned v ∧ SaidP W p c ck n (k + 1) (stepC S n m).2 (stepC S n m).1 v w' := by
 obtain ⟨F, h⟩ := h
 exact (step_any hT h m a hm hw hk).mono fun _ _ ⟨v, h1, h2⟩ => ⟨v, h1, h2.said⟩
theorem CtW.st (h : CtW W w p c ck n k S) (hT : theSup.T W) (x i e : Int) (b : Bool) (hk : k + 1 ≤ 1000000) (u : Value) (hu : msV (stM x i e b) msA0 = u) (S' : CtS) (out : List Ms) (hS : stepC S n (stM x i e b) = (out, S')) :
  Calls Tryz.prog 13 #[.pointer (some ⟨c, 0, none⟩), u] w fun e w' => ∃ v, e = .returned v ∧ SaidP W p c ck n (k + 1) S' out v w' := by
 subst hu
 refine (h.step hT _ _ (stM_at w x i e b) (stM_wide x i e b) hk).mono ?_
 rintro e w' ⟨v, h1, h2⟩
 rw [hS] at h2
 exact ⟨v, h1, h2⟩
theorem begP_yes {all mem : List Int} {lost : Int} (h : BegP W w p c ck F n k S all mem lost v z w') (hu : S.und = none) (hb : begB S mem = true) : z = 0 ∧ SaidP W p c ck n (k + 2) (begC S all mem lost) (beatC (begC S all mem lost) n).1 v w' := by
 rcases h with ⟨h1, -⟩ | ⟨-, h1, -⟩ | ⟨-, -, h1, h2⟩
 ·rw [hu] at h1; cases h1
 ·rw [hb] at h1; cases h1
 ·exact ⟨h1, h2.said⟩
theorem CtW.join (h : CtW W w p c ck n k S) (hT : theSup.T W) (node : Int) (hk : k + 2 ≤ 1000000) (hu : S.und = none) (l : List Int) (hl : sortI (S.mem ++ [node]) = l) (hb : begB S l = true) :
  Calls Tryz.prog 18 #[.pointer (some ⟨c, 0, none⟩), .int .i64 node] w fun e w' => ∃ v, e = .returned (.tuple #[v, .int .i64 0]) ∧ SaidP W p c ck n (k + 2) (begC S l l 0) (beatC (begC S l l 0) n).1 v w' := by
 subst hl
 obtain ⟨F, h⟩ := h
 refine (join_any hT h hk node).mono ?_
 rintro e w' ⟨v, z, rfl, hp⟩
 obtain ⟨rfl, h2⟩ := begP_yes hp hu hb
 exact ⟨v, rfl, h2⟩
theorem makeW (hT : theSup.T W) {Fd : Foot} (h : Dv W w p Fd (SDev.still (List.replicate 2 blank) 0)) (l : List Int) (C : Array Value) (hC : C.toList = l.map (Value.int .i64)) (hn : nodesB l = true) (m : Nat) (hm : m = l.length) :
  Calls Tryz.prog 10 #[.pointer (some ⟨p, 0, none⟩), .slice (some ⟨w.heap.size, 0, none⟩) m m] (w.alloc (.cells C 3)) fun e w' => ∃ (c kc : Nat), e = .returned (.tuple #[.pointer (some ⟨c, 0, none⟩), .int .i64 0]) ∧ CtW W w' p c (some kc) 0 0 (start23 l) := by
 subst hm
 have hl5 := (nodes_len hn).2
 exact (make_any W _ hT p Fd _ (h.keep ((Keeps.refl _ w).alloc _)) (by decide) (by decide) (some ⟨w.heap.size, 0, none⟩) _ l (Row.fresh (F := fun _ => True) w C 3 (0, 0) _ rfl trivial _ hC) (Nat.le_refl _) (by unfold maxLen; omega) hn _ rfl).mono fun _ _ ⟨c, kc, F, h1, h2, _⟩ => ⟨c, kc, h1, F, h2⟩
theorem MOut.fst {B : Nat} (h : MOut B w v out) (m : Ms) (r : List Ms) (ho : out = m :: r) : ∃ b o cap, v = .slice (some ⟨b, o, none⟩) out.length cap ∧ w.cell? ⟨b, o, none⟩ = some (.int .i64 m.kind) ∧ w.cell? ⟨b, o + 3, none⟩ = some (.int .i64 m.epoch) := by
 obtain ⟨ps, A, cap, h1, rfl, -, -, h5⟩ := h
 subst ho
 cases ps with
 | nil => cases h1
 | cons q ps =>
  injection h1 with e1 e2
  obtain ⟨b, o, rfl, -, hc⟩ := msRow_cells h5.row (j := 0) (by simp)
  refine ⟨b, o, cap, rfl, ?_, ?_⟩
  ·have := hc 0 (.int .i64 q.1.kind) rfl
   rw [← e1]; simpa using this
  ·have := hc 3 (.int .i64 q.1.epoch) rfl
   rw [← e1]; simpa using this
end
end Go.Proofs.YtemkjodkmehffaaGreatDoor
