/-
  CtLaw: texts of mine, joined.
-/
import Derived.Test.YtemkjodkmehffaaGreatDoorAllA39
import Derived.Test.YtemkjodkmehffaaGreatDoorAllA45
namespace Go.Proofs.YtemkjodkmehffaaGreatDoor
open Go Go.RowKit Go.Joins
def CtW (W w : World) (p c : Nat) (ck : Option Nat) (n : Int) (k : Nat) (S : CtS) : Prop := ∃ F, CtAt W w p c ck F n k S
def HeldW (W w : World) (p : Nat) (k : Nat) (e : Int) (l : List Int) (t : Int) : Prop := ∃ F, CtHeld W w p F k e l t
def SaidP (W : World) (p c : Nat) (ck : Option Nat) (n : Int) (k : Nat) (S : CtS) (out : List Ms) (v : Value) (w' : World) : Prop := CtW W w' p c ck n k S ∧ MOut 0 w' v out
def stM (k i e : Int) (b : Bool) : Ms := ⟨k, i, 0, e, 0, 0, 0, 0, 0, ⟨#[]⟩, 0, b, it0, [], [], [], 0, []⟩
theorem stM_at (w : World) (k i e : Int) (b : Bool) : MsAt w (stM k i e b) msA0 := (MsIn.zero w (fun _ => True) _ rfl rfl rfl rfl).at_
theorem stM_wide (k i e : Int) (b : Bool) : (stM k i e b).Wide where
 item := show it0.fits from ⟨by decide, by decide, by decide, by decide⟩
 il := Nat.zero_le _
 its := fun x (hx : x ∈ []) => absurd hx List.not_mem_nil
 ml := Nat.zero_le _
 mks := fun x (hx : x ∈ []) => absurd hx List.not_mem_nil
section
variable {W w w' : World} {p c : Nat} {ck : Option Nat} {F : Nat → Prop} {n : Int} {k : Nat} {S : CtS} {out : List Ms} {v : Value} {z e t : Int} {l : List Int}
theorem OutP.said (h : OutP W w p c ck F n k S out v w') : SaidP W p c ck n k S out v w' := by
 obtain ⟨F', B, h1, -, -, h4, -⟩ := h
 exact ⟨⟨F', h1⟩, h4.mono (Nat.zero_le _)⟩
theorem CtW.kpW (h : CtW W w p c ck n k S) : Kp W w := by obtain ⟨F, h⟩ := h; exact h.kpW
theorem CtW.kp (h : CtW W w p c ck n k S) (hk : Kp w w') : CtW W w' p c ck n k S := by obtain ⟨F, h⟩ := h; exact ⟨F, h.kp hk⟩
theorem CtW.more (h : CtW W w p c ck n k S) (k' : Nat) (h1 : k ≤ k') (h2 : k' ≤ 1000000) : CtW W w p c ck n k' S := by obtain ⟨F, h⟩ := h; exact ⟨F, h.more k' h1 h2⟩
theorem CtW.epoch (h : CtW W w p c ck n k S) : Calls Tryz.prog 16 #[.pointer (some ⟨c, 0, none⟩)] w fun e w' => e = .returned (.int .i64 S.epoch) ∧ w = w' := by
 obtain ⟨F, q, Fd, Fs, g, R, s, st, h1, -⟩ := h
 exact h1.bd.epoch
theorem CtW.under (h : CtW W w p c ck n k S) : Calls Tryz.prog 17 #[.pointer (some ⟨c, 0, none⟩)] w fun e w' => e = .returned (.int .i64 S.underZ) ∧ w = w' := by
 obtain ⟨F, q, Fd, Fs, g, R, s, st, h1, -⟩ := h
 exact h1.bd.under
theorem CtW.mem (h : CtW W w p c ck n k S) : Calls Tryz.prog 21 #[.pointer (some ⟨c, 0, none⟩)] w fun e w' => ∃ A cA, e = .returned (.slice A S.mem.length cA) ∧ Row w' A (fun _ => True) (S.mem.map (Value.int .i64)) ∧ Kp w w' := by
 obtain ⟨F, h⟩ := h
 refine h.mem.mono ?_
 rintro e w' ⟨v, rfl, ho, hk⟩
 obtain ⟨A, cA, rfl, -, hrow⟩ := own_slice ho
 exact ⟨A, cA, rfl, hrow.mono fun _ _ _ => trivial, hk⟩
theorem CtW.step (h : CtW W w p c ck n k S) (hT : theSup.T W) (m : Ms) (a : MsA) (hm : MsAt w m a) (hw : m.Wide) (hk : k + 1 ≤ 1000000) :
  Calls Tryz.prog 13 #[.pointer (some ⟨c, 0, none⟩), msV m a] w fun e w' => ∃ v, e = .returned v ∧ SaidP W p c ck n (k + 1) (stepC S n m).2 (stepC S n m).1 v w' := by
 obtain ⟨F, h⟩ := h
 exact (step_any hT h m a hm hw hk).mono fun _ _ ⟨v, h1, h2⟩ => ⟨v, h1, h2.said⟩
theorem CtW.st (h : CtW W w p c ck n k S) (hT : theSup.T W) (x i e : Int) (b : Bool) (hk : k + 1 ≤ 1000000) (u : Value) (hu : msV (stM x i e b) msA0 = u) (S' : CtS) (out : List Ms) (hS : stepC S n (stM x i e b) = (out, S')) :
  Calls Tryz.prog 13 #[.pointer (some ⟨c, 0, none⟩), u] w fun e w' => ∃ v, e = .returned v ∧ SaidP W p c ck n (k + 1) S' out v w' := by
 subst hu
 refine (h.step hT _ _ (stM_at w x i e b) (stM_wide x i e b) hk).mono ?_
 rintro e w' ⟨v, h1, h2⟩
 rw [hS] at h2
 exact ⟨v, h1, h2⟩
theorem CtW.beat (h : CtW W w p c ck n k S) (hT : theSup.T W) (hk : k + 1 ≤ 1000000) :
  Calls Tryz.prog 15 #[.pointer (some ⟨c, 0, none⟩)] w fun e w' => ∃ v, e = .returned v ∧ SaidP W p c ck n (k + 1) (beatC S n).2 (beatC S n).1 v w' := by
 obtain ⟨F, h⟩ := h
 exact (beat_any hT h hk).mono fun _ _ ⟨v, h1, h2⟩ => ⟨v, h1, h2.said⟩
theorem begP_yes {all mem : List Int} {lost : Int} (h : BegP W w p c ck F n k S all mem lost v z w') (hu : S.und = none) (hb : begB S mem = true) : z = 0 ∧ SaidP W p c ck n (k + 2) (begC S all mem lost) (beatC (begC S all mem lost) n).1 v w' := by
 rcases h with ⟨h1, -⟩ | ⟨-, h1, -⟩ | ⟨-, -, h1, h2⟩
 ·rw [hu] at h1; cases h1
 ·rw [hb] at h1; cases h1
 ·exact ⟨h1, h2.said⟩
theorem CtW.join (h : CtW W w p c ck n k S) (hT : theSup.T W) (node : Int) (hk : k + 2 ≤ 1000000) (hu : S.und = none) (l : List Int) (hl : sortI (S.mem ++ [node]) = l) (hb : begB S l = true) :
  Calls Tryz.prog 18 #[.pointer (some ⟨c, 0, none⟩), .int .i64 node] w fun e w' => ∃ v, e = .returned (.tuple #[v, .int .i64 0]) ∧ SaidP W p c ck n (k + 2) (begC S l l 0) (beatC (begC S l l 0) n).1 v w' := by
 subst hl
 obtain ⟨F, h⟩ := h
 refine (join_any hT h hk node).mono ?_
 rintro e w' ⟨v, z, rfl, hp⟩
 obtain ⟨rfl, h2⟩ := begP_yes hp hu hb
 exact ⟨v, rfl, h2⟩
theorem CtW.lose (h : CtW W w p c ck n k S) (hT : theSup.T W) (node : Int) (hk : k + 2 ≤ 1000000) (hu : S.und = none) (hb : begB S (wo S.mem node) = true) :
  Calls Tryz.prog 14 #[.pointer (some ⟨c, 0, none⟩), .int .i64 node] w fun e w' => ∃ v, e = .returned (.tuple #[v, .int .i64 0]) ∧ SaidP W p c ck n (k + 2) (begC S S.mem (wo S.mem node) node) (beatC (begC S S.mem (wo S.mem node) node) n).1 v w' := by
 obtain ⟨F, h⟩ := h
 refine (lose_any hT h hk node).mono ?_
 rintro e w' ⟨v, z, rfl, hp⟩
 obtain ⟨rfl, h2⟩ := begP_yes hp hu hb
 exact ⟨v, rfl, h2⟩
theorem CtW.back (h : CtW W w p c ck n k S) (x : ChS) (hu : S.und = some x) : Calls Tryz.prog 20 #[.pointer (some ⟨c, 0, none⟩)] w fun e w' => ∃ v, e = .returned (.tuple #[v, .int .i64 0]) ∧ SaidP W p c ck n k S.back x.aborts v w' := by
 obtain ⟨F, h⟩ := h
 exact (back_yes h x hu).mono fun _ _ ⟨v, h1, h2⟩ => ⟨v, h1, h2.said⟩
theorem CtW.held (h : CtW W w p c ck n k S) : HeldW W w p k S.epoch S.mem S.top := by obtain ⟨F, h⟩ := h; exact ⟨F, h.held⟩
theorem HeldW.crash (h : HeldW W w p k e l t) : Calls Tryz.prog 23 #[.pointer (some ⟨p, 0, none⟩), .slice none 0 0] w fun x w' => ∃ p', x = .returned (.pointer (some ⟨p', 0, none⟩)) ∧ HeldW W w' p' k e l t := by
 obtain ⟨F, h⟩ := h
 exact (ct_crash h).mono fun _ _ ⟨p', F', h1, h2, _⟩ => ⟨p', h1, F', h2⟩
theorem HeldW.openN (h : HeldW W w p k e l t) (hT : theSup.T W) : Calls Tryz.prog 11 #[.pointer (some ⟨p, 0, none⟩), .pointer none] w fun x w' => ∃ c, x = .returned (.tuple #[.pointer (some ⟨c, 0, none⟩), .int .i64 0]) ∧ CtW W w' p c none 0 k ⟨e, l, t, none, openO 0 5⟩ := by
 obtain ⟨F, h⟩ := h
 exact (copen_any (ck := none) (n := 0) hT h rfl (fun b hb => by cases hb)).mono fun _ _ ⟨c, F', h1, h2, _⟩ => ⟨c, h1, F', h2⟩
theorem makeW (hT : theSup.T W) {Fd : Foot} (h : Dv W w p Fd (SDev.still (List.replicate 2 blank) 0)) (l : List Int) (C : Array Value) (hC : C.toList = l.map (Value.int .i64)) (hn : nodesB l = true) (m : Nat) (hm : m = l.length) :
  Calls Tryz.prog 10 #[.pointer (some ⟨p, 0, none⟩), .slice (some ⟨w.heap.size, 0, none⟩) m m] (w.alloc (.cells C 3)) fun e w' => ∃ (c kc : Nat), e = .returned (.tuple #[.pointer (some ⟨c, 0, none⟩), .int .i64 0]) ∧ CtW W w' p c (some kc) 0 0 (start23 l) := by
 subst hm
 have hl5 := (nodes_len hn).2
 exact (make_any W _ hT p Fd _ (h.keep ((Keeps.refl _ w).alloc _)) (by decide) (by decide) (some ⟨w.heap.size, 0, none⟩) _ l (Row.fresh (F := fun _ => True) w C 3 (0, 0) _ rfl trivial _ hC) (Nat.le_refl _) (by unfold maxLen; omega) hn _ rfl).mono fun _ _ ⟨c, kc, F, h1, h2, _⟩ => ⟨c, kc, h1, F, h2⟩
theorem MOut.fst {B : Nat} (h : MOut B w v out) (m : Ms) (r : List Ms) (ho : out = m :: r) : ∃ b o cap, v = .slice (some ⟨b, o, none⟩) out.length cap ∧ w.cell? ⟨b, o, none⟩ = some (.int .i64 m.kind) ∧ w.cell? ⟨b, o + 3, none⟩ = some (.int .i64 m.epoch) := by
 obtain ⟨ps, A, cap, h1, rfl, -, -, h5⟩ := h
 subst ho
 cases ps with
 | nil => cases h1
 | cons q ps =>
  injection h1 with e1 e2
  obtain ⟨b, o, rfl, -, hc⟩ := msRow_cells h5.row (j := 0) (by simp)
  refine ⟨b, o, cap, rfl, ?_, ?_⟩
  ·have := hc 0 (.int .i64 q.1.kind) rfl
   rw [← e1]; simpa using this
  ·have := hc 3 (.int .i64 q.1.epoch) rfl
   rw [← e1]; simpa using this
theorem MOut.len {B : Nat} (h : MOut B w v out) : ∃ A cap, v = .slice A out.length cap := by
 obtain ⟨ps, A, cap, h1, h2, -⟩ := h
 exact ⟨A, cap, h2⟩
end
end Go.Proofs.YtemkjodkmehffaaGreatDoor
