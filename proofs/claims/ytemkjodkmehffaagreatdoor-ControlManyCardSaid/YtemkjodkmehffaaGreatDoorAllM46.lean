/-
  CtMark, CtMany: texts of mine, joined.
-/
import Derived.Test.YtemkjodkmehffaaGreatDoorAllM45
import Derived.Test.YtemkjodkmehffaaGreatDoorAllM38
namespace Go.Proofs.YtemkjodkmehffaaGreatDoor
open Go Go.RowKit Go.Joins
def CtX (gg : Nat) (V : Obj) (W w : World) (p c : Nat) (ck : Option Nat) (n : Int) (k : Nat) (S : CtS) : Prop := ∃ F, CtAt W w p c ck F n k S ∧ ¬ F gg ∧ w.heap[gg]? = some V ∧ W.heap.size ≤ gg
def HeldX (gg : Nat) (V : Obj) (W w : World) (p : Nat) (k : Nat) (e : Int) (l : List Int) (t : Int) : Prop := ∃ F, CtHeld W w p F k e l t ∧ ¬ F gg ∧ w.heap[gg]? = some V ∧ W.heap.size ≤ gg
section
variable {gg : Nat} {V V' : Obj} {W w w' : World} {p c : Nat} {ck : Option Nat} {F : Nat → Prop} {n : Int} {k : Nat} {S : CtS} {out : List Ms} {v : Value} {z e t : Int} {l : List Int}
theorem blk_lt {b : Nat} (h : w.heap[b]? = some V) : b < w.heap.size := (Array.getElem?_eq_some_iff.1 h).1
theorem OutP.x (h : OutP W w p c ck F n k S out v w') (h1 : ¬ F gg) (h2 : w.heap[gg]? = some V) (h3 : W.heap.size ≤ gg) : CtX gg V W w' p c ck n k S := by
 obtain ⟨F', B, a1, a2, -, -, a5⟩ := h
 refine ⟨F', a1, fun hf => ?_, (a5.block gg h1 (blk_lt h2)).trans h2, h3⟩
 rcases (a2 gg hf).1 with h | h
 ·exact h1 h
 ·have := blk_lt h2; omega
theorem CtX.own (h : CtX gg V W w p c ck n k S) : CtW W w p c ck n k S := by obtain ⟨F, h, -⟩ := h; exact ⟨F, h⟩
theorem CtX.kp (h : CtX gg V W w p c ck n k S) (hk : Kp w w') : CtX gg V W w' p c ck n k S := by
 obtain ⟨F, h, h1, h2, h3⟩ := h
 exact ⟨F, h.kp hk, h1, (hk.block gg trivial (blk_lt h2)).trans h2, h3⟩
theorem CtX.more (h : CtX gg V W w p c ck n k S) (k' : Nat) (h1 : k ≤ k') (h2 : k' ≤ 1000000) : CtX gg V W w p c ck n k' S := by obtain ⟨F, h, h3⟩ := h; exact ⟨F, h.more k' h1 h2, h3⟩
theorem CtX.blk (h : CtX gg V W w p c ck n k S) : w.heap[gg]? = some V := by obtain ⟨F, -, -, h, -⟩ := h; exact h
theorem CtX.set (h : CtX gg V W w p c ck n k S) (hk : Keeps (fun b => b ≠ gg) w w') (hb : w'.heap[gg]? = some V') : CtX gg V' W w' p c ck n k S := by
 obtain ⟨F, h, h1, -, h3⟩ := h
 have hW : Kp W w' := ((h.kpW.mono fun _ _ _ => trivial : Keeps (fun b => b ≠ gg) W w).trans hk).mono fun b hb _ e => by omega
 exact ⟨F, h.keep (hk.mono fun b _ hb e => h1 (e ▸ hb)) hW, h1, hb, h3⟩
theorem CtW.x (h : CtW W w p c ck n k S) (hk : Kp w w') (hb : w'.heap[gg]? = some V) (hg : w.heap.size ≤ gg) : CtX gg V W w' p c ck n k S := by
 have := h.kpW.size
 obtain ⟨F, h⟩ := h
 exact ⟨F, h.kp hk, fun hf => by have := (h.rng gg hf).2; omega, hb, by omega⟩
theorem CtX.st (h : CtX gg V W w p c ck n k S) (hT : theSup.T W) (x i e : Int) (b : Bool) (hk : k + 1 ≤ 1000000) (u : Value) (hu : msV (stM x i e b) msA0 = u) (S' : CtS) (out : List Ms) (hS : stepC S n (stM x i e b) = (out, S')) :
  Calls Tryz.prog 13 #[.pointer (some ⟨c, 0, none⟩), u] w fun e w' => ∃ v, e = .returned v ∧ CtX gg V W w' p c ck n (k + 1) S' := by
 subst hu
 obtain ⟨F, h, h1, h2, h3⟩ := h
 refine (step_any hT h _ _ (stM_at w x i e b) (stM_wide x i e b) hk).mono ?_
 rintro e w' ⟨v, rfl, ho⟩
 rw [hS] at ho
 exact ⟨v, rfl, ho.x h1 h2 h3⟩
theorem begX_yes {all mem : List Int} {lost : Int} (h : BegP W w p c ck F n k S all mem lost v z w') (hu : S.und = none) (hb : begB S mem = true) (h1 : ¬ F gg) (h2 : w.heap[gg]? = some V) (h3 : W.heap.size ≤ gg) : z = 0 ∧ CtX gg V W w' p c ck n (k + 2) (begC S all mem lost) := by
 rcases h with ⟨h0, -⟩ | ⟨-, h0, -⟩ | ⟨-, -, h0, ho⟩
 ·rw [hu] at h0; cases h0
 ·rw [hb] at h0; cases h0
 ·exact ⟨h0, ho.x h1 h2 h3⟩
theorem begX_form {all mem : List Int} {lost : Int} (h : BegP W w p c ck F n k S all mem lost v z w') (hu : S.und = none) (hb : begB S mem = false) (h1 : ¬ F gg) (h2 : w.heap[gg]? = some V) (h3 : W.heap.size ≤ gg) : z = 1 ∧ CtX gg V W w' p c ck n (k + 2) S := by
 rcases h with ⟨h0, -⟩ | ⟨-, -, h0, -, ho⟩ | ⟨-, h0, -⟩
 ·rw [hu] at h0; cases h0
 ·exact ⟨h0, ho.x h1 h2 h3⟩
 ·rw [hb] at h0; cases h0
theorem CtX.join (h : CtX gg V W w p c ck n k S) (hT : theSup.T W) (node : Int) (hk : k + 2 ≤ 1000000) (hu : S.und = none) (l : List Int) (hl : sortI (S.mem ++ [node]) = l) (hb : begB S l = true) :
  Calls Tryz.prog 18 #[.pointer (some ⟨c, 0, none⟩), .int .i64 node] w fun e w' => ∃ v, e = .returned (.tuple #[v, .int .i64 0]) ∧ CtX gg V W w' p c ck n (k + 2) (begC S l l 0) := by
 subst hl
 obtain ⟨F, h, h1, h2, h3⟩ := h
 refine (join_any hT h hk node).mono ?_
 rintro e w' ⟨v, z, rfl, hp⟩
 obtain ⟨rfl, h2⟩ := begX_yes hp hu hb h1 h2 h3
 exact ⟨v, rfl, h2⟩
theorem CtX.leave (h : CtX gg V W w p c ck n k S) (hT : theSup.T W) (node : Int) (hk : k + 2 ≤ 1000000) (hu : S.und = none) (l : List Int) (hl : wo S.mem node = l) (hb : begB S l = true) :
  Calls Tryz.prog 19 #[.pointer (some ⟨c, 0, none⟩), .int .i64 node] w fun e w' => ∃ v, e = .returned (.tuple #[v, .int .i64 0]) ∧ CtX gg V W w' p c ck n (k + 2) (begC S S.mem l 0) := by
 subst hl
 obtain ⟨F, h, h1, h2, h3⟩ := h
 refine (leave_any hT h hk node).mono ?_
 rintro e w' ⟨v, z, rfl, hp⟩
 obtain ⟨rfl, h2⟩ := begX_yes hp hu hb h1 h2 h3
 exact ⟨v, rfl, h2⟩
theorem CtX.leave_no (h : CtX gg V W w p c ck n k S) (hT : theSup.T W) (node : Int) (hk : k + 2 ≤ 1000000) (hu : S.und = none) (hb : begB S (wo S.mem node) = false) :
  Calls Tryz.prog 19 #[.pointer (some ⟨c, 0, none⟩), .int .i64 node] w fun e w' => ∃ v, e = .returned (.tuple #[v, .int .i64 1]) ∧ CtX gg V W w' p c ck n (k + 2) S := by
 obtain ⟨F, h, h1, h2, h3⟩ := h
 refine (leave_any hT h hk node).mono ?_
 rintro e w' ⟨v, z, rfl, hp⟩
 obtain ⟨rfl, h2⟩ := begX_form hp hu hb h1 h2 h3
 exact ⟨v, rfl, h2⟩
theorem CtX.held (h : CtX gg V W w p c ck n k S) : HeldX gg V W w p k S.epoch S.mem S.top := by obtain ⟨F, h, h1⟩ := h; exact ⟨F, h.held, h1⟩
theorem HeldX.crash (h : HeldX gg V W w p k e l t) : Calls Tryz.prog 23 #[.pointer (some ⟨p, 0, none⟩), .slice none 0 0] w fun x w' => ∃ p', x = .returned (.pointer (some ⟨p', 0, none⟩)) ∧ HeldX gg V W w' p' k e l t := by
 obtain ⟨F, h, h1, h2, h3⟩ := h
 refine (ct_crash h).mono ?_
 rintro x w' ⟨p', F', rfl, a1, a2, a3⟩
 refine ⟨p', rfl, F', a1, fun hf => ?_, (a3.block gg trivial (blk_lt h2)).trans h2, h3⟩
 rcases a2 gg hf with h | h
 ·exact h1 h
 ·have := blk_lt h2; omega
theorem HeldX.openN (h : HeldX gg V W w p k e l t) (hT : theSup.T W) : Calls Tryz.prog 11 #[.pointer (some ⟨p, 0, none⟩), .pointer none] w fun x w' => ∃ c, x = .returned (.tuple #[.pointer (some ⟨c, 0, none⟩), .int .i64 0]) ∧ CtX gg V W w' p c none 0 k ⟨e, l, t, none, openO 0 5⟩ := by
 obtain ⟨F, h, h1, h2, h3⟩ := h
 refine (copen_any (ck := none) (n := 0) hT h rfl (fun b hb => by cases hb)).mono ?_
 rintro x w' ⟨c, F', rfl, a1, a2, a3⟩
 refine ⟨c, rfl, F', a1, fun hf => ?_, (a3.block gg trivial (blk_lt h2)).trans h2, h3⟩
 rcases a2 gg hf with h | h | h
 ·exact h1 h
 ·cases h
 ·have := blk_lt h2; omega
end
set_option maxRecDepth 100000 in
set_option maxHeartbeats 4000000 in
theorem goes_any {gg : Nat} {V : Obj} {W w : World} {p c k : Nat} {ck : Option Nat} (hT : theSup.T W) (g : Gv) (hg : g.Ok) (h : CtX gg V W w p c ck 0 k (g.at_ 0 g.L)) (hk : k + 10 ≤ 1000000) :
  Calls Tryz.prog 22 #[.pointer (some ⟨c, 0, none⟩)] w fun e w' => e = .returned (.tuple #[]) ∧ CtX gg V W w' p c ck 0 (k + 10) g.over := by
 have HT := Lib.hid hT
 have HU := Lib.hid (show Calls Tryz.prog 17 #[.pointer (some ⟨c, 0, none⟩)] w fun e w' => e = .returned (.int .i64 g.num) ∧ w = w' from h.own.under)
 have HG := Lib.hid hg
 rw [← Gv.ready0 hg] at h
 have HA := Lib.hid h
 clear hT h hg
 go_enter Tryz.func22, Tryz.ntmps22
 go_wp2_with fail
 refine (show Calls _ _ _ _ _ from HU.out).mono ?_
 rintro e w1 ⟨rfl, rfl⟩
 clear HU
 go_wp2_with fail
 go_loopw [3] (fun i wr => ∃ q : Nat, q ≤ 5 ∧ i = .int .i64 ((q + 1 : Nat) : Int) ∧ Hid (CtX gg V W wr p c ck 0 (k + q) (g.ready q))) (fun i _ => 6 - (intOf i).toNat)
 case atStart => exact ⟨0, by decide, rfl, HA⟩
 case round =>
  clear HA
  obtain ⟨q, q5, rfl, HQ⟩ := hrel
  by_cases hlt : q < 5
  ·have hlt' : ((q + 1 : Nat) : Int) ≤ 5 := by omega
   obtain ⟨u, hu⟩ : ∃ u, msV (stM 4 ((q + 1 : Nat) : Int) g.num true) msA0 = u := ⟨_, rfl⟩
   have HU := Lib.hid hu
   have HS := Lib.hid (HQ.out.st HT.out 4 ((q + 1 : Nat) : Int) g.num true (by omega) u hu _ _ rfl)
   have HN := Lib.hid (Gv.ready_next HG.out q hlt)
   clear hu HQ
   obtain ⟨z, hz⟩ : ∃ z : Int, ((q + 1 : Nat) : Int) = z := ⟨_, rfl⟩
   have HZ := Lib.hid hz
   rw [hz] at hlt' HU ⊢
   have hz0 : 1 ≤ z := by omega
   clear hz
   go_wp2_with (refine list_buildM rfl _ rfl u (by rw [← HU.out]; kernel_rfl) ?_)
   refine (show Calls _ _ _ _ _ from HS.out).mono ?_
   rintro e w5 ⟨v5, rfl, hs⟩
   have HQ2 := Lib.hid (show CtX gg V W w5 p c ck 0 (k + (q + 1)) (g.ready (q + 1)) from by rw [← HN.out]; exact hs)
   clear hs HS HU HN
   go_wp2_with fail
   go_roundw
   case rel => exact ⟨q + 1, by omega, by rw [← HZ.out]; go_num, HQ2⟩
   case measure => have := HZ.out; simp [intOf]; omega
  ·obtain rfl : q = 5 := by omega
   have hlt' : ¬ ((5 + 1 : Nat) : Int) ≤ 5 := by decide
   have HA := Lib.hid (show CtX gg V W wr p c ck 0 (k + 5 + 0) (g.frozen 0) from by rw [Gv.frozen0 HG.out, ← Gv.ready5 HG.out]; exact HQ.out)
   clear HQ hlt
   go_wp2_with fail
   go_loopw [4] (fun i wr => ∃ q : Nat, q ≤ 5 ∧ i = .int .i64 ((q + 1 : Nat) : Int) ∧ Hid (CtX gg V W wr p c ck 0 (k + 5 + q) (g.frozen q))) (fun i _ => 6 - (intOf i).toNat)
   case atStart => exact ⟨0, by decide, rfl, HA⟩
   case round =>
    clear HA hlt'
    obtain ⟨q, q5, rfl, HQ⟩ := hrel
    by_cases hlt : q < 5
    ·have hlt' : ((q + 1 : Nat) : Int) ≤ 5 := by omega
     obtain ⟨u, hu⟩ : ∃ u, msV (stM 10 ((q + 1 : Nat) : Int) g.num false) msA0 = u := ⟨_, rfl⟩
     have HU := Lib.hid hu
     have HS := Lib.hid (HQ.out.st HT.out 10 ((q + 1 : Nat) : Int) g.num false (by omega) u hu _ _ rfl)
     have HN := Lib.hid (Gv.frozen_next HG.out q hlt)
     clear hu HQ
     obtain ⟨z, hz⟩ : ∃ z : Int, ((q + 1 : Nat) : Int) = z := ⟨_, rfl⟩
     have HZ := Lib.hid hz
     rw [hz] at hlt' HU ⊢
     have hz0 : 1 ≤ z := by omega
     clear hz
     go_wp2_with (refine list_buildM rfl _ rfl u (by rw [← HU.out]; kernel_rfl) ?_)
     refine (show Calls _ _ _ _ _ from HS.out).mono ?_
     rintro e w5 ⟨v5, rfl, hs⟩
     have HQ2 := Lib.hid (show CtX gg V W w5 p c ck 0 (k + 5 + (q + 1)) (g.frozen (q + 1)) from by rw [← HN.out]; exact hs)
     clear hs HS HU HN
     go_wp2_with fail
     go_roundw
     case rel => exact ⟨q + 1, by omega, by rw [← HZ.out]; go_num, HQ2⟩
     case measure => have := HZ.out; simp [intOf]; omega
    ·obtain rfl : q = 5 := by omega
     have hlt' : ¬ ((5 + 1 : Nat) : Int) ≤ 5 := by decide
     have HF := Lib.hid (show CtX gg V W wr p c ck 0 (k + 10) g.over from by rw [← Gv.frozen5 HG.out]; exact HQ.out)
     clear HQ hlt
     go_wp2_with fail
     go_end0
     exact ⟨rfl, HF.out⟩
def flipQ (q : Nat → Bool) (k : Nat) : Nat → Bool := fun i => if i = k then !(q k) else q i
def N5 (a b c d e : Bool) : List Int := (if a then [1] else []) ++ ((if b then [2] else []) ++ ((if c then [3] else []) ++ ((if d then [4] else []) ++ (if e then [5] else []))))
theorem n5_eq (q : Nat → Bool) : nodes5 q 5 = N5 (q 0) (q 1) (q 2) (q 3) (q 4) := by
 unfold nodes5 N5
 simp [List.range, List.range.loop]
theorem many_leave (q : Nat → Bool) (k : Nat) (hk : k < 5) (h1 : q k = true) (h2 : (nodes5 q 5).length ≠ 1) : wo (nodes5 q 5) ((k + 1 : Nat) : Int) = nodes5 (flipQ q k) 5 ∧ nodes5 (flipQ q k) 5 ≠ [] ∧ nodes5 (flipQ q k) 5 ≠ nodes5 q 5 := by
 rw [n5_eq q] at h2
 rw [n5_eq q, n5_eq (flipQ q k)]
 have h : k = 0 ∨ k = 1 ∨ k = 2 ∨ k = 3 ∨ k = 4 := by omega
 unfold flipQ
 rcases h with rfl | rfl | rfl | rfl | rfl <;> (rw [h1] at h2 ⊢; simp only [if_pos, Nat.reduceEqDiff, if_false]; revert h2)
 ·generalize q 1 = b; generalize q 2 = c; generalize q 3 = d; generalize q 4 = e; revert b c d e; decide +kernel
 ·generalize q 0 = b; generalize q 2 = c; generalize q 3 = d; generalize q 4 = e; revert b c d e; decide +kernel
 ·generalize q 0 = b; generalize q 1 = c; generalize q 3 = d; generalize q 4 = e; revert b c d e; decide +kernel
 ·generalize q 0 = b; generalize q 1 = c; generalize q 2 = d; generalize q 4 = e; revert b c d e; decide +kernel
 ·generalize q 0 = b; generalize q 1 = c; generalize q 2 = d; generalize q 3 = e; revert b c d e; decide +kernel
theorem many_join (q : Nat → Bool) (k : Nat) (hk : k < 5) (h1 : q k = false) : sortI (nodes5 q 5 ++ [((k + 1 : Nat) : Int)]) = nodes5 (flipQ q k) 5 ∧ nodes5 (flipQ q k) 5 ≠ [] ∧ nodes5 (flipQ q k) 5 ≠ nodes5 q 5 := by
 rw [n5_eq q, n5_eq (flipQ q k)]
 have h : k = 0 ∨ k = 1 ∨ k = 2 ∨ k = 3 ∨ k = 4 := by omega
 unfold flipQ
 rcases h with rfl | rfl | rfl | rfl | rfl <;> (rw [h1]; simp only [if_pos, Nat.reduceEqDiff, if_false])
 ·generalize q 1 = b; generalize q 2 = c; generalize q 3 = d; generalize q 4 = e; revert b c d e; decide +kernel
 ·generalize q 0 = b; generalize q 2 = c; generalize q 3 = d; generalize q 4 = e; revert b c d e; decide +kernel
 ·generalize q 0 = b; generalize q 1 = c; generalize q 3 = d; generalize q 4 = e; revert b c d e; decide +kernel
 ·generalize q 0 = b; generalize q 1 = c; generalize q 2 = d; generalize q 4 = e; revert b c d e; decide +kernel
 ·generalize q 0 = b; generalize q 1 = c; generalize q 2 = d; generalize q 3 = e; revert b c d e; decide +kernel
theorem many_last (q : Nat → Bool) (k : Nat) (hk : k < 5) (h1 : q k = true) (h2 : (nodes5 q 5).length = 1) : wo (nodes5 q 5) ((k + 1 : Nat) : Int) = [] := by
 rw [n5_eq q] at h2 ⊢
 have h : k = 0 ∨ k = 1 ∨ k = 2 ∨ k = 3 ∨ k = 4 := by omega
 rcases h with rfl | rfl | rfl | rfl | rfl <;> (rw [h1] at h2 ⊢; revert h2)
 ·generalize q 1 = b; generalize q 2 = c; generalize q 3 = d; generalize q 4 = e; revert b c d e; decide +kernel
 ·generalize q 0 = b; generalize q 2 = c; generalize q 3 = d; generalize q 4 = e; revert b c d e; decide +kernel
 ·generalize q 0 = b; generalize q 1 = c; generalize q 3 = d; generalize q 4 = e; revert b c d e; decide +kernel
 ·generalize q 0 = b; generalize q 1 = c; generalize q 2 = d; generalize q 4 = e; revert b c d e; decide +kernel
 ·generalize q 0 = b; generalize q 1 = c; generalize q 2 = d; generalize q 3 = e; revert b c d e; decide +kernel
def mnS (e : Int) (q : Nat → Bool) (f : Nat → Int) : CtS := ⟨e, nodes5 q 5, e, none, f⟩
theorem nodes5_yes {q : Nat → Bool} (h : nodes5 q 5 ≠ []) : nodesB (nodes5 q 5) = true := by
 rw [nodes5_may]
 cases hh : nodes5 q 5 with
 | nil => exact absurd hh h
 | cons a b => rfl
theorem mn_beg {e : Int} {q q' : Nat → Bool} {f : Nat → Int} (h1 : nodes5 q' 5 ≠ []) (h2 : nodes5 q' 5 ≠ nodes5 q 5) (he : 1 ≤ e ∧ e ≤ 100) : begB (mnS e q f) (nodes5 q' 5) = true := by
 have h : ringB (e + 1) (nodes5 q' 5) = true := ringB_of (by omega) (by omega) (nodes5_yes h1)
 unfold begB
 rw [show (mnS e q f).top + 1 = e + 1 from rfl, h, show (mnS e q f).mem = nodes5 q 5 from rfl]
 simp [h2]
theorem mn_not {e : Int} {q : Nat → Bool} {f : Nat → Int} {l : List Int} (h : l = []) : begB (mnS e q f) l = false := by
 subst h
 unfold begB
 have h : ringB ((mnS e q f).top + 1) [] = false := by
  cases hb : ringB ((mnS e q f).top + 1) [] with
  | false => rfl
  | true => have := ring_nodes hb; cases this
 rw [h]
 rfl
theorem wo_zero {l : List Int} (h : nodesB l = true) : wo l 0 = l := by
 unfold wo
 rw [List.filter_eq_self]
 intro x hx
 have := nodes_each h x hx
 simp only [Bool.not_eq_true', beq_eq_false_iff_ne, ne_eq]
 omega
def mnG (e : Int) (q : Nat → Bool) (f : Nat → Int) (all l : List Int) : Gv := ⟨e, e + 1, e + 1, nodes5 q 5, l, all, wo all 0, f⟩
theorem mnG_ok {e : Int} {q : Nat → Bool} {f : Nat → Int} {all l : List Int} (ha : nodesB all = true) (hf : f 0 = 0) (he : 1 ≤ e ∧ e ≤ 100) : (mnG e q f all l).Ok := by
 have hw := wo_zero ha
 refine ⟨?_, ?_, ?_, hf, ?_⟩
 ·show wo all 0 ≠ []
  rw [hw]
  have := (nodes_len ha).1
  intro h0
  rw [h0] at this
  simp at this
 ·show 1 ≤ e + 1; omega
 ·show e + 1 ≤ 1099511627776; omega
 ·show ∀ x ∈ wo all 0, _
  rw [hw]
  exact nodes_each ha
def mnV (q : Nat → Bool) : Obj := .cells #[.bool false, .bool (q 0), .bool (q 1), .bool (q 2), .bool (q 3), .bool (q 4)] 59 (0, 0)
theorem mnV_cell {w : World} {g : Nat} {q : Nat → Bool} (h : w.heap[g]? = some (mnV q)) (k : Nat) (hk : k < 5) : w.cell? ⟨g, k + 1, none⟩ = some (.bool (q k)) := by
 have hh : k = 0 ∨ k = 1 ∨ k = 2 ∨ k = 3 ∨ k = 4 := by omega
 rcases hh with rfl | rfl | rfl | rfl | rfl <;> exact cell_of_block h _
theorem mnV_set {w : World} {g : Nat} {q : Nat → Bool} (h : w.heap[g]? = some (mnV q)) (k : Nat) (hk : k < 5) : (w.setCell ⟨g, k + 1, none⟩ (.bool (!(q k)))).heap[g]? = some (mnV (flipQ q k)) := by
 have hh : k = 0 ∨ k = 1 ∨ k = 2 ∨ k = 3 ∨ k = 4 := by omega
 rcases hh with rfl | rfl | rfl | rfl | rfl <;> exact (block_setCell h _).trans rfl
end Go.Proofs.YtemkjodkmehffaaGreatDoor
