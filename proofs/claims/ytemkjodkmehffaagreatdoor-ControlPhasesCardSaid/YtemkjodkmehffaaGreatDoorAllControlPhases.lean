/-
  CtTurn, EqInts, ControlPhasesWalk, ControlPhasesProof: texts of mine, joined.
-/
import Derived.Test.YtemkjodkmehffaaGreatDoorAllA47
import Derived.Test.YtemkjodkmehffaaGreatDoorAllA15
import Derived.Test.YtemkjodkmehffaaGreatDoorAllA14
import Derived.WalkSpells
import Derived.BigQuiet
import Derived.Test.YtemkjodkmehffaaGreatDoorAllA21
import Derived.Test.YtemkjodkmehffaaGreatDoorAllA18
import Derived.Test.YtemkjodkmehffaaGreatDoorCards
import Derived.SevenTiedAt
namespace Go.Proofs.YtemkjodkmehffaaGreatDoor
open Go Go.RowKit Go.Joins
theorem rem_run23 {o : Oper} {ρ : Operand → Value} {w : World} {x y : Operand} {z t N : Int} (h1 : 1 ≤ N) (h2 : N ≤ 12) (hz : z.tmod N = t) (_h3 : -12 ≤ t) (_h4 : t ≤ 12) (ho : o.op = .binOp .rem 3 x y 3) (hx : ρ x = .int .i64 z) (hy : ρ y = .int .i64 N) : (execOp ρ o).run Tryz.prog w = .ok (.value (.int .i64 t)) w := by
 have hn : ¬ N = 0 := by omega
 unfold execOp
 rw [ho]
 go_simp
theorem list_rem23 {ops : Array Oper} {rest : List Oper} {o : Oper} {a : Act} {w : World} {Q : Exit → Act → World → Prop} (hgd : o.guard = none) (x y : Operand) (z N t : Int) (ho : o.op = .binOp .rem 3 x y 3) (hx : a.eval x = .int .i64 z) (hy : a.eval y = .int .i64 N)
  (h1 : 1 ≤ N) (h2 : N ≤ 12) (hz : z.tmod N = t) (h3 : -12 ≤ t) (h4 : t ≤ 12) (hK : wpList Tryz.prog ops Q rest (a.put o.dst (.int .i64 t)) w) : wpList Tryz.prog ops Q (o :: rest) a w :=
 wpList_plain hgd fun _ hh => by
  unfold Oper.wp
  rw [rem_run23 h1 h2 hz h3 h4 ho hx hy]
  exact hh _ _ hK
theorem turn23 (z : Int) (N : Nat) (h1 : 1 ≤ N) (h2 : N ≤ 12) : ∃ (t : Int) (k : Nat), z.tmod (N : Int) = t ∧ -12 ≤ t ∧ t ≤ 12 ∧ (t + (N : Int)).tmod (N : Int) = (k : Int) ∧ k < N := by
 have a1 := Int.tmod_lt_of_pos z (show (0 : Int) < (N : Int) by omega)
 have a2 := Int.tmod_lt_of_pos (-z) (show (0 : Int) < (N : Int) by omega)
 rw [Int.neg_tmod] at a2
 have a3 := Int.emod_nonneg (z.tmod (N : Int) + (N : Int)) (show (N : Int) ≠ 0 by omega)
 have a4 := Int.emod_lt_of_pos (z.tmod (N : Int) + (N : Int)) (show (0 : Int) < (N : Int) by omega)
 exact ⟨z.tmod (N : Int), ((z.tmod (N : Int) + (N : Int)) % (N : Int)).toNat, rfl, by omega, by omega, by rw [Int.tmod_eq_emod_of_nonneg (by omega)]; omega, by omega⟩
theorem stale {S : CtS} (hu : S.und = none) (n k i e : Int) (b : Bool) (hk : k = 4 ∨ k = 10) : stepC S n (stM k i e b) = ([], S) := by
 obtain ⟨a1, a2, a3, a4, a5⟩ := S
 cases hu
 unfold stepC
 split
 ·rw [if_neg (show ¬ (stM k i e b).kind = 1 from by show ¬ k = 1; omega), if_pos (show (stM k i e b).kind = 4 ∨ (stM k i e b).kind = 10 from hk)]
  rfl
 ·rfl
section
variable {W w w' : World} {p c kc : Nat} {n : Int} {k : Nat} {S : CtS} {out : List Ms} {v : Value}
theorem MOut.nth {B : Nat} (h : MOut B w v out) (h0 : 0 < out.length) : ∃ b o cap, v = .slice (some ⟨b, o, none⟩) out.length cap ∧ ∀ (j : Nat) (hj : j < out.length), ∃ A cA A' cA', w.cell? ⟨b, o + j * 21, none⟩ = some (.int .i64 out[j].kind) ∧ w.cell? ⟨b, o + j * 21 + 3, none⟩ = some (.int .i64 out[j].epoch) ∧
  w.cell? ⟨b, o + j * 21 + 18, none⟩ = some (.slice A out[j].mem.length cA) ∧ w.cell? ⟨b, o + j * 21 + 19, none⟩ = some (.int .i64 out[j].base) ∧ w.cell? ⟨b, o + j * 21 + 20, none⟩ = some (.slice A' out[j].old.length cA') ∧
  Row w A (fun _ => True) (out[j].mem.map (Value.int .i64)) ∧ Row w A' (fun _ => True) (out[j].old.map (Value.int .i64)) := by
 obtain ⟨ps, A, cap, rfl, rfl, -, -, h5⟩ := h
 rw [List.length_map] at h0
 obtain ⟨b, o, rfl, -, -⟩ := msRow_cells h5.row (j := 0) h0
 refine ⟨b, o, cap, rfl, fun j hj => ?_⟩
 rw [List.length_map] at hj
 obtain ⟨b', o', e, -, hc⟩ := msRow_cells h5.row (j := j) hj
 injection e with e
 injection e with e1 e2
 subst e1 e2
 have hin := h5.lists ps[j] (List.getElem_mem hj)
 rw [List.getElem_map]
 exact ⟨_, _, _, _, hc 0 _ rfl, hc 3 _ rfl, hc 18 _ rfl, hc 19 _ rfl, hc 20 _ rfl, hin.mem.mono fun _ _ _ => trivial, hin.old.mono fun _ _ _ => trivial⟩
theorem CtW.c0 {ck : Option Nat} (h : CtW W w p c ck n k S) : w.cell? ⟨c, 0, none⟩ = some (pOf ck) := by
 obtain ⟨F, q, Fd, Fs, g, R, s, st, h1, -⟩ := h
 obtain ⟨r, hb, -⟩ := h1.bd.ex
 exact hb.c0
theorem CtW.tick (h : CtW W w p c (some kc) n k S) (x : Int) (h0 : 0 ≤ x) (h1 : n + x ≤ 1099511627776) :
  Calls Tryz.prog 12 #[.pointer (some ⟨kc, 0, none⟩), .slice (some ⟨w.heap.size, 0, none⟩) 1 1] (w.alloc (.cells #[.int .i64 x] 2)) fun e w' => e = .returned (.int .i64 (n + x)) ∧ CtW W w' p c (some kc) (n + x) k S := by
 obtain ⟨F, q, Fd, Fs, g, R, s, st, hin, -⟩ := h
 have hka : Kp w (w.alloc (.cells #[.int .i64 x] 2)) := (Keeps.refl _ w).alloc _
 have hi := hin.kp hka
 have hlt : kc < w.heap.size := hin.cl.lt rfl
 have hcl : CkBlk (w.alloc (.cells #[.int .i64 x] 2)) kc n ∧ 0 ≤ n ∧ n ≤ 1099511627776 := hi.cl
 have ht : ticks n [x] = n + x := (show ticks n [x] = tickZ n x from rfl).trans (tick_by h0 h1)
 refine (ctick_any _ kc n (some ⟨w.heap.size, 0, none⟩) 1 [x] hcl.1 hcl.2.1 hcl.2.2 ((cints_new w [x] #[.int .i64 x] rfl).mono fun b _ (hb : b = w.heap.size) e => by omega) (Nat.le_refl _) (by unfold maxLen; omega)).mono ?_
 rintro e w' ⟨rfl, hb, hk⟩
 rw [ht] at hb ⊢
 have hdk := hi.dk kc rfl
 have hW : Kp W w' := ((hi.kpW.mono fun _ _ _ => trivial : Keeps (fun b => b ≠ kc) W _).trans hk).mono fun b hb2 _ e => by have := hdk.2.2; omega
 refine ⟨rfl, _, CtIn.at_ (q := q) (Fd := Fd) (Fs := Fs) (g := g) (R := R) (s := s) (st := st) ⟨⟨⟨hi.du.dv.d.keep (hk.mono fun b _ hb2 e => hdk.1 (e ▸ hb2)), hi.du.dv.gd, hW⟩, theSup.keep hi.du.su (hk.mono fun b _ hb2 e => hdk.2.1 (e ▸ hb2)), hi.du.ap, hi.du.gs, hi.du.on, hi.du.room, hi.du.sec⟩, hi.oth, hi.still, hi.pl, hi.txt, hi.bd.keep hk fun b hb2 e => (hi.dj b hb2).2.2.1 (by rw [e]), ⟨hb, by have := hcl.2.1; omega, h1⟩, hi.dj, hi.dk, hi.cb, hi.tb, hi.kb⟩⟩
end
set_option maxRecDepth 100000 in
set_option maxHeartbeats 1000000 in
theorem eqints_same (w : World) (A B : Option Addr) (c d : Nat) (l : List Int) (hA : Row w A (fun _ => True) (l.map (Value.int .i64))) (hB : Row w B (fun _ => True) (l.map (Value.int .i64))) (hm : l.length ≤ 9223372036854775807) :
  Calls Tryz.prog 24 #[.slice A l.length c, .slice B l.length d] w fun e w' => e = .returned (.bool true) ∧ Kp w w' := by
 have HA := Lib.hid hA
 have HB := Lib.hid hB
 obtain ⟨N, hN⟩ : ∃ N, l.length = N := ⟨_, rfl⟩
 have HN := Lib.hid hN
 rw [hN] at hm ⊢
 have t0 : ((N : Int) != (N : Int)) = false := by simp
 clear hA hB hN
 go_enter Tryz.func24, Tryz.ntmps24
 go_wp2_with fail
 go_loopw [5] (fun i wr => ∃ k : Nat, k ≤ N ∧ i = .int .i64 (k : Int) ∧ Hid (Kp w wr)) (fun i _ => N - (intOf i).toNat)
 case atStart => exact ⟨0, Nat.zero_le _, rfl, Lib.hid (Keeps.refl _ _)⟩
 case round =>
  obtain ⟨k, hk, rfl, HK⟩ := hrel
  by_cases hkN : k < N
  ·have hkI : (k : Int) < (N : Int) := by omega
   have hkl' : k < l.length := by rw [HN.out]; exact hkN
   have hkl : k < (l.map (Value.int .i64)).length := by rw [List.length_map]; exact hkl'
   obtain ⟨b, o, rfl, -, c0⟩ := (HA.out.keep HK.out).at_ hkl
   obtain ⟨b2, o2, rfl, -, c1⟩ := (HB.out.keep HK.out).at_ hkl
   rw [List.getElem_map] at c0 c1
   generalize l[k] = x at c0 c1
   have t1 : (x != x) = false := by simp
   have HK2 := Lib.hid HK.out.drew
   clear hkl hkl'
   go_wp2_with fail
   go_region
   go_wp2_with fail
   go_roundw
   case rel => exact ⟨k + 1, by omega, by go_num, HK2⟩
   case measure => simp [intOf]; omega
  ·obtain rfl : k = N := by omega
   clear hkN
   go_wp2_with fail
   go_ret
   exact ⟨rfl, HK.out⟩
end Go.Proofs.YtemkjodkmehffaaGreatDoor
namespace Go.Proofs.YtemkjodkmehffaaGreatDoor.controlPhases
open Go Go.RowKit Go.Joins
def psC (ph : Int) (l : List Int) : ChS := ⟨2, [1, 2, 3], [1, 2, 3], 0, [1, 2, 3], ph, l⟩
def psS (ph : Int) (l : List Int) : CtS := ⟨1, [1, 2], 2, some (psC ph l), fun _ => 0⟩
def phP (s : Int) (l : Bool) : Nat → CtS
 | 0 => psS 0 [1, 2, 3]
 | 1 => psS 0 [1, 2, 3]
 | j + 2 => (stepC (phP s l (j + 1)) 0 (stM 4 ((j + 1 : Nat) : Int) 2 ((((j + 1 : Nat) : Int) != s) || l))).2
theorem phP_next (s : Int) (l : Bool) (j : Nat) (h : 1 ≤ j) : phP s l (j + 1) = (stepC (phP s l j) 0 (stM 4 (j : Int) 2 (((j : Int) != s) || l))).2 := by
 cases j with
 | zero => omega
 | succ j => rfl
def phF (s : Int) (l f : Bool) : Nat → CtS
 | 0 => phP s l 4
 | 1 => phP s l 4
 | j + 2 => if ((((j + 1 : Nat) : Int) != s) || f) = true then (stepC (phF s l f (j + 1)) 0 (stM 10 ((j + 1 : Nat) : Int) 2 false)).2 else phF s l f (j + 1)
theorem phF_next (s : Int) (l f : Bool) (j : Nat) (h : 1 ≤ j) : phF s l f (j + 1) = if (((j : Int) != s) || f) = true then (stepC (phF s l f j) 0 (stM 10 (j : Int) 2 false)).2 else phF s l f j := by
 cases j with
 | zero => omega
 | succ j => rfl
theorem ph_done (k : Nat) (hk : k < 3) : phF ((k : Int) + 1) true true 4 = ⟨2, [1, 2, 3], 2, none, fun _ => 0⟩ := by
 have h : k = 0 ∨ k = 1 ∨ k = 2 := by omega
 rcases h with rfl | rfl | rfl <;> rfl
theorem ph_ready (k : Nat) (hk : k < 3) : phF ((k : Int) + 1) true false 4 = psS 1 [(k : Int) + 1] := by
 have h : k = 0 ∨ k = 1 ∨ k = 2 := by omega
 rcases h with rfl | rfl | rfl <;> rfl
theorem ph_not (k : Nat) (hk : k < 3) (f : Bool) : phF ((k : Int) + 1) false f 4 = psS 0 [(k : Int) + 1] := by
 have h : k = 0 ∨ k = 1 ∨ k = 2 := by omega
 cases f <;> rcases h with rfl | rfl | rfl <;> rfl
theorem ps_len (K : Int) (l : List Int) (s : Int) : ((psS s l).asks K (psC s l)).length = 3 := rfl
theorem ps_at (K s : Int) (l : List Int) (j : Nat) (hj : j < ((psS s l).asks K (psC s l)).length) : ∃ n : Int, ((psS s l).asks K (psC s l))[j] = askM K n (psC s l) 1 [1, 2] := by
 have hj' : j < 3 := hj
 have h : j = 0 ∨ j = 1 ∨ j = 2 := by omega
 rcases h with rfl | rfl | rfl
 ·exact ⟨1, rfl⟩
 ·exact ⟨2, rfl⟩
 ·exact ⟨3, rfl⟩
structure PsOut (w : World) (b o : Nat) (K : Int) : Prop where
 at_ : ∀ j : Nat, j < 3 → ∃ A cA A' cA', w.cell? ⟨b, o + j * 21, none⟩ = some (.int .i64 K) ∧ w.cell? ⟨b, o + j * 21 + 3, none⟩ = some (.int .i64 2) ∧ w.cell? ⟨b, o + j * 21 + 18, none⟩ = some (.slice A 3 cA) ∧ w.cell? ⟨b, o + j * 21 + 19, none⟩ = some (.int .i64 1) ∧ w.cell? ⟨b, o + j * 21 + 20, none⟩ = some (.slice A' 2 cA') ∧
  Row w A (fun _ => True) ([1, 2, 3].map (Value.int .i64)) ∧ Row w A' (fun _ => True) ([1, 2].map (Value.int .i64))
theorem PsOut.keep {w w' : World} {b o : Nat} {K : Int} (h : PsOut w b o K) (hk : Kp w w') : PsOut w' b o K := ⟨fun j hj => by
 obtain ⟨A, cA, A', cA', h1, h2, h3, h4, h5, h6, h7⟩ := h.at_ j hj
 exact ⟨A, cA, A', cA', hk.cell h1 trivial, hk.cell h2 trivial, hk.cell h3 trivial, hk.cell h4 trivial, hk.cell h5 trivial, h6.keep hk, h7.keep hk⟩⟩
theorem ps_out {w : World} {v : Value} {B : Nat} {s K : Int} {l : List Int} (h : MOut B w v ((psS s l).asks K (psC s l))) : ∃ b o cap, v = .slice (some ⟨b, o, none⟩) 3 cap ∧ PsOut w b o K := by
 obtain ⟨b, o, cap, h1, h2⟩ := h.nth (by rw [ps_len]; decide)
 refine ⟨b, o, cap, h1, ⟨fun j hj => ?_⟩⟩
 obtain ⟨A, cA, A', cA', h3⟩ := h2 j (by rw [ps_len]; exact hj)
 obtain ⟨n, e⟩ := ps_at K s l j (by rw [ps_len]; exact hj)
 rw [e] at h3
 exact ⟨A, cA, A', cA', h3⟩
set_option maxRecDepth 100000 in
set_option maxHeartbeats 8000000 in
theorem walk (w : World) (hT : theSup.T w) (n : Int) (_ : -9223372036854775808 ≤ n) (_ : n < 9223372036854775808) (l f : Bool) : Calls Tryz.prog 6 #[.int .i64 n, .bool l, .bool f] w fun e w' => e = .returned (.bool true) ∧ Below w.heap.size w w' := by
 have HT := Lib.hid hT
 clear hT
 obtain ⟨t, k0, ht, hr1, hr2, hrk, hk0⟩ := turn23 n 3 (by decide) (by decide)
 have HR1 := Lib.hid (show n.tmod 3 = t from ht)
 have HR2 := Lib.hid (show (t + 3).tmod 3 = (k0 : Int) from hrk)
 have HK2 := Lib.hid (show (-12 : Int) ≤ (k0 : Int) ∧ (k0 : Int) ≤ 12 by omega)
 have HK0 := Lib.hid hk0
 clear ht hrk
 go_enter Tryz.func6, Tryz.ntmps6
 go_wp2_with fail
 refine (show Calls _ _ _ _ _ from begun23 w HT.out).mono ?_
 rintro e w1 ⟨rfl, hk⟩
 have K1 := Lib.hid hk
 clear hk
 go_wp2_with (first | refine list_rem23 rfl (.tmp 20) (.const (.int .i64 3)) n 3 t rfl rfl rfl (by decide) (by decide) HR1.out hr1 hr2 ?_ | refine list_rem23 rfl (.tmp 22) (.const (.int .i64 3)) (t + 3) 3 (k0 : Int) rfl rfl rfl (by decide) (by decide) HR2.out HK2.out.1 HK2.out.2 ?_)
 obtain ⟨s, hs⟩ : ∃ s : Int, (1 : Int) + (k0 : Int) = s := ⟨_, rfl⟩
 have hse : s = (k0 : Int) + 1 := by omega
 have HSE := Lib.hid hse
 rw [hs]
 clear hs hse hk0 HK2 HR1 HR2 hr1 hr2
 refine (show Calls _ _ _ _ _ from dv_new K1.out 2 (by decide) (by decide) 2 rfl).mono ?_
 rintro e w2 ⟨p, Fd, rfl, hd, -, -⟩
 have HM := Lib.hid (makeW HT.out hd [1, 2] #[.int .i64 1, .int .i64 2] rfl (by decide) 2 rfl)
 clear hd K1
 go_wp2_with fail
 refine (show Calls _ _ _ _ _ from HM.out).mono ?_
 rintro e w3 ⟨c, kc, rfl, ha⟩
 have HJ := Lib.hid (ha.join HT.out 3 (by decide) rfl [1, 2, 3] rfl rfl)
 clear ha HM
 go_wp2_with fail
 refine (show Calls _ _ _ _ _ from HJ.out).mono ?_
 rintro e w4 ⟨v, rfl, hs⟩
 have HA := Lib.hid (show CtW w w4 p c (some kc) 0 (1 + 1) (phP s l 1) from hs.1)
 obtain ⟨A4, cap4, rfl⟩ := hs.2.len
 rw [show (beatC (begC (start23 [1, 2]) [1, 2, 3] [1, 2, 3] 0) 0).1.length = 3 from rfl]
 clear hs HJ
 go_wp2_with fail
 go_loopw [11] (fun i wr => ∃ q : Nat, 1 ≤ q ∧ q ≤ 4 ∧ i = .int .i64 (q : Int) ∧ Hid (CtW w wr p c (some kc) 0 (1 + q) (phP s l q))) (fun i _ => 4 - (intOf i).toNat)
 case atStart => exact ⟨1, by decide, by decide, rfl, HA⟩
 case round =>
  clear HA
  obtain ⟨q, q1, q4, rfl, HQ⟩ := hrel
  by_cases hlt : q ≤ 3
  ·have hlt' : (q : Int) ≤ 3 := by omega
   obtain ⟨B, hB⟩ : ∃ B, (((q : Int) != s) || l) = B := ⟨_, rfl⟩
   obtain ⟨u, hu⟩ : ∃ u, msV (stM 4 (q : Int) 2 B) msA0 = u := ⟨_, rfl⟩
   have HU := Lib.hid hu
   have HS := Lib.hid (HQ.out.st HT.out 4 (q : Int) 2 B (by omega) u hu _ _ rfl)
   have HN := Lib.hid (hB ▸ phP_next s l q q1)
   clear hu HQ
   cases hb : ((q : Int) != s) with
   | true =>
    rw [hb, Bool.true_or] at hB
    subst hB
    go_wp2_with (refine list_buildM rfl _ rfl u (by rw [← HU.out]; kernel_rfl) ?_)
    refine (show Calls _ _ _ _ _ from HS.out).mono ?_
    rintro e w5 ⟨v5, rfl, hs⟩
    have HQ2 := Lib.hid (show CtW w w5 p c (some kc) 0 (1 + (q + 1)) (phP s l (q + 1)) from by rw [HN.out]; exact hs.1)
    clear hs HS HU HN hb
    go_wp2_with fail
    go_roundw
    case rel => exact ⟨q + 1, by omega, by omega, by go_num, HQ2⟩
    case measure => simp [intOf]; omega
   | false =>
    rw [hb, Bool.false_or] at hB
    subst hB
    go_wp2_with (refine list_buildM rfl _ rfl u (by rw [← HU.out]; kernel_rfl) ?_)
    refine (show Calls _ _ _ _ _ from HS.out).mono ?_
    rintro e w5 ⟨v5, rfl, hs⟩
    have HQ2 := Lib.hid (show CtW w w5 p c (some kc) 0 (1 + (q + 1)) (phP s l (q + 1)) from by rw [HN.out]; exact hs.1)
    clear hs HS HU HN hb
    go_wp2_with fail
    go_roundw
    case rel => exact ⟨q + 1, by omega, by omega, by go_num, HQ2⟩
    case measure => simp [intOf]; omega
  ·obtain rfl : q = 4 := by omega
   have hlt' : ¬ ((4 : Nat) : Int) ≤ 3 := by decide
   have HA := Lib.hid (show CtW w wr p c (some kc) 0 (5 + 1) (phF s l f 1) from HQ.out.more _ (by decide) (by decide))
   clear HQ hlt
   go_wp2_with fail
   go_loopw [12] (fun i wr => ∃ q : Nat, 1 ≤ q ∧ q ≤ 4 ∧ i = .int .i64 (q : Int) ∧ Hid (CtW w wr p c (some kc) 0 (5 + q) (phF s l f q))) (fun i _ => 4 - (intOf i).toNat)
   case atStart => exact ⟨1, by decide, by decide, rfl, HA⟩
   case round =>
    clear HA hlt'
    obtain ⟨q, q1, q4, rfl, HQ⟩ := hrel
    by_cases hlt : q ≤ 3
    ·have hlt' : (q : Int) ≤ 3 := by omega
     obtain ⟨u, hu⟩ : ∃ u, msV (stM 10 (q : Int) 2 false) msA0 = u := ⟨_, rfl⟩
     have HU := Lib.hid hu
     have HS := Lib.hid (HQ.out.st HT.out 10 (q : Int) 2 false (by omega) u hu _ _ rfl)
     have HN := Lib.hid (phF_next s l f q q1)
     have HQM := Lib.hid (HQ.out.more (5 + (q + 1)) (by omega) (by omega))
     clear hu HQ
     cases hb : ((q : Int) != s) with
     | true =>
      have HN2 := Lib.hid (HN.out.trans (if_pos (by rw [hb]; rfl)))
      clear HN HQM
      go_wp2_with (refine list_buildM rfl _ rfl u (by rw [← HU.out]; kernel_rfl) ?_)
      refine (show Calls _ _ _ _ _ from HS.out).mono ?_
      rintro e w5 ⟨v5, rfl, hs⟩
      have HQ2 := Lib.hid (show CtW w w5 p c (some kc) 0 (5 + (q + 1)) (phF s l f (q + 1)) from by rw [HN2.out]; exact hs.1)
      clear hs HS HU HN2 hb
      go_wp2_with fail
      go_roundw
      case rel => exact ⟨q + 1, by omega, by omega, by go_num, HQ2⟩
      case measure => simp [intOf]; omega
     | false =>
      cases f with
      | true =>
       have HN2 := Lib.hid (HN.out.trans (if_pos (by rw [hb]; rfl)))
       clear HN HQM
       go_wp2_with (refine list_buildM rfl _ rfl u (by rw [← HU.out]; kernel_rfl) ?_)
       refine (show Calls _ _ _ _ _ from HS.out).mono ?_
       rintro e w5 ⟨v5, rfl, hs⟩
       have HQ2 := Lib.hid (show CtW w w5 p c (some kc) 0 (5 + (q + 1)) (phF s l true (q + 1)) from by rw [HN2.out]; exact hs.1)
       clear hs HS HU HN2 hb
       go_wp2_with fail
       go_roundw
       case rel => exact ⟨q + 1, by omega, by omega, by go_num, HQ2⟩
       case measure => simp [intOf]; omega
      | false =>
       have HQ2 := Lib.hid (show CtW w wr p c (some kc) 0 (5 + (q + 1)) (phF s l false (q + 1)) from by rw [HN.out, if_neg (by rw [hb]; decide)]; exact HQM.out)
       clear HN HQM HS HU
       go_wp2_with fail
       go_roundw
       case rel => exact ⟨q + 1, by omega, by omega, by go_num, HQ2⟩
       case measure => simp [intOf]; omega
    ·obtain rfl : q = 4 := by omega
     have hlt' : ¬ ((4 : Nat) : Int) ≤ 3 := by decide
     have HA := HQ
     clear HQ hlt
     cases l with
     | true =>
      cases f with
      | true =>
       rw [HSE.out, ph_done k0 HK0.out] at HA
       have HB := Lib.hid (HA.out.beat HT.out (by decide))
       clear HA
       go_wp2_with fail
       refine (show Calls _ _ _ _ _ from HB.out).mono ?_
       rintro e w5 ⟨v5, rfl, hs⟩
       obtain ⟨A5, cap5, rfl⟩ := hs.2.len
       have HA := Lib.hid (show CtW w w5 p c (some kc) 0 _ ⟨2, [1, 2, 3], 2, none, fun _ => 0⟩ from hs.1)
       have hl5 : (beatC (⟨2, [1, 2, 3], 2, none, fun _ => 0⟩ : CtS) 0).1.length = 0 := rfl
       rw [hl5]
       clear hs HB hl5
       go_wp2_with fail
       refine (show Calls _ _ _ _ _ from HA.out.epoch).mono ?_
       rintro e w6 ⟨rfl, rfl⟩
       go_wp2_with fail
       refine (show Calls _ _ _ _ _ from HA.out.under).mono ?_
       rintro e w6 ⟨rfl, rfl⟩
       rw [show (⟨2, [1, 2, 3], 2, none, fun _ => 0⟩ : CtS).underZ = 0 from rfl]
       have HE := Lib.hid HA.out.kpW
       clear HA
       go_wp2_with fail
       go_ret
       exact ⟨rfl, HE.out.below⟩
      | false =>
       rw [HSE.out, ph_ready k0 HK0.out] at HA
       have HB := Lib.hid (show Calls Tryz.prog 15 #[.pointer (some ⟨c, 0, none⟩)] wr fun e w' => ∃ v, e = .returned v ∧ SaidP w p c (some kc) 0 (5 + 4 + 1) (psS 1 [(k0 : Int) + 1]) ((psS 1 [(k0 : Int) + 1]).asks 7 (psC 1 [(k0 : Int) + 1])) v w' from HA.out.beat HT.out (by decide))
       clear HA
       go_wp2_with fail
       refine (show Calls _ _ _ _ _ from HB.out).mono ?_
       rintro e w5 ⟨v5, rfl, hs⟩
       obtain ⟨b, o, cap, rfl, hps⟩ := ps_out hs.2
       have HA := Lib.hid hs.1
       have HP := Lib.hid hps
       clear hs hps HB
       go_wp2_with fail
       go_loopw [16] (fun i wr => ∃ q : Nat, q ≤ 3 ∧ i = .int .i64 (q : Int) ∧ Hid (Kp w5 wr)) (fun i _ => 3 - (intOf i).toNat)
       case atStart => exact ⟨0, by decide, rfl, Lib.hid (Keeps.refl _ _)⟩
       case round =>
        clear hlt'
        obtain ⟨q, q3, rfl, HK⟩ := hrel
        by_cases hlt : q < 3
        ·have hlt' : (q : Int) < 3 := by omega
         obtain ⟨A, cA, A', cA', m0, m3, m18, m19, m20, hr, hr'⟩ := (HP.out.keep HK.out).at_ q hlt
         have HR := Lib.hid hr
         have HR' := Lib.hid hr'
         clear hr hr'
         go_wp2_with fail
         have e1 := heap_alloc_new wr (.cells #[.int .i64 1, .int .i64 2] 3)
         have k1 : Kp wr (wr.alloc (.cells #[.int .i64 1, .int .i64 2] 3)) := (Keeps.refl _ wr).alloc _
         refine (show Calls _ _ _ _ _ from eqints_same _ A' (some ⟨wr.heap.size, 0, none⟩) cA' 2 [1, 2] (HR'.out.keep k1) (Row.fresh (F := fun _ => True) wr #[.int .i64 1, .int .i64 2] 3 (0, 0) _ rfl trivial _ rfl) (by decide)).mono ?_
         rintro e w6 ⟨rfl, hk6⟩
         have HK6 := Lib.hid (k1.trans hk6)
         have x18 := HK6.out.cell m18 trivial
         clear e1 k1 hk6 m0 m3 m18 m19 m20 HR'
         go_wp2_with fail
         have k1 : Kp w6 (w6.alloc (.cells #[.int .i64 1, .int .i64 2, .int .i64 3] 3)) := (Keeps.refl _ w6).alloc _
         refine (show Calls _ _ _ _ _ from eqints_same _ A (some ⟨w6.heap.size, 0, none⟩) cA 3 [1, 2, 3] ((HR.out.keep HK6.out).keep k1) (Row.fresh (F := fun _ => True) w6 #[.int .i64 1, .int .i64 2, .int .i64 3] 3 (0, 0) _ rfl trivial _ rfl) (by decide)).mono ?_
         rintro e w7 ⟨rfl, hk7⟩
         have HK7 := Lib.hid ((HK.out.trans HK6.out).trans (k1.trans hk7))
         clear k1 hk7 HK6 HR HK x18
         go_wp2_with fail
         go_roundw
         case rel => exact ⟨q + 1, by omega, by go_num, HK7⟩
         case measure => simp [intOf]; omega
        ·obtain rfl : q = 3 := by omega
         have hlt' : ¬ ((3 : Nat) : Int) < 3 := by decide
         have HF := Lib.hid (HA.out.kp HK.out)
         clear HA HK hlt HP
         go_wp2_with fail
         refine (show Calls _ _ _ _ _ from HF.out.epoch).mono ?_
         rintro e w6 ⟨rfl, rfl⟩
         rw [show (psS 1 [(k0 : Int) + 1]).epoch = 1 from rfl]
         go_wp2_with fail
         refine (show Calls _ _ _ _ _ from HF.out.under).mono ?_
         rintro e w6 ⟨rfl, rfl⟩
         rw [show (psS 1 [(k0 : Int) + 1]).underZ = 2 from rfl]
         have HE := Lib.hid HF.out.kpW
         clear HF
         go_wp2_with fail
         go_ret
         exact ⟨rfl, HE.out.below⟩
     | false =>
      have HA' : CtW w wr p c (some kc) 0 (5 + 4) (psS 0 [(k0 : Int) + 1]) := by rw [← ph_not k0 HK0.out f, ← HSE.out]; exact HA.out
      clear HA
      have HA := Lib.hid HA'
      clear HA'
      have HB := Lib.hid (show Calls Tryz.prog 15 #[.pointer (some ⟨c, 0, none⟩)] wr fun e w' => ∃ v, e = .returned v ∧ SaidP w p c (some kc) 0 (5 + 4 + 1) (psS 0 [(k0 : Int) + 1]) ((psS 0 [(k0 : Int) + 1]).asks 3 (psC 0 [(k0 : Int) + 1])) v w' from HA.out.beat HT.out (by decide))
      clear HA
      go_wp2_with fail
      refine (show Calls _ _ _ _ _ from HB.out).mono ?_
      rintro e w5 ⟨v5, rfl, hs⟩
      obtain ⟨b, o, cap, rfl, hps⟩ := ps_out hs.2
      have HA := Lib.hid hs.1
      have HP := Lib.hid hps
      clear hs hps HB
      go_wp2_with fail
      go_loopw [16] (fun i wr => ∃ q : Nat, q ≤ 3 ∧ i = .int .i64 (q : Int) ∧ Hid (Kp w5 wr)) (fun i _ => 3 - (intOf i).toNat)
      case atStart => exact ⟨0, by decide, rfl, Lib.hid (Keeps.refl _ _)⟩
      case round =>
       clear hlt'
       obtain ⟨q, q3, rfl, HK⟩ := hrel
       by_cases hlt : q < 3
       ·have hlt' : (q : Int) < 3 := by omega
        obtain ⟨A, cA, A', cA', m0, m3, m18, m19, m20, hr, hr'⟩ := (HP.out.keep HK.out).at_ q hlt
        have HR := Lib.hid hr
        have HR' := Lib.hid hr'
        clear hr hr'
        go_wp2_with fail
        have e1 := heap_alloc_new wr (.cells #[.int .i64 1, .int .i64 2] 3)
        have k1 : Kp wr (wr.alloc (.cells #[.int .i64 1, .int .i64 2] 3)) := (Keeps.refl _ wr).alloc _
        refine (show Calls _ _ _ _ _ from eqints_same _ A' (some ⟨wr.heap.size, 0, none⟩) cA' 2 [1, 2] (HR'.out.keep k1) (Row.fresh (F := fun _ => True) wr #[.int .i64 1, .int .i64 2] 3 (0, 0) _ rfl trivial _ rfl) (by decide)).mono ?_
        rintro e w6 ⟨rfl, hk6⟩
        have HK6 := Lib.hid (k1.trans hk6)
        have x18 := HK6.out.cell m18 trivial
        clear e1 k1 hk6 m0 m3 m18 m19 m20 HR'
        go_wp2_with fail
        have k1 : Kp w6 (w6.alloc (.cells #[.int .i64 1, .int .i64 2, .int .i64 3] 3)) := (Keeps.refl _ w6).alloc _
        refine (show Calls _ _ _ _ _ from eqints_same _ A (some ⟨w6.heap.size, 0, none⟩) cA 3 [1, 2, 3] ((HR.out.keep HK6.out).keep k1) (Row.fresh (F := fun _ => True) w6 #[.int .i64 1, .int .i64 2, .int .i64 3] 3 (0, 0) _ rfl trivial _ rfl) (by decide)).mono ?_
        rintro e w7 ⟨rfl, hk7⟩
        have HK7 := Lib.hid ((HK.out.trans HK6.out).trans (k1.trans hk7))
        clear k1 hk7 HK6 HR HK x18
        go_wp2_with fail
        go_roundw
        case rel => exact ⟨q + 1, by omega, by go_num, HK7⟩
        case measure => simp [intOf]; omega
       ·obtain rfl : q = 3 := by omega
        have hlt' : ¬ ((3 : Nat) : Int) < 3 := by decide
        have HF := Lib.hid (HA.out.kp HK.out)
        clear HA HK hlt HP
        go_wp2_with fail
        refine (show Calls _ _ _ _ _ from HF.out.epoch).mono ?_
        rintro e w6 ⟨rfl, rfl⟩
        rw [show (psS 0 [(k0 : Int) + 1]).epoch = 1 from rfl]
        go_wp2_with fail
        refine (show Calls _ _ _ _ _ from HF.out.under).mono ?_
        rintro e w6 ⟨rfl, rfl⟩
        rw [show (psS 0 [(k0 : Int) + 1]).underZ = 2 from rfl]
        have HE := Lib.hid HF.out.kpW
        clear HF
        go_wp2_with fail
        go_ret
        exact ⟨rfl, HE.out.below⟩
end Go.Proofs.YtemkjodkmehffaaGreatDoor.controlPhases
namespace Go.Proofs.YtemkjodkmehffaaGreatDoor.controlPhases
open Go Go.ChangeShapes Go.WideShapes Go.ChangeAt Go.RowKit
theorem walked (W : World) (n : Int) (wn : (Lit.int .i64 n).wf = true) (l : Bool) (f : Bool) (hT : Taken W) :
  Calls Tryz.prog 6 #[.int .i64 n, .bool l, .bool f] W fun e W' => e = .returned (.bool true) ∧ Below W.heap.size W W' := by
 exact walk W hT n (by have := bounds_i64 wn; omega) (by have := bounds_i64 wn; omega) l f
set_option maxRecDepth 100000 in
theorem lawWalk (H : Type) (enc : TypeId × Value → H) : LawWalk H enc Tryz.prog 6 Tryz.f6 (laidMetH Tryz.prog listed) := by
 intro W base args ds p hval hA hL
 rw [Tryz.params6] at hA hval
 obtain ⟨v0, vs0, d0, ds0, p0, q0, hargs, rfl, rfl, h0, r0⟩ := trodAll_cons hA
 obtain ⟨v1, vs1, d1, ds1, p1, q1, rfl, rfl, rfl, h1, r1⟩ := trodAll_cons r0
 obtain ⟨v2, vs2, d2, ds2, p2, q2, rfl, rfl, rfl, h2, r2⟩ := trodAll_cons r1
 obtain ⟨rfl, rfl, rfl⟩ := trodAll_nil r2
 obtain rfl : args = #[v0, v1, v2] := by cases args; simp_all
 obtain ⟨n0, rfl, _, _, w0⟩ := open_int Tryz.underlying3 (hval 0 3 v0 rfl rfl) h0
 obtain ⟨n1, rfl, _, _⟩ := open_bool Tryz.underlying4 (hval 1 4 v1 rfl rfl) h1
 obtain ⟨n2, rfl, _, _⟩ := open_bool Tryz.underlying4 (hval 2 4 v2 rfl rfl) h2
 exact walked W n0 w0 n1 n2 (taken_of hL)
set_option maxRecDepth 100000 in
theorem lifted (os : Os) (started : os.Started) (H : Type) (enc : TypeId × Value → H) :
  ReturnsInHanded {} Tryz.checked os 6 .any (fun w args => (Rows.controlPhasesSpec.pre enc Tryz.prog Tryz.f6 [] false w args ∧ laidMetH Tryz.prog listed w) ∧ sizedMet enc Tryz.prog Tryz.f6 (OpenSpec.ofChange Rows.controlPhasesSpec) false w args)
   (Rows.controlPhasesSpec.post enc Tryz.prog Tryz.f6 false true false false) :=
 law_laid (C := Tryz.checked) (X := laidMetH Tryz.prog listed) (tb := 4) (fun _ _ hh h => h.of_heap hh) own started (by kernel_rfl) Tryz.func6
  (ChangeSpec.witness_shaped (enc := enc) (C := Tryz.checked) (os := os) (X := fun w _ => laidMetH Tryz.prog listed w) false (World.doorLaid Tryz.prog 400 os) #[.int .i64 0, .bool false, .bool false] 8 rfl (World.shaped_of_RefB (by kernel_rfl) (by kernel_rfl)) (by kernel_rfl) (by kernel_rfl) (by kernel_rfl) (door_met os _))
  laidOut (by kernel_rfl) (by kernel_rfl) Tryz.underlying4 rfl (fun ds h => by match ds, h with | [_, _, _], _ => rfl) (lawWalk H enc)
set_option maxRecDepth 100000 in
theorem over : Rows.controlPhasesRow.holds Tryz.pinned (OpenSpec.ofChange Rows.controlPhasesSpec) :=
 OpenClaim.holds_of_wide 6 Tryz.f6 rfl rfl rfl rfl rfl rfl rfl ⟨rfl, rfl, rfl, rfl, rfl⟩ rfl rfl rfl rfl rfl (by kernel_rfl) Tryz.func6 (by kernel_rfl)
  (of_decide_eq_true (by kernel_rfl)) (by unfold Func.isWrapper; first | (rw [if_pos (by decide +kernel)]; kernel_rfl) | (rw [if_neg (by decide +kernel)]; exact ⟨rfl, rfl⟩))
  (fun os started H enc _ => lifted os started H enc)
theorem proved : Rows.ControlPhasesCardSaid :=
 Claim7.holds_tied_plain_at .later [] Rows.controlPhasesCard.laidKinds true (true, Rows.controlPhasesCard.stood.harness.2) false
  over (fun _ h => by cases h) (by kernel_rfl) (fun _ h => by cases h) controlPhases_row_tie rfl ⟨rfl, rfl⟩ (by kernel_rfl) rfl
  (fun f fn hf hfn => by
   obtain rfl : f = 6 := Option.some.inj ((show Tryz.prog.funcNamed "icehouse/icehouselaw23.ControlPhases" = some 6 by kernel_rfl).symm.trans hf) |>.symm
   obtain rfl : fn = Tryz.f6 := (Option.some.inj (Tryz.func6.symm.trans hfn)).symm
   exact ⟨by kernel_rfl, fun j t ht => by
    rw [Tryz.params6] at ht
    have hm : t ∈ [3, 4, 4] := by simpa using Array.mem_of_getElem? ht
    have hall : ([3, 4, 4].all fun u => !Tryz.prog.wantsStandIn u) = true := by kernel_rfl
    exact (show Tryz.prog.wantsStandIn t = false by simpa using List.all_eq_true.1 hall t hm)⟩)
  (by kernel_rfl)
#print axioms proved
end Go.Proofs.YtemkjodkmehffaaGreatDoor.controlPhases
