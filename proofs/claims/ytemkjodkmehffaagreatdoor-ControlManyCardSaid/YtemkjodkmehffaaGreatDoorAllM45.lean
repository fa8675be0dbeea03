/-
  CtBegun, CtTurn, CtGoes: texts of mine, joined.
-/
import Derived.Test.YtemkjodkmehffaaGreatDoorAllM44
import Derived.Outline
import Derived.Test.YtemkjodkmehffaaGreatDoorAllM16
namespace Go.Proofs.YtemkjodkmehffaaGreatDoor
open Go Go.RowKit Go.Joins
def bgS (lacks : List Int) (ph : Int) : CtS := ⟨1, [1], 2, some ⟨2, [1, 2], [1, 2], 0, [1, 2], ph, lacks⟩, fun _ => 0⟩
def bgJ : Nat → CtS
 | 0 => bgS [1, 2] 0
 | 1 => bgS [1, 2] 0
 | 2 => bgS [2] 0
 | _ => bgS [1, 2] 1
def bgO : Nat → List Ms
 | 2 => (beatC (bgS [1, 2] 1) 0).1
 | _ => []
theorem bg_next (j : Nat) (h1 : 1 ≤ j) (h2 : j ≤ 2) : stepC (bgJ j) 0 (stM 4 (j : Int) 2 true) = (bgO j, bgJ (j + 1)) := by
 have hh : j = 1 ∨ j = 2 := by omega
 rcases hh with rfl | rfl
 ·rfl
 ·rfl
theorem bg_one : stepC (bgS [1, 2] 1) 0 (stM 10 1 2 false) = ([], bgS [2] 1) := rfl
theorem bg_two : stepC (bgS [2] 1) 0 (stM 10 2 2 false) = ([tellM 11 1 2 0 [1, 2], tellM 11 2 2 0 [1, 2]], ⟨2, [1, 2], 2, none, fun _ => 0⟩) := rfl
set_option maxRecDepth 100000 in
set_option maxHeartbeats 4000000 in
theorem begun23 (w : World) (hT : theSup.T w) : Calls Tryz.prog 8 #[] w fun e w' => e = .returned (.bool true) ∧ Kp w w' := by
 have HT := Lib.hid hT
 clear hT
 go_enter Tryz.func8, Tryz.ntmps8
 go_wp2_with fail
 refine (show Calls _ _ _ _ _ from dv_new (Keeps.refl _ w) 2 (by decide) (by decide) 2 rfl).mono ?_
 rintro e w1 ⟨p, Fd, rfl, hd, -, -⟩
 have HM := Lib.hid (makeW HT.out hd [1] #[.int .i64 1] rfl (by decide) 1 rfl)
 clear hd
 go_wp2_with fail
 refine (show Calls _ _ _ _ _ from HM.out).mono ?_
 rintro e w2 ⟨c, kc, rfl, ha⟩
 have HA := Lib.hid ha
 clear ha HM
 go_wp2_with fail
 refine (show Calls _ _ _ _ _ from HA.out.join HT.out 2 (by decide) rfl [1, 2] rfl rfl).mono ?_
 rintro e w3 ⟨v, rfl, hs⟩
 have HA3 := Lib.hid (show CtW w w3 p c (some kc) 0 2 (bgJ 1) from hs.1)
 obtain ⟨b, o, cap, rfl, m0, m3⟩ := hs.2.fst (askM 3 1 ⟨2, [1, 2], [1, 2], 0, [1, 2], 0, [1, 2]⟩ 1 [1]) [askM 3 2 ⟨2, [1, 2], [1, 2], 0, [1, 2], 0, [1, 2]⟩ 1 [1]] rfl
 have m0' : w3.cell? ⟨b, o, none⟩ = some (.int .i64 3) := m0
 have m3' : w3.cell? ⟨b, o + 3, none⟩ = some (.int .i64 2) := m3
 rw [show (beatC (begC (start23 [1]) [1, 2] [1, 2] 0) 0).1.length = 2 from rfl]
 clear hs HA m0 m3
 go_wp2_with fail
 refine (show Calls _ _ _ _ _ from HA3.out.under).mono ?_
 rintro e w4 ⟨rfl, rfl⟩
 rw [show (bgJ 1).underZ = 2 from rfl]
 go_wp2_with fail
 refine (show Calls _ _ _ _ _ from HA3.out.epoch).mono ?_
 rintro e w4 ⟨rfl, rfl⟩
 rw [show (bgJ 1).epoch = 1 from rfl]
 clear m0' m3'
 go_wp2_with fail
 go_loopw [5] (fun i wr => ∃ j : Nat, 1 ≤ j ∧ j ≤ 3 ∧ i = .int .i64 (j : Int) ∧ Hid (CtW w wr p c (some kc) 0 (1 + j) (bgJ j))) (fun i _ => 3 - (intOf i).toNat)
 case atStart => exact ⟨1, by decide, by decide, rfl, HA3⟩
 case round =>
  obtain ⟨j, h1, h3, rfl, HJ⟩ := hrel
  by_cases hlt : j ≤ 2
  ·have hlt' : (j : Int) ≤ 2 := by omega
   obtain ⟨u, hu⟩ : ∃ u, msV (stM 4 (j : Int) 2 true) msA0 = u := ⟨_, rfl⟩
   have HU := Lib.hid hu
   have HS := Lib.hid (HJ.out.st HT.out 4 (j : Int) 2 true (by omega) u hu _ _ (bg_next j h1 hlt))
   clear hu
   go_wp2_with (refine list_buildM rfl _ rfl u (by rw [← HU.out]; kernel_rfl) ?_)
   refine (show Calls _ _ _ _ _ from HS.out).mono ?_
   rintro e w4 ⟨v, rfl, hs⟩
   have HJ2 := Lib.hid (show CtW w w4 p c (some kc) 0 (1 + (j + 1)) (bgJ (j + 1)) from hs.1)
   clear hs HS HJ HU
   go_wp2_with fail
   go_roundw
   case rel => exact ⟨j + 1, by omega, by omega, by go_num, HJ2⟩
   case measure => simp [intOf]; omega
  ·obtain rfl : j = 3 := by omega
   have hlt' : ¬ ((3 : Nat) : Int) ≤ 2 := by decide
   obtain ⟨u, hu⟩ : ∃ u, msV (stM 10 1 2 false) msA0 = u := ⟨_, rfl⟩
   obtain ⟨u2, hu2⟩ : ∃ u, msV (stM 10 2 2 false) msA0 = u := ⟨_, rfl⟩
   have HU := Lib.hid hu
   have HU2 := Lib.hid hu2
   have HS := Lib.hid (HJ.out.st HT.out 10 1 2 false (by decide) u hu _ _ bg_one)
   clear hu hu2 hlt
   go_wp2_with (refine list_buildM rfl _ rfl u (by rw [← HU.out]; kernel_rfl) ?_)
   refine (show Calls _ _ _ _ _ from HS.out).mono ?_
   rintro e w4 ⟨v, rfl, hs⟩
   have HS2 := Lib.hid (hs.1.st HT.out 10 2 2 false (by decide) u2 HU2.out _ _ bg_two)
   clear hs HS HU HJ
   go_wp2_with (refine list_buildM rfl _ rfl u2 (by rw [← HU2.out]; kernel_rfl) ?_)
   refine (show Calls _ _ _ _ _ from HS2.out).mono ?_
   rintro e w5 ⟨v, rfl, hs⟩
   have HA5 := Lib.hid hs.1
   obtain ⟨b, o, cap, rfl, m0, m3⟩ := hs.2.fst _ _ rfl
   have m0' : w5.cell? ⟨b, o, none⟩ = some (.int .i64 11) := m0
   clear hs HS2 HU2 m0 m3
   go_wp2_with fail
   refine (show Calls _ _ _ _ _ from HA5.out.epoch).mono ?_
   rintro e w6 ⟨rfl, rfl⟩
   go_wp2_with fail
   refine (show Calls _ _ _ _ _ from HA5.out.under).mono ?_
   rintro e w6 ⟨rfl, rfl⟩
   rw [show (⟨2, [1, 2], 2, none, fun _ => 0⟩ : CtS).underZ = 0 from rfl]
   go_wp2_with fail
   refine (show Calls _ _ _ _ _ from HA5.out.mem).mono ?_
   rintro e w6 ⟨A, cA, rfl, -, hk6⟩
   have HK := Lib.hid (HA5.out.kpW.trans hk6)
   clear hk6
   go_wp2_with fail
   go_ret
   exact ⟨rfl, HK.out⟩
theorem rem_run23 {o : Oper} {ρ : Operand → Value} {w : World} {x y : Operand} {z t N : Int} (h1 : 1 ≤ N) (h2 : N ≤ 12) (hz : z.tmod N = t) (_h3 : -12 ≤ t) (_h4 : t ≤ 12) (ho : o.op = .binOp .rem 3 x y 3) (hx : ρ x = .int .i64 z) (hy : ρ y = .int .i64 N) : (execOp ρ o).run Tryz.prog w = .ok (.value (.int .i64 t)) w := by
 have hn : ¬ N = 0 := by omega
 unfold execOp
 rw [ho]
 go_simp
theorem list_rem23 {ops : Array Oper} {rest : List Oper} {o : Oper} {a : Act} {w : World} {Q : Exit → Act → World → Prop} (hgd : o.guard = none) (x y : Operand) (z N t : Int) (ho : o.op = .binOp .rem 3 x y 3) (hx : a.eval x = .int .i64 z) (hy : a.eval y = .int .i64 N)
  (h1 : 1 ≤ N) (h2 : N ≤ 12) (hz : z.tmod N = t) (h3 : -12 ≤ t) (h4 : t ≤ 12) (hK : wpList Tryz.prog ops Q rest (a.put o.dst (.int .i64 t)) w) : wpList Tryz.prog ops Q (o :: rest) a w :=
 wpList_plain hgd fun _ hh => by
  unfold Oper.wp
  rw [rem_run23 h1 h2 hz h3 h4 ho hx hy]
  exact hh _ _ hK
theorem turn23 (z : Int) (N : Nat) (h1 : 1 ≤ N) (h2 : N ≤ 12) : ∃ (t : Int) (k : Nat), z.tmod (N : Int) = t ∧ -12 ≤ t ∧ t ≤ 12 ∧ (t + (N : Int)).tmod (N : Int) = (k : Int) ∧ k < N := by
 have a1 := Int.tmod_lt_of_pos z (show (0 : Int) < (N : Int) by omega)
 have a2 := Int.tmod_lt_of_pos (-z) (show (0 : Int) < (N : Int) by omega)
 rw [Int.neg_tmod] at a2
 have a3 := Int.emod_nonneg (z.tmod (N : Int) + (N : Int)) (show (N : Int) ≠ 0 by omega)
 have a4 := Int.emod_lt_of_pos (z.tmod (N : Int) + (N : Int)) (show (0 : Int) < (N : Int) by omega)
 exact ⟨z.tmod (N : Int), ((z.tmod (N : Int) + (N : Int)) % (N : Int)).toNat, rfl, by omega, by omega, by rw [Int.tmod_eq_emod_of_nonneg (by omega)]; omega, by omega⟩
theorem stale {S : CtS} (hu : S.und = none) (n k i e : Int) (b : Bool) (hk : k = 4 ∨ k = 10) : stepC S n (stM k i e b) = ([], S) := by
 obtain ⟨a1, a2, a3, a4, a5⟩ := S
 cases hu
 unfold stepC
 split
 ·rw [if_neg (show ¬ (stM k i e b).kind = 1 from by show ¬ k = 1; omega), if_pos (show (stM k i e b).kind = 4 ∨ (stM k i e b).kind = 10 from hk)]
  rfl
 ·rfl
def lk23 (L : List Int) (j : Nat) : List Int := L.filter fun x => !(decide (x ≤ (j : Int)))
theorem lk_wo (L : List Int) (j : Nat) : wo (lk23 L j) ((j + 1 : Nat) : Int) = lk23 L (j + 1) := by
 unfold wo lk23
 rw [List.filter_filter]
 refine List.filter_congr fun x _ => ?_
 rw [Bool.eq_iff_iff]
 simp only [Bool.and_eq_true, Bool.not_eq_true', beq_eq_false_iff_ne, ne_eq, decide_eq_false_iff_not]
 omega
theorem lk_next {L : List Int} {j : Nat} (h : lk23 L j = []) : lk23 L (j + 1) = [] := by
 rw [← lk_wo, h]
 rfl
theorem lk_zero {L : List Int} (h : ∀ x ∈ L, 1 ≤ x ∧ x ≤ 5) : lk23 L 0 = L := by
 unfold lk23
 rw [List.filter_eq_self]
 intro x hx
 have := h x hx
 simp only [Bool.not_eq_true', decide_eq_false_iff_not]
 omega
theorem lk_five {L : List Int} (h : ∀ x ∈ L, 1 ≤ x ∧ x ≤ 5) : lk23 L 5 = [] := by
 unfold lk23
 rw [List.filter_eq_nil_iff]
 intro x hx
 have := h x hx
 simp only [Bool.not_eq_true', decide_eq_false_iff_not]
 omega
structure Gv where
 e : Int
 t : Int
 num : Int
 mem : List Int
 to_ : List Int
 all : List Int
 L : List Int
 f : Nat → Int
structure Gv.Ok (g : Gv) : Prop where
 ne : g.L ≠ []
 n1 : 1 ≤ g.num
 n2 : g.num ≤ 1099511627776
 f0 : g.f 0 = 0
 ls : ∀ x ∈ g.L, 1 ≤ x ∧ x ≤ 5
def Gv.at_ (g : Gv) (ph : Int) (l : List Int) : CtS := ⟨g.e, g.mem, g.t, some ⟨g.num, g.to_, g.all, 0, g.L, ph, l⟩, g.f⟩
def Gv.over (g : Gv) : CtS := ⟨g.num, g.to_, g.t, none, g.f⟩
def Gv.ready (g : Gv) (j : Nat) : CtS := if lk23 g.L j = [] then g.at_ 1 g.L else g.at_ 0 (lk23 g.L j)
def Gv.frozen (g : Gv) (j : Nat) : CtS := if lk23 g.L j = [] then g.over else g.at_ 1 (lk23 g.L j)
section
variable {g : Gv}
theorem Gv.note (h : g.Ok) (S : CtS) (k : Int) (b : Bool) (hk : k = 4 ∨ k = 10) (j : Nat) (hj : j < 5) : stepC S 0 (stM k ((j + 1 : Nat) : Int) g.num b) = noteC S 0 (stM k ((j + 1 : Nat) : Int) g.num b) := by
 have hn1 := h.n1
 have hm : mayM (stM k ((j + 1 : Nat) : Int) g.num b) = true := stM_may b (by omega) (by omega) ⟨by omega, h.n2⟩
 unfold stepC
 rw [if_pos ⟨rfl, hm⟩, if_neg (show ¬ (stM k ((j + 1 : Nat) : Int) g.num b).kind = 1 from by show ¬ k = 1; omega), if_pos (show (stM k ((j + 1 : Nat) : Int) g.num b).kind = 4 ∨ (stM k ((j + 1 : Nat) : Int) g.num b).kind = 10 from hk)]
theorem Gv.deaf (ph : Int) (l : List Int) (m : Ms) (hh : hearsB (some ⟨g.num, g.to_, g.all, 0, g.L, ph, l⟩) m = false) : noteC (g.at_ ph l) 0 m = ([], g.at_ ph l) := by
 show (if hearsB (some ⟨g.num, g.to_, g.all, 0, g.L, ph, l⟩) m = true then _ else _) = _
 rw [if_neg (by rw [hh]; decide)]
theorem Gv.hear (ph : Int) (l : List Int) (m : Ms) (hh : hearsB (some ⟨g.num, g.to_, g.all, 0, g.L, ph, l⟩) m = true) : noteC (g.at_ ph l) 0 m = if 0 < (wo l m.frm).length then ([], g.at_ ph (wo l m.frm)) else beatC (g.at_ (ph + 1) g.L) 0 := by
 show (if hearsB (some ⟨g.num, g.to_, g.all, 0, g.L, ph, l⟩) m = true then _ else _) = _
 rw [if_pos hh]
 unfold ChS.done
 by_cases h : 0 < (wo l m.frm).length
 ·rw [if_pos h, if_pos h]
  rfl
 ·rw [if_neg h, if_neg h]
  rfl
theorem Gv.ready_next (h : g.Ok) (j : Nat) (hj : j < 5) : (stepC (g.ready j) 0 (stM 4 ((j + 1 : Nat) : Int) g.num true)).2 = g.ready (j + 1) := by
 rw [Gv.note h _ 4 true (.inl rfl) j hj]
 unfold Gv.ready
 by_cases h0 : lk23 g.L j = []
 ·rw [if_pos h0, if_pos (lk_next h0), Gv.deaf 1 g.L _ (by simp [hearsB, stM])]
 ·rw [if_neg h0, Gv.hear 0 (lk23 g.L j) _ (by simp [hearsB, stM])]
  rw [show (stM 4 ((j + 1 : Nat) : Int) g.num true).frm = ((j + 1 : Nat) : Int) from rfl, lk_wo]
  by_cases h1 : lk23 g.L (j + 1) = []
  ·rw [if_pos h1, if_neg (by rw [h1]; decide)]
   rfl
  ·rw [if_neg h1, if_pos (List.length_pos_iff.2 h1)]
theorem Gv.frozen_next (h : g.Ok) (j : Nat) (hj : j < 5) : (stepC (g.frozen j) 0 (stM 10 ((j + 1 : Nat) : Int) g.num false)).2 = g.frozen (j + 1) := by
 unfold Gv.frozen
 by_cases h0 : lk23 g.L j = []
 ·rw [if_pos h0, if_pos (lk_next h0), stale rfl _ _ _ _ _ (.inr rfl)]
 ·rw [if_neg h0, Gv.note h _ 10 false (.inr rfl) j hj, Gv.hear 1 (lk23 g.L j) _ (by simp [hearsB, stM])]
  rw [show (stM 10 ((j + 1 : Nat) : Int) g.num false).frm = ((j + 1 : Nat) : Int) from rfl, lk_wo]
  by_cases h1 : lk23 g.L (j + 1) = []
  ·rw [if_pos h1, if_neg (by rw [h1]; decide)]
   have hb : beatC (g.at_ (1 + 1) g.L) 0 = if (0 : Int) < g.f 0 then ([], g.at_ (1 + 1) g.L) else (ChS.commits ⟨g.num, g.to_, g.all, 0, g.L, 1 + 1, g.L⟩, g.over) := rfl
   rw [hb, if_neg (by rw [h.f0]; decide)]
  ·rw [if_neg h1, if_pos (List.length_pos_iff.2 h1)]
theorem Gv.ready0 (h : g.Ok) : g.ready 0 = g.at_ 0 g.L := by
 unfold Gv.ready
 rw [lk_zero h.ls, if_neg h.ne]
theorem Gv.ready5 (h : g.Ok) : g.ready 5 = g.at_ 1 g.L := by
 unfold Gv.ready
 rw [if_pos (lk_five h.ls)]
theorem Gv.frozen0 (h : g.Ok) : g.frozen 0 = g.at_ 1 g.L := by
 unfold Gv.frozen
 rw [lk_zero h.ls, if_neg h.ne]
theorem Gv.frozen5 (h : g.Ok) : g.frozen 5 = g.over := by
 unfold Gv.frozen
 rw [if_pos (lk_five h.ls)]
end
end Go.Proofs.YtemkjodkmehffaaGreatDoor
