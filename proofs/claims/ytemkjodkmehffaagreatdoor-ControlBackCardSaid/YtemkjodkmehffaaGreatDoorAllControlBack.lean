/-
  CtTurn, ControlBackWalk, ControlBackProof: texts of mine, joined.
-/
import Derived.Test.YtemkjodkmehffaaGreatDoorAllA47
import Derived.Test.YtemkjodkmehffaaGreatDoorAllA15
import Derived.Test.YtemkjodkmehffaaGreatDoorAllA21
import Derived.Test.YtemkjodkmehffaaGreatDoorAllA18
import Derived.Test.YtemkjodkmehffaaGreatDoorCards
import Derived.SevenTiedAt
namespace Go.Proofs.YtemkjodkmehffaaGreatDoor
open Go Go.RowKit Go.Joins
theorem rem_run23 {o : Oper} {ρ : Operand → Value} {w : World} {x y : Operand} {z t N : Int} (h1 : 1 ≤ N) (h2 : N ≤ 12) (hz : z.tmod N = t) (_h3 : -12 ≤ t) (_h4 : t ≤ 12) (ho : o.op = .binOp .rem 3 x y 3) (hx : ρ x = .int .i64 z) (hy : ρ y = .int .i64 N) : (execOp ρ o).run Tryz.prog w = .ok (.value (.int .i64 t)) w := by
 have hn : ¬ N = 0 := by omega
 unfold execOp
 rw [ho]
 go_simp
theorem list_rem23 {ops : Array Oper} {rest : List Oper} {o : Oper} {a : Act} {w : World} {Q : Exit → Act → World → Prop} (hgd : o.guard = none) (x y : Operand) (z N t : Int) (ho : o.op = .binOp .rem 3 x y 3) (hx : a.eval x = .int .i64 z) (hy : a.eval y = .int .i64 N)
  (h1 : 1 ≤ N) (h2 : N ≤ 12) (hz : z.tmod N = t) (h3 : -12 ≤ t) (h4 : t ≤ 12) (hK : wpList Tryz.prog ops Q rest (a.put o.dst (.int .i64 t)) w) : wpList Tryz.prog ops Q (o :: rest) a w :=
 wpList_plain hgd fun _ hh => by
  unfold Oper.wp
  rw [rem_run23 h1 h2 hz h3 h4 ho hx hy]
  exact hh _ _ hK
theorem turn23 (z : Int) (N : Nat) (h1 : 1 ≤ N) (h2 : N ≤ 12) : ∃ (t : Int) (k : Nat), z.tmod (N : Int) = t ∧ -12 ≤ t ∧ t ≤ 12 ∧ (t + (N : Int)).tmod (N : Int) = (k : Int) ∧ k < N := by
 have a1 := Int.tmod_lt_of_pos z (show (0 : Int) < (N : Int) by omega)
 have a2 := Int.tmod_lt_of_pos (-z) (show (0 : Int) < (N : Int) by omega)
 rw [Int.neg_tmod] at a2
 have a3 := Int.emod_nonneg (z.tmod (N : Int) + (N : Int)) (show (N : Int) ≠ 0 by omega)
 have a4 := Int.emod_lt_of_pos (z.tmod (N : Int) + (N : Int)) (show (0 : Int) < (N : Int) by omega)
 exact ⟨z.tmod (N : Int), ((z.tmod (N : Int) + (N : Int)) % (N : Int)).toNat, rfl, by omega, by omega, by rw [Int.tmod_eq_emod_of_nonneg (by omega)]; omega, by omega⟩
theorem stale {S : CtS} (hu : S.und = none) (n k i e : Int) (b : Bool) (hk : k = 4 ∨ k = 10) : stepC S n (stM k i e b) = ([], S) := by
 obtain ⟨a1, a2, a3, a4, a5⟩ := S
 cases hu
 unfold stepC
 split
 ·rw [if_neg (show ¬ (stM k i e b).kind = 1 from by show ¬ k = 1; omega), if_pos (show (stM k i e b).kind = 4 ∨ (stM k i e b).kind = 10 from hk)]
  rfl
 ·rfl
section
variable {W w w' : World} {p c kc : Nat} {n : Int} {k : Nat} {S : CtS} {out : List Ms} {v : Value}
theorem MOut.nth {B : Nat} (h : MOut B w v out) (h0 : 0 < out.length) : ∃ b o cap, v = .slice (some ⟨b, o, none⟩) out.length cap ∧ ∀ (j : Nat) (hj : j < out.length), ∃ A cA A' cA', w.cell? ⟨b, o + j * 21, none⟩ = some (.int .i64 out[j].kind) ∧ w.cell? ⟨b, o + j * 21 + 3, none⟩ = some (.int .i64 out[j].epoch) ∧
  w.cell? ⟨b, o + j * 21 + 18, none⟩ = some (.slice A out[j].mem.length cA) ∧ w.cell? ⟨b, o + j * 21 + 19, none⟩ = some (.int .i64 out[j].base) ∧ w.cell? ⟨b, o + j * 21 + 20, none⟩ = some (.slice A' out[j].old.length cA') ∧
  Row w A (fun _ => True) (out[j].mem.map (Value.int .i64)) ∧ Row w A' (fun _ => True) (out[j].old.map (Value.int .i64)) := by
 obtain ⟨ps, A, cap, rfl, rfl, -, -, h5⟩ := h
 rw [List.length_map] at h0
 obtain ⟨b, o, rfl, -, -⟩ := msRow_cells h5.row (j := 0) h0
 refine ⟨b, o, cap, rfl, fun j hj => ?_⟩
 rw [List.length_map] at hj
 obtain ⟨b', o', e, -, hc⟩ := msRow_cells h5.row (j := j) hj
 injection e with e
 injection e with e1 e2
 subst e1 e2
 have hin := h5.lists ps[j] (List.getElem_mem hj)
 rw [List.getElem_map]
 exact ⟨_, _, _, _, hc 0 _ rfl, hc 3 _ rfl, hc 18 _ rfl, hc 19 _ rfl, hc 20 _ rfl, hin.mem.mono fun _ _ _ => trivial, hin.old.mono fun _ _ _ => trivial⟩
theorem CtW.c0 {ck : Option Nat} (h : CtW W w p c ck n k S) : w.cell? ⟨c, 0, none⟩ = some (pOf ck) := by
 obtain ⟨F, q, Fd, Fs, g, R, s, st, h1, -⟩ := h
 obtain ⟨r, hb, -⟩ := h1.bd.ex
 exact hb.c0
theorem CtW.tick (h : CtW W w p c (some kc) n k S) (x : Int) (h0 : 0 ≤ x) (h1 : n + x ≤ 1099511627776) :
  Calls Tryz.prog 12 #[.pointer (some ⟨kc, 0, none⟩), .slice (some ⟨w.heap.size, 0, none⟩) 1 1] (w.alloc (.cells #[.int .i64 x] 2)) fun e w' => e = .returned (.int .i64 (n + x)) ∧ CtW W w' p c (some kc) (n + x) k S := by
 obtain ⟨F, q, Fd, Fs, g, R, s, st, hin, -⟩ := h
 have hka : Kp w (w.alloc (.cells #[.int .i64 x] 2)) := (Keeps.refl _ w).alloc _
 have hi := hin.kp hka
 have hlt : kc < w.heap.size := hin.cl.lt rfl
 have hcl : CkBlk (w.alloc (.cells #[.int .i64 x] 2)) kc n ∧ 0 ≤ n ∧ n ≤ 1099511627776 := hi.cl
 have ht : ticks n [x] = n + x := (show ticks n [x] = tickZ n x from rfl).trans (tick_by h0 h1)
 refine (ctick_any _ kc n (some ⟨w.heap.size, 0, none⟩) 1 [x] hcl.1 hcl.2.1 hcl.2.2 ((cints_new w [x] #[.int .i64 x] rfl).mono fun b _ (hb : b = w.heap.size) e => by omega) (Nat.le_refl _) (by unfold maxLen; omega)).mono ?_
 rintro e w' ⟨rfl, hb, hk⟩
 rw [ht] at hb ⊢
 have hdk := hi.dk kc rfl
 have hW : Kp W w' := ((hi.kpW.mono fun _ _ _ => trivial : Keeps (fun b => b ≠ kc) W _).trans hk).mono fun b hb2 _ e => by have := hdk.2.2; omega
 refine ⟨rfl, _, CtIn.at_ (q := q) (Fd := Fd) (Fs := Fs) (g := g) (R := R) (s := s) (st := st) ⟨⟨⟨hi.du.dv.d.keep (hk.mono fun b _ hb2 e => hdk.1 (e ▸ hb2)), hi.du.dv.gd, hW⟩, theSup.keep hi.du.su (hk.mono fun b _ hb2 e => hdk.2.1 (e ▸ hb2)), hi.du.ap, hi.du.gs, hi.du.on, hi.du.room, hi.du.sec⟩, hi.oth, hi.still, hi.pl, hi.txt, hi.bd.keep hk fun b hb2 e => (hi.dj b hb2).2.2.1 (by rw [e]), ⟨hb, by have := hcl.2.1; omega, h1⟩, hi.dj, hi.dk, hi.cb, hi.tb, hi.kb⟩⟩
end
end Go.Proofs.YtemkjodkmehffaaGreatDoor
namespace Go.Proofs.YtemkjodkmehffaaGreatDoor.controlBack
open Go Go.RowKit Go.Joins
def bkS (j : Nat) (f : Nat → Int) : CtS := ⟨1, [1], (j : Int) + 1, none, f⟩
theorem bk_beg (j : Nat) (f : Nat → Int) (hj : j ≤ 6) : begB (bkS j f) [1, 2] = true := by
 have h : ringB ((j : Int) + 1 + 1) [1, 2] = true := ringB_of (by omega) (by omega) (by decide)
 unfold begB bkS
 rw [h]
 show (true && !(decide (([1, 2] : List Int) = [1]))) = true
 decide
set_option maxRecDepth 100000 in
set_option maxHeartbeats 8000000 in
theorem walk (w : World) (hT : theSup.T w) (n : Int) (_ : -9223372036854775808 ≤ n) (_ : n < 9223372036854775808) (o : Bool) : Calls Tryz.prog 7 #[.int .i64 n, .bool o] w fun e w' => e = .returned (.bool true) ∧ Below w.heap.size w w' := by
 have HT := Lib.hid hT
 clear hT
 obtain ⟨t, k0, ht, hr1, hr2, hrk, hk0⟩ := turn23 n 6 (by decide) (by decide)
 have HR1 := Lib.hid (show n.tmod 6 = t from ht)
 have HR2 := Lib.hid (show (t + 6).tmod 6 = (k0 : Int) from hrk)
 have HK2 := Lib.hid (show (-12 : Int) ≤ (k0 : Int) ∧ (k0 : Int) ≤ 12 by omega)
 clear ht hrk
 go_enter Tryz.func7, Tryz.ntmps7
 go_wp2_with fail
 refine (show Calls _ _ _ _ _ from begun23 w HT.out).mono ?_
 rintro e w1 ⟨rfl, hk⟩
 have K1 := Lib.hid hk
 clear hk
 go_wp2_with (first | refine list_rem23 rfl (.tmp 21) (.const (.int .i64 6)) n 6 t rfl rfl rfl (by decide) (by decide) HR1.out hr1 hr2 ?_ | refine list_rem23 rfl (.tmp 23) (.const (.int .i64 6)) (t + 6) 6 (k0 : Int) rfl rfl rfl (by decide) (by decide) HR2.out HK2.out.1 HK2.out.2 ?_)
 obtain ⟨N, hN⟩ : ∃ N : Nat, 1 + k0 = N := ⟨_, rfl⟩
 have hNe : (1 : Int) + (k0 : Int) = (N : Int) := by omega
 have n1 : N ≤ 6 := by omega
 have HNE := Lib.hid hNe
 clear hN hNe hk0 HK2 HR1 HR2 hr1 hr2
 rw [HNE.out]
 clear HNE
 refine (show Calls _ _ _ _ _ from dv_new K1.out 2 (by decide) (by decide) 2 rfl).mono ?_
 rintro e w2 ⟨p, Fd, rfl, hd, -, -⟩
 have HM := Lib.hid (makeW HT.out hd [1] #[.int .i64 1] rfl (by decide) 1 rfl)
 clear hd K1
 go_wp2_with fail
 refine (show Calls _ _ _ _ _ from HM.out).mono ?_
 rintro e w3 ⟨c, kc, rfl, ha⟩
 have HA := Lib.hid (show CtW w w3 p c (some kc) 0 (20 * 0) (bkS 0 fun _ => 0) from ha)
 clear ha HM
 go_wp2_with fail
 go_loopw [6, 7, 9] (fun d s i wr => ∃ (j p c : Nat) (ck : Option Nat) (f : Nat → Int), j ≤ N ∧ d = .pointer (some ⟨p, 0, none⟩) ∧ s = .pointer (some ⟨c, 0, none⟩) ∧ i = .int .i64 (j : Int) ∧ Hid (CtW w wr p c ck 0 (20 * j) (bkS j f))) (fun _ _ i _ => N - (intOf i).toNat)
 case atStart => exact ⟨0, p, c, some kc, _, Nat.zero_le _, rfl, rfl, rfl, HA⟩
 case round =>
  clear HA
  obtain ⟨j, p, c, ck, f, hj, rfl, rfl, rfl, HA⟩ := hrel
  by_cases hl : j < N
  ·have hl' : (j : Int) < (N : Int) := by omega
   have HJ := Lib.hid (HA.out.join HT.out 2 (by omega) rfl [1, 2] rfl (bk_beg j f (by omega)))
   go_wp2_with fail
   refine (show Calls _ _ _ _ _ from HJ.out).mono ?_
   rintro e w4 ⟨v, rfl, hs⟩
   have HA4 := Lib.hid (show CtW w w4 p c ck 0 (20 * j + 2) ⟨1, [1], (j : Int) + 1 + 1, some ⟨(j : Int) + 1 + 1, [1, 2], [1, 2], 0, [1, 2], 0, [1, 2]⟩, f⟩ from hs.1)
   have HU := Lib.hid (show Calls Tryz.prog 17 #[.pointer (some ⟨c, 0, none⟩)] w4 fun e w' => e = .returned (.int .i64 ((j : Int) + 2)) ∧ w4 = w' from by
    have h := HA4.out.under
    rw [show (⟨1, [1], (j : Int) + 1 + 1, some ⟨(j : Int) + 1 + 1, [1, 2], [1, 2], 0, [1, 2], 0, [1, 2]⟩, f⟩ : CtS).underZ = (j : Int) + 2 from by show (j : Int) + 1 + 1 = _; omega] at h
    exact h)
   clear hs HJ HA
   go_wp2_with fail
   refine (show Calls _ _ _ _ _ from HU.out).mono ?_
   rintro e w5 ⟨rfl, rfl⟩
   clear HU
   cases o with
   | true =>
    go_wp2_with fail
    refine (show Calls _ _ _ _ _ from HA4.out.held.crash).mono ?_
    rintro e w5 ⟨p5, rfl, hh⟩
    have HH := Lib.hid hh
    clear hh HA4
    go_wp2_with fail
    refine (show Calls _ _ _ _ _ from HH.out.openN HT.out).mono ?_
    rintro e w6 ⟨c6, rfl, ha⟩
    have HA6 := Lib.hid (show CtW w w6 p5 c6 none 0 (20 * j + 2) (bkS (j + 1) (openO 0 5)) from by
     unfold bkS
     rw [show ((j + 1 : Nat) : Int) + 1 = (j : Int) + 1 + 1 by omega]
     exact ha)
    clear ha HH
    obtain ⟨ck6, hck⟩ : ∃ x : Option Nat, none = x := ⟨_, rfl⟩
    rw [hck] at HA6
    clear hck
    go_wp2_with fail
    go_loopw [17] (fun i wr => ∃ q : Nat, 1 ≤ q ∧ q ≤ 3 ∧ i = .int .i64 (q : Int) ∧ Hid (CtW w wr p5 c6 ck6 0 (20 * j + 2 + 2 * q) (bkS (j + 1) (openO 0 5)))) (fun i _ => 3 - (intOf i).toNat)
    case atStart => exact ⟨1, by decide, by decide, rfl, Lib.hid (HA6.out.more _ (by omega) (by omega))⟩
    case round =>
     clear HA6
     obtain ⟨q, q1, q3, rfl, HQ⟩ := hrel
     by_cases hlt : q ≤ 2
     ·have hlt' : (q : Int) ≤ 2 := by omega
      obtain ⟨u, hu⟩ : ∃ u, msV (stM 4 (q : Int) ((j : Int) + 2) true) msA0 = u := ⟨_, rfl⟩
      obtain ⟨u2, hu2⟩ : ∃ u, msV (stM 10 (q : Int) ((j : Int) + 2) false) msA0 = u := ⟨_, rfl⟩
      have HU := Lib.hid hu
      have HU2 := Lib.hid hu2
      have HS := Lib.hid (HQ.out.st HT.out 4 (q : Int) ((j : Int) + 2) true (by omega) u hu _ _ (stale rfl _ _ _ _ _ (.inl rfl)))
      clear hu hu2
      go_wp2_with (refine list_buildM rfl _ rfl u (by rw [← HU.out]; kernel_rfl) ?_)
      refine (show Calls _ _ _ _ _ from HS.out).mono ?_
      rintro e w7 ⟨v7, rfl, hs⟩
      have HS2 := Lib.hid (hs.1.st HT.out 10 (q : Int) ((j : Int) + 2) false (by omega) u2 HU2.out _ _ (stale rfl _ _ _ _ _ (.inr rfl)))
      clear hs HS HQ HU
      go_wp2_with (refine list_buildM rfl _ rfl u2 (by rw [← HU2.out]; kernel_rfl) ?_)
      refine (show Calls _ _ _ _ _ from HS2.out).mono ?_
      rintro e w8 ⟨v8, rfl, hs⟩
      have HQ2 := Lib.hid (show CtW w w8 p5 c6 ck6 0 (20 * j + 2 + 2 * (q + 1)) (bkS (j + 1) (openO 0 5)) from hs.1)
      clear hs HS2 HU2
      go_wp2_with fail
      go_roundw
      case rel => exact ⟨q + 1, by omega, by omega, by go_num, HQ2⟩
      case measure => simp [intOf]; omega
     ·obtain rfl : q = 3 := by omega
      have hlt' : ¬ ((3 : Nat) : Int) ≤ 2 := by decide
      clear hlt
      go_wp2_with fail
      refine (show Calls _ _ _ _ _ from HQ.out.epoch).mono ?_
      rintro e w7 ⟨rfl, rfl⟩
      rw [show (bkS (j + 1) (openO 0 5)).epoch = 1 from rfl]
      go_wp2_with fail
      refine (show Calls _ _ _ _ _ from HQ.out.under).mono ?_
      rintro e w7 ⟨rfl, rfl⟩
      rw [show (bkS (j + 1) (openO 0 5)).underZ = 0 from rfl]
      have HL := Lib.hid (HQ.out.more (20 * (j + 1)) (by omega) (by omega))
      clear HQ
      go_wp2_with fail
      go_roundw
      case rel => exact ⟨j + 1, p5, c6, ck6, (openO 0 5), by omega, rfl, rfl, by go_num, HL⟩
      case measure => simp [intOf]; omega
   | false =>
    go_wp2_with fail
    refine (show Calls _ _ _ _ _ from HA4.out.back _ rfl).mono ?_
    rintro e w6 ⟨v, rfl, hs⟩
    have HA6 := Lib.hid (show CtW w w6 p c ck 0 (20 * j + 2) (bkS (j + 1) f) from by
     unfold bkS
     rw [show ((j + 1 : Nat) : Int) + 1 = (j : Int) + 1 + 1 by omega]
     exact hs.1)
    obtain ⟨b, oo, cap, rfl, m0, m3⟩ := hs.2.fst _ _ rfl
    have m0' : w6.cell? ⟨b, oo, none⟩ = some (.int .i64 12) := m0
    have m3' : w6.cell? ⟨b, oo + 3, none⟩ = some (.int .i64 ((j : Int) + 2)) := m3.trans (by show some (Value.int .i64 ((j : Int) + 1 + 1)) = _; rw [show (j : Int) + 1 + 1 = (j : Int) + 2 by omega])
    clear hs m0 m3 HA4
    go_wp2_with fail
    go_loopw [17] (fun i wr => ∃ q : Nat, 1 ≤ q ∧ q ≤ 3 ∧ i = .int .i64 (q : Int) ∧ Hid (CtW w wr p c ck 0 (20 * j + 2 + 2 * q) (bkS (j + 1) f))) (fun i _ => 3 - (intOf i).toNat)
    case atStart => exact ⟨1, by decide, by decide, rfl, Lib.hid (HA6.out.more _ (by omega) (by omega))⟩
    case round =>
     clear HA6
     obtain ⟨q, q1, q3, rfl, HQ⟩ := hrel
     by_cases hlt : q ≤ 2
     ·have hlt' : (q : Int) ≤ 2 := by omega
      obtain ⟨u, hu⟩ : ∃ u, msV (stM 4 (q : Int) ((j : Int) + 2) true) msA0 = u := ⟨_, rfl⟩
      obtain ⟨u2, hu2⟩ : ∃ u, msV (stM 10 (q : Int) ((j : Int) + 2) false) msA0 = u := ⟨_, rfl⟩
      have HU := Lib.hid hu
      have HU2 := Lib.hid hu2
      have HS := Lib.hid (HQ.out.st HT.out 4 (q : Int) ((j : Int) + 2) true (by omega) u hu _ _ (stale rfl _ _ _ _ _ (.inl rfl)))
      clear hu hu2
      go_wp2_with (refine list_buildM rfl _ rfl u (by rw [← HU.out]; kernel_rfl) ?_)
      refine (show Calls _ _ _ _ _ from HS.out).mono ?_
      rintro e w7 ⟨v7, rfl, hs⟩
      have HS2 := Lib.hid (hs.1.st HT.out 10 (q : Int) ((j : Int) + 2) false (by omega) u2 HU2.out _ _ (stale rfl _ _ _ _ _ (.inr rfl)))
      clear hs HS HQ HU
      go_wp2_with (refine list_buildM rfl _ rfl u2 (by rw [← HU2.out]; kernel_rfl) ?_)
      refine (show Calls _ _ _ _ _ from HS2.out).mono ?_
      rintro e w8 ⟨v8, rfl, hs⟩
      have HQ2 := Lib.hid (show CtW w w8 p c ck 0 (20 * j + 2 + 2 * (q + 1)) (bkS (j + 1) f) from hs.1)
      clear hs HS2 HU2
      go_wp2_with fail
      go_roundw
      case rel => exact ⟨q + 1, by omega, by omega, by go_num, HQ2⟩
      case measure => simp [intOf]; omega
     ·obtain rfl : q = 3 := by omega
      have hlt' : ¬ ((3 : Nat) : Int) ≤ 2 := by decide
      clear hlt
      go_wp2_with fail
      refine (show Calls _ _ _ _ _ from HQ.out.epoch).mono ?_
      rintro e w7 ⟨rfl, rfl⟩
      rw [show (bkS (j + 1) f).epoch = 1 from rfl]
      go_wp2_with fail
      refine (show Calls _ _ _ _ _ from HQ.out.under).mono ?_
      rintro e w7 ⟨rfl, rfl⟩
      rw [show (bkS (j + 1) f).underZ = 0 from rfl]
      have HL := Lib.hid (HQ.out.more (20 * (j + 1)) (by omega) (by omega))
      clear HQ
      go_wp2_with fail
      go_roundw
      case rel => exact ⟨j + 1, p, c, ck, f, by omega, rfl, rfl, by go_num, HL⟩
      case measure => simp [intOf]; omega
  ·obtain rfl : j = N := by omega
   have hl' : ¬ (j : Int) < (j : Int) := by omega
   have HE := Lib.hid HA.out.kpW
   clear HA
   go_wp2_with fail
   go_ret
   exact ⟨rfl, HE.out.below⟩
end Go.Proofs.YtemkjodkmehffaaGreatDoor.controlBack
namespace Go.Proofs.YtemkjodkmehffaaGreatDoor.controlBack
open Go Go.ChangeShapes Go.WideShapes Go.ChangeAt Go.RowKit
theorem walked (W : World) (n : Int) (wn : (Lit.int .i64 n).wf = true) (o : Bool) (hT : Taken W) :
  Calls Tryz.prog 7 #[.int .i64 n, .bool o] W fun e W' => e = .returned (.bool true) ∧ Below W.heap.size W W' := by
 exact walk W hT n (by have := bounds_i64 wn; omega) (by have := bounds_i64 wn; omega) o
set_option maxRecDepth 100000 in
theorem lawWalk (H : Type) (enc : TypeId × Value → H) : LawWalk H enc Tryz.prog 7 Tryz.f7 (laidMetH Tryz.prog listed) := by
 intro W base args ds p hval hA hL
 rw [Tryz.params7] at hA hval
 obtain ⟨v0, vs0, d0, ds0, p0, q0, hargs, rfl, rfl, h0, r0⟩ := trodAll_cons hA
 obtain ⟨v1, vs1, d1, ds1, p1, q1, rfl, rfl, rfl, h1, r1⟩ := trodAll_cons r0
 obtain ⟨rfl, rfl, rfl⟩ := trodAll_nil r1
 obtain rfl : args = #[v0, v1] := by cases args; simp_all
 obtain ⟨n0, rfl, _, _, w0⟩ := open_int Tryz.underlying3 (hval 0 3 v0 rfl rfl) h0
 obtain ⟨n1, rfl, _, _⟩ := open_bool Tryz.underlying4 (hval 1 4 v1 rfl rfl) h1
 exact walked W n0 w0 n1 (taken_of hL)
set_option maxRecDepth 100000 in
theorem lifted (os : Os) (started : os.Started) (H : Type) (enc : TypeId × Value → H) :
  ReturnsInHanded {} Tryz.checked os 7 .any (fun w args => (Rows.controlBackSpec.pre enc Tryz.prog Tryz.f7 [] false w args ∧ laidMetH Tryz.prog listed w) ∧ sizedMet enc Tryz.prog Tryz.f7 (OpenSpec.ofChange Rows.controlBackSpec) false w args)
   (Rows.controlBackSpec.post enc Tryz.prog Tryz.f7 false true false false) :=
 law_laid (C := Tryz.checked) (X := laidMetH Tryz.prog listed) (tb := 4) (fun _ _ hh h => h.of_heap hh) own started (by kernel_rfl) Tryz.func7
  (ChangeSpec.witness_shaped (enc := enc) (C := Tryz.checked) (os := os) (X := fun w _ => laidMetH Tryz.prog listed w) false (World.doorLaid Tryz.prog 400 os) #[.int .i64 0, .bool false] 8 rfl (World.shaped_of_RefB (by kernel_rfl) (by kernel_rfl)) (by kernel_rfl) (by kernel_rfl) (by kernel_rfl) (door_met os _))
  laidOut (by kernel_rfl) (by kernel_rfl) Tryz.underlying4 rfl (fun ds h => by match ds, h with | [_, _], _ => rfl) (lawWalk H enc)
set_option maxRecDepth 100000 in
theorem over : Rows.controlBackRow.holds Tryz.pinned (OpenSpec.ofChange Rows.controlBackSpec) :=
 OpenClaim.holds_of_wide 7 Tryz.f7 rfl rfl rfl rfl rfl rfl rfl ⟨rfl, rfl, rfl, rfl, rfl⟩ rfl rfl rfl rfl rfl (by kernel_rfl) Tryz.func7 (by kernel_rfl)
  (of_decide_eq_true (by kernel_rfl)) (by unfold Func.isWrapper; first | (rw [if_pos (by decide +kernel)]; kernel_rfl) | (rw [if_neg (by decide +kernel)]; exact ⟨rfl, rfl⟩))
  (fun os started H enc _ => lifted os started H enc)
theorem proved : Rows.ControlBackCardSaid :=
 Claim7.holds_tied_plain_at .later [] Rows.controlBackCard.laidKinds true (true, Rows.controlBackCard.stood.harness.2) false
  over (fun _ h => by cases h) (by kernel_rfl) (fun _ h => by cases h) controlBack_row_tie rfl ⟨rfl, rfl⟩ (by kernel_rfl) rfl
  (fun f fn hf hfn => by
   obtain rfl : f = 7 := Option.some.inj ((show Tryz.prog.funcNamed "icehouse/icehouselaw23.ControlBack" = some 7 by kernel_rfl).symm.trans hf) |>.symm
   obtain rfl : fn = Tryz.f7 := (Option.some.inj (Tryz.func7.symm.trans hfn)).symm
   exact ⟨by kernel_rfl, fun j t ht => by
    rw [Tryz.params7] at ht
    have hm : t ∈ [3, 4] := by simpa using Array.mem_of_getElem? ht
    have hall : ([3, 4].all fun u => !Tryz.prog.wantsStandIn u) = true := by kernel_rfl
    exact (show Tryz.prog.wantsStandIn t = false by simpa using List.all_eq_true.1 hall t hm)⟩)
  (by kernel_rfl)
#print axioms proved
end Go.Proofs.YtemkjodkmehffaaGreatDoor.controlBack
