/-
  CtTurn, ControlLoseWalk, ControlLoseProof: texts of mine, joined.
-/
import Derived.Test.YtemkjodkmehffaaGreatDoorAllA47
import Derived.Test.YtemkjodkmehffaaGreatDoorAllA15
import Derived.Test.YtemkjodkmehffaaGreatDoorAllA21
import Derived.Test.YtemkjodkmehffaaGreatDoorAllA18
import Derived.Test.YtemkjodkmehffaaGreatDoorCards
import Derived.SevenTiedAt
namespace Go.Proofs.YtemkjodkmehffaaGreatDoor
open Go Go.RowKit Go.Joins
theorem rem_run23 {o : Oper} {ρ : Operand → Value} {w : World} {x y : Operand} {z t N : Int} (h1 : 1 ≤ N) (h2 : N ≤ 12) (hz : z.tmod N = t) (_h3 : -12 ≤ t) (_h4 : t ≤ 12) (ho : o.op = .binOp .rem 3 x y 3) (hx : ρ x = .int .i64 z) (hy : ρ y = .int .i64 N) : (execOp ρ o).run Tryz.prog w = .ok (.value (.int .i64 t)) w := by
 have hn : ¬ N = 0 := by omega
 unfold execOp
 rw [ho]
 go_simp
theorem list_rem23 {ops : Array Oper} {rest : List Oper} {o : Oper} {a : Act} {w : World} {Q : Exit → Act → World → Prop} (hgd : o.guard = none) (x y : Operand) (z N t : Int) (ho : o.op = .binOp .rem 3 x y 3) (hx : a.eval x = .int .i64 z) (hy : a.eval y = .int .i64 N)
  (h1 : 1 ≤ N) (h2 : N ≤ 12) (hz : z.tmod N = t) (h3 : -12 ≤ t) (h4 : t ≤ 12) (hK : wpList Tryz.prog ops Q rest (a.put o.dst (.int .i64 t)) w) : wpList Tryz.prog ops Q (o :: rest) a w :=
 wpList_plain hgd fun _ hh => by
  unfold Oper.wp
  rw [rem_run23 h1 h2 hz h3 h4 ho hx hy]
  exact hh _ _ hK
theorem turn23 (z : Int) (N : Nat) (h1 : 1 ≤ N) (h2 : N ≤ 12) : ∃ (t : Int) (k : Nat), z.tmod (N : Int) = t ∧ -12 ≤ t ∧ t ≤ 12 ∧ (t + (N : Int)).tmod (N : Int) = (k : Int) ∧ k < N := by
 have a1 := Int.tmod_lt_of_pos z (show (0 : Int) < (N : Int) by omega)
 have a2 := Int.tmod_lt_of_pos (-z) (show (0 : Int) < (N : Int) by omega)
 rw [Int.neg_tmod] at a2
 have a3 := Int.emod_nonneg (z.tmod (N : Int) + (N : Int)) (show (N : Int) ≠ 0 by omega)
 have a4 := Int.emod_lt_of_pos (z.tmod (N : Int) + (N : Int)) (show (0 : Int) < (N : Int) by omega)
 exact ⟨z.tmod (N : Int), ((z.tmod (N : Int) + (N : Int)) % (N : Int)).toNat, rfl, by omega, by omega, by rw [Int.tmod_eq_emod_of_nonneg (by omega)]; omega, by omega⟩
theorem stale {S : CtS} (hu : S.und = none) (n k i e : Int) (b : Bool) (hk : k = 4 ∨ k = 10) : stepC S n (stM k i e b) = ([], S) := by
 obtain ⟨a1, a2, a3, a4, a5⟩ := S
 cases hu
 unfold stepC
 split
 ·rw [if_neg (show ¬ (stM k i e b).kind = 1 from by show ¬ k = 1; omega), if_pos (show (stM k i e b).kind = 4 ∨ (stM k i e b).kind = 10 from hk)]
  rfl
 ·rfl
section
variable {W w w' : World} {p c kc : Nat} {n : Int} {k : Nat} {S : CtS} {out : List Ms} {v : Value}
theorem MOut.nth {B : Nat} (h : MOut B w v out) (h0 : 0 < out.length) : ∃ b o cap, v = .slice (some ⟨b, o, none⟩) out.length cap ∧ ∀ (j : Nat) (hj : j < out.length), ∃ A cA A' cA', w.cell? ⟨b, o + j * 21, none⟩ = some (.int .i64 out[j].kind) ∧ w.cell? ⟨b, o + j * 21 + 3, none⟩ = some (.int .i64 out[j].epoch) ∧
  w.cell? ⟨b, o + j * 21 + 18, none⟩ = some (.slice A out[j].mem.length cA) ∧ w.cell? ⟨b, o + j * 21 + 19, none⟩ = some (.int .i64 out[j].base) ∧ w.cell? ⟨b, o + j * 21 + 20, none⟩ = some (.slice A' out[j].old.length cA') ∧
  Row w A (fun _ => True) (out[j].mem.map (Value.int .i64)) ∧ Row w A' (fun _ => True) (out[j].old.map (Value.int .i64)) := by
 obtain ⟨ps, A, cap, rfl, rfl, -, -, h5⟩ := h
 rw [List.length_map] at h0
 obtain ⟨b, o, rfl, -, -⟩ := msRow_cells h5.row (j := 0) h0
 refine ⟨b, o, cap, rfl, fun j hj => ?_⟩
 rw [List.length_map] at hj
 obtain ⟨b', o', e, -, hc⟩ := msRow_cells h5.row (j := j) hj
 injection e with e
 injection e with e1 e2
 subst e1 e2
 have hin := h5.lists ps[j] (List.getElem_mem hj)
 rw [List.getElem_map]
 exact ⟨_, _, _, _, hc 0 _ rfl, hc 3 _ rfl, hc 18 _ rfl, hc 19 _ rfl, hc 20 _ rfl, hin.mem.mono fun _ _ _ => trivial, hin.old.mono fun _ _ _ => trivial⟩
theorem CtW.c0 {ck : Option Nat} (h : CtW W w p c ck n k S) : w.cell? ⟨c, 0, none⟩ = some (pOf ck) := by
 obtain ⟨F, q, Fd, Fs, g, R, s, st, h1, -⟩ := h
 obtain ⟨r, hb, -⟩ := h1.bd.ex
 exact hb.c0
theorem CtW.tick (h : CtW W w p c (some kc) n k S) (x : Int) (h0 : 0 ≤ x) (h1 : n + x ≤ 1099511627776) :
  Calls Tryz.prog 12 #[.pointer (some ⟨kc, 0, none⟩), .slice (some ⟨w.heap.size, 0, none⟩) 1 1] (w.alloc (.cells #[.int .i64 x] 2)) fun e w' => e = .returned (.int .i64 (n + x)) ∧ CtW W w' p c (some kc) (n + x) k S := by
 obtain ⟨F, q, Fd, Fs, g, R, s, st, hin, -⟩ := h
 have hka : Kp w (w.alloc (.cells #[.int .i64 x] 2)) := (Keeps.refl _ w).alloc _
 have hi := hin.kp hka
 have hlt : kc < w.heap.size := hin.cl.lt rfl
 have hcl : CkBlk (w.alloc (.cells #[.int .i64 x] 2)) kc n ∧ 0 ≤ n ∧ n ≤ 1099511627776 := hi.cl
 have ht : ticks n [x] = n + x := (show ticks n [x] = tickZ n x from rfl).trans (tick_by h0 h1)
 refine (ctick_any _ kc n (some ⟨w.heap.size, 0, none⟩) 1 [x] hcl.1 hcl.2.1 hcl.2.2 ((cints_new w [x] #[.int .i64 x] rfl).mono fun b _ (hb : b = w.heap.size) e => by omega) (Nat.le_refl _) (by unfold maxLen; omega)).mono ?_
 rintro e w' ⟨rfl, hb, hk⟩
 rw [ht] at hb ⊢
 have hdk := hi.dk kc rfl
 have hW : Kp W w' := ((hi.kpW.mono fun _ _ _ => trivial : Keeps (fun b => b ≠ kc) W _).trans hk).mono fun b hb2 _ e => by have := hdk.2.2; omega
 refine ⟨rfl, _, CtIn.at_ (q := q) (Fd := Fd) (Fs := Fs) (g := g) (R := R) (s := s) (st := st) ⟨⟨⟨hi.du.dv.d.keep (hk.mono fun b _ hb2 e => hdk.1 (e ▸ hb2)), hi.du.dv.gd, hW⟩, theSup.keep hi.du.su (hk.mono fun b _ hb2 e => hdk.2.1 (e ▸ hb2)), hi.du.ap, hi.du.gs, hi.du.on, hi.du.room, hi.du.sec⟩, hi.oth, hi.still, hi.pl, hi.txt, hi.bd.keep hk fun b hb2 e => (hi.dj b hb2).2.2.1 (by rw [e]), ⟨hb, by have := hcl.2.1; omega, h1⟩, hi.dj, hi.dk, hi.cb, hi.tb, hi.kb⟩⟩
end
end Go.Proofs.YtemkjodkmehffaaGreatDoor
namespace Go.Proofs.YtemkjodkmehffaaGreatDoor.controlLose
open Go Go.RowKit Go.Joins
def lsF (f : Nat → Int) (g : Int) : Nat → Int := setO f 2 (g + 40)
def lsC (ph : Int) (l : List Int) : ChS := ⟨2, [1], [1, 2], 2, [1], ph, l⟩
def lsS (f : Nat → Int) : CtS := ⟨1, [1, 2], 1, none, f⟩
def lsU (ph : Int) (f : Nat → Int) : CtS := ⟨1, [1, 2], 2, some (lsC ph [1]), f⟩
def lsE (f : Nat → Int) : CtS := ⟨2, [1], 2, none, f⟩
theorem ls_renew (f : Nat → Int) (g : Int) : stepC (lsS f) g (stM 1 2 1 false) = ([tellM 2 2 1 0 [1, 2]], lsS (lsF f g)) := rfl
theorem ls_no (f : Nat → Int) (n : Int) : stepC (lsU 0 f) n (stM 1 2 1 false) = ([], lsU 0 f) := rfl
theorem ls_ready (f : Nat → Int) (n : Int) : stepC (lsU 0 f) n (stM 4 1 2 true) = ((lsU 1 f).asks 7 (lsC 1 [1]), lsU 1 f) := rfl
theorem ls_if (f : Nat → Int) (g n : Int) : stepC (lsU 1 (lsF f g)) n (stM 10 1 2 false) = if n < g + 40 then ([], lsU 2 (lsF f g)) else ((lsC 2 [1]).commits, lsE (lsF f g)) := rfl
theorem ls_beat (f : Nat → Int) (g n : Int) : beatC (lsU 2 (lsF f g)) n = if n < g + 40 then ([], lsU 2 (lsF f g)) else ((lsC 2 [1]).commits, lsE (lsF f g)) := rfl
set_option maxRecDepth 100000 in
set_option maxHeartbeats 8000000 in
theorem walk (w : World) (hT : theSup.T w) (g x : Int) (o : Bool) : Calls Tryz.prog 3 #[.int .i64 g, .int .i64 x, .bool o] w fun e w' => e = .returned (.bool true) ∧ Below w.heap.size w w' := by
 have HT := Lib.hid hT
 clear hT
 have hcs : (decide (g < 0) = true) ∨ (decide (g < 0) = false ∧ decide (30 < g) = true) ∨ (decide (g < 0) = false ∧ decide (30 < g) = false ∧ decide (x < 0) = true) ∨ (decide (g < 0) = false ∧ decide (30 < g) = false ∧ decide (x < 0) = false ∧ decide (60 < x) = true) ∨ (decide (g < 0) = false ∧ decide (30 < g) = false ∧ decide (x < 0) = false ∧ decide (60 < x) = false) := by
  cases decide (g < 0) <;> cases decide (30 < g) <;> cases decide (x < 0) <;> cases decide (60 < x) <;> simp
 go_enter Tryz.func3, Tryz.ntmps3
 go_wp2_with fail
 refine (show Calls _ _ _ _ _ from begun23 w HT.out).mono ?_
 rintro e w1 ⟨rfl, hk⟩
 have K1 := Lib.hid hk
 clear hk
 rcases hcs with c1 | ⟨c1, c2⟩ | ⟨c1, c2, c3⟩ | ⟨c1, c2, c3, c4⟩ | ⟨c1, c2, c3, c4⟩
 ·go_wp2_with fail
  go_ret
  exact ⟨rfl, K1.out.below⟩
 ·go_wp2_with fail
  go_ret
  exact ⟨rfl, K1.out.below⟩
 ·go_wp2_with fail
  go_ret
  exact ⟨rfl, K1.out.below⟩
 ·go_wp2_with fail
  go_ret
  exact ⟨rfl, K1.out.below⟩
 ·have n1 : 0 ≤ g := by have := of_decide_eq_false c1; omega
  have n2 : g ≤ 30 := by have := of_decide_eq_false c2; omega
  have n3 : 0 ≤ x := by have := of_decide_eq_false c3; omega
  have n4 : x ≤ 60 := by have := of_decide_eq_false c4; omega
  have HN := Lib.hid (And.intro n1 (And.intro n2 (And.intro n3 n4)))
  clear n1 n2 n3 n4
  go_wp2_with fail
  clear c1 c2 c3 c4
  have hka : Kp w1 (w1.alloc (.cells #[.int .i64 0] 24)) := (Keeps.refl _ w1).alloc _
  have hck := heap_alloc_new w1 (.cells #[.int .i64 0] 24)
  have hcs : (w1.alloc (.cells #[.int .i64 0] 24)).heap.size = w1.heap.size + 1 := by simp
  generalize w1.alloc (.cells #[.int .i64 0] 24) = wa at *
  obtain ⟨gg, hgg⟩ : ∃ gg, w1.heap.size = gg := ⟨_, rfl⟩
  have hWg : w.heap.size ≤ gg := by rw [← hgg]; exact K1.out.size
  rw [hgg] at hck hcs ⊢
  have HKA := Lib.hid (K1.out.trans hka)
  have HCK := Lib.hid (show CkBlk wa gg 0 from hck)
  have HSZ := Lib.hid hcs
  have HWG := Lib.hid hWg
  clear hka hck hcs hWg hgg K1
  refine (show Calls _ _ _ _ _ from dv_new HKA.out 2 (by decide) (by decide) 2 rfl).mono ?_
  rintro e w2 ⟨p, Fd, rfl, hd, hFd, hk2⟩
  have HKC := Lib.hid (hk2.trans ((Keeps.refl (fun _ => True) w2).alloc (.cells #[.int .i64 1, .int .i64 2] 3)))
  have HFD := Lib.hid hFd
  have HM := Lib.hid (make_any w _ HT.out p Fd _ (hd.keep ((Keeps.refl (fun _ => True) w2).alloc (.cells #[.int .i64 1, .int .i64 2] 3))) (by decide) (by decide) (some ⟨w2.heap.size, 0, none⟩) 2 [1, 2] (Row.fresh (F := fun _ => True) w2 #[.int .i64 1, .int .i64 2] 3 (0, 0) _ rfl trivial _ rfl) (Nat.le_refl _) (by unfold maxLen; omega) (by decide) 2 rfl)
  clear hd hFd hk2
  go_wp2_with fail
  refine (show Calls _ _ _ _ _ from HM.out).mono ?_
  rintro e w3 ⟨c, kc, F, rfl, ha, hF, hk3⟩
  have HA0 := Lib.hid ha
  have hgF : ¬ F gg := fun hf => by
   rcases hF gg hf with h | h
   ·have := HFD.out gg h; have := HSZ.out; omega
   ·have := HKC.out.size; have := HSZ.out; omega
  have HGF := Lib.hid hgF
  have HCK3 := Lib.hid (show CkO w3 (some gg) 0 from ⟨((HCK.out.keep HKC.out trivial).keep hk3 (fun hf => by have := HFD.out gg hf; have := HSZ.out; omega)), by decide, by decide⟩)
  clear ha hF hk3 hgF HM HCK HKC HFD
  cases o with
  | false =>
   obtain ⟨f, hf⟩ : ∃ f : Nat → Int, (fun _ => 0) = f := ⟨_, rfl⟩
   have HA := Lib.hid (show CtW w w3 p c (some kc) 0 0 (lsS f) from hf ▸ ⟨F, HA0.out⟩)
   have c0 := HA.out.c0
   clear HA0 HCK3 HGF hf
   have c0' : w3.cell? ⟨c, 0, none⟩ = some (.pointer (some ⟨kc, 0, none⟩)) := c0
   obtain ⟨u1, hu1⟩ : ∃ u, msV (stM 1 2 1 false) msA0 = u := ⟨_, rfl⟩
   obtain ⟨u2, hu2⟩ : ∃ u, msV (stM 4 1 2 true) msA0 = u := ⟨_, rfl⟩
   obtain ⟨u3, hu3⟩ : ∃ u, msV (stM 10 1 2 false) msA0 = u := ⟨_, rfl⟩
   have HU1 := Lib.hid hu1
   have HU2 := Lib.hid hu2
   have HU3 := Lib.hid hu3
   have HTK := Lib.hid (HA.out.tick g (by have := HN.out; omega) (by have := HN.out; omega))
   clear hu1 hu2 hu3 c0 HA
   go_wp2_with fail
   refine (show Calls _ _ _ _ _ from HTK.out).mono ?_
   rintro e w5 ⟨rfl, ha⟩
   rw [Int.zero_add] at ha
   have HS1 := Lib.hid (ha.st HT.out 1 2 1 false (by decide) u1 HU1.out _ _ (ls_renew f g))
   clear ha HTK c0'
   go_wp2_with (refine list_buildM rfl _ rfl u1 (by rw [← HU1.out]; kernel_rfl) ?_)
   refine (show Calls _ _ _ _ _ from HS1.out).mono ?_
   rintro e w6 ⟨v6, rfl, hs⟩
   have HL := Lib.hid (hs.1.lose HT.out 2 (by decide) rfl rfl)
   clear hs HS1
   go_wp2_with fail
   refine (show Calls _ _ _ _ _ from HL.out).mono ?_
   rintro e w7 ⟨v7, rfl, hs⟩
   have h7 : CtW w w7 p c (some kc) g 3 (lsU 0 (lsF f g)) := hs.1
   have HS2 := Lib.hid (h7.st HT.out 1 2 1 false (by decide) u1 HU1.out _ _ (ls_no _ g))
   clear hs h7 HL
   go_wp2_with (refine list_buildM rfl _ rfl u1 (by rw [← HU1.out]; kernel_rfl) ?_)
   refine (show Calls _ _ _ _ _ from HS2.out).mono ?_
   rintro e w8 ⟨v8, rfl, hs⟩
   obtain ⟨A8, cap8, rfl⟩ := hs.2.len
   have HS3 := Lib.hid (hs.1.st HT.out 4 1 2 true (by decide) u2 HU2.out _ _ (ls_ready _ g))
   clear hs HS2 HU1
   go_wp2_with (refine list_buildM rfl _ rfl u2 (by rw [← HU2.out]; kernel_rfl) ?_)
   refine (show Calls _ _ _ _ _ from HS3.out).mono ?_
   rintro e w9 ⟨v9, rfl, hs⟩
   have d0 : w9.cell? ⟨c, 0, none⟩ = some (.pointer (some ⟨kc, 0, none⟩)) := hs.1.c0
   have HTK := Lib.hid (hs.1.tick x (by have := HN.out; omega) (by have := HN.out; omega))
   clear hs HS3 HU2
   go_wp2_with fail
   refine (show Calls _ _ _ _ _ from HTK.out).mono ?_
   rintro e w10 ⟨rfl, ha⟩
   have HA10 := Lib.hid ha
   clear ha HTK d0
   cases hx : decide (40 ≤ x) with
   | true =>
    have hx' : 40 ≤ x := of_decide_eq_true hx
    have HS4 := Lib.hid (HA10.out.st HT.out 10 1 2 false (by decide) u3 HU3.out _ _ ((ls_if f g (g + x)).trans (if_neg (by omega))))
    clear HA10
    go_wp2_with (refine list_buildM rfl _ rfl u3 (by rw [← HU3.out]; kernel_rfl) ?_)
    refine (show Calls _ _ _ _ _ from HS4.out).mono ?_
    rintro e w11 ⟨v11, rfl, hs⟩
    obtain ⟨A11, cap11, rfl⟩ := hs.2.len
    rw [show (lsC 2 [1]).commits.length = 2 from rfl]
    have HB := Lib.hid (hs.1.beat HT.out (by decide))
    clear hs HS4 HU3
    go_wp2_with fail
    refine (show Calls _ _ _ _ _ from HB.out).mono ?_
    rintro e w12 ⟨v12, rfl, hs⟩
    obtain ⟨A12, cap12, rfl⟩ := hs.2.len
    have h12 : CtW w w12 p c (some kc) (g + x) 7 (lsE (lsF f g)) := hs.1
    have HA12 := Lib.hid h12
    have hl12 : (beatC (lsE (lsF f g)) (g + x)).1.length = 0 := rfl
    rw [hl12]
    clear hs h12 HB hl12
    go_wp2_with fail
    refine (show Calls _ _ _ _ _ from HA12.out.epoch).mono ?_
    rintro e w13 ⟨rfl, rfl⟩
    rw [show (lsE (lsF f g)).epoch = 2 from rfl]
    go_wp2_with fail
    refine (show Calls _ _ _ _ _ from HA12.out.under).mono ?_
    rintro e w13 ⟨rfl, rfl⟩
    rw [show (lsE (lsF f g)).underZ = 0 from rfl]
    have HE := Lib.hid HA12.out.kpW
    clear HA12
    go_wp2_with fail
    go_ret
    exact ⟨rfl, HE.out.below⟩
   | false =>
    have hx' : ¬ 40 ≤ x := of_decide_eq_false hx
    have HS4 := Lib.hid (HA10.out.st HT.out 10 1 2 false (by decide) u3 HU3.out _ _ ((ls_if f g (g + x)).trans (if_pos (by omega))))
    clear HA10
    go_wp2_with (refine list_buildM rfl _ rfl u3 (by rw [← HU3.out]; kernel_rfl) ?_)
    refine (show Calls _ _ _ _ _ from HS4.out).mono ?_
    rintro e w11 ⟨v11, rfl, hs⟩
    obtain ⟨A11, cap11, rfl⟩ := hs.2.len
    have HB := Lib.hid (hs.1.beat HT.out (by decide))
    have HBE := Lib.hid ((ls_beat f g (g + x)).trans (if_pos (by omega)))
    clear hs HS4 HU3
    go_wp2_with fail
    refine (show Calls _ _ _ _ _ from HB.out).mono ?_
    rintro e w12 ⟨v12, rfl, hs⟩
    rw [HBE.out] at hs
    obtain ⟨A12, cap12, rfl⟩ := hs.2.len
    have h12 : CtW w w12 p c (some kc) (g + x) 7 (lsU 2 (lsF f g)) := hs.1
    have HA12 := Lib.hid h12
    clear hs h12 HB HBE
    go_wp2_with fail
    refine (show Calls _ _ _ _ _ from HA12.out.epoch).mono ?_
    rintro e w13 ⟨rfl, rfl⟩
    rw [show (lsU 2 (lsF f g)).epoch = 1 from rfl]
    go_wp2_with fail
    refine (show Calls _ _ _ _ _ from HA12.out.under).mono ?_
    rintro e w13 ⟨rfl, rfl⟩
    rw [show (lsU 2 (lsF f g)).underZ = 2 from rfl]
    have HE := Lib.hid HA12.out.kpW
    clear HA12
    go_wp2_with fail
    go_ret
    exact ⟨rfl, HE.out.below⟩
  | true =>
   have HO := Lib.hid (copen_any (ck := some gg) HT.out HA0.out.held HCK3.out (fun b hb => by injection hb with hb; subst hb; exact ⟨HGF.out, HWG.out⟩))
   clear HA0 HCK3 HGF
   go_wp2_with fail
   refine (show Calls _ _ _ _ _ from HO.out).mono ?_
   rintro e w4 ⟨c4, F4, rfl, ha, -, -⟩
   obtain ⟨f, hf⟩ : ∃ f : Nat → Int, openO 0 5 = f := ⟨_, rfl⟩
   have HA := Lib.hid (show CtW w w4 p c4 (some gg) 0 0 (lsS f) from hf ▸ ⟨F4, ha⟩)
   have c0 := HA.out.c0
   clear ha HO hf
   have c0' : w4.cell? ⟨c4, 0, none⟩ = some (.pointer (some ⟨gg, 0, none⟩)) := c0
   obtain ⟨u1, hu1⟩ : ∃ u, msV (stM 1 2 1 false) msA0 = u := ⟨_, rfl⟩
   obtain ⟨u2, hu2⟩ : ∃ u, msV (stM 4 1 2 true) msA0 = u := ⟨_, rfl⟩
   obtain ⟨u3, hu3⟩ : ∃ u, msV (stM 10 1 2 false) msA0 = u := ⟨_, rfl⟩
   have HU1 := Lib.hid hu1
   have HU2 := Lib.hid hu2
   have HU3 := Lib.hid hu3
   have HTK := Lib.hid (HA.out.tick g (by have := HN.out; omega) (by have := HN.out; omega))
   clear hu1 hu2 hu3 c0 HA
   go_wp2_with fail
   refine (show Calls _ _ _ _ _ from HTK.out).mono ?_
   rintro e w5 ⟨rfl, ha⟩
   rw [Int.zero_add] at ha
   have HS1 := Lib.hid (ha.st HT.out 1 2 1 false (by decide) u1 HU1.out _ _ (ls_renew f g))
   clear ha HTK c0'
   go_wp2_with (refine list_buildM rfl _ rfl u1 (by rw [← HU1.out]; kernel_rfl) ?_)
   refine (show Calls _ _ _ _ _ from HS1.out).mono ?_
   rintro e w6 ⟨v6, rfl, hs⟩
   have HL := Lib.hid (hs.1.lose HT.out 2 (by decide) rfl rfl)
   clear hs HS1
   go_wp2_with fail
   refine (show Calls _ _ _ _ _ from HL.out).mono ?_
   rintro e w7 ⟨v7, rfl, hs⟩
   have h7 : CtW w w7 p c4 (some gg) g 3 (lsU 0 (lsF f g)) := hs.1
   have HS2 := Lib.hid (h7.st HT.out 1 2 1 false (by decide) u1 HU1.out _ _ (ls_no _ g))
   clear hs h7 HL
   go_wp2_with (refine list_buildM rfl _ rfl u1 (by rw [← HU1.out]; kernel_rfl) ?_)
   refine (show Calls _ _ _ _ _ from HS2.out).mono ?_
   rintro e w8 ⟨v8, rfl, hs⟩
   obtain ⟨A8, cap8, rfl⟩ := hs.2.len
   have HS3 := Lib.hid (hs.1.st HT.out 4 1 2 true (by decide) u2 HU2.out _ _ (ls_ready _ g))
   clear hs HS2 HU1
   go_wp2_with (refine list_buildM rfl _ rfl u2 (by rw [← HU2.out]; kernel_rfl) ?_)
   refine (show Calls _ _ _ _ _ from HS3.out).mono ?_
   rintro e w9 ⟨v9, rfl, hs⟩
   have d0 : w9.cell? ⟨c4, 0, none⟩ = some (.pointer (some ⟨gg, 0, none⟩)) := hs.1.c0
   have HTK := Lib.hid (hs.1.tick x (by have := HN.out; omega) (by have := HN.out; omega))
   clear hs HS3 HU2
   go_wp2_with fail
   refine (show Calls _ _ _ _ _ from HTK.out).mono ?_
   rintro e w10 ⟨rfl, ha⟩
   have HA10 := Lib.hid ha
   clear ha HTK d0
   cases hx : decide (40 ≤ x) with
   | true =>
    have hx' : 40 ≤ x := of_decide_eq_true hx
    have HS4 := Lib.hid (HA10.out.st HT.out 10 1 2 false (by decide) u3 HU3.out _ _ ((ls_if f g (g + x)).trans (if_neg (by omega))))
    clear HA10
    go_wp2_with (refine list_buildM rfl _ rfl u3 (by rw [← HU3.out]; kernel_rfl) ?_)
    refine (show Calls _ _ _ _ _ from HS4.out).mono ?_
    rintro e w11 ⟨v11, rfl, hs⟩
    obtain ⟨A11, cap11, rfl⟩ := hs.2.len
    rw [show (lsC 2 [1]).commits.length = 2 from rfl]
    have HB := Lib.hid (hs.1.beat HT.out (by decide))
    clear hs HS4 HU3
    go_wp2_with fail
    refine (show Calls _ _ _ _ _ from HB.out).mono ?_
    rintro e w12 ⟨v12, rfl, hs⟩
    obtain ⟨A12, cap12, rfl⟩ := hs.2.len
    have h12 : CtW w w12 p c4 (some gg) (g + x) 7 (lsE (lsF f g)) := hs.1
    have HA12 := Lib.hid h12
    have hl12 : (beatC (lsE (lsF f g)) (g + x)).1.length = 0 := rfl
    rw [hl12]
    clear hs h12 HB hl12
    go_wp2_with fail
    refine (show Calls _ _ _ _ _ from HA12.out.epoch).mono ?_
    rintro e w13 ⟨rfl, rfl⟩
    rw [show (lsE (lsF f g)).epoch = 2 from rfl]
    go_wp2_with fail
    refine (show Calls _ _ _ _ _ from HA12.out.under).mono ?_
    rintro e w13 ⟨rfl, rfl⟩
    rw [show (lsE (lsF f g)).underZ = 0 from rfl]
    have HE := Lib.hid HA12.out.kpW
    clear HA12
    go_wp2_with fail
    go_ret
    exact ⟨rfl, HE.out.below⟩
   | false =>
    have hx' : ¬ 40 ≤ x := of_decide_eq_false hx
    have HS4 := Lib.hid (HA10.out.st HT.out 10 1 2 false (by decide) u3 HU3.out _ _ ((ls_if f g (g + x)).trans (if_pos (by omega))))
    clear HA10
    go_wp2_with (refine list_buildM rfl _ rfl u3 (by rw [← HU3.out]; kernel_rfl) ?_)
    refine (show Calls _ _ _ _ _ from HS4.out).mono ?_
    rintro e w11 ⟨v11, rfl, hs⟩
    obtain ⟨A11, cap11, rfl⟩ := hs.2.len
    have HB := Lib.hid (hs.1.beat HT.out (by decide))
    have HBE := Lib.hid ((ls_beat f g (g + x)).trans (if_pos (by omega)))
    clear hs HS4 HU3
    go_wp2_with fail
    refine (show Calls _ _ _ _ _ from HB.out).mono ?_
    rintro e w12 ⟨v12, rfl, hs⟩
    rw [HBE.out] at hs
    obtain ⟨A12, cap12, rfl⟩ := hs.2.len
    have h12 : CtW w w12 p c4 (some gg) (g + x) 7 (lsU 2 (lsF f g)) := hs.1
    have HA12 := Lib.hid h12
    clear hs h12 HB HBE
    go_wp2_with fail
    refine (show Calls _ _ _ _ _ from HA12.out.epoch).mono ?_
    rintro e w13 ⟨rfl, rfl⟩
    rw [show (lsU 2 (lsF f g)).epoch = 1 from rfl]
    go_wp2_with fail
    refine (show Calls _ _ _ _ _ from HA12.out.under).mono ?_
    rintro e w13 ⟨rfl, rfl⟩
    rw [show (lsU 2 (lsF f g)).underZ = 2 from rfl]
    have HE := Lib.hid HA12.out.kpW
    clear HA12
    go_wp2_with fail
    go_ret
    exact ⟨rfl, HE.out.below⟩
end Go.Proofs.YtemkjodkmehffaaGreatDoor.controlLose
namespace Go.Proofs.YtemkjodkmehffaaGreatDoor.controlLose
open Go Go.ChangeShapes Go.WideShapes Go.ChangeAt Go.RowKit
theorem walked (W : World) (g : Int) (_wg : (Lit.int .i64 g).wf = true) (x : Int) (_wx : (Lit.int .i64 x).wf = true) (o : Bool) (hT : Taken W) :
  Calls Tryz.prog 3 #[.int .i64 g, .int .i64 x, .bool o] W fun e W' => e = .returned (.bool true) ∧ Below W.heap.size W W' := by
 exact walk W hT g x o
set_option maxRecDepth 100000 in
theorem lawWalk (H : Type) (enc : TypeId × Value → H) : LawWalk H enc Tryz.prog 3 Tryz.f3 (laidMetH Tryz.prog listed) := by
 intro W base args ds p hval hA hL
 rw [Tryz.params3] at hA hval
 obtain ⟨v0, vs0, d0, ds0, p0, q0, hargs, rfl, rfl, h0, r0⟩ := trodAll_cons hA
 obtain ⟨v1, vs1, d1, ds1, p1, q1, rfl, rfl, rfl, h1, r1⟩ := trodAll_cons r0
 obtain ⟨v2, vs2, d2, ds2, p2, q2, rfl, rfl, rfl, h2, r2⟩ := trodAll_cons r1
 obtain ⟨rfl, rfl, rfl⟩ := trodAll_nil r2
 obtain rfl : args = #[v0, v1, v2] := by cases args; simp_all
 obtain ⟨n0, rfl, _, _, w0⟩ := open_int Tryz.underlying2 (hval 0 2 v0 rfl rfl) h0
 obtain ⟨n1, rfl, _, _, w1⟩ := open_int Tryz.underlying2 (hval 1 2 v1 rfl rfl) h1
 obtain ⟨n2, rfl, _, _⟩ := open_bool Tryz.underlying4 (hval 2 4 v2 rfl rfl) h2
 exact walked W n0 w0 n1 w1 n2 (taken_of hL)
set_option maxRecDepth 100000 in
theorem lifted (os : Os) (started : os.Started) (H : Type) (enc : TypeId × Value → H) :
  ReturnsInHanded {} Tryz.checked os 3 .any (fun w args => (Rows.controlLoseSpec.pre enc Tryz.prog Tryz.f3 [] false w args ∧ laidMetH Tryz.prog listed w) ∧ sizedMet enc Tryz.prog Tryz.f3 (OpenSpec.ofChange Rows.controlLoseSpec) false w args)
   (Rows.controlLoseSpec.post enc Tryz.prog Tryz.f3 false true false false) :=
 law_laid (C := Tryz.checked) (X := laidMetH Tryz.prog listed) (tb := 4) (fun _ _ hh h => h.of_heap hh) own started (by kernel_rfl) Tryz.func3
  (ChangeSpec.witness_shaped (enc := enc) (C := Tryz.checked) (os := os) (X := fun w _ => laidMetH Tryz.prog listed w) false (World.doorLaid Tryz.prog 400 os) #[.int .i64 0, .int .i64 0, .bool false] 8 rfl (World.shaped_of_RefB (by kernel_rfl) (by kernel_rfl)) (by kernel_rfl) (by kernel_rfl) (by kernel_rfl) (door_met os _))
  laidOut (by kernel_rfl) (by kernel_rfl) Tryz.underlying4 rfl (fun ds h => by match ds, h with | [_, _, _], _ => rfl) (lawWalk H enc)
set_option maxRecDepth 100000 in
theorem over : Rows.controlLoseRow.holds Tryz.pinned (OpenSpec.ofChange Rows.controlLoseSpec) :=
 OpenClaim.holds_of_wide 3 Tryz.f3 rfl rfl rfl rfl rfl rfl rfl ⟨rfl, rfl, rfl, rfl, rfl⟩ rfl rfl rfl rfl rfl (by kernel_rfl) Tryz.func3 (by kernel_rfl)
  (of_decide_eq_true (by kernel_rfl)) (by unfold Func.isWrapper; first | (rw [if_pos (by decide +kernel)]; kernel_rfl) | (rw [if_neg (by decide +kernel)]; exact ⟨rfl, rfl⟩))
  (fun os started H enc _ => lifted os started H enc)
theorem proved : Rows.ControlLoseCardSaid :=
 Claim7.holds_tied_plain_at .later [] Rows.controlLoseCard.laidKinds true (true, Rows.controlLoseCard.stood.harness.2) false
  over (fun _ h => by cases h) (by kernel_rfl) (fun _ h => by cases h) controlLose_row_tie rfl ⟨rfl, rfl⟩ (by kernel_rfl) rfl
  (fun f fn hf hfn => by
   obtain rfl : f = 3 := Option.some.inj ((show Tryz.prog.funcNamed "icehouse/icehouselaw23.ControlLose" = some 3 by kernel_rfl).symm.trans hf) |>.symm
   obtain rfl : fn = Tryz.f3 := (Option.some.inj (Tryz.func3.symm.trans hfn)).symm
   exact ⟨by kernel_rfl, fun j t ht => by
    rw [Tryz.params3] at ht
    have hm : t ∈ [2, 2, 4] := by simpa using Array.mem_of_getElem? ht
    have hall : ([2, 2, 4].all fun u => !Tryz.prog.wantsStandIn u) = true := by kernel_rfl
    exact (show Tryz.prog.wantsStandIn t = false by simpa using List.all_eq_true.1 hall t hm)⟩)
  (by kernel_rfl)
#print axioms proved
end Go.Proofs.YtemkjodkmehffaaGreatDoor.controlLose
