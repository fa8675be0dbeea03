/-
  CtAsk, CtChg: texts of mine, joined.
-/
import Derived.Test.YtemkjodkmehffaaGreatDoorAllM19
import Derived.StillTailTactics
import Derived.WalkSpells
namespace Go.Proofs.YtemkjodkmehffaaGreatDoor
open Go Go.RowKit Go.Joins
theorem ask_in {B : Nat} {w : World} {v u : Value} {k n e : Int} {x : ChS} {l : List Int} (h : w.ownsRow B 3 1 v x.to_.length (x.to_.map (Value.int .i64))) (h' : w.ownsRow B 3 1 u l.length (l.map (Value.int .i64))) :
  ∃ a, v = .slice a.ba x.to_.length a.bc ∧ u = .slice a.oa l.length a.oc ∧ a = ⟨none, 0, none, 0, a.ba, a.bc, a.oa, a.oc⟩ ∧ MsIn w (askM k n x e l) a (fun b => B ≤ b ∧ b < w.heap.size) := by
 obtain ⟨A, cA, rfl, -, hrow⟩ := own_slice h
 obtain ⟨h1, h2, h3⟩ := own_cap h
 obtain ⟨A', cA', rfl, -, hrow'⟩ := own_slice h'
 obtain ⟨h1', h2', h3'⟩ := own_cap h'
 refine ⟨⟨none, 0, none, 0, A, cA, A', cA'⟩, rfl, rfl, rfl, ⟨ItsAt.nil _ _ _, MksAt.nil _ _ _, hrow, hrow', ⟨Nat.le_refl _, Nat.zero_le _⟩, ⟨Nat.le_refl _, Nat.zero_le _⟩, ⟨h1, h2, h3⟩, ⟨h1', h2', h3'⟩⟩⟩
theorem map_next {α β : Type} (f : α → β) (l : List α) (j : Nat) (h : j < l.length) : (l.take (j + 1)).map f = (l.take j).map f ++ [f l[j]] := by
 rw [List.take_succ_eq_append_getElem h, List.map_append]; rfl
theorem own_from {w : World} {B B' n : Nat} {e : TypeId} {size : Nat} {v : Value} {xs : List Value} (h : w.ownsRow B e size v n xs) (hb : B' ≤ B) : w.ownsRow B' e size v n xs := by
 refine ⟨h.1, ?_⟩
 rcases h.2 with h' | ⟨g, cap, cur, rfl, h2, r⟩
 ·exact .inl h'
 ·exact .inr ⟨g, cap, cur, rfl, Nat.le_trans hb h2, r⟩
section
variable {w : World} {c q : Nat} {ck g : Option Nat} {R : Nat → Prop} {S : CtS}
set_option maxRecDepth 100000 in
set_option maxHeartbeats 2000000 in
theorem CtB.ask (h : CtB w c q ck g R S) (x : ChS) (hu : S.und = some x) (k : Int) : Calls Tryz.prog 40 #[.pointer (some ⟨c, 0, none⟩), .int .i64 k] w fun e w' => ∃ v, e = .returned v ∧ MOut w.heap.size w' v (S.asks k x) ∧ Kp w w' := by
 have hok := h.ok.und x hu
 have hto : x.to_.length ≤ 5 := (nodes_len (ring_nodes hok.ring)).2
 have hN5 := hok.nl
 obtain ⟨r, hb, -⟩ := h.ex
 have hu' := h.und
 rw [hu] at hu'
 obtain ⟨kk, hg, rt, A, ca, B, cb, C, cc, hblk, ⟨-, -, A1, c1, A2, c2, hring⟩, -, hnodes, -⟩ := hu'
 have c4 : w.cell? ⟨c, 4, none⟩ = some (.pointer (some ⟨kk, 0, none⟩)) := by have := hb.c4; rw [hg] at this; exact this
 have k3 := hblk.c3
 have HCL := Lib.hid (fun w1 (hk : Kp w w1) => (show w1.cell? ⟨c, 4, none⟩ = some (.pointer (some ⟨kk, 0, none⟩)) ∧ w1.cell? ⟨kk, 0, none⟩ = some (.pointer (some ⟨rt, 0, none⟩)) from ⟨hk.cell c4 trivial, hk.cell hblk.c0 trivial⟩))
 have HTE := Lib.hid (fun w1 (hk : Kp w w1) => repoch_any w1 rt x.num (hk.cell hring.e0 trivial))
 have HTN := Lib.hid (fun w1 (hk : Kp w w1) => rnodes_own w1 rt (fun _ => True) x.num x.to_ A1 c1 A2 c2 ((hring.mono fun _ _ _ => trivial).keep trivial hk) hto)
 have HE := Lib.hid (fun w1 (hk : Kp w w1) => (h.kp hk).epoch)
 have HM := Lib.hid (fun w1 (hk : Kp w w1) => (h.kp hk).members)
 have HROW := Lib.hid (show Row w B (fun _ => True) (x.nodes.map (Value.int .i64)) from hnodes.1.mono fun _ _ _ => trivial)
 have HASK := Lib.hid (show S.asks k x = x.nodes.map fun n => askM k n x S.epoch S.mem from rfl)
 obtain ⟨N, hN⟩ : ∃ N, x.nodes.length = N := ⟨_, rfl⟩
 rw [hN] at k3 hN5
 have HNN := Lib.hid hN
 clear h hb hblk hring hnodes hu hg hok hto hN
 go_enter Tryz.func40, Tryz.ntmps40
 go_wp2_with fail
 go_loopw [5, 17] (fun v i wr => ∃ (j : Nat) (ps : List MP) (A : Option Addr) (cA : Nat), j ≤ N ∧ i = .int .i64 (j : Int) ∧ v = .slice A j cA ∧ Hid (ps.map (·.1) = (x.nodes.take j).map fun n => askM k n x S.epoch S.mem) ∧ Hid (MOwn w.heap.size wr v ps) ∧ Hid (Kp w wr)) (fun _ i _ => N - (intOf i).toNat)
 case atStart => exact ⟨0, [], none, 0, Nat.zero_le _, rfl, rfl, Lib.hid rfl, Lib.hid (MOwn.nil _ _), Lib.hid (Keeps.refl _ _)⟩
 case round =>
  clear c4 k3
  obtain ⟨j, ps, A5, c5, hj, rfl, rfl, HP, HO, HK⟩ := hrel
  by_cases hlt : j < N
  ·have hlt' : (j : Int) < (N : Int) := by omega
   have hjl : j < x.nodes.length := by rw [HNN.out]; exact hlt
   obtain ⟨b, o, rfl, -, hcell⟩ := (HROW.out.keep HK.out).at_ (k := j) (by rw [List.length_map]; exact hjl)
   rw [List.getElem_map] at hcell
   have HMN := Lib.hid (map_next (fun n => askM k n x S.epoch S.mem) x.nodes j hjl)
   generalize x.nodes[j] = nd at hcell HMN
   obtain ⟨d4, d0⟩ := HCL.out wr HK.out
   have hpl : ps.length = j := by have := congrArg List.length HP.out; simpa [Nat.min_eq_left (Nat.le_of_lt hjl)] using this
   have HPL := Lib.hid hpl
   have hlv := HO.out.lt
   have HLV := Lib.hid hlv
   clear hlv hpl hjl
   go_wp2_with fail
   refine (show Calls _ _ _ _ _ from HTE.out _ HK.out).mono ?_
   rintro e w1 ⟨rfl, rfl⟩
   go_wp2_with fail
   refine (show Calls _ _ _ _ _ from HTN.out _ HK.out).mono ?_
   rintro e w1 ⟨v1, rfl, ho1, hk1⟩
   have HO1 := Lib.hid ho1
   have HK1 := Lib.hid hk1
   have HKK := Lib.hid (HK.out.trans hk1)
   clear ho1 hk1 d4 d0 hcell
   go_wp2_with fail
   refine (show Calls _ _ _ _ _ from HE.out _ HKK.out).mono ?_
   rintro e w2 ⟨rfl, rfl⟩
   go_wp2_with fail
   refine (show Calls _ _ _ _ _ from HM.out _ HKK.out).mono ?_
   rintro e w2 ⟨v2, rfl, ho2, hk2⟩
   obtain ⟨a, e1, e2, e3, hin⟩ := ask_in (k := k) (n := nd) (e := S.epoch) (hk2.own HO1.out fun _ _ => trivial) (own_from ho2 HK1.out.size)
   obtain ⟨vT, hvT⟩ : ∃ v, msV (askM k nd x S.epoch S.mem) a = v := ⟨_, rfl⟩
   have HV := Lib.hid hvT
   have HE3 := Lib.hid e3
   have HK12 := Lib.hid (HK1.out.trans hk2)
   have HW2 := Lib.hid (HKK.out.trans hk2)
   have HIN := Lib.hid (show MsIn w2 (askM k nd x S.epoch S.mem) a (fun b => w.heap.size ≤ b ∧ b < w2.heap.size ∧ (Value.slice A5 j c5).ownBlock ≠ some b) from hin.mono fun b _ hb => ⟨Nat.le_trans HK.out.size hb.1, hb.2, fun e => by have := (HLV.out b e).2; omega⟩)
   have HO2 := Lib.hid (HO.out.keep HK12.out)
   subst e1 e2
   have hsz := HW2.out.size
   clear hin hvT e3 ho2 hk2 HO HO1 HK1 HKK HK HLV HK12
   go_wp2_with (first
    | (refine list_buildM rfl _ rfl vT (by rw [← HV.out, HE3.out]; kernel_rfl) ?_)
    | (refine list_slice1 rfl (.tmp 39) rfl _ _ HV.out.symm ?_; intro w3 hb3 hk3 hs3)
    | (at_builtin; refine msg_elem.list_append rfl (.tmp 28) (.tmp 40) _ rfl rfl (hk3.own HO2.out.own fun _ _ => trivial) rfl (msRow_src (c := 1) hb3.row) ?c3 ?c4 ?c5 ?_))
   case c3 => have := HPL.out; unfold maxLen; show ps.length + 1 ≤ _; omega
   case c4 => have := HPL.out; show (ps.length + 1) * 256 ≤ _; omega
   case c5 => omega
   intro v4 w4 ho4 hg4 hb4
   have HO4 := Lib.hid ((HO2.out.keep hk3).app ((HIN.out.keep (hk3.mono fun _ _ _ => trivial)).mono fun b _ hb => ⟨hb.1, Nat.lt_of_lt_of_le hb.2.1 hk3.size, hb.2.2⟩) ho4 hg4 (by rw [hs3]; exact hb4))
   have HK4 := Lib.hid ((HW2.out.trans hk3).grown hg4 fun b hb => (HO2.out.lt b hb).1)
   have HP4 := Lib.hid (show (ps ++ [(askM k nd x S.epoch S.mem, a)]).map (·.1) = (x.nodes.take (j + 1)).map fun n => askM k n x S.epoch S.mem from by rw [List.map_append, HP.out, HMN.out]; rfl)
   obtain ⟨A4, cc4, e4⟩ := HO4.out.form
   rw [List.length_append, List.length_singleton, HPL.out] at e4
   subst e4
   clear hb3 hk3 hs3 ho4 hg4 hb4 HO2 HIN HW2 HP
   go_wp2_with fail
   go_roundw
   case rel => exact ⟨j + 1, _, A4, cc4, hlt, by go_num, rfl, HP4, HO4, HK4⟩
   case measure => simp [intOf]; omega
  ·obtain rfl : j = N := by omega
   have hlt' : ¬ ((j : Int) < (j : Int)) := by omega
   have HF := Lib.hid (show MOut w.heap.size wr (.slice A5 j c5) (S.asks k x) from by
    have := HO.out.out
    rw [HP.out, List.take_of_length_le (by rw [HNN.out]; exact Nat.le_refl _)] at this
    rw [HASK.out]
    exact this)
   clear hlt
   go_wp2_with fail
   go_ret
   exact ⟨_, rfl, HF.out, HK.out⟩
end
section
variable {w : World} {c q : Nat} {ck g : Option Nat} {R : Nat → Prop} {S : CtS}
theorem UndAt.loses {u : Option ChS} (h : UndAt w g R u) (n : Int) : Calls Tryz.prog 67 #[pOf g, .int .i64 n] w fun e w' => e = .returned (.bool (losesB u n)) ∧ w = w' := by
 cases u with
 | none =>
  rw [show g = none from h]
  show Calls _ _ #[.pointer none, .int .i64 n] _ _
  clear h
  go_enter Tryz.func67, Tryz.ntmps67
  go_wp2_with fail
  go_ret
  exact ⟨rfl, rfl⟩
 | some x =>
  obtain ⟨k, rfl, rt, A, ca, B, cb, C, cc, h2, -⟩ := h
  show Calls _ _ #[.pointer (some ⟨k, 0, none⟩), .int .i64 n] _ _
  have k2 := h2.c2
  have HL := Lib.hid (show losesB (some x) n = (x.lost == n) from rfl)
  generalize x.lost = l at k2 HL
  clear h2
  go_enter Tryz.func67, Tryz.ntmps67
  go_wp2_with fail
  go_ret
  exact ⟨by rw [HL.out]; rfl, rfl⟩
set_option maxRecDepth 100000 in
set_option maxHeartbeats 2000000 in
theorem UndAt.hears {u : Option ChS} (h : UndAt w g R u) (m : Ms) (a : MsA) : Calls Tryz.prog 69 #[pOf g, msV m a] w fun e w' => e = .returned (.bool (hearsB u m)) ∧ Kp w w' := by
 obtain ⟨vM, hvM⟩ : ∃ v, msV m a = v := ⟨_, rfl⟩
 have HVM := Lib.hid hvM
 rw [hvM]
 clear hvM
 cases u with
 | none =>
  rw [show g = none from h]
  show Calls _ _ #[.pointer none, vM] _ _
  clear h
  go_enter Tryz.func69, Tryz.ntmps69
  go_upto_region 1 with (refine list_boxM rfl (.tmp 1) rfl m a HVM.out.symm ?_; intro w1 hb1 hk1 hs1)
  have HK := Lib.hid hk1
  clear hk1 hb1 hs1
  go_wp2_with fail
  go_quiet (fail)
  go_wp2_with fail
  go_ret
  exact ⟨rfl, HK.out.drewN _⟩
 | some x =>
  obtain ⟨k, rfl, rt, A, ca, B, cb, C, cc, h2, ⟨-, -, A1, c1, A2, c2, hring⟩, -⟩ := h
  show Calls _ _ #[.pointer (some ⟨k, 0, none⟩), vM] _ _
  have HB := Lib.hid h2
  have HR := Lib.hid (fun w1 (hk : Kp w w1) => repoch_any w1 rt x.num (hk.cell hring.e0 trivial))
  have HH := Lib.hid (show hearsB (some x) m = ((m.epoch == x.num) && (if x.phase = 0 then (m.kind == 4) && m.last else if x.phase = 1 then m.kind == 10 else false)) from rfl)
  clear h2 hring
  go_enter Tryz.func69, Tryz.ntmps69
  go_upto_region 1 with (refine list_boxM rfl (.tmp 1) rfl m a HVM.out.symm ?_; intro w1 hb1 hk1 hs1)
  obtain ⟨gg, hg⟩ : ∃ gg, w.heap.size = gg := ⟨_, rfl⟩
  rw [hg] at hb1 hs1 ⊢
  have HK := Lib.hid hk1
  have k0 := hk1.cell HB.out.c0 trivial
  have k4 := hk1.cell HB.out.c4 trivial
  have d0 : w1.cell? ⟨gg, 0, none⟩ = some (.int .i64 m.kind) := hb1.cell 0 _ rfl
  have d3 : w1.cell? ⟨gg, 3, none⟩ = some (.int .i64 m.epoch) := hb1.cell 3 _ rfl
  have d11 : w1.cell? ⟨gg, 11, none⟩ = some (.bool m.last) := hb1.cell 11 _ rfl
  clear hb1 hk1 hs1 hg
  have HR1 := Lib.hid (fun n => HR.out (w1.drewN n) (HK.out.drewN n))
  generalize x.phase = ph at k4 HH
  generalize x.num = nu at HR1 HH
  generalize m.kind = mk at d0 HH
  generalize m.epoch = me at d3 HH
  generalize m.last = ml at d11 HH
  clear HR HB HVM
  cases t1 : (me == nu) with
  | false =>
   have t1' : (me != nu) = true := by simpa using t1
   have HE := Lib.hid (show hearsB (some x) m = false from by rw [HH.out, t1]; rfl)
   clear HH
   go_wp2_with fail
   go_quiet ((first | (go_at_call 43; exact Calls.quiet_of_same ((HR1.out _).mono fun _ _ h => ⟨h.1, h.2.symm⟩))))
   go_wp2_with fail
   go_ret
   exact ⟨by rw [HE.out]; rfl, HK.out.drewN _⟩
  | true =>
   have t1' : (me != nu) = false := by simpa using t1
   rw [t1, Bool.true_and] at HH
   go_wp2_with fail
   go_quiet ((first | (go_at_call 43; exact Calls.quiet_of_same ((HR1.out _).mono fun _ _ h => ⟨h.1, h.2.symm⟩))))
   by_cases p0 : ph = 0
   ·rw [if_pos p0] at HH
    subst p0
    cases t2 : (mk == 4) with
    | false =>
     have HE := Lib.hid (show hearsB (some x) m = false from by rw [HH.out, t2]; rfl)
     clear HH
     go_wp2_with fail
     go_ret
     exact ⟨by rw [HE.out]; rfl, HK.out.drewN _⟩
    | true =>
     have HE := Lib.hid (show hearsB (some x) m = ml from by rw [HH.out, t2]; rfl)
     clear HH
     go_wp2_with fail
     go_ret
     exact ⟨by rw [HE.out]; rfl, HK.out.drewN _⟩
   ·rw [if_neg p0] at HH
    have q0 : (ph == 0) = false := by simpa using p0
    by_cases p1 : ph = 1
    ·rw [if_pos p1] at HH
     have q1 : (ph == 1) = true := by simpa using p1
     clear p0 p1
     go_wp2_with fail
     go_ret
     exact ⟨by rw [HH.out]; rfl, HK.out.drewN _⟩
    ·rw [if_neg p1] at HH
     have q1 : (ph == 1) = false := by simpa using p1
     clear p0 p1
     go_wp2_with fail
     go_ret
     exact ⟨by rw [HH.out]; rfl, HK.out.drewN _⟩
set_option maxRecDepth 100000 in
set_option maxHeartbeats 2000000 in
theorem done_any (w : World) (k : Nat) (R : Nat → Prop) (x : ChS) (n : Int) (h : ChAt w k R x) (hk : ¬ R k) (hl : x.lacks.length ≤ 5) (hn : x.nodes.length ≤ 5) (hp0 : 0 ≤ x.phase) (hp2 : x.phase ≤ 2) :
  Calls Tryz.prog 70 #[.pointer (some ⟨k, 0, none⟩), .int .i64 n] w fun e w' => e = .returned (.bool (x.done n).2) ∧ ChAt w' k (fun b => R b ∨ (w.heap.size ≤ b ∧ b < w'.heap.size)) (x.done n).1 ∧ Keeps (fun b => b ≠ k) w w' := by
 obtain ⟨rt, A, ca, B, cb, C, cc, h1, h2, h3, h4, h5⟩ := h
 have HB := Lib.hid h1
 have k5 := h1.c5
 have hlt := h1.lt
 have HW := Lib.hid (without_any w C cc R x.lacks n h5.1 (by omega) x.lacks.length rfl)
 have H234 := Lib.hid (And.intro h2 (And.intro h3 h4))
 have HLT := Lib.hid hlt
 have HNK := Lib.hid hk
 have HN5 := Lib.hid hn
 generalize hnl : x.lacks.length = nl at k5 HW
 clear h1 h2 h3 h4 h5 hl hn hk hnl
 by_cases hd : 0 < (wo x.lacks n).length
 ·have HE := Lib.hid (show x.done n = (⟨x.num, x.to_, x.all, x.lost, x.nodes, x.phase, wo x.lacks n⟩, false) from by unfold ChS.done; rw [if_pos hd])
  generalize hwl : wo x.lacks n = l at HW HE hd
  have hd' : (0 : Int) < (l.length : Int) := by omega
  clear hwl hd
  go_enter Tryz.func70, Tryz.ntmps70
  go_wp2_with fail
  refine (show Calls _ _ _ _ _ from HW.out).mono ?_
  rintro e w1 ⟨D, cd, rfl, hr, hc1, hc2, hk1⟩
  have k5' := hk1.cell HB.out.c5 trivial
  have f5 := (HB.out.keep hk1 trivial).fz 5
  have HF := Lib.hid (show ∀ w2, w2 = w1.setCell ⟨k, 5, none⟩ (.slice D l.length cd) → w2.cell? ⟨k, 5, none⟩ = some (.slice D l.length cd) ∧ ChAt w2 k (fun b => R b ∨ (w.heap.size ≤ b ∧ b < w2.heap.size)) ⟨x.num, x.to_, x.all, x.lost, x.nodes, x.phase, l⟩ ∧ Keeps (fun b => b ≠ k) w w2 from by
   rintro w2 rfl
   have hb2 := (HB.out.keep hk1 trivial).setL D l.length cd
   have hs : (w1.setCell ⟨k, 5, none⟩ (.slice D l.length cd)).heap.size = w1.heap.size := by simp [World.setCell]
   have kk : Keeps (fun b => b ≠ k) w1 (w1.setCell ⟨k, 5, none⟩ (.slice D l.length cd)) := (Keeps.refl _ w1).setCell (.inr (fun h => h rfl)) _
   have kR : Keeps R w (w1.setCell ⟨k, 5, none⟩ (.slice D l.length cd)) := (hk1.mono fun _ _ _ => trivial).trans (kk.mono fun b _ hb e => HNK.out (e ▸ hb))
   obtain ⟨h2, h3, h4⟩ := H234.out
   exact ⟨hb2.c5, ⟨rt, A, ca, B, cb, D, cd, hb2, (h2.keep kR).mono fun _ h => .inl h, (h3.keep kR).mono fun _ h => .inl h, (h4.keep kR).mono fun _ h => .inl h, ⟨(hr.keep (kk.mono fun b _ hb => by have := HLT.out; omega)).mono fun b _ hb => .inr ⟨hb.1, by rw [hs]; exact hb.2⟩, hc1, hc2⟩⟩, (hk1.mono fun _ _ _ => trivial).trans kk⟩)
  clear hr hc1 hc2 hk1 HB HW k5 hlt
  go_upto_region 2 with fail
  obtain ⟨a1, a2, a3⟩ := HF.out _ rfl
  generalize World.setCell w1 _ _ = w2 at a1 a2 a3 ⊢
  have HF2 := Lib.hid (And.intro a2 a3)
  clear a2 a3 HF k5' f5
  go_wp2_with fail
  go_ret
  exact ⟨by rw [HE.out]; rfl, by rw [HE.out]; exact HF2.out.1, HF2.out.2⟩
 ·have HE := Lib.hid (show x.done n = (⟨x.num, x.to_, x.all, x.lost, x.nodes, x.phase + 1, x.nodes⟩, true) from by unfold ChS.done; rw [if_neg hd])
  generalize hwl : wo x.lacks n = l at HW hd
  have hl0 : l = [] := List.eq_nil_of_length_eq_zero (by omega)
  subst hl0
  clear hwl hd
  go_enter Tryz.func70, Tryz.ntmps70
  go_wp2_with fail
  refine (show Calls _ _ _ _ _ from HW.out).mono ?_
  rintro e w1 ⟨D, cd, rfl, -, -, -, hk1⟩
  have k5' := hk1.cell HB.out.c5 trivial
  have f5 := (HB.out.keep hk1 trivial).fz 5
  have HF := Lib.hid (show ∀ w2, w2 = w1.setCell ⟨k, 5, none⟩ (.slice D ([] : List Int).length cd) → ChBlk w2 k rt A x.all.length ca x.lost B x.nodes.length cb x.phase D 0 cd ∧ Keeps (fun b => b ≠ k) w w2 from by
   rintro w2 rfl
   have hb2 := (HB.out.keep hk1 trivial).setL D 0 cd
   exact ⟨hb2, (hk1.mono fun _ _ _ => trivial).trans ((Keeps.refl _ w1).setCell (.inr (fun h => h rfl)) _)⟩)
  clear hk1 HB HW k5 hlt
  go_upto_region 2 with fail
  obtain ⟨a1, a2⟩ := HF.out _ rfl
  generalize World.setCell w1 _ _ = w2 at a1 a2 ⊢
  have HB2 := Lib.hid a1
  have HK2 := Lib.hid a2
  have k5 := a1.c5
  have k4 := a1.c4
  have f4 := a1.fz 4
  obtain ⟨ph, hph⟩ : ∃ ph, x.phase = ph := ⟨_, rfl⟩
  rw [hph] at k4 hp0 hp2
  have HPH := Lib.hid hph
  clear a1 a2 HF k5' f5 hph
  go_upto_region 5 with fail
  have HF3 := Lib.hid (show ∀ w3, w3 = w2.setCell ⟨k, 4, none⟩ (.int .i64 (ph + 1)) → ChBlk w3 k rt A x.all.length ca x.lost B x.nodes.length cb (ph + 1) D 0 cd ∧ Keeps (fun b => b ≠ k) w w3 from by
   rintro w3 rfl
   exact ⟨HB2.out.setP (ph + 1), HK2.out.trans ((Keeps.refl _ w2).setCell (.inr (fun h => h rfl)) _)⟩)
  obtain ⟨a1, a2⟩ := HF3.out _ rfl
  generalize World.setCell w2 _ _ = w3 at a1 a2 ⊢
  have HB3 := Lib.hid a1
  have HK3 := Lib.hid a2
  have k3 := a1.c3
  have HCL := Lib.hid (iown_any B cb R x.nodes w3 (H234.out.2.2.1.keep (a2.mono fun b _ hb e => HNK.out (e ▸ hb))) (by have := HN5.out; omega) x.nodes.length rfl)
  clear a1 a2 HF3 HB2 HK2 k4 k5 f4
  go_wp2_with fail
  refine (show Calls _ _ _ _ _ from HCL.out).mono ?_
  rintro e w4 ⟨v, rfl, ho, hk4⟩
  obtain ⟨D', cd', rfl, -, hrow⟩ := own_slice ho
  obtain ⟨hc1, hc2, -⟩ := own_cap ho
  have k5 := (HB3.out.keep hk4 trivial).c5
  have f5 := (HB3.out.keep hk4 trivial).fz 5
  have HF := Lib.hid (show ∀ w5, w5 = w4.setCell ⟨k, 5, none⟩ (.slice D' x.nodes.length cd') → ChAt w5 k (fun b => R b ∨ (w.heap.size ≤ b ∧ b < w5.heap.size)) ⟨x.num, x.to_, x.all, x.lost, x.nodes, ph + 1, x.nodes⟩ ∧ Keeps (fun b => b ≠ k) w w5 from by
   rintro w5 rfl
   have hb2 := (HB3.out.keep hk4 trivial).setL D' x.nodes.length cd'
   have hs : (w4.setCell ⟨k, 5, none⟩ (.slice D' x.nodes.length cd')).heap.size = w4.heap.size := by simp [World.setCell]
   have kk : Keeps (fun b => b ≠ k) w4 (w4.setCell ⟨k, 5, none⟩ (.slice D' x.nodes.length cd')) := (Keeps.refl _ w4).setCell (.inr (fun h => h rfl)) _
   have k34 : Keeps (fun b => b ≠ k) w (w4.setCell ⟨k, 5, none⟩ (.slice D' x.nodes.length cd')) := (HK3.out.trans (hk4.mono fun _ _ _ => trivial)).trans kk
   have kR : Keeps R w (w4.setCell ⟨k, 5, none⟩ (.slice D' x.nodes.length cd')) := k34.mono fun b _ hb e => HNK.out (e ▸ hb)
   obtain ⟨h2, h3, h4⟩ := H234.out
   exact ⟨⟨rt, A, ca, B, cb, D', cd', hb2, (h2.keep kR).mono fun _ h => .inl h, (h3.keep kR).mono fun _ h => .inl h, (h4.keep kR).mono fun _ h => .inl h, ⟨(hrow.keep (kk.mono fun b _ hb => by have := HLT.out; have := HK3.out.size; have := hb.1; omega)).mono fun b _ hb => .inr ⟨Nat.le_trans HK3.out.size hb.1, by rw [hs]; exact hb.2⟩, hc1, hc2⟩⟩, k34⟩)
  clear ho hk4 hrow hc1 hc2 HB3 HK3 HCL k3
  go_wp2_with fail
  obtain ⟨a1, a2⟩ := HF.out _ rfl
  generalize World.setCell w4 _ _ = w5 at a1 a2 ⊢
  have HF2 := Lib.hid (And.intro a1 a2)
  clear a1 a2 HF k5 f5
  go_ret
  exact ⟨by rw [HE.out]; rfl, by rw [HE.out, HPH.out]; exact HF2.out.1, HF2.out.2⟩
set_option maxRecDepth 100000 in
set_option maxHeartbeats 2000000 in
theorem newChange_any (w : World) (R : Nat → Prop) (rt : Nat) (A : Option Addr) (ca : Nat) (num : Int) (to_ all : List Int) (lost : Int) (h2 : RgR w R rt num to_) (h3 : LRow w R A ca all) (hl : all.length ≤ 5) (_hR : ∀ b, R b → b < w.heap.size) (m : Nat) (hm : m = all.length) :
  Calls Tryz.prog 73 #[.pointer (some ⟨rt, 0, none⟩), .slice A m ca, .int .i64 lost] w fun e w' => ∃ k, e = .returned (.pointer (some ⟨k, 0, none⟩)) ∧ ChAt w' k (fun b => R b ∨ (w.heap.size ≤ b ∧ b < k)) ⟨num, to_, all, lost, wo all lost, 0, wo all lost⟩ ∧ w.heap.size ≤ k ∧ k < w'.heap.size ∧ Kp w w' := by
 have HW := Lib.hid (without_any w A ca R all lost h3.1 (by omega) m hm)
 have H2 := Lib.hid h2
 have H3 := Lib.hid h3
 have HL := Lib.hid (show (wo all lost).length ≤ 5 from Nat.le_trans (wo_len _ _) hl)
 have HM := Lib.hid hm
 clear h2 h3 hm
 generalize wo all lost = l at HW HL
 go_enter Tryz.func73, Tryz.ntmps73
 go_wp2_with fail
 refine (show Calls _ _ _ _ _ from HW.out).mono ?_
 rintro e w1 ⟨D, cd, rfl, hr, hc1, hc2, hk1⟩
 have HCL := Lib.hid (iown_any D cd _ l w1 hr (by have := HL.out; omega) l.length rfl)
 have HR1 := Lib.hid hr
 have HC1 := Lib.hid (And.intro hc1 hc2)
 have HK1 := Lib.hid hk1
 clear hr hc1 hc2 hk1 HW
 go_wp2_with fail
 refine (show Calls _ _ _ _ _ from HCL.out).mono ?_
 rintro e w2 ⟨v, rfl, ho, hk2⟩
 obtain ⟨D', cd', rfl, -, hrow⟩ := own_slice ho
 obtain ⟨hc1', hc2', -⟩ := own_cap ho
 have HRW := Lib.hid hrow
 have HC2 := Lib.hid (And.intro hc1' hc2')
 have HK2 := Lib.hid hk2
 clear ho hrow hc1' hc2' hk2 HCL
 go_wp2_with fail
 go_ret
 have hs1 := HK1.out.size
 have hs2 := HK2.out.size
 have ka : Kp w2 (w2.alloc (.cells #[.pointer (some ⟨rt, 0, none⟩), .slice A m ca, .int .i64 lost, .slice D l.length cd, .int .i64 0, .slice D' l.length cd'] 83)) := (Keeps.refl _ w2).alloc _
 have hkw := (HK1.out.trans HK2.out).trans ka
 have hkR : Keeps R w (w2.alloc (.cells #[.pointer (some ⟨rt, 0, none⟩), .slice A m ca, .int .i64 lost, .slice D l.length cd, .int .i64 0, .slice D' l.length cd'] 83)) := hkw.mono fun _ _ _ => trivial
 refine ⟨w2.heap.size, rfl, ⟨rt, A, ca, D, cd, D', cd', ?_, (H2.out.keep hkR).mono fun _ h => .inl h, (H3.out.keep hkR).mono fun _ h => .inl h, ⟨((HR1.out.keep (HK2.out.mono fun _ _ _ => trivial)).keep (ka.mono fun _ _ _ => trivial)).mono fun b _ hb => .inr ⟨hb.1, by omega⟩, HC1.out⟩, ⟨(HRW.out.keep (ka.mono fun _ _ _ => trivial)).mono fun b _ hb => .inr ⟨by omega, hb.2⟩, HC2.out⟩⟩, by omega, by simp, hkw⟩
 rw [HM.out]
 exact heap_alloc_new w2 _
def CkO (w : World) (ck : Option Nat) (n : Int) : Prop := match ck with
 | none => n = 0
 | some k => CkBlk w k n ∧ 0 ≤ n ∧ n ≤ 1099511627776
theorem CkO.keep {w w' : World} {ck : Option Nat} {n : Int} {G : Nat → Prop} (h : CkO w ck n) (hk : Keeps G w w') (hG : ∀ k, ck = some k → G k) : CkO w' ck n := by
 cases ck with
 | none => exact h
 | some k => exact ⟨h.1.keep hk (hG k rfl), h.2⟩
theorem CkO.rng {w : World} {ck : Option Nat} {n : Int} (h : CkO w ck n) : 0 ≤ n ∧ n ≤ 1099511627776 := by
 cases ck with
 | none => rw [show n = 0 from h]; decide
 | some k => exact h.2
theorem CkO.now {w : World} {ck : Option Nat} {n : Int} (h : CkO w ck n) : Calls Tryz.prog 41 #[pOf ck] w fun e w' => e = .returned (.int .i64 n) ∧ w = w' := by
 cases ck with
 | none => rw [show n = 0 from h]; exact cnow_nil w
 | some k => exact cnow_any w k n h.1
set_option maxRecDepth 100000 in
set_option maxHeartbeats 2000000 in
theorem granted_any (w : World) (c q r : Nat) (ck g : Option Nat) (t : Int) (f : Nat → Int) (n : Int) (i : Nat) (hi : i ≤ 5) (z : Int) (hz : z = (i : Int)) (h : CtBlk w c q r ck g t f) (hc : CkO w ck n) :
  Calls Tryz.prog 32 #[.pointer (some ⟨c, 0, none⟩), .int .i64 z] w fun e w' => e = .returned (.tuple #[]) ∧ CtBlk w' c q r ck g t (setO f i (n + 40)) ∧ Keeps (fun b => b ≠ c) w w' := by
 subst hz
 have c0 := h.c0
 have cO := h.over i hi
 have fO := h.fz (5 + i)
 have hrg := hc.rng
 have h0 := hrg.1
 have h1 := hrg.2
 have HN := Lib.hid (fun w1 (hk : Kp w w1) => (hc.keep hk fun _ _ => trivial).now)
 have HB := Lib.hid h
 have HI := Lib.hid hi
 obtain ⟨vck, hvck⟩ : ∃ v, pOf ck = v := ⟨_, rfl⟩
 have HNV := Lib.hid (show Calls Tryz.prog 41 #[vck] w.drew fun e w' => e = .returned (.int .i64 n) ∧ w' = w.drew from by rw [← hvck]; exact (HN.out _ ((Keeps.refl _ w).drew)).mono fun _ _ h => ⟨h.1, h.2.symm⟩)
 rw [hvck] at c0
 clear h hc hrg hvck HN
 go_enter Tryz.func32, Tryz.ntmps32
 go_still_tail 10, (by kernel_rfl)
 still_call HNV.out
 repeat still_step
 refine wpStill_nil ?_
 change wpList _ _ _ _ _ w.drew
 have hbd : CtBlk w.drew c q r ck g t f := HB.out
 have HBD := Lib.hid hbd
 have HKD := Lib.hid (show Kp w w.drew from (Keeps.refl _ w).drew)
 have cO' := hbd.over i HI.out
 have fO' := hbd.fz (5 + i)
 clear hbd c0 cO fO HB HNV
 generalize w.drew = wd at HBD HKD cO' fO' ⊢
 go_wp2_with fail
 go_end0
 exact ⟨rfl, HBD.out.setO i HI.out _, (HKD.out.mono fun _ _ _ => trivial).trans ((Keeps.refl _ wd).setCell (.inr (fun h => h rfl)) _)⟩
end
end Go.Proofs.YtemkjodkmehffaaGreatDoor
