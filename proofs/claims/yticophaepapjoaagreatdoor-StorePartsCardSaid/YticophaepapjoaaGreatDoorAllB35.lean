/-
  StBegun, StLocs, StTexts, StGetOps, FlKeys, FlNil, IxRep, JnMid: texts of mine, joined.
-/
import Derived.Test.YticophaepapjoaaGreatDoorAllB29
import Derived.Test.YticophaepapjoaaGreatDoorAllB31
import Derived.Outline
import Derived.Test.YticophaepapjoaaGreatDoorAllB15
import Derived.BigQuiet
import Derived.Deep.QuietTactic
import Derived.WalkSpells
import Derived.Laws.OwnMore
import Derived.Test.YticophaepapjoaaGreatDoorAllB34
import Derived.Test.YticophaepapjoaaGreatDoorAllB02
open Go.Lib renaming hid → Hd
set_option maxRecDepth 100000
set_option maxHeartbeats 8000000
namespace Go.Proofs.YticophaepapjoaaGreatDoor
open Go Go.RowKit Go.Joins
section
variable {S : FlashOK} {J : JournalOK} {W w w' : World} {p b q1 q2 k n d c : Nat} {z : Sto} {X : Nat → Prop}
theorem Blank.dev (h : Blank W w p n X) : StDev W w p n 0 X := by
 obtain ⟨F, hd, hX⟩ := h
 exact ⟨F, _, hd, by show (List.replicate n blank).length = n; exact List.length_replicate .., Nat.le_refl _, hX⟩
theorem so_make (hS : S.T W) (hJ : J.T W) (hT : theSup.T W) (h : StDev W w p n c X) (h1 : 192 ≤ n) (hc : c ≤ 200000000000) : Calls Tryz.prog 11 #[.pointer (some ⟨p, 0, none⟩)] w (MadePost S J W w p n c X) := by
 obtain ⟨F, s, hd, hl, hcc, hX⟩ := h
 refine (stmake_any hS hJ hT hd hl hX h1 (by omega)).mono ?_
 rintro e w' ⟨b, q1, q2, k, c', rfl, hat, hc', hk⟩
 exact ⟨b, q1, q2, k, c', rfl, hat, by omega, hk⟩
end
def sK : ByteArray := { data := #[107] }
def sV : ByteArray := { data := #[118] }
def sIt : It := ⟨sK, sV, 0, false⟩
theorem sK_ok : keyOk sK := by unfold keyOk; decide
theorem getE_sIt (pl sg a : Nat) : getE ⟨pl, sg, [fput sIt], 0, a⟩ sK 0 = .returned (.tuple #[.agg #[.string ⟨#[107]⟩, .string ⟨#[118]⟩, .int .i64 0, .bool false], .bool true]) := by
 have e : (⟨pl, sg, [fput sIt], 0, a⟩ : FSt).at_ sK = some sIt := rfl
 have hl : sIt.live 0 = true := by decide
 unfold getE
 rw [e]
 show (if sIt.live 0 = true then _ else _) = _
 rw [if_pos hl]
 rfl
theorem getE_grave (pl sg a : Nat) : getE ⟨pl, sg, [fput sIt, grave sK], 0, a⟩ sK 0 = .returned (.tuple #[.agg #[.string ⟨#[]⟩, .string ⟨#[]⟩, .int .i64 0, .bool false], .bool false]) := by
 have e : (⟨pl, sg, [fput sIt, grave sK], 0, a⟩ : FSt).at_ sK = none := rfl
 unfold getE
 rw [e]
theorem cost_sIt : fcosts [fput sIt] = 82 := by decide
theorem cost_sGr : fcosts [fput sIt, grave sK] = 163 := by decide
theorem meta_field0 (w : World) (x y z : Int) (f : Bool) : Sem.run Tryz.prog (Instr.field 32 (.agg #[.int .i64 x, .int .i64 y, .int .i64 z, .bool f]) 0) w = .ok (.int .i64 x) w := by kernel_rfl
theorem begun21 (S : FlashOK) (J : JournalOK) (w : World) (hS : S.T w) (hJ : J.T w) (hT : theSup.T w) : Calls Tryz.prog 9 #[] w fun e w' => e = .returned (.bool true) ∧ Kp w w' := by
 have HT := Hd (And.intro hS (And.intro hJ hT))
 clear hS hJ hT
 go_enter Tryz.func9, Tryz.ntmps9
 go_wp2_with fail
 refine (show Calls _ _ _ _ _ from fo_dev (X := fun _ => False) (Keeps.refl _ w) (fun _ h => h.elim) 400 (by decide) (by decide) 400 rfl).mono ?_
 rintro e w1 ⟨p, rfl, hB, -⟩
 have HB := Hd hB.dev
 clear hB
 go_wp2_with fail
 refine (show Calls _ _ _ _ _ from so_make HT.out.1 HT.out.2.1 HT.out.2.2 HB.out (by decide) (by decide)).mono ?_
 rintro e w2 ⟨b, q1, q2, k, c, rfl, hat, hc, -⟩
 have c0 := hat.blk.c0
 have c1 := hat.blk.c1
 have c2 := hat.blk.c2
 have HA := Hd hat
 have HC := Hd (show c ≤ 10000 by omega)
 clear hat hc HB
 go_wp2_with fail
 refine (show Calls _ _ _ _ _ from so_put HT.out.1 HA.out (by show 1 ≤ 20000; decide) (by show c ≤ 400000000000; have := HC.out; omega) sIt (by decide) rfl).mono ?_
 rintro e w3 ⟨rfl, g, -, hat, -⟩
 have hg : g = 0 := hat.wf.1.whole (by show fcosts [fput sIt] ≤ 200 * (segsOf 400 - 2); rw [cost_sIt]; decide)
 subst hg
 have HA3 := Hd (show StAt S J w w3 p b q1 q2 k ⟨⟨162, segsOf 400, [fput sIt], 0, 2⟩, ⟨2, 20, [], 0, 32, 1⟩, 2, ⟨1, 0, 0, false⟩, 1, c + 2000⟩ 400 0 (fun _ => False) from hat)
 have d0 := HA3.out.blk.c0
 clear hat HA c0 c1 c2
 go_wp2_with fail
 refine (show Calls _ _ _ _ _ from so_get HT.out.1 HA3.out sK 0 (by decide) (by decide) (by decide) _ (getE_sIt _ _ _).symm).mono ?_
 rintro e w4 ⟨rfl, hk4, hat⟩
 clear HA3 d0 hk4
 have HA4 := Hd hat
 clear hat
 go_wp2_with fail
 have hk5 : Kp w4 (w4.alloc (.cells #[.string ⟨#[107]⟩, .string ⟨#[118]⟩, .int .i64 0, .bool false] 40)) := (Keeps.refl _ w4).alloc _
 have hb5 := heap_alloc_new w4 (.cells #[.string ⟨#[107]⟩, .string ⟨#[118]⟩, .int .i64 0, .bool false] 40)
 have hs5 : (w4.alloc (.cells #[.string ⟨#[107]⟩, .string ⟨#[118]⟩, .int .i64 0, .bool false] 40)).heap.size = w4.heap.size + 1 := by simp
 generalize w4.alloc (.cells #[.string ⟨#[107]⟩, .string ⟨#[118]⟩, .int .i64 0, .bool false] 40) = w5 at *
 have e1 : w5.cell? ⟨w4.heap.size, 1, none⟩ = some (.string ⟨#[118]⟩) := (cell_of_block hb5 1).trans rfl
 have hk6 : Kp w5 (w5.alloc (.cells #[.string ⟨#[107]⟩] 9)) := (Keeps.refl _ w5).alloc _
 have hs6 : (w5.alloc (.cells #[.string ⟨#[107]⟩] 9)).heap.size = w5.heap.size + 1 := by simp
 have hrow := Row.fresh (F := fun x => x = w4.heap.size ∨ x = w4.heap.size + 1) w5 #[.string ⟨#[107]⟩] 9 (0, 0) (w4.heap.size + 1) hs5.symm (.inr rfl) ([sK].map Value.string) rfl
 have e1' := hk6.cell e1 trivial
 generalize w5.alloc (.cells #[.string ⟨#[107]⟩] 9) = w6 at *
 have HA6 := Hd (HA4.out.more (Y := fun x => x = w4.heap.size ∨ x = w4.heap.size + 1) (hk5.trans hk6) fun x hx => .inr (by omega))
 have HR := Hd hrow
 have HE := Hd e1'
 clear hk5 hb5 hs5 e1 hk6 hs6 hrow e1' HA4
 generalize w4.heap.size = g at *
 refine (show Calls _ _ _ _ _ from so_kill HT.out.1 HT.out.2.1 HA6.out (by show 2 ≤ 20000; decide) (by show 1 ≤ 20000; decide) (by show c + 2000 ≤ 300000000000; have := HC.out; omega) (some ⟨g + 1, 0, none⟩) [sK] HR.out 1 1 rfl (by decide) (by decide) (by decide) (by intro k hk; rw [List.mem_singleton.1 hk]; exact sK_ok) 1 rfl).mono ?_
 rintro e w7 ⟨rfl, g2, u, -, -, hat, hk7⟩
 have hg : g2 = 0 := hat.wf.1.whole (by show fcosts [fput sIt, grave sK] ≤ 200 * (segsOf 400 - 2); rw [cost_sGr]; decide)
 subst hg
 have HE7 := Hd (hk7.cell HE.out (.inl rfl))
 have HA7 := Hd (show StAt S J w w7 p b q1 q2 k ⟨⟨162, segsOf 400, [fput sIt, grave sK], 0, 4⟩, ⟨2, 20, [sK], u, 32, 3⟩, 2, ⟨1, 0, 0, false⟩, 1, c + 6000⟩ 400 2 (fun x => x = g) from hat.less fun x hx => .inl hx)
 have d0 := HA7.out.blk.c0
 clear hat hk7 HA6 HR HE
 go_wp2_with fail
 refine (show Calls _ _ _ _ _ from so_get HT.out.1 HA7.out sK 0 (by decide) (by decide) (by decide) _ (getE_grave _ _ _).symm).mono ?_
 rintro e w8 ⟨rfl, hk8, hat⟩
 have hk9 : Kp w8 (w8.alloc (.cells #[.string ⟨#[]⟩, .string ⟨#[]⟩, .int .i64 0, .bool false] 40)) := (Keeps.refl _ w8).alloc _
 have HA9 := Hd (hat.keep hk9)
 have HE9 := Hd ((hk8.trans hk9).cell HE7.out trivial)
 clear d0 hk8 hk9 hat HA7 HE7
 go_wp2_with fail
 generalize w8.alloc (.cells #[.string ⟨#[]⟩, .string ⟨#[]⟩, .int .i64 0, .bool false] 40) = w9 at *
 refine (show Calls _ _ _ _ _ from so_crash HA9.out (by decide) none 0 (fun _ => True) [] 0 rfl (Row.nil _ _ _) (by decide)).mono ?_
 rintro e w10 ⟨r, rfl, hD, hk10, hat⟩
 have HD := Hd hD
 have HBL := Hd (show StBlk w10 b q1 q2 k 1 from hat.blk)
 have HE10 := Hd (hk10.cell HE9.out trivial)
 clear hD hat hk10 HA9 HE9
 go_wp2_with fail
 refine (show Calls _ _ _ _ _ from so_openOld HT.out.1 HT.out.2.1 HT.out.2.2 HD.out (by show (1 : Int) < _; decide) (by show 2 ≤ 300000000000; decide) (by show 4 ≤ 20000; decide) (by show 3 ≤ 20000; decide)).mono ?_
 rintro e w11 ⟨b2, p1, p2, k2, z2, rfl, hat, hj, hm, hbo, hk11⟩
 have hj2 : z2.j.keys = [sK] := hj
 have hm2 : z2.m = ⟨2, 0, 0, false⟩ := hm
 have hb2 : z2.boot = 2 := hbo
 have HA11 := Hd hat
 have HJ := Hd (And.intro hj2 (And.intro hm2 hb2))
 have HBL11 := Hd (HBL.out.keep hk11 (.inl rfl))
 have e11 := hk11.cell HE10.out (.inr rfl)
 have d1 := hat.blk.c1
 have d2 := hat.blk.c2
 clear hat hj hm hbo hj2 hm2 hb2 hk11 HD HBL HE10
 go_wp2_with fail
 refine (show Calls _ _ _ _ _ from so_seq HT.out.2.1 HA11.out 1 (by rw [HJ.out.1]; rfl)).mono ?_
 rintro e w12 ⟨rfl, hk12, hat⟩
 have HA12 := Hd hat
 have HBL12 := Hd (HBL11.out.keep hk12 trivial)
 have d2' := hat.blk.c2
 clear hat hk12 HA11 HBL11 e11 d1 d2
 go_wp2_with fail
 refine (show Calls _ _ _ _ _ from so_started HA12.out 2 HJ.out.2.2.symm).mono ?_
 rintro e w13 ⟨rfl, rfl⟩
 go_wp2_with fail
 refine (show Calls _ _ _ _ _ from sstarted_blk HBL12.out).mono ?_
 rintro e w13 ⟨rfl, rfl⟩
 clear HBL12
 go_wp2_with fail
 have HMT := so_meta HA12.out
 rw [HJ.out.2.1] at HMT
 have HM := Hd HMT
 clear HMT d2'
 refine (show Calls _ _ _ _ _ from HM.out).mono ?_
 rintro e w13 ⟨rfl, -, hat⟩
 have HK := Hd hat.kp
 clear hat HM HA12
 unfold magg
 go_wp2_with (rw [meta_field0])
 go_ret
 exact ⟨rfl, HK.out⟩
section
variable {o : Oper} {a : Act} {w : World} {Q : Exit → Act → World → Prop} {x y : Operand}
theorem kp_st0 {b : Nat} (ho : o.op = .fieldAddr 38 x 0) (hx : a.eval x = .pointer (some ⟨b, 0, none⟩)) : o.wp Tryz.prog a w (fun a' w' => ∃ v, a' = a.put o.dst v ∧ Kp w w' ∧ IsV (.pointer (some ⟨b, 0, none⟩)) w' v) Q := by
 refine kp_yield (v := .pointer (some ⟨b, 0, none⟩)) (w' := w) ?_ (Keeps.refl _ _) rfl
 generalize a.eval = ρ at hx ⊢
 unfold execOp
 rw [ho]
 go_simp
theorem kp_ldC {b q : Nat} (hc : w.cell? ⟨b, 0, none⟩ = some (.pointer (some ⟨q, 0, none⟩))) (ho : o.op = .load 34 x) (hx : a.eval x = .pointer (some ⟨b, 0, none⟩)) : o.wp Tryz.prog a w (fun a' w' => ∃ v, a' = a.put o.dst v ∧ Kp w w' ∧ IsV (.pointer (some ⟨q, 0, none⟩)) w' v) Q := by
 refine kp_yield (v := .pointer (some ⟨q, 0, none⟩)) (w' := w) ?_ (Keeps.refl _ _) rfl
 generalize a.eval = ρ at hx ⊢
 unfold execOp
 rw [ho]
 go_simp
end
def strC (l : List ByteArray) : List Value := l.map Value.string
theorem strC_len (l : List ByteArray) : (strC l).length = l.length := by simp [strC]
theorem strC_at {w : World} {A : Option Addr} {F : Nat → Prop} {l : List ByteArray} (h : Row w A F (strC l)) {k : Nat} (hk : k < l.length) : ∃ b o, A = some ⟨b, o, none⟩ ∧ F b ∧ w.cell? ⟨b, o + k, none⟩ = some (.string l[k]) := by
 obtain ⟨b, o, e, hF, hc⟩ := h.at_ (k := k) (by rw [strC_len]; exact hk)
 exact ⟨b, o, e, hF, by rw [hc]; simp [strC]⟩
theorem eqtexts_same (w : World) (A B : Option Addr) (c d : Nat) (l : List ByteArray) (hA : Row w A (fun _ => True) (strC l)) (hB : Row w B (fun _ => True) (strC l)) (hl : l.length ≤ 1000000) :
  Calls Tryz.prog 29 #[.slice A l.length c, .slice B l.length d] w fun e w' => e = .returned (.bool true) ∧ Kp w w' := by
 have HA := Hd hA
 have HB := Hd hB
 obtain ⟨m, hm⟩ : ∃ m, l.length = m := ⟨_, rfl⟩
 have HM := Hd hm
 rw [hm] at hl ⊢
 clear hA hB hm
 go_enter Tryz.func29, Tryz.ntmps29
 go_wp2_with fail
 go_loopw [5] (fun i wr => ∃ k : Nat, k ≤ m ∧ i = .int .i64 (k : Int) ∧ Hid (Kp w wr)) (fun i _ => m - (intOf i).toNat)
 case atStart => exact ⟨0, Nat.zero_le _, rfl, Hd (Keeps.refl _ _)⟩
 case round =>
  obtain ⟨k, hk, rfl, HK⟩ := hrel
  by_cases hkm : k < m
  ·have hkm' : (k : Int) < (m : Int) := by omega
   obtain ⟨b, o, rfl, -, c1⟩ := strC_at (HA.out.keep HK.out) (k := k) (by rw [HM.out]; exact hkm)
   obtain ⟨b2, o2, rfl, -, c2⟩ := strC_at (HB.out.keep HK.out) (k := k) (by rw [HM.out]; exact hkm)
   generalize l[k]'(by rw [HM.out]; exact hkm) = s at c1 c2
   go_wp2_with fail
   go_quiet (fail)
   go_wp2_with fail
   go_roundw
   case rel => exact ⟨k + 1, by omega, by go_num, Hd (HK.out.drewN _)⟩
   case measure => simp [intOf]; omega
  ·obtain rfl : m = k := by omega
   have hkm' : ¬ (m : Int) < (m : Int) := by omega
   go_wp2_with fail
   go_ret
   exact ⟨rfl, HK.out⟩
theorem elemT : Elem Tryz.prog 30 9 (.string ⟨#[]⟩) 1 16 := ⟨Tryz.underlying30, by kernel_rfl, rfl, by decide⟩
theorem srcT (W : World) (g : Nat) (hg : g = W.heap.size) (s : ByteArray) : Src Tryz.prog 1 30 (.slice (some ⟨g, 0, none⟩) 1 1) 1 [.string s] (W.alloc (.cells #[.string s] 9)) := by
 subst hg
 exact src_one Tryz.underlying30 W (.string s) 9 rfl W.heap.size rfl 1
def cuts3 (ss : List ByteArray) : List ByteArray := (ss.take 3).map (cutZ · 45)
theorem cuts3_len (ss : List ByteArray) : (cuts3 ss).length = min 3 ss.length := by simp [cuts3]
theorem cuts3_size (ss : List ByteArray) : ∀ s ∈ cuts3 ss, s.size ≤ 45 := fun s hs => by
 obtain ⟨t, -, rfl⟩ := List.mem_map.1 hs
 exact cutZ_size t 45
def cutL3 (ss : List ByteArray) (k : Nat) : List Value := ((ss.take k).map (cutZ · 45)).map Value.string
theorem cutL3_len (ss : List ByteArray) (k : Nat) (h : k ≤ ss.length) : ((ss.take k).map (cutZ · 45)).length = k := by simp; omega
theorem cuts3_next (ss : List ByteArray) (k : Nat) (h : k < ss.length) : cutL3 ss k ++ [Value.string (cutZ ss[k] 45)] = cutL3 ss (k + 1) := by
 unfold cutL3
 rw [List.take_succ_eq_append_getElem h, List.map_append, List.map_append]; rfl
theorem ownT_row {w : World} {B n : Nat} {v : Value} {ks : List ByteArray} (hn : ks.length = n) (h : w.ownsRow B 9 1 v n (ks.map Value.string)) : ∃ A c, v = .slice A n c ∧ n ≤ c ∧ c ≤ maxLen ∧ Row w A (fun b => B ≤ b ∧ b < w.heap.size) (ks.map Value.string) := by
 subst hn
 have key : ∃ A c, v = .slice A ks.length c ∧ ks.length ≤ c ∧ c ≤ maxLen := by
  rcases h.2 with ⟨h', h0⟩ | ⟨g', cap', cur, h', _, _, h1, h2, _⟩
  ·exact ⟨none, 0, by rw [h0]; exact h', by omega, Nat.zero_le _⟩
  ·exact ⟨_, _, h', h1, h2⟩
 obtain ⟨A, c, rfl, h1, h2⟩ := key
 refine ⟨A, c, rfl, h1, h2, ?_⟩
 have e : ks.length = (ks.map Value.string).length := by rw [List.length_map]
 rw [e] at h
 exact Row.of_own h
theorem cut45 (s : ByteArray) (hs : s.size ≤ maxLen) (w : World) : Calls Tryz.prog 40 #[.string s, .int .i64 45] w fun e w' => e = .returned (.string (cutZ s 45)) ∧ w = w' := tcut_any s 45 hs (by decide) w
theorem texts3 (w : World) (A : Option Addr) (c : Nat) (ss : List ByteArray) (hl : ss.length ≤ c) (hc : c ≤ maxLen) (hr : Row w A (fun b => b < w.heap.size) (ss.map Value.string)) (hs : ∀ s ∈ ss, s.size ≤ maxLen) :
  Calls Tryz.prog 16 #[.slice A ss.length c, .int .i64 3, .int .i64 45] w fun e w' => ∃ A' c', e = .returned (.slice A' (cuts3 ss).length c') ∧ (cuts3 ss).length ≤ c' ∧ c' ≤ maxLen ∧ Row w' A' (fun b => w.heap.size ≤ b ∧ b < w'.heap.size) ((cuts3 ss).map Value.string) ∧ Kp w w' := by
 obtain ⟨N, hN⟩ : ∃ N, ss.length = N := ⟨_, rfl⟩
 have HN := Hd hN
 have HR := Hd hr
 have HSZ := Hd hs
 have hNm : N ≤ 9223372036854775807 := by unfold maxLen at hc; omega
 obtain ⟨B, hB⟩ : ∃ B, w.heap.size = B := ⟨_, rfl⟩
 have HB := Hd hB
 have hW : Kp w w := Keeps.refl _ _
 have HK := Hd hW
 have HE := Hd (show ∀ k, (k = 3 ∧ 3 ≤ N) ∨ (k = N ∧ N ≤ 3) → (ss.take k).map (cutZ · 45) = cuts3 ss from by
  intro k h
  unfold cuts3
  rcases h with ⟨rfl, -⟩ | ⟨rfl, h⟩
  ·rfl
  ·rw [List.take_of_length_le (by omega), List.take_of_length_le (by omega)])
 rw [hN, hB]
 rw [hN] at hl
 clear hr hs hW hN hB hl hc
 go_enter Tryz.func16, Tryz.ntmps16
 go_wp2
 go_loopw [7, 8] (fun v i wr => ∃ k : Nat, k ≤ N ∧ k ≤ 3 ∧ i = .int .i64 (k : Int) ∧ Hid (wr.ownsRow B 9 1 v k (cutL3 ss k)) ∧ Hid (Kp w wr)) (fun _ i _ => 3 - (intOf i).toNat)
 case atStart => exact ⟨0, Nat.zero_le _, by omega, rfl, Hd (World.ownsRow_nil _ _ _ _), HK⟩
 case round =>
  clear HK
  obtain ⟨k, hk, hk6, rfl, HO, HK⟩ := hrel
  have hc2 : (k < N ∧ k < 3) ∨ (k < N ∧ ¬ k < 3) ∨ ¬ k < N := by omega
  rcases hc2 with ⟨t1, t2⟩ | ⟨t1, t2⟩ | t1
  case inl =>
   have t1' : (k : Int) < (N : Int) := by omega
   have t2' : (k : Int) < 3 := by omega
   have hkl : k < ss.length := by rw [HN.out]; exact t1
   obtain ⟨b, o, rfl, -, hcell⟩ := (HR.out.keep (HK.out.mono fun _ _ _ => trivial)).at_ (k := k) (by rw [List.length_map]; exact hkl)
   rw [List.getElem_map] at hcell
   have hsz : ss[k].size ≤ maxLen := HSZ.out _ (List.getElem_mem hkl)
   have HX := Hd (cuts3_next ss k hkl)
   generalize ss[k] = s at hcell hsz HX
   have hkG : Kp wr (wr.alloc (.cells #[.string (cutZ s 45)] 9)) := (Keeps.refl _ _).alloc _
   have HROW := Hd (hkG.own HO.out fun _ _ => trivial)
   have HSRC := Hd (srcT wr wr.heap.size rfl (cutZ s 45))
   have HKA := Hd (HK.out.trans hkG)
   have HBH := Hd (show B ≤ (wr.alloc (.cells #[.string (cutZ s 45)] 9)).heap.size from by rw [← HB.out]; exact HKA.out.size)
   have HLT := Hd hsz
   clear hkG HK hkl hsz
   go_wp2_with (first
    | (go_at_call 40; ((with_reducible refine (cut45 s HLT.out _).mono ?_); rintro e w' ⟨rfl, rfl⟩))
    | (at_builtin; go_loud (refine elemT.list_append rfl (.tmp 20) (.tmp 27) _ rfl rfl HROW.out rfl HSRC.out ?c3 ?c4 HBH.out ?_)))
   case c3 => unfold maxLen; omega
   case c4 => omega
   intro v7 w7 ho7 hg7 hb7
   rw [HX.out] at ho7
   have hkB : Keeps (fun b => b < B) (wr.alloc (.cells #[.string (cutZ s 45)] 9)) w7 := Keeps.of_grown hg7 fun b hb _ hlt => by
    have h1 := (HROW.out.lt b hb).1
    omega
   have hkG : Kp w w7 := ⟨hkB.os.trans HKA.out.os, hkB.tape.trans HKA.out.tape, hkB.output.trans HKA.out.output, Nat.le_trans HKA.out.size hkB.size, fun b _ hb =>
    (hkB.block b (by rw [← HB.out]; exact hb) (Nat.lt_of_lt_of_le hb HKA.out.size)).trans (HKA.out.block b trivial hb)⟩
   have HO7 := Hd ho7
   have HK7 := Hd hkG
   clear ho7 hg7 hb7 hkG hkB HROW HSRC HKA HBH
   go_wp2_with fail
   go_roundw
   case rel => exact ⟨k + 1, by omega, by omega, by go_num, HO7, HK7⟩
   case measure => simp [intOf]; omega
  all_goals (try have t1' : (k : Int) < (N : Int) := by omega)
  all_goals (try have t2' : ¬ (k : Int) < 3 := by omega)
  all_goals (try have t1' : ¬ (k : Int) < (N : Int) := by omega)
  all_goals (
   obtain ⟨A', c', rfl, h1, h2, h3⟩ := ownT_row (cutL3_len ss k (by rw [HN.out]; exact hk)) HO.out
   have e := HE.out k (by omega)
   rw [e] at h3
   have hcl : (cuts3 ss).length = k := by rw [← e, List.length_map, List.length_take, HN.out]; omega
   have HCL := Hd hcl
   have H3 := Hd h3
   have H12 := Hd (And.intro h1 h2)
   clear h1 h2 h3 e hcl HO
   go_wp2_with fail
   go_ret
   exact ⟨_, _, by rw [HCL.out]; rfl, by rw [HCL.out]; exact H12.out.1, H12.out.2, H3.out, HK.out⟩)
def ItB (w : World) (B : Nat) : Prop := ∃ c0 c1 c2 c3, w.heap[B]? = some (.cells #[c0, c1, c2, c3] 40 (0, 0))
def Rg (g : Nat) (w w' : World) : Prop := w.heap.size ≤ w'.heap.size ∧ ∀ B, g ≤ B → ItB w B → ItB w' B
theorem Rg.of_kp {g : Nat} {w w' : World} (h : Kp w w') : Rg g w w' := ⟨h.size, fun B _ ⟨c0, c1, c2, c3, hb⟩ => ⟨c0, c1, c2, c3, (h.block B trivial (Array.getElem?_eq_some_iff.1 hb).1).trans hb⟩⟩
def NewIt (g : Nat) (w : World) (v : Value) : Prop := ∃ B, v = .pointer (some ⟨B, 0, none⟩) ∧ g ≤ B ∧ ItB w B
theorem NewIt.keep {g : Nat} {w w' : World} {v : Value} (h : Rg g w w') (hv : NewIt g w v) : NewIt g w' v := by
 obtain ⟨B, e, h1, h2⟩ := hv
 exact ⟨B, e, h1, h.2 B h1 h2⟩
theorem it_info : (Tryz.prog.info? 40).map (·.size) = some 4 := by kernel_rfl
section
variable {o : Oper} {a : Act} {w : World} {Q : Exit → Act → World → Prop} {x y : Operand}
theorem kp_allocI {g : Nat} (hg : g ≤ w.heap.size) (ho : o.op = .alloc 40) : o.wp Tryz.prog a w (fun a' w' => ∃ v, a' = a.put o.dst v ∧ Kp w w' ∧ NewIt g w' v) Q := by
 refine kp_yield (v := .pointer (some ⟨w.heap.size, 0, none⟩)) (w' := w.alloc (.cells #[.string ⟨#[]⟩, .string ⟨#[]⟩, .int .i64 0, .bool false] 40)) ?_ ((Keeps.refl _ w).alloc _) ⟨_, rfl, hg, _, _, _, _, heap_alloc_new w _⟩
 generalize a.eval = ρ
 unfold execOp
 rw [ho]
 go_simp
end
theorem ckeys (S : Slog2) (I : IndexOK) (w : World) (hT : I.T w) (p q : Nat) (Fs : Foot) (s : SDev) (st : FSt) (hr : flashRep S I w p q Fs st s) (hage : st.age ≤ 30000) :
  Calls Tryz.prog 30 #[.pointer (some ⟨q, 0, none⟩)] w fun e w' => ∃ (A : Option Addr) (c : Nat) (ks : List ByteArray), e = .returned (.slice A ks.length c) ∧ Rising ks ∧ (∀ k, k ∈ ks ↔ (st.at_ k).isSome = true) ∧ ks.length ≤ c ∧ c ≤ maxLen ∧ TextsAt w' A (fun b => w.heap.size ≤ b ∧ b < w'.heap.size) ks ∧ Kp w w' := by
 obtain ⟨lq, iq, Fl, Fi, lo, lst, ix, hs, rfl, hc, hm, hx⟩ := hr
 have c0 := hc.blk.c0
 have c1 := hc.blk.c1
 have HDN := Hd (cdown w q lq c0)
 have HMEM := Hd (show ∀ k, k ∈ ix.map (·.1) ↔ (st.at_ k).isSome = true from fun k => by
  rw [hm.at_ k]
  have h := hx.is k
  constructor
  ·intro hk
   obtain ⟨a, ha, rfl⟩ := List.mem_map.1 hk
   have h2 := ixGet_of hx.nd (k := a.1) (p := a.2) ha
   rw [h2] at h
   cases hsp : sp (hs.drop lst.gone) a.1 with
   | none => rw [hsp] at h; cases h
   | some y => rfl
  ·intro hk
   cases hsp : sp (hs.drop lst.gone) k with
   | none => rw [hsp] at hk; cases hk
   | some y =>
    rw [hsp] at h
    exact List.mem_map.2 ⟨_, ixGet_mem h, rfl⟩)
 have HKS := Hd (I.keys w iq Fi ix hc.i hT (Nat.le_trans hx.len (by omega)))
 clear hc hm hx
 go_enter Tryz.func30, Tryz.ntmps30
 go_wp2_with fail
 refine (show Calls _ _ _ _ _ from HDN.out).mono ?_
 rintro e w' ⟨rfl, rfl⟩
 go_wp2_with fail
 refine (show Calls _ _ _ _ _ from HKS.out).mono ?_
 rintro e w1 ⟨A, c, ks, rfl, hp, hri, h1, h2, h3, h4⟩
 have hl : ix.length = ks.length := by have := hp.length_eq; rw [List.length_map] at this; exact this.symm
 rw [hl] at h1 ⊢
 have HFIN := Hd (show ∃ (A' : Option Addr) (c' : Nat) (ks' : List ByteArray), Ending.returned (.slice A ks.length c) = .returned (.slice A' ks'.length c') ∧ Rising ks' ∧ (∀ k, k ∈ ks' ↔ (st.at_ k).isSome = true) ∧ ks'.length ≤ c' ∧ c' ≤ maxLen ∧ TextsAt w1 A' (fun b => w.heap.size ≤ b ∧ b < w1.heap.size) ks' ∧ Kp w w1 from
  ⟨A, c, ks, rfl, hri, fun k => by rw [hp.mem_iff]; exact HMEM.out k, h1, h2, h3, h4⟩)
 clear hl h1 h2 h3 h4 hp hri
 generalize ks.length = n at HFIN
 go_wp2_with fail
 go_ret
 exact HFIN.out
def ixFoot (q : Nat) (A : Option Addr) : Foot := ⟨fun b => b = q ∨ A = some ⟨b, 0, none⟩, fun _ => False⟩
structure IxRepAt (w : World) (q : Nat) (A : Option Addr) (n : Nat) (T : Tab) (st : IxSt) : Prop where
 s : IxS w q A n st.length T
 ok : 0 < n → TabOk hashN T n st
 zero : n = 0 → st = [] ∧ A = none
 i : ∀ x ∈ st, i64 x.2
 n : n ≤ 8 * (st.length + 1)
def IxRep (w : World) (q : Nat) (F : Foot) (st : IxSt) : Prop := ∃ A n T, F = ixFoot q A ∧ IxRepAt w q A n T st
section
variable {w w' : World} {q n c : Nat} {A : Option Addr} {T : Tab} {st : IxSt} {F : Foot}
theorem IxRepAt.g (h : IxRepAt w q A n T st) (hn : 0 < n) : ∃ g, A = some ⟨g, 0, none⟩ ∧ IxAt w q g n st.length T := by
 obtain ⟨g, rfl, h1, h2⟩ := h.s.tab hn
 exact ⟨g, rfl, h.s.blk, h1, h2⟩
theorem IxRepAt.nd (h : IxRepAt w q A n T st) : (st.map (·.1)).Nodup := by
 rcases Nat.eq_zero_or_pos n with h0 | h0
 ·rw [(h.zero h0).1]; exact List.nodup_nil
 ·exact (h.ok h0).nd
theorem IxRepAt.keep (h : IxRepAt w q A n T st) (hk : Keeps (ixFoot q A).all w w') : IxRepAt w' q A n T st := by
 refine ⟨⟨h.s.blk.keep hk (.inl (.inl rfl)), fun h0 => ?_⟩, h.ok, h.zero, h.i, h.n⟩
 obtain ⟨g, rfl, h1, h2⟩ := h.s.tab h0
 exact ⟨g, rfl, h1.keep hk (.inl (.inr rfl)), h2⟩
theorem IxRep.keep (h : IxRep w q F st) (hk : Keeps F.all w w') : IxRep w' q F st := by
 obtain ⟨A, n, T, rfl, h⟩ := h
 exact ⟨A, n, T, rfl, h.keep hk⟩
theorem IxRep.lt (h : IxRep w q F st) : ∀ b, F.all b → b < w.heap.size := by
 obtain ⟨A, n, T, rfl, h⟩ := h
 rintro b ((rfl | hb) | hb)
 ·exact h.s.blk.lt
 ·rcases Nat.eq_zero_or_pos n with h0 | h0
  ·rw [(h.zero h0).2] at hb; cases hb
  ·obtain ⟨g, e, h1⟩ := h.g h0
   rw [e] at hb
   injection hb with hb
   injection hb with hb
   rw [← hb]; exact h1.tab.lt
 ·exact hb.elim
theorem IxS.at_ (h : IxS w q A n c T) (hn : 0 < n) : ∃ g, A = some ⟨g, 0, none⟩ ∧ IxAt w q g n c T := by
 obtain ⟨g, rfl, h1, h2⟩ := h.tab hn
 exact ⟨g, rfl, h.blk, h1, h2⟩
end
theorem find_s (w : World) (q : Nat) (A : Option Addr) (n c : Nat) (T : Tab) (st : IxSt) (hI : IxS w q A n c T) (hT : 0 < n → TabOk hashN T n st) (hz : n = 0 → st = []) (hn : n ≤ 1099511627776) (k : ByteArray) :
  Calls Tryz.prog 68 #[.pointer (some ⟨q, 0, none⟩), .string k, .int .u64 ((hashN k : Nat) : Int)] w fun e w' => w' = w ∧
   ((∃ i, i < n ∧ (T i).full = true ∧ (T i).key = k ∧ e = .returned (.tuple #[.int .i64 (i : Int), .bool true])) ∨ (ixGet st k = none ∧ e = .returned (.tuple #[.int .i64 0, .bool false]))) := by
 rcases Nat.eq_zero_or_pos n with h0 | h0
 ·subst h0
  have c0 := hI.blk.c0
  have hst := hz rfl
  subst hst
  clear hI hT hz
  go_enter Tryz.func68, Tryz.ntmps68
  go_wp2_with fail
  go_ret2
  exact ⟨rfl, .inr ⟨rfl, rfl⟩⟩
 ·obtain ⟨g, rfl, hA⟩ := hI.at_ h0
  exact ixfind_any w q g n c T st hA (hT h0) hn k
theorem ixnew_any (w : World) : Calls Tryz.prog 99 #[] w fun e w' => ∃ (q : Nat) (F : Foot), e = .returned (.pointer (some ⟨q, 0, none⟩)) ∧ IxRep w' q F [] ∧ (∀ b, F.all b → w.heap.size ≤ b) ∧ Keeps (fun _ => True) w w' := by
 have hfin : IxRep (w.alloc (.cells #[.slice none 0 0, .int .i64 0] 129)) w.heap.size (ixFoot w.heap.size none) [] :=
  ⟨none, 0, fun _ => Sl.zero, rfl, ⟨heap_alloc_new w _, fun h => absurd h (by decide)⟩, fun h => absurd h (by decide), fun _ => ⟨rfl, rfl⟩, fun x hx => (by cases hx), by decide⟩
 have HF := Hd hfin
 clear hfin
 go_enter Tryz.func99, Tryz.ntmps99
 go_wp2_with fail
 go_ret
 refine ⟨_, _, rfl, HF.out, fun b hb => ?_, (Keeps.refl _ w).alloc _⟩
 rcases hb with (rfl | hb) | hb
 ·exact Nat.le_refl _
 ·cases hb
 ·exact hb.elim
theorem get_val {w : World} {q n : Nat} {A : Option Addr} {T : Tab} {st : IxSt} {k : ByteArray} {i : Nat} (hR : IxRepAt w q A n T st) (hi : i < n) (hf : (T i).full = true) (hk : (T i).key = k) : ixGet st k = some (T i).pos :=
 (hR.ok (by omega)).hit hi hf hk
theorem ixget_any (w : World) (q : Nat) (F : Foot) (st : IxSt) (hR : IxRep w q F st) (hl : st.length ≤ 32768) (k : ByteArray) (hk : k.size ≤ 1000000) :
  Calls Tryz.prog 43 #[.pointer (some ⟨q, 0, none⟩), .string k] w fun e w' => e = .returned (.tuple #[.int .i64 ((ixGet st k).getD 0), .bool (ixGet st k).isSome]) ∧ Keeps (fun _ => True) w w' := by
 obtain ⟨A, n, T, rfl, hR⟩ := hR
 have hn := hR.n
 have hn1 : n ≤ 1099511627776 := by omega
 obtain ⟨w1, hw1⟩ : ∃ w1, w.alloc (.cells #[.string k] 9) = w1 := ⟨_, rfl⟩
 have hk1 : Kp w w1 := by rw [← hw1]; exact (Keeps.refl _ w).alloc _
 have hR1 := hR.keep (hk1.mono fun _ _ _ => trivial)
 have hc : w1.cell? ⟨w.heap.size, 0, none⟩ = some (.string k) := by rw [← hw1]; exact (cell_of_block (heap_alloc_new w _) 0).trans rfl
 have HH := Hd (hash_any k w.heap.size w1 hk hc)
 have HF := Hd (find_s w1 q A n st.length T st hR1.s hR1.ok (fun h => (hR1.zero h).1) hn1 k)
 have HR := Hd hR1
 have HW1 := Hd hw1
 have HK1 := Hd hk1
 clear hR hw1 hk1 hR1 hc hn
 generalize hX : hashN k = X at HH HF
 clear hX
 go_enter Tryz.func43, Tryz.ntmps43
 go_wp2_with fail
 rw [HW1.out]
 refine (show Calls _ _ _ _ _ from HH.out).mono ?_
 rintro e w2 ⟨rfl, rfl⟩
 go_wp2_with fail
 refine (show Calls _ _ _ _ _ from HF.out).mono ?_
 rintro e w3 ⟨rfl, (⟨i, hi, hf, hkey, rfl⟩ | ⟨hno, rfl⟩)⟩
 ·obtain ⟨g, rfl, hA⟩ := HR.out.g (by omega)
  have c0 := hA.blk.c0
  have c2 := hA.tab.c2 hi
  have HV := Hd (get_val HR.out hi hf hkey)
  clear hA hf hkey
  generalize (T i).pos = P at c2 HV
  go_wp2_with fail
  go_ret2
  rw [HV.out]
  exact ⟨rfl, HK1.out⟩
 ·have HV := Hd hno
  clear hno
  go_wp2_with fail
  go_ret2
  rw [HV.out]
  exact ⟨rfl, HK1.out⟩
structure JMid (S : Slog2) (w w1 : World) (p q lq : Nat) (F Fl F' Fl' : Foot) (bs : Int) (v0 v : Value) (xs : List Nat) (lst' : LSt) (s' : SDev) : Prop where
 d : DAt w1 p F' s'
 c : JAt S w1 p q lq Fl' bs v xs lst' s'
 k : Keeps (fun b => ¬ F.M b ∧ ¬ (jfoot q Fl v0).M b) w w1
 f1 : ∀ b, F'.M b → F.M b ∨ w.heap.size ≤ b
 f2 : ∀ b, F'.I b → F.all b ∨ w.heap.size ≤ b
 f3 : ∀ b, Fl'.M b → Fl.M b ∨ w.heap.size ≤ b
 f4 : ∀ b, Fl'.I b → Fl.all b ∨ w.heap.size ≤ b
 ap : Apart F' Fl'
 vb : ∀ b, v.ownBlock = some b → v0.ownBlock = some b ∨ w.heap.size ≤ b
 qf : ¬ F'.all q
 vf : ∀ b, v.ownBlock = some b → ¬ F'.all b
 qw : q < w.heap.size
section
variable {S : Slog2} {w w1 w2 : World} {p q lq : Nat} {F Fl F' Fl' : Foot} {bs : Int} {v0 v v' : Value} {xs xs' : List Nat} {lst lst' : LSt} {s s' : SDev}
theorem JMid.of (hc : JAt S w p q lq Fl bs v0 xs lst s) (ha : Apart F (jfoot q Fl v0)) (hd' : DAt w1 p F' s') (hr : S.rep w1 lq Fl' lst' s') (hon : lst'.dev = p) (hap : Apart F' Fl') (hk : Keeps (fun b => ¬ F.M b ∧ ¬ Fl.M b) w w1)
  (f1 : ∀ b, F'.M b → F.M b ∨ w.heap.size ≤ b) (f2 : ∀ b, F'.I b → F.all b ∨ w.heap.size ≤ b) (f3 : ∀ b, Fl'.M b → Fl.M b ∨ w.heap.size ≤ b) (f4 : ∀ b, Fl'.I b → Fl.all b ∨ w.heap.size ≤ b) : JMid S w w1 p q lq F Fl F' Fl' bs v0 v0 xs lst' s' := by
 have hlt := hc.lt
 have hq : q < w.heap.size := hlt q (jfoot_all.2 (.inl rfl))
 have all' : ∀ b, Fl'.all b → Fl.all b ∨ w.heap.size ≤ b := fun b hb => by
  rcases hb with hb | hb
  ·rcases f3 b hb with h1 | h1
   ·exact .inl (.inl h1)
   ·exact .inr h1
  ·exact f4 b hb
 have allF : ∀ b, F'.all b → F.all b ∨ w.heap.size ≤ b := fun b hb => by
  rcases hb with hb | hb
  ·rcases f1 b hb with h1 | h1
   ·exact .inl (.inl h1)
   ·exact .inr h1
  ·exact f2 b hb
 have hqF : ¬ F.all q := ha.r q (.inl rfl)
 have hvF : ∀ b, v0.ownBlock = some b → ¬ F.all b := fun b hb => ha.r b (.inr (.inr hb))
 have hvw : ∀ b, v0.ownBlock = some b → b < w.heap.size := fun b hb => hlt b (jfoot_all.2 (.inr (.inr hb)))
 refine ⟨hd', ⟨hc.blk.keep hk ⟨fun hm => hqF (.inl hm), fun hm => hc.ql (.inl hm)⟩, hr, hon, hk.own hc.row (fun b hb => ⟨fun hm => hvF b hb (.inl hm), fun hm => hc.lv b hb (.inl hm)⟩), fun hf => ?_, hc.qv, fun b hb hf => ?_⟩,
  hk.mono fun b _ hb => ⟨hb.1, fun hm => hb.2 (.inr (.inl hm))⟩, f1, f2, f3, f4, hap, fun b hb => .inl hb, fun hf => ?_, fun b hb hf => ?_, hq⟩
 ·rcases all' q hf with h1 | h1
  ·exact hc.ql h1
  ·omega
 ·rcases all' b hf with h1 | h1
  ·exact hc.lv b hb h1
  ·have := hvw b hb; omega
 ·rcases allF q hf with h1 | h1
  ·exact hqF h1
  ·omega
 ·rcases allF b hf with h1 | h1
  ·exact hvF b hb h1
  ·have := hvw b hb; omega
theorem JMid.kp (h : JMid S w w1 p q lq F Fl F' Fl' bs v0 v xs lst' s') (hk : Kp w1 w2) : JMid S w w2 p q lq F Fl F' Fl' bs v0 v xs lst' s' :=
 { h with d := h.d.keep (hk.mono fun _ _ _ => trivial), c := h.c.kp hk, k := h.k.trans (hk.mono fun _ _ _ => trivial) }
theorem JMid.put (h : JMid S w w1 p q lq F Fl F' Fl' bs v0 v xs lst' s') (hg : w1.grownBy w2 v.ownBlock) (hr : w2.ownsRow 0 2 1 v' xs'.length (posC xs')) (hv : v'.ownBlock = v.ownBlock ∨ ∃ b, v'.ownBlock = some b ∧ w1.heap.size ≤ b) :
  JMid S w (w2.setCell ⟨q, 2, none⟩ v') p q lq F Fl F' Fl' bs v0 v' xs' lst' s' := by
 have hk12 : Keeps (fun b => v.ownBlock ≠ some b) w1 w2 := Keeps.of_grown hg fun b e _ hn => hn e
 have hk13 : Keeps (fun b => v.ownBlock ≠ some b ∧ b ≠ q) w1 (w2.setCell ⟨q, 2, none⟩ v') := (hk12.mono fun b _ hb => hb.1).setCell (.inr fun hn => hn.2 rfl) _
 have hqs : q < w1.heap.size := h.c.blk.lt
 have hll := fun b hb => S.lt h.c.l b hb
 have hsz := h.k.size
 have hqv' : v'.ownBlock ≠ some q := fun e => by
  rcases hv with h1 | ⟨b, h1, h2⟩
  ·exact h.c.qv (h1.symm.trans e)
  ·rw [e] at h1; injection h1 with h1; omega
 refine ⟨h.d.keep (hk13.mono fun b _ hb => ⟨fun e => h.vf b e hb, fun e => h.qf (e ▸ hb)⟩), ⟨(h.c.blk.keep hk12 h.c.qv).set2 v', S.keep h.c.l (hk13.mono fun b _ hb => ⟨fun e => h.c.lv b e hb, fun e => h.c.ql (e ▸ hb)⟩), h.c.on,
  (((Keeps.refl (fun b => b ≠ q) w2).setCell (.inr fun hn => hn rfl) _).own hr fun b hb e => hqv' (e ▸ hb)), h.c.ql, hqv', fun b hb hf => ?_⟩, ?_, h.f1, h.f2, h.f3, h.f4, h.ap, fun b hb => ?_, h.qf, fun b hb hf => ?_, h.qw⟩
 ·rcases hv with h1 | ⟨g, h1, h2⟩
  ·exact h.c.lv b (h1.symm.trans hb) hf
  ·rw [hb] at h1; injection h1 with h1; have := hll b hf; omega
 ·refine ⟨hk13.os.trans h.k.os, hk13.tape.trans h.k.tape, hk13.output.trans h.k.output, Nat.le_trans hsz hk13.size, fun b hb hlt => (hk13.block b ⟨fun e => ?_, fun e => hb.2 (.inl e)⟩ (Nat.lt_of_lt_of_le hlt hsz)).trans (h.k.block b hb hlt)⟩
  rcases h.vb b e with h1 | h1
  ·exact hb.2 (.inr (.inr h1))
  ·omega
 ·rcases hv with h1 | ⟨g, h1, h2⟩
  ·exact h.vb b (h1.symm.trans hb)
  ·rw [hb] at h1; injection h1 with h1; exact .inr (by omega)
 ·rcases hv with h1 | ⟨g, h1, h2⟩
  ·exact h.vf b (h1.symm.trans hb) hf
  ·rw [hb] at h1; injection h1 with h1; have := h.d.lt b hf; omega
theorem JMid.base (h : JMid S w w1 p q lq F Fl F' Fl' bs v0 v xs lst' s') (bs' : Int) : JMid S w (w1.setCell ⟨q, 1, none⟩ (.int .i64 bs')) p q lq F Fl F' Fl' bs' v0 v xs lst' s' := by
 have hk : Keeps (fun b => b ≠ q) w1 (w1.setCell ⟨q, 1, none⟩ (.int .i64 bs')) := (Keeps.refl _ w1).setCell (.inr fun hn => hn rfl) _
 have hsz := h.k.size
 exact { h with
  d := h.d.keep (hk.mono fun b _ hb e => h.qf (e ▸ hb))
  c := ⟨h.c.blk.set1 bs', S.keep h.c.l (hk.mono fun b _ hb e => h.c.ql (e ▸ hb)), h.c.on, hk.own h.c.row fun b hb e => h.c.qv (e ▸ hb), h.c.ql, h.c.qv, h.c.lv⟩
  k := ⟨hk.os.trans h.k.os, hk.tape.trans h.k.tape, hk.output.trans h.k.output, Nat.le_trans hsz hk.size, fun b hb hlt => (hk.block b (fun e => hb.2 (.inl e)) (Nat.lt_of_lt_of_le hlt hsz)).trans (h.k.block b hb hlt)⟩ }
theorem JMid.go (h : JMid S w w1 p q lq F Fl F' Fl' bs v0 v xs lst' s') {st : JSt} {n : Nat} (hlen : s'.now.length = s.now.length) (hout : ∀ i, ¬ st.has i → s'.now.getD i [] = s.now.getD i []) (hcalls : s'.calls ≤ s.calls + 1000 * n) :
  JGo w w1 F F' (jfoot q Fl v0) (jfoot q Fl' v) s s' st n := by
 refine ⟨⟨fun b hb hf => ?_, fun b hb hf => ?_⟩, h.k, h.f1, h.f2, fun b hb => ?_, fun b hb => ?_, hlen, hout, hcalls⟩
 ·rcases jfoot_all.1 hf with rfl | hf | hf
  ·exact h.qf (.inl hb)
  ·exact h.ap.l b hb hf
  ·exact h.vf b hf (.inl hb)
 ·rcases hb with rfl | hb | hb
  ·exact h.qf hf
  ·exact h.ap.r b hb hf
  ·exact h.vf b hb hf
 ·rcases hb with rfl | hb | hb
  ·exact .inl (.inl rfl)
  ·rcases h.f3 b hb with h1 | h1
   ·exact .inl (.inr (.inl h1))
   ·exact .inr h1
  ·rcases h.vb b hb with h1 | h1
   ·exact .inl (.inr (.inr h1))
   ·exact .inr h1
 ·rcases h.f4 b hb with h1 | h1
  ·exact .inl (jfoot_all.2 (.inr (.inl h1)))
  ·exact .inr h1
end
theorem jkept_cut {S : Slog2} {w : World} {lq : Nat} {Fl : Foot} {lst : LSt} {s : SDev} (hr : S.rep w lq Fl lst s) {gone : Nat} (hg : gone ≤ lst.gone) : ∃ a, (lst.hist.drop gone).map (·.pos) = a ++ jkept lst ∧ a.length = lst.gone - gone ∧ (a ++ jkept lst).Pairwise (· < ·) ∧ (∀ y ∈ a, y < lst.first) ∧ ∀ y ∈ jkept lst, lst.first ≤ y := by
 have hok := S.wf hr
 have hpast := (S.past hr).2
 have hgl := hok.gone
 have e : (lst.hist.drop gone).map (·.pos) = ((lst.hist.drop gone).take (lst.gone - gone)).map (·.pos) ++ jkept lst := by
  unfold jkept
  rw [← List.map_append]
  congr 1
  have h1 : lst.hist.drop lst.gone = (lst.hist.drop gone).drop (lst.gone - gone) := by rw [List.drop_drop]; congr 1; omega
  rw [h1, List.take_append_drop]
 refine ⟨((lst.hist.drop gone).take (lst.gone - gone)).map (·.pos), e, ?_, ?_, fun y hy => ?_, fun y hy => ?_⟩
 ·rw [List.length_map, List.length_take, List.length_drop]; omega
 ·rw [← e, List.pairwise_map]
  exact hok.rise.sublist (List.drop_sublist _ _)
 ·obtain ⟨r, hr, rfl⟩ := List.mem_map.1 hy
  rw [← List.drop_take] at hr
  exact hpast r (List.mem_of_mem_drop hr)
 ·obtain ⟨r, hr, rfl⟩ := List.mem_map.1 hy
  exact hok.first r hr
theorem j64_elem : Elem Tryz.prog 106 2 (.int .i64 0) 1 8 := ⟨Tryz.underlying106, by kernel_rfl, rfl, by decide⟩
theorem posC_snoc (l : List Nat) (x : Nat) : posC l ++ [.int .i64 ((x : Nat) : Int)] = posC (l ++ [x]) := by simp [posC]
def VS (q lq : Nat) (v : Value) (x k : Nat) : Nat → World → Value → Prop
 | 0 => IsV (.pointer (some ⟨q, 0, none⟩))
 | 1 => IsV (.pointer (some ⟨q, 0, none⟩))
 | 2 => IsV (.pointer (some ⟨q, 2, none⟩))
 | 3 => IsV v
 | 4 => IsV (.pointer (some ⟨q, 0, none⟩))
 | 5 => IsV (.pointer (some ⟨q, 0, none⟩))
 | 6 => IsV (.pointer (some ⟨q, 0, none⟩))
 | 7 => IsV (.pointer (some ⟨lq, 0, none⟩))
 | 8 => IsV (.int .i64 (x : Int))
 | 9 => fun _ u => ∃ t, u = .tuple #[.int .i64 (k : Int), .bool t]
 | 10 => fun _ u => ∃ t, u = .tuple #[.int .i64 (k : Int), .bool t]
 | 11 => IsV (.int .i64 (k : Int))
 | 12 => fun _ u => ∃ t, u = .bool t
 | 13 => IsV (.int .i64 (k : Int))
 | 14 => fun _ u => ∃ t, u = .bool t
 | _ => fun _ _ => True
theorem VS_any {q lq : Nat} {v : Value} {x k : Nat} (i : Nat) (w w' : World) (u : Value) (h : VS q lq v x k i w u) : VS q lq v x k i w' u := by
 match i, h with
 | 0, h => exact h
 | 1, h => exact h
 | 2, h => exact h
 | 3, h => exact h
 | 4, h => exact h
 | 5, h => exact h
 | 6, h => exact h
 | 7, h => exact h
 | 8, h => exact h
 | 9, h => exact h
 | 10, h => exact h
 | 11, h => exact h
 | 12, h => exact h
 | 13, h => exact h
 | 14, h => exact h
 | n + 15, _ => trivial
end Go.Proofs.YticophaepapjoaaGreatDoor
