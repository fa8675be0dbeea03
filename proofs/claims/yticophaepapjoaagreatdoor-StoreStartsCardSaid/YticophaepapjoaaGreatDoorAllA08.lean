/-
  StKill, StBegun, SlogHist, IndexIf, IxMath, FlMath, RowZ, SlogIf, Slog2: texts of mine, joined.
-/
import Derived.Test.YticophaepapjoaaGreatDoorAllA07
import Derived.Outline
import Derived.Test.YticophaepapjoaaGreatDoorAllA00
import Derived.Test.YticophaepapjoaaGreatDoorAllA01
import Derived.Lib.Hide
import Derived.Test.YticophaepapjoaaGreatDoorWords
import Derived.Laws.OwnMore
import Derived.Lib.SmallJoins
namespace Go.Proofs.YticophaepapjoaaGreatDoor
open Go Go.RowKit Go.Joins
theorem skill_nil (w : World) (v : Value) : Calls Tryz.prog 18 #[.pointer none, v] w fun e w' => e = .returned (.tuple #[.int .i64 0, .int .i64 8]) ∧ w = w' := by
 go_enter Tryz.func18, Tryz.ntmps18
 go_wp2_with fail
 go_ret2
 exact ⟨rfl, rfl⟩
theorem sstarted_nil (w : World) : Calls Tryz.prog 23 #[.pointer none] w fun e w' => e = .returned (.int .i64 0) ∧ w = w' := by
 go_enter Tryz.func23, Tryz.ntmps23
 go_wp2_with fail
 go_ret
 exact ⟨rfl, rfl⟩
section
variable {S : FlashOK} {J : JournalOK} {W w w' : World} {p b q1 q2 k n d : Nat} {z : Sto} {X : Nat → Prop}
theorem sstarted_blk {t : Int} (h : StBlk w b q1 q2 k t) : Calls Tryz.prog 23 #[.pointer (some ⟨b, 0, none⟩)] w fun e w' => e = .returned (.int .i64 t) ∧ w = w' := by
 have c3 := h.c3
 clear h
 go_enter Tryz.func23, Tryz.ntmps23
 go_wp2_with fail
 go_ret
 exact ⟨rfl, rfl⟩
theorem sstarted_any (h : StAt S J W w p b q1 q2 k z n d X) : Calls Tryz.prog 23 #[.pointer (some ⟨b, 0, none⟩)] w fun e w' => e = .returned (.int .i64 z.boot) ∧ w = w' := by
 exact sstarted_blk h.blk
theorem so_started (h : StAt S J W w p b q1 q2 k z n d X) (m : Int) (hm : m = z.boot) : Calls Tryz.prog 23 #[.pointer (some ⟨b, 0, none⟩)] w fun e w' => e = .returned (.int .i64 m) ∧ w = w' := by
 subst hm
 exact sstarted_any h
def killed (z : Sto) (ks : List ByteArray) (g u : Nat) : Sto := ⟨⟨z.f.place, z.f.segs, z.f.ents ++ ks.map grave, g, z.f.age + ks.length + 1⟩, jadd z.j ks u, z.t, z.m, z.boot, z.c + 2000 * (ks.length + 1)⟩
set_option maxRecDepth 100000 in
set_option maxHeartbeats 1000000 in
theorem so_kill (hS : S.T W) (hJ : J.T W) (h : StAt S J W w p b q1 q2 k z n d X) (h1 : z.f.age ≤ 20000) (h2 : z.j.age ≤ 20000) (hc : z.c ≤ 300000000000) (A : Option Addr) (ks : List ByteArray) (hrow : Row w A X (ks.map Value.string)) (c m : Nat) (hn : m = ks.length) (hcc : m ≤ c) (hcm : c ≤ maxLen) (hl : m ≤ 1000) (hok : ∀ k ∈ ks, keyOk k) (y : Int) (hy : y = ((z.j.keys.length + ks.length : Nat) : Int)) :
  Calls Tryz.prog 18 #[.pointer (some ⟨b, 0, none⟩), .slice A m c] w fun e w' => e = .returned (.tuple #[.int .i64 y, .int .i64 0]) ∧ ∃ g u, z.f.gone ≤ g ∧ z.j.base ≤ u ∧ StAt S J W w' p b q1 q2 k (killed z ks g u) n 2 X ∧ Keeps X w w' := by
 have HB := h.blk
 have c0 := HB.c0
 have c1 := HB.c1
 have HA := Lib.hid (so_add hJ h h2 (by omega) A ks hrow c m hn hcc hcm hl hok y hy)
 have HD := Lib.hid (show ∀ w1 u, StAt S J W w1 p b q1 q2 k ⟨z.f, jadd z.j ks u, z.t, z.m, z.boot, z.c + 1000 * (ks.length + 1)⟩ n 3 X → Keeps X w w1 → _ from fun w1 u h3 hk => so_drop hS h3 h1 (by show z.c + 1000 * (ks.length + 1) ≤ _; omega) A ks (hrow.keep hk) c m hn hcc hcm hl hok)
 clear h HB h1 h2 hc hrow hn hcc hok hy hS hJ
 unfold maxLen at hcm
 go_enter Tryz.func18, Tryz.ntmps18
 go_wp2_with fail
 refine (show Calls _ _ _ _ _ from HA.out).mono ?_
 rintro e w1 ⟨rfl, u, hu, h3, hk1⟩
 have c0' := h3.blk.c0
 have HD1 := Lib.hid (HD.out w1 u h3 hk1)
 have HU := Lib.hid hu
 have HK := Lib.hid hk1
 clear c0 c1 HA HD h3 hk1 hu
 go_wp2_with fail
 refine (show Calls _ _ _ _ _ from HD1.out).mono ?_
 rintro e w2 ⟨rfl, g, hg, h4, hk2⟩
 have HE := Lib.hid (show ∃ g u, z.f.gone ≤ g ∧ z.j.base ≤ u ∧ StAt S J W w2 p b q1 q2 k (killed z ks g u) n 2 X ∧ Keeps X w w2 from ⟨g, u, hg, HU.out, by
  have e : z.c + 1000 * (ks.length + 1) + 1000 * (ks.length + 1) = z.c + 2000 * (ks.length + 1) := by omega
  unfold killed
  rw [← e]
  exact h4, HK.out.trans hk2⟩)
 clear hg h4 hk2 HU HK HD1 c0'
 go_wp2_with fail
 go_ret2
 exact ⟨rfl, HE.out⟩
end
section
variable {S : FlashOK} {J : JournalOK} {W w w' : World} {p b q1 q2 k n d c : Nat} {z : Sto} {X : Nat → Prop}
theorem Blank.dev (h : Blank W w p n X) : StDev W w p n 0 X := by
 obtain ⟨F, hd, hX⟩ := h
 exact ⟨F, _, hd, by show (List.replicate n blank).length = n; exact List.length_replicate .., Nat.le_refl _, hX⟩
theorem so_make (hS : S.T W) (hJ : J.T W) (hT : theSup.T W) (h : StDev W w p n c X) (h1 : 192 ≤ n) (hc : c ≤ 200000000000) : Calls Tryz.prog 11 #[.pointer (some ⟨p, 0, none⟩)] w (MadePost S J W w p n c X) := by
 obtain ⟨F, s, hd, hl, hcc, hX⟩ := h
 refine (stmake_any hS hJ hT hd hl hX h1 (by omega)).mono ?_
 rintro e w' ⟨b, q1, q2, k, c', rfl, hat, hc', hk⟩
 exact ⟨b, q1, q2, k, c', rfl, hat, by omega, hk⟩
end
def sK : ByteArray := { data := #[107] }
def sV : ByteArray := { data := #[118] }
def sIt : It := ⟨sK, sV, 0, false⟩
theorem sK_ok : keyOk sK := by unfold keyOk; decide
theorem getE_sIt (pl sg a : Nat) : getE ⟨pl, sg, [fput sIt], 0, a⟩ sK 0 = .returned (.tuple #[.agg #[.string ⟨#[107]⟩, .string ⟨#[118]⟩, .int .i64 0, .bool false], .bool true]) := by
 have e : (⟨pl, sg, [fput sIt], 0, a⟩ : FSt).at_ sK = some sIt := rfl
 have hl : sIt.live 0 = true := by decide
 unfold getE
 rw [e]
 show (if sIt.live 0 = true then _ else _) = _
 rw [if_pos hl]
 rfl
theorem getE_grave (pl sg a : Nat) : getE ⟨pl, sg, [fput sIt, grave sK], 0, a⟩ sK 0 = .returned (.tuple #[.agg #[.string ⟨#[]⟩, .string ⟨#[]⟩, .int .i64 0, .bool false], .bool false]) := by
 have e : (⟨pl, sg, [fput sIt, grave sK], 0, a⟩ : FSt).at_ sK = none := rfl
 unfold getE
 rw [e]
theorem cost_sIt : fcosts [fput sIt] = 82 := by decide
theorem cost_sGr : fcosts [fput sIt, grave sK] = 163 := by decide
theorem meta_field0 (w : World) (x y z : Int) (f : Bool) : Sem.run Tryz.prog (Instr.field 32 (.agg #[.int .i64 x, .int .i64 y, .int .i64 z, .bool f]) 0) w = .ok (.int .i64 x) w := by kernel_rfl
theorem meta_field1 (w : World) (x y z : Int) (f : Bool) : Sem.run Tryz.prog (Instr.field 32 (.agg #[.int .i64 x, .int .i64 y, .int .i64 z, .bool f]) 1) w = .ok (.int .i64 y) w := by kernel_rfl
set_option maxRecDepth 100000 in
set_option maxHeartbeats 2000000 in
theorem begun21 (S : FlashOK) (J : JournalOK) (w : World) (hS : S.T w) (hJ : J.T w) (hT : theSup.T w) : Calls Tryz.prog 9 #[] w fun e w' => e = .returned (.bool true) ∧ Kp w w' := by
 have HT := Lib.hid (And.intro hS (And.intro hJ hT))
 clear hS hJ hT
 go_enter Tryz.func9, Tryz.ntmps9
 go_wp2_with fail
 refine (show Calls _ _ _ _ _ from fo_dev (X := fun _ => False) (Keeps.refl _ w) (fun _ h => h.elim) 400 (by decide) (by decide) 400 rfl).mono ?_
 rintro e w1 ⟨p, rfl, hB, -⟩
 have HB := Lib.hid hB.dev
 clear hB
 go_wp2_with fail
 refine (show Calls _ _ _ _ _ from so_make HT.out.1 HT.out.2.1 HT.out.2.2 HB.out (by decide) (by decide)).mono ?_
 rintro e w2 ⟨b, q1, q2, k, c, rfl, hat, hc, -⟩
 have c0 := hat.blk.c0
 have c1 := hat.blk.c1
 have c2 := hat.blk.c2
 have HA := Lib.hid hat
 have HC := Lib.hid (show c ≤ 10000 by omega)
 clear hat hc HB
 go_wp2_with fail
 refine (show Calls _ _ _ _ _ from so_put HT.out.1 HA.out (by show 1 ≤ 20000; decide) (by show c ≤ 400000000000; have := HC.out; omega) sIt (by decide) rfl).mono ?_
 rintro e w3 ⟨rfl, g, -, hat, -⟩
 have hg : g = 0 := hat.wf.1.whole (by show fcosts [fput sIt] ≤ 200 * (segsOf 400 - 2); rw [cost_sIt]; decide)
 subst hg
 have HA3 := Lib.hid (show StAt S J w w3 p b q1 q2 k ⟨⟨162, segsOf 400, [fput sIt], 0, 2⟩, ⟨2, 20, [], 0, 32, 1⟩, 2, ⟨1, 0, 0, false⟩, 1, c + 2000⟩ 400 0 (fun _ => False) from hat)
 have d0 := HA3.out.blk.c0
 clear hat HA c0 c1 c2
 go_wp2_with fail
 refine (show Calls _ _ _ _ _ from so_get HT.out.1 HA3.out sK 0 (by decide) (by decide) (by decide) _ (getE_sIt _ _ _).symm).mono ?_
 rintro e w4 ⟨rfl, hk4, hat⟩
 clear HA3 d0 hk4
 have HA4 := Lib.hid hat
 clear hat
 go_wp2_with fail
 have hk5 : Kp w4 (w4.alloc (.cells #[.string ⟨#[107]⟩, .string ⟨#[118]⟩, .int .i64 0, .bool false] 40)) := (Keeps.refl _ w4).alloc _
 have hb5 := heap_alloc_new w4 (.cells #[.string ⟨#[107]⟩, .string ⟨#[118]⟩, .int .i64 0, .bool false] 40)
 have hs5 : (w4.alloc (.cells #[.string ⟨#[107]⟩, .string ⟨#[118]⟩, .int .i64 0, .bool false] 40)).heap.size = w4.heap.size + 1 := by simp
 generalize w4.alloc (.cells #[.string ⟨#[107]⟩, .string ⟨#[118]⟩, .int .i64 0, .bool false] 40) = w5 at *
 have e1 : w5.cell? ⟨w4.heap.size, 1, none⟩ = some (.string ⟨#[118]⟩) := (cell_of_block hb5 1).trans rfl
 have hk6 : Kp w5 (w5.alloc (.cells #[.string ⟨#[107]⟩] 9)) := (Keeps.refl _ w5).alloc _
 have hs6 : (w5.alloc (.cells #[.string ⟨#[107]⟩] 9)).heap.size = w5.heap.size + 1 := by simp
 have hrow := Row.fresh (F := fun x => x = w4.heap.size ∨ x = w4.heap.size + 1) w5 #[.string ⟨#[107]⟩] 9 (0, 0) (w4.heap.size + 1) hs5.symm (.inr rfl) ([sK].map Value.string) rfl
 have e1' := hk6.cell e1 trivial
 generalize w5.alloc (.cells #[.string ⟨#[107]⟩] 9) = w6 at *
 have HA6 := Lib.hid (HA4.out.more (Y := fun x => x = w4.heap.size ∨ x = w4.heap.size + 1) (hk5.trans hk6) fun x hx => .inr (by omega))
 have HR := Lib.hid hrow
 have HE := Lib.hid e1'
 clear hk5 hb5 hs5 e1 hk6 hs6 hrow e1' HA4
 generalize w4.heap.size = g at *
 refine (show Calls _ _ _ _ _ from so_kill HT.out.1 HT.out.2.1 HA6.out (by show 2 ≤ 20000; decide) (by show 1 ≤ 20000; decide) (by show c + 2000 ≤ 300000000000; have := HC.out; omega) (some ⟨g + 1, 0, none⟩) [sK] HR.out 1 1 rfl (by decide) (by decide) (by decide) (by intro k hk; rw [List.mem_singleton.1 hk]; exact sK_ok) 1 rfl).mono ?_
 rintro e w7 ⟨rfl, g2, u, -, -, hat, hk7⟩
 have hg : g2 = 0 := hat.wf.1.whole (by show fcosts [fput sIt, grave sK] ≤ 200 * (segsOf 400 - 2); rw [cost_sGr]; decide)
 subst hg
 have HE7 := Lib.hid (hk7.cell HE.out (.inl rfl))
 have HA7 := Lib.hid (show StAt S J w w7 p b q1 q2 k ⟨⟨162, segsOf 400, [fput sIt, grave sK], 0, 4⟩, ⟨2, 20, [sK], u, 32, 3⟩, 2, ⟨1, 0, 0, false⟩, 1, c + 6000⟩ 400 2 (fun x => x = g) from hat.less fun x hx => .inl hx)
 have d0 := HA7.out.blk.c0
 clear hat hk7 HA6 HR HE
 go_wp2_with fail
 refine (show Calls _ _ _ _ _ from so_get HT.out.1 HA7.out sK 0 (by decide) (by decide) (by decide) _ (getE_grave _ _ _).symm).mono ?_
 rintro e w8 ⟨rfl, hk8, hat⟩
 have hk9 : Kp w8 (w8.alloc (.cells #[.string ⟨#[]⟩, .string ⟨#[]⟩, .int .i64 0, .bool false] 40)) := (Keeps.refl _ w8).alloc _
 have HA9 := Lib.hid (hat.keep hk9)
 have HE9 := Lib.hid ((hk8.trans hk9).cell HE7.out trivial)
 clear d0 hk8 hk9 hat HA7 HE7
 go_wp2_with fail
 generalize w8.alloc (.cells #[.string ⟨#[]⟩, .string ⟨#[]⟩, .int .i64 0, .bool false] 40) = w9 at *
 refine (show Calls _ _ _ _ _ from so_crash HA9.out (by decide) none 0 (fun _ => True) [] 0 rfl (Row.nil _ _ _) (by decide)).mono ?_
 rintro e w10 ⟨r, rfl, hD, hk10, hat⟩
 have HD := Lib.hid hD
 have HBL := Lib.hid (show StBlk w10 b q1 q2 k 1 from hat.blk)
 have HE10 := Lib.hid (hk10.cell HE9.out trivial)
 clear hD hat hk10 HA9 HE9
 go_wp2_with fail
 refine (show Calls _ _ _ _ _ from so_openOld HT.out.1 HT.out.2.1 HT.out.2.2 HD.out (by show (1 : Int) < _; decide) (by show 2 ≤ 300000000000; decide) (by show 4 ≤ 20000; decide) (by show 3 ≤ 20000; decide)).mono ?_
 rintro e w11 ⟨b2, p1, p2, k2, z2, rfl, hat, hj, hm, hbo, hk11⟩
 have hj2 : z2.j.keys = [sK] := hj
 have hm2 : z2.m = ⟨2, 0, 0, false⟩ := hm
 have hb2 : z2.boot = 2 := hbo
 have HA11 := Lib.hid hat
 have HJ := Lib.hid (And.intro hj2 (And.intro hm2 hb2))
 have HBL11 := Lib.hid (HBL.out.keep hk11 (.inl rfl))
 have e11 := hk11.cell HE10.out (.inr rfl)
 have d1 := hat.blk.c1
 have d2 := hat.blk.c2
 clear hat hj hm hbo hj2 hm2 hb2 hk11 HD HBL HE10
 go_wp2_with fail
 refine (show Calls _ _ _ _ _ from so_seq HT.out.2.1 HA11.out 1 (by rw [HJ.out.1]; rfl)).mono ?_
 rintro e w12 ⟨rfl, hk12, hat⟩
 have HA12 := Lib.hid hat
 have HBL12 := Lib.hid (HBL11.out.keep hk12 trivial)
 have d2' := hat.blk.c2
 clear hat hk12 HA11 HBL11 e11 d1 d2
 go_wp2_with fail
 refine (show Calls _ _ _ _ _ from so_started HA12.out 2 HJ.out.2.2.symm).mono ?_
 rintro e w13 ⟨rfl, rfl⟩
 go_wp2_with fail
 refine (show Calls _ _ _ _ _ from sstarted_blk HBL12.out).mono ?_
 rintro e w13 ⟨rfl, rfl⟩
 clear HBL12
 go_wp2_with fail
 have HMT := so_meta HA12.out
 rw [HJ.out.2.1] at HMT
 have HM := Lib.hid HMT
 clear HMT d2'
 refine (show Calls _ _ _ _ _ from HM.out).mono ?_
 rintro e w13 ⟨rfl, -, hat⟩
 have HK := Lib.hid hat.kp
 clear hat HM HA12
 unfold magg
 go_wp2_with (rw [meta_field0])
 go_ret
 exact ⟨rfl, HK.out⟩
end Go.Proofs.YticophaepapjoaaGreatDoor
namespace Go.Proofs.YticophaepapjoaaGreatDoor
structure LRec where
 pos : Nat
 body : List UInt8
 opens : Nat
 deriving Inhabited
def LRec.key (r : LRec) : Nat × List UInt8 := (r.pos, r.body)
def LRec.cost (r : LRec) : Nat := r.body.length + 60 + 400 * r.opens
def costs (l : List LRec) : Nat := (l.map LRec.cost).sum
def opened : List LRec → List LRec
 | [] => []
 | [r] => [⟨r.pos, r.body, r.opens + 1⟩]
 | r :: l => r :: opened l
structure LSt where
 dev : Nat
 place : Nat
 segs : Nat
 hist : List LRec
 gone : Nat
 first : Nat
 next : Nat
def LSt.recs (st : LSt) : List (Nat × List UInt8) := (st.hist.drop st.gone).map LRec.key
def LSt.has (st : LSt) (i : Nat) : Prop := st.place ≤ i ∧ i < st.place + 8 * st.segs
structure LSt.Ok (st : LSt) : Prop where
 segs : 3 ≤ st.segs ∧ st.segs ≤ 200
 one : ∀ r ∈ st.hist, 1 ≤ r.pos ∧ 1 ≤ r.body.length ∧ r.body.length ≤ 300
 rise : st.hist.Pairwise (·.pos < ·.pos)
 gone : st.gone ≤ st.hist.length
 kept : ∀ i, i ≤ st.hist.length → costs (st.hist.drop i) ≤ 200 * (st.segs - 2) → st.gone ≤ i
 next : 1 ≤ st.next ∧ ∀ r ∈ st.hist, r.pos < st.next
 first : ∀ r ∈ st.hist.drop st.gone, st.first ≤ r.pos
 small : st.next ≤ 1099511627776
end Go.Proofs.YticophaepapjoaaGreatDoor
namespace Go.Proofs.YticophaepapjoaaGreatDoor
open Go Go.RowKit
abbrev IxSt := List (ByteArray × Int)
def isK (k : ByteArray) (x : ByteArray × Int) : Bool := x.1.data.toList == k.data.toList
def ixGet (st : IxSt) (k : ByteArray) : Option Int := (st.find? (isK k)).map (·.2)
def ixPut (st : IxSt) (k : ByteArray) (p : Int) : IxSt := if (ixGet st k).isSome then st.map (fun x => if isK k x then (x.1, p) else x) else st ++ [(k, p)]
def ixDrop (st : IxSt) (k : ByteArray) : IxSt := st.filter fun x => !isK k x
def ixBelow (st : IxSt) (p : Int) : IxSt := st.filter fun x => decide (p ≤ x.2)
def i64 (p : Int) : Prop := -9223372036854775808 ≤ p ∧ p < 9223372036854775808
structure IndexOK where
 T : World → Prop
 tk : ∀ {w w' : World}, T w → Keeps (fun _ => True) w w' → T w'
 rep : World → Nat → Foot → IxSt → Prop
 lt : ∀ {w q F st}, rep w q F st → ∀ b, F.all b → b < w.heap.size
 keep : ∀ {w w' q F st}, rep w q F st → Keeps F.all w w' → rep w' q F st
 new : ∀ w : World, T w → Calls Tryz.prog 99 #[] w fun e w' => ∃ (q : Nat) (F : Foot), e = .returned (.pointer (some ⟨q, 0, none⟩)) ∧ rep w' q F [] ∧ (∀ b, F.all b → w.heap.size ≤ b) ∧ Keeps (fun _ => True) w w'
 put : ∀ (W w : World) (q : Nat) (F : Foot) (st : IxSt), rep w q F st → T W → Keeps (fun _ => True) W w → (∀ b, F.all b → W.heap.size ≤ b) → st.length ≤ 32768 → ∀ (k : ByteArray) (p : Int), k.size ≤ 1000000 → i64 p →
  Calls Tryz.prog 108 #[.pointer (some ⟨q, 0, none⟩), .string k, .int .i64 p] w fun e w' => e = .returned (.int .i64 ((ixGet st k).getD 0)) ∧ ∃ F' : Foot, rep w' q F' (ixPut st k p) ∧ Step F F' w w'
 get : ∀ (w : World) (q : Nat) (F : Foot) (st : IxSt), rep w q F st → T w → st.length ≤ 32768 → ∀ k : ByteArray, k.size ≤ 1000000 →
  Calls Tryz.prog 43 #[.pointer (some ⟨q, 0, none⟩), .string k] w fun e w' => e = .returned (.tuple #[.int .i64 ((ixGet st k).getD 0), .bool (ixGet st k).isSome]) ∧ Keeps (fun _ => True) w w'
 drop : ∀ (W w : World) (q : Nat) (F : Foot) (st : IxSt), rep w q F st → T W → Keeps (fun _ => True) W w → (∀ b, F.all b → W.heap.size ≤ b) → st.length ≤ 32768 → ∀ k : ByteArray, k.size ≤ 1000000 →
  Calls Tryz.prog 107 #[.pointer (some ⟨q, 0, none⟩), .string k] w fun e w' => e = .returned (.bool (ixGet st k).isSome) ∧ ∃ F' : Foot, rep w' q F' (ixDrop st k) ∧ Step F F' w w'
 below : ∀ (W w : World) (q : Nat) (F : Foot) (st : IxSt), rep w q F st → T W → Keeps (fun _ => True) W w → (∀ b, F.all b → W.heap.size ≤ b) → st.length ≤ 32768 → ∀ p : Int, i64 p →
  Calls Tryz.prog 73 #[.pointer (some ⟨q, 0, none⟩), .int .i64 p] w fun e w' => e = .returned (.int .i64 ((st.length - (ixBelow st p).length : Nat) : Int)) ∧ ∃ F' : Foot, rep w' q F' (ixBelow st p) ∧ Step F F' w w'
 keys : ∀ (w : World) (q : Nat) (F : Foot) (st : IxSt), rep w q F st → T w → st.length ≤ 32768 →
  Calls Tryz.prog 61 #[.pointer (some ⟨q, 0, none⟩)] w fun e w' => ∃ (A : Option Addr) (c : Nat) (ks : List ByteArray), e = .returned (.slice A st.length c) ∧ ks.Perm (st.map (·.1)) ∧ Rising ks ∧ st.length ≤ c ∧ c ≤ maxLen ∧
   Row w' A (fun b => w.heap.size ≤ b ∧ b < w'.heap.size) (ks.map Value.string) ∧ Keeps (fun _ => True) w w'
structure Sl where
 key : ByteArray
 hash : Int
 pos : Int
 full : Bool
def Sl.zero : Sl := ⟨⟨#[]⟩, 0, 0, false⟩
abbrev Tab := Nat → Sl
def setT (T : Tab) (i : Nat) (s : Sl) : Tab := fun j => if j = i then s else T j
def ent (s : Sl) : IxSt := if s.full then [(s.key, s.pos)] else []
def ents (T : Tab) (n : Nat) : IxSt := (List.range n).flatMap fun i => ent (T i)
def nx (n i d : Nat) : Nat := if i + d < n then i + d else i + d - n
def way (n i k : Nat) : Nat := if i ≤ k then k - i else k + n - i
section
variable {n i j k d e f : Nat} {T T' : Tab} {s : Sl} {st : IxSt}
theorem nx_c (n i d : Nat) : (i + d < n ∧ nx n i d = i + d) ∨ (n ≤ i + d ∧ nx n i d = i + d - n) := by
 unfold nx; split <;> omega
theorem way_c (n i k : Nat) : (i ≤ k ∧ way n i k = k - i) ∨ (k < i ∧ way n i k = k + n - i) := by
 unfold way; split <;> omega
theorem nx_lt (hi : i < n) (hd : d ≤ n) : nx n i d < n := by have := nx_c n i d; omega
theorem way_lt (hi : i < n) (hk : k < n) : way n i k < n := by have := way_c n i k; omega
theorem nx_way (hi : i < n) (hk : k < n) : nx n i (way n i k) = k := by
 have := way_c n i k
 have := nx_c n i (way n i k)
 omega
theorem way_nx (hi : i < n) (hd : d < n) : way n i (nx n i d) = d := by
 have := nx_c n i d
 have := way_c n i (nx n i d)
 omega
theorem nx_one (hi : i < n) (hd : d + 1 < n) : nx n (nx n i d) 1 = nx n i (d + 1) := by
 have := nx_c n i d
 have := nx_c n (nx n i d) 1
 have := nx_c n i (d + 1)
 omega
theorem nx_zero (hi : i < n) : nx n i 0 = i := by have := nx_c n i 0; omega
theorem way_self (n i : Nat) : way n i i = 0 := by have := way_c n i i; omega
theorem setT_at (T : Tab) (i : Nat) (s : Sl) : setT T i s i = s := by simp [setT]
theorem setT_ne (T : Tab) (s : Sl) (h : j ≠ i) : setT T i s j = T j := by simp [setT, h]
theorem setT_two (T : Tab) (i : Nat) (s u : Sl) : setT (setT T i s) i u = setT T i u := by
 funext j; unfold setT; split <;> rfl
theorem ents_succ (T : Tab) (n : Nat) : ents T (n + 1) = ents T n ++ ent (T n) := by
 unfold ents; rw [List.range_succ, List.flatMap_append]; simp
theorem ents_congr (h : ∀ i, i < n → T i = T' i) : ents T n = ents T' n := by
 induction n with
 | zero => rfl
 | succ n ih => rw [ents_succ, ents_succ, ih fun i hi => h i (by omega), h n (by omega)]
theorem ents_take (hi : i < n) : (ents T n).Perm (ent (T i) ++ ents (setT T i Sl.zero) n) := by
 induction n with
 | zero => omega
 | succ n ih =>
  rw [ents_succ, ents_succ]
  by_cases h : i = n
  ·subst h
   rw [setT_at, ents_congr (T := setT T i Sl.zero) (T' := T) fun j hj => setT_ne _ _ (by omega)]
   have : ent Sl.zero = [] := rfl
   rw [this, List.append_nil]
   exact List.perm_append_comm
  ·rw [setT_ne _ _ (by omega), ← List.append_assoc]
   exact (ih (by omega)).append_right _
theorem ents_mem (hi : i < n) (hf : (T i).full = true) : ((T i).key, (T i).pos) ∈ ents T n := by
 refine (ents_take hi).symm.subset ?_
 simp [ent, hf]
theorem ents_of {x : ByteArray × Int} (h : x ∈ ents T n) : ∃ i, i < n ∧ (T i).full = true ∧ x = ((T i).key, (T i).pos) := by
 unfold ents at h
 rw [List.mem_flatMap] at h
 obtain ⟨i, hi, hx⟩ := h
 unfold ent at hx
 refine ⟨i, List.mem_range.1 hi, ?_⟩
 split at hx
 ·rename_i hf
  exact ⟨hf, by simpa using hx⟩
 ·cases hx
theorem ents_len (T : Tab) (n : Nat) : (ents T n).length ≤ n := by
 induction n with
 | zero => simp [ents]
 | succ n ih =>
  rw [ents_succ, List.length_append]
  have : (ent (T n)).length ≤ 1 := by unfold ent; split <;> simp
  omega
theorem ents_all (h : ∀ i, i < n → (T i).full = true) : (ents T n).length = n := by
 induction n with
 | zero => simp [ents]
 | succ n ih =>
  rw [ents_succ, List.length_append, ih fun i hi => h i (by omega)]
  simp [ent, h n (by omega)]
theorem free_slot (h : (ents T n).length < n) : ∃ f, f < n ∧ (T f).full = false := by
 refine Classical.byContradiction fun hn => ?_
 have : (ents T n).length = n := ents_all fun i hi => by
  cases hf : (T i).full with
  | true => rfl
  | false => exact absurd ⟨i, hi, hf⟩ hn
 omega
end
section
variable {st st' : IxSt} {k : ByteArray} {p : Int} {x : ByteArray × Int}
theorem isK_iff : isK k x = true ↔ x.1 = k := by
 unfold isK
 rw [beq_iff_eq]
 refine ⟨fun h => ByteArray.ext ?_, fun h => by rw [h]⟩
 exact Array.toList_inj.1 h
theorem isK_not : isK k x = false ↔ x.1 ≠ k := by
 cases h : isK k x with
 | true => simp [isK_iff.1 h]
 | false => simp; exact fun e => by rw [isK_iff.2 e] at h; cases h
theorem ixGet_mem (h : ixGet st k = some p) : (k, p) ∈ st := by
 unfold ixGet at h
 obtain ⟨x, hx, e⟩ := Option.map_eq_some_iff.1 h
 have e1 := isK_iff.1 (List.find?_some hx)
 have := List.mem_of_find?_eq_some hx
 rw [← e1, ← e]
 exact this
theorem ixGet_of (hnd : (st.map (·.1)).Nodup) (h : (k, p) ∈ st) : ixGet st k = some p := by
 unfold ixGet
 induction st with
 | nil => cases h
 | cons a st ih =>
  rw [List.map_cons, List.nodup_cons] at hnd
  rw [List.find?_cons]
  by_cases ha : a.1 = k
  ·rw [isK_iff.2 ha]
   rcases List.mem_cons.1 h with rfl | h
   ·rfl
   ·exact absurd (List.mem_map.2 ⟨_, h, ha.symm⟩) hnd.1
  ·rw [isK_not.2 ha]
   rcases List.mem_cons.1 h with rfl | h
   ·exact absurd rfl ha
   ·exact ih hnd.2 h
theorem ixGet_none : ixGet st k = none ↔ ∀ x ∈ st, x.1 ≠ k := by
 unfold ixGet
 rw [Option.map_eq_none_iff, List.find?_eq_none]
 exact ⟨fun h x hx e => h x hx (isK_iff.2 e), fun h x hx e => h x hx (isK_iff.1 e)⟩
theorem ixDrop_perm (hp : st.Perm st') : (ixDrop st k).Perm (ixDrop st' k) := hp.filter _
theorem ixBelow_perm (hp : st.Perm st') : (ixBelow st p).Perm (ixBelow st' p) := hp.filter _
theorem ixDrop_cons (hnd : (((k, p) :: st).map (·.1)).Nodup) : ixDrop ((k, p) :: st) k = st := by
 rw [List.map_cons, List.nodup_cons] at hnd
 unfold ixDrop
 rw [List.filter_cons, show isK k (k, p) = true from isK_iff.2 rfl]
 simp only [Bool.not_true, Bool.false_eq_true, if_false]
 rw [List.filter_eq_self]
 intro x hx
 rw [isK_not.2 fun e => hnd.1 (List.mem_map.2 ⟨x, hx, e⟩)]
 rfl
theorem ixPut_new (h : ixGet st k = none) : ixPut st k p = st ++ [(k, p)] := by simp [ixPut, h]
theorem ixPut_keys (st : IxSt) (k : ByteArray) (p : Int) (hs : (ixGet st k).isSome = true) : (ixPut st k p).map (·.1) = st.map (·.1) := by
 unfold ixPut
 rw [if_pos hs, List.map_map]
 refine List.map_congr_left fun x _ => ?_
 show (if isK k x then (x.1, p) else x).1 = x.1
 split <;> rfl
theorem ixPut_nodup (hnd : (st.map (·.1)).Nodup) : ((ixPut st k p).map (·.1)).Nodup := by
 cases hg : ixGet st k with
 | some v => rw [ixPut_keys st k p (by rw [hg]; rfl)]; exact hnd
 | none =>
  rw [ixPut_new hg, List.map_append, List.nodup_append]
  refine ⟨hnd, by simp, ?_⟩
  intro a ha b hb
  obtain ⟨x, hx, rfl⟩ := List.mem_map.1 ha
  simp at hb
  subst hb
  exact ixGet_none.1 hg x hx
theorem ixDrop_nodup (hnd : (st.map (·.1)).Nodup) : ((ixDrop st k).map (·.1)).Nodup := (List.Sublist.map _ List.filter_sublist).nodup hnd
theorem ixBelow_nodup (hnd : (st.map (·.1)).Nodup) : ((ixBelow st p).map (·.1)).Nodup := (List.Sublist.map _ List.filter_sublist).nodup hnd
theorem ixPut_again {q : Int} {rest : IxSt} (hp : st.Perm ((k, q) :: rest)) (hnd : (st.map (·.1)).Nodup) : (ixPut st k p).Perm ((k, p) :: rest) := by
 have hnd' := (hp.map (·.1)).nodup_iff.1 hnd
 have hg : ixGet st k = some q := ixGet_of hnd (hp.symm.subset List.mem_cons_self)
 unfold ixPut
 rw [hg, if_pos (show (some q).isSome = true from rfl)]
 refine (hp.map _).trans ?_
 rw [List.map_cons, show isK k (k, q) = true from isK_iff.2 rfl, if_pos rfl]
 rw [List.map_cons, List.nodup_cons] at hnd'
 have : rest.map (fun x => if isK k x then (x.1, p) else x) = rest := by
  refine (List.map_congr_left fun x hx => ?_).trans (List.map_id rest)
  rw [isK_not.2 fun e => hnd'.1 (List.mem_map.2 ⟨x, hx, e⟩)]
  rfl
 rw [this]
theorem ixPut_i64 (hs : ∀ x ∈ st, i64 x.2) (hp : i64 p) : ∀ x ∈ ixPut st k p, i64 x.2 := by
 intro x hx
 unfold ixPut at hx
 split at hx
 ·obtain ⟨y, hy, rfl⟩ := List.mem_map.1 hx
  split
  ·exact hp
  ·exact hs y hy
 ·rcases List.mem_append.1 hx with h | h
  ·exact hs x h
  ·simp at h; subst h; exact hp
end
theorem ixDrop_i64 {st : IxSt} {k : ByteArray} (hs : ∀ x ∈ st, i64 x.2) : ∀ x ∈ ixDrop st k, i64 x.2 := fun x hx => hs x (List.mem_filter.1 hx).1
theorem ixBelow_i64 {st : IxSt} {p : Int} (hs : ∀ x ∈ st, i64 x.2) : ∀ x ∈ ixBelow st p, i64 x.2 := fun x hx => hs x (List.mem_filter.1 hx).1
end Go.Proofs.YticophaepapjoaaGreatDoor
namespace Go.Proofs.YticophaepapjoaaGreatDoor
open Go
abbrev FRec := Nat × Option It
def bodyO : Option It → List UInt8
 | none => [0]
 | some x => x.bytes
def frk (a : FRec) : Nat × List UInt8 := (a.1, bodyO a.2)
def spStep (k : ByteArray) (o : Option (Nat × It)) (a : FRec) : Option (Nat × It) :=
 match a.2 with
 | none => none
 | some x => if x.key = k then (if x.gone then none else some (a.1, x)) else o
def sp (l : List FRec) (k : ByteArray) : Option (Nat × It) := l.foldl (spStep k) none
theorem sp_snoc (l : List FRec) (a : FRec) (k : ByteArray) : sp (l ++ [a]) k = spStep k (sp l k) a := by simp [sp, List.foldl_append]
theorem fold_mem (k : ByteArray) (l : List FRec) (o : Option (Nat × It)) (p : Nat) (x : It) (h : l.foldl (spStep k) o = some (p, x)) : o = some (p, x) ∨ ((p, some x) ∈ l ∧ x.key = k ∧ x.gone = false) := by
 induction l generalizing o with
 | nil => exact .inl h
 | cons a l ih =>
  rcases ih _ h with h1 | ⟨h1, h2⟩
  ·obtain ⟨q, y⟩ := a
   cases y with
   | none => cases h1
   | some y =>
    change (if y.key = k then (if y.gone then none else some (q, y)) else o) = _ at h1
    by_cases hk : y.key = k
    ·rw [if_pos hk] at h1
     cases hg : y.gone with
     | true => rw [hg] at h1; cases h1
     | false =>
      rw [hg] at h1
      cases h1
      exact .inr ⟨List.mem_cons_self, hk, hg⟩
    ·rw [if_neg hk] at h1
     exact .inl h1
  ·exact .inr ⟨List.mem_cons_of_mem _ h1, h2⟩
theorem sp_mem {l : List FRec} {k : ByteArray} {p : Nat} {x : It} (h : sp l k = some (p, x)) : (p, some x) ∈ l ∧ x.key = k ∧ x.gone = false := by
 rcases fold_mem k l none p x h with h1 | h1
 ·cases h1
 ·exact h1
def above (f : Nat) (y : Nat × It) : Bool := decide (f ≤ y.1)
theorem fold_filter (f : Nat) (k : ByteArray) (l : List FRec) (hl : ∀ a ∈ l, f ≤ a.1) (o o' : Option (Nat × It)) (h : o.filter (above f) = o') : (l.foldl (spStep k) o).filter (above f) = l.foldl (spStep k) o' := by
 induction l generalizing o o' with
 | nil => exact h
 | cons a l ih =>
  refine ih (fun b hb => hl b (List.mem_cons_of_mem _ hb)) _ _ ?_
  have ha := hl a List.mem_cons_self
  obtain ⟨q, y⟩ := a
  cases y with
  | none => rfl
  | some y =>
   show (if y.key = k then (if y.gone then none else some (q, y)) else o).filter (above f) = (if y.key = k then (if y.gone then none else some (q, y)) else o')
   by_cases hk : y.key = k
   ·rw [if_pos hk, if_pos hk]
    cases y.gone
    ·have : above f (q, y) = true := decide_eq_true ha
     simp [Option.filter, this]
    ·rfl
   ·rw [if_neg hk, if_neg hk]; exact h
theorem sp_below (f : Nat) (k : ByteArray) (a b : List FRec) (ha : ∀ r ∈ a, r.1 < f) (hb : ∀ r ∈ b, f ≤ r.1) : (sp (a ++ b) k).filter (above f) = sp b k := by
 unfold sp
 rw [List.foldl_append]
 refine fold_filter f k b hb _ _ ?_
 cases h : a.foldl (spStep k) none with
 | none => rfl
 | some y =>
  obtain ⟨p, x⟩ := y
  rcases fold_mem k a none p x h with h1 | ⟨h1, -⟩
  ·cases h1
  ·have h2 : p < f := ha _ h1
   have : above f (p, x) = false := decide_eq_false (by omega)
   simp [Option.filter, this]
theorem sp_cut (a : List FRec) (p : Nat) (l : List FRec) (k : ByteArray) : sp (a ++ [(p, none)] ++ l) k = sp l k := by
 unfold sp
 rw [List.foldl_append, List.foldl_append]
 rfl
section
variable {st : IxSt} {k k' : ByteArray} {p f : Int}
theorem isK_self (k : ByteArray) (p : Int) : isK k (k, p) = true := isK_iff.2 rfl
theorem ixGet_put (hnd : (st.map (·.1)).Nodup) : ixGet (ixPut st k p) k' = if k = k' then some p else ixGet st k' := by
 have hn := ixPut_nodup (k := k) (p := p) hnd
 by_cases h : (ixGet st k).isSome = true
 ·have e : ixPut st k p = st.map (fun x => if isK k x then (x.1, p) else x) := by unfold ixPut; rw [if_pos h]
  obtain ⟨q, hq⟩ := Option.isSome_iff_exists.1 h
  by_cases hk : k = k'
  ·subst hk
   rw [if_pos rfl]
   refine ixGet_of hn ?_
   rw [e]
   exact List.mem_map.2 ⟨(k, q), ixGet_mem hq, by rw [if_pos (isK_self k q)]⟩
  ·rw [if_neg hk]
   cases hg : ixGet st k' with
   | none =>
    rw [ixGet_none] at hg ⊢
    intro x hx
    rw [e] at hx
    obtain ⟨y, hy, rfl⟩ := List.mem_map.1 hx
    have := hg y hy
    split <;> exact this
   | some r =>
    refine ixGet_of hn ?_
    rw [e]
    refine List.mem_map.2 ⟨(k', r), ixGet_mem hg, ?_⟩
    rw [if_neg (fun hh => hk (isK_iff.1 hh).symm)]
 ·have h0 : ixGet st k = none := by simpa using h
  rw [ixPut_new h0]
  rw [ixPut_new h0] at hn
  by_cases hk : k = k'
  ·subst hk
   rw [if_pos rfl]
   exact ixGet_of hn (by simp)
  ·rw [if_neg hk]
   cases hg : ixGet st k' with
   | none =>
    rw [ixGet_none] at hg ⊢
    intro x hx
    rcases List.mem_append.1 hx with hx | hx
    ·exact hg x hx
    ·rw [List.mem_singleton.1 hx]; exact hk
   | some r => exact ixGet_of hn (List.mem_append_left _ (ixGet_mem hg))
theorem ixGet_drop (hnd : (st.map (·.1)).Nodup) : ixGet (ixDrop st k) k' = if k = k' then none else ixGet st k' := by
 have hn := ixDrop_nodup (k := k) hnd
 by_cases hk : k = k'
 ·subst hk
  rw [if_pos rfl, ixGet_none]
  intro x hx
  have := (List.mem_filter.1 hx).2
  intro e
  rw [isK_iff.2 e] at this
  cases this
 ·rw [if_neg hk]
  cases hg : ixGet st k' with
  | none =>
   rw [ixGet_none] at hg ⊢
   exact fun x hx => hg x (List.mem_filter.1 hx).1
  | some r =>
   refine ixGet_of hn (List.mem_filter.2 ⟨ixGet_mem hg, ?_⟩)
   rw [isK_not.2 (fun e => hk e.symm)]
   rfl
theorem ixGet_below (hnd : (st.map (·.1)).Nodup) : ixGet (ixBelow st f) k = (ixGet st k).filter fun q => decide (f ≤ q) := by
 have hn := ixBelow_nodup (p := f) hnd
 cases hg : ixGet st k with
 | none =>
  rw [ixGet_none] at hg
  show _ = none
  rw [ixGet_none]
  exact fun x hx => hg x (List.mem_filter.1 hx).1
 | some r =>
  by_cases hr : f ≤ r
  ·rw [Option.filter_some_pos (by simpa using hr)]
   exact ixGet_of hn (List.mem_filter.2 ⟨ixGet_mem hg, by simpa using hr⟩)
  ·rw [Option.filter_some_neg (by simpa using hr), ixGet_none]
   intro x hx e
   have h1 := (List.mem_filter.1 hx).1
   have h2 : f ≤ x.2 := by simpa using (List.mem_filter.1 hx).2
   obtain ⟨a, b⟩ := x
   subst e
   have := ixGet_of hnd h1
   rw [hg] at this
   cases this
   exact hr h2
end
structure IxSays (ix : IxSt) (l : List FRec) (n : Nat) : Prop where
 nd : (ix.map (·.1)).Nodup
 len : ix.length ≤ n
 is : ∀ k, ixGet ix k = (sp l k).map fun a => (a.1 : Int)
section
variable {ix : IxSt} {l : List FRec} {n : Nat}
theorem IxSays.nil : IxSays [] [] 0 := ⟨List.nodup_nil, Nat.le_refl _, fun _ => rfl⟩
theorem IxSays.more (h : IxSays ix l n) {m : Nat} (hm : n ≤ m) : IxSays ix l m := ⟨h.nd, Nat.le_trans h.len hm, h.is⟩
theorem IxSays.wipe (l : List FRec) (n p : Nat) : IxSays [] (l ++ [(p, none)]) n := ⟨List.nodup_nil, Nat.zero_le _, fun k => by rw [sp_snoc]; rfl⟩
theorem flput_len (st : IxSt) (k : ByteArray) (p : Int) : (ixPut st k p).length ≤ st.length + 1 := by
 unfold ixPut
 split
 ·rw [List.length_map]; omega
 ·simp
theorem IxSays.put (h : IxSays ix l n) {x : It} (hx : x.gone = false) (p : Nat) : IxSays (ixPut ix x.key (p : Int)) (l ++ [(p, some x)]) (n + 1) := by
 refine ⟨ixPut_nodup h.nd, Nat.le_trans (flput_len _ _ _) (Nat.succ_le_succ h.len), fun k => ?_⟩
 rw [ixGet_put h.nd, sp_snoc]
 show _ = (if x.key = k then (if x.gone then none else some (p, x)) else sp l k).map _
 by_cases hk : x.key = k
 ·rw [if_pos hk, if_pos hk, hx]; rfl
 ·rw [if_neg hk, if_neg hk]; exact h.is k
theorem IxSays.drop (h : IxSays ix l n) {x : It} (hx : x.gone = true) (p : Nat) : IxSays (ixDrop ix x.key) (l ++ [(p, some x)]) (n + 1) := by
 refine ⟨ixDrop_nodup h.nd, Nat.le_trans (List.length_filter_le _ _) (Nat.le_succ_of_le h.len), fun k => ?_⟩
 rw [ixGet_drop h.nd, sp_snoc]
 show _ = (if x.key = k then (if x.gone then none else some (p, x)) else sp l k).map _
 by_cases hk : x.key = k
 ·rw [if_pos hk, if_pos hk, hx]; rfl
 ·rw [if_neg hk, if_neg hk]; exact h.is k
theorem IxSays.below {a b : List FRec} (h : IxSays ix (a ++ b) n) (f : Nat) (ha : ∀ r ∈ a, r.1 < f) (hb : ∀ r ∈ b, f ≤ r.1) : IxSays (ixBelow ix (f : Int)) b n := by
 refine ⟨ixBelow_nodup h.nd, Nat.le_trans (List.length_filter_le _ _) h.len, fun k => ?_⟩
 rw [ixGet_below h.nd, h.is k, ← sp_below f k a b ha hb]
 cases sp (a ++ b) k with
 | none => rfl
 | some y =>
  by_cases hy : f ≤ y.1
  ·have h1 : above f y = true := decide_eq_true hy
   have h2 : decide ((f : Int) ≤ (y.1 : Int)) = true := decide_eq_true (by omega)
   rw [Option.filter_some_pos (by exact h1)]
   exact Option.filter_some_pos (by exact h2)
  ·have h1 : ¬ above f y = true := fun h => hy (of_decide_eq_true h)
   have h2 : ¬ decide ((f : Int) ≤ (y.1 : Int)) = true := fun h => hy (by have := of_decide_eq_true h; omega)
   rw [Option.filter_some_neg (eq_false_of_ne_true h1)]
   exact Option.filter_some_neg (eq_false_of_ne_true h2)
end
theorem opened_snoc (l : List LRec) (r : LRec) : opened (l ++ [r]) = l ++ [⟨r.pos, r.body, r.opens + 1⟩] := by
 induction l with
 | nil => rfl
 | cons a l ih =>
  cases l with
  | nil => rfl
  | cons b l => show a :: opened ((b :: l) ++ [r]) = _; rw [ih]; rfl
theorem fopened_snoc (l : List FEnt) (e : FEnt) : fopened (l ++ [e]) = l ++ [⟨e.x, e.opens + 1⟩] := by
 induction l with
 | nil => rfl
 | cons a l ih =>
  cases l with
  | nil => rfl
  | cons b l => show a :: fopened ((b :: l) ++ [e]) = _; rw [ih]; rfl
theorem snoc_is {α : Type} (l : List α) (h : l ≠ []) : ∃ a b, l = a ++ [b] := ⟨l.dropLast, l.getLast h, (List.dropLast_concat_getLast h).symm⟩
theorem It.bytes_le {x : It} (h : x.may = true) : x.bytes.length ≤ x.key.size + x.val.size + 20 := by
 have m := It.may_is h
 have f := x.flag_bd
 have kx : x.key.data.toList.length = x.key.size := by simp
 have vx : x.val.data.toList.length = x.val.size := by simp
 have z : ∀ n : Int, 0 ≤ n → zig n = (2 * n).toNat := fun n hn => by unfold zig; rw [if_neg (by omega)]
 have h1 : (putZ (x.key.data.toList.length : Int)).length ≤ 1 := vin_len 0 _ (by rw [z _ (by omega)]; omega)
 have h2 : (putZ (x.val.data.toList.length : Int)).length ≤ 2 := vin_len 1 _ (by rw [z _ (by omega)]; omega)
 have h3 := putZ_len x.till (by omega) (by omega)
 have h4 : (putZ x.flag).length ≤ 1 := vin_len 0 _ (by rw [z _ (by omega)]; omega)
 unfold It.bytes putT
 simp only [List.length_append]
 omega
structure FM (st : FSt) (lst : LSt) (hs : List FRec) : Prop where
 key : lst.hist.map LRec.key = hs.map frk
 may : ∀ p x, (p, some x) ∈ hs → x.may = true
 cut : ∃ h0 h1, hs = h0 ++ h1 ∧ (h0 = [] ∨ ∃ a p, h0 = a ++ [(p, none)]) ∧ h1.map (·.2) = st.ents.map (fun e => some e.x) ∧ (lst.hist.drop h0.length).map (·.opens) = st.ents.map (·.opens) ∧ st.gone = lst.gone - h0.length
 place : lst.place = st.place
 segs : lst.segs = st.segs
 age : lst.hist.length ≤ st.age
 next : lst.next ≤ 1048576 * st.age
 old : st.age ≤ 30000
theorem costs_le (tl : List LRec) (h1 : List FRec) (es : List FEnt) (hk : tl.map LRec.key = h1.map frk) (hm : ∀ p x, (p, some x) ∈ h1 → x.may = true) (he : h1.map (·.2) = es.map fun e => some e.x) (ho : tl.map (·.opens) = es.map (·.opens)) : costs tl ≤ fcosts es := by
 induction tl generalizing h1 es with
 | nil => exact Nat.zero_le _
 | cons r tl ih =>
  cases h1 with
  | nil => simp at hk
  | cons a h1 =>
   cases es with
   | nil => simp at he
   | cons e es =>
    simp only [List.map_cons, List.cons.injEq] at hk he ho
    have := ih h1 es hk.2 (fun p x hx => hm p x (List.mem_cons_of_mem _ hx)) he.2 ho.2
    have hb : r.body = e.x.bytes := by
     have := hk.1
     unfold LRec.key frk at this
     rw [he.1] at this
     injection this
    have hx : e.x.may = true := hm a.1 e.x (by obtain ⟨p, y⟩ := a; simp only at he; rw [he.1]; exact List.mem_cons_self)
    have hl := It.bytes_le hx
    have e1 : costs (r :: tl) = r.cost + costs tl := by simp [costs]
    have e2 : fcosts (e :: es) = e.cost + fcosts es := by simp [fcosts]
    rw [e1, e2]
    unfold LRec.cost FEnt.cost
    rw [hb, ho.1]
    omega
section
variable {st : FSt} {lst : LSt} {hs : List FRec}
theorem FM.len (h : FM st lst hs) : lst.hist.length = hs.length := by have := congrArg List.length h.key; simpa using this
theorem FM.pos (h : FM st lst hs) : lst.hist.map (·.pos) = hs.map (·.1) := by
 have := congrArg (List.map Prod.fst) h.key
 rw [List.map_map, List.map_map] at this
 exact this
theorem FM.recs (h : FM st lst hs) : lst.recs = (hs.drop lst.gone).map frk := by
 unfold LSt.recs
 rw [List.map_drop, h.key, ← List.map_drop]
theorem FM.ok (h : FM st lst hs) (ho : lst.Ok) : st.Ok := by
 obtain ⟨h0, h1, e, -, he, hop, hg⟩ := h.cut
 have hlen := h.len
 have hl1 : h1.length = st.ents.length := by have := congrArg List.length he; simpa using this
 have hlen2 : hs.length = h0.length + h1.length := by rw [e, List.length_append]
 have hgo := ho.gone
 refine ⟨by rw [← h.segs]; exact ho.segs, fun en hen => ?_, by omega, fun i hi hc => ?_⟩
 ·have : some en.x ∈ h1.map (·.2) := by rw [he]; exact List.mem_map.2 ⟨en, hen, rfl⟩
  obtain ⟨a, ha, hax⟩ := List.mem_map.1 this
  refine h.may a.1 en.x ?_
  rw [e]
  obtain ⟨p, y⟩ := a
  simp only at hax
  subst hax
  exact List.mem_append_right _ ha
 ·have hd : (lst.hist.drop (h0.length + i)).map LRec.key = (h1.drop i).map frk := by
   rw [List.map_drop, h.key, e, List.map_append, List.drop_append, List.map_drop]
   rw [List.drop_eq_nil_of_le (by simp), List.nil_append, List.length_map]
   congr 1; omega
  have := costs_le (lst.hist.drop (h0.length + i)) (h1.drop i) (st.ents.drop i) hd (fun p x hx => h.may p x (by rw [e]; exact List.mem_append_right _ (List.mem_of_mem_drop hx)))
   (by rw [List.map_drop, he, List.map_drop]) (by rw [← List.drop_drop, List.map_drop, hop, List.map_drop])
  have := ho.kept (h0.length + i) (by omega) (by rw [h.segs]; omega)
  omega
theorem sp_plain (h1 : List FRec) (es : List FEnt) (he : h1.map (·.2) = es.map fun e => some e.x) (k : ByteArray) : (sp h1 k).map (·.2) = (fLast es 0 k).bind fun x => if x.gone then none else some x := by
 obtain ⟨n, hn⟩ : ∃ n, h1.length = n := ⟨_, rfl⟩
 induction n generalizing h1 es with
 | zero =>
  have : h1 = [] := List.eq_nil_of_length_eq_zero hn
  subst this
  cases es with
  | nil => rfl
  | cons e es => simp at he
 | succ n ih =>
  obtain ⟨a, b, rfl⟩ := snoc_is h1 (fun e => by rw [e] at hn; simp at hn)
  obtain ⟨c, d, rfl⟩ := snoc_is es (fun e => by rw [e] at he; simp at he)
  rw [List.map_append, List.map_append] at he
  have hl : (a.map (·.2)).length = (c.map fun e => some e.x).length := by
   have := congrArg List.length he
   simpa using this
  obtain ⟨e1, e2⟩ := List.append_inj he hl
  have hi := ih a c e1 (by simpa using hn)
  rw [sp_snoc, fLast_snoc]
  obtain ⟨q, y⟩ := b
  simp only [List.map_cons, List.map_nil, List.cons.injEq, and_true] at e2
  subst e2
  show (if d.x.key = k then (if d.x.gone then none else some (q, d.x)) else sp a k).map (·.2) = _
  by_cases hk : d.x.key = k
  ·rw [if_pos hk, if_pos hk]
   show _ = (if d.x.gone then none else some d.x)
   cases d.x.gone <;> rfl
  ·rw [if_neg hk, if_neg hk]; exact hi
theorem FM.at_ (h : FM st lst hs) (k : ByteArray) : st.at_ k = (sp (hs.drop lst.gone) k).map (·.2) := by
 obtain ⟨h0, h1, e, hc, he, hop, hg⟩ := h.cut
 have hf : fLast st.ents st.gone k = fLast (st.ents.drop st.gone) 0 k := by unfold fLast; rw [List.drop_zero]
 unfold FSt.at_
 rw [hf, ← sp_plain (h1.drop st.gone) (st.ents.drop st.gone) (by rw [List.map_drop, he, List.map_drop]) k]
 congr 1
 rw [e, List.drop_append, hg]
 rcases hc with rfl | ⟨a, p, rfl⟩
 ·rw [List.drop_nil, List.nil_append]
 ·by_cases hl : lst.gone ≤ a.length
  ·have e0 : lst.gone - (a ++ [(p, none)]).length = 0 := by simp; omega
   rw [e0, List.drop_zero, List.drop_append_of_le_length hl, sp_cut]
  ·have e1 : (a ++ [(p, (none : Option It))]).drop lst.gone = [] := List.drop_eq_nil_of_le (by simp; omega)
   rw [e1, List.nil_append]
theorem FM.add (h : FM st lst hs) {x : It} (hx : x.may = true) {p pos g f y : Nat} (hg : lst.gone ≤ g) (hy : y ≤ lst.next + 1048576) (hold : st.age + 1 ≤ 30000) :
  ∃ g', st.gone ≤ g' ∧ FM ⟨st.place, st.segs, st.ents ++ [⟨x, 0⟩], g', st.age + 1⟩ ⟨p, lst.place, lst.segs, lst.hist ++ [⟨pos, x.bytes, 0⟩], g, f, y⟩ (hs ++ [(pos, some x)]) := by
 obtain ⟨h0, h1, e, hc, he, hop, hgo⟩ := h.cut
 have hlen := h.len
 have hlen2 : hs.length = h0.length + h1.length := by rw [e, List.length_append]
 refine ⟨g - h0.length, by omega, ?_, fun q z hz => ?_, ⟨h0, h1 ++ [(pos, some x)], by rw [e, List.append_assoc], hc, by simp [he], ?_, rfl⟩, h.place, h.segs, by have := h.age; simp; omega, by have := h.next; simp only; omega, hold⟩
 ·simp only [List.map_append, h.key]; rfl
 ·rcases List.mem_append.1 hz with hz | hz
  ·exact h.may q z hz
  ·cases List.mem_singleton.1 hz; exact hx
 ·simp only
  rw [List.drop_append_of_le_length (by omega), List.map_append, hop, List.map_append]
  rfl
theorem FM.wiped (h : FM st lst hs) {p pos g f y : Nat} (hg : g ≤ lst.hist.length + 1) (hy : y ≤ lst.next + 1048576) (hold : st.age + 1 ≤ 30000) :
  FM ⟨st.place, st.segs, [], 0, st.age + 1⟩ ⟨p, lst.place, lst.segs, lst.hist ++ [⟨pos, [0], 0⟩], g, f, y⟩ (hs ++ [(pos, none)]) := by
 have hlen := h.len
 refine ⟨?_, fun q z hz => ?_, ⟨hs ++ [(pos, none)], [], by simp, .inr ⟨hs, pos, rfl⟩, rfl, ?_, ?_⟩, h.place, h.segs, by have := h.age; simp; omega, by have := h.next; simp only; omega, hold⟩
 ·simp only [List.map_append, h.key]; rfl
 ·rcases List.mem_append.1 hz with hz | hz
  ·exact h.may q z hz
  ·cases List.mem_singleton.1 hz
 ·rw [List.drop_eq_nil_of_le (by simp; omega)]; rfl
 ·simp only [List.length_append, List.length_cons, List.length_nil]; omega
theorem opened_key (l : List LRec) : (opened l).map LRec.key = l.map LRec.key := by
 by_cases hl : l = []
 ·subst hl; rfl
 ·obtain ⟨a, r, rfl⟩ := snoc_is l hl
  rw [opened_snoc]; simp [LRec.key]
theorem opened_length (l : List LRec) : (opened l).length = l.length := by
 have := congrArg List.length (opened_key l)
 simpa using this
theorem opened_opens (l : List LRec) (n : Nat) (es : List FEnt) (h : (l.drop n).map (·.opens) = es.map (·.opens)) : ((opened l).drop n).map (·.opens) = (fopened es).map (·.opens) := by
 by_cases hl : l = []
 ·subst hl
  cases es with
  | nil => show (([] : List LRec).drop n).map _ = _; rw [List.drop_nil]; rfl
  | cons e es => simp at h
 ·obtain ⟨a, r, rfl⟩ := snoc_is l hl
  rw [opened_snoc]
  by_cases hn : n ≤ a.length
  ·rw [List.drop_append_of_le_length hn] at h ⊢
   obtain ⟨c, d, rfl⟩ := snoc_is es (fun e => by rw [e] at h; simp at h)
   rw [fopened_snoc]
   rw [List.map_append, List.map_append] at h ⊢
   have hh : ((a.drop n).map (·.opens)).length = (c.map (·.opens)).length := by
    have := congrArg List.length h
    simpa using this
   obtain ⟨e1, e2⟩ := List.append_inj h hh
   simp only [List.map_cons, List.map_nil, List.cons.injEq, and_true] at e2
   rw [e1]
   simp [e2]
  ·rw [List.drop_eq_nil_of_le (by simp; omega)] at h ⊢
   cases es with
   | nil => rfl
   | cons e es => simp at h
theorem fopened_x (l : List FEnt) : (fopened l).map (fun e => some e.x) = l.map fun e => some e.x := by
 by_cases hl : l = []
 ·subst hl; rfl
 ·obtain ⟨a, r, rfl⟩ := snoc_is l hl
  rw [fopened_snoc]; simp
theorem FM.opened (h : FM st lst hs) {p f y : Nat} (hy : y ≤ lst.next + 1048576) (hold : st.age + 1 ≤ 30000) :
  FM ⟨st.place, st.segs, fopened st.ents, st.gone, st.age + 1⟩ ⟨p, lst.place, lst.segs, opened lst.hist, lst.gone, f, y⟩ hs := by
 obtain ⟨h0, h1, e, hc, he, hop, hgo⟩ := h.cut
 refine ⟨by simp only; rw [opened_key]; exact h.key, h.may, ⟨h0, h1, e, hc, by simp only; rw [fopened_x]; exact he, opened_opens _ _ _ hop, hgo⟩, h.place, h.segs, by have := h.age; simp only; rw [opened_length]; omega, by have := h.next; simp only; omega, hold⟩
theorem pos_ge {hist : List LRec} {hs : List FRec} (h : hist.map (·.pos) = hs.map (·.1)) {P : Nat → Prop} (n : Nat) (hp : ∀ r ∈ hist.drop n, P r.pos) : ∀ a ∈ hs.drop n, P a.1 := by
 intro a ha
 have : a.1 ∈ (hs.drop n).map (·.1) := List.mem_map.2 ⟨a, ha, rfl⟩
 rw [List.map_drop, ← h, ← List.map_drop] at this
 obtain ⟨r, hr, e⟩ := List.mem_map.1 this
 rw [← e]; exact hp r hr
theorem pos_lt {hist : List LRec} {hs : List FRec} (h : hist.map (·.pos) = hs.map (·.1)) {P : Nat → Prop} (n : Nat) (hp : ∀ r ∈ hist.take n, P r.pos) : ∀ a ∈ hs.take n, P a.1 := by
 intro a ha
 have : a.1 ∈ (hs.take n).map (·.1) := List.mem_map.2 ⟨a, ha, rfl⟩
 rw [List.map_take, ← h, ← List.map_take] at this
 obtain ⟨r, hr, e⟩ := List.mem_map.1 this
 rw [← e]; exact hp r hr
theorem ix_kept {ix : IxSt} {hs : List FRec} {a : FRec} {n g g' f f' : Nat} (h : IxSays ix (hs.drop g ++ [a]) n) (hgl : g ≤ hs.length) (hg : g ≤ g') (h1 : ∀ r ∈ hs.drop g, f ≤ r.1) (ha : f ≤ a.1) (h2 : ∀ r ∈ (hs ++ [a]).take g', r.1 < f') (h3 : ∀ r ∈ (hs ++ [a]).drop g', f' ≤ r.1) :
  (f' = f → IxSays ix ((hs ++ [a]).drop g') n) ∧ IxSays (ixBelow ix (f' : Int)) ((hs ++ [a]).drop g') n := by
 have e : hs.drop g ++ [a] = (hs ++ [a]).drop g := by rw [List.drop_append_of_le_length hgl]
 rw [e] at h
 have e2 : (hs ++ [a]).drop g = ((hs ++ [a]).drop g).take (g' - g) ++ (hs ++ [a]).drop g' := by
  have := List.take_append_drop (g' - g) ((hs ++ [a]).drop g)
  rw [List.drop_drop, show g + (g' - g) = g' by omega] at this
  exact this.symm
 have h4 : ∀ r ∈ ((hs ++ [a]).drop g).take (g' - g), r.1 < f' := by
  intro r hr
  refine h2 r ?_
  rw [← List.drop_take] at hr
  exact List.mem_of_mem_drop hr
 refine ⟨fun hf => ?_, ?_⟩
 ·have : ((hs ++ [a]).drop g).take (g' - g) = [] := by
   refine List.eq_nil_iff_forall_not_mem.2 fun r hr => ?_
   have h5 := h4 r hr
   have h6 : f ≤ r.1 := by
    have hm := List.mem_of_mem_take hr
    rw [List.drop_append_of_le_length hgl] at hm
    rcases List.mem_append.1 hm with hm | hm
    ·exact h1 r hm
    ·rw [List.mem_singleton.1 hm]; exact ha
   omega
  rw [e2, this, List.nil_append] at h
  exact h
 ·rw [e2] at h
  exact h.below f' h4 h3
end
end Go.Proofs.YticophaepapjoaaGreatDoor
namespace Go.Proofs.YticophaepapjoaaGreatDoor
open Go Go.RowKit Go.Joins
section
variable {W W' : World} {base : Nat} {e : TypeId} {k : IntKind} {v : Value} {n c g : Nat} {F : Nat → Prop}
theorem own_cap {A : Option Addr} {xs : List Value} (h : W.ownsRow base e 1 (.slice A n c) n xs) : n ≤ c ∧ c ≤ maxLen ∧ (A = none → c = 0) := by
 rcases h.2 with ⟨h', h0⟩ | ⟨g', cap', cur, h', _, _, h1, h2, _⟩
 ·injection h' with a1 a2 a3
  subst a2 a3
  exact ⟨Nat.le_refl _, Nat.zero_le _, fun _ => rfl⟩
 ·injection h' with a1 a2 a3
  subst a1 a3
  exact ⟨h1, h2, fun h => by cases h⟩
end
def Mine (w : World) (k : IntKind) (A : Option Addr) (n : Nat) : Prop := 0 < n → ∃ (g o : Nat) (cur : Array Value) (t : TypeId) (fr : Nat × Nat), A = some ⟨g, o, none⟩ ∧ w.heap[g]? = some (.cells cur t fr) ∧ ∀ i, i < n → (∃ z : Int, cur[o + i]? = some (.int k z)) ∧ w.frozen? ⟨g, o + i, none⟩ = false
def RecsAt (w : World) (A : Option Addr) (G : Nat → Prop) (l : List (Nat × List UInt8)) : Prop :=
 l ≠ [] → ∃ b o, A = some ⟨b, o, none⟩ ∧ G b ∧ ∀ i (hi : i < l.length), w.cell? ⟨b, o + i * 2, none⟩ = some (.int .i64 ((l[i].1 : Nat) : Int)) ∧
  ∃ B c, w.cell? ⟨b, o + i * 2 + 1, none⟩ = some (.slice B l[i].2.length c) ∧ Row w B G (bcells l[i].2)
structure SlogOK where
 T : World → Prop
 tk : ∀ {w w' : World}, T w → Keeps (fun _ => True) w w' → T w'
 rep : World → Nat → Foot → LSt → SDev → Prop
 disk : LSt → List (List UInt8) → Prop
 wf : ∀ {w q F st s}, rep w q F st s → st.Ok
 lt : ∀ {w q F st s}, rep w q F st s → ∀ b, F.all b → b < w.heap.size
 keep : ∀ {w w' q F st s}, rep w q F st s → Keeps F.all w w' → rep w' q F st s
 other : ∀ {w q F st s s'}, rep w q F st s → s'.now.length = s.now.length → (∀ i, st.has i → s'.now.getD i [] = s.now.getD i []) → rep w q F st s'
 diskKeep : ∀ {st rows rows'}, disk st rows → rows'.length = rows.length → (∀ i, st.has i → rows'.getD i [] = rows.getD i []) → disk st rows'
 openNew : ∀ (w : World) (p : Nat) (F : Foot) (s : SDev), DAt w p F s → T w → ∀ (i n : Nat), 3 ≤ n → n ≤ 200 → i + 8 * n ≤ s.now.length → (∀ j, i ≤ j → j < i + 8 * n → s.now.getD j [] = blank) →
  Calls Tryz.prog 96 #[.pointer (some ⟨p, 0, none⟩), .int .i64 i, .int .i64 n] w fun e w' => ∃ (q : Nat) (Fs : Foot) (f x : Nat), e = .returned (.tuple #[.pointer (some ⟨q, 0, none⟩), .int .i64 0]) ∧
   rep w' q Fs ⟨p, i, n, [], 0, f, x⟩ s ∧ x ≤ 1048576 ∧ (∀ b, Fs.all b → w.heap.size ≤ b) ∧ Keeps (fun _ => True) w w'
 openOld : ∀ (w : World) (p : Nat) (F : Foot) (s : SDev) (st : LSt), DAt w p F s → T w → disk st s.now → st.place + 8 * st.segs ≤ s.now.length → st.next ≤ 137438953472 →
  Calls Tryz.prog 96 #[.pointer (some ⟨p, 0, none⟩), .int .i64 st.place, .int .i64 st.segs] w fun e w' => ∃ (q : Nat) (Fs : Foot) (f x : Nat), e = .returned (.tuple #[.pointer (some ⟨q, 0, none⟩), .int .i64 0]) ∧
   rep w' q Fs ⟨p, st.place, st.segs, opened st.hist, st.gone, f, x⟩ s ∧ x ≤ st.next + 1048576 ∧ (∀ b, Fs.all b → w.heap.size ≤ b) ∧ Keeps (fun _ => True) w w'
 append : ∀ (W w : World) (p q : Nat) (F Fs : Foot) (s : SDev) (st : LSt), DAt w p F s → rep w q Fs st s → st.dev = p → Apart F Fs → T W → Keeps (fun _ => True) W w → (∀ b, F.all b → W.heap.size ≤ b) → (∀ b, Fs.all b → W.heap.size ≤ b) → st.place + 8 * st.segs ≤ s.now.length → s.calls ≤ 549755813888 → st.next ≤ 137438953472 →
  ∀ (A : Option Addr) (c : Nat) (G : Nat → Prop) (l : List UInt8), Row w A G (bcells l) → (∀ b, G b → ¬ F.all b) → (∀ b, G b → ¬ Fs.all b) → l.length ≤ c → c ≤ maxLen → 1 ≤ l.length → l.length ≤ 300 →
  Calls Tryz.prog 71 #[.pointer (some ⟨q, 0, none⟩), .slice A l.length c] w fun e w' => ∃ (x : Nat) (F' Fs' : Foot) (s' : SDev) (g f n : Nat), e = .returned (.tuple #[.int .i64 (x : Int), .int .i64 0]) ∧ DAt w' p F' s' ∧ rep w' q Fs' ⟨p, st.place, st.segs, st.hist ++ [⟨x, l, 0⟩], g, f, n⟩ s' ∧ st.gone ≤ g ∧ st.next ≤ x ∧ n ≤ st.next + 1048576 ∧
   s'.now.length = s.now.length ∧ (∀ i, ¬ st.has i → s'.now.getD i [] = s.now.getD i []) ∧ s'.calls ≤ s.calls + 1000 ∧
   Apart F' Fs' ∧ Keeps (fun b => ¬ F.M b ∧ ¬ Fs.M b) w w' ∧ (∀ b, F'.M b → F.M b ∨ w.heap.size ≤ b) ∧ (∀ b, F'.I b → F.all b ∨ w.heap.size ≤ b) ∧ (∀ b, Fs'.M b → Fs.M b ∨ w.heap.size ≤ b) ∧ (∀ b, Fs'.I b → Fs.all b ∨ w.heap.size ≤ b)
 flush : ∀ (W w : World) (p q : Nat) (F Fs : Foot) (s : SDev) (st : LSt), DAt w p F s → rep w q Fs st s → st.dev = p → Apart F Fs → T W → Keeps (fun _ => True) W w → (∀ b, F.all b → W.heap.size ≤ b) → (∀ b, Fs.all b → W.heap.size ≤ b) → st.place + 8 * st.segs ≤ s.now.length → s.calls ≤ 549755813888 →
  Calls Tryz.prog 46 #[.pointer (some ⟨q, 0, none⟩)] w fun e w' => e = .returned (.int .i64 0) ∧ ∃ (F' Fs' : Foot) (rows : List (List UInt8)) (k : Nat), DAt w' p F' (SDev.still rows k) ∧ rep w' q Fs' st (SDev.still rows k) ∧ disk st rows ∧
   rows.length = s.now.length ∧ (∀ i, ¬ st.has i → rows.getD i [] = s.now.getD i []) ∧ k ≤ s.calls + 1000 ∧
   Apart F' Fs' ∧ Keeps (fun b => ¬ F.M b ∧ ¬ Fs.M b) w w' ∧ (∀ b, F'.M b → F.M b ∨ w.heap.size ≤ b) ∧ (∀ b, F'.I b → F.all b ∨ w.heap.size ≤ b) ∧ (∀ b, Fs'.M b → Fs.M b ∨ w.heap.size ≤ b) ∧ (∀ b, Fs'.I b → Fs.all b ∨ w.heap.size ≤ b)
 read : ∀ (w : World) (p q : Nat) (F Fs : Foot) (s : SDev) (st : LSt), DAt w p F s → rep w q Fs st s → st.dev = p → Apart F Fs → T w → st.place + 8 * st.segs ≤ s.now.length → ∀ (x : Nat) (l : List UInt8), (x, l) ∈ st.recs →
  Calls Tryz.prog 85 #[.pointer (some ⟨q, 0, none⟩), .int .i64 (x : Int)] w fun e w' => ∃ A c, e = .returned (.tuple #[.slice A l.length c, .int .i64 0]) ∧ l.length ≤ c ∧ c ≤ maxLen ∧ Row w' A (fun b => w.heap.size ≤ b ∧ b < w'.heap.size) (bcells l) ∧ Mine w' .u8 A l.length ∧ Keeps (fun _ => True) w w'
 all : ∀ (w : World) (p q : Nat) (F Fs : Foot) (s : SDev) (st : LSt), DAt w p F s → rep w q Fs st s → st.dev = p → Apart F Fs → T w → st.place + 8 * st.segs ≤ s.now.length →
  Calls Tryz.prog 97 #[.pointer (some ⟨q, 0, none⟩)] w fun e w' => ∃ A c, e = .returned (.slice A st.recs.length c) ∧ RecsAt w' A (fun b => w.heap.size ≤ b ∧ b < w'.heap.size) st.recs ∧ Keeps (fun _ => True) w w'
 firstIs : ∀ (w : World) (q : Nat) (Fs : Foot) (s : SDev) (st : LSt), rep w q Fs st s → T w →
  Calls Tryz.prog 70 #[.pointer (some ⟨q, 0, none⟩)] w fun e w' => e = .returned (.int .i64 (st.first : Int)) ∧ Keeps (fun _ => True) w w'
 nextIs : ∀ (w : World) (q : Nat) (Fs : Foot) (s : SDev) (st : LSt), rep w q Fs st s → T w →
  Calls Tryz.prog 52 #[.pointer (some ⟨q, 0, none⟩)] w fun e w' => e = .returned (.int .i64 (st.next : Int)) ∧ Keeps (fun _ => True) w w'
theorem costs_append (a b : List LRec) : costs (a ++ b) = costs a + costs b := by simp [costs]
def RecsC (w : World) (A : Option Addr) (G : Nat → Prop) (l : List (Nat × List UInt8)) : Prop :=
 l ≠ [] → ∃ b o, A = some ⟨b, o, none⟩ ∧ G b ∧ ∀ i (hi : i < l.length), w.cell? ⟨b, o + i * 2, none⟩ = some (.int .i64 ((l[i].1 : Nat) : Int)) ∧
  ∃ B c, w.cell? ⟨b, o + i * 2 + 1, none⟩ = some (.slice B l[i].2.length c) ∧ l[i].2.length ≤ c ∧ c ≤ maxLen ∧ Row w B G (bcells l[i].2)
structure Slog2 extends SlogOK where
 past : ∀ {w : World} {q : Nat} {F : Foot} {st : LSt} {s : SDev}, rep w q F st s → st.first ≤ st.next ∧ ∀ r ∈ st.hist.take st.gone, r.pos < st.first
 first2 : ∀ (w : World) (q : Nat) (F : Foot) (s : SDev) (st : LSt), rep w q F st s → Calls Tryz.prog 70 #[.pointer (some ⟨q, 0, none⟩)] w fun e w' => e = .returned (.int .i64 (st.first : Int)) ∧ w' = w
 all2 : ∀ (w : World) (p q : Nat) (F Fs : Foot) (s : SDev) (st : LSt), DAt w p F s → rep w q Fs st s → st.dev = p → T w → st.place + 8 * st.segs ≤ s.now.length →
  Calls Tryz.prog 97 #[.pointer (some ⟨q, 0, none⟩)] w fun e w' => ∃ A c, e = .returned (.slice A st.recs.length c) ∧ st.recs.length ≤ c ∧ c ≤ maxLen ∧ RecsC w' A (fun b => w.heap.size ≤ b ∧ b < w'.heap.size) st.recs ∧ Keeps (fun _ => True) w w'
 next2 : ∀ (w : World) (q : Nat) (F : Foot) (s : SDev) (st : LSt), rep w q F st s → Calls Tryz.prog 52 #[.pointer (some ⟨q, 0, none⟩)] w fun e w' => e = .returned (.int .i64 (st.next : Int)) ∧ w' = w
end Go.Proofs.YticophaepapjoaaGreatDoor
