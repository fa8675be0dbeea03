/-
  StBegun, StLocs, StGetOps, FlDrop, JnFind: texts of mine, joined.
-/
import Derived.Test.YticophaepapjoaaGreatDoorAllA28
import Derived.Test.YticophaepapjoaaGreatDoorAllA31
import Derived.Outline
import Derived.Test.YticophaepapjoaaGreatDoorAllA15
import Derived.Test.YticophaepapjoaaGreatDoorAllA32
import Derived.Test.YticophaepapjoaaGreatDoorAllA33
namespace Go.Proofs.YticophaepapjoaaGreatDoor
open Go Go.RowKit Go.Joins
section
variable {S : FlashOK} {J : JournalOK} {W w w' : World} {p b q1 q2 k n d c : Nat} {z : Sto} {X : Nat → Prop}
theorem Blank.dev (h : Blank W w p n X) : StDev W w p n 0 X := by
 obtain ⟨F, hd, hX⟩ := h
 exact ⟨F, _, hd, by show (List.replicate n blank).length = n; exact List.length_replicate .., Nat.le_refl _, hX⟩
theorem so_make (hS : S.T W) (hJ : J.T W) (hT : theSup.T W) (h : StDev W w p n c X) (h1 : 192 ≤ n) (hc : c ≤ 200000000000) : Calls Tryz.prog 11 #[.pointer (some ⟨p, 0, none⟩)] w (MadePost S J W w p n c X) := by
 obtain ⟨F, s, hd, hl, hcc, hX⟩ := h
 refine (stmake_any hS hJ hT hd hl hX h1 (by omega)).mono ?_
 rintro e w' ⟨b, q1, q2, k, c', rfl, hat, hc', hk⟩
 exact ⟨b, q1, q2, k, c', rfl, hat, by omega, hk⟩
end
def sK : ByteArray := { data := #[107] }
def sV : ByteArray := { data := #[118] }
def sIt : It := ⟨sK, sV, 0, false⟩
theorem sK_ok : keyOk sK := by unfold keyOk; decide
theorem getE_sIt (pl sg a : Nat) : getE ⟨pl, sg, [fput sIt], 0, a⟩ sK 0 = .returned (.tuple #[.agg #[.string ⟨#[107]⟩, .string ⟨#[118]⟩, .int .i64 0, .bool false], .bool true]) := by
 have e : (⟨pl, sg, [fput sIt], 0, a⟩ : FSt).at_ sK = some sIt := rfl
 have hl : sIt.live 0 = true := by decide
 unfold getE
 rw [e]
 show (if sIt.live 0 = true then _ else _) = _
 rw [if_pos hl]
 rfl
theorem getE_grave (pl sg a : Nat) : getE ⟨pl, sg, [fput sIt, grave sK], 0, a⟩ sK 0 = .returned (.tuple #[.agg #[.string ⟨#[]⟩, .string ⟨#[]⟩, .int .i64 0, .bool false], .bool false]) := by
 have e : (⟨pl, sg, [fput sIt, grave sK], 0, a⟩ : FSt).at_ sK = none := rfl
 unfold getE
 rw [e]
theorem cost_sIt : fcosts [fput sIt] = 82 := by decide
theorem cost_sGr : fcosts [fput sIt, grave sK] = 163 := by decide
theorem meta_field0 (w : World) (x y z : Int) (f : Bool) : Sem.run Tryz.prog (Instr.field 32 (.agg #[.int .i64 x, .int .i64 y, .int .i64 z, .bool f]) 0) w = .ok (.int .i64 x) w := by kernel_rfl
set_option maxRecDepth 100000 in
set_option maxHeartbeats 2000000 in
theorem begun21 (S : FlashOK) (J : JournalOK) (w : World) (hS : S.T w) (hJ : J.T w) (hT : theSup.T w) : Calls Tryz.prog 9 #[] w fun e w' => e = .returned (.bool true) ∧ Kp w w' := by
 have HT := Lib.hid (And.intro hS (And.intro hJ hT))
 clear hS hJ hT
 go_enter Tryz.func9, Tryz.ntmps9
 go_wp2_with fail
 refine (show Calls _ _ _ _ _ from fo_dev (X := fun _ => False) (Keeps.refl _ w) (fun _ h => h.elim) 400 (by decide) (by decide) 400 rfl).mono ?_
 rintro e w1 ⟨p, rfl, hB, -⟩
 have HB := Lib.hid hB.dev
 clear hB
 go_wp2_with fail
 refine (show Calls _ _ _ _ _ from so_make HT.out.1 HT.out.2.1 HT.out.2.2 HB.out (by decide) (by decide)).mono ?_
 rintro e w2 ⟨b, q1, q2, k, c, rfl, hat, hc, -⟩
 have c0 := hat.blk.c0
 have c1 := hat.blk.c1
 have c2 := hat.blk.c2
 have HA := Lib.hid hat
 have HC := Lib.hid (show c ≤ 10000 by omega)
 clear hat hc HB
 go_wp2_with fail
 refine (show Calls _ _ _ _ _ from so_put HT.out.1 HA.out (by show 1 ≤ 20000; decide) (by show c ≤ 400000000000; have := HC.out; omega) sIt (by decide) rfl).mono ?_
 rintro e w3 ⟨rfl, g, -, hat, -⟩
 have hg : g = 0 := hat.wf.1.whole (by show fcosts [fput sIt] ≤ 200 * (segsOf 400 - 2); rw [cost_sIt]; decide)
 subst hg
 have HA3 := Lib.hid (show StAt S J w w3 p b q1 q2 k ⟨⟨162, segsOf 400, [fput sIt], 0, 2⟩, ⟨2, 20, [], 0, 32, 1⟩, 2, ⟨1, 0, 0, false⟩, 1, c + 2000⟩ 400 0 (fun _ => False) from hat)
 have d0 := HA3.out.blk.c0
 clear hat HA c0 c1 c2
 go_wp2_with fail
 refine (show Calls _ _ _ _ _ from so_get HT.out.1 HA3.out sK 0 (by decide) (by decide) (by decide) _ (getE_sIt _ _ _).symm).mono ?_
 rintro e w4 ⟨rfl, hk4, hat⟩
 clear HA3 d0 hk4
 have HA4 := Lib.hid hat
 clear hat
 go_wp2_with fail
 have hk5 : Kp w4 (w4.alloc (.cells #[.string ⟨#[107]⟩, .string ⟨#[118]⟩, .int .i64 0, .bool false] 40)) := (Keeps.refl _ w4).alloc _
 have hb5 := heap_alloc_new w4 (.cells #[.string ⟨#[107]⟩, .string ⟨#[118]⟩, .int .i64 0, .bool false] 40)
 have hs5 : (w4.alloc (.cells #[.string ⟨#[107]⟩, .string ⟨#[118]⟩, .int .i64 0, .bool false] 40)).heap.size = w4.heap.size + 1 := by simp
 generalize w4.alloc (.cells #[.string ⟨#[107]⟩, .string ⟨#[118]⟩, .int .i64 0, .bool false] 40) = w5 at *
 have e1 : w5.cell? ⟨w4.heap.size, 1, none⟩ = some (.string ⟨#[118]⟩) := (cell_of_block hb5 1).trans rfl
 have hk6 : Kp w5 (w5.alloc (.cells #[.string ⟨#[107]⟩] 9)) := (Keeps.refl _ w5).alloc _
 have hs6 : (w5.alloc (.cells #[.string ⟨#[107]⟩] 9)).heap.size = w5.heap.size + 1 := by simp
 have hrow := Row.fresh (F := fun x => x = w4.heap.size ∨ x = w4.heap.size + 1) w5 #[.string ⟨#[107]⟩] 9 (0, 0) (w4.heap.size + 1) hs5.symm (.inr rfl) ([sK].map Value.string) rfl
 have e1' := hk6.cell e1 trivial
 generalize w5.alloc (.cells #[.string ⟨#[107]⟩] 9) = w6 at *
 have HA6 := Lib.hid (HA4.out.more (Y := fun x => x = w4.heap.size ∨ x = w4.heap.size + 1) (hk5.trans hk6) fun x hx => .inr (by omega))
 have HR := Lib.hid hrow
 have HE := Lib.hid e1'
 clear hk5 hb5 hs5 e1 hk6 hs6 hrow e1' HA4
 generalize w4.heap.size = g at *
 refine (show Calls _ _ _ _ _ from so_kill HT.out.1 HT.out.2.1 HA6.out (by show 2 ≤ 20000; decide) (by show 1 ≤ 20000; decide) (by show c + 2000 ≤ 300000000000; have := HC.out; omega) (some ⟨g + 1, 0, none⟩) [sK] HR.out 1 1 rfl (by decide) (by decide) (by decide) (by intro k hk; rw [List.mem_singleton.1 hk]; exact sK_ok) 1 rfl).mono ?_
 rintro e w7 ⟨rfl, g2, u, -, -, hat, hk7⟩
 have hg : g2 = 0 := hat.wf.1.whole (by show fcosts [fput sIt, grave sK] ≤ 200 * (segsOf 400 - 2); rw [cost_sGr]; decide)
 subst hg
 have HE7 := Lib.hid (hk7.cell HE.out (.inl rfl))
 have HA7 := Lib.hid (show StAt S J w w7 p b q1 q2 k ⟨⟨162, segsOf 400, [fput sIt, grave sK], 0, 4⟩, ⟨2, 20, [sK], u, 32, 3⟩, 2, ⟨1, 0, 0, false⟩, 1, c + 6000⟩ 400 2 (fun x => x = g) from hat.less fun x hx => .inl hx)
 have d0 := HA7.out.blk.c0
 clear hat hk7 HA6 HR HE
 go_wp2_with fail
 refine (show Calls _ _ _ _ _ from so_get HT.out.1 HA7.out sK 0 (by decide) (by decide) (by decide) _ (getE_grave _ _ _).symm).mono ?_
 rintro e w8 ⟨rfl, hk8, hat⟩
 have hk9 : Kp w8 (w8.alloc (.cells #[.string ⟨#[]⟩, .string ⟨#[]⟩, .int .i64 0, .bool false] 40)) := (Keeps.refl _ w8).alloc _
 have HA9 := Lib.hid (hat.keep hk9)
 have HE9 := Lib.hid ((hk8.trans hk9).cell HE7.out trivial)
 clear d0 hk8 hk9 hat HA7 HE7
 go_wp2_with fail
 generalize w8.alloc (.cells #[.string ⟨#[]⟩, .string ⟨#[]⟩, .int .i64 0, .bool false] 40) = w9 at *
 refine (show Calls _ _ _ _ _ from so_crash HA9.out (by decide) none 0 (fun _ => True) [] 0 rfl (Row.nil _ _ _) (by decide)).mono ?_
 rintro e w10 ⟨r, rfl, hD, hk10, hat⟩
 have HD := Lib.hid hD
 have HBL := Lib.hid (show StBlk w10 b q1 q2 k 1 from hat.blk)
 have HE10 := Lib.hid (hk10.cell HE9.out trivial)
 clear hD hat hk10 HA9 HE9
 go_wp2_with fail
 refine (show Calls _ _ _ _ _ from so_openOld HT.out.1 HT.out.2.1 HT.out.2.2 HD.out (by show (1 : Int) < _; decide) (by show 2 ≤ 300000000000; decide) (by show 4 ≤ 20000; decide) (by show 3 ≤ 20000; decide)).mono ?_
 rintro e w11 ⟨b2, p1, p2, k2, z2, rfl, hat, hj, hm, hbo, hk11⟩
 have hj2 : z2.j.keys = [sK] := hj
 have hm2 : z2.m = ⟨2, 0, 0, false⟩ := hm
 have hb2 : z2.boot = 2 := hbo
 have HA11 := Lib.hid hat
 have HJ := Lib.hid (And.intro hj2 (And.intro hm2 hb2))
 have HBL11 := Lib.hid (HBL.out.keep hk11 (.inl rfl))
 have e11 := hk11.cell HE10.out (.inr rfl)
 have d1 := hat.blk.c1
 have d2 := hat.blk.c2
 clear hat hj hm hbo hj2 hm2 hb2 hk11 HD HBL HE10
 go_wp2_with fail
 refine (show Calls _ _ _ _ _ from so_seq HT.out.2.1 HA11.out 1 (by rw [HJ.out.1]; rfl)).mono ?_
 rintro e w12 ⟨rfl, hk12, hat⟩
 have HA12 := Lib.hid hat
 have HBL12 := Lib.hid (HBL11.out.keep hk12 trivial)
 have d2' := hat.blk.c2
 clear hat hk12 HA11 HBL11 e11 d1 d2
 go_wp2_with fail
 refine (show Calls _ _ _ _ _ from so_started HA12.out 2 HJ.out.2.2.symm).mono ?_
 rintro e w13 ⟨rfl, rfl⟩
 go_wp2_with fail
 refine (show Calls _ _ _ _ _ from sstarted_blk HBL12.out).mono ?_
 rintro e w13 ⟨rfl, rfl⟩
 clear HBL12
 go_wp2_with fail
 have HMT := so_meta HA12.out
 rw [HJ.out.2.1] at HMT
 have HM := Lib.hid HMT
 clear HMT d2'
 refine (show Calls _ _ _ _ _ from HM.out).mono ?_
 rintro e w13 ⟨rfl, -, hat⟩
 have HK := Lib.hid hat.kp
 clear hat HM HA12
 unfold magg
 go_wp2_with (rw [meta_field0])
 go_ret
 exact ⟨rfl, HK.out⟩
def snameL (i : Nat) : List UInt8 := [107, UInt8.ofNat (97 + i)]
def sname (i : Nat) : ByteArray := txt (snameL i)
theorem sname_size (i : Nat) : (sname i).size = 2 := by unfold sname; rw [txt_size]; rfl
theorem snameL_inj {i j : Nat} (hi : i ≤ 100) (hj : j ≤ 100) (h : snameL i = snameL j) : i = j := by
 unfold snameL at h
 injection h with _ h
 injection h with h2 h
 have e2 := congrArg UInt8.toNat h2
 simp only [UInt8.toNat_ofNat'] at e2
 omega
theorem sname_inj {i j : Nat} (hi : i ≤ 100) (hj : j ≤ 100) (h : sname i = sname j) : i = j :=
 snameL_inj hi hj (by have := congrArg (fun b : ByteArray => b.data.toList) h; simpa [sname, txt_list] using this)
theorem snameV_is (i : Nat) (hi : i ≤ 100) : [Value.int .u8 107, .int .u8 ((97 + i : Nat) : Int)] = bcells (snameL i) := by
 have e : ∀ n : Nat, n < 256 → ((UInt8.ofNat n).toNat : Int) = (n : Int) := fun n h => by rw [UInt8.toNat_ofNat', Nat.mod_eq_of_lt h]
 unfold snameL bcells
 simp only [List.map, bcell]
 rw [e _ (by omega)]
 rfl
def sItem (i : Nat) : It := ⟨sname i, sV, 0, false⟩
theorem sItem_may (i : Nat) : (sItem i).may = true := by
 have h : sV.size = 1 := by decide
 simp [It.may, sItem, sname_size, h]
section
variable {o : Oper} {a : Act} {w : World} {Q : Exit → Act → World → Prop} {x y : Operand}
theorem kp_st0 {b : Nat} (ho : o.op = .fieldAddr 38 x 0) (hx : a.eval x = .pointer (some ⟨b, 0, none⟩)) : o.wp Tryz.prog a w (fun a' w' => ∃ v, a' = a.put o.dst v ∧ Kp w w' ∧ IsV (.pointer (some ⟨b, 0, none⟩)) w' v) Q := by
 refine kp_yield (v := .pointer (some ⟨b, 0, none⟩)) (w' := w) ?_ (Keeps.refl _ _) rfl
 generalize a.eval = ρ at hx ⊢
 unfold execOp
 rw [ho]
 go_simp
theorem kp_ldC {b q : Nat} (hc : w.cell? ⟨b, 0, none⟩ = some (.pointer (some ⟨q, 0, none⟩))) (ho : o.op = .load 34 x) (hx : a.eval x = .pointer (some ⟨b, 0, none⟩)) : o.wp Tryz.prog a w (fun a' w' => ∃ v, a' = a.put o.dst v ∧ Kp w w' ∧ IsV (.pointer (some ⟨q, 0, none⟩)) w' v) Q := by
 refine kp_yield (v := .pointer (some ⟨q, 0, none⟩)) (w' := w) ?_ (Keeps.refl _ _) rfl
 generalize a.eval = ρ at hx ⊢
 unfold execOp
 rw [ho]
 go_simp
theorem kp_item {i : Nat} (ho : o.op = .build 40 #[(0, x), (1, .const (.string { data := #[118] }))]) (hx : a.eval x = .string (sname i)) : o.wp Tryz.prog a w (fun a' w' => ∃ v, a' = a.put o.dst v ∧ Kp w w' ∧ IsV (.agg #[.string (sname i), .string { data := #[118] }, .int .i64 0, .bool false]) w' v) Q := by
 refine kp_yield (v := .agg #[.string (sname i), .string { data := #[118] }, .int .i64 0, .bool false]) (w' := w) ?_ (Keeps.refl _ _) rfl
 have h0 : a.eval (.const (.string { data := #[118] })) = .string { data := #[118] } := rfl
 generalize sname i = s at hx ⊢
 generalize a.eval = ρ at hx h0 ⊢
 unfold execOp
 rw [ho]
 go_simp
end
def PutSt (S : FlashOK) (J : JournalOK) (W : World) (p b q1 q2 k : Nat) (z : Sto) (n g : Nat) (x : It) (Y : Nat → Prop) : Bool → World → Prop
 | false, w => g ≤ w.heap.size ∧ ∃ d, StAt S J W w p b q1 q2 k z n d (fun c => Y c ∨ (g ≤ c ∧ c < w.heap.size))
 | true, w => g ≤ w.heap.size ∧ ∃ u, z.f.gone ≤ u ∧ StAt S J W w p b q1 q2 k ⟨⟨z.f.place, z.f.segs, z.f.ents ++ [fput x], u, z.f.age + 1⟩, z.j, z.t, z.m, z.boot, z.c + 2000⟩ n 0 Y
section
variable {S : FlashOK} {J : JournalOK} {W w w' : World} {p b q1 q2 k n g d : Nat} {z : Sto} {x : It} {Y : Nat → Prop} {t : Bool}
theorem PutSt.keep (hk : Kp w w') (h : PutSt S J W p b q1 q2 k z n g x Y t w) : PutSt S J W p b q1 q2 k z n g x Y t w' := by
 have hs := hk.size
 cases t
 ·obtain ⟨hg, d, h⟩ := h
  exact ⟨by omega, d, h.more hk fun c hc => by
   rcases hc with hc | hc
   ·exact .inl (.inl hc)
   ·by_cases h2 : c < w.heap.size
    ·exact .inl (.inr ⟨hc.1, h2⟩)
    ·exact .inr ⟨by omega, hc.2⟩⟩
 ·obtain ⟨hg, u, h1, h⟩ := h
  exact ⟨by omega, u, h1, h.keep hk⟩
theorem PutSt.c0 (h : PutSt S J W p b q1 q2 k z n g x Y t w) : w.cell? ⟨b, 0, none⟩ = some (.pointer (some ⟨q1, 0, none⟩)) := by
 cases t
 ·obtain ⟨-, d, h⟩ := h
  exact h.blk.c0
 ·obtain ⟨-, u, -, h⟩ := h
  exact h.blk.c0
theorem PutSt.start (h : StAt S J W w p b q1 q2 k z n d Y) : PutSt S J W p b q1 q2 k z n w.heap.size x Y false w.drew :=
 ⟨by simp, d, h.more ((Keeps.refl _ w).drew) fun c hc => by
  rcases hc with hc | hc
  ·exact .inl hc
  ·simp at hc; omega⟩
end
def ItB (w : World) (B : Nat) : Prop := ∃ c0 c1 c2 c3, w.heap[B]? = some (.cells #[c0, c1, c2, c3] 40 (0, 0))
def Rg (g : Nat) (w w' : World) : Prop := w.heap.size ≤ w'.heap.size ∧ ∀ B, g ≤ B → ItB w B → ItB w' B
theorem Rg.of_kp {g : Nat} {w w' : World} (h : Kp w w') : Rg g w w' := ⟨h.size, fun B _ ⟨c0, c1, c2, c3, hb⟩ => ⟨c0, c1, c2, c3, (h.block B trivial (Array.getElem?_eq_some_iff.1 hb).1).trans hb⟩⟩
def NewIt (g : Nat) (w : World) (v : Value) : Prop := ∃ B, v = .pointer (some ⟨B, 0, none⟩) ∧ g ≤ B ∧ ItB w B
theorem NewIt.keep {g : Nat} {w w' : World} {v : Value} (h : Rg g w w') (hv : NewIt g w v) : NewIt g w' v := by
 obtain ⟨B, e, h1, h2⟩ := hv
 exact ⟨B, e, h1, h.2 B h1 h2⟩
theorem it_info : (Tryz.prog.info? 40).map (·.size) = some 4 := by kernel_rfl
section
variable {o : Oper} {a : Act} {w : World} {Q : Exit → Act → World → Prop} {x y : Operand}
theorem kp_allocI {g : Nat} (hg : g ≤ w.heap.size) (ho : o.op = .alloc 40) : o.wp Tryz.prog a w (fun a' w' => ∃ v, a' = a.put o.dst v ∧ Kp w w' ∧ NewIt g w' v) Q := by
 refine kp_yield (v := .pointer (some ⟨w.heap.size, 0, none⟩)) (w' := w.alloc (.cells #[.string ⟨#[]⟩, .string ⟨#[]⟩, .int .i64 0, .bool false] 40)) ?_ ((Keeps.refl _ w).alloc _) ⟨_, rfl, hg, _, _, _, _, heap_alloc_new w _⟩
 generalize a.eval = ρ
 unfold execOp
 rw [ho]
 go_simp
theorem op_storeI {g B : Nat} {s1 s2 : ByteArray} {n : Int} {t : Bool} (hB : ItB w B) (hg : g ≤ B) (ho : o.op = .store 40 x y) (hx : a.eval x = .pointer (some ⟨B, 0, none⟩)) (hy : a.eval y = .agg #[.string s1, .string s2, .int .i64 n, .bool t]) :
  o.wp Tryz.prog a w (fun a' w' => ∃ v, a' = a.put o.dst v ∧ Rg g w w' ∧ Keeps (fun b => b ≠ B) w w' ∧ w'.heap.size = w.heap.size) Q := by
 obtain ⟨c0, c1, c2, c3, hb⟩ := hB
 have e : (storeVar 40 ⟨B, 0, none⟩ (.agg #[.string s1, .string s2, .int .i64 n, .bool t])).run Tryz.prog w = .ok () (w.setRow B #[.string s1, .string s2, .int .i64 n, .bool t]) :=
  run_store_part (P := Tryz.prog) (w := w) 40 B 0 40 #[c0, c1, c2, c3] [.string s1, .string s2, .int .i64 n, .bool t] hb it_info (Nat.le_refl 4) (by intro v hv; simp only [List.mem_cons, List.not_mem_nil, or_false] at hv; rcases hv with rfl | rfl | rfl | rfl <;> rfl)
 have hy' := hy
 have hh := setRow_heap w B #[c0, c1, c2, c3] #[.string s1, .string s2, .int .i64 n, .bool t] 40 _ hb
 have hk : Keeps (fun b => b ≠ B) w (w.setRow B #[.string s1, .string s2, .int .i64 n, .bool t]) := ⟨rfl, rfl, rfl, by simp, fun b hb _ => setRow_other w B b _ hb⟩
 have hs : (w.setRow B #[.string s1, .string s2, .int .i64 n, .bool t]).heap.size = w.heap.size := by simp
 unfold Oper.wp execOp
 simp only [ho, hx, hy', Instr.storeAt, Instr.sureAddr, Sem.run_bind, Sem.run_pure, Result.andThen_ok, e]
 refine ⟨_, rfl, ⟨Nat.le_of_eq hs.symm, fun B' _ h' => ?_⟩, hk, hs⟩
 by_cases hBB : B' = B
 ·subst hBB
  exact ⟨_, _, _, _, hh.trans rfl⟩
 ·obtain ⟨x0, x1, x2, x3, hx'⟩ := h'
  exact ⟨x0, x1, x2, x3, (hk.block B' hBB (Array.getElem?_eq_some_iff.1 hx').1).trans hx'⟩
end
def graveIt (k : ByteArray) : It := ⟨k, ⟨#[]⟩, 0, true⟩
theorem grave_may (k : ByteArray) : (graveIt k).may = true ↔ keyOk k := by
 unfold graveIt It.may keyOk
 simp
 exact ⟨fun h => h.1.1, fun h => ⟨⟨h, by show 0 ≤ 200; decide⟩, rfl⟩⟩
theorem grave_fits {k : ByteArray} (hk : k.size ≤ 1000000) : (graveIt k).fits := ⟨hk, by show 0 ≤ 1000000; decide, by show -9223372036854775808 ≤ (0 : Int); decide, by show (0 : Int) < 9223372036854775808; decide⟩
theorem may_grave (J : ItemOK) (w : World) (hT : J.T w) (k : ByteArray) (hk : k.size ≤ 1000000) (b : Bool) (hb : (graveIt k).may = b) :
  Calls Tryz.prog 42 #[.agg #[.string k, .string ⟨#[]⟩, .int .i64 0, .bool true]] w fun e w' => e = .returned (.bool b) ∧ Kp w w' := by
 have h := J.may w (graveIt k) hT (grave_fits hk)
 rw [hb] at h
 exact h
def DropAt (S : Slog2) (I : IndexOK) (W w : World) (p q : Nat) (F Fs : Foot) (s : SDev) (st : FSt) (ks : List ByteArray) (k : Nat) (w' : World) : Prop :=
 ∃ (F' Fs' : Foot) (s' : SDev) (g : Nat), Cb S I W w' p q F' Fs' s' ⟨st.place, st.segs, st.ents ++ (ks.take k).map grave, g, st.age + k⟩ ∧ st.gone ≤ g ∧ FGo w w' F F' Fs Fs' s s' st k
def DropPost (S : Slog2) (I : IndexOK) (w : World) (p q : Nat) (F Fs : Foot) (s : SDev) (st : FSt) (ks : List ByteArray) (e : Ending) (w' : World) : Prop :=
 e = .returned (.int .i64 0) ∧ ∃ (F' Fs' : Foot) (rows : List (List UInt8)) (k g : Nat), DAt w' p F' (SDev.still rows k) ∧ flashRep S I w' p q Fs' ⟨st.place, st.segs, st.ents ++ ks.map grave, g, st.age + ks.length + 1⟩ (SDev.still rows k) ∧ flashDisk S ⟨st.place, st.segs, st.ents ++ ks.map grave, g, st.age + ks.length + 1⟩ rows ∧ st.gone ≤ g ∧ FGo w w' F F' Fs Fs' s (SDev.still rows k) st (ks.length + 1)
section
variable {S : Slog2} {I : IndexOK} {W w w1 : World} {p q : Nat} {F Fs : Foot} {s : SDev} {st : FSt} {ks : List ByteArray}
theorem DropAt.start (hb : Cb S I W w p q F Fs s st) (hk : Kp w w1) : DropAt S I W w p q F Fs s st ks 0 w1 :=
 ⟨F, Fs, s, st.gone, by simpa using hb.keep hk, Nat.le_refl _, FGo.still hb hk⟩
theorem DropAt.row {k : Nat} (h : DropAt S I W w p q F Fs s st ks k w1) {A : Option Addr} {xs : List Value} (hr : Row w A (fun b => ¬ F.all b ∧ ¬ Fs.all b) xs) : Row w1 A (fun b => ¬ F.all b ∧ ¬ Fs.all b) xs := by
 obtain ⟨F', Fs', s', g, hb, hg, hgo⟩ := h
 exact hr.keep (hgo.k.mono fun b _ hb => ⟨fun hm => hb.1 (.inl hm), fun hm => hb.2 (.inl hm)⟩)
theorem DropAt.kp {k : Nat} (h : DropAt S I W w p q F Fs s st ks k w1) : Kp W w1 := by
 obtain ⟨F', Fs', s', g, hb, hg, hgo⟩ := h
 exact hb.kp
theorem DropAt.step (J : ItemOK) (hT : S.T W ∧ I.T W ∧ J.T W) {k : Nat} (h : DropAt S I W w p q F Fs s st ks k w1) (hk : k < ks.length) (hl : ks.length ≤ 1000) (hage : st.age ≤ 20000) (hcl : s.calls ≤ 500000000000) (hok : keyOk ks[k]) {w2 : World} (hk2 : Kp w1 w2)
  (A : Option Addr) (n c : Nat) (hrow : Row w2 A (fun b => w1.heap.size ≤ b) (bcells (bodyO (some (graveIt ks[k]))))) (hn : n = (bodyO (some (graveIt ks[k]))).length) (hlc : n ≤ c) (hcm : c ≤ maxLen) :
  Calls Tryz.prog 44 #[.pointer (some ⟨q, 0, none⟩), .slice A n c] w2 fun e w3 => e = .returned (.int .i64 0) ∧ DropAt S I W w p q F Fs s st ks (k + 1) w3 := by
 obtain ⟨F', Fs', s', g, hb, hg, hgo⟩ := h
 have hc := hgo.calls
 refine (cadd2 S I J W w1 hT p q F' Fs' s' _ hb (by show st.age + k ≤ 25000; omega) (by omega) (some (graveIt ks[k])) (fun x hx => by cases hx; exact (grave_may _).2 hok) w2 hk2 A n c hrow hn hlc hcm).mono ?_
 rintro e w3 ⟨rfl, F2, Fs2, s2, g2, hg2, hd2, hr2, hgo2⟩
 refine ⟨rfl, F2, Fs2, s2, g2, ?_, Nat.le_trans hg hg2, hgo.trans hgo2 fun _ => Iff.rfl⟩
 have hb2 := hb.next hd2 hr2 hgo2
 have e : nextF ⟨st.place, st.segs, st.ents ++ (ks.take k).map grave, g, st.age + k⟩ (some (graveIt ks[k])) g2 = ⟨st.place, st.segs, st.ents ++ (ks.take (k + 1)).map grave, g2, st.age + (k + 1)⟩ := by
  rw [List.take_succ_eq_append_getElem hk, List.map_append, ← List.append_assoc]
  rfl
 rw [e] at hb2
 exact hb2
theorem DropAt.done (hT : S.T W) (h : DropAt S I W w p q F Fs s st ks ks.length w1) (hl : ks.length ≤ 1000) (hage : st.age ≤ 20000) (hcl : s.calls ≤ 500000000000) :
  Calls Tryz.prog 20 #[.pointer (some ⟨q, 0, none⟩)] w1 fun e w2 => e = .returned (.int .i64 0) ∧ DropPost S I w p q F Fs s st ks (.returned (.int .i64 0)) w2 := by
 obtain ⟨F', Fs', s', g, hb, hg, hgo⟩ := h
 have hc := hgo.calls
 refine (cflush S I W w1 hT p q F' Fs' s' _ hb (by omega)).mono ?_
 rintro e w2 ⟨rfl, F2, Fs2, rows, k, hd2, hr2, hgo2⟩
 obtain ⟨h1, h2⟩ := hr2 (st.age + ks.length + 1) (Nat.le_succ _) (by omega)
 rw [List.take_length] at h1 h2 hb
 exact ⟨rfl, rfl, F2, Fs2, rows, k, g, hd2, h1, h2, hg, hgo.trans hgo2 fun _ => Iff.rfl⟩
end
set_option maxRecDepth 100000 in
set_option maxHeartbeats 2000000 in
theorem cdrop (S : Slog2) (I : IndexOK) (J : ItemOK) (W w : World) (hT : S.T W ∧ I.T W ∧ J.T W) (p q : Nat) (F Fs : Foot) (s : SDev) (st : FSt) (hb : Cb S I W w p q F Fs s st) (hage : st.age ≤ 20000) (hcl : s.calls ≤ 500000000000)
  (A : Option Addr) (c : Nat) (ks : List ByteArray) (hrow : Row w A (fun b => ¬ F.all b ∧ ¬ Fs.all b) (ks.map Value.string)) (_hlc : ks.length ≤ c) (_hcm : c ≤ maxLen) (hl : ks.length ≤ 1000) (hok : ∀ k ∈ ks, keyOk k) :
  Calls Tryz.prog 47 #[.pointer (some ⟨q, 0, none⟩), .slice A ks.length c] w (DropPost S I w p q F Fs s st ks) := by
 have HDN := Lib.hid (show Calls Tryz.prog 41 #[.pointer (some ⟨q, 0, none⟩)] w (fun e w' => e = .returned (.bool false) ∧ w = w') from by
  obtain ⟨lq, iq, Fl, Fi, lo, lst, ix, hs, rfl, hc, -⟩ := hb.r
  exact cdown w q lq hc.blk.c0)
 have HROW := Lib.hid hrow
 have HJ := Lib.hid (show ∀ w1, Kp w w1 → J.T w1 from fun w1 hk => J.tk hT.2.2 (hb.kp.trans hk))
 have HJW := Lib.hid hT.2.2
 have HOK := Lib.hid hok
 have HST := Lib.hid (show ∀ w1, Kp w w1 → DropAt S I W w p q F Fs s st ks 0 w1 from fun w1 hk => DropAt.start hb hk)
 have HSP := Lib.hid (show ∀ k w1, DropAt S I W w p q F Fs s st ks k w1 → ∀ (hk : k < ks.length) w2, Kp w1 w2 → ∀ (A : Option Addr) (n c : Nat), Row w2 A (fun b => w1.heap.size ≤ b) (bcells (bodyO (some (graveIt ks[k])))) → n = (bodyO (some (graveIt ks[k]))).length → n ≤ c → c ≤ maxLen → _ from fun k w1 h hk w2 hk2 A n c hr hn h1 h2 => h.step J hT hk hl hage hcl (hok _ (List.getElem_mem hk)) hk2 A n c hr hn h1 h2)
 have HFL := Lib.hid (show ∀ w1, DropAt S I W w p q F Fs s st ks ks.length w1 → _ from fun w1 h => h.done hT.1 hl hage hcl)
 have hlm : ks.length ≤ 1000 := hl
 clear hb hage hcl hrow hok hl
 unfold maxLen at _hcm
 go_enter Tryz.func47, Tryz.ntmps47
 go_wp2_with fail
 refine (show Calls _ _ _ _ _ from HDN.out).mono ?_
 rintro e w' ⟨rfl, rfl⟩
 go_wp2_with fail
 go_loopw [14] (fun i wr => ∃ k, k ≤ ks.length ∧ i = .int .i64 k ∧ RowKit.Hid (Kp w wr)) (fun i _ => ks.length - (intOf i).toNat)
 case atStart => exact ⟨0, Nat.zero_le _, rfl, Lib.hid (Keeps.refl _ _)⟩
 case round =>
  obtain ⟨k, hk, rfl, hkp⟩ := hrel
  by_cases hlt : k < ks.length
  ·have t1 : decide ((k : Int) < (ks.length : Int)) = true := by simp; omega
   obtain ⟨b, o, rfl, -, hcell⟩ := (HROW.out.keep (hkp.out.mono fun _ _ _ => trivial)).at_ (k := k) (by simpa using hlt)
   rw [List.getElem_map] at hcell
   have hkok := HOK.out _ (List.getElem_mem hlt)
   have HKB := Lib.hid hkok
   have HGN := Lib.hid (cgone wr ks[k])
   have HMY := Lib.hid (show ∀ w1, Kp wr w1 → _ from fun w1 (hk1 : Kp wr w1) => may_grave J w1 (HJ.out w1 (hkp.out.trans hk1)) ks[k] (by have := hkok.2; omega) true ((grave_may _).2 hkok))
   clear hkok
   generalize ks[k] = key at hcell HGN HMY HKB
   go_wp2_with fail
   refine (show Calls _ _ _ _ _ from HGN.out).mono ?_
   rintro e w1 ⟨rfl, hk1⟩
   have HK1 := Lib.hid hk1
   clear hk1
   go_wp2_with fail
   refine (show Calls _ _ _ _ _ from HMY.out w1 HK1.out).mono ?_
   rintro e w2 ⟨rfl, hk2⟩
   have HK2 := Lib.hid (hkp.out.trans (HK1.out.trans hk2))
   clear hk2 hcell
   go_wp2_with fail
   go_roundw
   case rel => exact ⟨k + 1, by omega, by go_num, HK2⟩
   case measure => simp [intOf]; omega
  ·have t1 : decide ((k : Int) < (ks.length : Int)) = false := by simp; omega
   have t2 : decide (k < ks.length) = false := by simp; omega
   clear hlt
   have HD0 := Lib.hid (HST.out wr hkp.out)
   go_wp2_with fail
   go_loopw [25] (fun i wr => ∃ k, k ≤ ks.length ∧ i = .int .i64 k ∧ RowKit.Hid (DropAt S I W w p q F Fs s st ks k wr)) (fun i _ => ks.length - (intOf i).toNat)
   case atStart => exact ⟨0, Nat.zero_le _, rfl, HD0⟩
   case round =>
    obtain ⟨k, hk, rfl, hd⟩ := hrel
    by_cases hlt : k < ks.length
    ·have t1 : decide ((k : Int) < (ks.length : Int)) = true := by simp; omega
     obtain ⟨b, o, rfl, -, hcell⟩ := (hd.out.row HROW.out).at_ (k := k) (by simpa using hlt)
     rw [List.getElem_map] at hcell
     have hkok := HOK.out _ (List.getElem_mem hlt)
     have HGN := Lib.hid (cgone wr ks[k])
     have HEN := Lib.hid (show ∀ w1, Kp wr w1 → ∀ b, ItsAt w1 (some ⟨b, 0, none⟩) (fun _ => True) [graveIt ks[k]] → _ from fun w1 (hk1 : Kp wr w1) b hA => enc_one J w1 (J.tk HJW.out (hd.out.kp.trans hk1)) (graveIt ks[k]) ((grave_may _).2 hkok) b hA)
     have HAD := Lib.hid (HSP.out k wr hd.out hlt)
     clear hkok
     generalize ks[k] = key at hcell HGN HEN HAD
     go_wp2_with fail
     refine (show Calls _ _ _ _ _ from HGN.out).mono ?_
     rintro e w1 ⟨rfl, hk1⟩
     have hit := ItsAt.fresh w1 #[.string key, .string ⟨#[]⟩, .int .i64 0, .bool true] 40 (0, 0) w1.heap.size rfl (F := fun _ => True) trivial [graveIt key] rfl
     have hka : Kp wr (w1.alloc (.cells #[.string key, .string ⟨#[]⟩, .int .i64 0, .bool true] 40)) := hk1.alloc _
     have HIT := Lib.hid hit
     have HKA := Lib.hid hka
     clear hit hka hk1 hcell
     go_wp2_with fail
     refine (show Calls _ _ _ _ _ from HEN.out _ HKA.out _ HIT.out).mono ?_
     rintro e w3 ⟨B, n, kk, rfl, hn, hnk, hkm, hrow, hk3⟩
     have HA3 := Lib.hid (HAD.out w3 (HKA.out.trans hk3) B n kk (hrow.mono fun b _ hb => Nat.le_trans HKA.out.size hb) hn hnk hkm)
     clear hn hnk hkm hrow hk3 HKA HIT HEN HAD HGN
     go_wp2_with fail
     refine (show Calls _ _ _ _ _ from HA3.out).mono ?_
     rintro e w4 ⟨rfl, hd4⟩
     have HD4 := Lib.hid hd4
     clear hd4 HA3
     go_wp2_with fail
     go_roundw
     case rel => exact ⟨k + 1, by omega, by go_num, HD4⟩
     case measure => simp [intOf]; omega
    ·have t1 : decide ((k : Int) < (ks.length : Int)) = false := by simp; omega
     have t2 : decide (k < ks.length) = false := by simp; omega
     obtain rfl : k = ks.length := by omega
     have HF := Lib.hid (HFL.out wr hd.out)
     clear hlt
     go_wp2_with fail
     refine (show Calls _ _ _ _ _ from HF.out).mono ?_
     rintro e w2 ⟨rfl, hp⟩
     go_wp2_with fail
     go_ret
     exact hp
def mkC (sq : Nat) : List ByteArray → List Value
 | [] => []
 | k :: l => .int .i64 ((sq + 1 : Nat) : Int) :: .string k :: mkC (sq + 1) l
theorem mkC_snoc (sq : Nat) (l : List ByteArray) (k : ByteArray) : mkC sq (l ++ [k]) = mkC sq l ++ [.int .i64 ((sq + l.length + 1 : Nat) : Int), .string k] := by
 induction l generalizing sq with
 | nil => rfl
 | cons a l ih =>
  show _ :: _ :: mkC (sq + 1) (l ++ [k]) = _ :: _ :: (mkC (sq + 1) l ++ _)
  rw [ih, List.length_cons, show sq + 1 + l.length + 1 = sq + (l.length + 1) + 1 by omega]
theorem mkC_at (sq : Nat) (l : List ByteArray) (j : Nat) (hj : j < l.length) : (mkC sq l)[j * 2]? = some (.int .i64 ((sq + j + 1 : Nat) : Int)) ∧ (mkC sq l)[j * 2 + 1]? = some (.string l[j]) := by
 induction l generalizing sq j with
 | nil => simp at hj
 | cons a l ih =>
  cases j with
  | zero => exact ⟨rfl, rfl⟩
  | succ j =>
   have h := ih (sq + 1) j (by simpa using hj)
   rw [show sq + (j + 1) + 1 = sq + 1 + j + 1 by omega, show (j + 1) * 2 = j * 2 + 2 by omega]
   exact h
theorem mark_elem : Elem Tryz.prog 68 72 (.agg #[.int .i64 0, .string ⟨#[]⟩]) 2 24 := ⟨Tryz.underlying68, by kernel_rfl, rfl, by decide⟩
theorem MarksAt.of_own {w : World} {A : Option Addr} {base n c sq : Nat} {l : List ByteArray} {e : TypeId} (h : w.ownsRow base e 2 (.slice A n c) n (mkC sq l)) (hn : n = l.length) : MarksAt w A (fun b => base ≤ b ∧ b < w.heap.size) sq l := fun i hi => by
 obtain ⟨g, cap, e, hb, -⟩ := h.form (by omega : 0 < n)
 injection e with e1 e2 e3
 subst e1
 have hc := h.cells (g := g) rfl
 have c0 := hc (i * 2) _ (mkC_at sq l i hi).1
 have c1 := hc (i * 2 + 1) _ (mkC_at sq l i hi).2
 rw [WideShapes.add_plain] at c0 c1
 exact ⟨g, 0, rfl, h.lt g rfl, c0, c1⟩
theorem src_mark (w : World) (n : Int) (k : ByteArray) (b : Nat) (hb : b = w.heap.size) (c : Nat) (t : TypeId) : Src Tryz.prog 2 68 (.slice (some ⟨b, 0, none⟩) 1 c) 1 [.int .i64 n, .string k] (w.alloc (.cells #[.int .i64 n, .string k] t)) := by
 subst hb
 refine Src.ofSlice _ Tryz.underlying68 _ 1 c _ rfl (fun j u hu => ?_) (fun u hu => ?_)
 ·have hb := heap_alloc_new w (.cells #[.int .i64 n, .string k] t)
  rw [WideShapes.add_plain]
  match j, hu with
  | 0, hu => cases hu; exact (cell_of_block hb 0).trans rfl
  | 1, hu => cases hu; exact (cell_of_block hb 1).trans rfl
  | j + 2, hu => simp at hu
 ·rcases List.mem_cons.1 hu with rfl | hu
  ·rfl
  ·rw [List.mem_singleton.1 hu]; rfl
theorem own_form2 {w : World} {base n : Nat} {e : TypeId} {v : Value} {xs : List Value} (h : w.ownsRow base e 2 v n xs) : ∃ A c, v = .slice A n c ∧ n ≤ c ∧ c ≤ maxLen := by
 rcases h.2 with ⟨rfl, h0⟩ | ⟨g, cap, cur, rfl, hb, hg, h1, h2, r⟩
 ·exact ⟨none, 0, by rw [h0], by omega, Nat.zero_le _⟩
 ·exact ⟨_, _, rfl, h1, h2⟩
set_option maxRecDepth 100000 in
set_option maxHeartbeats 1000000 in
theorem jfind (S : Slog2) (w : World) (hT : S.T w) (p q lq : Nat) (F Fl : Foot) (s : SDev) (lst : LSt) (hd : DAt w p F s) (hl : S.rep w lq Fl lst s) (hon : lst.dev = p) (hal : Apart F Fl) (hroom : lst.place + 8 * lst.segs ≤ s.now.length)
  (c0 : w.cell? ⟨q, 0, none⟩ = some (.pointer (some ⟨lq, 0, none⟩))) (x n : Nat) (k : ByteArray) (hrec : (x, markB n k) ∈ lst.recs) (hn1 : 1 ≤ n) (hn : n ≤ 40000) (hk : keyOk k) :
  Calls Tryz.prog 62 #[.pointer (some ⟨q, 0, none⟩), .int .i64 (x : Int)] w fun e w' => e = .returned (.tuple #[.agg #[.int .i64 (n : Int), .string k], .bool true]) ∧ Kp w w' := by
 obtain ⟨w0, hw0⟩ : ∃ w0, w.alloc (.cells #[.int .i64 0, .string ⟨#[]⟩] 72) = w0 := ⟨_, rfl⟩
 have HW0 := Lib.hid hw0
 have hb0 : w0.heap[w.heap.size]? = some (.cells #[.int .i64 0, .string ⟨#[]⟩] 72 (0, 0)) := by rw [← hw0]; exact heap_alloc_new w _
 have hk0 : Kp w w0 := by rw [← hw0]; exact (Keeps.refl _ w).alloc _
 have hz0 : w.heap.size < w0.heap.size := by rw [← hw0]; simp
 have HB0 := Lib.hid hb0
 have HK0 := Lib.hid hk0
 have HZ0 := Lib.hid hz0
 have d0 := hk0.cell c0 trivial
 have HRD := Lib.hid (show Calls Tryz.prog 85 #[.pointer (some ⟨lq, 0, none⟩), .int .i64 (x : Int)] w0 fun e w' => ∃ A m c, e = .returned (.tuple #[.slice A m c, .int .i64 0]) ∧ m = (markB n k).length ∧ m ≤ c ∧ c ≤ maxLen ∧ Row w' A (fun _ => True) (bcells (markB n k)) ∧ Kp w0 w' from by
  refine (S.read w0 p lq F Fl s lst (hd.keep (hk0.mono fun _ _ _ => trivial)) (S.keep hl (hk0.mono fun _ _ _ => trivial)) hon hal (S.tk hT hk0) hroom x (markB n k) hrec).mono ?_
  rintro e w' ⟨A, c, rfl, h1, h2, h3, -, h4⟩
  exact ⟨A, _, c, rfl, rfl, h1, h2, h3.mono fun _ _ _ => trivial, h4⟩)
 have HDE := Lib.hid (show ∀ w1 (A : Option Addr) (m c : Nat), Row w1 A (fun _ => True) (bcells (markB n k)) → m = (markB n k).length → m ≤ c → c ≤ maxLen → _ from fun w1 A m c hr hm h1 h2 => jdecode w1 A m c n k hr hm h1 h2 hn1 hn hk)
 clear hd hl hon hal hroom c0 hrec hk0 hb0 hz0 hw0 hT
 go_enter Tryz.func62, Tryz.ntmps62
 go_wp2_with (rw [HW0.out])
 try rw [HW0.out]
 refine (show Calls _ _ _ _ _ from HRD.out).mono ?_
 rintro e w2 ⟨A, m, c, rfl, hm, h1, h2, h3, hk2⟩
 have HK2 := Lib.hid hk2
 have HE2 := Lib.hid (HDE.out w2 A m c h3 hm h1 h2)
 clear hk2 hm h1 h2 h3 d0 HRD HDE
 go_wp2_with fail
 refine (show Calls _ _ _ _ _ from HE2.out).mono ?_
 rintro e w3 ⟨rfl, hk3⟩
 have hk30 := HK2.out.trans hk3
 have hb1 := (hk30.block w.heap.size trivial HZ0.out).trans HB0.out
 have HRES := res2 w w3 hb1 (HK0.out.trans hk30)
 obtain ⟨f0, f1, r0, r1⟩ := res2u w w3 hb1
 clear hb1 hk3 hk30
 obtain ⟨e0, e1, HK⟩ := HRES.out (.int .i64 (n : Int)) (.string k)
 have HKK := Lib.hid HK
 clear HK
 go_wp2_with fail
 exact bodyPost_ret (v := .tuple #[.agg #[.int .i64 (n : Int), .string k], .bool true]) (by simp [results, Tryz.results62, go_sem, e0, e1]) rfl ⟨rfl, HKK.out⟩
end Go.Proofs.YticophaepapjoaaGreatDoor
