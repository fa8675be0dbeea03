/-
  StorePartsWalk: texts of mine, joined.
-/
import Derived.Test.YticophaepapjoaaGreatDoorAllB36
import Derived.BigQuiet
import Derived.Deep.QuietTactic
open Go.Lib renaming hid → Hd
set_option maxRecDepth 100000
set_option maxHeartbeats 8000000
namespace Go.Proofs.YticophaepapjoaaGreatDoor.storeParts
open Go Go.RowKit Go.Joins
def VE (b q1 q2 k bx : Nat) (_B9 _B10 : Nat) (y v : It) (r mb gb fb : Bool) (pe ff nn ln bs : Int) (ks : List ByteArray) : List Kd := [
 .is (.int .i64 pe), .is (.bool (mb && !gb)), .is (.agg #[.string y.key, .string y.val, .int .i64 y.till, .bool y.gone]), .is (.bool mb), .is (.bool mb), cond mb (.is (.pointer (some ⟨bx, 3, none⟩))) (.is undef),
 cond mb (.is (.bool gb)) (.is undef), cond mb (.is (.bool (!gb))) (.is undef), .is (.bool (mb && !gb)), .is (.bool true), .is (.bool true), .is (.bool r),
 .is (.bool r), .is (.bool true), .is (.bool true), .is (.bool true), .is (.agg #[.string v.key, .string v.val, .int .i64 v.till, .bool v.gone]), .is (.agg #[.string v.key, .string v.val, .int .i64 v.till, .bool v.gone]),
 .is (.bool true), .is (.bool true), .is (.bool true), .is (.pointer (some ⟨b, 0, none⟩)), .is (.pointer (some ⟨b, 0, none⟩)), .is (.pointer (some ⟨b, 0, none⟩)),
 .is (.pointer (some ⟨q1, 0, none⟩)), .txts ks, .is (.pointer (some ⟨b, 0, none⟩)), .is (.pointer (some ⟨b, 0, none⟩)), .is (.pointer (some ⟨b, 0, none⟩)), .is (.pointer (some ⟨q1, 0, none⟩)),
 .txts ks, .is (.bool true), .is (.bool true), .is (.bool true), .is (.pointer (some ⟨b, 0, none⟩)), .is (.pointer (some ⟨b, 0, none⟩)),
 .is (.pointer (some ⟨b, 1, none⟩)), .is (.pointer (some ⟨q2, 0, none⟩)), .is (.int .i64 ln), .is (.pointer (some ⟨b, 0, none⟩)), .is (.pointer (some ⟨b, 0, none⟩)), .is (.pointer (some ⟨b, 1, none⟩)),
 .is (.pointer (some ⟨q2, 0, none⟩)), .is (.int .i64 ln), .is (.bool true), .is (.bool true), .is (.bool true), .is (.pointer (some ⟨b, 0, none⟩)),
 .is (.pointer (some ⟨b, 0, none⟩)), .is (.pointer (some ⟨b, 1, none⟩)), .is (.pointer (some ⟨q2, 0, none⟩)), .is (.int .i64 bs), .is (.pointer (some ⟨b, 0, none⟩)), .is (.pointer (some ⟨b, 0, none⟩)),
 .is (.pointer (some ⟨b, 1, none⟩)), .is (.pointer (some ⟨q2, 0, none⟩)), .is (.int .i64 bs), .is (.bool true), .is (.bool true), .is (.bool true),
 .is (.pointer (some ⟨b, 0, none⟩)), .is (.pointer (some ⟨b, 0, none⟩)), .is (.pointer (some ⟨b, 2, none⟩)), .is (.pointer (some ⟨k, 0, none⟩)), .is (.agg #[.int .i64 1, .int .i64 0, .int .i64 0, .bool false]), .is (.int .i64 1),
 .is (.pointer (some ⟨b, 0, none⟩)), .is (.pointer (some ⟨b, 0, none⟩)), .is (.pointer (some ⟨b, 2, none⟩)), .is (.pointer (some ⟨k, 0, none⟩)), .is (.agg #[.int .i64 1, .int .i64 0, .int .i64 0, .bool false]), .is (.int .i64 1),
 .is (.bool true), .is (.bool true), .is (.bool true), .is (.int .i64 ff), .is (.bool fb), .is (.bool fb),
 cond fb (.is (.int .i64 nn)) (.is undef), cond fb (.is (.pointer (some ⟨b, 0, none⟩))) (.is undef), cond fb (.is (.pointer (some ⟨b, 0, none⟩))) (.is undef), cond fb (.is (.pointer (some ⟨b, 1, none⟩))) (.is undef), cond fb (.is (.pointer (some ⟨q2, 0, none⟩))) (.is undef), cond fb (.is (.int .i64 ln)) (.is undef),
 cond fb (.is (.bool true)) (.is undef), .is (.bool fb), .is (.bool fb), cond fb (.is undef) (.is (.int .i64 ff)), cond fb (.is undef) (.is (.bool true)), cond fb (.is undef) (.is (.bool true)),
 cond fb (.is undef) (.is (.pointer (some ⟨b, 0, none⟩))), cond fb (.is undef) (.is (.pointer (some ⟨b, 0, none⟩))), cond fb (.is undef) (.is (.pointer (some ⟨b, 1, none⟩))), cond fb (.is undef) (.is (.pointer (some ⟨q2, 0, none⟩))), cond fb (.is undef) (.is (.int .i64 ln)), cond fb (.is undef) (.is (.bool true)),
 cond fb (.is undef) (.is (.bool true)), .is (.bool true), .is (.bool true), .is (.bool true)]
def GE (mb fb : Bool) : Nat → Option Bool
 | 4 => some mb
 | 10 => some true
 | 15 => some true
 | 20 => some true
 | 33 => some true
 | 46 => some true
 | 59 => some true
 | 74 => some true
 | 77 => some fb
 | 86 => some fb
 | 89 => cond fb none (some true)
 | _ => none
theorem GE_is (b q1 q2 k bx B9 B10 : Nat) (y v : It) (r mb gb fb : Bool) (pe ff nn ln bs : Int) (ks : List ByteArray) (g : Nat) (c : Bool) (h : GE mb fb g = some c) (w : World) (u : Value) (hv : ((VE b q1 q2 k bx B9 B10 y v r mb gb fb pe ff nn ln bs ks).getD g (.is undef)).V w u) : u = .bool c := by
 unfold GE at h
 split at h
 all_goals first
  | (cases h; exact hv)
  | (cases fb <;> first | (cases h; exact hv) | cases h)
def PS (S : FlashOK) (J : JournalOK) (W : World) (p b q1 q2 k : Nat) (y : It) (z : Sto) (X : Nat → Prop) (A : Option Addr) (xs : List Value) (bx : Nat) : Bool → World → Prop
 | false, w => StAt S J W w p b q1 q2 k z 300 1 X ∧ X bx ∧ w.heap[bx]? = some (itC y) ∧ Row w A X xs
 | true, w => ∃ z', One S J W w p b q1 q2 k y z' X ∧ X bx ∧ w.heap[bx]? = some (itC y) ∧ Row w A X xs
section
variable {S : FlashOK} {J : JournalOK} {W w w' : World} {p b q1 q2 k bx : Nat} {y : It} {z : Sto} {X : Nat → Prop} {A : Option Addr} {xs : List Value} {t : Bool}
theorem PS.keep (hk : Kp w w') (h : PS S J W p b q1 q2 k y z X A xs bx t w) : PS S J W p b q1 q2 k y z X A xs bx t w' := by
 cases t
 ·obtain ⟨h1, h2, h3, h4⟩ := h
  exact ⟨h1.keep hk, h2, (hk.block bx trivial (Array.getElem?_eq_some_iff.1 h3).1).trans h3, h4.keep (hk.mono fun _ _ _ => trivial)⟩
 ·obtain ⟨z', h1, h2, h3, h4⟩ := h
  exact ⟨z', ⟨h1.1.keep hk, h1.2⟩, h2, (hk.block bx trivial (Array.getElem?_eq_some_iff.1 h3).1).trans h3, h4.keep (hk.mono fun _ _ _ => trivial)⟩
theorem PS.c0 (h : PS S J W p b q1 q2 k y z X A xs bx t w) : w.cell? ⟨b, 0, none⟩ = some (.pointer (some ⟨q1, 0, none⟩)) := by
 cases t
 ·exact h.1.blk.c0
 ·obtain ⟨z', h1, -⟩ := h
  exact h1.1.blk.c0
theorem PS.blk (h : PS S J W p b q1 q2 k y z X A xs bx t w) : w.heap[bx]? = some (itC y) := by
 cases t
 ·exact h.2.2.1
 ·obtain ⟨z', -, -, h3, -⟩ := h
  exact h3
end
theorem walk (S : FlashOK) (J : JournalOK) (w : World) (hS : S.T w) (hJ : J.T w) (hT : theSup.T w) (x : It) (hx : x.key.size ≤ maxLen ∧ x.val.size ≤ maxLen ∧ -9223372036854775808 ≤ x.till ∧ x.till < 9223372036854775808) (L : Option Addr) (lc : Nat) (l : List ByteArray) (hlc : l.length ≤ lc) (hlm : lc ≤ maxLen) (hL : Row w L (fun b => b < w.heap.size) (l.map Value.string)) (hLs : ∀ s ∈ l, s.size ≤ maxLen) :
  Calls Tryz.prog 4 #[.agg #[.string x.key, .string x.val, .int .i64 x.till, .bool x.gone], .slice L l.length lc] w fun e w' => e = .returned (.bool true) ∧ Below w.heap.size w w' := by
 have HS := Hd hS
 have HJ := Hd hJ
 have HT := Hd hT
 have HCUT := Hd (show ∀ w1, Calls Tryz.prog 13 #[.agg #[.string x.key, .string x.val, .int .i64 x.till, .bool x.gone]] w1 fun e w' => e = .returned (.agg #[.string x.cut.key, .string x.cut.val, .int .i64 x.cut.till, .bool x.cut.gone]) ∧ Kp w1 w' from fun w1 => law_cut w1 x hx.1 hx.2.1)
 have HFIT := Hd (x.cut_fits hx.2.2.1 hx.2.2.2)
 have HTX := Hd (show ∀ w1, Kp w w1 → _ from fun w1 hk => texts3 w1 L lc l hlc hlm ((hL.keep (hk.mono fun _ _ _ => trivial)).mono fun b _ hb => Nat.lt_of_lt_of_le hb hk.size) hLs)
 have HC3 := Hd (show (cuts3 l).length ≤ 3 ∧ ∀ s ∈ cuts3 l, s.size ≤ 45 from ⟨by rw [cuts3_len]; omega, cuts3_size l⟩)
 generalize x.cut = y at HCUT HFIT
 generalize cuts3 l = M at HTX HC3
 obtain ⟨k0, v0, t0, g0⟩ := x
 obtain ⟨ll, hll⟩ : ∃ ll, l.length = ll := ⟨_, rfl⟩
 rw [hll] at HTX ⊢
 have hlm2 : ll ≤ 9223372036854775807 := by unfold maxLen at hlm; omega
 clear hS hJ hT hx hlc hlm hL hLs hll
 have HCUT2 := Hd (show ∀ w1, Calls Tryz.prog 13 #[.agg #[.string k0, .string v0, .int .i64 t0, .bool g0]] w1 fun e w' => e = .returned (.agg #[.string y.key, .string y.val, .int .i64 y.till, .bool y.gone]) ∧ Kp w1 w' from HCUT.out)
 clear HCUT
 go_enter Tryz.func4, Tryz.ntmps4
 go_wp2_with fail
 have hk0 : Kp w (w.alloc (.cells #[.string k0, .string v0, .int .i64 t0, .bool g0] 40)) := (Keeps.refl _ w).alloc _
 have hb0 := heap_alloc_new w (.cells #[.string k0, .string v0, .int .i64 t0, .bool g0] 40)
 have K0 := Hd hk0
 have HB0 := Hd hb0
 obtain ⟨bx, hbx⟩ : ∃ bx, w.heap.size = bx := ⟨_, rfl⟩
 have HBX := Hd hbx
 rw [hbx] at HB0 ⊢
 clear hk0 hb0 hbx
 generalize w.alloc (.cells #[.string k0, .string v0, .int .i64 t0, .bool g0] 40) = w0 at *
 refine (show Calls _ _ _ _ _ from begun21 S J w0 (S.tk HS.out K0.out) (J.tk HJ.out K0.out) (theSup.tk HT.out K0.out)).mono ?_
 rintro e w1 ⟨rfl, hk⟩
 have HB1 := Hd ((hk.block bx trivial (Array.getElem?_eq_some_iff.1 HB0.out).1).trans HB0.out)
 have K1 := Hd (K0.out.trans hk)
 have c0 : w1.cell? ⟨bx, 0, none⟩ = some (.string k0) := (cell_of_block HB1.out 0).trans rfl
 have c1 : w1.cell? ⟨bx, 1, none⟩ = some (.string v0) := (cell_of_block HB1.out 1).trans rfl
 have c2 : w1.cell? ⟨bx, 2, none⟩ = some (.int .i64 t0) := (cell_of_block HB1.out 2).trans rfl
 have c3 : w1.cell? ⟨bx, 3, none⟩ = some (.bool g0) := (cell_of_block HB1.out 3).trans rfl
 clear hk HB0 K0
 go_wp2_with fail
 refine (show Calls _ _ _ _ _ from HCUT2.out w1).mono ?_
 rintro e w2 ⟨rfl, hk⟩
 have HB2 := Hd ((hk.block bx trivial (Array.getElem?_eq_some_iff.1 HB1.out).1).trans HB1.out)
 have K2 := Hd (K1.out.trans hk)
 clear hk HB1 K1 HCUT2 c0 c1 c2 c3
 go_wp2_with fail
 refine (show Calls _ _ _ _ _ from HTX.out w2 K2.out).mono ?_
 rintro e w3 ⟨A, c, rfl, h1, h2, hr, hk⟩
 have HB3 := Hd ((hk.block bx trivial (Array.getElem?_eq_some_iff.1 HB2.out).1).trans HB2.out)
 have HLT := Hd (Nat.lt_of_lt_of_le (Array.getElem?_eq_some_iff.1 HB2.out).1 hk.size)
 have HNE := Hd (show ∀ b, w2.heap.size ≤ b → b ≠ bx from fun b hb e => by have := (Array.getElem?_eq_some_iff.1 HB2.out).1; omega)
 have K3 := Hd (K2.out.trans hk)
 have HR := Hd hr
 have HC := Hd (And.intro h1 h2)
 have d0 : w3.cell? ⟨bx, 0, none⟩ = some (.string k0) := (cell_of_block HB3.out 0).trans rfl
 have d1 : w3.cell? ⟨bx, 1, none⟩ = some (.string v0) := (cell_of_block HB3.out 1).trans rfl
 have d2 : w3.cell? ⟨bx, 2, none⟩ = some (.int .i64 t0) := (cell_of_block HB3.out 2).trans rfl
 have d3 : w3.cell? ⟨bx, 3, none⟩ = some (.bool g0) := (cell_of_block HB3.out 3).trans rfl
 have f0 := unfrozen_of_block HB3.out 0
 have f1 := unfrozen_of_block HB3.out 1
 have f2 := unfrozen_of_block HB3.out 2
 have f3 := unfrozen_of_block HB3.out 3
 clear hk h1 h2 hr HB2 K2 HTX
 go_wp2_with fail
 have hk4 : Kp w ((((w3.setCell ⟨bx, 0, none⟩ (.string y.key)).setCell ⟨bx, 1, none⟩ (.string y.val)).setCell ⟨bx, 2, none⟩ (.int .i64 y.till)).setCell ⟨bx, 3, none⟩ (.bool y.gone)) := by
  have e := HBX.out
  exact (((K3.out.setCell (.inl (by show w.heap.size ≤ bx; omega)) _).setCell (.inl (by show w.heap.size ≤ bx; omega)) _).setCell (.inl (by show w.heap.size ≤ bx; omega)) _).setCell (.inl (by show w.heap.size ≤ bx; omega)) _
 have hk34 : Keeps (fun b => b ≠ bx) w3 ((((w3.setCell ⟨bx, 0, none⟩ (.string y.key)).setCell ⟨bx, 1, none⟩ (.string y.val)).setCell ⟨bx, 2, none⟩ (.int .i64 y.till)).setCell ⟨bx, 3, none⟩ (.bool y.gone)) :=
  ((((Keeps.refl _ w3).setCell (.inr fun e => e rfl) _).setCell (.inr fun e => e rfl) _).setCell (.inr fun e => e rfl) _).setCell (.inr fun e => e rfl) _
 have hs4 : ((((w3.setCell ⟨bx, 0, none⟩ (.string y.key)).setCell ⟨bx, 1, none⟩ (.string y.val)).setCell ⟨bx, 2, none⟩ (.int .i64 y.till)).setCell ⟨bx, 3, none⟩ (.bool y.gone)).heap.size = w3.heap.size := by simp
 have hb4 : ((((w3.setCell ⟨bx, 0, none⟩ (.string y.key)).setCell ⟨bx, 1, none⟩ (.string y.val)).setCell ⟨bx, 2, none⟩ (.int .i64 y.till)).setCell ⟨bx, 3, none⟩ (.bool y.gone)).heap[bx]? = some (itC y) :=
  (block_setCell (block_setCell (block_setCell (block_setCell HB3.out (i := 0) (.string y.key)) (i := 1) (.string y.val)) (i := 2) (.int .i64 y.till)) (i := 3) (.bool y.gone)).trans rfl
 generalize ((((w3.setCell ⟨bx, 0, none⟩ (.string y.key)).setCell ⟨bx, 1, none⟩ (.string y.val)).setCell ⟨bx, 2, none⟩ (.int .i64 y.till)).setCell ⟨bx, 3, none⟩ (.bool y.gone)) = w4 at *
 have HR4 := Hd (show Row w4 A (fun b => b = bx ∨ w2.heap.size ≤ b ∧ b < w3.heap.size) (M.map Value.string) from (HR.out.keep (hk34.mono fun b _ hb => HNE.out b hb.1)).mono fun b _ hb => .inr hb)
 have HB4 := Hd hb4
 have K4 := Hd hk4
 obtain ⟨X, hX⟩ : ∃ X : Nat → Prop, (fun b => b = bx ∨ w2.heap.size ≤ b ∧ b < w3.heap.size) = X := ⟨_, rfl⟩
 rw [hX] at HR4
 have HXB := Hd (show X bx from by rw [← hX]; exact .inl rfl)
 have HXL := Hd (show ∀ b, X b → b < w4.heap.size from fun b hb => by
  rw [← hX] at hb
  have h5 := HLT.out
  rcases hb with rfl | hb
  ·omega
  ·omega)
 clear hk4 hk34 hs4 hb4 hX HB3 HLT HNE K3 HR d0 d1 d2 d3 f0 f1 f2 f3
 refine (show Calls _ _ _ _ _ from fo_dev K4.out HXL.out 300 (by decide) (by decide) 300 rfl).mono ?_
 rintro e w5 ⟨p, rfl, hB, hk5⟩
 have HDV := Hd hB.dev
 have HB5 := Hd ((hk5.block bx trivial (Array.getElem?_eq_some_iff.1 HB4.out).1).trans HB4.out)
 have HR5 := Hd (HR4.out.keep (hk5.mono fun _ _ _ => trivial))
 clear hB hk5 HB4 HR4 K4 HXL
 go_wp2_with fail
 refine (show Calls _ _ _ _ _ from so_make HS.out HJ.out HT.out HDV.out (by decide) (by decide)).mono ?_
 rintro e w6 ⟨b, q1, q2, k, c6, rfl, hat, hc6, hk6⟩
 have hz : ∃ z : Sto, (⟨⟨162, segsOf 300, [], 0, 1⟩, ⟨2, 20, [], 0, 32, 1⟩, 2, ⟨1, 0, 0, false⟩, 1, c6⟩ : Sto) = z := ⟨_, rfl⟩
 obtain ⟨z, hz⟩ := hz
 rw [hz] at hat
 have HZ := Hd (show z.f = ⟨162, segsOf 300, [], 0, 1⟩ ∧ z.j = ⟨2, 20, [], 0, 32, 1⟩ ∧ z.c ≤ 90000 ∧ z.m = ⟨1, 0, 0, false⟩ from by rw [← hz]; exact ⟨rfl, rfl, by show c6 ≤ _; omega, rfl⟩)
 have HA := Hd hat
 have HB6 := Hd ((hk6.block bx HXB.out (Array.getElem?_eq_some_iff.1 HB5.out).1).trans HB5.out)
 have HR6 := Hd (HR5.out.keep hk6)
 have HPS := Hd (show ∀ (t : Bool) (w2 : World), PS S J w p b q1 q2 k y z X A (M.map Value.string) bx t w2 → w2.cell? ⟨b, 0, none⟩ = some (.pointer (some ⟨q1, 0, none⟩)) ∧ w2.heap[bx]? = some (itC y) from fun t w2 h => ⟨h.c0, h.blk⟩)
 have HST := Hd (show PS S J w p b q1 q2 k y z X A (M.map Value.string) bx false w6.drew from ⟨hat.keep ((Keeps.refl _ w6).drew), HXB.out, HB6.out, HR6.out.keep ((Keeps.refl _ w6).drew)⟩)
 clear hat hc6 hk6 hz HDV HB5 HR5 HA HB6 HR6
 go_wp2_with fail
 refine wp_region_one (V := V8 b q1 y) (w0 := w6) 5 (PS S J w p b q1 q2 k y z X A (M.map Value.string) bx) (fun _ _ => True) (fun _ => none) (by kernel_rfl) (fun i w w' v _ hv => V8_keep i w w' v hv) (fun _ _ _ h hs => hs.keep h) (fun i _ w w' v _ hv => V8_keep i w w' v hv) (by kernel_rfl) (by decide) (fun _ _ h => by cases h) (fun i o ho hw => (all_wanted (by kernel_rfl) ho hw).elim) HST.out (each_of ?_) ?_
 ·refine ⟨?_, ?_, ?_, ?_, ?_, ?_, ?_, trivial⟩ <;> intro hw a1 w7 L8
  ·rw [if_neg (by decide)]
   intro t hs _
   exact kp_move rfl (L8.o 6)
  ·rw [if_neg (by decide)]
   intro t hs _
   exact kp_nilM rfl (L8.v 0 29)
  ·rw [if_neg (by decide)]
   intro t hs _
   exact kp_st0 rfl (L8.v 1 30)
  ·rw [if_neg (by decide)]
   intro t hs _
   exact kp_ldC (HPS.out t w7 hs).1 rfl (L8.v 2 31)
  ·rw [if_neg (by decide)]
   intro t hs _
   exact kp_ldIt (HPS.out t w7 hs).2 rfl (L8.o 2)
  ·rw [if_pos rfl]
   intro hs
   have hf : a1.eval (.func 14) = .func (.func 14) #[] #[] := rfl
   have e0 : a1.eval (.tmp 32) = .pointer (some ⟨q1, 0, none⟩) := L8.v 3 32
   have e1 : a1.eval (.tmp 33) = .agg #[.string y.key, .string y.val, .int .i64 y.till, .bool y.gone] := L8.v 4 33
   obtain ⟨hat, hxb, hbb, hrr⟩ := hs
   refine one_enter (f := 14) (args := #[.pointer (some ⟨q1, 0, none⟩), .agg #[.string y.key, .string y.val, .int .i64 y.till, .bool y.gone]]) ?_ (put_any HS.out hat HZ.out.1 HZ.out.2.1 HZ.out.2.2.1 HZ.out.2.2.2 y HFIT.out) ?_
   ·clear hat hbb hrr
    generalize a1.eval = ρ at e0 e1 hf ⊢
    unfold execOp
    go_simp
   ·rintro e w' ⟨rfl, z', h1, hk'⟩
    exact ⟨_, rfl, trivial, ⟨z', h1, hxb, (hk'.block bx hxb (Array.getElem?_eq_some_iff.1 hbb).1).trans hbb, hrr.keep hk'⟩, rfl⟩
  ·rw [if_neg (by decide)]
   intro t hs _
   exact kp_as rfl (L8.v 5 34)
 ·intro vs w8 hs8 hlen hv
  match vs, hlen with
  | [v0, v1, v2, v3, v4, v5, v6], _ =>
   have e6 : v6 = .int .i64 (putE y) := hv 6 8 (by kernel_rfl)
   clear hv
   subst e6
   obtain ⟨z1, h1, -, hb8, hr8⟩ := hs8
   have hxl := h1.xlt
   have HG8 := Hd (GB.start (fs := [(bx, y)]) h1 hxl hr8 (fun f hf => by rw [List.mem_singleton.1 hf]; exact ⟨HXB.out, hb8⟩))
   clear h1 hb8 hr8 hxl HST hlen HPS HZ
   simp only [putAll, List.map, Act.put, List.setIfInBounds_toArray, List.set_cons_succ, List.set_cons_zero, Exit.then]
   go_wp2_with fail
   obtain ⟨v, r, hvf, hE⟩ := get_is z1.f y.key y HFIT.out HG8.out.at_.2.1
   have HE := Hd hE
   have HVF := Hd hvf
   have HYK := Hd (show y.key.size ≤ 1000000 from HFIT.out.1)
   clear hvf hE
   have HGD9 := Hd (show GB S J w p b q1 q2 k y z1 w8.heap.size X A (M.map Value.string) [(bx, y)] w8.drew from HG8.out.keep ((Keeps.refl _ w8).drew))
   refine wp_region_slot (V := V9 w8.heap.size b q1 bx y.key v r) (w0 := w8) 11 10 (fun t u w2 => GB S J w p b q1 q2 k y z1 w8.heap.size X A (M.map Value.string) [(bx, y)] w2 ∧ (t = true → ∃ B, u = .pointer (some ⟨B, 0, none⟩) ∧ w8.heap.size ≤ B ∧ w2.heap[B]? = some (itC v))) (Rg w8.heap.size) (fun _ => none) (by kernel_rfl) (fun i w w' v' h hv => V9_keep i w w' v' (Rg.of_kp h) hv) (fun t u wa wb h hs => ⟨hs.1.keep h, fun ht => by obtain ⟨B, e1, e2, e3⟩ := hs.2 ht; exact ⟨B, e1, e2, (h.block B trivial (Array.getElem?_eq_some_iff.1 e3).1).trans e3⟩⟩) (fun u u' wa hs => ⟨hs.1, fun ht => by cases ht⟩) ⟨9, by kernel_rfl⟩ (by kernel_rfl) (by decide) (fun i _ w w' v' h hv => V9_keep i w w' v' h hv) (by kernel_rfl) (by decide) (fun _ _ h => by cases h) (fun i o ho hw => (all_wanted (by kernel_rfl) ho hw).elim) (fun _ => ⟨HGD9.out, fun ht => by cases ht⟩) (each_of ?_) ?_
   ·refine ⟨?_, ?_, ?_, ?_, ?_, ?_, ?_, ?_, ?_, ?_, ?_, ?_, ?_, trivial⟩ <;> intro hw a1 wq L9
    ·rw [if_neg (by decide)]
     intro t hs _
     exact kp_move rfl (L9.o 6)
    ·rw [if_neg (by decide)]
     intro t hs _
     exact kp_nilM rfl (L9.v 0 36)
    ·rw [if_neg (by decide)]
     intro t hs _
     exact kp_st0 rfl (L9.v 1 37)
    ·rw [if_neg (by decide)]
     intro t hs _
     exact kp_ldC hs.1.at_.1.blk.c0 rfl (L9.v 2 38)
    ·rw [if_neg (by decide)]
     intro t hs _
     exact kp_it0 rfl (L9.o 2)
    ·rw [if_neg (by decide)]
     intro t hs _
     exact kp_itK (hs.1.fx (bx, y) (by simp)).2 rfl (L9.v 4 40)
    ·rw [if_neg (by decide)]
     intro t hs _
     exact kp_getP HS.out hs.1.at_.1 HYK.out HE.out rfl (L9.v 3 39) (L9.v 5 41)
    ·rw [if_neg (by decide)]
     intro t hs _
     exact kp_move rfl (L9.v 6 42)
    ·rw [if_neg (by decide)]
     intro t hs _
     exact kp_x0 rfl (L9.v 7 35)
    ·rw [if_neg (by decide)]
     intro t hs _
     exact kp_x1 rfl (L9.v 7 35)
    ·rw [if_neg (by decide)]
     intro t hs _
     exact kp_allocI hs.1.ge rfl
    ·rw [if_pos rfl]
     intro hs
     obtain ⟨B2, eB, hB1, hB2⟩ := L9.v 10 9
     have esl : slotOf a1 (some 9) = .pointer (some ⟨B2, 0, none⟩) := eB
     refine Oper.wp_mono ?_ (op_storeJ (y := v) (g := w8.heap.size) hB2 hB1 rfl eB (L9.v 8 43))
     rintro a' w' ⟨v', rfl, hr, hk, hsz, hbb⟩
     exact ⟨v', rfl, hr, ⟨hs.1.store hk hB1 hsz, fun _ => ⟨B2, esl, hB1, hbb⟩⟩, trivial⟩
    ·rw [if_neg (by decide)]
     intro t hs _
     exact kp_as rfl (L9.v 9 44)
   ·intro vs wn hsn hlen hv
    match vs, hlen with
    | [v0, v1, v2, v3, v4, v5, v6, v7, v8, v9, v10, v11, v12], _ =>
     have e12 : v12 = .bool r := hv 12 10 (by kernel_rfl)
     clear hv
     subst e12
     obtain ⟨hgb, hBx⟩ := hsn
     obtain ⟨B9, eB, hB1, hB2⟩ := hBx rfl
     have eB' : v10 = .pointer (some ⟨B9, 0, none⟩) := eB
     subst eB'
     have HG9 := Hd (hgb.next hB1 hB2)
     clear hgb hBx hB1 hB2 eB hlen HGD9 HG8
     simp only [putAll, List.map, Act.put, List.setIfInBounds_toArray, List.set_cons_succ, List.set_cons_zero, Exit.then]
     go_wp2_with fail
     have HGD10 := Hd (show GB S J w p b q1 q2 k y z1 wn.heap.size (fun c => X c ∨ c = B9) A (M.map Value.string) ((B9, v) :: [(bx, y)]) wn.drew from HG9.out.keep ((Keeps.refl _ wn).drew))
     refine wp_region_slot (V := V9 wn.heap.size b q1 bx y.key v r) (w0 := wn) 11 10 (fun t u w2 => GB S J w p b q1 q2 k y z1 wn.heap.size (fun c => X c ∨ c = B9) A (M.map Value.string) ((B9, v) :: [(bx, y)]) w2 ∧ (t = true → ∃ B, u = .pointer (some ⟨B, 0, none⟩) ∧ wn.heap.size ≤ B ∧ w2.heap[B]? = some (itC v))) (Rg wn.heap.size) (fun _ => none) (by kernel_rfl) (fun i w w' v' h hv => V9_keep i w w' v' (Rg.of_kp h) hv) (fun t u wa wb h hs => ⟨hs.1.keep h, fun ht => by obtain ⟨B, e1, e2, e3⟩ := hs.2 ht; exact ⟨B, e1, e2, (h.block B trivial (Array.getElem?_eq_some_iff.1 e3).1).trans e3⟩⟩) (fun u u' wa hs => ⟨hs.1, fun ht => by cases ht⟩) ⟨11, by kernel_rfl⟩ (by kernel_rfl) (by decide) (fun i _ w w' v' h hv => V9_keep i w w' v' h hv) (by kernel_rfl) (by decide) (fun _ _ h => by cases h) (fun i o ho hw => (all_wanted (by kernel_rfl) ho hw).elim) (fun _ => ⟨HGD10.out, fun ht => by cases ht⟩) (each_of ?_) ?_
     ·refine ⟨?_, ?_, ?_, ?_, ?_, ?_, ?_, ?_, ?_, ?_, ?_, ?_, ?_, trivial⟩ <;> intro hw a1 wq L10
      ·rw [if_neg (by decide)]
       intro t hs _
       exact kp_move rfl (L10.o 6)
      ·rw [if_neg (by decide)]
       intro t hs _
       exact kp_nilM rfl (L10.v 0 46)
      ·rw [if_neg (by decide)]
       intro t hs _
       exact kp_st0 rfl (L10.v 1 47)
      ·rw [if_neg (by decide)]
       intro t hs _
       exact kp_ldC hs.1.at_.1.blk.c0 rfl (L10.v 2 48)
      ·rw [if_neg (by decide)]
       intro t hs _
       exact kp_it0 rfl (L10.o 2)
      ·rw [if_neg (by decide)]
       intro t hs _
       exact kp_itK (hs.1.fx (bx, y) (by simp)).2 rfl (L10.v 4 50)
      ·rw [if_neg (by decide)]
       intro t hs _
       exact kp_getP HS.out hs.1.at_.1 HYK.out HE.out rfl (L10.v 3 49) (L10.v 5 51)
      ·rw [if_neg (by decide)]
       intro t hs _
       exact kp_move rfl (L10.v 6 52)
      ·rw [if_neg (by decide)]
       intro t hs _
       exact kp_x0 rfl (L10.v 7 45)
      ·rw [if_neg (by decide)]
       intro t hs _
       exact kp_x1 rfl (L10.v 7 45)
      ·rw [if_neg (by decide)]
       intro t hs _
       exact kp_allocI hs.1.ge rfl
      ·rw [if_pos rfl]
       intro hs
       obtain ⟨B2, eB, hB1, hB2⟩ := L10.v 10 11
       have esl : slotOf a1 (some 11) = .pointer (some ⟨B2, 0, none⟩) := eB
       refine Oper.wp_mono ?_ (op_storeJ (y := v) (g := wn.heap.size) hB2 hB1 rfl eB (L10.v 8 53))
       rintro a' w' ⟨v', rfl, hr, hk, hsz, hbb⟩
       exact ⟨v', rfl, hr, ⟨hs.1.store hk hB1 hsz, fun _ => ⟨B2, esl, hB1, hbb⟩⟩, trivial⟩
      ·rw [if_neg (by decide)]
       intro t hs _
       exact kp_as rfl (L10.v 9 54)
     ·intro vs wm hsm hlen hv
      match vs, hlen with
      | [v0, v1, v2, v3, v4, v5, v6, v7, v8, v9, v10, v11, v12], _ =>
       have e12 : v12 = .bool r := hv 12 12 (by kernel_rfl)
       clear hv
       subst e12
       obtain ⟨hgb, hBx⟩ := hsm
       obtain ⟨B10, eB, hB1, hB2⟩ := hBx rfl
       have eB' : v10 = .pointer (some ⟨B10, 0, none⟩) := eB
       subst eB'
       have HG10 := Hd (hgb.next hB1 hB2)
       clear hgb hBx hB1 hB2 eB hlen HGD10 HG9
       simp only [putAll, List.map, Act.put, List.setIfInBounds_toArray, List.set_cons_succ, List.set_cons_zero, Exit.then]
       have hgb := HG10.out
       have hO : One S J w wm p b q1 q2 k y z1 (fun c => (X c ∨ c = B9) ∨ c = B10) := ⟨hgb.at_.1.less fun c hc => .inl hc, hgb.at_.2⟩
       have d1 := hO.1.blk.c1
       have HADD := Hd (add_any HJ.out hO A M hgb.row c M.length rfl HC.out.1 HC.out.2 (by have := HC3.out.1; omega) (fun s hs => by have := HC3.out.2 s hs; omega))
       have HFX := Hd (show ∀ w', Keeps (fun c => (X c ∨ c = B9) ∨ c = B10) wm w' → w'.heap[bx]? = some (itC y) ∧ w'.heap[B9]? = some (itC v) ∧ w'.heap[B10]? = some (itC v) from fun w' hk => by
        have e0 := hgb.fx (bx, y) (by simp)
        have e1 := hgb.fx (B9, v) (by simp)
        have e2 := hgb.fx (B10, v) (by simp)
        exact ⟨(hk.block _ e0.1 (Array.getElem?_eq_some_iff.1 e0.2).1).trans e0.2, (hk.block _ e1.1 (Array.getElem?_eq_some_iff.1 e1.2).1).trans e1.2, (hk.block _ e2.1 (Array.getElem?_eq_some_iff.1 e2.2).1).trans e2.2⟩)
       have HENTS := Hd hgb.at_.2.1
       have HML := Hd (show M.length ≤ 3 from HC3.out.1)
       obtain ⟨pe, hpe⟩ : ∃ pe, putE y = pe := ⟨_, rfl⟩
       obtain ⟨mb, hmb⟩ : ∃ mb, y.may = mb := ⟨_, rfl⟩
       obtain ⟨gb, hgb2⟩ : ∃ gb, y.gone = gb := ⟨_, rfl⟩
       have HPE := Hd (show (pe == 0) = (mb && !gb) from by rw [← hpe, ← hmb, ← hgb2]; unfold putE putB; cases y.may <;> cases y.gone <;> rfl)
       have HMB := Hd hmb
       have HGB := Hd hgb2
       rw [hpe]
       clear hgb hO HG10 HC HC3 HE HYK hpe hmb hgb2
       generalize hab : addB M = ab at HADD
       have hm3 : M.length ≤ 3 := HML.out
       generalize M.length = m at *
       obtain ⟨nn, hnn⟩ : ∃ nn : Int, (if ab = true then (m : Int) else 0) = nn := ⟨_, rfl⟩
       obtain ⟨ff, hff⟩ : ∃ ff : Int, (if ab = true then (0 : Int) else 1) = ff := ⟨_, rfl⟩
       rw [hnn, hff] at HADD
       have HFF := Hd (show (ff == 0) = ab from by rw [← hff]; cases ab <;> rfl)
       have HFN := Hd (show ab = false → (ff == 1) = true from fun h => by rw [← hff, h]; rfl)
       have HNV := Hd (show ab = true → nn = (m : Int) from fun h => by rw [← hnn, h]; rfl)
       clear hnn hff
       go_wp2_with fail
       refine (show Calls _ _ _ _ _ from HADD.out).mono ?_
       rintro e wa ⟨rfl, z2, d2, hat, hf2, hk2, hm2, hka⟩
       obtain ⟨g0, g1, g2⟩ := HFX.out wa hka
       have HA := Hd hat
       have HEN := Hd (show z2.f.ents = [] ∨ z2.f.ents = [fput y] from by rw [hf2]; exact HENTS.out)
       have HZM := Hd hm2
       obtain ⟨ln, hln⟩ : ∃ ln : Int, ln = (z2.j.keys.length : Int) := ⟨_, rfl⟩
       obtain ⟨bs, hbs⟩ : ∃ bs : Int, bs = (z2.j.base : Int) := ⟨_, rfl⟩
       have HLN := Hd hln
       have HBS := Hd hbs
       have HNN := Hd (show ab = true → (nn == ln) = true from fun h => by rw [HNV.out h, hln, hk2, h]; simp)
       have HN0 := Hd (show ab = false → (ln == 0) = true from fun h => by rw [hln, hk2, h]; rfl)
       have HKL := Hd (keysOf_len z2.f y)
       have HY := Hd g0
       have HB9 := Hd g1
       have HB10 := Hd g2
       have HBK := Hd (show ∀ (B : Nat) (u : It), wa.heap[B]? = some (itC u) → ∀ {w'}, Kp wa w' → w'.heap[B]? = some (itC u) from fun B u h w' hk => (hk.block B trivial (Array.getElem?_eq_some_iff.1 h).1).trans h)
       clear hat hf2 hk2 hm2 hka HADD d1 g0 g1 g2 HFX HENTS hln hbs HNV
       go_wp2_with fail
       refine wp_region_guard (R := Kp) (V := fun i => ((VE b q1 q2 k bx B9 B10 y v r mb gb ab pe ff nn ln bs (keysOf z2.f y)).getD i (.is undef)).V) (w0 := wa) (GE mb ab) (by kernel_rfl) (fun w => Keeps.refl _ w) (fun _ _ _ h k => h.trans k) (fun _ _ _ _ h hv => Kd.keep h hv) (by cases mb <;> cases ab <;> kernel_rfl) (GE_is b q1 q2 k bx B9 B10 y v r mb gb ab pe ff nn ln bs (keysOf z2.f y)) ?_ ((Keeps.refl _ wa).drew) (each_of ?_) ?_
       ·clear HPE HMB HFF HFN HNN HN0
        cases mb
        ·cases ab
         ·exact unwanted_of [5, 6, 7, 78, 79, 80, 81, 82, 83, 84] (by kernel_rfl) (by intro i hi; simp only [List.mem_cons, List.not_mem_nil, or_false] at hi; rcases hi with rfl | rfl | rfl | rfl | rfl | rfl | rfl | rfl | rfl | rfl <;> rfl)
         ·exact unwanted_of [5, 6, 7, 87, 88, 89, 90, 91, 92, 93, 94, 95, 96] (by kernel_rfl) (by intro i hi; simp only [List.mem_cons, List.not_mem_nil, or_false] at hi; rcases hi with rfl | rfl | rfl | rfl | rfl | rfl | rfl | rfl | rfl | rfl | rfl | rfl | rfl <;> rfl)
        ·cases ab
         ·exact unwanted_of [78, 79, 80, 81, 82, 83, 84] (by kernel_rfl) (by intro i hi; simp only [List.mem_cons, List.not_mem_nil, or_false] at hi; rcases hi with rfl | rfl | rfl | rfl | rfl | rfl | rfl <;> rfl)
         ·exact unwanted_of [87, 88, 89, 90, 91, 92, 93, 94, 95, 96] (by kernel_rfl) (by intro i hi; simp only [List.mem_cons, List.not_mem_nil, or_false] at hi; rcases hi with rfl | rfl | rfl | rfl | rfl | rfl | rfl | rfl | rfl | rfl <;> rfl)
       ·refine ⟨?_, ?_, ?_, ?_, ?_, ?_, ?_, ?_, ?_, ?_, ?_, ?_, ?_, ?_, ?_, ?_, ?_, ?_, ?_, ?_, ?_, ?_, ?_, ?_, ?_, ?_, ?_, ?_, ?_, ?_, ?_, ?_, ?_, ?_, ?_, ?_, ?_, ?_, ?_, ?_, ?_, ?_, ?_, ?_, ?_, ?_, ?_, ?_, ?_, ?_, ?_, ?_, ?_, ?_, ?_, ?_, ?_, ?_, ?_, ?_, ?_, ?_, ?_, ?_, ?_, ?_, ?_, ?_, ?_, ?_, ?_, ?_, ?_, ?_, ?_, ?_, ?_, ?_, ?_, ?_, ?_, ?_, ?_, ?_, ?_, ?_, ?_, ?_, ?_, ?_, ?_, ?_, ?_, ?_, ?_, ?_, ?_, ?_, ?_, ?_, trivial⟩ <;> intro hw a1 w3 L
        ·exact kp_move rfl (L.o 8)
        ·exact kp_eqE HPE.out rfl (L.v 0 64) rfl
        ·exact kp_ldIt (HBK.out _ _ HY.out L.rel) rfl (L.o 2)
        ·exact kp_mayP HMB.out HFIT.out rfl (L.v 2 66)
        ·exact kp_move rfl (L.v 3 67)
        ·cases mb with | false => exact nomatch (show false = true from hw) | true => exact kp_it3 rfl (L.o 2)
        ·cases mb with | false => exact nomatch (show false = true from hw) | true => exact kp_itG HGB.out (HBK.out _ _ HY.out L.rel) rfl (L.v 5 69)
        ·cases mb with | false => exact nomatch (show false = true from hw) | true => exact kp_not12 rfl rfl (L.v 6 70)
        ·cases mb with | false => exact kp_pick rfl (L.v 4 68) rfl | true => exact kp_pick rfl (L.v 4 68) (L.v 7 71)
        ·exact kp_eqB12 (beq_self_eq_true _) rfl (L.v 1 65) (L.v 8 72)
        ·exact kp_move rfl (L.v 9 73)
        ·exact kp_move rfl (L.o 10)
        ·exact kp_move rfl (L.o 12)
        ·exact kp_eqB12 (beq_self_eq_true _) rfl (L.v 11 75) (L.v 12 76)
        ·exact kp_pick rfl (L.v 10 74) (L.v 13 77)
        ·exact kp_move rfl (L.v 14 78)
        ·exact kp_ldIt (HBK.out _ _ HB9.out L.rel) rfl (L.o 9)
        ·exact kp_ldIt (HBK.out _ _ HB10.out L.rel) rfl (L.o 11)
        ·exact kp_eqIt HVF.out rfl (L.v 16 80) (L.v 17 81)
        ·exact kp_pick rfl (L.v 15 79) (L.v 18 82)
        ·exact kp_move rfl (L.v 19 83)
        ·exact kp_move rfl (L.o 6)
        ·exact kp_nilM rfl (L.v 21 85)
        ·exact kp_st0 rfl (L.v 22 86)
        ·exact kp_ldC (HA.out.keep L.rel).blk.c0 rfl (L.v 23 87)
        ·exact kp_keysP HS.out (HA.out.keep L.rel) HEN.out rfl (L.v 24 88)
        ·exact kp_move rfl (L.o 6)
        ·exact kp_nilM rfl (L.v 26 90)
        ·exact kp_st0 rfl (L.v 27 91)
        ·exact kp_ldC (HA.out.keep L.rel).blk.c0 rfl (L.v 28 92)
        ·exact kp_keysP HS.out (HA.out.keep L.rel) HEN.out rfl (L.v 29 93)
        ·exact kp_eqTx HKL.out rfl (L.v 25 89) (L.v 30 94)
        ·exact kp_pick rfl (L.v 20 84) (L.v 31 95)
        ·exact kp_move rfl (L.v 32 96)
        ·exact kp_move rfl (L.o 6)
        ·exact kp_nilM rfl (L.v 34 98)
        ·exact kp_st1 rfl (L.v 35 99)
        ·exact kp_ldJ (HA.out.keep L.rel).blk.c1 rfl (L.v 36 100)
        ·exact kp_seqP HJ.out (HA.out.keep L.rel) HLN.out rfl (L.v 37 101)
        ·exact kp_move rfl (L.o 6)
        ·exact kp_nilM rfl (L.v 39 103)
        ·exact kp_st1 rfl (L.v 40 104)
        ·exact kp_ldJ (HA.out.keep L.rel).blk.c1 rfl (L.v 41 105)
        ·exact kp_seqP HJ.out (HA.out.keep L.rel) HLN.out rfl (L.v 42 106)
        ·exact kp_eqI (by simp) rfl (L.v 38 102) (L.v 43 107)
        ·exact kp_pick rfl (L.v 33 97) (L.v 44 108)
        ·exact kp_move rfl (L.v 45 109)
        ·exact kp_move rfl (L.o 6)
        ·exact kp_nilM rfl (L.v 47 111)
        ·exact kp_st1 rfl (L.v 48 112)
        ·exact kp_ldJ (HA.out.keep L.rel).blk.c1 rfl (L.v 49 113)
        ·exact kp_baseP HJ.out (HA.out.keep L.rel) HBS.out rfl (L.v 50 114)
        ·exact kp_move rfl (L.o 6)
        ·exact kp_nilM rfl (L.v 52 116)
        ·exact kp_st1 rfl (L.v 53 117)
        ·exact kp_ldJ (HA.out.keep L.rel).blk.c1 rfl (L.v 54 118)
        ·exact kp_baseP HJ.out (HA.out.keep L.rel) HBS.out rfl (L.v 55 119)
        ·exact kp_eqI (by simp) rfl (L.v 51 115) (L.v 56 120)
        ·exact kp_pick rfl (L.v 46 110) (L.v 57 121)
        ·exact kp_move rfl (L.v 58 122)
        ·exact kp_move rfl (L.o 6)
        ·exact kp_nilM rfl (L.v 60 124)
        ·exact kp_st2 rfl (L.v 61 125)
        ·exact kp_ldK (HA.out.keep L.rel).blk.c2 rfl (L.v 62 126)
        ·exact kp_metaP (HA.out.keep L.rel) HZM.out rfl (L.v 63 127)
        ·exact kp_mf0 rfl (L.v 64 128)
        ·exact kp_move rfl (L.o 6)
        ·exact kp_nilM rfl (L.v 66 130)
        ·exact kp_st2 rfl (L.v 67 131)
        ·exact kp_ldK (HA.out.keep L.rel).blk.c2 rfl (L.v 68 132)
        ·exact kp_metaP (HA.out.keep L.rel) HZM.out rfl (L.v 69 133)
        ·exact kp_mf0 rfl (L.v 70 134)
        ·exact kp_eqI (by simp) rfl (L.v 65 129) (L.v 71 135)
        ·exact kp_pick rfl (L.v 59 123) (L.v 72 136)
        ·exact kp_move rfl (L.v 73 137)
        ·exact kp_move rfl (L.o 14)
        ·exact kp_eqE HFF.out rfl (L.v 75 139) rfl
        ·exact kp_move rfl (L.v 76 140)
        ·cases ab with | false => exact nomatch (show false = true from hw) | true => exact kp_move rfl (L.o 13)
        ·cases ab with | false => exact nomatch (show false = true from hw) | true => exact kp_move rfl (L.o 6)
        ·cases ab with | false => exact nomatch (show false = true from hw) | true => exact kp_nilM rfl (L.v 79 143)
        ·cases ab with | false => exact nomatch (show false = true from hw) | true => exact kp_st1 rfl (L.v 80 144)
        ·cases ab with | false => exact nomatch (show false = true from hw) | true => exact kp_ldJ (HA.out.keep L.rel).blk.c1 rfl (L.v 81 145)
        ·cases ab with | false => exact nomatch (show false = true from hw) | true => exact kp_seqP HJ.out (HA.out.keep L.rel) HLN.out rfl (L.v 82 146)
        ·cases ab with | false => exact nomatch (show false = true from hw) | true => exact kp_eqI (HNN.out rfl) rfl (L.v 78 142) (L.v 83 147)
        ·cases ab with | false => exact kp_pick rfl (L.v 77 141) rfl | true => exact kp_pick rfl (L.v 77 141) (L.v 84 148)
        ·exact kp_move rfl (L.v 85 149)
        ·cases ab with | true => exact nomatch (show false = true from hw) | false => exact kp_move rfl (L.o 14)
        ·cases ab with | true => exact nomatch (show false = true from hw) | false => exact kp_eqE (HFN.out rfl) rfl (L.v 87 151) rfl
        ·cases ab with | true => exact nomatch (show false = true from hw) | false => exact kp_move rfl (L.v 88 152)
        ·cases ab with | true => exact nomatch (show false = true from hw) | false => exact kp_move rfl (L.o 6)
        ·cases ab with | true => exact nomatch (show false = true from hw) | false => exact kp_nilM rfl (L.v 90 154)
        ·cases ab with | true => exact nomatch (show false = true from hw) | false => exact kp_st1 rfl (L.v 91 155)
        ·cases ab with | true => exact nomatch (show false = true from hw) | false => exact kp_ldJ (HA.out.keep L.rel).blk.c1 rfl (L.v 92 156)
        ·cases ab with | true => exact nomatch (show false = true from hw) | false => exact kp_seqP HJ.out (HA.out.keep L.rel) HLN.out rfl (L.v 93 157)
        ·cases ab with | true => exact nomatch (show false = true from hw) | false => exact kp_eqI (HN0.out rfl) rfl (L.v 94 158) rfl
        ·cases ab with | true => exact nomatch (show false = true from hw) | false => exact kp_pick rfl (L.v 89 153) (L.v 95 159)
        ·cases ab with | true => exact kp_pick rfl (L.v 86 150) rfl | false => exact kp_pick rfl (L.v 86 150) (L.v 96 160)
        ·exact kp_pick rfl (L.v 74 138) (L.v 97 161)
        ·exact kp_as rfl (L.v 98 162)
       ·intro vs w8 hw8 hlen hv
        have HE := Hd (HA.out.kp.trans hw8)
        have hv99 : vs.getD 99 undef = .bool true := hv 99 4 (by kernel_rfl)
        refine done_by 99 4 (.bool true) (by kernel_rfl) (hlen.trans (by kernel_rfl)) (by kernel_rfl) (of_decide_eq_true (by kernel_rfl)) hv99 ?_
        clear hw8 hv hlen hv99 HA HY HB9 HB10 HBK HEN HZM HLN HBS HNN HN0 HKL HFF HFN HPE HMB HGB
        intro aE hres hdef
        have hdef' : aE.defers = [] := hdef
        clear hdef
        go_wp2_with fail
        refine bodyPost_ret (v := .bool true) (by simp [results, Tryz.results4, go_sem] at hres ⊢; exact hres) hdef' ?_
        exact ⟨rfl, HE.out.below⟩
end Go.Proofs.YticophaepapjoaaGreatDoor.storeParts
