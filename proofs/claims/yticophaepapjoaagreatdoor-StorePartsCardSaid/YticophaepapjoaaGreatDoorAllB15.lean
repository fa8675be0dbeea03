/-
  TextCut, SuperLocs, SuperSaves, ItemCut, RefNum, ItemText, ItemEq, ItemItems, Unfr, JrBegun, JrName, JrLocs: texts of mine, joined.
-/
import Derived.Test.YticophaepapjoaaGreatDoorProg
import Derived.WalkSpells
import Derived.Lib.Hide
import Derived.Test.YticophaepapjoaaGreatDoorAllB14
import Derived.Test.YticophaepapjoaaGreatDoorAllB02
import Derived.IntWalk
import Derived.RegionTactic
import Derived.ChangeAlike
import Derived.BigRegion
import Derived.StillTailTactics
import Derived.Test.YticophaepapjoaaGreatDoorAllB03
import Derived.Lib.SmallJoins
import Derived.Deep.RegionWith
import Derived.Test.YticophaepapjoaaGreatDoorAllB10
import Derived.Deep.RegionLaw
import Derived.BigQuiet
import Derived.Test.YticophaepapjoaaGreatDoorAllB00
import Derived.Test.YticophaepapjoaaGreatDoorAllB13
import Derived.Outline
open Go.Lib renaming hid → Hd
set_option maxRecDepth 100000
set_option maxHeartbeats 8000000
namespace Go.Proofs.YticophaepapjoaaGreatDoor
open Go.RowKit
def cutZ (s : ByteArray) (n : Nat) : ByteArray := if n < s.size then s.extract 0 n else s
theorem cutZ_size (s : ByteArray) (n : Nat) : (cutZ s n).size ≤ n := by
 unfold cutZ; split
 ·simp; omega
 ·omega
theorem tcut_any (s : ByteArray) (n : Nat) (_hs : s.size ≤ maxLen) (hn : n ≤ 100) (w : World) :
  Calls Tryz.prog 40 #[.string s, .int .i64 (n : Int)] w fun e w' => e = .returned (.string (cutZ s n)) ∧ w = w' := by
 unfold maxLen at _hs
 unfold cutZ
 by_cases h : n < s.size
 ·rw [if_pos h]
  have h' : (n : Int) < (s.size : Int) := by omega
  go_enter Tryz.func40, Tryz.ntmps40
  go_wp2
  go_ret
  exact ⟨rfl, rfl⟩
 ·rw [if_neg h]
  have h' : ¬ (n : Int) < (s.size : Int) := by omega
  go_enter Tryz.func40, Tryz.ntmps40
  go_wp2
  go_ret
  exact ⟨rfl, rfl⟩
end Go.Proofs.YticophaepapjoaaGreatDoor
namespace Go.Proofs.YticophaepapjoaaGreatDoor
open Go Go.RowKit
section
variable {o : Oper} {a : Act} {w : World} {Q : Exit → Act → World → Prop} {x y : Operand}
theorem kp_eqE {m n : Int} {b : Bool} (hb : (m == n) = b) (ho : o.op = .binOp .eql 27 x y 27) (hx : a.eval x = .int .i64 m) (hy : a.eval y = .int .i64 n) : o.wp Tryz.prog a w (fun a' w' => ∃ v, a' = a.put o.dst v ∧ Kp w w' ∧ IsV (.bool b) w' v) Q := by
 subst hb
 refine kp_yield (v := .bool (m == n)) (w' := w) ?_ (Keeps.refl _ _) rfl
 generalize a.eval = ρ at hx hy ⊢
 unfold execOp
 rw [ho]
 go_simp
theorem kp_eqI {m n : Int} {b : Bool} (hb : (m == n) = b) (ho : o.op = .binOp .eql 2 x y 2) (hx : a.eval x = .int .i64 m) (hy : a.eval y = .int .i64 n) : o.wp Tryz.prog a w (fun a' w' => ∃ v, a' = a.put o.dst v ∧ Kp w w' ∧ IsV (.bool b) w' v) Q := by
 subst hb
 refine kp_yield (v := .bool (m == n)) (w' := w) ?_ (Keeps.refl _ _) rfl
 generalize a.eval = ρ at hx hy ⊢
 unfold execOp
 rw [ho]
 go_simp
end
section
variable {o : Oper} {a : Act} {w : World} {Q : Exit → Act → World → Prop} {x y : Operand}
theorem one_enter {P : Program} {X : World → Value → Prop} {f : FuncId} {args : Array Value} {C : Ending → World → Prop} (e : (execOp a.eval o).run P w = .ok (.enter f args) w) (hc : Calls P f args w C)
  (hC : ∀ e w', C e w' → ∃ v, e = .returned v ∧ X w' v) : o.wp P a w (fun a' w' => ∃ v, a' = a.put o.dst v ∧ X w' v) Q := by
 unfold Oper.wp
 rw [e]
 refine hc.mono fun e w' h => ?_
 obtain ⟨v, rfl, hv⟩ := hC e w' h
 exact ⟨v, rfl, hv⟩
end
end Go.Proofs.YticophaepapjoaaGreatDoor
namespace Go.Proofs.YticophaepapjoaaGreatDoor
open Go Go.RowKit Go.Joins
theorem ssave_yes (w : World) (hT : Taken w) (q p lat sp t : Nat) (x : List UInt8) (hb : SBlk w q p lat sp t x) (F : Foot) (s : SDev) (hd : DAt w p F s) (hq : ¬ F.all q) (HTM : ¬ F.M 0) (hsp : sp < s.now.length) (_hlat : lat ≤ 4096) (ht : t ≤ 549755813888) (hcalls : s.calls ≤ 549755813888 + 100)
  (A : Option Addr) (c : Nat) (G : Nat → Prop) (l : List UInt8) (hr : Row w A G (bcells l)) (_hG : ∀ b, G b → ¬ F.all b) (_hGq : ∀ b, G b → b ≠ q) (_hlc : l.length ≤ c) (_hc : c ≤ maxLen) (hl : l.length ≤ 40) :
  Calls Tryz.prog 50 #[.pointer (some ⟨q, 0, none⟩), .slice A l.length c] w fun e w' => e = .returned (.int .i64 0) ∧ ∃ F', DAt w' p F' (SDev.still (s.now.set sp (encS (t + 1) l)) (s.calls + 2)) ∧ SBlk w' q p sp lat (t + 1) l ∧
   Keeps (fun b => ¬ F.M b ∧ b ≠ q) w w' ∧ (∀ b, F'.M b → F.M b ∨ w.heap.size ≤ b) ∧ (∀ b, F'.I b → F.all b ∨ w.heap.size ≤ b) := by
 have hsm := hd.ok.small
 have c0 : w.cell? ⟨q, 0, none⟩ = some (.int .i64 (t : Int)) := (cell_of_block hb 0).trans rfl
 have c2 : w.cell? ⟨q, 2, none⟩ = some (.pointer (some ⟨p, 0, none⟩)) := (cell_of_block hb 2).trans rfl
 have c3 : w.cell? ⟨q, 3, none⟩ = some (.int .i64 (lat : Int)) := (cell_of_block hb 3).trans rfl
 have c4 : w.cell? ⟨q, 4, none⟩ = some (.int .i64 (sp : Int)) := (cell_of_block hb 4).trans rfl
 have hcv : (convert 64 9 (.slice A l.length c)).run Tryz.prog w.drew = .ok (.string (txt l)) w.drew := (hr.keep (Keeps.refl G w).drew).to_string (P := Tryz.prog) Tryz.underlying64 Tryz.underlying5 Tryz.underlying9 l.length c rfl
 have hcv2 : ∀ o, (convert 64 9 (.slice A l.length c)).run Tryz.prog (w.alloc o).drew = .ok (.string (txt l)) (w.alloc o).drew := fun o => (hr.keep ((Keeps.refl G w).alloc o).drew).to_string (P := Tryz.prog) Tryz.underlying64 Tryz.underlying5 Tryz.underlying9 l.length c rfl
 have hqlt : q < w.heap.size := (Array.getElem?_eq_some_iff.1 hb).1
 have HD := Hd hd
 have HB := Hd hb
 have HT := Hd hT
 unfold maxLen at _hc
 have HR := Hd hr
 clear hb hd hT hr
 go_enter Tryz.func50, Tryz.ntmps50
 go_wp2_with fail
 go_region
 have hk1 : Keeps (fun _ => True) w (w.alloc (.cells #[.int .i64 ((t : Int) + 1), .string (txt l)] 141)).drew := ((Keeps.refl _ w).alloc _).drew
 have hr1 : (w.alloc (.cells #[.int .i64 ((t : Int) + 1), .string (txt l)] 141)).drew.heap[w.heap.size]? = some (.cells #[.int .i64 ((t + 1 : Nat) : Int), .string (txt l)] 141 (0, 0)) := heap_alloc_new w _
 have hz1 : (w.alloc (.cells #[.int .i64 ((t : Int) + 1), .string (txt l)] 141)).drew.heap.size = w.heap.size + 1 := by simp
 generalize (w.alloc (.cells #[.int .i64 ((t : Int) + 1), .string (txt l)] 141)).drew = w1 at hk1 hr1 hz1 ⊢
 have HD1 := Hd (HD.out.keep (hk1.mono fun _ _ _ => trivial))
 have HB1 := Hd (HB.out.keep hk1 trivial)
 have HT1 := Hd (HT.out.keep hk1)
 have HR1 := Hd hr1
 have HK1 := Hd hk1
 have HZ1 := Hd hz1
 have HQ := Hd (show ¬ F.M q from fun h => hq (.inl h))
 have HRF := Hd (show ∀ b, F.all b → b < w.heap.size from HD.out.lt)
 have HTF := Hd (show ¬ F.M 0 from HTM)
 clear hk1 hr1 hz1 c0 c2 c3 c4 hcv hcv2 HD HB HT HR
 have c0 : w1.cell? ⟨w.heap.size, 0, none⟩ = some (.int .i64 ((t : Int) + 1)) := (cell_of_block HR1.out 0).trans rfl
 have c1 : w1.cell? ⟨w.heap.size, 1, none⟩ = some (.string (txt l)) := (cell_of_block HR1.out 1).trans rfl
 go_wp2_with fail
 have hfm := fmake_any w1 HT1.out 83 83 rfl (t + 1) l (by omega) (by omega) (headS_len (t + 1) l (by omega) (by omega))
 rw [show ((t + 1 : Nat) : Int) = (t : Int) + 1 from by omega] at hfm
 refine hfm.mono ?_
 clear hfm
 rintro e w2 ⟨v, rfl, ho, hk2⟩
 rw [show encF 83 (t + 1) l = encS (t + 1) l from rfl] at ho
 have hel := encS_len (t + 1) l hl (by omega)
 obtain ⟨g, cg, rfl, hbase, hglt⟩ := ho.form (by rw [hel]; decide)
 have hroom := own_room ho
 have hrow := own_row ho
 rw [hel] at hroom ⊢
 have HB2 := Hd (HB1.out.keep hk2 trivial)
 have HD2 := Hd (HD1.out.keep (hk2.mono fun _ _ _ => trivial))
 have HR2 := Hd ((hk2.block w.heap.size trivial (by rw [HZ1.out]; omega)).trans HR1.out)
 have HK2 := Hd (HK1.out.trans hk2)
 have HRW := Hd hrow
 have HGF := Hd (show ∀ b, b = g → ¬ F.all b from fun b e hf => by have := HRF.out b hf; have := HZ1.out; omega)
 have HEL := Hd hel
 have HZ2 := Hd (show w.heap.size + 1 ≤ w2.heap.size from by have := hk2.size; have := HZ1.out; omega)
 clear ho hk2 hrow hel HB1 HD1 HT1 HR1 c0 c1 hroom hbase hglt
 have c2 : w2.cell? ⟨q, 2, none⟩ = some (.pointer (some ⟨p, 0, none⟩)) := (cell_of_block HB2.out 2).trans rfl
 have c4 : w2.cell? ⟨q, 4, none⟩ = some (.int .i64 (sp : Int)) := (cell_of_block HB2.out 4).trans rfl
 go_wp2_with fail
 go_still_tail 9, (by kernel_rfl)
 change wpList _ _ _ _ _ w2.drew
 have hdr := (Keeps.refl (fun _ => True) w2).drew
 have HB3 := Hd (HB2.out.keep hdr trivial)
 have HD3 := Hd (HD2.out.keep (hdr.mono fun _ _ _ => trivial))
 have HR3 := Hd ((hdr.block w.heap.size trivial (by have := HZ2.out; omega)).trans HR2.out)
 have HK3 := Hd (HK2.out.trans hdr)
 have HRW3 := Hd (HRW.out.keep (hdr.mono fun _ _ _ => trivial))
 have HZ3 := Hd (show w.heap.size + 1 ≤ w2.drew.heap.size from Nat.le_trans HZ2.out hdr.size)
 clear hdr c2 c4 HB2 HD2 HR2 HK2 HRW HZ2
 generalize w2.drew = w3 at HB3 HD3 HR3 HK3 HRW3 HZ3 ⊢
 have HWR := Hd (show Calls Tryz.prog 63 #[.pointer (some ⟨p, 0, none⟩), .int .i64 (sp : Int), .slice (some ⟨g, 0, none⟩) 64 cg] w3 fun e w' => e = .returned (.int .i64 0) ∧ ∃ F', DAt w' p F' (s.write sp (encS (t + 1) l)) ∧ Step F F' w3 w' from by
  have h := dwrite_yes w3 p F s HD3.out sp (some ⟨g, 0, none⟩) cg _ (encS (t + 1) l) HRW3.out (fun b hb => HGF.out b hb) hsp (by rw [HEL.out]; decide) (by omega)
  rw [HEL.out] at h
  exact h)
 clear HRW3
 go_wp2_with fail
 refine HWR.out.mono ?_
 rintro e w8 ⟨rfl, F8, hd8, hst8⟩
 have hb8 := HB3.out.keep hst8.keeps HQ.out
 have HRD := Hd (row64 HD3.out sp hsp)
 have c2 : w8.cell? ⟨q, 2, none⟩ = some (.pointer (some ⟨p, 0, none⟩)) := (cell_of_block hb8 2).trans rfl
 have hf := dflush_any w8 p F8 _ hd8 (show s.calls + 1 ≤ _ by omega)
 rw [flush_is, write64_now s sp (encS (t + 1) l) HEL.out HRD.out] at hf
 have HF := Hd hf
 have HS8 := Hd hst8
 clear hf hst8 hb8 hd8 HWR
 go_wp2_with fail
 refine HF.out.mono ?_
 rintro e w9 ⟨rfl, F9, hd9, hst9⟩
 have hst := HS8.out.trans hst9
 have hb9 : w9.heap[q]? = _ := HB3.out.keep hst.keeps HQ.out
 have hrc := (hst.keeps.block w.heap.size (fun hm => by have := HRF.out _ (.inl hm); omega) (by have := HZ3.out; omega)).trans HR3.out
 have r0 : w9.cell? ⟨w.heap.size, 0, none⟩ = some (.int .i64 ((t + 1 : Nat) : Int)) := (cell_of_block hrc 0).trans rfl
 have r1 : w9.cell? ⟨w.heap.size, 1, none⟩ = some (.string (txt l)) := (cell_of_block hrc 1).trans rfl
 have c0 : w9.cell? ⟨q, 0, none⟩ = some (.int .i64 (t : Int)) := (cell_of_block hb9 0).trans rfl
 have c1 : w9.cell? ⟨q, 1, none⟩ = some (.string (txt x)) := (cell_of_block hb9 1).trans rfl
 have f0 := unfrozen_of_block hb9 0
 have f1 := unfrozen_of_block hb9 1
 have hz9 := hst.keeps.size
 have hb10 := block_setCell (block_setCell hb9 (i := 0) (.int .i64 ((t : Int) + 1))) (i := 1) (.string (txt l))
 have hk10 : Keeps (fun b => b ≠ q) w9 ((w9.setCell ⟨q, 0, none⟩ (.int .i64 ((t : Int) + 1))).setCell ⟨q, 1, none⟩ (.string (txt l))) := ((Keeps.refl _ w9).setCell (.inr fun hn => hn rfl) _).setCell (.inr fun hn => hn rfl) _
 have HB10 := Hd hb10
 have HK10 := Hd hk10
 have HST := Hd hst
 have HD9 := Hd hd9
 clear hst hb9 hrc hz9 hb10 hk10 hd9 hst9 c2 HS8 HF HR3 HB3
 go_wp2_with fail
 have hb10 := HB10.out
 have hk10 := HK10.out
 clear HB10 HK10 c0 c1 f0 f1 r0 r1
 generalize ((w9.setCell ⟨q, 0, none⟩ (.int .i64 ((t : Int) + 1))).setCell ⟨q, 1, none⟩ (.string (txt l))) = w10 at hb10 hk10 ⊢
 have c3 : w10.cell? ⟨q, 3, none⟩ = some (.int .i64 (lat : Int)) := (cell_of_block hb10 3).trans rfl
 have c4 : w10.cell? ⟨q, 4, none⟩ = some (.int .i64 (sp : Int)) := (cell_of_block hb10 4).trans rfl
 have f3 := unfrozen_of_block hb10 3
 have f4 := unfrozen_of_block hb10 4
 have hfin : ∀ w11 : World, w11.heap[q]? = some (.cells #[.int .i64 ((t : Int) + 1), .string (txt l), .pointer (some ⟨p, 0, none⟩), .int .i64 (sp : Int), .int .i64 (lat : Int)] 143 (0, 0)) → Keeps (fun b => b ≠ q) w10 w11 →
   ∃ F', DAt w11 p F' (SDev.still (s.now.set sp (encS (t + 1) l)) (s.calls + 2)) ∧ SBlk w11 q p sp lat (t + 1) l ∧ Keeps (fun b => ¬ F.M b ∧ b ≠ q) w w11 ∧ (∀ b, F'.M b → F.M b ∨ w.heap.size ≤ b) ∧ (∀ b, F'.I b → F.all b ∨ w.heap.size ≤ b) := by
  intro w11 hb11 hk11
  have hst := HST.out
  have hk1 := HK3.out
  have hk := hk10.trans hk11
  have hqF : ¬ F9.all q := fun hf => by
   rcases hst.all q hf with h1 | h1
   ·exact hq h1
   ·have := HZ3.out; omega
  refine ⟨F9, HD9.out.keep (hk.mono fun b _ hb e => hqF (by rw [← e]; exact hb)), hb11, ?_, fun b hb => (hst.m b hb).imp id fun h1 => Nat.le_trans hk1.size h1, fun b hb => (hst.i b hb).imp id fun h1 => Nat.le_trans hk1.size h1⟩
  exact ((hk1.mono fun _ _ _ => trivial).trans (hst.keeps.mono fun b _ hb => hb.1)).trans (hk.mono fun b _ hb => hb.2)
 have hb11 := block_setCell (block_setCell hb10 (i := 3) (.int .i64 (sp : Int))) (i := 4) (.int .i64 (lat : Int))
 have hk11 : Keeps (fun b => b ≠ q) w10 ((w10.setCell ⟨q, 3, none⟩ (.int .i64 (sp : Int))).setCell ⟨q, 4, none⟩ (.int .i64 (lat : Int))) := ((Keeps.refl _ w10).setCell (.inr fun hn => hn rfl) _).setCell (.inr fun hn => hn rfl) _
 have HFIN := Hd (hfin ((w10.setCell ⟨q, 3, none⟩ (.int .i64 (sp : Int))).setCell ⟨q, 4, none⟩ (.int .i64 (lat : Int))).drew (hb11.trans rfl) hk11.drew)
 clear hfin hb11 hk11 hb10 hk10
 go_region
 go_wp2_with fail
 go_ret
 exact ⟨rfl, HFIN.out⟩
def cutTo (s : ByteArray) (n : Nat) : ByteArray := if n < s.size then s.extract 0 n else s
theorem cutTo_size (s : ByteArray) (n : Nat) : (cutTo s n).size ≤ n := by
 unfold cutTo; split
 ·simp; omega
 ·omega
theorem cut_nat (s : ByteArray) (n : Nat) (_hs : s.size ≤ maxLen) (hn : n ≤ 1000) (w : World) :
  Calls Tryz.prog 40 #[.string s, .int .i64 (n : Int)] w fun e w' => e = .returned (.string (cutTo s n)) ∧ w = w' := by
 unfold maxLen at _hs
 unfold cutTo
 by_cases h : n < s.size
 ·rw [if_pos h]
  have h' : (n : Int) < (s.size : Int) := by omega
  go_enter Tryz.func40, Tryz.ntmps40
  go_wp2
  go_ret
  exact ⟨rfl, rfl⟩
 ·rw [if_neg h]
  have h' : ¬ (n : Int) < (s.size : Int) := by omega
  go_enter Tryz.func40, Tryz.ntmps40
  go_wp2
  go_ret
  exact ⟨rfl, rfl⟩
theorem cut_50 (s : ByteArray) (hs : s.size ≤ maxLen) (w : World) : Calls Tryz.prog 40 #[.string s, .int .i64 50] w fun e w' => e = .returned (.string (cutTo s 50)) ∧ w = w' := cut_nat s 50 hs (by decide) w
theorem cut_210 (s : ByteArray) (hs : s.size ≤ maxLen) (w : World) : Calls Tryz.prog 40 #[.string s, .int .i64 210] w fun e w' => e = .returned (.string (cutTo s 210)) ∧ w = w' := cut_nat s 210 hs (by decide) w
def It.cut (x : It) : It := ⟨cutTo x.key 50, cutTo x.val 210, x.till, x.gone⟩
theorem It.cut_fits (x : It) (h1 : -9223372036854775808 ≤ x.till) (h2 : x.till < 9223372036854775808) : x.cut.fits := by
 have a := cutTo_size x.key 50
 have b := cutTo_size x.val 210
 exact ⟨show (cutTo x.key 50).size ≤ _ by omega, show (cutTo x.val 210).size ≤ _ by omega, h1, h2⟩
theorem law_cut (w : World) (x : It) (hk : x.key.size ≤ maxLen) (hv : x.val.size ≤ maxLen) :
  Calls Tryz.prog 13 #[.agg #[.string x.key, .string x.val, .int .i64 x.till, .bool x.gone]] w fun e w' =>
   e = .returned (.agg #[.string x.cut.key, .string x.cut.val, .int .i64 x.cut.till, .bool x.cut.gone]) ∧ Keeps (fun _ => True) w w' := by
 obtain ⟨key, val, till, gone⟩ := x
 simp only [It.cut] at *
 have C1 := fun w => cut_50 key hk w
 have C2 := fun w => cut_210 val hv w
 generalize cutTo key 50 = k' at *
 generalize cutTo val 210 = v' at *
 clear hk hv
 go_enter Tryz.func13, Tryz.ntmps13
 go_wp2_with fail
 go_region_with (first
  | (go_at_call 40; ((with_reducible refine (C1 _).mono ?_); rintro e w' ⟨rfl, rfl⟩))
  | (go_at_call 40; ((with_reducible refine (C2 _).mono ?_); rintro e w' ⟨rfl, rfl⟩)))
 all_goals go_wp2_with fail
 all_goals exact bodyPost_ret (v := .agg #[.string k', .string v', .int .i64 till, .bool gone]) (by simp [results, Tryz.results13, go_sem]) rfl ⟨rfl, (((Keeps.refl _ w).alloc _).alloc _).drew⟩
end Go.Proofs.YticophaepapjoaaGreatDoor
namespace Go.Proofs.YticophaepapjoaaGreatDoor
open Go Go.RowKit
end Go.Proofs.YticophaepapjoaaGreatDoor
namespace Go.Proofs.YticophaepapjoaaGreatDoor
open Go Go.RowKit Go.Joins
theorem src_own {w : World} {base : Nat} {v : Value} {l : List UInt8} (h : OwnB w base v l) : Src Tryz.prog 1 64 v l.length (bcells l) w := by
 obtain ⟨A, c, rfl, -, hr⟩ := own_slice h
 have := hr.src (P := Tryz.prog) (c := c) Tryz.underlying64 (bcells_one l)
 rwa [bcells_len] at this
theorem take_may (l : List It) (k : Nat) (h : k < l.length) : (l.take (k + 1)).all It.may = ((l.take k).all It.may && l[k].may) := by
 rw [List.take_succ_eq_append_getElem h, List.all_append]; simp
theorem take_bytes (l : List It) (k : Nat) (h : k < l.length) : bytesOf (l.take (k + 1)) = bytesOf (l.take k) ++ l[k].bytes := by
 rw [List.take_succ_eq_append_getElem h, bytesOf_snoc]
theorem not_may {l : List It} {k : Nat} (h : k < l.length) (hm : l[k].may = false) : encs l = [] := by
 unfold encs
 rw [if_neg]
 intro ha
 have := List.all_eq_true.1 ha l[k] (List.getElem_mem h)
 rw [hm] at this; cases this
end Go.Proofs.YticophaepapjoaaGreatDoor
namespace Go.Proofs.YticophaepapjoaaGreatDoor
open Go Go.RowKit
def Unfr (w : World) (A : Option Addr) (n : Nat) : Prop := ∀ b o, 0 < n → A = some ⟨b, o, none⟩ → ∀ i, w.frozen? ⟨b, i, none⟩ = false
theorem Unfr.own {w : World} {base n size c : Nat} {e : TypeId} {A : Option Addr} {xs : List Value} (h : w.ownsRow base e size (.slice A n c) n xs) : Unfr w A n := fun b o _ ha i => by
 rcases h.2 with ⟨h', _⟩ | ⟨g', cap', cur, h', _, hg, _⟩
 ·injection h' with h'; rw [ha] at h'; cases h'
 ·injection h' with h'
  rw [ha] at h'
  injection h' with h'
  injection h' with h'
  subst h'
  simp [World.frozen?, hg]
end Go.Proofs.YticophaepapjoaaGreatDoor
namespace Go.Proofs.YticophaepapjoaaGreatDoor
open Go Go.RowKit Go.Joins
section
variable {o : Oper} {a : Act} {w : World} {Q : Exit → Act → World → Prop} {x y z : Operand}
theorem kp_fM0 {b f : Nat} (ho : o.op = .fieldAddr 72 x 0) (hx : a.eval x = .pointer (some ⟨b, f, none⟩)) : o.wp Tryz.prog a w (fun a' w' => ∃ v, a' = a.put o.dst v ∧ Kp w w' ∧ IsV (.pointer (some ⟨b, f, none⟩)) w' v) Q := by
 refine kp_yield (v := .pointer (some ⟨b, f, none⟩)) (w' := w) ?_ (Keeps.refl _ _) rfl
 generalize a.eval = ρ at hx ⊢
 unfold execOp
 go_simp
theorem kp_fM1 {b f : Nat} (ho : o.op = .fieldAddr 72 x 1) (hx : a.eval x = .pointer (some ⟨b, f, none⟩)) : o.wp Tryz.prog a w (fun a' w' => ∃ v, a' = a.put o.dst v ∧ Kp w w' ∧ IsV (.pointer (some ⟨b, f + 1, none⟩)) w' v) Q := by
 refine kp_yield (v := .pointer (some ⟨b, f + 1, none⟩)) (w' := w) ?_ (Keeps.refl _ _) rfl
 generalize a.eval = ρ at hx ⊢
 unfold execOp
 go_simp
theorem kp_ldI {p : Addr} {n : Int} (hc : w.cell? p = some (.int .i64 n)) (ho : o.op = .load 2 x) (hx : a.eval x = .pointer (some p)) : o.wp Tryz.prog a w (fun a' w' => ∃ v, a' = a.put o.dst v ∧ Kp w w' ∧ IsV (.int .i64 n) w' v) Q := by
 refine kp_yield (v := .int .i64 n) (w' := w) ?_ (Keeps.refl _ _) rfl
 generalize a.eval = ρ at hx ⊢
 unfold execOp
 rw [ho]
 go_simp
theorem kp_ldT {p : Addr} {s : ByteArray} (hc : w.cell? p = some (.string s)) (ho : o.op = .load 9 x) (hx : a.eval x = .pointer (some p)) : o.wp Tryz.prog a w (fun a' w' => ∃ v, a' = a.put o.dst v ∧ Kp w w' ∧ IsV (.string s) w' v) Q := by
 refine kp_yield (v := .string s) (w' := w) ?_ (Keeps.refl _ _) rfl
 generalize a.eval = ρ at hx ⊢
 unfold execOp
 rw [ho]
 go_simp
end
end Go.Proofs.YticophaepapjoaaGreatDoor
