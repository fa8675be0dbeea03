/-
  SuperSaves: texts of mine, joined.
-/
import Derived.Test.YtemkjodkmehffaaGreatDoorAllM30
import Derived.Test.YtemkjodkmehffaaGreatDoorAllM29
import Derived.RegionTactic
import Derived.ChangeAlike
import Derived.BigRegion
import Derived.StillTailTactics
namespace Go.Proofs.YtemkjodkmehffaaGreatDoor
open Go Go.RowKit Go.Joins
set_option maxRecDepth 100000 in
set_option maxHeartbeats 4000000 in
theorem ssave_yes (w : World) (hT : Taken w) (q p lat sp t : Nat) (x : List UInt8) (hb : SBlk w q p lat sp t x) (F : Foot) (s : SDev) (hd : DAt w p F s) (hq : ¬ F.all q) (HTM : ¬ F.M 0) (hsp : sp < s.now.length) (_hlat : lat ≤ 4096) (ht : t ≤ 549755813888) (hcalls : s.calls ≤ 549755813888 + 100)
  (A : Option Addr) (c : Nat) (G : Nat → Prop) (l : List UInt8) (hr : Row w A G (bcells l)) (_hG : ∀ b, G b → ¬ F.all b) (_hGq : ∀ b, G b → b ≠ q) (_hlc : l.length ≤ c) (_hc : c ≤ maxLen) (hl : l.length ≤ 40) :
  Calls Tryz.prog 54 #[.pointer (some ⟨q, 0, none⟩), .slice A l.length c] w fun e w' => e = .returned (.int .i64 0) ∧ ∃ F', DAt w' p F' (SDev.still (s.now.set sp (encS (t + 1) l)) (s.calls + 2)) ∧ SBlk w' q p sp lat (t + 1) l ∧
   Keeps (fun b => ¬ F.M b ∧ b ≠ q) w w' ∧ (∀ b, F'.M b → F.M b ∨ w.heap.size ≤ b) ∧ (∀ b, F'.I b → F.all b ∨ w.heap.size ≤ b) := by
 have hsm := hd.ok.small
 have c0 : w.cell? ⟨q, 0, none⟩ = some (.int .i64 (t : Int)) := (cell_of_block hb 0).trans rfl
 have c2 : w.cell? ⟨q, 2, none⟩ = some (.pointer (some ⟨p, 0, none⟩)) := (cell_of_block hb 2).trans rfl
 have c3 : w.cell? ⟨q, 3, none⟩ = some (.int .i64 (lat : Int)) := (cell_of_block hb 3).trans rfl
 have c4 : w.cell? ⟨q, 4, none⟩ = some (.int .i64 (sp : Int)) := (cell_of_block hb 4).trans rfl
 have hcv : (convert 71 9 (.slice A l.length c)).run Tryz.prog w.drew = .ok (.string (txt l)) w.drew := (hr.keep (Keeps.refl G w).drew).to_string (P := Tryz.prog) Tryz.underlying71 Tryz.underlying5 Tryz.underlying9 l.length c rfl
 have hcv2 : ∀ o, (convert 71 9 (.slice A l.length c)).run Tryz.prog (w.alloc o).drew = .ok (.string (txt l)) (w.alloc o).drew := fun o => (hr.keep ((Keeps.refl G w).alloc o).drew).to_string (P := Tryz.prog) Tryz.underlying71 Tryz.underlying5 Tryz.underlying9 l.length c rfl
 have hqlt : q < w.heap.size := (Array.getElem?_eq_some_iff.1 hb).1
 have HD := Lib.hid hd
 have HB := Lib.hid hb
 have HT := Lib.hid hT
 unfold maxLen at _hc
 have HR := Lib.hid hr
 clear hb hd hT hr
 go_enter Tryz.func54, Tryz.ntmps54
 go_wp2_with fail
 go_region
 have hk1 : Keeps (fun _ => True) w (w.alloc (.cells #[.int .i64 ((t : Int) + 1), .string (txt l)] 102)).drew := ((Keeps.refl _ w).alloc _).drew
 have hr1 : (w.alloc (.cells #[.int .i64 ((t : Int) + 1), .string (txt l)] 102)).drew.heap[w.heap.size]? = some (.cells #[.int .i64 ((t + 1 : Nat) : Int), .string (txt l)] 102 (0, 0)) := heap_alloc_new w _
 have hz1 : (w.alloc (.cells #[.int .i64 ((t : Int) + 1), .string (txt l)] 102)).drew.heap.size = w.heap.size + 1 := by simp
 generalize (w.alloc (.cells #[.int .i64 ((t : Int) + 1), .string (txt l)] 102)).drew = w1 at hk1 hr1 hz1 ⊢
 have HD1 := Lib.hid (HD.out.keep (hk1.mono fun _ _ _ => trivial))
 have HB1 := Lib.hid (HB.out.keep hk1 trivial)
 have HT1 := Lib.hid (HT.out.keep hk1)
 have HR1 := Lib.hid hr1
 have HK1 := Lib.hid hk1
 have HZ1 := Lib.hid hz1
 have HQ := Lib.hid (show ¬ F.M q from fun h => hq (.inl h))
 have HRF := Lib.hid (show ∀ b, F.all b → b < w.heap.size from HD.out.lt)
 have HTF := Lib.hid (show ¬ F.M 0 from HTM)
 clear hk1 hr1 hz1 c0 c2 c3 c4 hcv hcv2 HD HB HT HR
 have c0 : w1.cell? ⟨w.heap.size, 0, none⟩ = some (.int .i64 ((t : Int) + 1)) := (cell_of_block HR1.out 0).trans rfl
 have c1 : w1.cell? ⟨w.heap.size, 1, none⟩ = some (.string (txt l)) := (cell_of_block HR1.out 1).trans rfl
 go_wp2_with fail
 have hfm := fmake_any w1 HT1.out 83 83 rfl (t + 1) l (by omega) (by omega) (headS_len (t + 1) l (by omega) (by omega))
 rw [show ((t + 1 : Nat) : Int) = (t : Int) + 1 from by omega] at hfm
 refine hfm.mono ?_
 clear hfm
 rintro e w2 ⟨v, rfl, ho, hk2⟩
 rw [show encF 83 (t + 1) l = encS (t + 1) l from rfl] at ho
 have hel := encS_len (t + 1) l hl (by omega)
 obtain ⟨g, cg, rfl, hbase, hglt⟩ := ho.form (by rw [hel]; decide)
 have hroom := own_room ho
 have hrow := own_row ho
 rw [hel] at hroom ⊢
 have HB2 := Lib.hid (HB1.out.keep hk2 trivial)
 have HD2 := Lib.hid (HD1.out.keep (hk2.mono fun _ _ _ => trivial))
 have HR2 := Lib.hid ((hk2.block w.heap.size trivial (by rw [HZ1.out]; omega)).trans HR1.out)
 have HK2 := Lib.hid (HK1.out.trans hk2)
 have HRW := Lib.hid hrow
 have HGF := Lib.hid (show ∀ b, b = g → ¬ F.all b from fun b e hf => by have := HRF.out b hf; have := HZ1.out; omega)
 have HEL := Lib.hid hel
 have HZ2 := Lib.hid (show w.heap.size + 1 ≤ w2.heap.size from by have := hk2.size; have := HZ1.out; omega)
 clear ho hk2 hrow hel HB1 HD1 HT1 HR1 c0 c1 hroom hbase hglt
 have c2 : w2.cell? ⟨q, 2, none⟩ = some (.pointer (some ⟨p, 0, none⟩)) := (cell_of_block HB2.out 2).trans rfl
 have c4 : w2.cell? ⟨q, 4, none⟩ = some (.int .i64 (sp : Int)) := (cell_of_block HB2.out 4).trans rfl
 go_wp2_with fail
 go_still_tail 9, (by kernel_rfl)
 change wpList _ _ _ _ _ w2.drew
 have hdr := (Keeps.refl (fun _ => True) w2).drew
 have HB3 := Lib.hid (HB2.out.keep hdr trivial)
 have HD3 := Lib.hid (HD2.out.keep (hdr.mono fun _ _ _ => trivial))
 have HR3 := Lib.hid ((hdr.block w.heap.size trivial (by have := HZ2.out; omega)).trans HR2.out)
 have HK3 := Lib.hid (HK2.out.trans hdr)
 have HRW3 := Lib.hid (HRW.out.keep (hdr.mono fun _ _ _ => trivial))
 have HZ3 := Lib.hid (show w.heap.size + 1 ≤ w2.drew.heap.size from Nat.le_trans HZ2.out hdr.size)
 clear hdr c2 c4 HB2 HD2 HR2 HK2 HRW HZ2
 generalize w2.drew = w3 at HB3 HD3 HR3 HK3 HRW3 HZ3 ⊢
 have HWR := Lib.hid (show Calls Tryz.prog 84 #[.pointer (some ⟨p, 0, none⟩), .int .i64 (sp : Int), .slice (some ⟨g, 0, none⟩) 64 cg] w3 fun e w' => e = .returned (.int .i64 0) ∧ ∃ F', DAt w' p F' (s.write sp (encS (t + 1) l)) ∧ Step F F' w3 w' from by
  have h := dwrite_yes w3 p F s HD3.out sp (some ⟨g, 0, none⟩) cg _ (encS (t + 1) l) HRW3.out (fun b hb => HGF.out b hb) hsp (by rw [HEL.out]; decide) (by omega)
  rw [HEL.out] at h
  exact h)
 clear HRW3
 go_wp2_with fail
 refine HWR.out.mono ?_
 rintro e w8 ⟨rfl, F8, hd8, hst8⟩
 have hb8 := HB3.out.keep hst8.keeps HQ.out
 have HRD := Lib.hid (row64 HD3.out sp hsp)
 have c2 : w8.cell? ⟨q, 2, none⟩ = some (.pointer (some ⟨p, 0, none⟩)) := (cell_of_block hb8 2).trans rfl
 have hf := dflush_any w8 p F8 _ hd8 (show s.calls + 1 ≤ _ by omega)
 rw [flush_is, write64_now s sp (encS (t + 1) l) HEL.out HRD.out] at hf
 have HF := Lib.hid hf
 have HS8 := Lib.hid hst8
 clear hf hst8 hb8 hd8 HWR
 go_wp2_with fail
 refine HF.out.mono ?_
 rintro e w9 ⟨rfl, F9, hd9, hst9⟩
 have hst := HS8.out.trans hst9
 have hb9 : w9.heap[q]? = _ := HB3.out.keep hst.keeps HQ.out
 have hrc := (hst.keeps.block w.heap.size (fun hm => by have := HRF.out _ (.inl hm); omega) (by have := HZ3.out; omega)).trans HR3.out
 have r0 : w9.cell? ⟨w.heap.size, 0, none⟩ = some (.int .i64 ((t + 1 : Nat) : Int)) := (cell_of_block hrc 0).trans rfl
 have r1 : w9.cell? ⟨w.heap.size, 1, none⟩ = some (.string (txt l)) := (cell_of_block hrc 1).trans rfl
 have c0 : w9.cell? ⟨q, 0, none⟩ = some (.int .i64 (t : Int)) := (cell_of_block hb9 0).trans rfl
 have c1 : w9.cell? ⟨q, 1, none⟩ = some (.string (txt x)) := (cell_of_block hb9 1).trans rfl
 have f0 := unfrozen_of_block hb9 0
 have f1 := unfrozen_of_block hb9 1
 have hz9 := hst.keeps.size
 have hb10 := block_setCell (block_setCell hb9 (i := 0) (.int .i64 ((t : Int) + 1))) (i := 1) (.string (txt l))
 have hk10 : Keeps (fun b => b ≠ q) w9 ((w9.setCell ⟨q, 0, none⟩ (.int .i64 ((t : Int) + 1))).setCell ⟨q, 1, none⟩ (.string (txt l))) := ((Keeps.refl _ w9).setCell (.inr fun hn => hn rfl) _).setCell (.inr fun hn => hn rfl) _
 have HB10 := Lib.hid hb10
 have HK10 := Lib.hid hk10
 have HST := Lib.hid hst
 have HD9 := Lib.hid hd9
 clear hst hb9 hrc hz9 hb10 hk10 hd9 hst9 c2 HS8 HF HR3 HB3
 go_wp2_with fail
 have hb10 := HB10.out
 have hk10 := HK10.out
 clear HB10 HK10 c0 c1 f0 f1 r0 r1
 generalize ((w9.setCell ⟨q, 0, none⟩ (.int .i64 ((t : Int) + 1))).setCell ⟨q, 1, none⟩ (.string (txt l))) = w10 at hb10 hk10 ⊢
 have c3 : w10.cell? ⟨q, 3, none⟩ = some (.int .i64 (lat : Int)) := (cell_of_block hb10 3).trans rfl
 have c4 : w10.cell? ⟨q, 4, none⟩ = some (.int .i64 (sp : Int)) := (cell_of_block hb10 4).trans rfl
 have f3 := unfrozen_of_block hb10 3
 have f4 := unfrozen_of_block hb10 4
 have hfin : ∀ w11 : World, w11.heap[q]? = some (.cells #[.int .i64 ((t : Int) + 1), .string (txt l), .pointer (some ⟨p, 0, none⟩), .int .i64 (sp : Int), .int .i64 (lat : Int)] 104 (0, 0)) → Keeps (fun b => b ≠ q) w10 w11 →
   ∃ F', DAt w11 p F' (SDev.still (s.now.set sp (encS (t + 1) l)) (s.calls + 2)) ∧ SBlk w11 q p sp lat (t + 1) l ∧ Keeps (fun b => ¬ F.M b ∧ b ≠ q) w w11 ∧ (∀ b, F'.M b → F.M b ∨ w.heap.size ≤ b) ∧ (∀ b, F'.I b → F.all b ∨ w.heap.size ≤ b) := by
  intro w11 hb11 hk11
  have hst := HST.out
  have hk1 := HK3.out
  have hk := hk10.trans hk11
  have hqF : ¬ F9.all q := fun hf => by
   rcases hst.all q hf with h1 | h1
   ·exact hq h1
   ·have := HZ3.out; omega
  refine ⟨F9, HD9.out.keep (hk.mono fun b _ hb e => hqF (by rw [← e]; exact hb)), hb11, ?_, fun b hb => (hst.m b hb).imp id fun h1 => Nat.le_trans hk1.size h1, fun b hb => (hst.i b hb).imp id fun h1 => Nat.le_trans hk1.size h1⟩
  exact ((hk1.mono fun _ _ _ => trivial).trans (hst.keeps.mono fun b _ hb => hb.1)).trans (hk.mono fun b _ hb => hb.2)
 have hb11 := block_setCell (block_setCell hb10 (i := 3) (.int .i64 (sp : Int))) (i := 4) (.int .i64 (lat : Int))
 have hk11 : Keeps (fun b => b ≠ q) w10 ((w10.setCell ⟨q, 3, none⟩ (.int .i64 (sp : Int))).setCell ⟨q, 4, none⟩ (.int .i64 (lat : Int))) := ((Keeps.refl _ w10).setCell (.inr fun hn => hn rfl) _).setCell (.inr fun hn => hn rfl) _
 have HFIN := Lib.hid (hfin ((w10.setCell ⟨q, 3, none⟩ (.int .i64 (sp : Int))).setCell ⟨q, 4, none⟩ (.int .i64 (lat : Int))).drew (hb11.trans rfl) hk11.drew)
 clear hfin hb11 hk11 hb10 hk10
 go_region
 go_wp2_with fail
 go_ret
 exact ⟨rfl, HFIN.out⟩
end Go.Proofs.YtemkjodkmehffaaGreatDoor
