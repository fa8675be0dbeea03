/-
  'begun' OF LAYER 4 ANSWERS true.
-/
import Derived.Test.YtgmgojpkjchmcaaDevIf
import Derived.Lib.SlBytesConst
import Derived.Outline
namespace Go.Proofs.Ytgmgojpkjchmcaa
open Go Go.RowKit Go.Joins

def ab : List UInt8 := [97, 98]
def abv : Array Value := #[.int .u8 97, .int .u8 98]
theorem abv_is : abv.toList = bcells ab := by simp [abv, ab, bcells, bcell]
def b1 : SDev := ((SDev.new 4).writeZ 1 ab).2
theorem b1_code : ((SDev.new 4).writeZ 1 ab).1 = 0 := by decide +kernel
theorem b1_calls : b1.calls = 1 := by decide +kernel
theorem b1_len : b1.now.length = 4 := by decide +kernel
theorem b1_loose : b1.loose = [1] := by decide +kernel
def la : List UInt8 := 97 :: 98 :: List.replicate 62 0
theorem b1_a : (b1.crash [true]).readL 1 = la := by decide +kernel
theorem b1_ae : (b1.crash [true]).readE 1 = 0 := by decide +kernel
theorem b1_b : (b1.crash []).readL 1 = blank := by decide +kernel
theorem b1_be : (b1.crash []).readE 1 = 0 := by decide +kernel
theorem clamp4 : clampN 4 = 4 := by decide +kernel

set_option maxHeartbeats 2000000 in
theorem begun_any (D : DevOK) (w : World) : Calls Try.prog 9 #[] w fun e w' => e = .returned (.bool true) ∧ Keeps (fun _ => True) w w' := by
  have kc := fun (w : World) (C : Array Value) (n c : Nat) => Lib.run_convert_bytes_const (P := Try.prog) w 28 5 C n c Try.underlying28 Try.underlying5
  go_enter Try.func9, Try.ntmps9
  go_wp2_with fail
  refine (D.new _ 4 (by decide) (by decide)).mono ?_
  rintro e w1 ⟨p, F, rfl, hr, hge, hk1⟩
  rw [clamp4] at hr
  have hlt := D.lt hr
  have HR := Lib.hid hr
  have HK1 := Lib.hid hk1
  have HG := Lib.hid hge
  have HL := Lib.hid hlt
  clear hr hk1 hge hlt
  go_wp2_with fail
  have hw := D.write (w1.alloc (.cells abv 5 (2, 3))) p F (SDev.new 4) (D.keep HR.out ((Keeps.refl _ _).alloc _)) 1 (some ⟨w1.heap.size, 0, none⟩) 2 (fun b => b = w1.heap.size) ab (by decide) (by decide)
    (Row.fresh (F := fun b => b = w1.heap.size) w1 abv 5 (2, 3) _ rfl rfl (bcells ab) abv_is) (fun b hb hF => by have := HL.out b hF; omega) (by decide) (by decide) (fun h => by cases h) (by decide)
  refine (show Calls _ _ _ _ _ from hw).mono ?_
  rintro e w2 ⟨rfl, F2, hr2, hs2⟩
  rw [b1_code]
  have HR2 := Lib.hid (show D.rep w2 p F2 b1 from hr2)
  have HK2 := Lib.hid ((Step.old (a := w) hs2 (fun b hb => HG.out b (.inl hb)) (HK1.out.alloc _)))
  clear hr2 hs2 hw
  go_wp2_with fail
  have hc1 := D.crash (w2.alloc (.cells #[.bool true] 4)) p F2 b1 (D.keep HR2.out ((Keeps.refl _ _).alloc _)) (some ⟨w2.heap.size, 0, none⟩) 1 (fun _ => True) [true]
    (Row.fresh (F := fun _ => True) w2 #[.bool true] 4 (0, 0) _ rfl trivial _ rfl) (by decide)
  refine (show Calls _ _ _ _ _ from hc1).mono ?_
  rintro e w3 ⟨q, F3, rfl, hr3, -, -, hk3⟩
  have HR3 := Lib.hid hr3
  have HR3d := Lib.hid (D.keep HR2.out ((((Keeps.refl (fun _ => True) w2).alloc (.cells #[.bool true] 4)).trans hk3).mono fun _ _ _ => trivial))
  have HK3 := Lib.hid ((HK2.out.alloc (.cells #[.bool true] 4)).trans hk3)
  clear hr3 hk3 hc1
  go_wp2_with fail
  refine (D.read w3 q F3 _ HR3.out 1 (by decide) (by decide)).mono ?_
  rintro e w4 ⟨v4, rfl, ho4, hk4⟩
  rw [b1_a] at ho4
  rw [b1_ae]
  obtain ⟨A4, c4, rfl, -, r4⟩ := own_slice ho4
  obtain ⟨ab1, ao1, e1, -, ha⟩ := r4.at_ (k := 1) (by decide)
  cases e1
  have hll : la.length = 64 := by decide
  rw [hll]
  have HA := Lib.hid (show w4.cell? ⟨ab1, ao1 + 1, none⟩ = some (.int .u8 98) from ha.trans (by rfl))
  have HR4 := Lib.hid (D.keep HR3d.out (hk4.mono fun _ _ _ => trivial))
  have HK4 := Lib.hid (HK3.out.trans hk4)
  clear ho4 hk4 r4 ha hll
  go_wp2_with fail
  refine (D.crash w4 p F2 b1 HR4.out none 0 (fun _ => True) [] (Row.nil _ _ _) (by decide)).mono ?_
  rintro e w5 ⟨q5, F5, rfl, hr5, -, -, hk5⟩
  have HR5 := Lib.hid hr5
  have HR5d := Lib.hid (D.keep HR4.out (hk5.mono fun _ _ _ => trivial))
  have HK5 := Lib.hid (HK4.out.trans hk5)
  have HA5 := Lib.hid (hk5.cell HA.out trivial)
  clear hr5 hk5
  go_wp2_with fail
  refine (D.read w5 q5 F5 _ HR5.out 1 (by decide) (by decide)).mono ?_
  rintro e w6 ⟨v6, rfl, ho6, hk6⟩
  rw [b1_b] at ho6
  rw [b1_be]
  obtain ⟨A6, c6, rfl, -, r6⟩ := own_slice ho6
  obtain ⟨bb1, bo1, e1, -, hb⟩ := r6.at_ (k := 0) (by decide)
  cases e1
  have hll : blank.length = 64 := by decide
  rw [hll]
  have HB := Lib.hid (show w6.cell? ⟨bb1, bo1, none⟩ = some (.int .u8 0) from hb.trans (by rfl))
  have HA6 := Lib.hid (hk6.cell HA5.out trivial)
  have HR6 := Lib.hid (D.keep HR5d.out (hk6.mono fun _ _ _ => trivial))
  have HK6 := Lib.hid (HK5.out.trans hk6)
  clear ho6 hk6 r6 hb hll
  go_wp2_with fail
  refine (D.loose w6 p F2 b1 HR6.out).mono ?_
  rintro e w7 ⟨v7, rfl, ho7, hk7⟩
  rw [b1_loose] at ho7
  obtain ⟨A7, c7, rfl, -, r7⟩ := own_slice ho7
  obtain ⟨lb1, lo1, e1, -, hl⟩ := r7.at_ (k := 0) (by decide)
  cases e1
  have hl7 : w7.cell? ⟨lb1, lo1, none⟩ = some (.int .i64 1) := hl.trans (by rfl)
  have ha7 := hk7.cell HA6.out trivial
  have hb7 := hk7.cell HB.out trivial
  have HR7 := Lib.hid (D.keep HR6.out (hk7.mono fun _ _ _ => trivial))
  have HK7 := Lib.hid (HK6.out.trans hk7)
  clear ho7 hk7 r7 hl
  go_wp2_with fail
  refine (D.calls w7 p F2 b1 HR7.out).mono ?_
  rintro e w' ⟨rfl, rfl⟩
  rw [b1_calls]
  go_wp2_with fail
  refine (D.len w7 p F2 b1 HR7.out).mono ?_
  rintro e w' ⟨rfl, rfl⟩
  rw [b1_len]
  go_wp2_with fail
  go_ret
  exact ⟨rfl, HK7.out⟩
end Go.Proofs.Ytgmgojpkjchmcaa
