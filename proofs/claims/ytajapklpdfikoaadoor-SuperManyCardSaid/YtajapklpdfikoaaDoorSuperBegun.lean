/-
  'begun' OF LAYER 5 ANSWERS true, whatever the program's slots are made of.
-/
import Derived.Test.YtajapklpdfikoaaDoorSuperIf
import Derived.Outline
namespace Go.Proofs.YtajapklpdfikoaaDoor
open Go Go.RowKit Go.Joins

def oneL : List UInt8 := [111, 110, 101]
def oneV : Array Value := #[.int .u8 111, .int .u8 110, .int .u8 101]
theorem oneV_is : oneV.toList = bcells oneL := by simp [oneV, oneL, bcells, bcell]
def twoL : List UInt8 := [116, 119, 111]
def twoV : Array Value := #[.int .u8 116, .int .u8 119, .int .u8 111]
theorem twoV_is : twoV.toList = bcells twoL := by simp [twoV, twoL, bcells, bcell]
/-- The constant's text. -/
theorem two_txt : txt twoL = { data := #[116, 119, 111] } := rfl

set_option maxHeartbeats 2000000 in
theorem begun5 (S : SupOK) (w : World) (hT : S.T w) : Calls Tryd.prog 14 #[] w fun e w' => e = .returned (.bool true) ∧ Keeps (fun _ => True) w w' := by
  have kc := fun (w : World) (C : Array Value) (n c : Nat) => Lib.run_convert_bytes_const (P := Tryd.prog) w 31 5 C n c Tryd.underlying31 Tryd.underlying5
  have HT := Lib.hid hT
  clear hT
  go_enter Tryd.func14, Tryd.ntmps14
  go_wp2_with fail
  refine (dv_new (Keeps.refl _ w) 4 (by decide) (by decide) 4 rfl).mono ?_
  rintro e w1 ⟨p, F, rfl, hd, -, -⟩
  have HD := Lib.hid hd
  clear hd
  go_wp2_with fail
  have hm := duo_make S HT.out (HD.out.keep ((Keeps.refl _ w1).alloc (.cells oneV 5 (3, 4)))) 1 1 rfl (some ⟨w1.heap.size, 0, none⟩) 3 oneL 3 rfl (by decide)
    (Row.fresh (F := fun b => ¬ F.all b) w1 oneV 5 (3, 4) _ rfl (fun hf => by have := HD.out.d.lt _ hf; omega) (bcells oneL) oneV_is) (by decide) (by decide) (fun h => by cases h) (by decide) (by decide)
  refine (show Calls _ _ _ _ _ from hm).mono ?_
  rintro e w2 ⟨q, F2, Fs, k2, rfl, hd2, hk2, -, -⟩
  have hk2' : k2 ≤ 100 := hk2
  have HD2 := Lib.hid hd2
  clear hm hd2 hk2 HD
  go_wp2_with fail
  have hs := duo_save HT.out (HD2.out.keep ((Keeps.refl _ w2).alloc (.cells twoV 5 (3, 4)))) (some ⟨w2.heap.size, 0, none⟩) 3 twoL 3 rfl
    (Row.fresh (F := fun b => ¬ F2.all b ∧ ¬ Fs.all b) w2 twoV 5 (3, 4) _ rfl ⟨fun hf => by have := HD2.out.dv.d.lt _ hf; omega, fun hf => by have := S.lt HD2.out.su _ hf; omega⟩ (bcells twoL) twoV_is) (by decide) (by decide) (fun h => by cases h) (by decide) (show k2 ≤ _ by omega) (show (1 : Nat) ≤ 549755813888 by decide)
  refine (show Calls _ _ _ _ _ from hs).mono ?_
  rintro e w3 ⟨rfl, F3, Fs3, k3, hd3, -, -, -, -, -, -⟩
  have HD3 := Lib.hid hd3
  clear hs hd3 HD2
  go_wp2_with fail
  have ho := duo_open S HT.out HD3.out.dv 1 1 2 twoL 1 rfl HD3.out.room (by decide) (by decide) (by decide) HD3.out.sec (fun t' x' hx => by
    have e1 : (SDev.still (List.set (SDev.still (((SDev.still (List.replicate 4 blank) 0).now.set 1 (S.enc 1 oneL)).set (1 + 1) blank) k2).now (1 + (1 - 0)) (S.enc (1 + 1) twoL)) k3).now.getD (1 + (1 - 1)) [] = S.enc 1 oneL := rfl
    rw [e1, S.decEnc 1 oneL (by decide) (by decide) (by decide)] at hx
    injection hx with hx
    injection hx with hx
    omega) (by decide)
  refine (show Calls _ _ _ _ _ from ho).mono ?_
  rintro e w4 ⟨q4, Fs4, rfl, hd4, -, hk4⟩
  have HD4 := Lib.hid hd4
  have HS4 := Lib.hid (S.keep HD3.out.su (hk4.mono fun _ _ _ => trivial))
  clear ho hd4 hk4 HD3
  go_wp2_with fail
  refine (duo_text HT.out HD4.out).mono ?_
  rintro e w5 ⟨A, c, rfl, hr, hk5⟩
  have hcv := hr.to_string (P := Tryd.prog) Tryd.underlying31 Tryd.underlying5 Tryd.underlying9 twoL.length c rfl
  rw [two_txt] at hcv
  have HD5 := Lib.hid (HD4.out.keep hk5)
  have HS5 := Lib.hid (S.keep HS4.out (hk5.mono fun _ _ _ => trivial))
  clear hr hk5 HD4 HS4
  go_wp2_with fail
  refine (S.turn w5 q4 Fs4 _ HD5.out.su).mono ?_
  rintro e w' ⟨rfl, rfl⟩
  go_wp2_with fail
  refine (S.turn w5 q Fs3 _ HS5.out).mono ?_
  rintro e w' ⟨rfl, rfl⟩
  go_wp2_with fail
  go_ret
  exact ⟨rfl, HD5.out.dv.kp⟩

end Go.Proofs.YtajapklpdfikoaaDoor
