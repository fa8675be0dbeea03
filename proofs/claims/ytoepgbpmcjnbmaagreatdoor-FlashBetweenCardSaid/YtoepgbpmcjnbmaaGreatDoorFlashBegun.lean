/-
  'begun' OF LAYER 9 ANSWERS true, whatever the program's cache is made of.
-/
import Derived.Test.YtoepgbpmcjnbmaaGreatDoorFlashIf
import Derived.Outline
namespace Go.Proofs.YtoepgbpmcjnbmaaGreatDoor
open Go Go.RowKit Go.Joins
def kK : ByteArray := { data := #[107] }
def kV : ByteArray := { data := #[118] }
def iK : It := ⟨kK, kV, 9, false⟩
def b9 (o g a : Nat) : FSt := ⟨2, 10, [⟨iK, o⟩], g, a⟩
theorem fcost_iK (o : Nat) : fcosts [⟨iK, o⟩] = 82 + 400 * o := by
  have : fcosts [⟨iK, o⟩] = kK.size + kV.size + 80 + 400 * o := by simp [fcosts, FEnt.cost, iK]
  rw [this]
  have h1 : kK.size = 1 := by decide
  have h2 : kV.size = 1 := by decide
  omega
theorem getE_9 (o a : Nat) (now : Int) : getE (b9 o 0 a) kK now = if now < 9 then .returned (.tuple #[.agg #[.string ⟨#[107]⟩, .string ⟨#[118]⟩, .int .i64 9, .bool false], .bool true]) else .returned (.tuple #[.agg #[.string ⟨#[]⟩, .string ⟨#[]⟩, .int .i64 0, .bool false], .bool false]) := by
  have e : (b9 o 0 a).at_ kK = some iK := rfl
  have hl : iK.live now = decide (now < 9) := by
    have h1 : iK.may = true := by decide
    unfold It.live
    rw [h1]
    show (true && !false && (decide ((9 : Int) = 0) || decide (now < 9))) = _
    simp
  unfold getE
  rw [e]
  show (if iK.live now = true then _ else _) = _
  rw [hl]
  by_cases h : now < 9 <;> simp [h, iK, kK, kV]
set_option maxRecDepth 100000 in
set_option maxHeartbeats 1000000 in
theorem begun9 (S : FlashOK) (w : World) (hT : S.T w) : Calls Tryz.prog 10 #[] w fun e w' => e = .returned (.bool true) ∧ Keeps (fun _ => True) w w' := by
  have HT := Lib.hid hT
  clear hT
  go_enter Tryz.func10, Tryz.ntmps10
  go_wp2_with fail
  refine (show Calls _ _ _ _ _ from fo_dev (X := fun _ => False) (Keeps.refl _ w) (fun _ h => h.elim) 100 (by decide) (by decide) 100 rfl).mono ?_
  rintro e w1 ⟨p, rfl, hB, -⟩
  have HB := Lib.hid hB
  clear hB
  go_wp2_with fail
  refine (show Calls _ _ _ _ _ from fo_open HT.out HB.out 2 10 2 10 rfl rfl (by decide) (by decide) (by decide)).mono ?_
  rintro e w2 ⟨q, rfl, hF, -⟩
  have HF := Lib.hid hF
  clear hF HB
  go_wp2_with fail
  refine (show Calls _ _ _ _ _ from fo_put HT.out HF.out (by decide) iK (by decide) rfl).mono ?_
  rintro e w3 ⟨rfl, g, -, hF, -⟩
  have hF : Fo S w w3 p q (b9 0 g 2) false (fun _ => False) := hF
  have hg : g = 0 := hF.wf.whole (by show fcosts [⟨iK, 0⟩] ≤ 200 * (10 - 2); rw [fcost_iK]; decide)
  subst hg
  have HF3 := Lib.hid hF
  clear hF HF
  go_wp2_with fail
  refine (show Calls _ _ _ _ _ from fo_get HT.out HF3.out kK 5 (by decide) (by decide) (by decide) _ (by rw [getE_9, if_pos (by decide)])).mono ?_
  rintro e w4 ⟨rfl, hk4, hF⟩
  obtain ⟨w5, hw5⟩ : ∃ w5, w4.alloc (.cells #[.string ⟨#[107]⟩, .string ⟨#[118]⟩, .int .i64 9, .bool false] 35) = w5 := ⟨_, rfl⟩
  have hb5 := heap_alloc_new w4 (.cells #[.string ⟨#[107]⟩, .string ⟨#[118]⟩, .int .i64 9, .bool false] 35)
  have hk5 : Kp w4 (w4.alloc (.cells #[.string ⟨#[107]⟩, .string ⟨#[118]⟩, .int .i64 9, .bool false] 35)) := (Keeps.refl _ w4).alloc _
  have hs5 : (w4.alloc (.cells #[.string ⟨#[107]⟩, .string ⟨#[118]⟩, .int .i64 9, .bool false] 35)).heap.size = w4.heap.size + 1 := by simp
  rw [hw5] at hb5 hk5 hs5
  have HF5 := Lib.hid (show Fo S w w5 p q (b9 0 0 2) false (fun b => b = w4.heap.size) from hF.more hk5 fun b hb => .inr (by omega))
  have c1 : w5.cell? ⟨w4.heap.size, 1, none⟩ = some (.string ⟨#[118]⟩) := (cell_of_block hb5 1).trans rfl
  have HW5 := Lib.hid hw5
  clear hF HF3 hk4 hw5 hb5 hk5 hs5
  go_wp2_with fail
  rw [HW5.out]
  generalize w4.heap.size = bx at *
  refine (show Calls _ _ _ _ _ from fo_get HT.out HF5.out kK 9 (by decide) (by decide) (by decide) _ (by rw [getE_9, if_neg (by decide)])).mono ?_
  rintro e w6 ⟨rfl, hk6, hF⟩
  obtain ⟨w7, hw7⟩ : ∃ w7, w6.alloc (.cells #[.string ⟨#[]⟩, .string ⟨#[]⟩, .int .i64 0, .bool false] 35) = w7 := ⟨_, rfl⟩
  have hk7 : Kp w6 (w6.alloc (.cells #[.string ⟨#[]⟩, .string ⟨#[]⟩, .int .i64 0, .bool false] 35)) := (Keeps.refl _ w6).alloc _
  rw [hw7] at hk7
  have HF7 := Lib.hid (hF.keep hk7)
  have c17 := (hk6.trans hk7).cell c1 trivial
  have HW7 := Lib.hid hw7
  clear hF HF5 hk6 hk7 hw7 c1
  go_wp2_with fail
  rw [HW7.out]
  refine (show Calls _ _ _ _ _ from fo_flush HT.out HF7.out (by decide)).mono ?_
  rintro e w8 ⟨rfl, hF, hk8⟩
  have c18 := hk8.cell c17 rfl
  have HF8 := Lib.hid (show Fo S w w8 p q (b9 0 0 3) true (fun b => b = bx) from hF)
  clear hF HF7 hk8 c17
  go_wp2_with fail
  refine (show Calls _ _ _ _ _ from fo_crash HF8.out none 0 (fun _ => True) [] 0 rfl (Row.nil _ _ _) (by decide)).mono ?_
  rintro e w9 ⟨r, rfl, hD, hk9, hF⟩
  have HD := Lib.hid hD
  have HF9 := Lib.hid hF
  have c19 := hk9.cell c18 trivial
  clear hD hF HF8 hk9 c18
  go_wp2_with fail
  refine (show Calls _ _ _ _ _ from fo_again HT.out HD.out (by decide) 2 10 rfl rfl).mono ?_
  rintro e w10 ⟨q2, rfl, hG, hk10⟩
  have hG : Fo S w w10 r q2 (b9 1 0 4) false (fun b => b = bx) := hG
  have HG10 := Lib.hid hG
  have HF10 := Lib.hid (HF9.out.keep hk10)
  have c1A := hk10.cell c19 trivial
  clear hG HF9 hk10 c19 HD
  go_wp2_with fail
  refine (show Calls _ _ _ _ _ from fo_get HT.out HG10.out kK 0 (by decide) (by decide) (by decide) _ (by rw [getE_9, if_pos (by decide)])).mono ?_
  rintro e w11 ⟨rfl, hk11, -⟩
  have c1B := hk11.cell c1A trivial
  have hlt : bx < w11.heap.size := World.block_lt_of_cell? w11 _ c1B
  have HF11 := Lib.hid (HF10.out.keep hk11)
  clear HG10 HF10 hk11 c1A
  go_wp2_with fail
  obtain ⟨w13, hw13⟩ : ∃ w13, (w11.alloc (.cells #[.string ⟨#[107]⟩, .string ⟨#[118]⟩, .int .i64 9, .bool false] 35)).alloc (.cells #[.string ⟨#[107]⟩] 9) = w13 := ⟨_, rfl⟩
  have hk13 : Kp w11 ((w11.alloc (.cells #[.string ⟨#[107]⟩, .string ⟨#[118]⟩, .int .i64 9, .bool false] 35)).alloc (.cells #[.string ⟨#[107]⟩] 9)) := ((Keeps.refl _ w11).alloc _).alloc _
  have hs13 : ((w11.alloc (.cells #[.string ⟨#[107]⟩, .string ⟨#[118]⟩, .int .i64 9, .bool false] 35)).alloc (.cells #[.string ⟨#[107]⟩] 9)).heap.size = w11.heap.size + 2 := by simp
  have hrow := Row.fresh (F := fun b => b = w11.heap.size + 1) (w11.alloc (.cells #[.string ⟨#[107]⟩, .string ⟨#[118]⟩, .int .i64 9, .bool false] 35)) #[.string ⟨#[107]⟩] 9 (0, 0) (w11.heap.size + 1) (by simp) rfl ([kK].map Value.string) rfl
  rw [hw13] at hk13 hs13 hrow
  have HF13 := Lib.hid (show Fo S w w13 p q (b9 0 0 3) true (fun b => b = w11.heap.size + 1) from HF11.out.more hk13 fun b hb => .inr (by omega))
  have HR13 := Lib.hid hrow
  have HW13 := Lib.hid hw13
  clear hk13 hs13 hrow hw13 HF11
  rw [HW13.out]
  refine (show Calls _ _ _ _ _ from fo_drop HT.out HF13.out (by decide) (some ⟨w11.heap.size + 1, 0, none⟩) [kK] HR13.out 1 1 rfl (by decide) (by decide) (by decide) (by intro k hk; rw [List.mem_singleton.1 hk]; exact ⟨by decide, by decide⟩)).mono ?_
  rintro e w14 ⟨rfl, g, -, hF, -⟩
  have hF : Fo S w w14 p q ⟨2, 10, [⟨iK, 0⟩, grave kK], g, 5⟩ true (fun b => b = w11.heap.size + 1) := hF
  have hg : g = 0 := hF.wf.whole (by
    show fcosts ([⟨iK, 0⟩] ++ [grave kK]) ≤ 200 * (10 - 2)
    rw [fcosts_append, fcost_iK]
    decide)
  subst hg
  have HF14 := Lib.hid hF
  clear hF HF13 HR13 HW13
  go_wp2_with fail
  refine (show Calls _ _ _ _ _ from fo_keys HT.out HF14.out).mono ?_
  rintro e w15 ⟨A, c, ks, rfl, -, hm, -, -, hF⟩
  have hks : ks = [] := by
    rw [List.eq_nil_iff_forall_not_mem]
    intro k hk
    have h1 := (hm k).1 hk
    by_cases hkk : kK = k
    · subst hkk
      exact absurd h1 (by decide)
    · have h2 : isKF k ⟨iK, 0⟩ = false := by
        cases h : isKF k ⟨iK, 0⟩ with
        | false => rfl
        | true => exact absurd (isKF_iff.1 h) hkk
      have h3 : isKF k (grave kK) = false := by
        cases h : isKF k (grave kK) with
        | false => rfl
        | true => exact absurd (isKF_iff.1 h) hkk
      unfold FSt.at_ fLast at h1
      simp [List.find?, h2, h3] at h1
  subst hks
  have HK15 := Lib.hid hF.kp
  clear hF hm HF14
  go_wp2_with fail
  go_ret
  exact ⟨rfl, HK15.out⟩
end Go.Proofs.YtoepgbpmcjnbmaaGreatDoor
