/-
  SecEnc: texts of mine, joined.
-/
import Derived.Test.YtemkjodkmehffaaGreatDoorAllM16
namespace Go.Proofs.YtemkjodkmehffaaGreatDoor
open Go Go.RowKit Go.Joins
def GE : Nat → Option Bool := fun _ => none
theorem GE_is {V : Nat → World → Value → Prop} (g : Nat) (c : Bool) (h : GE g = some c) (w : World) (x : Value) (_ : V g w x) : x = .bool c := by cases h
def VF (g : Nat) (z : Int) (s : List UInt8) : Nat → World → Value → Prop
 | 0 => IsV (.slice (some ⟨g, 0, none⟩) 64 64)
 | 1 => IsV (.slice (some ⟨g, 60, none⟩) 4 4)
 | 2 => IsV (.int .u8 z)
 | 3 => IsV (.slice (some ⟨g, 0, none⟩) 64 64)
 | 4 => TextG g s
 | _ => fun _ _ => True
theorem VF_keep {g : Nat} {z : Int} {s : List UInt8} (i : Nat) (w w' : World) (v : Value) (h : Keeps (fun b => b ≠ g) w w') (hv : VF g z s i w v) : VF g z s i w' v := by
 match i, hv with
 | 0, hv => exact hv
 | 1, hv => exact hv
 | 2, hv => exact hv
 | 3, hv => exact hv
 | 4, hv => exact TextG.keep h hv
 | n + 5, _ => trivial
def NewB (w w' : World) (v : Value) (l : List UInt8) : Prop := ∃ A c, v = .slice A l.length c ∧ l.length ≤ c ∧ c ≤ maxLen ∧ Row w' A (fun b => w.heap.size ≤ b ∧ b < w'.heap.size) (bcells l)
theorem NewB.of_own {w0 w w' : World} {v : Value} {l : List UInt8} (h : OwnB w' w.heap.size v l) (hs : w0.heap.size ≤ w.heap.size) : NewB w0 w' v l := by
 obtain ⟨A, c, e, hn, hr⟩ := own_slice h
 refine ⟨A, c, e, ?_, ?_, hr.mono fun b _ hb => ⟨Nat.le_trans hs hb.1, hb.2⟩⟩
 all_goals
  rw [e] at h
  rcases h.2 with ⟨h', h0⟩ | ⟨g', cap', cur, h', _, _, h1, h2, _⟩
  ·injection h' with _ h3 h4; omega
  ·injection h' with _ h3 h4; omega
theorem put_one (n : Int) (h1 : -9223372036854775808 ≤ n) (h2 : n < 9223372036854775808) (w : World) :
  Calls Tryz.prog 55 #[.slice none 0 0, .slice (some ⟨w.heap.size, 0, none⟩) 1 1] (w.alloc (.cells #[.int .i64 n] 2)) fun e w' => ∃ v, e = .returned v ∧ NewB w w' v (putZ n) ∧ Keeps (fun _ => True) w w' := by
 refine (show Calls _ _ _ _ _ from put_any none (some ⟨w.heap.size, 0, none⟩) 0 1 (fun _ => True) (fun _ => True) [] [n] (w.alloc (.cells #[.int .i64 n] 2)) (Row.nil _ _ _) (Row.fresh w #[.int .i64 n] 2 (0, 0) _ rfl trivial _ rfl) (fun m hm => by rw [List.mem_singleton.1 hm]; exact ⟨h1, h2⟩) (by simp) (by simp)).mono ?_
 rintro e w' ⟨v, rfl, ho, hk⟩
 have e : ([] : List UInt8) ++ putsZ [n] = putZ n := by simp [putsZ]
 rw [e] at ho
 exact ⟨v, rfl, NewB.of_own ho (by simp), ((Keeps.refl _ w).alloc _).trans hk⟩
theorem text_one (l x : List UInt8) (hl : l.length ≤ 1000) (hx : x.length ≤ 1000) (w : World) (A : Option Addr) (c : Nat) (F : Nat → Prop) (hA : Row w A F (bcells l)) :
  Calls Tryz.prog 113 #[.slice A l.length c, .slice (some ⟨w.heap.size, 0, none⟩) 1 1] (w.alloc (.cells #[.string (txt x)] 9)) fun e w' => ∃ v, e = .returned v ∧ NewB w w' v (l ++ putT x) ∧ Keeps (fun _ => True) w w' := by
 refine (show Calls _ _ _ _ _ from put_text A (some ⟨w.heap.size, 0, none⟩) c 1 _ (fun _ => True) l [txt x] (w.alloc (.cells #[.string (txt x)] 9)) (hA.alloc _) (Row.fresh w #[.string (txt x)] 9 (0, 0) _ rfl trivial _ rfl) (by unfold total; simp only [List.map_cons, List.map_nil, List.sum_cons, List.sum_nil, txt_size]; omega) (by omega) (by simp)).mono ?_
 rintro e w' ⟨v, rfl, ho, hk⟩
 have e : putsT (strs [txt x]) = putT x := by simp [putsT, strs, txt_list]
 rw [e] at ho
 exact ⟨v, rfl, NewB.of_own ho (by simp), ((Keeps.refl _ w).alloc _).trans hk⟩
theorem blank_cells : bcells blank = List.replicate 64 (bcell 0) := by unfold blank bcells; rw [List.map_replicate]
set_option maxRecDepth 100000 in
theorem made64 : (madeCells (Value.int .u8 0).cells (64 * 1)).toList = bcells blank := by kernel_rfl
def rowS (t : Nat) (x : List UInt8) : List UInt8 := headS t x ++ List.replicate (64 - (headS t x).length) 0
theorem rowS_len (t : Nat) (x : List UInt8) (h : (headS t x).length ≤ 60) : (rowS t x).length = 64 := by
 unfold rowS; rw [List.length_append, List.length_replicate]; omega
theorem rowS_take (t : Nat) (x : List UInt8) (h : (headS t x).length ≤ 60) : (rowS t x).take 60 = bodyS t x := by
 unfold rowS
 rw [List.take_append, List.take_of_length_le h, List.take_replicate]
 unfold bodyS
 congr 2
 omega
theorem head_row (t : Nat) (x : List UInt8) : (bcells blank).take 0 ++ bcells (headS t x) ++ (bcells blank).drop (0 + (bcells (headS t x)).length) = bcells (rowS t x) := by
 unfold rowS
 rw [blank_cells, List.take_zero, List.nil_append, List.drop_replicate, bcells_append, bcells_len, Nat.zero_add]
 congr 1
 unfold bcells
 rw [List.map_replicate]
theorem sumOf_row (q : UInt8) (t : Nat) (x : List UInt8) (h : (headS t x).length ≤ 60) : sumOf q (encF q t x) = sumOf q (rowS t x) := by
 unfold sumOf; rw [encF_take q t x h, rowS_take t x h]
theorem enc_row (q : UInt8) (t : Nat) (x : List UInt8) (h : (headS t x).length ≤ 60) :
  (bcells (rowS t x)).take 60 ++ bcells (sumOf q (rowS t x)) ++ (bcells (rowS t x)).drop (60 + (bcells (sumOf q (rowS t x))).length) = bcells (encF q t x) := by
 have e1 := rowS_take t x h
 have e2 : sumOf q (rowS t x) = sumL (crcN (q :: bodyS t x)) := by unfold sumOf; rw [e1]
 have hbl := rowS_len t x h
 have e3 : (bcells (sumOf q (rowS t x))).length = 4 := by rw [e2]; rfl
 rw [e3, List.drop_of_length_le (by rw [bcells_len]; omega), List.append_nil]
 unfold encF
 rw [← e2, ← e1]
 simp [bcells]
set_option maxRecDepth 100000 in
set_option maxHeartbeats 4000000 in
theorem fmake_any (w : World) (hT : Taken w) (q : UInt8) (z : Int) (hz : z = (q.toNat : Int)) (t : Nat) (x : List UInt8) (ht : t < 9223372036854775808) (hx : x.length ≤ 100) (hh : (headS t x).length ≤ 60) :
  Calls Tryz.prog 86 #[.int .u8 z, .int .i64 (t : Int), .string (txt x)] w fun e w' => ∃ v, e = .returned (.tuple #[v, .int .i64 0]) ∧ OwnB w' w.heap.size v (encF q t x) ∧ Keeps (fun _ => True) w w' := by
 have HT := Lib.hid hT
 have HZ := Lib.hid hz
 have HH := Lib.hid hh
 have HX := Lib.hid hx
 have HL1 := Lib.hid (show (putZ (t : Int)).length ≤ 1000 from by have := hh; unfold headS at this; rw [List.length_append] at this; omega)
 have HP := Lib.hid (fun w => put_one (t : Int) (by omega) (by omega) w)
 have HR := Lib.hid (show bcells (headS t x) ++ List.drop (bcells (headS t x)).length (bcells blank) = bcells (rowS t x) from by
  have h := head_row t x
  rwa [List.take_zero, List.nil_append, Nat.zero_add] at h)
 have HN := Lib.hid (rowS_len t x hh)
 have HE := Lib.hid (enc_row q t x hh)
 have HES := Lib.hid (sumOf_row q t x hh)
 have HEL := Lib.hid (encF_len q t x hh)
 clear hT hz hh hx ht
 go_enter Tryz.func86, Tryz.ntmps86
 go_wp2_with fail
 refine (HP.out w).mono ?_
 rintro e w1 ⟨v1, rfl, ⟨A1, c1, rfl, h1, h2, hr1⟩, hk1⟩
 have HTX := Lib.hid (text_one (putZ (t : Int)) x HL1.out (by have := HX.out; omega) w1 A1 c1 _ hr1)
 have HK1 := Lib.hid hk1
 clear h1 h2 hr1 hk1
 go_wp2_with fail
 refine HTX.out.mono ?_
 rintro e w2 ⟨v2, rfl, hn2, hk2⟩
 rw [show putZ (t : Int) ++ putT x = headS t x from rfl] at hn2
 obtain ⟨A2, c2, rfl, h1, h2, hr2⟩ := hn2
 have HK2 := Lib.hid (HK1.out.trans hk2)
 have HR2 := Lib.hid (hr2.mono (G := fun b => w.heap.size ≤ b ∧ b < w2.heap.size) fun b _ hb => ⟨Nat.le_trans HK1.out.size hb.1, hb.2⟩)
 have HT2 := Lib.hid (HT.out.keep (HK1.out.trans hk2))
 have HH2 := HH.out
 have hd : decide ((60 : Int) < ((headS t x).length : Int)) = false := by simp; omega
 clear h1 h2 hr2 hk2 HTX
 go_wp2_with (refine list_make rfl (.const (.int .i64 64)) (.const (.int .i64 64)) 71 rfl byte_elem .i64 .i64 64 rfl rfl (by decide) (by decide) (bcells blank) made64 ?_)
 intro w3 hown hg3
 have hk3 : Keeps (fun _ => True) w2 w3 := Keeps.of_grown hg3 (fun _ h => by cases h)
 have HR3 := Lib.hid (HR2.out.keep (hk3.mono fun _ _ _ => trivial))
 obtain ⟨g, hgg⟩ : ∃ g, g = w2.heap.size := ⟨_, rfl⟩
 rw [← hgg] at hown ⊢
 have HOWN := Lib.hid hown
 have HG := Lib.hid (show w.heap.size ≤ g ∧ g < w3.heap.size ∧ (∀ b, b < g → b ≠ g) from ⟨by have := HK2.out.size; omega, (hown.lt g rfl).2, fun b h => by omega⟩)
 have HK3 := Lib.hid (HK2.out.trans hk3)
 have HHC := Lib.hid (show (headS t x).length = (bcells (headS t x)).length from (bcells_len _).symm)
 have HGG := Lib.hid hgg
 have HG2 := Lib.hid (show g = w2.heap.size ∧ Keeps (fun _ => True) w2 w3 from ⟨hgg, hk3⟩)
 clear hown hg3 hk3 hgg
 go_wp2_with (refine list_copy_part rfl (.tmp 20) (.tmp 21) 71 71 rfl 5 Tryz.underlying71 (by kernel_rfl) HOWN.out 0 64 64 rfl A2 _ c2 rfl (bcells (headS t x)) HHC.out (by rw [bcells_len]; omega) HR3.out (bcells_one _) (by rw [bcells_len, bcells_len]; show 0 + (headS t x).length ≤ 64; omega) ?_)
 intro w4 hown hg4
 rw [HR.out] at hown
 have hk4 : Keeps (fun b => b ≠ g) w3 w4 := keeps_grown hg4
 have hk44 : Keeps (fun _ => True) w w4 := by
  have hk3 := HK3.out
  exact ⟨hk4.os.trans hk3.os, hk4.tape.trans hk3.tape, hk4.output.trans hk3.output, Nat.le_trans hk3.size hk4.size, fun i _ hi => (hk4.block i (by have := HG.out.1; show i ≠ g; omega) (Nat.lt_of_lt_of_le hi hk3.size)).trans (hk3.block i trivial hi)⟩
 have HW4 := Lib.hid (show StRow w4 g g 5 64 64 (bcells (rowS t x)) (bcells (encF q t x)) false w4.drew from ⟨(Keeps.refl (fun _ => True) w4).drew.own (by have := HG2.out.1; subst this; exact hown) fun _ _ => trivial, (Keeps.refl _ w4).drew, Nat.lt_of_lt_of_le HG.out.2.1 hk4.size⟩)
 have HT4 := Lib.hid (HT.out.keep hk44)
 have HK4 := Lib.hid hk44
 have HTG := Lib.hid (show ∀ i, i < 16 → (⟨0, i, none⟩ : Addr).block ≠ g from fun i hi => by
  have h1 := World.block_lt_of_cell? w _ (HT.out i hi)
  have := HG.out.1
  show 0 ≠ g
  simp only at h1
  omega)
 clear hown hg4 hk4 hk44 HOWN HR3 HR2 HT2
 go_wp2_with fail
 refine wp_region_one (V := VF g z (sumOf q (rowS t x))) (w0 := w4) 5 (StRow w4 g g 5 64 64 (bcells (rowS t x)) (bcells (encF q t x))) (fun w w' => w.grownBy w' (some g)) GE (by kernel_rfl) (fun i w w' v h hv => VF_keep i w w' v (h.mono fun _ _ _ => trivial) hv) (fun _ _ _ h hs => hs.keep h) (fun i _ w w' v h hv => VF_keep i w w' v (keeps_grown h) hv) (by kernel_rfl) (by decide) GE_is (fun i o ho hw => (all_wanted (by kernel_rfl) ho hw).elim) HW4.out (each_of ?_) ?_
 ·refine ⟨?_, ?_, ?_, ?_, ?_, ?_, trivial⟩ <;> intro hw a1 w3 L
  ·rw [if_neg (by decide)]
   intro b hs _
   exact kp_move rfl (L.old 9 (by kernel_rfl))
  ·rw [if_neg (by decide)]
   intro b hs _
   have e0 : a1.eval (.tmp 23) = .slice (some ⟨g, 0, none⟩) 64 64 := L.val 0 23 (by kernel_rfl) (by kernel_rfl)
   have hcn : a1.eval (.const (.int .i64 60)) = .int .i64 60 := rfl
   refine kp_yield (v := .slice (some ⟨g, 60, none⟩) 4 4) (w' := w3) ?_ (Keeps.refl _ _) rfl
   generalize a1.eval = ρ at e0 hcn ⊢
   unfold execOp
   go_simp
  ·rw [if_neg (by decide)]
   intro b hs _
   exact kp_move rfl (L.old 0 (by kernel_rfl))
  ·rw [if_neg (by decide)]
   intro b hs _
   exact kp_move rfl (L.old 9 (by kernel_rfl))
  ·rw [if_neg (by decide)]
   intro b hs _
   have e0 : a1.eval (.tmp 26) = .slice (some ⟨g, 0, none⟩) 64 64 := L.val 3 26 (by kernel_rfl) (by kernel_rfl)
   have e1 : a1.eval (.tmp 25) = .int .u8 z := L.val 2 25 (by kernel_rfl) (by kernel_rfl)
   have hf : a1.eval (.func 114) = .func (.func 114) #[] #[] := rfl
   have hT3 : Taken w3 := fun i hi => hs.2.1.cell (HT4.out i hi) (HTG.out i hi)
   obtain ⟨l, hl, hsl, hrw⟩ : ∃ l : List UInt8, l.length = 64 ∧ sumOf q l = sumOf q (rowS t x) ∧ Row w3 (some ⟨g, 0, none⟩) (fun b => b = g) (bcells l) := by
    cases b
    ·exact ⟨rowS t x, HN.out, rfl, own_row hs.1⟩
    ·exact ⟨encF q t x, HEL.out, HES.out, own_row hs.1⟩
   refine kp_enter (f := 114) (args := #[.int .u8 z, .slice (some ⟨g, 0, none⟩) 64 64]) ?_ (fsum_any q z HZ.out (some ⟨g, 0, none⟩) 64 _ l w3 hrw hl (Nat.le_refl _) (by decide) hT3) ?_
   ·clear hs hrw hT3
    generalize a1.eval = ρ at e0 e1 hf ⊢
    unfold execOp
    go_simp
   ·rintro e w' ⟨v, rfl, ho, hk⟩
    rw [hsl] at ho
    exact ⟨v, rfl, hk, TextG.of_own ho hs.2.2⟩
  ·rw [if_pos rfl]
   intro hs
   obtain ⟨A, c, e3, h1, h2, hr⟩ := L.val 4 27 (by kernel_rfl) (by kernel_rfl)
   have e0 : a1.eval (.tmp 24) = .slice (some ⟨g, 60, none⟩) 4 4 := L.val 1 24 (by kernel_rfl) (by kernel_rfl)
   refine Oper.wp_mono ?_ (one_copy (.tmp 24) (.tmp 27) 71 71 rfl Tryz.underlying71 (by kernel_rfl) hs 60 4 4 e0 A _ c e3 (bcells_len _).symm (by rw [bcells_len]; exact Nat.le_refl 4)
    (fun e => by have := congrArg List.length e; rw [bcells_len] at this; cases this) hr (bcells_one _) (by rw [bcells_len, bcells_len, HN.out]; exact Nat.le_refl 64) HE.out)
   rintro a' w' ⟨v, h1, h2, h3, h4⟩
   exact ⟨v, h1, h2, h3, trivial⟩
 ·intro vs w5 hs5 hlen5 hv5
  match vs, hlen5 with
  | [u0, u1, u2, u3, u4, u5], _ =>
   clear hv5
   simp only [putAll, List.map, Act.put, List.setIfInBounds_toArray, List.set_cons_succ, List.set_cons_zero, Exit.then]
   obtain ⟨ho5, hkp5, hg5⟩ := hs5
   have hk4 := HK4.out
   have hk55 : Keeps (fun _ => True) w w5 := ⟨hkp5.os.trans hk4.os, hkp5.tape.trans hk4.tape, hkp5.output.trans hk4.output, Nat.le_trans hk4.size hkp5.size, fun i _ hi => (hkp5.block i (by have := HG.out.1; show i ≠ g; omega) (Nat.lt_of_lt_of_le hi hk4.size)).trans (hk4.block i trivial hi)⟩
   have hown5 : OwnB w5 w.heap.size (.slice (some ⟨g, 0, none⟩) 64 64) (encF q t x) := by
    unfold OwnB
    rw [HEL.out]
    exact ownsRow_le ho5 HG.out.1
   have H1 := Lib.hid (show ∃ v, Ending.returned (.tuple #[.slice (some ⟨g, 0, none⟩) 64 64, .int .i64 0]) = .returned (.tuple #[v, .int .i64 0]) ∧ OwnB w5 w.heap.size v (encF q t x) ∧ Keeps (fun _ => True) w w5 from ⟨_, rfl, hown5, hk55⟩)
   clear ho5 hkp5 hg5 hk4 hk55 hown5 HW4 HT4
   go_wp2_with fail
   go_ret2
   exact H1.out
end Go.Proofs.YtemkjodkmehffaaGreatDoor
