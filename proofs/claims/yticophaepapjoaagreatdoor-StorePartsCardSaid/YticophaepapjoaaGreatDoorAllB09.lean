/-
  SecEnc, SecDec: texts of mine, joined.
-/
import Derived.Test.YticophaepapjoaaGreatDoorAllB07
open Go.Lib renaming hid → Hd
set_option maxRecDepth 100000
set_option maxHeartbeats 8000000
namespace Go.Proofs.YticophaepapjoaaGreatDoor
open Go Go.RowKit Go.Joins
def GE : Nat → Option Bool := fun _ => none
theorem GE_is {V : Nat → World → Value → Prop} (g : Nat) (c : Bool) (h : GE g = some c) (w : World) (x : Value) (_ : V g w x) : x = .bool c := by cases h
def VF (g : Nat) (z : Int) (s : List UInt8) : Nat → World → Value → Prop
 | 0 => IsV (.slice (some ⟨g, 0, none⟩) 64 64)
 | 1 => IsV (.slice (some ⟨g, 60, none⟩) 4 4)
 | 2 => IsV (.int .u8 z)
 | 3 => IsV (.slice (some ⟨g, 0, none⟩) 64 64)
 | 4 => TextG g s
 | _ => fun _ _ => True
theorem VF_keep {g : Nat} {z : Int} {s : List UInt8} (i : Nat) (w w' : World) (v : Value) (h : Keeps (fun b => b ≠ g) w w') (hv : VF g z s i w v) : VF g z s i w' v := by
 match i, hv with
 | 0, hv => exact hv
 | 1, hv => exact hv
 | 2, hv => exact hv
 | 3, hv => exact hv
 | 4, hv => exact TextG.keep h hv
 | n + 5, _ => trivial
def NewB (w w' : World) (v : Value) (l : List UInt8) : Prop := ∃ A c, v = .slice A l.length c ∧ l.length ≤ c ∧ c ≤ maxLen ∧ Row w' A (fun b => w.heap.size ≤ b ∧ b < w'.heap.size) (bcells l)
theorem NewB.of_own {w0 w w' : World} {v : Value} {l : List UInt8} (h : OwnB w' w.heap.size v l) (hs : w0.heap.size ≤ w.heap.size) : NewB w0 w' v l := by
 obtain ⟨A, c, e, hn, hr⟩ := own_slice h
 refine ⟨A, c, e, ?_, ?_, hr.mono fun b _ hb => ⟨Nat.le_trans hs hb.1, hb.2⟩⟩
 all_goals
  rw [e] at h
  rcases h.2 with ⟨h', h0⟩ | ⟨g', cap', cur, h', _, _, h1, h2, _⟩
  ·injection h' with _ h3 h4; omega
  ·injection h' with _ h3 h4; omega
theorem put_one (n : Int) (h1 : -9223372036854775808 ≤ n) (h2 : n < 9223372036854775808) (w : World) :
  Calls Tryz.prog 79 #[.slice none 0 0, .slice (some ⟨w.heap.size, 0, none⟩) 1 1] (w.alloc (.cells #[.int .i64 n] 2)) fun e w' => ∃ v, e = .returned v ∧ NewB w w' v (putZ n) ∧ Keeps (fun _ => True) w w' := by
 refine (show Calls _ _ _ _ _ from put_any none (some ⟨w.heap.size, 0, none⟩) 0 1 (fun _ => True) (fun _ => True) [] [n] (w.alloc (.cells #[.int .i64 n] 2)) (Row.nil _ _ _) (Row.fresh w #[.int .i64 n] 2 (0, 0) _ rfl trivial _ rfl) (fun m hm => by rw [List.mem_singleton.1 hm]; exact ⟨h1, h2⟩) (by simp) (by simp)).mono ?_
 rintro e w' ⟨v, rfl, ho, hk⟩
 have e : ([] : List UInt8) ++ putsZ [n] = putZ n := by simp [putsZ]
 rw [e] at ho
 exact ⟨v, rfl, NewB.of_own ho (by simp), ((Keeps.refl _ w).alloc _).trans hk⟩
theorem text_one (l x : List UInt8) (hl : l.length ≤ 1000) (hx : x.length ≤ 1000) (w : World) (A : Option Addr) (c : Nat) (F : Nat → Prop) (hA : Row w A F (bcells l)) :
  Calls Tryz.prog 104 #[.slice A l.length c, .slice (some ⟨w.heap.size, 0, none⟩) 1 1] (w.alloc (.cells #[.string (txt x)] 9)) fun e w' => ∃ v, e = .returned v ∧ NewB w w' v (l ++ putT x) ∧ Keeps (fun _ => True) w w' := by
 refine (show Calls _ _ _ _ _ from put_text A (some ⟨w.heap.size, 0, none⟩) c 1 _ (fun _ => True) l [txt x] (w.alloc (.cells #[.string (txt x)] 9)) (hA.alloc _) (Row.fresh w #[.string (txt x)] 9 (0, 0) _ rfl trivial _ rfl) (by unfold total; simp only [List.map_cons, List.map_nil, List.sum_cons, List.sum_nil, txt_size]; omega) (by omega) (by simp)).mono ?_
 rintro e w' ⟨v, rfl, ho, hk⟩
 have e : putsT (strs [txt x]) = putT x := by simp [putsT, strs, txt_list]
 rw [e] at ho
 exact ⟨v, rfl, NewB.of_own ho (by simp), ((Keeps.refl _ w).alloc _).trans hk⟩
theorem blank_cells : bcells blank = List.replicate 64 (bcell 0) := by unfold blank bcells; rw [List.map_replicate]
theorem made64 : (madeCells (Value.int .u8 0).cells (64 * 1)).toList = bcells blank := by kernel_rfl
def rowS (t : Nat) (x : List UInt8) : List UInt8 := headS t x ++ List.replicate (64 - (headS t x).length) 0
theorem rowS_len (t : Nat) (x : List UInt8) (h : (headS t x).length ≤ 60) : (rowS t x).length = 64 := by
 unfold rowS; rw [List.length_append, List.length_replicate]; omega
theorem rowS_take (t : Nat) (x : List UInt8) (h : (headS t x).length ≤ 60) : (rowS t x).take 60 = bodyS t x := by
 unfold rowS
 rw [List.take_append, List.take_of_length_le h, List.take_replicate]
 unfold bodyS
 congr 2
 omega
theorem head_row (t : Nat) (x : List UInt8) : (bcells blank).take 0 ++ bcells (headS t x) ++ (bcells blank).drop (0 + (bcells (headS t x)).length) = bcells (rowS t x) := by
 unfold rowS
 rw [blank_cells, List.take_zero, List.nil_append, List.drop_replicate, bcells_append, bcells_len, Nat.zero_add]
 congr 1
 unfold bcells
 rw [List.map_replicate]
theorem sumOf_row (q : UInt8) (t : Nat) (x : List UInt8) (h : (headS t x).length ≤ 60) : sumOf q (encF q t x) = sumOf q (rowS t x) := by
 unfold sumOf; rw [encF_take q t x h, rowS_take t x h]
theorem enc_row (q : UInt8) (t : Nat) (x : List UInt8) (h : (headS t x).length ≤ 60) :
  (bcells (rowS t x)).take 60 ++ bcells (sumOf q (rowS t x)) ++ (bcells (rowS t x)).drop (60 + (bcells (sumOf q (rowS t x))).length) = bcells (encF q t x) := by
 have e1 := rowS_take t x h
 have e2 : sumOf q (rowS t x) = sumL (crcN (q :: bodyS t x)) := by unfold sumOf; rw [e1]
 have hbl := rowS_len t x h
 have e3 : (bcells (sumOf q (rowS t x))).length = 4 := by rw [e2]; rfl
 rw [e3, List.drop_of_length_le (by rw [bcells_len]; omega), List.append_nil]
 unfold encF
 rw [← e2, ← e1]
 simp [bcells]
theorem fmake_any (w : World) (hT : Taken w) (q : UInt8) (z : Int) (hz : z = (q.toNat : Int)) (t : Nat) (x : List UInt8) (ht : t < 9223372036854775808) (hx : x.length ≤ 100) (hh : (headS t x).length ≤ 60) :
  Calls Tryz.prog 78 #[.int .u8 z, .int .i64 (t : Int), .string (txt x)] w fun e w' => ∃ v, e = .returned (.tuple #[v, .int .i64 0]) ∧ OwnB w' w.heap.size v (encF q t x) ∧ Keeps (fun _ => True) w w' := by
 have HT := Hd hT
 have HZ := Hd hz
 have HH := Hd hh
 have HX := Hd hx
 have HL1 := Hd (show (putZ (t : Int)).length ≤ 1000 from by have := hh; unfold headS at this; rw [List.length_append] at this; omega)
 have HP := Hd (fun w => put_one (t : Int) (by omega) (by omega) w)
 have HR := Hd (show bcells (headS t x) ++ List.drop (bcells (headS t x)).length (bcells blank) = bcells (rowS t x) from by
  have h := head_row t x
  rwa [List.take_zero, List.nil_append, Nat.zero_add] at h)
 have HN := Hd (rowS_len t x hh)
 have HE := Hd (enc_row q t x hh)
 have HES := Hd (sumOf_row q t x hh)
 have HEL := Hd (encF_len q t x hh)
 clear hT hz hh hx ht
 go_enter Tryz.func78, Tryz.ntmps78
 go_wp2_with fail
 refine (HP.out w).mono ?_
 rintro e w1 ⟨v1, rfl, ⟨A1, c1, rfl, h1, h2, hr1⟩, hk1⟩
 have HTX := Hd (text_one (putZ (t : Int)) x HL1.out (by have := HX.out; omega) w1 A1 c1 _ hr1)
 have HK1 := Hd hk1
 clear h1 h2 hr1 hk1
 go_wp2_with fail
 refine HTX.out.mono ?_
 rintro e w2 ⟨v2, rfl, hn2, hk2⟩
 rw [show putZ (t : Int) ++ putT x = headS t x from rfl] at hn2
 obtain ⟨A2, c2, rfl, h1, h2, hr2⟩ := hn2
 have HK2 := Hd (HK1.out.trans hk2)
 have HR2 := Hd (hr2.mono (G := fun b => w.heap.size ≤ b ∧ b < w2.heap.size) fun b _ hb => ⟨Nat.le_trans HK1.out.size hb.1, hb.2⟩)
 have HT2 := Hd (HT.out.keep (HK1.out.trans hk2))
 have HH2 := HH.out
 have hd : decide ((60 : Int) < ((headS t x).length : Int)) = false := by simp; omega
 clear h1 h2 hr2 hk2 HTX
 go_wp2_with (refine list_make rfl (.const (.int .i64 64)) (.const (.int .i64 64)) 64 rfl byte_elem .i64 .i64 64 rfl rfl (by decide) (by decide) (bcells blank) made64 ?_)
 intro w3 hown hg3
 have hk3 : Keeps (fun _ => True) w2 w3 := Keeps.of_grown hg3 (fun _ h => by cases h)
 have HR3 := Hd (HR2.out.keep (hk3.mono fun _ _ _ => trivial))
 obtain ⟨g, hgg⟩ : ∃ g, g = w2.heap.size := ⟨_, rfl⟩
 rw [← hgg] at hown ⊢
 have HOWN := Hd hown
 have HG := Hd (show w.heap.size ≤ g ∧ g < w3.heap.size ∧ (∀ b, b < g → b ≠ g) from ⟨by have := HK2.out.size; omega, (hown.lt g rfl).2, fun b h => by omega⟩)
 have HK3 := Hd (HK2.out.trans hk3)
 have HHC := Hd (show (headS t x).length = (bcells (headS t x)).length from (bcells_len _).symm)
 have HGG := Hd hgg
 have HG2 := Hd (show g = w2.heap.size ∧ Keeps (fun _ => True) w2 w3 from ⟨hgg, hk3⟩)
 clear hown hg3 hk3 hgg
 go_wp2_with (refine list_copy_part rfl (.tmp 20) (.tmp 21) 64 64 rfl 5 Tryz.underlying64 (by kernel_rfl) HOWN.out 0 64 64 rfl A2 _ c2 rfl (bcells (headS t x)) HHC.out (by rw [bcells_len]; omega) HR3.out (bcells_one _) (by rw [bcells_len, bcells_len]; show 0 + (headS t x).length ≤ 64; omega) ?_)
 intro w4 hown hg4
 rw [HR.out] at hown
 have hk4 : Keeps (fun b => b ≠ g) w3 w4 := keeps_grown hg4
 have hk44 : Keeps (fun _ => True) w w4 := by
  have hk3 := HK3.out
  exact ⟨hk4.os.trans hk3.os, hk4.tape.trans hk3.tape, hk4.output.trans hk3.output, Nat.le_trans hk3.size hk4.size, fun i _ hi => (hk4.block i (by have := HG.out.1; show i ≠ g; omega) (Nat.lt_of_lt_of_le hi hk3.size)).trans (hk3.block i trivial hi)⟩
 have HW4 := Hd (show StRow w4 g g 5 64 64 (bcells (rowS t x)) (bcells (encF q t x)) false w4.drew from ⟨(Keeps.refl (fun _ => True) w4).drew.own (by have := HG2.out.1; subst this; exact hown) fun _ _ => trivial, (Keeps.refl _ w4).drew, Nat.lt_of_lt_of_le HG.out.2.1 hk4.size⟩)
 have HT4 := Hd (HT.out.keep hk44)
 have HK4 := Hd hk44
 have HTG := Hd (show ∀ i, i < 16 → (⟨0, i, none⟩ : Addr).block ≠ g from fun i hi => by
  have h1 := World.block_lt_of_cell? w _ (HT.out i hi)
  have := HG.out.1
  show 0 ≠ g
  simp only at h1
  omega)
 clear hown hg4 hk4 hk44 HOWN HR3 HR2 HT2
 go_wp2_with fail
 refine wp_region_one (V := VF g z (sumOf q (rowS t x))) (w0 := w4) 5 (StRow w4 g g 5 64 64 (bcells (rowS t x)) (bcells (encF q t x))) (fun w w' => w.grownBy w' (some g)) GE (by kernel_rfl) (fun i w w' v h hv => VF_keep i w w' v (h.mono fun _ _ _ => trivial) hv) (fun _ _ _ h hs => hs.keep h) (fun i _ w w' v h hv => VF_keep i w w' v (keeps_grown h) hv) (by kernel_rfl) (by decide) GE_is (fun i o ho hw => (all_wanted (by kernel_rfl) ho hw).elim) HW4.out (each_of ?_) ?_
 ·refine ⟨?_, ?_, ?_, ?_, ?_, ?_, trivial⟩ <;> intro hw a1 w3 L
  ·rw [if_neg (by decide)]
   intro b hs _
   exact kp_move rfl (L.o 9)
  ·rw [if_neg (by decide)]
   intro b hs _
   have e0 : a1.eval (.tmp 23) = .slice (some ⟨g, 0, none⟩) 64 64 := L.v 0 23
   have hcn : a1.eval (.const (.int .i64 60)) = .int .i64 60 := rfl
   refine kp_yield (v := .slice (some ⟨g, 60, none⟩) 4 4) (w' := w3) ?_ (Keeps.refl _ _) rfl
   generalize a1.eval = ρ at e0 hcn ⊢
   unfold execOp
   go_simp
  ·rw [if_neg (by decide)]
   intro b hs _
   exact kp_move rfl (L.o 0)
  ·rw [if_neg (by decide)]
   intro b hs _
   exact kp_move rfl (L.o 9)
  ·rw [if_neg (by decide)]
   intro b hs _
   have e0 : a1.eval (.tmp 26) = .slice (some ⟨g, 0, none⟩) 64 64 := L.v 3 26
   have e1 : a1.eval (.tmp 25) = .int .u8 z := L.v 2 25
   have hf : a1.eval (.func 110) = .func (.func 110) #[] #[] := rfl
   have hT3 : Taken w3 := fun i hi => hs.2.1.cell (HT4.out i hi) (HTG.out i hi)
   obtain ⟨l, hl, hsl, hrw⟩ : ∃ l : List UInt8, l.length = 64 ∧ sumOf q l = sumOf q (rowS t x) ∧ Row w3 (some ⟨g, 0, none⟩) (fun b => b = g) (bcells l) := by
    cases b
    ·exact ⟨rowS t x, HN.out, rfl, own_row hs.1⟩
    ·exact ⟨encF q t x, HEL.out, HES.out, own_row hs.1⟩
   refine kp_enter (f := 110) (args := #[.int .u8 z, .slice (some ⟨g, 0, none⟩) 64 64]) ?_ (fsum_any q z HZ.out (some ⟨g, 0, none⟩) 64 _ l w3 hrw hl (Nat.le_refl _) (by decide) hT3) ?_
   ·clear hs hrw hT3
    generalize a1.eval = ρ at e0 e1 hf ⊢
    unfold execOp
    go_simp
   ·rintro e w' ⟨v, rfl, ho, hk⟩
    rw [hsl] at ho
    exact ⟨v, rfl, hk, TextG.of_own ho hs.2.2⟩
  ·rw [if_pos rfl]
   intro hs
   obtain ⟨A, c, e3, h1, h2, hr⟩ := L.v 4 27
   have e0 : a1.eval (.tmp 24) = .slice (some ⟨g, 60, none⟩) 4 4 := L.v 1 24
   refine Oper.wp_mono ?_ (one_copy (.tmp 24) (.tmp 27) 64 64 rfl Tryz.underlying64 (by kernel_rfl) hs 60 4 4 e0 A _ c e3 (bcells_len _).symm (by rw [bcells_len]; exact Nat.le_refl 4)
    (fun e => by have := congrArg List.length e; rw [bcells_len] at this; cases this) hr (bcells_one _) (by rw [bcells_len, bcells_len, HN.out]; exact Nat.le_refl 64) HE.out)
   rintro a' w' ⟨v, h1, h2, h3, h4⟩
   exact ⟨v, h1, h2, h3, trivial⟩
 ·intro vs w5 hs5 hlen5 hv5
  match vs, hlen5 with
  | [u0, u1, u2, u3, u4, u5], _ =>
   clear hv5
   simp only [putAll, List.map, Act.put, List.setIfInBounds_toArray, List.set_cons_succ, List.set_cons_zero, Exit.then]
   obtain ⟨ho5, hkp5, hg5⟩ := hs5
   have hk4 := HK4.out
   have hk55 : Keeps (fun _ => True) w w5 := ⟨hkp5.os.trans hk4.os, hkp5.tape.trans hk4.tape, hkp5.output.trans hk4.output, Nat.le_trans hk4.size hkp5.size, fun i _ hi => (hkp5.block i (by have := HG.out.1; show i ≠ g; omega) (Nat.lt_of_lt_of_le hi hk4.size)).trans (hk4.block i trivial hi)⟩
   have hown5 : OwnB w5 w.heap.size (.slice (some ⟨g, 0, none⟩) 64 64) (encF q t x) := by
    unfold OwnB
    rw [HEL.out]
    exact ownsRow_le ho5 HG.out.1
   have H1 := Hd (show ∃ v, Ending.returned (.tuple #[.slice (some ⟨g, 0, none⟩) 64 64, .int .i64 0]) = .returned (.tuple #[v, .int .i64 0]) ∧ OwnB w5 w.heap.size v (encF q t x) ∧ Keeps (fun _ => True) w w5 from ⟨_, rfl, hown5, hk55⟩)
   clear ho5 hkp5 hg5 hk4 hk55 hown5 HW4 HT4
   go_wp2_with fail
   go_ret2
   exact H1.out
def frmV : Option (Int × List UInt8) → Value
 | none => .tuple #[.int .i64 0, .string ⟨#[]⟩, .int .i64 3]
 | some (n, x) => .tuple #[.int .i64 n, .string (txt x), .int .i64 0]
def VP (b o c : Nat) (z : Int) (s : List UInt8) (x : Bool) : Nat → World → Value → Prop
 | 0 => IsV (.slice (some ⟨b, o, none⟩) 64 c)
 | 1 => IsV (.int .i64 64)
 | 2 => IsV (.bool false)
 | 3 => IsV (.bool false)
 | 4 => IsV (.slice (some ⟨b, o, none⟩) 64 c)
 | 5 => IsV (.slice (some ⟨b, o + 60, none⟩) 4 (c - 60))
 | 6 => IsV (.int .u8 z)
 | 7 => IsV (.slice (some ⟨b, o, none⟩) 64 c)
 | 8 => TextV s
 | 9 => IsV (.bool x)
 | 10 => IsV (.bool (!x))
 | 11 => IsV (.bool (!x))
 | _ => fun _ _ => True
theorem VP_mono {b o c : Nat} {z : Int} {s : List UInt8} {x : Bool} (i : Nat) (w w' : World) (v : Value) (h : Kp w w') (hv : VP b o c z s x i w v) : VP b o c z s x i w' v := by
 match i, hv with
 | 0, hv => exact hv
 | 1, hv => exact hv
 | 2, hv => exact hv
 | 3, hv => exact hv
 | 4, hv => exact hv
 | 5, hv => exact hv
 | 6, hv => exact hv
 | 7, hv => exact hv
 | 8, hv => exact TextV.mono h hv
 | 9, hv => exact hv
 | 10, hv => exact hv
 | 11, hv => exact hv
 | n + 12, _ => trivial
def GP : Nat → Option Bool
 | 3 => some false
 | _ => none
theorem GP_is {b o c : Nat} {z : Int} {s : List UInt8} {x : Bool} (g : Nat) (d : Bool) (h : GP g = some d) (w : World) (v : Value) (hv : VP b o c z s x g w v) : v = .bool d := by
 match g, h, hv with
 | 3, h, hv => cases h; exact hv
theorem cut_end {w : World} {b o c k n : Nat} {F : Nat → Prop} {l : List UInt8} (h : Row w (some ⟨b, o, none⟩) F (bcells l)) (hl : l.length = n) (hk : k ≤ n) (hc : n < c ∨ k < n ∧ n ≤ c) : Row w (some ⟨b, o + k, none⟩) F (bcells (l.drop k)) := by
 have h1 := h.cut (k := k) (cap := c) (by rw [bcells_len]; omega) (by rw [bcells_len]; omega)
 rw [if_neg (by omega)] at h1
 have e : bcells (l.drop k) = (bcells l).drop k := by simp [bcells]
 rw [e]
 simpa [WideShapes.add_plain] using h1
theorem txt_same (l r : List UInt8) : ((txt l).toList == (txt r).toList) = decide (l = r) := by
 have e1 : (txt l).toList = l := by rw [Lib.toList_data]; rfl
 have e2 : (txt r).toList = r := by rw [Lib.toList_data]; rfl
 rw [e1, e2, Bool.eq_iff_iff]; simp
theorem decF_no {q : UInt8} {l : List UInt8} (h : ((txt (l.drop 60)).toList == (txt (sumOf q l)).toList) = false) : decF q l = none := by
 rw [txt_same, decide_eq_false_iff_not] at h
 unfold decF; rw [if_neg h]
theorem decF_yes {q : UInt8} {l : List UInt8} (h : ((txt (l.drop 60)).toList == (txt (sumOf q l)).toList) = true) : decF q l = readF (l.take 60) := by
 rw [txt_same, decide_eq_true_eq] at h
 unfold decF; rw [if_pos h]
theorem readF_no {l : List UInt8} {t : Int} {k e : Nat} (h : getZ l = (t, k, e)) (hb : e ≠ 0) : readF l = none := by
 unfold readF; rw [h]; simp only; rw [if_pos hb]
theorem readF_bad {l : List UInt8} {t : Int} {k : Nat} {x : List UInt8} {m e : Nat} (h : getZ l = (t, k, 0)) (h1 : getT (l.drop k) = (x, m, e)) (hb : e ≠ 0) : readF l = none := by
 unfold readF; rw [h]; simp only; rw [h1]; simp only
 rw [if_neg (by simp), if_pos hb]
theorem readF_is {l : List UInt8} {t : Int} {k : Nat} {x : List UInt8} {m : Nat} (h : getZ l = (t, k, 0)) (h1 : getT (l.drop k) = (x, m, 0)) : readF l = some (t, x) := by
 unfold readF; rw [h]; simp only; rw [h1]; simp only
 rw [if_neg (by simp), if_neg (by simp)]
theorem fparse_any (w : World) (hT : Taken w) (q : UInt8) (z : Int) (hz : z = (q.toNat : Int)) (b o c : Nat) (F : Nat → Prop) (l : List UInt8) (h : Row w (some ⟨b, o, none⟩) F (bcells l)) (hl : l.length = 64) (hc : 64 ≤ c) (hcm : c ≤ maxLen) :
  Calls Tryz.prog 185 #[.int .u8 z, .slice (some ⟨b, o, none⟩) 64 c] w fun e w' => e = .returned (frmV (decF q l)) ∧ Keeps (fun _ => True) w w' := by
 have hcm' := hcm
 unfold maxLen at hcm'
 obtain ⟨x, hx⟩ : ∃ x, ((txt (l.drop 60)).toList == (txt (sumOf q l)).toList) = x := ⟨_, rfl⟩
 have HX := Hd hx
 have HT := Hd hT
 have HZ := Hd hz
 have HRW := Hd h
 have HL := Hd hl
 clear hT h hl hx hz
 go_enter Tryz.func185, Tryz.ntmps185
 go_wp2_with fail
 refine wp_region_guard (R := Kp) (V := VP b o c z (sumOf q l) x) (w0 := w) GP (by kernel_rfl) (fun w => Keeps.refl _ w) (fun _ _ _ h k => h.trans k) (fun i w w' v h hv => VP_mono i w w' v h hv) (by kernel_rfl) GP_is (fun i o ho hw => (all_wanted (by kernel_rfl) ho hw).elim) ((Keeps.refl _ w).drew) (each_of ?_) ?_
 ·refine ⟨?_, ?_, ?_, ?_, ?_, ?_, ?_, ?_, ?_, ?_, ?_, ?_, trivial⟩ <;> intro hw a1 w3 L
  ·exact kp_move rfl (L.o 1)
  ·have e0 : a1.eval (.tmp 12) = .slice (some ⟨b, o, none⟩) 64 c := L.v 0 12
   refine kp_yield (v := .int .i64 64) (w' := w3) ?_ (Keeps.refl _ _) rfl
   generalize a1.eval = ρ at e0 ⊢
   unfold execOp
   go_simp
  ·have e0 : a1.eval (.tmp 13) = .int .i64 64 := L.v 1 13
   have hcn : a1.eval (.const (.int .i64 64)) = .int .i64 64 := rfl
   refine kp_yield (v := .bool false) (w' := w3) ?_ (Keeps.refl _ _) rfl
   generalize a1.eval = ρ at e0 hcn ⊢
   unfold execOp
   go_simp
  ·exact kp_move rfl (L.v 2 14)
  ·exact kp_move rfl (L.o 1)
  ·have e0 : a1.eval (.tmp 16) = .slice (some ⟨b, o, none⟩) 64 c := L.v 4 16
   have hcn : a1.eval (.const (.int .i64 60)) = .int .i64 60 := rfl
   have hne : ¬ c = 60 := by omega
   have hne2 : ¬ c ≤ 60 := by omega
   refine kp_yield (v := .slice (some ⟨b, o + 60, none⟩) 4 (c - 60)) (w' := w3) ?_ (Keeps.refl _ _) rfl
   generalize a1.eval = ρ at e0 hcn ⊢
   unfold execOp
   go_simp
  ·exact kp_move rfl (L.o 0)
  ·exact kp_move rfl (L.o 1)
  ·have e0 : a1.eval (.tmp 19) = .slice (some ⟨b, o, none⟩) 64 c := L.v 7 19
   have e1 : a1.eval (.tmp 18) = .int .u8 z := L.v 6 18
   have hf : a1.eval (.func 110) = .func (.func 110) #[] #[] := rfl
   refine kp_enter (f := 110) (args := #[.int .u8 z, .slice (some ⟨b, o, none⟩) 64 c]) ?_ (fsum_any q z HZ.out _ c _ l w3 (HRW.out.lt.keep (L.rel.mono fun _ _ _ => trivial)) HL.out hc hcm (HT.out.keep L.rel)) ?_
   ·generalize a1.eval = ρ at e0 e1 hf ⊢
    unfold execOp
    go_simp
   ·rintro e w' ⟨v, rfl, ho, hk⟩
    obtain ⟨A, d, e, hn, hr⟩ := own_slice ho
    exact ⟨v, rfl, hk, A, d, e, hr.mono fun _ _ _ => trivial⟩
  ·have e0 : a1.eval (.tmp 17) = .slice (some ⟨b, o + 60, none⟩) 4 (c - 60) := L.v 5 17
   obtain ⟨A, d, e1, hr⟩ := L.v 8 20
   have hf : a1.eval (.func 198) = .func (.func 198) #[] #[] := rfl
   refine kp_enter (f := 198) (args := #[.slice (some ⟨b, o + 60, none⟩) 4 (c - 60), .slice A (sumOf q l).length d]) ?_ (equal_any _ _ _ _ _ _ _ _ (l.drop 60) (sumOf q l) w3 (cut_end (HRW.out.lt.keep (L.rel.mono fun _ _ _ => trivial)) HL.out (by decide) (.inr ⟨by decide, hc⟩)) hr (by rw [List.length_drop, HL.out]) rfl x HX.out) ?_
   ·clear hr
    generalize a1.eval = ρ at e0 e1 hf ⊢
    unfold execOp
    go_simp
   ·rintro e w' ⟨rfl, rfl⟩
    exact ⟨_, rfl, Keeps.refl _ _, rfl⟩
  ·have e0 : a1.eval (.tmp 21) = .bool x := L.v 9 21
   refine kp_yield (v := .bool (!x)) (w' := w3) ?_ (Keeps.refl _ _) rfl
   generalize a1.eval = ρ at e0 ⊢
   unfold execOp
   go_simp
  ·refine kp_pick (b := false) rfl (L.v 3 15) ?_
   exact L.v 10 22
 ·intro vs w4 hk4 hlen hv
  match vs, hlen with
  | [v0, v1, v2, v3, v4, v5, v6, v7, v8, v9, v10, v11], _ =>
   have e5 : v11 = .bool (!x) := hv 11 23 (by kernel_rfl)
   clear hv
   subst e5
   simp only [putAll, List.map, Act.put, List.setIfInBounds_toArray, List.set_cons_succ, List.set_cons_zero, Exit.then]
   have HK := Hd hk4
   have hr60 : Row w4 (some ⟨b, o, none⟩) (fun b' => F b' ∧ b' < w.heap.size) (bcells (l.take 60)) := bcells_take (HRW.out.lt.keep (hk4.mono fun _ _ _ => trivial)) 60
   have HRW4 := Hd hr60
   clear hk4 HRW HT hr60
   cases x
   ·have HD := Hd (decF_no HX.out)
    go_wp2_with fail
    go_ret3
    exact ⟨by rw [HD.out]; rfl, HK.out⟩
   ·have HD := Hd (decF_yes HX.out)
    have hl60 : (l.take 60).length = 60 := by rw [List.length_take, HL.out]; rfl
    generalize l.take 60 = y at HRW4 HD hl60
    have HL6 := Hd hl60
    have hgz := getZ_cases y
    have hgc := get_any (some ⟨b, o, none⟩) c _ y w4 HRW4.out (by rw [hl60]; decide)
    rw [hl60] at hgc
    have HGC := Hd hgc
    have HGZ := Hd hgz
    clear hgc hgz hl60
    go_wp2_with fail
    refine HGC.out.mono ?_
    rintro e w' ⟨rfl, rfl⟩
    obtain ⟨t, k, e, hg, hk⟩ : ∃ (t : Int) (k e : Nat), getZ y = (t, k, e) ∧ k ≤ 10 := by
     rcases HGZ.out with ⟨n, k, h, _, h2, _, h3, h4⟩ | h | h
     ·exact ⟨n, k, 0, h, h2⟩
     ·exact ⟨0, 0, 1, h, by omega⟩
     ·exact ⟨0, 0, 2, h, by omega⟩
    have HG := Hd hg
    rw [hg]
    simp only
    clear hg HGC HGZ
    have hcs : ((((e : Nat) : Int) != 0) = true ∧ e ≠ 0) ∨ ((((e : Nat) : Int) != 0) = false ∧ e = 0) := by
     by_cases h0 : e = 0
     ·right; exact ⟨by simp [h0], h0⟩
     ·left; exact ⟨by simp; omega, h0⟩
    rcases hcs with ⟨t0, hb⟩ | ⟨t0, he0⟩
    ·have HZ := Hd (show decF q l = none by rw [HD.out]; exact readF_no HG.out hb)
     clear hb
     go_wp2_with fail
     go_ret3
     exact ⟨by rw [HZ.out]; rfl, HK.out⟩
    ·subst he0
     have hne : ¬ c = k := by omega
     have hle : k ≤ 60 := by omega
     have hle2 : k ≤ c := by omega
     have hle3 : (60 : Nat) ≤ c := by omega
     have hkl := Hd (show (y.drop k).length = 60 - k by rw [List.length_drop, HL6.out])
     have hgt := get_text (some ⟨b, o + k, none⟩) (c - k) _ (y.drop k) w4 (cut_end (n := 60) (k := k) (c := c) HRW4.out HL6.out (by omega) (.inl (by omega))) (by rw [hkl.out]; omega) (by rw [hkl.out]; omega) (by omega)
     rw [hkl.out] at hgt
     obtain ⟨u, m, e, hy⟩ : ∃ u m e, getT (y.drop k) = (u, m, e) := ⟨_, _, _, rfl⟩
     rw [hy] at hgt
     simp only at hgt
     have HGT := Hd hgt
     have HY := Hd hy
     clear hgt hy
     go_wp2_with fail
     refine HGT.out.mono ?_
     rintro e' w' ⟨rfl, rfl⟩
     have hcy : ((((e : Nat) : Int) != 0) = true ∧ e ≠ 0) ∨ ((((e : Nat) : Int) != 0) = false ∧ e = 0) := by
      by_cases h0 : e = 0
      ·right; exact ⟨by simp [h0], h0⟩
      ·left; exact ⟨by simp; omega, h0⟩
     rcases hcy with ⟨u0, hb⟩ | ⟨u0, he0⟩
     ·have HZ := Hd (show decF q l = none by rw [HD.out]; exact readF_bad HG.out HY.out hb)
      clear hb
      go_wp2_with fail
      go_ret3
      exact ⟨by rw [HZ.out]; rfl, HK.out⟩
     ·subst he0
      have HZ := Hd (show decF q l = some (t, u) by rw [HD.out]; exact readF_is HG.out HY.out)
      go_wp2_with fail
      go_ret3
      exact ⟨by rw [HZ.out]; rfl, HK.out⟩
def recV : Option (Nat × List UInt8) → Value
 | none => .agg #[.int .i64 0, .string ⟨#[]⟩]
 | some (t, x) => .agg #[.int .i64 (t : Int), .string (txt x)]
theorem decS_none {l : List UInt8} (h : decF 83 l = none) : decS l = none := by unfold decS; rw [h]; rfl
theorem decS_no {l : List UInt8} {t : Int} {x : List UInt8} (h : decF 83 l = some (t, x)) (hb : t < 1 ∨ 1099511627776 < t ∨ 40 < x.length) : decS l = none := by
 unfold decS; rw [h]; unfold takeS; simp only; rw [if_pos hb]
theorem recV_yes {l : List UInt8} {t : Int} {x : List UInt8} (h : decF 83 l = some (t, x)) (hb : ¬ (t < 1 ∨ 1099511627776 < t ∨ 40 < x.length)) : recV (decS l) = .agg #[.int .i64 t, .string (txt x)] := by
 unfold decS; rw [h]; unfold takeS; simp only; rw [if_neg hb]
 show Value.agg #[.int .i64 ((t.toNat : Nat) : Int), .string (txt x)] = _
 rw [show ((t.toNat : Nat) : Int) = t by omega]
theorem parse_any (w : World) (hT : Taken w) (b o c : Nat) (F : Nat → Prop) (l : List UInt8) (h : Row w (some ⟨b, o, none⟩) F (bcells l)) (hl : l.length = 64) (hc : 64 ≤ c) (hcm : c ≤ maxLen) :
  Calls Tryz.prog 147 #[.slice (some ⟨b, o, none⟩) 64 c] w fun e w' => e = .returned (recV (decS l)) ∧ Keeps (fun _ => True) w w' := by
 have HT := Hd hT
 have HRW := Hd h
 have HL := Hd hl
 clear hT h hl
 go_enter Tryz.func147, Tryz.ntmps147
 go_wp2_with fail
 have hk0 := (Keeps.refl (fun _ => True) w).alloc (.cells #[.int .i64 0, .string ⟨#[]⟩] 141)
 have hb0 := heap_alloc_new w (.cells #[.int .i64 0, .string ⟨#[]⟩] 141)
 have hr0 : w.heap.size < (w.alloc (.cells #[.int .i64 0, .string ⟨#[]⟩] 141)).heap.size := by simp
 generalize (w.alloc (.cells #[.int .i64 0, .string ⟨#[]⟩] 141)) = w0 at hk0 hb0 hr0 ⊢
 refine (fparse_any w0 (HT.out.keep hk0) 83 83 rfl b o c _ l (HRW.out.keep (hk0.mono fun _ _ _ => trivial)) HL.out hc hcm).mono ?_
 rintro e w4 ⟨rfl, hk4⟩
 have hb4 := (hk4.block _ trivial hr0).trans hb0
 have c0 := (cell_of_block hb4 0).trans rfl
 have c1 := (cell_of_block hb4 1).trans rfl
 have f0 := unfrozen_of_block hb4 0
 have f1 := unfrozen_of_block hb4 1
 have hk := hk0.trans hk4
 have HFIN := Hd (show ∀ v0 v1, Keeps (fun _ => True) w ((w4.setCell ⟨w.heap.size, 0, none⟩ v0).setCell ⟨w.heap.size, 1, none⟩ v1) from fun v0 v1 => (hk.setCell (.inl (Nat.le_refl _)) v0).setCell (.inl (Nat.le_refl _)) v1)
 have HCELL := Hd (show ∀ v0 v1, ((w4.setCell ⟨w.heap.size, 0, none⟩ v0).setCell ⟨w.heap.size, 1, none⟩ v1).cell? ⟨w.heap.size, 0, none⟩ = some v0 ∧ ((w4.setCell ⟨w.heap.size, 0, none⟩ v0).setCell ⟨w.heap.size, 1, none⟩ v1).cell? ⟨w.heap.size, 1, none⟩ = some v1 from fun v0 v1 => by
  have h1 := block_setCell (block_setCell hb4 (i := 0) v0) (i := 1) v1
  exact ⟨(cell_of_block h1 0).trans rfl, (cell_of_block h1 1).trans rfl⟩)
 clear hb4 hk hk4 hb0 hr0 HRW HT hk0
 obtain ⟨r, hr⟩ : ∃ r, decF 83 l = r := ⟨_, rfl⟩
 rw [hr]
 have HR := Hd hr
 clear hr
 rcases r with _ | ⟨t, x⟩
 ·have HD := Hd (show recV (decS l) = .agg #[.int .i64 0, .string ⟨#[]⟩] by rw [decS_none HR.out]; rfl)
  unfold frmV
  go_wp2_with fail
  exact bodyPost_ret (v := .agg #[.int .i64 0, .string ⟨#[]⟩]) (by simp [results, Tryz.results147, go_sem, HCELL.out]) rfl ⟨by rw [HD.out], HFIN.out _ _⟩
 ·unfold frmV
  have hcs : (decide (t < 1) = true ∧ t < 1) ∨ (decide (t < 1) = false ∧ decide (1099511627776 < t) = true ∧ 1099511627776 < t) ∨ (decide (t < 1) = false ∧ decide (1099511627776 < t) = false ∧ decide ((40 : Int) < ((txt x).size : Int)) = true ∧ 40 < x.length) ∨ (decide (t < 1) = false ∧ decide (1099511627776 < t) = false ∧ decide ((40 : Int) < ((txt x).size : Int)) = false ∧ ¬ (t < 1 ∨ 1099511627776 < t ∨ 40 < x.length)) := by
   rw [txt_size]
   by_cases h1 : t < 1
   ·left; exact ⟨by simpa using h1, h1⟩
   ·right
    by_cases h2 : 1099511627776 < t
    ·left; exact ⟨by simpa using h1, by simpa using h2, h2⟩
    ·right
     by_cases h3 : 40 < x.length
     ·left; exact ⟨by simpa using h1, by simpa using h2, by simp; omega, h3⟩
     ·right; exact ⟨by simpa using h1, by simpa using h2, by simp; omega, by omega⟩
  rcases hcs with ⟨t0, hb⟩ | ⟨t0, t1, hb⟩ | ⟨t0, t1, t2, hb⟩ | ⟨t0, t1, t2, hb⟩
  ·have HD := Hd (show recV (decS l) = .agg #[.int .i64 0, .string ⟨#[]⟩] by rw [decS_no HR.out (.inl hb)]; rfl)
   clear hb
   go_wp2_with fail
   exact bodyPost_ret (v := .agg #[.int .i64 0, .string ⟨#[]⟩]) (by simp [results, Tryz.results147, go_sem, HCELL.out]) rfl ⟨by rw [HD.out], HFIN.out _ _⟩
  ·have HD := Hd (show recV (decS l) = .agg #[.int .i64 0, .string ⟨#[]⟩] by rw [decS_no HR.out (.inr (.inl hb))]; rfl)
   clear hb
   go_wp2_with fail
   exact bodyPost_ret (v := .agg #[.int .i64 0, .string ⟨#[]⟩]) (by simp [results, Tryz.results147, go_sem, HCELL.out]) rfl ⟨by rw [HD.out], HFIN.out _ _⟩
  ·have HD := Hd (show recV (decS l) = .agg #[.int .i64 0, .string ⟨#[]⟩] by rw [decS_no HR.out (.inr (.inr hb))]; rfl)
   clear hb
   go_wp2_with fail
   exact bodyPost_ret (v := .agg #[.int .i64 0, .string ⟨#[]⟩]) (by simp [results, Tryz.results147, go_sem, HCELL.out]) rfl ⟨by rw [HD.out], HFIN.out _ _⟩
  ·have HD := Hd (recV_yes HR.out hb)
   clear hb
   go_wp2_with fail
   exact bodyPost_ret (v := .agg #[.int .i64 t, .string (txt x)]) (by simp [results, Tryz.results147, go_sem, HCELL.out]) rfl ⟨by rw [HD.out], HFIN.out _ _⟩
end Go.Proofs.YticophaepapjoaaGreatDoor
