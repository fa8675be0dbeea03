/-
  THE PROGRAM's SECTORS (super/record.go): record.sector.
-/
import Derived.Test.YtpaadllbmhbnhaaDoorSecWalk
import Derived.Test.YtpaadllbmhbnhaaDoorInvCopy
namespace Go.Proofs.YtpaadllbmhbnhaaDoor
open Go Go.RowKit Go.Joins

section
variable {o : Oper} {a : Act} {w : World} {Q : Exit → Act → World → Prop} {x y : Operand}
theorem kp_field0 {b : Nat} (ho : o.op = .fieldAddr 52 x 0) (hx : a.eval x = .pointer (some ⟨b, 0, none⟩)) : o.wp Tryd.prog a w (fun a' w' => ∃ v, a' = a.put o.dst v ∧ Kp w w' ∧ IsV (.pointer (some ⟨b, 0, none⟩)) w' v) Q := by
  refine kp_yield (v := .pointer (some ⟨b, 0, none⟩)) (w' := w) ?_ (Keeps.refl _ _) rfl
  generalize a.eval = ρ at hx ⊢
  unfold execOp
  rw [ho]
  go_simp
theorem kp_field1 {b : Nat} (ho : o.op = .fieldAddr 52 x 1) (hx : a.eval x = .pointer (some ⟨b, 0, none⟩)) : o.wp Tryd.prog a w (fun a' w' => ∃ v, a' = a.put o.dst v ∧ Kp w w' ∧ IsV (.pointer (some ⟨b, 1, none⟩)) w' v) Q := by
  refine kp_yield (v := .pointer (some ⟨b, 1, none⟩)) (w' := w) ?_ (Keeps.refl _ _) rfl
  generalize a.eval = ρ at hx ⊢
  unfold execOp
  rw [ho]
  go_simp
theorem kp_loadI {p : Addr} {n : Int} (hc : w.cell? p = some (.int .i64 n)) (ho : o.op = .load 2 x) (hx : a.eval x = .pointer (some p)) : o.wp Tryd.prog a w (fun a' w' => ∃ v, a' = a.put o.dst v ∧ Kp w w' ∧ IsV (.int .i64 n) w' v) Q := by
  refine kp_yield (v := .int .i64 n) (w' := w) ?_ (Keeps.refl _ _) rfl
  generalize a.eval = ρ at hx ⊢
  unfold execOp
  rw [ho]
  go_simp
theorem kp_loadS {p : Addr} {s : ByteArray} (hc : w.cell? p = some (.string s)) (ho : o.op = .load 9 x) (hx : a.eval x = .pointer (some p)) : o.wp Tryd.prog a w (fun a' w' => ∃ v, a' = a.put o.dst v ∧ Kp w w' ∧ IsV (.string s) w' v) Q := by
  refine kp_yield (v := .string s) (w' := w) ?_ (Keeps.refl _ _) rfl
  generalize a.eval = ρ at hx ⊢
  unfold execOp
  rw [ho]
  go_simp
theorem kp_litI {g : Nat} {n : Int} (hg : g < w.heap.size) (ho : o.op = .buildSlice 78 1 #[(0, x)]) (hx : a.eval x = .int .i64 n) : o.wp Tryd.prog a w (fun a' w' => ∃ v, a' = a.put o.dst v ∧ Kp w w' ∧ RowG g [.int .i64 n] w' v) Q := by
  refine kp_yield (v := .slice (some ⟨w.heap.size, 0, none⟩) 1 1) (w' := w.alloc (.cells #[.int .i64 n] 2)) ?_ ((Keeps.refl _ _).alloc _) ⟨_, 1, rfl, Row.fresh w #[.int .i64 n] 2 (0, 0) _ rfl (by omega) _ rfl⟩
  clear hg
  generalize a.eval = ρ at hx ⊢
  unfold execOp
  rw [ho]
  go_simp
theorem kp_litS {g : Nat} {s : ByteArray} (hg : g < w.heap.size) (ho : o.op = .buildSlice 76 1 #[(0, x)]) (hx : a.eval x = .string s) : o.wp Tryd.prog a w (fun a' w' => ∃ v, a' = a.put o.dst v ∧ Kp w w' ∧ RowG g [.string s] w' v) Q := by
  refine kp_yield (v := .slice (some ⟨w.heap.size, 0, none⟩) 1 1) (w' := w.alloc (.cells #[.string s] 9)) ?_ ((Keeps.refl _ _).alloc _) ⟨_, 1, rfl, Row.fresh w #[.string s] 9 (0, 0) _ rfl (by omega) _ rfl⟩
  clear hg
  generalize a.eval = ρ at hx ⊢
  unfold execOp
  rw [ho]
  go_simp
end

/-- A slot of the first drawn region: bytes ahead, a text behind. -/
def VE (g b : Nat) (t : Nat) (x : List UInt8) : Nat → World → Value → Prop
  | 0 => IsV (.slice (some ⟨g, 0, none⟩) 64 64)
  | 1 => IsV (.pointer (some ⟨b, 0, none⟩))
  | 2 => IsV (.int .i64 (t : Int))
  | 3 => RowG g [.int .i64 (t : Int)]
  | 4 => TextG g (putZ (t : Int))
  | 5 => IsV (.pointer (some ⟨b, 1, none⟩))
  | 6 => IsV (.string (txt x))
  | 7 => RowG g [.string (txt x)]
  | 8 => TextG g (headS t x)
  | _ => fun _ _ => True
theorem VE_keep {g b : Nat} {t : Nat} {x : List UInt8} (i : Nat) (w w' : World) (v : Value) (h : Keeps (fun b => b ≠ g) w w') (hv : VE g b t x i w v) : VE g b t x i w' v := by
  match i, hv with
  | 0, hv => exact hv
  | 1, hv => exact hv
  | 2, hv => exact hv
  | 3, hv => exact RowG.keep h hv
  | 4, hv => exact TextG.keep h hv
  | 5, hv => exact hv
  | 6, hv => exact hv
  | 7, hv => exact RowG.keep h hv
  | 8, hv => exact TextG.keep h hv
  | n + 9, _ => trivial
def GE : Nat → Option Bool := fun _ => none
theorem GE_is {V : Nat → World → Value → Prop} (g : Nat) (c : Bool) (h : GE g = some c) (w : World) (x : Value) (_ : V g w x) : x = .bool c := by cases h
/-- A slot of the second one: the sum's bytes behind. -/
def VF (g : Nat) (s : List UInt8) : Nat → World → Value → Prop
  | 0 => IsV (.slice (some ⟨g, 0, none⟩) 64 64)
  | 1 => IsV (.slice (some ⟨g, 60, none⟩) 4 4)
  | 2 => IsV (.slice (some ⟨g, 0, none⟩) 64 64)
  | 3 => TextG g s
  | _ => fun _ _ => True
theorem VF_keep {g : Nat} {s : List UInt8} (i : Nat) (w w' : World) (v : Value) (h : Keeps (fun b => b ≠ g) w w') (hv : VF g s i w v) : VF g s i w' v := by
  match i, hv with
  | 0, hv => exact hv
  | 1, hv => exact hv
  | 2, hv => exact hv
  | 3, hv => exact TextG.keep h hv
  | n + 4, _ => trivial
theorem put_new (g : Nat) (n : Int) (h1 : -9223372036854775808 ≤ n) (h2 : n < 9223372036854775808) (w : World) (hg : g < w.heap.size) (B : Option Addr) (c : Nat) (hB : Row w B (fun b => b ≠ g) [.int .i64 n]) :
    Calls Tryd.prog 33 #[.slice none 0 0, .slice B 1 c] w fun e w' => ∃ v, e = .returned v ∧ Kp w w' ∧ TextG g (putZ n) w' v := by
  refine (show Calls _ _ _ _ _ from put_any none B 0 c (fun _ => True) _ [] [n] w (Row.nil _ _ _) hB (fun m hm => by rw [List.mem_singleton.1 hm]; exact ⟨h1, h2⟩) (by simp) (by simp)).mono ?_
  rintro e w' ⟨v, rfl, ho, hk⟩
  refine ⟨v, rfl, hk, TextG.of_own (m := w.heap.size) ?_ hg⟩
  have e : ([] : List UInt8) ++ putsZ [n] = putZ n := by simp [putsZ]
  rw [e] at ho; exact ho
theorem text_new (g : Nat) (l x : List UInt8) (hl : l.length ≤ 100) (hx : x.length ≤ 100) (w : World) (hg : g < w.heap.size) (A B : Option Addr) (c d : Nat) (hA : Row w A (fun b => b ≠ g) (bcells l)) (hB : Row w B (fun b => b ≠ g) [.string (txt x)]) :
    Calls Tryd.prog 32 #[.slice A l.length c, .slice B 1 d] w fun e w' => ∃ v, e = .returned v ∧ Kp w w' ∧ TextG g (l ++ putT x) w' v := by
  refine (show Calls _ _ _ _ _ from put_text A B c d _ _ l [txt x] w hA hB (by unfold total; simp only [List.map_cons, List.map_nil, List.sum_cons, List.sum_nil, txt_size]; omega) (by omega) (by simp)).mono ?_
  rintro e w' ⟨v, rfl, ho, hk⟩
  refine ⟨v, rfl, hk, TextG.of_own (m := w.heap.size) ?_ hg⟩
  have e : putsT (strs [txt x]) = putT x := by simp [putsT, strs, txt_list]
  rw [e] at ho; exact ho

theorem blank_cells : bcells blank = List.replicate 64 (bcell 0) := by unfold blank bcells; rw [List.map_replicate]
set_option maxRecDepth 100000 in
theorem made64 : (madeCells (Value.int .u8 0).cells (64 * 1)).toList = bcells blank := by kernel_rfl
/-- The first copy's row. -/
def rowS (t : Nat) (x : List UInt8) : List UInt8 := headS t x ++ List.replicate (64 - (headS t x).length) 0
theorem rowS_len (t : Nat) (x : List UInt8) (hx : x.length ≤ 40) (ht : t ≤ 1099511627776) : (rowS t x).length = 64 := by
  have hl := headS_len t x hx ht
  unfold rowS; rw [List.length_append, List.length_replicate]; omega
theorem head_row (t : Nat) (x : List UInt8) : (bcells blank).take 0 ++ bcells (headS t x) ++ (bcells blank).drop (0 + (bcells (headS t x)).length) = bcells (rowS t x) := by
  unfold rowS
  rw [blank_cells, List.take_zero, List.nil_append, List.drop_replicate, bcells_append, bcells_len, Nat.zero_add]
  congr 1
  unfold bcells
  rw [List.map_replicate]
theorem enc_row (t : Nat) (x : List UInt8) (hx : x.length ≤ 40) (ht : t ≤ 1099511627776) :
    (bcells (rowS t x)).take 60 ++ bcells (sumOf (rowS t x)) ++ (bcells (rowS t x)).drop (60 + (bcells (sumOf (rowS t x))).length) = bcells (encS t x) := by
  have hl := headS_len t x hx ht
  have e1 : (rowS t x).take 60 = bodyS t x := by
    unfold rowS
    rw [List.take_append, List.take_of_length_le (by omega), List.take_replicate]
    unfold bodyS
    congr 2
    omega
  have e2 : sumOf (rowS t x) = sumL (crcN (bodyS t x)) := by unfold sumOf; rw [e1]
  have hbl := rowS_len t x hx ht
  have e3 : (bcells (sumOf (rowS t x))).length = 4 := by rw [e2]; rfl
  rw [e3, List.drop_of_length_le (by rw [bcells_len]; omega), List.append_nil]
  unfold encS
  rw [← e2, ← e1]
  simp [bcells]

set_option maxRecDepth 100000 in
set_option maxHeartbeats 4000000 in
theorem sector_any (w : World) (hT : Taken w) (t : Nat) (x : List UInt8) (ht : t ≤ 1099511627776) (hx : x.length ≤ 40) :
    Calls Tryd.prog 24 #[.agg #[.int .i64 (t : Int), .string (txt x)]] w fun e w' => ∃ v, e = .returned v ∧ OwnB w' w.heap.size v (encS t x) ∧ Keeps (fun _ => True) w w' := by
  have HT := Lib.hid hT
  have HT0 := Lib.hid hT
  have HES := Lib.hid (show sumOf (encS t x) = sumOf (rowS t x) by
    have e : (rowS t x).take 60 = bodyS t x := by
      have hl := headS_len t x hx ht
      unfold rowS
      rw [List.take_append, List.take_of_length_le (by omega), List.take_replicate]
      unfold bodyS
      congr 2
      omega
    unfold sumOf; rw [encS_take t x hx ht, e])
  have HL := Lib.hid (headS_len t x hx ht)
  have HZ := Lib.hid (putZ_small t ht)
  have HR := Lib.hid (head_row t x)
  have HN := Lib.hid (rowS_len t x hx ht)
  have HE := Lib.hid (enc_row t x hx ht)
  have HEL := Lib.hid (encS_len t x hx ht)
  have HB := Lib.hid blank_cells
  clear hT
  go_enter Tryd.func24, Tryd.ntmps24
  go_wp2_with (refine list_make rfl (.const (.int .i64 64)) (.const (.int .i64 64)) 31 rfl byte_elem .i64 .i64 64 rfl rfl (by decide) (by decide) (bcells blank) made64 ?_)
  intro w2 hown hg2
  have hz : (w.alloc (.cells #[.int .i64 (t : Int), .string (txt x)] 52)).heap.size = w.heap.size + 1 := by simp
  have hk2 : Keeps (fun _ => True) w w2 := ((Keeps.refl _ w).alloc _).grown hg2 (fun _ h => by cases h)
  have hc : w2.cell? ⟨w.heap.size, 0, none⟩ = some (.int .i64 (t : Int)) ∧ w2.cell? ⟨w.heap.size, 1, none⟩ = some (.string (txt x)) := by
    have hk := Keeps.of_grown (F := fun _ => True) hg2 (fun _ h => by cases h)
    constructor
    · exact hk.cell (World.cell?_alloc_mark w #[.int .i64 (t : Int), .string (txt x)] 52 (0, 0) 0) trivial
    · exact hk.cell (World.cell?_alloc_mark w #[.int .i64 (t : Int), .string (txt x)] 52 (0, 0) 1) trivial
  generalize hgg : w.heap.size + 1 = g at hown ⊢
  have hbg : w.heap.size < g := by omega
  generalize hbb : w.heap.size = b at hc hbg ⊢
  have HW := Lib.hid (show StRow w2 g g 5 64 64 (bcells blank) (bcells (rowS t x)) false w2.drew from ⟨(Keeps.refl (fun _ => True) w2).drew.own hown fun _ _ => trivial, (Keeps.refl _ w2).drew, (hown.lt g rfl).2⟩)
  have HC := Lib.hid hc
  have HK := Lib.hid hk2
  have HGB := Lib.hid hgg
  have HBB := Lib.hid hbb
  have hbg' := Lib.hid hbg
  clear hown hg2 hz hk2 hc hgg hbb hbg
  go_wp2_with fail
  refine wp_region_one (V := VE g b t x) (w0 := w2) 9 (StRow w2 g g 5 64 64 (bcells blank) (bcells (rowS t x))) (fun w w' => w.grownBy w' (some g)) GE (by kernel_rfl) (fun i w w' v h hv => VE_keep i w w' v (h.mono fun _ _ _ => trivial) hv) (fun _ _ _ h hs => hs.keep h) (fun i _ w w' v h hv => VE_keep i w w' v (keeps_grown h) hv) (by kernel_rfl) (by decide) GE_is (fun i o ho hw => (all_wanted (by kernel_rfl) ho hw).elim) HW.out (each_of ?_) ?_
  · refine ⟨?_, ?_, ?_, ?_, ?_, ?_, ?_, ?_, ?_, ?_, trivial⟩ <;> intro hw a1 w3 L
    · rw [if_neg (by decide)]
      intro b hs _
      exact kp_move rfl (L.old 3 (by kernel_rfl))
    · rw [if_neg (by decide)]
      intro b hs _
      exact kp_field0 rfl (L.old 1 (by kernel_rfl))
    · rw [if_neg (by decide)]
      intro b' hs _
      exact kp_loadI (hs.2.1.cell HC.out.1 (by have := hbg'.out; show b ≠ g; omega)) rfl (L.val 1 6 (by kernel_rfl) (by kernel_rfl))
    · rw [if_neg (by decide)]
      intro b' hs _
      exact kp_litI hs.2.2 rfl (L.val 2 7 (by kernel_rfl) (by kernel_rfl))
    · rw [if_neg (by decide)]
      intro b' hs _
      obtain ⟨B, c, e3, hr⟩ := L.val 3 8 (by kernel_rfl) (by kernel_rfl)
      have hf : a1.eval (.func 33) = .func (.func 33) #[] #[] := rfl
      have hcn : a1.eval (.const (.slice none 0 0)) = .slice none 0 0 := rfl
      refine kp_enter (f := 33) (args := #[.slice none 0 0, .slice B 1 c]) ?_ (put_new g (t : Int) (by omega) (by omega) w3 hs.2.2 B c hr) (fun e w' h => h)
      clear hr hs
      generalize a1.eval = ρ at e3 hf hcn ⊢
      unfold execOp
      go_simp
    · rw [if_neg (by decide)]
      intro b hs _
      exact kp_field1 rfl (L.old 1 (by kernel_rfl))
    · rw [if_neg (by decide)]
      intro b' hs _
      exact kp_loadS (hs.2.1.cell HC.out.2 (by have := hbg'.out; show b ≠ g; omega)) rfl (L.val 5 10 (by kernel_rfl) (by kernel_rfl))
    · rw [if_neg (by decide)]
      intro b' hs _
      exact kp_litS hs.2.2 rfl (L.val 6 11 (by kernel_rfl) (by kernel_rfl))
    · rw [if_neg (by decide)]
      intro b' hs _
      obtain ⟨A, c, e3, h1, h2, hr⟩ := L.val 4 9 (by kernel_rfl) (by kernel_rfl)
      obtain ⟨B, d, e4, hr2⟩ := L.val 7 12 (by kernel_rfl) (by kernel_rfl)
      have hf : a1.eval (.func 32) = .func (.func 32) #[] #[] := rfl
      refine kp_enter (f := 32) (args := #[.slice A (putZ (t : Int)).length c, .slice B 1 d]) ?_ (text_new g (putZ (t : Int)) x (by have := HZ.out; omega) (by omega) w3 hs.2.2 A B c d hr hr2) (fun e w' h => h)
      clear hr hr2 hs h1 h2
      generalize a1.eval = ρ at e3 e4 hf ⊢
      unfold execOp
      go_simp
    · rw [if_pos rfl]
      intro hs
      obtain ⟨A, c, e3, h1, h2, hr⟩ := L.val 8 13 (by kernel_rfl) (by kernel_rfl)
      have e0 : a1.eval (.tmp 5) = .slice (some ⟨g, 0, none⟩) 64 64 := L.val 0 5 (by kernel_rfl) (by kernel_rfl)
      refine Oper.wp_mono ?_ (one_copy (.tmp 5) (.tmp 13) 31 31 rfl Tryd.underlying31 (by kernel_rfl) hs 0 64 64 e0 A _ c e3 (bcells_len _).symm (by rw [bcells_len]; have := HL.out; omega)
        (fun e => by have h0 := vin_pos (zig (t : Int)); have := congrArg List.length e; rw [bcells_len] at this; unfold headS putZ at this; rw [List.length_append, List.length_nil] at this; omega) hr (bcells_one _) (by rw [bcells_len, HB.out, List.length_replicate]; have := HL.out; omega) HR.out)
      rintro a' w' ⟨v, h1, h2, h3, h4⟩
      exact ⟨v, h1, h2, h3, trivial⟩
  · intro vs w4 hs4 hlen hv
    match vs, hlen with
    | [v0, v1, v2, v3, v4, v5, v6, v7, v8, v9], _ =>
      clear hv
      simp only [putAll, List.map, Act.put, List.setIfInBounds_toArray, List.set_cons_succ, List.set_cons_zero, Exit.then]
      have hk4 := HK.out
      obtain ⟨ho4, hkp4, hg4⟩ := hs4
      have hk44 : Keeps (fun _ => True) w w4 := ⟨hkp4.os.trans hk4.os, hkp4.tape.trans hk4.tape, hkp4.output.trans hk4.output, Nat.le_trans hk4.size hkp4.size, fun i _ hi => (hkp4.block i (by have := hbg'.out; have := HBB.out; show i ≠ g; omega) (Nat.lt_of_lt_of_le hi hk4.size)).trans (hk4.block i trivial hi)⟩
      have HW4 := Lib.hid (show StRow w4 g g 5 64 64 (bcells (rowS t x)) (bcells (encS t x)) false w4.drew from ⟨(Keeps.refl (fun _ => True) w4).drew.own ho4 fun _ _ => trivial, (Keeps.refl _ w4).drew, hg4⟩)
      have HT4 := Lib.hid (HT.out.keep hk44)
      have HK4 := Lib.hid hk44
      clear hk4 ho4 hkp4 hg4 hk44 HW HC HK HT
      go_wp2_with fail
      refine wp_region_one (V := VF g (sumOf (rowS t x))) (w0 := w4) 4 (StRow w4 g g 5 64 64 (bcells (rowS t x)) (bcells (encS t x))) (fun w w' => w.grownBy w' (some g)) GE (by kernel_rfl) (fun i w w' v h hv => VF_keep i w w' v (h.mono fun _ _ _ => trivial) hv) (fun _ _ _ h hs => hs.keep h) (fun i _ w w' v h hv => VF_keep i w w' v (keeps_grown h) hv) (by kernel_rfl) (by decide) GE_is (fun i o ho hw => (all_wanted (by kernel_rfl) ho hw).elim) HW4.out (each_of ?_) ?_
      · refine ⟨?_, ?_, ?_, ?_, ?_, trivial⟩ <;> intro hw a1 w3 L
        · rw [if_neg (by decide)]
          intro b hs _
          exact kp_move rfl (L.old 3 (by kernel_rfl))
        · rw [if_neg (by decide)]
          intro b hs _
          have e0 : a1.eval (.tmp 15) = .slice (some ⟨g, 0, none⟩) 64 64 := L.val 0 15 (by kernel_rfl) (by kernel_rfl)
          have hcn : a1.eval (.const (.int .i64 60)) = .int .i64 60 := rfl
          refine kp_yield (v := .slice (some ⟨g, 60, none⟩) 4 4) (w' := w3) ?_ (Keeps.refl _ _) rfl
          generalize a1.eval = ρ at e0 hcn ⊢
          unfold execOp
          go_simp
        · rw [if_neg (by decide)]
          intro b hs _
          exact kp_move rfl (L.old 3 (by kernel_rfl))
        · rw [if_neg (by decide)]
          intro b hs _
          have e0 : a1.eval (.tmp 17) = .slice (some ⟨g, 0, none⟩) 64 64 := L.val 2 17 (by kernel_rfl) (by kernel_rfl)
          have hf : a1.eval (.func 34) = .func (.func 34) #[] #[] := rfl
          have hT3 : Taken w3 := fun i hi => hs.2.1.cell (HT4.out i hi) (by
            have h1 := World.block_lt_of_cell? w _ (HT0.out i hi)
            have := HGB.out; have := HBB.out
            show 0 ≠ g
            simp only at h1
            omega)
          obtain ⟨l, hl, hsl, hrw⟩ : ∃ l : List UInt8, l.length = 64 ∧ sumOf l = sumOf (rowS t x) ∧ Row w3 (some ⟨g, 0, none⟩) (fun b => b = g) (bcells l) := by
            cases b
            · exact ⟨rowS t x, HN.out, rfl, own_row hs.1⟩
            · exact ⟨encS t x, HEL.out, HES.out, own_row hs.1⟩
          refine kp_enter (f := 34) (args := #[.slice (some ⟨g, 0, none⟩) 64 64]) ?_ (ssum_any (some ⟨g, 0, none⟩) 64 _ l w3 hrw hl (Nat.le_refl _) (by decide) hT3) ?_
          · clear hs hrw hT3
            generalize a1.eval = ρ at e0 hf ⊢
            unfold execOp
            go_simp
          · rintro e w' ⟨v, rfl, ho, hk⟩
            rw [hsl] at ho
            exact ⟨v, rfl, hk, TextG.of_own ho hs.2.2⟩
        · rw [if_pos rfl]
          intro hs
          obtain ⟨A, c, e3, h1, h2, hr⟩ := L.val 3 18 (by kernel_rfl) (by kernel_rfl)
          have e0 : a1.eval (.tmp 16) = .slice (some ⟨g, 60, none⟩) 4 4 := L.val 1 16 (by kernel_rfl) (by kernel_rfl)
          refine Oper.wp_mono ?_ (one_copy (.tmp 16) (.tmp 18) 31 31 rfl Tryd.underlying31 (by kernel_rfl) hs 60 4 4 e0 A _ c e3 (bcells_len _).symm (by rw [bcells_len]; exact Nat.le_refl 4)
            (fun e => by have := congrArg List.length e; rw [bcells_len] at this; cases this) hr (bcells_one _) (by rw [bcells_len, bcells_len, HN.out]; exact Nat.le_refl 64) HE.out)
          rintro a' w' ⟨v, h1, h2, h3, h4⟩
          exact ⟨v, h1, h2, h3, trivial⟩
      · intro vs w5 hs5 hlen5 hv5
        match vs, hlen5 with
        | [u0, u1, u2, u3, u4], _ =>
          clear hv5
          simp only [putAll, List.map, Act.put, List.setIfInBounds_toArray, List.set_cons_succ, List.set_cons_zero, Exit.then]
          obtain ⟨ho5, hkp5, hg5⟩ := hs5
          have hk4 := HK4.out
          have hk55 : Keeps (fun _ => True) w w5 := ⟨hkp5.os.trans hk4.os, hkp5.tape.trans hk4.tape, hkp5.output.trans hk4.output, Nat.le_trans hk4.size hkp5.size, fun i _ hi => (hkp5.block i (by have := hbg'.out; have := HBB.out; show i ≠ g; omega) (Nat.lt_of_lt_of_le hi hk4.size)).trans (hk4.block i trivial hi)⟩
          have hown5 : OwnB w5 w.heap.size (.slice (some ⟨g, 0, none⟩) 64 64) (encS t x) := by
            unfold OwnB
            rw [HEL.out]
            exact ownsRow_le ho5 (by have := hbg'.out; have := HBB.out; omega)
          have H1 := Lib.hid (show ∃ v, Ending.returned (.slice (some ⟨g, 0, none⟩) 64 64) = .returned v ∧ OwnB w5 w.heap.size v (encS t x) ∧ Keeps (fun _ => True) w w5 from ⟨_, rfl, hown5, hk55⟩)
          clear ho5 hkp5 hg5 hk4 hk55 hown5 HW4 HT4
          go_wp2_with fail
          go_ret
          exact H1.out

end Go.Proofs.YtpaadllbmhbnhaaDoor
