/-
  JnMark, JnSmall, InvPast, JnAdd, JnMid, JnLearn: texts of mine, joined.
-/
import Derived.Test.YticophaepapjoaaGreatDoorAllA23
import Derived.Test.YticophaepapjoaaGreatDoorAllA03
import Derived.Test.YticophaepapjoaaGreatDoorAllA02
import Derived.Lib.SmallJoins
import Derived.Test.YticophaepapjoaaGreatDoorAllA13
namespace Go.Proofs.YticophaepapjoaaGreatDoor
open Go Go.RowKit Go.Joins
theorem jmay_any (w : World) (k : ByteArray) (b : Bool) (hb : b = true ↔ keyOk k) (hs : k.size ≤ 1000000) :
  Calls Tryz.prog 59 #[.string k] w fun e w' => e = .returned (.bool b) ∧ w = w' := by
 by_cases h1 : 1 ≤ k.size
 ·have t1 : decide ((1 : Int) ≤ (k.size : Int)) = true := by simp; omega
  by_cases h2 : k.size ≤ 40
  ·have t2 : decide ((k.size : Int) ≤ 40) = true := by simp; omega
   obtain rfl : b = true := hb.2 ⟨h1, h2⟩
   clear hb h1 h2
   go_enter Tryz.func59, Tryz.ntmps59
   go_wp2_with fail
   go_ret
   exact ⟨rfl, rfl⟩
  ·have t2 : decide ((k.size : Int) ≤ 40) = false := by simp; omega
   obtain rfl : b = false := by
    cases b
    ·rfl
    ·exact absurd (hb.1 rfl).2 h2
   clear hb h1 h2
   go_enter Tryz.func59, Tryz.ntmps59
   go_wp2_with fail
   go_ret
   exact ⟨rfl, rfl⟩
 ·have t1 : decide ((1 : Int) ≤ (k.size : Int)) = false := by simp; omega
  obtain rfl : b = false := by
   cases b
   ·rfl
   ·exact absurd (hb.1 rfl).1 h1
  clear hb h1
  go_enter Tryz.func59, Tryz.ntmps59
  go_wp2_with fail
  go_ret
  exact ⟨rfl, rfl⟩
def OneC (x : Value) : World → Value → Prop := fun w v => ∃ B, v = .slice (some ⟨B, 0, none⟩) 1 1 ∧ Row w (some ⟨B, 0, none⟩) (fun _ => True) [x]
theorem OneC.keep {x v : Value} {w w' : World} (h : Kp w w') (hv : OneC x w v) : OneC x w' v := by
 obtain ⟨B, e, hr⟩ := hv
 exact ⟨B, e, hr.keep h⟩
section
variable {w : World} {o : Oper} {a : Act} {Q : Exit → Act → World → Prop} {x y : Operand}
theorem kp_oneN {t : Int} (ho : o.op = .buildSlice 106 1 #[(0, x)]) (hx : a.eval x = .int .i64 t) : o.wp Tryz.prog a w (fun a' w' => ∃ v, a' = a.put o.dst v ∧ Kp w w' ∧ OneC (.int .i64 t) w' v) Q := by
 refine kp_yield (v := .slice (some ⟨w.heap.size, 0, none⟩) 1 1) (w' := w.alloc (.cells #[.int .i64 t] 2)) ?_ ((Keeps.refl _ w).alloc _) ⟨_, rfl, Row.fresh w #[.int .i64 t] 2 (0, 0) _ rfl trivial _ rfl⟩
 generalize a.eval = ρ at hx
 unfold execOp
 go_simp
theorem kp_oneT {t : ByteArray} (ho : o.op = .buildSlice 30 1 #[(0, x)]) (hx : a.eval x = .string t) : o.wp Tryz.prog a w (fun a' w' => ∃ v, a' = a.put o.dst v ∧ Kp w w' ∧ OneC (.string t) w' v) Q := by
 refine kp_yield (v := .slice (some ⟨w.heap.size, 0, none⟩) 1 1) (w' := w.alloc (.cells #[.string t] 9)) ?_ ((Keeps.refl _ w).alloc _) ⟨_, rfl, Row.fresh w #[.string t] 9 (0, 0) _ rfl trivial _ rfl⟩
 generalize a.eval = ρ at hx
 unfold execOp
 go_simp
theorem kp_asJ {V : World → Value → Prop} (ho : o.op = .assign x) (hx : V w (a.eval x)) : o.wp Tryz.prog a w (fun a' w' => ∃ v', a' = a.put o.dst v' ∧ Kp w w' ∧ V w' v') Q := by
 refine kp_yield (v := a.eval x) ?_ (Keeps.refl _ _) hx
 unfold execOp; rw [ho]; rfl
end
def MadeC (l : List UInt8) : World → Value → Prop := fun w v => ∃ A c, v = .slice A l.length c ∧ Row w A (fun _ => True) (bcells l)
theorem MadeC.keep {l : List UInt8} {v : Value} {w w' : World} (h : Kp w w') (hv : MadeC l w v) : MadeC l w' v := by
 obtain ⟨A, c, e, hr⟩ := hv
 exact ⟨A, c, e, hr.keep h⟩
def GM : Nat → Option Bool := fun _ => none
theorem GM_is {V : Nat → World → Value → Prop} (g : Nat) (c : Bool) (h : GM g = some c) (w : World) (x : Value) (_ : V g w x) : x = .bool c := by cases h
def VM (base b : Nat) (n : Int) (k : ByteArray) (l1 l2 : List UInt8) : Nat → World → Value → Prop
 | 0 => IsV (.pointer (some ⟨b, 0, none⟩))
 | 1 => IsV (.int .i64 n)
 | 2 => OneC (.int .i64 n)
 | 3 => MadeC l1
 | 4 => IsV (.pointer (some ⟨b, 1, none⟩))
 | 5 => IsV (.string k)
 | 6 => OneC (.string k)
 | 7 => fun w v => OwnB w base v l2
 | 8 => fun w v => OwnB w base v l2
 | _ => fun _ _ => True
theorem VM_keep {base b : Nat} {n : Int} {k : ByteArray} {l1 l2 : List UInt8} (i : Nat) (w w' : World) (v : Value) (h : Kp w w') (hv : VM base b n k l1 l2 i w v) : VM base b n k l1 l2 i w' v := by
 match i, hv with
 | 0, hv => exact hv
 | 1, hv => exact hv
 | 2, hv => exact OneC.keep h hv
 | 3, hv => exact MadeC.keep h hv
 | 4, hv => exact hv
 | 5, hv => exact hv
 | 6, hv => exact OneC.keep h hv
 | 7, hv => exact h.own hv fun _ _ => trivial
 | 8, hv => exact h.own hv fun _ _ => trivial
 | n + 9, _ => trivial
set_option maxRecDepth 100000 in
set_option maxHeartbeats 1000000 in
theorem jencode (w : World) (n : Nat) (k : ByteArray) (hn : n ≤ 40000) (hk : keyOk k) (z : Int) (hz : z = (n : Int)) :
  Calls Tryz.prog 87 #[.agg #[.int .i64 z, .string k]] w fun e w' => ∃ v, e = .returned v ∧ OwnB w' w.heap.size v (markB n k) ∧ Kp w w' := by
 subst hz
 have hk0 : Kp w (w.alloc (.cells #[.int .i64 (n : Int), .string k] 72)) := (Keeps.refl _ w).alloc _
 have b0 := heap_alloc_new w (.cells #[.int .i64 (n : Int), .string k] 72)
 have hlt : w.heap.size < (w.alloc (.cells #[.int .i64 (n : Int), .string k] 72)).heap.size := by simp
 have HPN := Lib.hid (show ∀ (w3 : World) (B : Nat), Kp w w3 → Row w3 (some ⟨B, 0, none⟩) (fun _ => True) [.int .i64 (n : Int)] → Calls Tryz.prog 79 #[.slice none 0 0, .slice (some ⟨B, 0, none⟩) 1 1] w3 fun e w' => ∃ v, e = .returned v ∧ Kp w3 w' ∧ MadeC (putZ (n : Int)) w' v from fun w3 B _ hr => by
  refine (show Calls _ _ _ _ _ from put_any none (some ⟨B, 0, none⟩) 0 1 (fun _ => True) (fun _ => True) [] [(n : Int)] w3 (Row.nil _ _ _) hr (fun n hn => by rw [List.mem_singleton.1 hn]; omega) (by simp) (by simp)).mono ?_
  rintro e w' ⟨v, rfl, ho, hk⟩
  have e : ([] : List UInt8) ++ putsZ [(n : Int)] = putZ (n : Int) := by simp [putsZ]
  rw [e] at ho
  obtain ⟨A, c, rfl, -, hr⟩ := own_slice ho
  exact ⟨_, rfl, hk, A, c, rfl, hr.mono fun _ _ _ => trivial⟩)
 have hl1 : (putZ (n : Int)).length ≤ 1000 := by
  have := (markB_len hn hk).2
  unfold markB at this
  simp only [List.length_append] at this
  omega
 have HPT := Lib.hid (show ∀ (w3 : World) (A : Option Addr) (c B : Nat), Kp w w3 → Row w3 A (fun _ => True) (bcells (putZ (n : Int))) → Row w3 (some ⟨B, 0, none⟩) (fun _ => True) [.string k] →
   Calls Tryz.prog 104 #[.slice A (putZ (n : Int)).length c, .slice (some ⟨B, 0, none⟩) 1 1] w3 fun e w' => ∃ v, e = .returned v ∧ Kp w3 w' ∧ OwnB w' w.heap.size v (markB n k) from fun w3 A c B hkk hr hr2 => by
  refine (show Calls _ _ _ _ _ from put_text A (some ⟨B, 0, none⟩) c 1 (fun _ => True) (fun _ => True) (putZ (n : Int)) [k] w3 hr hr2 (by have := hk.2; unfold total; simp; omega) (by omega) (by simp)).mono ?_
  rintro e w' ⟨v, rfl, ho, hk'⟩
  have e : putZ (n : Int) ++ putsT (strs [k]) = markB n k := by simp [putsT, strs, markB]
  rw [e] at ho
  exact ⟨v, rfl, hk', ownsRow_le ho hkk.size⟩)
 generalize hL1 : putZ (n : Int) = l1 at HPT HPN hl1
 generalize hL2 : markB n k = l2 at HPT ⊢
 obtain ⟨z, hz⟩ : ∃ z : Int, (n : Int) = z := ⟨_, rfl⟩
 rw [hz] at hk0 b0 hlt HPN ⊢
 clear hL1 hL2 hn hk hz
 obtain ⟨w0, hw0⟩ : ∃ w0, w.alloc (.cells #[.int .i64 z, .string k] 72) = w0 := ⟨_, rfl⟩
 rw [hw0] at hk0 b0 hlt
 have HW0 := Lib.hid hw0
 have HK0 := Lib.hid hk0
 have HB0 := Lib.hid b0
 clear hw0 hk0 b0
 go_enter Tryz.func87, Tryz.ntmps87
 go_wp2_with (rw [HW0.out])
 try rw [HW0.out]
 refine wp_region_guard (R := Kp) (V := VM w.heap.size w.heap.size z k l1 l2) (w0 := w0) GM (by kernel_rfl) (fun w => Keeps.refl _ w) (fun _ _ _ h k => h.trans k) (fun i w w' v h hv => VM_keep i w w' v h hv) (by kernel_rfl) GM_is (fun i o ho hw => (all_wanted (by kernel_rfl) ho hw).elim) ((Keeps.refl _ w0).drew) (each_of ?_) ?_
 ·refine ⟨?_, ?_, ?_, ?_, ?_, ?_, ?_, ?_, ?_, trivial⟩ <;> intro hw a1 w3 L
  ·exact kp_fM0 rfl (L.old 1 (by kernel_rfl))
  ·have hb := (L.rel.block w.heap.size trivial hlt).trans HB0.out
   exact kp_ldI ((cell_of_block hb 0).trans rfl) rfl (L.val 0 3 (by kernel_rfl) (by kernel_rfl))
  ·exact kp_oneN rfl (L.val 1 4 (by kernel_rfl) (by kernel_rfl))
  ·obtain ⟨B, e0, hr⟩ := (show OneC (.int .i64 z) w3 (a1.eval (.tmp 5)) from L.val 2 5 (by kernel_rfl) (by kernel_rfl))
   have hf : a1.eval (.func 79) = .func (.func 79) #[] #[] := rfl
   have hn : a1.eval (.const (.slice none 0 0)) = .slice none 0 0 := rfl
   refine kp_enter (f := 79) (args := #[.slice none 0 0, .slice (some ⟨B, 0, none⟩) 1 1]) ?_ (HPN.out w3 B (HK0.out.trans L.rel) hr) ?_
   ·clear L
    generalize a1.eval = ρ at e0 hf hn ⊢
    unfold execOp
    go_simp
   ·rintro e w' ⟨v, rfl, hk, hv⟩
    exact ⟨v, rfl, hk, hv⟩
  ·exact kp_fM1 rfl (L.old 1 (by kernel_rfl))
  ·have hb := (L.rel.block w.heap.size trivial hlt).trans HB0.out
   exact kp_ldT ((cell_of_block hb 1).trans rfl) rfl (L.val 4 7 (by kernel_rfl) (by kernel_rfl))
  ·exact kp_oneT rfl (L.val 5 8 (by kernel_rfl) (by kernel_rfl))
  ·obtain ⟨A, c, e0, hr⟩ := (show MadeC l1 w3 (a1.eval (.tmp 6)) from L.val 3 6 (by kernel_rfl) (by kernel_rfl))
   obtain ⟨B, e1, hr2⟩ := (show OneC (.string k) w3 (a1.eval (.tmp 9)) from L.val 6 9 (by kernel_rfl) (by kernel_rfl))
   have hf : a1.eval (.func 104) = .func (.func 104) #[] #[] := rfl
   refine kp_enter (f := 104) (args := #[.slice A l1.length c, .slice (some ⟨B, 0, none⟩) 1 1]) ?_ (HPT.out w3 A c B (HK0.out.trans L.rel) hr hr2) ?_
   ·clear L
    generalize a1.eval = ρ at e0 e1 hf ⊢
    unfold execOp
    go_simp
   ·rintro e w' ⟨v, rfl, hk, hv⟩
    exact ⟨v, rfl, hk, hv⟩
  ·have h10 : OwnB w3 w.heap.size (a1.eval (.tmp 10)) l2 := L.val 7 10 (by kernel_rfl) (by kernel_rfl)
   exact kp_asJ rfl h10
 ·intro vs w4 hk4 hlen4 hv
  match vs, hlen4 with
  | [v0, v1, v2, v3, v4, v5, v6, v7, v8], _ =>
   have hv4 : OwnB w4 w.heap.size v8 l2 := hv 8 2 (by kernel_rfl)
   have HV := Lib.hid hv4
   have HK4 := Lib.hid (HK0.out.trans hk4)
   clear hv hv4 hk4
   simp only [putAll, List.map, Act.put, List.setIfInBounds_toArray, List.set_cons_succ, List.set_cons_zero, Exit.then]
   go_wp2_with fail
   go_ret
   exact ⟨_, rfl, HV.out, HK4.out⟩
theorem res2u (w W : World) (hb : W.heap[w.heap.size]? = some (.cells #[.int .i64 0, .string ⟨#[]⟩] 72 (0, 0))) : W.frozen? ⟨w.heap.size, 0, none⟩ = false ∧ W.frozen? ⟨w.heap.size, 1, none⟩ = false ∧
  W.cell? ⟨w.heap.size, 0, none⟩ = some (.int .i64 0) ∧ W.cell? ⟨w.heap.size, 1, none⟩ = some (.string ⟨#[]⟩) :=
 ⟨unfrozen_of_block hb 0, unfrozen_of_block hb 1, (cell_of_block hb 0).trans rfl, (cell_of_block hb 1).trans rfl⟩
theorem res2 (w W : World) (hb : W.heap[w.heap.size]? = some (.cells #[.int .i64 0, .string ⟨#[]⟩] 72 (0, 0))) (hk : Kp w W) : RowKit.Hid (∀ v0 v1,
  ((W.setCell ⟨w.heap.size, 0, none⟩ v0).setCell ⟨w.heap.size, 1, none⟩ v1).cell? ⟨w.heap.size, 0, none⟩ = some v0 ∧
  ((W.setCell ⟨w.heap.size, 0, none⟩ v0).setCell ⟨w.heap.size, 1, none⟩ v1).cell? ⟨w.heap.size, 1, none⟩ = some v1 ∧
  Kp w ((W.setCell ⟨w.heap.size, 0, none⟩ v0).setCell ⟨w.heap.size, 1, none⟩ v1)) := Lib.hid fun v0 v1 => by
 have h1 := block_setCell (block_setCell hb (i := 0) v0) (i := 1) v1
 exact ⟨(cell_of_block h1 0).trans rfl, (cell_of_block h1 1).trans rfl, (hk.setCell (.inl (Nat.le_refl _)) _).setCell (.inl (Nat.le_refl _)) _⟩
set_option maxRecDepth 100000 in
set_option maxHeartbeats 1000000 in
theorem jdecode (w : World) (A : Option Addr) (m c n : Nat) (k : ByteArray) (hr : Row w A (fun _ => True) (bcells (markB n k))) (hm : m = (markB n k).length) (hmc : m ≤ c) (hcm : c ≤ maxLen) (h1 : 1 ≤ n) (hn : n ≤ 40000) (hk : keyOk k) :
  Calls Tryz.prog 92 #[.slice A m c] w fun e w' => e = .returned (.tuple #[.agg #[.int .i64 (n : Int), .string k], .bool true]) ∧ Kp w w' := by
 have hln := markB_len hn hk
 have hkl : k.data.toList.length = k.size := by simp
 have hk1 := hk.1
 have hk2 := hk.2
 obtain ⟨b, o, rfl, -, -⟩ := hr.at_ (k := 0) (by rw [bcells_len]; omega)
 obtain ⟨w0, hw0⟩ : ∃ w0, w.alloc (.cells #[.int .i64 0, .string ⟨#[]⟩] 72) = w0 := ⟨_, rfl⟩
 have HW0 := Lib.hid hw0
 have hb0 : w0.heap[w.heap.size]? = some (.cells #[.int .i64 0, .string ⟨#[]⟩] 72 (0, 0)) := by rw [← hw0]; exact heap_alloc_new w _
 have hk0 : Kp w w0 := by rw [← hw0]; exact (Keeps.refl _ w).alloc _
 have hr0 := hr.keep hk0
 obtain ⟨i, hi⟩ : ∃ i, (putZ (n : Int)).length = i := ⟨_, rfl⟩
 have hi1 : 0 < i := by rw [← hi]; exact vin_pos _
 have hpt : (putT k.data.toList).length + i = m := by rw [hm, ← hi]; unfold markB; rw [List.length_append]; omega
 have hG := getZ_put (n : Int) (putT k.data.toList) (by omega) (by omega)
 rw [hi] at hG
 have hT := getT_put k.data.toList [] (by omega)
 rw [List.append_nil] at hT
 have hdr : (markB n k).drop i = putT k.data.toList := by unfold markB; rw [← hi, List.drop_left]
 have hpos : 0 < (putT k.data.toList).length := by unfold putT; rw [List.length_append]; have := vin_pos (zig (k.data.toList.length : Int)); unfold putZ; omega
 have HG := Lib.hid (show Calls Tryz.prog 125 #[.slice (some ⟨b, o, none⟩) m c] w0 fun e w' => e = .returned (.tuple #[.int .i64 (n : Int), .int .i64 (i : Int), .int .i64 0]) ∧ w0 = w' from by
  rw [hm]
  exact get_is _ c _ (markB n k) w0 hr0 (by omega) (n : Int) i 0 hG)
 obtain ⟨j, hmi⟩ : ∃ j, m - i = j := ⟨_, rfl⟩
 have HT := Lib.hid (show Calls Tryz.prog 126 #[.slice (some ⟨b, o + i, none⟩) (m - i) (c - i)] w0 fun e w' => e = .returned (.tuple #[.string k, .int .i64 ((j : Nat) : Int), .int .i64 0]) ∧ w0 = w' from by
  have hr1 := hr0.cut (k := i) (cap := c) (by rw [bcells_len]; omega) (by rw [bcells_len]; omega)
  rw [if_neg (by omega), bcells, ← List.map_drop, hdr] at hr1
  simp only [Option.map_some, WideShapes.add_plain] at hr1
  have h := get_text _ (c - i) _ (putT k.data.toList) w0 hr1 (by omega) (by omega) (by omega)
  rw [hT, show (putT k.data.toList).length = m - i by omega] at h
  simp only [txt_data, hmi] at h
  rw [← hmi] at h ⊢
  exact h)
 have HMY := Lib.hid (jmay_any w0 k true ⟨fun _ => hk, fun _ => rfl⟩ (by omega))
 have HRES := res2 w w0 hb0 hk0
 obtain ⟨f0, f1, r0, r1⟩ := res2u w w0 hb0
 obtain ⟨d0, d1, HK⟩ := HRES.out (.int .i64 (n : Int)) (.string k)
 have HKK := Lib.hid HK
 have t1 : decide ((n : Int) < 1) = false := by simp; omega
 have t2 : decide ((1099511627776 : Int) < (n : Int)) = false := by simp; omega
 have t3 : ((i : Int) + ((j : Nat) : Int) != (m : Int)) = false := by simp; omega
 have hile : i ≤ m := by omega
 have hic : ¬ c = i := by omega
 have hib : i ≤ 100 := by omega
 have hjb : j ≤ 100 := by omega
 clear hmi HK HRES hpos hdr hT hG hpt hi hr hr0 hm hw0 hb0 hk0 hkl hk1 hk2 hln hi1
 unfold maxLen at hcm
 go_enter Tryz.func92, Tryz.ntmps92
 go_wp2_with (rw [HW0.out])
 try rw [HW0.out]
 refine (show Calls _ _ _ _ _ from HG.out).mono ?_
 rintro e w1 ⟨rfl, rfl⟩
 go_wp2_with fail
 refine (show Calls _ _ _ _ _ from HT.out).mono ?_
 rintro e w1 ⟨rfl, rfl⟩
 go_wp2_with fail
 refine (show Calls _ _ _ _ _ from HMY.out).mono ?_
 rintro e w1 ⟨rfl, rfl⟩
 go_wp2_with fail
 exact bodyPost_ret (v := .tuple #[.agg #[.int .i64 (n : Int), .string k], .bool true]) (by simp [results, Tryz.results92, go_sem, d0, d1]) rfl ⟨rfl, HKK.out⟩
theorem jdown (w : World) (q lq : Nat) (c0 : w.cell? ⟨q, 0, none⟩ = some (.pointer (some ⟨lq, 0, none⟩))) :
  Calls Tryz.prog 56 #[.pointer (some ⟨q, 0, none⟩)] w fun e w' => e = .returned (.bool false) ∧ w = w' := by
 go_enter Tryz.func56, Tryz.ntmps56
 go_wp2_with fail
 go_ret
 exact ⟨rfl, rfl⟩
set_option maxRecDepth 100000 in
theorem jseq (w : World) (q lq b n : Nat) (A : Option Addr) (c : Nat) (h : JBlk w q lq (b : Int) (.slice A n c)) (h1 : b + n ≤ 1000000) (m : Int) (hm : m = (b : Int) + (n : Int)) :
  Calls Tryz.prog 24 #[.pointer (some ⟨q, 0, none⟩)] w fun e w' => e = .returned (.int .i64 m) ∧ ∃ z, w' = w.drewN z := by
 subst hm
 have HDN := Lib.hid (jdown w q lq h.c0)
 have c1 := h.c1
 have c2 := h.c2
 clear h
 go_enter Tryz.func24, Tryz.ntmps24
 go_wp2_with fail
 refine (show Calls _ _ _ _ _ from HDN.out).mono ?_
 rintro e w1 ⟨rfl, rfl⟩
 go_wp2_with fail
 go_quiet (fail)
 go_wp2_with fail
 go_ret
 exact ⟨rfl, _, rfl⟩
theorem jbase (w : World) (q lq b : Nat) (v : Value) (h : JBlk w q lq (b : Int) v) :
  Calls Tryz.prog 31 #[.pointer (some ⟨q, 0, none⟩)] w fun e w' => e = .returned (.int .i64 (b : Int)) ∧ Kp w w' := by
 have HDN := Lib.hid (jdown w q lq h.c0)
 have c1 := h.c1
 clear h
 go_enter Tryz.func31, Tryz.ntmps31
 go_wp2_with fail
 refine (show Calls _ _ _ _ _ from HDN.out).mono ?_
 rintro e w1 ⟨rfl, rfl⟩
 go_wp2_with fail
 go_ret
 exact ⟨rfl, Keeps.refl _ _⟩
end Go.Proofs.YticophaepapjoaaGreatDoor
namespace Go.Proofs.YticophaepapjoaaGreatDoor
open Go Go.RowKit
section
variable {P : Program} {ops : Array Oper} {Q : Exit → Act → World → Prop} {R : World → World → Prop} {V : Nat → World → Value → Prop} {a0 : Act} {w0 : World} {G : Nat → Option Bool} {St : Bool → World → Prop} {Rk : World → World → Prop} {k : Nat}
theorem wp_region_past {id : Nat} {w : World} (k : Nat) (St : Bool → World → Prop) (Rk : World → World → Prop) (G : Nat → Option Bool) (hm : P.follows .mixedOrders = true)
  (hV : ∀ i w w' v, Kp w w' → V i w v → V i w' v) (hS : ∀ b w w', Kp w w' → St b w → St b w') (hVk : ∀ i, i ≠ k → (∀ js, chained ops k i js = false) → ∀ w w' v, Rk w w' → V i w v → V i w' v)
  (hfit : fitsG G ops a0.tmps.size = true) (hk : k < ops.size) (hG : ∀ g c, G g = some c → ∀ w v, V g w v → v = .bool c) (hU : ∀ (i : Nat) (o : Oper), ops[i]? = some o → wantsG G o = false → i ≠ k ∧ V i = IsV undef) (hw : St false w.drew)
  (loc : ∀ (i : Nat) (o : Oper), ops[i]? = some o → wantsG G o = true → ∀ a w, Leans (fun _ _ => True) V ops a0 w0 i a w →
   if i = k then (St false w → o.wp P a w (fun a' w' => ∃ v, a' = a.put o.dst v ∧ Rk w w' ∧ St true w' ∧ V i w' v) Q)
   else (∀ b, St b w → (∀ js, chained ops k i js = true → b = true) → (∀ js, chained ops i k js = true → b = false) → o.wp P a w (fun a' w' => ∃ v, a' = a.put o.dst v ∧ Kp w w' ∧ V i w' v) Q))
  (done : ∀ vs w, St true w → vs.length = ops.size → (∀ i d, dstOf ops i = some d → V i w (vs.getD i undef)) → Q .normal (putAll a0 (ops.toList.map (·.dst)) vs) w) :
  (Code.region id ops true).wp P Q a0 w := by
 have look : ∀ (i : Nat) (o : Oper), ops[i]? = some o → (∀ g b, o.guard = some (g, b) → waits ops i g = true ∧ (dstOf ops g).isSome = true ∧ ((G g).isSome = true ∨ ∃ o', ops[g]? = some o' ∧ wantsG G o' = false)) ∧ (∀ e ∈ o.after, Region.binds .any e = true → e.on < i) ∧ (∀ d, o.dst = some d → d < a0.tmps.size) ∧ (∀ j, i ≠ j → ∀ d, o.dst = some d → dstOf ops j ≠ some d) := by
  intro i o ho
  have hi : i < ops.size := (Array.getElem?_eq_some_iff.1 ho).1
  have h := List.all_eq_true.1 hfit i (List.mem_range.2 hi)
  simp only [ho, Option.all_some, Bool.and_eq_true] at h
  obtain ⟨⟨⟨h1, h2⟩, h3⟩, h4⟩ := h
  refine ⟨fun g b hgb => ?_, fun e he hb => ?_, fun d hd => ?_, fun j hj d hd hx => ?_⟩
  ·rw [hgb] at h1
   simp only [Bool.and_eq_true, Bool.or_eq_true] at h1
   refine ⟨h1.1.1, h1.1.2, h1.2.imp (fun hx => hx) fun hx => ?_⟩
   cases ho' : ops[g]? with
   | none => rw [ho'] at hx; cases hx
   | some o' =>
    rw [ho'] at hx
    exact ⟨o', rfl, by simpa using hx⟩
  ·have := Array.all_eq_true_iff_forall_mem.1 h2 e he
   simpa [hb] using this
  ·rw [hd] at h3; simpa using h3
  ·have hjs : j < ops.size := by
    rcases Nat.lt_or_ge j ops.size with h' | h'
    ·exact h'
    ·simp [dstOf, Array.getElem?_eq_none h'] at hx
   have := List.all_eq_true.1 h4 j (List.mem_range.2 hjs)
   rw [hd, hx] at this
   simp [hj] at this
 have some_of : ∀ i d, dstOf ops i = some d → ∃ o, ops[i]? = some o ∧ o.dst = some d := fun i d h => by
  unfold dstOf at h
  cases ho : ops[i]? with
  | none => simp [ho] at h
  | some o => exact ⟨o, rfl, by simpa [ho] using h⟩
 have hd : ∀ i j d, dstOf ops i = some d → dstOf ops j = some d → i = j := by
  intro i j d hi hj
  obtain ⟨o, ho, hd⟩ := some_of i d hi
  exact Classical.byContradiction fun hne => (look i o ho).2.2.2 j hne d hd hj
 have hb : ∀ i d, dstOf ops i = some d → d < a0.tmps.size := by
  intro i d hi
  obtain ⟨o, ho, hd⟩ := some_of i d hi
  exact (look i o ho).2.2.1 d hd
 have hac : ∀ i j, waits ops i j = true → j < i := by
  intro i j h
  obtain ⟨o, ho, e, he, hb, rfl⟩ := (waits_iff i j).1 h
  exact (look i o ho).2.1 e he hb
 have fin : ∀ (l : Array Bool) (a : Act) (w' : World), (∀ i, i < ops.size → l.getD i false = true) → StandsAt (fun _ _ => True) V ops a0 w0 l a w' → St (l.getD k false) w' → Q .normal a w' := by
  intro l a w' hall h hs
  rw [hall k hk] at hs
  have hlen : ((ops.toList.map (·.dst)).map (slotOf a)).length = ops.size := by simp
  have hq := done ((ops.toList.map (·.dst)).map (slotOf a)) w' hs hlen (fun i d hid => by
   obtain ⟨o, ho, hd⟩ := some_of i d hid
   have hi : i < ops.size := (Array.getElem?_eq_some_iff.1 ho).1
   have hv := h.val i d (hall i hi) hid
   have e : ((ops.toList.map (·.dst)).map (slotOf a)).getD i undef = a.tmps.getD d undef := by
    rw [List.getD_eq_getElem?_getD, List.getElem?_map, List.getElem?_map, Array.getElem?_toList, ho]
    simp [hd, slotOf]
   rw [e]; exact hv)
  rw [← putAll_of a _ a0 h.defers h.tmps ?_ ?_] at hq
  ·exact hq
  ·intro d hd
   obtain ⟨o, ho, hod⟩ := List.mem_map.1 hd
   obtain ⟨i, hi, rfl⟩ := List.getElem_of_mem ho
   exact (look i ops[i] (by simp at hi; simp [hi])).2.2.1 d (by simpa using hod)
  ·intro t ht
   refine h.old t fun i _ hid => ht ?_
   obtain ⟨o, ho, hd⟩ := some_of i t hid
   refine List.mem_map.2 ⟨o, ?_, hd⟩
   rw [← Array.mem_def]
   exact Array.mem_of_getElem? ho
 have go : ∀ (fuel : Nat) (l : Array Bool) (a : Act) (w : World), (leftOver ops.size l).length ≤ fuel → StandsAt (fun _ _ => True) V ops a0 w0 l a w → St (l.getD k false) w → wpAny P .any ops Q fuel l a w := by
  intro fuel
  induction fuel with
  | zero =>
   intro l a w hf h hs
   have hn : leftOver ops.size l = [] := List.eq_nil_of_length_eq_zero (by omega)
   have hnot : ∀ i, i < ops.size → l.getD i false = true := fun i hi => by
    have hm : i ∉ leftOver ops.size l := by rw [hn]; simp
    have hl' : i < l.size := by rw [h.size]; exact hi
    unfold leftOver at hm
    simp only [List.mem_filter, List.mem_range, hi, true_and, Array.getD, hl'] at hm ⊢
    simpa using hm
   refine ⟨?_, fin l a w hnot h hs⟩
   refine List.eq_nil_iff_forall_not_mem.2 fun i hi => ?_
   have hm := (mem_ready.1 hi).1
   have hx := getD_false_of hm
   rw [hnot i (by rw [← h.size]; exact hx.2)] at hx
   exact absurd hx.1 (by simp)
  | succ fuel ih =>
   intro l a w hf h hs
   refine ⟨fun hr => fin l a w (all_listed hac h.size hr) h hs, fun i hi => ?_⟩
   obtain ⟨hl, o, ho, hall⟩ := mem_ready.1 hi
   have hwt : ∀ j, waits ops i j = true → l.getD j false = true := fun j hj => by
    obtain ⟨o', ho', e, he, hb', rfl⟩ := (waits_iff i j).1 hj
    rw [ho] at ho'; cases ho'
    exact hall e he hb'
   have hdst : o.dst = dstOf ops i := by simp [dstOf, ho]
   have hleft : (leftOver ops.size (l.setIfInBounds i true)).length ≤ fuel := by
    have := leftOver_set ops.size l i (by rw [← h.size]; exact (getD_false_of hl).2) hl
    omega
   have hwant := wanted_is (h.leans hl hwt) (fun j d hj => by rw [h.tmps]; exact hb j d hj) (look i o ho).1 hG (fun i o ho hw => (hU i o ho hw).2)
   have hset : ∀ (hne : i ≠ k), (l.setIfInBounds i true).getD k false = l.getD k false := fun hne => getD_set_ne false hne
   have hloc := loc i o ho
   unfold wpOp
   cases hwo : wantsG G o
   ·rw [hwo] at hwant
    obtain ⟨hne, hu⟩ := hU i o ho hwo
    simp only [ho, hwant, Bool.false_eq_true, if_false]
    rw [hdst]
    exact ih _ _ _ hleft (h.step' trivial (fun _ => trivial) hd hb hl (fun _ _ _ hh => hh) hwt (by rw [hu]; rfl)) (by rw [hset hne]; exact hs)
   ·rw [hwo] at hwant
    simp only [ho, hwant, if_true]
    have hlc := hloc hwo a w (h.leans hl hwt)
    by_cases hik : i = k
    ·subst hik
     rw [if_pos rfl] at hlc
     have hlf := (getD_false_of hl).1
     rw [hlf] at hs
     refine .inl (Oper.wp_mono (fun a' w' hk' => ?_) (hlc hs))
     obtain ⟨v, rfl, hr, hst, hv⟩ := hk'
     rw [hdst]
     refine ih _ _ _ hleft (h.step' trivial (fun _ => trivial) hd hb hl (fun j u hj hu => ?_) hwt hv) (by
      have : (l.setIfInBounds i true).getD i false = true := by simp [(getD_false_of hl).2]
      rw [this]; exact hst)
     exact hVk j (fun e => by subst e; rw [hj] at hlf; cases hlf) (fun js => by
      cases hc : chained ops i j js with
      | false => rfl
      | true =>
       have := chained_listed (k := i) h js j (fun m hm => h.down j m hj hm) hc
       rw [hlf] at this
       cases this) w w' u hr hu
    ·rw [if_neg hik] at hlc
     refine .inl (Oper.wp_mono (fun a' w' hk' => ?_) (hlc _ hs (fun js hbh => chained_listed h js i hwt hbh) (fun js hbh => by
      cases hlk : l.getD k false with
      | false => rfl
      | true =>
       have := chained_listed (k := i) h js k (fun m hm => h.down k m hlk hm) hbh
       rw [(getD_false_of hl).1] at this
       cases this)))
     obtain ⟨v, rfl, hr, hv⟩ := hk'
     rw [hdst]
     exact ih _ _ _ hleft (h.step' trivial (fun _ => trivial) hd hb hl (fun j u _ hu => hV j w w' u hr hu) hwt hv) (by rw [hset hik]; exact hS _ _ _ hr hs)
 refine wp_region_any hm ?_
 refine go ops.size _ a0 _ ?_ ?_ ?_
 ·refine Nat.le_trans (List.length_filter_le _ _) ?_
  simp
 ·refine ⟨by simp, trivial, rfl, rfl, fun _ _ => rfl, ?_, ?_⟩
  ·intro i d h; exact absurd h (by simp [Array.getD])
  ·intro i j h; exact absurd h (by simp [Array.getD])
 ·have : (Array.replicate ops.size false).getD k false = false := by simp [Array.getD]
  rw [this]; exact hw
end
end Go.Proofs.YticophaepapjoaaGreatDoor
namespace Go.Proofs.YticophaepapjoaaGreatDoor
open Go Go.RowKit Go.Joins
def JApp (S : Slog2) (w0 : World) (p lq : Nat) (F Fl : Foot) (s : SDev) (lst : LSt) (l : List UInt8) (x : Nat) (w1 : World) : Prop :=
 ∃ (F' Fl' : Foot) (s' : SDev) (g f n : Nat), DAt w1 p F' s' ∧ S.rep w1 lq Fl' ⟨p, lst.place, lst.segs, lst.hist ++ [⟨x, l, 0⟩], g, f, n⟩ s' ∧ lst.gone ≤ g ∧ n ≤ lst.next + 1048576 ∧
  s'.now.length = s.now.length ∧ (∀ i, ¬ lst.has i → s'.now.getD i [] = s.now.getD i []) ∧ s'.calls ≤ s.calls + 1000 ∧ Apart F' Fl' ∧ Keeps (fun b => ¬ F.M b ∧ ¬ Fl.M b) w0 w1 ∧
  (∀ b, F'.M b → F.M b ∨ w0.heap.size ≤ b) ∧ (∀ b, F'.I b → F.all b ∨ w0.heap.size ≤ b) ∧ (∀ b, Fl'.M b → Fl.M b ∨ w0.heap.size ≤ b) ∧ (∀ b, Fl'.I b → Fl.all b ∨ w0.heap.size ≤ b)
theorem JApp.keep {S : Slog2} {w0 w1 w2 : World} {p lq : Nat} {F Fl : Foot} {s : SDev} {lst : LSt} {l : List UInt8} {x : Nat} (h : JApp S w0 p lq F Fl s lst l x w1) (hk : Kp w1 w2) : JApp S w0 p lq F Fl s lst l x w2 := by
 obtain ⟨F', Fl', s', g, f, n, h1, h2, h3, h4, h5, h6, h7, h8, h9, h10, h11, h12, h13⟩ := h
 exact ⟨F', Fl', s', g, f, n, h1.keep (hk.mono fun _ _ _ => trivial), S.keep h2 (hk.mono fun _ _ _ => trivial), h3, h4, h5, h6, h7, h8, h9.trans (hk.mono fun _ _ _ => trivial), h10, h11, h12, h13⟩
theorem japp_call (S : Slog2) (W w wc : World) (hT : S.T W) (p lq : Nat) (F Fl : Foot) (s : SDev) (lst : LSt) (hd : DAt w p F s) (hl : S.rep w lq Fl lst s) (hon : lst.dev = p) (ha : Apart F Fl) (hk : Kp W w) (hF : ∀ b, F.all b → W.heap.size ≤ b) (hFl : ∀ b, Fl.all b → W.heap.size ≤ b)
  (hroom : lst.place + 8 * lst.segs ≤ s.now.length) (hcl : s.calls ≤ 540000000000) (hnx : lst.next ≤ 137438953472) (hkc : Kp w wc) (v : Value) (l : List UInt8) (ho : OwnB wc w.heap.size v l) (h1 : 1 ≤ l.length) (h2 : l.length ≤ 300) :
  Calls Tryz.prog 71 #[.pointer (some ⟨lq, 0, none⟩), v] wc fun e w' => (∃ x : Nat, e = .returned (.tuple #[.int .i64 (x : Int), .int .i64 0]) ∧ JApp S w p lq F Fl s lst l x w') ∧ Keeps (fun b => w.heap.size ≤ b) wc w' := by
 obtain ⟨A, c, rfl, -, hr⟩ := own_slice ho
 have hc := own_cap ho
 have hszc := hkc.size
 have hdl := hd.lt
 have hll := fun b hb => S.lt hl b hb
 refine (S.append W wc p lq F Fl s lst (hd.keep (hkc.mono fun _ _ _ => trivial)) (S.keep hl (hkc.mono fun _ _ _ => trivial)) hon ha hT (hk.trans hkc) hF hFl hroom (by omega) hnx A c (fun b => w.heap.size ≤ b ∧ b < wc.heap.size) l hr (fun b hb hf => by have := hdl b hf; omega) (fun b hb hf => by have := hll b hf; omega) hc.1 hc.2.1 h1 h2).mono ?_
 rintro e w' ⟨x, F', Fl', s', g, f, n, rfl, a1, a2, a3, a4, a5, a6, a7, a8, a9, a10, a11, a12, a13, a14⟩
 refine ⟨⟨x, rfl, F', Fl', s', g, f, n, a1, a2, a3, a5, a6, a7, a8, a9, (hkc.mono fun _ _ _ => trivial).trans a10, fun b hb => ?_, fun b hb => ?_, fun b hb => ?_, fun b hb => ?_⟩, a10.mono fun b _ hb => ⟨fun hm => by have := hdl b (.inl hm); omega, fun hm => by have := hll b (.inl hm); omega⟩⟩
 ·rcases a11 b hb with h | h
  ·exact .inl h
  ·exact .inr (by omega)
 ·rcases a12 b hb with h | h
  ·exact .inl h
  ·exact .inr (by omega)
 ·rcases a13 b hb with h | h
  ·exact .inl h
  ·exact .inr (by omega)
 ·rcases a14 b hb with h | h
  ·exact .inl h
  ·exact .inr (by omega)
section
variable {w : World} {o : Oper} {a : Act} {Q : Exit → Act → World → Prop} {x y : Operand}
theorem jn_enter {P : Program} {X : World → Value → Prop} {f : FuncId} {args : Array Value} {C : Ending → World → Prop} (e : (execOp a.eval o).run P w = .ok (.enter f args) w) (hc : Calls P f args w C)
  (hC : ∀ e w', C e w' → ∃ v, e = .returned v ∧ X w' v) : o.wp P a w (fun a' w' => ∃ v, a' = a.put o.dst v ∧ X w' v) Q := by
 unfold Oper.wp
 rw [e]
 refine hc.mono fun e w' h => ?_
 obtain ⟨v, rfl, hv⟩ := hC e w' h
 exact ⟨v, rfl, hv⟩
theorem kp_fJ0 {b : Nat} (ho : o.op = .fieldAddr 108 x 0) (hx : a.eval x = .pointer (some ⟨b, 0, none⟩)) : o.wp Tryz.prog a w (fun a' w' => ∃ v, a' = a.put o.dst v ∧ Kp w w' ∧ IsV (.pointer (some ⟨b, 0, none⟩)) w' v) Q := by
 refine kp_yield (v := .pointer (some ⟨b, 0, none⟩)) ?_ (Keeps.refl _ _) rfl
 generalize a.eval = ρ at hx
 unfold execOp
 go_simp
theorem kp_fJ2 {b : Nat} (ho : o.op = .fieldAddr 108 x 2) (hx : a.eval x = .pointer (some ⟨b, 0, none⟩)) : o.wp Tryz.prog a w (fun a' w' => ∃ v, a' = a.put o.dst v ∧ Kp w w' ∧ IsV (.pointer (some ⟨b, 2, none⟩)) w' v) Q := by
 refine kp_yield (v := .pointer (some ⟨b, 2, none⟩)) ?_ (Keeps.refl _ _) rfl
 generalize a.eval = ρ at hx
 unfold execOp
 go_simp
theorem kp_lPos {p : Addr} {A : Option Addr} {n c : Nat} (hc : w.cell? p = some (.slice A n c)) (ho : o.op = .load 106 x) (hx : a.eval x = .pointer (some p)) : o.wp Tryz.prog a w (fun a' w' => ∃ v, a' = a.put o.dst v ∧ Kp w w' ∧ IsV (.slice A n c) w' v) Q := by
 refine kp_yield (v := .slice A n c) ?_ (Keeps.refl _ _) rfl
 generalize a.eval = ρ at hx
 unfold execOp
 go_simp
theorem kp_succ {k : Nat} {z : Int} (h : k ≤ 1000000) (hz : z = (k : Int) + 1) (ho : o.op = .binOp .add 2 x y 2) (hx : a.eval x = .int .i64 (k : Int)) (hy : a.eval y = .int .i64 1) : o.wp Tryz.prog a w (fun a' w' => ∃ v, a' = a.put o.dst v ∧ Kp w w' ∧ IsV (.int .i64 z) w' v) Q := by
 have e : IntKind.i64.wrap ((k : Int) + 1) = (k : Int) + 1 := by rw [IntKind.wrap_i64]; omega
 subst hz
 refine kp_yield (v := .int .i64 ((k : Int) + 1)) ?_ (Keeps.refl _ _) rfl
 generalize a.eval = ρ at hx hy
 unfold execOp
 go_simp
theorem kp_bMark {n : Int} {k : ByteArray} (ho : o.op = .build 72 #[(0, x), (1, y)]) (hx : a.eval x = .int .i64 n) (hy : a.eval y = .string k) : o.wp Tryz.prog a w (fun a' w' => ∃ v, a' = a.put o.dst v ∧ Kp w w' ∧ IsV (.agg #[.int .i64 n, .string k]) w' v) Q := by
 refine kp_yield (v := .agg #[.int .i64 n, .string k]) ?_ (Keeps.refl _ _) rfl
 generalize a.eval = ρ at hx hy
 unfold execOp
 go_simp
theorem kp_ext0 {V : World → Value → Prop} {u v : Value} (ho : o.op = .extract x 0) (hx : a.eval x = .tuple #[u, v]) (hv : V w u) : o.wp Tryz.prog a w (fun a' w' => ∃ v, a' = a.put o.dst v ∧ Kp w w' ∧ V w' v) Q := by
 refine kp_yield (v := u) ?_ (Keeps.refl _ _) hv
 generalize a.eval = ρ at hx
 unfold execOp
 go_simp
theorem kp_ext1 {V : World → Value → Prop} {u v : Value} (ho : o.op = .extract x 1) (hx : a.eval x = .tuple #[u, v]) (hv : V w v) : o.wp Tryz.prog a w (fun a' w' => ∃ v, a' = a.put o.dst v ∧ Kp w w' ∧ V w' v) Q := by
 refine kp_yield (v := v) ?_ (Keeps.refl _ _) hv
 generalize a.eval = ρ at hx
 unfold execOp
 go_simp
end
def VA (S : Slog2) (w0 : World) (p q lq : Nat) (F Fl : Foot) (s : SDev) (lst : LSt) (k : ByteArray) (l : List UInt8) (m : Nat) : Nat → World → Value → Prop
 | 0 => IsV (.pointer (some ⟨q, 0, none⟩))
 | 1 => IsV (.pointer (some ⟨q, 0, none⟩))
 | 2 => IsV (.pointer (some ⟨q, 0, none⟩))
 | 3 => IsV (.pointer (some ⟨lq, 0, none⟩))
 | 4 => IsV (.pointer (some ⟨q, 0, none⟩))
 | 5 => IsV (.int .i64 (m : Int))
 | 6 => IsV (.int .i64 ((m : Int) + 1))
 | 7 => IsV (.string k)
 | 8 => IsV (.agg #[.int .i64 ((m : Int) + 1), .string k])
 | 9 => fun w v => OwnB w w0.heap.size v l
 | 10 => fun w v => ∃ x : Nat, v = .tuple #[.int .i64 (x : Int), .int .i64 0] ∧ JApp S w0 p lq F Fl s lst l x w
 | 11 => fun w v => ∃ x : Nat, v = .tuple #[.int .i64 (x : Int), .int .i64 0] ∧ JApp S w0 p lq F Fl s lst l x w
 | 12 => fun w v => ∃ x : Nat, v = .int .i64 (x : Int) ∧ JApp S w0 p lq F Fl s lst l x w
 | 13 => IsV (.int .i64 0)
 | 14 => fun w v => ∃ x : Nat, v = .int .i64 (x : Int) ∧ JApp S w0 p lq F Fl s lst l x w
 | 15 => IsV (.int .i64 0)
 | _ => fun _ _ => True
section
variable {S : Slog2} {w0 : World} {p q lq : Nat} {F Fl : Foot} {s : SDev} {lst : LSt} {k : ByteArray} {l : List UInt8} {m : Nat}
theorem VA_kp (i : Nat) (w w' : World) (v : Value) (h : Kp w w') (hv : VA S w0 p q lq F Fl s lst k l m i w v) : VA S w0 p q lq F Fl s lst k l m i w' v := by
 match i, hv with
 | 0, hv => exact hv
 | 1, hv => exact hv
 | 2, hv => exact hv
 | 3, hv => exact hv
 | 4, hv => exact hv
 | 5, hv => exact hv
 | 6, hv => exact hv
 | 7, hv => exact hv
 | 8, hv => exact hv
 | 9, hv => exact h.own hv fun _ _ => trivial
 | 10, ⟨x, e, hv⟩ => exact ⟨x, e, hv.keep h⟩
 | 11, ⟨x, e, hv⟩ => exact ⟨x, e, hv.keep h⟩
 | 12, ⟨x, e, hv⟩ => exact ⟨x, e, hv.keep h⟩
 | 13, hv => exact hv
 | 14, ⟨x, e, hv⟩ => exact ⟨x, e, hv.keep h⟩
 | 15, hv => exact hv
 | n + 16, _ => trivial
end
def StA (S : Slog2) (w0 : World) (p lq : Nat) (F Fl : Foot) (s : SDev) (lst : LSt) (l : List UInt8) : Bool → World → Prop
 | false => fun w => Kp w0 w
 | true => fun w => ∃ x, JApp S w0 p lq F Fl s lst l x w
theorem StA_kp {S : Slog2} {w0 : World} {p lq : Nat} {F Fl : Foot} {s : SDev} {lst : LSt} {l : List UInt8} (b : Bool) (w w' : World) (h : Kp w w') (hs : StA S w0 p lq F Fl s lst l b w) : StA S w0 p lq F Fl s lst l b w' := by
 cases b
 ·exact Keeps.trans hs h
 ·obtain ⟨x, hs⟩ := hs
  exact ⟨x, hs.keep h⟩
structure JMid (S : Slog2) (w w1 : World) (p q lq : Nat) (F Fl F' Fl' : Foot) (bs : Int) (v0 v : Value) (xs : List Nat) (lst' : LSt) (s' : SDev) : Prop where
 d : DAt w1 p F' s'
 c : JAt S w1 p q lq Fl' bs v xs lst' s'
 k : Keeps (fun b => ¬ F.M b ∧ ¬ (jfoot q Fl v0).M b) w w1
 f1 : ∀ b, F'.M b → F.M b ∨ w.heap.size ≤ b
 f2 : ∀ b, F'.I b → F.all b ∨ w.heap.size ≤ b
 f3 : ∀ b, Fl'.M b → Fl.M b ∨ w.heap.size ≤ b
 f4 : ∀ b, Fl'.I b → Fl.all b ∨ w.heap.size ≤ b
 ap : Apart F' Fl'
 vb : ∀ b, v.ownBlock = some b → v0.ownBlock = some b ∨ w.heap.size ≤ b
 qf : ¬ F'.all q
 vf : ∀ b, v.ownBlock = some b → ¬ F'.all b
 qw : q < w.heap.size
section
variable {S : Slog2} {w w1 w2 : World} {p q lq : Nat} {F Fl F' Fl' : Foot} {bs : Int} {v0 v v' : Value} {xs xs' : List Nat} {lst lst' : LSt} {s s' : SDev}
theorem JMid.of (hc : JAt S w p q lq Fl bs v0 xs lst s) (ha : Apart F (jfoot q Fl v0)) (hd' : DAt w1 p F' s') (hr : S.rep w1 lq Fl' lst' s') (hon : lst'.dev = p) (hap : Apart F' Fl') (hk : Keeps (fun b => ¬ F.M b ∧ ¬ Fl.M b) w w1)
  (f1 : ∀ b, F'.M b → F.M b ∨ w.heap.size ≤ b) (f2 : ∀ b, F'.I b → F.all b ∨ w.heap.size ≤ b) (f3 : ∀ b, Fl'.M b → Fl.M b ∨ w.heap.size ≤ b) (f4 : ∀ b, Fl'.I b → Fl.all b ∨ w.heap.size ≤ b) : JMid S w w1 p q lq F Fl F' Fl' bs v0 v0 xs lst' s' := by
 have hlt := hc.lt
 have hq : q < w.heap.size := hlt q (jfoot_all.2 (.inl rfl))
 have all' : ∀ b, Fl'.all b → Fl.all b ∨ w.heap.size ≤ b := fun b hb => by
  rcases hb with hb | hb
  ·rcases f3 b hb with h1 | h1
   ·exact .inl (.inl h1)
   ·exact .inr h1
  ·exact f4 b hb
 have allF : ∀ b, F'.all b → F.all b ∨ w.heap.size ≤ b := fun b hb => by
  rcases hb with hb | hb
  ·rcases f1 b hb with h1 | h1
   ·exact .inl (.inl h1)
   ·exact .inr h1
  ·exact f2 b hb
 have hqF : ¬ F.all q := ha.r q (.inl rfl)
 have hvF : ∀ b, v0.ownBlock = some b → ¬ F.all b := fun b hb => ha.r b (.inr (.inr hb))
 have hvw : ∀ b, v0.ownBlock = some b → b < w.heap.size := fun b hb => hlt b (jfoot_all.2 (.inr (.inr hb)))
 refine ⟨hd', ⟨hc.blk.keep hk ⟨fun hm => hqF (.inl hm), fun hm => hc.ql (.inl hm)⟩, hr, hon, hk.own hc.row (fun b hb => ⟨fun hm => hvF b hb (.inl hm), fun hm => hc.lv b hb (.inl hm)⟩), fun hf => ?_, hc.qv, fun b hb hf => ?_⟩,
  hk.mono fun b _ hb => ⟨hb.1, fun hm => hb.2 (.inr (.inl hm))⟩, f1, f2, f3, f4, hap, fun b hb => .inl hb, fun hf => ?_, fun b hb hf => ?_, hq⟩
 ·rcases all' q hf with h1 | h1
  ·exact hc.ql h1
  ·omega
 ·rcases all' b hf with h1 | h1
  ·exact hc.lv b hb h1
  ·have := hvw b hb; omega
 ·rcases allF q hf with h1 | h1
  ·exact hqF h1
  ·omega
 ·rcases allF b hf with h1 | h1
  ·exact hvF b hb h1
  ·have := hvw b hb; omega
theorem JMid.kp (h : JMid S w w1 p q lq F Fl F' Fl' bs v0 v xs lst' s') (hk : Kp w1 w2) : JMid S w w2 p q lq F Fl F' Fl' bs v0 v xs lst' s' :=
 { h with d := h.d.keep (hk.mono fun _ _ _ => trivial), c := h.c.kp hk, k := h.k.trans (hk.mono fun _ _ _ => trivial) }
theorem JMid.put (h : JMid S w w1 p q lq F Fl F' Fl' bs v0 v xs lst' s') (hg : w1.grownBy w2 v.ownBlock) (hr : w2.ownsRow 0 2 1 v' xs'.length (posC xs')) (hv : v'.ownBlock = v.ownBlock ∨ ∃ b, v'.ownBlock = some b ∧ w1.heap.size ≤ b) :
  JMid S w (w2.setCell ⟨q, 2, none⟩ v') p q lq F Fl F' Fl' bs v0 v' xs' lst' s' := by
 have hk12 : Keeps (fun b => v.ownBlock ≠ some b) w1 w2 := Keeps.of_grown hg fun b e _ hn => hn e
 have hk13 : Keeps (fun b => v.ownBlock ≠ some b ∧ b ≠ q) w1 (w2.setCell ⟨q, 2, none⟩ v') := (hk12.mono fun b _ hb => hb.1).setCell (.inr fun hn => hn.2 rfl) _
 have hqs : q < w1.heap.size := h.c.blk.lt
 have hll := fun b hb => S.lt h.c.l b hb
 have hsz := h.k.size
 have hqv' : v'.ownBlock ≠ some q := fun e => by
  rcases hv with h1 | ⟨b, h1, h2⟩
  ·exact h.c.qv (h1.symm.trans e)
  ·rw [e] at h1; injection h1 with h1; omega
 refine ⟨h.d.keep (hk13.mono fun b _ hb => ⟨fun e => h.vf b e hb, fun e => h.qf (e ▸ hb)⟩), ⟨(h.c.blk.keep hk12 h.c.qv).set2 v', S.keep h.c.l (hk13.mono fun b _ hb => ⟨fun e => h.c.lv b e hb, fun e => h.c.ql (e ▸ hb)⟩), h.c.on,
  (((Keeps.refl (fun b => b ≠ q) w2).setCell (.inr fun hn => hn rfl) _).own hr fun b hb e => hqv' (e ▸ hb)), h.c.ql, hqv', fun b hb hf => ?_⟩, ?_, h.f1, h.f2, h.f3, h.f4, h.ap, fun b hb => ?_, h.qf, fun b hb hf => ?_, h.qw⟩
 ·rcases hv with h1 | ⟨g, h1, h2⟩
  ·exact h.c.lv b (h1.symm.trans hb) hf
  ·rw [hb] at h1; injection h1 with h1; have := hll b hf; omega
 ·refine ⟨hk13.os.trans h.k.os, hk13.tape.trans h.k.tape, hk13.output.trans h.k.output, Nat.le_trans hsz hk13.size, fun b hb hlt => (hk13.block b ⟨fun e => ?_, fun e => hb.2 (.inl e)⟩ (Nat.lt_of_lt_of_le hlt hsz)).trans (h.k.block b hb hlt)⟩
  rcases h.vb b e with h1 | h1
  ·exact hb.2 (.inr (.inr h1))
  ·omega
 ·rcases hv with h1 | ⟨g, h1, h2⟩
  ·exact h.vb b (h1.symm.trans hb)
  ·rw [hb] at h1; injection h1 with h1; exact .inr (by omega)
 ·rcases hv with h1 | ⟨g, h1, h2⟩
  ·exact h.vf b (h1.symm.trans hb) hf
  ·rw [hb] at h1; injection h1 with h1; have := h.d.lt b hf; omega
theorem JMid.base (h : JMid S w w1 p q lq F Fl F' Fl' bs v0 v xs lst' s') (bs' : Int) : JMid S w (w1.setCell ⟨q, 1, none⟩ (.int .i64 bs')) p q lq F Fl F' Fl' bs' v0 v xs lst' s' := by
 have hk : Keeps (fun b => b ≠ q) w1 (w1.setCell ⟨q, 1, none⟩ (.int .i64 bs')) := (Keeps.refl _ w1).setCell (.inr fun hn => hn rfl) _
 have hsz := h.k.size
 exact { h with
  d := h.d.keep (hk.mono fun b _ hb e => h.qf (e ▸ hb))
  c := ⟨h.c.blk.set1 bs', S.keep h.c.l (hk.mono fun b _ hb e => h.c.ql (e ▸ hb)), h.c.on, hk.own h.c.row fun b hb e => h.c.qv (e ▸ hb), h.c.ql, h.c.qv, h.c.lv⟩
  k := ⟨hk.os.trans h.k.os, hk.tape.trans h.k.tape, hk.output.trans h.k.output, Nat.le_trans hsz hk.size, fun b hb hlt => (hk.block b (fun e => hb.2 (.inl e)) (Nat.lt_of_lt_of_le hlt hsz)).trans (h.k.block b hb hlt)⟩ }
theorem JMid.go (h : JMid S w w1 p q lq F Fl F' Fl' bs v0 v xs lst' s') {st : JSt} {n : Nat} (hlen : s'.now.length = s.now.length) (hout : ∀ i, ¬ st.has i → s'.now.getD i [] = s.now.getD i []) (hcalls : s'.calls ≤ s.calls + 1000 * n) :
  JGo w w1 F F' (jfoot q Fl v0) (jfoot q Fl' v) s s' st n := by
 refine ⟨⟨fun b hb hf => ?_, fun b hb hf => ?_⟩, h.k, h.f1, h.f2, fun b hb => ?_, fun b hb => ?_, hlen, hout, hcalls⟩
 ·rcases jfoot_all.1 hf with rfl | hf | hf
  ·exact h.qf (.inl hb)
  ·exact h.ap.l b hb hf
  ·exact h.vf b hf (.inl hb)
 ·rcases hb with rfl | hb | hb
  ·exact h.qf hf
  ·exact h.ap.r b hb hf
  ·exact h.vf b hb hf
 ·rcases hb with rfl | hb | hb
  ·exact .inl (.inl rfl)
  ·rcases h.f3 b hb with h1 | h1
   ·exact .inl (.inr (.inl h1))
   ·exact .inr h1
  ·rcases h.vb b hb with h1 | h1
   ·exact .inl (.inr (.inr h1))
   ·exact .inr h1
 ·rcases h.f4 b hb with h1 | h1
  ·exact .inl (jfoot_all.2 (.inr (.inl h1)))
  ·exact .inr h1
end
theorem jkept_cut {S : Slog2} {w : World} {lq : Nat} {Fl : Foot} {lst : LSt} {s : SDev} (hr : S.rep w lq Fl lst s) {gone : Nat} (hg : gone ≤ lst.gone) : ∃ a, (lst.hist.drop gone).map (·.pos) = a ++ jkept lst ∧ a.length = lst.gone - gone ∧ (a ++ jkept lst).Pairwise (· < ·) ∧ (∀ y ∈ a, y < lst.first) ∧ ∀ y ∈ jkept lst, lst.first ≤ y := by
 have hok := S.wf hr
 have hpast := (S.past hr).2
 have hgl := hok.gone
 have e : (lst.hist.drop gone).map (·.pos) = ((lst.hist.drop gone).take (lst.gone - gone)).map (·.pos) ++ jkept lst := by
  unfold jkept
  rw [← List.map_append]
  congr 1
  have h1 : lst.hist.drop lst.gone = (lst.hist.drop gone).drop (lst.gone - gone) := by rw [List.drop_drop]; congr 1; omega
  rw [h1, List.take_append_drop]
 refine ⟨((lst.hist.drop gone).take (lst.gone - gone)).map (·.pos), e, ?_, ?_, fun y hy => ?_, fun y hy => ?_⟩
 ·rw [List.length_map, List.length_take, List.length_drop]; omega
 ·rw [← e, List.pairwise_map]
  exact hok.rise.sublist (List.drop_sublist _ _)
 ·obtain ⟨r, hr, rfl⟩ := List.mem_map.1 hy
  rw [← List.drop_take] at hr
  exact hpast r (List.mem_of_mem_drop hr)
 ·obtain ⟨r, hr, rfl⟩ := List.mem_map.1 hy
  exact hok.first r hr
theorem j64_elem : Elem Tryz.prog 106 2 (.int .i64 0) 1 8 := ⟨Tryz.underlying106, by kernel_rfl, rfl, by decide⟩
theorem posC_snoc (l : List Nat) (x : Nat) : posC l ++ [.int .i64 ((x : Nat) : Int)] = posC (l ++ [x]) := by simp [posC]
def VS (q lq : Nat) (v : Value) (x k : Nat) : Nat → World → Value → Prop
 | 0 => IsV (.pointer (some ⟨q, 0, none⟩))
 | 1 => IsV (.pointer (some ⟨q, 0, none⟩))
 | 2 => IsV (.pointer (some ⟨q, 2, none⟩))
 | 3 => IsV v
 | 4 => IsV (.pointer (some ⟨q, 0, none⟩))
 | 5 => IsV (.pointer (some ⟨q, 0, none⟩))
 | 6 => IsV (.pointer (some ⟨q, 0, none⟩))
 | 7 => IsV (.pointer (some ⟨lq, 0, none⟩))
 | 8 => IsV (.int .i64 (x : Int))
 | 9 => fun _ u => ∃ t, u = .tuple #[.int .i64 (k : Int), .bool t]
 | 10 => fun _ u => ∃ t, u = .tuple #[.int .i64 (k : Int), .bool t]
 | 11 => IsV (.int .i64 (k : Int))
 | 12 => fun _ u => ∃ t, u = .bool t
 | 13 => IsV (.int .i64 (k : Int))
 | 14 => fun _ u => ∃ t, u = .bool t
 | _ => fun _ _ => True
theorem VS_any {q lq : Nat} {v : Value} {x k : Nat} (i : Nat) (w w' : World) (u : Value) (h : VS q lq v x k i w u) : VS q lq v x k i w' u := by
 match i, h with
 | 0, h => exact h
 | 1, h => exact h
 | 2, h => exact h
 | 3, h => exact h
 | 4, h => exact h
 | 5, h => exact h
 | 6, h => exact h
 | 7, h => exact h
 | 8, h => exact h
 | 9, h => exact h
 | 10, h => exact h
 | 11, h => exact h
 | 12, h => exact h
 | 13, h => exact h
 | 14, h => exact h
 | n + 15, _ => trivial
section
variable {S : Slog2} {w w1 w2 : World} {p q lq : Nat} {Fl : Foot} {bs : Int} {v v' : Value} {xs xs' : List Nat} {lst : LSt} {s : SDev}
theorem JAt.put (h : JAt S w1 p q lq Fl bs v xs lst s) (hg : w1.grownBy w2 v.ownBlock) (hr : w2.ownsRow 0 2 1 v' xs'.length (posC xs')) (hv : v'.ownBlock = v.ownBlock ∨ ∃ b, v'.ownBlock = some b ∧ w1.heap.size ≤ b) :
  JAt S (w2.setCell ⟨q, 2, none⟩ v') p q lq Fl bs v' xs' lst s ∧ Keeps (fun b => v.ownBlock ≠ some b ∧ b ≠ q) w1 (w2.setCell ⟨q, 2, none⟩ v') := by
 have hk12 : Keeps (fun b => v.ownBlock ≠ some b) w1 w2 := Keeps.of_grown hg fun b e _ hn => hn e
 have hk13 : Keeps (fun b => v.ownBlock ≠ some b ∧ b ≠ q) w1 (w2.setCell ⟨q, 2, none⟩ v') := (hk12.mono fun b _ hb => hb.1).setCell (.inr fun hn => hn.2 rfl) _
 have hqs : q < w1.heap.size := h.blk.lt
 have hqv' : v'.ownBlock ≠ some q := fun e => by
  rcases hv with h1 | ⟨b, h1, h2⟩
  ·exact h.qv (h1.symm.trans e)
  ·rw [e] at h1; injection h1 with h1; omega
 refine ⟨⟨(h.blk.keep hk12 h.qv).set2 v', S.keep h.l (hk13.mono fun b _ hb => ⟨fun e => h.lv b e hb, fun e => h.ql (e ▸ hb)⟩), h.on,
  (((Keeps.refl (fun b => b ≠ q) w2).setCell (.inr fun hn => hn rfl) _).own hr fun b hb e => hqv' (e ▸ hb)), h.ql, hqv', fun b hb hf => ?_⟩, hk13⟩
 rcases hv with h1 | ⟨g, h1, h2⟩
 ·exact h.lv b (h1.symm.trans hb) hf
 ·rw [hb] at h1; injection h1 with h1; have := S.lt h.l b hf; omega
theorem JAt.base (h : JAt S w1 p q lq Fl bs v xs lst s) (bs' : Int) : JAt S (w1.setCell ⟨q, 1, none⟩ (.int .i64 bs')) p q lq Fl bs' v xs lst s ∧ Keeps (fun b => b ≠ q) w1 (w1.setCell ⟨q, 1, none⟩ (.int .i64 bs')) := by
 have hk : Keeps (fun b => b ≠ q) w1 (w1.setCell ⟨q, 1, none⟩ (.int .i64 bs')) := (Keeps.refl _ w1).setCell (.inr fun hn => hn rfl) _
 exact ⟨⟨h.blk.set1 bs', S.keep h.l (hk.mono fun b _ hb e => h.ql (e ▸ hb)), h.on, hk.own h.row fun b hb e => h.qv (e ▸ hb), h.ql, h.qv, h.lv⟩, hk⟩
end
def JLearnPost (S : Slog2) (w : World) (p q lq : Nat) (Fl : Foot) (bs : Int) (v : Value) (xs : List Nat) (lst : LSt) (s : SDev) (e : Ending) (w' : World) : Prop :=
 e = .returned (.tuple #[]) ∧ ∃ v', JAt S w' p q lq Fl bs v' xs lst s ∧ Keeps (fun b => v.ownBlock ≠ some b ∧ b ≠ q) w w' ∧ (v'.ownBlock = v.ownBlock ∨ ∃ b, v'.ownBlock = some b ∧ w.heap.size ≤ b)
set_option maxRecDepth 100000 in
set_option maxHeartbeats 1000000 in
theorem jlearn_next (S : Slog2) (w : World) (p q lq b m sq x : Nat) (Fl : Foot) (v : Value) (xs : List Nat) (lst : LSt) (s : SDev) (h : JAt S w p q lq Fl (b : Int) v xs lst s) (hb : m ≤ 40000) (hm : m = b + xs.length) (hsq : sq = m + 1) :
  Calls Tryz.prog 98 #[.pointer (some ⟨q, 0, none⟩), .int .i64 (x : Int), .int .i64 (sq : Int)] w (JLearnPost S w p q lq Fl (b : Int) v (xs ++ [x]) lst s) := by
 obtain ⟨A0, c0, rfl, hlc, hcm⟩ := h.form
 obtain ⟨n0, hn0⟩ : ∃ n0, xs.length = n0 := ⟨_, rfl⟩
 rw [hn0] at hlc h hm ⊢
 have t1 : decide (((m : Int) + 1) < (sq : Int)) = false := by simp; omega
 have t2 : ((sq : Int) != (m : Int) + 1) = false := by simp; omega
 have HSEQ := Lib.hid (jseq w q lq b n0 A0 c0 h.blk (by omega) (m : Int) (by omega))
 have HC := Lib.hid h
 have HN0 := Lib.hid hn0
 have hn1 : n0 ≤ 40000 := by omega
 unfold maxLen at hcm
 clear h hsq hm hn0
 go_enter Tryz.func98, Tryz.ntmps98
 go_wp2_with fail
 refine (show Calls _ _ _ _ _ from HSEQ.out).mono ?_
 rintro e w1 ⟨rfl, z, rfl⟩
 have hk1 : Kp w (w.drewN z) := (Keeps.refl _ _).drewN z
 generalize w.drewN z = w1 at hk1 ⊢
 have HK1 := Lib.hid hk1
 have HC1 := Lib.hid (HC.out.kp hk1)
 have c2 : w1.cell? ⟨q, 2, none⟩ = some (.slice A0 n0 c0) := HC1.out.blk.c2
 have HROW := Lib.hid (show w1.ownsRow 0 2 1 (.slice A0 n0 c0) n0 (posC xs) from by have := HC1.out.row; rwa [HN0.out] at this)
 clear hk1 HSEQ HC
 go_wp2_with (at_builtin; refine j64_elem.list_append rfl (.tmp 36) (.tmp 38) _ rfl rfl (HROW.out.alloc _) rfl (src_one Tryz.underlying106 _ _ _ ?c1 _ ?c2 _) ?c3 ?c4 ?c5 ?_)
 case c1 => rfl
 case c2 => rfl
 case c3 => unfold maxLen; omega
 case c4 => omega
 case c5 => exact Nat.zero_le _
 intro v' w5 hown hg hgb
 rw [posC_snoc] at hown
 have hg2 := grown_of_alloc hg
 have hk5 : Keeps (fun b => (Value.slice A0 n0 c0).ownBlock ≠ some b) w1 w5 := Keeps.of_grown hg2 fun b e _ hn => hn e
 have blk5 := HC1.out.blk.keep hk5 HC1.out.qv
 have d2 := blk5.c2
 have df := blk5.f 2
 have hvv : v'.ownBlock = (Value.slice A0 n0 c0).ownBlock ∨ ∃ b, v'.ownBlock = some b ∧ w1.heap.size ≤ b := by
  rcases hgb with hgb | hgb
  ·exact .inl hgb
  ·exact .inr ⟨_, hgb, by simp⟩
 have hput := HC1.out.put (v' := v') (xs' := xs ++ [x]) hg2 (by rw [List.length_append, HN0.out]; exact hown) hvv
 have HP := Lib.hid (show JLearnPost S w p q lq Fl (b : Int) (.slice A0 n0 c0) (xs ++ [x]) lst s (.returned (.tuple #[])) (w5.setCell ⟨q, 2, none⟩ v') from
  ⟨rfl, v', hput.1, (HK1.out.mono fun _ _ _ => trivial).trans hput.2, hvv.imp id fun ⟨b, h1, h2⟩ => ⟨b, h1, Nat.le_trans HK1.out.size h2⟩⟩)
 clear hg hg2 hgb hk5 blk5 hput hvv HROW HC1 c2
 obtain ⟨g1, c1, rfl, -, -⟩ := hown.form (Nat.succ_pos _)
 clear hown
 go_wp2_with fail
 go_end0
 exact HP.out
set_option maxRecDepth 100000 in
set_option maxHeartbeats 1000000 in
theorem jlearn_first (S : Slog2) (w : World) (p q lq g sq x : Nat) (Fl : Foot) (lst : LSt) (s : SDev) (h : JAt S w p q lq Fl 0 (.slice none 0 0) [] lst s) (hg1 : 1 ≤ g) (hg2 : g ≤ 40000) (hsq : sq = g + 1) :
  Calls Tryz.prog 98 #[.pointer (some ⟨q, 0, none⟩), .int .i64 (x : Int), .int .i64 (sq : Int)] w (JLearnPost S w p q lq Fl (g : Int) (.slice none 0 0) [x] lst s) := by
 have t1 : decide ((1 : Int) < (sq : Int)) = true := by simp; omega
 have t2 : ((sq : Int) != (1 : Int)) = true := by simp; omega
 have t3 : decide (1 < sq) = true := by simp; omega
 have t4 : ((sq : Int) == (1 : Int)) = false := by simp; omega
 have t5 : (sq == 1) = false := by simp; omega
 have t6 : (sq != 1) = true := by simp; omega
 have HSEQ := Lib.hid (jseq w q lq 0 0 none 0 h.blk (by omega) 0 (by omega))
 have HC := Lib.hid h
 have HSQ := Lib.hid (show (sq : Int) - 1 = (g : Int) from by omega)
 have hsb : sq ≤ 50000 := by omega
 clear h hsq hg1 hg2
 go_enter Tryz.func98, Tryz.ntmps98
 go_wp2_with fail
 refine (show Calls _ _ _ _ _ from HSEQ.out).mono ?_
 rintro e w1 ⟨rfl, z, rfl⟩
 have hk1 : Kp w (w.drewN z) := (Keeps.refl _ _).drewN z
 generalize w.drewN z = w1 at hk1 ⊢
 have HK1 := Lib.hid hk1
 have HC1 := Lib.hid (HC.out.kp hk1)
 have c2 : w1.cell? ⟨q, 2, none⟩ = some (.slice none 0 0) := HC1.out.blk.c2
 have b1 := HC1.out.blk.c1
 have f1 := HC1.out.blk.f 1
 have f2 := HC1.out.blk.f 2
 have hb1 := HC1.out.base ((sq : Int) - 1)
 have hb2 := hb1.1.put (v' := .slice none 0 0) (xs' := []) (World.grownBy.refl _ _) hb1.1.row (.inl rfl)
 rw [HSQ.out] at hb1 hb2
 have HB1 := Lib.hid hb1.2
 have HB2 := Lib.hid hb2
 clear hk1 HSEQ HC hb1 hb2
 have HNIL := Lib.hid (show ∀ W : World, W.ownsRow 0 2 1 (.slice none 0 0) 0 ([] : List Value) from fun W => World.ownsRow_nil W 0 2 1)
 go_wp2_with (at_builtin; refine j64_elem.list_append rfl (.tmp 36) (.tmp 38) _ rfl rfl (HNIL.out _) rfl (src_one Tryz.underlying106 _ _ _ ?c1 _ ?c2 _) ?c3 ?c4 ?c5 ?_)
 case c1 => rfl
 case c2 => simp
 case c3 => unfold maxLen; omega
 case c4 => omega
 case c5 => exact Nat.zero_le _
 intro v' w5 hown hg hgb
 have hg2 := grown_of_alloc hg
 rw [HSQ.out] at hg2
 have hk5 : Keeps (fun _ => True) _ w5 := Keeps.of_grown hg2 fun b e _ _ => by cases e
 have blk5 := HB2.out.1.blk.keep hk5 trivial
 have d2 := blk5.c2
 have df := blk5.f 2
 have hvv : v'.ownBlock = (Value.slice none 0 0).ownBlock ∨ ∃ b, v'.ownBlock = some b ∧ ((w1.setCell ⟨q, 1, none⟩ (.int .i64 (g : Int))).setCell ⟨q, 2, none⟩ (.slice none 0 0)).heap.size ≤ b := by
  rcases hgb with hgb | hgb
  ·exact .inl hgb
  ·exact .inr ⟨_, hgb, by simp⟩
 have hput := HB2.out.1.put (v' := v') (xs' := [x]) hg2 hown hvv
 have HP := Lib.hid (show JLearnPost S w p q lq Fl (g : Int) (.slice none 0 0) [x] lst s (.returned (.tuple #[])) (w5.setCell ⟨q, 2, none⟩ v') from
  ⟨rfl, v', hput.1, (HK1.out.mono fun _ _ _ => trivial).trans ((HB1.out.mono fun _ _ hb => hb.2).trans (HB2.out.2.trans hput.2)), hvv.imp id fun ⟨b, h1, h2⟩ => ⟨b, h1, Nat.le_trans HK1.out.size (Nat.le_trans HB1.out.size (Nat.le_trans HB2.out.2.size h2))⟩⟩)
 clear hg hg2 hgb hk5 blk5 hput hvv HC1 c2 b1 f1 f2
 obtain ⟨g1, c1, rfl, -, -⟩ := hown.form (Nat.succ_pos _)
 clear hown
 go_wp2_with fail
 go_end0
 exact HP.out
end Go.Proofs.YticophaepapjoaaGreatDoor
