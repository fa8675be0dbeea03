/-
  SlgLocs, Concat: texts of mine, joined.
-/
import Derived.Test.YticophaepapjoaaGreatDoorAllA06
import Derived.Test.YticophaepapjoaaGreatDoorAllA08
import Derived.Lib.SmallJoins
import Derived.Lib.Hide
import Derived.Test.YticophaepapjoaaGreatDoorProg
import Derived.WalkKit
import Derived.Test.YticophaepapjoaaGreatDoorAllA03
import Derived.Test.YticophaepapjoaaGreatDoorAllA00
import Derived.WalkSpells
import Derived.Outline
namespace Go.Proofs.YticophaepapjoaaGreatDoor
open Go Go.RowKit Go.Joins
section
variable {o : Oper} {a : Act} {w : World} {Q : Exit → Act → World → Prop} {x y : Operand}
theorem kp_fL0 {b : Nat} (ho : o.op = .fieldAddr 137 x 0) (hx : a.eval x = .pointer (some ⟨b, 0, none⟩)) : o.wp Tryz.prog a w (fun a' w' => ∃ v, a' = a.put o.dst v ∧ Kp w w' ∧ IsV (.pointer (some ⟨b, 0, none⟩)) w' v) Q := by
 refine kp_yield (v := .pointer (some ⟨b, 0, none⟩)) (w' := w) ?_ (Keeps.refl _ _) rfl
 generalize a.eval = ρ at hx ⊢
 unfold execOp
 rw [ho]
 go_simp
theorem kp_fL3 {b : Nat} (ho : o.op = .fieldAddr 137 x 3) (hx : a.eval x = .pointer (some ⟨b, 0, none⟩)) : o.wp Tryz.prog a w (fun a' w' => ∃ v, a' = a.put o.dst v ∧ Kp w w' ∧ IsV (.pointer (some ⟨b, 3, none⟩)) w' v) Q := by
 refine kp_yield (v := .pointer (some ⟨b, 3, none⟩)) (w' := w) ?_ (Keeps.refl _ _) rfl
 generalize a.eval = ρ at hx ⊢
 unfold execOp
 rw [ho]
 go_simp
theorem kp_fL6 {b : Nat} (ho : o.op = .fieldAddr 137 x 6) (hx : a.eval x = .pointer (some ⟨b, 0, none⟩)) : o.wp Tryz.prog a w (fun a' w' => ∃ v, a' = a.put o.dst v ∧ Kp w w' ∧ IsV (.pointer (some ⟨b, 6, none⟩)) w' v) Q := by
 refine kp_yield (v := .pointer (some ⟨b, 6, none⟩)) (w' := w) ?_ (Keeps.refl _ _) rfl
 generalize a.eval = ρ at hx ⊢
 unfold execOp
 rw [ho]
 go_simp
theorem kp_fG0 {b : Nat} (ho : o.op = .fieldAddr 179 x 0) (hx : a.eval x = .pointer (some ⟨b, 0, none⟩)) : o.wp Tryz.prog a w (fun a' w' => ∃ v, a' = a.put o.dst v ∧ Kp w w' ∧ IsV (.pointer (some ⟨b, 0, none⟩)) w' v) Q := by
 refine kp_yield (v := .pointer (some ⟨b, 0, none⟩)) (w' := w) ?_ (Keeps.refl _ _) rfl
 generalize a.eval = ρ at hx ⊢
 unfold execOp
 rw [ho]
 go_simp
theorem kp_fG1 {b : Nat} (ho : o.op = .fieldAddr 179 x 1) (hx : a.eval x = .pointer (some ⟨b, 0, none⟩)) : o.wp Tryz.prog a w (fun a' w' => ∃ v, a' = a.put o.dst v ∧ Kp w w' ∧ IsV (.pointer (some ⟨b, 1, none⟩)) w' v) Q := by
 refine kp_yield (v := .pointer (some ⟨b, 1, none⟩)) (w' := w) ?_ (Keeps.refl _ _) rfl
 generalize a.eval = ρ at hx ⊢
 unfold execOp
 rw [ho]
 go_simp
theorem kp_nilL {p : Addr} (ho : o.op = .nilCheck x) (hx : a.eval x = .pointer (some p)) : o.wp Tryz.prog a w (fun a' w' => ∃ v, a' = a.put o.dst v ∧ Kp w w' ∧ IsV (.pointer (some p)) w' v) Q := by
 refine kp_yield (v := .pointer (some p)) (w' := w) ?_ (Keeps.refl _ _) rfl
 generalize a.eval = ρ at hx ⊢
 unfold execOp
 rw [ho]
 go_simp
theorem kp_lDev {p : Addr} {u : Addr} (hc : w.cell? p = some (.pointer (some u))) (ho : o.op = .load 24 x) (hx : a.eval x = .pointer (some p)) : o.wp Tryz.prog a w (fun a' w' => ∃ v, a' = a.put o.dst v ∧ Kp w w' ∧ IsV (.pointer (some u)) w' v) Q := by
 refine kp_yield (v := .pointer (some u)) (w' := w) ?_ (Keeps.refl _ _) rfl
 generalize a.eval = ρ at hx ⊢
 unfold execOp
 rw [ho]
 go_simp
theorem kp_lInt {p : Addr} {n : Int} (hc : w.cell? p = some (.int .i64 n)) (ho : o.op = .load 3 x) (hx : a.eval x = .pointer (some p)) : o.wp Tryz.prog a w (fun a' w' => ∃ v, a' = a.put o.dst v ∧ Kp w w' ∧ IsV (.int .i64 n) w' v) Q := by
 refine kp_yield (v := .int .i64 n) (w' := w) ?_ (Keeps.refl _ _) rfl
 generalize a.eval = ρ at hx ⊢
 unfold execOp
 rw [ho]
 go_simp
theorem kp_lI64 {p : Addr} {n : Int} (hc : w.cell? p = some (.int .i64 n)) (ho : o.op = .load 2 x) (hx : a.eval x = .pointer (some p)) : o.wp Tryz.prog a w (fun a' w' => ∃ v, a' = a.put o.dst v ∧ Kp w w' ∧ IsV (.int .i64 n) w' v) Q := by
 refine kp_yield (v := .int .i64 n) (w' := w) ?_ (Keeps.refl _ _) rfl
 generalize a.eval = ρ at hx ⊢
 unfold execOp
 rw [ho]
 go_simp
theorem kp_lI {p : Addr} {A : Option Addr} {n c : Nat} (hc : w.cell? p = some (.slice A n c)) (ho : o.op = .load 66 x) (hx : a.eval x = .pointer (some p)) : o.wp Tryz.prog a w (fun a' w' => ∃ v, a' = a.put o.dst v ∧ Kp w w' ∧ IsV (.slice A n c) w' v) Q := by
 refine kp_yield (v := .slice A n c) (w' := w) ?_ (Keeps.refl _ _) rfl
 generalize a.eval = ρ at hx ⊢
 unfold execOp
 rw [ho]
 go_simp
theorem kp_lK {p : Addr} {A : Option Addr} {n c : Nat} (hc : w.cell? p = some (.slice A n c)) (ho : o.op = .load 135 x) (hx : a.eval x = .pointer (some p)) : o.wp Tryz.prog a w (fun a' w' => ∃ v, a' = a.put o.dst v ∧ Kp w w' ∧ IsV (.slice A n c) w' v) Q := by
 refine kp_yield (v := .slice A n c) (w' := w) ?_ (Keeps.refl _ _) rfl
 generalize a.eval = ρ at hx ⊢
 unfold execOp
 rw [ho]
 go_simp
theorem kp_lPL {p : Addr} {u : Addr} (hc : w.cell? p = some (.pointer (some u))) (ho : o.op = .load 89 x) (hx : a.eval x = .pointer (some p)) : o.wp Tryz.prog a w (fun a' w' => ∃ v, a' = a.put o.dst v ∧ Kp w w' ∧ IsV (.pointer (some u)) w' v) Q := by
 refine kp_yield (v := .pointer (some u)) (w' := w) ?_ (Keeps.refl _ _) rfl
 generalize a.eval = ρ at hx ⊢
 unfold execOp
 rw [ho]
 go_simp
theorem kp_lPG {p : Addr} {u : Addr} (hc : w.cell? p = some (.pointer (some u))) (ho : o.op = .load 209 x) (hx : a.eval x = .pointer (some p)) : o.wp Tryz.prog a w (fun a' w' => ∃ v, a' = a.put o.dst v ∧ Kp w w' ∧ IsV (.pointer (some u)) w' v) Q := by
 refine kp_yield (v := .pointer (some u)) (w' := w) ?_ (Keeps.refl _ _) rfl
 generalize a.eval = ρ at hx ⊢
 unfold execOp
 rw [ho]
 go_simp
theorem kp_lG {b j : Nat} {v0 v1 v2 : Value} (h0 : w.cell? ⟨b, j, none⟩ = some v0) (h1 : w.cell? ⟨b, j + 1, none⟩ = some v1) (h2 : w.cell? ⟨b, j + 2, none⟩ = some v2) (ho : o.op = .load 179 x) (hx : a.eval x = .pointer (some ⟨b, j, none⟩)) : o.wp Tryz.prog a w (fun a' w' => ∃ v, a' = a.put o.dst v ∧ Kp w w' ∧ IsV (.agg #[v0, v1, v2]) w' v) Q := by
 refine kp_yield (v := .agg #[v0, v1, v2]) (w' := w) ?_ (Keeps.refl _ _) rfl
 have e1 : (⟨b, j, none⟩ : Addr).add 1 = ⟨b, j + 1, none⟩ := rfl
 generalize a.eval = ρ at hx ⊢
 unfold execOp
 rw [ho]
 go_simp
theorem one_call {P : Program} {X : World → Value → Prop} {f : FuncId} {args : Array Value} {C : Ending → World → Prop} (e : (execOp a.eval o).run P w = .ok (.enter f args) w) (hc : Calls P f args w C)
  (hC : ∀ e w', C e w' → ∃ v, e = .returned v ∧ X w' v) : o.wp P a w (fun a' w' => ∃ v, a' = a.put o.dst v ∧ X w' v) Q := by
 unfold Oper.wp
 rw [e]
 refine hc.mono fun e w' h => ?_
 obtain ⟨v, rfl, hv⟩ := hC e w' h
 exact ⟨v, rfl, hv⟩
end
theorem joined_take (ps : List Part) (k : Nat) (h : k < ps.length) : joined (ps.take (k + 1)) = joined (ps.take k) ++ (ps[k]).l := by
 unfold joined
 rw [take_next _ _ h, List.flatMap_append, List.flatMap_cons, List.flatMap_nil, List.append_nil]
theorem joined_le (ps : List Part) (k : Nat) : (joined (ps.take k)).length ≤ (joined ps).length := by
 have e : joined (ps.take k) ++ joined (ps.drop k) = joined ps := by unfold joined; rw [← List.flatMap_append, List.take_append_drop]
 rw [← e, List.length_append]; omega
theorem grow_nil (w : World) (n : Nat) (h0 : 0 < n) (hn : n ≤ 1000000) :
  Calls Tryz.prog 171 #[.slice none 0 0, .int .i64 (n : Int)] w fun e w' => ∃ v, e = .returned v ∧ OwnB w' w.heap.size v [] ∧ Kp w w' := by
 obtain ⟨i, hi, hz, hs, hb⟩ := info_parts byte_elem.info
 have hg := Any8.slices_Grow_grow Tryz.growA i (.int .u8 0) hi hz (by omega) none 0 0 n [] w (Nat.le_refl _) (by omega) (by rw [hb]; omega) (by omega) (by simp) (fun _ => rfl) (fun a h => by cases h)
 rw [show Tryz.growA_ren.t 25 = 5 from rfl] at hg
 refine (show Calls _ _ _ _ _ from hg).mono ?_
 rintro e w' ⟨rfl, rfl⟩
 refine ⟨_, rfl, ?_, ((Keeps.refl _ w).drew).alloc _⟩
 have hge := grownCap_ge w (0 + n) 0 5
 have hcm := grownCap_le_maxLen w (0 + n) 0 5 (by unfold maxLen; omega)
 unfold OwnB
 refine ⟨by simp [bcells], .inr ⟨w.heap.size, _, _, rfl, Nat.le_refl _, heap_alloc_new w.drew _, Nat.zero_le _, hcm, ?_, by simp [bcells]⟩⟩
 have e1 : (Value.int IntKind.u8 0).cells.size = 1 := rfl
 simp only [Array.size_append, List.size_toArray, List.length_nil, size_zeroCells, e1]
 omega
set_option maxRecDepth 100000 in
set_option maxHeartbeats 1000000 in
theorem concat_any (w : World) (B : Option Addr) (d : Nat) (ps : List Part) (F G : Nat → Prop) (hB : Row w B G (ps.map Part.val)) (hp : Parts w F ps) (hn : ps.length ≤ 100) (hj : 0 < (joined ps).length) (hj2 : (joined ps).length ≤ 100000) :
  Calls Tryz.prog 135 #[.slice B ps.length d] w fun e w' => ∃ v, e = .returned v ∧ OwnB w' w.heap.size v (joined ps) ∧ Kp w w' := by
 have HB := Lib.hid hB
 have HP := Lib.hid hp
 have HLE := Lib.hid (joined_le ps)
 have HJ := Lib.hid (show joined (ps.take ps.length) = joined ps from by rw [List.take_length])
 obtain ⟨N, hN⟩ : ∃ N, (joined ps).length = N := ⟨_, rfl⟩
 have HN := Lib.hid hN
 rw [hN] at hj hj2
 have hg := Lib.hid (fun w' => grow_nil w' N hj (by omega))
 clear hB hp hN
 go_enter Tryz.func135, Tryz.ntmps135
 go_wp2_with fail
 go_loopw [3, 11] (fun vs vi wr => ∃ (k m : Nat), k ≤ ps.length ∧ vi = .int .i64 k ∧ vs = .int .i64 m ∧ RowKit.Hid (m = (joined (ps.take k)).length) ∧ Kp w wr) (fun _ vi _ => ps.length - (intOf vi).toNat)
 case atStart => exact ⟨0, 0, Nat.zero_le _, rfl, rfl, Lib.hid (by simp [joined]), Keeps.refl _ _⟩
 case round =>
  obtain ⟨k, m, hk, rfl, rfl, hm, hkp0⟩ := hrel
  have hmle : m ≤ N := by have := HLE.out k; rw [hm.out, ← HN.out]; exact this
  by_cases hlt : k < ps.length
  ·obtain ⟨b, o, rfl, -, hcell⟩ := (HB.out.keep (hkp0.mono fun _ _ _ => trivial)).at_ (k := k) (by simpa using hlt)
   simp only [List.getElem_map, Part.val] at hcell
   have HT := Lib.hid (joined_take ps k hlt)
   have hm2 : m + (ps[k]).l.length ≤ N := by
    have h := HLE.out (k + 1)
    rw [HT.out, List.length_append, ← hm.out] at h
    rw [← HN.out]; exact h
   generalize ps[k] = pk at hcell HT hm2
   have HK0 := Lib.hid hkp0
   clear hkp0
   have hnn : ¬ ((m : Int) + (pk.l.length : Int) < 0) := by omega
   go_wp2_with fail
   go_roundw
   case rel => exact ⟨k + 1, m + pk.l.length, by omega, by go_num, by go_num, Lib.hid (by rw [HT.out, List.length_append, hm.out]), HK0.out⟩
   case measure => simp [intOf]; omega
  ·obtain rfl : k = ps.length := by omega
   obtain rfl : m = N := by rw [hm.out, HJ.out, HN.out]
   go_wp2_with fail
   refine (hg.out _).mono ?_
   rintro e w1 ⟨v1, rfl, ho1, hk1⟩
   have HO1 := Lib.hid (ownsRow_le ho1 hkp0.size)
   have HK1 := Lib.hid (hkp0.trans hk1)
   clear ho1 hk1 hg hkp0
   go_wp2_with fail
   go_loopw [6, 27] (fun vo vi wr => ∃ (k : Nat) (u : Value), k ≤ ps.length ∧ vi = .int .i64 k ∧ u = vo ∧ OwnB wr w.heap.size u (joined (ps.take k)) ∧ Kp w wr) (fun _ vi _ => ps.length - (intOf vi).toNat)
   case atStart => exact ⟨0, _, Nat.zero_le _, rfl, rfl, by rw [List.take_zero]; exact HO1.out, HK1.out⟩
   case round =>
    obtain ⟨k, u, hk, rfl, hu, ho, hkp⟩ := hrel
    subst hu
    by_cases hlt : k < ps.length
    ·obtain ⟨b, o, rfl, -, hcell⟩ := (HB.out.keep (hkp.mono fun _ _ _ => trivial)).at_ (k := k) (by simpa using hlt)
     simp only [List.getElem_map, Part.val] at hcell
     have HT := Lib.hid (joined_take ps k hlt)
     have hrw := (HP.out _ (List.getElem_mem hlt)).1.keep (hkp.mono fun _ _ _ => trivial)
     have hle := HLE.out (k + 1)
     rw [HT.out, List.length_append, HN.out] at hle
     obtain ⟨x, hx⟩ : ∃ x, (joined (ps.take k)).length = x := ⟨_, rfl⟩
     rw [hx] at hle
     have HX := Lib.hid hx
     generalize ps[k] = pk at hcell HT hle hrw
     have hs := hrw.src (P := Tryz.prog) (c := pk.cap) Tryz.underlying64 (bcells_one _)
     rw [bcells_len] at hs
     have HS := Lib.hid hs
     have HO := Lib.hid (show wr.ownsRow w.heap.size 5 1 u x (bcells (joined (ps.take k))) from by rw [← hx]; exact ho)
     have HK := Lib.hid hkp
     have hsz := hkp.size
     clear ho hkp hx hs hrw
     go_wp2_with (at_builtin; refine byte_elem.list_append rfl (.tmp 31) (.tmp 32) _ rfl rfl HO.out rfl HS.out ?c3 ?c4 hsz ?_)
     case c3 => unfold maxLen; omega
     case c4 => omega
     intro v5 w5 ho5 hg5 hb5
     have hown := HO.out
     have H1 := Lib.hid (show OwnB w5 w.heap.size v5 (joined (ps.take (k + 1))) from by
      rw [HT.out]
      exact OwnB.snoc ho5 (by rw [List.length_append, HX.out]) rfl)
     have H2 := Lib.hid (show Kp w w5 from HK.out.grown hg5 fun b hb => (hown.lt b hb).1)
     clear ho5 hg5 hb5 hown HO HS
     go_wp2_with fail
     go_roundw
     case rel => exact ⟨k + 1, _, by omega, by go_num, rfl, H1.out, H2.out⟩
     case measure => simp [intOf]; omega
    ·obtain rfl : k = ps.length := by omega
     rw [HJ.out] at ho
     have H1 := Lib.hid ho
     have H2 := Lib.hid hkp
     clear ho hkp
     go_wp2_with fail
     go_ret
     exact ⟨_, rfl, H1.out, H2.out⟩
end Go.Proofs.YticophaepapjoaaGreatDoor
