/-
  SlgLocs, SlgSmall, SlgLoad, SlgStream, SlgParse: texts of mine, joined.
-/
import Derived.Test.YticophaepapjoaaGreatDoorAllA02
import Derived.Test.YticophaepapjoaaGreatDoorAllA04
import Derived.Lib.SmallJoins
import Derived.Lib.Hide
import Derived.Test.YticophaepapjoaaGreatDoorProg
import Derived.WalkKit
import Derived.Test.YticophaepapjoaaGreatDoorAllA12
import Derived.Test.YticophaepapjoaaGreatDoorAllA01
import Derived.Test.YticophaepapjoaaGreatDoorAllA05
namespace Go.Proofs.YticophaepapjoaaGreatDoor
open Go Go.RowKit Go.Joins
section
variable {o : Oper} {a : Act} {w : World} {Q : Exit → Act → World → Prop} {x y : Operand}
theorem kp_fL0 {b : Nat} (ho : o.op = .fieldAddr 137 x 0) (hx : a.eval x = .pointer (some ⟨b, 0, none⟩)) : o.wp Tryz.prog a w (fun a' w' => ∃ v, a' = a.put o.dst v ∧ Kp w w' ∧ IsV (.pointer (some ⟨b, 0, none⟩)) w' v) Q := by
 refine kp_yield (v := .pointer (some ⟨b, 0, none⟩)) (w' := w) ?_ (Keeps.refl _ _) rfl
 generalize a.eval = ρ at hx ⊢
 unfold execOp
 rw [ho]
 go_simp
theorem kp_fL3 {b : Nat} (ho : o.op = .fieldAddr 137 x 3) (hx : a.eval x = .pointer (some ⟨b, 0, none⟩)) : o.wp Tryz.prog a w (fun a' w' => ∃ v, a' = a.put o.dst v ∧ Kp w w' ∧ IsV (.pointer (some ⟨b, 3, none⟩)) w' v) Q := by
 refine kp_yield (v := .pointer (some ⟨b, 3, none⟩)) (w' := w) ?_ (Keeps.refl _ _) rfl
 generalize a.eval = ρ at hx ⊢
 unfold execOp
 rw [ho]
 go_simp
theorem kp_fL6 {b : Nat} (ho : o.op = .fieldAddr 137 x 6) (hx : a.eval x = .pointer (some ⟨b, 0, none⟩)) : o.wp Tryz.prog a w (fun a' w' => ∃ v, a' = a.put o.dst v ∧ Kp w w' ∧ IsV (.pointer (some ⟨b, 6, none⟩)) w' v) Q := by
 refine kp_yield (v := .pointer (some ⟨b, 6, none⟩)) (w' := w) ?_ (Keeps.refl _ _) rfl
 generalize a.eval = ρ at hx ⊢
 unfold execOp
 rw [ho]
 go_simp
theorem kp_fG0 {b : Nat} (ho : o.op = .fieldAddr 179 x 0) (hx : a.eval x = .pointer (some ⟨b, 0, none⟩)) : o.wp Tryz.prog a w (fun a' w' => ∃ v, a' = a.put o.dst v ∧ Kp w w' ∧ IsV (.pointer (some ⟨b, 0, none⟩)) w' v) Q := by
 refine kp_yield (v := .pointer (some ⟨b, 0, none⟩)) (w' := w) ?_ (Keeps.refl _ _) rfl
 generalize a.eval = ρ at hx ⊢
 unfold execOp
 rw [ho]
 go_simp
theorem kp_fG1 {b : Nat} (ho : o.op = .fieldAddr 179 x 1) (hx : a.eval x = .pointer (some ⟨b, 0, none⟩)) : o.wp Tryz.prog a w (fun a' w' => ∃ v, a' = a.put o.dst v ∧ Kp w w' ∧ IsV (.pointer (some ⟨b, 1, none⟩)) w' v) Q := by
 refine kp_yield (v := .pointer (some ⟨b, 1, none⟩)) (w' := w) ?_ (Keeps.refl _ _) rfl
 generalize a.eval = ρ at hx ⊢
 unfold execOp
 rw [ho]
 go_simp
theorem kp_nilL {p : Addr} (ho : o.op = .nilCheck x) (hx : a.eval x = .pointer (some p)) : o.wp Tryz.prog a w (fun a' w' => ∃ v, a' = a.put o.dst v ∧ Kp w w' ∧ IsV (.pointer (some p)) w' v) Q := by
 refine kp_yield (v := .pointer (some p)) (w' := w) ?_ (Keeps.refl _ _) rfl
 generalize a.eval = ρ at hx ⊢
 unfold execOp
 rw [ho]
 go_simp
theorem kp_lDev {p : Addr} {u : Addr} (hc : w.cell? p = some (.pointer (some u))) (ho : o.op = .load 24 x) (hx : a.eval x = .pointer (some p)) : o.wp Tryz.prog a w (fun a' w' => ∃ v, a' = a.put o.dst v ∧ Kp w w' ∧ IsV (.pointer (some u)) w' v) Q := by
 refine kp_yield (v := .pointer (some u)) (w' := w) ?_ (Keeps.refl _ _) rfl
 generalize a.eval = ρ at hx ⊢
 unfold execOp
 rw [ho]
 go_simp
theorem kp_lInt {p : Addr} {n : Int} (hc : w.cell? p = some (.int .i64 n)) (ho : o.op = .load 3 x) (hx : a.eval x = .pointer (some p)) : o.wp Tryz.prog a w (fun a' w' => ∃ v, a' = a.put o.dst v ∧ Kp w w' ∧ IsV (.int .i64 n) w' v) Q := by
 refine kp_yield (v := .int .i64 n) (w' := w) ?_ (Keeps.refl _ _) rfl
 generalize a.eval = ρ at hx ⊢
 unfold execOp
 rw [ho]
 go_simp
theorem kp_lI64 {p : Addr} {n : Int} (hc : w.cell? p = some (.int .i64 n)) (ho : o.op = .load 2 x) (hx : a.eval x = .pointer (some p)) : o.wp Tryz.prog a w (fun a' w' => ∃ v, a' = a.put o.dst v ∧ Kp w w' ∧ IsV (.int .i64 n) w' v) Q := by
 refine kp_yield (v := .int .i64 n) (w' := w) ?_ (Keeps.refl _ _) rfl
 generalize a.eval = ρ at hx ⊢
 unfold execOp
 rw [ho]
 go_simp
theorem kp_lI {p : Addr} {A : Option Addr} {n c : Nat} (hc : w.cell? p = some (.slice A n c)) (ho : o.op = .load 66 x) (hx : a.eval x = .pointer (some p)) : o.wp Tryz.prog a w (fun a' w' => ∃ v, a' = a.put o.dst v ∧ Kp w w' ∧ IsV (.slice A n c) w' v) Q := by
 refine kp_yield (v := .slice A n c) (w' := w) ?_ (Keeps.refl _ _) rfl
 generalize a.eval = ρ at hx ⊢
 unfold execOp
 rw [ho]
 go_simp
theorem kp_lK {p : Addr} {A : Option Addr} {n c : Nat} (hc : w.cell? p = some (.slice A n c)) (ho : o.op = .load 135 x) (hx : a.eval x = .pointer (some p)) : o.wp Tryz.prog a w (fun a' w' => ∃ v, a' = a.put o.dst v ∧ Kp w w' ∧ IsV (.slice A n c) w' v) Q := by
 refine kp_yield (v := .slice A n c) (w' := w) ?_ (Keeps.refl _ _) rfl
 generalize a.eval = ρ at hx ⊢
 unfold execOp
 rw [ho]
 go_simp
theorem kp_lPL {p : Addr} {u : Addr} (hc : w.cell? p = some (.pointer (some u))) (ho : o.op = .load 89 x) (hx : a.eval x = .pointer (some p)) : o.wp Tryz.prog a w (fun a' w' => ∃ v, a' = a.put o.dst v ∧ Kp w w' ∧ IsV (.pointer (some u)) w' v) Q := by
 refine kp_yield (v := .pointer (some u)) (w' := w) ?_ (Keeps.refl _ _) rfl
 generalize a.eval = ρ at hx ⊢
 unfold execOp
 rw [ho]
 go_simp
theorem kp_lPG {p : Addr} {u : Addr} (hc : w.cell? p = some (.pointer (some u))) (ho : o.op = .load 209 x) (hx : a.eval x = .pointer (some p)) : o.wp Tryz.prog a w (fun a' w' => ∃ v, a' = a.put o.dst v ∧ Kp w w' ∧ IsV (.pointer (some u)) w' v) Q := by
 refine kp_yield (v := .pointer (some u)) (w' := w) ?_ (Keeps.refl _ _) rfl
 generalize a.eval = ρ at hx ⊢
 unfold execOp
 rw [ho]
 go_simp
theorem kp_lG {b j : Nat} {v0 v1 v2 : Value} (h0 : w.cell? ⟨b, j, none⟩ = some v0) (h1 : w.cell? ⟨b, j + 1, none⟩ = some v1) (h2 : w.cell? ⟨b, j + 2, none⟩ = some v2) (ho : o.op = .load 179 x) (hx : a.eval x = .pointer (some ⟨b, j, none⟩)) : o.wp Tryz.prog a w (fun a' w' => ∃ v, a' = a.put o.dst v ∧ Kp w w' ∧ IsV (.agg #[v0, v1, v2]) w' v) Q := by
 refine kp_yield (v := .agg #[v0, v1, v2]) (w' := w) ?_ (Keeps.refl _ _) rfl
 have e1 : (⟨b, j, none⟩ : Addr).add 1 = ⟨b, j + 1, none⟩ := rfl
 generalize a.eval = ρ at hx ⊢
 unfold execOp
 rw [ho]
 go_simp
theorem one_call {P : Program} {X : World → Value → Prop} {f : FuncId} {args : Array Value} {C : Ending → World → Prop} (e : (execOp a.eval o).run P w = .ok (.enter f args) w) (hc : Calls P f args w C)
  (hC : ∀ e w', C e w' → ∃ v, e = .returned v ∧ X w' v) : o.wp P a w (fun a' w' => ∃ v, a' = a.put o.dst v ∧ X w' v) Q := by
 unfold Oper.wp
 rw [e]
 refine hc.mono fun e w' h => ?_
 obtain ⟨v, rfl, hv⟩ := hC e w' h
 exact ⟨v, rfl, hv⟩
end
structure LHead (w : World) (q p i n : Nat) : Prop where
 d : w.cell? ⟨q, 0, none⟩ = some (.pointer (some ⟨p, 0, none⟩))
 i : w.cell? ⟨q, 1, none⟩ = some (.int .i64 (i : Int))
 n : w.cell? ⟨q, 2, none⟩ = some (.int .i64 (n : Int))
theorem LHead.keep {w w' : World} {q p i n : Nat} {F : Nat → Prop} (h : LHead w q p i n) (hk : Keeps F w w') (hF : F q) : LHead w' q p i n := ⟨hk.cell h.d hF, hk.cell h.i hF, hk.cell h.n hF⟩
theorem down_no (w : World) (q p i n : Nat) (h : LHead w q p i n) : Calls Tryz.prog 75 #[.pointer (some ⟨q, 0, none⟩)] w fun e w' => e = .returned (.bool false) ∧ w = w' := by
 have c0 := h.d
 clear h
 go_enter Tryz.func75, Tryz.ntmps75
 go_wp2
 go_ret
 exact ⟨rfl, rfl⟩
theorem fits_any (w : World) (n : Nat) (hn : n ≤ maxLen) : Calls Tryz.prog 103 #[.int .i64 (n : Int)] w fun e w' => e = .returned (.bool (decide (1 ≤ n ∧ n ≤ 300))) ∧ w = w' := by
 unfold maxLen at hn
 by_cases h1 : 1 ≤ n
 ·have d1 : decide ((1 : Int) ≤ (n : Int)) = true := by simp; omega
  have e : decide (1 ≤ n ∧ n ≤ 300) = decide ((n : Int) ≤ 300) := by rw [Bool.eq_iff_iff]; simp; omega
  rw [e]
  clear e h1
  go_enter Tryz.func103, Tryz.ntmps103
  go_wp2
  go_ret
  exact ⟨rfl, rfl⟩
 ·have d1 : decide ((1 : Int) ≤ (n : Int)) = false := by simp; omega
  have e : decide (1 ≤ n ∧ n ≤ 300) = false := by simp; omega
  rw [e]
  clear e h1
  go_enter Tryz.func103, Tryz.ntmps103
  go_wp2
  go_ret
  exact ⟨rfl, rfl⟩
theorem place_any (w : World) (q p i n : Nat) (h : LHead w q p i n) (s k : Nat) (hi : i ≤ 4096) (hs : s ≤ 4096) (hk : k ≤ 4096) : Calls Tryz.prog 169 #[.pointer (some ⟨q, 0, none⟩), .int .i64 (s : Int), .int .i64 (k : Int)] w fun e w' => e = .returned (.int .i64 ((i + s * 8 + k : Nat) : Int)) ∧ w = w' := by
 have c0 := h.i
 clear h
 have e : ((i + s * 8 + k : Nat) : Int) = (i : Int) + (s : Int) * 8 + (k : Int) := by omega
 rw [e]
 clear e
 go_enter Tryz.func169, Tryz.ntmps169
 go_wp2
 go_ret
 exact ⟨rfl, rfl⟩
theorem behind_any (w : World) (q p i n : Nat) (h : LHead w q p i n) (s : Nat) (hn : 1 ≤ n) (hn2 : n ≤ 4096) (hs : s ≤ 4096) : Calls Tryz.prog 134 #[.pointer (some ⟨q, 0, none⟩), .int .i64 (s : Int)] w fun e w' => e = .returned (.int .i64 (((s + 1) % n : Nat) : Int)) ∧ w = w' := by
 have c0 := h.n
 clear h
 have e : (((s + 1) % n : Nat) : Int) = ((s : Int) + 1).tmod (n : Int) := by
  rw [Int.tmod_eq_emod_of_nonneg (by omega)]; simp
 have hne : ¬ ((n : Int) = 0) := by omega
 have hne2 : (((n : Int)) == 0) = false := by simp; omega
 have hb : -9223372036854775808 ≤ ((s : Int) + 1).tmod (n : Int) ∧ ((s : Int) + 1).tmod (n : Int) < 9223372036854775808 := by
  rw [← e]
  have := Nat.mod_lt (s + 1) (show 0 < n by omega)
  omega
 rw [e]
 clear e
 generalize hm : ((s : Int) + 1).tmod (n : Int) = m at hb ⊢
 go_enter Tryz.func134, Tryz.ntmps134
 go_wp2
 go_ret
 exact ⟨rfl, rfl⟩
theorem sthere_yes (w : World) (p : Nat) (F : Foot) (s : SDev) (h : DAt w p F s) (i n : Nat) (h1 : 3 ≤ n) (h2 : n ≤ 200) (hi : i + 8 * n ≤ s.now.length) :
  Calls Tryz.prog 127 #[.pointer (some ⟨p, 0, none⟩), .int .i64 (i : Int), .int .i64 (n : Int)] w fun e w' => e = .returned (.bool true) ∧ w = w' := by
 have hl := Lib.hid (dlen_any w p F s h)
 have hsm := h.ok.small
 have d1 : decide ((3 : Int) ≤ (n : Int)) = true := by simp; omega
 have d2 : decide ((n : Int) ≤ 200) = true := by simp; omega
 have d3 : decide ((i : Int) ≤ (s.now.length : Int) - (n : Int) * 8) = true := by simp; omega
 have b1 : 8 * n ≤ s.now.length := by omega
 clear h hi
 go_enter Tryz.func127, Tryz.ntmps127
 go_wp2_with fail
 refine hl.out.mono ?_
 rintro e w' ⟨rfl, rfl⟩
 go_wp2_with fail
 go_ret
 exact ⟨rfl, rfl⟩
def endsC (rs : List LRec) : List Value := (List.range rs.length).map fun i => .int .i64 (endAt rs (i + 1) : Int)
theorem endsC_len (rs : List LRec) : (endsC rs).length = rs.length := by simp [endsC]
theorem endsC_at (rs : List LRec) (i : Nat) (h : i < rs.length) : (endsC rs)[i]? = some (.int .i64 (endAt rs (i + 1) : Int)) := by simp [endsC, h]
theorem endAt_snoc (rs : List LRec) (r : LRec) (i : Nat) (h : i ≤ rs.length) : endAt (rs ++ [r]) i = endAt rs i := by
 unfold endAt; rw [List.take_append_of_le_length h]
theorem endsC_snoc (rs : List LRec) (r : LRec) : endsC (rs ++ [r]) = endsC rs ++ [.int .i64 ((endAt rs rs.length + (putT r.body).length : Nat) : Int)] := by
 unfold endsC
 rw [List.length_append, List.length_singleton, List.range_succ, List.map_append, List.map_singleton]
 congr 1
 ·refine List.map_congr_left fun i hi => ?_
  rw [endAt_snoc rs r (i + 1) (List.mem_range.1 hi)]
 ·rw [endAt_next (rs ++ [r]) rs.length (by simp), endAt_snoc rs r _ (Nat.le_refl _), List.getElem_concat_length rfl]
theorem count_any (w : World) (u v : Value) (A : Option Addr) (n c : Nat) (h1 : u.oneCell' = true) (h2 : v.oneCell' = true) : Calls Tryz.prog 148 #[.agg #[u, v, .slice A n c]] w fun e w' => e = .returned (.int .i64 (n : Int)) ∧ Kp w w' := by
 go_enter Tryz.func148, Tryz.ntmps148
 go_wp2
 go_ret
 exact ⟨rfl, (Keeps.refl _ _).alloc _⟩
theorem number_any (w : World) (u : Value) (f k : Nat) (E : Value) (h1 : u.oneCell' = true) (h2 : E.oneCell' = true) (hf : f ≤ 274877906944) (hk : k ≤ 4096) : Calls Tryz.prog 168 #[.agg #[u, .int .i64 (f : Int), E], .int .i64 (k : Int)] w fun e w' => e = .returned (.int .i64 ((f * 8 + k : Nat) : Int)) ∧ Kp w w' := by
 have e : ((f * 8 + k : Nat) : Int) = (f : Int) * 8 + (k : Int) := by omega
 rw [e]
 clear e
 go_enter Tryz.func168, Tryz.ntmps168
 go_wp2
 go_ret
 exact ⟨rfl, (Keeps.refl _ _).alloc _⟩
theorem start_any (w : World) (u v : Value) (A : Option Addr) (c : Nat) (G : Nat → Prop) (rs : List LRec) (h1 : u.oneCell' = true) (h2 : v.oneCell' = true) (hr : Row w A G (endsC rs)) (hn : rs.length ≤ 4096) (i : Nat) (hi : i ≤ rs.length) :
  Calls Tryz.prog 149 #[.agg #[u, v, .slice A rs.length c], .int .i64 (i : Int)] w fun e w' => e = .returned (.int .i64 (endAt rs i : Int)) ∧ Kp w w' := by
 by_cases h0 : i = 0
 ·subst h0
  rw [endAt_zero]
  clear hr
  go_enter Tryz.func149, Tryz.ntmps149
  go_wp2
  go_ret
  exact ⟨rfl, (Keeps.refl _ _).alloc _⟩
 ·obtain ⟨k, rfl⟩ : ∃ k, i = k + 1 := ⟨i - 1, by omega⟩
  have hk : k < rs.length := by omega
  obtain ⟨b, o, rfl, -, hc⟩ := hr (by intro e; have := congrArg List.length e; rw [endsC_len, List.length_nil] at this; omega)
  have hce := hc k _ (endsC_at rs k hk)
  have hce2 : ∀ ob, (w.alloc ob).cell? ⟨b, o + k, none⟩ = some (.int .i64 (endAt rs (k + 1) : Int)) := fun ob => ((Keeps.refl (fun _ => True) w).alloc ob).cell hce trivial
  have d0 : ((((k : Nat) : Int) + 1) == 0) = false := by simp; omega
  have e : (((k + 1 : Nat) : Int)) = (k : Int) + 1 := by omega
  rw [e]
  have HE := Lib.hid hce2
  clear hc hi h0 e hce
  generalize (endAt rs (k + 1)) = z at hce2 HE ⊢
  go_enter Tryz.func149, Tryz.ntmps149
  go_wp2
  go_ret
  exact ⟨rfl, (Keeps.refl _ _).alloc _⟩
def SecV (l : List UInt8) : World → Value → Prop := fun w v => ∃ g c, v = .tuple #[.slice (some ⟨g, 0, none⟩) 64 c, .int .i64 0] ∧ Row w (some ⟨g, 0, none⟩) (fun _ => True) (bcells l) ∧ c ≤ maxLen ∧ 64 ≤ c
theorem SecV.mono {l : List UInt8} {w w' : World} {v : Value} (h : Kp w w') (hv : SecV l w v) : SecV l w' v := by
 obtain ⟨g, c, e, hr, h1, h2⟩ := hv
 exact ⟨g, c, e, hr.keep h, h1, h2⟩
def SecS (l : List UInt8) : World → Value → Prop := fun w v => ∃ g c, v = .slice (some ⟨g, 0, none⟩) 64 c ∧ Row w (some ⟨g, 0, none⟩) (fun _ => True) (bcells l) ∧ c ≤ maxLen ∧ 64 ≤ c
theorem SecS.mono {l : List UInt8} {w w' : World} {v : Value} (h : Kp w w') (hv : SecS l w v) : SecS l w' v := by
 obtain ⟨g, c, e, hr, h1, h2⟩ := hv
 exact ⟨g, c, e, hr.keep h, h1, h2⟩
def ldV : Option (Nat × List UInt8) → Value
 | none => .tuple #[.int .i64 0, .string ⟨#[]⟩, .bool false]
 | some (n, x) => .tuple #[.int .i64 (n : Int), .string (txt x), .bool true]
def VL (q p s k a : Nat) (l : List UInt8) : Nat → World → Value → Prop
 | 0 => IsV (.pointer (some ⟨q, 0, none⟩))
 | 1 => IsV (.pointer (some ⟨q, 0, none⟩))
 | 2 => IsV (.pointer (some ⟨q, 0, none⟩))
 | 3 => IsV (.pointer (some ⟨p, 0, none⟩))
 | 4 => IsV (.pointer (some ⟨q, 0, none⟩))
 | 5 => IsV (.int .i64 (s : Int))
 | 6 => IsV (.int .i64 (k : Int))
 | 7 => IsV (.int .i64 (a : Int))
 | 8 => SecV l
 | 9 => SecV l
 | 10 => SecS l
 | 11 => IsV (.int .i64 0)
 | 12 => SecS l
 | 13 => IsV (.int .i64 0)
 | _ => fun _ _ => True
theorem VL_mono {q p s k a : Nat} {l : List UInt8} (i : Nat) (w w' : World) (v : Value) (h : Kp w w') (hv : VL q p s k a l i w v) : VL q p s k a l i w' v := by
 match i, hv with
 | 0, hv => exact hv
 | 1, hv => exact hv
 | 2, hv => exact hv
 | 3, hv => exact hv
 | 4, hv => exact hv
 | 5, hv => exact hv
 | 6, hv => exact hv
 | 7, hv => exact hv
 | 8, hv => exact SecV.mono h hv
 | 9, hv => exact SecV.mono h hv
 | 10, hv => exact SecS.mono h hv
 | 11, hv => exact hv
 | 12, hv => exact SecS.mono h hv
 | 13, hv => exact hv
 | n + 14, _ => trivial
section
variable {o : Oper} {a : Act} {w : World} {Q : Exit → Act → World → Prop} {x y : Operand}
theorem kp_mvP {V : World → Value → Prop} (ho : o.op = .move x) (hx : V w (a.eval x)) : o.wp Tryz.prog a w (fun a' w' => ∃ v', a' = a.put o.dst v' ∧ Kp w w' ∧ V w' v') Q := by
 unfold Oper.wp execOp
 rw [ho]
 exact ⟨a.eval x, rfl, Keeps.refl _ _, hx⟩
theorem kp_asP {V : World → Value → Prop} (ho : o.op = .assign x) (hx : V w (a.eval x)) : o.wp Tryz.prog a w (fun a' w' => ∃ v', a' = a.put o.dst v' ∧ Kp w w' ∧ V w' v') Q := by
 unfold Oper.wp execOp
 rw [ho]
 exact ⟨a.eval x, rfl, Keeps.refl _ _, hx⟩
end
theorem takeL_none {k : Nat} {l : List UInt8} (h : decF 76 l = none) : decL k l = none := by unfold decL; rw [h]; rfl
theorem takeL_no {k : Nat} {l : List UInt8} {n : Int} {x : List UInt8} (h : decF 76 l = some (n, x)) (hb : n < 8 ∨ 2199023255552 ≤ n ∨ n % 8 ≠ (k : Int) ∨ 53 < x.length) : decL k l = none := by
 unfold decL; rw [h]; unfold takeL; simp only; rw [if_pos hb]
theorem takeL_yes {k : Nat} {l : List UInt8} {n : Int} {x : List UInt8} (h : decF 76 l = some (n, x)) (hb : ¬ (n < 8 ∨ 2199023255552 ≤ n ∨ n % 8 ≠ (k : Int) ∨ 53 < x.length)) : ldV (decL k l) = .tuple #[.int .i64 n, .string (txt x), .bool true] := by
 unfold decL; rw [h]; unfold takeL; simp only; rw [if_neg hb]
 show Value.tuple #[.int .i64 ((n.toNat : Nat) : Int), .string (txt x), .bool true] = _
 rw [show ((n.toNat : Nat) : Int) = n by omega]
set_option maxRecDepth 100000 in
set_option maxHeartbeats 4000000 in
theorem lload_any (w : World) (hT : Taken w) (q p i n : Nat) (hL : LHead w q p i n) (F : Foot) (s : SDev) (hd : DAt w p F s) (sl k : Nat) (hi : i ≤ 2048) (hsl : sl ≤ 2048) (hk : k < 8) (hin : i + sl * 8 + k < s.now.length) :
  Calls Tryz.prog 166 #[.pointer (some ⟨q, 0, none⟩), .int .i64 (sl : Int), .int .i64 (k : Int)] w fun e w' => e = .returned (ldV (secAt s.now i sl k)) ∧ Kp w w' := by
 have HRD := Lib.hid (fun w' (hk : Kp w w') => d_read (hd.keep (hk.mono fun _ _ _ => trivial)) (i + sl * 8 + k) hin)
 have HSL := Lib.hid (show (s.now.getD (i + sl * 8 + k) []).length = 64 by rw [getD_mem _ _ _ hin]; exact hd.ok.nrow _ (List.getElem_mem hin))
 have HL := Lib.hid hL
 have HT := Lib.hid hT
 unfold secAt
 generalize ha : i + sl * 8 + k = a at HRD HSL ⊢
 have HA := Lib.hid ha
 generalize s.now.getD a [] = l at HRD HSL ⊢
 clear hL hd hin hT ha
 go_enter Tryz.func166, Tryz.ntmps166
 go_wp2_with fail
 refine wp_region_guard (R := Kp) (V := VL q p sl k a l) (w0 := w) GE (by kernel_rfl) (fun w => Keeps.refl _ w) (fun _ _ _ h k => h.trans k) (fun i w w' v h hv => VL_mono i w w' v h hv) (by kernel_rfl) GE_is (fun i o ho hw => (all_wanted (by kernel_rfl) ho hw).elim) ((Keeps.refl _ w).drew) (each_of ?_) ?_
 ·refine ⟨?_, ?_, ?_, ?_, ?_, ?_, ?_, ?_, ?_, ?_, ?_, ?_, ?_, ?_, trivial⟩ <;> intro hw a1 w3 L
  ·exact kp_move rfl (L.old 0 (by kernel_rfl))
  ·exact kp_nilL rfl (L.val 0 14 (by kernel_rfl) (by kernel_rfl))
  ·exact kp_fL0 rfl (L.val 1 15 (by kernel_rfl) (by kernel_rfl))
  ·exact kp_lDev (L.rel.cell HL.out.d trivial) rfl (L.val 2 16 (by kernel_rfl) (by kernel_rfl))
  ·exact kp_move rfl (L.old 0 (by kernel_rfl))
  ·exact kp_move rfl (L.old 1 (by kernel_rfl))
  ·exact kp_move rfl (L.old 2 (by kernel_rfl))
  ·have e0 : a1.eval (.tmp 18) = .pointer (some ⟨q, 0, none⟩) := L.val 4 18 (by kernel_rfl) (by kernel_rfl)
   have e1 : a1.eval (.tmp 19) = .int .i64 (sl : Int) := L.val 5 19 (by kernel_rfl) (by kernel_rfl)
   have e2 : a1.eval (.tmp 20) = .int .i64 (k : Int) := L.val 6 20 (by kernel_rfl) (by kernel_rfl)
   have hf : a1.eval (.func 169) = .func (.func 169) #[] #[] := rfl
   refine kp_enter (f := 169) (args := #[.pointer (some ⟨q, 0, none⟩), .int .i64 (sl : Int), .int .i64 (k : Int)]) ?_ (place_any w3 q p i n (HL.out.keep L.rel trivial) sl k (by omega) (by omega) (by omega)) ?_
   ·clear L
    generalize a1.eval = ρ at e0 e1 e2 hf ⊢
    unfold execOp
    go_simp
   ·rintro e w' ⟨rfl, rfl⟩
    exact ⟨_, rfl, Keeps.refl _ _, by rw [HA.out]; rfl⟩
  ·have e0 : a1.eval (.tmp 17) = .pointer (some ⟨p, 0, none⟩) := L.val 3 17 (by kernel_rfl) (by kernel_rfl)
   have e1 : a1.eval (.tmp 21) = .int .i64 (a : Int) := L.val 7 21 (by kernel_rfl) (by kernel_rfl)
   have hf : a1.eval (.func 146) = .func (.func 146) #[] #[] := rfl
   refine kp_enter (f := 146) (args := #[.pointer (some ⟨p, 0, none⟩), .int .i64 (a : Int)]) ?_ (HRD.out w3 L.rel) ?_
   ·clear L
    generalize a1.eval = ρ at e0 e1 hf ⊢
    unfold execOp
    go_simp
   ·rintro e w' ⟨g, c, rfl, hr, h1, h2, hk⟩
    exact ⟨_, rfl, hk, g, c, rfl, hr.mono fun _ _ _ => trivial, h1, h2⟩
  ·exact kp_mvP rfl (L.val 8 22 (by kernel_rfl) (by kernel_rfl))
  ·obtain ⟨g, c, e0, hr, h1, h2⟩ := L.val 9 13 (by kernel_rfl) (by kernel_rfl)
   refine kp_yield (v := .slice (some ⟨g, 0, none⟩) 64 c) (w' := w3) ?_ (Keeps.refl _ _) ⟨g, c, rfl, hr, h1, h2⟩
   clear L hr h1 h2
   generalize a1.eval = ρ at e0 ⊢
   unfold execOp
   go_simp
  ·obtain ⟨g, c, e0, hr, h1, h2⟩ := L.val 9 13 (by kernel_rfl) (by kernel_rfl)
   refine kp_yield (v := .int .i64 0) (w' := w3) ?_ (Keeps.refl _ _) rfl
   clear L hr h1 h2
   generalize a1.eval = ρ at e0 ⊢
   unfold execOp
   go_simp
  ·exact kp_asP rfl (L.val 10 23 (by kernel_rfl) (by kernel_rfl))
  ·exact kp_assign rfl (L.val 11 24 (by kernel_rfl) (by kernel_rfl))
 ·intro vs w4 hk4 hlen hv
  match vs, hlen with
  | [v0, v1, v2, v3, v4, v5, v6, v7, v8, v9, v10, v11, v12, v13], _ =>
   obtain ⟨g, c, e12, hr, h1, h2⟩ : SecS l w4 v12 := hv 12 9 (by kernel_rfl)
   have e13 : v13 = .int .i64 0 := hv 13 10 (by kernel_rfl)
   clear hv
   subst e12 e13
   simp only [putAll, List.map, Act.put, List.setIfInBounds_toArray, List.set_cons_succ, List.set_cons_zero, Exit.then]
   have HP := Lib.hid (fparse_any w4 (HT.out.keep hk4) 76 76 rfl g 0 c _ l hr HSL.out h2 h1)
   have HK4 := Lib.hid hk4
   clear hr h1 h2 hk4
   go_wp2_with fail
   refine HP.out.mono ?_
   rintro e w5 ⟨rfl, hk5⟩
   have HK5 := Lib.hid (HK4.out.trans hk5)
   clear hk5 HP
   obtain ⟨r, hr⟩ : ∃ r, decF 76 l = r := ⟨_, rfl⟩
   rw [hr]
   have HR := Lib.hid hr
   clear hr
   rcases r with _ | ⟨m, x⟩
   ·have HD := Lib.hid (show ldV (decL k l) = .tuple #[.int .i64 0, .string ⟨#[]⟩, .bool false] by rw [takeL_none HR.out]; rfl)
    unfold frmV
    go_wp2_with fail
    go_ret3
    exact ⟨by rw [HD.out]; rfl, HK5.out⟩
   ·unfold frmV
    have hcs : (decide (m < 8) = true ∧ m < 8) ∨ (decide (m < 8) = false ∧ decide (2199023255552 ≤ m) = true ∧ 2199023255552 ≤ m) ∨ (decide (m < 8) = false ∧ decide (2199023255552 ≤ m) = false ∧ (m % 8 != (k : Int)) = true ∧ 8 ≤ m ∧ m < 2199023255552 ∧ m % 8 ≠ (k : Int)) ∨ (decide (m < 8) = false ∧ decide (2199023255552 ≤ m) = false ∧ (m % 8 != (k : Int)) = false ∧ 8 ≤ m ∧ m < 2199023255552 ∧ decide ((53 : Int) < ((txt x).size : Int)) = true ∧ 53 < x.length) ∨
      (decide (m < 8) = false ∧ decide (2199023255552 ≤ m) = false ∧ (m % 8 != (k : Int)) = false ∧ 8 ≤ m ∧ m < 2199023255552 ∧ decide ((53 : Int) < ((txt x).size : Int)) = false ∧ ¬ (m < 8 ∨ 2199023255552 ≤ m ∨ m % 8 ≠ (k : Int) ∨ 53 < x.length)) := by
     rw [txt_size]
     by_cases h1 : m < 8
     ·left; exact ⟨by simpa using h1, h1⟩
     ·right
      by_cases h2 : 2199023255552 ≤ m
      ·left; exact ⟨by simpa using h1, by simpa using h2, h2⟩
      ·right
       by_cases h3 : m % 8 = (k : Int)
       ·right
        by_cases h4 : 53 < x.length
        ·left; exact ⟨by simpa using h1, by simpa using h2, by simpa using h3, by omega, by omega, by simp; omega, h4⟩
        ·right; exact ⟨by simpa using h1, by simpa using h2, by simpa using h3, by omega, by omega, by simp; omega, by omega⟩
       ·left; exact ⟨by simpa using h1, by simpa using h2, by simpa using h3, by omega, by omega, h3⟩
    rcases hcs with ⟨t0, hb⟩ | ⟨t0, t1, hb⟩ | ⟨t0, t1, t2, t3, t4, hb⟩ | ⟨t0, t1, t2, t3, t4, t5, hb⟩ | ⟨t0, t1, t2, t3, t4, t5, hb⟩
    ·have HD := Lib.hid (show ldV (decL k l) = .tuple #[.int .i64 0, .string ⟨#[]⟩, .bool false] by rw [takeL_no HR.out (.inl hb)]; rfl)
     clear hb
     go_wp2_with fail
     go_ret3
     exact ⟨by rw [HD.out]; rfl, HK5.out⟩
    ·have HD := Lib.hid (show ldV (decL k l) = .tuple #[.int .i64 0, .string ⟨#[]⟩, .bool false] by rw [takeL_no HR.out (.inr (.inl hb))]; rfl)
     clear hb
     go_wp2_with fail
     go_ret3
     exact ⟨by rw [HD.out]; rfl, HK5.out⟩
    ·have HD := Lib.hid (show ldV (decL k l) = .tuple #[.int .i64 0, .string ⟨#[]⟩, .bool false] by rw [takeL_no HR.out (.inr (.inr (.inl hb)))]; rfl)
     have hm : m.tmod 8 = m % 8 := Int.tmod_eq_emod_of_nonneg (by omega)
     clear hb
     go_wp2_with fail
     go_ret3
     exact ⟨by rw [HD.out]; rfl, HK5.out⟩
    ·have HD := Lib.hid (show ldV (decL k l) = .tuple #[.int .i64 0, .string ⟨#[]⟩, .bool false] by rw [takeL_no HR.out (.inr (.inr (.inr hb)))]; rfl)
     have hm : m.tmod 8 = m % 8 := Int.tmod_eq_emod_of_nonneg (by omega)
     clear hb
     go_wp2_with fail
     go_ret3
     exact ⟨by rw [HD.out]; rfl, HK5.out⟩
    ·have HD := Lib.hid (takeL_yes HR.out hb)
     have hm : m.tmod 8 = m % 8 := Int.tmod_eq_emod_of_nonneg (by omega)
     clear hb
     go_wp2_with fail
     go_ret3
     exact ⟨by rw [HD.out]; rfl, HK5.out⟩
def StD (w1 : World) (p : Nat) (F : Foot) (s s' : SDev) : Bool → World → Prop
 | false, w => DAt w p F s ∧ Keeps (fun _ => True) w1 w
 | true, w => DAt w p F s' ∧ Step F F w1 w
theorem StD.keep {w1 w w' : World} {p : Nat} {F : Foot} {s s' : SDev} {b : Bool} (h : Kp w w') (hs : StD w1 p F s s' b w) : StD w1 p F s s' b w' := by
 cases b
 ·exact ⟨hs.1.keep (h.mono fun _ _ _ => trivial), hs.2.trans h⟩
 ·obtain ⟨h1, h2⟩ := hs
  exact ⟨h1.keep (h.mono fun _ _ _ => trivial), h2.trans (Step.of_keeps h F)⟩
theorem StD.kp {w1 w : World} {p : Nat} {F : Foot} {s s' : SDev} (b : Bool) (hs : StD w1 p F s s' b w) : Keeps (fun b => ¬ F.M b) w1 w := by
 cases b
 ·exact hs.2.mono fun _ _ _ => trivial
 ·obtain ⟨h1, h2⟩ := hs
  exact h2.keeps
def VY (q p b sl k a g c : Nat) : Nat → World → Value → Prop
 | 0 => IsV (.pointer (some ⟨q, 0, none⟩))
 | 1 => IsV (.pointer (some ⟨q, 0, none⟩))
 | 2 => IsV (.pointer (some ⟨q, 0, none⟩))
 | 3 => IsV (.pointer (some ⟨p, 0, none⟩))
 | 4 => IsV (.pointer (some ⟨q, 0, none⟩))
 | 5 => IsV (.pointer (some ⟨b, 0, none⟩))
 | 6 => IsV (.int .i64 (sl : Int))
 | 7 => IsV (.int .i64 (k : Int))
 | 8 => IsV (.int .i64 (a : Int))
 | 9 => IsV (.slice (some ⟨g, 0, none⟩) 64 c)
 | 10 => IsV (.int .i64 0)
 | 11 => IsV (.int .i64 0)
 | _ => fun _ _ => True
theorem VY_any {q p b sl k a g c : Nat} (i : Nat) (w w' : World) (v : Value) (hv : VY q p b sl k a g c i w v) : VY q p b sl k a g c i w' v := by
 match i, hv with
 | 0, hv => exact hv
 | 1, hv => exact hv
 | 2, hv => exact hv
 | 3, hv => exact hv
 | 4, hv => exact hv
 | 5, hv => exact hv
 | 6, hv => exact hv
 | 7, hv => exact hv
 | 8, hv => exact hv
 | 9, hv => exact hv
 | 10, hv => exact hv
 | 11, hv => exact hv
 | n + 12, _ => trivial
set_option maxRecDepth 100000 in
set_option maxHeartbeats 4000000 in
theorem llay_own (w : World) (hT : Taken w) (q p i n : Nat) (hL : LHead w q p i n) (F : Foot) (s : SDev) (hd : DAt w p F s) (hq : ¬ F.all q) (hTM : ¬ F.M 0) (sl f k : Nat) (E : Value) (hE : E.oneCell' = true) (x : List UInt8) (hx : x.length ≤ 53)
  (hi : i ≤ 2048) (hsl : sl ≤ 2048) (hk : k < 8) (hf : f * 8 + k < 2199023255552) (hin : i + sl * 8 + k < s.now.length) (hcalls : s.calls ≤ 1099511627776) :
  Calls Tryz.prog 131 #[.pointer (some ⟨q, 0, none⟩), .agg #[.int .i64 (sl : Int), .int .i64 (f : Int), E], .int .i64 (k : Int), .string (txt x)] w fun e w' => e = .returned (.int .i64 0) ∧ DAt w' p F (s.write (i + sl * 8 + k) (encL (f * 8 + k) x)) ∧ Step F F w w' := by
 have HT := Lib.hid hT
 have HL := Lib.hid hL
 have HD := Lib.hid hd
 have HQ := Lib.hid (show ¬ F.M q from fun h => hq (.inl h))
 have HTF := Lib.hid hTM
 have HRF := Lib.hid hd.lt
 obtain ⟨w0, hw0⟩ : ∃ w0, w.alloc (.cells #[.int .i64 (sl : Int), .int .i64 (f : Int), E] 179) = w0 := ⟨_, rfl⟩
 have hk0 : Kp w w0 := by rw [← hw0]; exact (Keeps.refl _ w).alloc _
 have hb0 : w0.heap[w.heap.size]? = some (.cells #[.int .i64 (sl : Int), .int .i64 (f : Int), E] 179 (0, 0)) := by rw [← hw0]; exact heap_alloc_new w _
 have hz0 : w0.heap.size = w.heap.size + 1 := by rw [← hw0]; simp
 have HW0 := Lib.hid hw0
 have HK0 := Lib.hid hk0
 have HB0 := Lib.hid hb0
 have HZ0 := Lib.hid hz0
 have HEL := Lib.hid (encL_len (f * 8 + k) x hf hx)
 obtain ⟨a, ha⟩ : ∃ a, i + sl * 8 + k = a := ⟨_, rfl⟩
 rw [ha] at hin ⊢
 have HA := Lib.hid ha
 have HIN := Lib.hid hin
 have HFM := Lib.hid (fun hT => fmake_any w0 hT 76 76 rfl (f * 8 + k) x (by omega) (by omega) (headS_len (f * 8 + k) x hx hf))
 clear hT hL hd hq hTM hw0 hk0 hb0 hz0 ha hin
 have c0 : w0.cell? ⟨w.heap.size, 0, none⟩ = some (.int .i64 (sl : Int)) := (cell_of_block HB0.out 0).trans rfl
 have c1 : w0.cell? ⟨w.heap.size, 1, none⟩ = some (.int .i64 (f : Int)) := (cell_of_block HB0.out 1).trans rfl
 have c2 : w0.cell? ⟨w.heap.size, 2, none⟩ = some E := (cell_of_block HB0.out 2).trans rfl
 go_enter Tryz.func131, Tryz.ntmps131
 go_wp2_with fail
 rw [HW0.out]
 refine (number_any w0 _ f k E rfl hE (by omega) (by omega)).mono ?_
 rintro e w1 ⟨rfl, hk1⟩
 have HK1 := Lib.hid hk1
 clear hk1 c0 c1 c2
 go_wp2_with fail
 have hfm := fmake_any w1 (HT.out.keep (HK0.out.trans HK1.out)) 76 76 rfl (f * 8 + k) x (by omega) (by omega) (headS_len (f * 8 + k) x hx hf)
 try simp only [Int.natCast_add, Int.natCast_mul, Int.cast_ofNat_Int] at hfm
 refine hfm.mono ?_
 clear hfm
 rintro e w2 ⟨v, rfl, ho, hk2⟩
 rw [show encF 76 (f * 8 + k) x = encL (f * 8 + k) x from rfl] at ho
 have hel := HEL.out
 obtain ⟨g, cg, rfl, hbase, hglt⟩ := ho.form (by rw [hel]; decide)
 have hrow := own_row ho
 rw [hel] at ⊢
 have HK2 := Lib.hid (HK1.out.trans hk2)
 have HRW := Lib.hid hrow
 have HG := Lib.hid (show ¬ F.all g from fun hf => by have := HRF.out g hf; have := HK0.out.size; have := HK1.out.size; omega)
 clear ho hk2 hrow hbase hglt hel
 go_wp2_with fail
 have HD2 := Lib.hid (HD.out.keep ((HK0.out.trans HK2.out).mono fun _ _ _ => trivial))
 have HL2 := Lib.hid (HL.out.keep (HK0.out.trans HK2.out) trivial)
 have HB2 := Lib.hid ((HK2.out.block w.heap.size trivial (by rw [HZ0.out]; omega)).trans HB0.out)
 have HZ2 := Lib.hid (show w.heap.size < w2.heap.size from by have := HK2.out.size; have := HZ0.out; omega)
 refine wp_region_one (V := VY q p w.heap.size sl k a g cg) (w0 := w2) 10 (StD w2 p F s (s.write a (encL (f * 8 + k) x))) (fun w w' => Keeps (fun b => ¬ F.M b) w w') GE (by kernel_rfl) (fun i w w' v _ hv => VY_any i w w' v hv) (fun _ _ _ h hs => hs.keep h) (fun i _ w w' v _ hv => VY_any i w w' v hv) (by kernel_rfl) (by decide) GE_is (fun i o ho hw => (all_wanted (by kernel_rfl) ho hw).elim) ⟨HD2.out.keep ((Keeps.refl _ w2).drew.mono fun _ _ _ => trivial), (Keeps.refl _ w2).drew⟩ (each_of ?_) ?_
 ·refine ⟨?_, ?_, ?_, ?_, ?_, ?_, ?_, ?_, ?_, ?_, ?_, ?_, trivial⟩ <;> intro hw a1 w3 L
  ·rw [if_neg (by decide)]
   intro b hs _
   exact kp_move rfl (L.old 0 (by kernel_rfl))
  ·rw [if_neg (by decide)]
   intro b hs _
   exact kp_nilL rfl (L.val 0 22 (by kernel_rfl) (by kernel_rfl))
  ·rw [if_neg (by decide)]
   intro b hs _
   exact kp_fL0 rfl (L.val 1 23 (by kernel_rfl) (by kernel_rfl))
  ·rw [if_neg (by decide)]
   intro b hs _
   exact kp_lDev ((StD.kp b hs).cell HL2.out.d HQ.out) rfl (L.val 2 24 (by kernel_rfl) (by kernel_rfl))
  ·rw [if_neg (by decide)]
   intro b hs _
   exact kp_move rfl (L.old 0 (by kernel_rfl))
  ·rw [if_neg (by decide)]
   intro b hs _
   exact kp_fG0 rfl (L.old 5 (by kernel_rfl))
  ·rw [if_neg (by decide)]
   intro b hs _
   have hblk := ((StD.kp b hs).block w.heap.size (fun hm => by have := HRF.out _ (.inl hm); omega) HZ2.out).trans HB2.out
   exact kp_lInt ((cell_of_block hblk 0).trans rfl) rfl (L.val 5 27 (by kernel_rfl) (by kernel_rfl))
  ·rw [if_neg (by decide)]
   intro b hs _
   exact kp_move rfl (L.old 2 (by kernel_rfl))
  ·rw [if_neg (by decide)]
   intro b hs _
   have e0 : a1.eval (.tmp 26) = .pointer (some ⟨q, 0, none⟩) := L.val 4 26 (by kernel_rfl) (by kernel_rfl)
   have e1 : a1.eval (.tmp 28) = .int .i64 (sl : Int) := L.val 6 28 (by kernel_rfl) (by kernel_rfl)
   have e2 : a1.eval (.tmp 29) = .int .i64 (k : Int) := L.val 7 29 (by kernel_rfl) (by kernel_rfl)
   have hf : a1.eval (.func 169) = .func (.func 169) #[] #[] := rfl
   refine kp_enter (f := 169) (args := #[.pointer (some ⟨q, 0, none⟩), .int .i64 (sl : Int), .int .i64 (k : Int)]) ?_ (place_any w3 q p i n (HL2.out.keep (StD.kp b hs) HQ.out) sl k (by omega) (by omega) (by omega)) ?_
   ·clear L hs
    generalize a1.eval = ρ at e0 e1 e2 hf ⊢
    unfold execOp
    go_simp
   ·rintro e w' ⟨rfl, rfl⟩
    exact ⟨_, rfl, Keeps.refl _ _, by rw [HA.out]; rfl⟩
  ·rw [if_neg (by decide)]
   intro b hs _
   exact kp_move rfl (L.old 9 (by kernel_rfl))
  ·rw [if_pos rfl]
   rintro ⟨hd, hk⟩
   have e0 : a1.eval (.tmp 25) = .pointer (some ⟨p, 0, none⟩) := L.val 3 25 (by kernel_rfl) (by kernel_rfl)
   have e1 : a1.eval (.tmp 30) = .int .i64 (a : Int) := L.val 8 30 (by kernel_rfl) (by kernel_rfl)
   have e3 : a1.eval (.tmp 31) = .slice (some ⟨g, 0, none⟩) 64 cg := L.val 9 31 (by kernel_rfl) (by kernel_rfl)
   have hf : a1.eval (.func 63) = .func (.func 63) #[] #[] := rfl
   have hw := dwrite_own w3 p F s hd a (some ⟨g, 0, none⟩) cg (fun b => b = g) (encL (f * 8 + k) x) (HRW.out.keep (hk.mono fun _ _ _ => trivial)) (fun b hb => by rw [hb]; exact HG.out) HIN.out (by rw [HEL.out]; decide) hcalls
   rw [HEL.out] at hw
   refine one_call (f := 63) (args := #[.pointer (some ⟨p, 0, none⟩), .int .i64 (a : Int), .slice (some ⟨g, 0, none⟩) 64 cg]) ?_ hw ?_
   ·clear hd hk L hw
    generalize a1.eval = ρ at e0 e1 e3 hf ⊢
    unfold execOp
    go_simp
   ·rintro e w' ⟨rfl, hd', hst⟩
    exact ⟨_, rfl, hst.keeps, ⟨hd', (Step.of_keeps hk F).trans hst⟩, rfl⟩
  ·rw [if_neg (by decide)]
   intro b hs _
   exact kp_assign rfl (L.val 10 32 (by kernel_rfl) (by kernel_rfl))
 ·intro vs w8 hs8 hlen hv
  match vs, hlen with
  | [v0, v1, v2, v3, v4, v5, v6, v7, v8, v9, v10, v11], _ =>
   have e11 : v11 = .int .i64 0 := hv 11 8 (by kernel_rfl)
   clear hv
   subst e11
   simp only [putAll, List.map, Act.put, List.setIfInBounds_toArray, List.set_cons_succ, List.set_cons_zero, Exit.then]
   obtain ⟨hd8, hst8⟩ := hs8
   have H1 := Lib.hid (show DAt w8 p F (s.write a (encL (f * 8 + k) x)) ∧ Step F F w w8 from ⟨hd8, (Step.of_keeps (HK0.out.trans HK2.out) F).trans hst8⟩)
   clear hd8 hst8
   go_wp2_with fail
   go_ret
   exact ⟨rfl, H1.out⟩
theorem llay_any (w : World) (hT : Taken w) (q p i n : Nat) (hL : LHead w q p i n) (F : Foot) (s : SDev) (hd : DAt w p F s) (hq : ¬ F.all q) (hTM : ¬ F.M 0) (sl f k : Nat) (E : Value) (hE : E.oneCell' = true) (x : List UInt8) (hx : x.length ≤ 53)
  (hi : i ≤ 2048) (hsl : sl ≤ 2048) (hk : k < 8) (hf : f * 8 + k < 2199023255552) (hin : i + sl * 8 + k < s.now.length) (hcalls : s.calls ≤ 1099511627776) :
  Calls Tryz.prog 131 #[.pointer (some ⟨q, 0, none⟩), .agg #[.int .i64 (sl : Int), .int .i64 (f : Int), E], .int .i64 (k : Int), .string (txt x)] w fun e w' => e = .returned (.int .i64 0) ∧ ∃ F', DAt w' p F' (s.write (i + sl * 8 + k) (encL (f * 8 + k) x)) ∧ Step F F' w w' :=
 (llay_own w hT q p i n hL F s hd hq hTM sl f k E hE x hx hi hsl hk hf hin hcalls).mono fun _ _ h => ⟨h.1, F, h.2⟩
theorem nsec_big {n k : Nat} (h : nsec n ≤ k) : n ≤ 53 * k := by unfold nsec at h; omega
theorem take_all (l : List UInt8) (a m m' : Nat) (h : l.length ≤ 53 * (a + m)) (h' : m ≤ m') : (l.drop (53 * a)).take (53 * m) = (l.drop (53 * a)).take (53 * m') := by
 rw [List.take_of_length_le (by rw [List.length_drop]; omega), List.take_of_length_le (by rw [List.length_drop]; omega)]
structure SBox (w : World) (b sl f : Nat) (E : Value) : Prop where
 s : w.cell? ⟨b, 0, none⟩ = some (.int .i64 (sl : Int))
 f : w.cell? ⟨b, 1, none⟩ = some (.int .i64 (f : Int))
 e : w.cell? ⟨b, 2, none⟩ = some E
theorem SBox.keep {w w' : World} {b sl f : Nat} {E : Value} {F : Nat → Prop} (h : SBox w b sl f E) (hk : Keeps F w w') (hF : F b) : SBox w' b sl f E := ⟨hk.cell h.s hF, hk.cell h.f hF, hk.cell h.e hF⟩
theorem SBox.new (w : World) (sl f : Nat) (E : Value) : SBox (w.alloc (.cells #[.int .i64 (sl : Int), .int .i64 (f : Int), E] 179)) w.heap.size sl f E := by
 have h := heap_alloc_new w (.cells #[.int .i64 (sl : Int), .int .i64 (f : Int), E] 179)
 exact ⟨(cell_of_block h 0).trans rfl, (cell_of_block h 1).trans rfl, (cell_of_block h 2).trans rfl⟩
set_option maxRecDepth 100000 in
set_option maxHeartbeats 2000000 in
theorem stream_any (w : World) (hT : Taken w) (q p i n : Nat) (hL : LHead w q p i n) (F : Foot) (s : SDev) (hd : DAt w p F s) (sl f : Nat) (text : List UInt8) (E : Value) (hE : E.oneCell' = true)
  (hon : ∀ k, k < nsec text.length → secAt s.now i sl k = some (f * 8 + k, chunk text k)) (hrest : ∀ k, nsec text.length ≤ k → k < 8 → ∀ n x, secAt s.now i sl k = some (n, x) → n < f * 8) (hlen : text.length ≤ 424)
  (hi : i ≤ 2048) (hsl : sl ≤ 2048) (hf : f ≤ 274877906943) (hin : i + sl * 8 + 8 ≤ s.now.length) (a e : Nat) (hae : a ≤ e) (he : e ≤ 8) :
  Calls Tryz.prog 151 #[.pointer (some ⟨q, 0, none⟩), .agg #[.int .i64 (sl : Int), .int .i64 (f : Int), E], .int .i64 (a : Int), .int .i64 (e : Int)] w fun e' w' => ∃ v, e' = .returned v ∧ OwnB w' w.heap.size v ((text.drop (53 * a)).take (53 * (e - a))) ∧ Kp w w' := by
 have HT := Lib.hid hT
 have HL := Lib.hid hL
 have HD := Lib.hid hd
 have HON := Lib.hid hon
 have HRS := Lib.hid hrest
 have HLD := Lib.hid (fun (wr : World) (hk : Kp w wr) (k : Nat) (hk8 : k < 8) => lload_any wr (hT.keep hk) q p i n (hL.keep hk trivial) F s (hd.keep (hk.mono fun _ _ _ => trivial)) sl k hi hsl hk8 (by omega))
 have hk0 : Kp w (w.alloc (.cells #[.int .i64 (sl : Int), .int .i64 (f : Int), E] 179)) := (Keeps.refl _ w).alloc _
 have hb0 := SBox.new w sl f E
 have hz0 : (w.alloc (.cells #[.int .i64 (sl : Int), .int .i64 (f : Int), E] 179)).heap.size = w.heap.size + 1 := by simp
 have HK0 := Lib.hid hk0
 have HB0 := Lib.hid hb0
 have HZ0 := Lib.hid hz0
 clear hT hL hd hon hrest hk0 hb0 hz0 hin
 go_enter Tryz.func151, Tryz.ntmps151
 go_wp2_with fail
 go_loopw [2, 9] (fun vk vo wr => ∃ (k : Nat) (u : Value), a ≤ k ∧ k ≤ e ∧ vk = .int .i64 k ∧ u = vo ∧ OwnB wr (w.heap.size + 1) u ((text.drop (53 * a)).take (53 * (k - a))) ∧ Kp w wr ∧ SBox wr w.heap.size sl f E ∧ w.heap.size < wr.heap.size) (fun vk _ _ => e - (intOf vk).toNat)
 case atStart =>
  refine ⟨a, _, Nat.le_refl _, hae, rfl, rfl, ?_, HK0.out, HB0.out, by rw [HZ0.out]; omega⟩
  rw [Nat.sub_self, Nat.mul_zero, List.take_zero]
  exact World.ownsRow_nil _ _ _ _
 case round =>
  obtain ⟨k, u, hak, hke, rfl, hu, ho, hkp, hbx, hzr⟩ := hrel
  subst hu
  by_cases hlt : k < e
  ·have hld := HLD.out wr hkp k (by omega)
   have HLC := Lib.hid hld
   have HO := Lib.hid ho
   have HK := Lib.hid hkp
   have HBX := Lib.hid hbx
   have c0 := hbx.s
   clear hld ho hkp hbx
   go_wp2_with fail
   refine HLC.out.mono ?_
   rintro e' w2 ⟨rfl, hk2⟩
   have hb2 := HBX.out.keep hk2 trivial
   have c0 := hb2.s
   have c1 := hb2.f
   have c2 := hb2.e
   have HK2 := Lib.hid (HK.out.trans hk2)
   have HO2 := Lib.hid (show OwnB w2 (w.heap.size + 1) u ((text.drop (53 * a)).take (53 * (k - a))) from hk2.own HO.out fun _ _ => trivial)
   have HB2 := Lib.hid hb2
   have HZ2 := Lib.hid (Nat.lt_of_lt_of_le hzr hk2.size)
   clear hk2 hb2 HLC HO HK HBX
   have hNN := Lib.hid (number_any w2 (.int .i64 (sl : Int)) f k E rfl hE (by omega) (by omega))
   by_cases hns : k < nsec text.length
   ·rw [HON.out k hns]
    unfold ldV
    obtain ⟨N, hN⟩ : ∃ N, f * 8 + k = N := ⟨_, rfl⟩
    have hNN := hNN.out
    rw [hN] at hNN ⊢
    have HN := Lib.hid hNN
    clear hNN hN
    have hcl := chunk_len text k
    have hcx := chunk_next text a (k - a)
    rw [show a + (k - a) = k by omega, show k - a + 1 = k + 1 - a by omega] at hcx
    generalize hcc : chunk text k = cx at hcl hcx ⊢
    have HCX := Lib.hid hcx
    clear hcx hcc
    go_wp2_with fail
    refine HN.out.mono ?_
    rintro e' w3 ⟨rfl, hk3⟩
    have HK3 := Lib.hid (HK2.out.trans hk3)
    have HO3 := Lib.hid (show OwnB w3 (w.heap.size + 1) u ((text.drop (53 * a)).take (53 * (k - a))) from hk3.own HO2.out fun _ _ => trivial)
    have HB3 := Lib.hid (HB2.out.keep hk3 trivial)
    have HZ3 := Lib.hid (Nat.lt_of_lt_of_le HZ2.out hk3.size)
    have hle3 : w.heap.size + 1 ≤ w3.heap.size := HZ3.out
    have hl3 : ((text.drop (53 * a)).take (53 * (k - a))).length ≤ 424 := by rw [List.length_take, List.length_drop]; omega
    have hts := txt_size cx
    have hcx53 : cx.length ≤ 53 := by omega
    clear hk3 HN HK2 HO2 HB2 HZ2 c0 c1 c2
    go_wp2_with (at_builtin; refine byte_elem.list_append rfl (.tmp 36) (.tmp 37) _ rfl rfl HO3.out rfl (Src.ofString _ Tryz.underlying9 (txt cx)) ?c3 ?c4 ?c5 ?_)
    case c3 => unfold maxLen; omega
    case c4 => omega
    case c5 => omega
    intro v4 w4 ho4 hg4 hb4
    have hown3 := HO3.out
    have hk4 : Kp w w4 := HK3.out.grown hg4 fun b hb => by have := (hown3.lt b hb).1; omega
    have HB4 := Lib.hid (HB3.out.keep (Keeps.of_grown (F := fun b => u.ownBlock ≠ some b) hg4 fun b hb _ hn => hn hb) (fun e => by have := (hown3.lt _ e).1; omega))
    have ho4' : OwnB w4 (w.heap.size + 1) v4 ((text.drop (53 * a)).take (53 * (k + 1 - a))) := by
     rw [HCX.out]
     refine OwnB.snoc ho4 ?_ (by rw [bcells_str]; rfl)
     rw [List.length_append, List.length_take, List.length_drop, hcl]
    have HO4 := Lib.hid ho4'
    have HK4 := Lib.hid hk4
    have HZ4 := Lib.hid (Nat.lt_of_lt_of_le HZ3.out hg4.size)
    clear ho4 hg4 hb4 hown3 hk4 ho4' HO3 HK3 HB3 hl3 hle3
    have hcs : (decide (((txt cx).size : Int) < 53) = true ∧ cx.length < 53) ∨ decide (((txt cx).size : Int) < 53) = false := by
     by_cases h : cx.length < 53
     ·left; exact ⟨by rw [hts]; simp; omega, h⟩
     ·right; rw [hts]; simp; omega
    clear hts
    rcases hcs with ⟨t0, hb⟩ | t0
    ·have HFIN := Lib.hid (show OwnB w4 w.heap.size v4 ((text.drop (53 * a)).take (53 * (e - a))) from by
      rw [← take_all text a (k + 1 - a) (e - a) (by omega) (by omega)]
      exact ownsRow_le HO4.out (by omega))
     go_wp2_with fail
     go_ret
     exact ⟨_, rfl, HFIN.out, HK4.out⟩
    ·go_wp2_with fail
     go_roundw
     case rel => exact ⟨k + 1, _, by omega, by omega, by go_num, rfl, HO4.out, HK4.out, HB4.out, HZ4.out⟩
     case measure => simp [intOf]; omega
   ·have hnb := nsec_big (Nat.le_of_not_lt hns)
    have HFIN := Lib.hid (show ∀ w3, Kp w2 w3 → OwnB w3 w.heap.size u ((text.drop (53 * a)).take (53 * (e - a))) from fun w3 hk3 => by
     rw [← take_all text a (k - a) (e - a) (by omega) (by omega)]
     exact hk3.own (ownsRow_le HO2.out (by omega)) fun _ _ => trivial)
    obtain ⟨r, hr⟩ : ∃ r, secAt s.now i sl k = r := ⟨_, rfl⟩
    have hm := fun m x h => HRS.out k (Nat.le_of_not_lt hns) (by omega) m x (hr.trans h)
    rw [hr]
    clear hr
    rcases r with _ | ⟨m, x⟩
    ·unfold ldV
     clear hm
     go_wp2_with fail
     go_ret
     exact ⟨_, rfl, HFIN.out _ (Keeps.refl _ _), HK2.out⟩
    ·have hm2 := hm m x rfl
     unfold ldV
     obtain ⟨N, hN⟩ : ∃ N, f * 8 + k = N := ⟨_, rfl⟩
     have hNN := hNN.out
     rw [hN] at hNN
     have HN := Lib.hid hNN
     have hne : (((m : Nat) : Int) != (N : Int)) = true := by simp; omega
     clear hNN hN hm hm2
     go_wp2_with fail
     refine HN.out.mono ?_
     rintro e' w3 ⟨rfl, hk3⟩
     have HK3 := Lib.hid hk3
     clear hk3
     go_wp2_with fail
     go_ret
     exact ⟨_, rfl, HFIN.out _ HK3.out, HK2.out.trans HK3.out⟩
  ·obtain rfl : k = e := by omega
   have HFIN := Lib.hid (show OwnB wr w.heap.size u ((text.drop (53 * a)).take (53 * (k - a))) from ownsRow_le ho (by omega))
   have HK := Lib.hid hkp
   clear ho hkp hbx
   go_wp2_with fail
   go_ret
   exact ⟨_, rfl, HFIN.out, HK.out⟩
def endsT (rs : List LRec) (k : Nat) : List Value := (endsC rs).take k
theorem endsT_next (rs : List LRec) (k : Nat) (h : k < rs.length) : endsT rs (k + 1) = endsT rs k ++ [.int .i64 (endAt rs (k + 1) : Int)] := by
 unfold endsT
 rw [take_next _ _ (by rw [endsC_len]; exact h)]
 congr 1
 have := endsC_at rs k h
 rw [List.getElem?_eq_getElem (by rw [endsC_len]; exact h)] at this
 injection this with this
 rw [this]
theorem endsT_all (rs : List LRec) : endsT rs rs.length = endsC rs := by
 unfold endsT; rw [List.take_of_length_le (by rw [endsC_len]; exact Nat.le_refl _)]
theorem getT_nil : getT [] = ([], 0, 2) := by
 have h : getZ [] = (0, 0, 2) := by unfold getZ vget; rfl
 exact getT_err h (by decide)
theorem getT_rec (rs : List LRec) (i : Nat) (h : i < rs.length) (hb : rs[i].body.length ≤ 300) : getT ((strm rs).drop (endAt rs i)) = (rs[i].body, endAt rs (i + 1) - endAt rs i, 0) := by
 rw [strm_at rs i h, getT_put _ _ (by omega), endAt_next rs i h, Nat.add_sub_cancel_left]
set_option maxRecDepth 100000 in
set_option maxHeartbeats 2000000 in
theorem parse_seg (w : World) (sl f : Nat) (g o c : Nat) (G : Nat → Prop) (rs : List LRec) (hr : Row w (some ⟨g, o, none⟩) G (bcells (strm rs))) (hlc : (strm rs).length ≤ c) (hcm : c ≤ maxLen) (hlen : (strm rs).length ≤ 424) (hone : ∀ r ∈ rs, 1 ≤ r.body.length ∧ r.body.length ≤ 300) :
  Calls Tryz.prog 200 #[.int .i64 (sl : Int), .int .i64 (f : Int), .slice (some ⟨g, o, none⟩) (strm rs).length c] w fun e w' => ∃ E, e = .returned (.agg #[.int .i64 (sl : Int), .int .i64 (f : Int), E]) ∧ w'.ownsRow w.heap.size 3 1 E rs.length (endsC rs) ∧ Kp w w' := by
 have hcm' := hcm
 unfold maxLen at hcm'
 have hcnt := strm_count rs fun r h => (hone r h).1
 have HR := Lib.hid hr
 have HONE := Lib.hid hone
 have hk0 : Kp w ((w.alloc (.cells #[.int .i64 0, .int .i64 0, .slice none 0 0] 179)).alloc (.cells #[.int .i64 (sl : Int), .int .i64 (f : Int), .slice none 0 0] 179)) := ((Keeps.refl _ w).alloc _).alloc _
 have hb6 : ((w.alloc (.cells #[.int .i64 0, .int .i64 0, .slice none 0 0] 179)).alloc (.cells #[.int .i64 (sl : Int), .int .i64 (f : Int), .slice none 0 0] 179)).heap[w.heap.size]? = some (.cells #[.int .i64 0, .int .i64 0, .slice none 0 0] 179 (0, 0)) :=
  (Below.heap_alloc _ _ _ (by simp)).trans (heap_alloc_new w _)
 have hb7 : ((w.alloc (.cells #[.int .i64 0, .int .i64 0, .slice none 0 0] 179)).alloc (.cells #[.int .i64 (sl : Int), .int .i64 (f : Int), .slice none 0 0] 179)).heap[w.heap.size + 1]? = some (.cells #[.int .i64 (sl : Int), .int .i64 (f : Int), .slice none 0 0] 179 (0, 0)) := by
  have h := heap_alloc_new (w.alloc (.cells #[.int .i64 0, .int .i64 0, .slice none 0 0] 179)) (.cells #[.int .i64 (sl : Int), .int .i64 (f : Int), .slice none 0 0] 179)
  rwa [World.size_alloc] at h
 have hz0 : ((w.alloc (.cells #[.int .i64 0, .int .i64 0, .slice none 0 0] 179)).alloc (.cells #[.int .i64 (sl : Int), .int .i64 (f : Int), .slice none 0 0] 179)).heap.size = w.heap.size + 2 := by simp
 have HK0 := Lib.hid hk0
 have HB6 := Lib.hid hb6
 have HB7 := Lib.hid hb7
 have HZ0 := Lib.hid hz0
 clear hr hone hk0 hb6 hb7 hz0
 obtain ⟨N, hN⟩ : ∃ N, (strm rs).length = N := ⟨_, rfl⟩
 have HN := Lib.hid hN
 rw [hN] at hlc hlen hcnt ⊢
 clear hN
 go_enter Tryz.func200, Tryz.ntmps200
 go_wp2_with fail
 go_loopw [8] (fun va wr => ∃ (k : Nat) (E : Value) (fr : Nat × Nat), k ≤ rs.length ∧ va = .int .i64 (endAt rs k : Int) ∧ wr.ownsRow (w.heap.size + 2) 3 1 E k (endsT rs k) ∧ wr.heap[w.heap.size + 1]? = some (.cells #[.int .i64 (sl : Int), .int .i64 (f : Int), E] 179 (0, 0)) ∧ wr.heap[w.heap.size]? = some (.cells #[.int .i64 0, .int .i64 0, .slice none 0 0] 179 (0, 0)) ∧ Kp w wr ∧ w.heap.size + 2 ≤ wr.heap.size) (fun va _ => N + 1 - (intOf va).toNat)
 case atStart =>
  refine ⟨0, .slice none 0 0, (0, 0), Nat.zero_le _, by rw [endAt_zero]; rfl, ?_, HB7.out, HB6.out, HK0.out, by rw [HZ0.out]; exact Nat.le_refl _⟩
  exact World.ownsRow_nil _ _ _ _
 case round =>
  obtain ⟨k, E, fr, hk, rfl, ho, hb7, hb6, hkp, hzr⟩ := hrel
  have hrow := HR.out.keep (hkp.mono fun _ _ _ => trivial)
  have hez := endAt_le rs k
  rw [HN.out] at hez
  by_cases hlt : k < rs.length
  ·have hez1 := endAt_lt rs k hlt
   have hez2 := endAt_le rs (k + 1)
   rw [HN.out] at hez2
   have hob := HONE.out _ (List.getElem_mem hlt)
   have hgt := get_text (some ⟨g, o + endAt rs k, none⟩) (c - endAt rs k) _ ((strm rs).drop (endAt rs k)) wr (cut_end (n := N) (k := endAt rs k) (c := c) hrow HN.out (by omega) (.inr ⟨by omega, hlc⟩)) (by rw [List.length_drop, HN.out]; omega) (by rw [List.length_drop, HN.out]; omega) (by omega)
   rw [getT_rec rs k hlt hob.2, List.length_drop, HN.out] at hgt
   simp only at hgt
   have hnx := endsT_next rs k hlt
   generalize hz : endAt rs k = z at hgt hez hez1 ⊢
   generalize hz1 : endAt rs (k + 1) = z1 at hgt hnx hez1 hez2
   obtain ⟨d, rfl⟩ : ∃ d, z1 = z + d := ⟨z1 - z, by omega⟩
   rw [Nat.add_sub_cancel_left] at hgt
   have HZ1 := Lib.hid hz1
   generalize rs[k].body = y at hgt hob
   have hne : ¬ c = z := by omega
   have hle : z ≤ N := by omega
   have hle2 : z ≤ c := by omega
   have HGT := Lib.hid hgt
   have HNX := Lib.hid hnx
   have HO := Lib.hid ho
   have HB7r := Lib.hid hb7
   have HB6r := Lib.hid hb6
   have HKr := Lib.hid hkp
   have hfit := Lib.hid (fits_any wr y.length (by unfold maxLen; omega))
   have hfd : decide (1 ≤ y.length ∧ y.length ≤ 300) = true := by simp; omega
   have hty := txt_size y
   have c2 := (cell_of_block hb7 2).trans rfl
   have hsz1 : w.heap.size + 2 ≤ (wr.alloc (.cells #[.int .i64 ((z : Int) + (d : Int))] 3)).heap.size := by simp; omega
   clear hgt hnx ho hb7 hb6 hkp hz hz1 hrow
   go_wp2_with fail
   refine HGT.out.mono ?_
   rintro e' w' ⟨rfl, rfl⟩
   rw [show ((0 : Nat) : Int) = 0 from rfl]
   go_wp2_with fail
   rw [hty] at *
   refine hfit.out.mono ?_
   rintro e' w' ⟨rfl, rfl⟩
   rw [hfd]
   go_wp2_with (at_builtin; refine int_elem.list_append rfl (.tmp 36) (.tmp 38) _ rfl rfl (HO.out.alloc _) rfl (src_one Tryz.underlying66 _ _ _ rfl _ rfl _) ?c3 ?c4 hsz1 ?_)
   case c3 => unfold maxLen; omega
   case c4 => omega
   intro v3 w3 ho3 hg3 hb3
   have hownE := HO.out
   have hg3' := grown_of_alloc hg3
   have hk3 : Kp w w3 := HKr.out.grown hg3' fun b hb => by have := (hownE.lt b hb).1; omega
   have hkE : Keeps (fun b => E.ownBlock ≠ some b) wr w3 := Keeps.of_grown hg3' fun b hb _ hn => hn hb
   have hb73 := (hkE.block _ (fun e => by have := (hownE.lt _ e).1; omega) (by omega)).trans HB7r.out
   have hb63 := (hkE.block _ (fun e => by have := (hownE.lt _ e).1; omega) (by omega)).trans HB6r.out
   have ho3' : w3.ownsRow (w.heap.size + 2) 3 1 v3 (k + 1) (endsT rs (k + 1)) := by
    rw [HNX.out]
    have e : (((z + d : Nat)) : Int) = (z : Int) + (d : Int) := by omega
    rw [e]
    exact ho3
   have c23 : w3.cell? ⟨w.heap.size + 1, 2, none⟩ = some E := (cell_of_block hb73 2).trans rfl
   have f23 := unfrozen_of_block hb73 2
   have hb74 := block_setCell hb73 (i := 2) v3
   have hb64 : (w3.setCell ⟨w.heap.size + 1, 2, none⟩ v3).heap[w.heap.size]? = _ := (Below.heap_setCell w3 ⟨w.heap.size + 1, 2, none⟩ v3 w.heap.size (by show w.heap.size ≠ w.heap.size + 1; omega)).trans hb63
   have hk4 : Kp w (w3.setCell ⟨w.heap.size + 1, 2, none⟩ v3) := hk3.setCell (.inl (by show w.heap.size ≤ w.heap.size + 1; omega)) _
   have hk34 : Keeps (fun b => b ≠ w.heap.size + 1) w3 (w3.setCell ⟨w.heap.size + 1, 2, none⟩ v3) := (Keeps.refl _ w3).setCell (.inr fun hn => hn rfl) _
   have HO4 := Lib.hid (hk34.own ho3' fun b hb => by have := (ho3'.lt b hb).1; omega)
   have HB74 := Lib.hid hb74
   have HB64 := Lib.hid hb64
   have HK4 := Lib.hid hk4
   have HS4 := Lib.hid (show w.heap.size + 2 ≤ (w3.setCell ⟨w.heap.size + 1, 2, none⟩ v3).heap.size from Nat.le_trans hzr (Nat.le_trans hkE.size hk34.size))
   have HC := Lib.hid (show v3.oneCell' = true from by
    obtain ⟨A3, c3, e3, -, -⟩ := own_slice ho3'
    rw [e3]; rfl)
   obtain ⟨A3, c3, rfl, -, -⟩ := own_slice ho3'
   clear ho3 hg3 hb3 hownE hg3' hk3 hkE hb73 hb63 ho3' hb74 hb64 hk4 hk34 c2 HO HB7r HB6r HKr
   go_wp2_with fail
   go_roundw
   case rel =>
    refine ⟨k + 1, _, (0, 0), by omega, ?_, HO4.out, HB74.out, HB64.out, HK4.out, HS4.out⟩
    rw [HZ1.out]; go_num
   case measure => simp [intOf]; omega
  ·obtain rfl : k = rs.length := by omega
   have hend : (strm rs).drop (endAt rs rs.length) = [] := by rw [endAt_len]; exact List.drop_eq_nil_of_le (Nat.le_refl _)
   have hz : endAt rs rs.length = N := by rw [endAt_len]; exact HN.out
   rw [endsT_all] at ho
   rw [hz]
   have HGT := Lib.hid (fun (A : Option Addr) (cc : Nat) (h0 : cc ≤ maxLen) => (show Calls Tryz.prog 126 #[.slice A 0 cc] wr fun e w' => e = .returned (.tuple #[.string (txt []), .int .i64 0, .int .i64 2]) ∧ wr = w' from by
    have h := get_text A cc (fun _ => True) [] wr (Row.nil _ _ _) (by simp) (by simp) h0
    rw [getT_nil] at h
    exact h))
   have hcs : c = N ∨ (¬ c = N ∧ ¬ c ≤ N) := by omega
   have hle : N ≤ c := hlc
   have c70 := (cell_of_block hb7 0).trans rfl
   have c71 := (cell_of_block hb7 1).trans rfl
   have c72 := (cell_of_block hb7 2).trans rfl
   have c60 := (cell_of_block hb6 0).trans rfl
   have c61 := (cell_of_block hb6 1).trans rfl
   have c62 := (cell_of_block hb6 2).trans rfl
   have f60 := unfrozen_of_block hb6 0
   have f61 := unfrozen_of_block hb6 1
   have f62 := unfrozen_of_block hb6 2
   have HFIN := Lib.hid (show ∀ v0 v1 v2, (((wr.setCell ⟨w.heap.size, 0, none⟩ v0).setCell ⟨w.heap.size, 1, none⟩ v1).setCell ⟨w.heap.size, 2, none⟩ v2).ownsRow w.heap.size 3 1 E rs.length (endsC rs) ∧ Kp w (((wr.setCell ⟨w.heap.size, 0, none⟩ v0).setCell ⟨w.heap.size, 1, none⟩ v1).setCell ⟨w.heap.size, 2, none⟩ v2) from fun v0 v1 v2 => by
    have hk : Keeps (fun b => b ≠ w.heap.size) wr (((wr.setCell ⟨w.heap.size, 0, none⟩ v0).setCell ⟨w.heap.size, 1, none⟩ v1).setCell ⟨w.heap.size, 2, none⟩ v2) := (((Keeps.refl _ wr).setCell (.inr fun hn => hn rfl) _).setCell (.inr fun hn => hn rfl) _).setCell (.inr fun hn => hn rfl) _
    refine ⟨ownsRow_le (hk.own ho fun b hb => by have := (ho.lt b hb).1; omega) (by omega), ((hkp.setCell (.inl (Nat.le_refl _)) _).setCell (.inl (Nat.le_refl _)) _).setCell (.inl (Nat.le_refl _)) _⟩)
   have HCELL := Lib.hid (show ∀ v0 v1 v2, (((wr.setCell ⟨w.heap.size, 0, none⟩ v0).setCell ⟨w.heap.size, 1, none⟩ v1).setCell ⟨w.heap.size, 2, none⟩ v2).cell? ⟨w.heap.size, 0, none⟩ = some v0 ∧ (((wr.setCell ⟨w.heap.size, 0, none⟩ v0).setCell ⟨w.heap.size, 1, none⟩ v1).setCell ⟨w.heap.size, 2, none⟩ v2).cell? ⟨w.heap.size, 1, none⟩ = some v1 ∧ (((wr.setCell ⟨w.heap.size, 0, none⟩ v0).setCell ⟨w.heap.size, 1, none⟩ v1).setCell ⟨w.heap.size, 2, none⟩ v2).cell? ⟨w.heap.size, 2, none⟩ = some v2 from fun v0 v1 v2 => by
    have h1 := block_setCell (block_setCell (block_setCell hb6 (i := 0) v0) (i := 1) v1) (i := 2) v2
    exact ⟨(cell_of_block h1 0).trans rfl, (cell_of_block h1 1).trans rfl, (cell_of_block h1 2).trans rfl⟩)
   obtain ⟨AE, cE, rfl, -, -⟩ := own_slice ho
   clear ho hb7 hb6 hkp hrow hend
   rcases hcs with rfl | ⟨hc1, hc2⟩
   ·go_wp2_with fail
    refine (HGT.out _ _ ?hc).mono ?_
    case hc => omega
    rintro e' w' ⟨rfl, rfl⟩
    go_wp2_with fail
    exact bodyPost_ret (v := .agg #[.int .i64 (sl : Int), .int .i64 (f : Int), .slice AE rs.length cE]) (by simp [results, Tryz.results200, go_sem, HCELL.out]) rfl ⟨_, rfl, (HFIN.out _ _ _).1, (HFIN.out _ _ _).2⟩
   ·go_wp2_with fail
    refine (HGT.out _ _ ?hc).mono ?_
    case hc => omega
    rintro e' w' ⟨rfl, rfl⟩
    go_wp2_with fail
    exact bodyPost_ret (v := .agg #[.int .i64 (sl : Int), .int .i64 (f : Int), .slice AE rs.length cE]) (by simp [results, Tryz.results200, go_sem, HCELL.out]) rfl ⟨_, rfl, (HFIN.out _ _ _).1, (HFIN.out _ _ _).2⟩
end Go.Proofs.YticophaepapjoaaGreatDoor
