/- Texts of one proof, behind one another: each says above its part what it proves and on which conditions. -/
import Derived.Test.YtpijdefadmfahaaGreatDoorAllInvs
import Derived.Lib.SmallJoins
import Derived.Lib.Hide
import Derived.Test.YtpijdefadmfahaaGreatDoorProg
import Derived.WalkKit
import Derived.Test.YtpijdefadmfahaaGreatDoorAllCalc
import Derived.Test.YtpijdefadmfahaaGreatDoorAllMade
import Derived.Test.YtpijdefadmfahaaGreatDoorAllNums
import Derived.Test.YtpijdefadmfahaaGreatDoorAllBase
import Derived.Outline
/-
  SINGLE OPERATIONS of a drawn region on a log and on a segment (slog.Log, slog.segment).
-/
section
namespace Go.Proofs.YtpijdefadmfahaaGreatDoor
open Go Go.RowKit Go.Joins
section
variable {o : Oper} {a : Act} {w : World} {Q : Exit → Act → World → Prop} {x y : Operand}
theorem kp_fL0 {b : Nat} (ho : o.op = .fieldAddr 76 x 0) (hx : a.eval x = .pointer (some ⟨b, 0, none⟩)) : o.wp Tryz.prog a w (fun a' w' => ∃ v, a' = a.put o.dst v ∧ Kp w w' ∧ IsV (.pointer (some ⟨b, 0, none⟩)) w' v) Q := by
  refine kp_yield (v := .pointer (some ⟨b, 0, none⟩)) (w' := w) ?_ (Keeps.refl _ _) rfl
  generalize a.eval = ρ at hx ⊢
  unfold execOp
  rw [ho]
  go_simp
theorem kp_fL1 {b : Nat} (ho : o.op = .fieldAddr 76 x 1) (hx : a.eval x = .pointer (some ⟨b, 0, none⟩)) : o.wp Tryz.prog a w (fun a' w' => ∃ v, a' = a.put o.dst v ∧ Kp w w' ∧ IsV (.pointer (some ⟨b, 1, none⟩)) w' v) Q := by
  refine kp_yield (v := .pointer (some ⟨b, 1, none⟩)) (w' := w) ?_ (Keeps.refl _ _) rfl
  generalize a.eval = ρ at hx ⊢
  unfold execOp
  rw [ho]
  go_simp
theorem kp_fL2 {b : Nat} (ho : o.op = .fieldAddr 76 x 2) (hx : a.eval x = .pointer (some ⟨b, 0, none⟩)) : o.wp Tryz.prog a w (fun a' w' => ∃ v, a' = a.put o.dst v ∧ Kp w w' ∧ IsV (.pointer (some ⟨b, 2, none⟩)) w' v) Q := by
  refine kp_yield (v := .pointer (some ⟨b, 2, none⟩)) (w' := w) ?_ (Keeps.refl _ _) rfl
  generalize a.eval = ρ at hx ⊢
  unfold execOp
  rw [ho]
  go_simp
theorem kp_fL3 {b : Nat} (ho : o.op = .fieldAddr 76 x 3) (hx : a.eval x = .pointer (some ⟨b, 0, none⟩)) : o.wp Tryz.prog a w (fun a' w' => ∃ v, a' = a.put o.dst v ∧ Kp w w' ∧ IsV (.pointer (some ⟨b, 3, none⟩)) w' v) Q := by
  refine kp_yield (v := .pointer (some ⟨b, 3, none⟩)) (w' := w) ?_ (Keeps.refl _ _) rfl
  generalize a.eval = ρ at hx ⊢
  unfold execOp
  rw [ho]
  go_simp
theorem kp_fL4 {b : Nat} (ho : o.op = .fieldAddr 76 x 4) (hx : a.eval x = .pointer (some ⟨b, 0, none⟩)) : o.wp Tryz.prog a w (fun a' w' => ∃ v, a' = a.put o.dst v ∧ Kp w w' ∧ IsV (.pointer (some ⟨b, 4, none⟩)) w' v) Q := by
  refine kp_yield (v := .pointer (some ⟨b, 4, none⟩)) (w' := w) ?_ (Keeps.refl _ _) rfl
  generalize a.eval = ρ at hx ⊢
  unfold execOp
  rw [ho]
  go_simp
theorem kp_fL5 {b : Nat} (ho : o.op = .fieldAddr 76 x 5) (hx : a.eval x = .pointer (some ⟨b, 0, none⟩)) : o.wp Tryz.prog a w (fun a' w' => ∃ v, a' = a.put o.dst v ∧ Kp w w' ∧ IsV (.pointer (some ⟨b, 5, none⟩)) w' v) Q := by
  refine kp_yield (v := .pointer (some ⟨b, 5, none⟩)) (w' := w) ?_ (Keeps.refl _ _) rfl
  generalize a.eval = ρ at hx ⊢
  unfold execOp
  rw [ho]
  go_simp
theorem kp_fL6 {b : Nat} (ho : o.op = .fieldAddr 76 x 6) (hx : a.eval x = .pointer (some ⟨b, 0, none⟩)) : o.wp Tryz.prog a w (fun a' w' => ∃ v, a' = a.put o.dst v ∧ Kp w w' ∧ IsV (.pointer (some ⟨b, 6, none⟩)) w' v) Q := by
  refine kp_yield (v := .pointer (some ⟨b, 6, none⟩)) (w' := w) ?_ (Keeps.refl _ _) rfl
  generalize a.eval = ρ at hx ⊢
  unfold execOp
  rw [ho]
  go_simp
theorem kp_fL7 {b : Nat} (ho : o.op = .fieldAddr 76 x 7) (hx : a.eval x = .pointer (some ⟨b, 0, none⟩)) : o.wp Tryz.prog a w (fun a' w' => ∃ v, a' = a.put o.dst v ∧ Kp w w' ∧ IsV (.pointer (some ⟨b, 7, none⟩)) w' v) Q := by
  refine kp_yield (v := .pointer (some ⟨b, 7, none⟩)) (w' := w) ?_ (Keeps.refl _ _) rfl
  generalize a.eval = ρ at hx ⊢
  unfold execOp
  rw [ho]
  go_simp
theorem kp_fG0 {b : Nat} (ho : o.op = .fieldAddr 78 x 0) (hx : a.eval x = .pointer (some ⟨b, 0, none⟩)) : o.wp Tryz.prog a w (fun a' w' => ∃ v, a' = a.put o.dst v ∧ Kp w w' ∧ IsV (.pointer (some ⟨b, 0, none⟩)) w' v) Q := by
  refine kp_yield (v := .pointer (some ⟨b, 0, none⟩)) (w' := w) ?_ (Keeps.refl _ _) rfl
  generalize a.eval = ρ at hx ⊢
  unfold execOp
  rw [ho]
  go_simp
theorem kp_fG1 {b : Nat} (ho : o.op = .fieldAddr 78 x 1) (hx : a.eval x = .pointer (some ⟨b, 0, none⟩)) : o.wp Tryz.prog a w (fun a' w' => ∃ v, a' = a.put o.dst v ∧ Kp w w' ∧ IsV (.pointer (some ⟨b, 1, none⟩)) w' v) Q := by
  refine kp_yield (v := .pointer (some ⟨b, 1, none⟩)) (w' := w) ?_ (Keeps.refl _ _) rfl
  generalize a.eval = ρ at hx ⊢
  unfold execOp
  rw [ho]
  go_simp
theorem kp_fG2 {b : Nat} (ho : o.op = .fieldAddr 78 x 2) (hx : a.eval x = .pointer (some ⟨b, 0, none⟩)) : o.wp Tryz.prog a w (fun a' w' => ∃ v, a' = a.put o.dst v ∧ Kp w w' ∧ IsV (.pointer (some ⟨b, 2, none⟩)) w' v) Q := by
  refine kp_yield (v := .pointer (some ⟨b, 2, none⟩)) (w' := w) ?_ (Keeps.refl _ _) rfl
  generalize a.eval = ρ at hx ⊢
  unfold execOp
  rw [ho]
  go_simp
theorem kp_nilL {p : Addr} (ho : o.op = .nilCheck x) (hx : a.eval x = .pointer (some p)) : o.wp Tryz.prog a w (fun a' w' => ∃ v, a' = a.put o.dst v ∧ Kp w w' ∧ IsV (.pointer (some p)) w' v) Q := by
  refine kp_yield (v := .pointer (some p)) (w' := w) ?_ (Keeps.refl _ _) rfl
  generalize a.eval = ρ at hx ⊢
  unfold execOp
  rw [ho]
  go_simp
theorem kp_lDev {p : Addr} {u : Addr} (hc : w.cell? p = some (.pointer (some u))) (ho : o.op = .load 23 x) (hx : a.eval x = .pointer (some p)) : o.wp Tryz.prog a w (fun a' w' => ∃ v, a' = a.put o.dst v ∧ Kp w w' ∧ IsV (.pointer (some u)) w' v) Q := by
  refine kp_yield (v := .pointer (some u)) (w' := w) ?_ (Keeps.refl _ _) rfl
  generalize a.eval = ρ at hx ⊢
  unfold execOp
  rw [ho]
  go_simp
theorem kp_lInt {p : Addr} {n : Int} (hc : w.cell? p = some (.int .i64 n)) (ho : o.op = .load 3 x) (hx : a.eval x = .pointer (some p)) : o.wp Tryz.prog a w (fun a' w' => ∃ v, a' = a.put o.dst v ∧ Kp w w' ∧ IsV (.int .i64 n) w' v) Q := by
  refine kp_yield (v := .int .i64 n) (w' := w) ?_ (Keeps.refl _ _) rfl
  generalize a.eval = ρ at hx ⊢
  unfold execOp
  rw [ho]
  go_simp
theorem kp_lI64 {p : Addr} {n : Int} (hc : w.cell? p = some (.int .i64 n)) (ho : o.op = .load 2 x) (hx : a.eval x = .pointer (some p)) : o.wp Tryz.prog a w (fun a' w' => ∃ v, a' = a.put o.dst v ∧ Kp w w' ∧ IsV (.int .i64 n) w' v) Q := by
  refine kp_yield (v := .int .i64 n) (w' := w) ?_ (Keeps.refl _ _) rfl
  generalize a.eval = ρ at hx ⊢
  unfold execOp
  rw [ho]
  go_simp
theorem kp_lB {p : Addr} {A : Option Addr} {n c : Nat} (hc : w.cell? p = some (.slice A n c)) (ho : o.op = .load 30 x) (hx : a.eval x = .pointer (some p)) : o.wp Tryz.prog a w (fun a' w' => ∃ v, a' = a.put o.dst v ∧ Kp w w' ∧ IsV (.slice A n c) w' v) Q := by
  refine kp_yield (v := .slice A n c) (w' := w) ?_ (Keeps.refl _ _) rfl
  generalize a.eval = ρ at hx ⊢
  unfold execOp
  rw [ho]
  go_simp
theorem kp_lI {p : Addr} {A : Option Addr} {n c : Nat} (hc : w.cell? p = some (.slice A n c)) (ho : o.op = .load 69 x) (hx : a.eval x = .pointer (some p)) : o.wp Tryz.prog a w (fun a' w' => ∃ v, a' = a.put o.dst v ∧ Kp w w' ∧ IsV (.slice A n c) w' v) Q := by
  refine kp_yield (v := .slice A n c) (w' := w) ?_ (Keeps.refl _ _) rfl
  generalize a.eval = ρ at hx ⊢
  unfold execOp
  rw [ho]
  go_simp
theorem kp_lK {p : Addr} {A : Option Addr} {n c : Nat} (hc : w.cell? p = some (.slice A n c)) (ho : o.op = .load 74 x) (hx : a.eval x = .pointer (some p)) : o.wp Tryz.prog a w (fun a' w' => ∃ v, a' = a.put o.dst v ∧ Kp w w' ∧ IsV (.slice A n c) w' v) Q := by
  refine kp_yield (v := .slice A n c) (w' := w) ?_ (Keeps.refl _ _) rfl
  generalize a.eval = ρ at hx ⊢
  unfold execOp
  rw [ho]
  go_simp
theorem kp_lPL {p : Addr} {u : Addr} (hc : w.cell? p = some (.pointer (some u))) (ho : o.op = .load 47 x) (hx : a.eval x = .pointer (some p)) : o.wp Tryz.prog a w (fun a' w' => ∃ v, a' = a.put o.dst v ∧ Kp w w' ∧ IsV (.pointer (some u)) w' v) Q := by
  refine kp_yield (v := .pointer (some u)) (w' := w) ?_ (Keeps.refl _ _) rfl
  generalize a.eval = ρ at hx ⊢
  unfold execOp
  rw [ho]
  go_simp
theorem kp_lPG {p : Addr} {u : Addr} (hc : w.cell? p = some (.pointer (some u))) (ho : o.op = .load 127 x) (hx : a.eval x = .pointer (some p)) : o.wp Tryz.prog a w (fun a' w' => ∃ v, a' = a.put o.dst v ∧ Kp w w' ∧ IsV (.pointer (some u)) w' v) Q := by
  refine kp_yield (v := .pointer (some u)) (w' := w) ?_ (Keeps.refl _ _) rfl
  generalize a.eval = ρ at hx ⊢
  unfold execOp
  rw [ho]
  go_simp
theorem kp_lG {b j : Nat} {v0 v1 v2 : Value} (h0 : w.cell? ⟨b, j, none⟩ = some v0) (h1 : w.cell? ⟨b, j + 1, none⟩ = some v1) (h2 : w.cell? ⟨b, j + 2, none⟩ = some v2) (ho : o.op = .load 78 x) (hx : a.eval x = .pointer (some ⟨b, j, none⟩)) : o.wp Tryz.prog a w (fun a' w' => ∃ v, a' = a.put o.dst v ∧ Kp w w' ∧ IsV (.agg #[v0, v1, v2]) w' v) Q := by
  refine kp_yield (v := .agg #[v0, v1, v2]) (w' := w) ?_ (Keeps.refl _ _) rfl
  have e1 : (⟨b, j, none⟩ : Addr).add 1 = ⟨b, j + 1, none⟩ := rfl
  generalize a.eval = ρ at hx ⊢
  unfold execOp
  rw [ho]
  go_simp
theorem one_call {P : Program} {X : World → Value → Prop} {f : FuncId} {args : Array Value} {C : Ending → World → Prop} (e : (execOp a.eval o).run P w = .ok (.enter f args) w) (hc : Calls P f args w C)
    (hC : ∀ e w', C e w' → ∃ v, e = .returned v ∧ X w' v) : o.wp P a w (fun a' w' => ∃ v, a' = a.put o.dst v ∧ X w' v) Q := by
  unfold Oper.wp
  rw [e]
  refine hc.mono fun e w' h => ?_
  obtain ⟨v, rfl, hv⟩ := hC e w' h
  exact ⟨v, rfl, hv⟩
end
end Go.Proofs.YtpijdefadmfahaaGreatDoor
end
/-
  THE PROGRAM's LOG: its small functions: down, there, fits, place, behind; a segment's count, start, end, next, number.
-/
section
namespace Go.Proofs.YtpijdefadmfahaaGreatDoor
open Go Go.RowKit Go.Joins
structure LHead (w : World) (q p i n : Nat) : Prop where
  d : w.cell? ⟨q, 0, none⟩ = some (.pointer (some ⟨p, 0, none⟩))
  i : w.cell? ⟨q, 1, none⟩ = some (.int .i64 (i : Int))
  n : w.cell? ⟨q, 2, none⟩ = some (.int .i64 (n : Int))
theorem LHead.keep {w w' : World} {q p i n : Nat} {F : Nat → Prop} (h : LHead w q p i n) (hk : Keeps F w w') (hF : F q) : LHead w' q p i n := ⟨hk.cell h.d hF, hk.cell h.i hF, hk.cell h.n hF⟩
theorem down_no (w : World) (q p i n : Nat) (h : LHead w q p i n) : Calls Tryz.prog 32 #[.pointer (some ⟨q, 0, none⟩)] w fun e w' => e = .returned (.bool false) ∧ w = w' := by
  have c0 := h.d
  clear h
  go_enter Tryz.func32, Tryz.ntmps32
  go_wp2
  go_ret
  exact ⟨rfl, rfl⟩
theorem down_yes (w : World) : Calls Tryz.prog 32 #[.pointer none] w fun e w' => e = .returned (.bool true) ∧ w = w' := by
  go_enter Tryz.func32, Tryz.ntmps32
  go_wp2
  go_ret
  exact ⟨rfl, rfl⟩
theorem fits_any (w : World) (n : Nat) (hn : n ≤ maxLen) : Calls Tryz.prog 53 #[.int .i64 (n : Int)] w fun e w' => e = .returned (.bool (decide (1 ≤ n ∧ n ≤ 300))) ∧ w = w' := by
  unfold maxLen at hn
  by_cases h1 : 1 ≤ n
  · have d1 : decide ((1 : Int) ≤ (n : Int)) = true := by simp; omega
    have e : decide (1 ≤ n ∧ n ≤ 300) = decide ((n : Int) ≤ 300) := by rw [Bool.eq_iff_iff]; simp; omega
    rw [e]
    clear e h1
    go_enter Tryz.func53, Tryz.ntmps53
    go_wp2
    go_ret
    exact ⟨rfl, rfl⟩
  · have d1 : decide ((1 : Int) ≤ (n : Int)) = false := by simp; omega
    have e : decide (1 ≤ n ∧ n ≤ 300) = false := by simp; omega
    rw [e]
    clear e h1
    go_enter Tryz.func53, Tryz.ntmps53
    go_wp2
    go_ret
    exact ⟨rfl, rfl⟩
theorem place_any (w : World) (q p i n : Nat) (h : LHead w q p i n) (s k : Nat) (hi : i ≤ 4096) (hs : s ≤ 4096) (hk : k ≤ 4096) : Calls Tryz.prog 66 #[.pointer (some ⟨q, 0, none⟩), .int .i64 (s : Int), .int .i64 (k : Int)] w fun e w' => e = .returned (.int .i64 ((i + s * 8 + k : Nat) : Int)) ∧ w = w' := by
  have c0 := h.i
  clear h
  have e : ((i + s * 8 + k : Nat) : Int) = (i : Int) + (s : Int) * 8 + (k : Int) := by omega
  rw [e]
  clear e
  go_enter Tryz.func66, Tryz.ntmps66
  go_wp2
  go_ret
  exact ⟨rfl, rfl⟩
theorem behind_any (w : World) (q p i n : Nat) (h : LHead w q p i n) (s : Nat) (hn : 1 ≤ n) (hn2 : n ≤ 4096) (hs : s ≤ 4096) : Calls Tryz.prog 69 #[.pointer (some ⟨q, 0, none⟩), .int .i64 (s : Int)] w fun e w' => e = .returned (.int .i64 (((s + 1) % n : Nat) : Int)) ∧ w = w' := by
  have c0 := h.n
  clear h
  have e : (((s + 1) % n : Nat) : Int) = ((s : Int) + 1).tmod (n : Int) := by
    rw [Int.tmod_eq_emod_of_nonneg (by omega)]; simp
  have hne : ¬ ((n : Int) = 0) := by omega
  have hne2 : (((n : Int)) == 0) = false := by simp; omega
  have hb : -9223372036854775808 ≤ ((s : Int) + 1).tmod (n : Int) ∧ ((s : Int) + 1).tmod (n : Int) < 9223372036854775808 := by
    rw [← e]
    have := Nat.mod_lt (s + 1) (show 0 < n by omega)
    omega
  rw [e]
  clear e
  generalize hm : ((s : Int) + 1).tmod (n : Int) = m at hb ⊢
  go_enter Tryz.func69, Tryz.ntmps69
  go_wp2
  go_ret
  exact ⟨rfl, rfl⟩
theorem sthere_yes (w : World) (p : Nat) (F : Foot) (s : SDev) (h : DAt w p F s) (i n : Nat) (h1 : 3 ≤ n) (h2 : n ≤ 200) (hi : i + 8 * n ≤ s.now.length) :
    Calls Tryz.prog 30 #[.pointer (some ⟨p, 0, none⟩), .int .i64 (i : Int), .int .i64 (n : Int)] w fun e w' => e = .returned (.bool true) ∧ w = w' := by
  have hl := Lib.hid (dlen_any w p F s h)
  have hsm := h.ok.small
  have d1 : decide ((3 : Int) ≤ (n : Int)) = true := by simp; omega
  have d2 : decide ((n : Int) ≤ 200) = true := by simp; omega
  have d3 : decide ((i : Int) ≤ (s.now.length : Int) - (n : Int) * 8) = true := by simp; omega
  have b1 : 8 * n ≤ s.now.length := by omega
  clear h hi
  go_enter Tryz.func30, Tryz.ntmps30
  go_wp2_with fail
  refine hl.out.mono ?_
  rintro e w' ⟨rfl, rfl⟩
  go_wp2_with fail
  go_ret
  exact ⟨rfl, rfl⟩
theorem sthere_no (w : World) (p : Nat) (F : Foot) (s : SDev) (h : DAt w p F s) (i n : Int) (h1 : -9223372036854775808 ≤ i) (h2 : i < 9223372036854775808) (h3 : -9223372036854775808 ≤ n) (h4 : n < 9223372036854775808) (hi : i < 0 ∨ n < 3 ∨ 200 < n ∨ (s.now.length : Int) < i + 8 * n) :
    Calls Tryz.prog 30 #[.pointer (some ⟨p, 0, none⟩), .int .i64 i, .int .i64 n] w fun e w' => e = .returned (.bool false) ∧ w = w' := by
  have hl := Lib.hid (dlen_any w p F s h)
  have hsm := h.ok.small
  have hps := h.ok.pos
  have hd : decide (3 ≤ n) = false ∨ (decide (3 ≤ n) = true ∧ decide (n ≤ 200) = false) ∨ (decide (3 ≤ n) = true ∧ decide (n ≤ 200) = true ∧ decide (0 ≤ i) = false) ∨ (decide (3 ≤ n) = true ∧ decide (n ≤ 200) = true ∧ decide (0 ≤ i) = true ∧ decide (i ≤ (s.now.length : Int) - n * 8) = false ∧ 3 ≤ n ∧ n ≤ 200) := by
    by_cases a1 : 3 ≤ n
    · right
      by_cases a2 : n ≤ 200
      · right
        by_cases a3 : 0 ≤ i
        · right; exact ⟨by simpa using a1, by simpa using a2, by simpa using a3, by simp; omega, a1, a2⟩
        · left; exact ⟨by simpa using a1, by simpa using a2, by simp; omega⟩
      · left; exact ⟨by simpa using a1, by simp; omega⟩
    · left; simp; omega
  clear h hi
  rcases hd with d1 | ⟨d1, d2⟩ | ⟨d1, d2, d3⟩ | ⟨d1, d2, d3, d4, b1, b2⟩
  · go_enter Tryz.func30, Tryz.ntmps30
    go_wp2_with fail
    go_ret
    exact ⟨rfl, rfl⟩
  · go_enter Tryz.func30, Tryz.ntmps30
    go_wp2_with fail
    go_ret
    exact ⟨rfl, rfl⟩
  · go_enter Tryz.func30, Tryz.ntmps30
    go_wp2_with fail
    go_ret
    exact ⟨rfl, rfl⟩
  · go_enter Tryz.func30, Tryz.ntmps30
    go_wp2_with fail
    refine hl.out.mono ?_
    rintro e w' ⟨rfl, rfl⟩
    go_wp2_with fail
    go_ret
    exact ⟨rfl, rfl⟩
/-! ### A segment -/
def endsC (rs : List LRec) : List Value := (List.range rs.length).map fun i => .int .i64 (endAt rs (i + 1) : Int)
theorem endsC_len (rs : List LRec) : (endsC rs).length = rs.length := by simp [endsC]
theorem endsC_at (rs : List LRec) (i : Nat) (h : i < rs.length) : (endsC rs)[i]? = some (.int .i64 (endAt rs (i + 1) : Int)) := by simp [endsC, h]
theorem endAt_snoc (rs : List LRec) (r : LRec) (i : Nat) (h : i ≤ rs.length) : endAt (rs ++ [r]) i = endAt rs i := by
  unfold endAt; rw [List.take_append_of_le_length h]
theorem endsC_snoc (rs : List LRec) (r : LRec) : endsC (rs ++ [r]) = endsC rs ++ [.int .i64 ((endAt rs rs.length + (putT r.body).length : Nat) : Int)] := by
  unfold endsC
  rw [List.length_append, List.length_singleton, List.range_succ, List.map_append, List.map_singleton]
  congr 1
  · refine List.map_congr_left fun i hi => ?_
    rw [endAt_snoc rs r (i + 1) (List.mem_range.1 hi)]
  · rw [endAt_next (rs ++ [r]) rs.length (by simp), endAt_snoc rs r _ (Nat.le_refl _), List.getElem_concat_length rfl]
theorem count_any (w : World) (u v : Value) (A : Option Addr) (n c : Nat) (_h1 : u.oneCell' = true) (_h2 : v.oneCell' = true) : Calls Tryz.prog 49 #[.agg #[u, v, .slice A n c]] w fun e w' => e = .returned (.int .i64 (n : Int)) ∧ Kp w w' := by
  go_enter Tryz.func49, Tryz.ntmps49
  go_wp2
  go_ret
  exact ⟨rfl, (Keeps.refl _ _).alloc _⟩
theorem number_any (w : World) (u : Value) (f k : Nat) (E : Value) (_h1 : u.oneCell' = true) (_h2 : E.oneCell' = true) (hf : f ≤ 274877906944) (hk : k ≤ 4096) : Calls Tryz.prog 71 #[.agg #[u, .int .i64 (f : Int), E], .int .i64 (k : Int)] w fun e w' => e = .returned (.int .i64 ((f * 8 + k : Nat) : Int)) ∧ Kp w w' := by
  have e : ((f * 8 + k : Nat) : Int) = (f : Int) * 8 + (k : Int) := by omega
  rw [e]
  clear e
  go_enter Tryz.func71, Tryz.ntmps71
  go_wp2
  go_ret
  exact ⟨rfl, (Keeps.refl _ _).alloc _⟩
theorem start_any (w : World) (u v : Value) (A : Option Addr) (c : Nat) (G : Nat → Prop) (rs : List LRec) (_h1 : u.oneCell' = true) (_h2 : v.oneCell' = true) (hr : Row w A G (endsC rs)) (hn : rs.length ≤ 4096) (i : Nat) (hi : i ≤ rs.length) :
    Calls Tryz.prog 51 #[.agg #[u, v, .slice A rs.length c], .int .i64 (i : Int)] w fun e w' => e = .returned (.int .i64 (endAt rs i : Int)) ∧ Kp w w' := by
  by_cases h0 : i = 0
  · subst h0
    rw [endAt_zero]
    clear hr
    go_enter Tryz.func51, Tryz.ntmps51
    go_wp2
    go_ret
    exact ⟨rfl, (Keeps.refl _ _).alloc _⟩
  · obtain ⟨k, rfl⟩ : ∃ k, i = k + 1 := ⟨i - 1, by omega⟩
    have hk : k < rs.length := by omega
    obtain ⟨b, o, rfl, -, hc⟩ := hr (by intro e; have := congrArg List.length e; rw [endsC_len, List.length_nil] at this; omega)
    have hce := hc k _ (endsC_at rs k hk)
    have hce2 : ∀ ob, (w.alloc ob).cell? ⟨b, o + k, none⟩ = some (.int .i64 (endAt rs (k + 1) : Int)) := fun ob => ((Keeps.refl (fun _ => True) w).alloc ob).cell hce trivial
    have d0 : ((((k : Nat) : Int) + 1) == 0) = false := by simp; omega
    have e : (((k + 1 : Nat) : Int)) = (k : Int) + 1 := by omega
    rw [e]
    have HE := Lib.hid hce2
    clear hc hi h0 e hce
    generalize (endAt rs (k + 1)) = z at hce2 HE ⊢
    go_enter Tryz.func51, Tryz.ntmps51
    go_wp2
    go_ret
    exact ⟨rfl, (Keeps.refl _ _).alloc _⟩
end Go.Proofs.YtpijdefadmfahaaGreatDoor
end
/-
  THE PROGRAM's FRAMES (package frame): bytes.Equal, sum.
-/
section
namespace Go.Proofs.YtpijdefadmfahaaGreatDoor
open Go Go.RowKit Go.Joins
theorem equal_any (A B : Option Addr) (c d n m : Nat) (F G : Nat → Prop) (l r : List UInt8) (w : World) (h1 : Row w A F (bcells l)) (h2 : Row w B G (bcells r)) (hn : n = l.length) (hm : m = r.length) (x : Bool) (hx : ((txt l).toList == (txt r).toList) = x) :
    Calls Tryz.prog 85 #[.slice A n c, .slice B m d] w fun e w' => e = .returned (.bool x) ∧ w = w' := by
  have c1 := h1.to_string (P := Tryz.prog) Tryz.underlying30 Tryz.underlying5 Tryz.underlying9 n c hn
  have c2 := h2.to_string (P := Tryz.prog) Tryz.underlying30 Tryz.underlying5 Tryz.underlying9 m d hm
  clear h1 h2 hn hm
  go_enter Tryz.func85, Tryz.ntmps85
  go_wp2
  go_ret
  exact ⟨rfl, rfl⟩
theorem sum_lit (q : UInt8) (z : Int) (hz : z = (q.toNat : Int)) (A : Option Addr) (cap : Nat) (l : List UInt8) (n : Nat) (hn : n = l.length) (F : Nat → Prop) (w : World) (h2 : Row w A F (bcells l)) (hl : l.length ≤ maxLen) (hT : Taken w) :
    Calls Tryz.prog 105 #[.slice (some ⟨w.heap.size + 1, 0, none⟩) 2 2] ((w.alloc (.cells #[.int .u8 z] 5)).alloc (.cells #[.slice (some ⟨w.heap.size, 0, none⟩) 1 1, .slice A n cap] 30)) fun e w' => e = .returned (.int .u32 ((crcN (q :: l) : Nat) : Int)) ∧ (w.alloc (.cells #[.int .u8 z] 5)).alloc (.cells #[.slice (some ⟨w.heap.size, 0, none⟩) 1 1, .slice A n cap] 30) = w' := by
  subst hn hz
  have r0 : Row (w.alloc (.cells #[.int .u8 (q.toNat : Int)] 5)) (some ⟨w.heap.size, 0, none⟩) (fun _ => True) (bcells [q]) := Row.fresh w #[.int .u8 (q.toNat : Int)] 5 (0, 0) _ rfl trivial _ rfl
  have h2' := h2.mono (G := fun _ => True) fun _ _ _ => trivial
  have h := sum_any (some ⟨w.heap.size + 1, 0, none⟩) 2 (fun _ => True) (fun _ => True) [⟨some ⟨w.heap.size, 0, none⟩, 1, [q]⟩, ⟨A, cap, l⟩] ((w.alloc (.cells #[.int .u8 (q.toNat : Int)] 5)).alloc (.cells #[.slice (some ⟨w.heap.size, 0, none⟩) 1 1, .slice A l.length cap] 30))
    (Row.fresh (w.alloc (.cells #[.int .u8 (q.toNat : Int)] 5)) #[.slice (some ⟨w.heap.size, 0, none⟩) 1 1, .slice A l.length cap] 30 (0, 0) _ (by simp) trivial _ rfl)
    (fun p hp => by
      simp only [List.mem_cons, List.not_mem_nil, or_false] at hp
      rcases hp with rfl | rfl
      · exact ⟨r0.alloc _, by show 1 ≤ maxLen; decide⟩
      · exact ⟨(h2'.alloc _).alloc _, hl⟩) (by show 2 ≤ maxLen; decide) ((hT.alloc _).alloc _)
  have e : joined [⟨some ⟨w.heap.size, 0, none⟩, 1, [q]⟩, ⟨A, cap, l⟩] = q :: l := by simp [joined]
  rw [e] at h
  exact h
set_option maxHeartbeats 400000 in
theorem fsum_any (q : UInt8) (z : Int) (hz : z = (q.toNat : Int)) (A : Option Addr) (c : Nat) (F : Nat → Prop) (l : List UInt8) (w : World) (h : Row w A F (bcells l)) (hl : l.length = 64) (hc : 64 ≤ c) (hcm : c ≤ maxLen) (hT : Taken w) :
    Calls Tryz.prog 86 #[.int .u8 z, .slice A 64 c] w fun e w' => ∃ v, e = .returned v ∧ OwnB w' w.heap.size v (sumOf q l) ∧ Keeps (fun _ => True) w w' := by
  unfold maxLen at hcm
  obtain ⟨b, o, rfl, -, -⟩ := h (by intro e; have := congrArg List.length e; rw [bcells_len, hl] at this; simp at this)
  have hs := sum_lit q z hz (some ⟨b, o, none⟩) c (l.take 60) 60 (by rw [List.length_take]; omega) F w (bcells_take h 60) (by rw [List.length_take]; unfold maxLen; omega) hT
  have hx := crcN_lt (q :: l.take 60)
  have HE := Lib.hid (show sumOf q l = sumL (crcN (q :: l.take 60)) from rfl)
  generalize crcN (q :: l.take 60) = x at hs hx HE
  have HS := Lib.hid hs
  obtain ⟨w2, hw2⟩ : ∃ w2, (w.alloc (.cells #[.int .u8 z] 5)).alloc (.cells #[.slice (some ⟨w.heap.size, 0, none⟩) 1 1, .slice (some ⟨b, o, none⟩) 60 c] 30) = w2 := ⟨_, rfl⟩
  have hk2 : Keeps (fun _ => True) w w2 := by rw [← hw2]; exact ((Keeps.refl _ w).alloc _).alloc _
  have hfin : ∀ g : Nat, g = w2.heap.size → ∃ v, Ending.returned (Value.slice (some ⟨g, 0, none⟩) 4 4) = .returned v ∧ OwnB (w2.alloc (.cells #[.int .u8 ((x : Int) % 256), .int .u8 ((x : Int) / 256 % 256), .int .u8 ((x : Int) / 65536 % 256), .int .u8 ((x : Int) / 16777216)] 5)) w.heap.size v (sumOf q l) ∧
      Keeps (fun _ => True) w (w2.alloc (.cells #[.int .u8 ((x : Int) % 256), .int .u8 ((x : Int) / 256 % 256), .int .u8 ((x : Int) / 65536 % 256), .int .u8 ((x : Int) / 16777216)] 5)) := by
    rintro g rfl
    have h1 := World.ownsRow_lit (base := w.heap.size) (size := 1) (e := 5) w2 #[.int .u8 ((x : Int) % 256), .int .u8 ((x : Int) / 256 % 256), .int .u8 ((x : Int) / 65536 % 256), .int .u8 ((x : Int) / 16777216)] 4 hk2.size (by decide) rfl
    refine ⟨_, rfl, ?_, hk2.alloc _⟩
    have e : bcells (sumOf q l) = [.int .u8 ((x : Int) % 256), .int .u8 ((x : Int) / 256 % 256), .int .u8 ((x : Int) / 65536 % 256), .int .u8 ((x : Int) / 16777216)] := by
      rw [HE.out]
      unfold sumL bcells bcell
      simp only [List.map_cons, List.map_nil, toNat_ofNat_mod]
      rw [Nat.mod_eq_of_lt (show x / 16777216 < 256 by omega)]
      simp
    have e4 : (sumOf q l).length = 4 := rfl
    unfold OwnB
    rw [e, e4]
    exact h1
  have HF := Lib.hid hfin
  have HW2 := Lib.hid hw2
  have HSZ := Lib.hid (show w.heap.size + 2 = w2.heap.size from by rw [← hw2]; simp)
  clear h hs hl hT hfin HE hw2 hk2 hz
  go_enter Tryz.func86, Tryz.ntmps86
  go_wp2_with fail
  refine HS.out.mono ?_
  rintro e w' ⟨rfl, rfl⟩
  rw [HW2.out]
  have HZ := HSZ.out
  go_wp2_with fail
  go_ret
  exact HF.out _ rfl
end Go.Proofs.YtpijdefadmfahaaGreatDoor
end
/-
  THE PROGRAM's FRAMES (package frame): Make.
-/
section
namespace Go.Proofs.YtpijdefadmfahaaGreatDoor
open Go Go.RowKit Go.Joins
def GE : Nat → Option Bool := fun _ => none
theorem GE_is {V : Nat → World → Value → Prop} (g : Nat) (c : Bool) (h : GE g = some c) (w : World) (x : Value) (_ : V g w x) : x = .bool c := by cases h
def VF (g : Nat) (z : Int) (s : List UInt8) : Nat → World → Value → Prop
  | 0 => IsV (.slice (some ⟨g, 0, none⟩) 64 64)
  | 1 => IsV (.slice (some ⟨g, 60, none⟩) 4 4)
  | 2 => IsV (.int .u8 z)
  | 3 => IsV (.slice (some ⟨g, 0, none⟩) 64 64)
  | 4 => TextG g s
  | _ => fun _ _ => True
theorem VF_keep {g : Nat} {z : Int} {s : List UInt8} (i : Nat) (w w' : World) (v : Value) (h : Keeps (fun b => b ≠ g) w w') (hv : VF g z s i w v) : VF g z s i w' v := by
  match i, hv with
  | 0, hv => exact hv
  | 1, hv => exact hv
  | 2, hv => exact hv
  | 3, hv => exact hv
  | 4, hv => exact TextG.keep h hv
  | n + 5, _ => trivial
def NewB (w w' : World) (v : Value) (l : List UInt8) : Prop := ∃ A c, v = .slice A l.length c ∧ l.length ≤ c ∧ c ≤ maxLen ∧ Row w' A (fun b => w.heap.size ≤ b ∧ b < w'.heap.size) (bcells l)
theorem NewB.of_own {w0 w w' : World} {v : Value} {l : List UInt8} (h : OwnB w' w.heap.size v l) (hs : w0.heap.size ≤ w.heap.size) : NewB w0 w' v l := by
  obtain ⟨A, c, e, hn, hr⟩ := own_slice h
  refine ⟨A, c, e, ?_, ?_, hr.mono fun b _ hb => ⟨Nat.le_trans hs hb.1, hb.2⟩⟩
  all_goals
    rw [e] at h
    rcases h.2 with ⟨h', h0⟩ | ⟨g', cap', cur, h', _, _, h1, h2, _⟩
    · injection h' with _ h3 h4; omega
    · injection h' with _ h3 h4; omega
theorem put_one (n : Int) (h1 : -9223372036854775808 ≤ n) (h2 : n < 9223372036854775808) (w : World) :
    Calls Tryz.prog 57 #[.slice none 0 0, .slice (some ⟨w.heap.size, 0, none⟩) 1 1] (w.alloc (.cells #[.int .i64 n] 2)) fun e w' => ∃ v, e = .returned v ∧ NewB w w' v (putZ n) ∧ Keeps (fun _ => True) w w' := by
  refine (show Calls _ _ _ _ _ from put_any none (some ⟨w.heap.size, 0, none⟩) 0 1 (fun _ => True) (fun _ => True) [] [n] (w.alloc (.cells #[.int .i64 n] 2)) (Row.nil _ _ _) (Row.fresh w #[.int .i64 n] 2 (0, 0) _ rfl trivial _ rfl) (fun m hm => by rw [List.mem_singleton.1 hm]; exact ⟨h1, h2⟩) (by simp) (by simp)).mono ?_
  rintro e w' ⟨v, rfl, ho, hk⟩
  have e : ([] : List UInt8) ++ putsZ [n] = putZ n := by simp [putsZ]
  rw [e] at ho
  exact ⟨v, rfl, NewB.of_own ho (by simp), ((Keeps.refl _ w).alloc _).trans hk⟩
theorem text_one (l x : List UInt8) (hl : l.length ≤ 1000) (hx : x.length ≤ 1000) (w : World) (A : Option Addr) (c : Nat) (F : Nat → Prop) (hA : Row w A F (bcells l)) :
    Calls Tryz.prog 54 #[.slice A l.length c, .slice (some ⟨w.heap.size, 0, none⟩) 1 1] (w.alloc (.cells #[.string (txt x)] 9)) fun e w' => ∃ v, e = .returned v ∧ NewB w w' v (l ++ putT x) ∧ Keeps (fun _ => True) w w' := by
  refine (show Calls _ _ _ _ _ from put_text A (some ⟨w.heap.size, 0, none⟩) c 1 _ (fun _ => True) l [txt x] (w.alloc (.cells #[.string (txt x)] 9)) (hA.alloc _) (Row.fresh w #[.string (txt x)] 9 (0, 0) _ rfl trivial _ rfl) (by unfold total; simp only [List.map_cons, List.map_nil, List.sum_cons, List.sum_nil, txt_size]; omega) (by omega) (by simp)).mono ?_
  rintro e w' ⟨v, rfl, ho, hk⟩
  have e : putsT (strs [txt x]) = putT x := by simp [putsT, strs, txt_list]
  rw [e] at ho
  exact ⟨v, rfl, NewB.of_own ho (by simp), ((Keeps.refl _ w).alloc _).trans hk⟩
theorem blank_cells : bcells blank = List.replicate 64 (bcell 0) := by unfold blank bcells; rw [List.map_replicate]
set_option maxRecDepth 100000 in
theorem made64 : (madeCells (Value.int .u8 0).cells (64 * 1)).toList = bcells blank := by kernel_rfl
def rowS (t : Nat) (x : List UInt8) : List UInt8 := headS t x ++ List.replicate (64 - (headS t x).length) 0
theorem rowS_len (t : Nat) (x : List UInt8) (h : (headS t x).length ≤ 60) : (rowS t x).length = 64 := by
  unfold rowS; rw [List.length_append, List.length_replicate]; omega
theorem rowS_take (t : Nat) (x : List UInt8) (h : (headS t x).length ≤ 60) : (rowS t x).take 60 = bodyS t x := by
  unfold rowS
  rw [List.take_append, List.take_of_length_le h, List.take_replicate]
  unfold bodyS
  congr 2
  omega
theorem head_row (t : Nat) (x : List UInt8) : (bcells blank).take 0 ++ bcells (headS t x) ++ (bcells blank).drop (0 + (bcells (headS t x)).length) = bcells (rowS t x) := by
  unfold rowS
  rw [blank_cells, List.take_zero, List.nil_append, List.drop_replicate, bcells_append, bcells_len, Nat.zero_add]
  congr 1
  unfold bcells
  rw [List.map_replicate]
theorem sumOf_row (q : UInt8) (t : Nat) (x : List UInt8) (h : (headS t x).length ≤ 60) : sumOf q (encF q t x) = sumOf q (rowS t x) := by
  unfold sumOf; rw [encF_take q t x h, rowS_take t x h]
theorem enc_row (q : UInt8) (t : Nat) (x : List UInt8) (h : (headS t x).length ≤ 60) :
    (bcells (rowS t x)).take 60 ++ bcells (sumOf q (rowS t x)) ++ (bcells (rowS t x)).drop (60 + (bcells (sumOf q (rowS t x))).length) = bcells (encF q t x) := by
  have e1 := rowS_take t x h
  have e2 : sumOf q (rowS t x) = sumL (crcN (q :: bodyS t x)) := by unfold sumOf; rw [e1]
  have hbl := rowS_len t x h
  have e3 : (bcells (sumOf q (rowS t x))).length = 4 := by rw [e2]; rfl
  rw [e3, List.drop_of_length_le (by rw [bcells_len]; omega), List.append_nil]
  unfold encF
  rw [← e2, ← e1]
  simp [bcells]
set_option maxRecDepth 100000 in
set_option maxHeartbeats 4000000 in
theorem fmake_any (w : World) (hT : Taken w) (q : UInt8) (z : Int) (hz : z = (q.toNat : Int)) (t : Nat) (x : List UInt8) (ht : t < 9223372036854775808) (hx : x.length ≤ 100) (hh : (headS t x).length ≤ 60) :
    Calls Tryz.prog 89 #[.int .u8 z, .int .i64 (t : Int), .string (txt x)] w fun e w' => ∃ v, e = .returned (.tuple #[v, .int .i64 0]) ∧ OwnB w' w.heap.size v (encF q t x) ∧ Keeps (fun _ => True) w w' := by
  have HT := Lib.hid hT
  have HZ := Lib.hid hz
  have HH := Lib.hid hh
  have HX := Lib.hid hx
  have HL1 := Lib.hid (show (putZ (t : Int)).length ≤ 1000 from by have := hh; unfold headS at this; rw [List.length_append] at this; omega)
  have HP := Lib.hid (fun w => put_one (t : Int) (by omega) (by omega) w)
  have HR := Lib.hid (show bcells (headS t x) ++ List.drop (bcells (headS t x)).length (bcells blank) = bcells (rowS t x) from by
    have h := head_row t x
    rwa [List.take_zero, List.nil_append, Nat.zero_add] at h)
  have HN := Lib.hid (rowS_len t x hh)
  have HE := Lib.hid (enc_row q t x hh)
  have HES := Lib.hid (sumOf_row q t x hh)
  have HEL := Lib.hid (encF_len q t x hh)
  clear hT hz hh hx ht
  go_enter Tryz.func89, Tryz.ntmps89
  go_wp2_with fail
  refine (HP.out w).mono ?_
  rintro e w1 ⟨v1, rfl, ⟨A1, c1, rfl, h1, h2, hr1⟩, hk1⟩
  have HTX := Lib.hid (text_one (putZ (t : Int)) x HL1.out (by have := HX.out; omega) w1 A1 c1 _ hr1)
  have HK1 := Lib.hid hk1
  clear h1 h2 hr1 hk1
  go_wp2_with fail
  refine HTX.out.mono ?_
  rintro e w2 ⟨v2, rfl, hn2, hk2⟩
  rw [show putZ (t : Int) ++ putT x = headS t x from rfl] at hn2
  obtain ⟨A2, c2, rfl, h1, h2, hr2⟩ := hn2
  have HK2 := Lib.hid (HK1.out.trans hk2)
  have HR2 := Lib.hid (hr2.mono (G := fun b => w.heap.size ≤ b ∧ b < w2.heap.size) fun b _ hb => ⟨Nat.le_trans HK1.out.size hb.1, hb.2⟩)
  have HT2 := Lib.hid (HT.out.keep (HK1.out.trans hk2))
  have HH2 := HH.out
  have hd : decide ((60 : Int) < ((headS t x).length : Int)) = false := by simp; omega
  clear h1 h2 hr2 hk2 HTX
  go_wp2_with (refine list_make rfl (.const (.int .i64 64)) (.const (.int .i64 64)) 30 rfl byte_elem .i64 .i64 64 rfl rfl (by decide) (by decide) (bcells blank) made64 ?_)
  intro w3 hown hg3
  have hk3 : Keeps (fun _ => True) w2 w3 := Keeps.of_grown hg3 (fun _ h => by cases h)
  have HR3 := Lib.hid (HR2.out.keep (hk3.mono fun _ _ _ => trivial))
  obtain ⟨g, hgg⟩ : ∃ g, g = w2.heap.size := ⟨_, rfl⟩
  rw [← hgg] at hown ⊢
  have HOWN := Lib.hid hown
  have HG := Lib.hid (show w.heap.size ≤ g ∧ g < w3.heap.size ∧ (∀ b, b < g → b ≠ g) from ⟨by have := HK2.out.size; omega, (hown.lt g rfl).2, fun b h => by omega⟩)
  have HK3 := Lib.hid (HK2.out.trans hk3)
  have HHC := Lib.hid (show (headS t x).length = (bcells (headS t x)).length from (bcells_len _).symm)
  have HGG := Lib.hid hgg
  have HG2 := Lib.hid (show g = w2.heap.size ∧ Keeps (fun _ => True) w2 w3 from ⟨hgg, hk3⟩)
  clear hown hg3 hk3 hgg
  go_wp2_with (refine list_copy_part rfl (.tmp 20) (.tmp 21) 30 30 rfl 5 Tryz.underlying30 (by kernel_rfl) HOWN.out 0 64 64 rfl A2 _ c2 rfl (bcells (headS t x)) HHC.out (by rw [bcells_len]; omega) HR3.out (bcells_one _) (by rw [bcells_len, bcells_len]; show 0 + (headS t x).length ≤ 64; omega) ?_)
  intro w4 hown hg4
  rw [HR.out] at hown
  have hk4 : Keeps (fun b => b ≠ g) w3 w4 := keeps_grown hg4
  have hk44 : Keeps (fun _ => True) w w4 := by
    have hk3 := HK3.out
    exact ⟨hk4.os.trans hk3.os, hk4.tape.trans hk3.tape, hk4.output.trans hk3.output, Nat.le_trans hk3.size hk4.size, fun i _ hi => (hk4.block i (by have := HG.out.1; show i ≠ g; omega) (Nat.lt_of_lt_of_le hi hk3.size)).trans (hk3.block i trivial hi)⟩
  have HW4 := Lib.hid (show StRow w4 g g 5 64 64 (bcells (rowS t x)) (bcells (encF q t x)) false w4.drew from ⟨(Keeps.refl (fun _ => True) w4).drew.own (by have := HG2.out.1; subst this; exact hown) fun _ _ => trivial, (Keeps.refl _ w4).drew, Nat.lt_of_lt_of_le HG.out.2.1 hk4.size⟩)
  have HT4 := Lib.hid (HT.out.keep hk44)
  have HK4 := Lib.hid hk44
  have HTG := Lib.hid (show ∀ i, i < 16 → (⟨0, i, none⟩ : Addr).block ≠ g from fun i hi => by
    have h1 := World.block_lt_of_cell? w _ (HT.out i hi)
    have := HG.out.1
    show 0 ≠ g
    simp only at h1
    omega)
  clear hown hg4 hk4 hk44 HOWN HR3 HR2 HT2
  go_wp2_with fail
  refine wp_region_one (V := VF g z (sumOf q (rowS t x))) (w0 := w4) 5 (StRow w4 g g 5 64 64 (bcells (rowS t x)) (bcells (encF q t x))) (fun w w' => w.grownBy w' (some g)) GE (by kernel_rfl) (fun i w w' v h hv => VF_keep i w w' v (h.mono fun _ _ _ => trivial) hv) (fun _ _ _ h hs => hs.keep h) (fun i _ w w' v h hv => VF_keep i w w' v (keeps_grown h) hv) (by kernel_rfl) (by decide) GE_is (fun i o ho hw => (all_wanted (by kernel_rfl) ho hw).elim) HW4.out (each_of ?_) ?_
  · refine ⟨?_, ?_, ?_, ?_, ?_, ?_, trivial⟩ <;> intro hw a1 w3 L
    · rw [if_neg (by decide)]
      intro b hs _
      exact kp_move rfl (L.old 9 (by kernel_rfl))
    · rw [if_neg (by decide)]
      intro b hs _
      have e0 : a1.eval (.tmp 23) = .slice (some ⟨g, 0, none⟩) 64 64 := L.val 0 23 (by kernel_rfl) (by kernel_rfl)
      have hcn : a1.eval (.const (.int .i64 60)) = .int .i64 60 := rfl
      refine kp_yield (v := .slice (some ⟨g, 60, none⟩) 4 4) (w' := w3) ?_ (Keeps.refl _ _) rfl
      generalize a1.eval = ρ at e0 hcn ⊢
      unfold execOp
      go_simp
    · rw [if_neg (by decide)]
      intro b hs _
      exact kp_move rfl (L.old 0 (by kernel_rfl))
    · rw [if_neg (by decide)]
      intro b hs _
      exact kp_move rfl (L.old 9 (by kernel_rfl))
    · rw [if_neg (by decide)]
      intro b hs _
      have e0 : a1.eval (.tmp 26) = .slice (some ⟨g, 0, none⟩) 64 64 := L.val 3 26 (by kernel_rfl) (by kernel_rfl)
      have e1 : a1.eval (.tmp 25) = .int .u8 z := L.val 2 25 (by kernel_rfl) (by kernel_rfl)
      have hf : a1.eval (.func 86) = .func (.func 86) #[] #[] := rfl
      have hT3 : Taken w3 := fun i hi => hs.2.1.cell (HT4.out i hi) (HTG.out i hi)
      obtain ⟨l, hl, hsl, hrw⟩ : ∃ l : List UInt8, l.length = 64 ∧ sumOf q l = sumOf q (rowS t x) ∧ Row w3 (some ⟨g, 0, none⟩) (fun b => b = g) (bcells l) := by
        cases b
        · exact ⟨rowS t x, HN.out, rfl, own_row hs.1⟩
        · exact ⟨encF q t x, HEL.out, HES.out, own_row hs.1⟩
      refine kp_enter (f := 86) (args := #[.int .u8 z, .slice (some ⟨g, 0, none⟩) 64 64]) ?_ (fsum_any q z HZ.out (some ⟨g, 0, none⟩) 64 _ l w3 hrw hl (Nat.le_refl _) (by decide) hT3) ?_
      · clear hs hrw hT3
        generalize a1.eval = ρ at e0 e1 hf ⊢
        unfold execOp
        go_simp
      · rintro e w' ⟨v, rfl, ho, hk⟩
        rw [hsl] at ho
        exact ⟨v, rfl, hk, TextG.of_own ho hs.2.2⟩
    · rw [if_pos rfl]
      intro hs
      obtain ⟨A, c, e3, h1, h2, hr⟩ := L.val 4 27 (by kernel_rfl) (by kernel_rfl)
      have e0 : a1.eval (.tmp 24) = .slice (some ⟨g, 60, none⟩) 4 4 := L.val 1 24 (by kernel_rfl) (by kernel_rfl)
      refine Oper.wp_mono ?_ (one_copy (.tmp 24) (.tmp 27) 30 30 rfl Tryz.underlying30 (by kernel_rfl) hs 60 4 4 e0 A _ c e3 (bcells_len _).symm (by rw [bcells_len]; exact Nat.le_refl 4)
        (fun e => by have := congrArg List.length e; rw [bcells_len] at this; cases this) hr (bcells_one _) (by rw [bcells_len, bcells_len, HN.out]; exact Nat.le_refl 64) HE.out)
      rintro a' w' ⟨v, h1, h2, h3, h4⟩
      exact ⟨v, h1, h2, h3, trivial⟩
  · intro vs w5 hs5 hlen5 hv5
    match vs, hlen5 with
    | [u0, u1, u2, u3, u4, u5], _ =>
      clear hv5
      simp only [putAll, List.map, Act.put, List.setIfInBounds_toArray, List.set_cons_succ, List.set_cons_zero, Exit.then]
      obtain ⟨ho5, hkp5, hg5⟩ := hs5
      have hk4 := HK4.out
      have hk55 : Keeps (fun _ => True) w w5 := ⟨hkp5.os.trans hk4.os, hkp5.tape.trans hk4.tape, hkp5.output.trans hk4.output, Nat.le_trans hk4.size hkp5.size, fun i _ hi => (hkp5.block i (by have := HG.out.1; show i ≠ g; omega) (Nat.lt_of_lt_of_le hi hk4.size)).trans (hk4.block i trivial hi)⟩
      have hown5 : OwnB w5 w.heap.size (.slice (some ⟨g, 0, none⟩) 64 64) (encF q t x) := by
        unfold OwnB
        rw [HEL.out]
        exact ownsRow_le ho5 HG.out.1
      have H1 := Lib.hid (show ∃ v, Ending.returned (.tuple #[.slice (some ⟨g, 0, none⟩) 64 64, .int .i64 0]) = .returned (.tuple #[v, .int .i64 0]) ∧ OwnB w5 w.heap.size v (encF q t x) ∧ Keeps (fun _ => True) w w5 from ⟨_, rfl, hown5, hk55⟩)
      clear ho5 hkp5 hg5 hk4 hk55 hown5 HW4 HT4
      go_wp2_with fail
      go_ret2
      exact H1.out
end Go.Proofs.YtpijdefadmfahaaGreatDoor
end
/-
  THE PROGRAM's FRAMES (package frame): Parse; super's parse.
-/
section
namespace Go.Proofs.YtpijdefadmfahaaGreatDoor
open Go Go.RowKit Go.Joins
def frmV : Option (Int × List UInt8) → Value
  | none => .tuple #[.int .i64 0, .string ⟨#[]⟩, .int .i64 3]
  | some (n, x) => .tuple #[.int .i64 n, .string (txt x), .int .i64 0]
def VP (b o c : Nat) (z : Int) (s : List UInt8) (x : Bool) : Nat → World → Value → Prop
  | 0 => IsV (.slice (some ⟨b, o, none⟩) 64 c)
  | 1 => IsV (.int .i64 64)
  | 2 => IsV (.bool false)
  | 3 => IsV (.bool false)
  | 4 => IsV (.slice (some ⟨b, o, none⟩) 64 c)
  | 5 => IsV (.slice (some ⟨b, o + 60, none⟩) 4 (c - 60))
  | 6 => IsV (.int .u8 z)
  | 7 => IsV (.slice (some ⟨b, o, none⟩) 64 c)
  | 8 => TextV s
  | 9 => IsV (.bool x)
  | 10 => IsV (.bool (!x))
  | 11 => IsV (.bool (!x))
  | _ => fun _ _ => True
theorem VP_mono {b o c : Nat} {z : Int} {s : List UInt8} {x : Bool} (i : Nat) (w w' : World) (v : Value) (h : Kp w w') (hv : VP b o c z s x i w v) : VP b o c z s x i w' v := by
  match i, hv with
  | 0, hv => exact hv
  | 1, hv => exact hv
  | 2, hv => exact hv
  | 3, hv => exact hv
  | 4, hv => exact hv
  | 5, hv => exact hv
  | 6, hv => exact hv
  | 7, hv => exact hv
  | 8, hv => exact TextV.mono h hv
  | 9, hv => exact hv
  | 10, hv => exact hv
  | 11, hv => exact hv
  | n + 12, _ => trivial
def GP : Nat → Option Bool
  | 3 => some false
  | _ => none
theorem GP_is {b o c : Nat} {z : Int} {s : List UInt8} {x : Bool} (g : Nat) (d : Bool) (h : GP g = some d) (w : World) (v : Value) (hv : VP b o c z s x g w v) : v = .bool d := by
  match g, h, hv with
  | 3, h, hv => cases h; exact hv
theorem cut_end {w : World} {b o c k n : Nat} {F : Nat → Prop} {l : List UInt8} (h : Row w (some ⟨b, o, none⟩) F (bcells l)) (hl : l.length = n) (hk : k ≤ n) (hc : n < c ∨ k < n ∧ n ≤ c) : Row w (some ⟨b, o + k, none⟩) F (bcells (l.drop k)) := by
  have h1 := h.cut (k := k) (cap := c) (by rw [bcells_len]; omega) (by rw [bcells_len]; omega)
  rw [if_neg (by omega)] at h1
  have e : bcells (l.drop k) = (bcells l).drop k := by simp [bcells]
  rw [e]
  simpa [WideShapes.add_plain] using h1
theorem txt_same (l r : List UInt8) : ((txt l).toList == (txt r).toList) = decide (l = r) := by
  have e1 : (txt l).toList = l := by rw [Lib.toList_data]; rfl
  have e2 : (txt r).toList = r := by rw [Lib.toList_data]; rfl
  rw [e1, e2, Bool.eq_iff_iff]; simp
theorem decF_no {q : UInt8} {l : List UInt8} (h : ((txt (l.drop 60)).toList == (txt (sumOf q l)).toList) = false) : decF q l = none := by
  rw [txt_same, decide_eq_false_iff_not] at h
  unfold decF; rw [if_neg h]
theorem decF_yes {q : UInt8} {l : List UInt8} (h : ((txt (l.drop 60)).toList == (txt (sumOf q l)).toList) = true) : decF q l = readF (l.take 60) := by
  rw [txt_same, decide_eq_true_eq] at h
  unfold decF; rw [if_pos h]
theorem readF_no {l : List UInt8} {t : Int} {k e : Nat} (h : getZ l = (t, k, e)) (hb : e ≠ 0) : readF l = none := by
  unfold readF; rw [h]; simp only; rw [if_pos hb]
theorem readF_bad {l : List UInt8} {t : Int} {k : Nat} {x : List UInt8} {m e : Nat} (h : getZ l = (t, k, 0)) (h1 : getT (l.drop k) = (x, m, e)) (hb : e ≠ 0) : readF l = none := by
  unfold readF; rw [h]; simp only; rw [h1]; simp only
  rw [if_neg (by simp), if_pos hb]
theorem readF_is {l : List UInt8} {t : Int} {k : Nat} {x : List UInt8} {m : Nat} (h : getZ l = (t, k, 0)) (h1 : getT (l.drop k) = (x, m, 0)) : readF l = some (t, x) := by
  unfold readF; rw [h]; simp only; rw [h1]; simp only
  rw [if_neg (by simp), if_neg (by simp)]
set_option maxRecDepth 100000 in
set_option maxHeartbeats 4000000 in
theorem fparse_any (w : World) (hT : Taken w) (q : UInt8) (z : Int) (hz : z = (q.toNat : Int)) (b o c : Nat) (F : Nat → Prop) (l : List UInt8) (h : Row w (some ⟨b, o, none⟩) F (bcells l)) (hl : l.length = 64) (hc : 64 ≤ c) (hcm : c ≤ maxLen) :
    Calls Tryz.prog 67 #[.int .u8 z, .slice (some ⟨b, o, none⟩) 64 c] w fun e w' => e = .returned (frmV (decF q l)) ∧ Keeps (fun _ => True) w w' := by
  have hcm' := hcm
  unfold maxLen at hcm'
  obtain ⟨x, hx⟩ : ∃ x, ((txt (l.drop 60)).toList == (txt (sumOf q l)).toList) = x := ⟨_, rfl⟩
  have HX := Lib.hid hx
  have HT := Lib.hid hT
  have HZ := Lib.hid hz
  have HRW := Lib.hid h
  have HL := Lib.hid hl
  clear hT h hl hx hz
  go_enter Tryz.func67, Tryz.ntmps67
  go_wp2_with fail
  refine wp_region_guard (R := Kp) (V := VP b o c z (sumOf q l) x) (w0 := w) GP (by kernel_rfl) (fun w => Keeps.refl _ w) (fun _ _ _ h k => h.trans k) (fun i w w' v h hv => VP_mono i w w' v h hv) (by kernel_rfl) GP_is (fun i o ho hw => (all_wanted (by kernel_rfl) ho hw).elim) ((Keeps.refl _ w).drew) (each_of ?_) ?_
  · refine ⟨?_, ?_, ?_, ?_, ?_, ?_, ?_, ?_, ?_, ?_, ?_, ?_, trivial⟩ <;> intro hw a1 w3 L
    · exact kp_move rfl (L.old 1 (by kernel_rfl))
    · have e0 : a1.eval (.tmp 12) = .slice (some ⟨b, o, none⟩) 64 c := L.val 0 12 (by kernel_rfl) (by kernel_rfl)
      refine kp_yield (v := .int .i64 64) (w' := w3) ?_ (Keeps.refl _ _) rfl
      generalize a1.eval = ρ at e0 ⊢
      unfold execOp
      go_simp
    · have e0 : a1.eval (.tmp 13) = .int .i64 64 := L.val 1 13 (by kernel_rfl) (by kernel_rfl)
      have hcn : a1.eval (.const (.int .i64 64)) = .int .i64 64 := rfl
      refine kp_yield (v := .bool false) (w' := w3) ?_ (Keeps.refl _ _) rfl
      generalize a1.eval = ρ at e0 hcn ⊢
      unfold execOp
      go_simp
    · exact kp_move rfl (L.val 2 14 (by kernel_rfl) (by kernel_rfl))
    · exact kp_move rfl (L.old 1 (by kernel_rfl))
    · have e0 : a1.eval (.tmp 16) = .slice (some ⟨b, o, none⟩) 64 c := L.val 4 16 (by kernel_rfl) (by kernel_rfl)
      have hcn : a1.eval (.const (.int .i64 60)) = .int .i64 60 := rfl
      have hne : ¬ c = 60 := by omega
      have hne2 : ¬ c ≤ 60 := by omega
      refine kp_yield (v := .slice (some ⟨b, o + 60, none⟩) 4 (c - 60)) (w' := w3) ?_ (Keeps.refl _ _) rfl
      generalize a1.eval = ρ at e0 hcn ⊢
      unfold execOp
      go_simp
    · exact kp_move rfl (L.old 0 (by kernel_rfl))
    · exact kp_move rfl (L.old 1 (by kernel_rfl))
    · have e0 : a1.eval (.tmp 19) = .slice (some ⟨b, o, none⟩) 64 c := L.val 7 19 (by kernel_rfl) (by kernel_rfl)
      have e1 : a1.eval (.tmp 18) = .int .u8 z := L.val 6 18 (by kernel_rfl) (by kernel_rfl)
      have hf : a1.eval (.func 86) = .func (.func 86) #[] #[] := rfl
      refine kp_enter (f := 86) (args := #[.int .u8 z, .slice (some ⟨b, o, none⟩) 64 c]) ?_ (fsum_any q z HZ.out _ c _ l w3 (HRW.out.lt.keep (L.rel.mono fun _ _ _ => trivial)) HL.out hc hcm (HT.out.keep L.rel)) ?_
      · generalize a1.eval = ρ at e0 e1 hf ⊢
        unfold execOp
        go_simp
      · rintro e w' ⟨v, rfl, ho, hk⟩
        obtain ⟨A, d, e, hn, hr⟩ := own_slice ho
        exact ⟨v, rfl, hk, A, d, e, hr.mono fun _ _ _ => trivial⟩
    · have e0 : a1.eval (.tmp 17) = .slice (some ⟨b, o + 60, none⟩) 4 (c - 60) := L.val 5 17 (by kernel_rfl) (by kernel_rfl)
      obtain ⟨A, d, e1, hr⟩ := L.val 8 20 (by kernel_rfl) (by kernel_rfl)
      have hf : a1.eval (.func 85) = .func (.func 85) #[] #[] := rfl
      refine kp_enter (f := 85) (args := #[.slice (some ⟨b, o + 60, none⟩) 4 (c - 60), .slice A (sumOf q l).length d]) ?_ (equal_any _ _ _ _ _ _ _ _ (l.drop 60) (sumOf q l) w3 (cut_end (HRW.out.lt.keep (L.rel.mono fun _ _ _ => trivial)) HL.out (by decide) (.inr ⟨by decide, hc⟩)) hr (by rw [List.length_drop, HL.out]) rfl x HX.out) ?_
      · clear hr
        generalize a1.eval = ρ at e0 e1 hf ⊢
        unfold execOp
        go_simp
      · rintro e w' ⟨rfl, rfl⟩
        exact ⟨_, rfl, Keeps.refl _ _, rfl⟩
    · have e0 : a1.eval (.tmp 21) = .bool x := L.val 9 21 (by kernel_rfl) (by kernel_rfl)
      refine kp_yield (v := .bool (!x)) (w' := w3) ?_ (Keeps.refl _ _) rfl
      generalize a1.eval = ρ at e0 ⊢
      unfold execOp
      go_simp
    · refine kp_pick (b := false) rfl (L.val 3 15 (by kernel_rfl) (by kernel_rfl)) ?_
      exact L.val 10 22 (by kernel_rfl) (by kernel_rfl)
  · intro vs w4 hk4 hlen hv
    match vs, hlen with
    | [v0, v1, v2, v3, v4, v5, v6, v7, v8, v9, v10, v11], _ =>
      have e5 : v11 = .bool (!x) := hv 11 23 (by kernel_rfl)
      clear hv
      subst e5
      simp only [putAll, List.map, Act.put, List.setIfInBounds_toArray, List.set_cons_succ, List.set_cons_zero, Exit.then]
      have HK := Lib.hid hk4
      have hr60 : Row w4 (some ⟨b, o, none⟩) (fun b' => F b' ∧ b' < w.heap.size) (bcells (l.take 60)) := bcells_take (HRW.out.lt.keep (hk4.mono fun _ _ _ => trivial)) 60
      have HRW4 := Lib.hid hr60
      clear hk4 HRW HT hr60
      cases x
      · have HD := Lib.hid (decF_no HX.out)
        go_wp2_with fail
        go_ret3
        exact ⟨by rw [HD.out]; rfl, HK.out⟩
      · have HD := Lib.hid (decF_yes HX.out)
        have hl60 : (l.take 60).length = 60 := by rw [List.length_take, HL.out]; rfl
        generalize l.take 60 = y at HRW4 HD hl60
        have HL6 := Lib.hid hl60
        have hgz := getZ_cases y
        have hgc := get_any (some ⟨b, o, none⟩) c _ y w4 HRW4.out (by rw [hl60]; decide)
        rw [hl60] at hgc
        have HGC := Lib.hid hgc
        have HGZ := Lib.hid hgz
        clear hgc hgz hl60
        go_wp2_with fail
        refine HGC.out.mono ?_
        rintro e w' ⟨rfl, rfl⟩
        obtain ⟨t, k, e, hg, hk⟩ : ∃ (t : Int) (k e : Nat), getZ y = (t, k, e) ∧ k ≤ 10 := by
          rcases HGZ.out with ⟨n, k, h, _, h2, _, h3, h4⟩ | h | h
          · exact ⟨n, k, 0, h, h2⟩
          · exact ⟨0, 0, 1, h, by omega⟩
          · exact ⟨0, 0, 2, h, by omega⟩
        have HG := Lib.hid hg
        rw [hg]
        simp only
        clear hg HGC HGZ
        have hcs : ((((e : Nat) : Int) != 0) = true ∧ e ≠ 0) ∨ ((((e : Nat) : Int) != 0) = false ∧ e = 0) := by
          by_cases h0 : e = 0
          · right; exact ⟨by simp [h0], h0⟩
          · left; exact ⟨by simp; omega, h0⟩
        rcases hcs with ⟨t0, hb⟩ | ⟨t0, he0⟩
        · have HZ := Lib.hid (show decF q l = none by rw [HD.out]; exact readF_no HG.out hb)
          clear hb
          go_wp2_with fail
          go_ret3
          exact ⟨by rw [HZ.out]; rfl, HK.out⟩
        · subst he0
          have hne : ¬ c = k := by omega
          have hle : k ≤ 60 := by omega
          have hle2 : k ≤ c := by omega
          have hle3 : (60 : Nat) ≤ c := by omega
          have hkl := Lib.hid (show (y.drop k).length = 60 - k by rw [List.length_drop, HL6.out])
          have hgt := get_text (some ⟨b, o + k, none⟩) (c - k) _ (y.drop k) w4 (cut_end (n := 60) (k := k) (c := c) HRW4.out HL6.out (by omega) (.inl (by omega))) (by rw [hkl.out]; omega) (by rw [hkl.out]; omega) (by omega)
          rw [hkl.out] at hgt
          obtain ⟨u, m, e, hy⟩ : ∃ u m e, getT (y.drop k) = (u, m, e) := ⟨_, _, _, rfl⟩
          rw [hy] at hgt
          simp only at hgt
          have HGT := Lib.hid hgt
          have HY := Lib.hid hy
          clear hgt hy
          go_wp2_with fail
          refine HGT.out.mono ?_
          rintro e' w' ⟨rfl, rfl⟩
          have hcy : ((((e : Nat) : Int) != 0) = true ∧ e ≠ 0) ∨ ((((e : Nat) : Int) != 0) = false ∧ e = 0) := by
            by_cases h0 : e = 0
            · right; exact ⟨by simp [h0], h0⟩
            · left; exact ⟨by simp; omega, h0⟩
          rcases hcy with ⟨u0, hb⟩ | ⟨u0, he0⟩
          · have HZ := Lib.hid (show decF q l = none by rw [HD.out]; exact readF_bad HG.out HY.out hb)
            clear hb
            go_wp2_with fail
            go_ret3
            exact ⟨by rw [HZ.out]; rfl, HK.out⟩
          · subst he0
            have HZ := Lib.hid (show decF q l = some (t, u) by rw [HD.out]; exact readF_is HG.out HY.out)
            go_wp2_with fail
            go_ret3
            exact ⟨by rw [HZ.out]; rfl, HK.out⟩
end Go.Proofs.YtpijdefadmfahaaGreatDoor
end
/-
  THE PROGRAM's LOG: load, lay: one sector of a segment.
-/
section
namespace Go.Proofs.YtpijdefadmfahaaGreatDoor
open Go Go.RowKit Go.Joins
def SecV (l : List UInt8) : World → Value → Prop := fun w v => ∃ g c, v = .tuple #[.slice (some ⟨g, 0, none⟩) 64 c, .int .i64 0] ∧ Row w (some ⟨g, 0, none⟩) (fun _ => True) (bcells l) ∧ c ≤ maxLen ∧ 64 ≤ c
theorem SecV.mono {l : List UInt8} {w w' : World} {v : Value} (h : Kp w w') (hv : SecV l w v) : SecV l w' v := by
  obtain ⟨g, c, e, hr, h1, h2⟩ := hv
  exact ⟨g, c, e, hr.keep h, h1, h2⟩
def SecS (l : List UInt8) : World → Value → Prop := fun w v => ∃ g c, v = .slice (some ⟨g, 0, none⟩) 64 c ∧ Row w (some ⟨g, 0, none⟩) (fun _ => True) (bcells l) ∧ c ≤ maxLen ∧ 64 ≤ c
theorem SecS.mono {l : List UInt8} {w w' : World} {v : Value} (h : Kp w w') (hv : SecS l w v) : SecS l w' v := by
  obtain ⟨g, c, e, hr, h1, h2⟩ := hv
  exact ⟨g, c, e, hr.keep h, h1, h2⟩
def ldV : Option (Nat × List UInt8) → Value
  | none => .tuple #[.int .i64 0, .string ⟨#[]⟩, .bool false]
  | some (n, x) => .tuple #[.int .i64 (n : Int), .string (txt x), .bool true]
def VL (q p s k a : Nat) (l : List UInt8) : Nat → World → Value → Prop
  | 0 => IsV (.pointer (some ⟨q, 0, none⟩))
  | 1 => IsV (.pointer (some ⟨q, 0, none⟩))
  | 2 => IsV (.pointer (some ⟨q, 0, none⟩))
  | 3 => IsV (.pointer (some ⟨p, 0, none⟩))
  | 4 => IsV (.pointer (some ⟨q, 0, none⟩))
  | 5 => IsV (.int .i64 (s : Int))
  | 6 => IsV (.int .i64 (k : Int))
  | 7 => IsV (.int .i64 (a : Int))
  | 8 => SecV l
  | 9 => SecV l
  | 10 => SecS l
  | 11 => IsV (.int .i64 0)
  | 12 => SecS l
  | 13 => IsV (.int .i64 0)
  | _ => fun _ _ => True
theorem VL_mono {q p s k a : Nat} {l : List UInt8} (i : Nat) (w w' : World) (v : Value) (h : Kp w w') (hv : VL q p s k a l i w v) : VL q p s k a l i w' v := by
  match i, hv with
  | 0, hv => exact hv
  | 1, hv => exact hv
  | 2, hv => exact hv
  | 3, hv => exact hv
  | 4, hv => exact hv
  | 5, hv => exact hv
  | 6, hv => exact hv
  | 7, hv => exact hv
  | 8, hv => exact SecV.mono h hv
  | 9, hv => exact SecV.mono h hv
  | 10, hv => exact SecS.mono h hv
  | 11, hv => exact hv
  | 12, hv => exact SecS.mono h hv
  | 13, hv => exact hv
  | n + 14, _ => trivial
section
variable {o : Oper} {a : Act} {w : World} {Q : Exit → Act → World → Prop} {x y : Operand}
theorem kp_mvP {V : World → Value → Prop} (ho : o.op = .move x) (hx : V w (a.eval x)) : o.wp Tryz.prog a w (fun a' w' => ∃ v', a' = a.put o.dst v' ∧ Kp w w' ∧ V w' v') Q := by
  unfold Oper.wp execOp
  rw [ho]
  exact ⟨a.eval x, rfl, Keeps.refl _ _, hx⟩
theorem kp_asP {V : World → Value → Prop} (ho : o.op = .assign x) (hx : V w (a.eval x)) : o.wp Tryz.prog a w (fun a' w' => ∃ v', a' = a.put o.dst v' ∧ Kp w w' ∧ V w' v') Q := by
  unfold Oper.wp execOp
  rw [ho]
  exact ⟨a.eval x, rfl, Keeps.refl _ _, hx⟩
end
theorem takeL_none {k : Nat} {l : List UInt8} (h : decF 76 l = none) : decL k l = none := by unfold decL; rw [h]; rfl
theorem takeL_no {k : Nat} {l : List UInt8} {n : Int} {x : List UInt8} (h : decF 76 l = some (n, x)) (hb : n < 8 ∨ 2199023255552 ≤ n ∨ n % 8 ≠ (k : Int) ∨ 53 < x.length) : decL k l = none := by
  unfold decL; rw [h]; unfold takeL; simp only; rw [if_pos hb]
theorem takeL_yes {k : Nat} {l : List UInt8} {n : Int} {x : List UInt8} (h : decF 76 l = some (n, x)) (hb : ¬ (n < 8 ∨ 2199023255552 ≤ n ∨ n % 8 ≠ (k : Int) ∨ 53 < x.length)) : ldV (decL k l) = .tuple #[.int .i64 n, .string (txt x), .bool true] := by
  unfold decL; rw [h]; unfold takeL; simp only; rw [if_neg hb]
  show Value.tuple #[.int .i64 ((n.toNat : Nat) : Int), .string (txt x), .bool true] = _
  rw [show ((n.toNat : Nat) : Int) = n by omega]
set_option maxRecDepth 100000 in
set_option maxHeartbeats 4000000 in
theorem lload_any (w : World) (hT : Taken w) (q p i n : Nat) (hL : LHead w q p i n) (F : Foot) (s : SDev) (hd : DAt w p F s) (sl k : Nat) (hi : i ≤ 2048) (hsl : sl ≤ 2048) (hk : k < 8) (hin : i + sl * 8 + k < s.now.length) :
    Calls Tryz.prog 46 #[.pointer (some ⟨q, 0, none⟩), .int .i64 (sl : Int), .int .i64 (k : Int)] w fun e w' => e = .returned (ldV (secAt s.now i sl k)) ∧ Kp w w' := by
  have HRD := Lib.hid (fun w' (hk : Kp w w') => d_read (hd.keep (hk.mono fun _ _ _ => trivial)) (i + sl * 8 + k) hin)
  have HSL := Lib.hid (show (s.now.getD (i + sl * 8 + k) []).length = 64 by rw [getD_mem _ _ _ hin]; exact hd.ok.nrow _ (List.getElem_mem hin))
  have HL := Lib.hid hL
  have HT := Lib.hid hT
  unfold secAt
  generalize ha : i + sl * 8 + k = a at HRD HSL ⊢
  have HA := Lib.hid ha
  generalize s.now.getD a [] = l at HRD HSL ⊢
  clear hL hd hin hT ha
  go_enter Tryz.func46, Tryz.ntmps46
  go_wp2_with fail
  refine wp_region_guard (R := Kp) (V := VL q p sl k a l) (w0 := w) GE (by kernel_rfl) (fun w => Keeps.refl _ w) (fun _ _ _ h k => h.trans k) (fun i w w' v h hv => VL_mono i w w' v h hv) (by kernel_rfl) GE_is (fun i o ho hw => (all_wanted (by kernel_rfl) ho hw).elim) ((Keeps.refl _ w).drew) (each_of ?_) ?_
  · refine ⟨?_, ?_, ?_, ?_, ?_, ?_, ?_, ?_, ?_, ?_, ?_, ?_, ?_, ?_, trivial⟩ <;> intro hw a1 w3 L
    · exact kp_move rfl (L.old 0 (by kernel_rfl))
    · exact kp_nilL rfl (L.val 0 14 (by kernel_rfl) (by kernel_rfl))
    · exact kp_fL0 rfl (L.val 1 15 (by kernel_rfl) (by kernel_rfl))
    · exact kp_lDev (L.rel.cell HL.out.d trivial) rfl (L.val 2 16 (by kernel_rfl) (by kernel_rfl))
    · exact kp_move rfl (L.old 0 (by kernel_rfl))
    · exact kp_move rfl (L.old 1 (by kernel_rfl))
    · exact kp_move rfl (L.old 2 (by kernel_rfl))
    · have e0 : a1.eval (.tmp 18) = .pointer (some ⟨q, 0, none⟩) := L.val 4 18 (by kernel_rfl) (by kernel_rfl)
      have e1 : a1.eval (.tmp 19) = .int .i64 (sl : Int) := L.val 5 19 (by kernel_rfl) (by kernel_rfl)
      have e2 : a1.eval (.tmp 20) = .int .i64 (k : Int) := L.val 6 20 (by kernel_rfl) (by kernel_rfl)
      have hf : a1.eval (.func 66) = .func (.func 66) #[] #[] := rfl
      refine kp_enter (f := 66) (args := #[.pointer (some ⟨q, 0, none⟩), .int .i64 (sl : Int), .int .i64 (k : Int)]) ?_ (place_any w3 q p i n (HL.out.keep L.rel trivial) sl k (by omega) (by omega) (by omega)) ?_
      · clear L
        generalize a1.eval = ρ at e0 e1 e2 hf ⊢
        unfold execOp
        go_simp
      · rintro e w' ⟨rfl, rfl⟩
        exact ⟨_, rfl, Keeps.refl _ _, by rw [HA.out]; rfl⟩
    · have e0 : a1.eval (.tmp 17) = .pointer (some ⟨p, 0, none⟩) := L.val 3 17 (by kernel_rfl) (by kernel_rfl)
      have e1 : a1.eval (.tmp 21) = .int .i64 (a : Int) := L.val 7 21 (by kernel_rfl) (by kernel_rfl)
      have hf : a1.eval (.func 65) = .func (.func 65) #[] #[] := rfl
      refine kp_enter (f := 65) (args := #[.pointer (some ⟨p, 0, none⟩), .int .i64 (a : Int)]) ?_ (HRD.out w3 L.rel) ?_
      · clear L
        generalize a1.eval = ρ at e0 e1 hf ⊢
        unfold execOp
        go_simp
      · rintro e w' ⟨g, c, rfl, hr, h1, h2, hk⟩
        exact ⟨_, rfl, hk, g, c, rfl, hr.mono fun _ _ _ => trivial, h1, h2⟩
    · exact kp_mvP rfl (L.val 8 22 (by kernel_rfl) (by kernel_rfl))
    · obtain ⟨g, c, e0, hr, h1, h2⟩ := L.val 9 13 (by kernel_rfl) (by kernel_rfl)
      refine kp_yield (v := .slice (some ⟨g, 0, none⟩) 64 c) (w' := w3) ?_ (Keeps.refl _ _) ⟨g, c, rfl, hr, h1, h2⟩
      clear L hr h1 h2
      generalize a1.eval = ρ at e0 ⊢
      unfold execOp
      go_simp
    · obtain ⟨g, c, e0, hr, h1, h2⟩ := L.val 9 13 (by kernel_rfl) (by kernel_rfl)
      refine kp_yield (v := .int .i64 0) (w' := w3) ?_ (Keeps.refl _ _) rfl
      clear L hr h1 h2
      generalize a1.eval = ρ at e0 ⊢
      unfold execOp
      go_simp
    · exact kp_asP rfl (L.val 10 23 (by kernel_rfl) (by kernel_rfl))
    · exact kp_assign rfl (L.val 11 24 (by kernel_rfl) (by kernel_rfl))
  · intro vs w4 hk4 hlen hv
    match vs, hlen with
    | [v0, v1, v2, v3, v4, v5, v6, v7, v8, v9, v10, v11, v12, v13], _ =>
      obtain ⟨g, c, e12, hr, h1, h2⟩ : SecS l w4 v12 := hv 12 9 (by kernel_rfl)
      have e13 : v13 = .int .i64 0 := hv 13 10 (by kernel_rfl)
      clear hv
      subst e12 e13
      simp only [putAll, List.map, Act.put, List.setIfInBounds_toArray, List.set_cons_succ, List.set_cons_zero, Exit.then]
      have HP := Lib.hid (fparse_any w4 (HT.out.keep hk4) 76 76 rfl g 0 c _ l hr HSL.out h2 h1)
      have HK4 := Lib.hid hk4
      clear hr h1 h2 hk4
      go_wp2_with fail
      refine HP.out.mono ?_
      rintro e w5 ⟨rfl, hk5⟩
      have HK5 := Lib.hid (HK4.out.trans hk5)
      clear hk5 HP
      obtain ⟨r, hr⟩ : ∃ r, decF 76 l = r := ⟨_, rfl⟩
      rw [hr]
      have HR := Lib.hid hr
      clear hr
      rcases r with _ | ⟨m, x⟩
      · have HD := Lib.hid (show ldV (decL k l) = .tuple #[.int .i64 0, .string ⟨#[]⟩, .bool false] by rw [takeL_none HR.out]; rfl)
        unfold frmV
        go_wp2_with fail
        go_ret3
        exact ⟨by rw [HD.out]; rfl, HK5.out⟩
      · unfold frmV
        have hcs : (decide (m < 8) = true ∧ m < 8) ∨ (decide (m < 8) = false ∧ decide (2199023255552 ≤ m) = true ∧ 2199023255552 ≤ m) ∨ (decide (m < 8) = false ∧ decide (2199023255552 ≤ m) = false ∧ (m % 8 != (k : Int)) = true ∧ 8 ≤ m ∧ m < 2199023255552 ∧ m % 8 ≠ (k : Int)) ∨ (decide (m < 8) = false ∧ decide (2199023255552 ≤ m) = false ∧ (m % 8 != (k : Int)) = false ∧ 8 ≤ m ∧ m < 2199023255552 ∧ decide ((53 : Int) < ((txt x).size : Int)) = true ∧ 53 < x.length) ∨
            (decide (m < 8) = false ∧ decide (2199023255552 ≤ m) = false ∧ (m % 8 != (k : Int)) = false ∧ 8 ≤ m ∧ m < 2199023255552 ∧ decide ((53 : Int) < ((txt x).size : Int)) = false ∧ ¬ (m < 8 ∨ 2199023255552 ≤ m ∨ m % 8 ≠ (k : Int) ∨ 53 < x.length)) := by
          rw [txt_size]
          by_cases h1 : m < 8
          · left; exact ⟨by simpa using h1, h1⟩
          · right
            by_cases h2 : 2199023255552 ≤ m
            · left; exact ⟨by simpa using h1, by simpa using h2, h2⟩
            · right
              by_cases h3 : m % 8 = (k : Int)
              · right
                by_cases h4 : 53 < x.length
                · left; exact ⟨by simpa using h1, by simpa using h2, by simpa using h3, by omega, by omega, by simp; omega, h4⟩
                · right; exact ⟨by simpa using h1, by simpa using h2, by simpa using h3, by omega, by omega, by simp; omega, by omega⟩
              · left; exact ⟨by simpa using h1, by simpa using h2, by simpa using h3, by omega, by omega, h3⟩
        rcases hcs with ⟨t0, hb⟩ | ⟨t0, t1, hb⟩ | ⟨t0, t1, t2, t3, t4, hb⟩ | ⟨t0, t1, t2, t3, t4, t5, hb⟩ | ⟨t0, t1, t2, t3, t4, t5, hb⟩
        · have HD := Lib.hid (show ldV (decL k l) = .tuple #[.int .i64 0, .string ⟨#[]⟩, .bool false] by rw [takeL_no HR.out (.inl hb)]; rfl)
          clear hb
          go_wp2_with fail
          go_ret3
          exact ⟨by rw [HD.out]; rfl, HK5.out⟩
        · have HD := Lib.hid (show ldV (decL k l) = .tuple #[.int .i64 0, .string ⟨#[]⟩, .bool false] by rw [takeL_no HR.out (.inr (.inl hb))]; rfl)
          clear hb
          go_wp2_with fail
          go_ret3
          exact ⟨by rw [HD.out]; rfl, HK5.out⟩
        · have HD := Lib.hid (show ldV (decL k l) = .tuple #[.int .i64 0, .string ⟨#[]⟩, .bool false] by rw [takeL_no HR.out (.inr (.inr (.inl hb)))]; rfl)
          have hm : m.tmod 8 = m % 8 := Int.tmod_eq_emod_of_nonneg (by omega)
          clear hb
          go_wp2_with fail
          go_ret3
          exact ⟨by rw [HD.out]; rfl, HK5.out⟩
        · have HD := Lib.hid (show ldV (decL k l) = .tuple #[.int .i64 0, .string ⟨#[]⟩, .bool false] by rw [takeL_no HR.out (.inr (.inr (.inr hb)))]; rfl)
          have hm : m.tmod 8 = m % 8 := Int.tmod_eq_emod_of_nonneg (by omega)
          clear hb
          go_wp2_with fail
          go_ret3
          exact ⟨by rw [HD.out]; rfl, HK5.out⟩
        · have HD := Lib.hid (takeL_yes HR.out hb)
          have hm : m.tmod 8 = m % 8 := Int.tmod_eq_emod_of_nonneg (by omega)
          clear hb
          go_wp2_with fail
          go_ret3
          exact ⟨by rw [HD.out]; rfl, HK5.out⟩
def StD (w1 : World) (p : Nat) (F : Foot) (s s' : SDev) : Bool → World → Prop
  | false, w => DAt w p F s ∧ Keeps (fun _ => True) w1 w
  | true, w => DAt w p F s' ∧ Step F F w1 w
theorem StD.keep {w1 w w' : World} {p : Nat} {F : Foot} {s s' : SDev} {b : Bool} (h : Kp w w') (hs : StD w1 p F s s' b w) : StD w1 p F s s' b w' := by
  cases b
  · exact ⟨hs.1.keep (h.mono fun _ _ _ => trivial), hs.2.trans h⟩
  · obtain ⟨h1, h2⟩ := hs
    exact ⟨h1.keep (h.mono fun _ _ _ => trivial), h2.trans (Step.of_keeps h F)⟩
theorem StD.kp {w1 w : World} {p : Nat} {F : Foot} {s s' : SDev} (b : Bool) (hs : StD w1 p F s s' b w) : Keeps (fun b => ¬ F.M b) w1 w := by
  cases b
  · exact hs.2.mono fun _ _ _ => trivial
  · obtain ⟨h1, h2⟩ := hs
    exact h2.keeps
def VY (q p b sl k a g c : Nat) : Nat → World → Value → Prop
  | 0 => IsV (.pointer (some ⟨q, 0, none⟩))
  | 1 => IsV (.pointer (some ⟨q, 0, none⟩))
  | 2 => IsV (.pointer (some ⟨q, 0, none⟩))
  | 3 => IsV (.pointer (some ⟨p, 0, none⟩))
  | 4 => IsV (.pointer (some ⟨q, 0, none⟩))
  | 5 => IsV (.pointer (some ⟨b, 0, none⟩))
  | 6 => IsV (.int .i64 (sl : Int))
  | 7 => IsV (.int .i64 (k : Int))
  | 8 => IsV (.int .i64 (a : Int))
  | 9 => IsV (.slice (some ⟨g, 0, none⟩) 64 c)
  | 10 => IsV (.int .i64 0)
  | 11 => IsV (.int .i64 0)
  | _ => fun _ _ => True
theorem VY_any {q p b sl k a g c : Nat} (i : Nat) (w w' : World) (v : Value) (hv : VY q p b sl k a g c i w v) : VY q p b sl k a g c i w' v := by
  match i, hv with
  | 0, hv => exact hv
  | 1, hv => exact hv
  | 2, hv => exact hv
  | 3, hv => exact hv
  | 4, hv => exact hv
  | 5, hv => exact hv
  | 6, hv => exact hv
  | 7, hv => exact hv
  | 8, hv => exact hv
  | 9, hv => exact hv
  | 10, hv => exact hv
  | 11, hv => exact hv
  | n + 12, _ => trivial
set_option maxRecDepth 100000 in
set_option maxHeartbeats 4000000 in
theorem llay_own (w : World) (hT : Taken w) (q p i n : Nat) (hL : LHead w q p i n) (F : Foot) (s : SDev) (hd : DAt w p F s) (hq : ¬ F.all q) (hTM : ¬ F.M 0) (sl f k : Nat) (E : Value) (hE : E.oneCell' = true) (x : List UInt8) (hx : x.length ≤ 53)
    (hi : i ≤ 2048) (hsl : sl ≤ 2048) (hk : k < 8) (hf : f * 8 + k < 2199023255552) (hin : i + sl * 8 + k < s.now.length) (hcalls : s.calls ≤ 1099511627776) :
    Calls Tryz.prog 74 #[.pointer (some ⟨q, 0, none⟩), .agg #[.int .i64 (sl : Int), .int .i64 (f : Int), E], .int .i64 (k : Int), .string (txt x)] w fun e w' => e = .returned (.int .i64 0) ∧ DAt w' p F (s.write (i + sl * 8 + k) (encL (f * 8 + k) x)) ∧ Step F F w w' := by
  have HT := Lib.hid hT
  have HL := Lib.hid hL
  have HD := Lib.hid hd
  have HQ := Lib.hid (show ¬ F.M q from fun h => hq (.inl h))
  have HTF := Lib.hid hTM
  have HRF := Lib.hid hd.lt
  obtain ⟨w0, hw0⟩ : ∃ w0, w.alloc (.cells #[.int .i64 (sl : Int), .int .i64 (f : Int), E] 78) = w0 := ⟨_, rfl⟩
  have hk0 : Kp w w0 := by rw [← hw0]; exact (Keeps.refl _ w).alloc _
  have hb0 : w0.heap[w.heap.size]? = some (.cells #[.int .i64 (sl : Int), .int .i64 (f : Int), E] 78 (0, 0)) := by rw [← hw0]; exact heap_alloc_new w _
  have hz0 : w0.heap.size = w.heap.size + 1 := by rw [← hw0]; simp
  have HW0 := Lib.hid hw0
  have HK0 := Lib.hid hk0
  have HB0 := Lib.hid hb0
  have HZ0 := Lib.hid hz0
  have HEL := Lib.hid (encL_len (f * 8 + k) x hf hx)
  obtain ⟨a, ha⟩ : ∃ a, i + sl * 8 + k = a := ⟨_, rfl⟩
  rw [ha] at hin ⊢
  have HA := Lib.hid ha
  have HIN := Lib.hid hin
  have HFM := Lib.hid (fun hT => fmake_any w0 hT 76 76 rfl (f * 8 + k) x (by omega) (by omega) (headS_len (f * 8 + k) x hx hf))
  clear hT hL hd hq hTM hw0 hk0 hb0 hz0 ha hin
  have c0 : w0.cell? ⟨w.heap.size, 0, none⟩ = some (.int .i64 (sl : Int)) := (cell_of_block HB0.out 0).trans rfl
  have c1 : w0.cell? ⟨w.heap.size, 1, none⟩ = some (.int .i64 (f : Int)) := (cell_of_block HB0.out 1).trans rfl
  have c2 : w0.cell? ⟨w.heap.size, 2, none⟩ = some E := (cell_of_block HB0.out 2).trans rfl
  go_enter Tryz.func74, Tryz.ntmps74
  go_wp2_with fail
  rw [HW0.out]
  refine (number_any w0 _ f k E rfl hE (by omega) (by omega)).mono ?_
  rintro e w1 ⟨rfl, hk1⟩
  have HK1 := Lib.hid hk1
  clear hk1 c0 c1 c2
  go_wp2_with fail
  have hfm := fmake_any w1 (HT.out.keep (HK0.out.trans HK1.out)) 76 76 rfl (f * 8 + k) x (by omega) (by omega) (headS_len (f * 8 + k) x hx hf)
  try simp only [Int.natCast_add, Int.natCast_mul, Int.cast_ofNat_Int] at hfm
  refine hfm.mono ?_
  clear hfm
  rintro e w2 ⟨v, rfl, ho, hk2⟩
  rw [show encF 76 (f * 8 + k) x = encL (f * 8 + k) x from rfl] at ho
  have hel := HEL.out
  obtain ⟨g, cg, rfl, hbase, hglt⟩ := ho.form (by rw [hel]; decide)
  have hrow := own_row ho
  rw [hel] at ⊢
  have HK2 := Lib.hid (HK1.out.trans hk2)
  have HRW := Lib.hid hrow
  have HG := Lib.hid (show ¬ F.all g from fun hf => by have := HRF.out g hf; have := HK0.out.size; have := HK1.out.size; omega)
  clear ho hk2 hrow hbase hglt hel
  go_wp2_with fail
  have HD2 := Lib.hid (HD.out.keep ((HK0.out.trans HK2.out).mono fun _ _ _ => trivial))
  have HL2 := Lib.hid (HL.out.keep (HK0.out.trans HK2.out) trivial)
  have HB2 := Lib.hid ((HK2.out.block w.heap.size trivial (by rw [HZ0.out]; omega)).trans HB0.out)
  have HZ2 := Lib.hid (show w.heap.size < w2.heap.size from by have := HK2.out.size; have := HZ0.out; omega)
  refine wp_region_one (V := VY q p w.heap.size sl k a g cg) (w0 := w2) 10 (StD w2 p F s (s.write a (encL (f * 8 + k) x))) (fun w w' => Keeps (fun b => ¬ F.M b) w w') GE (by kernel_rfl) (fun i w w' v _ hv => VY_any i w w' v hv) (fun _ _ _ h hs => hs.keep h) (fun i _ w w' v _ hv => VY_any i w w' v hv) (by kernel_rfl) (by decide) GE_is (fun i o ho hw => (all_wanted (by kernel_rfl) ho hw).elim) ⟨HD2.out.keep ((Keeps.refl _ w2).drew.mono fun _ _ _ => trivial), (Keeps.refl _ w2).drew⟩ (each_of ?_) ?_
  · refine ⟨?_, ?_, ?_, ?_, ?_, ?_, ?_, ?_, ?_, ?_, ?_, ?_, trivial⟩ <;> intro hw a1 w3 L
    · rw [if_neg (by decide)]
      intro b hs _
      exact kp_move rfl (L.old 0 (by kernel_rfl))
    · rw [if_neg (by decide)]
      intro b hs _
      exact kp_nilL rfl (L.val 0 22 (by kernel_rfl) (by kernel_rfl))
    · rw [if_neg (by decide)]
      intro b hs _
      exact kp_fL0 rfl (L.val 1 23 (by kernel_rfl) (by kernel_rfl))
    · rw [if_neg (by decide)]
      intro b hs _
      exact kp_lDev ((StD.kp b hs).cell HL2.out.d HQ.out) rfl (L.val 2 24 (by kernel_rfl) (by kernel_rfl))
    · rw [if_neg (by decide)]
      intro b hs _
      exact kp_move rfl (L.old 0 (by kernel_rfl))
    · rw [if_neg (by decide)]
      intro b hs _
      exact kp_fG0 rfl (L.old 5 (by kernel_rfl))
    · rw [if_neg (by decide)]
      intro b hs _
      have hblk := ((StD.kp b hs).block w.heap.size (fun hm => by have := HRF.out _ (.inl hm); omega) HZ2.out).trans HB2.out
      exact kp_lInt ((cell_of_block hblk 0).trans rfl) rfl (L.val 5 27 (by kernel_rfl) (by kernel_rfl))
    · rw [if_neg (by decide)]
      intro b hs _
      exact kp_move rfl (L.old 2 (by kernel_rfl))
    · rw [if_neg (by decide)]
      intro b hs _
      have e0 : a1.eval (.tmp 26) = .pointer (some ⟨q, 0, none⟩) := L.val 4 26 (by kernel_rfl) (by kernel_rfl)
      have e1 : a1.eval (.tmp 28) = .int .i64 (sl : Int) := L.val 6 28 (by kernel_rfl) (by kernel_rfl)
      have e2 : a1.eval (.tmp 29) = .int .i64 (k : Int) := L.val 7 29 (by kernel_rfl) (by kernel_rfl)
      have hf : a1.eval (.func 66) = .func (.func 66) #[] #[] := rfl
      refine kp_enter (f := 66) (args := #[.pointer (some ⟨q, 0, none⟩), .int .i64 (sl : Int), .int .i64 (k : Int)]) ?_ (place_any w3 q p i n (HL2.out.keep (StD.kp b hs) HQ.out) sl k (by omega) (by omega) (by omega)) ?_
      · clear L hs
        generalize a1.eval = ρ at e0 e1 e2 hf ⊢
        unfold execOp
        go_simp
      · rintro e w' ⟨rfl, rfl⟩
        exact ⟨_, rfl, Keeps.refl _ _, by rw [HA.out]; rfl⟩
    · rw [if_neg (by decide)]
      intro b hs _
      exact kp_move rfl (L.old 9 (by kernel_rfl))
    · rw [if_pos rfl]
      rintro ⟨hd, hk⟩
      have e0 : a1.eval (.tmp 25) = .pointer (some ⟨p, 0, none⟩) := L.val 3 25 (by kernel_rfl) (by kernel_rfl)
      have e1 : a1.eval (.tmp 30) = .int .i64 (a : Int) := L.val 8 30 (by kernel_rfl) (by kernel_rfl)
      have e3 : a1.eval (.tmp 31) = .slice (some ⟨g, 0, none⟩) 64 cg := L.val 9 31 (by kernel_rfl) (by kernel_rfl)
      have hf : a1.eval (.func 90) = .func (.func 90) #[] #[] := rfl
      have hw := dwrite_own w3 p F s hd a (some ⟨g, 0, none⟩) cg (fun b => b = g) (encL (f * 8 + k) x) (HRW.out.keep (hk.mono fun _ _ _ => trivial)) (fun b hb => by rw [hb]; exact HG.out) HIN.out (by rw [HEL.out]; decide) hcalls
      rw [HEL.out] at hw
      refine one_call (f := 90) (args := #[.pointer (some ⟨p, 0, none⟩), .int .i64 (a : Int), .slice (some ⟨g, 0, none⟩) 64 cg]) ?_ hw ?_
      · clear hd hk L hw
        generalize a1.eval = ρ at e0 e1 e3 hf ⊢
        unfold execOp
        go_simp
      · rintro e w' ⟨rfl, hd', hst⟩
        exact ⟨_, rfl, hst.keeps, ⟨hd', (Step.of_keeps hk F).trans hst⟩, rfl⟩
    · rw [if_neg (by decide)]
      intro b hs _
      exact kp_assign rfl (L.val 10 32 (by kernel_rfl) (by kernel_rfl))
  · intro vs w8 hs8 hlen hv
    match vs, hlen with
    | [v0, v1, v2, v3, v4, v5, v6, v7, v8, v9, v10, v11], _ =>
      have e11 : v11 = .int .i64 0 := hv 11 8 (by kernel_rfl)
      clear hv
      subst e11
      simp only [putAll, List.map, Act.put, List.setIfInBounds_toArray, List.set_cons_succ, List.set_cons_zero, Exit.then]
      obtain ⟨hd8, hst8⟩ := hs8
      have H1 := Lib.hid (show DAt w8 p F (s.write a (encL (f * 8 + k) x)) ∧ Step F F w w8 from ⟨hd8, (Step.of_keeps (HK0.out.trans HK2.out) F).trans hst8⟩)
      clear hd8 hst8
      go_wp2_with fail
      go_ret
      exact ⟨rfl, H1.out⟩
theorem llay_any (w : World) (hT : Taken w) (q p i n : Nat) (hL : LHead w q p i n) (F : Foot) (s : SDev) (hd : DAt w p F s) (hq : ¬ F.all q) (hTM : ¬ F.M 0) (sl f k : Nat) (E : Value) (hE : E.oneCell' = true) (x : List UInt8) (hx : x.length ≤ 53)
    (hi : i ≤ 2048) (hsl : sl ≤ 2048) (hk : k < 8) (hf : f * 8 + k < 2199023255552) (hin : i + sl * 8 + k < s.now.length) (hcalls : s.calls ≤ 1099511627776) :
    Calls Tryz.prog 74 #[.pointer (some ⟨q, 0, none⟩), .agg #[.int .i64 (sl : Int), .int .i64 (f : Int), E], .int .i64 (k : Int), .string (txt x)] w fun e w' => e = .returned (.int .i64 0) ∧ ∃ F', DAt w' p F' (s.write (i + sl * 8 + k) (encL (f * 8 + k) x)) ∧ Step F F' w w' :=
  (llay_own w hT q p i n hL F s hd hq hTM sl f k E hE x hx hi hsl hk hf hin hcalls).mono fun _ _ h => ⟨h.1, F, h.2⟩
end Go.Proofs.YtpijdefadmfahaaGreatDoor
end
