/-
  PtOk, MadeRead, InvOrd, ItemEq, TabLaid: texts of mine, joined.
-/
import Derived.Test.YtemkjodkmehffaaGreatDoorAllA03
import Derived.Deep.CutRange
import Derived.Test.YtemkjodkmehffaaGreatDoorAllA11
import Derived.Test.YtemkjodkmehffaaGreatDoorAllA05
import Derived.Test.YtemkjodkmehffaaGreatDoorAllA02
import Derived.Deep.RegionWith
import Derived.Deep.RegionLaw
import Derived.WalkSpells
import Derived.Lib.SmallJoins
import Derived.BigQuiet
import Derived.Test.YtemkjodkmehffaaGreatDoorAllA20
import Derived.Test.YtemkjodkmehffaaGreatDoorAllA18
import Derived.Test.YtemkjodkmehffaaGreatDoorRows
import Derived.Test.YtemkjodkmehffaaGreatDoorTie
namespace Go.Proofs.YtemkjodkmehffaaGreatDoor
open Go Go.RowKit Go.Joins
def lastN (l : List Int) (k : Nat) : Int := if k = 0 then 0 else l.getD (k - 1) 0
theorem nodeB_no1 {l : List Int} {k : Nat} {x : Int} (hg : l.getD k 0 = x) (h : x ≤ lastN l k) : nodeB l k = false := by
 unfold lastN at h
 unfold nodeB
 rw [hg]
 split at h
 ·have : decide (1 ≤ x) = false := by simp; omega
  rw [this]; rfl
 ·rename_i h0
  have h1 : decide (k = 0) = false := by simpa using h0
  have h2 : decide (l.getD (k - 1) 0 < x) = false := decide_eq_false (by omega)
  rw [h1, h2]; simp
theorem nodeB_no5 {l : List Int} {k : Nat} {x : Int} (hg : l.getD k 0 = x) (h : 5 < x) : nodeB l k = false := by
 unfold nodeB
 rw [hg]
 have : decide (x ≤ 5) = false := by simp; omega
 rw [this]; simp
theorem nodeB_yes {l : List Int} {k : Nat} {x : Int} (hg : l.getD k 0 = x) (h : lastN l k < x) (h5 : x ≤ 5) (hb : ∀ j, j < k → nodeB l j = true) : nodeB l k = true := by
 unfold lastN at h
 split at h
 ·rename_i h0
  unfold nodeB
  rw [hg]
  simp [h0]
  omega
 ·rename_i h0
  have h1 := hb (k - 1) (by omega)
  unfold nodeB at h1 ⊢
  rw [hg]
  simp only [Bool.and_eq_true, Bool.or_eq_true, decide_eq_true_eq] at h1 ⊢
  exact ⟨by omega, h5, .inr h⟩
theorem lastN_succ {l : List Int} {k : Nat} {x : Int} (hg : l.getD k 0 = x) : lastN l (k + 1) = x := by
 unfold lastN
 rw [if_neg (by omega)]
 exact hg
set_option maxRecDepth 100000 in
set_option maxHeartbeats 1000000 in
theorem may_any (w : World) (A : Option Addr) (c : Nat) (l : List Int) (hr : Row w A (fun _ => True) (l.map (Value.int .i64))) (hl : l.length ≤ c) (hc : c ≤ maxLen) :
  Calls Tryz.prog 49 #[.slice A l.length c] w fun e w' => e = .returned (.bool (nodesB l)) ∧ Kp w w' := by
 have HR := Lib.hid hr
 unfold maxLen at hc
 clear hr
 go_enter Tryz.func49, Tryz.ntmps49
 go_wp2_with fail
 go_loopw [3, 8] (fun v i wr => ∃ (k : Nat) (z : Int), k ≤ l.length ∧ i = .int .i64 (k : Int) ∧ v = .int .i64 z ∧ Hid (z = lastN l k) ∧ Hid (∀ j, j < k → nodeB l j = true) ∧ Hid (Kp w wr)) (fun _ i _ => l.length - (intOf i).toNat)
 case atStart => exact ⟨0, 0, Nat.zero_le _, rfl, rfl, Lib.hid rfl, Lib.hid (fun j hj => absurd hj (Nat.not_lt_zero _)), Lib.hid (Keeps.refl _ _)⟩
 case round =>
  obtain ⟨k, z, hk, rfl, rfl, HZ, HJ, HW⟩ := hrel
  by_cases hlt : k < l.length
  ·have hlt' : (k : Int) < (l.length : Int) := by omega
   obtain ⟨b, o, rfl, -, c0⟩ := HR.out.at_ (k := k) (by simpa using hlt)
   rw [List.getElem_map] at c0
   replace c0 := HW.out.cell c0 trivial
   have hg : l.getD k 0 = l[k] := by rw [List.getD_eq_getElem?_getD, List.getElem?_eq_getElem hlt]; rfl
   have HG := Lib.hid hg
   generalize l[k] = x at c0 HG
   clear hg
   have hcs : decide (x ≤ z) = true ∨ (decide (x ≤ z) = false ∧ decide (5 < x) = true) ∨ (decide (x ≤ z) = false ∧ decide (5 < x) = false) := by
    cases decide (x ≤ z) <;> cases decide (5 < x) <;> simp
   rcases hcs with t | ⟨t, t1⟩ | ⟨t, t1⟩
   ·have HN := Lib.hid (nodesB_no hlt (nodeB_no1 HG.out (by rw [← HZ.out]; exact of_decide_eq_true t)))
    go_wp2_with fail
    go_ret
    exact ⟨by rw [HN.out]; rfl, HW.out⟩
   ·have HN := Lib.hid (nodesB_no hlt (nodeB_no5 HG.out (of_decide_eq_true t1)))
    go_wp2_with fail
    go_ret
    exact ⟨by rw [HN.out]; rfl, HW.out⟩
   ·have HJ2 := Lib.hid (show ∀ j, j < k + 1 → nodeB l j = true from fun j hj => by
     rcases Nat.lt_or_ge j k with h | h
     ·exact HJ.out j h
     ·obtain rfl : j = k := by omega
      exact nodeB_yes HG.out (by rw [← HZ.out]; have := of_decide_eq_false t; omega) (by have := of_decide_eq_false t1; omega) HJ.out)
    have HZ2 := Lib.hid (show x = lastN l (k + 1) from (lastN_succ HG.out).symm)
    clear HJ HZ HG
    go_wp2_with fail
    go_roundw
    case rel => exact ⟨k + 1, x, hlt, by go_num, rfl, HZ2, HJ2, HW⟩
    case measure => simp [intOf]; omega
  ·obtain rfl : k = l.length := by omega
   have hlt' : ¬ ((l.length : Int) < (l.length : Int)) := by omega
   have HN := Lib.hid (show nodesB l = decide (0 < l.length) from by
    cases h0 : decide (0 < l.length) with
    | true => exact nodesB_iff.2 ⟨of_decide_eq_true h0, HJ.out⟩
    | false => unfold nodesB; rw [h0]; rfl)
   clear hlt HJ HZ
   go_wp2_with fail
   go_ret
   exact ⟨by rw [HN.out]; rfl, HW.out⟩
set_option maxHeartbeats 400000 in
theorem dread_any (w : World) (p : Nat) (F : Foot) (s : SDev) (h : DAt w p F s) (i : Int) (hi1 : -9223372036854775808 ≤ i) (hi2 : i < 9223372036854775808) :
  Calls Tryz.prog 89 #[.pointer (some ⟨p, 0, none⟩), .int .i64 i] w fun e w' => ∃ v, e = .returned (.tuple #[v, .int .i64 (s.readE i)]) ∧ OwnB w' w.heap.size v (s.readL i) ∧ Keeps (fun _ => True) w w' := by
 have hch := dcheck_any w p F s h i
 by_cases hi : i < 0 ∨ (s.now.length : Int) ≤ i
 ·have hr : s.readE i = 4 := if_pos hi
  have hl : s.readL i = [] := if_pos hi
  rw [hr] at hch ⊢
  rw [hl]
  have H := Lib.hid (show ∃ v, Ending.returned (.tuple #[.slice none 0 0, .int .i64 4]) = .returned (.tuple #[v, .int .i64 4]) ∧ OwnB w w.heap.size v [] ∧ Keeps (fun _ => True) w w from ⟨_, rfl, World.ownsRow_nil _ _ _ _, Keeps.refl _ _⟩)
  have HC := Lib.hid hch
  clear hr hl hch h hi hi1 hi2
  go_enter Tryz.func89, Tryz.ntmps89
  go_wp2_with fail
  refine HC.out.mono ?_
  rintro e w' ⟨rfl, rfl⟩
  go_wp2_with fail
  go_ret2
  exact H.out
 ·have hr : s.readE i = 0 := if_neg hi
  obtain ⟨k, rfl⟩ : ∃ k : Nat, i = (k : Int) := ⟨i.toNat, by omega⟩
  have hk : k < s.now.length := by omega
  have hl : s.readL (k : Int) = s.now[k] := (if_neg hi).trans (by rw [Int.toNat_natCast, getD_mem _ _ _ hk])
  rw [hr] at hch ⊢
  rw [hl]
  obtain ⟨g, c, m, h1, h2, h3, h4, m1, m2, m3⟩ := h.ex
  have c0 : w.cell? ⟨p, 0, none⟩ = some (.slice (some ⟨g, 0, none⟩) s.now.length c) := (cell_of_block h1 0).trans rfl
  have hlen : s.now[k].length = 64 := h.ok.nrow _ (List.getElem_mem hk)
  have hcl := clone_any (some ⟨g, k * 64, none⟩) 64 (fun _ => True) s.now[k] w (fun _ => ⟨g, k * 64, rfl, trivial, DAt.row h2 h.ok.nrow k hk⟩) (by omega)
  rw [hlen] at hcl
  have hsm := h.ok.small
  have HC := Lib.hid hch
  have HL := Lib.hid hcl
  clear hr hl hch h hi hi1 hi2 h1 h2 h3 h4 hcl hlen m1 m2 m3
  go_enter Tryz.func89, Tryz.ntmps89
  go_wp2_with fail
  refine HC.out.mono ?_
  rintro e w' ⟨rfl, rfl⟩
  go_wp2_with fail
  refine HL.out.mono ?_
  rintro e w' ⟨v, rfl, ho, hk'⟩
  have H1 := Lib.hid ho
  have H2 := Lib.hid hk'
  clear ho hk'
  go_wp2_with fail
  go_ret2
  exact ⟨_, rfl, H1.out, H2.out⟩
end Go.Proofs.YtemkjodkmehffaaGreatDoor
namespace Go.Proofs.YtemkjodkmehffaaGreatDoor
open Go Go.RowKit
def GO (gs : List (Nat × Option Bool)) (g : Nat) : Option Bool := match gs.lookup g with | some b => b | none => none
theorem GO_mem {gs : List (Nat × Option Bool)} {g : Nat} {c : Option Bool} (h : gs.lookup g = some c) : (g, c) ∈ gs := by
 induction gs with
 | nil => cases h
 | cons p l ih =>
  obtain ⟨a, b⟩ := p
  simp only [List.lookup_cons] at h
  split at h
  ·rename_i e; cases h; rw [eq_of_beq e]; exact List.mem_cons_self
  ·exact List.mem_cons_of_mem _ (ih h)
end Go.Proofs.YtemkjodkmehffaaGreatDoor
namespace Go.Proofs.YtemkjodkmehffaaGreatDoor
open Go Go.RowKit Go.Joins
end Go.Proofs.YtemkjodkmehffaaGreatDoor
namespace Go.Proofs.YtemkjodkmehffaaGreatDoor
open Go Go.ChangeShapes Go.WideShapes Go.ChangeAt Go.RowKit
theorem own : ownKnob Tryz.prog.godebug = none := by kernel_rfl
set_option maxRecDepth 100000 in
theorem laidOut : laidOutB Tryz.prog = true := by kernel_rfl
theorem gTaken : Tryz.prog.globalNamed "icehouse/crc.taken" = some 0 := by kernel_rfl
theorem tTaken : (Tryz.prog.globals[0]?).map (·.type) = some 204 := by kernel_rfl
abbrev listed : List (String × DataW Unit) := [("icehouse/crc.taken", Rows.laid_icehouse_crc_taken)]
set_option maxRecDepth 100000 in
theorem door_met (os : Os) (args : Array Value) : laidMetH Tryz.prog listed ((World.doorLaid Tryz.prog 400 os).forCall (fun _ _ => 0) ⟨#[], args, []⟩).memory :=
 laidMetH_of_parts3 (fuel := 8) (laidMet_of_run' 8 (by kernel_rfl) (by kernel_rfl)) (by kernel_rfl) (by kernel_rfl)
def tab : List (DataW Unit) := (List.range 16).map fun i => .lit (.int .u32 ((tbits 4 i : Nat) : Int))
theorem tab_is : (Rows.laid_icehouse_crc_taken : DataW Unit) = .agg tab := by kernel_rfl
set_option maxRecDepth 100000 in
theorem taken_of {W : World} (h : laidMetH Tryz.prog listed W) : Taken W := by
 rw [MakeChecks.laidMetH_plain _ _ _ (by kernel_rfl)] at h
 obtain ⟨ps, ⟨g0, t0, cs0, f0, p0, q0, hg0, ht0, hv0, hd0, _⟩, _⟩ := h
 obtain rfl := Option.some.inj (gTaken.symm.trans hg0)
 obtain rfl := Option.some.inj (tTaken.symm.trans ht0)
 rw [tab_is] at hd0
 obtain ⟨xs, m, rfl, hx, hlen, hn, hel⟩ := DataW.trod_array Tryz.underlying204 hd0
 have c1 : Tryz.prog.cellsOf 163 = 1 := by kernel_rfl
 simp only [Prod.mk.injEq, DataW.agg.injEq] at hx
 intro i hi
 have he := hel i hi
 rw [c1, Nat.mul_one] at he
 have hxi : i < xs.length := by omega
 rw [List.getElem?_eq_getElem hxi] at he
 obtain ⟨n, e1, e2, _⟩ := DataW.trod_int Tryz.underlying163 he
 have e3 : (xs.map (·.1))[i]? = some (.lit (.int .u32 n)) := by rw [List.getElem?_map, List.getElem?_eq_getElem hxi, e2]; rfl
 rw [← hx.1] at e3
 have e4 : tab[i]? = some (.lit (.int .u32 ((tbits 4 i : Nat) : Int))) := by unfold tab; simp [hi]
 rw [e4] at e3
 have hk : n = ((tbits 4 i : Nat) : Int) := by injection e3 with e; injection e with e; injection e with _ e; exact e.symm
 have hc := World.var?_cell hg0 hv0 i
 rw [hc]
 have e5 : cs0.toList[i]? = some (.int .u32 n) := by
  have := congrArg (·[0]?) e1
  simpa [List.getElem?_take, List.getElem?_drop] using this
 rw [← Array.getElem?_toList, e5, hk]
end Go.Proofs.YtemkjodkmehffaaGreatDoor
