/-
  Dv, SlgSmall, SlgLoad: texts of mine, joined.
-/
import Derived.Test.YticophaepapjoaaGreatDoorAllB11
import Derived.Test.YticophaepapjoaaGreatDoorAllB08
import Derived.Test.YticophaepapjoaaGreatDoorAllB09
open Go.Lib renaming hid → Hd
set_option maxRecDepth 100000
set_option maxHeartbeats 8000000
namespace Go.Proofs.YticophaepapjoaaGreatDoor
open Go Go.RowKit Go.Joins
def SDev.still (rows : List (List UInt8)) (n : Nat) : SDev := ⟨rows, rows, List.replicate rows.length false, n⟩
theorem still_loose (rows : List (List UInt8)) (n : Nat) : (SDev.still rows n).loose = [] := clear_loose _ rows.length rfl
theorem still_crash (rows : List (List UInt8)) (n : Nat) (keep : List Bool) : (SDev.still rows n).crash keep = SDev.still rows 0 := by
 have h : keptN (SDev.still rows n) keep (min (SDev.still rows n).loose.length keep.length) = rows := by rw [still_loose]; simp [keptN_zero, SDev.still]
 unfold SDev.crash
 rw [h]; rfl
theorem new_still (k : Nat) : SDev.new k = SDev.still (List.replicate k blank) 0 := by simp [SDev.new, SDev.still]
structure Dv (W w : World) (p : Nat) (F : Foot) (s : SDev) : Prop where
 d : DAt w p F s
 gd : ∀ b, F.all b → W.heap.size ≤ b
 kp : Keeps (fun _ => True) W w
section
variable {W w w' : World} {p q : Nat} {F F' Fs Fs' : Foot} {s s' : SDev}
theorem Dv.keep (h : Dv W w p F s) (hk : Keeps (fun _ => True) w w') : Dv W w' p F s := ⟨h.d.keep (hk.mono fun _ _ _ => trivial), h.gd, h.kp.trans hk⟩
theorem Dv.step (h : Dv W w p F s) (hr : DAt w' p F' s') (hs : Step F F' w w') : Dv W w' p F' s' :=
 ⟨hr, fun b hb => by
  rcases hs.all b hb with h1 | h1
  ·exact h.gd b h1
  ·exact Nat.le_trans h.kp.size h1, hs.old (fun b hb => h.gd b (.inl hb)) h.kp⟩
theorem dv_new (hk : Keeps (fun _ => True) W w) (n : Nat) (h1 : 1 ≤ n) (h2 : n ≤ 2048) (z : Int) (hz : z = (n : Int)) :
  Calls Tryz.prog 10 #[.int .i64 z] w fun e w' => ∃ p F, e = .returned (.pointer (some ⟨p, 0, none⟩)) ∧ Dv W w' p F (SDev.still (List.replicate n blank) 0) ∧ (∀ b, F.all b → w.heap.size ≤ b) ∧ Keeps (fun _ => True) w w' := by
 subst hz
 refine (dnew_any w (n : Int) (by omega) (by omega)).mono ?_
 rintro e w' ⟨p, F, rfl, hD, hF, hk'⟩
 have e : clampN (n : Int) = n := by unfold clampN; omega
 rw [e, new_still] at hD
 exact ⟨p, F, rfl, ⟨hD, fun b hb => Nat.le_trans hk.size (hF b hb), hk.trans hk'⟩, hF, hk'⟩
theorem d_read (h : DAt w p F s) (i : Nat) (hi : i < s.now.length) :
  Calls Tryz.prog 146 #[.pointer (some ⟨p, 0, none⟩), .int .i64 (i : Int)] w fun e w' => ∃ g c, e = .returned (.tuple #[.slice (some ⟨g, 0, none⟩) 64 c, .int .i64 0]) ∧ Row w' (some ⟨g, 0, none⟩) (fun b => w.heap.size ≤ b ∧ b < w'.heap.size) (bcells (s.now.getD i [])) ∧ c ≤ maxLen ∧ 64 ≤ c ∧ Keeps (fun _ => True) w w' := by
 have hsm := h.ok.small
 refine (dread_any w p F s h (i : Int) (by omega) (by omega)).mono ?_
 rintro e w' ⟨v, rfl, ho, hk⟩
 have e1 : s.readL (i : Int) = s.now.getD i [] := (if_neg (by omega)).trans (by rw [Int.toNat_natCast])
 have e2 : s.readE (i : Int) = 0 := if_neg (by omega)
 have hl : (s.now.getD i []).length = 64 := by rw [getD_mem _ _ _ hi]; exact h.ok.nrow _ (List.getElem_mem hi)
 rw [e1] at ho
 rw [e2]
 obtain ⟨g, c, rfl, hge, hlt⟩ := World.ownsRow.form ho (by omega)
 have hroom := own_room ho
 have hr : Row w' (some ⟨g, 0, none⟩) (fun b => w.heap.size ≤ b ∧ b < w'.heap.size) (bcells (s.now.getD i [])) := by
  have ho' := ho
  unfold OwnB at ho'
  rw [show (s.now.getD i []).length = (bcells (s.now.getD i [])).length by rw [bcells_len]] at ho'
  exact Row.of_own ho'
 rw [hl] at hroom
 exact ⟨g, c, by rw [hl], hr, hroom.2, hroom.1, hk⟩
end
structure LHead (w : World) (q p i n : Nat) : Prop where
 d : w.cell? ⟨q, 0, none⟩ = some (.pointer (some ⟨p, 0, none⟩))
 i : w.cell? ⟨q, 1, none⟩ = some (.int .i64 (i : Int))
 n : w.cell? ⟨q, 2, none⟩ = some (.int .i64 (n : Int))
theorem LHead.keep {w w' : World} {q p i n : Nat} {F : Nat → Prop} (h : LHead w q p i n) (hk : Keeps F w w') (hF : F q) : LHead w' q p i n := ⟨hk.cell h.d hF, hk.cell h.i hF, hk.cell h.n hF⟩
theorem down_no (w : World) (q p i n : Nat) (h : LHead w q p i n) : Calls Tryz.prog 75 #[.pointer (some ⟨q, 0, none⟩)] w fun e w' => e = .returned (.bool false) ∧ w = w' := by
 have c0 := h.d
 clear h
 go_enter Tryz.func75, Tryz.ntmps75
 go_wp2
 go_ret
 exact ⟨rfl, rfl⟩
theorem fits_any (w : World) (n : Nat) (hn : n ≤ maxLen) : Calls Tryz.prog 103 #[.int .i64 (n : Int)] w fun e w' => e = .returned (.bool (decide (1 ≤ n ∧ n ≤ 300))) ∧ w = w' := by
 unfold maxLen at hn
 by_cases h1 : 1 ≤ n
 ·have d1 : decide ((1 : Int) ≤ (n : Int)) = true := by simp; omega
  have e : decide (1 ≤ n ∧ n ≤ 300) = decide ((n : Int) ≤ 300) := by rw [Bool.eq_iff_iff]; simp; omega
  rw [e]
  clear e h1
  go_enter Tryz.func103, Tryz.ntmps103
  go_wp2
  go_ret
  exact ⟨rfl, rfl⟩
 ·have d1 : decide ((1 : Int) ≤ (n : Int)) = false := by simp; omega
  have e : decide (1 ≤ n ∧ n ≤ 300) = false := by simp; omega
  rw [e]
  clear e h1
  go_enter Tryz.func103, Tryz.ntmps103
  go_wp2
  go_ret
  exact ⟨rfl, rfl⟩
theorem place_any (w : World) (q p i n : Nat) (h : LHead w q p i n) (s k : Nat) (hi : i ≤ 4096) (hs : s ≤ 4096) (hk : k ≤ 4096) : Calls Tryz.prog 169 #[.pointer (some ⟨q, 0, none⟩), .int .i64 (s : Int), .int .i64 (k : Int)] w fun e w' => e = .returned (.int .i64 ((i + s * 8 + k : Nat) : Int)) ∧ w = w' := by
 have c0 := h.i
 clear h
 have e : ((i + s * 8 + k : Nat) : Int) = (i : Int) + (s : Int) * 8 + (k : Int) := by omega
 rw [e]
 clear e
 go_enter Tryz.func169, Tryz.ntmps169
 go_wp2
 go_ret
 exact ⟨rfl, rfl⟩
theorem behind_any (w : World) (q p i n : Nat) (h : LHead w q p i n) (s : Nat) (hn : 1 ≤ n) (hn2 : n ≤ 4096) (hs : s ≤ 4096) : Calls Tryz.prog 134 #[.pointer (some ⟨q, 0, none⟩), .int .i64 (s : Int)] w fun e w' => e = .returned (.int .i64 (((s + 1) % n : Nat) : Int)) ∧ w = w' := by
 have c0 := h.n
 clear h
 have e : (((s + 1) % n : Nat) : Int) = ((s : Int) + 1).tmod (n : Int) := by
  rw [Int.tmod_eq_emod_of_nonneg (by omega)]; simp
 have hne : ¬ ((n : Int) = 0) := by omega
 have hne2 : (((n : Int)) == 0) = false := by simp; omega
 have hb : -9223372036854775808 ≤ ((s : Int) + 1).tmod (n : Int) ∧ ((s : Int) + 1).tmod (n : Int) < 9223372036854775808 := by
  rw [← e]
  have := Nat.mod_lt (s + 1) (show 0 < n by omega)
  omega
 rw [e]
 clear e
 generalize hm : ((s : Int) + 1).tmod (n : Int) = m at hb ⊢
 go_enter Tryz.func134, Tryz.ntmps134
 go_wp2
 go_ret
 exact ⟨rfl, rfl⟩
theorem sthere_yes (w : World) (p : Nat) (F : Foot) (s : SDev) (h : DAt w p F s) (i n : Nat) (h1 : 3 ≤ n) (h2 : n ≤ 200) (hi : i + 8 * n ≤ s.now.length) :
  Calls Tryz.prog 127 #[.pointer (some ⟨p, 0, none⟩), .int .i64 (i : Int), .int .i64 (n : Int)] w fun e w' => e = .returned (.bool true) ∧ w = w' := by
 have hl := Hd (dlen_any w p F s h)
 have hsm := h.ok.small
 have d1 : decide ((3 : Int) ≤ (n : Int)) = true := by simp; omega
 have d2 : decide ((n : Int) ≤ 200) = true := by simp; omega
 have d3 : decide ((i : Int) ≤ (s.now.length : Int) - (n : Int) * 8) = true := by simp; omega
 have b1 : 8 * n ≤ s.now.length := by omega
 clear h hi
 go_enter Tryz.func127, Tryz.ntmps127
 go_wp2_with fail
 refine hl.out.mono ?_
 rintro e w' ⟨rfl, rfl⟩
 go_wp2_with fail
 go_ret
 exact ⟨rfl, rfl⟩
def endsC (rs : List LRec) : List Value := (List.range rs.length).map fun i => .int .i64 (endAt rs (i + 1) : Int)
theorem endsC_len (rs : List LRec) : (endsC rs).length = rs.length := by simp [endsC]
theorem endsC_at (rs : List LRec) (i : Nat) (h : i < rs.length) : (endsC rs)[i]? = some (.int .i64 (endAt rs (i + 1) : Int)) := by simp [endsC, h]
theorem endAt_snoc (rs : List LRec) (r : LRec) (i : Nat) (h : i ≤ rs.length) : endAt (rs ++ [r]) i = endAt rs i := by
 unfold endAt; rw [List.take_append_of_le_length h]
theorem endsC_snoc (rs : List LRec) (r : LRec) : endsC (rs ++ [r]) = endsC rs ++ [.int .i64 ((endAt rs rs.length + (putT r.body).length : Nat) : Int)] := by
 unfold endsC
 rw [List.length_append, List.length_singleton, List.range_succ, List.map_append, List.map_singleton]
 congr 1
 ·refine List.map_congr_left fun i hi => ?_
  rw [endAt_snoc rs r (i + 1) (List.mem_range.1 hi)]
 ·rw [endAt_next (rs ++ [r]) rs.length (by simp), endAt_snoc rs r _ (Nat.le_refl _), List.getElem_concat_length rfl]
theorem count_any (w : World) (u v : Value) (A : Option Addr) (n c : Nat) (_h1 : u.oneCell' = true) (_h2 : v.oneCell' = true) : Calls Tryz.prog 148 #[.agg #[u, v, .slice A n c]] w fun e w' => e = .returned (.int .i64 (n : Int)) ∧ Kp w w' := by
 go_enter Tryz.func148, Tryz.ntmps148
 go_wp2
 go_ret
 exact ⟨rfl, (Keeps.refl _ _).alloc _⟩
theorem number_any (w : World) (u : Value) (f k : Nat) (E : Value) (_h1 : u.oneCell' = true) (_h2 : E.oneCell' = true) (hf : f ≤ 274877906944) (hk : k ≤ 4096) : Calls Tryz.prog 168 #[.agg #[u, .int .i64 (f : Int), E], .int .i64 (k : Int)] w fun e w' => e = .returned (.int .i64 ((f * 8 + k : Nat) : Int)) ∧ Kp w w' := by
 have e : ((f * 8 + k : Nat) : Int) = (f : Int) * 8 + (k : Int) := by omega
 rw [e]
 clear e
 go_enter Tryz.func168, Tryz.ntmps168
 go_wp2
 go_ret
 exact ⟨rfl, (Keeps.refl _ _).alloc _⟩
theorem start_any (w : World) (u v : Value) (A : Option Addr) (c : Nat) (G : Nat → Prop) (rs : List LRec) (_h1 : u.oneCell' = true) (_h2 : v.oneCell' = true) (hr : Row w A G (endsC rs)) (hn : rs.length ≤ 4096) (i : Nat) (hi : i ≤ rs.length) :
  Calls Tryz.prog 149 #[.agg #[u, v, .slice A rs.length c], .int .i64 (i : Int)] w fun e w' => e = .returned (.int .i64 (endAt rs i : Int)) ∧ Kp w w' := by
 by_cases h0 : i = 0
 ·subst h0
  rw [endAt_zero]
  clear hr
  go_enter Tryz.func149, Tryz.ntmps149
  go_wp2
  go_ret
  exact ⟨rfl, (Keeps.refl _ _).alloc _⟩
 ·obtain ⟨k, rfl⟩ : ∃ k, i = k + 1 := ⟨i - 1, by omega⟩
  have hk : k < rs.length := by omega
  obtain ⟨b, o, rfl, -, hc⟩ := hr (by intro e; have := congrArg List.length e; rw [endsC_len, List.length_nil] at this; omega)
  have hce := hc k _ (endsC_at rs k hk)
  have hce2 : ∀ ob, (w.alloc ob).cell? ⟨b, o + k, none⟩ = some (.int .i64 (endAt rs (k + 1) : Int)) := fun ob => ((Keeps.refl (fun _ => True) w).alloc ob).cell hce trivial
  have d0 : ((((k : Nat) : Int) + 1) == 0) = false := by simp; omega
  have e : (((k + 1 : Nat) : Int)) = (k : Int) + 1 := by omega
  rw [e]
  have HE := Hd hce2
  clear hc hi h0 e hce
  generalize (endAt rs (k + 1)) = z at hce2 HE ⊢
  go_enter Tryz.func149, Tryz.ntmps149
  go_wp2
  go_ret
  exact ⟨rfl, (Keeps.refl _ _).alloc _⟩
def SecV (l : List UInt8) : World → Value → Prop := fun w v => ∃ g c, v = .tuple #[.slice (some ⟨g, 0, none⟩) 64 c, .int .i64 0] ∧ Row w (some ⟨g, 0, none⟩) (fun _ => True) (bcells l) ∧ c ≤ maxLen ∧ 64 ≤ c
theorem SecV.mono {l : List UInt8} {w w' : World} {v : Value} (h : Kp w w') (hv : SecV l w v) : SecV l w' v := by
 obtain ⟨g, c, e, hr, h1, h2⟩ := hv
 exact ⟨g, c, e, hr.keep h, h1, h2⟩
def SecS (l : List UInt8) : World → Value → Prop := fun w v => ∃ g c, v = .slice (some ⟨g, 0, none⟩) 64 c ∧ Row w (some ⟨g, 0, none⟩) (fun _ => True) (bcells l) ∧ c ≤ maxLen ∧ 64 ≤ c
theorem SecS.mono {l : List UInt8} {w w' : World} {v : Value} (h : Kp w w') (hv : SecS l w v) : SecS l w' v := by
 obtain ⟨g, c, e, hr, h1, h2⟩ := hv
 exact ⟨g, c, e, hr.keep h, h1, h2⟩
def ldV : Option (Nat × List UInt8) → Value
 | none => .tuple #[.int .i64 0, .string ⟨#[]⟩, .bool false]
 | some (n, x) => .tuple #[.int .i64 (n : Int), .string (txt x), .bool true]
def VL (q p s k a : Nat) (l : List UInt8) : Nat → World → Value → Prop
 | 0 => IsV (.pointer (some ⟨q, 0, none⟩))
 | 1 => IsV (.pointer (some ⟨q, 0, none⟩))
 | 2 => IsV (.pointer (some ⟨q, 0, none⟩))
 | 3 => IsV (.pointer (some ⟨p, 0, none⟩))
 | 4 => IsV (.pointer (some ⟨q, 0, none⟩))
 | 5 => IsV (.int .i64 (s : Int))
 | 6 => IsV (.int .i64 (k : Int))
 | 7 => IsV (.int .i64 (a : Int))
 | 8 => SecV l
 | 9 => SecV l
 | 10 => SecS l
 | 11 => IsV (.int .i64 0)
 | 12 => SecS l
 | 13 => IsV (.int .i64 0)
 | _ => fun _ _ => True
theorem VL_mono {q p s k a : Nat} {l : List UInt8} (i : Nat) (w w' : World) (v : Value) (h : Kp w w') (hv : VL q p s k a l i w v) : VL q p s k a l i w' v := by
 match i, hv with
 | 0, hv => exact hv
 | 1, hv => exact hv
 | 2, hv => exact hv
 | 3, hv => exact hv
 | 4, hv => exact hv
 | 5, hv => exact hv
 | 6, hv => exact hv
 | 7, hv => exact hv
 | 8, hv => exact SecV.mono h hv
 | 9, hv => exact SecV.mono h hv
 | 10, hv => exact SecS.mono h hv
 | 11, hv => exact hv
 | 12, hv => exact SecS.mono h hv
 | 13, hv => exact hv
 | n + 14, _ => trivial
section
variable {o : Oper} {a : Act} {w : World} {Q : Exit → Act → World → Prop} {x y : Operand}
theorem kp_mvP {V : World → Value → Prop} (ho : o.op = .move x) (hx : V w (a.eval x)) : o.wp Tryz.prog a w (fun a' w' => ∃ v', a' = a.put o.dst v' ∧ Kp w w' ∧ V w' v') Q := by
 unfold Oper.wp execOp
 rw [ho]
 exact ⟨a.eval x, rfl, Keeps.refl _ _, hx⟩
theorem kp_asP {V : World → Value → Prop} (ho : o.op = .assign x) (hx : V w (a.eval x)) : o.wp Tryz.prog a w (fun a' w' => ∃ v', a' = a.put o.dst v' ∧ Kp w w' ∧ V w' v') Q := by
 unfold Oper.wp execOp
 rw [ho]
 exact ⟨a.eval x, rfl, Keeps.refl _ _, hx⟩
end
theorem takeL_none {k : Nat} {l : List UInt8} (h : decF 76 l = none) : decL k l = none := by unfold decL; rw [h]; rfl
theorem takeL_no {k : Nat} {l : List UInt8} {n : Int} {x : List UInt8} (h : decF 76 l = some (n, x)) (hb : n < 8 ∨ 2199023255552 ≤ n ∨ n % 8 ≠ (k : Int) ∨ 53 < x.length) : decL k l = none := by
 unfold decL; rw [h]; unfold takeL; simp only; rw [if_pos hb]
theorem takeL_yes {k : Nat} {l : List UInt8} {n : Int} {x : List UInt8} (h : decF 76 l = some (n, x)) (hb : ¬ (n < 8 ∨ 2199023255552 ≤ n ∨ n % 8 ≠ (k : Int) ∨ 53 < x.length)) : ldV (decL k l) = .tuple #[.int .i64 n, .string (txt x), .bool true] := by
 unfold decL; rw [h]; unfold takeL; simp only; rw [if_neg hb]
 show Value.tuple #[.int .i64 ((n.toNat : Nat) : Int), .string (txt x), .bool true] = _
 rw [show ((n.toNat : Nat) : Int) = n by omega]
theorem lload_any (w : World) (hT : Taken w) (q p i n : Nat) (hL : LHead w q p i n) (F : Foot) (s : SDev) (hd : DAt w p F s) (sl k : Nat) (hi : i ≤ 2048) (hsl : sl ≤ 2048) (hk : k < 8) (hin : i + sl * 8 + k < s.now.length) :
  Calls Tryz.prog 166 #[.pointer (some ⟨q, 0, none⟩), .int .i64 (sl : Int), .int .i64 (k : Int)] w fun e w' => e = .returned (ldV (secAt s.now i sl k)) ∧ Kp w w' := by
 have HRD := Hd (fun w' (hk : Kp w w') => d_read (hd.keep (hk.mono fun _ _ _ => trivial)) (i + sl * 8 + k) hin)
 have HSL := Hd (show (s.now.getD (i + sl * 8 + k) []).length = 64 by rw [getD_mem _ _ _ hin]; exact hd.ok.nrow _ (List.getElem_mem hin))
 have HL := Hd hL
 have HT := Hd hT
 unfold secAt
 generalize ha : i + sl * 8 + k = a at HRD HSL ⊢
 have HA := Hd ha
 generalize s.now.getD a [] = l at HRD HSL ⊢
 clear hL hd hin hT ha
 go_enter Tryz.func166, Tryz.ntmps166
 go_wp2_with fail
 refine wp_region_guard (R := Kp) (V := VL q p sl k a l) (w0 := w) GE (by kernel_rfl) (fun w => Keeps.refl _ w) (fun _ _ _ h k => h.trans k) (fun i w w' v h hv => VL_mono i w w' v h hv) (by kernel_rfl) GE_is (fun i o ho hw => (all_wanted (by kernel_rfl) ho hw).elim) ((Keeps.refl _ w).drew) (each_of ?_) ?_
 ·refine ⟨?_, ?_, ?_, ?_, ?_, ?_, ?_, ?_, ?_, ?_, ?_, ?_, ?_, ?_, trivial⟩ <;> intro hw a1 w3 L
  ·exact kp_move rfl (L.o 0)
  ·exact kp_nilL rfl (L.v 0 14)
  ·exact kp_fL0 rfl (L.v 1 15)
  ·exact kp_lDev (L.rel.cell HL.out.d trivial) rfl (L.v 2 16)
  ·exact kp_move rfl (L.o 0)
  ·exact kp_move rfl (L.o 1)
  ·exact kp_move rfl (L.o 2)
  ·have e0 : a1.eval (.tmp 18) = .pointer (some ⟨q, 0, none⟩) := L.v 4 18
   have e1 : a1.eval (.tmp 19) = .int .i64 (sl : Int) := L.v 5 19
   have e2 : a1.eval (.tmp 20) = .int .i64 (k : Int) := L.v 6 20
   have hf : a1.eval (.func 169) = .func (.func 169) #[] #[] := rfl
   refine kp_enter (f := 169) (args := #[.pointer (some ⟨q, 0, none⟩), .int .i64 (sl : Int), .int .i64 (k : Int)]) ?_ (place_any w3 q p i n (HL.out.keep L.rel trivial) sl k (by omega) (by omega) (by omega)) ?_
   ·clear L
    generalize a1.eval = ρ at e0 e1 e2 hf ⊢
    unfold execOp
    go_simp
   ·rintro e w' ⟨rfl, rfl⟩
    exact ⟨_, rfl, Keeps.refl _ _, by rw [HA.out]; rfl⟩
  ·have e0 : a1.eval (.tmp 17) = .pointer (some ⟨p, 0, none⟩) := L.v 3 17
   have e1 : a1.eval (.tmp 21) = .int .i64 (a : Int) := L.v 7 21
   have hf : a1.eval (.func 146) = .func (.func 146) #[] #[] := rfl
   refine kp_enter (f := 146) (args := #[.pointer (some ⟨p, 0, none⟩), .int .i64 (a : Int)]) ?_ (HRD.out w3 L.rel) ?_
   ·clear L
    generalize a1.eval = ρ at e0 e1 hf ⊢
    unfold execOp
    go_simp
   ·rintro e w' ⟨g, c, rfl, hr, h1, h2, hk⟩
    exact ⟨_, rfl, hk, g, c, rfl, hr.mono fun _ _ _ => trivial, h1, h2⟩
  ·exact kp_mvP rfl (L.v 8 22)
  ·obtain ⟨g, c, e0, hr, h1, h2⟩ := L.v 9 13
   refine kp_yield (v := .slice (some ⟨g, 0, none⟩) 64 c) (w' := w3) ?_ (Keeps.refl _ _) ⟨g, c, rfl, hr, h1, h2⟩
   clear L hr h1 h2
   generalize a1.eval = ρ at e0 ⊢
   unfold execOp
   go_simp
  ·obtain ⟨g, c, e0, hr, h1, h2⟩ := L.v 9 13
   refine kp_yield (v := .int .i64 0) (w' := w3) ?_ (Keeps.refl _ _) rfl
   clear L hr h1 h2
   generalize a1.eval = ρ at e0 ⊢
   unfold execOp
   go_simp
  ·exact kp_asP rfl (L.v 10 23)
  ·exact kp_assign rfl (L.v 11 24)
 ·intro vs w4 hk4 hlen hv
  match vs, hlen with
  | [v0, v1, v2, v3, v4, v5, v6, v7, v8, v9, v10, v11, v12, v13], _ =>
   obtain ⟨g, c, e12, hr, h1, h2⟩ : SecS l w4 v12 := hv 12 9 (by kernel_rfl)
   have e13 : v13 = .int .i64 0 := hv 13 10 (by kernel_rfl)
   clear hv
   subst e12 e13
   simp only [putAll, List.map, Act.put, List.setIfInBounds_toArray, List.set_cons_succ, List.set_cons_zero, Exit.then]
   have HP := Hd (fparse_any w4 (HT.out.keep hk4) 76 76 rfl g 0 c _ l hr HSL.out h2 h1)
   have HK4 := Hd hk4
   clear hr h1 h2 hk4
   go_wp2_with fail
   refine HP.out.mono ?_
   rintro e w5 ⟨rfl, hk5⟩
   have HK5 := Hd (HK4.out.trans hk5)
   clear hk5 HP
   obtain ⟨r, hr⟩ : ∃ r, decF 76 l = r := ⟨_, rfl⟩
   rw [hr]
   have HR := Hd hr
   clear hr
   rcases r with _ | ⟨m, x⟩
   ·have HD := Hd (show ldV (decL k l) = .tuple #[.int .i64 0, .string ⟨#[]⟩, .bool false] by rw [takeL_none HR.out]; rfl)
    unfold frmV
    go_wp2_with fail
    go_ret3
    exact ⟨by rw [HD.out]; rfl, HK5.out⟩
   ·unfold frmV
    have hcs : (decide (m < 8) = true ∧ m < 8) ∨ (decide (m < 8) = false ∧ decide (2199023255552 ≤ m) = true ∧ 2199023255552 ≤ m) ∨ (decide (m < 8) = false ∧ decide (2199023255552 ≤ m) = false ∧ (m % 8 != (k : Int)) = true ∧ 8 ≤ m ∧ m < 2199023255552 ∧ m % 8 ≠ (k : Int)) ∨ (decide (m < 8) = false ∧ decide (2199023255552 ≤ m) = false ∧ (m % 8 != (k : Int)) = false ∧ 8 ≤ m ∧ m < 2199023255552 ∧ decide ((53 : Int) < ((txt x).size : Int)) = true ∧ 53 < x.length) ∨
      (decide (m < 8) = false ∧ decide (2199023255552 ≤ m) = false ∧ (m % 8 != (k : Int)) = false ∧ 8 ≤ m ∧ m < 2199023255552 ∧ decide ((53 : Int) < ((txt x).size : Int)) = false ∧ ¬ (m < 8 ∨ 2199023255552 ≤ m ∨ m % 8 ≠ (k : Int) ∨ 53 < x.length)) := by
     rw [txt_size]
     by_cases h1 : m < 8
     ·left; exact ⟨by simpa using h1, h1⟩
     ·right
      by_cases h2 : 2199023255552 ≤ m
      ·left; exact ⟨by simpa using h1, by simpa using h2, h2⟩
      ·right
       by_cases h3 : m % 8 = (k : Int)
       ·right
        by_cases h4 : 53 < x.length
        ·left; exact ⟨by simpa using h1, by simpa using h2, by simpa using h3, by omega, by omega, by simp; omega, h4⟩
        ·right; exact ⟨by simpa using h1, by simpa using h2, by simpa using h3, by omega, by omega, by simp; omega, by omega⟩
       ·left; exact ⟨by simpa using h1, by simpa using h2, by simpa using h3, by omega, by omega, h3⟩
    rcases hcs with ⟨t0, hb⟩ | ⟨t0, t1, hb⟩ | ⟨t0, t1, t2, t3, t4, hb⟩ | ⟨t0, t1, t2, t3, t4, t5, hb⟩ | ⟨t0, t1, t2, t3, t4, t5, hb⟩
    ·have HD := Hd (show ldV (decL k l) = .tuple #[.int .i64 0, .string ⟨#[]⟩, .bool false] by rw [takeL_no HR.out (.inl hb)]; rfl)
     clear hb
     go_wp2_with fail
     go_ret3
     exact ⟨by rw [HD.out]; rfl, HK5.out⟩
    ·have HD := Hd (show ldV (decL k l) = .tuple #[.int .i64 0, .string ⟨#[]⟩, .bool false] by rw [takeL_no HR.out (.inr (.inl hb))]; rfl)
     clear hb
     go_wp2_with fail
     go_ret3
     exact ⟨by rw [HD.out]; rfl, HK5.out⟩
    ·have HD := Hd (show ldV (decL k l) = .tuple #[.int .i64 0, .string ⟨#[]⟩, .bool false] by rw [takeL_no HR.out (.inr (.inr (.inl hb)))]; rfl)
     have hm : m.tmod 8 = m % 8 := Int.tmod_eq_emod_of_nonneg (by omega)
     clear hb
     go_wp2_with fail
     go_ret3
     exact ⟨by rw [HD.out]; rfl, HK5.out⟩
    ·have HD := Hd (show ldV (decL k l) = .tuple #[.int .i64 0, .string ⟨#[]⟩, .bool false] by rw [takeL_no HR.out (.inr (.inr (.inr hb)))]; rfl)
     have hm : m.tmod 8 = m % 8 := Int.tmod_eq_emod_of_nonneg (by omega)
     clear hb
     go_wp2_with fail
     go_ret3
     exact ⟨by rw [HD.out]; rfl, HK5.out⟩
    ·have HD := Hd (takeL_yes HR.out hb)
     have hm : m.tmod 8 = m % 8 := Int.tmod_eq_emod_of_nonneg (by omega)
     clear hb
     go_wp2_with fail
     go_ret3
     exact ⟨by rw [HD.out]; rfl, HK5.out⟩
def StD (w1 : World) (p : Nat) (F : Foot) (s s' : SDev) : Bool → World → Prop
 | false, w => DAt w p F s ∧ Keeps (fun _ => True) w1 w
 | true, w => DAt w p F s' ∧ Step F F w1 w
theorem StD.keep {w1 w w' : World} {p : Nat} {F : Foot} {s s' : SDev} {b : Bool} (h : Kp w w') (hs : StD w1 p F s s' b w) : StD w1 p F s s' b w' := by
 cases b
 ·exact ⟨hs.1.keep (h.mono fun _ _ _ => trivial), hs.2.trans h⟩
 ·obtain ⟨h1, h2⟩ := hs
  exact ⟨h1.keep (h.mono fun _ _ _ => trivial), h2.trans (Step.of_keeps h F)⟩
theorem StD.kp {w1 w : World} {p : Nat} {F : Foot} {s s' : SDev} (b : Bool) (hs : StD w1 p F s s' b w) : Keeps (fun b => ¬ F.M b) w1 w := by
 cases b
 ·exact hs.2.mono fun _ _ _ => trivial
 ·obtain ⟨h1, h2⟩ := hs
  exact h2.keeps
def VY (q p b sl k a g c : Nat) : Nat → World → Value → Prop
 | 0 => IsV (.pointer (some ⟨q, 0, none⟩))
 | 1 => IsV (.pointer (some ⟨q, 0, none⟩))
 | 2 => IsV (.pointer (some ⟨q, 0, none⟩))
 | 3 => IsV (.pointer (some ⟨p, 0, none⟩))
 | 4 => IsV (.pointer (some ⟨q, 0, none⟩))
 | 5 => IsV (.pointer (some ⟨b, 0, none⟩))
 | 6 => IsV (.int .i64 (sl : Int))
 | 7 => IsV (.int .i64 (k : Int))
 | 8 => IsV (.int .i64 (a : Int))
 | 9 => IsV (.slice (some ⟨g, 0, none⟩) 64 c)
 | 10 => IsV (.int .i64 0)
 | 11 => IsV (.int .i64 0)
 | _ => fun _ _ => True
theorem VY_any {q p b sl k a g c : Nat} (i : Nat) (w w' : World) (v : Value) (hv : VY q p b sl k a g c i w v) : VY q p b sl k a g c i w' v := by
 match i, hv with
 | 0, hv => exact hv
 | 1, hv => exact hv
 | 2, hv => exact hv
 | 3, hv => exact hv
 | 4, hv => exact hv
 | 5, hv => exact hv
 | 6, hv => exact hv
 | 7, hv => exact hv
 | 8, hv => exact hv
 | 9, hv => exact hv
 | 10, hv => exact hv
 | 11, hv => exact hv
 | n + 12, _ => trivial
theorem llay_own (w : World) (hT : Taken w) (q p i n : Nat) (hL : LHead w q p i n) (F : Foot) (s : SDev) (hd : DAt w p F s) (hq : ¬ F.all q) (hTM : ¬ F.M 0) (sl f k : Nat) (E : Value) (hE : E.oneCell' = true) (x : List UInt8) (hx : x.length ≤ 53)
  (hi : i ≤ 2048) (hsl : sl ≤ 2048) (hk : k < 8) (hf : f * 8 + k < 2199023255552) (hin : i + sl * 8 + k < s.now.length) (hcalls : s.calls ≤ 1099511627776) :
  Calls Tryz.prog 131 #[.pointer (some ⟨q, 0, none⟩), .agg #[.int .i64 (sl : Int), .int .i64 (f : Int), E], .int .i64 (k : Int), .string (txt x)] w fun e w' => e = .returned (.int .i64 0) ∧ DAt w' p F (s.write (i + sl * 8 + k) (encL (f * 8 + k) x)) ∧ Step F F w w' := by
 have HT := Hd hT
 have HL := Hd hL
 have HD := Hd hd
 have HQ := Hd (show ¬ F.M q from fun h => hq (.inl h))
 have HTF := Hd hTM
 have HRF := Hd hd.lt
 obtain ⟨w0, hw0⟩ : ∃ w0, w.alloc (.cells #[.int .i64 (sl : Int), .int .i64 (f : Int), E] 179) = w0 := ⟨_, rfl⟩
 have hk0 : Kp w w0 := by rw [← hw0]; exact (Keeps.refl _ w).alloc _
 have hb0 : w0.heap[w.heap.size]? = some (.cells #[.int .i64 (sl : Int), .int .i64 (f : Int), E] 179 (0, 0)) := by rw [← hw0]; exact heap_alloc_new w _
 have hz0 : w0.heap.size = w.heap.size + 1 := by rw [← hw0]; simp
 have HW0 := Hd hw0
 have HK0 := Hd hk0
 have HB0 := Hd hb0
 have HZ0 := Hd hz0
 have HEL := Hd (encL_len (f * 8 + k) x hf hx)
 obtain ⟨a, ha⟩ : ∃ a, i + sl * 8 + k = a := ⟨_, rfl⟩
 rw [ha] at hin ⊢
 have HA := Hd ha
 have HIN := Hd hin
 have HFM := Hd (fun hT => fmake_any w0 hT 76 76 rfl (f * 8 + k) x (by omega) (by omega) (headS_len (f * 8 + k) x hx hf))
 clear hT hL hd hq hTM hw0 hk0 hb0 hz0 ha hin
 have c0 : w0.cell? ⟨w.heap.size, 0, none⟩ = some (.int .i64 (sl : Int)) := (cell_of_block HB0.out 0).trans rfl
 have c1 : w0.cell? ⟨w.heap.size, 1, none⟩ = some (.int .i64 (f : Int)) := (cell_of_block HB0.out 1).trans rfl
 have c2 : w0.cell? ⟨w.heap.size, 2, none⟩ = some E := (cell_of_block HB0.out 2).trans rfl
 go_enter Tryz.func131, Tryz.ntmps131
 go_wp2_with fail
 rw [HW0.out]
 refine (number_any w0 _ f k E rfl hE (by omega) (by omega)).mono ?_
 rintro e w1 ⟨rfl, hk1⟩
 have HK1 := Hd hk1
 clear hk1 c0 c1 c2
 go_wp2_with fail
 have hfm := fmake_any w1 (HT.out.keep (HK0.out.trans HK1.out)) 76 76 rfl (f * 8 + k) x (by omega) (by omega) (headS_len (f * 8 + k) x hx hf)
 try simp only [Int.natCast_add, Int.natCast_mul, Int.cast_ofNat_Int] at hfm
 refine hfm.mono ?_
 clear hfm
 rintro e w2 ⟨v, rfl, ho, hk2⟩
 rw [show encF 76 (f * 8 + k) x = encL (f * 8 + k) x from rfl] at ho
 have hel := HEL.out
 obtain ⟨g, cg, rfl, hbase, hglt⟩ := ho.form (by rw [hel]; decide)
 have hrow := own_row ho
 rw [hel] at ⊢
 have HK2 := Hd (HK1.out.trans hk2)
 have HRW := Hd hrow
 have HG := Hd (show ¬ F.all g from fun hf => by have := HRF.out g hf; have := HK0.out.size; have := HK1.out.size; omega)
 clear ho hk2 hrow hbase hglt hel
 go_wp2_with fail
 have HD2 := Hd (HD.out.keep ((HK0.out.trans HK2.out).mono fun _ _ _ => trivial))
 have HL2 := Hd (HL.out.keep (HK0.out.trans HK2.out) trivial)
 have HB2 := Hd ((HK2.out.block w.heap.size trivial (by rw [HZ0.out]; omega)).trans HB0.out)
 have HZ2 := Hd (show w.heap.size < w2.heap.size from by have := HK2.out.size; have := HZ0.out; omega)
 refine wp_region_one (V := VY q p w.heap.size sl k a g cg) (w0 := w2) 10 (StD w2 p F s (s.write a (encL (f * 8 + k) x))) (fun w w' => Keeps (fun b => ¬ F.M b) w w') GE (by kernel_rfl) (fun i w w' v _ hv => VY_any i w w' v hv) (fun _ _ _ h hs => hs.keep h) (fun i _ w w' v _ hv => VY_any i w w' v hv) (by kernel_rfl) (by decide) GE_is (fun i o ho hw => (all_wanted (by kernel_rfl) ho hw).elim) ⟨HD2.out.keep ((Keeps.refl _ w2).drew.mono fun _ _ _ => trivial), (Keeps.refl _ w2).drew⟩ (each_of ?_) ?_
 ·refine ⟨?_, ?_, ?_, ?_, ?_, ?_, ?_, ?_, ?_, ?_, ?_, ?_, trivial⟩ <;> intro hw a1 w3 L
  ·rw [if_neg (by decide)]
   intro b hs _
   exact kp_move rfl (L.o 0)
  ·rw [if_neg (by decide)]
   intro b hs _
   exact kp_nilL rfl (L.v 0 22)
  ·rw [if_neg (by decide)]
   intro b hs _
   exact kp_fL0 rfl (L.v 1 23)
  ·rw [if_neg (by decide)]
   intro b hs _
   exact kp_lDev ((StD.kp b hs).cell HL2.out.d HQ.out) rfl (L.v 2 24)
  ·rw [if_neg (by decide)]
   intro b hs _
   exact kp_move rfl (L.o 0)
  ·rw [if_neg (by decide)]
   intro b hs _
   exact kp_fG0 rfl (L.o 5)
  ·rw [if_neg (by decide)]
   intro b hs _
   have hblk := ((StD.kp b hs).block w.heap.size (fun hm => by have := HRF.out _ (.inl hm); omega) HZ2.out).trans HB2.out
   exact kp_lInt ((cell_of_block hblk 0).trans rfl) rfl (L.v 5 27)
  ·rw [if_neg (by decide)]
   intro b hs _
   exact kp_move rfl (L.o 2)
  ·rw [if_neg (by decide)]
   intro b hs _
   have e0 : a1.eval (.tmp 26) = .pointer (some ⟨q, 0, none⟩) := L.v 4 26
   have e1 : a1.eval (.tmp 28) = .int .i64 (sl : Int) := L.v 6 28
   have e2 : a1.eval (.tmp 29) = .int .i64 (k : Int) := L.v 7 29
   have hf : a1.eval (.func 169) = .func (.func 169) #[] #[] := rfl
   refine kp_enter (f := 169) (args := #[.pointer (some ⟨q, 0, none⟩), .int .i64 (sl : Int), .int .i64 (k : Int)]) ?_ (place_any w3 q p i n (HL2.out.keep (StD.kp b hs) HQ.out) sl k (by omega) (by omega) (by omega)) ?_
   ·clear L hs
    generalize a1.eval = ρ at e0 e1 e2 hf ⊢
    unfold execOp
    go_simp
   ·rintro e w' ⟨rfl, rfl⟩
    exact ⟨_, rfl, Keeps.refl _ _, by rw [HA.out]; rfl⟩
  ·rw [if_neg (by decide)]
   intro b hs _
   exact kp_move rfl (L.o 9)
  ·rw [if_pos rfl]
   rintro ⟨hd, hk⟩
   have e0 : a1.eval (.tmp 25) = .pointer (some ⟨p, 0, none⟩) := L.v 3 25
   have e1 : a1.eval (.tmp 30) = .int .i64 (a : Int) := L.v 8 30
   have e3 : a1.eval (.tmp 31) = .slice (some ⟨g, 0, none⟩) 64 cg := L.v 9 31
   have hf : a1.eval (.func 63) = .func (.func 63) #[] #[] := rfl
   have hw := dwrite_own w3 p F s hd a (some ⟨g, 0, none⟩) cg (fun b => b = g) (encL (f * 8 + k) x) (HRW.out.keep (hk.mono fun _ _ _ => trivial)) (fun b hb => by rw [hb]; exact HG.out) HIN.out (by rw [HEL.out]; decide) hcalls
   rw [HEL.out] at hw
   refine one_call (f := 63) (args := #[.pointer (some ⟨p, 0, none⟩), .int .i64 (a : Int), .slice (some ⟨g, 0, none⟩) 64 cg]) ?_ hw ?_
   ·clear hd hk L hw
    generalize a1.eval = ρ at e0 e1 e3 hf ⊢
    unfold execOp
    go_simp
   ·rintro e w' ⟨rfl, hd', hst⟩
    exact ⟨_, rfl, hst.keeps, ⟨hd', (Step.of_keeps hk F).trans hst⟩, rfl⟩
  ·rw [if_neg (by decide)]
   intro b hs _
   exact kp_assign rfl (L.v 10 32)
 ·intro vs w8 hs8 hlen hv
  match vs, hlen with
  | [v0, v1, v2, v3, v4, v5, v6, v7, v8, v9, v10, v11], _ =>
   have e11 : v11 = .int .i64 0 := hv 11 8 (by kernel_rfl)
   clear hv
   subst e11
   simp only [putAll, List.map, Act.put, List.setIfInBounds_toArray, List.set_cons_succ, List.set_cons_zero, Exit.then]
   obtain ⟨hd8, hst8⟩ := hs8
   have H1 := Hd (show DAt w8 p F (s.write a (encL (f * 8 + k) x)) ∧ Step F F w w8 from ⟨hd8, (Step.of_keeps (HK0.out.trans HK2.out) F).trans hst8⟩)
   clear hd8 hst8
   go_wp2_with fail
   go_ret
   exact ⟨rfl, H1.out⟩
theorem llay_any (w : World) (hT : Taken w) (q p i n : Nat) (hL : LHead w q p i n) (F : Foot) (s : SDev) (hd : DAt w p F s) (hq : ¬ F.all q) (hTM : ¬ F.M 0) (sl f k : Nat) (E : Value) (hE : E.oneCell' = true) (x : List UInt8) (hx : x.length ≤ 53)
  (hi : i ≤ 2048) (hsl : sl ≤ 2048) (hk : k < 8) (hf : f * 8 + k < 2199023255552) (hin : i + sl * 8 + k < s.now.length) (hcalls : s.calls ≤ 1099511627776) :
  Calls Tryz.prog 131 #[.pointer (some ⟨q, 0, none⟩), .agg #[.int .i64 (sl : Int), .int .i64 (f : Int), E], .int .i64 (k : Int), .string (txt x)] w fun e w' => e = .returned (.int .i64 0) ∧ ∃ F', DAt w' p F' (s.write (i + sl * 8 + k) (encL (f * 8 + k) x)) ∧ Step F F' w w' :=
 (llay_own w hT q p i n hL F s hd hq hTM sl f k E hE x hx hi hsl hk hf hin hcalls).mono fun _ _ h => ⟨h.1, F, h.2⟩
end Go.Proofs.YticophaepapjoaaGreatDoor
