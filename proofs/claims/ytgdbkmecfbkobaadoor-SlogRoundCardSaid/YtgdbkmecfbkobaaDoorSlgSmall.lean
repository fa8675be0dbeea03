/-
  THE PROGRAM's LOG: its small functions: down, there, fits, place, behind; a segment's count, start, end, next, number.
-/
import Derived.Test.YtgdbkmecfbkobaaDoorSlgLocs
import Derived.Test.YtgdbkmecfbkobaaDoorSlgMath
import Derived.Test.YtgdbkmecfbkobaaDoorDv
namespace Go.Proofs.YtgdbkmecfbkobaaDoor
open Go Go.RowKit Go.Joins

/-- The log's first cells: its device, where, how many segments. -/
structure LHead (w : World) (q p i n : Nat) : Prop where
  d : w.cell? ⟨q, 0, none⟩ = some (.pointer (some ⟨p, 0, none⟩))
  i : w.cell? ⟨q, 1, none⟩ = some (.int .i64 (i : Int))
  n : w.cell? ⟨q, 2, none⟩ = some (.int .i64 (n : Int))
theorem LHead.keep {w w' : World} {q p i n : Nat} {F : Nat → Prop} (h : LHead w q p i n) (hk : Keeps F w w') (hF : F q) : LHead w' q p i n := ⟨hk.cell h.d hF, hk.cell h.i hF, hk.cell h.n hF⟩

theorem down_no (w : World) (q p i n : Nat) (h : LHead w q p i n) : Calls Tryd.prog 23 #[.pointer (some ⟨q, 0, none⟩)] w fun e w' => e = .returned (.bool false) ∧ w = w' := by
  have c0 := h.d
  clear h
  go_enter Tryd.func23, Tryd.ntmps23
  go_wp2
  go_ret
  exact ⟨rfl, rfl⟩
theorem down_yes (w : World) : Calls Tryd.prog 23 #[.pointer none] w fun e w' => e = .returned (.bool true) ∧ w = w' := by
  go_enter Tryd.func23, Tryd.ntmps23
  go_wp2
  go_ret
  exact ⟨rfl, rfl⟩
theorem fits_any (w : World) (n : Nat) (hn : n ≤ maxLen) : Calls Tryd.prog 24 #[.int .i64 (n : Int)] w fun e w' => e = .returned (.bool (decide (1 ≤ n ∧ n ≤ 300))) ∧ w = w' := by
  unfold maxLen at hn
  by_cases h1 : 1 ≤ n
  · have d1 : decide ((1 : Int) ≤ (n : Int)) = true := by simp; omega
    have e : decide (1 ≤ n ∧ n ≤ 300) = decide ((n : Int) ≤ 300) := by rw [Bool.eq_iff_iff]; simp; omega
    rw [e]
    clear e h1
    go_enter Tryd.func24, Tryd.ntmps24
    go_wp2
    go_ret
    exact ⟨rfl, rfl⟩
  · have d1 : decide ((1 : Int) ≤ (n : Int)) = false := by simp; omega
    have e : decide (1 ≤ n ∧ n ≤ 300) = false := by simp; omega
    rw [e]
    clear e h1
    go_enter Tryd.func24, Tryd.ntmps24
    go_wp2
    go_ret
    exact ⟨rfl, rfl⟩
theorem place_any (w : World) (q p i n : Nat) (h : LHead w q p i n) (s k : Nat) (hi : i ≤ 4096) (hs : s ≤ 4096) (hk : k ≤ 4096) : Calls Tryd.prog 54 #[.pointer (some ⟨q, 0, none⟩), .int .i64 (s : Int), .int .i64 (k : Int)] w fun e w' => e = .returned (.int .i64 ((i + s * 8 + k : Nat) : Int)) ∧ w = w' := by
  have c0 := h.i
  clear h
  have e : ((i + s * 8 + k : Nat) : Int) = (i : Int) + (s : Int) * 8 + (k : Int) := by omega
  rw [e]
  clear e
  go_enter Tryd.func54, Tryd.ntmps54
  go_wp2
  go_ret
  exact ⟨rfl, rfl⟩
theorem behind_any (w : World) (q p i n : Nat) (h : LHead w q p i n) (s : Nat) (hn : 1 ≤ n) (hn2 : n ≤ 4096) (hs : s ≤ 4096) : Calls Tryd.prog 43 #[.pointer (some ⟨q, 0, none⟩), .int .i64 (s : Int)] w fun e w' => e = .returned (.int .i64 (((s + 1) % n : Nat) : Int)) ∧ w = w' := by
  have c0 := h.n
  clear h
  have e : (((s + 1) % n : Nat) : Int) = ((s : Int) + 1).tmod (n : Int) := by
    rw [Int.tmod_eq_emod_of_nonneg (by omega)]; simp
  have hne : ¬ ((n : Int) = 0) := by omega
  have hne2 : (((n : Int)) == 0) = false := by simp; omega
  have hb : -9223372036854775808 ≤ ((s : Int) + 1).tmod (n : Int) ∧ ((s : Int) + 1).tmod (n : Int) < 9223372036854775808 := by
    rw [← e]
    have := Nat.mod_lt (s + 1) (show 0 < n by omega)
    omega
  rw [e]
  clear e
  generalize hm : ((s : Int) + 1).tmod (n : Int) = m at hb ⊢
  go_enter Tryd.func43, Tryd.ntmps43
  go_wp2
  go_ret
  exact ⟨rfl, rfl⟩
theorem sthere_yes (w : World) (p : Nat) (F : Foot) (s : SDev) (h : DAt w p F s) (i n : Nat) (h1 : 3 ≤ n) (h2 : n ≤ 200) (hi : i + 8 * n ≤ s.now.length) :
    Calls Tryd.prog 21 #[.pointer (some ⟨p, 0, none⟩), .int .i64 (i : Int), .int .i64 (n : Int)] w fun e w' => e = .returned (.bool true) ∧ w = w' := by
  have hl := Lib.hid (dlen_any w p F s h)
  have hsm := h.ok.small
  have d1 : decide ((3 : Int) ≤ (n : Int)) = true := by simp; omega
  have d2 : decide ((n : Int) ≤ 200) = true := by simp; omega
  have d3 : decide ((i : Int) ≤ (s.now.length : Int) - (n : Int) * 8) = true := by simp; omega
  have b1 : 8 * n ≤ s.now.length := by omega
  clear h hi
  go_enter Tryd.func21, Tryd.ntmps21
  go_wp2_with fail
  refine hl.out.mono ?_
  rintro e w' ⟨rfl, rfl⟩
  go_wp2_with fail
  go_ret
  exact ⟨rfl, rfl⟩
theorem sthere_no (w : World) (p : Nat) (F : Foot) (s : SDev) (h : DAt w p F s) (i n : Int) (h1 : -9223372036854775808 ≤ i) (h2 : i < 9223372036854775808) (h3 : -9223372036854775808 ≤ n) (h4 : n < 9223372036854775808) (hi : i < 0 ∨ n < 3 ∨ 200 < n ∨ (s.now.length : Int) < i + 8 * n) :
    Calls Tryd.prog 21 #[.pointer (some ⟨p, 0, none⟩), .int .i64 i, .int .i64 n] w fun e w' => e = .returned (.bool false) ∧ w = w' := by
  have hl := Lib.hid (dlen_any w p F s h)
  have hsm := h.ok.small
  have hps := h.ok.pos
  have hd : decide (3 ≤ n) = false ∨ (decide (3 ≤ n) = true ∧ decide (n ≤ 200) = false) ∨ (decide (3 ≤ n) = true ∧ decide (n ≤ 200) = true ∧ decide (0 ≤ i) = false) ∨ (decide (3 ≤ n) = true ∧ decide (n ≤ 200) = true ∧ decide (0 ≤ i) = true ∧ decide (i ≤ (s.now.length : Int) - n * 8) = false ∧ 3 ≤ n ∧ n ≤ 200) := by
    by_cases a1 : 3 ≤ n
    · right
      by_cases a2 : n ≤ 200
      · right
        by_cases a3 : 0 ≤ i
        · right; exact ⟨by simpa using a1, by simpa using a2, by simpa using a3, by simp; omega, a1, a2⟩
        · left; exact ⟨by simpa using a1, by simpa using a2, by simp; omega⟩
      · left; exact ⟨by simpa using a1, by simp; omega⟩
    · left; simp; omega
  clear h hi
  rcases hd with d1 | ⟨d1, d2⟩ | ⟨d1, d2, d3⟩ | ⟨d1, d2, d3, d4, b1, b2⟩
  · go_enter Tryd.func21, Tryd.ntmps21
    go_wp2_with fail
    go_ret
    exact ⟨rfl, rfl⟩
  · go_enter Tryd.func21, Tryd.ntmps21
    go_wp2_with fail
    go_ret
    exact ⟨rfl, rfl⟩
  · go_enter Tryd.func21, Tryd.ntmps21
    go_wp2_with fail
    go_ret
    exact ⟨rfl, rfl⟩
  · go_enter Tryd.func21, Tryd.ntmps21
    go_wp2_with fail
    refine hl.out.mono ?_
    rintro e w' ⟨rfl, rfl⟩
    go_wp2_with fail
    go_ret
    exact ⟨rfl, rfl⟩

/-! ### A segment -/
/-- The ends of its records, as cells. -/
def endsC (rs : List LRec) : List Value := (List.range rs.length).map fun i => .int .i64 (endAt rs (i + 1) : Int)
theorem endsC_len (rs : List LRec) : (endsC rs).length = rs.length := by simp [endsC]
theorem endsC_at (rs : List LRec) (i : Nat) (h : i < rs.length) : (endsC rs)[i]? = some (.int .i64 (endAt rs (i + 1) : Int)) := by simp [endsC, h]
theorem endAt_snoc (rs : List LRec) (r : LRec) (i : Nat) (h : i ≤ rs.length) : endAt (rs ++ [r]) i = endAt rs i := by
  unfold endAt; rw [List.take_append_of_le_length h]
theorem endsC_snoc (rs : List LRec) (r : LRec) : endsC (rs ++ [r]) = endsC rs ++ [.int .i64 ((endAt rs rs.length + (putT r.body).length : Nat) : Int)] := by
  unfold endsC
  rw [List.length_append, List.length_singleton, List.range_succ, List.map_append, List.map_singleton]
  congr 1
  · refine List.map_congr_left fun i hi => ?_
    rw [endAt_snoc rs r (i + 1) (List.mem_range.1 hi)]
  · rw [endAt_next (rs ++ [r]) rs.length (by simp), endAt_snoc rs r _ (Nat.le_refl _), List.getElem_concat_length rfl]
theorem count_any (w : World) (u v : Value) (A : Option Addr) (n c : Nat) (_h1 : u.oneCell' = true) (_h2 : v.oneCell' = true) : Calls Tryd.prog 47 #[.agg #[u, v, .slice A n c]] w fun e w' => e = .returned (.int .i64 (n : Int)) ∧ Kp w w' := by
  go_enter Tryd.func47, Tryd.ntmps47
  go_wp2
  go_ret
  exact ⟨rfl, (Keeps.refl _ _).alloc _⟩
theorem number_any (w : World) (u : Value) (f k : Nat) (E : Value) (_h1 : u.oneCell' = true) (_h2 : E.oneCell' = true) (hf : f ≤ 274877906944) (hk : k ≤ 4096) : Calls Tryd.prog 60 #[.agg #[u, .int .i64 (f : Int), E], .int .i64 (k : Int)] w fun e w' => e = .returned (.int .i64 ((f * 8 + k : Nat) : Int)) ∧ Kp w w' := by
  have e : ((f * 8 + k : Nat) : Int) = (f : Int) * 8 + (k : Int) := by omega
  rw [e]
  clear e
  go_enter Tryd.func60, Tryd.ntmps60
  go_wp2
  go_ret
  exact ⟨rfl, (Keeps.refl _ _).alloc _⟩
theorem start_any (w : World) (u v : Value) (A : Option Addr) (c : Nat) (G : Nat → Prop) (rs : List LRec) (_h1 : u.oneCell' = true) (_h2 : v.oneCell' = true) (hr : Row w A G (endsC rs)) (hn : rs.length ≤ 4096) (i : Nat) (hi : i ≤ rs.length) :
    Calls Tryd.prog 48 #[.agg #[u, v, .slice A rs.length c], .int .i64 (i : Int)] w fun e w' => e = .returned (.int .i64 (endAt rs i : Int)) ∧ Kp w w' := by
  by_cases h0 : i = 0
  · subst h0
    rw [endAt_zero]
    clear hr
    go_enter Tryd.func48, Tryd.ntmps48
    go_wp2
    go_ret
    exact ⟨rfl, (Keeps.refl _ _).alloc _⟩
  · obtain ⟨k, rfl⟩ : ∃ k, i = k + 1 := ⟨i - 1, by omega⟩
    have hk : k < rs.length := by omega
    obtain ⟨b, o, rfl, -, hc⟩ := hr (by intro e; have := congrArg List.length e; rw [endsC_len, List.length_nil] at this; omega)
    have hce := hc k _ (endsC_at rs k hk)
    have hce2 : ∀ ob, (w.alloc ob).cell? ⟨b, o + k, none⟩ = some (.int .i64 (endAt rs (k + 1) : Int)) := fun ob => ((Keeps.refl (fun _ => True) w).alloc ob).cell hce trivial
    have d0 : ((((k : Nat) : Int) + 1) == 0) = false := by simp; omega
    have e : (((k + 1 : Nat) : Int)) = (k : Int) + 1 := by omega
    rw [e]
    have HE := Lib.hid hce2
    clear hc hi h0 e hce
    generalize (endAt rs (k + 1)) = z at hce2 HE ⊢
    go_enter Tryd.func48, Tryd.ntmps48
    go_wp2
    go_ret
    exact ⟨rfl, (Keeps.refl _ _).alloc _⟩

end Go.Proofs.YtgdbkmecfbkobaaDoor
