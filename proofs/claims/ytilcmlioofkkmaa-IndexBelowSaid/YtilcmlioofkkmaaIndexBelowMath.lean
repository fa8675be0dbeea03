/-
  IndexBelow: what its walk wants (the walk itself is not written).
-/
import Derived.Test.YtilcmlioofkkmaaIndexRow
namespace Go.Proofs.Ytilcmlioofkkmaa.indexBelow
open Go Go.RowKit

def f1 (k : Nat) : Nat → Option Int := fun i => if i < k then some ((i : Int) + 1) else none
def p1 (k : Nat) : Nat → Int := fun i => if i < k then (i : Int) + 1 else 0
theorem f1_step (k : Nat) : upd (f1 k) k (some ((k : Int) + 1)) = f1 (k + 1) := by
  funext i
  unfold upd f1
  by_cases h : i = k
  · subst h; simp
  · by_cases h2 : i < k
    · simp [h, h2, Nat.lt_succ_of_lt h2]
    · have : ¬ i < k + 1 := by omega
      simp [h, h2, this]
theorem p1_step (k : Nat) : (fun i => if i = k then (k : Int) + 1 else p1 k i) = p1 (k + 1) := by
  funext i
  unfold p1
  by_cases h : i = k
  · subst h; simp
  · by_cases h2 : i < k
    · simp [h, h2, Nat.lt_succ_of_lt h2]
    · have : ¬ i < k + 1 := by omega
      simp [h, h2, this]
theorem made_pos (n : Nat) : (madeCells (Value.int .i64 0).cells (n * 1)).toList = posL n (p1 0) := by
  have e : posL n (p1 0) = List.replicate n (Value.int .i64 0) := by
    unfold posL p1
    rw [List.eq_replicate_iff]
    exact ⟨by simp, fun v hv => by obtain ⟨i, _, rfl⟩ := List.mem_map.1 hv; simp⟩
  rw [e, List.eq_replicate_iff]
  refine ⟨by rw [Array.length_toList, size_madeCells, Nat.mul_one], fun v hv => ?_⟩
  unfold madeCells at hv
  rw [Array.toList_map] at hv
  obtain ⟨i, _, rfl⟩ := List.mem_map.1 hv
  have hz : (Value.int .i64 0).cells = #[Value.int .i64 0] := rfl
  rw [hz]
  have : i % (#[Value.int .i64 0] : Array Value).size = 0 := Nat.mod_one i
  simp [Nat.mod_one]

/-! ### Region 12: x.Put(name(i), pos[i]) -/
def V12 (q g n k : Nat) : Nat → World → Value → Prop
  | 0 => IsV (.pointer (some ⟨q, 0, none⟩))
  | 1 => IsV (.int .i64 (k : Int))
  | 2 => IsV (.string (nameZ k))
  | 3 => IsV (.slice (some ⟨g, 0, none⟩) n n)
  | 4 => IsV (.int .i64 (k : Int))
  | 5 => IsV (.pointer (some ⟨g, k, none⟩))
  | 6 => IsV (.int .i64 ((k : Int) + 1))
  | 7 => IsV (.int .i64 0)
  | _ => fun _ _ => True
theorem V12_keep {q g n k : Nat} (i : Nat) (w w' : World) (v : Value) (hv : V12 q g n k i w v) : V12 q g n k i w' v := by
  match i, hv with
  | 0, hv => exact hv
  | 1, hv => exact hv
  | 2, hv => exact hv
  | 3, hv => exact hv
  | 4, hv => exact hv
  | 5, hv => exact hv
  | 6, hv => exact hv
  | 7, hv => exact hv
  | n + 8, _ => trivial
def S12 (S : IndexOK) (W : World) (q : Nat) (st : IxSt) (base g N k : Nat) : Bool → World → Prop
  | false, w => Beside S W w q st base g N (p1 (k + 1))
  | true, w => Beside S W w q (ixPut st (nameZ k) ((k : Int) + 1)) base g N (p1 (k + 1))
theorem S12.keep {S : IndexOK} {W w w' : World} {q : Nat} {st : IxSt} {base g N k : Nat} {b : Bool} (h : Kp w w') (hs : S12 S W q st base g N k b w) : S12 S W q st base g N k b w' := by
  cases b
  · exact Beside.keep hs h
  · exact Beside.keep hs h
theorem S12.row {S : IndexOK} {W w : World} {q : Nat} {st : IxSt} {base g N k : Nat} {b : Bool} (hs : S12 S W q st base g N k b w) (hk : k < N) : w.cell? ⟨g, k, none⟩ = some (.int .i64 ((k : Int) + 1)) := by
  have e : p1 (k + 1) k = (k : Int) + 1 := by simp [p1]
  cases b
  · obtain ⟨F, _, _, h⟩ := hs
    rw [← e]; exact h.at_ hk
  · obtain ⟨F, _, _, h⟩ := hs
    rw [← e]; exact h.at_ hk

/-! ### Places by a function of the number -/
def fp (N : Nat) (pos : Nat → Int) : Nat → Option Int := fun i => if i < N then some (pos i) else none
theorem fp_first (N : Nat) : f1 N = fp N (p1 N) := by
  funext i
  unfold f1 fp p1
  by_cases h : i < N <;> simp [h]
theorem fp_upd {N k : Nat} (hk : k < N) (pos : Nat → Int) (z : Int) : upd (fp N pos) k (some z) = fp N (fun i => if i = k then z else pos i) := by
  funext i
  unfold upd fp
  by_cases h : i = k
  · subst h; simp [hk]
  · by_cases h2 : i < N <;> simp [h, h2]
theorem fp_some (N : Nat) (pos : Nat → Int) (i : Nat) : ((fp N pos) i).isSome = decide (i < N) := by
  unfold fp
  by_cases h : i < N <;> simp [h]

/-! ### Region 17: x.Put(name(k), int64(100+i)) != pos[k] -/
def V17 (q g n k i : Nat) (v : Int) : Nat → World → Value → Prop
  | 0 => IsV (.pointer (some ⟨q, 0, none⟩))
  | 1 => IsV (.int .i64 (k : Int))
  | 2 => IsV (.string (nameZ k))
  | 3 => IsV (.int .i64 (i : Int))
  | 4 => IsV (.int .i64 (100 + (i : Int)))
  | 5 => IsV (.int .i64 v)
  | 6 => IsV (.slice (some ⟨g, 0, none⟩) n n)
  | 7 => IsV (.int .i64 (k : Int))
  | 8 => IsV (.pointer (some ⟨g, k, none⟩))
  | 9 => IsV (.int .i64 v)
  | 10 => IsV (.bool false)
  | _ => fun _ _ => True
theorem V17_keep {q g n k i : Nat} {z : Int} (j : Nat) (w w' : World) (v : Value) (hv : V17 q g n k i z j w v) : V17 q g n k i z j w' v := by
  match j, hv with
  | 0, hv => exact hv
  | 1, hv => exact hv
  | 2, hv => exact hv
  | 3, hv => exact hv
  | 4, hv => exact hv
  | 5, hv => exact hv
  | 6, hv => exact hv
  | 7, hv => exact hv
  | 8, hv => exact hv
  | 9, hv => exact hv
  | 10, hv => exact hv
  | n + 11, _ => trivial
def S17 (S : IndexOK) (W : World) (q : Nat) (st : IxSt) (base g N k i : Nat) (pos : Nat → Int) : Bool → World → Prop
  | false, w => Beside S W w q st base g N pos
  | true, w => Beside S W w q (ixPut st (nameZ k) (100 + (i : Int))) base g N pos
theorem S17.keep {S : IndexOK} {W w w' : World} {q : Nat} {st : IxSt} {base g N k i : Nat} {pos : Nat → Int} {b : Bool} (h : Kp w w') (hs : S17 S W q st base g N k i pos b w) : S17 S W q st base g N k i pos b w' := by
  cases b
  · exact Beside.keep hs h
  · exact Beside.keep hs h
theorem S17.row {S : IndexOK} {W w : World} {q : Nat} {st : IxSt} {base g N k i : Nat} {pos : Nat → Int} {b : Bool} (hs : S17 S W q st base g N k i pos b w) (hk : k < N) : w.cell? ⟨g, k, none⟩ = some (.int .i64 (pos k)) := by
  cases b
  · obtain ⟨F, _, _, h⟩ := hs
    exact h.at_ hk
  · obtain ⟨F, _, _, h⟩ := hs
    exact h.at_ hk

/-! ### Other calls beside the row -/
section
variable {S : IndexOK} {W w : World} {q : Nat} {st : IxSt} {base g n : Nat} {f : Nat → Int}
theorem beside_get (hT : S.T W) (h : Beside S W w q st base g n f) (hl : st.length ≤ 4096) (k : ByteArray) (hk : k.size ≤ 4096) (v : Int) (b : Bool) (hv : v = (ixGet st k).getD 0) (hb : b = (ixGet st k).isSome) :
    Calls Try.prog 15 #[.pointer (some ⟨q, 0, none⟩), .string k] w fun e w' => e = .returned (.tuple #[.int .i64 v, .bool b]) ∧ Beside S W w' q st base g n f := by
  subst hv; subst hb
  have h0 := h
  obtain ⟨F, h1, -, -⟩ := h
  refine (S.get w q F st h1.r (S.tk hT h1.kp) hl k hk).mono ?_
  rintro e w' ⟨rfl, hk'⟩
  exact ⟨rfl, h0.keep hk'⟩
theorem beside_len (hT : S.T W) (h : Beside S W w q st base g n f) (hl : st.length ≤ 4096) (v : Int) (hv : v = (st.length : Int)) :
    Calls Try.prog 16 #[.pointer (some ⟨q, 0, none⟩)] w fun e w' => e = .returned (.int .i64 v) ∧ Beside S W w' q st base g n f := by
  subst hv
  have h0 := h
  obtain ⟨F, h1, -, -⟩ := h
  refine (S.len w q F st h1.r (S.tk hT h1.kp) hl).mono ?_
  rintro e w' ⟨rfl, hk'⟩
  exact ⟨rfl, h0.keep hk'⟩
theorem beside_below (hT : S.T W) (h : Beside S W w q st base g n f) (hl : st.length ≤ 4096) (p : Int) (hp : i64 p) (v : Int) (hv : v = ((st.length - (ixBelow st p).length : Nat) : Int)) :
    Calls Try.prog 14 #[.pointer (some ⟨q, 0, none⟩), .int .i64 p] w fun e w' => e = .returned (.int .i64 v) ∧ Beside S W w' q (ixBelow st p) base g n f := by
  subst hv
  obtain ⟨F, h1, h2, h3⟩ := h
  refine (S.below W w q F st h1.r hT h1.kp h1.gs hl p hp).mono ?_
  rintro e w' ⟨rfl, F', hr, hs⟩
  refine ⟨rfl, F', h1.step hr hs, fun hb => ?_, h3.keep hs.keeps fun hm => h2 (.inl hm)⟩
  rcases hs.all g hb with h5 | h5
  · exact h2 h5
  · have := h3.2.1; omega
end

/-- Go's (z % n + n) % n. -/
theorem turn_in (z : Int) (N : Nat) (hN : 0 < N) : ∃ (r : Int) (k : Nat), z.tmod (N : Int) = r ∧ -(N : Int) < r ∧ r < (N : Int) ∧ (r + (N : Int)).tmod (N : Int) = (k : Int) ∧ (r + (N : Int)) % (N : Int) = (k : Int) ∧ k < N := by
  have h1 := Int.tmod_lt_of_pos z (show (0 : Int) < (N : Int) by omega)
  have h2 : -(N : Int) < z.tmod (N : Int) := by
    rcases Int.le_total 0 z with h | h
    · have := Int.tmod_nonneg (N : Int) h; omega
    · have h3 := Int.tmod_lt_of_pos (-z) (show (0 : Int) < (N : Int) by omega)
      rw [Int.neg_tmod] at h3
      omega
  generalize z.tmod (N : Int) = r at h1 h2
  have h4 := Int.emod_nonneg (r + (N : Int)) (show (N : Int) ≠ 0 by omega)
  have h5 := Int.emod_lt_of_pos (r + (N : Int)) (show (0 : Int) < (N : Int) by omega)
  refine ⟨r, ((r + (N : Int)) % (N : Int)).toNat, rfl, h2, h1, ?_, by omega, by omega⟩
  rw [Int.tmod_eq_emod_of_nonneg (by omega)]
  omega

end Go.Proofs.Ytilcmlioofkkmaa.indexBelow
