/-
  THE PLAIN MATHEMATICS OF DevSectors: sectors written, flushed, written over, a crash.
-/
import Derived.Test.YtgmgojpkjchmcaaDevMath
namespace Go.Proofs.Ytgmgojpkjchmcaa.devSectors

/-- How a row begins. -/
def Begins (r : List UInt8) (a b : UInt8) : Prop := r.getD 0 0 = a ∧ r.getD 1 0 = b

structure P1 (N j : Nat) (s : SDev) : Prop where
  len : s.now.length = N
  calls : s.calls = j
  row : ∀ i, i < j → Begins (s.now.getD i []) 1 (UInt8.ofNat i)
structure P2 (N j : Nat) (s : SDev) : Prop where
  len : s.now.length = N
  calls : s.calls ≤ N + 1 + j
  fast : ∀ i, i < N → Begins (s.fast.getD i []) 1 (UInt8.ofNat i)
  row : ∀ i, i < j → Begins (s.now.getD i []) 2 (UInt8.ofNat i)
  low : ∀ i, i < N → (s.now.getD i []).getD 1 0 = UInt8.ofNat i
  dirty : ∀ i, i < N → s.dirty.getD i false = decide (i < j)
structure P3 (N : Nat) (keep : List Bool) (c : SDev) : Prop where
  len : c.now.length = N
  calls : c.calls = 0
  loose : c.loose = []
  row : ∀ i, i < N → Begins (c.now.getD i []) (if keep.getD i false then 2 else 1) (UInt8.ofNat i)

theorem getD_set {α : Type} (l : List α) (i k : Nat) (x d : α) (h : i < l.length) : (l.set i x).getD k d = if k = i then x else l.getD k d := by
  simp only [List.getD_eq_getElem?_getD, List.getElem?_set]
  by_cases e : k = i
  · subst e; simp [h]
  · simp [e, Ne.symm e]
theorem writeZ_in (s : SDev) (j : Nat) (l : List UInt8) (h : j < s.now.length) (hl : l.length ≤ 64) : s.writeZ (j : Int) l = (0, s.write j l) := by
  unfold SDev.writeZ
  rw [if_neg (by omega), if_neg (by omega), Int.toNat_natCast]
theorem over2 (a b : UInt8) (r : List UInt8) : Begins (over [a, b] r) a b := ⟨rfl, rfl⟩
theorem over1 (a : UInt8) (r : List UInt8) (h : 2 ≤ r.length) : Begins (over [a] r) a (r.getD 1 0) := by
  match r, h with
  | x :: y :: t, _ => exact ⟨rfl, rfl⟩
theorem P1.new (N : Nat) : P1 N 0 (SDev.new N) := ⟨by simp [SDev.new], rfl, fun _ h => absurd h (Nat.not_lt_zero _)⟩
theorem P1.write {N j : Nat} {s : SDev} (h : P1 N j s) (hj : j < N) : P1 N (j + 1) (s.writeZ (j : Int) [1, UInt8.ofNat j]).2 := by
  have hl := h.len
  rw [writeZ_in s j _ (by omega) (by simp)]
  refine ⟨by simpa [SDev.write] using hl, by simp [SDev.write, h.calls], fun i hi => ?_⟩
  simp only [SDev.write]
  rw [getD_set _ _ _ _ _ (by omega)]
  split
  · next e => subst e; exact over2 _ _ _
  · exact h.row i (by omega)
theorem P2.flush {N : Nat} {s : SDev} (h : P1 N N s) : P2 N 0 s.flush := by
  have hl := h.len
  refine ⟨by simpa [SDev.flush] using hl, by simp [SDev.flush, h.calls], fun i hi => h.row i hi, fun _ hi => absurd hi (Nat.not_lt_zero _), fun i hi => (h.row i hi).2, fun i hi => ?_⟩
  simp [SDev.flush, List.getD_eq_getElem?_getD, hl, hi]
theorem P2.write {N j : Nat} {s : SDev} (h : P2 N j s) (ho : s.Ok) (hj : j < N) : P2 N (j + 1) (s.writeZ (j : Int) [2]).2 := by
  have hl := h.len
  have hd := ho.dirty
  have hjl : j < s.now.length := by omega
  rw [writeZ_in s j _ hjl (by simp)]
  have h64 : (s.now.getD j []).length = 64 := by rw [getD_mem _ _ _ hjl]; exact ho.nrow _ (List.getElem_mem hjl)
  have hb := over1 2 (s.now.getD j []) (by omega)
  rw [h.low j hj] at hb
  have hc := h.calls
  refine ⟨by simpa [SDev.write] using hl, by simp [SDev.write]; omega, h.fast, fun i hi => ?_, fun i hi => ?_, fun i hi => ?_⟩
  · simp only [SDev.write]
    rw [getD_set _ _ _ _ _ hjl]
    split
    · next e => subst e; exact hb
    · exact h.row i (by omega)
  · simp only [SDev.write]
    rw [getD_set _ _ _ _ _ hjl]
    split
    · next e => subst e; exact hb.2
    · exact h.low i hi
  · simp only [SDev.write]
    rw [getD_set _ _ _ _ _ (by omega), h.dirty i hi]
    by_cases e : i = j
    · subst e; simp
    · rw [if_neg e]
      have : (i < j) ↔ (i < j + 1) := by omega
      simp [this]
theorem P2.loose {N : Nat} {s : SDev} (h : P2 N N s) (ho : s.Ok) : s.loose = List.range N := by
  have hd := ho.dirty
  unfold SDev.loose trues
  rw [hd, h.len]
  refine List.filter_eq_self.2 fun i hi => ?_
  have := List.mem_range.1 hi
  rw [h.dirty i this]; simpa using this
theorem P2.kept {N : Nat} {s : SDev} (h : P2 N N s) (ho : s.Ok) (keep : List Bool) (j : Nat) (hj : j ≤ N) (i : Nat) (hi : i < N) :
    (keptN s keep j).getD i [] = if i < j ∧ keep.getD i false = true then s.now.getD i [] else s.fast.getD i [] := by
  induction j with
  | zero => simp [keptN_zero]
  | succ j ih =>
    have ih := ih (by omega)
    have hlo : s.loose.getD j 0 = j := by rw [h.loose ho, List.getD_eq_getElem?_getD, List.getElem?_range (by omega)]; rfl
    have hkl : (keptN s keep j).length = N := by rw [keptN_len, ho.fast, h.len]
    rw [keptN_next, hlo]
    by_cases hk : keep.getD j false = true
    · rw [if_pos hk, getD_set _ _ _ _ _ (by omega)]
      by_cases e : i = j
      · subst e; rw [if_pos rfl, if_pos ⟨by omega, hk⟩]
      · rw [if_neg e, ih]
        have : (i < j) ↔ (i < j + 1) := by omega
        simp only [this]
    · rw [if_neg hk, ih]
      by_cases e : i = j
      · subst e; rw [if_neg (by simp), if_neg (fun x => hk x.2)]
      · have : (i < j) ↔ (i < j + 1) := by omega
        simp only [this]
theorem P3.crash {N : Nat} {s : SDev} (h : P2 N N s) (ho : s.Ok) (keep : List Bool) : P3 N keep (s.crash keep) := by
  have hll : s.loose.length = N := by rw [h.loose ho, List.length_range]
  refine ⟨by simp only [SDev.crash]; rw [keptN_len, ho.fast, h.len], rfl, ?_, fun i hi => ?_⟩
  · unfold SDev.loose trues SDev.crash
    refine List.filter_eq_nil_iff.2 fun i hi => ?_
    simp only [List.length_replicate, List.mem_range] at hi
    simp [List.getD_eq_getElem?_getD, hi]
  · simp only [SDev.crash]
    rw [hll, h.kept ho keep _ (Nat.min_le_left _ _) i hi]
    by_cases hk : keep.getD i false = true
    · have hil : i < keep.length := by
        rcases Nat.lt_or_ge i keep.length with x | x
        · exact x
        · rw [List.getD_eq_getElem?_getD, List.getElem?_eq_none x] at hk; cases hk
      rw [if_pos ⟨by omega, hk⟩, if_pos hk]
      exact h.row i hi
    · rw [if_neg (fun x => hk x.2), if_neg hk]
      exact h.fast i hi
end Go.Proofs.Ytgmgojpkjchmcaa.devSectors
