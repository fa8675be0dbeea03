/-
  THE PLAIN MATHEMATICS OF LAYER 4 (dev): the document's device: what is there, what lasts, what is loose. It imports nothing of the program.
-/
namespace Go.Proofs.YtajapklpdfikoaaDoor

/-- The document's device. -/
structure SDev where
  now : List (List UInt8)
  fast : List (List UInt8)
  dirty : List Bool
  calls : Nat
/-- How many sectors New(n) has. -/
def clampN (n : Int) : Nat := (max 1 (min n 2048)).toNat
theorem clampN_bd (n : Int) : 1 ≤ clampN n ∧ clampN n ≤ 2048 := by unfold clampN; omega
def blank : List UInt8 := List.replicate 64 0
def SDev.new (k : Nat) : SDev := ⟨List.replicate k blank, List.replicate k blank, List.replicate k false, 0⟩
/-- What a sector is behind a write. -/
def over (l old : List UInt8) : List UInt8 := l ++ old.drop l.length
def SDev.write (s : SDev) (i : Nat) (l : List UInt8) : SDev := ⟨s.now.set i (over l (s.now.getD i [])), s.fast, s.dirty.set i true, s.calls + 1⟩
/-- Write(i, l): what it answers, what is there behind it. -/
def SDev.writeZ (s : SDev) (i : Int) (l : List UInt8) : Int × SDev := if i < 0 ∨ (s.now.length : Int) ≤ i then (4, s) else if 64 < l.length then (1, s) else (0, s.write i.toNat l)
def SDev.flush (s : SDev) : SDev := ⟨s.now, s.now, List.replicate s.now.length false, s.calls + 1⟩
/-- The numbers of those that are true. -/
def trues (l : List Bool) : List Nat := (List.range l.length).filter fun i => l.getD i false
def SDev.loose (s : SDev) : List Nat := trues s.dirty
/-- The sectors behind a crash, where the first j of the loose ones have been looked at. -/
def keptN (s : SDev) (keep : List Bool) (j : Nat) : List (List UInt8) :=
  (List.range j).foldl (fun acc t => if keep.getD t false then acc.set (s.loose.getD t 0) (s.now.getD (s.loose.getD t 0) []) else acc) s.fast
def SDev.crash (s : SDev) (keep : List Bool) : SDev :=
  let x := keptN s keep (min s.loose.length keep.length)
  ⟨x, x, List.replicate s.now.length false, 0⟩
/-- It is one. -/
structure SDev.Ok (s : SDev) : Prop where
  fast : s.fast.length = s.now.length
  dirty : s.dirty.length = s.now.length
  pos : 1 ≤ s.now.length
  small : s.now.length ≤ 2048
  nrow : ∀ r ∈ s.now, r.length = 64
  frow : ∀ r ∈ s.fast, r.length = 64

theorem over_len (l old : List UInt8) (h : l.length ≤ old.length) : (over l old).length = old.length := by unfold over; simp; omega
theorem getD_mem {α : Type} (l : List α) (i : Nat) (d : α) (h : i < l.length) : l.getD i d = l[i] := by rw [List.getD_eq_getElem?_getD, List.getElem?_eq_getElem h]; rfl
theorem trues_lt (l : List Bool) (i : Nat) (h : i ∈ trues l) : i < l.length := by unfold trues at h; simp at h; exact h.1
theorem trues_next (l : List Bool) (k : Nat) (h : k < l.length) : trues (l.take (k + 1)) = if l[k] then trues (l.take k) ++ [k] else trues (l.take k) := by
  unfold trues
  have e1 : (l.take (k + 1)).length = k + 1 := by rw [List.length_take]; omega
  have e2 : (l.take k).length = k := by rw [List.length_take]; omega
  rw [e1, e2, List.range_succ, List.filter_append]
  have hg : (l.take (k + 1)).getD k false = l[k] := by rw [List.getD_eq_getElem?_getD, List.getElem?_take, if_pos (by omega), List.getElem?_eq_getElem h]; rfl
  have hf : (List.range k).filter (fun i => (l.take (k + 1)).getD i false) = (List.range k).filter (fun i => (l.take k).getD i false) := by
    refine List.filter_congr fun i hi => ?_
    have := List.mem_range.1 hi
    rw [List.getD_eq_getElem?_getD, List.getD_eq_getElem?_getD, List.getElem?_take, List.getElem?_take, if_pos (by omega), if_pos (by omega)]
  rw [hf, List.filter_cons, hg]
  cases l[k] <;> simp
theorem trues_len (l : List Bool) : (trues l).length ≤ l.length := by
  unfold trues
  have := List.length_filter_le (fun i => l.getD i false) (List.range l.length)
  simpa using this
theorem keptN_zero (s : SDev) (keep : List Bool) : keptN s keep 0 = s.fast := rfl
theorem keptN_next (s : SDev) (keep : List Bool) (j : Nat) : keptN s keep (j + 1) = if keep.getD j false then (keptN s keep j).set (s.loose.getD j 0) (s.now.getD (s.loose.getD j 0) []) else keptN s keep j := by
  unfold keptN; rw [List.range_succ, List.foldl_append]; rfl
theorem keptN_len (s : SDev) (keep : List Bool) (j : Nat) : (keptN s keep j).length = s.fast.length := by
  induction j with
  | zero => rfl
  | succ j ih => rw [keptN_next]; split <;> simp [ih]
theorem loose_getD (s : SDev) (h : s.Ok) (j : Nat) (hj : j < s.loose.length) : s.loose.getD j 0 < s.now.length := by
  rw [getD_mem _ _ _ hj]
  have := trues_lt s.dirty _ (List.getElem_mem hj)
  rw [h.dirty] at this; exact this
theorem keptN_row (s : SDev) (keep : List Bool) (h : s.Ok) (j : Nat) (hj : j ≤ s.loose.length) : ∀ r ∈ keptN s keep j, r.length = 64 := by
  induction j with
  | zero => exact h.frow
  | succ j ih =>
    have ih' := ih (by omega)
    rw [keptN_next]
    split
    · intro r hr
      rcases List.mem_or_eq_of_mem_set hr with hr | hr
      · exact ih' r hr
      · have hl := loose_getD s h j (by omega)
        rw [hr, getD_mem _ _ _ hl]; exact h.nrow _ (List.getElem_mem hl)
    · exact ih'
theorem new_ok (k : Nat) (h1 : 1 ≤ k) (h2 : k ≤ 2048) : (SDev.new k).Ok := by
  refine ⟨by simp [SDev.new], by simp [SDev.new], by simpa [SDev.new] using h1, by simpa [SDev.new] using h2, ?_, ?_⟩ <;>
    (intro r hr; simp [SDev.new] at hr; rw [hr.2]; simp [blank])
theorem write_ok (s : SDev) (h : s.Ok) (i : Nat) (l : List UInt8) (hi : i < s.now.length) (hl : l.length ≤ 64) : (s.write i l).Ok := by
  refine ⟨by simp [SDev.write, h.fast], by simp [SDev.write, h.dirty], by simpa [SDev.write] using h.pos, by simpa [SDev.write] using h.small, fun r hr => ?_, h.frow⟩
  rcases List.mem_or_eq_of_mem_set hr with hr | hr
  · exact h.nrow r hr
  · have := h.nrow _ (List.getElem_mem hi)
    rw [hr, getD_mem _ _ _ hi, over_len _ _ (by omega), this]
theorem flush_ok (s : SDev) (h : s.Ok) : s.flush.Ok := ⟨rfl, by simp [SDev.flush], h.pos, h.small, h.nrow, h.nrow⟩
theorem crash_ok (s : SDev) (h : s.Ok) (keep : List Bool) : (s.crash keep).Ok := by
  have e : (keptN s keep (min s.loose.length keep.length)).length = s.now.length := by rw [keptN_len, h.fast]
  have hr := keptN_row s keep h (min s.loose.length keep.length) (Nat.min_le_left _ _)
  exact ⟨rfl, by simp [SDev.crash, e], by simpa [SDev.crash, e] using h.pos, by simpa [SDev.crash, e] using h.small, hr, hr⟩

/-- What Read(i) answers. -/
def SDev.readL (s : SDev) (i : Int) : List UInt8 := if i < 0 ∨ (s.now.length : Int) ≤ i then [] else s.now.getD i.toNat []
def SDev.readE (s : SDev) (i : Int) : Int := if i < 0 ∨ (s.now.length : Int) ≤ i then 4 else 0
theorem trues_sorted (l : List Bool) : (trues l).Pairwise (· < ·) := List.Pairwise.filter _ List.pairwise_lt_range
theorem mem_trues (l : List Bool) (i : Nat) : i ∈ trues l ↔ l.getD i false = true := by
  unfold trues
  rw [List.mem_filter, List.mem_range]
  constructor
  · exact fun h => h.2
  · intro h
    refine ⟨Classical.byContradiction fun hn => ?_, h⟩
    rw [List.getD_eq_getElem?_getD, List.getElem?_eq_none (by omega)] at h
    cases h

end Go.Proofs.YtajapklpdfikoaaDoor
