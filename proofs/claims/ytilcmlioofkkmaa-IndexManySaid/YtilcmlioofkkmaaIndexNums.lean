/-
  AN INDEX WHOSE KEYS ARE NAMES OF NUMBERS: what it tells of each number, and how many there are.
-/
import Derived.Test.YtilcmlioofkkmaaIndexName
namespace Go.Proofs.Ytilcmlioofkkmaa
open Go Go.RowKit

def nm (js : List (Nat × Int)) : IxSt := js.map fun x => (nameZ x.1, x.2)
def upd (f : Nat → Option Int) (k : Nat) (v : Option Int) : Nat → Option Int := fun i => if i = k then v else f i
def nGet (js : List (Nat × Int)) (k : Nat) : Option Int := (js.find? fun x => decide (x.1 = k)).map (·.2)

structure NSt (st : IxSt) (f : Nat → Option Int) (n : Nat) : Prop where
  ex : ∃ js : List (Nat × Int), st = nm js ∧ (∀ x ∈ js, x.1 ≤ 17575) ∧ (js.map (·.1)).Nodup ∧ (∀ i, nGet js i = f i) ∧ js.length = n

section
variable {js : List (Nat × Int)} {k : Nat}
theorem find_nm (h : ∀ x ∈ js, x.1 ≤ 17575) (hk : k ≤ 17575) : ixGet (nm js) (nameZ k) = nGet js k := by
  unfold ixGet nGet nm
  induction js with
  | nil => rfl
  | cons a js ih =>
    have ih := ih fun x hx => h x (List.mem_cons_of_mem _ hx)
    have ha := isK_name (h a List.mem_cons_self) hk a.2
    simp only [List.map_cons, List.find?_cons, ha]
    cases decide (a.1 = k)
    · exact ih
    · rfl
theorem nGet_none (h : nGet js k = none) : ∀ x ∈ js, x.1 ≠ k := by
  unfold nGet at h
  rw [Option.map_eq_none_iff, List.find?_eq_none] at h
  intro x hx e
  exact h x hx (decide_eq_true e)
theorem nGet_app (a : Nat × Int) (i : Nat) : nGet (js ++ [a]) i = (nGet js i).or (if a.1 = i then some a.2 else none) := by
  unfold nGet
  rw [List.find?_append]
  cases js.find? (fun x => decide (x.1 = i)) with
  | some v => rfl
  | none =>
    by_cases h : a.1 = i <;> simp [List.find?, h]
theorem nGet_drop (i : Nat) : nGet (js.filter fun x => !decide (x.1 = k)) i = if i = k then none else nGet js i := by
  unfold nGet
  induction js with
  | nil => simp
  | cons a js ih =>
    by_cases h : a.1 = k
    · simp only [List.filter_cons, h, decide_true, Bool.not_true, Bool.false_eq_true, if_false, ih, List.find?_cons]
      by_cases hi : i = k
      · simp [hi]
      · simp [hi, Ne.symm hi]
    · simp only [List.filter_cons, h, decide_false, Bool.not_false, if_true, List.find?_cons]
      by_cases hi : a.1 = i
      · have : i ≠ k := fun e => h (hi.trans e)
        simp [hi, this]
      · simp only [hi, decide_false, ih]
end
section
variable {st : IxSt} {f : Nat → Option Int} {n k : Nat}
theorem NSt.len (h : NSt st f n) : st.length = n := by
  obtain ⟨js, rfl, -, -, -, hl⟩ := h.ex
  simpa [nm] using hl
theorem NSt.get (h : NSt st f n) (hk : k ≤ 17575) : ixGet st (nameZ k) = f k := by
  obtain ⟨js, rfl, hs, -, hf, -⟩ := h.ex
  rw [find_nm hs hk, hf]
theorem NSt.new (h : NSt st f n) (hk : k ≤ 17575) (hn : f k = none) (p : Int) : NSt (ixPut st (nameZ k) p) (upd f k (some p)) (n + 1) := by
  have hg := h.get hk
  obtain ⟨js, rfl, hs, hd, hf, hl⟩ := h.ex
  have hno := nGet_none ((hf k).trans hn)
  refine ⟨js ++ [(k, p)], ?_, ?_, ?_, ?_, ?_⟩
  · unfold ixPut
    rw [hg, hn]
    simp [nm]
  · intro x hx
    rcases List.mem_append.1 hx with hx | hx
    · exact hs x hx
    · simp at hx; subst hx; exact hk
  · rw [List.map_append, List.nodup_append]
    refine ⟨hd, by simp, ?_⟩
    intro a ha b hb
    obtain ⟨x, hx, rfl⟩ := List.mem_map.1 ha
    simp at hb
    subst hb
    exact hno x hx
  · intro i
    rw [nGet_app, hf]
    unfold upd
    by_cases hi : i = k
    · subst hi; simp [hn]
    · simp [hi, Ne.symm hi]
  · simp [hl]
theorem filter_one {js : List (Nat × Int)} (hd : (js.map (·.1)).Nodup) (hm : ∃ x ∈ js, x.1 = k) : (js.filter fun x => !decide (x.1 = k)).length + 1 = js.length := by
  induction js with
  | nil => obtain ⟨x, hx, -⟩ := hm; cases hx
  | cons a js ih =>
    rw [List.map_cons, List.nodup_cons] at hd
    by_cases h : a.1 = k
    · have : js.filter (fun x => !decide (x.1 = k)) = js := by
        rw [List.filter_eq_self]
        intro x hx
        have : x.1 ≠ k := fun e => hd.1 (List.mem_map.2 ⟨x, hx, e.trans h.symm⟩)
        simp [this]
      simp [List.filter_cons, h, this]
    · have := ih hd.2 (by
        obtain ⟨x, hx, e⟩ := hm
        rcases List.mem_cons.1 hx with rfl | hx
        · exact absurd e h
        · exact ⟨x, hx, e⟩)
      simp only [List.filter_cons, h, decide_false, Bool.not_false, if_true, List.length_cons]
      omega
theorem NSt.drop (h : NSt st f n) (hk : k ≤ 17575) {v : Int} (hv : f k = some v) : ∃ m, n = m + 1 ∧ NSt (ixDrop st (nameZ k)) (upd f k none) m := by
  obtain ⟨js, rfl, hs, hd, hf, hl⟩ := h.ex
  have hm : ∃ x ∈ js, x.1 = k := by
    have := (hf k).trans hv
    unfold nGet at this
    obtain ⟨x, hx, -⟩ := Option.map_eq_some_iff.1 this
    exact ⟨x, List.mem_of_find?_eq_some hx, by simpa using List.find?_some hx⟩
  have h1 := filter_one hd hm
  refine ⟨(js.filter fun x => !decide (x.1 = k)).length, by omega, ⟨js.filter fun x => !decide (x.1 = k), ?_, ?_, ?_, ?_, rfl⟩⟩
  · unfold ixDrop nm
    rw [List.filter_map]
    congr 1
    refine List.filter_congr fun x hx => ?_
    show (!isK (nameZ k) (nameZ x.1, x.2)) = _
    rw [isK_name (hs x hx) hk]
  · exact fun x hx => hs x (List.mem_filter.1 hx).1
  · exact (List.Sublist.map _ List.filter_sublist).nodup hd
  · intro i
    rw [nGet_drop, hf]
    rfl
end

end Go.Proofs.Ytilcmlioofkkmaa
