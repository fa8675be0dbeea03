/-
  ROWS OF RIGHTS BY A FUNCTION OF THEIR NUMBERS (layer 18).
-/
import Derived.Test.YtoegdfiehjabjaaTkIf
namespace Go.Proofs.Ytoegdfiehjabjaa
open Go Go.RowKit Go.Joins

def mkT (n : Nat) (f : Nat → Tk) : List Tk := (List.range n).map f
theorem mkT_len (n : Nat) (f : Nat → Tk) : (mkT n f).length = n := by simp [mkT]
theorem mkT_snoc (n : Nat) (f : Nat → Tk) : mkT (n + 1) f = mkT n f ++ [f n] := by simp [mkT, List.range_succ]
theorem mkT_congr {n : Nat} {f g : Nat → Tk} (h : ∀ j, j < n → f j = g j) : mkT n f = mkT n g := by
  unfold mkT
  exact List.map_congr_left fun j hj => h j (List.mem_range.1 hj)
theorem mkT_kill (p : ByteArray → Bool) (n : Nat) (f : Nat → Tk) : tkKill p (mkT n f) = mkT n fun j => tkDead p (f j) := by
  unfold tkKill mkT
  rw [List.map_map]; rfl
theorem mkT_count (p : ByteArray → Bool) (n : Nat) (f : Nat → Tk) : tkCount p (mkT n f) = ((List.range n).filter fun j => hits p (f j)).length := by
  unfold tkCount mkT
  rw [List.countP_map, List.countP_eq_length_filter]; rfl
theorem mkT_at {n m : Nat} (f : Nat → Tk) (h : m < n) (id : Int) (hid : id = (m : Int) + 1) : tkAt (mkT n f) id = some (f m) := by
  subst hid
  unfold tkAt
  rw [if_pos (by omega), show ((m : Int) + 1 - 1).toNat = m by omega]
  unfold mkT
  simp [h]
theorem mkT_used {n m : Nat} (f : Nat → Tk) (h : m < n) (id : Int) (hid : id = (m : Int) + 1) : tkUsed (mkT n f) id = mkT n fun j => if j = m then { f j with used := true } else f j := by
  unfold tkUsed
  rw [mkT_at f h id hid, hid, show ((m : Int) + 1 - 1).toNat = m by omega]
  apply List.ext_getElem?
  intro i
  simp only
  by_cases hi : i = m
  · subst hi
    rw [List.getElem?_set_self (by rw [mkT_len]; exact h)]
    simp [mkT, h]
  · rw [List.getElem?_set_ne (by omega)]
    unfold mkT
    by_cases hn : i < n
    · simp [hn, hi]
    · simp [hn]
theorem mkT_use {n m : Nat} (f : Nat → Tk) (h : m < n) (id : Int) (hid : id = (m : Int) + 1) : tkUse (mkT n f) id = if (f m).used then (⟨#[]⟩, false) else ((f m).key, (f m).good) := by
  unfold tkUse
  rw [mkT_at f h id hid]
theorem mkT_lenZ {n : Nat} {f : Nat → Tk} (h : ∀ j, j < n → (f j).used = true) : tkLen (mkT n f) = 0 := by
  unfold tkLen mkT
  rw [List.countP_map, List.countP_eq_zero]
  intro j hj
  simp [Function.comp, h j (List.mem_range.1 hj)]
theorem mkT_lenN {n : Nat} {f : Nat → Tk} (h : ∀ j, j < n → (f j).used = false) : tkLen (mkT n f) = n := by
  have e : tkLen (mkT n f) = (mkT n f).length := by
    unfold tkLen
    rw [List.countP_eq_length]
    intro t ht
    obtain ⟨j, hj, rfl⟩ := List.mem_map.1 ht
    simp [h j (List.mem_range.1 hj)]
  rw [e, mkT_len]

/-- Of a key alone, one killed row. -/
def onceF (n kill : Nat) (j : Nat) : Bool := !decide (kill < n) || decide (kill ≤ j)
def givenF (kill i : Nat) (j : Nat) : Tk := ⟨kk, onceF i kill j, false⟩
def usedF (n kill m : Nat) (j : Nat) : Tk := ⟨kk, onceF n kill j, decide (j < m)⟩
theorem inKeys_kk : inKeys [kk] kk = true := by decide
theorem given_kill (i : Nat) : tkCount (inKeys [kk]) (mkT i (givenF i i)) = i ∧ tkKill (inKeys [kk]) (mkT i (givenF i i)) ++ [tkNew kk] = mkT (i + 1) (givenF i (i + 1)) := by
  constructor
  · rw [mkT_count, List.filter_eq_self.2, List.length_range]
    intro j hj
    have : j < i := List.mem_range.1 hj
    unfold hits givenF onceF
    simp [inKeys_kk]
  · rw [mkT_kill, mkT_snoc]
    have e : givenF i (i + 1) i = tkNew kk := by simp [givenF, onceF, tkNew]
    rw [e]
    refine congrArg (· ++ [tkNew kk]) (mkT_congr fun j hj => ?_)
    have h1 : hits (inKeys [kk]) (givenF i i j) = true := by unfold hits givenF onceF; simp [inKeys_kk]
    unfold tkDead
    rw [if_pos h1]
    unfold givenF onceF
    have : ¬ i ≤ j := by omega
    simp [this]
theorem given_next {kill i : Nat} (h : i ≠ kill) : mkT i (givenF kill i) ++ [tkNew kk] = mkT (i + 1) (givenF kill (i + 1)) := by
  rw [mkT_snoc]
  have e : givenF kill (i + 1) i = tkNew kk := by
    unfold givenF onceF tkNew
    by_cases h1 : kill < i + 1
    · have : kill ≤ i := by omega
      simp [h1, this]
    · simp [h1]
  rw [e]
  refine congrArg (· ++ [tkNew kk]) (mkT_congr fun j hj => ?_)
  unfold givenF onceF
  by_cases h1 : kill < i
  · have : kill < i + 1 := by omega
    simp [h1, this]
  · have : ¬ kill < i + 1 := by omega
    simp [h1, this]
theorem given_all (n kill : Nat) : mkT n (givenF kill n) = mkT n (usedF n kill 0) := mkT_congr fun j _ => by simp [givenF, usedF]
theorem used_use {n kill m : Nat} (h : m < n) (id : Int) (hid : id = (m : Int) + 1) : tkUse (mkT n (usedF n kill m)) id = (kk, onceF n kill m) ∧ tkUsed (mkT n (usedF n kill m)) id = mkT n (usedF n kill (m + 1)) := by
  constructor
  · rw [mkT_use _ h id hid]
    simp [usedF]
  · rw [mkT_used _ h id hid]
    refine mkT_congr fun j _ => ?_
    unfold usedF
    by_cases hj : j = m
    · subst hj; simp
    · rw [if_neg hj]
      have : decide (j < m) = decide (j < m + 1) := by
        by_cases h2 : j < m
        · have : j < m + 1 := by omega
          simp [h2, this]
        · have : ¬ j < m + 1 := by omega
          simp [h2, this]
      rw [this]
theorem used_again {n kill m : Nat} (h : m < n) (id : Int) (hid : id = (m : Int) + 1) : tkUse (mkT n (usedF n kill (m + 1))) id = (⟨#[]⟩, false) ∧ tkUsed (mkT n (usedF n kill (m + 1))) id = mkT n (usedF n kill (m + 1)) := by
  constructor
  · rw [mkT_use _ h id hid]
    simp [usedF]
  · rw [mkT_used _ h id hid]
    refine mkT_congr fun j _ => ?_
    by_cases hj : j = m
    · subst hj; simp [usedF]
    · rw [if_neg hj]
theorem used_len (n kill : Nat) : tkLen (mkT n (usedF n kill n)) = 0 := mkT_lenZ fun j hj => by simp [usedF, hj]

end Go.Proofs.Ytoegdfiehjabjaa
