/-
  THE KEYS OF TokenKeys: one byte each; which of them are dead; rights by their keys (layer 18).
-/
import Derived.Test.YtoegdfiehjabjaaTkList
import Derived.Laws.OwnMore
namespace Go.Proofs.Ytoegdfiehjabjaa
open Go Go.RowKit Go.Joins

theorem tkstr_elem : Elem Try.prog 30 9 (.string ⟨#[]⟩) 1 16 := ⟨Try.underlying30, by kernel_rfl, rfl, by decide⟩
theorem tksrc (W : World) (g : Nat) (hg : g = W.heap.size) (s : ByteArray) : Src Try.prog 1 30 (.slice (some ⟨g, 0, none⟩) 1 1) 1 [.string s] (W.alloc (.cells #[.string s] 9)) := by
  subst hg
  exact src_one Try.underlying30 W (.string s) 9 rfl W.heap.size rfl 1
def keyT (r : Nat) : ByteArray := txt [UInt8.ofNat (97 + r)]
theorem keyT_size (r : Nat) : (keyT r).size ≤ 1000000 := by unfold keyT; rw [txt_size]; exact (by decide : 1 ≤ 1000000)
theorem tku8_cell {a : Nat} (h : a < 256) : bcell (UInt8.ofNat a) = .int .u8 (a : Int) := by
  unfold bcell
  congr 1
  have : (UInt8.ofNat a).toNat = a := by simp; omega
  omega
theorem keyT_conv (w : World) (g : Nat) (hg : g = w.heap.size) (r : Nat) (hr : r < 5) (x : Int) (hx : x = 97 + (r : Int)) :
    (convert 44 9 (.slice (some ⟨g, 0, none⟩) 1 1)).run Try.prog (w.alloc (.cells #[.int .u8 x] 5)) = .ok (.string (keyT r)) (w.alloc (.cells #[.int .u8 x] 5)) := by
  subst hg
  obtain rfl : x = ((97 + r : Nat) : Int) := by omega
  exact (Row.fresh w #[.int .u8 ((97 + r : Nat) : Int)] 5 (0, 0) w.heap.size rfl (F := fun _ => True) trivial (bcells [UInt8.ofNat (97 + r)]) (by show [Value.int .u8 ((97 + r : Nat) : Int)] = [bcell (UInt8.ofNat (97 + r))]; rw [tku8_cell (show 97 + r < 256 by omega)])).to_string Try.underlying44 Try.underlying5 Try.underlying9 1 1 rfl
theorem keyT_same {r s : Nat} (hr : r < 5) (hs : s < 5) : sameT (keyT r) (keyT s) = decide (r = s) := by
  have h1 : r = 0 ∨ r = 1 ∨ r = 2 ∨ r = 3 ∨ r = 4 := by omega
  have h2 : s = 0 ∨ s = 1 ∨ s = 2 ∨ s = 3 ∨ s = 4 := by omega
  rcases h1 with rfl | rfl | rfl | rfl | rfl <;> rcases h2 with rfl | rfl | rfl | rfl | rfl <;> decide
/-- Which of the five keys are dead. -/
def deadR (rs : List Nat) (r : Nat) : Bool := rs.any fun s => decide (s = r)
theorem deadR_keys {rs : List Nat} (h : ∀ r ∈ rs, r < 5) {r : Nat} (hr : r < 5) : inKeys (rs.map keyT) (keyT r) = deadR rs r := by
  unfold inKeys deadR
  induction rs with
  | nil => rfl
  | cons s rs ih =>
    rw [List.map_cons, List.any_cons, List.any_cons, ih fun x hx => h x (List.mem_cons_of_mem _ hx), keyT_same (h s (List.mem_cons_self ..)) hr]
theorem deadR_snoc (rs : List Nat) (s r : Nat) : deadR (rs ++ [s]) r = (deadR rs r || decide (s = r)) := by simp [deadR]
/-- The five marks. -/
def BBlk (w : World) (g : Nat) (D : Nat → Bool) : Prop := w.heap[g]? = some (.cells #[.bool (D 0), .bool (D 1), .bool (D 2), .bool (D 3), .bool (D 4)] 45 (0, 0))
section
variable {w w' : World} {g : Nat} {D : Nat → Bool} {G : Nat → Prop}
theorem BBlk.lt (h : BBlk w g D) : g < w.heap.size := (Array.getElem?_eq_some_iff.1 h).1
theorem BBlk.keep (h : BBlk w g D) (hk : Keeps G w w') (hG : G g) : BBlk w' g D := (hk.block g hG h.lt).trans h
theorem BBlk.at_ (h : BBlk w g D) (r : Nat) (hr : r < 5) : w.cell? ⟨g, r, none⟩ = some (.bool (D r)) := by
  refine (cell_of_block h r).trans ?_
  have h1 : r = 0 ∨ r = 1 ∨ r = 2 ∨ r = 3 ∨ r = 4 := by omega
  rcases h1 with rfl | rfl | rfl | rfl | rfl <;> rfl
theorem BBlk.fz (h : BBlk w g D) (i : Nat) : w.frozen? ⟨g, i, none⟩ = false := unfrozen_of_block h i
theorem BBlk.set (h : BBlk w g D) (s : Nat) (hs : s < 5) (E : Nat → Bool) (hE : ∀ r, E r = (D r || decide (s = r))) : BBlk (w.setCell ⟨g, s, none⟩ (.bool true)) g E := by
  refine (block_setCell h _).trans ?_
  have h1 : s = 0 ∨ s = 1 ∨ s = 2 ∨ s = 3 ∨ s = 4 := by omega
  rcases h1 with rfl | rfl | rfl | rfl | rfl <;> simp [hE]
end
/-- The rights: given; those of dead keys dead; the first m used. -/
def keysF (D : Nat → Bool) (m : Nat) (j : Nat) : Tk := ⟨keyT (j % 5), !D (j % 5), decide (j < m)⟩
def noneD : Nat → Bool := fun _ => false
theorem keys_give (i : Nat) : mkT i (keysF noneD 0) ++ [tkNew (keyT (i % 5))] = mkT (i + 1) (keysF noneD 0) := by
  rw [mkT_snoc]
  rfl
def deadN (D : Nat → Bool) (n : Nat) : Nat := ((List.range n).filter fun j => D (j % 5)).length
theorem deadN_le (D : Nat → Bool) (n : Nat) : deadN D n ≤ n := by
  unfold deadN
  exact Nat.le_trans (List.length_filter_le _ _) (by simp)
theorem deadN_step (D : Nat → Bool) (n : Nat) : deadN D (n + 1) = deadN D n + (if D (n % 5) then 1 else 0) := by
  unfold deadN
  rw [List.range_succ, List.filter_append, List.length_append]
  cases h : D (n % 5) <;> simp [h]
theorem keys_kill {rs : List Nat} (h : ∀ r ∈ rs, r < 5) (n : Nat) : tkCount (inKeys (rs.map keyT)) (mkT n (keysF noneD 0)) = deadN (deadR rs) n ∧ tkKill (inKeys (rs.map keyT)) (mkT n (keysF noneD 0)) = mkT n (keysF (deadR rs) 0) := by
  have e : ∀ j, hits (inKeys (rs.map keyT)) (keysF noneD 0 j) = deadR rs (j % 5) := fun j => by
    unfold hits keysF noneD
    simp [deadR_keys h (show j % 5 < 5 by omega)]
  constructor
  · rw [mkT_count]
    unfold deadN
    simp only [e]
  · rw [mkT_kill]
    refine mkT_congr fun j _ => ?_
    unfold tkDead
    rw [e]
    unfold keysF noneD
    cases deadR rs (j % 5) <;> simp
theorem keys_again {rs : List Nat} (h : ∀ r ∈ rs, r < 5) (n : Nat) : tkCount (inKeys (rs.map keyT)) (mkT n (keysF (deadR rs) 0)) = 0 ∧ tkKill (inKeys (rs.map keyT)) (mkT n (keysF (deadR rs) 0)) = mkT n (keysF (deadR rs) 0) := by
  have e : ∀ j, hits (inKeys (rs.map keyT)) (keysF (deadR rs) 0 j) = false := fun j => by
    unfold hits keysF
    simp only [deadR_keys h (show j % 5 < 5 by omega)]
    cases deadR rs (j % 5) <;> simp
  constructor
  · rw [mkT_count]
    simp only [e]
    simp
  · rw [mkT_kill]
    refine mkT_congr fun j _ => ?_
    unfold tkDead
    rw [e]; simp
theorem keys_len (D : Nat → Bool) (n : Nat) : tkLen (mkT n (keysF D 0)) = n := mkT_lenN fun j _ => by simp [keysF]
theorem keys_use {D : Nat → Bool} {n m : Nat} (h : m < n) (id : Int) (hid : id = (m : Int) + 1) : tkUse (mkT n (keysF D m)) id = (keyT (m % 5), !D (m % 5)) ∧ tkUsed (mkT n (keysF D m)) id = mkT n (keysF D (m + 1)) := by
  constructor
  · rw [mkT_use _ h id hid]
    simp [keysF]
  · rw [mkT_used _ h id hid]
    refine mkT_congr fun j _ => ?_
    unfold keysF
    by_cases hj : j = m
    · subst hj; simp
    · rw [if_neg hj]
      have : decide (j < m) = decide (j < m + 1) := by
        by_cases h2 : j < m
        · have : j < m + 1 := by omega
          simp [h2, this]
        · have : ¬ j < m + 1 := by omega
          simp [h2, this]
      rw [this]
theorem turn5 (z : Int) : ∃ (t : Int) (k : Nat), z.tmod 5 = t ∧ -5 ≤ t ∧ t ≤ 5 ∧ (t + 5).tmod 5 = (k : Int) ∧ k < 5 := by
  have a1 := Int.tmod_lt_of_pos z (show (0 : Int) < 5 by decide)
  have a2 := Int.tmod_lt_of_pos (-z) (show (0 : Int) < 5 by decide)
  rw [Int.neg_tmod] at a2
  have a3 := Int.emod_nonneg (z.tmod 5 + 5) (show (5 : Int) ≠ 0 by decide)
  have a4 := Int.emod_lt_of_pos (z.tmod 5 + 5) (show (0 : Int) < 5 by decide)
  exact ⟨z.tmod 5, ((z.tmod 5 + 5) % 5).toNat, rfl, by omega, by omega, by rw [Int.tmod_eq_emod_of_nonneg (by omega)]; omega, by omega⟩

theorem tk_form {w : World} {base n size : Nat} {e : TypeId} {v : Value} {xs : List Value} (h : w.ownsRow base e size v n xs) : ∃ A c, v = .slice A n c := by
  rcases h.2 with ⟨rfl, h0⟩ | ⟨g, cap, cur, rfl, r⟩
  · exact ⟨none, 0, by rw [h0]⟩
  · exact ⟨_, _, rfl⟩
theorem tk_row {w : World} {B n : Nat} {A : Option Addr} {c : Nat} {ks : List ByteArray} (hn : ks.length = n) (h : w.ownsRow B 9 1 (.slice A n c) n (ks.map Value.string)) : Row w A (fun b => B ≤ b ∧ b < w.heap.size) (ks.map Value.string) ∧ n ≤ c ∧ c ≤ maxLen := by
  subst hn
  refine ⟨?_, ?_⟩
  · have e : ks.length = (ks.map Value.string).length := by rw [List.length_map]
    rw [e] at h
    exact Row.of_own h
  · rcases h.2 with ⟨h', h0⟩ | ⟨g', cap', cur, h', _, _, h1, h2, _⟩
    · injection h' with _ h3 h4
      subst h4
      exact ⟨by omega, Nat.zero_le _⟩
    · injection h' with _ _ h'
      subst h'
      exact ⟨h1, h2⟩

theorem tk_rowA {w : World} {B n : Nat} {v : Value} {ks : List ByteArray} (hn : ks.length = n) (h : w.ownsRow B 9 1 v n (ks.map Value.string)) : ∃ A c, v = .slice A n c ∧ n ≤ c ∧ c ≤ maxLen ∧ Row w A (fun b => B ≤ b ∧ b < w.heap.size) (ks.map Value.string) := by
  obtain ⟨A, c, rfl⟩ := tk_form h
  obtain ⟨h1, h2, h3⟩ := tk_row hn h
  exact ⟨A, c, rfl, h2, h3, h1⟩

end Go.Proofs.Ytoegdfiehjabjaa
