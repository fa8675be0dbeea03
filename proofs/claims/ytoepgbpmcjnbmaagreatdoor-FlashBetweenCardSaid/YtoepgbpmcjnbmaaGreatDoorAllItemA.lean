/- Texts of one proof, behind one another: each says above its part what it proves and on which conditions. -/
import Derived.Test.YtoepgbpmcjnbmaaGreatDoorAllCalc
import Derived.Test.YtoepgbpmcjnbmaaGreatDoorAllBase
import Derived.Lib.Hide
import Derived.WalkSpells
import Derived.Lib.SmallJoins
import Derived.Deep.RegionWith
import Derived.Test.YtoepgbpmcjnbmaaGreatDoorAllNums
import Derived.Test.YtoepgbpmcjnbmaaGreatDoorAllInvs
import Derived.Deep.RegionLaw
/-
  WHAT THE PROGRAM'S ENTRIES KEEP (the face of layer 7), and how a row of entries lies in memory.
-/
section
namespace Go.Proofs.YtoepgbpmcjnbmaaGreatDoor
open Go Go.RowKit
def It.cells (x : It) : List Value := [.string x.key, .string x.val, .int .i64 x.till, .bool x.gone]
def itCells (l : List It) : List Value := l.flatMap It.cells
def It.fits (x : It) : Prop := x.key.size ≤ 1000000 ∧ x.val.size ≤ 1000000 ∧ -9223372036854775808 ≤ x.till ∧ x.till < 9223372036854775808
theorem It.may_fits {x : It} (h : x.may = true) : x.fits := by
  have := It.may_is h
  exact ⟨by omega, by omega, by omega, by omega⟩
theorem all_fits {l : List It} (h : l.all It.may = true) : ∀ x ∈ l, x.fits := fun x hx => It.may_fits (List.all_eq_true.1 h x hx)
theorem itCells_len (l : List It) : (itCells l).length = l.length * 4 := by
  induction l with
  | nil => rfl
  | cons r l ih =>
    have e : itCells (r :: l) = r.cells ++ itCells l := by simp [itCells]
    rw [e, List.length_append, ih, List.length_cons]
    show 4 + _ = _
    omega
theorem itCells_at (l : List It) (j i : Nat) (hj : j < l.length) (hi : i < 4) : (itCells l)[j * 4 + i]? = (l[j].cells)[i]? := by
  induction l generalizing j with
  | nil => simp at hj
  | cons r l ih =>
    have e : itCells (r :: l) = r.cells ++ itCells l := by simp [itCells]
    rw [e]
    cases j with
    | zero =>
      rw [Nat.zero_mul, Nat.zero_add, List.getElem?_append_left (by show i < 4; exact hi)]
      rfl
    | succ j =>
      rw [List.getElem?_append_right (by show 4 ≤ _; omega), show (j + 1) * 4 + i - r.cells.length = j * 4 + i by show (j + 1) * 4 + i - 4 = _; omega, ih j (by simpa using hj)]
      rfl
theorem itCells_snoc (l : List It) (r : It) : itCells (l ++ [r]) = itCells l ++ r.cells := by simp [itCells]
def ItsAt (w : World) (A : Option Addr) (F : Nat → Prop) (l : List It) : Prop := ∀ k (h : k < l.length), ∃ b o, A = some ⟨b, o, none⟩ ∧ F b ∧ w.cell? ⟨b, o + k * 4, none⟩ = some (.string l[k].key) ∧
  w.cell? ⟨b, o + k * 4 + 1, none⟩ = some (.string l[k].val) ∧ w.cell? ⟨b, o + k * 4 + 2, none⟩ = some (.int .i64 l[k].till) ∧ w.cell? ⟨b, o + k * 4 + 3, none⟩ = some (.bool l[k].gone)
section
variable {w w' : World} {A : Option Addr} {F G : Nat → Prop} {l : List It}
theorem ItsAt.keep (h : ItsAt w A F l) (hk : Keeps F w w') : ItsAt w' A F l := fun k hl => by
  obtain ⟨b, o, e, hF, c0, c1, c2, c3⟩ := h k hl
  exact ⟨b, o, e, hF, hk.cell c0 hF, hk.cell c1 hF, hk.cell c2 hF, hk.cell c3 hF⟩
theorem ItsAt.mono (h : ItsAt w A F l) (hF : ∀ b, b < w.heap.size → F b → G b) : ItsAt w A G l := fun k hl => by
  obtain ⟨b, o, e, hFb, c0, c1, c2, c3⟩ := h k hl
  exact ⟨b, o, e, hF b (World.block_lt_of_cell? w _ c0) hFb, c0, c1, c2, c3⟩
theorem ItsAt.nil (w : World) (A : Option Addr) (F : Nat → Prop) : ItsAt w A F [] := fun k hl => absurd hl (by simp)
theorem ItsAt.of_row (h : Row w A F (itCells l)) : ItsAt w A F l := fun k hk => by
  obtain ⟨b, o, e, hF, hc⟩ := h (fun e => by have := itCells_len l; rw [e] at this; simp at this; omega)
  have cell : ∀ i v, i < 4 → (l[k].cells)[i]? = some v → w.cell? ⟨b, o + k * 4 + i, none⟩ = some v := fun i v hi hv => by
    rw [Nat.add_assoc]
    exact hc _ v (by rw [itCells_at l k i hk hi]; exact hv)
  exact ⟨b, o, e, hF, by simpa using cell 0 _ (by decide) rfl, cell 1 _ (by decide) rfl, cell 2 _ (by decide) rfl, cell 3 _ (by decide) rfl⟩
theorem ItsAt.of_own {base n c : Nat} {e : TypeId} (h : w.ownsRow base e 4 (.slice A n c) n (itCells l)) (hn : n = l.length) : ItsAt w A (fun b => base ≤ b ∧ b < w.heap.size) l := by
  rcases Nat.eq_zero_or_pos n with h0 | hp
  · intro k hk; omega
  obtain ⟨g, cap, e, hb, -⟩ := h.form hp
  injection e with e1 e2 e3
  subst e1
  have hc := h.cells (g := g) rfl
  refine ItsAt.of_row fun _ => ⟨g, 0, rfl, h.lt g rfl, fun i v hv => ?_⟩
  have := hc i v hv
  rw [WideShapes.add_plain] at this
  exact this
theorem ItsAt.fresh (w : World) (C : Array Value) (t : TypeId) (fr : Nat × Nat) (b : Nat) (hb : b = w.heap.size) (hF : F b) (l : List It) (hx : C.toList = itCells l) : ItsAt (w.alloc (.cells C t fr)) (some ⟨b, 0, none⟩) F l :=
  ItsAt.of_row (Row.fresh w C t fr b hb hF _ hx)
end
theorem item_elem : Elem Tryz.prog 52 35 (.agg #[.string ⟨#[]⟩, .string ⟨#[]⟩, .int .i64 0, .bool false]) 4 48 := ⟨Tryz.underlying52, by kernel_rfl, rfl, by decide⟩
structure ItemOK where
  T : World → Prop
  tk : ∀ {w w' : World}, T w → Keeps (fun _ => True) w w' → T w'
  may : ∀ (w : World) (x : It), T w → x.fits →
    Calls Tryz.prog 37 #[.agg #[.string x.key, .string x.val, .int .i64 x.till, .bool x.gone]] w fun e w' => e = .returned (.bool x.may) ∧ Keeps (fun _ => True) w w'
  live : ∀ (w : World) (x : It) (now : Int), T w → x.fits → -9223372036854775808 ≤ now → now < 9223372036854775808 →
    Calls Tryz.prog 54 #[.agg #[.string x.key, .string x.val, .int .i64 x.till, .bool x.gone], .int .i64 now] w fun e w' => e = .returned (.bool (x.live now)) ∧ Keeps (fun _ => True) w w'
  encode : ∀ (w : World) (A : Option Addr) (c : Nat) (l : List It), T w → ItsAt w A (fun _ => True) l → l.length ≤ c → c ≤ maxLen → l.length ≤ 1000 → (∀ x ∈ l, x.fits) →
    Calls Tryz.prog 40 #[.slice A l.length c] w fun e w' => ∃ B k, e = .returned (.slice B (encs l).length k) ∧ (encs l).length ≤ k ∧ k ≤ maxLen ∧ Row w' B (fun b => w.heap.size ≤ b ∧ b < w'.heap.size) (bcells (encs l)) ∧ Keeps (fun _ => True) w w'
  decode : ∀ (w : World) (A : Option Addr) (c : Nat) (b : List UInt8), T w → Row w A (fun _ => True) (bcells b) → b.length ≤ c → c ≤ maxLen → b.length ≤ 1000000 →
    Calls Tryz.prog 83 #[.slice A b.length c] w fun e w' => Keeps (fun _ => True) w w' ∧
      ((∃ B k l, e = .returned (.tuple #[.slice B l.length k, .int .i64 0]) ∧ l ≠ [] ∧ l.all It.may = true ∧ bytesOf l = b ∧ l.length ≤ k ∧ k ≤ maxLen ∧ ItsAt w' B (fun b => w.heap.size ≤ b ∧ b < w'.heap.size) l) ∨
       ((∀ l : List It, l ≠ [] → l.all It.may = true → bytesOf l ≠ b) ∧ ∃ B k, e = .returned (.tuple #[.slice B 0 k, .int .i64 1])))
end Go.Proofs.YtoepgbpmcjnbmaaGreatDoor
end
/-
  THE CONTRACTS OF THE REFERENCE's ENTRIES: Key, May, Live, EqItem.
-/
section
namespace Go.Proofs.YtoepgbpmcjnbmaaGreatDoor
open Go Go.RowKit Go.Joins
theorem rkey (s : ByteArray) (hs : s.size ≤ 1000000) (w : World) (kb : Bool) (hk : (decide (1 ≤ s.size) && decide (s.size ≤ 40)) = kb) :
    Calls Tryz.prog 17 #[.string s] w fun e w' => e = .returned (.bool kb) ∧ w = w' := by
  by_cases h1 : 1 ≤ s.size
  · by_cases h2 : s.size ≤ 40
    · have t1 : decide ((1 : Int) ≤ (s.size : Int)) = true := by simp; omega
      have t2 : decide ((s.size : Int) ≤ 40) = true := by simp; omega
      obtain rfl : true = kb := by rw [← hk]; simp [h1, h2]
      clear hk h1 h2
      go_enter Tryz.func17, Tryz.ntmps17
      go_wp2_with fail
      go_ret
      exact ⟨rfl, rfl⟩
    · have t1 : decide ((1 : Int) ≤ (s.size : Int)) = true := by simp; omega
      have t2 : decide ((s.size : Int) ≤ 40) = false := by simp; omega
      obtain rfl : false = kb := by rw [← hk]; simp [h2]
      clear hk h1 h2
      go_enter Tryz.func17, Tryz.ntmps17
      go_wp2_with fail
      go_ret
      exact ⟨rfl, rfl⟩
  · have t1 : decide ((1 : Int) ≤ (s.size : Int)) = false := by simp; omega
    obtain rfl : false = kb := by rw [← hk]; simp [h1]
    clear hk h1
    go_enter Tryz.func17, Tryz.ntmps17
    go_wp2_with fail
    go_ret
    exact ⟨rfl, rfl⟩
theorem str_same (a b : ByteArray) : (a.toList == b.toList) = decide (a = b) := by
  by_cases h : a = b
  · subst h; simp
  · have : a.toList ≠ b.toList := fun e => h (by
      rw [Lib.toList_data, Lib.toList_data] at e
      exact data_inj e)
    simp [h, this]
theorem size_zero {s : ByteArray} : s = ⟨#[]⟩ ↔ s.size = 0 := by
  constructor
  · rintro rfl; rfl
  · intro h
    obtain ⟨d⟩ := s
    have : d.size = 0 := h
    rw [Array.size_eq_zero_iff] at this
    rw [this]
set_option maxHeartbeats 1000000 in
theorem rmay (w : World) (x : It) (hx : x.fits) :
    Calls Tryz.prog 14 #[.agg #[.string x.key, .string x.val, .int .i64 x.till, .bool x.gone]] w fun e w' => e = .returned (.bool x.may) ∧ Keeps (fun _ => True) w w' := by
  obtain ⟨hk, hv, ht1, ht2⟩ := hx
  have cases_ : ∃ kb, (decide (1 ≤ x.key.size) && decide (x.key.size ≤ 40)) = kb ∧ (
      (kb = false ∧ x.may = false) ∨
      (kb = true ∧ decide ((x.val.size : Int) ≤ 200) = false ∧ x.may = false) ∨
      (kb = true ∧ decide ((x.val.size : Int) ≤ 200) = true ∧ decide ((0 : Int) ≤ x.till) = false ∧ x.may = false) ∨
      (kb = true ∧ decide ((x.val.size : Int) ≤ 200) = true ∧ decide ((0 : Int) ≤ x.till) = true ∧ decide (x.till ≤ 1099511627776) = false ∧ x.may = false) ∨
      (kb = true ∧ decide ((x.val.size : Int) ≤ 200) = true ∧ decide ((0 : Int) ≤ x.till) = true ∧ decide (x.till ≤ 1099511627776) = true ∧ x.gone = false ∧ x.may = true) ∨
      (kb = true ∧ decide ((x.val.size : Int) ≤ 200) = true ∧ decide ((0 : Int) ≤ x.till) = true ∧ decide (x.till ≤ 1099511627776) = true ∧ x.gone = true ∧ (x.val.toList == []) = false ∧ x.may = false) ∨
      (kb = true ∧ decide ((x.val.size : Int) ≤ 200) = true ∧ decide ((0 : Int) ≤ x.till) = true ∧ decide (x.till ≤ 1099511627776) = true ∧ x.gone = true ∧ (x.val.toList == []) = true ∧ (x.till == 0) = false ∧ x.may = false) ∨
      (kb = true ∧ decide ((x.val.size : Int) ≤ 200) = true ∧ decide ((0 : Int) ≤ x.till) = true ∧ decide (x.till ≤ 1099511627776) = true ∧ x.gone = true ∧ (x.val.toList == []) = true ∧ (x.till == 0) = true ∧ x.may = true)) := by
    refine ⟨_, rfl, ?_⟩
    have e1 : decide ((x.val.size : Int) ≤ 200) = decide (x.val.size ≤ 200) := decide_eq_decide.2 (by omega)
    have e2 : (x.val.toList == []) = decide (x.val.size = 0) := by
      have h := str_same x.val ⟨#[]⟩
      rw [show ByteArray.toList ⟨#[]⟩ = [] from by rw [Lib.toList_data]] at h
      exact h.trans (decide_eq_decide.2 size_zero)
    have e3 : (x.till == 0) = decide (x.till = 0) := rfl
    rw [e1, e2, e3]
    unfold It.may
    generalize (decide (1 ≤ x.key.size) && decide (x.key.size ≤ 40)) = b1
    generalize decide (x.val.size ≤ 200) = b2
    generalize decide ((0 : Int) ≤ x.till) = b3
    generalize decide (x.till ≤ 1099511627776) = b4
    generalize decide (x.val.size = 0) = b5
    generalize decide (x.till = 0) = b6
    generalize x.gone = b7
    revert b1 b2 b3 b4 b5 b6 b7
    decide
  obtain ⟨kb, hkb, hc⟩ := cases_
  obtain ⟨key, val, till, gone⟩ := x
  simp only at *
  have RK := fun w => rkey key hk w kb hkb
  have HM := Lib.hid (show (⟨key, val, till, gone⟩ : It).may = (⟨key, val, till, gone⟩ : It).may from rfl)
  generalize (⟨key, val, till, gone⟩ : It).may = m at *
  clear hkb HM
  rcases hc with ⟨rfl, rfl⟩ | ⟨rfl, t1, rfl⟩ | ⟨rfl, t1, t2, rfl⟩ | ⟨rfl, t1, t2, t3, rfl⟩ | ⟨rfl, t1, t2, t3, rfl, rfl⟩ | ⟨rfl, t1, t2, t3, rfl, t4, rfl⟩ | ⟨rfl, t1, t2, t3, rfl, t4, t5, rfl⟩ | ⟨rfl, t1, t2, t3, rfl, t4, t5, rfl⟩
  all_goals
    go_enter Tryz.func14, Tryz.ntmps14
    go_wp2_with fail
    refine (RK _).mono ?_
    rintro e w1 ⟨rfl, rfl⟩
    go_wp2_with fail
    go_ret
    exact ⟨by first | rfl | (rw [← t5]; rfl), (Keeps.refl _ _).alloc _⟩
set_option maxHeartbeats 1000000 in
theorem rlive (w : World) (x : It) (hx : x.fits) (now : Int) (_hn1 : -9223372036854775808 ≤ now) (_hn2 : now < 9223372036854775808) :
    Calls Tryz.prog 47 #[.agg #[.string x.key, .string x.val, .int .i64 x.till, .bool x.gone], .int .i64 now] w fun e w' => e = .returned (.bool (x.live now)) ∧ Keeps (fun _ => True) w w' := by
  have RM := fun w => rmay w x hx
  obtain ⟨hk, hv, ht1, ht2⟩ := hx
  have hc : (x.may = false ∧ x.live now = false) ∨ (x.may = true ∧ x.gone = true ∧ x.live now = false) ∨ (x.may = true ∧ x.gone = false ∧ (x.till == 0) = true ∧ x.live now = true) ∨
      (x.may = true ∧ x.gone = false ∧ (x.till == 0) = false ∧ decide (now < x.till) = true ∧ x.live now = true) ∨ (x.may = true ∧ x.gone = false ∧ (x.till == 0) = false ∧ decide (now < x.till) = false ∧ x.live now = false) := by
    have e3 : (x.till == 0) = decide (x.till = 0) := rfl
    rw [e3]
    unfold It.live
    generalize x.may = b1
    generalize x.gone = b2
    generalize decide (x.till = 0) = b3
    generalize decide (now < x.till) = b4
    revert b1 b2 b3 b4
    decide
  obtain ⟨key, val, till, gone⟩ := x
  simp only at *
  generalize (⟨key, val, till, gone⟩ : It).live now = m at *
  generalize (⟨key, val, till, gone⟩ : It).may = q at *
  rcases hc with ⟨rfl, rfl⟩ | ⟨rfl, rfl, rfl⟩ | ⟨rfl, rfl, t1, rfl⟩ | ⟨rfl, rfl, t1, t2, rfl⟩ | ⟨rfl, rfl, t1, t2, rfl⟩
  all_goals
    go_enter Tryz.func47, Tryz.ntmps47
    go_wp2_with fail
    refine (RM _).mono ?_
    rintro e w1 ⟨rfl, hk1⟩
    have hc2 := hk1.cell (p := ⟨w.heap.size, 2, none⟩) (v := .int .i64 till) ((cell_of_block (heap_alloc_new w _) 2).trans rfl) trivial
    have hc3 := hk1.cell (p := ⟨w.heap.size, 3, none⟩) (v := .bool _) ((cell_of_block (heap_alloc_new w _) 3).trans rfl) trivial
    have HK := Lib.hid (((Keeps.refl (fun _ => True) w).alloc _).trans hk1)
    clear hk1
    go_wp2_with fail
    go_ret
    exact ⟨by first | rfl | (rw [← t2]; rfl), HK.out⟩
set_option maxHeartbeats 1000000 in
theorem reqItem (w : World) (x y : It) (hx : x.fits) (hy : y.fits) (r : Bool) (hr : decide (x = y) = r) :
    Calls Tryz.prog 49 #[.agg #[.string x.key, .string x.val, .int .i64 x.till, .bool x.gone], .agg #[.string y.key, .string y.val, .int .i64 y.till, .bool y.gone]] w fun e w' => e = .returned (.bool r) ∧ Keeps (fun _ => True) w w' := by
  obtain ⟨key, val, till, gone⟩ := x
  obtain ⟨key2, val2, till2, gone2⟩ := y
  obtain ⟨hk, hv, ht1, ht2⟩ := hx
  obtain ⟨gk, gv, gt1, gt2⟩ := hy
  simp only at *
  have hc : ((key.toList == key2.toList) = false ∧ r = false) ∨ ((key.toList == key2.toList) = true ∧ (val.toList == val2.toList) = false ∧ r = false) ∨ ((key.toList == key2.toList) = true ∧ (val.toList == val2.toList) = true ∧ (till == till2) = false ∧ r = false) ∨
      ((key.toList == key2.toList) = true ∧ (val.toList == val2.toList) = true ∧ (till == till2) = true ∧ (gone == gone2) = false ∧ r = false) ∨ ((key.toList == key2.toList) = true ∧ (val.toList == val2.toList) = true ∧ (till == till2) = true ∧ (gone == gone2) = true ∧ r = true) := by
    subst hr
    rw [str_same, str_same]
    by_cases h1 : key = key2
    · by_cases h2 : val = val2
      · by_cases h3 : till = till2
        · by_cases h4 : gone = gone2 <;> simp [h1, h2, h3, h4]
        · simp [h1, h2, h3]
      · simp [h1, h2]
    · simp [h1]
  clear hr
  rcases hc with ⟨t1, rfl⟩ | ⟨t1, t2, rfl⟩ | ⟨t1, t2, t3, rfl⟩ | ⟨t1, t2, t3, t4, rfl⟩ | ⟨t1, t2, t3, t4, rfl⟩
  all_goals
    go_enter Tryz.func49, Tryz.ntmps49
    go_wp2_with fail
    go_ret
    exact ⟨by first | rfl | (rw [← t4]; rfl), ((Keeps.refl _ _).alloc _).alloc _⟩
end Go.Proofs.YtoepgbpmcjnbmaaGreatDoor
end
/-
  THE LAW's OWN 'Cut' OF TEXTS AND OF ENTRIES.
-/
section
namespace Go.Proofs.YtoepgbpmcjnbmaaGreatDoor
open Go Go.RowKit Go.Joins
def cutTo (s : ByteArray) (n : Nat) : ByteArray := if n < s.size then s.extract 0 n else s
theorem cutTo_size (s : ByteArray) (n : Nat) : (cutTo s n).size ≤ n := by
  unfold cutTo; split
  · simp; omega
  · omega
theorem cut_nat (s : ByteArray) (n : Nat) (_hs : s.size ≤ maxLen) (hn : n ≤ 1000) (w : World) :
    Calls Tryz.prog 28 #[.string s, .int .i64 (n : Int)] w fun e w' => e = .returned (.string (cutTo s n)) ∧ w = w' := by
  unfold maxLen at _hs
  unfold cutTo
  by_cases h : n < s.size
  · rw [if_pos h]
    have h' : (n : Int) < (s.size : Int) := by omega
    go_enter Tryz.func28, Tryz.ntmps28
    go_wp2
    go_ret
    exact ⟨rfl, rfl⟩
  · rw [if_neg h]
    have h' : ¬ (n : Int) < (s.size : Int) := by omega
    go_enter Tryz.func28, Tryz.ntmps28
    go_wp2
    go_ret
    exact ⟨rfl, rfl⟩
theorem cut_50 (s : ByteArray) (hs : s.size ≤ maxLen) (w : World) : Calls Tryz.prog 28 #[.string s, .int .i64 50] w fun e w' => e = .returned (.string (cutTo s 50)) ∧ w = w' := cut_nat s 50 hs (by decide) w
theorem cut_210 (s : ByteArray) (hs : s.size ≤ maxLen) (w : World) : Calls Tryz.prog 28 #[.string s, .int .i64 210] w fun e w' => e = .returned (.string (cutTo s 210)) ∧ w = w' := cut_nat s 210 hs (by decide) w
def It.cut (x : It) : It := ⟨cutTo x.key 50, cutTo x.val 210, x.till, x.gone⟩
theorem It.cut_fits (x : It) (h1 : -9223372036854775808 ≤ x.till) (h2 : x.till < 9223372036854775808) : x.cut.fits := by
  have a := cutTo_size x.key 50
  have b := cutTo_size x.val 210
  exact ⟨show (cutTo x.key 50).size ≤ _ by omega, show (cutTo x.val 210).size ≤ _ by omega, h1, h2⟩
set_option maxHeartbeats 1000000 in
theorem law_cut (w : World) (x : It) (hk : x.key.size ≤ maxLen) (hv : x.val.size ≤ maxLen) :
    Calls Tryz.prog 13 #[.agg #[.string x.key, .string x.val, .int .i64 x.till, .bool x.gone]] w fun e w' =>
      e = .returned (.agg #[.string x.cut.key, .string x.cut.val, .int .i64 x.cut.till, .bool x.cut.gone]) ∧ Keeps (fun _ => True) w w' := by
  obtain ⟨key, val, till, gone⟩ := x
  simp only [It.cut] at *
  have C1 := fun w => cut_50 key hk w
  have C2 := fun w => cut_210 val hv w
  generalize cutTo key 50 = k' at *
  generalize cutTo val 210 = v' at *
  clear hk hv
  go_enter Tryz.func13, Tryz.ntmps13
  go_wp2_with fail
  go_region_with (first
    | (go_at_call 28; ((with_reducible refine (C1 _).mono ?_); rintro e w' ⟨rfl, rfl⟩))
    | (go_at_call 28; ((with_reducible refine (C2 _).mono ?_); rintro e w' ⟨rfl, rfl⟩)))
  all_goals go_wp2_with fail
  all_goals exact bodyPost_ret (v := .agg #[.string k', .string v', .int .i64 till, .bool gone]) (by simp [results, Tryz.results13, go_sem]) rfl ⟨rfl, (((Keeps.refl _ w).alloc _).alloc _).drew⟩
end Go.Proofs.YtoepgbpmcjnbmaaGreatDoor
end
/-
  THE PROGRAM's ENTRIES (package item): May, Live, Size.
-/
section
namespace Go.Proofs.YtoepgbpmcjnbmaaGreatDoor
open Go Go.RowKit Go.Joins
set_option maxHeartbeats 1000000 in
theorem imay (w : World) (x : It) (hx : x.fits) :
    Calls Tryz.prog 37 #[.agg #[.string x.key, .string x.val, .int .i64 x.till, .bool x.gone]] w fun e w' => e = .returned (.bool x.may) ∧ Keeps (fun _ => True) w w' := by
  obtain ⟨hk, hv, ht1, ht2⟩ := hx
  have cases_ : (decide ((x.key.size : Int) < 1) = true ∧ x.may = false) ∨
      (decide ((x.key.size : Int) < 1) = false ∧ decide ((40 : Int) < (x.key.size : Int)) = true ∧ x.may = false) ∨
      (decide ((x.key.size : Int) < 1) = false ∧ decide ((40 : Int) < (x.key.size : Int)) = false ∧ x.gone = true ∧ (x.val.toList == []) = false ∧ x.may = false) ∨
      (decide ((x.key.size : Int) < 1) = false ∧ decide ((40 : Int) < (x.key.size : Int)) = false ∧ x.gone = true ∧ (x.val.toList == []) = true ∧ (x.till == 0) = false ∧ x.may = false) ∨
      (decide ((x.key.size : Int) < 1) = false ∧ decide ((40 : Int) < (x.key.size : Int)) = false ∧ x.gone = true ∧ (x.val.toList == []) = true ∧ (x.till == 0) = true ∧ x.may = true) ∨
      (decide ((x.key.size : Int) < 1) = false ∧ decide ((40 : Int) < (x.key.size : Int)) = false ∧ x.gone = false ∧ decide ((x.val.size : Int) ≤ 200) = false ∧ x.may = false) ∨
      (decide ((x.key.size : Int) < 1) = false ∧ decide ((40 : Int) < (x.key.size : Int)) = false ∧ x.gone = false ∧ decide ((x.val.size : Int) ≤ 200) = true ∧ decide ((0 : Int) ≤ x.till) = false ∧ x.may = false) ∨
      (decide ((x.key.size : Int) < 1) = false ∧ decide ((40 : Int) < (x.key.size : Int)) = false ∧ x.gone = false ∧ decide ((x.val.size : Int) ≤ 200) = true ∧ decide ((0 : Int) ≤ x.till) = true ∧ decide (x.till ≤ 1099511627776) = false ∧ x.may = false) ∨
      (decide ((x.key.size : Int) < 1) = false ∧ decide ((40 : Int) < (x.key.size : Int)) = false ∧ x.gone = false ∧ decide ((x.val.size : Int) ≤ 200) = true ∧ decide ((0 : Int) ≤ x.till) = true ∧ decide (x.till ≤ 1099511627776) = true ∧ x.may = true) := by
    have e1 : decide ((x.val.size : Int) ≤ 200) = decide (x.val.size ≤ 200) := decide_eq_decide.2 (by omega)
    have e2 : (x.val.toList == []) = decide (x.val.size = 0) := by
      have h := str_same x.val ⟨#[]⟩
      rw [show ByteArray.toList ⟨#[]⟩ = [] from by rw [Lib.toList_data]] at h
      exact h.trans (decide_eq_decide.2 size_zero)
    have e3 : (x.till == 0) = decide (x.till = 0) := rfl
    have e4 : decide ((x.key.size : Int) < 1) = !decide (1 ≤ x.key.size) := by
      by_cases h : 1 ≤ x.key.size
      · simp [h]; omega
      · simp [h]; omega
    have e5 : decide ((40 : Int) < (x.key.size : Int)) = !decide (x.key.size ≤ 40) := by
      by_cases h : x.key.size ≤ 40
      · simp [h]; omega
      · simp [h]; omega
    have h6 : decide (x.val.size = 0) = true → decide (x.val.size ≤ 200) = true := by simp only [decide_eq_true_eq]; omega
    have h7 : decide (x.till = 0) = true → decide ((0 : Int) ≤ x.till) = true ∧ decide (x.till ≤ 1099511627776) = true := by simp only [decide_eq_true_eq]; omega
    rw [e1, e2, e3, e4, e5]
    unfold It.may
    generalize decide (1 ≤ x.key.size) = b0 at *
    generalize decide (x.key.size ≤ 40) = b1 at *
    generalize decide (x.val.size ≤ 200) = b2 at *
    generalize decide ((0 : Int) ≤ x.till) = b3 at *
    generalize decide (x.till ≤ 1099511627776) = b4 at *
    generalize decide (x.val.size = 0) = b5 at *
    generalize decide (x.till = 0) = b6 at *
    generalize x.gone = b7
    clear e1 e2 e3 e4 e5 hk hv ht1 ht2
    revert b0 b1 b2 b3 b4 b5 b6 b7
    decide
  obtain ⟨key, val, till, gone⟩ := x
  simp only at *
  have HM := Lib.hid (show (⟨key, val, till, gone⟩ : It).may = (⟨key, val, till, gone⟩ : It).may from rfl)
  generalize (⟨key, val, till, gone⟩ : It).may = m at *
  clear HM
  rcases cases_ with ⟨t1, rfl⟩ | ⟨t1, t2, rfl⟩ | ⟨t1, t2, rfl, t3, rfl⟩ | ⟨t1, t2, rfl, t3, t4, rfl⟩ | ⟨t1, t2, rfl, t3, t4, rfl⟩ | ⟨t1, t2, rfl, t3, rfl⟩ | ⟨t1, t2, rfl, t3, t4, rfl⟩ | ⟨t1, t2, rfl, t3, t4, t5, rfl⟩ | ⟨t1, t2, rfl, t3, t4, t5, rfl⟩
  all_goals
    go_enter Tryz.func37, Tryz.ntmps37
    go_wp2_with fail
    go_ret
    exact ⟨by first | rfl | (rw [← t5]; rfl) | (rw [← t4]; rfl), (Keeps.refl _ _).alloc _⟩
set_option maxHeartbeats 1000000 in
theorem ilive (w : World) (x : It) (hx : x.fits) (now : Int) (_hn1 : -9223372036854775808 ≤ now) (_hn2 : now < 9223372036854775808) :
    Calls Tryz.prog 54 #[.agg #[.string x.key, .string x.val, .int .i64 x.till, .bool x.gone], .int .i64 now] w fun e w' => e = .returned (.bool (x.live now)) ∧ Keeps (fun _ => True) w w' := by
  have RM := fun w => imay w x hx
  obtain ⟨hk, hv, ht1, ht2⟩ := hx
  have hc : (x.may = false ∧ x.live now = false) ∨ (x.may = true ∧ x.gone = true ∧ x.live now = false) ∨ (x.may = true ∧ x.gone = false ∧ (x.till == 0) = true ∧ x.live now = true) ∨
      (x.may = true ∧ x.gone = false ∧ (x.till == 0) = false ∧ decide (now < x.till) = true ∧ x.live now = true) ∨ (x.may = true ∧ x.gone = false ∧ (x.till == 0) = false ∧ decide (now < x.till) = false ∧ x.live now = false) := by
    have e3 : (x.till == 0) = decide (x.till = 0) := rfl
    rw [e3]
    unfold It.live
    generalize x.may = b1
    generalize x.gone = b2
    generalize decide (x.till = 0) = b3
    generalize decide (now < x.till) = b4
    revert b1 b2 b3 b4
    decide
  obtain ⟨key, val, till, gone⟩ := x
  simp only at *
  generalize (⟨key, val, till, gone⟩ : It).live now = m at *
  generalize (⟨key, val, till, gone⟩ : It).may = q at *
  rcases hc with ⟨rfl, rfl⟩ | ⟨rfl, rfl, rfl⟩ | ⟨rfl, rfl, t1, rfl⟩ | ⟨rfl, rfl, t1, t2, rfl⟩ | ⟨rfl, rfl, t1, t2, rfl⟩
  all_goals
    go_enter Tryz.func54, Tryz.ntmps54
    go_wp2_with fail
    refine (RM _).mono ?_
    rintro e w1 ⟨rfl, hk1⟩
    have hc2 := hk1.cell (p := ⟨w.heap.size, 2, none⟩) (v := .int .i64 till) ((cell_of_block (heap_alloc_new w _) 2).trans rfl) trivial
    have hc3 := hk1.cell (p := ⟨w.heap.size, 3, none⟩) (v := .bool _) ((cell_of_block (heap_alloc_new w _) 3).trans rfl) trivial
    have HK := Lib.hid (((Keeps.refl (fun _ => True) w).alloc _).trans hk1)
    clear hk1
    go_wp2_with fail
    go_ret
    exact ⟨by first | rfl | (rw [← t2]; rfl), HK.out⟩
theorem sizes_next (l : List It) (k : Nat) (h : k < l.length) : sizes (l.take (k + 1)) = sizes (l.take k) + l[k].size := by
  unfold sizes
  rw [List.take_succ_eq_append_getElem h, List.map_append, List.sum_append]; simp
theorem sizes_le (l : List It) (h : ∀ x ∈ l, x.fits) : sizes l ≤ 2000000 * l.length := by
  induction l with
  | nil => simp [sizes]
  | cons x l ih =>
    have h1 := h x (by simp)
    have h2 := ih fun y hy => h y (by simp [hy])
    have e : sizes (x :: l) = x.size + sizes l := by simp [sizes]
    have := h1.1
    have := h1.2.1
    rw [e, List.length_cons]
    unfold It.size
    omega
end Go.Proofs.YtoepgbpmcjnbmaaGreatDoor
end
/-
  THE PROGRAM's ENTRIES: encode, Encode.
-/
section
namespace Go.Proofs.YtoepgbpmcjnbmaaGreatDoor
open Go Go.RowKit Go.Joins
/-! ### The operations of the region -/
section
variable {w : World} {o : Oper} {a : Act} {Q : Exit → Act → World → Prop} {x y : Operand}
theorem kp_fI (i : Nat) (hi : i < 4) {b : Nat} (ho : o.op = .fieldAddr 35 x i) (hx : a.eval x = .pointer (some ⟨b, 0, none⟩)) : o.wp Tryz.prog a w (fun a' w' => ∃ v, a' = a.put o.dst v ∧ Kp w w' ∧ IsV (.pointer (some ⟨b, i, none⟩)) w' v) Q := by
  refine kp_yield (v := .pointer (some ⟨b, i, none⟩)) ?_ (Keeps.refl _ _) rfl
  generalize a.eval = ρ at hx
  unfold execOp
  rw [ho]
  match i, hi with
  | 0, _ => go_simp
  | 1, _ => go_simp
  | 2, _ => go_simp
  | 3, _ => go_simp
theorem kp_lS {p : Addr} {s : ByteArray} (hc : w.cell? p = some (.string s)) (ho : o.op = .load 9 x) (hx : a.eval x = .pointer (some p)) : o.wp Tryz.prog a w (fun a' w' => ∃ v, a' = a.put o.dst v ∧ Kp w w' ∧ IsV (.string s) w' v) Q := by
  refine kp_yield (v := .string s) ?_ (Keeps.refl _ _) rfl
  generalize a.eval = ρ at hx
  unfold execOp
  go_simp
theorem kp_lN {p : Addr} {n : Int} (hc : w.cell? p = some (.int .i64 n)) (ho : o.op = .load 2 x) (hx : a.eval x = .pointer (some p)) : o.wp Tryz.prog a w (fun a' w' => ∃ v, a' = a.put o.dst v ∧ Kp w w' ∧ IsV (.int .i64 n) w' v) Q := by
  refine kp_yield (v := .int .i64 n) ?_ (Keeps.refl _ _) rfl
  generalize a.eval = ρ at hx
  unfold execOp
  go_simp
theorem kp_asO {V : World → Value → Prop} (ho : o.op = .assign x) (hx : V w (a.eval x)) : o.wp Tryz.prog a w (fun a' w' => ∃ v', a' = a.put o.dst v' ∧ Kp w w' ∧ V w' v') Q := by
  refine kp_yield (v := a.eval x) ?_ (Keeps.refl _ _) hx
  unfold execOp; rw [ho]; rfl
def PairV (v1 v2 : Value) : World → Value → Prop := fun w v => ∃ B, v = .slice (some ⟨B, 0, none⟩) 2 2 ∧ Row w (some ⟨B, 0, none⟩) (fun _ => True) [v1, v2]
theorem PairV.keep {v1 v2 v : Value} {w w' : World} (h : Kp w w') (hv : PairV v1 v2 w v) : PairV v1 v2 w' v := by
  obtain ⟨B, e, hr⟩ := hv
  exact ⟨B, e, hr.keep h⟩
theorem kp_twoS {s t : ByteArray} (ho : o.op = .buildSlice 46 2 #[(0, x), (1, y)]) (hx : a.eval x = .string s) (hy : a.eval y = .string t) : o.wp Tryz.prog a w (fun a' w' => ∃ v, a' = a.put o.dst v ∧ Kp w w' ∧ PairV (.string s) (.string t) w' v) Q := by
  refine kp_yield (v := .slice (some ⟨w.heap.size, 0, none⟩) 2 2) (w' := w.alloc (.cells #[.string s, .string t] 9)) ?_ ((Keeps.refl _ w).alloc _) ⟨_, rfl, Row.fresh w #[.string s, .string t] 9 (0, 0) _ rfl trivial _ rfl⟩
  generalize a.eval = ρ at hx hy
  unfold execOp
  go_simp
theorem kp_twoI {s t : Int} (ho : o.op = .buildSlice 179 2 #[(0, x), (1, y)]) (hx : a.eval x = .int .i64 s) (hy : a.eval y = .int .i64 t) : o.wp Tryz.prog a w (fun a' w' => ∃ v, a' = a.put o.dst v ∧ Kp w w' ∧ PairV (.int .i64 s) (.int .i64 t) w' v) Q := by
  refine kp_yield (v := .slice (some ⟨w.heap.size, 0, none⟩) 2 2) (w' := w.alloc (.cells #[.int .i64 s, .int .i64 t] 2)) ?_ ((Keeps.refl _ w).alloc _) ⟨_, rfl, Row.fresh w #[.int .i64 s, .int .i64 t] 2 (0, 0) _ rfl trivial _ rfl⟩
  generalize a.eval = ρ at hx hy
  unfold execOp
  go_simp
end
def MadeB (l : List UInt8) : World → Value → Prop := fun w v => ∃ A c, v = .slice A l.length c ∧ Row w A (fun _ => True) (bcells l)
theorem MadeB.keep {l : List UInt8} {v : Value} {w w' : World} (h : Kp w w') (hv : MadeB l w v) : MadeB l w' v := by
  obtain ⟨A, c, e, hr⟩ := hv
  exact ⟨A, c, e, hr.keep h⟩
def GN : Nat → Option Bool := fun _ => none
theorem GN_is {V : Nat → World → Value → Prop} (g : Nat) (c : Bool) (h : GN g = some c) (w : World) (x : Value) (_ : V g w x) : x = .bool c := by cases h
def VI (base : Nat) (b : Nat) (x : It) (l1 l2 : List UInt8) : Nat → World → Value → Prop
  | 0 => IsV (.pointer (some ⟨b, 0, none⟩))
  | 1 => IsV (.string x.key)
  | 2 => IsV (.pointer (some ⟨b, 1, none⟩))
  | 3 => IsV (.string x.val)
  | 4 => PairV (.string x.key) (.string x.val)
  | 5 => MadeB l1
  | 6 => IsV (.pointer (some ⟨b, 2, none⟩))
  | 7 => IsV (.int .i64 x.till)
  | 8 => IsV (.int .i64 x.flag)
  | 9 => PairV (.int .i64 x.till) (.int .i64 x.flag)
  | 10 => fun w v => OwnB w base v l2
  | 11 => fun w v => OwnB w base v l2
  | _ => fun _ _ => True
theorem VI_keep {base b : Nat} {x : It} {l1 l2 : List UInt8} (i : Nat) (w w' : World) (v : Value) (h : Kp w w') (hv : VI base b x l1 l2 i w v) : VI base b x l1 l2 i w' v := by
  match i, hv with
  | 0, hv => exact hv
  | 1, hv => exact hv
  | 2, hv => exact hv
  | 3, hv => exact hv
  | 4, hv => exact PairV.keep h hv
  | 5, hv => exact MadeB.keep h hv
  | 6, hv => exact hv
  | 7, hv => exact hv
  | 8, hv => exact hv
  | 9, hv => exact PairV.keep h hv
  | 10, hv => exact h.own hv fun _ _ => trivial
  | 11, hv => exact h.own hv fun _ _ => trivial
  | n + 12, _ => trivial
set_option maxRecDepth 100000 in
set_option maxHeartbeats 1000000 in
theorem iencode1 (w : World) (x : It) (hx : x.may = true) :
    Calls Tryz.prog 68 #[.agg #[.string x.key, .string x.val, .int .i64 x.till, .bool x.gone]] w fun e w' => ∃ v, e = .returned v ∧ OwnB w' w.heap.size v x.bytes ∧ Keeps (fun _ => True) w w' := by
  have hm := It.may_is hx
  have hfl := x.flag_bd
  have hgo : (x.gone = false ∧ x.flag = 0) ∨ (x.gone = true ∧ x.flag = 1) := by unfold It.flag; cases x.gone <;> simp
  have hk0 : Kp w (w.alloc (.cells #[.string x.key, .string x.val, .int .i64 x.till, .bool x.gone] 35)) := (Keeps.refl _ w).alloc _
  have b0 := heap_alloc_new w (.cells #[.string x.key, .string x.val, .int .i64 x.till, .bool x.gone] 35)
  have hlt : w.heap.size < (w.alloc (.cells #[.string x.key, .string x.val, .int .i64 x.till, .bool x.gone] 35)).heap.size := by simp
  have HPT := Lib.hid (show ∀ (w3 : World) (B : Nat), Kp w w3 → Row w3 (some ⟨B, 0, none⟩) (fun _ => True) [.string x.key, .string x.val] → Calls Tryz.prog 91 #[.slice none 0 0, .slice (some ⟨B, 0, none⟩) 2 2] w3 fun e w' => ∃ v, e = .returned v ∧ Kp w3 w' ∧ MadeB (putT x.key.data.toList ++ putT x.val.data.toList) w' v from fun w3 B _ hr => by
    refine (show Calls _ _ _ _ _ from put_text none (some ⟨B, 0, none⟩) 0 2 (fun _ => True) (fun _ => True) [] [x.key, x.val] w3 (Row.nil _ _ _) hr (by unfold total; simp; omega) (by simp) (by simp)).mono ?_
    rintro e w' ⟨v, rfl, ho, hk⟩
    have e : ([] : List UInt8) ++ putsT (strs [x.key, x.val]) = putT x.key.data.toList ++ putT x.val.data.toList := by simp [putsT, strs]
    rw [e] at ho
    obtain ⟨A, c, rfl, -, hr⟩ := own_slice ho
    exact ⟨_, rfl, hk, A, c, rfl, hr.mono fun _ _ _ => trivial⟩)
  have hl1 : (putT x.key.data.toList ++ putT x.val.data.toList).length ≤ 1000 := by
    have := It.bytes_len hx
    unfold It.bytes at this
    simp only [List.length_append] at this ⊢
    omega
  have HPN := Lib.hid (show ∀ (w3 : World) (A : Option Addr) (c B : Nat), Kp w w3 → Row w3 A (fun _ => True) (bcells (putT x.key.data.toList ++ putT x.val.data.toList)) → Row w3 (some ⟨B, 0, none⟩) (fun _ => True) [.int .i64 x.till, .int .i64 x.flag] →
      Calls Tryz.prog 95 #[.slice A (putT x.key.data.toList ++ putT x.val.data.toList).length c, .slice (some ⟨B, 0, none⟩) 2 2] w3 fun e w' => ∃ v, e = .returned v ∧ Kp w3 w' ∧ OwnB w' w.heap.size v x.bytes from fun w3 A c B hk hr hr2 => by
    refine (show Calls _ _ _ _ _ from put_any A (some ⟨B, 0, none⟩) c 2 (fun _ => True) (fun _ => True) (putT x.key.data.toList ++ putT x.val.data.toList) [x.till, x.flag] w3 hr hr2 (fun n hn => by
      simp only [List.mem_cons, List.not_mem_nil, or_false] at hn
      rcases hn with rfl | rfl <;> omega) (by omega) (by simp)).mono ?_
    rintro e w' ⟨v, rfl, ho, hk'⟩
    have e : putT x.key.data.toList ++ putT x.val.data.toList ++ putsZ [x.till, x.flag] = x.bytes := by simp [putsZ, It.bytes]
    rw [e] at ho
    exact ⟨v, rfl, hk', ownsRow_le ho hk.size⟩)
  generalize hL1 : putT x.key.data.toList ++ putT x.val.data.toList = l1 at HPT HPN hl1
  generalize hL2 : x.bytes = l2 at HPN ⊢
  clear hL1 hL2
  obtain ⟨w0, hw0⟩ : ∃ w0, w.alloc (.cells #[.string x.key, .string x.val, .int .i64 x.till, .bool x.gone] 35) = w0 := ⟨_, rfl⟩
  rw [hw0] at hk0 b0 hlt
  have HW0 := Lib.hid hw0
  have HK0 := Lib.hid hk0
  have HB0 := Lib.hid b0
  have HFL := Lib.hid hfl
  have c3 := (cell_of_block b0 3).trans rfl
  have HM := Lib.hid hm
  clear hm hw0 hk0 hfl b0
  rcases hgo with ⟨hg, hf⟩ | ⟨hg, hf⟩
  all_goals
    rw [hg] at c3
    have HG := Lib.hid hg
    have HF := Lib.hid hf
    clear hg hf
    go_enter Tryz.func68, Tryz.ntmps68
    go_wp2_with (rw [HW0.out])
    try rw [HW0.out]
    refine wp_region_guard (R := Kp) (V := VI w.heap.size w.heap.size x l1 l2) (w0 := w0) GN (by kernel_rfl) (fun w => Keeps.refl _ w) (fun _ _ _ h k => h.trans k) (fun i w w' v h hv => VI_keep i w w' v h hv) (by kernel_rfl) GN_is (fun i o ho hw => (all_wanted (by kernel_rfl) ho hw).elim) ((Keeps.refl _ w0).drew) (each_of ?_) ?_
    · refine ⟨?_, ?_, ?_, ?_, ?_, ?_, ?_, ?_, ?_, ?_, ?_, ?_, trivial⟩ <;> intro hw a1 w3 L
      · exact kp_fI 0 (by decide) rfl (L.old 1 (by kernel_rfl))
      · have hb := (L.rel.block w.heap.size trivial hlt).trans HB0.out
        exact kp_lS ((cell_of_block hb 0).trans rfl) rfl (L.val 0 6 (by kernel_rfl) (by kernel_rfl))
      · exact kp_fI 1 (by decide) rfl (L.old 1 (by kernel_rfl))
      · have hb := (L.rel.block w.heap.size trivial hlt).trans HB0.out
        exact kp_lS ((cell_of_block hb 1).trans rfl) rfl (L.val 2 8 (by kernel_rfl) (by kernel_rfl))
      · exact kp_twoS rfl (L.val 1 7 (by kernel_rfl) (by kernel_rfl)) (L.val 3 9 (by kernel_rfl) (by kernel_rfl))
      · obtain ⟨B, e0, hr⟩ := (show PairV (.string x.key) (.string x.val) w3 (a1.eval (.tmp 10)) from L.val 4 10 (by kernel_rfl) (by kernel_rfl))
        have hf : a1.eval (.func 91) = .func (.func 91) #[] #[] := rfl
        have hn : a1.eval (.const (.slice none 0 0)) = .slice none 0 0 := rfl
        refine kp_enter (f := 91) (args := #[.slice none 0 0, .slice (some ⟨B, 0, none⟩) 2 2]) ?_ (HPT.out w3 B (HK0.out.trans L.rel) hr) ?_
        · clear L
          generalize a1.eval = ρ at e0 hf hn ⊢
          unfold execOp
          go_simp
        · rintro e w' ⟨v, rfl, hk, hv⟩
          exact ⟨v, rfl, hk, hv⟩
      · exact kp_fI 2 (by decide) rfl (L.old 1 (by kernel_rfl))
      · have hb := (L.rel.block w.heap.size trivial hlt).trans HB0.out
        exact kp_lN ((cell_of_block hb 2).trans rfl) rfl (L.val 6 12 (by kernel_rfl) (by kernel_rfl))
      · exact kp_move (v := .int .i64 x.flag) rfl (by rw [HF.out]; exact L.old 3 (by kernel_rfl))
      · exact kp_twoI rfl (L.val 7 13 (by kernel_rfl) (by kernel_rfl)) (L.val 8 14 (by kernel_rfl) (by kernel_rfl))
      · obtain ⟨A, c, e0, hr⟩ := (show MadeB l1 w3 (a1.eval (.tmp 11)) from L.val 5 11 (by kernel_rfl) (by kernel_rfl))
        obtain ⟨B, e1, hr2⟩ := (show PairV (.int .i64 x.till) (.int .i64 x.flag) w3 (a1.eval (.tmp 15)) from L.val 9 15 (by kernel_rfl) (by kernel_rfl))
        have hf : a1.eval (.func 95) = .func (.func 95) #[] #[] := rfl
        refine kp_enter (f := 95) (args := #[.slice A l1.length c, .slice (some ⟨B, 0, none⟩) 2 2]) ?_ (HPN.out w3 A c B (HK0.out.trans L.rel) hr hr2) ?_
        · clear L
          generalize a1.eval = ρ at e0 e1 hf ⊢
          unfold execOp
          go_simp
        · rintro e w' ⟨v, rfl, hk, hv⟩
          exact ⟨v, rfl, hk, hv⟩
      · have h10 : OwnB w3 w.heap.size (a1.eval (.tmp 16)) l2 := L.val 10 16 (by kernel_rfl) (by kernel_rfl)
        exact kp_asO rfl h10
    · intro vs w4 hk4 hlen4 hv
      match vs, hlen4 with
      | [v0, v1, v2, v3, v4, v5, v6, v7, v8, v9, v10, v11], _ =>
        have hv4 : OwnB w4 w.heap.size v11 l2 := hv 11 2 (by kernel_rfl)
        have HV := Lib.hid hv4
        have HK4 := Lib.hid (HK0.out.trans hk4)
        clear hv hv4 hk4
        simp only [putAll, List.map, Act.put, List.setIfInBounds_toArray, List.set_cons_succ, List.set_cons_zero, Exit.then]
        go_wp2_with fail
        go_ret
        exact ⟨_, rfl, HV.out, HK4.out⟩
end Go.Proofs.YtoepgbpmcjnbmaaGreatDoor
end
/-
  THE CONTRACTS OF THE REFERENCE OF LAYER 2: Put, PutText.
-/
section
namespace Go.Proofs.YtoepgbpmcjnbmaaGreatDoor
open Go Go.RowKit
theorem u64_compl (x : Nat) (h : x < 18446744073709551616) : bits .xor .u64 18446744073709551615 (x : Int) = ((18446744073709551615 - x : Nat) : Int) := by
  have e := u64_xor_nat 18446744073709551615 x (by decide) h
  have e2 : (18446744073709551615 : Nat) ^^^ x = 18446744073709551615 - x := by
    apply Nat.eq_of_testBit_eq
    intro i
    rw [show (18446744073709551615 - x : Nat) = 2 ^ 64 - (x + 1) by omega, Nat.testBit_two_pow_sub_succ (by omega), Nat.testBit_xor,
      show (18446744073709551615 : Nat) = 2 ^ 64 - 1 from by decide, Nat.testBit_two_pow_sub_one]
    by_cases hi : i < 64
    · simp [hi]
    · have := Nat.testBit_lt_two_pow (Nat.lt_of_lt_of_le (show x < 2 ^ 64 from h) (Nat.pow_le_pow_right (by decide) (show 64 ≤ i by omega)))
      simp [hi, this]
  rw [← e2, ← e]; rfl
end Go.Proofs.YtoepgbpmcjnbmaaGreatDoor
end
/-
  'Items' OF THE REFERENCE: an entry's two texts put behind what there is, in whatever order; then all entries' bytes.
-/
section
namespace Go.Proofs.YtoepgbpmcjnbmaaGreatDoor
open Go Go.RowKit Go.Joins
end Go.Proofs.YtoepgbpmcjnbmaaGreatDoor
end
/-
  'Items' AND 'EqItems' OF THE REFERENCE.
-/
section
namespace Go.Proofs.YtoepgbpmcjnbmaaGreatDoor
open Go Go.RowKit Go.Joins
theorem src_own {w : World} {base : Nat} {v : Value} {l : List UInt8} (h : OwnB w base v l) : Src Tryz.prog 1 78 v l.length (bcells l) w := by
  obtain ⟨A, c, rfl, -, hr⟩ := own_slice h
  have := hr.src (P := Tryz.prog) (c := c) Tryz.underlying78 (bcells_one l)
  rwa [bcells_len] at this
theorem take_may (l : List It) (k : Nat) (h : k < l.length) : (l.take (k + 1)).all It.may = ((l.take k).all It.may && l[k].may) := by
  rw [List.take_succ_eq_append_getElem h, List.all_append]; simp
theorem take_bytes (l : List It) (k : Nat) (h : k < l.length) : bytesOf (l.take (k + 1)) = bytesOf (l.take k) ++ l[k].bytes := by
  rw [List.take_succ_eq_append_getElem h, bytesOf_snoc]
theorem not_may {l : List It} {k : Nat} (h : k < l.length) (hm : l[k].may = false) : encs l = [] := by
  unfold encs
  rw [if_neg]
  intro ha
  have := List.all_eq_true.1 ha l[k] (List.getElem_mem h)
  rw [hm] at this; cases this
theorem take_eq {l m : List It} {k : Nat} (h : l.take k = m.take k) (hl : k < l.length) (hm : k < m.length) (e : l[k] = m[k]) : l.take (k + 1) = m.take (k + 1) := by
  rw [List.take_succ_eq_append_getElem hl, List.take_succ_eq_append_getElem hm, h, e]
set_option maxRecDepth 100000 in
set_option maxHeartbeats 1000000 in
theorem reqItems (w : World) (A B : Option Addr) (c d : Nat) (l m : List It) (hA : ItsAt w A (fun b => b < w.heap.size) l) (hB : ItsAt w B (fun b => b < w.heap.size) m) (hl : l.length ≤ c) (_hm : m.length ≤ d) (hc : c ≤ maxLen) (_hd : d ≤ maxLen) (hf : ∀ x ∈ l, x.fits) (hg : ∀ x ∈ m, x.fits) (r : Bool) (hr : decide (l = m) = r) :
    Calls Tryz.prog 26 #[.slice A l.length c, .slice B m.length d] w fun e w' => e = .returned (.bool r) ∧ Keeps (fun _ => True) w w' := by
  unfold maxLen at hc _hd
  have HA := Lib.hid hA
  have HB := Lib.hid hB
  have HF := Lib.hid hf
  have HG := Lib.hid hg
  clear hA hB hf hg
  by_cases hlen : l.length = m.length
  · have HR := Lib.hid hr
    have HL := Lib.hid hlen
    rw [← hlen] at _hm ⊢
    clear hr hlen
    go_enter Tryz.func26, Tryz.ntmps26
    go_wp2_with fail
    go_loopw [5] (fun i wr => ∃ k : Nat, k ≤ l.length ∧ i = .int .i64 k ∧ l.take k = m.take k ∧ Keeps (fun _ => True) w wr) (fun i _ => l.length - (intOf i).toNat)
    case atStart => exact ⟨0, Nat.zero_le _, rfl, rfl, Keeps.refl _ _⟩
    case round =>
      obtain ⟨k, hk, rfl, htk, hkp⟩ := hrel
      have HK := Lib.hid hkp
      have HT := Lib.hid htk
      clear hkp htk
      by_cases hlt : k < l.length
      · have t1 : decide ((k : Int) < (l.length : Int)) = true := by simp; omega
        have hlm : k < m.length := by have := HL.out; omega
        obtain ⟨b, o, rfl, -, c0, c1, c2, c3⟩ := (HA.out.keep (HK.out.mono fun _ _ _ => trivial)) k hlt
        obtain ⟨b', o', rfl, -, d0, d1, d2, d3⟩ := (HB.out.keep (HK.out.mono fun _ _ _ => trivial)) k hlm
        have fx := HF.out _ (List.getElem_mem hlt)
        have fy := HG.out _ (List.getElem_mem hlm)
        have HN := Lib.hid (take_eq HT.out hlt hlm)
        have HNE := Lib.hid (show l[k] ≠ m[k] → r = false from fun hne => by
          rw [← HR.out]
          simp only [decide_eq_false_iff_not]
          intro e; subst e; exact hne rfl)
        generalize l[k] = x at c0 c1 c2 c3 fx HN HNE
        generalize m[k] = y at d0 d1 d2 d3 fy HN HNE
        by_cases hxy : x = y
        · have RE := fun w => reqItem w x y fx fy true (by simpa using hxy)
          have HN' := Lib.hid (HN.out hxy)
          clear fx fy HN HNE hxy
          go_wp2_with fail
          go_region_with (go_at_call 49; ((with_reducible refine (RE _).mono ?_); rintro e w' ⟨rfl, hk1⟩))
          all_goals
            have HK1 := Lib.hid ((HK.out.drew).trans hk1)
            clear hk1 c0 c1 c2 c3 d0 d1 d2 d3 RE
            go_wp2_with fail
            go_roundw
            case rel => exact ⟨k + 1, by omega, by go_num, HN'.out, HK1.out⟩
            case measure => simp [intOf]; omega
        · have RE := fun w => reqItem w x y fx fy false (by simpa using hxy)
          have HNE' := Lib.hid (HNE.out hxy)
          clear fx fy HN HNE hxy
          go_wp2_with fail
          go_region_with (go_at_call 49; ((with_reducible refine (RE _).mono ?_); rintro e w' ⟨rfl, hk1⟩))
          all_goals
            have HK1 := Lib.hid ((HK.out.drew).trans hk1)
            clear hk1 c0 c1 c2 c3 d0 d1 d2 d3 RE
            go_wp2_with fail
            go_ret
            exact ⟨by rw [HNE'.out]; rfl, HK1.out⟩
      · have t1 : decide ((k : Int) < (l.length : Int)) = false := by simp; omega
        obtain rfl : k = l.length := by omega
        have he : r = true := by
          have h1 := HT.out
          rw [List.take_of_length_le (Nat.le_refl _), List.take_of_length_le (by have := HL.out; omega)] at h1
          rw [← HR.out, h1]; simp
        have HE := Lib.hid he
        clear he
        go_wp2_with fail
        go_ret
        exact ⟨by rw [HE.out]; rfl, HK.out⟩
  · have t0 : ((l.length : Int) != (m.length : Int)) = true := by simp; omega
    have he : r = false := by
      rw [← hr]
      simp only [decide_eq_false_iff_not]
      intro e; exact hlen (by rw [e])
    subst he
    clear hr
    go_enter Tryz.func26, Tryz.ntmps26
    go_wp2_with fail
    go_ret
    exact ⟨rfl, Keeps.refl _ _⟩
end Go.Proofs.YtoepgbpmcjnbmaaGreatDoor
end
/-
  THE PROGRAM's ENTRIES: Encode.
-/
section
namespace Go.Proofs.YtoepgbpmcjnbmaaGreatDoor
open Go Go.RowKit Go.Joins
set_option maxRecDepth 100000 in
set_option maxHeartbeats 1000000 in
theorem iencode (w : World) (A : Option Addr) (cap : Nat) (l : List It) (hA : ItsAt w A (fun _ => True) l) (_hl : l.length ≤ cap) (hc : cap ≤ maxLen) (hn : l.length ≤ 1000) (hf : ∀ x ∈ l, x.fits) :
    Calls Tryz.prog 40 #[.slice A l.length cap] w fun e w' => ∃ B k, e = .returned (.slice B (encs l).length k) ∧ (encs l).length ≤ k ∧ k ≤ maxLen ∧
      Row w' B (fun b => w.heap.size ≤ b ∧ b < w'.heap.size) (bcells (encs l)) ∧ Keeps (fun _ => True) w w' := by
  have hc' := hc
  unfold maxLen at hc'
  have HFIN := Lib.hid (show ∀ (v : Value) (wr : World), OwnB wr w.heap.size v (encs l) → Keeps (fun _ => True) w wr →
      ∃ B k, Ending.returned v = .returned (.slice B (encs l).length k) ∧ (encs l).length ≤ k ∧ k ≤ maxLen ∧ Row wr B (fun b => w.heap.size ≤ b ∧ b < wr.heap.size) (bcells (encs l)) ∧ Keeps (fun _ => True) w wr from fun v wr ho hkp => by
    have h2 := ho.2
    obtain ⟨B, k, rfl, -, hr⟩ := own_slice ho
    refine ⟨B, k, rfl, ?_, ?_, hr, hkp⟩
    · rcases h2 with ⟨e, h0⟩ | ⟨g, c, cur, e, -, -, h1, h2, -⟩
      · omega
      · injection e with _ _ e; omega
    · rcases h2 with ⟨e, h0⟩ | ⟨g, c, cur, e, -, -, h1, h2, -⟩
      · injection e with _ _ e; subst e; decide
      · injection e with _ _ e; omega)
  have HA := Lib.hid hA
  have HF := Lib.hid hf
  clear hA hf hc
  go_enter Tryz.func40, Tryz.ntmps40
  go_wp2
  go_loopw [3, 8] (fun v i wr => ∃ k : Nat, k ≤ l.length ∧ i = .int .i64 k ∧ (l.take k).all It.may = true ∧ OwnB wr w.heap.size v (bytesOf (l.take k)) ∧ Keeps (fun _ => True) w wr) (fun _ i _ => l.length - (intOf i).toNat)
  case atStart => exact ⟨0, Nat.zero_le _, rfl, rfl, World.ownsRow_nil _ _ _ _, Keeps.refl _ _⟩
  case round =>
    obtain ⟨k, hk, rfl, hall, hown, hkp⟩ := hrel
    have hwz := hkp.size
    have hblen := bytesOf_len hall
    rw [List.length_take, Nat.min_eq_left hk] at hblen
    have HW := Lib.hid hown
    have HK := Lib.hid hkp
    have HALL := Lib.hid hall
    clear hown hkp hall
    by_cases hlt : k < l.length
    · have t1 : decide ((k : Int) < (l.length : Int)) = true := by simp; omega
      obtain ⟨b, o, rfl, hb, d0, d1, d2, d3⟩ := HA.out k hlt
      have hfx := HF.out _ (List.getElem_mem hlt)
      have HN := Lib.hid (take_bytes l k hlt)
      have HT := Lib.hid (take_may l k hlt)
      have HNO := Lib.hid (not_may hlt)
      generalize l[k] = x at d0 d1 d2 d3 hfx HN HT HNO
      have HC := Lib.hid (show ∀ W, Keeps (fun _ => True) w W → W.cell? ⟨b, o + k * 4, none⟩ = some (.string x.key) ∧ W.cell? ⟨b, o + k * 4 + 1, none⟩ = some (.string x.val) ∧ W.cell? ⟨b, o + k * 4 + 2, none⟩ = some (.int .i64 x.till) ∧ W.cell? ⟨b, o + k * 4 + 3, none⟩ = some (.bool x.gone) from
        fun W h => ⟨h.cell d0 trivial, h.cell d1 trivial, h.cell d2 trivial, h.cell d3 trivial⟩)
      clear d0 d1 d2 d3
      obtain ⟨c0, c1, c2, c3⟩ := HC.out wr HK.out
      have RM := Lib.hid (fun W => imay W x hfx)
      have REN := Lib.hid (fun W h => iencode1 W x h)
      clear hfx
      go_wp2_with fail
      refine (RM.out _).mono ?_
      rintro e w1 ⟨rfl, hk1⟩
      have hx := hk1.block wr.heap.size trivial (by simp)
      have hx2 := hx.trans (heap_alloc_new wr (.cells #[.string x.key, .string x.val, .int .i64 x.till, .bool x.gone] 35))
      have HK1 := Lib.hid ((HK.out.alloc (.cells #[.string x.key, .string x.val, .int .i64 x.till, .bool x.gone] 35)).trans hk1)
      have HW1 := Lib.hid (((Keeps.refl (fun _ => True) wr).alloc _).trans hk1 |>.own HW.out fun _ _ => trivial)
      have e0 := (cell_of_block hx2 0).trans rfl
      have e1 := (cell_of_block hx2 1).trans rfl
      have e2 := (cell_of_block hx2 2).trans rfl
      have e3 := (cell_of_block hx2 3).trans rfl
      clear hk1 hx hx2 c0 c1 c2 c3 RM
      rcases hm : x.may with _ | _
      · have HM := Lib.hid hm
        clear hm
        go_wp2_with fail
        go_ret
        exact HFIN.out _ _ (by rw [HNO.out HM.out]; exact World.ownsRow_nil _ _ _ _) HK1.out
      · have hmb := It.bytes_len hm
        have HM := Lib.hid hm
        clear hm
        go_wp2_with fail
        refine (REN.out _ HM.out).mono ?_
        rintro e w2 ⟨v2, rfl, ho2, hk2⟩
        have HSRC := Lib.hid (src_own ho2)
        have HW2 := Lib.hid (hk2.own HW1.out fun _ _ => trivial)
        have HK2 := Lib.hid (HK1.out.trans hk2)
        have hz2 := HK2.out.size
        clear ho2 hk2 HW1 HK1 e0 e1 e2 e3 REN
        go_wp2_with (at_builtin; refine byte_elem.list_append rfl (.tmp 15) (.tmp 17) _ rfl rfl HW2.out rfl HSRC.out ?c3 ?c4 ?c5 ?_)
        case c3 => unfold maxLen; omega
        case c4 => omega
        case c5 => omega
        intro v3 w3 ho3 hg3 hb3
        have ho4 := OwnB.snoc ho3 (by rw [List.length_append]) rfl
        rw [← HN.out] at ho4
        have H1 := Lib.hid ho4
        have H2 := Lib.hid (HK2.out.grown hg3 fun j hj => (HW2.out.lt j hj).1)
        have H3 := Lib.hid (show (l.take (k + 1)).all It.may = true from by rw [HT.out, HALL.out, HM.out]; rfl)
        clear ho3 hg3 hb3 ho4 HW2 HK2 HSRC
        go_wp2_with fail
        go_roundw
        case rel => exact ⟨k + 1, by omega, by go_num, H3.out, H1.out, H2.out⟩
        case measure => simp [intOf]; omega
    · have t1 : decide ((k : Int) < (l.length : Int)) = false := by simp; omega
      obtain rfl : k = l.length := by omega
      have he : OwnB wr w.heap.size u3 (encs l) := by
        have h1 := HALL.out
        have h2 := HW.out
        rw [List.take_of_length_le (Nat.le_refl _)] at h1 h2
        rw [encs_may h1]; exact h2
      have HE := Lib.hid he
      clear he
      go_wp2_with fail
      go_ret
      exact HFIN.out _ _ HE.out HK.out
end Go.Proofs.YtoepgbpmcjnbmaaGreatDoor
end
