/-
  THE LAW's OWN MEMORY OF WHAT WAS PUT (FlashAll): its entries, as they lie; cost, last, after.
-/
import Derived.Test.YtoepgbpmcjnbmaaGreatDoorFlashLocs
import Derived.Laws.OwnMore
namespace Go.Proofs.YtoepgbpmcjnbmaaGreatDoor.flashAll
open Go Go.RowKit Go.Joins
def It.kost (x : It) : Nat := x.key.size + x.val.size + 80
def entCells (x : It) (i : Nat) : List Value := [.string x.key, .string x.val, .int .i64 x.till, .bool x.gone, .int .i64 (It.kost x : Int), .int .i64 (i : Int)]
def entC : Nat → List It → List Value
  | _, [] => []
  | o, x :: l => entCells x o ++ entC (o + 1) l
theorem entC_len (l : List It) : ∀ o, (entC o l).length = l.length * 6 := by
  induction l with
  | nil => intro o; rfl
  | cons x l ih => intro o; unfold entC; rw [List.length_append, ih, List.length_cons]; simp [entCells]; omega
theorem entC_snoc (l : List It) (x : It) : ∀ o, entC o (l ++ [x]) = entC o l ++ entCells x (o + l.length) := by
  induction l with
  | nil => intro o; simp [entC]
  | cons y l ih =>
    intro o
    show entCells y o ++ entC (o + 1) (l ++ [x]) = (entCells y o ++ entC (o + 1) l) ++ _
    rw [ih, List.append_assoc, show o + 1 + l.length = o + (y :: l).length from by simp; omega]
theorem entC_at (l : List It) : ∀ (o j i : Nat) (hj : j < l.length), i < 6 → (entC o l)[j * 6 + i]? = (entCells l[j] (o + j))[i]? := by
  induction l with
  | nil => intro o j i hj; simp at hj
  | cons x l ih =>
    intro o j i hj hi
    show (entCells x o ++ entC (o + 1) l)[j * 6 + i]? = _
    cases j with
    | zero =>
      rw [List.getElem?_append_left (by simp [entCells]; omega)]
      simp
    | succ j =>
      rw [List.getElem?_append_right (by simp [entCells]; omega), show (j + 1) * 6 + i - (entCells x o).length = j * 6 + i by simp [entCells]; omega, ih (o + 1) j i (by simpa using hj) hi]
      simp [show o + 1 + j = o + (j + 1) by omega]
theorem entC_one (l : List It) : ∀ o, ∀ u ∈ entC o l, u.oneCell' = true := by
  induction l with
  | nil => intro o u hu; cases hu
  | cons x l ih =>
    intro o u hu
    rcases List.mem_append.1 (show u ∈ entCells x o ++ entC (o + 1) l from hu) with h | h
    · simp only [entCells, List.mem_cons, List.not_mem_nil, or_false] at h
      rcases h with rfl | rfl | rfl | rfl | rfl | rfl <;> rfl
    · exact ih _ u h
def EntsR (w : World) (sp : Nat) (A : Option Addr) (c : Nat) (L : List It) : Prop := w.cell? ⟨sp, 0, none⟩ = some (.slice A L.length c) ∧ ∀ k (h : k < L.length), ∃ b o, A = some ⟨b, o, none⟩ ∧
  w.cell? ⟨b, o + k * 6, none⟩ = some (.string L[k].key) ∧ w.cell? ⟨b, o + k * 6 + 1, none⟩ = some (.string L[k].val) ∧ w.cell? ⟨b, o + k * 6 + 2, none⟩ = some (.int .i64 L[k].till) ∧ w.cell? ⟨b, o + k * 6 + 3, none⟩ = some (.bool L[k].gone) ∧
  w.cell? ⟨b, o + k * 6 + 4, none⟩ = some (.int .i64 (It.kost L[k] : Int)) ∧ w.cell? ⟨b, o + k * 6 + 5, none⟩ = some (.int .i64 (k : Int))
theorem EntsR.keep {w w' : World} {sp c : Nat} {A : Option Addr} {L : List It} (h : EntsR w sp A c L) (hk : Kp w w') : EntsR w' sp A c L :=
  ⟨hk.cell h.1 trivial, fun k hl => by
    obtain ⟨b, o, e, c0, c1, c2, c3, c4, c5⟩ := h.2 k hl
    exact ⟨b, o, e, hk.cell c0 trivial, hk.cell c1 trivial, hk.cell c2 trivial, hk.cell c3 trivial, hk.cell c4 trivial, hk.cell c5 trivial⟩⟩
def lastI (L : List It) (k : ByteArray) : Nat → Option Nat
  | 0 => none
  | n + 1 => if (L.getD n default).key = k ∧ k ≠ ⟨#[]⟩ then some n else lastI L k n
theorem lastI_some {L : List It} {k : ByteArray} {n i : Nat} (h : lastI L k n = some i) : i < n ∧ (L.getD i default).key = k ∧ k ≠ ⟨#[]⟩ ∧ ∀ j, i < j → j < n → (L.getD j default).key ≠ k := by
  induction n with
  | zero => cases h
  | succ n ih =>
    unfold lastI at h
    by_cases hc : (L.getD n default).key = k ∧ k ≠ ⟨#[]⟩
    · rw [if_pos hc] at h
      injection h with h
      subst h
      exact ⟨by omega, hc.1, hc.2, fun j h1 h2 => by omega⟩
    · rw [if_neg hc] at h
      obtain ⟨h1, h2, h3, h4⟩ := ih h
      refine ⟨by omega, h2, h3, fun j h5 h6 e => ?_⟩
      rcases Nat.lt_or_ge j n with h7 | h7
      · exact h4 j h5 h7 e
      · obtain rfl : j = n := by omega
        exact hc ⟨e, h3⟩
theorem lastI_none {L : List It} {k : ByteArray} {n : Nat} (h : lastI L k n = none) : ∀ j, j < n → (L.getD j default).key = k → k = ⟨#[]⟩ := by
  induction n with
  | zero => intro j hj; omega
  | succ n ih =>
    unfold lastI at h
    by_cases hc : (L.getD n default).key = k ∧ k ≠ ⟨#[]⟩
    · rw [if_pos hc] at h; cases h
    · rw [if_neg hc] at h
      intro j hj e
      rcases Nat.lt_or_ge j n with h7 | h7
      · exact ih h j h7 e
      · obtain rfl : j = n := by omega
        exact Classical.byContradiction fun hk => hc ⟨e, hk⟩
def costFrom (L : List It) (i : Nat) : Nat := ((L.drop i).map It.kost).sum
theorem costFrom_step (L : List It) (i : Nat) (h : i < L.length) : costFrom L i = It.kost L[i] + costFrom L (i + 1) := by
  unfold costFrom
  rw [List.drop_eq_getElem_cons h]
  rfl
theorem costFrom_end (L : List It) : costFrom L L.length = 0 := by simp [costFrom]
theorem costFrom_le (L : List It) (hb : ∀ x ∈ L, It.kost x ≤ 2000) (i : Nat) : costFrom L i ≤ 2000 * L.length := by
  unfold costFrom
  have : ∀ m : List It, (∀ x ∈ m, It.kost x ≤ 2000) → (m.map It.kost).sum ≤ 2000 * m.length := fun m => by
    induction m with
    | nil => intro _; simp
    | cons x m ih =>
      intro h
      have h1 := h x (List.mem_cons_self ..)
      have h2 := ih fun y hy => h y (List.mem_cons_of_mem _ hy)
      simp only [List.map_cons, List.sum_cons, List.length_cons]
      omega
  refine Nat.le_trans (this _ fun x hx => hb x (List.mem_of_mem_drop hx)) ?_
  rw [List.length_drop]
  omega
set_option maxRecDepth 100000 in
theorem cost_any (w : World) (x : It) (h1 : x.key.size ≤ 100000) (h2 : x.val.size ≤ 100000) : Calls Tryz.prog 42 #[.agg #[.string x.key, .string x.val, .int .i64 x.till, .bool x.gone]] w fun e w' => e = .returned (.int .i64 (It.kost x : Int)) ∧ Kp w w' := by
  have hk : ((It.kost x : Nat) : Int) = (x.key.size : Int) + (x.val.size : Int) + 80 := by unfold It.kost; omega
  rw [hk]
  clear hk
  go_enter Tryz.func42, Tryz.ntmps42
  go_wp2_with fail
  go_ret
  exact ⟨rfl, (Keeps.refl _ w).alloc _⟩
set_option maxRecDepth 100000 in
set_option maxHeartbeats 1000000 in
theorem after_any (w : World) (sp : Nat) (A : Option Addr) (c : Nat) (L : List It) (hR : EntsR w sp A c L) (hl : L.length ≤ 60) (hb : ∀ x ∈ L, It.kost x ≤ 2000) (i : Nat) (hi : i < L.length) :
    Calls Tryz.prog 48 #[.pointer (some ⟨sp, 0, none⟩), .int .i64 (i : Int)] w fun e w' => e = .returned (.int .i64 (costFrom L i : Int)) ∧ w' = w := by
  have hR0 := hR.1
  obtain ⟨b, o, rfl, c0, c1, c2, c3, c4, c5⟩ := hR.2 i hi
  have HR := Lib.hid hR
  have HB := Lib.hid hb
  obtain ⟨n, hn⟩ : ∃ n, L.length = n := ⟨_, rfl⟩
  have HN := Lib.hid hn
  have HC := Lib.hid (costFrom_le L hb)
  rw [hn] at hl hR0
  have hi' : (i : Int) < (n : Int) := by omega
  have hi2 : i < n := by omega
  clear c0 c1 c2 c3 c4 hb hR hn hi
  go_enter Tryz.func48, Tryz.ntmps48
  go_wp2_with fail
  go_loopw [5, 6] (fun s k wr => ∃ (a j : Nat), j ≤ n ∧ i ≤ j ∧ s = .int .i64 (a : Int) ∧ k = .int .i64 (j : Int) ∧ wr = w ∧ Hid (a + costFrom L j = costFrom L i)) (fun _ k _ => n - (intOf k).toNat)
  case atStart => exact ⟨0, i, by omega, Nat.le_refl _, rfl, rfl, rfl, Lib.hid (Nat.zero_add _)⟩
  case round =>
    obtain ⟨a, j, hj, hij, rfl, rfl, rfl, HS⟩ := hrel
    have ha : a ≤ 120000 := by have h1 := HS.out; have h2 := HC.out i; have h3 := HN.out; omega
    by_cases hl2 : j < n
    · have hl' : (j : Int) < (n : Int) := by omega
      have hjl : j < L.length := by rw [HN.out]; exact hl2
      obtain ⟨b2, o2, e, -, -, -, -, d4, -⟩ := HR.out.2 j hjl
      injection e with e
      injection e with e1 e2
      subst e1 e2
      have HS2 := Lib.hid (show (a + It.kost L[j]) + costFrom L (j + 1) = costFrom L i from by rw [← HS.out, costFrom_step L j hjl]; omega)
      have hk2 := HB.out _ (List.getElem_mem hjl)
      generalize It.kost L[j] = y at d4 HS2 hk2
      go_wp2_with fail
      go_roundw
      case rel => exact ⟨a + y, j + 1, by omega, by omega, by go_num, by go_num, trivial, HS2⟩
      case measure => simp [intOf]; omega
    · obtain rfl : n = j := by omega
      have hl' : ¬ (n : Int) < (n : Int) := by omega
      have HE := Lib.hid (show a = costFrom L i from by have h := HS.out; have h2 := HN.out; have h3 := costFrom_end L; rw [h2] at h3; omega)
      go_wp2_with fail
      go_ret
      exact ⟨by rw [HE.out]; rfl, rfl⟩
def lastV (L : List It) (o : Option Nat) : Value := match o with
  | some i => .tuple #[.agg #[.string (L.getD i default).key, .string (L.getD i default).val, .int .i64 (L.getD i default).till, .bool (L.getD i default).gone], .int .i64 (i : Int), .bool true]
  | none => .tuple #[.agg #[.string ⟨#[]⟩, .string ⟨#[]⟩, .int .i64 0, .bool false], .int .i64 0, .bool false]
set_option maxRecDepth 100000 in
set_option maxHeartbeats 1000000 in
theorem last_any (w : World) (sp : Nat) (A : Option Addr) (c : Nat) (L : List It) (hR : EntsR w sp A c L) (hl : L.length ≤ 60) (k : ByteArray) (m : Nat) (hm : m = L.length) :
    Calls Tryz.prog 46 #[.pointer (some ⟨sp, 0, none⟩), .string k, .int .i64 (m : Int)] w fun e w' => e = .returned (lastV L (lastI L k m)) ∧ Kp w w' := by
  obtain ⟨w1, hw1⟩ : ∃ w1, w.alloc (.cells #[.string ⟨#[]⟩, .string ⟨#[]⟩, .int .i64 0, .bool false] 35) = w1 := ⟨_, rfl⟩
  have hk1 : Kp w (w.alloc (.cells #[.string ⟨#[]⟩, .string ⟨#[]⟩, .int .i64 0, .bool false] 35)) := (Keeps.refl _ w).alloc _
  rw [hw1] at hk1
  have hsp : sp < w.heap.size := World.block_lt_of_cell? w _ hR.1
  have HR := Lib.hid (hR.keep hk1)
  have HRW := Lib.hid hR
  have hR0 := (hR.keep hk1).1
  rw [← hm] at hR0
  have HM := Lib.hid hm
  have hm60 : m ≤ 60 := by omega
  have HW1 := Lib.hid hw1
  clear hR hk1 hw1 hm hl
  go_enter Tryz.func46, Tryz.ntmps46
  go_wp2_with fail
  rw [HW1.out]
  go_loopw [9] (fun i wr => ∃ (j : Nat) (z : Int), j ≤ m ∧ z = (j : Int) - 1 ∧ i = .int .i64 z ∧ wr = w1 ∧ Hid (lastI L k m = lastI L k j)) (fun i _ => (intOf i + 1).toNat)
  case atStart => exact ⟨m, _, Nat.le_refl _, rfl, rfl, rfl, Lib.hid rfl⟩
  case round =>
    obtain ⟨j, z, hj, hz, rfl, rfl, HI⟩ := hrel
    cases j with
    | zero =>
      obtain rfl : z = -1 := by omega
      have HE := Lib.hid (show lastI L k m = none from by rw [HI.out]; rfl)
      have hw := HW1.out
      subst hw
      clear hz HI hR0 HW1 HR
      go_wp2_with fail
      refine bodyPost_ret (v := lastV L none) (by simp [results, Tryz.results46, go_sem, lastV]) rfl ⟨by rw [HE.out], (Keeps.refl _ w).alloc _⟩
      done
    | succ j =>
      obtain rfl : z = (j : Int) := by omega
      have hjm : (j : Int) < (m : Int) := by omega
      have hjl : j < L.length := by rw [← HM.out]; omega
      have hg : L.getD j default = L[j] := by simp [hjl]
      have HI2 := Lib.hid (show lastI L k m = if L[j].key = k ∧ k ≠ ⟨#[]⟩ then some j else lastI L k j from by rw [HI.out]; show (if _ then _ else _) = _; rw [hg])
      by_cases hk : L[j].key = k ∧ k ≠ ⟨#[]⟩
      · obtain ⟨b, o, rfl, c0, c1, c2, c3, -, -⟩ := HRW.out.2 j hjl
        have hbl : b < w.heap.size := World.block_lt_of_cell? w _ c0
        have HE := Lib.hid (show lastI L k m = some j from by rw [HI2.out, if_pos hk])
        have HL := Lib.hid (show lastV L (some j) = .tuple #[.agg #[.string L[j].key, .string L[j].val, .int .i64 L[j].till, .bool L[j].gone], .int .i64 (j : Int), .bool true] from by unfold lastV; simp only [hg])
        have h1 : k.toList.isEmpty = false := by
          rw [ByteArray.toList_eq]
          cases he : k.data.toList with
          | nil => exact absurd (data_inj (a := k) (b := ⟨#[]⟩) he) hk.2
          | cons _ _ => rfl
        have h0 := hk.1
        have hR1 := HRW.out.1
        rw [← HM.out] at hR1
        have hw := HW1.out
        subst hw
        generalize L[j].key = x0 at c0 HL h0
        subst h0
        generalize L[j].val = x1 at c1 HL
        generalize L[j].till = x2 at c2 HL
        generalize L[j].gone = x3 at c3 HL
        clear hz HI HI2 hR0 HW1 HR hk hg
        go_wp2_with fail
        refine bodyPost_ret (v := .tuple #[.agg #[.string x0, .string x1, .int .i64 x2, .bool x3], .int .i64 (j : Int), .bool true]) (by simp [results, Tryz.results46, go_sem]) rfl ⟨by rw [HE.out, HL.out], (Keeps.refl _ w).alloc _⟩
      · obtain ⟨b, o, rfl, c0, c1, c2, c3, -, -⟩ := HR.out.2 j hjl
        have HE := Lib.hid (show lastI L k m = lastI L k j from by rw [HI2.out, if_neg hk])
        have hc : ((L[j].key.toList == k.toList) = true ∧ k.toList.isEmpty = true) ∨ (L[j].key.toList == k.toList) = false := by
          cases h1 : (L[j].key.toList == k.toList) with
          | false => exact .inr rfl
          | true =>
            refine .inl ⟨rfl, ?_⟩
            have e1 := eq_of_beq h1
            rw [ByteArray.toList_eq, ByteArray.toList_eq] at e1
            have e2 := data_inj e1
            have : k = ⟨#[]⟩ := Classical.byContradiction fun hn => hk ⟨e2, hn⟩
            rw [this, ByteArray.toList_eq]
            rfl
        clear hk HI2 hg
        generalize L[j].key = x0 at c0 hc
        clear c1 c2 c3 hz HI
        rcases hc with ⟨h1, h2⟩ | h1
        all_goals (
          go_wp2_with fail
          go_roundw
          case rel => exact ⟨j, _, by omega, rfl, rfl, trivial, HE⟩
          case measure => simp [intOf])
end Go.Proofs.YtoepgbpmcjnbmaaGreatDoor.flashAll
