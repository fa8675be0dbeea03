/- Texts of one proof, behind one another: each says above its part what it proves and on which conditions. -/
import Derived.Test.YtcmblihlbmclaaaPtMath
import Derived.StillTailTactics
/-
  A ROW OF POINTS of a law's own.
-/
section
namespace Go.Proofs.Ytcmblihlbmclaaa
open Go Go.RowKit Go.Joins

theorem pt_elem : Elem Try.prog 49 59 (.agg #[.int .u64 0, .int .i64 0]) 2 16 := ⟨Try.underlying49, by kernel_rfl, rfl, by decide⟩
theorem src_pt (w : World) (x : P2) (b : Nat) (hb : b = w.heap.size) (c : Nat) (t : TypeId) : Src Try.prog 2 49 (.slice (some ⟨b, 0, none⟩) 1 c) 1 (pcells x).toList (w.alloc (.cells (pcells x) t)) := by
  subst hb
  refine Src.ofSlice _ Try.underlying49 _ 1 c _ rfl (fun j u hu => ?_) (fun u hu => ?_)
  · have hb := heap_alloc_new w (.cells (pcells x) t)
    rw [WideShapes.add_plain, Nat.zero_add]
    rw [Array.getElem?_toList] at hu
    exact (cell_of_block hb j).trans hu
  · simp [pcells] at hu
    rcases hu with rfl | rfl <;> rfl
theorem own_form2 {w : World} {base n : Nat} {e : TypeId} {v : Value} {xs : List Value} (h : w.ownsRow base e 2 v n xs) : ∃ A c, v = .slice A n c ∧ n ≤ c ∧ c ≤ maxLen ∧ (0 < n → ∃ g, A = some ⟨g, 0, none⟩) := by
  rcases h.2 with ⟨rfl, h0⟩ | ⟨g, cap, cur, rfl, hb, hg, h1, h2, r⟩
  · exact ⟨none, 0, by rw [h0], by omega, Nat.zero_le _, fun h => by omega⟩
  · exact ⟨_, _, rfl, h1, h2, fun _ => ⟨g, rfl⟩⟩
theorem PRow.of_own {w : World} {base n c : Nat} {A : Option Addr} {e : TypeId} {l : List P2} (h : w.ownsRow base e 2 (.slice A n c) n (prow l)) (hn : n = l.length) : PRow w A (fun _ => True) l := by
  intro hne
  have hp : 0 < n := by
    rcases Nat.eq_zero_or_pos n with h0 | h0
    · exfalso
      have hl := prow_len l
      rw [← hn, h0, Nat.zero_mul] at hl
      exact hne (List.eq_nil_of_length_eq_zero hl)
    · exact h0
  obtain ⟨g, cap, e, hb, -⟩ := h.form hp
  injection e with e1 e2 e3
  subst e1
  refine ⟨g, 0, rfl, trivial, fun i v hv => ?_⟩
  have := h.cells (g := g) rfl i v hv
  rwa [WideShapes.add_plain] at this
theorem prow_snoc (l : List P2) (x : P2) : prow (l ++ [x]) = prow l ++ (pcells x).toList := by simp [prow]

end Go.Proofs.Ytcmblihlbmclaaa
end

/-
  THE PROGRAM's ORDER OF POINTS: cmp.Compare, cmp.Or, order, Less (layer 13).
-/
section
namespace Go.Proofs.Ytcmblihlbmclaaa
open Go Go.RowKit Go.Joins

def cmpZ (a b : Int) : Int := if a < b then -1 else if b < a then 1 else 0
set_option maxRecDepth 100000 in
set_option maxHeartbeats 1000000 in
theorem cmpu_any (a b : Int) (w : World) : Calls Try.prog 45 #[.int .u64 a, .int .u64 b] w fun e w' => e = .returned (.int .i64 (cmpZ a b)) ∧ w = w' := by
  have hn : ∀ (z : Int) (w1 : World), Calls Try.prog 66 #[.int .u64 z] w1 fun e w' => e = .returned (.bool false) ∧ w1 = w' := by
    intro z w1
    go_enter Try.func66, Try.ntmps66
    go_wp2_with fail
    go_ret
    exact ⟨by simp, rfl⟩
  have h1 := Lib.hid (show cmpZ a b = (if a < b then -1 else if b < a then 1 else 0) from rfl)
  generalize cmpZ a b = r at h1 ⊢
  rcases Int.lt_trichotomy a b with h | h | h
  · have t1 : decide (a < b) = true := by simpa using h
    have HR := Lib.hid (show r = -1 from by rw [h1.out, if_pos h])
    clear h1 h
    go_enter Try.func45, Try.ntmps45
    go_wp2_with (go_at_call 66; refine (hn _ _).mono ?_; rintro e w' ⟨rfl, rfl⟩)
    go_ret
    exact ⟨by rw [HR.out]; rfl, rfl⟩
  · subst h
    have t1 : decide (a < a) = false := by simp
    have HR := Lib.hid (show r = 0 from by rw [h1.out]; simp)
    clear h1
    go_enter Try.func45, Try.ntmps45
    go_wp2_with (go_at_call 66; refine (hn _ _).mono ?_; rintro e w' ⟨rfl, rfl⟩)
    go_ret
    exact ⟨by rw [HR.out]; rfl, rfl⟩
  · have t1 : decide (a < b) = false := by simp; omega
    have t2 : decide (b < a) = true := by simpa using h
    have HR := Lib.hid (show r = 1 from by rw [h1.out, if_neg (by omega), if_pos h])
    clear h1 h
    go_enter Try.func45, Try.ntmps45
    go_wp2_with (go_at_call 66; refine (hn _ _).mono ?_; rintro e w' ⟨rfl, rfl⟩)
    go_ret
    exact ⟨by rw [HR.out]; rfl, rfl⟩
set_option maxRecDepth 100000 in
set_option maxHeartbeats 1000000 in
theorem cmpi_any (a b : Int) (w : World) : Calls Try.prog 46 #[.int .i64 a, .int .i64 b] w fun e w' => e = .returned (.int .i64 (cmpZ a b)) ∧ w = w' := by
  have hn : ∀ (z : Int) (w1 : World), Calls Try.prog 67 #[.int .i64 z] w1 fun e w' => e = .returned (.bool false) ∧ w1 = w' := by
    intro z w1
    go_enter Try.func67, Try.ntmps67
    go_wp2_with fail
    go_ret
    exact ⟨by simp, rfl⟩
  have h1 := Lib.hid (show cmpZ a b = (if a < b then -1 else if b < a then 1 else 0) from rfl)
  generalize cmpZ a b = r at h1 ⊢
  rcases Int.lt_trichotomy a b with h | h | h
  · have t1 : decide (a < b) = true := by simpa using h
    have HR := Lib.hid (show r = -1 from by rw [h1.out, if_pos h])
    clear h1 h
    go_enter Try.func46, Try.ntmps46
    go_wp2_with (go_at_call 67; refine (hn _ _).mono ?_; rintro e w' ⟨rfl, rfl⟩)
    go_ret
    exact ⟨by rw [HR.out]; rfl, rfl⟩
  · subst h
    have t1 : decide (a < a) = false := by simp
    have HR := Lib.hid (show r = 0 from by rw [h1.out]; simp)
    clear h1
    go_enter Try.func46, Try.ntmps46
    go_wp2_with (go_at_call 67; refine (hn _ _).mono ?_; rintro e w' ⟨rfl, rfl⟩)
    go_ret
    exact ⟨by rw [HR.out]; rfl, rfl⟩
  · have t1 : decide (a < b) = false := by simp; omega
    have t2 : decide (b < a) = true := by simpa using h
    have HR := Lib.hid (show r = 1 from by rw [h1.out, if_neg (by omega), if_pos h])
    clear h1 h
    go_enter Try.func46, Try.ntmps46
    go_wp2_with (go_at_call 67; refine (hn _ _).mono ?_; rintro e w' ⟨rfl, rfl⟩)
    go_ret
    exact ⟨by rw [HR.out]; rfl, rfl⟩

def orZ (x y : Int) : Int := if x = 0 then y else x
set_option maxRecDepth 100000 in
set_option maxHeartbeats 1000000 in
/-- cmp.Or of two. -/
theorem or2_any (x y : Int) (b : Nat) (w : World) (h0 : w.cell? ⟨b, 0, none⟩ = some (.int .i64 x)) (h1 : w.cell? ⟨b, 1, none⟩ = some (.int .i64 y)) :
    Calls Try.prog 44 #[.slice (some ⟨b, 0, none⟩) 2 2] w fun e w' => e = .returned (.int .i64 (orZ x y)) ∧ w = w' := by
  have H0 := Lib.hid h0
  have H1 := Lib.hid h1
  have HZ := Lib.hid (show orZ x y = (if x = 0 then y else x) from rfl)
  generalize orZ x y = r at HZ ⊢
  clear h0 h1
  go_enter Try.func44, Try.ntmps44
  go_wp2_with fail
  go_loopw [8] (fun i wr => ∃ k : Nat, k ≤ 2 ∧ i = .int .i64 (k : Int) ∧ Hid (0 < k → x = 0) ∧ Hid (1 < k → y = 0) ∧ w = wr) (fun i _ => 2 - (intOf i).toNat)
  case atStart => exact ⟨0, by omega, rfl, Lib.hid (fun h => absurd h (by omega)), Lib.hid (fun h => absurd h (by omega)), rfl⟩
  case round =>
    obtain ⟨k, hk, rfl, HX, HY, rfl⟩ := hrel
    rcases Nat.lt_or_ge k 1 with hk1 | hk1
    · obtain rfl : k = 0 := by omega
      have c0 := H0.out
      by_cases hx : x = 0
      · have t1 : (x == 0) = true := by simpa using hx
        have HX2 := Lib.hid (show 0 < 0 + 1 → x = 0 from fun _ => hx)
        have HY2 := Lib.hid (show 1 < 0 + 1 → y = 0 from fun h => absurd h (by omega))
        clear HX HY H0 H1 hx HZ
        go_wp2_with fail
        go_roundw
        case rel => exact ⟨0 + 1, by omega, by go_num, HX2, HY2, by trivial⟩
        case measure => simp [intOf]
      · have t1 : (x == 0) = false := by simpa using hx
        have HR := Lib.hid (show r = x from by rw [HZ.out, if_neg hx])
        clear HX HY H0 H1 hx HZ
        go_wp2_with fail
        go_ret
        exact ⟨by rw [HR.out]; rfl, rfl⟩
    · rcases Nat.lt_or_ge k 2 with hk2 | hk2
      · obtain rfl : k = 1 := by omega
        have hx := HX.out (by omega)
        have c1 := H1.out
        by_cases hy : y = 0
        · have t1 : (y == 0) = true := by simpa using hy
          have HX2 := Lib.hid (show 0 < 1 + 1 → x = 0 from fun _ => hx)
          have HY2 := Lib.hid (show 1 < 1 + 1 → y = 0 from fun _ => hy)
          clear HX HY H0 H1 hx hy HZ
          go_wp2_with fail
          go_roundw
          case rel => exact ⟨1 + 1, by omega, by go_num, HX2, HY2, by trivial⟩
          case measure => simp [intOf]
        · have t1 : (y == 0) = false := by simpa using hy
          have HR := Lib.hid (show r = y from by rw [HZ.out, if_pos hx])
          clear HX HY H0 H1 hx hy HZ
          go_wp2_with fail
          go_ret
          exact ⟨by rw [HR.out]; rfl, rfl⟩
      · obtain rfl : k = 2 := by omega
        have HR := Lib.hid (show r = 0 from by rw [HZ.out, if_pos (HX.out (by omega)), HY.out (by omega)])
        clear HX HY H0 H1 HZ
        go_wp2_with fail
        go_ret
        exact ⟨by rw [HR.out]; rfl, rfl⟩

/-- How two points lie to one another, as the program reckons it. -/
def ordZ (a b : P2) : Int := orZ (cmpZ a.place b.place) (cmpZ a.node b.node)
theorem ord_less (a b : P2) : decide (ordZ a b < 0) = lessB a b := by
  unfold ordZ orZ cmpZ lessB
  rcases Int.lt_trichotomy a.place b.place with h | h | h
  · simp [h]
  · simp only [h, Int.lt_irrefl, if_false, if_true, decide_false, beq_self_eq_true, Bool.false_or, Bool.true_and]
    rcases Int.lt_trichotomy a.node b.node with g | g | g
    · simp [g]
    · simp [g]
    · simp [g, Int.lt_asymm g]
  · have h1 : ¬ a.place < b.place := by omega
    have h2 : ¬ a.place = b.place := by omega
    simp [h, h1, h2]
/-- A world that only grew, as an equation. -/
def Gw (w w' : World) : Prop := ∃ n os, w' = Go.Sort.grow (w.drewN n) os

set_option maxRecDepth 100000 in
set_option maxHeartbeats 1000000 in
theorem order_any (a b : P2) (w : World) : Calls Try.prog 39 #[pagg a, pagg b] w fun e w' => e = .returned (.int .i64 (ordZ a b)) ∧ Gw w w' := by
  obtain ⟨ap, an⟩ := a
  obtain ⟨bp, bn⟩ := b
  unfold pagg ordZ
  simp only
  obtain ⟨x, hx⟩ : ∃ x, cmpZ ap bp = x := ⟨_, rfl⟩
  obtain ⟨y, hy⟩ : ∃ y, cmpZ an bn = y := ⟨_, rfl⟩
  have hu : ∀ w1, Calls Try.prog 45 #[.int .u64 ap, .int .u64 bp] w1 fun e w' => e = .returned (.int .i64 x) ∧ w1 = w' := fun w1 => by rw [← hx]; exact cmpu_any ap bp w1
  have hi : ∀ w1, Calls Try.prog 46 #[.int .i64 an, .int .i64 bn] w1 fun e w' => e = .returned (.int .i64 y) ∧ w1 = w' := fun w1 => by rw [← hy]; exact cmpi_any an bn w1
  have ho : ∀ (w1 : World) (b : Nat), w1.cell? ⟨b, 0, none⟩ = some (.int .i64 x) → w1.cell? ⟨b, 1, none⟩ = some (.int .i64 y) → Calls Try.prog 44 #[.slice (some ⟨b, 0, none⟩) 2 2] w1 fun e w' => e = .returned (.int .i64 (orZ x y)) ∧ w1 = w' := fun w1 b h0 h1 => or2_any x y b w1 h0 h1
  rw [hx, hy]
  generalize orZ x y = r at ho ⊢
  clear hx hy
  go_enter Try.func39, Try.ntmps39
  go_wp2_with fail
  have hb0 := heap_alloc_new w (.cells #[.int .u64 ap, .int .i64 an] 59)
  have hb1 := heap_alloc_new (w.alloc (.cells #[.int .u64 ap, .int .i64 an] 59)) (.cells #[.int .u64 bp, .int .i64 bn] 59)
  have hs1 : (w.alloc (.cells #[.int .u64 ap, .int .i64 an] 59)).heap.size = w.heap.size + 1 := by simp
  rw [hs1] at hb1
  have hb0' : ((w.alloc (.cells #[.int .u64 ap, .int .i64 an] 59)).alloc (.cells #[.int .u64 bp, .int .i64 bn] 59)).heap[w.heap.size]? = some (.cells #[.int .u64 ap, .int .i64 an] 59) := (heap_alloc_old _ _ (by simp)).trans hb0
  have HG := Lib.hid (show Gw w ((w.alloc (.cells #[.int .u64 ap, .int .i64 an] 59)).alloc (.cells #[.int .u64 bp, .int .i64 bn] 59)) from ⟨0, _, by rw [Go.Sort.alloc_eq_grow, Go.Sort.alloc_eq_grow, Go.Sort.grow_grow]; rfl⟩)
  have a0 := cell_of_block hb0' 0
  have a1 := cell_of_block hb0' 1
  have b0 := cell_of_block hb1 0
  have b1 := cell_of_block hb1 1
  generalize ((w.alloc (.cells #[.int .u64 ap, .int .i64 an] 59)).alloc (.cells #[.int .u64 bp, .int .i64 bn] 59)) = w2 at *
  simp only [List.getElem?_toArray, List.getElem?_cons_zero, List.getElem?_cons_succ] at a0 a1 b0 b1
  clear hb0 hb1 hb0' hs1
  generalize w.heap.size = q at *
  go_still_tail 10, (by kernel_rfl)
  still_call ((hu w2.drew).mono fun _ _ h => ⟨h.1, h.2.symm⟩)
  repeat still_step
  still_call ((hi w2.drew).mono fun _ _ h => ⟨h.1, h.2.symm⟩)
  refine wpStill_nil ?_
  change wpList _ _ _ _ _ w2.drew
  have HG2 := Lib.hid (show Gw w w2.drew from by
    obtain ⟨n, os, e⟩ := HG.out
    exact ⟨n + 1, os, by rw [e]; rfl⟩)
  clear a0 a1 b0 b1 HG
  generalize w2.drew = wd at *
  go_wp2_with (go_at_call 44; refine (ho _ _ (by simp) (by simp)).mono ?_; rintro e w' ⟨rfl, rfl⟩)
  go_ret
  refine ⟨rfl, ?_⟩
  obtain ⟨n, os, e⟩ := HG2.out
  exact ⟨n, _, by rw [e, Go.Sort.alloc_eq_grow, Go.Sort.grow_grow]⟩

end Go.Proofs.Ytcmblihlbmclaaa
end

/-
  THE PROGRAM's POINTS: Less, May (layer 13).
-/
section
namespace Go.Proofs.Ytcmblihlbmclaaa
open Go Go.RowKit Go.Joins

theorem Gw.kp {w w' : World} (h : Gw w w') : Kp w w' := by
  obtain ⟨n, os, rfl⟩ := h
  exact ⟨rfl, rfl, rfl, by simp, fun b _ hb => (Go.Sort.heap_grow_old (w.drewN n) os hb).trans rfl⟩
def lastN (l : List Int) (k : Nat) : Int := if k = 0 then 0 else l.getD (k - 1) 0
theorem nodeB_no1 {l : List Int} {k : Nat} {x : Int} (hg : l.getD k 0 = x) (h : x ≤ lastN l k) : nodeB l k = false := by
  unfold lastN at h
  unfold nodeB
  rw [hg]
  split at h
  · have : decide (1 ≤ x) = false := by simp; omega
    rw [this]; rfl
  · rename_i h0
    have h1 : decide (k = 0) = false := by simpa using h0
    have h2 : decide (l.getD (k - 1) 0 < x) = false := decide_eq_false (by omega)
    rw [h1, h2]; simp
theorem nodeB_no5 {l : List Int} {k : Nat} {x : Int} (hg : l.getD k 0 = x) (h : 5 < x) : nodeB l k = false := by
  unfold nodeB
  rw [hg]
  have : decide (x ≤ 5) = false := by simp; omega
  rw [this]; simp
theorem nodeB_yes {l : List Int} {k : Nat} {x : Int} (hg : l.getD k 0 = x) (h : lastN l k < x) (h5 : x ≤ 5) (hb : ∀ j, j < k → nodeB l j = true) : nodeB l k = true := by
  unfold lastN at h
  split at h
  · rename_i h0
    unfold nodeB
    rw [hg]
    simp [h0]
    omega
  · rename_i h0
    have h1 := hb (k - 1) (by omega)
    unfold nodeB at h1 ⊢
    rw [hg]
    simp only [Bool.and_eq_true, Bool.or_eq_true, decide_eq_true_eq] at h1 ⊢
    exact ⟨by omega, h5, .inr h⟩
theorem lastN_succ {l : List Int} {k : Nat} {x : Int} (hg : l.getD k 0 = x) : lastN l (k + 1) = x := by
  unfold lastN
  rw [if_neg (by omega)]
  exact hg

set_option maxRecDepth 100000 in
set_option maxHeartbeats 1000000 in
theorem may_any (w : World) (A : Option Addr) (c : Nat) (l : List Int) (hr : Row w A (fun _ => True) (l.map (Value.int .i64))) (hl : l.length ≤ c) (hc : c ≤ maxLen) :
    Calls Try.prog 23 #[.slice A l.length c] w fun e w' => e = .returned (.bool (nodesB l)) ∧ Kp w w' := by
  have HR := Lib.hid hr
  unfold maxLen at hc
  clear hr
  go_enter Try.func23, Try.ntmps23
  go_wp2_with fail
  go_loopw [3, 8] (fun v i wr => ∃ (k : Nat) (z : Int), k ≤ l.length ∧ i = .int .i64 (k : Int) ∧ v = .int .i64 z ∧ Hid (z = lastN l k) ∧ Hid (∀ j, j < k → nodeB l j = true) ∧ Hid (Kp w wr)) (fun _ i _ => l.length - (intOf i).toNat)
  case atStart => exact ⟨0, 0, Nat.zero_le _, rfl, rfl, Lib.hid rfl, Lib.hid (fun j hj => absurd hj (Nat.not_lt_zero _)), Lib.hid (Keeps.refl _ _)⟩
  case round =>
    obtain ⟨k, z, hk, rfl, rfl, HZ, HJ, HW⟩ := hrel
    by_cases hlt : k < l.length
    · have hlt' : (k : Int) < (l.length : Int) := by omega
      obtain ⟨b, o, rfl, -, c0⟩ := HR.out.at_ (k := k) (by simpa using hlt)
      rw [List.getElem_map] at c0
      replace c0 := HW.out.cell c0 trivial
      have hg : l.getD k 0 = l[k] := by rw [List.getD_eq_getElem?_getD, List.getElem?_eq_getElem hlt]; rfl
      have HG := Lib.hid hg
      generalize l[k] = x at c0 HG
      clear hg
      have hcs : decide (x ≤ z) = true ∨ (decide (x ≤ z) = false ∧ decide (5 < x) = true) ∨ (decide (x ≤ z) = false ∧ decide (5 < x) = false) := by
        cases decide (x ≤ z) <;> cases decide (5 < x) <;> simp
      rcases hcs with t | ⟨t, t1⟩ | ⟨t, t1⟩
      · have HN := Lib.hid (nodesB_no hlt (nodeB_no1 HG.out (by rw [← HZ.out]; exact of_decide_eq_true t)))
        go_wp2_with fail
        go_ret
        exact ⟨by rw [HN.out]; rfl, HW.out⟩
      · have HN := Lib.hid (nodesB_no hlt (nodeB_no5 HG.out (of_decide_eq_true t1)))
        go_wp2_with fail
        go_ret
        exact ⟨by rw [HN.out]; rfl, HW.out⟩
      · have HJ2 := Lib.hid (show ∀ j, j < k + 1 → nodeB l j = true from fun j hj => by
          rcases Nat.lt_or_ge j k with h | h
          · exact HJ.out j h
          · obtain rfl : j = k := by omega
            exact nodeB_yes HG.out (by rw [← HZ.out]; have := of_decide_eq_false t; omega) (by have := of_decide_eq_false t1; omega) HJ.out)
        have HZ2 := Lib.hid (show x = lastN l (k + 1) from (lastN_succ HG.out).symm)
        clear HJ HZ HG
        go_wp2_with fail
        go_roundw
        case rel => exact ⟨k + 1, x, hlt, by go_num, rfl, HZ2, HJ2, HW⟩
        case measure => simp [intOf]; omega
    · obtain rfl : k = l.length := by omega
      have hlt' : ¬ ((l.length : Int) < (l.length : Int)) := by omega
      have HN := Lib.hid (show nodesB l = decide (0 < l.length) from by
        cases h0 : decide (0 < l.length) with
        | true => exact nodesB_iff.2 ⟨of_decide_eq_true h0, HJ.out⟩
        | false => unfold nodesB; rw [h0]; rfl)
      clear hlt HJ HZ
      go_wp2_with fail
      go_ret
      exact ⟨by rw [HN.out]; rfl, HW.out⟩

end Go.Proofs.Ytcmblihlbmclaaa
end
