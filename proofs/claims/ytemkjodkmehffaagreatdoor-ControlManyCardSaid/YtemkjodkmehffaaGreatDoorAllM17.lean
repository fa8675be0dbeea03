/-
  RgC, RgRead, PtRow, PtOrd, ItemLive: texts of mine, joined.
-/
import Derived.Test.YtemkjodkmehffaaGreatDoorAllM06
import Derived.Test.YtemkjodkmehffaaGreatDoorAllM09
import Derived.StillTailTactics
import Derived.Test.YtemkjodkmehffaaGreatDoorAllM16
namespace Go.Proofs.YtemkjodkmehffaaGreatDoor
open Go Go.RowKit Go.Joins
structure RgC (w : World) (r : Nat) (F : Nat → Prop) (e : Int) (l : List Int) (A : Option Addr) (c : Nat) (B : Option Addr) (cb : Nat) : Prop where
 e0 : w.cell? ⟨r, 0, none⟩ = some (.int .i64 e)
 e1 : w.cell? ⟨r, 1, none⟩ = some (.slice A l.length c)
 e2 : w.cell? ⟨r, 2, none⟩ = some (.slice B (8 * l.length) cb)
 row : Row w A F (l.map (Value.int .i64))
 prow : PRow w B F (pts l)
 c1 : l.length ≤ c
 c2 : c ≤ maxLen
 c3 : 8 * l.length ≤ cb
 c4 : cb ≤ maxLen
theorem RgC.keep {w w' : World} {r : Nat} {F : Nat → Prop} {e : Int} {l : List Int} {A : Option Addr} {c : Nat} {B : Option Addr} {cb : Nat} (h : RgC w r F e l A c B cb) (hF : F r) (hk : Keeps F w w') : RgC w' r F e l A c B cb :=
 ⟨hk.cell h.e0 hF, hk.cell h.e1 hF, hk.cell h.e2 hF, h.row.keep hk, h.prow.keep hk, h.c1, h.c2, h.c3, h.c4⟩
set_option maxRecDepth 100000 in
theorem repoch_any (w : World) (r : Nat) (e : Int) (h0 : w.cell? ⟨r, 0, none⟩ = some (.int .i64 e)) : Calls Tryz.prog 43 #[.pointer (some ⟨r, 0, none⟩)] w fun x w' => x = .returned (.int .i64 e) ∧ w = w' := by
 go_enter Tryz.func43, Tryz.ntmps43
 go_wp2_with fail
 go_ret
 exact ⟨rfl, rfl⟩
set_option maxRecDepth 100000 in
theorem rhas_any (w : World) (r : Nat) (F : Nat → Prop) (e : Int) (l : List Int) (A : Option Addr) (c : Nat) (B : Option Addr) (cb : Nat) (n : Int) (h : RgC w r F e l A c B cb) (hl : l.length ≤ 5) :
  Calls Tryz.prog 66 #[.pointer (some ⟨r, 0, none⟩), .int .i64 n] w fun x w' => x = .returned (.bool (hasN l n)) ∧ w = w' := by
 have HC := Lib.hid (contains_any w A c F l n h.row (by omega))
 have e1 := h.e1
 clear h
 go_enter Tryz.func66, Tryz.ntmps66
 go_wp2_with fail
 refine (show Calls _ _ _ _ _ from HC.out).mono ?_
 rintro x w2 ⟨rfl, rfl⟩
 clear HC
 go_wp2_with fail
 go_ret
 exact ⟨rfl, rfl⟩
theorem pt_elem : Elem Tryz.prog 95 134 (.agg #[.int .u64 0, .int .i64 0]) 2 16 := ⟨Tryz.underlying95, by kernel_rfl, rfl, by decide⟩
theorem src_pt (w : World) (x : P2) (b : Nat) (hb : b = w.heap.size) (c : Nat) (t : TypeId) : Src Tryz.prog 2 95 (.slice (some ⟨b, 0, none⟩) 1 c) 1 (pcells x).toList (w.alloc (.cells (pcells x) t)) := by
 subst hb
 refine Src.ofSlice _ Tryz.underlying95 _ 1 c _ rfl (fun j u hu => ?_) (fun u hu => ?_)
 ·have hb := heap_alloc_new w (.cells (pcells x) t)
  rw [WideShapes.add_plain, Nat.zero_add]
  rw [Array.getElem?_toList] at hu
  exact (cell_of_block hb j).trans hu
 ·simp [pcells] at hu
  rcases hu with rfl | rfl <;> rfl
theorem own_form2 {w : World} {base n : Nat} {e : TypeId} {v : Value} {xs : List Value} (h : w.ownsRow base e 2 v n xs) : ∃ A c, v = .slice A n c ∧ n ≤ c ∧ c ≤ maxLen ∧ (0 < n → ∃ g, A = some ⟨g, 0, none⟩) := by
 rcases h.2 with ⟨rfl, h0⟩ | ⟨g, cap, cur, rfl, hb, hg, h1, h2, r⟩
 ·exact ⟨none, 0, by rw [h0], by omega, Nat.zero_le _, fun h => by omega⟩
 ·exact ⟨_, _, rfl, h1, h2, fun _ => ⟨g, rfl⟩⟩
theorem prow_snoc (l : List P2) (x : P2) : prow (l ++ [x]) = prow l ++ (pcells x).toList := by simp [prow]
def cmpZ (a b : Int) : Int := if a < b then -1 else if b < a then 1 else 0
set_option maxRecDepth 100000 in
set_option maxHeartbeats 1000000 in
theorem cmpu_any (a b : Int) (w : World) : Calls Tryz.prog 110 #[.int .u64 a, .int .u64 b] w fun e w' => e = .returned (.int .i64 (cmpZ a b)) ∧ w = w' := by
 have hn : ∀ (z : Int) (w1 : World), Calls Tryz.prog 133 #[.int .u64 z] w1 fun e w' => e = .returned (.bool false) ∧ w1 = w' := by
  intro z w1
  go_enter Tryz.func133, Tryz.ntmps133
  go_wp2_with fail
  go_ret
  exact ⟨by simp, rfl⟩
 have h1 := Lib.hid (show cmpZ a b = (if a < b then -1 else if b < a then 1 else 0) from rfl)
 generalize cmpZ a b = r at h1 ⊢
 rcases Int.lt_trichotomy a b with h | h | h
 ·have t1 : decide (a < b) = true := by simpa using h
  have HR := Lib.hid (show r = -1 from by rw [h1.out, if_pos h])
  clear h1 h
  go_enter Tryz.func110, Tryz.ntmps110
  go_wp2_with (go_at_call 133; refine (hn _ _).mono ?_; rintro e w' ⟨rfl, rfl⟩)
  go_ret
  exact ⟨by rw [HR.out]; rfl, rfl⟩
 ·subst h
  have t1 : decide (a < a) = false := by simp
  have HR := Lib.hid (show r = 0 from by rw [h1.out]; simp)
  clear h1
  go_enter Tryz.func110, Tryz.ntmps110
  go_wp2_with (go_at_call 133; refine (hn _ _).mono ?_; rintro e w' ⟨rfl, rfl⟩)
  go_ret
  exact ⟨by rw [HR.out]; rfl, rfl⟩
 ·have t1 : decide (a < b) = false := by simp; omega
  have t2 : decide (b < a) = true := by simpa using h
  have HR := Lib.hid (show r = 1 from by rw [h1.out, if_neg (by omega), if_pos h])
  clear h1 h
  go_enter Tryz.func110, Tryz.ntmps110
  go_wp2_with (go_at_call 133; refine (hn _ _).mono ?_; rintro e w' ⟨rfl, rfl⟩)
  go_ret
  exact ⟨by rw [HR.out]; rfl, rfl⟩
set_option maxRecDepth 100000 in
set_option maxHeartbeats 1000000 in
theorem cmpi_any (a b : Int) (w : World) : Calls Tryz.prog 111 #[.int .i64 a, .int .i64 b] w fun e w' => e = .returned (.int .i64 (cmpZ a b)) ∧ w = w' := by
 have hn : ∀ (z : Int) (w1 : World), Calls Tryz.prog 123 #[.int .i64 z] w1 fun e w' => e = .returned (.bool false) ∧ w1 = w' := by
  intro z w1
  go_enter Tryz.func123, Tryz.ntmps123
  go_wp2_with fail
  go_ret
  exact ⟨by simp, rfl⟩
 have h1 := Lib.hid (show cmpZ a b = (if a < b then -1 else if b < a then 1 else 0) from rfl)
 generalize cmpZ a b = r at h1 ⊢
 rcases Int.lt_trichotomy a b with h | h | h
 ·have t1 : decide (a < b) = true := by simpa using h
  have HR := Lib.hid (show r = -1 from by rw [h1.out, if_pos h])
  clear h1 h
  go_enter Tryz.func111, Tryz.ntmps111
  go_wp2_with (go_at_call 123; refine (hn _ _).mono ?_; rintro e w' ⟨rfl, rfl⟩)
  go_ret
  exact ⟨by rw [HR.out]; rfl, rfl⟩
 ·subst h
  have t1 : decide (a < a) = false := by simp
  have HR := Lib.hid (show r = 0 from by rw [h1.out]; simp)
  clear h1
  go_enter Tryz.func111, Tryz.ntmps111
  go_wp2_with (go_at_call 123; refine (hn _ _).mono ?_; rintro e w' ⟨rfl, rfl⟩)
  go_ret
  exact ⟨by rw [HR.out]; rfl, rfl⟩
 ·have t1 : decide (a < b) = false := by simp; omega
  have t2 : decide (b < a) = true := by simpa using h
  have HR := Lib.hid (show r = 1 from by rw [h1.out, if_neg (by omega), if_pos h])
  clear h1 h
  go_enter Tryz.func111, Tryz.ntmps111
  go_wp2_with (go_at_call 123; refine (hn _ _).mono ?_; rintro e w' ⟨rfl, rfl⟩)
  go_ret
  exact ⟨by rw [HR.out]; rfl, rfl⟩
def orZ (x y : Int) : Int := if x = 0 then y else x
set_option maxRecDepth 100000 in
set_option maxHeartbeats 1000000 in
theorem or2_any (x y : Int) (b : Nat) (w : World) (h0 : w.cell? ⟨b, 0, none⟩ = some (.int .i64 x)) (h1 : w.cell? ⟨b, 1, none⟩ = some (.int .i64 y)) :
  Calls Tryz.prog 109 #[.slice (some ⟨b, 0, none⟩) 2 2] w fun e w' => e = .returned (.int .i64 (orZ x y)) ∧ w = w' := by
 have H0 := Lib.hid h0
 have H1 := Lib.hid h1
 have HZ := Lib.hid (show orZ x y = (if x = 0 then y else x) from rfl)
 generalize orZ x y = r at HZ ⊢
 clear h0 h1
 go_enter Tryz.func109, Tryz.ntmps109
 go_wp2_with fail
 go_loopw [8] (fun i wr => ∃ k : Nat, k ≤ 2 ∧ i = .int .i64 (k : Int) ∧ Hid (0 < k → x = 0) ∧ Hid (1 < k → y = 0) ∧ w = wr) (fun i _ => 2 - (intOf i).toNat)
 case atStart => exact ⟨0, by omega, rfl, Lib.hid (fun h => absurd h (by omega)), Lib.hid (fun h => absurd h (by omega)), rfl⟩
 case round =>
  obtain ⟨k, hk, rfl, HX, HY, rfl⟩ := hrel
  rcases Nat.lt_or_ge k 1 with hk1 | hk1
  ·obtain rfl : k = 0 := by omega
   have c0 := H0.out
   by_cases hx : x = 0
   ·have t1 : (x == 0) = true := by simpa using hx
    have HX2 := Lib.hid (show 0 < 0 + 1 → x = 0 from fun _ => hx)
    have HY2 := Lib.hid (show 1 < 0 + 1 → y = 0 from fun h => absurd h (by omega))
    clear HX HY H0 H1 hx HZ
    go_wp2_with fail
    go_roundw
    case rel => exact ⟨0 + 1, by omega, by go_num, HX2, HY2, by trivial⟩
    case measure => simp [intOf]
   ·have t1 : (x == 0) = false := by simpa using hx
    have HR := Lib.hid (show r = x from by rw [HZ.out, if_neg hx])
    clear HX HY H0 H1 hx HZ
    go_wp2_with fail
    go_ret
    exact ⟨by rw [HR.out]; rfl, rfl⟩
  ·rcases Nat.lt_or_ge k 2 with hk2 | hk2
   ·obtain rfl : k = 1 := by omega
    have hx := HX.out (by omega)
    have c1 := H1.out
    by_cases hy : y = 0
    ·have t1 : (y == 0) = true := by simpa using hy
     have HX2 := Lib.hid (show 0 < 1 + 1 → x = 0 from fun _ => hx)
     have HY2 := Lib.hid (show 1 < 1 + 1 → y = 0 from fun _ => hy)
     clear HX HY H0 H1 hx hy HZ
     go_wp2_with fail
     go_roundw
     case rel => exact ⟨1 + 1, by omega, by go_num, HX2, HY2, by trivial⟩
     case measure => simp [intOf]
    ·have t1 : (y == 0) = false := by simpa using hy
     have HR := Lib.hid (show r = y from by rw [HZ.out, if_pos hx])
     clear HX HY H0 H1 hx hy HZ
     go_wp2_with fail
     go_ret
     exact ⟨by rw [HR.out]; rfl, rfl⟩
   ·obtain rfl : k = 2 := by omega
    have HR := Lib.hid (show r = 0 from by rw [HZ.out, if_pos (HX.out (by omega)), HY.out (by omega)])
    clear HX HY H0 H1 HZ
    go_wp2_with fail
    go_ret
    exact ⟨by rw [HR.out]; rfl, rfl⟩
def ordZ (a b : P2) : Int := orZ (cmpZ a.place b.place) (cmpZ a.node b.node)
theorem ord_less (a b : P2) : decide (ordZ a b < 0) = lessB a b := by
 unfold ordZ orZ cmpZ lessB
 rcases Int.lt_trichotomy a.place b.place with h | h | h
 ·simp [h]
 ·simp only [h, Int.lt_irrefl, if_false, if_true, decide_false, beq_self_eq_true, Bool.false_or, Bool.true_and]
  rcases Int.lt_trichotomy a.node b.node with g | g | g
  ·simp [g]
  ·simp [g]
  ·simp [g, Int.lt_asymm g]
 ·have h1 : ¬ a.place < b.place := by omega
  have h2 : ¬ a.place = b.place := by omega
  simp [h, h1, h2]
def Gw (w w' : World) : Prop := ∃ n os, w' = Go.Sort.grow (w.drewN n) os
set_option maxRecDepth 100000 in
set_option maxHeartbeats 1000000 in
theorem order_any (a b : P2) (w : World) : Calls Tryz.prog 82 #[pagg a, pagg b] w fun e w' => e = .returned (.int .i64 (ordZ a b)) ∧ Gw w w' := by
 obtain ⟨ap, an⟩ := a
 obtain ⟨bp, bn⟩ := b
 unfold pagg ordZ
 simp only
 obtain ⟨x, hx⟩ : ∃ x, cmpZ ap bp = x := ⟨_, rfl⟩
 obtain ⟨y, hy⟩ : ∃ y, cmpZ an bn = y := ⟨_, rfl⟩
 have hu : ∀ w1, Calls Tryz.prog 110 #[.int .u64 ap, .int .u64 bp] w1 fun e w' => e = .returned (.int .i64 x) ∧ w1 = w' := fun w1 => by rw [← hx]; exact cmpu_any ap bp w1
 have hi : ∀ w1, Calls Tryz.prog 111 #[.int .i64 an, .int .i64 bn] w1 fun e w' => e = .returned (.int .i64 y) ∧ w1 = w' := fun w1 => by rw [← hy]; exact cmpi_any an bn w1
 have ho : ∀ (w1 : World) (b : Nat), w1.cell? ⟨b, 0, none⟩ = some (.int .i64 x) → w1.cell? ⟨b, 1, none⟩ = some (.int .i64 y) → Calls Tryz.prog 109 #[.slice (some ⟨b, 0, none⟩) 2 2] w1 fun e w' => e = .returned (.int .i64 (orZ x y)) ∧ w1 = w' := fun w1 b h0 h1 => or2_any x y b w1 h0 h1
 rw [hx, hy]
 generalize orZ x y = r at ho ⊢
 clear hx hy
 go_enter Tryz.func82, Tryz.ntmps82
 go_wp2_with fail
 have hb0 := heap_alloc_new w (.cells #[.int .u64 ap, .int .i64 an] 134)
 have hb1 := heap_alloc_new (w.alloc (.cells #[.int .u64 ap, .int .i64 an] 134)) (.cells #[.int .u64 bp, .int .i64 bn] 134)
 have hs1 : (w.alloc (.cells #[.int .u64 ap, .int .i64 an] 134)).heap.size = w.heap.size + 1 := by simp
 rw [hs1] at hb1
 have hb0' : ((w.alloc (.cells #[.int .u64 ap, .int .i64 an] 134)).alloc (.cells #[.int .u64 bp, .int .i64 bn] 134)).heap[w.heap.size]? = some (.cells #[.int .u64 ap, .int .i64 an] 134) := (heap_alloc_old _ _ (by simp)).trans hb0
 have HG := Lib.hid (show Gw w ((w.alloc (.cells #[.int .u64 ap, .int .i64 an] 134)).alloc (.cells #[.int .u64 bp, .int .i64 bn] 134)) from ⟨0, _, by rw [Go.Sort.alloc_eq_grow, Go.Sort.alloc_eq_grow, Go.Sort.grow_grow]; rfl⟩)
 have a0 := cell_of_block hb0' 0
 have a1 := cell_of_block hb0' 1
 have b0 := cell_of_block hb1 0
 have b1 := cell_of_block hb1 1
 generalize ((w.alloc (.cells #[.int .u64 ap, .int .i64 an] 134)).alloc (.cells #[.int .u64 bp, .int .i64 bn] 134)) = w2 at *
 simp only [List.getElem?_toArray, List.getElem?_cons_zero, List.getElem?_cons_succ] at a0 a1 b0 b1
 clear hb0 hb1 hb0' hs1
 generalize w.heap.size = q at *
 go_still_tail 10, (by kernel_rfl)
 still_call ((hu w2.drew).mono fun _ _ h => ⟨h.1, h.2.symm⟩)
 repeat still_step
 still_call ((hi w2.drew).mono fun _ _ h => ⟨h.1, h.2.symm⟩)
 refine wpStill_nil ?_
 change wpList _ _ _ _ _ w2.drew
 have HG2 := Lib.hid (show Gw w w2.drew from by
  obtain ⟨n, os, e⟩ := HG.out
  exact ⟨n + 1, os, by rw [e]; rfl⟩)
 clear a0 a1 b0 b1 HG
 generalize w2.drew = wd at *
 go_wp2_with (go_at_call 109; refine (ho _ _ (by simp) (by simp)).mono ?_; rintro e w' ⟨rfl, rfl⟩)
 go_ret
 refine ⟨rfl, ?_⟩
 obtain ⟨n, os, e⟩ := HG2.out
 exact ⟨n, _, by rw [e, Go.Sort.alloc_eq_grow, Go.Sort.grow_grow]⟩
set_option maxHeartbeats 1000000 in
theorem imay (w : World) (x : It) (hx : x.fits) :
  Calls Tryz.prog 62 #[.agg #[.string x.key, .string x.val, .int .i64 x.till, .bool x.gone]] w fun e w' => e = .returned (.bool x.may) ∧ Keeps (fun _ => True) w w' := by
 obtain ⟨hk, hv, ht1, ht2⟩ := hx
 have cases_ : (decide ((x.key.size : Int) < 1) = true ∧ x.may = false) ∨
   (decide ((x.key.size : Int) < 1) = false ∧ decide ((40 : Int) < (x.key.size : Int)) = true ∧ x.may = false) ∨
   (decide ((x.key.size : Int) < 1) = false ∧ decide ((40 : Int) < (x.key.size : Int)) = false ∧ x.gone = true ∧ (x.val.toList == []) = false ∧ x.may = false) ∨
   (decide ((x.key.size : Int) < 1) = false ∧ decide ((40 : Int) < (x.key.size : Int)) = false ∧ x.gone = true ∧ (x.val.toList == []) = true ∧ (x.till == 0) = false ∧ x.may = false) ∨
   (decide ((x.key.size : Int) < 1) = false ∧ decide ((40 : Int) < (x.key.size : Int)) = false ∧ x.gone = true ∧ (x.val.toList == []) = true ∧ (x.till == 0) = true ∧ x.may = true) ∨
   (decide ((x.key.size : Int) < 1) = false ∧ decide ((40 : Int) < (x.key.size : Int)) = false ∧ x.gone = false ∧ decide ((x.val.size : Int) ≤ 200) = false ∧ x.may = false) ∨
   (decide ((x.key.size : Int) < 1) = false ∧ decide ((40 : Int) < (x.key.size : Int)) = false ∧ x.gone = false ∧ decide ((x.val.size : Int) ≤ 200) = true ∧ decide ((0 : Int) ≤ x.till) = false ∧ x.may = false) ∨
   (decide ((x.key.size : Int) < 1) = false ∧ decide ((40 : Int) < (x.key.size : Int)) = false ∧ x.gone = false ∧ decide ((x.val.size : Int) ≤ 200) = true ∧ decide ((0 : Int) ≤ x.till) = true ∧ decide (x.till ≤ 1099511627776) = false ∧ x.may = false) ∨
   (decide ((x.key.size : Int) < 1) = false ∧ decide ((40 : Int) < (x.key.size : Int)) = false ∧ x.gone = false ∧ decide ((x.val.size : Int) ≤ 200) = true ∧ decide ((0 : Int) ≤ x.till) = true ∧ decide (x.till ≤ 1099511627776) = true ∧ x.may = true) := by
  have e1 : decide ((x.val.size : Int) ≤ 200) = decide (x.val.size ≤ 200) := decide_eq_decide.2 (by omega)
  have e2 : (x.val.toList == []) = decide (x.val.size = 0) := by
   have h := str_same x.val ⟨#[]⟩
   rw [show ByteArray.toList ⟨#[]⟩ = [] from by rw [Lib.toList_data]] at h
   exact h.trans (decide_eq_decide.2 size_zero)
  have e3 : (x.till == 0) = decide (x.till = 0) := rfl
  have e4 : decide ((x.key.size : Int) < 1) = !decide (1 ≤ x.key.size) := by
   by_cases h : 1 ≤ x.key.size
   ·simp [h]; omega
   ·simp [h]; omega
  have e5 : decide ((40 : Int) < (x.key.size : Int)) = !decide (x.key.size ≤ 40) := by
   by_cases h : x.key.size ≤ 40
   ·simp [h]; omega
   ·simp [h]; omega
  have h6 : decide (x.val.size = 0) = true → decide (x.val.size ≤ 200) = true := by simp only [decide_eq_true_eq]; omega
  have h7 : decide (x.till = 0) = true → decide ((0 : Int) ≤ x.till) = true ∧ decide (x.till ≤ 1099511627776) = true := by simp only [decide_eq_true_eq]; omega
  rw [e1, e2, e3, e4, e5]
  unfold It.may
  generalize decide (1 ≤ x.key.size) = b0 at *
  generalize decide (x.key.size ≤ 40) = b1 at *
  generalize decide (x.val.size ≤ 200) = b2 at *
  generalize decide ((0 : Int) ≤ x.till) = b3 at *
  generalize decide (x.till ≤ 1099511627776) = b4 at *
  generalize decide (x.val.size = 0) = b5 at *
  generalize decide (x.till = 0) = b6 at *
  generalize x.gone = b7
  clear e1 e2 e3 e4 e5 hk hv ht1 ht2
  revert b0 b1 b2 b3 b4 b5 b6 b7
  decide
 obtain ⟨key, val, till, gone⟩ := x
 simp only at *
 have HM := Lib.hid (show (⟨key, val, till, gone⟩ : It).may = (⟨key, val, till, gone⟩ : It).may from rfl)
 generalize (⟨key, val, till, gone⟩ : It).may = m at *
 clear HM
 rcases cases_ with ⟨t1, rfl⟩ | ⟨t1, t2, rfl⟩ | ⟨t1, t2, rfl, t3, rfl⟩ | ⟨t1, t2, rfl, t3, t4, rfl⟩ | ⟨t1, t2, rfl, t3, t4, rfl⟩ | ⟨t1, t2, rfl, t3, rfl⟩ | ⟨t1, t2, rfl, t3, t4, rfl⟩ | ⟨t1, t2, rfl, t3, t4, t5, rfl⟩ | ⟨t1, t2, rfl, t3, t4, t5, rfl⟩
 all_goals
  go_enter Tryz.func62, Tryz.ntmps62
  go_wp2_with fail
  go_ret
  exact ⟨by first | rfl | (rw [← t5]; rfl) | (rw [← t4]; rfl), (Keeps.refl _ _).alloc _⟩
end Go.Proofs.YtemkjodkmehffaaGreatDoor
