/-
  IxAdd, IxEmpty, IxFrom, JnMark: texts of mine, joined.
-/
import Derived.Test.YticophaepapjoaaGreatDoorAllB18
import Derived.Test.YticophaepapjoaaGreatDoorAllB19
import Derived.Test.YticophaepapjoaaGreatDoorAllB03
import Derived.Test.YticophaepapjoaaGreatDoorAllB15
import Derived.Test.YticophaepapjoaaGreatDoorAllB02
import Derived.Lib.SmallJoins
open Go.Lib renaming hid → Hd
set_option maxRecDepth 100000
set_option maxHeartbeats 8000000
namespace Go.Proofs.YticophaepapjoaaGreatDoor
open Go Go.RowKit Go.Joins
def Off (q g : Nat) : Nat → Prop := fun b => b ≠ q ∧ b ≠ g
def put4 (w : World) (g i : Nat) (s : Sl) : World := (((w.setCell ⟨g, i * 4, none⟩ (.string s.key)).setCell ⟨g, i * 4 + 1, none⟩ (.int .u64 s.hash)).setCell ⟨g, i * 4 + 2, none⟩ (.int .i64 s.pos)).setCell ⟨g, i * 4 + 3, none⟩ (.bool s.full)
section
variable {w w' W : World} {q g n c i : Nat} {T : Tab}
theorem put4_keeps (w : World) (g i : Nat) (s : Sl) {G : Nat → Prop} (hk : Keeps G W w) (hg : W.heap.size ≤ g ∨ ¬ G g) : Keeps G W (put4 w g i s) :=
 (((hk.setCell (p := ⟨g, i * 4, none⟩) hg _).setCell (p := ⟨g, i * 4 + 1, none⟩) hg _).setCell (p := ⟨g, i * 4 + 2, none⟩) hg _).setCell (p := ⟨g, i * 4 + 3, none⟩) hg _
theorem IxAt.put4 (h : IxAt w q g n c T) (hi : i < n) (s : Sl) : IxAt (put4 w g i s) q g n c (setT T i s) :=
 ⟨h.blk.keep (put4_keeps w g i s (Keeps.refl (fun b => b ≠ g) w) (.inr fun e => e rfl)) (fun e => h.ne e.symm), h.tab.store hi s, h.ne⟩
theorem IxAt.count (h : IxAt w q g n c T) (c' : Nat) : IxAt (w.setCell ⟨q, 1, none⟩ (.int .i64 (c' : Int))) q g n c' T :=
 ⟨h.blk.set1 c', h.tab.keep ((Keeps.refl (fun b => b ≠ q) w).setCell (p := ⟨q, 1, none⟩) (.inr fun e => e rfl) _) h.ne, h.ne⟩
theorem IxAt.drew (h : IxAt w q g n c T) : IxAt w.drew q g n c T := h.keep (G := fun _ => True) ((Keeps.refl _ w).drew) trivial trivial
end
theorem add_any (w : World) (q g n c : Nat) (T : Tab) (st : IxSt) (hI : IxAt w q g n c T) (hT : TabOk hashN T n st) (hn : n ≤ 1099511627776) (hc : c ≤ 1099511627776) (k : ByteArray) (p : Int) (hno : ixGet st k = none) (hroom : st.length + 1 < n) :
  Calls Tryz.prog 140 #[.pointer (some ⟨q, 0, none⟩), .agg #[.string k, .int .u64 ((hashN k : Nat) : Int), .int .i64 p, .bool true]] w fun e w' => e = .returned (.tuple #[]) ∧ ∃ T', IxAt w' q g n (c + 1) T' ∧ TabOk hashN T' n (st ++ [(k, p)]) ∧ Keeps (Off q g) w w' := by
 obtain ⟨f, hf1, hf2⟩ := hT.free
 have h0 := hT.pos
 have hh := hashN_lt k
 have hq := hI.blk.lt
 have hg := hI.tab.lt
 have hne := hI.ne
 obtain ⟨w1, hw1⟩ : ∃ w1, w.alloc (.cells #[.string k, .int .u64 ((hashN k : Nat) : Int), .int .i64 p, .bool true] 126) = w1 := ⟨_, rfl⟩
 have HK1 := Hd (show Keeps (Off q g) w w1 by rw [← hw1]; exact (Keeps.refl _ w).alloc _)
 have hI1 : IxAt w1 q g n c T := by rw [← hw1]; exact hI.keep (G := fun _ => True) ((Keeps.refl _ w).alloc _) trivial trivial
 have hb1 : w1.heap[w.heap.size]? = some (.cells #[.string k, .int .u64 ((hashN k : Nat) : Int), .int .i64 p, .bool true] 126 (0, 0)) := by rw [← hw1]; exact heap_alloc_new w _
 have HW1 := Hd hw1
 have HT := Hd hT
 have HS := Hd (Seen.start (h := hashN) (T := T) h0 k)
 have HNO := Hd hno
 have HI := Hd hI1
 have hHome := Hd (home_any w1 q g n c T hI1 h0 hn (hashN k) hh)
 have hBeh := Hd (fun i hi => ixbehind_any w1 q g n c T hI1 i hi hn)
 have bc0 : w1.cell? ⟨w.heap.size, 0, none⟩ = some (.string k) := (cell_of_block hb1 0).trans rfl
 have bc1 : w1.cell? ⟨w.heap.size, 1, none⟩ = some (.int .u64 ((hashN k : Nat) : Int)) := (cell_of_block hb1 1).trans rfl
 have bc2 : w1.cell? ⟨w.heap.size, 2, none⟩ = some (.int .i64 p) := (cell_of_block hb1 2).trans rfl
 have bc3 : w1.cell? ⟨w.heap.size, 3, none⟩ = some (.bool true) := (cell_of_block hb1 3).trans rfl
 have bne : w.heap.size ≠ q ∧ w.heap.size ≠ g := by omega
 clear hI hT hno hw1 hb1 hI1
 generalize hX : hashN k = X at *
 have HX := Hd hX
 clear hX
 go_enter Tryz.func140, Tryz.ntmps140
 go_wp2_with fail
 rw [HW1.out]
 refine (show Calls _ _ _ _ _ from hHome.out).mono ?_
 rintro e w2 ⟨rfl, rfl⟩
 clear hHome HW1
 generalize w.heap.size = b at *
 generalize X % n = i0 at HS ⊢
 have c0 := HI.out.blk.c0
 go_wp2_with fail
 go_loopw [4] (fun i wr => ∃ j d : Nat, j < n ∧ i = .int .i64 (j : Int) ∧ wr = w2 ∧ d < n ∧ Hid (j = nx n (hashN k % n) d ∧ ∀ e, e < d → (T (nx n (hashN k % n) e)).full = true)) (fun i _ => n - way n (hashN k % n) (intOf i).toNat)
 case atStart => exact ⟨i0, 0, HS.out.lt, rfl, rfl, h0, Hd ⟨HS.out.at_, HS.out.full⟩⟩
 case round =>
  clear HS
  obtain ⟨j, d, hj, rfl, rfl, hd, HS⟩ := hrel
  have t3 := HI.out.tab.c3 hj
  cases hful : (T j).full with
  | false =>
   rw [hful] at t3
   have HA := Hd (HT.out.add HS.out.2 hd HS.out.1 hful HNO.out p hroom)
   clear hful HS
   have c1 := HI.out.blk.c1
   have ff := fun i => HI.out.blk.f0 i
   have tf := HI.out.tab.ice
   have t0 := HI.out.tab.c0 hj
   have t1 := HI.out.tab.c1 hj
   have t2 := HI.out.tab.c2 hj
   go_wp2_with fail
   go_region
   go_wp2_with fail
   have hfin : IxAt (((put4 wr g j ⟨k, (X : Int), p, true⟩).setCell ⟨q, 1, none⟩ (.int .i64 ((c + 1 : Nat) : Int))).drew) q g n (c + 1) (setT T j ⟨k, (X : Int), p, true⟩) := ((HI.out.put4 hj _).count (c + 1)).drew
   have hkp : Keeps (Off q g) w (((put4 wr g j ⟨k, (X : Int), p, true⟩).setCell ⟨q, 1, none⟩ (.int .i64 ((c + 1 : Nat) : Int))).drew) := (((put4_keeps wr g j _ HK1.out (.inr fun e => e.2 rfl))).setCell (p := ⟨q, 1, none⟩) (.inr fun e => e.1 rfl) _).drew
   have ec : ((c + 1 : Nat) : Int) = (c : Int) + 1 := by omega
   have hA := HA.out
   rw [HX.out] at hA
   rw [ec] at hfin hkp
   go_end0
   exact ⟨rfl, _, hfin, hA, hkp⟩
  | true =>
   rw [hful] at t3
   have hd2 : d + 1 < n := by
    refine Classical.byContradiction fun hh => ?_
    have hm := Nat.mod_lt (hashN k) h0
    have hw := way_lt hm hf1
    have hx := nx_way hm hf1
    rcases Nat.lt_or_ge (way n (hashN k % n) f) d with h1 | h1
    ·have := HS.out.2 _ h1
     rw [hx, hf2] at this; cases this
    ·have e : way n (hashN k % n) f = d := by omega
     rw [e, ← HS.out.1] at hx
     rw [hx, hf2] at hful; cases hful
   have hm := Nat.mod_lt (hashN k) h0
   have HN := Hd (show nx n j 1 = nx n (hashN k % n) (d + 1) ∧ ∀ e, e < d + 1 → (T (nx n (hashN k % n) e)).full = true from by
    refine ⟨by rw [HS.out.1, nx_one hm hd2], fun e he => ?_⟩
    rcases Nat.lt_or_ge e d with h1 | h1
    ·exact HS.out.2 e h1
    ·have : e = d := by omega
     rw [this, ← HS.out.1]; exact hful)
   have HW := Hd (show n - way n (hashN k % n) (nx n j 1) < n - way n (hashN k % n) j from by
    have w1 : way n (hashN k % n) j = d := by rw [HS.out.1]; exact way_nx hm hd
    have w2 : way n (hashN k % n) (nx n j 1) = d + 1 := by rw [HN.out.1]; exact way_nx hm hd2
    omega)
   have hj2 : nx n j 1 < n := nx_lt hj (by omega)
   have hB := Hd (hBeh.out j hj)
   clear hful hm HS
   generalize nx n j 1 = j2 at HN hj2 HW hB
   go_wp2_with fail
   refine (show Calls _ _ _ _ _ from hB.out).mono ?_
   rintro e w2 ⟨rfl, rfl⟩
   go_wp2_with fail
   go_roundw
   case rel => exact ⟨j2, d + 1, hj2, rfl, trivial, hd2, HN⟩
   case measure => simp only [intOf, Int.toNat_natCast]; exact HW.out
section
variable {w : World} {g n i : Nat} {T : Tab} {K : ByteArray} {Z P : Int} {b : Bool}
theorem TabAt.four (h : TabAt w g n T) (hi : i < n) (hs : T i = ⟨K, Z, P, b⟩) : w.cell? ⟨g, i * 4, none⟩ = some (.string K) ∧ w.cell? ⟨g, i * 4 + 1, none⟩ = some (.int .u64 Z) ∧ w.cell? ⟨g, i * 4 + 2, none⟩ = some (.int .i64 P) ∧ w.cell? ⟨g, i * 4 + 3, none⟩ = some (.bool b) := by
 have h0 := h.c0 hi
 have h1 := h.c1 hi
 have h2 := h.c2 hi
 have h3 := h.c3 hi
 rw [hs] at h0 h1 h2 h3
 exact ⟨h0, h1, h2, h3⟩
theorem sl_full (s : Sl) (h : s.full = true) : ∃ K Z P, s = ⟨K, Z, P, true⟩ := by
 cases s with
 | mk K Z P b => exact ⟨K, Z, P, by rw [show b = true from h]⟩
end
theorem empty_any (w : World) (q g n c : Nat) (T : Tab) (st : IxSt) (hI : IxAt w q g n (c + 1) T) (hT : TabOk hashN T n st) (hn : n ≤ 1099511627776) (hc : c ≤ 1099511627776) (i : Nat) (hi : i < n) (hf : (T i).full = true) :
  Calls Tryz.prog 138 #[.pointer (some ⟨q, 0, none⟩), .int .i64 (i : Int)] w fun e w' => e = .returned (.tuple #[]) ∧ ∃ T', IxAt w' q g n c T' ∧ TabOk hashN T' n (ixDrop st (T i).key) ∧ Keeps (Off q g) w w' := by
 obtain ⟨f, hf1, hf2⟩ := hT.free
 have h0 := hT.pos
 have HH := Hd (Hole.start hT hi hf)
 have HI := Hd hI
 have hB := Hd (ixbehind_any w q g n _ T hI i hi hn)
 have hj2 : nx n i 1 < n := nx_lt hi (by omega)
 have HK := Hd (Keeps.refl (Off q g) w)
 generalize ixDrop st (T i).key = st' at HH ⊢
 generalize nx n i 1 = k0 at HH hB hj2
 clear hI hT hf
 have ec : ((c + 1 : Nat) : Int) = (c : Int) + 1 := by omega
 go_enter Tryz.func138, Tryz.ntmps138
 go_wp2_with fail
 refine (show Calls _ _ _ _ _ from hB.out).mono ?_
 rintro e w1 ⟨rfl, hw1⟩
 have hw1 := hw1.symm
 subst hw1
 clear hB
 go_wp2_with fail
 go_loopw [1, 4] (fun a b wr => ∃ (i k : Nat) (T : Tab), i < n ∧ k < n ∧ a = .int .i64 (i : Int) ∧ b = .int .i64 (k : Int) ∧ (T f).full = false ∧ Hid (IxAt wr q g n (c + 1) T) ∧ Hid (Hole hashN T n i k st') ∧ Hid (Keeps (Off q g) w wr)) (fun _ b _ => way n (intOf b).toNat f)
 case atStart => exact ⟨i, k0, T, hi, hj2, rfl, rfl, hf2, HI, HH, HK⟩
 case round =>
  clear HI HH HK hi hf2
  obtain ⟨i, k, T, hi, hk, rfl, rfl, hf2, HI, HH, HK⟩ := hrel
  have c0 := HI.out.blk.c0
  cases hful : (T k).full with
  | false =>
   have t3 := HI.out.tab.c3 hk
   rw [hful] at t3
   have HD := Hd (HH.out.done hful)
   have s0 := HI.out.tab.c0 hi
   have s1 := HI.out.tab.c1 hi
   have s2 := HI.out.tab.c2 hi
   have s3 := HI.out.tab.c3 hi
   have c1 := HI.out.blk.c1
   have ff := fun i => HI.out.blk.f0 i
   have tf := HI.out.tab.ice
   rw [ec] at c1
   have hne := HI.out.ne
   clear hful hf2
   go_wp2_with fail
   have hfin : IxAt ((put4 wr g i Sl.zero).setCell ⟨q, 1, none⟩ (.int .i64 (c : Int))) q g n c (setT T i Sl.zero) := (HI.out.put4 hi _).count c
   have hkp : Keeps (Off q g) w ((put4 wr g i Sl.zero).setCell ⟨q, 1, none⟩ (.int .i64 (c : Int))) := ((put4_keeps wr g i _ HK.out (.inr fun e => e.2 rfl))).setCell (p := ⟨q, 1, none⟩) (.inr fun e => e.1 rfl) _
   go_end0
   exact ⟨rfl, _, hfin, HD.out, hkp⟩
  | true =>
   obtain ⟨K, Z, P, hs⟩ := sl_full _ hful
   obtain ⟨t0, t1, t2, t3⟩ := HI.out.tab.four hk hs
   have hz := HH.out.hash k hk hful
   rw [hs] at hz
   have hz : Z = (hashN K : Int) := hz
   subst hz
   have hHm := Hd (home_any wr q g n _ T HI.out h0 hn (hashN K) (hashN_lt K))
   have hm := Nat.mod_lt (hashN K) h0
   have hST := fun h => Hd (HH.out.stay hf1 hf2 hful h)
   have hMV := fun h => Hd (HH.out.move hf1 hf2 hful h)
   rw [hs] at hST hMV
   have hb := Hd (ixbehind_any wr q g n _ T HI.out k hk hn)
   have hj2 : nx n k 1 < n := nx_lt hk (by omega)
   have hkf : k ≠ f := fun e => by rw [e, hf2] at hful; cases hful
   have HW := Hd (show way n (nx n k 1) f < way n k f from by
    have := way_c n k f
    have := nx_c n k 1
    have := way_c n (nx n k 1) f
    omega)
   have hW1 := way_any wr q g n _ T HI.out (hashN K % n) k hm hk hn
   have hff2 : (setT T i ⟨K, (hashN K : Int), P, true⟩ f).full = false := by
    have : f ≠ i := fun e => by have := HH.out.stale; rw [← e, hf2] at this; cases this
    rw [setT_ne _ _ this]; exact hf2
   have HIK := Hd (fun w' (h : Kp wr w') => HI.out.keep h trivial trivial)
   have HKK := Hd (fun w' (h : Kp wr w') => HK.out.trans (h.mono fun _ _ _ => trivial))
   have HS := Hd hs
   clear hful hs HH HK
   generalize hashN K % n = m at hHm hm hST hMV hW1
   have HW1 := Hd hW1
   clear hW1
   go_wp2_with fail
   refine (show Calls _ _ _ _ _ from hHm.out).mono ?_
   rintro e w1 ⟨rfl, hw1⟩
   have hw1 := hw1.symm
   subst hw1
   clear hHm
   go_wp2_with fail
   refine (show Calls _ _ _ _ _ from HW1.out).mono ?_
   rintro e w2 ⟨rfl, hk2⟩
   have HI2 := Hd (HIK.out w2 hk2)
   have HW2 := Hd (way_any w2 q g n _ T HI2.out i k hi hk hn)
   have HK2 := Hd hk2
   clear hk2 HW1 HI
   go_wp2_with fail
   refine (show Calls _ _ _ _ _ from HW2.out).mono ?_
   rintro e w3 ⟨rfl, hk3⟩
   have HI3 := Hd (HIK.out w3 (HK2.out.trans hk3))
   have HK3 := Hd (HKK.out w3 (HK2.out.trans hk3))
   have HB3 := Hd (ixbehind_any w3 q g n _ T HI3.out k hk hn)
   clear hk3 HK2 HI2 HW2 HIK HKK hb
   generalize hk2 : nx n k 1 = k2 at *
   have HKE := Hd hk2
   clear hk2
   by_cases hyes : way n i k ≤ way n m k
   ·have HM := Hd (hMV hyes).out
    clear hST hMV
    have hd : decide ((way n i k : Int) ≤ (way n m k : Int)) = true := by rw [decide_eq_true_eq]; omega
    obtain ⟨s0, s1, s2, s3⟩ := (show _ ∧ _ ∧ _ ∧ _ from ⟨HI3.out.tab.c0 hi, HI3.out.tab.c1 hi, HI3.out.tab.c2 hi, HI3.out.tab.c3 hi⟩)
    obtain ⟨t0, t1, t2, t3⟩ := HI3.out.tab.four hk HS.out
    have cc0 := HI3.out.blk.c0
    have tf := HI3.out.tab.ice
    go_wp2_with fail
    go_region
    go_wp2_with fail
    have hfin : IxAt ((put4 w3 g i ⟨K, (hashN K : Int), P, true⟩).drew) q g n (c + 1) (setT T i ⟨K, (hashN K : Int), P, true⟩) := (HI3.out.put4 hi _).drew
    have hkp : Keeps (Off q g) w ((put4 w3 g i ⟨K, (hashN K : Int), P, true⟩).drew) := (put4_keeps w3 g i _ HK3.out (.inr fun e => e.2 rfl)).drew
    have hb4 := ixbehind_any _ q g n _ _ hfin k hk hn
    rw [HKE.out] at hb4
    refine (show Calls _ _ _ _ _ from hb4).mono ?_
    clear hb4
    rintro e w4 ⟨rfl, hw4⟩
    have hw4 := hw4.symm
    subst hw4
    go_wp2_with fail
    go_roundw
    case rel => exact ⟨k, k2, _, hk, hj2, rfl, rfl, hff2, Hd hfin, Hd HM.out, Hd hkp⟩
    case measure => simp only [intOf, Int.toNat_natCast]; exact HW.out
   ·have HM := Hd (hST (by omega)).out
    clear hST hMV
    have hd : decide ((way n i k : Int) ≤ (way n m k : Int)) = false := by rw [decide_eq_false_iff_not]; omega
    go_wp2_with fail
    refine (show Calls _ _ _ _ _ from HB3.out).mono ?_
    rintro e w4 ⟨rfl, hw4⟩
    have hw4 := hw4.symm
    subst hw4
    go_wp2_with fail
    go_roundw
    case rel => exact ⟨i, k2, T, hi, hj2, rfl, rfl, hf2, HI3, HM, HK3⟩
    case measure => simp only [intOf, Int.toNat_natCast]; exact HW.out
theorem slot_elem : Elem Tryz.prog 127 126 (.agg #[.string ⟨#[]⟩, .int .u64 0, .int .i64 0, .bool false]) 4 40 := ⟨Tryz.underlying127, by kernel_rfl, rfl, by decide⟩
def Sl.cells (s : Sl) : List Value := [.string s.key, .int .u64 s.hash, .int .i64 s.pos, .bool s.full]
def slC (l : List Sl) : List Value := l.flatMap Sl.cells
theorem slC_snoc (l : List Sl) (s : Sl) : slC (l ++ [s]) = slC l ++ s.cells := by simp [slC]
def fromL (T : Tab) (p : Int) (n : Nat) : List Sl := ((List.range n).map T).filter fun s => s.full && decide (p ≤ s.pos)
theorem fromL_succ (T : Tab) (p : Int) (n : Nat) : fromL T p (n + 1) = fromL T p n ++ (if (T n).full && decide (p ≤ (T n).pos) then [T n] else []) := by
 unfold fromL
 rw [List.range_succ, List.map_append, List.filter_append]
 congr 1
 simp only [List.map_cons, List.map_nil, List.filter_cons, List.filter_nil]
theorem fromL_len (T : Tab) (p : Int) (n : Nat) : (fromL T p n).length ≤ n := by
 unfold fromL
 refine Nat.le_trans (List.length_filter_le _ _) ?_
 simp
structure IxS (w : World) (q : Nat) (A : Option Addr) (n c : Nat) (T : Tab) : Prop where
 blk : IxBlk w q (.slice A n n) c
 tab : 0 < n → ∃ g, A = some ⟨g, 0, none⟩ ∧ TabAt w g n T ∧ g ≠ q
theorem IxS.keep {w w' : World} {q n c : Nat} {A : Option Addr} {T : Tab} (h : IxS w q A n c T) (hk : Keeps (fun _ => True) w w') : IxS w' q A n c T :=
 ⟨h.blk.keep hk trivial, fun h0 => by obtain ⟨g, e, h1, h2⟩ := h.tab h0; exact ⟨g, e, h1.keep hk trivial, h2⟩⟩
theorem IxAt.s {w : World} {q g n c : Nat} {T : Tab} (h : IxAt w q g n c T) : IxS w q (some ⟨g, 0, none⟩) n c T := ⟨h.blk, fun _ => ⟨g, rfl, h.tab, h.ne⟩⟩
theorem src_slot (W : World) (s : Sl) : Src Tryz.prog 4 127 (.slice (some ⟨W.heap.size, 0, none⟩) 1 1) 1 s.cells (W.alloc (.cells #[.string s.key, .int .u64 s.hash, .int .i64 s.pos, .bool s.full] 126)) :=
 Src.ofSlice _ Tryz.underlying127 ⟨W.heap.size, 0, none⟩ 1 1 s.cells rfl (fun j v hv => by
  rw [WideShapes.add_plain, Nat.zero_add]
  exact (cell_alloc_mark_at W _ _ _ W.heap.size j rfl).trans (by rw [← hv, ← Array.getElem?_toList]; rfl)) (fun v hv => by
  simp only [Sl.cells, List.mem_cons, List.not_mem_nil, or_false] at hv
  rcases hv with rfl | rfl | rfl | rfl <;> rfl)
theorem from_any (w : World) (q : Nat) (A : Option Addr) (n c : Nat) (T : Tab) (hI : IxS w q A n c T) (hn : n ≤ 1099511627776) (p : Int) :
  Calls Tryz.prog 90 #[.pointer (some ⟨q, 0, none⟩), .int .i64 p] w fun e w' => ∃ B k, e = .returned (.slice B (fromL T p n).length k) ∧ w'.ownsRow w.heap.size 126 4 (.slice B (fromL T p n).length k) (fromL T p n).length (slC (fromL T p n)) ∧ Kp w w' := by
 have HI := Hd hI
 have c0 := hI.blk.c0
 clear hI
 go_enter Tryz.func90, Tryz.ntmps90
 go_wp2_with fail
 go_loopw [5, 13] (fun v i wr => ∃ (k : Nat) (B : Option Addr) (m cc : Nat), k ≤ n ∧ i = .int .i64 (k : Int) ∧ m ≤ k ∧ v = .slice B m cc ∧ Hid (m = (fromL T p k).length ∧ wr.ownsRow w.heap.size 126 4 v m (slC (fromL T p k)) ∧ Kp w wr)) (fun _ i _ => n - (intOf i).toNat)
 case atStart => exact ⟨0, none, 0, 0, Nat.zero_le _, rfl, Nat.le_refl _, rfl, Hd ⟨rfl, World.ownsRow_nil _ _ _ _, Keeps.refl _ _⟩⟩
 case round =>
  obtain ⟨k, B, m, cc, hk, rfl, hmk, rfl, HR⟩ := hrel
  by_cases hl : k < n
  ·have hl' : (k : Int) < (n : Int) := by omega
   have HIr := Hd (HI.out.keep HR.out.2.2)
   obtain ⟨g, rfl, hta, hgq⟩ := HIr.out.tab (by omega)
   have t0 := hta.c0 hl
   have t1 := hta.c1 hl
   have t2 := hta.c2 hl
   have t3 := hta.c3 hl
   have hs := fromL_succ T p k
   have hg := hta.lt
   clear hta c0
   generalize T k = s at t0 t1 t2 t3 hs
   obtain ⟨K, Z, P, b⟩ := s
   simp only at t0 t1 t2 t3 hs
   have HS := Hd hs
   clear hs
   cases b
   ·go_wp2_with fail
    go_roundw
    case rel => exact ⟨k + 1, B, m, cc, hl, by go_num, by omega, rfl, Hd (by
     have e : fromL T p (k + 1) = fromL T p k := by rw [HS.out]; simp
     rw [e]
     exact ⟨HR.out.1, HR.out.2.1.alloc _, HR.out.2.2.alloc _⟩)⟩
    case measure => simp [intOf]; omega
   ·by_cases hp : p ≤ P
    ·have hp' : decide (p ≤ P) = true := by simpa using hp
     have hsrc := src_slot (wr.alloc (.cells #[.string K, .int .u64 Z, .int .i64 P, .bool true] 126)) ⟨K, Z, P, true⟩
     rw [show (wr.alloc (.cells #[.string K, .int .u64 Z, .int .i64 P, .bool true] 126)).heap.size = wr.heap.size + 1 by simp] at hsrc
     have HSRC := Hd hsrc
     have HOWN := Hd HR.out.2.1
     clear hsrc
     go_wp2_with (at_builtin; refine slot_elem.list_append rfl (.tmp 25) (.tmp 27) _ rfl rfl ((HOWN.out.alloc _).alloc _) rfl HSRC.out ?c3 ?c4 ?c5 ?_)
     case c3 => unfold maxLen; omega
     case c4 => omega
     case c5 => have := HR.out.2.2.size; simp; omega
     intro v3 w3 ho3 hg3 hb3
     have hk3 : Kp w w3 := ((HR.out.2.2.alloc _).alloc _).grown hg3 fun j hj => (HOWN.out.lt j hj).1
     have HK3 := Hd hk3
     have HE := Hd (show fromL T p (k + 1) = fromL T p k ++ [⟨K, Z, P, true⟩] from by rw [HS.out]; simp [hp])
     have HO3 := Hd (show w3.ownsRow w.heap.size 126 4 v3 (m + 1) (slC (fromL T p (k + 1))) from by rw [HE.out, slC_snoc]; exact ho3)
     obtain ⟨B3, c3, rfl, -, -⟩ := ho3.form (by omega)
     clear hk3 ho3 hg3 hb3 HSRC HOWN
     go_wp2_with fail
     go_roundw
     case rel => exact ⟨k + 1, some ⟨B3, 0, none⟩, m + 1, c3, hl, by go_num, by omega, rfl, Hd ⟨by rw [HE.out, List.length_append, ← HR.out.1]; rfl, HO3.out, HK3.out⟩⟩
     case measure => simp [intOf]; omega
    ·have hp' : decide (p ≤ P) = false := by simpa using hp
     go_wp2_with fail
     go_roundw
     case rel => exact ⟨k + 1, B, m, cc, hl, by go_num, by omega, rfl, Hd (by
      have e : fromL T p (k + 1) = fromL T p k := by rw [HS.out]; simp [hp]
      rw [e]
      exact ⟨HR.out.1, HR.out.2.1.alloc _, HR.out.2.2.alloc _⟩)⟩
     case measure => simp [intOf]; omega
  ·obtain rfl : n = k := by omega
   have hl' : ¬ (n : Int) < (n : Int) := by omega
   go_wp2_with fail
   go_ret
   obtain ⟨e, h1, h2⟩ := HR.out
   subst e
   exact ⟨B, cc, rfl, h1, h2⟩
theorem jmay_any (w : World) (k : ByteArray) (b : Bool) (hb : b = true ↔ keyOk k) (hs : k.size ≤ 1000000) :
  Calls Tryz.prog 59 #[.string k] w fun e w' => e = .returned (.bool b) ∧ w = w' := by
 by_cases h1 : 1 ≤ k.size
 ·have t1 : decide ((1 : Int) ≤ (k.size : Int)) = true := by simp; omega
  by_cases h2 : k.size ≤ 40
  ·have t2 : decide ((k.size : Int) ≤ 40) = true := by simp; omega
   obtain rfl : b = true := hb.2 ⟨h1, h2⟩
   clear hb h1 h2
   go_enter Tryz.func59, Tryz.ntmps59
   go_wp2_with fail
   go_ret
   exact ⟨rfl, rfl⟩
  ·have t2 : decide ((k.size : Int) ≤ 40) = false := by simp; omega
   obtain rfl : b = false := by
    cases b
    ·rfl
    ·exact absurd (hb.1 rfl).2 h2
   clear hb h1 h2
   go_enter Tryz.func59, Tryz.ntmps59
   go_wp2_with fail
   go_ret
   exact ⟨rfl, rfl⟩
 ·have t1 : decide ((1 : Int) ≤ (k.size : Int)) = false := by simp; omega
  obtain rfl : b = false := by
   cases b
   ·rfl
   ·exact absurd (hb.1 rfl).1 h1
  clear hb h1
  go_enter Tryz.func59, Tryz.ntmps59
  go_wp2_with fail
  go_ret
  exact ⟨rfl, rfl⟩
def OneC (x : Value) : World → Value → Prop := fun w v => ∃ B, v = .slice (some ⟨B, 0, none⟩) 1 1 ∧ Row w (some ⟨B, 0, none⟩) (fun _ => True) [x]
theorem OneC.keep {x v : Value} {w w' : World} (h : Kp w w') (hv : OneC x w v) : OneC x w' v := by
 obtain ⟨B, e, hr⟩ := hv
 exact ⟨B, e, hr.keep h⟩
section
variable {w : World} {o : Oper} {a : Act} {Q : Exit → Act → World → Prop} {x y : Operand}
theorem kp_oneN {t : Int} (ho : o.op = .buildSlice 106 1 #[(0, x)]) (hx : a.eval x = .int .i64 t) : o.wp Tryz.prog a w (fun a' w' => ∃ v, a' = a.put o.dst v ∧ Kp w w' ∧ OneC (.int .i64 t) w' v) Q := by
 refine kp_yield (v := .slice (some ⟨w.heap.size, 0, none⟩) 1 1) (w' := w.alloc (.cells #[.int .i64 t] 2)) ?_ ((Keeps.refl _ w).alloc _) ⟨_, rfl, Row.fresh w #[.int .i64 t] 2 (0, 0) _ rfl trivial _ rfl⟩
 generalize a.eval = ρ at hx
 unfold execOp
 go_simp
theorem kp_oneT {t : ByteArray} (ho : o.op = .buildSlice 30 1 #[(0, x)]) (hx : a.eval x = .string t) : o.wp Tryz.prog a w (fun a' w' => ∃ v, a' = a.put o.dst v ∧ Kp w w' ∧ OneC (.string t) w' v) Q := by
 refine kp_yield (v := .slice (some ⟨w.heap.size, 0, none⟩) 1 1) (w' := w.alloc (.cells #[.string t] 9)) ?_ ((Keeps.refl _ w).alloc _) ⟨_, rfl, Row.fresh w #[.string t] 9 (0, 0) _ rfl trivial _ rfl⟩
 generalize a.eval = ρ at hx
 unfold execOp
 go_simp
theorem kp_asJ {V : World → Value → Prop} (ho : o.op = .assign x) (hx : V w (a.eval x)) : o.wp Tryz.prog a w (fun a' w' => ∃ v', a' = a.put o.dst v' ∧ Kp w w' ∧ V w' v') Q := by
 refine kp_yield (v := a.eval x) ?_ (Keeps.refl _ _) hx
 unfold execOp; rw [ho]; rfl
end
def MadeC (l : List UInt8) : World → Value → Prop := fun w v => ∃ A c, v = .slice A l.length c ∧ Row w A (fun _ => True) (bcells l)
theorem MadeC.keep {l : List UInt8} {v : Value} {w w' : World} (h : Kp w w') (hv : MadeC l w v) : MadeC l w' v := by
 obtain ⟨A, c, e, hr⟩ := hv
 exact ⟨A, c, e, hr.keep h⟩
def GM : Nat → Option Bool := fun _ => none
theorem GM_is {V : Nat → World → Value → Prop} (g : Nat) (c : Bool) (h : GM g = some c) (w : World) (x : Value) (_ : V g w x) : x = .bool c := by cases h
def VM (base b : Nat) (n : Int) (k : ByteArray) (l1 l2 : List UInt8) : Nat → World → Value → Prop
 | 0 => IsV (.pointer (some ⟨b, 0, none⟩))
 | 1 => IsV (.int .i64 n)
 | 2 => OneC (.int .i64 n)
 | 3 => MadeC l1
 | 4 => IsV (.pointer (some ⟨b, 1, none⟩))
 | 5 => IsV (.string k)
 | 6 => OneC (.string k)
 | 7 => fun w v => OwnB w base v l2
 | 8 => fun w v => OwnB w base v l2
 | _ => fun _ _ => True
theorem VM_keep {base b : Nat} {n : Int} {k : ByteArray} {l1 l2 : List UInt8} (i : Nat) (w w' : World) (v : Value) (h : Kp w w') (hv : VM base b n k l1 l2 i w v) : VM base b n k l1 l2 i w' v := by
 match i, hv with
 | 0, hv => exact hv
 | 1, hv => exact hv
 | 2, hv => exact OneC.keep h hv
 | 3, hv => exact MadeC.keep h hv
 | 4, hv => exact hv
 | 5, hv => exact hv
 | 6, hv => exact OneC.keep h hv
 | 7, hv => exact h.own hv fun _ _ => trivial
 | 8, hv => exact h.own hv fun _ _ => trivial
 | n + 9, _ => trivial
theorem jencode (w : World) (n : Nat) (k : ByteArray) (hn : n ≤ 40000) (hk : keyOk k) (z : Int) (hz : z = (n : Int)) :
  Calls Tryz.prog 87 #[.agg #[.int .i64 z, .string k]] w fun e w' => ∃ v, e = .returned v ∧ OwnB w' w.heap.size v (markB n k) ∧ Kp w w' := by
 subst hz
 have hk0 : Kp w (w.alloc (.cells #[.int .i64 (n : Int), .string k] 72)) := (Keeps.refl _ w).alloc _
 have b0 := heap_alloc_new w (.cells #[.int .i64 (n : Int), .string k] 72)
 have hlt : w.heap.size < (w.alloc (.cells #[.int .i64 (n : Int), .string k] 72)).heap.size := by simp
 have HPN := Hd (show ∀ (w3 : World) (B : Nat), Kp w w3 → Row w3 (some ⟨B, 0, none⟩) (fun _ => True) [.int .i64 (n : Int)] → Calls Tryz.prog 79 #[.slice none 0 0, .slice (some ⟨B, 0, none⟩) 1 1] w3 fun e w' => ∃ v, e = .returned v ∧ Kp w3 w' ∧ MadeC (putZ (n : Int)) w' v from fun w3 B _ hr => by
  refine (show Calls _ _ _ _ _ from put_any none (some ⟨B, 0, none⟩) 0 1 (fun _ => True) (fun _ => True) [] [(n : Int)] w3 (Row.nil _ _ _) hr (fun n hn => by rw [List.mem_singleton.1 hn]; omega) (by simp) (by simp)).mono ?_
  rintro e w' ⟨v, rfl, ho, hk⟩
  have e : ([] : List UInt8) ++ putsZ [(n : Int)] = putZ (n : Int) := by simp [putsZ]
  rw [e] at ho
  obtain ⟨A, c, rfl, -, hr⟩ := own_slice ho
  exact ⟨_, rfl, hk, A, c, rfl, hr.mono fun _ _ _ => trivial⟩)
 have hl1 : (putZ (n : Int)).length ≤ 1000 := by
  have := (markB_len hn hk).2
  unfold markB at this
  simp only [List.length_append] at this
  omega
 have HPT := Hd (show ∀ (w3 : World) (A : Option Addr) (c B : Nat), Kp w w3 → Row w3 A (fun _ => True) (bcells (putZ (n : Int))) → Row w3 (some ⟨B, 0, none⟩) (fun _ => True) [.string k] →
   Calls Tryz.prog 104 #[.slice A (putZ (n : Int)).length c, .slice (some ⟨B, 0, none⟩) 1 1] w3 fun e w' => ∃ v, e = .returned v ∧ Kp w3 w' ∧ OwnB w' w.heap.size v (markB n k) from fun w3 A c B hkk hr hr2 => by
  refine (show Calls _ _ _ _ _ from put_text A (some ⟨B, 0, none⟩) c 1 (fun _ => True) (fun _ => True) (putZ (n : Int)) [k] w3 hr hr2 (by have := hk.2; unfold total; simp; omega) (by omega) (by simp)).mono ?_
  rintro e w' ⟨v, rfl, ho, hk'⟩
  have e : putZ (n : Int) ++ putsT (strs [k]) = markB n k := by simp [putsT, strs, markB]
  rw [e] at ho
  exact ⟨v, rfl, hk', ownsRow_le ho hkk.size⟩)
 generalize hL1 : putZ (n : Int) = l1 at HPT HPN hl1
 generalize hL2 : markB n k = l2 at HPT ⊢
 obtain ⟨z, hz⟩ : ∃ z : Int, (n : Int) = z := ⟨_, rfl⟩
 rw [hz] at hk0 b0 hlt HPN ⊢
 clear hL1 hL2 hn hk hz
 obtain ⟨w0, hw0⟩ : ∃ w0, w.alloc (.cells #[.int .i64 z, .string k] 72) = w0 := ⟨_, rfl⟩
 rw [hw0] at hk0 b0 hlt
 have HW0 := Hd hw0
 have HK0 := Hd hk0
 have HB0 := Hd b0
 clear hw0 hk0 b0
 go_enter Tryz.func87, Tryz.ntmps87
 go_wp2_with (rw [HW0.out])
 try rw [HW0.out]
 refine wp_region_guard (R := Kp) (V := VM w.heap.size w.heap.size z k l1 l2) (w0 := w0) GM (by kernel_rfl) (fun w => Keeps.refl _ w) (fun _ _ _ h k => h.trans k) (fun i w w' v h hv => VM_keep i w w' v h hv) (by kernel_rfl) GM_is (fun i o ho hw => (all_wanted (by kernel_rfl) ho hw).elim) ((Keeps.refl _ w0).drew) (each_of ?_) ?_
 ·refine ⟨?_, ?_, ?_, ?_, ?_, ?_, ?_, ?_, ?_, trivial⟩ <;> intro hw a1 w3 L
  ·exact kp_fM0 rfl (L.o 1)
  ·have hb := (L.rel.block w.heap.size trivial hlt).trans HB0.out
   exact kp_ldI ((cell_of_block hb 0).trans rfl) rfl (L.v 0 3)
  ·exact kp_oneN rfl (L.v 1 4)
  ·obtain ⟨B, e0, hr⟩ := (show OneC (.int .i64 z) w3 (a1.eval (.tmp 5)) from L.v 2 5)
   have hf : a1.eval (.func 79) = .func (.func 79) #[] #[] := rfl
   have hn : a1.eval (.const (.slice none 0 0)) = .slice none 0 0 := rfl
   refine kp_enter (f := 79) (args := #[.slice none 0 0, .slice (some ⟨B, 0, none⟩) 1 1]) ?_ (HPN.out w3 B (HK0.out.trans L.rel) hr) ?_
   ·clear L
    generalize a1.eval = ρ at e0 hf hn ⊢
    unfold execOp
    go_simp
   ·rintro e w' ⟨v, rfl, hk, hv⟩
    exact ⟨v, rfl, hk, hv⟩
  ·exact kp_fM1 rfl (L.o 1)
  ·have hb := (L.rel.block w.heap.size trivial hlt).trans HB0.out
   exact kp_ldT ((cell_of_block hb 1).trans rfl) rfl (L.v 4 7)
  ·exact kp_oneT rfl (L.v 5 8)
  ·obtain ⟨A, c, e0, hr⟩ := (show MadeC l1 w3 (a1.eval (.tmp 6)) from L.v 3 6)
   obtain ⟨B, e1, hr2⟩ := (show OneC (.string k) w3 (a1.eval (.tmp 9)) from L.v 6 9)
   have hf : a1.eval (.func 104) = .func (.func 104) #[] #[] := rfl
   refine kp_enter (f := 104) (args := #[.slice A l1.length c, .slice (some ⟨B, 0, none⟩) 1 1]) ?_ (HPT.out w3 A c B (HK0.out.trans L.rel) hr hr2) ?_
   ·clear L
    generalize a1.eval = ρ at e0 e1 hf ⊢
    unfold execOp
    go_simp
   ·rintro e w' ⟨v, rfl, hk, hv⟩
    exact ⟨v, rfl, hk, hv⟩
  ·have h10 : OwnB w3 w.heap.size (a1.eval (.tmp 10)) l2 := L.v 7 10
   exact kp_asJ rfl h10
 ·intro vs w4 hk4 hlen4 hv
  match vs, hlen4 with
  | [v0, v1, v2, v3, v4, v5, v6, v7, v8], _ =>
   have hv4 : OwnB w4 w.heap.size v8 l2 := hv 8 2 (by kernel_rfl)
   have HV := Hd hv4
   have HK4 := Hd (HK0.out.trans hk4)
   clear hv hv4 hk4
   simp only [putAll, List.map, Act.put, List.setIfInBounds_toArray, List.set_cons_succ, List.set_cons_zero, Exit.then]
   go_wp2_with fail
   go_ret
   exact ⟨_, rfl, HV.out, HK4.out⟩
theorem res2u (w W : World) (hb : W.heap[w.heap.size]? = some (.cells #[.int .i64 0, .string ⟨#[]⟩] 72 (0, 0))) : W.frozen? ⟨w.heap.size, 0, none⟩ = false ∧ W.frozen? ⟨w.heap.size, 1, none⟩ = false ∧
  W.cell? ⟨w.heap.size, 0, none⟩ = some (.int .i64 0) ∧ W.cell? ⟨w.heap.size, 1, none⟩ = some (.string ⟨#[]⟩) :=
 ⟨unfrozen_of_block hb 0, unfrozen_of_block hb 1, (cell_of_block hb 0).trans rfl, (cell_of_block hb 1).trans rfl⟩
theorem res2 (w W : World) (hb : W.heap[w.heap.size]? = some (.cells #[.int .i64 0, .string ⟨#[]⟩] 72 (0, 0))) (hk : Kp w W) : RowKit.Hid (∀ v0 v1,
  ((W.setCell ⟨w.heap.size, 0, none⟩ v0).setCell ⟨w.heap.size, 1, none⟩ v1).cell? ⟨w.heap.size, 0, none⟩ = some v0 ∧
  ((W.setCell ⟨w.heap.size, 0, none⟩ v0).setCell ⟨w.heap.size, 1, none⟩ v1).cell? ⟨w.heap.size, 1, none⟩ = some v1 ∧
  Kp w ((W.setCell ⟨w.heap.size, 0, none⟩ v0).setCell ⟨w.heap.size, 1, none⟩ v1)) := Hd fun v0 v1 => by
 have h1 := block_setCell (block_setCell hb (i := 0) v0) (i := 1) v1
 exact ⟨(cell_of_block h1 0).trans rfl, (cell_of_block h1 1).trans rfl, (hk.setCell (.inl (Nat.le_refl _)) _).setCell (.inl (Nat.le_refl _)) _⟩
theorem jdecode (w : World) (A : Option Addr) (m c n : Nat) (k : ByteArray) (hr : Row w A (fun _ => True) (bcells (markB n k))) (hm : m = (markB n k).length) (hmc : m ≤ c) (hcm : c ≤ maxLen) (h1 : 1 ≤ n) (hn : n ≤ 40000) (hk : keyOk k) :
  Calls Tryz.prog 92 #[.slice A m c] w fun e w' => e = .returned (.tuple #[.agg #[.int .i64 (n : Int), .string k], .bool true]) ∧ Kp w w' := by
 have hln := markB_len hn hk
 have hkl : k.data.toList.length = k.size := by simp
 have hk1 := hk.1
 have hk2 := hk.2
 obtain ⟨b, o, rfl, -, -⟩ := hr.at_ (k := 0) (by rw [bcells_len]; omega)
 obtain ⟨w0, hw0⟩ : ∃ w0, w.alloc (.cells #[.int .i64 0, .string ⟨#[]⟩] 72) = w0 := ⟨_, rfl⟩
 have HW0 := Hd hw0
 have hb0 : w0.heap[w.heap.size]? = some (.cells #[.int .i64 0, .string ⟨#[]⟩] 72 (0, 0)) := by rw [← hw0]; exact heap_alloc_new w _
 have hk0 : Kp w w0 := by rw [← hw0]; exact (Keeps.refl _ w).alloc _
 have hr0 := hr.keep hk0
 obtain ⟨i, hi⟩ : ∃ i, (putZ (n : Int)).length = i := ⟨_, rfl⟩
 have hi1 : 0 < i := by rw [← hi]; exact vin_pos _
 have hpt : (putT k.data.toList).length + i = m := by rw [hm, ← hi]; unfold markB; rw [List.length_append]; omega
 have hG := getZ_put (n : Int) (putT k.data.toList) (by omega) (by omega)
 rw [hi] at hG
 have hT := getT_put k.data.toList [] (by omega)
 rw [List.append_nil] at hT
 have hdr : (markB n k).drop i = putT k.data.toList := by unfold markB; rw [← hi, List.drop_left]
 have hpos : 0 < (putT k.data.toList).length := by unfold putT; rw [List.length_append]; have := vin_pos (zig (k.data.toList.length : Int)); unfold putZ; omega
 have HG := Hd (show Calls Tryz.prog 125 #[.slice (some ⟨b, o, none⟩) m c] w0 fun e w' => e = .returned (.tuple #[.int .i64 (n : Int), .int .i64 (i : Int), .int .i64 0]) ∧ w0 = w' from by
  rw [hm]
  exact get_is _ c _ (markB n k) w0 hr0 (by omega) (n : Int) i 0 hG)
 obtain ⟨j, hmi⟩ : ∃ j, m - i = j := ⟨_, rfl⟩
 have HT := Hd (show Calls Tryz.prog 126 #[.slice (some ⟨b, o + i, none⟩) (m - i) (c - i)] w0 fun e w' => e = .returned (.tuple #[.string k, .int .i64 ((j : Nat) : Int), .int .i64 0]) ∧ w0 = w' from by
  have hr1 := hr0.cut (k := i) (cap := c) (by rw [bcells_len]; omega) (by rw [bcells_len]; omega)
  rw [if_neg (by omega), bcells, ← List.map_drop, hdr] at hr1
  simp only [Option.map_some, WideShapes.add_plain] at hr1
  have h := get_text _ (c - i) _ (putT k.data.toList) w0 hr1 (by omega) (by omega) (by omega)
  rw [hT, show (putT k.data.toList).length = m - i by omega] at h
  simp only [txt_data, hmi] at h
  rw [← hmi] at h ⊢
  exact h)
 have HMY := Hd (jmay_any w0 k true ⟨fun _ => hk, fun _ => rfl⟩ (by omega))
 have HRES := res2 w w0 hb0 hk0
 obtain ⟨f0, f1, r0, r1⟩ := res2u w w0 hb0
 obtain ⟨d0, d1, HK⟩ := HRES.out (.int .i64 (n : Int)) (.string k)
 have HKK := Hd HK
 have t1 : decide ((n : Int) < 1) = false := by simp; omega
 have t2 : decide ((1099511627776 : Int) < (n : Int)) = false := by simp; omega
 have t3 : ((i : Int) + ((j : Nat) : Int) != (m : Int)) = false := by simp; omega
 have hile : i ≤ m := by omega
 have hic : ¬ c = i := by omega
 have hib : i ≤ 100 := by omega
 have hjb : j ≤ 100 := by omega
 clear hmi HK HRES hpos hdr hT hG hpt hi hr hr0 hm hw0 hb0 hk0 hkl hk1 hk2 hln hi1
 unfold maxLen at hcm
 go_enter Tryz.func92, Tryz.ntmps92
 go_wp2_with (rw [HW0.out])
 try rw [HW0.out]
 refine (show Calls _ _ _ _ _ from HG.out).mono ?_
 rintro e w1 ⟨rfl, rfl⟩
 go_wp2_with fail
 refine (show Calls _ _ _ _ _ from HT.out).mono ?_
 rintro e w1 ⟨rfl, rfl⟩
 go_wp2_with fail
 refine (show Calls _ _ _ _ _ from HMY.out).mono ?_
 rintro e w1 ⟨rfl, rfl⟩
 go_wp2_with fail
 exact bodyPost_ret (v := .tuple #[.agg #[.int .i64 (n : Int), .string k], .bool true]) (by simp [results, Tryz.results92, go_sem, d0, d1]) rfl ⟨rfl, HKK.out⟩
end Go.Proofs.YticophaepapjoaaGreatDoor
