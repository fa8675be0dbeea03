/-
  IxAdd, IxEmpty, IxFrom, IxLay, IxFit, IxRep: texts of mine, joined.
-/
import Derived.Test.YticophaepapjoaaGreatDoorAllA23
import Derived.Test.YticophaepapjoaaGreatDoorAllA01
import Derived.Laws.OwnMore
import Derived.Test.YticophaepapjoaaGreatDoorAllA22
import Derived.Test.YticophaepapjoaaGreatDoorAllA00
namespace Go.Proofs.YticophaepapjoaaGreatDoor
open Go Go.RowKit Go.Joins
def Off (q g : Nat) : Nat → Prop := fun b => b ≠ q ∧ b ≠ g
def put4 (w : World) (g i : Nat) (s : Sl) : World := (((w.setCell ⟨g, i * 4, none⟩ (.string s.key)).setCell ⟨g, i * 4 + 1, none⟩ (.int .u64 s.hash)).setCell ⟨g, i * 4 + 2, none⟩ (.int .i64 s.pos)).setCell ⟨g, i * 4 + 3, none⟩ (.bool s.full)
section
variable {w w' W : World} {q g n c i : Nat} {T : Tab}
theorem put4_keeps (w : World) (g i : Nat) (s : Sl) {G : Nat → Prop} (hk : Keeps G W w) (hg : W.heap.size ≤ g ∨ ¬ G g) : Keeps G W (put4 w g i s) :=
 (((hk.setCell (p := ⟨g, i * 4, none⟩) hg _).setCell (p := ⟨g, i * 4 + 1, none⟩) hg _).setCell (p := ⟨g, i * 4 + 2, none⟩) hg _).setCell (p := ⟨g, i * 4 + 3, none⟩) hg _
theorem IxAt.put4 (h : IxAt w q g n c T) (hi : i < n) (s : Sl) : IxAt (put4 w g i s) q g n c (setT T i s) :=
 ⟨h.blk.keep (put4_keeps w g i s (Keeps.refl (fun b => b ≠ g) w) (.inr fun e => e rfl)) (fun e => h.ne e.symm), h.tab.store hi s, h.ne⟩
theorem IxAt.count (h : IxAt w q g n c T) (c' : Nat) : IxAt (w.setCell ⟨q, 1, none⟩ (.int .i64 (c' : Int))) q g n c' T :=
 ⟨h.blk.set1 c', h.tab.keep ((Keeps.refl (fun b => b ≠ q) w).setCell (p := ⟨q, 1, none⟩) (.inr fun e => e rfl) _) h.ne, h.ne⟩
theorem IxAt.drew (h : IxAt w q g n c T) : IxAt w.drew q g n c T := h.keep (G := fun _ => True) ((Keeps.refl _ w).drew) trivial trivial
end
set_option maxRecDepth 100000 in
set_option maxHeartbeats 1000000 in
theorem add_any (w : World) (q g n c : Nat) (T : Tab) (st : IxSt) (hI : IxAt w q g n c T) (hT : TabOk hashN T n st) (hn : n ≤ 1099511627776) (hc : c ≤ 1099511627776) (k : ByteArray) (p : Int) (hno : ixGet st k = none) (hroom : st.length + 1 < n) :
  Calls Tryz.prog 140 #[.pointer (some ⟨q, 0, none⟩), .agg #[.string k, .int .u64 ((hashN k : Nat) : Int), .int .i64 p, .bool true]] w fun e w' => e = .returned (.tuple #[]) ∧ ∃ T', IxAt w' q g n (c + 1) T' ∧ TabOk hashN T' n (st ++ [(k, p)]) ∧ Keeps (Off q g) w w' := by
 obtain ⟨f, hf1, hf2⟩ := hT.free
 have h0 := hT.pos
 have hh := hashN_lt k
 have hq := hI.blk.lt
 have hg := hI.tab.lt
 have hne := hI.ne
 obtain ⟨w1, hw1⟩ : ∃ w1, w.alloc (.cells #[.string k, .int .u64 ((hashN k : Nat) : Int), .int .i64 p, .bool true] 126) = w1 := ⟨_, rfl⟩
 have HK1 := Lib.hid (show Keeps (Off q g) w w1 by rw [← hw1]; exact (Keeps.refl _ w).alloc _)
 have hI1 : IxAt w1 q g n c T := by rw [← hw1]; exact hI.keep (G := fun _ => True) ((Keeps.refl _ w).alloc _) trivial trivial
 have hb1 : w1.heap[w.heap.size]? = some (.cells #[.string k, .int .u64 ((hashN k : Nat) : Int), .int .i64 p, .bool true] 126 (0, 0)) := by rw [← hw1]; exact heap_alloc_new w _
 have HW1 := Lib.hid hw1
 have HT := Lib.hid hT
 have HS := Lib.hid (Seen.start (h := hashN) (T := T) h0 k)
 have HNO := Lib.hid hno
 have HI := Lib.hid hI1
 have hHome := Lib.hid (home_any w1 q g n c T hI1 h0 hn (hashN k) hh)
 have hBeh := Lib.hid (fun i hi => ixbehind_any w1 q g n c T hI1 i hi hn)
 have bc0 : w1.cell? ⟨w.heap.size, 0, none⟩ = some (.string k) := (cell_of_block hb1 0).trans rfl
 have bc1 : w1.cell? ⟨w.heap.size, 1, none⟩ = some (.int .u64 ((hashN k : Nat) : Int)) := (cell_of_block hb1 1).trans rfl
 have bc2 : w1.cell? ⟨w.heap.size, 2, none⟩ = some (.int .i64 p) := (cell_of_block hb1 2).trans rfl
 have bc3 : w1.cell? ⟨w.heap.size, 3, none⟩ = some (.bool true) := (cell_of_block hb1 3).trans rfl
 have bne : w.heap.size ≠ q ∧ w.heap.size ≠ g := by omega
 clear hI hT hno hw1 hb1 hI1
 generalize hX : hashN k = X at *
 have HX := Lib.hid hX
 clear hX
 go_enter Tryz.func140, Tryz.ntmps140
 go_wp2_with fail
 rw [HW1.out]
 refine (show Calls _ _ _ _ _ from hHome.out).mono ?_
 rintro e w2 ⟨rfl, rfl⟩
 clear hHome HW1
 generalize w.heap.size = b at *
 generalize X % n = i0 at HS ⊢
 have c0 := HI.out.blk.c0
 go_wp2_with fail
 go_loopw [4] (fun i wr => ∃ j d : Nat, j < n ∧ i = .int .i64 (j : Int) ∧ wr = w2 ∧ d < n ∧ Hid (j = nx n (hashN k % n) d ∧ ∀ e, e < d → (T (nx n (hashN k % n) e)).full = true)) (fun i _ => n - way n (hashN k % n) (intOf i).toNat)
 case atStart => exact ⟨i0, 0, HS.out.lt, rfl, rfl, h0, Lib.hid ⟨HS.out.at_, HS.out.full⟩⟩
 case round =>
  clear HS
  obtain ⟨j, d, hj, rfl, rfl, hd, HS⟩ := hrel
  have t3 := HI.out.tab.c3 hj
  cases hful : (T j).full with
  | false =>
   rw [hful] at t3
   have HA := Lib.hid (HT.out.add HS.out.2 hd HS.out.1 hful HNO.out p hroom)
   clear hful HS
   have c1 := HI.out.blk.c1
   have ff := fun i => HI.out.blk.f0 i
   have tf := HI.out.tab.ice
   have t0 := HI.out.tab.c0 hj
   have t1 := HI.out.tab.c1 hj
   have t2 := HI.out.tab.c2 hj
   go_wp2_with fail
   go_region
   go_wp2_with fail
   have hfin : IxAt (((put4 wr g j ⟨k, (X : Int), p, true⟩).setCell ⟨q, 1, none⟩ (.int .i64 ((c + 1 : Nat) : Int))).drew) q g n (c + 1) (setT T j ⟨k, (X : Int), p, true⟩) := ((HI.out.put4 hj _).count (c + 1)).drew
   have hkp : Keeps (Off q g) w (((put4 wr g j ⟨k, (X : Int), p, true⟩).setCell ⟨q, 1, none⟩ (.int .i64 ((c + 1 : Nat) : Int))).drew) := (((put4_keeps wr g j _ HK1.out (.inr fun e => e.2 rfl))).setCell (p := ⟨q, 1, none⟩) (.inr fun e => e.1 rfl) _).drew
   have ec : ((c + 1 : Nat) : Int) = (c : Int) + 1 := by omega
   have hA := HA.out
   rw [HX.out] at hA
   rw [ec] at hfin hkp
   go_end0
   exact ⟨rfl, _, hfin, hA, hkp⟩
  | true =>
   rw [hful] at t3
   have hd2 : d + 1 < n := by
    refine Classical.byContradiction fun hh => ?_
    have hm := Nat.mod_lt (hashN k) h0
    have hw := way_lt hm hf1
    have hx := nx_way hm hf1
    rcases Nat.lt_or_ge (way n (hashN k % n) f) d with h1 | h1
    ·have := HS.out.2 _ h1
     rw [hx, hf2] at this; cases this
    ·have e : way n (hashN k % n) f = d := by omega
     rw [e, ← HS.out.1] at hx
     rw [hx, hf2] at hful; cases hful
   have hm := Nat.mod_lt (hashN k) h0
   have HN := Lib.hid (show nx n j 1 = nx n (hashN k % n) (d + 1) ∧ ∀ e, e < d + 1 → (T (nx n (hashN k % n) e)).full = true from by
    refine ⟨by rw [HS.out.1, nx_one hm hd2], fun e he => ?_⟩
    rcases Nat.lt_or_ge e d with h1 | h1
    ·exact HS.out.2 e h1
    ·have : e = d := by omega
     rw [this, ← HS.out.1]; exact hful)
   have HW := Lib.hid (show n - way n (hashN k % n) (nx n j 1) < n - way n (hashN k % n) j from by
    have w1 : way n (hashN k % n) j = d := by rw [HS.out.1]; exact way_nx hm hd
    have w2 : way n (hashN k % n) (nx n j 1) = d + 1 := by rw [HN.out.1]; exact way_nx hm hd2
    omega)
   have hj2 : nx n j 1 < n := nx_lt hj (by omega)
   have hB := Lib.hid (hBeh.out j hj)
   clear hful hm HS
   generalize nx n j 1 = j2 at HN hj2 HW hB
   go_wp2_with fail
   refine (show Calls _ _ _ _ _ from hB.out).mono ?_
   rintro e w2 ⟨rfl, rfl⟩
   go_wp2_with fail
   go_roundw
   case rel => exact ⟨j2, d + 1, hj2, rfl, trivial, hd2, HN⟩
   case measure => simp only [intOf, Int.toNat_natCast]; exact HW.out
section
variable {w : World} {g n i : Nat} {T : Tab} {K : ByteArray} {Z P : Int} {b : Bool}
theorem TabAt.four (h : TabAt w g n T) (hi : i < n) (hs : T i = ⟨K, Z, P, b⟩) : w.cell? ⟨g, i * 4, none⟩ = some (.string K) ∧ w.cell? ⟨g, i * 4 + 1, none⟩ = some (.int .u64 Z) ∧ w.cell? ⟨g, i * 4 + 2, none⟩ = some (.int .i64 P) ∧ w.cell? ⟨g, i * 4 + 3, none⟩ = some (.bool b) := by
 have h0 := h.c0 hi
 have h1 := h.c1 hi
 have h2 := h.c2 hi
 have h3 := h.c3 hi
 rw [hs] at h0 h1 h2 h3
 exact ⟨h0, h1, h2, h3⟩
theorem sl_full (s : Sl) (h : s.full = true) : ∃ K Z P, s = ⟨K, Z, P, true⟩ := by
 cases s with
 | mk K Z P b => exact ⟨K, Z, P, by rw [show b = true from h]⟩
end
set_option maxRecDepth 100000 in
set_option maxHeartbeats 1000000 in
theorem empty_any (w : World) (q g n c : Nat) (T : Tab) (st : IxSt) (hI : IxAt w q g n (c + 1) T) (hT : TabOk hashN T n st) (hn : n ≤ 1099511627776) (hc : c ≤ 1099511627776) (i : Nat) (hi : i < n) (hf : (T i).full = true) :
  Calls Tryz.prog 138 #[.pointer (some ⟨q, 0, none⟩), .int .i64 (i : Int)] w fun e w' => e = .returned (.tuple #[]) ∧ ∃ T', IxAt w' q g n c T' ∧ TabOk hashN T' n (ixDrop st (T i).key) ∧ Keeps (Off q g) w w' := by
 obtain ⟨f, hf1, hf2⟩ := hT.free
 have h0 := hT.pos
 have HH := Lib.hid (Hole.start hT hi hf)
 have HI := Lib.hid hI
 have hB := Lib.hid (ixbehind_any w q g n _ T hI i hi hn)
 have hj2 : nx n i 1 < n := nx_lt hi (by omega)
 have HK := Lib.hid (Keeps.refl (Off q g) w)
 generalize ixDrop st (T i).key = st' at HH ⊢
 generalize nx n i 1 = k0 at HH hB hj2
 clear hI hT hf
 have ec : ((c + 1 : Nat) : Int) = (c : Int) + 1 := by omega
 go_enter Tryz.func138, Tryz.ntmps138
 go_wp2_with fail
 refine (show Calls _ _ _ _ _ from hB.out).mono ?_
 rintro e w1 ⟨rfl, hw1⟩
 have hw1 := hw1.symm
 subst hw1
 clear hB
 go_wp2_with fail
 go_loopw [1, 4] (fun a b wr => ∃ (i k : Nat) (T : Tab), i < n ∧ k < n ∧ a = .int .i64 (i : Int) ∧ b = .int .i64 (k : Int) ∧ (T f).full = false ∧ Hid (IxAt wr q g n (c + 1) T) ∧ Hid (Hole hashN T n i k st') ∧ Hid (Keeps (Off q g) w wr)) (fun _ b _ => way n (intOf b).toNat f)
 case atStart => exact ⟨i, k0, T, hi, hj2, rfl, rfl, hf2, HI, HH, HK⟩
 case round =>
  clear HI HH HK hi hf2
  obtain ⟨i, k, T, hi, hk, rfl, rfl, hf2, HI, HH, HK⟩ := hrel
  have c0 := HI.out.blk.c0
  cases hful : (T k).full with
  | false =>
   have t3 := HI.out.tab.c3 hk
   rw [hful] at t3
   have HD := Lib.hid (HH.out.done hful)
   have s0 := HI.out.tab.c0 hi
   have s1 := HI.out.tab.c1 hi
   have s2 := HI.out.tab.c2 hi
   have s3 := HI.out.tab.c3 hi
   have c1 := HI.out.blk.c1
   have ff := fun i => HI.out.blk.f0 i
   have tf := HI.out.tab.ice
   rw [ec] at c1
   have hne := HI.out.ne
   clear hful hf2
   go_wp2_with fail
   have hfin : IxAt ((put4 wr g i Sl.zero).setCell ⟨q, 1, none⟩ (.int .i64 (c : Int))) q g n c (setT T i Sl.zero) := (HI.out.put4 hi _).count c
   have hkp : Keeps (Off q g) w ((put4 wr g i Sl.zero).setCell ⟨q, 1, none⟩ (.int .i64 (c : Int))) := ((put4_keeps wr g i _ HK.out (.inr fun e => e.2 rfl))).setCell (p := ⟨q, 1, none⟩) (.inr fun e => e.1 rfl) _
   go_end0
   exact ⟨rfl, _, hfin, HD.out, hkp⟩
  | true =>
   obtain ⟨K, Z, P, hs⟩ := sl_full _ hful
   obtain ⟨t0, t1, t2, t3⟩ := HI.out.tab.four hk hs
   have hz := HH.out.hash k hk hful
   rw [hs] at hz
   have hz : Z = (hashN K : Int) := hz
   subst hz
   have hHm := Lib.hid (home_any wr q g n _ T HI.out h0 hn (hashN K) (hashN_lt K))
   have hm := Nat.mod_lt (hashN K) h0
   have hST := fun h => Lib.hid (HH.out.stay hf1 hf2 hful h)
   have hMV := fun h => Lib.hid (HH.out.move hf1 hf2 hful h)
   rw [hs] at hST hMV
   have hb := Lib.hid (ixbehind_any wr q g n _ T HI.out k hk hn)
   have hj2 : nx n k 1 < n := nx_lt hk (by omega)
   have hkf : k ≠ f := fun e => by rw [e, hf2] at hful; cases hful
   have HW := Lib.hid (show way n (nx n k 1) f < way n k f from by
    have := way_c n k f
    have := nx_c n k 1
    have := way_c n (nx n k 1) f
    omega)
   have hW1 := way_any wr q g n _ T HI.out (hashN K % n) k hm hk hn
   have hff2 : (setT T i ⟨K, (hashN K : Int), P, true⟩ f).full = false := by
    have : f ≠ i := fun e => by have := HH.out.stale; rw [← e, hf2] at this; cases this
    rw [setT_ne _ _ this]; exact hf2
   have HIK := Lib.hid (fun w' (h : Kp wr w') => HI.out.keep h trivial trivial)
   have HKK := Lib.hid (fun w' (h : Kp wr w') => HK.out.trans (h.mono fun _ _ _ => trivial))
   have HS := Lib.hid hs
   clear hful hs HH HK
   generalize hashN K % n = m at hHm hm hST hMV hW1
   have HW1 := Lib.hid hW1
   clear hW1
   go_wp2_with fail
   refine (show Calls _ _ _ _ _ from hHm.out).mono ?_
   rintro e w1 ⟨rfl, hw1⟩
   have hw1 := hw1.symm
   subst hw1
   clear hHm
   go_wp2_with fail
   refine (show Calls _ _ _ _ _ from HW1.out).mono ?_
   rintro e w2 ⟨rfl, hk2⟩
   have HI2 := Lib.hid (HIK.out w2 hk2)
   have HW2 := Lib.hid (way_any w2 q g n _ T HI2.out i k hi hk hn)
   have HK2 := Lib.hid hk2
   clear hk2 HW1 HI
   go_wp2_with fail
   refine (show Calls _ _ _ _ _ from HW2.out).mono ?_
   rintro e w3 ⟨rfl, hk3⟩
   have HI3 := Lib.hid (HIK.out w3 (HK2.out.trans hk3))
   have HK3 := Lib.hid (HKK.out w3 (HK2.out.trans hk3))
   have HB3 := Lib.hid (ixbehind_any w3 q g n _ T HI3.out k hk hn)
   clear hk3 HK2 HI2 HW2 HIK HKK hb
   generalize hk2 : nx n k 1 = k2 at *
   have HKE := Lib.hid hk2
   clear hk2
   by_cases hyes : way n i k ≤ way n m k
   ·have HM := Lib.hid (hMV hyes).out
    clear hST hMV
    have hd : decide ((way n i k : Int) ≤ (way n m k : Int)) = true := by rw [decide_eq_true_eq]; omega
    obtain ⟨s0, s1, s2, s3⟩ := (show _ ∧ _ ∧ _ ∧ _ from ⟨HI3.out.tab.c0 hi, HI3.out.tab.c1 hi, HI3.out.tab.c2 hi, HI3.out.tab.c3 hi⟩)
    obtain ⟨t0, t1, t2, t3⟩ := HI3.out.tab.four hk HS.out
    have cc0 := HI3.out.blk.c0
    have tf := HI3.out.tab.ice
    go_wp2_with fail
    go_region
    go_wp2_with fail
    have hfin : IxAt ((put4 w3 g i ⟨K, (hashN K : Int), P, true⟩).drew) q g n (c + 1) (setT T i ⟨K, (hashN K : Int), P, true⟩) := (HI3.out.put4 hi _).drew
    have hkp : Keeps (Off q g) w ((put4 w3 g i ⟨K, (hashN K : Int), P, true⟩).drew) := (put4_keeps w3 g i _ HK3.out (.inr fun e => e.2 rfl)).drew
    have hb4 := ixbehind_any _ q g n _ _ hfin k hk hn
    rw [HKE.out] at hb4
    refine (show Calls _ _ _ _ _ from hb4).mono ?_
    clear hb4
    rintro e w4 ⟨rfl, hw4⟩
    have hw4 := hw4.symm
    subst hw4
    go_wp2_with fail
    go_roundw
    case rel => exact ⟨k, k2, _, hk, hj2, rfl, rfl, hff2, Lib.hid hfin, Lib.hid HM.out, Lib.hid hkp⟩
    case measure => simp only [intOf, Int.toNat_natCast]; exact HW.out
   ·have HM := Lib.hid (hST (by omega)).out
    clear hST hMV
    have hd : decide ((way n i k : Int) ≤ (way n m k : Int)) = false := by rw [decide_eq_false_iff_not]; omega
    go_wp2_with fail
    refine (show Calls _ _ _ _ _ from HB3.out).mono ?_
    rintro e w4 ⟨rfl, hw4⟩
    have hw4 := hw4.symm
    subst hw4
    go_wp2_with fail
    go_roundw
    case rel => exact ⟨i, k2, T, hi, hj2, rfl, rfl, hf2, HI3, HM, HK3⟩
    case measure => simp only [intOf, Int.toNat_natCast]; exact HW.out
theorem slot_elem : Elem Tryz.prog 127 126 (.agg #[.string ⟨#[]⟩, .int .u64 0, .int .i64 0, .bool false]) 4 40 := ⟨Tryz.underlying127, by kernel_rfl, rfl, by decide⟩
def Sl.cells (s : Sl) : List Value := [.string s.key, .int .u64 s.hash, .int .i64 s.pos, .bool s.full]
def slC (l : List Sl) : List Value := l.flatMap Sl.cells
theorem slC_snoc (l : List Sl) (s : Sl) : slC (l ++ [s]) = slC l ++ s.cells := by simp [slC]
def fromL (T : Tab) (p : Int) (n : Nat) : List Sl := ((List.range n).map T).filter fun s => s.full && decide (p ≤ s.pos)
theorem fromL_succ (T : Tab) (p : Int) (n : Nat) : fromL T p (n + 1) = fromL T p n ++ (if (T n).full && decide (p ≤ (T n).pos) then [T n] else []) := by
 unfold fromL
 rw [List.range_succ, List.map_append, List.filter_append]
 congr 1
 simp only [List.map_cons, List.map_nil, List.filter_cons, List.filter_nil]
theorem fromL_len (T : Tab) (p : Int) (n : Nat) : (fromL T p n).length ≤ n := by
 unfold fromL
 refine Nat.le_trans (List.length_filter_le _ _) ?_
 simp
structure IxS (w : World) (q : Nat) (A : Option Addr) (n c : Nat) (T : Tab) : Prop where
 blk : IxBlk w q (.slice A n n) c
 tab : 0 < n → ∃ g, A = some ⟨g, 0, none⟩ ∧ TabAt w g n T ∧ g ≠ q
theorem IxS.keep {w w' : World} {q n c : Nat} {A : Option Addr} {T : Tab} (h : IxS w q A n c T) (hk : Keeps (fun _ => True) w w') : IxS w' q A n c T :=
 ⟨h.blk.keep hk trivial, fun h0 => by obtain ⟨g, e, h1, h2⟩ := h.tab h0; exact ⟨g, e, h1.keep hk trivial, h2⟩⟩
theorem IxAt.s {w : World} {q g n c : Nat} {T : Tab} (h : IxAt w q g n c T) : IxS w q (some ⟨g, 0, none⟩) n c T := ⟨h.blk, fun _ => ⟨g, rfl, h.tab, h.ne⟩⟩
theorem src_slot (W : World) (s : Sl) : Src Tryz.prog 4 127 (.slice (some ⟨W.heap.size, 0, none⟩) 1 1) 1 s.cells (W.alloc (.cells #[.string s.key, .int .u64 s.hash, .int .i64 s.pos, .bool s.full] 126)) :=
 Src.ofSlice _ Tryz.underlying127 ⟨W.heap.size, 0, none⟩ 1 1 s.cells rfl (fun j v hv => by
  rw [WideShapes.add_plain, Nat.zero_add]
  exact (cell_alloc_mark_at W _ _ _ W.heap.size j rfl).trans (by rw [← hv, ← Array.getElem?_toList]; rfl)) (fun v hv => by
  simp only [Sl.cells, List.mem_cons, List.not_mem_nil, or_false] at hv
  rcases hv with rfl | rfl | rfl | rfl <;> rfl)
set_option maxRecDepth 100000 in
set_option maxHeartbeats 1000000 in
theorem from_any (w : World) (q : Nat) (A : Option Addr) (n c : Nat) (T : Tab) (hI : IxS w q A n c T) (hn : n ≤ 1099511627776) (p : Int) :
  Calls Tryz.prog 90 #[.pointer (some ⟨q, 0, none⟩), .int .i64 p] w fun e w' => ∃ B k, e = .returned (.slice B (fromL T p n).length k) ∧ w'.ownsRow w.heap.size 126 4 (.slice B (fromL T p n).length k) (fromL T p n).length (slC (fromL T p n)) ∧ Kp w w' := by
 have HI := Lib.hid hI
 have c0 := hI.blk.c0
 clear hI
 go_enter Tryz.func90, Tryz.ntmps90
 go_wp2_with fail
 go_loopw [5, 13] (fun v i wr => ∃ (k : Nat) (B : Option Addr) (m cc : Nat), k ≤ n ∧ i = .int .i64 (k : Int) ∧ m ≤ k ∧ v = .slice B m cc ∧ Hid (m = (fromL T p k).length ∧ wr.ownsRow w.heap.size 126 4 v m (slC (fromL T p k)) ∧ Kp w wr)) (fun _ i _ => n - (intOf i).toNat)
 case atStart => exact ⟨0, none, 0, 0, Nat.zero_le _, rfl, Nat.le_refl _, rfl, Lib.hid ⟨rfl, World.ownsRow_nil _ _ _ _, Keeps.refl _ _⟩⟩
 case round =>
  obtain ⟨k, B, m, cc, hk, rfl, hmk, rfl, HR⟩ := hrel
  by_cases hl : k < n
  ·have hl' : (k : Int) < (n : Int) := by omega
   have HIr := Lib.hid (HI.out.keep HR.out.2.2)
   obtain ⟨g, rfl, hta, hgq⟩ := HIr.out.tab (by omega)
   have t0 := hta.c0 hl
   have t1 := hta.c1 hl
   have t2 := hta.c2 hl
   have t3 := hta.c3 hl
   have hs := fromL_succ T p k
   have hg := hta.lt
   clear hta c0
   generalize T k = s at t0 t1 t2 t3 hs
   obtain ⟨K, Z, P, b⟩ := s
   simp only at t0 t1 t2 t3 hs
   have HS := Lib.hid hs
   clear hs
   cases b
   ·go_wp2_with fail
    go_roundw
    case rel => exact ⟨k + 1, B, m, cc, hl, by go_num, by omega, rfl, Lib.hid (by
     have e : fromL T p (k + 1) = fromL T p k := by rw [HS.out]; simp
     rw [e]
     exact ⟨HR.out.1, HR.out.2.1.alloc _, HR.out.2.2.alloc _⟩)⟩
    case measure => simp [intOf]; omega
   ·by_cases hp : p ≤ P
    ·have hp' : decide (p ≤ P) = true := by simpa using hp
     have hsrc := src_slot (wr.alloc (.cells #[.string K, .int .u64 Z, .int .i64 P, .bool true] 126)) ⟨K, Z, P, true⟩
     rw [show (wr.alloc (.cells #[.string K, .int .u64 Z, .int .i64 P, .bool true] 126)).heap.size = wr.heap.size + 1 by simp] at hsrc
     have HSRC := Lib.hid hsrc
     have HOWN := Lib.hid HR.out.2.1
     clear hsrc
     go_wp2_with (at_builtin; refine slot_elem.list_append rfl (.tmp 25) (.tmp 27) _ rfl rfl ((HOWN.out.alloc _).alloc _) rfl HSRC.out ?c3 ?c4 ?c5 ?_)
     case c3 => unfold maxLen; omega
     case c4 => omega
     case c5 => have := HR.out.2.2.size; simp; omega
     intro v3 w3 ho3 hg3 hb3
     have hk3 : Kp w w3 := ((HR.out.2.2.alloc _).alloc _).grown hg3 fun j hj => (HOWN.out.lt j hj).1
     have HK3 := Lib.hid hk3
     have HE := Lib.hid (show fromL T p (k + 1) = fromL T p k ++ [⟨K, Z, P, true⟩] from by rw [HS.out]; simp [hp])
     have HO3 := Lib.hid (show w3.ownsRow w.heap.size 126 4 v3 (m + 1) (slC (fromL T p (k + 1))) from by rw [HE.out, slC_snoc]; exact ho3)
     obtain ⟨B3, c3, rfl, -, -⟩ := ho3.form (by omega)
     clear hk3 ho3 hg3 hb3 HSRC HOWN
     go_wp2_with fail
     go_roundw
     case rel => exact ⟨k + 1, some ⟨B3, 0, none⟩, m + 1, c3, hl, by go_num, by omega, rfl, Lib.hid ⟨by rw [HE.out, List.length_append, ← HR.out.1]; rfl, HO3.out, HK3.out⟩⟩
     case measure => simp [intOf]; omega
    ·have hp' : decide (p ≤ P) = false := by simpa using hp
     go_wp2_with fail
     go_roundw
     case rel => exact ⟨k + 1, B, m, cc, hl, by go_num, by omega, rfl, Lib.hid (by
      have e : fromL T p (k + 1) = fromL T p k := by rw [HS.out]; simp [hp]
      rw [e]
      exact ⟨HR.out.1, HR.out.2.1.alloc _, HR.out.2.2.alloc _⟩)⟩
     case measure => simp [intOf]; omega
  ·obtain rfl : n = k := by omega
   have hl' : ¬ (n : Int) < (n : Int) := by omega
   go_wp2_with fail
   go_ret
   obtain ⟨e, h1, h2⟩ := HR.out
   subst e
   exact ⟨B, cc, rfl, h1, h2⟩
def SlsAt (w : World) (B : Option Addr) (G : Nat → Prop) (l : List Sl) : Prop := ∀ k (h : k < l.length), ∃ b o, B = some ⟨b, o, none⟩ ∧ G b ∧ w.cell? ⟨b, o + k * 4, none⟩ = some (.string l[k].key) ∧
 w.cell? ⟨b, o + k * 4 + 1, none⟩ = some (.int .u64 l[k].hash) ∧ w.cell? ⟨b, o + k * 4 + 2, none⟩ = some (.int .i64 l[k].pos) ∧ w.cell? ⟨b, o + k * 4 + 3, none⟩ = some (.bool l[k].full)
theorem slC_at (l : List Sl) (j i : Nat) (hj : j < l.length) (hi : i < 4) : (slC l)[j * 4 + i]? = (l[j].cells)[i]? := by
 induction l generalizing j with
 | nil => simp at hj
 | cons r l ih =>
  have e : slC (r :: l) = r.cells ++ slC l := by simp [slC]
  rw [e]
  cases j with
  | zero =>
   rw [Nat.zero_mul, Nat.zero_add, List.getElem?_append_left (by show i < 4; exact hi)]
   rfl
  | succ j =>
   rw [List.getElem?_append_right (by show 4 ≤ _; omega), show (j + 1) * 4 + i - r.cells.length = j * 4 + i by show (j + 1) * 4 + i - 4 = _; omega, ih j (by simpa using hj)]
   rfl
section
variable {w w' : World} {B : Option Addr} {F G : Nat → Prop} {l : List Sl}
theorem SlsAt.keep (h : SlsAt w B F l) (hk : Keeps F w w') : SlsAt w' B F l := fun k hl => by
 obtain ⟨b, o, e, hF, c0, c1, c2, c3⟩ := h k hl
 exact ⟨b, o, e, hF, hk.cell c0 hF, hk.cell c1 hF, hk.cell c2 hF, hk.cell c3 hF⟩
theorem SlsAt.mono (h : SlsAt w B F l) (hF : ∀ b, b < w.heap.size → F b → G b) : SlsAt w B G l := fun k hl => by
 obtain ⟨b, o, e, hFb, c0, c1, c2, c3⟩ := h k hl
 exact ⟨b, o, e, hF b (World.block_lt_of_cell? w _ c0) hFb, c0, c1, c2, c3⟩
theorem SlsAt.of_own {base n c : Nat} {e : TypeId} (h : w.ownsRow base e 4 (.slice B n c) n (slC l)) (hn : n = l.length) : SlsAt w B (fun b => base ≤ b ∧ b < w.heap.size) l := by
 intro k hk
 obtain ⟨g, cap, e, hb, -⟩ := h.form (by omega)
 injection e with e1 e2 e3
 subst e1
 have hc := h.cells (g := g) rfl
 have cell : ∀ i v, i < 4 → (l[k].cells)[i]? = some v → w.cell? ⟨g, 0 + k * 4 + i, none⟩ = some v := fun i v hi hv => by
  have := hc (k * 4 + i) v (by rw [slC_at l k i hk hi]; exact hv)
  rw [WideShapes.add_plain] at this
  rw [Nat.add_assoc]; exact this
 exact ⟨g, 0, rfl, h.lt g rfl, by simpa using cell 0 _ (by decide) rfl, cell 1 _ (by decide) rfl, cell 2 _ (by decide) rfl, cell 3 _ (by decide) rfl⟩
end
def tabC (T : Tab) (n : Nat) : List Value := (List.range (n * 4)).map (tabV T)
theorem TabAt.of_own {w : World} {base n g : Nat} {e : TypeId} {T : Tab} (h : w.ownsRow base e 4 (.slice (some ⟨g, 0, none⟩) n n) n (tabC T n)) (_hn : 0 < n) : TabAt w g n T ∧ base ≤ g := by
 have hc := h.cells (g := g) rfl
 have hb := h.lt g rfl
 refine ⟨⟨fun m hm => ?_, fun m => h.frozenAt m, hb.2⟩, hb.1⟩
 have := hc m (tabV T m) (by unfold tabC; rw [List.getElem?_map, List.getElem?_range (by omega)]; rfl)
 rw [WideShapes.add_plain, Nat.zero_add] at this
 exact this
theorem made_tab (n : Nat) : (madeCells (Value.agg #[.string ⟨#[]⟩, .int .u64 0, .int .i64 0, .bool false]).cells (n * 4)).toList = tabC (fun _ => Sl.zero) n := by
 unfold madeCells tabC
 rw [Array.toList_map, Array.toList_range]
 refine List.map_congr_left fun i _ => ?_
 have hz : (Value.agg #[.string ⟨#[]⟩, .int .u64 0, .int .i64 0, .bool false]).cells = #[.string ⟨#[]⟩, .int .u64 0, .int .i64 0, .bool false] := rfl
 rw [hz]
 have e : (#[.string ⟨#[]⟩, .int .u64 0, .int .i64 0, .bool false] : Array Value).size = 4 := rfl
 rw [e]
 unfold tabV
 have h4 : i % 4 = 0 ∨ i % 4 = 1 ∨ i % 4 = 2 ∨ i % 4 = 3 := by omega
 rcases h4 with h | h | h | h <;> rw [h] <;> rfl
def kv (s : Sl) : ByteArray × Int := (s.key, s.pos)
theorem tab_zero (n : Nat) (h : 0 < n) : TabOk hashN (fun _ => Sl.zero) n [] := by
 have e : ents (fun _ => Sl.zero) n = [] := by
  unfold ents
  rw [List.flatMap_eq_nil_iff]
  intro i _
  rfl
 exact ⟨by rw [e], by simp, fun i _ hf => absurd (show false = true from hf) (by decide), fun i _ hf => absurd (show false = true from hf) (by decide), h⟩
theorem kv_take (l : List Sl) (j : Nat) (hj : j < l.length) : (l.take (j + 1)).map kv = (l.take j).map kv ++ [(l[j].key, l[j].pos)] := by
 rw [List.take_succ_eq_append_getElem hj, List.map_append]; rfl
theorem kv_none {l : List Sl} (hnd : ((l.map kv).map (·.1)).Nodup) {j : Nat} (hj : j < l.length) : ixGet ((l.take j).map kv) l[j].key = none := by
 rw [ixGet_none]
 intro x hx e
 obtain ⟨s, hs, rfl⟩ := List.mem_map.1 hx
 obtain ⟨i, hi, rfl⟩ := List.getElem_of_mem hs
 rw [List.length_take] at hi
 rw [List.getElem_take] at e
 have e : (l[i]'(by omega)).key = l[j].key := e
 rw [List.map_map] at hnd
 have h2 := List.pairwise_iff_getElem.1 hnd i j (by rw [List.length_map]; omega) (by rw [List.length_map]; exact hj) (by omega)
 rw [List.getElem_map, List.getElem_map] at h2
 exact h2 e
set_option maxRecDepth 100000 in
set_option maxHeartbeats 1000000 in
theorem lay_any (w : World) (q : Nat) (V : Value) (c : Nat) (hI : IxBlk w q V c) (B : Option Addr) (k : Nat) (l : List Sl) (hl : SlsAt w B (fun b => b ≠ q) l) (hn : l.length ≤ 68719476736) (hok : ∀ s ∈ l, s.full = true ∧ s.hash = (hashN s.key : Int)) (hnd : ((l.map kv).map (·.1)).Nodup) :
  Calls Tryz.prog 109 #[.pointer (some ⟨q, 0, none⟩), .slice B l.length k] w fun e w' => e = .returned (.tuple #[]) ∧ ∃ (g n : Nat) (T : Tab), IxAt w' q g n l.length T ∧ TabOk hashN T n (l.map kv) ∧ 2 * (l.length + 1) ≤ n ∧ (n = 8 ∨ n < 4 * (l.length + 1)) ∧ w.heap.size ≤ g ∧ Keeps (fun b => b ≠ q) w w' := by
 have HI := Lib.hid hI
 have HL := Lib.hid hl
 have HOK := Lib.hid hok
 have HND := Lib.hid hnd
 obtain ⟨m, hm⟩ : ∃ m, l.length = m := ⟨_, rfl⟩
 have HM := Lib.hid hm
 rw [hm] at hn ⊢
 clear hI hl hok hnd hm
 go_enter Tryz.func109, Tryz.ntmps109
 go_wp2_with fail
 go_loopw [4] (fun i wr => ∃ n : Nat, i = .int .i64 (n : Int) ∧ 8 ≤ n ∧ (n = 8 ∨ n < 4 * (m + 1)) ∧ wr = w) (fun i _ => 4 * (m + 1) + 8 - (intOf i).toNat)
 case atStart => exact ⟨8, rfl, Nat.le_refl _, .inl rfl, rfl⟩
 case round =>
  obtain ⟨n, rfl, h8, hnn, rfl⟩ := hrel
  by_cases hlt : n < 2 * (m + 1)
  ·have hlt' : (n : Int) < 2 * ((m : Int) + 1) := by omega
   go_wp2_with fail
   go_roundw
   case rel => exact ⟨n * 2, by go_num, by omega, by omega, trivial⟩
   case measure => simp [intOf]; omega
  ·have hlt' : ¬ (n : Int) < 2 * ((m : Int) + 1) := by omega
   obtain ⟨W, rfl⟩ : ∃ W, W = wr := ⟨wr, rfl⟩
   have c0 := HI.out.c0
   have c1 := HI.out.c1
   have ff := HI.out.f0
   go_wp2_with (refine list_make rfl (.tmp 16) (.tmp 16) 127 rfl slot_elem .i64 .i64 n rfl rfl (by omega) (by unfold maxLen; omega) (tabC (fun _ => Sl.zero) n) (made_tab n) ?_)
   intro w1 hown hg
   have hn0 : 0 < n := by omega
   obtain ⟨hta, -⟩ := TabAt.of_own hown hn0
   have hk1 : Kp W w1 := Keeps.of_grown hg fun _ h => by cases h
   have HI1 := Lib.hid (HI.out.keep hk1 trivial)
   have HTA := Lib.hid hta
   have HK1 := Lib.hid hk1
   have hq := HI.out.lt
   have hsz : W.heap.size < w1.heap.size := hta.lt
   have hq1 : q < w1.heap.size := by omega
   have d0 := HI1.out.c0
   have d1 := HI1.out.c1
   have f1 := HI1.out.f0
   clear hta hk1 hown hg c0 c1 ff
   go_wp2_with fail
   have hfin : IxAt ((w1.setCell ⟨q, 0, none⟩ (.slice (some ⟨W.heap.size, 0, none⟩) n n)).setCell ⟨q, 1, none⟩ (.int .i64 0)) q W.heap.size n 0 (fun _ => Sl.zero) :=
    ⟨(HI1.out.set0 _).set1 0, HTA.out.keep (((Keeps.refl (fun b => b ≠ q) w1).setCell (p := ⟨q, 0, none⟩) (.inr fun e => e rfl) _).setCell (p := ⟨q, 1, none⟩) (.inr fun e => e rfl) _) (by omega), by omega⟩
   have hkp : Keeps (fun b => b ≠ q) W ((w1.setCell ⟨q, 0, none⟩ (.slice (some ⟨W.heap.size, 0, none⟩) n n)).setCell ⟨q, 1, none⟩ (.int .i64 0)) :=
    (((HK1.out.mono fun _ _ _ => trivial).setCell (p := ⟨q, 0, none⟩) (.inr fun e => e rfl) _).setCell (p := ⟨q, 1, none⟩) (.inr fun e => e rfl) _)
   have HF := Lib.hid hfin
   have HKP := Lib.hid hkp
   clear hfin hkp HI1 HTA HK1 d0 d1 f1
   generalize ((w1.setCell ⟨q, 0, none⟩ (.slice (some ⟨W.heap.size, 0, none⟩) n n)).setCell ⟨q, 1, none⟩ (.int .i64 0)) = w2 at HF HKP ⊢
   go_loopw [25] (fun i wr => ∃ (j : Nat) (T : Tab), j ≤ m ∧ i = .int .i64 (j : Int) ∧ Hid (IxAt wr q W.heap.size n j T) ∧ Hid (TabOk hashN T n ((l.take j).map kv)) ∧ Hid (Keeps (fun b => b ≠ q) W wr)) (fun i _ => m - (intOf i).toNat)
   case atStart => exact ⟨0, _, Nat.zero_le _, rfl, HF, Lib.hid (tab_zero n hn0), HKP⟩
   case round =>
    clear HF HKP
    obtain ⟨j, T, hj, rfl, HA, HT, HK⟩ := hrel
    by_cases hjm : j < m
    ·have hjm' : (j : Int) < (m : Int) := by omega
     have hjl : j < l.length := by rw [HM.out]; exact hjm
     have HS3 := Lib.hid ((HL.out.mono (G := fun b => b ≠ q) fun _ _ h => h).keep HK.out)
     obtain ⟨b, o, rfl, hbq, t0, t1, t2, t3⟩ := HS3.out j hjl
     obtain ⟨hs1, hs2⟩ := HOK.out _ (List.getElem_mem hjl)
     rw [hs1] at t3
     rw [hs2] at t1
     have HN := Lib.hid (kv_none HND.out hjl)
     have HTK := Lib.hid (kv_take l j hjl)
     generalize l[j].key = K at t0 t1 HN HTK
     generalize l[j].pos = P at t2 HTK
     have HADD := Lib.hid (fun (w4 : World) (h : Kp wr w4) => add_any w4 q W.heap.size n j T _ (HA.out.keep h trivial trivial) HT.out (by omega) (by omega) K P HN.out (by rw [List.length_map, List.length_take, HM.out]; omega))
     clear hs1 hs2
     go_wp2_with fail
     refine (show Calls _ _ _ _ _ from HADD.out _ ((Keeps.refl _ wr).alloc _)).mono ?_
     rintro e w5 ⟨rfl, T', hA5, hT5, hk5⟩
     have HT5 := Lib.hid (show TabOk hashN T' n ((l.take (j + 1)).map kv) from by rw [HTK.out]; exact hT5)
     have HK5 := Lib.hid (show Keeps (fun b => b ≠ q) W w5 from by
      refine ⟨hk5.os.trans HK.out.os, hk5.tape.trans HK.out.tape, hk5.output.trans HK.out.output, ?_, fun b hb hlt => ?_⟩
      ·have h1 := HK.out.size
       have h2 := hk5.size
       simp at h2
       omega
      ·have h1 := HK.out.size
       have hlt3 : b < wr.heap.size := Nat.lt_of_lt_of_le hlt h1
       refine (hk5.block b ⟨hb, by omega⟩ (by simp; omega)).trans ?_
       exact (Below.heap_alloc wr _ b hlt3).trans (HK.out.block b hb hlt))
     have HA5 := Lib.hid hA5
     clear hA5 hT5 hk5 HADD
     go_wp2_with fail
     go_roundw
     case rel => exact ⟨j + 1, T', hjm, by go_num, HA5, HT5, HK5⟩
     case measure => simp [intOf]; omega
    ·obtain rfl : m = j := by omega
     have hjm' : ¬ (m : Int) < (m : Int) := by omega
     go_wp2_with fail
     go_end0
     have e : l.take m = l := by rw [← HM.out]; exact List.take_length
     have h := HT.out
     rw [e] at h
     exact ⟨rfl, _, n, T, HA.out, h, by omega, hnn, Nat.le_refl _, HK.out⟩
theorem from_below (T : Tab) (p : Int) (n : Nat) : (fromL T p n).map kv = ixBelow (ents T n) p := by
 induction n with
 | zero => rfl
 | succ n ih =>
  rw [fromL_succ, List.map_append, ih, ents_succ]
  unfold ixBelow
  rw [List.filter_append]
  congr 1
  unfold ent
  cases (T n).full
  ·simp
  ·by_cases h : p ≤ (T n).pos <;> simp [h, kv]
theorem from_ok {T : Tab} {n : Nat} {st : IxSt} (H : TabOk hashN T n st) (p : Int) : (∀ s ∈ fromL T p n, s.full = true ∧ s.hash = (hashN s.key : Int)) ∧ (((fromL T p n).map kv).map (·.1)).Nodup ∧ ((fromL T p n).map kv).Perm (ixBelow st p) := by
 refine ⟨fun s hs => ?_, ?_, ?_⟩
 ·unfold fromL at hs
  obtain ⟨h1, h2⟩ := List.mem_filter.1 hs
  obtain ⟨i, hi, rfl⟩ := List.mem_map.1 h1
  rw [Bool.and_eq_true] at h2
  exact ⟨h2.1, H.hash i (List.mem_range.1 hi) h2.1⟩
 ·rw [from_below]; exact ixBelow_nodup H.nde
 ·rw [from_below]; exact ixBelow_perm H.perm
theorem below_all {st : IxSt} {p : Int} (h : ∀ x ∈ st, p ≤ x.2) : ixBelow st p = st := by
 unfold ixBelow
 rw [List.filter_eq_self]
 intro x hx
 exact decide_eq_true (h x hx)
theorem tab_nil {T : Tab} {p : Int} : fromL T p 0 = [] := rfl
set_option maxRecDepth 100000 in
set_option maxHeartbeats 1000000 in
theorem fit_any (w : World) (q : Nat) (A : Option Addr) (n c : Nat) (T : Tab) (st : IxSt) (hI : IxS w q A n c T) (hT : 0 < n → TabOk hashN T n st) (hz : n = 0 → st = []) (hc : c = st.length) (hi : ∀ x ∈ st, i64 x.2) (hn : n ≤ 1099511627776) (hcn : c ≤ 68719476736) :
  Calls Tryz.prog 139 #[.pointer (some ⟨q, 0, none⟩)] w fun e w' => e = .returned (.tuple #[]) ∧ ∃ (g n' : Nat) (T' : Tab), IxAt w' q g n' c T' ∧ TabOk hashN T' n' st ∧ c + 1 < n' ∧ n' ≤ 8 * (c + 1) ∧ (A = some ⟨g, 0, none⟩ ∨ w.heap.size ≤ g) ∧ Keeps (fun b => b ≠ q) w w' := by
 have HI := Lib.hid hI
 have c0 := hI.blk.c0
 have c1 := hI.blk.c1
 obtain ⟨a, ha⟩ : ∃ a, n / 4 = a := ⟨_, rfl⟩
 obtain ⟨b, hb⟩ : ∃ b, n / 8 = b := ⟨_, rfl⟩
 have qa : (n : Int) / 4 = (a : Int) := by omega
 have qb : (n : Int) / 8 = (b : Int) := by omega
 have qa' : (n : Int).tdiv 4 = (a : Int) := by rw [Int.tdiv_eq_ediv_of_nonneg (by omega)]; exact qa
 have qb' : (n : Int).tdiv 8 = (b : Int) := by rw [Int.tdiv_eq_ediv_of_nonneg (by omega)]; exact qb
 have HLAY := Lib.hid (show ∀ (w1 : World) (B : Option Addr) (k : Nat), Kp w w1 → w1.ownsRow w.heap.size 126 4 (.slice B (fromL T (-9223372036854775808) n).length k) (fromL T (-9223372036854775808) n).length (slC (fromL T (-9223372036854775808) n)) →
   Calls Tryz.prog 109 #[.pointer (some ⟨q, 0, none⟩), .slice B (fromL T (-9223372036854775808) n).length k] w1 fun e w' => e = .returned (.tuple #[]) ∧ ∃ (g n' : Nat) (T' : Tab), IxAt w' q g n' c T' ∧ TabOk hashN T' n' st ∧ c + 1 < n' ∧ n' ≤ 8 * (c + 1) ∧ (A = some ⟨g, 0, none⟩ ∨ w.heap.size ≤ g) ∧ Keeps (fun b => b ≠ q) w w' from fun w1 B k hk ho => by
  have hlen := fromL_len T (-9223372036854775808) n
  have hq := hI.blk.lt
  have hall : (∀ s ∈ fromL T (-9223372036854775808) n, s.full = true ∧ s.hash = (hashN s.key : Int)) ∧ (((fromL T (-9223372036854775808) n).map kv).map (·.1)).Nodup ∧ ((fromL T (-9223372036854775808) n).map kv).Perm st := by
   rcases Nat.eq_zero_or_pos n with h0 | h0
   ·subst h0
    rw [tab_nil, hz rfl]
    exact ⟨fun s hs => absurd hs (List.not_mem_nil), List.nodup_nil, List.Perm.refl _⟩
   ·have h := from_ok (hT h0) (-9223372036854775808)
    rwa [below_all fun x hx => (hi x hx).1] at h
  have hl : (fromL T (-9223372036854775808) n).length = c := by
   have := hall.2.2.length_eq
   rw [List.length_map] at this
   omega
  refine (lay_any w1 q _ c (hI.blk.keep hk trivial) B k _ ((SlsAt.of_own ho rfl).mono fun b _ hb => ?_) (by omega) hall.1 hall.2.1).mono ?_
  ·have := hb.1; omega
  ·rintro e w' ⟨rfl, g, n', T', h1, h2, h3, h4, h5, h6⟩
   rw [hl] at h1 h3 h4
   exact ⟨rfl, g, n', T', h1, h2.of_perm hall.2.2, by omega, by omega, .inr (Nat.le_trans hk.size h5), (hk.mono fun _ _ _ => trivial).trans h6⟩)
 have HFROM := Lib.hid (from_any w q A n c T hI hn (-9223372036854775808))
 have HOLD := Lib.hid (show ¬ a * 3 ≤ c → ¬ (8 < n ∧ c < b) → ∃ (g n' : Nat) (T' : Tab), IxAt w q g n' c T' ∧ TabOk hashN T' n' st ∧ c + 1 < n' ∧ n' ≤ 8 * (c + 1) ∧ (A = some ⟨g, 0, none⟩ ∨ w.heap.size ≤ g) ∧ Keeps (fun b => b ≠ q) w w from fun h1 h2 => by
  have h0 : 0 < n := by omega
  obtain ⟨g, e, htab, hne⟩ := hI.tab h0
  have hb := hI.blk
  rw [e] at hb
  exact ⟨g, n, T, ⟨hb, htab, hne⟩, hT h0, by omega, by omega, .inl e, Keeps.refl _ _⟩)
 clear hI hT hz hi hc
 have hcs : (decide ((a : Int) * 3 ≤ (c : Int)) = true) ∨ (decide ((a : Int) * 3 ≤ (c : Int)) = false ∧ decide ((8 : Int) < (n : Int)) = false) ∨ (decide ((a : Int) * 3 ≤ (c : Int)) = false ∧ decide ((8 : Int) < (n : Int)) = true ∧ decide ((c : Int) < (b : Int)) = false) ∨ (decide ((a : Int) * 3 ≤ (c : Int)) = false ∧ decide ((8 : Int) < (n : Int)) = true ∧ decide ((c : Int) < (b : Int)) = true) := by
  cases decide ((a : Int) * 3 ≤ (c : Int)) <;> cases decide ((8 : Int) < (n : Int)) <;> cases decide ((c : Int) < (b : Int)) <;> simp
 go_enter Tryz.func139, Tryz.ntmps139
 rcases hcs with e1 | ⟨e1, e2⟩ | ⟨e1, e2, e3⟩ | ⟨e1, e2, e3⟩
 ·go_wp2_with fail
  refine (show Calls _ _ _ _ _ from HFROM.out).mono ?_
  rintro e w1 ⟨B, k, rfl, ho, hk⟩
  have HL := Lib.hid (HLAY.out w1 B k hk ho)
  clear ho hk
  go_wp2_with fail
  refine (show Calls _ _ _ _ _ from HL.out).mono ?_
  rintro e w2 ⟨rfl, hfin⟩
  go_wp2_with fail
  go_end0
  exact ⟨rfl, hfin⟩
 ·have HO := Lib.hid (HOLD.out (by have := of_decide_eq_false e1; omega) (by have := of_decide_eq_false e2; omega))
  go_wp2_with fail
  go_end0
  exact ⟨rfl, HO.out⟩
 ·have HO := Lib.hid (HOLD.out (by have := of_decide_eq_false e1; omega) (by have := of_decide_eq_false e3; omega))
  have f3 : decide (c < b) = false := by rw [decide_eq_false_iff_not]; have := of_decide_eq_false e3; omega
  go_wp2_with fail
  go_end0
  exact ⟨rfl, HO.out⟩
 ·have f3 : decide (c < b) = true := by rw [decide_eq_true_eq]; have := of_decide_eq_true e3; omega
  go_wp2_with fail
  refine (show Calls _ _ _ _ _ from HFROM.out).mono ?_
  rintro e w1 ⟨B, k, rfl, ho, hk⟩
  have HL := Lib.hid (HLAY.out w1 B k hk ho)
  clear ho hk
  go_wp2_with fail
  refine (show Calls _ _ _ _ _ from HL.out).mono ?_
  rintro e w2 ⟨rfl, hfin⟩
  go_wp2_with fail
  go_end0
  exact ⟨rfl, hfin⟩
def ixFoot (q : Nat) (A : Option Addr) : Foot := ⟨fun b => b = q ∨ A = some ⟨b, 0, none⟩, fun _ => False⟩
structure IxRepAt (w : World) (q : Nat) (A : Option Addr) (n : Nat) (T : Tab) (st : IxSt) : Prop where
 s : IxS w q A n st.length T
 ok : 0 < n → TabOk hashN T n st
 zero : n = 0 → st = [] ∧ A = none
 i : ∀ x ∈ st, i64 x.2
 n : n ≤ 8 * (st.length + 1)
def IxRep (w : World) (q : Nat) (F : Foot) (st : IxSt) : Prop := ∃ A n T, F = ixFoot q A ∧ IxRepAt w q A n T st
section
variable {w w' : World} {q n c : Nat} {A : Option Addr} {T : Tab} {st : IxSt} {F : Foot}
theorem IxRepAt.g (h : IxRepAt w q A n T st) (hn : 0 < n) : ∃ g, A = some ⟨g, 0, none⟩ ∧ IxAt w q g n st.length T := by
 obtain ⟨g, rfl, h1, h2⟩ := h.s.tab hn
 exact ⟨g, rfl, h.s.blk, h1, h2⟩
theorem IxRepAt.nd (h : IxRepAt w q A n T st) : (st.map (·.1)).Nodup := by
 rcases Nat.eq_zero_or_pos n with h0 | h0
 ·rw [(h.zero h0).1]; exact List.nodup_nil
 ·exact (h.ok h0).nd
theorem IxRepAt.keep (h : IxRepAt w q A n T st) (hk : Keeps (ixFoot q A).all w w') : IxRepAt w' q A n T st := by
 refine ⟨⟨h.s.blk.keep hk (.inl (.inl rfl)), fun h0 => ?_⟩, h.ok, h.zero, h.i, h.n⟩
 obtain ⟨g, rfl, h1, h2⟩ := h.s.tab h0
 exact ⟨g, rfl, h1.keep hk (.inl (.inr rfl)), h2⟩
theorem IxRep.keep (h : IxRep w q F st) (hk : Keeps F.all w w') : IxRep w' q F st := by
 obtain ⟨A, n, T, rfl, h⟩ := h
 exact ⟨A, n, T, rfl, h.keep hk⟩
theorem IxRep.lt (h : IxRep w q F st) : ∀ b, F.all b → b < w.heap.size := by
 obtain ⟨A, n, T, rfl, h⟩ := h
 rintro b ((rfl | hb) | hb)
 ·exact h.s.blk.lt
 ·rcases Nat.eq_zero_or_pos n with h0 | h0
  ·rw [(h.zero h0).2] at hb; cases hb
  ·obtain ⟨g, e, h1⟩ := h.g h0
   rw [e] at hb
   injection hb with hb
   injection hb with hb
   rw [← hb]; exact h1.tab.lt
 ·exact hb.elim
theorem IxS.at_ (h : IxS w q A n c T) (hn : 0 < n) : ∃ g, A = some ⟨g, 0, none⟩ ∧ IxAt w q g n c T := by
 obtain ⟨g, rfl, h1, h2⟩ := h.tab hn
 exact ⟨g, rfl, h.blk, h1, h2⟩
end
set_option maxRecDepth 100000 in
set_option maxHeartbeats 1000000 in
theorem find_s (w : World) (q : Nat) (A : Option Addr) (n c : Nat) (T : Tab) (st : IxSt) (hI : IxS w q A n c T) (hT : 0 < n → TabOk hashN T n st) (hz : n = 0 → st = []) (hn : n ≤ 1099511627776) (k : ByteArray) :
  Calls Tryz.prog 68 #[.pointer (some ⟨q, 0, none⟩), .string k, .int .u64 ((hashN k : Nat) : Int)] w fun e w' => w' = w ∧
   ((∃ i, i < n ∧ (T i).full = true ∧ (T i).key = k ∧ e = .returned (.tuple #[.int .i64 (i : Int), .bool true])) ∨ (ixGet st k = none ∧ e = .returned (.tuple #[.int .i64 0, .bool false]))) := by
 rcases Nat.eq_zero_or_pos n with h0 | h0
 ·subst h0
  have c0 := hI.blk.c0
  have hst := hz rfl
  subst hst
  clear hI hT hz
  go_enter Tryz.func68, Tryz.ntmps68
  go_wp2_with fail
  go_ret2
  exact ⟨rfl, .inr ⟨rfl, rfl⟩⟩
 ·obtain ⟨g, rfl, hA⟩ := hI.at_ h0
  exact ixfind_any w q g n c T st hA (hT h0) hn k
set_option maxRecDepth 100000 in
set_option maxHeartbeats 1000000 in
theorem ixnew_any (w : World) : Calls Tryz.prog 99 #[] w fun e w' => ∃ (q : Nat) (F : Foot), e = .returned (.pointer (some ⟨q, 0, none⟩)) ∧ IxRep w' q F [] ∧ (∀ b, F.all b → w.heap.size ≤ b) ∧ Keeps (fun _ => True) w w' := by
 have hfin : IxRep (w.alloc (.cells #[.slice none 0 0, .int .i64 0] 129)) w.heap.size (ixFoot w.heap.size none) [] :=
  ⟨none, 0, fun _ => Sl.zero, rfl, ⟨heap_alloc_new w _, fun h => absurd h (by decide)⟩, fun h => absurd h (by decide), fun _ => ⟨rfl, rfl⟩, fun x hx => (by cases hx), by decide⟩
 have HF := Lib.hid hfin
 clear hfin
 go_enter Tryz.func99, Tryz.ntmps99
 go_wp2_with fail
 go_ret
 refine ⟨_, _, rfl, HF.out, fun b hb => ?_, (Keeps.refl _ w).alloc _⟩
 rcases hb with (rfl | hb) | hb
 ·exact Nat.le_refl _
 ·cases hb
 ·exact hb.elim
theorem get_val {w : World} {q n : Nat} {A : Option Addr} {T : Tab} {st : IxSt} {k : ByteArray} {i : Nat} (hR : IxRepAt w q A n T st) (hi : i < n) (hf : (T i).full = true) (hk : (T i).key = k) : ixGet st k = some (T i).pos :=
 (hR.ok (by omega)).hit hi hf hk
set_option maxRecDepth 100000 in
set_option maxHeartbeats 1000000 in
theorem ixget_any (w : World) (q : Nat) (F : Foot) (st : IxSt) (hR : IxRep w q F st) (hl : st.length ≤ 32768) (k : ByteArray) (hk : k.size ≤ 1000000) :
  Calls Tryz.prog 43 #[.pointer (some ⟨q, 0, none⟩), .string k] w fun e w' => e = .returned (.tuple #[.int .i64 ((ixGet st k).getD 0), .bool (ixGet st k).isSome]) ∧ Keeps (fun _ => True) w w' := by
 obtain ⟨A, n, T, rfl, hR⟩ := hR
 have hn := hR.n
 have hn1 : n ≤ 1099511627776 := by omega
 obtain ⟨w1, hw1⟩ : ∃ w1, w.alloc (.cells #[.string k] 9) = w1 := ⟨_, rfl⟩
 have hk1 : Kp w w1 := by rw [← hw1]; exact (Keeps.refl _ w).alloc _
 have hR1 := hR.keep (hk1.mono fun _ _ _ => trivial)
 have hc : w1.cell? ⟨w.heap.size, 0, none⟩ = some (.string k) := by rw [← hw1]; exact (cell_of_block (heap_alloc_new w _) 0).trans rfl
 have HH := Lib.hid (hash_any k w.heap.size w1 hk hc)
 have HF := Lib.hid (find_s w1 q A n st.length T st hR1.s hR1.ok (fun h => (hR1.zero h).1) hn1 k)
 have HR := Lib.hid hR1
 have HW1 := Lib.hid hw1
 have HK1 := Lib.hid hk1
 clear hR hw1 hk1 hR1 hc hn
 generalize hX : hashN k = X at HH HF
 clear hX
 go_enter Tryz.func43, Tryz.ntmps43
 go_wp2_with fail
 rw [HW1.out]
 refine (show Calls _ _ _ _ _ from HH.out).mono ?_
 rintro e w2 ⟨rfl, rfl⟩
 go_wp2_with fail
 refine (show Calls _ _ _ _ _ from HF.out).mono ?_
 rintro e w3 ⟨rfl, (⟨i, hi, hf, hkey, rfl⟩ | ⟨hno, rfl⟩)⟩
 ·obtain ⟨g, rfl, hA⟩ := HR.out.g (by omega)
  have c0 := hA.blk.c0
  have c2 := hA.tab.c2 hi
  have HV := Lib.hid (get_val HR.out hi hf hkey)
  clear hA hf hkey
  generalize (T i).pos = P at c2 HV
  go_wp2_with fail
  go_ret2
  rw [HV.out]
  exact ⟨rfl, HK1.out⟩
 ·have HV := Lib.hid hno
  clear hno
  go_wp2_with fail
  go_ret2
  rw [HV.out]
  exact ⟨rfl, HK1.out⟩
end Go.Proofs.YticophaepapjoaaGreatDoor
