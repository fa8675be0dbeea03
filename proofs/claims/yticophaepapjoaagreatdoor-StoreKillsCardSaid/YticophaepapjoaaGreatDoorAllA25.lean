/-
  StBlank, IxEmpty, IxFrom, JnLib: texts of mine, joined.
-/
import Derived.Test.YticophaepapjoaaGreatDoorAllA22
import Derived.Test.YticophaepapjoaaGreatDoorAllA24
import Derived.Test.YticophaepapjoaaGreatDoorAllA15
import Derived.Sort.Row
namespace Go.Proofs.YticophaepapjoaaGreatDoor
open Go Go.RowKit Go.Joins
structure SBl (rows rows' : List (List UInt8)) (a j : Nat) : Prop where
 len : rows'.length = rows.length
 yes : ∀ i, a ≤ i → i < j → rows'.getD i [] = blank
 no : ∀ i, (i < a ∨ j ≤ i) → rows'.getD i [] = rows.getD i []
theorem SBl.start (rows : List (List UInt8)) (a : Nat) : SBl rows rows a a := ⟨rfl, fun i h1 h2 => by omega, fun _ _ => rfl⟩
theorem SBl.next {rows rows' : List (List UInt8)} {a j : Nat} (h : SBl rows rows' a j) (ha : a ≤ j) (hj : j < rows.length) : SBl rows (rows'.set j blank) a (j + 1) := by
 refine ⟨by rw [List.length_set]; exact h.len, fun i h1 h2 => ?_, fun i hi => ?_⟩
 ·by_cases e : j = i
  ·subst e
   rw [List.getD_eq_getElem?_getD, List.getElem?_set_self (by rw [h.len]; exact hj)]; rfl
  ·rw [List.getD_eq_getElem?_getD, List.getElem?_set_ne e, ← List.getD_eq_getElem?_getD]
   exact h.yes i h1 (by omega)
 ·rw [List.getD_eq_getElem?_getD, List.getElem?_set_ne (by omega), ← List.getD_eq_getElem?_getD]
  exact h.no i (by omega)
def StMid (w2 : World) (p : Nat) (F : Foot) (s : SDev) (a j : Nat) (w : World) : Prop := ∃ (F' : Foot) (s' : SDev), DAt w p F' s' ∧ SBl s.now s'.now a j ∧ s'.calls + a = s.calls + j ∧ Step F F' w2 w
set_option maxHeartbeats 1000000 in
theorem sblank_any (w : World) (p : Nat) (F : Foot) (s : SDev) (h : DAt w p F s) (a b : Nat) (hab : a ≤ b) (hb : b ≤ s.now.length) (hcalls : s.calls ≤ 549755813888) (za zb : Int) (hza : za = (a : Int)) (hzb : zb = (b : Int)) :
  Calls Tryz.prog 37 #[.pointer (some ⟨p, 0, none⟩), .int .i64 za, .int .i64 zb] w fun e w' => e = .returned (.int .i64 0) ∧ ∃ (F' : Foot) (rows : List (List UInt8)) (c : Nat), DAt w' p F' (SDev.still rows c) ∧ SBl s.now rows a b ∧ c ≤ s.calls + 3000 ∧ Step F F' w w' := by
 subst hza hzb
 have hsm := h.ok.small
 have HD := Lib.hid h
 have HI := Lib.hid hb
 have hi1 : b ≤ 2048 := by omega
 clear h hb
 go_enter Tryz.func37, Tryz.ntmps37
 go_wp2_with (refine list_make rfl (.const (.int .i64 64)) (.const (.int .i64 64)) 64 rfl byte_elem .i64 .i64 64 rfl rfl (by decide) (by decide) (bcells blank) made64 ?_)
 intro w2 hown hg2
 have hk2 : Keeps (fun _ => True) w w2 := Keeps.of_grown hg2 (fun _ h => by cases h)
 have HR := Lib.hid (own_row hown)
 have HD2 := Lib.hid (HD.out.keep (hk2.mono fun _ _ _ => trivial))
 have hgF : ∀ b, b = w.heap.size → ¬ F.all b := fun b e hf => by have := HD.out.lt b hf; omega
 have hlt2 := (hown.lt _ rfl).2
 have HG := Lib.hid hgF
 have HL2 := Lib.hid hlt2
 have HK := Lib.hid hk2
 clear hown hg2 hk2 hgF hlt2
 go_wp2_with fail
 go_loopw [8] (fun i9 wr => ∃ k : Nat, a ≤ k ∧ k ≤ b ∧ i9 = .int .i64 k ∧ StMid w2 p F s a k wr) (fun i9 _ => b - (intOf i9).toNat)
 case atStart => exact ⟨a, Nat.le_refl _, hab, rfl, F, s, HD2.out, SBl.start _ _, rfl, Step.refl _ _⟩
 case round =>
  obtain ⟨k, hka, hk, rfl, F', s', hd, hn, hc, hst⟩ := hrel
  by_cases hlt : k < b
  ·have hlt' : (k : Int) < (b : Int) := by omega
   have hkl : k < s'.now.length := by rw [hn.len]; have := HI.out; omega
   have hw := dwrite_yes wr p F' s' hd k (some ⟨w.heap.size, 0, none⟩) 64 (fun b => b = w.heap.size) blank (HR.out.keep (hst.keeps.mono fun b _ e hm => HG.out b e (.inl hm))) (fun b e hf => by
     rcases hst.all b hf with h1 | h1
     ·exact HG.out b e h1
     ·have := HL2.out; subst e; omega) hkl (Nat.le_refl _) (by omega)
   rw [show blank.length = 64 from rfl] at hw
   have HW := Lib.hid hw
   have hn2 : SBl s.now (s'.write k blank).now a (k + 1) := by
    rw [write64_now s' k blank rfl (row64 hd _ hkl)]
    exact hn.next hka (by rw [← hn.len]; exact hkl)
   have HN := Lib.hid hn2
   have HC := Lib.hid hc
   have HS := Lib.hid hst
   clear hd hn hc hst hw hn2
   go_wp2_with fail
   refine (show Calls _ _ _ _ _ from HW.out).mono ?_
   rintro e w3 ⟨rfl, F3, hd3, hst3⟩
   have H3 := Lib.hid (show StMid w2 p F s a (k + 1) w3 from ⟨F3, _, hd3, HN.out, by show s'.calls + 1 + a = _; have := HC.out; omega, HS.out.trans hst3⟩)
   clear hd3 hst3 HW HN HC HS
   go_wp2_with fail
   go_roundw
   case rel => exact ⟨k + 1, by omega, by omega, by go_num, H3.out⟩
   case measure => simp [intOf]; omega
  ·obtain rfl : k = b := by omega
   have hf := dflush_any wr p F' s' hd (by omega)
   rw [flush_is] at hf
   have HF := Lib.hid hf
   have HS := Lib.hid hst
   have HN := Lib.hid hn
   have HC := Lib.hid (show s'.calls + 1 ≤ s.calls + 3000 by omega)
   clear hf hst hn hc hd
   go_wp2_with fail
   refine (show Calls _ _ _ _ _ from HF.out).mono ?_
   rintro e w3 ⟨rfl, F3, hd3, hst3⟩
   have H3 := Lib.hid (show ∃ (F' : Foot) (rows : List (List UInt8)) (c : Nat), DAt w3 p F' (SDev.still rows c) ∧ SBl s.now rows a k ∧ c ≤ s.calls + 3000 ∧ Step F F' w w3 from ⟨F3, _, _, hd3, HN.out, HC.out, by
    have h := HS.out.trans hst3
    have hk2 := HK.out
    exact ⟨(hk2.mono fun _ _ _ => trivial).trans h.keeps, fun b hb => (h.m b hb).imp id fun h1 => Nat.le_trans hk2.size h1, fun b hb => (h.i b hb).imp id fun h1 => Nat.le_trans hk2.size h1⟩⟩)
   clear hd3 hst3 HF HS HN HC
   go_wp2_with fail
   go_ret
   exact ⟨rfl, H3.out⟩
section
variable {w : World} {g n i : Nat} {T : Tab} {K : ByteArray} {Z P : Int} {b : Bool}
theorem TabAt.four (h : TabAt w g n T) (hi : i < n) (hs : T i = ⟨K, Z, P, b⟩) : w.cell? ⟨g, i * 4, none⟩ = some (.string K) ∧ w.cell? ⟨g, i * 4 + 1, none⟩ = some (.int .u64 Z) ∧ w.cell? ⟨g, i * 4 + 2, none⟩ = some (.int .i64 P) ∧ w.cell? ⟨g, i * 4 + 3, none⟩ = some (.bool b) := by
 have h0 := h.c0 hi
 have h1 := h.c1 hi
 have h2 := h.c2 hi
 have h3 := h.c3 hi
 rw [hs] at h0 h1 h2 h3
 exact ⟨h0, h1, h2, h3⟩
theorem sl_full (s : Sl) (h : s.full = true) : ∃ K Z P, s = ⟨K, Z, P, true⟩ := by
 cases s with
 | mk K Z P b => exact ⟨K, Z, P, by rw [show b = true from h]⟩
end
set_option maxRecDepth 100000 in
set_option maxHeartbeats 1000000 in
theorem empty_any (w : World) (q g n c : Nat) (T : Tab) (st : IxSt) (hI : IxAt w q g n (c + 1) T) (hT : TabOk hashN T n st) (hn : n ≤ 1099511627776) (hc : c ≤ 1099511627776) (i : Nat) (hi : i < n) (hf : (T i).full = true) :
  Calls Tryz.prog 138 #[.pointer (some ⟨q, 0, none⟩), .int .i64 (i : Int)] w fun e w' => e = .returned (.tuple #[]) ∧ ∃ T', IxAt w' q g n c T' ∧ TabOk hashN T' n (ixDrop st (T i).key) ∧ Keeps (Off q g) w w' := by
 obtain ⟨f, hf1, hf2⟩ := hT.free
 have h0 := hT.pos
 have HH := Lib.hid (Hole.start hT hi hf)
 have HI := Lib.hid hI
 have hB := Lib.hid (ixbehind_any w q g n _ T hI i hi hn)
 have hj2 : nx n i 1 < n := nx_lt hi (by omega)
 have HK := Lib.hid (Keeps.refl (Off q g) w)
 generalize ixDrop st (T i).key = st' at HH ⊢
 generalize nx n i 1 = k0 at HH hB hj2
 clear hI hT hf
 have ec : ((c + 1 : Nat) : Int) = (c : Int) + 1 := by omega
 go_enter Tryz.func138, Tryz.ntmps138
 go_wp2_with fail
 refine (show Calls _ _ _ _ _ from hB.out).mono ?_
 rintro e w1 ⟨rfl, hw1⟩
 have hw1 := hw1.symm
 subst hw1
 clear hB
 go_wp2_with fail
 go_loopw [1, 4] (fun a b wr => ∃ (i k : Nat) (T : Tab), i < n ∧ k < n ∧ a = .int .i64 (i : Int) ∧ b = .int .i64 (k : Int) ∧ (T f).full = false ∧ Hid (IxAt wr q g n (c + 1) T) ∧ Hid (Hole hashN T n i k st') ∧ Hid (Keeps (Off q g) w wr)) (fun _ b _ => way n (intOf b).toNat f)
 case atStart => exact ⟨i, k0, T, hi, hj2, rfl, rfl, hf2, HI, HH, HK⟩
 case round =>
  clear HI HH HK hi hf2
  obtain ⟨i, k, T, hi, hk, rfl, rfl, hf2, HI, HH, HK⟩ := hrel
  have c0 := HI.out.blk.c0
  cases hful : (T k).full with
  | false =>
   have t3 := HI.out.tab.c3 hk
   rw [hful] at t3
   have HD := Lib.hid (HH.out.done hful)
   have s0 := HI.out.tab.c0 hi
   have s1 := HI.out.tab.c1 hi
   have s2 := HI.out.tab.c2 hi
   have s3 := HI.out.tab.c3 hi
   have c1 := HI.out.blk.c1
   have ff := fun i => HI.out.blk.f0 i
   have tf := HI.out.tab.ice
   rw [ec] at c1
   have hne := HI.out.ne
   clear hful hf2
   go_wp2_with fail
   have hfin : IxAt ((put4 wr g i Sl.zero).setCell ⟨q, 1, none⟩ (.int .i64 (c : Int))) q g n c (setT T i Sl.zero) := (HI.out.put4 hi _).count c
   have hkp : Keeps (Off q g) w ((put4 wr g i Sl.zero).setCell ⟨q, 1, none⟩ (.int .i64 (c : Int))) := ((put4_keeps wr g i _ HK.out (.inr fun e => e.2 rfl))).setCell (p := ⟨q, 1, none⟩) (.inr fun e => e.1 rfl) _
   go_end0
   exact ⟨rfl, _, hfin, HD.out, hkp⟩
  | true =>
   obtain ⟨K, Z, P, hs⟩ := sl_full _ hful
   obtain ⟨t0, t1, t2, t3⟩ := HI.out.tab.four hk hs
   have hz := HH.out.hash k hk hful
   rw [hs] at hz
   have hz : Z = (hashN K : Int) := hz
   subst hz
   have hHm := Lib.hid (home_any wr q g n _ T HI.out h0 hn (hashN K) (hashN_lt K))
   have hm := Nat.mod_lt (hashN K) h0
   have hST := fun h => Lib.hid (HH.out.stay hf1 hf2 hful h)
   have hMV := fun h => Lib.hid (HH.out.move hf1 hf2 hful h)
   rw [hs] at hST hMV
   have hb := Lib.hid (ixbehind_any wr q g n _ T HI.out k hk hn)
   have hj2 : nx n k 1 < n := nx_lt hk (by omega)
   have hkf : k ≠ f := fun e => by rw [e, hf2] at hful; cases hful
   have HW := Lib.hid (show way n (nx n k 1) f < way n k f from by
    have := way_c n k f
    have := nx_c n k 1
    have := way_c n (nx n k 1) f
    omega)
   have hW1 := way_any wr q g n _ T HI.out (hashN K % n) k hm hk hn
   have hff2 : (setT T i ⟨K, (hashN K : Int), P, true⟩ f).full = false := by
    have : f ≠ i := fun e => by have := HH.out.stale; rw [← e, hf2] at this; cases this
    rw [setT_ne _ _ this]; exact hf2
   have HIK := Lib.hid (fun w' (h : Kp wr w') => HI.out.keep h trivial trivial)
   have HKK := Lib.hid (fun w' (h : Kp wr w') => HK.out.trans (h.mono fun _ _ _ => trivial))
   have HS := Lib.hid hs
   clear hful hs HH HK
   generalize hashN K % n = m at hHm hm hST hMV hW1
   have HW1 := Lib.hid hW1
   clear hW1
   go_wp2_with fail
   refine (show Calls _ _ _ _ _ from hHm.out).mono ?_
   rintro e w1 ⟨rfl, hw1⟩
   have hw1 := hw1.symm
   subst hw1
   clear hHm
   go_wp2_with fail
   refine (show Calls _ _ _ _ _ from HW1.out).mono ?_
   rintro e w2 ⟨rfl, hk2⟩
   have HI2 := Lib.hid (HIK.out w2 hk2)
   have HW2 := Lib.hid (way_any w2 q g n _ T HI2.out i k hi hk hn)
   have HK2 := Lib.hid hk2
   clear hk2 HW1 HI
   go_wp2_with fail
   refine (show Calls _ _ _ _ _ from HW2.out).mono ?_
   rintro e w3 ⟨rfl, hk3⟩
   have HI3 := Lib.hid (HIK.out w3 (HK2.out.trans hk3))
   have HK3 := Lib.hid (HKK.out w3 (HK2.out.trans hk3))
   have HB3 := Lib.hid (ixbehind_any w3 q g n _ T HI3.out k hk hn)
   clear hk3 HK2 HI2 HW2 HIK HKK hb
   generalize hk2 : nx n k 1 = k2 at *
   have HKE := Lib.hid hk2
   clear hk2
   by_cases hyes : way n i k ≤ way n m k
   ·have HM := Lib.hid (hMV hyes).out
    clear hST hMV
    have hd : decide ((way n i k : Int) ≤ (way n m k : Int)) = true := by rw [decide_eq_true_eq]; omega
    obtain ⟨s0, s1, s2, s3⟩ := (show _ ∧ _ ∧ _ ∧ _ from ⟨HI3.out.tab.c0 hi, HI3.out.tab.c1 hi, HI3.out.tab.c2 hi, HI3.out.tab.c3 hi⟩)
    obtain ⟨t0, t1, t2, t3⟩ := HI3.out.tab.four hk HS.out
    have cc0 := HI3.out.blk.c0
    have tf := HI3.out.tab.ice
    go_wp2_with fail
    go_region
    go_wp2_with fail
    have hfin : IxAt ((put4 w3 g i ⟨K, (hashN K : Int), P, true⟩).drew) q g n (c + 1) (setT T i ⟨K, (hashN K : Int), P, true⟩) := (HI3.out.put4 hi _).drew
    have hkp : Keeps (Off q g) w ((put4 w3 g i ⟨K, (hashN K : Int), P, true⟩).drew) := (put4_keeps w3 g i _ HK3.out (.inr fun e => e.2 rfl)).drew
    have hb4 := ixbehind_any _ q g n _ _ hfin k hk hn
    rw [HKE.out] at hb4
    refine (show Calls _ _ _ _ _ from hb4).mono ?_
    clear hb4
    rintro e w4 ⟨rfl, hw4⟩
    have hw4 := hw4.symm
    subst hw4
    go_wp2_with fail
    go_roundw
    case rel => exact ⟨k, k2, _, hk, hj2, rfl, rfl, hff2, Lib.hid hfin, Lib.hid HM.out, Lib.hid hkp⟩
    case measure => simp only [intOf, Int.toNat_natCast]; exact HW.out
   ·have HM := Lib.hid (hST (by omega)).out
    clear hST hMV
    have hd : decide ((way n i k : Int) ≤ (way n m k : Int)) = false := by rw [decide_eq_false_iff_not]; omega
    go_wp2_with fail
    refine (show Calls _ _ _ _ _ from HB3.out).mono ?_
    rintro e w4 ⟨rfl, hw4⟩
    have hw4 := hw4.symm
    subst hw4
    go_wp2_with fail
    go_roundw
    case rel => exact ⟨i, k2, T, hi, hj2, rfl, rfl, hf2, HI3, HM, HK3⟩
    case measure => simp only [intOf, Int.toNat_natCast]; exact HW.out
theorem slot_elem : Elem Tryz.prog 127 126 (.agg #[.string ⟨#[]⟩, .int .u64 0, .int .i64 0, .bool false]) 4 40 := ⟨Tryz.underlying127, by kernel_rfl, rfl, by decide⟩
def Sl.cells (s : Sl) : List Value := [.string s.key, .int .u64 s.hash, .int .i64 s.pos, .bool s.full]
def slC (l : List Sl) : List Value := l.flatMap Sl.cells
theorem slC_snoc (l : List Sl) (s : Sl) : slC (l ++ [s]) = slC l ++ s.cells := by simp [slC]
def fromL (T : Tab) (p : Int) (n : Nat) : List Sl := ((List.range n).map T).filter fun s => s.full && decide (p ≤ s.pos)
theorem fromL_succ (T : Tab) (p : Int) (n : Nat) : fromL T p (n + 1) = fromL T p n ++ (if (T n).full && decide (p ≤ (T n).pos) then [T n] else []) := by
 unfold fromL
 rw [List.range_succ, List.map_append, List.filter_append]
 congr 1
 simp only [List.map_cons, List.map_nil, List.filter_cons, List.filter_nil]
theorem fromL_len (T : Tab) (p : Int) (n : Nat) : (fromL T p n).length ≤ n := by
 unfold fromL
 refine Nat.le_trans (List.length_filter_le _ _) ?_
 simp
structure IxS (w : World) (q : Nat) (A : Option Addr) (n c : Nat) (T : Tab) : Prop where
 blk : IxBlk w q (.slice A n n) c
 tab : 0 < n → ∃ g, A = some ⟨g, 0, none⟩ ∧ TabAt w g n T ∧ g ≠ q
theorem IxS.keep {w w' : World} {q n c : Nat} {A : Option Addr} {T : Tab} (h : IxS w q A n c T) (hk : Keeps (fun _ => True) w w') : IxS w' q A n c T :=
 ⟨h.blk.keep hk trivial, fun h0 => by obtain ⟨g, e, h1, h2⟩ := h.tab h0; exact ⟨g, e, h1.keep hk trivial, h2⟩⟩
theorem IxAt.s {w : World} {q g n c : Nat} {T : Tab} (h : IxAt w q g n c T) : IxS w q (some ⟨g, 0, none⟩) n c T := ⟨h.blk, fun _ => ⟨g, rfl, h.tab, h.ne⟩⟩
theorem src_slot (W : World) (s : Sl) : Src Tryz.prog 4 127 (.slice (some ⟨W.heap.size, 0, none⟩) 1 1) 1 s.cells (W.alloc (.cells #[.string s.key, .int .u64 s.hash, .int .i64 s.pos, .bool s.full] 126)) :=
 Src.ofSlice _ Tryz.underlying127 ⟨W.heap.size, 0, none⟩ 1 1 s.cells rfl (fun j v hv => by
  rw [WideShapes.add_plain, Nat.zero_add]
  exact (cell_alloc_mark_at W _ _ _ W.heap.size j rfl).trans (by rw [← hv, ← Array.getElem?_toList]; rfl)) (fun v hv => by
  simp only [Sl.cells, List.mem_cons, List.not_mem_nil, or_false] at hv
  rcases hv with rfl | rfl | rfl | rfl <;> rfl)
set_option maxRecDepth 100000 in
set_option maxHeartbeats 1000000 in
theorem from_any (w : World) (q : Nat) (A : Option Addr) (n c : Nat) (T : Tab) (hI : IxS w q A n c T) (hn : n ≤ 1099511627776) (p : Int) :
  Calls Tryz.prog 90 #[.pointer (some ⟨q, 0, none⟩), .int .i64 p] w fun e w' => ∃ B k, e = .returned (.slice B (fromL T p n).length k) ∧ w'.ownsRow w.heap.size 126 4 (.slice B (fromL T p n).length k) (fromL T p n).length (slC (fromL T p n)) ∧ Kp w w' := by
 have HI := Lib.hid hI
 have c0 := hI.blk.c0
 clear hI
 go_enter Tryz.func90, Tryz.ntmps90
 go_wp2_with fail
 go_loopw [5, 13] (fun v i wr => ∃ (k : Nat) (B : Option Addr) (m cc : Nat), k ≤ n ∧ i = .int .i64 (k : Int) ∧ m ≤ k ∧ v = .slice B m cc ∧ Hid (m = (fromL T p k).length ∧ wr.ownsRow w.heap.size 126 4 v m (slC (fromL T p k)) ∧ Kp w wr)) (fun _ i _ => n - (intOf i).toNat)
 case atStart => exact ⟨0, none, 0, 0, Nat.zero_le _, rfl, Nat.le_refl _, rfl, Lib.hid ⟨rfl, World.ownsRow_nil _ _ _ _, Keeps.refl _ _⟩⟩
 case round =>
  obtain ⟨k, B, m, cc, hk, rfl, hmk, rfl, HR⟩ := hrel
  by_cases hl : k < n
  ·have hl' : (k : Int) < (n : Int) := by omega
   have HIr := Lib.hid (HI.out.keep HR.out.2.2)
   obtain ⟨g, rfl, hta, hgq⟩ := HIr.out.tab (by omega)
   have t0 := hta.c0 hl
   have t1 := hta.c1 hl
   have t2 := hta.c2 hl
   have t3 := hta.c3 hl
   have hs := fromL_succ T p k
   have hg := hta.lt
   clear hta c0
   generalize T k = s at t0 t1 t2 t3 hs
   obtain ⟨K, Z, P, b⟩ := s
   simp only at t0 t1 t2 t3 hs
   have HS := Lib.hid hs
   clear hs
   cases b
   ·go_wp2_with fail
    go_roundw
    case rel => exact ⟨k + 1, B, m, cc, hl, by go_num, by omega, rfl, Lib.hid (by
     have e : fromL T p (k + 1) = fromL T p k := by rw [HS.out]; simp
     rw [e]
     exact ⟨HR.out.1, HR.out.2.1.alloc _, HR.out.2.2.alloc _⟩)⟩
    case measure => simp [intOf]; omega
   ·by_cases hp : p ≤ P
    ·have hp' : decide (p ≤ P) = true := by simpa using hp
     have hsrc := src_slot (wr.alloc (.cells #[.string K, .int .u64 Z, .int .i64 P, .bool true] 126)) ⟨K, Z, P, true⟩
     rw [show (wr.alloc (.cells #[.string K, .int .u64 Z, .int .i64 P, .bool true] 126)).heap.size = wr.heap.size + 1 by simp] at hsrc
     have HSRC := Lib.hid hsrc
     have HOWN := Lib.hid HR.out.2.1
     clear hsrc
     go_wp2_with (at_builtin; refine slot_elem.list_append rfl (.tmp 25) (.tmp 27) _ rfl rfl ((HOWN.out.alloc _).alloc _) rfl HSRC.out ?c3 ?c4 ?c5 ?_)
     case c3 => unfold maxLen; omega
     case c4 => omega
     case c5 => have := HR.out.2.2.size; simp; omega
     intro v3 w3 ho3 hg3 hb3
     have hk3 : Kp w w3 := ((HR.out.2.2.alloc _).alloc _).grown hg3 fun j hj => (HOWN.out.lt j hj).1
     have HK3 := Lib.hid hk3
     have HE := Lib.hid (show fromL T p (k + 1) = fromL T p k ++ [⟨K, Z, P, true⟩] from by rw [HS.out]; simp [hp])
     have HO3 := Lib.hid (show w3.ownsRow w.heap.size 126 4 v3 (m + 1) (slC (fromL T p (k + 1))) from by rw [HE.out, slC_snoc]; exact ho3)
     obtain ⟨B3, c3, rfl, -, -⟩ := ho3.form (by omega)
     clear hk3 ho3 hg3 hb3 HSRC HOWN
     go_wp2_with fail
     go_roundw
     case rel => exact ⟨k + 1, some ⟨B3, 0, none⟩, m + 1, c3, hl, by go_num, by omega, rfl, Lib.hid ⟨by rw [HE.out, List.length_append, ← HR.out.1]; rfl, HO3.out, HK3.out⟩⟩
     case measure => simp [intOf]; omega
    ·have hp' : decide (p ≤ P) = false := by simpa using hp
     go_wp2_with fail
     go_roundw
     case rel => exact ⟨k + 1, B, m, cc, hl, by go_num, by omega, rfl, Lib.hid (by
      have e : fromL T p (k + 1) = fromL T p k := by rw [HS.out]; simp [hp]
      rw [e]
      exact ⟨HR.out.1, HR.out.2.1.alloc _, HR.out.2.2.alloc _⟩)⟩
     case measure => simp [intOf]; omega
  ·obtain rfl : n = k := by omega
   have hl' : ¬ (n : Int) < (n : Int) := by omega
   go_wp2_with fail
   go_ret
   obtain ⟨e, h1, h2⟩ := HR.out
   subst e
   exact ⟨B, cc, rfl, h1, h2⟩
end Go.Proofs.YticophaepapjoaaGreatDoor
namespace Go.Proofs.YticophaepapjoaaGreatDoor
open Go Go.RowKit Go.Joins Go.Sort
theorem row_putI {w : World} {base n c g k m : Nat} {e : TypeId} {xs : List Value} (F : Array Int) (h : w.ownsRow base e 1 (.slice (some ⟨g, 0, none⟩) n c) n xs) (hF : F.size = xs.length) (hmn : m ≤ n) :
  (putRow (Value.int .i64) (Go.Sort.ahead w k) g 0 F).ownsRow base e 1 (.slice (some ⟨g, 0, none⟩) m c) m ((F.toList.take m).map (Value.int .i64)) ∧ w.grownBy (putRow (Value.int .i64) (Go.Sort.ahead w k) g 0 F) (some g) := by
 refine ⟨?_, ⟨rfl, rfl, rfl, by simp [putRow, mapBlock, Go.Sort.ahead], fun j hj hne => by
  have : g ≠ j := fun e => hne (by rw [e])
  simp [putRow, mapBlock, Go.Sort.ahead, Array.getElem?_modify, this]⟩⟩
 rcases h.2 with ⟨e0, _⟩ | ⟨g', cap', cur, e0, hb, hg, hn, hm, hs, ht⟩
 ·cases e0
 ·injection e0 with e1 _ e3
  injection e1 with e1
  injection e1 with e1
  subst e1; subst e3
  have hxs : xs.length = n * 1 := h.1
  have hle : n * 1 ≤ cur.size := by rw [hs]; exact Nat.mul_le_mul_right _ hn
  refine ⟨by rw [List.length_map, List.length_take, Array.length_toList, hF, hxs]; omega, .inr ⟨g, c, putCells (Value.int .i64) 0 F cur, rfl, hb, ?_, Nat.le_trans hmn hn, hm, by simpa [putCells] using hs, ?_⟩⟩
  ·simp [putRow, mapBlock, Go.Sort.ahead, Array.getElem?_modify, hg, onCells]
  ·apply List.ext_getElem?
   intro j
   rw [List.getElem?_take, Array.getElem?_toList, List.getElem?_map, List.getElem?_take, Array.getElem?_toList]
   by_cases hj : j < m
   ·have hjc : j < cur.size := by omega
    have hjF : j < F.size := by omega
    rw [if_pos (by omega), if_pos hj]
    simp only [putCells, Array.getElem?_mapIdx, Array.getElem?_eq_getElem hjc, Option.map_some]
    rw [if_pos (by omega), Nat.sub_zero, Array.getElem?_eq_getElem hjF, getElem!_pos F j hjF]
    rfl
   ·rw [if_neg (by omega), if_neg hj]; rfl
def posZ (l : List Nat) : List Int := l.map fun x => ((x : Nat) : Int)
theorem posZ_len (l : List Nat) : (posZ l).length = l.length := by simp [posZ]
theorem posC_is (l : List Nat) : posC l = (posZ l).map (Value.int .i64) := by simp [posC, posZ]
theorem posZ_getD (l : List Nat) (j : Nat) (hj : j < l.length) : (posC l)[j]? = some (.int .i64 ((posZ l).getD j 0)) := by
 simp [posC, posZ, hj]
theorem jsearch_any (w : World) (g c n x k : Nat) (a b : List Nat) (hn : n = (a ++ b).length) (h : w.ownsRow 0 2 1 (.slice (some ⟨g, 0, none⟩) n c) n (posC (a ++ b))) (hs : (a ++ b).Pairwise (· < ·)) (hl : n ≤ 1000000) (ha : ∀ y ∈ a, y < x) (hb : ∀ y ∈ b, x ≤ y) (hk : k = a.length) :
  Calls Tryz.prog 88 #[.slice (some ⟨g, 0, none⟩) n c, .int .i64 (x : Int)] w fun e w' => (∃ t, e = .returned (.tuple #[.int .i64 (k : Int), .bool t])) ∧ ∃ z, w' = w.drewN z := by
 subst hk
 have hzl := posZ_len (a ++ b)
 have hc := AnyG.slices_BinarySearch_int Tryz.searchJ g 0 n c (posZ (a ++ b)) (x : Int) w (by omega) (by omega) (fun j hj => by
  have := h.cells (g := g) rfl j _ (posZ_getD _ _ (by omega))
  rwa [WideShapes.add_plain] at this) (by
  rw [List.take_of_length_le (by omega)]
  unfold posZ
  rw [List.pairwise_map]
  exact hs.imp fun h => by omega)
 have e1 : ((posZ (a ++ b)).take n).countP (· < (x : Int)) = a.length := by
  rw [List.take_of_length_le (by omega)]
  unfold posZ
  rw [List.map_append, List.countP_append, List.countP_map, List.countP_map]
  have h1 : a.countP ((fun y : Int => decide (y < (x : Int))) ∘ fun y : Nat => (y : Int)) = a.length := List.countP_eq_length.2 fun y hy => by
   have := ha y hy
   simp; omega
  have h2 : b.countP ((fun y : Int => decide (y < (x : Int))) ∘ fun y : Nat => (y : Int)) = 0 := List.countP_eq_zero.2 fun y hy => by
   have := hb y hy
   simp; omega
  rw [h1, h2, Nat.add_zero]
 rw [e1] at hc
 refine (show Calls Tryz.prog 88 _ w _ from hc).mono ?_
 rintro e w' ⟨rfl, z, rfl⟩
 exact ⟨⟨_, rfl⟩, z, rfl⟩
theorem jdelete_any (w : World) (g c n k m : Nat) (a b : List Nat) (hn : n = (a ++ b).length) (h : w.ownsRow 0 2 1 (.slice (some ⟨g, 0, none⟩) n c) n (posC (a ++ b))) (hk : k = a.length) (hm : m = b.length) :
  Calls Tryz.prog 89 #[.slice (some ⟨g, 0, none⟩) n c, .int .i64 0, .int .i64 (k : Int)] w fun e w' => e = .returned (.slice (some ⟨g, 0, none⟩) m c) ∧ w'.ownsRow 0 2 1 (.slice (some ⟨g, 0, none⟩) m c) m (posC b) ∧ w.grownBy w' (some g) := by
 subst hk
 have hzl := posZ_len (a ++ b)
 have hab : (a ++ b).length = a.length + b.length := List.length_append
 have hcap := own_room h
 have hH : Holds (Value.int .i64) w g 0 (posZ (a ++ b)).toArray := by
  intro j hj
  have hj2 : j < (a ++ b).length := by simpa [posZ] using hj
  have hc := h.cells (g := g) rfl j _ (posZ_getD _ _ hj2)
  rw [WideShapes.add_plain] at hc
  refine ⟨?_, h.frozenAt (0 + j)⟩
  rw [hc, getElem!_pos _ j hj]
  simp [List.getD_eq_getElem?_getD, show j < (posZ (a ++ b)).length by omega]
 have hr := AnyG.slices_Delete_int Tryz.deleteJ g 0 c 0 a.length (posZ (a ++ b)) w hH (by omega) (by have := hcap.2; unfold maxLen at this; omega) (Nat.zero_le _) (by omega)
 have e0 : (posZ (a ++ b)).drop a.length = posZ b := by unfold posZ; rw [← List.map_drop, List.drop_left]
 rw [List.take_zero, List.nil_append, e0, Nat.sub_zero, hzl, ← hn, show n - a.length = m by omega] at hr
 refine (show Calls Tryz.prog 89 _ w _ from hr).mono ?_
 rintro e w' ⟨rfl, z, rfl⟩
 have h2 := row_putI (k := z) (m := m) (posZ b ++ List.replicate a.length (0 : Int)).toArray h (by simp [posZ, posC]; omega) (by omega)
 rw [List.take_left' (by rw [posZ_len, hm]), ← posC_is] at h2
 exact ⟨rfl, h2.1, h2.2⟩
end Go.Proofs.YticophaepapjoaaGreatDoor
