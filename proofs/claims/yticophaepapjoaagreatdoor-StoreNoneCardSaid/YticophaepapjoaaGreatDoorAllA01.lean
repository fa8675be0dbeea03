/-
  MadeLoose, MadeCrash, Clone, MadeRead, Dv, NumMath, ItemMath, ItemIf, TextOrder, FlashHist: texts of mine, joined.
-/
import Derived.Test.YticophaepapjoaaGreatDoorAllA00
import Derived.WalkSpells
import Derived.Lib.Hide
import Derived.Lib.SmallJoins
import Derived.Sort.Walk0
namespace Go.Proofs.YticophaepapjoaaGreatDoor
open Go Go.RowKit Go.Joins Go.Maps Go.Sort Go.Shelf
def SDev.looseZ (s : SDev) : List Int := s.loose.map fun n : Nat => (n : Int)
theorem look_some (s : SDev) (x : Int) : (s.look (.int .i64 x)).isSome = true ↔ x ∈ s.looseZ := by
 unfold SDev.looseZ SDev.loose
 rw [look_at, List.mem_map]
 constructor
 ·intro h
  by_cases hc : 0 ≤ x ∧ s.dirty.getD x.toNat false = true
  ·exact ⟨x.toNat, (mem_trues _ _).2 hc.2, by omega⟩
  ·rw [if_neg hc] at h; cases h
 ·rintro ⟨n, hn, rfl⟩
  rw [if_pos ⟨by omega, by rw [Int.toNat_natCast]; exact (mem_trues _ _).1 hn⟩]; rfl
theorem look_int (s : SDev) (l : Lit) (h : (s.look l).isSome = true) : ∃ x, l = .int .i64 x := by
 unfold SDev.look at h
 split at h
 ·exact ⟨_, rfl⟩
 ·cases h
theorem looseZ_nodup (s : SDev) : s.looseZ.Nodup := List.pairwise_map.2 ((trues_sorted s.dirty).imp fun h => by omega)
theorem looseZ_sorted (s : SDev) : s.looseZ.mergeSort leI = s.looseZ := sorted_self _ (List.pairwise_map.2 ((trues_sorted s.dirty).imp fun h => by omega))
theorem sortsA (m : Nat) : AnyZI.SortsIn Tryz.prog Tryz.sortedA_ren Fence.wide m :=
 ⟨fun blk off cap ss W hH hblk hsz => callsIn_wide.2 (AnyM.slices_Sort_int Tryz.sortA blk off cap ss W hH hblk hsz),
  fun p cap W => callsIn_wide.2 (AnyM.slices_Sort_int_none Tryz.sortA p cap W)⟩
set_option maxHeartbeats 1000000 in
theorem dloose_any (w : World) (p : Nat) (F : Foot) (s : SDev) (h : DAt w p F s) :
  Calls Tryz.prog 54 #[.pointer (some ⟨p, 0, none⟩)] w fun e w' => ∃ v, e = .returned v ∧ OwnN w' w.heap.size v s.loose ∧ Keeps (fun _ => True) w w' := by
 obtain ⟨g, c, b, h1, h2, h3, h4, m1, m2, m3⟩ := h.ex
 have c1 : w.cell? ⟨p, 1, none⟩ = some (.map (some b)) := (cell_of_block h1 1).trans rfl
 obtain ⟨D0, hown, hperm⟩ := h3.perm (int_keyed Tryz.underlying3) (looseZ_nodup s) (fun x => (look_some s x).symm) (look_int s)
 have hsz : Maps.size D0 ≤ s.loose.length := hown.size_le
 have hll : s.loose.length ≤ s.now.length := by have := trues_len s.dirty; rw [h.ok.dirty] at this; exact this
 have hsm := h.ok.small
 have hfin := Lib.hid (show ∀ (v : Value) (ss : List Int) (w' : World), ss.Perm (intKeys D0) → w'.ownsRow w.heap.size 3 1 v ss.length ((ss.mergeSort (fun x y => decide (x ≤ y))).map encZ) → OwnN w' w.heap.size v s.loose from by
  intro v ss w' hp ho
  have e : ss.mergeSort leI = s.looseZ := (mergeSort_of_perm_i (hp.trans hperm.symm)).trans (looseZ_sorted s)
  have hl : ss.length = s.loose.length := by rw [(hp.trans hperm.symm).length_eq]; simp [SDev.looseZ]
  have e2 : (ss.mergeSort (fun x y => decide (x ≤ y))).map encZ = nats s.loose := by
   show (ss.mergeSort leI).map encZ = _
   rw [e]; simp [SDev.looseZ, nats]
  rw [e2, hl] at ho
  exact ho)
 have hmax : Maps.size D0 ≤ maxLen := by unfold maxLen; omega
 have hbytes : Maps.size D0 * 8 ≤ 140737488355328 := by omega
 clear h h1 h2 h3 h4 m1 m2 m3 hperm hsz hll hsm
 refine (callsIn_wide (n := 6)).1 ?_
 have hbl := hown.lt
 have hseq : SeqGives Fence.wide 2 Tryz.prog 115 #[.pointer (some ⟨w.heap.size, 0, none⟩)] encZ (fun ss => ss.Perm (intKeys D0)) (Maps.size D0) (w.alloc (.cells #[.map (some b)] 102)) :=
  AnyZI.keys_gives (ρ := Tryz.keysA_ren) { Tryz.keysA with } Fence.wide _ trivial rfl (by omega) w.heap.size b _ D0 _ (by simp) (by simp) (by
   obtain ⟨es, clock, hb, Ft, hs, hD⟩ := hown
   exact ⟨es, clock, (Below.heap_alloc _ _ b hbl).trans hb, Ft, hs, hD⟩)
 have cK : ∀ mb W, CallsIn Fence.wide 5 Tryz.prog 81 #[.map mb] W fun e w' => e = .returned (.func (.func 115) #[] #[.pointer (some ⟨W.heap.size, 0, none⟩)]) ∧ w' = W.alloc (.cells #[.map mb] 102) := fun mb W => AnyZI.keys_in Tryz.keysA Fence.wide 5 trivial rfl mb W
 have cS := AnyZI.sorted_in Tryz.sortedA Fence.wide 5 trivial trivial trivial trivial rfl (by omega) (sortsA _) (enters_of Tryz.func114 (by kernel_rfl) rfl) 115 #[.pointer (some ⟨w.heap.size, 0, none⟩)] trivial (enters_of Tryz.func115 (by kernel_rfl) rfl) _ _ hmax hbytes _ hseq
 change CallsIn _ _ Tryz.prog 80 _ _ _ at cS
 have hfK : Fence.wide.fn 81 := trivial
 have hfS : Fence.wide.fn 80 := trivial
 refine callsIn_of_wp Tryz.func54 rfl trivial ?_ rfl
 simp only [Tryz.ntmps54, List.size_toArray, List.length_cons, List.length_nil, Nat.reduceAdd, Nat.reduceSub, Array.replicate_succ, Array.replicate_zero, List.push_toArray, List.append_toArray, List.nil_append, List.cons_append]
 gi_wp2_with (first
  | (gi_at_call 81; refine (cK _ _).mono ?_; rintro e w' ⟨rfl, rfl⟩)
  | (gi_at_call 80; refine cS.mono ?_; rintro e w' ⟨v, ss, rfl, hS, hrow, hnil, hb⟩))
 go_ret
 exact ⟨v, rfl, hfin.out v ss _ hS (ownsRow_base_a hrow (by simp)), Keeps.of_below (((Below.refl _ w).alloc (Nat.le_refl _) _).trans (hb.mono (by simp))) _⟩
end Go.Proofs.YticophaepapjoaaGreatDoor
namespace Go.Proofs.YticophaepapjoaaGreatDoor
open Go Go.RowKit Go.Joins Go.Maps
def backN (s : SDev) (keep : List Bool) (j : Nat) : List (List UInt8) :=
 (List.range j).foldl (fun acc t => if keep.getD t false then acc else acc.set (s.loose.getD t 0) (s.fast.getD (s.loose.getD t 0) [])) s.now
theorem backN_next (s : SDev) (keep : List Bool) (j : Nat) : backN s keep (j + 1) = if keep.getD j false then backN s keep j else (backN s keep j).set (s.loose.getD j 0) (s.fast.getD (s.loose.getD j 0) []) := by
 unfold backN; rw [List.range_succ, List.foldl_append]; rfl
theorem backN_len (s : SDev) (keep : List Bool) (j : Nat) : (backN s keep j).length = s.now.length := by
 induction j with
 | zero => rfl
 | succ j ih => rw [backN_next]; split <;> simp [ih]
theorem backN_row (s : SDev) (keep : List Bool) (h : s.Ok) (j : Nat) (hj : j ≤ s.loose.length) : ∀ r ∈ backN s keep j, r.length = 64 := by
 induction j with
 | zero => exact h.nrow
 | succ j ih =>
  have ih' := ih (by omega)
  rw [backN_next]
  split
  ·exact ih'
  ·intro r hr
   rcases List.mem_or_eq_of_mem_set hr with hr | hr
   ·exact ih' r hr
   ·have hl := loose_getD s h j (by omega)
    have hl2 : s.loose.getD j 0 < s.fast.length := by rw [h.fast]; exact hl
    rw [hr, getD_mem _ _ _ hl2]; exact h.frow _ (List.getElem_mem hl2)
theorem loose_inj (s : SDev) (i j : Nat) (hi : i < s.loose.length) (hj : j < s.loose.length) (h : s.loose.getD i 0 = s.loose.getD j 0) : i = j := by
 rw [getD_mem _ _ _ hi, getD_mem _ _ _ hj] at h
 have hs := trues_sorted s.dirty
 rcases Nat.lt_trichotomy i j with hij | hij | hij
 ·have := List.pairwise_iff_getElem.1 hs i j hi hj hij; unfold SDev.loose at h; omega
 ·exact hij
 ·have := List.pairwise_iff_getElem.1 hs j i hj hi hij; unfold SDev.loose at h; omega
theorem back_kept (s : SDev) (keep : List Bool) (h : s.Ok) (j : Nat) (hj : j ≤ s.loose.length) :
  (∀ t, t < j → (backN s keep j).getD (s.loose.getD t 0) [] = (keptN s keep j).getD (s.loose.getD t 0) []) ∧
  (∀ i, (∀ t, t < j → s.loose.getD t 0 ≠ i) → (backN s keep j).getD i [] = s.now.getD i [] ∧ (keptN s keep j).getD i [] = s.fast.getD i []) := by
 induction j with
 | zero => exact ⟨fun t ht => absurd ht (Nat.not_lt_zero _), fun i _ => ⟨rfl, rfl⟩⟩
 | succ j ih =>
  obtain ⟨ih1, ih2⟩ := ih (by omega)
  have hl := loose_getD s h j (by omega)
  have hnew := ih2 (s.loose.getD j 0) (fun t ht e => by have := loose_inj s t j (by omega) (by omega) e; omega)
  have hb : s.loose.getD j 0 < (backN s keep j).length := by rw [backN_len]; exact hl
  have hk : s.loose.getD j 0 < (keptN s keep j).length := by rw [keptN_len, h.fast]; exact hl
  have set1 : ∀ (X : List (List UInt8)) (v : List UInt8), s.loose.getD j 0 < X.length → (X.set (s.loose.getD j 0) v).getD (s.loose.getD j 0) [] = v := fun X v hX => by
   rw [List.getD_eq_getElem?_getD, List.getElem?_set_self hX]; rfl
  have set2 : ∀ (X : List (List UInt8)) (v : List UInt8) (i : Nat), s.loose.getD j 0 ≠ i → (X.set (s.loose.getD j 0) v).getD i [] = X.getD i [] := fun X v i hne => by
   rw [List.getD_eq_getElem?_getD, List.getElem?_set_ne hne, ← List.getD_eq_getElem?_getD]
  rw [backN_next, keptN_next]
  cases hkv : keep.getD j false
  ·simp only [Bool.false_eq_true, if_false]
   refine ⟨fun t ht => ?_, fun i hi => ?_⟩
   ·by_cases htj : t = j
    ·subst htj; rw [set1 _ _ hb]; exact hnew.2.symm
    ·have hne : s.loose.getD j 0 ≠ s.loose.getD t 0 := fun e => htj (loose_inj s j t (by omega) (by omega) e).symm
     rw [set2 _ _ _ hne]; exact ih1 t (by omega)
   ·rw [set2 _ _ _ (hi j (by omega))]; exact ih2 i fun t ht => hi t (by omega)
  ·simp only [if_true]
   refine ⟨fun t ht => ?_, fun i hi => ?_⟩
   ·by_cases htj : t = j
    ·subst htj; rw [set1 _ _ hk]; exact hnew.1
    ·have hne : s.loose.getD j 0 ≠ s.loose.getD t 0 := fun e => htj (loose_inj s j t (by omega) (by omega) e).symm
     rw [set2 _ _ _ hne]; exact ih1 t (by omega)
   ·rw [set2 _ _ _ (hi j (by omega))]; exact ih2 i fun t ht => hi t (by omega)
theorem kept_more (s : SDev) (keep : List Bool) (j d : Nat) (hj : keep.length ≤ j) : keptN s keep (j + d) = keptN s keep j := by
 induction d with
 | zero => rfl
 | succ d ih =>
  have : keep.getD (j + d) false = false := by rw [List.getD_eq_getElem?_getD, List.getElem?_eq_none (by omega)]; rfl
  rw [← Nat.add_assoc, keptN_next, this]; simpa using ih
theorem kept_min (s : SDev) (keep : List Bool) : keptN s keep s.loose.length = keptN s keep (min s.loose.length keep.length) := by
 by_cases h : s.loose.length ≤ keep.length
 ·rw [Nat.min_eq_left h]
 ·rw [Nat.min_eq_right (by omega)]
  have := kept_more s keep keep.length (s.loose.length - keep.length) (Nat.le_refl _)
  rwa [show keep.length + (s.loose.length - keep.length) = s.loose.length by omega] at this
theorem back_end (s : SDev) (keep : List Bool) (h : s.Ok) (hs : ∀ i, s.dirty.getD i false = false → s.now.getD i [] = s.fast.getD i []) : backN s keep s.loose.length = (s.crash keep).now := by
 show _ = keptN s keep (min s.loose.length keep.length)
 rw [← kept_min]
 obtain ⟨h1, h2⟩ := back_kept s keep h s.loose.length (Nat.le_refl _)
 apply List.ext_getElem (by rw [backN_len, keptN_len, h.fast])
 intro i hi1 hi2
 rw [← getD_mem _ _ [] hi1, ← getD_mem _ _ [] hi2]
 by_cases hd : s.dirty.getD i false = true
 ·obtain ⟨t, ht, e⟩ := List.getElem_of_mem ((mem_trues s.dirty i).2 hd)
  have e2 : s.loose.getD t 0 = i := by show (trues s.dirty).getD t 0 = i; rw [getD_mem _ _ _ ht]; exact e
  rw [← e2]; exact h1 t ht
 ·have hd' : s.dirty.getD i false = false := by simpa using hd
  obtain ⟨e1, e2⟩ := h2 i fun t ht e => by
   have := List.getElem_mem ht
   rw [getD_mem _ _ _ ht] at e
   rw [e] at this
   rw [(mem_trues s.dirty i).1 this] at hd'; cases hd'
  rw [e1, e2]; exact hs i hd'
set_option maxHeartbeats 2000000 in
theorem dcrash_any (w : World) (p : Nat) (F : Foot) (s : SDev) (h : DAt w p F s) (K : Option Addr) (kc : Nat) (G : Nat → Prop) (keep : List Bool) (hK : Row w K G (keep.map Value.bool)) (hkl : keep.length ≤ maxLen) :
  Calls Tryz.prog 21 #[.pointer (some ⟨p, 0, none⟩), .slice K keep.length kc] w fun e w' => ∃ q F', e = .returned (.pointer (some ⟨q, 0, none⟩)) ∧ DAt w' q F' (s.crash keep) ∧ (∀ b, F'.M b → w.heap.size ≤ b) ∧ (∀ b, F'.I b → F.I b ∨ w.heap.size ≤ b) ∧ Keeps (fun _ => True) w w' := by
 unfold maxLen at hkl
 have hok := h.ok
 have hsm := hok.small
 have hpos := hok.pos
 obtain ⟨g, c, m, h1, h2, h3, h4, m1, m2, m3⟩ := h.ex
 have c0 : w.cell? ⟨p, 0, none⟩ = some (.slice (some ⟨g, 0, none⟩) s.now.length c) := (cell_of_block h1 0).trans rfl
 have c1 : w.cell? ⟨p, 1, none⟩ = some (.map (some m)) := (cell_of_block h1 1).trans rfl
 have hcl := clone_sectors w g c s.now.length s.now h2 hpos hsm
 have HC := Lib.hid hcl
 have HR := Lib.hid h
 have HK := Lib.hid hK.lt
 have H3 := Lib.hid h3
 have HOK := Lib.hid hok
 have hp := h.lt p (.inl m1)
 have hm := h.lt m (.inl m3)
 clear hcl h1 h2 h3 h4 m1 m2 m3 hK h hok
 go_enter Tryz.func21, Tryz.ntmps21
 go_wp2_with fail
 refine HC.out.mono ?_
 rintro e w1 ⟨x, xc, rfl, hx, hxge, hk1⟩
 have HX := Lib.hid hx
 have HXG := Lib.hid hxge
 have HK1 := Lib.hid hk1
 clear hx hxge hk1 c0
 go_wp2_with fail
 refine (dloose_any w1 p F s (HR.out.keep (HK1.out.mono fun _ _ _ => trivial))).mono ?_
 rintro e w2 ⟨v, rfl, hown, hk2⟩
 obtain ⟨LA, Lc, rfl, -, hlr⟩ := own_slice hown
 have hxlt : x < w1.heap.size := (HX.out.lt x rfl).2
 have hll : s.loose.length ≤ s.now.length := by have := trues_len s.dirty; rw [HOK.out.dirty] at this; exact this
 have HX2 := Lib.hid (hk2.own HX.out fun _ _ => trivial)
 have HLR := Lib.hid hlr
 have HK2 := Lib.hid (HK1.out.trans hk2)
 clear hlr hk2 hown HX
 go_wp2
 go_loopw [18] (fun i wr => ∃ j : Nat, j ≤ s.loose.length ∧ i = .int .i64 j ∧ wr.ownsRow 0 101 64 (.slice (some ⟨x, 0, none⟩) s.now.length xc) s.now.length (flat (backN s keep j)) ∧ Keeps (fun b => b ≠ x) w2 wr) (fun i _ => s.loose.length - (intOf i).toNat)
 case atStart => exact ⟨0, Nat.zero_le _, rfl, HX2.out, Keeps.refl _ _⟩
 case round =>
  obtain ⟨j, hj, rfl, hown, hkw⟩ := hrel
  have hkx : Keeps (fun b => b < w.heap.size) w wr := (HK2.out.mono fun _ _ _ => trivial).trans (hkw.mono fun b _ hb e => by have := HXG.out; omega)
  by_cases hl : j < s.loose.length
  ·obtain ⟨lb, lo, hLe, -, hlc⟩ := (HLR.out.keep (hkw.mono fun b _ hb e => by have := hb.1; omega)).at_ (k := j) (by simpa [nats] using hl)
   cases hLe
   rw [nats_at] at hlc
   have ht := loose_getD s HOK.out j hl
   have hlook : s.look (.int .i64 ((s.loose.getD j 0 : Nat) : Int)) = some (sec (s.fast.getD (s.loose.getD j 0) [])) := by
    have hdt : s.dirty.getD (s.loose.getD j 0) false = true := by
     rw [getD_mem s.loose _ _ hl]; exact (mem_trues _ _).1 (List.getElem_mem hl)
    rw [look_at, Int.toNat_natCast, if_pos ⟨by omega, hdt⟩]
   have hfk : (s.fast.getD (s.loose.getD j 0) []).length = 64 := by
    rw [getD_mem _ _ _ (by rw [HOK.out.fast]; exact ht)]; exact HOK.out.frow _ (List.getElem_mem _)
   have hbn := backN_next s keep j
   have hbr := backN_row s keep HOK.out j hj
   have hbl := backN_len s keep j
   generalize s.loose.getD j 0 = t at hlc ht hlook hfk hbn
   generalize s.fast.getD t [] = fk at hlook hfk hbn
   have hwf : (Lit.int .i64 (t : Int)).wf = true := by simp [Lit.wf, IntKind.min, IntKind.max, IntKind.signed, IntKind.bits]; omega
   have hlk := ((H3.out.keep hkx hm).look1 (t := 102) (int_keyed Tryz.underlying3) Tryz.underlying102 (secZ_zero wr) (keyOf_int_mk (q := .i64) (a := (t : Int)) Tryz.underlying3 hwf))
   rw [hlook] at hlk
   simp only [Option.getD_some] at hlk
   have hc1 := hkx.cell c1 hp
   have HBN := Lib.hid hbn
   have HBR := Lib.hid hbr
   have HBL := Lib.hid hbl
   have HFK := Lib.hid hfk
   have HO := Lib.hid hown
   have HKW := Lib.hid hkw
   have HKX := Lib.hid hkx
   clear hbn hbr hbl hfk hown hkw hlook hwf c1
   have hkk : (decide (keep.length ≤ j) = true ∧ keep.getD j false = false) ∨ (∃ kb ko, K = some ⟨kb, ko, none⟩ ∧ j < keep.length ∧ decide (keep.length ≤ j) = false ∧ wr.cell? ⟨kb, ko + j, none⟩ = some (.bool (keep.getD j false))) := by
    by_cases hk : j < keep.length
    ·right
     obtain ⟨kb, ko, e, hb, hc⟩ := HK.out.at_ (k := j) (by simpa using hk)
     refine ⟨kb, ko, e, hk, by simp; omega, ?_⟩
     rw [getD_mem _ _ _ hk]
     have := HKX.out.cell hc hb.2
     simpa using this
    ·left
     exact ⟨by simp; omega, by rw [List.getD_eq_getElem?_getD, List.getElem?_eq_none (by omega)]; rfl⟩
   have HST := Lib.hid (show keep.getD j false = false → ∀ w' : World, w'.ownsRow 0 101 64 (.slice (some ⟨x, 0, none⟩) s.now.length xc) s.now.length ((flat (backN s keep j)).take (t * 64) ++ bcells fk ++ (flat (backN s keep j)).drop (t * 64 + (bcells fk).length)) → wr.grownBy w' (some x) →
     w'.ownsRow 0 101 64 (.slice (some ⟨x, 0, none⟩) s.now.length xc) s.now.length (flat (backN s keep (j + 1))) ∧ Keeps (fun b => b ≠ x) w2 w' from by
    intro hkf w' ho hg
    have htl : t < (backN s keep j).length := by rw [HBL.out]; exact ht
    rw [flat_splice _ HBR.out t htl fk (by rw [HFK.out]; exact Nat.le_refl _)] at ho
    rw [HBN.out, hkf]
    simp only [Bool.false_eq_true, if_false]
    rw [List.drop_of_length_le (by rw [HFK.out, HBR.out _ (List.getElem_mem htl)]; exact Nat.le_refl _), List.append_nil] at ho
    exact ⟨ho, HKW.out.trans (Keeps.of_grown hg fun b e _ hn => by cases e; exact hn rfl)⟩)
   have hfl := flat_len _ HBR.out
   rw [HBL.out] at hfl
   have HFL := Lib.hid hfl
   clear hfl
   rcases hkk with ⟨d1, d2⟩ | ⟨kb, ko, rfl, hjk, d1, d2⟩
   ·have HD := Lib.hid (HST.out d2)
    clear d2 HST
    go_wp2_with (refine list_store_own rfl 101 (.tmp 42) (.tmp 41) rfl HO.out (t * 64) rfl (bcells fk) (sec fk) rfl rfl ?h1 ?h2 (bcells_one _) ?_)
    case h1 => rw [bcells_len, HFK.out]; kernel_rfl
    case h2 => rw [bcells_len, HFL.out, HFK.out]; omega
    intro w4 ho4 hg4
    rw [← List.append_assoc] at ho4
    have HE := Lib.hid (HD.out w4 ho4 hg4)
    clear ho4 hg4
    go_wp2
    go_roundw
    case rel => exact ⟨j + 1, by omega, by go_num, HE.out.1, HE.out.2⟩
    case measure => simp [intOf]; omega
   ·cases hkv : keep.getD j false
    ·rw [hkv] at d2
     have HD := Lib.hid (HST.out hkv)
     clear HST hkv
     go_wp2_with (refine list_store_own rfl 101 (.tmp 42) (.tmp 41) rfl HO.out (t * 64) rfl (bcells fk) (sec fk) rfl rfl ?h1 ?h2 (bcells_one _) ?_)
     case h1 => rw [bcells_len, HFK.out]; kernel_rfl
     case h2 => rw [bcells_len, HFL.out, HFK.out]; omega
     intro w4 ho4 hg4
     rw [← List.append_assoc] at ho4
     have HE := Lib.hid (HD.out w4 ho4 hg4)
     clear ho4 hg4
     go_wp2
     go_roundw
     case rel => exact ⟨j + 1, by omega, by go_num, HE.out.1, HE.out.2⟩
     case measure => simp [intOf]; omega
    ·rw [hkv] at d2
     have HO2 := Lib.hid (show wr.ownsRow 0 101 64 (.slice (some ⟨x, 0, none⟩) s.now.length xc) s.now.length (flat (backN s keep (j + 1))) by
      rw [HBN.out, hkv]; exact HO.out)
     clear hkv HST
     go_wp2
     go_roundw
     case rel => exact ⟨j + 1, by omega, by go_num, HO2.out, HKW.out⟩
     case measure => simp [intOf]; omega
  ·obtain rfl : j = s.loose.length := by omega
   rw [back_end s keep HOK.out HR.out.same] at hown
   have hcl : (s.crash keep).now.length = s.now.length := by
    show (keptN s keep _).length = _
    rw [keptN_len, HOK.out.fast]
   have hla := dlasting_any wr (s.crash keep) (crash_ok s HOK.out keep) (by rw [hcl]; rfl) rfl rfl x xc (by rw [hcl]; exact hown)
   rw [hcl] at hla
   have HLA := Lib.hid hla
   have hkt : Keeps (fun _ => True) w wr := ⟨hkx.os, hkx.tape, hkx.output, hkx.size, fun b _ hb => hkx.block b hb hb⟩
   have HKT := Lib.hid hkt
   clear hla hcl hown hkw hkx hkt c1
   go_wp2_with fail
   refine HLA.out.mono ?_
   rintro e w4 ⟨q, F', rfl, hD, hM, hI, hk4⟩
   have HE := Lib.hid (show ∃ q0 F0, Ending.returned (.pointer (some ⟨q, 0, none⟩)) = .returned (.pointer (some ⟨q0, 0, none⟩)) ∧ DAt w4 q0 F0 (s.crash keep) ∧ (∀ b, F0.M b → w.heap.size ≤ b) ∧ (∀ b, F0.I b → F.I b ∨ w.heap.size ≤ b) ∧ Keeps (fun _ => True) w w4 from
    ⟨q, F', rfl, hD, fun b hb => by
     rcases hM b hb with rfl | h
     ·exact HXG.out
     ·exact Nat.le_trans HKT.out.size h, fun b hb => (hI b hb).elim, HKT.out.trans hk4⟩)
   clear hD hM hI hk4
   go_wp2_with fail
   go_ret
   exact HE.out
end Go.Proofs.YticophaepapjoaaGreatDoor
namespace Go.Proofs.YticophaepapjoaaGreatDoor
open Go Go.RowKit
theorem clone_nil (c : Nat) (w : World) :
  Calls Tryz.prog 111 #[.slice none 0 c] w fun e w' => ∃ v', e = .returned v' ∧ OwnB w' w.heap.size v' [] ∧ Keeps (fun _ => True) w w' := by
 have hn := fun w : World => Lib.run_eql_slice_nil (P := Tryz.prog) w 64 5 none 0 c 0 0 Tryz.underlying64
 have H := Lib.hid (show ∃ v', Ending.returned (.slice none 0 0) = .returned v' ∧ OwnB w w.heap.size v' [] ∧ Keeps (fun _ => True) w w from ⟨_, rfl, World.ownsRow_nil _ _ _ _, Keeps.refl _ _⟩)
 go_enter Tryz.func111, Tryz.ntmps111
 go_wp2
 go_ret
 exact H.out
theorem clone_some (ad : Addr) (c : Nat) (F : Nat → Prop) (l : List UInt8) (w : World) (h : Row w (some ad) F (bcells l)) (hl : l.length ≤ 1099511627776) :
  Calls Tryz.prog 111 #[.slice (some ad) l.length c] w fun e w' => ∃ v', e = .returned v' ∧ OwnB w' w.heap.size v' l ∧ Keeps (fun _ => True) w w' := by
 have hn := fun w : World => Lib.run_eql_slice_nil (P := Tryz.prog) w 64 5 (some ad) l.length c 0 0 Tryz.underlying64
 have h0 : (w.alloc (.cells #[] 5)).ownsRow w.heap.size 5 1 (.slice (some ⟨w.heap.size, 0, none⟩) 0 0) 0 [] := World.ownsRow_made w #[] 0 (Nat.le_refl _) (by decide) rfl
 have hsrc : Src Tryz.prog 1 64 (.slice (some ad) l.length c) l.length (bcells l) (w.alloc (.cells #[] 5)) := by
  have := (h.keep ((Keeps.refl F w).alloc (.cells #[] 5))).src (c := c) Tryz.underlying64 (bcells_one l)
  rwa [bcells_len] at this
 have H0 := Lib.hid h0
 have HS := Lib.hid hsrc
 clear h h0 hsrc
 go_enter Tryz.func111, Tryz.ntmps111
 go_wp2_with (at_builtin; refine byte_elem.list_append rfl (.tmp 5) (.tmp 6) _ rfl rfl H0.out rfl HS.out ?c3 ?c4 ?c5 ?_)
 case c3 => unfold maxLen; omega
 case c4 => omega
 case c5 => simp
 intro v' w1 hown' hg hb
 have hk : Keeps (fun _ => True) w w1 := by
  exact ((Onto.refl _ _).grown hg (by simpa using hb)).keeps ((Keeps.refl _ w).alloc _) (by simp [Value.ownBlock])
 have ho : OwnB w1 w.heap.size v' l := by unfold OwnB; simpa using hown'
 have H1 := Lib.hid ho
 have H2 := Lib.hid hk
 clear ho hk hown' hg hb
 go_wp2
 go_ret
 exact ⟨_, rfl, H1.out, H2.out⟩
theorem clone_any (A : Option Addr) (c : Nat) (F : Nat → Prop) (l : List UInt8) (w : World) (h : Row w A F (bcells l)) (hl : l.length ≤ 1099511627776) :
  Calls Tryz.prog 111 #[.slice A l.length c] w fun e w' => ∃ v', e = .returned v' ∧ OwnB w' w.heap.size v' l ∧ Keeps (fun _ => True) w w' := by
 rcases A with _ | ad
 ·have hx : l = [] := Classical.byContradiction fun hx => by
   obtain ⟨b, o, e, _⟩ := h (by simpa [bcells] using hx)
   cases e
  subst hx
  exact clone_nil c w
 ·exact clone_some ad c F l w h hl
end Go.Proofs.YticophaepapjoaaGreatDoor
namespace Go.Proofs.YticophaepapjoaaGreatDoor
open Go Go.RowKit Go.Joins
set_option maxHeartbeats 400000 in
theorem dread_any (w : World) (p : Nat) (F : Foot) (s : SDev) (h : DAt w p F s) (i : Int) (hi1 : -9223372036854775808 ≤ i) (hi2 : i < 9223372036854775808) :
  Calls Tryz.prog 146 #[.pointer (some ⟨p, 0, none⟩), .int .i64 i] w fun e w' => ∃ v, e = .returned (.tuple #[v, .int .i64 (s.readE i)]) ∧ OwnB w' w.heap.size v (s.readL i) ∧ Keeps (fun _ => True) w w' := by
 have hch := dcheck_any w p F s h i
 by_cases hi : i < 0 ∨ (s.now.length : Int) ≤ i
 ·have hr : s.readE i = 4 := if_pos hi
  have hl : s.readL i = [] := if_pos hi
  rw [hr] at hch ⊢
  rw [hl]
  have H := Lib.hid (show ∃ v, Ending.returned (.tuple #[.slice none 0 0, .int .i64 4]) = .returned (.tuple #[v, .int .i64 4]) ∧ OwnB w w.heap.size v [] ∧ Keeps (fun _ => True) w w from ⟨_, rfl, World.ownsRow_nil _ _ _ _, Keeps.refl _ _⟩)
  have HC := Lib.hid hch
  clear hr hl hch h hi hi1 hi2
  go_enter Tryz.func146, Tryz.ntmps146
  go_wp2_with fail
  refine HC.out.mono ?_
  rintro e w' ⟨rfl, rfl⟩
  go_wp2_with fail
  go_ret2
  exact H.out
 ·have hr : s.readE i = 0 := if_neg hi
  obtain ⟨k, rfl⟩ : ∃ k : Nat, i = (k : Int) := ⟨i.toNat, by omega⟩
  have hk : k < s.now.length := by omega
  have hl : s.readL (k : Int) = s.now[k] := (if_neg hi).trans (by rw [Int.toNat_natCast, getD_mem _ _ _ hk])
  rw [hr] at hch ⊢
  rw [hl]
  obtain ⟨g, c, m, h1, h2, h3, h4, m1, m2, m3⟩ := h.ex
  have c0 : w.cell? ⟨p, 0, none⟩ = some (.slice (some ⟨g, 0, none⟩) s.now.length c) := (cell_of_block h1 0).trans rfl
  have hlen : s.now[k].length = 64 := h.ok.nrow _ (List.getElem_mem hk)
  have hcl := clone_any (some ⟨g, k * 64, none⟩) 64 (fun _ => True) s.now[k] w (fun _ => ⟨g, k * 64, rfl, trivial, DAt.row h2 h.ok.nrow k hk⟩) (by omega)
  rw [hlen] at hcl
  have hsm := h.ok.small
  have HC := Lib.hid hch
  have HL := Lib.hid hcl
  clear hr hl hch h hi hi1 hi2 h1 h2 h3 h4 hcl hlen m1 m2 m3
  go_enter Tryz.func146, Tryz.ntmps146
  go_wp2_with fail
  refine HC.out.mono ?_
  rintro e w' ⟨rfl, rfl⟩
  go_wp2_with fail
  refine HL.out.mono ?_
  rintro e w' ⟨v, rfl, ho, hk'⟩
  have H1 := Lib.hid ho
  have H2 := Lib.hid hk'
  clear ho hk'
  go_wp2_with fail
  go_ret2
  exact ⟨_, rfl, H1.out, H2.out⟩
def SDev.still (rows : List (List UInt8)) (n : Nat) : SDev := ⟨rows, rows, List.replicate rows.length false, n⟩
theorem still_loose (rows : List (List UInt8)) (n : Nat) : (SDev.still rows n).loose = [] := clear_loose _ rows.length rfl
theorem still_crash (rows : List (List UInt8)) (n : Nat) (keep : List Bool) : (SDev.still rows n).crash keep = SDev.still rows 0 := by
 have h : keptN (SDev.still rows n) keep (min (SDev.still rows n).loose.length keep.length) = rows := by rw [still_loose]; simp [keptN_zero, SDev.still]
 unfold SDev.crash
 rw [h]; rfl
theorem new_still (k : Nat) : SDev.new k = SDev.still (List.replicate k blank) 0 := by simp [SDev.new, SDev.still]
theorem still_len (rows : List (List UInt8)) (n : Nat) : (SDev.still rows n).now.length = rows.length := rfl
structure Dv (W w : World) (p : Nat) (F : Foot) (s : SDev) : Prop where
 d : DAt w p F s
 gd : ∀ b, F.all b → W.heap.size ≤ b
 kp : Keeps (fun _ => True) W w
section
variable {W w w' : World} {p q : Nat} {F F' Fs Fs' : Foot} {s s' : SDev}
theorem Dv.keep (h : Dv W w p F s) (hk : Keeps (fun _ => True) w w') : Dv W w' p F s := ⟨h.d.keep (hk.mono fun _ _ _ => trivial), h.gd, h.kp.trans hk⟩
theorem Dv.step (h : Dv W w p F s) (hr : DAt w' p F' s') (hs : Step F F' w w') : Dv W w' p F' s' :=
 ⟨hr, fun b hb => by
  rcases hs.all b hb with h1 | h1
  ·exact h.gd b h1
  ·exact Nat.le_trans h.kp.size h1, hs.old (fun b hb => h.gd b (.inl hb)) h.kp⟩
theorem dv_new (hk : Keeps (fun _ => True) W w) (n : Nat) (h1 : 1 ≤ n) (h2 : n ≤ 2048) (z : Int) (hz : z = (n : Int)) :
  Calls Tryz.prog 10 #[.int .i64 z] w fun e w' => ∃ p F, e = .returned (.pointer (some ⟨p, 0, none⟩)) ∧ Dv W w' p F (SDev.still (List.replicate n blank) 0) ∧ (∀ b, F.all b → w.heap.size ≤ b) ∧ Keeps (fun _ => True) w w' := by
 subst hz
 refine (dnew_any w (n : Int) (by omega) (by omega)).mono ?_
 rintro e w' ⟨p, F, rfl, hD, hF, hk'⟩
 have e : clampN (n : Int) = n := by unfold clampN; omega
 rw [e, new_still] at hD
 exact ⟨p, F, rfl, ⟨hD, fun b hb => Nat.le_trans hk.size (hF b hb), hk.trans hk'⟩, hF, hk'⟩
theorem d_read (h : DAt w p F s) (i : Nat) (hi : i < s.now.length) :
  Calls Tryz.prog 146 #[.pointer (some ⟨p, 0, none⟩), .int .i64 (i : Int)] w fun e w' => ∃ g c, e = .returned (.tuple #[.slice (some ⟨g, 0, none⟩) 64 c, .int .i64 0]) ∧ Row w' (some ⟨g, 0, none⟩) (fun b => w.heap.size ≤ b ∧ b < w'.heap.size) (bcells (s.now.getD i [])) ∧ c ≤ maxLen ∧ 64 ≤ c ∧ Keeps (fun _ => True) w w' := by
 have hsm := h.ok.small
 refine (dread_any w p F s h (i : Int) (by omega) (by omega)).mono ?_
 rintro e w' ⟨v, rfl, ho, hk⟩
 have e1 : s.readL (i : Int) = s.now.getD i [] := (if_neg (by omega)).trans (by rw [Int.toNat_natCast])
 have e2 : s.readE (i : Int) = 0 := if_neg (by omega)
 have hl : (s.now.getD i []).length = 64 := by rw [getD_mem _ _ _ hi]; exact h.ok.nrow _ (List.getElem_mem hi)
 rw [e1] at ho
 rw [e2]
 obtain ⟨g, c, rfl, hge, hlt⟩ := World.ownsRow.form ho (by omega)
 have hroom := own_room ho
 have hr : Row w' (some ⟨g, 0, none⟩) (fun b => w.heap.size ≤ b ∧ b < w'.heap.size) (bcells (s.now.getD i [])) := by
  have ho' := ho
  unfold OwnB at ho'
  rw [show (s.now.getD i []).length = (bcells (s.now.getD i [])).length by rw [bcells_len]] at ho'
  exact Row.of_own ho'
 rw [hl] at hroom
 exact ⟨g, c, by rw [hl], hr, hroom.2, hroom.1, hk⟩
end
end Go.Proofs.YticophaepapjoaaGreatDoor
namespace Go.Proofs.YticophaepapjoaaGreatDoor
def zig (n : Int) : Nat := if n < 0 then (-2 * n - 1).toNat else (2 * n).toNat
def zag (u : Nat) : Int := if u % 2 = 1 then -((u / 2 : Nat) : Int) - 1 else ((u / 2 : Nat) : Int)
theorem zag_zig (n : Int) : zag (zig n) = n := by
 unfold zag zig; split <;> split <;> omega
theorem zig_zag (u : Nat) : zig (zag u) = u := by
 unfold zag zig; split <;> split <;> omega
theorem zig_lt (n : Int) (h1 : -9223372036854775808 ≤ n) (h2 : n < 9223372036854775808) : zig n < 18446744073709551616 := by
 unfold zig; split <;> omega
theorem zag_bd (u : Nat) (h : u < 18446744073709551616) : -9223372036854775808 ≤ zag u ∧ zag u < 9223372036854775808 := by
 unfold zag; split <;> omega
def vin (n : Nat) : List UInt8 :=
 if n < 128 then [UInt8.ofNat n] else UInt8.ofNat (n % 128 + 128) :: vin (n / 128)
 termination_by n
 decreasing_by omega
theorem vin_small (n : Nat) (h : n < 128) : vin n = [UInt8.ofNat n] := by rw [vin, if_pos h]
theorem vin_big (n : Nat) (h : ¬ n < 128) : vin n = UInt8.ofNat (n % 128 + 128) :: vin (n / 128) := by rw [vin, if_neg h]
theorem vin_pos (n : Nat) : 0 < (vin n).length := by rw [vin]; split <;> simp
theorem vin_len (k n : Nat) (h : n < 128 ^ (k + 1)) : (vin n).length ≤ k + 1 := by
 induction k generalizing n with
 | zero => rw [vin_small n (by simpa using h)]; simp
 | succ k ih =>
  by_cases hs : n < 128
  ·rw [vin_small n hs]; simp
  ·rw [vin_big n hs, List.length_cons]
   have := ih (n / 128) (by rw [Nat.div_lt_iff_lt_mul (by decide)]; rw [Nat.pow_succ] at h; exact h)
   omega
theorem vin_len10 (n : Nat) (h : n < 18446744073709551616) : (vin n).length ≤ 10 := vin_len 9 n (Nat.lt_trans h (by decide))
inductive Got where
 | ok (u k : Nat)
 | form
 | more
 deriving DecidableEq
def vget : Nat → Nat → List UInt8 → Got
 | _, _, [] => .more
 | i, u, c :: l =>
  if i = 9 ∧ 1 < c.toNat then .form
  else if 128 ≤ c.toNat then vget (i + 1) (u + c.toNat % 128 * 128 ^ i) l
  else if c.toNat = 0 ∧ 0 < i then .form
  else .ok (u + c.toNat % 128 * 128 ^ i) (i + 1)
theorem vget_ok (i u : Nat) (l : List UInt8) (v k : Nat) (h : vget i u l = .ok v k) : i < k ∧ k ≤ i + l.length := by
 induction l generalizing i u with
 | nil => simp [vget] at h
 | cons c l ih =>
  rw [vget] at h
  split at h
  ·cases h
  ·split at h
   ·have := ih _ _ h; simp; omega
   ·split at h
    ·cases h
    ·injection h with h1 h2; simp; omega
theorem vget_bd (i u : Nat) (l : List UInt8) (v k : Nat) (hi : i ≤ 9) (hu : u < 128 ^ i) (h : vget i u l = .ok v k) : v < 18446744073709551616 ∧ k ≤ 10 := by
 induction l generalizing i u with
 | nil => simp [vget] at h
 | cons c l ih =>
  have hc := c.toNat_lt
  rw [vget] at h
  have hp : u + c.toNat % 128 * 128 ^ i < 128 ^ (i + 1) := by
   have h1 : c.toNat % 128 ≤ 127 := by omega
   have h2 := Nat.mul_le_mul_right (128 ^ i) h1
   rw [Nat.pow_succ]; omega
  by_cases h9 : i = 9
  ·subst h9
   split at h
   ·cases h
   ·split at h
    ·omega
    ·split at h
     ·cases h
     ·injection h with h1 h2
      simp at hu hp h1 ⊢
      omega
  ·have hlt : u + c.toNat % 128 * 128 ^ i < 18446744073709551616 :=
    Nat.lt_of_lt_of_le hp (Nat.le_trans (Nat.pow_le_pow_right (by decide) (show i + 1 ≤ 9 by omega)) (by decide))
   split at h
   ·cases h
   ·split at h
    ·exact ih _ _ (by omega) hp h
    ·split at h
     ·cases h
     ·injection h with h1 h2
      omega
theorem vget_vin_at (n : Nat) : ∀ (i u : Nat) (r : List UInt8), (n * 128 ^ i < 18446744073709551616) → (0 < i → 0 < n) → vget i u (vin n ++ r) = .ok (u + n * 128 ^ i) (i + (vin n).length) := by
 induction n using Nat.strongRecOn with
 | _ n ih =>
  intro i u r hb hn
  have h9 : i ≤ 9 ∨ n = 0 := by
   rcases Nat.lt_or_ge 9 i with h | h
   ·right
    have h1 : 128 ^ 10 ≤ 128 ^ i := Nat.pow_le_pow_right (by decide) h
    have h2 : (128 : Nat) ^ 10 = 1180591620717411303424 := by decide
    rcases Nat.eq_zero_or_pos n with h0 | h0
    ·exact h0
    ·have := Nat.mul_le_mul h0 h1; omega
   ·exact .inl h
  have hi9 : i = 9 → n ≤ 1 := by
   rintro rfl
   have h2 : (128 : Nat) ^ 9 = 9223372036854775808 := by decide
   rw [h2] at hb; omega
  by_cases hs : n < 128
  ·have hc : (UInt8.ofNat n).toNat = n := by rw [UInt8.toNat_ofNat']; omega
   rw [vin_small n hs]
   simp only [List.cons_append, List.nil_append, vget, hc, List.length_singleton]
   rw [if_neg (by omega), if_neg (by omega), if_neg (by omega), Nat.mod_eq_of_lt hs]
  ·have hc : (UInt8.ofNat (n % 128 + 128)).toNat = n % 128 + 128 := by rw [UInt8.toNat_ofNat']; omega
   have hq : n / 128 * 128 ^ (i + 1) ≤ n * 128 ^ i := by
    rw [Nat.pow_succ, Nat.mul_comm (128 ^ i) 128, ← Nat.mul_assoc]
    exact Nat.mul_le_mul_right _ (Nat.div_mul_le_self n 128)
   rw [vin_big n hs]
   simp only [List.cons_append, vget, hc, List.length_cons]
   rw [if_neg (by omega), if_pos (by omega), ih (n / 128) (by omega) (i + 1) _ r (by omega) (by omega)]
   have e : (n % 128 + 128) % 128 = n % 128 := by omega
   have e2 : n % 128 * 128 ^ i + n / 128 * 128 ^ (i + 1) = n * 128 ^ i := by
    rw [Nat.pow_succ, Nat.mul_comm (128 ^ i) 128, ← Nat.mul_assoc, ← Nat.add_mul]
    congr 1; omega
   rw [e, Nat.add_assoc, e2, Nat.add_assoc, Nat.add_comm 1]
theorem vget_vin (n : Nat) (r : List UInt8) (h : n < 18446744073709551616) : vget 0 0 (vin n ++ r) = .ok n (vin n).length := by
 have := vget_vin_at n 0 0 r (by simpa using h) (fun h => absurd h (by decide))
 simpa using this
theorem vin_vget (l : List UInt8) : ∀ (i u v k : Nat), vget i u l = .ok v k → ∃ n r, v = u + n * 128 ^ i ∧ l = vin n ++ r ∧ k = i + (vin n).length ∧ (0 < i → 0 < n) := by
 induction l with
 | nil => intro i u v k h; simp [vget] at h
 | cons c l ih =>
  intro i u v k h
  have hcl := c.toNat_lt
  rw [vget] at h
  split at h
  ·cases h
  ·split at h
   ·rename_i _ hc
    obtain ⟨n, r, h1, h2, h3, h4⟩ := ih _ _ _ _ h
    have hn : 0 < n := h4 (by omega)
    have hbig : ¬ (c.toNat % 128 + n * 128) < 128 := by omega
    refine ⟨c.toNat % 128 + n * 128, r, ?_, ?_, ?_, fun _ => by omega⟩
    ·rw [h1, Nat.pow_succ, Nat.add_mul]
     rw [Nat.mul_comm (128 ^ i) 128, ← Nat.mul_assoc]; omega
    ·have e1 : (c.toNat % 128 + n * 128) % 128 = c.toNat % 128 := by omega
     have e2 : (c.toNat % 128 + n * 128) / 128 = n := by omega
     have e3 : UInt8.ofNat (c.toNat % 128 + 128) = c := by
      rw [show c.toNat % 128 + 128 = c.toNat by omega]; exact UInt8.ofNat_toNat
     rw [vin_big _ hbig, e1, e2, e3, h2]; rfl
    ·have e2 : (c.toNat % 128 + n * 128) / 128 = n := by omega
     rw [h3, vin_big _ hbig, e2, List.length_cons]; omega
   ·split at h
    ·cases h
    ·injection h with h1 h2
     have hs : c.toNat < 128 := by omega
     have e3 : UInt8.ofNat c.toNat = c := UInt8.ofNat_toNat
     refine ⟨c.toNat, l, ?_, ?_, ?_, by omega⟩
     ·rw [← h1, Nat.mod_eq_of_lt hs]
     ·rw [vin_small _ hs, e3]; rfl
     ·rw [vin_small _ hs, ← h2]; rfl
def putZ (n : Int) : List UInt8 := vin (zig n)
def putT (s : List UInt8) : List UInt8 := putZ s.length ++ s
theorem putZ_len (n : Int) (h1 : -9223372036854775808 ≤ n) (h2 : n < 9223372036854775808) : (putZ n).length ≤ 10 := vin_len10 _ (zig_lt n h1 h2)
def getZ (l : List UInt8) : Int × Nat × Nat :=
 match vget 0 0 l with
 | .ok u k => (zag u, k, 0)
 | .form => (0, 0, 1)
 | .more => (0, 0, 2)
theorem getZ_put (n : Int) (r : List UInt8) (h1 : -9223372036854775808 ≤ n) (h2 : n < 9223372036854775808) : getZ (putZ n ++ r) = (n, (putZ n).length, 0) := by
 unfold getZ putZ; rw [vget_vin _ _ (zig_lt n h1 h2)]; simp only [zag_zig]
theorem getZ_ok (l : List UInt8) (n : Int) (k : Nat) (h : getZ l = (n, k, 0)) : ∃ r, l = putZ n ++ r ∧ k = (putZ n).length ∧ -9223372036854775808 ≤ n ∧ n < 9223372036854775808 := by
 unfold getZ at h
 split at h
 ·rename_i u j hv
  obtain ⟨m, r, h1, h2, h3, _⟩ := vin_vget l 0 0 u j hv
  have hb := vget_bd 0 0 l u j (by decide) (by decide) hv
  simp at h1 h3
  subst h1
  have e1 : zag u = n := by simpa using congrArg (·.1) h
  have e2 : j = k := by simpa using congrArg (·.2.1) h
  have hz := zag_bd u hb.1
  refine ⟨r, ?_, ?_, ?_, ?_⟩
  ·unfold putZ; rw [← e1, zig_zag]; exact h2
  ·unfold putZ; rw [← e1, zig_zag, ← e2]; exact h3
  ·omega
  ·omega
 ·simp at h
 ·simp at h
theorem getZ_cases (l : List UInt8) : (∃ n k, getZ l = (n, k, 0) ∧ 0 < k ∧ k ≤ 10 ∧ k ≤ l.length ∧ -9223372036854775808 ≤ n ∧ n < 9223372036854775808) ∨ getZ l = (0, 0, 1) ∨ getZ l = (0, 0, 2) := by
 unfold getZ
 split
 ·rename_i u k hv
  have h1 := vget_ok 0 0 l u k hv
  have h2 := vget_bd 0 0 l u k (by decide) (by decide) hv
  have h3 := zag_bd u h2.1
  exact .inl ⟨_, _, rfl, by omega, by omega, by omega, h3.1, h3.2⟩
 ·exact .inr (.inl rfl)
 ·exact .inr (.inr rfl)
def getT (l : List UInt8) : List UInt8 × Nat × Nat :=
 match getZ l with
 | (n, k, 0) => if n < 0 ∨ 65536 < n then ([], 0, 1) else if (l.length : Int) < k + n then ([], 0, 2) else ((l.drop k).take n.toNat, k + n.toNat, 0)
 | (_, _, e + 1) => ([], 0, e + 1)
theorem getT_put (s r : List UInt8) (h : s.length ≤ 65536) : getT (putT s ++ r) = (s, (putT s).length, 0) := by
 unfold getT putT
 rw [List.append_assoc, getZ_put _ _ (by omega) (by omega)]
 simp only
 rw [if_neg (by omega), if_neg (by simp; omega)]
 simp
end Go.Proofs.YticophaepapjoaaGreatDoor
namespace Go.Proofs.YticophaepapjoaaGreatDoor
structure It where
 key : ByteArray
 val : ByteArray
 till : Int
 gone : Bool
deriving DecidableEq
def It.may (x : It) : Bool :=
 decide (1 ≤ x.key.size) && decide (x.key.size ≤ 40) && decide (x.val.size ≤ 200) && decide (0 ≤ x.till) && decide (x.till ≤ 1099511627776) && (!x.gone || (decide (x.val.size = 0) && decide (x.till = 0)))
def It.live (x : It) (now : Int) : Bool := x.may && !x.gone && (decide (x.till = 0) || decide (now < x.till))
def It.flag (x : It) : Int := if x.gone then 1 else 0
def It.bytes (x : It) : List UInt8 := putT x.key.data.toList ++ (putT x.val.data.toList ++ (putZ x.till ++ putZ x.flag))
def bytesOf (l : List It) : List UInt8 := l.flatMap It.bytes
def encs (l : List It) : List UInt8 := if l.all It.may then bytesOf l else []
theorem It.may_is {x : It} (h : x.may = true) : 1 ≤ x.key.size ∧ x.key.size ≤ 40 ∧ x.val.size ≤ 200 ∧ 0 ≤ x.till ∧ x.till ≤ 1099511627776 := by
 simp only [It.may, Bool.and_eq_true, decide_eq_true_eq] at h
 omega
theorem putT_inj {a b r s : List UInt8} (ha : a.length ≤ 65536) (hb : b.length ≤ 65536) (h : putT a ++ r = putT b ++ s) : a = b ∧ r = s := by
 have h1 := getT_put a r ha
 rw [h, getT_put b s hb] at h1
 injection h1 with h1 _
 subst h1
 exact ⟨rfl, List.append_cancel_left h⟩
theorem putZ_inj {a b : Int} {r s : List UInt8} (ha1 : -9223372036854775808 ≤ a) (ha2 : a < 9223372036854775808) (hb1 : -9223372036854775808 ≤ b) (hb2 : b < 9223372036854775808) (h : putZ a ++ r = putZ b ++ s) : a = b ∧ r = s := by
 have h1 := getZ_put a r ha1 ha2
 rw [h, getZ_put b s hb1 hb2] at h1
 injection h1 with h1 _
 subst h1
 exact ⟨rfl, List.append_cancel_left h⟩
theorem It.flag_bd (x : It) : 0 ≤ x.flag ∧ x.flag ≤ 1 := by unfold It.flag; split <;> omega
theorem It.flag_inj {x y : It} (h : x.flag = y.flag) : x.gone = y.gone := by
 unfold It.flag at h
 cases hx : x.gone <;> cases hy : y.gone <;> simp [hx, hy] at h <;> rfl
theorem data_inj {a b : ByteArray} (h : a.data.toList = b.data.toList) : a = b := by
 cases a; cases b; simp only [Array.toList_inj] at h; rw [h]
theorem It.bytes_inj {x y : It} {r s : List UInt8} (hx : x.may = true) (hy : y.may = true) (h : x.bytes ++ r = y.bytes ++ s) : x = y ∧ r = s := by
 have mx := It.may_is hx
 have my := It.may_is hy
 have fx := x.flag_bd
 have fy := y.flag_bd
 have kx : x.key.data.toList.length = x.key.size := by simp
 have ky : y.key.data.toList.length = y.key.size := by simp
 have vx : x.val.data.toList.length = x.val.size := by simp
 have vy : y.val.data.toList.length = y.val.size := by simp
 unfold It.bytes at h
 simp only [List.append_assoc] at h
 obtain ⟨e1, h⟩ := putT_inj (by omega) (by omega) h
 obtain ⟨e2, h⟩ := putT_inj (by omega) (by omega) h
 obtain ⟨e3, h⟩ := putZ_inj (by omega) (by omega) (by omega) (by omega) h
 obtain ⟨e4, h⟩ := putZ_inj (by omega) (by omega) (by omega) (by omega) h
 refine ⟨?_, h⟩
 obtain ⟨k1, v1, t1, g1⟩ := x
 obtain ⟨k2, v2, t2, g2⟩ := y
 have a1 := data_inj e1
 have a2 := data_inj e2
 have a4 := It.flag_inj e4
 simp only at a1 a2 e3 a4
 subst a1 a2 e3 a4
 rfl
theorem It.bytes_pos (x : It) : 0 < x.bytes.length := by
 have := vin_pos (zig (x.key.data.toList.length : Int))
 unfold It.bytes putT putZ
 simp only [List.length_append]
 omega
theorem bytesOf_cons (x : It) (l : List It) : bytesOf (x :: l) = x.bytes ++ bytesOf l := by simp [bytesOf]
theorem bytesOf_snoc (l : List It) (x : It) : bytesOf (l ++ [x]) = bytesOf l ++ x.bytes := by simp [bytesOf]
theorem bytesOf_pos {l : List It} (h : l ≠ []) : 0 < (bytesOf l).length := by
 cases l with
 | nil => exact absurd rfl h
 | cons x l =>
  rw [bytesOf_cons, List.length_append]
  have := x.bytes_pos
  omega
theorem bytesOf_inj {l m : List It} (hl : l.all It.may = true) (hm : m.all It.may = true) (h : bytesOf l = bytesOf m) : l = m := by
 induction l generalizing m with
 | nil =>
  cases m with
  | nil => rfl
  | cons y m =>
   have := bytesOf_pos (l := y :: m) (by simp)
   rw [← h] at this
   simp [bytesOf] at this
 | cons x l ih =>
  cases m with
  | nil =>
   have := bytesOf_pos (l := x :: l) (by simp)
   rw [h] at this
   simp [bytesOf] at this
  | cons y m =>
   rw [List.all_cons, Bool.and_eq_true] at hl hm
   rw [bytesOf_cons, bytesOf_cons] at h
   obtain ⟨rfl, e⟩ := It.bytes_inj hl.1 hm.1 h
   rw [ih hl.2 hm.2 e]
theorem encs_may {l : List It} (h : l.all It.may = true) : encs l = bytesOf l := by unfold encs; rw [if_pos h]
theorem It.bytes_len {x : It} (h : x.may = true) : x.bytes.length ≤ 280 := by
 have m := It.may_is h
 have f := x.flag_bd
 have kx : x.key.data.toList.length = x.key.size := by simp
 have vx : x.val.data.toList.length = x.val.size := by simp
 have h1 := putZ_len (x.key.data.toList.length : Int) (by omega) (by omega)
 have h2 := putZ_len (x.val.data.toList.length : Int) (by omega) (by omega)
 have h3 := putZ_len x.till (by omega) (by omega)
 have h4 := putZ_len x.flag (by omega) (by omega)
 unfold It.bytes putT
 simp only [List.length_append]
 omega
theorem bytesOf_len {l : List It} (h : l.all It.may = true) : (bytesOf l).length ≤ 280 * l.length := by
 induction l with
 | nil => simp [bytesOf]
 | cons x l ih =>
  rw [List.all_cons, Bool.and_eq_true] at h
  rw [bytesOf_cons, List.length_append, List.length_cons]
  have := x.bytes_len h.1
  have := ih h.2
  omega
theorem It.bytes_four (x : It) : 4 ≤ x.bytes.length := by
 have h1 := vin_pos (zig (x.key.data.toList.length : Int))
 have h2 := vin_pos (zig (x.val.data.toList.length : Int))
 have h3 := vin_pos (zig x.till)
 have h4 := vin_pos (zig x.flag)
 unfold It.bytes putT putZ
 simp only [List.length_append]
 omega
theorem bytesOf_four (l : List It) : 4 * l.length ≤ (bytesOf l).length := by
 induction l with
 | nil => simp
 | cons x l ih =>
  rw [bytesOf_cons, List.length_append, List.length_cons]
  have := x.bytes_four
  omega
end Go.Proofs.YticophaepapjoaaGreatDoor
namespace Go.Proofs.YticophaepapjoaaGreatDoor
open Go Go.RowKit
def It.cells (x : It) : List Value := [.string x.key, .string x.val, .int .i64 x.till, .bool x.gone]
def itCells (l : List It) : List Value := l.flatMap It.cells
def It.fits (x : It) : Prop := x.key.size ≤ 1000000 ∧ x.val.size ≤ 1000000 ∧ -9223372036854775808 ≤ x.till ∧ x.till < 9223372036854775808
theorem It.may_fits {x : It} (h : x.may = true) : x.fits := by
 have := It.may_is h
 exact ⟨by omega, by omega, by omega, by omega⟩
theorem itCells_len (l : List It) : (itCells l).length = l.length * 4 := by
 induction l with
 | nil => rfl
 | cons r l ih =>
  have e : itCells (r :: l) = r.cells ++ itCells l := by simp [itCells]
  rw [e, List.length_append, ih, List.length_cons]
  show 4 + _ = _
  omega
theorem itCells_at (l : List It) (j i : Nat) (hj : j < l.length) (hi : i < 4) : (itCells l)[j * 4 + i]? = (l[j].cells)[i]? := by
 induction l generalizing j with
 | nil => simp at hj
 | cons r l ih =>
  have e : itCells (r :: l) = r.cells ++ itCells l := by simp [itCells]
  rw [e]
  cases j with
  | zero =>
   rw [Nat.zero_mul, Nat.zero_add, List.getElem?_append_left (by show i < 4; exact hi)]
   rfl
  | succ j =>
   rw [List.getElem?_append_right (by show 4 ≤ _; omega), show (j + 1) * 4 + i - r.cells.length = j * 4 + i by show (j + 1) * 4 + i - 4 = _; omega, ih j (by simpa using hj)]
   rfl
theorem itCells_snoc (l : List It) (r : It) : itCells (l ++ [r]) = itCells l ++ r.cells := by simp [itCells]
def ItsAt (w : World) (A : Option Addr) (F : Nat → Prop) (l : List It) : Prop := ∀ k (h : k < l.length), ∃ b o, A = some ⟨b, o, none⟩ ∧ F b ∧ w.cell? ⟨b, o + k * 4, none⟩ = some (.string l[k].key) ∧
 w.cell? ⟨b, o + k * 4 + 1, none⟩ = some (.string l[k].val) ∧ w.cell? ⟨b, o + k * 4 + 2, none⟩ = some (.int .i64 l[k].till) ∧ w.cell? ⟨b, o + k * 4 + 3, none⟩ = some (.bool l[k].gone)
section
variable {w w' : World} {A : Option Addr} {F G : Nat → Prop} {l : List It}
theorem ItsAt.of_row (h : Row w A F (itCells l)) : ItsAt w A F l := fun k hk => by
 obtain ⟨b, o, e, hF, hc⟩ := h (fun e => by have := itCells_len l; rw [e] at this; simp at this; omega)
 have cell : ∀ i v, i < 4 → (l[k].cells)[i]? = some v → w.cell? ⟨b, o + k * 4 + i, none⟩ = some v := fun i v hi hv => by
  rw [Nat.add_assoc]
  exact hc _ v (by rw [itCells_at l k i hk hi]; exact hv)
 exact ⟨b, o, e, hF, by simpa using cell 0 _ (by decide) rfl, cell 1 _ (by decide) rfl, cell 2 _ (by decide) rfl, cell 3 _ (by decide) rfl⟩
theorem ItsAt.of_own {base n c : Nat} {e : TypeId} (h : w.ownsRow base e 4 (.slice A n c) n (itCells l)) (hn : n = l.length) : ItsAt w A (fun b => base ≤ b ∧ b < w.heap.size) l := by
 rcases Nat.eq_zero_or_pos n with h0 | hp
 ·intro k hk; omega
 obtain ⟨g, cap, e, hb, -⟩ := h.form hp
 injection e with e1 e2 e3
 subst e1
 have hc := h.cells (g := g) rfl
 refine ItsAt.of_row fun _ => ⟨g, 0, rfl, h.lt g rfl, fun i v hv => ?_⟩
 have := hc i v hv
 rw [WideShapes.add_plain] at this
 exact this
theorem ItsAt.fresh (w : World) (C : Array Value) (t : TypeId) (fr : Nat × Nat) (b : Nat) (hb : b = w.heap.size) (hF : F b) (l : List It) (hx : C.toList = itCells l) : ItsAt (w.alloc (.cells C t fr)) (some ⟨b, 0, none⟩) F l :=
 ItsAt.of_row (Row.fresh w C t fr b hb hF _ hx)
end
theorem item_elem : Elem Tryz.prog 133 40 (.agg #[.string ⟨#[]⟩, .string ⟨#[]⟩, .int .i64 0, .bool false]) 4 48 := ⟨Tryz.underlying133, by kernel_rfl, rfl, by decide⟩
structure ItemOK where
 T : World → Prop
 tk : ∀ {w w' : World}, T w → Keeps (fun _ => True) w w' → T w'
 may : ∀ (w : World) (x : It), T w → x.fits →
  Calls Tryz.prog 42 #[.agg #[.string x.key, .string x.val, .int .i64 x.till, .bool x.gone]] w fun e w' => e = .returned (.bool x.may) ∧ Keeps (fun _ => True) w w'
 live : ∀ (w : World) (x : It) (now : Int), T w → x.fits → -9223372036854775808 ≤ now → now < 9223372036854775808 →
  Calls Tryz.prog 58 #[.agg #[.string x.key, .string x.val, .int .i64 x.till, .bool x.gone], .int .i64 now] w fun e w' => e = .returned (.bool (x.live now)) ∧ Keeps (fun _ => True) w w'
 encode : ∀ (w : World) (A : Option Addr) (c : Nat) (l : List It), T w → ItsAt w A (fun _ => True) l → l.length ≤ c → c ≤ maxLen → l.length ≤ 1000 → (∀ x ∈ l, x.fits) →
  Calls Tryz.prog 45 #[.slice A l.length c] w fun e w' => ∃ B k, e = .returned (.slice B (encs l).length k) ∧ (encs l).length ≤ k ∧ k ≤ maxLen ∧ Row w' B (fun b => w.heap.size ≤ b ∧ b < w'.heap.size) (bcells (encs l)) ∧ Keeps (fun _ => True) w w'
 decode : ∀ (w : World) (A : Option Addr) (c : Nat) (b : List UInt8), T w → Row w A (fun _ => True) (bcells b) → b.length ≤ c → c ≤ maxLen → b.length ≤ 1000000 →
  Calls Tryz.prog 120 #[.slice A b.length c] w fun e w' => Keeps (fun _ => True) w w' ∧
   ((∃ B k l, e = .returned (.tuple #[.slice B l.length k, .int .i64 0]) ∧ l ≠ [] ∧ l.all It.may = true ∧ bytesOf l = b ∧ l.length ≤ k ∧ k ≤ maxLen ∧ ItsAt w' B (fun b => w.heap.size ≤ b ∧ b < w'.heap.size) l) ∨
    ((∀ l : List It, l ≠ [] → l.all It.may = true → bytesOf l ≠ b) ∧ ∃ B k, e = .returned (.tuple #[.slice B 0 k, .int .i64 1])))
end Go.Proofs.YticophaepapjoaaGreatDoor
namespace Go.Proofs.YticophaepapjoaaGreatDoor
open Go Go.Sort
def Rising (l : List ByteArray) : Prop := l.Pairwise fun a b => Op.bytesLess a.data.toList b.data.toList = true
end Go.Proofs.YticophaepapjoaaGreatDoor
namespace Go.Proofs.YticophaepapjoaaGreatDoor
open Go
structure FEnt where
 x : It
 opens : Nat
def FEnt.cost (e : FEnt) : Nat := e.x.key.size + e.x.val.size + 80 + 400 * e.opens
def fcosts (l : List FEnt) : Nat := (l.map FEnt.cost).sum
def fopened : List FEnt → List FEnt
 | [] => []
 | [e] => [⟨e.x, e.opens + 1⟩]
 | e :: l => e :: fopened l
structure FSt where
 place : Nat
 segs : Nat
 ents : List FEnt
 gone : Nat
 age : Nat
def FSt.has (st : FSt) (i : Nat) : Prop := st.place ≤ i ∧ i < st.place + 8 * st.segs
def isKF (k : ByteArray) (e : FEnt) : Bool := e.x.key.data.toList == k.data.toList
def fLast (l : List FEnt) (n : Nat) (k : ByteArray) : Option It := ((l.drop n).reverse.find? (isKF k)).map (·.x)
def FSt.at_ (st : FSt) (k : ByteArray) : Option It := (fLast st.ents st.gone k).bind fun x => if x.gone then none else some x
structure FSt.Ok (st : FSt) : Prop where
 segs : 3 ≤ st.segs ∧ st.segs ≤ 200
 one : ∀ e ∈ st.ents, e.x.may = true
 gone : st.gone ≤ st.ents.length
 kept : ∀ i, i ≤ st.ents.length → fcosts (st.ents.drop i) ≤ 200 * (st.segs - 2) → st.gone ≤ i
def grave (k : ByteArray) : FEnt := ⟨⟨k, ⟨#[]⟩, 0, true⟩, 0⟩
def fput (x : It) : FEnt := ⟨x, 0⟩
def keyOk (k : ByteArray) : Prop := 1 ≤ k.size ∧ k.size ≤ 40
theorem isKF_iff {k : ByteArray} {e : FEnt} : isKF k e = true ↔ e.x.key = k := by
 unfold isKF
 rw [beq_iff_eq]
 exact ⟨fun h => data_inj h, fun h => by rw [h]⟩
theorem FSt.Ok.whole {st : FSt} (h : st.Ok) (hc : fcosts st.ents ≤ 200 * (st.segs - 2)) : st.gone = 0 := by
 have := h.kept 0 (Nat.zero_le _) (by simpa using hc)
 omega
theorem fLast_app (l r : List FEnt) (k : ByteArray) : fLast (l ++ r) 0 k = (fLast r 0 k).or (fLast l 0 k) := by
 unfold fLast
 rw [List.drop_zero, List.drop_zero, List.drop_zero, List.reverse_append, List.find?_append]
 cases r.reverse.find? (isKF k) <;> rfl
theorem fLast_snoc (l : List FEnt) (e : FEnt) (k : ByteArray) : fLast (l ++ [e]) 0 k = if e.x.key = k then some e.x else fLast l 0 k := by
 rw [fLast_app]
 by_cases h : e.x.key = k
 ·rw [if_pos h]
  simp [fLast, List.find?, isKF_iff.2 h]
 ·have : isKF k e = false := by
   cases hk : isKF k e with
   | false => rfl
   | true => exact absurd (isKF_iff.1 hk) h
  rw [if_neg h]
  simp [fLast, List.find?, this]
end Go.Proofs.YticophaepapjoaaGreatDoor
