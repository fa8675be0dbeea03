/-
  MadeNew, MadeCrash: texts of mine, joined.
-/
import Derived.Test.YtemkjodkmehffaaGreatDoorAllM27
import Derived.WalkSpells
import Derived.Lib.MinMax
import Derived.Test.YtemkjodkmehffaaGreatDoorAllM15
namespace Go.Proofs.YtemkjodkmehffaaGreatDoor
open Go Go.RowKit Go.Joins Go.Maps
theorem flat_blank (n : Nat) : flat (List.replicate n blank) = List.replicate (n * 64) (.int .u8 0) := by
 rw [List.eq_replicate_iff]
 refine ⟨by rw [flat_len _ fun r hr => by rw [(List.mem_replicate.1 hr).2]; rfl, List.length_replicate], fun v hv => ?_⟩
 obtain ⟨r, hr, hv⟩ := List.mem_flatMap.1 hv
 rw [(List.mem_replicate.1 hr).2] at hv
 obtain ⟨c, hc, rfl⟩ := List.mem_map.1 hv
 rw [(List.mem_replicate.1 hc).2]; rfl
theorem made_blank (n : Nat) : (madeCells secZ.cells (n * 64)).toList = flat (List.replicate n blank) := by
 rw [flat_blank, List.eq_replicate_iff]
 refine ⟨by rw [Array.length_toList, size_madeCells], fun v hv => ?_⟩
 unfold madeCells at hv
 rw [Array.toList_map] at hv
 obtain ⟨i, _, rfl⟩ := List.mem_map.1 hv
 have hz : secZ.cells = Array.replicate 64 (.int .u8 0) := rfl
 have hs : (Array.replicate 64 (Value.int .u8 0)).size = 64 := by simp
 have hi : i % 64 < 64 := Nat.mod_lt _ (by decide)
 rw [hz, hs, getElem!_pos _ _ (by rw [hs]; exact hi), Array.getElem_replicate]
theorem clear_look (s : SDev) (n : Nat) (h : s.dirty = List.replicate n false) : s.look = fun _ => none := by
 funext l
 unfold SDev.look
 split
 ·rename_i i
  have : s.dirty.getD i.toNat false = false := by
   rw [h]; simp only [List.getD_eq_getElem?_getD, List.getElem?_replicate]; split <;> rfl
  rw [if_neg (by rw [this]; simp)]
 ·rfl
theorem clear_loose (s : SDev) (n : Nat) (h : s.dirty = List.replicate n false) : s.loose = [] := by
 show (List.range s.dirty.length).filter _ = []
 rw [List.filter_eq_nil_iff]
 intro i _
 have : s.dirty.getD i false = false := by
  rw [h]; simp only [List.getD_eq_getElem?_getD, List.getElem?_replicate]; split <;> rfl
 rw [this]; simp
set_option maxHeartbeats 400000 in
theorem dlasting_any (w : World) (s : SDev) (hok : s.Ok) (hd : s.dirty = List.replicate s.now.length false) (hs : s.fast = s.now) (hc : s.calls = 0) (g c : Nat) (h : w.ownsRow 0 89 64 (.slice (some ⟨g, 0, none⟩) s.now.length c) s.now.length (flat s.now)) :
  Calls Tryz.prog 25 #[.slice (some ⟨g, 0, none⟩) s.now.length c] w fun e w' => ∃ q F, e = .returned (.pointer (some ⟨q, 0, none⟩)) ∧ DAt w' q F s ∧ (∀ b, F.M b → b = g ∨ w.heap.size ≤ b) ∧ (∀ b, ¬ F.I b) ∧ Keeps (fun _ => True) w w' := by
 have hg : g < w.heap.size := (h.lt g rfl).2
 have hfin : ∃ q F, Ending.returned (Value.pointer (some ⟨w.heap.size + 1, 0, none⟩)) = .returned (.pointer (some ⟨q, 0, none⟩)) ∧ DAt ((w.alloc (.map #[] 0)).alloc (.cells #[.slice (some ⟨g, 0, none⟩) s.now.length c, .map (some w.heap.size), .int .i64 0] 92)) q F s ∧ (∀ b, F.M b → b = g ∨ w.heap.size ≤ b) ∧ (∀ b, ¬ F.I b) ∧
   Keeps (fun _ => True) w ((w.alloc (.map #[] 0)).alloc (.cells #[.slice (some ⟨g, 0, none⟩) s.now.length c, .map (some w.heap.size), .int .i64 0] 92)) := by
  have hk1 : Keeps (fun _ => True) w ((w.alloc (.map #[] 0)).alloc (.cells #[.slice (some ⟨g, 0, none⟩) s.now.length c, .map (some w.heap.size), .int .i64 0] 92)) := ((Keeps.refl _ w).alloc _).alloc _
  have hb := heap_alloc_new (w.alloc (.map #[] 0)) (.cells #[.slice (some ⟨g, 0, none⟩) s.now.length c, .map (some w.heap.size), .int .i64 0] 92)
  have hz : (w.alloc (.map #[] 0)).heap.size = w.heap.size + 1 := by simp
  rw [hz] at hb
  have hm := (MapIs.made Tryz.prog 3 w).keep ((Keeps.refl (fun _ => True) _).alloc (.cells #[.slice (some ⟨g, 0, none⟩) s.now.length c, .map (some w.heap.size), .int .i64 0] 92)) trivial
  refine ⟨w.heap.size + 1, ⟨fun b => b = w.heap.size + 1 ∨ b = g ∨ b = w.heap.size, fun _ => False⟩, rfl, ⟨hok, fun b hb => ?_, fun b _ hi => hi, fun i _ => by rw [hs], g, c, w.heap.size, ?_, hk1.own h fun _ _ => trivial, ?_, ?_, .inl rfl, .inr (.inl rfl), .inr (.inr rfl)⟩, fun b hb => ?_, fun b hb => hb, hk1⟩
  ·have : ((w.alloc (.map #[] 0)).alloc (.cells #[.slice (some ⟨g, 0, none⟩) s.now.length c, .map (some w.heap.size), .int .i64 0] 92)).heap.size = w.heap.size + 2 := by simp
   rcases hb with (rfl | rfl | rfl) | hb <;> first | omega | exact hb.elim
  ·rw [hc]; exact hb
  ·rw [clear_look s _ hd, clear_loose s _ hd]; exact hm
  ·simp; omega
  ·rcases hb with rfl | rfl | rfl
   ·exact .inr (by omega)
   ·exact .inl rfl
   ·exact .inr (Nat.le_refl _)
 have HF := Lib.hid hfin
 have hmm := @run_makeMap Tryz.prog
 clear hfin h hd hs hc hok
 go_enter Tryz.func25, Tryz.ntmps25
 go_wp2
 go_ret
 exact HF.out
set_option maxHeartbeats 400000 in
theorem dnew_any (w : World) (n : Int) (h1 : -9223372036854775808 ≤ n) (h2 : n < 9223372036854775808) :
  Calls Tryz.prog 9 #[.int .i64 n] w fun e w' => ∃ p F, e = .returned (.pointer (some ⟨p, 0, none⟩)) ∧ DAt w' p F (SDev.new (clampN n)) ∧ (∀ b, F.all b → w.heap.size ≤ b) ∧ Keeps (fun _ => True) w w' := by
 have e2 : min (max n 1) 2048 = ((clampN n : Nat) : Int) := by unfold clampN; omega
 have hk := clampN_bd n
 generalize clampN n = k at e2 hk
 go_enter Tryz.func9, Tryz.ntmps9
 go_wp2_with (refine list_make rfl (.tmp 5) (.tmp 5) 67 rfl sec_elem .i64 .i64 k rfl rfl ?b2 ?b3 (flat (List.replicate k blank)) (made_blank k) ?_)
 case b2 => omega
 case b3 => unfold maxLen; omega
 intro w2 hown hg
 have hk2 : Keeps (fun _ => True) w w2 := Keeps.of_grown hg (fun _ h => by cases h)
 have hl := dlasting_any w2 (SDev.new k) (new_ok k hk.1 hk.2) (by simp [SDev.new]) rfl rfl w.heap.size k (by
  have e : (SDev.new k).now.length = k := by simp [SDev.new]
  rw [e]; exact ownsRow_le hown (Nat.zero_le _))
 have e : (SDev.new k).now.length = k := by simp [SDev.new]
 rw [e] at hl
 have HL := Lib.hid hl
 have HK := Lib.hid hk2
 clear hl hown hg hk2 e e2
 go_wp2_with fail
 refine HL.out.mono ?_
 rintro e w3 ⟨q, F, rfl, hD, hM, hI, hk3⟩
 have H1 := Lib.hid (show ∃ p F, Ending.returned (.pointer (some ⟨q, 0, none⟩)) = .returned (.pointer (some ⟨p, 0, none⟩)) ∧ DAt w3 p F (SDev.new k) ∧ (∀ b, F.all b → w.heap.size ≤ b) ∧ Keeps (fun _ => True) w w3 from ⟨q, F, rfl, hD, fun b hb => by
  rcases hb with hb | hb
  ·rcases hM b hb with rfl | h
   ·exact Nat.le_refl _
   ·exact Nat.le_trans HK.out.size h
  ·exact (hI b hb).elim, HK.out.trans hk3⟩)
 clear hD hM hI hk3
 go_wp2_with fail
 go_ret
 exact H1.out
set_option maxHeartbeats 400000 in
theorem clone_sectors (w : World) (g c n : Nat) (rows : List (List UInt8)) (h : w.ownsRow 0 89 64 (.slice (some ⟨g, 0, none⟩) n c) n (flat rows)) (h1 : 1 ≤ n) (hn : n ≤ 2048) :
  Calls Tryz.prog 47 #[.slice (some ⟨g, 0, none⟩) n c] w fun e w' => ∃ g' c', e = .returned (.slice (some ⟨g', 0, none⟩) n c') ∧ w'.ownsRow 0 89 64 (.slice (some ⟨g', 0, none⟩) n c') n (flat rows) ∧ w.heap.size ≤ g' ∧ Keeps (fun _ => True) w w' := by
 have hne := fun w : World => Lib.run_eql_slice_nil (P := Tryz.prog) w 67 89 (some ⟨g, 0, none⟩) n c 0 0 Tryz.underlying67
 have h0 : (w.alloc (.cells #[] 89)).ownsRow w.heap.size 89 64 (.slice (some ⟨w.heap.size, 0, none⟩) 0 0) 0 [] := World.ownsRow_made w #[] 0 (Nat.le_refl _) (by decide) rfl
 have hlen : (flat rows).length = n * 64 := h.1
 have hsrc : Src Tryz.prog 64 67 (.slice (some ⟨g, 0, none⟩) n c) n (flat rows) (w.alloc (.cells #[] 89)) :=
  Src.ofSlice _ Tryz.underlying67 ⟨g, 0, none⟩ n c (flat rows) hlen (fun j v hv => by
   have := (((Keeps.refl (fun _ => True) w).alloc (.cells #[] 89)).own h fun _ _ => trivial).cells (g := g) rfl j v hv
   exact this) (flat_one rows)
 have H0 := Lib.hid h0
 have HS := Lib.hid hsrc
 clear h h0 hsrc
 go_enter Tryz.func47, Tryz.ntmps47
 go_wp2_with (at_builtin; refine sec_elem.list_append rfl (.tmp 5) (.tmp 6) _ rfl rfl H0.out rfl HS.out ?c3 ?c4 ?c5 ?_)
 case c3 => unfold maxLen; omega
 case c4 => omega
 case c5 => simp
 intro v' w1 hown' hg hb
 have hk : Keeps (fun _ => True) w w1 := by
  exact ((Onto.refl _ _).grown hg (by simpa using hb)).keeps ((Keeps.refl _ w).alloc _) (by simp [Value.ownBlock])
 obtain ⟨g', c', rfl, hbase, hlt⟩ := hown'.form h1
 have H1 := Lib.hid (show ∃ g0 c0, Ending.returned (.slice (some ⟨g', 0, none⟩) n c') = .returned (.slice (some ⟨g0, 0, none⟩) n c0) ∧ w1.ownsRow 0 89 64 (.slice (some ⟨g0, 0, none⟩) n c0) n (flat rows) ∧ w.heap.size ≤ g0 ∧ Keeps (fun _ => True) w w1 from
  ⟨g', c', rfl, ownsRow_le hown' (Nat.zero_le _), hbase, hk⟩)
 clear hk hown' hg hb hbase hlt hlen
 go_wp2
 go_ret
 exact H1.out
def backN (s : SDev) (keep : List Bool) (j : Nat) : List (List UInt8) :=
 (List.range j).foldl (fun acc t => if keep.getD t false then acc else acc.set (s.loose.getD t 0) (s.fast.getD (s.loose.getD t 0) [])) s.now
theorem backN_next (s : SDev) (keep : List Bool) (j : Nat) : backN s keep (j + 1) = if keep.getD j false then backN s keep j else (backN s keep j).set (s.loose.getD j 0) (s.fast.getD (s.loose.getD j 0) []) := by
 unfold backN; rw [List.range_succ, List.foldl_append]; rfl
theorem backN_len (s : SDev) (keep : List Bool) (j : Nat) : (backN s keep j).length = s.now.length := by
 induction j with
 | zero => rfl
 | succ j ih => rw [backN_next]; split <;> simp [ih]
theorem backN_row (s : SDev) (keep : List Bool) (h : s.Ok) (j : Nat) (hj : j ≤ s.loose.length) : ∀ r ∈ backN s keep j, r.length = 64 := by
 induction j with
 | zero => exact h.nrow
 | succ j ih =>
  have ih' := ih (by omega)
  rw [backN_next]
  split
  ·exact ih'
  ·intro r hr
   rcases List.mem_or_eq_of_mem_set hr with hr | hr
   ·exact ih' r hr
   ·have hl := loose_getD s h j (by omega)
    have hl2 : s.loose.getD j 0 < s.fast.length := by rw [h.fast]; exact hl
    rw [hr, getD_mem _ _ _ hl2]; exact h.frow _ (List.getElem_mem hl2)
theorem loose_inj (s : SDev) (i j : Nat) (hi : i < s.loose.length) (hj : j < s.loose.length) (h : s.loose.getD i 0 = s.loose.getD j 0) : i = j := by
 rw [getD_mem _ _ _ hi, getD_mem _ _ _ hj] at h
 have hs := trues_sorted s.dirty
 rcases Nat.lt_trichotomy i j with hij | hij | hij
 ·have := List.pairwise_iff_getElem.1 hs i j hi hj hij; unfold SDev.loose at h; omega
 ·exact hij
 ·have := List.pairwise_iff_getElem.1 hs j i hj hi hij; unfold SDev.loose at h; omega
theorem back_kept (s : SDev) (keep : List Bool) (h : s.Ok) (j : Nat) (hj : j ≤ s.loose.length) :
  (∀ t, t < j → (backN s keep j).getD (s.loose.getD t 0) [] = (keptN s keep j).getD (s.loose.getD t 0) []) ∧
  (∀ i, (∀ t, t < j → s.loose.getD t 0 ≠ i) → (backN s keep j).getD i [] = s.now.getD i [] ∧ (keptN s keep j).getD i [] = s.fast.getD i []) := by
 induction j with
 | zero => exact ⟨fun t ht => absurd ht (Nat.not_lt_zero _), fun i _ => ⟨rfl, rfl⟩⟩
 | succ j ih =>
  obtain ⟨ih1, ih2⟩ := ih (by omega)
  have hl := loose_getD s h j (by omega)
  have hnew := ih2 (s.loose.getD j 0) (fun t ht e => by have := loose_inj s t j (by omega) (by omega) e; omega)
  have hb : s.loose.getD j 0 < (backN s keep j).length := by rw [backN_len]; exact hl
  have hk : s.loose.getD j 0 < (keptN s keep j).length := by rw [keptN_len, h.fast]; exact hl
  have set1 : ∀ (X : List (List UInt8)) (v : List UInt8), s.loose.getD j 0 < X.length → (X.set (s.loose.getD j 0) v).getD (s.loose.getD j 0) [] = v := fun X v hX => by
   rw [List.getD_eq_getElem?_getD, List.getElem?_set_self hX]; rfl
  have set2 : ∀ (X : List (List UInt8)) (v : List UInt8) (i : Nat), s.loose.getD j 0 ≠ i → (X.set (s.loose.getD j 0) v).getD i [] = X.getD i [] := fun X v i hne => by
   rw [List.getD_eq_getElem?_getD, List.getElem?_set_ne hne, ← List.getD_eq_getElem?_getD]
  rw [backN_next, keptN_next]
  cases hkv : keep.getD j false
  ·simp only [Bool.false_eq_true, if_false]
   refine ⟨fun t ht => ?_, fun i hi => ?_⟩
   ·by_cases htj : t = j
    ·subst htj; rw [set1 _ _ hb]; exact hnew.2.symm
    ·have hne : s.loose.getD j 0 ≠ s.loose.getD t 0 := fun e => htj (loose_inj s j t (by omega) (by omega) e).symm
     rw [set2 _ _ _ hne]; exact ih1 t (by omega)
   ·rw [set2 _ _ _ (hi j (by omega))]; exact ih2 i fun t ht => hi t (by omega)
  ·simp only [if_true]
   refine ⟨fun t ht => ?_, fun i hi => ?_⟩
   ·by_cases htj : t = j
    ·subst htj; rw [set1 _ _ hk]; exact hnew.1
    ·have hne : s.loose.getD j 0 ≠ s.loose.getD t 0 := fun e => htj (loose_inj s j t (by omega) (by omega) e).symm
     rw [set2 _ _ _ hne]; exact ih1 t (by omega)
   ·rw [set2 _ _ _ (hi j (by omega))]; exact ih2 i fun t ht => hi t (by omega)
theorem kept_more (s : SDev) (keep : List Bool) (j d : Nat) (hj : keep.length ≤ j) : keptN s keep (j + d) = keptN s keep j := by
 induction d with
 | zero => rfl
 | succ d ih =>
  have : keep.getD (j + d) false = false := by rw [List.getD_eq_getElem?_getD, List.getElem?_eq_none (by omega)]; rfl
  rw [← Nat.add_assoc, keptN_next, this]; simpa using ih
theorem kept_min (s : SDev) (keep : List Bool) : keptN s keep s.loose.length = keptN s keep (min s.loose.length keep.length) := by
 by_cases h : s.loose.length ≤ keep.length
 ·rw [Nat.min_eq_left h]
 ·rw [Nat.min_eq_right (by omega)]
  have := kept_more s keep keep.length (s.loose.length - keep.length) (Nat.le_refl _)
  rwa [show keep.length + (s.loose.length - keep.length) = s.loose.length by omega] at this
theorem back_end (s : SDev) (keep : List Bool) (h : s.Ok) (hs : ∀ i, s.dirty.getD i false = false → s.now.getD i [] = s.fast.getD i []) : backN s keep s.loose.length = (s.crash keep).now := by
 show _ = keptN s keep (min s.loose.length keep.length)
 rw [← kept_min]
 obtain ⟨h1, h2⟩ := back_kept s keep h s.loose.length (Nat.le_refl _)
 apply List.ext_getElem (by rw [backN_len, keptN_len, h.fast])
 intro i hi1 hi2
 rw [← getD_mem _ _ [] hi1, ← getD_mem _ _ [] hi2]
 by_cases hd : s.dirty.getD i false = true
 ·obtain ⟨t, ht, e⟩ := List.getElem_of_mem ((mem_trues s.dirty i).2 hd)
  have e2 : s.loose.getD t 0 = i := by show (trues s.dirty).getD t 0 = i; rw [getD_mem _ _ _ ht]; exact e
  rw [← e2]; exact h1 t ht
 ·have hd' : s.dirty.getD i false = false := by simpa using hd
  obtain ⟨e1, e2⟩ := h2 i fun t ht e => by
   have := List.getElem_mem ht
   rw [getD_mem _ _ _ ht] at e
   rw [e] at this
   rw [(mem_trues s.dirty i).1 this] at hd'; cases hd'
  rw [e1, e2]; exact hs i hd'
set_option maxHeartbeats 2000000 in
theorem dcrash_any (w : World) (p : Nat) (F : Foot) (s : SDev) (h : DAt w p F s) (K : Option Addr) (kc : Nat) (G : Nat → Prop) (keep : List Bool) (hK : Row w K G (keep.map Value.bool)) (hkl : keep.length ≤ maxLen) :
  Calls Tryz.prog 23 #[.pointer (some ⟨p, 0, none⟩), .slice K keep.length kc] w fun e w' => ∃ q F', e = .returned (.pointer (some ⟨q, 0, none⟩)) ∧ DAt w' q F' (s.crash keep) ∧ (∀ b, F'.M b → w.heap.size ≤ b) ∧ (∀ b, F'.I b → F.I b ∨ w.heap.size ≤ b) ∧ Keeps (fun _ => True) w w' := by
 unfold maxLen at hkl
 have hok := h.ok
 have hsm := hok.small
 have hpos := hok.pos
 obtain ⟨g, c, m, h1, h2, h3, h4, m1, m2, m3⟩ := h.ex
 have c0 : w.cell? ⟨p, 0, none⟩ = some (.slice (some ⟨g, 0, none⟩) s.now.length c) := (cell_of_block h1 0).trans rfl
 have c1 : w.cell? ⟨p, 1, none⟩ = some (.map (some m)) := (cell_of_block h1 1).trans rfl
 have hcl := clone_sectors w g c s.now.length s.now h2 hpos hsm
 have HC := Lib.hid hcl
 have HR := Lib.hid h
 have HK := Lib.hid hK.lt
 have H3 := Lib.hid h3
 have HOK := Lib.hid hok
 have hp := h.lt p (.inl m1)
 have hm := h.lt m (.inl m3)
 clear hcl h1 h2 h3 h4 m1 m2 m3 hK h hok
 go_enter Tryz.func23, Tryz.ntmps23
 go_wp2_with fail
 refine HC.out.mono ?_
 rintro e w1 ⟨x, xc, rfl, hx, hxge, hk1⟩
 have HX := Lib.hid hx
 have HXG := Lib.hid hxge
 have HK1 := Lib.hid hk1
 clear hx hxge hk1 c0
 go_wp2_with fail
 refine (dloose_any w1 p F s (HR.out.keep (HK1.out.mono fun _ _ _ => trivial))).mono ?_
 rintro e w2 ⟨v, rfl, hown, hk2⟩
 obtain ⟨LA, Lc, rfl, -, hlr⟩ := own_slice hown
 have hxlt : x < w1.heap.size := (HX.out.lt x rfl).2
 have hll : s.loose.length ≤ s.now.length := by have := trues_len s.dirty; rw [HOK.out.dirty] at this; exact this
 have HX2 := Lib.hid (hk2.own HX.out fun _ _ => trivial)
 have HLR := Lib.hid hlr
 have HK2 := Lib.hid (HK1.out.trans hk2)
 clear hlr hk2 hown HX
 go_wp2
 go_loopw [18] (fun i wr => ∃ j : Nat, j ≤ s.loose.length ∧ i = .int .i64 j ∧ wr.ownsRow 0 89 64 (.slice (some ⟨x, 0, none⟩) s.now.length xc) s.now.length (flat (backN s keep j)) ∧ Keeps (fun b => b ≠ x) w2 wr) (fun i _ => s.loose.length - (intOf i).toNat)
 case atStart => exact ⟨0, Nat.zero_le _, rfl, HX2.out, Keeps.refl _ _⟩
 case round =>
  obtain ⟨j, hj, rfl, hown, hkw⟩ := hrel
  have hkx : Keeps (fun b => b < w.heap.size) w wr := (HK2.out.mono fun _ _ _ => trivial).trans (hkw.mono fun b _ hb e => by have := HXG.out; omega)
  by_cases hl : j < s.loose.length
  ·obtain ⟨lb, lo, hLe, -, hlc⟩ := (HLR.out.keep (hkw.mono fun b _ hb e => by have := hb.1; omega)).at_ (k := j) (by simpa [nats] using hl)
   cases hLe
   rw [nats_at] at hlc
   have ht := loose_getD s HOK.out j hl
   have hlook : s.look (.int .i64 ((s.loose.getD j 0 : Nat) : Int)) = some (sec (s.fast.getD (s.loose.getD j 0) [])) := by
    have hdt : s.dirty.getD (s.loose.getD j 0) false = true := by
     rw [getD_mem s.loose _ _ hl]; exact (mem_trues _ _).1 (List.getElem_mem hl)
    rw [look_at, Int.toNat_natCast, if_pos ⟨by omega, hdt⟩]
   have hfk : (s.fast.getD (s.loose.getD j 0) []).length = 64 := by
    rw [getD_mem _ _ _ (by rw [HOK.out.fast]; exact ht)]; exact HOK.out.frow _ (List.getElem_mem _)
   have hbn := backN_next s keep j
   have hbr := backN_row s keep HOK.out j hj
   have hbl := backN_len s keep j
   generalize s.loose.getD j 0 = t at hlc ht hlook hfk hbn
   generalize s.fast.getD t [] = fk at hlook hfk hbn
   have hwf : (Lit.int .i64 (t : Int)).wf = true := by simp [Lit.wf, IntKind.min, IntKind.max, IntKind.signed, IntKind.bits]; omega
   have hlk := ((H3.out.keep hkx hm).look1 (t := 90) (int_keyed Tryz.underlying3) Tryz.underlying90 (secZ_zero wr) (keyOf_int_mk (q := .i64) (a := (t : Int)) Tryz.underlying3 hwf))
   rw [hlook] at hlk
   simp only [Option.getD_some] at hlk
   have hc1 := hkx.cell c1 hp
   have HBN := Lib.hid hbn
   have HBR := Lib.hid hbr
   have HBL := Lib.hid hbl
   have HFK := Lib.hid hfk
   have HO := Lib.hid hown
   have HKW := Lib.hid hkw
   have HKX := Lib.hid hkx
   clear hbn hbr hbl hfk hown hkw hlook hwf c1
   have hkk : (decide (keep.length ≤ j) = true ∧ keep.getD j false = false) ∨ (∃ kb ko, K = some ⟨kb, ko, none⟩ ∧ j < keep.length ∧ decide (keep.length ≤ j) = false ∧ wr.cell? ⟨kb, ko + j, none⟩ = some (.bool (keep.getD j false))) := by
    by_cases hk : j < keep.length
    ·right
     obtain ⟨kb, ko, e, hb, hc⟩ := HK.out.at_ (k := j) (by simpa using hk)
     refine ⟨kb, ko, e, hk, by simp; omega, ?_⟩
     rw [getD_mem _ _ _ hk]
     have := HKX.out.cell hc hb.2
     simpa using this
    ·left
     exact ⟨by simp; omega, by rw [List.getD_eq_getElem?_getD, List.getElem?_eq_none (by omega)]; rfl⟩
   have HST := Lib.hid (show keep.getD j false = false → ∀ w' : World, w'.ownsRow 0 89 64 (.slice (some ⟨x, 0, none⟩) s.now.length xc) s.now.length ((flat (backN s keep j)).take (t * 64) ++ bcells fk ++ (flat (backN s keep j)).drop (t * 64 + (bcells fk).length)) → wr.grownBy w' (some x) →
     w'.ownsRow 0 89 64 (.slice (some ⟨x, 0, none⟩) s.now.length xc) s.now.length (flat (backN s keep (j + 1))) ∧ Keeps (fun b => b ≠ x) w2 w' from by
    intro hkf w' ho hg
    have htl : t < (backN s keep j).length := by rw [HBL.out]; exact ht
    rw [flat_splice _ HBR.out t htl fk (by rw [HFK.out]; exact Nat.le_refl _)] at ho
    rw [HBN.out, hkf]
    simp only [Bool.false_eq_true, if_false]
    rw [List.drop_of_length_le (by rw [HFK.out, HBR.out _ (List.getElem_mem htl)]; exact Nat.le_refl _), List.append_nil] at ho
    exact ⟨ho, HKW.out.trans (Keeps.of_grown hg fun b e _ hn => by cases e; exact hn rfl)⟩)
   have hfl := flat_len _ HBR.out
   rw [HBL.out] at hfl
   have HFL := Lib.hid hfl
   clear hfl
   rcases hkk with ⟨d1, d2⟩ | ⟨kb, ko, rfl, hjk, d1, d2⟩
   ·have HD := Lib.hid (HST.out d2)
    clear d2 HST
    go_wp2_with (refine list_store_own rfl 89 (.tmp 42) (.tmp 41) rfl HO.out (t * 64) rfl (bcells fk) (sec fk) rfl rfl ?h1 ?h2 (bcells_one _) ?_)
    case h1 => rw [bcells_len, HFK.out]; kernel_rfl
    case h2 => rw [bcells_len, HFL.out, HFK.out]; omega
    intro w4 ho4 hg4
    rw [← List.append_assoc] at ho4
    have HE := Lib.hid (HD.out w4 ho4 hg4)
    clear ho4 hg4
    go_wp2
    go_roundw
    case rel => exact ⟨j + 1, by omega, by go_num, HE.out.1, HE.out.2⟩
    case measure => simp [intOf]; omega
   ·cases hkv : keep.getD j false
    ·rw [hkv] at d2
     have HD := Lib.hid (HST.out hkv)
     clear HST hkv
     go_wp2_with (refine list_store_own rfl 89 (.tmp 42) (.tmp 41) rfl HO.out (t * 64) rfl (bcells fk) (sec fk) rfl rfl ?h1 ?h2 (bcells_one _) ?_)
     case h1 => rw [bcells_len, HFK.out]; kernel_rfl
     case h2 => rw [bcells_len, HFL.out, HFK.out]; omega
     intro w4 ho4 hg4
     rw [← List.append_assoc] at ho4
     have HE := Lib.hid (HD.out w4 ho4 hg4)
     clear ho4 hg4
     go_wp2
     go_roundw
     case rel => exact ⟨j + 1, by omega, by go_num, HE.out.1, HE.out.2⟩
     case measure => simp [intOf]; omega
    ·rw [hkv] at d2
     have HO2 := Lib.hid (show wr.ownsRow 0 89 64 (.slice (some ⟨x, 0, none⟩) s.now.length xc) s.now.length (flat (backN s keep (j + 1))) by
      rw [HBN.out, hkv]; exact HO.out)
     clear hkv HST
     go_wp2
     go_roundw
     case rel => exact ⟨j + 1, by omega, by go_num, HO2.out, HKW.out⟩
     case measure => simp [intOf]; omega
  ·obtain rfl : j = s.loose.length := by omega
   rw [back_end s keep HOK.out HR.out.same] at hown
   have hcl : (s.crash keep).now.length = s.now.length := by
    show (keptN s keep _).length = _
    rw [keptN_len, HOK.out.fast]
   have hla := dlasting_any wr (s.crash keep) (crash_ok s HOK.out keep) (by rw [hcl]; rfl) rfl rfl x xc (by rw [hcl]; exact hown)
   rw [hcl] at hla
   have HLA := Lib.hid hla
   have hkt : Keeps (fun _ => True) w wr := ⟨hkx.os, hkx.tape, hkx.output, hkx.size, fun b _ hb => hkx.block b hb hb⟩
   have HKT := Lib.hid hkt
   clear hla hcl hown hkw hkx hkt c1
   go_wp2_with fail
   refine HLA.out.mono ?_
   rintro e w4 ⟨q, F', rfl, hD, hM, hI, hk4⟩
   have HE := Lib.hid (show ∃ q0 F0, Ending.returned (.pointer (some ⟨q, 0, none⟩)) = .returned (.pointer (some ⟨q0, 0, none⟩)) ∧ DAt w4 q0 F0 (s.crash keep) ∧ (∀ b, F0.M b → w.heap.size ≤ b) ∧ (∀ b, F0.I b → F.I b ∨ w.heap.size ≤ b) ∧ Keeps (fun _ => True) w w4 from
    ⟨q, F', rfl, hD, fun b hb => by
     rcases hM b hb with rfl | h
     ·exact HXG.out
     ·exact Nat.le_trans HKT.out.size h, fun b hb => (hI b hb).elim, HKT.out.trans hk4⟩)
   clear hD hM hI hk4
   go_wp2_with fail
   go_ret
   exact HE.out
end Go.Proofs.YtemkjodkmehffaaGreatDoor
