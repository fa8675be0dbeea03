/-
  PtMay, PtSort, PtOf, RgRep: texts of mine, joined.
-/
import Derived.Test.YtemkjodkmehffaaGreatDoorAllM17
import Derived.Test.YtemkjodkmehffaaGreatDoorAllM21
import Derived.Test.YtemkjodkmehffaaGreatDoorAllM04
import Derived.Shelf.SlSortCmp.WholeK
import Derived.Test.YtemkjodkmehffaaGreatDoorAllM05
import Derived.Test.YtemkjodkmehffaaGreatDoorAllM09
namespace Go.Proofs.YtemkjodkmehffaaGreatDoor
open Go Go.RowKit Go.Joins
def penc (x : P2) : List Value := [.int .u64 x.place, .int .i64 x.node]
theorem prow_flat {l : List P2} {t : Nat} (h : t < l.length * 2) : (prow l)[t]? = some (Go.Sort.flatK penc 2 l.toArray)[t]! := by
 have hj : t / 2 < l.length := by omega
 rw [Go.Sort.get_flatK penc 2 l.toArray t (by simpa using h)]
 have e : t = t / 2 * 2 + t % 2 := by omega
 have h1 := prow_at l (t / 2) (t % 2) hj (by omega)
 rw [← e] at h1
 rw [h1]
 have h2 : l.toArray[t / 2]! = l[t / 2] := by simp [hj]
 rw [h2]
 have h3 : t % 2 = 0 ∨ t % 2 = 1 := by omega
 rcases h3 with h3 | h3 <;> rw [h3] <;> rfl
theorem holds_own {w : World} {base g c : Nat} {e : TypeId} {l : List P2} (h : w.ownsRow base e 2 (.slice (some ⟨g, 0, none⟩) l.length c) l.length (prow l)) : Go.Sort.HoldsK penc 2 w g 0 l.toArray := by
 intro t ht
 have ht' : t < l.length * 2 := by simpa using ht
 have h1 := h.cells (g := g) rfl t _ (prow_flat ht')
 rw [WideShapes.add_plain] at h1
 refine ⟨h1, ?_⟩
 rcases h.2 with ⟨h', _⟩ | ⟨g', cap', cur, h', _, hg, _⟩
 ·cases h'
 ·injection h' with h'
  injection h' with h'
  injection h' with h'
  subst h'
  simp [World.frozen?, hg]
theorem prow_holds {w : World} {g : Nat} {l : List P2} (h : Go.Sort.HoldsK penc 2 w g 0 l.toArray) : PRow w (some ⟨g, 0, none⟩) (fun b => b = g) l := by
 intro _
 refine ⟨g, 0, rfl, rfl, fun t v hv => ?_⟩
 have ht : t < l.length * 2 := by
  have := (List.getElem?_eq_some_iff.1 hv).1
  rwa [prow_len] at this
 rw [prow_flat ht] at hv
 injection hv with hv
 have h1 := (h t (by simpa using ht)).1
 rw [← hv]; exact h1
theorem swo_less : Go.Sort.SWO lessB where
 irrefl x := less_irr x
 trans x y z h1 h2 := by
  simp only [lessB, Bool.or_eq_true, Bool.and_eq_true, decide_eq_true_eq, beq_iff_eq] at *
  omega
 ntrans x y z h1 h2 := by
  simp only [lessB, Bool.or_eq_false_iff, Bool.and_eq_false_iff, decide_eq_false_iff_not, beq_eq_false_iff_ne, ne_eq] at *
  omega
theorem lt_ord : ltOf ordZ = lessB := by
 funext a b
 exact ord_less a b
set_option maxRecDepth 100000 in
set_option maxHeartbeats 1000000 in
theorem psort_any (w : World) (base g c : Nat) (e : TypeId) (l : List P2) (ho : w.ownsRow base e 2 (.slice (some ⟨g, 0, none⟩) l.length c) l.length (prow l)) (hl : l.length < 1000) :
  Calls Tryz.prog 81 #[.slice (some ⟨g, 0, none⟩) l.length c, .func (.func 82) #[] #[]] w fun e w' => e = .returned (.tuple #[]) ∧
   ∃ l', l'.Perm l ∧ Asc l' ∧ PRow w' (some ⟨g, 0, none⟩) (fun b => b = g) l' ∧ Keeps (fun b => b ≠ g) w w' := by
 have hH := holds_own ho
 have hb : g < w.heap.size := (ho.lt g rfl).2
 have hO : Go.Sort.SWO (ltOf ordZ) := by rw [lt_ord]; exact swo_less
 have hC : CmpLays Tryz.prog 82 #[] penc 2 ordZ g 0 l.toArray.size w := fun m os dk _ x y => order_any x y _
 have h := AnyQ.slices_SortFunc Tryz.sortPt 2 Tryz.isAgg134 Tryz.sizeOf134 penc (fun _ => rfl) (fun x v hv => by simp [penc] at hv; rcases hv with rfl | rfl <;> rfl) ordZ hO 82 #[] g 0 c l.toArray w (enters_of Tryz.func82 (by kernel_rfl) rfl) hC hH hb (by simp; omega)
 refine (show Calls Tryz.prog 81 _ w _ from h).mono ?_
 rintro e w' ⟨rfl, d', n, os, hp, hs, hw⟩
 have hps := hp.1
 have hpp := hp.2.2
 have e1 : (d'.extract 0 l.toArray.size).toList = d'.toList := by rw [← hps]; simp
 have e2 : (l.toArray.extract 0 l.toArray.size).toList = l := by simp
 rw [e1, e2] at hpp
 refine ⟨rfl, d'.toList, hpp, ?_, prow_holds ?_, ?_⟩
 ·refine List.pairwise_iff_getElem.2 fun i j hi hj hij => ?_
  have := hs i j (Nat.zero_le _) hij (by rw [← hps]; simpa using hj)
  rw [lt_ord] at this
  have hi' : i < d'.size := by simpa using hi
  have hj' : j < d'.size := by simpa using hj
  rw [getElem!_pos d' i hi', getElem!_pos d' j hj'] at this
  simpa using this
 ·rw [hw, Array.toArray_toList]
  exact holdsK_sortWorldK penc 2 w g 0 n l.toArray d' os hb hH hps
 ·rw [hw]
  refine ⟨rfl, rfl, rfl, ?_, fun b hF hb2 => ?_⟩
  ·simp [sortWorldK]
   have : (Go.Sort.putRowK penc 2 (Go.Sort.ahead w n) g 0 d').heap.size = w.heap.size := Go.Sort.size_putRowK penc 2 _ g 0 d'
   omega
  ·unfold sortWorldK
   rw [Go.Sort.heap_grow_old _ _ (by rw [Go.Sort.size_putRowK]; exact hb2)]
   unfold Go.Sort.putRowK Go.Sort.putRow Go.Sort.mapBlock
   simp [Array.getElem?_modify, Ne.symm hF]
theorem kp_but {a b c : World} {g : Nat} (h : Kp a b) (k : Keeps (fun i => i ≠ g) b c) (hg : a.heap.size ≤ g) : Kp a c :=
 ⟨k.os.trans h.os, k.tape.trans h.tape, k.output.trans h.output, Nat.le_trans h.size k.size, fun i _ hi =>
  (k.block i (by omega) (Nat.lt_of_lt_of_le hi h.size)).trans (h.block i trivial hi)⟩
theorem flat8_len (l : List Int) : (l.flatMap ptsOf).length = 8 * l.length := by
 induction l with
 | nil => rfl
 | cons x l ih => rw [List.flatMap_cons, List.length_append, ih]; show 8 + _ = 8 * (l.length + 1); omega
theorem ptsOf_more {n : Int} {j : Nat} (h : j < 8) : (ptsOf n).take (j + 1) = (ptsOf n).take j ++ [⟨placeZ n (j : Int), n⟩] := by
 have : j = 0 ∨ j = 1 ∨ j = 2 ∨ j = 3 ∨ j = 4 ∨ j = 5 ∨ j = 6 ∨ j = 7 := by omega
 rcases this with rfl | rfl | rfl | rfl | rfl | rfl | rfl | rfl <;> rfl
set_option maxRecDepth 100000 in
set_option maxHeartbeats 1000000 in
theorem pof_yes (w : World) (A : Option Addr) (c : Nat) (l : List Int) (hr : Row w A (fun _ => True) (l.map (Value.int .i64))) (hl : l.length ≤ c) (hc : c ≤ maxLen) (hn : nodesB l = true) :
  Calls Tryz.prog 51 #[.slice A l.length c] w fun e w' => ∃ B cb, e = .returned (.slice B (8 * l.length) cb) ∧ PRow w' B (fun b => w.heap.size ≤ b) (pts l) ∧ 8 * l.length ≤ cb ∧ cb ≤ maxLen ∧ Kp w w' := by
 have HM := Lib.hid (may_any w A c l hr hl hc)
 have h5 := nodes_five hn
 have h0 := (nodesB_iff.1 hn).1
 rw [hn] at HM
 have HR := Lib.hid hr
 unfold maxLen at hc
 obtain ⟨m, hm⟩ : ∃ m, l.length = m := ⟨_, rfl⟩
 rw [hm] at hl h5 h0 HM ⊢
 have HL := Lib.hid hm
 clear hr hn hm
 go_enter Tryz.func51, Tryz.ntmps51
 go_wp2_with fail
 refine (show Calls _ _ _ _ _ from HM.out).mono ?_
 rintro e w1 ⟨rfl, hk⟩
 have HK := Lib.hid hk
 have hs1 := hk.size
 clear hk HM
 go_wp2_with (refine list_empty rfl (.const (.int .i64 0)) (.tmp 12) 95 rfl pt_elem .i64 .i64 (m * 8) rfl rfl (by omega) (by unfold maxLen; omega) ?_)
 intro w2 hown hg
 have HK2 := Lib.hid (HK.out.trans (Keeps.of_grown hg fun _ h => by cases h))
 have HO := Lib.hid (own_base hown hs1)
 clear hown hg HK
 go_wp2_with fail
 go_loopw [3, 16] (fun v i wr => ∃ (k : Nat) (A1 : Option Addr) (cc : Nat), k ≤ m ∧ i = .int .i64 (k : Int) ∧ v = .slice A1 (8 * k) cc ∧ Hid (wr.ownsRow w.heap.size 134 2 v (8 * k) (prow ((l.take k).flatMap ptsOf))) ∧ Hid (Kp w wr)) (fun _ i _ => m - (intOf i).toNat)
 case atStart => exact ⟨0, some ⟨w1.heap.size, 0, none⟩, m * 8, Nat.zero_le _, rfl, rfl, HO, HK2⟩
 case round =>
  clear HO HK2
  obtain ⟨k, A1, cc, hk, rfl, rfl, HO, HW⟩ := hrel
  by_cases hlt : k < m
  ·have hlt' : (k : Int) < (m : Int) := by omega
   have hkl : k < l.length := by rw [HL.out]; exact hlt
   obtain ⟨b, o, rfl, -, c0⟩ := HR.out.at_ (k := k) (by simpa using hkl)
   rw [List.getElem_map] at c0
   replace c0 := HW.out.cell c0 trivial
   have HT := Lib.hid (show (l.take (k + 1)).flatMap ptsOf = (l.take k).flatMap ptsOf ++ ptsOf l[k] from by
    rw [List.take_succ_eq_append_getElem hkl, List.flatMap_append]; simp)
   generalize l[k] = x at c0 HT
   generalize hPk : (l.take k).flatMap ptsOf = Pk at HO HT
   clear hPk
   go_wp2_with fail
   go_loopw [3, 20] (fun v i wr => ∃ (j : Nat) (A1 : Option Addr) (cc : Nat), j ≤ 8 ∧ i = .int .i64 (j : Int) ∧ v = .slice A1 (8 * k + j) cc ∧ Hid (wr.ownsRow w.heap.size 134 2 v (8 * k + j) (prow (Pk ++ (ptsOf x).take j))) ∧ Hid (Kp w wr)) (fun _ i _ => 8 - (intOf i).toNat)
   case atStart => exact ⟨0, A1, cc, Nat.zero_le _, rfl, rfl, by simpa using HO, HW⟩
   case round =>
    clear HO HW
    obtain ⟨j, A2, c2, hj, rfl, rfl, HO, HW⟩ := hrel
    by_cases hj8 : j < 8
    ·have hj8' : (j : Int) < 8 := by omega
     have HP := fun w1 => Lib.hid (show Calls Tryz.prog 80 #[.int .i64 x, .int .i64 (j : Int)] w1 fun e w' => e = .returned (.int .u64 (placeZ x (j : Int))) ∧ w1 = w' from point_any x (j : Int) w1)
     have HQ := Lib.hid (show prow (Pk ++ (ptsOf x).take (j + 1)) = prow (Pk ++ (ptsOf x).take j) ++ [Value.int .u64 (placeZ x (j : Int)), .int .i64 x] from by
      rw [ptsOf_more hj8, ← List.append_assoc, prow_snoc]; rfl)
     generalize placeZ x (j : Int) = z at HP HQ
     generalize prow (Pk ++ (ptsOf x).take j) = R at HO HQ
     have hsrc := Lib.hid (src_pt wr ⟨z, x⟩ wr.heap.size rfl 1 134)
     have hszr := HW.out.size
     have h63 : 8 * k + j + 1 ≤ maxLen := by unfold maxLen; omega
     have h16 : (8 * k + j + 1) * 16 ≤ 140737488355328 := by omega
     go_wp2_with (first | (go_at_call 80; refine (show Calls _ _ _ _ _ from (HP _).out).mono ?_; rintro e w' ⟨rfl, rfl⟩) | (at_builtin; refine pt_elem.list_append rfl (.tmp 23) (.tmp 29) _ rfl rfl (HO.out.alloc _) rfl hsrc.out ?c3 ?c4 ?c5 ?_))
     case c3 => exact h63
     case c4 => exact h16
     case c5 => simp; omega
     intro v3 w3 ho3 hg3 hb3
     have HK3 := Lib.hid (show Kp w w3 from ((HW.out.alloc _)).grown hg3 fun j hj => (HO.out.lt j hj).1)
     obtain ⟨A3, c3, rfl, -, -, -⟩ := own_form2 ho3
     have HO3 := Lib.hid (show w3.ownsRow w.heap.size 134 2 (.slice A3 (8 * k + (j + 1)) c3) (8 * k + (j + 1)) (prow (Pk ++ (ptsOf x).take (j + 1))) from by rw [HQ.out]; exact ho3)
     clear ho3 hg3 hb3 hsrc HO HW HP HQ h63 h16
     go_wp2_with fail
     go_roundw
     case rel => exact ⟨j + 1, A3, c3, hj8, by go_num, rfl, HO3, HK3⟩
     case measure => simp [intOf]; omega
    ·obtain rfl : j = 8 := by omega
     have HO3 := Lib.hid (show wr.ownsRow w.heap.size 134 2 (.slice A2 (8 * (k + 1)) c2) (8 * (k + 1)) (prow ((l.take (k + 1)).flatMap ptsOf)) from by
      rw [HT.out]
      have := HO.out
      rwa [show (ptsOf x).take 8 = ptsOf x from rfl] at this)
     clear HO HT hj hj8
     go_wp2_with fail
     go_roundw
     case rel => exact ⟨k + 1, A2, c2, hlt, by go_num, rfl, HO3, HW⟩
     case measure => simp [intOf]; omega
  ·obtain rfl : k = m := by omega
   have hlt' : ¬ ((k : Int) < (k : Int)) := by omega
   have ho := HO.out
   rw [show l.take k = l from by rw [← HL.out]; exact List.take_length] at ho
   obtain ⟨A4, c4, e4, hc1, hc2, hc3⟩ := own_form2 ho
   injection e4 with e1 e2 e3
   subst e1 e3
   obtain ⟨g, rfl⟩ := hc3 (by omega)
   have hfl := flat8_len l
   rw [HL.out] at hfl
   have hps : ∀ n, n = 8 * k → Calls Tryz.prog 81 #[.slice (some ⟨g, 0, none⟩) n cc, .func (.func 82) #[] #[]] wr fun e w' => e = .returned (.tuple #[]) ∧
     ∃ l', l'.Perm (l.flatMap ptsOf) ∧ Asc l' ∧ PRow w' (some ⟨g, 0, none⟩) (fun b => b = g) l' ∧ Keeps (fun b => b ≠ g) wr w' := by
    intro n hn
    rw [hn, ← hfl]
    rw [← hfl] at ho
    exact psort_any wr w.heap.size g cc _ _ ho (by omega)
   have HS := Lib.hid (hps _ rfl)
   have hg := (HO.out.lt g rfl).1
   have HG := Lib.hid hg
   clear ho HO hfl hps hg hc3 hlt
   go_wp2_with fail
   refine (show Calls _ _ _ _ _ from HS.out).mono ?_
   rintro e w4 ⟨rfl, l', hp, ha, hrow, hkeep⟩
   have HE := Lib.hid (show PRow w4 (some ⟨g, 0, none⟩) (fun b => w.heap.size ≤ b) (pts l) from by
    have e5 := pts_is ha hp
    subst e5
    exact hrow.mono fun b _ hb => by rw [hb]; exact HG.out)
   have HK4 := Lib.hid (kp_but HW.out hkeep HG.out)
   clear hp ha hrow hkeep HS
   go_wp2_with fail
   go_ret
   exact ⟨_, _, rfl, HE.out, hc1, hc2, HK4.out⟩
theorem ringB_why {e : Int} {l : List Int} (h : ringB e l = false) : decide (e < 1) = true ∨ decide (e < 1) = false ∧ decide (1099511627776 < e) = true ∨ decide (e < 1) = false ∧ decide (1099511627776 < e) = false ∧ nodesB l = false := by
 unfold ringB at h
 simp only [Bool.and_eq_false_iff, decide_eq_false_iff_not] at h
 rcases h with h | h | h
 ·exact .inl (by simp; omega)
 ·by_cases h1 : e < 1
  ·exact .inl (by simpa using h1)
  ·exact .inr (.inl ⟨by simpa using h1, by simp; omega⟩)
 ·by_cases h1 : e < 1
  ·exact .inl (by simpa using h1)
  ·by_cases h2 : 1099511627776 < e
   ·exact .inr (.inl ⟨by simpa using h1, by simpa using h2⟩)
   ·exact .inr (.inr ⟨by simpa using h1, by simpa using h2, h⟩)
theorem ringB_is {e : Int} {l : List Int} (h : ringB e l = true) : decide (e < 1) = false ∧ decide (1099511627776 < e) = false ∧ nodesB l = true := by
 unfold ringB at h
 simp only [Bool.and_eq_true, decide_eq_true_eq] at h
 exact ⟨by simp; omega, by simp; omega, h.2.2⟩
set_option maxRecDepth 100000 in
set_option maxHeartbeats 1000000 in
theorem rnew_no (w : World) (A : Option Addr) (c : Nat) (l : List Int) (e : Int) (hr : Row w A (fun _ => True) (l.map (Value.int .i64))) (hl : l.length ≤ c) (hc : c ≤ maxLen) (hn : ringB e l = false) :
  Calls Tryz.prog 26 #[.int .i64 e, .slice A l.length c] w fun x w' => x = .returned (.pointer none) ∧ Kp w w' := by
 have HM := Lib.hid (may_any w A c l hr hl hc)
 have HK := Lib.hid (Keeps.refl (fun _ => True) w)
 rcases ringB_why hn with t1 | ⟨t1, t2⟩ | ⟨t1, t2, t3⟩
 ·clear hr hn
  go_enter Tryz.func26, Tryz.ntmps26
  go_wp2_with fail
  go_ret
  exact ⟨rfl, HK.out⟩
 ·clear hr hn
  go_enter Tryz.func26, Tryz.ntmps26
  go_wp2_with fail
  go_ret
  exact ⟨rfl, HK.out⟩
 ·rw [t3] at HM
  clear hr hn t3
  go_enter Tryz.func26, Tryz.ntmps26
  go_wp2_with fail
  refine (show Calls _ _ _ _ _ from HM.out).mono ?_
  rintro x w1 ⟨rfl, hk⟩
  have HK1 := Lib.hid hk
  clear hk HM HK
  go_wp2_with fail
  go_ret
  exact ⟨rfl, HK1.out⟩
set_option maxRecDepth 100000 in
set_option maxHeartbeats 1000000 in
theorem rnew_yes (w : World) (A : Option Addr) (c : Nat) (l : List Int) (e : Int) (hr : Row w A (fun _ => True) (l.map (Value.int .i64))) (hl : l.length ≤ c) (hc : c ≤ maxLen) (hn : ringB e l = true) :
  Calls Tryz.prog 26 #[.int .i64 e, .slice A l.length c] w fun x w' => ∃ r B cb D cd, x = .returned (.pointer (some ⟨r, 0, none⟩)) ∧ RgC w' r (fun b => w.heap.size ≤ b ∧ b < w'.heap.size) e l B cb D cd ∧ w.heap.size ≤ r ∧ r < w'.heap.size ∧ Kp w w' := by
 obtain ⟨t1, t2, t3⟩ := ringB_is hn
 have h5 := nodes_five t3
 have HM := Lib.hid (may_any w A c l hr hl hc)
 rw [t3] at HM
 have HC := fun (w1 : World) (hk : Kp w w1) => Lib.hid (iclone_any A c (fun _ => True) l w1 (hr.keep hk) (by omega))
 have HO := fun (w1 : World) (hk : Kp w w1) => Lib.hid (pof_yes w1 A c l (hr.keep hk) hl hc t3)
 have HR := Lib.hid hr
 have HC2 := Lib.hid (And.intro hl hc)
 unfold maxLen at hc
 clear hr hn t3
 go_enter Tryz.func26, Tryz.ntmps26
 go_wp2_with fail
 refine (show Calls _ _ _ _ _ from HM.out).mono ?_
 rintro x w1 ⟨rfl, hk1⟩
 have HK1 := Lib.hid hk1
 clear hk1 HM
 go_wp2_with fail
 refine (show Calls _ _ _ _ _ from (HC w1 HK1.out).out).mono ?_
 rintro x w2 ⟨B, cb, rfl, hB, -, hcb1, hcb2, hk2⟩
 have HK2 := Lib.hid (HK1.out.trans hk2)
 have HB := Lib.hid hB
 have HCB := Lib.hid (And.intro hcb1 hcb2)
 have HS := Lib.hid (HK1.out.size)
 clear hk2 hB hcb1 hcb2 HC HK1
 go_wp2_with fail
 refine (show Calls _ _ _ _ _ from (HO w2 HK2.out).out).mono ?_
 rintro x w3 ⟨D, cd, rfl, hD, hcd1, hcd2, hk3⟩
 have HK3 := Lib.hid (HK2.out.trans hk3)
 have HB3 := Lib.hid (show Row w3 B (fun b => w.heap.size ≤ b ∧ b < w3.heap.size) (l.map (Value.int .i64)) from
  (HB.out.keep (hk3.mono fun _ _ _ => trivial)).lt.mono fun b _ hb => ⟨Nat.le_trans HS.out hb.1, hb.2⟩)
 have HD3 := Lib.hid (show PRow w3 D (fun b => w.heap.size ≤ b ∧ b < w3.heap.size) (pts l) from
  (Row.lt hD).mono fun b _ hb => ⟨Nat.le_trans HK2.out.size hb.1, hb.2⟩)
 have HCD := Lib.hid (And.intro hcd1 hcd2)
 clear hk3 hD hcd1 hcd2 HO HB HK2 HS
 go_wp2_with fail
 go_ret
 have hs := HK3.out.size
 have hb := heap_alloc_new w3 (.cells #[.int .i64 e, .slice B l.length cb, .slice D (8 * l.length) cd] 98)
 refine ⟨w3.heap.size, B, cb, D, cd, rfl, ⟨(cell_of_block hb 0).trans rfl, (cell_of_block hb 1).trans rfl, (cell_of_block hb 2).trans rfl, ?_, ?_, HCB.out.1, HCB.out.2, HCD.out.1, HCD.out.2⟩, hs, by simp, HK3.out.alloc _⟩
 ·exact (HB3.out.alloc _).mono fun b _ hb => ⟨hb.1, by simp; omega⟩
 ·exact (Row.alloc HD3.out _).mono fun b _ hb => ⟨hb.1, by simp; omega⟩
end Go.Proofs.YtemkjodkmehffaaGreatDoor
