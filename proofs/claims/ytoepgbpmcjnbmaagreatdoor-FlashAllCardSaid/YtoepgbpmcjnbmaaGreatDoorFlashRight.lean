/-
  THE LAW's OWN MEMORY OF WHAT WAS PUT (FlashAll): right.
-/
import Derived.Test.YtoepgbpmcjnbmaaGreatDoorFlashAdd
import Derived.Test.YtoepgbpmcjnbmaaGreatDoorAllItemA
namespace Go.Proofs.YtoepgbpmcjnbmaaGreatDoor.flashAll
open Go Go.RowKit Go.Joins
def stL (segs : Nat) (L : List It) (g a : Nat) : FSt := ⟨0, segs, L.map fput, g, a⟩
theorem fcosts_L (L : List It) (i : Nat) : fcosts ((L.map fput).drop i) = costFrom L i := by
  unfold costFrom
  rw [← List.map_drop]
  generalize L.drop i = m
  unfold fcosts
  rw [List.map_map]
  congr 1
theorem fLast_L (L : List It) (g : Nat) (k : ByteArray) (h : ∀ x ∈ L, x.may = true) : fLast (L.map fput) g k = (lastI L k L.length).bind fun i => if g ≤ i then some (L.getD i default) else none := by
  have hne : ∀ x ∈ L, x.key ≠ ⟨#[]⟩ := fun x hx e => by
    have := (It.may_is (h x hx)).1
    rw [e] at this
    exact absurd this (by decide)
  have key : ∀ e ∈ ((L.map fput).drop g).reverse, ∃ j, g ≤ j ∧ j < L.length ∧ e = fput (L.getD j default) := fun e he => by
    rw [List.mem_reverse] at he
    obtain ⟨j, hj, rfl⟩ := List.getElem_of_mem he
    rw [List.length_drop, List.length_map] at hj
    refine ⟨g + j, by omega, by omega, ?_⟩
    rw [List.getElem_drop, List.getElem_map]
    simp [show g + j < L.length by omega]
  cases ho : lastI L k L.length with
  | none =>
    have hn := lastI_none ho
    unfold fLast
    show _ = none
    rw [Option.map_eq_none_iff, List.find?_eq_none]
    intro e he hk
    obtain ⟨j, _, hj, rfl⟩ := key e he
    have hk2 : (L.getD j default).key = k := isKF_iff.1 hk
    have := hn j hj hk2
    refine hne _ ?_ (hk2.trans this)
    simp [hj]
  | some i =>
    obtain ⟨hi, hki, hk0, hlate⟩ := lastI_some ho
    show _ = if g ≤ i then _ else _
    by_cases hg : g ≤ i
    · rw [if_pos hg]
      unfold fLast
      have e1 : (L.map fput).drop g = ((L.map fput).drop g).take (i - g) ++ fput (L.getD i default) :: (L.map fput).drop (i + 1) := by
        have hlen : i - g < ((L.map fput).drop g).length := by rw [List.length_drop, List.length_map]; omega
        have e2 := List.take_append_drop (i - g) ((L.map fput).drop g)
        rw [List.drop_drop, show g + (i - g) = i by omega, List.drop_eq_getElem_cons (show i < (L.map fput).length by rw [List.length_map]; exact hi), List.getElem_map] at e2
        rw [show L[i] = L.getD i default by simp [hi]] at e2
        exact e2.symm
      rw [e1, List.reverse_append, List.reverse_cons, List.append_assoc, List.find?_append]
      have hz : ((L.map fput).drop (i + 1)).reverse.find? (isKF k) = none := by
        rw [List.find?_eq_none]
        intro e he hk
        rw [List.mem_reverse] at he
        obtain ⟨j, hj, rfl⟩ := List.getElem_of_mem he
        rw [List.length_drop, List.length_map] at hj
        refine hlate (i + 1 + j) (by omega) (by omega) ?_
        have := isKF_iff.1 hk
        rw [List.getElem_drop, List.getElem_map] at this
        have : L[i + 1 + j].key = k := this
        simpa [show i + 1 + j < L.length by omega] using this
      have hy : isKF k (fput (L.getD i default)) = true := isKF_iff.2 hki
      rw [hz]
      show Option.map _ (List.find? (isKF k) (fput (L.getD i default) :: _)) = _
      rw [List.find?_cons, hy]
      rfl
    · rw [if_neg hg]
      unfold fLast
      rw [Option.map_eq_none_iff, List.find?_eq_none]
      intro e he hk
      obtain ⟨j, hgj, hj, rfl⟩ := key e he
      exact hlate j (by omega) hj (isKF_iff.1 hk)
theorem told_L {segs g a : Nat} {L : List It} (hok : (stL segs L g a).Ok) (k : ByteArray) (now : Int) : ∃ (s0 s1 : ByteArray) (t0 : Int) (g0 r : Bool) (w : It) (i : Nat) (inn : Bool),
    Ending.returned (.tuple #[.agg #[.string s0, .string s1, .int .i64 t0, .bool g0], .bool r]) = getE (stL segs L g a) k now ∧
    lastV L (lastI L k L.length) = .tuple #[.agg #[.string w.key, .string w.val, .int .i64 w.till, .bool w.gone], .int .i64 (i : Int), .bool inn] ∧ w.fits ∧
    ((inn = false ∧ r = false ∧ s0 = ⟨#[]⟩) ∨ (inn = true ∧ w.live now = false ∧ r = false ∧ s0 = ⟨#[]⟩) ∨ (inn = true ∧ w.live now = true ∧ r = true ∧ s0 = w.key ∧ s1 = w.val ∧ t0 = w.till ∧ g0 = w.gone) ∨
      (inn = true ∧ w.live now = true ∧ r = false ∧ i < L.length ∧ 200 * (segs - 2) < costFrom L i)) := by
  have hmay : ∀ x ∈ L, x.may = true := fun x hx => hok.one (fput x) (List.mem_map.2 ⟨x, hx, rfl⟩)
  have hf := fLast_L L g k hmay
  have hat : (stL segs L g a).at_ k = ((lastI L k L.length).bind fun i => if g ≤ i then some (L.getD i default) else none).bind fun x => if x.gone then none else some x := by
    unfold FSt.at_ stL
    show (fLast (L.map fput) g k).bind _ = _
    rw [hf]
  cases ho : lastI L k L.length with
  | none =>
    rw [ho] at hat
    refine ⟨⟨#[]⟩, ⟨#[]⟩, 0, false, false, ⟨⟨#[]⟩, ⟨#[]⟩, 0, false⟩, 0, false, ?_, rfl, ⟨by decide, by decide, by decide, by decide⟩, .inl ⟨rfl, rfl, rfl⟩⟩
    unfold getE
    rw [hat]
    rfl
  | some i =>
    obtain ⟨hi, hki, hk0, hlate⟩ := lastI_some ho
    have hm : (L.getD i default).may = true := hmay _ (by simp [hi])
    rw [ho] at hat
    have hat : (stL segs L g a).at_ k = (if g ≤ i then some (L.getD i default) else none).bind fun x => if x.gone then none else some x := hat
    generalize hx : L.getD i default = x at *
    have hlv : lastV L (some i) = .tuple #[.agg #[.string x.key, .string x.val, .int .i64 x.till, .bool x.gone], .int .i64 (i : Int), .bool true] := by unfold lastV; simp only [hx]
    cases hlive : x.live now with
    | false =>
      refine ⟨⟨#[]⟩, ⟨#[]⟩, 0, false, false, x, i, true, ?_, hlv, It.may_fits hm, .inr (.inl ⟨rfl, hlive, rfl, rfl⟩)⟩
      unfold getE
      rw [hat]
      by_cases hg : g ≤ i
      · rw [if_pos hg]
        cases hgo : x.gone with
        | true => simp [hgo]
        | false => simp [hgo, hlive]
      · rw [if_neg hg]; rfl
    | true =>
      have hgo : x.gone = false := by
        unfold It.live at hlive
        simp only [Bool.and_eq_true, Bool.not_eq_true'] at hlive
        exact hlive.1.2
      by_cases hg : g ≤ i
      · refine ⟨x.key, x.val, x.till, x.gone, true, x, i, true, ?_, hlv, It.may_fits hm, .inr (.inr (.inl ⟨rfl, hlive, rfl, rfl, rfl, rfl, rfl⟩))⟩
        unfold getE
        rw [hat, if_pos hg]
        simp [hgo, hlive]
      · refine ⟨⟨#[]⟩, ⟨#[]⟩, 0, false, false, x, i, true, ?_, hlv, It.may_fits hm, .inr (.inr (.inr ⟨rfl, hlive, rfl, hi, ?_⟩))⟩
        · unfold getE
          rw [hat, if_neg hg]
          rfl
        · refine Classical.byContradiction fun hn => hg (hok.kept i (by show i ≤ (L.map fput).length; rw [List.length_map]; omega) ?_)
          show fcosts ((L.map fput).drop i) ≤ _
          rw [fcosts_L]
          show _ ≤ 200 * (segs - 2)
          omega
set_option maxRecDepth 100000 in
set_option maxHeartbeats 1000000 in
theorem right_any (S : FlashOK) {W : World} (hT : S.T W) (w : World) (p q sp segs g a : Nat) (A : Option Addr) (c : Nat) (L : List It) (dk : Bool) (X : Nat → Prop) (hF : Fo S W w p q (stL segs L g a) dk X) (hR : EntsR w sp A c L) (hl : L.length ≤ 60) (hs1 : 4 ≤ segs) (hs2 : segs ≤ 15) (k : ByteArray) (hk : k.size ≤ 1000000) (now : Int) (n1 : -9223372036854775808 ≤ now) (n2 : now < 9223372036854775808) :
    Calls Tryz.prog 22 #[.pointer (some ⟨sp, 0, none⟩), .pointer (some ⟨q, 0, none⟩), .string k, .int .i64 now, .int .i64 (segs : Int)] w fun e w' => e = .returned (.bool true) ∧ Kp w w' := by
  have hb : ∀ x ∈ L, It.kost x ≤ 2000 := fun x hx => by
    have hm : x.may = true := hF.wf.one (fput x) (List.mem_map.2 ⟨x, hx, rfl⟩)
    have := It.may_is hm
    unfold It.kost
    omega
  obtain ⟨s0, s1, t0, g0, r, y, i, inn, hget, hlast, hfit, hcase⟩ := told_L hF.wf k now
  have HT := Lib.hid hT
  have HF := Lib.hid hF
  have HR := Lib.hid hR
  have HB := Lib.hid hb
  have HGET := Lib.hid hget
  have HLAST := Lib.hid hlast
  have HFIT := Lib.hid hfit
  have HCASE := Lib.hid hcase
  have HN1 := Lib.hid n1
  have HN2 := Lib.hid n2
  obtain ⟨n, hn⟩ : ∃ n, L.length = n := ⟨_, rfl⟩
  have HN := Lib.hid hn
  rw [hn] at hl
  clear hT hF hR hb hget hlast hfit hcase n1 n2 hn
  go_enter Tryz.func22, Tryz.ntmps22
  go_wp2_with fail
  refine (show Calls _ _ _ _ _ from fo_get HT.out HF.out k now hk HN1.out HN2.out _ HGET.out).mono ?_
  rintro e w5 ⟨rfl, hk5, -⟩
  obtain ⟨w6, hw6⟩ : ∃ w6, w5.alloc (.cells #[.string s0, .string s1, .int .i64 t0, .bool g0] 35) = w6 := ⟨_, rfl⟩
  have hb6 := heap_alloc_new w5 (.cells #[.string s0, .string s1, .int .i64 t0, .bool g0] 35)
  have hk6 : Kp w5 (w5.alloc (.cells #[.string s0, .string s1, .int .i64 t0, .bool g0] 35)) := (Keeps.refl _ w5).alloc _
  rw [hw6] at hb6 hk6
  have HK6 := Lib.hid (hk5.trans hk6)
  have HR6 := Lib.hid (HR.out.keep HK6.out)
  have HX6 := Lib.hid (show w6.cell? ⟨w5.heap.size, 0, none⟩ = some (.string s0) ∧ w6.cell? ⟨w5.heap.size, 1, none⟩ = some (.string s1) ∧ w6.cell? ⟨w5.heap.size, 2, none⟩ = some (.int .i64 t0) ∧ w6.cell? ⟨w5.heap.size, 3, none⟩ = some (.bool g0) from ⟨(cell_of_block hb6 0).trans rfl, (cell_of_block hb6 1).trans rfl, (cell_of_block hb6 2).trans rfl, (cell_of_block hb6 3).trans rfl⟩)
  have c0 := HR6.out.1
  rw [HN.out] at c0
  have HW6 := Lib.hid hw6
  clear hk5 hb6 hk6 hw6
  go_wp2_with (rw [HW6.out])
  clear HW6
  generalize w5.heap.size = xb at *
  have HL6 := Lib.hid (last_any w6 sp A c L HR6.out (by rw [HN.out]; exact hl) k n HN.out.symm)
  refine (show Calls _ _ _ _ _ from HL6.out).mono ?_
  rintro e w7 ⟨rfl, hk7⟩
  have hlast := HLAST.out
  rw [HN.out] at hlast
  rw [hlast]
  clear hlast HL6 c0
  obtain ⟨w8, hw8⟩ : ∃ w8, w7.alloc (.cells #[.string y.key, .string y.val, .int .i64 y.till, .bool y.gone] 35) = w8 := ⟨_, rfl⟩
  have hb8 := heap_alloc_new w7 (.cells #[.string y.key, .string y.val, .int .i64 y.till, .bool y.gone] 35)
  have hk8 : Kp w7 (w7.alloc (.cells #[.string y.key, .string y.val, .int .i64 y.till, .bool y.gone] 35)) := (Keeps.refl _ w7).alloc _
  rw [hw8] at hb8 hk8
  have hk68 := hk7.trans hk8
  have HK8 := Lib.hid (HK6.out.trans hk68)
  have HR8 := Lib.hid (HR6.out.keep hk68)
  have HX8 := Lib.hid (show w8.cell? ⟨xb, 0, none⟩ = some (.string s0) ∧ w8.cell? ⟨xb, 1, none⟩ = some (.string s1) ∧ w8.cell? ⟨xb, 2, none⟩ = some (.int .i64 t0) ∧ w8.cell? ⟨xb, 3, none⟩ = some (.bool g0) from ⟨hk68.cell HX6.out.1 trivial, hk68.cell HX6.out.2.1 trivial, hk68.cell HX6.out.2.2.1 trivial, hk68.cell HX6.out.2.2.2 trivial⟩)
  have HY8 := Lib.hid (show w8.cell? ⟨w7.heap.size, 0, none⟩ = some (.string y.key) ∧ w8.cell? ⟨w7.heap.size, 1, none⟩ = some (.string y.val) ∧ w8.cell? ⟨w7.heap.size, 2, none⟩ = some (.int .i64 y.till) ∧ w8.cell? ⟨w7.heap.size, 3, none⟩ = some (.bool y.gone) from ⟨(cell_of_block hb8 0).trans rfl, (cell_of_block hb8 1).trans rfl, (cell_of_block hb8 2).trans rfl, (cell_of_block hb8 3).trans rfl⟩)
  have HW8 := Lib.hid hw8
  clear hk7 hb8 hk8 hw8 hk68 HX6 HR6 HK6 HR HF HGET
  have x0 := HX8.out.1
  have y0 := HY8.out.1
  have y1 := HY8.out.2.1
  have y2 := HY8.out.2.2.1
  have y3 := HY8.out.2.2.2
  rcases HCASE.out with ⟨rfl, rfl, rfl⟩ | ⟨rfl, hlv, rfl, rfl⟩ | ⟨rfl, hlv, rfl, rfl, rfl, rfl, rfl⟩ | ⟨rfl, hlv, rfl, hi, hc⟩
  · go_wp2_with (rw [HW8.out])
    go_ret
    exact ⟨rfl, HK8.out⟩
  · have HLV := Lib.hid hlv
    clear hlv
    go_wp2_with (rw [HW8.out])
    refine (show Calls _ _ _ _ _ from rlive w8 y HFIT.out now HN1.out HN2.out).mono ?_
    rintro e w9 ⟨rfl, hk9⟩
    rw [HLV.out]
    have z0 := hk9.cell x0 trivial
    have HK9 := Lib.hid (HK8.out.trans hk9)
    clear x0 y0 y1 y2 y3 hk9
    go_wp2_with fail
    go_ret
    exact ⟨rfl, HK9.out⟩
  · have HLV := Lib.hid hlv
    clear hlv
    go_wp2_with (rw [HW8.out])
    refine (show Calls _ _ _ _ _ from rlive w8 y HFIT.out now HN1.out HN2.out).mono ?_
    rintro e w9 ⟨rfl, hk9⟩
    rw [HLV.out]
    have z0 := hk9.cell x0 trivial
    have z1 := hk9.cell HX8.out.2.1 trivial
    have z2 := hk9.cell HX8.out.2.2.1 trivial
    have z3 := hk9.cell HX8.out.2.2.2 trivial
    have u0 := hk9.cell y0 trivial
    have u1 := hk9.cell y1 trivial
    have u2 := hk9.cell y2 trivial
    have u3 := hk9.cell y3 trivial
    have HK9 := Lib.hid (HK8.out.trans hk9)
    clear x0 y0 y1 y2 y3 hk9
    go_wp2_with fail
    refine (show Calls _ _ _ _ _ from reqItem w9 y y HFIT.out HFIT.out true (by simp)).mono ?_
    rintro e w10 ⟨rfl, hk10⟩
    have HK10 := Lib.hid (HK9.out.trans hk10)
    clear hk10
    go_wp2_with fail
    go_ret
    exact ⟨rfl, HK10.out⟩
  · have HLV := Lib.hid hlv
    have HI := Lib.hid hi
    have HC := Lib.hid hc
    clear hlv hi hc
    go_wp2_with (rw [HW8.out])
    refine (show Calls _ _ _ _ _ from rlive w8 y HFIT.out now HN1.out HN2.out).mono ?_
    rintro e w9 ⟨rfl, hk9⟩
    rw [HLV.out]
    have HR9 := Lib.hid (HR8.out.keep hk9)
    have HK9 := Lib.hid (HK8.out.trans hk9)
    clear x0 y0 y1 y2 y3 hk9
    go_wp2_with fail
    refine (show Calls _ _ _ _ _ from after_any w9 sp A c L HR9.out (by rw [HN.out]; exact hl) HB.out i HI.out).mono ?_
    rintro e w10 ⟨rfl, hw10⟩
    have hw10 := hw10.symm
    subst hw10
    have hc : (200 : Int) * ((segs : Int) - 2) < ((costFrom L i : Nat) : Int) := by have := HC.out; omega
    have hcl := costFrom_le L HB.out i
    have hcb : costFrom L i ≤ 120000 := by have := HN.out; omega
    clear hcl
    generalize costFrom L i = cf at hc hcb ⊢
    go_wp2_with fail
    go_ret
    exact ⟨rfl, HK9.out⟩
end Go.Proofs.YtoepgbpmcjnbmaaGreatDoor.flashAll
