/-
  THE WALK OF ItemMay, whatever way the program goes.
-/
import Derived.Test.YtgdbkmecfbkobaaItemBegun
import Derived.Test.YtgdbkmecfbkobaaItemRef
import Derived.Test.YtgdbkmecfbkobaaItemCut
namespace Go.Proofs.Ytgdbkmecfbkobaa.itemMay
open Go Go.RowKit Go.Joins

set_option maxRecDepth 100000 in
set_option maxHeartbeats 4000000 in
theorem walk (S : ItemOK) (w : World) (hT : S.T w) (x : It) (hk : x.key.size ≤ maxLen) (hv : x.val.size ≤ maxLen) (ht1 : -9223372036854775808 ≤ x.till) (ht2 : x.till < 9223372036854775808) (now : Int) (hn1 : -9223372036854775808 ≤ now) (hn2 : now < 9223372036854775808) :
    Calls Try.prog 3 #[.agg #[.string x.key, .string x.val, .int .i64 x.till, .bool x.gone], .int .i64 now] w fun e w' => e = .returned (.bool true) ∧ Below w.heap.size w w' := by
  have HT := Lib.hid hT
  have HCUT := Lib.hid (fun w => law_cut w x hk hv)
  have HFITS := Lib.hid (x.cut_fits ht1 ht2)
  have H1 := Lib.hid hn1
  have H2 := Lib.hid hn2
  clear hT hk hv ht1 ht2 hn1 hn2
  go_enter Try.func3, Try.ntmps3
  go_wp2_with fail
  have HK0 := Lib.hid ((Keeps.refl (fun _ => True) w).alloc (.cells #[.string x.key, .string x.val, .int .i64 x.till, .bool x.gone] 23))
  have hb0 := heap_alloc_new w (.cells #[.string x.key, .string x.val, .int .i64 x.till, .bool x.gone] 23)
  have hs0 : w.heap.size < (w.alloc (.cells #[.string x.key, .string x.val, .int .i64 x.till, .bool x.gone] 23)).heap.size := by simp
  generalize (w.alloc (.cells #[.string x.key, .string x.val, .int .i64 x.till, .bool x.gone] 23)) = w0 at HK0 hb0 hs0 ⊢
  refine (begun7 S w0 (S.tk HT.out HK0.out)).mono ?_
  rintro e w1 ⟨rfl, hk1⟩
  have hb1 : w1.heap[w.heap.size]? = _ := (hk1.block w.heap.size trivial hs0).trans hb0
  have hz1 := hk1.size
  have HK1 := Lib.hid (HK0.out.trans hk1)
  clear hk1 hb0
  have c0 := (cell_of_block hb1 0).trans rfl
  have c1 := (cell_of_block hb1 1).trans rfl
  have c2 := (cell_of_block hb1 2).trans rfl
  have c3 := (cell_of_block hb1 3).trans rfl
  go_wp2_with fail
  refine (HCUT.out w1).mono ?_
  rintro e w2 ⟨rfl, hk2⟩
  have hb2 : w2.heap[w.heap.size]? = _ := (hk2.block w.heap.size trivial (by omega)).trans hb1
  have HK2 := Lib.hid (HK1.out.trans hk2)
  have hz2 := HK2.out.size
  clear hk2 hb1 c0 c1 c2 c3
  have c0 := (cell_of_block hb2 0).trans rfl
  have c1 := (cell_of_block hb2 1).trans rfl
  have c2 := (cell_of_block hb2 2).trans rfl
  have c3 := (cell_of_block hb2 3).trans rfl
  have f0 := unfrozen_of_block hb2 0
  have f1 := unfrozen_of_block hb2 1
  have f2 := unfrozen_of_block hb2 2
  have f3 := unfrozen_of_block hb2 3
  go_wp2_with fail
  have hb3 := block_setCell (block_setCell (block_setCell (block_setCell hb2 (i := 0) (.string x.cut.key)) (i := 1) (.string x.cut.val)) (i := 2) (.int .i64 x.cut.till)) (i := 3) (.bool x.cut.gone)
  have HK3 := Lib.hid ((((HK2.out.setCell (p := ⟨w.heap.size, 0, none⟩) (.inl (Nat.le_refl _)) (.string x.cut.key)).setCell (p := ⟨w.heap.size, 1, none⟩) (.inl (Nat.le_refl _)) (.string x.cut.val)).setCell (p := ⟨w.heap.size, 2, none⟩) (.inl (Nat.le_refl _)) (.int .i64 x.cut.till)).setCell (p := ⟨w.heap.size, 3, none⟩) (.inl (Nat.le_refl _)) (.bool x.cut.gone))
  clear hb2 c0 c1 c2 c3 f0 f1 f2 f3 HK2
  generalize ((((w2.setCell { block := w.heap.size, off := 0 } (Value.string x.cut.key)).setCell { block := w.heap.size, off := 1 } (Value.string x.cut.val)).setCell { block := w.heap.size, off := 2 } (Value.int IntKind.i64 x.cut.till)).setCell { block := w.heap.size, off := 3 } (Value.bool x.cut.gone)) = w3 at hb3 HK3 ⊢
  generalize x.cut = y at hb3 HFITS ⊢
  have HC := Lib.hid (show ∀ W, Keeps (fun _ => True) w3 W → W.cell? ⟨w.heap.size, 0, none⟩ = some (.string y.key) ∧ W.cell? ⟨w.heap.size, 1, none⟩ = some (.string y.val) ∧ W.cell? ⟨w.heap.size, 2, none⟩ = some (.int .i64 y.till) ∧ W.cell? ⟨w.heap.size, 3, none⟩ = some (.bool y.gone) from
    fun W h => ⟨h.cell ((cell_of_block hb3 0).trans rfl) trivial, h.cell ((cell_of_block hb3 1).trans rfl) trivial, h.cell ((cell_of_block hb3 2).trans rfl) trivial, h.cell ((cell_of_block hb3 3).trans rfl) trivial⟩)
  clear hb3
  have HM := Lib.hid (fun W (h : Keeps (fun _ => True) w3 W) => (S.may W y (S.tk HT.out (HK3.out.trans h)) HFITS.out).mono fun e W' q => (⟨q.1, h.trans q.2⟩ : e = .returned (.bool y.may) ∧ Keeps (fun _ => True) w3 W'))
  have HL := Lib.hid (fun W (h : Keeps (fun _ => True) w3 W) => (S.live W y now (S.tk HT.out (HK3.out.trans h)) HFITS.out H1.out H2.out).mono fun e W' q => (⟨q.1, h.trans q.2⟩ : e = .returned (.bool (y.live now)) ∧ Keeps (fun _ => True) w3 W'))
  have HRM := Lib.hid (fun W (h : Keeps (fun _ => True) w3 W) => (rmay W y HFITS.out).mono fun e W' q => (⟨q.1, h.trans q.2⟩ : e = .returned (.bool y.may) ∧ Keeps (fun _ => True) w3 W'))
  have HRL := Lib.hid (fun W (h : Keeps (fun _ => True) w3 W) => (rlive W y HFITS.out now H1.out H2.out).mono fun e W' q => (⟨q.1, h.trans q.2⟩ : e = .returned (.bool (y.live now)) ∧ Keeps (fun _ => True) w3 W'))
  generalize y.may = m at HM HRM
  generalize y.live now = v at HL HRL
  have tm : (m == m) = true := beq_self_eq_true _
  have tv : (v == v) = true := beq_self_eq_true _
  have hst : Keeps (fun _ => True) w3 w3.drew := (Keeps.refl _ w3).drew
  obtain ⟨c0, c1, c2, c3⟩ := HC.out _ hst
  go_region_with (first
    | (go_at_call 10; ((with_reducible refine (HM.out _ hst).mono ?_); rintro e w' ⟨rfl, hst'⟩; replace hst := hst'; obtain ⟨c0, c1, c2, c3⟩ := HC.out _ hst))
    | (go_at_call 11; ((with_reducible refine (HRM.out _ hst).mono ?_); rintro e w' ⟨rfl, hst'⟩; replace hst := hst'; obtain ⟨c0, c1, c2, c3⟩ := HC.out _ hst))
    | (go_at_call 12; ((with_reducible refine (HL.out _ hst).mono ?_); rintro e w' ⟨rfl, hst'⟩; replace hst := hst'; obtain ⟨c0, c1, c2, c3⟩ := HC.out _ hst))
    | (go_at_call 13; ((with_reducible refine (HRL.out _ hst).mono ?_); rintro e w' ⟨rfl, hst'⟩; replace hst := hst'; obtain ⟨c0, c1, c2, c3⟩ := HC.out _ hst)))
  all_goals
    have HK4 := Lib.hid (HK3.out.trans hst)
    clear hst c0 c1 c2 c3
    go_wp2_with fail
    go_ret
    exact ⟨by first | rfl | (rw [tv]; rfl) | (rw [tm, tv]; rfl) | simp, HK4.out.below⟩

end Go.Proofs.Ytgdbkmecfbkobaa.itemMay
