/-
  SecDec: texts of mine, joined.
-/
import Derived.Test.YtemkjodkmehffaaGreatDoorAllM25
namespace Go.Proofs.YtemkjodkmehffaaGreatDoor
open Go Go.RowKit Go.Joins
def frmV : Option (Int × List UInt8) → Value
 | none => .tuple #[.int .i64 0, .string ⟨#[]⟩, .int .i64 3]
 | some (n, x) => .tuple #[.int .i64 n, .string (txt x), .int .i64 0]
def VP (b o c : Nat) (z : Int) (s : List UInt8) (x : Bool) : Nat → World → Value → Prop
 | 0 => IsV (.slice (some ⟨b, o, none⟩) 64 c)
 | 1 => IsV (.int .i64 64)
 | 2 => IsV (.bool false)
 | 3 => IsV (.bool false)
 | 4 => IsV (.slice (some ⟨b, o, none⟩) 64 c)
 | 5 => IsV (.slice (some ⟨b, o + 60, none⟩) 4 (c - 60))
 | 6 => IsV (.int .u8 z)
 | 7 => IsV (.slice (some ⟨b, o, none⟩) 64 c)
 | 8 => TextV s
 | 9 => IsV (.bool x)
 | 10 => IsV (.bool (!x))
 | 11 => IsV (.bool (!x))
 | _ => fun _ _ => True
theorem VP_mono {b o c : Nat} {z : Int} {s : List UInt8} {x : Bool} (i : Nat) (w w' : World) (v : Value) (h : Kp w w') (hv : VP b o c z s x i w v) : VP b o c z s x i w' v := by
 match i, hv with
 | 0, hv => exact hv
 | 1, hv => exact hv
 | 2, hv => exact hv
 | 3, hv => exact hv
 | 4, hv => exact hv
 | 5, hv => exact hv
 | 6, hv => exact hv
 | 7, hv => exact hv
 | 8, hv => exact TextV.mono h hv
 | 9, hv => exact hv
 | 10, hv => exact hv
 | 11, hv => exact hv
 | n + 12, _ => trivial
def GP : Nat → Option Bool
 | 3 => some false
 | _ => none
theorem GP_is {b o c : Nat} {z : Int} {s : List UInt8} {x : Bool} (g : Nat) (d : Bool) (h : GP g = some d) (w : World) (v : Value) (hv : VP b o c z s x g w v) : v = .bool d := by
 match g, h, hv with
 | 3, h, hv => cases h; exact hv
theorem cut_end {w : World} {b o c k n : Nat} {F : Nat → Prop} {l : List UInt8} (h : Row w (some ⟨b, o, none⟩) F (bcells l)) (hl : l.length = n) (hk : k ≤ n) (hc : n < c ∨ k < n ∧ n ≤ c) : Row w (some ⟨b, o + k, none⟩) F (bcells (l.drop k)) := by
 have h1 := h.cut (k := k) (cap := c) (by rw [bcells_len]; omega) (by rw [bcells_len]; omega)
 rw [if_neg (by omega)] at h1
 have e : bcells (l.drop k) = (bcells l).drop k := by simp [bcells]
 rw [e]
 simpa [WideShapes.add_plain] using h1
theorem txt_same (l r : List UInt8) : ((txt l).toList == (txt r).toList) = decide (l = r) := by
 have e1 : (txt l).toList = l := by rw [Lib.toList_data]; rfl
 have e2 : (txt r).toList = r := by rw [Lib.toList_data]; rfl
 rw [e1, e2, Bool.eq_iff_iff]; simp
theorem decF_no {q : UInt8} {l : List UInt8} (h : ((txt (l.drop 60)).toList == (txt (sumOf q l)).toList) = false) : decF q l = none := by
 rw [txt_same, decide_eq_false_iff_not] at h
 unfold decF; rw [if_neg h]
theorem decF_yes {q : UInt8} {l : List UInt8} (h : ((txt (l.drop 60)).toList == (txt (sumOf q l)).toList) = true) : decF q l = readF (l.take 60) := by
 rw [txt_same, decide_eq_true_eq] at h
 unfold decF; rw [if_pos h]
theorem readF_no {l : List UInt8} {t : Int} {k e : Nat} (h : getZ l = (t, k, e)) (hb : e ≠ 0) : readF l = none := by
 unfold readF; rw [h]; simp only; rw [if_pos hb]
theorem readF_bad {l : List UInt8} {t : Int} {k : Nat} {x : List UInt8} {m e : Nat} (h : getZ l = (t, k, 0)) (h1 : getT (l.drop k) = (x, m, e)) (hb : e ≠ 0) : readF l = none := by
 unfold readF; rw [h]; simp only; rw [h1]; simp only
 rw [if_neg (by simp), if_pos hb]
theorem readF_is {l : List UInt8} {t : Int} {k : Nat} {x : List UInt8} {m : Nat} (h : getZ l = (t, k, 0)) (h1 : getT (l.drop k) = (x, m, 0)) : readF l = some (t, x) := by
 unfold readF; rw [h]; simp only; rw [h1]; simp only
 rw [if_neg (by simp), if_neg (by simp)]
set_option maxRecDepth 100000 in
set_option maxHeartbeats 4000000 in
theorem fparse_any (w : World) (hT : Taken w) (q : UInt8) (z : Int) (hz : z = (q.toNat : Int)) (b o c : Nat) (F : Nat → Prop) (l : List UInt8) (h : Row w (some ⟨b, o, none⟩) F (bcells l)) (hl : l.length = 64) (hc : 64 ≤ c) (hcm : c ≤ maxLen) :
  Calls Tryz.prog 116 #[.int .u8 z, .slice (some ⟨b, o, none⟩) 64 c] w fun e w' => e = .returned (frmV (decF q l)) ∧ Keeps (fun _ => True) w w' := by
 have hcm' := hcm
 unfold maxLen at hcm'
 obtain ⟨x, hx⟩ : ∃ x, ((txt (l.drop 60)).toList == (txt (sumOf q l)).toList) = x := ⟨_, rfl⟩
 have HX := Lib.hid hx
 have HT := Lib.hid hT
 have HZ := Lib.hid hz
 have HRW := Lib.hid h
 have HL := Lib.hid hl
 clear hT h hl hx hz
 go_enter Tryz.func116, Tryz.ntmps116
 go_wp2_with fail
 refine wp_region_guard (R := Kp) (V := VP b o c z (sumOf q l) x) (w0 := w) GP (by kernel_rfl) (fun w => Keeps.refl _ w) (fun _ _ _ h k => h.trans k) (fun i w w' v h hv => VP_mono i w w' v h hv) (by kernel_rfl) GP_is (fun i o ho hw => (all_wanted (by kernel_rfl) ho hw).elim) ((Keeps.refl _ w).drew) (each_of ?_) ?_
 ·refine ⟨?_, ?_, ?_, ?_, ?_, ?_, ?_, ?_, ?_, ?_, ?_, ?_, trivial⟩ <;> intro hw a1 w3 L
  ·exact kp_move rfl (L.old 1 (by kernel_rfl))
  ·have e0 : a1.eval (.tmp 12) = .slice (some ⟨b, o, none⟩) 64 c := L.val 0 12 (by kernel_rfl) (by kernel_rfl)
   refine kp_yield (v := .int .i64 64) (w' := w3) ?_ (Keeps.refl _ _) rfl
   generalize a1.eval = ρ at e0 ⊢
   unfold execOp
   go_simp
  ·have e0 : a1.eval (.tmp 13) = .int .i64 64 := L.val 1 13 (by kernel_rfl) (by kernel_rfl)
   have hcn : a1.eval (.const (.int .i64 64)) = .int .i64 64 := rfl
   refine kp_yield (v := .bool false) (w' := w3) ?_ (Keeps.refl _ _) rfl
   generalize a1.eval = ρ at e0 hcn ⊢
   unfold execOp
   go_simp
  ·exact kp_move rfl (L.val 2 14 (by kernel_rfl) (by kernel_rfl))
  ·exact kp_move rfl (L.old 1 (by kernel_rfl))
  ·have e0 : a1.eval (.tmp 16) = .slice (some ⟨b, o, none⟩) 64 c := L.val 4 16 (by kernel_rfl) (by kernel_rfl)
   have hcn : a1.eval (.const (.int .i64 60)) = .int .i64 60 := rfl
   have hne : ¬ c = 60 := by omega
   have hne2 : ¬ c ≤ 60 := by omega
   refine kp_yield (v := .slice (some ⟨b, o + 60, none⟩) 4 (c - 60)) (w' := w3) ?_ (Keeps.refl _ _) rfl
   generalize a1.eval = ρ at e0 hcn ⊢
   unfold execOp
   go_simp
  ·exact kp_move rfl (L.old 0 (by kernel_rfl))
  ·exact kp_move rfl (L.old 1 (by kernel_rfl))
  ·have e0 : a1.eval (.tmp 19) = .slice (some ⟨b, o, none⟩) 64 c := L.val 7 19 (by kernel_rfl) (by kernel_rfl)
   have e1 : a1.eval (.tmp 18) = .int .u8 z := L.val 6 18 (by kernel_rfl) (by kernel_rfl)
   have hf : a1.eval (.func 114) = .func (.func 114) #[] #[] := rfl
   refine kp_enter (f := 114) (args := #[.int .u8 z, .slice (some ⟨b, o, none⟩) 64 c]) ?_ (fsum_any q z HZ.out _ c _ l w3 (HRW.out.lt.keep (L.rel.mono fun _ _ _ => trivial)) HL.out hc hcm (HT.out.keep L.rel)) ?_
   ·generalize a1.eval = ρ at e0 e1 hf ⊢
    unfold execOp
    go_simp
   ·rintro e w' ⟨v, rfl, ho, hk⟩
    obtain ⟨A, d, e, hn, hr⟩ := own_slice ho
    exact ⟨v, rfl, hk, A, d, e, hr.mono fun _ _ _ => trivial⟩
  ·have e0 : a1.eval (.tmp 17) = .slice (some ⟨b, o + 60, none⟩) 4 (c - 60) := L.val 5 17 (by kernel_rfl) (by kernel_rfl)
   obtain ⟨A, d, e1, hr⟩ := L.val 8 20 (by kernel_rfl) (by kernel_rfl)
   have hf : a1.eval (.func 135) = .func (.func 135) #[] #[] := rfl
   refine kp_enter (f := 135) (args := #[.slice (some ⟨b, o + 60, none⟩) 4 (c - 60), .slice A (sumOf q l).length d]) ?_ (equal_any _ _ _ _ _ _ _ _ (l.drop 60) (sumOf q l) w3 (cut_end (HRW.out.lt.keep (L.rel.mono fun _ _ _ => trivial)) HL.out (by decide) (.inr ⟨by decide, hc⟩)) hr (by rw [List.length_drop, HL.out]) rfl x HX.out) ?_
   ·clear hr
    generalize a1.eval = ρ at e0 e1 hf ⊢
    unfold execOp
    go_simp
   ·rintro e w' ⟨rfl, rfl⟩
    exact ⟨_, rfl, Keeps.refl _ _, rfl⟩
  ·have e0 : a1.eval (.tmp 21) = .bool x := L.val 9 21 (by kernel_rfl) (by kernel_rfl)
   refine kp_yield (v := .bool (!x)) (w' := w3) ?_ (Keeps.refl _ _) rfl
   generalize a1.eval = ρ at e0 ⊢
   unfold execOp
   go_simp
  ·refine kp_pick (b := false) rfl (L.val 3 15 (by kernel_rfl) (by kernel_rfl)) ?_
   exact L.val 10 22 (by kernel_rfl) (by kernel_rfl)
 ·intro vs w4 hk4 hlen hv
  match vs, hlen with
  | [v0, v1, v2, v3, v4, v5, v6, v7, v8, v9, v10, v11], _ =>
   have e5 : v11 = .bool (!x) := hv 11 23 (by kernel_rfl)
   clear hv
   subst e5
   simp only [putAll, List.map, Act.put, List.setIfInBounds_toArray, List.set_cons_succ, List.set_cons_zero, Exit.then]
   have HK := Lib.hid hk4
   have hr60 : Row w4 (some ⟨b, o, none⟩) (fun b' => F b' ∧ b' < w.heap.size) (bcells (l.take 60)) := bcells_take (HRW.out.lt.keep (hk4.mono fun _ _ _ => trivial)) 60
   have HRW4 := Lib.hid hr60
   clear hk4 HRW HT hr60
   cases x
   ·have HD := Lib.hid (decF_no HX.out)
    go_wp2_with fail
    go_ret3
    exact ⟨by rw [HD.out]; rfl, HK.out⟩
   ·have HD := Lib.hid (decF_yes HX.out)
    have hl60 : (l.take 60).length = 60 := by rw [List.length_take, HL.out]; rfl
    generalize l.take 60 = y at HRW4 HD hl60
    have HL6 := Lib.hid hl60
    have hgz := getZ_cases y
    have hgc := get_any (some ⟨b, o, none⟩) c _ y w4 HRW4.out (by rw [hl60]; decide)
    rw [hl60] at hgc
    have HGC := Lib.hid hgc
    have HGZ := Lib.hid hgz
    clear hgc hgz hl60
    go_wp2_with fail
    refine HGC.out.mono ?_
    rintro e w' ⟨rfl, rfl⟩
    obtain ⟨t, k, e, hg, hk⟩ : ∃ (t : Int) (k e : Nat), getZ y = (t, k, e) ∧ k ≤ 10 := by
     rcases HGZ.out with ⟨n, k, h, _, h2, _, h3, h4⟩ | h | h
     ·exact ⟨n, k, 0, h, h2⟩
     ·exact ⟨0, 0, 1, h, by omega⟩
     ·exact ⟨0, 0, 2, h, by omega⟩
    have HG := Lib.hid hg
    rw [hg]
    simp only
    clear hg HGC HGZ
    have hcs : ((((e : Nat) : Int) != 0) = true ∧ e ≠ 0) ∨ ((((e : Nat) : Int) != 0) = false ∧ e = 0) := by
     by_cases h0 : e = 0
     ·right; exact ⟨by simp [h0], h0⟩
     ·left; exact ⟨by simp; omega, h0⟩
    rcases hcs with ⟨t0, hb⟩ | ⟨t0, he0⟩
    ·have HZ := Lib.hid (show decF q l = none by rw [HD.out]; exact readF_no HG.out hb)
     clear hb
     go_wp2_with fail
     go_ret3
     exact ⟨by rw [HZ.out]; rfl, HK.out⟩
    ·subst he0
     have hne : ¬ c = k := by omega
     have hle : k ≤ 60 := by omega
     have hle2 : k ≤ c := by omega
     have hle3 : (60 : Nat) ≤ c := by omega
     have hkl := Lib.hid (show (y.drop k).length = 60 - k by rw [List.length_drop, HL6.out])
     have hgt := get_text (some ⟨b, o + k, none⟩) (c - k) _ (y.drop k) w4 (cut_end (n := 60) (k := k) (c := c) HRW4.out HL6.out (by omega) (.inl (by omega))) (by rw [hkl.out]; omega) (by rw [hkl.out]; omega) (by omega)
     rw [hkl.out] at hgt
     obtain ⟨u, m, e, hy⟩ : ∃ u m e, getT (y.drop k) = (u, m, e) := ⟨_, _, _, rfl⟩
     rw [hy] at hgt
     simp only at hgt
     have HGT := Lib.hid hgt
     have HY := Lib.hid hy
     clear hgt hy
     go_wp2_with fail
     refine HGT.out.mono ?_
     rintro e' w' ⟨rfl, rfl⟩
     have hcy : ((((e : Nat) : Int) != 0) = true ∧ e ≠ 0) ∨ ((((e : Nat) : Int) != 0) = false ∧ e = 0) := by
      by_cases h0 : e = 0
      ·right; exact ⟨by simp [h0], h0⟩
      ·left; exact ⟨by simp; omega, h0⟩
     rcases hcy with ⟨u0, hb⟩ | ⟨u0, he0⟩
     ·have HZ := Lib.hid (show decF q l = none by rw [HD.out]; exact readF_bad HG.out HY.out hb)
      clear hb
      go_wp2_with fail
      go_ret3
      exact ⟨by rw [HZ.out]; rfl, HK.out⟩
     ·subst he0
      have HZ := Lib.hid (show decF q l = some (t, u) by rw [HD.out]; exact readF_is HG.out HY.out)
      go_wp2_with fail
      go_ret3
      exact ⟨by rw [HZ.out]; rfl, HK.out⟩
def recV : Option (Nat × List UInt8) → Value
 | none => .agg #[.int .i64 0, .string ⟨#[]⟩]
 | some (t, x) => .agg #[.int .i64 (t : Int), .string (txt x)]
theorem decS_none {l : List UInt8} (h : decF 83 l = none) : decS l = none := by unfold decS; rw [h]; rfl
theorem decS_no {l : List UInt8} {t : Int} {x : List UInt8} (h : decF 83 l = some (t, x)) (hb : t < 1 ∨ 1099511627776 < t ∨ 40 < x.length) : decS l = none := by
 unfold decS; rw [h]; unfold takeS; simp only; rw [if_pos hb]
theorem recV_yes {l : List UInt8} {t : Int} {x : List UInt8} (h : decF 83 l = some (t, x)) (hb : ¬ (t < 1 ∨ 1099511627776 < t ∨ 40 < x.length)) : recV (decS l) = .agg #[.int .i64 t, .string (txt x)] := by
 unfold decS; rw [h]; unfold takeS; simp only; rw [if_neg hb]
 show Value.agg #[.int .i64 ((t.toNat : Nat) : Int), .string (txt x)] = _
 rw [show ((t.toNat : Nat) : Int) = t by omega]
set_option maxRecDepth 100000 in
set_option maxHeartbeats 2000000 in
theorem parse_any (w : World) (hT : Taken w) (b o c : Nat) (F : Nat → Prop) (l : List UInt8) (h : Row w (some ⟨b, o, none⟩) F (bcells l)) (hl : l.length = 64) (hc : 64 ≤ c) (hcm : c ≤ maxLen) :
  Calls Tryz.prog 90 #[.slice (some ⟨b, o, none⟩) 64 c] w fun e w' => e = .returned (recV (decS l)) ∧ Keeps (fun _ => True) w w' := by
 have HT := Lib.hid hT
 have HRW := Lib.hid h
 have HL := Lib.hid hl
 clear hT h hl
 go_enter Tryz.func90, Tryz.ntmps90
 go_wp2_with fail
 have hk0 := (Keeps.refl (fun _ => True) w).alloc (.cells #[.int .i64 0, .string ⟨#[]⟩] 102)
 have hb0 := heap_alloc_new w (.cells #[.int .i64 0, .string ⟨#[]⟩] 102)
 have hr0 : w.heap.size < (w.alloc (.cells #[.int .i64 0, .string ⟨#[]⟩] 102)).heap.size := by simp
 generalize (w.alloc (.cells #[.int .i64 0, .string ⟨#[]⟩] 102)) = w0 at hk0 hb0 hr0 ⊢
 refine (fparse_any w0 (HT.out.keep hk0) 83 83 rfl b o c _ l (HRW.out.keep (hk0.mono fun _ _ _ => trivial)) HL.out hc hcm).mono ?_
 rintro e w4 ⟨rfl, hk4⟩
 have hb4 := (hk4.block _ trivial hr0).trans hb0
 have c0 := (cell_of_block hb4 0).trans rfl
 have c1 := (cell_of_block hb4 1).trans rfl
 have f0 := unfrozen_of_block hb4 0
 have f1 := unfrozen_of_block hb4 1
 have hk := hk0.trans hk4
 have HFIN := Lib.hid (show ∀ v0 v1, Keeps (fun _ => True) w ((w4.setCell ⟨w.heap.size, 0, none⟩ v0).setCell ⟨w.heap.size, 1, none⟩ v1) from fun v0 v1 => (hk.setCell (.inl (Nat.le_refl _)) v0).setCell (.inl (Nat.le_refl _)) v1)
 have HCELL := Lib.hid (show ∀ v0 v1, ((w4.setCell ⟨w.heap.size, 0, none⟩ v0).setCell ⟨w.heap.size, 1, none⟩ v1).cell? ⟨w.heap.size, 0, none⟩ = some v0 ∧ ((w4.setCell ⟨w.heap.size, 0, none⟩ v0).setCell ⟨w.heap.size, 1, none⟩ v1).cell? ⟨w.heap.size, 1, none⟩ = some v1 from fun v0 v1 => by
  have h1 := block_setCell (block_setCell hb4 (i := 0) v0) (i := 1) v1
  exact ⟨(cell_of_block h1 0).trans rfl, (cell_of_block h1 1).trans rfl⟩)
 clear hb4 hk hk4 hb0 hr0 HRW HT hk0
 obtain ⟨r, hr⟩ : ∃ r, decF 83 l = r := ⟨_, rfl⟩
 rw [hr]
 have HR := Lib.hid hr
 clear hr
 rcases r with _ | ⟨t, x⟩
 ·have HD := Lib.hid (show recV (decS l) = .agg #[.int .i64 0, .string ⟨#[]⟩] by rw [decS_none HR.out]; rfl)
  unfold frmV
  go_wp2_with fail
  exact bodyPost_ret (v := .agg #[.int .i64 0, .string ⟨#[]⟩]) (by simp [results, Tryz.results90, go_sem, HCELL.out]) rfl ⟨by rw [HD.out], HFIN.out _ _⟩
 ·unfold frmV
  have hcs : (decide (t < 1) = true ∧ t < 1) ∨ (decide (t < 1) = false ∧ decide (1099511627776 < t) = true ∧ 1099511627776 < t) ∨ (decide (t < 1) = false ∧ decide (1099511627776 < t) = false ∧ decide ((40 : Int) < ((txt x).size : Int)) = true ∧ 40 < x.length) ∨ (decide (t < 1) = false ∧ decide (1099511627776 < t) = false ∧ decide ((40 : Int) < ((txt x).size : Int)) = false ∧ ¬ (t < 1 ∨ 1099511627776 < t ∨ 40 < x.length)) := by
   rw [txt_size]
   by_cases h1 : t < 1
   ·left; exact ⟨by simpa using h1, h1⟩
   ·right
    by_cases h2 : 1099511627776 < t
    ·left; exact ⟨by simpa using h1, by simpa using h2, h2⟩
    ·right
     by_cases h3 : 40 < x.length
     ·left; exact ⟨by simpa using h1, by simpa using h2, by simp; omega, h3⟩
     ·right; exact ⟨by simpa using h1, by simpa using h2, by simp; omega, by omega⟩
  rcases hcs with ⟨t0, hb⟩ | ⟨t0, t1, hb⟩ | ⟨t0, t1, t2, hb⟩ | ⟨t0, t1, t2, hb⟩
  ·have HD := Lib.hid (show recV (decS l) = .agg #[.int .i64 0, .string ⟨#[]⟩] by rw [decS_no HR.out (.inl hb)]; rfl)
   clear hb
   go_wp2_with fail
   exact bodyPost_ret (v := .agg #[.int .i64 0, .string ⟨#[]⟩]) (by simp [results, Tryz.results90, go_sem, HCELL.out]) rfl ⟨by rw [HD.out], HFIN.out _ _⟩
  ·have HD := Lib.hid (show recV (decS l) = .agg #[.int .i64 0, .string ⟨#[]⟩] by rw [decS_no HR.out (.inr (.inl hb))]; rfl)
   clear hb
   go_wp2_with fail
   exact bodyPost_ret (v := .agg #[.int .i64 0, .string ⟨#[]⟩]) (by simp [results, Tryz.results90, go_sem, HCELL.out]) rfl ⟨by rw [HD.out], HFIN.out _ _⟩
  ·have HD := Lib.hid (show recV (decS l) = .agg #[.int .i64 0, .string ⟨#[]⟩] by rw [decS_no HR.out (.inr (.inr hb))]; rfl)
   clear hb
   go_wp2_with fail
   exact bodyPost_ret (v := .agg #[.int .i64 0, .string ⟨#[]⟩]) (by simp [results, Tryz.results90, go_sem, HCELL.out]) rfl ⟨by rw [HD.out], HFIN.out _ _⟩
  ·have HD := Lib.hid (recV_yes HR.out hb)
   clear hb
   go_wp2_with fail
   exact bodyPost_ret (v := .agg #[.int .i64 t, .string (txt x)]) (by simp [results, Tryz.results90, go_sem, HCELL.out]) rfl ⟨by rw [HD.out], HFIN.out _ _⟩
end Go.Proofs.YtemkjodkmehffaaGreatDoor
