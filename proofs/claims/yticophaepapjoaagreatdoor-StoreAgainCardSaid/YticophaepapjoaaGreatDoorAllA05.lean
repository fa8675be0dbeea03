/-
  SecDec, SuperIf, SuperMade, SuperOpen, SuperSave, SuperLocs, SuperSaves: texts of mine, joined.
-/
import Derived.Test.YticophaepapjoaaGreatDoorAllA04
import Derived.Test.YticophaepapjoaaGreatDoorAllA01
import Derived.Test.YticophaepapjoaaGreatDoorAllA02
import Derived.IntWalk
import Derived.RegionTactic
import Derived.ChangeAlike
import Derived.BigRegion
import Derived.StillTailTactics
namespace Go.Proofs.YticophaepapjoaaGreatDoor
open Go Go.RowKit Go.Joins
def frmV : Option (Int × List UInt8) → Value
 | none => .tuple #[.int .i64 0, .string ⟨#[]⟩, .int .i64 3]
 | some (n, x) => .tuple #[.int .i64 n, .string (txt x), .int .i64 0]
def VP (b o c : Nat) (z : Int) (s : List UInt8) (x : Bool) : Nat → World → Value → Prop
 | 0 => IsV (.slice (some ⟨b, o, none⟩) 64 c)
 | 1 => IsV (.int .i64 64)
 | 2 => IsV (.bool false)
 | 3 => IsV (.bool false)
 | 4 => IsV (.slice (some ⟨b, o, none⟩) 64 c)
 | 5 => IsV (.slice (some ⟨b, o + 60, none⟩) 4 (c - 60))
 | 6 => IsV (.int .u8 z)
 | 7 => IsV (.slice (some ⟨b, o, none⟩) 64 c)
 | 8 => TextV s
 | 9 => IsV (.bool x)
 | 10 => IsV (.bool (!x))
 | 11 => IsV (.bool (!x))
 | _ => fun _ _ => True
theorem VP_mono {b o c : Nat} {z : Int} {s : List UInt8} {x : Bool} (i : Nat) (w w' : World) (v : Value) (h : Kp w w') (hv : VP b o c z s x i w v) : VP b o c z s x i w' v := by
 match i, hv with
 | 0, hv => exact hv
 | 1, hv => exact hv
 | 2, hv => exact hv
 | 3, hv => exact hv
 | 4, hv => exact hv
 | 5, hv => exact hv
 | 6, hv => exact hv
 | 7, hv => exact hv
 | 8, hv => exact TextV.mono h hv
 | 9, hv => exact hv
 | 10, hv => exact hv
 | 11, hv => exact hv
 | n + 12, _ => trivial
def GP : Nat → Option Bool
 | 3 => some false
 | _ => none
theorem GP_is {b o c : Nat} {z : Int} {s : List UInt8} {x : Bool} (g : Nat) (d : Bool) (h : GP g = some d) (w : World) (v : Value) (hv : VP b o c z s x g w v) : v = .bool d := by
 match g, h, hv with
 | 3, h, hv => cases h; exact hv
theorem cut_end {w : World} {b o c k n : Nat} {F : Nat → Prop} {l : List UInt8} (h : Row w (some ⟨b, o, none⟩) F (bcells l)) (hl : l.length = n) (hk : k ≤ n) (hc : n < c ∨ k < n ∧ n ≤ c) : Row w (some ⟨b, o + k, none⟩) F (bcells (l.drop k)) := by
 have h1 := h.cut (k := k) (cap := c) (by rw [bcells_len]; omega) (by rw [bcells_len]; omega)
 rw [if_neg (by omega)] at h1
 have e : bcells (l.drop k) = (bcells l).drop k := by simp [bcells]
 rw [e]
 simpa [WideShapes.add_plain] using h1
theorem txt_same (l r : List UInt8) : ((txt l).toList == (txt r).toList) = decide (l = r) := by
 have e1 : (txt l).toList = l := by rw [Lib.toList_data]; rfl
 have e2 : (txt r).toList = r := by rw [Lib.toList_data]; rfl
 rw [e1, e2, Bool.eq_iff_iff]; simp
theorem decF_no {q : UInt8} {l : List UInt8} (h : ((txt (l.drop 60)).toList == (txt (sumOf q l)).toList) = false) : decF q l = none := by
 rw [txt_same, decide_eq_false_iff_not] at h
 unfold decF; rw [if_neg h]
theorem decF_yes {q : UInt8} {l : List UInt8} (h : ((txt (l.drop 60)).toList == (txt (sumOf q l)).toList) = true) : decF q l = readF (l.take 60) := by
 rw [txt_same, decide_eq_true_eq] at h
 unfold decF; rw [if_pos h]
theorem readF_no {l : List UInt8} {t : Int} {k e : Nat} (h : getZ l = (t, k, e)) (hb : e ≠ 0) : readF l = none := by
 unfold readF; rw [h]; simp only; rw [if_pos hb]
theorem readF_bad {l : List UInt8} {t : Int} {k : Nat} {x : List UInt8} {m e : Nat} (h : getZ l = (t, k, 0)) (h1 : getT (l.drop k) = (x, m, e)) (hb : e ≠ 0) : readF l = none := by
 unfold readF; rw [h]; simp only; rw [h1]; simp only
 rw [if_neg (by simp), if_pos hb]
theorem readF_is {l : List UInt8} {t : Int} {k : Nat} {x : List UInt8} {m : Nat} (h : getZ l = (t, k, 0)) (h1 : getT (l.drop k) = (x, m, 0)) : readF l = some (t, x) := by
 unfold readF; rw [h]; simp only; rw [h1]; simp only
 rw [if_neg (by simp), if_neg (by simp)]
set_option maxRecDepth 100000 in
set_option maxHeartbeats 4000000 in
theorem fparse_any (w : World) (hT : Taken w) (q : UInt8) (z : Int) (hz : z = (q.toNat : Int)) (b o c : Nat) (F : Nat → Prop) (l : List UInt8) (h : Row w (some ⟨b, o, none⟩) F (bcells l)) (hl : l.length = 64) (hc : 64 ≤ c) (hcm : c ≤ maxLen) :
  Calls Tryz.prog 185 #[.int .u8 z, .slice (some ⟨b, o, none⟩) 64 c] w fun e w' => e = .returned (frmV (decF q l)) ∧ Keeps (fun _ => True) w w' := by
 have hcm' := hcm
 unfold maxLen at hcm'
 obtain ⟨x, hx⟩ : ∃ x, ((txt (l.drop 60)).toList == (txt (sumOf q l)).toList) = x := ⟨_, rfl⟩
 have HX := Lib.hid hx
 have HT := Lib.hid hT
 have HZ := Lib.hid hz
 have HRW := Lib.hid h
 have HL := Lib.hid hl
 clear hT h hl hx hz
 go_enter Tryz.func185, Tryz.ntmps185
 go_wp2_with fail
 refine wp_region_guard (R := Kp) (V := VP b o c z (sumOf q l) x) (w0 := w) GP (by kernel_rfl) (fun w => Keeps.refl _ w) (fun _ _ _ h k => h.trans k) (fun i w w' v h hv => VP_mono i w w' v h hv) (by kernel_rfl) GP_is (fun i o ho hw => (all_wanted (by kernel_rfl) ho hw).elim) ((Keeps.refl _ w).drew) (each_of ?_) ?_
 ·refine ⟨?_, ?_, ?_, ?_, ?_, ?_, ?_, ?_, ?_, ?_, ?_, ?_, trivial⟩ <;> intro hw a1 w3 L
  ·exact kp_move rfl (L.old 1 (by kernel_rfl))
  ·have e0 : a1.eval (.tmp 12) = .slice (some ⟨b, o, none⟩) 64 c := L.val 0 12 (by kernel_rfl) (by kernel_rfl)
   refine kp_yield (v := .int .i64 64) (w' := w3) ?_ (Keeps.refl _ _) rfl
   generalize a1.eval = ρ at e0 ⊢
   unfold execOp
   go_simp
  ·have e0 : a1.eval (.tmp 13) = .int .i64 64 := L.val 1 13 (by kernel_rfl) (by kernel_rfl)
   have hcn : a1.eval (.const (.int .i64 64)) = .int .i64 64 := rfl
   refine kp_yield (v := .bool false) (w' := w3) ?_ (Keeps.refl _ _) rfl
   generalize a1.eval = ρ at e0 hcn ⊢
   unfold execOp
   go_simp
  ·exact kp_move rfl (L.val 2 14 (by kernel_rfl) (by kernel_rfl))
  ·exact kp_move rfl (L.old 1 (by kernel_rfl))
  ·have e0 : a1.eval (.tmp 16) = .slice (some ⟨b, o, none⟩) 64 c := L.val 4 16 (by kernel_rfl) (by kernel_rfl)
   have hcn : a1.eval (.const (.int .i64 60)) = .int .i64 60 := rfl
   have hne : ¬ c = 60 := by omega
   have hne2 : ¬ c ≤ 60 := by omega
   refine kp_yield (v := .slice (some ⟨b, o + 60, none⟩) 4 (c - 60)) (w' := w3) ?_ (Keeps.refl _ _) rfl
   generalize a1.eval = ρ at e0 hcn ⊢
   unfold execOp
   go_simp
  ·exact kp_move rfl (L.old 0 (by kernel_rfl))
  ·exact kp_move rfl (L.old 1 (by kernel_rfl))
  ·have e0 : a1.eval (.tmp 19) = .slice (some ⟨b, o, none⟩) 64 c := L.val 7 19 (by kernel_rfl) (by kernel_rfl)
   have e1 : a1.eval (.tmp 18) = .int .u8 z := L.val 6 18 (by kernel_rfl) (by kernel_rfl)
   have hf : a1.eval (.func 110) = .func (.func 110) #[] #[] := rfl
   refine kp_enter (f := 110) (args := #[.int .u8 z, .slice (some ⟨b, o, none⟩) 64 c]) ?_ (fsum_any q z HZ.out _ c _ l w3 (HRW.out.lt.keep (L.rel.mono fun _ _ _ => trivial)) HL.out hc hcm (HT.out.keep L.rel)) ?_
   ·generalize a1.eval = ρ at e0 e1 hf ⊢
    unfold execOp
    go_simp
   ·rintro e w' ⟨v, rfl, ho, hk⟩
    obtain ⟨A, d, e, hn, hr⟩ := own_slice ho
    exact ⟨v, rfl, hk, A, d, e, hr.mono fun _ _ _ => trivial⟩
  ·have e0 : a1.eval (.tmp 17) = .slice (some ⟨b, o + 60, none⟩) 4 (c - 60) := L.val 5 17 (by kernel_rfl) (by kernel_rfl)
   obtain ⟨A, d, e1, hr⟩ := L.val 8 20 (by kernel_rfl) (by kernel_rfl)
   have hf : a1.eval (.func 198) = .func (.func 198) #[] #[] := rfl
   refine kp_enter (f := 198) (args := #[.slice (some ⟨b, o + 60, none⟩) 4 (c - 60), .slice A (sumOf q l).length d]) ?_ (equal_any _ _ _ _ _ _ _ _ (l.drop 60) (sumOf q l) w3 (cut_end (HRW.out.lt.keep (L.rel.mono fun _ _ _ => trivial)) HL.out (by decide) (.inr ⟨by decide, hc⟩)) hr (by rw [List.length_drop, HL.out]) rfl x HX.out) ?_
   ·clear hr
    generalize a1.eval = ρ at e0 e1 hf ⊢
    unfold execOp
    go_simp
   ·rintro e w' ⟨rfl, rfl⟩
    exact ⟨_, rfl, Keeps.refl _ _, rfl⟩
  ·have e0 : a1.eval (.tmp 21) = .bool x := L.val 9 21 (by kernel_rfl) (by kernel_rfl)
   refine kp_yield (v := .bool (!x)) (w' := w3) ?_ (Keeps.refl _ _) rfl
   generalize a1.eval = ρ at e0 ⊢
   unfold execOp
   go_simp
  ·refine kp_pick (b := false) rfl (L.val 3 15 (by kernel_rfl) (by kernel_rfl)) ?_
   exact L.val 10 22 (by kernel_rfl) (by kernel_rfl)
 ·intro vs w4 hk4 hlen hv
  match vs, hlen with
  | [v0, v1, v2, v3, v4, v5, v6, v7, v8, v9, v10, v11], _ =>
   have e5 : v11 = .bool (!x) := hv 11 23 (by kernel_rfl)
   clear hv
   subst e5
   simp only [putAll, List.map, Act.put, List.setIfInBounds_toArray, List.set_cons_succ, List.set_cons_zero, Exit.then]
   have HK := Lib.hid hk4
   have hr60 : Row w4 (some ⟨b, o, none⟩) (fun b' => F b' ∧ b' < w.heap.size) (bcells (l.take 60)) := bcells_take (HRW.out.lt.keep (hk4.mono fun _ _ _ => trivial)) 60
   have HRW4 := Lib.hid hr60
   clear hk4 HRW HT hr60
   cases x
   ·have HD := Lib.hid (decF_no HX.out)
    go_wp2_with fail
    go_ret3
    exact ⟨by rw [HD.out]; rfl, HK.out⟩
   ·have HD := Lib.hid (decF_yes HX.out)
    have hl60 : (l.take 60).length = 60 := by rw [List.length_take, HL.out]; rfl
    generalize l.take 60 = y at HRW4 HD hl60
    have HL6 := Lib.hid hl60
    have hgz := getZ_cases y
    have hgc := get_any (some ⟨b, o, none⟩) c _ y w4 HRW4.out (by rw [hl60]; decide)
    rw [hl60] at hgc
    have HGC := Lib.hid hgc
    have HGZ := Lib.hid hgz
    clear hgc hgz hl60
    go_wp2_with fail
    refine HGC.out.mono ?_
    rintro e w' ⟨rfl, rfl⟩
    obtain ⟨t, k, e, hg, hk⟩ : ∃ (t : Int) (k e : Nat), getZ y = (t, k, e) ∧ k ≤ 10 := by
     rcases HGZ.out with ⟨n, k, h, _, h2, _, h3, h4⟩ | h | h
     ·exact ⟨n, k, 0, h, h2⟩
     ·exact ⟨0, 0, 1, h, by omega⟩
     ·exact ⟨0, 0, 2, h, by omega⟩
    have HG := Lib.hid hg
    rw [hg]
    simp only
    clear hg HGC HGZ
    have hcs : ((((e : Nat) : Int) != 0) = true ∧ e ≠ 0) ∨ ((((e : Nat) : Int) != 0) = false ∧ e = 0) := by
     by_cases h0 : e = 0
     ·right; exact ⟨by simp [h0], h0⟩
     ·left; exact ⟨by simp; omega, h0⟩
    rcases hcs with ⟨t0, hb⟩ | ⟨t0, he0⟩
    ·have HZ := Lib.hid (show decF q l = none by rw [HD.out]; exact readF_no HG.out hb)
     clear hb
     go_wp2_with fail
     go_ret3
     exact ⟨by rw [HZ.out]; rfl, HK.out⟩
    ·subst he0
     have hne : ¬ c = k := by omega
     have hle : k ≤ 60 := by omega
     have hle2 : k ≤ c := by omega
     have hle3 : (60 : Nat) ≤ c := by omega
     have hkl := Lib.hid (show (y.drop k).length = 60 - k by rw [List.length_drop, HL6.out])
     have hgt := get_text (some ⟨b, o + k, none⟩) (c - k) _ (y.drop k) w4 (cut_end (n := 60) (k := k) (c := c) HRW4.out HL6.out (by omega) (.inl (by omega))) (by rw [hkl.out]; omega) (by rw [hkl.out]; omega) (by omega)
     rw [hkl.out] at hgt
     obtain ⟨u, m, e, hy⟩ : ∃ u m e, getT (y.drop k) = (u, m, e) := ⟨_, _, _, rfl⟩
     rw [hy] at hgt
     simp only at hgt
     have HGT := Lib.hid hgt
     have HY := Lib.hid hy
     clear hgt hy
     go_wp2_with fail
     refine HGT.out.mono ?_
     rintro e' w' ⟨rfl, rfl⟩
     have hcy : ((((e : Nat) : Int) != 0) = true ∧ e ≠ 0) ∨ ((((e : Nat) : Int) != 0) = false ∧ e = 0) := by
      by_cases h0 : e = 0
      ·right; exact ⟨by simp [h0], h0⟩
      ·left; exact ⟨by simp; omega, h0⟩
     rcases hcy with ⟨u0, hb⟩ | ⟨u0, he0⟩
     ·have HZ := Lib.hid (show decF q l = none by rw [HD.out]; exact readF_bad HG.out HY.out hb)
      clear hb
      go_wp2_with fail
      go_ret3
      exact ⟨by rw [HZ.out]; rfl, HK.out⟩
     ·subst he0
      have HZ := Lib.hid (show decF q l = some (t, u) by rw [HD.out]; exact readF_is HG.out HY.out)
      go_wp2_with fail
      go_ret3
      exact ⟨by rw [HZ.out]; rfl, HK.out⟩
def recV : Option (Nat × List UInt8) → Value
 | none => .agg #[.int .i64 0, .string ⟨#[]⟩]
 | some (t, x) => .agg #[.int .i64 (t : Int), .string (txt x)]
theorem decS_none {l : List UInt8} (h : decF 83 l = none) : decS l = none := by unfold decS; rw [h]; rfl
theorem decS_no {l : List UInt8} {t : Int} {x : List UInt8} (h : decF 83 l = some (t, x)) (hb : t < 1 ∨ 1099511627776 < t ∨ 40 < x.length) : decS l = none := by
 unfold decS; rw [h]; unfold takeS; simp only; rw [if_pos hb]
theorem recV_yes {l : List UInt8} {t : Int} {x : List UInt8} (h : decF 83 l = some (t, x)) (hb : ¬ (t < 1 ∨ 1099511627776 < t ∨ 40 < x.length)) : recV (decS l) = .agg #[.int .i64 t, .string (txt x)] := by
 unfold decS; rw [h]; unfold takeS; simp only; rw [if_neg hb]
 show Value.agg #[.int .i64 ((t.toNat : Nat) : Int), .string (txt x)] = _
 rw [show ((t.toNat : Nat) : Int) = t by omega]
set_option maxRecDepth 100000 in
set_option maxHeartbeats 2000000 in
theorem parse_any (w : World) (hT : Taken w) (b o c : Nat) (F : Nat → Prop) (l : List UInt8) (h : Row w (some ⟨b, o, none⟩) F (bcells l)) (hl : l.length = 64) (hc : 64 ≤ c) (hcm : c ≤ maxLen) :
  Calls Tryz.prog 147 #[.slice (some ⟨b, o, none⟩) 64 c] w fun e w' => e = .returned (recV (decS l)) ∧ Keeps (fun _ => True) w w' := by
 have HT := Lib.hid hT
 have HRW := Lib.hid h
 have HL := Lib.hid hl
 clear hT h hl
 go_enter Tryz.func147, Tryz.ntmps147
 go_wp2_with fail
 have hk0 := (Keeps.refl (fun _ => True) w).alloc (.cells #[.int .i64 0, .string ⟨#[]⟩] 141)
 have hb0 := heap_alloc_new w (.cells #[.int .i64 0, .string ⟨#[]⟩] 141)
 have hr0 : w.heap.size < (w.alloc (.cells #[.int .i64 0, .string ⟨#[]⟩] 141)).heap.size := by simp
 generalize (w.alloc (.cells #[.int .i64 0, .string ⟨#[]⟩] 141)) = w0 at hk0 hb0 hr0 ⊢
 refine (fparse_any w0 (HT.out.keep hk0) 83 83 rfl b o c _ l (HRW.out.keep (hk0.mono fun _ _ _ => trivial)) HL.out hc hcm).mono ?_
 rintro e w4 ⟨rfl, hk4⟩
 have hb4 := (hk4.block _ trivial hr0).trans hb0
 have c0 := (cell_of_block hb4 0).trans rfl
 have c1 := (cell_of_block hb4 1).trans rfl
 have f0 := unfrozen_of_block hb4 0
 have f1 := unfrozen_of_block hb4 1
 have hk := hk0.trans hk4
 have HFIN := Lib.hid (show ∀ v0 v1, Keeps (fun _ => True) w ((w4.setCell ⟨w.heap.size, 0, none⟩ v0).setCell ⟨w.heap.size, 1, none⟩ v1) from fun v0 v1 => (hk.setCell (.inl (Nat.le_refl _)) v0).setCell (.inl (Nat.le_refl _)) v1)
 have HCELL := Lib.hid (show ∀ v0 v1, ((w4.setCell ⟨w.heap.size, 0, none⟩ v0).setCell ⟨w.heap.size, 1, none⟩ v1).cell? ⟨w.heap.size, 0, none⟩ = some v0 ∧ ((w4.setCell ⟨w.heap.size, 0, none⟩ v0).setCell ⟨w.heap.size, 1, none⟩ v1).cell? ⟨w.heap.size, 1, none⟩ = some v1 from fun v0 v1 => by
  have h1 := block_setCell (block_setCell hb4 (i := 0) v0) (i := 1) v1
  exact ⟨(cell_of_block h1 0).trans rfl, (cell_of_block h1 1).trans rfl⟩)
 clear hb4 hk hk4 hb0 hr0 HRW HT hk0
 obtain ⟨r, hr⟩ : ∃ r, decF 83 l = r := ⟨_, rfl⟩
 rw [hr]
 have HR := Lib.hid hr
 clear hr
 rcases r with _ | ⟨t, x⟩
 ·have HD := Lib.hid (show recV (decS l) = .agg #[.int .i64 0, .string ⟨#[]⟩] by rw [decS_none HR.out]; rfl)
  unfold frmV
  go_wp2_with fail
  exact bodyPost_ret (v := .agg #[.int .i64 0, .string ⟨#[]⟩]) (by simp [results, Tryz.results147, go_sem, HCELL.out]) rfl ⟨by rw [HD.out], HFIN.out _ _⟩
 ·unfold frmV
  have hcs : (decide (t < 1) = true ∧ t < 1) ∨ (decide (t < 1) = false ∧ decide (1099511627776 < t) = true ∧ 1099511627776 < t) ∨ (decide (t < 1) = false ∧ decide (1099511627776 < t) = false ∧ decide ((40 : Int) < ((txt x).size : Int)) = true ∧ 40 < x.length) ∨ (decide (t < 1) = false ∧ decide (1099511627776 < t) = false ∧ decide ((40 : Int) < ((txt x).size : Int)) = false ∧ ¬ (t < 1 ∨ 1099511627776 < t ∨ 40 < x.length)) := by
   rw [txt_size]
   by_cases h1 : t < 1
   ·left; exact ⟨by simpa using h1, h1⟩
   ·right
    by_cases h2 : 1099511627776 < t
    ·left; exact ⟨by simpa using h1, by simpa using h2, h2⟩
    ·right
     by_cases h3 : 40 < x.length
     ·left; exact ⟨by simpa using h1, by simpa using h2, by simp; omega, h3⟩
     ·right; exact ⟨by simpa using h1, by simpa using h2, by simp; omega, by omega⟩
  rcases hcs with ⟨t0, hb⟩ | ⟨t0, t1, hb⟩ | ⟨t0, t1, t2, hb⟩ | ⟨t0, t1, t2, hb⟩
  ·have HD := Lib.hid (show recV (decS l) = .agg #[.int .i64 0, .string ⟨#[]⟩] by rw [decS_no HR.out (.inl hb)]; rfl)
   clear hb
   go_wp2_with fail
   exact bodyPost_ret (v := .agg #[.int .i64 0, .string ⟨#[]⟩]) (by simp [results, Tryz.results147, go_sem, HCELL.out]) rfl ⟨by rw [HD.out], HFIN.out _ _⟩
  ·have HD := Lib.hid (show recV (decS l) = .agg #[.int .i64 0, .string ⟨#[]⟩] by rw [decS_no HR.out (.inr (.inl hb))]; rfl)
   clear hb
   go_wp2_with fail
   exact bodyPost_ret (v := .agg #[.int .i64 0, .string ⟨#[]⟩]) (by simp [results, Tryz.results147, go_sem, HCELL.out]) rfl ⟨by rw [HD.out], HFIN.out _ _⟩
  ·have HD := Lib.hid (show recV (decS l) = .agg #[.int .i64 0, .string ⟨#[]⟩] by rw [decS_no HR.out (.inr (.inr hb))]; rfl)
   clear hb
   go_wp2_with fail
   exact bodyPost_ret (v := .agg #[.int .i64 0, .string ⟨#[]⟩]) (by simp [results, Tryz.results147, go_sem, HCELL.out]) rfl ⟨by rw [HD.out], HFIN.out _ _⟩
  ·have HD := Lib.hid (recV_yes HR.out hb)
   clear hb
   go_wp2_with fail
   exact bodyPost_ret (v := .agg #[.int .i64 t, .string (txt x)]) (by simp [results, Tryz.results147, go_sem, HCELL.out]) rfl ⟨by rw [HD.out], HFIN.out _ _⟩
structure SSt where
 dev : Nat
 place : Nat
 which : Nat
 turn : Nat
 text : List UInt8
structure SupOK where
 T : World → Prop
 tk : ∀ {w w' : World}, T w → Keeps (fun _ => True) w w' → T w'
 enc : Nat → List UInt8 → List UInt8
 dec : List UInt8 → Option (Nat × List UInt8)
 encLen : ∀ (t : Nat) (x : List UInt8), x.length ≤ 40 → 1 ≤ t → t ≤ 1099511627776 → (enc t x).length = 64
 decEnc : ∀ (t : Nat) (x : List UInt8), x.length ≤ 40 → 1 ≤ t → t ≤ 1099511627776 → dec (enc t x) = some (t, x)
 decBlank : dec blank = none
 decBad : ∀ (t : Nat) (x : List UInt8) (i : Nat) (b : UInt8), x.length ≤ 40 → 1 ≤ t → t ≤ 1099511627776 → i < 64 → b ≠ 0 → dec ((enc t x).set i ((enc t x).getD i 0 ^^^ b)) = none
 rep : World → Nat → Foot → SSt → Prop
 wf : ∀ {w q F st}, rep w q F st → st.which ≤ 1 ∧ 1 ≤ st.turn ∧ st.text.length ≤ 40
 lt : ∀ {w q F st}, rep w q F st → ∀ b, F.all b → b < w.heap.size
 keep : ∀ {w w' q F st}, rep w q F st → Keeps F.all w w' → rep w' q F st
 make : ∀ (W w : World) (p : Nat) (F : Foot) (s : SDev), DAt w p F s → T W → Keeps (fun _ => True) W w → (∀ b, F.all b → W.heap.size ≤ b) → ∀ (i : Nat) (A : Option Addr) (c : Nat) (G : Nat → Prop) (l : List UInt8), i + 2 ≤ s.now.length → Row w A G (bcells l) → (∀ b, G b → ¬ F.all b) → l.length ≤ c → c ≤ maxLen → (A = none → c = 0) → l.length ≤ 40 → s.calls ≤ 549755813888 →
  Calls Tryz.prog 65 #[.pointer (some ⟨p, 0, none⟩), .int .i64 i, .slice A l.length c] w fun e w' => ∃ (q : Nat) (F' Fs : Foot) (n : Nat), e = .returned (.tuple #[.pointer (some ⟨q, 0, none⟩), .int .i64 0]) ∧
   DAt w' p F' (SDev.still ((s.now.set i (enc 1 l)).set (i + 1) blank) n) ∧ n ≤ s.calls + 100 ∧ rep w' q Fs ⟨p, i, 0, 1, l⟩ ∧ Step F F' w w' ∧ (∀ b, Fs.all b → w.heap.size ≤ b) ∧ Apart F' Fs
 open_ : ∀ (w : World) (p : Nat) (F : Foot) (s : SDev), DAt w p F s → T w → ∀ (i k t : Nat) (x : List UInt8), i + 2 ≤ s.now.length → k ≤ 1 → dec (s.now.getD (i + k) []) = some (t, x) → (∀ t' x', dec (s.now.getD (i + (1 - k)) []) = some (t', x') → t' < t) → t ≤ 549755813888 →
  Calls Tryz.prog 82 #[.pointer (some ⟨p, 0, none⟩), .int .i64 i] w fun e w' => ∃ (q : Nat) (Fs : Foot), e = .returned (.tuple #[.pointer (some ⟨q, 0, none⟩), .int .i64 0]) ∧ rep w' q Fs ⟨p, i, k, t, x⟩ ∧ (∀ b, Fs.all b → w.heap.size ≤ b) ∧ Keeps (fun _ => True) w w'
 openBad : ∀ (w : World) (p : Nat) (F : Foot) (s : SDev), DAt w p F s → T w → ∀ i : Nat, i + 2 ≤ s.now.length → dec (s.now.getD i []) = none → dec (s.now.getD (i + 1) []) = none →
  Calls Tryz.prog 82 #[.pointer (some ⟨p, 0, none⟩), .int .i64 i] w fun e w' => e = .returned (.tuple #[.pointer none, .int .i64 3]) ∧ Keeps (fun _ => True) w w'
 save : ∀ (W w : World) (p q : Nat) (F Fs : Foot) (s : SDev) (st : SSt), DAt w p F s → rep w q Fs st → st.dev = p → Apart F Fs → T W → Keeps (fun _ => True) W w → (∀ b, F.all b → W.heap.size ≤ b) → st.place + 2 ≤ s.now.length → s.now.getD (st.place + st.which) [] = enc st.turn st.text → s.calls ≤ 549755813888 → st.turn ≤ 549755813888 →
  ∀ (A : Option Addr) (c : Nat) (G : Nat → Prop) (l : List UInt8), Row w A G (bcells l) → (∀ b, G b → ¬ F.all b) → (∀ b, G b → ¬ Fs.all b) → l.length ≤ c → c ≤ maxLen → (A = none → c = 0) → l.length ≤ 40 →
  Calls Tryz.prog 50 #[.pointer (some ⟨q, 0, none⟩), .slice A l.length c] w fun e w' => e = .returned (.int .i64 0) ∧ ∃ (F' Fs' : Foot) (n : Nat), DAt w' p F' (SDev.still (s.now.set (st.place + (1 - st.which)) (enc (st.turn + 1) l)) n) ∧ n ≤ s.calls + 100 ∧ rep w' q Fs' ⟨p, st.place, 1 - st.which, st.turn + 1, l⟩ ∧
   Apart F' Fs' ∧ Keeps (fun b => ¬ F.M b ∧ ¬ Fs.M b) w w' ∧ (∀ b, F'.M b → F.M b ∨ w.heap.size ≤ b) ∧ (∀ b, F'.I b → F.all b ∨ w.heap.size ≤ b) ∧ (∀ b, Fs'.M b → Fs.M b ∨ w.heap.size ≤ b) ∧ (∀ b, Fs'.I b → Fs.all b ∨ w.heap.size ≤ b)
 text : ∀ (w : World) (p q : Nat) (F Fs : Foot) (s : SDev) (st : SSt), DAt w p F s → rep w q Fs st → st.dev = p → T w → st.place + 2 ≤ s.now.length → s.now.getD (st.place + st.which) [] = enc st.turn st.text →
  Calls Tryz.prog 84 #[.pointer (some ⟨q, 0, none⟩)] w fun e w' => ∃ A c, e = .returned (.slice A st.text.length c) ∧ Row w' A (fun b => w.heap.size ≤ b ∧ b < w'.heap.size) (bcells st.text) ∧ Keeps (fun _ => True) w w'
structure Duo (S : SupOK) (W w : World) (p q : Nat) (F Fs : Foot) (s : SDev) (st : SSt) : Prop where
 dv : Dv W w p F s
 su : S.rep w q Fs st
 ap : Apart F Fs
 gs : ∀ b, Fs.all b → W.heap.size ≤ b
 on : st.dev = p
 room : st.place + 2 ≤ s.now.length
 sec : s.now.getD (st.place + st.which) [] = S.enc st.turn st.text
section
variable {S : SupOK} {W w w' : World} {p q : Nat} {F F' Fs Fs' : Foot} {s s' : SDev} {st : SSt}
theorem Duo.keep (h : Duo S W w p q F Fs s st) (hk : Keeps (fun _ => True) w w') : Duo S W w' p q F Fs s st :=
 ⟨h.dv.keep hk, S.keep h.su (hk.mono fun _ _ _ => trivial), h.ap, h.gs, h.on, h.room, h.sec⟩
theorem duo_make (S : SupOK) (hT : S.T W) (h : Dv W w p F s) (i : Nat) (z : Int) (hz : z = (i : Int)) (A : Option Addr) (c : Nat) (l : List UInt8) (n : Nat) (hn : n = l.length) (hi : i + 2 ≤ s.now.length) (hr : Row w A (fun b => ¬ F.all b) (bcells l)) (hlc : l.length ≤ c) (hc : c ≤ maxLen) (hA : A = none → c = 0) (hl : l.length ≤ 40) (hcalls : s.calls ≤ 549755813888) :
  Calls Tryz.prog 65 #[.pointer (some ⟨p, 0, none⟩), .int .i64 z, .slice A n c] w fun e w' => ∃ (q : Nat) (F' Fs : Foot) (k : Nat), e = .returned (.tuple #[.pointer (some ⟨q, 0, none⟩), .int .i64 0]) ∧
   Duo S W w' p q F' Fs (SDev.still ((s.now.set i (S.enc 1 l)).set (i + 1) blank) k) ⟨p, i, 0, 1, l⟩ ∧ k ≤ s.calls + 100 ∧ Step F F' w w' ∧ ∀ b, Fs.all b → w.heap.size ≤ b := by
 subst hz; subst hn
 refine (S.make W w p F s h.d hT h.kp h.gd i A c _ l hi hr (fun b hb => hb) hlc hc hA hl hcalls).mono ?_
 rintro e w' ⟨q, F', Fs, k, rfl, hD, hk, hS, hst, hFs, hap⟩
 refine ⟨q, F', Fs, k, rfl, ⟨h.step hD hst, hS, hap, fun b hb => Nat.le_trans h.kp.size (hFs b hb), rfl, ?_, ?_⟩, hk, hst, hFs⟩
 ·simpa [SDev.still] using hi
 ·show ((s.now.set i (S.enc 1 l)).set (i + 1) blank).getD i [] = S.enc 1 l
  rw [List.getD_eq_getElem?_getD, List.getElem?_set_ne (by omega), List.getElem?_set_self (by omega)]; rfl
theorem duo_save (hT : S.T W) (h : Duo S W w p q F Fs s st) (A : Option Addr) (c : Nat) (l : List UInt8) (n : Nat) (hn : n = l.length) (hr : Row w A (fun b => ¬ F.all b ∧ ¬ Fs.all b) (bcells l)) (hlc : l.length ≤ c) (hc : c ≤ maxLen) (hA : A = none → c = 0) (hl : l.length ≤ 40) (hcalls : s.calls ≤ 549755813888) (ht : st.turn ≤ 549755813888) :
  Calls Tryz.prog 50 #[.pointer (some ⟨q, 0, none⟩), .slice A n c] w fun e w' => e = .returned (.int .i64 0) ∧ ∃ (F' Fs' : Foot) (k : Nat), Duo S W w' p q F' Fs' (SDev.still (s.now.set (st.place + (1 - st.which)) (S.enc (st.turn + 1) l)) k) ⟨p, st.place, 1 - st.which, st.turn + 1, l⟩ ∧ k ≤ s.calls + 100 ∧
   Keeps (fun b => ¬ F.M b ∧ ¬ Fs.M b) w w' ∧ (∀ b, F'.M b → F.M b ∨ w.heap.size ≤ b) ∧ (∀ b, F'.I b → F.all b ∨ w.heap.size ≤ b) ∧ (∀ b, Fs'.M b → Fs.M b ∨ w.heap.size ≤ b) ∧ (∀ b, Fs'.I b → Fs.all b ∨ w.heap.size ≤ b) := by
 subst hn
 refine (S.save W w p q F Fs s st h.dv.d h.su h.on h.ap hT h.dv.kp h.dv.gd h.room h.sec hcalls ht A c _ l hr (fun b hb => hb.1) (fun b hb => hb.2) hlc hc hA hl).mono ?_
 rintro e w' ⟨rfl, F', Fs', k, hD, hk, hS, hap, hkp, f1, f2, f3, f4⟩
 have hsz := h.dv.kp.size
 refine ⟨rfl, F', Fs', k, ⟨⟨hD, fun b hb => ?_, ?_⟩, hS, hap, fun b hb => ?_, rfl, by simpa [SDev.still] using h.room, ?_⟩, hk, hkp, f1, f2, f3, f4⟩
 ·rcases hb with hb | hb
  ·rcases f1 b hb with h1 | h1
   ·exact h.dv.gd b (.inl h1)
   ·omega
  ·rcases f2 b hb with h1 | h1
   ·exact h.dv.gd b h1
   ·omega
 ·exact ⟨hkp.os.trans h.dv.kp.os, hkp.tape.trans h.dv.kp.tape, hkp.output.trans h.dv.kp.output, Nat.le_trans hsz hkp.size, fun b _ hb =>
   (hkp.block b ⟨fun hm => by have := h.dv.gd b (.inl hm); omega, fun hm => by have := h.gs b (.inl hm); omega⟩ (by omega)).trans (h.dv.kp.block b trivial hb)⟩
 ·rcases hb with hb | hb
  ·rcases f3 b hb with h1 | h1
   ·exact h.gs b (.inl h1)
   ·omega
  ·rcases f4 b hb with h1 | h1
   ·exact h.gs b h1
   ·omega
 ·have hw := (S.wf h.su).1
  have hrm := h.room
  show (s.now.set (st.place + (1 - st.which)) (S.enc (st.turn + 1) l)).getD (st.place + (1 - st.which)) [] = _
  rw [List.getD_eq_getElem?_getD, List.getElem?_set_self (by omega)]; rfl
theorem duo_open (S : SupOK) (hT : S.T W) (h : Dv W w p F s) (i k t : Nat) (x : List UInt8) (z : Int) (hz : z = (i : Int)) (hi : i + 2 ≤ s.now.length) (hk1 : k ≤ 1) (hx : x.length ≤ 40) (ht1 : 1 ≤ t) (h1 : s.now.getD (i + k) [] = S.enc t x) (h2 : ∀ t' x', S.dec (s.now.getD (i + (1 - k)) []) = some (t', x') → t' < t) (ht : t ≤ 549755813888) :
  Calls Tryz.prog 82 #[.pointer (some ⟨p, 0, none⟩), .int .i64 z] w fun e w' => ∃ (q : Nat) (Fs : Foot), e = .returned (.tuple #[.pointer (some ⟨q, 0, none⟩), .int .i64 0]) ∧ Duo S W w' p q F Fs s ⟨p, i, k, t, x⟩ ∧ (∀ b, Fs.all b → w.heap.size ≤ b) ∧ Keeps (fun _ => True) w w' := by
 subst hz
 refine (S.open_ w p F s h.d (S.tk hT h.kp) i k t x hi hk1 (by rw [h1]; exact S.decEnc t x hx ht1 (by omega)) h2 ht).mono ?_
 rintro e w' ⟨q, Fs, rfl, hS, hF, hk⟩
 exact ⟨q, Fs, rfl, ⟨h.keep hk, hS, ⟨fun b hb hs => by have := hF b hs; have := h.d.lt b (.inl hb); omega, fun b hb hf => by have := hF b (.inl hb); have := h.d.lt b hf; omega⟩, fun b hb => Nat.le_trans h.kp.size (hF b hb), rfl, hi, h1⟩, hF, hk⟩
end
def Oth (S : SupOK) (rows : List (List UInt8)) (st : SSt) : Prop := ∀ t' x', S.dec (rows.getD (st.place + (1 - st.which)) []) = some (t', x') → t' < st.turn
section
variable {S : SupOK}
theorem oth_save {rows : List (List UInt8)} {st : SSt} (p : Nat) (e l : List UInt8) (hw : st.which ≤ 1) (h1 : 1 ≤ st.turn) (hx : st.text.length ≤ 40) (ht : st.turn ≤ 1099511627776) (hs : rows.getD (st.place + st.which) [] = S.enc st.turn st.text) :
  Oth S (rows.set (st.place + (1 - st.which)) e) ⟨p, st.place, 1 - st.which, st.turn + 1, l⟩ := by
 intro t' x' hd
 have e1 : st.place + (1 - (1 - st.which)) = st.place + st.which := by omega
 simp only [e1] at hd
 rw [List.getD_eq_getElem?_getD, List.getElem?_set_ne (by omega), ← List.getD_eq_getElem?_getD, hs, S.decEnc _ _ hx h1 ht] at hd
 injection hd with hd
 injection hd with hd _
 show t' < st.turn + 1
 omega
theorem oth_make {rows : List (List UInt8)} (p i : Nat) (e l : List UInt8) (hi : i + 2 ≤ rows.length) : Oth S ((rows.set i e).set (i + 1) blank) ⟨p, i, 0, 1, l⟩ := by
 intro t' x' hd
 simp only [Nat.sub_zero] at hd
 rw [List.getD_eq_getElem?_getD, List.getElem?_set_self (by simp; omega)] at hd
 simp only [Option.getD_some] at hd
 rw [S.decBlank] at hd; cases hd
end
def SBlk (w : World) (q p lat sp t : Nat) (x : List UInt8) : Prop :=
 w.heap[q]? = some (.cells #[.int .i64 (t : Int), .string (txt x), .pointer (some ⟨p, 0, none⟩), .int .i64 (lat : Int), .int .i64 (sp : Int)] 143 (0, 0))
theorem SBlk.keep {w w' : World} {q p lat sp t : Nat} {x : List UInt8} {G : Nat → Prop} (h : SBlk w q p lat sp t x) (hk : Keeps G w w') (hG : G q) : SBlk w' q p lat sp t x := by
 have hlt : q < w.heap.size := (Array.getElem?_eq_some_iff.1 h).1
 exact (hk.block q hG hlt).trans h
structure SAt (w : World) (q : Nat) (F : Foot) (st : SSt) : Prop where
 blk : SBlk w q st.dev (st.place + st.which) (st.place + (1 - st.which)) st.turn st.text
 wf : st.which ≤ 1 ∧ 1 ≤ st.turn ∧ st.text.length ≤ 40
 is : ∀ b, F.all b ↔ b = q
 m : F.M q
theorem SAt.keep {w w' : World} {q : Nat} {F : Foot} {st : SSt} (h : SAt w q F st) (hk : Keeps F.all w w') : SAt w' q F st :=
 ⟨h.blk.keep hk (.inl h.m), h.wf, h.is, h.m⟩
theorem SAt.lt {w : World} {q : Nat} {F : Foot} {st : SSt} (h : SAt w q F st) : ∀ b, F.all b → b < w.heap.size := fun b hb => by
 rw [(h.is b).1 hb]
 exact (Array.getElem?_eq_some_iff.1 h.blk).1
theorem there_yes (w : World) (p : Nat) (F : Foot) (s : SDev) (h : DAt w p F s) (i : Nat) (hi : i + 2 ≤ s.now.length) :
  Calls Tryz.prog 94 #[.pointer (some ⟨p, 0, none⟩), .int .i64 (i : Int)] w fun e w' => e = .returned (.bool true) ∧ w = w' := by
 have hl := Lib.hid (dlen_any w p F s h)
 have hsm := h.ok.small
 have h1 : decide ((i : Int) < (s.now.length : Int) - 1) = true := by simp; omega
 have h2 : (1 : Int) ≤ (s.now.length : Int) := by omega
 clear h hi
 go_enter Tryz.func94, Tryz.ntmps94
 go_wp2_with fail
 refine hl.out.mono ?_
 rintro e w' ⟨rfl, rfl⟩
 go_wp2_with fail
 go_ret
 exact ⟨rfl, rfl⟩
theorem conv_text (w : World) (x : List UInt8) (n : Nat) (hn : n = x.length) : ∃ (w1 : World) (cap : Nat), (convert 9 64 (.string (txt x))).run Tryz.prog w = .ok (.slice (some ⟨w.heap.size, 0, none⟩) n cap) w1 ∧
  Row w1 (some ⟨w.heap.size, 0, none⟩) (fun b => w.heap.size ≤ b ∧ b < w1.heap.size) (bcells x) ∧ Keeps (fun _ => True) w w1 := by
 subst hn
 have h := run_bytes_of_string (P := Tryz.prog) w 9 64 5 (txt x) Tryz.underlying9 Tryz.underlying64 Tryz.underlying5
 rw [txt_size] at h
 refine ⟨_, _, h, ?_, ((Keeps.refl _ w).drew).alloc _⟩
 intro _
 refine ⟨_, 0, rfl, ⟨Nat.le_refl _, by simp⟩, fun i v hv => ?_⟩
 have hi : i < x.length := by
  have := (List.getElem?_eq_some_iff.1 hv).1
  rwa [bcells_len] at this
 rw [Nat.zero_add]
 refine (cell_alloc_mark_at w.drew _ _ _ w.heap.size i rfl).trans ?_
 unfold bytesRow
 rw [Array.getElem?_append_left (by simpa [txt] using hi), ← hv]
 simp [bcells, txt]
 rfl
theorem stext_any (w : World) (q : Nat) (F : Foot) (st : SSt) (h : SAt w q F st) :
  Calls Tryz.prog 84 #[.pointer (some ⟨q, 0, none⟩)] w fun e w' => ∃ A c, e = .returned (.slice A st.text.length c) ∧ Row w' A (fun b => w.heap.size ≤ b ∧ b < w'.heap.size) (bcells st.text) ∧ Keeps (fun _ => True) w w' := by
 have c1 : w.cell? ⟨q, 1, none⟩ = some (.string (txt st.text)) := (cell_of_block h.blk 1).trans rfl
 obtain ⟨w1, cap, hcv, hr, hk⟩ := conv_text w st.text st.text.length rfl
 have HR := Lib.hid hr
 have HK := Lib.hid hk
 clear h hr hk
 generalize st.text = x at *
 go_enter Tryz.func84, Tryz.ntmps84
 go_wp2_with fail
 go_ret
 exact ⟨_, _, rfl, HR.out, HK.out⟩
set_option maxHeartbeats 400000 in
theorem load_any (w : World) (hT : Taken w) (p : Nat) (F : Foot) (s : SDev) (h : DAt w p F s) (i : Nat) (hi : i < s.now.length) :
  Calls Tryz.prog 116 #[.pointer (some ⟨p, 0, none⟩), .int .i64 (i : Int)] w fun e w' => e = .returned (recV (decS (s.now.getD i []))) ∧ Keeps (fun _ => True) w w' := by
 have hsm := h.ok.small
 have hre : s.readE (i : Int) = 0 := if_neg (by omega)
 have hrl : s.readL (i : Int) = s.now.getD i [] := (if_neg (by omega)).trans (by rw [Int.toNat_natCast])
 have hlen : (s.now.getD i []).length = 64 := by rw [getD_mem _ _ _ hi]; exact h.ok.nrow _ (List.getElem_mem hi)
 have hrd := fun w' (hk : Keeps (fun _ => True) w w') => dread_any w' p F s (h.keep (hk.mono fun _ _ _ => trivial)) (i : Int) (by omega) (by omega)
 rw [hre, hrl] at hrd
 generalize s.now.getD i [] = l at hrd hlen ⊢
 have HL := Lib.hid hlen
 have HRD := Lib.hid hrd
 have HT := Lib.hid hT
 clear hre hrl hlen hrd h hT hi hsm
 go_enter Tryz.func116, Tryz.ntmps116
 go_wp2_with fail
 have hk0 := (Keeps.refl (fun _ => True) w).alloc (.cells #[.int .i64 0, .string ⟨#[]⟩] 141)
 have hb0 := heap_alloc_new w (.cells #[.int .i64 0, .string ⟨#[]⟩] 141)
 have hr0 : w.heap.size < (w.alloc (.cells #[.int .i64 0, .string ⟨#[]⟩] 141)).heap.size := by simp
 generalize (w.alloc (.cells #[.int .i64 0, .string ⟨#[]⟩] 141)) = w0 at hk0 hb0 hr0 ⊢
 refine (HRD.out w0 hk0).mono ?_
 rintro e w1 ⟨v, rfl, ho, hk1⟩
 have hb1 := (hk1.block _ trivial hr0).trans hb0
 have hr1 := Nat.lt_of_lt_of_le hr0 hk1.size
 obtain ⟨g, c, rfl, hbase, hlt⟩ := ho.form (by rw [HL.out]; decide)
 have hroom := own_room ho
 have hrow := own_row ho
 have HP := Lib.hid (parse_any w1 (HT.out.keep (hk0.trans hk1)) g 0 c _ l hrow HL.out (by have := hroom.1; rw [HL.out] at this; exact this) hroom.2)
 have HK1 := Lib.hid (hk0.trans hk1)
 have HB1 := Lib.hid hb1
 have HR1 := Lib.hid hr1
 clear hk0 hb0 hr0 hb1 hr1 ho hk1 hbase hlt hroom hrow HRD
 go_wp2_with fail
 rw [HL.out]
 refine HP.out.mono ?_
 rintro e w4 ⟨rfl, hk4⟩
 have hb4 := (hk4.block _ trivial HR1.out).trans HB1.out
 have c0 := (cell_of_block hb4 0).trans rfl
 have c1 := (cell_of_block hb4 1).trans rfl
 have f0 := unfrozen_of_block hb4 0
 have f1 := unfrozen_of_block hb4 1
 have hk := HK1.out.trans hk4
 have HFIN := Lib.hid (show ∀ v0 v1, Keeps (fun _ => True) w ((w4.setCell ⟨w.heap.size, 0, none⟩ v0).setCell ⟨w.heap.size, 1, none⟩ v1) from fun v0 v1 => (hk.setCell (.inl (Nat.le_refl _)) v0).setCell (.inl (Nat.le_refl _)) v1)
 have HCELL := Lib.hid (show ∀ v0 v1, ((w4.setCell ⟨w.heap.size, 0, none⟩ v0).setCell ⟨w.heap.size, 1, none⟩ v1).cell? ⟨w.heap.size, 0, none⟩ = some v0 ∧ ((w4.setCell ⟨w.heap.size, 0, none⟩ v0).setCell ⟨w.heap.size, 1, none⟩ v1).cell? ⟨w.heap.size, 1, none⟩ = some v1 from fun v0 v1 => by
  have h1 := block_setCell (block_setCell hb4 (i := 0) v0) (i := 1) v1
  exact ⟨(cell_of_block h1 0).trans rfl, (cell_of_block h1 1).trans rfl⟩)
 obtain ⟨t, x, hx⟩ : ∃ (t : Int) (x : ByteArray), recV (decS l) = .agg #[.int .i64 t, .string x] := by
  cases decS l with
  | none => exact ⟨_, _, rfl⟩
  | some r => exact ⟨_, _, rfl⟩
 have HX := Lib.hid hx
 rw [hx]
 clear hb4 hk hk4 hx HB1 HR1 HK1 HP
 go_wp2_with fail
 exact bodyPost_ret (v := .agg #[.int .i64 t, .string x]) (by simp [results, Tryz.results116, go_sem, HCELL.out]) rfl ⟨by rw [HX.out], HFIN.out _ _⟩
def recT : Option (Nat × List UInt8) → Nat × List UInt8
 | none => (0, [])
 | some r => r
theorem recV_is (o : Option (Nat × List UInt8)) : recV o = .agg #[.int .i64 ((recT o).1 : Int), .string (txt (recT o).2)] := by
 cases o <;> rfl
theorem decS_wf {l : List UInt8} {t : Nat} {x : List UInt8} (h : decS l = some (t, x)) : 1 ≤ t ∧ t ≤ 1099511627776 ∧ x.length ≤ 40 := by
 unfold decS at h
 cases hf : decF 83 l with
 | none => rw [hf] at h; cases h
 | some r =>
  rw [hf] at h
  obtain ⟨t', x'⟩ := r
  unfold takeS at h
  simp only at h
  split at h
  ·cases h
  ·injection h with h
   injection h with h3 h4
   subst h3; subst h4
   omega
theorem recT_le (l : List UInt8) : (recT (decS l)).1 ≤ 1099511627776 := by
 cases h : decS l with
 | none => exact Nat.zero_le _
 | some r => exact (decS_wf (t := r.1) (x := r.2) h).2.1
theorem blk_new (w : World) (n q p lat sp t : Nat) (x : List UInt8) (z : Int) (hz : z = (lat : Int)) (z2 : Int) (hz2 : z2 = (sp : Int)) (z3 : Int) (hz3 : z3 = (t : Int)) (hn : n = w.heap.size) (hq : q = n) : SBlk (w.alloc (.cells #[.int .i64 z3, .string (txt x), .pointer (some ⟨p, 0, none⟩), .int .i64 z, .int .i64 z2] 143)) q p lat sp t x := by
 subst hz hz2 hz3 hn hq
 exact heap_alloc_new w _
def SuperOpenPost (w : World) (p i t1 t2 : Nat) (x1 x2 : List UInt8) (e : Ending) (w' : World) : Prop :=
 (t2 ≤ t1 ∧ 1 ≤ t1 ∧ ∃ q, e = .returned (.tuple #[.pointer (some ⟨q, 0, none⟩), .int .i64 0]) ∧ SBlk w' q p i (i + 1) t1 x1 ∧ w.heap.size ≤ q ∧ Keeps (fun _ => True) w w') ∨
 (t1 < t2 ∧ ∃ q, e = .returned (.tuple #[.pointer (some ⟨q, 0, none⟩), .int .i64 0]) ∧ SBlk w' q p (i + 1) i t2 x2 ∧ w.heap.size ≤ q ∧ Keeps (fun _ => True) w w') ∨
 (t1 = 0 ∧ t2 = 0 ∧ e = .returned (.tuple #[.pointer none, .int .i64 3]) ∧ Keeps (fun _ => True) w w')
set_option maxRecDepth 100000 in
set_option maxHeartbeats 2000000 in
theorem sopen_any (w : World) (hT : Taken w) (p : Nat) (F : Foot) (s : SDev) (h : DAt w p F s) (i : Nat) (hi : i + 2 ≤ s.now.length) :
  Calls Tryz.prog 82 #[.pointer (some ⟨p, 0, none⟩), .int .i64 (i : Int)] w (SuperOpenPost w p i (recT (decS (s.now.getD i []))).1 (recT (decS (s.now.getD (i + 1) []))).1 (recT (decS (s.now.getD i []))).2 (recT (decS (s.now.getD (i + 1) []))).2) := by
 have hsm := h.ok.small
 have hi1 : i ≤ 2048 := by omega
 have HL1 := Lib.hid (load_any w hT p F s h i (by omega))
 have HL2 := Lib.hid (fun w' (hk : Keeps (fun _ => True) w w') => load_any w' (hT.keep hk) p F s (h.keep (hk.mono fun _ _ _ => trivial)) (i + 1) (by omega))
 have HTH := Lib.hid (there_yes w p F s h i hi)
 have ht1 := recT_le (s.now.getD i [])
 have ht2 := recT_le (s.now.getD (i + 1) [])
 simp only [recV_is] at HL1 HL2
 generalize (recT (decS (s.now.getD i []))) = r1 at *
 generalize (recT (decS (s.now.getD (i + 1) []))) = r2 at *
 obtain ⟨t1, x1⟩ := r1
 obtain ⟨t2, x2⟩ := r2
 simp only at *
 clear h hT hi hsm
 go_enter Tryz.func82, Tryz.ntmps82
 go_wp2_with fail
 refine HTH.out.mono ?_
 rintro e w' ⟨rfl, rfl⟩
 go_wp2_with fail
 refine HL1.out.mono ?_
 rintro e w1 ⟨rfl, hk1⟩
 have HK1 := Lib.hid hk1
 have HL2' := Lib.hid (HL2.out w1 hk1)
 clear hk1 HL2 HL1 HTH
 go_wp2_with fail
 refine (show Calls _ _ _ _ _ from HL2'.out).mono ?_
 rintro e w2 ⟨rfl, hk2⟩
 have HK2 := Lib.hid (HK1.out.trans hk2)
 clear hk2 HL2' HK1
 have hcs : (decide (t1 < t2) = false ∧ ((t1 : Int) == 0) = false ∧ t2 ≤ t1 ∧ 1 ≤ t1) ∨ (decide (t1 < t2) = true ∧ ((t2 : Int) == 0) = false ∧ t1 < t2) ∨ (decide (t1 < t2) = false ∧ ((t1 : Int) == 0) = true ∧ t1 = 0 ∧ t2 = 0) := by
  by_cases h : t1 < t2
  ·right; left; exact ⟨by simpa using h, by simp; omega, h⟩
  ·by_cases h0 : t1 = 0
   ·right; right; exact ⟨by simpa using h, by simp; omega, h0, by omega⟩
   ·left; exact ⟨by simpa using h, by simp; omega, by omega, by omega⟩
 have HFIN := Lib.hid (show ∀ C, Keeps (fun _ => True) w ((((w2.alloc (.cells #[.int .i64 (t1 : Int), .string (txt x1)] 141)).alloc (.cells #[.int .i64 (t2 : Int), .string (txt x2)] 141)).alloc C)) from fun C => ((HK2.out.alloc _).alloc _).alloc C)
 rcases hcs with ⟨b1, b2, b3⟩ | ⟨b1, b2, b3⟩ | ⟨b1, b2, b3⟩
 ·have HC := Lib.hid b3
  clear b3
  go_wp2_with fail
  go_ret2
  exact .inl ⟨HC.out.1, HC.out.2, _, rfl, blk_new _ _ _ p i (i + 1) t1 x1 _ rfl _ (by omega) _ rfl rfl (by simp), by have := HK2.out.size; omega, HFIN.out _⟩
 ·have HC := Lib.hid b3
  clear b3
  go_wp2_with fail
  go_ret2
  exact .inr (.inl ⟨HC.out, _, rfl, blk_new _ _ _ p (i + 1) i t2 x2 _ (by omega) _ rfl _ rfl rfl (by simp), by have := HK2.out.size; omega, (HFIN.out _).alloc _⟩)
 ·have HC := Lib.hid b3
  clear b3
  go_wp2_with fail
  go_ret2
  exact .inr (.inr ⟨HC.out.1, HC.out.2, rfl, HFIN.out _⟩)
theorem write64_now (s : SDev) (i : Nat) (l : List UInt8) (hl : l.length = 64) (hr : (s.now.getD i []).length = 64) : (s.write i l).now = s.now.set i l := by
 show s.now.set i (over l (s.now.getD i [])) = _
 unfold over
 rw [List.drop_of_length_le (by omega), List.append_nil]
theorem row64 {w : World} {p : Nat} {F : Foot} {s : SDev} (h : DAt w p F s) (i : Nat) (hi : i < s.now.length) : (s.now.getD i []).length = 64 := by
 rw [getD_mem _ _ _ hi]; exact h.ok.nrow _ (List.getElem_mem hi)
theorem flush_is (s : SDev) : s.flush = SDev.still s.now (s.calls + 1) := rfl
def blanked (rows : List (List UInt8)) (i : Nat) : Nat → List (List UInt8)
 | 0 => rows
 | 1 => rows.set i blank
 | _ => (rows.set i blank).set (i + 1) blank
theorem blanked_len (rows : List (List UInt8)) (i k : Nat) : (blanked rows i k).length = rows.length := by
 match k with
 | 0 => rfl
 | 1 => simp [blanked]
 | n + 2 => simp [blanked]
theorem blanked_next (rows : List (List UInt8)) (i k : Nat) (hk : k < 2) : (blanked rows i k).set (i + k) blank = blanked rows i (k + 1) := by
 match k, hk with
 | 0, _ => rfl
 | 1, _ => rfl
def Blk (w2 : World) (p : Nat) (F : Foot) (s : SDev) (i k : Nat) (w : World) : Prop := ∃ (F' : Foot) (s' : SDev), DAt w p F' s' ∧ s'.now = blanked s.now i k ∧ s'.calls = s.calls + k ∧ Step F F' w2 w
set_option maxHeartbeats 1000000 in
theorem blank_any (w : World) (p : Nat) (F : Foot) (s : SDev) (h : DAt w p F s) (i : Nat) (hi : i + 2 ≤ s.now.length) (hcalls : s.calls ≤ 549755813888) :
  Calls Tryz.prog 95 #[.pointer (some ⟨p, 0, none⟩), .int .i64 (i : Int)] w fun e w' => e = .returned (.int .i64 0) ∧ ∃ F', DAt w' p F' (SDev.still ((s.now.set i blank).set (i + 1) blank) (s.calls + 3)) ∧ Step F F' w w' := by
 have hsm := h.ok.small
 have HD := Lib.hid h
 have HI := Lib.hid hi
 have hi1 : i ≤ 2048 := by omega
 clear h hi
 go_enter Tryz.func95, Tryz.ntmps95
 go_wp2_with (refine list_make rfl (.const (.int .i64 64)) (.const (.int .i64 64)) 64 rfl byte_elem .i64 .i64 64 rfl rfl (by decide) (by decide) (bcells blank) made64 ?_)
 intro w2 hown hg2
 have hk2 : Keeps (fun _ => True) w w2 := Keeps.of_grown hg2 (fun _ h => by cases h)
 have HR := Lib.hid (own_row hown)
 have HD2 := Lib.hid (HD.out.keep (hk2.mono fun _ _ _ => trivial))
 have hgF : ∀ b, b = w.heap.size → ¬ F.all b := fun b e hf => by have := HD.out.lt b hf; omega
 have hlt2 := (hown.lt _ rfl).2
 have HG := Lib.hid hgF
 have HL2 := Lib.hid hlt2
 have HK := Lib.hid hk2
 clear hown hg2 hk2 hgF hlt2
 go_wp2_with fail
 go_loopw [9] (fun i9 wr => ∃ k : Nat, k ≤ 2 ∧ i9 = .int .i64 k ∧ Blk w2 p F s i k wr) (fun i9 _ => 2 - (intOf i9).toNat)
 case atStart => exact ⟨0, by omega, rfl, F, s, HD2.out, rfl, rfl, Step.refl _ _⟩
 case round =>
  obtain ⟨k, hk, rfl, F', s', hd, hn, hc, hst⟩ := hrel
  by_cases hlt : k < 2
  ·have hlt' : (k : Int) < 2 := by omega
   have hw := dwrite_yes wr p F' s' hd (i + k) (some ⟨w.heap.size, 0, none⟩) 64 (fun b => b = w.heap.size) blank (HR.out.keep (hst.keeps.mono fun b _ e hm => HG.out b e (.inl hm))) (fun b e hf => by
     rcases hst.all b hf with h1 | h1
     ·exact HG.out b e h1
     ·have := HL2.out; subst e; omega) (by rw [hn, blanked_len]; have := HI.out; omega) (Nat.le_refl _) (by omega)
   rw [show blank.length = 64 from rfl, show ((i + k : Nat) : Int) = (i : Int) + (k : Int) from by omega] at hw
   have HW := Lib.hid hw
   have hn2 : (s'.write (i + k) blank).now = blanked s.now i (k + 1) := by
    rw [write64_now s' (i + k) blank rfl (row64 hd _ (by rw [hn, blanked_len]; have := HI.out; omega)), hn, blanked_next _ _ _ hlt]
   have HN := Lib.hid hn2
   have HC := Lib.hid hc
   have HS := Lib.hid hst
   clear hd hn hc hst hw hn2
   go_wp2_with fail
   refine HW.out.mono ?_
   rintro e w3 ⟨rfl, F3, hd3, hst3⟩
   have H3 := Lib.hid (show Blk w2 p F s i (k + 1) w3 from ⟨F3, _, hd3, HN.out, by show s'.calls + 1 = _; rw [HC.out]; rfl, HS.out.trans hst3⟩)
   clear hd3 hst3 HW HN HC HS
   go_wp2_with fail
   go_roundw
   case rel => exact ⟨k + 1, by omega, by go_num, H3.out⟩
   case measure => simp [intOf]; omega
  ·obtain rfl : k = 2 := by omega
   have hf := dflush_any wr p F' s' hd (by omega)
   rw [flush_is, hn, hc] at hf
   have HF := Lib.hid hf
   have HS := Lib.hid hst
   clear hf hst hn hc hd
   go_wp2_with fail
   refine HF.out.mono ?_
   rintro e w3 ⟨rfl, F3, hd3, hst3⟩
   have H3 := Lib.hid (show ∃ F', DAt w3 p F' (SDev.still ((s.now.set i blank).set (i + 1) blank) (s.calls + 3)) ∧ Step F F' w w3 from ⟨F3, hd3, by
    have h := HS.out.trans hst3
    have hk2 := HK.out
    exact ⟨(hk2.mono fun _ _ _ => trivial).trans h.keeps, fun b hb => (h.m b hb).imp id fun h1 => Nat.le_trans hk2.size h1, fun b hb => (h.i b hb).imp id fun h1 => Nat.le_trans hk2.size h1⟩⟩)
   clear hd3 hst3 HF HS
   go_wp2_with fail
   go_ret
   exact ⟨rfl, H3.out⟩
end Go.Proofs.YticophaepapjoaaGreatDoor
namespace Go.Proofs.YticophaepapjoaaGreatDoor
open Go Go.RowKit
def TextM (m : Nat) (l : List UInt8) : World → Value → Prop := fun w v => ∃ A c, v = .slice A l.length c ∧ l.length ≤ c ∧ c ≤ maxLen ∧ (A = none → c = 0) ∧ Row w A (fun b => m ≤ b) (bcells l)
theorem TextM.keep {m : Nat} {l : List UInt8} {w w' : World} {v : Value} (h : Keeps (fun b => m ≤ b) w w') (hv : TextM m l w v) : TextM m l w' v := by
 obtain ⟨A, c, e, h1, h2, h3, hr⟩ := hv
 exact ⟨A, c, e, h1, h2, h3, hr.keep h⟩
theorem TextM.text {m : Nat} {l : List UInt8} {w : World} {v : Value} (hv : TextM m l w v) : TextV l w v := by
 obtain ⟨A, c, e, _, _, _, hr⟩ := hv
 exact ⟨A, c, e, hr.mono fun _ _ _ => trivial⟩
section
variable {o : Oper} {a : Act} {w : World} {Q : Exit → Act → World → Prop} {x y : Operand}
theorem kp_add {m n : Nat} (h : m + n ≤ 1000000) (ho : o.op = .binOp .add 3 x y 3) (hx : a.eval x = .int .i64 (m : Int)) (hy : a.eval y = .int .i64 (n : Int)) : o.wp Tryz.prog a w (fun a' w' => ∃ v, a' = a.put o.dst v ∧ Kp w w' ∧ IsV (.int .i64 ((m + n : Nat) : Int)) w' v) Q := by
 have h1 : ((m + n : Nat) : Int) = (m : Int) + (n : Int) := by omega
 rw [h1]
 refine kp_yield (v := .int .i64 ((m : Int) + (n : Int))) (w' := w) ?_ (Keeps.refl _ _) rfl
 have h2 : (m : Int) + (n : Int) ≤ 1000000 := by omega
 have h3 : (0 : Int) ≤ (m : Int) := by omega
 have h4 : (0 : Int) ≤ (n : Int) := by omega
 clear h1
 generalize (m : Int) = M at *
 generalize (n : Int) = N at *
 generalize a.eval = ρ at hx hy ⊢
 unfold execOp
 rw [ho]
 go_simp
 exact IntWalk.i64_in _ (by omega)
theorem kp_u8 {n : Nat} (h : n < 256) (ho : o.op = .convert 3 5 x) (hx : a.eval x = .int .i64 (n : Int)) : o.wp Tryz.prog a w (fun a' w' => ∃ v, a' = a.put o.dst v ∧ Kp w w' ∧ IsV (.int .u8 (n : Int)) w' v) Q := by
 refine kp_yield (v := .int .u8 (n : Int)) (w' := w) ?_ (Keeps.refl _ _) rfl
 have h2 : (n : Int) < 256 := by omega
 generalize a.eval = ρ at hx ⊢
 unfold execOp
 rw [ho]
 go_simp
 unfold IntKind.wrap
 simp [IntKind.bits, IntKind.signed]
 omega
theorem one_enter {P : Program} {X : World → Value → Prop} {f : FuncId} {args : Array Value} {C : Ending → World → Prop} (e : (execOp a.eval o).run P w = .ok (.enter f args) w) (hc : Calls P f args w C)
  (hC : ∀ e w', C e w' → ∃ v, e = .returned v ∧ X w' v) : o.wp P a w (fun a' w' => ∃ v, a' = a.put o.dst v ∧ X w' v) Q := by
 unfold Oper.wp
 rw [e]
 refine hc.mono fun e w' h => ?_
 obtain ⟨v, rfl, hv⟩ := hC e w' h
 exact ⟨v, rfl, hv⟩
end
end Go.Proofs.YticophaepapjoaaGreatDoor
namespace Go.Proofs.YticophaepapjoaaGreatDoor
open Go Go.RowKit Go.Joins
set_option maxRecDepth 100000 in
set_option maxHeartbeats 4000000 in
theorem ssave_yes (w : World) (hT : Taken w) (q p lat sp t : Nat) (x : List UInt8) (hb : SBlk w q p lat sp t x) (F : Foot) (s : SDev) (hd : DAt w p F s) (hq : ¬ F.all q) (HTM : ¬ F.M 0) (hsp : sp < s.now.length) (hlat : lat ≤ 4096) (ht : t ≤ 549755813888) (hcalls : s.calls ≤ 549755813888 + 100)
  (A : Option Addr) (c : Nat) (G : Nat → Prop) (l : List UInt8) (hr : Row w A G (bcells l)) (hG : ∀ b, G b → ¬ F.all b) (hGq : ∀ b, G b → b ≠ q) (hlc : l.length ≤ c) (hc : c ≤ maxLen) (hl : l.length ≤ 40) :
  Calls Tryz.prog 50 #[.pointer (some ⟨q, 0, none⟩), .slice A l.length c] w fun e w' => e = .returned (.int .i64 0) ∧ ∃ F', DAt w' p F' (SDev.still (s.now.set sp (encS (t + 1) l)) (s.calls + 2)) ∧ SBlk w' q p sp lat (t + 1) l ∧
   Keeps (fun b => ¬ F.M b ∧ b ≠ q) w w' ∧ (∀ b, F'.M b → F.M b ∨ w.heap.size ≤ b) ∧ (∀ b, F'.I b → F.all b ∨ w.heap.size ≤ b) := by
 have hsm := hd.ok.small
 have c0 : w.cell? ⟨q, 0, none⟩ = some (.int .i64 (t : Int)) := (cell_of_block hb 0).trans rfl
 have c2 : w.cell? ⟨q, 2, none⟩ = some (.pointer (some ⟨p, 0, none⟩)) := (cell_of_block hb 2).trans rfl
 have c3 : w.cell? ⟨q, 3, none⟩ = some (.int .i64 (lat : Int)) := (cell_of_block hb 3).trans rfl
 have c4 : w.cell? ⟨q, 4, none⟩ = some (.int .i64 (sp : Int)) := (cell_of_block hb 4).trans rfl
 have hcv : (convert 64 9 (.slice A l.length c)).run Tryz.prog w.drew = .ok (.string (txt l)) w.drew := (hr.keep (Keeps.refl G w).drew).to_string (P := Tryz.prog) Tryz.underlying64 Tryz.underlying5 Tryz.underlying9 l.length c rfl
 have hcv2 : ∀ o, (convert 64 9 (.slice A l.length c)).run Tryz.prog (w.alloc o).drew = .ok (.string (txt l)) (w.alloc o).drew := fun o => (hr.keep ((Keeps.refl G w).alloc o).drew).to_string (P := Tryz.prog) Tryz.underlying64 Tryz.underlying5 Tryz.underlying9 l.length c rfl
 have hqlt : q < w.heap.size := (Array.getElem?_eq_some_iff.1 hb).1
 have HD := Lib.hid hd
 have HB := Lib.hid hb
 have HT := Lib.hid hT
 unfold maxLen at hc
 have HR := Lib.hid hr
 clear hb hd hT hr
 go_enter Tryz.func50, Tryz.ntmps50
 go_wp2_with fail
 go_region
 have hk1 : Keeps (fun _ => True) w (w.alloc (.cells #[.int .i64 ((t : Int) + 1), .string (txt l)] 141)).drew := ((Keeps.refl _ w).alloc _).drew
 have hr1 : (w.alloc (.cells #[.int .i64 ((t : Int) + 1), .string (txt l)] 141)).drew.heap[w.heap.size]? = some (.cells #[.int .i64 ((t + 1 : Nat) : Int), .string (txt l)] 141 (0, 0)) := heap_alloc_new w _
 have hz1 : (w.alloc (.cells #[.int .i64 ((t : Int) + 1), .string (txt l)] 141)).drew.heap.size = w.heap.size + 1 := by simp
 generalize (w.alloc (.cells #[.int .i64 ((t : Int) + 1), .string (txt l)] 141)).drew = w1 at hk1 hr1 hz1 ⊢
 have HD1 := Lib.hid (HD.out.keep (hk1.mono fun _ _ _ => trivial))
 have HB1 := Lib.hid (HB.out.keep hk1 trivial)
 have HT1 := Lib.hid (HT.out.keep hk1)
 have HR1 := Lib.hid hr1
 have HK1 := Lib.hid hk1
 have HZ1 := Lib.hid hz1
 have HQ := Lib.hid (show ¬ F.M q from fun h => hq (.inl h))
 have HRF := Lib.hid (show ∀ b, F.all b → b < w.heap.size from HD.out.lt)
 have HTF := Lib.hid (show ¬ F.M 0 from HTM)
 clear hk1 hr1 hz1 c0 c2 c3 c4 hcv hcv2 HD HB HT HR
 have c0 : w1.cell? ⟨w.heap.size, 0, none⟩ = some (.int .i64 ((t : Int) + 1)) := (cell_of_block HR1.out 0).trans rfl
 have c1 : w1.cell? ⟨w.heap.size, 1, none⟩ = some (.string (txt l)) := (cell_of_block HR1.out 1).trans rfl
 go_wp2_with fail
 have hfm := fmake_any w1 HT1.out 83 83 rfl (t + 1) l (by omega) (by omega) (headS_len (t + 1) l (by omega) (by omega))
 rw [show ((t + 1 : Nat) : Int) = (t : Int) + 1 from by omega] at hfm
 refine hfm.mono ?_
 clear hfm
 rintro e w2 ⟨v, rfl, ho, hk2⟩
 rw [show encF 83 (t + 1) l = encS (t + 1) l from rfl] at ho
 have hel := encS_len (t + 1) l hl (by omega)
 obtain ⟨g, cg, rfl, hbase, hglt⟩ := ho.form (by rw [hel]; decide)
 have hroom := own_room ho
 have hrow := own_row ho
 rw [hel] at hroom ⊢
 have HB2 := Lib.hid (HB1.out.keep hk2 trivial)
 have HD2 := Lib.hid (HD1.out.keep (hk2.mono fun _ _ _ => trivial))
 have HR2 := Lib.hid ((hk2.block w.heap.size trivial (by rw [HZ1.out]; omega)).trans HR1.out)
 have HK2 := Lib.hid (HK1.out.trans hk2)
 have HRW := Lib.hid hrow
 have HGF := Lib.hid (show ∀ b, b = g → ¬ F.all b from fun b e hf => by have := HRF.out b hf; have := HZ1.out; omega)
 have HEL := Lib.hid hel
 have HZ2 := Lib.hid (show w.heap.size + 1 ≤ w2.heap.size from by have := hk2.size; have := HZ1.out; omega)
 clear ho hk2 hrow hel HB1 HD1 HT1 HR1 c0 c1 hroom hbase hglt
 have c2 : w2.cell? ⟨q, 2, none⟩ = some (.pointer (some ⟨p, 0, none⟩)) := (cell_of_block HB2.out 2).trans rfl
 have c4 : w2.cell? ⟨q, 4, none⟩ = some (.int .i64 (sp : Int)) := (cell_of_block HB2.out 4).trans rfl
 go_wp2_with fail
 go_still_tail 9, (by kernel_rfl)
 change wpList _ _ _ _ _ w2.drew
 have hdr := (Keeps.refl (fun _ => True) w2).drew
 have HB3 := Lib.hid (HB2.out.keep hdr trivial)
 have HD3 := Lib.hid (HD2.out.keep (hdr.mono fun _ _ _ => trivial))
 have HR3 := Lib.hid ((hdr.block w.heap.size trivial (by have := HZ2.out; omega)).trans HR2.out)
 have HK3 := Lib.hid (HK2.out.trans hdr)
 have HRW3 := Lib.hid (HRW.out.keep (hdr.mono fun _ _ _ => trivial))
 have HZ3 := Lib.hid (show w.heap.size + 1 ≤ w2.drew.heap.size from Nat.le_trans HZ2.out hdr.size)
 clear hdr c2 c4 HB2 HD2 HR2 HK2 HRW HZ2
 generalize w2.drew = w3 at HB3 HD3 HR3 HK3 HRW3 HZ3 ⊢
 have HWR := Lib.hid (show Calls Tryz.prog 63 #[.pointer (some ⟨p, 0, none⟩), .int .i64 (sp : Int), .slice (some ⟨g, 0, none⟩) 64 cg] w3 fun e w' => e = .returned (.int .i64 0) ∧ ∃ F', DAt w' p F' (s.write sp (encS (t + 1) l)) ∧ Step F F' w3 w' from by
  have h := dwrite_yes w3 p F s HD3.out sp (some ⟨g, 0, none⟩) cg _ (encS (t + 1) l) HRW3.out (fun b hb => HGF.out b hb) hsp (by rw [HEL.out]; decide) (by omega)
  rw [HEL.out] at h
  exact h)
 clear HRW3
 go_wp2_with fail
 refine HWR.out.mono ?_
 rintro e w8 ⟨rfl, F8, hd8, hst8⟩
 have hb8 := HB3.out.keep hst8.keeps HQ.out
 have HRD := Lib.hid (row64 HD3.out sp hsp)
 have c2 : w8.cell? ⟨q, 2, none⟩ = some (.pointer (some ⟨p, 0, none⟩)) := (cell_of_block hb8 2).trans rfl
 have hf := dflush_any w8 p F8 _ hd8 (show s.calls + 1 ≤ _ by omega)
 rw [flush_is, write64_now s sp (encS (t + 1) l) HEL.out HRD.out] at hf
 have HF := Lib.hid hf
 have HS8 := Lib.hid hst8
 clear hf hst8 hb8 hd8 HWR
 go_wp2_with fail
 refine HF.out.mono ?_
 rintro e w9 ⟨rfl, F9, hd9, hst9⟩
 have hst := HS8.out.trans hst9
 have hb9 : w9.heap[q]? = _ := HB3.out.keep hst.keeps HQ.out
 have hrc := (hst.keeps.block w.heap.size (fun hm => by have := HRF.out _ (.inl hm); omega) (by have := HZ3.out; omega)).trans HR3.out
 have r0 : w9.cell? ⟨w.heap.size, 0, none⟩ = some (.int .i64 ((t + 1 : Nat) : Int)) := (cell_of_block hrc 0).trans rfl
 have r1 : w9.cell? ⟨w.heap.size, 1, none⟩ = some (.string (txt l)) := (cell_of_block hrc 1).trans rfl
 have c0 : w9.cell? ⟨q, 0, none⟩ = some (.int .i64 (t : Int)) := (cell_of_block hb9 0).trans rfl
 have c1 : w9.cell? ⟨q, 1, none⟩ = some (.string (txt x)) := (cell_of_block hb9 1).trans rfl
 have f0 := unfrozen_of_block hb9 0
 have f1 := unfrozen_of_block hb9 1
 have hz9 := hst.keeps.size
 have hb10 := block_setCell (block_setCell hb9 (i := 0) (.int .i64 ((t : Int) + 1))) (i := 1) (.string (txt l))
 have hk10 : Keeps (fun b => b ≠ q) w9 ((w9.setCell ⟨q, 0, none⟩ (.int .i64 ((t : Int) + 1))).setCell ⟨q, 1, none⟩ (.string (txt l))) := ((Keeps.refl _ w9).setCell (.inr fun hn => hn rfl) _).setCell (.inr fun hn => hn rfl) _
 have HB10 := Lib.hid hb10
 have HK10 := Lib.hid hk10
 have HST := Lib.hid hst
 have HD9 := Lib.hid hd9
 clear hst hb9 hrc hz9 hb10 hk10 hd9 hst9 c2 HS8 HF HR3 HB3
 go_wp2_with fail
 have hb10 := HB10.out
 have hk10 := HK10.out
 clear HB10 HK10 c0 c1 f0 f1 r0 r1
 generalize ((w9.setCell ⟨q, 0, none⟩ (.int .i64 ((t : Int) + 1))).setCell ⟨q, 1, none⟩ (.string (txt l))) = w10 at hb10 hk10 ⊢
 have c3 : w10.cell? ⟨q, 3, none⟩ = some (.int .i64 (lat : Int)) := (cell_of_block hb10 3).trans rfl
 have c4 : w10.cell? ⟨q, 4, none⟩ = some (.int .i64 (sp : Int)) := (cell_of_block hb10 4).trans rfl
 have f3 := unfrozen_of_block hb10 3
 have f4 := unfrozen_of_block hb10 4
 have hfin : ∀ w11 : World, w11.heap[q]? = some (.cells #[.int .i64 ((t : Int) + 1), .string (txt l), .pointer (some ⟨p, 0, none⟩), .int .i64 (sp : Int), .int .i64 (lat : Int)] 143 (0, 0)) → Keeps (fun b => b ≠ q) w10 w11 →
   ∃ F', DAt w11 p F' (SDev.still (s.now.set sp (encS (t + 1) l)) (s.calls + 2)) ∧ SBlk w11 q p sp lat (t + 1) l ∧ Keeps (fun b => ¬ F.M b ∧ b ≠ q) w w11 ∧ (∀ b, F'.M b → F.M b ∨ w.heap.size ≤ b) ∧ (∀ b, F'.I b → F.all b ∨ w.heap.size ≤ b) := by
  intro w11 hb11 hk11
  have hst := HST.out
  have hk1 := HK3.out
  have hk := hk10.trans hk11
  have hqF : ¬ F9.all q := fun hf => by
   rcases hst.all q hf with h1 | h1
   ·exact hq h1
   ·have := HZ3.out; omega
  refine ⟨F9, HD9.out.keep (hk.mono fun b _ hb e => hqF (by rw [← e]; exact hb)), hb11, ?_, fun b hb => (hst.m b hb).imp id fun h1 => Nat.le_trans hk1.size h1, fun b hb => (hst.i b hb).imp id fun h1 => Nat.le_trans hk1.size h1⟩
  exact ((hk1.mono fun _ _ _ => trivial).trans (hst.keeps.mono fun b _ hb => hb.1)).trans (hk.mono fun b _ hb => hb.2)
 have hb11 := block_setCell (block_setCell hb10 (i := 3) (.int .i64 (sp : Int))) (i := 4) (.int .i64 (lat : Int))
 have hk11 : Keeps (fun b => b ≠ q) w10 ((w10.setCell ⟨q, 3, none⟩ (.int .i64 (sp : Int))).setCell ⟨q, 4, none⟩ (.int .i64 (lat : Int))) := ((Keeps.refl _ w10).setCell (.inr fun hn => hn rfl) _).setCell (.inr fun hn => hn rfl) _
 have HFIN := Lib.hid (hfin ((w10.setCell ⟨q, 3, none⟩ (.int .i64 (sp : Int))).setCell ⟨q, 4, none⟩ (.int .i64 (lat : Int))).drew (hb11.trans rfl) hk11.drew)
 clear hfin hb11 hk11 hb10 hk10
 go_region
 go_wp2_with fail
 go_ret
 exact ⟨rfl, HFIN.out⟩
end Go.Proofs.YticophaepapjoaaGreatDoor
