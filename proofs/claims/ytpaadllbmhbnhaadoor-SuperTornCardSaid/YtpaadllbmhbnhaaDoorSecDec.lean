/-
  THE PROGRAM's SECTORS (super/record.go, super.go): parse.
-/
import Derived.Test.YtpaadllbmhbnhaaDoorSecEnc
namespace Go.Proofs.YtpaadllbmhbnhaaDoor
open Go Go.RowKit Go.Joins

/-- A record, as a value. -/
def recV : Option (Nat × List UInt8) → Value
  | none => .agg #[.int .i64 0, .string ⟨#[]⟩]
  | some (t, x) => .agg #[.int .i64 (t : Int), .string (txt x)]

/-- A slot of parse's first region. -/
def VP (b o c : Nat) (l : List UInt8) (x : Bool) : Nat → World → Value → Prop
  | 0 => IsV (.slice (some ⟨b, o, none⟩) 64 c)
  | 1 => IsV (.slice (some ⟨b, o + 60, none⟩) 4 (c - 60))
  | 2 => IsV (.slice (some ⟨b, o, none⟩) 64 c)
  | 3 => TextV (sumOf l)
  | 4 => IsV (.bool x)
  | 5 => IsV (.bool (!x))
  | _ => fun _ _ => True
theorem VP_mono {b o c : Nat} {l : List UInt8} {x : Bool} (i : Nat) (w w' : World) (v : Value) (h : Kp w w') (hv : VP b o c l x i w v) : VP b o c l x i w' v := by
  match i, hv with
  | 0, hv => exact hv
  | 1, hv => exact hv
  | 2, hv => exact hv
  | 3, hv => exact TextV.mono h hv
  | 4, hv => exact hv
  | 5, hv => exact hv
  | n + 6, _ => trivial
theorem cut_end {w : World} {b o c k n : Nat} {F : Nat → Prop} {l : List UInt8} (h : Row w (some ⟨b, o, none⟩) F (bcells l)) (hl : l.length = n) (hk : k ≤ n) (hc : n < c ∨ k < n ∧ n ≤ c) : Row w (some ⟨b, o + k, none⟩) F (bcells (l.drop k)) := by
  have h1 := h.cut (k := k) (cap := c) (by rw [bcells_len]; omega) (by rw [bcells_len]; omega)
  rw [if_neg (by omega)] at h1
  have e : bcells (l.drop k) = (bcells l).drop k := by simp [bcells]
  rw [e]
  simpa [WideShapes.add_plain] using h1

theorem txt_same (l r : List UInt8) : ((txt l).toList == (txt r).toList) = decide (l = r) := by
  have e1 : (txt l).toList = l := by rw [Lib.toList_data]; rfl
  have e2 : (txt r).toList = r := by rw [Lib.toList_data]; rfl
  rw [e1, e2, Bool.eq_iff_iff]; simp
theorem decS_no {l : List UInt8} (h : ((txt (l.drop 60)).toList == (txt (sumOf l)).toList) = false) : recV (decS l) = .agg #[.int .i64 0, .string ⟨#[]⟩] := by
  rw [txt_same, decide_eq_false_iff_not] at h
  unfold decS; rw [if_neg h]; rfl
theorem decS_yes {l : List UInt8} (h : ((txt (l.drop 60)).toList == (txt (sumOf l)).toList) = true) : decS l = readS l := by
  rw [txt_same, decide_eq_true_eq] at h
  unfold decS; rw [if_pos h]
theorem readS_no {l : List UInt8} {t : Int} {k e : Nat} (h : getZ l = (t, k, e)) (hb : e ≠ 0 ∨ t < 1 ∨ 1099511627776 < t) : recV (readS l) = .agg #[.int .i64 0, .string ⟨#[]⟩] := by
  unfold readS; rw [h]; simp only; rw [if_pos hb]; rfl
theorem readS_bad {l : List UInt8} {t : Int} {k : Nat} {x : List UInt8} {m e : Nat} (h : getZ l = (t, k, 0)) (h1 : getT (l.drop k) = (x, m, e)) (hb : e ≠ 0 ∨ 40 < x.length) : recV (readS l) = .agg #[.int .i64 0, .string ⟨#[]⟩] := by
  unfold readS; rw [h]; simp only; rw [h1]; simp only
  by_cases h0 : ¬ (0 : Nat) = 0 ∨ t < 1 ∨ 1099511627776 < t
  · rw [if_pos h0]; rfl
  · rw [if_neg h0, if_pos hb]; rfl
theorem readS_is {l : List UInt8} {t : Int} {k : Nat} {x : List UInt8} {m : Nat} (h : getZ l = (t, k, 0)) (h1 : getT (l.drop k) = (x, m, 0)) (hb : ¬ (t < 1 ∨ 1099511627776 < t)) (hx : ¬ 40 < x.length) : recV (readS l) = .agg #[.int .i64 t, .string (txt x)] := by
  unfold readS; rw [h]; simp only; rw [h1]; simp only
  rw [if_neg (by omega), if_neg (by omega)]
  show Value.agg #[.int .i64 ((t.toNat : Nat) : Int), .string (txt x)] = _
  rw [show ((t.toNat : Nat) : Int) = t by omega]

set_option maxRecDepth 100000 in
set_option maxHeartbeats 4000000 in
theorem parse_any (w : World) (hT : Taken w) (b o c : Nat) (F : Nat → Prop) (l : List UInt8) (h : Row w (some ⟨b, o, none⟩) F (bcells l)) (hl : l.length = 64) (hc : 64 ≤ c) (hcm : c ≤ maxLen) :
    Calls Tryd.prog 37 #[.slice (some ⟨b, o, none⟩) 64 c] w fun e w' => e = .returned (recV (decS l)) ∧ Keeps (fun _ => True) w w' := by
  have hcm' := hcm
  unfold maxLen at hcm'
  obtain ⟨x, hx⟩ : ∃ x, ((txt (l.drop 60)).toList == (txt (sumOf l)).toList) = x := ⟨_, rfl⟩
  have HX := Lib.hid hx
  have HT := Lib.hid hT
  have HRW := Lib.hid h
  have HL := Lib.hid hl
  clear hT h hl hx
  go_enter Tryd.func37, Tryd.ntmps37
  go_wp2_with fail
  have hk0 := (Keeps.refl (fun _ => True) w).alloc (.cells #[.int .i64 0, .string ⟨#[]⟩] 52)
  have hb0 := heap_alloc_new w (.cells #[.int .i64 0, .string ⟨#[]⟩] 52)
  have hr0 : w.heap.size < (w.alloc (.cells #[.int .i64 0, .string ⟨#[]⟩] 52)).heap.size := by simp
  generalize (w.alloc (.cells #[.int .i64 0, .string ⟨#[]⟩] 52)) = w0 at hk0 hb0 hr0 ⊢
  have HRW0 := Lib.hid (HRW.out.keep (hk0.mono fun _ _ _ => trivial))
  have HT0 := Lib.hid (HT.out.keep hk0)
  have HK0 := Lib.hid hk0
  have HB0 := Lib.hid hb0
  have HS0 := Lib.hid hr0
  clear hk0 hb0 hr0
  refine wp_region_guard (R := Kp) (V := VP b o c l x) (w0 := w0) GE (by kernel_rfl) (fun w => Keeps.refl _ w) (fun _ _ _ h k => h.trans k) (fun i w w' v h hv => VP_mono i w w' v h hv) (by kernel_rfl) GE_is (fun i o ho hw => (all_wanted (by kernel_rfl) ho hw).elim) ((Keeps.refl _ w0).drew) (each_of ?_) ?_
  · refine ⟨?_, ?_, ?_, ?_, ?_, ?_, trivial⟩ <;> intro hw a1 w3 L
    · exact kp_move rfl (L.old 0 (by kernel_rfl))
    · have e0 : a1.eval (.tmp 8) = .slice (some ⟨b, o, none⟩) 64 c := L.val 0 8 (by kernel_rfl) (by kernel_rfl)
      have hcn : a1.eval (.const (.int .i64 60)) = .int .i64 60 := rfl
      have hne : ¬ c = 60 := by omega
      have hne2 : ¬ c ≤ 60 := by omega
      refine kp_yield (v := .slice (some ⟨b, o + 60, none⟩) 4 (c - 60)) (w' := w3) ?_ (Keeps.refl _ _) rfl
      generalize a1.eval = ρ at e0 hcn ⊢
      unfold execOp
      go_simp
    · exact kp_move rfl (L.old 0 (by kernel_rfl))
    · have e0 : a1.eval (.tmp 10) = .slice (some ⟨b, o, none⟩) 64 c := L.val 2 10 (by kernel_rfl) (by kernel_rfl)
      have hf : a1.eval (.func 34) = .func (.func 34) #[] #[] := rfl
      refine kp_enter (f := 34) (args := #[.slice (some ⟨b, o, none⟩) 64 c]) ?_ (ssum_any _ c _ l w3 (HRW0.out.lt.keep (L.rel.mono fun _ _ _ => trivial)) HL.out hc hcm (HT0.out.keep L.rel)) ?_
      · generalize a1.eval = ρ at e0 hf ⊢
        unfold execOp
        go_simp
      · rintro e w' ⟨v, rfl, ho, hk⟩
        obtain ⟨A, d, e, hn, hr⟩ := own_slice ho
        exact ⟨v, rfl, hk, A, d, e, hr.mono fun _ _ _ => trivial⟩
    · have e0 : a1.eval (.tmp 9) = .slice (some ⟨b, o + 60, none⟩) 4 (c - 60) := L.val 1 9 (by kernel_rfl) (by kernel_rfl)
      obtain ⟨A, d, e1, hr⟩ := L.val 3 11 (by kernel_rfl) (by kernel_rfl)
      have hf : a1.eval (.func 43) = .func (.func 43) #[] #[] := rfl
      refine kp_enter (f := 43) (args := #[.slice (some ⟨b, o + 60, none⟩) 4 (c - 60), .slice A (sumOf l).length d]) ?_ (equal_any _ _ _ _ _ _ _ _ (l.drop 60) (sumOf l) w3 (cut_end (HRW0.out.lt.keep (L.rel.mono fun _ _ _ => trivial)) HL.out (by decide) (.inr ⟨by decide, hc⟩)) hr (by rw [List.length_drop, HL.out]) rfl x HX.out) ?_
      · clear hr
        generalize a1.eval = ρ at e0 e1 hf ⊢
        unfold execOp
        go_simp
      · rintro e w' ⟨rfl, rfl⟩
        exact ⟨_, rfl, Keeps.refl _ _, rfl⟩
    · have e0 : a1.eval (.tmp 12) = .bool x := L.val 4 12 (by kernel_rfl) (by kernel_rfl)
      refine kp_yield (v := .bool (!x)) (w' := w3) ?_ (Keeps.refl _ _) rfl
      generalize a1.eval = ρ at e0 ⊢
      unfold execOp
      go_simp
  · intro vs w4 hk4 hlen hv
    match vs, hlen with
    | [v0, v1, v2, v3, v4, v5], _ =>
      have e5 : v5 = .bool (!x) := hv 5 13 (by kernel_rfl)
      clear hv
      subst e5
      simp only [putAll, List.map, Act.put, List.setIfInBounds_toArray, List.set_cons_succ, List.set_cons_zero, Exit.then]
      have hb4 : w4.heap[w.heap.size]? = some (.cells #[.int .i64 0, .string ⟨#[]⟩] 52 (0, 0)) := (hk4.block _ trivial HS0.out).trans HB0.out
      have c0 := (cell_of_block hb4 0).trans rfl
      have c1 := (cell_of_block hb4 1).trans rfl
      have f0 := unfrozen_of_block hb4 0
      have f1 := unfrozen_of_block hb4 1
      have hk := HK0.out.trans hk4
      have HRW4 := Lib.hid (HRW0.out.lt.keep (hk4.mono fun _ _ _ => trivial))
      have HFIN := Lib.hid (show ∀ v0 v1, Keeps (fun _ => True) w ((w4.setCell ⟨w.heap.size, 0, none⟩ v0).setCell ⟨w.heap.size, 1, none⟩ v1) from fun v0 v1 => (hk.setCell (.inl (Nat.le_refl _)) v0).setCell (.inl (Nat.le_refl _)) v1)
      have HCELL := Lib.hid (show ∀ v0 v1, ((w4.setCell ⟨w.heap.size, 0, none⟩ v0).setCell ⟨w.heap.size, 1, none⟩ v1).cell? ⟨w.heap.size, 0, none⟩ = some v0 ∧ ((w4.setCell ⟨w.heap.size, 0, none⟩ v0).setCell ⟨w.heap.size, 1, none⟩ v1).cell? ⟨w.heap.size, 1, none⟩ = some v1 from fun v0 v1 => by
        have h1 := block_setCell (block_setCell hb4 (i := 0) v0) (i := 1) v1
        exact ⟨(cell_of_block h1 0).trans rfl, (cell_of_block h1 1).trans rfl⟩)
      clear hb4 hk hk4 HRW0 HT0 HK0 HB0 HS0 HRW HT
      cases x
      · have HD := Lib.hid (decS_no HX.out)
        go_wp2_with fail
        exact bodyPost_ret (v := .agg #[.int .i64 0, .string ⟨#[]⟩]) (by simp [results, Tryd.results37, go_sem, HCELL.out]) rfl ⟨by rw [HD.out], HFIN.out _ _⟩
      · have HD := Lib.hid (decS_yes HX.out)
        have hgz := getZ_cases l
        have hgc := get_any (some ⟨b, o, none⟩) c _ l w4 HRW4.out (by rw [HL.out]; decide)
        rw [HL.out] at hgc
        have HGC := Lib.hid hgc
        have HGZ := Lib.hid hgz
        clear hgc hgz
        go_wp2_with fail
        refine HGC.out.mono ?_
        rintro e w' ⟨rfl, rfl⟩
        have hbad : ∀ (t : Int) (k e : Nat), getZ l = (t, k, e) → e ≠ 0 ∨ t < 1 ∨ 1099511627776 < t → recV (decS l) = .agg #[.int .i64 0, .string ⟨#[]⟩] := fun t k e h hb => by rw [HD.out]; exact readS_no h hb
        have HBAD := Lib.hid hbad
        clear hbad
        obtain ⟨t, k, e, hg, hk, htb⟩ : ∃ (t : Int) (k e : Nat), getZ l = (t, k, e) ∧ k ≤ 10 ∧ (-9223372036854775808 ≤ t ∧ t < 9223372036854775808) := by
          rcases HGZ.out with ⟨n, k, h, _, h2, _, h3, h4⟩ | h | h
          · exact ⟨n, k, 0, h, h2, h3, h4⟩
          · exact ⟨0, 0, 1, h, by omega, by omega, by omega⟩
          · exact ⟨0, 0, 2, h, by omega, by omega, by omega⟩
        have HG := Lib.hid hg
        rw [hg]
        simp only
        clear hg HGC HGZ
        have hcs : ((((e : Nat) : Int) != 0) = true ∧ e ≠ 0) ∨ ((((e : Nat) : Int) != 0) = false ∧ decide (t < 1) = true ∧ t < 1) ∨ ((((e : Nat) : Int) != 0) = false ∧ decide (t < 1) = false ∧ decide (1099511627776 < t) = true ∧ 1099511627776 < t) ∨ ((((e : Nat) : Int) != 0) = false ∧ decide (t < 1) = false ∧ decide (1099511627776 < t) = false ∧ e = 0 ∧ ¬ (t < 1 ∨ 1099511627776 < t)) := by
          by_cases h0 : e = 0
          · right
            by_cases h1 : t < 1
            · left; exact ⟨by simp [h0], by simpa using h1, h1⟩
            · right
              by_cases h2 : 1099511627776 < t
              · left; exact ⟨by simp [h0], by simpa using h1, by simpa using h2, h2⟩
              · right; exact ⟨by simp [h0], by simpa using h1, by simpa using h2, h0, by omega⟩
          · left; exact ⟨by simp; omega, h0⟩
        rcases hcs with ⟨t0, hb⟩ | ⟨t0, t1, hb⟩ | ⟨t0, t1, t2, hb⟩ | ⟨t0, t1, t2, he0, hb⟩
        · have HZ := Lib.hid (HBAD.out _ _ _ HG.out (.inl hb))
          clear hb
          go_wp2_with fail
          exact bodyPost_ret (v := .agg #[.int .i64 0, .string ⟨#[]⟩]) (by simp [results, Tryd.results37, go_sem, HCELL.out]) rfl ⟨by rw [HZ.out], HFIN.out _ _⟩
        · have HZ := Lib.hid (HBAD.out _ _ _ HG.out (.inr (.inl hb)))
          clear hb
          go_wp2_with fail
          exact bodyPost_ret (v := .agg #[.int .i64 0, .string ⟨#[]⟩]) (by simp [results, Tryd.results37, go_sem, HCELL.out]) rfl ⟨by rw [HZ.out], HFIN.out _ _⟩
        · have HZ := Lib.hid (HBAD.out _ _ _ HG.out (.inr (.inr hb)))
          clear hb
          go_wp2_with fail
          exact bodyPost_ret (v := .agg #[.int .i64 0, .string ⟨#[]⟩]) (by simp [results, Tryd.results37, go_sem, HCELL.out]) rfl ⟨by rw [HZ.out], HFIN.out _ _⟩
        · subst he0
          have HTB := Lib.hid hb
          have hne : ¬ c = k := by omega
          have hle : k ≤ 64 := by omega
          have hle2 : k ≤ c := by omega
          have hkl := Lib.hid (show (l.drop k).length = 64 - k by rw [List.length_drop, HL.out])
          have hgt := get_text (some ⟨b, o + k, none⟩) (c - k) _ (l.drop k) w4 (cut_end HRW4.out HL.out (by omega) (.inr ⟨by omega, hc⟩)) (by rw [hkl.out]; omega) (by rw [hkl.out]; omega) (by omega)
          rw [hkl.out] at hgt
          obtain ⟨y, m, e, hy⟩ : ∃ y m e, getT (l.drop k) = (y, m, e) := ⟨_, _, _, rfl⟩
          rw [hy] at hgt
          simp only at hgt
          have HGT := Lib.hid hgt
          have HY := Lib.hid hy
          clear hgt hy hb
          go_wp2_with fail
          refine HGT.out.mono ?_
          rintro e' w' ⟨rfl, rfl⟩
          have hcy : ((((e : Nat) : Int) != 0) = true ∧ e ≠ 0) ∨ ((((e : Nat) : Int) != 0) = false ∧ decide ((40 : Int) < ((txt y).size : Int)) = true ∧ 40 < y.length) ∨ ((((e : Nat) : Int) != 0) = false ∧ decide ((40 : Int) < ((txt y).size : Int)) = false ∧ e = 0 ∧ ¬ 40 < y.length) := by
            rw [txt_size]
            by_cases h0 : e = 0
            · right
              by_cases h1 : 40 < y.length
              · left; exact ⟨by simp [h0], by simp; omega, h1⟩
              · right; exact ⟨by simp [h0], by simp; omega, h0, h1⟩
            · left; exact ⟨by simp; omega, h0⟩
          rcases hcy with ⟨u0, hb⟩ | ⟨u0, u1, hb⟩ | ⟨u0, u1, he0, hb⟩
          · have HZ := Lib.hid (show recV (decS l) = .agg #[.int .i64 0, .string ⟨#[]⟩] by rw [HD.out]; exact readS_bad HG.out HY.out (.inl hb))
            clear hb
            go_wp2_with fail
            exact bodyPost_ret (v := .agg #[.int .i64 0, .string ⟨#[]⟩]) (by simp [results, Tryd.results37, go_sem, HCELL.out]) rfl ⟨by rw [HZ.out], HFIN.out _ _⟩
          · have HZ := Lib.hid (show recV (decS l) = .agg #[.int .i64 0, .string ⟨#[]⟩] by rw [HD.out]; exact readS_bad HG.out HY.out (.inr hb))
            clear hb
            go_wp2_with fail
            exact bodyPost_ret (v := .agg #[.int .i64 0, .string ⟨#[]⟩]) (by simp [results, Tryd.results37, go_sem, HCELL.out]) rfl ⟨by rw [HZ.out], HFIN.out _ _⟩
          · subst he0
            have HZ := Lib.hid (show recV (decS l) = .agg #[.int .i64 t, .string (txt y)] by rw [HD.out]; exact readS_is HG.out HY.out HTB.out hb)
            clear hb
            go_wp2_with fail
            exact bodyPost_ret (v := .agg #[.int .i64 t, .string (txt y)]) (by simp [results, Tryd.results37, go_sem, HCELL.out]) rfl ⟨by rw [HZ.out], HFIN.out _ _⟩

end Go.Proofs.YtpaadllbmhbnhaaDoor
