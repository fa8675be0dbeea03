/-
  THE WALK OF ItemLimits, whatever way the program goes.
-/
import Derived.Test.YtgdbkmecfbkobaaItemLimitsRegion
import Derived.Test.YtgdbkmecfbkobaaItemRef
namespace Go.Proofs.Ytgdbkmecfbkobaa.itemLimits
open Go Go.RowKit Go.Joins

theorem zeros_size (n : Nat) : (txt (zerosL n)).size = n := by rw [txt_size]; simp [zerosL]
theorem encs_one (x : It) : decide (0 < (encs [x]).length) = x.may := by
  unfold encs
  cases h : x.may with
  | true =>
    have := x.bytes_pos
    rw [if_pos (by simp [h])]
    simp [bytesOf]; exact this
  | false => rw [if_neg (by simp [h])]; rfl
theorem live_zero (x : It) : x.live 0 = (x.may && !x.gone) := by
  unfold It.live
  cases h : x.may with
  | false => rfl
  | true =>
    have := It.may_is h
    have e : (decide (x.till = 0) || decide (0 < x.till)) = true := by
      simp only [Bool.or_eq_true, decide_eq_true_eq]; omega
    rw [e]; cases x.gone <;> rfl

set_option maxRecDepth 100000 in
set_option maxHeartbeats 2000000 in
theorem walk (S : ItemOK) (w : World) (hT : S.T w) (key val till : Int) (gone : Bool) (hk1 : -9223372036854775808 ≤ key) (hk2 : key < 9223372036854775808) (hv1 : -9223372036854775808 ≤ val) (hv2 : val < 9223372036854775808) (ht1 : -9223372036854775808 ≤ till) (ht2 : till < 9223372036854775808) :
    Calls Try.prog 7 #[.int .i64 key, .int .i64 val, .int .i64 till, .bool gone] w fun e w' => e = .returned (.bool true) ∧ Below w.heap.size w w' := by
  have HT := Lib.hid hT
  have HBEG := Lib.hid (begun7 S w hT)
  clear hT
  have hway : (decide (key < 0) = true) ∨ (decide (key < 0) = false ∧ decide (60 < key) = true) ∨ (decide (key < 0) = false ∧ decide (60 < key) = false ∧ decide (val < 0) = true) ∨ (decide (key < 0) = false ∧ decide (60 < key) = false ∧ decide (val < 0) = false ∧ decide (250 < val) = true) ∨
      (decide (key < 0) = false ∧ decide (60 < key) = false ∧ decide (val < 0) = false ∧ decide (250 < val) = false) := by
    simp only [decide_eq_true_eq, decide_eq_false_iff_not]; omega
  rcases hway with d1 | ⟨d1, d2⟩ | ⟨d1, d2, d3⟩ | ⟨d1, d2, d3, d4⟩ | ⟨d1, d2, d3, d4⟩
  iterate 4
    · go_enter Try.func7, Try.ntmps7
      go_wp2_with fail
      refine HBEG.out.mono ?_
      rintro e w1 ⟨rfl, hk⟩
      have HK := Lib.hid hk
      clear hk
      go_wp2_with fail
      go_ret
      exact ⟨rfl, HK.out.below⟩
  obtain ⟨kn, rfl⟩ := Int.eq_ofNat_of_zero_le (show 0 ≤ key by simpa using d1)
  obtain ⟨vn, rfl⟩ := Int.eq_ofNat_of_zero_le (show 0 ≤ val by simpa using d3)
  have hkn : kn ≤ 60 := by have : ¬ (60 : Int) < (kn : Int) := by simpa using d2
                           omega
  have hvn : vn ≤ 250 := by have : ¬ (250 : Int) < (vn : Int) := by simpa using d4
                            omega
  have HT1 := Lib.hid ht1
  have HT2 := Lib.hid ht2
  clear hk1 hk2 hv1 hv2 ht1 ht2
  go_enter Try.func7, Try.ntmps7
  go_wp2_with fail
  refine HBEG.out.mono ?_
  rintro e w1 ⟨rfl, hk⟩
  have HK1 := Lib.hid hk
  clear hk
  go_wp2_with fail
  refine wp_region_slot (V := VL w1.heap.size kn vn till gone) (w0 := w1) 10 9 (SL w1 kn vn till gone) Rk GL (by kernel_rfl) (fun i w w' v h hv => VL_kp i w w' v h hv) (fun b u w w' h hs => by
    cases b
    · exact hs.trans h
    · obtain ⟨h0, b, e, hb, hc⟩ := hs
      exact ⟨h0.trans h, b, e, hb, (h.block b trivial (Array.getElem?_eq_some_iff.1 hc).1).trans hc⟩) (fun _ _ _ h => h) ⟨10, by kernel_rfl⟩ (by kernel_rfl) (by decide) (fun i _ a b v h hv => VL_rk i a b v h hv) (by kernel_rfl) (by decide) GL_is (fun i o ho hw => (all_wanted (by kernel_rfl) ho hw).elim) (fun _ => (Keeps.refl _ w1).drew) (each_of ?_) ?_
  · refine ⟨?_, ?_, ?_, ?_, ?_, ?_, ?_, ?_, ?_, ?_, ?_, trivial⟩ <;> intro hw a1 w3 L
    · rw [if_neg (by decide)]
      intro b hs _
      exact kp_move rfl (L.old 0 (by kernel_rfl))
    · rw [if_neg (by decide)]
      intro b hs _
      exact kp_make (by omega) rfl (L.val 0 29 (by kernel_rfl) (by kernel_rfl))
    · rw [if_neg (by decide)]
      intro b hs _
      exact kp_string rfl Try.underlying30 Try.underlying5 Try.underlying9 (ZeroV.text (L.val 1 30 (by kernel_rfl) (by kernel_rfl)))
    · rw [if_neg (by decide)]
      intro b hs _
      exact kp_move rfl (L.old 1 (by kernel_rfl))
    · rw [if_neg (by decide)]
      intro b hs _
      exact kp_make (by omega) rfl (L.val 3 32 (by kernel_rfl) (by kernel_rfl))
    · rw [if_neg (by decide)]
      intro b hs _
      exact kp_string rfl Try.underlying30 Try.underlying5 Try.underlying9 (ZeroV.text (L.val 4 33 (by kernel_rfl) (by kernel_rfl)))
    · rw [if_neg (by decide)]
      intro b hs _
      exact kp_move rfl (L.old 2 (by kernel_rfl))
    · rw [if_neg (by decide)]
      intro b hs _
      exact kp_move rfl (L.old 3 (by kernel_rfl))
    · rw [if_neg (by decide)]
      intro b hs _
      exact kp_buildI rfl (L.val 2 31 (by kernel_rfl) (by kernel_rfl)) (L.val 5 34 (by kernel_rfl) (by kernel_rfl)) (L.val 6 35 (by kernel_rfl) (by kernel_rfl)) (L.val 7 36 (by kernel_rfl) (by kernel_rfl))
    · rw [if_neg (by decide)]
      intro b hs _
      exact kp_allocI hs.kp0.size rfl
    · rw [if_pos rfl]
      intro hs
      obtain ⟨b, hp, ⟨cs, hcs, hb⟩, hge⟩ := (show PtrI w1.heap.size w3 (a1.eval (.tmp 10)) from L.val 9 10 (by kernel_rfl) (by kernel_rfl))
      have h8 : a1.eval (.tmp 37) = .agg #[.string (txt (zerosL kn)), .string (txt (zerosL vn)), .int .i64 till, .bool gone] := L.val 8 37 (by kernel_rfl) (by kernel_rfl)
      refine Oper.wp_mono (fun a' w' hk' => ?_) (slot_store 23 rfl b 0 hp [.string (txt (zerosL kn)), .string (txt (zerosL vn)), .int .i64 till, .bool gone] h8 23 cs hb (by kernel_rfl) (by rw [hcs]; exact Nat.le_refl 4) (by simp [Value.oneCell']))
      obtain ⟨v, rfl, hg, hb'⟩ := hk'
      have hcl : cs.toList.length = 4 := by simpa using hcs
      have hb2 : w'.heap[b]? = some (.cells #[.string (txt (zerosL kn)), .string (txt (zerosL vn)), .int .i64 till, .bool gone] 23 (0, 0)) := by
        rw [hb']
        have e : cs.toList.drop (0 + 4) = [] := List.drop_eq_nil_of_le (by omega)
        simp only [List.length_cons, List.length_nil, Nat.reduceAdd, e, List.take_zero, List.nil_append, List.append_nil]
      have hkk : Keeps (fun x => x ≠ b) w3 w' := Keeps.of_grown hg fun x hx _ hn => hn (by injection hx with hx; exact hx.symm)
      refine ⟨v, rfl, ⟨hkk.mono fun x _ hx e => hx (by rw [e]; exact ⟨cs, hcs, hb⟩), fun x hx => ?_⟩, ⟨?_, b, hp, hge, hb2⟩, trivial⟩
      · by_cases e : x = b
        · subst e; exact ⟨_, rfl, hb2⟩
        · obtain ⟨ds, hds, hx⟩ := hx
          exact ⟨ds, hds, (hkk.block x e (Array.getElem?_eq_some_iff.1 hx).1).trans hx⟩
      · exact ⟨hkk.os.trans hs.os, hkk.tape.trans hs.tape, hkk.output.trans hs.output, Nat.le_trans hs.size hkk.size, fun x _ hx => (hkk.block x (by show x ≠ b; omega) (Nat.lt_of_lt_of_le hx hs.size)).trans (hs.block x trivial hx)⟩
  · intro vs w4 hs4 hlen4 hv
    match vs, hlen4 with
    | [u0, u1, u2, u3, u4, u5, u6, u7, u8, u9, u10], _ =>
      obtain ⟨hk4, b, hp, hge, hb4⟩ := hs4
      have hp : u9 = .pointer (some ⟨b, 0, none⟩) := hp
      subst hp
      clear hv
      simp only [putAll, List.map, Act.put, List.setIfInBounds_toArray, List.set_cons_succ, List.set_cons_zero, Exit.then]
      obtain ⟨x, hx⟩ : ∃ x : It, x = ⟨txt (zerosL kn), txt (zerosL vn), till, gone⟩ := ⟨_, rfl⟩
      have hxk : x.key.size = kn := by rw [hx]; exact zeros_size kn
      have hxv : x.val.size = vn := by rw [hx]; exact zeros_size vn
      have hfits : x.fits := ⟨by omega, by omega, by rw [hx]; exact HT1.out, by rw [hx]; exact HT2.out⟩
      have e1 : x.key = txt (zerosL kn) := by rw [hx]
      have e2 : x.val = txt (zerosL vn) := by rw [hx]
      have e3 : x.till = till := by rw [hx]
      have e4 : x.gone = gone := by rw [hx]
      rw [← e1, ← e2, ← e3, ← e4] at hb4
      have HKK := Lib.hid (HK1.out.trans hk4)
      have HB4 := Lib.hid hb4
      have hblt : b < w4.heap.size := (Array.getElem?_eq_some_iff.1 hb4).1
      have HCC := Lib.hid (show ∀ W, Kp w4 W → W.cell? ⟨b, 0, none⟩ = some (.string x.key) ∧ W.cell? ⟨b, 1, none⟩ = some (.string x.val) ∧ W.cell? ⟨b, 2, none⟩ = some (.int .i64 x.till) ∧ W.cell? ⟨b, 3, none⟩ = some (.bool x.gone) from fun W h => by
        have hb := (h.block b trivial hblt).trans hb4
        exact ⟨(cell_of_block hb 0).trans rfl, (cell_of_block hb 1).trans rfl, (cell_of_block hb 2).trans rfl, (cell_of_block hb 3).trans rfl⟩)
      have HMAY := Lib.hid (fun W (h : Kp w4 W) => S.may W x (S.tk HT.out (HKK.out.trans h)) hfits)
      have HLIV := Lib.hid (fun W (h : Kp w4 W) => S.live W x 0 (S.tk HT.out (HKK.out.trans h)) hfits (by decide) (by decide))
      have HENC := Lib.hid (fun W (h : Kp w4 W) => show Calls Try.prog 15 #[.slice (some ⟨W.heap.size, 0, none⟩) 1 1] (W.alloc (.cells #[.string x.key, .string x.val, .int .i64 x.till, .bool x.gone] 23)) _ from S.encode (W.alloc (.cells #[.string x.key, .string x.val, .int .i64 x.till, .bool x.gone] 23)) (some ⟨W.heap.size, 0, none⟩) 1 [x] (S.tk HT.out ((HKK.out.trans h).alloc _)) (ItsAt.fresh W #[.string x.key, .string x.val, .int .i64 x.till, .bool x.gone] 23 (0, 0) _ rfl trivial [x] rfl) (Nat.le_refl 1) (by decide) (by simp) (fun y hy => by rw [List.mem_singleton.1 hy]; exact hfits))
      have HSIZ := Lib.hid (fun W (h : Kp w4 W) => show Calls Try.prog 17 #[.slice (some ⟨W.heap.size, 0, none⟩) 1 1] (W.alloc (.cells #[.string x.key, .string x.val, .int .i64 x.till, .bool x.gone] 23)) _ from S.size (W.alloc (.cells #[.string x.key, .string x.val, .int .i64 x.till, .bool x.gone] 23)) (some ⟨W.heap.size, 0, none⟩) 1 [x] (S.tk HT.out ((HKK.out.trans h).alloc _)) (ItsAt.fresh W #[.string x.key, .string x.val, .int .i64 x.till, .bool x.gone] 23 (0, 0) _ rfl trivial [x] rfl) (Nat.le_refl 1) (by decide) (by simp) (fun y hy => by rw [List.mem_singleton.1 hy]; exact hfits))
      have hsz : sizes [x] = kn + vn := by simp [sizes, It.size, hxk, hxv]
      rw [hsz] at HSIZ
      have hen := encs_one x
      have hli := live_zero x
      have hway : ∃ m : Bool, x.may = m ∧ (
          (decide ((1 : Int) ≤ (kn : Int)) = false ∧ m = false) ∨
          (decide ((1 : Int) ≤ (kn : Int)) = true ∧ decide ((kn : Int) ≤ 40) = false ∧ m = false) ∨
          (decide ((1 : Int) ≤ (kn : Int)) = true ∧ decide ((kn : Int) ≤ 40) = true ∧ decide ((vn : Int) ≤ 200) = false ∧ m = false) ∨
          (decide ((1 : Int) ≤ (kn : Int)) = true ∧ decide ((kn : Int) ≤ 40) = true ∧ decide ((vn : Int) ≤ 200) = true ∧ decide ((0 : Int) ≤ till) = false ∧ m = false) ∨
          (decide ((1 : Int) ≤ (kn : Int)) = true ∧ decide ((kn : Int) ≤ 40) = true ∧ decide ((vn : Int) ≤ 200) = true ∧ decide ((0 : Int) ≤ till) = true ∧ decide (till ≤ 1099511627776) = false ∧ m = false) ∨
          (decide ((1 : Int) ≤ (kn : Int)) = true ∧ decide ((kn : Int) ≤ 40) = true ∧ decide ((vn : Int) ≤ 200) = true ∧ decide ((0 : Int) ≤ till) = true ∧ decide (till ≤ 1099511627776) = true ∧ gone = true ∧ ((vn : Int) == 0) = false ∧ m = false) ∨
          (decide ((1 : Int) ≤ (kn : Int)) = true ∧ decide ((kn : Int) ≤ 40) = true ∧ decide ((vn : Int) ≤ 200) = true ∧ decide ((0 : Int) ≤ till) = true ∧ decide (till ≤ 1099511627776) = true ∧ gone = true ∧ ((vn : Int) == 0) = true ∧ (till == 0) = false ∧ m = false) ∨
          (decide ((1 : Int) ≤ (kn : Int)) = true ∧ decide ((kn : Int) ≤ 40) = true ∧ decide ((vn : Int) ≤ 200) = true ∧ decide ((0 : Int) ≤ till) = true ∧ decide (till ≤ 1099511627776) = true ∧ gone = true ∧ ((vn : Int) == 0) = true ∧ (till == 0) = true ∧ m = true) ∨
          (decide ((1 : Int) ≤ (kn : Int)) = true ∧ decide ((kn : Int) ≤ 40) = true ∧ decide ((vn : Int) ≤ 200) = true ∧ decide ((0 : Int) ≤ till) = true ∧ decide (till ≤ 1099511627776) = true ∧ gone = false ∧ m = true)) := by
        refine ⟨_, rfl, ?_⟩
        have f1 : decide ((1 : Int) ≤ (kn : Int)) = decide (1 ≤ kn) := decide_eq_decide.2 (by omega)
        have f2 : decide ((kn : Int) ≤ 40) = decide (kn ≤ 40) := decide_eq_decide.2 (by omega)
        have f3 : decide ((vn : Int) ≤ 200) = decide (vn ≤ 200) := decide_eq_decide.2 (by omega)
        have f4 : ((vn : Int) == 0) = decide (vn = 0) := by
          show decide ((vn : Int) = 0) = _
          exact decide_eq_decide.2 (by omega)
        have f5 : (till == 0) = decide (till = 0) := rfl
        rw [f1, f2, f3, f4, f5]
        unfold It.may
        rw [hxk, hxv, e3, e4]
        generalize decide (1 ≤ kn) = b1
        generalize decide (kn ≤ 40) = b2
        generalize decide (vn ≤ 200) = b3
        generalize decide ((0 : Int) ≤ till) = b4
        generalize decide (till ≤ 1099511627776) = b5
        generalize decide (vn = 0) = b6
        generalize decide (till = 0) = b7
        generalize gone = b8
        clear f1 f2 f3 f4 f5
        revert b1 b2 b3 b4 b5 b6 b7 b8
        decide
      obtain ⟨m, hm, hway⟩ := hway
      rw [hm] at HMAY hen hli
      rw [e4] at hli
      rw [hli] at HLIV
      obtain ⟨en, hen2⟩ : ∃ en, (encs [x]).length = en := ⟨_, rfl⟩
      rw [hen2] at hen HENC
      have HEN := Lib.hid hen2
      clear hm hli hen2 hxk hxv hfits hsz e1 e2 e3 e4 hx hb4 hk4 hge
      have te : decide ((0 : Int) < (en : Int)) = m := by rw [← hen]; exact decide_eq_decide.2 (by omega)

      have hbk : (kn : Int) + (vn : Int) ≤ 310 := by omega
      rcases hway with ⟨a1, rfl⟩ | ⟨a1, a2, rfl⟩ | ⟨a1, a2, a3, rfl⟩ | ⟨a1, a2, a3, a4, rfl⟩ | ⟨a1, a2, a3, a4, a5, rfl⟩ | ⟨a1, a2, a3, a4, a5, rfl, a6, rfl⟩ | ⟨a1, a2, a3, a4, a5, rfl, a6, a7, rfl⟩ | ⟨a1, a2, a3, a4, a5, rfl, a6, a7, rfl⟩ | ⟨a1, a2, a3, a4, a5, rfl, rfl⟩
      all_goals
        obtain ⟨c0, c1, c2, c3⟩ := HCC.out w4 (Keeps.refl _ _)
        go_wp2_with fail
        refine (HMAY.out _ (Keeps.refl _ _)).mono ?_
        rintro e w5 ⟨rfl, hk5⟩
        have HK5 := Lib.hid hk5
        clear hk5 c0 c1 c2 c3
        obtain ⟨c0, c1, c2, c3⟩ := HCC.out w5 HK5.out
        go_wp2_with fail
        refine (HENC.out w5 HK5.out).mono ?_
        rintro e w6 ⟨B, k, rfl, hl1, hl2, -, hkp⟩
        have hkp : Kp _ w6 := hkp
        have HK6 := Lib.hid ((HK5.out.alloc _).trans hkp)
        clear hl1
        unfold maxLen at hl2
        clear hkp c0 c1 c2 c3
        obtain ⟨c0, c1, c2, c3⟩ := HCC.out w6 HK6.out
        go_wp2_with fail
        with_reducible refine (HLIV.out w6 HK6.out).mono ?_
        rintro e w7 ⟨rfl, hk7⟩
        have HK7 := Lib.hid (HK6.out.trans hk7)
        clear hk7 c0 c1 c2 c3
        obtain ⟨c0, c1, c2, c3⟩ := HCC.out w7 HK7.out
        go_wp2_with fail
        first
          | (go_ret; exact ⟨rfl, (HKK.out.trans HK7.out).below⟩)
          | (refine (HSIZ.out w7 HK7.out).mono ?_
             rintro e w8 ⟨rfl, hk8⟩
             have hk8 : Kp _ w8 := hk8
             have HK8 := Lib.hid ((HKK.out.trans (HK7.out.alloc _)).trans hk8)
             clear hk8 c0 c1 c2 c3
             go_wp2_with fail
             go_ret
             exact ⟨by first | rfl | simp, HK8.out.below⟩)

end Go.Proofs.Ytgdbkmecfbkobaa.itemLimits
