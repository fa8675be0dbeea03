/- Texts of one proof, behind one another: each says above its part what it proves and on which conditions. -/
import Derived.Test.YtoepgbpmcjnbmaaGreatDoorAllFlB
import Derived.Test.YtoepgbpmcjnbmaaGreatDoorAllIxA
import Derived.Test.YtoepgbpmcjnbmaaGreatDoorAllItemB
import Derived.Test.YtoepgbpmcjnbmaaGreatDoorAllFlA
/-
  THE PROGRAM's CACHE: find; Drop refused.
-/
section
namespace Go.Proofs.YtoepgbpmcjnbmaaGreatDoor
open Go Go.RowKit Go.Joins
set_option maxRecDepth 100000 in
set_option maxHeartbeats 2000000 in
theorem cdropNo (S : Slog2) (I : IndexOK) (J : ItemOK) (w : World) (hT : J.T w) (p q : Nat) (Fs : Foot) (s : SDev) (st : FSt) (hr : flashRep S I w p q Fs st s)
    (A : Option Addr) (c : Nat) (ks : List ByteArray) (hrow : Row w A (fun _ => True) (ks.map Value.string)) (_hlc : ks.length ≤ c) (_hcm : c ≤ maxLen) (hl : ks.length ≤ 1000) (hsz : ∀ k ∈ ks, k.size ≤ 1000000) (hno : ∃ k ∈ ks, ¬ keyOk k) :
    Calls Tryz.prog 18 #[.pointer (some ⟨q, 0, none⟩), .slice A ks.length c] w fun e w' => e = .returned (.int .i64 1) ∧ Kp w w' := by
  have HDN := Lib.hid (show Calls Tryz.prog 36 #[.pointer (some ⟨q, 0, none⟩)] w (fun e w' => e = .returned (.bool false) ∧ w = w') from by
    obtain ⟨lq, iq, Fl, Fi, lo, lst, ix, hs, rfl, hc, -⟩ := hr
    exact cdown w q lq hc.blk.c0)
  have HROW := Lib.hid hrow
  have HSZ := Lib.hid hsz
  have HNO := Lib.hid hno
  have HT := Lib.hid hT
  clear hr hrow hsz hno hT
  unfold maxLen at _hcm
  go_enter Tryz.func18, Tryz.ntmps18
  go_wp2_with fail
  refine (show Calls _ _ _ _ _ from HDN.out).mono ?_
  rintro e w' ⟨rfl, rfl⟩
  go_wp2_with fail
  go_loopw [14] (fun i wr => ∃ k, k ≤ ks.length ∧ i = .int .i64 k ∧ RowKit.Hid (Kp w wr) ∧ RowKit.Hid (∀ x ∈ ks.take k, keyOk x)) (fun i _ => ks.length - (intOf i).toNat)
  case atStart => exact ⟨0, Nat.zero_le _, rfl, Lib.hid (Keeps.refl _ _), Lib.hid (fun x hx => by simp at hx)⟩
  case round =>
    obtain ⟨k, hk, rfl, hkp, hall⟩ := hrel
    by_cases hlt : k < ks.length
    · have t1 : decide ((k : Int) < (ks.length : Int)) = true := by simp; omega
      obtain ⟨b, o, rfl, -, hcell⟩ := (HROW.out.keep hkp.out).at_ (k := k) (by simpa using hlt)
      rw [List.getElem_map] at hcell
      have HKZ := HSZ.out _ (List.getElem_mem hlt)
      have HGN := Lib.hid (cgone wr ks[k])
      have HNX := Lib.hid (show keyOk ks[k] → ∀ x ∈ ks.take (k + 1), keyOk x from fun h x hx => by
        rw [List.take_succ_eq_append_getElem hlt] at hx
        rcases List.mem_append.1 hx with hx | hx
        · exact hall.out x hx
        · rw [List.mem_singleton.1 hx]; exact h)
      generalize ks[k] = key at hcell HGN HKZ HNX
      have HMY := Lib.hid (show ∀ w1, Kp wr w1 → _ from fun w1 (hk1 : Kp wr w1) => may_grave J w1 (J.tk HT.out (hkp.out.trans hk1)) key HKZ _ rfl)
      have HKZ2 := Lib.hid HKZ
      clear HKZ
      go_wp2_with fail
      refine (show Calls _ _ _ _ _ from HGN.out).mono ?_
      rintro e w1 ⟨rfl, hk1⟩
      have HK1 := Lib.hid hk1
      clear hk1
      go_wp2_with fail
      refine (show Calls _ _ _ _ _ from HMY.out w1 HK1.out).mono ?_
      rintro e w2 ⟨rfl, hk2⟩
      have HK2 := Lib.hid (hkp.out.trans (HK1.out.trans hk2))
      clear hk2 hcell
      cases hm : (graveIt key).may with
      | true =>
        have HN := Lib.hid (HNX.out ((grave_may _).1 hm))
        clear hm
        go_wp2_with fail
        go_roundw
        case rel => exact ⟨k + 1, by omega, by go_num, HK2, HN⟩
        case measure => simp [intOf]; omega
      | false =>
        clear hm
        go_wp2_with fail
        go_ret
        exact ⟨rfl, HK2.out⟩
    · exfalso
      obtain rfl : k = ks.length := by omega
      obtain ⟨x, hx, hn⟩ := HNO.out
      exact hn (hall.out x (by rw [List.take_length]; exact hx))
def findE (st : FSt) (k : ByteArray) : Ending :=
  match st.at_ k with
  | some x => .returned (.tuple #[.agg #[.string x.key, .string x.val, .int .i64 x.till, .bool x.gone], .bool true])
  | none => .returned (.tuple #[.agg #[.string ⟨#[]⟩, .string ⟨#[]⟩, .int .i64 0, .bool false], .bool false])
set_option maxRecDepth 100000 in
set_option maxHeartbeats 2000000 in
theorem cfind (S : Slog2) (I : IndexOK) (J : ItemOK) (w : World) (hT : S.T w ∧ I.T w ∧ J.T w) (p q : Nat) (F Fs : Foot) (s : SDev) (st : FSt) (hd : DAt w p F s) (hr : flashRep S I w p q Fs st s) (ha : Apart F Fs) (hroom : st.place + 8 * st.segs ≤ s.now.length) (hage : st.age ≤ 30000) (k : ByteArray) (hk : k.size ≤ 1000000) :
    Calls Tryz.prog 53 #[.pointer (some ⟨q, 0, none⟩), .string k] w fun e w' => e = findE st k ∧ Kp w w' := by
  obtain ⟨lq, iq, Fl, lst, hs, v, b, c0, c1, hl, hon, hal, hpl, hsg, hrecs, hat, hmay, hv, hbb, hget⟩ := cplace S I hT.2.1 hr ha hage k hk
  obtain ⟨w0, hw0⟩ : ∃ w0, w.alloc (.cells itZ 35) = w0 := ⟨_, rfl⟩
  have HW0 := Lib.hid (show w.alloc (.cells #[.string ⟨#[]⟩, .string ⟨#[]⟩, .int .i64 0, .bool false] 35) = w0 from hw0)
  have hb0 : w0.heap[w.heap.size]? = some (.cells itZ 35 (0, 0)) := by rw [← hw0]; exact heap_alloc_new w _
  have hk0 : Kp w w0 := by rw [← hw0]; exact (Keeps.refl _ w).alloc _
  have hz0 : w.heap.size < w0.heap.size := by rw [← hw0]; simp
  have HB0 := Lib.hid hb0
  have HK0 := Lib.hid hk0
  have HZ0 := Lib.hid hz0
  have d0 := hk0.cell c0 trivial
  have d1 := hk0.cell c1 trivial
  have HDN := Lib.hid (cdown w0 q lq d0)
  have HGT := Lib.hid (hget w0 hk0)
  cases hsp : sp (hs.drop lst.gone) k with
  | none =>
    have he : findE st k = .returned (.tuple #[.agg #[.string ⟨#[]⟩, .string ⟨#[]⟩, .int .i64 0, .bool false], .bool false]) := by
      unfold findE
      rw [hat, hsp]
      rfl
    have hb2 : b = false := by rw [hbb, hsp]; rfl
    subst hb2
    rw [he]
    clear hat hsp hbb hv hrecs hmay hl hon hal hpl hsg hget hd hr ha hroom hk0 hb0 hz0 hw0 he
    go_enter Tryz.func53, Tryz.ntmps53
    go_wp2_with (rw [HW0.out])
    try rw [HW0.out]
    refine (show Calls _ _ _ _ _ from HDN.out).mono ?_
    rintro e w' ⟨rfl, rfl⟩
    go_wp2_with fail
    refine (show Calls _ _ _ _ _ from HGT.out).mono ?_
    rintro e w1 ⟨rfl, hk1⟩
    have hb1 := (hk1.block w.heap.size trivial HZ0.out).trans HB0.out
    have HRES := res4 w w1 hb1 (HK0.out.trans hk1)
    obtain ⟨f0, f1, f2, f3, r0, r1, r2, r3⟩ := res4u w w1 hb1
    clear hb1 hk1
    obtain ⟨e0, e1, e2, e3, HK⟩ := HRES.out (.string ⟨#[]⟩) (.string ⟨#[]⟩) (.int .i64 0) (.bool false)
    have HKK := Lib.hid HK
    clear HK
    go_wp2_with fail
    exact bodyPost_ret (v := .tuple #[.agg #[.string ⟨#[]⟩, .string ⟨#[]⟩, .int .i64 0, .bool false], .bool false]) (by simp [results, Tryz.results53, go_sem, e0, e1, e2, e3]) rfl ⟨rfl, HKK.out⟩
  | some y =>
    obtain ⟨po, x⟩ := y
    obtain ⟨hmem, hkey, hgone⟩ := sp_mem hsp
    have hxm := hmay po x (List.mem_of_mem_drop hmem)
    have he : findE st k = .returned (.tuple #[.agg #[.string x.key, .string x.val, .int .i64 x.till, .bool x.gone], .bool true]) := by
      unfold findE
      rw [hat, hsp]
      rfl
    have hb2 : b = true := by rw [hbb, hsp]; rfl
    have hv2 : v = (po : Int) := by rw [hv, hsp]; rfl
    subst hb2
    subst hv2
    rw [he]
    have hrec : (po, x.bytes) ∈ lst.recs := by rw [hrecs]; exact List.mem_map.2 ⟨_, hmem, rfl⟩
    have HRD := Lib.hid (show ∀ w1, Kp w w1 → Calls Tryz.prog 73 #[.pointer (some ⟨lq, 0, none⟩), .int .i64 (po : Int)] w1 fun e w' => ∃ A n c, e = .returned (.tuple #[.slice A n c, .int .i64 0]) ∧ n = x.bytes.length ∧ n ≤ c ∧ c ≤ maxLen ∧ Row w' A (fun _ => True) (bcells x.bytes) ∧ Kp w1 w' from fun w1 hk1 => by
      refine (S.read w1 p lq F Fl s lst (hd.keep (hk1.mono fun _ _ _ => trivial)) (S.keep hl (hk1.mono fun _ _ _ => trivial)) hon hal (S.tk hT.1 hk1) (by rw [hpl, hsg]; exact hroom) po x.bytes hrec).mono ?_
      rintro e w' ⟨A, c, rfl, h1, h2, h3, -, h4⟩
      exact ⟨A, _, c, rfl, rfl, h1, h2, h3.mono fun _ _ _ => trivial, h4⟩)
    have HEN := Lib.hid (show ∀ w1, Kp w w1 → ∀ (A : Option Addr) (n c : Nat), Row w1 A (fun _ => True) (bcells x.bytes) → n = x.bytes.length → n ≤ c → c ≤ maxLen → _ from fun w1 (hk1 : Kp w w1) A n c hr hn h1 h2 => centry J w1 (J.tk hT.2.2 hk1) A n c x hxm hr hn h1 h2)
    clear hat hsp hbb hv hrecs hmay hl hon hal hpl hsg hget hd hr ha hroom hk0 hb0 hz0 hw0 he hmem hkey hxm hrec hgone
    go_enter Tryz.func53, Tryz.ntmps53
    go_wp2_with (rw [HW0.out])
    try rw [HW0.out]
    refine (show Calls _ _ _ _ _ from HDN.out).mono ?_
    rintro e w' ⟨rfl, rfl⟩
    go_wp2_with fail
    refine (show Calls _ _ _ _ _ from HGT.out).mono ?_
    rintro e w1 ⟨rfl, hk1⟩
    replace d0 := hk1.cell d0 trivial
    have HK1 := Lib.hid hk1
    clear hk1 d1
    go_wp2_with fail
    refine (show Calls _ _ _ _ _ from HRD.out w1 (HK0.out.trans HK1.out)).mono ?_
    rintro e w2 ⟨A, n, c, rfl, hn, h1, h2, h3, hk2⟩
    have HK2 := Lib.hid (HK1.out.trans hk2)
    have HE2 := Lib.hid (HEN.out w2 (HK0.out.trans HK2.out) A n c h3 hn h1 h2)
    clear hk2 hn h1 h2 h3 d0
    go_wp2_with fail
    refine (show Calls _ _ _ _ _ from HE2.out).mono ?_
    rintro e w3 ⟨rfl, hk3⟩
    have hk30 := HK2.out.trans hk3
    have hb1 := (hk30.block w.heap.size trivial HZ0.out).trans HB0.out
    have HRES := res4 w w3 hb1 (HK0.out.trans hk30)
    obtain ⟨f0, f1, f2, f3, r0, r1, r2, r3⟩ := res4u w w3 hb1
    clear hb1 hk3 hk30
    obtain ⟨e0, e1, e2, e3, HK⟩ := HRES.out (.string x.key) (.string x.val) (.int .i64 x.till) (.bool x.gone)
    have HKK := Lib.hid HK
    clear HK
    go_wp2_with fail
    exact bodyPost_ret (v := .tuple #[.agg #[.string x.key, .string x.val, .int .i64 x.till, .bool x.gone], .bool true]) (by simp [results, Tryz.results53, go_sem, e0, e1, e2, e3]) rfl ⟨rfl, HKK.out⟩
end Go.Proofs.YtoepgbpmcjnbmaaGreatDoor
end
/-
  THE PROGRAM's CACHE: Get.
-/
section
namespace Go.Proofs.YtoepgbpmcjnbmaaGreatDoor
open Go Go.RowKit Go.Joins
set_option maxRecDepth 100000 in
set_option maxHeartbeats 2000000 in
theorem cget (S : Slog2) (I : IndexOK) (J : ItemOK) (w : World) (hT : S.T w ∧ I.T w ∧ J.T w) (p q : Nat) (F Fs : Foot) (s : SDev) (st : FSt) (hd : DAt w p F s) (hr : flashRep S I w p q Fs st s) (ha : Apart F Fs) (hroom : st.place + 8 * st.segs ≤ s.now.length) (hage : st.age ≤ 30000) (k : ByteArray) (now : Int) (hk : k.size ≤ 1000000) (hn1 : -9223372036854775808 ≤ now) (hn2 : now < 9223372036854775808) :
    Calls Tryz.prog 27 #[.pointer (some ⟨q, 0, none⟩), .string k, .int .i64 now] w fun e w' => e = getE st k now ∧ Kp w w' := by
  have hmay : ∀ x, st.at_ k = some x → x.may = true := fun x hx => by
    obtain ⟨lq, iq, Fl, Fi, lo, lst, ix, hs, rfl, hc, hm, -⟩ := hr
    rw [hm.at_ k] at hx
    cases hsp : sp (hs.drop lst.gone) k with
    | none => rw [hsp] at hx; cases hx
    | some y =>
      obtain ⟨po, z⟩ := y
      rw [hsp] at hx
      cases hx
      exact hm.may po z (List.mem_of_mem_drop (sp_mem hsp).1)
  obtain ⟨w0, hw0⟩ : ∃ w0, w.alloc (.cells itZ 35) = w0 := ⟨_, rfl⟩
  have HW0 := Lib.hid (show w.alloc (.cells #[.string ⟨#[]⟩, .string ⟨#[]⟩, .int .i64 0, .bool false] 35) = w0 from hw0)
  have hb0 : w0.heap[w.heap.size]? = some (.cells itZ 35 (0, 0)) := by rw [← hw0]; exact heap_alloc_new w _
  have hk0 : Kp w w0 := by rw [← hw0]; exact (Keeps.refl _ w).alloc _
  have hz0 : w.heap.size < w0.heap.size := by rw [← hw0]; simp
  have HB0 := Lib.hid hb0
  have HK0 := Lib.hid hk0
  have HZ0 := Lib.hid hz0
  have hf := cfind S I J w0 ⟨S.tk hT.1 hk0, I.tk hT.2.1 hk0, J.tk hT.2.2 hk0⟩ p q F Fs s st (hd.keep (hk0.mono fun _ _ _ => trivial)) (frep_keep hr (hk0.mono fun _ _ _ => trivial)) ha hroom hage k hk
  have HJ := Lib.hid hT.2.2
  have HMAY := Lib.hid hmay
  unfold getE
  unfold findE at hf
  clear hd hr ha hroom hage hT hmay hw0 hb0 hk0 hz0
  cases hat : st.at_ k with
  | none =>
    rw [hat] at hf
    obtain ⟨z, hz⟩ : ∃ z : It, z = ⟨⟨#[]⟩, ⟨#[]⟩, 0, false⟩ := ⟨_, rfl⟩
    have HF := Lib.hid (show Calls Tryz.prog 53 #[.pointer (some ⟨q, 0, none⟩), .string k] w0 (fun e w' => e = .returned (.tuple #[.agg #[.string z.key, .string z.val, .int .i64 z.till, .bool z.gone], .bool false]) ∧ Kp w0 w') from by
      subst hz
      exact hf)
    clear hf hat hz
    simp only
    go_enter Tryz.func27, Tryz.ntmps27
    go_wp2_with (rw [HW0.out])
    try rw [HW0.out]
    refine (show Calls _ _ _ _ _ from HF.out).mono ?_
    rintro e w1 ⟨rfl, hk1⟩
    obtain ⟨w2, hw2⟩ : ∃ w2, w1.alloc (.cells #[.string z.key, .string z.val, .int .i64 z.till, .bool z.gone] 35) = w2 := ⟨_, rfl⟩
    have hk2 : Kp w1 w2 := by rw [← hw2]; exact (Keeps.refl _ w1).alloc _
    have hk12 := hk1.trans hk2
    have hb1 := (hk12.block w.heap.size trivial HZ0.out).trans HB0.out
    have HRES := res4 w w2 hb1 (HK0.out.trans hk12)
    obtain ⟨f0, f1, f2, f3, r0, r1, r2, r3⟩ := res4u w w2 hb1
    have HW2 := Lib.hid hw2
    clear hb1 hk1 hk2 hk12 hw2
    obtain ⟨e0, e1, e2, e3, HK⟩ := HRES.out (.string ⟨#[]⟩) (.string ⟨#[]⟩) (.int .i64 0) (.bool false)
    have HKK := Lib.hid HK
    clear HK
    go_wp2_with (rw [HW2.out])
    try rw [HW2.out]
    all_goals exact bodyPost_ret (v := .tuple #[.agg #[.string ⟨#[]⟩, .string ⟨#[]⟩, .int .i64 0, .bool false], .bool false]) (by simp [results, Tryz.results27, go_sem, e0, e1, e2, e3]) rfl ⟨rfl, HKK.out⟩
  | some x =>
    rw [hat] at hf
    have HF := Lib.hid hf
    have hxm := HMAY.out x hat
    have HLV := Lib.hid (show ∀ w1, Kp w w1 → _ from fun w1 (hk1 : Kp w w1) => J.live w1 x now (J.tk HJ.out hk1) (It.may_fits hxm) hn1 hn2)
    clear hf hat hxm
    simp only
    simp only at HF
    go_enter Tryz.func27, Tryz.ntmps27
    go_wp2_with (rw [HW0.out])
    try rw [HW0.out]
    refine (show Calls _ _ _ _ _ from HF.out).mono ?_
    rintro e w1 ⟨rfl, hk1⟩
    obtain ⟨w2, hw2⟩ : ∃ w2, w1.alloc (.cells #[.string x.key, .string x.val, .int .i64 x.till, .bool x.gone] 35) = w2 := ⟨_, rfl⟩
    have hk2 : Kp w1 w2 := by rw [← hw2]; exact (Keeps.refl _ w1).alloc _
    have hb2 : w2.heap[w1.heap.size]? = some (.cells #[.string x.key, .string x.val, .int .i64 x.till, .bool x.gone] 35 (0, 0)) := by rw [← hw2]; exact heap_alloc_new w1 _
    have HB2 := Lib.hid hb2
    have HK12 := Lib.hid (hk1.trans hk2)
    have x0 : w2.cell? ⟨w1.heap.size, 0, none⟩ = some (.string x.key) := (cell_of_block hb2 0).trans rfl
    have x1 : w2.cell? ⟨w1.heap.size, 1, none⟩ = some (.string x.val) := (cell_of_block hb2 1).trans rfl
    have x2 : w2.cell? ⟨w1.heap.size, 2, none⟩ = some (.int .i64 x.till) := (cell_of_block hb2 2).trans rfl
    have x3 : w2.cell? ⟨w1.heap.size, 3, none⟩ = some (.bool x.gone) := (cell_of_block hb2 3).trans rfl
    have HW2 := Lib.hid hw2
    have HLV2 := Lib.hid (HLV.out w2 (HK0.out.trans HK12.out))
    clear hk1 hk2 hw2 hb2
    go_wp2_with (rw [HW2.out])
    try rw [HW2.out]
    refine (show Calls _ _ _ _ _ from HLV2.out).mono ?_
    rintro e w3 ⟨rfl, hk3⟩
    have hk13 := HK12.out.trans hk3
    have hb1 := (hk13.block w.heap.size trivial HZ0.out).trans HB0.out
    have HRES := res4 w w3 hb1 (HK0.out.trans hk13)
    obtain ⟨f0, f1, f2, f3, r0, r1, r2, r3⟩ := res4u w w3 hb1
    replace x0 := hk3.cell x0 trivial
    replace x1 := hk3.cell x1 trivial
    replace x2 := hk3.cell x2 trivial
    replace x3 := hk3.cell x3 trivial
    clear hb1 hk3 hk13
    cases hlv : x.live now with
    | true =>
      obtain ⟨e0, e1, e2, e3, HK⟩ := HRES.out (.string x.key) (.string x.val) (.int .i64 x.till) (.bool x.gone)
      have HKK := Lib.hid HK
      clear HK
      go_wp2_with fail
      all_goals exact bodyPost_ret (v := .tuple #[.agg #[.string x.key, .string x.val, .int .i64 x.till, .bool x.gone], .bool true]) (by simp [results, Tryz.results27, go_sem, e0, e1, e2, e3]) rfl ⟨rfl, HKK.out⟩
    | false =>
      obtain ⟨e0, e1, e2, e3, HK⟩ := HRES.out (.string ⟨#[]⟩) (.string ⟨#[]⟩) (.int .i64 0) (.bool false)
      have HKK := Lib.hid HK
      clear HK
      go_wp2_with fail
      all_goals exact bodyPost_ret (v := .tuple #[.agg #[.string ⟨#[]⟩, .string ⟨#[]⟩, .int .i64 0, .bool false], .bool false]) (by simp [results, Tryz.results27, go_sem, e0, e1, e2, e3]) rfl ⟨rfl, HKK.out⟩
end Go.Proofs.YtoepgbpmcjnbmaaGreatDoor
end
/-
  THE PROGRAM's CACHE: Keys; what Between picks out of them.
-/
section
namespace Go.Proofs.YtoepgbpmcjnbmaaGreatDoor
open Go Go.RowKit Go.Joins
set_option maxRecDepth 100000 in
set_option maxHeartbeats 1000000 in
theorem ckeys (S : Slog2) (I : IndexOK) (w : World) (hT : I.T w) (p q : Nat) (Fs : Foot) (s : SDev) (st : FSt) (hr : flashRep S I w p q Fs st s) (hage : st.age ≤ 30000) :
    Calls Tryz.prog 21 #[.pointer (some ⟨q, 0, none⟩)] w fun e w' => ∃ (A : Option Addr) (c : Nat) (ks : List ByteArray), e = .returned (.slice A ks.length c) ∧ Rising ks ∧ (∀ k, k ∈ ks ↔ (st.at_ k).isSome = true) ∧ ks.length ≤ c ∧ c ≤ maxLen ∧ TextsAt w' A (fun b => w.heap.size ≤ b ∧ b < w'.heap.size) ks ∧ Kp w w' := by
  obtain ⟨lq, iq, Fl, Fi, lo, lst, ix, hs, rfl, hc, hm, hx⟩ := hr
  have c0 := hc.blk.c0
  have c1 := hc.blk.c1
  have HDN := Lib.hid (cdown w q lq c0)
  have HMEM := Lib.hid (show ∀ k, k ∈ ix.map (·.1) ↔ (st.at_ k).isSome = true from fun k => by
    rw [hm.at_ k]
    have h := hx.is k
    constructor
    · intro hk
      obtain ⟨a, ha, rfl⟩ := List.mem_map.1 hk
      have h2 := ixGet_of hx.nd (k := a.1) (p := a.2) ha
      rw [h2] at h
      cases hsp : sp (hs.drop lst.gone) a.1 with
      | none => rw [hsp] at h; cases h
      | some y => rfl
    · intro hk
      cases hsp : sp (hs.drop lst.gone) k with
      | none => rw [hsp] at hk; cases hk
      | some y =>
        rw [hsp] at h
        exact List.mem_map.2 ⟨_, ixGet_mem h, rfl⟩)
  have HKS := Lib.hid (I.keys w iq Fi ix hc.i hT (Nat.le_trans hx.len (by omega)))
  clear hc hm hx
  go_enter Tryz.func21, Tryz.ntmps21
  go_wp2_with fail
  refine (show Calls _ _ _ _ _ from HDN.out).mono ?_
  rintro e w' ⟨rfl, rfl⟩
  go_wp2_with fail
  refine (show Calls _ _ _ _ _ from HKS.out).mono ?_
  rintro e w1 ⟨A, c, ks, rfl, hp, hri, h1, h2, h3, h4⟩
  have hl : ix.length = ks.length := by have := hp.length_eq; rw [List.length_map] at this; exact this.symm
  rw [hl] at h1 ⊢
  have HFIN := Lib.hid (show ∃ (A' : Option Addr) (c' : Nat) (ks' : List ByteArray), Ending.returned (.slice A ks.length c) = .returned (.slice A' ks'.length c') ∧ Rising ks' ∧ (∀ k, k ∈ ks' ↔ (st.at_ k).isSome = true) ∧ ks'.length ≤ c' ∧ c' ≤ maxLen ∧ TextsAt w1 A' (fun b => w.heap.size ≤ b ∧ b < w1.heap.size) ks' ∧ Kp w w1 from
    ⟨A, c, ks, rfl, hri, fun k => by rw [hp.mem_iff]; exact HMEM.out k, h1, h2, h3, h4⟩)
  clear hl h1 h2 h3 h4 hp hri
  generalize ks.length = n at HFIN
  go_wp2_with fail
  go_ret
  exact HFIN.out
def picks (hash : ByteArray → Nat) (lo hi : Nat) (after k : ByteArray) : Bool := lessB after k && (decide (lo ≤ hash k) && decide (hash k ≤ hi))
def selF (st : FSt) (hash : ByteArray → Nat) (lo hi : Nat) (after : ByteArray) (ks : List ByteArray) : List It := ks.filterMap fun k => if picks hash lo hi after k then st.at_ k else none
section
variable {st : FSt} {hash : ByteArray → Nat} {lo hi : Nat} {after : ByteArray} {ks : List ByteArray}
theorem selF_next (j : Nat) (h : j < ks.length) : selF st hash lo hi after (ks.take (j + 1)) = selF st hash lo hi after (ks.take j) ++ (if picks hash lo hi after ks[j] then st.at_ ks[j] else none).toList := by
  rw [List.take_succ_eq_append_getElem h]
  unfold selF
  rw [List.filterMap_append]
  congr 1
theorem selF_len (ks : List ByteArray) : (selF st hash lo hi after ks).length ≤ ks.length := List.length_filterMap_le _ _
theorem selF_split (j : Nat) : selF st hash lo hi after ks = selF st hash lo hi after (ks.take j) ++ selF st hash lo hi after (ks.drop j) := by
  unfold selF
  rw [← List.filterMap_append, List.take_append_drop]
theorem selF_rise (hkey : ∀ k x, st.at_ k = some x → x.key = k) (hr : Rising ks) : Rising ((selF st hash lo hi after ks).map (·.key)) := by
  induction ks with
  | nil => exact List.Pairwise.nil
  | cons k ks ih =>
    have h := List.pairwise_cons.1 hr
    have i := ih h.2
    unfold selF
    rw [List.filterMap_cons]
    cases hp : (if picks hash lo hi after k then st.at_ k else none) with
    | none => exact i
    | some x =>
      show Rising (x.key :: (selF st hash lo hi after ks).map (·.key))
      have hx : x.key = k := by
        by_cases hpk : picks hash lo hi after k = true
        · rw [if_pos hpk] at hp; exact hkey k x hp
        · rw [if_neg hpk] at hp; cases hp
      refine List.pairwise_cons.2 ⟨fun y hy => ?_, i⟩
      obtain ⟨z, hz, rfl⟩ := List.mem_map.1 hy
      unfold selF at hz
      obtain ⟨k2, hk2, hz2⟩ := List.mem_filterMap.1 hz
      have hz3 : z.key = k2 := by
        by_cases hpk : picks hash lo hi after k2 = true
        · rw [if_pos hpk] at hz2; exact hkey k2 z hz2
        · rw [if_neg hpk] at hz2; cases hz2
      rw [hx, hz3]
      exact h.1 k2 hk2
theorem selF_mem (hkey : ∀ k x, st.at_ k = some x → x.key = k) (hm : ∀ k, k ∈ ks ↔ (st.at_ k).isSome = true) (x : It) : x ∈ selF st hash lo hi after ks ↔ st.at_ x.key = some x ∧ lo ≤ hash x.key ∧ hash x.key ≤ hi ∧ lessB after x.key = true := by
  unfold selF
  rw [List.mem_filterMap]
  constructor
  · rintro ⟨k, hk, hx⟩
    by_cases hpk : picks hash lo hi after k = true
    · rw [if_pos hpk] at hx
      have e := hkey k x hx
      subst e
      unfold picks at hpk
      simp only [Bool.and_eq_true, decide_eq_true_eq] at hpk
      exact ⟨hx, hpk.2.1, hpk.2.2, hpk.1⟩
    · rw [if_neg hpk] at hx; cases hx
  · rintro ⟨h1, h2, h3, h4⟩
    refine ⟨x.key, (hm _).2 (by rw [h1]; rfl), ?_⟩
    rw [if_pos]
    · exact h1
    · unfold picks
      simp only [Bool.and_eq_true, decide_eq_true_eq]
      exact ⟨h4, h2, h3⟩
theorem at_key {k : ByteArray} {x : It} (h : st.at_ k = some x) : x.key = k := by
  unfold FSt.at_ fLast at h
  cases hf : (st.ents.drop st.gone).reverse.find? (isKF k) with
  | none => rw [hf] at h; cases h
  | some e =>
    rw [hf] at h
    have hk := isKF_iff.1 (List.find?_some hf)
    change (if e.x.gone then none else some e.x) = some x at h
    by_cases hg : e.x.gone = true
    · rw [if_pos hg] at h; cases h
    · rw [if_neg hg] at h; cases h; exact hk
end
end Go.Proofs.YtoepgbpmcjnbmaaGreatDoor
end
/-
  THE PROGRAM's CACHE: Between.
-/
section
namespace Go.Proofs.YtoepgbpmcjnbmaaGreatDoor
open Go Go.RowKit Go.Joins
theorem at_may {S : Slog2} {I : IndexOK} {w : World} {p q : Nat} {Fs : Foot} {s : SDev} {st : FSt} (hr : flashRep S I w p q Fs st s) {k : ByteArray} {x : It} (hx : st.at_ k = some x) : x.may = true := by
  obtain ⟨lq, iq, Fl, Fi, lo, lst, ix, hs, rfl, hc, hm, -⟩ := hr
  rw [hm.at_ k] at hx
  cases hsp : sp (hs.drop lst.gone) k with
  | none => rw [hsp] at hx; cases hx
  | some y =>
    obtain ⟨po, z⟩ := y
    rw [hsp] at hx
    cases hx
    exact hm.may po z (List.mem_of_mem_drop (sp_mem hsp).1)
theorem own_fit {w : World} {base n size c : Nat} {A : Option Addr} {e : TypeId} {xs : List Value} (h : w.ownsRow base e size (.slice A n c) n xs) : n ≤ c ∧ c ≤ maxLen := by
  rcases h.2 with ⟨h', h0⟩ | ⟨g', cap', cur, h', _, _, h1, h2, _⟩
  · injection h' with ha hb hc
    subst hb hc
    exact ⟨Nat.le_refl _, Nat.zero_le _⟩
  · injection h' with ha hb hc
    subst hc
    exact ⟨h1, h2⟩
theorem str_leq {a b : ByteArray} (h : lessB b a = true) : Op.bytesLess a.toList b.toList = false ∧ (a.toList == b.toList) = false := by
  constructor
  · rw [ByteArray.toList_eq, ByteArray.toList_eq]
    show lessB a b = false
    cases hh : lessB a b with
    | false => rfl
    | true =>
      have := lessB_trans h hh
      rw [lessB_irrefl] at this
      cases this
  · rw [str_same]
    refine decide_eq_false fun e => ?_
    subst e
    rw [lessB_irrefl] at h
    cases h
theorem str_leq' {a b : ByteArray} (h : lessB b a = false) : Op.bytesLess a.toList b.toList = true ∨ (Op.bytesLess a.toList b.toList = false ∧ (a.toList == b.toList) = true) := by
  by_cases e : a = b
  · subst e
    refine .inr ⟨?_, by simp⟩
    rw [ByteArray.toList_eq]
    exact lessB_irrefl a
  · left
    rw [ByteArray.toList_eq, ByteArray.toList_eq]
    exact lessB_total h fun h => e h.symm
theorem str_leqB (a b : ByteArray) : (Op.bytesLess a.toList b.toList || a.toList == b.toList) = !lessB b a := by
  cases h : lessB b a with
  | true => rw [(str_leq h).1, (str_leq h).2]; rfl
  | false =>
    rcases str_leq' h with h1 | ⟨h1, h2⟩
    · rw [h1]; rfl
    · rw [h1, h2]; rfl
theorem run_leq (a b : ByteArray) (c : Bool) (h : lessB b a = c) (w : World) : (binOp .leq 9 (.string a) (.string b)).run Tryz.prog w = .ok (.bool (!c)) w := by
  show Result.ok (Value.bool (Op.bytesLess a.toList b.toList || a.toList == b.toList)) w = _
  rw [str_leqB, h]
def BetPost (w : World) (st : FSt) (lo hi : Nat) (after : ByteArray) (n : Nat) (e : Ending) (w' : World) : Prop :=
  ∃ (A : Option Addr) (c : Nat) (l all : List It), e = .returned (.slice A l.length c) ∧ l = all.take n ∧ Rising (all.map (·.key)) ∧
    (∀ x, x ∈ all ↔ st.at_ x.key = some x ∧ lo ≤ hashN x.key ∧ hashN x.key ≤ hi ∧ lessB after x.key = true) ∧ l.length ≤ c ∧ c ≤ maxLen ∧ ItsAt w' A (fun b => w.heap.size ≤ b ∧ b < w'.heap.size) l ∧ Kp w w'
set_option maxRecDepth 100000 in
set_option maxHeartbeats 4000000 in
theorem cbetween (S : Slog2) (I : IndexOK) (J : ItemOK) (w : World) (hT : S.T w ∧ I.T w ∧ J.T w) (p q : Nat) (F Fs : Foot) (s : SDev) (st : FSt) (hd : DAt w p F s) (hr : flashRep S I w p q Fs st s) (ha : Apart F Fs) (hroom : st.place + 8 * st.segs ≤ s.now.length) (hage : st.age ≤ 30000)
    (lo hi : Nat) (after : ByteArray) (n : Nat) (hlo : lo < 18446744073709551616) (hhi : hi < 18446744073709551616) (_haf : after.size ≤ 1000000) (hn : n ≤ 1000000) :
    Calls Tryz.prog 25 #[.pointer (some ⟨q, 0, none⟩), .int .u64 lo, .int .u64 hi, .string after, .int .i64 n] w (BetPost w st lo hi after n) := by
  have HKS := Lib.hid (ckeys S I w hT.2.1 p q Fs s st hr hage)
  have HFD := Lib.hid (show ∀ w1, Kp w w1 → ∀ k : ByteArray, k.size ≤ 1000000 → _ from fun w1 (hk1 : Kp w w1) k hk => cfind S I J w1 ⟨S.tk hT.1 hk1, I.tk hT.2.1 hk1, J.tk hT.2.2 hk1⟩ p q F Fs s st (hd.keep (hk1.mono fun _ _ _ => trivial)) (frep_keep hr (hk1.mono fun _ _ _ => trivial)) ha hroom hage k hk)
  have HMY := Lib.hid (show ∀ (k : ByteArray) (x : It), st.at_ k = some x → x.may = true from fun k x hx => at_may hr hx)
  clear hd hr ha hroom hage hT
  go_enter Tryz.func25, Tryz.ntmps25
  go_wp2_with fail
  refine (show Calls _ _ _ _ _ from HKS.out).mono ?_
  rintro e w1 ⟨A, c, ks, rfl, hri, hmem, hkl, hcm, hrow, hk1⟩
  have HRI := Lib.hid hri
  have HMEM := Lib.hid hmem
  have HROW := Lib.hid hrow
  have HK1 := Lib.hid hk1
  unfold maxLen at hcm
  clear hri hmem hrow hk1
  have hn0 : n ≤ 1000000 := hn
  obtain ⟨m, hm⟩ : ∃ m, ks.length = m := ⟨_, rfl⟩
  have HM := Lib.hid hm
  rw [hm] at hkl ⊢
  clear hm
  have HEND := Lib.hid (show ∀ (j : Nat) (l : List It) (v : Value) (wr : World), j ≤ m → (l.length = n ∨ j = m) → l.length ≤ n → l = selF st hashN lo hi after (ks.take j) → wr.ownsRow w1.heap.size 35 4 v l.length (itCells l) → Kp w1 wr → BetPost w st lo hi after n (.returned v) wr from by
    intro j l v wr hj hor hln hl ho hk
    have hsz := HK1.out.size
    have hall : l = (selF st hashN lo hi after ks).take n := by
      rw [selF_split (ks := ks) j, ← hl]
      rcases hor with h1 | h1
      · rw [List.take_append_of_le_length (by omega), List.take_of_length_le (by omega)]
      · have : ks.drop j = [] := List.drop_eq_nil_of_le (by rw [HM.out]; omega)
        rw [this]
        show l = (l ++ []).take n
        rw [List.append_nil, List.take_of_length_le hln]
    obtain ⟨A', c', rfl⟩ := own_form4 ho
    have hfit := own_fit ho
    exact ⟨A', c', l, selF st hashN lo hi after ks, rfl, hall, selF_rise (fun k x => at_key) HRI.out, selF_mem (fun k x => at_key) HMEM.out, hfit.1, hfit.2, (ItsAt.of_own ho rfl).mono fun b _ hb => ⟨by omega, hb.2⟩, HK1.out.trans hk⟩)
  go_wp2_with fail
  go_loopw [11, 19] (fun v i wr => ∃ (j : Nat) (l : List It), j ≤ m ∧ i = .int .i64 j ∧ RowKit.Hid (l = selF st hashN lo hi after (ks.take j)) ∧ l.length ≤ n ∧ RowKit.Hid (wr.ownsRow w1.heap.size 35 4 v l.length (itCells l)) ∧ RowKit.Hid (Kp w1 wr)) (fun _ i _ => m - (intOf i).toNat)
  case atStart => exact ⟨0, [], Nat.zero_le _, rfl, Lib.hid rfl, Nat.zero_le _, Lib.hid (World.ownsRow_nil _ _ _ _), Lib.hid (Keeps.refl _ _)⟩
  case round =>
    obtain ⟨j, l, hj, rfl, hl, hln, hown, hkp⟩ := hrel
    obtain ⟨A2, c2, rfl⟩ := own_form4 hown.out
    obtain ⟨t, ht⟩ : ∃ t, l.length = t := ⟨_, rfl⟩
    have HTL := Lib.hid ht
    have hown' := hown.out
    rw [ht] at hown' hln ⊢
    have HOWN := Lib.hid hown'
    have hcap := own_fit hown'
    clear hown hown' ht
    by_cases hlt : j < m
    · have t1 : decide ((j : Int) < (m : Int)) = true := by simp; omega
      have t1' : decide (j < m) = true := by simp; omega
      have hjk : j < ks.length := by rw [HM.out]; exact hlt
      obtain ⟨b, o, rfl, -, hcell⟩ := (HROW.out.keep (hkp.out.mono fun _ _ _ => trivial)).at_ (k := j) (by simpa using hjk)
      rw [List.getElem_map] at hcell
      by_cases hful : n ≤ t
      · have t2 : decide ((n : Int) ≤ (t : Int)) = true := by simp; omega
        have t2' : decide (n ≤ t) = true := by simp; omega
        have HE := Lib.hid (HEND.out j l _ wr hj (.inl (by rw [HTL.out]; omega)) (by rw [HTL.out]; exact hln) hl.out (by rw [HTL.out]; exact HOWN.out) hkp.out)
        generalize ks[j] = key at hcell
        go_wp2_with fail
        go_ret
        exact HE.out
      · have t2 : decide ((n : Int) ≤ (t : Int)) = false := by simp; omega
        have t2' : decide (n ≤ t) = false := by simp; omega
        have HSOME := Lib.hid ((HMEM.out ks[j]).1 (List.getElem_mem hjk))
        have HNX := Lib.hid (selF_next (st := st) (hash := hashN) (lo := lo) (hi := hi) (after := after) j hjk)
        have HKZ := Lib.hid (show ks[j].size ≤ 1000000 from by
          obtain ⟨x, hx⟩ := Option.isSome_iff_exists.1 HSOME.out
          have h1 := It.may_is (HMY.out _ x hx)
          rw [at_key hx] at h1
          omega)
        generalize ks[j] = key at hcell HSOME HNX HKZ
        have HSTAY := Lib.hid (show picks hashN lo hi after key = false → l = selF st hashN lo hi after (ks.take (j + 1)) from fun h => by
          rw [HNX.out, h, ← hl.out]
          simp)
        cases hless : lessB after key with
        | false =>
          have HS := Lib.hid (HSTAY.out (by unfold picks; rw [hless]; rfl))
          have hb1 := run_leq key after false hless
          rw [Bool.not_false] at hb1
          clear hless
          go_wp2_with fail
          go_roundw
          case rel => exact ⟨j + 1, l, by omega, by go_num, HS, by rw [HTL.out]; exact hln, Lib.hid (by rw [HTL.out]; exact HOWN.out), hkp⟩
          case measure => simp [intOf]; omega
        | true =>
          have hb1 := run_leq key after true hless
          rw [Bool.not_true] at hb1
          have HLS := Lib.hid hless
          have hh := hashN_lt key
          have HHS := Lib.hid (hash_any key wr.heap.size (wr.alloc (.cells #[.string key] 9)) HKZ.out ((cell_of_block (heap_alloc_new wr _) 0).trans rfl))
          have HWI := Lib.hid (cwithin (wr.alloc (.cells #[.string key] 9)) (hashN key) lo hi hh hlo hhi)
          have HFDK := Lib.hid (HFD.out (wr.alloc (.cells #[.string key] 9)) ((HK1.out.trans hkp.out).alloc _) key HKZ.out)
          clear hless hh
          go_wp2_with fail
          refine (show Calls _ _ _ _ _ from HHS.out).mono ?_
          rintro e w2 ⟨rfl, rfl⟩
          go_wp2_with fail
          refine (show Calls _ _ _ _ _ from HWI.out).mono ?_
          rintro e w2 ⟨rfl, rfl⟩
          cases hin : (decide (lo ≤ hashN key) && decide (hashN key ≤ hi)) with
          | false =>
            have HS := Lib.hid (HSTAY.out (by unfold picks; rw [HLS.out, hin]; rfl))
            have HKW := Lib.hid (hkp.out.alloc (.cells #[.string key] 9))
            have HOW := Lib.hid (HOWN.out.alloc (.cells #[.string key] 9))
            clear hin
            go_wp2_with fail
            go_roundw
            case rel => exact ⟨j + 1, l, by omega, by go_num, HS, by rw [HTL.out]; exact hln, Lib.hid (by rw [HTL.out]; exact HOW.out), HKW⟩
            case measure => simp [intOf]; omega
          | true =>
            obtain ⟨x, hx⟩ := Option.isSome_iff_exists.1 HSOME.out
            have HS := Lib.hid (show l ++ [x] = selF st hashN lo hi after (ks.take (j + 1)) from by
              rw [HNX.out, ← hl.out]
              have : picks hashN lo hi after key = true := by unfold picks; rw [HLS.out, hin]; rfl
              rw [if_pos this, hx]
              rfl)
            have hfd := HFDK.out
            unfold findE at hfd
            rw [hx] at hfd
            have HFX := Lib.hid hfd
            clear hfd hin hx
            simp only at HFX
            go_wp2_with fail
            refine (show Calls _ _ _ _ _ from HFX.out).mono ?_
            rintro e w3 ⟨rfl, hk3⟩
            have hkw := (hkp.out.alloc (.cells #[.string key] 9)).trans hk3
            have HK3 := Lib.hid hkw
            have HOW := Lib.hid (hk3.own (HOWN.out.alloc (.cells #[.string key] 9)) fun _ _ => trivial)
            have hsrc := src_item (w3.alloc (.cells #[.string x.key, .string x.val, .int .i64 x.till, .bool x.gone] 35)) x
            rw [show (w3.alloc (.cells #[.string x.key, .string x.val, .int .i64 x.till, .bool x.gone] 35)).heap.size = w3.heap.size + 1 by simp] at hsrc
            have HSRC := Lib.hid hsrc
            have hsz3 := HK3.out.size
            clear hk3 hkw hsrc
            go_wp2_with (at_builtin; refine item_elem.list_append rfl (.tmp 46) (.tmp 48) _ rfl rfl ((HOW.out.alloc _).alloc _) rfl HSRC.out ?c3 ?c4 ?c5 ?_)
            case c3 => unfold maxLen; omega
            case c4 => omega
            case c5 => simp; omega
            intro v3 w4 ho4 hg4 hb4
            have hk4 : Kp w1 w4 := ((HK3.out.alloc _).alloc _).grown hg4 fun j hj => (HOW.out.lt j hj).1
            have HK4 := Lib.hid hk4
            have HO4 := Lib.hid (show w4.ownsRow w1.heap.size 35 4 v3 (l ++ [x]).length (itCells (l ++ [x])) from by
              rw [itCells_snoc, List.length_append, HTL.out]
              exact ho4)
            have HLN := Lib.hid (show (l ++ [x]).length ≤ n from by rw [List.length_append, HTL.out]; simp only [List.length_cons, List.length_nil]; omega)
            clear hk4 ho4 hg4 hb4 HSRC HOW HK3
            go_wp2_with fail
            go_roundw
            case rel => exact ⟨j + 1, l ++ [x], by omega, by go_num, HS, HLN.out, HO4, HK4⟩
            case measure => simp [intOf]; omega
    · have t1 : decide ((j : Int) < (m : Int)) = false := by simp; omega
      have t1' : decide (j < m) = false := by simp; omega
      have HE := Lib.hid (HEND.out j l _ wr hj (.inr (by omega)) (by rw [HTL.out]; exact hln) hl.out (by rw [HTL.out]; exact HOWN.out) hkp.out)
      clear hlt
      go_wp2_with fail
      go_ret
      exact HE.out
end Go.Proofs.YtoepgbpmcjnbmaaGreatDoor
end
/-
  THE PROGRAM's CACHE: Open.
-/
section
namespace Go.Proofs.YtoepgbpmcjnbmaaGreatDoor
open Go Go.RowKit Go.Joins
structure Lt (S : Slog2) (I : IndexOK) (w wa wb wr : World) (p q lq : Nat) (Fl : Foot) (lst : LSt) (s : SDev) (l : List FRec) (j : Nat) : Prop where
  ex : ∃ (iq : Nat) (Fi : Foot) (ix : IxSt), CAt S I wr p q lq iq Fl Fi 1 lst ix s ∧ IxSays ix (l.take j) j ∧ (∀ b, Fi.all b → w.heap.size ≤ b) ∧ ∀ b, Fi.all b → b < wa.heap.size ∨ wb.heap.size ≤ b
  kp : Kp w wr
  sz : wb.heap.size ≤ wr.heap.size
section
variable {S : Slog2} {I : IndexOK} {w wa wb wr w2 w3 : World} {p q lq : Nat} {Fl : Foot} {lst : LSt} {s : SDev} {l : List FRec} {j : Nat}
theorem Lt.keep (h : Lt S I w wa wb wr p q lq Fl lst s l j) (hk : Kp wr w2) : Lt S I w wa wb w2 p q lq Fl lst s l j := by
  obtain ⟨iq, Fi, ix, hc, hx, h1, h2⟩ := h.ex
  exact ⟨⟨iq, Fi, ix, hc.kp hk, hx, h1, h2⟩, h.kp.trans hk, Nat.le_trans h.sz hk.size⟩
theorem Lt.step (J : ItemOK) (hIT : I.T w) (hJT : J.T w) (hq : w.heap.size ≤ q) (hqa : q < wa.heap.size) (h : Lt S I w wa wb wr p q lq Fl lst s l j) (hj : j < l.length) (hjs : j ≤ 32768) (hm : ∀ x, l[j].2 = some x → x.may = true) (hpo : l[j].1 < 9223372036854775808) (A : Option Addr) (m c : Nat) (hr : Row wr A (fun _ => True) (bcells (bodyO l[j].2))) (hml : m = (bodyO l[j].2).length) (hmc : m ≤ c) (hcm : c ≤ maxLen) :
    Calls Tryz.prog 34 #[.pointer (some ⟨q, 0, none⟩), .int .i64 (l[j].1 : Int), .slice A m c] wr fun e w' => e = .returned (.tuple #[]) ∧ Lt S I w wa wb w' p q lq Fl lst s l (j + 1) ∧ Keeps (fun b => wa.heap.size ≤ b ∧ b < wb.heap.size) wr w' := by
  obtain ⟨iq, Fi, ix, hc, hx, h1, h2⟩ := h.ex
  have hsz := h.sz
  have hsz2 := h.kp.size
  refine (clearn S I J w wr hIT (J.tk hJT h.kp) p q lq iq Fl Fi 1 lst ix s hc h.kp h1 (l.take j) j hx hjs l[j] hm hpo A m c hr hml hmc hcm).mono ?_
  rintro e w' ⟨rfl, iq', Fi', ix', hc', hx', hl⟩
  have hsz' := hl.k.size
  have all' : ∀ b, Fi'.all b → Fi.all b ∨ wr.heap.size ≤ b := fun b hb => by
    rcases hb with hb | hb
    · rcases hl.m b hb with h1 | h1
      · exact .inl (.inl h1)
      · exact .inr h1
    · exact hl.i b hb
  refine ⟨rfl, ⟨⟨iq', Fi', ix', hc', ?_, fun b hb => ?_, fun b hb => ?_⟩, ⟨hl.k.os.trans h.kp.os, hl.k.tape.trans h.kp.tape, hl.k.output.trans h.kp.output, Nat.le_trans hsz2 hsz', fun b _ hb => ?_⟩, Nat.le_trans hsz hsz'⟩, hl.k.mono fun b _ hb => ⟨fun e => by omega, fun hm => ?_⟩⟩
  · rw [List.take_succ_eq_append_getElem hj]; exact hx'
  · rcases all' b hb with h3 | h3
    · exact h1 b h3
    · omega
  · rcases all' b hb with h3 | h3
    · exact h2 b h3
    · omega
  · exact (hl.k.block b ⟨fun e => by omega, fun hm => by have := h1 b (.inl hm); omega⟩ (Nat.lt_of_lt_of_le hb hsz2)).trans (h.kp.block b trivial hb)
  · rcases h2 b (.inl hm) with h3 | h3
    · omega
    · omega
end
def FOpenPost (S : Slog2) (I : IndexOK) (w : World) (p : Nat) (s : SDev) (st : FSt) (e : Ending) (w' : World) : Prop :=
  ∃ (q : Nat) (Fs : Foot), e = .returned (.tuple #[.pointer (some ⟨q, 0, none⟩), .int .i64 0]) ∧ flashRep S I w' p q Fs st s ∧ (∀ b, Fs.all b → w.heap.size ≤ b) ∧ Kp w w'
set_option maxRecDepth 100000 in
set_option maxHeartbeats 2000000 in
theorem copen (S : Slog2) (I : IndexOK) (J : ItemOK) (w : World) (hT : S.T w ∧ I.T w ∧ J.T w) (p : Nat) (F : Foot) (s : SDev) (st : FSt) (hd : DAt w p F s) (i n : Nat) (hroom : st.place + 8 * st.segs ≤ s.now.length) (hage : st.age ≤ 30000)
    (hop : Calls Tryz.prog 31 #[.pointer (some ⟨p, 0, none⟩), .int .i64 i, .int .i64 n] w fun e w' => ∃ (lq : Nat) (Fl : Foot) (lst : LSt) (hs : List FRec), e = .returned (.tuple #[.pointer (some ⟨lq, 0, none⟩), .int .i64 0]) ∧ S.rep w' lq Fl lst s ∧ lst.dev = p ∧ FM st lst hs ∧ (∀ b, Fl.all b → w.heap.size ≤ b) ∧ Kp w w') :
    Calls Tryz.prog 11 #[.pointer (some ⟨p, 0, none⟩), .int .i64 i, .int .i64 n] w (FOpenPost S I w p s st) := by
  have HOP := Lib.hid hop
  have HD := Lib.hid hd
  clear hop hd
  go_enter Tryz.func11, Tryz.ntmps11
  go_wp2_with fail
  refine (show Calls _ _ _ _ _ from HOP.out).mono ?_
  rintro e w1 ⟨lq, Fl, lst, hs, rfl, hrep, hon, hm, hFl, hk1⟩
  have HNEW := Lib.hid (I.new w1 (I.tk hT.2.1 hk1))
  have HREP := Lib.hid hrep
  have HM := Lib.hid hm
  have HFL := Lib.hid hFl
  have HK1 := Lib.hid hk1
  have HON := Lib.hid hon
  clear hrep hm hFl hk1 hon
  go_wp2_with fail
  refine (show Calls _ _ _ _ _ from HNEW.out).mono ?_
  rintro e w2 ⟨iq, Fi, rfl, hi, hFi, hk2⟩
  have HI := Lib.hid hi
  have HFI := Lib.hid hFi
  have HK2 := Lib.hid hk2
  clear hi hFi hk2
  go_wp2_with fail
  obtain ⟨wa, hwa⟩ : ∃ wa, w2.alloc (.cells #[.pointer (some ⟨lq, 0, none⟩), .pointer (some ⟨iq, 0, none⟩), .int .i64 1] 75) = wa := ⟨_, rfl⟩
  have hba : CBlk wa w2.heap.size lq iq 1 := by rw [← hwa]; exact heap_alloc_new w2 _
  have hka : Kp w2 wa := by rw [← hwa]; exact (Keeps.refl _ w2).alloc _
  have hza : wa.heap.size = w2.heap.size + 1 := by rw [← hwa]; simp
  have hz1 := HK1.out.size
  have hz2 := HK2.out.size
  have hk2a := HK2.out.trans hka
  have HWA := Lib.hid hwa
  have HALL := Lib.hid (S.all2 wa p lq F Fl s lst (HD.out.keep ((HK1.out.trans hk2a).mono fun _ _ _ => trivial)) (S.keep HREP.out (hk2a.mono fun _ _ _ => trivial)) HON.out (S.tk hT.1 (HK1.out.trans hk2a)) (by rw [HM.out.place, HM.out.segs]; exact hroom))
  have hL0 := S.lt HREP.out
  have HC0 := Lib.hid (show CAt S I wa p w2.heap.size lq iq Fl Fi 1 lst [] s from
    ⟨hba, S.keep HREP.out (hk2a.mono fun _ _ _ => trivial), I.keep HI.out (hka.mono fun _ _ _ => trivial), HON.out, ⟨fun b hb hf => by have := HFI.out b hf; have := hL0 b (.inl hb); omega, fun b hb hf => by have := HFI.out b (.inl hb); have := hL0 b hf; omega⟩, fun hf => by have := hL0 _ hf; omega, fun hf => by have := I.lt HI.out _ hf; omega⟩)
  have hiz := fun b hb => I.lt HI.out b hb
  have HQ := Lib.hid (show w.heap.size ≤ w2.heap.size ∧ w2.heap.size < wa.heap.size from ⟨by omega, by omega⟩)
  have HFI2 := Lib.hid (show ∀ b, Fi.all b → w.heap.size ≤ b ∧ b < wa.heap.size from fun b hb => ⟨by have := HFI.out b hb; omega, by have := hiz b hb; omega⟩)
  have HKA := Lib.hid (HK1.out.trans hk2a)
  have HPOS := Lib.hid (show ∀ a ∈ hs, a.1 < 9223372036854775808 from fun a ha => by
    have hok := S.wf HREP.out
    have : a.1 ∈ hs.map (·.1) := List.mem_map.2 ⟨a, ha, rfl⟩
    rw [← HM.out.pos] at this
    obtain ⟨r, hr, e⟩ := List.mem_map.1 this
    have h1 := hok.next.2 r hr
    have h2 := hok.small
    rw [← e]
    omega)
  obtain ⟨L, hL⟩ : ∃ L, hs.drop lst.gone = L := ⟨_, rfl⟩
  have HL := Lib.hid hL
  have HRC := Lib.hid (show lst.recs = L.map frk from by rw [HM.out.recs, hL])
  have HLM := Lib.hid (show L.length ≤ st.age from by
    have h1 := HM.out.len
    have h2 := HM.out.age
    rw [← hL, List.length_drop]
    omega)
  have HLS := Lib.hid (show ∀ a ∈ L, a ∈ hs from fun a ha => by rw [← hL] at ha; exact List.mem_of_mem_drop ha)
  clear hwa hba hka hza hz1 hz2 hk2a hL0 hiz hL HK1 HK2 HI HFI
  go_wp2_with (rw [HWA.out])
  try rw [HWA.out]
  refine (show Calls _ _ _ _ _ from HALL.out).mono ?_
  rintro e wb ⟨A, c, rfl, hmc, hcm, hrc, hkb⟩
  rw [HRC.out] at hrc
  obtain ⟨m, hlm⟩ : ∃ m, lst.recs.length = m := ⟨_, rfl⟩
  rw [hlm] at hmc ⊢
  have hLm : L.length = m := by rw [← hlm, HRC.out, List.length_map]
  have HLEN := Lib.hid hLm
  have HKB := Lib.hid hkb
  have HREC := Lib.hid (show ∀ (j : Nat) (hj : j < L.length), ∃ b o, A = some ⟨b, o, none⟩ ∧ ∀ wr, Keeps (fun b => wa.heap.size ≤ b ∧ b < wb.heap.size) wb wr → wr.cell? ⟨b, o + j * 2, none⟩ = some (.int .i64 ((L[j].1 : Nat) : Int)) ∧ ∃ B mm c, wr.cell? ⟨b, o + j * 2 + 1, none⟩ = some (.slice B mm c) ∧ mm = (bodyO L[j].2).length ∧ mm ≤ c ∧ c ≤ maxLen ∧ Row wr B (fun _ => True) (bcells (bodyO L[j].2)) from fun j hj => by
    have hne : L.map frk ≠ [] := fun e => by have := congrArg List.length e; simp at this; rw [this] at hj; simp at hj
    obtain ⟨b, o, e, hG, hc⟩ := hrc hne
    refine ⟨b, o, e, fun wr hk => ?_⟩
    obtain ⟨c0, B, cc, c1, h1, h2, h3⟩ := hc j (by rw [List.length_map]; exact hj)
    rw [List.getElem_map] at c0 c1 h1 h3
    exact ⟨hk.cell c0 hG, B, _, cc, hk.cell c1 hG, rfl, h1, h2, (h3.keep hk).mono fun _ _ _ => trivial⟩)
  have hmage : m ≤ 30000 := by have := HLM.out; omega
  unfold maxLen at hcm
  clear hlm hLm hrc hkb
  have HST := Lib.hid (show Lt S I w wa wb wb p w2.heap.size lq Fl lst s L 0 from
    ⟨⟨iq, Fi, [], HC0.out.kp HKB.out, IxSays.nil, fun b hb => (HFI2.out b hb).1, fun b hb => .inl (HFI2.out b hb).2⟩, HKA.out.trans HKB.out, Nat.le_refl _⟩)
  have HEND := Lib.hid (show ∀ wr, Lt S I w wa wb wr p w2.heap.size lq Fl lst s L m → FOpenPost S I w p s st (.returned (.tuple #[.pointer (some ⟨w2.heap.size, 0, none⟩), .int .i64 0])) wr from fun wr h => by
    obtain ⟨iq', Fi', ix', hc, hx, h1, h2⟩ := h.ex
    rw [List.take_of_length_le (by rw [HLEN.out]; exact Nat.le_refl _), ← HL.out] at hx
    exact ⟨w2.heap.size, cfoot w2.heap.size Fl Fi', rfl, ⟨lq, iq', Fl, Fi', 1, lst, ix', hs, rfl, hc, HM.out, hx.more (by rw [← HLEN.out]; exact HLM.out)⟩, fun b hb => by
      rcases cfoot_all.1 hb with rfl | hb | hb
      · exact HQ.out.1
      · exact HFL.out b hb
      · exact h1 b hb, h.kp⟩)
  have HMAY := Lib.hid (show ∀ (j : Nat) (hj : j < L.length) x, L[j].2 = some x → x.may = true from fun j hj x hx => HM.out.may L[j].1 x (HLS.out _ (by rw [← hx]; exact List.getElem_mem hj)))
  have HPO := Lib.hid (show ∀ (j : Nat) (hj : j < L.length), L[j].1 < 9223372036854775808 from fun j hj => HPOS.out _ (HLS.out _ (List.getElem_mem hj)))
  clear HALL HC0 HFI2 HKA HPOS HRC HLS HREP HFL HNEW HOP
  obtain ⟨q, hq⟩ : ∃ q, w2.heap.size = q := ⟨_, rfl⟩
  rw [hq] at HST HEND HQ ⊢
  clear hq
  go_wp2_with fail
  go_loopw [30] (fun i wr => ∃ j, j ≤ m ∧ i = .int .i64 j ∧ RowKit.Hid (Lt S I w wa wb wr p q lq Fl lst s L j) ∧ RowKit.Hid (Keeps (fun b => wa.heap.size ≤ b ∧ b < wb.heap.size) wb wr)) (fun i _ => m - (intOf i).toNat)
  case atStart => exact ⟨0, Nat.zero_le _, rfl, HST, Lib.hid (Keeps.refl _ _)⟩
  case round =>
    obtain ⟨j, hj, rfl, hlt, hkg⟩ := hrel
    by_cases hjm : j < m
    · have t1 : decide ((j : Int) < (m : Int)) = true := by simp; omega
      have hjl : j < L.length := by rw [HLEN.out]; exact hjm
      obtain ⟨b, o, rfl, hrow⟩ := HREC.out j hjl
      obtain ⟨c0, B, mm, cc, c1, hmm, hmc2, hcc2, hr⟩ := hrow wr hkg.out
      have HKW := Lib.hid (show Kp wr (wr.alloc (.cells #[.int .i64 ((L[j].1 : Nat) : Int), .slice B mm cc] 80)) from (Keeps.refl _ wr).alloc _)
      have HLN := Lib.hid ((hlt.out.keep HKW.out).step J hT.2.1 hT.2.2 HQ.out.1 HQ.out.2 hjl (by omega) (HMAY.out j hjl) (HPO.out j hjl) B mm cc (hr.keep HKW.out) hmm hmc2 hcc2)
      clear hmm hmc2 hcc2 hr hrow
      generalize L[j].1 = po at c0 HKW HLN
      go_wp2_with fail
      refine (show Calls _ _ _ _ _ from HLN.out).mono ?_
      rintro e w4 ⟨rfl, hl4, hk4⟩
      have HL4 := Lib.hid hl4
      have HK4 := Lib.hid (hkg.out.trans ((HKW.out.mono fun _ _ _ => trivial).trans hk4))
      clear hl4 hk4 HLN c0 c1
      go_wp2_with fail
      go_roundw
      case rel => exact ⟨j + 1, by omega, by go_num, HL4, HK4⟩
      case measure => simp [intOf]; omega
    · have t1 : decide ((j : Int) < (m : Int)) = false := by simp; omega
      obtain rfl : j = m := by omega
      have HE := Lib.hid (HEND.out wr hlt.out)
      clear hjm
      go_wp2_with fail
      go_ret2
      exact HE.out
end Go.Proofs.YtoepgbpmcjnbmaaGreatDoor
end
/-
  THE PROGRAM's CACHE: no cache; Open refused.
-/
section
namespace Go.Proofs.YtoepgbpmcjnbmaaGreatDoor
open Go Go.RowKit Go.Joins
theorem copenNo (w : World) (p i n : Value)
    (hop : Calls Tryz.prog 31 #[p, i, n] w fun e w' => (∃ v, e = .returned (.tuple #[v, .int .i64 4])) ∧ Kp w w') :
    Calls Tryz.prog 11 #[p, i, n] w fun e w' => (∃ v, e = .returned (.tuple #[v, .int .i64 4])) ∧ Kp w w' := by
  have HOP := Lib.hid hop
  clear hop
  go_enter Tryz.func11, Tryz.ntmps11
  go_wp2_with fail
  refine (show Calls _ _ _ _ _ from HOP.out).mono ?_
  rintro e w1 ⟨⟨v, rfl⟩, hk⟩
  have HK := Lib.hid hk
  clear hk
  go_wp2_with fail
  go_ret2
  exact ⟨⟨_, rfl⟩, HK.out⟩
theorem cputNil (w : World) (x : It) : Calls Tryz.prog 15 #[.pointer none, .agg #[.string x.key, .string x.val, .int .i64 x.till, .bool x.gone]] w fun e w' => e = .returned (.int .i64 8) ∧ Kp w w' := by
  obtain ⟨w0, hw0⟩ : ∃ w0, w.alloc (.cells #[.string x.key, .string x.val, .int .i64 x.till, .bool x.gone] 35) = w0 := ⟨_, rfl⟩
  have HW0 := Lib.hid hw0
  have HK0 := Lib.hid (show Kp w w0 from by rw [← hw0]; exact (Keeps.refl _ w).alloc _)
  have HDN := Lib.hid (cdown_nil w0)
  clear hw0
  go_enter Tryz.func15, Tryz.ntmps15
  go_wp2_with (rw [HW0.out])
  try rw [HW0.out]
  refine (show Calls _ _ _ _ _ from HDN.out).mono ?_
  rintro e w' ⟨rfl, rfl⟩
  go_wp2_with fail
  go_ret
  exact ⟨rfl, HK0.out⟩
theorem cdropNil (w : World) (v : Value) : Calls Tryz.prog 18 #[.pointer none, v] w fun e w' => e = .returned (.int .i64 8) ∧ Kp w w' := by
  have HDN := Lib.hid (cdown_nil w)
  go_enter Tryz.func18, Tryz.ntmps18
  go_wp2_with fail
  refine (show Calls _ _ _ _ _ from HDN.out).mono ?_
  rintro e w' ⟨rfl, rfl⟩
  go_wp2_with fail
  go_ret
  exact ⟨rfl, Keeps.refl _ _⟩
theorem cflushNil (w : World) : Calls Tryz.prog 19 #[.pointer none] w fun e w' => e = .returned (.int .i64 8) ∧ Kp w w' := by
  have HDN := Lib.hid (cdown_nil w)
  go_enter Tryz.func19, Tryz.ntmps19
  go_wp2_with fail
  refine (show Calls _ _ _ _ _ from HDN.out).mono ?_
  rintro e w' ⟨rfl, rfl⟩
  go_wp2_with fail
  go_ret
  exact ⟨rfl, Keeps.refl _ _⟩
theorem cwipeNil (w : World) : Calls Tryz.prog 20 #[.pointer none] w fun e w' => e = .returned (.int .i64 8) ∧ Kp w w' := by
  have HDN := Lib.hid (cdown_nil w)
  go_enter Tryz.func20, Tryz.ntmps20
  go_wp2_with fail
  refine (show Calls _ _ _ _ _ from HDN.out).mono ?_
  rintro e w' ⟨rfl, rfl⟩
  go_wp2_with fail
  go_ret
  exact ⟨rfl, Keeps.refl _ _⟩
theorem ckeysNil (w : World) : Calls Tryz.prog 21 #[.pointer none] w fun e w' => e = .returned (.slice none 0 0) ∧ Kp w w' := by
  have HDN := Lib.hid (cdown_nil w)
  go_enter Tryz.func21, Tryz.ntmps21
  go_wp2_with fail
  refine (show Calls _ _ _ _ _ from HDN.out).mono ?_
  rintro e w' ⟨rfl, rfl⟩
  go_wp2_with fail
  go_ret
  exact ⟨rfl, Keeps.refl _ _⟩
theorem cbetweenNil (w : World) (lo hi : Nat) (k : ByteArray) (n : Int) : Calls Tryz.prog 25 #[.pointer none, .int .u64 lo, .int .u64 hi, .string k, .int .i64 n] w fun e w' => (∃ A c, e = .returned (.slice A 0 c)) ∧ Kp w w' := by
  have HKN := Lib.hid (ckeysNil w)
  go_enter Tryz.func25, Tryz.ntmps25
  go_wp2_with fail
  refine (show Calls _ _ _ _ _ from HKN.out).mono ?_
  rintro e w1 ⟨rfl, hk⟩
  have HK := Lib.hid hk
  clear hk
  go_wp2_with fail
  go_loopw [11, 19] (fun v i wr => v = .slice none 0 0 ∧ i = .int .i64 0 ∧ wr = w1) (fun _ _ _ => 0)
  case atStart => exact ⟨rfl, rfl, rfl⟩
  case round =>
    obtain ⟨rfl, rfl, rfl⟩ := hrel
    go_wp2_with fail
    go_ret
    exact ⟨⟨_, _, rfl⟩, HK.out⟩
set_option maxRecDepth 100000 in
set_option maxHeartbeats 1000000 in
theorem cfindNil (w : World) (k : ByteArray) : Calls Tryz.prog 53 #[.pointer none, .string k] w fun e w' => e = .returned (.tuple #[.agg #[.string ⟨#[]⟩, .string ⟨#[]⟩, .int .i64 0, .bool false], .bool false]) ∧ Kp w w' := by
  obtain ⟨w0, hw0⟩ : ∃ w0, w.alloc (.cells itZ 35) = w0 := ⟨_, rfl⟩
  have HW0 := Lib.hid (show w.alloc (.cells #[.string ⟨#[]⟩, .string ⟨#[]⟩, .int .i64 0, .bool false] 35) = w0 from hw0)
  have hb0 : w0.heap[w.heap.size]? = some (.cells itZ 35 (0, 0)) := by rw [← hw0]; exact heap_alloc_new w _
  have hk0 : Kp w w0 := by rw [← hw0]; exact (Keeps.refl _ w).alloc _
  have HRES := res4 w w0 hb0 hk0
  obtain ⟨f0, f1, f2, f3, r0, r1, r2, r3⟩ := res4u w w0 hb0
  have HDN := Lib.hid (cdown_nil w0)
  clear hw0 hb0 hk0
  obtain ⟨e0, e1, e2, e3, HK⟩ := HRES.out (.string ⟨#[]⟩) (.string ⟨#[]⟩) (.int .i64 0) (.bool false)
  have HKK := Lib.hid HK
  clear HK
  go_enter Tryz.func53, Tryz.ntmps53
  go_wp2_with (rw [HW0.out])
  try rw [HW0.out]
  refine (show Calls _ _ _ _ _ from HDN.out).mono ?_
  rintro e w' ⟨rfl, rfl⟩
  go_wp2_with fail
  exact bodyPost_ret (v := .tuple #[.agg #[.string ⟨#[]⟩, .string ⟨#[]⟩, .int .i64 0, .bool false], .bool false]) (by simp [results, Tryz.results53, go_sem, e0, e1, e2, e3]) rfl ⟨rfl, HKK.out⟩
set_option maxRecDepth 100000 in
set_option maxHeartbeats 1000000 in
theorem cgetNil (w : World) (k : ByteArray) (now : Int) : Calls Tryz.prog 27 #[.pointer none, .string k, .int .i64 now] w fun e w' => e = .returned (.tuple #[.agg #[.string ⟨#[]⟩, .string ⟨#[]⟩, .int .i64 0, .bool false], .bool false]) ∧ Kp w w' := by
  obtain ⟨w0, hw0⟩ : ∃ w0, w.alloc (.cells itZ 35) = w0 := ⟨_, rfl⟩
  have HW0 := Lib.hid (show w.alloc (.cells #[.string ⟨#[]⟩, .string ⟨#[]⟩, .int .i64 0, .bool false] 35) = w0 from hw0)
  have hb0 : w0.heap[w.heap.size]? = some (.cells itZ 35 (0, 0)) := by rw [← hw0]; exact heap_alloc_new w _
  have hk0 : Kp w w0 := by rw [← hw0]; exact (Keeps.refl _ w).alloc _
  have hz0 : w.heap.size < w0.heap.size := by rw [← hw0]; simp
  have HB0 := Lib.hid hb0
  have HK0 := Lib.hid hk0
  have HZ0 := Lib.hid hz0
  obtain ⟨z, hz⟩ : ∃ z : It, z = ⟨⟨#[]⟩, ⟨#[]⟩, 0, false⟩ := ⟨_, rfl⟩
  have HF := Lib.hid (show Calls Tryz.prog 53 #[.pointer none, .string k] w0 (fun e w' => e = .returned (.tuple #[.agg #[.string z.key, .string z.val, .int .i64 z.till, .bool z.gone], .bool false]) ∧ Kp w0 w') from by
    subst hz
    exact cfindNil w0 k)
  clear hw0 hb0 hk0 hz0 hz
  go_enter Tryz.func27, Tryz.ntmps27
  go_wp2_with (rw [HW0.out])
  try rw [HW0.out]
  refine (show Calls _ _ _ _ _ from HF.out).mono ?_
  rintro e w1 ⟨rfl, hk1⟩
  obtain ⟨w2, hw2⟩ : ∃ w2, w1.alloc (.cells #[.string z.key, .string z.val, .int .i64 z.till, .bool z.gone] 35) = w2 := ⟨_, rfl⟩
  have hk2 : Kp w1 w2 := by rw [← hw2]; exact (Keeps.refl _ w1).alloc _
  have hk12 := hk1.trans hk2
  have hb1 := (hk12.block w.heap.size trivial HZ0.out).trans HB0.out
  have HRES := res4 w w2 hb1 (HK0.out.trans hk12)
  obtain ⟨f0, f1, f2, f3, r0, r1, r2, r3⟩ := res4u w w2 hb1
  have HW2 := Lib.hid hw2
  clear hb1 hk1 hk2 hk12 hw2
  obtain ⟨e0, e1, e2, e3, HK⟩ := HRES.out (.string ⟨#[]⟩) (.string ⟨#[]⟩) (.int .i64 0) (.bool false)
  have HKK := Lib.hid HK
  clear HK
  go_wp2_with (rw [HW2.out])
  try rw [HW2.out]
  all_goals exact bodyPost_ret (v := .tuple #[.agg #[.string ⟨#[]⟩, .string ⟨#[]⟩, .int .i64 0, .bool false], .bool false]) (by simp [results, Tryz.results27, go_sem, e0, e1, e2, e3]) rfl ⟨rfl, HKK.out⟩
end Go.Proofs.YtoepgbpmcjnbmaaGreatDoor
end
