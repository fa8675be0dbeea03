/-
  FlFind, FlGet, FlKeys, Math, Mix, Of, IxTab, IxMem, IxHash, ItemCut, ItemTake, Unfr, ItemMade: texts of mine, joined.
-/
import Derived.Test.YticophaepapjoaaGreatDoorAllA11
import Derived.Test.YticophaepapjoaaGreatDoorRows
import Derived.WalkKit
import Derived.Laws.Bits64
import Derived.Lib.Hide
import Derived.Test.YticophaepapjoaaGreatDoorAllA09
import Derived.Test.YticophaepapjoaaGreatDoorAllA00
import Derived.Test.YticophaepapjoaaGreatDoorAllA02
import Derived.Lib.SmallJoins
import Derived.BigQuiet
import Derived.Test.YticophaepapjoaaGreatDoorAllA01
import Derived.WalkSpells
import Derived.Deep.RegionWith
import Derived.Test.YticophaepapjoaaGreatDoorWords
import Derived.Test.YticophaepapjoaaGreatDoorAllA10
namespace Go.Proofs.YticophaepapjoaaGreatDoor
open Go Go.RowKit Go.Joins
set_option maxRecDepth 100000 in
set_option maxHeartbeats 2000000 in
theorem cdropNo (S : Slog2) (I : IndexOK) (J : ItemOK) (w : World) (hT : J.T w) (p q : Nat) (Fs : Foot) (s : SDev) (st : FSt) (hr : flashRep S I w p q Fs st s)
  (A : Option Addr) (c : Nat) (ks : List ByteArray) (hrow : Row w A (fun _ => True) (ks.map Value.string)) (hlc : ks.length ≤ c) (hcm : c ≤ maxLen) (hl : ks.length ≤ 1000) (hsz : ∀ k ∈ ks, k.size ≤ 1000000) (hno : ∃ k ∈ ks, ¬ keyOk k) :
  Calls Tryz.prog 47 #[.pointer (some ⟨q, 0, none⟩), .slice A ks.length c] w fun e w' => e = .returned (.int .i64 1) ∧ Kp w w' := by
 have HDN := Lib.hid (show Calls Tryz.prog 41 #[.pointer (some ⟨q, 0, none⟩)] w (fun e w' => e = .returned (.bool false) ∧ w = w') from by
  obtain ⟨lq, iq, Fl, Fi, lo, lst, ix, hs, rfl, hc, -⟩ := hr
  exact cdown w q lq hc.blk.c0)
 have HROW := Lib.hid hrow
 have HSZ := Lib.hid hsz
 have HNO := Lib.hid hno
 have HT := Lib.hid hT
 clear hr hrow hsz hno hT
 unfold maxLen at hcm
 go_enter Tryz.func47, Tryz.ntmps47
 go_wp2_with fail
 refine (show Calls _ _ _ _ _ from HDN.out).mono ?_
 rintro e w' ⟨rfl, rfl⟩
 go_wp2_with fail
 go_loopw [14] (fun i wr => ∃ k, k ≤ ks.length ∧ i = .int .i64 k ∧ RowKit.Hid (Kp w wr) ∧ RowKit.Hid (∀ x ∈ ks.take k, keyOk x)) (fun i _ => ks.length - (intOf i).toNat)
 case atStart => exact ⟨0, Nat.zero_le _, rfl, Lib.hid (Keeps.refl _ _), Lib.hid (fun x hx => by simp at hx)⟩
 case round =>
  obtain ⟨k, hk, rfl, hkp, hall⟩ := hrel
  by_cases hlt : k < ks.length
  ·have t1 : decide ((k : Int) < (ks.length : Int)) = true := by simp; omega
   obtain ⟨b, o, rfl, -, hcell⟩ := (HROW.out.keep hkp.out).at_ (k := k) (by simpa using hlt)
   rw [List.getElem_map] at hcell
   have HKZ := HSZ.out _ (List.getElem_mem hlt)
   have HGN := Lib.hid (cgone wr ks[k])
   have HNX := Lib.hid (show keyOk ks[k] → ∀ x ∈ ks.take (k + 1), keyOk x from fun h x hx => by
    rw [List.take_succ_eq_append_getElem hlt] at hx
    rcases List.mem_append.1 hx with hx | hx
    ·exact hall.out x hx
    ·rw [List.mem_singleton.1 hx]; exact h)
   generalize ks[k] = key at hcell HGN HKZ HNX
   have HMY := Lib.hid (show ∀ w1, Kp wr w1 → _ from fun w1 (hk1 : Kp wr w1) => may_grave J w1 (J.tk HT.out (hkp.out.trans hk1)) key HKZ _ rfl)
   have HKZ2 := Lib.hid HKZ
   clear HKZ
   go_wp2_with fail
   refine (show Calls _ _ _ _ _ from HGN.out).mono ?_
   rintro e w1 ⟨rfl, hk1⟩
   have HK1 := Lib.hid hk1
   clear hk1
   go_wp2_with fail
   refine (show Calls _ _ _ _ _ from HMY.out w1 HK1.out).mono ?_
   rintro e w2 ⟨rfl, hk2⟩
   have HK2 := Lib.hid (hkp.out.trans (HK1.out.trans hk2))
   clear hk2 hcell
   cases hm : (graveIt key).may with
   | true =>
    have HN := Lib.hid (HNX.out ((grave_may _).1 hm))
    clear hm
    go_wp2_with fail
    go_roundw
    case rel => exact ⟨k + 1, by omega, by go_num, HK2, HN⟩
    case measure => simp [intOf]; omega
   | false =>
    clear hm
    go_wp2_with fail
    go_ret
    exact ⟨rfl, HK2.out⟩
  ·exfalso
   obtain rfl : k = ks.length := by omega
   obtain ⟨x, hx, hn⟩ := HNO.out
   exact hn (hall.out x (by rw [List.take_length]; exact hx))
def findE (st : FSt) (k : ByteArray) : Ending :=
 match st.at_ k with
 | some x => .returned (.tuple #[.agg #[.string x.key, .string x.val, .int .i64 x.till, .bool x.gone], .bool true])
 | none => .returned (.tuple #[.agg #[.string ⟨#[]⟩, .string ⟨#[]⟩, .int .i64 0, .bool false], .bool false])
set_option maxRecDepth 100000 in
set_option maxHeartbeats 2000000 in
theorem cfind (S : Slog2) (I : IndexOK) (J : ItemOK) (w : World) (hT : S.T w ∧ I.T w ∧ J.T w) (p q : Nat) (F Fs : Foot) (s : SDev) (st : FSt) (hd : DAt w p F s) (hr : flashRep S I w p q Fs st s) (ha : Apart F Fs) (hroom : st.place + 8 * st.segs ≤ s.now.length) (hage : st.age ≤ 30000) (k : ByteArray) (hk : k.size ≤ 1000000) :
  Calls Tryz.prog 57 #[.pointer (some ⟨q, 0, none⟩), .string k] w fun e w' => e = findE st k ∧ Kp w w' := by
 obtain ⟨lq, iq, Fl, lst, hs, v, b, c0, c1, hl, hon, hal, hpl, hsg, hrecs, hat, hmay, hv, hbb, hget⟩ := cplace S I hT.2.1 hr ha hage k hk
 obtain ⟨w0, hw0⟩ : ∃ w0, w.alloc (.cells itZ 40) = w0 := ⟨_, rfl⟩
 have HW0 := Lib.hid (show w.alloc (.cells #[.string ⟨#[]⟩, .string ⟨#[]⟩, .int .i64 0, .bool false] 40) = w0 from hw0)
 have hb0 : w0.heap[w.heap.size]? = some (.cells itZ 40 (0, 0)) := by rw [← hw0]; exact heap_alloc_new w _
 have hk0 : Kp w w0 := by rw [← hw0]; exact (Keeps.refl _ w).alloc _
 have hz0 : w.heap.size < w0.heap.size := by rw [← hw0]; simp
 have HB0 := Lib.hid hb0
 have HK0 := Lib.hid hk0
 have HZ0 := Lib.hid hz0
 have d0 := hk0.cell c0 trivial
 have d1 := hk0.cell c1 trivial
 have HDN := Lib.hid (cdown w0 q lq d0)
 have HGT := Lib.hid (hget w0 hk0)
 cases hsp : sp (hs.drop lst.gone) k with
 | none =>
  have he : findE st k = .returned (.tuple #[.agg #[.string ⟨#[]⟩, .string ⟨#[]⟩, .int .i64 0, .bool false], .bool false]) := by
   unfold findE
   rw [hat, hsp]
   rfl
  have hb2 : b = false := by rw [hbb, hsp]; rfl
  subst hb2
  rw [he]
  clear hat hsp hbb hv hrecs hmay hl hon hal hpl hsg hget hd hr ha hroom hk0 hb0 hz0 hw0 he
  go_enter Tryz.func57, Tryz.ntmps57
  go_wp2_with (rw [HW0.out])
  try rw [HW0.out]
  refine (show Calls _ _ _ _ _ from HDN.out).mono ?_
  rintro e w' ⟨rfl, rfl⟩
  go_wp2_with fail
  refine (show Calls _ _ _ _ _ from HGT.out).mono ?_
  rintro e w1 ⟨rfl, hk1⟩
  have hb1 := (hk1.block w.heap.size trivial HZ0.out).trans HB0.out
  have HRES := res4 w w1 hb1 (HK0.out.trans hk1)
  obtain ⟨f0, f1, f2, f3, r0, r1, r2, r3⟩ := res4u w w1 hb1
  clear hb1 hk1
  obtain ⟨e0, e1, e2, e3, HK⟩ := HRES.out (.string ⟨#[]⟩) (.string ⟨#[]⟩) (.int .i64 0) (.bool false)
  have HKK := Lib.hid HK
  clear HK
  go_wp2_with fail
  exact bodyPost_ret (v := .tuple #[.agg #[.string ⟨#[]⟩, .string ⟨#[]⟩, .int .i64 0, .bool false], .bool false]) (by simp [results, Tryz.results57, go_sem, e0, e1, e2, e3]) rfl ⟨rfl, HKK.out⟩
 | some y =>
  obtain ⟨po, x⟩ := y
  obtain ⟨hmem, hkey, hgone⟩ := sp_mem hsp
  have hxm := hmay po x (List.mem_of_mem_drop hmem)
  have he : findE st k = .returned (.tuple #[.agg #[.string x.key, .string x.val, .int .i64 x.till, .bool x.gone], .bool true]) := by
   unfold findE
   rw [hat, hsp]
   rfl
  have hb2 : b = true := by rw [hbb, hsp]; rfl
  have hv2 : v = (po : Int) := by rw [hv, hsp]; rfl
  subst hb2
  subst hv2
  rw [he]
  have hrec : (po, x.bytes) ∈ lst.recs := by rw [hrecs]; exact List.mem_map.2 ⟨_, hmem, rfl⟩
  have HRD := Lib.hid (show ∀ w1, Kp w w1 → Calls Tryz.prog 85 #[.pointer (some ⟨lq, 0, none⟩), .int .i64 (po : Int)] w1 fun e w' => ∃ A n c, e = .returned (.tuple #[.slice A n c, .int .i64 0]) ∧ n = x.bytes.length ∧ n ≤ c ∧ c ≤ maxLen ∧ Row w' A (fun _ => True) (bcells x.bytes) ∧ Kp w1 w' from fun w1 hk1 => by
   refine (S.read w1 p lq F Fl s lst (hd.keep (hk1.mono fun _ _ _ => trivial)) (S.keep hl (hk1.mono fun _ _ _ => trivial)) hon hal (S.tk hT.1 hk1) (by rw [hpl, hsg]; exact hroom) po x.bytes hrec).mono ?_
   rintro e w' ⟨A, c, rfl, h1, h2, h3, -, h4⟩
   exact ⟨A, _, c, rfl, rfl, h1, h2, h3.mono fun _ _ _ => trivial, h4⟩)
  have HEN := Lib.hid (show ∀ w1, Kp w w1 → ∀ (A : Option Addr) (n c : Nat), Row w1 A (fun _ => True) (bcells x.bytes) → n = x.bytes.length → n ≤ c → c ≤ maxLen → _ from fun w1 (hk1 : Kp w w1) A n c hr hn h1 h2 => centry J w1 (J.tk hT.2.2 hk1) A n c x hxm hr hn h1 h2)
  clear hat hsp hbb hv hrecs hmay hl hon hal hpl hsg hget hd hr ha hroom hk0 hb0 hz0 hw0 he hmem hkey hxm hrec hgone
  go_enter Tryz.func57, Tryz.ntmps57
  go_wp2_with (rw [HW0.out])
  try rw [HW0.out]
  refine (show Calls _ _ _ _ _ from HDN.out).mono ?_
  rintro e w' ⟨rfl, rfl⟩
  go_wp2_with fail
  refine (show Calls _ _ _ _ _ from HGT.out).mono ?_
  rintro e w1 ⟨rfl, hk1⟩
  replace d0 := hk1.cell d0 trivial
  have HK1 := Lib.hid hk1
  clear hk1 d1
  go_wp2_with fail
  refine (show Calls _ _ _ _ _ from HRD.out w1 (HK0.out.trans HK1.out)).mono ?_
  rintro e w2 ⟨A, n, c, rfl, hn, h1, h2, h3, hk2⟩
  have HK2 := Lib.hid (HK1.out.trans hk2)
  have HE2 := Lib.hid (HEN.out w2 (HK0.out.trans HK2.out) A n c h3 hn h1 h2)
  clear hk2 hn h1 h2 h3 d0
  go_wp2_with fail
  refine (show Calls _ _ _ _ _ from HE2.out).mono ?_
  rintro e w3 ⟨rfl, hk3⟩
  have hk30 := HK2.out.trans hk3
  have hb1 := (hk30.block w.heap.size trivial HZ0.out).trans HB0.out
  have HRES := res4 w w3 hb1 (HK0.out.trans hk30)
  obtain ⟨f0, f1, f2, f3, r0, r1, r2, r3⟩ := res4u w w3 hb1
  clear hb1 hk3 hk30
  obtain ⟨e0, e1, e2, e3, HK⟩ := HRES.out (.string x.key) (.string x.val) (.int .i64 x.till) (.bool x.gone)
  have HKK := Lib.hid HK
  clear HK
  go_wp2_with fail
  exact bodyPost_ret (v := .tuple #[.agg #[.string x.key, .string x.val, .int .i64 x.till, .bool x.gone], .bool true]) (by simp [results, Tryz.results57, go_sem, e0, e1, e2, e3]) rfl ⟨rfl, HKK.out⟩
set_option maxRecDepth 100000 in
set_option maxHeartbeats 2000000 in
theorem cget (S : Slog2) (I : IndexOK) (J : ItemOK) (w : World) (hT : S.T w ∧ I.T w ∧ J.T w) (p q : Nat) (F Fs : Foot) (s : SDev) (st : FSt) (hd : DAt w p F s) (hr : flashRep S I w p q Fs st s) (ha : Apart F Fs) (hroom : st.place + 8 * st.segs ≤ s.now.length) (hage : st.age ≤ 30000) (k : ByteArray) (now : Int) (hk : k.size ≤ 1000000) (hn1 : -9223372036854775808 ≤ now) (hn2 : now < 9223372036854775808) :
  Calls Tryz.prog 25 #[.pointer (some ⟨q, 0, none⟩), .string k, .int .i64 now] w fun e w' => e = getE st k now ∧ Kp w w' := by
 have hmay : ∀ x, st.at_ k = some x → x.may = true := fun x hx => by
  obtain ⟨lq, iq, Fl, Fi, lo, lst, ix, hs, rfl, hc, hm, -⟩ := hr
  rw [hm.at_ k] at hx
  cases hsp : sp (hs.drop lst.gone) k with
  | none => rw [hsp] at hx; cases hx
  | some y =>
   obtain ⟨po, z⟩ := y
   rw [hsp] at hx
   cases hx
   exact hm.may po z (List.mem_of_mem_drop (sp_mem hsp).1)
 obtain ⟨w0, hw0⟩ : ∃ w0, w.alloc (.cells itZ 40) = w0 := ⟨_, rfl⟩
 have HW0 := Lib.hid (show w.alloc (.cells #[.string ⟨#[]⟩, .string ⟨#[]⟩, .int .i64 0, .bool false] 40) = w0 from hw0)
 have hb0 : w0.heap[w.heap.size]? = some (.cells itZ 40 (0, 0)) := by rw [← hw0]; exact heap_alloc_new w _
 have hk0 : Kp w w0 := by rw [← hw0]; exact (Keeps.refl _ w).alloc _
 have hz0 : w.heap.size < w0.heap.size := by rw [← hw0]; simp
 have HB0 := Lib.hid hb0
 have HK0 := Lib.hid hk0
 have HZ0 := Lib.hid hz0
 have hf := cfind S I J w0 ⟨S.tk hT.1 hk0, I.tk hT.2.1 hk0, J.tk hT.2.2 hk0⟩ p q F Fs s st (hd.keep (hk0.mono fun _ _ _ => trivial)) (frep_keep hr (hk0.mono fun _ _ _ => trivial)) ha hroom hage k hk
 have HJ := Lib.hid hT.2.2
 have HMAY := Lib.hid hmay
 unfold getE
 unfold findE at hf
 clear hd hr ha hroom hage hT hmay hw0 hb0 hk0 hz0
 cases hat : st.at_ k with
 | none =>
  rw [hat] at hf
  obtain ⟨z, hz⟩ : ∃ z : It, z = ⟨⟨#[]⟩, ⟨#[]⟩, 0, false⟩ := ⟨_, rfl⟩
  have HF := Lib.hid (show Calls Tryz.prog 57 #[.pointer (some ⟨q, 0, none⟩), .string k] w0 (fun e w' => e = .returned (.tuple #[.agg #[.string z.key, .string z.val, .int .i64 z.till, .bool z.gone], .bool false]) ∧ Kp w0 w') from by
   subst hz
   exact hf)
  clear hf hat hz
  simp only
  go_enter Tryz.func25, Tryz.ntmps25
  go_wp2_with (rw [HW0.out])
  try rw [HW0.out]
  refine (show Calls _ _ _ _ _ from HF.out).mono ?_
  rintro e w1 ⟨rfl, hk1⟩
  obtain ⟨w2, hw2⟩ : ∃ w2, w1.alloc (.cells #[.string z.key, .string z.val, .int .i64 z.till, .bool z.gone] 40) = w2 := ⟨_, rfl⟩
  have hk2 : Kp w1 w2 := by rw [← hw2]; exact (Keeps.refl _ w1).alloc _
  have hk12 := hk1.trans hk2
  have hb1 := (hk12.block w.heap.size trivial HZ0.out).trans HB0.out
  have HRES := res4 w w2 hb1 (HK0.out.trans hk12)
  obtain ⟨f0, f1, f2, f3, r0, r1, r2, r3⟩ := res4u w w2 hb1
  have HW2 := Lib.hid hw2
  clear hb1 hk1 hk2 hk12 hw2
  obtain ⟨e0, e1, e2, e3, HK⟩ := HRES.out (.string ⟨#[]⟩) (.string ⟨#[]⟩) (.int .i64 0) (.bool false)
  have HKK := Lib.hid HK
  clear HK
  go_wp2_with (rw [HW2.out])
  try rw [HW2.out]
  all_goals exact bodyPost_ret (v := .tuple #[.agg #[.string ⟨#[]⟩, .string ⟨#[]⟩, .int .i64 0, .bool false], .bool false]) (by simp [results, Tryz.results25, go_sem, e0, e1, e2, e3]) rfl ⟨rfl, HKK.out⟩
 | some x =>
  rw [hat] at hf
  have HF := Lib.hid hf
  have hxm := HMAY.out x hat
  have HLV := Lib.hid (show ∀ w1, Kp w w1 → _ from fun w1 (hk1 : Kp w w1) => J.live w1 x now (J.tk HJ.out hk1) (It.may_fits hxm) hn1 hn2)
  clear hf hat hxm
  simp only
  simp only at HF
  go_enter Tryz.func25, Tryz.ntmps25
  go_wp2_with (rw [HW0.out])
  try rw [HW0.out]
  refine (show Calls _ _ _ _ _ from HF.out).mono ?_
  rintro e w1 ⟨rfl, hk1⟩
  obtain ⟨w2, hw2⟩ : ∃ w2, w1.alloc (.cells #[.string x.key, .string x.val, .int .i64 x.till, .bool x.gone] 40) = w2 := ⟨_, rfl⟩
  have hk2 : Kp w1 w2 := by rw [← hw2]; exact (Keeps.refl _ w1).alloc _
  have hb2 : w2.heap[w1.heap.size]? = some (.cells #[.string x.key, .string x.val, .int .i64 x.till, .bool x.gone] 40 (0, 0)) := by rw [← hw2]; exact heap_alloc_new w1 _
  have HB2 := Lib.hid hb2
  have HK12 := Lib.hid (hk1.trans hk2)
  have x0 : w2.cell? ⟨w1.heap.size, 0, none⟩ = some (.string x.key) := (cell_of_block hb2 0).trans rfl
  have x1 : w2.cell? ⟨w1.heap.size, 1, none⟩ = some (.string x.val) := (cell_of_block hb2 1).trans rfl
  have x2 : w2.cell? ⟨w1.heap.size, 2, none⟩ = some (.int .i64 x.till) := (cell_of_block hb2 2).trans rfl
  have x3 : w2.cell? ⟨w1.heap.size, 3, none⟩ = some (.bool x.gone) := (cell_of_block hb2 3).trans rfl
  have HW2 := Lib.hid hw2
  have HLV2 := Lib.hid (HLV.out w2 (HK0.out.trans HK12.out))
  clear hk1 hk2 hw2 hb2
  go_wp2_with (rw [HW2.out])
  try rw [HW2.out]
  refine (show Calls _ _ _ _ _ from HLV2.out).mono ?_
  rintro e w3 ⟨rfl, hk3⟩
  have hk13 := HK12.out.trans hk3
  have hb1 := (hk13.block w.heap.size trivial HZ0.out).trans HB0.out
  have HRES := res4 w w3 hb1 (HK0.out.trans hk13)
  obtain ⟨f0, f1, f2, f3, r0, r1, r2, r3⟩ := res4u w w3 hb1
  replace x0 := hk3.cell x0 trivial
  replace x1 := hk3.cell x1 trivial
  replace x2 := hk3.cell x2 trivial
  replace x3 := hk3.cell x3 trivial
  clear hb1 hk3 hk13
  cases hlv : x.live now with
  | true =>
   obtain ⟨e0, e1, e2, e3, HK⟩ := HRES.out (.string x.key) (.string x.val) (.int .i64 x.till) (.bool x.gone)
   have HKK := Lib.hid HK
   clear HK
   go_wp2_with fail
   all_goals exact bodyPost_ret (v := .tuple #[.agg #[.string x.key, .string x.val, .int .i64 x.till, .bool x.gone], .bool true]) (by simp [results, Tryz.results25, go_sem, e0, e1, e2, e3]) rfl ⟨rfl, HKK.out⟩
  | false =>
   obtain ⟨e0, e1, e2, e3, HK⟩ := HRES.out (.string ⟨#[]⟩) (.string ⟨#[]⟩) (.int .i64 0) (.bool false)
   have HKK := Lib.hid HK
   clear HK
   go_wp2_with fail
   all_goals exact bodyPost_ret (v := .tuple #[.agg #[.string ⟨#[]⟩, .string ⟨#[]⟩, .int .i64 0, .bool false], .bool false]) (by simp [results, Tryz.results25, go_sem, e0, e1, e2, e3]) rfl ⟨rfl, HKK.out⟩
set_option maxRecDepth 100000 in
set_option maxHeartbeats 1000000 in
theorem ckeys (S : Slog2) (I : IndexOK) (w : World) (hT : I.T w) (p q : Nat) (Fs : Foot) (s : SDev) (st : FSt) (hr : flashRep S I w p q Fs st s) (hage : st.age ≤ 30000) :
  Calls Tryz.prog 30 #[.pointer (some ⟨q, 0, none⟩)] w fun e w' => ∃ (A : Option Addr) (c : Nat) (ks : List ByteArray), e = .returned (.slice A ks.length c) ∧ Rising ks ∧ (∀ k, k ∈ ks ↔ (st.at_ k).isSome = true) ∧ ks.length ≤ c ∧ c ≤ maxLen ∧ TextsAt w' A (fun b => w.heap.size ≤ b ∧ b < w'.heap.size) ks ∧ Kp w w' := by
 obtain ⟨lq, iq, Fl, Fi, lo, lst, ix, hs, rfl, hc, hm, hx⟩ := hr
 have c0 := hc.blk.c0
 have c1 := hc.blk.c1
 have HDN := Lib.hid (cdown w q lq c0)
 have HMEM := Lib.hid (show ∀ k, k ∈ ix.map (·.1) ↔ (st.at_ k).isSome = true from fun k => by
  rw [hm.at_ k]
  have h := hx.is k
  constructor
  ·intro hk
   obtain ⟨a, ha, rfl⟩ := List.mem_map.1 hk
   have h2 := ixGet_of hx.nd (k := a.1) (p := a.2) ha
   rw [h2] at h
   cases hsp : sp (hs.drop lst.gone) a.1 with
   | none => rw [hsp] at h; cases h
   | some y => rfl
  ·intro hk
   cases hsp : sp (hs.drop lst.gone) k with
   | none => rw [hsp] at hk; cases hk
   | some y =>
    rw [hsp] at h
    exact List.mem_map.2 ⟨_, ixGet_mem h, rfl⟩)
 have HKS := Lib.hid (I.keys w iq Fi ix hc.i hT (Nat.le_trans hx.len (by omega)))
 clear hc hm hx
 go_enter Tryz.func30, Tryz.ntmps30
 go_wp2_with fail
 refine (show Calls _ _ _ _ _ from HDN.out).mono ?_
 rintro e w' ⟨rfl, rfl⟩
 go_wp2_with fail
 refine (show Calls _ _ _ _ _ from HKS.out).mono ?_
 rintro e w1 ⟨A, c, ks, rfl, hp, hri, h1, h2, h3, h4⟩
 have hl : ix.length = ks.length := by have := hp.length_eq; rw [List.length_map] at this; exact this.symm
 rw [hl] at h1 ⊢
 have HFIN := Lib.hid (show ∃ (A' : Option Addr) (c' : Nat) (ks' : List ByteArray), Ending.returned (.slice A ks.length c) = .returned (.slice A' ks'.length c') ∧ Rising ks' ∧ (∀ k, k ∈ ks' ↔ (st.at_ k).isSome = true) ∧ ks'.length ≤ c' ∧ c' ≤ maxLen ∧ TextsAt w1 A' (fun b => w.heap.size ≤ b ∧ b < w1.heap.size) ks' ∧ Kp w w1 from
  ⟨A, c, ks, rfl, hri, fun k => by rw [hp.mem_iff]; exact HMEM.out k, h1, h2, h3, h4⟩)
 clear hl h1 h2 h3 h4 hp hri
 generalize ks.length = n at HFIN
 go_wp2_with fail
 go_ret
 exact HFIN.out
end Go.Proofs.YticophaepapjoaaGreatDoor
namespace Go.Proofs.YticophaepapjoaaGreatDoor
def foN (k x : Nat) : Nat := x ^^^ x / 2 ^ k
def stN (x : Nat) : Nat :=
 foN 31 (foN 27 (foN 30 x * 13787848793156543929 % 18446744073709551616) * 10723151780598845931 % 18446744073709551616)
theorem foN_lt (k x : Nat) (h : x < 18446744073709551616) : foN k x < 18446744073709551616 :=
 Nat.xor_lt_two_pow (n := 64) h (Nat.lt_of_le_of_lt (Nat.div_le_self _ _) h)
theorem stN_lt (x : Nat) : stN x < 18446744073709551616 := foN_lt 31 _ (Nat.mod_lt _ (by decide))
end Go.Proofs.YticophaepapjoaaGreatDoor
namespace Go.Proofs.YticophaepapjoaaGreatDoor
open Go.RowKit
theorem fo_shift (k n : Nat) (h : n < 18446744073709551616) : bits .xor .u64 (n : Int) ((n : Int) / ((2 ^ k : Nat) : Int)) = ((foN k n : Nat) : Int) :=
 xorShift_u64 n (2 ^ k) h
theorem fo_step (k n C : Nat) (h : n < 18446744073709551616) :
  IntKind.u64.wrap (bits .xor .u64 (n : Int) ((n : Int) / ((2 ^ k : Nat) : Int)) * (C : Int)) = ((foN k n * C % 18446744073709551616 : Nat) : Int) :=
 mixStep_u64 n (2 ^ k) C h
theorem st_shift (x : Nat) (h : x < 18446744073709551616) (A B : Int)
  (hA : A = IntKind.u64.wrap (bits .xor .u64 (x : Int) ((x : Int) / 1073741824) * 13787848793156543929))
  (hB : B = IntKind.u64.wrap (bits .xor .u64 A (A / 134217728) * 10723151780598845931)) :
  bits .xor .u64 B (B / 2147483648) = ((stN x : Nat) : Int) := by
 have e1 : A = ((foN 30 x * 13787848793156543929 % 18446744073709551616 : Nat) : Int) := hA.trans (fo_step 30 x 13787848793156543929 h)
 have e2 : B = ((foN 27 (foN 30 x * 13787848793156543929 % 18446744073709551616) * 10723151780598845931 % 18446744073709551616 : Nat) : Int) := by
  rw [hB, e1]; exact fo_step 27 _ 10723151780598845931 (Nat.mod_lt _ (by decide))
 rw [e2]
 exact fo_shift 31 _ (Nat.mod_lt _ (by decide))
theorem ret_u64 {a b : Int} (h : a = b) : Ending.returned (.int .u64 a) = .returned (.int .u64 b) := by rw [h]
theorem stir_nat (x : Nat) (hx : x < 18446744073709551616) (w : World) :
  Calls Tryz.prog 130 #[.int .u64 (x : Int)] w fun e w' => e = .returned (.int .u64 ((stN x : Nat) : Int)) ∧ w = w' := by
 go_enter Tryz.func130, Tryz.ntmps130
 go_wp2
 go_ret
 exact ⟨ret_u64 (st_shift x hx _ _ rfl rfl), rfl⟩
def stZ (x : Int) : Int := ((stN x.toNat : Nat) : Int)
theorem stZ_nonneg (x : Int) : 0 ≤ stZ x := Int.natCast_nonneg _
theorem stZ_lt (x : Int) : stZ x < 18446744073709551616 := by have := stN_lt x.toNat; unfold stZ; omega
theorem stir_any (x : Int) (hx : 0 ≤ x) (lx : x < 18446744073709551616) (w : World) :
  Calls Tryz.prog 130 #[.int .u64 x] w fun e w' => e = .returned (.int .u64 (stZ x)) ∧ w = w' := by
 have h := stir_nat x.toNat (by omega) w
 rw [Int.toNat_of_nonneg hx] at h
 exact h
theorem xor_nonneg (a b : Int) : 0 ≤ bits .xor .u64 a b := by
 show 0 ≤ IntKind.u64.wrap _
 rw [IntKind.wrap_u64]; omega
theorem xor_lt (a b : Int) : bits .xor .u64 a b < 18446744073709551616 := by
 show IntKind.u64.wrap _ < _
 rw [IntKind.wrap_u64]; omega
def stepZ (h c : Int) : Int := IntKind.u64.wrap (stZ (bits .xor .u64 h (IntKind.u64.wrap c)) + 1)
def bytesZ (h : Int) (l : List UInt8) : Int := l.foldl (fun h c => stepZ h (c.toNat : Int)) h
def endZ (h : Int) (n : Nat) : Int := stZ (bits .xor .u64 h (256 + (n : Int)))
def partZ (h : Int) (s : ByteArray) : Int := endZ (bytesZ h s.data.toList) s.size
def partsZ (ss : List ByteArray) : Int := ss.foldl partZ 11400714819323198485
theorem take_snoc (s : ByteArray) (k : Nat) (h : k < s.size) : s.data.toList.take (k + 1) = s.data.toList.take k ++ [s[k]] := by
 rw [List.take_succ_eq_append_getElem (by simpa using h)]; rfl
theorem bytesZ_snoc (h : Int) (l : List UInt8) (c : UInt8) : bytesZ h (l ++ [c]) = stepZ (bytesZ h l) (c.toNat : Int) := by
 unfold bytesZ; rw [List.foldl_append]; rfl
theorem bytesZ_next (h : Int) (s : ByteArray) (k : Nat) (hk : k < s.size) :
  bytesZ h (s.data.toList.take (k + 1)) = IntKind.u64.wrap (stZ (bits .xor .u64 (bytesZ h (s.data.toList.take k)) (IntKind.u64.wrap (s[k].toNat : Int))) + 1) := by
 rw [take_snoc s k hk, bytesZ_snoc]; rfl
theorem bytesZ_all (h : Int) (s : ByteArray) (k : Nat) (h1 : k ≤ s.size) (h2 : ¬ k < s.size) : bytesZ h (s.data.toList.take k) = bytesZ h s.data.toList := by
 rw [List.take_of_length_le]
 have : s.data.toList.length = s.size := by simp
 omega
theorem getD_at (ss : List ByteArray) (k : Nat) (h : k < ss.length) : ss.getD k ByteArray.empty = ss[k] := by
 rw [List.getD_eq_getElem?_getD, List.getElem?_eq_getElem h]; rfl
theorem partsZ_next (ss : List ByteArray) (k : Nat) (h : k < ss.length) : partsZ (ss.take (k + 1)) = partZ (partsZ (ss.take k)) (ss.getD k ByteArray.empty) := by
 unfold partsZ
 rw [List.take_succ_eq_append_getElem h, List.foldl_append, getD_at ss k h]; rfl
theorem partsZ_all (ss : List ByteArray) (k : Nat) (h1 : k ≤ ss.length) (h2 : ¬ k < ss.length) : partsZ (ss.take k) = partsZ ss := by
 rw [List.take_of_length_le (by omega)]
theorem part_any (h : Int) (s : ByteArray) (hs : s.size ≤ maxLen) (w : World) :
  Calls Tryz.prog 102 #[.int .u64 h, .string s] w fun e w' => e = .returned (.int .u64 (partZ h s)) ∧ w = w' := by
 unfold maxLen at hs
 go_enter Tryz.func102, Tryz.ntmps102
 go_wp2
 go_loop [0, 5] (fun t i => ∃ k : Nat, k ≤ s.size ∧ i = .int .i64 k ∧ t = .int .u64 (bytesZ h (s.data.toList.take k))) (fun _ i => s.size - (intOf i).toNat)
 case atStart => exact ⟨0, Nat.zero_le _, rfl, rfl⟩
 case round =>
  obtain ⟨k, hk, rfl, rfl⟩ := hrel
  by_cases hlt : k < s.size
  ·have H := Lib.hid (bytesZ_next h s k hlt)
   go_wp2_with (go_at_call 130; refine (stir_any _ (xor_nonneg _ _) (xor_lt _ _) _).mono ?_; rintro e w' ⟨rfl, rfl⟩)
   go_round
   case rel => exact ⟨k + 1, by omega, by go_num, by rw [H.out]⟩
   case measure => simp [intOf]; omega
  ·go_wp2_with (go_at_call 130; refine (stir_any _ (xor_nonneg _ _) (xor_lt _ _) _).mono ?_; rintro e w' ⟨rfl, rfl⟩)
   go_ret
   exact ⟨ret_u64 (by unfold partZ endZ; rw [← bytesZ_all h s k hk hlt]), rfl⟩
theorem of_any (ss : List ByteArray) (b o cap : Nat) (w : World) (hn : ss.length ≤ maxLen) (hs : ∀ s ∈ ss, s.size ≤ maxLen)
  (hc : ∀ i, i < ss.length → w.cell? ⟨b, o + i, none⟩ = some (.string (ss.getD i ByteArray.empty))) :
  Calls Tryz.prog 69 #[.slice (some ⟨b, o, none⟩) ss.length cap] w fun e w' => e = .returned (.int .u64 (partsZ ss)) ∧ w = w' := by
 unfold maxLen at hn
 go_enter Tryz.func69, Tryz.ntmps69
 go_wp2
 go_loop [3, 8] (fun t i => ∃ k : Nat, k ≤ ss.length ∧ i = .int .i64 k ∧ t = .int .u64 (partsZ (ss.take k))) (fun _ i => ss.length - (intOf i).toNat)
 case atStart => exact ⟨0, Nat.zero_le _, rfl, rfl⟩
 case round =>
  obtain ⟨k, hk, rfl, rfl⟩ := hrel
  by_cases hlt : k < ss.length
  ·have H := Lib.hid (partsZ_next ss k hlt)
   have hcell := hc k hlt
   have hsz : (ss.getD k ByteArray.empty).size ≤ maxLen := by
    rw [getD_at ss k hlt]; exact hs _ (List.getElem_mem hlt)
   clear hc
   generalize ss.getD k ByteArray.empty = s at hcell hsz H
   go_wp2_with (go_at_call 102; refine (part_any _ _ hsz _).mono ?_; rintro e w' ⟨rfl, rfl⟩)
   go_round
   case rel => exact ⟨k + 1, by omega, by go_num, by rw [H.out]⟩
   case measure => simp [intOf]; omega
  ·go_wp2
   go_ret
   exact ⟨ret_u64 (partsZ_all ss k hk hlt), rfl⟩
end Go.Proofs.YticophaepapjoaaGreatDoor
namespace Go.Proofs.YticophaepapjoaaGreatDoor
open Go Go.RowKit
structure TabOk (h : ByteArray → Nat) (T : Tab) (n : Nat) (st : IxSt) : Prop where
 perm : (ents T n).Perm st
 nd : (st.map (·.1)).Nodup
 hash : ∀ i, i < n → (T i).full = true → (T i).hash = (h (T i).key : Int)
 path : ∀ i, i < n → (T i).full = true → ∀ d, d ≤ way n (h (T i).key % n) i → (T (nx n (h (T i).key % n) d)).full = true
 room : st.length < n
section
variable {h : ByteArray → Nat} {T : Tab} {n i k d e f : Nat} {st : IxSt} {key : ByteArray} {p : Int}
theorem TabOk.pos (H : TabOk h T n st) : 0 < n := by have := H.room; omega
theorem TabOk.nde (H : TabOk h T n st) : ((ents T n).map (·.1)).Nodup := (H.perm.map (·.1)).nodup_iff.2 H.nd
theorem TabOk.free (H : TabOk h T n st) : ∃ f, f < n ∧ (T f).full = false := free_slot (by rw [H.perm.length_eq]; exact H.room)
theorem TabOk.of_perm {st' : IxSt} (H : TabOk h T n st) (hp : st.Perm st') : TabOk h T n st' :=
 ⟨H.perm.trans hp, (hp.map (·.1)).nodup_iff.1 H.nd, H.hash, H.path, by rw [← hp.length_eq]; exact H.room⟩
structure Seen (h : ByteArray → Nat) (T : Tab) (n : Nat) (key : ByteArray) (d i : Nat) : Prop where
 dn : d < n
 at_ : i = nx n (h key % n) d
 full : ∀ e, e < d → (T (nx n (h key % n) e)).full = true
 none : ∀ e, e < d → (T (nx n (h key % n) e)).key ≠ key
theorem Seen.start (hn : 0 < n) (key : ByteArray) : Seen h T n key 0 (h key % n) :=
 ⟨hn, (nx_zero (Nat.mod_lt _ hn)).symm, fun _ he => by omega, fun _ he => by omega⟩
theorem Seen.lt (S : Seen h T n key d i) : i < n := by
 rw [S.at_]
 exact nx_lt (Nat.mod_lt _ (by have := S.dn; omega)) (by have := S.dn; omega)
theorem Seen.way (S : Seen h T n key d i) : way n (h key % n) i = d := by
 rw [S.at_]
 exact way_nx (Nat.mod_lt _ (by have := S.dn; omega)) S.dn
theorem Seen.next (S : Seen h T n key d i) (hf : f < n) (hff : (T f).full = false) (hi : (T i).full = true) (hk : (T i).key ≠ key) : Seen h T n key (d + 1) (nx n i 1) := by
 have hn : 0 < n := by omega
 have hm := Nat.mod_lt (h key) hn
 have hd : d + 1 < n := by
  refine Classical.byContradiction fun hh => ?_
  have hw := way_lt hm hf
  have hx := nx_way hm hf
  rcases Nat.lt_or_ge (Go.Proofs.YticophaepapjoaaGreatDoor.way n (h key % n) f) d with h1 | h1
  ·have := S.full _ h1
   rw [hx, hff] at this; cases this
  ·have : Go.Proofs.YticophaepapjoaaGreatDoor.way n (h key % n) f = d := by have := S.dn; omega
   rw [this, ← S.at_] at hx
   rw [hx, hff] at hi; cases hi
 refine ⟨hd, ?_, fun e he => ?_, fun e he => ?_⟩
 ·rw [S.at_, nx_one hm hd]
 ·rcases Nat.lt_or_ge e d with h1 | h1
  ·exact S.full e h1
  ·have : e = d := by omega
   rw [this, ← S.at_]; exact hi
 ·rcases Nat.lt_or_ge e d with h1 | h1
  ·exact S.none e h1
  ·have : e = d := by omega
   rw [this, ← S.at_]; exact hk
theorem Seen.miss (S : Seen h T n key d i) (H : TabOk h T n st) (hi : (T i).full = false) : ixGet st key = Option.none := by
 rw [ixGet_none]
 intro x hx hk
 obtain ⟨j, hj, hfj, rfl⟩ := ents_of (H.perm.symm.subset hx)
 have hk : (T j).key = key := hk
 have hm := Nat.mod_lt (h key) H.pos
 have hp := H.path j hj hfj
 rw [hk] at hp
 rcases Nat.lt_or_ge (Go.Proofs.YticophaepapjoaaGreatDoor.way n (h key % n) j) d with h1 | h1
 ·have := S.none _ h1
  rw [nx_way hm hj] at this
  exact this hk
 ·have := hp d h1
  rw [← S.at_, hi] at this; cases this
theorem TabOk.hit (H : TabOk h T n st) (hi : i < n) (hf : (T i).full = true) (hk : (T i).key = key) : ixGet st key = some (T i).pos := by
 refine ixGet_of H.nd (H.perm.subset ?_)
 rw [← hk]
 exact ents_mem hi hf
theorem TabOk.again (H : TabOk h T n st) (hi : i < n) (hf : (T i).full = true) (p : Int) : TabOk h (setT T i ⟨(T i).key, (T i).hash, p, true⟩) n (ixPut st (T i).key p) := by
 have e1 : ent (T i) = [((T i).key, (T i).pos)] := by simp [ent, hf]
 have h1 : st.Perm (((T i).key, (T i).pos) :: ents (setT T i Sl.zero) n) := by
  have := H.perm.symm.trans (ents_take hi)
  rwa [e1] at this
 have hP : (ents (setT T i ⟨(T i).key, (T i).hash, p, true⟩) n).Perm (ixPut st (T i).key p) := by
  refine (ents_take hi).trans ?_
  rw [setT_at, setT_two]
  exact (ixPut_again h1 H.nd).symm
 have hfull : ∀ j, (setT T i ⟨(T i).key, (T i).hash, p, true⟩ j).full = (T j).full := fun j => by
  unfold setT; split
  ·rename_i e; rw [e, hf]
  ·rfl
 have hkey : ∀ j, (setT T i ⟨(T i).key, (T i).hash, p, true⟩ j).key = (T j).key := fun j => by
  unfold setT; split
  ·rename_i e; rw [e]
  ·rfl
 have hhash : ∀ j, (setT T i ⟨(T i).key, (T i).hash, p, true⟩ j).hash = (T j).hash := fun j => by
  unfold setT; split
  ·rename_i e; rw [e]
  ·rfl
 refine ⟨hP, ixPut_nodup H.nd, fun j hj hfj => ?_, fun j hj hfj d hd => ?_, ?_⟩
 ·rw [hfull] at hfj; rw [hhash, hkey]; exact H.hash j hj hfj
 ·rw [hfull] at hfj; rw [hkey] at hd ⊢; rw [hfull]; exact H.path j hj hfj d hd
 ·have hl := congrArg List.length (ixPut_keys st (T i).key p (by rw [H.hit hi hf rfl]; rfl))
  rw [List.length_map, List.length_map] at hl
  rw [hl]
  exact H.room
theorem TabOk.add (H : TabOk h T n st) (S : ∀ e, e < d → (T (nx n (h key % n) e)).full = true) (hd : d < n) (hi : i = nx n (h key % n) d) (hf : (T i).full = false) (hno : ixGet st key = none) (p : Int) (hroom : st.length + 1 < n) :
  TabOk h (setT T i ⟨key, (h key : Int), p, true⟩) n (st ++ [(key, p)]) := by
 have hm := Nat.mod_lt (h key) H.pos
 have hin : i < n := by rw [hi]; exact nx_lt hm (by omega)
 have hfull : ∀ j, (T j).full = true → (setT T i ⟨key, (h key : Int), p, true⟩ j).full = true := fun j hj => by
  unfold setT; split
  ·rfl
  ·exact hj
 refine ⟨?_, ?_, fun j hj hfj => ?_, fun j hj hfj d' hd' => ?_, by simpa using hroom⟩
 ·refine (ents_take hin).trans ?_
  rw [setT_at, setT_two]
  have h1 := ents_take (T := T) hin
  have e0 : ent (T i) = [] := by simp [ent, hf]
  rw [e0, List.nil_append] at h1
  refine List.Perm.trans (List.Perm.append_left _ (h1.symm.trans H.perm)) ?_
  exact List.perm_append_comm
 ·have := ixPut_nodup (k := key) (p := p) H.nd
  rwa [ixPut_new hno] at this
 ·by_cases e : j = i
  ·subst e; rw [setT_at]
  ·rw [setT_ne _ _ e] at hfj ⊢; exact H.hash j hj hfj
 ·by_cases e : j = i
  ·subst e
   rw [setT_at] at hd' ⊢
   have hw : way n (h key % n) j = d := by rw [hi]; exact way_nx hm hd
   have hd' : d' ≤ way n (h key % n) j := hd'
   show (setT T j _ (nx n (h key % n) d')).full = true
   rcases Nat.lt_or_ge d' d with h1 | h1
   ·exact hfull _ (S d' h1)
   ·have : d' = d := by omega
    rw [this, ← hi, setT_at]
  ·rw [setT_ne _ _ e] at hfj hd' ⊢
   exact hfull _ (H.path j hj hfj d' hd')
structure Hole (h : ByteArray → Nat) (T : Tab) (n i k : Nat) (st : IxSt) : Prop where
 hi : i < n
 hk : k < n
 ik : i ≠ k
 stale : (T i).full = true
 perm : (ents (setT T i Sl.zero) n).Perm st
 nd : (st.map (·.1)).Nodup
 hash : ∀ j, j < n → (T j).full = true → (T j).hash = (h (T j).key : Int)
 path : ∀ j, j < n → (T j).full = true → j ≠ i → ∀ d, d ≤ way n (h (T j).key % n) j → (T (nx n (h (T j).key % n) d)).full = true
 seg : ∀ j, j < n → (T j).full = true → j ≠ i → way n i j < way n i k → way n (h (T j).key % n) j < way n i j
 full : ∀ e, e < way n i k → (T (nx n i e)).full = true
theorem Hole.start (H : TabOk h T n st) (hi : i < n) (hf : (T i).full = true) : Hole h T n i (nx n i 1) (ixDrop st (T i).key) := by
 obtain ⟨f, hf1, hf2⟩ := H.free
 have hfi : f ≠ i := fun e => by rw [e, hf] at hf2; cases hf2
 have hn : 1 < n := by omega
 have hw : way n i (nx n i 1) = 1 := way_nx hi hn
 have e1 : ent (T i) = [((T i).key, (T i).pos)] := by simp [ent, hf]
 have h1 : st.Perm (((T i).key, (T i).pos) :: ents (setT T i Sl.zero) n) := by
  have := H.perm.symm.trans (ents_take hi)
  rwa [e1] at this
 refine ⟨hi, nx_lt hi (by omega), ?_, hf, ?_, ixDrop_nodup H.nd, H.hash, fun j hj hfj _ => H.path j hj hfj, fun j hj hfj hji hlt => ?_, fun e he => ?_⟩
 ·have := nx_c n i 1; omega
 ·refine List.Perm.trans ?_ (ixDrop_perm h1).symm
  rw [ixDrop_cons ((h1.map (·.1)).nodup_iff.1 H.nd)]
 ·rw [hw] at hlt
  have h2 := way_c n i j
  omega
 ·rw [hw] at he
  have : e = 0 := by omega
  rw [this, nx_zero hi]; exact hf
theorem Hole.far (H : Hole h T n i k st) (hfn : f < n) (hff : (T f).full = false) (hk : (T k).full = true) : way n i k + 1 < n ∧ way n i (nx n k 1) = way n i k + 1 := by
 have hw := way_lt H.hi H.hk
 have hx := nx_way H.hi H.hk
 have h1 : way n i k + 1 < n := by
  refine Classical.byContradiction fun hh => ?_
  have hwf := way_lt H.hi hfn
  rcases Nat.lt_or_ge (way n i f) (way n i k) with h1 | h1
  ·have := H.full _ h1
   rw [nx_way H.hi hfn, hff] at this; cases this
  ·have e : way n i f = way n i k := by omega
   have := nx_way H.hi hfn
   rw [e, hx] at this
   rw [this, hff] at hk; cases hk
 refine ⟨h1, ?_⟩
 have := way_c n i k
 have := nx_c n k 1
 have := way_c n i (nx n k 1)
 have := H.hi
 have := H.hk
 omega
theorem Hole.stay (H : Hole h T n i k st) (hfn : f < n) (hff : (T f).full = false) (hk : (T k).full = true) (hno : way n (h (T k).key % n) k < way n i k) : Hole h T n i (nx n k 1) st := by
 obtain ⟨h1, h2⟩ := H.far hfn hff hk
 refine ⟨H.hi, nx_lt H.hk (by omega), ?_, H.stale, H.perm, H.nd, H.hash, H.path, fun j hj hfj hji hlt => ?_, fun e he => ?_⟩
 ·intro e
  rw [← e, way_self] at h2; omega
 ·rw [h2] at hlt
  rcases Nat.lt_or_ge (way n i j) (way n i k) with h3 | h3
  ·exact H.seg j hj hfj hji h3
  ·have e : way n i j = way n i k := by omega
   have e2 : j = k := by rw [← nx_way H.hi hj, e, nx_way H.hi H.hk]
   subst e2
   exact hno
 ·rw [h2] at he
  rcases Nat.lt_or_ge e (way n i k) with h3 | h3
  ·exact H.full e h3
  ·have : e = way n i k := by omega
   rw [this, nx_way H.hi H.hk]; exact hk
theorem Hole.move (H : Hole h T n i k st) (hfn : f < n) (hff : (T f).full = false) (hk : (T k).full = true) (hyes : way n i k ≤ way n (h (T k).key % n) k) : Hole h (setT T i (T k)) n k (nx n k 1) st := by
 have hn : 0 < n := by omega
 have hfull : ∀ j, (setT T i (T k) j).full = (T j).full := fun j => by
  unfold setT; split
  ·rename_i e; rw [e, H.stale, hk]
  ·rfl
 have hfk : f ≠ k := fun e => by rw [e, hk] at hff; cases hff
 have hn1 : 1 < n := by have := H.hk; omega
 have hw1 : way n k (nx n k 1) = 1 := way_nx H.hk hn1
 have hki : k ≠ i := Ne.symm H.ik
 refine ⟨H.hk, nx_lt H.hk (by omega), ?_, by rw [hfull]; exact hk, ?_, H.nd, fun j hj hfj => ?_, fun j hj hfj hjk d hd => ?_, fun j hj hfj hjk hlt => ?_, fun e he => ?_⟩
 ·have := nx_c n k 1; have := H.hk; omega
 ·refine List.Perm.trans ?_ H.perm
  have p1 := ents_take (T := setT (setT T i (T k)) k Sl.zero) H.hi
  have p2 := ents_take (T := setT T i Sl.zero) H.hk
  have e1 : setT (setT T i (T k)) k Sl.zero i = T k := by rw [setT_ne _ _ H.ik, setT_at]
  have e2 : setT T i Sl.zero k = T k := setT_ne _ _ hki
  have e3 : setT (setT (setT T i (T k)) k Sl.zero) i Sl.zero = setT (setT T i Sl.zero) k Sl.zero := by
   funext j; unfold setT
   by_cases a : j = i
   ·have : j ≠ k := fun b => hki (b.symm.trans a)
    simp [a, H.ik]
   ·simp [a]
  rw [e1, e3] at p1
  rw [e2] at p2
  exact p1.trans p2.symm
 ·by_cases e : j = i
  ·subst e; rw [setT_at]; exact H.hash k H.hk hk
  ·rw [setT_ne _ _ e] at hfj ⊢; exact H.hash j hj hfj
 ·rw [hfull]
  by_cases e : j = i
  ·subst e
   rw [setT_at] at hd ⊢
   refine H.path k H.hk hk hki d ?_
   have hm := Nat.mod_lt (h (T k).key) hn
   generalize h (T k).key % n = m at hm hd hyes ⊢
   have := way_c n m j
   have := way_c n m k
   have := way_c n j k
   have := H.hi
   have := H.hk
   omega
  ·rw [hfull] at hfj
   rw [setT_ne _ _ e] at hd ⊢
   exact H.path j hj hfj e d hd
 ·rw [hw1] at hlt
  have := way_c n k j
  have := H.hk
  omega
 ·rw [hw1] at he
  have : e = 0 := by omega
  rw [this, nx_zero H.hk, hfull]; exact hk
theorem Hole.done (H : Hole h T n i k st) (hk : (T k).full = false) : TabOk h (setT T i Sl.zero) n st := by
 have hn : 0 < n := by have := H.hi; omega
 have hf : ∀ j, (setT T i Sl.zero j).full = true → j ≠ i ∧ (T j).full = true := fun j hj => by
  unfold setT at hj
  split at hj
  ·cases hj
  ·rename_i e; exact ⟨e, hj⟩
 refine ⟨H.perm, H.nd, fun j hj hfj => ?_, fun j hj hfj d hd => ?_, ?_⟩
 ·obtain ⟨e, h1⟩ := hf j hfj
  rw [setT_ne _ _ e]; exact H.hash j hj h1
 ·obtain ⟨e, h1⟩ := hf j hfj
  rw [setT_ne _ _ e] at hd ⊢
  have hp := H.path j hj h1 e
  have hm := Nat.mod_lt (h (T j).key) hn
  by_cases hx : nx n (h (T j).key % n) d = i
  ·exfalso
   have hs := H.seg j hj h1 e
   generalize h (T j).key % n = m at hp hs hd hx hm
   have hlt : way n i j < way n i k := by
    refine Classical.byContradiction fun hh => ?_
    have hlast := hp (d + way n i k) (by
     have := way_c n m j
     have := way_c n i j
     have := nx_c n m d
     have := H.hi
     omega)
    have e3 : nx n m (d + way n i k) = k := by
     have := nx_c n m (d + way n i k)
     have := way_c n i k
     have := way_c n i j
     have := way_c n m j
     have := nx_c n m d
     have := H.hi
     have := H.hk
     omega
    rw [e3, hk] at hlast; cases hlast
   have := hs hlt
   have := way_c n m j
   have := way_c n i j
   have := nx_c n m d
   have := H.hi
   omega
  ·rw [setT_ne _ _ hx]; exact hp d hd
 ·rw [← H.perm.length_eq]
  refine Classical.byContradiction fun hh => ?_
  have h1 := ents_len (setT T i Sl.zero) n
  have h2 := (ents_take (T := setT T i Sl.zero) H.hi).length_eq
  rw [setT_at, setT_two] at h2
  have h3 := (ents_take (T := setT (setT T i Sl.zero) k ⟨⟨#[]⟩, 0, 0, true⟩) H.hk).length_eq
  rw [setT_at, setT_two] at h3
  have h4 := ents_len (setT (setT T i Sl.zero) k ⟨⟨#[]⟩, 0, 0, true⟩) n
  have h5 := (ents_take (T := setT T i Sl.zero) H.hk).length_eq
  rw [setT_ne _ _ (Ne.symm H.ik)] at h5
  simp [ent, hk] at h5 h3
  omega
end
end Go.Proofs.YticophaepapjoaaGreatDoor
namespace Go.Proofs.YticophaepapjoaaGreatDoor
open Go Go.RowKit Go.Joins
def tabV (T : Tab) (m : Nat) : Value :=
 if m % 4 = 0 then .string (T (m / 4)).key else if m % 4 = 1 then .int .u64 (T (m / 4)).hash else if m % 4 = 2 then .int .i64 (T (m / 4)).pos else .bool (T (m / 4)).full
structure TabAt (w : World) (g n : Nat) (T : Tab) : Prop where
 cell : ∀ m, m < 4 * n → w.cell? ⟨g, m, none⟩ = some (tabV T m)
 ice : ∀ m, w.frozen? ⟨g, m, none⟩ = false
 lt : g < w.heap.size
section
variable {w w' : World} {g n i : Nat} {T : Tab} {G : Nat → Prop}
theorem TabAt.c0 (h : TabAt w g n T) (hi : i < n) : w.cell? ⟨g, i * 4, none⟩ = some (.string (T i).key) := by
 have := h.cell (i * 4) (by omega)
 rwa [tabV, if_pos (by omega), Nat.mul_div_cancel _ (by decide)] at this
theorem TabAt.c1 (h : TabAt w g n T) (hi : i < n) : w.cell? ⟨g, i * 4 + 1, none⟩ = some (.int .u64 (T i).hash) := by
 have := h.cell (i * 4 + 1) (by omega)
 rwa [tabV, if_neg (by omega), if_pos (by omega), show (i * 4 + 1) / 4 = i by omega] at this
theorem TabAt.c2 (h : TabAt w g n T) (hi : i < n) : w.cell? ⟨g, i * 4 + 2, none⟩ = some (.int .i64 (T i).pos) := by
 have := h.cell (i * 4 + 2) (by omega)
 rwa [tabV, if_neg (by omega), if_neg (by omega), if_pos (by omega), show (i * 4 + 2) / 4 = i by omega] at this
theorem TabAt.c3 (h : TabAt w g n T) (hi : i < n) : w.cell? ⟨g, i * 4 + 3, none⟩ = some (.bool (T i).full) := by
 have := h.cell (i * 4 + 3) (by omega)
 rwa [tabV, if_neg (by omega), if_neg (by omega), if_neg (by omega), show (i * 4 + 3) / 4 = i by omega] at this
theorem TabAt.keep (h : TabAt w g n T) (hk : Keeps G w w') (hg : G g) : TabAt w' g n T :=
 ⟨fun m hm => hk.cell (h.cell m hm) hg, fun m => by rw [hk.frozen (p := ⟨g, m, none⟩) h.lt hg]; exact h.ice m, Nat.lt_of_lt_of_le h.lt hk.size⟩
theorem TabAt.store (h : TabAt w g n T) (hi : i < n) (s : Sl) : TabAt ((((w.setCell ⟨g, i * 4, none⟩ (.string s.key)).setCell ⟨g, i * 4 + 1, none⟩ (.int .u64 s.hash)).setCell ⟨g, i * 4 + 2, none⟩ (.int .i64 s.pos)).setCell ⟨g, i * 4 + 3, none⟩ (.bool s.full)) g n (setT T i s) := by
 refine ⟨fun m hm => ?_, fun m => ?_, by simpa using h.lt⟩
 ·have oth : ∀ (W : World) (a b : Nat) (v : Value), a ≠ b → (W.setCell ⟨g, a, none⟩ v).cell? ⟨g, b, none⟩ = W.cell? ⟨g, b, none⟩ := fun W a b v hab => World.cell?_setCell_other _ _ _ _ (fun e => hab (by injection e))
  have h0 := h.c0 hi
  have h1 := h.c1 hi
  have h2 := h.c2 hi
  have h3 := h.c3 hi
  by_cases e : m / 4 = i
  ·have hT : setT T i s (m / 4) = s := by rw [e]; exact setT_at T i s
   unfold tabV
   rw [hT]
   by_cases e0 : m % 4 = 0
   ·obtain rfl : m = i * 4 := by omega
    rw [if_pos e0, oth _ (i * 4 + 3) _ _ (by omega), oth _ (i * 4 + 2) _ _ (by omega), oth _ (i * 4 + 1) _ _ (by omega)]
    exact World.cell?_setCell_same _ _ _ h0
   ·rw [if_neg e0]
    by_cases e1 : m % 4 = 1
    ·obtain rfl : m = i * 4 + 1 := by omega
     rw [if_pos e1, oth _ (i * 4 + 3) _ _ (by omega), oth _ (i * 4 + 2) _ _ (by omega)]
     refine World.cell?_setCell_same (u := .int .u64 (T i).hash) _ _ _ ?_
     rw [oth _ (i * 4) _ _ (by omega)]; exact h1
    ·rw [if_neg e1]
     by_cases e2 : m % 4 = 2
     ·obtain rfl : m = i * 4 + 2 := by omega
      rw [if_pos e2, oth _ (i * 4 + 3) _ _ (by omega)]
      refine World.cell?_setCell_same (u := .int .i64 (T i).pos) _ _ _ ?_
      rw [oth _ (i * 4 + 1) _ _ (by omega), oth _ (i * 4) _ _ (by omega)]; exact h2
     ·obtain rfl : m = i * 4 + 3 := by omega
      rw [if_neg e2]
      refine World.cell?_setCell_same (u := .bool (T i).full) _ _ _ ?_
      rw [oth _ (i * 4 + 2) _ _ (by omega), oth _ (i * 4 + 1) _ _ (by omega), oth _ (i * 4) _ _ (by omega)]; exact h3
  ·rw [oth _ (i * 4 + 3) _ _ (by omega), oth _ (i * 4 + 2) _ _ (by omega), oth _ (i * 4 + 1) _ _ (by omega), oth _ (i * 4) _ _ (by omega), h.cell m hm]
   unfold tabV
   rw [setT_ne _ _ e]
 ·rw [World.frozen?_setCell, World.frozen?_setCell, World.frozen?_setCell, World.frozen?_setCell]; exact h.ice m
end
def IxBlk (w : World) (q : Nat) (V : Value) (c : Nat) : Prop := w.heap[q]? = some (.cells #[V, .int .i64 (c : Int)] 129 (0, 0))
structure IxAt (w : World) (q g n c : Nat) (T : Tab) : Prop where
 blk : IxBlk w q (.slice (some ⟨g, 0, none⟩) n n) c
 tab : TabAt w g n T
 ne : g ≠ q
section
variable {w w' : World} {q g n c i : Nat} {T : Tab} {G : Nat → Prop} {V : Value}
theorem IxBlk.keep (h : IxBlk w q V c) (hk : Keeps G w w') (hq : G q) : IxBlk w' q V c := (hk.block q hq (Array.getElem?_eq_some_iff.1 h).1).trans h
theorem IxBlk.lt (h : IxBlk w q V c) : q < w.heap.size := (Array.getElem?_eq_some_iff.1 h).1
theorem IxBlk.c0 (h : IxBlk w q V c) : w.cell? ⟨q, 0, none⟩ = some V := (cell_of_block h 0).trans rfl
theorem IxBlk.c1 (h : IxBlk w q V c) : w.cell? ⟨q, 1, none⟩ = some (.int .i64 (c : Int)) := (cell_of_block h 1).trans rfl
theorem IxBlk.f0 (h : IxBlk w q V c) (i : Nat) : w.frozen? ⟨q, i, none⟩ = false := unfrozen_of_block h i
theorem IxBlk.set0 (h : IxBlk w q V c) (V' : Value) : IxBlk (w.setCell ⟨q, 0, none⟩ V') q V' c := (block_setCell h V').trans rfl
theorem IxBlk.set1 (h : IxBlk w q V c) (c' : Nat) : IxBlk (w.setCell ⟨q, 1, none⟩ (.int .i64 (c' : Int))) q V c' := (block_setCell h _).trans rfl
theorem IxAt.keep (h : IxAt w q g n c T) (hk : Keeps G w w') (hq : G q) (hg : G g) : IxAt w' q g n c T := ⟨h.blk.keep hk hq, h.tab.keep hk hg, h.ne⟩
end
theorem modN_cast (h n : Nat) : ((h : Int).tmod (n : Int)) = ((h % n : Nat) : Int) := by
 rw [Int.tmod_eq_emod_of_nonneg (by omega)]; rfl
set_option maxRecDepth 100000 in
set_option maxHeartbeats 1000000 in
theorem home_any (w : World) (q g n c : Nat) (T : Tab) (hI : IxAt w q g n c T) (h0 : 0 < n) (hn : n ≤ 1099511627776) (h : Nat) (hh : h < 18446744073709551616) :
  Calls Tryz.prog 100 #[.pointer (some ⟨q, 0, none⟩), .int .u64 (h : Int)] w fun e w' => e = .returned (.int .i64 ((h % n : Nat) : Int)) ∧ w' = w := by
 have c0 := hI.blk.c0
 have hm := modN_cast h n
 have hl := Nat.mod_lt h h0
 obtain ⟨r, hr⟩ : ∃ r, h % n = r := ⟨_, rfl⟩
 rw [hr] at hm hl ⊢
 have e2 : ((h : Int) % (n : Int)) = (r : Int) := by rw [← hr]; rfl
 clear hI hr
 go_enter Tryz.func100, Tryz.ntmps100
 go_wp2_with fail
 go_ret
 exact ⟨rfl, rfl⟩
set_option maxRecDepth 100000 in
set_option maxHeartbeats 1000000 in
theorem ixbehind_any (w : World) (q g n c : Nat) (T : Tab) (hI : IxAt w q g n c T) (i : Nat) (hi : i < n) (hn : n ≤ 1099511627776) :
  Calls Tryz.prog 101 #[.pointer (some ⟨q, 0, none⟩), .int .i64 (i : Int)] w fun e w' => e = .returned (.int .i64 ((nx n i 1 : Nat) : Int)) ∧ w' = w := by
 have c0 := hI.blk.c0
 have hm : (((i : Int) + 1).tmod (n : Int)) = ((nx n i 1 : Nat) : Int) := by
  rw [show (i : Int) + 1 = ((i + 1 : Nat) : Int) by omega, modN_cast]
  congr 1
  rcases nx_c n i 1 with ⟨h1, h2⟩ | ⟨h1, h2⟩
  ·rw [h2, Nat.mod_eq_of_lt h1]
  ·rw [h2, show i + 1 = n by omega, Nat.mod_self]; omega
 have e2 : (((i : Int) + 1) % (n : Int)) = ((nx n i 1 : Nat) : Int) := by rw [← hm, Int.tmod_eq_emod_of_nonneg (by omega)]
 generalize nx n i 1 = r at *
 clear hI
 go_enter Tryz.func101, Tryz.ntmps101
 go_wp2_with fail
 go_ret
 exact ⟨rfl, rfl⟩
set_option maxRecDepth 100000 in
set_option maxHeartbeats 1000000 in
theorem way_any (w : World) (q g n c : Nat) (T : Tab) (hI : IxAt w q g n c T) (i k : Nat) (hi : i < n) (hk : k < n) (hn : n ≤ 1099511627776) :
  Calls Tryz.prog 173 #[.pointer (some ⟨q, 0, none⟩), .int .i64 (i : Int), .int .i64 (k : Int)] w fun e w' => e = .returned (.int .i64 ((way n i k : Nat) : Int)) ∧ Kp w w' := by
 have c0 := hI.blk.c0
 have hm : (((k : Int) - (i : Int) + (n : Int)).tmod (n : Int)) = ((way n i k : Nat) : Int) := by
  rw [show (k : Int) - (i : Int) + (n : Int) = ((k + n - i : Nat) : Int) by omega, modN_cast]
  congr 1
  rcases way_c n i k with ⟨h1, h2⟩ | ⟨h1, h2⟩
  ·rw [h2, show k + n - i = (k - i) + n by omega, Nat.add_mod_right, Nat.mod_eq_of_lt (by omega)]
  ·rw [h2, Nat.mod_eq_of_lt (by omega)]
 have e2 : (((k : Int) - (i : Int) + (n : Int)) % (n : Int)) = ((way n i k : Nat) : Int) := by rw [← hm, Int.tmod_eq_emod_of_nonneg (by omega)]
 generalize way n i k = r at *
 clear hI
 go_enter Tryz.func173, Tryz.ntmps173
 go_wp2_with fail
 go_region
 go_wp2_with fail
 go_ret
 exact ⟨rfl, (Keeps.refl _ _).drew⟩
def hashN (s : ByteArray) : Nat := (partsZ [s]).toNat
theorem hashZ_is (s : ByteArray) : 0 ≤ partsZ [s] ∧ partsZ [s] < 18446744073709551616 := by
 show 0 ≤ endZ _ _ ∧ endZ _ _ < _
 unfold endZ
 exact ⟨stZ_nonneg _, stZ_lt _⟩
theorem hashN_cast (s : ByteArray) : ((hashN s : Nat) : Int) = partsZ [s] := by
 have := hashZ_is s
 unfold hashN; omega
theorem hashN_lt (s : ByteArray) : hashN s < 18446744073709551616 := by
 have := hashZ_is s
 unfold hashN; omega
theorem hash_any (s : ByteArray) (b : Nat) (w : World) (hs : s.size ≤ 1000000) (hc : w.cell? ⟨b, 0, none⟩ = some (.string s)) :
  Calls Tryz.prog 69 #[.slice (some ⟨b, 0, none⟩) 1 1] w fun e w' => e = .returned (.int .u64 ((hashN s : Nat) : Int)) ∧ w' = w := by
 rw [hashN_cast]
 refine (of_any [s] b 0 1 w (show 1 ≤ maxLen by decide) (by intro x hx; simp at hx; rw [hx]; unfold maxLen; omega)
  (fun i hi => by have hi0 : i = 0 := by simpa using hi
                  subst hi0; exact hc)).mono ?_
 rintro e w' ⟨rfl, rfl⟩
 exact ⟨rfl, rfl⟩
theorem src_item (W : World) (x : It) : Src Tryz.prog 4 133 (.slice (some ⟨W.heap.size, 0, none⟩) 1 1) 1 x.cells (W.alloc (.cells #[.string x.key, .string x.val, .int .i64 x.till, .bool x.gone] 40)) :=
 Src.ofSlice _ Tryz.underlying133 ⟨W.heap.size, 0, none⟩ 1 1 x.cells rfl (fun j v hv => by
  rw [WideShapes.add_plain, Nat.zero_add]
  exact (cell_alloc_mark_at W _ _ _ W.heap.size j rfl).trans (by rw [← hv, ← Array.getElem?_toList]; rfl)) (fun v hv => by
  simp only [It.cells, List.mem_cons, List.not_mem_nil, or_false] at hv
  rcases hv with rfl | rfl | rfl | rfl <;> rfl)
end Go.Proofs.YticophaepapjoaaGreatDoor
namespace Go.Proofs.YticophaepapjoaaGreatDoor
open Go Go.RowKit
def Unfr (w : World) (A : Option Addr) (n : Nat) : Prop := ∀ b o, 0 < n → A = some ⟨b, o, none⟩ → ∀ i, w.frozen? ⟨b, i, none⟩ = false
theorem Unfr.own {w : World} {base n size c : Nat} {e : TypeId} {A : Option Addr} {xs : List Value} (h : w.ownsRow base e size (.slice A n c) n xs) : Unfr w A n := fun b o _ ha i => by
 rcases h.2 with ⟨h', _⟩ | ⟨g', cap', cur, h', _, hg, _⟩
 ·injection h' with h'; rw [ha] at h'; cases h'
 ·injection h' with h'
  rw [ha] at h'
  injection h' with h'
  injection h' with h'
  subst h'
  simp [World.frozen?, hg]
end Go.Proofs.YticophaepapjoaaGreatDoor
namespace Go.Proofs.YticophaepapjoaaGreatDoor
open Go Go.RowKit Go.Joins
theorem bytes_ahead {l m : List It} {r : List UInt8} (hl : l.all It.may = true) (hm : m.all It.may = true) (h : bytesOf m = bytesOf l ++ r) : ∃ n, m = l ++ n ∧ r = bytesOf n ∧ n.all It.may = true := by
 induction l generalizing m with
 | nil => exact ⟨m, rfl, by simpa [bytesOf] using h.symm, hm⟩
 | cons x l ih =>
  cases m with
  | nil =>
   have := x.bytes_pos
   rw [bytesOf_cons] at h
   have h2 := congrArg List.length h
   simp only [List.length_append, bytesOf, List.flatMap_nil, List.length_nil] at h2
   omega
  | cons y m =>
   rw [List.all_cons, Bool.and_eq_true] at hl hm
   rw [bytesOf_cons, bytesOf_cons, List.append_assoc] at h
   obtain ⟨rfl, e⟩ := It.bytes_inj hm.1 hl.1 h
   obtain ⟨n, rfl, e2, e3⟩ := ih hl.2 hm.2 e
   exact ⟨n, rfl, e2, e3⟩
theorem own_form4 {w : World} {base n size : Nat} {e : TypeId} {v : Value} {xs : List Value} (h : w.ownsRow base e size v n xs) : ∃ A c, v = .slice A n c := by
 rcases h.2 with ⟨rfl, h0⟩ | ⟨g, cap, cur, rfl, r⟩
 ·exact ⟨none, 0, by rw [h0]⟩
 ·exact ⟨_, _, rfl⟩
set_option maxRecDepth 100000 in
set_option maxHeartbeats 1600000 in
theorem idecode (w : World) (A : Option Addr) (c : Nat) (b : List UInt8) (h : Row w A (fun _ => True) (bcells b)) (hlc : b.length ≤ c) (hcm : c ≤ maxLen) (hl : b.length ≤ 1000000) :
  Calls Tryz.prog 120 #[.slice A b.length c] w fun e w' => Keeps (fun _ => True) w w' ∧
   ((∃ B k l, e = .returned (.tuple #[.slice B l.length k, .int .i64 0]) ∧ l ≠ [] ∧ l.all It.may = true ∧ bytesOf l = b ∧ l.length ≤ k ∧ k ≤ maxLen ∧ ItsAt w' B (fun b => w.heap.size ≤ b ∧ b < w'.heap.size) l ∧ Unfr w' B l.length) ∨
    ((∀ l : List It, l ≠ [] → l.all It.may = true → bytesOf l ≠ b) ∧ ∃ B k, e = .returned (.tuple #[.slice B 0 k, .int .i64 1]))) := by
 unfold maxLen at hcm
 have HH := Lib.hid h
 obtain ⟨n, hn⟩ : ∃ n, b.length = n := ⟨_, rfl⟩
 have HN := Lib.hid hn
 rw [hn] at hlc hl ⊢
 clear hn h
 go_enter Tryz.func120, Tryz.ntmps120
 go_wp2_with fail
 go_loopw [0, 4] (fun s v wr => ∃ (A1 : Option Addr) (m c1 : Nat) (l : List It) (r : List UInt8), s = .slice A1 m c1 ∧ RowKit.Hid (r.length = m) ∧ m ≤ c1 ∧ c1 ≤ c ∧ m ≤ n ∧ RowKit.Hid (b = bytesOf l ++ r) ∧ RowKit.Hid (l.all It.may = true) ∧ RowKit.Hid (Row w A1 (fun _ => True) (bcells r)) ∧
   RowKit.Hid (wr.ownsRow w.heap.size 40 4 v l.length (itCells l)) ∧ RowKit.Hid (Kp w wr)) (fun s _ _ => match s with | .slice _ m _ => m | _ => 0)
 case atStart => exact ⟨A, n, c, [], b, rfl, HN, hlc, Nat.le_refl _, Nat.le_refl _, Lib.hid rfl, Lib.hid rfl, HH, Lib.hid (World.ownsRow_nil _ _ _ _), Lib.hid (Keeps.refl _ _)⟩
 case round =>
  obtain ⟨A1, m, c1, l, r, rfl, hm, hmc, hcc, hmn, hbr, hall, hrow, hown, hkp⟩ := hrel
  have hll : l.length ≤ 1000000 := by
   have h1 := bytesOf_four l
   have h2 := congrArg List.length hbr.out
   rw [List.length_append, HN.out] at h2
   omega
  by_cases hpos : 0 < m
  ·have HD := Lib.hid (show Calls Tryz.prog 152 #[.slice A1 m c1] wr fun e w' => Kp wr w' ∧ DecPost r e from by
    have := idecode1 wr A1 c1 r (hrow.out.keep hkp.out) (by rw [hm.out]; exact hmc) (by unfold maxLen; omega) (by rw [hm.out]; omega)
    rw [hm.out] at this
    exact this)
   have t1 : decide ((0 : Int) < (m : Int)) = true := by simp; omega
   go_wp2_with fail
   refine HD.out.mono ?_
   rintro e w1 ⟨hk1, (⟨x, r2, rfl, hx, hr2⟩ | ⟨er, he0, her, rfl, hno⟩)⟩
   ·have HX := Lib.hid hx
    have HR2 := Lib.hid hr2
    have hbl := It.bytes_len hx
    have hbp := x.bytes_pos
    have hxm := hm.out
    rw [hr2, List.length_append] at hxm
    obtain ⟨z, hz⟩ : ∃ z, x.bytes.length = z := ⟨_, rfl⟩
    have HZ := Lib.hid hz
    rw [hz] at hbl hbp hxm
    obtain ⟨z2, hz2⟩ : ∃ z2, r2.length = z2 := ⟨_, rfl⟩
    have HZ2 := Lib.hid hz2
    rw [hz2] at hxm
    rw [hz]
    have hzm : z ≤ m := by omega
    have hz2m : m - z = z2 := by omega
    have HK1 := Lib.hid (hkp.out.trans hk1)
    have HOWN := Lib.hid (hk1.own hown.out fun _ _ => trivial)
    have hsrc := src_item (w1.alloc (.cells #[.string x.key, .string x.val, .int .i64 x.till, .bool x.gone] 40)) x
    rw [show (w1.alloc (.cells #[.string x.key, .string x.val, .int .i64 x.till, .bool x.gone] 40)).heap.size = w1.heap.size + 1 by simp] at hsrc
    have HSRC := Lib.hid hsrc
    clear hsrc
    obtain ⟨g, o, rfl, -, -⟩ := hrow.out.at_ (k := 0) (by rw [bcells_len, hm.out]; omega)
    have hsz := HK1.out.size
    have hl1 : l.length + 1 ≤ 1000001 := by omega
    obtain ⟨q, hq⟩ : ∃ q, l.length = q := ⟨_, rfl⟩
    have HQ := Lib.hid hq
    rw [hq] at hl1 HOWN
    clear hz hz2 hx hr2 hk1 HD hq hll hown hkp
    go_wp2_with (at_builtin; refine item_elem.list_append rfl (.tmp 19) (.tmp 21) _ rfl rfl ((HOWN.out.alloc _).alloc _) rfl HSRC.out ?c3 ?c4 ?c5 ?_)
    case c3 => unfold maxLen; omega
    case c4 => omega
    case c5 => simp; omega
    intro v3 w3 ho3 hg3 hb3
    have hk3 : Kp w w3 := ((HK1.out.alloc _).alloc _).grown hg3 fun j hj => (HOWN.out.lt j hj).1
    have HK3 := Lib.hid hk3
    have HO3 := Lib.hid (show w3.ownsRow w.heap.size 40 4 v3 (l ++ [x]).length (itCells (l ++ [x])) from by
     rw [itCells_snoc, List.length_append, HQ.out]
     exact ho3)
    have HA3 := Lib.hid (show (l ++ [x]).all It.may = true from by simp [hall.out, HX.out])
    have HB3 := Lib.hid (show b = bytesOf (l ++ [x]) ++ r2 from by rw [bytesOf_snoc, List.append_assoc, ← HR2.out]; exact hbr.out)
    have HD2 := Lib.hid (show r.drop z = r2 from by rw [HR2.out, ← HZ.out]; exact List.drop_left)
    clear hk3 ho3 hg3 hb3 HSRC HOWN HK1
    by_cases hcz : c1 = z
    ·have hmz : m = z := by omega
     subst hcz
     have HMZ := Lib.hid hmz
     clear hmz
     go_wp2_with fail
     go_roundw
     case rel => exact ⟨_, _, _, l ++ [x], r2, rfl, Lib.hid (by have := HZ2.out; have := HMZ.out; omega), by omega, by omega, by omega, HB3, HA3, Lib.hid (by rw [List.eq_nil_of_length_eq_zero (show r2.length = 0 by have := HZ2.out; have := HMZ.out; omega)]; exact Row.nil _ _ _), HO3, HK3⟩
     case measure => have := HMZ.out; simp; omega
    ·have HROW := Lib.hid (cut_row hrow.out hm.out hzm hmc hcz)
     rw [HD2.out] at HROW
     have hnz : ¬ c1 = z := hcz
     have hzc : z ≤ c1 := by omega
     go_wp2_with fail
     go_roundw
     case rel => exact ⟨_, _, _, l ++ [x], r2, rfl, Lib.hid (by have := HZ2.out; omega), by omega, by omega, by omega, HB3, HA3, HROW, HO3, HK3⟩
     case measure => simp; omega
   ·have HNO := Lib.hid hno
    have t2 : ((er : Int) != 0) = true := by simp; omega
    have HK1 := Lib.hid (hkp.out.trans hk1)
    clear hno hk1 HD
    go_wp2_with fail
    go_ret2
    refine ⟨HK1.out.alloc _, .inr ⟨fun l' hne hall' hb' => ?_, none, 0, rfl⟩⟩
    obtain ⟨n', rfl, hr', hn'⟩ := bytes_ahead hall.out hall' (hb'.trans hbr.out)
    cases n' with
    | nil =>
     have := hm.out
     rw [hr'] at this
     simp [bytesOf] at this
     omega
    | cons y n' =>
     rw [List.all_cons, Bool.and_eq_true] at hn'
     exact HNO.out y _ hn'.1 (hr'.trans (bytesOf_cons _ _))
  ·obtain rfl : m = 0 := by omega
   have hr0 : r = [] := List.eq_nil_of_length_eq_zero hm.out
   by_cases hl0 : l = []
   ·have HL0 := Lib.hid hl0
    subst hl0
    obtain ⟨A2, c2, rfl⟩ := own_form4 hown.out
    go_wp2_with fail
    go_ret2
    refine ⟨hkp.out, .inr ⟨fun l' hne hall' hb' => ?_, none, 0, rfl⟩⟩
    have := bytesOf_pos hne
    rw [hb', hbr.out, hr0] at this
    simp [bytesOf] at this
   ·have hlp := List.length_pos_iff.2 hl0
    obtain ⟨g2, c2, rfl, -, -⟩ := hown.out.form hlp
    have HOWN := hown.out
    have t2 : ((l.length : Int) == 0) = false := by simp; omega
    have HL := Lib.hid (own_room HOWN)
    have HI := Lib.hid (ItsAt.of_own HOWN rfl)
    have HU := Lib.hid (Unfr.own HOWN)
    have HL0 := Lib.hid hl0
    have HR0 := Lib.hid hr0
    clear hl0 HOWN hr0
    go_wp2_with fail
    go_ret2
    exact ⟨hkp.out, .inl ⟨_, c2, l, rfl, HL0.out, hall.out, by rw [hbr.out, HR0.out, List.append_nil], HL.out.1, HL.out.2, HI.out, HU.out⟩⟩
def theItems : ItemOK where
 T := fun _ => True
 tk := fun _ _ => trivial
 may := fun w x _ hx => imay w x hx
 live := fun w x now _ hx h1 h2 => ilive w x hx now h1 h2
 encode := fun w A c l _ hA hl hc hn hf => iencode w A c l hA hl hc hn hf
 decode := fun w A c b _ h h1 h2 h3 => (idecode w A c b h h1 h2 h3).mono fun e w' hh => ⟨hh.1, hh.2.imp (fun ⟨B, k, l, e1, e2, e3, e4, e5, e6, e7, _⟩ => ⟨B, k, l, e1, e2, e3, e4, e5, e6, e7⟩) id⟩
end Go.Proofs.YticophaepapjoaaGreatDoor
