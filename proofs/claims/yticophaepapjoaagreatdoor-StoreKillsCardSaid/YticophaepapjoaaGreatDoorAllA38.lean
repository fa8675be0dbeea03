/-
  FlFind, FlGet, FlKeys, FlNil, JnSince: texts of mine, joined.
-/
import Derived.Test.YticophaepapjoaaGreatDoorAllA34
import Derived.Test.YticophaepapjoaaGreatDoorAllA37
import Derived.Lib.MinMax
namespace Go.Proofs.YticophaepapjoaaGreatDoor
open Go Go.RowKit Go.Joins
def findE (st : FSt) (k : ByteArray) : Ending :=
 match st.at_ k with
 | some x => .returned (.tuple #[.agg #[.string x.key, .string x.val, .int .i64 x.till, .bool x.gone], .bool true])
 | none => .returned (.tuple #[.agg #[.string ⟨#[]⟩, .string ⟨#[]⟩, .int .i64 0, .bool false], .bool false])
set_option maxRecDepth 100000 in
set_option maxHeartbeats 2000000 in
theorem cfind (S : Slog2) (I : IndexOK) (J : ItemOK) (w : World) (hT : S.T w ∧ I.T w ∧ J.T w) (p q : Nat) (F Fs : Foot) (s : SDev) (st : FSt) (hd : DAt w p F s) (hr : flashRep S I w p q Fs st s) (ha : Apart F Fs) (hroom : st.place + 8 * st.segs ≤ s.now.length) (hage : st.age ≤ 30000) (k : ByteArray) (hk : k.size ≤ 1000000) :
  Calls Tryz.prog 57 #[.pointer (some ⟨q, 0, none⟩), .string k] w fun e w' => e = findE st k ∧ Kp w w' := by
 obtain ⟨lq, iq, Fl, lst, hs, v, b, c0, c1, hl, hon, hal, hpl, hsg, hrecs, hat, hmay, hv, hbb, hget⟩ := cplace S I hT.2.1 hr ha hage k hk
 obtain ⟨w0, hw0⟩ : ∃ w0, w.alloc (.cells itZ 40) = w0 := ⟨_, rfl⟩
 have HW0 := Lib.hid (show w.alloc (.cells #[.string ⟨#[]⟩, .string ⟨#[]⟩, .int .i64 0, .bool false] 40) = w0 from hw0)
 have hb0 : w0.heap[w.heap.size]? = some (.cells itZ 40 (0, 0)) := by rw [← hw0]; exact heap_alloc_new w _
 have hk0 : Kp w w0 := by rw [← hw0]; exact (Keeps.refl _ w).alloc _
 have hz0 : w.heap.size < w0.heap.size := by rw [← hw0]; simp
 have HB0 := Lib.hid hb0
 have HK0 := Lib.hid hk0
 have HZ0 := Lib.hid hz0
 have d0 := hk0.cell c0 trivial
 have d1 := hk0.cell c1 trivial
 have HDN := Lib.hid (cdown w0 q lq d0)
 have HGT := Lib.hid (hget w0 hk0)
 cases hsp : sp (hs.drop lst.gone) k with
 | none =>
  have he : findE st k = .returned (.tuple #[.agg #[.string ⟨#[]⟩, .string ⟨#[]⟩, .int .i64 0, .bool false], .bool false]) := by
   unfold findE
   rw [hat, hsp]
   rfl
  have hb2 : b = false := by rw [hbb, hsp]; rfl
  subst hb2
  rw [he]
  clear hat hsp hbb hv hrecs hmay hl hon hal hpl hsg hget hd hr ha hroom hk0 hb0 hz0 hw0 he
  go_enter Tryz.func57, Tryz.ntmps57
  go_wp2_with (rw [HW0.out])
  try rw [HW0.out]
  refine (show Calls _ _ _ _ _ from HDN.out).mono ?_
  rintro e w' ⟨rfl, rfl⟩
  go_wp2_with fail
  refine (show Calls _ _ _ _ _ from HGT.out).mono ?_
  rintro e w1 ⟨rfl, hk1⟩
  have hb1 := (hk1.block w.heap.size trivial HZ0.out).trans HB0.out
  have HRES := res4 w w1 hb1 (HK0.out.trans hk1)
  obtain ⟨f0, f1, f2, f3, r0, r1, r2, r3⟩ := res4u w w1 hb1
  clear hb1 hk1
  obtain ⟨e0, e1, e2, e3, HK⟩ := HRES.out (.string ⟨#[]⟩) (.string ⟨#[]⟩) (.int .i64 0) (.bool false)
  have HKK := Lib.hid HK
  clear HK
  go_wp2_with fail
  exact bodyPost_ret (v := .tuple #[.agg #[.string ⟨#[]⟩, .string ⟨#[]⟩, .int .i64 0, .bool false], .bool false]) (by simp [results, Tryz.results57, go_sem, e0, e1, e2, e3]) rfl ⟨rfl, HKK.out⟩
 | some y =>
  obtain ⟨po, x⟩ := y
  obtain ⟨hmem, hkey, hgone⟩ := sp_mem hsp
  have hxm := hmay po x (List.mem_of_mem_drop hmem)
  have he : findE st k = .returned (.tuple #[.agg #[.string x.key, .string x.val, .int .i64 x.till, .bool x.gone], .bool true]) := by
   unfold findE
   rw [hat, hsp]
   rfl
  have hb2 : b = true := by rw [hbb, hsp]; rfl
  have hv2 : v = (po : Int) := by rw [hv, hsp]; rfl
  subst hb2
  subst hv2
  rw [he]
  have hrec : (po, x.bytes) ∈ lst.recs := by rw [hrecs]; exact List.mem_map.2 ⟨_, hmem, rfl⟩
  have HRD := Lib.hid (show ∀ w1, Kp w w1 → Calls Tryz.prog 85 #[.pointer (some ⟨lq, 0, none⟩), .int .i64 (po : Int)] w1 fun e w' => ∃ A n c, e = .returned (.tuple #[.slice A n c, .int .i64 0]) ∧ n = x.bytes.length ∧ n ≤ c ∧ c ≤ maxLen ∧ Row w' A (fun _ => True) (bcells x.bytes) ∧ Kp w1 w' from fun w1 hk1 => by
   refine (S.read w1 p lq F Fl s lst (hd.keep (hk1.mono fun _ _ _ => trivial)) (S.keep hl (hk1.mono fun _ _ _ => trivial)) hon hal (S.tk hT.1 hk1) (by rw [hpl, hsg]; exact hroom) po x.bytes hrec).mono ?_
   rintro e w' ⟨A, c, rfl, h1, h2, h3, -, h4⟩
   exact ⟨A, _, c, rfl, rfl, h1, h2, h3.mono fun _ _ _ => trivial, h4⟩)
  have HEN := Lib.hid (show ∀ w1, Kp w w1 → ∀ (A : Option Addr) (n c : Nat), Row w1 A (fun _ => True) (bcells x.bytes) → n = x.bytes.length → n ≤ c → c ≤ maxLen → _ from fun w1 (hk1 : Kp w w1) A n c hr hn h1 h2 => centry J w1 (J.tk hT.2.2 hk1) A n c x hxm hr hn h1 h2)
  clear hat hsp hbb hv hrecs hmay hl hon hal hpl hsg hget hd hr ha hroom hk0 hb0 hz0 hw0 he hmem hkey hxm hrec hgone
  go_enter Tryz.func57, Tryz.ntmps57
  go_wp2_with (rw [HW0.out])
  try rw [HW0.out]
  refine (show Calls _ _ _ _ _ from HDN.out).mono ?_
  rintro e w' ⟨rfl, rfl⟩
  go_wp2_with fail
  refine (show Calls _ _ _ _ _ from HGT.out).mono ?_
  rintro e w1 ⟨rfl, hk1⟩
  replace d0 := hk1.cell d0 trivial
  have HK1 := Lib.hid hk1
  clear hk1 d1
  go_wp2_with fail
  refine (show Calls _ _ _ _ _ from HRD.out w1 (HK0.out.trans HK1.out)).mono ?_
  rintro e w2 ⟨A, n, c, rfl, hn, h1, h2, h3, hk2⟩
  have HK2 := Lib.hid (HK1.out.trans hk2)
  have HE2 := Lib.hid (HEN.out w2 (HK0.out.trans HK2.out) A n c h3 hn h1 h2)
  clear hk2 hn h1 h2 h3 d0
  go_wp2_with fail
  refine (show Calls _ _ _ _ _ from HE2.out).mono ?_
  rintro e w3 ⟨rfl, hk3⟩
  have hk30 := HK2.out.trans hk3
  have hb1 := (hk30.block w.heap.size trivial HZ0.out).trans HB0.out
  have HRES := res4 w w3 hb1 (HK0.out.trans hk30)
  obtain ⟨f0, f1, f2, f3, r0, r1, r2, r3⟩ := res4u w w3 hb1
  clear hb1 hk3 hk30
  obtain ⟨e0, e1, e2, e3, HK⟩ := HRES.out (.string x.key) (.string x.val) (.int .i64 x.till) (.bool x.gone)
  have HKK := Lib.hid HK
  clear HK
  go_wp2_with fail
  exact bodyPost_ret (v := .tuple #[.agg #[.string x.key, .string x.val, .int .i64 x.till, .bool x.gone], .bool true]) (by simp [results, Tryz.results57, go_sem, e0, e1, e2, e3]) rfl ⟨rfl, HKK.out⟩
set_option maxRecDepth 100000 in
set_option maxHeartbeats 2000000 in
theorem cget (S : Slog2) (I : IndexOK) (J : ItemOK) (w : World) (hT : S.T w ∧ I.T w ∧ J.T w) (p q : Nat) (F Fs : Foot) (s : SDev) (st : FSt) (hd : DAt w p F s) (hr : flashRep S I w p q Fs st s) (ha : Apart F Fs) (hroom : st.place + 8 * st.segs ≤ s.now.length) (hage : st.age ≤ 30000) (k : ByteArray) (now : Int) (hk : k.size ≤ 1000000) (hn1 : -9223372036854775808 ≤ now) (hn2 : now < 9223372036854775808) :
  Calls Tryz.prog 25 #[.pointer (some ⟨q, 0, none⟩), .string k, .int .i64 now] w fun e w' => e = getE st k now ∧ Kp w w' := by
 have hmay : ∀ x, st.at_ k = some x → x.may = true := fun x hx => by
  obtain ⟨lq, iq, Fl, Fi, lo, lst, ix, hs, rfl, hc, hm, -⟩ := hr
  rw [hm.at_ k] at hx
  cases hsp : sp (hs.drop lst.gone) k with
  | none => rw [hsp] at hx; cases hx
  | some y =>
   obtain ⟨po, z⟩ := y
   rw [hsp] at hx
   cases hx
   exact hm.may po z (List.mem_of_mem_drop (sp_mem hsp).1)
 obtain ⟨w0, hw0⟩ : ∃ w0, w.alloc (.cells itZ 40) = w0 := ⟨_, rfl⟩
 have HW0 := Lib.hid (show w.alloc (.cells #[.string ⟨#[]⟩, .string ⟨#[]⟩, .int .i64 0, .bool false] 40) = w0 from hw0)
 have hb0 : w0.heap[w.heap.size]? = some (.cells itZ 40 (0, 0)) := by rw [← hw0]; exact heap_alloc_new w _
 have hk0 : Kp w w0 := by rw [← hw0]; exact (Keeps.refl _ w).alloc _
 have hz0 : w.heap.size < w0.heap.size := by rw [← hw0]; simp
 have HB0 := Lib.hid hb0
 have HK0 := Lib.hid hk0
 have HZ0 := Lib.hid hz0
 have hf := cfind S I J w0 ⟨S.tk hT.1 hk0, I.tk hT.2.1 hk0, J.tk hT.2.2 hk0⟩ p q F Fs s st (hd.keep (hk0.mono fun _ _ _ => trivial)) (frep_keep hr (hk0.mono fun _ _ _ => trivial)) ha hroom hage k hk
 have HJ := Lib.hid hT.2.2
 have HMAY := Lib.hid hmay
 unfold getE
 unfold findE at hf
 clear hd hr ha hroom hage hT hmay hw0 hb0 hk0 hz0
 cases hat : st.at_ k with
 | none =>
  rw [hat] at hf
  obtain ⟨z, hz⟩ : ∃ z : It, z = ⟨⟨#[]⟩, ⟨#[]⟩, 0, false⟩ := ⟨_, rfl⟩
  have HF := Lib.hid (show Calls Tryz.prog 57 #[.pointer (some ⟨q, 0, none⟩), .string k] w0 (fun e w' => e = .returned (.tuple #[.agg #[.string z.key, .string z.val, .int .i64 z.till, .bool z.gone], .bool false]) ∧ Kp w0 w') from by
   subst hz
   exact hf)
  clear hf hat hz
  simp only
  go_enter Tryz.func25, Tryz.ntmps25
  go_wp2_with (rw [HW0.out])
  try rw [HW0.out]
  refine (show Calls _ _ _ _ _ from HF.out).mono ?_
  rintro e w1 ⟨rfl, hk1⟩
  obtain ⟨w2, hw2⟩ : ∃ w2, w1.alloc (.cells #[.string z.key, .string z.val, .int .i64 z.till, .bool z.gone] 40) = w2 := ⟨_, rfl⟩
  have hk2 : Kp w1 w2 := by rw [← hw2]; exact (Keeps.refl _ w1).alloc _
  have hk12 := hk1.trans hk2
  have hb1 := (hk12.block w.heap.size trivial HZ0.out).trans HB0.out
  have HRES := res4 w w2 hb1 (HK0.out.trans hk12)
  obtain ⟨f0, f1, f2, f3, r0, r1, r2, r3⟩ := res4u w w2 hb1
  have HW2 := Lib.hid hw2
  clear hb1 hk1 hk2 hk12 hw2
  obtain ⟨e0, e1, e2, e3, HK⟩ := HRES.out (.string ⟨#[]⟩) (.string ⟨#[]⟩) (.int .i64 0) (.bool false)
  have HKK := Lib.hid HK
  clear HK
  go_wp2_with (rw [HW2.out])
  try rw [HW2.out]
  all_goals exact bodyPost_ret (v := .tuple #[.agg #[.string ⟨#[]⟩, .string ⟨#[]⟩, .int .i64 0, .bool false], .bool false]) (by simp [results, Tryz.results25, go_sem, e0, e1, e2, e3]) rfl ⟨rfl, HKK.out⟩
 | some x =>
  rw [hat] at hf
  have HF := Lib.hid hf
  have hxm := HMAY.out x hat
  have HLV := Lib.hid (show ∀ w1, Kp w w1 → _ from fun w1 (hk1 : Kp w w1) => J.live w1 x now (J.tk HJ.out hk1) (It.may_fits hxm) hn1 hn2)
  clear hf hat hxm
  simp only
  simp only at HF
  go_enter Tryz.func25, Tryz.ntmps25
  go_wp2_with (rw [HW0.out])
  try rw [HW0.out]
  refine (show Calls _ _ _ _ _ from HF.out).mono ?_
  rintro e w1 ⟨rfl, hk1⟩
  obtain ⟨w2, hw2⟩ : ∃ w2, w1.alloc (.cells #[.string x.key, .string x.val, .int .i64 x.till, .bool x.gone] 40) = w2 := ⟨_, rfl⟩
  have hk2 : Kp w1 w2 := by rw [← hw2]; exact (Keeps.refl _ w1).alloc _
  have hb2 : w2.heap[w1.heap.size]? = some (.cells #[.string x.key, .string x.val, .int .i64 x.till, .bool x.gone] 40 (0, 0)) := by rw [← hw2]; exact heap_alloc_new w1 _
  have HB2 := Lib.hid hb2
  have HK12 := Lib.hid (hk1.trans hk2)
  have x0 : w2.cell? ⟨w1.heap.size, 0, none⟩ = some (.string x.key) := (cell_of_block hb2 0).trans rfl
  have x1 : w2.cell? ⟨w1.heap.size, 1, none⟩ = some (.string x.val) := (cell_of_block hb2 1).trans rfl
  have x2 : w2.cell? ⟨w1.heap.size, 2, none⟩ = some (.int .i64 x.till) := (cell_of_block hb2 2).trans rfl
  have x3 : w2.cell? ⟨w1.heap.size, 3, none⟩ = some (.bool x.gone) := (cell_of_block hb2 3).trans rfl
  have HW2 := Lib.hid hw2
  have HLV2 := Lib.hid (HLV.out w2 (HK0.out.trans HK12.out))
  clear hk1 hk2 hw2 hb2
  go_wp2_with (rw [HW2.out])
  try rw [HW2.out]
  refine (show Calls _ _ _ _ _ from HLV2.out).mono ?_
  rintro e w3 ⟨rfl, hk3⟩
  have hk13 := HK12.out.trans hk3
  have hb1 := (hk13.block w.heap.size trivial HZ0.out).trans HB0.out
  have HRES := res4 w w3 hb1 (HK0.out.trans hk13)
  obtain ⟨f0, f1, f2, f3, r0, r1, r2, r3⟩ := res4u w w3 hb1
  replace x0 := hk3.cell x0 trivial
  replace x1 := hk3.cell x1 trivial
  replace x2 := hk3.cell x2 trivial
  replace x3 := hk3.cell x3 trivial
  clear hb1 hk3 hk13
  cases hlv : x.live now with
  | true =>
   obtain ⟨e0, e1, e2, e3, HK⟩ := HRES.out (.string x.key) (.string x.val) (.int .i64 x.till) (.bool x.gone)
   have HKK := Lib.hid HK
   clear HK
   go_wp2_with fail
   all_goals exact bodyPost_ret (v := .tuple #[.agg #[.string x.key, .string x.val, .int .i64 x.till, .bool x.gone], .bool true]) (by simp [results, Tryz.results25, go_sem, e0, e1, e2, e3]) rfl ⟨rfl, HKK.out⟩
  | false =>
   obtain ⟨e0, e1, e2, e3, HK⟩ := HRES.out (.string ⟨#[]⟩) (.string ⟨#[]⟩) (.int .i64 0) (.bool false)
   have HKK := Lib.hid HK
   clear HK
   go_wp2_with fail
   all_goals exact bodyPost_ret (v := .tuple #[.agg #[.string ⟨#[]⟩, .string ⟨#[]⟩, .int .i64 0, .bool false], .bool false]) (by simp [results, Tryz.results25, go_sem, e0, e1, e2, e3]) rfl ⟨rfl, HKK.out⟩
def cutJ (A : Option Addr) (k c : Nat) : Option Addr := if c = k then A else A.map (·.add k)
section
variable {o : Oper} {a : Act} {w : World} {Q : Exit → Act → World → Prop} {x y : Operand}
theorem kp_fJ1 {b : Nat} (ho : o.op = .fieldAddr 108 x 1) (hx : a.eval x = .pointer (some ⟨b, 0, none⟩)) : o.wp Tryz.prog a w (fun a' w' => ∃ v, a' = a.put o.dst v ∧ Kp w w' ∧ IsV (.pointer (some ⟨b, 1, none⟩)) w' v) Q := by
 refine kp_yield (v := .pointer (some ⟨b, 1, none⟩)) ?_ (Keeps.refl _ _) rfl
 generalize a.eval = ρ at hx
 unfold execOp
 go_simp
theorem kp_subJ {m n k : Nat} (h : (m : Int) - (n : Int) = (k : Int)) (hm : m ≤ 1000000) (ho : o.op = .binOp .sub 2 x y 2) (hx : a.eval x = .int .i64 (m : Int)) (hy : a.eval y = .int .i64 (n : Int)) : o.wp Tryz.prog a w (fun a' w' => ∃ v, a' = a.put o.dst v ∧ Kp w w' ∧ IsV (.int .i64 (k : Int)) w' v) Q := by
 have e : IntKind.i64.wrap ((m : Int) - (n : Int)) = (k : Int) := by rw [h, IntKind.wrap_i64]; omega
 clear h
 refine kp_yield (v := .int .i64 (k : Int)) ?_ (Keeps.refl _ _) rfl
 generalize a.eval = ρ at hx hy
 unfold execOp
 go_simp
theorem kp_restJ {A : Option Addr} {n c k : Nat} (hk : k ≤ n) (hn : n ≤ c) (hc : c ≤ 9223372036854775807) (hA : A = none → c = 0) (ho : o.op = .slice 106 x (some y) none none) (hx : a.eval x = .slice A n c) (hy : a.eval y = .int .i64 (k : Int)) :
  o.wp Tryz.prog a w (fun a' w' => ∃ v, a' = a.put o.dst v ∧ Kp w w' ∧ IsV (.slice (cutJ A k c) (n - k) (c - k)) w' v) Q := by
 refine kp_yield (v := .slice (cutJ A k c) (n - k) (c - k)) (w' := w) ?_ (Keeps.refl _ _) rfl
 generalize a.eval = ρ at hx hy ⊢
 unfold execOp
 have hkc : k ≤ c := by omega
 cases A with
 | none =>
  obtain rfl : c = 0 := hA rfl
  obtain rfl : k = 0 := by omega
  obtain rfl : n = 0 := by omega
  go_simp
  simp [cutJ]
 | some ad =>
  by_cases hck : c = k
  ·subst hck
   obtain rfl : n = c := by omega
   go_simp
   simp [cutJ]
  ·go_simp
   simp [cutJ, hck]
end
def JSincePost (w : World) (sq : Nat) (K : List ByteArray) (e : Ending) (w' : World) : Prop :=
 ∃ (A : Option Addr) (c : Nat), e = .returned (.tuple #[.slice A K.length c, .bool true]) ∧ K.length ≤ c ∧ c ≤ maxLen ∧ MarksAt w' A (fun b => w.heap.size ≤ b ∧ b < w'.heap.size) sq K ∧ Kp w w'
set_option maxRecDepth 100000 in
set_option maxHeartbeats 1000000 in
theorem jsince (S : Slog2) (w : World) (hT : S.T w) (p q : Nat) (F Fs : Foot) (s : SDev) (st : JSt) (hd : DAt w p F s) (hr : jrep S w p q Fs st s) (ha : Apart F Fs) (hroom : st.place + 8 * st.segs ≤ s.now.length) (sq n : Nat) (h8 : st.base ≤ sq) (h9 : sq ≤ st.keys.length) (hn : n ≤ 1000000) :
  Calls Tryz.prog 33 #[.pointer (some ⟨q, 0, none⟩), .int .i64 (sq : Int), .int .i64 (n : Int)] w (JSincePost w sq ((st.keys.drop sq).take n)) := by
 have HSQ := Lib.hid (show ∀ w', Kp w w' → _ from fun w' (hk' : Kp w w') => jseq_is S w' p q Fs s st (jrep_keep hr (hk'.mono fun _ _ _ => trivial)))
 obtain ⟨lq, Fl, v, lst, rfl, hc, hm⟩ := hr
 have hgone := (S.wf hc.l).gone
 have hage := hm.age
 have hold := hm.old
 have hml := hm.len
 have hjl := jkept_len lst
 have hal : Apart F Fl := ⟨fun b hb hf => ha.l b hb (jfoot_all.2 (.inr (.inl hf))), fun b hb hf => ha.r b (.inr (.inl hb)) hf⟩
 obtain ⟨A0, c0, rfl, hlc, hcm⟩ := hc.form
 have hbs : lst.gone = st.base := hm.base.symm
 obtain ⟨N, hN⟩ : ∃ N, st.keys.length = N := ⟨_, rfl⟩
 obtain ⟨n0, hn0⟩ : ∃ n0, (jkept lst).length = n0 := ⟨_, rfl⟩
 obtain ⟨B, hB⟩ : ∃ B, st.base = B := ⟨_, rfl⟩
 obtain ⟨k, hk⟩ : ∃ k, sq - B = k := ⟨_, rfl⟩
 obtain ⟨K, hK⟩ : ∃ K, (st.keys.drop sq).take n = K := ⟨_, rfl⟩
 have hKl : K.length = min n (n0 - k) := by rw [← hK, List.length_take, List.length_drop]; omega
 have HNA := Lib.hid (show A0 = none → c0 = 0 from fun e => by
  have h := hc.row.2
  rcases h with ⟨h1, -⟩ | ⟨g, cap, cur, h1, -⟩
  ·injection h1 with h2 h3 h4
  ·injection h1 with h2 h3 h4
   rw [e] at h2; cases h2)
 have HROW := Lib.hid (show Row w A0 (fun _ => True) (posC (jkept lst)) from by
  obtain ⟨A, c, e, -, hr⟩ := own_slice hc.row
  injection e with e1 e2 e3
  subst e1
  exact hr.mono fun _ _ _ => trivial)
 have HPOS := Lib.hid (show ∀ (j : Nat), j < K.length → ∃ x : Nat, (posC (jkept lst))[k + j]? = some (.int .i64 (x : Int)) ∧ ∀ wr, Kp w wr → Calls Tryz.prog 62 #[.pointer (some ⟨q, 0, none⟩), .int .i64 (x : Int)] wr fun e w' => e = .returned (.tuple #[.agg #[.int .i64 ((sq + j + 1 : Nat) : Int), .string (K.getD j default)], .bool true]) ∧ Kp wr w' from fun j hj => by
  have h1 : sq + j < lst.hist.length := by omega
  have h2 : sq + j < st.keys.length := by omega
  have e1 : (lst.hist.drop lst.gone)[k + j]? = some lst.hist[sq + j] := by
   rw [List.getElem?_drop, show lst.gone + (k + j) = sq + j by omega, List.getElem?_eq_getElem h1]
  have hb := hm.body (sq + j) h1
  have e2 : K.getD j default = st.keys.getD (sq + j) default := by
   rw [← hK, List.getD_eq_getElem?_getD, List.getD_eq_getElem?_getD, List.getElem?_take_of_lt (by omega), List.getElem?_drop]
  have hko : keyOk (st.keys.getD (sq + j) default) := by
   rw [List.getD_eq_getElem?_getD, List.getElem?_eq_getElem h2]
   exact hm.one _ (List.getElem_mem h2)
  have hrec : ((lst.hist[sq + j]).pos, markB (sq + j + 1) (st.keys.getD (sq + j) default)) ∈ lst.recs := by
   rw [← hb]
   exact List.mem_map.2 ⟨_, List.mem_of_getElem? e1, rfl⟩
  refine ⟨(lst.hist[sq + j]).pos, ?_, fun wr hkr => ?_⟩
  ·unfold posC jkept
   rw [List.getElem?_map, List.getElem?_map, e1]
   rfl
  ·rw [e2]
   exact jfind S wr (S.tk hT hkr) p q lq F Fl s lst (hd.keep (hkr.mono fun _ _ _ => trivial)) (S.keep hc.l (hkr.mono fun _ _ _ => trivial)) hc.on hal (by rw [hm.place, hm.segs]; exact hroom) (hkr.cell hc.blk.c0 trivial) _ _ _ hrec (by omega) (by omega) hko)
 have HDN := Lib.hid (jdown w q lq hc.blk.c0)
 have b1 := hc.blk.c1
 have b2 := hc.blk.c2
 rw [hn0] at b2 hlc
 rw [hbs] at b1
 rw [hN] at HSQ h9
 rw [hB] at h8 b1
 have hNb : N ≤ 30000 := by omega
 have hkn : k ≤ n0 := by omega
 have hn0b : n0 ≤ 30000 := by omega
 have t1 : decide (sq < B) = false := by simp; omega
 have t2 : decide (N < sq) = false := by simp; omega
 have HPL := Lib.hid (show (posC (jkept lst)).length = n0 from by rw [posC_len]; exact hn0)
 have HKK := Lib.hid (show (sq : Int) - (B : Int) = (k : Int) from by omega)
 have hBb : B ≤ 30000 := by omega
 have hsb : sq ≤ 30000 := by omega
 have HK := Lib.hid hK
 have HKL := Lib.hid hKl
 rw [hK]
 unfold maxLen at hcm
 clear hT hd ha hroom hc hm hgone hage hold hml hjl hal hbs hN hn0 hB hk hK hKl h8 h9
 go_enter Tryz.func33, Tryz.ntmps33
 go_wp2_with fail
 refine (show Calls _ _ _ _ _ from HDN.out).mono ?_
 rintro e w1 ⟨rfl, rfl⟩
 go_wp2_with fail
 refine (show Calls _ _ _ _ _ from HSQ.out w (Keeps.refl _ _)).mono ?_
 rintro e w1 ⟨rfl, hk1⟩
 have HK1 := Lib.hid hk1
 replace b1 := hk1.cell b1 trivial
 replace b2 := hk1.cell b2 trivial
 clear hk1 HSQ HDN
 go_wp2_with fail
 have HR1 := Lib.hid (show ∀ w', Kp w w' → Row w' (cutJ A0 k c0) (fun _ => True) ((posC (jkept lst)).drop k) from fun w' hk => by
  have h := (HROW.out.keep (hk.mono fun _ _ _ => trivial)).cut (k := k) (cap := c0) (by rw [HPL.out]; exact hkn) (by rw [HPL.out]; exact hlc)
  exact h)
 refine wp_region_guard (R := Kp) (V := Vl [.pointer (some ⟨q, 0, none⟩), .pointer (some ⟨q, 0, none⟩), .pointer (some ⟨q, 2, none⟩), .slice A0 n0 c0, .int .i64 (sq : Int), .pointer (some ⟨q, 0, none⟩), .pointer (some ⟨q, 0, none⟩), .pointer (some ⟨q, 1, none⟩), .int .i64 (B : Int), .int .i64 (k : Int), .slice (cutJ A0 k c0) (n0 - k) (c0 - k), .slice (cutJ A0 k c0) (n0 - k) (c0 - k)]) (w0 := w1) GM (by kernel_rfl) (fun w => Keeps.refl _ w) (fun _ _ _ h k => h.trans k) (fun i w w' v _ hv => hv) (by kernel_rfl) GM_is (fun i o ho hw => (all_wanted (by kernel_rfl) ho hw).elim) ((Keeps.refl _ w1).drew) (each_of ?_) ?_
 ·refine ⟨?_, ?_, ?_, ?_, ?_, ?_, ?_, ?_, ?_, ?_, ?_, ?_, trivial⟩ <;> intro hw a1 w7 L
  ·exact kp_move rfl (L.old 0 (by kernel_rfl))
  ·exact kp_nilL rfl (L.val 0 30 (by kernel_rfl) (by kernel_rfl))
  ·exact kp_fJ2 rfl (L.val 1 31 (by kernel_rfl) (by kernel_rfl))
  ·exact kp_lPos (L.rel.cell b2 trivial) rfl (L.val 2 32 (by kernel_rfl) (by kernel_rfl))
  ·exact kp_move rfl (L.old 1 (by kernel_rfl))
  ·exact kp_move rfl (L.old 0 (by kernel_rfl))
  ·exact kp_nilL rfl (L.val 5 35 (by kernel_rfl) (by kernel_rfl))
  ·exact kp_fJ1 rfl (L.val 6 36 (by kernel_rfl) (by kernel_rfl))
  ·exact kp_ldI (L.rel.cell b1 trivial) rfl (L.val 7 37 (by kernel_rfl) (by kernel_rfl))
  ·exact kp_subJ HKK.out (by omega) rfl (L.val 4 34 (by kernel_rfl) (by kernel_rfl)) (L.val 8 38 (by kernel_rfl) (by kernel_rfl))
  ·exact kp_restJ hkn hlc (by omega) HNA.out rfl (L.val 3 33 (by kernel_rfl) (by kernel_rfl)) (L.val 9 39 (by kernel_rfl) (by kernel_rfl))
  ·exact kp_assign rfl (L.val 10 40 (by kernel_rfl) (by kernel_rfl))
 ·intro vs w7 hk7 hlen7 hv
  match vs, hlen7 with
  | [u0, u1, u2, u3, u4, u5, u6, u7, u8, u9, u10, u11], _ =>
   have hx11 : u11 = .slice (cutJ A0 k c0) (n0 - k) (c0 - k) := hv 11 8 (by kernel_rfl)
   subst hx11
   have HK7 := Lib.hid (HK1.out.trans hk7)
   have HR7 := Lib.hid (HR1.out w7 HK7.out)
   have HN7 := Lib.hid (show cutJ A0 k c0 = none → c0 - k = 0 from fun e => by
    unfold cutJ at e
    by_cases hck : c0 = k
    ·omega
    ·rw [if_neg hck] at e
     have := HNA.out (by cases A0 with | none => rfl | some a => cases e)
     omega)
   clear hv hk7 b1 b2
   obtain ⟨A1, hA1⟩ : ∃ A1, cutJ A0 k c0 = A1 := ⟨_, rfl⟩
   obtain ⟨n1, hn1⟩ : ∃ n1, n0 - k = n1 := ⟨_, rfl⟩
   obtain ⟨c1, hc1⟩ : ∃ c1, c0 - k = c1 := ⟨_, rfl⟩
   obtain ⟨t, ht⟩ : ∃ t, K.length = t := ⟨_, rfl⟩
   have htm := HKL.out
   rw [hn1, ht] at htm
   rw [hA1] at HR7 HN7 ⊢
   rw [hc1] at HN7 ⊢
   rw [hn1]
   have hnc1 : n1 ≤ c1 := by omega
   have hc1m : c1 ≤ 9223372036854775807 := by omega
   have hn1b : n1 ≤ 30000 := by omega
   have hmm : min (n : Int) (n1 : Int) = (t : Int) := by omega
   have htn : t ≤ n1 := by omega
   have HT := Lib.hid ht
   clear hA1 hn1 hc1 ht htm HR1 HNA HROW HPL HKK HKL hkn hlc hcm hn0b hBb hsb hNb HK1 t1 t2
   have hAs : (A1 = none ∧ c1 = 0) ∨ ∃ ad, A1 = some ad := by
    cases A1 with
    | none => exact .inl ⟨rfl, HN7.out rfl⟩
    | some ad => exact .inr ⟨ad, rfl⟩
   rcases hAs with ⟨rfl, rfl⟩ | ⟨ad, rfl⟩
   ·obtain rfl : n1 = 0 := by omega
    obtain rfl : t = 0 := by omega
    obtain rfl : K = [] := List.eq_nil_of_length_eq_zero HT.out
    have HE := Lib.hid (show JSincePost w sq [] (.returned (.tuple #[.slice none 0 0, .bool true])) w7 from ⟨none, 0, rfl, Nat.le_refl _, Nat.zero_le _, fun i hi => absurd hi (Nat.not_lt_zero _), HK7.out⟩)
    simp only [putAll, List.map, Act.put, List.setIfInBounds_toArray, List.set_cons_succ, List.set_cons_zero, Exit.then]
    go_wp2_with fail
    go_loopw [9, 49] (fun v i wr => v = .slice none 0 0 ∧ i = .int .i64 0 ∧ wr = w7) (fun _ i _ => 0)
    case atStart => exact ⟨rfl, rfl, rfl⟩
    case round =>
     obtain ⟨rfl, rfl, rfl⟩ := hrel
     go_wp2_with fail
     go_ret2
     exact HE.out
   ·simp only [putAll, List.map, Act.put, List.setIfInBounds_toArray, List.set_cons_succ, List.set_cons_zero, Exit.then]
    have HPOS7 := Lib.hid (show ∀ (j : Nat), j < t → ∃ (x : Nat) (b o : Nat), ad = ⟨b, o, none⟩ ∧ (∀ wr, Kp w7 wr → wr.cell? ⟨b, o + j, none⟩ = some (.int .i64 (x : Int))) ∧ ∀ wr, Kp w wr → Calls Tryz.prog 62 #[.pointer (some ⟨q, 0, none⟩), .int .i64 (x : Int)] wr fun e w' => e = .returned (.tuple #[.agg #[.int .i64 ((sq + j + 1 : Nat) : Int), .string (K.getD j default)], .bool true]) ∧ Kp wr w' from fun j hj => by
     obtain ⟨x, hx, hf⟩ := HPOS.out j (by rw [HT.out]; exact hj)
     obtain ⟨b, o, e, -, hc⟩ := HR7.out (fun e => by
      have h1 : ((posC (jkept lst)).drop k)[j]? = some (.int .i64 (x : Int)) := by rw [List.getElem?_drop]; exact hx
      rw [e] at h1; cases h1)
     injection e with e
     exact ⟨x, b, o, e, fun wr hk => hk.cell (hc j _ (by rw [List.getElem?_drop]; exact hx)) trivial, hf⟩)
    have HEND := Lib.hid (show ∀ (v : Value) (wr : World), wr.ownsRow w7.heap.size 72 2 v t (mkC sq (K.take t)) → Kp w7 wr → JSincePost w sq K (.returned (.tuple #[v, .bool true])) wr from fun v wr ho hk => by
     rw [List.take_of_length_le (by rw [HT.out]; exact Nat.le_refl _)] at ho
     obtain ⟨A, c, rfl, h1, h2⟩ := own_form2 ho
     have hm := MarksAt.of_own ho HT.out.symm
     refine ⟨A, c, by rw [HT.out], by rw [HT.out]; exact h1, h2, fun i hi => ?_, HK7.out.trans hk⟩
     obtain ⟨b, o, e, hb, c0, c1⟩ := hm i hi
     exact ⟨b, o, e, ⟨Nat.le_trans HK7.out.size hb.1, hb.2⟩, c0, c1⟩)
    have HSN := Lib.hid (show ∀ j, j < t → mkC sq (K.take (j + 1)) = mkC sq (K.take j) ++ [.int .i64 ((sq + j + 1 : Nat) : Int), .string (K.getD j default)] from fun j hj => by
     have hj2 : j < K.length := by rw [HT.out]; exact hj
     rw [List.take_succ_eq_append_getElem hj2, mkC_snoc, List.length_take, Nat.min_eq_left (by omega), List.getD_eq_getElem?_getD, List.getElem?_eq_getElem hj2]
     rfl)
    have hw7 : w.heap.size ≤ w7.heap.size := HK7.out.size
    clear HPOS HR7 HN7
    go_wp2_with fail
    go_loopw [9, 49] (fun v i wr => ∃ j : Nat, j ≤ t ∧ i = .int .i64 (j : Int) ∧ RowKit.Hid (wr.ownsRow w7.heap.size 72 2 v j (mkC sq (K.take j))) ∧ RowKit.Hid (Kp w7 wr)) (fun _ i _ => t - (intOf i).toNat)
    case atStart => exact ⟨0, Nat.zero_le _, rfl, Lib.hid (World.ownsRow_nil _ _ _ _), Lib.hid (Keeps.refl _ _)⟩
    case round =>
     obtain ⟨j, hj, rfl, hown, hkp⟩ := hrel
     obtain ⟨A2, c2, rfl, hl2, hm2⟩ := own_form2 hown.out
     unfold maxLen at hm2
     by_cases hjt : j < t
     ·have t1 : decide ((j : Int) < (t : Int)) = true := by simp; omega
      have t1' : decide (j < t) = true := by simp; omega
      obtain ⟨x, b, o, rfl, hcell, hfind⟩ := HPOS7.out j hjt
      have hcell := hcell wr hkp.out
      have HF := Lib.hid (hfind wr (HK7.out.trans hkp.out))
      have HSJ := Lib.hid (HSN.out j hjt)
      clear hfind HSN
      obtain ⟨ky, hky⟩ : ∃ ky, K.getD j default = ky := ⟨_, rfl⟩
      obtain ⟨sn, hsn⟩ : ∃ sn, sq + j + 1 = sn := ⟨_, rfl⟩
      rw [hky, hsn] at HF HSJ
      clear hky hsn
      go_wp2_with fail
      refine (show Calls _ _ _ _ _ from HF.out).mono ?_
      rintro e w3 ⟨rfl, hk3⟩
      have HK3 := Lib.hid (hkp.out.trans hk3)
      have HOW := Lib.hid (hk3.own hown.out fun _ _ => trivial)
      have hsrc := src_mark (w3.alloc (.cells #[.int .i64 (sn : Int), .string ky] 72)) (sn : Int) ky _ rfl 1 72
      rw [show (w3.alloc (.cells #[.int .i64 (sn : Int), .string ky] 72)).heap.size = w3.heap.size + 1 by simp] at hsrc
      have HSRC := Lib.hid hsrc
      have hsz3 := HK3.out.size
      clear hk3 hsrc hcell HF hown hkp
      go_wp2_with (at_builtin; refine mark_elem.list_append rfl (.tmp 61) (.tmp 63) _ rfl rfl ((HOW.out.alloc _).alloc _) rfl HSRC.out ?c3 ?c4 ?c5 ?_)
      case c3 => unfold maxLen; omega
      case c4 => omega
      case c5 => simp; omega
      intro v3 w4 ho4 hg4 hb4
      have HK4 := Lib.hid (show Kp w7 w4 from ((HK3.out.alloc _).alloc _).grown hg4 fun j hj => (HOW.out.lt j hj).1)
      have HO4 := Lib.hid (show w4.ownsRow w7.heap.size 72 2 v3 (j + 1) (mkC sq (K.take (j + 1))) from by
       rw [HSJ.out]
       exact ho4)
      clear ho4 hg4 hb4 HSRC HOW HK3
      go_wp2_with fail
      go_roundw
      case rel => exact ⟨j + 1, by omega, by go_num, HO4, HK4⟩
      case measure => simp [intOf]; omega
     ·have t1 : decide ((j : Int) < (t : Int)) = false := by simp; omega
      have t1' : decide (j < t) = false := by simp; omega
      obtain rfl : j = t := by omega
      have HE := Lib.hid (HEND.out _ wr hown.out hkp.out)
      clear hjt
      go_wp2_with fail
      go_ret2
      exact HE.out
end Go.Proofs.YticophaepapjoaaGreatDoor
