/-
  FlEntry, FlSmall, FlLearn, FlAdd, FlFlush, FlWipe, FlPut: texts of mine, joined.
-/
import Derived.Test.YticophaepapjoaaGreatDoorAllB24
import Derived.Test.YticophaepapjoaaGreatDoorAllB25
import Derived.StillTailTactics
import Derived.Lib.SlBytesConst
import Derived.Deep.RegionWith
open Go.Lib renaming hid → Hd
set_option maxRecDepth 100000
set_option maxHeartbeats 8000000
namespace Go.Proofs.YticophaepapjoaaGreatDoor
open Go Go.RowKit Go.Joins
theorem dec_one (J : ItemOK) (w : World) (hT : J.T w) (A : Option Addr) (n c : Nat) (x : It) (hm : x.may = true) (hr : Row w A (fun _ => True) (bcells x.bytes)) (hn : n = x.bytes.length) (hc : n ≤ c) (hcm : c ≤ maxLen) :
  Calls Tryz.prog 120 #[.slice A n c] w fun e w' => Kp w w' ∧ ∃ (b o k : Nat), e = .returned (.tuple #[.slice (some ⟨b, o, none⟩) 1 k, .int .i64 0]) ∧ w'.cell? ⟨b, o, none⟩ = some (.string x.key) ∧ w'.cell? ⟨b, o + 1, none⟩ = some (.string x.val) ∧ w'.cell? ⟨b, o + 2, none⟩ = some (.int .i64 x.till) ∧ w'.cell? ⟨b, o + 3, none⟩ = some (.bool x.gone) := by
 subst hn
 have hl := It.bytes_len hm
 have e1 : bytesOf [x] = x.bytes := by simp [bytesOf]
 have ha : [x].all It.may = true := by simp [hm]
 refine (J.decode w A c x.bytes hT hr hc hcm (by omega)).mono ?_
 rintro e w' ⟨hk, ⟨B, k, l, rfl, hne, hall, hb, h1, h2, hi⟩ | ⟨hno, -⟩⟩
 ·obtain rfl : l = [x] := bytesOf_inj hall ha (by rw [hb, e1])
  obtain ⟨b, o, rfl, -, c0, c1, c2, c3⟩ := hi 0 (by simp)
  rw [show o + 0 * 4 = o by omega] at c0 c1 c2 c3
  exact ⟨hk, b, o, k, rfl, c0, c1, c2, c3⟩
 ·exact absurd e1 (hno [x] (by simp) ha)
theorem centry (J : ItemOK) (w : World) (hT : J.T w) (A : Option Addr) (n c : Nat) (x : It) (hm : x.may = true) (hr : Row w A (fun _ => True) (bcells x.bytes)) (hn : n = x.bytes.length) (hc : n ≤ c) (hcm : c ≤ maxLen) :
  Calls Tryz.prog 86 #[.slice A n c] w fun e w' => e = .returned (.tuple #[.agg #[.string x.key, .string x.val, .int .i64 x.till, .bool x.gone], .bool true]) ∧ Kp w w' := by
 obtain ⟨w0, hw0⟩ : ∃ w0, w.alloc (.cells itZ 40) = w0 := ⟨_, rfl⟩
 have HW0 := Hd (show w.alloc (.cells #[.string ⟨#[]⟩, .string ⟨#[]⟩, .int .i64 0, .bool false] 40) = w0 from hw0)
 have hb0 : w0.heap[w.heap.size]? = some (.cells itZ 40 (0, 0)) := by rw [← hw0]; exact heap_alloc_new w _
 have hk0 : Kp w w0 := by rw [← hw0]; exact (Keeps.refl _ w).alloc _
 have hz0 : w.heap.size < w0.heap.size := by rw [← hw0]; simp
 have HD := Hd (dec_one J w0 (J.tk hT hk0) A n c x hm (hr.keep hk0) hn hc hcm)
 have HK0 := Hd hk0
 have HB0 := Hd hb0
 have HZ0 := Hd hz0
 clear hr hn hc hcm hm hw0 hb0 hk0 hz0
 go_enter Tryz.func86, Tryz.ntmps86
 go_wp2_with (rw [HW0.out])
 try rw [HW0.out]
 refine (show Calls _ _ _ _ _ from HD.out).mono ?_
 rintro e w1 ⟨hk, b, o, k, rfl, c0, c1, c2, c3⟩
 have hb1 := (hk.block w.heap.size trivial HZ0.out).trans HB0.out
 have HRES := res4 w w1 hb1 (HK0.out.trans hk)
 obtain ⟨f0, f1, f2, f3, r0, r1, r2, r3⟩ := res4u w w1 hb1
 clear hb1 hk
 obtain ⟨d0, d1, d2, d3, HK⟩ := HRES.out (.string x.key) (.string x.val) (.int .i64 x.till) (.bool x.gone)
 have HKK := Hd HK
 clear HK
 go_wp2_with fail
 exact bodyPost_ret (v := .tuple #[.agg #[.string x.key, .string x.val, .int .i64 x.till, .bool x.gone], .bool true]) (by simp [results, Tryz.results86, go_sem, d0, d1, d2, d3]) rfl ⟨rfl, HKK.out⟩
theorem cdown (w : World) (q lq : Nat) (c0 : w.cell? ⟨q, 0, none⟩ = some (.pointer (some ⟨lq, 0, none⟩))) :
  Calls Tryz.prog 41 #[.pointer (some ⟨q, 0, none⟩)] w fun e w' => e = .returned (.bool false) ∧ w = w' := by
 go_enter Tryz.func41, Tryz.ntmps41
 go_wp2_with fail
 go_ret
 exact ⟨rfl, rfl⟩
theorem cgone (w : World) (k : ByteArray) :
  Calls Tryz.prog 76 #[.string k] w fun e w' => e = .returned (.agg #[.string k, .string ⟨#[]⟩, .int .i64 0, .bool true]) ∧ Kp w w' := by
 obtain ⟨w0, hw0⟩ : ∃ w0, w.alloc (.cells itZ 40) = w0 := ⟨_, rfl⟩
 have HW0 := Hd (show w.alloc (.cells #[.string ⟨#[]⟩, .string ⟨#[]⟩, .int .i64 0, .bool false] 40) = w0 from hw0)
 have hb0 : w0.heap[w.heap.size]? = some (.cells itZ 40 (0, 0)) := by rw [← hw0]; exact heap_alloc_new w _
 have hk0 : Kp w w0 := by rw [← hw0]; exact (Keeps.refl _ w).alloc _
 have HRES := res4 w w0 hb0 hk0
 obtain ⟨f0, f1, f2, f3, r0, r1, r2, r3⟩ := res4u w w0 hb0
 clear hb0 hk0 hw0
 obtain ⟨d0, d1, d2, d3, HK⟩ := HRES.out (.string k) (.string ⟨#[]⟩) (.int .i64 0) (.bool true)
 have HKK := Hd HK
 clear HK HRES
 go_enter Tryz.func76, Tryz.ntmps76
 go_wp2_with (rw [HW0.out])
 try rw [HW0.out]
 try go_wp2_with fail
 exact bodyPost_ret (v := .agg #[.string k, .string ⟨#[]⟩, .int .i64 0, .bool true]) (by simp [results, Tryz.results76, go_sem, d0, d1, d2, d3]) rfl ⟨rfl, HKK.out⟩
structure Lrn (w w' : World) (q : Nat) (Fi Fi' : Foot) : Prop where
 k : Keeps (fun b => b ≠ q ∧ ¬ Fi.M b) w w'
 m : ∀ b, Fi'.M b → Fi.M b ∨ w.heap.size ≤ b
 i : ∀ b, Fi'.I b → Fi.all b ∨ w.heap.size ≤ b
def LearnPost (S : Slog2) (I : IndexOK) (w : World) (p q lq : Nat) (Fl Fi : Foot) (lo : Int) (lst : LSt) (s : SDev) (l : List FRec) (n : Nat) (e : Ending) (w' : World) : Prop :=
 e = .returned (.tuple #[]) ∧ ∃ (iq' : Nat) (Fi' : Foot) (ix' : IxSt), CAt S I w' p q lq iq' Fl Fi' lo lst ix' s ∧ IxSays ix' l n ∧ Lrn w w' q Fi Fi'
section
variable {S : Slog2} {I : IndexOK} {w w1 w2 : World} {p q lq iq : Nat} {Fl Fi Fi' : Foot} {lo : Int} {lst : LSt} {ix ix' : IxSt} {s : SDev}
theorem CAt.learnt (h : CAt S I w1 p q lq iq Fl Fi lo lst ix s) (hk : Kp w w1) (hlt : ∀ b, (cfoot q Fl Fi).all b → b < w.heap.size) (hr : I.rep w2 iq Fi' ix') (hs : Step Fi Fi' w1 w2) : CAt S I w2 p q lq iq Fl Fi' lo lst ix' s ∧ Lrn w w2 q Fi Fi' := by
 have hq : q < w.heap.size := hlt q (cfoot_all.2 (.inl rfl))
 have hfl : ∀ b, Fl.all b → b < w.heap.size := fun b hb => hlt b (cfoot_all.2 (.inr (.inl hb)))
 have hsz := hk.size
 have all' := hs.all
 have hqi : ¬ Fi.M q := fun hm => h.qi (.inl hm)
 refine ⟨⟨h.blk.keep hs.keeps hqi, S.keep h.l (hs.keeps.mono fun b _ hb hm => h.ap.r b hm hb), hr, h.on, ⟨fun b hb hf => ?_, fun b hb hf => ?_⟩, h.ql, fun hf => ?_⟩, ⟨?_, fun b hb => ?_, fun b hb => ?_⟩⟩
 ·rcases all' b hf with h1 | h1
  ·exact h.ap.l b hb h1
  ·have := hfl b (.inl hb); omega
 ·rcases hs.m b hb with h1 | h1
  ·exact h.ap.r b h1 hf
  ·have := hfl b hf; omega
 ·rcases all' q hf with h1 | h1
  ·exact h.qi h1
  ·omega
 ·exact (hk.mono fun _ _ _ => trivial).trans (hs.keeps.mono fun b _ hb => hb.2)
 ·rcases hs.m b hb with h1 | h1
  ·exact .inl h1
  ·exact .inr (by omega)
 ·rcases hs.i b hb with h1 | h1
  ·exact .inl h1
  ·exact .inr (by omega)
end
theorem learn_put (S : Slog2) (I : IndexOK) (J : ItemOK) (W w : World) (hIT : I.T W) (hJT : J.T w) (p q lq iq : Nat) (Fl Fi : Foot) (lo : Int) (lst : LSt) (ix : IxSt) (s : SDev) (h : CAt S I w p q lq iq Fl Fi lo lst ix s) (hkp : Kp W w) (hgi : ∀ b, Fi.all b → W.heap.size ≤ b)
  (l : List FRec) (n : Nat) (hx : IxSays ix l n) (hn : n ≤ 32768) (x : It) (hm : x.may = true) (hg : x.gone = false) (po : Nat) (hpo : po < 9223372036854775808) (A : Option Addr) (m c : Nat) (hr : Row w A (fun _ => True) (bcells x.bytes)) (hml : m = x.bytes.length) (hmc : m ≤ c) (hcm : c ≤ maxLen) :
  Calls Tryz.prog 72 #[.pointer (some ⟨q, 0, none⟩), .int .i64 (po : Int), .slice A m c] w (LearnPost S I w p q lq Fl Fi lo lst s (l ++ [(po, some x)]) (n + 1)) := by
 have HCV := Hd (hr.to_string (P := Tryz.prog) (src := 64) (dst := 9) Tryz.underlying64 Tryz.underlying5 Tryz.underlying9 m c hml)
 have hne : ((txt x.bytes).toList == [0]) = false := by
  have h4 := x.bytes_four
  refine Bool.eq_false_iff.2 fun e => ?_
  rw [Lib.toList_data, txt_list, beq_iff_eq] at e
  rw [e] at h4
  exact absurd h4 (by decide)
 have HEN := Hd (centry J w hJT A m c x hm hr hml hmc hcm)
 have HLT := Hd h.lt
 have HC := Hd h
 have HPOST := Hd (show ∀ (w1 : World) (hk : Kp w w1), Calls Tryz.prog 108 #[.pointer (some ⟨iq, 0, none⟩), .string x.key, .int .i64 (po : Int)] w1 fun e w2 => (∃ v, e = .returned (.int .i64 v)) ∧ LearnPost S I w p q lq Fl Fi lo lst s (l ++ [(po, some x)]) (n + 1) (.returned (.tuple #[])) w2 from fun w1 hk => by
  refine (I.put W w1 iq Fi ix (h.kp hk).i hIT (hkp.trans hk) hgi (Nat.le_trans hx.len hn) x.key (po : Int) (by have := It.may_is hm; omega) ⟨by omega, by omega⟩).mono ?_
  rintro e w2 ⟨rfl, Fi', hr2, hs2⟩
  have h2 := (h.kp hk).learnt hk h.lt hr2 hs2
  exact ⟨⟨_, rfl⟩, rfl, iq, Fi', _, h2.1, hx.put hg po, h2.2⟩)
 clear h hkp hgi hx hn hm hpo hr hml hmc hcm
 go_enter Tryz.func72, Tryz.ntmps72
 go_wp2_with (rw [HCV.out])
 refine (show Calls _ _ _ _ _ from HEN.out).mono ?_
 rintro e w1 ⟨rfl, hk1⟩
 have HK1 := Hd hk1
 clear hk1
 go_wp2_with fail
 have hk2 : Kp w (w1.alloc (.cells #[.string x.key, .string x.val, .int .i64 x.till, .bool false] 40)) := HK1.out.alloc _
 have x0 : (w1.alloc (.cells #[.string x.key, .string x.val, .int .i64 x.till, .bool false] 40)).cell? ⟨w1.heap.size, 0, none⟩ = some (.string x.key) := (cell_of_block (heap_alloc_new w1 _) 0).trans rfl
 generalize w1.alloc (.cells #[.string x.key, .string x.val, .int .i64 x.till, .bool false] 40) = w2 at hk2 x0 ⊢
 have c1 := hk2.cell HC.out.blk.c1 trivial
 have HK2 := Hd hk2
 clear hk2
 go_still_tail 7, (by kernel_rfl)
 change wpList _ _ _ _ _ w2.drew
 have HKD := Hd (HK2.out.drew)
 replace x0 := ((Keeps.refl (fun _ => True) w2).drew).cell x0 trivial
 replace c1 := ((Keeps.refl (fun _ => True) w2).drew).cell c1 trivial
 generalize w2.drew = wd at HKD x0 c1 ⊢
 go_wp2_with fail
 refine (show Calls _ _ _ _ _ from HPOST.out wd HKD.out).mono ?_
 rintro e w3 ⟨⟨v, rfl⟩, hp⟩
 go_wp2_with fail
 go_end0
 exact hp
theorem learn_drop (S : Slog2) (I : IndexOK) (J : ItemOK) (W w : World) (hIT : I.T W) (hJT : J.T w) (p q lq iq : Nat) (Fl Fi : Foot) (lo : Int) (lst : LSt) (ix : IxSt) (s : SDev) (h : CAt S I w p q lq iq Fl Fi lo lst ix s) (hkp : Kp W w) (hgi : ∀ b, Fi.all b → W.heap.size ≤ b)
  (l : List FRec) (n : Nat) (hx : IxSays ix l n) (hn : n ≤ 32768) (x : It) (hm : x.may = true) (hg : x.gone = true) (po : Nat) (A : Option Addr) (m c : Nat) (hr : Row w A (fun _ => True) (bcells x.bytes)) (hml : m = x.bytes.length) (hmc : m ≤ c) (hcm : c ≤ maxLen) :
  Calls Tryz.prog 72 #[.pointer (some ⟨q, 0, none⟩), .int .i64 (po : Int), .slice A m c] w (LearnPost S I w p q lq Fl Fi lo lst s (l ++ [(po, some x)]) (n + 1)) := by
 have HCV := Hd (hr.to_string (P := Tryz.prog) (src := 64) (dst := 9) Tryz.underlying64 Tryz.underlying5 Tryz.underlying9 m c hml)
 have hne : ((txt x.bytes).toList == [0]) = false := by
  have h4 := x.bytes_four
  refine Bool.eq_false_iff.2 fun e => ?_
  rw [Lib.toList_data, txt_list, beq_iff_eq] at e
  rw [e] at h4
  exact absurd h4 (by decide)
 have HEN := Hd (centry J w hJT A m c x hm hr hml hmc hcm)
 have HLT := Hd h.lt
 have HC := Hd h
 have HPOST := Hd (show ∀ (w1 : World) (hk : Kp w w1), Calls Tryz.prog 107 #[.pointer (some ⟨iq, 0, none⟩), .string x.key] w1 fun e w2 => (∃ v, e = .returned (.bool v)) ∧ LearnPost S I w p q lq Fl Fi lo lst s (l ++ [(po, some x)]) (n + 1) (.returned (.tuple #[])) w2 from fun w1 hk => by
  refine (I.drop W w1 iq Fi ix (h.kp hk).i hIT (hkp.trans hk) hgi (Nat.le_trans hx.len hn) x.key (by have := It.may_is hm; omega)).mono ?_
  rintro e w2 ⟨rfl, Fi', hr2, hs2⟩
  have h2 := (h.kp hk).learnt hk h.lt hr2 hs2
  exact ⟨⟨_, rfl⟩, rfl, iq, Fi', _, h2.1, hx.drop hg po, h2.2⟩)
 clear h hkp hgi hx hn hm hr hml hmc hcm
 go_enter Tryz.func72, Tryz.ntmps72
 go_wp2_with (rw [HCV.out])
 refine (show Calls _ _ _ _ _ from HEN.out).mono ?_
 rintro e w1 ⟨rfl, hk1⟩
 have HK1 := Hd hk1
 clear hk1
 go_wp2_with fail
 have hk2 : Kp w (w1.alloc (.cells #[.string x.key, .string x.val, .int .i64 x.till, .bool true] 40)) := HK1.out.alloc _
 have x0 : (w1.alloc (.cells #[.string x.key, .string x.val, .int .i64 x.till, .bool true] 40)).cell? ⟨w1.heap.size, 0, none⟩ = some (.string x.key) := (cell_of_block (heap_alloc_new w1 _) 0).trans rfl
 generalize w1.alloc (.cells #[.string x.key, .string x.val, .int .i64 x.till, .bool true] 40) = w2 at hk2 x0 ⊢
 have c1 := hk2.cell HC.out.blk.c1 trivial
 have HK2 := Hd hk2
 clear hk2
 go_still_tail 6, (by kernel_rfl)
 change wpList _ _ _ _ _ w2.drew
 have HKD := Hd (HK2.out.drew)
 replace x0 := ((Keeps.refl (fun _ => True) w2).drew).cell x0 trivial
 replace c1 := ((Keeps.refl (fun _ => True) w2).drew).cell c1 trivial
 generalize w2.drew = wd at HKD x0 c1 ⊢
 go_wp2_with fail
 refine (show Calls _ _ _ _ _ from HPOST.out wd HKD.out).mono ?_
 rintro e w3 ⟨⟨v, rfl⟩, hp⟩
 go_wp2_with fail
 go_end0
 exact hp
theorem learn_wipe (S : Slog2) (I : IndexOK) (w : World) (hIT : I.T w) (p q lq iq : Nat) (Fl Fi : Foot) (lo : Int) (lst : LSt) (ix : IxSt) (s : SDev) (h : CAt S I w p q lq iq Fl Fi lo lst ix s)
  (l : List FRec) (n : Nat) (po : Nat) (A : Option Addr) (m c : Nat) (hr : Row w A (fun _ => True) (bcells [0])) (hml : m = 1) :
  Calls Tryz.prog 72 #[.pointer (some ⟨q, 0, none⟩), .int .i64 (po : Int), .slice A m c] w (LearnPost S I w p q lq Fl Fi lo lst s (l ++ [(po, none)]) (n + 1)) := by
 have HCV := Hd (hr.to_string (P := Tryz.prog) (src := 64) (dst := 9) Tryz.underlying64 Tryz.underlying5 Tryz.underlying9 m c hml)
 have hne : ((txt [0]).toList == [0]) = true := by rw [Lib.toList_data, txt_list]; decide
 have HNEW := Hd (I.new w hIT)
 have HC := Hd h
 clear hr hml h
 go_enter Tryz.func72, Tryz.ntmps72
 go_wp2_with (rw [HCV.out])
 refine (show Calls _ _ _ _ _ from HNEW.out).mono ?_
 rintro e w1 ⟨iq', Fi', rfl, hi, hF, hk⟩
 have hc1 := HC.out.kp hk
 have c1 := hc1.blk.c1
 have f1 := hc1.blk.f 1
 have HFIN := Hd (show LearnPost S I w p q lq Fl Fi lo lst s (l ++ [(po, none)]) (n + 1) (.returned (.tuple #[])) (w1.setCell ⟨q, 1, none⟩ (.pointer (some ⟨iq', 0, none⟩))) from by
  have hq := HC.out.blk.lt
  have hfl := fun b hb => S.lt HC.out.l b hb
  have hk1 : Keeps (fun b => b ≠ q) w1 (w1.setCell ⟨q, 1, none⟩ (.pointer (some ⟨iq', 0, none⟩))) := (Keeps.refl _ w1).setCell (.inr fun e => e rfl) _
  refine ⟨rfl, iq', Fi', [], ⟨hc1.blk.set1 iq', S.keep hc1.l (hk1.mono fun b _ hb e => HC.out.ql (e ▸ hb)), I.keep hi (hk1.mono fun b _ hb e => ?_), hc1.on, ⟨fun b hb hf => ?_, fun b hb hf => ?_⟩, hc1.ql, fun hf => ?_⟩, IxSays.wipe _ _ _, ⟨(hk.mono fun _ _ _ => trivial).trans (hk1.mono fun b _ hb => hb.1), fun b hb => .inr (hF b (.inl hb)), fun b hb => .inr (hF b (.inr hb))⟩⟩
  ·have := hF b hb; omega
  ·have := hF b hf; have := hfl b (.inl hb); omega
  ·have := hF b (.inl hb); have := hfl b hf; omega
  ·have := hF q hf; omega)
 clear hi hF hk hc1
 go_wp2_with fail
 go_end0
 exact HFIN.out
theorem clearn (S : Slog2) (I : IndexOK) (J : ItemOK) (W w : World) (hIT : I.T W) (hJT : J.T w) (p q lq iq : Nat) (Fl Fi : Foot) (lo : Int) (lst : LSt) (ix : IxSt) (s : SDev) (h : CAt S I w p q lq iq Fl Fi lo lst ix s) (hkp : Kp W w) (hgi : ∀ b, Fi.all b → W.heap.size ≤ b)
  (l : List FRec) (n : Nat) (hx : IxSays ix l n) (hn : n ≤ 32768) (a : FRec) (hm : ∀ x, a.2 = some x → x.may = true) (hpo : a.1 < 9223372036854775808) (A : Option Addr) (m c : Nat) (hr : Row w A (fun _ => True) (bcells (bodyO a.2))) (hml : m = (bodyO a.2).length) (hmc : m ≤ c) (hcm : c ≤ maxLen) :
  Calls Tryz.prog 72 #[.pointer (some ⟨q, 0, none⟩), .int .i64 (a.1 : Int), .slice A m c] w (LearnPost S I w p q lq Fl Fi lo lst s (l ++ [a]) (n + 1)) := by
 obtain ⟨po, y⟩ := a
 cases y with
 | none => exact learn_wipe S I w (I.tk hIT hkp) p q lq iq Fl Fi lo lst ix s h l n po A m c hr hml
 | some x =>
  cases hg : x.gone with
  | false => exact learn_put S I J W w hIT hJT p q lq iq Fl Fi lo lst ix s h hkp hgi l n hx hn x (hm x rfl) hg po hpo A m c hr hml hmc hcm
  | true => exact learn_drop S I J W w hIT hJT p q lq iq Fl Fi lo lst ix s h hkp hgi l n hx hn x (hm x rfl) hg po A m c hr hml hmc hcm
def nextF (st : FSt) (y : Option It) (g : Nat) : FSt :=
 match y with
 | some x => ⟨st.place, st.segs, st.ents ++ [⟨x, 0⟩], g, st.age + 1⟩
 | none => ⟨st.place, st.segs, [], 0, st.age + 1⟩
theorem fm_next (st : FSt) {lst : LSt} {hs : List FRec} (h : FM st lst hs) {y : Option It} (hm : ∀ x, y = some x → x.may = true) {p pos g f z : Nat} (hg : lst.gone ≤ g) (hg2 : g ≤ lst.hist.length + 1) (hz : z ≤ lst.next + 1048576) (hold : st.age + 1 ≤ 30000) :
  ∃ g', st.gone ≤ g' ∧ FM (nextF st y g') ⟨p, lst.place, lst.segs, lst.hist ++ [⟨pos, bodyO y, 0⟩], g, f, z⟩ (hs ++ [(pos, y)]) := by
 cases y with
 | none => exact ⟨st.gone, Nat.le_refl _, h.wiped hg2 hz hold⟩
 | some x => exact h.add (hm x rfl) hg hz hold
theorem bodyO_len {y : Option It} (hm : ∀ x, y = some x → x.may = true) : 1 ≤ (bodyO y).length ∧ (bodyO y).length ≤ 280 := by
 cases y with
 | none => exact ⟨Nat.le_refl _, by show 1 ≤ 280; decide⟩
 | some x => exact ⟨by have := x.bytes_four; show 1 ≤ x.bytes.length; omega, It.bytes_len (hm x rfl)⟩
theorem nextF_age (st : FSt) (y : Option It) (g : Nat) : (nextF st y g).age = st.age + 1 := by cases y <;> rfl
theorem nextF_has (st : FSt) (y : Option It) (g i : Nat) : (nextF st y g).has i ↔ st.has i := by cases y <;> rfl
structure Mid (S : Slog2) (I : IndexOK) (w w1 : World) (p q lq iq : Nat) (F Fl Fi F' Fl' : Foot) (lo : Int) (lst lst' : LSt) (ix : IxSt) (s s' : SDev) : Prop where
 d : DAt w1 p F' s'
 c : CAt S I w1 p q lq iq Fl' Fi lo lst' ix s'
 k : Keeps (fun b => ¬ F.M b ∧ ¬ Fl.M b) w w1
 f1 : ∀ b, F'.M b → F.M b ∨ w.heap.size ≤ b
 f2 : ∀ b, F'.I b → F.all b ∨ w.heap.size ≤ b
 f3 : ∀ b, Fl'.M b → Fl.M b ∨ w.heap.size ≤ b
 f4 : ∀ b, Fl'.I b → Fl.all b ∨ w.heap.size ≤ b
 ap : Apart F' Fl'
section
variable {S : Slog2} {I : IndexOK} {w w1 w2 : World} {p q lq iq iq' : Nat} {F Fl Fi F' Fl' Fi' : Foot} {lo : Int} {lst lst' : LSt} {ix ix' : IxSt} {s s' : SDev}
theorem apart_log (ha : Apart F (cfoot q Fl Fi)) : Apart F Fl :=
 ⟨fun b hb hf => ha.l b hb (cfoot_all.2 (.inr (.inl hf))), fun b hb hf => ha.r b (.inr (.inl hb)) hf⟩
theorem Mid.of (hc : CAt S I w p q lq iq Fl Fi lo lst ix s) (_hd : DAt w p F s) (ha : Apart F (cfoot q Fl Fi)) (hd' : DAt w1 p F' s') (hr : S.rep w1 lq Fl' lst' s') (hon : lst'.dev = p) (hap : Apart F' Fl') (hk : Keeps (fun b => ¬ F.M b ∧ ¬ Fl.M b) w w1)
  (f1 : ∀ b, F'.M b → F.M b ∨ w.heap.size ≤ b) (f2 : ∀ b, F'.I b → F.all b ∨ w.heap.size ≤ b) (f3 : ∀ b, Fl'.M b → Fl.M b ∨ w.heap.size ≤ b) (f4 : ∀ b, Fl'.I b → Fl.all b ∨ w.heap.size ≤ b) : Mid S I w w1 p q lq iq F Fl Fi F' Fl' lo lst lst' ix s s' := by
 have hlt := hc.lt
 have hq : q < w.heap.size := hlt q (cfoot_all.2 (.inl rfl))
 have all' : ∀ b, Fl'.all b → Fl.all b ∨ w.heap.size ≤ b := fun b hb => by
  rcases hb with hb | hb
  ·rcases f3 b hb with h1 | h1
   ·exact .inl (.inl h1)
   ·exact .inr h1
  ·exact f4 b hb
 refine ⟨hd', ⟨hc.blk.keep hk ⟨fun hm => ha.l q hm (cfoot_all.2 (.inl rfl)), fun hm => hc.ql (.inl hm)⟩, hr, I.keep hc.i (hk.mono fun b _ hb => ⟨fun hm => ha.l b hm (cfoot_all.2 (.inr (.inr hb))), fun hm => hc.ap.l b hm hb⟩), hon, ⟨fun b hb hf => ?_, fun b hb hf => ?_⟩, fun hf => ?_, hc.qi⟩, hk, f1, f2, f3, f4, hap⟩
 ·rcases f3 b hb with h1 | h1
  ·exact hc.ap.l b h1 hf
  ·have := I.lt hc.i b hf; omega
 ·rcases all' b hf with h1 | h1
  ·exact hc.ap.r b hb h1
  ·have := I.lt hc.i b (.inl hb); omega
 ·rcases all' q hf with h1 | h1
  ·exact hc.ql h1
  ·omega
theorem Mid.go (hm : Mid S I w w1 p q lq iq F Fl Fi F' Fl' lo lst lst' ix s s') (hc : CAt S I w p q lq iq Fl Fi lo lst ix s) (_hd : DAt w p F s) (ha : Apart F (cfoot q Fl Fi)) {lo' : Int} (_hc2 : CAt S I w2 p q lq iq' Fl' Fi' lo' lst' ix' s') (hl : Lrn w1 w2 q Fi Fi') {st : FSt} {n : Nat}
  (hlen : s'.now.length = s.now.length) (hout : ∀ i, ¬ st.has i → s'.now.getD i [] = s.now.getD i []) (hcalls : s'.calls ≤ s.calls + 1000 * n) :
  DAt w2 p F' s' ∧ FGo w w2 F F' (cfoot q Fl Fi) (cfoot q Fl' Fi') s s' st n := by
 have hlt := hc.lt
 have hq : q < w.heap.size := hlt q (cfoot_all.2 (.inl rfl))
 have hsz := hm.k.size
 have f2' : ∀ b, F'.all b → F.all b ∨ w.heap.size ≤ b := fun b hb => by
  rcases hb with hb | hb
  ·rcases hm.f1 b hb with h1 | h1
   ·exact .inl (.inl h1)
   ·exact .inr h1
  ·exact hm.f2 b hb
 have fi' : ∀ b, Fi'.all b → Fi.all b ∨ w1.heap.size ≤ b := fun b hb => by
  rcases hb with hb | hb
  ·rcases hl.m b hb with h1 | h1
   ·exact .inl (.inl h1)
   ·exact .inr h1
  ·exact hl.i b hb
 have hFq : ¬ F'.all q := fun hf => by
  rcases f2' q hf with h1 | h1
  ·exact ha.r q (.inl rfl) h1
  ·omega
 have hFi : ∀ b, Fi.M b → ¬ F'.all b := fun b hb hf => by
  rcases f2' b hf with h1 | h1
  ·exact ha.r b (.inr (.inr hb)) h1
  ·have := hlt b (cfoot_all.2 (.inr (.inr (.inl hb)))); omega
 have hFM : ∀ b, F'.M b → ¬ Fi.all b := fun b hb hf => by
  rcases hm.f1 b hb with h1 | h1
  ·exact ha.l b h1 (cfoot_all.2 (.inr (.inr hf)))
  ·have := hlt b (cfoot_all.2 (.inr (.inr hf))); omega
 refine ⟨hm.d.keep (hl.k.mono fun b _ hb => ⟨fun e => hFq (e ▸ hb), fun h => hFi b h hb⟩), ⟨⟨fun b hb hf => ?_, fun b hb hf => ?_⟩, ?_, hm.f1, hm.f2, fun b hb => ?_, fun b hb => ?_, hlen, hout, hcalls⟩⟩
 ·rcases cfoot_all.1 hf with rfl | hf | hf
  ·exact hFq (.inl hb)
  ·exact hm.ap.l b hb hf
  ·rcases fi' b hf with h1 | h1
   ·exact hFM b hb h1
   ·have := hm.d.lt b (.inl hb); omega
 ·rcases hb with rfl | hb | hb
  ·exact hFq hf
  ·exact hm.ap.r b hb hf
  ·rcases hl.m b hb with h1 | h1
   ·exact hFi b h1 hf
   ·have := hm.d.lt b hf; omega
 ·refine (hm.k.mono fun b _ hb => ⟨hb.1, fun h => hb.2 (.inr (.inl h))⟩).trans (hl.k.mono fun b _ hb => ⟨fun e => hb.2 (.inl e), fun h => hb.2 (.inr (.inr h))⟩)
 ·rcases hb with rfl | hb | hb
  ·exact .inl (.inl rfl)
  ·rcases hm.f3 b hb with h1 | h1
   ·exact .inl (.inr (.inl h1))
   ·exact .inr h1
  ·rcases hl.m b hb with h1 | h1
   ·exact .inl (.inr (.inr h1))
   ·exact .inr (by omega)
 ·rcases hb with hb | hb
  ·rcases hm.f4 b hb with h1 | h1
   ·exact .inl (cfoot_all.2 (.inr (.inl h1)))
   ·exact .inr h1
  ·rcases hl.i b hb with h1 | h1
   ·exact .inl (cfoot_all.2 (.inr (.inr h1)))
   ·exact .inr (by omega)
end
theorem kp_over {W w w1 : World} {F Fl : Foot} (kp : Kp W w) (hk : Keeps (fun b => ¬ F.M b ∧ ¬ Fl.M b) w w1) (gf : ∀ b, F.all b → W.heap.size ≤ b) (gs : ∀ b, Fl.all b → W.heap.size ≤ b) : Kp W w1 :=
 ⟨hk.os.trans kp.os, hk.tape.trans kp.tape, hk.output.trans kp.output, Nat.le_trans kp.size hk.size, fun b _ hb =>
  (hk.block b ⟨fun hm => by have := gf b (.inl hm); omega, fun hm => by have := gs b (.inl hm); omega⟩ (Nat.lt_of_lt_of_le hb kp.size)).trans (kp.block b trivial hb)⟩
theorem Lrn.trans {w1 w2 w3 : World} {q : Nat} {Fi Fi1 Fi2 : Foot} (h : Lrn w1 w2 q Fi Fi1) (k : Lrn w2 w3 q Fi1 Fi2) (_hq : q < w1.heap.size) : Lrn w1 w3 q Fi Fi2 := by
 have hsz := h.k.size
 refine ⟨⟨k.k.os.trans h.k.os, k.k.tape.trans h.k.tape, k.k.output.trans h.k.output, Nat.le_trans hsz k.k.size, fun b hb hlt => ?_⟩, fun b hb => ?_, fun b hb => ?_⟩
 ·refine (k.k.block b ⟨hb.1, fun hm => ?_⟩ (Nat.lt_of_lt_of_le hlt hsz)).trans (h.k.block b hb hlt)
  rcases h.m b hm with h1 | h1
  ·exact hb.2 h1
  ·omega
 ·rcases k.m b hb with h1 | h1
  ·exact h.m b h1
  ·exact .inr (by omega)
 ·rcases k.i b hb with h1 | h1
  ·rcases h1 with h1 | h1
   ·rcases h.m b h1 with h2 | h2
    ·exact .inl (.inl h2)
    ·exact .inr h2
   ·exact h.i b h1
  ·exact .inr (by omega)
def AddPost (S : Slog2) (I : IndexOK) (w : World) (p q : Nat) (F Fs : Foot) (s : SDev) (st : FSt) (y : Option It) (e : Ending) (w' : World) : Prop :=
 e = .returned (.int .i64 0) ∧ ∃ (F' Fs' : Foot) (s' : SDev) (g : Nat), st.gone ≤ g ∧ DAt w' p F' s' ∧ flashRep S I w' p q Fs' (nextF st y g) s' ∧ FGo w w' F F' Fs Fs' s s' st 1
theorem cadd (S : Slog2) (I : IndexOK) (J : ItemOK) (W w : World) (hT : S.T W ∧ I.T W ∧ J.T W) (p q : Nat) (F Fs : Foot) (s : SDev) (st : FSt) (hb : Cb S I W w p q F Fs s st) (hage : st.age ≤ 25000) (hcl : s.calls ≤ 549755813888) (y : Option It) (hy : ∀ x, y = some x → x.may = true)
  (A : Option Addr) (n c : Nat) (hrow : Row w A (fun b => ¬ F.all b ∧ ¬ Fs.all b) (bcells (bodyO y))) (hn : n = (bodyO y).length) (hlc : n ≤ c) (hcm : c ≤ maxLen) :
  Calls Tryz.prog 44 #[.pointer (some ⟨q, 0, none⟩), .slice A n c] w (AddPost S I w p q F Fs s st y) := by
 obtain ⟨d, r, ap, kp, gf, gs, room⟩ := hb
 obtain ⟨lq, iq, Fl, Fi, lo, lst, ix, hs, rfl, hc, hm, hx⟩ := r
 have hl := bodyO_len hy
 have gl : ∀ b, Fl.all b → W.heap.size ≤ b := fun b hb => gs b (cfoot_all.2 (.inr (.inl hb)))
 have gi : ∀ b, Fi.all b → W.heap.size ≤ b := fun b hb => gs b (cfoot_all.2 (.inr (.inr hb)))
 have HF1 := Hd (S.first2 w lq Fl s lst hc.l)
 have ha := S.append W w p lq F Fl s lst d hc.l hc.on (apart_log ap) hT.1 kp gf gl (by rw [hm.place, hm.segs]; exact room) hcl (by have := hm.next; omega) A c (fun b => ¬ F.all b ∧ ¬ (cfoot q Fl Fi).all b) (bodyO y) hrow (fun b hb => hb.1) (fun b hb h => hb.2 (cfoot_all.2 (.inr (.inl h)))) (by omega) hcm hl.1 (by omega)
 rw [← hn] at ha
 have HA := Hd ha
 clear ha
 have c0 := hc.blk.c0
 have HL := Hd (show ∀ (w1 : World) (x : Nat) (F' Fl' : Foot) (s' : SDev) (g f nx : Nat), DAt w1 p F' s' → S.rep w1 lq Fl' ⟨p, lst.place, lst.segs, lst.hist ++ [⟨x, bodyO y, 0⟩], g, f, nx⟩ s' → lst.gone ≤ g → lst.next ≤ x → nx ≤ lst.next + 1048576 → s'.now.length = s.now.length → (∀ i, ¬ lst.has i → s'.now.getD i [] = s.now.getD i []) → s'.calls ≤ s.calls + 1000 → Apart F' Fl' → Keeps (fun b => ¬ F.M b ∧ ¬ Fl.M b) w w1 →
   (∀ b, F'.M b → F.M b ∨ w.heap.size ≤ b) → (∀ b, F'.I b → F.all b ∨ w.heap.size ≤ b) → (∀ b, Fl'.M b → Fl.M b ∨ w.heap.size ≤ b) → (∀ b, Fl'.I b → Fl.all b ∨ w.heap.size ≤ b) →
   w1.cell? ⟨q, 0, none⟩ = some (.pointer (some ⟨lq, 0, none⟩)) ∧ Calls Tryz.prog 72 #[.pointer (some ⟨q, 0, none⟩), .int .i64 (x : Int), .slice A n c] w1 fun e w2 => e = .returned (.tuple #[]) ∧ ∃ (iq' : Nat) (Fi' : Foot) (ix' : IxSt), CBlk w2 q lq iq' lo ∧ S.rep w2 lq Fl' ⟨p, lst.place, lst.segs, lst.hist ++ [⟨x, bodyO y, 0⟩], g, f, nx⟩ s' ∧ f < 9223372036854775808 ∧ lst.first < 9223372036854775808 ∧ (f = lst.first → AddPost S I w p q F (cfoot q Fl Fi) s st y (.returned (.int .i64 0)) w2) ∧
    ∀ w3, Kp w2 w3 → Calls Tryz.prog 73 #[.pointer (some ⟨iq', 0, none⟩), .int .i64 (f : Int)] w3 fun e w4 => (∃ v, e = .returned (.int .i64 v)) ∧ AddPost S I w p q F (cfoot q Fl Fi) s st y (.returned (.int .i64 0)) w4 from by
  intro w1 x F' Fl' s' g f nx hd' hrep' hgg hxn hnn hlen hout hcalls hap' hk' f1 f2 f3 f4
  have hok := S.wf hc.l
  have hok' := S.wf hrep'
  have hp := S.past hc.l
  have hp' := S.past hrep'
  have hfx : f < 9223372036854775808 := by have h1 := hp'.1; have h2 := hok'.small; simp only at h1 h2; omega
  have hf0 : lst.first < 9223372036854775808 := by have h1 := hp.1; have h2 := hok.small; omega
  obtain ⟨g', hgg', hm'⟩ := fm_next st hm hy (p := p) (pos := x) (f := f) hgg (by have := hok'.gone; simpa using this) hnn (by omega)
  have hmid := Mid.of hc d ap hd' hrep' rfl hap' hk' f1 f2 f3 f4
  have kp1 := kp_over kp hk' gf gl
  have hq1 := hmid.c.blk.lt
  have hxs : x < 9223372036854775808 := by
   have h1 := hok'.next.2 ⟨x, bodyO y, 0⟩ (by simp)
   have h2 := hok'.small
   simp only at h1 h2
   omega
  have hfin : ∀ (w4 : World) (iq' : Nat) (Fi' : Foot) (ix' : IxSt), CAt S I w4 p q lq iq' Fl' Fi' lo ⟨p, lst.place, lst.segs, lst.hist ++ [⟨x, bodyO y, 0⟩], g, f, nx⟩ ix' s' → IxSays ix' ((hs ++ [(x, y)]).drop g) (st.age + 1) → Lrn w1 w4 q Fi Fi' → AddPost S I w p q F (cfoot q Fl Fi) s st y (.returned (.int .i64 0)) w4 := fun w4 iq' Fi' ix' hc4 hx4 hl4 => by
   obtain ⟨hD, hG⟩ := hmid.go hc d ap hc4 hl4 (st := st) (n := 1) hlen (fun i hi => hout i fun hh => hi ((hm.has i).1 hh)) (by omega)
   exact ⟨rfl, F', _, s', g', hgg', hD, ⟨lq, iq', Fl', Fi', lo, _, ix', hs ++ [(x, y)], rfl, hc4, hm', by rw [nextF_age]; exact hx4⟩, hG⟩
  refine ⟨hmid.c.blk.c0, (clearn S I J W w1 hT.2.1 (J.tk hT.2.2 kp1) p q lq iq Fl' Fi lo _ ix s' hmid.c kp1 gi (hs.drop lst.gone) st.age hx (by omega) (x, y) hy hxs A n c ((hrow.keep (hk'.mono fun b _ hb => ⟨fun h => hb.1 (.inl h), fun h => hb.2 (cfoot_all.2 (.inr (.inl (.inl h))))⟩)).mono fun _ _ _ => trivial) hn hlc hcm).mono ?_⟩
  rintro e w2 ⟨rfl, iq', Fi', ix', hc2, hx2, hl2⟩
  have hkept := ix_kept (g' := g) (f := lst.first) (f' := f) hx2 (by rw [← hm.len]; exact hok.gone) hgg (pos_ge (P := fun z => lst.first ≤ z) hm.pos _ hok.first) (Nat.le_trans hp.1 hxn) (pos_lt (P := fun z => z < f) hm'.pos g hp'.2) (pos_ge (P := fun z => f ≤ z) hm'.pos g hok'.first)
  refine ⟨rfl, iq', Fi', ix', hc2.blk, hc2.l, hfx, hf0, fun hf => hfin w2 iq' Fi' ix' hc2 (hkept.1 hf) hl2, fun w3 hk3 => ?_⟩
  have kp2 : Kp W w2 := ⟨hl2.k.os.trans kp1.os, hl2.k.tape.trans kp1.tape, hl2.k.output.trans kp1.output, Nat.le_trans kp1.size hl2.k.size, fun b _ hb =>
   (hl2.k.block b ⟨fun e => by have := gs q (cfoot_all.2 (.inl rfl)); omega, fun h => by have := gi b (.inl h); omega⟩ (Nat.lt_of_lt_of_le hb kp1.size)).trans (kp1.block b trivial hb)⟩
  have gi2 : ∀ b, Fi'.all b → W.heap.size ≤ b := fun b hb => by
   have hsz := kp1.size
   rcases hb with hb | hb
   ·rcases hl2.m b hb with h1 | h1
    ·exact gi b (.inl h1)
    ·omega
   ·rcases hl2.i b hb with h1 | h1
    ·exact gi b h1
    ·omega
  refine (I.below W w3 iq' Fi' ix' (hc2.kp hk3).i hT.2.1 (kp2.trans hk3) gi2 (Nat.le_trans hx2.len (by omega)) (f : Int) ⟨by omega, by omega⟩).mono ?_
  rintro e w4 ⟨rfl, Fi2, hr4, hs4⟩
  have h4 := (hc2.kp hk3).learnt hk3 hc2.lt hr4 hs4
  exact ⟨⟨_, rfl⟩, hfin w4 iq' Fi2 _ h4.1 hkept.2 (hl2.trans h4.2 hq1)⟩)
 clear hc hm hx hl gl gi room hrow hn hlc hcm hcl hage d ap kp gf gs
 generalize lst.first = f0 at HF1 HL
 go_enter Tryz.func44, Tryz.ntmps44
 go_wp2_with fail
 refine (show Calls _ _ _ _ _ from HF1.out).mono ?_
 rintro e w' ⟨rfl, rfl⟩
 go_wp2_with fail
 refine (show Calls _ _ _ _ _ from HA.out).mono ?_
 rintro e w1 ⟨x, F', Fl', s', g, f, nx, rfl, hd', hrep', hgg, hxn, hnn, hlen, hout, hcalls, hap', hk', f1, f2, f3, f4⟩
 obtain ⟨c1, hlearn⟩ := HL.out w1 x F' Fl' s' g f nx hd' hrep' hgg hxn hnn hlen hout hcalls hap' hk' f1 f2 f3 f4
 have HLN := Hd hlearn
 clear hlearn hd' hrep' hgg hxn hnn hlen hout hcalls hap' hk' f1 f2 f3 f4 c0
 go_wp2_with fail
 refine (show Calls _ _ _ _ _ from HLN.out).mono ?_
 rintro e w2 ⟨rfl, iq', Fi', ix', hbk, hrep2, hfx, hf0, hsame, hbelow⟩
 have c2 := hbk.c0
 have c3 := hbk.c1
 have HF2 := Hd (S.first2 _ _ _ _ _ hrep2)
 have HF3 := Hd (S.first2 _ _ _ _ _ (S.keep hrep2 ((Keeps.refl _ w2).drew)))
 have HS := Hd hsame
 have HB := Hd (hbelow w2.drew ((Keeps.refl _ w2).drew))
 have HFX := Hd hfx
 have HF0 := Hd hf0
 clear hsame hbelow hbk hrep2 hfx hf0 c1
 go_wp2_with fail
 refine (show Calls _ _ _ _ _ from HF2.out).mono ?_
 rintro e w3 ⟨rfl, rfl⟩
 by_cases hf : f = f0
 ·have HP := Hd (HS.out hf)
  subst hf
  go_wp2_with fail
  go_ret
  exact HP.out
 ·have t1 : ((f : Int) != (f0 : Int)) = true := bne_iff_ne.2 (by omega)
  clear hf
  go_wp2_with fail
  go_still_tail 9, (by kernel_rfl)
  still_call HF3.out
  refine wpStill_nil ?_
  change wpList _ _ _ _ _ w3.drew
  generalize w3.drew = wd at HB ⊢
  go_wp2_with fail
  refine (show Calls _ _ _ _ _ from HB.out).mono ?_
  rintro e w4 ⟨⟨v, rfl⟩, hp⟩
  go_wp2_with fail
  go_ret
  exact hp
def aged (st : FSt) (a : Nat) : FSt := ⟨st.place, st.segs, st.ents, st.gone, a⟩
theorem FM.aged {st : FSt} {lst : LSt} {hs : List FRec} (h : FM st lst hs) {a : Nat} (ha : st.age ≤ a) (ho : a ≤ 30000) : FM (aged st a) lst hs :=
 ⟨h.key, h.may, h.cut, h.place, h.segs, Nat.le_trans h.age ha, by have h1 := h.next; show lst.next ≤ 1048576 * a; omega, ho⟩
def FlushPost (S : Slog2) (I : IndexOK) (w : World) (p q : Nat) (F Fs : Foot) (s : SDev) (st : FSt) (e : Ending) (w' : World) : Prop :=
 e = .returned (.int .i64 0) ∧ ∃ (F' Fs' : Foot) (rows : List (List UInt8)) (k : Nat), DAt w' p F' (SDev.still rows k) ∧ (∀ a, st.age ≤ a → a ≤ 30000 → flashRep S I w' p q Fs' (aged st a) (SDev.still rows k) ∧ flashDisk S (aged st a) rows) ∧ FGo w w' F F' Fs Fs' s (SDev.still rows k) st 1
theorem cflush (S : Slog2) (I : IndexOK) (W w : World) (hT : S.T W) (p q : Nat) (F Fs : Foot) (s : SDev) (st : FSt) (hb : Cb S I W w p q F Fs s st) (hcl : s.calls ≤ 549755813888) :
  Calls Tryz.prog 20 #[.pointer (some ⟨q, 0, none⟩)] w (FlushPost S I w p q F Fs s st) := by
 obtain ⟨d, r, ap, kp, gf, gs, room⟩ := hb
 obtain ⟨lq, iq, Fl, Fi, lo, lst, ix, hs, rfl, hc, hm, hx⟩ := r
 have gl : ∀ b, Fl.all b → W.heap.size ≤ b := fun b hb => gs b (cfoot_all.2 (.inr (.inl hb)))
 have c0 := hc.blk.c0
 have HDN := Hd (cdown w q lq c0)
 have HFL := Hd (S.flush W w p lq F Fl s lst d hc.l hc.on (apart_log ap) hT kp gf gl (by rw [hm.place, hm.segs]; exact room) hcl)
 have HL := Hd (show ∀ (w1 : World) (F' Fl' : Foot) (rows : List (List UInt8)) (k : Nat), DAt w1 p F' (SDev.still rows k) → S.rep w1 lq Fl' lst (SDev.still rows k) → S.disk lst rows → rows.length = s.now.length → (∀ i, ¬ lst.has i → rows.getD i [] = s.now.getD i []) → k ≤ s.calls + 1000 → Apart F' Fl' → Keeps (fun b => ¬ F.M b ∧ ¬ Fl.M b) w w1 →
   (∀ b, F'.M b → F.M b ∨ w.heap.size ≤ b) → (∀ b, F'.I b → F.all b ∨ w.heap.size ≤ b) → (∀ b, Fl'.M b → Fl.M b ∨ w.heap.size ≤ b) → (∀ b, Fl'.I b → Fl.all b ∨ w.heap.size ≤ b) →
   w1.cell? ⟨q, 0, none⟩ = some (.pointer (some ⟨lq, 0, none⟩)) ∧ w1.cell? ⟨q, 2, none⟩ = some (.int .i64 lo) ∧ w1.frozen? ⟨q, 2, none⟩ = false ∧ Calls Tryz.prog 52 #[.pointer (some ⟨lq, 0, none⟩)] w1 (fun e w' => e = .returned (.int .i64 (lst.next : Int)) ∧ w' = w1) ∧ FlushPost S I w p q F (cfoot q Fl Fi) s st (.returned (.int .i64 0)) (w1.setCell ⟨q, 2, none⟩ (.int .i64 (lst.next : Int))) from by
  intro w1 F' Fl' rows k hd' hrep' hdk hlen hout hcalls hap' hk' f1 f2 f3 f4
  have hmid := Mid.of hc d ap hd' hrep' hc.on hap' hk' f1 f2 f3 f4
  refine ⟨hmid.c.blk.c0, hmid.c.blk.c2, hmid.c.blk.f 2, S.next2 _ _ _ _ _ hrep', ?_⟩
  have hk1 : Keeps (fun b => b ≠ q) w1 (w1.setCell ⟨q, 2, none⟩ (.int .i64 (lst.next : Int))) := (Keeps.refl _ w1).setCell (.inr fun e => e rfl) _
  have hc2 : CAt S I (w1.setCell ⟨q, 2, none⟩ (.int .i64 (lst.next : Int))) p q lq iq Fl' Fi (lst.next : Int) lst ix (SDev.still rows k) :=
   ⟨hmid.c.blk.set2 _, S.keep hmid.c.l (hk1.mono fun b _ hb e => hmid.c.ql (e ▸ hb)), I.keep hmid.c.i (hk1.mono fun b _ hb e => hmid.c.qi (e ▸ hb)), hmid.c.on, hmid.c.ap, hmid.c.ql, hmid.c.qi⟩
  obtain ⟨hD, hG⟩ := hmid.go hc d ap hc2 ⟨hk1.mono fun b _ hb => hb.1, fun b hb => .inl hb, fun b hb => .inl (.inr hb)⟩ (st := st) (n := 1) hlen (fun i hi => hout i fun hh => hi ((hm.has i).1 hh)) hcalls
  exact ⟨rfl, F', _, rows, k, hD, fun a ha ho => ⟨⟨lq, iq, Fl', Fi, _, lst, ix, hs, rfl, hc2, hm.aged ha ho, hx.more ha⟩, ⟨lst, hs, hdk, hm.aged ha ho⟩⟩, hG⟩)
 clear hc hm hx d ap gf gs gl room kp hcl
 generalize lst.next = nx at HL
 go_enter Tryz.func20, Tryz.ntmps20
 go_wp2_with fail
 refine (show Calls _ _ _ _ _ from HDN.out).mono ?_
 rintro e w' ⟨rfl, rfl⟩
 go_wp2_with fail
 refine (show Calls _ _ _ _ _ from HFL.out).mono ?_
 rintro e w1 ⟨rfl, F', Fl', rows, k, hd', hrep', hdk, hlen, hout, hcalls, hap', hk', f1, f2, f3, f4⟩
 obtain ⟨x0, x2, xf, hnext, hpost⟩ := HL.out w1 F' Fl' rows k hd' hrep' hdk hlen hout hcalls hap' hk' f1 f2 f3 f4
 have HN := Hd hnext
 have HP := Hd hpost
 clear hnext hpost hd' hrep' hdk hlen hout hcalls hap' hk' f1 f2 f3 f4 c0
 go_wp2_with fail
 refine (show Calls _ _ _ _ _ from HN.out).mono ?_
 rintro e w2 ⟨rfl, rfl⟩
 go_wp2_with fail
 go_ret
 exact HP.out
theorem Cb.next {S : Slog2} {I : IndexOK} {W w w' : World} {p q : Nat} {F F' Fs Fs' : Foot} {s s' : SDev} {st : FSt} {y : Option It} {g n : Nat} (h : Cb S I W w p q F Fs s st) (hd : DAt w' p F' s') (hr : flashRep S I w' p q Fs' (nextF st y g) s') (hgo : FGo w w' F F' Fs Fs' s s' st n) : Cb S I W w' p q F' Fs' s' (nextF st y g) :=
 h.moved hd hr (by cases y <;> rfl) (by cases y <;> rfl) hgo
theorem FGo.more {w w' : World} {F F' Fs Fs' : Foot} {s s' : SDev} {st : FSt} {n m : Nat} (h : FGo w w' F F' Fs Fs' s s' st n) (hm : n ≤ m) : FGo w w' F F' Fs Fs' s s' st m :=
 ⟨h.ap, h.k, h.f1, h.f2, h.f3, h.f4, h.len, h.out, by have := h.calls; omega⟩
theorem cadd2 (S : Slog2) (I : IndexOK) (J : ItemOK) (W w : World) (hT : S.T W ∧ I.T W ∧ J.T W) (p q : Nat) (F Fs : Foot) (s : SDev) (st : FSt) (hb : Cb S I W w p q F Fs s st) (hage : st.age ≤ 25000) (hcl : s.calls ≤ 549755813888) (y : Option It) (hy : ∀ x, y = some x → x.may = true) (w1 : World) (hk : Kp w w1)
  (A : Option Addr) (n c : Nat) (hrow : Row w1 A (fun b => w.heap.size ≤ b) (bcells (bodyO y))) (hn : n = (bodyO y).length) (hlc : n ≤ c) (hcm : c ≤ maxLen) :
  Calls Tryz.prog 44 #[.pointer (some ⟨q, 0, none⟩), .slice A n c] w1 (AddPost S I w p q F Fs s st y) := by
 refine (cadd S I J W w1 hT p q F Fs s st (hb.keep hk) hage hcl y hy A n c (hrow.mono fun b _ hb2 => ⟨fun h => ?_, fun h => ?_⟩) hn hlc hcm).mono ?_
 ·have := hb.d.lt b h; omega
 ·have := frep_lt hb.r b h; omega
 ·rintro e w2 ⟨rfl, F', Fs', s', g, hg, hd, hr, hgo⟩
  exact ⟨rfl, F', Fs', s', g, hg, hd, hr, by simpa using (FGo.still hb hk).trans hgo fun _ => Iff.rfl⟩
def LFlushPost (S : Slog2) (I : IndexOK) (w : World) (p q : Nat) (F Fs : Foot) (s : SDev) (st : FSt) (e : Ending) (w' : World) : Prop :=
 e = .returned (.int .i64 0) ∧ ∃ (F' Fs' : Foot) (s' : SDev), DAt w' p F' s' ∧ flashRep S I w' p q Fs' st s' ∧ FGo w w' F F' Fs Fs' s s' st 1
theorem clflush (S : Slog2) (I : IndexOK) (W w : World) (hT : S.T W) (p q : Nat) (F Fs : Foot) (s : SDev) (st : FSt) (hb : Cb S I W w p q F Fs s st) (hcl : s.calls ≤ 549755813888) :
  ∃ (lq : Nat) (lo : Int), w.cell? ⟨q, 0, none⟩ = some (.pointer (some ⟨lq, 0, none⟩)) ∧ w.cell? ⟨q, 2, none⟩ = some (.int .i64 lo) ∧ Calls Tryz.prog 46 #[.pointer (some ⟨lq, 0, none⟩)] w (LFlushPost S I w p q F Fs s st) := by
 obtain ⟨d, r, ap, kp, gf, gs, room⟩ := hb
 obtain ⟨lq, iq, Fl, Fi, lo, lst, ix, hs, rfl, hc, hm, hx⟩ := r
 have gl : ∀ b, Fl.all b → W.heap.size ≤ b := fun b hb => gs b (cfoot_all.2 (.inr (.inl hb)))
 refine ⟨lq, lo, hc.blk.c0, hc.blk.c2, (S.flush W w p lq F Fl s lst d hc.l hc.on (apart_log ap) hT kp gf gl (by rw [hm.place, hm.segs]; exact room) hcl).mono ?_⟩
 rintro e w1 ⟨rfl, F', Fl', rows, k, hd', hrep', hdk, hlen, hout, hcalls, hap', hk', f1, f2, f3, f4⟩
 have hmid := Mid.of hc d ap hd' hrep' hc.on hap' hk' f1 f2 f3 f4
 obtain ⟨hD, hG⟩ := hmid.go hc d ap hmid.c ⟨Keeps.refl _ _, fun b hb => .inl hb, fun b hb => .inl (.inr hb)⟩ (st := st) (n := 1) hlen (fun i hi => hout i fun hh => hi ((hm.has i).1 hh)) hcalls
 exact ⟨rfl, F', _, _, hD, ⟨lq, iq, Fl', Fi, lo, lst, ix, hs, rfl, hmid.c, hm, hx⟩, hG⟩
def PutPost (S : Slog2) (I : IndexOK) (w : World) (p q : Nat) (F Fs : Foot) (s : SDev) (st : FSt) (x : It) (e : Ending) (w' : World) : Prop :=
 e = .returned (.int .i64 0) ∧ ∃ (F' Fs' : Foot) (s' : SDev) (g : Nat), DAt w' p F' s' ∧ flashRep S I w' p q Fs' ⟨st.place, st.segs, st.ents ++ [fput x], g, st.age + 1⟩ s' ∧ st.gone ≤ g ∧ FGo w w' F F' Fs Fs' s s' st 2
theorem cplace (S : Slog2) (I : IndexOK) {w : World} {p q : Nat} {F Fs : Foot} {s : SDev} {st : FSt} (hIT : I.T w) (r : flashRep S I w p q Fs st s) (ap : Apart F Fs) (hage : st.age ≤ 30000) (k : ByteArray) (hk : k.size ≤ 1000000) :
  ∃ (lq iq : Nat) (Fl : Foot) (lst : LSt) (hs : List FRec) (v : Int) (b : Bool), w.cell? ⟨q, 0, none⟩ = some (.pointer (some ⟨lq, 0, none⟩)) ∧ w.cell? ⟨q, 1, none⟩ = some (.pointer (some ⟨iq, 0, none⟩)) ∧ S.rep w lq Fl lst s ∧ lst.dev = p ∧ Apart F Fl ∧ lst.place = st.place ∧ lst.segs = st.segs ∧ lst.recs = (hs.drop lst.gone).map frk ∧ st.at_ k = (sp (hs.drop lst.gone) k).map (·.2) ∧ (∀ p x, (p, some x) ∈ hs → x.may = true) ∧
   v = ((sp (hs.drop lst.gone) k).map fun a => (a.1 : Int)).getD 0 ∧ b = (sp (hs.drop lst.gone) k).isSome ∧ ∀ w1, Kp w w1 → Calls Tryz.prog 43 #[.pointer (some ⟨iq, 0, none⟩), .string k] w1 fun e w' => e = .returned (.tuple #[.int .i64 v, .bool b]) ∧ Kp w1 w' := by
 obtain ⟨lq, iq, Fl, Fi, lo, lst, ix, hs, rfl, hc, hm, hx⟩ := r
 refine ⟨lq, iq, Fl, lst, hs, _, _, hc.blk.c0, hc.blk.c1, hc.l, hc.on, apart_log ap, hm.place, hm.segs, hm.recs, hm.at_ k, hm.may, rfl, rfl, fun w1 hk1 => ?_⟩
 refine (I.get w1 iq Fi ix (hc.kp hk1).i (I.tk hIT hk1) (Nat.le_trans hx.len (by omega)) k hk).mono ?_
 rintro e w2 ⟨rfl, hk2⟩
 refine ⟨?_, hk2⟩
 rw [hx.is k]
 cases sp (hs.drop lst.gone) k <;> rfl
theorem put_end (S : Slog2) (I : IndexOK) (_J : ItemOK) (W w : World) (hT : S.T W) (p q : Nat) (F Fs : Foot) (s : SDev) (st : FSt) (hb : Cb S I W w p q F Fs s st) (hcl : s.calls ≤ 500000000000) (x : It) (w1 : World) (h : AddPost S I w p q F Fs s st (some x) (.returned (.int .i64 0)) w1) :
  PutPost S I w p q F Fs s st x (.returned (.int .i64 0)) w1 ∧ ∃ (lq : Nat) (lo : Int), w1.cell? ⟨q, 0, none⟩ = some (.pointer (some ⟨lq, 0, none⟩)) ∧ w1.cell? ⟨q, 2, none⟩ = some (.int .i64 lo) ∧ Calls Tryz.prog 46 #[.pointer (some ⟨lq, 0, none⟩)] w1 fun e w2 => e = .returned (.int .i64 0) ∧ PutPost S I w p q F Fs s st x (.returned (.int .i64 0)) w2 := by
 obtain ⟨-, F', Fs', s', g, hg, hd, hr, hgo⟩ := h
 have hc := hgo.calls
 obtain ⟨lq, lo, c0, c2, hfl⟩ := clflush S I W w1 hT p q F' Fs' s' _ (hb.next hd hr hgo) (by omega)
 refine ⟨⟨rfl, F', Fs', s', g, hd, hr, hg, hgo.more (by omega)⟩, lq, lo, c0, c2, hfl.mono ?_⟩
 rintro e w2 ⟨rfl, F2, Fs2, s2, hd2, hr2, hgo2⟩
 exact ⟨rfl, rfl, F2, Fs2, s2, g, hd2, hr2, hg, hgo.trans hgo2 fun i => nextF_has st (some x) g i⟩
theorem enc_one (J : ItemOK) (w : World) (hT : J.T w) (x : It) (hm : x.may = true) (b : Nat) (hA : ItsAt w (some ⟨b, 0, none⟩) (fun _ => True) [x]) :
  Calls Tryz.prog 45 #[.slice (some ⟨b, 0, none⟩) 1 1] w fun e w' => ∃ (B : Option Addr) (n k : Nat), e = .returned (.slice B n k) ∧ n = (bodyO (some x)).length ∧ n ≤ k ∧ k ≤ maxLen ∧ Row w' B (fun b => w.heap.size ≤ b) (bcells (bodyO (some x))) ∧ Kp w w' := by
 have ha : [x].all It.may = true := by simp [hm]
 have e1 : encs [x] = bodyO (some x) := by rw [encs_may ha]; simp [bytesOf, bodyO]
 refine (J.encode w (some ⟨b, 0, none⟩) 1 [x] hT hA (Nat.le_refl _) (by unfold maxLen; decide) (by show 1 ≤ 1000; decide) (fun y hy => by rw [List.mem_singleton.1 hy]; exact It.may_fits hm)).mono ?_
 rintro e w' ⟨B, k, rfl, h1, h2, h3, h4⟩
 rw [e1] at h1 h3 ⊢
 exact ⟨B, _, k, rfl, rfl, h1, h2, h3.mono fun b _ hb => hb.1, h4⟩
theorem cput (S : Slog2) (I : IndexOK) (J : ItemOK) (W w : World) (hT : S.T W ∧ I.T W ∧ J.T W) (p q : Nat) (F Fs : Foot) (s : SDev) (st : FSt) (hb : Cb S I W w p q F Fs s st) (hage : st.age ≤ 20000) (hcl : s.calls ≤ 500000000000) (x : It) (hm : x.may = true) (hg : x.gone = false) :
  Calls Tryz.prog 14 #[.pointer (some ⟨q, 0, none⟩), .agg #[.string x.key, .string x.val, .int .i64 x.till, .bool x.gone]] w (PutPost S I w p q F Fs s st x) := by
 obtain ⟨lq, iq, Fl, lst, hs, v, b, c0, c1, -, -, -, -, -, -, -, -, -, -, hget⟩ := cplace S I (I.tk hT.2.1 hb.kp) hb.r hb.ap (by omega) x.key (by have := It.may_is hm; omega)
 obtain ⟨w0, hw0⟩ : ∃ w0, w.alloc (.cells #[.string x.key, .string x.val, .int .i64 x.till, .bool x.gone] 40) = w0 := ⟨_, rfl⟩
 have HW0 := Hd hw0
 have hb0 : w0.heap[w.heap.size]? = some (.cells #[.string x.key, .string x.val, .int .i64 x.till, .bool x.gone] 40 (0, 0)) := by rw [← hw0]; exact heap_alloc_new w _
 have hk0 : Kp w w0 := by rw [← hw0]; exact (Keeps.refl _ w).alloc _
 have r0 : w0.cell? ⟨w.heap.size, 0, none⟩ = some (.string x.key) := (cell_of_block hb0 0).trans rfl
 have r1 : w0.cell? ⟨w.heap.size, 1, none⟩ = some (.string x.val) := (cell_of_block hb0 1).trans rfl
 have r2 : w0.cell? ⟨w.heap.size, 2, none⟩ = some (.int .i64 x.till) := (cell_of_block hb0 2).trans rfl
 have r3 : w0.cell? ⟨w.heap.size, 3, none⟩ = some (.bool false) := (cell_of_block hb0 3).trans (by rw [← hg]; rfl)
 have d0 := hk0.cell c0 trivial
 have d1 := hk0.cell c1 trivial
 have HDN := Hd (cdown w0 q lq d0)
 have HMY := Hd (show Calls Tryz.prog 42 #[.agg #[.string x.key, .string x.val, .int .i64 x.till, .bool false]] w0 fun e w' => e = .returned (.bool true) ∧ Kp w0 w' from by
  have h := J.may w0 x (J.tk hT.2.2 (hb.kp.trans hk0)) (It.may_fits hm)
  rw [hm, hg] at h
  exact h)
 have HGT := Hd hget
 have HEN := Hd (show ∀ w1, Kp w w1 → ∀ b, ItsAt w1 (some ⟨b, 0, none⟩) (fun _ => True) [x] → _ from fun w1 (hk : Kp w w1) b hA => enc_one J w1 (J.tk hT.2.2 (hb.kp.trans hk)) x hm b hA)
 have HAD := Hd (show ∀ w1, Kp w w1 → ∀ (A : Option Addr) (n c : Nat), Row w1 A (fun b => w.heap.size ≤ b) (bcells (bodyO (some x))) → n = (bodyO (some x)).length → n ≤ c → c ≤ maxLen → _ from cadd2 S I J W w hT p q F Fs s st hb (by omega) (by omega) (some x) (fun y h => by cases h; exact hm))
 have HPE := Hd (put_end S I J W w hT.1 p q F Fs s st hb hcl x)
 have HK0 := Hd hk0
 have HG := Hd hg
 clear hb hage hcl hm hget hw0 hb0 hk0 c0 c1
 rw [hg]
 rw [hg] at HW0
 clear hg
 go_enter Tryz.func14, Tryz.ntmps14
 go_wp2_with (rw [HW0.out])
 try rw [HW0.out]
 refine (show Calls _ _ _ _ _ from HDN.out).mono ?_
 rintro e w' ⟨rfl, rfl⟩
 go_wp2_with fail
 refine (show Calls _ _ _ _ _ from HMY.out).mono ?_
 rintro e w1 ⟨rfl, hk1⟩
 replace r0 := hk1.cell r0 trivial
 replace r1 := hk1.cell r1 trivial
 replace r2 := hk1.cell r2 trivial
 replace r3 := hk1.cell r3 trivial
 replace d0 := hk1.cell d0 trivial
 replace d1 := hk1.cell d1 trivial
 have HK1 := Hd (HK0.out.trans hk1)
 clear hk1
 go_wp2_with fail
 have hgd := HGT.out w1.drew HK1.out.drew
 go_region_with (go_at_call 43; ((with_reducible refine hgd.mono ?_); rintro e w2 ⟨rfl, hk2⟩))
 all_goals
  have hk2' := ((Keeps.refl (fun _ => True) w1).drew).trans hk2
  replace r0 := hk2'.cell r0 trivial
  replace r1 := hk2'.cell r1 trivial
  replace r2 := hk2'.cell r2 trivial
  replace r3 := hk2'.cell r3 trivial
  have HK3 := Hd (HK1.out.trans hk2')
  clear hk2 hk2' HK1 d0 d1 hgd
  go_wp2_with fail
  have hit := ItsAt.fresh w2 #[.string x.key, .string x.val, .int .i64 x.till, .bool false] 40 (0, 0) w2.heap.size rfl (F := fun _ => True) trivial [x] (by simp [itCells, It.cells, HG.out])
  have hka : Kp w (w2.alloc (.cells #[.string x.key, .string x.val, .int .i64 x.till, .bool false] 40)) := HK3.out.alloc _
  refine (show Calls _ _ _ _ _ from HEN.out _ hka _ hit).mono ?_
  rintro e w3 ⟨B, n, k, rfl, hn, hnk, hkm, hrow, hk3⟩
  have HA3 := Hd (HAD.out w3 (hka.trans hk3) B n k (hrow.mono fun b _ hb => Nat.le_trans hka.size hb) hn hnk hkm)
  clear hit hka hn hnk hkm hrow hk3 r0 r1 r2 r3
  go_wp2_with fail
  refine (show Calls _ _ _ _ _ from HA3.out).mono ?_
  rintro e w4 hp
  obtain ⟨hok, lq2, lo, x0, x2, hfl⟩ := HPE.out w4 ⟨rfl, hp.2⟩
  obtain rfl := hp.1
  have HOK := Hd hok
  have HFL := Hd hfl
  clear hok hfl hp
  cases t1 : decide (lo ≤ v)
  ·go_wp2_with fail
   go_ret
   exact HOK.out
  ·go_wp2_with fail
   refine (show Calls _ _ _ _ _ from HFL.out).mono ?_
   rintro e w5 ⟨rfl, hp⟩
   go_wp2_with fail
   go_ret
   exact hp
end Go.Proofs.YticophaepapjoaaGreatDoor
