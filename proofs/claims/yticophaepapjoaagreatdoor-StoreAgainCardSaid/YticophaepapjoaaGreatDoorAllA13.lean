/-
  FlOpen, FlNil, TakeNext, SlgMath, SlgChunk, SlgLocs, SlgSmall: texts of mine, joined.
-/
import Derived.Test.YticophaepapjoaaGreatDoorAllA11
import Derived.Test.YticophaepapjoaaGreatDoorAllA12
import Derived.Test.YticophaepapjoaaGreatDoorAllA04
import Derived.Test.YticophaepapjoaaGreatDoorAllA08
import Derived.RangeFuncBox
import Derived.RangeFuncLeaves
import Derived.RangeFuncNested
import Derived.RangeFuncBound
import Derived.RangeFuncCalls
import Derived.Shelf.Abstract
import Derived.Shelf.RegionOpen
import Derived.OwnWalkIn
import Derived.TacticsInMore
import Derived.LoopNIn
import Derived.LoopIn
import Derived.Lib.MinMax
import Derived.Lib.SmallJoins
import Derived.Lib.Hide
import Derived.Test.YticophaepapjoaaGreatDoorAllA02
import Derived.Test.YticophaepapjoaaGreatDoorProg
import Derived.WalkKit
import Derived.Test.YticophaepapjoaaGreatDoorAllA01
namespace Go.Proofs.YticophaepapjoaaGreatDoor
open Go Go.RowKit Go.Joins
structure Lt (S : Slog2) (I : IndexOK) (w wa wb wr : World) (p q lq : Nat) (Fl : Foot) (lst : LSt) (s : SDev) (l : List FRec) (j : Nat) : Prop where
 ex : ∃ (iq : Nat) (Fi : Foot) (ix : IxSt), CAt S I wr p q lq iq Fl Fi 1 lst ix s ∧ IxSays ix (l.take j) j ∧ (∀ b, Fi.all b → w.heap.size ≤ b) ∧ ∀ b, Fi.all b → b < wa.heap.size ∨ wb.heap.size ≤ b
 kp : Kp w wr
 sz : wb.heap.size ≤ wr.heap.size
section
variable {S : Slog2} {I : IndexOK} {w wa wb wr w2 w3 : World} {p q lq : Nat} {Fl : Foot} {lst : LSt} {s : SDev} {l : List FRec} {j : Nat}
theorem Lt.keep (h : Lt S I w wa wb wr p q lq Fl lst s l j) (hk : Kp wr w2) : Lt S I w wa wb w2 p q lq Fl lst s l j := by
 obtain ⟨iq, Fi, ix, hc, hx, h1, h2⟩ := h.ex
 exact ⟨⟨iq, Fi, ix, hc.kp hk, hx, h1, h2⟩, h.kp.trans hk, Nat.le_trans h.sz hk.size⟩
theorem Lt.step (J : ItemOK) (hIT : I.T w) (hJT : J.T w) (hq : w.heap.size ≤ q) (hqa : q < wa.heap.size) (h : Lt S I w wa wb wr p q lq Fl lst s l j) (hj : j < l.length) (hjs : j ≤ 32768) (hm : ∀ x, l[j].2 = some x → x.may = true) (hpo : l[j].1 < 9223372036854775808) (A : Option Addr) (m c : Nat) (hr : Row wr A (fun _ => True) (bcells (bodyO l[j].2))) (hml : m = (bodyO l[j].2).length) (hmc : m ≤ c) (hcm : c ≤ maxLen) :
  Calls Tryz.prog 72 #[.pointer (some ⟨q, 0, none⟩), .int .i64 (l[j].1 : Int), .slice A m c] wr fun e w' => e = .returned (.tuple #[]) ∧ Lt S I w wa wb w' p q lq Fl lst s l (j + 1) ∧ Keeps (fun b => wa.heap.size ≤ b ∧ b < wb.heap.size) wr w' := by
 obtain ⟨iq, Fi, ix, hc, hx, h1, h2⟩ := h.ex
 have hsz := h.sz
 have hsz2 := h.kp.size
 refine (clearn S I J w wr hIT (J.tk hJT h.kp) p q lq iq Fl Fi 1 lst ix s hc h.kp h1 (l.take j) j hx hjs l[j] hm hpo A m c hr hml hmc hcm).mono ?_
 rintro e w' ⟨rfl, iq', Fi', ix', hc', hx', hl⟩
 have hsz' := hl.k.size
 have all' : ∀ b, Fi'.all b → Fi.all b ∨ wr.heap.size ≤ b := fun b hb => by
  rcases hb with hb | hb
  ·rcases hl.m b hb with h1 | h1
   ·exact .inl (.inl h1)
   ·exact .inr h1
  ·exact hl.i b hb
 refine ⟨rfl, ⟨⟨iq', Fi', ix', hc', ?_, fun b hb => ?_, fun b hb => ?_⟩, ⟨hl.k.os.trans h.kp.os, hl.k.tape.trans h.kp.tape, hl.k.output.trans h.kp.output, Nat.le_trans hsz2 hsz', fun b _ hb => ?_⟩, Nat.le_trans hsz hsz'⟩, hl.k.mono fun b _ hb => ⟨fun e => by omega, fun hm => ?_⟩⟩
 ·rw [List.take_succ_eq_append_getElem hj]; exact hx'
 ·rcases all' b hb with h3 | h3
  ·exact h1 b h3
  ·omega
 ·rcases all' b hb with h3 | h3
  ·exact h2 b h3
  ·omega
 ·exact (hl.k.block b ⟨fun e => by omega, fun hm => by have := h1 b (.inl hm); omega⟩ (Nat.lt_of_lt_of_le hb hsz2)).trans (h.kp.block b trivial hb)
 ·rcases h2 b (.inl hm) with h3 | h3
  ·omega
  ·omega
end
def FOpenPost (S : Slog2) (I : IndexOK) (w : World) (p : Nat) (s : SDev) (st : FSt) (e : Ending) (w' : World) : Prop :=
 ∃ (q : Nat) (Fs : Foot), e = .returned (.tuple #[.pointer (some ⟨q, 0, none⟩), .int .i64 0]) ∧ flashRep S I w' p q Fs st s ∧ (∀ b, Fs.all b → w.heap.size ≤ b) ∧ Kp w w'
set_option maxRecDepth 100000 in
set_option maxHeartbeats 2000000 in
theorem copen (S : Slog2) (I : IndexOK) (J : ItemOK) (w : World) (hT : S.T w ∧ I.T w ∧ J.T w) (p : Nat) (F : Foot) (s : SDev) (st : FSt) (hd : DAt w p F s) (i n : Nat) (hroom : st.place + 8 * st.segs ≤ s.now.length) (hage : st.age ≤ 30000)
  (hop : Calls Tryz.prog 96 #[.pointer (some ⟨p, 0, none⟩), .int .i64 i, .int .i64 n] w fun e w' => ∃ (lq : Nat) (Fl : Foot) (lst : LSt) (hs : List FRec), e = .returned (.tuple #[.pointer (some ⟨lq, 0, none⟩), .int .i64 0]) ∧ S.rep w' lq Fl lst s ∧ lst.dev = p ∧ FM st lst hs ∧ (∀ b, Fl.all b → w.heap.size ≤ b) ∧ Kp w w') :
  Calls Tryz.prog 67 #[.pointer (some ⟨p, 0, none⟩), .int .i64 i, .int .i64 n] w (FOpenPost S I w p s st) := by
 have HOP := Lib.hid hop
 have HD := Lib.hid hd
 clear hop hd
 go_enter Tryz.func67, Tryz.ntmps67
 go_wp2_with fail
 refine (show Calls _ _ _ _ _ from HOP.out).mono ?_
 rintro e w1 ⟨lq, Fl, lst, hs, rfl, hrep, hon, hm, hFl, hk1⟩
 have HNEW := Lib.hid (I.new w1 (I.tk hT.2.1 hk1))
 have HREP := Lib.hid hrep
 have HM := Lib.hid hm
 have HFL := Lib.hid hFl
 have HK1 := Lib.hid hk1
 have HON := Lib.hid hon
 clear hrep hm hFl hk1 hon
 go_wp2_with fail
 refine (show Calls _ _ _ _ _ from HNEW.out).mono ?_
 rintro e w2 ⟨iq, Fi, rfl, hi, hFi, hk2⟩
 have HI := Lib.hid hi
 have HFI := Lib.hid hFi
 have HK2 := Lib.hid hk2
 clear hi hFi hk2
 go_wp2_with fail
 obtain ⟨wa, hwa⟩ : ∃ wa, w2.alloc (.cells #[.pointer (some ⟨lq, 0, none⟩), .pointer (some ⟨iq, 0, none⟩), .int .i64 1] 92) = wa := ⟨_, rfl⟩
 have hba : CBlk wa w2.heap.size lq iq 1 := by rw [← hwa]; exact heap_alloc_new w2 _
 have hka : Kp w2 wa := by rw [← hwa]; exact (Keeps.refl _ w2).alloc _
 have hza : wa.heap.size = w2.heap.size + 1 := by rw [← hwa]; simp
 have hz1 := HK1.out.size
 have hz2 := HK2.out.size
 have hk2a := HK2.out.trans hka
 have HWA := Lib.hid hwa
 have HALL := Lib.hid (S.all2 wa p lq F Fl s lst (HD.out.keep ((HK1.out.trans hk2a).mono fun _ _ _ => trivial)) (S.keep HREP.out (hk2a.mono fun _ _ _ => trivial)) HON.out (S.tk hT.1 (HK1.out.trans hk2a)) (by rw [HM.out.place, HM.out.segs]; exact hroom))
 have hL0 := S.lt HREP.out
 have HC0 := Lib.hid (show CAt S I wa p w2.heap.size lq iq Fl Fi 1 lst [] s from
  ⟨hba, S.keep HREP.out (hk2a.mono fun _ _ _ => trivial), I.keep HI.out (hka.mono fun _ _ _ => trivial), HON.out, ⟨fun b hb hf => by have := HFI.out b hf; have := hL0 b (.inl hb); omega, fun b hb hf => by have := HFI.out b (.inl hb); have := hL0 b hf; omega⟩, fun hf => by have := hL0 _ hf; omega, fun hf => by have := I.lt HI.out _ hf; omega⟩)
 have hiz := fun b hb => I.lt HI.out b hb
 have HQ := Lib.hid (show w.heap.size ≤ w2.heap.size ∧ w2.heap.size < wa.heap.size from ⟨by omega, by omega⟩)
 have HFI2 := Lib.hid (show ∀ b, Fi.all b → w.heap.size ≤ b ∧ b < wa.heap.size from fun b hb => ⟨by have := HFI.out b hb; omega, by have := hiz b hb; omega⟩)
 have HKA := Lib.hid (HK1.out.trans hk2a)
 have HPOS := Lib.hid (show ∀ a ∈ hs, a.1 < 9223372036854775808 from fun a ha => by
  have hok := S.wf HREP.out
  have : a.1 ∈ hs.map (·.1) := List.mem_map.2 ⟨a, ha, rfl⟩
  rw [← HM.out.pos] at this
  obtain ⟨r, hr, e⟩ := List.mem_map.1 this
  have h1 := hok.next.2 r hr
  have h2 := hok.small
  rw [← e]
  omega)
 obtain ⟨L, hL⟩ : ∃ L, hs.drop lst.gone = L := ⟨_, rfl⟩
 have HL := Lib.hid hL
 have HRC := Lib.hid (show lst.recs = L.map frk from by rw [HM.out.recs, hL])
 have HLM := Lib.hid (show L.length ≤ st.age from by
  have h1 := HM.out.len
  have h2 := HM.out.age
  rw [← hL, List.length_drop]
  omega)
 have HLS := Lib.hid (show ∀ a ∈ L, a ∈ hs from fun a ha => by rw [← hL] at ha; exact List.mem_of_mem_drop ha)
 clear hwa hba hka hza hz1 hz2 hk2a hL0 hiz hL HK1 HK2 HI HFI
 go_wp2_with (rw [HWA.out])
 try rw [HWA.out]
 refine (show Calls _ _ _ _ _ from HALL.out).mono ?_
 rintro e wb ⟨A, c, rfl, hmc, hcm, hrc, hkb⟩
 rw [HRC.out] at hrc
 obtain ⟨m, hlm⟩ : ∃ m, lst.recs.length = m := ⟨_, rfl⟩
 rw [hlm] at hmc ⊢
 have hLm : L.length = m := by rw [← hlm, HRC.out, List.length_map]
 have HLEN := Lib.hid hLm
 have HKB := Lib.hid hkb
 have HREC := Lib.hid (show ∀ (j : Nat) (hj : j < L.length), ∃ b o, A = some ⟨b, o, none⟩ ∧ ∀ wr, Keeps (fun b => wa.heap.size ≤ b ∧ b < wb.heap.size) wb wr → wr.cell? ⟨b, o + j * 2, none⟩ = some (.int .i64 ((L[j].1 : Nat) : Int)) ∧ ∃ B mm c, wr.cell? ⟨b, o + j * 2 + 1, none⟩ = some (.slice B mm c) ∧ mm = (bodyO L[j].2).length ∧ mm ≤ c ∧ c ≤ maxLen ∧ Row wr B (fun _ => True) (bcells (bodyO L[j].2)) from fun j hj => by
  have hne : L.map frk ≠ [] := fun e => by have := congrArg List.length e; simp at this; rw [this] at hj; simp at hj
  obtain ⟨b, o, e, hG, hc⟩ := hrc hne
  refine ⟨b, o, e, fun wr hk => ?_⟩
  obtain ⟨c0, B, cc, c1, h1, h2, h3⟩ := hc j (by rw [List.length_map]; exact hj)
  rw [List.getElem_map] at c0 c1 h1 h3
  exact ⟨hk.cell c0 hG, B, _, cc, hk.cell c1 hG, rfl, h1, h2, (h3.keep hk).mono fun _ _ _ => trivial⟩)
 have hmage : m ≤ 30000 := by have := HLM.out; omega
 unfold maxLen at hcm
 clear hlm hLm hrc hkb
 have HST := Lib.hid (show Lt S I w wa wb wb p w2.heap.size lq Fl lst s L 0 from
  ⟨⟨iq, Fi, [], HC0.out.kp HKB.out, IxSays.nil, fun b hb => (HFI2.out b hb).1, fun b hb => .inl (HFI2.out b hb).2⟩, HKA.out.trans HKB.out, Nat.le_refl _⟩)
 have HEND := Lib.hid (show ∀ wr, Lt S I w wa wb wr p w2.heap.size lq Fl lst s L m → FOpenPost S I w p s st (.returned (.tuple #[.pointer (some ⟨w2.heap.size, 0, none⟩), .int .i64 0])) wr from fun wr h => by
  obtain ⟨iq', Fi', ix', hc, hx, h1, h2⟩ := h.ex
  rw [List.take_of_length_le (by rw [HLEN.out]; exact Nat.le_refl _), ← HL.out] at hx
  exact ⟨w2.heap.size, cfoot w2.heap.size Fl Fi', rfl, ⟨lq, iq', Fl, Fi', 1, lst, ix', hs, rfl, hc, HM.out, hx.more (by rw [← HLEN.out]; exact HLM.out)⟩, fun b hb => by
   rcases cfoot_all.1 hb with rfl | hb | hb
   ·exact HQ.out.1
   ·exact HFL.out b hb
   ·exact h1 b hb, h.kp⟩)
 have HMAY := Lib.hid (show ∀ (j : Nat) (hj : j < L.length) x, L[j].2 = some x → x.may = true from fun j hj x hx => HM.out.may L[j].1 x (HLS.out _ (by rw [← hx]; exact List.getElem_mem hj)))
 have HPO := Lib.hid (show ∀ (j : Nat) (hj : j < L.length), L[j].1 < 9223372036854775808 from fun j hj => HPOS.out _ (HLS.out _ (List.getElem_mem hj)))
 clear HALL HC0 HFI2 HKA HPOS HRC HLS HREP HFL HNEW HOP
 obtain ⟨q, hq⟩ : ∃ q, w2.heap.size = q := ⟨_, rfl⟩
 rw [hq] at HST HEND HQ ⊢
 clear hq
 go_wp2_with fail
 go_loopw [30] (fun i wr => ∃ j, j ≤ m ∧ i = .int .i64 j ∧ RowKit.Hid (Lt S I w wa wb wr p q lq Fl lst s L j) ∧ RowKit.Hid (Keeps (fun b => wa.heap.size ≤ b ∧ b < wb.heap.size) wb wr)) (fun i _ => m - (intOf i).toNat)
 case atStart => exact ⟨0, Nat.zero_le _, rfl, HST, Lib.hid (Keeps.refl _ _)⟩
 case round =>
  obtain ⟨j, hj, rfl, hlt, hkg⟩ := hrel
  by_cases hjm : j < m
  ·have t1 : decide ((j : Int) < (m : Int)) = true := by simp; omega
   have hjl : j < L.length := by rw [HLEN.out]; exact hjm
   obtain ⟨b, o, rfl, hrow⟩ := HREC.out j hjl
   obtain ⟨c0, B, mm, cc, c1, hmm, hmc2, hcc2, hr⟩ := hrow wr hkg.out
   have HKW := Lib.hid (show Kp wr (wr.alloc (.cells #[.int .i64 ((L[j].1 : Nat) : Int), .slice B mm cc] 172)) from (Keeps.refl _ wr).alloc _)
   have HLN := Lib.hid ((hlt.out.keep HKW.out).step J hT.2.1 hT.2.2 HQ.out.1 HQ.out.2 hjl (by omega) (HMAY.out j hjl) (HPO.out j hjl) B mm cc (hr.keep HKW.out) hmm hmc2 hcc2)
   clear hmm hmc2 hcc2 hr hrow
   generalize L[j].1 = po at c0 HKW HLN
   go_wp2_with fail
   refine (show Calls _ _ _ _ _ from HLN.out).mono ?_
   rintro e w4 ⟨rfl, hl4, hk4⟩
   have HL4 := Lib.hid hl4
   have HK4 := Lib.hid (hkg.out.trans ((HKW.out.mono fun _ _ _ => trivial).trans hk4))
   clear hl4 hk4 HLN c0 c1
   go_wp2_with fail
   go_roundw
   case rel => exact ⟨j + 1, by omega, by go_num, HL4, HK4⟩
   case measure => simp [intOf]; omega
  ·have t1 : decide ((j : Int) < (m : Int)) = false := by simp; omega
   obtain rfl : j = m := by omega
   have HE := Lib.hid (HEND.out wr hlt.out)
   clear hjm
   go_wp2_with fail
   go_ret2
   exact HE.out
theorem copenNo (w : World) (p i n : Value)
  (hop : Calls Tryz.prog 96 #[p, i, n] w fun e w' => (∃ v, e = .returned (.tuple #[v, .int .i64 4])) ∧ Kp w w') :
  Calls Tryz.prog 67 #[p, i, n] w fun e w' => (∃ v, e = .returned (.tuple #[v, .int .i64 4])) ∧ Kp w w' := by
 have HOP := Lib.hid hop
 clear hop
 go_enter Tryz.func67, Tryz.ntmps67
 go_wp2_with fail
 refine (show Calls _ _ _ _ _ from HOP.out).mono ?_
 rintro e w1 ⟨⟨v, rfl⟩, hk⟩
 have HK := Lib.hid hk
 clear hk
 go_wp2_with fail
 go_ret2
 exact ⟨⟨_, rfl⟩, HK.out⟩
theorem cputNil (w : World) (x : It) : Calls Tryz.prog 14 #[.pointer none, .agg #[.string x.key, .string x.val, .int .i64 x.till, .bool x.gone]] w fun e w' => e = .returned (.int .i64 8) ∧ Kp w w' := by
 obtain ⟨w0, hw0⟩ : ∃ w0, w.alloc (.cells #[.string x.key, .string x.val, .int .i64 x.till, .bool x.gone] 40) = w0 := ⟨_, rfl⟩
 have HW0 := Lib.hid hw0
 have HK0 := Lib.hid (show Kp w w0 from by rw [← hw0]; exact (Keeps.refl _ w).alloc _)
 have HDN := Lib.hid (cdown_nil w0)
 clear hw0
 go_enter Tryz.func14, Tryz.ntmps14
 go_wp2_with (rw [HW0.out])
 try rw [HW0.out]
 refine (show Calls _ _ _ _ _ from HDN.out).mono ?_
 rintro e w' ⟨rfl, rfl⟩
 go_wp2_with fail
 go_ret
 exact ⟨rfl, HK0.out⟩
theorem cdropNil (w : World) (v : Value) : Calls Tryz.prog 47 #[.pointer none, v] w fun e w' => e = .returned (.int .i64 8) ∧ Kp w w' := by
 have HDN := Lib.hid (cdown_nil w)
 go_enter Tryz.func47, Tryz.ntmps47
 go_wp2_with fail
 refine (show Calls _ _ _ _ _ from HDN.out).mono ?_
 rintro e w' ⟨rfl, rfl⟩
 go_wp2_with fail
 go_ret
 exact ⟨rfl, Keeps.refl _ _⟩
theorem cflushNil (w : World) : Calls Tryz.prog 20 #[.pointer none] w fun e w' => e = .returned (.int .i64 8) ∧ Kp w w' := by
 have HDN := Lib.hid (cdown_nil w)
 go_enter Tryz.func20, Tryz.ntmps20
 go_wp2_with fail
 refine (show Calls _ _ _ _ _ from HDN.out).mono ?_
 rintro e w' ⟨rfl, rfl⟩
 go_wp2_with fail
 go_ret
 exact ⟨rfl, Keeps.refl _ _⟩
theorem ckeysNil (w : World) : Calls Tryz.prog 30 #[.pointer none] w fun e w' => e = .returned (.slice none 0 0) ∧ Kp w w' := by
 have HDN := Lib.hid (cdown_nil w)
 go_enter Tryz.func30, Tryz.ntmps30
 go_wp2_with fail
 refine (show Calls _ _ _ _ _ from HDN.out).mono ?_
 rintro e w' ⟨rfl, rfl⟩
 go_wp2_with fail
 go_ret
 exact ⟨rfl, Keeps.refl _ _⟩
set_option maxRecDepth 100000 in
set_option maxHeartbeats 1000000 in
theorem cfindNil (w : World) (k : ByteArray) : Calls Tryz.prog 57 #[.pointer none, .string k] w fun e w' => e = .returned (.tuple #[.agg #[.string ⟨#[]⟩, .string ⟨#[]⟩, .int .i64 0, .bool false], .bool false]) ∧ Kp w w' := by
 obtain ⟨w0, hw0⟩ : ∃ w0, w.alloc (.cells itZ 40) = w0 := ⟨_, rfl⟩
 have HW0 := Lib.hid (show w.alloc (.cells #[.string ⟨#[]⟩, .string ⟨#[]⟩, .int .i64 0, .bool false] 40) = w0 from hw0)
 have hb0 : w0.heap[w.heap.size]? = some (.cells itZ 40 (0, 0)) := by rw [← hw0]; exact heap_alloc_new w _
 have hk0 : Kp w w0 := by rw [← hw0]; exact (Keeps.refl _ w).alloc _
 have HRES := res4 w w0 hb0 hk0
 obtain ⟨f0, f1, f2, f3, r0, r1, r2, r3⟩ := res4u w w0 hb0
 have HDN := Lib.hid (cdown_nil w0)
 clear hw0 hb0 hk0
 obtain ⟨e0, e1, e2, e3, HK⟩ := HRES.out (.string ⟨#[]⟩) (.string ⟨#[]⟩) (.int .i64 0) (.bool false)
 have HKK := Lib.hid HK
 clear HK
 go_enter Tryz.func57, Tryz.ntmps57
 go_wp2_with (rw [HW0.out])
 try rw [HW0.out]
 refine (show Calls _ _ _ _ _ from HDN.out).mono ?_
 rintro e w' ⟨rfl, rfl⟩
 go_wp2_with fail
 exact bodyPost_ret (v := .tuple #[.agg #[.string ⟨#[]⟩, .string ⟨#[]⟩, .int .i64 0, .bool false], .bool false]) (by simp [results, Tryz.results57, go_sem, e0, e1, e2, e3]) rfl ⟨rfl, HKK.out⟩
set_option maxRecDepth 100000 in
set_option maxHeartbeats 1000000 in
theorem cgetNil (w : World) (k : ByteArray) (now : Int) : Calls Tryz.prog 25 #[.pointer none, .string k, .int .i64 now] w fun e w' => e = .returned (.tuple #[.agg #[.string ⟨#[]⟩, .string ⟨#[]⟩, .int .i64 0, .bool false], .bool false]) ∧ Kp w w' := by
 obtain ⟨w0, hw0⟩ : ∃ w0, w.alloc (.cells itZ 40) = w0 := ⟨_, rfl⟩
 have HW0 := Lib.hid (show w.alloc (.cells #[.string ⟨#[]⟩, .string ⟨#[]⟩, .int .i64 0, .bool false] 40) = w0 from hw0)
 have hb0 : w0.heap[w.heap.size]? = some (.cells itZ 40 (0, 0)) := by rw [← hw0]; exact heap_alloc_new w _
 have hk0 : Kp w w0 := by rw [← hw0]; exact (Keeps.refl _ w).alloc _
 have hz0 : w.heap.size < w0.heap.size := by rw [← hw0]; simp
 have HB0 := Lib.hid hb0
 have HK0 := Lib.hid hk0
 have HZ0 := Lib.hid hz0
 obtain ⟨z, hz⟩ : ∃ z : It, z = ⟨⟨#[]⟩, ⟨#[]⟩, 0, false⟩ := ⟨_, rfl⟩
 have HF := Lib.hid (show Calls Tryz.prog 57 #[.pointer none, .string k] w0 (fun e w' => e = .returned (.tuple #[.agg #[.string z.key, .string z.val, .int .i64 z.till, .bool z.gone], .bool false]) ∧ Kp w0 w') from by
  subst hz
  exact cfindNil w0 k)
 clear hw0 hb0 hk0 hz0 hz
 go_enter Tryz.func25, Tryz.ntmps25
 go_wp2_with (rw [HW0.out])
 try rw [HW0.out]
 refine (show Calls _ _ _ _ _ from HF.out).mono ?_
 rintro e w1 ⟨rfl, hk1⟩
 obtain ⟨w2, hw2⟩ : ∃ w2, w1.alloc (.cells #[.string z.key, .string z.val, .int .i64 z.till, .bool z.gone] 40) = w2 := ⟨_, rfl⟩
 have hk2 : Kp w1 w2 := by rw [← hw2]; exact (Keeps.refl _ w1).alloc _
 have hk12 := hk1.trans hk2
 have hb1 := (hk12.block w.heap.size trivial HZ0.out).trans HB0.out
 have HRES := res4 w w2 hb1 (HK0.out.trans hk12)
 obtain ⟨f0, f1, f2, f3, r0, r1, r2, r3⟩ := res4u w w2 hb1
 have HW2 := Lib.hid hw2
 clear hb1 hk1 hk2 hk12 hw2
 obtain ⟨e0, e1, e2, e3, HK⟩ := HRES.out (.string ⟨#[]⟩) (.string ⟨#[]⟩) (.int .i64 0) (.bool false)
 have HKK := Lib.hid HK
 clear HK
 go_wp2_with (rw [HW2.out])
 try rw [HW2.out]
 all_goals exact bodyPost_ret (v := .tuple #[.agg #[.string ⟨#[]⟩, .string ⟨#[]⟩, .int .i64 0, .bool false], .bool false]) (by simp [results, Tryz.results25, go_sem, e0, e1, e2, e3]) rfl ⟨rfl, HKK.out⟩
end Go.Proofs.YticophaepapjoaaGreatDoor
namespace Go.Proofs.YticophaepapjoaaGreatDoor
theorem take_next {α : Type} (l : List α) (k : Nat) (h : k < l.length) : l.take (k + 1) = l.take k ++ [l[k]] := by
 rw [List.take_add_one, List.getElem?_eq_getElem h]; rfl
end Go.Proofs.YticophaepapjoaaGreatDoor
namespace Go.Proofs.YticophaepapjoaaGreatDoor
def takeL (k : Nat) : Option (Int × List UInt8) → Option (Nat × List UInt8)
 | none => none
 | some (n, x) => if n < 8 ∨ 2199023255552 ≤ n ∨ n % 8 ≠ (k : Int) ∨ 53 < x.length then none else some (n.toNat, x)
def decL (k : Nat) (l : List UInt8) : Option (Nat × List UInt8) := takeL k (decF 76 l)
def encL (n : Nat) (x : List UInt8) : List UInt8 := encF 76 n x
theorem encL_len (n : Nat) (x : List UInt8) (hn : n < 2199023255552) (hx : x.length ≤ 53) : (encL n x).length = 64 := encF_len _ _ _ (headS_len n x hx hn)
theorem decL_enc (n : Nat) (x : List UInt8) (k : Nat) (h8 : 8 ≤ n) (hn : n < 2199023255552) (hk : n % 8 = k) (hx : x.length ≤ 53) : decL k (encL n x) = some (n, x) := by
 unfold decL encL
 rw [decF_enc _ n x (headS_len n x hx hn) (by omega) (by omega)]
 unfold takeL
 simp only
 rw [if_neg (by omega), Int.toNat_natCast]
theorem decL_blank (k : Nat) : decL k blank = none := by
 unfold decL
 rcases decF_blank 76 with h | h <;> rw [h]
 ·rfl
 ·unfold takeL; simp
theorem decL_wf {k : Nat} {l : List UInt8} {n : Nat} {x : List UInt8} (h : decL k l = some (n, x)) : 8 ≤ n ∧ n < 2199023255552 ∧ n % 8 = k ∧ x.length ≤ 53 := by
 unfold decL takeL at h
 split at h
 ·cases h
 ·split at h
  ·cases h
  ·rename_i n' x' _ hc
   injection h with h
   injection h with h1 h2
   subst h1 h2
   omega
def strm (rs : List LRec) : List UInt8 := rs.flatMap fun r => putT r.body
theorem strm_snoc (rs : List LRec) (r : LRec) : strm (rs ++ [r]) = strm rs ++ putT r.body := by simp [strm]
theorem strm_append (a b : List LRec) : strm (a ++ b) = strm a ++ strm b := by simp [strm]
def endAt (rs : List LRec) (i : Nat) : Nat := (strm (rs.take i)).length
theorem endAt_zero (rs : List LRec) : endAt rs 0 = 0 := by simp [endAt, strm]
theorem endAt_len (rs : List LRec) : endAt rs rs.length = (strm rs).length := by simp [endAt]
theorem endAt_next (rs : List LRec) (i : Nat) (h : i < rs.length) : endAt rs (i + 1) = endAt rs i + (putT rs[i].body).length := by
 unfold endAt; rw [take_next _ _ h, strm_snoc, List.length_append]
theorem strm_split (rs : List LRec) (i : Nat) : strm rs = strm (rs.take i) ++ strm (rs.drop i) := by
 rw [← strm_append, List.take_append_drop]
theorem strm_drop (rs : List LRec) (i : Nat) : (strm rs).drop (endAt rs i) = strm (rs.drop i) := by
 conv => lhs; arg 2; rw [strm_split rs i]
 exact List.drop_left
theorem endAt_le (rs : List LRec) (i : Nat) : endAt rs i ≤ (strm rs).length := by
 rw [strm_split rs i, List.length_append]; unfold endAt; omega
theorem strm_at (rs : List LRec) (i : Nat) (h : i < rs.length) : (strm rs).drop (endAt rs i) = putT rs[i].body ++ strm (rs.drop (i + 1)) := by
 rw [strm_drop, List.drop_eq_getElem_cons h]; rfl
theorem strm_rec (rs : List LRec) (i : Nat) (h : i < rs.length) : ((strm rs).drop (endAt rs i)).take (endAt rs (i + 1) - endAt rs i) = putT rs[i].body := by
 rw [strm_at rs i h, endAt_next rs i h, Nat.add_sub_cancel_left]; exact List.take_left
theorem putT_pos (x : List UInt8) : x.length + 1 ≤ (putT x).length := by
 unfold putT; rw [List.length_append]
 have := vin_pos (zig (x.length : Int))
 unfold putZ; omega
theorem putT_most (x : List UInt8) (h : x.length ≤ 300) : (putT x).length ≤ x.length + 2 := by
 unfold putT; rw [List.length_append]
 have : (putZ (x.length : Int)).length ≤ 2 := by
  unfold putZ
  refine vin_len 1 _ ?_
  have : zig (x.length : Int) = 2 * x.length := by unfold zig; rw [if_neg (by omega)]; omega
  rw [this]
  have e : (128 : Nat) ^ (1 + 1) = 16384 := by decide
  omega
 omega
theorem strm_count (rs : List LRec) (h : ∀ r ∈ rs, 1 ≤ r.body.length) : 2 * rs.length ≤ (strm rs).length := by
 induction rs with
 | nil => simp [strm]
 | cons r rs ih =>
  have h1 := h r (by simp)
  have h2 := ih fun r hr => h r (by simp [hr])
  have h3 := putT_pos r.body
  have e : strm (r :: rs) = putT r.body ++ strm rs := by simp [strm]
  rw [e, List.length_append, List.length_cons]; omega
theorem endAt_lt (rs : List LRec) (i : Nat) (h : i < rs.length) : endAt rs i < endAt rs (i + 1) := by
 rw [endAt_next rs i h]; have := putT_pos rs[i].body; omega
theorem strm_costs (rs : List LRec) (h : ∀ r ∈ rs, r.body.length ≤ 300) : (strm rs).length + 58 * rs.length ≤ costs rs := by
 induction rs with
 | nil => simp [strm, costs]
 | cons r rs ih =>
  have h2 := ih fun r hr => h r (by simp [hr])
  have h3 := putT_most r.body (h r (by simp))
  have e : strm (r :: rs) = putT r.body ++ strm rs := by simp [strm]
  have e2 : costs (r :: rs) = r.cost + costs rs := by simp [costs]
  rw [e, e2, List.length_append, List.length_cons]
  unfold LRec.cost; omega
def chunk (l : List UInt8) (k : Nat) : List UInt8 := (l.drop (53 * k)).take 53
def nsec (n : Nat) : Nat := max 1 ((n + 52) / 53)
theorem chunk_len (l : List UInt8) (k : Nat) : (chunk l k).length = min 53 (l.length - 53 * k) := by simp [chunk]
theorem chunk_next (l : List UInt8) (a m : Nat) : (l.drop (53 * a)).take (53 * (m + 1)) = (l.drop (53 * a)).take (53 * m) ++ chunk l (a + m) := by
 unfold chunk
 rw [show 53 * (m + 1) = 53 * m + 53 by omega, List.take_add, List.drop_drop]
 congr 3
 omega
theorem chunk_append (l r : List UInt8) (k : Nat) (h : k < l.length / 53) : chunk (l ++ r) k = chunk l k := by
 unfold chunk
 rw [List.drop_append_of_le_length (by omega), List.take_append_of_le_length (by rw [List.length_drop]; omega)]
theorem chunk_tail (l r : List UInt8) (j : Nat) : chunk (l ++ r) (l.length / 53 + j) = chunk (l.drop (53 * (l.length / 53)) ++ r) j := by
 unfold chunk
 rw [Nat.mul_add, ← List.drop_drop, List.drop_append_of_le_length (by omega)]
structure Seg where
 slot : Nat
 first : Nat
 recs : List LRec
 deriving Inhabited
def Seg.text (s : Seg) : List UInt8 := strm s.recs
def Seg.end_ (s : Seg) : Nat := s.first + s.recs.length
structure Seg.Ok (s : Seg) : Prop where
 len : s.text.length ≤ 424
 one : ∀ r ∈ s.recs, 1 ≤ r.body.length ∧ r.body.length ≤ 300
 pos : ∀ i (h : i < s.recs.length), (s.recs[i]).pos = s.first + i
 first : 1 ≤ s.first
theorem Seg.Ok.count {s : Seg} (h : s.Ok) : s.recs.length ≤ 212 := by
 have := strm_count s.recs fun r hr => (h.one r hr).1
 have := h.len
 unfold Seg.text at this
 omega
def secAt (rows : List (List UInt8)) (p i k : Nat) : Option (Nat × List UInt8) := decL k (rows.getD (p + i * 8 + k) [])
structure SegOn (rows : List (List UInt8)) (p : Nat) (s : Seg) : Prop where
 has : ∀ k, k < nsec s.text.length → secAt rows p s.slot k = some (s.first * 8 + k, chunk s.text k)
 rest : ∀ k, nsec s.text.length ≤ k → k < 8 → ∀ n x, secAt rows p s.slot k = some (n, x) → n < s.first * 8
structure Chain (segs b0 : Nat) (ks : List Seg) : Prop where
 base : b0 < segs
 len : ks.length ≤ segs
 slot : ∀ i (h : i < ks.length), (ks[i]).slot = (b0 + i) % segs
 ok : ∀ s ∈ ks, s.Ok
 rise : ks.Pairwise fun a b => a.end_ ≤ b.first
 full : ∀ s ∈ ks, s.recs ≠ []
 cost : ∀ i (h : i + 1 < ks.length), 461 ≤ costs (ks[i]).recs + costs (ks[i + 1]).recs
structure OnDisk (rows : List (List UInt8)) (p segs : Nat) (ks : List Seg) : Prop where
 on : ∀ s ∈ ks, SegOn rows p s
 none : ∀ i, i < segs → (∀ s ∈ ks, s.slot ≠ i) → ∀ k, k < 8 → secAt rows p i k = none
theorem secAt_same {rows rows' : List (List UInt8)} {p i k segs : Nat} (h : ∀ j, p ≤ j ∧ j < p + 8 * segs → rows'.getD j [] = rows.getD j []) (hi : i < segs) (hk : k < 8) : secAt rows' p i k = secAt rows p i k := by
 unfold secAt; rw [h _ (by omega)]
theorem nsec_le (n : Nat) (h : n ≤ 424) : nsec n ≤ 8 := by unfold nsec; omega
theorem OnDisk.same {rows rows' : List (List UInt8)} {p segs : Nat} {ks : List Seg} (h : OnDisk rows p segs ks) (hs : ∀ j, p ≤ j ∧ j < p + 8 * segs → rows'.getD j [] = rows.getD j []) (hk : ∀ s ∈ ks, s.slot < segs) (hl : ∀ s ∈ ks, s.text.length ≤ 424) : OnDisk rows' p segs ks :=
 ⟨fun s m => ⟨fun k h1 => by rw [secAt_same hs (hk s m) (Nat.lt_of_lt_of_le h1 (nsec_le _ (hl s m)))]; exact (h.on s m).has k h1, fun k h1 h2 n x => by rw [secAt_same hs (hk s m) h2]; exact (h.on s m).rest k h1 h2 n x⟩,
  fun i hi hn k hk' => by rw [secAt_same hs hi hk']; exact h.none i hi hn k hk'⟩
theorem Chain.slot_lt {segs b0 : Nat} {ks : List Seg} (h : Chain segs b0 ks) : ∀ s ∈ ks, s.slot < segs := fun s hs => by
 obtain ⟨i, hi, rfl⟩ := List.getElem_of_mem hs
 rw [h.slot i hi]
 exact Nat.mod_lt _ (by have := h.base; omega)
theorem Chain.slot_inj {segs b0 : Nat} {ks : List Seg} (h : Chain segs b0 ks) {i j : Nat} (hi : i < ks.length) (hj : j < ks.length) (e : (ks[i]).slot = (ks[j]).slot) : i = j := by
 rw [h.slot i hi, h.slot j hj] at e
 have h1 := h.base
 have h2 := h.len
 have e1 : (b0 + i) % segs = if b0 + i < segs then b0 + i else b0 + i - segs := by
  split
  ·exact Nat.mod_eq_of_lt (by assumption)
  ·rw [Nat.mod_eq_sub_mod (by omega), Nat.mod_eq_of_lt (by omega)]
 have e2 : (b0 + j) % segs = if b0 + j < segs then b0 + j else b0 + j - segs := by
  split
  ·exact Nat.mod_eq_of_lt (by assumption)
  ·rw [Nat.mod_eq_sub_mod (by omega), Nat.mod_eq_of_lt (by omega)]
 rw [e1, e2] at e
 split at e <;> split at e <;> omega
end Go.Proofs.YticophaepapjoaaGreatDoor
namespace Go.Proofs.YticophaepapjoaaGreatDoor
open Go Go.RowKit Go.Joins Go.Shelf
attribute [local go_sem] Oper.semAt_some
def chunks (len : Nat) : Nat := (len + 52) / 53
def chLen (len k : Nat) : Nat := min 53 (len - 53 * k)
def encCh (g o len k : Nat) : Array Value := #[.slice (some ⟨g, o + 53 * k, none⟩) (chLen len k) (chLen len k)]
def KpB (Bs Bn : Nat) (W W' : World) : Prop := Keeps (fun b => b = Bs ∨ b = Bn) W W'
set_option maxRecDepth 100000 in
set_option maxHeartbeats 1000000 in
theorem chunk1_in (F : Fence) (n : Nat) (hfn : F.fn 172) (hro : F.round = none) (hn : 1 ≤ n) (l Bs Bn g o len cap : Nat) (hlc : len ≤ cap) (hlm : len ≤ 1000000000000) (J Jx : List Nat → World → Prop) (hJd : ∀ s W, J s W → J s W.drew)
  (hY : ∀ pre x W, J pre W → pre.length < chunks len → YieldAt F (n - 1) Tryz.prog l (encCh g o len x) W fun e W' =>
   (e = .returned (.bool true) ∧ J (pre ++ [x]) W' ∧ KpB Bs Bn W W') ∨ (e = .returned (.bool false) ∧ Jx (pre ++ [x]) W'))
  (W : World) (hBs : W.cell? ⟨Bs, 0, none⟩ = some (.slice (some ⟨g, o, none⟩) len cap)) (hBn : W.cell? ⟨Bn, 0, none⟩ = some (.int .i64 53)) (h0 : J [] W) :
  CallsIn F n Tryz.prog 172 #[.func (.yield l) #[] #[], .pointer (some ⟨Bs, 0, none⟩), .pointer (some ⟨Bn, 0, none⟩)] W fun e W' => (∃ v, e = .returned v) ∧
   ((∃ ys, ys = List.range (chunks len) ∧ J ys W') ∨ (∃ pre, (∃ k, k ≤ chunks len ∧ pre = List.range k) ∧ Jx pre W')) := by
 refine callsIn_of_wp Tryz.func172 rfl hfn ?_ hro
 simp only [Tryz.ntmps172, List.size_toArray, List.length_cons, List.length_nil, Nat.reduceAdd, Nat.reduceSub, Array.replicate_succ, Array.replicate_zero, List.push_toArray, List.append_toArray, List.nil_append, List.cons_append]
 have HY := Lib.hid hY
 have HBs := Lib.hid hBs
 have HBn := Lib.hid hBn
 clear hY hBs hBn
 gi_wp2
 gi_loopw [4] (fun vi wr => ∃ k i : Nat, RowKit.Hid (i = 53 * k) ∧ k ≤ chunks len ∧ vi = .int .i64 i ∧ J (List.range k) wr ∧ KpB Bs Bn W wr)
  (fun vi _ => len + 53 - (intOf vi).toNat)
 case atStart => exact ⟨0, 0, Lib.hid rfl, Nat.zero_le _, rfl, h0, Keeps.refl _ _⟩
 case round =>
  obtain ⟨k, i, hi, hk, rfl, hJs, hkp⟩ := hrel
  have cs := hkp.cell HBs.out (.inl rfl)
  have cn := hkp.cell HBn.out (.inr rfl)
  by_cases hlt : k < chunks len
  ·have hil : i < len := by have := hi.out; unfold chunks at hlt; omega
   obtain ⟨e, he⟩ : ∃ e, chLen len k = e := ⟨_, rfl⟩
   obtain ⟨fn, tmps, assign, body, hy, hR⟩ := HY.out _ k wr.drew (hJd _ _ hJs) (by rw [List.length_range]; exact hlt)
   have hee : e = min 53 (len - i) := by rw [← he, hi.out]; rfl
   have hHI := Lib.hid hi.out
   have hy' : (Instr.yield l #[.slice (some ⟨g, o + i, none⟩) e e]).run Tryz.prog wr.drew = .ok (.round l fn tmps assign body) wr.drew := by
    have h := hy
    unfold encCh at h
    rw [he, ← hi.out] at h
    exact h
   have hmin : min (53 : Int) ((len - i : Nat) : Int) = (e : Int) := by omega
   have hne : ¬ cap = i := by omega
   have h1 : i ≤ len := by omega
   have h2 : i ≤ cap := by omega
   have h3 : i + e ≤ cap := by omega
   have h4 : i ≤ i + e := by omega
   have HEE := Lib.hid hee
   have HK := Lib.hid hkp
   clear hy he hee hi hkp
   gi_wp2
   gi_region
   all_goals gi_wp2
   all_goals refine hR.mono ?_
   all_goals rintro e' W3 (⟨rfl, hJ3, hk3⟩ | ⟨rfl, hJx3⟩)
   all_goals first
    | (have cs := hk3.cell cs (.inl rfl)
       have cn := hk3.cell cn (.inr rfl)
       gi_wp2
       go_roundw
       case rel => exact ⟨k + 1, i + 53, Lib.hid (by have := hHI.out; omega), by omega, by go_num, by rw [List.range_succ]; exact hJ3, HK.out.drew.trans hk3⟩
       case measure => simp [intOf]; omega)
    | (gi_wp2
       refine bodyPost_ret (results_none rfl _ _ _) rfl ?_
       exact ⟨⟨_, rfl⟩, .inr ⟨_, ⟨k + 1, by omega, (List.range_succ).symm⟩, hJx3⟩⟩)
  ·obtain rfl : k = chunks len := by omega
   have hil : ¬ (i : Int) < (len : Int) := by have := hi.out; unfold chunks at this; omega
   gi_wp2
   go_end0
   exact ⟨⟨_, rfl⟩, .inl hJs⟩
end Go.Proofs.YticophaepapjoaaGreatDoor
namespace Go.Proofs.YticophaepapjoaaGreatDoor
open Go Go.RowKit Go.Joins
section
variable {o : Oper} {a : Act} {w : World} {Q : Exit → Act → World → Prop} {x y : Operand}
theorem kp_fL0 {b : Nat} (ho : o.op = .fieldAddr 137 x 0) (hx : a.eval x = .pointer (some ⟨b, 0, none⟩)) : o.wp Tryz.prog a w (fun a' w' => ∃ v, a' = a.put o.dst v ∧ Kp w w' ∧ IsV (.pointer (some ⟨b, 0, none⟩)) w' v) Q := by
 refine kp_yield (v := .pointer (some ⟨b, 0, none⟩)) (w' := w) ?_ (Keeps.refl _ _) rfl
 generalize a.eval = ρ at hx ⊢
 unfold execOp
 rw [ho]
 go_simp
theorem kp_fL3 {b : Nat} (ho : o.op = .fieldAddr 137 x 3) (hx : a.eval x = .pointer (some ⟨b, 0, none⟩)) : o.wp Tryz.prog a w (fun a' w' => ∃ v, a' = a.put o.dst v ∧ Kp w w' ∧ IsV (.pointer (some ⟨b, 3, none⟩)) w' v) Q := by
 refine kp_yield (v := .pointer (some ⟨b, 3, none⟩)) (w' := w) ?_ (Keeps.refl _ _) rfl
 generalize a.eval = ρ at hx ⊢
 unfold execOp
 rw [ho]
 go_simp
theorem kp_fL6 {b : Nat} (ho : o.op = .fieldAddr 137 x 6) (hx : a.eval x = .pointer (some ⟨b, 0, none⟩)) : o.wp Tryz.prog a w (fun a' w' => ∃ v, a' = a.put o.dst v ∧ Kp w w' ∧ IsV (.pointer (some ⟨b, 6, none⟩)) w' v) Q := by
 refine kp_yield (v := .pointer (some ⟨b, 6, none⟩)) (w' := w) ?_ (Keeps.refl _ _) rfl
 generalize a.eval = ρ at hx ⊢
 unfold execOp
 rw [ho]
 go_simp
theorem kp_fG0 {b : Nat} (ho : o.op = .fieldAddr 179 x 0) (hx : a.eval x = .pointer (some ⟨b, 0, none⟩)) : o.wp Tryz.prog a w (fun a' w' => ∃ v, a' = a.put o.dst v ∧ Kp w w' ∧ IsV (.pointer (some ⟨b, 0, none⟩)) w' v) Q := by
 refine kp_yield (v := .pointer (some ⟨b, 0, none⟩)) (w' := w) ?_ (Keeps.refl _ _) rfl
 generalize a.eval = ρ at hx ⊢
 unfold execOp
 rw [ho]
 go_simp
theorem kp_fG1 {b : Nat} (ho : o.op = .fieldAddr 179 x 1) (hx : a.eval x = .pointer (some ⟨b, 0, none⟩)) : o.wp Tryz.prog a w (fun a' w' => ∃ v, a' = a.put o.dst v ∧ Kp w w' ∧ IsV (.pointer (some ⟨b, 1, none⟩)) w' v) Q := by
 refine kp_yield (v := .pointer (some ⟨b, 1, none⟩)) (w' := w) ?_ (Keeps.refl _ _) rfl
 generalize a.eval = ρ at hx ⊢
 unfold execOp
 rw [ho]
 go_simp
theorem kp_nilL {p : Addr} (ho : o.op = .nilCheck x) (hx : a.eval x = .pointer (some p)) : o.wp Tryz.prog a w (fun a' w' => ∃ v, a' = a.put o.dst v ∧ Kp w w' ∧ IsV (.pointer (some p)) w' v) Q := by
 refine kp_yield (v := .pointer (some p)) (w' := w) ?_ (Keeps.refl _ _) rfl
 generalize a.eval = ρ at hx ⊢
 unfold execOp
 rw [ho]
 go_simp
theorem kp_lDev {p : Addr} {u : Addr} (hc : w.cell? p = some (.pointer (some u))) (ho : o.op = .load 24 x) (hx : a.eval x = .pointer (some p)) : o.wp Tryz.prog a w (fun a' w' => ∃ v, a' = a.put o.dst v ∧ Kp w w' ∧ IsV (.pointer (some u)) w' v) Q := by
 refine kp_yield (v := .pointer (some u)) (w' := w) ?_ (Keeps.refl _ _) rfl
 generalize a.eval = ρ at hx ⊢
 unfold execOp
 rw [ho]
 go_simp
theorem kp_lInt {p : Addr} {n : Int} (hc : w.cell? p = some (.int .i64 n)) (ho : o.op = .load 3 x) (hx : a.eval x = .pointer (some p)) : o.wp Tryz.prog a w (fun a' w' => ∃ v, a' = a.put o.dst v ∧ Kp w w' ∧ IsV (.int .i64 n) w' v) Q := by
 refine kp_yield (v := .int .i64 n) (w' := w) ?_ (Keeps.refl _ _) rfl
 generalize a.eval = ρ at hx ⊢
 unfold execOp
 rw [ho]
 go_simp
theorem kp_lI64 {p : Addr} {n : Int} (hc : w.cell? p = some (.int .i64 n)) (ho : o.op = .load 2 x) (hx : a.eval x = .pointer (some p)) : o.wp Tryz.prog a w (fun a' w' => ∃ v, a' = a.put o.dst v ∧ Kp w w' ∧ IsV (.int .i64 n) w' v) Q := by
 refine kp_yield (v := .int .i64 n) (w' := w) ?_ (Keeps.refl _ _) rfl
 generalize a.eval = ρ at hx ⊢
 unfold execOp
 rw [ho]
 go_simp
theorem kp_lI {p : Addr} {A : Option Addr} {n c : Nat} (hc : w.cell? p = some (.slice A n c)) (ho : o.op = .load 66 x) (hx : a.eval x = .pointer (some p)) : o.wp Tryz.prog a w (fun a' w' => ∃ v, a' = a.put o.dst v ∧ Kp w w' ∧ IsV (.slice A n c) w' v) Q := by
 refine kp_yield (v := .slice A n c) (w' := w) ?_ (Keeps.refl _ _) rfl
 generalize a.eval = ρ at hx ⊢
 unfold execOp
 rw [ho]
 go_simp
theorem kp_lK {p : Addr} {A : Option Addr} {n c : Nat} (hc : w.cell? p = some (.slice A n c)) (ho : o.op = .load 135 x) (hx : a.eval x = .pointer (some p)) : o.wp Tryz.prog a w (fun a' w' => ∃ v, a' = a.put o.dst v ∧ Kp w w' ∧ IsV (.slice A n c) w' v) Q := by
 refine kp_yield (v := .slice A n c) (w' := w) ?_ (Keeps.refl _ _) rfl
 generalize a.eval = ρ at hx ⊢
 unfold execOp
 rw [ho]
 go_simp
theorem kp_lPL {p : Addr} {u : Addr} (hc : w.cell? p = some (.pointer (some u))) (ho : o.op = .load 89 x) (hx : a.eval x = .pointer (some p)) : o.wp Tryz.prog a w (fun a' w' => ∃ v, a' = a.put o.dst v ∧ Kp w w' ∧ IsV (.pointer (some u)) w' v) Q := by
 refine kp_yield (v := .pointer (some u)) (w' := w) ?_ (Keeps.refl _ _) rfl
 generalize a.eval = ρ at hx ⊢
 unfold execOp
 rw [ho]
 go_simp
theorem kp_lPG {p : Addr} {u : Addr} (hc : w.cell? p = some (.pointer (some u))) (ho : o.op = .load 209 x) (hx : a.eval x = .pointer (some p)) : o.wp Tryz.prog a w (fun a' w' => ∃ v, a' = a.put o.dst v ∧ Kp w w' ∧ IsV (.pointer (some u)) w' v) Q := by
 refine kp_yield (v := .pointer (some u)) (w' := w) ?_ (Keeps.refl _ _) rfl
 generalize a.eval = ρ at hx ⊢
 unfold execOp
 rw [ho]
 go_simp
theorem kp_lG {b j : Nat} {v0 v1 v2 : Value} (h0 : w.cell? ⟨b, j, none⟩ = some v0) (h1 : w.cell? ⟨b, j + 1, none⟩ = some v1) (h2 : w.cell? ⟨b, j + 2, none⟩ = some v2) (ho : o.op = .load 179 x) (hx : a.eval x = .pointer (some ⟨b, j, none⟩)) : o.wp Tryz.prog a w (fun a' w' => ∃ v, a' = a.put o.dst v ∧ Kp w w' ∧ IsV (.agg #[v0, v1, v2]) w' v) Q := by
 refine kp_yield (v := .agg #[v0, v1, v2]) (w' := w) ?_ (Keeps.refl _ _) rfl
 have e1 : (⟨b, j, none⟩ : Addr).add 1 = ⟨b, j + 1, none⟩ := rfl
 generalize a.eval = ρ at hx ⊢
 unfold execOp
 rw [ho]
 go_simp
theorem one_call {P : Program} {X : World → Value → Prop} {f : FuncId} {args : Array Value} {C : Ending → World → Prop} (e : (execOp a.eval o).run P w = .ok (.enter f args) w) (hc : Calls P f args w C)
  (hC : ∀ e w', C e w' → ∃ v, e = .returned v ∧ X w' v) : o.wp P a w (fun a' w' => ∃ v, a' = a.put o.dst v ∧ X w' v) Q := by
 unfold Oper.wp
 rw [e]
 refine hc.mono fun e w' h => ?_
 obtain ⟨v, rfl, hv⟩ := hC e w' h
 exact ⟨v, rfl, hv⟩
end
structure LHead (w : World) (q p i n : Nat) : Prop where
 d : w.cell? ⟨q, 0, none⟩ = some (.pointer (some ⟨p, 0, none⟩))
 i : w.cell? ⟨q, 1, none⟩ = some (.int .i64 (i : Int))
 n : w.cell? ⟨q, 2, none⟩ = some (.int .i64 (n : Int))
theorem LHead.keep {w w' : World} {q p i n : Nat} {F : Nat → Prop} (h : LHead w q p i n) (hk : Keeps F w w') (hF : F q) : LHead w' q p i n := ⟨hk.cell h.d hF, hk.cell h.i hF, hk.cell h.n hF⟩
theorem down_no (w : World) (q p i n : Nat) (h : LHead w q p i n) : Calls Tryz.prog 75 #[.pointer (some ⟨q, 0, none⟩)] w fun e w' => e = .returned (.bool false) ∧ w = w' := by
 have c0 := h.d
 clear h
 go_enter Tryz.func75, Tryz.ntmps75
 go_wp2
 go_ret
 exact ⟨rfl, rfl⟩
theorem down_yes (w : World) : Calls Tryz.prog 75 #[.pointer none] w fun e w' => e = .returned (.bool true) ∧ w = w' := by
 go_enter Tryz.func75, Tryz.ntmps75
 go_wp2
 go_ret
 exact ⟨rfl, rfl⟩
theorem fits_any (w : World) (n : Nat) (hn : n ≤ maxLen) : Calls Tryz.prog 103 #[.int .i64 (n : Int)] w fun e w' => e = .returned (.bool (decide (1 ≤ n ∧ n ≤ 300))) ∧ w = w' := by
 unfold maxLen at hn
 by_cases h1 : 1 ≤ n
 ·have d1 : decide ((1 : Int) ≤ (n : Int)) = true := by simp; omega
  have e : decide (1 ≤ n ∧ n ≤ 300) = decide ((n : Int) ≤ 300) := by rw [Bool.eq_iff_iff]; simp; omega
  rw [e]
  clear e h1
  go_enter Tryz.func103, Tryz.ntmps103
  go_wp2
  go_ret
  exact ⟨rfl, rfl⟩
 ·have d1 : decide ((1 : Int) ≤ (n : Int)) = false := by simp; omega
  have e : decide (1 ≤ n ∧ n ≤ 300) = false := by simp; omega
  rw [e]
  clear e h1
  go_enter Tryz.func103, Tryz.ntmps103
  go_wp2
  go_ret
  exact ⟨rfl, rfl⟩
theorem place_any (w : World) (q p i n : Nat) (h : LHead w q p i n) (s k : Nat) (hi : i ≤ 4096) (hs : s ≤ 4096) (hk : k ≤ 4096) : Calls Tryz.prog 169 #[.pointer (some ⟨q, 0, none⟩), .int .i64 (s : Int), .int .i64 (k : Int)] w fun e w' => e = .returned (.int .i64 ((i + s * 8 + k : Nat) : Int)) ∧ w = w' := by
 have c0 := h.i
 clear h
 have e : ((i + s * 8 + k : Nat) : Int) = (i : Int) + (s : Int) * 8 + (k : Int) := by omega
 rw [e]
 clear e
 go_enter Tryz.func169, Tryz.ntmps169
 go_wp2
 go_ret
 exact ⟨rfl, rfl⟩
theorem behind_any (w : World) (q p i n : Nat) (h : LHead w q p i n) (s : Nat) (hn : 1 ≤ n) (hn2 : n ≤ 4096) (hs : s ≤ 4096) : Calls Tryz.prog 134 #[.pointer (some ⟨q, 0, none⟩), .int .i64 (s : Int)] w fun e w' => e = .returned (.int .i64 (((s + 1) % n : Nat) : Int)) ∧ w = w' := by
 have c0 := h.n
 clear h
 have e : (((s + 1) % n : Nat) : Int) = ((s : Int) + 1).tmod (n : Int) := by
  rw [Int.tmod_eq_emod_of_nonneg (by omega)]; simp
 have hne : ¬ ((n : Int) = 0) := by omega
 have hne2 : (((n : Int)) == 0) = false := by simp; omega
 have hb : -9223372036854775808 ≤ ((s : Int) + 1).tmod (n : Int) ∧ ((s : Int) + 1).tmod (n : Int) < 9223372036854775808 := by
  rw [← e]
  have := Nat.mod_lt (s + 1) (show 0 < n by omega)
  omega
 rw [e]
 clear e
 generalize hm : ((s : Int) + 1).tmod (n : Int) = m at hb ⊢
 go_enter Tryz.func134, Tryz.ntmps134
 go_wp2
 go_ret
 exact ⟨rfl, rfl⟩
theorem sthere_yes (w : World) (p : Nat) (F : Foot) (s : SDev) (h : DAt w p F s) (i n : Nat) (h1 : 3 ≤ n) (h2 : n ≤ 200) (hi : i + 8 * n ≤ s.now.length) :
  Calls Tryz.prog 127 #[.pointer (some ⟨p, 0, none⟩), .int .i64 (i : Int), .int .i64 (n : Int)] w fun e w' => e = .returned (.bool true) ∧ w = w' := by
 have hl := Lib.hid (dlen_any w p F s h)
 have hsm := h.ok.small
 have d1 : decide ((3 : Int) ≤ (n : Int)) = true := by simp; omega
 have d2 : decide ((n : Int) ≤ 200) = true := by simp; omega
 have d3 : decide ((i : Int) ≤ (s.now.length : Int) - (n : Int) * 8) = true := by simp; omega
 have b1 : 8 * n ≤ s.now.length := by omega
 clear h hi
 go_enter Tryz.func127, Tryz.ntmps127
 go_wp2_with fail
 refine hl.out.mono ?_
 rintro e w' ⟨rfl, rfl⟩
 go_wp2_with fail
 go_ret
 exact ⟨rfl, rfl⟩
theorem sthere_no (w : World) (p : Nat) (F : Foot) (s : SDev) (h : DAt w p F s) (i n : Int) (h1 : -9223372036854775808 ≤ i) (h2 : i < 9223372036854775808) (h3 : -9223372036854775808 ≤ n) (h4 : n < 9223372036854775808) (hi : i < 0 ∨ n < 3 ∨ 200 < n ∨ (s.now.length : Int) < i + 8 * n) :
  Calls Tryz.prog 127 #[.pointer (some ⟨p, 0, none⟩), .int .i64 i, .int .i64 n] w fun e w' => e = .returned (.bool false) ∧ w = w' := by
 have hl := Lib.hid (dlen_any w p F s h)
 have hsm := h.ok.small
 have hps := h.ok.pos
 have hd : decide (3 ≤ n) = false ∨ (decide (3 ≤ n) = true ∧ decide (n ≤ 200) = false) ∨ (decide (3 ≤ n) = true ∧ decide (n ≤ 200) = true ∧ decide (0 ≤ i) = false) ∨ (decide (3 ≤ n) = true ∧ decide (n ≤ 200) = true ∧ decide (0 ≤ i) = true ∧ decide (i ≤ (s.now.length : Int) - n * 8) = false ∧ 3 ≤ n ∧ n ≤ 200) := by
  by_cases a1 : 3 ≤ n
  ·right
   by_cases a2 : n ≤ 200
   ·right
    by_cases a3 : 0 ≤ i
    ·right; exact ⟨by simpa using a1, by simpa using a2, by simpa using a3, by simp; omega, a1, a2⟩
    ·left; exact ⟨by simpa using a1, by simpa using a2, by simp; omega⟩
   ·left; exact ⟨by simpa using a1, by simp; omega⟩
  ·left; simp; omega
 clear h hi
 rcases hd with d1 | ⟨d1, d2⟩ | ⟨d1, d2, d3⟩ | ⟨d1, d2, d3, d4, b1, b2⟩
 ·go_enter Tryz.func127, Tryz.ntmps127
  go_wp2_with fail
  go_ret
  exact ⟨rfl, rfl⟩
 ·go_enter Tryz.func127, Tryz.ntmps127
  go_wp2_with fail
  go_ret
  exact ⟨rfl, rfl⟩
 ·go_enter Tryz.func127, Tryz.ntmps127
  go_wp2_with fail
  go_ret
  exact ⟨rfl, rfl⟩
 ·go_enter Tryz.func127, Tryz.ntmps127
  go_wp2_with fail
  refine hl.out.mono ?_
  rintro e w' ⟨rfl, rfl⟩
  go_wp2_with fail
  go_ret
  exact ⟨rfl, rfl⟩
def endsC (rs : List LRec) : List Value := (List.range rs.length).map fun i => .int .i64 (endAt rs (i + 1) : Int)
theorem endsC_len (rs : List LRec) : (endsC rs).length = rs.length := by simp [endsC]
theorem endsC_at (rs : List LRec) (i : Nat) (h : i < rs.length) : (endsC rs)[i]? = some (.int .i64 (endAt rs (i + 1) : Int)) := by simp [endsC, h]
theorem endAt_snoc (rs : List LRec) (r : LRec) (i : Nat) (h : i ≤ rs.length) : endAt (rs ++ [r]) i = endAt rs i := by
 unfold endAt; rw [List.take_append_of_le_length h]
theorem endsC_snoc (rs : List LRec) (r : LRec) : endsC (rs ++ [r]) = endsC rs ++ [.int .i64 ((endAt rs rs.length + (putT r.body).length : Nat) : Int)] := by
 unfold endsC
 rw [List.length_append, List.length_singleton, List.range_succ, List.map_append, List.map_singleton]
 congr 1
 ·refine List.map_congr_left fun i hi => ?_
  rw [endAt_snoc rs r (i + 1) (List.mem_range.1 hi)]
 ·rw [endAt_next (rs ++ [r]) rs.length (by simp), endAt_snoc rs r _ (Nat.le_refl _), List.getElem_concat_length rfl]
theorem count_any (w : World) (u v : Value) (A : Option Addr) (n c : Nat) (h1 : u.oneCell' = true) (h2 : v.oneCell' = true) : Calls Tryz.prog 148 #[.agg #[u, v, .slice A n c]] w fun e w' => e = .returned (.int .i64 (n : Int)) ∧ Kp w w' := by
 go_enter Tryz.func148, Tryz.ntmps148
 go_wp2
 go_ret
 exact ⟨rfl, (Keeps.refl _ _).alloc _⟩
theorem number_any (w : World) (u : Value) (f k : Nat) (E : Value) (h1 : u.oneCell' = true) (h2 : E.oneCell' = true) (hf : f ≤ 274877906944) (hk : k ≤ 4096) : Calls Tryz.prog 168 #[.agg #[u, .int .i64 (f : Int), E], .int .i64 (k : Int)] w fun e w' => e = .returned (.int .i64 ((f * 8 + k : Nat) : Int)) ∧ Kp w w' := by
 have e : ((f * 8 + k : Nat) : Int) = (f : Int) * 8 + (k : Int) := by omega
 rw [e]
 clear e
 go_enter Tryz.func168, Tryz.ntmps168
 go_wp2
 go_ret
 exact ⟨rfl, (Keeps.refl _ _).alloc _⟩
theorem start_any (w : World) (u v : Value) (A : Option Addr) (c : Nat) (G : Nat → Prop) (rs : List LRec) (h1 : u.oneCell' = true) (h2 : v.oneCell' = true) (hr : Row w A G (endsC rs)) (hn : rs.length ≤ 4096) (i : Nat) (hi : i ≤ rs.length) :
  Calls Tryz.prog 149 #[.agg #[u, v, .slice A rs.length c], .int .i64 (i : Int)] w fun e w' => e = .returned (.int .i64 (endAt rs i : Int)) ∧ Kp w w' := by
 by_cases h0 : i = 0
 ·subst h0
  rw [endAt_zero]
  clear hr
  go_enter Tryz.func149, Tryz.ntmps149
  go_wp2
  go_ret
  exact ⟨rfl, (Keeps.refl _ _).alloc _⟩
 ·obtain ⟨k, rfl⟩ : ∃ k, i = k + 1 := ⟨i - 1, by omega⟩
  have hk : k < rs.length := by omega
  obtain ⟨b, o, rfl, -, hc⟩ := hr (by intro e; have := congrArg List.length e; rw [endsC_len, List.length_nil] at this; omega)
  have hce := hc k _ (endsC_at rs k hk)
  have hce2 : ∀ ob, (w.alloc ob).cell? ⟨b, o + k, none⟩ = some (.int .i64 (endAt rs (k + 1) : Int)) := fun ob => ((Keeps.refl (fun _ => True) w).alloc ob).cell hce trivial
  have d0 : ((((k : Nat) : Int) + 1) == 0) = false := by simp; omega
  have e : (((k + 1 : Nat) : Int)) = (k : Int) + 1 := by omega
  rw [e]
  have HE := Lib.hid hce2
  clear hc hi h0 e hce
  generalize (endAt rs (k + 1)) = z at hce2 HE ⊢
  go_enter Tryz.func149, Tryz.ntmps149
  go_wp2
  go_ret
  exact ⟨rfl, (Keeps.refl _ _).alloc _⟩
end Go.Proofs.YticophaepapjoaaGreatDoor
