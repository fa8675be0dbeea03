/-
  FlOpen, JnOpen, JnSince: texts of mine, joined.
-/
import Derived.Test.YticophaepapjoaaGreatDoorAllA36
import Derived.Test.YticophaepapjoaaGreatDoorAllA34
import Derived.Test.YticophaepapjoaaGreatDoorAllA30
import Derived.Test.YticophaepapjoaaGreatDoorAllA29
import Derived.Lib.MinMax
namespace Go.Proofs.YticophaepapjoaaGreatDoor
open Go Go.RowKit Go.Joins
structure Lt (S : Slog2) (I : IndexOK) (w wa wb wr : World) (p q lq : Nat) (Fl : Foot) (lst : LSt) (s : SDev) (l : List FRec) (j : Nat) : Prop where
 ex : ∃ (iq : Nat) (Fi : Foot) (ix : IxSt), CAt S I wr p q lq iq Fl Fi 1 lst ix s ∧ IxSays ix (l.take j) j ∧ (∀ b, Fi.all b → w.heap.size ≤ b) ∧ ∀ b, Fi.all b → b < wa.heap.size ∨ wb.heap.size ≤ b
 kp : Kp w wr
 sz : wb.heap.size ≤ wr.heap.size
section
variable {S : Slog2} {I : IndexOK} {w wa wb wr w2 w3 : World} {p q lq : Nat} {Fl : Foot} {lst : LSt} {s : SDev} {l : List FRec} {j : Nat}
theorem Lt.keep (h : Lt S I w wa wb wr p q lq Fl lst s l j) (hk : Kp wr w2) : Lt S I w wa wb w2 p q lq Fl lst s l j := by
 obtain ⟨iq, Fi, ix, hc, hx, h1, h2⟩ := h.ex
 exact ⟨⟨iq, Fi, ix, hc.kp hk, hx, h1, h2⟩, h.kp.trans hk, Nat.le_trans h.sz hk.size⟩
theorem Lt.step (J : ItemOK) (hIT : I.T w) (hJT : J.T w) (hq : w.heap.size ≤ q) (hqa : q < wa.heap.size) (h : Lt S I w wa wb wr p q lq Fl lst s l j) (hj : j < l.length) (hjs : j ≤ 32768) (hm : ∀ x, l[j].2 = some x → x.may = true) (hpo : l[j].1 < 9223372036854775808) (A : Option Addr) (m c : Nat) (hr : Row wr A (fun _ => True) (bcells (bodyO l[j].2))) (hml : m = (bodyO l[j].2).length) (hmc : m ≤ c) (hcm : c ≤ maxLen) :
  Calls Tryz.prog 72 #[.pointer (some ⟨q, 0, none⟩), .int .i64 (l[j].1 : Int), .slice A m c] wr fun e w' => e = .returned (.tuple #[]) ∧ Lt S I w wa wb w' p q lq Fl lst s l (j + 1) ∧ Keeps (fun b => wa.heap.size ≤ b ∧ b < wb.heap.size) wr w' := by
 obtain ⟨iq, Fi, ix, hc, hx, h1, h2⟩ := h.ex
 have hsz := h.sz
 have hsz2 := h.kp.size
 refine (clearn S I J w wr hIT (J.tk hJT h.kp) p q lq iq Fl Fi 1 lst ix s hc h.kp h1 (l.take j) j hx hjs l[j] hm hpo A m c hr hml hmc hcm).mono ?_
 rintro e w' ⟨rfl, iq', Fi', ix', hc', hx', hl⟩
 have hsz' := hl.k.size
 have all' : ∀ b, Fi'.all b → Fi.all b ∨ wr.heap.size ≤ b := fun b hb => by
  rcases hb with hb | hb
  ·rcases hl.m b hb with h1 | h1
   ·exact .inl (.inl h1)
   ·exact .inr h1
  ·exact hl.i b hb
 refine ⟨rfl, ⟨⟨iq', Fi', ix', hc', ?_, fun b hb => ?_, fun b hb => ?_⟩, ⟨hl.k.os.trans h.kp.os, hl.k.tape.trans h.kp.tape, hl.k.output.trans h.kp.output, Nat.le_trans hsz2 hsz', fun b _ hb => ?_⟩, Nat.le_trans hsz hsz'⟩, hl.k.mono fun b _ hb => ⟨fun e => by omega, fun hm => ?_⟩⟩
 ·rw [List.take_succ_eq_append_getElem hj]; exact hx'
 ·rcases all' b hb with h3 | h3
  ·exact h1 b h3
  ·omega
 ·rcases all' b hb with h3 | h3
  ·exact h2 b h3
  ·omega
 ·exact (hl.k.block b ⟨fun e => by omega, fun hm => by have := h1 b (.inl hm); omega⟩ (Nat.lt_of_lt_of_le hb hsz2)).trans (h.kp.block b trivial hb)
 ·rcases h2 b (.inl hm) with h3 | h3
  ·omega
  ·omega
end
def FOpenPost (S : Slog2) (I : IndexOK) (w : World) (p : Nat) (s : SDev) (st : FSt) (e : Ending) (w' : World) : Prop :=
 ∃ (q : Nat) (Fs : Foot), e = .returned (.tuple #[.pointer (some ⟨q, 0, none⟩), .int .i64 0]) ∧ flashRep S I w' p q Fs st s ∧ (∀ b, Fs.all b → w.heap.size ≤ b) ∧ Kp w w'
set_option maxRecDepth 100000 in
set_option maxHeartbeats 2000000 in
theorem copen (S : Slog2) (I : IndexOK) (J : ItemOK) (w : World) (hT : S.T w ∧ I.T w ∧ J.T w) (p : Nat) (F : Foot) (s : SDev) (st : FSt) (hd : DAt w p F s) (i n : Nat) (hroom : st.place + 8 * st.segs ≤ s.now.length) (hage : st.age ≤ 30000)
  (hop : Calls Tryz.prog 96 #[.pointer (some ⟨p, 0, none⟩), .int .i64 i, .int .i64 n] w fun e w' => ∃ (lq : Nat) (Fl : Foot) (lst : LSt) (hs : List FRec), e = .returned (.tuple #[.pointer (some ⟨lq, 0, none⟩), .int .i64 0]) ∧ S.rep w' lq Fl lst s ∧ lst.dev = p ∧ FM st lst hs ∧ (∀ b, Fl.all b → w.heap.size ≤ b) ∧ Kp w w') :
  Calls Tryz.prog 67 #[.pointer (some ⟨p, 0, none⟩), .int .i64 i, .int .i64 n] w (FOpenPost S I w p s st) := by
 have HOP := Lib.hid hop
 have HD := Lib.hid hd
 clear hop hd
 go_enter Tryz.func67, Tryz.ntmps67
 go_wp2_with fail
 refine (show Calls _ _ _ _ _ from HOP.out).mono ?_
 rintro e w1 ⟨lq, Fl, lst, hs, rfl, hrep, hon, hm, hFl, hk1⟩
 have HNEW := Lib.hid (I.new w1 (I.tk hT.2.1 hk1))
 have HREP := Lib.hid hrep
 have HM := Lib.hid hm
 have HFL := Lib.hid hFl
 have HK1 := Lib.hid hk1
 have HON := Lib.hid hon
 clear hrep hm hFl hk1 hon
 go_wp2_with fail
 refine (show Calls _ _ _ _ _ from HNEW.out).mono ?_
 rintro e w2 ⟨iq, Fi, rfl, hi, hFi, hk2⟩
 have HI := Lib.hid hi
 have HFI := Lib.hid hFi
 have HK2 := Lib.hid hk2
 clear hi hFi hk2
 go_wp2_with fail
 obtain ⟨wa, hwa⟩ : ∃ wa, w2.alloc (.cells #[.pointer (some ⟨lq, 0, none⟩), .pointer (some ⟨iq, 0, none⟩), .int .i64 1] 92) = wa := ⟨_, rfl⟩
 have hba : CBlk wa w2.heap.size lq iq 1 := by rw [← hwa]; exact heap_alloc_new w2 _
 have hka : Kp w2 wa := by rw [← hwa]; exact (Keeps.refl _ w2).alloc _
 have hza : wa.heap.size = w2.heap.size + 1 := by rw [← hwa]; simp
 have hz1 := HK1.out.size
 have hz2 := HK2.out.size
 have hk2a := HK2.out.trans hka
 have HWA := Lib.hid hwa
 have HALL := Lib.hid (S.all2 wa p lq F Fl s lst (HD.out.keep ((HK1.out.trans hk2a).mono fun _ _ _ => trivial)) (S.keep HREP.out (hk2a.mono fun _ _ _ => trivial)) HON.out (S.tk hT.1 (HK1.out.trans hk2a)) (by rw [HM.out.place, HM.out.segs]; exact hroom))
 have hL0 := S.lt HREP.out
 have HC0 := Lib.hid (show CAt S I wa p w2.heap.size lq iq Fl Fi 1 lst [] s from
  ⟨hba, S.keep HREP.out (hk2a.mono fun _ _ _ => trivial), I.keep HI.out (hka.mono fun _ _ _ => trivial), HON.out, ⟨fun b hb hf => by have := HFI.out b hf; have := hL0 b (.inl hb); omega, fun b hb hf => by have := HFI.out b (.inl hb); have := hL0 b hf; omega⟩, fun hf => by have := hL0 _ hf; omega, fun hf => by have := I.lt HI.out _ hf; omega⟩)
 have hiz := fun b hb => I.lt HI.out b hb
 have HQ := Lib.hid (show w.heap.size ≤ w2.heap.size ∧ w2.heap.size < wa.heap.size from ⟨by omega, by omega⟩)
 have HFI2 := Lib.hid (show ∀ b, Fi.all b → w.heap.size ≤ b ∧ b < wa.heap.size from fun b hb => ⟨by have := HFI.out b hb; omega, by have := hiz b hb; omega⟩)
 have HKA := Lib.hid (HK1.out.trans hk2a)
 have HPOS := Lib.hid (show ∀ a ∈ hs, a.1 < 9223372036854775808 from fun a ha => by
  have hok := S.wf HREP.out
  have : a.1 ∈ hs.map (·.1) := List.mem_map.2 ⟨a, ha, rfl⟩
  rw [← HM.out.pos] at this
  obtain ⟨r, hr, e⟩ := List.mem_map.1 this
  have h1 := hok.next.2 r hr
  have h2 := hok.small
  rw [← e]
  omega)
 obtain ⟨L, hL⟩ : ∃ L, hs.drop lst.gone = L := ⟨_, rfl⟩
 have HL := Lib.hid hL
 have HRC := Lib.hid (show lst.recs = L.map frk from by rw [HM.out.recs, hL])
 have HLM := Lib.hid (show L.length ≤ st.age from by
  have h1 := HM.out.len
  have h2 := HM.out.age
  rw [← hL, List.length_drop]
  omega)
 have HLS := Lib.hid (show ∀ a ∈ L, a ∈ hs from fun a ha => by rw [← hL] at ha; exact List.mem_of_mem_drop ha)
 clear hwa hba hka hza hz1 hz2 hk2a hL0 hiz hL HK1 HK2 HI HFI
 go_wp2_with (rw [HWA.out])
 try rw [HWA.out]
 refine (show Calls _ _ _ _ _ from HALL.out).mono ?_
 rintro e wb ⟨A, c, rfl, hmc, hcm, hrc, hkb⟩
 rw [HRC.out] at hrc
 obtain ⟨m, hlm⟩ : ∃ m, lst.recs.length = m := ⟨_, rfl⟩
 rw [hlm] at hmc ⊢
 have hLm : L.length = m := by rw [← hlm, HRC.out, List.length_map]
 have HLEN := Lib.hid hLm
 have HKB := Lib.hid hkb
 have HREC := Lib.hid (show ∀ (j : Nat) (hj : j < L.length), ∃ b o, A = some ⟨b, o, none⟩ ∧ ∀ wr, Keeps (fun b => wa.heap.size ≤ b ∧ b < wb.heap.size) wb wr → wr.cell? ⟨b, o + j * 2, none⟩ = some (.int .i64 ((L[j].1 : Nat) : Int)) ∧ ∃ B mm c, wr.cell? ⟨b, o + j * 2 + 1, none⟩ = some (.slice B mm c) ∧ mm = (bodyO L[j].2).length ∧ mm ≤ c ∧ c ≤ maxLen ∧ Row wr B (fun _ => True) (bcells (bodyO L[j].2)) from fun j hj => by
  have hne : L.map frk ≠ [] := fun e => by have := congrArg List.length e; simp at this; rw [this] at hj; simp at hj
  obtain ⟨b, o, e, hG, hc⟩ := hrc hne
  refine ⟨b, o, e, fun wr hk => ?_⟩
  obtain ⟨c0, B, cc, c1, h1, h2, h3⟩ := hc j (by rw [List.length_map]; exact hj)
  rw [List.getElem_map] at c0 c1 h1 h3
  exact ⟨hk.cell c0 hG, B, _, cc, hk.cell c1 hG, rfl, h1, h2, (h3.keep hk).mono fun _ _ _ => trivial⟩)
 have hmage : m ≤ 30000 := by have := HLM.out; omega
 unfold maxLen at hcm
 clear hlm hLm hrc hkb
 have HST := Lib.hid (show Lt S I w wa wb wb p w2.heap.size lq Fl lst s L 0 from
  ⟨⟨iq, Fi, [], HC0.out.kp HKB.out, IxSays.nil, fun b hb => (HFI2.out b hb).1, fun b hb => .inl (HFI2.out b hb).2⟩, HKA.out.trans HKB.out, Nat.le_refl _⟩)
 have HEND := Lib.hid (show ∀ wr, Lt S I w wa wb wr p w2.heap.size lq Fl lst s L m → FOpenPost S I w p s st (.returned (.tuple #[.pointer (some ⟨w2.heap.size, 0, none⟩), .int .i64 0])) wr from fun wr h => by
  obtain ⟨iq', Fi', ix', hc, hx, h1, h2⟩ := h.ex
  rw [List.take_of_length_le (by rw [HLEN.out]; exact Nat.le_refl _), ← HL.out] at hx
  exact ⟨w2.heap.size, cfoot w2.heap.size Fl Fi', rfl, ⟨lq, iq', Fl, Fi', 1, lst, ix', hs, rfl, hc, HM.out, hx.more (by rw [← HLEN.out]; exact HLM.out)⟩, fun b hb => by
   rcases cfoot_all.1 hb with rfl | hb | hb
   ·exact HQ.out.1
   ·exact HFL.out b hb
   ·exact h1 b hb, h.kp⟩)
 have HMAY := Lib.hid (show ∀ (j : Nat) (hj : j < L.length) x, L[j].2 = some x → x.may = true from fun j hj x hx => HM.out.may L[j].1 x (HLS.out _ (by rw [← hx]; exact List.getElem_mem hj)))
 have HPO := Lib.hid (show ∀ (j : Nat) (hj : j < L.length), L[j].1 < 9223372036854775808 from fun j hj => HPOS.out _ (HLS.out _ (List.getElem_mem hj)))
 clear HALL HC0 HFI2 HKA HPOS HRC HLS HREP HFL HNEW HOP
 obtain ⟨q, hq⟩ : ∃ q, w2.heap.size = q := ⟨_, rfl⟩
 rw [hq] at HST HEND HQ ⊢
 clear hq
 go_wp2_with fail
 go_loopw [30] (fun i wr => ∃ j, j ≤ m ∧ i = .int .i64 j ∧ RowKit.Hid (Lt S I w wa wb wr p q lq Fl lst s L j) ∧ RowKit.Hid (Keeps (fun b => wa.heap.size ≤ b ∧ b < wb.heap.size) wb wr)) (fun i _ => m - (intOf i).toNat)
 case atStart => exact ⟨0, Nat.zero_le _, rfl, HST, Lib.hid (Keeps.refl _ _)⟩
 case round =>
  obtain ⟨j, hj, rfl, hlt, hkg⟩ := hrel
  by_cases hjm : j < m
  ·have t1 : decide ((j : Int) < (m : Int)) = true := by simp; omega
   have hjl : j < L.length := by rw [HLEN.out]; exact hjm
   obtain ⟨b, o, rfl, hrow⟩ := HREC.out j hjl
   obtain ⟨c0, B, mm, cc, c1, hmm, hmc2, hcc2, hr⟩ := hrow wr hkg.out
   have HKW := Lib.hid (show Kp wr (wr.alloc (.cells #[.int .i64 ((L[j].1 : Nat) : Int), .slice B mm cc] 172)) from (Keeps.refl _ wr).alloc _)
   have HLN := Lib.hid ((hlt.out.keep HKW.out).step J hT.2.1 hT.2.2 HQ.out.1 HQ.out.2 hjl (by omega) (HMAY.out j hjl) (HPO.out j hjl) B mm cc (hr.keep HKW.out) hmm hmc2 hcc2)
   clear hmm hmc2 hcc2 hr hrow
   generalize L[j].1 = po at c0 HKW HLN
   go_wp2_with fail
   refine (show Calls _ _ _ _ _ from HLN.out).mono ?_
   rintro e w4 ⟨rfl, hl4, hk4⟩
   have HL4 := Lib.hid hl4
   have HK4 := Lib.hid (hkg.out.trans ((HKW.out.mono fun _ _ _ => trivial).trans hk4))
   clear hl4 hk4 HLN c0 c1
   go_wp2_with fail
   go_roundw
   case rel => exact ⟨j + 1, by omega, by go_num, HL4, HK4⟩
   case measure => simp [intOf]; omega
  ·have t1 : decide ((j : Int) < (m : Int)) = false := by simp; omega
   obtain rfl : j = m := by omega
   have HE := Lib.hid (HEND.out wr hlt.out)
   clear hjm
   go_wp2_with fail
   go_ret2
   exact HE.out
structure Jl (S : Slog2) (w wa wb wr : World) (p q lq : Nat) (Fl : Foot) (lst : LSt) (s : SDev) (L : List LRec) (j : Nat) : Prop where
 ex : ∃ (bs : Nat) (v : Value), JAt S wr p q lq Fl (bs : Int) v ((L.take j).map (·.pos)) lst s ∧ (j = 0 → bs = 0 ∧ v = .slice none 0 0) ∧ (0 < j → bs = lst.gone) ∧ ∀ b, v.ownBlock = some b → wb.heap.size ≤ b
 kp : Kp w wr
 sz : wb.heap.size ≤ wr.heap.size
section
variable {S : Slog2} {w wa wb wr w2 : World} {p q lq : Nat} {Fl : Foot} {lst : LSt} {s : SDev} {L : List LRec} {j : Nat}
theorem Jl.keep (h : Jl S w wa wb wr p q lq Fl lst s L j) (hk : Kp wr w2) : Jl S w wa wb w2 p q lq Fl lst s L j := by
 obtain ⟨bs, v, hc, h1, h2, h3⟩ := h.ex
 exact ⟨⟨bs, v, hc.kp hk, h1, h2, h3⟩, h.kp.trans hk, Nat.le_trans h.sz hk.size⟩
theorem Jl.step (hq : w.heap.size ≤ q) (hqa : q < wa.heap.size) (hab : wa.heap.size ≤ wb.heap.size) (h : Jl S w wa wb wr p q lq Fl lst s L j) (hj : j < L.length) (hgl : lst.gone + L.length ≤ 30000) :
  Calls Tryz.prog 98 #[.pointer (some ⟨q, 0, none⟩), .int .i64 (L[j].pos : Int), .int .i64 ((lst.gone + j + 1 : Nat) : Int)] wr fun e w' => e = .returned (.tuple #[]) ∧ Jl S w wa wb w' p q lq Fl lst s L (j + 1) ∧ Keeps (fun b => wa.heap.size ≤ b ∧ b < wb.heap.size) wr w' := by
 obtain ⟨bs, v, hc, h1, h2, h3⟩ := h.ex
 have hsz := h.sz
 have hsz2 := h.kp.size
 have htk : (L.take (j + 1)).map (·.pos) = (L.take j).map (·.pos) ++ [L[j].pos] := by
  rw [List.take_succ_eq_append_getElem hj, List.map_append]; rfl
 have htl : ((L.take j).map (·.pos)).length = j := by rw [List.length_map, List.length_take]; omega
 have fin : ∀ (v' : Value) (w' : World), JAt S w' p q lq Fl (lst.gone : Int) v' ((L.take j).map (·.pos) ++ [L[j].pos]) lst s → Keeps (fun b => v.ownBlock ≠ some b ∧ b ≠ q) wr w' → (v'.ownBlock = v.ownBlock ∨ ∃ b, v'.ownBlock = some b ∧ wr.heap.size ≤ b) →
   Jl S w wa wb w' p q lq Fl lst s L (j + 1) ∧ Keeps (fun b => wa.heap.size ≤ b ∧ b < wb.heap.size) wr w' := by
  intro v' w' hc' hk hv
  have hsz' := hk.size
  refine ⟨⟨⟨lst.gone, v', by rw [htk]; exact hc', fun h => absurd h (Nat.succ_ne_zero j), fun _ => rfl, fun b hb => ?_⟩, ⟨hk.os.trans h.kp.os, hk.tape.trans h.kp.tape, hk.output.trans h.kp.output, Nat.le_trans hsz2 hsz', fun b _ hb => ?_⟩, Nat.le_trans hsz hsz'⟩, hk.mono fun b _ hb => ⟨fun e => by have := h3 b e; omega, fun e => by omega⟩⟩
  ·rcases hv with hv | ⟨b', hv, hv2⟩
   ·exact h3 b (hv.symm.trans hb)
   ·rw [hb] at hv; injection hv with hv; omega
  ·refine (hk.block b ⟨fun e => ?_, fun e => by omega⟩ (Nat.lt_of_lt_of_le hb hsz2)).trans (h.kp.block b trivial hb)
   have := h3 b e
   have := hc.lt b (jfoot_all.2 (.inr (.inr e)))
   have := h.kp.size
   omega
 rcases Nat.eq_zero_or_pos j with hj0 | hj0
 ·subst hj0
  obtain ⟨rfl, rfl⟩ := h1 rfl
  rcases Nat.eq_zero_or_pos lst.gone with hg | hg
  ·refine (jlearn_next S wr p q lq 0 0 (lst.gone + 0 + 1) L[0].pos Fl (.slice none 0 0) _ lst s hc (Nat.zero_le _) (by simp) (by omega)).mono ?_
   rintro e w' ⟨rfl, v', hc', hk, hv⟩
   refine ⟨rfl, fin v' w' ?_ hk hv⟩
   rw [hg]; exact hc'
  ·refine (jlearn_first S wr p q lq lst.gone (lst.gone + 0 + 1) L[0].pos Fl lst s hc hg (by omega) rfl).mono ?_
   rintro e w' ⟨rfl, v', hc', hk, hv⟩
   exact ⟨rfl, fin v' w' hc' hk hv⟩
 ·obtain rfl := h2 hj0
  refine (jlearn_next S wr p q lq lst.gone (lst.gone + j) (lst.gone + j + 1) L[j].pos Fl v _ lst s hc (by omega) (by rw [htl]) rfl).mono ?_
  rintro e w' ⟨rfl, v', hc', hk, hv⟩
  exact ⟨rfl, fin v' w' hc' hk hv⟩
end
def JOpenPost (S : Slog2) (w : World) (p : Nat) (s : SDev) (st : JSt) (e : Ending) (w' : World) : Prop :=
 ∃ (q : Nat) (Fs : Foot), e = .returned (.tuple #[.pointer (some ⟨q, 0, none⟩), .int .i64 0]) ∧ jrep S w' p q Fs st s ∧ (∀ b, Fs.all b → w.heap.size ≤ b) ∧ Kp w w'
set_option maxRecDepth 100000 in
set_option maxHeartbeats 2000000 in
theorem jopen (S : Slog2) (w : World) (hT : S.T w) (p : Nat) (F : Foot) (s : SDev) (st : JSt) (hd : DAt w p F s) (i n : Nat) (hn : 20 ≤ n) (hnb : n ≤ 1000) (hroom : st.place + 8 * st.segs ≤ s.now.length)
  (hop : Calls Tryz.prog 96 #[.pointer (some ⟨p, 0, none⟩), .int .i64 i, .int .i64 n] w fun e w' => ∃ (lq : Nat) (Fl : Foot) (lst : LSt), e = .returned (.tuple #[.pointer (some ⟨lq, 0, none⟩), .int .i64 0]) ∧ S.rep w' lq Fl lst s ∧ lst.dev = p ∧ JM st lst ∧ (∀ b, Fl.all b → w.heap.size ≤ b) ∧ Kp w w') :
  Calls Tryz.prog 66 #[.pointer (some ⟨p, 0, none⟩), .int .i64 i, .int .i64 n] w (JOpenPost S w p s st) := by
 have HOP := Lib.hid hop
 have HD := Lib.hid hd
 have t0 : decide ((n : Int) < 20) = false := by simp; omega
 clear hop hd
 go_enter Tryz.func66, Tryz.ntmps66
 go_wp2_with fail
 refine (show Calls _ _ _ _ _ from HOP.out).mono ?_
 rintro e w1 ⟨lq, Fl, lst, rfl, hrep, hon, hm, hFl, hk1⟩
 have HREP := Lib.hid hrep
 have HM := Lib.hid hm
 have HFL := Lib.hid hFl
 have HK1 := Lib.hid hk1
 have HON := Lib.hid hon
 clear hrep hm hFl hk1 hon
 go_wp2_with fail
 obtain ⟨wa, hwa⟩ : ∃ wa, w1.alloc (.cells #[.pointer (some ⟨lq, 0, none⟩), .int .i64 0, .slice none 0 0] 108) = wa := ⟨_, rfl⟩
 have hba : JBlk wa w1.heap.size lq 0 (.slice none 0 0) := by rw [← hwa]; exact heap_alloc_new w1 _
 have hka : Kp w1 wa := by rw [← hwa]; exact (Keeps.refl _ w1).alloc _
 have hza : wa.heap.size = w1.heap.size + 1 := by rw [← hwa]; simp
 have hz1 := HK1.out.size
 have HWA := Lib.hid hwa
 have HALL := Lib.hid (S.all2 wa p lq F Fl s lst (HD.out.keep ((HK1.out.trans hka).mono fun _ _ _ => trivial)) (S.keep HREP.out (hka.mono fun _ _ _ => trivial)) HON.out (S.tk hT (HK1.out.trans hka)) (by rw [HM.out.place, HM.out.segs]; exact hroom))
 have hL0 := S.lt HREP.out
 have HC0 := Lib.hid (show JAt S wa p w1.heap.size lq Fl 0 (.slice none 0 0) [] lst s from
  ⟨hba, S.keep HREP.out (hka.mono fun _ _ _ => trivial), HON.out, ⟨rfl, .inl ⟨rfl, rfl⟩⟩, fun hf => by have := hL0 _ hf; omega, fun h => (by cases h), fun b h => (by cases h)⟩)
 have HQ := Lib.hid (show w.heap.size ≤ w1.heap.size ∧ w1.heap.size < wa.heap.size from ⟨by omega, by omega⟩)
 have HKA := Lib.hid (HK1.out.trans hka)
 obtain ⟨L, hL⟩ : ∃ L, lst.hist.drop lst.gone = L := ⟨_, rfl⟩
 have HL := Lib.hid hL
 have HRC := Lib.hid (show lst.recs = L.map LRec.key from by rw [← hL]; rfl)
 have hgl := (S.wf HREP.out).gone
 have HLM := Lib.hid (show lst.gone + L.length ≤ 30000 from by
  have h1 := HM.out.age
  have h2 := HM.out.old
  rw [← hL, List.length_drop]
  omega)
 have HBODY := Lib.hid (show ∀ (j : Nat) (hj : j < L.length), ∃ k, keyOk k ∧ L[j].body = markB (lst.gone + j + 1) k from fun j hj => by
  have hj2 : lst.gone + j < lst.hist.length := by rw [← hL, List.length_drop] at hj; omega
  have e : L[j] = lst.hist[lst.gone + j] := by subst hL; rw [List.getElem_drop]
  have hj3 : lst.gone + j < st.keys.length := by rw [← HM.out.len]; exact hj2
  refine ⟨st.keys.getD (lst.gone + j) default, ?_, by rw [e]; exact HM.out.body _ hj2⟩
  rw [List.getD_eq_getElem?_getD, List.getElem?_eq_getElem hj3]
  exact HM.out.one _ (List.getElem_mem hj3))
 have HPOS := Lib.hid (show jkept lst = L.map (·.pos) from by rw [← hL]; rfl)
 have HNONE := Lib.hid (show L.length = 0 → lst.gone = 0 from fun h => by
  have h1 := HM.out.some
  rw [← hL, List.length_drop] at h
  rcases Nat.eq_zero_or_pos lst.gone with h2 | h2
  ·exact h2
  ·have := h1 (fun e => by have h5 := HM.out.len; rw [e] at h5; have h6 : lst.hist.length = 0 := h5; omega)
   omega)
 clear hwa hba hka hza hz1 hL0 hL hgl HK1
 go_wp2_with (rw [HWA.out])
 try rw [HWA.out]
 refine (show Calls _ _ _ _ _ from HALL.out).mono ?_
 rintro e wb ⟨A, c, rfl, hmc, hcm, hrc, hkb⟩
 rw [HRC.out] at hrc
 obtain ⟨m, hlm⟩ : ∃ m, lst.recs.length = m := ⟨_, rfl⟩
 rw [hlm] at hmc ⊢
 have hLm : L.length = m := by rw [← hlm, HRC.out, List.length_map]
 have HLEN := Lib.hid hLm
 have HKB := Lib.hid hkb
 have HREC := Lib.hid (show ∀ (j : Nat) (hj : j < L.length), ∃ b o, A = some ⟨b, o, none⟩ ∧ ∀ wr, Keeps (fun b => wa.heap.size ≤ b ∧ b < wb.heap.size) wb wr → wr.cell? ⟨b, o + j * 2, none⟩ = some (.int .i64 ((L[j].pos : Nat) : Int)) ∧ ∃ B mm c, wr.cell? ⟨b, o + j * 2 + 1, none⟩ = some (.slice B mm c) ∧ mm = L[j].body.length ∧ mm ≤ c ∧ c ≤ maxLen ∧ Row wr B (fun _ => True) (bcells L[j].body) from fun j hj => by
  have hne : L.map LRec.key ≠ [] := fun e => by have := congrArg List.length e; simp at this; rw [this] at hj; simp at hj
  obtain ⟨b, o, e, hG, hc⟩ := hrc hne
  refine ⟨b, o, e, fun wr hk => ?_⟩
  obtain ⟨c0, B, cc, c1, h1, h2, h3⟩ := hc j (by rw [List.length_map]; exact hj)
  rw [List.getElem_map] at c0 c1 h1 h3
  exact ⟨hk.cell c0 hG, B, _, cc, hk.cell c1 hG, rfl, h1, h2, (h3.keep hk).mono fun _ _ _ => trivial⟩)
 have hmage : m ≤ 30000 := by have := HLM.out; omega
 have HAB := Lib.hid hkb.size
 unfold maxLen at hcm
 clear hlm hLm hrc hkb
 have HST := Lib.hid (show Jl S w wa wb wb p w1.heap.size lq Fl lst s L 0 from
  ⟨⟨0, .slice none 0 0, HC0.out.kp HKB.out, fun _ => ⟨rfl, rfl⟩, fun h => absurd h (Nat.lt_irrefl 0), fun b h => (by cases h)⟩, HKA.out.trans HKB.out, Nat.le_refl _⟩)
 have HEND := Lib.hid (show ∀ wr, Jl S w wa wb wr p w1.heap.size lq Fl lst s L m → JOpenPost S w p s st (.returned (.tuple #[.pointer (some ⟨w1.heap.size, 0, none⟩), .int .i64 0])) wr from fun wr h => by
  obtain ⟨bs, v, hc, h1, h2, h3⟩ := h.ex
  rw [List.take_of_length_le (by rw [HLEN.out]; exact Nat.le_refl _), ← HPOS.out] at hc
  have hbs : bs = lst.gone := by
   rcases Nat.eq_zero_or_pos m with hm0 | hm0
   ·rw [(h1 hm0).1, HNONE.out (by rw [HLEN.out]; exact hm0)]
   ·exact h2 hm0
  subst hbs
  refine ⟨w1.heap.size, jfoot w1.heap.size Fl v, rfl, ⟨lq, Fl, v, lst, rfl, hc, HM.out⟩, fun b hb => ?_, h.kp⟩
  rcases jfoot_all.1 hb with rfl | hb | hb
  ·exact HQ.out.1
  ·exact HFL.out b hb
  ·have := h3 b hb; have := HAB.out; have := HQ.out; omega)
 clear HALL HC0 HKA HRC HREP HFL HOP HPOS HNONE
 obtain ⟨q, hq⟩ : ∃ q, w1.heap.size = q := ⟨_, rfl⟩
 rw [hq] at HST HEND HQ ⊢
 clear hq
 go_wp2_with fail
 go_loopw [33] (fun i wr => ∃ j, j ≤ m ∧ i = .int .i64 j ∧ RowKit.Hid (Jl S w wa wb wr p q lq Fl lst s L j) ∧ RowKit.Hid (Keeps (fun b => wa.heap.size ≤ b ∧ b < wb.heap.size) wb wr)) (fun i _ => m - (intOf i).toNat)
 case atStart => exact ⟨0, Nat.zero_le _, rfl, HST, Lib.hid (Keeps.refl _ _)⟩
 case round =>
  obtain ⟨j, hj, rfl, hlt, hkg⟩ := hrel
  by_cases hjm : j < m
  ·have t1 : decide ((j : Int) < (m : Int)) = true := by simp; omega
   have hjl : j < L.length := by rw [HLEN.out]; exact hjm
   obtain ⟨b, o, rfl, hrow⟩ := HREC.out j hjl
   obtain ⟨c0, B, mm, cc, c1, hmm, hmc2, hcc2, hr⟩ := hrow wr hkg.out
   obtain ⟨k, hk, hbody⟩ := HBODY.out j hjl
   rw [hbody] at hmm hr
   have HDEC := Lib.hid (show ∀ w', Kp wr w' → _ from fun w' (hk' : Kp wr w') => jdecode w' B mm cc (lst.gone + j + 1) k (hr.keep hk') hmm hmc2 hcc2 (by omega) (by have := HLM.out; omega) hk)
   have HLN := Lib.hid (show ∀ w', Kp wr w' → _ from fun w' (hk' : Kp wr w') => (hlt.out.keep hk').step HQ.out.1 HQ.out.2 HAB.out hjl HLM.out)
   clear hmm hmc2 hcc2 hr hrow hk hbody
   obtain ⟨sq, hsq⟩ : ∃ sq, lst.gone + j + 1 = sq := ⟨_, rfl⟩
   rw [hsq] at HDEC HLN
   generalize L[j].pos = po at c0 HLN
   clear hsq
   have HKW := Lib.hid (show Kp wr (wr.alloc (.cells #[.int .i64 (po : Int), .slice B mm cc] 172)) from (Keeps.refl _ wr).alloc _)
   go_wp2_with fail
   refine (show Calls _ _ _ _ _ from HDEC.out _ HKW.out).mono ?_
   rintro e w3 ⟨rfl, hk3⟩
   have r0 : w3.cell? ⟨wr.heap.size, 0, none⟩ = some (.int .i64 (po : Int)) := hk3.cell ((cell_of_block (heap_alloc_new wr _) 0).trans rfl) trivial
   have hlt3 : wr.heap.size < w3.heap.size := by have := hk3.size; simp at this; omega
   have HK3 := Lib.hid (show Kp wr (w3.alloc (.cells #[.int .i64 (sq : Int), .string k] 72)) from (HKW.out.trans hk3).alloc _)
   clear hk3 c0 c1 HDEC
   go_wp2_with fail
   refine (show Calls _ _ _ _ _ from HLN.out _ HK3.out).mono ?_
   rintro e w4 ⟨rfl, hl4, hk4⟩
   have HL4 := Lib.hid hl4
   have HK4 := Lib.hid (hkg.out.trans ((HK3.out.mono fun _ _ _ => trivial).trans hk4))
   clear hl4 hk4 HLN r0 hlt3
   go_wp2_with fail
   go_roundw
   case rel => exact ⟨j + 1, by omega, by go_num, HL4, HK4⟩
   case measure => simp [intOf]; omega
  ·have t1 : decide ((j : Int) < (m : Int)) = false := by simp; omega
   obtain rfl : j = m := by omega
   have HE := Lib.hid (HEND.out wr hlt.out)
   clear hjm
   go_wp2_with fail
   go_ret2
   exact HE.out
def cutJ (A : Option Addr) (k c : Nat) : Option Addr := if c = k then A else A.map (·.add k)
section
variable {o : Oper} {a : Act} {w : World} {Q : Exit → Act → World → Prop} {x y : Operand}
theorem kp_fJ1 {b : Nat} (ho : o.op = .fieldAddr 108 x 1) (hx : a.eval x = .pointer (some ⟨b, 0, none⟩)) : o.wp Tryz.prog a w (fun a' w' => ∃ v, a' = a.put o.dst v ∧ Kp w w' ∧ IsV (.pointer (some ⟨b, 1, none⟩)) w' v) Q := by
 refine kp_yield (v := .pointer (some ⟨b, 1, none⟩)) ?_ (Keeps.refl _ _) rfl
 generalize a.eval = ρ at hx
 unfold execOp
 go_simp
theorem kp_subJ {m n k : Nat} (h : (m : Int) - (n : Int) = (k : Int)) (hm : m ≤ 1000000) (ho : o.op = .binOp .sub 2 x y 2) (hx : a.eval x = .int .i64 (m : Int)) (hy : a.eval y = .int .i64 (n : Int)) : o.wp Tryz.prog a w (fun a' w' => ∃ v, a' = a.put o.dst v ∧ Kp w w' ∧ IsV (.int .i64 (k : Int)) w' v) Q := by
 have e : IntKind.i64.wrap ((m : Int) - (n : Int)) = (k : Int) := by rw [h, IntKind.wrap_i64]; omega
 clear h
 refine kp_yield (v := .int .i64 (k : Int)) ?_ (Keeps.refl _ _) rfl
 generalize a.eval = ρ at hx hy
 unfold execOp
 go_simp
theorem kp_restJ {A : Option Addr} {n c k : Nat} (hk : k ≤ n) (hn : n ≤ c) (hc : c ≤ 9223372036854775807) (hA : A = none → c = 0) (ho : o.op = .slice 106 x (some y) none none) (hx : a.eval x = .slice A n c) (hy : a.eval y = .int .i64 (k : Int)) :
  o.wp Tryz.prog a w (fun a' w' => ∃ v, a' = a.put o.dst v ∧ Kp w w' ∧ IsV (.slice (cutJ A k c) (n - k) (c - k)) w' v) Q := by
 refine kp_yield (v := .slice (cutJ A k c) (n - k) (c - k)) (w' := w) ?_ (Keeps.refl _ _) rfl
 generalize a.eval = ρ at hx hy ⊢
 unfold execOp
 have hkc : k ≤ c := by omega
 cases A with
 | none =>
  obtain rfl : c = 0 := hA rfl
  obtain rfl : k = 0 := by omega
  obtain rfl : n = 0 := by omega
  go_simp
  simp [cutJ]
 | some ad =>
  by_cases hck : c = k
  ·subst hck
   obtain rfl : n = c := by omega
   go_simp
   simp [cutJ]
  ·go_simp
   simp [cutJ, hck]
end
def JSincePost (w : World) (sq : Nat) (K : List ByteArray) (e : Ending) (w' : World) : Prop :=
 ∃ (A : Option Addr) (c : Nat), e = .returned (.tuple #[.slice A K.length c, .bool true]) ∧ K.length ≤ c ∧ c ≤ maxLen ∧ MarksAt w' A (fun b => w.heap.size ≤ b ∧ b < w'.heap.size) sq K ∧ Kp w w'
set_option maxRecDepth 100000 in
set_option maxHeartbeats 1000000 in
theorem jsince (S : Slog2) (w : World) (hT : S.T w) (p q : Nat) (F Fs : Foot) (s : SDev) (st : JSt) (hd : DAt w p F s) (hr : jrep S w p q Fs st s) (ha : Apart F Fs) (hroom : st.place + 8 * st.segs ≤ s.now.length) (sq n : Nat) (h8 : st.base ≤ sq) (h9 : sq ≤ st.keys.length) (hn : n ≤ 1000000) :
  Calls Tryz.prog 33 #[.pointer (some ⟨q, 0, none⟩), .int .i64 (sq : Int), .int .i64 (n : Int)] w (JSincePost w sq ((st.keys.drop sq).take n)) := by
 have HSQ := Lib.hid (show ∀ w', Kp w w' → _ from fun w' (hk' : Kp w w') => jseq_is S w' p q Fs s st (jrep_keep hr (hk'.mono fun _ _ _ => trivial)))
 obtain ⟨lq, Fl, v, lst, rfl, hc, hm⟩ := hr
 have hgone := (S.wf hc.l).gone
 have hage := hm.age
 have hold := hm.old
 have hml := hm.len
 have hjl := jkept_len lst
 have hal : Apart F Fl := ⟨fun b hb hf => ha.l b hb (jfoot_all.2 (.inr (.inl hf))), fun b hb hf => ha.r b (.inr (.inl hb)) hf⟩
 obtain ⟨A0, c0, rfl, hlc, hcm⟩ := hc.form
 have hbs : lst.gone = st.base := hm.base.symm
 obtain ⟨N, hN⟩ : ∃ N, st.keys.length = N := ⟨_, rfl⟩
 obtain ⟨n0, hn0⟩ : ∃ n0, (jkept lst).length = n0 := ⟨_, rfl⟩
 obtain ⟨B, hB⟩ : ∃ B, st.base = B := ⟨_, rfl⟩
 obtain ⟨k, hk⟩ : ∃ k, sq - B = k := ⟨_, rfl⟩
 obtain ⟨K, hK⟩ : ∃ K, (st.keys.drop sq).take n = K := ⟨_, rfl⟩
 have hKl : K.length = min n (n0 - k) := by rw [← hK, List.length_take, List.length_drop]; omega
 have HNA := Lib.hid (show A0 = none → c0 = 0 from fun e => by
  have h := hc.row.2
  rcases h with ⟨h1, -⟩ | ⟨g, cap, cur, h1, -⟩
  ·injection h1 with h2 h3 h4
  ·injection h1 with h2 h3 h4
   rw [e] at h2; cases h2)
 have HROW := Lib.hid (show Row w A0 (fun _ => True) (posC (jkept lst)) from by
  obtain ⟨A, c, e, -, hr⟩ := own_slice hc.row
  injection e with e1 e2 e3
  subst e1
  exact hr.mono fun _ _ _ => trivial)
 have HPOS := Lib.hid (show ∀ (j : Nat), j < K.length → ∃ x : Nat, (posC (jkept lst))[k + j]? = some (.int .i64 (x : Int)) ∧ ∀ wr, Kp w wr → Calls Tryz.prog 62 #[.pointer (some ⟨q, 0, none⟩), .int .i64 (x : Int)] wr fun e w' => e = .returned (.tuple #[.agg #[.int .i64 ((sq + j + 1 : Nat) : Int), .string (K.getD j default)], .bool true]) ∧ Kp wr w' from fun j hj => by
  have h1 : sq + j < lst.hist.length := by omega
  have h2 : sq + j < st.keys.length := by omega
  have e1 : (lst.hist.drop lst.gone)[k + j]? = some lst.hist[sq + j] := by
   rw [List.getElem?_drop, show lst.gone + (k + j) = sq + j by omega, List.getElem?_eq_getElem h1]
  have hb := hm.body (sq + j) h1
  have e2 : K.getD j default = st.keys.getD (sq + j) default := by
   rw [← hK, List.getD_eq_getElem?_getD, List.getD_eq_getElem?_getD, List.getElem?_take_of_lt (by omega), List.getElem?_drop]
  have hko : keyOk (st.keys.getD (sq + j) default) := by
   rw [List.getD_eq_getElem?_getD, List.getElem?_eq_getElem h2]
   exact hm.one _ (List.getElem_mem h2)
  have hrec : ((lst.hist[sq + j]).pos, markB (sq + j + 1) (st.keys.getD (sq + j) default)) ∈ lst.recs := by
   rw [← hb]
   exact List.mem_map.2 ⟨_, List.mem_of_getElem? e1, rfl⟩
  refine ⟨(lst.hist[sq + j]).pos, ?_, fun wr hkr => ?_⟩
  ·unfold posC jkept
   rw [List.getElem?_map, List.getElem?_map, e1]
   rfl
  ·rw [e2]
   exact jfind S wr (S.tk hT hkr) p q lq F Fl s lst (hd.keep (hkr.mono fun _ _ _ => trivial)) (S.keep hc.l (hkr.mono fun _ _ _ => trivial)) hc.on hal (by rw [hm.place, hm.segs]; exact hroom) (hkr.cell hc.blk.c0 trivial) _ _ _ hrec (by omega) (by omega) hko)
 have HDN := Lib.hid (jdown w q lq hc.blk.c0)
 have b1 := hc.blk.c1
 have b2 := hc.blk.c2
 rw [hn0] at b2 hlc
 rw [hbs] at b1
 rw [hN] at HSQ h9
 rw [hB] at h8 b1
 have hNb : N ≤ 30000 := by omega
 have hkn : k ≤ n0 := by omega
 have hn0b : n0 ≤ 30000 := by omega
 have t1 : decide (sq < B) = false := by simp; omega
 have t2 : decide (N < sq) = false := by simp; omega
 have HPL := Lib.hid (show (posC (jkept lst)).length = n0 from by rw [posC_len]; exact hn0)
 have HKK := Lib.hid (show (sq : Int) - (B : Int) = (k : Int) from by omega)
 have hBb : B ≤ 30000 := by omega
 have hsb : sq ≤ 30000 := by omega
 have HK := Lib.hid hK
 have HKL := Lib.hid hKl
 rw [hK]
 unfold maxLen at hcm
 clear hT hd ha hroom hc hm hgone hage hold hml hjl hal hbs hN hn0 hB hk hK hKl h8 h9
 go_enter Tryz.func33, Tryz.ntmps33
 go_wp2_with fail
 refine (show Calls _ _ _ _ _ from HDN.out).mono ?_
 rintro e w1 ⟨rfl, rfl⟩
 go_wp2_with fail
 refine (show Calls _ _ _ _ _ from HSQ.out w (Keeps.refl _ _)).mono ?_
 rintro e w1 ⟨rfl, hk1⟩
 have HK1 := Lib.hid hk1
 replace b1 := hk1.cell b1 trivial
 replace b2 := hk1.cell b2 trivial
 clear hk1 HSQ HDN
 go_wp2_with fail
 have HR1 := Lib.hid (show ∀ w', Kp w w' → Row w' (cutJ A0 k c0) (fun _ => True) ((posC (jkept lst)).drop k) from fun w' hk => by
  have h := (HROW.out.keep (hk.mono fun _ _ _ => trivial)).cut (k := k) (cap := c0) (by rw [HPL.out]; exact hkn) (by rw [HPL.out]; exact hlc)
  exact h)
 refine wp_region_guard (R := Kp) (V := Vl [.pointer (some ⟨q, 0, none⟩), .pointer (some ⟨q, 0, none⟩), .pointer (some ⟨q, 2, none⟩), .slice A0 n0 c0, .int .i64 (sq : Int), .pointer (some ⟨q, 0, none⟩), .pointer (some ⟨q, 0, none⟩), .pointer (some ⟨q, 1, none⟩), .int .i64 (B : Int), .int .i64 (k : Int), .slice (cutJ A0 k c0) (n0 - k) (c0 - k), .slice (cutJ A0 k c0) (n0 - k) (c0 - k)]) (w0 := w1) GM (by kernel_rfl) (fun w => Keeps.refl _ w) (fun _ _ _ h k => h.trans k) (fun i w w' v _ hv => hv) (by kernel_rfl) GM_is (fun i o ho hw => (all_wanted (by kernel_rfl) ho hw).elim) ((Keeps.refl _ w1).drew) (each_of ?_) ?_
 ·refine ⟨?_, ?_, ?_, ?_, ?_, ?_, ?_, ?_, ?_, ?_, ?_, ?_, trivial⟩ <;> intro hw a1 w7 L
  ·exact kp_move rfl (L.old 0 (by kernel_rfl))
  ·exact kp_nilL rfl (L.val 0 30 (by kernel_rfl) (by kernel_rfl))
  ·exact kp_fJ2 rfl (L.val 1 31 (by kernel_rfl) (by kernel_rfl))
  ·exact kp_lPos (L.rel.cell b2 trivial) rfl (L.val 2 32 (by kernel_rfl) (by kernel_rfl))
  ·exact kp_move rfl (L.old 1 (by kernel_rfl))
  ·exact kp_move rfl (L.old 0 (by kernel_rfl))
  ·exact kp_nilL rfl (L.val 5 35 (by kernel_rfl) (by kernel_rfl))
  ·exact kp_fJ1 rfl (L.val 6 36 (by kernel_rfl) (by kernel_rfl))
  ·exact kp_ldI (L.rel.cell b1 trivial) rfl (L.val 7 37 (by kernel_rfl) (by kernel_rfl))
  ·exact kp_subJ HKK.out (by omega) rfl (L.val 4 34 (by kernel_rfl) (by kernel_rfl)) (L.val 8 38 (by kernel_rfl) (by kernel_rfl))
  ·exact kp_restJ hkn hlc (by omega) HNA.out rfl (L.val 3 33 (by kernel_rfl) (by kernel_rfl)) (L.val 9 39 (by kernel_rfl) (by kernel_rfl))
  ·exact kp_assign rfl (L.val 10 40 (by kernel_rfl) (by kernel_rfl))
 ·intro vs w7 hk7 hlen7 hv
  match vs, hlen7 with
  | [u0, u1, u2, u3, u4, u5, u6, u7, u8, u9, u10, u11], _ =>
   have hx11 : u11 = .slice (cutJ A0 k c0) (n0 - k) (c0 - k) := hv 11 8 (by kernel_rfl)
   subst hx11
   have HK7 := Lib.hid (HK1.out.trans hk7)
   have HR7 := Lib.hid (HR1.out w7 HK7.out)
   have HN7 := Lib.hid (show cutJ A0 k c0 = none → c0 - k = 0 from fun e => by
    unfold cutJ at e
    by_cases hck : c0 = k
    ·omega
    ·rw [if_neg hck] at e
     have := HNA.out (by cases A0 with | none => rfl | some a => cases e)
     omega)
   clear hv hk7 b1 b2
   obtain ⟨A1, hA1⟩ : ∃ A1, cutJ A0 k c0 = A1 := ⟨_, rfl⟩
   obtain ⟨n1, hn1⟩ : ∃ n1, n0 - k = n1 := ⟨_, rfl⟩
   obtain ⟨c1, hc1⟩ : ∃ c1, c0 - k = c1 := ⟨_, rfl⟩
   obtain ⟨t, ht⟩ : ∃ t, K.length = t := ⟨_, rfl⟩
   have htm := HKL.out
   rw [hn1, ht] at htm
   rw [hA1] at HR7 HN7 ⊢
   rw [hc1] at HN7 ⊢
   rw [hn1]
   have hnc1 : n1 ≤ c1 := by omega
   have hc1m : c1 ≤ 9223372036854775807 := by omega
   have hn1b : n1 ≤ 30000 := by omega
   have hmm : min (n : Int) (n1 : Int) = (t : Int) := by omega
   have htn : t ≤ n1 := by omega
   have HT := Lib.hid ht
   clear hA1 hn1 hc1 ht htm HR1 HNA HROW HPL HKK HKL hkn hlc hcm hn0b hBb hsb hNb HK1 t1 t2
   have hAs : (A1 = none ∧ c1 = 0) ∨ ∃ ad, A1 = some ad := by
    cases A1 with
    | none => exact .inl ⟨rfl, HN7.out rfl⟩
    | some ad => exact .inr ⟨ad, rfl⟩
   rcases hAs with ⟨rfl, rfl⟩ | ⟨ad, rfl⟩
   ·obtain rfl : n1 = 0 := by omega
    obtain rfl : t = 0 := by omega
    obtain rfl : K = [] := List.eq_nil_of_length_eq_zero HT.out
    have HE := Lib.hid (show JSincePost w sq [] (.returned (.tuple #[.slice none 0 0, .bool true])) w7 from ⟨none, 0, rfl, Nat.le_refl _, Nat.zero_le _, fun i hi => absurd hi (Nat.not_lt_zero _), HK7.out⟩)
    simp only [putAll, List.map, Act.put, List.setIfInBounds_toArray, List.set_cons_succ, List.set_cons_zero, Exit.then]
    go_wp2_with fail
    go_loopw [9, 49] (fun v i wr => v = .slice none 0 0 ∧ i = .int .i64 0 ∧ wr = w7) (fun _ i _ => 0)
    case atStart => exact ⟨rfl, rfl, rfl⟩
    case round =>
     obtain ⟨rfl, rfl, rfl⟩ := hrel
     go_wp2_with fail
     go_ret2
     exact HE.out
   ·simp only [putAll, List.map, Act.put, List.setIfInBounds_toArray, List.set_cons_succ, List.set_cons_zero, Exit.then]
    have HPOS7 := Lib.hid (show ∀ (j : Nat), j < t → ∃ (x : Nat) (b o : Nat), ad = ⟨b, o, none⟩ ∧ (∀ wr, Kp w7 wr → wr.cell? ⟨b, o + j, none⟩ = some (.int .i64 (x : Int))) ∧ ∀ wr, Kp w wr → Calls Tryz.prog 62 #[.pointer (some ⟨q, 0, none⟩), .int .i64 (x : Int)] wr fun e w' => e = .returned (.tuple #[.agg #[.int .i64 ((sq + j + 1 : Nat) : Int), .string (K.getD j default)], .bool true]) ∧ Kp wr w' from fun j hj => by
     obtain ⟨x, hx, hf⟩ := HPOS.out j (by rw [HT.out]; exact hj)
     obtain ⟨b, o, e, -, hc⟩ := HR7.out (fun e => by
      have h1 : ((posC (jkept lst)).drop k)[j]? = some (.int .i64 (x : Int)) := by rw [List.getElem?_drop]; exact hx
      rw [e] at h1; cases h1)
     injection e with e
     exact ⟨x, b, o, e, fun wr hk => hk.cell (hc j _ (by rw [List.getElem?_drop]; exact hx)) trivial, hf⟩)
    have HEND := Lib.hid (show ∀ (v : Value) (wr : World), wr.ownsRow w7.heap.size 72 2 v t (mkC sq (K.take t)) → Kp w7 wr → JSincePost w sq K (.returned (.tuple #[v, .bool true])) wr from fun v wr ho hk => by
     rw [List.take_of_length_le (by rw [HT.out]; exact Nat.le_refl _)] at ho
     obtain ⟨A, c, rfl, h1, h2⟩ := own_form2 ho
     have hm := MarksAt.of_own ho HT.out.symm
     refine ⟨A, c, by rw [HT.out], by rw [HT.out]; exact h1, h2, fun i hi => ?_, HK7.out.trans hk⟩
     obtain ⟨b, o, e, hb, c0, c1⟩ := hm i hi
     exact ⟨b, o, e, ⟨Nat.le_trans HK7.out.size hb.1, hb.2⟩, c0, c1⟩)
    have HSN := Lib.hid (show ∀ j, j < t → mkC sq (K.take (j + 1)) = mkC sq (K.take j) ++ [.int .i64 ((sq + j + 1 : Nat) : Int), .string (K.getD j default)] from fun j hj => by
     have hj2 : j < K.length := by rw [HT.out]; exact hj
     rw [List.take_succ_eq_append_getElem hj2, mkC_snoc, List.length_take, Nat.min_eq_left (by omega), List.getD_eq_getElem?_getD, List.getElem?_eq_getElem hj2]
     rfl)
    have hw7 : w.heap.size ≤ w7.heap.size := HK7.out.size
    clear HPOS HR7 HN7
    go_wp2_with fail
    go_loopw [9, 49] (fun v i wr => ∃ j : Nat, j ≤ t ∧ i = .int .i64 (j : Int) ∧ RowKit.Hid (wr.ownsRow w7.heap.size 72 2 v j (mkC sq (K.take j))) ∧ RowKit.Hid (Kp w7 wr)) (fun _ i _ => t - (intOf i).toNat)
    case atStart => exact ⟨0, Nat.zero_le _, rfl, Lib.hid (World.ownsRow_nil _ _ _ _), Lib.hid (Keeps.refl _ _)⟩
    case round =>
     obtain ⟨j, hj, rfl, hown, hkp⟩ := hrel
     obtain ⟨A2, c2, rfl, hl2, hm2⟩ := own_form2 hown.out
     unfold maxLen at hm2
     by_cases hjt : j < t
     ·have t1 : decide ((j : Int) < (t : Int)) = true := by simp; omega
      have t1' : decide (j < t) = true := by simp; omega
      obtain ⟨x, b, o, rfl, hcell, hfind⟩ := HPOS7.out j hjt
      have hcell := hcell wr hkp.out
      have HF := Lib.hid (hfind wr (HK7.out.trans hkp.out))
      have HSJ := Lib.hid (HSN.out j hjt)
      clear hfind HSN
      obtain ⟨ky, hky⟩ : ∃ ky, K.getD j default = ky := ⟨_, rfl⟩
      obtain ⟨sn, hsn⟩ : ∃ sn, sq + j + 1 = sn := ⟨_, rfl⟩
      rw [hky, hsn] at HF HSJ
      clear hky hsn
      go_wp2_with fail
      refine (show Calls _ _ _ _ _ from HF.out).mono ?_
      rintro e w3 ⟨rfl, hk3⟩
      have HK3 := Lib.hid (hkp.out.trans hk3)
      have HOW := Lib.hid (hk3.own hown.out fun _ _ => trivial)
      have hsrc := src_mark (w3.alloc (.cells #[.int .i64 (sn : Int), .string ky] 72)) (sn : Int) ky _ rfl 1 72
      rw [show (w3.alloc (.cells #[.int .i64 (sn : Int), .string ky] 72)).heap.size = w3.heap.size + 1 by simp] at hsrc
      have HSRC := Lib.hid hsrc
      have hsz3 := HK3.out.size
      clear hk3 hsrc hcell HF hown hkp
      go_wp2_with (at_builtin; refine mark_elem.list_append rfl (.tmp 61) (.tmp 63) _ rfl rfl ((HOW.out.alloc _).alloc _) rfl HSRC.out ?c3 ?c4 ?c5 ?_)
      case c3 => unfold maxLen; omega
      case c4 => omega
      case c5 => simp; omega
      intro v3 w4 ho4 hg4 hb4
      have HK4 := Lib.hid (show Kp w7 w4 from ((HK3.out.alloc _).alloc _).grown hg4 fun j hj => (HOW.out.lt j hj).1)
      have HO4 := Lib.hid (show w4.ownsRow w7.heap.size 72 2 v3 (j + 1) (mkC sq (K.take (j + 1))) from by
       rw [HSJ.out]
       exact ho4)
      clear ho4 hg4 hb4 HSRC HOW HK3
      go_wp2_with fail
      go_roundw
      case rel => exact ⟨j + 1, by omega, by go_num, HO4, HK4⟩
      case measure => simp [intOf]; omega
     ·have t1 : decide ((j : Int) < (t : Int)) = false := by simp; omega
      have t1' : decide (j < t) = false := by simp; omega
      obtain rfl : j = t := by omega
      have HE := Lib.hid (HEND.out _ wr hown.out hkp.out)
      clear hjt
      go_wp2_with fail
      go_ret2
      exact HE.out
end Go.Proofs.YticophaepapjoaaGreatDoor
