/-
  StKill, FlOpen, IxLay, IxFit, IxRep: texts of mine, joined.
-/
import Derived.Test.YticophaepapjoaaGreatDoorAllA23
import Derived.Test.YticophaepapjoaaGreatDoorAllA30
import Derived.Test.YticophaepapjoaaGreatDoorAllA25
import Derived.Test.YticophaepapjoaaGreatDoorAllA01
import Derived.Laws.OwnMore
import Derived.Test.YticophaepapjoaaGreatDoorAllA19
import Derived.Test.YticophaepapjoaaGreatDoorAllA00
namespace Go.Proofs.YticophaepapjoaaGreatDoor
open Go Go.RowKit Go.Joins
section
variable {S : FlashOK} {J : JournalOK} {W w w' : World} {p b q1 q2 k n d : Nat} {z : Sto} {X : Nat → Prop}
theorem sstarted_blk {t : Int} (h : StBlk w b q1 q2 k t) : Calls Tryz.prog 23 #[.pointer (some ⟨b, 0, none⟩)] w fun e w' => e = .returned (.int .i64 t) ∧ w = w' := by
 have c3 := h.c3
 clear h
 go_enter Tryz.func23, Tryz.ntmps23
 go_wp2_with fail
 go_ret
 exact ⟨rfl, rfl⟩
theorem sstarted_any (h : StAt S J W w p b q1 q2 k z n d X) : Calls Tryz.prog 23 #[.pointer (some ⟨b, 0, none⟩)] w fun e w' => e = .returned (.int .i64 z.boot) ∧ w = w' := by
 exact sstarted_blk h.blk
theorem so_started (h : StAt S J W w p b q1 q2 k z n d X) (m : Int) (hm : m = z.boot) : Calls Tryz.prog 23 #[.pointer (some ⟨b, 0, none⟩)] w fun e w' => e = .returned (.int .i64 m) ∧ w = w' := by
 subst hm
 exact sstarted_any h
def killed (z : Sto) (ks : List ByteArray) (g u : Nat) : Sto := ⟨⟨z.f.place, z.f.segs, z.f.ents ++ ks.map grave, g, z.f.age + ks.length + 1⟩, jadd z.j ks u, z.t, z.m, z.boot, z.c + 2000 * (ks.length + 1)⟩
set_option maxRecDepth 100000 in
set_option maxHeartbeats 1000000 in
theorem so_kill (hS : S.T W) (hJ : J.T W) (h : StAt S J W w p b q1 q2 k z n d X) (h1 : z.f.age ≤ 20000) (h2 : z.j.age ≤ 20000) (hc : z.c ≤ 300000000000) (A : Option Addr) (ks : List ByteArray) (hrow : Row w A X (ks.map Value.string)) (c m : Nat) (hn : m = ks.length) (hcc : m ≤ c) (hcm : c ≤ maxLen) (hl : m ≤ 1000) (hok : ∀ k ∈ ks, keyOk k) (y : Int) (hy : y = ((z.j.keys.length + ks.length : Nat) : Int)) :
  Calls Tryz.prog 18 #[.pointer (some ⟨b, 0, none⟩), .slice A m c] w fun e w' => e = .returned (.tuple #[.int .i64 y, .int .i64 0]) ∧ ∃ g u, z.f.gone ≤ g ∧ z.j.base ≤ u ∧ StAt S J W w' p b q1 q2 k (killed z ks g u) n 2 X ∧ Keeps X w w' := by
 have HB := h.blk
 have c0 := HB.c0
 have c1 := HB.c1
 have HA := Lib.hid (so_add hJ h h2 (by omega) A ks hrow c m hn hcc hcm hl hok y hy)
 have HD := Lib.hid (show ∀ w1 u, StAt S J W w1 p b q1 q2 k ⟨z.f, jadd z.j ks u, z.t, z.m, z.boot, z.c + 1000 * (ks.length + 1)⟩ n 3 X → Keeps X w w1 → _ from fun w1 u h3 hk => so_drop hS h3 h1 (by show z.c + 1000 * (ks.length + 1) ≤ _; omega) A ks (hrow.keep hk) c m hn hcc hcm hl hok)
 clear h HB h1 h2 hc hrow hn hcc hok hy hS hJ
 unfold maxLen at hcm
 go_enter Tryz.func18, Tryz.ntmps18
 go_wp2_with fail
 refine (show Calls _ _ _ _ _ from HA.out).mono ?_
 rintro e w1 ⟨rfl, u, hu, h3, hk1⟩
 have c0' := h3.blk.c0
 have HD1 := Lib.hid (HD.out w1 u h3 hk1)
 have HU := Lib.hid hu
 have HK := Lib.hid hk1
 clear c0 c1 HA HD h3 hk1 hu
 go_wp2_with fail
 refine (show Calls _ _ _ _ _ from HD1.out).mono ?_
 rintro e w2 ⟨rfl, g, hg, h4, hk2⟩
 have HE := Lib.hid (show ∃ g u, z.f.gone ≤ g ∧ z.j.base ≤ u ∧ StAt S J W w2 p b q1 q2 k (killed z ks g u) n 2 X ∧ Keeps X w w2 from ⟨g, u, hg, HU.out, by
  have e : z.c + 1000 * (ks.length + 1) + 1000 * (ks.length + 1) = z.c + 2000 * (ks.length + 1) := by omega
  unfold killed
  rw [← e]
  exact h4, HK.out.trans hk2⟩)
 clear hg h4 hk2 HU HK HD1 c0'
 go_wp2_with fail
 go_ret2
 exact ⟨rfl, HE.out⟩
end
structure Lt (S : Slog2) (I : IndexOK) (w wa wb wr : World) (p q lq : Nat) (Fl : Foot) (lst : LSt) (s : SDev) (l : List FRec) (j : Nat) : Prop where
 ex : ∃ (iq : Nat) (Fi : Foot) (ix : IxSt), CAt S I wr p q lq iq Fl Fi 1 lst ix s ∧ IxSays ix (l.take j) j ∧ (∀ b, Fi.all b → w.heap.size ≤ b) ∧ ∀ b, Fi.all b → b < wa.heap.size ∨ wb.heap.size ≤ b
 kp : Kp w wr
 sz : wb.heap.size ≤ wr.heap.size
section
variable {S : Slog2} {I : IndexOK} {w wa wb wr w2 w3 : World} {p q lq : Nat} {Fl : Foot} {lst : LSt} {s : SDev} {l : List FRec} {j : Nat}
theorem Lt.keep (h : Lt S I w wa wb wr p q lq Fl lst s l j) (hk : Kp wr w2) : Lt S I w wa wb w2 p q lq Fl lst s l j := by
 obtain ⟨iq, Fi, ix, hc, hx, h1, h2⟩ := h.ex
 exact ⟨⟨iq, Fi, ix, hc.kp hk, hx, h1, h2⟩, h.kp.trans hk, Nat.le_trans h.sz hk.size⟩
theorem Lt.step (J : ItemOK) (hIT : I.T w) (hJT : J.T w) (hq : w.heap.size ≤ q) (hqa : q < wa.heap.size) (h : Lt S I w wa wb wr p q lq Fl lst s l j) (hj : j < l.length) (hjs : j ≤ 32768) (hm : ∀ x, l[j].2 = some x → x.may = true) (hpo : l[j].1 < 9223372036854775808) (A : Option Addr) (m c : Nat) (hr : Row wr A (fun _ => True) (bcells (bodyO l[j].2))) (hml : m = (bodyO l[j].2).length) (hmc : m ≤ c) (hcm : c ≤ maxLen) :
  Calls Tryz.prog 72 #[.pointer (some ⟨q, 0, none⟩), .int .i64 (l[j].1 : Int), .slice A m c] wr fun e w' => e = .returned (.tuple #[]) ∧ Lt S I w wa wb w' p q lq Fl lst s l (j + 1) ∧ Keeps (fun b => wa.heap.size ≤ b ∧ b < wb.heap.size) wr w' := by
 obtain ⟨iq, Fi, ix, hc, hx, h1, h2⟩ := h.ex
 have hsz := h.sz
 have hsz2 := h.kp.size
 refine (clearn S I J w wr hIT (J.tk hJT h.kp) p q lq iq Fl Fi 1 lst ix s hc h.kp h1 (l.take j) j hx hjs l[j] hm hpo A m c hr hml hmc hcm).mono ?_
 rintro e w' ⟨rfl, iq', Fi', ix', hc', hx', hl⟩
 have hsz' := hl.k.size
 have all' : ∀ b, Fi'.all b → Fi.all b ∨ wr.heap.size ≤ b := fun b hb => by
  rcases hb with hb | hb
  ·rcases hl.m b hb with h1 | h1
   ·exact .inl (.inl h1)
   ·exact .inr h1
  ·exact hl.i b hb
 refine ⟨rfl, ⟨⟨iq', Fi', ix', hc', ?_, fun b hb => ?_, fun b hb => ?_⟩, ⟨hl.k.os.trans h.kp.os, hl.k.tape.trans h.kp.tape, hl.k.output.trans h.kp.output, Nat.le_trans hsz2 hsz', fun b _ hb => ?_⟩, Nat.le_trans hsz hsz'⟩, hl.k.mono fun b _ hb => ⟨fun e => by omega, fun hm => ?_⟩⟩
 ·rw [List.take_succ_eq_append_getElem hj]; exact hx'
 ·rcases all' b hb with h3 | h3
  ·exact h1 b h3
  ·omega
 ·rcases all' b hb with h3 | h3
  ·exact h2 b h3
  ·omega
 ·exact (hl.k.block b ⟨fun e => by omega, fun hm => by have := h1 b (.inl hm); omega⟩ (Nat.lt_of_lt_of_le hb hsz2)).trans (h.kp.block b trivial hb)
 ·rcases h2 b (.inl hm) with h3 | h3
  ·omega
  ·omega
end
def FOpenPost (S : Slog2) (I : IndexOK) (w : World) (p : Nat) (s : SDev) (st : FSt) (e : Ending) (w' : World) : Prop :=
 ∃ (q : Nat) (Fs : Foot), e = .returned (.tuple #[.pointer (some ⟨q, 0, none⟩), .int .i64 0]) ∧ flashRep S I w' p q Fs st s ∧ (∀ b, Fs.all b → w.heap.size ≤ b) ∧ Kp w w'
set_option maxRecDepth 100000 in
set_option maxHeartbeats 2000000 in
theorem copen (S : Slog2) (I : IndexOK) (J : ItemOK) (w : World) (hT : S.T w ∧ I.T w ∧ J.T w) (p : Nat) (F : Foot) (s : SDev) (st : FSt) (hd : DAt w p F s) (i n : Nat) (hroom : st.place + 8 * st.segs ≤ s.now.length) (hage : st.age ≤ 30000)
  (hop : Calls Tryz.prog 96 #[.pointer (some ⟨p, 0, none⟩), .int .i64 i, .int .i64 n] w fun e w' => ∃ (lq : Nat) (Fl : Foot) (lst : LSt) (hs : List FRec), e = .returned (.tuple #[.pointer (some ⟨lq, 0, none⟩), .int .i64 0]) ∧ S.rep w' lq Fl lst s ∧ lst.dev = p ∧ FM st lst hs ∧ (∀ b, Fl.all b → w.heap.size ≤ b) ∧ Kp w w') :
  Calls Tryz.prog 67 #[.pointer (some ⟨p, 0, none⟩), .int .i64 i, .int .i64 n] w (FOpenPost S I w p s st) := by
 have HOP := Lib.hid hop
 have HD := Lib.hid hd
 clear hop hd
 go_enter Tryz.func67, Tryz.ntmps67
 go_wp2_with fail
 refine (show Calls _ _ _ _ _ from HOP.out).mono ?_
 rintro e w1 ⟨lq, Fl, lst, hs, rfl, hrep, hon, hm, hFl, hk1⟩
 have HNEW := Lib.hid (I.new w1 (I.tk hT.2.1 hk1))
 have HREP := Lib.hid hrep
 have HM := Lib.hid hm
 have HFL := Lib.hid hFl
 have HK1 := Lib.hid hk1
 have HON := Lib.hid hon
 clear hrep hm hFl hk1 hon
 go_wp2_with fail
 refine (show Calls _ _ _ _ _ from HNEW.out).mono ?_
 rintro e w2 ⟨iq, Fi, rfl, hi, hFi, hk2⟩
 have HI := Lib.hid hi
 have HFI := Lib.hid hFi
 have HK2 := Lib.hid hk2
 clear hi hFi hk2
 go_wp2_with fail
 obtain ⟨wa, hwa⟩ : ∃ wa, w2.alloc (.cells #[.pointer (some ⟨lq, 0, none⟩), .pointer (some ⟨iq, 0, none⟩), .int .i64 1] 92) = wa := ⟨_, rfl⟩
 have hba : CBlk wa w2.heap.size lq iq 1 := by rw [← hwa]; exact heap_alloc_new w2 _
 have hka : Kp w2 wa := by rw [← hwa]; exact (Keeps.refl _ w2).alloc _
 have hza : wa.heap.size = w2.heap.size + 1 := by rw [← hwa]; simp
 have hz1 := HK1.out.size
 have hz2 := HK2.out.size
 have hk2a := HK2.out.trans hka
 have HWA := Lib.hid hwa
 have HALL := Lib.hid (S.all2 wa p lq F Fl s lst (HD.out.keep ((HK1.out.trans hk2a).mono fun _ _ _ => trivial)) (S.keep HREP.out (hk2a.mono fun _ _ _ => trivial)) HON.out (S.tk hT.1 (HK1.out.trans hk2a)) (by rw [HM.out.place, HM.out.segs]; exact hroom))
 have hL0 := S.lt HREP.out
 have HC0 := Lib.hid (show CAt S I wa p w2.heap.size lq iq Fl Fi 1 lst [] s from
  ⟨hba, S.keep HREP.out (hk2a.mono fun _ _ _ => trivial), I.keep HI.out (hka.mono fun _ _ _ => trivial), HON.out, ⟨fun b hb hf => by have := HFI.out b hf; have := hL0 b (.inl hb); omega, fun b hb hf => by have := HFI.out b (.inl hb); have := hL0 b hf; omega⟩, fun hf => by have := hL0 _ hf; omega, fun hf => by have := I.lt HI.out _ hf; omega⟩)
 have hiz := fun b hb => I.lt HI.out b hb
 have HQ := Lib.hid (show w.heap.size ≤ w2.heap.size ∧ w2.heap.size < wa.heap.size from ⟨by omega, by omega⟩)
 have HFI2 := Lib.hid (show ∀ b, Fi.all b → w.heap.size ≤ b ∧ b < wa.heap.size from fun b hb => ⟨by have := HFI.out b hb; omega, by have := hiz b hb; omega⟩)
 have HKA := Lib.hid (HK1.out.trans hk2a)
 have HPOS := Lib.hid (show ∀ a ∈ hs, a.1 < 9223372036854775808 from fun a ha => by
  have hok := S.wf HREP.out
  have : a.1 ∈ hs.map (·.1) := List.mem_map.2 ⟨a, ha, rfl⟩
  rw [← HM.out.pos] at this
  obtain ⟨r, hr, e⟩ := List.mem_map.1 this
  have h1 := hok.next.2 r hr
  have h2 := hok.small
  rw [← e]
  omega)
 obtain ⟨L, hL⟩ : ∃ L, hs.drop lst.gone = L := ⟨_, rfl⟩
 have HL := Lib.hid hL
 have HRC := Lib.hid (show lst.recs = L.map frk from by rw [HM.out.recs, hL])
 have HLM := Lib.hid (show L.length ≤ st.age from by
  have h1 := HM.out.len
  have h2 := HM.out.age
  rw [← hL, List.length_drop]
  omega)
 have HLS := Lib.hid (show ∀ a ∈ L, a ∈ hs from fun a ha => by rw [← hL] at ha; exact List.mem_of_mem_drop ha)
 clear hwa hba hka hza hz1 hz2 hk2a hL0 hiz hL HK1 HK2 HI HFI
 go_wp2_with (rw [HWA.out])
 try rw [HWA.out]
 refine (show Calls _ _ _ _ _ from HALL.out).mono ?_
 rintro e wb ⟨A, c, rfl, hmc, hcm, hrc, hkb⟩
 rw [HRC.out] at hrc
 obtain ⟨m, hlm⟩ : ∃ m, lst.recs.length = m := ⟨_, rfl⟩
 rw [hlm] at hmc ⊢
 have hLm : L.length = m := by rw [← hlm, HRC.out, List.length_map]
 have HLEN := Lib.hid hLm
 have HKB := Lib.hid hkb
 have HREC := Lib.hid (show ∀ (j : Nat) (hj : j < L.length), ∃ b o, A = some ⟨b, o, none⟩ ∧ ∀ wr, Keeps (fun b => wa.heap.size ≤ b ∧ b < wb.heap.size) wb wr → wr.cell? ⟨b, o + j * 2, none⟩ = some (.int .i64 ((L[j].1 : Nat) : Int)) ∧ ∃ B mm c, wr.cell? ⟨b, o + j * 2 + 1, none⟩ = some (.slice B mm c) ∧ mm = (bodyO L[j].2).length ∧ mm ≤ c ∧ c ≤ maxLen ∧ Row wr B (fun _ => True) (bcells (bodyO L[j].2)) from fun j hj => by
  have hne : L.map frk ≠ [] := fun e => by have := congrArg List.length e; simp at this; rw [this] at hj; simp at hj
  obtain ⟨b, o, e, hG, hc⟩ := hrc hne
  refine ⟨b, o, e, fun wr hk => ?_⟩
  obtain ⟨c0, B, cc, c1, h1, h2, h3⟩ := hc j (by rw [List.length_map]; exact hj)
  rw [List.getElem_map] at c0 c1 h1 h3
  exact ⟨hk.cell c0 hG, B, _, cc, hk.cell c1 hG, rfl, h1, h2, (h3.keep hk).mono fun _ _ _ => trivial⟩)
 have hmage : m ≤ 30000 := by have := HLM.out; omega
 unfold maxLen at hcm
 clear hlm hLm hrc hkb
 have HST := Lib.hid (show Lt S I w wa wb wb p w2.heap.size lq Fl lst s L 0 from
  ⟨⟨iq, Fi, [], HC0.out.kp HKB.out, IxSays.nil, fun b hb => (HFI2.out b hb).1, fun b hb => .inl (HFI2.out b hb).2⟩, HKA.out.trans HKB.out, Nat.le_refl _⟩)
 have HEND := Lib.hid (show ∀ wr, Lt S I w wa wb wr p w2.heap.size lq Fl lst s L m → FOpenPost S I w p s st (.returned (.tuple #[.pointer (some ⟨w2.heap.size, 0, none⟩), .int .i64 0])) wr from fun wr h => by
  obtain ⟨iq', Fi', ix', hc, hx, h1, h2⟩ := h.ex
  rw [List.take_of_length_le (by rw [HLEN.out]; exact Nat.le_refl _), ← HL.out] at hx
  exact ⟨w2.heap.size, cfoot w2.heap.size Fl Fi', rfl, ⟨lq, iq', Fl, Fi', 1, lst, ix', hs, rfl, hc, HM.out, hx.more (by rw [← HLEN.out]; exact HLM.out)⟩, fun b hb => by
   rcases cfoot_all.1 hb with rfl | hb | hb
   ·exact HQ.out.1
   ·exact HFL.out b hb
   ·exact h1 b hb, h.kp⟩)
 have HMAY := Lib.hid (show ∀ (j : Nat) (hj : j < L.length) x, L[j].2 = some x → x.may = true from fun j hj x hx => HM.out.may L[j].1 x (HLS.out _ (by rw [← hx]; exact List.getElem_mem hj)))
 have HPO := Lib.hid (show ∀ (j : Nat) (hj : j < L.length), L[j].1 < 9223372036854775808 from fun j hj => HPOS.out _ (HLS.out _ (List.getElem_mem hj)))
 clear HALL HC0 HFI2 HKA HPOS HRC HLS HREP HFL HNEW HOP
 obtain ⟨q, hq⟩ : ∃ q, w2.heap.size = q := ⟨_, rfl⟩
 rw [hq] at HST HEND HQ ⊢
 clear hq
 go_wp2_with fail
 go_loopw [30] (fun i wr => ∃ j, j ≤ m ∧ i = .int .i64 j ∧ RowKit.Hid (Lt S I w wa wb wr p q lq Fl lst s L j) ∧ RowKit.Hid (Keeps (fun b => wa.heap.size ≤ b ∧ b < wb.heap.size) wb wr)) (fun i _ => m - (intOf i).toNat)
 case atStart => exact ⟨0, Nat.zero_le _, rfl, HST, Lib.hid (Keeps.refl _ _)⟩
 case round =>
  obtain ⟨j, hj, rfl, hlt, hkg⟩ := hrel
  by_cases hjm : j < m
  ·have t1 : decide ((j : Int) < (m : Int)) = true := by simp; omega
   have hjl : j < L.length := by rw [HLEN.out]; exact hjm
   obtain ⟨b, o, rfl, hrow⟩ := HREC.out j hjl
   obtain ⟨c0, B, mm, cc, c1, hmm, hmc2, hcc2, hr⟩ := hrow wr hkg.out
   have HKW := Lib.hid (show Kp wr (wr.alloc (.cells #[.int .i64 ((L[j].1 : Nat) : Int), .slice B mm cc] 172)) from (Keeps.refl _ wr).alloc _)
   have HLN := Lib.hid ((hlt.out.keep HKW.out).step J hT.2.1 hT.2.2 HQ.out.1 HQ.out.2 hjl (by omega) (HMAY.out j hjl) (HPO.out j hjl) B mm cc (hr.keep HKW.out) hmm hmc2 hcc2)
   clear hmm hmc2 hcc2 hr hrow
   generalize L[j].1 = po at c0 HKW HLN
   go_wp2_with fail
   refine (show Calls _ _ _ _ _ from HLN.out).mono ?_
   rintro e w4 ⟨rfl, hl4, hk4⟩
   have HL4 := Lib.hid hl4
   have HK4 := Lib.hid (hkg.out.trans ((HKW.out.mono fun _ _ _ => trivial).trans hk4))
   clear hl4 hk4 HLN c0 c1
   go_wp2_with fail
   go_roundw
   case rel => exact ⟨j + 1, by omega, by go_num, HL4, HK4⟩
   case measure => simp [intOf]; omega
  ·have t1 : decide ((j : Int) < (m : Int)) = false := by simp; omega
   obtain rfl : j = m := by omega
   have HE := Lib.hid (HEND.out wr hlt.out)
   clear hjm
   go_wp2_with fail
   go_ret2
   exact HE.out
def SlsAt (w : World) (B : Option Addr) (G : Nat → Prop) (l : List Sl) : Prop := ∀ k (h : k < l.length), ∃ b o, B = some ⟨b, o, none⟩ ∧ G b ∧ w.cell? ⟨b, o + k * 4, none⟩ = some (.string l[k].key) ∧
 w.cell? ⟨b, o + k * 4 + 1, none⟩ = some (.int .u64 l[k].hash) ∧ w.cell? ⟨b, o + k * 4 + 2, none⟩ = some (.int .i64 l[k].pos) ∧ w.cell? ⟨b, o + k * 4 + 3, none⟩ = some (.bool l[k].full)
theorem slC_at (l : List Sl) (j i : Nat) (hj : j < l.length) (hi : i < 4) : (slC l)[j * 4 + i]? = (l[j].cells)[i]? := by
 induction l generalizing j with
 | nil => simp at hj
 | cons r l ih =>
  have e : slC (r :: l) = r.cells ++ slC l := by simp [slC]
  rw [e]
  cases j with
  | zero =>
   rw [Nat.zero_mul, Nat.zero_add, List.getElem?_append_left (by show i < 4; exact hi)]
   rfl
  | succ j =>
   rw [List.getElem?_append_right (by show 4 ≤ _; omega), show (j + 1) * 4 + i - r.cells.length = j * 4 + i by show (j + 1) * 4 + i - 4 = _; omega, ih j (by simpa using hj)]
   rfl
section
variable {w w' : World} {B : Option Addr} {F G : Nat → Prop} {l : List Sl}
theorem SlsAt.keep (h : SlsAt w B F l) (hk : Keeps F w w') : SlsAt w' B F l := fun k hl => by
 obtain ⟨b, o, e, hF, c0, c1, c2, c3⟩ := h k hl
 exact ⟨b, o, e, hF, hk.cell c0 hF, hk.cell c1 hF, hk.cell c2 hF, hk.cell c3 hF⟩
theorem SlsAt.mono (h : SlsAt w B F l) (hF : ∀ b, b < w.heap.size → F b → G b) : SlsAt w B G l := fun k hl => by
 obtain ⟨b, o, e, hFb, c0, c1, c2, c3⟩ := h k hl
 exact ⟨b, o, e, hF b (World.block_lt_of_cell? w _ c0) hFb, c0, c1, c2, c3⟩
theorem SlsAt.of_own {base n c : Nat} {e : TypeId} (h : w.ownsRow base e 4 (.slice B n c) n (slC l)) (hn : n = l.length) : SlsAt w B (fun b => base ≤ b ∧ b < w.heap.size) l := by
 intro k hk
 obtain ⟨g, cap, e, hb, -⟩ := h.form (by omega)
 injection e with e1 e2 e3
 subst e1
 have hc := h.cells (g := g) rfl
 have cell : ∀ i v, i < 4 → (l[k].cells)[i]? = some v → w.cell? ⟨g, 0 + k * 4 + i, none⟩ = some v := fun i v hi hv => by
  have := hc (k * 4 + i) v (by rw [slC_at l k i hk hi]; exact hv)
  rw [WideShapes.add_plain] at this
  rw [Nat.add_assoc]; exact this
 exact ⟨g, 0, rfl, h.lt g rfl, by simpa using cell 0 _ (by decide) rfl, cell 1 _ (by decide) rfl, cell 2 _ (by decide) rfl, cell 3 _ (by decide) rfl⟩
end
def tabC (T : Tab) (n : Nat) : List Value := (List.range (n * 4)).map (tabV T)
theorem TabAt.of_own {w : World} {base n g : Nat} {e : TypeId} {T : Tab} (h : w.ownsRow base e 4 (.slice (some ⟨g, 0, none⟩) n n) n (tabC T n)) (_hn : 0 < n) : TabAt w g n T ∧ base ≤ g := by
 have hc := h.cells (g := g) rfl
 have hb := h.lt g rfl
 refine ⟨⟨fun m hm => ?_, fun m => h.frozenAt m, hb.2⟩, hb.1⟩
 have := hc m (tabV T m) (by unfold tabC; rw [List.getElem?_map, List.getElem?_range (by omega)]; rfl)
 rw [WideShapes.add_plain, Nat.zero_add] at this
 exact this
theorem made_tab (n : Nat) : (madeCells (Value.agg #[.string ⟨#[]⟩, .int .u64 0, .int .i64 0, .bool false]).cells (n * 4)).toList = tabC (fun _ => Sl.zero) n := by
 unfold madeCells tabC
 rw [Array.toList_map, Array.toList_range]
 refine List.map_congr_left fun i _ => ?_
 have hz : (Value.agg #[.string ⟨#[]⟩, .int .u64 0, .int .i64 0, .bool false]).cells = #[.string ⟨#[]⟩, .int .u64 0, .int .i64 0, .bool false] := rfl
 rw [hz]
 have e : (#[.string ⟨#[]⟩, .int .u64 0, .int .i64 0, .bool false] : Array Value).size = 4 := rfl
 rw [e]
 unfold tabV
 have h4 : i % 4 = 0 ∨ i % 4 = 1 ∨ i % 4 = 2 ∨ i % 4 = 3 := by omega
 rcases h4 with h | h | h | h <;> rw [h] <;> rfl
def kv (s : Sl) : ByteArray × Int := (s.key, s.pos)
theorem tab_zero (n : Nat) (h : 0 < n) : TabOk hashN (fun _ => Sl.zero) n [] := by
 have e : ents (fun _ => Sl.zero) n = [] := by
  unfold ents
  rw [List.flatMap_eq_nil_iff]
  intro i _
  rfl
 exact ⟨by rw [e], by simp, fun i _ hf => absurd (show false = true from hf) (by decide), fun i _ hf => absurd (show false = true from hf) (by decide), h⟩
theorem kv_take (l : List Sl) (j : Nat) (hj : j < l.length) : (l.take (j + 1)).map kv = (l.take j).map kv ++ [(l[j].key, l[j].pos)] := by
 rw [List.take_succ_eq_append_getElem hj, List.map_append]; rfl
theorem kv_none {l : List Sl} (hnd : ((l.map kv).map (·.1)).Nodup) {j : Nat} (hj : j < l.length) : ixGet ((l.take j).map kv) l[j].key = none := by
 rw [ixGet_none]
 intro x hx e
 obtain ⟨s, hs, rfl⟩ := List.mem_map.1 hx
 obtain ⟨i, hi, rfl⟩ := List.getElem_of_mem hs
 rw [List.length_take] at hi
 rw [List.getElem_take] at e
 have e : (l[i]'(by omega)).key = l[j].key := e
 rw [List.map_map] at hnd
 have h2 := List.pairwise_iff_getElem.1 hnd i j (by rw [List.length_map]; omega) (by rw [List.length_map]; exact hj) (by omega)
 rw [List.getElem_map, List.getElem_map] at h2
 exact h2 e
set_option maxRecDepth 100000 in
set_option maxHeartbeats 1000000 in
theorem lay_any (w : World) (q : Nat) (V : Value) (c : Nat) (hI : IxBlk w q V c) (B : Option Addr) (k : Nat) (l : List Sl) (hl : SlsAt w B (fun b => b ≠ q) l) (hn : l.length ≤ 68719476736) (hok : ∀ s ∈ l, s.full = true ∧ s.hash = (hashN s.key : Int)) (hnd : ((l.map kv).map (·.1)).Nodup) :
  Calls Tryz.prog 109 #[.pointer (some ⟨q, 0, none⟩), .slice B l.length k] w fun e w' => e = .returned (.tuple #[]) ∧ ∃ (g n : Nat) (T : Tab), IxAt w' q g n l.length T ∧ TabOk hashN T n (l.map kv) ∧ 2 * (l.length + 1) ≤ n ∧ (n = 8 ∨ n < 4 * (l.length + 1)) ∧ w.heap.size ≤ g ∧ Keeps (fun b => b ≠ q) w w' := by
 have HI := Lib.hid hI
 have HL := Lib.hid hl
 have HOK := Lib.hid hok
 have HND := Lib.hid hnd
 obtain ⟨m, hm⟩ : ∃ m, l.length = m := ⟨_, rfl⟩
 have HM := Lib.hid hm
 rw [hm] at hn ⊢
 clear hI hl hok hnd hm
 go_enter Tryz.func109, Tryz.ntmps109
 go_wp2_with fail
 go_loopw [4] (fun i wr => ∃ n : Nat, i = .int .i64 (n : Int) ∧ 8 ≤ n ∧ (n = 8 ∨ n < 4 * (m + 1)) ∧ wr = w) (fun i _ => 4 * (m + 1) + 8 - (intOf i).toNat)
 case atStart => exact ⟨8, rfl, Nat.le_refl _, .inl rfl, rfl⟩
 case round =>
  obtain ⟨n, rfl, h8, hnn, rfl⟩ := hrel
  by_cases hlt : n < 2 * (m + 1)
  ·have hlt' : (n : Int) < 2 * ((m : Int) + 1) := by omega
   go_wp2_with fail
   go_roundw
   case rel => exact ⟨n * 2, by go_num, by omega, by omega, trivial⟩
   case measure => simp [intOf]; omega
  ·have hlt' : ¬ (n : Int) < 2 * ((m : Int) + 1) := by omega
   obtain ⟨W, rfl⟩ : ∃ W, W = wr := ⟨wr, rfl⟩
   have c0 := HI.out.c0
   have c1 := HI.out.c1
   have ff := HI.out.f0
   go_wp2_with (refine list_make rfl (.tmp 16) (.tmp 16) 127 rfl slot_elem .i64 .i64 n rfl rfl (by omega) (by unfold maxLen; omega) (tabC (fun _ => Sl.zero) n) (made_tab n) ?_)
   intro w1 hown hg
   have hn0 : 0 < n := by omega
   obtain ⟨hta, -⟩ := TabAt.of_own hown hn0
   have hk1 : Kp W w1 := Keeps.of_grown hg fun _ h => by cases h
   have HI1 := Lib.hid (HI.out.keep hk1 trivial)
   have HTA := Lib.hid hta
   have HK1 := Lib.hid hk1
   have hq := HI.out.lt
   have hsz : W.heap.size < w1.heap.size := hta.lt
   have hq1 : q < w1.heap.size := by omega
   have d0 := HI1.out.c0
   have d1 := HI1.out.c1
   have f1 := HI1.out.f0
   clear hta hk1 hown hg c0 c1 ff
   go_wp2_with fail
   have hfin : IxAt ((w1.setCell ⟨q, 0, none⟩ (.slice (some ⟨W.heap.size, 0, none⟩) n n)).setCell ⟨q, 1, none⟩ (.int .i64 0)) q W.heap.size n 0 (fun _ => Sl.zero) :=
    ⟨(HI1.out.set0 _).set1 0, HTA.out.keep (((Keeps.refl (fun b => b ≠ q) w1).setCell (p := ⟨q, 0, none⟩) (.inr fun e => e rfl) _).setCell (p := ⟨q, 1, none⟩) (.inr fun e => e rfl) _) (by omega), by omega⟩
   have hkp : Keeps (fun b => b ≠ q) W ((w1.setCell ⟨q, 0, none⟩ (.slice (some ⟨W.heap.size, 0, none⟩) n n)).setCell ⟨q, 1, none⟩ (.int .i64 0)) :=
    (((HK1.out.mono fun _ _ _ => trivial).setCell (p := ⟨q, 0, none⟩) (.inr fun e => e rfl) _).setCell (p := ⟨q, 1, none⟩) (.inr fun e => e rfl) _)
   have HF := Lib.hid hfin
   have HKP := Lib.hid hkp
   clear hfin hkp HI1 HTA HK1 d0 d1 f1
   generalize ((w1.setCell ⟨q, 0, none⟩ (.slice (some ⟨W.heap.size, 0, none⟩) n n)).setCell ⟨q, 1, none⟩ (.int .i64 0)) = w2 at HF HKP ⊢
   go_loopw [25] (fun i wr => ∃ (j : Nat) (T : Tab), j ≤ m ∧ i = .int .i64 (j : Int) ∧ Hid (IxAt wr q W.heap.size n j T) ∧ Hid (TabOk hashN T n ((l.take j).map kv)) ∧ Hid (Keeps (fun b => b ≠ q) W wr)) (fun i _ => m - (intOf i).toNat)
   case atStart => exact ⟨0, _, Nat.zero_le _, rfl, HF, Lib.hid (tab_zero n hn0), HKP⟩
   case round =>
    clear HF HKP
    obtain ⟨j, T, hj, rfl, HA, HT, HK⟩ := hrel
    by_cases hjm : j < m
    ·have hjm' : (j : Int) < (m : Int) := by omega
     have hjl : j < l.length := by rw [HM.out]; exact hjm
     have HS3 := Lib.hid ((HL.out.mono (G := fun b => b ≠ q) fun _ _ h => h).keep HK.out)
     obtain ⟨b, o, rfl, hbq, t0, t1, t2, t3⟩ := HS3.out j hjl
     obtain ⟨hs1, hs2⟩ := HOK.out _ (List.getElem_mem hjl)
     rw [hs1] at t3
     rw [hs2] at t1
     have HN := Lib.hid (kv_none HND.out hjl)
     have HTK := Lib.hid (kv_take l j hjl)
     generalize l[j].key = K at t0 t1 HN HTK
     generalize l[j].pos = P at t2 HTK
     have HADD := Lib.hid (fun (w4 : World) (h : Kp wr w4) => add_any w4 q W.heap.size n j T _ (HA.out.keep h trivial trivial) HT.out (by omega) (by omega) K P HN.out (by rw [List.length_map, List.length_take, HM.out]; omega))
     clear hs1 hs2
     go_wp2_with fail
     refine (show Calls _ _ _ _ _ from HADD.out _ ((Keeps.refl _ wr).alloc _)).mono ?_
     rintro e w5 ⟨rfl, T', hA5, hT5, hk5⟩
     have HT5 := Lib.hid (show TabOk hashN T' n ((l.take (j + 1)).map kv) from by rw [HTK.out]; exact hT5)
     have HK5 := Lib.hid (show Keeps (fun b => b ≠ q) W w5 from by
      refine ⟨hk5.os.trans HK.out.os, hk5.tape.trans HK.out.tape, hk5.output.trans HK.out.output, ?_, fun b hb hlt => ?_⟩
      ·have h1 := HK.out.size
       have h2 := hk5.size
       simp at h2
       omega
      ·have h1 := HK.out.size
       have hlt3 : b < wr.heap.size := Nat.lt_of_lt_of_le hlt h1
       refine (hk5.block b ⟨hb, by omega⟩ (by simp; omega)).trans ?_
       exact (Below.heap_alloc wr _ b hlt3).trans (HK.out.block b hb hlt))
     have HA5 := Lib.hid hA5
     clear hA5 hT5 hk5 HADD
     go_wp2_with fail
     go_roundw
     case rel => exact ⟨j + 1, T', hjm, by go_num, HA5, HT5, HK5⟩
     case measure => simp [intOf]; omega
    ·obtain rfl : m = j := by omega
     have hjm' : ¬ (m : Int) < (m : Int) := by omega
     go_wp2_with fail
     go_end0
     have e : l.take m = l := by rw [← HM.out]; exact List.take_length
     have h := HT.out
     rw [e] at h
     exact ⟨rfl, _, n, T, HA.out, h, by omega, hnn, Nat.le_refl _, HK.out⟩
theorem from_below (T : Tab) (p : Int) (n : Nat) : (fromL T p n).map kv = ixBelow (ents T n) p := by
 induction n with
 | zero => rfl
 | succ n ih =>
  rw [fromL_succ, List.map_append, ih, ents_succ]
  unfold ixBelow
  rw [List.filter_append]
  congr 1
  unfold ent
  cases (T n).full
  ·simp
  ·by_cases h : p ≤ (T n).pos <;> simp [h, kv]
theorem from_ok {T : Tab} {n : Nat} {st : IxSt} (H : TabOk hashN T n st) (p : Int) : (∀ s ∈ fromL T p n, s.full = true ∧ s.hash = (hashN s.key : Int)) ∧ (((fromL T p n).map kv).map (·.1)).Nodup ∧ ((fromL T p n).map kv).Perm (ixBelow st p) := by
 refine ⟨fun s hs => ?_, ?_, ?_⟩
 ·unfold fromL at hs
  obtain ⟨h1, h2⟩ := List.mem_filter.1 hs
  obtain ⟨i, hi, rfl⟩ := List.mem_map.1 h1
  rw [Bool.and_eq_true] at h2
  exact ⟨h2.1, H.hash i (List.mem_range.1 hi) h2.1⟩
 ·rw [from_below]; exact ixBelow_nodup H.nde
 ·rw [from_below]; exact ixBelow_perm H.perm
theorem below_all {st : IxSt} {p : Int} (h : ∀ x ∈ st, p ≤ x.2) : ixBelow st p = st := by
 unfold ixBelow
 rw [List.filter_eq_self]
 intro x hx
 exact decide_eq_true (h x hx)
theorem tab_nil {T : Tab} {p : Int} : fromL T p 0 = [] := rfl
set_option maxRecDepth 100000 in
set_option maxHeartbeats 1000000 in
theorem fit_any (w : World) (q : Nat) (A : Option Addr) (n c : Nat) (T : Tab) (st : IxSt) (hI : IxS w q A n c T) (hT : 0 < n → TabOk hashN T n st) (hz : n = 0 → st = []) (hc : c = st.length) (hi : ∀ x ∈ st, i64 x.2) (hn : n ≤ 1099511627776) (hcn : c ≤ 68719476736) :
  Calls Tryz.prog 139 #[.pointer (some ⟨q, 0, none⟩)] w fun e w' => e = .returned (.tuple #[]) ∧ ∃ (g n' : Nat) (T' : Tab), IxAt w' q g n' c T' ∧ TabOk hashN T' n' st ∧ c + 1 < n' ∧ n' ≤ 8 * (c + 1) ∧ (A = some ⟨g, 0, none⟩ ∨ w.heap.size ≤ g) ∧ Keeps (fun b => b ≠ q) w w' := by
 have HI := Lib.hid hI
 have c0 := hI.blk.c0
 have c1 := hI.blk.c1
 obtain ⟨a, ha⟩ : ∃ a, n / 4 = a := ⟨_, rfl⟩
 obtain ⟨b, hb⟩ : ∃ b, n / 8 = b := ⟨_, rfl⟩
 have qa : (n : Int) / 4 = (a : Int) := by omega
 have qb : (n : Int) / 8 = (b : Int) := by omega
 have qa' : (n : Int).tdiv 4 = (a : Int) := by rw [Int.tdiv_eq_ediv_of_nonneg (by omega)]; exact qa
 have qb' : (n : Int).tdiv 8 = (b : Int) := by rw [Int.tdiv_eq_ediv_of_nonneg (by omega)]; exact qb
 have HLAY := Lib.hid (show ∀ (w1 : World) (B : Option Addr) (k : Nat), Kp w w1 → w1.ownsRow w.heap.size 126 4 (.slice B (fromL T (-9223372036854775808) n).length k) (fromL T (-9223372036854775808) n).length (slC (fromL T (-9223372036854775808) n)) →
   Calls Tryz.prog 109 #[.pointer (some ⟨q, 0, none⟩), .slice B (fromL T (-9223372036854775808) n).length k] w1 fun e w' => e = .returned (.tuple #[]) ∧ ∃ (g n' : Nat) (T' : Tab), IxAt w' q g n' c T' ∧ TabOk hashN T' n' st ∧ c + 1 < n' ∧ n' ≤ 8 * (c + 1) ∧ (A = some ⟨g, 0, none⟩ ∨ w.heap.size ≤ g) ∧ Keeps (fun b => b ≠ q) w w' from fun w1 B k hk ho => by
  have hlen := fromL_len T (-9223372036854775808) n
  have hq := hI.blk.lt
  have hall : (∀ s ∈ fromL T (-9223372036854775808) n, s.full = true ∧ s.hash = (hashN s.key : Int)) ∧ (((fromL T (-9223372036854775808) n).map kv).map (·.1)).Nodup ∧ ((fromL T (-9223372036854775808) n).map kv).Perm st := by
   rcases Nat.eq_zero_or_pos n with h0 | h0
   ·subst h0
    rw [tab_nil, hz rfl]
    exact ⟨fun s hs => absurd hs (List.not_mem_nil), List.nodup_nil, List.Perm.refl _⟩
   ·have h := from_ok (hT h0) (-9223372036854775808)
    rwa [below_all fun x hx => (hi x hx).1] at h
  have hl : (fromL T (-9223372036854775808) n).length = c := by
   have := hall.2.2.length_eq
   rw [List.length_map] at this
   omega
  refine (lay_any w1 q _ c (hI.blk.keep hk trivial) B k _ ((SlsAt.of_own ho rfl).mono fun b _ hb => ?_) (by omega) hall.1 hall.2.1).mono ?_
  ·have := hb.1; omega
  ·rintro e w' ⟨rfl, g, n', T', h1, h2, h3, h4, h5, h6⟩
   rw [hl] at h1 h3 h4
   exact ⟨rfl, g, n', T', h1, h2.of_perm hall.2.2, by omega, by omega, .inr (Nat.le_trans hk.size h5), (hk.mono fun _ _ _ => trivial).trans h6⟩)
 have HFROM := Lib.hid (from_any w q A n c T hI hn (-9223372036854775808))
 have HOLD := Lib.hid (show ¬ a * 3 ≤ c → ¬ (8 < n ∧ c < b) → ∃ (g n' : Nat) (T' : Tab), IxAt w q g n' c T' ∧ TabOk hashN T' n' st ∧ c + 1 < n' ∧ n' ≤ 8 * (c + 1) ∧ (A = some ⟨g, 0, none⟩ ∨ w.heap.size ≤ g) ∧ Keeps (fun b => b ≠ q) w w from fun h1 h2 => by
  have h0 : 0 < n := by omega
  obtain ⟨g, e, htab, hne⟩ := hI.tab h0
  have hb := hI.blk
  rw [e] at hb
  exact ⟨g, n, T, ⟨hb, htab, hne⟩, hT h0, by omega, by omega, .inl e, Keeps.refl _ _⟩)
 clear hI hT hz hi hc
 have hcs : (decide ((a : Int) * 3 ≤ (c : Int)) = true) ∨ (decide ((a : Int) * 3 ≤ (c : Int)) = false ∧ decide ((8 : Int) < (n : Int)) = false) ∨ (decide ((a : Int) * 3 ≤ (c : Int)) = false ∧ decide ((8 : Int) < (n : Int)) = true ∧ decide ((c : Int) < (b : Int)) = false) ∨ (decide ((a : Int) * 3 ≤ (c : Int)) = false ∧ decide ((8 : Int) < (n : Int)) = true ∧ decide ((c : Int) < (b : Int)) = true) := by
  cases decide ((a : Int) * 3 ≤ (c : Int)) <;> cases decide ((8 : Int) < (n : Int)) <;> cases decide ((c : Int) < (b : Int)) <;> simp
 go_enter Tryz.func139, Tryz.ntmps139
 rcases hcs with e1 | ⟨e1, e2⟩ | ⟨e1, e2, e3⟩ | ⟨e1, e2, e3⟩
 ·go_wp2_with fail
  refine (show Calls _ _ _ _ _ from HFROM.out).mono ?_
  rintro e w1 ⟨B, k, rfl, ho, hk⟩
  have HL := Lib.hid (HLAY.out w1 B k hk ho)
  clear ho hk
  go_wp2_with fail
  refine (show Calls _ _ _ _ _ from HL.out).mono ?_
  rintro e w2 ⟨rfl, hfin⟩
  go_wp2_with fail
  go_end0
  exact ⟨rfl, hfin⟩
 ·have HO := Lib.hid (HOLD.out (by have := of_decide_eq_false e1; omega) (by have := of_decide_eq_false e2; omega))
  go_wp2_with fail
  go_end0
  exact ⟨rfl, HO.out⟩
 ·have HO := Lib.hid (HOLD.out (by have := of_decide_eq_false e1; omega) (by have := of_decide_eq_false e3; omega))
  have f3 : decide (c < b) = false := by rw [decide_eq_false_iff_not]; have := of_decide_eq_false e3; omega
  go_wp2_with fail
  go_end0
  exact ⟨rfl, HO.out⟩
 ·have f3 : decide (c < b) = true := by rw [decide_eq_true_eq]; have := of_decide_eq_true e3; omega
  go_wp2_with fail
  refine (show Calls _ _ _ _ _ from HFROM.out).mono ?_
  rintro e w1 ⟨B, k, rfl, ho, hk⟩
  have HL := Lib.hid (HLAY.out w1 B k hk ho)
  clear ho hk
  go_wp2_with fail
  refine (show Calls _ _ _ _ _ from HL.out).mono ?_
  rintro e w2 ⟨rfl, hfin⟩
  go_wp2_with fail
  go_end0
  exact ⟨rfl, hfin⟩
def ixFoot (q : Nat) (A : Option Addr) : Foot := ⟨fun b => b = q ∨ A = some ⟨b, 0, none⟩, fun _ => False⟩
structure IxRepAt (w : World) (q : Nat) (A : Option Addr) (n : Nat) (T : Tab) (st : IxSt) : Prop where
 s : IxS w q A n st.length T
 ok : 0 < n → TabOk hashN T n st
 zero : n = 0 → st = [] ∧ A = none
 i : ∀ x ∈ st, i64 x.2
 n : n ≤ 8 * (st.length + 1)
def IxRep (w : World) (q : Nat) (F : Foot) (st : IxSt) : Prop := ∃ A n T, F = ixFoot q A ∧ IxRepAt w q A n T st
section
variable {w w' : World} {q n c : Nat} {A : Option Addr} {T : Tab} {st : IxSt} {F : Foot}
theorem IxRepAt.g (h : IxRepAt w q A n T st) (hn : 0 < n) : ∃ g, A = some ⟨g, 0, none⟩ ∧ IxAt w q g n st.length T := by
 obtain ⟨g, rfl, h1, h2⟩ := h.s.tab hn
 exact ⟨g, rfl, h.s.blk, h1, h2⟩
theorem IxRepAt.nd (h : IxRepAt w q A n T st) : (st.map (·.1)).Nodup := by
 rcases Nat.eq_zero_or_pos n with h0 | h0
 ·rw [(h.zero h0).1]; exact List.nodup_nil
 ·exact (h.ok h0).nd
theorem IxRepAt.keep (h : IxRepAt w q A n T st) (hk : Keeps (ixFoot q A).all w w') : IxRepAt w' q A n T st := by
 refine ⟨⟨h.s.blk.keep hk (.inl (.inl rfl)), fun h0 => ?_⟩, h.ok, h.zero, h.i, h.n⟩
 obtain ⟨g, rfl, h1, h2⟩ := h.s.tab h0
 exact ⟨g, rfl, h1.keep hk (.inl (.inr rfl)), h2⟩
theorem IxRep.keep (h : IxRep w q F st) (hk : Keeps F.all w w') : IxRep w' q F st := by
 obtain ⟨A, n, T, rfl, h⟩ := h
 exact ⟨A, n, T, rfl, h.keep hk⟩
theorem IxRep.lt (h : IxRep w q F st) : ∀ b, F.all b → b < w.heap.size := by
 obtain ⟨A, n, T, rfl, h⟩ := h
 rintro b ((rfl | hb) | hb)
 ·exact h.s.blk.lt
 ·rcases Nat.eq_zero_or_pos n with h0 | h0
  ·rw [(h.zero h0).2] at hb; cases hb
  ·obtain ⟨g, e, h1⟩ := h.g h0
   rw [e] at hb
   injection hb with hb
   injection hb with hb
   rw [← hb]; exact h1.tab.lt
 ·exact hb.elim
theorem IxS.at_ (h : IxS w q A n c T) (hn : 0 < n) : ∃ g, A = some ⟨g, 0, none⟩ ∧ IxAt w q g n c T := by
 obtain ⟨g, rfl, h1, h2⟩ := h.tab hn
 exact ⟨g, rfl, h.blk, h1, h2⟩
end
set_option maxRecDepth 100000 in
set_option maxHeartbeats 1000000 in
theorem find_s (w : World) (q : Nat) (A : Option Addr) (n c : Nat) (T : Tab) (st : IxSt) (hI : IxS w q A n c T) (hT : 0 < n → TabOk hashN T n st) (hz : n = 0 → st = []) (hn : n ≤ 1099511627776) (k : ByteArray) :
  Calls Tryz.prog 68 #[.pointer (some ⟨q, 0, none⟩), .string k, .int .u64 ((hashN k : Nat) : Int)] w fun e w' => w' = w ∧
   ((∃ i, i < n ∧ (T i).full = true ∧ (T i).key = k ∧ e = .returned (.tuple #[.int .i64 (i : Int), .bool true])) ∨ (ixGet st k = none ∧ e = .returned (.tuple #[.int .i64 0, .bool false]))) := by
 rcases Nat.eq_zero_or_pos n with h0 | h0
 ·subst h0
  have c0 := hI.blk.c0
  have hst := hz rfl
  subst hst
  clear hI hT hz
  go_enter Tryz.func68, Tryz.ntmps68
  go_wp2_with fail
  go_ret2
  exact ⟨rfl, .inr ⟨rfl, rfl⟩⟩
 ·obtain ⟨g, rfl, hA⟩ := hI.at_ h0
  exact ixfind_any w q g n c T st hA (hT h0) hn k
set_option maxRecDepth 100000 in
set_option maxHeartbeats 1000000 in
theorem ixnew_any (w : World) : Calls Tryz.prog 99 #[] w fun e w' => ∃ (q : Nat) (F : Foot), e = .returned (.pointer (some ⟨q, 0, none⟩)) ∧ IxRep w' q F [] ∧ (∀ b, F.all b → w.heap.size ≤ b) ∧ Keeps (fun _ => True) w w' := by
 have hfin : IxRep (w.alloc (.cells #[.slice none 0 0, .int .i64 0] 129)) w.heap.size (ixFoot w.heap.size none) [] :=
  ⟨none, 0, fun _ => Sl.zero, rfl, ⟨heap_alloc_new w _, fun h => absurd h (by decide)⟩, fun h => absurd h (by decide), fun _ => ⟨rfl, rfl⟩, fun x hx => (by cases hx), by decide⟩
 have HF := Lib.hid hfin
 clear hfin
 go_enter Tryz.func99, Tryz.ntmps99
 go_wp2_with fail
 go_ret
 refine ⟨_, _, rfl, HF.out, fun b hb => ?_, (Keeps.refl _ w).alloc _⟩
 rcases hb with (rfl | hb) | hb
 ·exact Nat.le_refl _
 ·cases hb
 ·exact hb.elim
theorem get_val {w : World} {q n : Nat} {A : Option Addr} {T : Tab} {st : IxSt} {k : ByteArray} {i : Nat} (hR : IxRepAt w q A n T st) (hi : i < n) (hf : (T i).full = true) (hk : (T i).key = k) : ixGet st k = some (T i).pos :=
 (hR.ok (by omega)).hit hi hf hk
set_option maxRecDepth 100000 in
set_option maxHeartbeats 1000000 in
theorem ixget_any (w : World) (q : Nat) (F : Foot) (st : IxSt) (hR : IxRep w q F st) (hl : st.length ≤ 32768) (k : ByteArray) (hk : k.size ≤ 1000000) :
  Calls Tryz.prog 43 #[.pointer (some ⟨q, 0, none⟩), .string k] w fun e w' => e = .returned (.tuple #[.int .i64 ((ixGet st k).getD 0), .bool (ixGet st k).isSome]) ∧ Keeps (fun _ => True) w w' := by
 obtain ⟨A, n, T, rfl, hR⟩ := hR
 have hn := hR.n
 have hn1 : n ≤ 1099511627776 := by omega
 obtain ⟨w1, hw1⟩ : ∃ w1, w.alloc (.cells #[.string k] 9) = w1 := ⟨_, rfl⟩
 have hk1 : Kp w w1 := by rw [← hw1]; exact (Keeps.refl _ w).alloc _
 have hR1 := hR.keep (hk1.mono fun _ _ _ => trivial)
 have hc : w1.cell? ⟨w.heap.size, 0, none⟩ = some (.string k) := by rw [← hw1]; exact (cell_of_block (heap_alloc_new w _) 0).trans rfl
 have HH := Lib.hid (hash_any k w.heap.size w1 hk hc)
 have HF := Lib.hid (find_s w1 q A n st.length T st hR1.s hR1.ok (fun h => (hR1.zero h).1) hn1 k)
 have HR := Lib.hid hR1
 have HW1 := Lib.hid hw1
 have HK1 := Lib.hid hk1
 clear hR hw1 hk1 hR1 hc hn
 generalize hX : hashN k = X at HH HF
 clear hX
 go_enter Tryz.func43, Tryz.ntmps43
 go_wp2_with fail
 rw [HW1.out]
 refine (show Calls _ _ _ _ _ from HH.out).mono ?_
 rintro e w2 ⟨rfl, rfl⟩
 go_wp2_with fail
 refine (show Calls _ _ _ _ _ from HF.out).mono ?_
 rintro e w3 ⟨rfl, (⟨i, hi, hf, hkey, rfl⟩ | ⟨hno, rfl⟩)⟩
 ·obtain ⟨g, rfl, hA⟩ := HR.out.g (by omega)
  have c0 := hA.blk.c0
  have c2 := hA.tab.c2 hi
  have HV := Lib.hid (get_val HR.out hi hf hkey)
  clear hA hf hkey
  generalize (T i).pos = P at c2 HV
  go_wp2_with fail
  go_ret2
  rw [HV.out]
  exact ⟨rfl, HK1.out⟩
 ·have HV := Lib.hid hno
  clear hno
  go_wp2_with fail
  go_ret2
  rw [HV.out]
  exact ⟨rfl, HK1.out⟩
end Go.Proofs.YticophaepapjoaaGreatDoor
