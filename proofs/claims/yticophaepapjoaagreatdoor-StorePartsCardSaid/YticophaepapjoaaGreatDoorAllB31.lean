/-
  StOpen, StKill, FlOpen, IxLib, JnAdd, JnFind, TabLaid, ItemOpen: texts of mine, joined.
-/
import Derived.Test.YticophaepapjoaaGreatDoorAllB28
import Derived.Test.YticophaepapjoaaGreatDoorAllB26
import Derived.Test.YticophaepapjoaaGreatDoorAllB04
import Derived.Test.YticophaepapjoaaGreatDoorAllB10
import Derived.Sort.OwnSorted
import Derived.Lib.Hide
import Derived.Lib.SmallJoins
import Derived.WalkKit
import Derived.Test.YticophaepapjoaaGreatDoorAllB27
import Derived.Test.YticophaepapjoaaGreatDoorAllB30
import Derived.Test.YticophaepapjoaaGreatDoorAllB19
import Derived.Test.YticophaepapjoaaGreatDoorAllB24
import Derived.Test.YticophaepapjoaaGreatDoorAllB08
import Derived.Test.YticophaepapjoaaGreatDoorRows
import Derived.Test.YticophaepapjoaaGreatDoorTie
import Derived.Test.YticophaepapjoaaGreatDoorAllB03
open Go.Lib renaming hid → Hd
set_option maxRecDepth 100000
set_option maxHeartbeats 8000000
namespace Go.Proofs.YticophaepapjoaaGreatDoor
open Go Go.RowKit Go.Joins
section
variable {S : FlashOK} {J : JournalOK} {W w w' : World} {p b q1 q2 q3 k wh n d c : Nat} {F F' : Foot} {s : SDev} {z : Sto} {X : Nat → Prop}
theorem stopen_any (hT : theSup.T W) (rows : List (List UInt8)) (t : Nat) (m : M4) (h : Dv W w p F (SDev.still rows 0)) (hn : rows.length = n) (h1 : 192 ≤ n) (hw : wh ≤ 1) (ht1 : 1 ≤ t) (hm : mayB m = true) (hs : rows.getD wh [] = theSup.enc t (encM m)) (ho : Oth theSup rows ⟨p, 0, wh, t, encM m⟩) (hX : ∀ b, X b → ¬ F.all b ∧ b < w.heap.size)
  (PC : FSt → Prop) (PJ : JSt → Prop) (hJ : JOpens J p (SDev.still rows 0) PJ w) (hC : COpens S p (SDev.still rows 0) n PC w) (hb : m.boot < 1099511627776) (ht : t ≤ 300000000000) :
  Calls Tryz.prog 22 #[.pointer (some ⟨p, 0, none⟩)] w fun e w' => ∃ w0, Kp w w0 ∧ Started S J W p wh t n (SDev.still rows 0) m X PC PJ w0 e w' := by
 have HL := Hd (dlen_any w p F _ h.d)
 have hn' : (SDev.still rows 0).now.length = n := hn
 rw [hn'] at HL
 have hn192 : ¬ (n : Int) < 192 := by omega
 have HO := Hd (show Calls Tryz.prog 55 #[.pointer (some ⟨p, 0, none⟩), .int .i64 0] w fun e w2 => ∃ k, e = .returned (.tuple #[.pointer (some ⟨k, 0, none⟩), .int .i64 0]) ∧ Kp w w2 ∧ Calls Tryz.prog 39 #[.pointer (some ⟨p, 0, none⟩), .pointer (some ⟨k, 0, none⟩)] w2 (Started S J W p wh t n (SDev.still rows 0) m X PC PJ w2) from by
  refine (kopen_yes W w hT p F _ h 0 wh t m hm (by rw [hn']; omega) hw ht1 (by rw [Nat.zero_add]; exact hs) (fun t' x' hd => ho t' x' hd) (by omega)).mono ?_
  rintro e w2 ⟨q3, k, Fs, rfl, hK, hfs, hkk, hk⟩
  refine ⟨k, rfl, hk, sstart (X := X) hT hK ho hn' h1 (fun c hx => ?_) PC PJ (fun w1 hk1 => hJ w1 (hk.trans hk1)) (fun w1 hk1 => hC w1 (hk.trans hk1)) hb ht (Nat.zero_le _)⟩
  have h5 := (hX c hx).2
  have h6 := hk.size
  refine ⟨(hX c hx).1, fun hf => ?_, by omega⟩
  rcases kfoot_all.1 hf with hf | rfl
  ·have := hfs c hf; omega
  ·omega)
 clear h hn hn' h1 hw ht1 hm hs ho hX hJ hC hb ht hT
 go_enter Tryz.func22, Tryz.ntmps22
 go_wp2_with fail
 refine (show Calls _ _ _ _ _ from HL.out).mono ?_
 rintro e w' ⟨rfl, rfl⟩
 clear HL
 go_wp2_with fail
 refine (show Calls _ _ _ _ _ from HO.out).mono ?_
 rintro e w2 ⟨k, rfl, hk, hs⟩
 have HK := Hd hk
 have HS := Hd hs
 clear hk hs HO
 go_wp2_with fail
 refine (show Calls _ _ _ _ _ from HS.out).mono ?_
 rintro e w3 hs
 have hs0 := hs
 obtain ⟨b, q1, q2, q3, k', F1, Fc, Fj, Fs, c, f, j, rfl, -⟩ := hs0
 have HE := Hd hs
 clear hs HS
 go_wp2_with fail
 go_ret2
 exact ⟨w2, HK.out, HE.out⟩
theorem so_openOld (hS : S.T W) (hJ : J.T W) (hT : theSup.T W) (h : StDisk S J W w p z n 2 X) (hb : z.m.boot < 1099511627776) (ht : z.t ≤ 300000000000) (hf : z.f.age ≤ 20000) (hj : z.j.age ≤ 20000) :
  Calls Tryz.prog 22 #[.pointer (some ⟨p, 0, none⟩)] w fun e w' => ∃ b q1 q2 k z', e = .returned (.tuple #[.pointer (some ⟨b, 0, none⟩), .int .i64 0]) ∧ StAt S J W w' p b q1 q2 k z' n 0 X ∧ z'.j.keys = z.j.keys ∧ z'.m = nextM z.m ∧ z'.boot = z.m.boot + 1 ∧ Keeps X w w' := by
 obtain ⟨F, rows, wh, hd, hn, h1, f1, f2, j1, j2, hw, ht1, hm, hs, ho, hod, hX⟩ := h
 have hbl : S.disk z.f rows ∧ J.disk z.j rows := by
  rcases hod with ⟨h, -⟩ | ⟨-, h⟩ | ⟨h, -⟩
  ·cases h
  ·exact h
  ·cases h
 refine (stopen_any hT rows z.t z.m hd hn h1 hw ht1 hm hs ho hX _ _ (jopens_old (J.tk hJ (Keeps.refl _ W)) hd (by show 192 ≤ rows.length; omega) z.j j1 j2 hj hbl.2) (copens_old hS hd hn h1 z.f f1 f2 hf hbl.1) hb ht).mono ?_
 rintro e w' ⟨w0, hk0, hst⟩
 obtain ⟨b, q1, q2, k, z', rfl, hat, a1, a2, a3, hkx⟩ := started_old hst
 exact ⟨b, q1, q2, k, z', rfl, hat, a1, a2, a3, (hk0.mono fun _ _ _ => trivial).trans hkx⟩
end
section
variable {S : FlashOK} {J : JournalOK} {W w w' : World} {p b q1 q2 k n d : Nat} {z : Sto} {X : Nat → Prop}
theorem sstarted_blk {t : Int} (h : StBlk w b q1 q2 k t) : Calls Tryz.prog 23 #[.pointer (some ⟨b, 0, none⟩)] w fun e w' => e = .returned (.int .i64 t) ∧ w = w' := by
 have c3 := h.c3
 clear h
 go_enter Tryz.func23, Tryz.ntmps23
 go_wp2_with fail
 go_ret
 exact ⟨rfl, rfl⟩
theorem sstarted_any (h : StAt S J W w p b q1 q2 k z n d X) : Calls Tryz.prog 23 #[.pointer (some ⟨b, 0, none⟩)] w fun e w' => e = .returned (.int .i64 z.boot) ∧ w = w' := by
 exact sstarted_blk h.blk
theorem so_started (h : StAt S J W w p b q1 q2 k z n d X) (m : Int) (hm : m = z.boot) : Calls Tryz.prog 23 #[.pointer (some ⟨b, 0, none⟩)] w fun e w' => e = .returned (.int .i64 m) ∧ w = w' := by
 subst hm
 exact sstarted_any h
def killed (z : Sto) (ks : List ByteArray) (g u : Nat) : Sto := ⟨⟨z.f.place, z.f.segs, z.f.ents ++ ks.map grave, g, z.f.age + ks.length + 1⟩, jadd z.j ks u, z.t, z.m, z.boot, z.c + 2000 * (ks.length + 1)⟩
theorem so_kill (hS : S.T W) (hJ : J.T W) (h : StAt S J W w p b q1 q2 k z n d X) (h1 : z.f.age ≤ 20000) (h2 : z.j.age ≤ 20000) (hc : z.c ≤ 300000000000) (A : Option Addr) (ks : List ByteArray) (hrow : Row w A X (ks.map Value.string)) (c m : Nat) (hn : m = ks.length) (hcc : m ≤ c) (hcm : c ≤ maxLen) (hl : m ≤ 1000) (hok : ∀ k ∈ ks, keyOk k) (y : Int) (hy : y = ((z.j.keys.length + ks.length : Nat) : Int)) :
  Calls Tryz.prog 18 #[.pointer (some ⟨b, 0, none⟩), .slice A m c] w fun e w' => e = .returned (.tuple #[.int .i64 y, .int .i64 0]) ∧ ∃ g u, z.f.gone ≤ g ∧ z.j.base ≤ u ∧ StAt S J W w' p b q1 q2 k (killed z ks g u) n 2 X ∧ Keeps X w w' := by
 have HB := h.blk
 have c0 := HB.c0
 have c1 := HB.c1
 have HA := Hd (so_add hJ h h2 (by omega) A ks hrow c m hn hcc hcm hl hok y hy)
 have HD := Hd (show ∀ w1 u, StAt S J W w1 p b q1 q2 k ⟨z.f, jadd z.j ks u, z.t, z.m, z.boot, z.c + 1000 * (ks.length + 1)⟩ n 3 X → Keeps X w w1 → _ from fun w1 u h3 hk => so_drop hS h3 h1 (by show z.c + 1000 * (ks.length + 1) ≤ _; omega) A ks (hrow.keep hk) c m hn hcc hcm hl hok)
 clear h HB h1 h2 hc hrow hn hcc hok hy hS hJ
 unfold maxLen at hcm
 go_enter Tryz.func18, Tryz.ntmps18
 go_wp2_with fail
 refine (show Calls _ _ _ _ _ from HA.out).mono ?_
 rintro e w1 ⟨rfl, u, hu, h3, hk1⟩
 have c0' := h3.blk.c0
 have HD1 := Hd (HD.out w1 u h3 hk1)
 have HU := Hd hu
 have HK := Hd hk1
 clear c0 c1 HA HD h3 hk1 hu
 go_wp2_with fail
 refine (show Calls _ _ _ _ _ from HD1.out).mono ?_
 rintro e w2 ⟨rfl, g, hg, h4, hk2⟩
 have HE := Hd (show ∃ g u, z.f.gone ≤ g ∧ z.j.base ≤ u ∧ StAt S J W w2 p b q1 q2 k (killed z ks g u) n 2 X ∧ Keeps X w w2 from ⟨g, u, hg, HU.out, by
  have e : z.c + 1000 * (ks.length + 1) + 1000 * (ks.length + 1) = z.c + 2000 * (ks.length + 1) := by omega
  unfold killed
  rw [← e]
  exact h4, HK.out.trans hk2⟩)
 clear hg h4 hk2 HU HK HD1 c0'
 go_wp2_with fail
 go_ret2
 exact ⟨rfl, HE.out⟩
end
structure Lt (S : Slog2) (I : IndexOK) (w wa wb wr : World) (p q lq : Nat) (Fl : Foot) (lst : LSt) (s : SDev) (l : List FRec) (j : Nat) : Prop where
 ex : ∃ (iq : Nat) (Fi : Foot) (ix : IxSt), CAt S I wr p q lq iq Fl Fi 1 lst ix s ∧ IxSays ix (l.take j) j ∧ (∀ b, Fi.all b → w.heap.size ≤ b) ∧ ∀ b, Fi.all b → b < wa.heap.size ∨ wb.heap.size ≤ b
 kp : Kp w wr
 sz : wb.heap.size ≤ wr.heap.size
section
variable {S : Slog2} {I : IndexOK} {w wa wb wr w2 w3 : World} {p q lq : Nat} {Fl : Foot} {lst : LSt} {s : SDev} {l : List FRec} {j : Nat}
theorem Lt.keep (h : Lt S I w wa wb wr p q lq Fl lst s l j) (hk : Kp wr w2) : Lt S I w wa wb w2 p q lq Fl lst s l j := by
 obtain ⟨iq, Fi, ix, hc, hx, h1, h2⟩ := h.ex
 exact ⟨⟨iq, Fi, ix, hc.kp hk, hx, h1, h2⟩, h.kp.trans hk, Nat.le_trans h.sz hk.size⟩
theorem Lt.step (J : ItemOK) (hIT : I.T w) (hJT : J.T w) (hq : w.heap.size ≤ q) (hqa : q < wa.heap.size) (h : Lt S I w wa wb wr p q lq Fl lst s l j) (hj : j < l.length) (hjs : j ≤ 32768) (hm : ∀ x, l[j].2 = some x → x.may = true) (hpo : l[j].1 < 9223372036854775808) (A : Option Addr) (m c : Nat) (hr : Row wr A (fun _ => True) (bcells (bodyO l[j].2))) (hml : m = (bodyO l[j].2).length) (hmc : m ≤ c) (hcm : c ≤ maxLen) :
  Calls Tryz.prog 72 #[.pointer (some ⟨q, 0, none⟩), .int .i64 (l[j].1 : Int), .slice A m c] wr fun e w' => e = .returned (.tuple #[]) ∧ Lt S I w wa wb w' p q lq Fl lst s l (j + 1) ∧ Keeps (fun b => wa.heap.size ≤ b ∧ b < wb.heap.size) wr w' := by
 obtain ⟨iq, Fi, ix, hc, hx, h1, h2⟩ := h.ex
 have hsz := h.sz
 have hsz2 := h.kp.size
 refine (clearn S I J w wr hIT (J.tk hJT h.kp) p q lq iq Fl Fi 1 lst ix s hc h.kp h1 (l.take j) j hx hjs l[j] hm hpo A m c hr hml hmc hcm).mono ?_
 rintro e w' ⟨rfl, iq', Fi', ix', hc', hx', hl⟩
 have hsz' := hl.k.size
 have all' : ∀ b, Fi'.all b → Fi.all b ∨ wr.heap.size ≤ b := fun b hb => by
  rcases hb with hb | hb
  ·rcases hl.m b hb with h1 | h1
   ·exact .inl (.inl h1)
   ·exact .inr h1
  ·exact hl.i b hb
 refine ⟨rfl, ⟨⟨iq', Fi', ix', hc', ?_, fun b hb => ?_, fun b hb => ?_⟩, ⟨hl.k.os.trans h.kp.os, hl.k.tape.trans h.kp.tape, hl.k.output.trans h.kp.output, Nat.le_trans hsz2 hsz', fun b _ hb => ?_⟩, Nat.le_trans hsz hsz'⟩, hl.k.mono fun b _ hb => ⟨fun e => by omega, fun hm => ?_⟩⟩
 ·rw [List.take_succ_eq_append_getElem hj]; exact hx'
 ·rcases all' b hb with h3 | h3
  ·exact h1 b h3
  ·omega
 ·rcases all' b hb with h3 | h3
  ·exact h2 b h3
  ·omega
 ·exact (hl.k.block b ⟨fun e => by omega, fun hm => by have := h1 b (.inl hm); omega⟩ (Nat.lt_of_lt_of_le hb hsz2)).trans (h.kp.block b trivial hb)
 ·rcases h2 b (.inl hm) with h3 | h3
  ·omega
  ·omega
end
def FOpenPost (S : Slog2) (I : IndexOK) (w : World) (p : Nat) (s : SDev) (st : FSt) (e : Ending) (w' : World) : Prop :=
 ∃ (q : Nat) (Fs : Foot), e = .returned (.tuple #[.pointer (some ⟨q, 0, none⟩), .int .i64 0]) ∧ flashRep S I w' p q Fs st s ∧ (∀ b, Fs.all b → w.heap.size ≤ b) ∧ Kp w w'
theorem copen (S : Slog2) (I : IndexOK) (J : ItemOK) (w : World) (hT : S.T w ∧ I.T w ∧ J.T w) (p : Nat) (F : Foot) (s : SDev) (st : FSt) (hd : DAt w p F s) (i n : Nat) (hroom : st.place + 8 * st.segs ≤ s.now.length) (hage : st.age ≤ 30000)
  (hop : Calls Tryz.prog 96 #[.pointer (some ⟨p, 0, none⟩), .int .i64 i, .int .i64 n] w fun e w' => ∃ (lq : Nat) (Fl : Foot) (lst : LSt) (hs : List FRec), e = .returned (.tuple #[.pointer (some ⟨lq, 0, none⟩), .int .i64 0]) ∧ S.rep w' lq Fl lst s ∧ lst.dev = p ∧ FM st lst hs ∧ (∀ b, Fl.all b → w.heap.size ≤ b) ∧ Kp w w') :
  Calls Tryz.prog 67 #[.pointer (some ⟨p, 0, none⟩), .int .i64 i, .int .i64 n] w (FOpenPost S I w p s st) := by
 have HOP := Hd hop
 have HD := Hd hd
 clear hop hd
 go_enter Tryz.func67, Tryz.ntmps67
 go_wp2_with fail
 refine (show Calls _ _ _ _ _ from HOP.out).mono ?_
 rintro e w1 ⟨lq, Fl, lst, hs, rfl, hrep, hon, hm, hFl, hk1⟩
 have HNEW := Hd (I.new w1 (I.tk hT.2.1 hk1))
 have HREP := Hd hrep
 have HM := Hd hm
 have HFL := Hd hFl
 have HK1 := Hd hk1
 have HON := Hd hon
 clear hrep hm hFl hk1 hon
 go_wp2_with fail
 refine (show Calls _ _ _ _ _ from HNEW.out).mono ?_
 rintro e w2 ⟨iq, Fi, rfl, hi, hFi, hk2⟩
 have HI := Hd hi
 have HFI := Hd hFi
 have HK2 := Hd hk2
 clear hi hFi hk2
 go_wp2_with fail
 obtain ⟨wa, hwa⟩ : ∃ wa, w2.alloc (.cells #[.pointer (some ⟨lq, 0, none⟩), .pointer (some ⟨iq, 0, none⟩), .int .i64 1] 92) = wa := ⟨_, rfl⟩
 have hba : CBlk wa w2.heap.size lq iq 1 := by rw [← hwa]; exact heap_alloc_new w2 _
 have hka : Kp w2 wa := by rw [← hwa]; exact (Keeps.refl _ w2).alloc _
 have hza : wa.heap.size = w2.heap.size + 1 := by rw [← hwa]; simp
 have hz1 := HK1.out.size
 have hz2 := HK2.out.size
 have hk2a := HK2.out.trans hka
 have HWA := Hd hwa
 have HALL := Hd (S.all2 wa p lq F Fl s lst (HD.out.keep ((HK1.out.trans hk2a).mono fun _ _ _ => trivial)) (S.keep HREP.out (hk2a.mono fun _ _ _ => trivial)) HON.out (S.tk hT.1 (HK1.out.trans hk2a)) (by rw [HM.out.place, HM.out.segs]; exact hroom))
 have hL0 := S.lt HREP.out
 have HC0 := Hd (show CAt S I wa p w2.heap.size lq iq Fl Fi 1 lst [] s from
  ⟨hba, S.keep HREP.out (hk2a.mono fun _ _ _ => trivial), I.keep HI.out (hka.mono fun _ _ _ => trivial), HON.out, ⟨fun b hb hf => by have := HFI.out b hf; have := hL0 b (.inl hb); omega, fun b hb hf => by have := HFI.out b (.inl hb); have := hL0 b hf; omega⟩, fun hf => by have := hL0 _ hf; omega, fun hf => by have := I.lt HI.out _ hf; omega⟩)
 have hiz := fun b hb => I.lt HI.out b hb
 have HQ := Hd (show w.heap.size ≤ w2.heap.size ∧ w2.heap.size < wa.heap.size from ⟨by omega, by omega⟩)
 have HFI2 := Hd (show ∀ b, Fi.all b → w.heap.size ≤ b ∧ b < wa.heap.size from fun b hb => ⟨by have := HFI.out b hb; omega, by have := hiz b hb; omega⟩)
 have HKA := Hd (HK1.out.trans hk2a)
 have HPOS := Hd (show ∀ a ∈ hs, a.1 < 9223372036854775808 from fun a ha => by
  have hok := S.wf HREP.out
  have : a.1 ∈ hs.map (·.1) := List.mem_map.2 ⟨a, ha, rfl⟩
  rw [← HM.out.pos] at this
  obtain ⟨r, hr, e⟩ := List.mem_map.1 this
  have h1 := hok.next.2 r hr
  have h2 := hok.small
  rw [← e]
  omega)
 obtain ⟨L, hL⟩ : ∃ L, hs.drop lst.gone = L := ⟨_, rfl⟩
 have HL := Hd hL
 have HRC := Hd (show lst.recs = L.map frk from by rw [HM.out.recs, hL])
 have HLM := Hd (show L.length ≤ st.age from by
  have h1 := HM.out.len
  have h2 := HM.out.age
  rw [← hL, List.length_drop]
  omega)
 have HLS := Hd (show ∀ a ∈ L, a ∈ hs from fun a ha => by rw [← hL] at ha; exact List.mem_of_mem_drop ha)
 clear hwa hba hka hza hz1 hz2 hk2a hL0 hiz hL HK1 HK2 HI HFI
 go_wp2_with (rw [HWA.out])
 try rw [HWA.out]
 refine (show Calls _ _ _ _ _ from HALL.out).mono ?_
 rintro e wb ⟨A, c, rfl, hmc, hcm, hrc, hkb⟩
 rw [HRC.out] at hrc
 obtain ⟨m, hlm⟩ : ∃ m, lst.recs.length = m := ⟨_, rfl⟩
 rw [hlm] at hmc ⊢
 have hLm : L.length = m := by rw [← hlm, HRC.out, List.length_map]
 have HLEN := Hd hLm
 have HKB := Hd hkb
 have HREC := Hd (show ∀ (j : Nat) (hj : j < L.length), ∃ b o, A = some ⟨b, o, none⟩ ∧ ∀ wr, Keeps (fun b => wa.heap.size ≤ b ∧ b < wb.heap.size) wb wr → wr.cell? ⟨b, o + j * 2, none⟩ = some (.int .i64 ((L[j].1 : Nat) : Int)) ∧ ∃ B mm c, wr.cell? ⟨b, o + j * 2 + 1, none⟩ = some (.slice B mm c) ∧ mm = (bodyO L[j].2).length ∧ mm ≤ c ∧ c ≤ maxLen ∧ Row wr B (fun _ => True) (bcells (bodyO L[j].2)) from fun j hj => by
  have hne : L.map frk ≠ [] := fun e => by have := congrArg List.length e; simp at this; rw [this] at hj; simp at hj
  obtain ⟨b, o, e, hG, hc⟩ := hrc hne
  refine ⟨b, o, e, fun wr hk => ?_⟩
  obtain ⟨c0, B, cc, c1, h1, h2, h3⟩ := hc j (by rw [List.length_map]; exact hj)
  rw [List.getElem_map] at c0 c1 h1 h3
  exact ⟨hk.cell c0 hG, B, _, cc, hk.cell c1 hG, rfl, h1, h2, (h3.keep hk).mono fun _ _ _ => trivial⟩)
 have hmage : m ≤ 30000 := by have := HLM.out; omega
 unfold maxLen at hcm
 clear hlm hLm hrc hkb
 have HST := Hd (show Lt S I w wa wb wb p w2.heap.size lq Fl lst s L 0 from
  ⟨⟨iq, Fi, [], HC0.out.kp HKB.out, IxSays.nil, fun b hb => (HFI2.out b hb).1, fun b hb => .inl (HFI2.out b hb).2⟩, HKA.out.trans HKB.out, Nat.le_refl _⟩)
 have HEND := Hd (show ∀ wr, Lt S I w wa wb wr p w2.heap.size lq Fl lst s L m → FOpenPost S I w p s st (.returned (.tuple #[.pointer (some ⟨w2.heap.size, 0, none⟩), .int .i64 0])) wr from fun wr h => by
  obtain ⟨iq', Fi', ix', hc, hx, h1, h2⟩ := h.ex
  rw [List.take_of_length_le (by rw [HLEN.out]; exact Nat.le_refl _), ← HL.out] at hx
  exact ⟨w2.heap.size, cfoot w2.heap.size Fl Fi', rfl, ⟨lq, iq', Fl, Fi', 1, lst, ix', hs, rfl, hc, HM.out, hx.more (by rw [← HLEN.out]; exact HLM.out)⟩, fun b hb => by
   rcases cfoot_all.1 hb with rfl | hb | hb
   ·exact HQ.out.1
   ·exact HFL.out b hb
   ·exact h1 b hb, h.kp⟩)
 have HMAY := Hd (show ∀ (j : Nat) (hj : j < L.length) x, L[j].2 = some x → x.may = true from fun j hj x hx => HM.out.may L[j].1 x (HLS.out _ (by rw [← hx]; exact List.getElem_mem hj)))
 have HPO := Hd (show ∀ (j : Nat) (hj : j < L.length), L[j].1 < 9223372036854775808 from fun j hj => HPOS.out _ (HLS.out _ (List.getElem_mem hj)))
 clear HALL HC0 HFI2 HKA HPOS HRC HLS HREP HFL HNEW HOP
 obtain ⟨q, hq⟩ : ∃ q, w2.heap.size = q := ⟨_, rfl⟩
 rw [hq] at HST HEND HQ ⊢
 clear hq
 go_wp2_with fail
 go_loopw [30] (fun i wr => ∃ j, j ≤ m ∧ i = .int .i64 j ∧ RowKit.Hid (Lt S I w wa wb wr p q lq Fl lst s L j) ∧ RowKit.Hid (Keeps (fun b => wa.heap.size ≤ b ∧ b < wb.heap.size) wb wr)) (fun i _ => m - (intOf i).toNat)
 case atStart => exact ⟨0, Nat.zero_le _, rfl, HST, Hd (Keeps.refl _ _)⟩
 case round =>
  obtain ⟨j, hj, rfl, hlt, hkg⟩ := hrel
  by_cases hjm : j < m
  ·have t1 : decide ((j : Int) < (m : Int)) = true := by simp; omega
   have hjl : j < L.length := by rw [HLEN.out]; exact hjm
   obtain ⟨b, o, rfl, hrow⟩ := HREC.out j hjl
   obtain ⟨c0, B, mm, cc, c1, hmm, hmc2, hcc2, hr⟩ := hrow wr hkg.out
   have HKW := Hd (show Kp wr (wr.alloc (.cells #[.int .i64 ((L[j].1 : Nat) : Int), .slice B mm cc] 172)) from (Keeps.refl _ wr).alloc _)
   have HLN := Hd ((hlt.out.keep HKW.out).step J hT.2.1 hT.2.2 HQ.out.1 HQ.out.2 hjl (by omega) (HMAY.out j hjl) (HPO.out j hjl) B mm cc (hr.keep HKW.out) hmm hmc2 hcc2)
   clear hmm hmc2 hcc2 hr hrow
   generalize L[j].1 = po at c0 HKW HLN
   go_wp2_with fail
   refine (show Calls _ _ _ _ _ from HLN.out).mono ?_
   rintro e w4 ⟨rfl, hl4, hk4⟩
   have HL4 := Hd hl4
   have HK4 := Hd (hkg.out.trans ((HKW.out.mono fun _ _ _ => trivial).trans hk4))
   clear hl4 hk4 HLN c0 c1
   go_wp2_with fail
   go_roundw
   case rel => exact ⟨j + 1, by omega, by go_num, HL4, HK4⟩
   case measure => simp [intOf]; omega
  ·have t1 : decide ((j : Int) < (m : Int)) = false := by simp; omega
   obtain rfl : j = m := by omega
   have HE := Hd (HEND.out wr hlt.out)
   clear hjm
   go_wp2_with fail
   go_ret2
   exact HE.out
end Go.Proofs.YticophaepapjoaaGreatDoor
namespace Go.Proofs.YticophaepapjoaaGreatDoor
open Go Go.RowKit Go.Joins Go.Sort
theorem sclone_any (s : ByteArray) (w : World) (hs : s.size ≤ 281474976710656) :
  Calls Tryz.prog 141 #[.string s] w fun e w' => e = .returned (.string s) ∧ Keeps (fun _ => True) w w' := by
 have hC := Hd (show Calls Tryz.prog 174 #[.string s] w fun e w' => e = .returned (.string s) ∧ Below w.heap.size w w' from Any.stringslite_Clone Tryz.cloneA s w hs)
 clear hs
 go_enter Tryz.func141, Tryz.ntmps141
 go_wp2_with fail
 refine (show Calls _ _ _ _ _ from hC.out).mono ?_
 rintro e w1 ⟨rfl, hb⟩
 have hk : Keeps (fun _ => True) w w1 := Keeps.of_below hb _
 go_wp2_with fail
 go_ret
 exact ⟨rfl, hk⟩
theorem enc_is (l : List ByteArray) : l.map Value.string = (l.map fun s => s.data.toList).map encStr := by
 rw [List.map_map]
 refine List.map_congr_left fun s _ => ?_
 show _ = encStr s.data.toList
 unfold encStr
 simp
theorem txt_map (l : List (List UInt8)) : (l.map txt).map Value.string = l.map encStr := by
 rw [List.map_map]
 rfl
theorem rising_of {l : List (List UInt8)} (h : l.Pairwise fun a b => a ≤ b) (hn : l.Nodup) : Rising (l.map txt) := by
 unfold Rising
 rw [List.pairwise_map]
 refine (h.and hn).imp fun {a b} hab => ?_
 show Op.bytesLess a b = true
 rw [bytesLess_eq, decide_eq_true_eq]
 rcases List.le_iff_lt_or_eq.1 hab.1 with h1 | h1
 ·exact h1
 ·exact absurd h1 hab.2
theorem sort_any (w : World) (base : Nat) (B : Option Addr) (c : Nat) (l : List ByteArray) (hnd : l.Nodup) (ho : w.ownsRow base 9 1 (.slice B l.length c) l.length (l.map Value.string)) (hl : l.length ≤ 68719476736) :
  Calls Tryz.prog 91 #[.slice B l.length c] w fun e w' => e = .returned (.tuple #[]) ∧ ∃ ks : List ByteArray, ks.Perm l ∧ Rising ks ∧ w'.ownsRow base 9 1 (.slice B l.length c) l.length (ks.map Value.string) ∧ Keeps (fun b => ∀ o, B ≠ some ⟨b, o, none⟩) w w' := by
 rcases Nat.eq_zero_or_pos l.length with h0 | h0
 ·have hl0 := List.eq_nil_of_length_eq_zero h0
  subst hl0
  refine (show Calls Tryz.prog 91 #[.slice B 0 c] w fun e w' => e = .returned (.tuple #[]) ∧ w' = w from Any.slices_Sort_string_none Tryz.sortB B c w).mono ?_
  rintro e w' ⟨rfl, rfl⟩
  exact ⟨rfl, [], List.Perm.refl _, List.Pairwise.nil, ho, Keeps.refl _ _⟩
 ·rcases ho.2 with ⟨-, h1⟩ | ⟨g, cap, cur, hv, hbase, hb, hcap, hmax, hsz, htake⟩
  ·omega
  injection hv with e1 e2 e3
  subst e1 e3
  have hll : (l.map fun s => s.data.toList).length = l.length := by simp
  have hH : Holds encStr w g 0 (l.map fun s => s.data.toList).toArray := holds_of_block hb (by rw [hll, ← enc_is, ← htake, Nat.mul_one])
  have hlt : g < w.heap.size := (Array.getElem?_eq_some_iff.1 hb).1
  have h := Any.slices_Sort_string Tryz.sortB g 0 c (l.map fun s => s.data.toList) w hH hlt (by rw [hll]; omega)
  rw [hll] at h
  refine (show Calls Tryz.prog 91 #[.slice (some ⟨g, 0, none⟩) l.length c] w _ from h).mono ?_
  rintro e w' ⟨rfl, n, os, rfl⟩
  have hperm := List.mergeSort_perm (l.map fun s => s.data.toList) (fun x y => decide (x ≤ y))
  have hlen : ((l.map fun s => s.data.toList).mergeSort fun x y => decide (x ≤ y)).length = (l.map fun s => s.data.toList).length := hperm.length_eq
  have hsorted : ((l.map fun s => s.data.toList).mergeSort fun x y => decide (x ≤ y)).Pairwise fun a b => a ≤ b := by
   have := List.pairwise_mergeSort (le := fun x y : List UInt8 => decide (x ≤ y)) (by
    intro a b c h1 h2
    rw [decide_eq_true_eq] at h1 h2 ⊢
    exact List.le_trans h1 h2) (by
    intro a b
    rw [Bool.or_eq_true, decide_eq_true_eq, decide_eq_true_eq]
    exact List.le_total a b) (l.map fun s => s.data.toList)
   exact this.imp fun h => by simpa using h
  have hnd' : (l.map fun s => s.data.toList).Nodup := List.pairwise_map.2 (hnd.imp fun hab e => hab (ByteArray.ext (Array.toList_inj.1 e)))
  have hback : (l.map fun s => s.data.toList).map txt = l := by
   rw [List.map_map]
   refine (List.map_congr_left fun s _ => ?_).trans (List.map_id l)
   exact txt_data s
  refine ⟨rfl, ((l.map fun s => s.data.toList).mergeSort fun x y => decide (x ≤ y)).map txt, ?_, rising_of hsorted (hperm.nodup_iff.2 hnd'), ?_, ?_⟩
  ·have := hperm.map txt
   rwa [hback] at this
  ·rw [txt_map]
   have := ownsRow_sorted (w := w) (base := base) (g := g) (cap := c) (n := n) (os := os) hlen hbase hb (by rw [hll]; exact hcap) hmax hsz
   rwa [hll] at this
  ·refine Keeps.of_grown (grownBy_sorted _) fun b hb _ hno => ?_
   injection hb with hb
   subst hb
   exact hno 0 rfl
end Go.Proofs.YticophaepapjoaaGreatDoor
namespace Go.Proofs.YticophaepapjoaaGreatDoor
open Go Go.RowKit Go.Joins
def JApp (S : Slog2) (w0 : World) (p lq : Nat) (F Fl : Foot) (s : SDev) (lst : LSt) (l : List UInt8) (x : Nat) (w1 : World) : Prop :=
 ∃ (F' Fl' : Foot) (s' : SDev) (g f n : Nat), DAt w1 p F' s' ∧ S.rep w1 lq Fl' ⟨p, lst.place, lst.segs, lst.hist ++ [⟨x, l, 0⟩], g, f, n⟩ s' ∧ lst.gone ≤ g ∧ n ≤ lst.next + 1048576 ∧
  s'.now.length = s.now.length ∧ (∀ i, ¬ lst.has i → s'.now.getD i [] = s.now.getD i []) ∧ s'.calls ≤ s.calls + 1000 ∧ Apart F' Fl' ∧ Keeps (fun b => ¬ F.M b ∧ ¬ Fl.M b) w0 w1 ∧
  (∀ b, F'.M b → F.M b ∨ w0.heap.size ≤ b) ∧ (∀ b, F'.I b → F.all b ∨ w0.heap.size ≤ b) ∧ (∀ b, Fl'.M b → Fl.M b ∨ w0.heap.size ≤ b) ∧ (∀ b, Fl'.I b → Fl.all b ∨ w0.heap.size ≤ b)
theorem JApp.keep {S : Slog2} {w0 w1 w2 : World} {p lq : Nat} {F Fl : Foot} {s : SDev} {lst : LSt} {l : List UInt8} {x : Nat} (h : JApp S w0 p lq F Fl s lst l x w1) (hk : Kp w1 w2) : JApp S w0 p lq F Fl s lst l x w2 := by
 obtain ⟨F', Fl', s', g, f, n, h1, h2, h3, h4, h5, h6, h7, h8, h9, h10, h11, h12, h13⟩ := h
 exact ⟨F', Fl', s', g, f, n, h1.keep (hk.mono fun _ _ _ => trivial), S.keep h2 (hk.mono fun _ _ _ => trivial), h3, h4, h5, h6, h7, h8, h9.trans (hk.mono fun _ _ _ => trivial), h10, h11, h12, h13⟩
theorem japp_call (S : Slog2) (W w wc : World) (hT : S.T W) (p lq : Nat) (F Fl : Foot) (s : SDev) (lst : LSt) (hd : DAt w p F s) (hl : S.rep w lq Fl lst s) (hon : lst.dev = p) (ha : Apart F Fl) (hk : Kp W w) (hF : ∀ b, F.all b → W.heap.size ≤ b) (hFl : ∀ b, Fl.all b → W.heap.size ≤ b)
  (hroom : lst.place + 8 * lst.segs ≤ s.now.length) (hcl : s.calls ≤ 540000000000) (hnx : lst.next ≤ 137438953472) (hkc : Kp w wc) (v : Value) (l : List UInt8) (ho : OwnB wc w.heap.size v l) (h1 : 1 ≤ l.length) (h2 : l.length ≤ 300) :
  Calls Tryz.prog 71 #[.pointer (some ⟨lq, 0, none⟩), v] wc fun e w' => (∃ x : Nat, e = .returned (.tuple #[.int .i64 (x : Int), .int .i64 0]) ∧ JApp S w p lq F Fl s lst l x w') ∧ Keeps (fun b => w.heap.size ≤ b) wc w' := by
 obtain ⟨A, c, rfl, -, hr⟩ := own_slice ho
 have hc := own_cap ho
 have hszc := hkc.size
 have hdl := hd.lt
 have hll := fun b hb => S.lt hl b hb
 refine (S.append W wc p lq F Fl s lst (hd.keep (hkc.mono fun _ _ _ => trivial)) (S.keep hl (hkc.mono fun _ _ _ => trivial)) hon ha hT (hk.trans hkc) hF hFl hroom (by omega) hnx A c (fun b => w.heap.size ≤ b ∧ b < wc.heap.size) l hr (fun b hb hf => by have := hdl b hf; omega) (fun b hb hf => by have := hll b hf; omega) hc.1 hc.2.1 h1 h2).mono ?_
 rintro e w' ⟨x, F', Fl', s', g, f, n, rfl, a1, a2, a3, a4, a5, a6, a7, a8, a9, a10, a11, a12, a13, a14⟩
 refine ⟨⟨x, rfl, F', Fl', s', g, f, n, a1, a2, a3, a5, a6, a7, a8, a9, (hkc.mono fun _ _ _ => trivial).trans a10, fun b hb => ?_, fun b hb => ?_, fun b hb => ?_, fun b hb => ?_⟩, a10.mono fun b _ hb => ⟨fun hm => by have := hdl b (.inl hm); omega, fun hm => by have := hll b (.inl hm); omega⟩⟩
 ·rcases a11 b hb with h | h
  ·exact .inl h
  ·exact .inr (by omega)
 ·rcases a12 b hb with h | h
  ·exact .inl h
  ·exact .inr (by omega)
 ·rcases a13 b hb with h | h
  ·exact .inl h
  ·exact .inr (by omega)
 ·rcases a14 b hb with h | h
  ·exact .inl h
  ·exact .inr (by omega)
section
variable {w : World} {o : Oper} {a : Act} {Q : Exit → Act → World → Prop} {x y : Operand}
theorem jn_enter {P : Program} {X : World → Value → Prop} {f : FuncId} {args : Array Value} {C : Ending → World → Prop} (e : (execOp a.eval o).run P w = .ok (.enter f args) w) (hc : Calls P f args w C)
  (hC : ∀ e w', C e w' → ∃ v, e = .returned v ∧ X w' v) : o.wp P a w (fun a' w' => ∃ v, a' = a.put o.dst v ∧ X w' v) Q := by
 unfold Oper.wp
 rw [e]
 refine hc.mono fun e w' h => ?_
 obtain ⟨v, rfl, hv⟩ := hC e w' h
 exact ⟨v, rfl, hv⟩
theorem kp_fJ0 {b : Nat} (ho : o.op = .fieldAddr 108 x 0) (hx : a.eval x = .pointer (some ⟨b, 0, none⟩)) : o.wp Tryz.prog a w (fun a' w' => ∃ v, a' = a.put o.dst v ∧ Kp w w' ∧ IsV (.pointer (some ⟨b, 0, none⟩)) w' v) Q := by
 refine kp_yield (v := .pointer (some ⟨b, 0, none⟩)) ?_ (Keeps.refl _ _) rfl
 generalize a.eval = ρ at hx
 unfold execOp
 go_simp
theorem kp_fJ2 {b : Nat} (ho : o.op = .fieldAddr 108 x 2) (hx : a.eval x = .pointer (some ⟨b, 0, none⟩)) : o.wp Tryz.prog a w (fun a' w' => ∃ v, a' = a.put o.dst v ∧ Kp w w' ∧ IsV (.pointer (some ⟨b, 2, none⟩)) w' v) Q := by
 refine kp_yield (v := .pointer (some ⟨b, 2, none⟩)) ?_ (Keeps.refl _ _) rfl
 generalize a.eval = ρ at hx
 unfold execOp
 go_simp
theorem kp_lPos {p : Addr} {A : Option Addr} {n c : Nat} (hc : w.cell? p = some (.slice A n c)) (ho : o.op = .load 106 x) (hx : a.eval x = .pointer (some p)) : o.wp Tryz.prog a w (fun a' w' => ∃ v, a' = a.put o.dst v ∧ Kp w w' ∧ IsV (.slice A n c) w' v) Q := by
 refine kp_yield (v := .slice A n c) ?_ (Keeps.refl _ _) rfl
 generalize a.eval = ρ at hx
 unfold execOp
 go_simp
theorem kp_succ {k : Nat} {z : Int} (h : k ≤ 1000000) (hz : z = (k : Int) + 1) (ho : o.op = .binOp .add 2 x y 2) (hx : a.eval x = .int .i64 (k : Int)) (hy : a.eval y = .int .i64 1) : o.wp Tryz.prog a w (fun a' w' => ∃ v, a' = a.put o.dst v ∧ Kp w w' ∧ IsV (.int .i64 z) w' v) Q := by
 have e : IntKind.i64.wrap ((k : Int) + 1) = (k : Int) + 1 := by rw [IntKind.wrap_i64]; omega
 subst hz
 refine kp_yield (v := .int .i64 ((k : Int) + 1)) ?_ (Keeps.refl _ _) rfl
 generalize a.eval = ρ at hx hy
 unfold execOp
 go_simp
theorem kp_bMark {n : Int} {k : ByteArray} (ho : o.op = .build 72 #[(0, x), (1, y)]) (hx : a.eval x = .int .i64 n) (hy : a.eval y = .string k) : o.wp Tryz.prog a w (fun a' w' => ∃ v, a' = a.put o.dst v ∧ Kp w w' ∧ IsV (.agg #[.int .i64 n, .string k]) w' v) Q := by
 refine kp_yield (v := .agg #[.int .i64 n, .string k]) ?_ (Keeps.refl _ _) rfl
 generalize a.eval = ρ at hx hy
 unfold execOp
 go_simp
theorem kp_ext0 {V : World → Value → Prop} {u v : Value} (ho : o.op = .extract x 0) (hx : a.eval x = .tuple #[u, v]) (hv : V w u) : o.wp Tryz.prog a w (fun a' w' => ∃ v, a' = a.put o.dst v ∧ Kp w w' ∧ V w' v) Q := by
 refine kp_yield (v := u) ?_ (Keeps.refl _ _) hv
 generalize a.eval = ρ at hx
 unfold execOp
 go_simp
theorem kp_ext1 {V : World → Value → Prop} {u v : Value} (ho : o.op = .extract x 1) (hx : a.eval x = .tuple #[u, v]) (hv : V w v) : o.wp Tryz.prog a w (fun a' w' => ∃ v, a' = a.put o.dst v ∧ Kp w w' ∧ V w' v) Q := by
 refine kp_yield (v := v) ?_ (Keeps.refl _ _) hv
 generalize a.eval = ρ at hx
 unfold execOp
 go_simp
end
def VA (S : Slog2) (w0 : World) (p q lq : Nat) (F Fl : Foot) (s : SDev) (lst : LSt) (k : ByteArray) (l : List UInt8) (m : Nat) : Nat → World → Value → Prop
 | 0 => IsV (.pointer (some ⟨q, 0, none⟩))
 | 1 => IsV (.pointer (some ⟨q, 0, none⟩))
 | 2 => IsV (.pointer (some ⟨q, 0, none⟩))
 | 3 => IsV (.pointer (some ⟨lq, 0, none⟩))
 | 4 => IsV (.pointer (some ⟨q, 0, none⟩))
 | 5 => IsV (.int .i64 (m : Int))
 | 6 => IsV (.int .i64 ((m : Int) + 1))
 | 7 => IsV (.string k)
 | 8 => IsV (.agg #[.int .i64 ((m : Int) + 1), .string k])
 | 9 => fun w v => OwnB w w0.heap.size v l
 | 10 => fun w v => ∃ x : Nat, v = .tuple #[.int .i64 (x : Int), .int .i64 0] ∧ JApp S w0 p lq F Fl s lst l x w
 | 11 => fun w v => ∃ x : Nat, v = .tuple #[.int .i64 (x : Int), .int .i64 0] ∧ JApp S w0 p lq F Fl s lst l x w
 | 12 => fun w v => ∃ x : Nat, v = .int .i64 (x : Int) ∧ JApp S w0 p lq F Fl s lst l x w
 | 13 => IsV (.int .i64 0)
 | 14 => fun w v => ∃ x : Nat, v = .int .i64 (x : Int) ∧ JApp S w0 p lq F Fl s lst l x w
 | 15 => IsV (.int .i64 0)
 | _ => fun _ _ => True
section
variable {S : Slog2} {w0 : World} {p q lq : Nat} {F Fl : Foot} {s : SDev} {lst : LSt} {k : ByteArray} {l : List UInt8} {m : Nat}
theorem VA_kp (i : Nat) (w w' : World) (v : Value) (h : Kp w w') (hv : VA S w0 p q lq F Fl s lst k l m i w v) : VA S w0 p q lq F Fl s lst k l m i w' v := by
 match i, hv with
 | 0, hv => exact hv
 | 1, hv => exact hv
 | 2, hv => exact hv
 | 3, hv => exact hv
 | 4, hv => exact hv
 | 5, hv => exact hv
 | 6, hv => exact hv
 | 7, hv => exact hv
 | 8, hv => exact hv
 | 9, hv => exact h.own hv fun _ _ => trivial
 | 10, ⟨x, e, hv⟩ => exact ⟨x, e, hv.keep h⟩
 | 11, ⟨x, e, hv⟩ => exact ⟨x, e, hv.keep h⟩
 | 12, ⟨x, e, hv⟩ => exact ⟨x, e, hv.keep h⟩
 | 13, hv => exact hv
 | 14, ⟨x, e, hv⟩ => exact ⟨x, e, hv.keep h⟩
 | 15, hv => exact hv
 | n + 16, _ => trivial
end
def StA (S : Slog2) (w0 : World) (p lq : Nat) (F Fl : Foot) (s : SDev) (lst : LSt) (l : List UInt8) : Bool → World → Prop
 | false => fun w => Kp w0 w
 | true => fun w => ∃ x, JApp S w0 p lq F Fl s lst l x w
theorem StA_kp {S : Slog2} {w0 : World} {p lq : Nat} {F Fl : Foot} {s : SDev} {lst : LSt} {l : List UInt8} (b : Bool) (w w' : World) (h : Kp w w') (hs : StA S w0 p lq F Fl s lst l b w) : StA S w0 p lq F Fl s lst l b w' := by
 cases b
 ·exact Keeps.trans hs h
 ·obtain ⟨x, hs⟩ := hs
  exact ⟨x, hs.keep h⟩
end Go.Proofs.YticophaepapjoaaGreatDoor
namespace Go.Proofs.YticophaepapjoaaGreatDoor
open Go Go.ChangeShapes Go.WideShapes Go.ChangeAt Go.RowKit
theorem own : ownKnob Tryz.prog.godebug = none := by kernel_rfl
theorem laidOut : laidOutB Tryz.prog = true := by kernel_rfl
theorem gTaken : Tryz.prog.globalNamed "icehouse/crc.taken" = some 0 := by kernel_rfl
theorem tTaken : (Tryz.prog.globals[0]?).map (·.type) = some 266 := by kernel_rfl
abbrev listed : List (String × DataW Unit) := [("icehouse/crc.taken", Rows.laid_icehouse_crc_taken)]
theorem door_met (os : Os) (args : Array Value) : laidMetH Tryz.prog listed ((World.doorLaid Tryz.prog 400 os).forCall (fun _ _ => 0) ⟨#[], args, []⟩).memory :=
 laidMetH_of_parts3 (fuel := 8) (laidMet_of_run' 8 (by kernel_rfl) (by kernel_rfl)) (by kernel_rfl) (by kernel_rfl)
def tab : List (DataW Unit) := (List.range 16).map fun i => .lit (.int .u32 ((tbits 4 i : Nat) : Int))
theorem tab_is : (Rows.laid_icehouse_crc_taken : DataW Unit) = .agg tab := by kernel_rfl
theorem taken_of {W : World} (h : laidMetH Tryz.prog listed W) : Taken W := by
 rw [MakeChecks.laidMetH_plain _ _ _ (by kernel_rfl)] at h
 obtain ⟨ps, ⟨g0, t0, cs0, f0, p0, q0, hg0, ht0, hv0, hd0, _⟩, _⟩ := h
 obtain rfl := Option.some.inj (gTaken.symm.trans hg0)
 obtain rfl := Option.some.inj (tTaken.symm.trans ht0)
 rw [tab_is] at hd0
 obtain ⟨xs, m, rfl, hx, hlen, hn, hel⟩ := DataW.trod_array Tryz.underlying266 hd0
 have c1 : Tryz.prog.cellsOf 217 = 1 := by kernel_rfl
 simp only [Prod.mk.injEq, DataW.agg.injEq] at hx
 intro i hi
 have he := hel i hi
 rw [c1, Nat.mul_one] at he
 have hxi : i < xs.length := by omega
 rw [List.getElem?_eq_getElem hxi] at he
 obtain ⟨n, e1, e2, _⟩ := DataW.trod_int Tryz.underlying217 he
 have e3 : (xs.map (·.1))[i]? = some (.lit (.int .u32 n)) := by rw [List.getElem?_map, List.getElem?_eq_getElem hxi, e2]; rfl
 rw [← hx.1] at e3
 have e4 : tab[i]? = some (.lit (.int .u32 ((tbits 4 i : Nat) : Int))) := by unfold tab; simp [hi]
 rw [e4] at e3
 have hk : n = ((tbits 4 i : Nat) : Int) := by injection e3 with e; injection e with e; injection e with _ e; exact e.symm
 have hc := World.var?_cell hg0 hv0 i
 rw [hc]
 have e5 : cs0.toList[i]? = some (.int .u32 n) := by
  have := congrArg (·[0]?) e1
  simpa [List.getElem?_take, List.getElem?_drop] using this
 rw [← Array.getElem?_toList, e5, hk]
end Go.Proofs.YticophaepapjoaaGreatDoor
namespace Go.Proofs.YticophaepapjoaaGreatDoor
open Go Go.RowKit Go.Joins Go.ChangeShapes Go.WideShapes Go.ChangeAt
def It.came (x : It) : Prop := x.key.size ≤ maxLen ∧ x.val.size ≤ maxLen ∧ -9223372036854775808 ≤ x.till ∧ x.till < 9223372036854775808
theorem open_item {H : Type} {enc : TypeId × Value → H} {W : World} {v : Value} {d : DataW H} {ps : List MemPlace} {base : Nat}
  (hok : Value.okWide Tryz.prog W .any base 40 v) (h : DataW.Trod enc Tryz.prog W 0 (fun _ => true) true 40 v d ps) :
  ∃ x : It, v = .agg #[.string x.key, .string x.val, .int .i64 x.till, .bool x.gone] ∧ x.came := by
 obtain ⟨c0, c1, c2, c3, y0, y1, y2, y3, n, rfl, -, -, h0, h1, h2, h3⟩ := open_agg4 Tryz.underlying40 (by kernel_rfl) (by kernel_rfl) hok h
 obtain ⟨s0, q0, -, w0⟩ := DataW.trod_string Tryz.underlying9 h0
 obtain ⟨s1, q1, -, w1⟩ := DataW.trod_string Tryz.underlying9 h1
 obtain ⟨n2, q2, -, w2⟩ := DataW.trod_int Tryz.underlying2 h2
 obtain ⟨b3, q3, -⟩ := DataW.trod_bool Tryz.underlying4 h3
 have p0 := (List.cons.inj q0).1
 have p1 := (List.cons.inj q1).1
 have p2 := (List.cons.inj q2).1
 have p3 := (List.cons.inj q3).1
 subst p0 p1 p2 p3
 have hb := bounds_i64 w2
 exact ⟨⟨s0, s1, n2, b3⟩, rfl, w0, w1, hb.1, Int.lt_of_le_of_lt hb.2 (by decide)⟩
end Go.Proofs.YticophaepapjoaaGreatDoor
