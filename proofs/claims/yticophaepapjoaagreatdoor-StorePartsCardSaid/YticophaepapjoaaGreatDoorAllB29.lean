/-
  StMake, FlFind, FlGet: texts of mine, joined.
-/
import Derived.Test.YticophaepapjoaaGreatDoorAllB28
import Derived.Test.YticophaepapjoaaGreatDoorAllB27
open Go.Lib renaming hid → Hd
set_option maxRecDepth 100000
set_option maxHeartbeats 8000000
namespace Go.Proofs.YticophaepapjoaaGreatDoor
open Go Go.RowKit Go.Joins
section
variable {S : FlashOK} {J : JournalOK} {W w w' : World} {p b q1 q2 q3 k wh n d c : Nat} {F F' : Foot} {s : SDev} {z : Sto} {X : Nat → Prop}
structure MkSt (w wr : World) (p : Nat) (F : Foot) (s : SDev) (n i : Nat) (F' : Foot) (s' : SDev) : Prop where
 d : DAt wr p F' s'
 st : Step F F' w wr
 len : s'.now.length = n
 one : 1 ≤ i → ∀ j, j < 2 → s'.now.getD j [] = blank
 two : 2 ≤ i → ∀ j, j < 162 + 8 * segsOf n → s'.now.getD j [] = blank
 calls : s'.calls ≤ s.calls + 3000 * i
theorem MkSt.keep {wr w2 : World} {i : Nat} {s' : SDev} (h : MkSt w wr p F s n i F' s') (hk : Kp wr w2) : MkSt w w2 p F s n i F' s' :=
 { h with d := h.d.keep (hk.mono fun _ _ _ => trivial), st := h.st.trans (Step.of_keeps hk F') }
theorem MkSt.first {wr w2 : World} {F2 : Foot} {s' : SDev} {rows : List (List UInt8)} {c : Nat} (h : MkSt w wr p F s n 0 F' s') (hd : DAt w2 p F2 (SDev.still rows c)) (hb : SBl s'.now rows 0 2) (hc : c ≤ s'.calls + 3000) (hs : Step F' F2 wr w2) : MkSt w w2 p F s n 1 F2 (SDev.still rows c) := by
 refine ⟨hd, h.st.trans hs, hb.len.trans h.len, fun _ j hj => hb.yes j (Nat.zero_le _) hj, fun h => by omega, ?_⟩
 have := h.calls
 show c ≤ _; omega
theorem MkSt.second {wr w2 : World} {F2 : Foot} {s' : SDev} {rows : List (List UInt8)} {c : Nat} (h : MkSt w wr p F s n 1 F' s') (hd : DAt w2 p F2 (SDev.still rows c)) (hb : SBl s'.now rows 2 (162 + 8 * segsOf n)) (hc : c ≤ s'.calls + 3000) (hs : Step F' F2 wr w2) : MkSt w w2 p F s n 2 F2 (SDev.still rows c) := by
 refine ⟨hd, h.st.trans hs, hb.len.trans h.len, fun _ j hj => ?_, fun _ j hj => ?_, ?_⟩
 ·exact (hb.no j (.inl hj)).trans (h.one (Nat.le_refl _) j hj)
 ·by_cases h2 : j < 2
  ·exact (hb.no j (.inl h2)).trans (h.one (Nat.le_refl _) j h2)
  ·exact hb.yes j (by omega) hj
 ·have := h.calls
  show c ≤ _; omega
def MadePost (S : FlashOK) (J : JournalOK) (W w : World) (p n c : Nat) (X : Nat → Prop) (e : Ending) (w' : World) : Prop :=
 ∃ b q1 q2 k c', e = .returned (.tuple #[.pointer (some ⟨b, 0, none⟩), .int .i64 0]) ∧ StAt S J W w' p b q1 q2 k ⟨⟨162, segsOf n, [], 0, 1⟩, ⟨2, 20, [], 0, 32, 1⟩, 2, ⟨1, 0, 0, false⟩, 1, c'⟩ n 1 X ∧ c' ≤ c + 10000 ∧ Keeps X w w'
theorem made_tail (hS : S.T W) (hJ : J.T W) (hT : theSup.T W) {wr : World} {s' : SDev} (h : Dv W w p F s) (hX : ∀ b, X b → ¬ F.all b ∧ b < w.heap.size) (h1 : 192 ≤ n) (hc : s.calls ≤ 200000000000) (hm : MkSt w wr p F s n 2 F' s') :
  Calls Tryz.prog 38 #[.pointer (some ⟨p, 0, none⟩), .int .i64 0] wr fun e w2 => ∃ k, e = .returned (.tuple #[.pointer (some ⟨k, 0, none⟩), .int .i64 0]) ∧
   Calls Tryz.prog 39 #[.pointer (some ⟨p, 0, none⟩), .pointer (some ⟨k, 0, none⟩)] w2 (MadePost S J W w p n s.calls X) := by
 have hdv := h.step hm.d hm.st
 have hroom := segs_room h1
 have hlen := hm.len
 have hcl := hm.calls
 refine (kmake_yes W wr hT p F' s' hdv 0 (by rw [hm.len]; omega) (by omega)).mono ?_
 rintro e w2 ⟨q3, k, F2, Fs, c2, rfl, hK, hc2, hst, hfs, hk⟩
 refine ⟨k, rfl, ?_⟩
 have hst2 := hm.st.trans hst
 have hs1 := hm.st.keeps.size
 have hs2 := hst.keeps.size
 have hrow : ∀ i, 2 ≤ i → i < 162 + 8 * segsOf n → (SDev.still ((s'.now.set 0 (theSup.enc 1 (encM m0))).set (0 + 1) blank) c2).now.getD i [] = blank := fun i h2 h3 => by
  show ((s'.now.set 0 _).set 1 blank).getD i [] = _
  rw [set_getD_ne _ _ _ _ (by omega), set_getD_ne _ _ _ _ (by omega)]
  exact hm.two (Nat.le_refl _) i h3
 have hln : (SDev.still ((s'.now.set 0 (theSup.enc 1 (encM m0))).set (0 + 1) blank) c2).now.length = n := by
  show ((s'.now.set 0 _).set 1 blank).length = n
  rw [List.length_set, List.length_set]; exact hm.len
 have hXX : ∀ c, X c → ¬ F2.all c ∧ ¬ (kfoot k Fs).all c ∧ c < w2.heap.size := fun c hx => by
  have h5 := (hX c hx).2
  refine ⟨fun hf => ?_, fun hf => ?_, by omega⟩
  ·rcases hst2.all c hf with h6 | h6
   ·exact (hX c hx).1 h6
   ·omega
  ·rcases kfoot_all.1 hf with hf | rfl
   ·have := hfs c hf; omega
   ·omega
 have ho : Oth theSup (SDev.still ((s'.now.set 0 (theSup.enc 1 (encM m0))).set (0 + 1) blank) c2).now ⟨p, 0, 0, 1, encM m0⟩ := oth_make (S := theSup) (rows := s'.now) p 0 _ _ (by rw [hm.len]; omega)
 have hkW := hK.du.dv
 refine (sstart (X := X) hT hK ho hln h1 hXX _ _ (jopens_new (J.tk hJ (Keeps.refl _ W)) hkW (by rw [hln]; exact h1) fun i a b => hrow i a (by unfold segsOf; omega)) (copens_new hS hkW hln h1 fun i a b => hrow i (by omega) b) (by show (0 : Int) < _; decide) (by decide) (by show c2 ≤ _; omega)).mono ?_
 intro e w3 hs
 obtain ⟨b, q1, q2, k', rfl, hat, hkx⟩ := started_new (by decide) hrow hs
 refine ⟨b, q1, q2, k', _, rfl, hat, ?_, Keeps.trans (hst2.keeps.mono fun c _ hc hm => (hX c hc).1 (.inl hm)) hkx⟩
 show c2 + 100 ≤ _
 omega
theorem stmake_any (hS : S.T W) (hJ : J.T W) (hT : theSup.T W) (h : Dv W w p F s) (hn : s.now.length = n) (hX : ∀ b, X b → ¬ F.all b ∧ b < w.heap.size) (h1 : 192 ≤ n) (hc : s.calls ≤ 200000000000) :
  Calls Tryz.prog 11 #[.pointer (some ⟨p, 0, none⟩)] w (MadePost S J W w p n s.calls X) := by
 have hsm : n ≤ 2048 := by rw [← hn]; exact h.d.ok.small
 have hroom := segs_room h1
 have HL := Hd (dlen_any w p F s h.d)
 have HCS := Hd (csegs_any w p F s h.d n hn h1 hsm)
 have HLT := Hd h.d.lt
 have HT := Hd (show ∀ (wr : World) (F' : Foot) (s' : SDev), MkSt w wr p F s n 2 F' s' → _ from fun wr F' s' hm => made_tail (X := X) hS hJ hT h hX h1 hc hm)
 have HB1 := Hd (show ∀ (wr : World) (F' : Foot) (s' : SDev), MkSt w wr p F s n 0 F' s' → Calls Tryz.prog 37 #[.pointer (some ⟨p, 0, none⟩), .int .i64 0, .int .i64 2] wr fun e w' => e = .returned (.int .i64 0) ∧ ∃ (F2 : Foot) (s2 : SDev), MkSt w w' p F s n 1 F2 s2 ∧ Step F' F2 wr w' from fun wr F' s' hm =>
  (sblank_any wr p F' s' hm.d 0 2 (by decide) (by rw [hm.len]; omega) (by have := hm.calls; omega) 0 2 rfl rfl).mono fun e w' ⟨he, F2, rows, c, a1, a2, a3, a4⟩ => ⟨he, F2, _, hm.first a1 a2 a3 a4, a4⟩)
 have HB2 := Hd (show ∀ (wr : World) (F' : Foot) (s' : SDev), MkSt w wr p F s n 1 F' s' → Calls Tryz.prog 37 #[.pointer (some ⟨p, 0, none⟩), .int .i64 2, .int .i64 (162 + (segsOf n : Int) * 8)] wr fun e w' => e = .returned (.int .i64 0) ∧ ∃ (F2 : Foot) (s2 : SDev), MkSt w w' p F s n 2 F2 s2 ∧ Step F' F2 wr w' from fun wr F' s' hm =>
  (sblank_any wr p F' s' hm.d 2 (162 + 8 * segsOf n) (by omega) (by rw [hm.len]; omega) (by have := hm.calls; omega) 2 (162 + (segsOf n : Int) * 8) rfl (by omega)).mono fun e w' ⟨he, F2, rows, c, a1, a2, a3, a4⟩ => ⟨he, F2, _, hm.second a1 a2 a3 a4, a4⟩)
 have HM0 := Hd (show ∀ wr, Kp w wr → MkSt w wr p F s n 0 F s from fun wr hk => ⟨h.d.keep (hk.mono fun _ _ _ => trivial), Step.of_keeps hk F, hn, fun h => by omega, fun h => by omega, by omega⟩)
 have hsg : (segsOf n : Int) ≤ 200 := by unfold segsOf; omega
 have hsg0 : (0 : Int) ≤ (segsOf n : Int) := by omega
 have hn192 : ¬ ((n : Int) < 192) := by omega
 rw [hn] at HL
 clear h hn hX hc hS hJ hT h1 hsm hroom
 go_enter Tryz.func11, Tryz.ntmps11
 go_wp2_with fail
 refine (show Calls _ _ _ _ _ from HL.out).mono ?_
 rintro e w' ⟨rfl, rfl⟩
 clear HL
 go_wp2_with fail
 refine (show Calls _ _ _ _ _ from HCS.out).mono ?_
 rintro e w' ⟨rfl, rfl⟩
 clear HCS
 go_wp2_with fail
 obtain ⟨l3, hl3⟩ : ∃ l3 : Int, 162 + (segsOf n : Int) * 8 = l3 := ⟨_, rfl⟩
 rw [hl3] at HB2 ⊢
 have hka : Kp w (w.alloc (.cells #[.int .i64 0, .int .i64 2, .int .i64 2, .int .i64 l3] 77)) := (Keeps.refl _ w).alloc _
 have hba := heap_alloc_new w (.cells #[.int .i64 0, .int .i64 2, .int .i64 2, .int .i64 l3] 77)
 have hsa : (w.alloc (.cells #[.int .i64 0, .int .i64 2, .int .i64 2, .int .i64 l3] 77)).heap.size = w.heap.size + 1 := by simp
 have HS1 := Hd (HM0.out _ hka)
 have HG1 := Hd (show ¬ F.all w.heap.size ∧ w.heap.size < (w.alloc (.cells #[.int .i64 0, .int .i64 2, .int .i64 2, .int .i64 l3] 77)).heap.size from ⟨fun hf => by have := HLT.out _ hf; omega, by omega⟩)
 have HB := Hd hba
 clear hka hba hsa hl3 HM0 HLT hsg hsg0 hn192
 generalize w.alloc (.cells #[.int .i64 0, .int .i64 2, .int .i64 2, .int .i64 l3] 77) = w1 at *
 obtain ⟨g, hg⟩ : ∃ g, w.heap.size = g := ⟨_, rfl⟩
 rw [hg] at HG1 HB ⊢
 clear hg
 go_loopw [20] (fun i wr => ∃ (k : Nat) (F' : Foot) (s' : SDev), k ≤ 2 ∧ i = .int .i64 (k : Int) ∧ Hid (MkSt w wr p F s n k F' s') ∧ Hid (¬ F'.all g ∧ g < wr.heap.size) ∧ Hid (wr.heap[g]? = some (.cells #[.int .i64 0, .int .i64 2, .int .i64 2, .int .i64 l3] 77 (0, 0)))) (fun i _ => 2 - (intOf i).toNat)
 case atStart => exact ⟨0, F, s, by decide, rfl, HS1, HG1, HB⟩
 case round =>
  clear HS1 HG1 HB
  obtain ⟨k, F', s', hk, rfl, HM, HG, HB⟩ := hrel
  have HN := Hd (show ∀ (wn w2 : World) (F2 : Foot), Kp wr wn → Step F' F2 wn w2 → (¬ F2.all g ∧ g < w2.heap.size) ∧ w2.heap[g]? = some (.cells #[.int .i64 0, .int .i64 2, .int .i64 2, .int .i64 l3] 77 (0, 0)) from fun wn w2 F2 hk1 hst => by
   have h1 := hk1.size
   have h2 := hst.keeps.size
   have h3 := HG.out.2
   refine ⟨⟨fun hf => ?_, by omega⟩, ?_⟩
   ·rcases hst.all g hf with h4 | h4
    ·exact HG.out.1 h4
    ·omega
   ·rw [hst.keeps.block g (fun hm => HG.out.1 (.inl hm)) (by omega), hk1.block g trivial h3]; exact HB.out)
  have c0 : wr.cell? ⟨g, 0, none⟩ = some (.int .i64 0) := (cell_of_block HB.out 0).trans rfl
  have c1 : wr.cell? ⟨g, 1, none⟩ = some (.int .i64 2) := (cell_of_block HB.out 1).trans rfl
  have c2 : wr.cell? ⟨g, 2, none⟩ = some (.int .i64 2) := (cell_of_block HB.out 2).trans rfl
  have c3 : wr.cell? ⟨g, 3, none⟩ = some (.int .i64 l3) := (cell_of_block HB.out 3).trans rfl
  have hcase : k = 0 ∨ k = 1 ∨ k = 2 := by omega
  clear HB
  rcases hcase with rfl | rfl | rfl
  ·clear c2 c3 HB2 HT
   go_wp2_with fail
   have hka : Kp wr (wr.alloc (.cells #[.int .i64 0, .int .i64 2] 77)) := (Keeps.refl _ wr).alloc _
   have HMa := Hd (HM.out.keep hka)
   have HKa := Hd hka
   clear hka c0 c1 HM
   generalize wr.alloc (.cells #[.int .i64 0, .int .i64 2] 77) = wa at *
   refine (show Calls _ _ _ _ _ from HB1.out _ _ _ HMa.out).mono ?_
   rintro e w2 ⟨rfl, F2, s2, hm2, hst2⟩
   have HE := Hd (HN.out _ _ _ HKa.out hst2)
   have HM2 := Hd hm2
   clear hm2 hst2 HN HKa HMa HG
   go_wp2_with fail
   go_roundw
   case rel => exact ⟨1, F2, s2, by decide, rfl, HM2, Hd HE.out.1, Hd HE.out.2⟩
   case measure => decide
  ·clear c0 c1 HB1 HT
   go_wp2_with fail
   have hka : Kp wr (wr.alloc (.cells #[.int .i64 2, .int .i64 l3] 77)) := (Keeps.refl _ wr).alloc _
   have HMa := Hd (HM.out.keep hka)
   have HKa := Hd hka
   clear hka c2 c3 HM
   generalize wr.alloc (.cells #[.int .i64 2, .int .i64 l3] 77) = wa at *
   refine (show Calls _ _ _ _ _ from HB2.out _ _ _ HMa.out).mono ?_
   rintro e w2 ⟨rfl, F2, s2, hm2, hst2⟩
   have HE := Hd (HN.out _ _ _ HKa.out hst2)
   have HM2 := Hd hm2
   clear hm2 hst2 HN HKa HMa HG
   go_wp2_with fail
   go_roundw
   case rel => exact ⟨2, F2, s2, by decide, rfl, HM2, Hd HE.out.1, Hd HE.out.2⟩
   case measure => decide
  ·have HTT := Hd (HT.out _ _ _ HM.out)
   clear c0 c1 c2 c3 HB1 HB2 HT HN HG HM
   go_wp2_with fail
   refine (show Calls _ _ _ _ _ from HTT.out).mono ?_
   rintro e w2 ⟨k, rfl, hs⟩
   have HS := Hd hs
   clear hs HTT
   go_wp2_with fail
   refine (show Calls _ _ _ _ _ from HS.out).mono ?_
   rintro e w3 ⟨b, q1, q2, k', c', rfl, hat, hc', hkx⟩
   have HE := Hd (And.intro hat (And.intro hc' hkx))
   clear hat hc' hkx HS
   go_wp2_with fail
   go_ret2
   exact ⟨b, q1, q2, k', c', rfl, HE.out.1, HE.out.2.1, HE.out.2.2⟩
end
def findE (st : FSt) (k : ByteArray) : Ending :=
 match st.at_ k with
 | some x => .returned (.tuple #[.agg #[.string x.key, .string x.val, .int .i64 x.till, .bool x.gone], .bool true])
 | none => .returned (.tuple #[.agg #[.string ⟨#[]⟩, .string ⟨#[]⟩, .int .i64 0, .bool false], .bool false])
theorem cfind (S : Slog2) (I : IndexOK) (J : ItemOK) (w : World) (hT : S.T w ∧ I.T w ∧ J.T w) (p q : Nat) (F Fs : Foot) (s : SDev) (st : FSt) (hd : DAt w p F s) (hr : flashRep S I w p q Fs st s) (ha : Apart F Fs) (hroom : st.place + 8 * st.segs ≤ s.now.length) (hage : st.age ≤ 30000) (k : ByteArray) (hk : k.size ≤ 1000000) :
  Calls Tryz.prog 57 #[.pointer (some ⟨q, 0, none⟩), .string k] w fun e w' => e = findE st k ∧ Kp w w' := by
 obtain ⟨lq, iq, Fl, lst, hs, v, b, c0, c1, hl, hon, hal, hpl, hsg, hrecs, hat, hmay, hv, hbb, hget⟩ := cplace S I hT.2.1 hr ha hage k hk
 obtain ⟨w0, hw0⟩ : ∃ w0, w.alloc (.cells itZ 40) = w0 := ⟨_, rfl⟩
 have HW0 := Hd (show w.alloc (.cells #[.string ⟨#[]⟩, .string ⟨#[]⟩, .int .i64 0, .bool false] 40) = w0 from hw0)
 have hb0 : w0.heap[w.heap.size]? = some (.cells itZ 40 (0, 0)) := by rw [← hw0]; exact heap_alloc_new w _
 have hk0 : Kp w w0 := by rw [← hw0]; exact (Keeps.refl _ w).alloc _
 have hz0 : w.heap.size < w0.heap.size := by rw [← hw0]; simp
 have HB0 := Hd hb0
 have HK0 := Hd hk0
 have HZ0 := Hd hz0
 have d0 := hk0.cell c0 trivial
 have d1 := hk0.cell c1 trivial
 have HDN := Hd (cdown w0 q lq d0)
 have HGT := Hd (hget w0 hk0)
 cases hsp : sp (hs.drop lst.gone) k with
 | none =>
  have he : findE st k = .returned (.tuple #[.agg #[.string ⟨#[]⟩, .string ⟨#[]⟩, .int .i64 0, .bool false], .bool false]) := by
   unfold findE
   rw [hat, hsp]
   rfl
  have hb2 : b = false := by rw [hbb, hsp]; rfl
  subst hb2
  rw [he]
  clear hat hsp hbb hv hrecs hmay hl hon hal hpl hsg hget hd hr ha hroom hk0 hb0 hz0 hw0 he
  go_enter Tryz.func57, Tryz.ntmps57
  go_wp2_with (rw [HW0.out])
  try rw [HW0.out]
  refine (show Calls _ _ _ _ _ from HDN.out).mono ?_
  rintro e w' ⟨rfl, rfl⟩
  go_wp2_with fail
  refine (show Calls _ _ _ _ _ from HGT.out).mono ?_
  rintro e w1 ⟨rfl, hk1⟩
  have hb1 := (hk1.block w.heap.size trivial HZ0.out).trans HB0.out
  have HRES := res4 w w1 hb1 (HK0.out.trans hk1)
  obtain ⟨f0, f1, f2, f3, r0, r1, r2, r3⟩ := res4u w w1 hb1
  clear hb1 hk1
  obtain ⟨e0, e1, e2, e3, HK⟩ := HRES.out (.string ⟨#[]⟩) (.string ⟨#[]⟩) (.int .i64 0) (.bool false)
  have HKK := Hd HK
  clear HK
  go_wp2_with fail
  exact bodyPost_ret (v := .tuple #[.agg #[.string ⟨#[]⟩, .string ⟨#[]⟩, .int .i64 0, .bool false], .bool false]) (by simp [results, Tryz.results57, go_sem, e0, e1, e2, e3]) rfl ⟨rfl, HKK.out⟩
 | some y =>
  obtain ⟨po, x⟩ := y
  obtain ⟨hmem, hkey, hgone⟩ := sp_mem hsp
  have hxm := hmay po x (List.mem_of_mem_drop hmem)
  have he : findE st k = .returned (.tuple #[.agg #[.string x.key, .string x.val, .int .i64 x.till, .bool x.gone], .bool true]) := by
   unfold findE
   rw [hat, hsp]
   rfl
  have hb2 : b = true := by rw [hbb, hsp]; rfl
  have hv2 : v = (po : Int) := by rw [hv, hsp]; rfl
  subst hb2
  subst hv2
  rw [he]
  have hrec : (po, x.bytes) ∈ lst.recs := by rw [hrecs]; exact List.mem_map.2 ⟨_, hmem, rfl⟩
  have HRD := Hd (show ∀ w1, Kp w w1 → Calls Tryz.prog 85 #[.pointer (some ⟨lq, 0, none⟩), .int .i64 (po : Int)] w1 fun e w' => ∃ A n c, e = .returned (.tuple #[.slice A n c, .int .i64 0]) ∧ n = x.bytes.length ∧ n ≤ c ∧ c ≤ maxLen ∧ Row w' A (fun _ => True) (bcells x.bytes) ∧ Kp w1 w' from fun w1 hk1 => by
   refine (S.read w1 p lq F Fl s lst (hd.keep (hk1.mono fun _ _ _ => trivial)) (S.keep hl (hk1.mono fun _ _ _ => trivial)) hon hal (S.tk hT.1 hk1) (by rw [hpl, hsg]; exact hroom) po x.bytes hrec).mono ?_
   rintro e w' ⟨A, c, rfl, h1, h2, h3, -, h4⟩
   exact ⟨A, _, c, rfl, rfl, h1, h2, h3.mono fun _ _ _ => trivial, h4⟩)
  have HEN := Hd (show ∀ w1, Kp w w1 → ∀ (A : Option Addr) (n c : Nat), Row w1 A (fun _ => True) (bcells x.bytes) → n = x.bytes.length → n ≤ c → c ≤ maxLen → _ from fun w1 (hk1 : Kp w w1) A n c hr hn h1 h2 => centry J w1 (J.tk hT.2.2 hk1) A n c x hxm hr hn h1 h2)
  clear hat hsp hbb hv hrecs hmay hl hon hal hpl hsg hget hd hr ha hroom hk0 hb0 hz0 hw0 he hmem hkey hxm hrec hgone
  go_enter Tryz.func57, Tryz.ntmps57
  go_wp2_with (rw [HW0.out])
  try rw [HW0.out]
  refine (show Calls _ _ _ _ _ from HDN.out).mono ?_
  rintro e w' ⟨rfl, rfl⟩
  go_wp2_with fail
  refine (show Calls _ _ _ _ _ from HGT.out).mono ?_
  rintro e w1 ⟨rfl, hk1⟩
  replace d0 := hk1.cell d0 trivial
  have HK1 := Hd hk1
  clear hk1 d1
  go_wp2_with fail
  refine (show Calls _ _ _ _ _ from HRD.out w1 (HK0.out.trans HK1.out)).mono ?_
  rintro e w2 ⟨A, n, c, rfl, hn, h1, h2, h3, hk2⟩
  have HK2 := Hd (HK1.out.trans hk2)
  have HE2 := Hd (HEN.out w2 (HK0.out.trans HK2.out) A n c h3 hn h1 h2)
  clear hk2 hn h1 h2 h3 d0
  go_wp2_with fail
  refine (show Calls _ _ _ _ _ from HE2.out).mono ?_
  rintro e w3 ⟨rfl, hk3⟩
  have hk30 := HK2.out.trans hk3
  have hb1 := (hk30.block w.heap.size trivial HZ0.out).trans HB0.out
  have HRES := res4 w w3 hb1 (HK0.out.trans hk30)
  obtain ⟨f0, f1, f2, f3, r0, r1, r2, r3⟩ := res4u w w3 hb1
  clear hb1 hk3 hk30
  obtain ⟨e0, e1, e2, e3, HK⟩ := HRES.out (.string x.key) (.string x.val) (.int .i64 x.till) (.bool x.gone)
  have HKK := Hd HK
  clear HK
  go_wp2_with fail
  exact bodyPost_ret (v := .tuple #[.agg #[.string x.key, .string x.val, .int .i64 x.till, .bool x.gone], .bool true]) (by simp [results, Tryz.results57, go_sem, e0, e1, e2, e3]) rfl ⟨rfl, HKK.out⟩
theorem cget (S : Slog2) (I : IndexOK) (J : ItemOK) (w : World) (hT : S.T w ∧ I.T w ∧ J.T w) (p q : Nat) (F Fs : Foot) (s : SDev) (st : FSt) (hd : DAt w p F s) (hr : flashRep S I w p q Fs st s) (ha : Apart F Fs) (hroom : st.place + 8 * st.segs ≤ s.now.length) (hage : st.age ≤ 30000) (k : ByteArray) (now : Int) (hk : k.size ≤ 1000000) (hn1 : -9223372036854775808 ≤ now) (hn2 : now < 9223372036854775808) :
  Calls Tryz.prog 25 #[.pointer (some ⟨q, 0, none⟩), .string k, .int .i64 now] w fun e w' => e = getE st k now ∧ Kp w w' := by
 have hmay : ∀ x, st.at_ k = some x → x.may = true := fun x hx => by
  obtain ⟨lq, iq, Fl, Fi, lo, lst, ix, hs, rfl, hc, hm, -⟩ := hr
  rw [hm.at_ k] at hx
  cases hsp : sp (hs.drop lst.gone) k with
  | none => rw [hsp] at hx; cases hx
  | some y =>
   obtain ⟨po, z⟩ := y
   rw [hsp] at hx
   cases hx
   exact hm.may po z (List.mem_of_mem_drop (sp_mem hsp).1)
 obtain ⟨w0, hw0⟩ : ∃ w0, w.alloc (.cells itZ 40) = w0 := ⟨_, rfl⟩
 have HW0 := Hd (show w.alloc (.cells #[.string ⟨#[]⟩, .string ⟨#[]⟩, .int .i64 0, .bool false] 40) = w0 from hw0)
 have hb0 : w0.heap[w.heap.size]? = some (.cells itZ 40 (0, 0)) := by rw [← hw0]; exact heap_alloc_new w _
 have hk0 : Kp w w0 := by rw [← hw0]; exact (Keeps.refl _ w).alloc _
 have hz0 : w.heap.size < w0.heap.size := by rw [← hw0]; simp
 have HB0 := Hd hb0
 have HK0 := Hd hk0
 have HZ0 := Hd hz0
 have hf := cfind S I J w0 ⟨S.tk hT.1 hk0, I.tk hT.2.1 hk0, J.tk hT.2.2 hk0⟩ p q F Fs s st (hd.keep (hk0.mono fun _ _ _ => trivial)) (frep_keep hr (hk0.mono fun _ _ _ => trivial)) ha hroom hage k hk
 have HJ := Hd hT.2.2
 have HMAY := Hd hmay
 unfold getE
 unfold findE at hf
 clear hd hr ha hroom hage hT hmay hw0 hb0 hk0 hz0
 cases hat : st.at_ k with
 | none =>
  rw [hat] at hf
  obtain ⟨z, hz⟩ : ∃ z : It, z = ⟨⟨#[]⟩, ⟨#[]⟩, 0, false⟩ := ⟨_, rfl⟩
  have HF := Hd (show Calls Tryz.prog 57 #[.pointer (some ⟨q, 0, none⟩), .string k] w0 (fun e w' => e = .returned (.tuple #[.agg #[.string z.key, .string z.val, .int .i64 z.till, .bool z.gone], .bool false]) ∧ Kp w0 w') from by
   subst hz
   exact hf)
  clear hf hat hz
  simp only
  go_enter Tryz.func25, Tryz.ntmps25
  go_wp2_with (rw [HW0.out])
  try rw [HW0.out]
  refine (show Calls _ _ _ _ _ from HF.out).mono ?_
  rintro e w1 ⟨rfl, hk1⟩
  obtain ⟨w2, hw2⟩ : ∃ w2, w1.alloc (.cells #[.string z.key, .string z.val, .int .i64 z.till, .bool z.gone] 40) = w2 := ⟨_, rfl⟩
  have hk2 : Kp w1 w2 := by rw [← hw2]; exact (Keeps.refl _ w1).alloc _
  have hk12 := hk1.trans hk2
  have hb1 := (hk12.block w.heap.size trivial HZ0.out).trans HB0.out
  have HRES := res4 w w2 hb1 (HK0.out.trans hk12)
  obtain ⟨f0, f1, f2, f3, r0, r1, r2, r3⟩ := res4u w w2 hb1
  have HW2 := Hd hw2
  clear hb1 hk1 hk2 hk12 hw2
  obtain ⟨e0, e1, e2, e3, HK⟩ := HRES.out (.string ⟨#[]⟩) (.string ⟨#[]⟩) (.int .i64 0) (.bool false)
  have HKK := Hd HK
  clear HK
  go_wp2_with (rw [HW2.out])
  try rw [HW2.out]
  all_goals exact bodyPost_ret (v := .tuple #[.agg #[.string ⟨#[]⟩, .string ⟨#[]⟩, .int .i64 0, .bool false], .bool false]) (by simp [results, Tryz.results25, go_sem, e0, e1, e2, e3]) rfl ⟨rfl, HKK.out⟩
 | some x =>
  rw [hat] at hf
  have HF := Hd hf
  have hxm := HMAY.out x hat
  have HLV := Hd (show ∀ w1, Kp w w1 → _ from fun w1 (hk1 : Kp w w1) => J.live w1 x now (J.tk HJ.out hk1) (It.may_fits hxm) hn1 hn2)
  clear hf hat hxm
  simp only
  simp only at HF
  go_enter Tryz.func25, Tryz.ntmps25
  go_wp2_with (rw [HW0.out])
  try rw [HW0.out]
  refine (show Calls _ _ _ _ _ from HF.out).mono ?_
  rintro e w1 ⟨rfl, hk1⟩
  obtain ⟨w2, hw2⟩ : ∃ w2, w1.alloc (.cells #[.string x.key, .string x.val, .int .i64 x.till, .bool x.gone] 40) = w2 := ⟨_, rfl⟩
  have hk2 : Kp w1 w2 := by rw [← hw2]; exact (Keeps.refl _ w1).alloc _
  have hb2 : w2.heap[w1.heap.size]? = some (.cells #[.string x.key, .string x.val, .int .i64 x.till, .bool x.gone] 40 (0, 0)) := by rw [← hw2]; exact heap_alloc_new w1 _
  have HB2 := Hd hb2
  have HK12 := Hd (hk1.trans hk2)
  have x0 : w2.cell? ⟨w1.heap.size, 0, none⟩ = some (.string x.key) := (cell_of_block hb2 0).trans rfl
  have x1 : w2.cell? ⟨w1.heap.size, 1, none⟩ = some (.string x.val) := (cell_of_block hb2 1).trans rfl
  have x2 : w2.cell? ⟨w1.heap.size, 2, none⟩ = some (.int .i64 x.till) := (cell_of_block hb2 2).trans rfl
  have x3 : w2.cell? ⟨w1.heap.size, 3, none⟩ = some (.bool x.gone) := (cell_of_block hb2 3).trans rfl
  have HW2 := Hd hw2
  have HLV2 := Hd (HLV.out w2 (HK0.out.trans HK12.out))
  clear hk1 hk2 hw2 hb2
  go_wp2_with (rw [HW2.out])
  try rw [HW2.out]
  refine (show Calls _ _ _ _ _ from HLV2.out).mono ?_
  rintro e w3 ⟨rfl, hk3⟩
  have hk13 := HK12.out.trans hk3
  have hb1 := (hk13.block w.heap.size trivial HZ0.out).trans HB0.out
  have HRES := res4 w w3 hb1 (HK0.out.trans hk13)
  obtain ⟨f0, f1, f2, f3, r0, r1, r2, r3⟩ := res4u w w3 hb1
  replace x0 := hk3.cell x0 trivial
  replace x1 := hk3.cell x1 trivial
  replace x2 := hk3.cell x2 trivial
  replace x3 := hk3.cell x3 trivial
  clear hb1 hk3 hk13
  cases hlv : x.live now with
  | true =>
   obtain ⟨e0, e1, e2, e3, HK⟩ := HRES.out (.string x.key) (.string x.val) (.int .i64 x.till) (.bool x.gone)
   have HKK := Hd HK
   clear HK
   go_wp2_with fail
   all_goals exact bodyPost_ret (v := .tuple #[.agg #[.string x.key, .string x.val, .int .i64 x.till, .bool x.gone], .bool true]) (by simp [results, Tryz.results25, go_sem, e0, e1, e2, e3]) rfl ⟨rfl, HKK.out⟩
  | false =>
   obtain ⟨e0, e1, e2, e3, HK⟩ := HRES.out (.string ⟨#[]⟩) (.string ⟨#[]⟩) (.int .i64 0) (.bool false)
   have HKK := Hd HK
   clear HK
   go_wp2_with fail
   all_goals exact bodyPost_ret (v := .tuple #[.agg #[.string ⟨#[]⟩, .string ⟨#[]⟩, .int .i64 0, .bool false], .bool false]) (by simp [results, Tryz.results25, go_sem, e0, e1, e2, e3]) rfl ⟨rfl, HKK.out⟩
end Go.Proofs.YticophaepapjoaaGreatDoor
