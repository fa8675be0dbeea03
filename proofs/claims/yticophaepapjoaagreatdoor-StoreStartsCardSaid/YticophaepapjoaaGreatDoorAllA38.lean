/-
  StMake, StKill, StBegun, FlDrop, FlFind, FlGet, FlKeys, FlNil: texts of mine, joined.
-/
import Derived.Test.YticophaepapjoaaGreatDoorAllA35
import Derived.Test.YticophaepapjoaaGreatDoorAllA30
import Derived.Outline
import Derived.Test.YticophaepapjoaaGreatDoorAllA37
namespace Go.Proofs.YticophaepapjoaaGreatDoor
open Go Go.RowKit Go.Joins
section
variable {S : FlashOK} {J : JournalOK} {W w w' : World} {p b q1 q2 q3 k wh n d c : Nat} {F F' : Foot} {s : SDev} {z : Sto} {X : Nat → Prop}
structure MkSt (w wr : World) (p : Nat) (F : Foot) (s : SDev) (n i : Nat) (F' : Foot) (s' : SDev) : Prop where
 d : DAt wr p F' s'
 st : Step F F' w wr
 len : s'.now.length = n
 one : 1 ≤ i → ∀ j, j < 2 → s'.now.getD j [] = blank
 two : 2 ≤ i → ∀ j, j < 162 + 8 * segsOf n → s'.now.getD j [] = blank
 calls : s'.calls ≤ s.calls + 3000 * i
theorem MkSt.keep {wr w2 : World} {i : Nat} {s' : SDev} (h : MkSt w wr p F s n i F' s') (hk : Kp wr w2) : MkSt w w2 p F s n i F' s' :=
 { h with d := h.d.keep (hk.mono fun _ _ _ => trivial), st := h.st.trans (Step.of_keeps hk F') }
theorem MkSt.first {wr w2 : World} {F2 : Foot} {s' : SDev} {rows : List (List UInt8)} {c : Nat} (h : MkSt w wr p F s n 0 F' s') (hd : DAt w2 p F2 (SDev.still rows c)) (hb : SBl s'.now rows 0 2) (hc : c ≤ s'.calls + 3000) (hs : Step F' F2 wr w2) : MkSt w w2 p F s n 1 F2 (SDev.still rows c) := by
 refine ⟨hd, h.st.trans hs, hb.len.trans h.len, fun _ j hj => hb.yes j (Nat.zero_le _) hj, fun h => by omega, ?_⟩
 have := h.calls
 show c ≤ _; omega
theorem MkSt.second {wr w2 : World} {F2 : Foot} {s' : SDev} {rows : List (List UInt8)} {c : Nat} (h : MkSt w wr p F s n 1 F' s') (hd : DAt w2 p F2 (SDev.still rows c)) (hb : SBl s'.now rows 2 (162 + 8 * segsOf n)) (hc : c ≤ s'.calls + 3000) (hs : Step F' F2 wr w2) : MkSt w w2 p F s n 2 F2 (SDev.still rows c) := by
 refine ⟨hd, h.st.trans hs, hb.len.trans h.len, fun _ j hj => ?_, fun _ j hj => ?_, ?_⟩
 ·exact (hb.no j (.inl hj)).trans (h.one (Nat.le_refl _) j hj)
 ·by_cases h2 : j < 2
  ·exact (hb.no j (.inl h2)).trans (h.one (Nat.le_refl _) j h2)
  ·exact hb.yes j (by omega) hj
 ·have := h.calls
  show c ≤ _; omega
def MadePost (S : FlashOK) (J : JournalOK) (W w : World) (p n c : Nat) (X : Nat → Prop) (e : Ending) (w' : World) : Prop :=
 ∃ b q1 q2 k c', e = .returned (.tuple #[.pointer (some ⟨b, 0, none⟩), .int .i64 0]) ∧ StAt S J W w' p b q1 q2 k ⟨⟨162, segsOf n, [], 0, 1⟩, ⟨2, 20, [], 0, 32, 1⟩, 2, ⟨1, 0, 0, false⟩, 1, c'⟩ n 1 X ∧ c' ≤ c + 10000 ∧ Keeps X w w'
theorem made_tail (hS : S.T W) (hJ : J.T W) (hT : theSup.T W) {wr : World} {s' : SDev} (h : Dv W w p F s) (hX : ∀ b, X b → ¬ F.all b ∧ b < w.heap.size) (h1 : 192 ≤ n) (hc : s.calls ≤ 200000000000) (hm : MkSt w wr p F s n 2 F' s') :
  Calls Tryz.prog 38 #[.pointer (some ⟨p, 0, none⟩), .int .i64 0] wr fun e w2 => ∃ k, e = .returned (.tuple #[.pointer (some ⟨k, 0, none⟩), .int .i64 0]) ∧
   Calls Tryz.prog 39 #[.pointer (some ⟨p, 0, none⟩), .pointer (some ⟨k, 0, none⟩)] w2 (MadePost S J W w p n s.calls X) := by
 have hdv := h.step hm.d hm.st
 have hroom := segs_room h1
 have hlen := hm.len
 have hcl := hm.calls
 refine (kmake_yes W wr hT p F' s' hdv 0 (by rw [hm.len]; omega) (by omega)).mono ?_
 rintro e w2 ⟨q3, k, F2, Fs, c2, rfl, hK, hc2, hst, hfs, hk⟩
 refine ⟨k, rfl, ?_⟩
 have hst2 := hm.st.trans hst
 have hs1 := hm.st.keeps.size
 have hs2 := hst.keeps.size
 have hrow : ∀ i, 2 ≤ i → i < 162 + 8 * segsOf n → (SDev.still ((s'.now.set 0 (theSup.enc 1 (encM m0))).set (0 + 1) blank) c2).now.getD i [] = blank := fun i h2 h3 => by
  show ((s'.now.set 0 _).set 1 blank).getD i [] = _
  rw [set_getD_ne _ _ _ _ (by omega), set_getD_ne _ _ _ _ (by omega)]
  exact hm.two (Nat.le_refl _) i h3
 have hln : (SDev.still ((s'.now.set 0 (theSup.enc 1 (encM m0))).set (0 + 1) blank) c2).now.length = n := by
  show ((s'.now.set 0 _).set 1 blank).length = n
  rw [List.length_set, List.length_set]; exact hm.len
 have hXX : ∀ c, X c → ¬ F2.all c ∧ ¬ (kfoot k Fs).all c ∧ c < w2.heap.size := fun c hx => by
  have h5 := (hX c hx).2
  refine ⟨fun hf => ?_, fun hf => ?_, by omega⟩
  ·rcases hst2.all c hf with h6 | h6
   ·exact (hX c hx).1 h6
   ·omega
  ·rcases kfoot_all.1 hf with hf | rfl
   ·have := hfs c hf; omega
   ·omega
 have ho : Oth theSup (SDev.still ((s'.now.set 0 (theSup.enc 1 (encM m0))).set (0 + 1) blank) c2).now ⟨p, 0, 0, 1, encM m0⟩ := oth_make (S := theSup) (rows := s'.now) p 0 _ _ (by rw [hm.len]; omega)
 have hkW := hK.du.dv
 refine (sstart (X := X) hT hK ho hln h1 hXX _ _ (jopens_new (J.tk hJ (Keeps.refl _ W)) hkW (by rw [hln]; exact h1) fun i a b => hrow i a (by unfold segsOf; omega)) (copens_new hS hkW hln h1 fun i a b => hrow i (by omega) b) (by show (0 : Int) < _; decide) (by decide) (by show c2 ≤ _; omega)).mono ?_
 intro e w3 hs
 obtain ⟨b, q1, q2, k', rfl, hat, hkx⟩ := started_new (by decide) hrow hs
 refine ⟨b, q1, q2, k', _, rfl, hat, ?_, Keeps.trans (hst2.keeps.mono fun c _ hc hm => (hX c hc).1 (.inl hm)) hkx⟩
 show c2 + 100 ≤ _
 omega
set_option maxRecDepth 100000 in
set_option maxHeartbeats 2000000 in
theorem stmake_any (hS : S.T W) (hJ : J.T W) (hT : theSup.T W) (h : Dv W w p F s) (hn : s.now.length = n) (hX : ∀ b, X b → ¬ F.all b ∧ b < w.heap.size) (h1 : 192 ≤ n) (hc : s.calls ≤ 200000000000) :
  Calls Tryz.prog 11 #[.pointer (some ⟨p, 0, none⟩)] w (MadePost S J W w p n s.calls X) := by
 have hsm : n ≤ 2048 := by rw [← hn]; exact h.d.ok.small
 have hroom := segs_room h1
 have HL := Lib.hid (dlen_any w p F s h.d)
 have HCS := Lib.hid (csegs_any w p F s h.d n hn h1 hsm)
 have HLT := Lib.hid h.d.lt
 have HT := Lib.hid (show ∀ (wr : World) (F' : Foot) (s' : SDev), MkSt w wr p F s n 2 F' s' → _ from fun wr F' s' hm => made_tail (X := X) hS hJ hT h hX h1 hc hm)
 have HB1 := Lib.hid (show ∀ (wr : World) (F' : Foot) (s' : SDev), MkSt w wr p F s n 0 F' s' → Calls Tryz.prog 37 #[.pointer (some ⟨p, 0, none⟩), .int .i64 0, .int .i64 2] wr fun e w' => e = .returned (.int .i64 0) ∧ ∃ (F2 : Foot) (s2 : SDev), MkSt w w' p F s n 1 F2 s2 ∧ Step F' F2 wr w' from fun wr F' s' hm =>
  (sblank_any wr p F' s' hm.d 0 2 (by decide) (by rw [hm.len]; omega) (by have := hm.calls; omega) 0 2 rfl rfl).mono fun e w' ⟨he, F2, rows, c, a1, a2, a3, a4⟩ => ⟨he, F2, _, hm.first a1 a2 a3 a4, a4⟩)
 have HB2 := Lib.hid (show ∀ (wr : World) (F' : Foot) (s' : SDev), MkSt w wr p F s n 1 F' s' → Calls Tryz.prog 37 #[.pointer (some ⟨p, 0, none⟩), .int .i64 2, .int .i64 (162 + (segsOf n : Int) * 8)] wr fun e w' => e = .returned (.int .i64 0) ∧ ∃ (F2 : Foot) (s2 : SDev), MkSt w w' p F s n 2 F2 s2 ∧ Step F' F2 wr w' from fun wr F' s' hm =>
  (sblank_any wr p F' s' hm.d 2 (162 + 8 * segsOf n) (by omega) (by rw [hm.len]; omega) (by have := hm.calls; omega) 2 (162 + (segsOf n : Int) * 8) rfl (by omega)).mono fun e w' ⟨he, F2, rows, c, a1, a2, a3, a4⟩ => ⟨he, F2, _, hm.second a1 a2 a3 a4, a4⟩)
 have HM0 := Lib.hid (show ∀ wr, Kp w wr → MkSt w wr p F s n 0 F s from fun wr hk => ⟨h.d.keep (hk.mono fun _ _ _ => trivial), Step.of_keeps hk F, hn, fun h => by omega, fun h => by omega, by omega⟩)
 have hsg : (segsOf n : Int) ≤ 200 := by unfold segsOf; omega
 have hsg0 : (0 : Int) ≤ (segsOf n : Int) := by omega
 have hn192 : ¬ ((n : Int) < 192) := by omega
 rw [hn] at HL
 clear h hn hX hc hS hJ hT h1 hsm hroom
 go_enter Tryz.func11, Tryz.ntmps11
 go_wp2_with fail
 refine (show Calls _ _ _ _ _ from HL.out).mono ?_
 rintro e w' ⟨rfl, rfl⟩
 clear HL
 go_wp2_with fail
 refine (show Calls _ _ _ _ _ from HCS.out).mono ?_
 rintro e w' ⟨rfl, rfl⟩
 clear HCS
 go_wp2_with fail
 obtain ⟨l3, hl3⟩ : ∃ l3 : Int, 162 + (segsOf n : Int) * 8 = l3 := ⟨_, rfl⟩
 rw [hl3] at HB2 ⊢
 have hka : Kp w (w.alloc (.cells #[.int .i64 0, .int .i64 2, .int .i64 2, .int .i64 l3] 77)) := (Keeps.refl _ w).alloc _
 have hba := heap_alloc_new w (.cells #[.int .i64 0, .int .i64 2, .int .i64 2, .int .i64 l3] 77)
 have hsa : (w.alloc (.cells #[.int .i64 0, .int .i64 2, .int .i64 2, .int .i64 l3] 77)).heap.size = w.heap.size + 1 := by simp
 have HS1 := Lib.hid (HM0.out _ hka)
 have HG1 := Lib.hid (show ¬ F.all w.heap.size ∧ w.heap.size < (w.alloc (.cells #[.int .i64 0, .int .i64 2, .int .i64 2, .int .i64 l3] 77)).heap.size from ⟨fun hf => by have := HLT.out _ hf; omega, by omega⟩)
 have HB := Lib.hid hba
 clear hka hba hsa hl3 HM0 HLT hsg hsg0 hn192
 generalize w.alloc (.cells #[.int .i64 0, .int .i64 2, .int .i64 2, .int .i64 l3] 77) = w1 at *
 obtain ⟨g, hg⟩ : ∃ g, w.heap.size = g := ⟨_, rfl⟩
 rw [hg] at HG1 HB ⊢
 clear hg
 go_loopw [20] (fun i wr => ∃ (k : Nat) (F' : Foot) (s' : SDev), k ≤ 2 ∧ i = .int .i64 (k : Int) ∧ Hid (MkSt w wr p F s n k F' s') ∧ Hid (¬ F'.all g ∧ g < wr.heap.size) ∧ Hid (wr.heap[g]? = some (.cells #[.int .i64 0, .int .i64 2, .int .i64 2, .int .i64 l3] 77 (0, 0)))) (fun i _ => 2 - (intOf i).toNat)
 case atStart => exact ⟨0, F, s, by decide, rfl, HS1, HG1, HB⟩
 case round =>
  clear HS1 HG1 HB
  obtain ⟨k, F', s', hk, rfl, HM, HG, HB⟩ := hrel
  have HN := Lib.hid (show ∀ (wn w2 : World) (F2 : Foot), Kp wr wn → Step F' F2 wn w2 → (¬ F2.all g ∧ g < w2.heap.size) ∧ w2.heap[g]? = some (.cells #[.int .i64 0, .int .i64 2, .int .i64 2, .int .i64 l3] 77 (0, 0)) from fun wn w2 F2 hk1 hst => by
   have h1 := hk1.size
   have h2 := hst.keeps.size
   have h3 := HG.out.2
   refine ⟨⟨fun hf => ?_, by omega⟩, ?_⟩
   ·rcases hst.all g hf with h4 | h4
    ·exact HG.out.1 h4
    ·omega
   ·rw [hst.keeps.block g (fun hm => HG.out.1 (.inl hm)) (by omega), hk1.block g trivial h3]; exact HB.out)
  have c0 : wr.cell? ⟨g, 0, none⟩ = some (.int .i64 0) := (cell_of_block HB.out 0).trans rfl
  have c1 : wr.cell? ⟨g, 1, none⟩ = some (.int .i64 2) := (cell_of_block HB.out 1).trans rfl
  have c2 : wr.cell? ⟨g, 2, none⟩ = some (.int .i64 2) := (cell_of_block HB.out 2).trans rfl
  have c3 : wr.cell? ⟨g, 3, none⟩ = some (.int .i64 l3) := (cell_of_block HB.out 3).trans rfl
  have hcase : k = 0 ∨ k = 1 ∨ k = 2 := by omega
  clear HB
  rcases hcase with rfl | rfl | rfl
  ·clear c2 c3 HB2 HT
   go_wp2_with fail
   have hka : Kp wr (wr.alloc (.cells #[.int .i64 0, .int .i64 2] 77)) := (Keeps.refl _ wr).alloc _
   have HMa := Lib.hid (HM.out.keep hka)
   have HKa := Lib.hid hka
   clear hka c0 c1 HM
   generalize wr.alloc (.cells #[.int .i64 0, .int .i64 2] 77) = wa at *
   refine (show Calls _ _ _ _ _ from HB1.out _ _ _ HMa.out).mono ?_
   rintro e w2 ⟨rfl, F2, s2, hm2, hst2⟩
   have HE := Lib.hid (HN.out _ _ _ HKa.out hst2)
   have HM2 := Lib.hid hm2
   clear hm2 hst2 HN HKa HMa HG
   go_wp2_with fail
   go_roundw
   case rel => exact ⟨1, F2, s2, by decide, rfl, HM2, Lib.hid HE.out.1, Lib.hid HE.out.2⟩
   case measure => decide
  ·clear c0 c1 HB1 HT
   go_wp2_with fail
   have hka : Kp wr (wr.alloc (.cells #[.int .i64 2, .int .i64 l3] 77)) := (Keeps.refl _ wr).alloc _
   have HMa := Lib.hid (HM.out.keep hka)
   have HKa := Lib.hid hka
   clear hka c2 c3 HM
   generalize wr.alloc (.cells #[.int .i64 2, .int .i64 l3] 77) = wa at *
   refine (show Calls _ _ _ _ _ from HB2.out _ _ _ HMa.out).mono ?_
   rintro e w2 ⟨rfl, F2, s2, hm2, hst2⟩
   have HE := Lib.hid (HN.out _ _ _ HKa.out hst2)
   have HM2 := Lib.hid hm2
   clear hm2 hst2 HN HKa HMa HG
   go_wp2_with fail
   go_roundw
   case rel => exact ⟨2, F2, s2, by decide, rfl, HM2, Lib.hid HE.out.1, Lib.hid HE.out.2⟩
   case measure => decide
  ·have HTT := Lib.hid (HT.out _ _ _ HM.out)
   clear c0 c1 c2 c3 HB1 HB2 HT HN HG HM
   go_wp2_with fail
   refine (show Calls _ _ _ _ _ from HTT.out).mono ?_
   rintro e w2 ⟨k, rfl, hs⟩
   have HS := Lib.hid hs
   clear hs HTT
   go_wp2_with fail
   refine (show Calls _ _ _ _ _ from HS.out).mono ?_
   rintro e w3 ⟨b, q1, q2, k', c', rfl, hat, hc', hkx⟩
   have HE := Lib.hid (And.intro hat (And.intro hc' hkx))
   clear hat hc' hkx HS
   go_wp2_with fail
   go_ret2
   exact ⟨b, q1, q2, k', c', rfl, HE.out.1, HE.out.2.1, HE.out.2.2⟩
end
theorem skill_nil (w : World) (v : Value) : Calls Tryz.prog 18 #[.pointer none, v] w fun e w' => e = .returned (.tuple #[.int .i64 0, .int .i64 8]) ∧ w = w' := by
 go_enter Tryz.func18, Tryz.ntmps18
 go_wp2_with fail
 go_ret2
 exact ⟨rfl, rfl⟩
theorem sstarted_nil (w : World) : Calls Tryz.prog 23 #[.pointer none] w fun e w' => e = .returned (.int .i64 0) ∧ w = w' := by
 go_enter Tryz.func23, Tryz.ntmps23
 go_wp2_with fail
 go_ret
 exact ⟨rfl, rfl⟩
section
variable {S : FlashOK} {J : JournalOK} {W w w' : World} {p b q1 q2 k n d : Nat} {z : Sto} {X : Nat → Prop}
theorem sstarted_blk {t : Int} (h : StBlk w b q1 q2 k t) : Calls Tryz.prog 23 #[.pointer (some ⟨b, 0, none⟩)] w fun e w' => e = .returned (.int .i64 t) ∧ w = w' := by
 have c3 := h.c3
 clear h
 go_enter Tryz.func23, Tryz.ntmps23
 go_wp2_with fail
 go_ret
 exact ⟨rfl, rfl⟩
theorem sstarted_any (h : StAt S J W w p b q1 q2 k z n d X) : Calls Tryz.prog 23 #[.pointer (some ⟨b, 0, none⟩)] w fun e w' => e = .returned (.int .i64 z.boot) ∧ w = w' := by
 exact sstarted_blk h.blk
theorem so_started (h : StAt S J W w p b q1 q2 k z n d X) (m : Int) (hm : m = z.boot) : Calls Tryz.prog 23 #[.pointer (some ⟨b, 0, none⟩)] w fun e w' => e = .returned (.int .i64 m) ∧ w = w' := by
 subst hm
 exact sstarted_any h
def killed (z : Sto) (ks : List ByteArray) (g u : Nat) : Sto := ⟨⟨z.f.place, z.f.segs, z.f.ents ++ ks.map grave, g, z.f.age + ks.length + 1⟩, jadd z.j ks u, z.t, z.m, z.boot, z.c + 2000 * (ks.length + 1)⟩
set_option maxRecDepth 100000 in
set_option maxHeartbeats 1000000 in
theorem so_kill (hS : S.T W) (hJ : J.T W) (h : StAt S J W w p b q1 q2 k z n d X) (h1 : z.f.age ≤ 20000) (h2 : z.j.age ≤ 20000) (hc : z.c ≤ 300000000000) (A : Option Addr) (ks : List ByteArray) (hrow : Row w A X (ks.map Value.string)) (c m : Nat) (hn : m = ks.length) (hcc : m ≤ c) (hcm : c ≤ maxLen) (hl : m ≤ 1000) (hok : ∀ k ∈ ks, keyOk k) (y : Int) (hy : y = ((z.j.keys.length + ks.length : Nat) : Int)) :
  Calls Tryz.prog 18 #[.pointer (some ⟨b, 0, none⟩), .slice A m c] w fun e w' => e = .returned (.tuple #[.int .i64 y, .int .i64 0]) ∧ ∃ g u, z.f.gone ≤ g ∧ z.j.base ≤ u ∧ StAt S J W w' p b q1 q2 k (killed z ks g u) n 2 X ∧ Keeps X w w' := by
 have HB := h.blk
 have c0 := HB.c0
 have c1 := HB.c1
 have HA := Lib.hid (so_add hJ h h2 (by omega) A ks hrow c m hn hcc hcm hl hok y hy)
 have HD := Lib.hid (show ∀ w1 u, StAt S J W w1 p b q1 q2 k ⟨z.f, jadd z.j ks u, z.t, z.m, z.boot, z.c + 1000 * (ks.length + 1)⟩ n 3 X → Keeps X w w1 → _ from fun w1 u h3 hk => so_drop hS h3 h1 (by show z.c + 1000 * (ks.length + 1) ≤ _; omega) A ks (hrow.keep hk) c m hn hcc hcm hl hok)
 clear h HB h1 h2 hc hrow hn hcc hok hy hS hJ
 unfold maxLen at hcm
 go_enter Tryz.func18, Tryz.ntmps18
 go_wp2_with fail
 refine (show Calls _ _ _ _ _ from HA.out).mono ?_
 rintro e w1 ⟨rfl, u, hu, h3, hk1⟩
 have c0' := h3.blk.c0
 have HD1 := Lib.hid (HD.out w1 u h3 hk1)
 have HU := Lib.hid hu
 have HK := Lib.hid hk1
 clear c0 c1 HA HD h3 hk1 hu
 go_wp2_with fail
 refine (show Calls _ _ _ _ _ from HD1.out).mono ?_
 rintro e w2 ⟨rfl, g, hg, h4, hk2⟩
 have HE := Lib.hid (show ∃ g u, z.f.gone ≤ g ∧ z.j.base ≤ u ∧ StAt S J W w2 p b q1 q2 k (killed z ks g u) n 2 X ∧ Keeps X w w2 from ⟨g, u, hg, HU.out, by
  have e : z.c + 1000 * (ks.length + 1) + 1000 * (ks.length + 1) = z.c + 2000 * (ks.length + 1) := by omega
  unfold killed
  rw [← e]
  exact h4, HK.out.trans hk2⟩)
 clear hg h4 hk2 HU HK HD1 c0'
 go_wp2_with fail
 go_ret2
 exact ⟨rfl, HE.out⟩
end
section
variable {S : FlashOK} {J : JournalOK} {W w w' : World} {p b q1 q2 k n d c : Nat} {z : Sto} {X : Nat → Prop}
theorem Blank.dev (h : Blank W w p n X) : StDev W w p n 0 X := by
 obtain ⟨F, hd, hX⟩ := h
 exact ⟨F, _, hd, by show (List.replicate n blank).length = n; exact List.length_replicate .., Nat.le_refl _, hX⟩
theorem so_make (hS : S.T W) (hJ : J.T W) (hT : theSup.T W) (h : StDev W w p n c X) (h1 : 192 ≤ n) (hc : c ≤ 200000000000) : Calls Tryz.prog 11 #[.pointer (some ⟨p, 0, none⟩)] w (MadePost S J W w p n c X) := by
 obtain ⟨F, s, hd, hl, hcc, hX⟩ := h
 refine (stmake_any hS hJ hT hd hl hX h1 (by omega)).mono ?_
 rintro e w' ⟨b, q1, q2, k, c', rfl, hat, hc', hk⟩
 exact ⟨b, q1, q2, k, c', rfl, hat, by omega, hk⟩
end
def sK : ByteArray := { data := #[107] }
def sV : ByteArray := { data := #[118] }
def sIt : It := ⟨sK, sV, 0, false⟩
theorem sK_ok : keyOk sK := by unfold keyOk; decide
theorem getE_sIt (pl sg a : Nat) : getE ⟨pl, sg, [fput sIt], 0, a⟩ sK 0 = .returned (.tuple #[.agg #[.string ⟨#[107]⟩, .string ⟨#[118]⟩, .int .i64 0, .bool false], .bool true]) := by
 have e : (⟨pl, sg, [fput sIt], 0, a⟩ : FSt).at_ sK = some sIt := rfl
 have hl : sIt.live 0 = true := by decide
 unfold getE
 rw [e]
 show (if sIt.live 0 = true then _ else _) = _
 rw [if_pos hl]
 rfl
theorem getE_grave (pl sg a : Nat) : getE ⟨pl, sg, [fput sIt, grave sK], 0, a⟩ sK 0 = .returned (.tuple #[.agg #[.string ⟨#[]⟩, .string ⟨#[]⟩, .int .i64 0, .bool false], .bool false]) := by
 have e : (⟨pl, sg, [fput sIt, grave sK], 0, a⟩ : FSt).at_ sK = none := rfl
 unfold getE
 rw [e]
theorem cost_sIt : fcosts [fput sIt] = 82 := by decide
theorem cost_sGr : fcosts [fput sIt, grave sK] = 163 := by decide
theorem meta_field0 (w : World) (x y z : Int) (f : Bool) : Sem.run Tryz.prog (Instr.field 32 (.agg #[.int .i64 x, .int .i64 y, .int .i64 z, .bool f]) 0) w = .ok (.int .i64 x) w := by kernel_rfl
theorem meta_field1 (w : World) (x y z : Int) (f : Bool) : Sem.run Tryz.prog (Instr.field 32 (.agg #[.int .i64 x, .int .i64 y, .int .i64 z, .bool f]) 1) w = .ok (.int .i64 y) w := by kernel_rfl
set_option maxRecDepth 100000 in
set_option maxHeartbeats 2000000 in
theorem begun21 (S : FlashOK) (J : JournalOK) (w : World) (hS : S.T w) (hJ : J.T w) (hT : theSup.T w) : Calls Tryz.prog 9 #[] w fun e w' => e = .returned (.bool true) ∧ Kp w w' := by
 have HT := Lib.hid (And.intro hS (And.intro hJ hT))
 clear hS hJ hT
 go_enter Tryz.func9, Tryz.ntmps9
 go_wp2_with fail
 refine (show Calls _ _ _ _ _ from fo_dev (X := fun _ => False) (Keeps.refl _ w) (fun _ h => h.elim) 400 (by decide) (by decide) 400 rfl).mono ?_
 rintro e w1 ⟨p, rfl, hB, -⟩
 have HB := Lib.hid hB.dev
 clear hB
 go_wp2_with fail
 refine (show Calls _ _ _ _ _ from so_make HT.out.1 HT.out.2.1 HT.out.2.2 HB.out (by decide) (by decide)).mono ?_
 rintro e w2 ⟨b, q1, q2, k, c, rfl, hat, hc, -⟩
 have c0 := hat.blk.c0
 have c1 := hat.blk.c1
 have c2 := hat.blk.c2
 have HA := Lib.hid hat
 have HC := Lib.hid (show c ≤ 10000 by omega)
 clear hat hc HB
 go_wp2_with fail
 refine (show Calls _ _ _ _ _ from so_put HT.out.1 HA.out (by show 1 ≤ 20000; decide) (by show c ≤ 400000000000; have := HC.out; omega) sIt (by decide) rfl).mono ?_
 rintro e w3 ⟨rfl, g, -, hat, -⟩
 have hg : g = 0 := hat.wf.1.whole (by show fcosts [fput sIt] ≤ 200 * (segsOf 400 - 2); rw [cost_sIt]; decide)
 subst hg
 have HA3 := Lib.hid (show StAt S J w w3 p b q1 q2 k ⟨⟨162, segsOf 400, [fput sIt], 0, 2⟩, ⟨2, 20, [], 0, 32, 1⟩, 2, ⟨1, 0, 0, false⟩, 1, c + 2000⟩ 400 0 (fun _ => False) from hat)
 have d0 := HA3.out.blk.c0
 clear hat HA c0 c1 c2
 go_wp2_with fail
 refine (show Calls _ _ _ _ _ from so_get HT.out.1 HA3.out sK 0 (by decide) (by decide) (by decide) _ (getE_sIt _ _ _).symm).mono ?_
 rintro e w4 ⟨rfl, hk4, hat⟩
 clear HA3 d0 hk4
 have HA4 := Lib.hid hat
 clear hat
 go_wp2_with fail
 have hk5 : Kp w4 (w4.alloc (.cells #[.string ⟨#[107]⟩, .string ⟨#[118]⟩, .int .i64 0, .bool false] 40)) := (Keeps.refl _ w4).alloc _
 have hb5 := heap_alloc_new w4 (.cells #[.string ⟨#[107]⟩, .string ⟨#[118]⟩, .int .i64 0, .bool false] 40)
 have hs5 : (w4.alloc (.cells #[.string ⟨#[107]⟩, .string ⟨#[118]⟩, .int .i64 0, .bool false] 40)).heap.size = w4.heap.size + 1 := by simp
 generalize w4.alloc (.cells #[.string ⟨#[107]⟩, .string ⟨#[118]⟩, .int .i64 0, .bool false] 40) = w5 at *
 have e1 : w5.cell? ⟨w4.heap.size, 1, none⟩ = some (.string ⟨#[118]⟩) := (cell_of_block hb5 1).trans rfl
 have hk6 : Kp w5 (w5.alloc (.cells #[.string ⟨#[107]⟩] 9)) := (Keeps.refl _ w5).alloc _
 have hs6 : (w5.alloc (.cells #[.string ⟨#[107]⟩] 9)).heap.size = w5.heap.size + 1 := by simp
 have hrow := Row.fresh (F := fun x => x = w4.heap.size ∨ x = w4.heap.size + 1) w5 #[.string ⟨#[107]⟩] 9 (0, 0) (w4.heap.size + 1) hs5.symm (.inr rfl) ([sK].map Value.string) rfl
 have e1' := hk6.cell e1 trivial
 generalize w5.alloc (.cells #[.string ⟨#[107]⟩] 9) = w6 at *
 have HA6 := Lib.hid (HA4.out.more (Y := fun x => x = w4.heap.size ∨ x = w4.heap.size + 1) (hk5.trans hk6) fun x hx => .inr (by omega))
 have HR := Lib.hid hrow
 have HE := Lib.hid e1'
 clear hk5 hb5 hs5 e1 hk6 hs6 hrow e1' HA4
 generalize w4.heap.size = g at *
 refine (show Calls _ _ _ _ _ from so_kill HT.out.1 HT.out.2.1 HA6.out (by show 2 ≤ 20000; decide) (by show 1 ≤ 20000; decide) (by show c + 2000 ≤ 300000000000; have := HC.out; omega) (some ⟨g + 1, 0, none⟩) [sK] HR.out 1 1 rfl (by decide) (by decide) (by decide) (by intro k hk; rw [List.mem_singleton.1 hk]; exact sK_ok) 1 rfl).mono ?_
 rintro e w7 ⟨rfl, g2, u, -, -, hat, hk7⟩
 have hg : g2 = 0 := hat.wf.1.whole (by show fcosts [fput sIt, grave sK] ≤ 200 * (segsOf 400 - 2); rw [cost_sGr]; decide)
 subst hg
 have HE7 := Lib.hid (hk7.cell HE.out (.inl rfl))
 have HA7 := Lib.hid (show StAt S J w w7 p b q1 q2 k ⟨⟨162, segsOf 400, [fput sIt, grave sK], 0, 4⟩, ⟨2, 20, [sK], u, 32, 3⟩, 2, ⟨1, 0, 0, false⟩, 1, c + 6000⟩ 400 2 (fun x => x = g) from hat.less fun x hx => .inl hx)
 have d0 := HA7.out.blk.c0
 clear hat hk7 HA6 HR HE
 go_wp2_with fail
 refine (show Calls _ _ _ _ _ from so_get HT.out.1 HA7.out sK 0 (by decide) (by decide) (by decide) _ (getE_grave _ _ _).symm).mono ?_
 rintro e w8 ⟨rfl, hk8, hat⟩
 have hk9 : Kp w8 (w8.alloc (.cells #[.string ⟨#[]⟩, .string ⟨#[]⟩, .int .i64 0, .bool false] 40)) := (Keeps.refl _ w8).alloc _
 have HA9 := Lib.hid (hat.keep hk9)
 have HE9 := Lib.hid ((hk8.trans hk9).cell HE7.out trivial)
 clear d0 hk8 hk9 hat HA7 HE7
 go_wp2_with fail
 generalize w8.alloc (.cells #[.string ⟨#[]⟩, .string ⟨#[]⟩, .int .i64 0, .bool false] 40) = w9 at *
 refine (show Calls _ _ _ _ _ from so_crash HA9.out (by decide) none 0 (fun _ => True) [] 0 rfl (Row.nil _ _ _) (by decide)).mono ?_
 rintro e w10 ⟨r, rfl, hD, hk10, hat⟩
 have HD := Lib.hid hD
 have HBL := Lib.hid (show StBlk w10 b q1 q2 k 1 from hat.blk)
 have HE10 := Lib.hid (hk10.cell HE9.out trivial)
 clear hD hat hk10 HA9 HE9
 go_wp2_with fail
 refine (show Calls _ _ _ _ _ from so_openOld HT.out.1 HT.out.2.1 HT.out.2.2 HD.out (by show (1 : Int) < _; decide) (by show 2 ≤ 300000000000; decide) (by show 4 ≤ 20000; decide) (by show 3 ≤ 20000; decide)).mono ?_
 rintro e w11 ⟨b2, p1, p2, k2, z2, rfl, hat, hj, hm, hbo, hk11⟩
 have hj2 : z2.j.keys = [sK] := hj
 have hm2 : z2.m = ⟨2, 0, 0, false⟩ := hm
 have hb2 : z2.boot = 2 := hbo
 have HA11 := Lib.hid hat
 have HJ := Lib.hid (And.intro hj2 (And.intro hm2 hb2))
 have HBL11 := Lib.hid (HBL.out.keep hk11 (.inl rfl))
 have e11 := hk11.cell HE10.out (.inr rfl)
 have d1 := hat.blk.c1
 have d2 := hat.blk.c2
 clear hat hj hm hbo hj2 hm2 hb2 hk11 HD HBL HE10
 go_wp2_with fail
 refine (show Calls _ _ _ _ _ from so_seq HT.out.2.1 HA11.out 1 (by rw [HJ.out.1]; rfl)).mono ?_
 rintro e w12 ⟨rfl, hk12, hat⟩
 have HA12 := Lib.hid hat
 have HBL12 := Lib.hid (HBL11.out.keep hk12 trivial)
 have d2' := hat.blk.c2
 clear hat hk12 HA11 HBL11 e11 d1 d2
 go_wp2_with fail
 refine (show Calls _ _ _ _ _ from so_started HA12.out 2 HJ.out.2.2.symm).mono ?_
 rintro e w13 ⟨rfl, rfl⟩
 go_wp2_with fail
 refine (show Calls _ _ _ _ _ from sstarted_blk HBL12.out).mono ?_
 rintro e w13 ⟨rfl, rfl⟩
 clear HBL12
 go_wp2_with fail
 have HMT := so_meta HA12.out
 rw [HJ.out.2.1] at HMT
 have HM := Lib.hid HMT
 clear HMT d2'
 refine (show Calls _ _ _ _ _ from HM.out).mono ?_
 rintro e w13 ⟨rfl, -, hat⟩
 have HK := Lib.hid hat.kp
 clear hat HM HA12
 unfold magg
 go_wp2_with (rw [meta_field0])
 go_ret
 exact ⟨rfl, HK.out⟩
set_option maxRecDepth 100000 in
set_option maxHeartbeats 1000000 in
theorem cputNo (S : Slog2) (I : IndexOK) (J : ItemOK) (w : World) (hT : J.T w) (p q : Nat) (Fs : Foot) (s : SDev) (st : FSt) (hr : flashRep S I w p q Fs st s) (x : It) (hf : x.fits) (hno : x.may = false ∨ x.gone = true) :
  Calls Tryz.prog 14 #[.pointer (some ⟨q, 0, none⟩), .agg #[.string x.key, .string x.val, .int .i64 x.till, .bool x.gone]] w fun e w' => e = .returned (.int .i64 1) ∧ Kp w w' := by
 obtain ⟨lq, iq, Fl, Fi, lo, lst, ix, hs, rfl, hc, -⟩ := hr
 obtain ⟨w0, hw0⟩ : ∃ w0, w.alloc (.cells #[.string x.key, .string x.val, .int .i64 x.till, .bool x.gone] 40) = w0 := ⟨_, rfl⟩
 have HW0 := Lib.hid hw0
 have hb0 : w0.heap[w.heap.size]? = some (.cells #[.string x.key, .string x.val, .int .i64 x.till, .bool x.gone] 40 (0, 0)) := by rw [← hw0]; exact heap_alloc_new w _
 have hk0 : Kp w w0 := by rw [← hw0]; exact (Keeps.refl _ w).alloc _
 have r0 : w0.cell? ⟨w.heap.size, 0, none⟩ = some (.string x.key) := (cell_of_block hb0 0).trans rfl
 have r1 : w0.cell? ⟨w.heap.size, 1, none⟩ = some (.string x.val) := (cell_of_block hb0 1).trans rfl
 have r2 : w0.cell? ⟨w.heap.size, 2, none⟩ = some (.int .i64 x.till) := (cell_of_block hb0 2).trans rfl
 have r3 : w0.cell? ⟨w.heap.size, 3, none⟩ = some (.bool x.gone) := (cell_of_block hb0 3).trans rfl
 have d0 := hk0.cell hc.blk.c0 trivial
 have HDN := Lib.hid (cdown w0 q lq d0)
 have HMY := Lib.hid (J.may w0 x (J.tk hT hk0) hf)
 have HK0 := Lib.hid hk0
 clear hf hw0 hb0 hk0 hc
 go_enter Tryz.func14, Tryz.ntmps14
 go_wp2_with (rw [HW0.out])
 try rw [HW0.out]
 refine (show Calls _ _ _ _ _ from HDN.out).mono ?_
 rintro e w' ⟨rfl, rfl⟩
 go_wp2_with fail
 refine (show Calls _ _ _ _ _ from HMY.out).mono ?_
 rintro e w1 ⟨rfl, hk1⟩
 replace r3 := hk1.cell r3 trivial
 have HK1 := Lib.hid (HK0.out.trans hk1)
 clear hk1
 cases hm : x.may with
 | false =>
  go_wp2_with fail
  go_ret
  exact ⟨rfl, HK1.out⟩
 | true =>
  have hg : x.gone = true := by
   rcases hno with h | h
   ·rw [hm] at h; cases h
   ·exact h
  rw [hg] at r3
  go_wp2_with fail
  go_ret
  exact ⟨rfl, HK1.out⟩
def graveIt (k : ByteArray) : It := ⟨k, ⟨#[]⟩, 0, true⟩
theorem grave_may (k : ByteArray) : (graveIt k).may = true ↔ keyOk k := by
 unfold graveIt It.may keyOk
 simp
 exact ⟨fun h => h.1.1, fun h => ⟨⟨h, by show 0 ≤ 200; decide⟩, rfl⟩⟩
theorem grave_fits {k : ByteArray} (hk : k.size ≤ 1000000) : (graveIt k).fits := ⟨hk, by show 0 ≤ 1000000; decide, by show -9223372036854775808 ≤ (0 : Int); decide, by show (0 : Int) < 9223372036854775808; decide⟩
theorem may_grave (J : ItemOK) (w : World) (hT : J.T w) (k : ByteArray) (hk : k.size ≤ 1000000) (b : Bool) (hb : (graveIt k).may = b) :
  Calls Tryz.prog 42 #[.agg #[.string k, .string ⟨#[]⟩, .int .i64 0, .bool true]] w fun e w' => e = .returned (.bool b) ∧ Kp w w' := by
 have h := J.may w (graveIt k) hT (grave_fits hk)
 rw [hb] at h
 exact h
def DropAt (S : Slog2) (I : IndexOK) (W w : World) (p q : Nat) (F Fs : Foot) (s : SDev) (st : FSt) (ks : List ByteArray) (k : Nat) (w' : World) : Prop :=
 ∃ (F' Fs' : Foot) (s' : SDev) (g : Nat), Cb S I W w' p q F' Fs' s' ⟨st.place, st.segs, st.ents ++ (ks.take k).map grave, g, st.age + k⟩ ∧ st.gone ≤ g ∧ FGo w w' F F' Fs Fs' s s' st k
def DropPost (S : Slog2) (I : IndexOK) (w : World) (p q : Nat) (F Fs : Foot) (s : SDev) (st : FSt) (ks : List ByteArray) (e : Ending) (w' : World) : Prop :=
 e = .returned (.int .i64 0) ∧ ∃ (F' Fs' : Foot) (rows : List (List UInt8)) (k g : Nat), DAt w' p F' (SDev.still rows k) ∧ flashRep S I w' p q Fs' ⟨st.place, st.segs, st.ents ++ ks.map grave, g, st.age + ks.length + 1⟩ (SDev.still rows k) ∧ flashDisk S ⟨st.place, st.segs, st.ents ++ ks.map grave, g, st.age + ks.length + 1⟩ rows ∧ st.gone ≤ g ∧ FGo w w' F F' Fs Fs' s (SDev.still rows k) st (ks.length + 1)
section
variable {S : Slog2} {I : IndexOK} {W w w1 : World} {p q : Nat} {F Fs : Foot} {s : SDev} {st : FSt} {ks : List ByteArray}
theorem DropAt.start (hb : Cb S I W w p q F Fs s st) (hk : Kp w w1) : DropAt S I W w p q F Fs s st ks 0 w1 :=
 ⟨F, Fs, s, st.gone, by simpa using hb.keep hk, Nat.le_refl _, FGo.still hb hk⟩
theorem DropAt.row {k : Nat} (h : DropAt S I W w p q F Fs s st ks k w1) {A : Option Addr} {xs : List Value} (hr : Row w A (fun b => ¬ F.all b ∧ ¬ Fs.all b) xs) : Row w1 A (fun b => ¬ F.all b ∧ ¬ Fs.all b) xs := by
 obtain ⟨F', Fs', s', g, hb, hg, hgo⟩ := h
 exact hr.keep (hgo.k.mono fun b _ hb => ⟨fun hm => hb.1 (.inl hm), fun hm => hb.2 (.inl hm)⟩)
theorem DropAt.kp {k : Nat} (h : DropAt S I W w p q F Fs s st ks k w1) : Kp W w1 := by
 obtain ⟨F', Fs', s', g, hb, hg, hgo⟩ := h
 exact hb.kp
theorem DropAt.step (J : ItemOK) (hT : S.T W ∧ I.T W ∧ J.T W) {k : Nat} (h : DropAt S I W w p q F Fs s st ks k w1) (hk : k < ks.length) (hl : ks.length ≤ 1000) (hage : st.age ≤ 20000) (hcl : s.calls ≤ 500000000000) (hok : keyOk ks[k]) {w2 : World} (hk2 : Kp w1 w2)
  (A : Option Addr) (n c : Nat) (hrow : Row w2 A (fun b => w1.heap.size ≤ b) (bcells (bodyO (some (graveIt ks[k]))))) (hn : n = (bodyO (some (graveIt ks[k]))).length) (hlc : n ≤ c) (hcm : c ≤ maxLen) :
  Calls Tryz.prog 44 #[.pointer (some ⟨q, 0, none⟩), .slice A n c] w2 fun e w3 => e = .returned (.int .i64 0) ∧ DropAt S I W w p q F Fs s st ks (k + 1) w3 := by
 obtain ⟨F', Fs', s', g, hb, hg, hgo⟩ := h
 have hc := hgo.calls
 refine (cadd2 S I J W w1 hT p q F' Fs' s' _ hb (by show st.age + k ≤ 25000; omega) (by omega) (some (graveIt ks[k])) (fun x hx => by cases hx; exact (grave_may _).2 hok) w2 hk2 A n c hrow hn hlc hcm).mono ?_
 rintro e w3 ⟨rfl, F2, Fs2, s2, g2, hg2, hd2, hr2, hgo2⟩
 refine ⟨rfl, F2, Fs2, s2, g2, ?_, Nat.le_trans hg hg2, hgo.trans hgo2 fun _ => Iff.rfl⟩
 have hb2 := hb.next hd2 hr2 hgo2
 have e : nextF ⟨st.place, st.segs, st.ents ++ (ks.take k).map grave, g, st.age + k⟩ (some (graveIt ks[k])) g2 = ⟨st.place, st.segs, st.ents ++ (ks.take (k + 1)).map grave, g2, st.age + (k + 1)⟩ := by
  rw [List.take_succ_eq_append_getElem hk, List.map_append, ← List.append_assoc]
  rfl
 rw [e] at hb2
 exact hb2
theorem DropAt.done (hT : S.T W) (h : DropAt S I W w p q F Fs s st ks ks.length w1) (hl : ks.length ≤ 1000) (hage : st.age ≤ 20000) (hcl : s.calls ≤ 500000000000) :
  Calls Tryz.prog 20 #[.pointer (some ⟨q, 0, none⟩)] w1 fun e w2 => e = .returned (.int .i64 0) ∧ DropPost S I w p q F Fs s st ks (.returned (.int .i64 0)) w2 := by
 obtain ⟨F', Fs', s', g, hb, hg, hgo⟩ := h
 have hc := hgo.calls
 refine (cflush S I W w1 hT p q F' Fs' s' _ hb (by omega)).mono ?_
 rintro e w2 ⟨rfl, F2, Fs2, rows, k, hd2, hr2, hgo2⟩
 obtain ⟨h1, h2⟩ := hr2 (st.age + ks.length + 1) (Nat.le_succ _) (by omega)
 rw [List.take_length] at h1 h2 hb
 exact ⟨rfl, rfl, F2, Fs2, rows, k, g, hd2, h1, h2, hg, hgo.trans hgo2 fun _ => Iff.rfl⟩
end
set_option maxRecDepth 100000 in
set_option maxHeartbeats 2000000 in
theorem cdrop (S : Slog2) (I : IndexOK) (J : ItemOK) (W w : World) (hT : S.T W ∧ I.T W ∧ J.T W) (p q : Nat) (F Fs : Foot) (s : SDev) (st : FSt) (hb : Cb S I W w p q F Fs s st) (hage : st.age ≤ 20000) (hcl : s.calls ≤ 500000000000)
  (A : Option Addr) (c : Nat) (ks : List ByteArray) (hrow : Row w A (fun b => ¬ F.all b ∧ ¬ Fs.all b) (ks.map Value.string)) (_hlc : ks.length ≤ c) (_hcm : c ≤ maxLen) (hl : ks.length ≤ 1000) (hok : ∀ k ∈ ks, keyOk k) :
  Calls Tryz.prog 47 #[.pointer (some ⟨q, 0, none⟩), .slice A ks.length c] w (DropPost S I w p q F Fs s st ks) := by
 have HDN := Lib.hid (show Calls Tryz.prog 41 #[.pointer (some ⟨q, 0, none⟩)] w (fun e w' => e = .returned (.bool false) ∧ w = w') from by
  obtain ⟨lq, iq, Fl, Fi, lo, lst, ix, hs, rfl, hc, -⟩ := hb.r
  exact cdown w q lq hc.blk.c0)
 have HROW := Lib.hid hrow
 have HJ := Lib.hid (show ∀ w1, Kp w w1 → J.T w1 from fun w1 hk => J.tk hT.2.2 (hb.kp.trans hk))
 have HJW := Lib.hid hT.2.2
 have HOK := Lib.hid hok
 have HST := Lib.hid (show ∀ w1, Kp w w1 → DropAt S I W w p q F Fs s st ks 0 w1 from fun w1 hk => DropAt.start hb hk)
 have HSP := Lib.hid (show ∀ k w1, DropAt S I W w p q F Fs s st ks k w1 → ∀ (hk : k < ks.length) w2, Kp w1 w2 → ∀ (A : Option Addr) (n c : Nat), Row w2 A (fun b => w1.heap.size ≤ b) (bcells (bodyO (some (graveIt ks[k])))) → n = (bodyO (some (graveIt ks[k]))).length → n ≤ c → c ≤ maxLen → _ from fun k w1 h hk w2 hk2 A n c hr hn h1 h2 => h.step J hT hk hl hage hcl (hok _ (List.getElem_mem hk)) hk2 A n c hr hn h1 h2)
 have HFL := Lib.hid (show ∀ w1, DropAt S I W w p q F Fs s st ks ks.length w1 → _ from fun w1 h => h.done hT.1 hl hage hcl)
 have hlm : ks.length ≤ 1000 := hl
 clear hb hage hcl hrow hok hl
 unfold maxLen at _hcm
 go_enter Tryz.func47, Tryz.ntmps47
 go_wp2_with fail
 refine (show Calls _ _ _ _ _ from HDN.out).mono ?_
 rintro e w' ⟨rfl, rfl⟩
 go_wp2_with fail
 go_loopw [14] (fun i wr => ∃ k, k ≤ ks.length ∧ i = .int .i64 k ∧ RowKit.Hid (Kp w wr)) (fun i _ => ks.length - (intOf i).toNat)
 case atStart => exact ⟨0, Nat.zero_le _, rfl, Lib.hid (Keeps.refl _ _)⟩
 case round =>
  obtain ⟨k, hk, rfl, hkp⟩ := hrel
  by_cases hlt : k < ks.length
  ·have t1 : decide ((k : Int) < (ks.length : Int)) = true := by simp; omega
   obtain ⟨b, o, rfl, -, hcell⟩ := (HROW.out.keep (hkp.out.mono fun _ _ _ => trivial)).at_ (k := k) (by simpa using hlt)
   rw [List.getElem_map] at hcell
   have hkok := HOK.out _ (List.getElem_mem hlt)
   have HKB := Lib.hid hkok
   have HGN := Lib.hid (cgone wr ks[k])
   have HMY := Lib.hid (show ∀ w1, Kp wr w1 → _ from fun w1 (hk1 : Kp wr w1) => may_grave J w1 (HJ.out w1 (hkp.out.trans hk1)) ks[k] (by have := hkok.2; omega) true ((grave_may _).2 hkok))
   clear hkok
   generalize ks[k] = key at hcell HGN HMY HKB
   go_wp2_with fail
   refine (show Calls _ _ _ _ _ from HGN.out).mono ?_
   rintro e w1 ⟨rfl, hk1⟩
   have HK1 := Lib.hid hk1
   clear hk1
   go_wp2_with fail
   refine (show Calls _ _ _ _ _ from HMY.out w1 HK1.out).mono ?_
   rintro e w2 ⟨rfl, hk2⟩
   have HK2 := Lib.hid (hkp.out.trans (HK1.out.trans hk2))
   clear hk2 hcell
   go_wp2_with fail
   go_roundw
   case rel => exact ⟨k + 1, by omega, by go_num, HK2⟩
   case measure => simp [intOf]; omega
  ·have t1 : decide ((k : Int) < (ks.length : Int)) = false := by simp; omega
   have t2 : decide (k < ks.length) = false := by simp; omega
   clear hlt
   have HD0 := Lib.hid (HST.out wr hkp.out)
   go_wp2_with fail
   go_loopw [25] (fun i wr => ∃ k, k ≤ ks.length ∧ i = .int .i64 k ∧ RowKit.Hid (DropAt S I W w p q F Fs s st ks k wr)) (fun i _ => ks.length - (intOf i).toNat)
   case atStart => exact ⟨0, Nat.zero_le _, rfl, HD0⟩
   case round =>
    obtain ⟨k, hk, rfl, hd⟩ := hrel
    by_cases hlt : k < ks.length
    ·have t1 : decide ((k : Int) < (ks.length : Int)) = true := by simp; omega
     obtain ⟨b, o, rfl, -, hcell⟩ := (hd.out.row HROW.out).at_ (k := k) (by simpa using hlt)
     rw [List.getElem_map] at hcell
     have hkok := HOK.out _ (List.getElem_mem hlt)
     have HGN := Lib.hid (cgone wr ks[k])
     have HEN := Lib.hid (show ∀ w1, Kp wr w1 → ∀ b, ItsAt w1 (some ⟨b, 0, none⟩) (fun _ => True) [graveIt ks[k]] → _ from fun w1 (hk1 : Kp wr w1) b hA => enc_one J w1 (J.tk HJW.out (hd.out.kp.trans hk1)) (graveIt ks[k]) ((grave_may _).2 hkok) b hA)
     have HAD := Lib.hid (HSP.out k wr hd.out hlt)
     clear hkok
     generalize ks[k] = key at hcell HGN HEN HAD
     go_wp2_with fail
     refine (show Calls _ _ _ _ _ from HGN.out).mono ?_
     rintro e w1 ⟨rfl, hk1⟩
     have hit := ItsAt.fresh w1 #[.string key, .string ⟨#[]⟩, .int .i64 0, .bool true] 40 (0, 0) w1.heap.size rfl (F := fun _ => True) trivial [graveIt key] rfl
     have hka : Kp wr (w1.alloc (.cells #[.string key, .string ⟨#[]⟩, .int .i64 0, .bool true] 40)) := hk1.alloc _
     have HIT := Lib.hid hit
     have HKA := Lib.hid hka
     clear hit hka hk1 hcell
     go_wp2_with fail
     refine (show Calls _ _ _ _ _ from HEN.out _ HKA.out _ HIT.out).mono ?_
     rintro e w3 ⟨B, n, kk, rfl, hn, hnk, hkm, hrow, hk3⟩
     have HA3 := Lib.hid (HAD.out w3 (HKA.out.trans hk3) B n kk (hrow.mono fun b _ hb => Nat.le_trans HKA.out.size hb) hn hnk hkm)
     clear hn hnk hkm hrow hk3 HKA HIT HEN HAD HGN
     go_wp2_with fail
     refine (show Calls _ _ _ _ _ from HA3.out).mono ?_
     rintro e w4 ⟨rfl, hd4⟩
     have HD4 := Lib.hid hd4
     clear hd4 HA3
     go_wp2_with fail
     go_roundw
     case rel => exact ⟨k + 1, by omega, by go_num, HD4⟩
     case measure => simp [intOf]; omega
    ·have t1 : decide ((k : Int) < (ks.length : Int)) = false := by simp; omega
     have t2 : decide (k < ks.length) = false := by simp; omega
     obtain rfl : k = ks.length := by omega
     have HF := Lib.hid (HFL.out wr hd.out)
     clear hlt
     go_wp2_with fail
     refine (show Calls _ _ _ _ _ from HF.out).mono ?_
     rintro e w2 ⟨rfl, hp⟩
     go_wp2_with fail
     go_ret
     exact hp
def findE (st : FSt) (k : ByteArray) : Ending :=
 match st.at_ k with
 | some x => .returned (.tuple #[.agg #[.string x.key, .string x.val, .int .i64 x.till, .bool x.gone], .bool true])
 | none => .returned (.tuple #[.agg #[.string ⟨#[]⟩, .string ⟨#[]⟩, .int .i64 0, .bool false], .bool false])
set_option maxRecDepth 100000 in
set_option maxHeartbeats 2000000 in
theorem cfind (S : Slog2) (I : IndexOK) (J : ItemOK) (w : World) (hT : S.T w ∧ I.T w ∧ J.T w) (p q : Nat) (F Fs : Foot) (s : SDev) (st : FSt) (hd : DAt w p F s) (hr : flashRep S I w p q Fs st s) (ha : Apart F Fs) (hroom : st.place + 8 * st.segs ≤ s.now.length) (hage : st.age ≤ 30000) (k : ByteArray) (hk : k.size ≤ 1000000) :
  Calls Tryz.prog 57 #[.pointer (some ⟨q, 0, none⟩), .string k] w fun e w' => e = findE st k ∧ Kp w w' := by
 obtain ⟨lq, iq, Fl, lst, hs, v, b, c0, c1, hl, hon, hal, hpl, hsg, hrecs, hat, hmay, hv, hbb, hget⟩ := cplace S I hT.2.1 hr ha hage k hk
 obtain ⟨w0, hw0⟩ : ∃ w0, w.alloc (.cells itZ 40) = w0 := ⟨_, rfl⟩
 have HW0 := Lib.hid (show w.alloc (.cells #[.string ⟨#[]⟩, .string ⟨#[]⟩, .int .i64 0, .bool false] 40) = w0 from hw0)
 have hb0 : w0.heap[w.heap.size]? = some (.cells itZ 40 (0, 0)) := by rw [← hw0]; exact heap_alloc_new w _
 have hk0 : Kp w w0 := by rw [← hw0]; exact (Keeps.refl _ w).alloc _
 have hz0 : w.heap.size < w0.heap.size := by rw [← hw0]; simp
 have HB0 := Lib.hid hb0
 have HK0 := Lib.hid hk0
 have HZ0 := Lib.hid hz0
 have d0 := hk0.cell c0 trivial
 have d1 := hk0.cell c1 trivial
 have HDN := Lib.hid (cdown w0 q lq d0)
 have HGT := Lib.hid (hget w0 hk0)
 cases hsp : sp (hs.drop lst.gone) k with
 | none =>
  have he : findE st k = .returned (.tuple #[.agg #[.string ⟨#[]⟩, .string ⟨#[]⟩, .int .i64 0, .bool false], .bool false]) := by
   unfold findE
   rw [hat, hsp]
   rfl
  have hb2 : b = false := by rw [hbb, hsp]; rfl
  subst hb2
  rw [he]
  clear hat hsp hbb hv hrecs hmay hl hon hal hpl hsg hget hd hr ha hroom hk0 hb0 hz0 hw0 he
  go_enter Tryz.func57, Tryz.ntmps57
  go_wp2_with (rw [HW0.out])
  try rw [HW0.out]
  refine (show Calls _ _ _ _ _ from HDN.out).mono ?_
  rintro e w' ⟨rfl, rfl⟩
  go_wp2_with fail
  refine (show Calls _ _ _ _ _ from HGT.out).mono ?_
  rintro e w1 ⟨rfl, hk1⟩
  have hb1 := (hk1.block w.heap.size trivial HZ0.out).trans HB0.out
  have HRES := res4 w w1 hb1 (HK0.out.trans hk1)
  obtain ⟨f0, f1, f2, f3, r0, r1, r2, r3⟩ := res4u w w1 hb1
  clear hb1 hk1
  obtain ⟨e0, e1, e2, e3, HK⟩ := HRES.out (.string ⟨#[]⟩) (.string ⟨#[]⟩) (.int .i64 0) (.bool false)
  have HKK := Lib.hid HK
  clear HK
  go_wp2_with fail
  exact bodyPost_ret (v := .tuple #[.agg #[.string ⟨#[]⟩, .string ⟨#[]⟩, .int .i64 0, .bool false], .bool false]) (by simp [results, Tryz.results57, go_sem, e0, e1, e2, e3]) rfl ⟨rfl, HKK.out⟩
 | some y =>
  obtain ⟨po, x⟩ := y
  obtain ⟨hmem, hkey, hgone⟩ := sp_mem hsp
  have hxm := hmay po x (List.mem_of_mem_drop hmem)
  have he : findE st k = .returned (.tuple #[.agg #[.string x.key, .string x.val, .int .i64 x.till, .bool x.gone], .bool true]) := by
   unfold findE
   rw [hat, hsp]
   rfl
  have hb2 : b = true := by rw [hbb, hsp]; rfl
  have hv2 : v = (po : Int) := by rw [hv, hsp]; rfl
  subst hb2
  subst hv2
  rw [he]
  have hrec : (po, x.bytes) ∈ lst.recs := by rw [hrecs]; exact List.mem_map.2 ⟨_, hmem, rfl⟩
  have HRD := Lib.hid (show ∀ w1, Kp w w1 → Calls Tryz.prog 85 #[.pointer (some ⟨lq, 0, none⟩), .int .i64 (po : Int)] w1 fun e w' => ∃ A n c, e = .returned (.tuple #[.slice A n c, .int .i64 0]) ∧ n = x.bytes.length ∧ n ≤ c ∧ c ≤ maxLen ∧ Row w' A (fun _ => True) (bcells x.bytes) ∧ Kp w1 w' from fun w1 hk1 => by
   refine (S.read w1 p lq F Fl s lst (hd.keep (hk1.mono fun _ _ _ => trivial)) (S.keep hl (hk1.mono fun _ _ _ => trivial)) hon hal (S.tk hT.1 hk1) (by rw [hpl, hsg]; exact hroom) po x.bytes hrec).mono ?_
   rintro e w' ⟨A, c, rfl, h1, h2, h3, -, h4⟩
   exact ⟨A, _, c, rfl, rfl, h1, h2, h3.mono fun _ _ _ => trivial, h4⟩)
  have HEN := Lib.hid (show ∀ w1, Kp w w1 → ∀ (A : Option Addr) (n c : Nat), Row w1 A (fun _ => True) (bcells x.bytes) → n = x.bytes.length → n ≤ c → c ≤ maxLen → _ from fun w1 (hk1 : Kp w w1) A n c hr hn h1 h2 => centry J w1 (J.tk hT.2.2 hk1) A n c x hxm hr hn h1 h2)
  clear hat hsp hbb hv hrecs hmay hl hon hal hpl hsg hget hd hr ha hroom hk0 hb0 hz0 hw0 he hmem hkey hxm hrec hgone
  go_enter Tryz.func57, Tryz.ntmps57
  go_wp2_with (rw [HW0.out])
  try rw [HW0.out]
  refine (show Calls _ _ _ _ _ from HDN.out).mono ?_
  rintro e w' ⟨rfl, rfl⟩
  go_wp2_with fail
  refine (show Calls _ _ _ _ _ from HGT.out).mono ?_
  rintro e w1 ⟨rfl, hk1⟩
  replace d0 := hk1.cell d0 trivial
  have HK1 := Lib.hid hk1
  clear hk1 d1
  go_wp2_with fail
  refine (show Calls _ _ _ _ _ from HRD.out w1 (HK0.out.trans HK1.out)).mono ?_
  rintro e w2 ⟨A, n, c, rfl, hn, h1, h2, h3, hk2⟩
  have HK2 := Lib.hid (HK1.out.trans hk2)
  have HE2 := Lib.hid (HEN.out w2 (HK0.out.trans HK2.out) A n c h3 hn h1 h2)
  clear hk2 hn h1 h2 h3 d0
  go_wp2_with fail
  refine (show Calls _ _ _ _ _ from HE2.out).mono ?_
  rintro e w3 ⟨rfl, hk3⟩
  have hk30 := HK2.out.trans hk3
  have hb1 := (hk30.block w.heap.size trivial HZ0.out).trans HB0.out
  have HRES := res4 w w3 hb1 (HK0.out.trans hk30)
  obtain ⟨f0, f1, f2, f3, r0, r1, r2, r3⟩ := res4u w w3 hb1
  clear hb1 hk3 hk30
  obtain ⟨e0, e1, e2, e3, HK⟩ := HRES.out (.string x.key) (.string x.val) (.int .i64 x.till) (.bool x.gone)
  have HKK := Lib.hid HK
  clear HK
  go_wp2_with fail
  exact bodyPost_ret (v := .tuple #[.agg #[.string x.key, .string x.val, .int .i64 x.till, .bool x.gone], .bool true]) (by simp [results, Tryz.results57, go_sem, e0, e1, e2, e3]) rfl ⟨rfl, HKK.out⟩
set_option maxRecDepth 100000 in
set_option maxHeartbeats 2000000 in
theorem cget (S : Slog2) (I : IndexOK) (J : ItemOK) (w : World) (hT : S.T w ∧ I.T w ∧ J.T w) (p q : Nat) (F Fs : Foot) (s : SDev) (st : FSt) (hd : DAt w p F s) (hr : flashRep S I w p q Fs st s) (ha : Apart F Fs) (hroom : st.place + 8 * st.segs ≤ s.now.length) (hage : st.age ≤ 30000) (k : ByteArray) (now : Int) (hk : k.size ≤ 1000000) (hn1 : -9223372036854775808 ≤ now) (hn2 : now < 9223372036854775808) :
  Calls Tryz.prog 25 #[.pointer (some ⟨q, 0, none⟩), .string k, .int .i64 now] w fun e w' => e = getE st k now ∧ Kp w w' := by
 have hmay : ∀ x, st.at_ k = some x → x.may = true := fun x hx => by
  obtain ⟨lq, iq, Fl, Fi, lo, lst, ix, hs, rfl, hc, hm, -⟩ := hr
  rw [hm.at_ k] at hx
  cases hsp : sp (hs.drop lst.gone) k with
  | none => rw [hsp] at hx; cases hx
  | some y =>
   obtain ⟨po, z⟩ := y
   rw [hsp] at hx
   cases hx
   exact hm.may po z (List.mem_of_mem_drop (sp_mem hsp).1)
 obtain ⟨w0, hw0⟩ : ∃ w0, w.alloc (.cells itZ 40) = w0 := ⟨_, rfl⟩
 have HW0 := Lib.hid (show w.alloc (.cells #[.string ⟨#[]⟩, .string ⟨#[]⟩, .int .i64 0, .bool false] 40) = w0 from hw0)
 have hb0 : w0.heap[w.heap.size]? = some (.cells itZ 40 (0, 0)) := by rw [← hw0]; exact heap_alloc_new w _
 have hk0 : Kp w w0 := by rw [← hw0]; exact (Keeps.refl _ w).alloc _
 have hz0 : w.heap.size < w0.heap.size := by rw [← hw0]; simp
 have HB0 := Lib.hid hb0
 have HK0 := Lib.hid hk0
 have HZ0 := Lib.hid hz0
 have hf := cfind S I J w0 ⟨S.tk hT.1 hk0, I.tk hT.2.1 hk0, J.tk hT.2.2 hk0⟩ p q F Fs s st (hd.keep (hk0.mono fun _ _ _ => trivial)) (frep_keep hr (hk0.mono fun _ _ _ => trivial)) ha hroom hage k hk
 have HJ := Lib.hid hT.2.2
 have HMAY := Lib.hid hmay
 unfold getE
 unfold findE at hf
 clear hd hr ha hroom hage hT hmay hw0 hb0 hk0 hz0
 cases hat : st.at_ k with
 | none =>
  rw [hat] at hf
  obtain ⟨z, hz⟩ : ∃ z : It, z = ⟨⟨#[]⟩, ⟨#[]⟩, 0, false⟩ := ⟨_, rfl⟩
  have HF := Lib.hid (show Calls Tryz.prog 57 #[.pointer (some ⟨q, 0, none⟩), .string k] w0 (fun e w' => e = .returned (.tuple #[.agg #[.string z.key, .string z.val, .int .i64 z.till, .bool z.gone], .bool false]) ∧ Kp w0 w') from by
   subst hz
   exact hf)
  clear hf hat hz
  simp only
  go_enter Tryz.func25, Tryz.ntmps25
  go_wp2_with (rw [HW0.out])
  try rw [HW0.out]
  refine (show Calls _ _ _ _ _ from HF.out).mono ?_
  rintro e w1 ⟨rfl, hk1⟩
  obtain ⟨w2, hw2⟩ : ∃ w2, w1.alloc (.cells #[.string z.key, .string z.val, .int .i64 z.till, .bool z.gone] 40) = w2 := ⟨_, rfl⟩
  have hk2 : Kp w1 w2 := by rw [← hw2]; exact (Keeps.refl _ w1).alloc _
  have hk12 := hk1.trans hk2
  have hb1 := (hk12.block w.heap.size trivial HZ0.out).trans HB0.out
  have HRES := res4 w w2 hb1 (HK0.out.trans hk12)
  obtain ⟨f0, f1, f2, f3, r0, r1, r2, r3⟩ := res4u w w2 hb1
  have HW2 := Lib.hid hw2
  clear hb1 hk1 hk2 hk12 hw2
  obtain ⟨e0, e1, e2, e3, HK⟩ := HRES.out (.string ⟨#[]⟩) (.string ⟨#[]⟩) (.int .i64 0) (.bool false)
  have HKK := Lib.hid HK
  clear HK
  go_wp2_with (rw [HW2.out])
  try rw [HW2.out]
  all_goals exact bodyPost_ret (v := .tuple #[.agg #[.string ⟨#[]⟩, .string ⟨#[]⟩, .int .i64 0, .bool false], .bool false]) (by simp [results, Tryz.results25, go_sem, e0, e1, e2, e3]) rfl ⟨rfl, HKK.out⟩
 | some x =>
  rw [hat] at hf
  have HF := Lib.hid hf
  have hxm := HMAY.out x hat
  have HLV := Lib.hid (show ∀ w1, Kp w w1 → _ from fun w1 (hk1 : Kp w w1) => J.live w1 x now (J.tk HJ.out hk1) (It.may_fits hxm) hn1 hn2)
  clear hf hat hxm
  simp only
  simp only at HF
  go_enter Tryz.func25, Tryz.ntmps25
  go_wp2_with (rw [HW0.out])
  try rw [HW0.out]
  refine (show Calls _ _ _ _ _ from HF.out).mono ?_
  rintro e w1 ⟨rfl, hk1⟩
  obtain ⟨w2, hw2⟩ : ∃ w2, w1.alloc (.cells #[.string x.key, .string x.val, .int .i64 x.till, .bool x.gone] 40) = w2 := ⟨_, rfl⟩
  have hk2 : Kp w1 w2 := by rw [← hw2]; exact (Keeps.refl _ w1).alloc _
  have hb2 : w2.heap[w1.heap.size]? = some (.cells #[.string x.key, .string x.val, .int .i64 x.till, .bool x.gone] 40 (0, 0)) := by rw [← hw2]; exact heap_alloc_new w1 _
  have HB2 := Lib.hid hb2
  have HK12 := Lib.hid (hk1.trans hk2)
  have x0 : w2.cell? ⟨w1.heap.size, 0, none⟩ = some (.string x.key) := (cell_of_block hb2 0).trans rfl
  have x1 : w2.cell? ⟨w1.heap.size, 1, none⟩ = some (.string x.val) := (cell_of_block hb2 1).trans rfl
  have x2 : w2.cell? ⟨w1.heap.size, 2, none⟩ = some (.int .i64 x.till) := (cell_of_block hb2 2).trans rfl
  have x3 : w2.cell? ⟨w1.heap.size, 3, none⟩ = some (.bool x.gone) := (cell_of_block hb2 3).trans rfl
  have HW2 := Lib.hid hw2
  have HLV2 := Lib.hid (HLV.out w2 (HK0.out.trans HK12.out))
  clear hk1 hk2 hw2 hb2
  go_wp2_with (rw [HW2.out])
  try rw [HW2.out]
  refine (show Calls _ _ _ _ _ from HLV2.out).mono ?_
  rintro e w3 ⟨rfl, hk3⟩
  have hk13 := HK12.out.trans hk3
  have hb1 := (hk13.block w.heap.size trivial HZ0.out).trans HB0.out
  have HRES := res4 w w3 hb1 (HK0.out.trans hk13)
  obtain ⟨f0, f1, f2, f3, r0, r1, r2, r3⟩ := res4u w w3 hb1
  replace x0 := hk3.cell x0 trivial
  replace x1 := hk3.cell x1 trivial
  replace x2 := hk3.cell x2 trivial
  replace x3 := hk3.cell x3 trivial
  clear hb1 hk3 hk13
  cases hlv : x.live now with
  | true =>
   obtain ⟨e0, e1, e2, e3, HK⟩ := HRES.out (.string x.key) (.string x.val) (.int .i64 x.till) (.bool x.gone)
   have HKK := Lib.hid HK
   clear HK
   go_wp2_with fail
   all_goals exact bodyPost_ret (v := .tuple #[.agg #[.string x.key, .string x.val, .int .i64 x.till, .bool x.gone], .bool true]) (by simp [results, Tryz.results25, go_sem, e0, e1, e2, e3]) rfl ⟨rfl, HKK.out⟩
  | false =>
   obtain ⟨e0, e1, e2, e3, HK⟩ := HRES.out (.string ⟨#[]⟩) (.string ⟨#[]⟩) (.int .i64 0) (.bool false)
   have HKK := Lib.hid HK
   clear HK
   go_wp2_with fail
   all_goals exact bodyPost_ret (v := .tuple #[.agg #[.string ⟨#[]⟩, .string ⟨#[]⟩, .int .i64 0, .bool false], .bool false]) (by simp [results, Tryz.results25, go_sem, e0, e1, e2, e3]) rfl ⟨rfl, HKK.out⟩
set_option maxRecDepth 100000 in
set_option maxHeartbeats 1000000 in
theorem ckeys (S : Slog2) (I : IndexOK) (w : World) (hT : I.T w) (p q : Nat) (Fs : Foot) (s : SDev) (st : FSt) (hr : flashRep S I w p q Fs st s) (hage : st.age ≤ 30000) :
  Calls Tryz.prog 30 #[.pointer (some ⟨q, 0, none⟩)] w fun e w' => ∃ (A : Option Addr) (c : Nat) (ks : List ByteArray), e = .returned (.slice A ks.length c) ∧ Rising ks ∧ (∀ k, k ∈ ks ↔ (st.at_ k).isSome = true) ∧ ks.length ≤ c ∧ c ≤ maxLen ∧ TextsAt w' A (fun b => w.heap.size ≤ b ∧ b < w'.heap.size) ks ∧ Kp w w' := by
 obtain ⟨lq, iq, Fl, Fi, lo, lst, ix, hs, rfl, hc, hm, hx⟩ := hr
 have c0 := hc.blk.c0
 have c1 := hc.blk.c1
 have HDN := Lib.hid (cdown w q lq c0)
 have HMEM := Lib.hid (show ∀ k, k ∈ ix.map (·.1) ↔ (st.at_ k).isSome = true from fun k => by
  rw [hm.at_ k]
  have h := hx.is k
  constructor
  ·intro hk
   obtain ⟨a, ha, rfl⟩ := List.mem_map.1 hk
   have h2 := ixGet_of hx.nd (k := a.1) (p := a.2) ha
   rw [h2] at h
   cases hsp : sp (hs.drop lst.gone) a.1 with
   | none => rw [hsp] at h; cases h
   | some y => rfl
  ·intro hk
   cases hsp : sp (hs.drop lst.gone) k with
   | none => rw [hsp] at hk; cases hk
   | some y =>
    rw [hsp] at h
    exact List.mem_map.2 ⟨_, ixGet_mem h, rfl⟩)
 have HKS := Lib.hid (I.keys w iq Fi ix hc.i hT (Nat.le_trans hx.len (by omega)))
 clear hc hm hx
 go_enter Tryz.func30, Tryz.ntmps30
 go_wp2_with fail
 refine (show Calls _ _ _ _ _ from HDN.out).mono ?_
 rintro e w' ⟨rfl, rfl⟩
 go_wp2_with fail
 refine (show Calls _ _ _ _ _ from HKS.out).mono ?_
 rintro e w1 ⟨A, c, ks, rfl, hp, hri, h1, h2, h3, h4⟩
 have hl : ix.length = ks.length := by have := hp.length_eq; rw [List.length_map] at this; exact this.symm
 rw [hl] at h1 ⊢
 have HFIN := Lib.hid (show ∃ (A' : Option Addr) (c' : Nat) (ks' : List ByteArray), Ending.returned (.slice A ks.length c) = .returned (.slice A' ks'.length c') ∧ Rising ks' ∧ (∀ k, k ∈ ks' ↔ (st.at_ k).isSome = true) ∧ ks'.length ≤ c' ∧ c' ≤ maxLen ∧ TextsAt w1 A' (fun b => w.heap.size ≤ b ∧ b < w1.heap.size) ks' ∧ Kp w w1 from
  ⟨A, c, ks, rfl, hri, fun k => by rw [hp.mem_iff]; exact HMEM.out k, h1, h2, h3, h4⟩)
 clear hl h1 h2 h3 h4 hp hri
 generalize ks.length = n at HFIN
 go_wp2_with fail
 go_ret
 exact HFIN.out
end Go.Proofs.YticophaepapjoaaGreatDoor
