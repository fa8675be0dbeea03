/-
  StBlank, FlDrop, JnLib: texts of mine, joined.
-/
import Derived.Test.YticophaepapjoaaGreatDoorAllB22
import Derived.Test.YticophaepapjoaaGreatDoorAllB26
import Derived.Test.YticophaepapjoaaGreatDoorAllB19
import Derived.Test.YticophaepapjoaaGreatDoorAllB04
import Derived.Sort.Row
open Go.Lib renaming hid → Hd
set_option maxRecDepth 100000
set_option maxHeartbeats 8000000
namespace Go.Proofs.YticophaepapjoaaGreatDoor
open Go Go.RowKit Go.Joins
structure SBl (rows rows' : List (List UInt8)) (a j : Nat) : Prop where
 len : rows'.length = rows.length
 yes : ∀ i, a ≤ i → i < j → rows'.getD i [] = blank
 no : ∀ i, (i < a ∨ j ≤ i) → rows'.getD i [] = rows.getD i []
theorem SBl.start (rows : List (List UInt8)) (a : Nat) : SBl rows rows a a := ⟨rfl, fun i h1 h2 => by omega, fun _ _ => rfl⟩
theorem SBl.next {rows rows' : List (List UInt8)} {a j : Nat} (h : SBl rows rows' a j) (ha : a ≤ j) (hj : j < rows.length) : SBl rows (rows'.set j blank) a (j + 1) := by
 refine ⟨by rw [List.length_set]; exact h.len, fun i h1 h2 => ?_, fun i hi => ?_⟩
 ·by_cases e : j = i
  ·subst e
   rw [List.getD_eq_getElem?_getD, List.getElem?_set_self (by rw [h.len]; exact hj)]; rfl
  ·rw [List.getD_eq_getElem?_getD, List.getElem?_set_ne e, ← List.getD_eq_getElem?_getD]
   exact h.yes i h1 (by omega)
 ·rw [List.getD_eq_getElem?_getD, List.getElem?_set_ne (by omega), ← List.getD_eq_getElem?_getD]
  exact h.no i (by omega)
def StMid (w2 : World) (p : Nat) (F : Foot) (s : SDev) (a j : Nat) (w : World) : Prop := ∃ (F' : Foot) (s' : SDev), DAt w p F' s' ∧ SBl s.now s'.now a j ∧ s'.calls + a = s.calls + j ∧ Step F F' w2 w
theorem sblank_any (w : World) (p : Nat) (F : Foot) (s : SDev) (h : DAt w p F s) (a b : Nat) (hab : a ≤ b) (hb : b ≤ s.now.length) (hcalls : s.calls ≤ 549755813888) (za zb : Int) (hza : za = (a : Int)) (hzb : zb = (b : Int)) :
  Calls Tryz.prog 37 #[.pointer (some ⟨p, 0, none⟩), .int .i64 za, .int .i64 zb] w fun e w' => e = .returned (.int .i64 0) ∧ ∃ (F' : Foot) (rows : List (List UInt8)) (c : Nat), DAt w' p F' (SDev.still rows c) ∧ SBl s.now rows a b ∧ c ≤ s.calls + 3000 ∧ Step F F' w w' := by
 subst hza hzb
 have hsm := h.ok.small
 have HD := Hd h
 have HI := Hd hb
 have hi1 : b ≤ 2048 := by omega
 clear h hb
 go_enter Tryz.func37, Tryz.ntmps37
 go_wp2_with (refine list_make rfl (.const (.int .i64 64)) (.const (.int .i64 64)) 64 rfl byte_elem .i64 .i64 64 rfl rfl (by decide) (by decide) (bcells blank) made64 ?_)
 intro w2 hown hg2
 have hk2 : Keeps (fun _ => True) w w2 := Keeps.of_grown hg2 (fun _ h => by cases h)
 have HR := Hd (own_row hown)
 have HD2 := Hd (HD.out.keep (hk2.mono fun _ _ _ => trivial))
 have hgF : ∀ b, b = w.heap.size → ¬ F.all b := fun b e hf => by have := HD.out.lt b hf; omega
 have hlt2 := (hown.lt _ rfl).2
 have HG := Hd hgF
 have HL2 := Hd hlt2
 have HK := Hd hk2
 clear hown hg2 hk2 hgF hlt2
 go_wp2_with fail
 go_loopw [8] (fun i9 wr => ∃ k : Nat, a ≤ k ∧ k ≤ b ∧ i9 = .int .i64 k ∧ StMid w2 p F s a k wr) (fun i9 _ => b - (intOf i9).toNat)
 case atStart => exact ⟨a, Nat.le_refl _, hab, rfl, F, s, HD2.out, SBl.start _ _, rfl, Step.refl _ _⟩
 case round =>
  obtain ⟨k, hka, hk, rfl, F', s', hd, hn, hc, hst⟩ := hrel
  by_cases hlt : k < b
  ·have hlt' : (k : Int) < (b : Int) := by omega
   have hkl : k < s'.now.length := by rw [hn.len]; have := HI.out; omega
   have hw := dwrite_yes wr p F' s' hd k (some ⟨w.heap.size, 0, none⟩) 64 (fun b => b = w.heap.size) blank (HR.out.keep (hst.keeps.mono fun b _ e hm => HG.out b e (.inl hm))) (fun b e hf => by
     rcases hst.all b hf with h1 | h1
     ·exact HG.out b e h1
     ·have := HL2.out; subst e; omega) hkl (Nat.le_refl _) (by omega)
   rw [show blank.length = 64 from rfl] at hw
   have HW := Hd hw
   have hn2 : SBl s.now (s'.write k blank).now a (k + 1) := by
    rw [write64_now s' k blank rfl (row64 hd _ hkl)]
    exact hn.next hka (by rw [← hn.len]; exact hkl)
   have HN := Hd hn2
   have HC := Hd hc
   have HS := Hd hst
   clear hd hn hc hst hw hn2
   go_wp2_with fail
   refine (show Calls _ _ _ _ _ from HW.out).mono ?_
   rintro e w3 ⟨rfl, F3, hd3, hst3⟩
   have H3 := Hd (show StMid w2 p F s a (k + 1) w3 from ⟨F3, _, hd3, HN.out, by show s'.calls + 1 + a = _; have := HC.out; omega, HS.out.trans hst3⟩)
   clear hd3 hst3 HW HN HC HS
   go_wp2_with fail
   go_roundw
   case rel => exact ⟨k + 1, by omega, by omega, by go_num, H3.out⟩
   case measure => simp [intOf]; omega
  ·obtain rfl : k = b := by omega
   have hf := dflush_any wr p F' s' hd (by omega)
   rw [flush_is] at hf
   have HF := Hd hf
   have HS := Hd hst
   have HN := Hd hn
   have HC := Hd (show s'.calls + 1 ≤ s.calls + 3000 by omega)
   clear hf hst hn hc hd
   go_wp2_with fail
   refine (show Calls _ _ _ _ _ from HF.out).mono ?_
   rintro e w3 ⟨rfl, F3, hd3, hst3⟩
   have H3 := Hd (show ∃ (F' : Foot) (rows : List (List UInt8)) (c : Nat), DAt w3 p F' (SDev.still rows c) ∧ SBl s.now rows a k ∧ c ≤ s.calls + 3000 ∧ Step F F' w w3 from ⟨F3, _, _, hd3, HN.out, HC.out, by
    have h := HS.out.trans hst3
    have hk2 := HK.out
    exact ⟨(hk2.mono fun _ _ _ => trivial).trans h.keeps, fun b hb => (h.m b hb).imp id fun h1 => Nat.le_trans hk2.size h1, fun b hb => (h.i b hb).imp id fun h1 => Nat.le_trans hk2.size h1⟩⟩)
   clear hd3 hst3 HF HS HN HC
   go_wp2_with fail
   go_ret
   exact ⟨rfl, H3.out⟩
theorem cputNo (S : Slog2) (I : IndexOK) (J : ItemOK) (w : World) (hT : J.T w) (p q : Nat) (Fs : Foot) (s : SDev) (st : FSt) (hr : flashRep S I w p q Fs st s) (x : It) (hf : x.fits) (hno : x.may = false ∨ x.gone = true) :
  Calls Tryz.prog 14 #[.pointer (some ⟨q, 0, none⟩), .agg #[.string x.key, .string x.val, .int .i64 x.till, .bool x.gone]] w fun e w' => e = .returned (.int .i64 1) ∧ Kp w w' := by
 obtain ⟨lq, iq, Fl, Fi, lo, lst, ix, hs, rfl, hc, -⟩ := hr
 obtain ⟨w0, hw0⟩ : ∃ w0, w.alloc (.cells #[.string x.key, .string x.val, .int .i64 x.till, .bool x.gone] 40) = w0 := ⟨_, rfl⟩
 have HW0 := Hd hw0
 have hb0 : w0.heap[w.heap.size]? = some (.cells #[.string x.key, .string x.val, .int .i64 x.till, .bool x.gone] 40 (0, 0)) := by rw [← hw0]; exact heap_alloc_new w _
 have hk0 : Kp w w0 := by rw [← hw0]; exact (Keeps.refl _ w).alloc _
 have r0 : w0.cell? ⟨w.heap.size, 0, none⟩ = some (.string x.key) := (cell_of_block hb0 0).trans rfl
 have r1 : w0.cell? ⟨w.heap.size, 1, none⟩ = some (.string x.val) := (cell_of_block hb0 1).trans rfl
 have r2 : w0.cell? ⟨w.heap.size, 2, none⟩ = some (.int .i64 x.till) := (cell_of_block hb0 2).trans rfl
 have r3 : w0.cell? ⟨w.heap.size, 3, none⟩ = some (.bool x.gone) := (cell_of_block hb0 3).trans rfl
 have d0 := hk0.cell hc.blk.c0 trivial
 have HDN := Hd (cdown w0 q lq d0)
 have HMY := Hd (J.may w0 x (J.tk hT hk0) hf)
 have HK0 := Hd hk0
 clear hf hw0 hb0 hk0 hc
 go_enter Tryz.func14, Tryz.ntmps14
 go_wp2_with (rw [HW0.out])
 try rw [HW0.out]
 refine (show Calls _ _ _ _ _ from HDN.out).mono ?_
 rintro e w' ⟨rfl, rfl⟩
 go_wp2_with fail
 refine (show Calls _ _ _ _ _ from HMY.out).mono ?_
 rintro e w1 ⟨rfl, hk1⟩
 replace r3 := hk1.cell r3 trivial
 have HK1 := Hd (HK0.out.trans hk1)
 clear hk1
 cases hm : x.may with
 | false =>
  go_wp2_with fail
  go_ret
  exact ⟨rfl, HK1.out⟩
 | true =>
  have hg : x.gone = true := by
   rcases hno with h | h
   ·rw [hm] at h; cases h
   ·exact h
  rw [hg] at r3
  go_wp2_with fail
  go_ret
  exact ⟨rfl, HK1.out⟩
def graveIt (k : ByteArray) : It := ⟨k, ⟨#[]⟩, 0, true⟩
theorem grave_may (k : ByteArray) : (graveIt k).may = true ↔ keyOk k := by
 unfold graveIt It.may keyOk
 simp
 exact ⟨fun h => h.1.1, fun h => ⟨⟨h, by show 0 ≤ 200; decide⟩, rfl⟩⟩
theorem grave_fits {k : ByteArray} (hk : k.size ≤ 1000000) : (graveIt k).fits := ⟨hk, by show 0 ≤ 1000000; decide, by show -9223372036854775808 ≤ (0 : Int); decide, by show (0 : Int) < 9223372036854775808; decide⟩
theorem may_grave (J : ItemOK) (w : World) (hT : J.T w) (k : ByteArray) (hk : k.size ≤ 1000000) (b : Bool) (hb : (graveIt k).may = b) :
  Calls Tryz.prog 42 #[.agg #[.string k, .string ⟨#[]⟩, .int .i64 0, .bool true]] w fun e w' => e = .returned (.bool b) ∧ Kp w w' := by
 have h := J.may w (graveIt k) hT (grave_fits hk)
 rw [hb] at h
 exact h
def DropAt (S : Slog2) (I : IndexOK) (W w : World) (p q : Nat) (F Fs : Foot) (s : SDev) (st : FSt) (ks : List ByteArray) (k : Nat) (w' : World) : Prop :=
 ∃ (F' Fs' : Foot) (s' : SDev) (g : Nat), Cb S I W w' p q F' Fs' s' ⟨st.place, st.segs, st.ents ++ (ks.take k).map grave, g, st.age + k⟩ ∧ st.gone ≤ g ∧ FGo w w' F F' Fs Fs' s s' st k
def DropPost (S : Slog2) (I : IndexOK) (w : World) (p q : Nat) (F Fs : Foot) (s : SDev) (st : FSt) (ks : List ByteArray) (e : Ending) (w' : World) : Prop :=
 e = .returned (.int .i64 0) ∧ ∃ (F' Fs' : Foot) (rows : List (List UInt8)) (k g : Nat), DAt w' p F' (SDev.still rows k) ∧ flashRep S I w' p q Fs' ⟨st.place, st.segs, st.ents ++ ks.map grave, g, st.age + ks.length + 1⟩ (SDev.still rows k) ∧ flashDisk S ⟨st.place, st.segs, st.ents ++ ks.map grave, g, st.age + ks.length + 1⟩ rows ∧ st.gone ≤ g ∧ FGo w w' F F' Fs Fs' s (SDev.still rows k) st (ks.length + 1)
section
variable {S : Slog2} {I : IndexOK} {W w w1 : World} {p q : Nat} {F Fs : Foot} {s : SDev} {st : FSt} {ks : List ByteArray}
theorem DropAt.start (hb : Cb S I W w p q F Fs s st) (hk : Kp w w1) : DropAt S I W w p q F Fs s st ks 0 w1 :=
 ⟨F, Fs, s, st.gone, by simpa using hb.keep hk, Nat.le_refl _, FGo.still hb hk⟩
theorem DropAt.row {k : Nat} (h : DropAt S I W w p q F Fs s st ks k w1) {A : Option Addr} {xs : List Value} (hr : Row w A (fun b => ¬ F.all b ∧ ¬ Fs.all b) xs) : Row w1 A (fun b => ¬ F.all b ∧ ¬ Fs.all b) xs := by
 obtain ⟨F', Fs', s', g, hb, hg, hgo⟩ := h
 exact hr.keep (hgo.k.mono fun b _ hb => ⟨fun hm => hb.1 (.inl hm), fun hm => hb.2 (.inl hm)⟩)
theorem DropAt.kp {k : Nat} (h : DropAt S I W w p q F Fs s st ks k w1) : Kp W w1 := by
 obtain ⟨F', Fs', s', g, hb, hg, hgo⟩ := h
 exact hb.kp
theorem DropAt.step (J : ItemOK) (hT : S.T W ∧ I.T W ∧ J.T W) {k : Nat} (h : DropAt S I W w p q F Fs s st ks k w1) (hk : k < ks.length) (hl : ks.length ≤ 1000) (hage : st.age ≤ 20000) (hcl : s.calls ≤ 500000000000) (hok : keyOk ks[k]) {w2 : World} (hk2 : Kp w1 w2)
  (A : Option Addr) (n c : Nat) (hrow : Row w2 A (fun b => w1.heap.size ≤ b) (bcells (bodyO (some (graveIt ks[k]))))) (hn : n = (bodyO (some (graveIt ks[k]))).length) (hlc : n ≤ c) (hcm : c ≤ maxLen) :
  Calls Tryz.prog 44 #[.pointer (some ⟨q, 0, none⟩), .slice A n c] w2 fun e w3 => e = .returned (.int .i64 0) ∧ DropAt S I W w p q F Fs s st ks (k + 1) w3 := by
 obtain ⟨F', Fs', s', g, hb, hg, hgo⟩ := h
 have hc := hgo.calls
 refine (cadd2 S I J W w1 hT p q F' Fs' s' _ hb (by show st.age + k ≤ 25000; omega) (by omega) (some (graveIt ks[k])) (fun x hx => by cases hx; exact (grave_may _).2 hok) w2 hk2 A n c hrow hn hlc hcm).mono ?_
 rintro e w3 ⟨rfl, F2, Fs2, s2, g2, hg2, hd2, hr2, hgo2⟩
 refine ⟨rfl, F2, Fs2, s2, g2, ?_, Nat.le_trans hg hg2, hgo.trans hgo2 fun _ => Iff.rfl⟩
 have hb2 := hb.next hd2 hr2 hgo2
 have e : nextF ⟨st.place, st.segs, st.ents ++ (ks.take k).map grave, g, st.age + k⟩ (some (graveIt ks[k])) g2 = ⟨st.place, st.segs, st.ents ++ (ks.take (k + 1)).map grave, g2, st.age + (k + 1)⟩ := by
  rw [List.take_succ_eq_append_getElem hk, List.map_append, ← List.append_assoc]
  rfl
 rw [e] at hb2
 exact hb2
theorem DropAt.done (hT : S.T W) (h : DropAt S I W w p q F Fs s st ks ks.length w1) (hl : ks.length ≤ 1000) (hage : st.age ≤ 20000) (hcl : s.calls ≤ 500000000000) :
  Calls Tryz.prog 20 #[.pointer (some ⟨q, 0, none⟩)] w1 fun e w2 => e = .returned (.int .i64 0) ∧ DropPost S I w p q F Fs s st ks (.returned (.int .i64 0)) w2 := by
 obtain ⟨F', Fs', s', g, hb, hg, hgo⟩ := h
 have hc := hgo.calls
 refine (cflush S I W w1 hT p q F' Fs' s' _ hb (by omega)).mono ?_
 rintro e w2 ⟨rfl, F2, Fs2, rows, k, hd2, hr2, hgo2⟩
 obtain ⟨h1, h2⟩ := hr2 (st.age + ks.length + 1) (Nat.le_succ _) (by omega)
 rw [List.take_length] at h1 h2 hb
 exact ⟨rfl, rfl, F2, Fs2, rows, k, g, hd2, h1, h2, hg, hgo.trans hgo2 fun _ => Iff.rfl⟩
end
theorem cdrop (S : Slog2) (I : IndexOK) (J : ItemOK) (W w : World) (hT : S.T W ∧ I.T W ∧ J.T W) (p q : Nat) (F Fs : Foot) (s : SDev) (st : FSt) (hb : Cb S I W w p q F Fs s st) (hage : st.age ≤ 20000) (hcl : s.calls ≤ 500000000000)
  (A : Option Addr) (c : Nat) (ks : List ByteArray) (hrow : Row w A (fun b => ¬ F.all b ∧ ¬ Fs.all b) (ks.map Value.string)) (_hlc : ks.length ≤ c) (_hcm : c ≤ maxLen) (hl : ks.length ≤ 1000) (hok : ∀ k ∈ ks, keyOk k) :
  Calls Tryz.prog 47 #[.pointer (some ⟨q, 0, none⟩), .slice A ks.length c] w (DropPost S I w p q F Fs s st ks) := by
 have HDN := Hd (show Calls Tryz.prog 41 #[.pointer (some ⟨q, 0, none⟩)] w (fun e w' => e = .returned (.bool false) ∧ w = w') from by
  obtain ⟨lq, iq, Fl, Fi, lo, lst, ix, hs, rfl, hc, -⟩ := hb.r
  exact cdown w q lq hc.blk.c0)
 have HROW := Hd hrow
 have HJ := Hd (show ∀ w1, Kp w w1 → J.T w1 from fun w1 hk => J.tk hT.2.2 (hb.kp.trans hk))
 have HJW := Hd hT.2.2
 have HOK := Hd hok
 have HST := Hd (show ∀ w1, Kp w w1 → DropAt S I W w p q F Fs s st ks 0 w1 from fun w1 hk => DropAt.start hb hk)
 have HSP := Hd (show ∀ k w1, DropAt S I W w p q F Fs s st ks k w1 → ∀ (hk : k < ks.length) w2, Kp w1 w2 → ∀ (A : Option Addr) (n c : Nat), Row w2 A (fun b => w1.heap.size ≤ b) (bcells (bodyO (some (graveIt ks[k])))) → n = (bodyO (some (graveIt ks[k]))).length → n ≤ c → c ≤ maxLen → _ from fun k w1 h hk w2 hk2 A n c hr hn h1 h2 => h.step J hT hk hl hage hcl (hok _ (List.getElem_mem hk)) hk2 A n c hr hn h1 h2)
 have HFL := Hd (show ∀ w1, DropAt S I W w p q F Fs s st ks ks.length w1 → _ from fun w1 h => h.done hT.1 hl hage hcl)
 have hlm : ks.length ≤ 1000 := hl
 clear hb hage hcl hrow hok hl
 unfold maxLen at _hcm
 go_enter Tryz.func47, Tryz.ntmps47
 go_wp2_with fail
 refine (show Calls _ _ _ _ _ from HDN.out).mono ?_
 rintro e w' ⟨rfl, rfl⟩
 go_wp2_with fail
 go_loopw [14] (fun i wr => ∃ k, k ≤ ks.length ∧ i = .int .i64 k ∧ RowKit.Hid (Kp w wr)) (fun i _ => ks.length - (intOf i).toNat)
 case atStart => exact ⟨0, Nat.zero_le _, rfl, Hd (Keeps.refl _ _)⟩
 case round =>
  obtain ⟨k, hk, rfl, hkp⟩ := hrel
  by_cases hlt : k < ks.length
  ·have t1 : decide ((k : Int) < (ks.length : Int)) = true := by simp; omega
   obtain ⟨b, o, rfl, -, hcell⟩ := (HROW.out.keep (hkp.out.mono fun _ _ _ => trivial)).at_ (k := k) (by simpa using hlt)
   rw [List.getElem_map] at hcell
   have hkok := HOK.out _ (List.getElem_mem hlt)
   have HKB := Hd hkok
   have HGN := Hd (cgone wr ks[k])
   have HMY := Hd (show ∀ w1, Kp wr w1 → _ from fun w1 (hk1 : Kp wr w1) => may_grave J w1 (HJ.out w1 (hkp.out.trans hk1)) ks[k] (by have := hkok.2; omega) true ((grave_may _).2 hkok))
   clear hkok
   generalize ks[k] = key at hcell HGN HMY HKB
   go_wp2_with fail
   refine (show Calls _ _ _ _ _ from HGN.out).mono ?_
   rintro e w1 ⟨rfl, hk1⟩
   have HK1 := Hd hk1
   clear hk1
   go_wp2_with fail
   refine (show Calls _ _ _ _ _ from HMY.out w1 HK1.out).mono ?_
   rintro e w2 ⟨rfl, hk2⟩
   have HK2 := Hd (hkp.out.trans (HK1.out.trans hk2))
   clear hk2 hcell
   go_wp2_with fail
   go_roundw
   case rel => exact ⟨k + 1, by omega, by go_num, HK2⟩
   case measure => simp [intOf]; omega
  ·have t1 : decide ((k : Int) < (ks.length : Int)) = false := by simp; omega
   have t2 : decide (k < ks.length) = false := by simp; omega
   clear hlt
   have HD0 := Hd (HST.out wr hkp.out)
   go_wp2_with fail
   go_loopw [25] (fun i wr => ∃ k, k ≤ ks.length ∧ i = .int .i64 k ∧ RowKit.Hid (DropAt S I W w p q F Fs s st ks k wr)) (fun i _ => ks.length - (intOf i).toNat)
   case atStart => exact ⟨0, Nat.zero_le _, rfl, HD0⟩
   case round =>
    obtain ⟨k, hk, rfl, hd⟩ := hrel
    by_cases hlt : k < ks.length
    ·have t1 : decide ((k : Int) < (ks.length : Int)) = true := by simp; omega
     obtain ⟨b, o, rfl, -, hcell⟩ := (hd.out.row HROW.out).at_ (k := k) (by simpa using hlt)
     rw [List.getElem_map] at hcell
     have hkok := HOK.out _ (List.getElem_mem hlt)
     have HGN := Hd (cgone wr ks[k])
     have HEN := Hd (show ∀ w1, Kp wr w1 → ∀ b, ItsAt w1 (some ⟨b, 0, none⟩) (fun _ => True) [graveIt ks[k]] → _ from fun w1 (hk1 : Kp wr w1) b hA => enc_one J w1 (J.tk HJW.out (hd.out.kp.trans hk1)) (graveIt ks[k]) ((grave_may _).2 hkok) b hA)
     have HAD := Hd (HSP.out k wr hd.out hlt)
     clear hkok
     generalize ks[k] = key at hcell HGN HEN HAD
     go_wp2_with fail
     refine (show Calls _ _ _ _ _ from HGN.out).mono ?_
     rintro e w1 ⟨rfl, hk1⟩
     have hit := ItsAt.fresh w1 #[.string key, .string ⟨#[]⟩, .int .i64 0, .bool true] 40 (0, 0) w1.heap.size rfl (F := fun _ => True) trivial [graveIt key] rfl
     have hka : Kp wr (w1.alloc (.cells #[.string key, .string ⟨#[]⟩, .int .i64 0, .bool true] 40)) := hk1.alloc _
     have HIT := Hd hit
     have HKA := Hd hka
     clear hit hka hk1 hcell
     go_wp2_with fail
     refine (show Calls _ _ _ _ _ from HEN.out _ HKA.out _ HIT.out).mono ?_
     rintro e w3 ⟨B, n, kk, rfl, hn, hnk, hkm, hrow, hk3⟩
     have HA3 := Hd (HAD.out w3 (HKA.out.trans hk3) B n kk (hrow.mono fun b _ hb => Nat.le_trans HKA.out.size hb) hn hnk hkm)
     clear hn hnk hkm hrow hk3 HKA HIT HEN HAD HGN
     go_wp2_with fail
     refine (show Calls _ _ _ _ _ from HA3.out).mono ?_
     rintro e w4 ⟨rfl, hd4⟩
     have HD4 := Hd hd4
     clear hd4 HA3
     go_wp2_with fail
     go_roundw
     case rel => exact ⟨k + 1, by omega, by go_num, HD4⟩
     case measure => simp [intOf]; omega
    ·have t1 : decide ((k : Int) < (ks.length : Int)) = false := by simp; omega
     have t2 : decide (k < ks.length) = false := by simp; omega
     obtain rfl : k = ks.length := by omega
     have HF := Hd (HFL.out wr hd.out)
     clear hlt
     go_wp2_with fail
     refine (show Calls _ _ _ _ _ from HF.out).mono ?_
     rintro e w2 ⟨rfl, hp⟩
     go_wp2_with fail
     go_ret
     exact hp
end Go.Proofs.YticophaepapjoaaGreatDoor
namespace Go.Proofs.YticophaepapjoaaGreatDoor
open Go Go.RowKit Go.Joins Go.Sort
theorem row_putI {w : World} {base n c g k m : Nat} {e : TypeId} {xs : List Value} (F : Array Int) (h : w.ownsRow base e 1 (.slice (some ⟨g, 0, none⟩) n c) n xs) (hF : F.size = xs.length) (hmn : m ≤ n) :
  (putRow (Value.int .i64) (Go.Sort.ahead w k) g 0 F).ownsRow base e 1 (.slice (some ⟨g, 0, none⟩) m c) m ((F.toList.take m).map (Value.int .i64)) ∧ w.grownBy (putRow (Value.int .i64) (Go.Sort.ahead w k) g 0 F) (some g) := by
 refine ⟨?_, ⟨rfl, rfl, rfl, by simp [putRow, mapBlock, Go.Sort.ahead], fun j hj hne => by
  have : g ≠ j := fun e => hne (by rw [e])
  simp [putRow, mapBlock, Go.Sort.ahead, Array.getElem?_modify, this]⟩⟩
 rcases h.2 with ⟨e0, _⟩ | ⟨g', cap', cur, e0, hb, hg, hn, hm, hs, ht⟩
 ·cases e0
 ·injection e0 with e1 _ e3
  injection e1 with e1
  injection e1 with e1
  subst e1; subst e3
  have hxs : xs.length = n * 1 := h.1
  have hle : n * 1 ≤ cur.size := by rw [hs]; exact Nat.mul_le_mul_right _ hn
  refine ⟨by rw [List.length_map, List.length_take, Array.length_toList, hF, hxs]; omega, .inr ⟨g, c, putCells (Value.int .i64) 0 F cur, rfl, hb, ?_, Nat.le_trans hmn hn, hm, by simpa [putCells] using hs, ?_⟩⟩
  ·simp [putRow, mapBlock, Go.Sort.ahead, Array.getElem?_modify, hg, onCells]
  ·apply List.ext_getElem?
   intro j
   rw [List.getElem?_take, Array.getElem?_toList, List.getElem?_map, List.getElem?_take, Array.getElem?_toList]
   by_cases hj : j < m
   ·have hjc : j < cur.size := by omega
    have hjF : j < F.size := by omega
    rw [if_pos (by omega), if_pos hj]
    simp only [putCells, Array.getElem?_mapIdx, Array.getElem?_eq_getElem hjc, Option.map_some]
    rw [if_pos (by omega), Nat.sub_zero, Array.getElem?_eq_getElem hjF, getElem!_pos F j hjF]
    rfl
   ·rw [if_neg (by omega), if_neg hj]; rfl
def posZ (l : List Nat) : List Int := l.map fun x => ((x : Nat) : Int)
theorem posZ_len (l : List Nat) : (posZ l).length = l.length := by simp [posZ]
theorem posC_is (l : List Nat) : posC l = (posZ l).map (Value.int .i64) := by simp [posC, posZ]
theorem posZ_getD (l : List Nat) (j : Nat) (hj : j < l.length) : (posC l)[j]? = some (.int .i64 ((posZ l).getD j 0)) := by
 simp [posC, posZ, hj]
theorem jsearch_any (w : World) (g c n x k : Nat) (a b : List Nat) (hn : n = (a ++ b).length) (h : w.ownsRow 0 2 1 (.slice (some ⟨g, 0, none⟩) n c) n (posC (a ++ b))) (hs : (a ++ b).Pairwise (· < ·)) (hl : n ≤ 1000000) (ha : ∀ y ∈ a, y < x) (hb : ∀ y ∈ b, x ≤ y) (hk : k = a.length) :
  Calls Tryz.prog 88 #[.slice (some ⟨g, 0, none⟩) n c, .int .i64 (x : Int)] w fun e w' => (∃ t, e = .returned (.tuple #[.int .i64 (k : Int), .bool t])) ∧ ∃ z, w' = w.drewN z := by
 subst hk
 have hzl := posZ_len (a ++ b)
 have hc := AnyG.slices_BinarySearch_int Tryz.searchJ g 0 n c (posZ (a ++ b)) (x : Int) w (by omega) (by omega) (fun j hj => by
  have := h.cells (g := g) rfl j _ (posZ_getD _ _ (by omega))
  rwa [WideShapes.add_plain] at this) (by
  rw [List.take_of_length_le (by omega)]
  unfold posZ
  rw [List.pairwise_map]
  exact hs.imp fun h => by omega)
 have e1 : ((posZ (a ++ b)).take n).countP (· < (x : Int)) = a.length := by
  rw [List.take_of_length_le (by omega)]
  unfold posZ
  rw [List.map_append, List.countP_append, List.countP_map, List.countP_map]
  have h1 : a.countP ((fun y : Int => decide (y < (x : Int))) ∘ fun y : Nat => (y : Int)) = a.length := List.countP_eq_length.2 fun y hy => by
   have := ha y hy
   simp; omega
  have h2 : b.countP ((fun y : Int => decide (y < (x : Int))) ∘ fun y : Nat => (y : Int)) = 0 := List.countP_eq_zero.2 fun y hy => by
   have := hb y hy
   simp; omega
  rw [h1, h2, Nat.add_zero]
 rw [e1] at hc
 refine (show Calls Tryz.prog 88 _ w _ from hc).mono ?_
 rintro e w' ⟨rfl, z, rfl⟩
 exact ⟨⟨_, rfl⟩, z, rfl⟩
theorem jdelete_any (w : World) (g c n k m : Nat) (a b : List Nat) (hn : n = (a ++ b).length) (h : w.ownsRow 0 2 1 (.slice (some ⟨g, 0, none⟩) n c) n (posC (a ++ b))) (hk : k = a.length) (hm : m = b.length) :
  Calls Tryz.prog 89 #[.slice (some ⟨g, 0, none⟩) n c, .int .i64 0, .int .i64 (k : Int)] w fun e w' => e = .returned (.slice (some ⟨g, 0, none⟩) m c) ∧ w'.ownsRow 0 2 1 (.slice (some ⟨g, 0, none⟩) m c) m (posC b) ∧ w.grownBy w' (some g) := by
 subst hk
 have hzl := posZ_len (a ++ b)
 have hab : (a ++ b).length = a.length + b.length := List.length_append
 have hcap := own_room h
 have hH : Holds (Value.int .i64) w g 0 (posZ (a ++ b)).toArray := by
  intro j hj
  have hj2 : j < (a ++ b).length := by simpa [posZ] using hj
  have hc := h.cells (g := g) rfl j _ (posZ_getD _ _ hj2)
  rw [WideShapes.add_plain] at hc
  refine ⟨?_, h.frozenAt (0 + j)⟩
  rw [hc, getElem!_pos _ j hj]
  simp [List.getD_eq_getElem?_getD, show j < (posZ (a ++ b)).length by omega]
 have hr := AnyG.slices_Delete_int Tryz.deleteJ g 0 c 0 a.length (posZ (a ++ b)) w hH (by omega) (by have := hcap.2; unfold maxLen at this; omega) (Nat.zero_le _) (by omega)
 have e0 : (posZ (a ++ b)).drop a.length = posZ b := by unfold posZ; rw [← List.map_drop, List.drop_left]
 rw [List.take_zero, List.nil_append, e0, Nat.sub_zero, hzl, ← hn, show n - a.length = m by omega] at hr
 refine (show Calls Tryz.prog 89 _ w _ from hr).mono ?_
 rintro e w' ⟨rfl, z, rfl⟩
 have h2 := row_putI (k := z) (m := m) (posZ b ++ List.replicate a.length (0 : Int)).toArray h (by simp [posZ, posC]; omega) (by omega)
 rw [List.take_left' (by rw [posZ_len, hm]), ← posC_is] at h2
 exact ⟨rfl, h2.1, h2.2⟩
end Go.Proofs.YticophaepapjoaaGreatDoor
