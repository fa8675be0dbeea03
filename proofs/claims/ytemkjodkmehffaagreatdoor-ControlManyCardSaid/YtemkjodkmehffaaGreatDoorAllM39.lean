/-
  CtMake, CtOpen: texts of mine, joined.
-/
import Derived.Test.YtemkjodkmehffaaGreatDoorAllM34
import Derived.Test.YtemkjodkmehffaaGreatDoorAllM38
namespace Go.Proofs.YtemkjodkmehffaaGreatDoor
open Go Go.RowKit Go.Joins
def start23 (l : List Int) : CtS := ⟨1, l, 1, none, fun _ => 0⟩
theorem ring_one {l : List Int} (h : nodesB l = true) : ringB 1 l = true := ringB_of (by decide) (by decide) h
set_option maxRecDepth 100000 in
set_option maxHeartbeats 4000000 in
theorem make_any (W w : World) (hT : theSup.T W) (p : Nat) (Fd : Foot) (s : SDev) (h : Dv W w p Fd s) (h2 : 2 ≤ s.now.length) (hcalls : s.calls ≤ 900) (A : Option Addr) (ca : Nat) (l : List Int) (hl : Row w A (fun _ => True) (l.map (Value.int .i64))) (hlc : l.length ≤ ca) (hcm : ca ≤ maxLen) (hn : nodesB l = true) (m : Nat) (hm : m = l.length) :
  Calls Tryz.prog 10 #[.pointer (some ⟨p, 0, none⟩), .slice A m ca] w fun e w' => ∃ (c kc : Nat) (F : Nat → Prop), e = .returned (.tuple #[.pointer (some ⟨c, 0, none⟩), .int .i64 0]) ∧ CtAt W w' p c (some kc) F 0 0 (start23 l) ∧ (∀ b, F b → Fd.all b ∨ w.heap.size ≤ b) ∧ Keeps (fun b => ¬ Fd.all b) w w' := by
 subst hm
 have hrb := ring_one hn
 have HRB := Lib.hid hrb
 have hok : (start23 l).Ok := ⟨hrb, Int.le_refl _, by show (1 : Int) ≤ 1099511627776; decide, fun _ he => by cases he⟩
 have HOK := Lib.hid hok
 have HLEN := Lib.hid hok.enc
 have HN := Lib.hid (rnew_yes w A ca l 1 hl hlc hcm hrb)
 have HTX := Lib.hid (fun w1 r R (hr : RgR w1 R r 1 l) => text_any w1 R r 1 1 l hr (by decide) (by decide))
 have HMK := Lib.hid (fun w1 w5 A m cc (hk1 : Kp w w1) (hq : EncQ w1 w5 A m cc (encC 1 1 l)) => duo_make theSup hT (h.keep (hk1.trans hq.kp)) 0 0 rfl A cc (encC 1 1 l) m hq.len (by omega) (hq.row.mono fun b _ hb hf => by have := h.d.lt b hf; have := hk1.size; have := hb.1; omega) (hq.len ▸ hq.mc) hq.cm hq.none HLEN.out (by omega))
 have HD := Lib.hid h
 have HC := Lib.hid hcalls
 have H2 := Lib.hid h2
 clear h h2 hcalls hl hlc hcm hn hrb hok hT
 generalize hL : encC 1 1 l = L at HTX HMK
 have HLL := Lib.hid hL
 clear hL HLEN
 go_enter Tryz.func10, Tryz.ntmps10
 go_wp2_with fail
 refine (show Calls _ _ _ _ _ from HN.out).mono ?_
 rintro e w1 ⟨r, B, cb, D, cd, rfl, hrg, hr1, hr2, hk1⟩
 have HSET := Lib.hid (show ∀ w2, w2 = w1.alloc (.cells #[.pointer (some ⟨r, 0, none⟩), .int .i64 1] 37) → SBl23 w2 w1.heap.size (.pointer (some ⟨r, 0, none⟩)) 1 ∧ Kp w1 w2 from by
  rintro w2 rfl
  exact ⟨heap_alloc_new w1 _, (Keeps.refl (fun _ => True) w1).alloc _⟩)
 have HK1 := Lib.hid hk1
 have HR1 := Lib.hid (show RgR w1 (fun b => w.heap.size ≤ b ∧ b < w1.heap.size) r 1 l from ⟨HRB.out, ⟨hr1, hr2⟩, B, cb, D, cd, hrg⟩)
 clear hrg hr1 hr2 hk1 HN
 go_upto_region 2 with fail
 obtain ⟨a1, a2⟩ := HSET.out _ rfl
 obtain ⟨gg, hg⟩ : ∃ gg, w1.heap.size = gg := ⟨_, rfl⟩
 rw [hg] at a1 ⊢
 have HGW := Lib.hid (show w.heap.size ≤ gg from by rw [← hg]; exact HK1.out.size)
 have HGE := Lib.hid hg
 generalize World.alloc w1 _ = w2 at a1 a2 ⊢
 have HS2 := Lib.hid a1
 have HK12 := Lib.hid a2
 have d0 : w2.cell? ⟨gg, 0, none⟩ = some (.pointer (some ⟨r, 0, none⟩)) := cell_of_block a1 0
 have d1 : w2.cell? ⟨gg, 1, none⟩ = some (.int .i64 1) := cell_of_block a1 1
 have HK2 := Lib.hid (HK1.out.trans a2)
 have HR2 := Lib.hid (HR1.out.keep (a2.mono fun _ _ _ => trivial))
 clear a1 a2 HSET hg HR1
 go_wp2_with fail
 refine (show Calls _ _ _ _ _ from HTX.out w2 r _ HR2.out).mono ?_
 rintro e w3 ⟨AA, mm, cc, rfl, hq⟩
 have HM3 := Lib.hid (HMK.out w2 w3 AA mm cc HK2.out hq)
 have HK23 := Lib.hid hq.kp
 clear hq HTX HMK
 go_wp2_with fail
 refine (show Calls _ _ _ _ _ from HM3.out).mono ?_
 rintro e w4 ⟨q, Fd', Fs, n', rfl, hdu, hn', hst, hfs⟩
 have HDU := Lib.hid hdu
 have HN4 := Lib.hid hn'
 have HST := Lib.hid hst
 have HFS := Lib.hid hfs
 have hgF : ¬ Fd.M gg := fun hm => by have := HD.out.d.lt gg (.inl hm); have := HGW.out; omega
 have x0 := hst.keeps.cell (HK23.out.cell d0 trivial) hgF
 have x1 := hst.keeps.cell (HK23.out.cell d1 trivial) hgF
 have hgl4 : gg < w4.heap.size := World.block_lt_of_cell? w4 _ x0
 have HRW := Lib.hid (show RgR w4 (fun b => w.heap.size ≤ b ∧ b < w1.heap.size) r 1 l from (HR2.out.keep (HK23.out.mono fun _ _ _ => trivial)).keep (hst.keeps.mono fun b _ hb hm => by have := HD.out.d.lt b (.inl hm); have := hb.1; omega))
 clear hdu hn' hst hfs d0 d1 hgF HM3 HR2
 go_wp2_with fail
 go_ret2
 have hsz1 := HK1.out.size
 have hsz2 := HK12.out.size
 have hsz3 := HK23.out.size
 have hsz4 := HST.out.keeps.size
 have hDl := HD.out.d.lt
 have hW := HD.out.kp.size
 have hFall := HST.out.all
 have hc1 : (w4.alloc (.cells #[.int .i64 0] 24)).heap.size = w4.heap.size + 1 := by simp
 have ka1 : Kp w4 (w4.alloc (.cells #[.int .i64 0] 24)) := (Keeps.refl _ w4).alloc _
 have hck := heap_alloc_new w4 (.cells #[.int .i64 0] 24)
 have hct := heap_alloc_new (w4.alloc (.cells #[.int .i64 0] 24)) (.cells #[.pointer (some ⟨w4.heap.size, 0, none⟩), .pointer (some ⟨q, 0, none⟩), .pointer (some ⟨r, 0, none⟩), .int .i64 1, .pointer none, .int .i64 0, .int .i64 0, .int .i64 0, .int .i64 0, .int .i64 0, .int .i64 0] 41)
 rw [hc1] at hct
 have ka2 : Kp (w4.alloc (.cells #[.int .i64 0] 24)) ((w4.alloc (.cells #[.int .i64 0] 24)).alloc (.cells #[.pointer (some ⟨w4.heap.size, 0, none⟩), .pointer (some ⟨q, 0, none⟩), .pointer (some ⟨r, 0, none⟩), .int .i64 1, .pointer none, .int .i64 0, .int .i64 0, .int .i64 0, .int .i64 0, .int .i64 0, .int .i64 0] 41)) := (Keeps.refl _ _).alloc _
 have hs6 : ((w4.alloc (.cells #[.int .i64 0] 24)).alloc (.cells #[.pointer (some ⟨w4.heap.size, 0, none⟩), .pointer (some ⟨q, 0, none⟩), .pointer (some ⟨r, 0, none⟩), .int .i64 1, .pointer none, .int .i64 0, .int .i64 0, .int .i64 0, .int .i64 0, .int .i64 0, .int .i64 0] 41)).heap.size = w4.heap.size + 2 := by simp
 generalize (w4.alloc (.cells #[.int .i64 0] 24)).alloc (.cells #[.pointer (some ⟨w4.heap.size, 0, none⟩), .pointer (some ⟨q, 0, none⟩), .pointer (some ⟨r, 0, none⟩), .int .i64 1, .pointer none, .int .i64 0, .int .i64 0, .int .i64 0, .int .i64 0, .int .i64 0, .int .i64 0] 41) = w6 at hct ka2 hs6 ⊢
 have hk46 := ka1.trans ka2
 have hckb : CkBlk w6 w4.heap.size 0 := CkBlk.keep (G := fun _ => True) (w := w4.alloc (.cells #[.int .i64 0] 24)) hck ka2 trivial
 have hF1 : ∀ b, Fd'.all b → Fd.all b ∨ w3.heap.size ≤ b := hFall
 have hl4 := HDU.out.dv.d.lt
 have hl4s : ∀ b, Fs.all b → b < w4.heap.size := fun b hb => theSup.lt HDU.out.su b hb
 have hnow : (SDev.still ((s.now.set 0 (theSup.enc 1 L)).set (0 + 1) blank) n').now = (s.now.set 0 (theSup.enc 1 L)).set (0 + 1) blank := rfl
 have hin : CtIn W w6 p q (w4.heap.size + 1) Fd' Fs (some w4.heap.size) none (fun b => w.heap.size ≤ b ∧ b < w1.heap.size) (SDev.still ((s.now.set 0 (theSup.enc 1 L)).set (0 + 1) blank) n') ⟨p, 0, 0, 1, L⟩ 0 0 (start23 l) := by
  refine ⟨HDU.out.keep hk46, oth_make p 0 _ L (by have := H2.out; omega), rfl, rfl, HLL.out.symm, ⟨HOK.out, ⟨r, hct, HRW.out.keep (hk46.mono fun _ _ _ => trivial)⟩, rfl, fun b hb => by omega, fun hb => by omega, fun k hk => by cases hk⟩, ⟨hckb, Int.le_refl _, by decide⟩, fun b hb => ?_, fun b hb => ?_, ?_, Nat.le_refl _, by decide⟩
  ·rcases hb with rfl | hb | hb
   ·exact ⟨fun hf => by have := hl4 _ hf; omega, fun hf => by have := hl4s _ hf; omega, fun hf => by injection hf with hf; omega, by omega⟩
   ·cases hb
   ·refine ⟨fun hf => ?_, fun hf => ?_, fun hf => by injection hf with hf; omega, by omega⟩
    ·rcases hF1 b hf with h1 | h1
     ·have := hDl b h1; omega
     ·omega
    ·have := HFS.out b hf; omega
  ·injection hb with hb
   subst hb
   exact ⟨fun hf => by have := hl4 _ hf; omega, fun hf => by have := hl4s _ hf; omega, by omega⟩
  ·show n' ≤ 1000 + 200 * 0
   have := HN4.out; have := HC.out; omega
 refine ⟨w4.heap.size + 1, w4.heap.size, _, rfl, hin.at_, fun b hb => ?_, ?_⟩
 ·rcases hb with hb | hb | hb | hb | hb | hb
  ·exact (hF1 b hb).imp id fun h1 => by omega
  ·exact .inr (by have := HFS.out b hb; omega)
  ·injection hb with hb; exact .inr (by omega)
  ·exact .inr (by omega)
  ·cases hb
  ·exact .inr hb.1
 ·exact (((HK2.out.trans HK23.out).mono fun _ _ _ => trivial : Keeps (fun b => ¬ Fd.all b) w w3).trans (HST.out.keeps.mono fun b _ hb hm => hb (.inl hm))).trans (hk46.mono fun _ _ _ => trivial)
def CtHeld (W w : World) (p : Nat) (F : Nat → Prop) (k : Nat) (e : Int) (l : List Int) (t : Int) : Prop :=
 ∃ (Fd : Foot) (s : SDev) (wh tn : Nat), Dv W w p Fd s ∧ s = SDev.still s.now s.calls ∧ 2 ≤ s.now.length ∧ wh ≤ 1 ∧ 1 ≤ tn ∧ s.now.getD (0 + wh) [] = theSup.enc tn (encC e t l) ∧ Oth theSup s.now ⟨p, 0, wh, tn, encC e t l⟩ ∧
  ringB e l = true ∧ e ≤ t ∧ t ≤ 1099511627776 ∧ s.calls ≤ 1000 + 200 * k ∧ tn ≤ 1 + k ∧ k ≤ 1000000 ∧ (∀ b, Fd.all b → F b) ∧ ∀ b, F b → W.heap.size ≤ b ∧ b < w.heap.size
def openO (n : Int) (j : Nat) : Nat → Int := fun i => if 1 ≤ i ∧ i ≤ j then n + 40 else 0
theorem openO_next (n : Int) (j : Nat) : setO (openO n j) (j + 1) (n + 40) = openO n (j + 1) := by
 funext i
 unfold setO openO
 by_cases h : i = j + 1
 ·rw [if_pos h, if_pos (by omega)]
 ·rw [if_neg h]
  by_cases h2 : 1 ≤ i ∧ i ≤ j
  ·rw [if_pos h2, if_pos (by omega)]
  ·rw [if_neg h2, if_neg (by omega)]
def OpenP (W w : World) (p : Nat) (ck : Option Nat) (F : Nat → Prop) (n : Int) (k : Nat) (S : CtS) (x : Ending) (w' : World) : Prop :=
 ∃ (c : Nat) (F' : Nat → Prop), x = .returned (.tuple #[.pointer (some ⟨c, 0, none⟩), .int .i64 0]) ∧ CtAt W w' p c ck F' n k S ∧ (∀ b, F' b → F b ∨ ck = some b ∨ w.heap.size ≤ b) ∧ Kp w w'
section
variable {W w w' : World} {p c : Nat} {ck : Option Nat} {F : Nat → Prop} {n : Int} {k : Nat} {S : CtS} {e t : Int} {l : List Int}
theorem CtAt.held (h : CtAt W w p c ck F n k S) : CtHeld W w p F k S.epoch S.mem S.top := by
 obtain ⟨q, Fd, Fs, g, R, s, st, h1, h2, h3⟩ := h
 have hwf := theSup.wf h1.du.su
 have hpl := h1.pl
 have hon := h1.du.on
 have hrm := h1.du.room
 have hsec := h1.du.sec
 have hoth := h1.oth
 have htx := h1.txt
 have htb := h1.tb
 obtain ⟨d, pl, wh, tn, tx⟩ := st
 simp only at hpl hon hrm hsec hoth htx htb hwf
 subst hpl hon htx
 exact ⟨Fd, s, wh, tn, h1.du.dv, h1.still, by omega, hwf.1, hwf.2.1, hsec, hoth, h1.bd.ok.ring, h1.bd.ok.lo, h1.bd.ok.hi, h1.cb, htb, h1.kb, fun b hb => h2 b (.inl hb), h3⟩
theorem CtHeld.rng (h : CtHeld W w p F k e l t) : ∀ b, F b → W.heap.size ≤ b ∧ b < w.heap.size := by
 obtain ⟨Fd, s, wh, tn, -, -, -, -, -, -, -, -, -, -, -, -, -, -, h1⟩ := h
 exact h1
theorem ct_crash (h : CtHeld W w p F k e l t) : Calls Tryz.prog 23 #[.pointer (some ⟨p, 0, none⟩), .slice none 0 0] w fun x w' => ∃ p' F', x = .returned (.pointer (some ⟨p', 0, none⟩)) ∧ CtHeld W w' p' F' k e l t ∧ (∀ b, F' b → F b ∨ w.heap.size ≤ b) ∧ Kp w w' := by
 obtain ⟨Fd, s, wh, tn, h1, h2, h3, h4, h5, h6, h7, h8, h9, h10, h11, h12, h13, h14, h15⟩ := h
 refine (dcrash_any w p Fd s h1.d none 0 (fun _ => True) [] (Row.nil _ _ _) (Nat.zero_le _)).mono ?_
 rintro x w' ⟨p', F', rfl, hd, g1, g2, hk⟩
 rw [h2, still_crash] at hd
 have hF : ∀ b, F'.all b → F b ∨ w.heap.size ≤ b := fun b hb => by
  rcases hb with hb | hb
  ·exact .inr (g1 b hb)
  ·exact (g2 b hb).imp (fun h => h14 b (.inr h)) id
 have hlt := hd.lt
 have hW := h1.kp.size
 refine ⟨p', F'.all, rfl, ⟨F', _, wh, tn, ⟨hd, fun b hb => ?_, h1.kp.trans hk⟩, rfl, h3, h4, h5, h6, h7, h8, h9, h10, Nat.zero_le _, h12, h13, fun _ hb => hb, fun b hb => ⟨?_, hlt b hb⟩⟩, hF, hk⟩
 ·rcases hF b hb with h | h
  ·exact (h15 b h).1
  ·omega
 ·rcases hF b hb with h | h
  ·exact (h15 b h).1
  ·omega
set_option maxRecDepth 100000 in
set_option maxHeartbeats 4000000 in
theorem copen_any (hT : theSup.T W) (h : CtHeld W w p F k e l t) (hck : CkO w ck n) (hcF : ∀ b, ck = some b → ¬ F b ∧ W.heap.size ≤ b) :
  Calls Tryz.prog 11 #[.pointer (some ⟨p, 0, none⟩), pOf ck] w (OpenP W w p ck F n k ⟨e, l, t, none, openO n 5⟩) := by
 have HRN := Lib.hid h.rng
 obtain ⟨Fd, s, wh, tn, h1, h2, h3, h4, h5, h6, h7, h8, h9, h10, h11, h12, h13, h14, h15⟩ := h
 have hnum := ringB_num h8
 have hok : (⟨e, l, t, none, openO n 5⟩ : CtS).Ok := ⟨h8, h9, h10, fun _ he => by cases he⟩
 have hlen := hok.enc
 have HO := Lib.hid (duo_open theSup hT h1 0 wh tn (encC e t l) 0 rfl (by omega) h4 hlen h5 h6 h7 (by omega))
 have HTX := Lib.hid (fun w1 q Fs (hd : Duo theSup W w1 p q Fd Fs s ⟨p, 0, wh, tn, encC e t l⟩) => text_room hd)
 have HPA := Lib.hid (fun w1 A c m (hr : Row w1 A (fun _ => True) (bcells (encC e t l))) (hm : m = (encC e t l).length) (h1 : m ≤ c) (h2 : c ≤ maxLen) => parse_yes w1 A c e t l h8 h9 h10 hr m hm h1 h2)
 have HCK := Lib.hid hck
 have HCF := Lib.hid hcF
 have HOK := Lib.hid hok
 have HALL := Lib.hid (show s = SDev.still s.now s.calls ∧ Oth theSup s.now ⟨p, 0, wh, tn, encC e t l⟩ ∧ s.calls ≤ 1000 + 200 * k ∧ tn ≤ 1 + k ∧ k ≤ 1000000 from ⟨h2, h7, h11, h12, h13⟩)
 have HF14 := Lib.hid h14
 have HKW := Lib.hid h1.kp
 obtain ⟨ao, hao⟩ : ∃ ao : Option Addr, (ck.map fun k => (⟨k, 0, none⟩ : Addr)) = ao := ⟨_, rfl⟩
 have hvck : pOf ck = .pointer ao := by unfold pOf; rw [hao]
 have HVC := Lib.hid hvck
 rw [hvck]
 clear h1 h2 h3 h4 h5 h6 h7 h8 h9 h10 h11 h12 h13 h14 h15 hnum hok hlen hck hcF hT hvck hao
 go_enter Tryz.func11, Tryz.ntmps11
 go_wp2_with fail
 refine (show Calls _ _ _ _ _ from HO.out).mono ?_
 rintro x w1 ⟨q, Fs, rfl, hd, hfs, hk1⟩
 have HD1 := Lib.hid hd
 have HFS := Lib.hid hfs
 have HK1 := Lib.hid hk1
 clear hd hfs hk1 HO
 go_wp2_with fail
 refine (show Calls _ _ _ _ _ from HTX.out w1 q Fs HD1.out).mono ?_
 rintro x w2 ⟨A, cc, rfl, hr, hc1, hc2, hk2⟩
 have HP2 := Lib.hid (HPA.out w2 A cc (encC e t l).length (hr.mono fun _ _ _ => trivial) rfl hc1 hc2)
 have HFL := Lib.hid (show ∀ b, Fs.all b → b < w2.heap.size from fun b hb => Nat.lt_of_lt_of_le (theSup.lt HD1.out.su b hb) hk2.size)
 have HK2 := Lib.hid (HK1.out.trans hk2)
 have HD2 := Lib.hid (HD1.out.keep hk2)
 clear hr hc1 hc2 hk2 HTX HPA HD1
 go_wp2_with fail
 refine (show Calls _ _ _ _ _ from HP2.out).mono ?_
 rintro x w3 ⟨r, rfl, hrg, hk3⟩
 have HR3 := Lib.hid hrg
 have HK23 := Lib.hid hk3
 have HK3 := Lib.hid (HK2.out.trans hk3)
 have HD3 := Lib.hid (HD2.out.keep hk3)
 have HS2 := Lib.hid HK2.out.size
 clear hrg hk3 HP2 HD2
 go_upto_region 10 with fail
 have HSET := Lib.hid (show ∀ w4, w4 = (w3.alloc (.cells #[.pointer (some ⟨r, 0, none⟩), .int .i64 t] 37)).alloc (.cells #[.pointer ao, .pointer (some ⟨q, 0, none⟩), .pointer (some ⟨r, 0, none⟩), .int .i64 t, .pointer none, .int .i64 0, .int .i64 0, .int .i64 0, .int .i64 0, .int .i64 0, .int .i64 0] 41) → CtBlk w4 (w3.heap.size + 1) q r ck none t (openO n 0) ∧ Kp w3 w4 from by
  rintro w4 rfl
  have hs : (w3.alloc (.cells #[.pointer (some ⟨r, 0, none⟩), .int .i64 t] 37)).heap.size = w3.heap.size + 1 := by simp
  have hb := heap_alloc_new (w3.alloc (.cells #[.pointer (some ⟨r, 0, none⟩), .int .i64 t] 37)) (.cells #[.pointer ao, .pointer (some ⟨q, 0, none⟩), .pointer (some ⟨r, 0, none⟩), .int .i64 t, .pointer none, .int .i64 0, .int .i64 0, .int .i64 0, .int .i64 0, .int .i64 0, .int .i64 0] 41)
  rw [hs] at hb
  refine ⟨?_, ((Keeps.refl (fun _ => True) w3).alloc _).alloc _⟩
  unfold CtBlk
  rw [HVC.out]
  exact hb)
 obtain ⟨a1, a2⟩ := HSET.out _ rfl
 obtain ⟨c, hcc⟩ : ∃ c, w3.heap.size + 1 = c := ⟨_, rfl⟩
 rw [hcc] at a1 ⊢
 have HCC := Lib.hid hcc
 generalize World.alloc (World.alloc w3 _) _ = w4 at a1 a2 ⊢
 have HB4 := Lib.hid a1
 have HK34 := Lib.hid a2
 clear a1 a2 HSET hcc
 have HGR := Lib.hid (fun wr f (i : Nat) (hi : i + 1 ≤ 5) (z : Int) (hz : z = ((i + 1 : Nat) : Int)) (hb : CtBlk wr c q r ck none t f) (hk : Keeps (fun b => b ≠ c) w4 wr) => granted_any wr c q r ck none t f n (i + 1) hi z hz hb (((HCK.out.keep HK3.out fun _ _ => trivial).keep HK34.out fun _ _ => trivial).keep hk (fun b hb e => by
  have h1 := HCK.out.lt hb
  have h2 := HK3.out.size
  have h3 := HCC.out
  omega)))
 go_wp2_with fail
 go_loopw [35] (fun i wr => ∃ j : Nat, j ≤ 5 ∧ i = .int .i64 (j : Int) ∧ Hid (CtBlk wr c q r ck none t (openO n j)) ∧ Hid (Keeps (fun b => b ≠ c) w4 wr)) (fun i _ => 5 - (intOf i).toNat)
 case atStart => exact ⟨0, by decide, rfl, HB4, Lib.hid (Keeps.refl _ _)⟩
 case round =>
  obtain ⟨j, hj, rfl, HBJ, HKJ⟩ := hrel
  by_cases hlt : j < 5
  ·have hlt' : (j : Int) < 5 := by omega
   have HG1 := Lib.hid (HGR.out wr _ j hlt ((j : Int) + 1) (by omega) HBJ.out HKJ.out)
   clear HGR
   go_wp2_with fail
   refine (show Calls _ _ _ _ _ from HG1.out).mono ?_
   rintro x w5 ⟨rfl, hb5, hk5⟩
   rw [openO_next] at hb5
   have HB5 := Lib.hid hb5
   have HK5 := Lib.hid (HKJ.out.trans hk5)
   clear hb5 hk5 HG1
   go_wp2_with fail
   go_roundw
   case rel => exact ⟨j + 1, hlt, by go_num, HB5, HK5⟩
   case measure => simp [intOf]; omega
  ·obtain rfl : j = 5 := by omega
   have hlt' : ¬ ((5 : Nat) : Int) < 5 := by decide
   clear HGR hlt
   go_wp2_with fail
   go_ret2
   have hs3 := HK3.out.size
   have hs34 := HK34.out.size
   have hcc := HCC.out
   have hb := HBJ.out
   have hk3r : Keeps (fun b => b < w3.heap.size) w3 wr := (HK34.out.mono fun _ _ _ => trivial).trans (HKJ.out.mono fun b _ hb => by omega)
   have hD3 := HD3.out
   have hlD := hD3.dv.d.lt
   have hlS : ∀ b, Fs.all b → b < w3.heap.size := fun b hb => theSup.lt hD3.su b hb
   have hW : Kp W wr := ((hD3.dv.kp.mono fun _ _ _ => trivial : Keeps (fun b => b < W.heap.size) W w3).trans (hk3r.mono fun b _ hb => by have := hD3.dv.kp.size; omega)).mono fun b hb _ => hb
   have hWs := HKW.out.size
   obtain ⟨z1, z2, z3, z4, z5⟩ := HALL.out
   have hrgF : ∀ b, F b → b < w.heap.size := fun b hb => (HRN.out b hb).2
   have hin : CtIn W wr p q c Fd Fs ck none (fun b => w2.heap.size ≤ b ∧ b < w3.heap.size) s ⟨p, 0, wh, tn, encC e t l⟩ n k ⟨e, l, t, none, openO n 5⟩ := by
    have hs2 := HS2.out
    refine ⟨⟨⟨hD3.dv.d.keep (hk3r.mono fun b _ hb => hlD b hb), hD3.dv.gd, hW⟩, theSup.keep hD3.su (hk3r.mono fun b _ hb => hlS b hb), hD3.ap, hD3.gs, hD3.on, hD3.room, hD3.sec⟩, z2, z1, rfl, rfl, ⟨HOK.out, ⟨r, hb, HR3.out.keep (hk3r.mono fun b _ hb => hb.2)⟩, rfl, fun b hb => Nat.lt_of_lt_of_le hb.2 hk3r.size, fun hb => by omega, fun k hk => by cases hk⟩, ?_, fun b hb2 => ?_, fun b hb2 => ?_, z3, z4, z5⟩
    ·exact (HCK.out.keep HK3.out fun _ _ => trivial).keep hk3r fun b hb2 => by have := HCK.out.lt hb2; omega
    ·rcases hb2 with rfl | hb2 | hb2
     ·exact ⟨fun hf => by have := hlD _ hf; omega, fun hf => by have := hlS _ hf; omega, fun hf => by have := HCK.out.lt hf; omega, by omega⟩
     ·cases hb2
     ·refine ⟨fun hf => ?_, fun hf => ?_, fun hf => by have := HCK.out.lt hf; omega, by omega⟩
      ·have := hrgF b (HF14.out b hf); omega
      ·have := HFL.out b hf; omega
    ·refine ⟨fun hf => (HCF.out b hb2).1 (HF14.out b hf), fun hf => ?_, (HCF.out b hb2).2⟩
     have := HFS.out b hf
     have := HCK.out.lt hb2
     omega
   refine ⟨c, _, rfl, hin.at_, fun b hb2 => ?_, ?_⟩
   ·rcases hb2 with hb2 | hb2 | hb2 | hb2 | hb2 | hb2
    ·exact .inl (HF14.out b hb2)
    ·exact .inr (.inr (HFS.out b hb2))
    ·exact .inr (.inl hb2)
    ·exact .inr (.inr (by omega))
    ·cases hb2
    ·exact .inr (.inr (by have := HS2.out; have := hb2.1; omega))
   ·exact ((HK3.out.mono fun _ _ _ => trivial : Keeps (fun b => b < w.heap.size) w w3).trans (hk3r.mono fun b _ hb => by omega)).mono fun b hb _ => hb
end
end Go.Proofs.YtemkjodkmehffaaGreatDoor
