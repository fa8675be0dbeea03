/-
  SuperOpen, SuperMake: texts of mine, joined.
-/
import Derived.Test.YtemkjodkmehffaaGreatDoorAllM30
import Derived.Test.YtemkjodkmehffaaGreatDoorAllM31
namespace Go.Proofs.YtemkjodkmehffaaGreatDoor
open Go Go.RowKit Go.Joins
def recT : Option (Nat × List UInt8) → Nat × List UInt8
 | none => (0, [])
 | some r => r
theorem recV_is (o : Option (Nat × List UInt8)) : recV o = .agg #[.int .i64 ((recT o).1 : Int), .string (txt (recT o).2)] := by
 cases o <;> rfl
theorem decS_wf {l : List UInt8} {t : Nat} {x : List UInt8} (h : decS l = some (t, x)) : 1 ≤ t ∧ t ≤ 1099511627776 ∧ x.length ≤ 40 := by
 unfold decS at h
 cases hf : decF 83 l with
 | none => rw [hf] at h; cases h
 | some r =>
  rw [hf] at h
  obtain ⟨t', x'⟩ := r
  unfold takeS at h
  simp only at h
  split at h
  ·cases h
  ·injection h with h
   injection h with h3 h4
   subst h3; subst h4
   omega
theorem recT_le (l : List UInt8) : (recT (decS l)).1 ≤ 1099511627776 := by
 cases h : decS l with
 | none => exact Nat.zero_le _
 | some r => exact (decS_wf (t := r.1) (x := r.2) h).2.1
theorem blk_new (w : World) (n q p lat sp t : Nat) (x : List UInt8) (z : Int) (hz : z = (lat : Int)) (z2 : Int) (hz2 : z2 = (sp : Int)) (z3 : Int) (hz3 : z3 = (t : Int)) (hn : n = w.heap.size) (hq : q = n) : SBlk (w.alloc (.cells #[.int .i64 z3, .string (txt x), .pointer (some ⟨p, 0, none⟩), .int .i64 z, .int .i64 z2] 104)) q p lat sp t x := by
 subst hz hz2 hz3 hn hq
 exact heap_alloc_new w _
def SuperOpenPost (w : World) (p i t1 t2 : Nat) (x1 x2 : List UInt8) (e : Ending) (w' : World) : Prop :=
 (t2 ≤ t1 ∧ 1 ≤ t1 ∧ ∃ q, e = .returned (.tuple #[.pointer (some ⟨q, 0, none⟩), .int .i64 0]) ∧ SBlk w' q p i (i + 1) t1 x1 ∧ w.heap.size ≤ q ∧ Keeps (fun _ => True) w w') ∨
 (t1 < t2 ∧ ∃ q, e = .returned (.tuple #[.pointer (some ⟨q, 0, none⟩), .int .i64 0]) ∧ SBlk w' q p (i + 1) i t2 x2 ∧ w.heap.size ≤ q ∧ Keeps (fun _ => True) w w') ∨
 (t1 = 0 ∧ t2 = 0 ∧ e = .returned (.tuple #[.pointer none, .int .i64 3]) ∧ Keeps (fun _ => True) w w')
set_option maxRecDepth 100000 in
set_option maxHeartbeats 2000000 in
theorem sopen_any (w : World) (hT : Taken w) (p : Nat) (F : Foot) (s : SDev) (h : DAt w p F s) (i : Nat) (hi : i + 2 ≤ s.now.length) :
  Calls Tryz.prog 29 #[.pointer (some ⟨p, 0, none⟩), .int .i64 (i : Int)] w (SuperOpenPost w p i (recT (decS (s.now.getD i []))).1 (recT (decS (s.now.getD (i + 1) []))).1 (recT (decS (s.now.getD i []))).2 (recT (decS (s.now.getD (i + 1) []))).2) := by
 have hsm := h.ok.small
 have hi1 : i ≤ 2048 := by omega
 have HL1 := Lib.hid (load_any w hT p F s h i (by omega))
 have HL2 := Lib.hid (fun w' (hk : Keeps (fun _ => True) w w') => load_any w' (hT.keep hk) p F s (h.keep (hk.mono fun _ _ _ => trivial)) (i + 1) (by omega))
 have HTH := Lib.hid (there_yes w p F s h i hi)
 have ht1 := recT_le (s.now.getD i [])
 have ht2 := recT_le (s.now.getD (i + 1) [])
 simp only [recV_is] at HL1 HL2
 generalize (recT (decS (s.now.getD i []))) = r1 at *
 generalize (recT (decS (s.now.getD (i + 1) []))) = r2 at *
 obtain ⟨t1, x1⟩ := r1
 obtain ⟨t2, x2⟩ := r2
 simp only at *
 clear h hT hi hsm
 go_enter Tryz.func29, Tryz.ntmps29
 go_wp2_with fail
 refine HTH.out.mono ?_
 rintro e w' ⟨rfl, rfl⟩
 go_wp2_with fail
 refine HL1.out.mono ?_
 rintro e w1 ⟨rfl, hk1⟩
 have HK1 := Lib.hid hk1
 have HL2' := Lib.hid (HL2.out w1 hk1)
 clear hk1 HL2 HL1 HTH
 go_wp2_with fail
 refine (show Calls _ _ _ _ _ from HL2'.out).mono ?_
 rintro e w2 ⟨rfl, hk2⟩
 have HK2 := Lib.hid (HK1.out.trans hk2)
 clear hk2 HL2' HK1
 have hcs : (decide (t1 < t2) = false ∧ ((t1 : Int) == 0) = false ∧ t2 ≤ t1 ∧ 1 ≤ t1) ∨ (decide (t1 < t2) = true ∧ ((t2 : Int) == 0) = false ∧ t1 < t2) ∨ (decide (t1 < t2) = false ∧ ((t1 : Int) == 0) = true ∧ t1 = 0 ∧ t2 = 0) := by
  by_cases h : t1 < t2
  ·right; left; exact ⟨by simpa using h, by simp; omega, h⟩
  ·by_cases h0 : t1 = 0
   ·right; right; exact ⟨by simpa using h, by simp; omega, h0, by omega⟩
   ·left; exact ⟨by simpa using h, by simp; omega, by omega, by omega⟩
 have HFIN := Lib.hid (show ∀ C, Keeps (fun _ => True) w ((((w2.alloc (.cells #[.int .i64 (t1 : Int), .string (txt x1)] 102)).alloc (.cells #[.int .i64 (t2 : Int), .string (txt x2)] 102)).alloc C)) from fun C => ((HK2.out.alloc _).alloc _).alloc C)
 rcases hcs with ⟨b1, b2, b3⟩ | ⟨b1, b2, b3⟩ | ⟨b1, b2, b3⟩
 ·have HC := Lib.hid b3
  clear b3
  go_wp2_with fail
  go_ret2
  exact .inl ⟨HC.out.1, HC.out.2, _, rfl, blk_new _ _ _ p i (i + 1) t1 x1 _ rfl _ (by omega) _ rfl rfl (by simp), by have := HK2.out.size; omega, HFIN.out _⟩
 ·have HC := Lib.hid b3
  clear b3
  go_wp2_with fail
  go_ret2
  exact .inr (.inl ⟨HC.out, _, rfl, blk_new _ _ _ p (i + 1) i t2 x2 _ (by omega) _ rfl _ rfl rfl (by simp), by have := HK2.out.size; omega, (HFIN.out _).alloc _⟩)
 ·have HC := Lib.hid b3
  clear b3
  go_wp2_with fail
  go_ret2
  exact .inr (.inr ⟨HC.out.1, HC.out.2, rfl, HFIN.out _⟩)
theorem set_three (rows : List (List UInt8)) (i : Nat) (a b c : List UInt8) : ((rows.set i a).set (i + 1) b).set i c = (rows.set i c).set (i + 1) b := by
 rw [List.set_comm _ _ (show i ≠ i + 1 by omega), List.set_set, List.set_comm _ _ (show i + 1 ≠ i by omega)]
set_option maxRecDepth 100000 in
set_option maxHeartbeats 2000000 in
theorem smake_any (w : World) (hT : Taken w) (p : Nat) (F : Foot) (s : SDev) (h : DAt w p F s) (HTM : ∀ b, F.M b → b ≠ 0) (i : Nat) (hi : i + 2 ≤ s.now.length) (hcalls : s.calls ≤ 549755813888)
  (A : Option Addr) (c : Nat) (G : Nat → Prop) (l : List UInt8) (hr : Row w A G (bcells l)) (hG : ∀ b, G b → ¬ F.all b) (hlc : l.length ≤ c) (hc : c ≤ maxLen) (hl : l.length ≤ 40) :
  Calls Tryz.prog 27 #[.pointer (some ⟨p, 0, none⟩), .int .i64 (i : Int), .slice A l.length c] w fun e w' => ∃ (q : Nat) (F' : Foot), e = .returned (.tuple #[.pointer (some ⟨q, 0, none⟩), .int .i64 0]) ∧
   DAt w' p F' (SDev.still ((s.now.set i (encS 1 l)).set (i + 1) blank) (s.calls + 5)) ∧ SBlk w' q p i (i + 1) 1 l ∧ w.heap.size ≤ q ∧ ¬ F'.all q ∧ Step F F' w w' := by
 have hsm := h.ok.small
 have hi1 : i ≤ 2048 := by omega
 have hlen : (l.length : Int) ≤ 40 := by omega
 have HTH := Lib.hid (there_yes w p F s h i hi)
 have HBL := Lib.hid (blank_any w p F s h i hi hcalls)
 have HD := Lib.hid h
 have HT := Lib.hid hT
 have HR := Lib.hid hr.lt
 have HG := Lib.hid hG
 have HM := Lib.hid HTM
 have HI := Lib.hid hi
 clear h hT hi hr hG HTM hsm
 go_enter Tryz.func27, Tryz.ntmps27
 go_wp2_with fail
 refine HTH.out.mono ?_
 rintro e w' ⟨rfl, rfl⟩
 go_wp2_with fail
 refine HBL.out.mono ?_
 rintro e w1 ⟨rfl, F1, hd1, hst1⟩
 have HD1 := Lib.hid hd1
 have HS1 := Lib.hid hst1
 clear hd1 hst1 HBL HTH
 go_wp2_with fail
 have hs1 := HS1.out
 have hk2 : Keeps (fun _ => True) w1 (w1.alloc (.cells #[.int .i64 0, .string ⟨#[]⟩, .pointer (some ⟨p, 0, none⟩), .int .i64 ((i : Int) + 1), .int .i64 (i : Int)] 104)) := (Keeps.refl _ w1).alloc _
 have hb2 := blk_new w1 _ w1.heap.size p (i + 1) i 0 [] ((i : Int) + 1) (by omega) (i : Int) rfl 0 rfl rfl rfl
 rw [show txt [] = (⟨#[]⟩ : ByteArray) from rfl] at hb2
 have hz2 : w1.heap.size < (w1.alloc (.cells #[.int .i64 0, .string ⟨#[]⟩, .pointer (some ⟨p, 0, none⟩), .int .i64 ((i : Int) + 1), .int .i64 (i : Int)] 104)).heap.size := by simp
 generalize (w1.alloc (.cells #[.int .i64 0, .string ⟨#[]⟩, .pointer (some ⟨p, 0, none⟩), .int .i64 ((i : Int) + 1), .int .i64 (i : Int)] 104)) = w2 at hk2 hb2 hz2 ⊢
 have hT2 : Taken w2 := fun j hj => hk2.cell (hs1.keeps.cell (HT.out j hj) (fun hm => HM.out _ hm rfl)) trivial
 have hlt1 := HD1.out.lt
 have hall := hs1.all
 have hsv := ssave_yes w2 hT2 w1.heap.size p (i + 1) i 0 [] hb2 F1 _ (HD1.out.keep (hk2.mono fun _ _ _ => trivial)) (fun hf => by have := hlt1 _ hf; omega) (fun hm => by
   rcases hs1.m _ hm with h1 | h1
   ·exact HM.out _ h1 rfl
   ·have := World.block_lt_of_cell? w _ (HT.out 0 (by decide)); simp only at this; omega) (by simp [SDev.still]; have := HI.out; omega) (by omega) (by omega) (show s.calls + 3 ≤ _ by omega) A c (fun b => G b ∧ b < w.heap.size) l
   (((HR.out.keep (hs1.keeps.mono fun b _ hb hm => HG.out b hb.1 (.inl hm)))).keep (hk2.mono fun _ _ _ => trivial)) (fun b hb hf => by
    rcases hall b hf with h1 | h1
    ·exact HG.out b hb.1 h1
    ·omega) (fun b hb e => by have := hs1.keeps.size; omega) hlc hc hl
 have HSV := Lib.hid hsv
 have HK2 := Lib.hid hk2
 have HLT := Lib.hid hlt1
 have HZ2 := Lib.hid hz2
 clear hsv hk2 hb2 hT2 hlt1 hall hs1 hz2
 go_wp2_with fail
 refine HSV.out.mono ?_
 rintro e w3 ⟨rfl, F3, hd3, hb3, hk3, hm3, hi3⟩
 have H3 := Lib.hid (show DAt w3 p F3 (SDev.still ((s.now.set i (encS 1 l)).set (i + 1) blank) (s.calls + 5)) ∧ SBlk w3 w1.heap.size p i (i + 1) 1 l ∧ w.heap.size ≤ w1.heap.size ∧ ¬ F3.all w1.heap.size ∧ Step F F3 w w3 from by
  have hs1 := HS1.out
  have hk2 := HK2.out
  have e : ((SDev.still ((s.now.set i blank).set (i + 1) blank) (s.calls + 3)).now.set i (encS (0 + 1) l)) = (s.now.set i (encS 1 l)).set (i + 1) blank := set_three s.now i blank blank (encS 1 l)
  rw [e] at hd3
  have hst : Step F1 F3 w1 w3 := ⟨⟨hk3.os.trans hk2.os, hk3.tape.trans hk2.tape, hk3.output.trans hk2.output, Nat.le_trans hk2.size hk3.size, fun b hb hlt => (hk3.block b ⟨hb, by omega⟩ (Nat.lt_of_lt_of_le hlt hk2.size)).trans (hk2.block b trivial hlt)⟩,
   fun b hb => (hm3 b hb).imp id fun h1 => Nat.le_trans hk2.size h1, fun b hb => (hi3 b hb).imp id fun h1 => Nat.le_trans hk2.size h1⟩
  refine ⟨hd3, hb3, hs1.keeps.size, ?_, hs1.trans hst⟩
  intro hf
  have hz := HZ2.out
  have hlt := HLT.out
  rcases hf with hf | hf
  ·rcases hm3 _ hf with h1 | h1
   ·have := hlt _ (.inl h1); omega
   ·omega
  ·rcases hi3 _ hf with h1 | h1
   ·have := hlt _ h1; omega
   ·omega)
 clear hd3 hb3 hk3 hm3 hi3
 go_wp2_with fail
 go_ret2
 exact ⟨_, F3, rfl, H3.out⟩
def theFoot (q : Nat) : Foot := ⟨fun b => b = q, fun _ => False⟩
theorem foot_all (q b : Nat) : (theFoot q).all b ↔ b = q := ⟨fun h => h.elim id False.elim, fun h => .inl h⟩
theorem taken_lt {w : World} (h : Taken w) : 0 < w.heap.size := World.block_lt_of_cell? w _ (h 0 (by decide))
theorem rec_some {o : Option (Nat × List UInt8)} {t : Nat} {x : List UInt8} (h : o = some (t, x)) : recT o = (t, x) := by rw [h]; rfl
def theSup : SupOK := {
 T := Taken
 tk := fun h hk => h.keep hk
 enc := encS
 dec := decS
 decEnc := fun t x hx h1 ht => decS_enc t x hx h1 ht
 decBlank := decS_blank
 rep := SAt
 wf := fun h => h.wf
 lt := fun h => h.lt
 keep := fun h hk => h.keep hk
 make := fun W w p F s hd hT hk hF i A c G l hi hr hG hlc hc hA hl hcalls => by
  have hT0 := taken_lt hT
  refine (smake_any w (hT.keep hk) p F s hd (fun b hb e => by have := hF b (.inl hb); omega) i hi hcalls A c G l hr hG hlc hc hl).mono ?_
  rintro e w' ⟨q, F', rfl, hd', hb', hq, hqF, hst⟩
  refine ⟨q, F', theFoot q, s.calls + 5, rfl, hd', by omega, ⟨hb', ⟨Nat.zero_le 1, Nat.le_refl 1, hl⟩, foot_all q, rfl⟩, hst, fun b hb => by rw [(foot_all q b).1 hb]; exact hq, ⟨fun b hb hf => ?_, fun b hb hf => ?_⟩⟩
  ·rw [(foot_all q b).1 hf] at hb; exact hqF (.inl hb)
  ·rw [show b = q from hb] at hf; exact hqF hf
 open_ := fun w p F s hd hT i k t x hi hk h1 h2 ht => by
  refine (sopen_any w hT p F s hd i hi).mono ?_
  intro e w' h
  obtain ⟨w1, w2, w3⟩ := decS_wf h1
  have hk01 : k = 0 ∨ k = 1 := by omega
  rcases hk01 with rfl | rfl
  ·have e1 := rec_some h1
   rw [Nat.add_zero] at e1
   unfold SuperOpenPost at h
   rw [e1] at h
   have hle : (recT (decS (s.now.getD (i + 1) []))).1 < t := by
    cases h3 : decS (s.now.getD (i + 1) []) with
    | none => exact w1
    | some r => exact h2 r.1 r.2 h3
   rcases h with ⟨_, _, q, rfl, hb, hq, hkp⟩ | ⟨h3, _⟩ | ⟨h3, _⟩
   ·exact ⟨q, theFoot q, rfl, ⟨hb, ⟨by omega, w1, w3⟩, foot_all q, rfl⟩, fun b hb => by rw [(foot_all q b).1 hb]; exact hq, hkp⟩
   ·simp only at h3; omega
   ·simp only at h3; omega
  ·have e1 := rec_some h1
   unfold SuperOpenPost at h
   rw [e1] at h
   have hle : (recT (decS (s.now.getD i []))).1 < t := by
    cases h3 : decS (s.now.getD i []) with
    | none => exact w1
    | some r => exact h2 r.1 r.2 h3
   rcases h with ⟨h3, _⟩ | ⟨_, q, rfl, hb, hq, hkp⟩ | ⟨_, h3, _⟩
   ·simp only at h3; omega
   ·exact ⟨q, theFoot q, rfl, ⟨hb, ⟨by omega, w1, w3⟩, foot_all q, rfl⟩, fun b hb => by rw [(foot_all q b).1 hb]; exact hq, hkp⟩
   ·simp only at h3; omega
 save := fun W w p q F Fs s st hd hs hp ha hT hk hF hroom hsec hcalls hturn A c G l hr hG hGs hlc hc hA hl => by
  subst hp
  have hT0 := taken_lt hT
  have hw := hs.wf
  have hsm := hd.ok.small
  refine (ssave_yes w (hT.keep hk) q st.dev (st.place + st.which) (st.place + (1 - st.which)) st.turn st.text hs.blk F s hd (ha.r q hs.m) (fun hm => by have := hF _ (.inl hm); omega) (by omega) (by omega) hturn (by omega) A c G l hr hG (fun b hb e => hGs b hb ((hs.is b).2 e)) hlc hc hl).mono ?_
  rintro e w' ⟨rfl, F', hd', hb', hkp, hm', hi'⟩
  have hqlt := hs.lt q (.inl hs.m)
  refine ⟨rfl, F', Fs, s.calls + 2, hd', by omega, ⟨?_, ⟨by show 1 - st.which ≤ 1; omega, by show 1 ≤ st.turn + 1; omega, hl⟩, hs.is, hs.m⟩, ⟨fun b hb hf => ?_, fun b hb hf => ?_⟩, hkp.mono fun b _ hb => ⟨hb.1, fun e => hb.2 (by rw [e]; exact hs.m)⟩, hm', hi', fun b hb => .inl hb, fun b hb => .inl (.inr hb)⟩
  ·show SBlk w' q st.dev (st.place + (1 - st.which)) (st.place + (1 - (1 - st.which))) (st.turn + 1) l
   rw [show 1 - (1 - st.which) = st.which by omega]
   exact hb'
  ·rw [(hs.is b).1 hf] at hb
   rcases hm' q hb with h1 | h1
   ·exact ha.l q h1 (.inl hs.m)
   ·omega
  ·rw [(hs.is b).1 (.inl hb)] at hf
   rcases hf with hf | hf
   ·rcases hm' q hf with h1 | h1
    ·exact ha.l q h1 (.inl hs.m)
    ·omega
   ·rcases hi' q hf with h1 | h1
    ·exact ha.r q hs.m h1
    ·omega
}
end Go.Proofs.YtemkjodkmehffaaGreatDoor
