/-
  JnLearn, JnOpen: texts of mine, joined.
-/
import Derived.Test.YticophaepapjoaaGreatDoorAllA33
namespace Go.Proofs.YticophaepapjoaaGreatDoor
open Go Go.RowKit Go.Joins
section
variable {S : Slog2} {w w1 w2 : World} {p q lq : Nat} {Fl : Foot} {bs : Int} {v v' : Value} {xs xs' : List Nat} {lst : LSt} {s : SDev}
theorem JAt.put (h : JAt S w1 p q lq Fl bs v xs lst s) (hg : w1.grownBy w2 v.ownBlock) (hr : w2.ownsRow 0 2 1 v' xs'.length (posC xs')) (hv : v'.ownBlock = v.ownBlock ∨ ∃ b, v'.ownBlock = some b ∧ w1.heap.size ≤ b) :
  JAt S (w2.setCell ⟨q, 2, none⟩ v') p q lq Fl bs v' xs' lst s ∧ Keeps (fun b => v.ownBlock ≠ some b ∧ b ≠ q) w1 (w2.setCell ⟨q, 2, none⟩ v') := by
 have hk12 : Keeps (fun b => v.ownBlock ≠ some b) w1 w2 := Keeps.of_grown hg fun b e _ hn => hn e
 have hk13 : Keeps (fun b => v.ownBlock ≠ some b ∧ b ≠ q) w1 (w2.setCell ⟨q, 2, none⟩ v') := (hk12.mono fun b _ hb => hb.1).setCell (.inr fun hn => hn.2 rfl) _
 have hqs : q < w1.heap.size := h.blk.lt
 have hqv' : v'.ownBlock ≠ some q := fun e => by
  rcases hv with h1 | ⟨b, h1, h2⟩
  ·exact h.qv (h1.symm.trans e)
  ·rw [e] at h1; injection h1 with h1; omega
 refine ⟨⟨(h.blk.keep hk12 h.qv).set2 v', S.keep h.l (hk13.mono fun b _ hb => ⟨fun e => h.lv b e hb, fun e => h.ql (e ▸ hb)⟩), h.on,
  (((Keeps.refl (fun b => b ≠ q) w2).setCell (.inr fun hn => hn rfl) _).own hr fun b hb e => hqv' (e ▸ hb)), h.ql, hqv', fun b hb hf => ?_⟩, hk13⟩
 rcases hv with h1 | ⟨g, h1, h2⟩
 ·exact h.lv b (h1.symm.trans hb) hf
 ·rw [hb] at h1; injection h1 with h1; have := S.lt h.l b hf; omega
theorem JAt.base (h : JAt S w1 p q lq Fl bs v xs lst s) (bs' : Int) : JAt S (w1.setCell ⟨q, 1, none⟩ (.int .i64 bs')) p q lq Fl bs' v xs lst s ∧ Keeps (fun b => b ≠ q) w1 (w1.setCell ⟨q, 1, none⟩ (.int .i64 bs')) := by
 have hk : Keeps (fun b => b ≠ q) w1 (w1.setCell ⟨q, 1, none⟩ (.int .i64 bs')) := (Keeps.refl _ w1).setCell (.inr fun hn => hn rfl) _
 exact ⟨⟨h.blk.set1 bs', S.keep h.l (hk.mono fun b _ hb e => h.ql (e ▸ hb)), h.on, hk.own h.row fun b hb e => h.qv (e ▸ hb), h.ql, h.qv, h.lv⟩, hk⟩
end
def JLearnPost (S : Slog2) (w : World) (p q lq : Nat) (Fl : Foot) (bs : Int) (v : Value) (xs : List Nat) (lst : LSt) (s : SDev) (e : Ending) (w' : World) : Prop :=
 e = .returned (.tuple #[]) ∧ ∃ v', JAt S w' p q lq Fl bs v' xs lst s ∧ Keeps (fun b => v.ownBlock ≠ some b ∧ b ≠ q) w w' ∧ (v'.ownBlock = v.ownBlock ∨ ∃ b, v'.ownBlock = some b ∧ w.heap.size ≤ b)
set_option maxRecDepth 100000 in
set_option maxHeartbeats 1000000 in
theorem jlearn_next (S : Slog2) (w : World) (p q lq b m sq x : Nat) (Fl : Foot) (v : Value) (xs : List Nat) (lst : LSt) (s : SDev) (h : JAt S w p q lq Fl (b : Int) v xs lst s) (hb : m ≤ 40000) (hm : m = b + xs.length) (hsq : sq = m + 1) :
  Calls Tryz.prog 98 #[.pointer (some ⟨q, 0, none⟩), .int .i64 (x : Int), .int .i64 (sq : Int)] w (JLearnPost S w p q lq Fl (b : Int) v (xs ++ [x]) lst s) := by
 obtain ⟨A0, c0, rfl, hlc, hcm⟩ := h.form
 obtain ⟨n0, hn0⟩ : ∃ n0, xs.length = n0 := ⟨_, rfl⟩
 rw [hn0] at hlc h hm ⊢
 have t1 : decide (((m : Int) + 1) < (sq : Int)) = false := by simp; omega
 have t2 : ((sq : Int) != (m : Int) + 1) = false := by simp; omega
 have HSEQ := Lib.hid (jseq w q lq b n0 A0 c0 h.blk (by omega) (m : Int) (by omega))
 have HC := Lib.hid h
 have HN0 := Lib.hid hn0
 have hn1 : n0 ≤ 40000 := by omega
 unfold maxLen at hcm
 clear h hsq hm hn0
 go_enter Tryz.func98, Tryz.ntmps98
 go_wp2_with fail
 refine (show Calls _ _ _ _ _ from HSEQ.out).mono ?_
 rintro e w1 ⟨rfl, z, rfl⟩
 have hk1 : Kp w (w.drewN z) := (Keeps.refl _ _).drewN z
 generalize w.drewN z = w1 at hk1 ⊢
 have HK1 := Lib.hid hk1
 have HC1 := Lib.hid (HC.out.kp hk1)
 have c2 : w1.cell? ⟨q, 2, none⟩ = some (.slice A0 n0 c0) := HC1.out.blk.c2
 have HROW := Lib.hid (show w1.ownsRow 0 2 1 (.slice A0 n0 c0) n0 (posC xs) from by have := HC1.out.row; rwa [HN0.out] at this)
 clear hk1 HSEQ HC
 go_wp2_with (at_builtin; refine j64_elem.list_append rfl (.tmp 36) (.tmp 38) _ rfl rfl (HROW.out.alloc _) rfl (src_one Tryz.underlying106 _ _ _ ?c1 _ ?c2 _) ?c3 ?c4 ?c5 ?_)
 case c1 => rfl
 case c2 => rfl
 case c3 => unfold maxLen; omega
 case c4 => omega
 case c5 => exact Nat.zero_le _
 intro v' w5 hown hg hgb
 rw [posC_snoc] at hown
 have hg2 := grown_of_alloc hg
 have hk5 : Keeps (fun b => (Value.slice A0 n0 c0).ownBlock ≠ some b) w1 w5 := Keeps.of_grown hg2 fun b e _ hn => hn e
 have blk5 := HC1.out.blk.keep hk5 HC1.out.qv
 have d2 := blk5.c2
 have df := blk5.f 2
 have hvv : v'.ownBlock = (Value.slice A0 n0 c0).ownBlock ∨ ∃ b, v'.ownBlock = some b ∧ w1.heap.size ≤ b := by
  rcases hgb with hgb | hgb
  ·exact .inl hgb
  ·exact .inr ⟨_, hgb, by simp⟩
 have hput := HC1.out.put (v' := v') (xs' := xs ++ [x]) hg2 (by rw [List.length_append, HN0.out]; exact hown) hvv
 have HP := Lib.hid (show JLearnPost S w p q lq Fl (b : Int) (.slice A0 n0 c0) (xs ++ [x]) lst s (.returned (.tuple #[])) (w5.setCell ⟨q, 2, none⟩ v') from
  ⟨rfl, v', hput.1, (HK1.out.mono fun _ _ _ => trivial).trans hput.2, hvv.imp id fun ⟨b, h1, h2⟩ => ⟨b, h1, Nat.le_trans HK1.out.size h2⟩⟩)
 clear hg hg2 hgb hk5 blk5 hput hvv HROW HC1 c2
 obtain ⟨g1, c1, rfl, -, -⟩ := hown.form (Nat.succ_pos _)
 clear hown
 go_wp2_with fail
 go_end0
 exact HP.out
set_option maxRecDepth 100000 in
set_option maxHeartbeats 1000000 in
theorem jlearn_first (S : Slog2) (w : World) (p q lq g sq x : Nat) (Fl : Foot) (lst : LSt) (s : SDev) (h : JAt S w p q lq Fl 0 (.slice none 0 0) [] lst s) (hg1 : 1 ≤ g) (hg2 : g ≤ 40000) (hsq : sq = g + 1) :
  Calls Tryz.prog 98 #[.pointer (some ⟨q, 0, none⟩), .int .i64 (x : Int), .int .i64 (sq : Int)] w (JLearnPost S w p q lq Fl (g : Int) (.slice none 0 0) [x] lst s) := by
 have t1 : decide ((1 : Int) < (sq : Int)) = true := by simp; omega
 have t2 : ((sq : Int) != (1 : Int)) = true := by simp; omega
 have t3 : decide (1 < sq) = true := by simp; omega
 have t4 : ((sq : Int) == (1 : Int)) = false := by simp; omega
 have t5 : (sq == 1) = false := by simp; omega
 have t6 : (sq != 1) = true := by simp; omega
 have HSEQ := Lib.hid (jseq w q lq 0 0 none 0 h.blk (by omega) 0 (by omega))
 have HC := Lib.hid h
 have HSQ := Lib.hid (show (sq : Int) - 1 = (g : Int) from by omega)
 have hsb : sq ≤ 50000 := by omega
 clear h hsq hg1 hg2
 go_enter Tryz.func98, Tryz.ntmps98
 go_wp2_with fail
 refine (show Calls _ _ _ _ _ from HSEQ.out).mono ?_
 rintro e w1 ⟨rfl, z, rfl⟩
 have hk1 : Kp w (w.drewN z) := (Keeps.refl _ _).drewN z
 generalize w.drewN z = w1 at hk1 ⊢
 have HK1 := Lib.hid hk1
 have HC1 := Lib.hid (HC.out.kp hk1)
 have c2 : w1.cell? ⟨q, 2, none⟩ = some (.slice none 0 0) := HC1.out.blk.c2
 have b1 := HC1.out.blk.c1
 have f1 := HC1.out.blk.f 1
 have f2 := HC1.out.blk.f 2
 have hb1 := HC1.out.base ((sq : Int) - 1)
 have hb2 := hb1.1.put (v' := .slice none 0 0) (xs' := []) (World.grownBy.refl _ _) hb1.1.row (.inl rfl)
 rw [HSQ.out] at hb1 hb2
 have HB1 := Lib.hid hb1.2
 have HB2 := Lib.hid hb2
 clear hk1 HSEQ HC hb1 hb2
 have HNIL := Lib.hid (show ∀ W : World, W.ownsRow 0 2 1 (.slice none 0 0) 0 ([] : List Value) from fun W => World.ownsRow_nil W 0 2 1)
 go_wp2_with (at_builtin; refine j64_elem.list_append rfl (.tmp 36) (.tmp 38) _ rfl rfl (HNIL.out _) rfl (src_one Tryz.underlying106 _ _ _ ?c1 _ ?c2 _) ?c3 ?c4 ?c5 ?_)
 case c1 => rfl
 case c2 => simp
 case c3 => unfold maxLen; omega
 case c4 => omega
 case c5 => exact Nat.zero_le _
 intro v' w5 hown hg hgb
 have hg2 := grown_of_alloc hg
 rw [HSQ.out] at hg2
 have hk5 : Keeps (fun _ => True) _ w5 := Keeps.of_grown hg2 fun b e _ _ => by cases e
 have blk5 := HB2.out.1.blk.keep hk5 trivial
 have d2 := blk5.c2
 have df := blk5.f 2
 have hvv : v'.ownBlock = (Value.slice none 0 0).ownBlock ∨ ∃ b, v'.ownBlock = some b ∧ ((w1.setCell ⟨q, 1, none⟩ (.int .i64 (g : Int))).setCell ⟨q, 2, none⟩ (.slice none 0 0)).heap.size ≤ b := by
  rcases hgb with hgb | hgb
  ·exact .inl hgb
  ·exact .inr ⟨_, hgb, by simp⟩
 have hput := HB2.out.1.put (v' := v') (xs' := [x]) hg2 hown hvv
 have HP := Lib.hid (show JLearnPost S w p q lq Fl (g : Int) (.slice none 0 0) [x] lst s (.returned (.tuple #[])) (w5.setCell ⟨q, 2, none⟩ v') from
  ⟨rfl, v', hput.1, (HK1.out.mono fun _ _ _ => trivial).trans ((HB1.out.mono fun _ _ hb => hb.2).trans (HB2.out.2.trans hput.2)), hvv.imp id fun ⟨b, h1, h2⟩ => ⟨b, h1, Nat.le_trans HK1.out.size (Nat.le_trans HB1.out.size (Nat.le_trans HB2.out.2.size h2))⟩⟩)
 clear hg hg2 hgb hk5 blk5 hput hvv HC1 c2 b1 f1 f2
 obtain ⟨g1, c1, rfl, -, -⟩ := hown.form (Nat.succ_pos _)
 clear hown
 go_wp2_with fail
 go_end0
 exact HP.out
structure Jl (S : Slog2) (w wa wb wr : World) (p q lq : Nat) (Fl : Foot) (lst : LSt) (s : SDev) (L : List LRec) (j : Nat) : Prop where
 ex : ∃ (bs : Nat) (v : Value), JAt S wr p q lq Fl (bs : Int) v ((L.take j).map (·.pos)) lst s ∧ (j = 0 → bs = 0 ∧ v = .slice none 0 0) ∧ (0 < j → bs = lst.gone) ∧ ∀ b, v.ownBlock = some b → wb.heap.size ≤ b
 kp : Kp w wr
 sz : wb.heap.size ≤ wr.heap.size
section
variable {S : Slog2} {w wa wb wr w2 : World} {p q lq : Nat} {Fl : Foot} {lst : LSt} {s : SDev} {L : List LRec} {j : Nat}
theorem Jl.keep (h : Jl S w wa wb wr p q lq Fl lst s L j) (hk : Kp wr w2) : Jl S w wa wb w2 p q lq Fl lst s L j := by
 obtain ⟨bs, v, hc, h1, h2, h3⟩ := h.ex
 exact ⟨⟨bs, v, hc.kp hk, h1, h2, h3⟩, h.kp.trans hk, Nat.le_trans h.sz hk.size⟩
theorem Jl.step (hq : w.heap.size ≤ q) (hqa : q < wa.heap.size) (hab : wa.heap.size ≤ wb.heap.size) (h : Jl S w wa wb wr p q lq Fl lst s L j) (hj : j < L.length) (hgl : lst.gone + L.length ≤ 30000) :
  Calls Tryz.prog 98 #[.pointer (some ⟨q, 0, none⟩), .int .i64 (L[j].pos : Int), .int .i64 ((lst.gone + j + 1 : Nat) : Int)] wr fun e w' => e = .returned (.tuple #[]) ∧ Jl S w wa wb w' p q lq Fl lst s L (j + 1) ∧ Keeps (fun b => wa.heap.size ≤ b ∧ b < wb.heap.size) wr w' := by
 obtain ⟨bs, v, hc, h1, h2, h3⟩ := h.ex
 have hsz := h.sz
 have hsz2 := h.kp.size
 have htk : (L.take (j + 1)).map (·.pos) = (L.take j).map (·.pos) ++ [L[j].pos] := by
  rw [List.take_succ_eq_append_getElem hj, List.map_append]; rfl
 have htl : ((L.take j).map (·.pos)).length = j := by rw [List.length_map, List.length_take]; omega
 have fin : ∀ (v' : Value) (w' : World), JAt S w' p q lq Fl (lst.gone : Int) v' ((L.take j).map (·.pos) ++ [L[j].pos]) lst s → Keeps (fun b => v.ownBlock ≠ some b ∧ b ≠ q) wr w' → (v'.ownBlock = v.ownBlock ∨ ∃ b, v'.ownBlock = some b ∧ wr.heap.size ≤ b) →
   Jl S w wa wb w' p q lq Fl lst s L (j + 1) ∧ Keeps (fun b => wa.heap.size ≤ b ∧ b < wb.heap.size) wr w' := by
  intro v' w' hc' hk hv
  have hsz' := hk.size
  refine ⟨⟨⟨lst.gone, v', by rw [htk]; exact hc', fun h => absurd h (Nat.succ_ne_zero j), fun _ => rfl, fun b hb => ?_⟩, ⟨hk.os.trans h.kp.os, hk.tape.trans h.kp.tape, hk.output.trans h.kp.output, Nat.le_trans hsz2 hsz', fun b _ hb => ?_⟩, Nat.le_trans hsz hsz'⟩, hk.mono fun b _ hb => ⟨fun e => by have := h3 b e; omega, fun e => by omega⟩⟩
  ·rcases hv with hv | ⟨b', hv, hv2⟩
   ·exact h3 b (hv.symm.trans hb)
   ·rw [hb] at hv; injection hv with hv; omega
  ·refine (hk.block b ⟨fun e => ?_, fun e => by omega⟩ (Nat.lt_of_lt_of_le hb hsz2)).trans (h.kp.block b trivial hb)
   have := h3 b e
   have := hc.lt b (jfoot_all.2 (.inr (.inr e)))
   have := h.kp.size
   omega
 rcases Nat.eq_zero_or_pos j with hj0 | hj0
 ·subst hj0
  obtain ⟨rfl, rfl⟩ := h1 rfl
  rcases Nat.eq_zero_or_pos lst.gone with hg | hg
  ·refine (jlearn_next S wr p q lq 0 0 (lst.gone + 0 + 1) L[0].pos Fl (.slice none 0 0) _ lst s hc (Nat.zero_le _) (by simp) (by omega)).mono ?_
   rintro e w' ⟨rfl, v', hc', hk, hv⟩
   refine ⟨rfl, fin v' w' ?_ hk hv⟩
   rw [hg]; exact hc'
  ·refine (jlearn_first S wr p q lq lst.gone (lst.gone + 0 + 1) L[0].pos Fl lst s hc hg (by omega) rfl).mono ?_
   rintro e w' ⟨rfl, v', hc', hk, hv⟩
   exact ⟨rfl, fin v' w' hc' hk hv⟩
 ·obtain rfl := h2 hj0
  refine (jlearn_next S wr p q lq lst.gone (lst.gone + j) (lst.gone + j + 1) L[j].pos Fl v _ lst s hc (by omega) (by rw [htl]) rfl).mono ?_
  rintro e w' ⟨rfl, v', hc', hk, hv⟩
  exact ⟨rfl, fin v' w' hc' hk hv⟩
end
def JOpenPost (S : Slog2) (w : World) (p : Nat) (s : SDev) (st : JSt) (e : Ending) (w' : World) : Prop :=
 ∃ (q : Nat) (Fs : Foot), e = .returned (.tuple #[.pointer (some ⟨q, 0, none⟩), .int .i64 0]) ∧ jrep S w' p q Fs st s ∧ (∀ b, Fs.all b → w.heap.size ≤ b) ∧ Kp w w'
set_option maxRecDepth 100000 in
set_option maxHeartbeats 2000000 in
theorem jopen (S : Slog2) (w : World) (hT : S.T w) (p : Nat) (F : Foot) (s : SDev) (st : JSt) (hd : DAt w p F s) (i n : Nat) (hn : 20 ≤ n) (hnb : n ≤ 1000) (hroom : st.place + 8 * st.segs ≤ s.now.length)
  (hop : Calls Tryz.prog 96 #[.pointer (some ⟨p, 0, none⟩), .int .i64 i, .int .i64 n] w fun e w' => ∃ (lq : Nat) (Fl : Foot) (lst : LSt), e = .returned (.tuple #[.pointer (some ⟨lq, 0, none⟩), .int .i64 0]) ∧ S.rep w' lq Fl lst s ∧ lst.dev = p ∧ JM st lst ∧ (∀ b, Fl.all b → w.heap.size ≤ b) ∧ Kp w w') :
  Calls Tryz.prog 66 #[.pointer (some ⟨p, 0, none⟩), .int .i64 i, .int .i64 n] w (JOpenPost S w p s st) := by
 have HOP := Lib.hid hop
 have HD := Lib.hid hd
 have t0 : decide ((n : Int) < 20) = false := by simp; omega
 clear hop hd
 go_enter Tryz.func66, Tryz.ntmps66
 go_wp2_with fail
 refine (show Calls _ _ _ _ _ from HOP.out).mono ?_
 rintro e w1 ⟨lq, Fl, lst, rfl, hrep, hon, hm, hFl, hk1⟩
 have HREP := Lib.hid hrep
 have HM := Lib.hid hm
 have HFL := Lib.hid hFl
 have HK1 := Lib.hid hk1
 have HON := Lib.hid hon
 clear hrep hm hFl hk1 hon
 go_wp2_with fail
 obtain ⟨wa, hwa⟩ : ∃ wa, w1.alloc (.cells #[.pointer (some ⟨lq, 0, none⟩), .int .i64 0, .slice none 0 0] 108) = wa := ⟨_, rfl⟩
 have hba : JBlk wa w1.heap.size lq 0 (.slice none 0 0) := by rw [← hwa]; exact heap_alloc_new w1 _
 have hka : Kp w1 wa := by rw [← hwa]; exact (Keeps.refl _ w1).alloc _
 have hza : wa.heap.size = w1.heap.size + 1 := by rw [← hwa]; simp
 have hz1 := HK1.out.size
 have HWA := Lib.hid hwa
 have HALL := Lib.hid (S.all2 wa p lq F Fl s lst (HD.out.keep ((HK1.out.trans hka).mono fun _ _ _ => trivial)) (S.keep HREP.out (hka.mono fun _ _ _ => trivial)) HON.out (S.tk hT (HK1.out.trans hka)) (by rw [HM.out.place, HM.out.segs]; exact hroom))
 have hL0 := S.lt HREP.out
 have HC0 := Lib.hid (show JAt S wa p w1.heap.size lq Fl 0 (.slice none 0 0) [] lst s from
  ⟨hba, S.keep HREP.out (hka.mono fun _ _ _ => trivial), HON.out, ⟨rfl, .inl ⟨rfl, rfl⟩⟩, fun hf => by have := hL0 _ hf; omega, fun h => (by cases h), fun b h => (by cases h)⟩)
 have HQ := Lib.hid (show w.heap.size ≤ w1.heap.size ∧ w1.heap.size < wa.heap.size from ⟨by omega, by omega⟩)
 have HKA := Lib.hid (HK1.out.trans hka)
 obtain ⟨L, hL⟩ : ∃ L, lst.hist.drop lst.gone = L := ⟨_, rfl⟩
 have HL := Lib.hid hL
 have HRC := Lib.hid (show lst.recs = L.map LRec.key from by rw [← hL]; rfl)
 have hgl := (S.wf HREP.out).gone
 have HLM := Lib.hid (show lst.gone + L.length ≤ 30000 from by
  have h1 := HM.out.age
  have h2 := HM.out.old
  rw [← hL, List.length_drop]
  omega)
 have HBODY := Lib.hid (show ∀ (j : Nat) (hj : j < L.length), ∃ k, keyOk k ∧ L[j].body = markB (lst.gone + j + 1) k from fun j hj => by
  have hj2 : lst.gone + j < lst.hist.length := by rw [← hL, List.length_drop] at hj; omega
  have e : L[j] = lst.hist[lst.gone + j] := by subst hL; rw [List.getElem_drop]
  have hj3 : lst.gone + j < st.keys.length := by rw [← HM.out.len]; exact hj2
  refine ⟨st.keys.getD (lst.gone + j) default, ?_, by rw [e]; exact HM.out.body _ hj2⟩
  rw [List.getD_eq_getElem?_getD, List.getElem?_eq_getElem hj3]
  exact HM.out.one _ (List.getElem_mem hj3))
 have HPOS := Lib.hid (show jkept lst = L.map (·.pos) from by rw [← hL]; rfl)
 have HNONE := Lib.hid (show L.length = 0 → lst.gone = 0 from fun h => by
  have h1 := HM.out.some
  rw [← hL, List.length_drop] at h
  rcases Nat.eq_zero_or_pos lst.gone with h2 | h2
  ·exact h2
  ·have := h1 (fun e => by have h5 := HM.out.len; rw [e] at h5; have h6 : lst.hist.length = 0 := h5; omega)
   omega)
 clear hwa hba hka hza hz1 hL0 hL hgl HK1
 go_wp2_with (rw [HWA.out])
 try rw [HWA.out]
 refine (show Calls _ _ _ _ _ from HALL.out).mono ?_
 rintro e wb ⟨A, c, rfl, hmc, hcm, hrc, hkb⟩
 rw [HRC.out] at hrc
 obtain ⟨m, hlm⟩ : ∃ m, lst.recs.length = m := ⟨_, rfl⟩
 rw [hlm] at hmc ⊢
 have hLm : L.length = m := by rw [← hlm, HRC.out, List.length_map]
 have HLEN := Lib.hid hLm
 have HKB := Lib.hid hkb
 have HREC := Lib.hid (show ∀ (j : Nat) (hj : j < L.length), ∃ b o, A = some ⟨b, o, none⟩ ∧ ∀ wr, Keeps (fun b => wa.heap.size ≤ b ∧ b < wb.heap.size) wb wr → wr.cell? ⟨b, o + j * 2, none⟩ = some (.int .i64 ((L[j].pos : Nat) : Int)) ∧ ∃ B mm c, wr.cell? ⟨b, o + j * 2 + 1, none⟩ = some (.slice B mm c) ∧ mm = L[j].body.length ∧ mm ≤ c ∧ c ≤ maxLen ∧ Row wr B (fun _ => True) (bcells L[j].body) from fun j hj => by
  have hne : L.map LRec.key ≠ [] := fun e => by have := congrArg List.length e; simp at this; rw [this] at hj; simp at hj
  obtain ⟨b, o, e, hG, hc⟩ := hrc hne
  refine ⟨b, o, e, fun wr hk => ?_⟩
  obtain ⟨c0, B, cc, c1, h1, h2, h3⟩ := hc j (by rw [List.length_map]; exact hj)
  rw [List.getElem_map] at c0 c1 h1 h3
  exact ⟨hk.cell c0 hG, B, _, cc, hk.cell c1 hG, rfl, h1, h2, (h3.keep hk).mono fun _ _ _ => trivial⟩)
 have hmage : m ≤ 30000 := by have := HLM.out; omega
 have HAB := Lib.hid hkb.size
 unfold maxLen at hcm
 clear hlm hLm hrc hkb
 have HST := Lib.hid (show Jl S w wa wb wb p w1.heap.size lq Fl lst s L 0 from
  ⟨⟨0, .slice none 0 0, HC0.out.kp HKB.out, fun _ => ⟨rfl, rfl⟩, fun h => absurd h (Nat.lt_irrefl 0), fun b h => (by cases h)⟩, HKA.out.trans HKB.out, Nat.le_refl _⟩)
 have HEND := Lib.hid (show ∀ wr, Jl S w wa wb wr p w1.heap.size lq Fl lst s L m → JOpenPost S w p s st (.returned (.tuple #[.pointer (some ⟨w1.heap.size, 0, none⟩), .int .i64 0])) wr from fun wr h => by
  obtain ⟨bs, v, hc, h1, h2, h3⟩ := h.ex
  rw [List.take_of_length_le (by rw [HLEN.out]; exact Nat.le_refl _), ← HPOS.out] at hc
  have hbs : bs = lst.gone := by
   rcases Nat.eq_zero_or_pos m with hm0 | hm0
   ·rw [(h1 hm0).1, HNONE.out (by rw [HLEN.out]; exact hm0)]
   ·exact h2 hm0
  subst hbs
  refine ⟨w1.heap.size, jfoot w1.heap.size Fl v, rfl, ⟨lq, Fl, v, lst, rfl, hc, HM.out⟩, fun b hb => ?_, h.kp⟩
  rcases jfoot_all.1 hb with rfl | hb | hb
  ·exact HQ.out.1
  ·exact HFL.out b hb
  ·have := h3 b hb; have := HAB.out; have := HQ.out; omega)
 clear HALL HC0 HKA HRC HREP HFL HOP HPOS HNONE
 obtain ⟨q, hq⟩ : ∃ q, w1.heap.size = q := ⟨_, rfl⟩
 rw [hq] at HST HEND HQ ⊢
 clear hq
 go_wp2_with fail
 go_loopw [33] (fun i wr => ∃ j, j ≤ m ∧ i = .int .i64 j ∧ RowKit.Hid (Jl S w wa wb wr p q lq Fl lst s L j) ∧ RowKit.Hid (Keeps (fun b => wa.heap.size ≤ b ∧ b < wb.heap.size) wb wr)) (fun i _ => m - (intOf i).toNat)
 case atStart => exact ⟨0, Nat.zero_le _, rfl, HST, Lib.hid (Keeps.refl _ _)⟩
 case round =>
  obtain ⟨j, hj, rfl, hlt, hkg⟩ := hrel
  by_cases hjm : j < m
  ·have t1 : decide ((j : Int) < (m : Int)) = true := by simp; omega
   have hjl : j < L.length := by rw [HLEN.out]; exact hjm
   obtain ⟨b, o, rfl, hrow⟩ := HREC.out j hjl
   obtain ⟨c0, B, mm, cc, c1, hmm, hmc2, hcc2, hr⟩ := hrow wr hkg.out
   obtain ⟨k, hk, hbody⟩ := HBODY.out j hjl
   rw [hbody] at hmm hr
   have HDEC := Lib.hid (show ∀ w', Kp wr w' → _ from fun w' (hk' : Kp wr w') => jdecode w' B mm cc (lst.gone + j + 1) k (hr.keep hk') hmm hmc2 hcc2 (by omega) (by have := HLM.out; omega) hk)
   have HLN := Lib.hid (show ∀ w', Kp wr w' → _ from fun w' (hk' : Kp wr w') => (hlt.out.keep hk').step HQ.out.1 HQ.out.2 HAB.out hjl HLM.out)
   clear hmm hmc2 hcc2 hr hrow hk hbody
   obtain ⟨sq, hsq⟩ : ∃ sq, lst.gone + j + 1 = sq := ⟨_, rfl⟩
   rw [hsq] at HDEC HLN
   generalize L[j].pos = po at c0 HLN
   clear hsq
   have HKW := Lib.hid (show Kp wr (wr.alloc (.cells #[.int .i64 (po : Int), .slice B mm cc] 172)) from (Keeps.refl _ wr).alloc _)
   go_wp2_with fail
   refine (show Calls _ _ _ _ _ from HDEC.out _ HKW.out).mono ?_
   rintro e w3 ⟨rfl, hk3⟩
   have r0 : w3.cell? ⟨wr.heap.size, 0, none⟩ = some (.int .i64 (po : Int)) := hk3.cell ((cell_of_block (heap_alloc_new wr _) 0).trans rfl) trivial
   have hlt3 : wr.heap.size < w3.heap.size := by have := hk3.size; simp at this; omega
   have HK3 := Lib.hid (show Kp wr (w3.alloc (.cells #[.int .i64 (sq : Int), .string k] 72)) from (HKW.out.trans hk3).alloc _)
   clear hk3 c0 c1 HDEC
   go_wp2_with fail
   refine (show Calls _ _ _ _ _ from HLN.out _ HK3.out).mono ?_
   rintro e w4 ⟨rfl, hl4, hk4⟩
   have HL4 := Lib.hid hl4
   have HK4 := Lib.hid (hkg.out.trans ((HK3.out.mono fun _ _ _ => trivial).trans hk4))
   clear hl4 hk4 HLN r0 hlt3
   go_wp2_with fail
   go_roundw
   case rel => exact ⟨j + 1, by omega, by go_num, HL4, HK4⟩
   case measure => simp [intOf]; omega
  ·have t1 : decide ((j : Int) < (m : Int)) = false := by simp; omega
   obtain rfl : j = m := by omega
   have HE := Lib.hid (HEND.out wr hlt.out)
   clear hjm
   go_wp2_with fail
   go_ret2
   exact HE.out
end Go.Proofs.YticophaepapjoaaGreatDoor
