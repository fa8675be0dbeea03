/-
  SlgThe, Slog2The, FlThe, JnThe: texts of mine, joined.
-/
import Derived.Test.YticophaepapjoaaGreatDoorAllB43
import Derived.Test.YticophaepapjoaaGreatDoorAllB16
import Derived.Test.YticophaepapjoaaGreatDoorAllB35
import Derived.Test.YticophaepapjoaaGreatDoorAllB18
import Derived.Test.YticophaepapjoaaGreatDoorAllB34
import Derived.Test.YticophaepapjoaaGreatDoorAllB31
import Derived.Test.YticophaepapjoaaGreatDoorAllB44
import Derived.Test.YticophaepapjoaaGreatDoorAllB45
namespace Go.Proofs.YticophaepapjoaaGreatDoor
open Go Go.RowKit Go.Joins
theorem LogInv.empty (p i n f : Nat) (rows : List (List UInt8)) (h3 : 3 ≤ n) (hn : n ≤ 200) (hon : OnDisk rows i n []) : LogInv ⟨p, i, n, [], 0, f, 1⟩ [] 0 rows where
 ch := ⟨by show 0 < n; omega, Nat.zero_le _, fun i hi => absurd hi (Nat.not_lt_zero _), fun s hs => (nomatch hs), List.Pairwise.nil, fun s hs => (nomatch hs), fun i hi => absurd hi (Nat.not_lt_zero _)⟩
 on := hon
 hist := rfl
 keep := fun _ => rfl
 ends := fun s hs => nomatch hs
 nxs := by show 1 ≤ _; omega
 segs := ⟨h3, hn⟩
 one := fun r hr => nomatch hr
 rise := List.Pairwise.nil
 gone := Nat.le_refl _
 next := ⟨Nat.le_refl _, fun r hr => nomatch hr⟩
theorem LogInv.dev_ {d d' i n g f f' x : Nat} {hist : List LRec} {ks : List Seg} {b0 : Nat} {rows : List (List UInt8)} (h : LogInv ⟨d, i, n, hist, g, f, x⟩ ks b0 rows) : LogInv ⟨d', i, n, hist, g, f', x⟩ ks b0 rows :=
 ⟨h.ch, h.on, h.hist, h.keep, h.ends, h.nxs, h.segs, h.one, h.rise, h.gone, h.next⟩
theorem tip_nil (nx : Nat) : Tip [] nx 0 [] := .inl ⟨rfl, rfl, fun ks0 sg e => by simp at e⟩
theorem s_openNew (w : World) (p : Nat) (F : Foot) (s : SDev) (hd : DAt w p F s) (hT : Taken w) (i n : Nat) (h3 : 3 ≤ n) (hn : n ≤ 200) (hin : i + 8 * n ≤ s.now.length) (hb : ∀ j, i ≤ j → j < i + 8 * n → s.now.getD j [] = blank) :
  Calls Tryz.prog 96 #[.pointer (some ⟨p, 0, none⟩), .int .i64 i, .int .i64 n] w fun e w' => ∃ (q : Nat) (Fs : Foot) (f x : Nat), e = .returned (.tuple #[.pointer (some ⟨q, 0, none⟩), .int .i64 0]) ∧
   slogRep w' q Fs ⟨p, i, n, [], 0, f, x⟩ s ∧ x ≤ 1048576 ∧ (∀ b, Fs.all b → w.heap.size ≤ b) ∧ Keeps (fun _ => True) w w' := by
 have hsm := hd.ok.small
 have hon : OnDisk s.now i n [] := ⟨fun s hs => (by cases hs), fun j hj _ k hk => by unfold secAt; rw [hb _ (by omega) (by omega)]; exact decL_blank k⟩
 refine (lopen_any w hT p F s hd i n h3 hn (by omega) hin [] 0 1 (find_new w hT p F s hd i n hn (by omega) hin hon)).mono ?_
 rintro e w' ⟨rfl, Fs, K, Es, hl, hF, hk⟩
 refine ⟨w.heap.size, Fs, 1, 1, rfl, ⟨[], 0, 0, [], K, .slice none 0 0, Es, ?_, LogInv.empty p i n 1 _ h3 hn hon, tip_nil _, rfl⟩, by omega, hF, hk⟩
 have e : (0 + ([] : List Seg).length) % n = 0 := by simp
 show LogAt w' w.heap.size Fs p i n [] ((0 + ([] : List Seg).length) % n) 0 1 [] K _ Es
 rw [e]; exact hl
theorem s_openOld (w : World) (p : Nat) (F : Foot) (s : SDev) (st : LSt) (hd : DAt w p F s) (hT : Taken w) (hD : slogDisk st s.now) (hin : st.place + 8 * st.segs ≤ s.now.length) (hnx : st.next ≤ 137438953472) :
  Calls Tryz.prog 96 #[.pointer (some ⟨p, 0, none⟩), .int .i64 st.place, .int .i64 st.segs] w fun e w' => ∃ (q : Nat) (Fs : Foot) (f x : Nat), e = .returned (.tuple #[.pointer (some ⟨q, 0, none⟩), .int .i64 0]) ∧
   slogRep w' q Fs ⟨p, st.place, st.segs, opened st.hist, st.gone, f, x⟩ s ∧ x ≤ st.next + 1048576 ∧ (∀ b, Fs.all b → w.heap.size ≤ b) ∧ Keeps (fun _ => True) w w' := by
 have hsm := hd.ok.small
 obtain ⟨ks, b0, h⟩ := hD
 have hs := h.segs
 by_cases hne : ks = []
 ·subst hne
  have hg : st.gone = 0 := h.keep (by simp; omega)
  have hh : st.hist = [] := by have := h.hist; rw [hg] at this; simpa using this
  refine (lopen_any w hT p F s hd st.place st.segs hs.1 hs.2 (by omega) hin [] 0 1 (find_new w hT p F s hd st.place st.segs hs.2 (by omega) hin h.on)).mono ?_
  rintro e w' ⟨rfl, Fs, K, Es, hl, hF, hk⟩
  rw [hh, hg]
  refine ⟨w.heap.size, Fs, 1, 1, rfl, ⟨[], 0, 0, [], K, .slice none 0 0, Es, ?_, LogInv.empty p st.place st.segs 1 _ hs.1 hs.2 h.on, tip_nil _, rfl⟩, by omega, hF, hk⟩
  have e : (0 + ([] : List Seg).length) % st.segs = 0 := by simp
  show LogAt w' w.heap.size Fs p st.place st.segs [] ((0 + ([] : List Seg).length) % st.segs) 0 1 [] K _ Es
  rw [e]; exact hl
 ·obtain ⟨k0, l, rfl⟩ := snoc_of ks hne
  have hfs : ∀ sg ∈ k0 ++ [l], sg.first ≤ 274877906943 := fun sg hsg => (h.good sg hsg).first
  have hlf : l.first ≤ st.next := by have := h.ends l (by simp); unfold Seg.end_ at this; omega
  obtain ⟨hi, hc⟩ := h.openedI (firstOf (l.first + 212) (k0 ++ [⟨l.slot, l.first, opened l.recs⟩])) (by omega)
  refine (lopen_any w hT p F s hd st.place st.segs hs.1 hs.2 (by omega) hin _ _ _ (find_old w hT p F s hd st.place st.segs hs.2 (by omega) hin k0 l b0 h.ch h.on hfs)).mono ?_
  rintro e w' ⟨rfl, Fs, K, Es, hl, hF, hk⟩
  have ho := endsC_opened l.recs
  have hl' := hl.same (l' := ⟨l.slot, l.first, opened l.recs⟩) rfl rfl ho.2 ho.1
  have elen : (k0 ++ [l]).length = (k0 ++ [(⟨l.slot, l.first, opened l.recs⟩ : Seg)]).length := by simp
  rw [elen] at hl'
  exact ⟨w.heap.size, Fs, firstOf (l.first + 212) (k0 ++ [⟨l.slot, l.first, opened l.recs⟩]), l.first + 212, rfl, ⟨_, b0, 0, [], K, .slice none 0 0, Es, hl', hi.dev_, .inl ⟨rfl, rfl, fun ks0 sg e => by
   have := List.append_inj_right' e rfl
   injection this with this _
   rw [← this]; exact hc⟩, rfl⟩, by omega, hF, hk⟩
theorem s_append (W w : World) (p q : Nat) (F Fs : Foot) (s : SDev) (st : LSt) (hd : DAt w p F s) (hrep : slogRep w q Fs st s) (hdev : st.dev = p) (ha : Apart F Fs) (hTW : Taken W) (hkW : Keeps (fun _ => True) W w) (hFW : ∀ b, F.all b → W.heap.size ≤ b) (hFsW : ∀ b, Fs.all b → W.heap.size ≤ b) (hin : st.place + 8 * st.segs ≤ s.now.length) (hcalls : s.calls ≤ 549755813888) (hnx : st.next ≤ 137438953472)
  (A : Option Addr) (c : Nat) (G : Nat → Prop) (l : List UInt8) (hr : Row w A G (bcells l)) (hlc : l.length ≤ c) (hcm : c ≤ maxLen) (h1 : 1 ≤ l.length) (h300 : l.length ≤ 300) :
  Calls Tryz.prog 71 #[.pointer (some ⟨q, 0, none⟩), .slice A l.length c] w fun e w' => ∃ (x : Nat) (F' Fs' : Foot) (s' : SDev) (g f n : Nat), e = .returned (.tuple #[.int .i64 (x : Int), .int .i64 0]) ∧ DAt w' p F' s' ∧ slogRep w' q Fs' ⟨p, st.place, st.segs, st.hist ++ [⟨x, l, 0⟩], g, f, n⟩ s' ∧ st.gone ≤ g ∧ st.next ≤ x ∧ n ≤ st.next + 1048576 ∧
   s'.now.length = s.now.length ∧ (∀ i, ¬ st.has i → s'.now.getD i [] = s.now.getD i []) ∧ s'.calls ≤ s.calls + 1000 ∧
   Apart F' Fs' ∧ Keeps (fun b => ¬ F.M b ∧ ¬ Fs.M b) w w' ∧ (∀ b, F'.M b → F.M b ∨ w.heap.size ≤ b) ∧ (∀ b, F'.I b → F.all b ∨ w.heap.size ≤ b) ∧ (∀ b, Fs'.M b → Fs.M b ∨ w.heap.size ≤ b) ∧ (∀ b, Fs'.I b → Fs.all b ∨ w.heap.size ≤ b) := by
 subst hdev
 obtain ⟨ks, b0, left, tl, K, T, Es, hl, h, htip, hfst⟩ := hrep
 have hsm := hd.ok.small
 have hrows := hd.ok.nrow
 have hs := h.segs
 have hT := hTW.keep hkW
 have hTM := new_gap hTW F hFW
 have hTS := new_gap hTW Fs hFsW
 have hpm := putT_most l h300
 have hpos := putT_pos l
 have hlen := h.ch.len
 have hgood := h.good
 have hMq := hl.mq
 by_cases hfit : ∃ ks0 sg, ks = ks0 ++ [sg] ∧ left = 424 - sg.text.length ∧ tl = sg.text.drop (sg.text.length / 53 * 53) ∧ st.next = sg.end_ ∧ (putT l).length ≤ left
 ·obtain ⟨ks0, sg, rfl, hleft, htl, hend, hfits⟩ := hfit
  have hg := hgood sg (by simp)
  have hcnt := hg.ok.count
  have hl424 := hg.ok.len
  have htx : endAt sg.recs sg.recs.length = sg.text.length := endAt_len _
  have htll : tl.length = sg.text.length % 53 := by rw [htl, List.length_drop]; omega
  have hk0 : ks0.length ≤ 200 := by simp at hlen; omega
  refine (lappend_fit w hT q Fs st.dev st.place st.segs ks0 sg _ left st.next tl K T Es hl F s hd ha hTM A c G l hr h1 h300 hlc hcm hfits (by omega) (by rw [htx]; omega) (by rw [htx]; exact htll) (by omega) (by omega) hg.slot hs.2 hin hg.first hk0 hcalls (by omega) ⟨st.next, l, 0⟩ rfl).mono ?_
  rintro e w' ⟨rfl, w1, ⟨F', Fs', T', tl', Es', hd1, htl', hl1, hw1⟩, rfl⟩
  rw [htx] at hd1
  have hd1 : DAt w1 st.dev F' (s.puts (st.place + sg.slot * 8 + sg.text.length / 53) (sg.first * 8 + sg.text.length / 53) (tl ++ putT l) (chunks (tl ++ putT l).length)) := hd1
  have hm := h.more hend l h1 h300 (by omega) hrows hin (by omega) tl htl (firstOf (st.next + 1) (ks0 ++ [⟨sg.slot, sg.first, sg.recs ++ [⟨st.next, l, 0⟩]⟩]))
  have hn := hl1.next_ (st.next + 1)
  have hw2 := went_next hMq hl1 (fun _ _ => trivial) hw1 (st.next + 1)
  have hpl := puts_len s (st.place + sg.slot * 8 + sg.text.length / 53) (sg.first * 8 + sg.text.length / 53) (tl ++ putT l) (chunks (tl ++ putT l).length)
  have hxl : (tl ++ putT l).length = sg.text.length % 53 + (putT l).length := by rw [List.length_append, htll]
  have hch : chunks (tl ++ putT l).length ≤ 9 := by rw [hxl]; unfold chunks; omega
  have hch8 : sg.text.length / 53 + chunks (tl ++ putT l).length ≤ 8 := by rw [hxl]; unfold chunks; omega
  have hsl := hg.slot
  have elen : (ks0 ++ [sg]).length = (ks0 ++ [(⟨sg.slot, sg.first, sg.recs ++ [⟨st.next, l, 0⟩]⟩ : Seg)]).length := by simp
  rw [elen] at hn
  refine ⟨st.next, F', Fs', _, st.gone, _, st.next + 1, rfl, hd1.keep ((Keeps.refl _ w1).setCell (.inr fun hb => hw1.ap.r q hl1.mq hb) _), ⟨_, b0, _, tl', K, T', Es', hn, hm, .inr ⟨ks0, _, rfl, ?_, ?_, ?_⟩, rfl⟩, Nat.le_refl _, Nat.le_refl _, by omega, hpl.1, fun i hi => ?_, by rw [hpl.2]; omega, hw2.ap, hw2.k, hw2.f1, hw2.f2, hw2.f3, hw2.f4⟩
  ·show left - (putT l).length = 424 - (strm (sg.recs ++ [_])).length
   rw [strm_snoc, List.length_append]
   have : (strm sg.recs).length = sg.text.length := rfl
   show left - (putT l).length = 424 - ((strm sg.recs).length + (putT l).length)
   omega
  ·rw [htl']
   show (tl ++ putT l).drop _ = (strm (sg.recs ++ [_])).drop ((strm (sg.recs ++ [_])).length / 53 * 53)
   rw [strm_snoc]
   exact tail_drop sg.text (putT l) tl htl
  ·show st.next + 1 = sg.first + (sg.recs ++ [_]).length
   rw [List.length_append, hend]; rfl
  ·rw [puts_now s _ _ _ _ hrows (by have := hg.first; omega) (by omega), if_neg]
   intro hh
   exact hi ⟨by omega, by omega⟩
 ·have hlt : left < (putT l).length := by
   rcases htip with ⟨e, -, -⟩ | ⟨k0, sg, e1, e2, e3, e4⟩
   ·omega
   ·refine Classical.byContradiction fun hn => hfit ⟨k0, sg, e1, e2, e3, e4, by omega⟩
  have hle : left ≤ 424 := by
   rcases htip with ⟨e, -, -⟩ | ⟨k0, sg, e1, e2, e3, e4⟩ <;> omega
  have hcost : ∀ ks0 sg, ks = ks0 ++ [sg] → 461 ≤ costs sg.recs + costs [⟨st.next, l, 0⟩] := fun ks0 sg e => by
   have hc1 : costs [(⟨st.next, l, 0⟩ : LRec)] = l.length + 60 := by simp [costs, LRec.cost]
   rcases htip with ⟨-, -, e2⟩ | ⟨k0, sg', e1, e2, e3, e4⟩
   ·have := e2 ks0 sg e; omega
   ·have hh := List.append_inj_right' (e.symm.trans e1) rfl
    injection hh with hh _
    subst hh
    have hmem : sg ∈ ks := by rw [e]; simp
    have hok := (hgood sg hmem).ok
    have h2 := strm_costs sg.recs fun r hr => (hok.one r hr).2
    have h3 := List.length_pos_iff.2 (h.ch.full sg hmem)
    have : (strm sg.recs).length = sg.text.length := rfl
    omega
  have hslt : (b0 + ks.length) % st.segs < st.segs := Nat.mod_lt _ (by omega)
  refine (lappend_new w hT q Fs st.dev st.place st.segs ks _ left st.next tl K T Es hl F s hd ha hTM (decide (ks.length = st.segs)) (h.ch.turn (by omega)) A c G l hr h1 h300 hlc hcm hTS hlt hle (by omega) hslt hs.2 hin (by omega) hcalls h.next.1 (by omega) ⟨st.next, l, 0⟩ rfl).mono ?_
  rintro e w' ⟨rfl, w0, F1, Fs1, K1, hw0, w1, ⟨F', Fs', T', tl', Es', hd1, htl', hl1, hw1⟩, rfl⟩
  have hz : endAt ([] : List LRec) ([] : List LRec).length / 53 = 0 := by simp [endAt, strm]
  have hd1 : DAt w1 st.dev F' (((s.write (st.place + (b0 + ks.length) % st.segs * 8) (encL (st.next * 8) [])).flush).puts (st.place + (b0 + ks.length) % st.segs * 8 + 0) (st.next * 8 + 0) (putT l) (chunks (putT l).length)) := by
   have hh : DAt w1 st.dev F' (((s.write (st.place + (b0 + ks.length) % st.segs * 8) (encL (st.next * 8) [])).flush).puts (st.place + (b0 + ks.length) % st.segs * 8 + endAt ([] : List LRec) ([] : List LRec).length / 53) (st.next * 8 + endAt ([] : List LRec) ([] : List LRec).length / 53) ([] ++ putT l) (chunks ([] ++ putT l).length)) := hd1
   rw [hz, List.nil_append] at hh
   exact hh
  have hm := h.fresh l h1 h300 hrows hin (by omega) hcost (firstOf (st.next + 1) (goes (decide (ks.length = st.segs)) ks ++ [⟨(b0 + ks.length) % st.segs, st.next, [⟨st.next, l, 0⟩]⟩]))
  have hn := hl1.next_ (st.next + 1)
  have hw2 := went_next hMq hl1 (fun _ _ => trivial) (hw0.trans hw1) (st.next + 1)
  have hl2 : ((s.write (st.place + (b0 + ks.length) % st.segs * 8) (encL (st.next * 8) [])).flush).now.length = s.now.length := by rw [flush_now]; simp [SDev.write]
  have hr2 : ∀ r ∈ ((s.write (st.place + (b0 + ks.length) % st.segs * 8) (encL (st.next * 8) [])).flush).now, r.length = 64 := write_rows s _ _ (encL_len _ _ (by omega) (by simp)) hrows
  have hpl := puts_len ((s.write (st.place + (b0 + ks.length) % st.segs * 8) (encL (st.next * 8) [])).flush) (st.place + (b0 + ks.length) % st.segs * 8 + 0) (st.next * 8 + 0) (putT l) (chunks (putT l).length)
  have hch : chunks (putT l).length ≤ 8 := by unfold chunks; omega
  have hbn := base_next (decide (ks.length = st.segs)) b0 st.segs ks.length (goes (decide (ks.length = st.segs)) ks).length (by
   by_cases hh : ks.length = st.segs
   ·rw [decide_eq_true hh]; show ks.tail.length = _; rw [List.length_tail]; rfl
   ·rw [decide_eq_false hh]; rfl) (fun hh => by have := of_decide_eq_true hh; omega)
  refine ⟨st.next, F', Fs', _, _, _, st.next + 1, rfl, hd1.keep ((Keeps.refl _ w1).setCell (.inr fun hb => hw1.ap.r q hl1.mq hb) _), ⟨goes (decide (ks.length = st.segs)) ks ++ [⟨(b0 + ks.length) % st.segs, st.next, [⟨st.next, l, 0⟩]⟩], baseN (decide (ks.length = st.segs)) b0 st.segs, 424 - (putT l).length, tl', K1, T', Es', ?_, hm, .inr ⟨goes (decide (ks.length = st.segs)) ks, ⟨(b0 + ks.length) % st.segs, st.next, [⟨st.next, l, 0⟩]⟩, rfl, ?_, ?_, ?_⟩, rfl⟩, Nat.le_add_right _ _, Nat.le_refl _, by omega, hpl.1.trans hl2, fun i hi => ?_, ?_, hw2.ap, hw2.k, hw2.f1, hw2.f2, hw2.f3, hw2.f4⟩
  ·rw [List.length_append, List.length_singleton, hbn]; exact hn
  ·show 424 - (putT l).length = 424 - (strm [_]).length
   simp [strm]
  ·rw [htl']
   show ([] ++ putT l).drop (([] ++ putT l).length / 53 * 53) = (strm [_]).drop ((strm [_]).length / 53 * 53)
   simp [strm]
  ·show st.next + 1 = st.next + [_].length
   rfl
  ·rw [puts_now _ _ _ _ _ hr2 (by have := hnx; omega) (by rw [hl2]; omega), if_neg, flush_now, write_now s _ _ (by omega) (encL_len _ _ (by omega) (by simp)) hrows, if_neg]
   ·intro hh; exact hi ⟨by omega, by omega⟩
   ·intro hh; exact hi ⟨by omega, by omega⟩
  ·rw [hpl.2]
   show s.calls + 1 + 1 + _ ≤ _
   omega
theorem s_flush (w : World) (p q : Nat) (F Fs : Foot) (s : SDev) (st : LSt) (hd : DAt w p F s) (hrep : slogRep w q Fs st s) (hdev : st.dev = p) (ha : Apart F Fs) (hcalls : s.calls ≤ 549755813888) :
  Calls Tryz.prog 46 #[.pointer (some ⟨q, 0, none⟩)] w fun e w' => e = .returned (.int .i64 0) ∧ ∃ (F' Fs' : Foot) (rows : List (List UInt8)) (k : Nat), DAt w' p F' (SDev.still rows k) ∧ slogRep w' q Fs' st (SDev.still rows k) ∧ slogDisk st rows ∧
   rows.length = s.now.length ∧ (∀ i, ¬ st.has i → rows.getD i [] = s.now.getD i []) ∧ k ≤ s.calls + 1000 ∧
   Apart F' Fs' ∧ Keeps (fun b => ¬ F.M b ∧ ¬ Fs.M b) w w' ∧ (∀ b, F'.M b → F.M b ∨ w.heap.size ≤ b) ∧ (∀ b, F'.I b → F.all b ∨ w.heap.size ≤ b) ∧ (∀ b, Fs'.M b → Fs.M b ∨ w.heap.size ≤ b) ∧ (∀ b, Fs'.I b → Fs.all b ∨ w.heap.size ≤ b) := by
 obtain ⟨ks, b0, left, tl, K, T, Es, hl, h, htip, hfst⟩ := hrep
 have hlt := hl.lt
 ·subst hdev
  refine (lflush_any w q Fs st.dev st.place st.segs ks _ left st.next tl K T Es hl F s hd (by omega)).mono ?_
  rintro e w' ⟨rfl, F', hd', hst⟩
  exact ⟨rfl, F', Fs, s.now, s.calls + 1, hd', ⟨ks, b0, left, tl, K, T, Es, hl.keep (hst.other ha), h, htip, hfst⟩, ⟨ks, b0, h⟩, rfl, fun _ _ => rfl, by omega, hst.apart ha hlt, hst.keeps.mono fun b _ hb => hb.1, hst.m, hst.i, fun b hb => .inl hb, fun b hb => .inl (.inr hb)⟩
theorem s_read (w : World) (q : Nat) (F Fs : Foot) (s : SDev) (st : LSt) (hd : DAt w st.dev F s) (hrep : slogRep w q Fs st s) (hT : Taken w) (hin : st.place + 8 * st.segs ≤ s.now.length) (x : Nat) (l : List UInt8) (hx : (x, l) ∈ st.recs) :
  Calls Tryz.prog 85 #[.pointer (some ⟨q, 0, none⟩), .int .i64 (x : Int)] w fun e w' => ∃ A c, e = .returned (.tuple #[.slice A l.length c, .int .i64 0]) ∧ l.length ≤ c ∧ c ≤ maxLen ∧ Row w' A (fun b => w.heap.size ≤ b ∧ b < w'.heap.size) (bcells l) ∧ Mine w' .u8 A l.length ∧ Keeps (fun _ => True) w w' := by
 obtain ⟨ks, b0, left, tl, K, T, Es, hl, h, htip, hfst⟩ := hrep
 have hsm := hd.ok.small
 unfold LSt.recs at hx
 rw [h.hist] at hx
 obtain ⟨r, hr, hrk⟩ := List.mem_map.1 hx
 obtain ⟨sg, hsg, hr⟩ := List.mem_flatMap.1 hr
 obtain ⟨t, ht, hst⟩ := List.getElem_of_mem hsg
 obtain ⟨j, hj, hrj⟩ := List.getElem_of_mem hr
 have hp := (h.ch.ok sg hsg).pos j hj
 rw [hrj] at hp
 have hk : r.pos = x ∧ r.body = l := by
  unfold LRec.key at hrk
  injection hrk with e1 e2
  exact ⟨e1, e2⟩
 refine (lread_any w hT q Fs st.dev st.place st.segs ks _ left st.next tl K T Es hl F s hd h.good h.ch.rise h.segs.2 hin t ht sg hst j hj (x : Int) (by rw [← hk.1, hp])).mono ?_
 rintro e w' ⟨v, rfl, ⟨A, c, rfl, h1, h2, h3, h4⟩, hkp⟩
 rw [hrj, hk.2] at h1 h3 h4
 rw [hrj, hk.2]
 exact ⟨A, c, rfl, h1, h2, h3, h4, hkp⟩
def theSlog : SlogOK where
 T := Taken
 tk := fun h hk => h.keep hk
 rep := slogRep
 disk := slogDisk
 wf := fun ⟨_, _, _, _, _, _, _, _, h, _, hf⟩ => h.ok hf
 lt := fun ⟨_, _, _, _, _, _, _, hl, _⟩ => hl.lt
 keep := fun ⟨ks, b0, left, tl, K, T, Es, hl, h⟩ hk => ⟨ks, b0, left, tl, K, T, Es, hl.keep hk, h⟩
 other := fun ⟨ks, b0, left, tl, K, T, Es, hl, h, ht⟩ _ ho => ⟨ks, b0, left, tl, K, T, Es, hl, h.other ho, ht⟩
 diskKeep := fun ⟨ks, b0, h⟩ _ ho => ⟨ks, b0, h.other ho⟩
 openNew := fun w p F s hd hT i n h3 hn hin hb => s_openNew w p F s hd hT i n h3 hn hin hb
 openOld := fun w p F s st hd hT hD hin hnx => s_openOld w p F s st hd hT hD hin hnx
 append := fun W w p q F Fs s st hd hrep hdev ha hT hk hF hFs hin hcalls hnx A c G l hr _ _ hlc hcm h1 h300 => s_append W w p q F Fs s st hd hrep hdev ha hT hk hF hFs hin hcalls hnx A c G l hr hlc hcm h1 h300
 flush := fun W w p q F Fs s st hd hrep hdev ha _ _ _ _ _ hcalls => s_flush w p q F Fs s st hd hrep hdev ha hcalls
 read := fun w p q F Fs s st hd hrep hdev _ hT hin x l hx => by
  subst hdev
  exact s_read w q F Fs s st hd hrep hT hin x l hx
theorem slog_past {w : World} {q : Nat} {F : Foot} {st : LSt} {s : SDev} (h : slogRep w q F st s) : st.first ≤ st.next ∧ ∀ r ∈ st.hist.take st.gone, r.pos < st.first := by
 obtain ⟨ks, b0, left, tl, K, T, Es, hl, h, ht, hf⟩ := h
 rw [hf]
 cases ks with
 | nil => exact ⟨Nat.le_refl _, fun r hr => h.next.2 r (List.mem_of_mem_take hr)⟩
 | cons sg ks =>
  have hfull := h.ch.full sg List.mem_cons_self
  have hend := h.ends sg List.mem_cons_self
  have hlen := List.length_pos_iff.2 hfull
  have hpos := (h.ch.ok sg List.mem_cons_self).pos 0 hlen
  refine ⟨by show sg.first ≤ _; unfold Seg.end_ at hend; omega, fun r hr => ?_⟩
  show r.pos < sg.first
  have hr2 := h.rise
  rw [← List.take_append_drop st.gone st.hist] at hr2
  have h3 := (List.pairwise_append.1 hr2).2.2 r hr (sg.recs[0]'hlen) (by
   rw [h.hist, List.flatMap_cons]
   exact List.mem_append_left _ (List.getElem_mem hlen))
  omega
def theSlog2 : Slog2 where
 toSlogOK := theSlog
 past := fun h => slog_past h
 first2 := fun w q Fs s st ⟨ks, b0, left, tl, K, T, Es, hl, h, htip, hfst⟩ => by
  refine (lfirst_any w q Fs st.dev st.place st.segs ks _ left st.next tl K T Es hl).mono ?_
  rintro e w' ⟨rfl, rfl⟩
  refine ⟨?_, rfl⟩
  rw [hfst]
  cases ks <;> rfl
 next2 := fun w q Fs s st ⟨ks, b0, left, tl, K, T, Es, hl, h, htip, hfst⟩ => by
  refine (lnext_any w q Fs st.dev st.place st.segs ks _ left st.next tl K T Es hl).mono ?_
  rintro e w' ⟨rfl, rfl⟩
  exact ⟨rfl, rfl⟩
 all2 := fun w p q F Fs s st hd hrep hdev hT hin => by
  subst hdev
  obtain ⟨ks, b0, left, tl, K, T, Es, hl, h, htip, hfst⟩ := hrep
  refine (lall_any w hT q Fs st.dev st.place st.segs ks _ left st.next tl K T Es hl F s hd h.good h.segs.2 hin h.ch.len).mono ?_
  rintro e w' ⟨v, rfl, hrr, hk⟩
  have e : st.recs = (ks.flatMap Seg.recs).map LRec.key := by unfold LSt.recs; rw [h.hist]
  rw [← e] at hrr
  obtain ⟨A, c, rfl, h1, h2, hA⟩ := recs_c hrr
  exact ⟨A, c, rfl, h1, h2, hA, hk⟩
theorem fm_start (p i n f x : Nat) (hx : x ≤ 1048576) : FM ⟨i, n, [], 0, 1⟩ ⟨p, i, n, [], 0, f, x⟩ [] :=
 ⟨rfl, fun p x hx => by simp at hx, ⟨[], [], rfl, .inl rfl, rfl, rfl, rfl⟩, rfl, rfl, Nat.zero_le _, by show x ≤ 1048576 * 1; omega, by show 1 ≤ 30000; decide⟩
theorem cb_of {S : Slog2} {I : IndexOK} {W w : World} {p q : Nat} {F Fs : Foot} {s : SDev} {st : FSt} (hd : DAt w p F s) (hr : flashRep S I w p q Fs st s) (ha : Apart F Fs) (hk : Keeps (fun _ => True) W w) (hF : ∀ b, F.all b → W.heap.size ≤ b) (hFs : ∀ b, Fs.all b → W.heap.size ≤ b) (hroom : st.place + 8 * st.segs ≤ s.now.length) : Cb S I W w p q F Fs s st :=
 ⟨hd, hr, ha, hk, hF, hFs, hroom⟩
def theFlash : FlashOK where
 T := fun w => theSlog2.T w ∧ theIndex.T w ∧ theItems.T w
 tk := fun h hk => ⟨theSlog2.tk h.1 hk, theIndex.tk h.2.1 hk, theItems.tk h.2.2 hk⟩
 rep := fun w p q Fs st s => flashRep theSlog2 theIndex w p q Fs st s
 disk := fun st rows => flashDisk theSlog2 st rows
 wf := fun h => frep_wf h
 lt := fun h => frep_lt h
 keep := fun h hk => frep_keep h hk
 other := fun h h1 h2 => frep_other h h1 h2
 openNew := fun w p F s hd hT i n h3 hn hin hb => by
  refine copen theSlog2 theIndex theItems w hT p F s ⟨i, n, [], 0, 1⟩ hd i n hin (by show 1 ≤ 30000; decide) ((theSlog.openNew w p F s hd hT.1 i n h3 hn hin hb).mono ?_)
  rintro e w' ⟨q, Fs, f, x, rfl, hr, hx, hF, hk⟩
  exact ⟨q, Fs, _, [], rfl, hr, rfl, fm_start p i n f x hx, hF, hk⟩
 openOld := fun w p F s st hd hT hdk hroom hage => by
  obtain ⟨lst, hs, hD, hm⟩ := hdk
  have e1 : (Value.int .i64 (st.place : Int)) = .int .i64 (lst.place : Int) := by rw [hm.place]
  have e2 : (Value.int .i64 (st.segs : Int)) = .int .i64 (lst.segs : Int) := by rw [hm.segs]
  refine copen theSlog2 theIndex theItems w hT p F s ⟨st.place, st.segs, fopened st.ents, st.gone, st.age + 1⟩ hd st.place st.segs hroom (by show st.age + 1 ≤ 30000; omega) ?_
  rw [e1, e2]
  refine (theSlog.openOld w p F s lst hd hT.1 hD (by rw [hm.place, hm.segs]; exact hroom) (by have := hm.next; omega)).mono ?_
  rintro e w' ⟨q, Fs, f, x, rfl, hr, hx, hF, hk⟩
  exact ⟨q, Fs, _, hs, rfl, hr, rfl, hm.opened hx (by omega), hF, hk⟩
 put := fun W w p q F Fs s st hd hr ha hT hk hF hFs hroom hage hcl x hm hg => cput theSlog2 theIndex theItems W w hT p q F Fs s st (cb_of hd hr ha hk hF hFs hroom) hage hcl x hm hg
 putNo := fun w p q F Fs s st hd hr ha hT hroom x hf hno => cputNo theSlog2 theIndex theItems w hT.2.2 p q Fs s st hr x hf hno
 get := fun w p q F Fs s st hd hr ha hT hroom k now hk h1 h2 => cget theSlog2 theIndex theItems w hT p q F Fs s st hd hr ha hroom (frep_age hr) k now hk h1 h2
 drop := fun W w p q F Fs s st hd hr ha hT hk hF hFs hroom hage hcl A c ks hrow hlc hcm hl hok => cdrop theSlog2 theIndex theItems W w hT p q F Fs s st (cb_of hd hr ha hk hF hFs hroom) hage hcl A c ks hrow hlc hcm hl hok
 keys := fun w p q F Fs s st hd hr ha hT hroom => ckeys theSlog2 theIndex w hT.2.1 p q Fs s st hr (frep_age hr)
def theJournal : JournalOK where
 T := theSlog2.T
 tk := fun h hk => theSlog2.tk h hk
 rep := fun w p q Fs st s => jrep theSlog2 w p q Fs st s
 disk := fun st rows => jdisk theSlog2 st rows
 wf := fun h => jrep_wf h
 lt := fun h => jrep_lt h
 keep := fun h hk => jrep_keep h hk
 other := fun h h1 h2 => jrep_other h h1 h2
 diskKeep := fun h h1 h2 => jdisk_keep h h1 h2
 openNew := fun w p F s hd hT i n h3 hn hin hb => by
  refine jopen theSlog2 w hT p F s ⟨i, n, [], 0, 32, 1⟩ hd i n h3 (by omega) hin ((theSlog.openNew w p F s hd hT i n (by omega) hn hin hb).mono ?_)
  rintro e w' ⟨q, Fs, f, x, rfl, hr, hx, hF, hk⟩
  exact ⟨q, Fs, _, rfl, hr, rfl, JM.start p i n f x ⟨h3, hn⟩ hx, hF, hk⟩
 openOld := fun w p F s st hd hT hdk hroom hage => by
  obtain ⟨lst, hD, hm⟩ := hdk
  have e1 : (Value.int .i64 (st.place : Int)) = .int .i64 (lst.place : Int) := by rw [hm.place]
  have e2 : (Value.int .i64 (st.segs : Int)) = .int .i64 (lst.segs : Int) := by rw [hm.segs]
  refine (jopen theSlog2 w hT p F s ⟨st.place, st.segs, st.keys, st.base, st.kept - 4, st.age + 1⟩ hd st.place st.segs hm.many.1 (by have := hm.many.2; omega) hroom ?_).mono ?_
  ·rw [e1, e2]
   refine (theSlog.openOld w p F s lst hd hT hD (by rw [hm.place, hm.segs]; exact hroom) (by have := hm.next; omega)).mono ?_
   rintro e w' ⟨q, Fs, f, x, rfl, hr, hx, hF, hk⟩
   rw [hm.place, hm.segs] at hr
   exact ⟨q, Fs, _, rfl, hr, rfl, hm.opened hx (by omega), hF, hk⟩
  ·rintro e w' ⟨q, Fs, rfl, hr, hF, hk⟩
   exact ⟨q, Fs, st.base, rfl, hr, hF, hk⟩
 add := fun W w p q F Fs s st hd hr ha hT hk hF hFs hroom hage hcl A c ks hrow hlc hcm hl hok => jadds theSlog2 W w hT p q F Fs s st ⟨hd, hr, ha, hk, hF, hFs, hroom⟩ hage hcl A c ks.length ks rfl hrow hlc hcm hl hok
 addNo := fun w p q F Fs s st hd hr ha hT hroom A c ks hrow hlc hcm hl hsz hno => jadds_no theSlog2 w p q Fs s st hr A c ks.length ks rfl hrow hlc hcm hl hsz hno
 seqIs := fun w p q Fs s st hr _ => jseq_is theSlog2 w p q Fs s st hr
 baseIs := fun w p q Fs s st hr _ => jbase_is theSlog2 w p q Fs s st hr
theorem jtaken {W : World} (h : Taken W) : theJournal.T W := h
end Go.Proofs.YticophaepapjoaaGreatDoor
