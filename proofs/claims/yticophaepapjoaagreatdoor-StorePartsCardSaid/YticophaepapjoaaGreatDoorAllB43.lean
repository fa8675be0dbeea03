/-
  SlgOpen, SlgSecs, SlgInv, SlgMore, SlgOpened, SlgMade: texts of mine, joined.
-/
import Derived.Test.YticophaepapjoaaGreatDoorAllB42
import Derived.Test.YticophaepapjoaaGreatDoorAllB16
import Derived.Test.YticophaepapjoaaGreatDoorAllB34
open Go.Lib renaming hid → Hd
set_option maxRecDepth 100000
set_option maxHeartbeats 8000000
namespace Go.Proofs.YticophaepapjoaaGreatDoor
open Go Go.RowKit Go.Joins Go.Shelf
theorem keeps_over {G : Nat → Prop} {w W w' : World} (h : Kp w W) (hk : Keeps G W w') (hG : ∀ b, b < w.heap.size → G b) : Kp w w' :=
 ⟨hk.os.trans h.os, hk.tape.trans h.tape, hk.output.trans h.output, Nat.le_trans h.size hk.size, fun b _ hb => (hk.block b (hG b hb) (Nat.lt_of_lt_of_le hb h.size)).trans (h.block b trivial hb)⟩
theorem Coll.mid {w0 w : World} {q p i n sl nx : Nat} {K : Value} {d : List SegP} (h : Coll w0 w q K d) (hq : q < w0.heap.size) (hb : LBlk w q p i n K sl 0 (.slice none 0 0) nx) : LogMid w q p i n (d.map Prod.fst) sl 0 nx K (.slice none 0 0) (d.map SegP.E) := by
 refine ⟨hb, by rw [List.length_map, segC_encP]; exact h.row, ⟨by simp, fun j hj => ?_, fun E hE b e hx => ?_, h.two⟩, fun b e e2 => by have := h.kb b e; omega⟩
 ·simp only [List.getElem_map]
  exact h.own _ (List.getElem_mem _)
 ·obtain ⟨x, hx', rfl⟩ := List.mem_map.1 hE
  have h1 := h.eb x hx' b e
  rcases hx with hx | hx
  ·omega
  ·exact h1.2 hx
theorem Coll.at_ {w0 w : World} {q p i n sl nx : Nat} {K : Value} {d : List SegP} (h : Coll w0 w q K d) (hq : q < w0.heap.size) (hb : LBlk w q p i n K sl 0 (.slice none 0 0) nx) : LogAt w q ⟨hasB q K (d.map SegP.E), fun _ => False⟩ p i n (d.map Prod.fst) sl 0 nx [] K (.slice none 0 0) (d.map SegP.E) :=
 (h.mid hq hb).at_ (fun _ => False) (fun _ h => h.elim) (fun _ _ h => h) ⟨none, 0, rfl, Nat.le_refl _, Nat.zero_le _, Row.nil _ _ _⟩
theorem Coll.new {w0 w : World} {q : Nat} {K : Value} {d : List SegP} (h : Coll w0 w q K d) : ∀ b, hasB q K (d.map SegP.E) b → b = q ∨ w0.heap.size ≤ b := fun b hb => by
 rcases hb with rfl | hb | ⟨E, hE, hb⟩
 ·exact .inl rfl
 ·exact .inr (h.kb b hb)
 ·obtain ⟨x, hx, rfl⟩ := List.mem_map.1 hE
  exact .inr (h.eb x hx b hb).1
def OpenPost (w : World) (p i n : Nat) (ks : List Seg) (sl nx : Nat) (w' : World) : Prop :=
 ∃ (Fs : Foot) (K : Value) (Es : List Value), LogAt w' w.heap.size Fs p i n ks sl 0 nx [] K (.slice none 0 0) Es ∧ (∀ b, Fs.all b → w.heap.size ≤ b) ∧ Kp w w'
theorem lopen_any (w : World) (_hT : Taken w) (p : Nat) (F : Foot) (s : SDev) (hd : DAt w p F s) (i n : Nat) (h3 : 3 ≤ n) (hn : n ≤ 200) (_hi : i ≤ 2048) (hin : i + 8 * n ≤ s.now.length) (ks : List Seg) (sl nx : Nat)
  (hfind : ∀ W, Kp (w.alloc (.cells #[.pointer (some ⟨p, 0, none⟩), .int .i64 (i : Int), .int .i64 (n : Int), .slice none 0 0, .int .i64 0, .int .i64 0, .slice none 0 0, .int .i64 1] 137)) W → Calls Tryz.prog 128 #[.pointer (some ⟨w.heap.size, 0, none⟩)] W fun e w' => (∃ v, e = .returned v) ∧ OpenPost w p i n ks sl nx w') :
  Calls Tryz.prog 96 #[.pointer (some ⟨p, 0, none⟩), .int .i64 (i : Int), .int .i64 (n : Int)] w fun e w' => e = .returned (.tuple #[.pointer (some ⟨w.heap.size, 0, none⟩), .int .i64 0]) ∧ OpenPost w p i n ks sl nx w' := by
 have HTH := Hd (sthere_yes w p F s hd i n h3 hn hin)
 have HFIND := Hd (hfind _ (Keeps.refl _ _))
 clear _hT hd hfind
 go_enter Tryz.func96, Tryz.ntmps96
 go_wp2_with fail
 refine HTH.out.mono ?_
 rintro e w' ⟨rfl, rfl⟩
 go_wp2_with fail
 refine HFIND.out.mono ?_
 rintro e w1 ⟨⟨v, rfl⟩, hp⟩
 have HP := Hd hp
 clear hp HFIND
 go_wp2_with fail
 go_ret2
 exact ⟨rfl, HP.out⟩
theorem find_new (w : World) (hT : Taken w) (p : Nat) (F : Foot) (s : SDev) (hd : DAt w p F s) (i n : Nat) (hn : n ≤ 200) (hi : i ≤ 2048) (hin : i + 8 * n ≤ s.now.length) (hon : OnDisk s.now i n []) :
  ∀ W, Kp (w.alloc (.cells #[.pointer (some ⟨p, 0, none⟩), .int .i64 (i : Int), .int .i64 (n : Int), .slice none 0 0, .int .i64 0, .int .i64 0, .slice none 0 0, .int .i64 1] 137)) W → Calls Tryz.prog 128 #[.pointer (some ⟨w.heap.size, 0, none⟩)] W fun e w' => (∃ v, e = .returned v) ∧ OpenPost w p i n [] 0 1 w' := by
 intro W hW
 have hb0 := heap_alloc_new w (.cells #[.pointer (some ⟨p, 0, none⟩), .int .i64 (i : Int), .int .i64 (n : Int), .slice none 0 0, .int .i64 0, .int .i64 0, .slice none 0 0, .int .i64 1] 137)
 have hk0 : Kp w W := ((Keeps.refl _ w).alloc _).trans hW
 have hbW : LBlk W w.heap.size p i n (.slice none 0 0) 0 0 (.slice none 0 0) 1 := (hW.block w.heap.size trivial (by simp)).trans hb0
 have he := find_empty hon
 refine find_any W (hT.keep hk0) w.heap.size p i n _ _ 0 0 1 hbW F s (hd.keep (hk0.mono fun _ _ _ => trivial)) hi hn hin (fun j k m x _ _ e => by have := (decL_wf e).2.1; omega) (OpenPost w p i n [] 0 1) _ rfl (.inl he) (fun _ W1 hk1 => ?_) (fun h => by rw [he.1] at h; omega)
 have hb1 := hbW.keep hk1 trivial
 have hqz : w.heap.size < W1.heap.size := (Array.getElem?_eq_some_iff.1 hb1).1
 have hc : Coll W1 W1 w.heap.size (.slice none 0 0) [] := Coll.nil _ _ _
 exact ⟨_, _, _, hc.at_ hqz hb1, fun b hb => by
  rcases hb with hb | hb
  ·rcases hc.new b hb with rfl | h <;> omega
  ·exact hb.elim, hk0.trans hk1⟩
theorem find_old (w : World) (hT : Taken w) (p : Nat) (F : Foot) (s : SDev) (hd : DAt w p F s) (i n : Nat) (hn : n ≤ 200) (hi : i ≤ 2048) (hin : i + 8 * n ≤ s.now.length) (ks : List Seg) (l : Seg) (b0 : Nat) (hch : Chain n b0 (ks ++ [l])) (hon : OnDisk s.now i n (ks ++ [l])) (hf : ∀ sg ∈ ks ++ [l], sg.first ≤ 274877906943) :
  ∀ W, Kp (w.alloc (.cells #[.pointer (some ⟨p, 0, none⟩), .int .i64 (i : Int), .int .i64 (n : Int), .slice none 0 0, .int .i64 0, .int .i64 0, .slice none 0 0, .int .i64 1] 137)) W → Calls Tryz.prog 128 #[.pointer (some ⟨w.heap.size, 0, none⟩)] W fun e w' => (∃ v, e = .returned v) ∧ OpenPost w p i n (ks ++ [l]) ((b0 + (ks ++ [l]).length) % n) (l.first + 212) w' := by
 intro W hW
 have hb0 := heap_alloc_new w (.cells #[.pointer (some ⟨p, 0, none⟩), .int .i64 (i : Int), .int .i64 (n : Int), .slice none 0 0, .int .i64 0, .int .i64 0, .slice none 0 0, .int .i64 1] 137)
 have hk0 : Kp w W := ((Keeps.refl _ w).alloc _).trans hW
 have hbW : LBlk W w.heap.size p i n (.slice none 0 0) 0 0 (.slice none 0 0) 1 := (hW.block w.heap.size trivial (by simp)).trans hb0
 obtain ⟨e1, e2, e3, e4⟩ := find_last hch hon
 have hnq : ¬ F.all w.heap.size := fun h => by have := hd.lt _ h; omega
 have htq : 0 < w.heap.size := World.block_lt_of_cell? w _ (hT 0 (by decide))
 refine find_any W (hT.keep hk0) w.heap.size p i n _ _ 0 0 1 hbW F s (hd.keep (hk0.mono fun _ _ _ => trivial)) hi hn hin (fun j k m x _ _ e => by have := (decL_wf e).2.1; omega) (OpenPost w p i n (ks ++ [l]) ((b0 + (ks ++ [l]).length) % n) (l.first + 212)) _ rfl (.inr ⟨e3, by omega⟩) (fun h => by omega) (fun _ W1 hk1 hb1 => ?_)
 rw [e1, e4]
 have hkS : Keeps (fun b => b ≠ w.heap.size) W1 (W1.setCell ⟨w.heap.size, 7, none⟩ (.int .i64 ((l.first : Int) + 212))) := (Keeps.refl _ W1).setCell (.inr fun hn => hn rfl) _
 have hbS : LBlk (W1.setCell ⟨w.heap.size, 7, none⟩ (.int .i64 ((l.first : Int) + 212))) w.heap.size p i n (.slice none 0 0) 0 0 (.slice none 0 0) (l.first + 212) := by
  have := block_setCell hb1 (i := 7) (.int .i64 ((l.first + 212 : Nat) : Int))
  exact this
 have hqS : w.heap.size < (W1.setCell ⟨w.heap.size, 7, none⟩ (.int .i64 ((l.first : Int) + 212))).heap.size := (Array.getElem?_eq_some_iff.1 hbS).1
 have hk01 : Kp w W1 := hk0.trans hk1
 have hkw : Kp w (W1.setCell ⟨w.heap.size, 7, none⟩ (.int .i64 ((l.first : Int) + 212))) := keeps_over hk01 hkS fun b hb => by show b ≠ w.heap.size; omega
 have hsl : l.slot = slotBack b0 n (ks ++ [l]).length 0 := by
  rw [slotBack_at hch 0 (by simp)]
  have : (ks ++ [l])[(ks ++ [l]).length - 1 - 0]'(rev_lt (by simp)) = l := by simp
  rw [this]
 have hends : ∀ sg ∈ ks ++ [l], sg.end_ ≤ l.first + 212 := fun sg hsg => by
  rcases List.mem_append.1 hsg with h | h
  ·have := (List.pairwise_append.1 hch.rise).2.2 sg h l (by simp); omega
  ·rw [List.mem_singleton.1 h]
   have := (hch.ok l (by simp)).count
   unfold Seg.end_; omega
 refine (collect_any _ (hT.keep hkw) w.heap.size p i n (l.first + 212) 0 hbS F s (hd.keep (hkw.mono fun _ _ _ => trivial)) hnq (by omega) (ks ++ [l]) b0 hch _ rfl (by simp) hon hi hn hin hf hends (by have := hf l (by simp); omega) l.slot hsl).mono ?_
 rintro e w' ⟨hv, K, d, hds, hb, hc, hk⟩
 refine ⟨hv, ?_⟩
 have hat := hc.at_ hqS hb
 rw [hds] at hat
 exact ⟨_, _, _, hat, fun b hb => by
  rcases hb with hb | hb
  ·rcases hc.new b hb with rfl | h <;> omega
  ·exact hb.elim, keeps_over hkw hk fun b hb => by show b ≠ w.heap.size; omega⟩
end Go.Proofs.YticophaepapjoaaGreatDoor
namespace Go.Proofs.YticophaepapjoaaGreatDoor
open Go Go.RowKit
theorem write_now (s : SDev) (j : Nat) (l : List UInt8) (hj : j < s.now.length) (hl : l.length = 64) (hr : ∀ r ∈ s.now, r.length = 64) (k : Nat) : (s.write j l).now.getD k [] = if k = j then l else s.now.getD k [] := by
 have ho : over l (s.now.getD j []) = l := by
  unfold over
  have h1 : (s.now.getD j []).length = 64 := by rw [getD_mem _ _ _ hj]; exact hr _ (List.getElem_mem _)
  rw [List.drop_eq_nil_of_le (by omega), List.append_nil]
 show (s.now.set j (over l (s.now.getD j []))).getD k [] = _
 rw [ho, List.getD_eq_getElem?_getD, List.getD_eq_getElem?_getD]
 by_cases h : k = j
 ·subst h
  rw [if_pos rfl, List.getElem?_set_self hj]; rfl
 ·rw [if_neg h, List.getElem?_set_ne (Ne.symm h)]
theorem write_rows (s : SDev) (j : Nat) (l : List UInt8) (hl : l.length = 64) (hr : ∀ r ∈ s.now, r.length = 64) : ∀ r ∈ (s.write j l).now, r.length = 64 := by
 intro r h
 have h : r ∈ s.now.set j (over l (s.now.getD j [])) := h
 rcases List.mem_or_eq_of_mem_set h with h | h
 ·exact hr r h
 ·rw [h]
  unfold over
  rw [List.length_append, List.length_drop]
  by_cases hj : j < s.now.length
  ·have h1 : (s.now.getD j []).length = 64 := by rw [getD_mem _ _ _ hj]; exact hr _ (List.getElem_mem _)
   omega
  ·rw [List.getD_eq_getElem?_getD, List.getElem?_eq_none (by omega)]
   simp [hl]
theorem puts_rows (s : SDev) (a nu : Nat) (x : List UInt8) (m : Nat) (hr : ∀ r ∈ s.now, r.length = 64) (hnu : nu + m ≤ 2199023255552) : ∀ r ∈ (s.puts a nu x m).now, r.length = 64 := by
 induction m with
 | zero => exact hr
 | succ m ih =>
  have hp : (piece x m).length ≤ 53 := by rw [piece_len]; unfold chLen; omega
  exact write_rows _ _ _ (encL_len _ _ (by omega) hp) (ih (by omega))
theorem puts_len (s : SDev) (a nu : Nat) (x : List UInt8) (m : Nat) : (s.puts a nu x m).now.length = s.now.length ∧ (s.puts a nu x m).calls = s.calls + m := by
 rw [← putsL_range]
 have := putsL_len s a nu x (List.range m)
 rw [List.length_range] at this
 exact this
theorem puts_now (s : SDev) (a nu : Nat) (x : List UInt8) (m : Nat) (hr : ∀ r ∈ s.now, r.length = 64) (hnu : nu + m ≤ 2199023255552) (ha : a + m ≤ s.now.length) (k : Nat) : (s.puts a nu x m).now.getD k [] = if a ≤ k ∧ k < a + m then encL (nu + (k - a)) (piece x (k - a)) else s.now.getD k [] := by
 induction m with
 | zero => rw [if_neg (by omega)]; rfl
 | succ m ih =>
  have hp : (piece x m).length ≤ 53 := by rw [piece_len]; unfold chLen; omega
  have hw := write_now (s.puts a nu x m) (a + m) (encL (nu + m) (piece x m)) (by rw [(puts_len s a nu x m).1]; omega) (encL_len _ _ (by omega) hp) (puts_rows s a nu x m hr (by omega)) k
  show ((s.puts a nu x m).write (a + m) (encL (nu + m) (piece x m))).now.getD k [] = _
  rw [hw, ih (by omega) (by omega)]
  by_cases h : k = a + m
  ·subst h
   rw [if_pos rfl, if_pos (by omega), Nat.add_sub_cancel_left]
  ·rw [if_neg h]
   by_cases h2 : a ≤ k ∧ k < a + m
   ·rw [if_pos h2, if_pos (by omega)]
   ·rw [if_neg h2, if_neg (by omega)]
theorem puts_sec (s : SDev) (p sl kk f : Nat) (x : List UInt8) (m : Nat) (hr : ∀ r ∈ s.now, r.length = 64) (hk : kk + m ≤ 8) (hf1 : 1 ≤ f) (hf : f ≤ 274877906943) (ha : p + sl * 8 + 8 ≤ s.now.length) (a b : Nat) (hb : b < 8) :
  secAt (s.puts (p + sl * 8 + kk) (f * 8 + kk) x m).now p a b = if a = sl ∧ kk ≤ b ∧ b < kk + m then some (f * 8 + b, piece x (b - kk)) else secAt s.now p a b := by
 unfold secAt
 rw [puts_now s _ _ x m hr (by omega) (by omega)]
 by_cases h : a = sl ∧ kk ≤ b ∧ b < kk + m
 ·obtain ⟨rfl, h1, h2⟩ := h
  rw [if_pos (by omega), if_pos ⟨rfl, h1, h2⟩]
  have e : p + a * 8 + b - (p + a * 8 + kk) = b - kk := by omega
  rw [e, show f * 8 + kk + (b - kk) = f * 8 + b by omega]
  exact decL_enc _ _ _ (by omega) (by omega) (by omega) (by rw [piece_len]; unfold chLen; omega)
 ·rw [if_neg (by omega), if_neg h]
theorem piece_chunk (x : List UInt8) (j : Nat) : piece x j = chunk x j := rfl
theorem SegOn.more {s : SDev} {p : Nat} {sg : Seg} (h : SegOn s.now p sg) (hok : sg.Ok) (r : LRec) (hlen : sg.text.length + (putT r.body).length ≤ 424) (hr : ∀ r ∈ s.now, r.length = 64) (hf : sg.first ≤ 274877906943) (ha : p + sg.slot * 8 + 8 ≤ s.now.length) (tl : List UInt8) (htl : tl = sg.text.drop (sg.text.length / 53 * 53)) :
  SegOn (s.puts (p + sg.slot * 8 + sg.text.length / 53) (sg.first * 8 + sg.text.length / 53) (tl ++ putT r.body) (chunks (tl ++ putT r.body).length)).now p ⟨sg.slot, sg.first, sg.recs ++ [r]⟩ := by
 have hpos := putT_pos r.body
 have htx : (⟨sg.slot, sg.first, sg.recs ++ [r]⟩ : Seg).text = sg.text ++ putT r.body := strm_snoc _ _
 have htll : tl.length = sg.text.length % 53 := by rw [htl, List.length_drop]; omega
 have hxl : (tl ++ putT r.body).length = sg.text.length % 53 + (putT r.body).length := by rw [List.length_append, htll]
 have hns : nsec (sg.text ++ putT r.body).length = sg.text.length / 53 + chunks (tl ++ putT r.body).length := by
  rw [hxl, List.length_append]; unfold nsec chunks; omega
 have hk8 : sg.text.length / 53 + chunks (tl ++ putT r.body).length ≤ 8 := by
  rw [hxl]; unfold chunks; omega
 have hsec := fun b hb => puts_sec s p sg.slot (sg.text.length / 53) sg.first (tl ++ putT r.body) (chunks (tl ++ putT r.body).length) hr hk8 hok.first hf ha sg.slot b hb
 refine ⟨fun k hk => ?_, fun k hk1 hk2 n x he => ?_⟩
 ·rw [htx] at hk ⊢
  rw [hns] at hk
  show secAt _ p sg.slot k = _
  rw [hsec k (by omega)]
  by_cases h1 : sg.text.length / 53 ≤ k
  ·rw [if_pos ⟨rfl, h1, hk⟩]
   obtain ⟨j, rfl⟩ : ∃ j, k = sg.text.length / 53 + j := ⟨k - sg.text.length / 53, by omega⟩
   rw [Nat.add_sub_cancel_left, piece_chunk, chunk_tail, htl, Nat.mul_comm (sg.text.length / 53) 53]
  ·rw [if_neg (by omega), h.has k (by unfold nsec; omega), chunk_append _ _ _ (by omega)]
 ·rw [htx] at hk1
  rw [hns] at hk1
  have he : secAt _ p sg.slot k = some (n, x) := he
  rw [hsec k hk2, if_neg (by omega)] at he
  exact h.rest k (by unfold nsec; unfold chunks at hk1; rw [hxl] at hk1; omega) hk2 n x he
theorem costs_flat (ks : List Seg) : costs (ks.flatMap Seg.recs) = (ks.map fun s => costs s.recs).sum := by
 induction ks with
 | nil => rfl
 | cons s ks ih => rw [List.flatMap_cons, costs_append, ih]; rfl
theorem pairs_sum : ∀ (c : List Nat), (∀ i (h : i + 1 < c.length), 461 ≤ c[i] + c[i + 1]) → ∀ a l, c = a :: l → 461 * l.length + a ≤ 2 * c.sum
 | [a], _, a', l, e => by
  injection e with e1 e2; subst e1 e2; simp; omega
 | a :: b :: c, h, a', l, e => by
  injection e with e1 e2; subst e1 e2
  have h1 := pairs_sum (b :: c) (fun i hi => by have := h (i + 1) (by simp at hi ⊢; omega); simpa using this) b c rfl
  have h2 := h 0 (by simp)
  simp only [List.getElem_cons_zero, List.getElem_cons_succ, List.length_cons, List.sum_cons] at h1 h2 ⊢
  omega
theorem costs_drop (l : List LRec) (i j : Nat) (h : i ≤ j) : costs (l.drop j) ≤ costs (l.drop i) := by
 have e : l.drop j = (l.drop i).drop (j - i) := by rw [List.drop_drop]; congr 1; omega
 rw [e]
 have h2 := costs_append ((l.drop i).take (j - i)) ((l.drop i).drop (j - i))
 rw [List.take_append_drop] at h2
 omega
structure LogInv (st : LSt) (ks : List Seg) (b0 : Nat) (rows : List (List UInt8)) : Prop where
 ch : Chain st.segs b0 ks
 on : OnDisk rows st.place st.segs ks
 hist : st.hist.drop st.gone = ks.flatMap Seg.recs
 keep : ks.length < st.segs → st.gone = 0
 ends : ∀ sg ∈ ks, sg.end_ ≤ st.next
 nxs : st.next ≤ 274877906943
 segs : 3 ≤ st.segs ∧ st.segs ≤ 200
 one : ∀ r ∈ st.hist, 1 ≤ r.pos ∧ 1 ≤ r.body.length ∧ r.body.length ≤ 300
 rise : st.hist.Pairwise (·.pos < ·.pos)
 gone : st.gone ≤ st.hist.length
 next : 1 ≤ st.next ∧ ∀ r ∈ st.hist, r.pos < st.next
def firstOf (next : Nat) : List Seg → Nat
 | [] => next
 | s :: _ => s.first
def Tip (ks : List Seg) (next left : Nat) (tl : List UInt8) : Prop :=
 (left = 0 ∧ tl = [] ∧ ∀ ks0 sg, ks = ks0 ++ [sg] → 461 ≤ costs sg.recs) ∨ (∃ ks0 sg, ks = ks0 ++ [sg] ∧ left = 424 - sg.text.length ∧ tl = sg.text.drop (sg.text.length / 53 * 53) ∧ next = sg.end_)
section
variable {st : LSt} {ks : List Seg} {b0 : Nat} {rows : List (List UInt8)}
theorem LogInv.kept (h : LogInv st ks b0 rows) (i : Nat) (_hi : i ≤ st.hist.length) (hc : costs (st.hist.drop i) ≤ 200 * (st.segs - 2)) : st.gone ≤ i := by
 refine Classical.byContradiction fun hn => ?_
 have h1 := costs_drop st.hist i st.gone (by omega)
 rw [h.hist, costs_flat] at h1
 have hl : ks.length = st.segs := by
  have := h.ch.len
  refine Classical.byContradiction fun hne => ?_
  have := h.keep (by omega)
  omega
 have hs := h.segs
 cases ks with
 | nil => simp at hl; omega
 | cons s ks =>
  have h2 := pairs_sum ((s :: ks).map fun s => costs s.recs) (fun j hj => by
   have hh := h.ch.cost j (by rw [List.length_map] at hj; exact hj)
   rw [List.getElem_map, List.getElem_map]
   exact hh) _ _ rfl
  rw [List.length_map] at h2
  simp only [List.length_cons] at hl
  omega
theorem LogInv.pos (h : LogInv st ks b0 rows) : ∀ r ∈ st.hist.drop st.gone, firstOf st.next ks ≤ r.pos := by
 intro r hr
 rw [h.hist] at hr
 obtain ⟨sg, hsg, hr⟩ := List.mem_flatMap.1 hr
 obtain ⟨j, hj, rfl⟩ := List.getElem_of_mem hr
 have h1 := (h.ch.ok sg hsg).pos j hj
 cases ks with
 | nil => cases hsg
 | cons s ks =>
  show s.first ≤ _
  rcases List.mem_cons.1 hsg with rfl | hsg
  ·omega
  ·have := (List.pairwise_cons.1 h.ch.rise).1 sg hsg
   unfold Seg.end_ at this
   omega
theorem LogInv.ok (h : LogInv st ks b0 rows) (hf : st.first = firstOf st.next ks) : st.Ok :=
 ⟨h.segs, h.one, h.rise, h.gone, h.kept, h.next, by rw [hf]; exact h.pos, by have := h.nxs; omega⟩
theorem LogInv.good (h : LogInv st ks b0 rows) : ∀ sg ∈ ks, Good rows st.place st.segs sg := fun sg hs =>
 ⟨h.ch.ok sg hs, h.on.on sg hs, h.ch.slot_lt sg hs, h.ch.full sg hs, by have h1 := h.ends sg hs; have h2 := h.nxs; unfold Seg.end_ at h1; omega⟩
theorem LogInv.other {rows' : List (List UInt8)} (h : LogInv st ks b0 rows) (hs : ∀ i, st.has i → rows'.getD i [] = rows.getD i []) : LogInv st ks b0 rows' :=
 { h with on := h.on.same (fun j hj => hs j hj) h.ch.slot_lt fun sg hsg => (h.ch.ok sg hsg).len }
theorem Chain.slot_next {n : Nat} (h : Chain n b0 ks) (hl : ks.length < n) : ∀ k (hk : k < ks.length), (ks[k]).slot ≠ (b0 + ks.length) % n := fun k hk e => by
 rw [h.slot k hk] at e
 have h1 := h.base
 have e1 : (b0 + k) % n = if b0 + k < n then b0 + k else b0 + k - n := by
  split
  ·exact Nat.mod_eq_of_lt (by assumption)
  ·rw [Nat.mod_eq_sub_mod (by omega), Nat.mod_eq_of_lt (by omega)]
 have e2 : (b0 + ks.length) % n = if b0 + ks.length < n then b0 + ks.length else b0 + ks.length - n := by
  split
  ·exact Nat.mod_eq_of_lt (by assumption)
  ·rw [Nat.mod_eq_sub_mod (by omega), Nat.mod_eq_of_lt (by omega)]
 rw [e1, e2] at e
 split at e <;> split at e <;> omega
theorem Chain.turn {n : Nat} (h : Chain n b0 ks) (hn : 1 ≤ n) : Turn (decide (ks.length = n)) ks ((b0 + ks.length) % n) := by
 by_cases hl : ks.length = n
 ·rw [decide_eq_true hl]
  have hb : (b0 + ks.length) % n = b0 := by rw [hl, Nat.add_mod_right]; exact Nat.mod_eq_of_lt h.base
  show 0 < ks.length ∧ _
  refine ⟨by omega, fun h0 => ?_, fun k hk h0 e => ?_⟩
  ·rw [hb, h.slot 0 h0]; exact Nat.mod_eq_of_lt h.base
  ·have e0 : (ks[0]'(by omega)).slot = b0 := by rw [h.slot 0]; exact Nat.mod_eq_of_lt h.base
   have := h.slot_inj hk (by omega) (e.trans (hb.trans e0.symm))
   omega
 ·rw [decide_eq_false hl]
  exact h.slot_next (by have := h.len; omega)
end
theorem Chain.last_ {n b0 : Nat} {ks : List Seg} {sg sg' : Seg} (h : Chain n b0 (ks ++ [sg])) (h1 : sg'.slot = sg.slot) (h2 : sg'.first = sg.first) (h3 : sg'.Ok) (h4 : sg'.recs ≠ []) (h5 : costs sg.recs ≤ costs sg'.recs) : Chain n b0 (ks ++ [sg']) := by
 have hl : (ks ++ [sg']).length = (ks ++ [sg]).length := by simp
 refine ⟨h.base, by rw [hl]; exact h.len, fun i hi => ?_, fun s hs => ?_, ?_, fun s hs => ?_, fun i hi => ?_⟩
 ·have hh := h.slot i (by rw [← hl]; exact hi)
  by_cases hk : i < ks.length
  ·rw [List.getElem_append_left hk] at hh ⊢; exact hh
  ·have : i = ks.length := by simp at hi; omega
   subst this
   rw [List.getElem_concat_length rfl] at hh ⊢
   rw [h1]; exact hh
 ·rcases List.mem_append.1 hs with hs | hs
  ·exact h.ok s (List.mem_append_left _ hs)
  ·rw [List.mem_singleton.1 hs]; exact h3
 ·have := List.pairwise_append.1 h.rise
  refine List.pairwise_append.2 ⟨this.1, by simp, fun a ha b hb => ?_⟩
  rw [List.mem_singleton.1 hb, h2]
  exact this.2.2 a ha sg (by simp)
 ·rcases List.mem_append.1 hs with hs | hs
  ·exact h.full s (List.mem_append_left _ hs)
  ·rw [List.mem_singleton.1 hs]; exact h4
 ·have hh := h.cost i (by rw [← hl]; exact hi)
  have hk : i < ks.length := by simp at hi; omega
  rw [List.getElem_append_left hk] at hh ⊢
  by_cases hk2 : i + 1 < ks.length
  ·rw [List.getElem_append_left hk2] at hh ⊢; exact hh
  ·have : i + 1 = ks.length := by omega
   have e1 : (ks ++ [sg])[i + 1]'(by simp; omega) = sg := by simp [this]
   have e2 : (ks ++ [sg'])[i + 1]'hi = sg' := by simp [this]
   rw [e1] at hh
   rw [e2]; omega
theorem Chain.other_slot {n b0 : Nat} {ks : List Seg} {sg : Seg} (h : Chain n b0 (ks ++ [sg])) : ∀ s ∈ ks, s.slot ≠ sg.slot := fun s hs e => by
 obtain ⟨j, hj, rfl⟩ := List.getElem_of_mem hs
 have := h.slot_inj (i := j) (j := ks.length) (by simp; omega) (by simp) (by rw [List.getElem_append_left hj, List.getElem_concat_length rfl]; exact e)
 omega
theorem Seg.Ok.more {sg : Seg} (h : sg.Ok) (r : LRec) (hr1 : 1 ≤ r.body.length) (hr2 : r.body.length ≤ 300) (hp : r.pos = sg.end_) (hlen : sg.text.length + (putT r.body).length ≤ 424) : (⟨sg.slot, sg.first, sg.recs ++ [r]⟩ : Seg).Ok := by
 refine ⟨?_, fun x hx => ?_, fun i hi => ?_, h.first⟩
 ·show (strm (sg.recs ++ [r])).length ≤ 424
  rw [strm_snoc, List.length_append]; exact hlen
 ·rcases List.mem_append.1 hx with hx | hx
  ·exact h.one x hx
  ·rw [List.mem_singleton.1 hx]; exact ⟨hr1, hr2⟩
 ·show ((sg.recs ++ [r])[i]).pos = sg.first + i
  by_cases hk : i < sg.recs.length
  ·rw [List.getElem_append_left hk]; exact h.pos i hk
  ·have : i = sg.recs.length := by simp at hi; omega
   subst this
   rw [List.getElem_concat_length rfl, hp]; rfl
theorem drop_snoc {α : Type} (l : List α) (r : α) (g : Nat) (h : g ≤ l.length) : (l ++ [r]).drop g = l.drop g ++ [r] := List.drop_append_of_le_length h
theorem LogInv.more {st : LSt} {ks : List Seg} {sg : Seg} {b0 : Nat} {s : SDev} (h : LogInv st (ks ++ [sg]) b0 s.now) (hnx : st.next = sg.end_) (l : List UInt8) (h1 : 1 ≤ l.length) (h300 : l.length ≤ 300) (hlen : sg.text.length + (putT l).length ≤ 424) (hr : ∀ r ∈ s.now, r.length = 64) (hin : st.place + 8 * st.segs ≤ s.now.length)
  (hb : st.next + 1 ≤ 274877906943) (tl : List UInt8) (htl : tl = sg.text.drop (sg.text.length / 53 * 53)) (f : Nat) :
  LogInv ⟨st.dev, st.place, st.segs, st.hist ++ [⟨st.next, l, 0⟩], st.gone, f, st.next + 1⟩ (ks ++ [⟨sg.slot, sg.first, sg.recs ++ [⟨st.next, l, 0⟩]⟩]) b0 (s.puts (st.place + sg.slot * 8 + sg.text.length / 53) (sg.first * 8 + sg.text.length / 53) (tl ++ putT l) (chunks (tl ++ putT l).length)).now := by
 have hsg := h.ch.ok sg (by simp)
 have hslot := h.ch.slot_lt sg (by simp)
 have hend := h.ends sg (by simp)
 have hnxs := h.nxs
 have hf : sg.first ≤ 274877906943 := by unfold Seg.end_ at hend; omega
 have hpos := putT_pos l
 have htll : tl.length = sg.text.length % 53 := by rw [htl, List.length_drop]; omega
 have hk8 : sg.text.length / 53 + chunks (tl ++ putT l).length ≤ 8 := by
  rw [List.length_append, htll]; unfold chunks; omega
 have hok := hsg.more ⟨st.next, l, 0⟩ h1 h300 hnx hlen
 have hsec := fun a b (hb : b < 8) => puts_sec s st.place sg.slot (sg.text.length / 53) sg.first (tl ++ putT l) (chunks (tl ++ putT l).length) hr hk8 hsg.first hf (by omega) a b hb
 have hsame : ∀ a b, b < 8 → a ≠ sg.slot → secAt (s.puts (st.place + sg.slot * 8 + sg.text.length / 53) (sg.first * 8 + sg.text.length / 53) (tl ++ putT l) (chunks (tl ++ putT l).length)).now st.place a b = secAt s.now st.place a b := fun a b hb8 hne => by
  rw [hsec a b hb8, if_neg (fun hh => hne hh.1)]
 have hsl := h.ch.other_slot
 refine ⟨h.ch.last_ rfl rfl hok (by simp) (by rw [costs_append]; omega), ⟨fun x hx => ?_, fun i hi hno k hk => ?_⟩, ?_, fun hl => h.keep (by simpa using hl), fun x hx => ?_, hb, h.segs, fun r hr => ?_, ?_, by simp; have := h.gone; omega, ⟨by show 1 ≤ st.next + 1; omega, fun r hr => ?_⟩⟩
 ·rcases List.mem_append.1 hx with hx | hx
  ·have hx0 := h.on.on x (List.mem_append_left _ hx)
   have hlen8 := nsec_le _ (h.ch.ok x (List.mem_append_left _ hx)).len
   exact ⟨fun k hk => by show secAt _ st.place x.slot k = _; rw [hsame _ _ (by omega) (hsl x hx)]; exact hx0.has k hk, fun k h1 h2 m y e => hx0.rest k h1 h2 m y (by rw [← hsame _ _ h2 (hsl x hx)]; exact e)⟩
  ·rw [List.mem_singleton.1 hx]
   exact (h.on.on sg (by simp)).more hsg ⟨st.next, l, 0⟩ hlen hr hf (by omega) tl htl
 ·have hne : i ≠ sg.slot := fun e => hno ⟨sg.slot, sg.first, sg.recs ++ [⟨st.next, l, 0⟩]⟩ (by simp) e.symm
  show secAt _ st.place i k = none
  rw [hsame i k hk hne]
  exact h.on.none i hi (fun x hx e => by
   rcases List.mem_append.1 hx with hx | hx
   ·exact hno x (List.mem_append_left _ hx) e
   ·rw [List.mem_singleton.1 hx] at e; exact hne e.symm) k hk
 ·show (st.hist ++ [_]).drop st.gone = _
  rw [drop_snoc _ _ _ h.gone, h.hist]
  simp
 ·show x.end_ ≤ st.next + 1
  rcases List.mem_append.1 hx with hx | hx
  ·have := h.ends x (List.mem_append_left _ hx); omega
  ·rw [List.mem_singleton.1 hx]
   unfold Seg.end_ at hnx ⊢
   simp only [List.length_append, List.length_singleton]
   omega
 ·rcases List.mem_append.1 hr with hr | hr
  ·exact h.one r hr
  ·rw [List.mem_singleton.1 hr]; exact ⟨h.next.1, h1, h300⟩
 ·refine List.pairwise_append.2 ⟨h.rise, by simp, fun a ha b hb => ?_⟩
  rw [List.mem_singleton.1 hb]
  exact h.next.2 a ha
 ·show r.pos < st.next + 1
  rcases List.mem_append.1 hr with hr | hr
  ·have := h.next.2 r hr; omega
  ·rw [List.mem_singleton.1 hr]; show st.next < st.next + 1; omega
theorem goes_mem {full : Bool} {ks : List Seg} {s : Seg} (h : s ∈ goes full ks) : s ∈ ks := by
 cases full
 ·exact h
 ·exact List.mem_of_mem_tail h
def gonesN (full : Bool) : List Seg → Nat
 | [] => 0
 | s :: _ => if full then s.recs.length else 0
theorem goes_drop (full : Bool) (ks : List Seg) : (ks.flatMap Seg.recs).drop (gonesN full ks) = (goes full ks).flatMap Seg.recs := by
 cases ks with
 | nil => cases full <;> rfl
 | cons s ks =>
  cases full
  ·simp [gonesN, goes]
  ·simp [gonesN, goes]
def baseN (full : Bool) (b0 n : Nat) : Nat := if full then (b0 + 1) % n else b0
theorem Chain.fresh {n b0 : Nat} {ks : List Seg} (h : Chain n b0 ks) (_hn : 1 ≤ n) (sg : Seg) (hs : sg.slot = (b0 + ks.length) % n) (hok : sg.Ok) (hfu : sg.recs ≠ []) (hr : ∀ s ∈ ks, s.end_ ≤ sg.first) (hc : ∀ ks0 l, ks = ks0 ++ [l] → 461 ≤ costs l.recs + costs sg.recs) (h3 : 3 ≤ n) :
  Chain n (baseN (decide (ks.length = n)) b0 n) (goes (decide (ks.length = n)) ks ++ [sg]) := by
 have hb := h.base
 have hlen := h.len
 have hg : (goes (decide (ks.length = n)) ks).length < n ∧ ∀ j (hj : j < (goes (decide (ks.length = n)) ks).length), ∃ (h' : j + (ks.length - (goes (decide (ks.length = n)) ks).length) < ks.length), (goes (decide (ks.length = n)) ks)[j] = ks[j + (ks.length - (goes (decide (ks.length = n)) ks).length)] := by
  by_cases hl : ks.length = n
  ·rw [decide_eq_true hl]
   show ks.tail.length < n ∧ ∀ j (hj : j < ks.tail.length), ∃ (h' : j + (ks.length - ks.tail.length) < ks.length), ks.tail[j] = ks[j + (ks.length - ks.tail.length)]
   have ht : ks.tail.length = ks.length - 1 := List.length_tail
   refine ⟨by omega, fun j hj => ⟨by omega, ?_⟩⟩
   have e : ks.length - ks.tail.length = 1 := by omega
   simp only [e, List.getElem_tail]
  ·rw [decide_eq_false hl]
   exact ⟨by show ks.length < n; omega, fun j hj => ⟨by show j + (ks.length - ks.length) < _; have hj : j < ks.length := hj; omega, by
    show ks[j] = ks[j + (ks.length - ks.length)]'_
    simp
    rfl⟩⟩
 have hlg : ks.length - (goes (decide (ks.length = n)) ks).length = if ks.length = n then 1 else 0 := by
  by_cases hl : ks.length = n
  ·rw [decide_eq_true hl, if_pos hl]
   show ks.length - ks.tail.length = 1
   rw [List.length_tail]; omega
  ·rw [decide_eq_false hl, if_neg hl]; show ks.length - ks.length = 0; omega
 have hslot : ∀ j, (baseN (decide (ks.length = n)) b0 n + j) % n = (b0 + (j + (ks.length - (goes (decide (ks.length = n)) ks).length))) % n := fun j => by
  rw [hlg]
  unfold baseN
  by_cases hl : ks.length = n
  ·rw [if_pos hl, if_pos (decide_eq_true hl), Nat.mod_add_mod]; congr 1; omega
  ·rw [if_neg hl, if_neg (by simp [hl])]; congr 1
 have hgl : (goes (decide (ks.length = n)) ks).length ≤ ks.length := by
  by_cases hl : ks.length = n
  ·rw [decide_eq_true hl]; show ks.tail.length ≤ _; rw [List.length_tail]; omega
  ·rw [decide_eq_false hl]; exact Nat.le_refl _
 refine ⟨?_, by rw [List.length_append, List.length_singleton]; exact hg.1, fun i hi => ?_, fun s hs => ?_, ?_, fun s hs => ?_, fun i hi => ?_⟩
 ·unfold baseN; split
  ·exact Nat.mod_lt _ (by omega)
  ·exact hb
 ·rw [hslot]
  by_cases hk : i < (goes (decide (ks.length = n)) ks).length
  ·rw [List.getElem_append_left hk]
   obtain ⟨h', e⟩ := hg.2 i hk
   rw [e]; exact h.slot _ h'
  ·have : i = (goes (decide (ks.length = n)) ks).length := by simp at hi; omega
   subst this
   rw [List.getElem_concat_length rfl, hs]
   congr 1; omega
 ·rcases List.mem_append.1 hs with hs | hs
  ·exact h.ok s (goes_mem hs)
  ·rw [List.mem_singleton.1 hs]; exact hok
 ·refine List.pairwise_append.2 ⟨?_, by simp, fun a ha b hb => ?_⟩
  ·by_cases hl : ks.length = n
   ·rw [decide_eq_true hl]; exact h.rise.sublist (List.tail_sublist ks)
   ·rw [decide_eq_false hl]; exact h.rise
  ·rw [List.mem_singleton.1 hb]; exact hr a (goes_mem ha)
 ·rcases List.mem_append.1 hs with hs | hs
  ·exact h.full s (goes_mem hs)
  ·rw [List.mem_singleton.1 hs]; exact hfu
 ·have hk : i < (goes (decide (ks.length = n)) ks).length := by simp at hi; omega
  obtain ⟨h', e⟩ := hg.2 i hk
  rw [List.getElem_append_left hk, e]
  by_cases hk2 : i + 1 < (goes (decide (ks.length = n)) ks).length
  ·obtain ⟨h2, e2⟩ := hg.2 (i + 1) hk2
   rw [List.getElem_append_left hk2, e2]
   have := h.cost (i + (ks.length - (goes (decide (ks.length = n)) ks).length)) (by omega)
   have e3 : i + 1 + (ks.length - (goes (decide (ks.length = n)) ks).length) = i + (ks.length - (goes (decide (ks.length = n)) ks).length) + 1 := by omega
   simp only [e3]; exact this
  ·have hi1 : i + 1 = (goes (decide (ks.length = n)) ks).length := by omega
   have e2 : (goes (decide (ks.length = n)) ks ++ [sg])[i + 1]'hi = sg := by simp [hi1]
   rw [e2]
   have hlast : i + (ks.length - (goes (decide (ks.length = n)) ks).length) = ks.length - 1 := by omega
   have hne : ks ≠ [] := fun e => by rw [e] at h'; cases h'
   have hcc := hc ks.dropLast (ks.getLast hne) (List.dropLast_concat_getLast hne).symm
   rw [List.getLast_eq_getElem] at hcc
   simp only [hlast]; exact hcc
theorem flush_now (s : SDev) : s.flush.now = s.now := rfl
theorem fresh_sec (s : SDev) (p sl nx : Nat) (x : List UInt8) (hx : 1 ≤ x.length) (hx2 : x.length ≤ 424) (hr : ∀ r ∈ s.now, r.length = 64) (hn1 : 1 ≤ nx) (hn : nx ≤ 274877906943) (ha : p + sl * 8 + 8 ≤ s.now.length) (a b : Nat) (hb : b < 8) :
  secAt ((((s.write (p + sl * 8) (encL (nx * 8) [])).flush).puts (p + sl * 8 + 0) (nx * 8 + 0) x (chunks x.length)).now) p a b = if a = sl ∧ b < chunks x.length then some (nx * 8 + b, chunk x b) else secAt s.now p a b := by
 have hc1 : 1 ≤ chunks x.length ∧ chunks x.length ≤ 8 := by unfold chunks; omega
 have hr2 := write_rows s (p + sl * 8) (encL (nx * 8) []) (encL_len _ _ (by omega) (by simp)) hr
 have hl2 : (s.write (p + sl * 8) (encL (nx * 8) [])).flush.now.length = s.now.length := by rw [flush_now]; simp [SDev.write]
 rw [puts_sec ((s.write (p + sl * 8) (encL (nx * 8) [])).flush) p sl 0 nx x (chunks x.length) hr2 (by omega) hn1 hn (by rw [hl2]; exact ha) a b hb]
 by_cases h : a = sl ∧ b < chunks x.length
 ·rw [if_pos ⟨h.1, by omega, by omega⟩, if_pos h, Nat.sub_zero]; rfl
 ·rw [if_neg (by omega), if_neg h]
  unfold secAt
  rw [flush_now, write_now s _ _ (by omega) (encL_len _ _ (by omega) (by simp)) hr, if_neg]
  intro e
  exact h ⟨by omega, by omega⟩
theorem LogInv.fresh {st : LSt} {ks : List Seg} {b0 : Nat} {s : SDev} (h : LogInv st ks b0 s.now) (l : List UInt8) (h1 : 1 ≤ l.length) (h300 : l.length ≤ 300) (hr : ∀ r ∈ s.now, r.length = 64) (hin : st.place + 8 * st.segs ≤ s.now.length) (hb : st.next + 1 ≤ 274877906943)
  (hcost : ∀ ks0 sg, ks = ks0 ++ [sg] → 461 ≤ costs sg.recs + costs [⟨st.next, l, 0⟩]) (f : Nat) :
  LogInv ⟨st.dev, st.place, st.segs, st.hist ++ [⟨st.next, l, 0⟩], st.gone + gonesN (decide (ks.length = st.segs)) ks, f, st.next + 1⟩ (goes (decide (ks.length = st.segs)) ks ++ [⟨(b0 + ks.length) % st.segs, st.next, [⟨st.next, l, 0⟩]⟩]) (baseN (decide (ks.length = st.segs)) b0 st.segs)
   ((((s.write (st.place + (b0 + ks.length) % st.segs * 8) (encL (st.next * 8) [])).flush).puts (st.place + (b0 + ks.length) % st.segs * 8 + 0) (st.next * 8 + 0) (putT l) (chunks (putT l).length)).now) := by
 have hs := h.segs
 have hslt : (b0 + ks.length) % st.segs < st.segs := Nat.mod_lt _ (by omega)
 have hpm := putT_most l h300
 have hpos := putT_pos l
 have hn1 := h.next.1
 have hsec := fun a b (hb8 : b < 8) => fresh_sec s st.place ((b0 + ks.length) % st.segs) st.next (putT l) (by omega) (by omega) hr hn1 h.nxs (by omega) a b hb8
 have hturn := h.ch.turn (by omega)
 have hstx : strm [(⟨st.next, l, 0⟩ : LRec)] = putT l := by simp [strm]
 have hok : (⟨(b0 + ks.length) % st.segs, st.next, [⟨st.next, l, 0⟩]⟩ : Seg).Ok := by
  refine ⟨?_, fun x hx => ?_, fun i hi => ?_, hn1⟩
  ·show (strm _).length ≤ 424
   rw [hstx]; omega
  ·rw [List.mem_singleton.1 hx]; exact ⟨h1, h300⟩
  ·have hi0 : i = 0 := by simpa using hi
   subst hi0; rfl
 have hoth : ∀ x ∈ goes (decide (ks.length = st.segs)) ks, x.slot ≠ (b0 + ks.length) % st.segs := fun x hx => by
  by_cases hl : ks.length = st.segs
  ·rw [decide_eq_true hl] at hx hturn
   have hx : x ∈ ks.tail := hx
   obtain ⟨j, hj, rfl⟩ := List.getElem_of_mem hx
   rw [List.getElem_tail]
   exact hturn.2.2 (j + 1) (by rw [List.length_tail] at hj; omega) (by omega)
  ·rw [decide_eq_false hl] at hx hturn
   have hx : x ∈ ks := hx
   obtain ⟨j, hj, rfl⟩ := List.getElem_of_mem hx
   exact hturn j hj
 have hgone : st.gone + gonesN (decide (ks.length = st.segs)) ks ≤ st.hist.length := by
  have h2 := congrArg List.length h.hist
  rw [List.length_drop] at h2
  have h3 : gonesN (decide (ks.length = st.segs)) ks ≤ (ks.flatMap Seg.recs).length := by
   cases ks with
   | nil => exact Nat.zero_le _
   | cons x ks =>
    show (if decide ((x :: ks).length = st.segs) = true then x.recs.length else 0) ≤ _
    rw [List.flatMap_cons, List.length_append]
    split <;> omega
  have := h.gone
  omega
 refine ⟨h.ch.fresh (by omega) _ rfl hok (by simp) (fun x hx => h.ends x hx) hcost (by omega), ⟨fun x hx => ?_, fun i hi hno k hk => ?_⟩, ?_, fun hl => ?_, fun x hx => ?_, hb, h.segs, fun r hr => ?_, ?_, by simp; omega, ⟨by show 1 ≤ st.next + 1; omega, fun r hr => ?_⟩⟩
 ·rcases List.mem_append.1 hx with hx | hx
  ·have hx0 := h.on.on x (goes_mem hx)
   have hne := hoth x hx
   have hlen8 := nsec_le _ (h.ch.ok x (goes_mem hx)).len
   exact ⟨fun k hk => by show secAt _ st.place x.slot k = _; rw [hsec _ _ (by omega), if_neg fun hh => hne hh.1]; exact hx0.has k hk, fun k h1 h2 m y e => hx0.rest k h1 h2 m y (by have e : secAt _ st.place x.slot k = some (m, y) := e; rw [hsec _ _ h2, if_neg fun hh => hne hh.1] at e; exact e)⟩
  ·rw [List.mem_singleton.1 hx]
   have htx : (⟨(b0 + ks.length) % st.segs, st.next, [⟨st.next, l, 0⟩]⟩ : Seg).text = putT l := hstx
   have hns : nsec (putT l).length = chunks (putT l).length := by unfold nsec chunks; omega
   refine ⟨fun k hk => ?_, fun k hk1 hk2 m y e => ?_⟩
   ·rw [htx, hns] at hk
    rw [htx]
    show secAt _ st.place ((b0 + ks.length) % st.segs) k = _
    rw [hsec _ _ (by unfold chunks at hk; omega), if_pos ⟨rfl, hk⟩]
   ·rw [htx, hns] at hk1
    have e : secAt _ st.place ((b0 + ks.length) % st.segs) k = some (m, y) := e
    rw [hsec _ _ hk2, if_neg (by omega)] at e
    show m < st.next * 8
    by_cases hl : ks.length = st.segs
    ·rw [decide_eq_true hl] at hturn
     have h0 := hturn.1
     have hm0 : ks[0] ∈ ks := List.getElem_mem _
     have hsl0 := hturn.2.1 h0
     have hon0 := h.on.on _ hm0
     have hend0 := h.ends _ hm0
     have hful := List.length_pos_iff.2 (h.ch.full _ hm0)
     unfold Seg.end_ at hend0
     by_cases hk3 : k < nsec (ks[0]).text.length
     ·have h4 := hon0.has k hk3
      rw [hsl0, e] at h4
      injection h4 with h4
      injection h4 with h4 _
      omega
     ·have h4 := hon0.rest k (by omega) hk2 m y (by rw [hsl0]; exact e)
      omega
    ·rw [decide_eq_false hl] at hturn
     have := h.on.none _ hslt (fun x hx => by
      obtain ⟨j, hj, rfl⟩ := List.getElem_of_mem hx
      exact hturn j hj) k hk2
     rw [this] at e; cases e
 ·have hne : i ≠ (b0 + ks.length) % st.segs := fun e => hno ⟨(b0 + ks.length) % st.segs, st.next, [⟨st.next, l, 0⟩]⟩ (by simp) e.symm
  show secAt _ st.place i k = none
  rw [hsec i k hk, if_neg fun hh => hne hh.1]
  refine h.on.none i hi (fun x hx e => ?_) k hk
  by_cases hl : ks.length = st.segs
  ·have hxt : x ∈ ks.tail := by
    cases ks with
    | nil => cases hx
    | cons y ks =>
     rcases List.mem_cons.1 hx with rfl | hx
     ·rw [decide_eq_true hl] at hturn
      exact absurd (e.symm.trans (hturn.2.1 hturn.1)) hne
     ·exact hx
   exact hno x (List.mem_append_left _ (by rw [decide_eq_true hl]; exact hxt)) e
  ·exact hno x (List.mem_append_left _ (by rw [decide_eq_false hl]; exact hx)) e
 ·show (st.hist ++ [_]).drop _ = _
  rw [drop_snoc _ _ _ hgone, ← List.drop_drop, h.hist, goes_drop]
  simp
 ·show st.gone + gonesN (decide (ks.length = st.segs)) ks = 0
  have hle := h.ch.len
  by_cases hl' : ks.length = st.segs
  ·rw [decide_eq_true hl'] at hl
   have hl : (ks.tail ++ [_]).length < st.segs := hl
   rw [List.length_append, List.length_tail, List.length_singleton] at hl
   omega
  ·rw [decide_eq_false hl', h.keep (by omega)]
   cases ks <;> rfl
 ·show x.end_ ≤ st.next + 1
  rcases List.mem_append.1 hx with hx | hx
  ·have := h.ends x (goes_mem hx); omega
  ·rw [List.mem_singleton.1 hx]; exact Nat.le_refl _
 ·rcases List.mem_append.1 hr with hr | hr
  ·exact h.one r hr
  ·rw [List.mem_singleton.1 hr]; exact ⟨h.next.1, h1, h300⟩
 ·refine List.pairwise_append.2 ⟨h.rise, by simp, fun a ha b hb => ?_⟩
  rw [List.mem_singleton.1 hb]
  exact h.next.2 a ha
 ·show r.pos < st.next + 1
  rcases List.mem_append.1 hr with hr | hr
  ·have := h.next.2 r hr; omega
  ·rw [List.mem_singleton.1 hr]; show st.next < st.next + 1; omega
theorem openedL (l : List LRec) (r : LRec) : opened (l ++ [r]) = l ++ [⟨r.pos, r.body, r.opens + 1⟩] := by
 induction l with
 | nil => rfl
 | cons x l ih =>
  cases l with
  | nil => rfl
  | cons y l =>
   show x :: opened (y :: (l ++ [r])) = _
   rw [show y :: (l ++ [r]) = (y :: l) ++ [r] from rfl, ih]; rfl
theorem snoc_of {α : Type} (l : List α) (h : l ≠ []) : ∃ a b, l = a ++ [b] := ⟨l.dropLast, l.getLast h, (List.dropLast_concat_getLast h).symm⟩
theorem LogInv.openedI {st : LSt} {ks : List Seg} {l : Seg} {b0 : Nat} {rows : List (List UInt8)} (h : LogInv st (ks ++ [l]) b0 rows) (f : Nat) (hx : l.first + 212 ≤ 274877906943) :
  LogInv ⟨st.dev, st.place, st.segs, opened st.hist, st.gone, f, l.first + 212⟩ (ks ++ [⟨l.slot, l.first, opened l.recs⟩]) b0 rows ∧ 461 ≤ costs (opened l.recs) := by
 have hl := h.ch.ok l (by simp)
 have hne := h.ch.full l (by simp)
 obtain ⟨rs, r, hrs⟩ := snoc_of l.recs hne
 have ho : opened l.recs = rs ++ [⟨r.pos, r.body, r.opens + 1⟩] := by rw [hrs, openedL]
 have htx : strm (opened l.recs) = l.text := by rw [ho]; unfold Seg.text; rw [hrs, strm_snoc, strm_snoc]
 have hcnt := hl.count
 have hr1 := hl.one r (by rw [hrs]; simp)
 have hcost : costs l.recs + 400 = costs (opened l.recs) ∧ 461 ≤ costs (opened l.recs) := by
  rw [ho, hrs, costs_append, costs_append]
  simp only [costs, List.map_cons, List.map_nil, List.sum_cons, List.sum_nil, LRec.cost]
  omega
 have hlen : (opened l.recs).length = l.recs.length := by rw [ho, hrs]; simp
 have hok : (⟨l.slot, l.first, opened l.recs⟩ : Seg).Ok := by
  refine ⟨?_, fun x hx => ?_, fun i hi => ?_, hl.first⟩
  ·show (strm _).length ≤ 424; rw [htx]; exact hl.len
  ·have hx : x ∈ opened l.recs := hx
   rw [ho] at hx
   rcases List.mem_append.1 hx with hx | hx
   ·exact hl.one x (by rw [hrs]; exact List.mem_append_left _ hx)
   ·rw [List.mem_singleton.1 hx]; exact hr1
  ·have hi : i < (opened l.recs).length := hi
   have hp := hl.pos i (by rw [← hlen]; exact hi)
   have hp2 : (l.recs[i]'(by rw [← hlen]; exact hi)).pos = ((rs ++ [r])[i]'(by rw [hlen, hrs] at hi; exact hi)).pos := by simp only [hrs]
   show ((opened l.recs)[i]).pos = l.first + i
   rw [← hp, hp2]
   simp only [ho]
   by_cases hk : i < rs.length
   ·rw [List.getElem_append_left hk, List.getElem_append_left hk]
   ·have : i = rs.length := by rw [ho] at hi; simp at hi; omega
    subst this
    rw [List.getElem_concat_length rfl, List.getElem_concat_length rfl]
 have hh := h.hist
 rw [List.flatMap_append, List.flatMap_cons, List.flatMap_nil, List.append_nil, hrs, ← List.append_assoc] at hh
 have hg : st.gone < st.hist.length := by
  refine Classical.byContradiction fun hn => ?_
  rw [List.drop_eq_nil_of_le (by omega)] at hh
  have := congrArg List.length hh
  simp at this
 have hhist : st.hist = st.hist.take st.gone ++ (ks.flatMap Seg.recs ++ rs) ++ [r] := by
  conv => lhs; rw [← List.take_append_drop st.gone st.hist]
  rw [hh]; simp
 have hop : opened st.hist = st.hist.take st.gone ++ (ks.flatMap Seg.recs ++ rs) ++ [⟨r.pos, r.body, r.opens + 1⟩] := by
  conv => lhs; rw [hhist]
  rw [openedL]
 have hmem : ∀ x ∈ opened st.hist, ∃ y ∈ st.hist, y.pos = x.pos ∧ y.body = x.body := fun x hx => by
  rw [hop] at hx
  rcases List.mem_append.1 hx with hx | hx
  ·exact ⟨x, by rw [hhist]; exact List.mem_append_left _ hx, rfl, rfl⟩
  ·rw [List.mem_singleton.1 hx]
   exact ⟨r, by rw [hhist]; simp, rfl, rfl⟩
 have hend : l.end_ ≤ l.first + 212 := by unfold Seg.end_; omega
 have hposr : r.pos < l.end_ := by
  have := hl.pos rs.length (by rw [hrs]; simp)
  have e : (l.recs[rs.length]'(by rw [hrs]; simp)) = r := by simp only [hrs]; rw [List.getElem_concat_length rfl]
  rw [e] at this
  unfold Seg.end_
  rw [hrs]; simp; omega
 refine ⟨⟨h.ch.last_ rfl rfl hok (by rw [ho]; simp) (by show costs l.recs ≤ costs (opened l.recs); omega), ⟨fun s hs => ?_, fun i hi hno => ?_⟩, ?_, fun hlt => h.keep (by simpa using hlt), fun s hs => ?_, hx, h.segs, fun x hx => ?_, ?_, ?_, ⟨by show 1 ≤ l.first + 212; omega, fun x hx => ?_⟩⟩, hcost.2⟩
 ·rcases List.mem_append.1 hs with hs | hs
  ·exact h.on.on s (List.mem_append_left _ hs)
  ·rw [List.mem_singleton.1 hs]
   have h0 := h.on.on l (by simp)
   exact ⟨fun k hk => by
    have e : (⟨l.slot, l.first, opened l.recs⟩ : Seg).text = l.text := htx
    rw [e] at hk ⊢
    exact h0.has k hk, fun k h1 h2 n x e2 => by
    have e : (⟨l.slot, l.first, opened l.recs⟩ : Seg).text = l.text := htx
    rw [e] at h1
    exact h0.rest k h1 h2 n x e2⟩
 ·exact h.on.none i hi fun s hs e => by
   rcases List.mem_append.1 hs with hs | hs
   ·exact hno s (List.mem_append_left _ hs) e
   ·rw [List.mem_singleton.1 hs] at e
    exact hno ⟨l.slot, l.first, opened l.recs⟩ (by simp) e
 ·show (opened st.hist).drop st.gone = _
  rw [hop, List.append_assoc, List.drop_append_of_le_length (by rw [List.length_take]; omega), List.drop_eq_nil_of_le (by rw [List.length_take]; omega)]
  simp [ho]
 ·show s.end_ ≤ l.first + 212
  rcases List.mem_append.1 hs with hs | hs
  ·have := (List.pairwise_append.1 h.ch.rise).2.2 s hs l (by simp); omega
  ·rw [List.mem_singleton.1 hs]
   show l.first + (opened l.recs).length ≤ _
   rw [hlen]; exact hend
 ·obtain ⟨y, hy, e1, e2⟩ := hmem x hx
  have := h.one y hy
  rw [e1, e2] at this; exact this
 ·show (opened st.hist).Pairwise (·.pos < ·.pos)
  rw [hop]
  have hr := h.rise
  rw [hhist] at hr
  have hr := List.pairwise_append.1 hr
  exact List.pairwise_append.2 ⟨hr.1, by simp, fun a ha b hb => by
   rw [List.mem_singleton.1 hb]
   exact hr.2.2 a ha r (by simp)⟩
 ·show st.gone ≤ (opened st.hist).length
  rw [hop]
  have e := congrArg List.length hhist
  simp only [List.length_append, List.length_singleton] at e ⊢
  omega
 ·show x.pos < l.first + 212
  rw [hop] at hx
  have hrise := h.rise
  rw [hhist] at hrise
  rcases List.mem_append.1 hx with hx | hx
  ·have := (List.pairwise_append.1 hrise).2.2 x hx r (by simp); omega
  ·rw [List.mem_singleton.1 hx]; show r.pos < _; omega
end Go.Proofs.YticophaepapjoaaGreatDoor
namespace Go.Proofs.YticophaepapjoaaGreatDoor
open Go Go.RowKit Go.Joins
def slogRep (w : World) (q : Nat) (Fs : Foot) (st : LSt) (s : SDev) : Prop :=
 ∃ (ks : List Seg) (b0 left : Nat) (tl : List UInt8) (K T : Value) (Es : List Value), LogAt w q Fs st.dev st.place st.segs ks ((b0 + ks.length) % st.segs) left st.next tl K T Es ∧ LogInv st ks b0 s.now ∧ Tip ks st.next left tl ∧ st.first = firstOf st.next ks
def slogDisk (st : LSt) (rows : List (List UInt8)) : Prop := ∃ ks b0, LogInv st ks b0 rows
def RecsD (w : World) (A : Option Addr) (G : Nat → Prop) (l : List (Nat × List UInt8)) : Prop :=
 l ≠ [] → ∃ b o, A = some ⟨b, o, none⟩ ∧ G b ∧ ∀ i (hi : i < l.length), w.cell? ⟨b, o + i * 2, none⟩ = some (.int .i64 ((l[i].1 : Nat) : Int)) ∧
  ∃ B c, w.cell? ⟨b, o + i * 2 + 1, none⟩ = some (.slice B l[i].2.length c) ∧ l[i].2.length ≤ c ∧ c ≤ maxLen ∧ Row w B G (bcells l[i].2)
theorem recs_c {w w' : World} {v : Value} {l : List (Nat × List UInt8)} (h : RecRow w' w.heap.size v l) : ∃ A c, v = .slice A l.length c ∧ l.length ≤ c ∧ c ≤ maxLen ∧ RecsD w' A (fun b => w.heap.size ≤ b ∧ b < w'.heap.size) l := by
 obtain ⟨vs, h1, h2, h3⟩ := h.ex
 obtain ⟨A, c, e⟩ := own_form h2
 subst e
 have hf : l.length ≤ c ∧ c ≤ maxLen := by
  rcases h2.2 with ⟨h', h0⟩ | ⟨g', cap', cur, h', _, _, h1, h2, _⟩
  ·injection h' with ha hb hc
   rw [hb, hc]
   exact ⟨Nat.le_refl _, Nat.zero_le _⟩
  ·injection h' with ha hb hc
   rw [hc]
   exact ⟨h1, h2⟩
 refine ⟨A, c, rfl, hf.1, hf.2, fun hne => ?_⟩
 obtain ⟨g, c', e, hb, hlt⟩ := h2.form (List.length_pos_iff.2 hne)
 injection e with e1 e2 e3
 subst e1
 refine ⟨g, 0, rfl, ⟨hb, hlt⟩, fun i hi => ?_⟩
 have hc := recC_at l vs h1 i hi
 obtain ⟨B, d, e, hr⟩ := h3 i hi
 have c0 := h2.cells (g := g) rfl _ _ hc.1
 have c1 := h2.cells (g := g) rfl (i * 2 + 1) _ (hc.2.trans e)
 rw [WideShapes.add_plain, Nat.zero_add] at c0 c1
 have hfit := hr.fit
 rw [bcells_len] at hfit
 exact ⟨by rw [Nat.zero_add]; exact c0, B, d, by rw [Nat.zero_add]; exact c1, hfit.1, hfit.2, hr.r.mono fun b hb' hb => ⟨hb.1, hb'⟩⟩
theorem LogAt.same {w : World} {q p i n sl left nx : Nat} {F : Foot} {ks : List Seg} {l l' : Seg} {tl : List UInt8} {K T : Value} {Es : List Value} (h : LogAt w q F p i n (ks ++ [l]) sl left nx tl K T Es) (h1 : l'.slot = l.slot) (h2 : l'.first = l.first) (h3 : l'.recs.length = l.recs.length) (h4 : endsC l'.recs = endsC l.recs) : LogAt w q F p i n (ks ++ [l']) sl left nx tl K T Es := by
 have hl : (ks ++ [l']).length = (ks ++ [l]).length := by simp
 have hlen := h.ends.len
 have hc : segC (ks ++ [l']) Es = segC (ks ++ [l]) Es := by
  obtain ⟨E0, E, rfl⟩ := snoc_of Es (fun e => by rw [e] at hlen; simp at hlen)
  have he : E0.length = ks.length := by simp at hlen; exact hlen
  rw [segC_append _ _ _ _ he, segC_append _ _ _ _ he]
  simp [segC, Seg.cells, h1, h2]
 refine ⟨h.blk, by rw [hl, hc]; exact h.row, ⟨by rw [hl]; exact hlen, fun j hj => ?_, h.ends.out, h.ends.two⟩, h.kq, h.tail, h.mq, h.mkk, h.me, h.lt, h.apart⟩
 have hh := h.ends.own j (by rw [← hl]; exact hj)
 by_cases hk : j < ks.length
 ·rw [List.getElem_append_left hk] at hh ⊢; exact hh
 ·have : j = ks.length := by simp at hj; omega
  subst this
  rw [List.getElem_concat_length rfl] at hh ⊢
  rw [h3, h4]; exact hh
theorem endsC_opened (rs : List LRec) : endsC (opened rs) = endsC rs ∧ (opened rs).length = rs.length := by
 by_cases h : rs = []
 ·subst h; exact ⟨rfl, rfl⟩
 ·obtain ⟨a, r, rfl⟩ := snoc_of rs h
  rw [openedL]
  refine ⟨?_, by simp⟩
  rw [endsC_snoc, endsC_snoc]
theorem tail_drop (a b tl : List UInt8) (h : tl = a.drop (a.length / 53 * 53)) : (tl ++ b).drop ((tl ++ b).length / 53 * 53) = (a ++ b).drop ((a ++ b).length / 53 * 53) := by
 have htl : tl.length = a.length % 53 := by rw [h, List.length_drop]; omega
 have e : (a ++ b).drop (a.length / 53 * 53) = tl ++ b := by rw [List.drop_append_of_le_length (by omega), ← h]
 rw [← e, List.drop_drop]
 congr 1
 rw [List.length_drop, List.length_append]
 omega
theorem new_gap {W : World} (hT : Taken W) (F : Foot) (h : ∀ b, F.all b → W.heap.size ≤ b) : ¬ F.M 0 := fun hm => by
 have h1 : 0 < W.heap.size := World.block_lt_of_cell? W _ (hT 0 (by decide))
 have := h _ (.inl hm)
 omega
theorem base_next (full : Bool) (b0 n m g : Nat) (hg : g = if full then m - 1 else m) (hm : full = true → 1 ≤ m) : (baseN full b0 n + (g + 1)) % n = ((b0 + m) % n + 1) % n := by
 rw [Nat.mod_add_mod]
 cases full
 ·rw [hg]; rfl
 ·have := hm rfl
  unfold baseN
  rw [if_pos rfl, Nat.mod_add_mod, hg, if_pos rfl]
  congr 1; omega
theorem went_next {w w1 : World} {q p i n sl left nx : Nat} {F F' Fs Fs' : Foot} {ks : List Seg} {tl : List UInt8} {K T : Value} {Es : List Value} (hq : Fs.M q) (_hl : LogAt w1 q Fs' p i n ks sl left nx tl K T Es) (_hd : ∀ s, DAt w1 p F' s → True) (h : Went w w1 F F' Fs Fs') (nx' : Nat) : Went w (w1.setCell ⟨q, 7, none⟩ (.int .i64 (nx' : Int))) F F' Fs Fs' :=
 ⟨h.ap, h.k.trans ((Keeps.refl _ w1).setCell (.inr fun hn => hn.2 hq) _), h.f1, h.f2, h.f3, h.f4⟩
end Go.Proofs.YticophaepapjoaaGreatDoor
