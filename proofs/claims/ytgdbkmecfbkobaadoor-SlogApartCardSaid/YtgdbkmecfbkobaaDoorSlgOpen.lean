/-
  THE PROGRAM's LOG: Open.
-/
import Derived.Test.YtgdbkmecfbkobaaDoorSlgCollect
namespace Go.Proofs.YtgdbkmecfbkobaaDoor
open Go Go.RowKit Go.Joins Go.Shelf

theorem keeps_over {G : Nat → Prop} {w W w' : World} (h : Kp w W) (hk : Keeps G W w') (hG : ∀ b, b < w.heap.size → G b) : Kp w w' :=
  ⟨hk.os.trans h.os, hk.tape.trans h.tape, hk.output.trans h.output, Nat.le_trans h.size hk.size, fun b _ hb => (hk.block b (hG b hb) (Nat.lt_of_lt_of_le hb h.size)).trans (h.block b trivial hb)⟩
/-- A log that was opened, in its parts, as it lies. -/
theorem Coll.mid {w0 w : World} {q p i n sl nx : Nat} {K : Value} {d : List SegP} (h : Coll w0 w q K d) (hq : q < w0.heap.size) (hb : LBlk w q p i n K sl 0 (.slice none 0 0) nx) : LogMid w q p i n (d.map Prod.fst) sl 0 nx K (.slice none 0 0) (d.map SegP.E) := by
  refine ⟨hb, by rw [List.length_map, segC_encP]; exact h.row, ⟨by simp, fun j hj => ?_, fun E hE b e hx => ?_, h.two⟩, fun b e e2 => by have := h.kb b e; omega⟩
  · simp only [List.getElem_map]
    exact h.own _ (List.getElem_mem _)
  · obtain ⟨x, hx', rfl⟩ := List.mem_map.1 hE
    have h1 := h.eb x hx' b e
    rcases hx with hx | hx
    · omega
    · exact h1.2 hx
theorem Coll.at_ {w0 w : World} {q p i n sl nx : Nat} {K : Value} {d : List SegP} (h : Coll w0 w q K d) (hq : q < w0.heap.size) (hb : LBlk w q p i n K sl 0 (.slice none 0 0) nx) : LogAt w q ⟨hasB q K (d.map SegP.E), fun _ => False⟩ p i n (d.map Prod.fst) sl 0 nx [] K (.slice none 0 0) (d.map SegP.E) :=
  (h.mid hq hb).at_ (fun _ => False) (fun _ h => h.elim) (fun _ _ h => h) ⟨none, 0, rfl, Nat.le_refl _, Nat.zero_le _, Row.nil _ _ _⟩
theorem Coll.new {w0 w : World} {q : Nat} {K : Value} {d : List SegP} (h : Coll w0 w q K d) : ∀ b, hasB q K (d.map SegP.E) b → b = q ∨ w0.heap.size ≤ b := fun b hb => by
  rcases hb with rfl | hb | ⟨E, hE, hb⟩
  · exact .inl rfl
  · exact .inr (h.kb b hb)
  · obtain ⟨x, hx, rfl⟩ := List.mem_map.1 hE
    exact .inr (h.eb x hx b hb).1

/-- What Open leaves. -/
def OpenPost (w : World) (p i n : Nat) (ks : List Seg) (sl nx : Nat) (w' : World) : Prop :=
  ∃ (Fs : Foot) (K : Value) (Es : List Value), LogAt w' w.heap.size Fs p i n ks sl 0 nx [] K (.slice none 0 0) Es ∧ (∀ b, Fs.all b → w.heap.size ≤ b) ∧ Kp w w'

set_option maxRecDepth 100000 in
set_option maxHeartbeats 1000000 in
theorem lopen_any (w : World) (_hT : Taken w) (p : Nat) (F : Foot) (s : SDev) (hd : DAt w p F s) (i n : Nat) (h3 : 3 ≤ n) (hn : n ≤ 200) (_hi : i ≤ 2048) (hin : i + 8 * n ≤ s.now.length) (ks : List Seg) (sl nx : Nat)
    (hfind : ∀ W, Kp (w.alloc (.cells #[.pointer (some ⟨p, 0, none⟩), .int .i64 (i : Int), .int .i64 (n : Int), .slice none 0 0, .int .i64 0, .int .i64 0, .slice none 0 0, .int .i64 1] 60)) W → Calls Tryd.prog 22 #[.pointer (some ⟨w.heap.size, 0, none⟩)] W fun e w' => (∃ v, e = .returned v) ∧ OpenPost w p i n ks sl nx w') :
    Calls Tryd.prog 10 #[.pointer (some ⟨p, 0, none⟩), .int .i64 (i : Int), .int .i64 (n : Int)] w fun e w' => e = .returned (.tuple #[.pointer (some ⟨w.heap.size, 0, none⟩), .int .i64 0]) ∧ OpenPost w p i n ks sl nx w' := by
  have HTH := Lib.hid (sthere_yes w p F s hd i n h3 hn hin)
  have HFIND := Lib.hid (hfind _ (Keeps.refl _ _))
  clear _hT hd hfind
  go_enter Tryd.func10, Tryd.ntmps10
  go_wp2_with fail
  refine HTH.out.mono ?_
  rintro e w' ⟨rfl, rfl⟩
  go_wp2_with fail
  refine HFIND.out.mono ?_
  rintro e w1 ⟨⟨v, rfl⟩, hp⟩
  have HP := Lib.hid hp
  clear hp HFIND
  go_wp2_with fail
  go_ret2
  exact ⟨rfl, HP.out⟩
theorem lopen_no (w : World) (p : Nat) (F : Foot) (s : SDev) (hd : DAt w p F s) (i n : Int) (h1 : -9223372036854775808 ≤ i) (h2 : i < 9223372036854775808) (h3 : -9223372036854775808 ≤ n) (h4 : n < 9223372036854775808) (hno : i < 0 ∨ n < 3 ∨ 200 < n ∨ (s.now.length : Int) < i + 8 * n) :
    Calls Tryd.prog 10 #[.pointer (some ⟨p, 0, none⟩), .int .i64 i, .int .i64 n] w fun e w' => (∃ v, e = .returned (.tuple #[v, .int .i64 4])) ∧ Kp w w' := by
  have HTH := Lib.hid (sthere_no w p F s hd i n h1 h2 h3 h4 hno)
  clear hd hno
  go_enter Tryd.func10, Tryd.ntmps10
  go_wp2_with fail
  refine HTH.out.mono ?_
  rintro e w' ⟨rfl, rfl⟩
  go_wp2_with fail
  go_ret2
  exact ⟨⟨_, rfl⟩, Keeps.refl _ _⟩
/-- find, of a log that was opened just now. -/
theorem find_new (w : World) (hT : Taken w) (p : Nat) (F : Foot) (s : SDev) (hd : DAt w p F s) (i n : Nat) (hn : n ≤ 200) (hi : i ≤ 2048) (hin : i + 8 * n ≤ s.now.length) (hon : OnDisk s.now i n []) :
    ∀ W, Kp (w.alloc (.cells #[.pointer (some ⟨p, 0, none⟩), .int .i64 (i : Int), .int .i64 (n : Int), .slice none 0 0, .int .i64 0, .int .i64 0, .slice none 0 0, .int .i64 1] 60)) W → Calls Tryd.prog 22 #[.pointer (some ⟨w.heap.size, 0, none⟩)] W fun e w' => (∃ v, e = .returned v) ∧ OpenPost w p i n [] 0 1 w' := by
  intro W hW
  have hb0 := heap_alloc_new w (.cells #[.pointer (some ⟨p, 0, none⟩), .int .i64 (i : Int), .int .i64 (n : Int), .slice none 0 0, .int .i64 0, .int .i64 0, .slice none 0 0, .int .i64 1] 60)
  have hk0 : Kp w W := ((Keeps.refl _ w).alloc _).trans hW
  have hbW : LBlk W w.heap.size p i n (.slice none 0 0) 0 0 (.slice none 0 0) 1 := (hW.block w.heap.size trivial (by simp)).trans hb0
  have he := find_empty hon
  refine find_any W (hT.keep hk0) w.heap.size p i n _ _ 0 0 1 hbW F s (hd.keep (hk0.mono fun _ _ _ => trivial)) hi hn hin (fun j k m x _ _ e => by have := (decL_wf e).2.1; omega) (OpenPost w p i n [] 0 1) _ rfl (.inl he) (fun _ W1 hk1 => ?_) (fun h => by rw [he.1] at h; omega)
  have hb1 := hbW.keep hk1 trivial
  have hqz : w.heap.size < W1.heap.size := (Array.getElem?_eq_some_iff.1 hb1).1
  have hc : Coll W1 W1 w.heap.size (.slice none 0 0) [] := Coll.nil _ _ _
  exact ⟨_, _, _, hc.at_ hqz hb1, fun b hb => by
    rcases hb with hb | hb
    · rcases hc.new b hb with rfl | h <;> omega
    · exact hb.elim, hk0.trans hk1⟩
/-- find, of a log that has segments. -/
theorem find_old (w : World) (hT : Taken w) (p : Nat) (F : Foot) (s : SDev) (hd : DAt w p F s) (i n : Nat) (hn : n ≤ 200) (hi : i ≤ 2048) (hin : i + 8 * n ≤ s.now.length) (ks : List Seg) (l : Seg) (b0 : Nat) (hch : Chain n b0 (ks ++ [l])) (hon : OnDisk s.now i n (ks ++ [l])) (hf : ∀ sg ∈ ks ++ [l], sg.first ≤ 274877906943) :
    ∀ W, Kp (w.alloc (.cells #[.pointer (some ⟨p, 0, none⟩), .int .i64 (i : Int), .int .i64 (n : Int), .slice none 0 0, .int .i64 0, .int .i64 0, .slice none 0 0, .int .i64 1] 60)) W → Calls Tryd.prog 22 #[.pointer (some ⟨w.heap.size, 0, none⟩)] W fun e w' => (∃ v, e = .returned v) ∧ OpenPost w p i n (ks ++ [l]) ((b0 + (ks ++ [l]).length) % n) (l.first + 212) w' := by
  intro W hW
  have hb0 := heap_alloc_new w (.cells #[.pointer (some ⟨p, 0, none⟩), .int .i64 (i : Int), .int .i64 (n : Int), .slice none 0 0, .int .i64 0, .int .i64 0, .slice none 0 0, .int .i64 1] 60)
  have hk0 : Kp w W := ((Keeps.refl _ w).alloc _).trans hW
  have hbW : LBlk W w.heap.size p i n (.slice none 0 0) 0 0 (.slice none 0 0) 1 := (hW.block w.heap.size trivial (by simp)).trans hb0
  obtain ⟨e1, e2, e3, e4⟩ := find_last hch hon
  have hnq : ¬ F.all w.heap.size := fun h => by have := hd.lt _ h; omega
  have htq : 0 < w.heap.size := World.block_lt_of_cell? w _ (hT 0 (by decide))
  refine find_any W (hT.keep hk0) w.heap.size p i n _ _ 0 0 1 hbW F s (hd.keep (hk0.mono fun _ _ _ => trivial)) hi hn hin (fun j k m x _ _ e => by have := (decL_wf e).2.1; omega) (OpenPost w p i n (ks ++ [l]) ((b0 + (ks ++ [l]).length) % n) (l.first + 212)) _ rfl (.inr ⟨e3, by omega⟩) (fun h => by omega) (fun _ W1 hk1 hb1 => ?_)
  rw [e1, e4]
  have hkS : Keeps (fun b => b ≠ w.heap.size) W1 (W1.setCell ⟨w.heap.size, 7, none⟩ (.int .i64 ((l.first : Int) + 212))) := (Keeps.refl _ W1).setCell (.inr fun hn => hn rfl) _
  have hbS : LBlk (W1.setCell ⟨w.heap.size, 7, none⟩ (.int .i64 ((l.first : Int) + 212))) w.heap.size p i n (.slice none 0 0) 0 0 (.slice none 0 0) (l.first + 212) := by
    have := block_setCell hb1 (i := 7) (.int .i64 ((l.first + 212 : Nat) : Int))
    exact this
  have hqS : w.heap.size < (W1.setCell ⟨w.heap.size, 7, none⟩ (.int .i64 ((l.first : Int) + 212))).heap.size := (Array.getElem?_eq_some_iff.1 hbS).1
  have hk01 : Kp w W1 := hk0.trans hk1
  have hkw : Kp w (W1.setCell ⟨w.heap.size, 7, none⟩ (.int .i64 ((l.first : Int) + 212))) := keeps_over hk01 hkS fun b hb => by show b ≠ w.heap.size; omega
  have hsl : l.slot = slotBack b0 n (ks ++ [l]).length 0 := by
    rw [slotBack_at hch 0 (by simp)]
    have : (ks ++ [l])[(ks ++ [l]).length - 1 - 0]'(rev_lt (by simp)) = l := by simp
    rw [this]
  have hends : ∀ sg ∈ ks ++ [l], sg.end_ ≤ l.first + 212 := fun sg hsg => by
    rcases List.mem_append.1 hsg with h | h
    · have := (List.pairwise_append.1 hch.rise).2.2 sg h l (by simp); omega
    · rw [List.mem_singleton.1 h]
      have := (hch.ok l (by simp)).count
      unfold Seg.end_; omega
  refine (collect_any _ (hT.keep hkw) w.heap.size p i n (l.first + 212) 0 hbS F s (hd.keep (hkw.mono fun _ _ _ => trivial)) hnq (by omega) (ks ++ [l]) b0 hch _ rfl (by simp) hon hi hn hin hf hends (by have := hf l (by simp); omega) l.slot hsl).mono ?_
  rintro e w' ⟨hv, K, d, hds, hb, hc, hk⟩
  refine ⟨hv, ?_⟩
  have hat := hc.at_ hqS hb
  rw [hds] at hat
  exact ⟨_, _, _, hat, fun b hb => by
    rcases hb with hb | hb
    · rcases hc.new b hb with rfl | h <;> omega
    · exact hb.elim, keeps_over hkw hk fun b hb => by show b ≠ w.heap.size; omega⟩

end Go.Proofs.YtgdbkmecfbkobaaDoor
