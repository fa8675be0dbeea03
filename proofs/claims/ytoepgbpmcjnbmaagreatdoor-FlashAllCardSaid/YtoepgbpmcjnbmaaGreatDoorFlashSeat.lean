/-
  FlashAll: the cache, the law's memory of what was put, and the operation's own block, apart from one another.
-/
import Derived.Test.YtoepgbpmcjnbmaaGreatDoorFlashRight
namespace Go.Proofs.YtoepgbpmcjnbmaaGreatDoor.flashAll
open Go Go.RowKit Go.Joins
def OB (w : World) (ob : Nat) (kd : Int) (x : It) (now : Int) (K : Value) : Prop := w.heap[ob]? = some (.cells #[.int .i64 kd, .string x.key, .string x.val, .int .i64 x.till, .bool x.gone, .int .i64 now, K] 38 (0, 0))
section
variable {w w' : World} {ob : Nat} {kd now : Int} {x : It} {K : Value} {G : Nat → Prop}
theorem OB.keep (h : OB w ob kd x now K) (hk : Keeps G w w') (hq : G ob) : OB w' ob kd x now K := (hk.block ob hq (Array.getElem?_eq_some_iff.1 h).1).trans h
theorem OB.lt (h : OB w ob kd x now K) : ob < w.heap.size := (Array.getElem?_eq_some_iff.1 h).1
theorem OB.f (h : OB w ob kd x now K) (i : Nat) : w.frozen? ⟨ob, i, none⟩ = false := unfrozen_of_block h i
theorem OB.c0 (h : OB w ob kd x now K) : w.cell? ⟨ob, 0, none⟩ = some (.int .i64 kd) := (cell_of_block h 0).trans rfl
theorem OB.c1 (h : OB w ob kd x now K) : w.cell? ⟨ob, 1, none⟩ = some (.string x.key) := (cell_of_block h 1).trans rfl
theorem OB.c2 (h : OB w ob kd x now K) : w.cell? ⟨ob, 2, none⟩ = some (.string x.val) := (cell_of_block h 2).trans rfl
theorem OB.c3 (h : OB w ob kd x now K) : w.cell? ⟨ob, 3, none⟩ = some (.int .i64 x.till) := (cell_of_block h 3).trans rfl
theorem OB.c4 (h : OB w ob kd x now K) : w.cell? ⟨ob, 4, none⟩ = some (.bool x.gone) := (cell_of_block h 4).trans rfl
theorem OB.c5 (h : OB w ob kd x now K) : w.cell? ⟨ob, 5, none⟩ = some (.int .i64 now) := (cell_of_block h 5).trans rfl
theorem OB.set (h : OB w ob kd x now K) (y : It) : OB ((((w.setCell ⟨ob, 1, none⟩ (.string y.key)).setCell ⟨ob, 2, none⟩ (.string y.val)).setCell ⟨ob, 3, none⟩ (.int .i64 y.till)).setCell ⟨ob, 4, none⟩ (.bool y.gone)) ob kd y now K :=
  (block_setCell (block_setCell (block_setCell (block_setCell h _) _) _) _).trans rfl
end
def XAll (sp : Nat) (V : Value) (Y : Nat → Prop) : Nat → Prop := fun b => b = sp ∨ V.ownBlock = some b ∨ Y b
structure All (S : FlashOK) (W w : World) (p q segs : Nat) (L : List It) (g a : Nat) (M : List It) (sp : Nat) (A : Option Addr) (c : Nat) (Y : Nat → Prop) : Prop where
  fo : Fo S W w p q (stL segs L g a) false (XAll sp (.slice A M.length c) Y)
  blk : SBlk w sp (.slice A M.length c)
  own : w.ownsRow 0 50 6 (.slice A M.length c) M.length (entC 0 M)
  ne : (Value.slice A M.length c).ownBlock ≠ some sp
  lo : W.heap.size ≤ sp
  lo2 : ∀ b, (Value.slice A M.length c).ownBlock = some b → W.heap.size ≤ b
  y : ∀ b, Y b → b ≠ sp ∧ (Value.slice A M.length c).ownBlock ≠ some b ∧ W.heap.size ≤ b
section
variable {S : FlashOK} {W w w' : World} {p q segs : Nat} {L M : List It} {g a sp c : Nat} {A : Option Addr} {Y : Nat → Prop}
theorem All.keep (h : All S W w p q segs L g a M sp A c Y) (hk : Kp w w') : All S W w' p q segs L g a M sp A c Y :=
  ⟨h.fo.keep hk, h.blk.keep hk trivial, hk.own h.own fun _ _ => trivial, h.ne, h.lo, h.lo2, h.y⟩
theorem All.kp (h : All S W w p q segs L g a M sp A c Y) : Kp W w := h.fo.kp
theorem All.rows (h : All S W w p q segs L g a M sp A c Y) : EntsR w sp A c M := by
  refine ⟨h.blk.c0, fun k hk => ?_⟩
  obtain ⟨g1, cap, e, hb, -⟩ := h.own.form (by omega)
  injection e with e1 e2 e3
  subst e1
  have hc := h.own.cells (g := g1) rfl
  have get : ∀ i v, i < 6 → (entCells M[k] (0 + k))[i]? = some v → w.cell? ⟨g1, 0 + (k * 6 + i), none⟩ = some v := fun i v hi hv => by
    have h1 := hc (k * 6 + i) v (by rw [entC_at M 0 k i hk hi]; exact hv)
    rw [WideShapes.add_plain] at h1
    exact h1
  have n0 := get 0 _ (by decide) rfl
  have n1 := get 1 _ (by decide) rfl
  have n2 := get 2 _ (by decide) rfl
  have n3 := get 3 _ (by decide) rfl
  have n4 := get 4 _ (by decide) rfl
  have n5 := get 5 _ (by decide) rfl
  simp only [Nat.zero_add, Nat.add_zero] at n0 n1 n2 n3 n4 n5
  exact ⟨g1, 0, rfl, by rw [Nat.zero_add]; exact n0, by rw [Nat.zero_add]; exact n1, by rw [Nat.zero_add]; exact n2, by rw [Nat.zero_add]; exact n3, by rw [Nat.zero_add]; exact n4, by rw [Nat.zero_add]; exact n5⟩
theorem All.watch (h : All S W w p q segs L g a M sp A c (fun _ => False)) (hk : Kp w w') {ob : Nat} (h1 : w.heap.size ≤ ob) (h2 : ob < w'.heap.size) : All S W w' p q segs L g a M sp A c (fun b => b = ob) := by
  have hs := h.blk.lt
  refine ⟨h.fo.more hk fun b hb => ?_, h.blk.keep hk trivial, hk.own h.own fun _ _ => trivial, h.ne, h.lo, h.lo2, fun b hb => ?_⟩
  · rcases hb with hb | hb | rfl
    · exact .inl (.inl hb)
    · exact .inl (.inr (.inl hb))
    · exact .inr ⟨h1, h2⟩
  · subst hb
    refine ⟨by omega, fun e => ?_, ?_⟩
    · have := (h.own.lt b e).2; omega
    · have := h.fo.kp.size; omega
theorem All.unwatch (h : All S W w p q segs L g a M sp A c Y) : All S W w p q segs L g a M sp A c (fun _ => False) :=
  ⟨h.fo.less fun _b hb => hb.imp id fun hb => hb.imp id fun f => f.elim, h.blk, h.own, h.ne, h.lo, h.lo2, fun _ f => f.elim⟩
theorem All.cache (h : All S W w p q segs L g a M sp A c Y) {L' : List It} {g' a' : Nat} {dk : Bool} (hf : Fo S W w' p q (stL segs L' g' a') dk (XAll sp (.slice A M.length c) Y)) (hk : Keeps (XAll sp (.slice A M.length c) Y) w w') : All S W w' p q segs L' g' a' M sp A c Y :=
  ⟨hf.loose, h.blk.keep hk (.inl rfl), hk.own h.own fun _ hb => .inr (.inl hb), h.ne, h.lo, h.lo2, h.y⟩
theorem All.parts (h : All S W w p q segs L g a M sp A c Y) : ∃ (F Fs : Foot) (s : SDev), Dv W w p F s ∧ S.rep w p q Fs (stL segs L g a) s ∧ Apart F Fs ∧ (∀ b, Fs.all b → W.heap.size ≤ b) ∧ FRoom (stL segs L g a) s ∧ ∀ b, XAll sp (.slice A M.length c) Y b → ¬ F.all b ∧ ¬ Fs.all b ∧ b < w.heap.size := by
  obtain ⟨F, Fs, s, a1, a2, a3, a4, a5, a6, a7⟩ := h.fo
  exact ⟨F, Fs, s, a1, a2, a3, a4, a5, a7⟩
theorem All.beside (h : All S W w p q segs L g a M sp A c Y) {G : Nat → Prop} {V' : Value} (hk : Keeps G w w') (hG : ∀ b, b < w.heap.size → ¬ G b → XAll sp (.slice A M.length c) Y b) (hX : ∀ b, XAll sp V' Y b → XAll sp (.slice A M.length c) Y b ∨ (w.heap.size ≤ b ∧ b < w'.heap.size)) : Fo S W w' p q (stL segs L g a) false (XAll sp V' Y) := by
  have hXW : ∀ b, XAll sp (.slice A M.length c) Y b → W.heap.size ≤ b := fun b hb => by
    rcases hb with rfl | hb | hb
    · exact h.lo
    · exact h.lo2 b hb
    · exact (h.y b hb).2.2
  have h1 := (h.fo.own hk fun b hb hn => ⟨hG b hb hn, hXW b (hG b hb hn)⟩).kp
  obtain ⟨F, Fs, s, a1, a2, a3, a4, a5, a7⟩ := h.parts
  have hF : ∀ b, F.all b → G b := fun b hb => Classical.byContradiction fun hn => (a7 b (hG b (a1.d.lt b hb) hn)).1 hb
  have hFs : ∀ b, Fs.all b → G b := fun b hb => Classical.byContradiction fun hn => (a7 b (hG b (S.lt a2 b hb) hn)).2.1 hb
  refine ⟨F, Fs, s, ⟨a1.d.keep (hk.mono fun b _ hb => hF b hb), a1.gd, h1⟩, S.keep a2 (hk.mono fun b _ hb => hFs b hb), a3, a4, a5, (fun h => by cases h), fun b hb => ?_⟩
  rcases hX b hb with hb | hb
  · exact ⟨(a7 b hb).1, (a7 b hb).2.1, Nat.lt_of_lt_of_le (a7 b hb).2.2 hk.size⟩
  · exact ⟨fun hf => by have := a1.d.lt b hf; omega, fun hf => by have := S.lt a2 b hf; omega, hb.2⟩
theorem All.added (h : All S W w p q segs L g a M sp A c Y) {u : It} {A' : Option Addr} {c' : Nat} (hb : SBlk w' sp (.slice A' (M.length + 1) c')) (ho : w'.ownsRow 0 50 6 (.slice A' (M.length + 1) c') (M.length + 1) (entC 0 (M ++ [u])))
    (hn : (Value.slice A' (M.length + 1) c').ownBlock = (Value.slice A M.length c).ownBlock ∨ ∃ b, (Value.slice A' (M.length + 1) c').ownBlock = some b ∧ w.heap.size ≤ b) (hne : (Value.slice A' (M.length + 1) c').ownBlock ≠ some sp) (hk : Keeps (fun b => (Value.slice A M.length c).ownBlock ≠ some b ∧ b ≠ sp) w w') :
    All S W w' p q segs L g a (M ++ [u]) sp A' c' Y := by
  have hl : (M ++ [u]).length = M.length + 1 := by simp
  have hlt := fun b e => (ho.lt b e).2
  have hkp := h.kp.size
  refine ⟨?_, by rw [hl]; exact hb, by rw [hl]; exact ho, by rw [hl]; exact hne, h.lo, fun b e => ?_, fun b hy => ?_⟩
  · rw [hl]
    refine h.beside hk (fun b hbl hn2 => ?_) fun b hx => ?_
    · by_cases h1 : b = sp
      · exact .inl h1
      · exact .inr (.inl (Classical.byContradiction fun h2 => hn2 ⟨h2, h1⟩))
    · rcases hx with hx | hx | hx
      · exact .inl (.inl hx)
      · rcases hn with h2 | ⟨b2, h2, h3⟩
        · exact .inl (.inr (.inl (h2 ▸ hx)))
        · have : b2 = b := by rw [hx] at h2; injection h2 with h2; exact h2.symm
          subst this
          exact .inr ⟨h3, hlt b2 hx⟩
      · exact .inl (.inr (.inr hx))
  · rw [hl] at e
    rcases hn with h2 | ⟨b2, h2, h3⟩
    · exact h.lo2 b (h2 ▸ e)
    · rw [e] at h2
      injection h2 with h2
      omega
  · obtain ⟨y1, y2, y3⟩ := h.y b hy
    refine ⟨y1, fun e => ?_, y3⟩
    rw [hl] at e
    rcases hn with h2 | ⟨b2, h2, h3⟩
    · exact y2 (h2 ▸ e)
    · rw [e] at h2
      injection h2 with h2
      obtain ⟨F, Fs, s, a1, a2, a3, a4, a5, a7⟩ := h.parts
      have := (a7 b (.inr (.inr hy))).2.2
      omega
theorem All.emptied (h : All S W w p q segs L g a M sp A c Y) : All S W (w.setCell ⟨sp, 0, none⟩ (.slice none 0 0)) p q segs L g a [] sp none 0 Y := by
  have hk : Keeps (fun b => b ≠ sp) w (w.setCell ⟨sp, 0, none⟩ (.slice none 0 0)) := (Keeps.refl _ w).setCell (.inr fun e => e rfl) _
  refine ⟨h.beside hk (fun b _ hn => .inl (Classical.byContradiction hn)) fun b hx => ?_, h.blk.set0 _, World.ownsRow_nil _ _ _ _, (by intro e; cases e), h.lo, (fun b e => by cases e), fun b hy => ⟨(h.y b hy).1, (by intro e; cases e), (h.y b hy).2.2⟩⟩
  rcases hx with hx | hx | hx
  · exact .inl (.inl hx)
  · cases hx
  · exact .inl (.inr (.inr hx))
theorem All.mine {ob : Nat} (h : All S W w p q segs L g a M sp A c (fun b => b = ob)) (hk : Keeps (fun b => b ≠ ob) w w') : All S W w' p q segs L g a M sp A c (fun b => b = ob) := by
  have hy := h.y ob rfl
  refine ⟨h.beside hk (fun b _ hn => .inr (.inr (Classical.byContradiction hn))) fun b hx => .inl hx, h.blk.keep hk (fun e => hy.1 e.symm), hk.own h.own fun b hb e => hy.2.1 (by rw [hb, e]), h.ne, h.lo, h.lo2, h.y⟩
theorem stL_put (segs : Nat) (L : List It) (x : It) (g a : Nat) : (⟨(stL segs L g a).place, (stL segs L g a).segs, (stL segs L g a).ents ++ [fput x], g, a⟩ : FSt) = stL segs (L ++ [x]) g a := by
  unfold stL; simp
theorem all_put (hT : S.T W) (h : All S W w p q segs L g a M sp A c Y) (ha : a ≤ 20000) (x : It) (hm : x.may = true) (hg : x.gone = false) :
    Calls Tryz.prog 15 #[.pointer (some ⟨q, 0, none⟩), .agg #[.string x.key, .string x.val, .int .i64 x.till, .bool x.gone]] w fun e w' => e = .returned (.int .i64 0) ∧ (∃ g', All S W w' p q segs (L ++ [x]) g' (a + 1) M sp A c Y) ∧ Keeps (XAll sp (.slice A M.length c) Y) w w' := by
  refine (fo_put hT h.fo ha x hm hg).mono ?_
  rintro e w' ⟨rfl, g', -, hf, hk⟩
  refine ⟨rfl, ⟨g', h.cache (dk := false) ?_ hk⟩, hk⟩
  have e : (⟨(stL segs L g a).place, (stL segs L g a).segs, (stL segs L g a).ents ++ [fput x], g', (stL segs L g a).age + 1⟩ : FSt) = stL segs (L ++ [x]) g' (a + 1) := by unfold stL; simp
  rw [← e]
  exact hf
theorem all_putNo (hT : S.T W) (h : All S W w p q segs L g a M sp A c Y) (x : It) (hf : x.fits) (hm : x.may = false ∨ x.gone = true) :
    Calls Tryz.prog 15 #[.pointer (some ⟨q, 0, none⟩), .agg #[.string x.key, .string x.val, .int .i64 x.till, .bool x.gone]] w fun e w' => e = .returned (.int .i64 1) ∧ All S W w' p q segs L g a M sp A c Y ∧ Kp w w' := by
  refine (fo_putNo hT h.fo x hf hm).mono ?_
  rintro e w' ⟨rfl, hk, -⟩
  exact ⟨rfl, h.keep hk, hk⟩
theorem all_flush (hT : S.T W) (h : All S W w p q segs L g a M sp A c Y) (ha : a ≤ 20000) :
    Calls Tryz.prog 19 #[.pointer (some ⟨q, 0, none⟩)] w fun e w' => e = .returned (.int .i64 0) ∧ All S W w' p q segs L g (a + 1) M sp A c Y ∧ Keeps (XAll sp (.slice A M.length c) Y) w w' := by
  refine (fo_flush hT h.fo ha).mono ?_
  rintro e w' ⟨rfl, hf, hk⟩
  exact ⟨rfl, h.cache (dk := true) hf hk, hk⟩
theorem all_wipe (hT : S.T W) (h : All S W w p q segs L g a M sp A c Y) (ha : a ≤ 20000) :
    Calls Tryz.prog 20 #[.pointer (some ⟨q, 0, none⟩)] w fun e w' => e = .returned (.int .i64 0) ∧ All S W w' p q segs [] 0 (a + 1) M sp A c Y ∧ Keeps (XAll sp (.slice A M.length c) Y) w w' := by
  refine (fo_wipe hT h.fo ha).mono ?_
  rintro e w' ⟨rfl, hf, hk⟩
  exact ⟨rfl, h.cache (L' := []) (dk := true) hf hk, hk⟩
def goneIt (k : ByteArray) : It := ⟨k, ⟨#[]⟩, 0, true⟩
theorem all_drop (hT : S.T W) {k : ByteArray} (h : All S W w p q segs L g a M sp A c Y) (ha : a ≤ 20000) (hk : keyOk k) :
    Calls Tryz.prog 18 #[.pointer (some ⟨q, 0, none⟩), .slice (some ⟨w.heap.size, 0, none⟩) 1 1] (w.alloc (.cells #[.string k] 9)) fun e w' => e = .returned (.int .i64 0) ∧ (∃ g', All S W w' p q segs (L ++ [goneIt k]) g' (a + 2) M sp A c Y) ∧ Keeps (XAll sp (.slice A M.length c) Y) w w' := by
  have hka : Kp w (w.alloc (.cells #[.string k] 9)) := (Keeps.refl _ w).alloc _
  have h2 := h.keep hka
  have hfo : Fo S W (w.alloc (.cells #[.string k] 9)) p q (stL segs L g a) false (fun b => XAll sp (.slice A M.length c) Y b ∨ b = w.heap.size) := h.fo.more hka fun b hb => hb.imp id fun e => ⟨by omega, by subst e; simp⟩
  have hrow := Row.fresh (F := fun b => XAll sp (.slice A M.length c) Y b ∨ b = w.heap.size) w #[.string k] 9 (0, 0) w.heap.size rfl (.inr rfl) ([k].map Value.string) rfl
  refine (fo_drop hT hfo ha (some ⟨w.heap.size, 0, none⟩) [k] hrow 1 1 rfl (by decide) (by decide) (by decide) (by intro x hx; rw [List.mem_singleton.1 hx]; exact hk)).mono ?_
  rintro e w' ⟨rfl, g', -, hf, hk'⟩
  have hk2 : Keeps (XAll sp (.slice A M.length c) Y) (w.alloc (.cells #[.string k] 9)) w' := hk'.mono fun b _ hb => .inl hb
  refine ⟨rfl, ⟨g', h2.cache (dk := true) ?_ hk2⟩, (hka.mono fun _ _ _ => trivial).trans hk2⟩
  have e : (⟨(stL segs L g a).place, (stL segs L g a).segs, (stL segs L g a).ents ++ [k].map grave, g', (stL segs L g a).age + [k].length + 1⟩ : FSt) = stL segs (L ++ [goneIt k]) g' (a + 2) := by unfold stL; simp [grave, goneIt, fput]
  rw [← e]
  exact hf.less fun b hb => .inl hb
theorem all_dropNo (hT : S.T W) {k : ByteArray} (h : All S W w p q segs L g a M sp A c Y) (hs : k.size ≤ 1000000) (hk : ¬ keyOk k) :
    Calls Tryz.prog 18 #[.pointer (some ⟨q, 0, none⟩), .slice (some ⟨w.heap.size, 0, none⟩) 1 1] (w.alloc (.cells #[.string k] 9)) fun e w' => e = .returned (.int .i64 1) ∧ All S W w' p q segs L g a M sp A c Y ∧ Kp w w' := by
  have hka : Kp w (w.alloc (.cells #[.string k] 9)) := (Keeps.refl _ w).alloc _
  have h2 := h.keep hka
  have hrow := Row.fresh (F := fun _ => True) w #[.string k] 9 (0, 0) w.heap.size rfl trivial ([k].map Value.string) rfl
  refine (fo_dropNo hT h2.fo (some ⟨w.heap.size, 0, none⟩) [k] hrow 1 1 rfl (by decide) (by decide) (by decide) (by intro x hx; rw [List.mem_singleton.1 hx]; exact hs) ⟨k, by simp, hk⟩).mono ?_
  rintro e w' ⟨rfl, hk', -⟩
  exact ⟨rfl, h2.keep hk', hka.trans hk'⟩
end
end Go.Proofs.YtoepgbpmcjnbmaaGreatDoor.flashAll
