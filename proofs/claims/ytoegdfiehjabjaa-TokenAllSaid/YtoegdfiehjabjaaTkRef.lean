/-
  THE REFERENCE's RIGHTS (layer 18): how they lie; Give, Use, Len.
-/
import Derived.Test.YtoegdfiehjabjaaTkKeys
namespace Go.Proofs.Ytoegdfiehjabjaa
open Go Go.RowKit Go.Joins

theorem tok_elem : Elem Try.prog 27 56 (.agg #[.string ⟨#[]⟩, .bool false, .bool false]) 3 24 := ⟨Try.underlying27, by kernel_rfl, rfl, by decide⟩
def tokC (t : Tk) : List Value := [.string t.key, .bool t.good, .bool t.used]
def tkC (L : List Tk) : List Value := L.flatMap tokC
theorem tkC_len (L : List Tk) : (tkC L).length = L.length * 3 := by
  induction L with
  | nil => rfl
  | cons t L ih =>
    have e : tkC (t :: L) = tokC t ++ tkC L := by simp [tkC]
    rw [e, List.length_append, ih, List.length_cons]
    show 3 + _ = _
    omega
theorem tkC_snoc (L : List Tk) (t : Tk) : tkC (L ++ [t]) = tkC L ++ tokC t := by simp [tkC]
theorem tkC_at (L : List Tk) (j i : Nat) (hj : j < L.length) (hi : i < 3) : (tkC L)[j * 3 + i]? = (tokC L[j])[i]? := by
  induction L generalizing j with
  | nil => simp at hj
  | cons t L ih =>
    have e : tkC (t :: L) = tokC t ++ tkC L := by simp [tkC]
    rw [e]
    cases j with
    | zero => rw [List.getElem?_append_left (by show 0 * 3 + i < 3; omega)]; simp
    | succ j =>
      rw [List.getElem?_append_right (by show 3 ≤ _; omega), show (j + 1) * 3 + i - (tokC t).length = j * 3 + i by show _ - 3 = _; omega, ih j (by simpa using hj)]
      simp
theorem tkC_set (L : List Tk) (j i : Nat) (hj : j < L.length) (hi : i < 3) (u : Value) (t : Tk) (ht : (tokC L[j]).set i u = tokC t) : (tkC L).set (j * 3 + i) u = tkC (L.set j t) := by
  induction L generalizing j with
  | nil => simp at hj
  | cons s L ih =>
    have e : ∀ (s : Tk) (L : List Tk), tkC (s :: L) = tokC s ++ tkC L := fun s L => by simp [tkC]
    rw [e]
    cases j with
    | zero =>
      rw [List.set_append_left _ _ (by show 0 * 3 + i < 3; omega), List.set_cons_zero, e]
      simp only [Nat.zero_mul, Nat.zero_add, List.getElem_cons_zero] at ht ⊢
      rw [ht]
    | succ j =>
      rw [List.set_append_right _ _ (by show 3 ≤ _; omega), show (j + 1) * 3 + i - (tokC s).length = j * 3 + i by show _ - 3 = _; omega, List.set_cons_succ, e, ih j (by simpa using hj) (by simpa using ht)]
/-- The reference's block. -/
def RBlk (w : World) (r : Nat) (V : Value) : Prop := w.heap[r]? = some (.cells #[V] 29 (0, 0))
section
variable {w w' : World} {r : Nat} {V : Value} {G : Nat → Prop}
theorem RBlk.lt (h : RBlk w r V) : r < w.heap.size := (Array.getElem?_eq_some_iff.1 h).1
theorem RBlk.keep (h : RBlk w r V) (hk : Keeps G w w') (hG : G r) : RBlk w' r V := (hk.block r hG h.lt).trans h
theorem RBlk.c0 (h : RBlk w r V) : w.cell? ⟨r, 0, none⟩ = some V := (cell_of_block h 0).trans rfl
theorem RBlk.fz (h : RBlk w r V) : w.frozen? ⟨r, 0, none⟩ = false := unfrozen_of_block h 0
theorem RBlk.set (h : RBlk w r V) (V' : Value) : RBlk (w.setCell ⟨r, 0, none⟩ V') r V' := (block_setCell h V').trans rfl
end
/-- The reference's rights at r, their row; the blocks that they lie in. -/
structure RTk (W w : World) (r : Nat) (L : List Tk) (A : Option Addr) (c : Nat) : Prop where
  blk : RBlk w r (.slice A L.length c)
  own : w.ownsRow W.heap.size 56 3 (.slice A L.length c) L.length (tkC L)
  ne : (Value.slice A L.length c).ownBlock ≠ some r
  gr : W.heap.size ≤ r
  kp : Kp W w
/-- The blocks of the reference's rights. -/
def RG (r : Nat) (A : Option Addr) (b : Nat) : Prop := b = r ∨ A.map (·.block) = some b
theorem own_block {A : Option Addr} {n c : Nat} : (Value.slice A n c).ownBlock = A.map (·.block) := by cases A <;> rfl
section
variable {W w w' : World} {r : Nat} {L : List Tk} {A : Option Addr} {c : Nat}
theorem RTk.keep (h : RTk W w r L A c) (hk : Keeps (RG r A) w w') (hW : Kp W w') : RTk W w' r L A c :=
  ⟨h.blk.keep hk (.inl rfl), hk.own h.own fun b hb => .inr (by rw [← own_block (n := L.length) (c := c)]; exact hb), h.ne, h.gr, hW⟩
theorem RTk.inn (h : RTk W w r L A c) : ∀ b, RG r A b → W.heap.size ≤ b ∧ b < w.heap.size := fun b hb => by
  rcases hb with rfl | hb
  · exact ⟨h.gr, h.blk.lt⟩
  · exact h.own.lt b (by rw [own_block]; exact hb)
theorem RTk.atP (h : RTk W w r L A c) {j : Nat} (hj : j < L.length) : ∃ g, A = some ⟨g, 0, none⟩ ∧ w.cell? ⟨g, j * 3, none⟩ = some (.string L[j].key) ∧ w.cell? ⟨g, j * 3 + 1, none⟩ = some (.bool L[j].good) ∧ w.cell? ⟨g, j * 3 + 2, none⟩ = some (.bool L[j].used) ∧
    (∀ i, w.frozen? ⟨g, i, none⟩ = false) ∧ g ≠ r := by
  obtain ⟨g, c', e, -, -⟩ := h.own.form (by omega)
  injection e with e1 e2 e3
  subst e1 e3
  have ho := h.own
  refine ⟨g, rfl, ?_, ?_, ?_, fun i => ho.frozenAt i, fun e => h.ne (by rw [← e]; rfl)⟩
  · rw [ho.cellAt _ (by omega), show j * 3 = j * 3 + 0 from rfl, tkC_at L j 0 hj (by omega)]; rfl
  · rw [ho.cellAt _ (by omega), tkC_at L j 1 hj (by omega)]; rfl
  · rw [ho.cellAt _ (by omega), tkC_at L j 2 hj (by omega)]; rfl
/-- A mark of a right is written. -/
theorem RTk.mark {g : Nat} (h : RTk W w r L (some ⟨g, 0, none⟩) c) {j : Nat} (hj : j < L.length) (i : Nat) (hi : i < 3) (u : Value) (t : Tk) (ht : (tokC L[j]).set i u = tokC t) :
    RTk W (w.setCell ⟨g, j * 3 + i, none⟩ u) r (L.set j t) (some ⟨g, 0, none⟩) c ∧ Keeps (fun b => ¬ RG r (some ⟨g, 0, none⟩) b) w (w.setCell ⟨g, j * 3 + i, none⟩ u) := by
  have hs := h.own.stored (j * 3 + i) u
  have hgr : g ≠ r := fun e => h.ne (by rw [← e]; rfl)
  have hgW : W.heap.size ≤ g := (h.own.lt g rfl).1
  have hk : Keeps (fun b => b ≠ g) w (w.setCell ⟨g, j * 3 + i, none⟩ u) := (Keeps.refl (fun b => b ≠ g) w).setCell (p := ⟨g, j * 3 + i, none⟩) (.inr fun hn => hn rfl) u
  refine ⟨⟨?_, ?_, ?_, h.gr, h.kp.setCell (p := ⟨g, j * 3 + i, none⟩) (.inl hgW) u⟩, hk.mono fun b _ hb e => hb (.inr (by rw [e]; rfl))⟩
  · rw [List.length_set]; exact h.blk.keep hk (fun e => hgr e.symm)
  · rw [List.length_set, ← tkC_set L j i hj hi u t ht]; exact hs.1
  · rw [List.length_set]; exact h.ne
end

set_option maxRecDepth 100000 in
set_option maxHeartbeats 1000000 in
theorem rgive (W w : World) (r : Nat) (L : List Tk) (A : Option Addr) (c : Nat) (h : RTk W w r L A c) (hl : L.length ≤ 1000) (k : ByteArray) :
    Calls Try.prog 12 #[.pointer (some ⟨r, 0, none⟩), .string k] w fun e w' => e = .returned (.int .i64 ((L.length + 1 : Nat) : Int)) ∧ ∃ A' c', RTk W w' r (L ++ [tkNew k]) A' c' ∧ (∀ b, RG r A' b → RG r A b ∨ w.heap.size ≤ b) ∧ Keeps (fun b => ¬ RG r A b) w w' := by
  obtain ⟨n, hn⟩ : ∃ n, L.length = n := ⟨_, rfl⟩
  have hk1 : Kp w (w.alloc (.cells #[.string k, .bool true, .bool false] 56)) := (Keeps.refl _ w).alloc _
  have h1 := h.keep (hk1.mono fun _ _ _ => trivial) (h.kp.trans hk1)
  have c0 := h.blk.c0
  have HSRC := Lib.hid (show Src Try.prog 3 27 (.slice (some ⟨w.heap.size, 0, none⟩) 1 1) 1 (tokC (tkNew k)) (w.alloc (.cells #[.string k, .bool true, .bool false] 56)) from
    Src.ofSlice _ Try.underlying27 ⟨w.heap.size, 0, none⟩ 1 1 (tokC (tkNew k)) rfl (fun j v hv => by
      rw [WideShapes.add_plain, World.cell?, heap_alloc_new]
      have hj : j < 3 := by
        have := (List.getElem?_eq_some_iff.1 hv).1
        exact this
      have hc : j = 0 ∨ j = 1 ∨ j = 2 := by omega
      rcases hc with rfl | rfl | rfl <;> (simp [tokC, tkNew] at hv; rw [← hv]; rfl)) (fun v hv => by
      simp only [tokC, List.mem_cons, List.not_mem_nil, or_false] at hv
      rcases hv with rfl | rfl | rfl <;> rfl))
  have HO1 := Lib.hid h1.own
  have HB1 := Lib.hid h1.blk
  have HH := Lib.hid h
  have HBH := Lib.hid (show W.heap.size ≤ (w.alloc (.cells #[.string k, .bool true, .bool false] 56)).heap.size from Nat.le_trans h.kp.size hk1.size)
  have HK1 := Lib.hid hk1
  have HN := Lib.hid hn
  rw [hn] at HO1 c0 hl ⊢
  clear h h1 hk1 hn
  go_enter Try.func12, Try.ntmps12
  go_wp2_with (at_builtin; go_loud (refine tok_elem.list_append rfl (.tmp 9) (.tmp 12) _ rfl rfl HO1.out rfl HSRC.out ?c3 ?c4 HBH.out ?_))
  case c3 => unfold maxLen; omega
  case c4 => omega
  intro v7 w7 ho7 hg7 hb7
  obtain ⟨A7, c7, rfl⟩ := tk_form ho7
  have hne0 := HH.out.ne
  have hr7 : RBlk w7 r (.slice A L.length c) := HB1.out.keep (Keeps.of_grown (F := fun b => b = r) hg7 fun b hb _ e => by
    subst e
    rw [HN.out] at hne0
    exact hne0 hb) rfl
  have q0 := hr7.c0
  have q1 := hr7.fz
  have hrs := hr7.set (.slice A7 (n + 1) c7)
  have hne7 : (Value.slice A7 (n + 1) c7).ownBlock ≠ some r := by
    rcases hb7 with h | h
    · rw [h, ← HN.out]; exact hne0
    · rw [h]; intro e; have e2 := Option.some.inj e; have := HH.out.blk.lt; omega
  have ks : Keeps (fun b => b ≠ r) w7 (w7.setCell ⟨r, 0, none⟩ (.slice A7 (n + 1) c7)) := (Keeps.refl (fun b => b ≠ r) w7).setCell (p := ⟨r, 0, none⟩) (.inr fun hn => hn rfl) _
  have kg : Keeps (fun b => A.map (·.block) ≠ some b) (w.alloc (.cells #[.string k, .bool true, .bool false] 56)) w7 := Keeps.of_grown hg7 fun b hb _ hn => hn (by rw [own_block] at hb; exact hb)
  have kall : Keeps (fun b => ¬ RG r A b) w (w7.setCell ⟨r, 0, none⟩ (.slice A7 (n + 1) c7)) := ((HK1.out.mono fun _ _ _ => trivial).trans (kg.mono fun b _ hb e => hb (.inr e))).trans (ks.mono fun b _ hb e => hb (.inl e))
  have kW : Kp W (w7.setCell ⟨r, 0, none⟩ (.slice A7 (n + 1) c7)) := (((HH.out.kp.mono fun _ _ _ => trivial : Keeps (fun b => ¬ RG r A b) W w).trans kall)).mono fun b hb _ hF => by have := (HH.out.inn b hF).1; omega
  have HQ := Lib.hid (show ∀ w8, w8 = w7.setCell ⟨r, 0, none⟩ (.slice A7 (n + 1) c7) → ∃ A' c', RTk W w8 r (L ++ [tkNew k]) A' c' ∧ (∀ b, RG r A' b → RG r A b ∨ w.heap.size ≤ b) ∧ Keeps (fun b => ¬ RG r A b) w w8 from by
    rintro w8 rfl
    have hl1 : (L ++ [tkNew k]).length = n + 1 := by rw [List.length_append, HN.out]; rfl
    refine ⟨A7, c7, ⟨by rw [hl1]; exact hrs, ?_, by rw [hl1]; exact hne7, HH.out.gr, kW⟩, fun b hb => ?_, kall⟩
    · rw [hl1, tkC_snoc]
      exact ks.own ho7 fun b hb e => hne7 (by rw [hb, e])
    · rcases hb with hb | hb
      · exact .inl (.inl hb)
      · rw [← own_block (n := n + 1) (c := c7)] at hb
        rcases hb7 with h | h
        · rw [h, own_block] at hb; exact .inl (.inr hb)
        · rw [h] at hb; injection hb with hb; have := HK1.out.size; exact .inr (by omega))
  have e8 := hrs.c0
  clear ho7 hg7 hb7 hr7 hrs hne7 ks kg kall kW hne0 HO1 HB1 HSRC HBH HK1 HH
  go_wp2_with fail
  go_ret
  exact ⟨by congr 2 <;> omega, HQ.out _ rfl⟩

end Go.Proofs.Ytoegdfiehjabjaa
