/-
  ROWS OF THE CALL's OWN THAT END AHEAD OF THEIR BLOCK's END (my own text; it knows no program): what 'l[:k:k]' leaves, and an append onto it.
-/
import Derived.Test.YtpijhpfcigjkeaaDoorWords
namespace Go.Proofs.YtpijhpfcigjkeaaDoor
open Go Go.RowKit

/-- As ownsRow, but the block may go on behind the capacity. -/
def OwnLe (w : World) (base : Nat) (e : TypeId) (size : Nat) (v : Value) (n : Nat) (xs : List Value) : Prop :=
  xs.length = n * size ∧ ((v = .slice none 0 0 ∧ n = 0) ∨ ∃ g cap cur, v = .slice (some ⟨g, 0, none⟩) n cap ∧ base ≤ g ∧ w.heap[g]? = some (.cells cur e (0, 0)) ∧ n ≤ cap ∧ cap ≤ maxLen ∧ cap * size ≤ cur.size ∧ cur.toList.take (n * size) = xs)
section
variable {w w' : World} {base : Nat} {e : TypeId} {size : Nat} {v : Value} {n : Nat} {xs : List Value} {F : Nat → Prop}
theorem OwnLe.of_own (h : w.ownsRow base e size v n xs) : OwnLe w base e size v n xs := by
  refine ⟨h.1, ?_⟩
  rcases h.2 with h | ⟨g, cap, cur, h1, h2, h3, h4, h5, h6, h7⟩
  · exact .inl h
  · exact .inr ⟨g, cap, cur, h1, h2, h3, h4, h5, Nat.le_of_eq h6.symm, h7⟩
theorem OwnLe.nil (w : World) (base : Nat) (e : TypeId) (size : Nat) : OwnLe w base e size (.slice none 0 0) 0 [] := ⟨by simp, .inl ⟨rfl, rfl⟩⟩
theorem OwnLe.keep (h : OwnLe w base e size v n xs) (hk : Keeps F w w') (hF : ∀ b, v.ownBlock = some b → F b) : OwnLe w' base e size v n xs := by
  refine ⟨h.1, ?_⟩
  rcases h.2 with h | ⟨g, cap, cur, rfl, h2, h3, h4⟩
  · exact .inl h
  · exact .inr ⟨g, cap, cur, rfl, h2, (hk.block g (hF g rfl) (Array.getElem?_eq_some_iff.1 h3).1).trans h3, h4⟩
theorem OwnLe.lt (h : OwnLe w base e size v n xs) : ∀ b, v.ownBlock = some b → base ≤ b ∧ b < w.heap.size := by
  intro b hb
  rcases h.2 with ⟨rfl, -⟩ | ⟨g, cap, cur, rfl, h2, h3, h4⟩
  · cases hb
  · injection hb with hb
    subst hb
    exact ⟨h2, (Array.getElem?_eq_some_iff.1 h3).1⟩
theorem OwnLe.form (h : OwnLe w base e size v n xs) : ∃ A c, v = .slice A n c ∧ n ≤ c ∧ c ≤ maxLen ∧ (0 < n → ∃ g, A = some ⟨g, 0, none⟩ ∧ base ≤ g ∧ g < w.heap.size) := by
  rcases h.2 with ⟨rfl, rfl⟩ | ⟨g, cap, cur, rfl, h2, h3, h4, h5, h6⟩
  · exact ⟨none, 0, rfl, Nat.le_refl _, Nat.zero_le _, fun h => absurd h (by decide)⟩
  · exact ⟨_, cap, rfl, h4, h5, fun _ => ⟨g, rfl, h2, (Array.getElem?_eq_some_iff.1 h3).1⟩⟩
theorem OwnLe.cell {g c : Nat} (h : OwnLe w base e size (.slice (some ⟨g, 0, none⟩) n c) n xs) {i : Nat} {u : Value} (hu : xs[i]? = some u) : w.cell? ⟨g, i, none⟩ = some u := by
  rcases h.2 with ⟨h1, -⟩ | ⟨g', cap, cur, hv, h2, h3, h4, h5, h6, h7⟩
  · cases h1
  · injection hv with hv
    injection hv with hv
    injection hv with hv
    subst hv
    have hi : i < n * size := by
      have := (List.getElem?_eq_some_iff.1 hu).1
      rw [h.1] at this; exact this
    have : w.cell? ⟨g, i, none⟩ = cur[i]? := by simp [World.cell?, h3]
    rw [this, ← Array.getElem?_toList, ← List.getElem?_take_of_lt hi, h7]
    exact hu
theorem OwnLe.frozen {g c : Nat} (h : OwnLe w base e size (.slice (some ⟨g, 0, none⟩) n c) n xs) (i : Nat) : w.frozen? ⟨g, i, none⟩ = false := by
  rcases h.2 with ⟨h1, -⟩ | ⟨g', cap, cur, hv, h2, h3, h4⟩
  · cases h1
  · injection hv with hv
    injection hv with hv
    injection hv with hv
    subst hv
    simp [World.frozen?, h3]
/-- One cell of it stored. -/
theorem OwnLe.store {g c : Nat} (h : OwnLe w base e size (.slice (some ⟨g, 0, none⟩) n c) n xs) (i : Nat) (u : Value) : OwnLe (w.setCell ⟨g, i, none⟩ u) base e size (.slice (some ⟨g, 0, none⟩) n c) n (xs.set i u) := by
  refine ⟨by rw [List.length_set]; exact h.1, ?_⟩
  rcases h.2 with ⟨h1, -⟩ | ⟨g', cap, cur, hv, h2, h3, h4, h5, h6, h7⟩
  · cases h1
  · have hv0 := hv
    injection hv with hv
    injection hv with hv
    injection hv with hv
    subst hv
    refine .inr ⟨g, cap, cur.setIfInBounds i u, hv0, h2, ?_, h4, h5, by simpa using h6, ?_⟩
    · have := heap_setCell_same w g i cur e u h3
      exact this
    · rw [Array.toList_setIfInBounds, List.take_set, h7]
/-- Its first k. -/
theorem OwnLe.first {g c k : Nat} (h : OwnLe w base e size (.slice (some ⟨g, 0, none⟩) n c) n xs) (hk : k ≤ n) : OwnLe w base e size (.slice (some ⟨g, 0, none⟩) k k) k (xs.take (k * size)) := by
  rcases h.2 with ⟨h1, -⟩ | ⟨g', cap, cur, hv, h2, h3, h4, h5, h6, h7⟩
  · cases h1
  · injection hv with hv hv2 hv3
    injection hv with hv
    injection hv with hv
    subst hv
    have hks : k * size ≤ n * size := Nat.mul_le_mul_right _ hk
    have hcs : n * size ≤ cap * size := Nat.mul_le_mul_right _ h4
    refine ⟨by rw [List.length_take, h.1]; omega, .inr ⟨g, k, cur, rfl, h2, h3, Nat.le_refl _, by omega, by omega, ?_⟩⟩
    rw [← h7, List.take_take, Nat.min_eq_left hks]
end

section
variable {P : Program} {t e : TypeId} {z : Value} {size bytes : Nat} {w : World} {base : Nat} {v : Value} {n : Nat} {xs : List Value}
/-- What a row that grew leaves. -/
theorem Elem.grown_le (h : Elem P t e z size bytes) (i : TypeInfo) (_hs : i.size = size) (m : Nat) (news : List Value) (hlen : (xs ++ news).length = (n + m) * size) (h63 : n + m ≤ maxLen) (hbase : base ≤ w.heap.size) (old : Nat) :
    (w.drew.alloc (.cells ((xs ++ news).toArray ++ Builtin.zeroCells z.cells (grownCap w (n + m) old e - (n + m))) e)).ownsRow base e size (.slice (some ⟨w.heap.size, 0, none⟩) (n + m) (grownCap w (n + m) old e)) (n + m) (xs ++ news) ∧
    Keeps (fun _ => True) w (w.drew.alloc (.cells ((xs ++ news).toArray ++ Builtin.zeroCells z.cells (grownCap w (n + m) old e - (n + m))) e)) := by
  have hge := grownCap_ge w (n + m) old e
  have hcm : grownCap w (n + m) old e ≤ maxLen := grownCap_le_maxLen w (n + m) old e h63
  have hzs := h.cells
  refine ⟨⟨hlen, .inr ⟨w.heap.size, _, _, rfl, hbase, heap_alloc_new w.drew _, hge, hcm, ?_, ?_⟩⟩, ((Keeps.refl _ w).drew).alloc _⟩
  · simp only [Array.size_append, List.size_toArray, size_zeroCells, hzs, hlen, ← Nat.add_mul]
    congr 1
    omega
  · simp only [Array.toList_append]
    rw [← hlen]
    exact List.take_left
theorem Elem.run_append_le (h : Elem P t e z size bytes) (tx ty : TypeId) (hown : OwnLe w base e size v n xs) {x : Value} {m : Nat} {news : List Value} (hs : Src P size tx x m news w)
    (h63 : n + m ≤ maxLen) (hbytes : (n + m) * bytes ≤ 140737488355328) (hbase : base ≤ w.heap.size) :
    ∃ v' w', (Builtin.append_ #[t, tx] ty #[v, x]).run P w = .ok v' w' ∧ OwnLe w' base e size v' (n + m) (xs ++ news) ∧ w.grownBy w' v.ownBlock ∧
      (v'.ownBlock = v.ownBlock ∨ v'.ownBlock = some w.heap.size) := by
  have hown0 := hown
  rcases hown.2 with ⟨rfl, rfl⟩ | ⟨g, cap, cur, rfl, hbg, hg, hnc, hcm, hcs, htake⟩
  · have hx : xs = [] := List.eq_nil_of_length_eq_zero (by simpa using hown.1)
    subst hx
    obtain ⟨v', w', h1, h2, h3, h4⟩ := h.run_append tx ty (World.ownsRow_nil w base e size) hs h63 hbytes hbase
    exact ⟨v', w', h1, OwnLe.of_own h2, h3, h4⟩
  · obtain ⟨i, hi, hz, hsize, hby⟩ := info_parts h.info
    have ht := h.und
    subst hsize
    subst hby
    have hsmall : n + m ≤ 9223372036854775807 := by simp only [maxLen] at h63; omega
    have hlen : (xs ++ news).length = (n + m) * i.size := by rw [List.length_append, hown0.1, hs.newsLen, Nat.add_mul]
    by_cases hroom : n + m ≤ cap
    · have hfit : n * i.size + news.length ≤ cur.size := by
        rw [hs.newsLen, ← Nat.add_mul]
        exact Nat.le_trans (Nat.mul_le_mul_right _ hroom) hcs
      have hst := run_storeCells_at P g (n * i.size) e news 0 cur w hg (by simpa using hfit) hs.one
      simp only [Nat.add_zero] at hst
      have hr : (Builtin.append_ #[t, tx] ty #[.slice (some ⟨g, 0, none⟩) n cap, x]).run P w =
          .ok (.slice (some ⟨g, 0, none⟩) (n + m) cap) (w.setRow g (cur.toList.take (n * i.size) ++ news ++ cur.toList.drop (n * i.size + news.length)).toArray) := by
        rcases hs.kind with ⟨e', hk⟩ | hk <;>
          simp [Builtin.append_, run_underlying ht, run_underlying hk, sizeOf, typeInfo, hi, hs.len, hroom, hs.cells, Addr.add_lit, hst]
      refine ⟨_, _, hr, ⟨hlen, .inr ⟨g, cap, _, rfl, hbg, setRow_heap w g cur _ e _ hg, hroom, hcm, ?_, ?_⟩⟩, ⟨rfl, rfl, rfl, by simp, fun k _ hk => setRow_other w g k _ (fun e => hk (by simp [Value.ownBlock, e]))⟩, Or.inl rfl⟩
      · simp only [List.size_toArray, List.length_append, List.length_take, List.length_drop, Array.length_toList]
        omega
      · rw [htake, ← hlen]
        exact List.take_left
    · have holds : ∀ j u, xs[j]? = some u → w.drew.cell? ((⟨g, 0, none⟩ : Addr).add j) = some u := fun j u hu => by
        rw [WideShapes.add_plain, Nat.zero_add]
        exact hown0.cell hu
      have hr := run_append_grow_src w t tx ty e i z ht hi hz (some ⟨g, 0, none⟩) n cap xs (run_firstCells_some w.drew i.size n ⟨g, 0, none⟩ n cap xs hown0.1 holds) x m news hs (by omega) (by omega) (growslice_fits (by omega) hbytes)
      have hgr := h.grown_le i rfl m news hlen h63 hbase cap
      exact ⟨_, _, hr, OwnLe.of_own hgr.1, ⟨hgr.2.os, hgr.2.tape, hgr.2.output, hgr.2.size, fun k hk _ => hgr.2.block k trivial hk⟩, Or.inr rfl⟩
/-- An append of nothing. -/
theorem Elem.run_append_none (h : Elem P t e z size bytes) (tx ty : TypeId) {e' : TypeId} (hk : P.underlying tx = some (.slice e')) (A B : Option Addr) (n c c' : Nat) (hn : n ≤ c) (w : World) :
    (Builtin.append_ #[t, tx] ty #[.slice A n c, .slice B 0 c']).run P w = .ok (.slice A n c) w := by
  obtain ⟨i, hi, hz, hsize, hby⟩ := info_parts h.info
  have ht := h.und
  cases A <;> cases B <;> simp [Builtin.append_, run_underlying ht, run_underlying hk, sizeOf, typeInfo, hi, Builtin.lenOf, Builtin.firstCells, hn, storeCells, loadCells, loadCellsFrom]
/-- An append of something onto a row without room: a new row. -/
theorem Elem.run_append_tight (h : Elem P t e z size bytes) (tx ty : TypeId) {A : Option Addr} (hown : OwnLe w base e size (.slice A n n) n xs) {x : Value} {m : Nat} {news : List Value} (hs : Src P size tx x m news w)
    (hm : 0 < m) (h63 : n + m ≤ maxLen) (hbytes : (n + m) * bytes ≤ 140737488355328) (W : Nat) (hW : W ≤ w.heap.size) :
    ∃ c w', (Builtin.append_ #[t, tx] ty #[.slice A n n, x]).run P w = .ok (.slice (some ⟨w.heap.size, 0, none⟩) (n + m) c) w' ∧ w'.ownsRow W e size (.slice (some ⟨w.heap.size, 0, none⟩) (n + m) c) (n + m) (xs ++ news) ∧ Keeps (fun _ => True) w w' := by
  obtain ⟨i, hi, hz, hsize, hby⟩ := info_parts h.info
  have ht := h.und
  subst hsize
  subst hby
  have hsmall : n + m ≤ 9223372036854775807 := by simp only [maxLen] at h63; omega
  have hlen : (xs ++ news).length = (n + m) * i.size := by rw [List.length_append, hown.1, hs.newsLen, Nat.add_mul]
  have hfc : (Builtin.firstCells i.size n (.slice A n n)).run P w.drew = .ok xs.toArray w.drew := by
    rcases hown.2 with ⟨hv, rfl⟩ | ⟨g, cap, cur, hv, hbg, hg, hnc, hcm, hcs, htake⟩
    · have hx : xs = [] := List.eq_nil_of_length_eq_zero (by simpa using hown.1)
      injection hv with hv
      subst hx hv
      simp [Builtin.firstCells]
    · have hv0 := hv
      injection hv with hv _ hc
      subst hv hc
      exact run_firstCells_some w.drew i.size n ⟨g, 0, none⟩ n n xs hown.1 fun j u hu => by
        rw [WideShapes.add_plain, Nat.zero_add]
        exact hown.cell hu
  have hr := run_append_grow_src w t tx ty e i z ht hi hz A n n xs hfc x m news hs (by omega) (by omega) (growslice_fits (by omega) hbytes)
  have hgr := h.grown_le i rfl m news hlen h63 hW n
  exact ⟨_, _, hr, hgr.1, hgr.2⟩
theorem Elem.list_append_le (h : Elem P t e z size bytes) {ops : Array Oper} {rest : List Oper} {o : Oper} {a : Act} {Q : Exit → Act → World → Prop} (hgd : o.guard = none) (s x : Operand) (tx : TypeId)
    (ho : o.op = .call { callee := .builtin .append, args := #[s, x], argTypes := #[t, tx] })
    (hs : a.eval s = v) (hown : OwnLe w base e size v n xs) {y : Value} {m : Nat} {news : List Value} (hx : a.eval x = y) (hsrc : Src P size tx y m news w)
    (h63 : n + m ≤ maxLen) (hbytes : (n + m) * bytes ≤ 140737488355328) (hbase : base ≤ w.heap.size)
    (hK : ∀ v' w', OwnLe w' base e size v' (n + m) (xs ++ news) → w.grownBy w' v.ownBlock → (v'.ownBlock = v.ownBlock ∨ v'.ownBlock = some w.heap.size) → wpList P ops Q rest (a.put o.dst v') w') :
    wpList P ops Q (o :: rest) a w :=
  wpList_plain hgd fun K hh => by
    obtain ⟨v', w', hr, h2, h3, h4⟩ := h.run_append_le (w := w) tx o.type hown hsrc h63 hbytes hbase
    unfold Oper.wp execOp
    simp only [ho, resolve, invoke, builtin, Sem.run_bind, Sem.run_pure, Result.andThen_ok, List.map_toArray, List.map_cons, List.map_nil, hs, hx, hr]
    exact hh _ _ (hK v' w' h2 h3 h4)
end

end Go.Proofs.YtpijhpfcigjkeaaDoor
