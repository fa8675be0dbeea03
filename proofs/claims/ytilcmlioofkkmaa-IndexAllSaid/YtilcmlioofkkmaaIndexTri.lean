/-
  IndexAll: the index, the law's row of pairs, and the operation's own block, apart from one another.
-/
import Derived.Test.YtilcmlioofkkmaaIndexOps
namespace Go.Proofs.Ytilcmlioofkkmaa.indexAll
open Go Go.RowKit Go.Joins

structure TriAt (S : IndexOK) (W w : World) (q : Nat) (F : Foot) (st rw : IxSt) (v : Value) (ob : Nat) (K : ByteArray) (P : Int) : Prop where
  ix : Ix S W w q F st
  row : OwnLe w W.heap.size 32 2 v rw.length (pairC rw)
  ra : ∀ b, v.ownBlock = some b → ¬ F.all b ∧ b ≠ ob
  oa : ¬ F.all ob
  og : W.heap.size ≤ ob
  ol : ob < w.heap.size
  o1 : w.cell? ⟨ob, 1, none⟩ = some (.string K)
  o2 : w.cell? ⟨ob, 2, none⟩ = some (.int .i64 P)
def Tri (S : IndexOK) (W w : World) (q : Nat) (st rw : IxSt) (v : Value) (ob : Nat) (K : ByteArray) (P : Int) : Prop := ∃ F, TriAt S W w q F st rw v ob K P
/-- The index, and the row of pairs beside it. -/
def Both (S : IndexOK) (W w : World) (q : Nat) (st rw : IxSt) (v : Value) : Prop := ∃ F : Foot, Ix S W w q F st ∧ OwnLe w W.heap.size 32 2 v rw.length (pairC rw) ∧ ∀ b, v.ownBlock = some b → ¬ F.all b
section
variable {S : IndexOK} {W w w' : World} {q : Nat} {F F' : Foot} {st st' rw rw' : IxSt} {v v' : Value} {ob : Nat} {K : ByteArray} {P : Int}
theorem TriAt.keep (h : TriAt S W w q F st rw v ob K P) (hk : Kp w w') : TriAt S W w' q F st rw v ob K P :=
  ⟨h.ix.keep hk, h.row.keep hk fun _ _ => trivial, h.ra, h.oa, h.og, Nat.lt_of_lt_of_le h.ol hk.size, hk.cell h.o1 trivial, hk.cell h.o2 trivial⟩
theorem Tri.keep (h : Tri S W w q st rw v ob K P) (hk : Kp w w') : Tri S W w' q st rw v ob K P := by
  obtain ⟨F, h⟩ := h
  exact ⟨F, h.keep hk⟩
theorem Tri.both (h : Tri S W w q st rw v ob K P) : Both S W w q st rw v := by
  obtain ⟨F, h⟩ := h
  exact ⟨F, h.ix, h.row, fun b hb => (h.ra b hb).1⟩
theorem Tri.below (h : Tri S W w q st rw v ob K P) : Kp W w := by
  obtain ⟨F, h⟩ := h
  exact h.ix.kp
/-- A call on the index. -/
theorem TriAt.step (h : TriAt S W w q F st rw v ob K P) (hr : S.rep w' q F' st') (hs : Step F F' w w') : Tri S W w' q st' rw v ob K P := by
  refine ⟨F', h.ix.step hr hs, h.row.keep hs.keeps fun b hb hm => (h.ra b hb).1 (.inl hm), fun b hb => ⟨fun hb' => ?_, (h.ra b hb).2⟩, fun hb' => ?_, h.og, Nat.lt_of_lt_of_le h.ol hs.keeps.size, hs.keeps.cell h.o1 (fun hm => h.oa (.inl hm)), hs.keeps.cell h.o2 (fun hm => h.oa (.inl hm))⟩
  · rcases hs.all b hb' with h1 | h1
    · exact (h.ra b hb).1 h1
    · have := (h.row.lt b hb).2; omega
  · rcases hs.all ob hb' with h1 | h1
    · exact h.oa h1
    · have := h.ol; omega
theorem tri_put (hT : S.T W) (h : Tri S W w q st rw v ob K P) (hl : st.length ≤ 4096) (k : ByteArray) (p : Int) (hk : k.size ≤ 4096) (hp : i64 p) (x : Int) (hx : x = (ixGet st k).getD 0) (st' : IxSt) (hst : st' = ixPut st k p) :
    Calls Try.prog 12 #[.pointer (some ⟨q, 0, none⟩), .string k, .int .i64 p] w fun e w' => e = .returned (.int .i64 x) ∧ Tri S W w' q st' rw v ob K P := by
  subst hx; subst hst
  obtain ⟨F, h⟩ := h
  refine (S.put W w q F st h.ix.r hT h.ix.kp h.ix.gs hl k p hk hp).mono ?_
  rintro e w' ⟨rfl, F', hr, hs⟩
  exact ⟨rfl, h.step hr hs⟩
theorem tri_drop (hT : S.T W) (h : Tri S W w q st rw v ob K P) (hl : st.length ≤ 4096) (k : ByteArray) (hk : k.size ≤ 4096) (x : Bool) (hx : x = (ixGet st k).isSome) (st' : IxSt) (hst : st' = ixDrop st k) :
    Calls Try.prog 13 #[.pointer (some ⟨q, 0, none⟩), .string k] w fun e w' => e = .returned (.bool x) ∧ Tri S W w' q st' rw v ob K P := by
  subst hx; subst hst
  obtain ⟨F, h⟩ := h
  refine (S.drop W w q F st h.ix.r hT h.ix.kp h.ix.gs hl k hk).mono ?_
  rintro e w' ⟨rfl, F', hr, hs⟩
  exact ⟨rfl, h.step hr hs⟩
theorem tri_below (hT : S.T W) (h : Tri S W w q st rw v ob K P) (hl : st.length ≤ 4096) (p : Int) (hp : i64 p) (x : Int) (hx : x = ((st.length - (ixBelow st p).length : Nat) : Int)) (st' : IxSt) (hst : st' = ixBelow st p) :
    Calls Try.prog 14 #[.pointer (some ⟨q, 0, none⟩), .int .i64 p] w fun e w' => e = .returned (.int .i64 x) ∧ Tri S W w' q st' rw v ob K P := by
  subst hx; subst hst
  obtain ⟨F, h⟩ := h
  refine (S.below W w q F st h.ix.r hT h.ix.kp h.ix.gs hl p hp).mono ?_
  rintro e w' ⟨rfl, F', hr, hs⟩
  exact ⟨rfl, h.step hr hs⟩
theorem tri_get (hT : S.T W) (h : Tri S W w q st rw v ob K P) (hl : st.length ≤ 4096) (k : ByteArray) (hk : k.size ≤ 4096) (x : Int) (b : Bool) (hx : x = (ixGet st k).getD 0) (hb : b = (ixGet st k).isSome) :
    Calls Try.prog 15 #[.pointer (some ⟨q, 0, none⟩), .string k] w fun e w' => e = .returned (.tuple #[.int .i64 x, .bool b]) ∧ Kp w w' ∧ Tri S W w' q st rw v ob K P := by
  subst hx; subst hb
  obtain ⟨F, h⟩ := h
  refine (S.get w q F st h.ix.r (S.tk hT h.ix.kp) hl k hk).mono ?_
  rintro e w' ⟨rfl, hk'⟩
  exact ⟨rfl, hk', F, h.keep hk'⟩
theorem tri_len (hT : S.T W) (h : Tri S W w q st rw v ob K P) (hl : st.length ≤ 4096) (x : Int) (hx : x = (st.length : Int)) :
    Calls Try.prog 16 #[.pointer (some ⟨q, 0, none⟩)] w fun e w' => e = .returned (.int .i64 x) ∧ Kp w w' ∧ Tri S W w' q st rw v ob K P := by
  subst hx
  obtain ⟨F, h⟩ := h
  refine (S.len w q F st h.ix.r (S.tk hT h.ix.kp) hl).mono ?_
  rintro e w' ⟨rfl, hk'⟩
  exact ⟨rfl, hk', F, h.keep hk'⟩
theorem tri_keys (hT : S.T W) (h : Tri S W w q st rw v ob K P) (n : Nat) (hn : n = st.length) (hl : n ≤ 4096) :
    Calls Try.prog 18 #[.pointer (some ⟨q, 0, none⟩)] w fun e w' => ∃ (A : Option Addr) (c : Nat) (ks : List ByteArray), e = .returned (.slice A n c) ∧ ks.Perm (st.map (·.1)) ∧ Rising ks ∧ Row w' A (fun _ => True) (strC ks) ∧ Kp w w' ∧ Tri S W w' q st rw v ob K P := by
  subst hn
  obtain ⟨F, h⟩ := h
  refine (S.keys w q F st h.ix.r (S.tk hT h.ix.kp) hl).mono ?_
  rintro e w' ⟨A, c, ks, rfl, h1, h2, h3, h4, h5, hk'⟩
  exact ⟨A, c, ks, rfl, h1, h2, h5.mono fun _ _ _ => trivial, hk', F, h.keep hk'⟩
/-- A place in the row stored. -/
theorem Tri.store {g n c i : Nat} (h : Tri S W w q st rw (.slice (some ⟨g, 0, none⟩) n c) ob K P) (hi : i < rw.length) (hn : n = rw.length) (p : Int) : Tri S W (w.setCell ⟨g, i * 2 + 1, none⟩ (.int .i64 p)) q st (rw.set i ((rw[i]).1, p)) (.slice (some ⟨g, 0, none⟩) n c) ob K P := by
  subst hn
  obtain ⟨F, h⟩ := h
  have hga := h.ra g rfl
  have hgl := h.row.lt g rfl
  have hrow := h.row.store (i * 2 + 1) (.int .i64 p)
  rw [pairC_set _ _ _ hi] at hrow
  have hl : (rw.set i ((rw[i]).1, p)).length = rw.length := by simp
  rw [← hl] at hrow
  refine ⟨F, ⟨S.keep h.ix.r ((Keeps.refl _ w).setCell (.inr hga.1) _), h.ix.gs, h.ix.kp.setCell (.inl hgl.1) _⟩, ?_, h.ra, h.oa, h.og, by simpa using h.ol, ?_, ?_⟩
  · rw [hl] at hrow ⊢; exact hrow
  · exact ((Keeps.refl (fun b => b ≠ g) w).setCell (p := ⟨g, i * 2 + 1, none⟩) (.inr fun e => e rfl) _).cell h.o1 (fun e => hga.2 e.symm)
  · exact ((Keeps.refl (fun b => b ≠ g) w).setCell (p := ⟨g, i * 2 + 1, none⟩) (.inr fun e => e rfl) _).cell h.o2 (fun e => hga.2 e.symm)
/-- The row grown. -/
theorem Tri.grown (h : Tri S W w q st rw v ob K P) (ho : OwnLe w' W.heap.size 32 2 v' rw'.length (pairC rw')) (hg : w.grownBy w' v.ownBlock) (hb : v'.ownBlock = v.ownBlock ∨ v'.ownBlock = some w.heap.size) : Tri S W w' q st rw' v' ob K P := by
  obtain ⟨F, h⟩ := h
  have hk : Keeps (fun b => v.ownBlock ≠ some b) w w' := Keeps.of_grown hg fun b hb _ hn => hn hb
  have hob : v.ownBlock ≠ some ob := fun e => (h.ra ob e).2 rfl
  refine ⟨F, ⟨S.keep h.ix.r (hk.mono fun b _ hF e => (h.ra b e).1 hF), h.ix.gs, h.ix.kp.grown hg fun b e => (h.row.lt b e).1⟩, ho, fun b e => ?_, h.oa, h.og, Nat.lt_of_lt_of_le h.ol hk.size, hk.cell h.o1 hob, hk.cell h.o2 hob⟩
  rcases hb with e2 | e2
  · exact h.ra b (e2 ▸ e)
  · rw [e2] at e
    injection e with e
    subst e
    exact ⟨fun hF => by have := S.lt h.ix.r _ hF; omega, fun e => by have := h.ol; omega⟩
/-- The row is another one of the call's own. -/
theorem Tri.other (h : Tri S W w q st rw v ob K P) (ho : OwnLe w W.heap.size 32 2 v' rw'.length (pairC rw')) (hb : ∀ b, v'.ownBlock = some b → v.ownBlock = some b ∨ ∃ F, Ix S W w q F st ∧ False) : Tri S W w q st rw' v' ob K P := by
  obtain ⟨F, h⟩ := h
  refine ⟨F, h.ix, ho, fun b e => ?_, h.oa, h.og, h.ol, h.o1, h.o2⟩
  rcases hb b e with e2 | ⟨_, _, hf⟩
  · exact h.ra b e2
  · exact hf.elim
theorem Tri.next {w0 : World} (h : Tri S W w0 q st rw v ob K P) (hk : Kp w0 w) (ho : OwnLe w W.heap.size 32 2 v' rw'.length (pairC rw')) (hb : ∀ b, v'.ownBlock = some b → v.ownBlock = some b ∨ w0.heap.size ≤ b) : Tri S W w q st rw' v' ob K P := by
  obtain ⟨F, h⟩ := h
  have h' := h.keep hk
  refine ⟨F, h'.ix, ho, fun b e => ?_, h'.oa, h'.og, h'.ol, h'.o1, h'.o2⟩
  rcases hb b e with e2 | e2
  · exact h.ra b e2
  · exact ⟨fun hF => by have := S.lt h.ix.r _ hF; omega, fun e => by have := h.ol; omega⟩
theorem Tri.pair_at {g n c i : Nat} (h : Tri S W w q st rw (.slice (some ⟨g, 0, none⟩) n c) ob K P) (hn : n = rw.length) (hi : i < rw.length) : w.cell? ⟨g, i * 2, none⟩ = some (.string rw[i].1) ∧ w.cell? ⟨g, i * 2 + 1, none⟩ = some (.int .i64 rw[i].2) := by
  subst hn
  obtain ⟨F, h⟩ := h
  obtain ⟨p0, p1⟩ := pairC_at rw i hi
  exact ⟨h.row.cell p0, h.row.cell p1⟩
theorem Tri.pairs {A : Option Addr} {n c : Nat} (h : Tri S W w q st rw (.slice A n c) ob K P) (hn : n = rw.length) : PairsAt w A (fun _ => True) rw := by
  subst hn
  obtain ⟨F, h⟩ := h
  exact PairsAt.of_own h.row rfl
theorem Tri.frozen {g n c : Nat} (h : Tri S W w q st rw (.slice (some ⟨g, 0, none⟩) n c) ob K P) (hn : n = rw.length) (i : Nat) : w.frozen? ⟨g, i, none⟩ = false := by
  subst hn
  obtain ⟨F, h⟩ := h
  exact h.row.frozen i
theorem Tri.head {A : Option Addr} {n c : Nat} (h : Tri S W w q st rw (.slice A n c) ob K P) (hn : n = rw.length) (h0 : 0 < n) : ∃ g, A = some ⟨g, 0, none⟩ := by
  subst hn
  obtain ⟨F, h⟩ := h
  obtain ⟨A', c', e, -, -, hg⟩ := h.row.form
  injection e with e _ _
  subst e
  obtain ⟨g, e, -⟩ := hg h0
  exact ⟨g, e⟩
theorem Tri.o1 (h : Tri S W w q st rw v ob K P) : w.cell? ⟨ob, 1, none⟩ = some (.string K) := by obtain ⟨F, h⟩ := h; exact h.o1
theorem Tri.o2 (h : Tri S W w q st rw v ob K P) : w.cell? ⟨ob, 2, none⟩ = some (.int .i64 P) := by obtain ⟨F, h⟩ := h; exact h.o2
theorem Tri.ol (h : Tri S W w q st rw v ob K P) : ob < w.heap.size := by obtain ⟨F, h⟩ := h; exact h.ol
theorem Tri.row (h : Tri S W w q st rw v ob K P) : OwnLe w W.heap.size 32 2 v rw.length (pairC rw) := by obtain ⟨F, h⟩ := h; exact h.row
/-- The operation's block, laid. -/
theorem Both.tri (h : Both S W w q st rw v) (hk : Kp w w') (ho : w'.heap.size = w.heap.size + 1) (h1 : w'.cell? ⟨w.heap.size, 1, none⟩ = some (.string K)) (h2 : w'.cell? ⟨w.heap.size, 2, none⟩ = some (.int .i64 P)) : Tri S W w' q st rw v w.heap.size K P := by
  obtain ⟨F, hi, hr, ha⟩ := h
  refine ⟨F, hi.keep hk, hr.keep hk fun _ _ => trivial, fun b e => ⟨ha b e, fun e2 => by have := (hr.lt b e).2; omega⟩, fun hF => by have := S.lt hi.r _ hF; omega, hi.kp.size, by omega, h1, h2⟩
end

theorem src_pair (W : World) (k : ByteArray) (p : Int) : Src Try.prog 2 26 (.slice (some ⟨W.heap.size, 0, none⟩) 1 1) 1 [.string k, .int .i64 p] (W.alloc (.cells #[.string k, .int .i64 p] 32)) :=
  Src.ofSlice _ Try.underlying26 ⟨W.heap.size, 0, none⟩ 1 1 [.string k, .int .i64 p] rfl (fun j v hv => by
    rw [WideShapes.add_plain, Nat.zero_add]
    exact (cell_alloc_mark_at W _ _ _ W.heap.size j rfl).trans (by rw [← hv, ← Array.getElem?_toList])) (fun v hv => by
    simp only [List.mem_cons, List.not_mem_nil, or_false] at hv
    rcases hv with rfl | rfl <;> rfl)

theorem src_key (W : World) (s : ByteArray) : Src Try.prog 1 36 (.slice (some ⟨W.heap.size, 0, none⟩) 1 1) 1 [.string s] (W.alloc (.cells #[.string s] 9)) :=
  src_one Try.underlying36 W (.string s) 9 rfl W.heap.size rfl 1
theorem OwnLe.base {w : World} {base base' size n : Nat} {e : TypeId} {v : Value} {xs : List Value} (h : OwnLe w base e size v n xs) (hb : base' ≤ base) : OwnLe w base' e size v n xs := by
  refine ⟨h.1, ?_⟩
  rcases h.2 with h | ⟨g, cap, cur, rfl, h2, h3⟩
  · exact .inl h
  · exact .inr ⟨g, cap, cur, rfl, Nat.le_trans hb h2, h3⟩
theorem below_take {st : IxSt} {t : Nat} (ht : t < st.length) (p : Int) : ixBelow (st.take (t + 1)) p = ixBelow (st.take t) p ++ (if p ≤ st[t].2 then [st[t]] else []) := by
  unfold ixBelow
  rw [List.take_succ_eq_append_getElem ht, List.filter_append]
  congr 1
  by_cases h : p ≤ st[t].2 <;> simp [h]
def keyC (st : IxSt) (t : Nat) : List Value := strC ((st.take t).map (·.1))
theorem keyC_succ {st : IxSt} {t : Nat} (ht : t < st.length) : keyC st (t + 1) = keyC st t ++ [.string st[t].1] := by
  unfold keyC strC
  rw [List.take_succ_eq_append_getElem ht, List.map_append, List.map_append]
  rfl
/-! ### Region 25: append(l[:k:k], l[k+1:]...) -/
section
variable {o : Oper} {a : Act} {w : World} {Q : Exit → Act → World → Prop} {x y z : Operand} {g n c k : Nat}
theorem kp_first2 (hk : k ≤ n) (hn : n ≤ c) (hc : c ≤ 9223372036854775807) (ho : o.op = .slice 26 x none (some y) (some z)) (hx : a.eval x = .slice (some ⟨g, 0, none⟩) n c) (hy : a.eval y = .int .i64 (k : Int)) (hz : a.eval z = .int .i64 (k : Int)) :
    o.wp Try.prog a w (fun a' w' => ∃ v, a' = a.put o.dst v ∧ Kp w w' ∧ IsV (.slice (some ⟨g, 0, none⟩) k k) w' v) Q := by
  refine kp_yield (v := .slice (some ⟨g, 0, none⟩) k k) (w' := w) ?_ (Keeps.refl _ _) rfl
  generalize a.eval = ρ at hx hy hz ⊢
  unfold execOp
  have hkc : k ≤ c := by omega
  go_simp
def restA (g k c : Nat) : Option Addr := if c = k then some ⟨g, 0, none⟩ else some ⟨g, k * 2, none⟩
theorem kp_rest2 (hk : k ≤ n) (hn : n ≤ c) (hc : c ≤ 9223372036854775807) (ho : o.op = .slice 26 x (some y) none none) (hx : a.eval x = .slice (some ⟨g, 0, none⟩) n c) (hy : a.eval y = .int .i64 (k : Int)) :
    o.wp Try.prog a w (fun a' w' => ∃ v, a' = a.put o.dst v ∧ Kp w w' ∧ IsV (.slice (restA g k c) (n - k) (c - k)) w' v) Q := by
  refine kp_yield (v := .slice (restA g k c) (n - k) (c - k)) (w' := w) ?_ (Keeps.refl _ _) rfl
  generalize a.eval = ρ at hx hy ⊢
  unfold execOp
  have hkc : k ≤ c := by omega
  by_cases hck : c = k
  · subst hck
    obtain rfl : n = c := by omega
    go_simp
    simp [restA]
  · go_simp
    simp [restA, hck]
theorem kp_inc (hk : k ≤ 1000000) (ho : o.op = .binOp .add 3 x (.const (.int .i64 1)) 3) (hx : a.eval x = .int .i64 (k : Int)) :
    o.wp Try.prog a w (fun a' w' => ∃ v, a' = a.put o.dst v ∧ Kp w w' ∧ IsV (.int .i64 ((k + 1 : Nat) : Int)) w' v) Q := by
  have hc : a.eval (.const (.int .i64 1)) = .int .i64 1 := rfl
  have e : IntKind.i64.wrap ((k : Int) + 1) = ((k + 1 : Nat) : Int) := by rw [IntKind.wrap_i64]; omega
  refine kp_yield (v := .int .i64 ((k + 1 : Nat) : Int)) (w' := w) ?_ (Keeps.refl _ _) rfl
  generalize a.eval = ρ at hx hc ⊢
  unfold execOp
  go_simp
/-- What it leaves. -/
def Out25 (base w5 g : Nat) (l : IxSt) (m : Nat) (w : World) (v : Value) : Prop := OwnLe w base 32 2 v m (pairC l) ∧ ∀ b, v.ownBlock = some b → b = g ∨ w5 ≤ b
theorem kp_app25 {base w5 : Nat} {rw : IxSt} (hb : base ≤ w.heap.size) (h5 : w5 ≤ w.heap.size) (hn : n = rw.length) (hnl : n ≤ 1000) (hc : n ≤ c) (hk : k < n) (hrow : OwnLe w base 32 2 (.slice (some ⟨g, 0, none⟩) n c) n (pairC rw))
    (ho : o.op = .call { callee := .builtin .append, args := #[x, y], argTypes := #[26, 26] }) (hx : a.eval x = .slice (some ⟨g, 0, none⟩) k k) (hy : a.eval y = .slice (restA g (k + 1) c) (n - (k + 1)) (c - (k + 1))) :
    o.wp Try.prog a w (fun a' w' => ∃ v, a' = a.put o.dst v ∧ Kp w w' ∧ Out25 base w5 g (rw.take k ++ rw.drop (k + 1)) (n - 1) w' v) Q := by
  have hfirst := hrow.first (k := k) (by omega)
  rw [pairC_take] at hfirst
  rcases Nat.eq_zero_or_pos (n - (k + 1)) with h0 | h0
  · rw [h0] at hy
    have hd : rw.drop (k + 1) = [] := List.drop_eq_nil_of_le (by omega)
    have hkn : n - 1 = k := by omega
    refine wp_appended (V := Out25 base w5 g (rw.take k ++ rw.drop (k + 1)) (n - 1)) ho hx hy (pair_elem.run_append_none 26 o.type Try.underlying26 _ _ k k _ (Nat.le_refl _) w) (Keeps.refl _ _) ⟨?_, fun b hb => ?_⟩
    · rw [hd, List.append_nil, hkn]; exact hfirst
    · injection hb with hb
      exact .inl hb.symm
  · have hne : ¬ c = k + 1 := by omega
    have ha : restA g (k + 1) c = some ⟨g, (k + 1) * 2, none⟩ := by unfold restA; rw [if_neg hne]
    rw [ha] at hy
    have hsrc : Src Try.prog 2 26 (.slice (some ⟨g, (k + 1) * 2, none⟩) (n - (k + 1)) (c - (k + 1))) (n - (k + 1)) (pairC (rw.drop (k + 1))) w :=
      Src.ofSlice _ Try.underlying26 ⟨g, (k + 1) * 2, none⟩ _ _ _ (by rw [pairC_len, List.length_drop, hn]) (fun j u hu => by
        rw [WideShapes.add_plain]
        rw [← pairC_drop, List.getElem?_drop] at hu
        exact hrow.cell hu) (pairC_one _)
    obtain ⟨c', w', hrun, ho2, hk2⟩ := pair_elem.run_append_tight 26 o.type hfirst hsrc h0 (by unfold maxLen; omega) (by omega) base hb
    refine wp_appended (V := Out25 base w5 g (rw.take k ++ rw.drop (k + 1)) (n - 1)) ho hx hy hrun hk2 ⟨?_, fun b hb => ?_⟩
    · rw [pairC_app, show n - 1 = k + (n - (k + 1)) by omega]
      exact OwnLe.of_own ho2
    · injection hb with hb
      have hb : w.heap.size = b := hb
      exact .inr (by omega)
def V25 (base w5 g n c k : Nat) (rw : IxSt) : Nat → World → Value → Prop
  | 0 => IsV (.slice (some ⟨g, 0, none⟩) n c)
  | 1 => IsV (.int .i64 (k : Int))
  | 2 => IsV (.int .i64 (k : Int))
  | 3 => IsV (.slice (some ⟨g, 0, none⟩) k k)
  | 4 => IsV (.slice (some ⟨g, 0, none⟩) n c)
  | 5 => IsV (.int .i64 (k : Int))
  | 6 => IsV (.int .i64 ((k + 1 : Nat) : Int))
  | 7 => IsV (.slice (restA g (k + 1) c) (n - (k + 1)) (c - (k + 1)))
  | 8 => Out25 base w5 g (rw.take k ++ rw.drop (k + 1)) (n - 1)
  | 9 => Out25 base w5 g (rw.take k ++ rw.drop (k + 1)) (n - 1)
  | _ => fun _ _ => True
theorem V25_keep {base w5 g n c k : Nat} {rw : IxSt} (j : Nat) (w w' : World) (v : Value) (h : Kp w w') (hv : V25 base w5 g n c k rw j w v) : V25 base w5 g n c k rw j w' v := by
  match j, hv with
  | 0, hv => exact hv
  | 1, hv => exact hv
  | 2, hv => exact hv
  | 3, hv => exact hv
  | 4, hv => exact hv
  | 5, hv => exact hv
  | 6, hv => exact hv
  | 7, hv => exact hv
  | 8, hv => exact ⟨hv.1.keep h fun _ _ => trivial, hv.2⟩
  | 9, hv => exact ⟨hv.1.keep h fun _ _ => trivial, hv.2⟩
  | n + 10, _ => trivial
end

end Go.Proofs.Ytilcmlioofkkmaa.indexAll
