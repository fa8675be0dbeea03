/-
  TokenAll's OBJECTS SIDE BY SIDE: the program's rights, the reference's, the operation at hand.
-/
import Derived.Test.YtoegdfiehjabjaaTkRefs
import Derived.Test.YtoegdfiehjabjaaTkTexts
import Derived.Test.YtoegdfiehjabjaaInvTwo
namespace Go.Proofs.Ytoegdfiehjabjaa
open Go Go.RowKit Go.Joins

structure Op18 where
  kind : Int
  id : Int
  key : ByteArray
  keys : List ByteArray
  ka : Option Addr
  kc : Nat
/-- The operation's block. -/
def OBlk (w : World) (g : Nat) (kd id : Int) (key : ByteArray) (K : Value) : Prop := w.heap[g]? = some (.cells #[.int .i64 kd, .int .i64 id, .string key, K] 32 (0, 0))
section
variable {w w' : World} {g : Nat} {kd id : Int} {key : ByteArray} {K : Value} {G : Nat → Prop}
theorem OBlk.lt (h : OBlk w g kd id key K) : g < w.heap.size := (Array.getElem?_eq_some_iff.1 h).1
theorem OBlk.keep (h : OBlk w g kd id key K) (hk : Keeps G w w') (hG : G g) : OBlk w' g kd id key K := (hk.block g hG h.lt).trans h
theorem OBlk.c0 (h : OBlk w g kd id key K) : w.cell? ⟨g, 0, none⟩ = some (.int .i64 kd) := (cell_of_block h 0).trans rfl
theorem OBlk.c1 (h : OBlk w g kd id key K) : w.cell? ⟨g, 1, none⟩ = some (.int .i64 id) := (cell_of_block h 1).trans rfl
theorem OBlk.c2 (h : OBlk w g kd id key K) : w.cell? ⟨g, 2, none⟩ = some (.string key) := (cell_of_block h 2).trans rfl
theorem OBlk.c3 (h : OBlk w g kd id key K) : w.cell? ⟨g, 3, none⟩ = some K := (cell_of_block h 3).trans rfl
theorem OBlk.fz (h : OBlk w g kd id key K) (i : Nat) : w.frozen? ⟨g, i, none⟩ = false := unfrozen_of_block h i
theorem OBlk.set2 (h : OBlk w g kd id key K) (x : ByteArray) : OBlk (w.setCell ⟨g, 2, none⟩ (.string x)) g kd id x K := (block_setCell h _).trans rfl
theorem OBlk.set3 (h : OBlk w g kd id key K) (K' : Value) : OBlk (w.setCell ⟨g, 3, none⟩ K') g kd id key K' := (block_setCell h _).trans rfl
end
/-- A slice of texts in blocks from n0 on. -/
def TV18 (n0 : Nat) (ks : List ByteArray) (w : World) (v : Value) : Prop := ∃ A c, v = .slice A ks.length c ∧ ks.length ≤ c ∧ c ≤ maxLen ∧ Row w A (fun b => n0 ≤ b ∧ b < w.heap.size) (ks.map Value.string)
theorem TV18.keep {n0 : Nat} {ks : List ByteArray} {w w' : World} {v : Value} (h : TV18 n0 ks w v) (hk : Keeps (fun b => n0 ≤ b) w w') : TV18 n0 ks w' v := by
  obtain ⟨A, c, e, h1, h2, h3⟩ := h
  exact ⟨A, c, e, h1, h2, (h3.keep (hk.mono fun b _ hb => hb.1)).mono fun b _ hb => ⟨hb.1, Nat.lt_of_lt_of_le hb.2 hk.size⟩⟩

/-- The program's rights L and the reference's M, apart. -/
structure TA (S : TokensOK) (W w : World) (t r : Nat) (L M : List Tk) (F : Nat → Prop) (A : Option Addr) (c : Nat) : Prop where
  at_ : S.At W w t F L
  rf : RTk W w r M A c
  dj : ∀ b, F b → ¬ RG r A b
section
variable {S : TokensOK} {W w w' : World} {t r : Nat} {L L' M M' : List Tk} {F F' : Nat → Prop} {A A' : Option Addr} {c c' : Nat}
theorem TA.keep (h : TA S W w t r L M F A c) (hk : Keeps (fun b => F b ∨ RG r A b) w w') (hW : Kp W w') : TA S W w' t r L M F A c :=
  ⟨S.atKeep h.at_ (hk.mono fun _b _ hb => .inl hb) hW, h.rf.keep (hk.mono fun _b _ hb => .inr hb) hW, h.dj⟩
theorem TA.kp (h : TA S W w t r L M F A c) (hk : Kp w w') : TA S W w' t r L M F A c := h.keep (hk.mono fun _ _ _ => trivial) (h.rf.kp.trans hk)
theorem TA.lt (h : TA S W w t r L M F A c) : ∀ b, (F b ∨ RG r A b) → W.heap.size ≤ b ∧ b < w.heap.size := fun b hb => by
  rcases hb with hb | hb
  · exact (S.atIn h.at_).2 b hb
  · exact h.rf.inn b hb
/-- The program's rights go on. -/
theorem TA.prog (h : TA S W w t r L M F A c) (h1 : S.At W w' t F' L') (h2 : ∀ b, F' b → F b ∨ w.heap.size ≤ b) (h3 : Keeps (fun b => ¬ F b) w w') : TA S W w' t r L' M F' A c :=
  ⟨h1, h.rf.keep (h3.mono fun b _ hb hf => h.dj b hf hb) (S.past h.at_ h3), fun b hb hr => by
    rcases h2 b hb with hh | hh
    · exact h.dj b hh hr
    · have := (h.rf.inn b hr).2; omega⟩
/-- The reference's do. -/
theorem TA.ref (h : TA S W w t r L M F A c) (h1 : RTk W w' r M' A' c') (h2 : ∀ b, RG r A' b → RG r A b ∨ w.heap.size ≤ b) (h3 : Keeps (fun b => ¬ RG r A b) w w') : TA S W w' t r L M' F A' c' :=
  ⟨S.atKeep h.at_ (h3.mono fun b _ hb hr => h.dj b hb hr) h1.kp, h1, fun b hb hr => by
    rcases h2 b hr with hh | hh
    · exact h.dj b hb hh
    · have := ((S.atIn h.at_).2 b hb).2; omega⟩
end
/-- With the operation's block and its row of keys. -/
structure TO (S : TokensOK) (W w : World) (t r g : Nat) (L M : List Tk) (F : Nat → Prop) (A : Option Addr) (c : Nat) (kd id : Int) (key : ByteArray) (K : Option Addr) (kc : Nat) (ks : List ByteArray) (Gk : Nat → Prop) : Prop where
  ta : TA S W w t r L M F A c
  ob : OBlk w g kd id key (.slice K ks.length kc)
  kr : Row w K Gk (ks.map Value.string)
  ap : ∀ b, (b = g ∨ Gk b) → ¬ (F b ∨ RG r A b) ∧ b < w.heap.size
section
variable {S : TokensOK} {W w w' : World} {t r g : Nat} {L L' M M' : List Tk} {F F' : Nat → Prop} {A A' : Option Addr} {c c' : Nat} {kd id : Int} {key : ByteArray} {K : Option Addr} {kc : Nat} {ks : List ByteArray} {Gk : Nat → Prop}
theorem TO.kp (h : TO S W w t r g L M F A c kd id key K kc ks Gk) (hk : Kp w w') : TO S W w' t r g L M F A c kd id key K kc ks Gk :=
  ⟨h.ta.kp hk, h.ob.keep hk trivial, h.kr.keep (hk.mono fun _ _ _ => trivial), fun b hb => ⟨(h.ap b hb).1, Nat.lt_of_lt_of_le (h.ap b hb).2 hk.size⟩⟩
theorem TO.prog (h : TO S W w t r g L M F A c kd id key K kc ks Gk) (h1 : S.At W w' t F' L') (h2 : ∀ b, F' b → F b ∨ w.heap.size ≤ b) (h3 : Keeps (fun b => ¬ F b) w w') : TO S W w' t r g L' M F' A c kd id key K kc ks Gk :=
  ⟨h.ta.prog h1 h2 h3, h.ob.keep h3 (fun hf => (h.ap g (.inl rfl)).1 (.inl hf)), h.kr.keep (h3.mono fun b _ hb hf => (h.ap b (.inr hb)).1 (.inl hf)), fun b hb => ⟨fun hf => by
    have hq := h.ap b hb
    rcases hf with hf | hf
    · rcases h2 b hf with hh | hh
      · exact hq.1 (.inl hh)
      · omega
    · exact hq.1 (.inr hf), Nat.lt_of_lt_of_le (h.ap b hb).2 h3.size⟩⟩
theorem TO.ref (h : TO S W w t r g L M F A c kd id key K kc ks Gk) (h1 : RTk W w' r M' A' c') (h2 : ∀ b, RG r A' b → RG r A b ∨ w.heap.size ≤ b) (h3 : Keeps (fun b => ¬ RG r A b) w w') : TO S W w' t r g L M' F A' c' kd id key K kc ks Gk :=
  ⟨h.ta.ref h1 h2 h3, h.ob.keep h3 (fun hf => (h.ap g (.inl rfl)).1 (.inr hf)), h.kr.keep (h3.mono fun b _ hb hf => (h.ap b (.inr hb)).1 (.inr hf)), fun b hb => ⟨fun hf => by
    have hq := h.ap b hb
    rcases hf with hf | hf
    · exact hq.1 (.inl hf)
    · rcases h2 b hf with hh | hh
      · exact hq.1 (.inr hh)
      · omega, Nat.lt_of_lt_of_le (h.ap b hb).2 h3.size⟩⟩
end

/-! ### o.Key, o.Keys = Cut(o.Key, 30), Texts(o.Keys, 4, 30) -/
def SC (w0 : World) (g : Nat) (kd id : Int) (_key key' : ByteArray) (K : Value) (ks' : List ByteArray) : Bool → Bool → World → Prop
  | false, false, w => Kp w0 w
  | true, false, w => Keeps (fun b => b ≠ g) w0 w ∧ OBlk w g kd id key' K
  | true, true, w => Keeps (fun b => b ≠ g) w0 w ∧ ∃ K', OBlk w g kd id key' K' ∧ TV18 w0.heap.size ks' w K'
  | false, true, _ => False
theorem SC.keep {w0 w w' : World} {g : Nat} {kd id : Int} {key key' : ByteArray} {K : Value} {ks' : List ByteArray} {b c : Bool} (h : SC w0 g kd id key key' K ks' b c w) (hk : Kp w w') : SC w0 g kd id key key' K ks' b c w' := by
  cases b <;> cases c
  · exact Keeps.trans h hk
  · exact h
  · exact ⟨h.1.trans (hk.mono fun _ _ _ => trivial), h.2.keep hk trivial⟩
  · obtain ⟨h1, K', h2, h3⟩ := h
    exact ⟨h1.trans (hk.mono fun _ _ _ => trivial), K', h2.keep hk trivial, h3.keep (hk.mono fun _ _ _ => trivial)⟩
def VC (n0 g : Nat) (key key' : ByteArray) (K : Value) (ks' : List ByteArray) : Nat → World → Value → Prop
  | 0 => IsV (.pointer (some ⟨g, 2, none⟩))
  | 1 => IsV (.string key)
  | 2 => IsV (.string key')
  | 3 => IsV (.pointer (some ⟨g, 3, none⟩))
  | 4 => IsV K
  | 5 => TV18 n0 ks'
  | 6 => IsV (.pointer (some ⟨g, 2, none⟩))
  | 8 => IsV (.pointer (some ⟨g, 3, none⟩))
  | _ => fun _ _ => True
theorem VC_keep {n0 g : Nat} {key key' : ByteArray} {K : Value} {ks' : List ByteArray} (i : Nat) (w w' : World) (v : Value) (hk : Keeps (fun b => n0 ≤ b) w w') (h : VC n0 g key key' K ks' i w v) : VC n0 g key key' K ks' i w' v := by
  unfold VC at h ⊢
  split at h
  case h_6 => exact h.keep hk
  all_goals exact h
section
variable {o : Oper} {a : Act} {w : World} {Q : Exit → Act → World → Prop} {x y : Operand}
theorem kp_fO18 {b n : Nat} (hn : n = 2 ∨ n = 3) (ho : o.op = .fieldAddr 32 x n) (hx : a.eval x = .pointer (some ⟨b, 0, none⟩)) : o.wp Try.prog a w (fun a' w' => ∃ v, a' = a.put o.dst v ∧ Kp w w' ∧ IsV (.pointer (some ⟨b, n, none⟩)) w' v) Q := by
  refine kp_yield (v := .pointer (some ⟨b, n, none⟩)) (w' := w) ?_ (Keeps.refl _ _) rfl
  generalize a.eval = ρ at hx ⊢
  unfold execOp
  rw [ho]
  rcases hn with rfl | rfl <;> go_simp
theorem kp_ldS18 {p : Addr} {s : ByteArray} (hc : w.cell? p = some (.string s)) (ho : o.op = .load 9 x) (hx : a.eval x = .pointer (some p)) : o.wp Try.prog a w (fun a' w' => ∃ v, a' = a.put o.dst v ∧ Kp w w' ∧ IsV (.string s) w' v) Q := by
  refine kp_yield (v := .string s) (w' := w) ?_ (Keeps.refl _ _) rfl
  generalize a.eval = ρ at hx ⊢
  unfold execOp
  rw [ho]
  go_simp
theorem kp_ldK18 {p : Addr} {A : Option Addr} {n c : Nat} (hc : w.cell? p = some (.slice A n c)) (ho : o.op = .load 30 x) (hx : a.eval x = .pointer (some p)) : o.wp Try.prog a w (fun a' w' => ∃ v, a' = a.put o.dst v ∧ Kp w w' ∧ IsV (.slice A n c) w' v) Q := by
  refine kp_yield (v := .slice A n c) (w' := w) ?_ (Keeps.refl _ _) rfl
  generalize a.eval = ρ at hx ⊢
  unfold execOp
  rw [ho]
  go_simp
theorem kp_cut18 {s : ByteArray} {_z : Int} (hs : s.size ≤ maxLen) (ho : o.op = .call { callee := .value (.func 9), args := #[x, .const (.int .i64 30)], argTypes := #[9, 3] }) (hx : a.eval x = .string s) : o.wp Try.prog a w (fun a' w' => ∃ v, a' = a.put o.dst v ∧ Kp w w' ∧ IsV (.string (cutZ s 30)) w' v) Q := by
  have hg : a.eval (.func 9) = .func (.func 9) #[] #[] := rfl
  have hz : a.eval (.const (.int .i64 30)) = .int .i64 30 := rfl
  refine kp_enter (f := 9) (args := #[.string s, .int .i64 30]) ?_ (show Calls _ _ _ _ _ from tcut_any s 30 hs (by decide) w) ?_
  · generalize a.eval = ρ at hx hg hz ⊢
    unfold execOp
    rw [ho]
    go_simp
  · rintro e w' ⟨rfl, rfl⟩
    exact ⟨_, rfl, Keeps.refl _ _, rfl⟩
theorem kp_texts18 {A : Option Addr} {c n n0 : Nat} {ss : List ByteArray} (hn : n = ss.length) (hl : ss.length ≤ c) (hc : c ≤ maxLen) (hr : Row w A (fun b => b < w.heap.size) (ss.map Value.string)) (hs : ∀ s ∈ ss, s.size ≤ maxLen) (h0 : n0 ≤ w.heap.size)
    (ho : o.op = .call { callee := .value (.func 10), args := #[x, .const (.int .i64 4), .const (.int .i64 30)], argTypes := #[30, 3, 3] }) (hx : a.eval x = .slice A n c) : o.wp Try.prog a w (fun a' w' => ∃ v, a' = a.put o.dst v ∧ Kp w w' ∧ TV18 n0 (cutsN 4 30 ss) w' v) Q := by
  subst hn
  have hg : a.eval (.func 10) = .func (.func 10) #[] #[] := rfl
  have hz : a.eval (.const (.int .i64 30)) = .int .i64 30 := rfl
  have hz4 : a.eval (.const (.int .i64 4)) = .int .i64 4 := rfl
  refine kp_enter (f := 10) (args := #[.slice A ss.length c, .int .i64 4, .int .i64 30]) ?_ (texts_n w 4 30 (by decide) (by decide) 4 30 rfl rfl A c ss hl hc hr hs) ?_
  · generalize a.eval = ρ at hx hg hz hz4 ⊢
    clear hr hs
    unfold execOp
    rw [ho]
    go_simp
  · rintro e w' ⟨A', c', rfl, h1, h2, h3, hk⟩
    exact ⟨_, rfl, hk, A', c', rfl, h1, h2, h3.mono fun b _ hb => ⟨Nat.le_trans h0 hb.1, hb.2⟩⟩
end

/-! ### a call of each, one behind the other -/
def S18 (S : TokensOK) (W : World) (t r g : Nat) (L L1 : List Tk) (kd id : Int) (key : ByteArray) (K : Option Addr) (kc : Nat) (ks : List ByteArray) (Gk : Nat → Prop) (b c : Bool) (w : World) : Prop :=
  ∃ F A cc, TO S W w t r g (cond b L1 L) (cond c L1 L) F A cc kd id key K kc ks Gk
theorem S18.keep {S : TokensOK} {W w w' : World} {t r g : Nat} {L L1 : List Tk} {kd id : Int} {key : ByteArray} {K : Option Addr} {kc : Nat} {ks : List ByteArray} {Gk : Nat → Prop} {b c : Bool} (h : S18 S W t r g L L1 kd id key K kc ks Gk b c w) (hk : Kp w w') : S18 S W t r g L L1 kd id key K kc ks Gk b c w' := by
  obtain ⟨F, A, cc, h⟩ := h
  exact ⟨F, A, cc, h.kp hk⟩
section
variable {o : Oper} {a : Act} {w : World} {Q : Exit → Act → World → Prop} {x y : Operand}
theorem kp_neN18 {m n : Int} {b : Bool} (hb : (m != n) = b) (ho : o.op = .binOp .neq 2 x y 2) (hx : a.eval x = .int .i64 m) (hy : a.eval y = .int .i64 n) : o.wp Try.prog a w (fun a' w' => ∃ v, a' = a.put o.dst v ∧ Kp w w' ∧ IsV (.bool b) w' v) Q := by
  subst hb
  refine kp_yield (v := .bool (m != n)) (w' := w) ?_ (Keeps.refl _ _) rfl
  generalize a.eval = ρ at hx hy ⊢
  unfold execOp
  rw [ho]
  go_simp
theorem kp_neI18 {m n : Int} {b : Bool} (hb : (m != n) = b) (ho : o.op = .binOp .neq 3 x y 3) (hx : a.eval x = .int .i64 m) (hy : a.eval y = .int .i64 n) : o.wp Try.prog a w (fun a' w' => ∃ v, a' = a.put o.dst v ∧ Kp w w' ∧ IsV (.bool b) w' v) Q := by
  subst hb
  refine kp_yield (v := .bool (m != n)) (w' := w) ?_ (Keeps.refl _ _) rfl
  generalize a.eval = ρ at hx hy ⊢
  unfold execOp
  rw [ho]
  go_simp
theorem one_enter18 {P : Program} {X : World → Value → Prop} {f : FuncId} {args : Array Value} {C : Ending → World → Prop} (e : (execOp a.eval o).run P w = .ok (.enter f args) w) (hc : Calls P f args w C)
    (hC : ∀ e w', C e w' → ∃ v, e = .returned v ∧ X w' v) : o.wp P a w (fun a' w' => ∃ v, a' = a.put o.dst v ∧ X w' v) Q := by
  unfold Oper.wp
  rw [e]
  refine hc.mono fun e w' h => ?_
  obtain ⟨v, rfl, hv⟩ := hC e w' h
  exact ⟨v, rfl, hv⟩
end

end Go.Proofs.Ytoegdfiehjabjaa
