/-
  LeaseAll's STATE: the program's lease and the reference's side by side; its operations one by one (layer 17).
-/
import Derived.Test.YtdgpkdcolljpjaaLsBegun
import Derived.Test.YtdgpkdcolljpjaaLsRef
import Derived.Test.YtdgpkdcolljpjaaInvG
import Derived.Test.YtdgpkdcolljpjaaStageLaws
namespace Go.Proofs.Ytdgpkdcolljpjaa
open Go Go.RowKit Go.Joins

/-- An operation. -/
structure Op16 where
  kind : Int
  n : Int
  e : Int
instance : Inhabited Op16 := ⟨⟨0, 0, 0⟩⟩
def Op16sAt (W : World) (A : Option Addr) (F : Nat → Prop) (l : List Op16) : Prop := ∀ k (h : k < l.length), ∃ b o, A = some ⟨b, o, none⟩ ∧ F b ∧ W.cell? ⟨b, o + k * 3, none⟩ = some (.int .i64 l[k].kind) ∧
  W.cell? ⟨b, o + k * 3 + 1, none⟩ = some (.int .i64 l[k].n) ∧ W.cell? ⟨b, o + k * 3 + 2, none⟩ = some (.int .i64 l[k].e)
theorem Op16sAt.keep {W W' : World} {A : Option Addr} {F : Nat → Prop} {l : List Op16} (h : Op16sAt W A F l) (hk : Keeps F W W') : Op16sAt W' A F l := fun k hl => by
  obtain ⟨b, o, e, hF, c0, c1, c2⟩ := h k hl
  exact ⟨b, o, e, hF, hk.cell c0 hF, hk.cell c1 hF, hk.cell c2 hF⟩
def obcells (x : Op16) : Array Value := #[.int .i64 x.kind, .int .i64 x.n, .int .i64 x.e]
def OBk (w : World) (p : Nat) (x : Op16) : Prop := w.heap[p]? = some (.cells (obcells x) 33 (0, 0))
section
variable {w w' : World} {p : Nat} {x : Op16} {G : Nat → Prop}
theorem OBk.keep (h : OBk w p x) (hk : Keeps G w w') (hq : G p) : OBk w' p x := (hk.block p hq (Array.getElem?_eq_some_iff.1 h).1).trans h
theorem OBk.lt (h : OBk w p x) : p < w.heap.size := (Array.getElem?_eq_some_iff.1 h).1
theorem OBk.c0 (h : OBk w p x) : w.cell? ⟨p, 0, none⟩ = some (.int .i64 x.kind) := (cell_of_block h 0).trans rfl
theorem OBk.c1 (h : OBk w p x) : w.cell? ⟨p, 1, none⟩ = some (.int .i64 x.n) := (cell_of_block h 1).trans rfl
theorem OBk.c2 (h : OBk w p x) : w.cell? ⟨p, 2, none⟩ = some (.int .i64 x.e) := (cell_of_block h 2).trans rfl
end
theorem past17 {w w1 w2 : World} {g : Nat} (h : Kp w w1) (k : Keeps (fun b => b ≠ g) w1 w2) (hg : w.heap.size ≤ g) : Kp w w2 :=
  ((h.mono fun _ _ _ => trivial).trans k).mono fun b hb _ => by omega

/-- The program's lease, of s on a clock at n; the reference's, of s' at n'; the operation under way. -/
structure Al {S : ClockOK} (L : LeaseOK S) (W w : World) (l c g p : Nat) (x : Op16) (n : Int) (s : LsS) (n' : Int) (s' : LsS) (F Fc : Nat → Prop) : Prop where
  lz : Lz L W w l c n s F Fc
  rf : RBlk w g n' s'
  ob : OBk w p x
  nF : ¬ F g
  nC : ¬ Fc g
  pF : ¬ F p
  pC : ¬ Fc p
  pg : p ≠ g
  gW : W.heap.size ≤ g
section
variable {S : ClockOK} {L : LeaseOK S} {W w w' : World} {l c g p : Nat} {x : Op16} {n n' m : Int} {s s' t : LsS} {F Fc F' Fc' : Nat → Prop}
theorem Al.keep (h : Al L W w l c g p x n s n' s' F Fc) (hk : Kp w w') : Al L W w' l c g p x n s n' s' F Fc :=
  ⟨h.lz.keep hk, h.rf.keep hk trivial, h.ob.keep hk trivial, h.nF, h.nC, h.pF, h.pC, h.pg, h.gW⟩
theorem Al.step_l (h : Al L W w l c g p x n s n' s' F Fc) (h2 : Lz L W w' l c m t F' Fc') (hF : ∀ b, F' b → F b ∨ w.heap.size ≤ b) (hC : ∀ b, Fc' b → Fc b ∨ w.heap.size ≤ b) (hk : Keeps (fun b => ¬ F b ∧ ¬ Fc b) w w') : Al L W w' l c g p x m t n' s' F' Fc' :=
  ⟨h2, h.rf.keep hk ⟨h.nF, h.nC⟩, h.ob.keep hk ⟨h.pF, h.pC⟩, fun hb => by
    rcases hF g hb with e | e
    · exact h.nF e
    · have := h.rf.lt; omega, fun hb => by
    rcases hC g hb with e | e
    · exact h.nC e
    · have := h.rf.lt; omega, fun hb => by
    rcases hF p hb with e | e
    · exact h.pF e
    · have := h.ob.lt; omega, fun hb => by
    rcases hC p hb with e | e
    · exact h.pC e
    · have := h.ob.lt; omega, h.pg, h.gW⟩
theorem Al.step_r (h : Al L W w l c g p x n s n' s' F Fc) (h2 : RBlk w' g m t) (hk : Keeps (fun b => b ≠ g) w w') : Al L W w' l c g p x n s m t F Fc :=
  ⟨⟨L.atKeep h.lz.at_ (hk.mono fun _b _ hb e => h.nF (e ▸ hb)) (past17 h.lz.kp hk h.gW), S.atKeep h.lz.ck (hk.mono fun _b _ hb e => h.nC (e ▸ hb)) (past17 h.lz.kp hk h.gW), h.lz.dj⟩, h2, h.ob.keep hk h.pg, h.nF, h.nC, h.pF, h.pC, h.pg, h.gW⟩
theorem al_take (h : Al L W w l c g p x n s n' s' F Fc) (sent ep : Int) : Calls Try.prog 13 #[.pointer (some ⟨l, 0, none⟩), .int .i64 sent, .int .i64 ep] w fun e w' => e = .returned (.bool (takeB n s sent ep)) ∧ ∃ F', Al L W w' l c g p x n (takeS n s sent ep) n' s' F' Fc :=
  (lz_take h.lz sent ep).mono fun _ _ ⟨h1, F', h2, h3, h4⟩ => ⟨h1, F', h.step_l h2 h3 (fun _ hb => .inl hb) (h4.mono fun _ _ hb => hb.1)⟩
theorem al_rtake (h : Al L W w l c g p x n s n' s' F Fc) (h0 : 0 ≤ n') (h1 : n' ≤ 1099511627776) (sent ep : Int) : Calls Try.prog 14 #[.pointer (some ⟨g, 0, none⟩), .int .i64 sent, .int .i64 ep] w fun e w' => e = .returned (.bool (takeB n' s' sent ep)) ∧ Al L W w' l c g p x n s n' (takeS n' s' sent ep) F Fc :=
  (rtake_any w g n' s' sent ep h.rf h0 h1).mono fun _ _ ⟨h2, h3, h4⟩ => ⟨h2, h.step_r h3 h4⟩
theorem al_drop (h : Al L W w l c g p x n s n' s' F Fc) : Calls Try.prog 15 #[.pointer (some ⟨l, 0, none⟩)] w fun e w' => e = .returned (.tuple #[]) ∧ ∃ F', Al L W w' l c g p x n ls0 n' s' F' Fc :=
  (lz_drop h.lz).mono fun _ _ ⟨h1, F', h2, h3, h4⟩ => ⟨h1, F', h.step_l h2 h3 (fun _ hb => .inl hb) (h4.mono fun _ _ hb => hb.1)⟩
theorem al_rdrop (h : Al L W w l c g p x n s n' s' F Fc) : Calls Try.prog 16 #[.pointer (some ⟨g, 0, none⟩)] w fun e w' => e = .returned (.tuple #[]) ∧ Al L W w' l c g p x n s n' ls0 F Fc :=
  (rdrop_any w g n' s' h.rf).mono fun _ _ ⟨h2, h3, h4⟩ => ⟨h2, h.step_r h3 h4⟩
theorem al_set (h : Al L W w l c g p x n s n' s' F Fc) (m : Int) : Al L W (w.setCell ⟨g, 0, none⟩ (.int .i64 m)) l c g p x n s m s' F Fc :=
  h.step_r (h.rf.set0 m) ((Keeps.refl _ w).setCell (p := ⟨g, 0, none⟩) (.inr fun e => e rfl) _)
theorem al_tick (h : Al L W w l c g p x n s n' s' F Fc) (B : Nat) (y : Int) (hr : Row w (some ⟨B, 0, none⟩) (fun b => ¬ Fc b) [.int .i64 y]) : Calls Try.prog 12 #[.pointer (some ⟨c, 0, none⟩), .slice (some ⟨B, 0, none⟩) 1 1] w fun e w' => e = .returned (.int .i64 (tickZ n y)) ∧ ∃ Fc', Al L W w' l c g p x (tickZ n y) s n' s' F Fc' ∧ Keeps (fun b => ¬ Fc b) w w' :=
  (S.tick W w c Fc n (some ⟨B, 0, none⟩) 1 [y] h.lz.ck hr (Nat.le_refl _) (by decide)).mono fun _ _ ⟨h1, Fc', h2, h3, h4⟩ => ⟨h1, Fc', h.step_l ⟨L.atKeep h.lz.at_ (h4.mono fun b _ hb => h.lz.dj b hb) (S.past h.lz.ck h4), h2, fun b hb hc => by
    rcases h3 b hc with hh | hh
    · exact h.lz.dj b hb hh
    · have := ((L.atIn h.lz.at_).2.1 b hb).2; omega⟩ (fun _ hb => .inl hb) h3 (h4.mono fun _ _ hb => hb.2), h4⟩
end

/-! ### Single operations -/
section
variable {o : Oper} {a : Act} {w : World} {x y z : Operand}
theorem run_nil17 {q : Addr} (ho : o.op = .nilCheck x) (hx : a.eval x = .pointer (some q)) : (execOp a.eval o).run Try.prog w = .ok (.value (.pointer (some q))) w := by
  generalize a.eval = ρ at hx ⊢
  unfold execOp
  rw [ho]
  go_simp
theorem run_fR0 {b : Nat} (ho : o.op = .fieldAddr 31 x 0) (hx : a.eval x = .pointer (some ⟨b, 0, none⟩)) : (execOp a.eval o).run Try.prog w = .ok (.value (.pointer (some ⟨b, 0, none⟩))) w := by
  generalize a.eval = ρ at hx ⊢
  unfold execOp
  rw [ho]
  go_simp
theorem run_fO1 {b : Nat} (ho : o.op = .fieldAddr 33 x 1) (hx : a.eval x = .pointer (some ⟨b, 0, none⟩)) : (execOp a.eval o).run Try.prog w = .ok (.value (.pointer (some ⟨b, 1, none⟩))) w := by
  generalize a.eval = ρ at hx ⊢
  unfold execOp
  rw [ho]
  go_simp
theorem run_fO2 {b : Nat} (ho : o.op = .fieldAddr 33 x 2) (hx : a.eval x = .pointer (some ⟨b, 0, none⟩)) : (execOp a.eval o).run Try.prog w = .ok (.value (.pointer (some ⟨b, 2, none⟩))) w := by
  generalize a.eval = ρ at hx ⊢
  unfold execOp
  rw [ho]
  go_simp
theorem run_fL0 {b : Nat} (ho : o.op = .fieldAddr 37 x 0) (hx : a.eval x = .pointer (some ⟨b, 0, none⟩)) : (execOp a.eval o).run Try.prog w = .ok (.value (.pointer (some ⟨b, 0, none⟩))) w := by
  generalize a.eval = ρ at hx ⊢
  unfold execOp
  rw [ho]
  go_simp
theorem run_ldN17 {q : Addr} {n : Int} (ho : o.op = .load 2 x) (hx : a.eval x = .pointer (some q)) (hc : w.cell? q = some (.int .i64 n)) : (execOp a.eval o).run Try.prog w = .ok (.value (.int .i64 n)) w := by
  generalize a.eval = ρ at hx ⊢
  unfold execOp
  rw [ho]
  go_simp
theorem run_ldC17 {q : Addr} {v : Option Addr} (ho : o.op = .load 28 x) (hx : a.eval x = .pointer (some q)) (hc : w.cell? q = some (.pointer v)) : (execOp a.eval o).run Try.prog w = .ok (.value (.pointer v)) w := by
  generalize a.eval = ρ at hx ⊢
  unfold execOp
  rw [ho]
  go_simp
theorem run_neN17 {m n : Int} {b : Bool} (hb : (m != n) = b) (ho : o.op = .binOp .neq 2 x y 2) (hx : a.eval x = .int .i64 m) (hy : a.eval y = .int .i64 n) : (execOp a.eval o).run Try.prog w = .ok (.value (.bool b)) w := by
  subst hb
  generalize a.eval = ρ at hx hy ⊢
  unfold execOp
  rw [ho]
  go_simp
theorem run_neB17 {m n b : Bool} (hb : (m != n) = b) (ho : o.op = .binOp .neq 4 x y 4) (hx : a.eval x = .bool m) (hy : a.eval y = .bool n) : (execOp a.eval o).run Try.prog w = .ok (.value (.bool b)) w := by
  subst hb
  generalize a.eval = ρ at hx hy ⊢
  unfold execOp
  rw [ho]
  go_simp
  cases m <;> cases n <;> rfl
theorem run_call17 {f : FuncId} {v0 : Value} {ts : Array TypeId} (ho : o.op = .call { callee := .value (.func f), args := #[x], argTypes := ts }) (hcf : ∀ vs W, (callFunc f vs).run Try.prog W = .ok (.enter f vs) W) (hx : a.eval x = v0) :
    (execOp a.eval o).run Try.prog w = .ok (.enter f #[v0]) w := by
  have hf : a.eval (.func f) = .func (.func f) #[] #[] := rfl
  generalize a.eval = ρ at hx hf ⊢
  unfold execOp
  rw [ho]
  have h := hcf
  clear hcf
  go_simp
end

end Go.Proofs.Ytdgpkdcolljpjaa
