/-
  TWO MESSAGES CUT SIDE BY SIDE in a region that draws its order (layer 19): load, Cut, store; load, Cut, store.
-/
import Derived.Test.YtfhhobinpmbgmaaDoorMsLaw
import Derived.Test.YtfhhobinpmbgmaaDoorInvAny
namespace Go.Proofs.YtfhhobinpmbgmaaDoor
open Go Go.RowKit Go.Joins

/-- What was cut lies anew, its numbers where they lay. -/
def Cutted (w : World) (n0 : Nat) (m : Ms) (a a2 : MsA) : Prop :=
  (∃ w3, MsAt w3 (cutM m) a2) ∧ a2.ba = a.ba ∧ a2.oa = a.oa ∧ ItsAt w a2.ia (fun b => n0 ≤ b) (cutM m).items ∧ MksAt w a2.ma (fun b => n0 ≤ b) (cutM m).marks
theorem Cutted.keep {w w' : World} {n0 : Nat} {m : Ms} {a a2 : MsA} {F : Nat → Prop} (h : Cutted w n0 m a a2) (hk : Keeps F w w') (hF : ∀ b, n0 ≤ b → F b) : Cutted w' n0 m a a2 :=
  ⟨h.1, h.2.1, h.2.2.1, h.2.2.2.1.keep (hk.mono fun b _ hb => hF b hb), h.2.2.2.2.keep (hk.mono fun b _ hb => hF b hb)⟩
theorem Cutted.at_ {w : World} {n0 : Nat} {m : Ms} {a a2 : MsA} (h : Cutted w n0 m a a2) (hm : MsAt w m a) : MsAt w (cutM m) a2 := by
  obtain ⟨⟨w3, hat⟩, eba, eoa, hit, hmk⟩ := h
  exact ⟨hit.mono fun _ _ _ => trivial, hat.il, hmk.mono fun _ _ _ => trivial, hat.ml,
   by rw [eba]; show Row w a.ba _ ((m.mem.take 7).map _); rw [List.map_take]; exact hm.mem.take, hat.bl,
   by rw [eoa]; show Row w a.oa _ ((m.old.take 7).map _); rw [List.map_take]; exact hm.old.take, hat.ol⟩

/-- How far one of them is: loaded, cut, stored. -/
def Cn (n0 g : Nat) (m : Ms) (a : MsA) (l0 l1 l4 : Bool) (x y : Value) (w : World) : Prop :=
  (l0 = false ∧ l1 = false ∧ l4 = false ∧ MB w g m a) ∨ (l0 = true ∧ l1 = false ∧ l4 = false ∧ MB w g m a ∧ x = msV m a) ∨
  (l0 = true ∧ l1 = true ∧ l4 = false ∧ MB w g m a ∧ ∃ a2, y = msV (cutM m) a2 ∧ Cutted w n0 m a a2) ∨ (l0 = true ∧ l1 = true ∧ l4 = true ∧ ∃ a2, MB w g (cutM m) a2 ∧ Cutted w n0 m a a2)
section
variable {n0 g : Nat} {m : Ms} {a : MsA} {l0 l1 l4 : Bool} {x y : Value} {w w' : World}
theorem Cn.keep {F : Nat → Prop} (h : Cn n0 g m a l0 l1 l4 x y w) (hk : Keeps F w w') (hg : F g) (hF : ∀ b, n0 ≤ b → F b) : Cn n0 g m a l0 l1 l4 x y w' := by
  rcases h with ⟨h0, h1, h4, hb⟩ | ⟨h0, h1, h4, hb, hx⟩ | ⟨h0, h1, h4, hb, a2, hy, hc⟩ | ⟨h0, h1, h4, a2, hb, hc⟩
  · exact .inl ⟨h0, h1, h4, hb.keep hk hg⟩
  · exact .inr (.inl ⟨h0, h1, h4, hb.keep hk hg, hx⟩)
  · exact .inr (.inr (.inl ⟨h0, h1, h4, hb.keep hk hg, a2, hy, hc.keep hk hF⟩))
  · exact .inr (.inr (.inr ⟨h0, h1, h4, a2, hb.keep hk hg, hc.keep hk hF⟩))
theorem Cn.load (h : Cn n0 g m a l0 l1 l4 x y w) (h0 : l0 = false) : MB w g m a ∧ Cn n0 g m a true l1 l4 (msV m a) y w := by
  rcases h with ⟨_, h1, h4, hb⟩ | ⟨h, _⟩ | ⟨h, _⟩ | ⟨h, _⟩
  · exact ⟨hb, .inr (.inl ⟨rfl, h1, h4, hb, rfl⟩)⟩
  all_goals rw [h0] at h; cases h
theorem Cn.cut (h : Cn n0 g m a l0 l1 l4 x y w) (h0 : l0 = true) (h1 : l1 = false) : x = msV m a ∧ ∀ w' a2, Kp w w' → Cutted w' n0 m a a2 → Cn n0 g m a l0 true l4 x (msV (cutM m) a2) w' := by
  rcases h with ⟨h, _⟩ | ⟨_, _, h4, hb, hx⟩ | ⟨_, h, _⟩ | ⟨_, h, _⟩
  · rw [h0] at h; cases h
  · exact ⟨hx, fun w' a2 hk hc => .inr (.inr (.inl ⟨h0, rfl, h4, hb.kp hk, a2, rfl, hc⟩))⟩
  all_goals rw [h1] at h; cases h
theorem Cn.store (h : Cn n0 g m a l0 l1 l4 x y w) (h1 : l1 = true) (h4 : l4 = false) (hg : g < n0) : ∃ a2, y = msV (cutM m) a2 ∧ MB w g m a ∧ ∀ w', MB w' g (cutM m) a2 → Keeps (fun b => b ≠ g) w w' → Cn n0 g m a l0 l1 true x y w' := by
  rcases h with ⟨_, h, _⟩ | ⟨_, h, _⟩ | ⟨h0, _, _, hb, a2, hy, hc⟩ | ⟨_, _, h, _⟩
  · rw [h1] at h; cases h
  · rw [h1] at h; cases h
  · exact ⟨a2, hy, hb, fun w' hb' hk => .inr (.inr (.inr ⟨h0, h1, rfl, a2, hb', hc.keep hk fun b hb => by omega⟩))⟩
  · rw [h4] at h; cases h
theorem Cn.done (h : Cn n0 g m a l0 l1 l4 x y w) (h4 : l4 = true) : ∃ a2, MB w g (cutM m) a2 ∧ Cutted w n0 m a a2 := by
  rcases h with ⟨_, _, h, _⟩ | ⟨_, _, h, _⟩ | ⟨_, _, h, _⟩ | ⟨_, _, _, h⟩
  · rw [h4] at h; cases h
  · rw [h4] at h; cases h
  · rw [h4] at h; cases h
  · exact h
end
section
variable {o : Oper} {a : Act} {w : World} {Q : Exit → Act → World → Prop} {x y : Operand}
theorem op_storeM {g : Nat} {m m' : Ms} {b b' : MsA} (h : MB w g m b) (ho : o.op = .store 29 x y) (hx : a.eval x = .pointer (some ⟨g, 0, none⟩)) (hy : a.eval y = msV m' b') : o.wp Tryd.prog a w (fun a' w' => ∃ v, a' = a.put o.dst v ∧ MB w' g m' b' ∧ Keeps (fun b => b ≠ g) w w') Q := by
  obtain ⟨w', e, h1, h2, -⟩ := run_storeM (m' := m') (a' := b') h
  unfold Oper.wp execOp
  simp only [ho, hx, hy, Instr.storeAt, Instr.sureAddr, Sem.run_bind, Sem.run_pure, Result.andThen_ok, e]
  exact ⟨_, rfl, h1, h2⟩
end
theorem set_ne19 {l : Array Bool} {i j : Nat} (h : i ≠ j) : (l.setIfInBounds i true).getD j false = l.getD j false := getD_set_ne false h
theorem set_eq19 {l : Array Bool} {i : Nat} (h : i < l.size) : (l.setIfInBounds i true).getD i false = true := by simp [h]

end Go.Proofs.YtfhhobinpmbgmaaDoor
