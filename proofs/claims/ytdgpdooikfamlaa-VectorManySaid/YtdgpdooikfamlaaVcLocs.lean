/-
  Layer 11's drawn regions: each operation by itself; what a region's operations leave, by a list of kinds.
-/
import Derived.Test.YtdgpdooikfamlaaVcBegun
import Derived.Test.YtdgpdooikfamlaaInvTail
import Derived.Test.YtdgpdooikfamlaaArr
namespace Go.Proofs.Ytdgpdooikfamlaa
open Go Go.RowKit Go.Joins

/-- A value; vectors in a new block; a new block of zeros, from n0 on; anything. -/
inductive VK where
  | v (x : Value)
  | n (gs : List (Nat → Int))
  | b (n0 : Nat) (t : TypeId)
  | any
def VNil (n0 : Nat) (t : TypeId) (w : World) (v : Value) : Prop := ∃ q, v = .pointer (some ⟨q, 0, none⟩) ∧ VBlk w q t (fun _ => 0) ∧ n0 ≤ q
def VK.p : VK → World → Value → Prop
  | .v x => IsV x
  | .n gs => VNew gs
  | .b n0 t => VNil n0 t
  | .any => fun _ _ => True
def Vk (l : List VK) (i : Nat) : World → Value → Prop := (l.getD i (.v undef)).p
theorem Vk_keep (l : List VK) (i : Nat) (w w' : World) (v : Value) (hk : Kp w w') (h : Vk l i w v) : Vk l i w' v := by
  unfold Vk at h ⊢
  cases hx : l.getD i (.v undef) with
  | v x => rw [hx] at h; exact h
  | n gs => rw [hx] at h; exact VNew.keep h hk
  | b n0 t =>
    rw [hx] at h
    obtain ⟨q, e, hb, hq⟩ := h
    exact ⟨q, e, hb.keep hk trivial, hq⟩
  | any => trivial
theorem Vk_low {l : List VK} {j n0 : Nat} {t : TypeId} (hj : l.getD j (.v undef) = .b n0 t) (w : World) (v : Value) (g : Nat) (h : Vk l j w v) (e : v = .pointer (some ⟨g, 0, none⟩)) : g < w.heap.size := by
  unfold Vk at h
  rw [hj] at h
  obtain ⟨q, e2, hb, -⟩ := h
  rw [e] at e2
  injection e2 with e2
  injection e2 with e2
  injection e2 with e2
  rw [e2]
  exact hb.lt
/-- A whole vector stored. -/
theorem list_st6 {P : Program} {ops : Array Oper} {rest : List Oper} {o : Oper} {a : Act} {w : World} {Q : Exit → Act → World → Prop} {q : Nat} {t : TypeId} {f : Nat → Int} (x : Nat → Int) (hgd : o.guard = none) (ty : TypeId) (u v : Operand) (ho : o.op = .store ty u v) (hi : (P.info? ty).map (·.size) = some 6) (hb : VBlk w q t f) (hu : a.eval u = .pointer (some ⟨q, 0, none⟩)) (hv : a.eval v = vagg x)
    (hK : ∀ w', VBlk w' q t x → Keeps (fun b => b ≠ q) w w' → wpList P ops Q rest (a.put o.dst undef) w') : wpList P ops Q (o :: rest) a w := by
  refine list_store_part hgd ty u v ho q 0 hu (vcells x).toList (by rw [Array.toArray_toList]; exact hv) t (vcells f) hb hi (by simp [vcells]) (fun v hv => by simp [vcells] at hv; rcases hv with rfl | rfl | rfl | rfl | rfl | rfl <;> rfl) fun w' hw hg => ?_
  refine hK w' ?_ (Keeps.of_grown hg fun b e _ hn => hn (by injection e with e; exact e.symm))
  have e : ((vcells f).toList.take 0 ++ (vcells x).toList ++ (vcells f).toList.drop (0 + (vcells x).toList.length)).toArray = vcells x := rfl
  rw [e] at hw
  exact hw
def Gl (l : List (Nat × Bool)) (g : Nat) : Option Bool := (l.find? fun p => p.1 == g).map (·.2)
theorem Gl_is {l : List (Nat × Bool)} {vk : List VK} (hl : ∀ p ∈ l, vk.getD p.1 (.v undef) = .v (.bool p.2)) (g : Nat) (c : Bool) (h : Gl l g = some c) (w : World) (x : Value) (hx : Vk vk g w x) : x = .bool c := by
  unfold Gl at h
  cases hf : l.find? (fun p => p.1 == g) with
  | none => rw [hf] at h; cases h
  | some p =>
    rw [hf] at h
    have h1 := List.find?_some hf
    have h2 := List.mem_of_find?_eq_some hf
    have e : p.1 = g := by simpa using h1
    subst e
    unfold Vk at hx
    rw [hl p h2] at hx
    cases h
    exact hx
section
variable {o : Oper} {a : Act} {w : World} {Q : Exit → Act → World → Prop} {x y z : Operand}
theorem kp_asK {V : World → Value → Prop} (ho : o.op = .assign x) (hx : V w (a.eval x)) : o.wp Try.prog a w (fun a' w' => ∃ v', a' = a.put o.dst v' ∧ Kp w w' ∧ V w' v') Q := by
  refine kp_yield (v := a.eval x) ?_ (Keeps.refl _ _) hx
  unfold execOp; rw [ho]; rfl
theorem kp_newV {n0 : Nat} (hn : n0 ≤ w.heap.size) (ho : o.op = .alloc 26) : o.wp Try.prog a w (fun a' w' => ∃ v, a' = a.put o.dst v ∧ Kp w w' ∧ VNil n0 26 w' v ∧ (∀ g, v = .pointer (some ⟨g, 0, none⟩) → w.heap.size ≤ g)) Q := by
  have hrun : (execOp a.eval o).run Try.prog w = .ok (.value (.pointer (some ⟨w.heap.size, 0, none⟩))) (w.alloc (.cells (vcells fun _ => 0) 26)) := by
    generalize a.eval = ρ
    unfold execOp vcells
    rw [ho]
    go_simp
  unfold Oper.wp
  rw [hrun]
  refine ⟨_, rfl, (Keeps.refl _ _).alloc _, ⟨_, rfl, heap_alloc_new w _, hn⟩, fun g e => ?_⟩
  injection e with e
  injection e with e
  injection e with e
  exact Nat.le_of_eq e
theorem kp_newW {n0 : Nat} (hn : n0 ≤ w.heap.size) (ho : o.op = .alloc 24) : o.wp Try.prog a w (fun a' w' => ∃ v, a' = a.put o.dst v ∧ Kp w w' ∧ VNil n0 24 w' v ∧ (∀ g, v = .pointer (some ⟨g, 0, none⟩) → w.heap.size ≤ g)) Q := by
  have hrun : (execOp a.eval o).run Try.prog w = .ok (.value (.pointer (some ⟨w.heap.size, 0, none⟩))) (w.alloc (.cells (vcells fun _ => 0) 24)) := by
    generalize a.eval = ρ
    unfold execOp vcells
    rw [ho]
    go_simp
  unfold Oper.wp
  rw [hrun]
  refine ⟨_, rfl, (Keeps.refl _ _).alloc _, ⟨_, rfl, heap_alloc_new w _, hn⟩, fun g e => ?_⟩
  injection e with e
  injection e with e
  injection e with e
  exact Nat.le_of_eq e
theorem kp_same (S : VectorOK) {f g : Nat → Int} {b : Bool} (hT : S.T w) (hf : VOk f) (hb : eqB f g = b) (ho : o.op = .call { callee := .value (.func 11), args := #[x, y], argTypes := #[26, 24] }) (hx : a.eval x = vagg f) (hy : a.eval y = vagg g) :
    o.wp Try.prog a w (fun a' w' => ∃ v', a' = a.put o.dst v' ∧ Kp w w' ∧ IsV (.bool b) w' v') Q := by
  subst hb
  have hg : a.eval (.func 11) = .func (.func 11) #[] #[] := rfl
  refine kp_callV (F := 11) (args := #[vagg f, vagg g]) ?_ (same_any S w hT f g hf)
  generalize a.eval = ρ at hx hy hg ⊢
  unfold execOp
  rw [ho]
  go_simp
theorem kp_has (S : VectorOK) {f g : Nat → Int} {b : Bool} (hT : S.T w) (hf : VOk f) (hg : VOk g) (hb : hasB f g = b) (ho : o.op = .call { callee := .value (.func 15), args := #[x, y], argTypes := #[26, 26] }) (hx : a.eval x = vagg f) (hy : a.eval y = vagg g) :
    o.wp Try.prog a w (fun a' w' => ∃ v', a' = a.put o.dst v' ∧ Kp w w' ∧ IsV (.bool b) w' v') Q := by
  subst hb
  have he : a.eval (.func 15) = .func (.func 15) #[] #[] := rfl
  refine kp_callV (F := 15) (args := #[vagg f, vagg g]) ?_ (S.has w f g hT hf hg)
  generalize a.eval = ρ at hx hy he ⊢
  unfold execOp
  rw [ho]
  go_simp
theorem kp_set (S : VectorOK) {f : Nat → Int} {n m : Int} (hT : S.T w) (hf : VOk f) (ho : o.op = .call { callee := .value (.func 14), args := #[x, y, z], argTypes := #[26, 3, 2] }) (hx : a.eval x = vagg f) (hy : a.eval y = .int .i64 n) (hz : a.eval z = .int .i64 m) :
    o.wp Try.prog a w (fun a' w' => ∃ v', a' = a.put o.dst v' ∧ Kp w w' ∧ IsV (vagg (setF f n m)) w' v') Q := by
  have he : a.eval (.func 14) = .func (.func 14) #[] #[] := rfl
  refine kp_callV (F := 14) (args := #[vagg f, .int .i64 n, .int .i64 m]) ?_ (S.set w f n m hT hf)
  generalize a.eval = ρ at hx hy hz he ⊢
  unfold execOp
  rw [ho]
  go_simp
theorem kp_max (S : VectorOK) {f : Nat → Int} {gs : List (Nat → Int)} (hT : S.T w) (hf : VOk f) (hg : ∀ g ∈ gs, VOk g) (hl : gs.length ≤ 100) (ho : o.op = .call { callee := .value (.func 12), args := #[x, y], argTypes := #[26, 44] }) (hx : a.eval x = vagg f) (hy : VNew gs w (a.eval y)) :
    o.wp Try.prog a w (fun a' w' => ∃ v', a' = a.put o.dst v' ∧ Kp w w' ∧ IsV (vagg (maxF f gs)) w' v') Q := by
  obtain ⟨B, hy, hr⟩ := hy
  have he : a.eval (.func 12) = .func (.func 12) #[] #[] := rfl
  refine kp_callV (F := 12) (args := #[vagg f, .slice (some ⟨B, 0, none⟩) gs.length gs.length]) ?_ (S.max_ w f _ gs.length gs hT hf hg hr (Nat.le_refl _) (by unfold maxLen; omega))
  generalize a.eval = ρ at hx hy he ⊢
  unfold execOp
  rw [ho]
  go_simp
theorem kp_min (S : VectorOK) {f : Nat → Int} {gs : List (Nat → Int)} (hT : S.T w) (hf : VOk f) (hg : ∀ g ∈ gs, VOk g) (hl : gs.length ≤ 100) (ho : o.op = .call { callee := .value (.func 13), args := #[x, y], argTypes := #[26, 44] }) (hx : a.eval x = vagg f) (hy : VNew gs w (a.eval y)) :
    o.wp Try.prog a w (fun a' w' => ∃ v', a' = a.put o.dst v' ∧ Kp w w' ∧ IsV (vagg (minF f gs)) w' v') Q := by
  obtain ⟨B, hy, hr⟩ := hy
  have he : a.eval (.func 13) = .func (.func 13) #[] #[] := rfl
  refine kp_callV (F := 13) (args := #[vagg f, .slice (some ⟨B, 0, none⟩) gs.length gs.length]) ?_ (S.min_ w f _ gs.length gs hT hf hg hr (Nat.le_refl _) (by unfold maxLen; omega))
  generalize a.eval = ρ at hx hy he ⊢
  unfold execOp
  rw [ho]
  go_simp
theorem kp_max0 (S : VectorOK) {f : Nat → Int} (hT : S.T w) (hf : VOk f) (ho : o.op = .call { callee := .value (.func 12), args := #[x, y], argTypes := #[26, 44] }) (hx : a.eval x = vagg f) (hy : a.eval y = .slice none 0 0) :
    o.wp Try.prog a w (fun a' w' => ∃ v', a' = a.put o.dst v' ∧ Kp w w' ∧ IsV (vagg f) w' v') Q := by
  have he : a.eval (.func 12) = .func (.func 12) #[] #[] := rfl
  refine kp_callV (F := 12) (args := #[vagg f, .slice none 0 0]) ?_ (S.max_ w f none 0 [] hT hf (fun _ h => by cases h) (Row.nil _ _ _) (Nat.le_refl _) (Nat.zero_le _))
  generalize a.eval = ρ at hx hy he ⊢
  unfold execOp
  rw [ho]
  go_simp
theorem kp_min0 (S : VectorOK) {f : Nat → Int} (hT : S.T w) (hf : VOk f) (ho : o.op = .call { callee := .value (.func 13), args := #[x, y], argTypes := #[26, 44] }) (hx : a.eval x = vagg f) (hy : a.eval y = .slice none 0 0) :
    o.wp Try.prog a w (fun a' w' => ∃ v', a' = a.put o.dst v' ∧ Kp w w' ∧ IsV (vagg f) w' v') Q := by
  have he : a.eval (.func 13) = .func (.func 13) #[] #[] := rfl
  refine kp_callV (F := 13) (args := #[vagg f, .slice none 0 0]) ?_ (S.min_ w f none 0 [] hT hf (fun _ h => by cases h) (Row.nil _ _ _) (Nat.le_refl _) (Nat.zero_le _))
  generalize a.eval = ρ at hx hy he ⊢
  unfold execOp
  rw [ho]
  go_simp
theorem kp_of {A : Option Addr} {c n : Nat} {l : List Int} {k : Nat} (hr : Row w A (fun _ => True) (l.map (Value.int .i64))) (hn : n = l.length) (hl : l.length ≤ c) (hc : c ≤ maxLen) (hk : min l.length 5 = k) (ho : o.op = .call { callee := .value (.func 9), args := #[x], argTypes := #[22] }) (hx : a.eval x = .slice A n c) :
    o.wp Try.prog a w (fun a' w' => ∃ v', a' = a.put o.dst v' ∧ Kp w w' ∧ IsV (vagg (ofF l k)) w' v') Q := by
  subst hn hk
  have he : a.eval (.func 9) = .func (.func 9) #[] #[] := rfl
  refine kp_callV (F := 9) (args := #[.slice A l.length c]) ?_ (vof_any w A c l hl hc (hr.lt.mono fun b _ hb => hb.2))
  generalize a.eval = ρ at hx he ⊢
  unfold execOp
  rw [ho]
  go_simp
theorem kp_eqBB {m n b : Bool} (hb : (m == n) = b) (ho : o.op = .binOp .eql 4 x y 4) (hx : a.eval x = .bool m) (hy : a.eval y = .bool n) : o.wp Try.prog a w (fun a' w' => ∃ v, a' = a.put o.dst v ∧ Kp w w' ∧ IsV (.bool b) w' v) Q := by
  subst hb
  refine kp_yield (v := .bool (m == n)) (w' := w) ?_ (Keeps.refl _ _) rfl
  generalize a.eval = ρ at hx hy ⊢
  unfold execOp
  rw [ho]
  go_simp
theorem kp_notV {b c : Bool} (hc : (!b) = c) (ho : o.op = .unOp .not 4 x) (hx : a.eval x = .bool b) : o.wp Try.prog a w (fun a' w' => ∃ v, a' = a.put o.dst v ∧ Kp w w' ∧ IsV (.bool c) w' v) Q := by
  subst hc
  refine kp_yield (v := .bool (!b)) (w' := w) ?_ (Keeps.refl _ _) rfl
  generalize a.eval = ρ at hx ⊢
  unfold execOp
  rw [ho]
  go_simp
theorem kp_geqZ {m n : Int} {b : Bool} (hb : decide (n ≤ m) = b) (ho : o.op = .binOp .geq 3 x y 3) (hx : a.eval x = .int .i64 m) (hy : a.eval y = .int .i64 n) : o.wp Try.prog a w (fun a' w' => ∃ v, a' = a.put o.dst v ∧ Kp w w' ∧ IsV (.bool b) w' v) Q := by
  subst hb
  refine kp_yield (v := .bool (decide (n ≤ m))) (w' := w) ?_ (Keeps.refl _ _) rfl
  generalize a.eval = ρ at hx hy ⊢
  unfold execOp
  rw [ho]
  go_simp
theorem kp_leqZ {m n : Int} {b : Bool} (hb : decide (m ≤ n) = b) (ho : o.op = .binOp .leq 3 x y 3) (hx : a.eval x = .int .i64 m) (hy : a.eval y = .int .i64 n) : o.wp Try.prog a w (fun a' w' => ∃ v, a' = a.put o.dst v ∧ Kp w w' ∧ IsV (.bool b) w' v) Q := by
  subst hb
  refine kp_yield (v := .bool (decide (m ≤ n))) (w' := w) ?_ (Keeps.refl _ _) rfl
  generalize a.eval = ρ at hx hy ⊢
  unfold execOp
  rw [ho]
  go_simp
theorem kp_neqZ {m n : Int} {b : Bool} (hb : (m != n) = b) (ho : o.op = .binOp .neq 3 x y 3) (hx : a.eval x = .int .i64 m) (hy : a.eval y = .int .i64 n) : o.wp Try.prog a w (fun a' w' => ∃ v, a' = a.put o.dst v ∧ Kp w w' ∧ IsV (.bool b) w' v) Q := by
  subst hb
  refine kp_yield (v := .bool ((m != n))) (w' := w) ?_ (Keeps.refl _ _) rfl
  generalize a.eval = ρ at hx hy ⊢
  unfold execOp
  rw [ho]
  go_simp
end

end Go.Proofs.Ytdgpdooikfamlaa
