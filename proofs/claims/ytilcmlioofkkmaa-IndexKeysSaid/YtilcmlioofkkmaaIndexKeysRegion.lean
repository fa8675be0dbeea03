/-
  THE DRAWN REGION OF IndexKeys: 'len(l) == 2 && l[0] < l[1] && x.Drop(b) && x.Len() == 1' and what stands ahead of it (written by wip/gen8keys.py).
-/
import Derived.Test.YtilcmlioofkkmaaIndexBegun
import Derived.Test.YtilcmlioofkkmaaInvPrev
import Derived.Test.YtilcmlioofkkmaaTextCut
namespace Go.Proofs.Ytilcmlioofkkmaa.indexKeys
open Go Go.RowKit

section
variable {o : Oper} {a : Act} {w : World} {Q : Exit → Act → World → Prop} {x : Operand}
theorem one_enter {P : Program} {X : World → Value → Prop} {f : FuncId} {args : Array Value} {C : Ending → World → Prop} (e : (execOp a.eval o).run P w = .ok (.enter f args) w) (hc : Calls P f args w C)
    (hC : ∀ e w', C e w' → ∃ v, e = .returned v ∧ X w' v) : o.wp P a w (fun a' w' => ∃ v, a' = a.put o.dst v ∧ X w' v) Q := by
  unfold Oper.wp
  rw [e]
  refine hc.mono fun e w' h => ?_
  obtain ⟨v, rfl, hv⟩ := hC e w' h
  exact ⟨v, rfl, hv⟩
theorem kp_ixlen {S : IndexOK} {W : World} {q : Nat} {F : Foot} {st : IxSt} (hT : S.T W) (h : Ix S W w q F st) (hl : st.length ≤ 4096) (n : Int) (hn : n = (st.length : Int))
    (ho : o.op = .call { callee := .value (.func 16), args := #[x], argTypes := #[24] })
    (hx : a.eval x = .pointer (some ⟨q, 0, none⟩)) : o.wp Try.prog a w (fun a' w' => ∃ v, a' = a.put o.dst v ∧ Kp w w' ∧ IsV (.int .i64 n) w' v) Q := by
  subst hn
  have hf : a.eval (.func 16) = .func (.func 16) #[] #[] := rfl
  refine kp_enter (f := 16) (args := #[.pointer (some ⟨q, 0, none⟩)]) ?_ (S.len w q F st h.r (S.tk hT h.kp) hl) ?_
  · generalize a.eval = ρ at hx hf ⊢
    unfold execOp
    rw [ho]
    go_simp
  · rintro e w' ⟨rfl, hk⟩
    exact ⟨_, rfl, hk, rfl⟩
end

/-- Ahead of Drop, behind it. -/
def Stk (S : IndexOK) (W : World) (q : Nat) (F : Foot) (x y : ByteArray) (g o : Nat) (k0 k1 : ByteArray) : Bool → World → Prop
  | false, w => Ix S W w q F [(x, 1), (y, 2)] ∧ (∀ b, F.all b → b ≠ g) ∧ w.cell? ⟨g, o, none⟩ = some (.string k0) ∧ w.cell? ⟨g, o + 1, none⟩ = some (.string k1)
  | true, w => (∃ F', Ix S W w q F' [(x, 1)]) ∧ (∀ b, F.all b → b ≠ g) ∧ w.cell? ⟨g, o, none⟩ = some (.string k0) ∧ w.cell? ⟨g, o + 1, none⟩ = some (.string k1)
theorem Stk.keep {S : IndexOK} {W w w' : World} {q : Nat} {F : Foot} {x y : ByteArray} {g o : Nat} {k0 k1 : ByteArray} {b : Bool} (h : Kp w w') (hs : Stk S W q F x y g o k0 k1 b w) : Stk S W q F x y g o k0 k1 b w' := by
  cases b
  · exact ⟨hs.1.keep h, hs.2.1, h.cell hs.2.2.1 trivial, h.cell hs.2.2.2 trivial⟩
  · obtain ⟨⟨F', h1⟩, h2, h3, h4⟩ := hs
    exact ⟨⟨F', h1.keep h⟩, h2, h.cell h3 trivial, h.cell h4 trivial⟩
theorem Stk.cells {S : IndexOK} {W w : World} {q : Nat} {F : Foot} {x y : ByteArray} {g o : Nat} {k0 k1 : ByteArray} {b : Bool} (hs : Stk S W q F x y g o k0 k1 b w) : w.cell? ⟨g, o, none⟩ = some (.string k0) ∧ w.cell? ⟨g, o + 1, none⟩ = some (.string k1) := by
  cases b
  · exact hs.2.2
  · exact hs.2.2
theorem ix_drop2 {S : IndexOK} {W w : World} {q : Nat} {F : Foot} (hT : S.T W) (x y : ByteArray) (hne : (x.toList == y.toList) = false) (hy : y.size ≤ 4096) (h : Ix S W w q F [(x, 1), (y, 2)]) :
    Calls Try.prog 13 #[.pointer (some ⟨q, 0, none⟩), .string y] w fun e w' => e = .returned (.bool true) ∧ (∃ F' : Foot, Ix S W w' q F' [(x, 1)]) ∧ Keeps (fun b => ¬ F.M b) w w' := by
  have h1 : isK y (x, 1) = false := by
    unfold isK
    rw [ByteArray.toList_eq, ByteArray.toList_eq] at hne
    exact hne
  have h2 : isK y (y, 2) = true := by simp [isK]
  have hg : ixGet [(x, 1), (y, 2)] y = some 2 := by simp [ixGet, h1, h2]
  have hd : ixDrop [(x, 1), (y, 2)] y = [(x, 1)] := by simp [ixDrop, h1, h2]
  refine (S.drop W w q F _ h.r hT h.kp h.gs (by show 2 ≤ 4096; decide) y hy).mono ?_
  rintro e w' ⟨rfl, F', hr, hs⟩
  rw [hg]
  rw [hd] at hr
  exact ⟨rfl, ⟨F', h.step hr hs⟩, hs.keeps⟩

def VK (q g o c : Nat) (k0 k1 y : ByteArray) : Nat → World → Value → Prop
  | 0 => IsV (.int .i64 0)
  | 1 => IsV (.bool true)
  | 2 => IsV (.bool true)
  | 3 => IsV (.int .i64 1)
  | 4 => IsV (.bool true)
  | 5 => IsV (.bool true)
  | 6 => IsV (.bool true)
  | 7 => IsV (.bool true)
  | 8 => IsV (.bool true)
  | 9 => IsV (.bool true)
  | 10 => IsV (.pointer (some ⟨q, 0, none⟩))
  | 11 => IsV (.int .i64 2)
  | 12 => IsV (.bool true)
  | 13 => IsV (.bool true)
  | 14 => IsV (.bool true)
  | 15 => IsV (.slice (some ⟨g, o, none⟩) 2 c)
  | 16 => IsV (.int .i64 2)
  | 17 => IsV (.bool true)
  | 18 => IsV (.bool true)
  | 19 => IsV (.bool true)
  | 20 => IsV (.slice (some ⟨g, o, none⟩) 2 c)
  | 21 => IsV (.pointer (some ⟨g, o, none⟩))
  | 22 => IsV (.string k0)
  | 23 => IsV (.slice (some ⟨g, o, none⟩) 2 c)
  | 24 => IsV (.pointer (some ⟨g, o + 1, none⟩))
  | 25 => IsV (.string k1)
  | 26 => IsV (.bool true)
  | 27 => IsV (.bool true)
  | 28 => IsV (.bool true)
  | 29 => IsV (.pointer (some ⟨q, 0, none⟩))
  | 30 => IsV (.string y)
  | 31 => IsV (.bool true)
  | 32 => IsV (.bool true)
  | 33 => IsV (.bool true)
  | 34 => IsV (.pointer (some ⟨q, 0, none⟩))
  | 35 => IsV (.int .i64 1)
  | 36 => IsV (.bool true)
  | 37 => IsV (.bool true)
  | 38 => IsV (.bool true)
  | _ => fun _ _ => True
def GK : Nat → Option Bool
  | 2 => some true
  | 6 => some true
  | 9 => some true
  | 14 => some true
  | 19 => some true
  | 28 => some true
  | 33 => some true
  | _ => none
theorem VK_keep {q g o c : Nat} {k0 k1 y : ByteArray} (i : Nat) (w w' : World) (v : Value) (hv : VK q g o c k0 k1 y i w v) : VK q g o c k0 k1 y i w' v := by
  match i, hv with
  | 0, hv => exact hv
  | 1, hv => exact hv
  | 2, hv => exact hv
  | 3, hv => exact hv
  | 4, hv => exact hv
  | 5, hv => exact hv
  | 6, hv => exact hv
  | 7, hv => exact hv
  | 8, hv => exact hv
  | 9, hv => exact hv
  | 10, hv => exact hv
  | 11, hv => exact hv
  | 12, hv => exact hv
  | 13, hv => exact hv
  | 14, hv => exact hv
  | 15, hv => exact hv
  | 16, hv => exact hv
  | 17, hv => exact hv
  | 18, hv => exact hv
  | 19, hv => exact hv
  | 20, hv => exact hv
  | 21, hv => exact hv
  | 22, hv => exact hv
  | 23, hv => exact hv
  | 24, hv => exact hv
  | 25, hv => exact hv
  | 26, hv => exact hv
  | 27, hv => exact hv
  | 28, hv => exact hv
  | 29, hv => exact hv
  | 30, hv => exact hv
  | 31, hv => exact hv
  | 32, hv => exact hv
  | 33, hv => exact hv
  | 34, hv => exact hv
  | 35, hv => exact hv
  | 36, hv => exact hv
  | 37, hv => exact hv
  | 38, hv => exact hv
  | n + 39, _ => trivial
theorem GK_is {q g o c : Nat} {k0 k1 y : ByteArray} (g' : Nat) (c' : Bool) (h : GK g' = some c') (w : World) (v : Value) (hv : VK q g o c k0 k1 y g' w v) : v = .bool c' := by
  unfold GK at h
  split at h
  all_goals first | (cases h; exact hv) | cases h

end Go.Proofs.Ytilcmlioofkkmaa.indexKeys
