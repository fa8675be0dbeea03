/-
  THE OPERATIONS THAT STAND IN THE DRAWN REGION OF CrcThree, each by itself.
-/
import Derived.Test.YtfcbiaedhidibaaDoorCrcOne
import Derived.Test.YtfcbiaedhidibaaDoorLocs
namespace Go.Proofs.YtfcbiaedhidibaaDoor
open Go Go.RowKit

section
variable {o : Oper} {a : Act} {w : World} {Q : Exit → Act → World → Prop} {x y : Operand}

theorem loc_hdr {A : Option Addr} {n c : Nat} (ho : o.op = .buildSlice 22 1 #[(0, x)]) (hx : a.eval x = .slice A n c) :
    o.wp Tryd.prog a w (fun a' w' => ∃ v, a' = a.put o.dst v ∧ Adds w w' ∧ Box1 (.slice A n c) w' v) Q := by
  refine loc_yield (v := .slice (some ⟨w.heap.size, 0, none⟩) 1 1) (w' := w.alloc (.cells #[.slice A n c] 24)) ?_ ((Adds.refl w).alloc _ _) ⟨_, rfl, cell_new _ _ _ _ rfl⟩
  generalize a.eval = ρ at hx ⊢
  unfold execOp
  rw [ho]
  go_simp
theorem loc_cut {A : Option Addr} {n l c : Nat} (ho : o.op = .slice 24 x none (some y) none) (hx : a.eval x = .slice A l c) (hy : a.eval y = .int .i64 (n : Int)) (h1 : n ≤ l) (h2 : l ≤ c) (h3 : A = none → c = 0) (h4 : c ≤ 9223372036854775807) :
    o.wp Tryd.prog a w (fun a' w' => ∃ v, a' = a.put o.dst v ∧ Adds w w' ∧ Is (.slice A n c) w' v) Q := by
  refine loc_yield (v := .slice A n c) (w' := w) ?_ (Adds.refl w) rfl
  generalize a.eval = ρ at hx hy ⊢
  unfold execOp
  rw [ho]
  rcases A with _ | ad
  · obtain rfl : c = 0 := h3 rfl
    obtain rfl : l = 0 := by omega
    obtain rfl : n = 0 := by omega
    go_simp
  · clear h3
    go_simp
    intro h
    omega
theorem loc_sum {A : Option Addr} {c n : Nat} {l : List UInt8} {F : Nat → Prop} (hn : n = l.length) (ho : o.op = .call { callee := .value (.func 9), args := #[x], argTypes := #[22] }) (hT : Taken w) (hr : Row w A F (bcells l)) (hl : l.length ≤ maxLen)
    (hx : Box1 (.slice A n c) w (a.eval x)) :
    o.wp Tryd.prog a w (fun a' w' => ∃ v, a' = a.put o.dst v ∧ Adds w w' ∧ Is (.int .u32 ((crcN l : Nat) : Int)) w' v) Q := by
  subst hn
  obtain ⟨b, hb, hc⟩ := hx
  have hf : a.eval (.func 9) = .func (.func 9) #[] #[] := rfl
  have h1 : Row w (some ⟨b, 0, none⟩) Any [.slice A l.length c] := fun _ => ⟨b, 0, rfl, trivial, fun i v hv => by
    rcases i with _ | i
    · simp at hv; subst hv; exact hc
    · simp at hv⟩
  refine loc_enter (f := 9) (args := #[.slice (some ⟨b, 0, none⟩) 1 1]) ?_ (sum_one A c l b 1 F w h1 hr hl hT) ?_
  · generalize a.eval = ρ at hb hf ⊢
    unfold execOp
    rw [ho]
    go_simp
  · rintro e w' ⟨rfl, rfl⟩
    exact ⟨_, rfl, Adds.refl _, rfl⟩
theorem loc_xor32 {m n : Nat} (ho : o.op = .binOp .xor 26 x y 26) (hx : a.eval x = .int .u32 (m : Int)) (hy : a.eval y = .int .u32 (n : Int)) (h1 : m < 4294967296) (h2 : n < 4294967296) :
    o.wp Tryd.prog a w (fun a' w' => ∃ v, a' = a.put o.dst v ∧ Adds w w' ∧ Is (.int .u32 ((m ^^^ n : Nat) : Int)) w' v) Q := by
  refine loc_yield (v := .int .u32 ((m ^^^ n : Nat) : Int)) (w' := w) ?_ (Adds.refl w) rfl
  rw [← u32_xor_nat m n h1 h2]
  generalize a.eval = ρ at hx hy ⊢
  unfold execOp
  rw [ho]
  go_simp
theorem loc_eq32 {m n : Int} (ho : o.op = .binOp .eql 26 x y 26) (hx : a.eval x = .int .u32 m) (hy : a.eval y = .int .u32 n) :
    o.wp Tryd.prog a w (fun a' w' => ∃ v, a' = a.put o.dst v ∧ Adds w w' ∧ Is (.bool (m == n)) w' v) Q := by
  refine loc_yield (v := .bool (m == n)) (w' := w) ?_ (Adds.refl w) rfl
  generalize a.eval = ρ at hx hy ⊢
  unfold execOp
  rw [ho]
  go_simp
end
end Go.Proofs.YtfcbiaedhidibaaDoor
