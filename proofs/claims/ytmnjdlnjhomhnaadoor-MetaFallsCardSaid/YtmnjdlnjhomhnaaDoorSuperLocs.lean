/-
  THE OPERATIONS THAT STAND IN THE DRAWN REGIONS OF LAYER 5's LAWS, each by itself.
-/
import Derived.Test.YtmnjdlnjhomhnaaDoorSuperIf
import Derived.Test.YtmnjdlnjhomhnaaDoorAllInvs
import Derived.IntWalk
namespace Go.Proofs.YtmnjdlnjhomhnaaDoor
open Go Go.RowKit
section
variable {o : Oper} {a : Act} {w : World} {Q : Exit → Act → World → Prop} {x y : Operand}
theorem kp_eqE {m n : Int} {b : Bool} (hb : (m == n) = b) (ho : o.op = .binOp .eql 28 x y 28) (hx : a.eval x = .int .i64 m) (hy : a.eval y = .int .i64 n) : o.wp Tryd.prog a w (fun a' w' => ∃ v, a' = a.put o.dst v ∧ Kp w w' ∧ IsV (.bool b) w' v) Q := by
  subst hb
  refine kp_yield (v := .bool (m == n)) (w' := w) ?_ (Keeps.refl _ _) rfl
  generalize a.eval = ρ at hx hy ⊢
  unfold execOp
  rw [ho]
  go_simp
theorem kp_eqI {m n : Int} {b : Bool} (hb : (m == n) = b) (ho : o.op = .binOp .eql 2 x y 2) (hx : a.eval x = .int .i64 m) (hy : a.eval y = .int .i64 n) : o.wp Tryd.prog a w (fun a' w' => ∃ v, a' = a.put o.dst v ∧ Kp w w' ∧ IsV (.bool b) w' v) Q := by
  subst hb
  refine kp_yield (v := .bool (m == n)) (w' := w) ?_ (Keeps.refl _ _) rfl
  generalize a.eval = ρ at hx hy ⊢
  unfold execOp
  rw [ho]
  go_simp
theorem kp_eqS {s t : ByteArray} {b : Bool} (hb : (s.toList == t.toList) = b) (ho : o.op = .binOp .eql 9 x y 9) (hx : a.eval x = .string s) (hy : a.eval y = .string t) : o.wp Tryd.prog a w (fun a' w' => ∃ v, a' = a.put o.dst v ∧ Kp w w' ∧ IsV (.bool b) w' v) Q := by
  subst hb
  refine kp_yield (v := .bool (s.toList == t.toList)) (w' := w) ?_ (Keeps.refl _ _) rfl
  generalize a.eval = ρ at hx hy ⊢
  unfold execOp
  rw [ho]
  go_simp
theorem kp_text {W : World} {S : SupOK} {p q : Nat} {F Fs : Foot} {s : SDev} {st : SSt} (hT : S.T W) (h : Duo S W w p q F Fs s st) (ho : o.op = .call { callee := .value (.func 27), args := #[x], argTypes := #[42] })
    (hx : a.eval x = .pointer (some ⟨q, 0, none⟩)) : o.wp Tryd.prog a w (fun a' w' => ∃ v, a' = a.put o.dst v ∧ Kp w w' ∧ TextV st.text w' v) Q := by
  have hf : a.eval (.func 27) = .func (.func 27) #[] #[] := rfl
  refine kp_enter (f := 27) (args := #[.pointer (some ⟨q, 0, none⟩)]) ?_ (duo_text hT h) ?_
  · generalize a.eval = ρ at hx hf ⊢
    unfold execOp
    rw [ho]
    go_simp
  · rintro e w' ⟨A, c, rfl, hr, hk⟩
    exact ⟨_, rfl, hk, A, c, rfl, hr.mono fun _ _ _ => trivial⟩
end
def TextM (m : Nat) (l : List UInt8) : World → Value → Prop := fun w v => ∃ A c, v = .slice A l.length c ∧ l.length ≤ c ∧ c ≤ maxLen ∧ (A = none → c = 0) ∧ Row w A (fun b => m ≤ b) (bcells l)
theorem TextM.keep {m : Nat} {l : List UInt8} {w w' : World} {v : Value} (h : Keeps (fun b => m ≤ b) w w') (hv : TextM m l w v) : TextM m l w' v := by
  obtain ⟨A, c, e, h1, h2, h3, hr⟩ := hv
  exact ⟨A, c, e, h1, h2, h3, hr.keep h⟩
theorem TextM.text {m : Nat} {l : List UInt8} {w : World} {v : Value} (hv : TextM m l w v) : TextV l w v := by
  obtain ⟨A, c, e, _, _, _, hr⟩ := hv
  exact ⟨A, c, e, hr.mono fun _ _ _ => trivial⟩
def TextN (m : Nat) (l : List UInt8) : World → Value → Prop := fun w v => ∃ A c, v = .slice A l.length c ∧ Row w A (fun b => m ≤ b) (bcells l)
theorem TextN.keep {m : Nat} {l : List UInt8} {w w' : World} {v : Value} (h : Keeps (fun b => m ≤ b) w w') (hv : TextN m l w v) : TextN m l w' v := by
  obtain ⟨A, c, e, hr⟩ := hv
  exact ⟨A, c, e, hr.keep h⟩
theorem TextN.text {m : Nat} {l : List UInt8} {w : World} {v : Value} (hv : TextN m l w v) : TextV l w v := by
  obtain ⟨A, c, e, hr⟩ := hv
  exact ⟨A, c, e, hr.mono fun _ _ _ => trivial⟩
section
variable {o : Oper} {a : Act} {w : World} {Q : Exit → Act → World → Prop} {x y : Operand}
theorem kp_neE {m n : Int} {b : Bool} (hb : (m != n) = b) (ho : o.op = .binOp .neq 28 x y 28) (hx : a.eval x = .int .i64 m) (hy : a.eval y = .int .i64 n) : o.wp Tryd.prog a w (fun a' w' => ∃ v, a' = a.put o.dst v ∧ Kp w w' ∧ IsV (.bool b) w' v) Q := by
  subst hb
  refine kp_yield (v := .bool (m != n)) (w' := w) ?_ (Keeps.refl _ _) rfl
  generalize a.eval = ρ at hx hy ⊢
  unfold execOp
  rw [ho]
  go_simp
theorem kp_neI {m n : Int} {b : Bool} (hb : (m != n) = b) (ho : o.op = .binOp .neq 2 x y 2) (hx : a.eval x = .int .i64 m) (hy : a.eval y = .int .i64 n) : o.wp Tryd.prog a w (fun a' w' => ∃ v, a' = a.put o.dst v ∧ Kp w w' ∧ IsV (.bool b) w' v) Q := by
  subst hb
  refine kp_yield (v := .bool (m != n)) (w' := w) ?_ (Keeps.refl _ _) rfl
  generalize a.eval = ρ at hx hy ⊢
  unfold execOp
  rw [ho]
  go_simp
theorem kp_neS {s : ByteArray} (ho : o.op = .binOp .neq 9 x y 9) (hx : a.eval x = .string s) (hy : a.eval y = .string s) : o.wp Tryd.prog a w (fun a' w' => ∃ v, a' = a.put o.dst v ∧ Kp w w' ∧ IsV (.bool false) w' v) Q := by
  refine kp_yield (v := .bool false) (w' := w) ?_ (Keeps.refl _ _) rfl
  generalize a.eval = ρ at hx hy ⊢
  unfold execOp
  rw [ho]
  go_simp
theorem kp_add {m n : Nat} (h : m + n ≤ 1000000) (ho : o.op = .binOp .add 3 x y 3) (hx : a.eval x = .int .i64 (m : Int)) (hy : a.eval y = .int .i64 (n : Int)) : o.wp Tryd.prog a w (fun a' w' => ∃ v, a' = a.put o.dst v ∧ Kp w w' ∧ IsV (.int .i64 ((m + n : Nat) : Int)) w' v) Q := by
  have h1 : ((m + n : Nat) : Int) = (m : Int) + (n : Int) := by omega
  rw [h1]
  refine kp_yield (v := .int .i64 ((m : Int) + (n : Int))) (w' := w) ?_ (Keeps.refl _ _) rfl
  have h2 : (m : Int) + (n : Int) ≤ 1000000 := by omega
  have h3 : (0 : Int) ≤ (m : Int) := by omega
  have h4 : (0 : Int) ≤ (n : Int) := by omega
  clear h1
  generalize (m : Int) = M at *
  generalize (n : Int) = N at *
  generalize a.eval = ρ at hx hy ⊢
  unfold execOp
  rw [ho]
  go_simp
  exact IntWalk.i64_in _ (by omega)
theorem kp_u8 {n : Nat} (h : n < 256) (ho : o.op = .convert 3 5 x) (hx : a.eval x = .int .i64 (n : Int)) : o.wp Tryd.prog a w (fun a' w' => ∃ v, a' = a.put o.dst v ∧ Kp w w' ∧ IsV (.int .u8 (n : Int)) w' v) Q := by
  refine kp_yield (v := .int .u8 (n : Int)) (w' := w) ?_ (Keeps.refl _ _) rfl
  have h2 : (n : Int) < 256 := by omega
  generalize a.eval = ρ at hx ⊢
  unfold execOp
  rw [ho]
  go_simp
  unfold IntKind.wrap
  simp [IntKind.bits, IntKind.signed]
  omega
theorem kp_one {n m : Nat} (h : n < 256) (hm : m ≤ w.heap.size) (ho : o.op = .buildSlice 45 1 #[(0, x)]) (hx : a.eval x = .int .u8 (n : Int)) : o.wp Tryd.prog a w (fun a' w' => ∃ v, a' = a.put o.dst v ∧ Kp w w' ∧ TextM m [UInt8.ofNat n] w' v) Q := by
  have hc : (.int .u8 (n : Int) : Value) = bcell (UInt8.ofNat n) := by
    unfold bcell; rw [UInt8.toNat_ofNat', Nat.mod_eq_of_lt (by omega)]
  refine kp_yield (v := .slice (some ⟨w.heap.size, 0, none⟩) 1 1) (w' := w.alloc (.cells #[.int .u8 (n : Int)] 5)) ?_ ((Keeps.refl _ _).alloc _) ⟨_, 1, rfl, Nat.le_refl _, by decide, (fun h => by cases h), ?_⟩
  · clear hc
    generalize a.eval = ρ at hx ⊢
    unfold execOp
    rw [ho]
    go_simp
  · exact Row.fresh w #[.int .u8 (n : Int)] 5 (0, 0) _ rfl hm _ (by rw [hc]; rfl)
theorem kp_textN {W : World} {S : SupOK} {p q m : Nat} {F Fs : Foot} {s : SDev} {st : SSt} (hT : S.T W) (h : Duo S W w p q F Fs s st) (hm : m ≤ w.heap.size) (ho : o.op = .call { callee := .value (.func 27), args := #[x], argTypes := #[42] })
    (hx : a.eval x = .pointer (some ⟨q, 0, none⟩)) : o.wp Tryd.prog a w (fun a' w' => ∃ v, a' = a.put o.dst v ∧ Kp w w' ∧ TextN m st.text w' v) Q := by
  have hf : a.eval (.func 27) = .func (.func 27) #[] #[] := rfl
  refine kp_enter (f := 27) (args := #[.pointer (some ⟨q, 0, none⟩)]) ?_ (duo_text hT h) ?_
  · generalize a.eval = ρ at hx hf ⊢
    unfold execOp
    rw [ho]
    go_simp
  · rintro e w' ⟨A, c, rfl, hr, hk⟩
    exact ⟨_, rfl, hk, A, c, rfl, hr.mono fun _ _ hb => Nat.le_trans hm hb.1⟩
theorem one_enter {P : Program} {X : World → Value → Prop} {f : FuncId} {args : Array Value} {C : Ending → World → Prop} (e : (execOp a.eval o).run P w = .ok (.enter f args) w) (hc : Calls P f args w C)
    (hC : ∀ e w', C e w' → ∃ v, e = .returned v ∧ X w' v) : o.wp P a w (fun a' w' => ∃ v, a' = a.put o.dst v ∧ X w' v) Q := by
  unfold Oper.wp
  rw [e]
  refine hc.mono fun e w' h => ?_
  obtain ⟨v, rfl, hv⟩ := hC e w' h
  exact ⟨v, rfl, hv⟩
end
theorem txt_eq (l : List UInt8) : ((txt l).toList == (txt l).toList) = true := beq_self_eq_true _
theorem txt_ne {l r : List UInt8} (h : l ≠ r) : ((txt l).toList == (txt r).toList) = false := by
  rw [beq_eq_false_iff_ne]
  intro e
  refine h ?_
  have e1 : (txt l).toList = l := by rw [Lib.toList_data]; rfl
  have e2 : (txt r).toList = r := by rw [Lib.toList_data]; rfl
  rw [e1, e2] at e
  exact e
end Go.Proofs.YtmnjdlnjhomhnaaDoor
