/-
  LAYER 21: keys by numbers; single operations of its drawn regions; a Put under such a key.
-/
import Derived.Test.YticophaepapjoaaGreatDoorAllA08
import Derived.Test.YticophaepapjoaaGreatDoorAllA06
namespace Go.Proofs.YticophaepapjoaaGreatDoor
open Go Go.RowKit Go.Joins

def snameL (i : Nat) : List UInt8 := [107, UInt8.ofNat (97 + i)]
def sname (i : Nat) : ByteArray := txt (snameL i)
theorem sname_size (i : Nat) : (sname i).size = 2 := by unfold sname; rw [txt_size]; rfl
theorem snameL_inj {i j : Nat} (hi : i ≤ 100) (hj : j ≤ 100) (h : snameL i = snameL j) : i = j := by
  unfold snameL at h
  injection h with _ h
  injection h with h2 h
  have e2 := congrArg UInt8.toNat h2
  simp only [UInt8.toNat_ofNat'] at e2
  omega
theorem sname_inj {i j : Nat} (hi : i ≤ 100) (hj : j ≤ 100) (h : sname i = sname j) : i = j :=
  snameL_inj hi hj (by have := congrArg (fun b : ByteArray => b.data.toList) h; simpa [sname, txt_list] using this)
theorem snameV_is (i : Nat) (hi : i ≤ 100) : [Value.int .u8 107, .int .u8 ((97 + i : Nat) : Int)] = bcells (snameL i) := by
  have e : ∀ n : Nat, n < 256 → ((UInt8.ofNat n).toNat : Int) = (n : Int) := fun n h => by rw [UInt8.toNat_ofNat', Nat.mod_eq_of_lt h]
  unfold snameL bcells
  simp only [List.map, bcell]
  rw [e _ (by omega)]
  rfl
def sItem (i : Nat) : It := ⟨sname i, sV, 0, false⟩
theorem sItem_may (i : Nat) : (sItem i).may = true := by
  have h : sV.size = 1 := by decide
  simp [It.may, sItem, sname_size, h]
section
variable {o : Oper} {a : Act} {w : World} {Q : Exit → Act → World → Prop} {x y : Operand}
theorem kp_st0 {b : Nat} (ho : o.op = .fieldAddr 38 x 0) (hx : a.eval x = .pointer (some ⟨b, 0, none⟩)) : o.wp Tryz.prog a w (fun a' w' => ∃ v, a' = a.put o.dst v ∧ Kp w w' ∧ IsV (.pointer (some ⟨b, 0, none⟩)) w' v) Q := by
  refine kp_yield (v := .pointer (some ⟨b, 0, none⟩)) (w' := w) ?_ (Keeps.refl _ _) rfl
  generalize a.eval = ρ at hx ⊢
  unfold execOp
  rw [ho]
  go_simp
theorem kp_ldC {b q : Nat} (hc : w.cell? ⟨b, 0, none⟩ = some (.pointer (some ⟨q, 0, none⟩))) (ho : o.op = .load 34 x) (hx : a.eval x = .pointer (some ⟨b, 0, none⟩)) : o.wp Tryz.prog a w (fun a' w' => ∃ v, a' = a.put o.dst v ∧ Kp w w' ∧ IsV (.pointer (some ⟨q, 0, none⟩)) w' v) Q := by
  refine kp_yield (v := .pointer (some ⟨q, 0, none⟩)) (w' := w) ?_ (Keeps.refl _ _) rfl
  generalize a.eval = ρ at hx ⊢
  unfold execOp
  rw [ho]
  go_simp
theorem kp_add97 {n : Nat} (h : n ≤ 1000) (ho : o.op = .binOp .add 3 (.const (.int .i64 97)) x 3) (hx : a.eval x = .int .i64 (n : Int)) : o.wp Tryz.prog a w (fun a' w' => ∃ v, a' = a.put o.dst v ∧ Kp w w' ∧ IsV (.int .i64 ((97 + n : Nat) : Int)) w' v) Q :=
  kp_add (m := 97) (n := n) (by omega) ho rfl hx
/-- []byte{'k', byte(n)}. -/
theorem kp_stwo {i m : Nat} (h : i ≤ 100) (hm : m ≤ w.heap.size) (ho : o.op = .buildSlice 64 2 #[(0, .const (.int .u8 107)), (1, x)]) (hx : a.eval x = .int .u8 ((97 + i : Nat) : Int)) : o.wp Tryz.prog a w (fun a' w' => ∃ v, a' = a.put o.dst v ∧ Kp w w' ∧ TextM m (snameL i) w' v) Q := by
  have hc := snameV_is i h
  refine kp_yield (v := .slice (some ⟨w.heap.size, 0, none⟩) 2 2) (w' := w.alloc (.cells #[.int .u8 107, .int .u8 ((97 + i : Nat) : Int)] 5)) ?_ ((Keeps.refl _ _).alloc _) ⟨_, 2, rfl, Nat.le_refl _, by decide, (fun h => by cases h), ?_⟩
  · clear hc
    have h0 : a.eval (.const (.int .u8 107)) = .int .u8 107 := rfl
    generalize ((97 + i : Nat) : Int) = z at hx ⊢
    generalize a.eval = ρ at hx h0 ⊢
    unfold execOp
    rw [ho]
    go_simp
  · exact Row.fresh w _ 5 (0, 0) _ rfl hm _ (by rw [← hc])
theorem kp_item {i : Nat} (ho : o.op = .build 40 #[(0, x), (1, .const (.string { data := #[118] }))]) (hx : a.eval x = .string (sname i)) : o.wp Tryz.prog a w (fun a' w' => ∃ v, a' = a.put o.dst v ∧ Kp w w' ∧ IsV (.agg #[.string (sname i), .string { data := #[118] }, .int .i64 0, .bool false]) w' v) Q := by
  refine kp_yield (v := .agg #[.string (sname i), .string { data := #[118] }, .int .i64 0, .bool false]) (w' := w) ?_ (Keeps.refl _ _) rfl
  have h0 : a.eval (.const (.string { data := #[118] })) = .string { data := #[118] } := rfl
  generalize sname i = s at hx ⊢
  generalize a.eval = ρ at hx h0 ⊢
  unfold execOp
  rw [ho]
  go_simp
end

/-! ### The region of a Put under such a key -/
/-- What is known of the store: ahead of the Put, behind it; the blocks Y are the law's own. -/
def PutSt (S : FlashOK) (J : JournalOK) (W : World) (p b q1 q2 k : Nat) (z : Sto) (n g : Nat) (x : It) (Y : Nat → Prop) : Bool → World → Prop
  | false, w => g ≤ w.heap.size ∧ ∃ d, StAt S J W w p b q1 q2 k z n d (fun c => Y c ∨ (g ≤ c ∧ c < w.heap.size))
  | true, w => g ≤ w.heap.size ∧ ∃ u, z.f.gone ≤ u ∧ StAt S J W w p b q1 q2 k ⟨⟨z.f.place, z.f.segs, z.f.ents ++ [fput x], u, z.f.age + 1⟩, z.j, z.t, z.m, z.boot, z.c + 2000⟩ n 0 Y
section
variable {S : FlashOK} {J : JournalOK} {W w w' : World} {p b q1 q2 k n g d : Nat} {z : Sto} {x : It} {Y : Nat → Prop} {t : Bool}
theorem PutSt.keep (hk : Kp w w') (h : PutSt S J W p b q1 q2 k z n g x Y t w) : PutSt S J W p b q1 q2 k z n g x Y t w' := by
  have hs := hk.size
  cases t
  · obtain ⟨hg, d, h⟩ := h
    exact ⟨by omega, d, h.more hk fun c hc => by
      rcases hc with hc | hc
      · exact .inl (.inl hc)
      · by_cases h2 : c < w.heap.size
        · exact .inl (.inr ⟨hc.1, h2⟩)
        · exact .inr ⟨by omega, hc.2⟩⟩
  · obtain ⟨hg, u, h1, h⟩ := h
    exact ⟨by omega, u, h1, h.keep hk⟩
theorem PutSt.size (h : PutSt S J W p b q1 q2 k z n g x Y t w) : g ≤ w.heap.size := by
  cases t
  · exact h.1
  · exact h.1
theorem PutSt.c0 (h : PutSt S J W p b q1 q2 k z n g x Y t w) : w.cell? ⟨b, 0, none⟩ = some (.pointer (some ⟨q1, 0, none⟩)) := by
  cases t
  · obtain ⟨-, d, h⟩ := h
    exact h.blk.c0
  · obtain ⟨-, u, -, h⟩ := h
    exact h.blk.c0
theorem PutSt.start (h : StAt S J W w p b q1 q2 k z n d Y) : PutSt S J W p b q1 q2 k z n w.heap.size x Y false w.drew :=
  ⟨by simp, d, h.more ((Keeps.refl _ w).drew) fun c hc => by
    rcases hc with hc | hc
    · exact .inl hc
    · simp at hc; omega⟩
end
theorem keeps_from {g : Nat} {Y : Nat → Prop} {w w' : World} (h : Keeps (fun x => Y x ∨ (g ≤ x ∧ x < w.heap.size)) w w') : Keeps (fun x => Y x ∨ g ≤ x) w w' :=
  ⟨h.os, h.tape, h.output, h.size, fun b hb hlt => h.block b (hb.imp id fun h => ⟨h, hlt⟩) hlt⟩

end Go.Proofs.YticophaepapjoaaGreatDoor
