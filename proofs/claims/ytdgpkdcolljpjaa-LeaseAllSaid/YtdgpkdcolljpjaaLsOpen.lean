/-
  WHAT LAYER 17's LAW OF ALL OPERATIONS IS HANDED, as it lies in memory.
-/
import Derived.Test.YtdgpkdcolljpjaaLsAll
import Derived.Test.YtdgpkdcolljpjaaOpen
namespace Go.Proofs.Ytdgpkdcolljpjaa
open Go Go.RowKit Go.Joins Go.ChangeShapes Go.WideShapes Go.ChangeAt Go.Deep

set_option maxRecDepth 100000 in
theorem open_ops16 {H : Type} {enc : TypeId × Value → H} {W : World} {v : Value} {d : DataW H} {ps : List MemPlace} {base : Nat}
    (hok : Value.okWide Try.prog W .any base 22 v) (h : DataW.Trod enc Try.prog W 0 (fun _ => true) true 22 v d ps) :
    ∃ (A : Option Addr) (cap : Nat) (l : List Op16), v = .slice A l.length cap ∧ l.length ≤ cap ∧ cap ≤ maxLen ∧ (A = none → cap = 0) ∧ Op16sAt W A (fun b => b < W.heap.size) l := by
  obtain ⟨a, len, cap, rfl⟩ := okWide_slice Try.underlying22 hok
  obtain ⟨fuel, hf⟩ := h
  obtain ⟨A, n, c, hcs, h1, h2, h3, h4⟩ := open_structs Try.underlying22 Try.underlying33 (by kernel_rfl) (by kernel_rfl) (by decide) hf
  simp [Value.cells] at hcs
  obtain ⟨rfl, rfl, rfl⟩ := hcs
  have each : ∀ i, i < len → ∃ x : Op16, ∃ b o, a = some ⟨b, o, none⟩ ∧ b < W.heap.size ∧ W.cell? ⟨b, o + i * 3, none⟩ = some (.int .i64 x.kind) ∧
      W.cell? ⟨b, o + i * 3 + 1, none⟩ = some (.int .i64 x.n) ∧ W.cell? ⟨b, o + i * 3 + 2, none⟩ = some (.int .i64 x.e) := fun i hi => by
    obtain ⟨b, o, vs, n, rfl, hb, hvl, hc, hfl⟩ := h4 i hi
    obtain ⟨v0, y0, e0, t0⟩ := hfl 0 _ rfl
    obtain ⟨v1, y1, e1, t1⟩ := hfl 1 _ rfl
    obtain ⟨v2, y2, e2, t2⟩ := hfl 2 _ rfl
    obtain ⟨n0, q0, -, -⟩ := DataW.trod_int Try.underlying3 t0
    obtain ⟨n1, q1, -, -⟩ := DataW.trod_int Try.underlying2 t1
    obtain ⟨n2, q2, -, -⟩ := DataW.trod_int Try.underlying2 t2
    have p0 := (List.cons.inj q0).1
    have p1 := (List.cons.inj q1).1
    have p2 := (List.cons.inj q2).1
    subst p0 p1 p2
    exact ⟨⟨n0, n1, n2⟩, b, o, rfl, hb, hc 0 _ e0, hc 1 _ e1, hc 2 _ e2⟩
  obtain ⟨f, hf⟩ := choose_lt each
  have hln : ((List.range len).map f).length = len := by simp
  refine ⟨a, cap, (List.range len).map f, by rw [hln], by rw [hln]; exact h1, h2, h3, fun k hk => ?_⟩
  rw [hln] at hk
  have e : ((List.range len).map f)[k]'(by rw [hln]; exact hk) = f k := by simp
  rw [e]
  exact hf k hk

end Go.Proofs.Ytdgpkdcolljpjaa
