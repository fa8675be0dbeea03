/-
  THE OPERATIONS THAT LAYER 4's LAWS ARE HANDED, as they lie in memory.
-/
import Derived.Test.YtgmgojpkjchmcaaDevSame
import Derived.Test.YtgmgojpkjchmcaaDevBegun
import Derived.Test.YtgmgojpkjchmcaaOpen
import Derived.Test.YtgmgojpkjchmcaaShort
namespace Go.Proofs.Ytgmgojpkjchmcaa
open Go Go.RowKit Go.Joins Go.ChangeShapes Go.WideShapes Go.ChangeAt

structure OpD where
  kind : Int
  i : Int
  B : Part
  KA : Option Addr
  kc : Nat
  keep : List Bool
instance : Inhabited OpD := ⟨⟨0, 0, default, none, 0, []⟩⟩
structure OpD.Fits (W : World) (F : Nat → Prop) (o : OpD) : Prop where
  k1 : -9223372036854775808 ≤ o.kind ∧ o.kind < 9223372036854775808
  i1 : -9223372036854775808 ≤ o.i ∧ o.i < 9223372036854775808
  b : o.B.Fits W F
  len : o.keep.length ≤ o.kc
  cap : o.kc ≤ maxLen
  none : o.KA = none → o.kc = 0
  row : Row W o.KA F (o.keep.map Value.bool)
/-- A slice of them. -/
def OpsAt (W : World) (A : Option Addr) (F : Nat → Prop) (l : List OpD) : Prop := ∀ k (h : k < l.length), ∃ b o, A = some ⟨b, o, none⟩ ∧ F b ∧ W.cell? ⟨b, o + k * 4, none⟩ = some (.int .i64 l[k].kind) ∧ W.cell? ⟨b, o + k * 4 + 1, none⟩ = some (.int .i64 l[k].i) ∧
  W.cell? ⟨b, o + k * 4 + 2, none⟩ = some l[k].B.val ∧ W.cell? ⟨b, o + k * 4 + 3, none⟩ = some (.slice l[k].KA l[k].keep.length l[k].kc) ∧ l[k].Fits W F
theorem OpsAt.keep {W W' : World} {A : Option Addr} {F : Nat → Prop} {l : List OpD} (h : OpsAt W A F l) (hk : Keeps F W W') : OpsAt W' A F l := fun k hl => by
  obtain ⟨b, o, e, hF, c0, c1, c2, c3, f⟩ := h k hl
  exact ⟨b, o, e, hF, hk.cell c0 hF, hk.cell c1 hF, hk.cell c2 hF, hk.cell c3 hF, ⟨f.k1, f.i1, f.b.keep hk, f.len, f.cap, f.none, f.row.keep hk⟩⟩

theorem open_ops {H : Type} {enc : TypeId × Value → H} {W : World} {v : Value} {d : DataW H} {ps : List MemPlace} {base : Nat}
    (hok : Value.okWide Try.prog W .any base 22 v) (h : DataW.Trod enc Try.prog W 0 (fun _ => true) true 22 v d ps) :
    ∃ (A : Option Addr) (cap : Nat) (l : List OpD), v = .slice A l.length cap ∧ l.length ≤ cap ∧ cap ≤ maxLen ∧ (A = none → cap = 0) ∧ OpsAt W A (fun b => b < W.heap.size) l := by
  obtain ⟨a, len, cap, rfl⟩ := okWide_slice Try.underlying22 hok
  obtain ⟨fuel, hf⟩ := h
  obtain ⟨A, n, c, hcs, h1, h2, h3, h4⟩ := open_structs Try.underlying22 Try.underlying31 (by kernel_rfl) (by kernel_rfl) (by decide) hf
  simp [Value.cells] at hcs
  obtain ⟨rfl, rfl, rfl⟩ := hcs
  have each : ∀ i, i < len → ∃ x : OpD, ∃ b o, a = some ⟨b, o, none⟩ ∧ b < W.heap.size ∧ W.cell? ⟨b, o + i * 4, none⟩ = some (.int .i64 x.kind) ∧ W.cell? ⟨b, o + i * 4 + 1, none⟩ = some (.int .i64 x.i) ∧
      W.cell? ⟨b, o + i * 4 + 2, none⟩ = some x.B.val ∧ W.cell? ⟨b, o + i * 4 + 3, none⟩ = some (.slice x.KA x.keep.length x.kc) ∧ x.Fits W (fun b => b < W.heap.size) := fun i hi => by
    obtain ⟨b, o, vs, n, rfl, hb, hvl, hc, hfl⟩ := h4 i hi
    obtain ⟨v0, y0, e0, t0⟩ := hfl 0 _ rfl
    obtain ⟨v1, y1, e1, t1⟩ := hfl 1 _ rfl
    obtain ⟨v2, y2, e2, t2⟩ := hfl 2 _ rfl
    obtain ⟨v3, y3, e3, t3⟩ := hfl 3 _ rfl
    obtain ⟨n0, q0, _, w0⟩ := DataW.trod_int Try.underlying3 t0
    obtain ⟨n1, q1, _, w1⟩ := DataW.trod_int Try.underlying3 t1
    obtain ⟨BA, bc, bl, q2, f1, f2, f3, f4⟩ := open_bytes_cs Try.underlying28 Try.underlying5 (by kernel_rfl) t2
    obtain ⟨KA, kc, kl, q3, g1, g2, g3, g4⟩ := open_bools Try.underlying29 Try.underlying4 (by kernel_rfl) t3
    have p0 := (List.cons.inj q0).1
    have p1 := (List.cons.inj q1).1
    have p2 := (List.cons.inj q2).1
    have p3 := (List.cons.inj q3).1
    subst p0 p1 p2 p3
    have b0 := bounds_i64 w0
    have b1 := bounds_i64 w1
    exact ⟨⟨n0, n1, ⟨BA, bc, bl⟩, KA, kc, kl⟩, b, o, rfl, hb, hc 0 _ e0, hc 1 _ e1, hc 2 _ e2, hc 3 _ e3, ⟨⟨b0.1, Int.lt_of_le_of_lt b0.2 (by decide)⟩, ⟨b1.1, Int.lt_of_le_of_lt b1.2 (by decide)⟩, ⟨f1, f2, f3, f4⟩, g1, g2, g3, g4⟩⟩
  obtain ⟨f, hpf⟩ := Go.Deep.choose_lt each
  refine ⟨a, cap, (List.range len).map f, by simp, by simpa using h1, h2, h3, fun k hk => ?_⟩
  have hk' : k < len := by simpa using hk
  have := hpf k hk'
  simpa using this

end Go.Proofs.Ytgmgojpkjchmcaa
