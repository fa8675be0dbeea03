/-
  WHAT LAYER 7's LAWS ARE HANDED, as it lies in memory: an entry; a slice of entries.
-/
import Derived.Test.YtoepgbpmcjnbmaaGreatDoorAllItemA
import Derived.Test.YtoepgbpmcjnbmaaGreatDoorAllLaid
import Derived.Lib.SmallJoins
namespace Go.Proofs.YtoepgbpmcjnbmaaGreatDoor
open Go Go.RowKit Go.Joins Go.ChangeShapes Go.WideShapes Go.ChangeAt
def It.came (x : It) : Prop := x.key.size ≤ maxLen ∧ x.val.size ≤ maxLen ∧ -9223372036854775808 ≤ x.till ∧ x.till < 9223372036854775808
set_option maxRecDepth 100000 in
theorem open_item {H : Type} {enc : TypeId × Value → H} {W : World} {v : Value} {d : DataW H} {ps : List MemPlace} {base : Nat}
    (hok : Value.okWide Tryz.prog W .any base 35 v) (h : DataW.Trod enc Tryz.prog W 0 (fun _ => true) true 35 v d ps) :
    ∃ x : It, v = .agg #[.string x.key, .string x.val, .int .i64 x.till, .bool x.gone] ∧ x.came := by
  obtain ⟨c0, c1, c2, c3, y0, y1, y2, y3, n, rfl, -, -, h0, h1, h2, h3⟩ := open_agg4 Tryz.underlying35 (by kernel_rfl) (by kernel_rfl) hok h
  obtain ⟨s0, q0, -, w0⟩ := DataW.trod_string Tryz.underlying9 h0
  obtain ⟨s1, q1, -, w1⟩ := DataW.trod_string Tryz.underlying9 h1
  obtain ⟨n2, q2, -, w2⟩ := DataW.trod_int Tryz.underlying2 h2
  obtain ⟨b3, q3, -⟩ := DataW.trod_bool Tryz.underlying4 h3
  have p0 := (List.cons.inj q0).1
  have p1 := (List.cons.inj q1).1
  have p2 := (List.cons.inj q2).1
  have p3 := (List.cons.inj q3).1
  subst p0 p1 p2 p3
  have hb := bounds_i64 w2
  exact ⟨⟨s0, s1, n2, b3⟩, rfl, w0, w1, hb.1, Int.lt_of_le_of_lt hb.2 (by decide)⟩
set_option maxRecDepth 100000 in
theorem open_items {H : Type} {enc : TypeId × Value → H} {W : World} {v : Value} {d : DataW H} {ps : List MemPlace} {base : Nat}
    (hok : Value.okWide Tryz.prog W .any base 52 v) (h : DataW.Trod enc Tryz.prog W 0 (fun _ => true) true 52 v d ps) :
    ∃ (A : Option Addr) (cap : Nat) (l : List It), v = .slice A l.length cap ∧ l.length ≤ cap ∧ cap ≤ maxLen ∧ (A = none → cap = 0) ∧ ItsAt W A (fun b => b < W.heap.size) l ∧ ∀ x ∈ l, x.came := by
  obtain ⟨a, len, cap, rfl⟩ := okWide_slice Tryz.underlying52 hok
  obtain ⟨fuel, hf⟩ := h
  obtain ⟨A, n, c, hcs, h1, h2, h3, h4⟩ := open_structs Tryz.underlying52 Tryz.underlying35 (by kernel_rfl) (by kernel_rfl) (by decide) hf
  simp [Value.cells] at hcs
  obtain ⟨rfl, rfl, rfl⟩ := hcs
  have each : ∀ i, i < len → ∃ x : It, (∃ b o, a = some ⟨b, o, none⟩ ∧ b < W.heap.size ∧ W.cell? ⟨b, o + i * 4, none⟩ = some (.string x.key) ∧
      W.cell? ⟨b, o + i * 4 + 1, none⟩ = some (.string x.val) ∧ W.cell? ⟨b, o + i * 4 + 2, none⟩ = some (.int .i64 x.till) ∧ W.cell? ⟨b, o + i * 4 + 3, none⟩ = some (.bool x.gone)) ∧ x.came := fun i hi => by
    obtain ⟨b, o, vs, n, rfl, hb, hvl, hc, hfl⟩ := h4 i hi
    obtain ⟨v0, y0, e0, t0⟩ := hfl 0 _ rfl
    obtain ⟨v1, y1, e1, t1⟩ := hfl 1 _ rfl
    obtain ⟨v2, y2, e2, t2⟩ := hfl 2 _ rfl
    obtain ⟨v3, y3, e3, t3⟩ := hfl 3 _ rfl
    obtain ⟨s0, q0, -, w0⟩ := DataW.trod_string Tryz.underlying9 t0
    obtain ⟨s1, q1, -, w1⟩ := DataW.trod_string Tryz.underlying9 t1
    obtain ⟨n2, q2, -, w2⟩ := DataW.trod_int Tryz.underlying2 t2
    obtain ⟨b3, q3, -⟩ := DataW.trod_bool Tryz.underlying4 t3
    have p0 := (List.cons.inj q0).1
    have p1 := (List.cons.inj q1).1
    have p2 := (List.cons.inj q2).1
    have p3 := (List.cons.inj q3).1
    subst p0 p1 p2 p3
    have hbd := bounds_i64 w2
    exact ⟨⟨s0, s1, n2, b3⟩, ⟨b, o, rfl, hb, hc 0 _ e0, hc 1 _ e1, hc 2 _ e2, hc 3 _ e3⟩, w0, w1, hbd.1, Int.lt_of_le_of_lt hbd.2 (by decide)⟩
  refine ⟨a, cap, (List.range len).map fun i => if h : i < len then (each i h).choose else default, by simp, by simpa using h1, h2, h3, fun k hk => ?_, fun x hx => ?_⟩
  · have hk' : k < len := by simpa using hk
    have e : ((List.range len).map fun i => if h : i < len then (each i h).choose else default)[k] = (each k hk').choose := by simp [hk']
    rw [e]
    exact (each k hk').choose_spec.1
  · obtain ⟨i, hi, rfl⟩ := List.mem_map.1 hx
    have hi' : i < len := List.mem_range.1 hi
    rw [dif_pos hi']
    exact (each i hi').choose_spec.2
end Go.Proofs.YtoepgbpmcjnbmaaGreatDoor
