/-
  WHAT LAYER 12's LAWS ARE HANDED, as it lies in memory: a meta; a slice of metas.
-/
import Derived.Test.YtmnjdlnjhomhnaaDoorMetaAllWalk
import Derived.Test.YtmnjdlnjhomhnaaDoorAllLaid
namespace Go.Proofs.YtmnjdlnjhomhnaaDoor
open Go Go.RowKit Go.Joins Go.ChangeShapes Go.WideShapes Go.ChangeAt Go.Deep
theorem M4.fits_of {b e r : Int} {f : Bool} (h0 : (Lit.int .i64 b).wf = true) (h1 : (Lit.int .i64 e).wf = true) (h2 : (Lit.int .i64 r).wf = true) : (⟨b, e, r, f⟩ : M4).Fits := by
  have g0 := bounds_i64 h0
  have g1 := bounds_i64 h1
  have g2 := bounds_i64 h2
  exact ⟨g0.1, Int.lt_of_le_of_lt g0.2 (by decide), g1.1, Int.lt_of_le_of_lt g1.2 (by decide), g2.1, Int.lt_of_le_of_lt g2.2 (by decide)⟩
set_option maxRecDepth 100000 in
theorem open_meta {H : Type} {enc : TypeId × Value → H} {W : World} {v : Value} {d : DataW H} {ps : List MemPlace} {base : Nat}
    (hok : Value.okWide Tryd.prog W .any base 32 v) (h : DataW.Trod enc Tryd.prog W 0 (fun _ => true) true 32 v d ps) :
    ∃ x : M4, v = magg x ∧ x.Fits := by
  obtain ⟨c0, c1, c2, c3, y0, y1, y2, y3, n, rfl, -, -, h0, h1, h2, h3⟩ := open_agg4 Tryd.underlying32 (by kernel_rfl) (by kernel_rfl) hok h
  obtain ⟨n0, q0, -, w0⟩ := DataW.trod_int Tryd.underlying2 h0
  obtain ⟨n1, q1, -, w1⟩ := DataW.trod_int Tryd.underlying2 h1
  obtain ⟨n2, q2, -, w2⟩ := DataW.trod_int Tryd.underlying2 h2
  obtain ⟨b3, q3, -⟩ := DataW.trod_bool Tryd.underlying4 h3
  have p0 := (List.cons.inj q0).1
  have p1 := (List.cons.inj q1).1
  have p2 := (List.cons.inj q2).1
  have p3 := (List.cons.inj q3).1
  subst p0 p1 p2 p3
  exact ⟨⟨n0, n1, n2, b3⟩, rfl, M4.fits_of w0 w1 w2⟩
set_option maxRecDepth 100000 in
theorem open_metas {H : Type} {enc : TypeId × Value → H} {W : World} {v : Value} {d : DataW H} {ps : List MemPlace} {base : Nat}
    (hok : Value.okWide Tryd.prog W .any base 22 v) (h : DataW.Trod enc Tryd.prog W 0 (fun _ => true) true 22 v d ps) :
    ∃ (A : Option Addr) (cap : Nat) (l : List M4), v = .slice A l.length cap ∧ l.length ≤ cap ∧ cap ≤ maxLen ∧ (A = none → cap = 0) ∧ metaAll.MsAt W A (fun b => b < W.heap.size) l ∧ ∀ x ∈ l, x.Fits := by
  obtain ⟨a, len, cap, rfl⟩ := okWide_slice Tryd.underlying22 hok
  obtain ⟨fuel, hf⟩ := h
  obtain ⟨A, n, c, hcs, h1, h2, h3, h4⟩ := open_structs Tryd.underlying22 Tryd.underlying32 (by kernel_rfl) (by kernel_rfl) (by decide) hf
  simp [Value.cells] at hcs
  obtain ⟨rfl, rfl, rfl⟩ := hcs
  have each : ∀ i, i < len → ∃ x : M4, (∃ b o, a = some ⟨b, o, none⟩ ∧ b < W.heap.size ∧ W.cell? ⟨b, o + i * 4, none⟩ = some (.int .i64 x.boot) ∧
      W.cell? ⟨b, o + i * 4 + 1, none⟩ = some (.int .i64 x.epoch) ∧ W.cell? ⟨b, o + i * 4 + 2, none⟩ = some (.int .i64 x.ready) ∧ W.cell? ⟨b, o + i * 4 + 3, none⟩ = some (.bool x.frozen)) ∧ x.Fits := fun i hi => by
    obtain ⟨b, o, vs, n, rfl, hb, hvl, hc, hfl⟩ := h4 i hi
    obtain ⟨v0, y0, e0, t0⟩ := hfl 0 _ rfl
    obtain ⟨v1, y1, e1, t1⟩ := hfl 1 _ rfl
    obtain ⟨v2, y2, e2, t2⟩ := hfl 2 _ rfl
    obtain ⟨v3, y3, e3, t3⟩ := hfl 3 _ rfl
    obtain ⟨n0, q0, -, w0⟩ := DataW.trod_int Tryd.underlying2 t0
    obtain ⟨n1, q1, -, w1⟩ := DataW.trod_int Tryd.underlying2 t1
    obtain ⟨n2, q2, -, w2⟩ := DataW.trod_int Tryd.underlying2 t2
    obtain ⟨b3, q3, -⟩ := DataW.trod_bool Tryd.underlying4 t3
    have p0 := (List.cons.inj q0).1
    have p1 := (List.cons.inj q1).1
    have p2 := (List.cons.inj q2).1
    have p3 := (List.cons.inj q3).1
    subst p0 p1 p2 p3
    exact ⟨⟨n0, n1, n2, b3⟩, ⟨b, o, rfl, hb, hc 0 _ e0, hc 1 _ e1, hc 2 _ e2, hc 3 _ e3⟩, M4.fits_of w0 w1 w2⟩
  obtain ⟨f, hf⟩ := choose_lt each
  have hln : ((List.range len).map f).length = len := by simp
  refine ⟨a, cap, (List.range len).map f, by rw [hln], by rw [hln]; exact h1, h2, h3, fun k hk => ?_, fun x hx => ?_⟩
  · rw [hln] at hk
    have e : ((List.range len).map f)[k]'(by rw [hln]; exact hk) = f k := by simp
    rw [e]
    exact (hf k hk).1
  · obtain ⟨i, hi, rfl⟩ := List.mem_map.1 hx
    exact (hf i (List.mem_range.1 hi)).2
end Go.Proofs.YtmnjdlnjhomhnaaDoor
