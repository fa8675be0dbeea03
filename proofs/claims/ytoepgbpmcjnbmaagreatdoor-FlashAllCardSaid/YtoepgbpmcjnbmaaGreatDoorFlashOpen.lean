/-
  WHAT LAYER 9's LAWS ARE HANDED, as it lies in memory: a slice of operations, each of seven cells (a struct in a struct).
-/
import Derived.Test.YtoepgbpmcjnbmaaGreatDoorAllLaid
import Derived.Test.YtoepgbpmcjnbmaaGreatDoorFlashAllWalk
namespace Go.Proofs.YtoepgbpmcjnbmaaGreatDoor
open Go Go.ChangeShapes Go.WideShapes Go.ChangeAt Go.RowKit Go.Deep
section
variable {H : Type} {enc : TypeId × Value → H} {P : Program} {W : World}
theorem open_rows {t e : TypeId} {N : Nat} {fuel : Nat} {cs : List Value} {x : DataW H × List MemPlace} (ht : P.underlying t = some (.slice e)) (hC : P.cellsOf e = N) (hpos : 0 < N)
    (hf : DataW.trod enc P W 0 (fun _ => true) true fuel t cs = some x) :
    ∃ (A : Option Addr) (len cap : Nat), cs = [.slice A len cap] ∧ len ≤ cap ∧ cap ≤ maxLen ∧ (A = none → cap = 0) ∧
      ∀ i, i < len → ∃ (b o : Nat) (vs : List Value) (n : Nat) (y : DataW H × List MemPlace), A = some ⟨b, o, none⟩ ∧ b < W.heap.size ∧ vs.length = N ∧
        (∀ j v, vs[j]? = some v → W.cell? ⟨b, o + (i * N + j), none⟩ = some v) ∧ DataW.trod enc P W 0 (fun _ => true) true n e vs = some y := by
  rcases open_slice ht hf with ⟨hcs, _⟩ | ⟨ad, len, cap, m, fu, D, Pl, hcs, _, hl, hm, hmm, _, hcell⟩
  · exact ⟨none, 0, 0, hcs, Nat.le_refl _, Nat.zero_le _, (fun _ => rfl), fun i hi => by omega⟩
  · simp only [if_true] at hmm
    subst hmm
    refine ⟨some ad, len, m, hcs, hl, hm, (fun h => by cases h), fun i hi => ?_⟩
    obtain ⟨vs, hc, htr⟩ := hcell i (by omega)
    rw [hC] at hc
    obtain ⟨_, hvl, hat⟩ := World.cells?_some hc
    obtain ⟨b, off, spot⟩ := ad
    have hat' : ∀ j v, vs[j]? = some v → W.cell? ((⟨b, off, spot⟩ : Addr).add (i * N + j)) = some v := fun j v hv => by
      have hj : j < N := by have := (List.getElem?_eq_some_iff.1 hv).1; omega
      rw [← Go.Deep.add_add, hat j hj, hv]
    have h0 : 0 < vs.length := by omega
    have hspot : spot = none := by
      obtain ⟨vs0, hc0, _⟩ := hcell 0 (by omega)
      rw [hC] at hc0
      obtain ⟨_, hvl0, hat0⟩ := World.cells?_some hc0
      have h2 := hat0 0 hpos
      rw [Go.Deep.add_add, List.getElem?_eq_getElem (by omega)] at h2
      simpa [Addr.add] using World.cell?_spot h2
    subst hspot
    refine ⟨b, off, vs, _, _, rfl, ?_, hvl, fun j v hv => ?_, htr⟩
    · have h1 := hat' 0 vs[0] (List.getElem?_eq_getElem h0)
      rw [add_plain] at h1
      exact World.block_lt_of_cell? W _ h1
    · have h1 := hat' j v hv
      rwa [add_plain] at h1
end
open Go.Proofs.YtoepgbpmcjnbmaaGreatDoor.flashAll in
set_option maxRecDepth 100000 in
theorem open_ops9 {H : Type} {enc : TypeId × Value → H} {W : World} {v : Value} {d : DataW H} {ps : List MemPlace} {base : Nat}
    (hok : Value.okWide Tryz.prog W .any base 22 v) (h : DataW.Trod enc Tryz.prog W 0 (fun _ => true) true 22 v d ps) :
    ∃ (A : Option Addr) (cap : Nat) (l : List OpF), v = .slice A l.length cap ∧ l.length ≤ cap ∧ cap ≤ maxLen ∧ (A = none → cap = 0) ∧ OpFsAt W A (fun b => b < W.heap.size) l := by
  obtain ⟨a, len, cap, rfl⟩ := okWide_slice Tryz.underlying22 hok
  obtain ⟨fuel, hf⟩ := h
  obtain ⟨A, n, c, hcs, h1, h2, h3, h4⟩ := open_rows (N := 7) Tryz.underlying22 (by kernel_rfl) (by decide) hf
  simp [Value.cells] at hcs
  obtain ⟨rfl, rfl, rfl⟩ := hcs
  have each : ∀ i, i < len → ∃ x : OpF, (∃ b o, a = some ⟨b, o, none⟩ ∧ b < W.heap.size ∧ W.cell? ⟨b, o + i * 7, none⟩ = some (.int .i64 x.kind) ∧
      W.cell? ⟨b, o + i * 7 + 1, none⟩ = some (.string x.x.key) ∧ W.cell? ⟨b, o + i * 7 + 2, none⟩ = some (.string x.x.val) ∧ W.cell? ⟨b, o + i * 7 + 3, none⟩ = some (.int .i64 x.x.till) ∧ W.cell? ⟨b, o + i * 7 + 4, none⟩ = some (.bool x.x.gone) ∧
      W.cell? ⟨b, o + i * 7 + 5, none⟩ = some (.int .i64 x.now) ∧ W.cell? ⟨b, o + i * 7 + 6, none⟩ = some (.slice x.KA x.kn x.kc)) ∧ x.came := fun i hi => by
    obtain ⟨b, o, vs, n, y, rfl, hb, hvl, hc, htr⟩ := h4 i hi
    match vs, hvl with
    | [v0, v1, v2, v3, v4, v5, v6], _ =>
      obtain ⟨ys, n, _, _, _, hyl, hfl⟩ := DataW.trod_struct Tryz.underlying38 htr
      have hyl : ys.length = 4 := hyl
      match ys, hyl with
      | [y0, y1, y2, y3], _ =>
        have t0 : DataW.trod enc Tryz.prog W 0 (fun _ => true) true n 3 [v0] = some y0 := hfl 0 _ rfl
        have t1 : DataW.trod enc Tryz.prog W 0 (fun _ => true) true n 35 [v1, v2, v3, v4] = some y1 := hfl 1 _ rfl
        have t2 : DataW.trod enc Tryz.prog W 0 (fun _ => true) true n 2 [v5] = some y2 := hfl 2 _ rfl
        have t3 : DataW.trod enc Tryz.prog W 0 (fun _ => true) true n 36 [v6] = some y3 := hfl 3 _ rfl
        obtain ⟨zs, m, _, _, _, hzl, hgl⟩ := DataW.trod_struct Tryz.underlying35 t1
        have hzl : zs.length = 4 := hzl
        match zs, hzl with
        | [z0, z1, z2, z3], _ =>
          have u0 : DataW.trod enc Tryz.prog W 0 (fun _ => true) true m 9 [v1] = some z0 := hgl 0 _ rfl
          have u1 : DataW.trod enc Tryz.prog W 0 (fun _ => true) true m 9 [v2] = some z1 := hgl 1 _ rfl
          have u2 : DataW.trod enc Tryz.prog W 0 (fun _ => true) true m 2 [v3] = some z2 := hgl 2 _ rfl
          have u3 : DataW.trod enc Tryz.prog W 0 (fun _ => true) true m 4 [v4] = some z3 := hgl 3 _ rfl
          obtain ⟨n0, q0, -, w0⟩ := DataW.trod_int Tryz.underlying3 t0
          obtain ⟨s1, q1, -, w1⟩ := DataW.trod_string Tryz.underlying9 u0
          obtain ⟨s2, q2, -, w2⟩ := DataW.trod_string Tryz.underlying9 u1
          obtain ⟨n3, q3, -, w3⟩ := DataW.trod_int Tryz.underlying2 u2
          obtain ⟨b4, q4, -⟩ := DataW.trod_bool Tryz.underlying4 u3
          obtain ⟨n5, q5, -, w5⟩ := DataW.trod_int Tryz.underlying2 t2
          obtain ⟨KA, kc, kl, q6, g1, g2, g3, g4⟩ := open_bools Tryz.underlying36 Tryz.underlying4 (by kernel_rfl) t3
          have p0 := (List.cons.inj q0).1
          have p1 := (List.cons.inj q1).1
          have p2 := (List.cons.inj q2).1
          have p3 := (List.cons.inj q3).1
          have p4 := (List.cons.inj q4).1
          have p5 := (List.cons.inj q5).1
          have p6 := (List.cons.inj q6).1
          subst p0 p1 p2 p3 p4 p5 p6
          have b3 := bounds_i64 w3
          have b5 := bounds_i64 w5
          exact ⟨⟨n0, ⟨s1, s2, n3, b4⟩, n5, KA, kl.length, kc⟩, ⟨b, o, rfl, hb, hc 0 _ rfl, hc 1 _ rfl, hc 2 _ rfl, hc 3 _ rfl, hc 4 _ rfl, hc 5 _ rfl, hc 6 _ rfl⟩, ⟨w1, w2, b3.1, Int.lt_of_le_of_lt b3.2 (by decide), b5.1, Int.lt_of_le_of_lt b5.2 (by decide)⟩⟩
  obtain ⟨f, hpf⟩ := Go.Deep.choose_lt each
  refine ⟨a, cap, (List.range len).map f, by simp, by simpa using h1, h2, h3, fun k hk => ?_⟩
  have hk' : k < len := by simpa using hk
  have := hpf k hk'
  simpa using this
end Go.Proofs.YtoepgbpmcjnbmaaGreatDoor
