/-
  WHAT LAYER 20's LAW OF ALL OPERATIONS IS HANDED, as it lies in memory: operations with messages.
-/
import Derived.Test.YtpijhpfcigjkeaaDoorNetAllWalk
import Derived.Test.YtpijhpfcigjkeaaDoorMsOpen
import Derived.Test.YtpijhpfcigjkeaaDoorOpenRows
namespace Go.Proofs.YtpijhpfcigjkeaaDoor
open Go Go.RowKit Go.Joins Go.ChangeShapes Go.WideShapes Go.ChangeAt Go.Deep

section
variable {H : Type} {enc : TypeId × Value → H} {W : World}
set_option maxRecDepth 100000 in
/-- A slice of messages, by its cell. -/
theorem trod_msgs {fuel : Nat} {cs : List Value} {y : DataW H × List MemPlace} (hf : DataW.trod enc Tryd.prog W 0 (fun _ => true) true fuel 26 cs = some y) :
    ∃ (A : Option Addr) (cap : Nat) (l : List MP), cs = [.slice A l.length cap] ∧ l.length ≤ cap ∧ cap ≤ maxLen ∧ (A = none → cap = 0) ∧ Row W A (fun b => b < W.heap.size) (msRow l) ∧ ∀ p ∈ l, MsAt W p.1 p.2 ∧ p.1.Came := by
  obtain ⟨A, len, cap, rfl, h1, h2, h3, h4⟩ := open_rows (N := 21) Tryd.underlying26 (by kernel_rfl) (by decide) hf
  have each : ∀ i, i < len → ∃ p : MP, (∃ b o, A = some ⟨b, o, none⟩ ∧ b < W.heap.size ∧ ∀ j v, (mcs p)[j]? = some v → W.cell? ⟨b, o + (i * 21 + j), none⟩ = some v) ∧ MsAt W p.1 p.2 ∧ p.1.Came := fun i hi => by
    obtain ⟨b, o, vs, n, y, e, hb, -, hc, htr⟩ := h4 i hi
    obtain ⟨m, a, rfl, k1, k2⟩ := trod_msg htr
    exact ⟨(m, a), ⟨b, o, e, hb, hc⟩, k1, k2⟩
  have inh : MP := (ms0, msA0)
  obtain ⟨f, hpf⟩ : ∃ f : Nat → MP, ∀ i, i < len → (∃ b o, A = some ⟨b, o, none⟩ ∧ b < W.heap.size ∧ ∀ j v, (mcs (f i))[j]? = some v → W.cell? ⟨b, o + (i * 21 + j), none⟩ = some v) ∧ MsAt W (f i).1 (f i).2 ∧ (f i).1.Came :=
    ⟨fun i => if h : i < len then (each i h).choose else inh, fun i hi => by
      simp only [dif_pos hi]
      exact (each i hi).choose_spec⟩
  have hln : ((List.range len).map f).length = len := by simp
  refine ⟨A, cap, (List.range len).map f, by rw [hln], by rw [hln]; exact h1, h2, h3, fun hne => ?_, fun p hp => ?_⟩
  · have hrl := msRow_len ((List.range len).map f)
    have h0 : 0 < len := by
      rcases Nat.eq_zero_or_pos len with h0 | h0
      · have hz : (msRow ((List.range len).map f)).length = 0 := by rw [hrl, hln]; omega
        exact absurd (List.eq_nil_of_length_eq_zero hz) hne
      · exact h0
    obtain ⟨⟨b, o, e, hb, -⟩, -⟩ := hpf 0 h0
    refine ⟨b, o, e, hb, fun i v hv => ?_⟩
    have hi : i < len * 21 := by
      have := (List.getElem?_eq_some_iff.1 hv).1
      rwa [hrl, hln] at this
    have hk : i / 21 < len := by omega
    obtain ⟨⟨b2, o2, e2, -, hc⟩, -⟩ := hpf (i / 21) hk
    rw [e] at e2
    injection e2 with e2
    injection e2 with e3 e4
    subst e3 e4
    have h5 := msRow_at ((List.range len).map f) (i / 21) (i % 21) (by rw [hln]; exact hk) (by omega)
    rw [show i / 21 * 21 + i % 21 = i by omega, hv] at h5
    have e6 : ((List.range len).map f)[i / 21]'(by rw [hln]; exact hk) = f (i / 21) := by simp
    rw [e6] at h5
    have := hc (i % 21) v h5.symm
    rwa [show i / 21 * 21 + i % 21 = i by omega] at this
  · obtain ⟨i, hi, rfl⟩ := List.mem_map.1 hp
    exact (hpf i (List.mem_range.1 hi)).2
set_option maxRecDepth 100000 in
theorem open_ops20 {v : Value} {d : DataW H} {ps : List MemPlace} {base : Nat} (hok : Value.okWide Tryd.prog W .any base 22 v) (h : DataW.Trod enc Tryd.prog W 0 (fun _ => true) true 22 v d ps) :
    ∃ (A : Option Addr) (cap : Nat) (l : List Op20), v = .slice A l.length cap ∧ l.length ≤ cap ∧ cap ≤ maxLen ∧ (A = none → cap = 0) ∧ OpNsAt W A (fun b => b < W.heap.size) l := by
  obtain ⟨a, len, cap, rfl⟩ := okWide_slice Tryd.underlying22 hok
  obtain ⟨fuel, hf⟩ := h
  obtain ⟨A, n, c, hcs, h1, h2, h3, h4⟩ := open_structs Tryd.underlying22 Tryd.underlying28 (by kernel_rfl) (by kernel_rfl) (by decide) hf
  simp [Value.cells] at hcs
  obtain ⟨rfl, rfl, rfl⟩ := hcs
  have each : ∀ i, i < len → ∃ x : Op20, ∃ b o, a = some ⟨b, o, none⟩ ∧ b < W.heap.size ∧ W.cell? ⟨b, o + i * 3, none⟩ = some (.int .i64 x.kind) ∧
      W.cell? ⟨b, o + i * 3 + 1, none⟩ = some (.int .i64 x.i) ∧ W.cell? ⟨b, o + i * 3 + 2, none⟩ = some (.slice x.A x.ms.length x.c) ∧ x.ms.length ≤ x.c ∧ x.c ≤ maxLen ∧
      Row W x.A (fun b => b < W.heap.size) (msRow x.ms) ∧ (∀ p ∈ x.ms, MsIn W p.1 p.2 (fun b => b < W.heap.size) ∧ p.1.Came) := fun i hi => by
    obtain ⟨b, o, vs, n, rfl, hb, hvl, hc, hfl⟩ := h4 i hi
    obtain ⟨v0, y0, e0, t0⟩ := hfl 0 _ rfl
    obtain ⟨v1, y1, e1, t1⟩ := hfl 1 _ rfl
    obtain ⟨v2, y2, e2, t2⟩ := hfl 2 _ rfl
    obtain ⟨n0, q0, -, -⟩ := DataW.trod_int Tryd.underlying3 t0
    obtain ⟨n1, q1, -, -⟩ := DataW.trod_int Tryd.underlying3 t1
    obtain ⟨KA, kc, ks, q2, g1, g2, -, g3, g4⟩ := trod_msgs t2
    have p0 := (List.cons.inj q0).1
    have p1 := (List.cons.inj q1).1
    have p2 := (List.cons.inj q2).1
    subst p0 p1 p2
    exact ⟨⟨n0, n1, ks, KA, kc⟩, b, o, rfl, hb, hc 0 _ e0, hc 1 _ e1, hc 2 _ e2, g1, g2, g3, fun p hp => ⟨(g4 p hp).1.inn, (g4 p hp).2⟩⟩
  have inh : Op20 := ⟨0, 0, [], none, 0⟩
  obtain ⟨f, hf⟩ : ∃ f : Nat → Op20, ∀ i, i < len → ∃ b o, a = some ⟨b, o, none⟩ ∧ b < W.heap.size ∧ W.cell? ⟨b, o + i * 3, none⟩ = some (.int .i64 (f i).kind) ∧
      W.cell? ⟨b, o + i * 3 + 1, none⟩ = some (.int .i64 (f i).i) ∧ W.cell? ⟨b, o + i * 3 + 2, none⟩ = some (.slice (f i).A (f i).ms.length (f i).c) ∧ (f i).ms.length ≤ (f i).c ∧ (f i).c ≤ maxLen ∧
      Row W (f i).A (fun b => b < W.heap.size) (msRow (f i).ms) ∧ (∀ p ∈ (f i).ms, MsIn W p.1 p.2 (fun b => b < W.heap.size) ∧ p.1.Came) :=
    ⟨fun i => if h : i < len then (each i h).choose else inh, fun i hi => by
      simp only [dif_pos hi]
      exact (each i hi).choose_spec⟩
  have hln : ((List.range len).map f).length = len := by simp
  refine ⟨a, cap, (List.range len).map f, by rw [hln], by rw [hln]; exact h1, h2, h3, fun k hk => ?_⟩
  rw [hln] at hk
  have e : ((List.range len).map f)[k]'(by rw [hln]; exact hk) = f k := by simp
  rw [e]
  exact hf k hk
end

end Go.Proofs.YtpijhpfcigjkeaaDoor
