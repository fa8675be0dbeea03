/-
  WHAT LAYER 18's LAW OF ALL OPERATIONS IS HANDED, as it lies in memory.
-/
import Derived.Test.YtoegdfiehjabjaaTokenAllWalk
import Derived.Test.YtoegdfiehjabjaaOpen
import Derived.SliceStrings
namespace Go.Proofs.Ytoegdfiehjabjaa
open Go Go.RowKit Go.Joins Go.ChangeShapes Go.WideShapes Go.ChangeAt Go.Deep Go.Proofs.Ytoegdfiehjabjaa.tokenAll

section
variable {H : Type} {enc : TypeId × Value → H} {P : Program} {W : World}
theorem trod_texts {t e : TypeId} {fuel : Nat} {cs : List Value} {x : DataW H × List MemPlace} (ht : P.underlying t = some (.slice e)) (he : P.underlying e = some .string) (ce : P.cellsOf e = 1)
    (hf : DataW.trod enc P W 0 (fun _ => true) true fuel t cs = some x) :
    ∃ (A : Option Addr) (cap : Nat) (l : List ByteArray), cs = [.slice A l.length cap] ∧ l.length ≤ cap ∧ cap ≤ maxLen ∧ Row W A (fun b => b < W.heap.size) (l.map Value.string) ∧ ∀ s ∈ l, s.size ≤ maxLen := by
  rcases open_strings ht he ce hf with ⟨hcs, _⟩ | ⟨x, n, c, zs, hcs, _, hl, hm, hz, _, hcell, hwz⟩
  · exact ⟨none, 0, [], hcs, Nat.le_refl _, Nat.zero_le _, Row.nil _ _ _, by simp⟩
  · simp only [if_true] at hz
    have hln : (zs.take n).length = n := by simp; omega
    refine ⟨some x, c, zs.take n, by rw [hln]; exact hcs, by rw [hln]; exact hl, hm, (fun hne => ?_), fun n hn => hwz n (List.mem_of_mem_take hn)⟩
    have hpos : 0 < n := by
      rcases Nat.eq_zero_or_pos n with h0 | h0
      · subst h0; simp at hne
      · exact h0
    obtain ⟨b, off, spot⟩ := x
    have hspot : spot = none := by simpa [Addr.add] using World.cell?_spot (hcell 0 (by omega))
    subst hspot
    have h0 := hcell 0 (by omega)
    rw [add_plain] at h0
    refine ⟨b, off, rfl, World.block_lt_of_cell? W _ h0, fun i v hv => ?_⟩
    simp only [List.getElem?_map, Option.map_eq_some_iff] at hv
    obtain ⟨z, hzi, rfl⟩ := hv
    have hi : i < n := by
      rcases Nat.lt_or_ge i n with h1 | h1
      · exact h1
      · rw [List.getElem?_take, if_neg (by omega)] at hzi; cases hzi
    rw [List.getElem?_take, if_pos hi] at hzi
    have hc := hcell i (by omega)
    rw [add_plain] at hc
    have e0 : zs.getD i ByteArray.empty = z := by rw [List.getD_eq_getElem?_getD, hzi]; rfl
    rw [e0] at hc
    exact hc
end
instance instOp18 : Inhabited Op18 := ⟨⟨0, 0, ⟨#[]⟩, [], none, 0⟩⟩

set_option maxRecDepth 100000 in
theorem open_ops18 {H : Type} {enc : TypeId × Value → H} {W : World} {v : Value} {d : DataW H} {ps : List MemPlace} {base : Nat}
    (hok : Value.okWide Try.prog W .any base 22 v) (h : DataW.Trod enc Try.prog W 0 (fun _ => true) true 22 v d ps) :
    ∃ (A : Option Addr) (cap : Nat) (l : List Op18), v = .slice A l.length cap ∧ l.length ≤ cap ∧ cap ≤ maxLen ∧ (A = none → cap = 0) ∧ OpsAt W A (fun b => b < W.heap.size) l := by
  obtain ⟨a, len, cap, rfl⟩ := okWide_slice Try.underlying22 hok
  obtain ⟨fuel, hf⟩ := h
  obtain ⟨A, n, c, hcs, h1, h2, h3, h4⟩ := open_structs Try.underlying22 Try.underlying32 (by kernel_rfl) (by kernel_rfl) (by decide) hf
  simp [Value.cells] at hcs
  obtain ⟨rfl, rfl, rfl⟩ := hcs
  have each : ∀ i, i < len → ∃ x : Op18, ∃ b o, a = some ⟨b, o, none⟩ ∧ b < W.heap.size ∧ W.cell? ⟨b, o + i * 4, none⟩ = some (.int .i64 x.kind) ∧
      W.cell? ⟨b, o + i * 4 + 1, none⟩ = some (.int .i64 x.id) ∧ W.cell? ⟨b, o + i * 4 + 2, none⟩ = some (.string x.key) ∧ W.cell? ⟨b, o + i * 4 + 3, none⟩ = some (.slice x.ka x.keys.length x.kc) ∧
      Row W x.ka (fun b => b < W.heap.size) (x.keys.map Value.string) ∧ x.keys.length ≤ x.kc ∧ x.kc ≤ maxLen ∧ x.key.size ≤ maxLen ∧ (∀ s ∈ x.keys, s.size ≤ maxLen) ∧ -9223372036854775808 ≤ x.id ∧ x.id < 9223372036854775808 := fun i hi => by
    obtain ⟨b, o, vs, n, rfl, hb, hvl, hc, hfl⟩ := h4 i hi
    obtain ⟨v0, y0, e0, t0⟩ := hfl 0 _ rfl
    obtain ⟨v1, y1, e1, t1⟩ := hfl 1 _ rfl
    obtain ⟨v2, y2, e2, t2⟩ := hfl 2 _ rfl
    obtain ⟨v3, y3, e3, t3⟩ := hfl 3 _ rfl
    obtain ⟨n0, q0, -, -⟩ := DataW.trod_int Try.underlying3 t0
    obtain ⟨n1, q1, -, w1⟩ := DataW.trod_int Try.underlying2 t1
    obtain ⟨s2, q2, -, w2⟩ := DataW.trod_string Try.underlying9 t2
    obtain ⟨KA, kc, ks, q3, g1, g2, g3, g4⟩ := trod_texts Try.underlying30 Try.underlying9 (by kernel_rfl) t3
    have p0 := (List.cons.inj q0).1
    have p1 := (List.cons.inj q1).1
    have p2 := (List.cons.inj q2).1
    have p3 := (List.cons.inj q3).1
    subst p0 p1 p2 p3
    have b1 := bounds_i64 w1
    exact ⟨⟨n0, n1, s2, ks, KA, kc⟩, b, o, rfl, hb, hc 0 _ e0, hc 1 _ e1, hc 2 _ e2, hc 3 _ e3, g3, g1, g2, w2, g4, b1.1, Int.lt_of_le_of_lt b1.2 (by decide)⟩
  obtain ⟨f, hf⟩ := choose_lt each
  have hln : ((List.range len).map f).length = len := by simp
  refine ⟨a, cap, (List.range len).map f, by rw [hln], by rw [hln]; exact h1, h2, h3, fun k hk => ?_⟩
  rw [hln] at hk
  have e : ((List.range len).map f)[k]'(by rw [hln]; exact hk) = f k := by simp
  rw [e]
  exact hf k hk

end Go.Proofs.Ytoegdfiehjabjaa
