/-
  WHAT THE LAWS OF LAYERS 19 AND UP ARE HANDED, as it lies in memory: a message; lists of numbers, entries, marks.
-/
import Derived.Test.YtpijhpfcigjkeaaDoorAllCutG
import Derived.Test.YtpijhpfcigjkeaaDoorAllLaid
import Derived.Lib.SmallJoins
namespace Go.Proofs.YtpijhpfcigjkeaaDoor
open Go Go.RowKit Go.Joins Go.ChangeShapes Go.WideShapes Go.ChangeAt

section
variable {H : Type} {enc : TypeId × Value → H} {P : Program} {W : World}
set_option maxRecDepth 100000 in
/-- A slice of integers of one kind, by its cell. -/
theorem trod_nums {t e : TypeId} {k : IntKind} {fuel : Nat} {cs : List Value} {y : DataW H × List MemPlace} (ht : P.underlying t = some (.slice e)) (he : P.underlying e = some (.int k)) (ce : P.cellsOf e = 1)
    (hf : DataW.trod enc P W 0 (fun _ => true) true fuel t cs = some y) :
    ∃ (A : Option Addr) (cap : Nat) (l : List Int), cs = [.slice A l.length cap] ∧ l.length ≤ cap ∧ cap ≤ maxLen ∧ (A = none → cap = 0) ∧ Row W A (fun b => b < W.heap.size) (l.map (Value.int k)) ∧ ∀ n ∈ l, (Lit.int k n).wf = true := by
  rcases open_ints ht he ce hf with ⟨hcs, _⟩ | ⟨x, n, c, zs, hcs, _, hl, hm, hz, _, hcell, hwz⟩
  · exact ⟨none, 0, [], hcs, Nat.le_refl _, Nat.zero_le _, (fun _ => rfl), Row.nil _ _ _, by simp⟩
  · simp only [if_true] at hz
    have hln : (zs.take n).length = n := by simp; omega
    refine ⟨some x, c, zs.take n, by rw [hln]; exact hcs, by rw [hln]; exact hl, hm, (fun h => by cases h), (fun hne => ?_), fun n hn => hwz n (List.mem_of_mem_take hn)⟩
    have hpos : 0 < n := by
      rcases Nat.eq_zero_or_pos n with h0 | h0
      · subst h0; simp at hne
      · exact h0
    obtain ⟨b, off, spot⟩ := x
    have hspot : spot = none := by simpa [Addr.add] using World.cell?_spot (hcell 0 (by omega))
    subst hspot
    have h0 := hcell 0 (by omega)
    rw [add_plain] at h0
    refine ⟨b, off, rfl, World.block_lt_of_cell? W _ h0, fun i v hv => ?_⟩
    simp only [List.getElem?_map, Option.map_eq_some_iff] at hv
    obtain ⟨z, hzi, rfl⟩ := hv
    have hi : i < n := by
      rcases Nat.lt_or_ge i n with h1 | h1
      · exact h1
      · rw [List.getElem?_take, if_neg (by omega)] at hzi; cases hzi
    rw [List.getElem?_take, if_pos hi] at hzi
    have hc := hcell i (by omega)
    rw [add_plain] at hc
    have e0 : zs.getD i 0 = z := by rw [List.getD_eq_getElem?_getD, hzi]; rfl
    rw [e0] at hc
    exact hc
end
set_option maxRecDepth 100000 in
theorem fits64 {n : Int} (h : (Lit.int .i64 n).wf = true) : i64z n := by
  have hb := bounds_i64 h
  exact ⟨hb.1, Int.lt_of_le_of_lt hb.2 (by decide)⟩
section
variable {H : Type} {enc : TypeId × Value → H} {W : World}
set_option maxRecDepth 100000 in
theorem trod_items {fuel : Nat} {cs : List Value} {y : DataW H × List MemPlace} (hf : DataW.trod enc Tryd.prog W 0 (fun _ => true) true fuel 32 cs = some y) :
    ∃ (A : Option Addr) (cap : Nat) (l : List It), cs = [.slice A l.length cap] ∧ l.length ≤ cap ∧ cap ≤ maxLen ∧ (A = none → cap = 0) ∧ ItsAt W A (fun b => b < W.heap.size) l ∧ ∀ x ∈ l, (x.key.size ≤ maxLen ∧ x.val.size ≤ maxLen) ∧ i64z x.till := by
  obtain ⟨a, len, cap, rfl, h1, h2, h3, h4⟩ := open_structs Tryd.underlying32 Tryd.underlying31 (by kernel_rfl) (by kernel_rfl) (by decide) hf
  have each : ∀ i, i < len → ∃ x : It, (∃ b o, a = some ⟨b, o, none⟩ ∧ b < W.heap.size ∧ W.cell? ⟨b, o + i * 4, none⟩ = some (.string x.key) ∧
      W.cell? ⟨b, o + i * 4 + 1, none⟩ = some (.string x.val) ∧ W.cell? ⟨b, o + i * 4 + 2, none⟩ = some (.int .i64 x.till) ∧ W.cell? ⟨b, o + i * 4 + 3, none⟩ = some (.bool x.gone)) ∧ (x.key.size ≤ maxLen ∧ x.val.size ≤ maxLen) ∧ i64z x.till := fun i hi => by
    obtain ⟨b, o, vs, n, rfl, hb, hvl, hc, hfl⟩ := h4 i hi
    obtain ⟨v0, y0, e0, t0⟩ := hfl 0 _ rfl
    obtain ⟨v1, y1, e1, t1⟩ := hfl 1 _ rfl
    obtain ⟨v2, y2, e2, t2⟩ := hfl 2 _ rfl
    obtain ⟨v3, y3, e3, t3⟩ := hfl 3 _ rfl
    obtain ⟨s0, q0, -, w0⟩ := DataW.trod_string Tryd.underlying9 t0
    obtain ⟨s1, q1, -, w1⟩ := DataW.trod_string Tryd.underlying9 t1
    obtain ⟨n2, q2, -, w2⟩ := DataW.trod_int Tryd.underlying2 t2
    obtain ⟨b3, q3, -⟩ := DataW.trod_bool Tryd.underlying4 t3
    have p0 := (List.cons.inj q0).1
    have p1 := (List.cons.inj q1).1
    have p2 := (List.cons.inj q2).1
    have p3 := (List.cons.inj q3).1
    subst p0 p1 p2 p3
    exact ⟨⟨s0, s1, n2, b3⟩, ⟨b, o, rfl, hb, hc 0 _ e0, hc 1 _ e1, hc 2 _ e2, hc 3 _ e3⟩, ⟨w0, w1⟩, fits64 w2⟩
  refine ⟨a, cap, (List.range len).map fun i => if h : i < len then (each i h).choose else default, by simp, by simpa using h1, h2, h3, fun k hk => ?_, fun x hx => ?_⟩
  · have hk' : k < len := by simpa using hk
    have e : ((List.range len).map fun i => if h : i < len then (each i h).choose else default)[k] = (each k hk').choose := by simp [hk']
    rw [e]
    exact (each k hk').choose_spec.1
  · obtain ⟨i, hi, rfl⟩ := List.mem_map.1 hx
    have hi' : i < len := List.mem_range.1 hi
    rw [dif_pos hi']
    exact (each i hi').choose_spec.2
set_option maxRecDepth 100000 in
theorem trod_marks {fuel : Nat} {cs : List Value} {y : DataW H × List MemPlace} (hf : DataW.trod enc Tryd.prog W 0 (fun _ => true) true fuel 33 cs = some y) :
    ∃ (A : Option Addr) (cap : Nat) (l : List Mk), cs = [.slice A l.length cap] ∧ l.length ≤ cap ∧ cap ≤ maxLen ∧ (A = none → cap = 0) ∧ MksAt W A (fun b => b < W.heap.size) l ∧ ∀ x ∈ l, x.key.size ≤ maxLen ∧ i64z x.seq := by
  obtain ⟨a, len, cap, rfl, h1, h2, h3, h4⟩ := open_structs Tryd.underlying33 Tryd.underlying57 (by kernel_rfl) (by kernel_rfl) (by decide) hf
  have each : ∀ i, i < len → ∃ x : Mk, (∃ b o, a = some ⟨b, o, none⟩ ∧ b < W.heap.size ∧ W.cell? ⟨b, o + i * 2, none⟩ = some (.int .i64 x.seq) ∧
      W.cell? ⟨b, o + i * 2 + 1, none⟩ = some (.string x.key)) ∧ x.key.size ≤ maxLen ∧ i64z x.seq := fun i hi => by
    obtain ⟨b, o, vs, n, rfl, hb, hvl, hc, hfl⟩ := h4 i hi
    obtain ⟨v0, y0, e0, t0⟩ := hfl 0 _ rfl
    obtain ⟨v1, y1, e1, t1⟩ := hfl 1 _ rfl
    obtain ⟨n0, q0, -, w0⟩ := DataW.trod_int Tryd.underlying2 t0
    obtain ⟨s1, q1, -, w1⟩ := DataW.trod_string Tryd.underlying9 t1
    have p0 := (List.cons.inj q0).1
    have p1 := (List.cons.inj q1).1
    subst p0 p1
    exact ⟨⟨n0, s1⟩, ⟨b, o, rfl, hb, hc 0 _ e0, hc 1 _ e1⟩, w1, fits64 w0⟩
  refine ⟨a, cap, (List.range len).map fun i => if h : i < len then (each i h).choose else default, by simp, by simpa using h1, h2, h3, fun k hk => ?_, fun x hx => ?_⟩
  · have hk' : k < len := by simpa using hk
    have e : ((List.range len).map fun i => if h : i < len then (each i h).choose else default)[k] = (each k hk').choose := by simp [hk']
    rw [e]
    exact (each k hk').choose_spec.1
  · obtain ⟨i, hi, rfl⟩ := List.mem_map.1 hx
    have hi' : i < len := List.mem_range.1 hi
    rw [dif_pos hi']
    exact (each i hi').choose_spec.2
set_option maxRecDepth 100000 in
set_option maxHeartbeats 1000000 in
set_option maxRecDepth 100000 in
/-- A message, by its 21 cells. -/
theorem trod_msg {fuel : Nat} {cs : List Value} {y : DataW H × List MemPlace} (hf : DataW.trod enc Tryd.prog W 0 (fun _ => true) true fuel 36 cs = some y) :
    ∃ (m : Ms) (a : MsA), cs = (msC m a).toList ∧ MsAt W m a ∧ m.Came := by
  obtain ⟨ys, n, -, -, hcl, hyl, hfl⟩ := DataW.trod_struct Tryd.underlying36 hf
  have hcl : cs.length = 21 := hcl.trans (by kernel_rfl)
  have hyl : ys.length = 18 := hyl
  have hget : ∀ (i : Nat) (f : Field) (us : List Value), (∃ fs : Array Field, fs[i]? = some f) → True := fun _ _ _ _ => trivial
  match cs, hcl with
  | c0 :: c1 :: c2 :: c3 :: c4 :: c5 :: c6 :: c7 :: c8 :: c9 :: c10 :: c11 :: c12 :: c13 :: c14 :: c15 :: c16 :: c17 :: c18 :: c19 :: c20 :: [], _ =>
    have yy : ∀ i (h : i < 18), ∃ z, ys[i]? = some z := fun i h => ⟨ys[i], List.getElem?_eq_getElem (by omega)⟩
    obtain ⟨z0, hz0⟩ := yy 0 (by decide)
    obtain ⟨z1, hz1⟩ := yy 1 (by decide)
    obtain ⟨z2, hz2⟩ := yy 2 (by decide)
    obtain ⟨z3, hz3⟩ := yy 3 (by decide)
    obtain ⟨z4, hz4⟩ := yy 4 (by decide)
    obtain ⟨z5, hz5⟩ := yy 5 (by decide)
    obtain ⟨z6, hz6⟩ := yy 6 (by decide)
    obtain ⟨z7, hz7⟩ := yy 7 (by decide)
    obtain ⟨z8, hz8⟩ := yy 8 (by decide)
    obtain ⟨z9, hz9⟩ := yy 9 (by decide)
    obtain ⟨z10, hz10⟩ := yy 10 (by decide)
    obtain ⟨z11, hz11⟩ := yy 11 (by decide)
    obtain ⟨z12, hz12⟩ := yy 12 (by decide)
    obtain ⟨z13, hz13⟩ := yy 13 (by decide)
    obtain ⟨z14, hz14⟩ := yy 14 (by decide)
    obtain ⟨z15, hz15⟩ := yy 15 (by decide)
    obtain ⟨z16, hz16⟩ := yy 16 (by decide)
    obtain ⟨z17, hz17⟩ := yy 17 (by decide)
    have t0 : DataW.trod enc Tryd.prog W 0 (fun _ => true) true n 3 [c0] = some z0 := (hfl 0 _ rfl).trans hz0
    have t1 : DataW.trod enc Tryd.prog W 0 (fun _ => true) true n 3 [c1] = some z1 := (hfl 1 _ rfl).trans hz1
    have t2 : DataW.trod enc Tryd.prog W 0 (fun _ => true) true n 3 [c2] = some z2 := (hfl 2 _ rfl).trans hz2
    have t3 : DataW.trod enc Tryd.prog W 0 (fun _ => true) true n 2 [c3] = some z3 := (hfl 3 _ rfl).trans hz3
    have t4 : DataW.trod enc Tryd.prog W 0 (fun _ => true) true n 2 [c4] = some z4 := (hfl 4 _ rfl).trans hz4
    have t5 : DataW.trod enc Tryd.prog W 0 (fun _ => true) true n 2 [c5] = some z5 := (hfl 5 _ rfl).trans hz5
    have t6 : DataW.trod enc Tryd.prog W 0 (fun _ => true) true n 3 [c6] = some z6 := (hfl 6 _ rfl).trans hz6
    have t7 : DataW.trod enc Tryd.prog W 0 (fun _ => true) true n 2 [c7] = some z7 := (hfl 7 _ rfl).trans hz7
    have t8 : DataW.trod enc Tryd.prog W 0 (fun _ => true) true n 3 [c8] = some z8 := (hfl 8 _ rfl).trans hz8
    have t9 : DataW.trod enc Tryd.prog W 0 (fun _ => true) true n 9 [c9] = some z9 := (hfl 9 _ rfl).trans hz9
    have t10 : DataW.trod enc Tryd.prog W 0 (fun _ => true) true n 29 [c10] = some z10 := (hfl 10 _ rfl).trans hz10
    have t11 : DataW.trod enc Tryd.prog W 0 (fun _ => true) true n 4 [c11] = some z11 := (hfl 11 _ rfl).trans hz11
    have t12 : DataW.trod enc Tryd.prog W 0 (fun _ => true) true n 31 [c12, c13, c14, c15] = some z12 := (hfl 12 _ rfl).trans hz12
    have t13 : DataW.trod enc Tryd.prog W 0 (fun _ => true) true n 32 [c16] = some z13 := (hfl 13 _ rfl).trans hz13
    have t14 : DataW.trod enc Tryd.prog W 0 (fun _ => true) true n 33 [c17] = some z14 := (hfl 14 _ rfl).trans hz14
    have t15 : DataW.trod enc Tryd.prog W 0 (fun _ => true) true n 34 [c18] = some z15 := (hfl 15 _ rfl).trans hz15
    have t16 : DataW.trod enc Tryd.prog W 0 (fun _ => true) true n 2 [c19] = some z16 := (hfl 16 _ rfl).trans hz16
    have t17 : DataW.trod enc Tryd.prog W 0 (fun _ => true) true n 34 [c20] = some z17 := (hfl 17 _ rfl).trans hz17
    clear hfl hf yy
    obtain ⟨xs, k, -, -, -, hxl, hgl⟩ := DataW.trod_struct Tryd.underlying31 t12
    have hxl : xs.length = 4 := hxl
    match xs, hxl with
    | [x0, x1, x2, x3], _ =>
      have u0 : DataW.trod enc Tryd.prog W 0 (fun _ => true) true k 9 [c12] = some x0 := hgl 0 _ rfl
      have u1 : DataW.trod enc Tryd.prog W 0 (fun _ => true) true k 9 [c13] = some x1 := hgl 1 _ rfl
      have u2 : DataW.trod enc Tryd.prog W 0 (fun _ => true) true k 2 [c14] = some x2 := hgl 2 _ rfl
      have u3 : DataW.trod enc Tryd.prog W 0 (fun _ => true) true k 4 [c15] = some x3 := hgl 3 _ rfl
      obtain ⟨n0, q0, -, w0⟩ := DataW.trod_int Tryd.underlying3 t0
      obtain ⟨n1, q1, -, w1⟩ := DataW.trod_int Tryd.underlying3 t1
      obtain ⟨n2, q2, -, w2⟩ := DataW.trod_int Tryd.underlying3 t2
      obtain ⟨n3, q3, -, w3⟩ := DataW.trod_int Tryd.underlying2 t3
      obtain ⟨n4, q4, -, w4⟩ := DataW.trod_int Tryd.underlying2 t4
      obtain ⟨n5, q5, -, w5⟩ := DataW.trod_int Tryd.underlying2 t5
      obtain ⟨n6, q6, -, w6⟩ := DataW.trod_int Tryd.underlying3 t6
      obtain ⟨n7, q7, -, w7⟩ := DataW.trod_int Tryd.underlying2 t7
      obtain ⟨n8, q8, -, w8⟩ := DataW.trod_int Tryd.underlying3 t8
      obtain ⟨s9, q9, -, w9⟩ := DataW.trod_string Tryd.underlying9 t9
      obtain ⟨n10, q10, -, w10⟩ := DataW.trod_int Tryd.underlying29 t10
      obtain ⟨b11, q11, -⟩ := DataW.trod_bool Tryd.underlying4 t11
      obtain ⟨s12, q12, -, w12⟩ := DataW.trod_string Tryd.underlying9 u0
      obtain ⟨s13, q13, -, w13⟩ := DataW.trod_string Tryd.underlying9 u1
      obtain ⟨n14, q14, -, w14⟩ := DataW.trod_int Tryd.underlying2 u2
      obtain ⟨b15, q15, -⟩ := DataW.trod_bool Tryd.underlying4 u3
      obtain ⟨ia, ic, its, q16, i1, i2, -, i3, i4⟩ := trod_items t13
      obtain ⟨ma, mc, mks, q17, j1, j2, -, j3, j4⟩ := trod_marks t14
      obtain ⟨ba, bc, mem, q18, b1, b2, b3, b4, b5⟩ := trod_nums Tryd.underlying34 Tryd.underlying3 (by kernel_rfl) t15
      obtain ⟨n19, q19, -, w19⟩ := DataW.trod_int Tryd.underlying2 t16
      obtain ⟨oa, oc, old, q20, o1, o2, o3, o4, o5⟩ := trod_nums Tryd.underlying34 Tryd.underlying3 (by kernel_rfl) t17
      have p0 := (List.cons.inj q0).1
      have p1 := (List.cons.inj q1).1
      have p2 := (List.cons.inj q2).1
      have p3 := (List.cons.inj q3).1
      have p4 := (List.cons.inj q4).1
      have p5 := (List.cons.inj q5).1
      have p6 := (List.cons.inj q6).1
      have p7 := (List.cons.inj q7).1
      have p8 := (List.cons.inj q8).1
      have p9 := (List.cons.inj q9).1
      have p10 := (List.cons.inj q10).1
      have p11 := (List.cons.inj q11).1
      have p12 := (List.cons.inj q12).1
      have p13 := (List.cons.inj q13).1
      have p14 := (List.cons.inj q14).1
      have p15 := (List.cons.inj q15).1
      have p16 := (List.cons.inj q16).1
      have p17 := (List.cons.inj q17).1
      have p18 := (List.cons.inj q18).1
      have p19 := (List.cons.inj q19).1
      have p20 := (List.cons.inj q20).1
      subst p0 p1 p2 p3 p4 p5 p6 p7 p8 p9 p10 p11 p12 p13 p14 p15 p16 p17 p18 p19 p20
      exact ⟨⟨n0, n1, n2, n3, n4, n5, n6, n7, n8, s9, n10, b11, ⟨s12, s13, n14, b15⟩, its, mks, mem, n19, old⟩, ⟨ia, ic, ma, mc, ba, bc, oa, oc⟩, rfl,
        ⟨i3.mono fun _ _ _ => trivial, ⟨i1, i2⟩, j3.mono fun _ _ _ => trivial, ⟨j1, j2⟩, b4.mono fun _ _ _ => trivial, ⟨b1, b2, b3⟩, o4.mono fun _ _ _ => trivial, ⟨o1, o2, o3⟩⟩,
        ⟨fits64 w0, fits64 w1, fits64 w2, fits64 w3, fits64 w4, fits64 w5, fits64 w6, fits64 w7, fits64 w8, fits64 w10, fits64 w19, w9, ⟨⟨w12, w13⟩, fits64 w14⟩, i4, j4, fun z hz => fits64 (b5 z hz), fun z hz => fits64 (o5 z hz)⟩⟩
set_option maxRecDepth 100000 in
theorem open_msg {v : Value} {d : DataW H} {ps : List MemPlace} {base : Nat} (hok : Value.okWide Tryd.prog W .any base 36 v) (h : DataW.Trod enc Tryd.prog W 0 (fun _ => true) true 36 v d ps) :
    ∃ (m : Ms) (a : MsA), v = msV m a ∧ MsAt W m a ∧ m.Came := by
  obtain ⟨cs, rfl, -⟩ := okWide_struct Tryd.underlying36 hok
  obtain ⟨fuel, hf⟩ := h
  obtain ⟨m, a, e, h1, h2⟩ := trod_msg hf
  refine ⟨m, a, ?_, h1, h2⟩
  show Value.agg cs = Value.agg (msC m a)
  have : cs = msC m a := Array.toList_inj.1 e
  rw [this]
end

end Go.Proofs.YtpijhpfcigjkeaaDoor
