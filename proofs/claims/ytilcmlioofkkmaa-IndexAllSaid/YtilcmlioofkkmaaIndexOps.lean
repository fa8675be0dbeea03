/-
  WHAT LAYER 8's LAW OF ALL OPERATIONS IS HANDED, as it lies in memory; its own row of pairs, and 'at'.
-/
import Derived.Test.YtilcmlioofkkmaaRiseWalk
import Derived.Test.YtilcmlioofkkmaaIxMath
import Derived.Test.YtilcmlioofkkmaaIndexBegun
import Derived.Test.YtilcmlioofkkmaaTextCut
import Derived.Test.YtilcmlioofkkmaaOpen
namespace Go.Proofs.Ytilcmlioofkkmaa
open Go Go.RowKit Go.Joins Go.ChangeShapes Go.WideShapes Go.ChangeAt

structure OpI where
  kind : Int
  key : ByteArray
  pos : Int
instance : Inhabited OpI := ⟨⟨0, ⟨#[]⟩, 0⟩⟩
/-- A slice of them. -/
def OpIsAt (W : World) (A : Option Addr) (F : Nat → Prop) (l : List OpI) : Prop := ∀ k (h : k < l.length), (∃ b o, A = some ⟨b, o, none⟩ ∧ F b ∧ W.cell? ⟨b, o + k * 3, none⟩ = some (.int .i64 l[k].kind) ∧
  W.cell? ⟨b, o + k * 3 + 1, none⟩ = some (.string l[k].key) ∧ W.cell? ⟨b, o + k * 3 + 2, none⟩ = some (.int .i64 l[k].pos)) ∧ l[k].key.size ≤ maxLen ∧ i64 l[k].pos
theorem OpIsAt.keep {W W' : World} {A : Option Addr} {F : Nat → Prop} {l : List OpI} (h : OpIsAt W A F l) (hk : Keeps F W W') : OpIsAt W' A F l := fun k hl => by
  obtain ⟨⟨b, o, e, hF, c0, c2, c3⟩, h1, h2⟩ := h k hl
  exact ⟨⟨b, o, e, hF, hk.cell c0 hF, hk.cell c2 hF, hk.cell c3 hF⟩, h1, h2⟩

set_option maxRecDepth 100000 in
theorem open_ops8 {H : Type} {enc : TypeId × Value → H} {W : World} {v : Value} {d : DataW H} {ps : List MemPlace} {base : Nat}
    (hok : Value.okWide Try.prog W .any base 22 v) (h : DataW.Trod enc Try.prog W 0 (fun _ => true) true 22 v d ps) :
    ∃ (A : Option Addr) (cap : Nat) (l : List OpI), v = .slice A l.length cap ∧ l.length ≤ cap ∧ cap ≤ maxLen ∧ (A = none → cap = 0) ∧ OpIsAt W A (fun b => b < W.heap.size) l := by
  obtain ⟨a, len, cap, rfl⟩ := okWide_slice Try.underlying22 hok
  obtain ⟨fuel, hf⟩ := h
  obtain ⟨A, n, c, hcs, h1, h2, h3, h4⟩ := open_structs Try.underlying22 Try.underlying28 (by kernel_rfl) (by kernel_rfl) (by decide) hf
  simp [Value.cells] at hcs
  obtain ⟨rfl, rfl, rfl⟩ := hcs
  have each : ∀ i, i < len → ∃ x : OpI, (∃ b o, a = some ⟨b, o, none⟩ ∧ b < W.heap.size ∧ W.cell? ⟨b, o + i * 3, none⟩ = some (.int .i64 x.kind) ∧
      W.cell? ⟨b, o + i * 3 + 1, none⟩ = some (.string x.key) ∧ W.cell? ⟨b, o + i * 3 + 2, none⟩ = some (.int .i64 x.pos)) ∧ x.key.size ≤ maxLen ∧ i64 x.pos := fun i hi => by
    obtain ⟨b, o, vs, n, rfl, hb, hvl, hc, hfl⟩ := h4 i hi
    obtain ⟨v0, y0, e0, t0⟩ := hfl 0 _ rfl
    obtain ⟨v1, y1, e1, t1⟩ := hfl 1 _ rfl
    obtain ⟨v2, y2, e2, t2⟩ := hfl 2 _ rfl
    obtain ⟨n0, q0, -, w0⟩ := DataW.trod_int Try.underlying3 t0
    obtain ⟨s1, q1, -, w1⟩ := DataW.trod_string Try.underlying9 t1
    obtain ⟨n2, q2, -, w2⟩ := DataW.trod_int Try.underlying2 t2
    have p0 := (List.cons.inj q0).1
    have p1 := (List.cons.inj q1).1
    have p2 := (List.cons.inj q2).1
    subst p0 p1 p2
    have hbd := bounds_i64 w2
    exact ⟨⟨n0, s1, n2⟩, ⟨b, o, rfl, hb, hc 0 _ e0, hc 1 _ e1, hc 2 _ e2⟩, w1, hbd.1, Int.lt_of_le_of_lt hbd.2 (by decide)⟩
  refine ⟨a, cap, (List.range len).map fun i => if h : i < len then (each i h).choose else default, by simp, by simpa using h1, h2, h3, fun k hk => ?_⟩
  have hk' : k < len := by simpa using hk
  have e : ((List.range len).map fun i => if h : i < len then (each i h).choose else default)[k] = (each k hk').choose := by simp [hk']
  rw [e]
  exact (each k hk').choose_spec

/-! ### The law's own pairs -/
theorem pair_elem : Elem Try.prog 26 32 (.agg #[.string ⟨#[]⟩, .int .i64 0]) 2 24 := ⟨Try.underlying26, by kernel_rfl, rfl, by decide⟩
def pairC (l : IxSt) : List Value := l.flatMap fun x => [.string x.1, .int .i64 x.2]
theorem pairC_cons (a : ByteArray × Int) (l : IxSt) : pairC (a :: l) = .string a.1 :: .int .i64 a.2 :: pairC l := rfl
theorem pairC_len (l : IxSt) : (pairC l).length = l.length * 2 := by
  induction l with
  | nil => rfl
  | cons a l ih => rw [pairC_cons, List.length_cons, List.length_cons, ih, List.length_cons]; omega
theorem pairC_app (l r : IxSt) : pairC (l ++ r) = pairC l ++ pairC r := by simp [pairC]
theorem pairC_at (l : IxSt) (j : Nat) (hj : j < l.length) : (pairC l)[j * 2]? = some (.string l[j].1) ∧ (pairC l)[j * 2 + 1]? = some (.int .i64 l[j].2) := by
  induction l generalizing j with
  | nil => simp at hj
  | cons a l ih =>
    rw [pairC_cons]
    cases j with
    | zero => exact ⟨rfl, rfl⟩
    | succ j =>
      have := ih j (by simpa using hj)
      rw [show (j + 1) * 2 = j * 2 + 2 by omega]
      simpa using this
theorem pairC_take (l : IxSt) (k : Nat) : (pairC l).take (k * 2) = pairC (l.take k) := by
  induction l generalizing k with
  | nil => simp [pairC]
  | cons a l ih =>
    cases k with
    | zero => simp [pairC]
    | succ k => rw [pairC_cons, show (k + 1) * 2 = k * 2 + 1 + 1 by omega, List.take_succ_cons, List.take_succ_cons, ih, List.take_succ_cons, pairC_cons]
theorem pairC_drop (l : IxSt) (k : Nat) : (pairC l).drop (k * 2) = pairC (l.drop k) := by
  induction l generalizing k with
  | nil => simp [pairC]
  | cons a l ih =>
    cases k with
    | zero => simp [pairC]
    | succ k => rw [pairC_cons, show (k + 1) * 2 = k * 2 + 1 + 1 by omega, List.drop_succ_cons, List.drop_succ_cons, ih, List.drop_succ_cons]
theorem pairC_set (l : IxSt) (k : Nat) (p : Int) (hk : k < l.length) : (pairC l).set (k * 2 + 1) (.int .i64 p) = pairC (l.set k (l[k].1, p)) := by
  induction l generalizing k with
  | nil => simp at hk
  | cons a l ih =>
    cases k with
    | zero => rfl
    | succ k =>
      rw [pairC_cons, show (k + 1) * 2 + 1 = k * 2 + 1 + 1 + 1 by omega, List.set_cons_succ, List.set_cons_succ, ih k (by simpa using hk)]
      rfl
theorem pairC_one (l : IxSt) : ∀ u ∈ pairC l, u.oneCell' = true := by
  intro u hu
  unfold pairC at hu
  obtain ⟨x, -, hx⟩ := List.mem_flatMap.1 hu
  simp only [List.mem_cons, List.not_mem_nil, or_false] at hx
  rcases hx with rfl | rfl <;> rfl

/-- Where a key stands; -1. -/
def ixAt (st : IxSt) (k : ByteArray) : Option Nat := st.findIdx? (isK k)
def atZ (st : IxSt) (k : ByteArray) : Int := match ixAt st k with | some i => (i : Int) | none => -1
theorem ixAt_some {st : IxSt} {k : ByteArray} {i : Nat} (h : ixAt st k = some i) : ∃ hi : i < st.length, st[i].1 = k := by
  obtain ⟨hi, h1, -⟩ := List.findIdx?_eq_some_iff_getElem.1 h
  exact ⟨hi, isK_iff.1 h1⟩
theorem ixAt_none {st : IxSt} {k : ByteArray} : ixAt st k = none ↔ ixGet st k = none := by
  unfold ixAt
  rw [List.findIdx?_eq_none_iff, ixGet_none]
  exact ⟨fun h x hx => isK_not.1 (h x hx), fun h x hx => isK_not.2 (h x hx)⟩
theorem ixAt_get {st : IxSt} {k : ByteArray} {i : Nat} (hnd : (st.map (·.1)).Nodup) (h : ixAt st k = some i) : ∃ hi : i < st.length, st[i].1 = k ∧ ixGet st k = some st[i].2 := by
  obtain ⟨hi, h1⟩ := ixAt_some h
  refine ⟨hi, h1, ixGet_of hnd ?_⟩
  rw [← h1]
  exact List.getElem_mem hi
theorem ixAt_put {st : IxSt} {k : ByteArray} {i : Nat} (hnd : (st.map (·.1)).Nodup) (h : ixAt st k = some i) (p : Int) : ∃ hi : i < st.length, ixPut st k p = st.set i (st[i].1, p) := by
  obtain ⟨hi, h1, hg⟩ := ixAt_get hnd h
  refine ⟨hi, ?_⟩
  unfold ixPut
  rw [hg, if_pos (show (some st[i].2).isSome = true from rfl)]
  refine List.ext_getElem (by simp) fun j h2 h3 => ?_
  rw [List.getElem_map, List.getElem_set]
  have hj : j < st.length := by simpa using h2
  by_cases hij : i = j
  · subst hij
    rw [if_pos rfl, isK_iff.2 h1, if_pos rfl]
  · rw [if_neg hij]
    have : isK k st[j] = false := isK_not.2 fun e => by
      have := List.pairwise_iff_getElem.1 hnd
      rcases Nat.lt_or_ge i j with h4 | h4
      · have := this i j (by simpa using hi) (by simpa using hj) h4
        simp at this
        exact this (h1.trans e.symm)
      · have := this j i (by simpa using hj) (by simpa using hi) (by omega)
        simp at this
        exact this (e.trans h1.symm)
    rw [this]
    rfl
theorem ixAt_drop {st : IxSt} {k : ByteArray} {i : Nat} (hnd : (st.map (·.1)).Nodup) (h : ixAt st k = some i) : ixDrop st k = st.take i ++ st.drop (i + 1) := by
  obtain ⟨hi, h1⟩ := ixAt_some h
  have h2 : st = st.take i ++ (st[i] :: st.drop (i + 1)) := by rw [List.getElem_cons_drop, List.take_append_drop]
  have hp : (st.map (·.1)).Nodup := hnd
  rw [h2, List.map_append, List.map_cons, List.nodup_append] at hp
  obtain ⟨-, hp2, hp3⟩ := hp
  rw [List.nodup_cons] at hp2
  have ha : (st.take i).filter (fun x => !isK k x) = st.take i := by
    rw [List.filter_eq_self]
    intro x hx
    rw [isK_not.2 fun e => hp3 x.1 (List.mem_map.2 ⟨x, hx, rfl⟩) st[i].1 List.mem_cons_self (e.trans h1.symm)]
    rfl
  have hb : (st.drop (i + 1)).filter (fun x => !isK k x) = st.drop (i + 1) := by
    rw [List.filter_eq_self]
    intro x hx
    rw [isK_not.2 fun e => hp2.1 (List.mem_map.2 ⟨x, hx, e.trans h1.symm⟩)]
    rfl
  unfold ixDrop
  rw [congrArg (List.filter fun x => !isK k x) h2, List.filter_append, List.filter_cons, isK_iff.2 h1, ha, hb]
  rfl

/-- A row of pairs, as a loop reads it. -/
def PairsAt (w : World) (A : Option Addr) (G : Nat → Prop) (st : IxSt) : Prop := ∀ k (h : k < st.length), ∃ b o, A = some ⟨b, o, none⟩ ∧ G b ∧ w.cell? ⟨b, o + k * 2, none⟩ = some (.string st[k].1) ∧ w.cell? ⟨b, o + k * 2 + 1, none⟩ = some (.int .i64 st[k].2)
theorem PairsAt.keep {w w' : World} {A : Option Addr} {G : Nat → Prop} {st : IxSt} (h : PairsAt w A G st) (hk : Keeps G w w') : PairsAt w' A G st := fun k hl => by
  obtain ⟨b, o, e, hG, c0, c1⟩ := h k hl
  exact ⟨b, o, e, hG, hk.cell c0 hG, hk.cell c1 hG⟩
theorem PairsAt.of_own {w : World} {base n c : Nat} {A : Option Addr} {st : IxSt} {e : TypeId} (h : OwnLe w base e 2 (.slice A n c) n (pairC st)) (hn : n = st.length) : PairsAt w A (fun _ => True) st := fun k hk => by
  obtain ⟨A', c', h1, -, -, hg⟩ := h.form
  injection h1 with h1 _ _
  subst h1
  obtain ⟨g, rfl, -, -⟩ := hg (by omega)
  obtain ⟨p0, p1⟩ := pairC_at st k hk
  exact ⟨g, 0, rfl, trivial, by simpa using h.cell p0, by simpa using h.cell p1⟩

set_option maxRecDepth 100000 in
set_option maxHeartbeats 1000000 in
theorem at_any (w : World) (A : Option Addr) (n c : Nat) (st : IxSt) (k : ByteArray) (hn : n = st.length) (hrow : PairsAt w A (fun _ => True) st) (hl : n ≤ 1000) :
    Calls Try.prog 11 #[.slice A n c, .string k] w fun e w' => e = .returned (.int .i64 (atZ st k)) ∧ w' = w := by
  have HR := Lib.hid hrow
  have HN := Lib.hid hn
  clear hrow hn
  go_enter Try.func11, Try.ntmps11
  go_wp2_with fail
  go_loopw [5] (fun i wr => ∃ j : Nat, j ≤ n ∧ i = .int .i64 (j : Int) ∧ wr = w ∧ Hid (∀ t (ht : t < st.length), t < j → st[t].1 ≠ k)) (fun i _ => n - (intOf i).toNat)
  case atStart => exact ⟨0, Nat.zero_le _, rfl, rfl, Lib.hid (fun t _ h => absurd h (by omega))⟩
  case round =>
    obtain ⟨j, hj, rfl, rfl, HB⟩ := hrel
    by_cases hjn : j < n
    · have hjn' : (j : Int) < (n : Int) := by omega
      have hjl : j < st.length := by rw [← HN.out]; exact hjn
      obtain ⟨b, o, rfl, -, c0, c1⟩ := HR.out j hjl
      have HY := Lib.hid (show st[j].1 = k → atZ st k = (j : Int) from fun e => by
        have : ixAt st k = some j := by
          unfold ixAt
          rw [List.findIdx?_eq_some_iff_getElem]
          exact ⟨hjl, isK_iff.2 e, fun t ht => by rw [isK_not.2 (HB.out t (by omega) ht)]; simp⟩
        unfold atZ
        rw [this])
      have HN2 := Lib.hid (show st[j].1 ≠ k → ∀ t (ht : t < st.length), t < j + 1 → st[t].1 ≠ k from fun e t ht htj => by
        rcases Nat.lt_or_ge t j with h1 | h1
        · exact HB.out t ht h1
        · obtain rfl : t = j := by omega
          exact e)
      generalize st[j].1 = K at c0 HY HN2
      by_cases hk : K = k
      · subst hk
        have HV := Lib.hid (HY.out rfl)
        clear HY HN2
        go_wp2_with fail
        go_ret
        exact ⟨by rw [HV.out]; rfl, rfl⟩
      · have hne : (K.toList == k.toList) = false := by
          rw [beq_eq_false_iff_ne]
          intro e
          rw [ByteArray.toList_eq, ByteArray.toList_eq] at e
          exact hk (data_eq e)
        have HB2 := Lib.hid (HN2.out hk)
        clear hk HY HN2
        go_wp2_with fail
        go_roundw
        case rel => exact ⟨j + 1, by omega, by go_num, trivial, HB2⟩
        case measure => simp [intOf]; omega
    · obtain rfl : n = j := by omega
      have hjn' : ¬ (n : Int) < (n : Int) := by omega
      have HV := Lib.hid (show atZ st k = -1 from by
        have : ixAt st k = none := by
          unfold ixAt
          rw [List.findIdx?_eq_none_iff]
          intro x hx
          obtain ⟨t, ht, rfl⟩ := List.getElem_of_mem hx
          exact isK_not.2 (HB.out t ht (by have := HN.out; omega))
        unfold atZ
        rw [this])
      go_wp2_with fail
      go_ret
      exact ⟨by rw [HV.out]; rfl, rfl⟩

end Go.Proofs.Ytilcmlioofkkmaa
