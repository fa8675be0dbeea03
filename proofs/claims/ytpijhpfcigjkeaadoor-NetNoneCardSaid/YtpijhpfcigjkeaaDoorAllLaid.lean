/- Texts of one proof, behind one another: each says above its part what it proves and on which conditions. -/
import Derived.Test.YtpijhpfcigjkeaaDoorWords
import Derived.WalkKit
import Derived.ProofKit
import Derived.OpenShut
import Derived.Below
import Derived.Carry
import Derived.LaidMore
import Derived.Stop.Joined
import Derived.Deep.Slices
import Derived.Test.YtpijhpfcigjkeaaDoorAllNums
import Derived.Test.YtpijhpfcigjkeaaDoorRows
import Derived.Test.YtpijhpfcigjkeaaDoorTie
import Derived.Deep.Fields
/-
  THE FRAME OF A LAW (my own text; it knows no program): from a walk that answers true and turns nothing that was there to the row; how arguments open: a slice of bytes, of slices of bytes, of integers.
-/
section
namespace Go.Proofs.YtpijhpfcigjkeaaDoor
open Go Go.ChangeShapes Go.WideShapes Go.ChangeAt Go.RowKit Go.Deep

section
variable {H : Type} {enc : TypeId × Value → H} {P : Program} {W W' : World}

theorem trodAll_len {base : Nat} {sp : Nat → Bool} {held : Bool} : ∀ {ts : List TypeId} {vs : List Value} {ds : List (DataW H)} {ps : List MemPlace}, DataW.TrodAll enc P W base sp held ts vs ds ps → ds.length = ts.length
  | [], [], [], _, _ => rfl
  | _ :: _, _ :: _, _ :: _, _, ⟨_, _, _, h, _⟩ => by simp [trodAll_len h]
/-- Below the heap's old size nothing has turned: all arguments read as they did. -/
theorem trodAll_below (hl : laidOutB P = true) (hb : Below W.heap.size W W') : ∀ {ts : List TypeId} {vs : List Value} {ds : List (DataW H)} {ps : List MemPlace}, (ts.all fun t => P.readableRec t && decide (t < P.types.size)) = true →
    DataW.TrodAll enc P W 0 (fun _ => true) true ts vs ds ps → DataW.TrodAll enc P W' 0 (fun b => decide (b < W.heap.size)) true ts vs ds ps
  | [], [], [], _, _, h => h
  | t :: ts, v :: vs, d :: ds, _, ht, ⟨p, q, h1, h2, e⟩ => by
    simp only [List.all_cons, Bool.and_eq_true, decide_eq_true_eq] at ht
    have hlt : ∀ x ∈ p, x.block < W.heap.size := by obtain ⟨m, hm⟩ := h1; exact DataW.trod_lt m _ _ _ hm
    exact ⟨p, q, Below.trod hl ht.1.1 ht.1.2 h1 hb hlt, trodAll_below hl hb ht.2 h2, e⟩

/-- What a law's walk has to say. -/
def LawWalk (H : Type) (enc : TypeId × Value → H) (P : Program) (f : FuncId) (fn : Func) (X : World → Prop) : Prop :=
  ∀ (W : World) (base : Nat) (args : Array Value) (ds : List (DataW H)) (p : List MemPlace), (∀ (j : Nat) t v, fn.params[j]? = some t → args[j]? = some v → Value.okWide P W .any base t v) →
    DataW.TrodAll enc P W 0 (fun _ => true) true fn.params.toList args.toList ds p → X W → Calls P f args W fun e W' => e = .returned (.bool true) ∧ Below W.heap.size W W'

theorem law_post {fn : Func} {s : ChangeSpec} {tb : TypeId} (hl : laidOutB P = true) (htys : (fn.params.toList.all fun t => P.readableRec t && decide (t < P.types.size)) = true)
    (hres : fn.resultTypes = #[tb]) (hb : P.underlying tb = some .bool) (hvars : s.vars = []) (hs : ∀ ds : List (DataW H), ds.length = fn.params.size → s.fn H ds = { results := [.lit (.bool true)], args := ds })
    {args : Array Value} {ds gs : List (DataW H)} {before : List MemPlace} (hW : DataW.Whole enc P fn.params.toList s.vars false W args.toList ds gs before) (bel : Below W.heap.size W W') :
    s.post enc P fn false true false false W args (.bool true) W' := by
  have hW' := hW
  obtain ⟨p, q, hA, hV, rfl, hfz, hnd⟩ := hW
  rw [hvars] at hV
  obtain ⟨rfl, rfl⟩ := trodVars_none hV
  have e1 := hs ds (by rw [trodAll_len hA]; simp)
  refine ⟨ds, [], p ++ [], [], p, [], hW', ?_, ?_, ?_, bel.frame _, fun h => by cases h⟩
  · rw [List.append_nil, e1, hres]; exact trodAll_mk1 (shut_bool hb true)
  · rw [List.append_nil, e1]; exact trodAll_below hl bel htys hA
  · rw [List.append_nil, e1, hvars]; rfl

/-- A law whose row lists variables. -/
theorem law_laid {C : Checked} {os : Os} {f : FuncId} {fn : Func} {s : ChangeSpec} {tb : TypeId} {X : World → Prop} (hX : ∀ w w' : World, w.heap = w'.heap → X w → X w')
    (own : ownKnob C.prog.godebug = none) (started : os.Started) (noInit : C.prog.inits.idxOf? f = none) (hfn : C.prog.funcs[f]? = some fn)
    (witness : ∃ (w : World) (tape : Tape) (i : Input), w.os = os ∧ (w.forCall tape i).Shaped C.prog ∧ i.vars = [] ∧ Input.okWide C.prog (w.forCall tape i) .any w.heap.size f i ∧
      ((s.pre enc C.prog fn [] false (w.forCall tape i).memory i.args ∧ X (w.forCall tape i).memory) ∧ sizedMet enc C.prog fn (OpenSpec.ofChange s) false (w.forCall tape i).memory i.args) ∧ ({} : Assume).holds C.prog (lone (Frame.enter C.prog f i.args .normal) [] (w.forCall tape i)))
    (hl : laidOutB C.prog = true) (htys : (fn.params.toList.all fun t => C.prog.readableRec t && decide (t < C.prog.types.size)) = true)
    (hres : fn.resultTypes = #[tb]) (hb : C.prog.underlying tb = some .bool) (hvars : s.vars = []) (hs : ∀ ds : List (DataW H), ds.length = fn.params.size → s.fn H ds = { results := [.lit (.bool true)], args := ds })
    (walk : LawWalk H enc C.prog f fn X) :
    ReturnsInHanded {} C os f .any (fun w args => (s.pre enc C.prog fn [] false w args ∧ X w) ∧ sizedMet enc C.prog fn (OpenSpec.ofChange s) false w args) (s.post enc C.prog fn false true false false) := by
  refine returnsInHanded_of_change_and (X := fun w _ => X w) (fun w w' _ h hx => hX w w' h hx) own started noInit hfn witness ?_
  intro W base args ds gs before hval hW _ _ hL _
  have hA := hW
  obtain ⟨p, q, hA, _⟩ := hA
  refine (walk W base args ds p hval hA hL).mono fun e W' ⟨he, bel⟩ => ?_
  subst he
  exact ⟨_, rfl, law_post hl htys hres hb hvars hs hW bel⟩

/-- A law whose row lists no variable. -/
theorem law_plain {C : Checked} {os : Os} {f : FuncId} {fn : Func} {s : ChangeSpec} {tb : TypeId} {conds : List PathCond}
    (own : ownKnob C.prog.godebug = none) (started : os.Started) (noInit : C.prog.inits.idxOf? f = none) (hfn : C.prog.funcs[f]? = some fn)
    (witness : ∃ (w : World) (tape : Tape) (i : Input), w.os = os ∧ (w.forCall tape i).Shaped C.prog ∧ i.vars = [] ∧ Input.okWide C.prog (w.forCall tape i) .any w.heap.size f i ∧
      s.pre6 enc C.prog fn conds false (w.forCall tape i).memory i.args ∧ ({} : Assume).holds C.prog (lone (Frame.enter C.prog f i.args .normal) [] (w.forCall tape i)))
    (hl : laidOutB C.prog = true) (htys : (fn.params.toList.all fun t => C.prog.readableRec t && decide (t < C.prog.types.size)) = true)
    (hres : fn.resultTypes = #[tb]) (hb : C.prog.underlying tb = some .bool) (hvars : s.vars = []) (hs : ∀ ds : List (DataW H), ds.length = fn.params.size → s.fn H ds = { results := [.lit (.bool true)], args := ds })
    (walk : LawWalk H enc C.prog f fn fun _ => True) :
    ReturnsInHanded {} C os f .any (s.pre6 enc C.prog fn conds false) (s.post enc C.prog fn false true false false) := by
  refine returnsInHanded_of_change own started noInit hfn witness ?_
  intro W base args ds gs before hval hW _ _
  have hA := hW
  obtain ⟨p, q, hA, _⟩ := hA
  refine (walk W base args ds p hval hA trivial).mono fun e W' ⟨he, bel⟩ => ?_
  subst he
  exact ⟨_, rfl, law_post hl htys hres hb hvars hs hW bel⟩

/-! ### How arguments open -/
/-- A slice of bytes, off its cells. -/
theorem open_bytes_cs {t e : TypeId} {fuel : Nat} {cs : List Value} {x : DataW H × List MemPlace} (ht : P.underlying t = some (.slice e)) (he : P.underlying e = some (.int .u8)) (ce : P.cellsOf e = 1)
    (hf : DataW.trod enc P W 0 (fun _ => true) true fuel t cs = some x) :
    ∃ (A : Option Addr) (cap : Nat) (l : List UInt8), cs = [.slice A l.length cap] ∧ l.length ≤ cap ∧ cap ≤ maxLen ∧ (A = none → cap = 0) ∧ Row W A (fun b => b < W.heap.size) (bcells l) := by
  rcases open_ints ht he ce hf with ⟨hcs, _⟩ | ⟨x, len, cap, zs, hcs, _, hl, hm, hz, _, hcell, hwz⟩
  · exact ⟨none, 0, [], hcs, Nat.le_refl _, Nat.zero_le _, fun _ => rfl, Row.nil _ _ _⟩
  · simp only [if_true] at hz
    have hln : ((zs.take len).map fun z : Int => UInt8.ofNat z.toNat).length = len := by simp; omega
    refine ⟨some x, cap, (zs.take len).map fun z => UInt8.ofNat z.toNat, by rw [hln]; exact hcs, by rw [hln]; exact hl, hm, (fun h => by cases h), fun hne => ?_⟩
    have hpos : 0 < len := by
      rcases Nat.eq_zero_or_pos len with h0 | h0
      · subst h0; simp [bcells] at hne
      · exact h0
    obtain ⟨b, off, spot⟩ := x
    have hspot : spot = none := by simpa [Addr.add] using World.cell?_spot (hcell 0 (by omega))
    subst hspot
    have h0 := hcell 0 (by omega)
    rw [add_plain] at h0
    refine ⟨b, off, rfl, World.block_lt_of_cell? W _ h0, fun i v hv => ?_⟩
    simp only [bcells, List.map_map, List.getElem?_map, Option.map_eq_some_iff] at hv
    obtain ⟨z, hzi, rfl⟩ := hv
    have hi : i < len := by
      rcases Nat.lt_or_ge i len with h1 | h1
      · exact h1
      · rw [List.getElem?_take, if_neg (by omega)] at hzi; cases hzi
    rw [List.getElem?_take, if_pos hi] at hzi
    have hc := hcell i (by omega)
    rw [add_plain] at hc
    have e0 : zs.getD i 0 = z := by rw [List.getD_eq_getElem?_getD, hzi]; rfl
    rw [e0] at hc
    have hb := bounds_u8 (hwz z (List.mem_of_getElem? hzi))
    rw [hc]
    simp only [Function.comp, bcell]
    congr 2
    rw [UInt8.toNat_ofNat', Nat.mod_eq_of_lt (by omega)]
    omega
/-- A slice of bytes. -/
theorem open_bytes {t e : TypeId} {v : Value} {d : DataW H} {ps : List MemPlace} {base : Nat} (ht : P.underlying t = some (.slice e)) (he : P.underlying e = some (.int .u8)) (ce : P.cellsOf e = 1)
    (hok : Value.okWide P W .any base t v) (h : DataW.Trod enc P W 0 (fun _ => true) true t v d ps) :
    ∃ (A : Option Addr) (cap : Nat) (l : List UInt8), v = .slice A l.length cap ∧ l.length ≤ cap ∧ cap ≤ maxLen ∧ (A = none → cap = 0) ∧ Row W A (fun b => b < W.heap.size) (bcells l) := by
  obtain ⟨a, len, cap, rfl⟩ := okWide_slice ht hok
  obtain ⟨fuel, hf⟩ := h
  obtain ⟨A, c, l, hcs, h1, h2, h3, h4⟩ := open_bytes_cs ht he ce hf
  simp [Value.cells] at hcs
  obtain ⟨rfl, rfl, rfl⟩ := hcs
  exact ⟨_, _, l, rfl, h1, h2, h3, h4⟩
/-- A slice of slices of bytes. -/
theorem open_parts {t e q : TypeId} {v : Value} {d : DataW H} {ps : List MemPlace} {base : Nat} (ht : P.underlying t = some (.slice e)) (he : P.underlying e = some (.slice q)) (hq : P.underlying q = some (.int .u8)) (ce : P.cellsOf e = 1) (cq : P.cellsOf q = 1)
    (hok : Value.okWide P W .any base t v) (h : DataW.Trod enc P W 0 (fun _ => true) true t v d ps) :
    ∃ (B : Option Addr) (cap : Nat) (l : List Part), v = .slice B l.length cap ∧ l.length ≤ cap ∧ cap ≤ maxLen ∧ (B = none → cap = 0) ∧ Row W B (fun b => b < W.heap.size) (l.map Part.val) ∧ ∀ p ∈ l, p.Fits W (fun b => b < W.heap.size) := by
  obtain ⟨a, len, cap, rfl⟩ := okWide_slice ht hok
  obtain ⟨fuel, hf⟩ := h
  rcases open_slice1 ht ce hf with ⟨hcs, _⟩ | ⟨x, n, c, m, fu, V, D, Pl, hcs, _, hl, hm, hmm, _, hcell⟩
  · simp [Value.cells] at hcs
    obtain ⟨rfl, rfl, rfl⟩ := hcs
    exact ⟨none, 0, [], rfl, Nat.le_refl _, Nat.zero_le _, (fun _ => rfl), Row.nil _ _ _, by simp⟩
  · simp [Value.cells] at hcs
    obtain ⟨rfl, rfl, rfl⟩ := hcs
    simp only [if_true] at hmm
    subst hmm
    have each : ∀ i, i < len → ∃ p : Part, V i = p.val ∧ p.Fits W (fun b => b < W.heap.size) := fun i hi => by
      obtain ⟨A, c, l, h1, h2, h3, h4, h5⟩ := open_bytes_cs he hq cq (hcell i (by omega)).2
      exact ⟨⟨A, c, l⟩, (List.cons.inj h1).1, h2, h3, h4, h5⟩
    obtain ⟨f, hpf⟩ := choose_lt each
    refine ⟨some x, m, (List.range len).map f, by simp, by simpa using hl, hm, (fun h => by cases h), (fun hne => ?_), fun p hp => ?_⟩
    · have hpos : 0 < len := by
        rcases Nat.eq_zero_or_pos len with h0 | h0
        · subst h0; simp at hne
        · exact h0
      obtain ⟨b, off, spot⟩ := x
      have hspot : spot = none := by simpa [Addr.add] using World.cell?_spot (hcell 0 (by omega)).1
      subst hspot
      have h0 := (hcell 0 (by omega)).1
      rw [add_plain] at h0
      refine ⟨b, off, rfl, World.block_lt_of_cell? W _ h0, fun i v hv => ?_⟩
      simp only [List.getElem?_map, Option.map_eq_some_iff] at hv
      obtain ⟨p, ⟨j, hj, rfl⟩, rfl⟩ := hv
      have hi : i < len ∧ j = i := by
        have := List.getElem?_eq_some_iff.1 hj
        obtain ⟨h1, h2⟩ := this
        simp at h1 h2
        exact ⟨h1, h2.symm⟩
      obtain ⟨hi, rfl⟩ := hi
      have hc := (hcell j (by omega)).1
      rw [add_plain, (hpf j hi).1] at hc
      exact hc
    · obtain ⟨j, hj, rfl⟩ := List.mem_map.1 hp
      exact (hpf j (List.mem_range.1 hj)).2
/-- A slice of integers of one kind. -/
theorem open_row_ints {t e : TypeId} {k : IntKind} {v : Value} {d : DataW H} {ps : List MemPlace} {base : Nat} (ht : P.underlying t = some (.slice e)) (he : P.underlying e = some (.int k)) (ce : P.cellsOf e = 1)
    (hok : Value.okWide P W .any base t v) (h : DataW.Trod enc P W 0 (fun _ => true) true t v d ps) :
    ∃ (A : Option Addr) (cap : Nat) (l : List Int), v = .slice A l.length cap ∧ l.length ≤ cap ∧ cap ≤ maxLen ∧ (A = none → cap = 0) ∧ Row W A (fun b => b < W.heap.size) (l.map (Value.int k)) ∧ ∀ n ∈ l, (Lit.int k n).wf = true := by
  obtain ⟨a, len, cap, rfl⟩ := okWide_slice ht hok
  obtain ⟨fuel, hf⟩ := h
  rcases open_ints ht he ce hf with ⟨hcs, _⟩ | ⟨x, n, c, zs, hcs, _, hl, hm, hz, _, hcell, hwz⟩
  · simp [Value.cells] at hcs
    obtain ⟨rfl, rfl, rfl⟩ := hcs
    exact ⟨none, 0, [], rfl, Nat.le_refl _, Nat.zero_le _, (fun _ => rfl), Row.nil _ _ _, by simp⟩
  · simp [Value.cells] at hcs
    obtain ⟨rfl, rfl, rfl⟩ := hcs
    simp only [if_true] at hz
    have hln : (zs.take len).length = len := by simp; omega
    refine ⟨some x, cap, zs.take len, by rw [hln], by rw [hln]; exact hl, hm, (fun h => by cases h), (fun hne => ?_), fun n hn => hwz n (List.mem_of_mem_take hn)⟩
    have hpos : 0 < len := by
      rcases Nat.eq_zero_or_pos len with h0 | h0
      · subst h0; simp at hne
      · exact h0
    obtain ⟨b, off, spot⟩ := x
    have hspot : spot = none := by simpa [Addr.add] using World.cell?_spot (hcell 0 (by omega))
    subst hspot
    have h0 := hcell 0 (by omega)
    rw [add_plain] at h0
    refine ⟨b, off, rfl, World.block_lt_of_cell? W _ h0, fun i v hv => ?_⟩
    simp only [List.getElem?_map, Option.map_eq_some_iff] at hv
    obtain ⟨z, hzi, rfl⟩ := hv
    have hi : i < len := by
      rcases Nat.lt_or_ge i len with h1 | h1
      · exact h1
      · rw [List.getElem?_take, if_neg (by omega)] at hzi; cases hzi
    rw [List.getElem?_take, if_pos hi] at hzi
    have hc := hcell i (by omega)
    rw [add_plain] at hc
    have e0 : zs.getD i 0 = z := by rw [List.getD_eq_getElem?_getD, hzi]; rfl
    rw [e0] at hc
    exact hc
end

end Go.Proofs.YtpijhpfcigjkeaaDoor
end

/-
  WHAT THE ROWS' LISTED TABLE GIVES THE WALKS; a start that meets it.
-/
section
namespace Go.Proofs.YtpijhpfcigjkeaaDoor
open Go Go.ChangeShapes Go.WideShapes Go.ChangeAt Go.RowKit

theorem own : ownKnob Tryd.prog.godebug = none := by kernel_rfl
set_option maxRecDepth 100000 in
theorem laidOut : laidOutB Tryd.prog = true := by kernel_rfl
theorem gTaken : Tryd.prog.globalNamed "icehouse/crc.taken" = some 0 := by kernel_rfl
theorem tTaken : (Tryd.prog.globals[0]?).map (·.type) = some 127 := by kernel_rfl
/-- What the rows list. -/
abbrev listed : List (String × DataW Unit) := [("icehouse/crc.taken", Rows.laid_icehouse_crc_taken)]
set_option maxRecDepth 100000 in
theorem door_met (os : Os) (args : Array Value) : laidMetH Tryd.prog listed ((World.doorLaid Tryd.prog 400 os).forCall (fun _ _ => 0) ⟨#[], args, []⟩).memory :=
  laidMetH_of_parts3 (fuel := 8) (laidMet_of_run' 8 (by kernel_rfl) (by kernel_rfl)) (by kernel_rfl) (by kernel_rfl)
def tab : List (DataW Unit) := (List.range 16).map fun i => .lit (.int .u32 ((tbits 4 i : Nat) : Int))
theorem tab_is : (Rows.laid_icehouse_crc_taken : DataW Unit) = .agg tab := by kernel_rfl
set_option maxRecDepth 100000 in
theorem taken_of {W : World} (h : laidMetH Tryd.prog listed W) : Taken W := by
  rw [MakeChecks.laidMetH_plain _ _ _ (by kernel_rfl)] at h
  obtain ⟨ps, ⟨g0, t0, cs0, f0, p0, q0, hg0, ht0, hv0, hd0, _⟩, _⟩ := h
  obtain rfl := Option.some.inj (gTaken.symm.trans hg0)
  obtain rfl := Option.some.inj (tTaken.symm.trans ht0)
  rw [tab_is] at hd0
  obtain ⟨xs, m, rfl, hx, hlen, hn, hel⟩ := DataW.trod_array Tryd.underlying127 hd0
  have c1 : Tryd.prog.cellsOf 102 = 1 := by kernel_rfl
  simp only [Prod.mk.injEq, DataW.agg.injEq] at hx
  intro i hi
  have he := hel i hi
  rw [c1, Nat.mul_one] at he
  have hxi : i < xs.length := by omega
  rw [List.getElem?_eq_getElem hxi] at he
  obtain ⟨n, e1, e2, _⟩ := DataW.trod_int Tryd.underlying102 he
  have e3 : (xs.map (·.1))[i]? = some (.lit (.int .u32 n)) := by rw [List.getElem?_map, List.getElem?_eq_getElem hxi, e2]; rfl
  rw [← hx.1] at e3
  have e4 : tab[i]? = some (.lit (.int .u32 ((tbits 4 i : Nat) : Int))) := by unfold tab; simp [hi]
  rw [e4] at e3
  have hk : n = ((tbits 4 i : Nat) : Int) := by injection e3 with e; injection e with e; injection e with _ e; exact e.symm
  have hc := World.var?_cell hg0 hv0 i
  rw [hc]
  have e5 : cs0.toList[i]? = some (.int .u32 n) := by
    have := congrArg (·[0]?) e1
    simpa [List.getElem?_take, List.getElem?_drop] using this
  rw [← Array.getElem?_toList, e5, hk]

end Go.Proofs.YtpijhpfcigjkeaaDoor
end

/-
  HOW ARGUMENTS OPEN, MORE (my own text; it knows no program): a slice of one-cell elements of any kind; a slice of structs.
-/
section
namespace Go.Proofs.YtpijhpfcigjkeaaDoor
open Go Go.ChangeShapes Go.WideShapes Go.ChangeAt Go.RowKit Go.Deep

section
variable {H : Type} {enc : TypeId × Value → H} {P : Program} {W : World}
/-- A slice of one-cell elements, off its cells. -/
theorem open_list {α : Type} [Inhabited α] (val : α → Value) (good : α → Prop) {t e : TypeId} {fuel : Nat} {cs : List Value} {x : DataW H × List MemPlace} (ht : P.underlying t = some (.slice e)) (ce : P.cellsOf e = 1)
    (hel : ∀ n v y, DataW.trod enc P W 0 (fun _ => true) true n e [v] = some y → ∃ a, v = val a ∧ good a) (hf : DataW.trod enc P W 0 (fun _ => true) true fuel t cs = some x) :
    ∃ (A : Option Addr) (cap : Nat) (l : List α), cs = [.slice A l.length cap] ∧ l.length ≤ cap ∧ cap ≤ maxLen ∧ (A = none → cap = 0) ∧ Row W A (fun b => b < W.heap.size) (l.map val) ∧ ∀ a ∈ l, good a := by
  rcases open_slice1 ht ce hf with ⟨hcs, _⟩ | ⟨ad, len, cap, m, fu, V, D, Pl, hcs, _, hl, hm, hmm, _, hcell⟩
  · exact ⟨none, 0, [], hcs, Nat.le_refl _, Nat.zero_le _, (fun _ => rfl), Row.nil _ _ _, by simp⟩
  · simp only [if_true] at hmm
    subst hmm
    obtain ⟨f, hpf⟩ := choose_lt (n := len) (p := fun i a => V i = val a ∧ good a) fun i hi => hel fu (V i) _ (hcell i (by omega)).2
    refine ⟨some ad, m, (List.range len).map f, by simpa using hcs, by simpa using hl, hm, (fun h => by cases h), (fun hne => ?_), fun a ha => ?_⟩
    · have hpos : 0 < len := by
        rcases Nat.eq_zero_or_pos len with h0 | h0
        · subst h0; simp at hne
        · exact h0
      obtain ⟨b, off, spot⟩ := ad
      have hspot : spot = none := by simpa [Addr.add] using World.cell?_spot (hcell 0 (by omega)).1
      subst hspot
      have h0 := (hcell 0 (by omega)).1
      rw [add_plain] at h0
      refine ⟨b, off, rfl, World.block_lt_of_cell? W _ h0, fun i v hv => ?_⟩
      have hi : i < len := by
        have := (List.getElem?_eq_some_iff.1 hv).1
        simpa using this
      rw [List.getElem?_map, List.getElem?_map, List.getElem?_range hi] at hv
      simp only [Option.map_some, Option.some.injEq] at hv
      have hc := (hcell i (by omega)).1
      rw [add_plain, (hpf i hi).1] at hc
      rw [hc, hv]
    · obtain ⟨j, hj, rfl⟩ := List.mem_map.1 ha
      exact (hpf j (List.mem_range.1 hj)).2
/-- A slice of bools. -/
theorem open_bools {t e : TypeId} {fuel : Nat} {cs : List Value} {x : DataW H × List MemPlace} (ht : P.underlying t = some (.slice e)) (he : P.underlying e = some .bool) (ce : P.cellsOf e = 1) (hf : DataW.trod enc P W 0 (fun _ => true) true fuel t cs = some x) :
    ∃ (A : Option Addr) (cap : Nat) (l : List Bool), cs = [.slice A l.length cap] ∧ l.length ≤ cap ∧ cap ≤ maxLen ∧ (A = none → cap = 0) ∧ Row W A (fun b => b < W.heap.size) (l.map Value.bool) := by
  obtain ⟨A, cap, l, h1, h2, h3, h4, h5, _⟩ := open_list (α := Bool) Value.bool (fun _ => True) ht ce (fun n v y h => by
    obtain ⟨b, hb, _⟩ := DataW.trod_bool he h
    exact ⟨b, (List.cons.inj hb).1, trivial⟩) hf
  exact ⟨A, cap, l, h1, h2, h3, h4, h5⟩
/-- Off the argument itself. -/
theorem open_bools_whole {t e : TypeId} {v : Value} {d : DataW H} {ps : List MemPlace} {base : Nat} (ht : P.underlying t = some (.slice e)) (he : P.underlying e = some .bool) (ce : P.cellsOf e = 1)
    (hok : Value.okWide P W .any base t v) (h : DataW.Trod enc P W 0 (fun _ => true) true t v d ps) :
    ∃ (A : Option Addr) (cap : Nat) (l : List Bool), v = .slice A l.length cap ∧ l.length ≤ cap ∧ cap ≤ maxLen ∧ (A = none → cap = 0) ∧ Row W A (fun b => b < W.heap.size) (l.map Value.bool) := by
  obtain ⟨a, len, cap, rfl⟩ := okWide_slice ht hok
  obtain ⟨fuel, hf⟩ := h
  obtain ⟨A, c, l, hcs, h1, h2, h3, h4⟩ := open_bools ht he ce hf
  simp [Value.cells] at hcs
  obtain ⟨rfl, rfl, rfl⟩ := hcs
  exact ⟨_, _, l, rfl, h1, h2, h3, h4⟩
/-- A slice of structs of one-cell fields: each element's cells, and what each reads as. -/
theorem open_structs {t e : TypeId} {fs : Array Field} {fuel : Nat} {cs : List Value} {x : DataW H × List MemPlace} (ht : P.underlying t = some (.slice e)) (he : P.underlying e = some (.struct fs)) (hone : oneCellFields P fs = true) (hC : P.cellsOf e = fs.size) (hpos : 0 < fs.size)
    (hf : DataW.trod enc P W 0 (fun _ => true) true fuel t cs = some x) :
    ∃ (A : Option Addr) (len cap : Nat), cs = [.slice A len cap] ∧ len ≤ cap ∧ cap ≤ maxLen ∧ (A = none → cap = 0) ∧
      ∀ i, i < len → ∃ (b o : Nat) (vs : List Value) (n : Nat), A = some ⟨b, o, none⟩ ∧ b < W.heap.size ∧ vs.length = fs.size ∧
        (∀ j v, vs[j]? = some v → W.cell? ⟨b, o + (i * fs.size + j), none⟩ = some v) ∧ ∀ (j : Nat) (f : Field), fs[j]? = some f → ∃ v y, vs[j]? = some v ∧ DataW.trod enc P W 0 (fun _ => true) true n f.type [v] = some y := by
  rcases open_slice ht hf with ⟨hcs, _⟩ | ⟨ad, len, cap, m, fu, D, Pl, hcs, _, hl, hm, hmm, _, hcell⟩
  · exact ⟨none, 0, 0, hcs, Nat.le_refl _, Nat.zero_le _, (fun _ => rfl), fun i hi => by omega⟩
  · simp only [if_true] at hmm
    subst hmm
    refine ⟨some ad, len, m, hcs, hl, hm, (fun h => by cases h), fun i hi => ?_⟩
    obtain ⟨vs, hc, htr⟩ := hcell i (by omega)
    rw [hC] at hc
    obtain ⟨_, hvl, hat⟩ := World.cells?_some hc
    obtain ⟨ys, n, _, _, hcl, hyl, hfl⟩ := DataW.trod_struct he htr
    obtain ⟨b, off, spot⟩ := ad
    have hat' : ∀ j v, vs[j]? = some v → W.cell? ((⟨b, off, spot⟩ : Addr).add (i * fs.size + j)) = some v := fun j v hv => by
      have hj : j < fs.size := by have := (List.getElem?_eq_some_iff.1 hv).1; omega
      rw [← Go.Deep.add_add, hat j hj, hv]
    have h0 : 0 < vs.length := by omega
    have hspot : spot = none := by
      obtain ⟨vs0, hc0, _⟩ := hcell 0 (by omega)
      rw [hC] at hc0
      obtain ⟨_, hvl0, hat0⟩ := World.cells?_some hc0
      have h2 := hat0 0 hpos
      rw [Go.Deep.add_add, List.getElem?_eq_getElem (by omega)] at h2
      simpa [Addr.add] using World.cell?_spot h2
    subst hspot
    refine ⟨b, off, vs, n, rfl, ?_, hvl, fun j v hv => ?_, fun j f hj => ?_⟩
    · have h1 := hat' 0 vs[0] (List.getElem?_eq_getElem h0)
      rw [add_plain] at h1
      exact World.block_lt_of_cell? W _ h1
    · have h1 := hat' j v hv
      rwa [add_plain] at h1
    · obtain ⟨ho, hk⟩ := hone_of hone j f hj
      have hjs : j < fs.size := (Array.getElem?_eq_some_iff.1 hj).1
      have h1 := hfl j f hj
      have hjv : j < vs.length := by omega
      rw [ho, hk, List.drop_eq_getElem_cons hjv, List.take_succ_cons, List.take_zero, List.getElem?_eq_getElem (by omega)] at h1
      exact ⟨_, _, List.getElem?_eq_getElem hjv, h1⟩
end

end Go.Proofs.YtpijhpfcigjkeaaDoor
end
