/-
  Obj, Nats, Bytes, InvG, InvOne, Num: texts of mine, joined.
-/
import Derived.Test.YticophaepapjoaaGreatDoorAllB00
import Derived.Test.YticophaepapjoaaGreatDoorAllB01
import Derived.Test.YticophaepapjoaaGreatDoorProg
import Derived.WalkKit
import Derived.Lib.Hide
open Go.Lib renaming hid → Hd
set_option maxRecDepth 100000
set_option maxHeartbeats 8000000
namespace Go.Proofs.YticophaepapjoaaGreatDoor
open Go Go.RowKit
structure Foot where
 M : Nat → Prop
 I : Nat → Prop
def Foot.all (F : Foot) (b : Nat) : Prop := F.M b ∨ F.I b
structure Step (F F' : Foot) (w w' : World) : Prop where
 keeps : Keeps (fun b => ¬ F.M b) w w'
 m : ∀ b, F'.M b → F.M b ∨ w.heap.size ≤ b
 i : ∀ b, F'.I b → F.all b ∨ w.heap.size ≤ b
structure Apart (F G : Foot) : Prop where
 l : ∀ b, F.M b → ¬ G.all b
 r : ∀ b, G.M b → ¬ F.all b
section
variable {F F' F'' G : Foot} {w w' w'' : World} {n : Nat}
theorem Step.refl (F : Foot) (w : World) : Step F F w w := ⟨Keeps.refl _ _, fun _ h => .inl h, fun _ h => .inl (.inr h)⟩
theorem Step.all (h : Step F F' w w') : ∀ b, F'.all b → F.all b ∨ w.heap.size ≤ b := fun b hb => by
 rcases hb with hb | hb
 ·rcases h.m b hb with h1 | h1
  ·exact .inl (.inl h1)
  ·exact .inr h1
 ·exact h.i b hb
theorem Step.trans (h : Step F F' w w') (k : Step F' F'' w' w'') : Step F F'' w w'' := by
 have hs := h.keeps.size
 refine ⟨⟨k.keeps.os.trans h.keeps.os, k.keeps.tape.trans h.keeps.tape, k.keeps.output.trans h.keeps.output, Nat.le_trans hs k.keeps.size, fun b hb hlt => ?_⟩, fun b hb => ?_, fun b hb => ?_⟩
 ·refine (k.keeps.block b (fun hm => ?_) (Nat.lt_of_lt_of_le hlt hs)).trans (h.keeps.block b hb hlt)
  rcases h.m b hm with h1 | h1
  ·exact hb h1
  ·omega
 ·rcases k.m b hb with h1 | h1
  ·exact h.m b h1
  ·exact .inr (Nat.le_trans hs h1)
 ·rcases k.i b hb with h1 | h1
  ·exact h.all b h1
  ·exact .inr (Nat.le_trans hs h1)
theorem Step.alloc (h : Step F F' w w') (o : Obj) : Step F F' w (w'.alloc o) := ⟨h.keeps.alloc o, h.m, h.i⟩
theorem Step.of_keeps (h : Keeps (fun _ => True) w w') (F : Foot) : Step F F w w' := ⟨h.mono fun _ _ _ => trivial, fun _ hb => .inl hb, fun _ hb => .inl (.inr hb)⟩
theorem Step.old {a : World} (h : Step F F' w w') (hF : ∀ b, F.M b → a.heap.size ≤ b) (hk : Keeps (fun _ => True) a w) : Keeps (fun _ => True) a w' :=
 ⟨h.keeps.os.trans hk.os, h.keeps.tape.trans hk.tape, h.keeps.output.trans hk.output, Nat.le_trans hk.size h.keeps.size, fun b _ hb =>
  (h.keeps.block b (fun hm => by have := hF b hm; omega) (Nat.lt_of_lt_of_le hb hk.size)).trans (hk.block b trivial hb)⟩
theorem Apart.symm (h : Apart F G) : Apart G F := ⟨h.r, h.l⟩
theorem Step.other (h : Step F F' w w') (ha : Apart F G) : Keeps G.all w w' := h.keeps.mono fun b _ hg hm => ha.l b hm hg
theorem Step.apart (h : Step F F' w w') (ha : Apart F G) (hG : ∀ b, G.all b → b < w.heap.size) : Apart F' G := by
 refine ⟨fun b hb hg => ?_, fun b hb hf => ?_⟩
 ·rcases h.m b hb with h1 | h1
  ·exact ha.l b h1 hg
  ·have := hG b hg; omega
 ·rcases h.all b hf with h1 | h1
  ·exact ha.r b hb h1
  ·have := hG b (.inl hb); omega
end
theorem int_elem : Elem Tryz.prog 66 3 (.int .i64 0) 1 8 := ⟨Tryz.underlying66, by kernel_rfl, rfl, by decide⟩
def nats (l : List Nat) : List Value := l.map fun n : Nat => .int .i64 (n : Int)
def OwnN (w : World) (base : Nat) (v : Value) (l : List Nat) : Prop := w.ownsRow base 3 1 v l.length (nats l)
theorem nats_at (l : List Nat) (j : Nat) (h : j < (nats l).length) : (nats l)[j] = .int .i64 ((l.getD j 0 : Nat) : Int) := by
 have hj : j < l.length := by simpa [nats] using h
 rw [getD_mem _ _ _ hj]; simp [nats]
theorem byte_elem : Elem Tryz.prog 64 5 (.int .u8 0) 1 1 := ⟨Tryz.underlying64, by kernel_rfl, rfl, by decide⟩
def OwnB (w : World) (base : Nat) (v : Value) (l : List UInt8) : Prop := w.ownsRow base 5 1 v l.length (bcells l)
theorem OwnB.snoc {w : World} {base : Nat} {v : Value} {l r : List UInt8} {m : Nat} {xs : List Value} (h : w.ownsRow base 5 1 v m xs) (hm : m = (l ++ r).length) (hx : xs = bcells l ++ bcells r) : OwnB w base v (l ++ r) := by
 unfold OwnB; rw [bcells_append, ← hx, ← hm]; exact h
def IsV (x : Value) : World → Value → Prop := fun _ v => v = x
def wantsG (G : Nat → Option Bool) (o : Oper) : Bool := match o.guard with | none => true | some (g, b) => G g == some b
def fitsG (G : Nat → Option Bool) (ops : Array Oper) (n : Nat) : Bool :=
 (List.range ops.size).all fun i => (ops[i]?).all fun o => (match o.guard with | none => true | some (g, _) => waits ops i g && (dstOf ops g).isSome && ((G g).isSome || (ops[g]?).any fun o' => !wantsG G o')) && (o.after.all fun e => !Region.binds .any e || decide (e.on < i)) && (o.dst.all fun d => decide (d < n)) &&
  (List.range ops.size).all fun j => i == j || o.dst.isNone || dstOf ops j != o.dst
section
variable {P : Program} {ops : Array Oper} {Q : Exit → Act → World → Prop} {R : World → World → Prop} {V : Nat → World → Value → Prop} {a0 : Act} {w0 : World} {G : Nat → Option Bool}
theorem wanted_is {i : Nat} {o : Oper} {a : Act} {w : World} (L : Leans R V ops a0 w0 i a w) (hts : ∀ i d, dstOf ops i = some d → d < a.tmps.size)
  (hg : ∀ g b, o.guard = some (g, b) → waits ops i g = true ∧ (dstOf ops g).isSome = true ∧ ((G g).isSome = true ∨ ∃ o', ops[g]? = some o' ∧ wantsG G o' = false)) (hG : ∀ g c, G g = some c → ∀ w v, V g w v → v = .bool c)
  (hU : ∀ (i : Nat) (o : Oper), ops[i]? = some o → wantsG G o = false → V i = IsV undef) : Region.wanted o (yielded ops a.tmps) = wantsG G o := by
 unfold Region.wanted wantsG
 cases ho : o.guard with
 | none => rfl
 | some gb =>
  obtain ⟨g, b⟩ := gb
  obtain ⟨h1, h2, h3⟩ := hg g b ho
  obtain ⟨d, hd⟩ := Option.isSome_iff_exists.1 h2
  have hlt := hts g d hd
  have hd' : (ops[g]?).bind (·.dst) = some d := hd
  have hy : yielded ops a.tmps g = G g := by
   unfold yielded
   rw [hd']
   simp only [Option.bind_some]
   cases hc : G g with
   | some c =>
    have hv' : a.tmps.getD d undef = .bool c := hG g c hc w _ (L.val g d h1 hd)
    have e : a.tmps[d]? = some (.bool c) := by
     simp only [Array.getD, hlt, dif_pos] at hv'
     rw [Array.getElem?_eq_getElem hlt]
     exact congrArg some hv'
    rw [e]
   | none =>
    rcases h3 with h3 | ⟨o', ho', hw'⟩
    ·rw [hc] at h3; cases h3
    ·have hv := L.val g d h1 hd
     rw [hU g o' ho' hw'] at hv
     have hv' : a.tmps.getD d undef = undef := hv
     have e : a.tmps[d]? = some undef := by
      simp only [Array.getD, hlt, dif_pos] at hv'
      rw [Array.getElem?_eq_getElem hlt]
      exact congrArg some hv'
     rw [e]; rfl
  show (yielded ops a.tmps g == some b) = (G g == some b)
  rw [hy]
theorem wpAny_invG (hRr : ∀ w, R w w) (hR : ∀ a b c, R a b → R b c → R a c) (hV : ∀ i w w' v, R w w' → V i w v → V i w' v)
  (hd : ∀ i j d, dstOf ops i = some d → dstOf ops j = some d → i = j) (hb : ∀ i d, dstOf ops i = some d → d < a0.tmps.size)
  (hg : ∀ (i : Nat) (o : Oper), ops[i]? = some o → ∀ g b, o.guard = some (g, b) → waits ops i g = true ∧ (dstOf ops g).isSome = true ∧ ((G g).isSome = true ∨ ∃ o', ops[g]? = some o' ∧ wantsG G o' = false)) (hG : ∀ g c, G g = some c → ∀ w v, V g w v → v = .bool c)
  (hU : ∀ (i : Nat) (o : Oper), ops[i]? = some o → wantsG G o = false → V i = IsV undef) (hac : ∀ i j, waits ops i j = true → j < i)
  (loc : ∀ (i : Nat) (o : Oper), ops[i]? = some o → wantsG G o = true → ∀ a w, Leans R V ops a0 w0 i a w → o.wp P a w (fun a' w' => ∃ v, a' = a.put o.dst v ∧ R w w' ∧ V i w' v) Q)
  (done : ∀ l a w, (∀ i, i < ops.size → l.getD i false = true) → StandsAt R V ops a0 w0 l a w → Q .normal a w) :
  ∀ (fuel : Nat) (l : Array Bool) (a : Act) (w : World), (leftOver ops.size l).length ≤ fuel → StandsAt R V ops a0 w0 l a w → wpAny P .any ops Q fuel l a w := by
 intro fuel
 induction fuel with
 | zero =>
  intro l a w hf h
  have hn : leftOver ops.size l = [] := List.eq_nil_of_length_eq_zero (by omega)
  have hnot : ∀ i, i < ops.size → l.getD i false = true := fun i hi => by
   have hm : i ∉ leftOver ops.size l := by rw [hn]; simp
   have hl' : i < l.size := by rw [h.size]; exact hi
   unfold leftOver at hm
   simp only [List.mem_filter, List.mem_range, hi, true_and, Array.getD, hl'] at hm ⊢
   simpa using hm
  refine ⟨?_, done l a w hnot h⟩
  refine List.eq_nil_iff_forall_not_mem.2 fun i hi => ?_
  have hm := (mem_ready.1 hi).1
  have hx := getD_false_of hm
  rw [hnot i (by rw [← h.size]; exact hx.2)] at hx
  exact absurd hx.1 (by simp)
 | succ fuel ih =>
  intro l a w hf h
  refine ⟨fun hr => done l a w (all_listed hac h.size hr) h, fun i hi => ?_⟩
  obtain ⟨hl, o, ho, hall⟩ := mem_ready.1 hi
  have hw : ∀ j, waits ops i j = true → l.getD j false = true := fun j hj => by
   obtain ⟨o', ho', e, he, hb', rfl⟩ := (waits_iff i j).1 hj
   rw [ho] at ho'; cases ho'
   exact hall e he hb'
  have hdst : o.dst = dstOf ops i := by simp [dstOf, ho]
  have hleft : (leftOver ops.size (l.setIfInBounds i true)).length ≤ fuel := by
   have := leftOver_set ops.size l i (by rw [← h.size]; exact (getD_false_of hl).2) hl
   omega
  have hwant := wanted_is (h.leans hl hw) (fun j d hj => by rw [h.tmps]; exact hb j d hj) (hg i o ho) hG hU
  unfold wpOp
  cases hwo : wantsG G o
  ·rw [hwo] at hwant
   simp only [ho, hwant, Bool.false_eq_true, if_false]
   rw [hdst]
   exact ih _ _ _ hleft (h.step hR hV hd hb hl hw (hRr w) (by rw [hU i o ho hwo]; rfl))
  ·rw [hwo] at hwant
   simp only [ho, hwant, if_true]
   refine .inl (Oper.wp_mono (fun a' w' hk => ?_) (loc i o ho hwo a w (h.leans hl hw)))
   obtain ⟨v, rfl, hr, hv⟩ := hk
   rw [hdst]
   exact ih _ _ _ hleft (h.step hR hV hd hb hl hw hr hv)
theorem wp_region_guard {id : Nat} {w : World} (G : Nat → Option Bool) (hm : P.follows .mixedOrders = true) (hRr : ∀ w, R w w) (hR : ∀ a b c, R a b → R b c → R a c) (hV : ∀ i w w' v, R w w' → V i w v → V i w' v)
  (hfit : fitsG G ops a0.tmps.size = true) (hG : ∀ g c, G g = some c → ∀ w v, V g w v → v = .bool c) (hU : ∀ (i : Nat) (o : Oper), ops[i]? = some o → wantsG G o = false → V i = IsV undef) (hw : R w0 w.drew)
  (loc : ∀ (i : Nat) (o : Oper), ops[i]? = some o → wantsG G o = true → ∀ a w, Leans R V ops a0 w0 i a w → o.wp P a w (fun a' w' => ∃ v, a' = a.put o.dst v ∧ R w w' ∧ V i w' v) Q)
  (done : ∀ vs w, R w0 w → vs.length = ops.size → (∀ i d, dstOf ops i = some d → V i w (vs.getD i undef)) → Q .normal (putAll a0 (ops.toList.map (·.dst)) vs) w) :
  (Code.region id ops true).wp P Q a0 w := by
 have look : ∀ (i : Nat) (o : Oper), ops[i]? = some o → (∀ g b, o.guard = some (g, b) → waits ops i g = true ∧ (dstOf ops g).isSome = true ∧ ((G g).isSome = true ∨ ∃ o', ops[g]? = some o' ∧ wantsG G o' = false)) ∧ (∀ e ∈ o.after, Region.binds .any e = true → e.on < i) ∧ (∀ d, o.dst = some d → d < a0.tmps.size) ∧ (∀ j, i ≠ j → ∀ d, o.dst = some d → dstOf ops j ≠ some d) := by
  intro i o ho
  have hi : i < ops.size := (Array.getElem?_eq_some_iff.1 ho).1
  have h := List.all_eq_true.1 hfit i (List.mem_range.2 hi)
  simp only [ho, Option.all_some, Bool.and_eq_true] at h
  obtain ⟨⟨⟨h1, h2⟩, h3⟩, h4⟩ := h
  refine ⟨fun g b hgb => ?_, fun e he hb => ?_, fun d hd => ?_, fun j hj d hd hx => ?_⟩
  ·rw [hgb] at h1
   simp only [Bool.and_eq_true, Bool.or_eq_true] at h1
   refine ⟨h1.1.1, h1.1.2, h1.2.imp (fun hx => hx) fun hx => ?_⟩
   cases ho' : ops[g]? with
   | none => rw [ho'] at hx; cases hx
   | some o' =>
    rw [ho'] at hx
    exact ⟨o', rfl, by simpa using hx⟩
  ·have := Array.all_eq_true_iff_forall_mem.1 h2 e he
   simpa [hb] using this
  ·rw [hd] at h3; simpa using h3
  ·have hjs : j < ops.size := by
    rcases Nat.lt_or_ge j ops.size with h' | h'
    ·exact h'
    ·simp [dstOf, Array.getElem?_eq_none h'] at hx
   have := List.all_eq_true.1 h4 j (List.mem_range.2 hjs)
   rw [hd, hx] at this
   simp [hj] at this
 have some_of : ∀ i d, dstOf ops i = some d → ∃ o, ops[i]? = some o ∧ o.dst = some d := fun i d h => by
  unfold dstOf at h
  cases ho : ops[i]? with
  | none => simp [ho] at h
  | some o => exact ⟨o, rfl, by simpa [ho] using h⟩
 refine wp_region_any hm ?_
 refine wpAny_invG (R := R) (V := V) (a0 := a0) (w0 := w0) (G := G) hRr hR hV ?_ ?_ (fun i o ho => (look i o ho).1) hG hU ?_ loc ?_ ops.size _ a0 _ ?_ ?_
 ·intro i j d hi hj
  obtain ⟨o, ho, hd⟩ := some_of i d hi
  exact Classical.byContradiction fun hne => (look i o ho).2.2.2 j hne d hd hj
 ·intro i d hi
  obtain ⟨o, ho, hd⟩ := some_of i d hi
  exact (look i o ho).2.2.1 d hd
 ·intro i j h
  obtain ⟨o, ho, e, he, hb, rfl⟩ := (waits_iff i j).1 h
  exact (look i o ho).2.1 e he hb
 ·intro l a w' hall h
  have hlen : ((ops.toList.map (·.dst)).map (slotOf a)).length = ops.size := by simp
  have hq := done ((ops.toList.map (·.dst)).map (slotOf a)) w' h.rel hlen (fun i d hid => by
   obtain ⟨o, ho, hd⟩ := some_of i d hid
   have hi : i < ops.size := (Array.getElem?_eq_some_iff.1 ho).1
   have hv := h.val i d (hall i hi) hid
   have e : ((ops.toList.map (·.dst)).map (slotOf a)).getD i undef = a.tmps.getD d undef := by
    rw [List.getD_eq_getElem?_getD, List.getElem?_map, List.getElem?_map, Array.getElem?_toList, ho]
    simp [hd, slotOf]
   rw [e]; exact hv)
  rw [← putAll_of a _ a0 h.defers h.tmps ?_ ?_] at hq
  ·exact hq
  ·intro d hd
   obtain ⟨o, ho, hod⟩ := List.mem_map.1 hd
   obtain ⟨i, hi, rfl⟩ := List.getElem_of_mem ho
   exact (look i ops[i] (by simp at hi; simp [hi])).2.2.1 d (by simpa using hod)
  ·intro t ht
   refine h.old t fun i _ hid => ht ?_
   obtain ⟨o, ho, hd⟩ := some_of i t hid
   refine List.mem_map.2 ⟨o, ?_, hd⟩
   rw [← Array.mem_def]
   exact Array.mem_of_getElem? ho
 ·refine Nat.le_trans (List.length_filter_le _ _) ?_
  simp
 ·refine ⟨by simp, hw, rfl, rfl, fun _ _ => rfl, ?_, ?_⟩
  ·intro i d h; exact absurd h (by simp [Array.getD])
  ·intro i j h; exact absurd h (by simp [Array.getD])
end
theorem unwanted_of {ops : Array Oper} {V : Nat → World → Value → Prop} {G : Nat → Option Bool} (us : List Nat) (h : ((List.range ops.size).all fun i => (ops[i]?).all fun o => wantsG G o || us.contains i) = true) (hV : ∀ i ∈ us, V i = IsV undef) :
  ∀ (i : Nat) (o : Oper), ops[i]? = some o → wantsG G o = false → V i = IsV undef := by
 intro i o ho hw
 have hi : i < ops.size := (Array.getElem?_eq_some_iff.1 ho).1
 have := List.all_eq_true.1 h i (List.mem_range.2 hi)
 rw [ho] at this
 simp only [Option.all_some, hw, Bool.false_or, List.contains_iff_mem] at this
 exact hV i this
theorem all_wanted {ops : Array Oper} {G : Nat → Option Bool} (h : ((List.range ops.size).all fun i => (ops[i]?).all fun o => wantsG G o) = true) {i : Nat} {o : Oper} (ho : ops[i]? = some o) (hw : wantsG G o = false) : False := by
 have hi : i < ops.size := (Array.getElem?_eq_some_iff.1 ho).1
 have := List.all_eq_true.1 h i (List.mem_range.2 hi)
 rw [ho] at this
 simp only [Option.all_some, hw] at this
 cases this
abbrev Kp (w w' : World) : Prop := Keeps (fun _ => True) w w'
def TextV (l : List UInt8) : World → Value → Prop := fun w v => ∃ A c, v = .slice A l.length c ∧ Row w A (fun _ => True) (bcells l)
theorem TextV.mono {l : List UInt8} {w w' : World} {v : Value} (h : Kp w w') (hv : TextV l w v) : TextV l w' v := by
 obtain ⟨A, c, e, hr⟩ := hv
 exact ⟨A, c, e, hr.keep h⟩
section
variable {P : Program} {o : Oper} {a : Act} {w : World} {Q : Exit → Act → World → Prop} {x y z : Operand}
theorem kp_yield {V : World → Value → Prop} {v : Value} {w' : World} (e : (execOp a.eval o).run P w = .ok (.value v) w') (hw : Kp w w') (hv : V w' v) : o.wp P a w (fun a' w' => ∃ v, a' = a.put o.dst v ∧ Kp w w' ∧ V w' v) Q := by
 unfold Oper.wp
 rw [e]
 exact ⟨v, rfl, hw, hv⟩
theorem kp_enter {V : World → Value → Prop} {f : FuncId} {args : Array Value} {C : Ending → World → Prop} (e : (execOp a.eval o).run P w = .ok (.enter f args) w) (hc : Calls P f args w C)
  (hC : ∀ e w', C e w' → ∃ v, e = .returned v ∧ Kp w w' ∧ V w' v) : o.wp P a w (fun a' w' => ∃ v, a' = a.put o.dst v ∧ Kp w w' ∧ V w' v) Q := by
 unfold Oper.wp
 rw [e]
 refine hc.mono fun e w' h => ?_
 obtain ⟨v, rfl, hw, hv⟩ := hC e w' h
 exact ⟨v, rfl, hw, hv⟩
theorem kp_move {v : Value} (ho : o.op = .move x) (hx : a.eval x = v) : o.wp P a w (fun a' w' => ∃ v', a' = a.put o.dst v' ∧ Kp w w' ∧ IsV v w' v') Q := by
 unfold Oper.wp execOp
 rw [ho]
 exact ⟨a.eval x, rfl, Keeps.refl _ _, hx⟩
theorem kp_assign {v : Value} (ho : o.op = .assign x) (hx : a.eval x = v) : o.wp P a w (fun a' w' => ∃ v', a' = a.put o.dst v' ∧ Kp w w' ∧ IsV v w' v') Q := by
 unfold Oper.wp execOp
 rw [ho]
 exact ⟨a.eval x, rfl, Keeps.refl _ _, hx⟩
theorem kp_pick {b : Bool} {v : Value} (ho : o.op = .pick x y z) (hx : a.eval x = .bool b) (hv : (if b then a.eval y else a.eval z) = v) : o.wp P a w (fun a' w' => ∃ v', a' = a.put o.dst v' ∧ Kp w w' ∧ IsV v w' v') Q := by
 refine kp_yield (v := v) (w' := w) ?_ (Keeps.refl _ _) rfl
 unfold execOp
 rw [ho]
 cases b <;> simp_all [asBool]
theorem kp_string {l : List UInt8} {src dst e : TypeId} (ho : o.op = .convert src dst x) (hs : P.underlying src = some (.slice e)) (he : P.underlying e = some (.int .u8)) (hd : P.underlying dst = some .string) (hx : TextV l w (a.eval x)) :
  o.wp P a w (fun a' w' => ∃ v', a' = a.put o.dst v' ∧ Kp w w' ∧ IsV (.string (txt l)) w' v') Q := by
 obtain ⟨A, c, e1, hr⟩ := hx
 refine kp_yield (v := .string (txt l)) (w' := w) ?_ (Keeps.refl _ _) rfl
 have hc := hr.to_string (P := P) hs he hd l.length c rfl
 unfold execOp
 rw [ho]
 simp [e1, hc, Result.andThen]
end
section
variable {P : Program} {ops : Array Oper} {Q : Exit → Act → World → Prop} {R : World → World → Prop} {V : Nat → World → Value → Prop} {a0 : Act} {w0 : World} {G : Nat → Option Bool} {St : Bool → World → Prop} {Rk : World → World → Prop} {k : Nat}
theorem up_set {l : Array Bool} {i j : Nat} (h : l.getD j false = true) : (l.setIfInBounds i true).getD j false = true := by
 by_cases hji : j = i
 ·subst hji
  rcases Nat.lt_or_ge j l.size with hl | hl
  ·simp [hl]
  ·simp [Array.getD, Nat.not_lt.mpr hl] at h
 ·rw [getD_set_ne false (Ne.symm hji)]; exact h
theorem StandsAt.step' (_hR : R w0 w0) (hRt : ∀ w, R w0 w) (hd : ∀ i j d, dstOf ops i = some d → dstOf ops j = some d → i = j) (hb : ∀ i d, dstOf ops i = some d → d < a0.tmps.size)
  {l : Array Bool} {a : Act} {w w' : World} {i : Nat} {v : Value} (h : StandsAt R V ops a0 w0 l a w) (hl : l.getD i true = false) (hV : ∀ j u, l.getD j false = true → V j w u → V j w' u)
  (hw : ∀ j, waits ops i j = true → l.getD j false = true) (hv : V i w' v) :
  StandsAt R V ops a0 w0 (l.setIfInBounds i true) (a.put (dstOf ops i) v) w' := by
 have hi := (getD_false_of hl).2
 have hset : (l.setIfInBounds i true).getD i false = true := by simp [hi]
 refine ⟨by simp [h.size], hRt w', ?_, ?_, ?_, ?_, ?_⟩
 ·cases hx : dstOf ops i <;> simp [Act.put, h.defers]
 ·cases hx : dstOf ops i <;> simp [Act.put, h.tmps]
 ·intro t ht
  have old := h.old t fun j hj => ht j (up_set hj)
  cases hx : dstOf ops i with
  | none => exact old
  | some d =>
   rw [getD_put (by rw [h.tmps]; exact hb i d hx), if_neg (fun e => ht i hset (by rw [hx, e]))]
   exact old
 ·intro j d hj hjd
  by_cases hji : j = i
  ·subst hji
   rw [hjd, getD_put (by rw [h.tmps]; exact hb j d hjd), if_pos rfl]
   exact hv
  ·have hlj := getD_true_set hj hji
   have hval := hV j _ hlj (h.val j d hlj hjd)
   cases hx : dstOf ops i with
   | none => exact hval
   | some d' =>
    rw [getD_put (by rw [h.tmps]; exact hb i d' hx), if_neg (fun e => hji (hd j i d hjd (by rw [hx, e])))]
    exact hval
 ·intro j m hj hjm
  by_cases hji : j = i
  ·subst hji; exact up_set (hw m hjm)
  ·exact up_set (h.down j m (getD_true_set hj hji) hjm)
def chained (ops : Array Oper) (k : Nat) : Nat → List Nat → Bool
 | i, [] => waits ops i k
 | i, j :: js => waits ops i j && chained ops k j js
theorem chained_listed {l : Array Bool} {a : Act} {w : World} (h : StandsAt R V ops a0 w0 l a w) : ∀ (js : List Nat) (i : Nat), (∀ j, waits ops i j = true → l.getD j false = true) → chained ops k i js = true → l.getD k false = true
 | [], i, hw, hb => hw k hb
 | j :: js, i, hw, hb => by
  simp only [chained, Bool.and_eq_true] at hb
  exact chained_listed h js j (fun m hm => h.down j m (hw j hb.1) hm) hb.2
theorem wp_region_one {id : Nat} {w : World} (k : Nat) (St : Bool → World → Prop) (Rk : World → World → Prop) (G : Nat → Option Bool) (hm : P.follows .mixedOrders = true)
  (hV : ∀ i w w' v, Kp w w' → V i w v → V i w' v) (hS : ∀ b w w', Kp w w' → St b w → St b w') (hVk : ∀ i, i ≠ k → ∀ w w' v, Rk w w' → V i w v → V i w' v)
  (hfit : fitsG G ops a0.tmps.size = true) (hk : k < ops.size) (hG : ∀ g c, G g = some c → ∀ w v, V g w v → v = .bool c) (hU : ∀ (i : Nat) (o : Oper), ops[i]? = some o → wantsG G o = false → i ≠ k ∧ V i = IsV undef) (hw : St false w.drew)
  (loc : ∀ (i : Nat) (o : Oper), ops[i]? = some o → wantsG G o = true → ∀ a w, Leans (fun _ _ => True) V ops a0 w0 i a w →
   if i = k then (St false w → o.wp P a w (fun a' w' => ∃ v, a' = a.put o.dst v ∧ Rk w w' ∧ St true w' ∧ V i w' v) Q)
   else (∀ b, St b w → (∀ js, chained ops k i js = true → b = true) → o.wp P a w (fun a' w' => ∃ v, a' = a.put o.dst v ∧ Kp w w' ∧ V i w' v) Q))
  (done : ∀ vs w, St true w → vs.length = ops.size → (∀ i d, dstOf ops i = some d → V i w (vs.getD i undef)) → Q .normal (putAll a0 (ops.toList.map (·.dst)) vs) w) :
  (Code.region id ops true).wp P Q a0 w := by
 have look : ∀ (i : Nat) (o : Oper), ops[i]? = some o → (∀ g b, o.guard = some (g, b) → waits ops i g = true ∧ (dstOf ops g).isSome = true ∧ ((G g).isSome = true ∨ ∃ o', ops[g]? = some o' ∧ wantsG G o' = false)) ∧ (∀ e ∈ o.after, Region.binds .any e = true → e.on < i) ∧ (∀ d, o.dst = some d → d < a0.tmps.size) ∧ (∀ j, i ≠ j → ∀ d, o.dst = some d → dstOf ops j ≠ some d) := by
  intro i o ho
  have hi : i < ops.size := (Array.getElem?_eq_some_iff.1 ho).1
  have h := List.all_eq_true.1 hfit i (List.mem_range.2 hi)
  simp only [ho, Option.all_some, Bool.and_eq_true] at h
  obtain ⟨⟨⟨h1, h2⟩, h3⟩, h4⟩ := h
  refine ⟨fun g b hgb => ?_, fun e he hb => ?_, fun d hd => ?_, fun j hj d hd hx => ?_⟩
  ·rw [hgb] at h1
   simp only [Bool.and_eq_true, Bool.or_eq_true] at h1
   refine ⟨h1.1.1, h1.1.2, h1.2.imp (fun hx => hx) fun hx => ?_⟩
   cases ho' : ops[g]? with
   | none => rw [ho'] at hx; cases hx
   | some o' =>
    rw [ho'] at hx
    exact ⟨o', rfl, by simpa using hx⟩
  ·have := Array.all_eq_true_iff_forall_mem.1 h2 e he
   simpa [hb] using this
  ·rw [hd] at h3; simpa using h3
  ·have hjs : j < ops.size := by
    rcases Nat.lt_or_ge j ops.size with h' | h'
    ·exact h'
    ·simp [dstOf, Array.getElem?_eq_none h'] at hx
   have := List.all_eq_true.1 h4 j (List.mem_range.2 hjs)
   rw [hd, hx] at this
   simp [hj] at this
 have some_of : ∀ i d, dstOf ops i = some d → ∃ o, ops[i]? = some o ∧ o.dst = some d := fun i d h => by
  unfold dstOf at h
  cases ho : ops[i]? with
  | none => simp [ho] at h
  | some o => exact ⟨o, rfl, by simpa [ho] using h⟩
 have hd : ∀ i j d, dstOf ops i = some d → dstOf ops j = some d → i = j := by
  intro i j d hi hj
  obtain ⟨o, ho, hd⟩ := some_of i d hi
  exact Classical.byContradiction fun hne => (look i o ho).2.2.2 j hne d hd hj
 have hb : ∀ i d, dstOf ops i = some d → d < a0.tmps.size := by
  intro i d hi
  obtain ⟨o, ho, hd⟩ := some_of i d hi
  exact (look i o ho).2.2.1 d hd
 have hac : ∀ i j, waits ops i j = true → j < i := by
  intro i j h
  obtain ⟨o, ho, e, he, hb, rfl⟩ := (waits_iff i j).1 h
  exact (look i o ho).2.1 e he hb
 have fin : ∀ (l : Array Bool) (a : Act) (w' : World), (∀ i, i < ops.size → l.getD i false = true) → StandsAt (fun _ _ => True) V ops a0 w0 l a w' → St (l.getD k false) w' → Q .normal a w' := by
  intro l a w' hall h hs
  rw [hall k hk] at hs
  have hlen : ((ops.toList.map (·.dst)).map (slotOf a)).length = ops.size := by simp
  have hq := done ((ops.toList.map (·.dst)).map (slotOf a)) w' hs hlen (fun i d hid => by
   obtain ⟨o, ho, hd⟩ := some_of i d hid
   have hi : i < ops.size := (Array.getElem?_eq_some_iff.1 ho).1
   have hv := h.val i d (hall i hi) hid
   have e : ((ops.toList.map (·.dst)).map (slotOf a)).getD i undef = a.tmps.getD d undef := by
    rw [List.getD_eq_getElem?_getD, List.getElem?_map, List.getElem?_map, Array.getElem?_toList, ho]
    simp [hd, slotOf]
   rw [e]; exact hv)
  rw [← putAll_of a _ a0 h.defers h.tmps ?_ ?_] at hq
  ·exact hq
  ·intro d hd
   obtain ⟨o, ho, hod⟩ := List.mem_map.1 hd
   obtain ⟨i, hi, rfl⟩ := List.getElem_of_mem ho
   exact (look i ops[i] (by simp at hi; simp [hi])).2.2.1 d (by simpa using hod)
  ·intro t ht
   refine h.old t fun i _ hid => ht ?_
   obtain ⟨o, ho, hd⟩ := some_of i t hid
   refine List.mem_map.2 ⟨o, ?_, hd⟩
   rw [← Array.mem_def]
   exact Array.mem_of_getElem? ho
 have go : ∀ (fuel : Nat) (l : Array Bool) (a : Act) (w : World), (leftOver ops.size l).length ≤ fuel → StandsAt (fun _ _ => True) V ops a0 w0 l a w → St (l.getD k false) w → wpAny P .any ops Q fuel l a w := by
  intro fuel
  induction fuel with
  | zero =>
   intro l a w hf h hs
   have hn : leftOver ops.size l = [] := List.eq_nil_of_length_eq_zero (by omega)
   have hnot : ∀ i, i < ops.size → l.getD i false = true := fun i hi => by
    have hm : i ∉ leftOver ops.size l := by rw [hn]; simp
    have hl' : i < l.size := by rw [h.size]; exact hi
    unfold leftOver at hm
    simp only [List.mem_filter, List.mem_range, hi, true_and, Array.getD, hl'] at hm ⊢
    simpa using hm
   refine ⟨?_, fin l a w hnot h hs⟩
   refine List.eq_nil_iff_forall_not_mem.2 fun i hi => ?_
   have hm := (mem_ready.1 hi).1
   have hx := getD_false_of hm
   rw [hnot i (by rw [← h.size]; exact hx.2)] at hx
   exact absurd hx.1 (by simp)
  | succ fuel ih =>
   intro l a w hf h hs
   refine ⟨fun hr => fin l a w (all_listed hac h.size hr) h hs, fun i hi => ?_⟩
   obtain ⟨hl, o, ho, hall⟩ := mem_ready.1 hi
   have hwt : ∀ j, waits ops i j = true → l.getD j false = true := fun j hj => by
    obtain ⟨o', ho', e, he, hb', rfl⟩ := (waits_iff i j).1 hj
    rw [ho] at ho'; cases ho'
    exact hall e he hb'
   have hdst : o.dst = dstOf ops i := by simp [dstOf, ho]
   have hleft : (leftOver ops.size (l.setIfInBounds i true)).length ≤ fuel := by
    have := leftOver_set ops.size l i (by rw [← h.size]; exact (getD_false_of hl).2) hl
    omega
   have hwant := wanted_is (h.leans hl hwt) (fun j d hj => by rw [h.tmps]; exact hb j d hj) (look i o ho).1 hG (fun i o ho hw => (hU i o ho hw).2)
   have hset : ∀ (hne : i ≠ k), (l.setIfInBounds i true).getD k false = l.getD k false := fun hne => getD_set_ne false hne
   have hloc := loc i o ho
   unfold wpOp
   cases hwo : wantsG G o
   ·rw [hwo] at hwant
    obtain ⟨hne, hu⟩ := hU i o ho hwo
    simp only [ho, hwant, Bool.false_eq_true, if_false]
    rw [hdst]
    exact ih _ _ _ hleft (h.step' trivial (fun _ => trivial) hd hb hl (fun _ _ _ hh => hh) hwt (by rw [hu]; rfl)) (by rw [hset hne]; exact hs)
   ·rw [hwo] at hwant
    simp only [ho, hwant, if_true]
    have hlc := hloc hwo a w (h.leans hl hwt)
    by_cases hik : i = k
    ·subst hik
     rw [if_pos rfl] at hlc
     have hlf := (getD_false_of hl).1
     rw [hlf] at hs
     refine .inl (Oper.wp_mono (fun a' w' hk' => ?_) (hlc hs))
     obtain ⟨v, rfl, hr, hst, hv⟩ := hk'
     rw [hdst]
     refine ih _ _ _ hleft (h.step' trivial (fun _ => trivial) hd hb hl (fun j u hj hu => ?_) hwt hv) (by
      have : (l.setIfInBounds i true).getD i false = true := by simp [(getD_false_of hl).2]
      rw [this]; exact hst)
     exact hVk j (fun e => by subst e; rw [hj] at hlf; cases hlf) w w' u hr hu
    ·rw [if_neg hik] at hlc
     refine .inl (Oper.wp_mono (fun a' w' hk' => ?_) (hlc _ hs (fun js hbh => chained_listed h js i hwt hbh)))
     obtain ⟨v, rfl, hr, hv⟩ := hk'
     rw [hdst]
     exact ih _ _ _ hleft (h.step' trivial (fun _ => trivial) hd hb hl (fun j u _ hu => hV j w w' u hr hu) hwt hv) (by rw [hset hik]; exact hS _ _ _ hr hs)
 refine wp_region_any hm ?_
 refine go ops.size _ a0 _ ?_ ?_ ?_
 ·refine Nat.le_trans (List.length_filter_le _ _) ?_
  simp
 ·refine ⟨by simp, trivial, rfl, rfl, fun _ _ => rfl, ?_, ?_⟩
  ·intro i d h; exact absurd h (by simp [Array.getD])
  ·intro i j h; exact absurd h (by simp [Array.getD])
 ·have : (Array.replicate ops.size false).getD k false = false := by simp [Array.getD]
  rw [this]; exact hw
end
theorem ret_int {k : IntKind} {a b : Int} (h : a = b) : Ending.returned (.int k a) = .returned (.int k b) := by rw [h]
theorem i64_compl (n : Int) (h1 : -9223372036854775808 ≤ n) (h2 : n < 9223372036854775808) : bits .xor .i64 (-1) n = -n - 1 := by
 show IntKind.i64.wrap ((BitVec.ofInt 64 (-1) ^^^ BitVec.ofInt 64 n).toNat : Int) = _
 have e1 : BitVec.ofInt 64 (-1) = BitVec.allOnes 64 := by decide
 rw [e1, BitVec.allOnes_xor, BitVec.toNat_not, BitVec.toNat_ofInt, IntKind.wrap_i64]
 omega
theorem fold_any (n : Int) (h1 : -9223372036854775808 ≤ n) (h2 : n < 9223372036854775808) (w : World) :
  Calls Tryz.prog 143 #[.int .i64 n] w fun e w' => e = .returned (.int .u64 (zig n : Nat)) ∧ w = w' := by
 by_cases hn : n < 0
 ·have E : IntKind.u64.wrap (IntKind.u64.wrap (IntKind.u64.wrap (bits .xor .i64 (-1) n) * 2) + 1) = ((zig n : Nat) : Int) := by
   rw [i64_compl n h1 h2]
   simp only [IntKind.wrap_u64, zig, if_pos hn]
   omega
  have H := Hd E
  clear E
  go_enter Tryz.func143, Tryz.ntmps143
  go_wp2
  go_ret
  exact ⟨ret_int H.out, rfl⟩
 ·have E : n * 2 = ((zig n : Nat) : Int) := by unfold zig; rw [if_neg hn]; omega
  have H := Hd E
  clear E
  have h0 : 0 ≤ n := by omega
  go_enter Tryz.func143, Tryz.ntmps143
  go_wp2
  go_ret
  exact ⟨ret_int H.out, rfl⟩
theorem unfold_any (u : Nat) (h : u < 18446744073709551616) (w : World) :
  Calls Tryz.prog 165 #[.int .u64 u] w fun e w' => e = .returned (.int .i64 (zag u)) ∧ w = w' := by
 by_cases h1 : u % 2 = 1
 ·have E : bits .xor .i64 (-1) ((u : Int) / 2) = zag u := by
   rw [i64_compl _ (by omega) (by omega)]
   unfold zag; rw [if_pos h1]; omega
  have H := Hd E
  have ht : ((u : Int) % 2 == 1) = true := by simp; omega
  clear E h1
  go_enter Tryz.func165, Tryz.ntmps165
  go_wp2
  go_ret
  exact ⟨ret_int H.out, rfl⟩
 ·have E : ((u : Int) / 2) = zag u := by unfold zag; rw [if_neg h1]; omega
  have H := Hd E
  have ht : ((u : Int) % 2 == 1) = false := by simp; omega
  clear E h1
  go_enter Tryz.func165, Tryz.ntmps165
  go_wp2
  go_ret
  exact ⟨ret_int H.out, rfl⟩
theorem put_number (n : Int) (h1 : -9223372036854775808 ≤ n) (h2 : n < 9223372036854775808) (v : Value) (l : List UInt8) (base : Nat) (w : World) (hown : OwnB w base v l) (hbase : base ≤ w.heap.size)
  (hl : l.length ≤ 1099511627776) :
  Calls Tryz.prog 112 #[v, .int .i64 n] w fun e w' => ∃ v', e = .returned v' ∧ OwnB w' base v' (l ++ putZ n) ∧ Onto w v w' v' := by
 have hz := zig_lt n h1 h2
 have hp := putZ_len n h1 h2
 unfold putZ at hp ⊢
 go_enter Tryz.func112, Tryz.ntmps112
 go_wp2_with (go_at_call 143; ((with_reducible refine (fold_any n h1 h2 _).mono ?_); rintro e w' ⟨rfl, rfl⟩))
 generalize hzz : zig n = z at hz hp
 have HZ := Hd hzz
 clear hzz
 go_loopw [0, 5] (fun u f wr => ∃ (m : Nat) (p : List UInt8), m < 18446744073709551616 ∧ p ++ vin m = vin z ∧ f = .int .u64 (m : Nat) ∧ OwnB wr base u (l ++ p) ∧ Onto w v wr u) (fun _ f _ => (intOf f).toNat)
 case atStart => exact ⟨z, [], hz, rfl, rfl, by simpa using hown, Onto.refl _ _⟩
 case round =>
  obtain ⟨m, p, hm, hpz, rfl, ho, hto⟩ := hrel
  have hpl : p.length ≤ 10 := by
   have : (p ++ vin m).length = (vin z).length := by rw [hpz]
   rw [List.length_append] at this; omega
  have hws := hto.1.size
  have Hm := Hd hm
  have Hz := Hd hpz
  have Ho := Hd ho
  have Ht := Hd hto
  clear hm hpz ho hto hown hz hp h1 h2
  by_cases hs : m < 128
  ·have ht : decide ((128 : Int) ≤ (m : Int)) = false := by simp; omega
   have E : bcells (l ++ p) ++ [Value.int .u8 (m : Int)] = bcells ((l ++ p) ++ vin m) := by
    rw [bcells_append (l ++ p), vin_small m hs]
    simp only [bcells, bcell, List.map_cons, List.map_nil]
    rw [UInt8.toNat_ofNat', Nat.mod_eq_of_lt (by omega)]
   have HE := Hd E
   clear E
   go_wp2_with (at_builtin; refine byte_elem.list_append rfl (.tmp 19) (.tmp 22) _ rfl rfl (Ho.out.alloc _) rfl (src_one Tryz.underlying64 _ _ _ ?c1 _ ?c2 _) ?c3 ?c4 ?c5 ?_)
   case c1 => rfl
   case c2 => rfl
   case c3 => unfold maxLen; simp; omega
   case c4 => simp; omega
   case c5 => simp; omega
   intro v' w1 hown' hg hb
   rw [HE.out] at hown'
   have hto' : Onto w v w1 v' := (Ht.out.alloc _).grown hg (by simpa using hb)
   have hown2 : OwnB w1 base v' (l ++ vin z) := by
    rw [← Hz.out, ← List.append_assoc]
    unfold OwnB
    have el : ((l ++ p) ++ vin m).length = l.length + p.length + 1 := by simp [vin_small m hs]; omega
    rw [el]; exact hown'
   have H1 := Hd hto'
   have H2 := Hd hown2
   clear hto' hown2 hown' hg hb HE
   go_wp2
   go_ret
   exact ⟨_, rfl, by rw [HZ.out]; exact H2.out, H1.out⟩
  ·have ht : decide ((128 : Int) ≤ (m : Int)) = true := by simp; omega
   have E : bcells (l ++ p) ++ [Value.int .u8 ((m : Int) % 128 + 128)] = bcells (l ++ (p ++ [UInt8.ofNat (m % 128 + 128)])) := by
    rw [← List.append_assoc, bcells_append (l ++ p)]
    simp only [bcells, bcell, List.map_cons, List.map_nil]
    rw [UInt8.toNat_ofNat', Nat.mod_eq_of_lt (by omega)]; rfl
   have HE := Hd E
   clear E
   go_wp2_with (at_builtin; refine byte_elem.list_append rfl (.tmp 10) (.tmp 15) _ rfl rfl (Ho.out.alloc _) rfl (src_one Tryz.underlying64 _ _ _ ?c1 _ ?c2 _) ?c3 ?c4 ?c5 ?_)
   case c1 => rfl
   case c2 => rfl
   case c3 => unfold maxLen; simp; omega
   case c4 => simp; omega
   case c5 => simp; omega
   intro v' w1 hown' hg hb
   rw [HE.out] at hown'
   have hto' : Onto w v w1 v' := (Ht.out.alloc _).grown hg (by simpa using hb)
   have hown2 : OwnB w1 base v' (l ++ (p ++ [UInt8.ofNat (m % 128 + 128)])) := by
    unfold OwnB
    have el : (l ++ (p ++ [UInt8.ofNat (m % 128 + 128)])).length = l.length + p.length + 1 := by simp; omega
    rw [el]; exact hown'
   have H1 := Hd hto'
   have H2 := Hd hown2
   clear hto' hown2 hown' hg hb HE
   go_wp2
   go_roundw
   case rel =>
    refine ⟨m / 128, _, ?_, ?_, ?_, H2.out, H1.out⟩
    ·have := Hm.out; omega
    ·rw [List.append_assoc, List.singleton_append, ← vin_big m hs]; exact Hz.out
    ·rfl
   case measure => simp [intOf]; omega
end Go.Proofs.YticophaepapjoaaGreatDoor
