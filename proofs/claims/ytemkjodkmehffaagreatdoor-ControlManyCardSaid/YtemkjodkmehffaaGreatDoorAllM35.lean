/-
  InvOrd, InvSeq, InvKn, Open: texts of mine, joined.
-/
import Derived.Test.YtemkjodkmehffaaGreatDoorAllM01
import Derived.Test.YtemkjodkmehffaaGreatDoorAllM12
import Derived.Deep.Fields
namespace Go.Proofs.YtemkjodkmehffaaGreatDoor
open Go Go.RowKit
def GO (gs : List (Nat × Option Bool)) (g : Nat) : Option Bool := match gs.lookup g with | some b => b | none => none
theorem GO_mem {gs : List (Nat × Option Bool)} {g : Nat} {c : Option Bool} (h : gs.lookup g = some c) : (g, c) ∈ gs := by
 induction gs with
 | nil => cases h
 | cons p l ih =>
  obtain ⟨a, b⟩ := p
  simp only [List.lookup_cons] at h
  split at h
  ·rename_i e; cases h; rw [eq_of_beq e]; exact List.mem_cons_self
  ·exact List.mem_cons_of_mem _ (ih h)
def fitsD (G : Nat → Option Bool) (dup : List Nat) (ops : Array Oper) (n : Nat) : Bool :=
 (List.range ops.size).all fun i => (ops[i]?).all fun o => (match o.guard with | none => true | some (g, _) => waits ops i g && (dstOf ops g).isSome && ((G g).isSome || (ops[g]?).any fun o' => !wantsG G o')) && (o.after.all fun e => !Region.binds .any e || decide (e.on < i)) && (o.dst.all fun d => decide (d < n)) &&
  (List.range ops.size).all fun j => i == j || o.dst.isNone || dstOf ops j != o.dst || dup.contains (min i j)
section
variable {P : Program} {ops : Array Oper} {Q : Exit → Act → World → Prop} {R : World → World → Prop} {V : Nat → World → Value → Prop} {a0 : Act} {w0 : World} {G : Nat → Option Bool}
theorem StandsAt.stepD (hR : ∀ a b c, R a b → R b c → R a c) (hV : ∀ i w w' v, R w w' → V i w v → V i w' v)
  (hb : ∀ i d, dstOf ops i = some d → d < a0.tmps.size)
  {l : Array Bool} {a : Act} {w w' : World} {i : Nat} {v : Value} (hd : ∀ k d, l.getD k false = true → dstOf ops k = some d → dstOf ops i = some d → ∀ w v, V k w v) (h : StandsAt R V ops a0 w0 l a w) (hl : l.getD i true = false)
  (hw : ∀ j, waits ops i j = true → l.getD j false = true) (hr : R w w') (hv : V i w' v) :
  StandsAt R V ops a0 w0 (l.setIfInBounds i true) (a.put (dstOf ops i) v) w' := by
 have hi := (getD_false_of hl).2
 have hset : (l.setIfInBounds i true).getD i false = true := by simp [hi]
 refine ⟨by simp [h.size], hR _ _ _ h.rel hr, ?_, ?_, ?_, ?_, ?_⟩
 ·cases hx : dstOf ops i <;> simp [Act.put, h.defers]
 ·cases hx : dstOf ops i <;> simp [Act.put, h.tmps]
 ·intro t ht
  have old := h.old t fun k hk => ht k (getD_set_true hk)
  cases hx : dstOf ops i with
  | none => exact old
  | some d =>
   rw [getD_put (by rw [h.tmps]; exact hb i d hx), if_neg (fun e => ht i hset (by rw [hx, e]))]
   exact old
 ·intro k d hk hkd
  by_cases hki : k = i
  ·subst hki
   rw [hkd, getD_put (by rw [h.tmps]; exact hb k d hkd), if_pos rfl]
   exact hv
  ·have hlk := getD_true_set hk hki
   have hval := hV k w w' _ hr (h.val k d hlk hkd)
   cases hx : dstOf ops i with
   | none => exact hval
   | some d' =>
    rw [getD_put (by rw [h.tmps]; exact hb i d' hx)]
    split
    ·rename_i e
     exact hd k d hlk hkd (by rw [hx, e]) _ _
    ·exact hval
 ·intro k j hk hkj
  by_cases hki : k = i
  ·subst hki; exact getD_set_true (hw j hkj)
  ·exact getD_set_true (h.down k j (getD_true_set hk hki) hkj)
theorem wpOps_invD (hRr : ∀ w, R w w) (hR : ∀ a b c, R a b → R b c → R a c) (hV : ∀ i w w' v, R w w' → V i w v → V i w' v)
  (hd : ∀ i j d, i < j → dstOf ops i = some d → dstOf ops j = some d → ∀ w v, V i w v) (hb : ∀ i d, dstOf ops i = some d → d < a0.tmps.size)
  (hg : ∀ (i : Nat) (o : Oper), ops[i]? = some o → ∀ g b, o.guard = some (g, b) → waits ops i g = true ∧ (dstOf ops g).isSome = true ∧ ((G g).isSome = true ∨ ∃ o', ops[g]? = some o' ∧ wantsG G o' = false)) (hG : ∀ g c, G g = some c → ∀ w v, V g w v → v = .bool c)
  (hU : ∀ (i : Nat) (o : Oper), ops[i]? = some o → wantsG G o = false → V i = IsV undef) (hac : ∀ i j, waits ops i j = true → j < i)
  (loc : ∀ (i : Nat) (o : Oper), ops[i]? = some o → wantsG G o = true → ∀ a w, Leans R V ops a0 w0 i a w → o.wp P a w (fun a' w' => ∃ v, a' = a.put o.dst v ∧ R w w' ∧ V i w' v) Q)
  (done : ∀ l a w, (∀ i, i < ops.size → l.getD i false = true) → StandsAt R V ops a0 w0 l a w → Q .normal a w) :
  ∀ (n k : Nat) (l : Array Bool) (a : Act) (w : World), k + n = ops.size → (∀ i, l.getD i false = true ↔ i < k) → StandsAt R V ops a0 w0 l a w → wpOps P ops Q (List.range' k n) a w := by
 intro n
 induction n with
 | zero => intro k l a w hk hl h; exact done l a w (fun i hi => (hl i).2 (by omega)) h
 | succ n ih =>
  intro k l a w hk hl h
  have hks : k < ops.size := by omega
  have ho : ops[k]? = some ops[k] := by simp [hks]
  generalize ops[k] = o at ho
  have hsz : k < l.size := by rw [h.size]; exact hks
  have hlk : l.getD k true = false := by
   have h1 : ¬ l.getD k false = true := fun e => absurd ((hl k).1 e) (by omega)
   simp only [Array.getD, hsz, dif_pos] at h1 ⊢
   simpa using h1
  have hw : ∀ j, waits ops k j = true → l.getD j false = true := fun j hj => (hl j).2 (hac k j hj)
  have hdst : o.dst = dstOf ops k := by simp [dstOf, ho]
  have hl' : ∀ i, (l.setIfInBounds k true).getD i false = true ↔ i < k + 1 := fun i => by
   by_cases hik : i = k
   ·subst hik; simp [hsz]
   ·rw [getD_set_ne false (Ne.symm hik), hl i]; omega
  have hdk : ∀ j d, l.getD j false = true → dstOf ops j = some d → dstOf ops k = some d → ∀ w v, V j w v := fun j d hj h1 h2 => hd j k d ((hl j).1 hj) h1 h2
  have hwant := wanted_is (h.leans hlk hw) (fun j d hj => by rw [h.tmps]; exact hb j d hj) (hg k o ho) hG hU
  rw [List.range'_succ]
  unfold wpOps
  cases hwo : wantsG G o
  ·rw [hwo] at hwant
   simp only [ho, hwant, Bool.false_eq_true, if_false]
   rw [hdst]
   exact ih (k + 1) _ _ _ (by omega) hl' (h.stepD hR hV hb hdk hlk hw (hRr w) (by rw [hU k o ho hwo]; rfl))
  ·rw [hwo] at hwant
   simp only [ho, hwant, if_true]
   refine .inl (Oper.wp_mono (fun a' w' hk2 => ?_) (loc k o ho hwo a w (h.leans hlk hw)))
   obtain ⟨v, rfl, hr, hv⟩ := hk2
   rw [hdst]
   exact ih (k + 1) _ _ _ (by omega) hl' (h.stepD hR hV hb hdk hlk hw hr hv)
theorem wp_region_seq {id : Nat} {w : World} (G : Nat → Option Bool) (dup : List Nat) (hRr : ∀ w, R w w) (hR : ∀ a b c, R a b → R b c → R a c) (hV : ∀ i w w' v, R w w' → V i w v → V i w' v)
  (hfit : fitsD G dup ops a0.tmps.size = true) (hdup : ∀ i ∈ dup, ∀ w v, V i w v) (hG : ∀ g c, G g = some c → ∀ w v, V g w v → v = .bool c) (hU : ∀ (i : Nat) (o : Oper), ops[i]? = some o → wantsG G o = false → V i = IsV undef) (hw : R w0 w)
  (loc : ∀ (i : Nat) (o : Oper), ops[i]? = some o → wantsG G o = true → ∀ a w, Leans R V ops a0 w0 i a w → o.wp P a w (fun a' w' => ∃ v, a' = a.put o.dst v ∧ R w w' ∧ V i w' v) Q)
  (done : ∀ a w, R w0 w → a.defers = a0.defers → a.tmps.size = a0.tmps.size → (∀ i d, dstOf ops i = some d → V i w (a.tmps.getD d undef)) → Q .normal a w) :
  (Code.region id ops false).wp P Q a0 w := by
 have look : ∀ (i : Nat) (o : Oper), ops[i]? = some o → (∀ g b, o.guard = some (g, b) → waits ops i g = true ∧ (dstOf ops g).isSome = true ∧ ((G g).isSome = true ∨ ∃ o', ops[g]? = some o' ∧ wantsG G o' = false)) ∧ (∀ e ∈ o.after, Region.binds .any e = true → e.on < i) ∧ (∀ d, o.dst = some d → d < a0.tmps.size) ∧ (∀ j, i ≠ j → ∀ d, o.dst = some d → dstOf ops j = some d → min i j ∈ dup) := by
  intro i o ho
  have hi : i < ops.size := (Array.getElem?_eq_some_iff.1 ho).1
  have h := List.all_eq_true.1 hfit i (List.mem_range.2 hi)
  simp only [ho, Option.all_some, Bool.and_eq_true] at h
  obtain ⟨⟨⟨h1, h2⟩, h3⟩, h4⟩ := h
  refine ⟨fun g b hgb => ?_, fun e he hb => ?_, fun d hd => ?_, fun j hj d hd hx => ?_⟩
  ·rw [hgb] at h1
   simp only [Bool.and_eq_true, Bool.or_eq_true] at h1
   refine ⟨h1.1.1, h1.1.2, h1.2.imp (fun hx => hx) fun hx => ?_⟩
   cases ho' : ops[g]? with
   | none => rw [ho'] at hx; cases hx
   | some o' =>
    rw [ho'] at hx
    exact ⟨o', rfl, by simpa using hx⟩
  ·have := Array.all_eq_true_iff_forall_mem.1 h2 e he
   simpa [hb] using this
  ·rw [hd] at h3; simpa using h3
  ·have hjs : j < ops.size := by
    rcases Nat.lt_or_ge j ops.size with h' | h'
    ·exact h'
    ·simp [dstOf, Array.getElem?_eq_none h'] at hx
   have := List.all_eq_true.1 h4 j (List.mem_range.2 hjs)
   rw [hd, hx] at this
   simpa [hj] using this
 have some_of : ∀ i d, dstOf ops i = some d → ∃ o, ops[i]? = some o ∧ o.dst = some d := fun i d h => by
  unfold dstOf at h
  cases ho : ops[i]? with
  | none => simp [ho] at h
  | some o => exact ⟨o, rfl, by simpa [ho] using h⟩
 refine wp_region ?_
 rw [List.range_eq_range']
 refine wpOps_invD (R := R) (V := V) (a0 := a0) (w0 := w0) (G := G) hRr hR hV ?_ ?_ (fun i o ho => (look i o ho).1) hG hU ?_ loc ?_ ops.size 0 (Array.replicate ops.size false) a0 _ (by omega) ?_ ?_
 ·intro i j d hij hi hj
  obtain ⟨o, ho, hd⟩ := some_of i d hi
  have := (look i o ho).2.2.2 j (by omega) d hd hj
  rw [Nat.min_eq_left (by omega)] at this
  exact hdup i this
 ·intro i d hi
  obtain ⟨o, ho, hd⟩ := some_of i d hi
  exact (look i o ho).2.2.1 d hd
 ·intro i j h
  obtain ⟨o, ho, e, he, hb, rfl⟩ := (waits_iff i j).1 h
  exact (look i o ho).2.1 e he hb
 ·intro l a w' hall h
  exact done a w' h.rel h.defers h.tmps fun i d hid => by
   obtain ⟨o, ho, hd⟩ := some_of i d hid
   have hi : i < ops.size := (Array.getElem?_eq_some_iff.1 ho).1
   exact h.val i d (hall i hi) hid
 ·intro i
  simp [Array.getD]
 ·refine ⟨by simp, hw, rfl, rfl, fun _ _ => rfl, ?_, ?_⟩
  ·intro i d h; exact absurd h (by simp [Array.getD])
  ·intro i j h; exact absurd h (by simp [Array.getD])
end
theorem results_slot {P : Program} {fn : Func} {t : Tmp} {v : Value} {tmps : Array Value} {w : World} (h : fn.results = #[.tmp t]) (hp : tmps.getD t undef = v) : (results fn tmps).run P w = .ok v w := by
 have hp2 : tmps[t]?.getD undef = v := by simpa [Array.getD_eq_getD_getElem?] using hp
 simp [results, h, hp2]
inductive Kn where
 | is (v : Value)
 | row (xs : List Value)
 | own (base : Nat) (e : TypeId) (n : Nat) (xs : List Value)
 | any
def Kn.V : Kn → World → Value → Prop
 | .is x => IsV x
 | .row xs => fun w v => ∃ B, v = .slice (some ⟨B, 0, none⟩) xs.length xs.length ∧ Row w (some ⟨B, 0, none⟩) (fun _ => True) xs
 | .own base e n xs => fun w v => w.ownsRow base e 1 v n xs
 | .any => fun _ _ => True
theorem Kn.keep {k : Kn} {w w' : World} {v : Value} (h : Kp w w') (hv : k.V w v) : k.V w' v := by
 cases k with
 | is x => exact hv
 | row xs =>
  obtain ⟨B, e, hr⟩ := hv
  exact ⟨B, e, hr.keep h⟩
 | own base e n xs => exact h.own hv fun _ _ => trivial
 | any => trivial
def KnV (vs : List Kn) (i : Nat) : World → Value → Prop := (vs.getD i (.is undef)).V
theorem KnV_keep (vs : List Kn) : ∀ i w w' v, Kp w w' → KnV vs i w v → KnV vs i w' v := fun _ _ _ _ h hv => Kn.keep h hv
theorem KnV_is {gs : List (Nat × Option Bool)} {vs : List Kn} (h : ∀ p ∈ gs, ∀ c, p.2 = some c → vs.getD p.1 (.is undef) = .is (.bool c)) : ∀ g c, GO gs g = some c → ∀ w v, KnV vs g w v → v = .bool c := fun g c hc w v hv => by
 unfold GO at hc
 cases hl : gs.lookup g with
 | none => rw [hl] at hc; cases hc
 | some b =>
  rw [hl] at hc
  unfold KnV at hv
  rw [show vs.getD g (.is undef) = .is (.bool c) from h _ (GO_mem hl) c hc] at hv
  exact hv
section
variable {P : Program} {ops : Array Oper} {Q : Exit → Act → World → Prop} {a0 : Act} {w : World} {id : Nat} (vs : List Kn) (gs : List (Nat × Option Bool))
theorem wp_region_kn (dup : List Nat) (hfit : fitsD (GO gs) dup ops a0.tmps.size = true) (hdup : ∀ i ∈ dup, vs.getD i (.is undef) = .any) (hG : ∀ p ∈ gs, ∀ c, p.2 = some c → vs.getD p.1 (.is undef) = .is (.bool c))
  (hU : ∀ (i : Nat) (o : Oper), ops[i]? = some o → wantsG (GO gs) o = false → vs.getD i (.is undef) = .is undef)
  (loc : ∀ (i : Nat) (o : Oper), ops[i]? = some o → wantsG (GO gs) o = true → ∀ a w1, Leans Kp (KnV vs) ops a0 w i a w1 → o.wp P a w1 (fun a' w' => ∃ v, a' = a.put o.dst v ∧ Kp w1 w' ∧ (vs.getD i (.is undef)).V w' v) Q)
  (done : ∀ a w', Kp w w' → a.defers = a0.defers → a.tmps.size = a0.tmps.size → (∀ i d, dstOf ops i = some d → (vs.getD i (.is undef)).V w' (a.tmps.getD d undef)) → Q .normal a w') : (Code.region id ops false).wp P Q a0 w :=
 wp_region_seq (R := Kp) (V := KnV vs) (w0 := w) (GO gs) dup (fun w => Keeps.refl _ w) (fun _ _ _ h k => h.trans k) (KnV_keep vs) hfit (fun i hi w v => by unfold KnV; rw [hdup i hi]; trivial) (KnV_is hG) (fun i o ho hw => by unfold KnV; rw [hU i o ho hw]; rfl) (Keeps.refl _ _) loc done
end
section
variable {P : Program} {o : Oper} {a : Act} {w : World} {Q : Exit → Act → World → Prop} {x y z : Operand}
theorem kq_and {p q r : Bool} (h : (p && q) = r) (ho : o.op = .pick x y z) (hx : IsV (.bool p) w (a.eval x)) (hy : (cond p (Kn.is (.bool q)) (Kn.is undef)).V w (a.eval y)) (hz : a.eval z = .bool false) :
  o.wp P a w (fun a' w' => ∃ v', a' = a.put o.dst v' ∧ Kp w w' ∧ IsV (.bool r) w' v') Q := by
 subst h
 refine kp_pick ho hx ?_
 cases p
 ·exact hz
 ·exact hy
theorem kq_or {p q r : Bool} (h : (p || q) = r) (ho : o.op = .pick x y z) (hx : IsV (.bool p) w (a.eval x)) (hy : a.eval y = .bool true) (hz : (cond p (Kn.is undef) (Kn.is (.bool q))).V w (a.eval z)) :
  o.wp P a w (fun a' w' => ∃ v', a' = a.put o.dst v' ∧ Kp w w' ∧ IsV (.bool r) w' v') Q := by
 subst h
 refine kp_pick ho hx ?_
 cases p
 ·exact hz
 ·exact hy
theorem kq_bool {p q : Bool} (h : p = q) (ho : o.op = .move x) (hx : IsV (.bool p) w (a.eval x)) : o.wp P a w (fun a' w' => ∃ v', a' = a.put o.dst v' ∧ Kp w w' ∧ IsV (.bool q) w' v') Q := kp_move ho (by subst h; exact hx)
theorem kq_set {v : Value} (ho : o.op = .assign x) (hx : IsV v w (a.eval x)) : o.wp P a w (fun a' w' => ∃ v', a' = a.put o.dst v' ∧ Kp w w' ∧ IsV v w' v') Q := kp_assign ho hx
end
end Go.Proofs.YtemkjodkmehffaaGreatDoor
namespace Go.Proofs.YtemkjodkmehffaaGreatDoor
open Go Go.ChangeShapes Go.WideShapes Go.ChangeAt Go.RowKit Go.Deep
section
variable {H : Type} {enc : TypeId × Value → H} {P : Program} {W : World}
theorem open_list {α : Type} [Inhabited α] (val : α → Value) (good : α → Prop) {t e : TypeId} {fuel : Nat} {cs : List Value} {x : DataW H × List MemPlace} (ht : P.underlying t = some (.slice e)) (ce : P.cellsOf e = 1)
  (hel : ∀ n v y, DataW.trod enc P W 0 (fun _ => true) true n e [v] = some y → ∃ a, v = val a ∧ good a) (hf : DataW.trod enc P W 0 (fun _ => true) true fuel t cs = some x) :
  ∃ (A : Option Addr) (cap : Nat) (l : List α), cs = [.slice A l.length cap] ∧ l.length ≤ cap ∧ cap ≤ maxLen ∧ (A = none → cap = 0) ∧ Row W A (fun b => b < W.heap.size) (l.map val) ∧ ∀ a ∈ l, good a := by
 rcases open_slice1 ht ce hf with ⟨hcs, _⟩ | ⟨ad, len, cap, m, fu, V, D, Pl, hcs, _, hl, hm, hmm, _, hcell⟩
 ·exact ⟨none, 0, [], hcs, Nat.le_refl _, Nat.zero_le _, (fun _ => rfl), Row.nil _ _ _, by simp⟩
 ·simp only [if_true] at hmm
  subst hmm
  obtain ⟨f, hpf⟩ := choose_lt (n := len) (p := fun i a => V i = val a ∧ good a) fun i hi => hel fu (V i) _ (hcell i (by omega)).2
  refine ⟨some ad, m, (List.range len).map f, by simpa using hcs, by simpa using hl, hm, (fun h => by cases h), (fun hne => ?_), fun a ha => ?_⟩
  ·have hpos : 0 < len := by
    rcases Nat.eq_zero_or_pos len with h0 | h0
    ·subst h0; simp at hne
    ·exact h0
   obtain ⟨b, off, spot⟩ := ad
   have hspot : spot = none := by simpa [Addr.add] using World.cell?_spot (hcell 0 (by omega)).1
   subst hspot
   have h0 := (hcell 0 (by omega)).1
   rw [add_plain] at h0
   refine ⟨b, off, rfl, World.block_lt_of_cell? W _ h0, fun i v hv => ?_⟩
   have hi : i < len := by
    have := (List.getElem?_eq_some_iff.1 hv).1
    simpa using this
   rw [List.getElem?_map, List.getElem?_map, List.getElem?_range hi] at hv
   simp only [Option.map_some, Option.some.injEq] at hv
   have hc := (hcell i (by omega)).1
   rw [add_plain, (hpf i hi).1] at hc
   rw [hc, hv]
  ·obtain ⟨j, hj, rfl⟩ := List.mem_map.1 ha
   exact (hpf j (List.mem_range.1 hj)).2
theorem open_bools {t e : TypeId} {fuel : Nat} {cs : List Value} {x : DataW H × List MemPlace} (ht : P.underlying t = some (.slice e)) (he : P.underlying e = some .bool) (ce : P.cellsOf e = 1) (hf : DataW.trod enc P W 0 (fun _ => true) true fuel t cs = some x) :
  ∃ (A : Option Addr) (cap : Nat) (l : List Bool), cs = [.slice A l.length cap] ∧ l.length ≤ cap ∧ cap ≤ maxLen ∧ (A = none → cap = 0) ∧ Row W A (fun b => b < W.heap.size) (l.map Value.bool) := by
 obtain ⟨A, cap, l, h1, h2, h3, h4, h5, _⟩ := open_list (α := Bool) Value.bool (fun _ => True) ht ce (fun n v y h => by
  obtain ⟨b, hb, _⟩ := DataW.trod_bool he h
  exact ⟨b, (List.cons.inj hb).1, trivial⟩) hf
 exact ⟨A, cap, l, h1, h2, h3, h4, h5⟩
theorem open_bools_whole {t e : TypeId} {v : Value} {d : DataW H} {ps : List MemPlace} {base : Nat} (ht : P.underlying t = some (.slice e)) (he : P.underlying e = some .bool) (ce : P.cellsOf e = 1)
  (hok : Value.okWide P W .any base t v) (h : DataW.Trod enc P W 0 (fun _ => true) true t v d ps) :
  ∃ (A : Option Addr) (cap : Nat) (l : List Bool), v = .slice A l.length cap ∧ l.length ≤ cap ∧ cap ≤ maxLen ∧ (A = none → cap = 0) ∧ Row W A (fun b => b < W.heap.size) (l.map Value.bool) := by
 obtain ⟨a, len, cap, rfl⟩ := okWide_slice ht hok
 obtain ⟨fuel, hf⟩ := h
 obtain ⟨A, c, l, hcs, h1, h2, h3, h4⟩ := open_bools ht he ce hf
 simp [Value.cells] at hcs
 obtain ⟨rfl, rfl, rfl⟩ := hcs
 exact ⟨_, _, l, rfl, h1, h2, h3, h4⟩
end
end Go.Proofs.YtemkjodkmehffaaGreatDoor
