/-
  StKillsMath, IxPut, IxDrop, IxKeys: texts of mine, joined.
-/
import Derived.Test.YticophaepapjoaaGreatDoorAllA34
import Derived.Laws.OwnMore
import Derived.Test.YticophaepapjoaaGreatDoorAllA31
import Derived.Test.YticophaepapjoaaGreatDoorAllA03
namespace Go.Proofs.YticophaepapjoaaGreatDoor.storeKills
open Go Go.RowKit Go.Joins
def numS (n : Nat) : List FEnt := (List.range n).map fun i => fput (sItem i)
theorem numS_succ (n : Nat) : numS (n + 1) = numS n ++ [fput (sItem n)] := by
 unfold numS; rw [List.range_succ, List.map_append]; rfl
def gravesS (js : List Nat) : List FEnt := (js.map sname).map grave
theorem numS_last : ∀ (n i : Nat), n ≤ 100 → i < n → fLast (numS n) 0 (sname i) = some (sItem i)
 | 0, i, _, h => by omega
 | n + 1, i, hn, hi => by
  rw [numS_succ, fLast_snoc]
  show (if sname n = sname i then some (sItem n) else _) = _
  by_cases h : n = i
  ·subst h; rw [if_pos rfl]
  ·rw [if_neg fun e => h (sname_inj (by omega) (by omega) e)]
   exact numS_last n i (by omega) (by omega)
theorem fLast_graves (js : List Nat) (i : Nat) (hi : i ≤ 100) (hj : ∀ j ∈ js, j ≤ 100) : fLast (gravesS js) 0 (sname i) = if i ∈ js then some ⟨sname i, ⟨#[]⟩, 0, true⟩ else none := by
 have hmem : ∀ e ∈ ((gravesS js).drop 0).reverse, ∃ j ∈ js, e = grave (sname j) := fun e he => by
  rw [List.mem_reverse, List.drop_zero] at he
  obtain ⟨k, hk, rfl⟩ := List.mem_map.1 he
  obtain ⟨j, hj, rfl⟩ := List.mem_map.1 hk
  exact ⟨j, hj, rfl⟩
 unfold fLast
 by_cases h : i ∈ js
 ·rw [if_pos h]
  have hs : (((gravesS js).drop 0).reverse.find? (isKF (sname i))).isSome = true := by
   rw [List.find?_isSome]
   refine ⟨grave (sname i), ?_, isKF_iff.2 rfl⟩
   rw [List.mem_reverse, List.drop_zero]
   exact List.mem_map.2 ⟨_, List.mem_map.2 ⟨i, h, rfl⟩, rfl⟩
  obtain ⟨e, he⟩ := Option.isSome_iff_exists.1 hs
  obtain ⟨j, _, rfl⟩ := hmem e (List.mem_of_find?_eq_some he)
  have hk : sname j = sname i := isKF_iff.1 (List.find?_some he)
  rw [he]
  show some (⟨sname j, ⟨#[]⟩, 0, true⟩ : It) = _
  rw [hk]
 ·rw [if_neg h, Option.map_eq_none_iff, List.find?_eq_none]
  intro e he hk
  obtain ⟨j, hjs, rfl⟩ := hmem e he
  have : j = i := sname_inj (hj j hjs) hi (isKF_iff.1 hk)
  subst this
  exact h hjs
theorem fLast_S (n : Nat) (js : List Nat) (i : Nat) (hn : n ≤ 100) (hi : i < n) (hj : ∀ j ∈ js, j < n) : fLast (numS n ++ gravesS js) 0 (sname i) = if i ∈ js then some ⟨sname i, ⟨#[]⟩, 0, true⟩ else some (sItem i) := by
 rw [fLast_app, fLast_graves js i (by omega) fun j h => by have := hj j h; omega, numS_last n i hn hi]
 by_cases h : i ∈ js
 ·rw [if_pos h, if_pos h]; rfl
 ·rw [if_neg h, if_neg h]; rfl
theorem getE_S (pl sg a n : Nat) (js : List Nat) (i : Nat) (hn : n ≤ 100) (hi : i < n) (hj : ∀ j ∈ js, j < n) :
  getE ⟨pl, sg, numS n ++ gravesS js, 0, a⟩ (sname i) 0 = if i ∈ js then .returned (.tuple #[.agg #[.string ⟨#[]⟩, .string ⟨#[]⟩, .int .i64 0, .bool false], .bool false]) else .returned (.tuple #[.agg #[.string (sname i), .string sV, .int .i64 0, .bool false], .bool true]) := by
 have hl : (sItem i).live 0 = true := by
  unfold It.live
  rw [sItem_may i]
  rfl
 have ha : (⟨pl, sg, numS n ++ gravesS js, 0, a⟩ : FSt).at_ (sname i) = if i ∈ js then none else some (sItem i) := by
  unfold FSt.at_
  show (fLast (numS n ++ gravesS js) 0 (sname i)).bind _ = _
  rw [fLast_S n js i hn hi hj]
  by_cases h : i ∈ js
  ·rw [if_pos h, if_pos h]; rfl
  ·rw [if_neg h, if_neg h]; rfl
 unfold getE
 rw [ha]
 by_cases h : i ∈ js
 ·rw [if_pos h, if_pos h]
 ·rw [if_neg h, if_neg h]
  show (if (sItem i).live 0 = true then _ else _) = _
  rw [if_pos hl]
  rfl
theorem numS_cost : ∀ n : Nat, fcosts (numS n) = n * 83
 | 0 => rfl
 | n + 1 => by
  have h : sV.size = 1 := by decide
  rw [numS_succ, fcosts_append, numS_cost n]
  have : fcosts [fput (sItem n)] = 83 := by simp [fcosts, FEnt.cost, fput, sItem, sname_size, h]
  rw [this, Nat.add_mul]
theorem graves_cost (js : List Nat) : fcosts (gravesS js) = js.length * 82 := by
 induction js with
 | nil => rfl
 | cons j js ih =>
  have : fcosts (gravesS (j :: js)) = (grave (sname j)).cost + fcosts (gravesS js) := by simp [fcosts, gravesS]
  rw [this, ih]
  have : (grave (sname j)).cost = 82 := by simp [FEnt.cost, grave, sname_size]; rfl
  rw [this, List.length_cons]
  omega
theorem cost_S (n : Nat) (js : List Nat) (hn : n ≤ 10) (hj : js.length ≤ 5) : fcosts (numS n ++ gravesS js) ≤ 200 * (segsOf 400 - 2) := by
 rw [fcosts_append, numS_cost, graves_cost]
 have : segsOf 400 = 29 := by decide
 rw [this]
 omega
theorem names_ok (js : List Nat) : ∀ k ∈ js.map sname, keyOk k := fun k hk => by
 obtain ⟨j, _, rfl⟩ := List.mem_map.1 hk
 exact ⟨by rw [sname_size]; decide, by rw [sname_size]; decide⟩
theorem rem_run {o : Oper} {ρ : Operand → Value} {w : World} {x y : Operand} {z t N : Int} (h1 : 1 ≤ N) (h2 : N ≤ 12) (hz : z.tmod N = t) (_h3 : -12 ≤ t) (_h4 : t ≤ 12) (ho : o.op = .binOp .rem 3 x y 3) (hx : ρ x = .int .i64 z) (hy : ρ y = .int .i64 N) : (execOp ρ o).run Tryz.prog w = .ok (.value (.int .i64 t)) w := by
 have hn : ¬ N = 0 := by omega
 unfold execOp
 rw [ho]
 go_simp
theorem list_rem {ops : Array Oper} {rest : List Oper} {o : Oper} {a : Act} {w : World} {Q : Exit → Act → World → Prop} (hgd : o.guard = none) (x y : Operand) (z N t : Int) (ho : o.op = .binOp .rem 3 x y 3) (hx : a.eval x = .int .i64 z) (hy : a.eval y = .int .i64 N)
  (h1 : 1 ≤ N) (h2 : N ≤ 12) (hz : z.tmod N = t) (h3 : -12 ≤ t) (h4 : t ≤ 12) (hK : wpList Tryz.prog ops Q rest (a.put o.dst (.int .i64 t)) w) : wpList Tryz.prog ops Q (o :: rest) a w :=
 wpList_plain hgd fun _ hh => by
  unfold Oper.wp
  rw [rem_run h1 h2 hz h3 h4 ho hx hy]
  exact hh _ _ hK
theorem bool_elem : Elem Tryz.prog 41 4 (.bool false) 1 1 := ⟨Tryz.underlying41, by kernel_rfl, rfl, by decide⟩
theorem str_elem : Elem Tryz.prog 30 9 (.string ⟨#[]⟩) 1 16 := ⟨Tryz.underlying30, by kernel_rfl, rfl, by decide⟩
def goneL (n : Nat) (js : List Nat) : List Value := (List.range n).map fun i => Value.bool (decide (i ∈ js))
def nameL (js : List Nat) : List Value := js.map fun j => Value.string (sname j)
theorem nameL_is (js : List Nat) : (js.map sname).map Value.string = nameL js := by simp [nameL]
theorem nameL_snoc (js : List Nat) (k : Nat) : nameL (js ++ [k]) = nameL js ++ [.string (sname k)] := by simp [nameL]
theorem made_gone (n : Nat) : (madeCells (Value.bool false).cells (n * 1)).toList = goneL n [] := by
 have e : goneL n [] = List.replicate n (Value.bool false) := by
  unfold goneL
  rw [List.eq_replicate_iff]
  exact ⟨by simp, fun v hv => by obtain ⟨i, _, rfl⟩ := List.mem_map.1 hv; simp⟩
 rw [e, List.eq_replicate_iff]
 refine ⟨by rw [Array.length_toList, size_madeCells, Nat.mul_one], fun v hv => ?_⟩
 unfold madeCells at hv
 rw [Array.toList_map] at hv
 obtain ⟨i, _, rfl⟩ := List.mem_map.1 hv
 have hz : (Value.bool false).cells = #[Value.bool false] := rfl
 rw [hz]
 have : i % (#[Value.bool false] : Array Value).size = 0 := Nat.mod_one i
 simp [Nat.mod_one]
theorem so_apart {S : FlashOK} {J : JournalOK} {W w w' : World} {p b q1 q2 k n d g : Nat} {z : Sto} (h : StAt S J W w p b q1 q2 k z n d (fun x => g ≤ x ∧ x < w.heap.size)) (hk : Keeps (fun c => c < g) w w') (hg : W.heap.size ≤ g) : StAt S J W w' p b q1 q2 k z n d (fun x => g ≤ x ∧ x < w'.heap.size) := by
 have h0 := h.own hk fun c hc hn => ⟨⟨by omega, hc⟩, by omega⟩
 obtain ⟨q3, wh, F, Fc, Fj, Fs, s, h1, h2, h3, h4, h5⟩ := h
 have hR : ∀ {R : Foot}, Apart R (efoot b (fun x => g ≤ x ∧ x < w.heap.size)) → (∀ c, R.all c → c < w.heap.size) → ∀ c, R.all c → c < g := fun ha hlt c hc => Classical.byContradiction fun hn => ha.r c (.inr ⟨by omega, hlt c hc⟩) hc
 have hb : b < g := Classical.byContradiction fun hn => h4 ⟨by omega, h2.lt⟩
 have hE : ∀ {R : Foot}, Apart R (efoot b (fun x => g ≤ x ∧ x < w.heap.size)) → (∀ c, R.all c → c < w.heap.size) → Apart R (efoot b (fun x => g ≤ x ∧ x < w'.heap.size)) := fun ha hlt => by
  refine ⟨fun c hc he => ?_, fun c hc hr => ?_⟩
  ·have := hR ha hlt c (.inl hc)
   rcases efoot_all.1 he with rfl | hx
   ·exact ha.l c hc (efoot_all.2 (.inl rfl))
   ·omega
  ·have := hR ha hlt c hr
   rcases hc with rfl | hx
   ·exact ha.r c (.inl rfl) hr
   ·omega
 have hkW := h0.kp
 have hF := hR h1.e1 h1.dv.d.lt
 have hFk := hR h1.e4 h1.klt
 have hs := hk.size
 refine ⟨q3, wh, F, Fc, Fj, Fs, s, { h1 with fc := S.keep h1.fc (hk.mono fun c _ hc => hR h1.e2 (S.lt h1.fc) c hc), jr := J.keep h1.jr (hk.mono fun c _ hc => hR h1.e3 (J.lt h1.jr) c hc), kp := ?_, e1 := hE h1.e1 h1.dv.d.lt, e2 := hE h1.e2 (S.lt h1.fc), e3 := hE h1.e3 (J.lt h1.jr), e4 := hE h1.e4 h1.klt, elt := fun c hc => ?_ }, h2.keep hk hb, h3, fun hx => by omega, h5⟩
 ·exact h1.kp.over rfl ⟨h1.dv.d.keep (hk.mono fun c _ hc => hF c hc), h1.dv.gd, hkW⟩ h1.a3 (hk.mono fun c _ hc => hFk c hc) rfl fun _ _ => rfl
 ·rcases efoot_all.1 hc with e | hx
  ·rw [e]; have := h2.lt; omega
  ·exact hx.2
structure Sit (S : FlashOK) (J : JournalOK) (W w : World) (p b q1 q2 kk : Nat) (z : Sto) (d B g n : Nat) (js ks : List Nat) (A : Option Addr) (c : Nat) : Prop where
 fo : StAt S J W w p b q1 q2 kk z 400 d (fun x => g ≤ x ∧ x < w.heap.size)
 gone : w.ownsRow g 4 1 (.slice (some ⟨g, 0, none⟩) n n) n (goneL n js)
 l : w.ownsRow B 9 1 (.slice A ks.length c) ks.length (nameL ks)
 lo : W.heap.size ≤ g
 mid : g < B
 hi : B ≤ w.heap.size
section
variable {S : FlashOK} {J : JournalOK} {W w w' : World} {p b q1 q2 kk d : Nat} {z : Sto} {B g n : Nat} {js ks : List Nat} {A : Option Addr} {c : Nat}
theorem Sit.keep (h : Sit S J W w p b q1 q2 kk z d B g n js ks A c) (hk : Kp w w') : Sit S J W w' p b q1 q2 kk z d B g n js ks A c :=
 ⟨so_apart h.fo (hk.mono fun _ _ _ => trivial) h.lo, hk.own h.gone fun _ _ => trivial, hk.own h.l fun _ _ => trivial, h.lo, h.mid, Nat.le_trans h.hi hk.size⟩
theorem Sit.at_ (h : Sit S J W w p b q1 q2 kk z d B g n js ks A c) {j : Nat} (hj : j < n) : w.cell? ⟨g, j, none⟩ = some (.bool (decide (j ∈ js))) := by
 refine (h.gone.cellAt j (by omega)).trans ?_
 simp [goneL, hj]
theorem Sit.store (h : Sit S J W w p b q1 q2 kk z d B g n js ks A c) (k : Nat) : Sit S J W (w.setCell ⟨g, k, none⟩ (.bool true)) p b q1 q2 kk z d B g n (js ++ [k]) ks A c := by
 have hs : (w.setCell ⟨g, k, none⟩ (.bool true)).heap.size = w.heap.size := by simp
 refine ⟨so_apart h.fo ((Keeps.refl _ w).setCell (.inr (by show ¬ g < g; omega)) _) h.lo, ?_, ?_, h.lo, h.mid, by rw [hs]; exact h.hi⟩
 ·have e : goneL n (js ++ [k]) = (goneL n js).set k (.bool true) := by
   refine List.ext_getElem (by simp [goneL]) fun i h1 h2 => ?_
   rw [List.getElem_set]
   by_cases hij : k = i
   ·subst hij; simp [goneL]
   ·simp [goneL, hij, Ne.symm hij]
  rw [e]
  exact (h.gone.stored k _).1
 ·refine (Keeps.setCell (F := fun b => b ≠ g) (Keeps.refl _ w) (.inr (by simp)) _).own h.l fun b hb => ?_
  have h1 := (h.l.lt b hb).1
  have := h.mid
  omega
theorem Sit.app (h : Sit S J W w p b q1 q2 kk z d B g n js ks A c) {k : Nat} {v' : Value} (hown : w'.ownsRow B 9 1 v' (ks.length + 1) (nameL ks ++ [.string (sname k)])) (hg : w.grownBy w' (Value.slice A ks.length c).ownBlock) :
  ∃ A' c', v' = .slice A' (ks.length + 1) c' ∧ Sit S J W w' p b q1 q2 kk z d B g n js (ks ++ [k]) A' c' := by
 obtain ⟨g6, c6, rfl, -, -⟩ := hown.form (by omega)
 have hkG : Keeps (fun b => b < B) w w' := Keeps.of_grown hg fun b hb _ hlt => by
  have h1 := (h.l.lt b hb).1
  omega
 refine ⟨_, _, rfl, so_apart h.fo (hkG.mono fun b _ hb => by have := h.mid; omega) h.lo, hkG.own h.gone fun b hb => ?_, ?_, h.lo, h.mid, Nat.le_trans h.hi hkG.size⟩
 ·have : b = g := by simpa [Value.ownBlock] using hb.symm
  rw [this]
  exact h.mid
 ·rw [nameL_snoc, List.length_append]
  exact hown
theorem Sit.row (h : Sit S J W w p b q1 q2 kk z d B g n js ks A c) : Row w A (fun b => g ≤ b ∧ b < w.heap.size) ((ks.map sname).map Value.string) ∧ ks.length ≤ c ∧ c ≤ maxLen := by
 have hl := h.l
 refine ⟨?_, ?_⟩
 ·have e : ks.length = (nameL ks).length := by simp [nameL]
  rw [e] at hl
  rw [nameL_is]
  exact (Row.of_own hl).mono fun b _ hb => ⟨by have := h.mid; omega, hb.2⟩
 ·rcases hl.2 with ⟨h', h0⟩ | ⟨g', cap', cur, h', _, _, h1, h2, _⟩
  ·injection h' with _ h3 h4
   subst h4
   exact ⟨by omega, Nat.zero_le _⟩
  ·injection h' with _ _ h'
   subst h'
   exact ⟨h1, h2⟩
end
def GoneAt (w : World) (g n : Nat) (js : List Nat) : Prop := ∀ i, i < n → w.cell? ⟨g, i, none⟩ = some (.bool (decide (i ∈ js)))
theorem GoneAt.keep {w w' : World} {g n : Nat} {js : List Nat} {X : Nat → Prop} (h : GoneAt w g n js) (hk : Keeps X w w') (hX : X g) : GoneAt w' g n js := fun i hi => hk.cell (h i hi) hX
end Go.Proofs.YticophaepapjoaaGreatDoor.storeKills
namespace Go.Proofs.YticophaepapjoaaGreatDoor
open Go Go.RowKit Go.Joins
section
variable {w w' W : World} {q g n c i : Nat} {T : Tab} {st : IxSt} {k : ByteArray} {p : Int} {A : Option Addr}
theorem TabAt.place (h : TabAt w g n T) (hi : i < n) (hf : (T i).full = true) (p : Int) : TabAt (w.setCell ⟨g, i * 4 + 2, none⟩ (.int .i64 p)) g n (setT T i ⟨(T i).key, (T i).hash, p, true⟩) := by
 refine ⟨fun m hm => ?_, fun m => ?_, by simpa using h.lt⟩
 ·by_cases e : m = i * 4 + 2
  ·subst e
   rw [World.cell?_setCell_same _ _ _ (h.c2 hi), tabV, if_neg (by omega), if_neg (by omega), if_pos (by omega), show (i * 4 + 2) / 4 = i by omega, setT_at]
  ·rw [World.cell?_setCell_other _ _ _ _ (fun e2 => e (by injection e2 with _ e2; exact e2.symm)), h.cell m hm]
   unfold tabV
   by_cases e4 : m / 4 = i
   ·rw [e4, setT_at]
    by_cases e0 : m % 4 = 0
    ·rw [if_pos e0, if_pos e0]
    ·by_cases e1 : m % 4 = 1
     ·rw [if_neg e0, if_neg e0, if_pos e1, if_pos e1]
     ·have e2 : ¬ m % 4 = 2 := by omega
      rw [if_neg e0, if_neg e0, if_neg e1, if_neg e1, if_neg e2, if_neg e2, hf]
   ·rw [setT_ne _ _ e4]
 ·rw [World.frozen?_setCell]; exact h.ice m
theorem ixPut_len (st : IxSt) (k : ByteArray) (p : Int) (v : Int) (hv : ixGet st k = some v) : (ixPut st k p).length = st.length := by
 have hl := congrArg List.length (ixPut_keys st k p (by rw [hv]; rfl))
 rwa [List.length_map, List.length_map] at hl
theorem step_of {B : Option Addr} (hk : Keeps (fun b => ¬ (ixFoot q A).M b) w w') (hB : ∀ g, B = some ⟨g, 0, none⟩ → A = some ⟨g, 0, none⟩ ∨ w.heap.size ≤ g) : Step (ixFoot q A) (ixFoot q B) w w' := by
 refine ⟨hk, ?_, fun b hb => hb.elim⟩
 rintro b (rfl | hb)
 ·exact .inl (.inl rfl)
 ·rcases hB b hb with h | h
  ·exact .inl (.inr h)
  ·exact .inr h
end
set_option maxRecDepth 100000 in
set_option maxHeartbeats 1000000 in
theorem ixput_any (w : World) (q : Nat) (F : Foot) (st : IxSt) (hR : IxRep w q F st) (hl : st.length ≤ 32768) (k : ByteArray) (p : Int) (hk : k.size ≤ 1000000) (hp : i64 p) :
  Calls Tryz.prog 108 #[.pointer (some ⟨q, 0, none⟩), .string k, .int .i64 p] w fun e w' => e = .returned (.int .i64 ((ixGet st k).getD 0)) ∧ ∃ F' : Foot, IxRep w' q F' (ixPut st k p) ∧ Step F F' w w' := by
 obtain ⟨A, n, T, rfl, hR⟩ := hR
 have hn := hR.n
 have hn1 : n ≤ 1099511627776 := by omega
 obtain ⟨w1, hw1⟩ : ∃ w1, w.alloc (.cells #[.string k] 9) = w1 := ⟨_, rfl⟩
 have hk1 : Kp w w1 := by rw [← hw1]; exact (Keeps.refl _ w).alloc _
 have hR1 := hR.keep (hk1.mono fun _ _ _ => trivial)
 have hc : w1.cell? ⟨w.heap.size, 0, none⟩ = some (.string k) := by rw [← hw1]; exact (cell_of_block (heap_alloc_new w _) 0).trans rfl
 have HH := Lib.hid (hash_any k w.heap.size w1 hk hc)
 have HF := Lib.hid (find_s w1 q A n st.length T st hR1.s hR1.ok (fun h => (hR1.zero h).1) hn1 k)
 have HFIT := Lib.hid (fit_any w1 q A n st.length T st hR1.s hR1.ok (fun h => (hR1.zero h).1) rfl hR1.i hn1 (by omega))
 have HR := Lib.hid hR1
 have HW1 := Lib.hid hw1
 have HK1 := Lib.hid hk1
 have HADD := Lib.hid (fun (w2 : World) (g n' : Nat) (T' : Tab) (hA : IxAt w2 q g n' st.length T') (hT : TabOk hashN T' n' st) (hno : ixGet st k = none) (h1 : st.length + 1 < n') (h2 : n' ≤ 8 * (st.length + 1)) => add_any w2 q g n' st.length T' st hA hT (by omega) (by omega) k p hno h1)
 have HP := Lib.hid hp
 have hks : k.size ≤ 281474976710656 := by omega
 clear hR hw1 hk1 hR1 hc hn hp
 generalize hX : hashN k = X at HH HF HADD
 clear hX
 go_enter Tryz.func108, Tryz.ntmps108
 go_wp2_with fail
 rw [HW1.out]
 refine (show Calls _ _ _ _ _ from HH.out).mono ?_
 rintro e w2 ⟨rfl, hw2⟩
 have hw2 := hw2.symm
 subst hw2
 go_wp2_with fail
 refine (show Calls _ _ _ _ _ from HF.out).mono ?_
 rintro e w3 ⟨hw3, (⟨i, hi, hf, hkey, rfl⟩ | ⟨hno, rfl⟩)⟩
 ·have hw3 := hw3.symm
  subst hw3
  obtain ⟨g, rfl, hA⟩ := HR.out.g (by omega)
  have c0 := hA.blk.c0
  have c2 := hA.tab.c2 hi
  have tf := hA.tab.ice
  have hg := get_val HR.out hi hf hkey
  have HV := Lib.hid hg
  have hst : IxRepAt (w1.setCell ⟨g, i * 4 + 2, none⟩ (.int .i64 p)) q (some ⟨g, 0, none⟩) n (setT T i ⟨(T i).key, (T i).hash, p, true⟩) (ixPut st k p) := by
   have hlen := ixPut_len st k p _ hg
   refine ⟨⟨?_, fun _ => ⟨g, rfl, hA.tab.place hi hf p, hA.ne⟩⟩, fun h0 => ?_, fun h0 => by omega, ixPut_i64 HR.out.i HP.out, by rw [hlen]; exact HR.out.n⟩
   ·rw [hlen]
    exact hA.blk.keep ((Keeps.refl (fun b => b ≠ g) w1).setCell (p := ⟨g, i * 4 + 2, none⟩) (.inr fun e => e rfl) _) (fun e => hA.ne e.symm)
   ·have := (HR.out.ok h0).again hi hf p
    rwa [hkey] at this ⊢
  have HS := Lib.hid hst
  have HKK := Lib.hid (show Keeps (fun b => ¬ (ixFoot q (some ⟨g, 0, none⟩)).M b) w (w1.setCell ⟨g, i * 4 + 2, none⟩ (.int .i64 p)) from (HK1.out.mono fun _ _ _ => trivial).setCell (p := ⟨g, i * 4 + 2, none⟩) (.inr fun e => e (.inr rfl)) _)
  clear hA hf hkey hst hg
  generalize (T i).pos = P at c2 HV
  go_wp2_with fail
  go_ret
  rw [HV.out]
  exact ⟨rfl, _, ⟨_, _, _, rfl, HS.out⟩, step_of HKK.out fun g' hg' => .inl hg'⟩
 ·have hw3 := hw3.symm
  subst hw3
  have HV := Lib.hid hno
  clear hno
  go_wp2_with fail
  refine (show Calls _ _ _ _ _ from HFIT.out).mono ?_
  rintro e w2 ⟨rfl, g, n', T', hA, hT, h1, h2, h3, hk2⟩
  have HA := Lib.hid hA
  have HT := Lib.hid hT
  have H3 := Lib.hid h3
  have HK2 := Lib.hid hk2
  clear hA hT h3 hk2 HFIT HF
  go_wp2_with fail
  refine (show Calls _ _ _ _ _ from sclone_any k w2 hks).mono ?_
  rintro e w3 ⟨rfl, hk3⟩
  have HA3 := Lib.hid (HA.out.keep hk3 trivial trivial)
  have HK3 := Lib.hid hk3
  clear hk3
  go_wp2_with fail
  refine (show Calls _ _ _ _ _ from HADD.out w3 g n' T' HA3.out HT.out HV.out h1 h2).mono ?_
  rintro e w4 ⟨rfl, T4, hA4, hT4, hk4⟩
  have HS := Lib.hid (show IxRepAt w4 q (some ⟨g, 0, none⟩) n' T4 (ixPut st k p) from by
   rw [ixPut_new HV.out]
   refine ⟨⟨?_, fun _ => ⟨g, rfl, hA4.tab, hA4.ne⟩⟩, fun _ => hT4, fun h0 => by omega, fun x hx => ?_, ?_⟩
   ·rw [List.length_append]; exact hA4.blk
   ·rcases List.mem_append.1 hx with h | h
    ·exact HR.out.i x h
    ·simp at h; subst h; exact HP.out
   ·rw [List.length_append, List.length_cons, List.length_nil]; omega)
  have HSTEP := Lib.hid (show Step (ixFoot q A) (ixFoot q (some ⟨g, 0, none⟩)) w w4 from by
   refine step_of ?_ fun g' hg' => ?_
   ·have k12 : Keeps (fun b => b ≠ q) w w2 := (HK1.out.mono fun _ _ _ => trivial).trans HK2.out
    have k13 : Keeps (fun b => b ≠ q) w w3 := k12.trans (HK3.out.mono fun _ _ _ => trivial)
    refine ⟨hk4.os.trans k13.os, hk4.tape.trans k13.tape, hk4.output.trans k13.output, Nat.le_trans k13.size hk4.size, fun b hb hlt => ?_⟩
    have hbq : b ≠ q := fun e => hb (.inl e)
    refine (hk4.block b ⟨hbq, fun e => ?_⟩ (Nat.lt_of_lt_of_le hlt k13.size)).trans (k13.block b hbq hlt)
    rcases H3.out with h | h
    ·exact hb (.inr (by rw [e]; exact h))
    ·have := HK1.out.size; omega
   ·injection hg' with hg'
    injection hg' with hg'
    subst hg'
    rcases H3.out with h | h
    ·exact .inl h
    ·exact .inr (Nat.le_trans HK1.out.size h))
  clear hA4 hT4 hk4 HADD
  go_wp2_with fail
  go_ret
  rw [HV.out]
  exact ⟨rfl, _, ⟨_, _, _, rfl, HS.out⟩, HSTEP.out⟩
theorem ixDrop_len {st : IxSt} {k : ByteArray} {v : Int} (hnd : (st.map (·.1)).Nodup) (hg : ixGet st k = some v) : (ixDrop st k).length + 1 = st.length := by
 induction st with
 | nil => cases hg
 | cons a st ih =>
  by_cases h : a.1 = k
  ·obtain ⟨a1, a2⟩ := a
   have h : a1 = k := h
   subst h
   rw [ixDrop_cons hnd]; rfl
  ·have hg' : ixGet st k = some v := by
    unfold ixGet at hg ⊢
    rw [List.find?_cons, isK_not.2 h] at hg
    exact hg
   rw [List.map_cons, List.nodup_cons] at hnd
   have e : ixDrop (a :: st) k = a :: ixDrop st k := by
    unfold ixDrop
    rw [List.filter_cons, isK_not.2 h]
    rfl
   rw [e, List.length_cons, ih hnd.2 hg', List.length_cons]
theorem ixBelow_same {st : IxSt} {p : Int} (h : (ixBelow st p).length = st.length) : ixBelow st p = st := by
 unfold ixBelow at h ⊢
 exact List.Sublist.eq_of_length List.filter_sublist h
theorem ixBelow_le (st : IxSt) (p : Int) : (ixBelow st p).length ≤ st.length := List.length_filter_le _ _
set_option maxRecDepth 100000 in
set_option maxHeartbeats 1000000 in
theorem ixdrop_any (w : World) (q : Nat) (F : Foot) (st : IxSt) (hR : IxRep w q F st) (hl : st.length ≤ 32768) (k : ByteArray) (hk : k.size ≤ 1000000) :
  Calls Tryz.prog 107 #[.pointer (some ⟨q, 0, none⟩), .string k] w fun e w' => e = .returned (.bool (ixGet st k).isSome) ∧ ∃ F' : Foot, IxRep w' q F' (ixDrop st k) ∧ Step F F' w w' := by
 obtain ⟨A, n, T, rfl, hR⟩ := hR
 have hn := hR.n
 have hn1 : n ≤ 1099511627776 := by omega
 obtain ⟨w1, hw1⟩ : ∃ w1, w.alloc (.cells #[.string k] 9) = w1 := ⟨_, rfl⟩
 have hk1 : Kp w w1 := by rw [← hw1]; exact (Keeps.refl _ w).alloc _
 have hR1 := hR.keep (hk1.mono fun _ _ _ => trivial)
 have hc : w1.cell? ⟨w.heap.size, 0, none⟩ = some (.string k) := by rw [← hw1]; exact (cell_of_block (heap_alloc_new w _) 0).trans rfl
 have HH := Lib.hid (hash_any k w.heap.size w1 hk hc)
 have HF := Lib.hid (find_s w1 q A n st.length T st hR1.s hR1.ok (fun h => (hR1.zero h).1) hn1 k)
 have HR := Lib.hid hR1
 have HW1 := Lib.hid hw1
 have HK1 := Lib.hid hk1
 clear hR hw1 hk1 hR1 hc
 generalize hX : hashN k = X at HH HF
 clear hX
 go_enter Tryz.func107, Tryz.ntmps107
 go_wp2_with fail
 rw [HW1.out]
 refine (show Calls _ _ _ _ _ from HH.out).mono ?_
 rintro e w2 ⟨rfl, hw2⟩
 have hw2 := hw2.symm
 subst hw2
 go_wp2_with fail
 refine (show Calls _ _ _ _ _ from HF.out).mono ?_
 rintro e w3 ⟨hw3, (⟨i, hi, hf, hkey, rfl⟩ | ⟨hno, rfl⟩)⟩
 ·have hw3 := hw3.symm
  subst hw3
  obtain ⟨g, rfl, hA⟩ := HR.out.g (by omega)
  have hg := get_val HR.out hi hf hkey
  have HV := Lib.hid hg
  have hdl := ixDrop_len HR.out.nd hg
  obtain ⟨c, hc⟩ : ∃ c, (ixDrop st k).length = c := ⟨_, rfl⟩
  rw [hc] at hdl
  have HE := Lib.hid (empty_any w1 q g n c T st (by rw [hdl]; exact hA) (HR.out.ok (by omega)) hn1 (by omega) i hi hf)
  rw [hkey] at HE
  have HC := Lib.hid hc
  clear hA hf hkey hg hc
  go_wp2_with fail
  refine (show Calls _ _ _ _ _ from HE.out).mono ?_
  rintro e w4 ⟨rfl, T4, hA4, hT4, hk4⟩
  have HFIT := Lib.hid (fit_any w4 q (some ⟨g, 0, none⟩) n c T4 (ixDrop st k) hA4.s (fun _ => hT4) (fun h => by omega) HC.out.symm (ixDrop_i64 HR.out.i) hn1 (by omega))
  have HK4 := Lib.hid hk4
  clear hA4 hT4 hk4 HE
  go_wp2_with fail
  refine (show Calls _ _ _ _ _ from HFIT.out).mono ?_
  rintro e w5 ⟨rfl, g5, n5, T5, hA5, hT5, h1, h2, h3, hk5⟩
  have HS := Lib.hid (show IxRepAt w5 q (some ⟨g5, 0, none⟩) n5 T5 (ixDrop st k) from
   ⟨⟨by rw [HC.out]; exact hA5.blk, fun _ => ⟨g5, rfl, hA5.tab, hA5.ne⟩⟩, fun _ => hT5, fun h0 => by omega, ixDrop_i64 HR.out.i, by rw [HC.out]; omega⟩)
  have HSTEP := Lib.hid (show Step (ixFoot q (some ⟨g, 0, none⟩)) (ixFoot q (some ⟨g5, 0, none⟩)) w w5 from by
   refine step_of ?_ fun g' hg' => ?_
   ·have k14 : Keeps (Off q g) w w4 := (HK1.out.mono fun _ _ _ => trivial).trans HK4.out
    have k15 : Keeps (Off q g) w w5 := k14.trans (hk5.mono fun _ _ h => h.1)
    exact k15.mono fun b _ hb => ⟨fun e => hb (.inl e), fun e => hb (.inr (by rw [e]))⟩
   ·injection hg' with hg'
    injection hg' with hg'
    subst hg'
    rcases h3 with h | h
    ·exact .inl h
    ·exact .inr (Nat.le_trans (Nat.le_trans HK1.out.size HK4.out.size) h))
  clear hA5 hT5 h3 hk5 HFIT
  go_wp2_with fail
  go_ret
  rw [HV.out]
  exact ⟨rfl, _, ⟨_, _, _, rfl, HS.out⟩, HSTEP.out⟩
 ·have hw3 := hw3.symm
  subst hw3
  have HV := Lib.hid hno
  clear hno
  go_wp2_with fail
  go_ret
  have e : ixDrop st k = st := by
   unfold ixDrop
   rw [List.filter_eq_self]
   intro x hx
   rw [isK_not.2 (ixGet_none.1 HV.out x hx)]
   rfl
  rw [HV.out, e]
  exact ⟨rfl, _, ⟨_, _, _, rfl, HR.out⟩, step_of (HK1.out.mono fun _ _ _ => trivial) fun g' hg' => .inl hg'⟩
set_option maxRecDepth 100000 in
set_option maxHeartbeats 1000000 in
theorem ixbelow_any (w : World) (q : Nat) (F : Foot) (st : IxSt) (hR : IxRep w q F st) (hl : st.length ≤ 32768) (p : Int) (_hp : i64 p) :
  Calls Tryz.prog 73 #[.pointer (some ⟨q, 0, none⟩), .int .i64 p] w fun e w' => e = .returned (.int .i64 ((st.length - (ixBelow st p).length : Nat) : Int)) ∧ ∃ F' : Foot, IxRep w' q F' (ixBelow st p) ∧ Step F F' w w' := by
 obtain ⟨A, n, T, rfl, hR⟩ := hR
 have hn := hR.n
 have hq := hR.s.blk.lt
 have HFR := Lib.hid (from_any w q A n st.length T hR.s (by omega) p)
 have hall : (∀ s ∈ fromL T p n, s.full = true ∧ s.hash = (hashN s.key : Int)) ∧ (((fromL T p n).map kv).map (·.1)).Nodup ∧ ((fromL T p n).map kv).Perm (ixBelow st p) := by
  rcases Nat.eq_zero_or_pos n with h0 | h0
  ·subst h0
   rw [tab_nil, (hR.zero rfl).1]
   exact ⟨fun s hs => absurd hs (List.not_mem_nil), List.nodup_nil, List.Perm.refl _⟩
  ·exact from_ok (hR.ok h0) p
 have hlen : (fromL T p n).length = (ixBelow st p).length := by
  have := hall.2.2.length_eq
  rwa [List.length_map] at this
 have hle := ixBelow_le st p
 have HLAY := Lib.hid (show ∀ (w1 : World) (B : Option Addr) (k : Nat), Kp w w1 → w1.ownsRow w.heap.size 126 4 (.slice B (fromL T p n).length k) (fromL T p n).length (slC (fromL T p n)) →
   Calls Tryz.prog 109 #[.pointer (some ⟨q, 0, none⟩), .slice B (fromL T p n).length k] w1 fun e w' => e = .returned (.tuple #[]) ∧ ∃ F' : Foot, IxRep w' q F' (ixBelow st p) ∧ Step (ixFoot q A) F' w w' from fun w1 B k hk ho => by
  refine (lay_any w1 q _ st.length (hR.s.blk.keep hk trivial) B k _ ((SlsAt.of_own ho rfl).mono fun b _ hb => ?_) (by omega) hall.1 hall.2.1).mono ?_
  ·have := hb.1; omega
  ·rintro e w' ⟨rfl, g', n', T', h1, h2, h3, h4, h5, h6⟩
   rw [hlen] at h1 h3 h4
   refine ⟨rfl, _, ⟨some ⟨g', 0, none⟩, n', T', rfl, ⟨⟨h1.blk, fun _ => ⟨g', rfl, h1.tab, h1.ne⟩⟩, fun _ => h2.of_perm hall.2.2, fun h0 => by omega, ixBelow_i64 hR.i, by omega⟩⟩, step_of ?_ fun g2 hg2 => ?_⟩
   ·exact ((hk.mono fun _ _ _ => trivial).trans h6).mono fun b _ hb e => hb (.inl e)
   ·injection hg2 with hg2
    injection hg2 with hg2
    subst hg2
    exact .inr (Nat.le_trans hk.size h5))
 have HSAME := Lib.hid (show (ixBelow st p).length = st.length → ∀ w1, Kp w w1 → ∃ F' : Foot, IxRep w1 q F' (ixBelow st p) ∧ Step (ixFoot q A) F' w w1 from fun h w1 hk => by
  rw [ixBelow_same h]
  exact ⟨_, ⟨A, n, T, rfl, hR.keep (hk.mono fun _ _ _ => trivial)⟩, step_of (hk.mono fun _ _ _ => trivial) fun g' hg' => .inl hg'⟩)
 have HBLK := Lib.hid hR.s.blk
 obtain ⟨m, hm⟩ : ∃ m, (ixBelow st p).length = m := ⟨_, rfl⟩
 obtain ⟨c, hc⟩ : ∃ c, st.length = c := ⟨_, rfl⟩
 rw [hlen] at HFR HLAY
 rw [hm] at HFR HLAY hle HSAME ⊢
 rw [hc] at hle hl HSAME HBLK ⊢
 have hcast : ((c - m : Nat) : Int) = (c : Int) - (m : Int) := by omega
 clear hR hall hlen hm hc hn
 go_enter Tryz.func73, Tryz.ntmps73
 go_wp2_with fail
 refine (show Calls _ _ _ _ _ from HFR.out).mono ?_
 rintro e w1 ⟨B, k, rfl, ho, hk⟩
 have c1 := (HBLK.out.keep hk trivial).c1
 have HK := Lib.hid hk
 have HO := Lib.hid ho
 clear hk ho
 by_cases hgt : m < c
 ·have hd : decide ((0 : Int) < (c : Int) - (m : Int)) = true := by rw [decide_eq_true_eq]; omega
  go_wp2_with fail
  refine (show Calls _ _ _ _ _ from HLAY.out w1 B k HK.out HO.out).mono ?_
  rintro e w2 ⟨rfl, hfin⟩
  have HFIN := Lib.hid hfin
  clear hfin
  go_wp2_with fail
  go_ret
  rw [hcast]
  exact ⟨rfl, HFIN.out⟩
 ·obtain rfl : m = c := by omega
  have hd : decide ((0 : Int) < (m : Int) - (m : Int)) = false := by rw [decide_eq_false_iff_not]; omega
  go_wp2_with fail
  go_ret
  rw [hcast]
  refine ⟨?_, HSAME.out trivial w1 HK.out⟩
  simp
def theIndex : IndexOK where
 T := fun _ => True
 tk := fun _ _ => trivial
 rep := IxRep
 lt := fun h => h.lt
 keep := fun h hk => h.keep hk
 new := fun w _ => ixnew_any w
 put := fun _ w q F st hR _ _ _ hl k p hk hp => ixput_any w q F st hR hl k p hk hp
 get := fun w q F st hR _ hl k hk => ixget_any w q F st hR hl k hk
 drop := fun _ w q F st hR _ _ _ hl k hk => ixdrop_any w q F st hR hl k hk
 below := fun _ w q F st hR _ _ _ hl p hp => ixbelow_any w q F st hR hl p hp
end Go.Proofs.YticophaepapjoaaGreatDoor
