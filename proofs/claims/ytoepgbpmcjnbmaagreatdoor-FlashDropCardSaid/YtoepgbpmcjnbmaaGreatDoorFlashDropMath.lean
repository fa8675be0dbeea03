/-
  FlashDrop: entries put, some of their keys taken away; the rows beside the cache.
-/
import Derived.Test.YtoepgbpmcjnbmaaGreatDoorFlashLocs
import Derived.Laws.OwnMore
namespace Go.Proofs.YtoepgbpmcjnbmaaGreatDoor.flashDrop
open Go Go.RowKit Go.Joins
def valD (_ : Nat) : ByteArray := ⟨#[118]⟩
theorem valD_size (i : Nat) : (valD i).size = 1 := rfl
def itD (i : Nat) : It := ⟨fname i, valD i, 0, false⟩
def stD (n g a : Nat) : FSt := ⟨0, 50, numbered valD n, g, a⟩
def gravesD (js : List Nat) : List FEnt := (js.map fname).map grave
theorem fLast_x {l r : List FEnt} (h : l.map (·.x) = r.map (·.x)) (g : Nat) (k : ByteArray) : fLast l g k = fLast r g k := by
  have key : ∀ l : List FEnt, fLast l g k = ((l.map (·.x)).drop g).reverse.find? (fun x => x.key.data.toList == k.data.toList) := fun l => by
    unfold fLast
    rw [← List.map_drop, ← List.map_reverse, List.find?_map]
    rfl
  rw [key, key, h]
theorem fopened_x : ∀ l : List FEnt, (fopened l).map (·.x) = l.map (·.x)
  | [] => rfl
  | [_] => rfl
  | e :: f :: l => by
    show e.x :: (fopened (f :: l)).map (·.x) = e.x :: (f :: l).map (·.x)
    rw [fopened_x (f :: l)]
theorem fLast_graves (js : List Nat) (i : Nat) (hi : i ≤ 1000) (hj : ∀ j ∈ js, j ≤ 1000) : fLast (gravesD js) 0 (fname i) = if i ∈ js then some ⟨fname i, ⟨#[]⟩, 0, true⟩ else none := by
  have hmem : ∀ e ∈ ((gravesD js).drop 0).reverse, ∃ j ∈ js, e = grave (fname j) := fun e he => by
    rw [List.mem_reverse, List.drop_zero] at he
    obtain ⟨k, hk, rfl⟩ := List.mem_map.1 he
    obtain ⟨j, hj, rfl⟩ := List.mem_map.1 hk
    exact ⟨j, hj, rfl⟩
  unfold fLast
  by_cases h : i ∈ js
  · rw [if_pos h]
    have hs : (((gravesD js).drop 0).reverse.find? (isKF (fname i))).isSome = true := by
      rw [List.find?_isSome]
      refine ⟨grave (fname i), ?_, isKF_iff.2 rfl⟩
      rw [List.mem_reverse, List.drop_zero]
      exact List.mem_map.2 ⟨_, List.mem_map.2 ⟨i, h, rfl⟩, rfl⟩
    obtain ⟨e, he⟩ := Option.isSome_iff_exists.1 hs
    obtain ⟨j, _, rfl⟩ := hmem e (List.mem_of_find?_eq_some he)
    have hk : fname j = fname i := isKF_iff.1 (List.find?_some he)
    rw [he]
    show some (⟨fname j, ⟨#[]⟩, 0, true⟩ : It) = _
    rw [hk]
  · rw [if_neg h, Option.map_eq_none_iff, List.find?_eq_none]
    intro e he hk
    obtain ⟨j, hjs, rfl⟩ := hmem e he
    have : j = i := fname_inj (hj j hjs) hi (isKF_iff.1 hk)
    subst this
    exact h hjs
theorem fLast_D (n : Nat) (js : List Nat) (i : Nat) (hn : n ≤ 1000) (hi : i < n) (hj : ∀ j ∈ js, j < n) : fLast (numbered valD n ++ gravesD js) 0 (fname i) = if i ∈ js then some ⟨fname i, ⟨#[]⟩, 0, true⟩ else some (itD i) := by
  rw [fLast_app, fLast_graves js i (by omega) fun j h => by have := hj j h; omega, numbered_last valD n 0 i hn hi]
  by_cases h : i ∈ js
  · rw [if_pos h, if_pos h]; rfl
  · rw [if_neg h, if_neg h]; rfl
theorem getE_D {E : List FEnt} (n : Nat) (js : List Nat) (i a : Nat) (hE : E.map (·.x) = (numbered valD n ++ gravesD js).map (·.x)) (hn : n ≤ 1000) (hi : i < n) (hj : ∀ j ∈ js, j < n) :
    getE ⟨0, 50, E, 0, a⟩ (fname i) 0 = if i ∈ js then .returned (.tuple #[.agg #[.string ⟨#[]⟩, .string ⟨#[]⟩, .int .i64 0, .bool false], .bool false]) else .returned (.tuple #[.agg #[.string (fname i), .string (valD i), .int .i64 0, .bool false], .bool true]) := by
  have hm : (itD i).may = true := num_may valD (fun j => by rw [valD_size]; decide) i
  have hl : (itD i).live 0 = true := by
    unfold It.live
    rw [hm]
    rfl
  have ha : (⟨0, 50, E, 0, a⟩ : FSt).at_ (fname i) = if i ∈ js then none else some (itD i) := by
    unfold FSt.at_
    show (fLast E 0 (fname i)).bind _ = _
    rw [fLast_x hE, fLast_D n js i hn hi hj]
    by_cases h : i ∈ js
    · rw [if_pos h, if_pos h]; rfl
    · rw [if_neg h, if_neg h]; rfl
  unfold getE
  rw [ha]
  by_cases h : i ∈ js
  · rw [if_pos h, if_pos h]
  · rw [if_neg h, if_neg h]
    show (if (itD i).live 0 = true then _ else _) = _
    rw [if_pos hl]
    rfl
theorem cost_D (n : Nat) (js : List Nat) (hn : n ≤ 12) (hj : js.length ≤ 6) : fcosts (numbered valD n ++ gravesD js) ≤ 200 * (50 - 2) := by
  have h1 := numbered_cost valD 1 valD_size n 0 (Nat.zero_le _)
  rw [List.drop_zero] at h1
  have h2 : fcosts (gravesD js) = js.length * 83 := by
    induction js with
    | nil => rfl
    | cons j js ih =>
      have : fcosts (gravesD (j :: js)) = (grave (fname j)).cost + fcosts (gravesD js) := by simp [fcosts, gravesD]
      rw [this, ih (by simp at hj; omega)]
      have : (grave (fname j)).cost = 83 := by simp [FEnt.cost, grave, fname_size]; rfl
      rw [this, List.length_cons]
      omega
  rw [fcosts_append, h1, h2]
  omega
theorem graves_ok (js : List Nat) : ∀ k ∈ js.map fname, keyOk k := fun k hk => by
  obtain ⟨j, _, rfl⟩ := List.mem_map.1 hk
  exact ⟨by rw [fname_size]; decide, by rw [fname_size]; decide⟩
theorem rem_run {o : Oper} {ρ : Operand → Value} {w : World} {x y : Operand} {z t N : Int} (h1 : 1 ≤ N) (h2 : N ≤ 12) (hz : z.tmod N = t) (_h3 : -12 ≤ t) (_h4 : t ≤ 12) (ho : o.op = .binOp .rem 3 x y 3) (hx : ρ x = .int .i64 z) (hy : ρ y = .int .i64 N) : (execOp ρ o).run Tryz.prog w = .ok (.value (.int .i64 t)) w := by
  have hn : ¬ N = 0 := by omega
  unfold execOp
  rw [ho]
  go_simp
theorem list_rem {ops : Array Oper} {rest : List Oper} {o : Oper} {a : Act} {w : World} {Q : Exit → Act → World → Prop} (hgd : o.guard = none) (x y : Operand) (z N t : Int) (ho : o.op = .binOp .rem 3 x y 3) (hx : a.eval x = .int .i64 z) (hy : a.eval y = .int .i64 N)
    (h1 : 1 ≤ N) (h2 : N ≤ 12) (hz : z.tmod N = t) (h3 : -12 ≤ t) (h4 : t ≤ 12) (hK : wpList Tryz.prog ops Q rest (a.put o.dst (.int .i64 t)) w) : wpList Tryz.prog ops Q (o :: rest) a w :=
  wpList_plain hgd fun _ hh => by
    unfold Oper.wp
    rw [rem_run h1 h2 hz h3 h4 ho hx hy]
    exact hh _ _ hK
theorem bool_elem : Elem Tryz.prog 36 4 (.bool false) 1 1 := ⟨Tryz.underlying36, by kernel_rfl, rfl, by decide⟩
theorem str_elem : Elem Tryz.prog 46 9 (.string ⟨#[]⟩) 1 16 := ⟨Tryz.underlying46, by kernel_rfl, rfl, by decide⟩
def goneL (n : Nat) (js : List Nat) : List Value := (List.range n).map fun i => Value.bool (decide (i ∈ js))
def nameL (js : List Nat) : List Value := js.map fun j => Value.string (fname j)
theorem nameL_is (js : List Nat) : (js.map fname).map Value.string = nameL js := by simp [nameL]
theorem nameL_snoc (js : List Nat) (k : Nat) : nameL (js ++ [k]) = nameL js ++ [.string (fname k)] := by simp [nameL]
theorem made_gone (n : Nat) : (madeCells (Value.bool false).cells (n * 1)).toList = goneL n [] := by
  have e : goneL n [] = List.replicate n (Value.bool false) := by
    unfold goneL
    rw [List.eq_replicate_iff]
    exact ⟨by simp, fun v hv => by obtain ⟨i, _, rfl⟩ := List.mem_map.1 hv; simp⟩
  rw [e, List.eq_replicate_iff]
  refine ⟨by rw [Array.length_toList, size_madeCells, Nat.mul_one], fun v hv => ?_⟩
  unfold madeCells at hv
  rw [Array.toList_map] at hv
  obtain ⟨i, _, rfl⟩ := List.mem_map.1 hv
  have hz : (Value.bool false).cells = #[Value.bool false] := rfl
  rw [hz]
  have : i % (#[Value.bool false] : Array Value).size = 0 := Nat.mod_one i
  simp [Nat.mod_one]
structure Sit (S : FlashOK) (W w : World) (p q : Nat) (st : FSt) (B g n : Nat) (js ks : List Nat) (A : Option Addr) (c : Nat) : Prop where
  fo : Fo S W w p q st false (fun b => g ≤ b ∧ b < w.heap.size)
  gone : w.ownsRow g 4 1 (.slice (some ⟨g, 0, none⟩) n n) n (goneL n js)
  l : w.ownsRow B 9 1 (.slice A ks.length c) ks.length (nameL ks)
  lo : W.heap.size ≤ g
  mid : g < B
  hi : B ≤ w.heap.size
section
variable {S : FlashOK} {W w w' : World} {p q : Nat} {st : FSt} {B g n : Nat} {js ks : List Nat} {A : Option Addr} {c : Nat}
theorem fo_apart {dk : Bool} {st : FSt} (h : Fo S W w p q st dk (fun b => g ≤ b ∧ b < w.heap.size)) (hk : Keeps (fun b => b < g) w w') (hg : W.heap.size ≤ g) : Fo S W w' p q st dk (fun b => g ≤ b ∧ b < w'.heap.size) := by
  have h1 := h.own hk fun b hb hn => ⟨⟨by omega, hb⟩, by omega⟩
  obtain ⟨F, Fs, s, a1, a2, a3, a4, a5, a6, a7⟩ := h
  have hF : ∀ b, F.all b → b < g := fun b hb => by
    have h3 := a1.d.lt b hb
    refine Classical.byContradiction fun hn => (a7 b ⟨by omega, h3⟩).1 hb
  have hFs : ∀ b, Fs.all b → b < g := fun b hb => by
    have h3 := S.lt a2 b hb
    refine Classical.byContradiction fun hn => (a7 b ⟨by omega, h3⟩).2.1 hb
  refine ⟨F, Fs, s, ⟨a1.d.keep (hk.mono fun b _ hb => hF b hb), a1.gd, ?_⟩, S.keep a2 (hk.mono fun b _ hb => hFs b hb), a3, a4, a5, a6, fun b hb => ⟨fun hf => by have := hF b hf; omega, fun hf => by have := hFs b hf; omega, hb.2⟩⟩
  exact h1.kp
theorem Sit.keep (h : Sit S W w p q st B g n js ks A c) (hk : Kp w w') : Sit S W w' p q st B g n js ks A c :=
  ⟨fo_apart h.fo (hk.mono fun _ _ _ => trivial) h.lo, hk.own h.gone fun _ _ => trivial, hk.own h.l fun _ _ => trivial, h.lo, h.mid, Nat.le_trans h.hi hk.size⟩
theorem Sit.at_ (h : Sit S W w p q st B g n js ks A c) {j : Nat} (hj : j < n) : w.cell? ⟨g, j, none⟩ = some (.bool (decide (j ∈ js))) := by
  refine (h.gone.cellAt j (by omega)).trans ?_
  simp [goneL, hj]
theorem Sit.store (h : Sit S W w p q st B g n js ks A c) (k : Nat) : Sit S W (w.setCell ⟨g, k, none⟩ (.bool true)) p q st B g n (js ++ [k]) ks A c := by
  have hs : (w.setCell ⟨g, k, none⟩ (.bool true)).heap.size = w.heap.size := by simp
  refine ⟨fo_apart h.fo ((Keeps.refl _ w).setCell (.inr (by show ¬ g < g; omega)) _) h.lo, ?_, ?_, h.lo, h.mid, by rw [hs]; exact h.hi⟩
  · have e : goneL n (js ++ [k]) = (goneL n js).set k (.bool true) := by
      refine List.ext_getElem (by simp [goneL]) fun i h1 h2 => ?_
      rw [List.getElem_set]
      by_cases hij : k = i
      · subst hij; simp [goneL]
      · simp [goneL, hij, Ne.symm hij]
    rw [e]
    exact (h.gone.stored k _).1
  · refine (Keeps.setCell (F := fun b => b ≠ g) (Keeps.refl _ w) (.inr (by simp)) _).own h.l fun b hb => ?_
    have h1 := (h.l.lt b hb).1
    have := h.mid
    omega
theorem Sit.app (h : Sit S W w p q st B g n js ks A c) {k : Nat} {v' : Value} (hown : w'.ownsRow B 9 1 v' (ks.length + 1) (nameL ks ++ [.string (fname k)])) (hg : w.grownBy w' (Value.slice A ks.length c).ownBlock) :
    ∃ A' c', v' = .slice A' (ks.length + 1) c' ∧ Sit S W w' p q st B g n js (ks ++ [k]) A' c' := by
  obtain ⟨g6, c6, rfl, -, -⟩ := hown.form (by omega)
  have hkG : Keeps (fun b => b < B) w w' := Keeps.of_grown hg fun b hb _ hlt => by
    have h1 := (h.l.lt b hb).1
    omega
  refine ⟨_, _, rfl, fo_apart h.fo (hkG.mono fun b _ hb => by have := h.mid; omega) h.lo, hkG.own h.gone fun b hb => ?_, ?_, h.lo, h.mid, Nat.le_trans h.hi hkG.size⟩
  · have : b = g := by simpa [Value.ownBlock] using hb.symm
    rw [this]
    exact h.mid
  · rw [nameL_snoc, List.length_append]
    exact hown
theorem Sit.row (h : Sit S W w p q st B g n js ks A c) : Row w A (fun b => g ≤ b ∧ b < w.heap.size) ((ks.map fname).map Value.string) ∧ ks.length ≤ c ∧ c ≤ maxLen := by
  have hl := h.l
  refine ⟨?_, ?_⟩
  · have e : ks.length = (nameL ks).length := by simp [nameL]
    rw [e] at hl
    rw [nameL_is]
    exact (Row.of_own hl).mono fun b _ hb => ⟨by have := h.mid; omega, hb.2⟩
  · rcases hl.2 with ⟨h', h0⟩ | ⟨g', cap', cur, h', _, _, h1, h2, _⟩
    · injection h' with _ h3 h4
      subst h4
      exact ⟨by omega, Nat.zero_le _⟩
    · injection h' with _ _ h'
      subst h'
      exact ⟨h1, h2⟩
end
def GoneAt (w : World) (g n : Nat) (js : List Nat) : Prop := ∀ i, i < n → w.cell? ⟨g, i, none⟩ = some (.bool (decide (i ∈ js)))
theorem GoneAt.keep {w w' : World} {g n : Nat} {js : List Nat} {X : Nat → Prop} (h : GoneAt w g n js) (hk : Keeps X w w') (hX : X g) : GoneAt w' g n js := fun i hi => hk.cell (h i hi) hX
theorem told_D (n : Nat) (js : List Nat) (i : Nat) (hn : n ≤ 1000) (hi : i < n) (hj : ∀ j ∈ js, j < n) : ∃ (s1 s2 : ByteArray) (r : Bool), decide (i ∈ js) = !r ∧
    ∀ (E : List FEnt) (a : Nat), E.map (·.x) = (numbered valD n ++ gravesD js).map (·.x) → Ending.returned (.tuple #[.agg #[.string s1, .string s2, .int .i64 0, .bool false], .bool r]) = getE ⟨0, 50, E, 0, a⟩ (fname i) 0 := by
  by_cases h : i ∈ js
  · exact ⟨_, _, false, by simpa using h, fun E a hE => by rw [getE_D n js i a hE hn hi hj, if_pos h]⟩
  · exact ⟨_, _, true, by simpa using h, fun E a hE => by rw [getE_D n js i a hE hn hi hj, if_neg h]⟩
end Go.Proofs.YtoepgbpmcjnbmaaGreatDoor.flashDrop
