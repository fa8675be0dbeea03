/-
  THE LANDED RIGHTS IN MEMORY: batches of a key's rights, the map of those that are not used, the map of the good ones' batches.
-/
import Derived.Test.YtoegdfiehjabjaaTkIf
import Derived.Test.YtoegdfiehjabjaaMapMore
import Derived.BigQuiet
import Derived.BigCall
namespace Go.Proofs.Ytoegdfiehjabjaa
open Go Go.RowKit Go.Joins Go.Maps Go.ChangeShapes Go.WideShapes Go.ChangeAt

/-! ### What is said of lists of rights -/
theorem sameT_iff {a b : ByteArray} : sameT a b = true ↔ a = b := by
  unfold sameT
  rw [decide_eq_true_eq]
  exact ⟨fun h => by cases a; cases b; simp_all, fun h => by rw [h]⟩
theorem str_inj {a b : ByteArray} (h : Lit.string a.data.toList = .string b.data.toList) : a = b := by
  injection h with h
  cases a; cases b
  congr 1
  exact Array.ext' h
theorem idx_inj {i j : Nat} (h : Lit.int .i64 ((i : Int) + 1) = .int .i64 ((j : Int) + 1)) : i = j := by
  injection h with _ h
  omega
def tkOff (x : Tk) : Tk := { x with used := true }
theorem tkDead_key (p : ByteArray → Bool) (x : Tk) : (tkDead p x).key = x.key := by unfold tkDead; split <;> rfl
theorem tkDead_used (p : ByteArray → Bool) (x : Tk) : (tkDead p x).used = x.used := by unfold tkDead; split <;> rfl
theorem tkDead_good (p : ByteArray → Bool) (x : Tk) : (tkDead p x).good = (x.good && !hits p x) := by
  unfold tkDead
  cases hits p x <;> simp
theorem tkKill_at {p : ByteArray → Bool} {L : List Tk} {i : Nat} {y : Tk} (h : (tkKill p L)[i]? = some y) : ∃ x, L[i]? = some x ∧ y = tkDead p x := by
  unfold tkKill at h
  rw [List.getElem?_map] at h
  cases hx : L[i]? with
  | none => rw [hx] at h; cases h
  | some x => rw [hx] at h; exact ⟨x, rfl, (Option.some.inj h).symm⟩
theorem tkKill_of {p : ByteArray → Bool} {L : List Tk} {i : Nat} {x : Tk} (h : L[i]? = some x) : (tkKill p L)[i]? = some (tkDead p x) := by
  unfold tkKill
  rw [List.getElem?_map, h]; rfl
theorem tkDead_two (p q : ByteArray → Bool) (x : Tk) : tkDead q (tkDead p x) = tkDead (fun k => p k || q k) x := by
  obtain ⟨k, g, u⟩ := x
  unfold tkDead hits
  cases hp : p k <;> cases hq : q k <;> cases g <;> cases u <;> simp [hp, hq]
theorem tkKill_two (p q : ByteArray → Bool) (L : List Tk) : tkKill q (tkKill p L) = tkKill (fun k => p k || q k) L := by
  unfold tkKill
  rw [List.map_map]
  exact List.map_congr_left fun x _ => tkDead_two p q x
theorem tkCount_two (p q : ByteArray → Bool) (L : List Tk) : tkCount p L + tkCount q (tkKill p L) = tkCount (fun k => p k || q k) L := by
  unfold tkCount tkKill
  induction L with
  | nil => rfl
  | cons x L ih =>
    rw [List.map_cons, List.countP_cons, List.countP_cons, List.countP_cons]
    have : (if hits p x = true then 1 else 0) + (if hits q (tkDead p x) = true then 1 else 0) = (if hits (fun k => p k || q k) x = true then 1 else 0) := by
      obtain ⟨k, g, u⟩ := x
      unfold tkDead hits
      cases hp : p k <;> cases hq : q k <;> cases g <;> cases u <;> simp [hp, hq]
    omega
theorem tkCount_other {p q : ByteArray → Bool} (L : List Tk) (h : ∀ k, q k = true → p k = false) : tkCount q (tkKill p L) = tkCount q L := by
  unfold tkCount tkKill
  rw [List.countP_map]
  refine List.countP_congr fun x _ => ?_
  have : hits q (tkDead p x) = hits q x := by
    unfold hits
    rw [tkDead_key, tkDead_used, tkDead_good]
    cases hq : q x.key with
    | false => rfl
    | true => unfold hits; rw [h _ hq]; simp
  show hits q (tkDead p x) = true ↔ _
  rw [this]
theorem tkKill_none (p : ByteArray → Bool) (L : List Tk) (h : ∀ x ∈ L, hits p x = false) : tkKill p L = L := by
  unfold tkKill
  conv => rhs; rw [← List.map_id L]
  refine List.map_congr_left fun x hx => ?_
  unfold tkDead
  rw [h x hx]; rfl
theorem tkCount_zero (p : ByteArray → Bool) (L : List Tk) (h : ∀ x ∈ L, hits p x = false) : tkCount p L = 0 := by
  unfold tkCount
  rw [List.countP_eq_zero]
  intro x hx
  rw [h x hx]; simp
theorem tkKill_congr {p q : ByteArray → Bool} (L : List Tk) (h : ∀ x ∈ L, hits p x = hits q x) : tkKill p L = tkKill q L := by
  unfold tkKill
  refine List.map_congr_left fun x hx => ?_
  unfold tkDead
  rw [h x hx]
theorem tkCount_congr {p q : ByteArray → Bool} (L : List Tk) (h : ∀ x ∈ L, hits p x = hits q x) : tkCount p L = tkCount q L := by
  unfold tkCount
  refine List.countP_congr fun x hx => ?_
  rw [h x hx]
theorem hits_one {k : ByteArray} {x : Tk} : hits (sameT k) x = true ↔ k = x.key ∧ x.good = true ∧ x.used = false := by
  unfold hits
  cases x.used <;> simp [sameT_iff]
/-- The one at i is used. -/
theorem set_at {L : List Tk} {i j : Nat} {x y : Tk} (hi : L[i]? = some x) (h : (L.set i (tkOff x))[j]? = some y) (hu : y.used = false) : j ≠ i ∧ L[j]? = some y := by
  rw [List.getElem?_set] at h
  have hlt : i < L.length := (List.getElem?_eq_some_iff.1 hi).1
  by_cases e : i = j
  · subst e
    rw [if_pos rfl, if_pos hlt] at h
    cases h
    cases hu
  · rw [if_neg e] at h
    exact ⟨fun e' => e e'.symm, h⟩
theorem set_of {L : List Tk} {i j : Nat} {x y : Tk} (h : L[j]? = some y) (hne : j ≠ i) : (L.set i (tkOff x))[j]? = some y := by
  rw [List.getElem?_set_ne (fun e => hne e.symm)]; exact h
theorem count_set {L : List Tk} {i : Nat} {x : Tk} (hi : L[i]? = some x) (p : ByteArray → Bool) : tkCount p (L.set i (tkOff x)) + (if hits p x = true then 1 else 0) = tkCount p L := by
  unfold tkCount
  obtain ⟨hlt, hx⟩ := List.getElem?_eq_some_iff.1 hi
  have e1 : hits p (tkOff x) = false := by unfold hits tkOff; simp
  rw [List.countP_set hlt, hx, e1]
  have : hits p x = true → 0 < L.countP (hits p) := fun h => List.countP_pos_iff.2 ⟨x, List.mem_of_getElem? hi, h⟩
  split
  · have := this (by assumption); simp; omega
  · simp
theorem tkUsed_is {L : List Tk} {i : Nat} {x : Tk} (hi : L[i]? = some x) : tkUsed L ((i : Int) + 1) = L.set i (tkOff x) := by
  unfold tkUsed tkAt
  rw [if_pos (by omega), show (((i : Int) + 1) - 1).toNat = i by omega, hi]; rfl
theorem tkUse_is {L : List Tk} {i : Nat} {x : Tk} (hi : L[i]? = some x) (hu : x.used = false) : tkUse L ((i : Int) + 1) = (x.key, x.good) := by
  unfold tkUse tkAt
  rw [if_pos (by omega), show (((i : Int) + 1) - 1).toNat = i by omega, hi]
  show (if x.used = true then _ else _) = _
  rw [hu]; rfl

/-! ### In memory -/
/-- A batch: its key, how many are good, were they killed. -/
def BtBlk (w : World) (b : Nat) (k : ByteArray) (n : Int) (d : Bool) : Prop := w.heap[b]? = some (.cells #[.string k, .int .i64 n, .bool d] 54 (0, 0))
/-- The rights' own block. -/
def TkBlk (w : World) (t : Nat) (n : Int) (mo ml : Option Nat) : Prop := w.heap[t]? = some (.cells #[.int .i64 n, .map mo, .map ml] 50 (0, 0))
section
variable {w w' : World} {b t : Nat} {k : ByteArray} {n : Int} {d : Bool} {mo ml : Option Nat} {G : Nat → Prop}
theorem BtBlk.lt (h : BtBlk w b k n d) : b < w.heap.size := (Array.getElem?_eq_some_iff.1 h).1
theorem BtBlk.keep (h : BtBlk w b k n d) (hk : Keeps G w w') (hG : G b) : BtBlk w' b k n d := (hk.block b hG h.lt).trans h
theorem BtBlk.c0 (h : BtBlk w b k n d) : w.cell? ⟨b, 0, none⟩ = some (.string k) := cell_of_block h 0
theorem BtBlk.c1 (h : BtBlk w b k n d) : w.cell? ⟨b, 1, none⟩ = some (.int .i64 n) := cell_of_block h 1
theorem BtBlk.c2 (h : BtBlk w b k n d) : w.cell? ⟨b, 2, none⟩ = some (.bool d) := cell_of_block h 2
theorem BtBlk.f1 (h : BtBlk w b k n d) : w.frozen? ⟨b, 1, none⟩ = false := unfrozen_of_block h 1
theorem BtBlk.f2 (h : BtBlk w b k n d) : w.frozen? ⟨b, 2, none⟩ = false := unfrozen_of_block h 2
theorem BtBlk.set1 (h : BtBlk w b k n d) (x : Int) : BtBlk (w.setCell ⟨b, 1, none⟩ (.int .i64 x)) b k x d := (block_setCell h _).trans rfl
theorem BtBlk.set2 (h : BtBlk w b k n d) (x : Bool) : BtBlk (w.setCell ⟨b, 2, none⟩ (.bool x)) b k n x := (block_setCell h _).trans rfl
theorem BtBlk.one {k' : ByteArray} {n' : Int} {d' : Bool} (h : BtBlk w b k n d) (h' : BtBlk w b k' n' d') : k = k' ∧ n = n' ∧ d = d' := by
  unfold BtBlk at h h'
  rw [h] at h'
  injection h' with h'
  injection h' with h1 h2 h3
  simp at h1
  exact h1
theorem TkBlk.lt (h : TkBlk w t n mo ml) : t < w.heap.size := (Array.getElem?_eq_some_iff.1 h).1
theorem TkBlk.keep (h : TkBlk w t n mo ml) (hk : Keeps G w w') (hG : G t) : TkBlk w' t n mo ml := (hk.block t hG h.lt).trans h
theorem TkBlk.c0 (h : TkBlk w t n mo ml) : w.cell? ⟨t, 0, none⟩ = some (.int .i64 n) := cell_of_block h 0
theorem TkBlk.c1 (h : TkBlk w t n mo ml) : w.cell? ⟨t, 1, none⟩ = some (.map mo) := cell_of_block h 1
theorem TkBlk.c2 (h : TkBlk w t n mo ml) : w.cell? ⟨t, 2, none⟩ = some (.map ml) := cell_of_block h 2
theorem TkBlk.f0 (h : TkBlk w t n mo ml) : w.frozen? ⟨t, 0, none⟩ = false := unfrozen_of_block h 0
theorem TkBlk.f1 (h : TkBlk w t n mo ml) : w.frozen? ⟨t, 1, none⟩ = false := unfrozen_of_block h 1
theorem TkBlk.f2 (h : TkBlk w t n mo ml) : w.frozen? ⟨t, 2, none⟩ = false := unfrozen_of_block h 2
theorem TkBlk.set0 (h : TkBlk w t n mo ml) (x : Int) : TkBlk (w.setCell ⟨t, 0, none⟩ (.int .i64 x)) t x mo ml := (block_setCell h _).trans rfl
theorem TkBlk.set1 (h : TkBlk w t n mo ml) (m : Option Nat) : TkBlk (w.setCell ⟨t, 1, none⟩ (.map m)) t n m ml := (block_setCell h _).trans rfl
theorem TkBlk.set2 (h : TkBlk w t n mo ml) (m : Option Nat) : TkBlk (w.setCell ⟨t, 2, none⟩ (.map m)) t n mo m := (block_setCell h _).trans rfl
theorem TkBlk.ne (h : TkBlk w t n mo ml) {k : ByteArray} {x : Int} (h' : BtBlk w b k x d) : b ≠ t := by
  rintro rfl
  unfold TkBlk at h
  unfold BtBlk at h'
  rw [h] at h'
  injection h' with h'
  injection h' with h1 h2 h3
  simp at h1
end

/-- The batches of the rights that are not used. -/
structure Bat (w : World) (L : List Tk) (B : Nat → Nat) : Prop where
  at_ : ∀ i x, L[i]? = some x → x.used = false → ∃ n : Nat, BtBlk w (B i) x.key (n : Int) (!x.good) ∧ (x.good = true → n = tkCount (sameT x.key) L)
  same : ∀ i j x y, L[i]? = some x → L[j]? = some y → x.used = false → y.used = false → x.good = true → y.good = true → x.key = y.key → B i = B j
/-- What the maps say. -/
structure Tab (L : List Tk) (B : Nat → Nat) (go gl : Lit → Option Value) : Prop where
  o1 : ∀ (i : Nat) (x : Tk), L[i]? = some x → x.used = false → go (.int .i64 ((i : Int) + 1)) = some (.pointer (some ⟨B i, 0, none⟩))
  o2 : ∀ l v, go l = some v → ∃ (i : Nat) (x : Tk), L[i]? = some x ∧ x.used = false ∧ l = .int .i64 ((i : Int) + 1)
  l1 : ∀ (i : Nat) (x : Tk), L[i]? = some x → x.used = false → x.good = true → gl (.string x.key.data.toList) = some (.pointer (some ⟨B i, 0, none⟩))
  l2 : ∀ l v, gl l = some v → ∃ (i : Nat) (x : Tk), L[i]? = some x ∧ x.used = false ∧ x.good = true ∧ l = .string x.key.data.toList

section
variable {w w' : World} {L : List Tk} {B : Nat → Nat} {G : Nat → Prop} {i : Nat} {x : Tk} {go gl : Lit → Option Value}
theorem Bat.keep (h : Bat w L B) (hk : Keeps G w w') (hG : ∀ i x, L[i]? = some x → x.used = false → G (B i)) : Bat w' L B :=
  ⟨fun i x hi hu => by obtain ⟨n, h1, h2⟩ := h.at_ i x hi hu; exact ⟨n, h1.keep hk (hG i x hi hu), h2⟩, h.same⟩
theorem Bat.cell2 {a : Nat} (h : Bat w L B) (ha : ∀ i x, L[i]? = some x → x.used = false → B i ≠ a) (o : Nat) (v : Value) : Bat (w.setCell ⟨a, o, none⟩ v) L B :=
  h.keep (G := fun b => b ≠ a) ((Keeps.refl _ _).setCell (.inr fun h => h rfl) v) ha
theorem Bat.kill (h : Bat w L B) (hi : L[i]? = some x) (hu : x.used = false) (hg : x.good = true) : Bat (w.setCell ⟨B i, 2, none⟩ (.bool true)) (tkKill (sameT x.key) L) B := by
  obtain ⟨n, hb, hn⟩ := h.at_ i x hi hu
  rw [hg] at hb
  refine ⟨fun j y' hj hju => ?_, fun j j' y y' hj hj' hju hju' hjg hjg' e => ?_⟩
  · obtain ⟨y, hjy, rfl⟩ := tkKill_at hj
    rw [tkDead_used] at hju
    obtain ⟨m, hm, hmn⟩ := h.at_ j y hjy hju
    rw [tkDead_key, tkDead_good]
    by_cases e : B j = B i
    · rw [e] at hm ⊢
      obtain ⟨e1, e2, e3⟩ := hm.one hb
      have hgy : y.good = true := by simpa using e3
      have hh : hits (sameT x.key) y = true := hits_one.2 ⟨e1.symm, hgy, hju⟩
      rw [hh, hgy]
      refine ⟨m, ?_, fun h => by simp at h⟩
      have := (hm.set2 true)
      simpa using this
    · have hno : hits (sameT x.key) y = false := by
        cases hq : hits (sameT x.key) y with
        | false => rfl
        | true =>
          obtain ⟨e1, e2, e3⟩ := hits_one.1 hq
          exact absurd (h.same j i y x hjy hi hju hu e2 hg e1.symm) e
      rw [hno]
      simp only [Bool.not_false, Bool.and_true]
      refine ⟨m, hm.keep (G := fun b => b ≠ B i) ((Keeps.refl _ _).setCell (.inr fun h => h rfl) _) e, fun hgy => ?_⟩
      rw [hmn hgy, tkCount_other]
      intro k hk
      cases hq : sameT x.key k with
      | false => rfl
      | true =>
        rw [sameT_iff] at hk hq
        rw [← hq] at hk
        have := hits_one.2 ⟨hk.symm, hgy, hju⟩
        rw [this] at hno
        cases hno
  · obtain ⟨z, hz, rfl⟩ := tkKill_at hj
    obtain ⟨z', hz', rfl⟩ := tkKill_at hj'
    rw [tkDead_used] at hju hju'
    rw [tkDead_good] at hjg hjg'
    rw [tkDead_key, tkDead_key] at e
    simp only [Bool.and_eq_true] at hjg hjg'
    exact h.same j j' z z' hz hz' hju hju' hjg.1 hjg'.1 e
theorem Bat.useDead (h : Bat w L B) (hi : L[i]? = some x) (hg : x.good = false) : Bat w (L.set i (tkOff x)) B := by
  refine ⟨fun j y hj hju => ?_, fun j j' y y' hj hj' hju hju' => h.same j j' y y' (set_at hi hj hju).2 (set_at hi hj' hju').2 hju hju'⟩
  obtain ⟨m, hm, hmn⟩ := h.at_ j y (set_at hi hj hju).2 hju
  refine ⟨m, hm, fun hgy => ?_⟩
  have hc := count_set hi (sameT y.key)
  have hno : ¬ hits (sameT y.key) x = true := fun hq => by have := (hits_one.1 hq).2.1; rw [hg] at this; cases this
  rw [if_neg hno] at hc
  rw [hmn hgy, ← hc]; rfl
theorem Bat.useGood (h : Bat w L B) (hi : L[i]? = some x) (hu : x.used = false) (hg : x.good = true) (c : Int) (hc : c = (tkCount (sameT x.key) (L.set i (tkOff x)) : Nat)) : Bat (w.setCell ⟨B i, 1, none⟩ (.int .i64 c)) (L.set i (tkOff x)) B := by
  obtain ⟨n, hb, hn⟩ := h.at_ i x hi hu
  rw [hg] at hb
  refine ⟨fun j y hj hju => ?_, fun j j' y y' hj hj' hju hju' => h.same j j' y y' (set_at hi hj hju).2 (set_at hi hj' hju').2 hju hju'⟩
  obtain ⟨hne, hjy⟩ := set_at hi hj hju
  obtain ⟨m, hm, hmn⟩ := h.at_ j y hjy hju
  by_cases e : B j = B i
  · rw [e] at hm ⊢
    obtain ⟨e1, e2, e3⟩ := hm.one hb
    rw [hc]
    refine ⟨_, hm.set1 _, fun _ => ?_⟩
    rw [e1]
  · refine ⟨m, hm.keep (G := fun b => b ≠ B i) ((Keeps.refl _ _).setCell (.inr fun h => h rfl) _) e, fun hgy => ?_⟩
    have hc := count_set hi (sameT y.key)
    have hno : ¬ hits (sameT y.key) x = true := fun hq => by
      obtain ⟨e1, e2, e3⟩ := hits_one.1 hq
      exact e (h.same j i y x hjy hi hju hu hgy hg e1)
    rw [if_neg hno] at hc
    rw [hmn hgy, ← hc]; rfl
theorem app_at {L : List Tk} {z y : Tk} {j : Nat} (h : (L ++ [z])[j]? = some y) : L[j]? = some y ∧ j < L.length ∨ j = L.length ∧ y = z := by
  by_cases hj : j < L.length
  · rw [List.getElem?_append_left hj] at h; exact .inl ⟨h, hj⟩
  · rw [List.getElem?_append_right (by omega)] at h
    have hlt := (List.getElem?_eq_some_iff.1 h).1
    have e : j = L.length := by simp at hlt; omega
    subst e
    simp at h
    exact .inr ⟨rfl, h.symm⟩
def newB (B : Nat → Nat) (n b : Nat) : Nat → Nat := fun j => if j = n then b else B j
theorem newB_new (B : Nat → Nat) (n b : Nat) : newB B n b n = b := if_pos rfl
theorem newB_old (B : Nat → Nat) {n j : Nat} (b : Nat) (h : j < n) : newB B n b j = B j := if_neg (by omega)
theorem Bat.give (h : Bat w L B) {b : Nat} {k : ByteArray} (hb : BtBlk w b k ((tkCount (sameT k) L : Nat) : Int) false) (hsame : ∀ i x, L[i]? = some x → x.used = false → x.good = true → x.key = k → B i = b) :
    Bat (w.setCell ⟨b, 1, none⟩ (.int .i64 (((tkCount (sameT k) L : Nat) : Int) + 1))) (L ++ [tkNew k]) (newB B L.length b) := by
  have hcnt : ∀ k', tkCount (sameT k') (L ++ [tkNew k]) = tkCount (sameT k') L + (if k' = k then 1 else 0) := fun k' => by
    unfold tkCount
    rw [List.countP_append]
    congr 1
    rw [List.countP_singleton]
    by_cases e : k' = k
    · rw [if_pos e, if_pos (hits_one.2 ⟨e, rfl, rfl⟩)]
    · rw [if_neg e, if_neg fun hq => e (hits_one.1 hq).1]
  refine ⟨fun j y hj hju => ?_, fun j j' y y' hj hj' hju hju' hjg hjg' e => ?_⟩
  · rcases app_at hj with ⟨hjy, hlt⟩ | ⟨rfl, rfl⟩
    · rw [newB_old B b hlt]
      obtain ⟨m, hm, hmn⟩ := h.at_ j y hjy hju
      by_cases e : B j = b
      · rw [e] at hm ⊢
        obtain ⟨e1, e2, e3⟩ := hm.one hb
        refine ⟨tkCount (sameT k) L + 1, ?_, fun hgy => ?_⟩
        · have := hm.set1 (((tkCount (sameT k) L : Nat) : Int) + 1)
          rwa [show (((tkCount (sameT k) L : Nat) : Int) + 1) = ((tkCount (sameT k) L + 1 : Nat) : Int) from by omega] at this ⊢
        · rw [hcnt, e1, if_pos rfl]
      · refine ⟨m, hm.keep (G := fun a => a ≠ b) ((Keeps.refl _ _).setCell (.inr fun h => h rfl) _) e, fun hgy => ?_⟩
        rw [hcnt, if_neg fun e' => e (hsame j y hjy hju hgy e'), hmn hgy]; rfl
    · rw [newB_new]
      refine ⟨tkCount (sameT k) L + 1, ?_, fun _ => ?_⟩
      · have := hb.set1 (((tkCount (sameT k) L : Nat) : Int) + 1)
        rwa [show (((tkCount (sameT k) L : Nat) : Int) + 1) = ((tkCount (sameT k) L + 1 : Nat) : Int) from by omega] at this ⊢
      · show _ = tkCount (sameT k) _
        rw [hcnt, if_pos rfl]
  · rcases app_at hj with ⟨hjy, hlt⟩ | ⟨rfl, rfl⟩ <;> rcases app_at hj' with ⟨hjy', hlt'⟩ | ⟨rfl, rfl⟩
    · rw [newB_old B b hlt, newB_old B b hlt']
      exact h.same j j' y y' hjy hjy' hju hju' hjg hjg' e
    · rw [newB_old B b hlt, newB_new]
      exact hsame j y hjy hju hjg e
    · rw [newB_old B b hlt', newB_new]
      exact (hsame j' y' hjy' hju' hjg' e.symm).symm
    · rfl

/-! ### The maps, step by step -/
theorem Tab.kill (h : Tab L B go gl) (k : ByteArray) : Tab (tkKill (sameT k) L) B go (mdel gl (.string k.data.toList)) := by
  refine ⟨fun j y hj hju => ?_, fun l v hl => ?_, fun j y hj hju hjg => ?_, fun l v hl => ?_⟩
  · obtain ⟨z, hz, rfl⟩ := tkKill_at hj
    rw [tkDead_used] at hju
    exact h.o1 j z hz hju
  · obtain ⟨i, x, hi, hu, e⟩ := h.o2 l v hl
    exact ⟨i, _, tkKill_of hi, by rw [tkDead_used]; exact hu, e⟩
  · obtain ⟨z, hz, rfl⟩ := tkKill_at hj
    rw [tkDead_used] at hju
    rw [tkDead_good] at hjg
    rw [tkDead_key]
    simp only [Bool.and_eq_true, Bool.not_eq_true'] at hjg
    rw [mdel_other _ fun e => ?_]
    · exact h.l1 j z hz hju hjg.1
    · have := hits_one.2 ⟨(str_inj e).symm, hjg.1, hju⟩
      rw [this] at hjg; cases hjg.2
  · obtain ⟨hne, hl'⟩ := mdel_some hl
    obtain ⟨i, x, hi, hu, hg, e⟩ := h.l2 l v hl'
    refine ⟨i, _, tkKill_of hi, by rw [tkDead_used]; exact hu, ?_, by rw [tkDead_key]; exact e⟩
    rw [tkDead_good, hg]
    cases hq : hits (sameT k) x with
    | false => rfl
    | true => exact absurd (by rw [e, ← (hits_one.1 hq).1]) hne
theorem Tab.clear (h : Tab L B go gl) : Tab (tkKill allKeys L) B go (fun _ => none) := by
  refine ⟨fun j y hj hju => ?_, fun l v hl => ?_, fun j y hj hju hjg => ?_, fun l v hl => by cases hl⟩
  · obtain ⟨z, hz, rfl⟩ := tkKill_at hj
    rw [tkDead_used] at hju
    exact h.o1 j z hz hju
  · obtain ⟨i, x, hi, hu, e⟩ := h.o2 l v hl
    exact ⟨i, _, tkKill_of hi, by rw [tkDead_used]; exact hu, e⟩
  · obtain ⟨z, hz, rfl⟩ := tkKill_at hj
    rw [tkDead_used] at hju
    rw [tkDead_good] at hjg
    unfold hits allKeys at hjg
    rw [hju] at hjg
    cases hz : z.good <;> rw [hz] at hjg <;> cases hjg
theorem Tab.useO1 (h : Tab L B go gl) (hi : L[i]? = some x) : ∀ (j : Nat) (y : Tk), (L.set i (tkOff x))[j]? = some y → y.used = false → mdel go (.int .i64 ((i : Int) + 1)) (.int .i64 ((j : Int) + 1)) = some (.pointer (some ⟨B j, 0, none⟩)) := fun j y hj hju => by
  obtain ⟨hne, hjy⟩ := set_at hi hj hju
  rw [mdel_other _ fun e => hne (idx_inj e)]
  exact h.o1 j y hjy hju
theorem Tab.useO2 (h : Tab L B go gl) (_hi : L[i]? = some x) : ∀ l v, mdel go (.int .i64 ((i : Int) + 1)) l = some v → ∃ (j : Nat) (y : Tk), (L.set i (tkOff x))[j]? = some y ∧ y.used = false ∧ l = .int .i64 ((j : Int) + 1) := fun l v hl => by
  obtain ⟨hne, hl'⟩ := mdel_some hl
  obtain ⟨j, y, hj, hu, e⟩ := h.o2 l v hl'
  exact ⟨j, y, set_of hj fun e' => hne (by rw [e, e']), hu, e⟩
/-- One is used, and its key has good ones yet, or it was none of the good ones. -/
theorem Tab.useKeep (h : Tab L B go gl) (hi : L[i]? = some x) (hm : x.good = true → 0 < tkCount (sameT x.key) (L.set i (tkOff x))) : Tab (L.set i (tkOff x)) B (mdel go (.int .i64 ((i : Int) + 1))) gl := by
  refine ⟨h.useO1 hi, h.useO2 hi, fun j y hj hju hjg => h.l1 j y (set_at hi hj hju).2 hju hjg, fun l v hl => ?_⟩
  obtain ⟨j, y, hj, hu, hg, e⟩ := h.l2 l v hl
  by_cases hji : j = i
  · subst hji
    rw [hi] at hj
    cases hj
    obtain ⟨z, hz, hzh⟩ := List.countP_pos_iff.1 (hm hg)
    obtain ⟨q, hq, rfl⟩ := List.getElem_of_mem hz
    obtain ⟨e1, e2, e3⟩ := hits_one.1 hzh
    exact ⟨q, _, List.getElem?_eq_getElem hq, e3, e2, by rw [← e1]; exact e⟩
  · exact ⟨j, y, set_of hj hji, hu, hg, e⟩
/-- The last good one of its key is used. -/
theorem Tab.useLast (h : Tab L B go gl) (hi : L[i]? = some x) (hm : tkCount (sameT x.key) (L.set i (tkOff x)) = 0) : Tab (L.set i (tkOff x)) B (mdel go (.int .i64 ((i : Int) + 1))) (mdel gl (.string x.key.data.toList)) := by
  unfold tkCount at hm
  rw [List.countP_eq_zero] at hm
  refine ⟨h.useO1 hi, h.useO2 hi, fun j y hj hju hjg => ?_, fun l v hl => ?_⟩
  · rw [mdel_other _ fun e => hm y (List.mem_of_getElem? hj) (hits_one.2 ⟨(str_inj e).symm, hjg, hju⟩)]
    exact h.l1 j y (set_at hi hj hju).2 hju hjg
  · obtain ⟨hne, hl'⟩ := mdel_some hl
    obtain ⟨j, y, hj, hu, hg, e⟩ := h.l2 l v hl'
    refine ⟨j, y, set_of hj fun e' => hne ?_, hu, hg, e⟩
    subst e'
    rw [hi] at hj
    cases hj
    exact e
theorem Tab.give (h : Tab L B go gl) {b : Nat} {k : ByteArray} {gl' : Lit → Option Value} (h1 : gl' (.string k.data.toList) = some (.pointer (some ⟨b, 0, none⟩))) (h2 : ∀ l, l ≠ .string k.data.toList → gl' l = gl l)
    (hsame : ∀ i x, L[i]? = some x → x.used = false → x.good = true → x.key = k → B i = b) :
    Tab (L ++ [tkNew k]) (newB B L.length b) (mput go (.int .i64 ((L.length : Int) + 1)) (.pointer (some ⟨b, 0, none⟩))) gl' := by
  have hold : ∀ {j y}, L[j]? = some y → (L ++ [tkNew k])[j]? = some y := fun {j y} hj => by
    rw [List.getElem?_append_left (List.getElem?_eq_some_iff.1 hj).1]; exact hj
  have hnew : (L ++ [tkNew k])[L.length]? = some (tkNew k) := by simp
  refine ⟨fun j y hj hju => ?_, fun l v hl => ?_, fun j y hj hju hjg => ?_, fun l v hl => ?_⟩
  · rcases app_at hj with ⟨hjy, hlt⟩ | ⟨rfl, rfl⟩
    · rw [newB_old B b hlt, mput_other _ _ fun e => by have := idx_inj e; omega]
      exact h.o1 j y hjy hju
    · rw [newB_new, mput_same]
  · rcases mput_some hl with ⟨rfl, -⟩ | ⟨-, hl'⟩
    · exact ⟨L.length, _, hnew, rfl, rfl⟩
    · obtain ⟨j, y, hj, hu, e⟩ := h.o2 l v hl'
      exact ⟨j, y, hold hj, hu, e⟩
  · rcases app_at hj with ⟨hjy, hlt⟩ | ⟨rfl, rfl⟩
    · rw [newB_old B b hlt]
      by_cases e : y.key = k
      · rw [e, h1, hsame j y hjy hju hjg e]
      · rw [h2 _ fun e' => e (str_inj e')]
        exact h.l1 j y hjy hju hjg
    · rw [newB_new]; exact h1
  · by_cases e : l = .string k.data.toList
    · exact ⟨L.length, _, hnew, rfl, rfl, e⟩
    · rw [h2 l e] at hl
      obtain ⟨j, y, hj, hu, hg, e'⟩ := h.l2 l v hl
      exact ⟨j, y, hold hj, hu, hg, e'⟩
/-- How many are not used. -/
theorem Tab.open_len (h : Tab L B go gl) : ∃ ls : List Lit, ls.Nodup ∧ (∀ l, l ∈ ls ↔ (go l).isSome = true) ∧ ls.length = tkLen L := by
  refine ⟨((List.range L.length).filter fun i => match L[i]? with | some x => !x.used | none => false).map fun (i : Nat) => Lit.int .i64 ((i : Int) + 1), ?_, fun l => ?_, ?_⟩
  · refine List.Pairwise.map _ (fun a b hab e => hab (idx_inj e)) (List.nodup_range.filter _)
  · rw [List.mem_map]
    constructor
    · rintro ⟨i, hi, rfl⟩
      rw [List.mem_filter] at hi
      cases hx : L[i]? with
      | none => rw [hx] at hi; cases hi.2
      | some x =>
        rw [hx] at hi
        rw [h.o1 i x hx (by simpa using hi.2)]; rfl
    · intro hl
      obtain ⟨v, hv⟩ := Option.isSome_iff_exists.1 hl
      obtain ⟨i, x, hi, hu, e⟩ := h.o2 l v hv
      refine ⟨i, List.mem_filter.2 ⟨List.mem_range.2 (List.getElem?_eq_some_iff.1 hi).1, ?_⟩, e.symm⟩
      rw [hi]; simp [hu]
  · rw [List.length_map, ← List.countP_eq_length_filter]
    unfold tkLen
    conv => rhs; rw [show L = (List.range L.length).map (fun i => L.getD i default) from by
      refine List.ext_getElem (by simp) fun i h1 h2 => ?_
      rw [List.getElem_map, List.getElem_range, List.getD_eq_getElem?_getD, List.getElem?_eq_getElem h1]; rfl]
    rw [List.countP_map]
    refine List.countP_congr fun i hi => ?_
    have hlt : i < L.length := List.mem_range.1 hi
    simp only [Function.comp, List.getD_eq_getElem?_getD, List.getElem?_eq_getElem hlt, Option.getD_some]
end

end Go.Proofs.Ytoegdfiehjabjaa
