/-
  THE PLAIN MATHEMATICS OF LAYER 6 (slog): what a log takes of a sector; a segment's text in chunks of 53 bytes; segments on their sectors, in their order. It imports nothing of the program.
-/
import Derived.Test.YtgdbkmecfbkobaaDoorAllCalc
import Derived.Test.YtgdbkmecfbkobaaDoorSlogHist
namespace Go.Proofs.YtgdbkmecfbkobaaDoor

/-- What a log takes of the k-th sector of a segment. -/
def takeL (k : Nat) : Option (Int × List UInt8) → Option (Nat × List UInt8)
  | none => none
  | some (n, x) => if n < 8 ∨ 2199023255552 ≤ n ∨ n % 8 ≠ (k : Int) ∨ 53 < x.length then none else some (n.toNat, x)
def decL (k : Nat) (l : List UInt8) : Option (Nat × List UInt8) := takeL k (decF 76 l)
def encL (n : Nat) (x : List UInt8) : List UInt8 := encF 76 n x
theorem encL_len (n : Nat) (x : List UInt8) (hn : n < 2199023255552) (hx : x.length ≤ 53) : (encL n x).length = 64 := encF_len _ _ _ (headS_len n x hx hn)
theorem decL_enc (n : Nat) (x : List UInt8) (k : Nat) (h8 : 8 ≤ n) (hn : n < 2199023255552) (hk : n % 8 = k) (hx : x.length ≤ 53) : decL k (encL n x) = some (n, x) := by
  unfold decL encL
  rw [decF_enc _ n x (headS_len n x hx hn) (by omega) (by omega)]
  unfold takeL
  simp only
  rw [if_neg (by omega), Int.toNat_natCast]
theorem decL_blank (k : Nat) : decL k blank = none := by
  unfold decL
  rcases decF_blank 76 with h | h <;> rw [h]
  · rfl
  · unfold takeL; simp
theorem decL_wf {k : Nat} {l : List UInt8} {n : Nat} {x : List UInt8} (h : decL k l = some (n, x)) : 8 ≤ n ∧ n < 2199023255552 ∧ n % 8 = k ∧ x.length ≤ 53 := by
  unfold decL takeL at h
  split at h
  · cases h
  · split at h
    · cases h
    · rename_i n' x' _ hc
      injection h with h
      injection h with h1 h2
      subst h1 h2
      omega

/-! ### A segment's text -/
def strm (rs : List LRec) : List UInt8 := rs.flatMap fun r => putT r.body
theorem strm_snoc (rs : List LRec) (r : LRec) : strm (rs ++ [r]) = strm rs ++ putT r.body := by simp [strm]
theorem strm_append (a b : List LRec) : strm (a ++ b) = strm a ++ strm b := by simp [strm]
/-- Where the i-th record begins. -/
def endAt (rs : List LRec) (i : Nat) : Nat := (strm (rs.take i)).length
theorem endAt_zero (rs : List LRec) : endAt rs 0 = 0 := by simp [endAt, strm]
theorem endAt_len (rs : List LRec) : endAt rs rs.length = (strm rs).length := by simp [endAt]
theorem take_next {α : Type} (l : List α) (k : Nat) (h : k < l.length) : l.take (k + 1) = l.take k ++ [l[k]] := by
  rw [List.take_add_one, List.getElem?_eq_getElem h]; rfl
theorem endAt_next (rs : List LRec) (i : Nat) (h : i < rs.length) : endAt rs (i + 1) = endAt rs i + (putT rs[i].body).length := by
  unfold endAt; rw [take_next _ _ h, strm_snoc, List.length_append]
theorem strm_split (rs : List LRec) (i : Nat) : strm rs = strm (rs.take i) ++ strm (rs.drop i) := by
  rw [← strm_append, List.take_append_drop]
theorem strm_drop (rs : List LRec) (i : Nat) : (strm rs).drop (endAt rs i) = strm (rs.drop i) := by
  conv => lhs; arg 2; rw [strm_split rs i]
  exact List.drop_left
theorem endAt_le (rs : List LRec) (i : Nat) : endAt rs i ≤ (strm rs).length := by
  rw [strm_split rs i, List.length_append]; unfold endAt; omega
theorem strm_at (rs : List LRec) (i : Nat) (h : i < rs.length) : (strm rs).drop (endAt rs i) = putT rs[i].body ++ strm (rs.drop (i + 1)) := by
  rw [strm_drop, List.drop_eq_getElem_cons h]; rfl
/-- The bytes of the i-th record. -/
theorem strm_rec (rs : List LRec) (i : Nat) (h : i < rs.length) : ((strm rs).drop (endAt rs i)).take (endAt rs (i + 1) - endAt rs i) = putT rs[i].body := by
  rw [strm_at rs i h, endAt_next rs i h, Nat.add_sub_cancel_left]; exact List.take_left
theorem putT_pos (x : List UInt8) : x.length + 1 ≤ (putT x).length := by
  unfold putT; rw [List.length_append]
  have := vin_pos (zig (x.length : Int))
  unfold putZ; omega
theorem putT_most (x : List UInt8) (h : x.length ≤ 300) : (putT x).length ≤ x.length + 2 := by
  unfold putT; rw [List.length_append]
  have : (putZ (x.length : Int)).length ≤ 2 := by
    unfold putZ
    refine vin_len 1 _ ?_
    have : zig (x.length : Int) = 2 * x.length := by unfold zig; rw [if_neg (by omega)]; omega
    rw [this]
    have e : (128 : Nat) ^ (1 + 1) = 16384 := by decide
    omega
  omega
theorem strm_count (rs : List LRec) (h : ∀ r ∈ rs, 1 ≤ r.body.length) : 2 * rs.length ≤ (strm rs).length := by
  induction rs with
  | nil => simp [strm]
  | cons r rs ih =>
    have h1 := h r (by simp)
    have h2 := ih fun r hr => h r (by simp [hr])
    have h3 := putT_pos r.body
    have e : strm (r :: rs) = putT r.body ++ strm rs := by simp [strm]
    rw [e, List.length_append, List.length_cons]; omega
theorem endAt_lt (rs : List LRec) (i : Nat) (h : i < rs.length) : endAt rs i < endAt rs (i + 1) := by
  rw [endAt_next rs i h]; have := putT_pos rs[i].body; omega
theorem strm_costs (rs : List LRec) (h : ∀ r ∈ rs, r.body.length ≤ 300) : (strm rs).length + 58 * rs.length ≤ costs rs := by
  induction rs with
  | nil => simp [strm, costs]
  | cons r rs ih =>
    have h2 := ih fun r hr => h r (by simp [hr])
    have h3 := putT_most r.body (h r (by simp))
    have e : strm (r :: rs) = putT r.body ++ strm rs := by simp [strm]
    have e2 : costs (r :: rs) = r.cost + costs rs := by simp [costs]
    rw [e, e2, List.length_append, List.length_cons]
    unfold LRec.cost; omega

/-! ### Chunks -/
def chunk (l : List UInt8) (k : Nat) : List UInt8 := (l.drop (53 * k)).take 53
def nsec (n : Nat) : Nat := max 1 ((n + 52) / 53)
theorem chunk_len (l : List UInt8) (k : Nat) : (chunk l k).length = min 53 (l.length - 53 * k) := by simp [chunk]
theorem chunk_le (l : List UInt8) (k : Nat) : (chunk l k).length ≤ 53 := by rw [chunk_len]; omega
/-- From the k-th chunk on, so many. -/
theorem chunk_next (l : List UInt8) (a m : Nat) : (l.drop (53 * a)).take (53 * (m + 1)) = (l.drop (53 * a)).take (53 * m) ++ chunk l (a + m) := by
  unfold chunk
  rw [show 53 * (m + 1) = 53 * m + 53 by omega, List.take_add, List.drop_drop]
  congr 3
  omega
theorem chunk_append (l r : List UInt8) (k : Nat) (h : k < l.length / 53) : chunk (l ++ r) k = chunk l k := by
  unfold chunk
  rw [List.drop_append_of_le_length (by omega), List.take_append_of_le_length (by rw [List.length_drop]; omega)]
theorem chunk_tail (l r : List UInt8) (j : Nat) : chunk (l ++ r) (l.length / 53 + j) = chunk (l.drop (53 * (l.length / 53)) ++ r) j := by
  unfold chunk
  rw [Nat.mul_add, ← List.drop_drop, List.drop_append_of_le_length (by omega)]

/-! ### Segments on their sectors -/
/-- A segment: its slot, its first position, its records. -/
structure Seg where
  slot : Nat
  first : Nat
  recs : List LRec
  deriving Inhabited
def Seg.text (s : Seg) : List UInt8 := strm s.recs
def Seg.end_ (s : Seg) : Nat := s.first + s.recs.length
structure Seg.Ok (s : Seg) : Prop where
  len : s.text.length ≤ 424
  one : ∀ r ∈ s.recs, 1 ≤ r.body.length ∧ r.body.length ≤ 300
  pos : ∀ i (h : i < s.recs.length), (s.recs[i]).pos = s.first + i
  first : 1 ≤ s.first
theorem Seg.Ok.count {s : Seg} (h : s.Ok) : s.recs.length ≤ 212 := by
  have := strm_count s.recs fun r hr => (h.one r hr).1
  have := h.len
  unfold Seg.text at this
  omega
/-- What a log takes of the k-th sector of slot i. -/
def secAt (rows : List (List UInt8)) (p i k : Nat) : Option (Nat × List UInt8) := decL k (rows.getD (p + i * 8 + k) [])
structure SegOn (rows : List (List UInt8)) (p : Nat) (s : Seg) : Prop where
  has : ∀ k, k < nsec s.text.length → secAt rows p s.slot k = some (s.first * 8 + k, chunk s.text k)
  rest : ∀ k, nsec s.text.length ≤ k → k < 8 → ∀ n x, secAt rows p s.slot k = some (n, x) → n < s.first * 8
/-- Segments in their order. -/
structure Chain (segs b0 : Nat) (ks : List Seg) : Prop where
  base : b0 < segs
  len : ks.length ≤ segs
  slot : ∀ i (h : i < ks.length), (ks[i]).slot = (b0 + i) % segs
  ok : ∀ s ∈ ks, s.Ok
  rise : ks.Pairwise fun a b => a.end_ ≤ b.first
  full : ∀ s ∈ ks, s.recs ≠ []
  cost : ∀ i (h : i + 1 < ks.length), 461 ≤ costs (ks[i]).recs + costs (ks[i + 1]).recs
structure OnDisk (rows : List (List UInt8)) (p segs : Nat) (ks : List Seg) : Prop where
  on : ∀ s ∈ ks, SegOn rows p s
  none : ∀ i, i < segs → (∀ s ∈ ks, s.slot ≠ i) → ∀ k, k < 8 → secAt rows p i k = none
theorem secAt_same {rows rows' : List (List UInt8)} {p i k segs : Nat} (h : ∀ j, p ≤ j ∧ j < p + 8 * segs → rows'.getD j [] = rows.getD j []) (hi : i < segs) (hk : k < 8) : secAt rows' p i k = secAt rows p i k := by
  unfold secAt; rw [h _ (by omega)]
theorem nsec_le (n : Nat) (h : n ≤ 424) : nsec n ≤ 8 := by unfold nsec; omega
theorem OnDisk.same {rows rows' : List (List UInt8)} {p segs : Nat} {ks : List Seg} (h : OnDisk rows p segs ks) (hs : ∀ j, p ≤ j ∧ j < p + 8 * segs → rows'.getD j [] = rows.getD j []) (hk : ∀ s ∈ ks, s.slot < segs) (hl : ∀ s ∈ ks, s.text.length ≤ 424) : OnDisk rows' p segs ks :=
  ⟨fun s m => ⟨fun k h1 => by rw [secAt_same hs (hk s m) (Nat.lt_of_lt_of_le h1 (nsec_le _ (hl s m)))]; exact (h.on s m).has k h1, fun k h1 h2 n x => by rw [secAt_same hs (hk s m) h2]; exact (h.on s m).rest k h1 h2 n x⟩,
   fun i hi hn k hk' => by rw [secAt_same hs hi hk']; exact h.none i hi hn k hk'⟩
theorem Chain.slot_lt {segs b0 : Nat} {ks : List Seg} (h : Chain segs b0 ks) : ∀ s ∈ ks, s.slot < segs := fun s hs => by
  obtain ⟨i, hi, rfl⟩ := List.getElem_of_mem hs
  rw [h.slot i hi]
  exact Nat.mod_lt _ (by have := h.base; omega)
theorem Chain.slot_inj {segs b0 : Nat} {ks : List Seg} (h : Chain segs b0 ks) {i j : Nat} (hi : i < ks.length) (hj : j < ks.length) (e : (ks[i]).slot = (ks[j]).slot) : i = j := by
  rw [h.slot i hi, h.slot j hj] at e
  have h1 := h.base
  have h2 := h.len
  have e1 : (b0 + i) % segs = if b0 + i < segs then b0 + i else b0 + i - segs := by
    split
    · exact Nat.mod_eq_of_lt (by assumption)
    · rw [Nat.mod_eq_sub_mod (by omega), Nat.mod_eq_of_lt (by omega)]
  have e2 : (b0 + j) % segs = if b0 + j < segs then b0 + j else b0 + j - segs := by
    split
    · exact Nat.mod_eq_of_lt (by assumption)
    · rw [Nat.mod_eq_sub_mod (by omega), Nat.mod_eq_of_lt (by omega)]
  rw [e1, e2] at e
  split at e <;> split at e <;> omega

end Go.Proofs.YtgdbkmecfbkobaaDoor
