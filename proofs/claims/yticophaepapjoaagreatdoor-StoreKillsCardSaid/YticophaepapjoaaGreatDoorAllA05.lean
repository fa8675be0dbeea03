/-
  MadeRead, Of, SlgMath: texts of mine, joined.
-/
import Derived.Test.YticophaepapjoaaGreatDoorAllA01
import Derived.Test.YticophaepapjoaaGreatDoorAllA03
import Derived.Lib.Hide
namespace Go.Proofs.YticophaepapjoaaGreatDoor
open Go Go.RowKit Go.Joins
set_option maxHeartbeats 400000 in
theorem dread_any (w : World) (p : Nat) (F : Foot) (s : SDev) (h : DAt w p F s) (i : Int) (hi1 : -9223372036854775808 ≤ i) (hi2 : i < 9223372036854775808) :
  Calls Tryz.prog 146 #[.pointer (some ⟨p, 0, none⟩), .int .i64 i] w fun e w' => ∃ v, e = .returned (.tuple #[v, .int .i64 (s.readE i)]) ∧ OwnB w' w.heap.size v (s.readL i) ∧ Keeps (fun _ => True) w w' := by
 have hch := dcheck_any w p F s h i
 by_cases hi : i < 0 ∨ (s.now.length : Int) ≤ i
 ·have hr : s.readE i = 4 := if_pos hi
  have hl : s.readL i = [] := if_pos hi
  rw [hr] at hch ⊢
  rw [hl]
  have H := Lib.hid (show ∃ v, Ending.returned (.tuple #[.slice none 0 0, .int .i64 4]) = .returned (.tuple #[v, .int .i64 4]) ∧ OwnB w w.heap.size v [] ∧ Keeps (fun _ => True) w w from ⟨_, rfl, World.ownsRow_nil _ _ _ _, Keeps.refl _ _⟩)
  have HC := Lib.hid hch
  clear hr hl hch h hi hi1 hi2
  go_enter Tryz.func146, Tryz.ntmps146
  go_wp2_with fail
  refine HC.out.mono ?_
  rintro e w' ⟨rfl, rfl⟩
  go_wp2_with fail
  go_ret2
  exact H.out
 ·have hr : s.readE i = 0 := if_neg hi
  obtain ⟨k, rfl⟩ : ∃ k : Nat, i = (k : Int) := ⟨i.toNat, by omega⟩
  have hk : k < s.now.length := by omega
  have hl : s.readL (k : Int) = s.now[k] := (if_neg hi).trans (by rw [Int.toNat_natCast, getD_mem _ _ _ hk])
  rw [hr] at hch ⊢
  rw [hl]
  obtain ⟨g, c, m, h1, h2, h3, h4, m1, m2, m3⟩ := h.ex
  have c0 : w.cell? ⟨p, 0, none⟩ = some (.slice (some ⟨g, 0, none⟩) s.now.length c) := (cell_of_block h1 0).trans rfl
  have hlen : s.now[k].length = 64 := h.ok.nrow _ (List.getElem_mem hk)
  have hcl := clone_any (some ⟨g, k * 64, none⟩) 64 (fun _ => True) s.now[k] w (fun _ => ⟨g, k * 64, rfl, trivial, DAt.row h2 h.ok.nrow k hk⟩) (by omega)
  rw [hlen] at hcl
  have hsm := h.ok.small
  have HC := Lib.hid hch
  have HL := Lib.hid hcl
  clear hr hl hch h hi hi1 hi2 h1 h2 h3 h4 hcl hlen m1 m2 m3
  go_enter Tryz.func146, Tryz.ntmps146
  go_wp2_with fail
  refine HC.out.mono ?_
  rintro e w' ⟨rfl, rfl⟩
  go_wp2_with fail
  refine HL.out.mono ?_
  rintro e w' ⟨v, rfl, ho, hk'⟩
  have H1 := Lib.hid ho
  have H2 := Lib.hid hk'
  clear ho hk'
  go_wp2_with fail
  go_ret2
  exact ⟨_, rfl, H1.out, H2.out⟩
end Go.Proofs.YticophaepapjoaaGreatDoor
namespace Go.Proofs.YticophaepapjoaaGreatDoor
open Go.RowKit
def stepZ (h c : Int) : Int := IntKind.u64.wrap (stZ (bits .xor .u64 h (IntKind.u64.wrap c)) + 1)
def bytesZ (h : Int) (l : List UInt8) : Int := l.foldl (fun h c => stepZ h (c.toNat : Int)) h
def endZ (h : Int) (n : Nat) : Int := stZ (bits .xor .u64 h (256 + (n : Int)))
def partZ (h : Int) (s : ByteArray) : Int := endZ (bytesZ h s.data.toList) s.size
def partsZ (ss : List ByteArray) : Int := ss.foldl partZ 11400714819323198485
theorem take_snoc (s : ByteArray) (k : Nat) (h : k < s.size) : s.data.toList.take (k + 1) = s.data.toList.take k ++ [s[k]] := by
 rw [List.take_succ_eq_append_getElem (by simpa using h)]; rfl
theorem bytesZ_snoc (h : Int) (l : List UInt8) (c : UInt8) : bytesZ h (l ++ [c]) = stepZ (bytesZ h l) (c.toNat : Int) := by
 unfold bytesZ; rw [List.foldl_append]; rfl
theorem bytesZ_next (h : Int) (s : ByteArray) (k : Nat) (hk : k < s.size) :
  bytesZ h (s.data.toList.take (k + 1)) = IntKind.u64.wrap (stZ (bits .xor .u64 (bytesZ h (s.data.toList.take k)) (IntKind.u64.wrap (s[k].toNat : Int))) + 1) := by
 rw [take_snoc s k hk, bytesZ_snoc]; rfl
theorem bytesZ_all (h : Int) (s : ByteArray) (k : Nat) (h1 : k ≤ s.size) (h2 : ¬ k < s.size) : bytesZ h (s.data.toList.take k) = bytesZ h s.data.toList := by
 rw [List.take_of_length_le]
 have : s.data.toList.length = s.size := by simp
 omega
theorem getD_at (ss : List ByteArray) (k : Nat) (h : k < ss.length) : ss.getD k ByteArray.empty = ss[k] := by
 rw [List.getD_eq_getElem?_getD, List.getElem?_eq_getElem h]; rfl
theorem partsZ_next (ss : List ByteArray) (k : Nat) (h : k < ss.length) : partsZ (ss.take (k + 1)) = partZ (partsZ (ss.take k)) (ss.getD k ByteArray.empty) := by
 unfold partsZ
 rw [List.take_succ_eq_append_getElem h, List.foldl_append, getD_at ss k h]; rfl
theorem partsZ_all (ss : List ByteArray) (k : Nat) (h1 : k ≤ ss.length) (h2 : ¬ k < ss.length) : partsZ (ss.take k) = partsZ ss := by
 rw [List.take_of_length_le (by omega)]
theorem part_any (h : Int) (s : ByteArray) (hs : s.size ≤ maxLen) (w : World) :
  Calls Tryz.prog 102 #[.int .u64 h, .string s] w fun e w' => e = .returned (.int .u64 (partZ h s)) ∧ w = w' := by
 unfold maxLen at hs
 go_enter Tryz.func102, Tryz.ntmps102
 go_wp2
 go_loop [0, 5] (fun t i => ∃ k : Nat, k ≤ s.size ∧ i = .int .i64 k ∧ t = .int .u64 (bytesZ h (s.data.toList.take k))) (fun _ i => s.size - (intOf i).toNat)
 case atStart => exact ⟨0, Nat.zero_le _, rfl, rfl⟩
 case round =>
  obtain ⟨k, hk, rfl, rfl⟩ := hrel
  by_cases hlt : k < s.size
  ·have H := Lib.hid (bytesZ_next h s k hlt)
   go_wp2_with (go_at_call 130; refine (stir_any _ (xor_nonneg _ _) (xor_lt _ _) _).mono ?_; rintro e w' ⟨rfl, rfl⟩)
   go_round
   case rel => exact ⟨k + 1, by omega, by go_num, by rw [H.out]⟩
   case measure => simp [intOf]; omega
  ·go_wp2_with (go_at_call 130; refine (stir_any _ (xor_nonneg _ _) (xor_lt _ _) _).mono ?_; rintro e w' ⟨rfl, rfl⟩)
   go_ret
   exact ⟨ret_u64 (by unfold partZ endZ; rw [← bytesZ_all h s k hk hlt]), rfl⟩
theorem of_any (ss : List ByteArray) (b o cap : Nat) (w : World) (hn : ss.length ≤ maxLen) (hs : ∀ s ∈ ss, s.size ≤ maxLen)
  (hc : ∀ i, i < ss.length → w.cell? ⟨b, o + i, none⟩ = some (.string (ss.getD i ByteArray.empty))) :
  Calls Tryz.prog 69 #[.slice (some ⟨b, o, none⟩) ss.length cap] w fun e w' => e = .returned (.int .u64 (partsZ ss)) ∧ w = w' := by
 unfold maxLen at hn
 go_enter Tryz.func69, Tryz.ntmps69
 go_wp2
 go_loop [3, 8] (fun t i => ∃ k : Nat, k ≤ ss.length ∧ i = .int .i64 k ∧ t = .int .u64 (partsZ (ss.take k))) (fun _ i => ss.length - (intOf i).toNat)
 case atStart => exact ⟨0, Nat.zero_le _, rfl, rfl⟩
 case round =>
  obtain ⟨k, hk, rfl, rfl⟩ := hrel
  by_cases hlt : k < ss.length
  ·have H := Lib.hid (partsZ_next ss k hlt)
   have hcell := hc k hlt
   have hsz : (ss.getD k ByteArray.empty).size ≤ maxLen := by
    rw [getD_at ss k hlt]; exact hs _ (List.getElem_mem hlt)
   clear hc
   generalize ss.getD k ByteArray.empty = s at hcell hsz H
   go_wp2_with (go_at_call 102; refine (part_any _ _ hsz _).mono ?_; rintro e w' ⟨rfl, rfl⟩)
   go_round
   case rel => exact ⟨k + 1, by omega, by go_num, by rw [H.out]⟩
   case measure => simp [intOf]; omega
  ·go_wp2
   go_ret
   exact ⟨ret_u64 (partsZ_all ss k hk hlt), rfl⟩
end Go.Proofs.YticophaepapjoaaGreatDoor
namespace Go.Proofs.YticophaepapjoaaGreatDoor
def takeL (k : Nat) : Option (Int × List UInt8) → Option (Nat × List UInt8)
 | none => none
 | some (n, x) => if n < 8 ∨ 2199023255552 ≤ n ∨ n % 8 ≠ (k : Int) ∨ 53 < x.length then none else some (n.toNat, x)
def decL (k : Nat) (l : List UInt8) : Option (Nat × List UInt8) := takeL k (decF 76 l)
def encL (n : Nat) (x : List UInt8) : List UInt8 := encF 76 n x
theorem encL_len (n : Nat) (x : List UInt8) (hn : n < 2199023255552) (hx : x.length ≤ 53) : (encL n x).length = 64 := encF_len _ _ _ (headS_len n x hx hn)
theorem decL_enc (n : Nat) (x : List UInt8) (k : Nat) (h8 : 8 ≤ n) (hn : n < 2199023255552) (hk : n % 8 = k) (hx : x.length ≤ 53) : decL k (encL n x) = some (n, x) := by
 unfold decL encL
 rw [decF_enc _ n x (headS_len n x hx hn) (by omega) (by omega)]
 unfold takeL
 simp only
 rw [if_neg (by omega), Int.toNat_natCast]
theorem decL_blank (k : Nat) : decL k blank = none := by
 unfold decL
 rcases decF_blank 76 with h | h <;> rw [h]
 ·rfl
 ·unfold takeL; simp
theorem decL_wf {k : Nat} {l : List UInt8} {n : Nat} {x : List UInt8} (h : decL k l = some (n, x)) : 8 ≤ n ∧ n < 2199023255552 ∧ n % 8 = k ∧ x.length ≤ 53 := by
 unfold decL takeL at h
 split at h
 ·cases h
 ·split at h
  ·cases h
  ·rename_i n' x' _ hc
   injection h with h
   injection h with h1 h2
   subst h1 h2
   omega
def strm (rs : List LRec) : List UInt8 := rs.flatMap fun r => putT r.body
theorem strm_snoc (rs : List LRec) (r : LRec) : strm (rs ++ [r]) = strm rs ++ putT r.body := by simp [strm]
theorem strm_append (a b : List LRec) : strm (a ++ b) = strm a ++ strm b := by simp [strm]
def endAt (rs : List LRec) (i : Nat) : Nat := (strm (rs.take i)).length
theorem endAt_zero (rs : List LRec) : endAt rs 0 = 0 := by simp [endAt, strm]
theorem endAt_len (rs : List LRec) : endAt rs rs.length = (strm rs).length := by simp [endAt]
theorem endAt_next (rs : List LRec) (i : Nat) (h : i < rs.length) : endAt rs (i + 1) = endAt rs i + (putT rs[i].body).length := by
 unfold endAt; rw [take_next _ _ h, strm_snoc, List.length_append]
theorem strm_split (rs : List LRec) (i : Nat) : strm rs = strm (rs.take i) ++ strm (rs.drop i) := by
 rw [← strm_append, List.take_append_drop]
theorem strm_drop (rs : List LRec) (i : Nat) : (strm rs).drop (endAt rs i) = strm (rs.drop i) := by
 conv => lhs; arg 2; rw [strm_split rs i]
 exact List.drop_left
theorem endAt_le (rs : List LRec) (i : Nat) : endAt rs i ≤ (strm rs).length := by
 rw [strm_split rs i, List.length_append]; unfold endAt; omega
theorem strm_at (rs : List LRec) (i : Nat) (h : i < rs.length) : (strm rs).drop (endAt rs i) = putT rs[i].body ++ strm (rs.drop (i + 1)) := by
 rw [strm_drop, List.drop_eq_getElem_cons h]; rfl
theorem strm_rec (rs : List LRec) (i : Nat) (h : i < rs.length) : ((strm rs).drop (endAt rs i)).take (endAt rs (i + 1) - endAt rs i) = putT rs[i].body := by
 rw [strm_at rs i h, endAt_next rs i h, Nat.add_sub_cancel_left]; exact List.take_left
theorem putT_pos (x : List UInt8) : x.length + 1 ≤ (putT x).length := by
 unfold putT; rw [List.length_append]
 have := vin_pos (zig (x.length : Int))
 unfold putZ; omega
theorem putT_most (x : List UInt8) (h : x.length ≤ 300) : (putT x).length ≤ x.length + 2 := by
 unfold putT; rw [List.length_append]
 have : (putZ (x.length : Int)).length ≤ 2 := by
  unfold putZ
  refine vin_len 1 _ ?_
  have : zig (x.length : Int) = 2 * x.length := by unfold zig; rw [if_neg (by omega)]; omega
  rw [this]
  have e : (128 : Nat) ^ (1 + 1) = 16384 := by decide
  omega
 omega
theorem strm_count (rs : List LRec) (h : ∀ r ∈ rs, 1 ≤ r.body.length) : 2 * rs.length ≤ (strm rs).length := by
 induction rs with
 | nil => simp [strm]
 | cons r rs ih =>
  have h1 := h r (by simp)
  have h2 := ih fun r hr => h r (by simp [hr])
  have h3 := putT_pos r.body
  have e : strm (r :: rs) = putT r.body ++ strm rs := by simp [strm]
  rw [e, List.length_append, List.length_cons]; omega
theorem endAt_lt (rs : List LRec) (i : Nat) (h : i < rs.length) : endAt rs i < endAt rs (i + 1) := by
 rw [endAt_next rs i h]; have := putT_pos rs[i].body; omega
theorem strm_costs (rs : List LRec) (h : ∀ r ∈ rs, r.body.length ≤ 300) : (strm rs).length + 58 * rs.length ≤ costs rs := by
 induction rs with
 | nil => simp [strm, costs]
 | cons r rs ih =>
  have h2 := ih fun r hr => h r (by simp [hr])
  have h3 := putT_most r.body (h r (by simp))
  have e : strm (r :: rs) = putT r.body ++ strm rs := by simp [strm]
  have e2 : costs (r :: rs) = r.cost + costs rs := by simp [costs]
  rw [e, e2, List.length_append, List.length_cons]
  unfold LRec.cost; omega
def chunk (l : List UInt8) (k : Nat) : List UInt8 := (l.drop (53 * k)).take 53
def nsec (n : Nat) : Nat := max 1 ((n + 52) / 53)
theorem chunk_len (l : List UInt8) (k : Nat) : (chunk l k).length = min 53 (l.length - 53 * k) := by simp [chunk]
theorem chunk_next (l : List UInt8) (a m : Nat) : (l.drop (53 * a)).take (53 * (m + 1)) = (l.drop (53 * a)).take (53 * m) ++ chunk l (a + m) := by
 unfold chunk
 rw [show 53 * (m + 1) = 53 * m + 53 by omega, List.take_add, List.drop_drop]
 congr 3
 omega
theorem chunk_append (l r : List UInt8) (k : Nat) (h : k < l.length / 53) : chunk (l ++ r) k = chunk l k := by
 unfold chunk
 rw [List.drop_append_of_le_length (by omega), List.take_append_of_le_length (by rw [List.length_drop]; omega)]
theorem chunk_tail (l r : List UInt8) (j : Nat) : chunk (l ++ r) (l.length / 53 + j) = chunk (l.drop (53 * (l.length / 53)) ++ r) j := by
 unfold chunk
 rw [Nat.mul_add, ← List.drop_drop, List.drop_append_of_le_length (by omega)]
structure Seg where
 slot : Nat
 first : Nat
 recs : List LRec
 deriving Inhabited
def Seg.text (s : Seg) : List UInt8 := strm s.recs
def Seg.end_ (s : Seg) : Nat := s.first + s.recs.length
structure Seg.Ok (s : Seg) : Prop where
 len : s.text.length ≤ 424
 one : ∀ r ∈ s.recs, 1 ≤ r.body.length ∧ r.body.length ≤ 300
 pos : ∀ i (h : i < s.recs.length), (s.recs[i]).pos = s.first + i
 first : 1 ≤ s.first
theorem Seg.Ok.count {s : Seg} (h : s.Ok) : s.recs.length ≤ 212 := by
 have := strm_count s.recs fun r hr => (h.one r hr).1
 have := h.len
 unfold Seg.text at this
 omega
def secAt (rows : List (List UInt8)) (p i k : Nat) : Option (Nat × List UInt8) := decL k (rows.getD (p + i * 8 + k) [])
structure SegOn (rows : List (List UInt8)) (p : Nat) (s : Seg) : Prop where
 has : ∀ k, k < nsec s.text.length → secAt rows p s.slot k = some (s.first * 8 + k, chunk s.text k)
 rest : ∀ k, nsec s.text.length ≤ k → k < 8 → ∀ n x, secAt rows p s.slot k = some (n, x) → n < s.first * 8
structure Chain (segs b0 : Nat) (ks : List Seg) : Prop where
 base : b0 < segs
 len : ks.length ≤ segs
 slot : ∀ i (h : i < ks.length), (ks[i]).slot = (b0 + i) % segs
 ok : ∀ s ∈ ks, s.Ok
 rise : ks.Pairwise fun a b => a.end_ ≤ b.first
 full : ∀ s ∈ ks, s.recs ≠ []
 cost : ∀ i (h : i + 1 < ks.length), 461 ≤ costs (ks[i]).recs + costs (ks[i + 1]).recs
structure OnDisk (rows : List (List UInt8)) (p segs : Nat) (ks : List Seg) : Prop where
 on : ∀ s ∈ ks, SegOn rows p s
 none : ∀ i, i < segs → (∀ s ∈ ks, s.slot ≠ i) → ∀ k, k < 8 → secAt rows p i k = none
theorem secAt_same {rows rows' : List (List UInt8)} {p i k segs : Nat} (h : ∀ j, p ≤ j ∧ j < p + 8 * segs → rows'.getD j [] = rows.getD j []) (hi : i < segs) (hk : k < 8) : secAt rows' p i k = secAt rows p i k := by
 unfold secAt; rw [h _ (by omega)]
theorem nsec_le (n : Nat) (h : n ≤ 424) : nsec n ≤ 8 := by unfold nsec; omega
theorem OnDisk.same {rows rows' : List (List UInt8)} {p segs : Nat} {ks : List Seg} (h : OnDisk rows p segs ks) (hs : ∀ j, p ≤ j ∧ j < p + 8 * segs → rows'.getD j [] = rows.getD j []) (hk : ∀ s ∈ ks, s.slot < segs) (hl : ∀ s ∈ ks, s.text.length ≤ 424) : OnDisk rows' p segs ks :=
 ⟨fun s m => ⟨fun k h1 => by rw [secAt_same hs (hk s m) (Nat.lt_of_lt_of_le h1 (nsec_le _ (hl s m)))]; exact (h.on s m).has k h1, fun k h1 h2 n x => by rw [secAt_same hs (hk s m) h2]; exact (h.on s m).rest k h1 h2 n x⟩,
  fun i hi hn k hk' => by rw [secAt_same hs hi hk']; exact h.none i hi hn k hk'⟩
theorem Chain.slot_lt {segs b0 : Nat} {ks : List Seg} (h : Chain segs b0 ks) : ∀ s ∈ ks, s.slot < segs := fun s hs => by
 obtain ⟨i, hi, rfl⟩ := List.getElem_of_mem hs
 rw [h.slot i hi]
 exact Nat.mod_lt _ (by have := h.base; omega)
theorem Chain.slot_inj {segs b0 : Nat} {ks : List Seg} (h : Chain segs b0 ks) {i j : Nat} (hi : i < ks.length) (hj : j < ks.length) (e : (ks[i]).slot = (ks[j]).slot) : i = j := by
 rw [h.slot i hi, h.slot j hj] at e
 have h1 := h.base
 have h2 := h.len
 have e1 : (b0 + i) % segs = if b0 + i < segs then b0 + i else b0 + i - segs := by
  split
  ·exact Nat.mod_eq_of_lt (by assumption)
  ·rw [Nat.mod_eq_sub_mod (by omega), Nat.mod_eq_of_lt (by omega)]
 have e2 : (b0 + j) % segs = if b0 + j < segs then b0 + j else b0 + j - segs := by
  split
  ·exact Nat.mod_eq_of_lt (by assumption)
  ·rw [Nat.mod_eq_sub_mod (by omega), Nat.mod_eq_of_lt (by omega)]
 rw [e1, e2] at e
 split at e <;> split at e <;> omega
end Go.Proofs.YticophaepapjoaaGreatDoor
