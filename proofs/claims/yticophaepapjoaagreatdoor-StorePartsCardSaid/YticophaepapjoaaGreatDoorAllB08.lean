/-
  MadeRead, Of, SlgMath, SlgLocs, Concat: texts of mine, joined.
-/
import Derived.Test.YticophaepapjoaaGreatDoorAllB06
import Derived.Test.YticophaepapjoaaGreatDoorAllB03
import Derived.Lib.Hide
import Derived.Test.YticophaepapjoaaGreatDoorAllB04
import Derived.Test.YticophaepapjoaaGreatDoorAllB02
import Derived.Test.YticophaepapjoaaGreatDoorAllB07
import Derived.Lib.SmallJoins
import Derived.Test.YticophaepapjoaaGreatDoorProg
import Derived.WalkKit
import Derived.WalkSpells
import Derived.Outline
open Go.Lib renaming hid → Hd
set_option maxRecDepth 100000
set_option maxHeartbeats 8000000
namespace Go.Proofs.YticophaepapjoaaGreatDoor
open Go Go.RowKit Go.Joins
theorem dread_any (w : World) (p : Nat) (F : Foot) (s : SDev) (h : DAt w p F s) (i : Int) (hi1 : -9223372036854775808 ≤ i) (hi2 : i < 9223372036854775808) :
  Calls Tryz.prog 146 #[.pointer (some ⟨p, 0, none⟩), .int .i64 i] w fun e w' => ∃ v, e = .returned (.tuple #[v, .int .i64 (s.readE i)]) ∧ OwnB w' w.heap.size v (s.readL i) ∧ Keeps (fun _ => True) w w' := by
 have hch := dcheck_any w p F s h i
 by_cases hi : i < 0 ∨ (s.now.length : Int) ≤ i
 ·have hr : s.readE i = 4 := if_pos hi
  have hl : s.readL i = [] := if_pos hi
  rw [hr] at hch ⊢
  rw [hl]
  have H := Hd (show ∃ v, Ending.returned (.tuple #[.slice none 0 0, .int .i64 4]) = .returned (.tuple #[v, .int .i64 4]) ∧ OwnB w w.heap.size v [] ∧ Keeps (fun _ => True) w w from ⟨_, rfl, World.ownsRow_nil _ _ _ _, Keeps.refl _ _⟩)
  have HC := Hd hch
  clear hr hl hch h hi hi1 hi2
  go_enter Tryz.func146, Tryz.ntmps146
  go_wp2_with fail
  refine HC.out.mono ?_
  rintro e w' ⟨rfl, rfl⟩
  go_wp2_with fail
  go_ret2
  exact H.out
 ·have hr : s.readE i = 0 := if_neg hi
  obtain ⟨k, rfl⟩ : ∃ k : Nat, i = (k : Int) := ⟨i.toNat, by omega⟩
  have hk : k < s.now.length := by omega
  have hl : s.readL (k : Int) = s.now[k] := (if_neg hi).trans (by rw [Int.toNat_natCast, getD_mem _ _ _ hk])
  rw [hr] at hch ⊢
  rw [hl]
  obtain ⟨g, c, m, h1, h2, h3, h4, m1, m2, m3⟩ := h.ex
  have c0 : w.cell? ⟨p, 0, none⟩ = some (.slice (some ⟨g, 0, none⟩) s.now.length c) := (cell_of_block h1 0).trans rfl
  have hlen : s.now[k].length = 64 := h.ok.nrow _ (List.getElem_mem hk)
  have hcl := clone_any (some ⟨g, k * 64, none⟩) 64 (fun _ => True) s.now[k] w (fun _ => ⟨g, k * 64, rfl, trivial, DAt.row h2 h.ok.nrow k hk⟩) (by omega)
  rw [hlen] at hcl
  have hsm := h.ok.small
  have HC := Hd hch
  have HL := Hd hcl
  clear hr hl hch h hi hi1 hi2 h1 h2 h3 h4 hcl hlen m1 m2 m3
  go_enter Tryz.func146, Tryz.ntmps146
  go_wp2_with fail
  refine HC.out.mono ?_
  rintro e w' ⟨rfl, rfl⟩
  go_wp2_with fail
  refine HL.out.mono ?_
  rintro e w' ⟨v, rfl, ho, hk'⟩
  have H1 := Hd ho
  have H2 := Hd hk'
  clear ho hk'
  go_wp2_with fail
  go_ret2
  exact ⟨_, rfl, H1.out, H2.out⟩
end Go.Proofs.YticophaepapjoaaGreatDoor
namespace Go.Proofs.YticophaepapjoaaGreatDoor
open Go.RowKit
def stepZ (h c : Int) : Int := IntKind.u64.wrap (stZ (bits .xor .u64 h (IntKind.u64.wrap c)) + 1)
def bytesZ (h : Int) (l : List UInt8) : Int := l.foldl (fun h c => stepZ h (c.toNat : Int)) h
def endZ (h : Int) (n : Nat) : Int := stZ (bits .xor .u64 h (256 + (n : Int)))
def partZ (h : Int) (s : ByteArray) : Int := endZ (bytesZ h s.data.toList) s.size
def partsZ (ss : List ByteArray) : Int := ss.foldl partZ 11400714819323198485
theorem take_snoc (s : ByteArray) (k : Nat) (h : k < s.size) : s.data.toList.take (k + 1) = s.data.toList.take k ++ [s[k]] := by
 rw [List.take_succ_eq_append_getElem (by simpa using h)]; rfl
theorem bytesZ_snoc (h : Int) (l : List UInt8) (c : UInt8) : bytesZ h (l ++ [c]) = stepZ (bytesZ h l) (c.toNat : Int) := by
 unfold bytesZ; rw [List.foldl_append]; rfl
theorem bytesZ_next (h : Int) (s : ByteArray) (k : Nat) (hk : k < s.size) :
  bytesZ h (s.data.toList.take (k + 1)) = IntKind.u64.wrap (stZ (bits .xor .u64 (bytesZ h (s.data.toList.take k)) (IntKind.u64.wrap (s[k].toNat : Int))) + 1) := by
 rw [take_snoc s k hk, bytesZ_snoc]; rfl
theorem bytesZ_all (h : Int) (s : ByteArray) (k : Nat) (h1 : k ≤ s.size) (h2 : ¬ k < s.size) : bytesZ h (s.data.toList.take k) = bytesZ h s.data.toList := by
 rw [List.take_of_length_le]
 have : s.data.toList.length = s.size := by simp
 omega
theorem getD_at (ss : List ByteArray) (k : Nat) (h : k < ss.length) : ss.getD k ByteArray.empty = ss[k] := by
 rw [List.getD_eq_getElem?_getD, List.getElem?_eq_getElem h]; rfl
theorem partsZ_next (ss : List ByteArray) (k : Nat) (h : k < ss.length) : partsZ (ss.take (k + 1)) = partZ (partsZ (ss.take k)) (ss.getD k ByteArray.empty) := by
 unfold partsZ
 rw [List.take_succ_eq_append_getElem h, List.foldl_append, getD_at ss k h]; rfl
theorem partsZ_all (ss : List ByteArray) (k : Nat) (h1 : k ≤ ss.length) (h2 : ¬ k < ss.length) : partsZ (ss.take k) = partsZ ss := by
 rw [List.take_of_length_le (by omega)]
theorem part_any (h : Int) (s : ByteArray) (hs : s.size ≤ maxLen) (w : World) :
  Calls Tryz.prog 102 #[.int .u64 h, .string s] w fun e w' => e = .returned (.int .u64 (partZ h s)) ∧ w = w' := by
 unfold maxLen at hs
 go_enter Tryz.func102, Tryz.ntmps102
 go_wp2
 go_loop [0, 5] (fun t i => ∃ k : Nat, k ≤ s.size ∧ i = .int .i64 k ∧ t = .int .u64 (bytesZ h (s.data.toList.take k))) (fun _ i => s.size - (intOf i).toNat)
 case atStart => exact ⟨0, Nat.zero_le _, rfl, rfl⟩
 case round =>
  obtain ⟨k, hk, rfl, rfl⟩ := hrel
  by_cases hlt : k < s.size
  ·have H := Hd (bytesZ_next h s k hlt)
   go_wp2_with (go_at_call 130; refine (stir_any _ (xor_nonneg _ _) (xor_lt _ _) _).mono ?_; rintro e w' ⟨rfl, rfl⟩)
   go_round
   case rel => exact ⟨k + 1, by omega, by go_num, by rw [H.out]⟩
   case measure => simp [intOf]; omega
  ·go_wp2_with (go_at_call 130; refine (stir_any _ (xor_nonneg _ _) (xor_lt _ _) _).mono ?_; rintro e w' ⟨rfl, rfl⟩)
   go_ret
   exact ⟨ret_u64 (by unfold partZ endZ; rw [← bytesZ_all h s k hk hlt]), rfl⟩
theorem of_any (ss : List ByteArray) (b o cap : Nat) (w : World) (hn : ss.length ≤ maxLen) (hs : ∀ s ∈ ss, s.size ≤ maxLen)
  (hc : ∀ i, i < ss.length → w.cell? ⟨b, o + i, none⟩ = some (.string (ss.getD i ByteArray.empty))) :
  Calls Tryz.prog 69 #[.slice (some ⟨b, o, none⟩) ss.length cap] w fun e w' => e = .returned (.int .u64 (partsZ ss)) ∧ w = w' := by
 unfold maxLen at hn
 go_enter Tryz.func69, Tryz.ntmps69
 go_wp2
 go_loop [3, 8] (fun t i => ∃ k : Nat, k ≤ ss.length ∧ i = .int .i64 k ∧ t = .int .u64 (partsZ (ss.take k))) (fun _ i => ss.length - (intOf i).toNat)
 case atStart => exact ⟨0, Nat.zero_le _, rfl, rfl⟩
 case round =>
  obtain ⟨k, hk, rfl, rfl⟩ := hrel
  by_cases hlt : k < ss.length
  ·have H := Hd (partsZ_next ss k hlt)
   have hcell := hc k hlt
   have hsz : (ss.getD k ByteArray.empty).size ≤ maxLen := by
    rw [getD_at ss k hlt]; exact hs _ (List.getElem_mem hlt)
   clear hc
   generalize ss.getD k ByteArray.empty = s at hcell hsz H
   go_wp2_with (go_at_call 102; refine (part_any _ _ hsz _).mono ?_; rintro e w' ⟨rfl, rfl⟩)
   go_round
   case rel => exact ⟨k + 1, by omega, by go_num, by rw [H.out]⟩
   case measure => simp [intOf]; omega
  ·go_wp2
   go_ret
   exact ⟨ret_u64 (partsZ_all ss k hk hlt), rfl⟩
end Go.Proofs.YticophaepapjoaaGreatDoor
namespace Go.Proofs.YticophaepapjoaaGreatDoor
def takeL (k : Nat) : Option (Int × List UInt8) → Option (Nat × List UInt8)
 | none => none
 | some (n, x) => if n < 8 ∨ 2199023255552 ≤ n ∨ n % 8 ≠ (k : Int) ∨ 53 < x.length then none else some (n.toNat, x)
def decL (k : Nat) (l : List UInt8) : Option (Nat × List UInt8) := takeL k (decF 76 l)
def encL (n : Nat) (x : List UInt8) : List UInt8 := encF 76 n x
theorem encL_len (n : Nat) (x : List UInt8) (hn : n < 2199023255552) (hx : x.length ≤ 53) : (encL n x).length = 64 := encF_len _ _ _ (headS_len n x hx hn)
theorem decL_enc (n : Nat) (x : List UInt8) (k : Nat) (h8 : 8 ≤ n) (hn : n < 2199023255552) (hk : n % 8 = k) (hx : x.length ≤ 53) : decL k (encL n x) = some (n, x) := by
 unfold decL encL
 rw [decF_enc _ n x (headS_len n x hx hn) (by omega) (by omega)]
 unfold takeL
 simp only
 rw [if_neg (by omega), Int.toNat_natCast]
theorem decL_blank (k : Nat) : decL k blank = none := by
 unfold decL
 rcases decF_blank 76 with h | h <;> rw [h]
 ·rfl
 ·unfold takeL; simp
theorem decL_wf {k : Nat} {l : List UInt8} {n : Nat} {x : List UInt8} (h : decL k l = some (n, x)) : 8 ≤ n ∧ n < 2199023255552 ∧ n % 8 = k ∧ x.length ≤ 53 := by
 unfold decL takeL at h
 split at h
 ·cases h
 ·split at h
  ·cases h
  ·rename_i n' x' _ hc
   injection h with h
   injection h with h1 h2
   subst h1 h2
   omega
def strm (rs : List LRec) : List UInt8 := rs.flatMap fun r => putT r.body
theorem strm_snoc (rs : List LRec) (r : LRec) : strm (rs ++ [r]) = strm rs ++ putT r.body := by simp [strm]
theorem strm_append (a b : List LRec) : strm (a ++ b) = strm a ++ strm b := by simp [strm]
def endAt (rs : List LRec) (i : Nat) : Nat := (strm (rs.take i)).length
theorem endAt_zero (rs : List LRec) : endAt rs 0 = 0 := by simp [endAt, strm]
theorem endAt_len (rs : List LRec) : endAt rs rs.length = (strm rs).length := by simp [endAt]
theorem endAt_next (rs : List LRec) (i : Nat) (h : i < rs.length) : endAt rs (i + 1) = endAt rs i + (putT rs[i].body).length := by
 unfold endAt; rw [take_next _ _ h, strm_snoc, List.length_append]
theorem strm_split (rs : List LRec) (i : Nat) : strm rs = strm (rs.take i) ++ strm (rs.drop i) := by
 rw [← strm_append, List.take_append_drop]
theorem strm_drop (rs : List LRec) (i : Nat) : (strm rs).drop (endAt rs i) = strm (rs.drop i) := by
 conv => lhs; arg 2; rw [strm_split rs i]
 exact List.drop_left
theorem endAt_le (rs : List LRec) (i : Nat) : endAt rs i ≤ (strm rs).length := by
 rw [strm_split rs i, List.length_append]; unfold endAt; omega
theorem strm_at (rs : List LRec) (i : Nat) (h : i < rs.length) : (strm rs).drop (endAt rs i) = putT rs[i].body ++ strm (rs.drop (i + 1)) := by
 rw [strm_drop, List.drop_eq_getElem_cons h]; rfl
theorem strm_rec (rs : List LRec) (i : Nat) (h : i < rs.length) : ((strm rs).drop (endAt rs i)).take (endAt rs (i + 1) - endAt rs i) = putT rs[i].body := by
 rw [strm_at rs i h, endAt_next rs i h, Nat.add_sub_cancel_left]; exact List.take_left
theorem putT_pos (x : List UInt8) : x.length + 1 ≤ (putT x).length := by
 unfold putT; rw [List.length_append]
 have := vin_pos (zig (x.length : Int))
 unfold putZ; omega
theorem putT_most (x : List UInt8) (h : x.length ≤ 300) : (putT x).length ≤ x.length + 2 := by
 unfold putT; rw [List.length_append]
 have : (putZ (x.length : Int)).length ≤ 2 := by
  unfold putZ
  refine vin_len 1 _ ?_
  have : zig (x.length : Int) = 2 * x.length := by unfold zig; rw [if_neg (by omega)]; omega
  rw [this]
  have e : (128 : Nat) ^ (1 + 1) = 16384 := by decide
  omega
 omega
theorem strm_count (rs : List LRec) (h : ∀ r ∈ rs, 1 ≤ r.body.length) : 2 * rs.length ≤ (strm rs).length := by
 induction rs with
 | nil => simp [strm]
 | cons r rs ih =>
  have h1 := h r (by simp)
  have h2 := ih fun r hr => h r (by simp [hr])
  have h3 := putT_pos r.body
  have e : strm (r :: rs) = putT r.body ++ strm rs := by simp [strm]
  rw [e, List.length_append, List.length_cons]; omega
theorem endAt_lt (rs : List LRec) (i : Nat) (h : i < rs.length) : endAt rs i < endAt rs (i + 1) := by
 rw [endAt_next rs i h]; have := putT_pos rs[i].body; omega
theorem strm_costs (rs : List LRec) (h : ∀ r ∈ rs, r.body.length ≤ 300) : (strm rs).length + 58 * rs.length ≤ costs rs := by
 induction rs with
 | nil => simp [strm, costs]
 | cons r rs ih =>
  have h2 := ih fun r hr => h r (by simp [hr])
  have h3 := putT_most r.body (h r (by simp))
  have e : strm (r :: rs) = putT r.body ++ strm rs := by simp [strm]
  have e2 : costs (r :: rs) = r.cost + costs rs := by simp [costs]
  rw [e, e2, List.length_append, List.length_cons]
  unfold LRec.cost; omega
def chunk (l : List UInt8) (k : Nat) : List UInt8 := (l.drop (53 * k)).take 53
def nsec (n : Nat) : Nat := max 1 ((n + 52) / 53)
theorem chunk_len (l : List UInt8) (k : Nat) : (chunk l k).length = min 53 (l.length - 53 * k) := by simp [chunk]
theorem chunk_next (l : List UInt8) (a m : Nat) : (l.drop (53 * a)).take (53 * (m + 1)) = (l.drop (53 * a)).take (53 * m) ++ chunk l (a + m) := by
 unfold chunk
 rw [show 53 * (m + 1) = 53 * m + 53 by omega, List.take_add, List.drop_drop]
 congr 3
 omega
theorem chunk_append (l r : List UInt8) (k : Nat) (h : k < l.length / 53) : chunk (l ++ r) k = chunk l k := by
 unfold chunk
 rw [List.drop_append_of_le_length (by omega), List.take_append_of_le_length (by rw [List.length_drop]; omega)]
theorem chunk_tail (l r : List UInt8) (j : Nat) : chunk (l ++ r) (l.length / 53 + j) = chunk (l.drop (53 * (l.length / 53)) ++ r) j := by
 unfold chunk
 rw [Nat.mul_add, ← List.drop_drop, List.drop_append_of_le_length (by omega)]
structure Seg where
 slot : Nat
 first : Nat
 recs : List LRec
 deriving Inhabited
def Seg.text (s : Seg) : List UInt8 := strm s.recs
def Seg.end_ (s : Seg) : Nat := s.first + s.recs.length
structure Seg.Ok (s : Seg) : Prop where
 len : s.text.length ≤ 424
 one : ∀ r ∈ s.recs, 1 ≤ r.body.length ∧ r.body.length ≤ 300
 pos : ∀ i (h : i < s.recs.length), (s.recs[i]).pos = s.first + i
 first : 1 ≤ s.first
theorem Seg.Ok.count {s : Seg} (h : s.Ok) : s.recs.length ≤ 212 := by
 have := strm_count s.recs fun r hr => (h.one r hr).1
 have := h.len
 unfold Seg.text at this
 omega
def secAt (rows : List (List UInt8)) (p i k : Nat) : Option (Nat × List UInt8) := decL k (rows.getD (p + i * 8 + k) [])
structure SegOn (rows : List (List UInt8)) (p : Nat) (s : Seg) : Prop where
 has : ∀ k, k < nsec s.text.length → secAt rows p s.slot k = some (s.first * 8 + k, chunk s.text k)
 rest : ∀ k, nsec s.text.length ≤ k → k < 8 → ∀ n x, secAt rows p s.slot k = some (n, x) → n < s.first * 8
structure Chain (segs b0 : Nat) (ks : List Seg) : Prop where
 base : b0 < segs
 len : ks.length ≤ segs
 slot : ∀ i (h : i < ks.length), (ks[i]).slot = (b0 + i) % segs
 ok : ∀ s ∈ ks, s.Ok
 rise : ks.Pairwise fun a b => a.end_ ≤ b.first
 full : ∀ s ∈ ks, s.recs ≠ []
 cost : ∀ i (h : i + 1 < ks.length), 461 ≤ costs (ks[i]).recs + costs (ks[i + 1]).recs
structure OnDisk (rows : List (List UInt8)) (p segs : Nat) (ks : List Seg) : Prop where
 on : ∀ s ∈ ks, SegOn rows p s
 none : ∀ i, i < segs → (∀ s ∈ ks, s.slot ≠ i) → ∀ k, k < 8 → secAt rows p i k = none
theorem secAt_same {rows rows' : List (List UInt8)} {p i k segs : Nat} (h : ∀ j, p ≤ j ∧ j < p + 8 * segs → rows'.getD j [] = rows.getD j []) (hi : i < segs) (hk : k < 8) : secAt rows' p i k = secAt rows p i k := by
 unfold secAt; rw [h _ (by omega)]
theorem nsec_le (n : Nat) (h : n ≤ 424) : nsec n ≤ 8 := by unfold nsec; omega
theorem OnDisk.same {rows rows' : List (List UInt8)} {p segs : Nat} {ks : List Seg} (h : OnDisk rows p segs ks) (hs : ∀ j, p ≤ j ∧ j < p + 8 * segs → rows'.getD j [] = rows.getD j []) (hk : ∀ s ∈ ks, s.slot < segs) (hl : ∀ s ∈ ks, s.text.length ≤ 424) : OnDisk rows' p segs ks :=
 ⟨fun s m => ⟨fun k h1 => by rw [secAt_same hs (hk s m) (Nat.lt_of_lt_of_le h1 (nsec_le _ (hl s m)))]; exact (h.on s m).has k h1, fun k h1 h2 n x => by rw [secAt_same hs (hk s m) h2]; exact (h.on s m).rest k h1 h2 n x⟩,
  fun i hi hn k hk' => by rw [secAt_same hs hi hk']; exact h.none i hi hn k hk'⟩
theorem Chain.slot_lt {segs b0 : Nat} {ks : List Seg} (h : Chain segs b0 ks) : ∀ s ∈ ks, s.slot < segs := fun s hs => by
 obtain ⟨i, hi, rfl⟩ := List.getElem_of_mem hs
 rw [h.slot i hi]
 exact Nat.mod_lt _ (by have := h.base; omega)
theorem Chain.slot_inj {segs b0 : Nat} {ks : List Seg} (h : Chain segs b0 ks) {i j : Nat} (hi : i < ks.length) (hj : j < ks.length) (e : (ks[i]).slot = (ks[j]).slot) : i = j := by
 rw [h.slot i hi, h.slot j hj] at e
 have h1 := h.base
 have h2 := h.len
 have e1 : (b0 + i) % segs = if b0 + i < segs then b0 + i else b0 + i - segs := by
  split
  ·exact Nat.mod_eq_of_lt (by assumption)
  ·rw [Nat.mod_eq_sub_mod (by omega), Nat.mod_eq_of_lt (by omega)]
 have e2 : (b0 + j) % segs = if b0 + j < segs then b0 + j else b0 + j - segs := by
  split
  ·exact Nat.mod_eq_of_lt (by assumption)
  ·rw [Nat.mod_eq_sub_mod (by omega), Nat.mod_eq_of_lt (by omega)]
 rw [e1, e2] at e
 split at e <;> split at e <;> omega
end Go.Proofs.YticophaepapjoaaGreatDoor
namespace Go.Proofs.YticophaepapjoaaGreatDoor
open Go Go.RowKit Go.Joins
section
variable {o : Oper} {a : Act} {w : World} {Q : Exit → Act → World → Prop} {x y : Operand}
theorem kp_fL0 {b : Nat} (ho : o.op = .fieldAddr 137 x 0) (hx : a.eval x = .pointer (some ⟨b, 0, none⟩)) : o.wp Tryz.prog a w (fun a' w' => ∃ v, a' = a.put o.dst v ∧ Kp w w' ∧ IsV (.pointer (some ⟨b, 0, none⟩)) w' v) Q := by
 refine kp_yield (v := .pointer (some ⟨b, 0, none⟩)) (w' := w) ?_ (Keeps.refl _ _) rfl
 generalize a.eval = ρ at hx ⊢
 unfold execOp
 rw [ho]
 go_simp
theorem kp_fL3 {b : Nat} (ho : o.op = .fieldAddr 137 x 3) (hx : a.eval x = .pointer (some ⟨b, 0, none⟩)) : o.wp Tryz.prog a w (fun a' w' => ∃ v, a' = a.put o.dst v ∧ Kp w w' ∧ IsV (.pointer (some ⟨b, 3, none⟩)) w' v) Q := by
 refine kp_yield (v := .pointer (some ⟨b, 3, none⟩)) (w' := w) ?_ (Keeps.refl _ _) rfl
 generalize a.eval = ρ at hx ⊢
 unfold execOp
 rw [ho]
 go_simp
theorem kp_fL6 {b : Nat} (ho : o.op = .fieldAddr 137 x 6) (hx : a.eval x = .pointer (some ⟨b, 0, none⟩)) : o.wp Tryz.prog a w (fun a' w' => ∃ v, a' = a.put o.dst v ∧ Kp w w' ∧ IsV (.pointer (some ⟨b, 6, none⟩)) w' v) Q := by
 refine kp_yield (v := .pointer (some ⟨b, 6, none⟩)) (w' := w) ?_ (Keeps.refl _ _) rfl
 generalize a.eval = ρ at hx ⊢
 unfold execOp
 rw [ho]
 go_simp
theorem kp_fG0 {b : Nat} (ho : o.op = .fieldAddr 179 x 0) (hx : a.eval x = .pointer (some ⟨b, 0, none⟩)) : o.wp Tryz.prog a w (fun a' w' => ∃ v, a' = a.put o.dst v ∧ Kp w w' ∧ IsV (.pointer (some ⟨b, 0, none⟩)) w' v) Q := by
 refine kp_yield (v := .pointer (some ⟨b, 0, none⟩)) (w' := w) ?_ (Keeps.refl _ _) rfl
 generalize a.eval = ρ at hx ⊢
 unfold execOp
 rw [ho]
 go_simp
theorem kp_fG1 {b : Nat} (ho : o.op = .fieldAddr 179 x 1) (hx : a.eval x = .pointer (some ⟨b, 0, none⟩)) : o.wp Tryz.prog a w (fun a' w' => ∃ v, a' = a.put o.dst v ∧ Kp w w' ∧ IsV (.pointer (some ⟨b, 1, none⟩)) w' v) Q := by
 refine kp_yield (v := .pointer (some ⟨b, 1, none⟩)) (w' := w) ?_ (Keeps.refl _ _) rfl
 generalize a.eval = ρ at hx ⊢
 unfold execOp
 rw [ho]
 go_simp
theorem kp_nilL {p : Addr} (ho : o.op = .nilCheck x) (hx : a.eval x = .pointer (some p)) : o.wp Tryz.prog a w (fun a' w' => ∃ v, a' = a.put o.dst v ∧ Kp w w' ∧ IsV (.pointer (some p)) w' v) Q := by
 refine kp_yield (v := .pointer (some p)) (w' := w) ?_ (Keeps.refl _ _) rfl
 generalize a.eval = ρ at hx ⊢
 unfold execOp
 rw [ho]
 go_simp
theorem kp_lDev {p : Addr} {u : Addr} (hc : w.cell? p = some (.pointer (some u))) (ho : o.op = .load 24 x) (hx : a.eval x = .pointer (some p)) : o.wp Tryz.prog a w (fun a' w' => ∃ v, a' = a.put o.dst v ∧ Kp w w' ∧ IsV (.pointer (some u)) w' v) Q := by
 refine kp_yield (v := .pointer (some u)) (w' := w) ?_ (Keeps.refl _ _) rfl
 generalize a.eval = ρ at hx ⊢
 unfold execOp
 rw [ho]
 go_simp
theorem kp_lInt {p : Addr} {n : Int} (hc : w.cell? p = some (.int .i64 n)) (ho : o.op = .load 3 x) (hx : a.eval x = .pointer (some p)) : o.wp Tryz.prog a w (fun a' w' => ∃ v, a' = a.put o.dst v ∧ Kp w w' ∧ IsV (.int .i64 n) w' v) Q := by
 refine kp_yield (v := .int .i64 n) (w' := w) ?_ (Keeps.refl _ _) rfl
 generalize a.eval = ρ at hx ⊢
 unfold execOp
 rw [ho]
 go_simp
theorem kp_lI64 {p : Addr} {n : Int} (hc : w.cell? p = some (.int .i64 n)) (ho : o.op = .load 2 x) (hx : a.eval x = .pointer (some p)) : o.wp Tryz.prog a w (fun a' w' => ∃ v, a' = a.put o.dst v ∧ Kp w w' ∧ IsV (.int .i64 n) w' v) Q := by
 refine kp_yield (v := .int .i64 n) (w' := w) ?_ (Keeps.refl _ _) rfl
 generalize a.eval = ρ at hx ⊢
 unfold execOp
 rw [ho]
 go_simp
theorem kp_lI {p : Addr} {A : Option Addr} {n c : Nat} (hc : w.cell? p = some (.slice A n c)) (ho : o.op = .load 66 x) (hx : a.eval x = .pointer (some p)) : o.wp Tryz.prog a w (fun a' w' => ∃ v, a' = a.put o.dst v ∧ Kp w w' ∧ IsV (.slice A n c) w' v) Q := by
 refine kp_yield (v := .slice A n c) (w' := w) ?_ (Keeps.refl _ _) rfl
 generalize a.eval = ρ at hx ⊢
 unfold execOp
 rw [ho]
 go_simp
theorem kp_lK {p : Addr} {A : Option Addr} {n c : Nat} (hc : w.cell? p = some (.slice A n c)) (ho : o.op = .load 135 x) (hx : a.eval x = .pointer (some p)) : o.wp Tryz.prog a w (fun a' w' => ∃ v, a' = a.put o.dst v ∧ Kp w w' ∧ IsV (.slice A n c) w' v) Q := by
 refine kp_yield (v := .slice A n c) (w' := w) ?_ (Keeps.refl _ _) rfl
 generalize a.eval = ρ at hx ⊢
 unfold execOp
 rw [ho]
 go_simp
theorem kp_lPL {p : Addr} {u : Addr} (hc : w.cell? p = some (.pointer (some u))) (ho : o.op = .load 89 x) (hx : a.eval x = .pointer (some p)) : o.wp Tryz.prog a w (fun a' w' => ∃ v, a' = a.put o.dst v ∧ Kp w w' ∧ IsV (.pointer (some u)) w' v) Q := by
 refine kp_yield (v := .pointer (some u)) (w' := w) ?_ (Keeps.refl _ _) rfl
 generalize a.eval = ρ at hx ⊢
 unfold execOp
 rw [ho]
 go_simp
theorem kp_lPG {p : Addr} {u : Addr} (hc : w.cell? p = some (.pointer (some u))) (ho : o.op = .load 209 x) (hx : a.eval x = .pointer (some p)) : o.wp Tryz.prog a w (fun a' w' => ∃ v, a' = a.put o.dst v ∧ Kp w w' ∧ IsV (.pointer (some u)) w' v) Q := by
 refine kp_yield (v := .pointer (some u)) (w' := w) ?_ (Keeps.refl _ _) rfl
 generalize a.eval = ρ at hx ⊢
 unfold execOp
 rw [ho]
 go_simp
theorem kp_lG {b j : Nat} {v0 v1 v2 : Value} (h0 : w.cell? ⟨b, j, none⟩ = some v0) (h1 : w.cell? ⟨b, j + 1, none⟩ = some v1) (h2 : w.cell? ⟨b, j + 2, none⟩ = some v2) (ho : o.op = .load 179 x) (hx : a.eval x = .pointer (some ⟨b, j, none⟩)) : o.wp Tryz.prog a w (fun a' w' => ∃ v, a' = a.put o.dst v ∧ Kp w w' ∧ IsV (.agg #[v0, v1, v2]) w' v) Q := by
 refine kp_yield (v := .agg #[v0, v1, v2]) (w' := w) ?_ (Keeps.refl _ _) rfl
 have e1 : (⟨b, j, none⟩ : Addr).add 1 = ⟨b, j + 1, none⟩ := rfl
 generalize a.eval = ρ at hx ⊢
 unfold execOp
 rw [ho]
 go_simp
theorem one_call {P : Program} {X : World → Value → Prop} {f : FuncId} {args : Array Value} {C : Ending → World → Prop} (e : (execOp a.eval o).run P w = .ok (.enter f args) w) (hc : Calls P f args w C)
  (hC : ∀ e w', C e w' → ∃ v, e = .returned v ∧ X w' v) : o.wp P a w (fun a' w' => ∃ v, a' = a.put o.dst v ∧ X w' v) Q := by
 unfold Oper.wp
 rw [e]
 refine hc.mono fun e w' h => ?_
 obtain ⟨v, rfl, hv⟩ := hC e w' h
 exact ⟨v, rfl, hv⟩
end
theorem joined_take (ps : List Part) (k : Nat) (h : k < ps.length) : joined (ps.take (k + 1)) = joined (ps.take k) ++ (ps[k]).l := by
 unfold joined
 rw [take_next _ _ h, List.flatMap_append, List.flatMap_cons, List.flatMap_nil, List.append_nil]
theorem joined_le (ps : List Part) (k : Nat) : (joined (ps.take k)).length ≤ (joined ps).length := by
 have e : joined (ps.take k) ++ joined (ps.drop k) = joined ps := by unfold joined; rw [← List.flatMap_append, List.take_append_drop]
 rw [← e, List.length_append]; omega
theorem grow_nil (w : World) (n : Nat) (h0 : 0 < n) (hn : n ≤ 1000000) :
  Calls Tryz.prog 171 #[.slice none 0 0, .int .i64 (n : Int)] w fun e w' => ∃ v, e = .returned v ∧ OwnB w' w.heap.size v [] ∧ Kp w w' := by
 obtain ⟨i, hi, hz, hs, hb⟩ := info_parts byte_elem.info
 have hg := Any8.slices_Grow_grow Tryz.growA i (.int .u8 0) hi hz (by omega) none 0 0 n [] w (Nat.le_refl _) (by omega) (by rw [hb]; omega) (by omega) (by simp) (fun _ => rfl) (fun a h => by cases h)
 rw [show Tryz.growA_ren.t 25 = 5 from rfl] at hg
 refine (show Calls _ _ _ _ _ from hg).mono ?_
 rintro e w' ⟨rfl, rfl⟩
 refine ⟨_, rfl, ?_, ((Keeps.refl _ w).drew).alloc _⟩
 have hge := grownCap_ge w (0 + n) 0 5
 have hcm := grownCap_le_maxLen w (0 + n) 0 5 (by unfold maxLen; omega)
 unfold OwnB
 refine ⟨by simp [bcells], .inr ⟨w.heap.size, _, _, rfl, Nat.le_refl _, heap_alloc_new w.drew _, Nat.zero_le _, hcm, ?_, by simp [bcells]⟩⟩
 have e1 : (Value.int IntKind.u8 0).cells.size = 1 := rfl
 simp only [Array.size_append, List.size_toArray, List.length_nil, size_zeroCells, e1]
 omega
theorem concat_any (w : World) (B : Option Addr) (d : Nat) (ps : List Part) (F G : Nat → Prop) (hB : Row w B G (ps.map Part.val)) (hp : Parts w F ps) (hn : ps.length ≤ 100) (hj : 0 < (joined ps).length) (hj2 : (joined ps).length ≤ 100000) :
  Calls Tryz.prog 135 #[.slice B ps.length d] w fun e w' => ∃ v, e = .returned v ∧ OwnB w' w.heap.size v (joined ps) ∧ Kp w w' := by
 have HB := Hd hB
 have HP := Hd hp
 have HLE := Hd (joined_le ps)
 have HJ := Hd (show joined (ps.take ps.length) = joined ps from by rw [List.take_length])
 obtain ⟨N, hN⟩ : ∃ N, (joined ps).length = N := ⟨_, rfl⟩
 have HN := Hd hN
 rw [hN] at hj hj2
 have hg := Hd (fun w' => grow_nil w' N hj (by omega))
 clear hB hp hN
 go_enter Tryz.func135, Tryz.ntmps135
 go_wp2_with fail
 go_loopw [3, 11] (fun vs vi wr => ∃ (k m : Nat), k ≤ ps.length ∧ vi = .int .i64 k ∧ vs = .int .i64 m ∧ RowKit.Hid (m = (joined (ps.take k)).length) ∧ Kp w wr) (fun _ vi _ => ps.length - (intOf vi).toNat)
 case atStart => exact ⟨0, 0, Nat.zero_le _, rfl, rfl, Hd (by simp [joined]), Keeps.refl _ _⟩
 case round =>
  obtain ⟨k, m, hk, rfl, rfl, hm, hkp0⟩ := hrel
  have hmle : m ≤ N := by have := HLE.out k; rw [hm.out, ← HN.out]; exact this
  by_cases hlt : k < ps.length
  ·obtain ⟨b, o, rfl, -, hcell⟩ := (HB.out.keep (hkp0.mono fun _ _ _ => trivial)).at_ (k := k) (by simpa using hlt)
   simp only [List.getElem_map, Part.val] at hcell
   have HT := Hd (joined_take ps k hlt)
   have hm2 : m + (ps[k]).l.length ≤ N := by
    have h := HLE.out (k + 1)
    rw [HT.out, List.length_append, ← hm.out] at h
    rw [← HN.out]; exact h
   generalize ps[k] = pk at hcell HT hm2
   have HK0 := Hd hkp0
   clear hkp0
   have hnn : ¬ ((m : Int) + (pk.l.length : Int) < 0) := by omega
   go_wp2_with fail
   go_roundw
   case rel => exact ⟨k + 1, m + pk.l.length, by omega, by go_num, by go_num, Hd (by rw [HT.out, List.length_append, hm.out]), HK0.out⟩
   case measure => simp [intOf]; omega
  ·obtain rfl : k = ps.length := by omega
   obtain rfl : m = N := by rw [hm.out, HJ.out, HN.out]
   go_wp2_with fail
   refine (hg.out _).mono ?_
   rintro e w1 ⟨v1, rfl, ho1, hk1⟩
   have HO1 := Hd (ownsRow_le ho1 hkp0.size)
   have HK1 := Hd (hkp0.trans hk1)
   clear ho1 hk1 hg hkp0
   go_wp2_with fail
   go_loopw [6, 27] (fun vo vi wr => ∃ (k : Nat) (u : Value), k ≤ ps.length ∧ vi = .int .i64 k ∧ u = vo ∧ OwnB wr w.heap.size u (joined (ps.take k)) ∧ Kp w wr) (fun _ vi _ => ps.length - (intOf vi).toNat)
   case atStart => exact ⟨0, _, Nat.zero_le _, rfl, rfl, by rw [List.take_zero]; exact HO1.out, HK1.out⟩
   case round =>
    obtain ⟨k, u, hk, rfl, hu, ho, hkp⟩ := hrel
    subst hu
    by_cases hlt : k < ps.length
    ·obtain ⟨b, o, rfl, -, hcell⟩ := (HB.out.keep (hkp.mono fun _ _ _ => trivial)).at_ (k := k) (by simpa using hlt)
     simp only [List.getElem_map, Part.val] at hcell
     have HT := Hd (joined_take ps k hlt)
     have hrw := (HP.out _ (List.getElem_mem hlt)).1.keep (hkp.mono fun _ _ _ => trivial)
     have hle := HLE.out (k + 1)
     rw [HT.out, List.length_append, HN.out] at hle
     obtain ⟨x, hx⟩ : ∃ x, (joined (ps.take k)).length = x := ⟨_, rfl⟩
     rw [hx] at hle
     have HX := Hd hx
     generalize ps[k] = pk at hcell HT hle hrw
     have hs := hrw.src (P := Tryz.prog) (c := pk.cap) Tryz.underlying64 (bcells_one _)
     rw [bcells_len] at hs
     have HS := Hd hs
     have HO := Hd (show wr.ownsRow w.heap.size 5 1 u x (bcells (joined (ps.take k))) from by rw [← hx]; exact ho)
     have HK := Hd hkp
     have hsz := hkp.size
     clear ho hkp hx hs hrw
     go_wp2_with (at_builtin; refine byte_elem.list_append rfl (.tmp 31) (.tmp 32) _ rfl rfl HO.out rfl HS.out ?c3 ?c4 hsz ?_)
     case c3 => unfold maxLen; omega
     case c4 => omega
     intro v5 w5 ho5 hg5 hb5
     have hown := HO.out
     have H1 := Hd (show OwnB w5 w.heap.size v5 (joined (ps.take (k + 1))) from by
      rw [HT.out]
      exact OwnB.snoc ho5 (by rw [List.length_append, HX.out]) rfl)
     have H2 := Hd (show Kp w w5 from HK.out.grown hg5 fun b hb => (hown.lt b hb).1)
     clear ho5 hg5 hb5 hown HO HS
     go_wp2_with fail
     go_roundw
     case rel => exact ⟨k + 1, _, by omega, by go_num, rfl, H1.out, H2.out⟩
     case measure => simp [intOf]; omega
    ·obtain rfl : k = ps.length := by omega
     rw [HJ.out] at ho
     have H1 := Hd ho
     have H2 := Hd hkp
     clear ho hkp
     go_wp2_with fail
     go_ret
     exact ⟨_, rfl, H1.out, H2.out⟩
end Go.Proofs.YticophaepapjoaaGreatDoor
