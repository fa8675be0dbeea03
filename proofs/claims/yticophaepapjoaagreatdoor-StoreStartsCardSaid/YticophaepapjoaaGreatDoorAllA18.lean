/-
  JrIf, Of, JnMath, JrBegun, JrName, JrLocs, InvPast: texts of mine, joined.
-/
import Derived.Test.YticophaepapjoaaGreatDoorAllA15
import Derived.Test.YticophaepapjoaaGreatDoorAllA16
import Derived.Test.YticophaepapjoaaGreatDoorAllA09
import Derived.Lib.Hide
import Derived.Test.YticophaepapjoaaGreatDoorAllA08
import Derived.Test.YticophaepapjoaaGreatDoorAllA03
import Derived.Outline
import Derived.Test.YticophaepapjoaaGreatDoorAllA10
namespace Go.Proofs.YticophaepapjoaaGreatDoor
open Go Go.RowKit Go.Joins
structure JSt where
 place : Nat
 segs : Nat
 keys : List ByteArray
 base : Nat
 kept : Nat
 age : Nat
def JSt.has (st : JSt) (i : Nat) : Prop := st.place ≤ i ∧ i < st.place + 8 * st.segs
structure JSt.Ok (st : JSt) : Prop where
 segs : 20 ≤ st.segs ∧ st.segs ≤ 200
 one : ∀ k ∈ st.keys, keyOk k
 base : st.base ≤ st.keys.length - st.kept
def MarksAt (w : World) (A : Option Addr) (G : Nat → Prop) (sq : Nat) (l : List ByteArray) : Prop := ∀ i (h : i < l.length), ∃ b o, A = some ⟨b, o, none⟩ ∧ G b ∧ w.cell? ⟨b, o + i * 2, none⟩ = some (.int .i64 ((sq + i + 1 : Nat) : Int)) ∧ w.cell? ⟨b, o + i * 2 + 1, none⟩ = some (.string l[i])
structure JGo (w w' : World) (F F' Fs Fs' : Foot) (s s' : SDev) (st : JSt) (n : Nat) : Prop where
 ap : Apart F' Fs'
 k : Keeps (fun b => ¬ F.M b ∧ ¬ Fs.M b) w w'
 f1 : ∀ b, F'.M b → F.M b ∨ w.heap.size ≤ b
 f2 : ∀ b, F'.I b → F.all b ∨ w.heap.size ≤ b
 f3 : ∀ b, Fs'.M b → Fs.M b ∨ w.heap.size ≤ b
 f4 : ∀ b, Fs'.I b → Fs.all b ∨ w.heap.size ≤ b
 len : s'.now.length = s.now.length
 out : ∀ i, ¬ st.has i → s'.now.getD i [] = s.now.getD i []
 calls : s'.calls ≤ s.calls + 1000 * n
def jadd (st : JSt) (ks : List ByteArray) (b : Nat) : JSt := ⟨st.place, st.segs, st.keys ++ ks, b, st.kept, st.age + ks.length + 1⟩
structure JournalOK where
 T : World → Prop
 tk : ∀ {w w' : World}, T w → Keeps (fun _ => True) w w' → T w'
 rep : World → Nat → Nat → Foot → JSt → SDev → Prop
 disk : JSt → List (List UInt8) → Prop
 wf : ∀ {w p q F st s}, rep w p q F st s → st.Ok
 lt : ∀ {w p q F st s}, rep w p q F st s → ∀ b, F.all b → b < w.heap.size
 keep : ∀ {w w' p q F st s}, rep w p q F st s → Keeps F.all w w' → rep w' p q F st s
 other : ∀ {w p q F st s s'}, rep w p q F st s → s'.now.length = s.now.length → (∀ i, st.has i → s'.now.getD i [] = s.now.getD i []) → rep w p q F st s'
 diskKeep : ∀ {st rows rows'}, disk st rows → rows'.length = rows.length → (∀ i, st.has i → rows'.getD i [] = rows.getD i []) → disk st rows'
 openNew : ∀ (w : World) (p : Nat) (F : Foot) (s : SDev), DAt w p F s → T w → ∀ (i n : Nat), 20 ≤ n → n ≤ 200 → i + 8 * n ≤ s.now.length → (∀ j, i ≤ j → j < i + 8 * n → s.now.getD j [] = blank) →
  Calls Tryz.prog 66 #[.pointer (some ⟨p, 0, none⟩), .int .i64 i, .int .i64 n] w fun e w' => ∃ (q : Nat) (Fs : Foot), e = .returned (.tuple #[.pointer (some ⟨q, 0, none⟩), .int .i64 0]) ∧
   rep w' p q Fs ⟨i, n, [], 0, 32, 1⟩ s ∧ (∀ b, Fs.all b → w.heap.size ≤ b) ∧ Keeps (fun _ => True) w w'
 openOld : ∀ (w : World) (p : Nat) (F : Foot) (s : SDev) (st : JSt), DAt w p F s → T w → disk st s.now → st.place + 8 * st.segs ≤ s.now.length → st.age ≤ 20000 →
  Calls Tryz.prog 66 #[.pointer (some ⟨p, 0, none⟩), .int .i64 st.place, .int .i64 st.segs] w fun e w' => ∃ (q : Nat) (Fs : Foot) (b : Nat), e = .returned (.tuple #[.pointer (some ⟨q, 0, none⟩), .int .i64 0]) ∧
   rep w' p q Fs ⟨st.place, st.segs, st.keys, b, st.kept - 4, st.age + 1⟩ s ∧ (∀ b, Fs.all b → w.heap.size ≤ b) ∧ Keeps (fun _ => True) w w'
 add : ∀ (W w : World) (p q : Nat) (F Fs : Foot) (s : SDev) (st : JSt), DAt w p F s → rep w p q Fs st s → Apart F Fs → T W → Keeps (fun _ => True) W w → (∀ b, F.all b → W.heap.size ≤ b) → (∀ b, Fs.all b → W.heap.size ≤ b) → st.place + 8 * st.segs ≤ s.now.length → st.age ≤ 20000 → s.calls ≤ 500000000000 →
  ∀ (A : Option Addr) (c : Nat) (ks : List ByteArray), Row w A (fun b => ¬ F.all b ∧ ¬ Fs.all b) (ks.map Value.string) → ks.length ≤ c → c ≤ maxLen → ks.length ≤ 1000 → (∀ k ∈ ks, keyOk k) →
  Calls Tryz.prog 26 #[.pointer (some ⟨q, 0, none⟩), .slice A ks.length c] w fun e w' => e = .returned (.tuple #[.int .i64 ((st.keys.length + ks.length : Nat) : Int), .int .i64 0]) ∧ ∃ (F' Fs' : Foot) (rows : List (List UInt8)) (k b : Nat), DAt w' p F' (SDev.still rows k) ∧ rep w' p q Fs' (jadd st ks b) (SDev.still rows k) ∧ disk (jadd st ks b) rows ∧ st.base ≤ b ∧ JGo w w' F F' Fs Fs' s (SDev.still rows k) st (ks.length + 1)
 addNo : ∀ (w : World) (p q : Nat) (F Fs : Foot) (s : SDev) (st : JSt), DAt w p F s → rep w p q Fs st s → Apart F Fs → T w → st.place + 8 * st.segs ≤ s.now.length → ∀ (A : Option Addr) (c : Nat) (ks : List ByteArray), Row w A (fun _ => True) (ks.map Value.string) → ks.length ≤ c → c ≤ maxLen → ks.length ≤ 1000 → (∀ k ∈ ks, k.size ≤ 1000000) → (∃ k ∈ ks, ¬ keyOk k) →
  Calls Tryz.prog 26 #[.pointer (some ⟨q, 0, none⟩), .slice A ks.length c] w fun e w' => e = .returned (.tuple #[.int .i64 0, .int .i64 1]) ∧ Keeps (fun _ => True) w w'
 seqIs : ∀ (w : World) (p q : Nat) (Fs : Foot) (s : SDev) (st : JSt), rep w p q Fs st s → T w → Calls Tryz.prog 24 #[.pointer (some ⟨q, 0, none⟩)] w fun e w' => e = .returned (.int .i64 (st.keys.length : Int)) ∧ Keeps (fun _ => True) w w'
 baseIs : ∀ (w : World) (p q : Nat) (Fs : Foot) (s : SDev) (st : JSt), rep w p q Fs st s → T w → Calls Tryz.prog 31 #[.pointer (some ⟨q, 0, none⟩)] w fun e w' => e = .returned (.int .i64 (st.base : Int)) ∧ Keeps (fun _ => True) w w'
 since : ∀ (w : World) (p q : Nat) (F Fs : Foot) (s : SDev) (st : JSt), DAt w p F s → rep w p q Fs st s → Apart F Fs → T w → st.place + 8 * st.segs ≤ s.now.length → ∀ (sq n : Nat), st.base ≤ sq → sq ≤ st.keys.length → n ≤ 1000000 →
  Calls Tryz.prog 33 #[.pointer (some ⟨q, 0, none⟩), .int .i64 (sq : Int), .int .i64 (n : Int)] w fun e w' => ∃ (A : Option Addr) (c : Nat), e = .returned (.tuple #[.slice A ((st.keys.drop sq).take n).length c, .bool true]) ∧ ((st.keys.drop sq).take n).length ≤ c ∧ c ≤ maxLen ∧ MarksAt w' A (fun b => w.heap.size ≤ b ∧ b < w'.heap.size) sq ((st.keys.drop sq).take n) ∧ Keeps (fun _ => True) w w'
end Go.Proofs.YticophaepapjoaaGreatDoor
namespace Go.Proofs.YticophaepapjoaaGreatDoor
open Go.RowKit
def stepZ (h c : Int) : Int := IntKind.u64.wrap (stZ (bits .xor .u64 h (IntKind.u64.wrap c)) + 1)
def bytesZ (h : Int) (l : List UInt8) : Int := l.foldl (fun h c => stepZ h (c.toNat : Int)) h
def endZ (h : Int) (n : Nat) : Int := stZ (bits .xor .u64 h (256 + (n : Int)))
def partZ (h : Int) (s : ByteArray) : Int := endZ (bytesZ h s.data.toList) s.size
def partsZ (ss : List ByteArray) : Int := ss.foldl partZ 11400714819323198485
theorem take_snoc (s : ByteArray) (k : Nat) (h : k < s.size) : s.data.toList.take (k + 1) = s.data.toList.take k ++ [s[k]] := by
 rw [List.take_succ_eq_append_getElem (by simpa using h)]; rfl
theorem bytesZ_snoc (h : Int) (l : List UInt8) (c : UInt8) : bytesZ h (l ++ [c]) = stepZ (bytesZ h l) (c.toNat : Int) := by
 unfold bytesZ; rw [List.foldl_append]; rfl
theorem bytesZ_next (h : Int) (s : ByteArray) (k : Nat) (hk : k < s.size) :
  bytesZ h (s.data.toList.take (k + 1)) = IntKind.u64.wrap (stZ (bits .xor .u64 (bytesZ h (s.data.toList.take k)) (IntKind.u64.wrap (s[k].toNat : Int))) + 1) := by
 rw [take_snoc s k hk, bytesZ_snoc]; rfl
theorem bytesZ_all (h : Int) (s : ByteArray) (k : Nat) (h1 : k ≤ s.size) (h2 : ¬ k < s.size) : bytesZ h (s.data.toList.take k) = bytesZ h s.data.toList := by
 rw [List.take_of_length_le]
 have : s.data.toList.length = s.size := by simp
 omega
theorem getD_at (ss : List ByteArray) (k : Nat) (h : k < ss.length) : ss.getD k ByteArray.empty = ss[k] := by
 rw [List.getD_eq_getElem?_getD, List.getElem?_eq_getElem h]; rfl
theorem partsZ_next (ss : List ByteArray) (k : Nat) (h : k < ss.length) : partsZ (ss.take (k + 1)) = partZ (partsZ (ss.take k)) (ss.getD k ByteArray.empty) := by
 unfold partsZ
 rw [List.take_succ_eq_append_getElem h, List.foldl_append, getD_at ss k h]; rfl
theorem partsZ_all (ss : List ByteArray) (k : Nat) (h1 : k ≤ ss.length) (h2 : ¬ k < ss.length) : partsZ (ss.take k) = partsZ ss := by
 rw [List.take_of_length_le (by omega)]
theorem part_any (h : Int) (s : ByteArray) (hs : s.size ≤ maxLen) (w : World) :
  Calls Tryz.prog 102 #[.int .u64 h, .string s] w fun e w' => e = .returned (.int .u64 (partZ h s)) ∧ w = w' := by
 unfold maxLen at hs
 go_enter Tryz.func102, Tryz.ntmps102
 go_wp2
 go_loop [0, 5] (fun t i => ∃ k : Nat, k ≤ s.size ∧ i = .int .i64 k ∧ t = .int .u64 (bytesZ h (s.data.toList.take k))) (fun _ i => s.size - (intOf i).toNat)
 case atStart => exact ⟨0, Nat.zero_le _, rfl, rfl⟩
 case round =>
  obtain ⟨k, hk, rfl, rfl⟩ := hrel
  by_cases hlt : k < s.size
  ·have H := Lib.hid (bytesZ_next h s k hlt)
   go_wp2_with (go_at_call 130; refine (stir_any _ (xor_nonneg _ _) (xor_lt _ _) _).mono ?_; rintro e w' ⟨rfl, rfl⟩)
   go_round
   case rel => exact ⟨k + 1, by omega, by go_num, by rw [H.out]⟩
   case measure => simp [intOf]; omega
  ·go_wp2_with (go_at_call 130; refine (stir_any _ (xor_nonneg _ _) (xor_lt _ _) _).mono ?_; rintro e w' ⟨rfl, rfl⟩)
   go_ret
   exact ⟨ret_u64 (by unfold partZ endZ; rw [← bytesZ_all h s k hk hlt]), rfl⟩
theorem of_any (ss : List ByteArray) (b o cap : Nat) (w : World) (hn : ss.length ≤ maxLen) (hs : ∀ s ∈ ss, s.size ≤ maxLen)
  (hc : ∀ i, i < ss.length → w.cell? ⟨b, o + i, none⟩ = some (.string (ss.getD i ByteArray.empty))) :
  Calls Tryz.prog 69 #[.slice (some ⟨b, o, none⟩) ss.length cap] w fun e w' => e = .returned (.int .u64 (partsZ ss)) ∧ w = w' := by
 unfold maxLen at hn
 go_enter Tryz.func69, Tryz.ntmps69
 go_wp2
 go_loop [3, 8] (fun t i => ∃ k : Nat, k ≤ ss.length ∧ i = .int .i64 k ∧ t = .int .u64 (partsZ (ss.take k))) (fun _ i => ss.length - (intOf i).toNat)
 case atStart => exact ⟨0, Nat.zero_le _, rfl, rfl⟩
 case round =>
  obtain ⟨k, hk, rfl, rfl⟩ := hrel
  by_cases hlt : k < ss.length
  ·have H := Lib.hid (partsZ_next ss k hlt)
   have hcell := hc k hlt
   have hsz : (ss.getD k ByteArray.empty).size ≤ maxLen := by
    rw [getD_at ss k hlt]; exact hs _ (List.getElem_mem hlt)
   clear hc
   generalize ss.getD k ByteArray.empty = s at hcell hsz H
   go_wp2_with (go_at_call 102; refine (part_any _ _ hsz _).mono ?_; rintro e w' ⟨rfl, rfl⟩)
   go_round
   case rel => exact ⟨k + 1, by omega, by go_num, by rw [H.out]⟩
   case measure => simp [intOf]; omega
  ·go_wp2
   go_ret
   exact ⟨ret_u64 (partsZ_all ss k hk hlt), rfl⟩
end Go.Proofs.YticophaepapjoaaGreatDoor
namespace Go.Proofs.YticophaepapjoaaGreatDoor
open Go
def markB (n : Nat) (k : ByteArray) : List UInt8 := putZ (n : Int) ++ putT k.data.toList
theorem markB_len {n : Nat} {k : ByteArray} (hn : n ≤ 40000) (hk : keyOk k) : 1 ≤ (markB n k).length ∧ (markB n k).length ≤ 44 := by
 have kx : k.data.toList.length = k.size := by simp
 have z : ∀ n : Int, 0 ≤ n → zig n = (2 * n).toNat := fun n hn => by unfold zig; rw [if_neg (by omega)]
 have h1 : (putZ (n : Int)).length ≤ 3 := vin_len 2 _ (by rw [z _ (by omega)]; omega)
 have h2 : (putZ (k.data.toList.length : Int)).length ≤ 1 := vin_len 0 _ (by rw [z _ (by omega)]; have := hk.2; omega)
 have h3 : 0 < (putZ (n : Int)).length := vin_pos _
 have h4 := hk.2
 unfold markB putT
 simp only [List.length_append]
 omega
theorem jsnoc_is {α : Type} (l : List α) (h : l ≠ []) : ∃ a b, l = a ++ [b] := ⟨l.dropLast, l.getLast h, (List.dropLast_concat_getLast h).symm⟩
theorem jopened_snoc (l : List LRec) (r : LRec) : opened (l ++ [r]) = l ++ [⟨r.pos, r.body, r.opens + 1⟩] := by
 induction l with
 | nil => rfl
 | cons a l ih =>
  cases l with
  | nil => rfl
  | cons b l => show a :: opened ((b :: l) ++ [r]) = _; rw [ih]; rfl
theorem jopened_key (l : List LRec) : (opened l).map LRec.key = l.map LRec.key := by
 by_cases hl : l = []
 ·subst hl; rfl
 ·obtain ⟨a, r, rfl⟩ := jsnoc_is l hl
  rw [jopened_snoc]; simp [LRec.key]
theorem jopened_len (l : List LRec) : (opened l).length = l.length := by
 have := congrArg List.length (jopened_key l)
 simpa using this
theorem jopened_sum (l : List LRec) : ((opened l).map (·.opens)).sum ≤ (l.map (·.opens)).sum + 1 := by
 by_cases hl : l = []
 ·subst hl; exact Nat.zero_le _
 ·obtain ⟨a, r, rfl⟩ := jsnoc_is l hl
  rw [jopened_snoc]
  simp only [List.map_append, List.sum_append, List.map_cons, List.map_nil, List.sum_cons, List.sum_nil]
  omega
theorem jopened_body (l : List LRec) (i : Nat) (h : i < (opened l).length) (h' : i < l.length) : ((opened l)[i]).body = (l[i]).body := by
 have e := congrArg (fun m => m[i]?) (jopened_key l)
 simp only [List.getElem?_map, List.getElem?_eq_getElem h, List.getElem?_eq_getElem h', Option.map_some, Option.some.injEq] at e
 exact congrArg Prod.snd e
theorem jcosts_le (l : List LRec) (h : ∀ r ∈ l, r.body.length ≤ 44) : costs l ≤ 104 * l.length + 400 * (l.map (·.opens)).sum := by
 induction l with
 | nil => exact Nat.zero_le _
 | cons r l ih =>
  have h1 := ih fun x hx => h x (List.mem_cons_of_mem _ hx)
  have h2 := h r List.mem_cons_self
  have e1 : costs (r :: l) = r.cost + costs l := by simp [costs]
  rw [e1]
  simp only [List.length_cons, List.map_cons, List.sum_cons]
  unfold LRec.cost
  omega
theorem jsum_drop (l : List LRec) (n : Nat) : ((l.drop n).map (·.opens)).sum ≤ (l.map (·.opens)).sum := by
 have e : (l.map (·.opens)).sum = ((l.take n).map (·.opens)).sum + ((l.drop n).map (·.opens)).sum := by
  rw [← List.sum_append, ← List.map_append, List.take_append_drop]
 omega
structure JM (st : JSt) (lst : LSt) : Prop where
 len : lst.hist.length = st.keys.length
 body : ∀ i (h : i < lst.hist.length), (lst.hist[i]).body = markB (i + 1) (st.keys.getD i default)
 one : ∀ k ∈ st.keys, keyOk k
 opens : ∃ o, (lst.hist.map (·.opens)).sum ≤ o ∧ (st.kept + 4 * o ≤ 32 ∨ st.kept = 0)
 place : lst.place = st.place
 segs : lst.segs = st.segs
 many : 20 ≤ st.segs ∧ st.segs ≤ 200
 base : st.base = lst.gone
 some : st.keys ≠ [] → lst.gone < lst.hist.length
 age : lst.hist.length ≤ st.age
 next : lst.next ≤ 1048576 * st.age
 old : st.age ≤ 30000
section
variable {st : JSt} {lst : LSt}
theorem JM.short (h : JM st lst) : ∀ r ∈ lst.hist, r.body.length ≤ 44 := fun r hr => by
 obtain ⟨i, hi, rfl⟩ := List.getElem_of_mem hr
 rw [h.body i hi]
 have hi2 : i < st.keys.length := by rw [← h.len]; exact hi
 refine (markB_len (by have := h.age; have := h.old; omega) ?_).2
 rw [List.getD_eq_getElem?_getD, List.getElem?_eq_getElem hi2]
 exact h.one _ (List.getElem_mem hi2)
theorem JM.ok (h : JM st lst) (ho : lst.Ok) : st.Ok := by
 refine ⟨h.many, h.one, ?_⟩
 obtain ⟨o, h1, h2⟩ := h.opens
 rw [h.base, ← h.len]
 refine ho.kept _ (Nat.sub_le _ _) ?_
 have h3 := jcosts_le (lst.hist.drop (lst.hist.length - st.kept)) fun r hr => h.short r (List.mem_of_mem_drop hr)
 have h4 := jsum_drop lst.hist (lst.hist.length - st.kept)
 rw [List.length_drop] at h3
 have h5 := h.many.1
 rw [h.segs]
 rcases h2 with h2 | h2
 ·omega
 ·rw [h2, Nat.sub_zero, List.drop_length] at h3 ⊢
  exact Nat.zero_le _
theorem JM.has (h : JM st lst) (i : Nat) : lst.has i ↔ st.has i := by
 unfold LSt.has JSt.has
 rw [h.place, h.segs]
theorem JM.older (h : JM st lst) {n : Nat} (h1 : st.age ≤ n) (h2 : n ≤ 30000) : JM ⟨st.place, st.segs, st.keys, st.base, st.kept, n⟩ lst :=
 { h with age := by have := h.age; show _ ≤ n; omega, next := by have := h.next; show _ ≤ 1048576 * n; omega, old := h2 }
theorem JM.start (p i n f x : Nat) (hn : 20 ≤ n ∧ n ≤ 200) (hx : x ≤ 1048576) : JM ⟨i, n, [], 0, 32, 1⟩ ⟨p, i, n, [], 0, f, x⟩ :=
 ⟨rfl, fun i h => absurd h (Nat.not_lt_zero _), fun k hk => by simp at hk, ⟨0, Nat.le_refl _, .inl (Nat.le_refl _)⟩, rfl, rfl, hn, rfl, fun h => absurd rfl h, Nat.zero_le _, by show x ≤ 1048576 * 1; omega, by show 1 ≤ 30000; decide⟩
theorem JM.opened (h : JM st lst) {p f x : Nat} (hx : x ≤ lst.next + 1048576) (hage : st.age + 1 ≤ 30000) : JM ⟨st.place, st.segs, st.keys, st.base, st.kept - 4, st.age + 1⟩ ⟨p, st.place, st.segs, Go.Proofs.YticophaepapjoaaGreatDoor.opened lst.hist, lst.gone, f, x⟩ := by
 obtain ⟨o, h1, h2⟩ := h.opens
 have hl := jopened_len lst.hist
 refine ⟨hl.trans h.len, fun i hi => ?_, h.one, ⟨o + 1, ?_, ?_⟩, rfl, rfl, h.many, h.base, fun hne => ?_, ?_, ?_, hage⟩
 ·have hi' : i < lst.hist.length := by rw [← hl]; exact hi
  exact (jopened_body lst.hist i hi hi').trans (h.body i hi')
 ·exact Nat.le_trans (jopened_sum _) (Nat.succ_le_succ h1)
 ·show st.kept - 4 + 4 * (o + 1) ≤ 32 ∨ st.kept - 4 = 0
  omega
 ·show lst.gone < (Go.Proofs.YticophaepapjoaaGreatDoor.opened lst.hist).length
  rw [hl]; exact h.some hne
 ·show (Go.Proofs.YticophaepapjoaaGreatDoor.opened lst.hist).length ≤ st.age + 1
  rw [hl]; have := h.age; omega
 ·show x ≤ 1048576 * (st.age + 1)
  have := h.next; omega
theorem JM.add (h : JM st lst) {k : ByteArray} (hk : keyOk k) {p pos g f y : Nat} (hy : y ≤ lst.next + 1048576) (hage : st.age + 1 ≤ 30000)
  (hok : (⟨p, lst.place, lst.segs, lst.hist ++ [⟨pos, markB (lst.hist.length + 1) k, 0⟩], g, f, y⟩ : LSt).Ok) :
  JM ⟨st.place, st.segs, st.keys ++ [k], g, st.kept, st.age + 1⟩ ⟨p, lst.place, lst.segs, lst.hist ++ [⟨pos, markB (lst.hist.length + 1) k, 0⟩], g, f, y⟩ := by
 obtain ⟨o, h1, h2⟩ := h.opens
 have hl := h.len
 have hb := markB_len (n := lst.hist.length + 1) (by have := h.age; omega) hk
 refine ⟨by simp [hl], fun i hi => ?_, fun x hx => ?_, ⟨o, by simpa using h1, h2⟩, h.place, h.segs, h.many, rfl, fun _ => ?_, ?_, ?_, hage⟩
 ·simp only [List.length_append, List.length_cons, List.length_nil] at hi
  rcases Nat.lt_or_ge i lst.hist.length with h3 | h3
  ·simp only [List.getElem_append_left h3, List.getD_eq_getElem?_getD, List.getElem?_append_left (show i < st.keys.length by omega)]
   rw [h.body i h3, List.getD_eq_getElem?_getD]
  ·obtain rfl : i = lst.hist.length := by omega
   simp [List.getD_eq_getElem?_getD, hl]
 ·rcases List.mem_append.1 hx with hx | hx
  ·exact h.one x hx
  ·rw [List.mem_singleton.1 hx]; exact hk
 ·have h3 := hok.kept lst.hist.length (by simp) (by
   have h5 := h.many.1
   have h6 := h.segs
   simp [costs, LRec.cost]
   omega)
  simp only [List.length_append, List.length_cons, List.length_nil] at h3 ⊢
  omega
 ·have := h.age; simp; omega
 ·have := h.next; simp only; omega
end
end Go.Proofs.YticophaepapjoaaGreatDoor
namespace Go.Proofs.YticophaepapjoaaGreatDoor
open Go Go.RowKit Go.Joins
section
variable {o : Oper} {a : Act} {w : World} {Q : Exit → Act → World → Prop} {x y z : Operand}
def Vl (l : List Value) : Nat → World → Value → Prop := fun i => IsV (l.getD i undef)
theorem kp_fM0 {b f : Nat} (ho : o.op = .fieldAddr 72 x 0) (hx : a.eval x = .pointer (some ⟨b, f, none⟩)) : o.wp Tryz.prog a w (fun a' w' => ∃ v, a' = a.put o.dst v ∧ Kp w w' ∧ IsV (.pointer (some ⟨b, f, none⟩)) w' v) Q := by
 refine kp_yield (v := .pointer (some ⟨b, f, none⟩)) (w' := w) ?_ (Keeps.refl _ _) rfl
 generalize a.eval = ρ at hx ⊢
 unfold execOp
 go_simp
theorem kp_fM1 {b f : Nat} (ho : o.op = .fieldAddr 72 x 1) (hx : a.eval x = .pointer (some ⟨b, f, none⟩)) : o.wp Tryz.prog a w (fun a' w' => ∃ v, a' = a.put o.dst v ∧ Kp w w' ∧ IsV (.pointer (some ⟨b, f + 1, none⟩)) w' v) Q := by
 refine kp_yield (v := .pointer (some ⟨b, f + 1, none⟩)) (w' := w) ?_ (Keeps.refl _ _) rfl
 generalize a.eval = ρ at hx ⊢
 unfold execOp
 go_simp
theorem kp_ldI {p : Addr} {n : Int} (hc : w.cell? p = some (.int .i64 n)) (ho : o.op = .load 2 x) (hx : a.eval x = .pointer (some p)) : o.wp Tryz.prog a w (fun a' w' => ∃ v, a' = a.put o.dst v ∧ Kp w w' ∧ IsV (.int .i64 n) w' v) Q := by
 refine kp_yield (v := .int .i64 n) (w' := w) ?_ (Keeps.refl _ _) rfl
 generalize a.eval = ρ at hx ⊢
 unfold execOp
 rw [ho]
 go_simp
theorem kp_ldT {p : Addr} {s : ByteArray} (hc : w.cell? p = some (.string s)) (ho : o.op = .load 9 x) (hx : a.eval x = .pointer (some p)) : o.wp Tryz.prog a w (fun a' w' => ∃ v, a' = a.put o.dst v ∧ Kp w w' ∧ IsV (.string s) w' v) Q := by
 refine kp_yield (v := .string s) (w' := w) ?_ (Keeps.refl _ _) rfl
 generalize a.eval = ρ at hx ⊢
 unfold execOp
 rw [ho]
 go_simp
end
end Go.Proofs.YticophaepapjoaaGreatDoor
namespace Go.Proofs.YticophaepapjoaaGreatDoor
open Go Go.RowKit
section
variable {P : Program} {ops : Array Oper} {Q : Exit → Act → World → Prop} {R : World → World → Prop} {V : Nat → World → Value → Prop} {a0 : Act} {w0 : World} {G : Nat → Option Bool} {St : Bool → World → Prop} {Rk : World → World → Prop} {k : Nat}
theorem wp_region_past {id : Nat} {w : World} (k : Nat) (St : Bool → World → Prop) (Rk : World → World → Prop) (G : Nat → Option Bool) (hm : P.follows .mixedOrders = true)
  (hV : ∀ i w w' v, Kp w w' → V i w v → V i w' v) (hS : ∀ b w w', Kp w w' → St b w → St b w') (hVk : ∀ i, i ≠ k → (∀ js, chained ops k i js = false) → ∀ w w' v, Rk w w' → V i w v → V i w' v)
  (hfit : fitsG G ops a0.tmps.size = true) (hk : k < ops.size) (hG : ∀ g c, G g = some c → ∀ w v, V g w v → v = .bool c) (hU : ∀ (i : Nat) (o : Oper), ops[i]? = some o → wantsG G o = false → i ≠ k ∧ V i = IsV undef) (hw : St false w.drew)
  (loc : ∀ (i : Nat) (o : Oper), ops[i]? = some o → wantsG G o = true → ∀ a w, Leans (fun _ _ => True) V ops a0 w0 i a w →
   if i = k then (St false w → o.wp P a w (fun a' w' => ∃ v, a' = a.put o.dst v ∧ Rk w w' ∧ St true w' ∧ V i w' v) Q)
   else (∀ b, St b w → (∀ js, chained ops k i js = true → b = true) → (∀ js, chained ops i k js = true → b = false) → o.wp P a w (fun a' w' => ∃ v, a' = a.put o.dst v ∧ Kp w w' ∧ V i w' v) Q))
  (done : ∀ vs w, St true w → vs.length = ops.size → (∀ i d, dstOf ops i = some d → V i w (vs.getD i undef)) → Q .normal (putAll a0 (ops.toList.map (·.dst)) vs) w) :
  (Code.region id ops true).wp P Q a0 w := by
 have look : ∀ (i : Nat) (o : Oper), ops[i]? = some o → (∀ g b, o.guard = some (g, b) → waits ops i g = true ∧ (dstOf ops g).isSome = true ∧ ((G g).isSome = true ∨ ∃ o', ops[g]? = some o' ∧ wantsG G o' = false)) ∧ (∀ e ∈ o.after, Region.binds .any e = true → e.on < i) ∧ (∀ d, o.dst = some d → d < a0.tmps.size) ∧ (∀ j, i ≠ j → ∀ d, o.dst = some d → dstOf ops j ≠ some d) := by
  intro i o ho
  have hi : i < ops.size := (Array.getElem?_eq_some_iff.1 ho).1
  have h := List.all_eq_true.1 hfit i (List.mem_range.2 hi)
  simp only [ho, Option.all_some, Bool.and_eq_true] at h
  obtain ⟨⟨⟨h1, h2⟩, h3⟩, h4⟩ := h
  refine ⟨fun g b hgb => ?_, fun e he hb => ?_, fun d hd => ?_, fun j hj d hd hx => ?_⟩
  ·rw [hgb] at h1
   simp only [Bool.and_eq_true, Bool.or_eq_true] at h1
   refine ⟨h1.1.1, h1.1.2, h1.2.imp (fun hx => hx) fun hx => ?_⟩
   cases ho' : ops[g]? with
   | none => rw [ho'] at hx; cases hx
   | some o' =>
    rw [ho'] at hx
    exact ⟨o', rfl, by simpa using hx⟩
  ·have := Array.all_eq_true_iff_forall_mem.1 h2 e he
   simpa [hb] using this
  ·rw [hd] at h3; simpa using h3
  ·have hjs : j < ops.size := by
    rcases Nat.lt_or_ge j ops.size with h' | h'
    ·exact h'
    ·simp [dstOf, Array.getElem?_eq_none h'] at hx
   have := List.all_eq_true.1 h4 j (List.mem_range.2 hjs)
   rw [hd, hx] at this
   simp [hj] at this
 have some_of : ∀ i d, dstOf ops i = some d → ∃ o, ops[i]? = some o ∧ o.dst = some d := fun i d h => by
  unfold dstOf at h
  cases ho : ops[i]? with
  | none => simp [ho] at h
  | some o => exact ⟨o, rfl, by simpa [ho] using h⟩
 have hd : ∀ i j d, dstOf ops i = some d → dstOf ops j = some d → i = j := by
  intro i j d hi hj
  obtain ⟨o, ho, hd⟩ := some_of i d hi
  exact Classical.byContradiction fun hne => (look i o ho).2.2.2 j hne d hd hj
 have hb : ∀ i d, dstOf ops i = some d → d < a0.tmps.size := by
  intro i d hi
  obtain ⟨o, ho, hd⟩ := some_of i d hi
  exact (look i o ho).2.2.1 d hd
 have hac : ∀ i j, waits ops i j = true → j < i := by
  intro i j h
  obtain ⟨o, ho, e, he, hb, rfl⟩ := (waits_iff i j).1 h
  exact (look i o ho).2.1 e he hb
 have fin : ∀ (l : Array Bool) (a : Act) (w' : World), (∀ i, i < ops.size → l.getD i false = true) → StandsAt (fun _ _ => True) V ops a0 w0 l a w' → St (l.getD k false) w' → Q .normal a w' := by
  intro l a w' hall h hs
  rw [hall k hk] at hs
  have hlen : ((ops.toList.map (·.dst)).map (slotOf a)).length = ops.size := by simp
  have hq := done ((ops.toList.map (·.dst)).map (slotOf a)) w' hs hlen (fun i d hid => by
   obtain ⟨o, ho, hd⟩ := some_of i d hid
   have hi : i < ops.size := (Array.getElem?_eq_some_iff.1 ho).1
   have hv := h.val i d (hall i hi) hid
   have e : ((ops.toList.map (·.dst)).map (slotOf a)).getD i undef = a.tmps.getD d undef := by
    rw [List.getD_eq_getElem?_getD, List.getElem?_map, List.getElem?_map, Array.getElem?_toList, ho]
    simp [hd, slotOf]
   rw [e]; exact hv)
  rw [← putAll_of a _ a0 h.defers h.tmps ?_ ?_] at hq
  ·exact hq
  ·intro d hd
   obtain ⟨o, ho, hod⟩ := List.mem_map.1 hd
   obtain ⟨i, hi, rfl⟩ := List.getElem_of_mem ho
   exact (look i ops[i] (by simp at hi; simp [hi])).2.2.1 d (by simpa using hod)
  ·intro t ht
   refine h.old t fun i _ hid => ht ?_
   obtain ⟨o, ho, hd⟩ := some_of i t hid
   refine List.mem_map.2 ⟨o, ?_, hd⟩
   rw [← Array.mem_def]
   exact Array.mem_of_getElem? ho
 have go : ∀ (fuel : Nat) (l : Array Bool) (a : Act) (w : World), (leftOver ops.size l).length ≤ fuel → StandsAt (fun _ _ => True) V ops a0 w0 l a w → St (l.getD k false) w → wpAny P .any ops Q fuel l a w := by
  intro fuel
  induction fuel with
  | zero =>
   intro l a w hf h hs
   have hn : leftOver ops.size l = [] := List.eq_nil_of_length_eq_zero (by omega)
   have hnot : ∀ i, i < ops.size → l.getD i false = true := fun i hi => by
    have hm : i ∉ leftOver ops.size l := by rw [hn]; simp
    have hl' : i < l.size := by rw [h.size]; exact hi
    unfold leftOver at hm
    simp only [List.mem_filter, List.mem_range, hi, true_and, Array.getD, hl'] at hm ⊢
    simpa using hm
   refine ⟨?_, fin l a w hnot h hs⟩
   refine List.eq_nil_iff_forall_not_mem.2 fun i hi => ?_
   have hm := (mem_ready.1 hi).1
   have hx := getD_false_of hm
   rw [hnot i (by rw [← h.size]; exact hx.2)] at hx
   exact absurd hx.1 (by simp)
  | succ fuel ih =>
   intro l a w hf h hs
   refine ⟨fun hr => fin l a w (all_listed hac h.size hr) h hs, fun i hi => ?_⟩
   obtain ⟨hl, o, ho, hall⟩ := mem_ready.1 hi
   have hwt : ∀ j, waits ops i j = true → l.getD j false = true := fun j hj => by
    obtain ⟨o', ho', e, he, hb', rfl⟩ := (waits_iff i j).1 hj
    rw [ho] at ho'; cases ho'
    exact hall e he hb'
   have hdst : o.dst = dstOf ops i := by simp [dstOf, ho]
   have hleft : (leftOver ops.size (l.setIfInBounds i true)).length ≤ fuel := by
    have := leftOver_set ops.size l i (by rw [← h.size]; exact (getD_false_of hl).2) hl
    omega
   have hwant := wanted_is (h.leans hl hwt) (fun j d hj => by rw [h.tmps]; exact hb j d hj) (look i o ho).1 hG (fun i o ho hw => (hU i o ho hw).2)
   have hset : ∀ (hne : i ≠ k), (l.setIfInBounds i true).getD k false = l.getD k false := fun hne => getD_set_ne false hne
   have hloc := loc i o ho
   unfold wpOp
   cases hwo : wantsG G o
   ·rw [hwo] at hwant
    obtain ⟨hne, hu⟩ := hU i o ho hwo
    simp only [ho, hwant, Bool.false_eq_true, if_false]
    rw [hdst]
    exact ih _ _ _ hleft (h.step' trivial (fun _ => trivial) hd hb hl (fun _ _ _ hh => hh) hwt (by rw [hu]; rfl)) (by rw [hset hne]; exact hs)
   ·rw [hwo] at hwant
    simp only [ho, hwant, if_true]
    have hlc := hloc hwo a w (h.leans hl hwt)
    by_cases hik : i = k
    ·subst hik
     rw [if_pos rfl] at hlc
     have hlf := (getD_false_of hl).1
     rw [hlf] at hs
     refine .inl (Oper.wp_mono (fun a' w' hk' => ?_) (hlc hs))
     obtain ⟨v, rfl, hr, hst, hv⟩ := hk'
     rw [hdst]
     refine ih _ _ _ hleft (h.step' trivial (fun _ => trivial) hd hb hl (fun j u hj hu => ?_) hwt hv) (by
      have : (l.setIfInBounds i true).getD i false = true := by simp [(getD_false_of hl).2]
      rw [this]; exact hst)
     exact hVk j (fun e => by subst e; rw [hj] at hlf; cases hlf) (fun js => by
      cases hc : chained ops i j js with
      | false => rfl
      | true =>
       have := chained_listed (k := i) h js j (fun m hm => h.down j m hj hm) hc
       rw [hlf] at this
       cases this) w w' u hr hu
    ·rw [if_neg hik] at hlc
     refine .inl (Oper.wp_mono (fun a' w' hk' => ?_) (hlc _ hs (fun js hbh => chained_listed h js i hwt hbh) (fun js hbh => by
      cases hlk : l.getD k false with
      | false => rfl
      | true =>
       have := chained_listed (k := i) h js k (fun m hm => h.down k m hlk hm) hbh
       rw [(getD_false_of hl).1] at this
       cases this)))
     obtain ⟨v, rfl, hr, hv⟩ := hk'
     rw [hdst]
     exact ih _ _ _ hleft (h.step' trivial (fun _ => trivial) hd hb hl (fun j u _ hu => hV j w w' u hr hu) hwt hv) (by rw [hset hik]; exact hS _ _ _ hr hs)
 refine wp_region_any hm ?_
 refine go ops.size _ a0 _ ?_ ?_ ?_
 ·refine Nat.le_trans (List.length_filter_le _ _) ?_
  simp
 ·refine ⟨by simp, trivial, rfl, rfl, fun _ _ => rfl, ?_, ?_⟩
  ·intro i d h; exact absurd h (by simp [Array.getD])
  ·intro i j h; exact absurd h (by simp [Array.getD])
 ·have : (Array.replicate ops.size false).getD k false = false := by simp [Array.getD]
  rw [this]; exact hw
end
end Go.Proofs.YticophaepapjoaaGreatDoor
