/-
  FlashIf, FlMath, ItemCut, ItemTake, IxLib, Frame, Open: texts of mine, joined.
-/
import Derived.Test.YticophaepapjoaaGreatDoorAllA10
import Derived.Test.YticophaepapjoaaGreatDoorAllA12
import Derived.Test.YticophaepapjoaaGreatDoorAllA18
import Derived.Test.YticophaepapjoaaGreatDoorAllA06
import Derived.Test.YticophaepapjoaaGreatDoorAllA03
import Derived.WalkSpells
import Derived.Lib.SmallJoins
import Derived.Deep.RegionWith
import Derived.Sort.OwnSorted
import Derived.Lib.Hide
import Derived.WalkKit
import Derived.Test.YticophaepapjoaaGreatDoorWords
import Derived.ProofKit
import Derived.OpenShut
import Derived.Below
import Derived.Carry
import Derived.LaidMore
import Derived.Stop.Joined
import Derived.Deep.Slices
import Derived.Deep.Fields
namespace Go.Proofs.YticophaepapjoaaGreatDoor
open Go Go.RowKit Go.Joins
def getE (st : FSt) (k : ByteArray) (now : Int) : Ending :=
 match st.at_ k with
 | some x => if x.live now then .returned (.tuple #[.agg #[.string x.key, .string x.val, .int .i64 x.till, .bool x.gone], .bool true]) else .returned (.tuple #[.agg #[.string ⟨#[]⟩, .string ⟨#[]⟩, .int .i64 0, .bool false], .bool false])
 | none => .returned (.tuple #[.agg #[.string ⟨#[]⟩, .string ⟨#[]⟩, .int .i64 0, .bool false], .bool false])
def TextsAt (w : World) (A : Option Addr) (G : Nat → Prop) (l : List ByteArray) : Prop := Row w A G (l.map Value.string)
structure FGo (w w' : World) (F F' Fs Fs' : Foot) (s s' : SDev) (st : FSt) (n : Nat) : Prop where
 ap : Apart F' Fs'
 k : Keeps (fun b => ¬ F.M b ∧ ¬ Fs.M b) w w'
 f1 : ∀ b, F'.M b → F.M b ∨ w.heap.size ≤ b
 f2 : ∀ b, F'.I b → F.all b ∨ w.heap.size ≤ b
 f3 : ∀ b, Fs'.M b → Fs.M b ∨ w.heap.size ≤ b
 f4 : ∀ b, Fs'.I b → Fs.all b ∨ w.heap.size ≤ b
 len : s'.now.length = s.now.length
 out : ∀ i, ¬ st.has i → s'.now.getD i [] = s.now.getD i []
 calls : s'.calls ≤ s.calls + 1000 * n
structure FlashOK where
 T : World → Prop
 tk : ∀ {w w' : World}, T w → Keeps (fun _ => True) w w' → T w'
 rep : World → Nat → Nat → Foot → FSt → SDev → Prop
 disk : FSt → List (List UInt8) → Prop
 wf : ∀ {w p q F st s}, rep w p q F st s → st.Ok
 lt : ∀ {w p q F st s}, rep w p q F st s → ∀ b, F.all b → b < w.heap.size
 keep : ∀ {w w' p q F st s}, rep w p q F st s → Keeps F.all w w' → rep w' p q F st s
 other : ∀ {w p q F st s s'}, rep w p q F st s → s'.now.length = s.now.length → (∀ i, st.has i → s'.now.getD i [] = s.now.getD i []) → rep w p q F st s'
 openNew : ∀ (w : World) (p : Nat) (F : Foot) (s : SDev), DAt w p F s → T w → ∀ (i n : Nat), 3 ≤ n → n ≤ 200 → i + 8 * n ≤ s.now.length → (∀ j, i ≤ j → j < i + 8 * n → s.now.getD j [] = blank) →
  Calls Tryz.prog 67 #[.pointer (some ⟨p, 0, none⟩), .int .i64 i, .int .i64 n] w fun e w' => ∃ (q : Nat) (Fs : Foot), e = .returned (.tuple #[.pointer (some ⟨q, 0, none⟩), .int .i64 0]) ∧
   rep w' p q Fs ⟨i, n, [], 0, 1⟩ s ∧ (∀ b, Fs.all b → w.heap.size ≤ b) ∧ Keeps (fun _ => True) w w'
 openOld : ∀ (w : World) (p : Nat) (F : Foot) (s : SDev) (st : FSt), DAt w p F s → T w → disk st s.now → st.place + 8 * st.segs ≤ s.now.length → st.age ≤ 20000 →
  Calls Tryz.prog 67 #[.pointer (some ⟨p, 0, none⟩), .int .i64 st.place, .int .i64 st.segs] w fun e w' => ∃ (q : Nat) (Fs : Foot), e = .returned (.tuple #[.pointer (some ⟨q, 0, none⟩), .int .i64 0]) ∧
   rep w' p q Fs ⟨st.place, st.segs, fopened st.ents, st.gone, st.age + 1⟩ s ∧ (∀ b, Fs.all b → w.heap.size ≤ b) ∧ Keeps (fun _ => True) w w'
 put : ∀ (W w : World) (p q : Nat) (F Fs : Foot) (s : SDev) (st : FSt), DAt w p F s → rep w p q Fs st s → Apart F Fs → T W → Keeps (fun _ => True) W w → (∀ b, F.all b → W.heap.size ≤ b) → (∀ b, Fs.all b → W.heap.size ≤ b) → st.place + 8 * st.segs ≤ s.now.length → st.age ≤ 20000 → s.calls ≤ 500000000000 →
  ∀ x : It, x.may = true → x.gone = false →
  Calls Tryz.prog 14 #[.pointer (some ⟨q, 0, none⟩), .agg #[.string x.key, .string x.val, .int .i64 x.till, .bool x.gone]] w fun e w' => e = .returned (.int .i64 0) ∧ ∃ (F' Fs' : Foot) (s' : SDev) (g : Nat), DAt w' p F' s' ∧ rep w' p q Fs' ⟨st.place, st.segs, st.ents ++ [fput x], g, st.age + 1⟩ s' ∧ st.gone ≤ g ∧ FGo w w' F F' Fs Fs' s s' st 2
 get : ∀ (w : World) (p q : Nat) (F Fs : Foot) (s : SDev) (st : FSt), DAt w p F s → rep w p q Fs st s → Apart F Fs → T w → st.place + 8 * st.segs ≤ s.now.length → ∀ (k : ByteArray) (now : Int), k.size ≤ 1000000 → -9223372036854775808 ≤ now → now < 9223372036854775808 →
  Calls Tryz.prog 25 #[.pointer (some ⟨q, 0, none⟩), .string k, .int .i64 now] w fun e w' => e = getE st k now ∧ Keeps (fun _ => True) w w'
 drop : ∀ (W w : World) (p q : Nat) (F Fs : Foot) (s : SDev) (st : FSt), DAt w p F s → rep w p q Fs st s → Apart F Fs → T W → Keeps (fun _ => True) W w → (∀ b, F.all b → W.heap.size ≤ b) → (∀ b, Fs.all b → W.heap.size ≤ b) → st.place + 8 * st.segs ≤ s.now.length → st.age ≤ 20000 → s.calls ≤ 500000000000 →
  ∀ (A : Option Addr) (c : Nat) (ks : List ByteArray), Row w A (fun b => ¬ F.all b ∧ ¬ Fs.all b) (ks.map Value.string) → ks.length ≤ c → c ≤ maxLen → ks.length ≤ 1000 → (∀ k ∈ ks, keyOk k) →
  Calls Tryz.prog 47 #[.pointer (some ⟨q, 0, none⟩), .slice A ks.length c] w fun e w' => e = .returned (.int .i64 0) ∧ ∃ (F' Fs' : Foot) (rows : List (List UInt8)) (k g : Nat), DAt w' p F' (SDev.still rows k) ∧ rep w' p q Fs' ⟨st.place, st.segs, st.ents ++ ks.map grave, g, st.age + ks.length + 1⟩ (SDev.still rows k) ∧ disk ⟨st.place, st.segs, st.ents ++ ks.map grave, g, st.age + ks.length + 1⟩ rows ∧ st.gone ≤ g ∧ FGo w w' F F' Fs Fs' s (SDev.still rows k) st (ks.length + 1)
def Blank (W w : World) (p n : Nat) (X : Nat → Prop) : Prop := ∃ F, Dv W w p F (SDev.still (List.replicate n blank) 0) ∧ ∀ b, X b → ¬ F.all b ∧ b < w.heap.size
section
variable {S : FlashOK} {W w w' : World} {p q : Nat} {st : FSt} {dk : Bool} {X Y : Nat → Prop}
theorem fo_dev (hk : Kp W w) (hX : ∀ b, X b → b < w.heap.size) (n : Nat) (h1 : 1 ≤ n) (h2 : n ≤ 2048) (z : Int) (hz : z = (n : Int)) :
  Calls Tryz.prog 10 #[.int .i64 z] w fun e w' => ∃ p, e = .returned (.pointer (some ⟨p, 0, none⟩)) ∧ Blank W w' p n X ∧ Kp w w' := by
 refine (dv_new hk n h1 h2 z hz).mono ?_
 rintro e w' ⟨p, F, rfl, hd, hF, hk'⟩
 exact ⟨p, rfl, ⟨F, hd, fun b hb => ⟨fun hf => by have := hF b hf; have := hX b hb; omega, Nat.lt_of_lt_of_le (hX b hb) hk'.size⟩⟩, hk'⟩
end
end Go.Proofs.YticophaepapjoaaGreatDoor
namespace Go.Proofs.YticophaepapjoaaGreatDoor
open Go
abbrev FRec := Nat × Option It
def bodyO : Option It → List UInt8
 | none => [0]
 | some x => x.bytes
def frk (a : FRec) : Nat × List UInt8 := (a.1, bodyO a.2)
def spStep (k : ByteArray) (o : Option (Nat × It)) (a : FRec) : Option (Nat × It) :=
 match a.2 with
 | none => none
 | some x => if x.key = k then (if x.gone then none else some (a.1, x)) else o
def sp (l : List FRec) (k : ByteArray) : Option (Nat × It) := l.foldl (spStep k) none
theorem sp_snoc (l : List FRec) (a : FRec) (k : ByteArray) : sp (l ++ [a]) k = spStep k (sp l k) a := by simp [sp, List.foldl_append]
theorem fold_mem (k : ByteArray) (l : List FRec) (o : Option (Nat × It)) (p : Nat) (x : It) (h : l.foldl (spStep k) o = some (p, x)) : o = some (p, x) ∨ ((p, some x) ∈ l ∧ x.key = k ∧ x.gone = false) := by
 induction l generalizing o with
 | nil => exact .inl h
 | cons a l ih =>
  rcases ih _ h with h1 | ⟨h1, h2⟩
  ·obtain ⟨q, y⟩ := a
   cases y with
   | none => cases h1
   | some y =>
    change (if y.key = k then (if y.gone then none else some (q, y)) else o) = _ at h1
    by_cases hk : y.key = k
    ·rw [if_pos hk] at h1
     cases hg : y.gone with
     | true => rw [hg] at h1; cases h1
     | false =>
      rw [hg] at h1
      cases h1
      exact .inr ⟨List.mem_cons_self, hk, hg⟩
    ·rw [if_neg hk] at h1
     exact .inl h1
  ·exact .inr ⟨List.mem_cons_of_mem _ h1, h2⟩
theorem sp_mem {l : List FRec} {k : ByteArray} {p : Nat} {x : It} (h : sp l k = some (p, x)) : (p, some x) ∈ l ∧ x.key = k ∧ x.gone = false := by
 rcases fold_mem k l none p x h with h1 | h1
 ·cases h1
 ·exact h1
def above (f : Nat) (y : Nat × It) : Bool := decide (f ≤ y.1)
theorem fold_filter (f : Nat) (k : ByteArray) (l : List FRec) (hl : ∀ a ∈ l, f ≤ a.1) (o o' : Option (Nat × It)) (h : o.filter (above f) = o') : (l.foldl (spStep k) o).filter (above f) = l.foldl (spStep k) o' := by
 induction l generalizing o o' with
 | nil => exact h
 | cons a l ih =>
  refine ih (fun b hb => hl b (List.mem_cons_of_mem _ hb)) _ _ ?_
  have ha := hl a List.mem_cons_self
  obtain ⟨q, y⟩ := a
  cases y with
  | none => rfl
  | some y =>
   show (if y.key = k then (if y.gone then none else some (q, y)) else o).filter (above f) = (if y.key = k then (if y.gone then none else some (q, y)) else o')
   by_cases hk : y.key = k
   ·rw [if_pos hk, if_pos hk]
    cases y.gone
    ·have : above f (q, y) = true := decide_eq_true ha
     simp [Option.filter, this]
    ·rfl
   ·rw [if_neg hk, if_neg hk]; exact h
theorem sp_below (f : Nat) (k : ByteArray) (a b : List FRec) (ha : ∀ r ∈ a, r.1 < f) (hb : ∀ r ∈ b, f ≤ r.1) : (sp (a ++ b) k).filter (above f) = sp b k := by
 unfold sp
 rw [List.foldl_append]
 refine fold_filter f k b hb _ _ ?_
 cases h : a.foldl (spStep k) none with
 | none => rfl
 | some y =>
  obtain ⟨p, x⟩ := y
  rcases fold_mem k a none p x h with h1 | ⟨h1, -⟩
  ·cases h1
  ·have h2 : p < f := ha _ h1
   have : above f (p, x) = false := decide_eq_false (by omega)
   simp [Option.filter, this]
theorem sp_cut (a : List FRec) (p : Nat) (l : List FRec) (k : ByteArray) : sp (a ++ [(p, none)] ++ l) k = sp l k := by
 unfold sp
 rw [List.foldl_append, List.foldl_append]
 rfl
section
variable {st : IxSt} {k k' : ByteArray} {p f : Int}
theorem isK_self (k : ByteArray) (p : Int) : isK k (k, p) = true := isK_iff.2 rfl
theorem ixGet_put (hnd : (st.map (·.1)).Nodup) : ixGet (ixPut st k p) k' = if k = k' then some p else ixGet st k' := by
 have hn := ixPut_nodup (k := k) (p := p) hnd
 by_cases h : (ixGet st k).isSome = true
 ·have e : ixPut st k p = st.map (fun x => if isK k x then (x.1, p) else x) := by unfold ixPut; rw [if_pos h]
  obtain ⟨q, hq⟩ := Option.isSome_iff_exists.1 h
  by_cases hk : k = k'
  ·subst hk
   rw [if_pos rfl]
   refine ixGet_of hn ?_
   rw [e]
   exact List.mem_map.2 ⟨(k, q), ixGet_mem hq, by rw [if_pos (isK_self k q)]⟩
  ·rw [if_neg hk]
   cases hg : ixGet st k' with
   | none =>
    rw [ixGet_none] at hg ⊢
    intro x hx
    rw [e] at hx
    obtain ⟨y, hy, rfl⟩ := List.mem_map.1 hx
    have := hg y hy
    split <;> exact this
   | some r =>
    refine ixGet_of hn ?_
    rw [e]
    refine List.mem_map.2 ⟨(k', r), ixGet_mem hg, ?_⟩
    rw [if_neg (fun hh => hk (isK_iff.1 hh).symm)]
 ·have h0 : ixGet st k = none := by simpa using h
  rw [ixPut_new h0]
  rw [ixPut_new h0] at hn
  by_cases hk : k = k'
  ·subst hk
   rw [if_pos rfl]
   exact ixGet_of hn (by simp)
  ·rw [if_neg hk]
   cases hg : ixGet st k' with
   | none =>
    rw [ixGet_none] at hg ⊢
    intro x hx
    rcases List.mem_append.1 hx with hx | hx
    ·exact hg x hx
    ·rw [List.mem_singleton.1 hx]; exact hk
   | some r => exact ixGet_of hn (List.mem_append_left _ (ixGet_mem hg))
theorem ixGet_drop (hnd : (st.map (·.1)).Nodup) : ixGet (ixDrop st k) k' = if k = k' then none else ixGet st k' := by
 have hn := ixDrop_nodup (k := k) hnd
 by_cases hk : k = k'
 ·subst hk
  rw [if_pos rfl, ixGet_none]
  intro x hx
  have := (List.mem_filter.1 hx).2
  intro e
  rw [isK_iff.2 e] at this
  cases this
 ·rw [if_neg hk]
  cases hg : ixGet st k' with
  | none =>
   rw [ixGet_none] at hg ⊢
   exact fun x hx => hg x (List.mem_filter.1 hx).1
  | some r =>
   refine ixGet_of hn (List.mem_filter.2 ⟨ixGet_mem hg, ?_⟩)
   rw [isK_not.2 (fun e => hk e.symm)]
   rfl
theorem ixGet_below (hnd : (st.map (·.1)).Nodup) : ixGet (ixBelow st f) k = (ixGet st k).filter fun q => decide (f ≤ q) := by
 have hn := ixBelow_nodup (p := f) hnd
 cases hg : ixGet st k with
 | none =>
  rw [ixGet_none] at hg
  show _ = none
  rw [ixGet_none]
  exact fun x hx => hg x (List.mem_filter.1 hx).1
 | some r =>
  by_cases hr : f ≤ r
  ·rw [Option.filter_some_pos (by simpa using hr)]
   exact ixGet_of hn (List.mem_filter.2 ⟨ixGet_mem hg, by simpa using hr⟩)
  ·rw [Option.filter_some_neg (by simpa using hr), ixGet_none]
   intro x hx e
   have h1 := (List.mem_filter.1 hx).1
   have h2 : f ≤ x.2 := by simpa using (List.mem_filter.1 hx).2
   obtain ⟨a, b⟩ := x
   subst e
   have := ixGet_of hnd h1
   rw [hg] at this
   cases this
   exact hr h2
end
structure IxSays (ix : IxSt) (l : List FRec) (n : Nat) : Prop where
 nd : (ix.map (·.1)).Nodup
 len : ix.length ≤ n
 is : ∀ k, ixGet ix k = (sp l k).map fun a => (a.1 : Int)
section
variable {ix : IxSt} {l : List FRec} {n : Nat}
theorem IxSays.nil : IxSays [] [] 0 := ⟨List.nodup_nil, Nat.le_refl _, fun _ => rfl⟩
theorem IxSays.more (h : IxSays ix l n) {m : Nat} (hm : n ≤ m) : IxSays ix l m := ⟨h.nd, Nat.le_trans h.len hm, h.is⟩
theorem IxSays.wipe (l : List FRec) (n p : Nat) : IxSays [] (l ++ [(p, none)]) n := ⟨List.nodup_nil, Nat.zero_le _, fun k => by rw [sp_snoc]; rfl⟩
theorem flput_len (st : IxSt) (k : ByteArray) (p : Int) : (ixPut st k p).length ≤ st.length + 1 := by
 unfold ixPut
 split
 ·rw [List.length_map]; omega
 ·simp
theorem IxSays.put (h : IxSays ix l n) {x : It} (hx : x.gone = false) (p : Nat) : IxSays (ixPut ix x.key (p : Int)) (l ++ [(p, some x)]) (n + 1) := by
 refine ⟨ixPut_nodup h.nd, Nat.le_trans (flput_len _ _ _) (Nat.succ_le_succ h.len), fun k => ?_⟩
 rw [ixGet_put h.nd, sp_snoc]
 show _ = (if x.key = k then (if x.gone then none else some (p, x)) else sp l k).map _
 by_cases hk : x.key = k
 ·rw [if_pos hk, if_pos hk, hx]; rfl
 ·rw [if_neg hk, if_neg hk]; exact h.is k
theorem IxSays.drop (h : IxSays ix l n) {x : It} (hx : x.gone = true) (p : Nat) : IxSays (ixDrop ix x.key) (l ++ [(p, some x)]) (n + 1) := by
 refine ⟨ixDrop_nodup h.nd, Nat.le_trans (List.length_filter_le _ _) (Nat.le_succ_of_le h.len), fun k => ?_⟩
 rw [ixGet_drop h.nd, sp_snoc]
 show _ = (if x.key = k then (if x.gone then none else some (p, x)) else sp l k).map _
 by_cases hk : x.key = k
 ·rw [if_pos hk, if_pos hk, hx]; rfl
 ·rw [if_neg hk, if_neg hk]; exact h.is k
theorem IxSays.below {a b : List FRec} (h : IxSays ix (a ++ b) n) (f : Nat) (ha : ∀ r ∈ a, r.1 < f) (hb : ∀ r ∈ b, f ≤ r.1) : IxSays (ixBelow ix (f : Int)) b n := by
 refine ⟨ixBelow_nodup h.nd, Nat.le_trans (List.length_filter_le _ _) h.len, fun k => ?_⟩
 rw [ixGet_below h.nd, h.is k, ← sp_below f k a b ha hb]
 cases sp (a ++ b) k with
 | none => rfl
 | some y =>
  by_cases hy : f ≤ y.1
  ·have h1 : above f y = true := decide_eq_true hy
   have h2 : decide ((f : Int) ≤ (y.1 : Int)) = true := decide_eq_true (by omega)
   rw [Option.filter_some_pos (by exact h1)]
   exact Option.filter_some_pos (by exact h2)
  ·have h1 : ¬ above f y = true := fun h => hy (of_decide_eq_true h)
   have h2 : ¬ decide ((f : Int) ≤ (y.1 : Int)) = true := fun h => hy (by have := of_decide_eq_true h; omega)
   rw [Option.filter_some_neg (eq_false_of_ne_true h1)]
   exact Option.filter_some_neg (eq_false_of_ne_true h2)
end
theorem opened_snoc (l : List LRec) (r : LRec) : opened (l ++ [r]) = l ++ [⟨r.pos, r.body, r.opens + 1⟩] := by
 induction l with
 | nil => rfl
 | cons a l ih =>
  cases l with
  | nil => rfl
  | cons b l => show a :: opened ((b :: l) ++ [r]) = _; rw [ih]; rfl
theorem fopened_snoc (l : List FEnt) (e : FEnt) : fopened (l ++ [e]) = l ++ [⟨e.x, e.opens + 1⟩] := by
 induction l with
 | nil => rfl
 | cons a l ih =>
  cases l with
  | nil => rfl
  | cons b l => show a :: fopened ((b :: l) ++ [e]) = _; rw [ih]; rfl
theorem snoc_is {α : Type} (l : List α) (h : l ≠ []) : ∃ a b, l = a ++ [b] := ⟨l.dropLast, l.getLast h, (List.dropLast_concat_getLast h).symm⟩
theorem It.bytes_le {x : It} (h : x.may = true) : x.bytes.length ≤ x.key.size + x.val.size + 20 := by
 have m := It.may_is h
 have f := x.flag_bd
 have kx : x.key.data.toList.length = x.key.size := by simp
 have vx : x.val.data.toList.length = x.val.size := by simp
 have z : ∀ n : Int, 0 ≤ n → zig n = (2 * n).toNat := fun n hn => by unfold zig; rw [if_neg (by omega)]
 have h1 : (putZ (x.key.data.toList.length : Int)).length ≤ 1 := vin_len 0 _ (by rw [z _ (by omega)]; omega)
 have h2 : (putZ (x.val.data.toList.length : Int)).length ≤ 2 := vin_len 1 _ (by rw [z _ (by omega)]; omega)
 have h3 := putZ_len x.till (by omega) (by omega)
 have h4 : (putZ x.flag).length ≤ 1 := vin_len 0 _ (by rw [z _ (by omega)]; omega)
 unfold It.bytes putT
 simp only [List.length_append]
 omega
structure FM (st : FSt) (lst : LSt) (hs : List FRec) : Prop where
 key : lst.hist.map LRec.key = hs.map frk
 may : ∀ p x, (p, some x) ∈ hs → x.may = true
 cut : ∃ h0 h1, hs = h0 ++ h1 ∧ (h0 = [] ∨ ∃ a p, h0 = a ++ [(p, none)]) ∧ h1.map (·.2) = st.ents.map (fun e => some e.x) ∧ (lst.hist.drop h0.length).map (·.opens) = st.ents.map (·.opens) ∧ st.gone = lst.gone - h0.length
 place : lst.place = st.place
 segs : lst.segs = st.segs
 age : lst.hist.length ≤ st.age
 next : lst.next ≤ 1048576 * st.age
 old : st.age ≤ 30000
theorem costs_le (tl : List LRec) (h1 : List FRec) (es : List FEnt) (hk : tl.map LRec.key = h1.map frk) (hm : ∀ p x, (p, some x) ∈ h1 → x.may = true) (he : h1.map (·.2) = es.map fun e => some e.x) (ho : tl.map (·.opens) = es.map (·.opens)) : costs tl ≤ fcosts es := by
 induction tl generalizing h1 es with
 | nil => exact Nat.zero_le _
 | cons r tl ih =>
  cases h1 with
  | nil => simp at hk
  | cons a h1 =>
   cases es with
   | nil => simp at he
   | cons e es =>
    simp only [List.map_cons, List.cons.injEq] at hk he ho
    have := ih h1 es hk.2 (fun p x hx => hm p x (List.mem_cons_of_mem _ hx)) he.2 ho.2
    have hb : r.body = e.x.bytes := by
     have := hk.1
     unfold LRec.key frk at this
     rw [he.1] at this
     injection this
    have hx : e.x.may = true := hm a.1 e.x (by obtain ⟨p, y⟩ := a; simp only at he; rw [he.1]; exact List.mem_cons_self)
    have hl := It.bytes_le hx
    have e1 : costs (r :: tl) = r.cost + costs tl := by simp [costs]
    have e2 : fcosts (e :: es) = e.cost + fcosts es := by simp [fcosts]
    rw [e1, e2]
    unfold LRec.cost FEnt.cost
    rw [hb, ho.1]
    omega
section
variable {st : FSt} {lst : LSt} {hs : List FRec}
theorem FM.len (h : FM st lst hs) : lst.hist.length = hs.length := by have := congrArg List.length h.key; simpa using this
theorem FM.pos (h : FM st lst hs) : lst.hist.map (·.pos) = hs.map (·.1) := by
 have := congrArg (List.map Prod.fst) h.key
 rw [List.map_map, List.map_map] at this
 exact this
theorem FM.recs (h : FM st lst hs) : lst.recs = (hs.drop lst.gone).map frk := by
 unfold LSt.recs
 rw [List.map_drop, h.key, ← List.map_drop]
theorem FM.ok (h : FM st lst hs) (ho : lst.Ok) : st.Ok := by
 obtain ⟨h0, h1, e, -, he, hop, hg⟩ := h.cut
 have hlen := h.len
 have hl1 : h1.length = st.ents.length := by have := congrArg List.length he; simpa using this
 have hlen2 : hs.length = h0.length + h1.length := by rw [e, List.length_append]
 have hgo := ho.gone
 refine ⟨by rw [← h.segs]; exact ho.segs, fun en hen => ?_, by omega, fun i hi hc => ?_⟩
 ·have : some en.x ∈ h1.map (·.2) := by rw [he]; exact List.mem_map.2 ⟨en, hen, rfl⟩
  obtain ⟨a, ha, hax⟩ := List.mem_map.1 this
  refine h.may a.1 en.x ?_
  rw [e]
  obtain ⟨p, y⟩ := a
  simp only at hax
  subst hax
  exact List.mem_append_right _ ha
 ·have hd : (lst.hist.drop (h0.length + i)).map LRec.key = (h1.drop i).map frk := by
   rw [List.map_drop, h.key, e, List.map_append, List.drop_append, List.map_drop]
   rw [List.drop_eq_nil_of_le (by simp), List.nil_append, List.length_map]
   congr 1; omega
  have := costs_le (lst.hist.drop (h0.length + i)) (h1.drop i) (st.ents.drop i) hd (fun p x hx => h.may p x (by rw [e]; exact List.mem_append_right _ (List.mem_of_mem_drop hx)))
   (by rw [List.map_drop, he, List.map_drop]) (by rw [← List.drop_drop, List.map_drop, hop, List.map_drop])
  have := ho.kept (h0.length + i) (by omega) (by rw [h.segs]; omega)
  omega
theorem sp_plain (h1 : List FRec) (es : List FEnt) (he : h1.map (·.2) = es.map fun e => some e.x) (k : ByteArray) : (sp h1 k).map (·.2) = (fLast es 0 k).bind fun x => if x.gone then none else some x := by
 obtain ⟨n, hn⟩ : ∃ n, h1.length = n := ⟨_, rfl⟩
 induction n generalizing h1 es with
 | zero =>
  have : h1 = [] := List.eq_nil_of_length_eq_zero hn
  subst this
  cases es with
  | nil => rfl
  | cons e es => simp at he
 | succ n ih =>
  obtain ⟨a, b, rfl⟩ := snoc_is h1 (fun e => by rw [e] at hn; simp at hn)
  obtain ⟨c, d, rfl⟩ := snoc_is es (fun e => by rw [e] at he; simp at he)
  rw [List.map_append, List.map_append] at he
  have hl : (a.map (·.2)).length = (c.map fun e => some e.x).length := by
   have := congrArg List.length he
   simpa using this
  obtain ⟨e1, e2⟩ := List.append_inj he hl
  have hi := ih a c e1 (by simpa using hn)
  rw [sp_snoc, fLast_snoc]
  obtain ⟨q, y⟩ := b
  simp only [List.map_cons, List.map_nil, List.cons.injEq, and_true] at e2
  subst e2
  show (if d.x.key = k then (if d.x.gone then none else some (q, d.x)) else sp a k).map (·.2) = _
  by_cases hk : d.x.key = k
  ·rw [if_pos hk, if_pos hk]
   show _ = (if d.x.gone then none else some d.x)
   cases d.x.gone <;> rfl
  ·rw [if_neg hk, if_neg hk]; exact hi
theorem FM.at_ (h : FM st lst hs) (k : ByteArray) : st.at_ k = (sp (hs.drop lst.gone) k).map (·.2) := by
 obtain ⟨h0, h1, e, hc, he, hop, hg⟩ := h.cut
 have hf : fLast st.ents st.gone k = fLast (st.ents.drop st.gone) 0 k := by unfold fLast; rw [List.drop_zero]
 unfold FSt.at_
 rw [hf, ← sp_plain (h1.drop st.gone) (st.ents.drop st.gone) (by rw [List.map_drop, he, List.map_drop]) k]
 congr 1
 rw [e, List.drop_append, hg]
 rcases hc with rfl | ⟨a, p, rfl⟩
 ·rw [List.drop_nil, List.nil_append]
 ·by_cases hl : lst.gone ≤ a.length
  ·have e0 : lst.gone - (a ++ [(p, none)]).length = 0 := by simp; omega
   rw [e0, List.drop_zero, List.drop_append_of_le_length hl, sp_cut]
  ·have e1 : (a ++ [(p, (none : Option It))]).drop lst.gone = [] := List.drop_eq_nil_of_le (by simp; omega)
   rw [e1, List.nil_append]
theorem FM.add (h : FM st lst hs) {x : It} (hx : x.may = true) {p pos g f y : Nat} (hg : lst.gone ≤ g) (hy : y ≤ lst.next + 1048576) (hold : st.age + 1 ≤ 30000) :
  ∃ g', st.gone ≤ g' ∧ FM ⟨st.place, st.segs, st.ents ++ [⟨x, 0⟩], g', st.age + 1⟩ ⟨p, lst.place, lst.segs, lst.hist ++ [⟨pos, x.bytes, 0⟩], g, f, y⟩ (hs ++ [(pos, some x)]) := by
 obtain ⟨h0, h1, e, hc, he, hop, hgo⟩ := h.cut
 have hlen := h.len
 have hlen2 : hs.length = h0.length + h1.length := by rw [e, List.length_append]
 refine ⟨g - h0.length, by omega, ?_, fun q z hz => ?_, ⟨h0, h1 ++ [(pos, some x)], by rw [e, List.append_assoc], hc, by simp [he], ?_, rfl⟩, h.place, h.segs, by have := h.age; simp; omega, by have := h.next; simp only; omega, hold⟩
 ·simp only [List.map_append, h.key]; rfl
 ·rcases List.mem_append.1 hz with hz | hz
  ·exact h.may q z hz
  ·cases List.mem_singleton.1 hz; exact hx
 ·simp only
  rw [List.drop_append_of_le_length (by omega), List.map_append, hop, List.map_append]
  rfl
theorem FM.wiped (h : FM st lst hs) {p pos g f y : Nat} (hg : g ≤ lst.hist.length + 1) (hy : y ≤ lst.next + 1048576) (hold : st.age + 1 ≤ 30000) :
  FM ⟨st.place, st.segs, [], 0, st.age + 1⟩ ⟨p, lst.place, lst.segs, lst.hist ++ [⟨pos, [0], 0⟩], g, f, y⟩ (hs ++ [(pos, none)]) := by
 have hlen := h.len
 refine ⟨?_, fun q z hz => ?_, ⟨hs ++ [(pos, none)], [], by simp, .inr ⟨hs, pos, rfl⟩, rfl, ?_, ?_⟩, h.place, h.segs, by have := h.age; simp; omega, by have := h.next; simp only; omega, hold⟩
 ·simp only [List.map_append, h.key]; rfl
 ·rcases List.mem_append.1 hz with hz | hz
  ·exact h.may q z hz
  ·cases List.mem_singleton.1 hz
 ·rw [List.drop_eq_nil_of_le (by simp; omega)]; rfl
 ·simp only [List.length_append, List.length_cons, List.length_nil]; omega
theorem opened_key (l : List LRec) : (opened l).map LRec.key = l.map LRec.key := by
 by_cases hl : l = []
 ·subst hl; rfl
 ·obtain ⟨a, r, rfl⟩ := snoc_is l hl
  rw [opened_snoc]; simp [LRec.key]
theorem opened_length (l : List LRec) : (opened l).length = l.length := by
 have := congrArg List.length (opened_key l)
 simpa using this
theorem opened_opens (l : List LRec) (n : Nat) (es : List FEnt) (h : (l.drop n).map (·.opens) = es.map (·.opens)) : ((opened l).drop n).map (·.opens) = (fopened es).map (·.opens) := by
 by_cases hl : l = []
 ·subst hl
  cases es with
  | nil => show (([] : List LRec).drop n).map _ = _; rw [List.drop_nil]; rfl
  | cons e es => simp at h
 ·obtain ⟨a, r, rfl⟩ := snoc_is l hl
  rw [opened_snoc]
  by_cases hn : n ≤ a.length
  ·rw [List.drop_append_of_le_length hn] at h ⊢
   obtain ⟨c, d, rfl⟩ := snoc_is es (fun e => by rw [e] at h; simp at h)
   rw [fopened_snoc]
   rw [List.map_append, List.map_append] at h ⊢
   have hh : ((a.drop n).map (·.opens)).length = (c.map (·.opens)).length := by
    have := congrArg List.length h
    simpa using this
   obtain ⟨e1, e2⟩ := List.append_inj h hh
   simp only [List.map_cons, List.map_nil, List.cons.injEq, and_true] at e2
   rw [e1]
   simp [e2]
  ·rw [List.drop_eq_nil_of_le (by simp; omega)] at h ⊢
   cases es with
   | nil => rfl
   | cons e es => simp at h
theorem fopened_x (l : List FEnt) : (fopened l).map (fun e => some e.x) = l.map fun e => some e.x := by
 by_cases hl : l = []
 ·subst hl; rfl
 ·obtain ⟨a, r, rfl⟩ := snoc_is l hl
  rw [fopened_snoc]; simp
theorem FM.opened (h : FM st lst hs) {p f y : Nat} (hy : y ≤ lst.next + 1048576) (hold : st.age + 1 ≤ 30000) :
  FM ⟨st.place, st.segs, fopened st.ents, st.gone, st.age + 1⟩ ⟨p, lst.place, lst.segs, opened lst.hist, lst.gone, f, y⟩ hs := by
 obtain ⟨h0, h1, e, hc, he, hop, hgo⟩ := h.cut
 refine ⟨by simp only; rw [opened_key]; exact h.key, h.may, ⟨h0, h1, e, hc, by simp only; rw [fopened_x]; exact he, opened_opens _ _ _ hop, hgo⟩, h.place, h.segs, by have := h.age; simp only; rw [opened_length]; omega, by have := h.next; simp only; omega, hold⟩
theorem pos_ge {hist : List LRec} {hs : List FRec} (h : hist.map (·.pos) = hs.map (·.1)) {P : Nat → Prop} (n : Nat) (hp : ∀ r ∈ hist.drop n, P r.pos) : ∀ a ∈ hs.drop n, P a.1 := by
 intro a ha
 have : a.1 ∈ (hs.drop n).map (·.1) := List.mem_map.2 ⟨a, ha, rfl⟩
 rw [List.map_drop, ← h, ← List.map_drop] at this
 obtain ⟨r, hr, e⟩ := List.mem_map.1 this
 rw [← e]; exact hp r hr
theorem pos_lt {hist : List LRec} {hs : List FRec} (h : hist.map (·.pos) = hs.map (·.1)) {P : Nat → Prop} (n : Nat) (hp : ∀ r ∈ hist.take n, P r.pos) : ∀ a ∈ hs.take n, P a.1 := by
 intro a ha
 have : a.1 ∈ (hs.take n).map (·.1) := List.mem_map.2 ⟨a, ha, rfl⟩
 rw [List.map_take, ← h, ← List.map_take] at this
 obtain ⟨r, hr, e⟩ := List.mem_map.1 this
 rw [← e]; exact hp r hr
theorem ix_kept {ix : IxSt} {hs : List FRec} {a : FRec} {n g g' f f' : Nat} (h : IxSays ix (hs.drop g ++ [a]) n) (hgl : g ≤ hs.length) (hg : g ≤ g') (h1 : ∀ r ∈ hs.drop g, f ≤ r.1) (ha : f ≤ a.1) (h2 : ∀ r ∈ (hs ++ [a]).take g', r.1 < f') (h3 : ∀ r ∈ (hs ++ [a]).drop g', f' ≤ r.1) :
  (f' = f → IxSays ix ((hs ++ [a]).drop g') n) ∧ IxSays (ixBelow ix (f' : Int)) ((hs ++ [a]).drop g') n := by
 have e : hs.drop g ++ [a] = (hs ++ [a]).drop g := by rw [List.drop_append_of_le_length hgl]
 rw [e] at h
 have e2 : (hs ++ [a]).drop g = ((hs ++ [a]).drop g).take (g' - g) ++ (hs ++ [a]).drop g' := by
  have := List.take_append_drop (g' - g) ((hs ++ [a]).drop g)
  rw [List.drop_drop, show g + (g' - g) = g' by omega] at this
  exact this.symm
 have h4 : ∀ r ∈ ((hs ++ [a]).drop g).take (g' - g), r.1 < f' := by
  intro r hr
  refine h2 r ?_
  rw [← List.drop_take] at hr
  exact List.mem_of_mem_drop hr
 refine ⟨fun hf => ?_, ?_⟩
 ·have : ((hs ++ [a]).drop g).take (g' - g) = [] := by
   refine List.eq_nil_iff_forall_not_mem.2 fun r hr => ?_
   have h5 := h4 r hr
   have h6 : f ≤ r.1 := by
    have hm := List.mem_of_mem_take hr
    rw [List.drop_append_of_le_length hgl] at hm
    rcases List.mem_append.1 hm with hm | hm
    ·exact h1 r hm
    ·rw [List.mem_singleton.1 hm]; exact ha
   omega
  rw [e2, this, List.nil_append] at h
  exact h
 ·rw [e2] at h
  exact h.below f' h4 h3
end
end Go.Proofs.YticophaepapjoaaGreatDoor
namespace Go.Proofs.YticophaepapjoaaGreatDoor
open Go Go.RowKit Go.Joins
theorem src_item (W : World) (x : It) : Src Tryz.prog 4 133 (.slice (some ⟨W.heap.size, 0, none⟩) 1 1) 1 x.cells (W.alloc (.cells #[.string x.key, .string x.val, .int .i64 x.till, .bool x.gone] 40)) :=
 Src.ofSlice _ Tryz.underlying133 ⟨W.heap.size, 0, none⟩ 1 1 x.cells rfl (fun j v hv => by
  rw [WideShapes.add_plain, Nat.zero_add]
  exact (cell_alloc_mark_at W _ _ _ W.heap.size j rfl).trans (by rw [← hv, ← Array.getElem?_toList]; rfl)) (fun v hv => by
  simp only [It.cells, List.mem_cons, List.not_mem_nil, or_false] at hv
  rcases hv with rfl | rfl | rfl | rfl <;> rfl)
end Go.Proofs.YticophaepapjoaaGreatDoor
namespace Go.Proofs.YticophaepapjoaaGreatDoor
open Go Go.RowKit Go.Joins Go.Sort
set_option maxRecDepth 100000 in
theorem sclone_any (s : ByteArray) (w : World) (hs : s.size ≤ 281474976710656) :
  Calls Tryz.prog 141 #[.string s] w fun e w' => e = .returned (.string s) ∧ Keeps (fun _ => True) w w' := by
 have hC := Lib.hid (show Calls Tryz.prog 174 #[.string s] w fun e w' => e = .returned (.string s) ∧ Below w.heap.size w w' from Any.stringslite_Clone Tryz.cloneA s w hs)
 clear hs
 go_enter Tryz.func141, Tryz.ntmps141
 go_wp2_with fail
 refine (show Calls _ _ _ _ _ from hC.out).mono ?_
 rintro e w1 ⟨rfl, hb⟩
 have hk : Keeps (fun _ => True) w w1 := Keeps.of_below hb _
 go_wp2_with fail
 go_ret
 exact ⟨rfl, hk⟩
end Go.Proofs.YticophaepapjoaaGreatDoor
namespace Go.Proofs.YticophaepapjoaaGreatDoor
open Go Go.ChangeShapes Go.WideShapes Go.ChangeAt Go.RowKit Go.Deep
section
variable {H : Type} {enc : TypeId × Value → H} {P : Program} {W W' : World}
theorem trodAll_len {base : Nat} {sp : Nat → Bool} {held : Bool} : ∀ {ts : List TypeId} {vs : List Value} {ds : List (DataW H)} {ps : List MemPlace}, DataW.TrodAll enc P W base sp held ts vs ds ps → ds.length = ts.length
 | [], [], [], _, _ => rfl
 | _ :: _, _ :: _, _ :: _, _, ⟨_, _, _, h, _⟩ => by simp [trodAll_len h]
theorem trodAll_below (hl : laidOutB P = true) (hb : Below W.heap.size W W') : ∀ {ts : List TypeId} {vs : List Value} {ds : List (DataW H)} {ps : List MemPlace}, (ts.all fun t => P.readableRec t && decide (t < P.types.size)) = true →
  DataW.TrodAll enc P W 0 (fun _ => true) true ts vs ds ps → DataW.TrodAll enc P W' 0 (fun b => decide (b < W.heap.size)) true ts vs ds ps
 | [], [], [], _, _, h => h
 | t :: ts, v :: vs, d :: ds, _, ht, ⟨p, q, h1, h2, e⟩ => by
  simp only [List.all_cons, Bool.and_eq_true, decide_eq_true_eq] at ht
  have hlt : ∀ x ∈ p, x.block < W.heap.size := by obtain ⟨m, hm⟩ := h1; exact DataW.trod_lt m _ _ _ hm
  exact ⟨p, q, Below.trod hl ht.1.1 ht.1.2 h1 hb hlt, trodAll_below hl hb ht.2 h2, e⟩
def LawWalk (H : Type) (enc : TypeId × Value → H) (P : Program) (f : FuncId) (fn : Func) (X : World → Prop) : Prop :=
 ∀ (W : World) (base : Nat) (args : Array Value) (ds : List (DataW H)) (p : List MemPlace), (∀ (j : Nat) t v, fn.params[j]? = some t → args[j]? = some v → Value.okWide P W .any base t v) →
  DataW.TrodAll enc P W 0 (fun _ => true) true fn.params.toList args.toList ds p → X W → Calls P f args W fun e W' => e = .returned (.bool true) ∧ Below W.heap.size W W'
theorem law_post {fn : Func} {s : ChangeSpec} {tb : TypeId} (hl : laidOutB P = true) (htys : (fn.params.toList.all fun t => P.readableRec t && decide (t < P.types.size)) = true)
  (hres : fn.resultTypes = #[tb]) (hb : P.underlying tb = some .bool) (hvars : s.vars = []) (hs : ∀ ds : List (DataW H), ds.length = fn.params.size → s.fn H ds = { results := [.lit (.bool true)], args := ds })
  {args : Array Value} {ds gs : List (DataW H)} {before : List MemPlace} (hW : DataW.Whole enc P fn.params.toList s.vars false W args.toList ds gs before) (bel : Below W.heap.size W W') :
  s.post enc P fn false true false false W args (.bool true) W' := by
 have hW' := hW
 obtain ⟨p, q, hA, hV, rfl, hfz, hnd⟩ := hW
 rw [hvars] at hV
 obtain ⟨rfl, rfl⟩ := trodVars_none hV
 have e1 := hs ds (by rw [trodAll_len hA]; simp)
 refine ⟨ds, [], p ++ [], [], p, [], hW', ?_, ?_, ?_, bel.frame _, fun h => by cases h⟩
 ·rw [List.append_nil, e1, hres]; exact trodAll_mk1 (shut_bool hb true)
 ·rw [List.append_nil, e1]; exact trodAll_below hl bel htys hA
 ·rw [List.append_nil, e1, hvars]; rfl
theorem law_laid {C : Checked} {os : Os} {f : FuncId} {fn : Func} {s : ChangeSpec} {tb : TypeId} {X : World → Prop} (hX : ∀ w w' : World, w.heap = w'.heap → X w → X w')
  (own : ownKnob C.prog.godebug = none) (started : os.Started) (noInit : C.prog.inits.idxOf? f = none) (hfn : C.prog.funcs[f]? = some fn)
  (witness : ∃ (w : World) (tape : Tape) (i : Input), w.os = os ∧ (w.forCall tape i).Shaped C.prog ∧ i.vars = [] ∧ Input.okWide C.prog (w.forCall tape i) .any w.heap.size f i ∧
   ((s.pre enc C.prog fn [] false (w.forCall tape i).memory i.args ∧ X (w.forCall tape i).memory) ∧ sizedMet enc C.prog fn (OpenSpec.ofChange s) false (w.forCall tape i).memory i.args) ∧ ({} : Assume).holds C.prog (lone (Frame.enter C.prog f i.args .normal) [] (w.forCall tape i)))
  (hl : laidOutB C.prog = true) (htys : (fn.params.toList.all fun t => C.prog.readableRec t && decide (t < C.prog.types.size)) = true)
  (hres : fn.resultTypes = #[tb]) (hb : C.prog.underlying tb = some .bool) (hvars : s.vars = []) (hs : ∀ ds : List (DataW H), ds.length = fn.params.size → s.fn H ds = { results := [.lit (.bool true)], args := ds })
  (walk : LawWalk H enc C.prog f fn X) :
  ReturnsInHanded {} C os f .any (fun w args => (s.pre enc C.prog fn [] false w args ∧ X w) ∧ sizedMet enc C.prog fn (OpenSpec.ofChange s) false w args) (s.post enc C.prog fn false true false false) := by
 refine returnsInHanded_of_change_and (X := fun w _ => X w) (fun w w' _ h hx => hX w w' h hx) own started noInit hfn witness ?_
 intro W base args ds gs before hval hW _ _ hL _
 have hA := hW
 obtain ⟨p, q, hA, _⟩ := hA
 refine (walk W base args ds p hval hA hL).mono fun e W' ⟨he, bel⟩ => ?_
 subst he
 exact ⟨_, rfl, law_post hl htys hres hb hvars hs hW bel⟩
theorem open_row_ints {t e : TypeId} {k : IntKind} {v : Value} {d : DataW H} {ps : List MemPlace} {base : Nat} (ht : P.underlying t = some (.slice e)) (he : P.underlying e = some (.int k)) (ce : P.cellsOf e = 1)
  (hok : Value.okWide P W .any base t v) (h : DataW.Trod enc P W 0 (fun _ => true) true t v d ps) :
  ∃ (A : Option Addr) (cap : Nat) (l : List Int), v = .slice A l.length cap ∧ l.length ≤ cap ∧ cap ≤ maxLen ∧ (A = none → cap = 0) ∧ Row W A (fun b => b < W.heap.size) (l.map (Value.int k)) ∧ ∀ n ∈ l, (Lit.int k n).wf = true := by
 obtain ⟨a, len, cap, rfl⟩ := okWide_slice ht hok
 obtain ⟨fuel, hf⟩ := h
 rcases open_ints ht he ce hf with ⟨hcs, _⟩ | ⟨x, n, c, zs, hcs, _, hl, hm, hz, _, hcell, hwz⟩
 ·simp [Value.cells] at hcs
  obtain ⟨rfl, rfl, rfl⟩ := hcs
  exact ⟨none, 0, [], rfl, Nat.le_refl _, Nat.zero_le _, (fun _ => rfl), Row.nil _ _ _, by simp⟩
 ·simp [Value.cells] at hcs
  obtain ⟨rfl, rfl, rfl⟩ := hcs
  simp only [if_true] at hz
  have hln : (zs.take len).length = len := by simp; omega
  refine ⟨some x, cap, zs.take len, by rw [hln], by rw [hln]; exact hl, hm, (fun h => by cases h), (fun hne => ?_), fun n hn => hwz n (List.mem_of_mem_take hn)⟩
  have hpos : 0 < len := by
   rcases Nat.eq_zero_or_pos len with h0 | h0
   ·subst h0; simp at hne
   ·exact h0
  obtain ⟨b, off, spot⟩ := x
  have hspot : spot = none := by simpa [Addr.add] using World.cell?_spot (hcell 0 (by omega))
  subst hspot
  have h0 := hcell 0 (by omega)
  rw [add_plain] at h0
  refine ⟨b, off, rfl, World.block_lt_of_cell? W _ h0, fun i v hv => ?_⟩
  simp only [List.getElem?_map, Option.map_eq_some_iff] at hv
  obtain ⟨z, hzi, rfl⟩ := hv
  have hi : i < len := by
   rcases Nat.lt_or_ge i len with h1 | h1
   ·exact h1
   ·rw [List.getElem?_take, if_neg (by omega)] at hzi; cases hzi
  rw [List.getElem?_take, if_pos hi] at hzi
  have hc := hcell i (by omega)
  rw [add_plain] at hc
  have e0 : zs.getD i 0 = z := by rw [List.getD_eq_getElem?_getD, hzi]; rfl
  rw [e0] at hc
  exact hc
end
end Go.Proofs.YticophaepapjoaaGreatDoor
