/-
  Obj, Bytes, IntElem, DevMath, Nats: texts of mine, joined.
-/
import Derived.Test.YtemkjodkmehffaaGreatDoorWords
import Derived.Test.YtemkjodkmehffaaGreatDoorProg
import Derived.WalkKit
namespace Go.Proofs.YtemkjodkmehffaaGreatDoor
open Go Go.RowKit
structure Foot where
 M : Nat → Prop
 I : Nat → Prop
def Foot.all (F : Foot) (b : Nat) : Prop := F.M b ∨ F.I b
structure Step (F F' : Foot) (w w' : World) : Prop where
 keeps : Keeps (fun b => ¬ F.M b) w w'
 m : ∀ b, F'.M b → F.M b ∨ w.heap.size ≤ b
 i : ∀ b, F'.I b → F.all b ∨ w.heap.size ≤ b
structure Apart (F G : Foot) : Prop where
 l : ∀ b, F.M b → ¬ G.all b
 r : ∀ b, G.M b → ¬ F.all b
section
variable {F F' F'' G : Foot} {w w' w'' : World} {n : Nat}
theorem Step.refl (F : Foot) (w : World) : Step F F w w := ⟨Keeps.refl _ _, fun _ h => .inl h, fun _ h => .inl (.inr h)⟩
theorem Step.all (h : Step F F' w w') : ∀ b, F'.all b → F.all b ∨ w.heap.size ≤ b := fun b hb => by
 rcases hb with hb | hb
 ·rcases h.m b hb with h1 | h1
  ·exact .inl (.inl h1)
  ·exact .inr h1
 ·exact h.i b hb
theorem Step.trans (h : Step F F' w w') (k : Step F' F'' w' w'') : Step F F'' w w'' := by
 have hs := h.keeps.size
 refine ⟨⟨k.keeps.os.trans h.keeps.os, k.keeps.tape.trans h.keeps.tape, k.keeps.output.trans h.keeps.output, Nat.le_trans hs k.keeps.size, fun b hb hlt => ?_⟩, fun b hb => ?_, fun b hb => ?_⟩
 ·refine (k.keeps.block b (fun hm => ?_) (Nat.lt_of_lt_of_le hlt hs)).trans (h.keeps.block b hb hlt)
  rcases h.m b hm with h1 | h1
  ·exact hb h1
  ·omega
 ·rcases k.m b hb with h1 | h1
  ·exact h.m b h1
  ·exact .inr (Nat.le_trans hs h1)
 ·rcases k.i b hb with h1 | h1
  ·exact h.all b h1
  ·exact .inr (Nat.le_trans hs h1)
theorem Step.old {a : World} (h : Step F F' w w') (hF : ∀ b, F.M b → a.heap.size ≤ b) (hk : Keeps (fun _ => True) a w) : Keeps (fun _ => True) a w' :=
 ⟨h.keeps.os.trans hk.os, h.keeps.tape.trans hk.tape, h.keeps.output.trans hk.output, Nat.le_trans hk.size h.keeps.size, fun b _ hb =>
  (h.keeps.block b (fun hm => by have := hF b hm; omega) (Nat.lt_of_lt_of_le hb hk.size)).trans (hk.block b trivial hb)⟩
end
theorem byte_elem : Elem Tryz.prog 71 5 (.int .u8 0) 1 1 := ⟨Tryz.underlying71, by kernel_rfl, rfl, by decide⟩
def OwnB (w : World) (base : Nat) (v : Value) (l : List UInt8) : Prop := w.ownsRow base 5 1 v l.length (bcells l)
theorem OwnB.snoc {w : World} {base : Nat} {v : Value} {l r : List UInt8} {m : Nat} {xs : List Value} (h : w.ownsRow base 5 1 v m xs) (hm : m = (l ++ r).length) (hx : xs = bcells l ++ bcells r) : OwnB w base v (l ++ r) := by
 unfold OwnB; rw [bcells_append, ← hx, ← hm]; exact h
theorem int_elem : Elem Tryz.prog 48 3 (.int .i64 0) 1 8 := ⟨Tryz.underlying48, by kernel_rfl, rfl, by decide⟩
end Go.Proofs.YtemkjodkmehffaaGreatDoor
namespace Go.Proofs.YtemkjodkmehffaaGreatDoor
structure SDev where
 now : List (List UInt8)
 fast : List (List UInt8)
 dirty : List Bool
 calls : Nat
def clampN (n : Int) : Nat := (max 1 (min n 2048)).toNat
theorem clampN_bd (n : Int) : 1 ≤ clampN n ∧ clampN n ≤ 2048 := by unfold clampN; omega
def blank : List UInt8 := List.replicate 64 0
def SDev.new (k : Nat) : SDev := ⟨List.replicate k blank, List.replicate k blank, List.replicate k false, 0⟩
def over (l old : List UInt8) : List UInt8 := l ++ old.drop l.length
def SDev.write (s : SDev) (i : Nat) (l : List UInt8) : SDev := ⟨s.now.set i (over l (s.now.getD i [])), s.fast, s.dirty.set i true, s.calls + 1⟩
def SDev.flush (s : SDev) : SDev := ⟨s.now, s.now, List.replicate s.now.length false, s.calls + 1⟩
def trues (l : List Bool) : List Nat := (List.range l.length).filter fun i => l.getD i false
def SDev.loose (s : SDev) : List Nat := trues s.dirty
def keptN (s : SDev) (keep : List Bool) (j : Nat) : List (List UInt8) :=
 (List.range j).foldl (fun acc t => if keep.getD t false then acc.set (s.loose.getD t 0) (s.now.getD (s.loose.getD t 0) []) else acc) s.fast
def SDev.crash (s : SDev) (keep : List Bool) : SDev :=
 let x := keptN s keep (min s.loose.length keep.length)
 ⟨x, x, List.replicate s.now.length false, 0⟩
structure SDev.Ok (s : SDev) : Prop where
 fast : s.fast.length = s.now.length
 dirty : s.dirty.length = s.now.length
 pos : 1 ≤ s.now.length
 small : s.now.length ≤ 2048
 nrow : ∀ r ∈ s.now, r.length = 64
 frow : ∀ r ∈ s.fast, r.length = 64
theorem over_len (l old : List UInt8) (h : l.length ≤ old.length) : (over l old).length = old.length := by unfold over; simp; omega
theorem getD_mem {α : Type} (l : List α) (i : Nat) (d : α) (h : i < l.length) : l.getD i d = l[i] := by rw [List.getD_eq_getElem?_getD, List.getElem?_eq_getElem h]; rfl
theorem trues_lt (l : List Bool) (i : Nat) (h : i ∈ trues l) : i < l.length := by unfold trues at h; simp at h; exact h.1
theorem trues_len (l : List Bool) : (trues l).length ≤ l.length := by
 unfold trues
 have := List.length_filter_le (fun i => l.getD i false) (List.range l.length)
 simpa using this
theorem keptN_zero (s : SDev) (keep : List Bool) : keptN s keep 0 = s.fast := rfl
theorem keptN_next (s : SDev) (keep : List Bool) (j : Nat) : keptN s keep (j + 1) = if keep.getD j false then (keptN s keep j).set (s.loose.getD j 0) (s.now.getD (s.loose.getD j 0) []) else keptN s keep j := by
 unfold keptN; rw [List.range_succ, List.foldl_append]; rfl
theorem keptN_len (s : SDev) (keep : List Bool) (j : Nat) : (keptN s keep j).length = s.fast.length := by
 induction j with
 | zero => rfl
 | succ j ih => rw [keptN_next]; split <;> simp [ih]
theorem loose_getD (s : SDev) (h : s.Ok) (j : Nat) (hj : j < s.loose.length) : s.loose.getD j 0 < s.now.length := by
 rw [getD_mem _ _ _ hj]
 have := trues_lt s.dirty _ (List.getElem_mem hj)
 rw [h.dirty] at this; exact this
theorem keptN_row (s : SDev) (keep : List Bool) (h : s.Ok) (j : Nat) (hj : j ≤ s.loose.length) : ∀ r ∈ keptN s keep j, r.length = 64 := by
 induction j with
 | zero => exact h.frow
 | succ j ih =>
  have ih' := ih (by omega)
  rw [keptN_next]
  split
  ·intro r hr
   rcases List.mem_or_eq_of_mem_set hr with hr | hr
   ·exact ih' r hr
   ·have hl := loose_getD s h j (by omega)
    rw [hr, getD_mem _ _ _ hl]; exact h.nrow _ (List.getElem_mem hl)
  ·exact ih'
theorem new_ok (k : Nat) (h1 : 1 ≤ k) (h2 : k ≤ 2048) : (SDev.new k).Ok := by
 refine ⟨by simp [SDev.new], by simp [SDev.new], by simpa [SDev.new] using h1, by simpa [SDev.new] using h2, ?_, ?_⟩ <;>
  (intro r hr; simp [SDev.new] at hr; rw [hr.2]; simp [blank])
theorem write_ok (s : SDev) (h : s.Ok) (i : Nat) (l : List UInt8) (hi : i < s.now.length) (hl : l.length ≤ 64) : (s.write i l).Ok := by
 refine ⟨by simp [SDev.write, h.fast], by simp [SDev.write, h.dirty], by simpa [SDev.write] using h.pos, by simpa [SDev.write] using h.small, fun r hr => ?_, h.frow⟩
 rcases List.mem_or_eq_of_mem_set hr with hr | hr
 ·exact h.nrow r hr
 ·have := h.nrow _ (List.getElem_mem hi)
  rw [hr, getD_mem _ _ _ hi, over_len _ _ (by omega), this]
theorem flush_ok (s : SDev) (h : s.Ok) : s.flush.Ok := ⟨rfl, by simp [SDev.flush], h.pos, h.small, h.nrow, h.nrow⟩
theorem crash_ok (s : SDev) (h : s.Ok) (keep : List Bool) : (s.crash keep).Ok := by
 have e : (keptN s keep (min s.loose.length keep.length)).length = s.now.length := by rw [keptN_len, h.fast]
 have hr := keptN_row s keep h (min s.loose.length keep.length) (Nat.min_le_left _ _)
 exact ⟨rfl, by simp [SDev.crash, e], by simpa [SDev.crash, e] using h.pos, by simpa [SDev.crash, e] using h.small, hr, hr⟩
def SDev.readL (s : SDev) (i : Int) : List UInt8 := if i < 0 ∨ (s.now.length : Int) ≤ i then [] else s.now.getD i.toNat []
def SDev.readE (s : SDev) (i : Int) : Int := if i < 0 ∨ (s.now.length : Int) ≤ i then 4 else 0
theorem trues_sorted (l : List Bool) : (trues l).Pairwise (· < ·) := List.Pairwise.filter _ List.pairwise_lt_range
theorem mem_trues (l : List Bool) (i : Nat) : i ∈ trues l ↔ l.getD i false = true := by
 unfold trues
 rw [List.mem_filter, List.mem_range]
 constructor
 ·exact fun h => h.2
 ·intro h
  refine ⟨Classical.byContradiction fun hn => ?_, h⟩
  rw [List.getD_eq_getElem?_getD, List.getElem?_eq_none (by omega)] at h
  cases h
end Go.Proofs.YtemkjodkmehffaaGreatDoor
namespace Go.Proofs.YtemkjodkmehffaaGreatDoor
open Go Go.RowKit
def nats (l : List Nat) : List Value := l.map fun n : Nat => .int .i64 (n : Int)
def OwnN (w : World) (base : Nat) (v : Value) (l : List Nat) : Prop := w.ownsRow base 3 1 v l.length (nats l)
theorem nats_at (l : List Nat) (j : Nat) (h : j < (nats l).length) : (nats l)[j] = .int .i64 ((l.getD j 0 : Nat) : Int) := by
 have hj : j < l.length := by simpa [nats] using h
 rw [getD_mem _ _ _ hj]; simp [nats]
end Go.Proofs.YtemkjodkmehffaaGreatDoor
