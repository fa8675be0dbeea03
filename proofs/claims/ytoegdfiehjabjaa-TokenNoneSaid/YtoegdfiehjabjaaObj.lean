/-
  OBJECTS IN MEMORY (my own text; it knows no program): the blocks that an object may write ('M') and those that it only reads and may share ('I'); a step that writes no others; two objects apart.
-/
import Derived.Test.YtoegdfiehjabjaaWords
namespace Go.Proofs.Ytoegdfiehjabjaa
open Go Go.RowKit

/-- An object's blocks: M, which its own calls may write; I, which nobody writes any more. -/
structure Foot where
  M : Nat → Prop
  I : Nat → Prop
def Foot.all (F : Foot) (b : Nat) : Prop := F.M b ∨ F.I b
/-- It lies in this world, in blocks from n on; what may be written is not shared. -/
structure Foot.In (F : Foot) (n : Nat) (w : World) : Prop where
  lt : ∀ b, F.all b → b < w.heap.size
  ge : ∀ b, F.all b → n ≤ b
  two : ∀ b, F.M b → ¬ F.I b
/-- A call on it: it writes its own blocks and lays new ones. -/
structure Step (F F' : Foot) (w w' : World) : Prop where
  keeps : Keeps (fun b => ¬ F.M b) w w'
  m : ∀ b, F'.M b → F.M b ∨ w.heap.size ≤ b
  i : ∀ b, F'.I b → F.all b ∨ w.heap.size ≤ b
/-- Neither may write what the other one has. -/
structure Apart (F G : Foot) : Prop where
  l : ∀ b, F.M b → ¬ G.all b
  r : ∀ b, G.M b → ¬ F.all b

section
variable {F F' F'' G : Foot} {w w' w'' : World} {n : Nat}
theorem Step.refl (F : Foot) (w : World) : Step F F w w := ⟨Keeps.refl _ _, fun _ h => .inl h, fun _ h => .inl (.inr h)⟩
theorem Step.all (h : Step F F' w w') : ∀ b, F'.all b → F.all b ∨ w.heap.size ≤ b := fun b hb => by
  rcases hb with hb | hb
  · rcases h.m b hb with h1 | h1
    · exact .inl (.inl h1)
    · exact .inr h1
  · exact h.i b hb
theorem Step.trans (h : Step F F' w w') (k : Step F' F'' w' w'') : Step F F'' w w'' := by
  have hs := h.keeps.size
  refine ⟨⟨k.keeps.os.trans h.keeps.os, k.keeps.tape.trans h.keeps.tape, k.keeps.output.trans h.keeps.output, Nat.le_trans hs k.keeps.size, fun b hb hlt => ?_⟩, fun b hb => ?_, fun b hb => ?_⟩
  · refine (k.keeps.block b (fun hm => ?_) (Nat.lt_of_lt_of_le hlt hs)).trans (h.keeps.block b hb hlt)
    rcases h.m b hm with h1 | h1
    · exact hb h1
    · omega
  · rcases k.m b hb with h1 | h1
    · exact h.m b h1
    · exact .inr (Nat.le_trans hs h1)
  · rcases k.i b hb with h1 | h1
    · exact h.all b h1
    · exact .inr (Nat.le_trans hs h1)
theorem Step.alloc (h : Step F F' w w') (o : Obj) : Step F F' w (w'.alloc o) := ⟨h.keeps.alloc o, h.m, h.i⟩
theorem Step.drew (h : Step F F' w w') : Step F F' w w'.drew := ⟨h.keeps.drew, h.m, h.i⟩
theorem Step.of_keeps (h : Keeps (fun _ => True) w w') (F : Foot) : Step F F w w' := ⟨h.mono fun _ _ _ => trivial, fun _ hb => .inl hb, fun _ hb => .inl (.inr hb)⟩
/-- What was there ahead of all of it. -/
theorem Step.old {a : World} (h : Step F F' w w') (hF : ∀ b, F.M b → a.heap.size ≤ b) (hk : Keeps (fun _ => True) a w) : Keeps (fun _ => True) a w' :=
  ⟨h.keeps.os.trans hk.os, h.keeps.tape.trans hk.tape, h.keeps.output.trans hk.output, Nat.le_trans hk.size h.keeps.size, fun b _ hb =>
    (h.keeps.block b (fun hm => by have := hF b hm; omega) (Nat.lt_of_lt_of_le hb hk.size)).trans (hk.block b trivial hb)⟩
theorem Apart.symm (h : Apart F G) : Apart G F := ⟨h.r, h.l⟩
/-- The other object is as it was. -/
theorem Step.other (h : Step F F' w w') (ha : Apart F G) : Keeps G.all w w' := h.keeps.mono fun b _ hg hm => ha.l b hm hg
theorem Step.apart (h : Step F F' w w') (ha : Apart F G) (hG : ∀ b, G.all b → b < w.heap.size) : Apart F' G := by
  refine ⟨fun b hb hg => ?_, fun b hb hf => ?_⟩
  · rcases h.m b hb with h1 | h1
    · exact ha.l b h1 hg
    · have := hG b hg; omega
  · rcases h.all b hf with h1 | h1
    · exact ha.r b hb h1
    · have := hG b (.inl hb); omega
theorem Foot.In.other (h : F.In n w) (hs : w.heap.size ≤ w'.heap.size) : F.In n w' := ⟨fun b hb => Nat.lt_of_lt_of_le (h.lt b hb) hs, h.ge, h.two⟩
theorem Step.ge (h : Step F F' w w') (hF : F.In n w) (hn : n ≤ w.heap.size) : ∀ b, F'.all b → n ≤ b := fun b hb => by
  rcases h.all b hb with h1 | h1
  · exact hF.ge b h1
  · omega
/-- New blocks are apart from all that lay there. -/
theorem Apart.fresh (hF : ∀ b, F.all b → w.heap.size ≤ b) (hG : ∀ b, G.all b → b < w.heap.size) : Apart F G :=
  ⟨fun b hb hg => by have := hF b (.inl hb); have := hG b hg; omega, fun b hb hf => by have := hF b hf; have := hG b (.inl hb); omega⟩
end

end Go.Proofs.Ytoegdfiehjabjaa
