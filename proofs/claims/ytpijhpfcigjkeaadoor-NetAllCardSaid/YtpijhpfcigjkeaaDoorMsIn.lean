/-
  MESSAGES IN MEMORY (layer 19): whose lists lie in which blocks; whose lists may be written.
-/
import Derived.Test.YtpijhpfcigjkeaaDoorMsIf
import Derived.Test.YtpijhpfcigjkeaaDoorUnfr
namespace Go.Proofs.YtpijhpfcigjkeaaDoor
open Go Go.RowKit Go.Joins

/-- A message whose lists lie in blocks of kind G. -/
structure MsIn (w : World) (m : Ms) (a : MsA) (G : Nat → Prop) : Prop where
  its : ItsAt w a.ia G m.items
  mks : MksAt w a.ma G m.marks
  mem : Row w a.ba G (m.mem.map (Value.int .i64))
  old : Row w a.oa G (m.old.map (Value.int .i64))
  il : m.items.length ≤ a.ic ∧ a.ic ≤ maxLen
  ml : m.marks.length ≤ a.mc ∧ a.mc ≤ maxLen
  bl : m.mem.length ≤ a.bc ∧ a.bc ≤ maxLen ∧ (a.ba = none → a.bc = 0)
  ol : m.old.length ≤ a.oc ∧ a.oc ≤ maxLen ∧ (a.oa = none → a.oc = 0)
section
variable {w w' : World} {m : Ms} {a : MsA} {G H : Nat → Prop}
theorem MsIn.at_ (h : MsIn w m a G) : MsAt w m a := ⟨h.its.mono fun _ _ _ => trivial, h.il, h.mks.mono fun _ _ _ => trivial, h.ml, h.mem.mono fun _ _ _ => trivial, h.bl, h.old.mono fun _ _ _ => trivial, h.ol⟩
theorem MsIn.keep (h : MsIn w m a G) (hk : Keeps G w w') : MsIn w' m a G := ⟨h.its.keep hk, h.mks.keep hk, h.mem.keep hk, h.old.keep hk, h.il, h.ml, h.bl, h.ol⟩
theorem MsIn.mono (h : MsIn w m a G) (hF : ∀ b, b < w.heap.size → G b → H b) : MsIn w m a H := ⟨h.its.mono hF, h.mks.mono hF, h.mem.mono hF, h.old.mono hF, h.il, h.ml, h.bl, h.ol⟩
theorem MsAt.inn (h : MsAt w m a) : MsIn w m a (fun b => b < w.heap.size) := ⟨h.its.mono fun _ hb _ => hb, h.mks.mono fun _ hb _ => hb, h.mem.mono fun _ hb _ => hb, h.old.mono fun _ hb _ => hb, h.il, h.ml, h.bl, h.ol⟩
theorem MsIn.zero (w : World) (G : Nat → Prop) (m : Ms) (h1 : m.items = []) (h2 : m.marks = []) (h3 : m.mem = []) (h4 : m.old = []) : MsIn w m msA0 G :=
  ⟨by rw [h1]; exact ItsAt.nil _ _ _, by rw [h2]; exact MksAt.nil _ _ _, by rw [h3]; exact Row.nil _ _ _, by rw [h4]; exact Row.nil _ _ _, by rw [h1]; exact ⟨Nat.le_refl _, Nat.zero_le _⟩, by rw [h2]; exact ⟨Nat.le_refl _, Nat.zero_le _⟩, by rw [h3]; exact ⟨Nat.le_refl _, Nat.zero_le _, fun _ => rfl⟩, by rw [h4]; exact ⟨Nat.le_refl _, Nat.zero_le _, fun _ => rfl⟩⟩
end

structure MsFree (w : World) (m : Ms) (a : MsA) : Prop where
  its : Unfr w a.ia m.items.length
  mks : Unfr w a.ma m.marks.length
  mem : Unfr w a.ba m.mem.length
theorem MsFree.keep {w w' : World} {m : Ms} {a : MsA} {G : Nat → Prop} (h : MsFree w m a) (hm : MsIn w m a G) (hk : Keeps G w w') : MsFree w' m a := by
  refine ⟨fun b o hn e i => ?_, fun b o hn e i => ?_, fun b o hn e i => ?_⟩
  · obtain ⟨b', o', e', hG, hc, -⟩ := hm.its 0 hn
    rw [e] at e'; cases e'
    rw [hk.frozen (p := ⟨b, i, none⟩) (show b < w.heap.size from World.block_lt_of_cell? w _ hc) hG]
    exact h.its b o hn e i
  · obtain ⟨b', o', e', hG, hc, -⟩ := hm.mks 0 hn
    rw [e] at e'; cases e'
    rw [hk.frozen (p := ⟨b, i, none⟩) (show b < w.heap.size from World.block_lt_of_cell? w _ hc) hG]
    exact h.mks b o hn e i
  · obtain ⟨b', o', e', hG, hc⟩ := hm.mem.at_ (k := 0) (by rw [List.length_map]; exact hn)
    rw [e] at e'; cases e'
    rw [hk.frozen (p := ⟨b, i, none⟩) (show b < w.heap.size from World.block_lt_of_cell? w _ hc) hG]
    exact h.mem b o hn e i

end Go.Proofs.YtpijhpfcigjkeaaDoor
