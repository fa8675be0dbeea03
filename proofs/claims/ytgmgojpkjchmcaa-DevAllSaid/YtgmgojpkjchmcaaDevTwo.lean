/-
  THE PROGRAM's DEVICE AND THE REFERENCE's SIDE BY SIDE: apart; what a call on either leaves; two calls in one statement, in any order.
-/
import Derived.Test.YtgmgojpkjchmcaaDevOps
import Derived.Test.YtgmgojpkjchmcaaStageOps
namespace Go.Proofs.Ytgmgojpkjchmcaa
open Go Go.RowKit Go.Joins

/-- The program's device of state s and the reference's of state t, apart, in blocks that are new since w. -/
structure Two (D : DevOK) (w wr : World) (p q : Nat) (F G : Foot) (s t : SDev) : Prop where
  d : D.rep wr p F s
  r : RAt wr q G t
  ap : Apart F G
  gf : ∀ b, F.all b → w.heap.size ≤ b
  gg : ∀ b, G.all b → w.heap.size ≤ b
  kp : Keeps (fun _ => True) w wr
section
variable {D : DevOK} {w wr w' : World} {p q : Nat} {F G F' G' : Foot} {s t s' t' : SDev}
theorem Two.keep (h : Two D w wr p q F G s t) (hk : Keeps (fun _ => True) wr w') : Two D w w' p q F G s t :=
  ⟨D.keep h.d (hk.mono fun _ _ _ => trivial), h.r.keep (hk.mono fun _ _ _ => trivial), h.ap, h.gf, h.gg, h.kp.trans hk⟩
theorem Two.step_d (h : Two D w wr p q F G s t) (hr : D.rep w' p F' s') (hs : Step F F' wr w') : Two D w w' p q F' G s' t :=
  ⟨hr, h.r.keep (hs.other h.ap), hs.apart h.ap h.r.lt, fun b hb => by
    rcases hs.all b hb with h1 | h1
    · exact h.gf b h1
    · exact Nat.le_trans h.kp.size h1, h.gg, hs.old (fun b hb => h.gf b (.inl hb)) h.kp⟩
theorem Two.step_r (h : Two D w wr p q F G s t) (hr : RAt w' q G' t') (hs : Step G G' wr w') : Two D w w' p q F G' s t' :=
  ⟨D.keep h.d (hs.other h.ap.symm), hr, (hs.apart h.ap.symm (D.lt h.d)).symm, h.gf, fun b hb => by
    rcases hs.all b hb with h1 | h1
    · exact h.gg b h1
    · exact Nat.le_trans h.kp.size h1, hs.old (fun b hb => h.gg b (.inl hb)) h.kp⟩
end

/-- A struct variable's cells of a law, outside both devices. -/
structure Cells3 (w wx : World) (ob : Nat) (c1 c2 c3 : Value) : Prop where
  a : wx.cell? ⟨ob, 1, none⟩ = some c1
  b : wx.cell? ⟨ob, 2, none⟩ = some c2
  c : wx.cell? ⟨ob, 3, none⟩ = some c3
theorem Cells3.keep {w wx w' : World} {ob : Nat} {c1 c2 c3 : Value} {F : Nat → Prop} (h : Cells3 w wx ob c1 c2 c3) (hk : Keeps F wx w') (ho : F ob) : Cells3 w w' ob c1 c2 c3 := ⟨hk.cell h.a ho, hk.cell h.b ho, hk.cell h.c ho⟩

/-- 'd.Op(..) != r.Op(..)': ahead of both, behind either, behind both: both answer X, and go from s to t. -/
structure SW (D : DevOK) (w : World) (ob p q : Nat) (c1 c2 c3 X : Value) (s t : SDev) (la lb : Bool) (va vb : Value) (wx : World) : Prop where
  cs : Cells3 w wx ob c1 c2 c3
  a : la = true → va = X
  b : lb = true → vb = X
  two : ∃ F G, Two D w wx p q F G (if la then t else s) (if lb then t else s) ∧ ¬ F.all ob ∧ ¬ G.all ob
section
variable {D : DevOK} {w wx w' : World} {ob p q : Nat} {c1 c2 c3 X va vb : Value} {s t : SDev} {la lb : Bool}
theorem Cells3.lt (h : Cells3 w wx ob c1 c2 c3) : ob < wx.heap.size := World.block_lt_of_cell? wx _ h.a
theorem not_step {F F' : Foot} (h : ¬ F.all ob) (hs : Step F F' wx w') (hl : ob < wx.heap.size) : ¬ F'.all ob := fun hb => by
  rcases hs.all ob hb with h1 | h1
  · exact h h1
  · omega
theorem SW.step_d {F G F' : Foot} (h : SW D w ob p q c1 c2 c3 X s t false lb va vb wx) (h2 : Two D w wx p q F G s (if lb then t else s)) (n1 : ¬ F.all ob) (n2 : ¬ G.all ob) (hr : D.rep w' p F' t) (hs : Step F F' wx w') : SW D w ob p q c1 c2 c3 X s t true lb X vb w' :=
  ⟨h.cs.keep hs.keeps (fun hm => n1 (.inl hm)), fun _ => rfl, h.b, F', G, h2.step_d hr hs, not_step n1 hs h.cs.lt, n2⟩
theorem SW.step_r {F G G' : Foot} (h : SW D w ob p q c1 c2 c3 X s t la false va vb wx) (h2 : Two D w wx p q F G (if la then t else s) s) (n1 : ¬ F.all ob) (n2 : ¬ G.all ob) (hr : RAt w' q G' t) (hs : Step G G' wx w') : SW D w ob p q c1 c2 c3 X s t la true va X w' :=
  ⟨h.cs.keep hs.keeps (fun hm => n2 (.inl hm)), h.a, fun _ => rfl, F, G', h2.step_r hr hs, n1, not_step n2 hs h.cs.lt⟩
end

/-- 'c, e := d.Crash(..), r.Crash(..)': likewise; both make another device, of state t. -/
structure SC (D : DevOK) (w : World) (n0 ob p q : Nat) (F G : Foot) (c1 c2 c3 : Value) (s t : SDev) (la lb : Bool) (va vb : Value) (wx : World) : Prop where
  cs : Cells3 w wx ob c1 c2 c3
  two : Two D w wx p q F G s s
  lf : ∀ b, F.all b → b < n0
  lg : ∀ b, G.all b → b < n0
  hn : w.heap.size ≤ n0 ∧ n0 ≤ wx.heap.size
  new : ∃ (c e : Nat) (C E : Foot), (la = true → va = .pointer (some ⟨c, 0, none⟩) ∧ D.rep wx c C t ∧ (∀ b, C.M b → n0 ≤ b) ∧ ∀ b, C.I b → F.I b ∨ n0 ≤ b) ∧
    (lb = true → vb = .pointer (some ⟨e, 0, none⟩) ∧ RAt wx e E t ∧ (∀ b, E.M b → n0 ≤ b) ∧ ∀ b, E.I b → G.I b ∨ n0 ≤ b) ∧ (la = true → lb = true → Apart C E)
section
variable {D : DevOK} {w wx w' : World} {n0 ob p q : Nat} {F G : Foot} {c1 c2 c3 va vb : Value} {s t : SDev} {la lb : Bool}
theorem SC.step_d {c : Nat} {C : Foot} (h : SC D w n0 ob p q F G c1 c2 c3 s t false lb va vb wx) (hr : D.rep w' c C t) (hm : ∀ b, C.M b → wx.heap.size ≤ b) (hi : ∀ b, C.I b → F.I b ∨ wx.heap.size ≤ b) (hk : Keeps (fun _ => True) wx w') :
    SC D w n0 ob p q F G c1 c2 c3 s t true lb (.pointer (some ⟨c, 0, none⟩)) vb w' := by
  obtain ⟨_, e, _, E, _, h2, _⟩ := h.new
  have hn := h.hn
  refine ⟨h.cs.keep hk trivial, h.two.keep hk, h.lf, h.lg, ⟨hn.1, Nat.le_trans hn.2 hk.size⟩, c, e, C, E, fun _ => ⟨rfl, hr, fun b hb => Nat.le_trans hn.2 (hm b hb), fun b hb => ?_⟩, fun hb => ?_, fun _ hb => ?_⟩
  · rcases hi b hb with h1 | h1
    · exact .inl h1
    · exact .inr (Nat.le_trans hn.2 h1)
  · obtain ⟨q1, q2, q3, q4⟩ := h2 hb
    exact ⟨q1, q2.keep (hk.mono fun _ _ _ => trivial), q3, q4⟩
  · obtain ⟨_, q2, q3, q4⟩ := h2 hb
    refine ⟨fun b hc he => ?_, fun b he hc => ?_⟩
    · have := hm b hc; have := q2.lt b he; omega
    · have l1 := q2.lt b (.inl he)
      have l2 := q3 b he
      rcases hc with hc | hc
      · have := hm b hc; omega
      · rcases hi b hc with h1 | h1
        · have := h.lf b (.inr h1); omega
        · omega
theorem SC.step_r {e : Nat} {E : Foot} (h : SC D w n0 ob p q F G c1 c2 c3 s t la false va vb wx) (hr : RAt w' e E t) (hm : ∀ b, E.M b → wx.heap.size ≤ b) (hi : ∀ b, E.I b → G.I b ∨ wx.heap.size ≤ b) (hk : Keeps (fun _ => True) wx w') :
    SC D w n0 ob p q F G c1 c2 c3 s t la true va (.pointer (some ⟨e, 0, none⟩)) w' := by
  obtain ⟨c, _, C, _, h2, _, _⟩ := h.new
  have hn := h.hn
  refine ⟨h.cs.keep hk trivial, h.two.keep hk, h.lf, h.lg, ⟨hn.1, Nat.le_trans hn.2 hk.size⟩, c, e, C, E, fun hb => ?_, fun _ => ⟨rfl, hr, fun b hb => Nat.le_trans hn.2 (hm b hb), fun b hb => ?_⟩, fun hb _ => ?_⟩
  · obtain ⟨q1, q2, q3, q4⟩ := h2 hb
    exact ⟨q1, D.keep q2 (hk.mono fun _ _ _ => trivial), q3, q4⟩
  · rcases hi b hb with h1 | h1
    · exact .inl h1
    · exact .inr (Nat.le_trans hn.2 h1)
  · obtain ⟨_, q2, q3, q4⟩ := h2 hb
    refine ⟨fun b hc he => ?_, fun b he hc => ?_⟩
    · have l1 := D.lt q2 b (.inl hc)
      have l2 := q3 b hc
      rcases he with he | he
      · have := hm b he; omega
      · rcases hi b he with h1 | h1
        · have := h.lg b (.inr h1); omega
        · omega
    · have := hm b he; have := D.lt q2 b hc; omega
/-- Behind both. -/
theorem SC.done (h : SC D w n0 ob p q F G c1 c2 c3 s t true true va vb wx) : ∃ c e C E, va = .pointer (some ⟨c, 0, none⟩) ∧ vb = .pointer (some ⟨e, 0, none⟩) ∧ Two D w wx c e C E t t := by
  obtain ⟨c, e, C, E, h1, h2, h3⟩ := h.new
  obtain ⟨a1, a2, a3, a4⟩ := h1 rfl
  obtain ⟨b1, b2, b3, b4⟩ := h2 rfl
  have hn := h.hn.1
  refine ⟨c, e, C, E, a1, b1, a2, b2, h3 rfl rfl, fun b hb => ?_, fun b hb => ?_, h.two.kp⟩
  · rcases hb with hb | hb
    · exact Nat.le_trans hn (a3 b hb)
    · rcases a4 b hb with h1 | h1
      · exact h.two.gf b (.inr h1)
      · exact Nat.le_trans hn h1
  · rcases hb with hb | hb
    · exact Nat.le_trans hn (b3 b hb)
    · rcases b4 b hb with h1 | h1
      · exact h.two.gg b (.inr h1)
      · exact Nat.le_trans hn h1
end

theorem writeZ_calls (s : SDev) (i : Int) (l : List UInt8) : (s.writeZ i l).2.calls ≤ s.calls + 1 := by
  unfold SDev.writeZ
  split
  · exact Nat.le_succ _
  · split
    · exact Nat.le_succ _
    · exact Nat.le_refl _

end Go.Proofs.Ytgmgojpkjchmcaa
