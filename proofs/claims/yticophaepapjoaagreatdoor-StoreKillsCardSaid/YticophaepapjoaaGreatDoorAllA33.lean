/-
  JnAdd, JnMid, JnAdds: texts of mine, joined.
-/
import Derived.Test.YticophaepapjoaaGreatDoorAllA25
import Derived.Test.YticophaepapjoaaGreatDoorAllA24
import Derived.Test.YticophaepapjoaaGreatDoorAllA30
import Derived.Test.YticophaepapjoaaGreatDoorAllA09
namespace Go.Proofs.YticophaepapjoaaGreatDoor
open Go Go.RowKit Go.Joins
def JApp (S : Slog2) (w0 : World) (p lq : Nat) (F Fl : Foot) (s : SDev) (lst : LSt) (l : List UInt8) (x : Nat) (w1 : World) : Prop :=
 ∃ (F' Fl' : Foot) (s' : SDev) (g f n : Nat), DAt w1 p F' s' ∧ S.rep w1 lq Fl' ⟨p, lst.place, lst.segs, lst.hist ++ [⟨x, l, 0⟩], g, f, n⟩ s' ∧ lst.gone ≤ g ∧ n ≤ lst.next + 1048576 ∧
  s'.now.length = s.now.length ∧ (∀ i, ¬ lst.has i → s'.now.getD i [] = s.now.getD i []) ∧ s'.calls ≤ s.calls + 1000 ∧ Apart F' Fl' ∧ Keeps (fun b => ¬ F.M b ∧ ¬ Fl.M b) w0 w1 ∧
  (∀ b, F'.M b → F.M b ∨ w0.heap.size ≤ b) ∧ (∀ b, F'.I b → F.all b ∨ w0.heap.size ≤ b) ∧ (∀ b, Fl'.M b → Fl.M b ∨ w0.heap.size ≤ b) ∧ (∀ b, Fl'.I b → Fl.all b ∨ w0.heap.size ≤ b)
theorem JApp.keep {S : Slog2} {w0 w1 w2 : World} {p lq : Nat} {F Fl : Foot} {s : SDev} {lst : LSt} {l : List UInt8} {x : Nat} (h : JApp S w0 p lq F Fl s lst l x w1) (hk : Kp w1 w2) : JApp S w0 p lq F Fl s lst l x w2 := by
 obtain ⟨F', Fl', s', g, f, n, h1, h2, h3, h4, h5, h6, h7, h8, h9, h10, h11, h12, h13⟩ := h
 exact ⟨F', Fl', s', g, f, n, h1.keep (hk.mono fun _ _ _ => trivial), S.keep h2 (hk.mono fun _ _ _ => trivial), h3, h4, h5, h6, h7, h8, h9.trans (hk.mono fun _ _ _ => trivial), h10, h11, h12, h13⟩
theorem japp_call (S : Slog2) (W w wc : World) (hT : S.T W) (p lq : Nat) (F Fl : Foot) (s : SDev) (lst : LSt) (hd : DAt w p F s) (hl : S.rep w lq Fl lst s) (hon : lst.dev = p) (ha : Apart F Fl) (hk : Kp W w) (hF : ∀ b, F.all b → W.heap.size ≤ b) (hFl : ∀ b, Fl.all b → W.heap.size ≤ b)
  (hroom : lst.place + 8 * lst.segs ≤ s.now.length) (hcl : s.calls ≤ 540000000000) (hnx : lst.next ≤ 137438953472) (hkc : Kp w wc) (v : Value) (l : List UInt8) (ho : OwnB wc w.heap.size v l) (h1 : 1 ≤ l.length) (h2 : l.length ≤ 300) :
  Calls Tryz.prog 71 #[.pointer (some ⟨lq, 0, none⟩), v] wc fun e w' => (∃ x : Nat, e = .returned (.tuple #[.int .i64 (x : Int), .int .i64 0]) ∧ JApp S w p lq F Fl s lst l x w') ∧ Keeps (fun b => w.heap.size ≤ b) wc w' := by
 obtain ⟨A, c, rfl, -, hr⟩ := own_slice ho
 have hc := own_cap ho
 have hszc := hkc.size
 have hdl := hd.lt
 have hll := fun b hb => S.lt hl b hb
 refine (S.append W wc p lq F Fl s lst (hd.keep (hkc.mono fun _ _ _ => trivial)) (S.keep hl (hkc.mono fun _ _ _ => trivial)) hon ha hT (hk.trans hkc) hF hFl hroom (by omega) hnx A c (fun b => w.heap.size ≤ b ∧ b < wc.heap.size) l hr (fun b hb hf => by have := hdl b hf; omega) (fun b hb hf => by have := hll b hf; omega) hc.1 hc.2.1 h1 h2).mono ?_
 rintro e w' ⟨x, F', Fl', s', g, f, n, rfl, a1, a2, a3, a4, a5, a6, a7, a8, a9, a10, a11, a12, a13, a14⟩
 refine ⟨⟨x, rfl, F', Fl', s', g, f, n, a1, a2, a3, a5, a6, a7, a8, a9, (hkc.mono fun _ _ _ => trivial).trans a10, fun b hb => ?_, fun b hb => ?_, fun b hb => ?_, fun b hb => ?_⟩, a10.mono fun b _ hb => ⟨fun hm => by have := hdl b (.inl hm); omega, fun hm => by have := hll b (.inl hm); omega⟩⟩
 ·rcases a11 b hb with h | h
  ·exact .inl h
  ·exact .inr (by omega)
 ·rcases a12 b hb with h | h
  ·exact .inl h
  ·exact .inr (by omega)
 ·rcases a13 b hb with h | h
  ·exact .inl h
  ·exact .inr (by omega)
 ·rcases a14 b hb with h | h
  ·exact .inl h
  ·exact .inr (by omega)
section
variable {w : World} {o : Oper} {a : Act} {Q : Exit → Act → World → Prop} {x y : Operand}
theorem jn_enter {P : Program} {X : World → Value → Prop} {f : FuncId} {args : Array Value} {C : Ending → World → Prop} (e : (execOp a.eval o).run P w = .ok (.enter f args) w) (hc : Calls P f args w C)
  (hC : ∀ e w', C e w' → ∃ v, e = .returned v ∧ X w' v) : o.wp P a w (fun a' w' => ∃ v, a' = a.put o.dst v ∧ X w' v) Q := by
 unfold Oper.wp
 rw [e]
 refine hc.mono fun e w' h => ?_
 obtain ⟨v, rfl, hv⟩ := hC e w' h
 exact ⟨v, rfl, hv⟩
theorem kp_fJ0 {b : Nat} (ho : o.op = .fieldAddr 108 x 0) (hx : a.eval x = .pointer (some ⟨b, 0, none⟩)) : o.wp Tryz.prog a w (fun a' w' => ∃ v, a' = a.put o.dst v ∧ Kp w w' ∧ IsV (.pointer (some ⟨b, 0, none⟩)) w' v) Q := by
 refine kp_yield (v := .pointer (some ⟨b, 0, none⟩)) ?_ (Keeps.refl _ _) rfl
 generalize a.eval = ρ at hx
 unfold execOp
 go_simp
theorem kp_fJ2 {b : Nat} (ho : o.op = .fieldAddr 108 x 2) (hx : a.eval x = .pointer (some ⟨b, 0, none⟩)) : o.wp Tryz.prog a w (fun a' w' => ∃ v, a' = a.put o.dst v ∧ Kp w w' ∧ IsV (.pointer (some ⟨b, 2, none⟩)) w' v) Q := by
 refine kp_yield (v := .pointer (some ⟨b, 2, none⟩)) ?_ (Keeps.refl _ _) rfl
 generalize a.eval = ρ at hx
 unfold execOp
 go_simp
theorem kp_lPos {p : Addr} {A : Option Addr} {n c : Nat} (hc : w.cell? p = some (.slice A n c)) (ho : o.op = .load 106 x) (hx : a.eval x = .pointer (some p)) : o.wp Tryz.prog a w (fun a' w' => ∃ v, a' = a.put o.dst v ∧ Kp w w' ∧ IsV (.slice A n c) w' v) Q := by
 refine kp_yield (v := .slice A n c) ?_ (Keeps.refl _ _) rfl
 generalize a.eval = ρ at hx
 unfold execOp
 go_simp
theorem kp_succ {k : Nat} {z : Int} (h : k ≤ 1000000) (hz : z = (k : Int) + 1) (ho : o.op = .binOp .add 2 x y 2) (hx : a.eval x = .int .i64 (k : Int)) (hy : a.eval y = .int .i64 1) : o.wp Tryz.prog a w (fun a' w' => ∃ v, a' = a.put o.dst v ∧ Kp w w' ∧ IsV (.int .i64 z) w' v) Q := by
 have e : IntKind.i64.wrap ((k : Int) + 1) = (k : Int) + 1 := by rw [IntKind.wrap_i64]; omega
 subst hz
 refine kp_yield (v := .int .i64 ((k : Int) + 1)) ?_ (Keeps.refl _ _) rfl
 generalize a.eval = ρ at hx hy
 unfold execOp
 go_simp
theorem kp_bMark {n : Int} {k : ByteArray} (ho : o.op = .build 72 #[(0, x), (1, y)]) (hx : a.eval x = .int .i64 n) (hy : a.eval y = .string k) : o.wp Tryz.prog a w (fun a' w' => ∃ v, a' = a.put o.dst v ∧ Kp w w' ∧ IsV (.agg #[.int .i64 n, .string k]) w' v) Q := by
 refine kp_yield (v := .agg #[.int .i64 n, .string k]) ?_ (Keeps.refl _ _) rfl
 generalize a.eval = ρ at hx hy
 unfold execOp
 go_simp
theorem kp_ext0 {V : World → Value → Prop} {u v : Value} (ho : o.op = .extract x 0) (hx : a.eval x = .tuple #[u, v]) (hv : V w u) : o.wp Tryz.prog a w (fun a' w' => ∃ v, a' = a.put o.dst v ∧ Kp w w' ∧ V w' v) Q := by
 refine kp_yield (v := u) ?_ (Keeps.refl _ _) hv
 generalize a.eval = ρ at hx
 unfold execOp
 go_simp
theorem kp_ext1 {V : World → Value → Prop} {u v : Value} (ho : o.op = .extract x 1) (hx : a.eval x = .tuple #[u, v]) (hv : V w v) : o.wp Tryz.prog a w (fun a' w' => ∃ v, a' = a.put o.dst v ∧ Kp w w' ∧ V w' v) Q := by
 refine kp_yield (v := v) ?_ (Keeps.refl _ _) hv
 generalize a.eval = ρ at hx
 unfold execOp
 go_simp
end
def VA (S : Slog2) (w0 : World) (p q lq : Nat) (F Fl : Foot) (s : SDev) (lst : LSt) (k : ByteArray) (l : List UInt8) (m : Nat) : Nat → World → Value → Prop
 | 0 => IsV (.pointer (some ⟨q, 0, none⟩))
 | 1 => IsV (.pointer (some ⟨q, 0, none⟩))
 | 2 => IsV (.pointer (some ⟨q, 0, none⟩))
 | 3 => IsV (.pointer (some ⟨lq, 0, none⟩))
 | 4 => IsV (.pointer (some ⟨q, 0, none⟩))
 | 5 => IsV (.int .i64 (m : Int))
 | 6 => IsV (.int .i64 ((m : Int) + 1))
 | 7 => IsV (.string k)
 | 8 => IsV (.agg #[.int .i64 ((m : Int) + 1), .string k])
 | 9 => fun w v => OwnB w w0.heap.size v l
 | 10 => fun w v => ∃ x : Nat, v = .tuple #[.int .i64 (x : Int), .int .i64 0] ∧ JApp S w0 p lq F Fl s lst l x w
 | 11 => fun w v => ∃ x : Nat, v = .tuple #[.int .i64 (x : Int), .int .i64 0] ∧ JApp S w0 p lq F Fl s lst l x w
 | 12 => fun w v => ∃ x : Nat, v = .int .i64 (x : Int) ∧ JApp S w0 p lq F Fl s lst l x w
 | 13 => IsV (.int .i64 0)
 | 14 => fun w v => ∃ x : Nat, v = .int .i64 (x : Int) ∧ JApp S w0 p lq F Fl s lst l x w
 | 15 => IsV (.int .i64 0)
 | _ => fun _ _ => True
section
variable {S : Slog2} {w0 : World} {p q lq : Nat} {F Fl : Foot} {s : SDev} {lst : LSt} {k : ByteArray} {l : List UInt8} {m : Nat}
theorem VA_kp (i : Nat) (w w' : World) (v : Value) (h : Kp w w') (hv : VA S w0 p q lq F Fl s lst k l m i w v) : VA S w0 p q lq F Fl s lst k l m i w' v := by
 match i, hv with
 | 0, hv => exact hv
 | 1, hv => exact hv
 | 2, hv => exact hv
 | 3, hv => exact hv
 | 4, hv => exact hv
 | 5, hv => exact hv
 | 6, hv => exact hv
 | 7, hv => exact hv
 | 8, hv => exact hv
 | 9, hv => exact h.own hv fun _ _ => trivial
 | 10, ⟨x, e, hv⟩ => exact ⟨x, e, hv.keep h⟩
 | 11, ⟨x, e, hv⟩ => exact ⟨x, e, hv.keep h⟩
 | 12, ⟨x, e, hv⟩ => exact ⟨x, e, hv.keep h⟩
 | 13, hv => exact hv
 | 14, ⟨x, e, hv⟩ => exact ⟨x, e, hv.keep h⟩
 | 15, hv => exact hv
 | n + 16, _ => trivial
end
def StA (S : Slog2) (w0 : World) (p lq : Nat) (F Fl : Foot) (s : SDev) (lst : LSt) (l : List UInt8) : Bool → World → Prop
 | false => fun w => Kp w0 w
 | true => fun w => ∃ x, JApp S w0 p lq F Fl s lst l x w
theorem StA_kp {S : Slog2} {w0 : World} {p lq : Nat} {F Fl : Foot} {s : SDev} {lst : LSt} {l : List UInt8} (b : Bool) (w w' : World) (h : Kp w w') (hs : StA S w0 p lq F Fl s lst l b w) : StA S w0 p lq F Fl s lst l b w' := by
 cases b
 ·exact Keeps.trans hs h
 ·obtain ⟨x, hs⟩ := hs
  exact ⟨x, hs.keep h⟩
structure JMid (S : Slog2) (w w1 : World) (p q lq : Nat) (F Fl F' Fl' : Foot) (bs : Int) (v0 v : Value) (xs : List Nat) (lst' : LSt) (s' : SDev) : Prop where
 d : DAt w1 p F' s'
 c : JAt S w1 p q lq Fl' bs v xs lst' s'
 k : Keeps (fun b => ¬ F.M b ∧ ¬ (jfoot q Fl v0).M b) w w1
 f1 : ∀ b, F'.M b → F.M b ∨ w.heap.size ≤ b
 f2 : ∀ b, F'.I b → F.all b ∨ w.heap.size ≤ b
 f3 : ∀ b, Fl'.M b → Fl.M b ∨ w.heap.size ≤ b
 f4 : ∀ b, Fl'.I b → Fl.all b ∨ w.heap.size ≤ b
 ap : Apart F' Fl'
 vb : ∀ b, v.ownBlock = some b → v0.ownBlock = some b ∨ w.heap.size ≤ b
 qf : ¬ F'.all q
 vf : ∀ b, v.ownBlock = some b → ¬ F'.all b
 qw : q < w.heap.size
section
variable {S : Slog2} {w w1 w2 : World} {p q lq : Nat} {F Fl F' Fl' : Foot} {bs : Int} {v0 v v' : Value} {xs xs' : List Nat} {lst lst' : LSt} {s s' : SDev}
theorem JMid.of (hc : JAt S w p q lq Fl bs v0 xs lst s) (ha : Apart F (jfoot q Fl v0)) (hd' : DAt w1 p F' s') (hr : S.rep w1 lq Fl' lst' s') (hon : lst'.dev = p) (hap : Apart F' Fl') (hk : Keeps (fun b => ¬ F.M b ∧ ¬ Fl.M b) w w1)
  (f1 : ∀ b, F'.M b → F.M b ∨ w.heap.size ≤ b) (f2 : ∀ b, F'.I b → F.all b ∨ w.heap.size ≤ b) (f3 : ∀ b, Fl'.M b → Fl.M b ∨ w.heap.size ≤ b) (f4 : ∀ b, Fl'.I b → Fl.all b ∨ w.heap.size ≤ b) : JMid S w w1 p q lq F Fl F' Fl' bs v0 v0 xs lst' s' := by
 have hlt := hc.lt
 have hq : q < w.heap.size := hlt q (jfoot_all.2 (.inl rfl))
 have all' : ∀ b, Fl'.all b → Fl.all b ∨ w.heap.size ≤ b := fun b hb => by
  rcases hb with hb | hb
  ·rcases f3 b hb with h1 | h1
   ·exact .inl (.inl h1)
   ·exact .inr h1
  ·exact f4 b hb
 have allF : ∀ b, F'.all b → F.all b ∨ w.heap.size ≤ b := fun b hb => by
  rcases hb with hb | hb
  ·rcases f1 b hb with h1 | h1
   ·exact .inl (.inl h1)
   ·exact .inr h1
  ·exact f2 b hb
 have hqF : ¬ F.all q := ha.r q (.inl rfl)
 have hvF : ∀ b, v0.ownBlock = some b → ¬ F.all b := fun b hb => ha.r b (.inr (.inr hb))
 have hvw : ∀ b, v0.ownBlock = some b → b < w.heap.size := fun b hb => hlt b (jfoot_all.2 (.inr (.inr hb)))
 refine ⟨hd', ⟨hc.blk.keep hk ⟨fun hm => hqF (.inl hm), fun hm => hc.ql (.inl hm)⟩, hr, hon, hk.own hc.row (fun b hb => ⟨fun hm => hvF b hb (.inl hm), fun hm => hc.lv b hb (.inl hm)⟩), fun hf => ?_, hc.qv, fun b hb hf => ?_⟩,
  hk.mono fun b _ hb => ⟨hb.1, fun hm => hb.2 (.inr (.inl hm))⟩, f1, f2, f3, f4, hap, fun b hb => .inl hb, fun hf => ?_, fun b hb hf => ?_, hq⟩
 ·rcases all' q hf with h1 | h1
  ·exact hc.ql h1
  ·omega
 ·rcases all' b hf with h1 | h1
  ·exact hc.lv b hb h1
  ·have := hvw b hb; omega
 ·rcases allF q hf with h1 | h1
  ·exact hqF h1
  ·omega
 ·rcases allF b hf with h1 | h1
  ·exact hvF b hb h1
  ·have := hvw b hb; omega
theorem JMid.kp (h : JMid S w w1 p q lq F Fl F' Fl' bs v0 v xs lst' s') (hk : Kp w1 w2) : JMid S w w2 p q lq F Fl F' Fl' bs v0 v xs lst' s' :=
 { h with d := h.d.keep (hk.mono fun _ _ _ => trivial), c := h.c.kp hk, k := h.k.trans (hk.mono fun _ _ _ => trivial) }
theorem JMid.put (h : JMid S w w1 p q lq F Fl F' Fl' bs v0 v xs lst' s') (hg : w1.grownBy w2 v.ownBlock) (hr : w2.ownsRow 0 2 1 v' xs'.length (posC xs')) (hv : v'.ownBlock = v.ownBlock ∨ ∃ b, v'.ownBlock = some b ∧ w1.heap.size ≤ b) :
  JMid S w (w2.setCell ⟨q, 2, none⟩ v') p q lq F Fl F' Fl' bs v0 v' xs' lst' s' := by
 have hk12 : Keeps (fun b => v.ownBlock ≠ some b) w1 w2 := Keeps.of_grown hg fun b e _ hn => hn e
 have hk13 : Keeps (fun b => v.ownBlock ≠ some b ∧ b ≠ q) w1 (w2.setCell ⟨q, 2, none⟩ v') := (hk12.mono fun b _ hb => hb.1).setCell (.inr fun hn => hn.2 rfl) _
 have hqs : q < w1.heap.size := h.c.blk.lt
 have hll := fun b hb => S.lt h.c.l b hb
 have hsz := h.k.size
 have hqv' : v'.ownBlock ≠ some q := fun e => by
  rcases hv with h1 | ⟨b, h1, h2⟩
  ·exact h.c.qv (h1.symm.trans e)
  ·rw [e] at h1; injection h1 with h1; omega
 refine ⟨h.d.keep (hk13.mono fun b _ hb => ⟨fun e => h.vf b e hb, fun e => h.qf (e ▸ hb)⟩), ⟨(h.c.blk.keep hk12 h.c.qv).set2 v', S.keep h.c.l (hk13.mono fun b _ hb => ⟨fun e => h.c.lv b e hb, fun e => h.c.ql (e ▸ hb)⟩), h.c.on,
  (((Keeps.refl (fun b => b ≠ q) w2).setCell (.inr fun hn => hn rfl) _).own hr fun b hb e => hqv' (e ▸ hb)), h.c.ql, hqv', fun b hb hf => ?_⟩, ?_, h.f1, h.f2, h.f3, h.f4, h.ap, fun b hb => ?_, h.qf, fun b hb hf => ?_, h.qw⟩
 ·rcases hv with h1 | ⟨g, h1, h2⟩
  ·exact h.c.lv b (h1.symm.trans hb) hf
  ·rw [hb] at h1; injection h1 with h1; have := hll b hf; omega
 ·refine ⟨hk13.os.trans h.k.os, hk13.tape.trans h.k.tape, hk13.output.trans h.k.output, Nat.le_trans hsz hk13.size, fun b hb hlt => (hk13.block b ⟨fun e => ?_, fun e => hb.2 (.inl e)⟩ (Nat.lt_of_lt_of_le hlt hsz)).trans (h.k.block b hb hlt)⟩
  rcases h.vb b e with h1 | h1
  ·exact hb.2 (.inr (.inr h1))
  ·omega
 ·rcases hv with h1 | ⟨g, h1, h2⟩
  ·exact h.vb b (h1.symm.trans hb)
  ·rw [hb] at h1; injection h1 with h1; exact .inr (by omega)
 ·rcases hv with h1 | ⟨g, h1, h2⟩
  ·exact h.vf b (h1.symm.trans hb) hf
  ·rw [hb] at h1; injection h1 with h1; have := h.d.lt b hf; omega
theorem JMid.base (h : JMid S w w1 p q lq F Fl F' Fl' bs v0 v xs lst' s') (bs' : Int) : JMid S w (w1.setCell ⟨q, 1, none⟩ (.int .i64 bs')) p q lq F Fl F' Fl' bs' v0 v xs lst' s' := by
 have hk : Keeps (fun b => b ≠ q) w1 (w1.setCell ⟨q, 1, none⟩ (.int .i64 bs')) := (Keeps.refl _ w1).setCell (.inr fun hn => hn rfl) _
 have hsz := h.k.size
 exact { h with
  d := h.d.keep (hk.mono fun b _ hb e => h.qf (e ▸ hb))
  c := ⟨h.c.blk.set1 bs', S.keep h.c.l (hk.mono fun b _ hb e => h.c.ql (e ▸ hb)), h.c.on, hk.own h.c.row fun b hb e => h.c.qv (e ▸ hb), h.c.ql, h.c.qv, h.c.lv⟩
  k := ⟨hk.os.trans h.k.os, hk.tape.trans h.k.tape, hk.output.trans h.k.output, Nat.le_trans hsz hk.size, fun b hb hlt => (hk.block b (fun e => hb.2 (.inl e)) (Nat.lt_of_lt_of_le hlt hsz)).trans (h.k.block b hb hlt)⟩ }
theorem JMid.go (h : JMid S w w1 p q lq F Fl F' Fl' bs v0 v xs lst' s') {st : JSt} {n : Nat} (hlen : s'.now.length = s.now.length) (hout : ∀ i, ¬ st.has i → s'.now.getD i [] = s.now.getD i []) (hcalls : s'.calls ≤ s.calls + 1000 * n) :
  JGo w w1 F F' (jfoot q Fl v0) (jfoot q Fl' v) s s' st n := by
 refine ⟨⟨fun b hb hf => ?_, fun b hb hf => ?_⟩, h.k, h.f1, h.f2, fun b hb => ?_, fun b hb => ?_, hlen, hout, hcalls⟩
 ·rcases jfoot_all.1 hf with rfl | hf | hf
  ·exact h.qf (.inl hb)
  ·exact h.ap.l b hb hf
  ·exact h.vf b hf (.inl hb)
 ·rcases hb with rfl | hb | hb
  ·exact h.qf hf
  ·exact h.ap.r b hb hf
  ·exact h.vf b hb hf
 ·rcases hb with rfl | hb | hb
  ·exact .inl (.inl rfl)
  ·rcases h.f3 b hb with h1 | h1
   ·exact .inl (.inr (.inl h1))
   ·exact .inr h1
  ·rcases h.vb b hb with h1 | h1
   ·exact .inl (.inr (.inr h1))
   ·exact .inr h1
 ·rcases h.f4 b hb with h1 | h1
  ·exact .inl (jfoot_all.2 (.inr (.inl h1)))
  ·exact .inr h1
end
theorem jkept_cut {S : Slog2} {w : World} {lq : Nat} {Fl : Foot} {lst : LSt} {s : SDev} (hr : S.rep w lq Fl lst s) {gone : Nat} (hg : gone ≤ lst.gone) : ∃ a, (lst.hist.drop gone).map (·.pos) = a ++ jkept lst ∧ a.length = lst.gone - gone ∧ (a ++ jkept lst).Pairwise (· < ·) ∧ (∀ y ∈ a, y < lst.first) ∧ ∀ y ∈ jkept lst, lst.first ≤ y := by
 have hok := S.wf hr
 have hpast := (S.past hr).2
 have hgl := hok.gone
 have e : (lst.hist.drop gone).map (·.pos) = ((lst.hist.drop gone).take (lst.gone - gone)).map (·.pos) ++ jkept lst := by
  unfold jkept
  rw [← List.map_append]
  congr 1
  have h1 : lst.hist.drop lst.gone = (lst.hist.drop gone).drop (lst.gone - gone) := by rw [List.drop_drop]; congr 1; omega
  rw [h1, List.take_append_drop]
 refine ⟨((lst.hist.drop gone).take (lst.gone - gone)).map (·.pos), e, ?_, ?_, fun y hy => ?_, fun y hy => ?_⟩
 ·rw [List.length_map, List.length_take, List.length_drop]; omega
 ·rw [← e, List.pairwise_map]
  exact hok.rise.sublist (List.drop_sublist _ _)
 ·obtain ⟨r, hr, rfl⟩ := List.mem_map.1 hy
  rw [← List.drop_take] at hr
  exact hpast r (List.mem_of_mem_drop hr)
 ·obtain ⟨r, hr, rfl⟩ := List.mem_map.1 hy
  exact hok.first r hr
theorem j64_elem : Elem Tryz.prog 106 2 (.int .i64 0) 1 8 := ⟨Tryz.underlying106, by kernel_rfl, rfl, by decide⟩
theorem posC_snoc (l : List Nat) (x : Nat) : posC l ++ [.int .i64 ((x : Nat) : Int)] = posC (l ++ [x]) := by simp [posC]
def VS (q lq : Nat) (v : Value) (x k : Nat) : Nat → World → Value → Prop
 | 0 => IsV (.pointer (some ⟨q, 0, none⟩))
 | 1 => IsV (.pointer (some ⟨q, 0, none⟩))
 | 2 => IsV (.pointer (some ⟨q, 2, none⟩))
 | 3 => IsV v
 | 4 => IsV (.pointer (some ⟨q, 0, none⟩))
 | 5 => IsV (.pointer (some ⟨q, 0, none⟩))
 | 6 => IsV (.pointer (some ⟨q, 0, none⟩))
 | 7 => IsV (.pointer (some ⟨lq, 0, none⟩))
 | 8 => IsV (.int .i64 (x : Int))
 | 9 => fun _ u => ∃ t, u = .tuple #[.int .i64 (k : Int), .bool t]
 | 10 => fun _ u => ∃ t, u = .tuple #[.int .i64 (k : Int), .bool t]
 | 11 => IsV (.int .i64 (k : Int))
 | 12 => fun _ u => ∃ t, u = .bool t
 | 13 => IsV (.int .i64 (k : Int))
 | 14 => fun _ u => ∃ t, u = .bool t
 | _ => fun _ _ => True
theorem VS_any {q lq : Nat} {v : Value} {x k : Nat} (i : Nat) (w w' : World) (u : Value) (h : VS q lq v x k i w u) : VS q lq v x k i w' u := by
 match i, h with
 | 0, h => exact h
 | 1, h => exact h
 | 2, h => exact h
 | 3, h => exact h
 | 4, h => exact h
 | 5, h => exact h
 | 6, h => exact h
 | 7, h => exact h
 | 8, h => exact h
 | 9, h => exact h
 | 10, h => exact h
 | 11, h => exact h
 | 12, h => exact h
 | 13, h => exact h
 | 14, h => exact h
 | n + 15, _ => trivial
theorem not_chained {ops : Array Oper} {k i : Nat} {js : List Nat} {C : Prop} (h : chained ops k i js = false) (t : chained ops k i js = true) : C := by rw [h] at t; cases t
def jnext (st : JSt) (k : ByteArray) (b : Nat) : JSt := ⟨st.place, st.segs, st.keys ++ [k], b, st.kept, st.age + 1⟩
def JAddPost (S : Slog2) (w : World) (p q : Nat) (F Fs : Foot) (s : SDev) (st : JSt) (k : ByteArray) (e : Ending) (w' : World) : Prop :=
 e = .returned (.int .i64 0) ∧ ∃ (F' Fs' : Foot) (s' : SDev) (b : Nat), DAt w' p F' s' ∧ jrep S w' p q Fs' (jnext st k b) s' ∧ st.base ≤ b ∧ JGo w w' F F' Fs Fs' s s' st 1
set_option maxRecDepth 100000 in
set_option maxHeartbeats 2000000 in
theorem jadd1 (S : Slog2) (W w : World) (hT : S.T W) (p q : Nat) (F Fs : Foot) (s : SDev) (st : JSt) (h : Jb S W w p q F Fs s st) (hage : st.age + 1 ≤ 30000) (hcl : s.calls ≤ 540000000000) (k : ByteArray) (hk : keyOk k) :
  Calls Tryz.prog 60 #[.pointer (some ⟨q, 0, none⟩), .string k] w (JAddPost S w p q F Fs s st k) := by
 obtain ⟨lq, Fl, v0, lst, rfl, hc, hm⟩ := h.r
 obtain ⟨A0, c0, rfl, hlc, hcm⟩ := hc.form
 have hok := S.wf hc.l
 have hgl := hok.gone
 have hlen := jkept_len lst
 have hml := hm.age
 have hmb := markB_len (n := lst.hist.length + 1) (by omega) hk
 obtain ⟨m, hmm⟩ : ∃ m, lst.hist.length = m := ⟨_, rfl⟩
 obtain ⟨n0, hn0⟩ : ∃ n0, (jkept lst).length = n0 := ⟨_, rfl⟩
 rw [hn0] at hlc
 have haw : Apart F Fl := ⟨fun b hb hf => h.ap.l b hb (jfoot_all.2 (.inr (.inl hf))), fun b hb hf => h.ap.r b (.inr (.inl hb)) hf⟩
 have hgl' : ∀ b, Fl.all b → W.heap.size ≤ b := fun b hb => h.gs b (jfoot_all.2 (.inr (.inl hb)))
 have hroom : lst.place + 8 * lst.segs ≤ s.now.length := by rw [hm.place, hm.segs]; exact h.room
 have HBLK := Lib.hid (show ∀ w', Kp w w' → JBlk w' q lq (lst.gone : Int) (.slice A0 n0 c0) from fun w' hk => by
  have := hc.blk.keep hk trivial
  rwa [hn0] at this)
 have HSEQ := Lib.hid (show ∀ w', Kp w w' → Calls Tryz.prog 24 #[.pointer (some ⟨q, 0, none⟩)] w' fun e w2 => e = .returned (.int .i64 (m : Int)) ∧ Kp w' w2 from fun w' hk => by
  refine (jseq w' q lq lst.gone n0 A0 c0 (HBLK.out w' hk) (by omega) (m : Int) (by omega)).mono ?_
  rintro e w2 ⟨rfl, z, rfl⟩
  exact ⟨rfl, (Keeps.refl _ _).drewN z⟩)
 have HENC := Lib.hid (show ∀ w', Kp w w' → Calls Tryz.prog 87 #[.agg #[.int .i64 ((m : Int) + 1), .string k]] w' fun e w2 => ∃ v, e = .returned v ∧ Kp w' w2 ∧ OwnB w2 w.heap.size v (markB (m + 1) k) from fun w' hk2 => by
  refine (jencode w' (m + 1) k (by omega) hk _ (by omega)).mono ?_
  rintro e w2 ⟨v, rfl, ho, hk3⟩
  exact ⟨v, rfl, hk3, ownsRow_le ho hk2.size⟩)
 have HAPP := Lib.hid (show ∀ (wc : World) (v : Value), Kp w wc → OwnB wc w.heap.size v (markB (m + 1) k) → Calls Tryz.prog 71 #[.pointer (some ⟨lq, 0, none⟩), v] wc fun e w' => (∃ x : Nat, e = .returned (.tuple #[.int .i64 (x : Int), .int .i64 0]) ∧ JApp S w p lq F Fl s lst (markB (m + 1) k) x w') ∧ Keeps (fun b => w.heap.size ≤ b) wc w' from fun wc v hkc ho =>
  japp_call S W w wc hT p lq F Fl s lst h.d hc.l hc.on haw h.kp h.gf hgl' hroom hcl (by have := hm.next; have := hm.old; omega) hkc v _ ho (by rw [← hmm]; exact hmb.1) (by rw [← hmm]; have := hmb.2; omega))
 have HMID := Lib.hid (show ∀ (w1 : World) (x : Nat), JApp S w p lq F Fl s lst (markB (m + 1) k) x w1 → ∃ (F' Fl' : Foot) (s' : SDev) (lst' : LSt), JMid S w w1 p q lq F Fl F' Fl' (lst.gone : Int) (.slice A0 n0 c0) (.slice A0 n0 c0) (jkept lst) lst' s' ∧ JM (jnext st k lst'.gone) lst' ∧ lst.gone ≤ lst'.gone ∧ (lst'.hist.drop lst.gone).map (·.pos) = jkept lst ++ [x] ∧ s'.now.length = s.now.length ∧ (∀ i, ¬ st.has i → s'.now.getD i [] = s.now.getD i []) ∧ s'.calls ≤ s.calls + 1000 ∧ lst'.gone ≤ 40000 ∧ lst'.first < 1099511627777 from fun w1 x hj => by
  obtain ⟨F', Fl', s', g, f, n, a1, a2, a3, a4, a5, a6, a7, a8, a9, a10, a11, a12, a13⟩ := hj
  have hok' := S.wf a2
  have hc' := hc
  rw [hn0] at hc'
  refine ⟨F', Fl', s', ⟨p, lst.place, lst.segs, lst.hist ++ [⟨x, markB (m + 1) k, 0⟩], g, f, n⟩, JMid.of hc' (by have := h.ap; rwa [hn0] at this) a1 a2 rfl a8 a9 a10 a11 a12 a13, ?_, a3, ?_, a5, fun i hi => a6 i fun hh => hi ((hm.has i).1 hh), a7, ?_, ?_⟩
  ·rw [← hmm]
   rw [← hmm] at hok'
   exact hm.add hk a4 hage hok'
  ·show ((lst.hist ++ [(⟨x, markB (m + 1) k, 0⟩ : LRec)]).drop lst.gone).map LRec.pos = _
   rw [List.drop_append_of_le_length hgl, List.map_append]
   rfl
  ·have h1 := hok'.gone
   simp only [List.length_append, List.length_cons, List.length_nil] at h1 ⊢
   omega
  ·have h1 := (S.past a2).1
   have h2 := hok'.small
   simp only at h1 h2 ⊢
   omega)
 have hqlt : q < w.heap.size := hc.blk.lt
 have hsb := hm.base
 have hgb : lst.gone + n0 ≤ 30000 := by omega
 have hmb30 : m ≤ 30000 := by omega
 clear hc hm hok hgl hlen hml hmb haw hgl' hroom h
 generalize hL : markB (m + 1) k = l at HENC HAPP HMID
 clear hL hmm hk
 go_enter Tryz.func60, Tryz.ntmps60
 go_wp2_with fail
 refine wp_region_past (V := VA S w p q lq F Fl s lst k l m) (w0 := w) 10 (StA S w p lq F Fl s lst l) (fun a b => Keeps (fun b => w.heap.size ≤ b) a b) GM (by kernel_rfl) (fun i w w' v h hv => VA_kp i w w' v h hv) (fun b w w' h hs => StA_kp b w w' h hs) ?_ (by kernel_rfl) (by decide) GM_is (fun i o ho hw => (all_wanted (by kernel_rfl) ho hw).elim) ((Keeps.refl _ w).drew) (each_of ?_) ?_
 ·intro i hne hch wa wb v hR hv
  match i, hv with
  | 0, hv => exact hv
  | 1, hv => exact hv
  | 2, hv => exact hv
  | 3, hv => exact hv
  | 4, hv => exact hv
  | 5, hv => exact hv
  | 6, hv => exact hv
  | 7, hv => exact hv
  | 8, hv => exact hv
  | 9, hv => 
   obtain ⟨A, c, rfl, -, -⟩ := own_slice hv
   exact hR.own hv fun b hb => by
    rcases hv.2 with ⟨e, _⟩ | ⟨g, cap, cur, e, hbase, _⟩
    ·injection e with e; subst e; cases hb
    ·injection e with e; subst e; injection hb with hb; subst hb; exact hbase
  | 10, _ => exact absurd rfl hne
  | 11, _ => exact not_chained (hch []) (by kernel_rfl)
  | 12, _ => exact not_chained (hch [11]) (by kernel_rfl)
  | 13, hv => exact hv
  | 14, _ => exact not_chained (hch [12, 11]) (by kernel_rfl)
  | 15, hv => exact hv
  | n + 16, _ => trivial
 ·refine ⟨?_, ?_, ?_, ?_, ?_, ?_, ?_, ?_, ?_, ?_, ?_, ?_, ?_, ?_, ?_, ?_, trivial⟩ <;> intro hw a1 w3 L
  ·rw [if_neg (by decide)]; intro b hs _ h2
   exact kp_move rfl (L.old 0 (by kernel_rfl))
  ·rw [if_neg (by decide)]; intro b hs _ h2
   exact kp_nilL rfl (L.val 0 10 (by kernel_rfl) (by kernel_rfl))
  ·rw [if_neg (by decide)]; intro b hs _ h2
   exact kp_fJ0 rfl (L.val 1 11 (by kernel_rfl) (by kernel_rfl))
  ·rw [if_neg (by decide)]; intro b hs _ h2
   obtain rfl : b = false := h2 [] (by kernel_rfl)
   exact kp_lPL (HBLK.out w3 hs).c0 rfl (L.val 2 12 (by kernel_rfl) (by kernel_rfl))
  ·rw [if_neg (by decide)]; intro b hs _ h2
   exact kp_move rfl (L.old 0 (by kernel_rfl))
  ·rw [if_neg (by decide)]; intro b hs _ h2
   obtain rfl : b = false := h2 [9, 8, 6] (by kernel_rfl)
   have e0 : a1.eval (.tmp 14) = .pointer (some ⟨q, 0, none⟩) := L.val 4 14 (by kernel_rfl) (by kernel_rfl)
   have hf : a1.eval (.func 24) = .func (.func 24) #[] #[] := rfl
   refine kp_enter (f := 24) (args := #[.pointer (some ⟨q, 0, none⟩)]) ?_ (HSEQ.out w3 hs) ?_
   ·clear L
    generalize a1.eval = ρ at e0 hf ⊢
    unfold execOp
    go_simp
   ·rintro e w' ⟨rfl, hk⟩
    exact ⟨_, rfl, hk, rfl⟩
  ·rw [if_neg (by decide)]; intro b hs _ h2
   exact kp_succ (k := m) (by omega) rfl rfl (L.val 5 15 (by kernel_rfl) (by kernel_rfl)) rfl
  ·rw [if_neg (by decide)]; intro b hs _ h2
   exact kp_move rfl (L.old 1 (by kernel_rfl))
  ·rw [if_neg (by decide)]; intro b hs _ h2
   exact kp_bMark rfl (L.val 6 16 (by kernel_rfl) (by kernel_rfl)) (L.val 7 17 (by kernel_rfl) (by kernel_rfl))
  ·rw [if_neg (by decide)]; intro b hs _ h2
   obtain rfl : b = false := h2 [] (by kernel_rfl)
   have e0 : a1.eval (.tmp 18) = .agg #[.int .i64 ((m : Int) + 1), .string k] := L.val 8 18 (by kernel_rfl) (by kernel_rfl)
   have hf : a1.eval (.func 87) = .func (.func 87) #[] #[] := rfl
   refine kp_enter (f := 87) (args := #[.agg #[.int .i64 ((m : Int) + 1), .string k]]) ?_ (HENC.out w3 hs) ?_
   ·clear L
    generalize a1.eval = ρ at e0 hf ⊢
    unfold execOp
    go_simp
   ·rintro e w' ⟨v, rfl, hk, hv⟩
    exact ⟨v, rfl, hk, hv⟩
  ·rw [if_pos rfl]; intro hs
   have e0 : a1.eval (.tmp 13) = .pointer (some ⟨lq, 0, none⟩) := L.val 3 13 (by kernel_rfl) (by kernel_rfl)
   have e1 : OwnB w3 w.heap.size (a1.eval (.tmp 19)) l := L.val 9 19 (by kernel_rfl) (by kernel_rfl)
   have hf : a1.eval (.func 71) = .func (.func 71) #[] #[] := rfl
   refine jn_enter (f := 71) (args := #[.pointer (some ⟨lq, 0, none⟩), a1.eval (.tmp 19)]) ?_ (HAPP.out w3 _ hs e1) ?_
   ·clear L e1 hs
    generalize a1.eval = ρ at e0 hf ⊢
    unfold execOp
    go_simp
   ·rintro e w' ⟨⟨x, rfl, hj⟩, hk⟩
    exact ⟨_, rfl, hk, ⟨x, hj⟩, x, rfl, hj⟩
  ·rw [if_neg (by decide)]; intro b hs _ h2
   obtain ⟨x, e0, hj⟩ := (show ∃ x : Nat, a1.eval (.tmp 20) = .tuple #[.int .i64 (x : Int), .int .i64 0] ∧ JApp S w p lq F Fl s lst l x w3 from L.val 10 20 (by kernel_rfl) (by kernel_rfl))
   refine kp_yield (v := .tuple #[.int .i64 (x : Int), .int .i64 0]) ?_ (Keeps.refl _ _) ⟨x, rfl, hj⟩
   clear L
   generalize a1.eval = ρ at e0
   unfold execOp
   go_simp
  ·rw [if_neg (by decide)]; intro b hs _ h2
   obtain ⟨x, e0, hj⟩ := (show ∃ x : Nat, a1.eval (.tmp 9) = .tuple #[.int .i64 (x : Int), .int .i64 0] ∧ JApp S w p lq F Fl s lst l x w3 from L.val 11 9 (by kernel_rfl) (by kernel_rfl))
   exact kp_ext0 (V := fun w v => ∃ x : Nat, v = .int .i64 (x : Int) ∧ JApp S _ p lq F Fl s lst l x w) rfl e0 ⟨x, rfl, hj⟩
  ·rw [if_neg (by decide)]; intro b hs _ h2
   obtain ⟨x, e0, hj⟩ := (show ∃ x : Nat, a1.eval (.tmp 9) = .tuple #[.int .i64 (x : Int), .int .i64 0] ∧ JApp S w p lq F Fl s lst l x w3 from L.val 11 9 (by kernel_rfl) (by kernel_rfl))
   exact kp_ext1 (V := IsV (.int .i64 0)) rfl e0 rfl
  ·rw [if_neg (by decide)]; intro b hs _ h2
   exact kp_asJ (V := fun w v => ∃ x : Nat, v = .int .i64 (x : Int) ∧ JApp S _ p lq F Fl s lst l x w) rfl (L.val 12 21 (by kernel_rfl) (by kernel_rfl))
  ·rw [if_neg (by decide)]; intro b hs _ h2
   exact kp_assign rfl (L.val 13 22 (by kernel_rfl) (by kernel_rfl))
 ·intro vs w4 hs4 hlen4 hv
  match vs, hlen4 with
  | [v0, v1, v2, v3, v4, v5, v6, v7, v8, v9, v10, v11, v12, v13, v14, v15], _ =>
   obtain ⟨x, hx14, hj⟩ := (show ∃ x : Nat, v14 = .int .i64 (x : Int) ∧ JApp S w p lq F Fl s lst l x w4 from hv 14 5 (by kernel_rfl))
   have hx15 : v15 = .int .i64 0 := hv 15 6 (by kernel_rfl)
   obtain ⟨F', Fl', s', lst', hmid, hjm, hgg, hpos, hln, hou, hca, hg4, hf4⟩ := HMID.out w4 x hj
   obtain ⟨a, hcut, hal, hsorted, hbelow, habove⟩ := jkept_cut hmid.c.l hgg
   rw [hpos] at hcut
   have hal2 : lst.gone + a.length = lst'.gone := by omega
   obtain ⟨kk, hkk⟩ : ∃ kk, a.length = kk := ⟨_, rfl⟩
   obtain ⟨nb, hnb⟩ : ∃ nb, (jkept lst').length = nb := ⟨_, rfl⟩
   obtain ⟨fi, hfi⟩ : ∃ fi, lst'.first = fi := ⟨_, rfl⟩
   have hsum : n0 + 1 = kk + nb := by
    have := congrArg List.length hcut
    simp only [List.length_append, List.length_cons, List.length_nil] at this
    omega
   subst hx14 hx15
   have c2 : w4.cell? ⟨q, 2, none⟩ = some (.slice A0 n0 c0) := hmid.c.blk.c2
   have hrow : w4.ownsRow 0 2 1 (.slice A0 n0 c0) n0 (posC (jkept lst)) := by have := hmid.c.row; rwa [hn0] at this
   have HROW := Lib.hid hrow
   have HM4 := Lib.hid hmid
   have HJM := Lib.hid hjm
   have HGG := Lib.hid (show st.base ≤ lst'.gone from by rw [hsb]; exact hgg)
   have HREST := Lib.hid (show s'.now.length = s.now.length ∧ (∀ i, ¬ st.has i → s'.now.getD i [] = s.now.getD i []) ∧ s'.calls ≤ s.calls + 1000 * 1 from ⟨hln, hou, by omega⟩)
   have HCUT := Lib.hid hcut
   have HSB := Lib.hid (show (a ++ jkept lst').Pairwise (· < ·) ∧ (∀ y ∈ a, y < fi) ∧ ∀ y ∈ jkept lst', fi ≤ y from ⟨hsorted, by rw [← hfi]; exact hbelow, by rw [← hfi]; exact habove⟩)
   have HKK := Lib.hid hkk
   have HNB := Lib.hid hnb
   have HN0 := Lib.hid hn0
   have HFI := Lib.hid hfi
   have HSUM := Lib.hid hsum
   have HGN := Lib.hid (show lst.gone + kk = lst'.gone from by omega)
   have hkb : kk ≤ 40000 := by omega
   have hnbb : nb ≤ 40000 := by omega
   clear hv hs4 hj hmid hjm hgg hpos hln hou hca hg4 hf4 hcut hal hal2 hsorted hbelow habove hkk hnb hfi hsum hrow hsb hn0 HMID HAPP HENC HSEQ HBLK hT
   simp only [putAll, List.map, Act.put, List.setIfInBounds_toArray, List.set_cons_succ, List.set_cons_zero, Exit.then]
   go_wp2_with (at_builtin; refine j64_elem.list_append rfl (.tmp 30) (.tmp 32) _ rfl rfl (HROW.out.alloc _) rfl (src_one Tryz.underlying106 _ _ _ ?c1 _ ?c2 _) ?c3 ?c4 ?c5 ?_)
   case c1 => rfl
   case c2 => rfl
   case c3 => unfold maxLen; omega
   case c4 => omega
   case c5 => exact Nat.zero_le _
   intro v' w5 hown hg hb
   rw [posC_snoc] at hown
   have hg2 := grown_of_alloc hg
   have hk5 : Keeps (fun b => (Value.slice A0 n0 c0).ownBlock ≠ some b) w4 w5 := Keeps.of_grown hg2 fun b e _ hn => hn e
   have blk5 := HM4.out.c.blk.keep hk5 HM4.out.c.qv
   have d2 := blk5.c2
   have df := blk5.f 2
   have hM6 := HM4.out.put (v' := v') (xs' := jkept lst ++ [x]) hg2 (by rw [List.length_append, HN0.out]; exact hown) (by
    rcases hb with hb | hb
    ·exact .inl hb
    ·exact .inr ⟨_, hb, by simp⟩)
   obtain ⟨g, c1, rfl, -, -⟩ := hown.form (Nat.succ_pos _)
   have hen : (jkept lst ++ [x]).length = n0 + 1 := by rw [List.length_append, HN0.out]; rfl
   have hrow6 := hM6.c.row
   rw [hen, HCUT.out] at hrow6
   have HBLK6 := Lib.hid (show ∀ w', Kp (w5.setCell ⟨q, 2, none⟩ (.slice (some ⟨g, 0, none⟩) (n0 + 1) c1)) w' → JBlk w' q lq (lst.gone : Int) (.slice (some ⟨g, 0, none⟩) (n0 + 1) c1) from fun w' hk => hM6.c.blk.keep hk trivial)
   have HFIRST := Lib.hid (show ∀ w', Kp (w5.setCell ⟨q, 2, none⟩ (.slice (some ⟨g, 0, none⟩) (n0 + 1) c1)) w' → Calls Tryz.prog 70 #[.pointer (some ⟨lq, 0, none⟩)] w' fun e w2 => e = .returned (.int .i64 (fi : Int)) ∧ Kp w' w2 from fun w' hk => by
    refine (S.first2 w' lq _ _ _ (S.keep hM6.c.l (hk.mono fun _ _ _ => trivial))).mono ?_
    rintro e w2 ⟨rfl, rfl⟩
    exact ⟨by rw [HFI.out], Keeps.refl _ _⟩)
   have HSRCH := Lib.hid (show ∀ w', Kp (w5.setCell ⟨q, 2, none⟩ (.slice (some ⟨g, 0, none⟩) (n0 + 1) c1)) w' → Calls Tryz.prog 88 #[.slice (some ⟨g, 0, none⟩) (n0 + 1) c1, .int .i64 (fi : Int)] w' fun e w2 => (∃ t, e = .returned (.tuple #[.int .i64 (kk : Int), .bool t])) ∧ Kp w' w2 from fun w' hk => by
    refine (jsearch_any w' g c1 (n0 + 1) fi kk a (jkept lst') (by rw [List.length_append, HKK.out, HNB.out]; exact HSUM.out) (hk.own hrow6 fun _ _ => trivial) HSB.out.1 (by omega) HSB.out.2.1 HSB.out.2.2 HKK.out.symm).mono ?_
    rintro e w2 ⟨h, z, rfl⟩
    exact ⟨h, (Keeps.refl _ _).drewN z⟩)
   have HDEL := Lib.hid (show ∀ w', Kp (w5.setCell ⟨q, 2, none⟩ (.slice (some ⟨g, 0, none⟩) (n0 + 1) c1)) w' → Calls Tryz.prog 89 #[.slice (some ⟨g, 0, none⟩) (n0 + 1) c1, .int .i64 0, .int .i64 (kk : Int)] w' fun e w2 => e = .returned (.slice (some ⟨g, 0, none⟩) nb c1) ∧
     w2.ownsRow 0 2 1 (.slice (some ⟨g, 0, none⟩) nb c1) nb (posC (jkept lst')) ∧ w'.grownBy w2 (some g) from fun w' hk =>
    jdelete_any w' g c1 (n0 + 1) kk nb a (jkept lst') (by rw [List.length_append, HKK.out, HNB.out]; exact HSUM.out) (hk.own hrow6 fun _ _ => trivial) HKK.out.symm HNB.out.symm)
   have HM6 := Lib.hid hM6
   clear hown hg hg2 hb hk5 blk5 hM6 HROW HM4 c2 hrow6 HCUT HSB
   go_wp2_with fail
   generalize w5.setCell ⟨q, 2, none⟩ (.slice (some ⟨g, 0, none⟩) (n0 + 1) c1) = w6 at HM6 HBLK6 HFIRST HSRCH HDEL ⊢
   clear d2 df
   refine wp_region_guard (R := Kp) (V := VS q lq (.slice (some ⟨g, 0, none⟩) (n0 + 1) c1) fi kk) (w0 := w6) GM (by kernel_rfl) (fun w => Keeps.refl _ w) (fun _ _ _ h k => h.trans k) (fun i w w' v _ hv => VS_any i w w' v hv) (by kernel_rfl) GM_is (fun i o ho hw => (all_wanted (by kernel_rfl) ho hw).elim) ((Keeps.refl _ w6).drew) (each_of ?_) ?_
   ·refine ⟨?_, ?_, ?_, ?_, ?_, ?_, ?_, ?_, ?_, ?_, ?_, ?_, ?_, ?_, ?_, trivial⟩ <;> intro hw a1 w7 L
    ·exact kp_move rfl (L.old 0 (by kernel_rfl))
    ·exact kp_nilL rfl (L.val 0 37 (by kernel_rfl) (by kernel_rfl))
    ·exact kp_fJ2 rfl (L.val 1 38 (by kernel_rfl) (by kernel_rfl))
    ·exact kp_lPos (HBLK6.out w7 L.rel).c2 rfl (L.val 2 39 (by kernel_rfl) (by kernel_rfl))
    ·exact kp_move rfl (L.old 0 (by kernel_rfl))
    ·exact kp_nilL rfl (L.val 4 41 (by kernel_rfl) (by kernel_rfl))
    ·exact kp_fJ0 rfl (L.val 5 42 (by kernel_rfl) (by kernel_rfl))
    ·exact kp_lPL (HBLK6.out w7 L.rel).c0 rfl (L.val 6 43 (by kernel_rfl) (by kernel_rfl))
    ·have e0 : a1.eval (.tmp 44) = .pointer (some ⟨lq, 0, none⟩) := L.val 7 44 (by kernel_rfl) (by kernel_rfl)
     have hf : a1.eval (.func 70) = .func (.func 70) #[] #[] := rfl
     refine kp_enter (f := 70) (args := #[.pointer (some ⟨lq, 0, none⟩)]) ?_ (HFIRST.out w7 L.rel) ?_
     ·clear L
      generalize a1.eval = ρ at e0 hf ⊢
      unfold execOp
      go_simp
     ·rintro e w' ⟨rfl, hk⟩
      exact ⟨_, rfl, hk, rfl⟩
    ·have e0 : a1.eval (.tmp 40) = .slice (some ⟨g, 0, none⟩) (n0 + 1) c1 := L.val 3 40 (by kernel_rfl) (by kernel_rfl)
     have e1 : a1.eval (.tmp 45) = .int .i64 (fi : Int) := L.val 8 45 (by kernel_rfl) (by kernel_rfl)
     have hf : a1.eval (.func 88) = .func (.func 88) #[] #[] := rfl
     refine kp_enter (f := 88) (args := #[.slice (some ⟨g, 0, none⟩) (n0 + 1) c1, .int .i64 (fi : Int)]) ?_ (HSRCH.out w7 L.rel) ?_
     ·clear L
      generalize a1.eval = ρ at e0 e1 hf ⊢
      unfold execOp
      go_simp
     ·rintro e w' ⟨⟨t, rfl⟩, hk⟩
      exact ⟨_, rfl, hk, t, rfl⟩
    ·obtain ⟨t, e0⟩ := (show ∃ t, a1.eval (.tmp 46) = .tuple #[.int .i64 (kk : Int), .bool t] from L.val 9 46 (by kernel_rfl) (by kernel_rfl))
     refine kp_yield (v := .tuple #[.int .i64 (kk : Int), .bool t]) ?_ (Keeps.refl _ _) ⟨t, rfl⟩
     clear L
     generalize a1.eval = ρ at e0
     unfold execOp
     go_simp
    ·obtain ⟨t, e0⟩ := (show ∃ t, a1.eval (.tmp 36) = .tuple #[.int .i64 (kk : Int), .bool t] from L.val 10 36 (by kernel_rfl) (by kernel_rfl))
     exact kp_ext0 (V := IsV (.int .i64 (kk : Int))) rfl e0 rfl
    ·obtain ⟨t, e0⟩ := (show ∃ t, a1.eval (.tmp 36) = .tuple #[.int .i64 (kk : Int), .bool t] from L.val 10 36 (by kernel_rfl) (by kernel_rfl))
     exact kp_ext1 (V := fun _ u => ∃ t, u = .bool t) rfl e0 ⟨t, rfl⟩
    ·exact kp_assign rfl (L.val 11 47 (by kernel_rfl) (by kernel_rfl))
    ·exact kp_asJ (V := fun _ u => ∃ t, u = .bool t) rfl (L.val 12 48 (by kernel_rfl) (by kernel_rfl))
   ·intro vs w7 hk7 hlen7 hv
    match vs, hlen7 with
    | [u0, u1, u2, u3, u4, u5, u6, u7, u8, u9, u10, u11, u12, u13, u14], _ =>
     have hx13 : u13 = .int .i64 (kk : Int) := hv 13 7 (by kernel_rfl)
     obtain ⟨t, hx14⟩ := (show ∃ t, u14 = .bool t from hv 14 8 (by kernel_rfl))
     subst hx13 hx14
     have HM7 := Lib.hid (HM6.out.kp hk7)
     have HD7 := Lib.hid (HDEL.out w7 hk7)
     have d2 := (HBLK6.out w7 hk7).c2
     clear hv hk7 HM6 HDEL HSRCH HFIRST HBLK6
     simp only [putAll, List.map, Act.put, List.setIfInBounds_toArray, List.set_cons_succ, List.set_cons_zero, Exit.then]
     go_wp2_with fail
     refine (show Calls _ _ _ _ _ from HD7.out).mono ?_
     rintro e w8 ⟨rfl, hr8, hg8⟩
     have hk8 : Keeps (fun b => b ≠ g) w7 w8 := Keeps.of_grown hg8 fun b e _ hn => by injection e with e; exact hn e.symm
     have hqg : q ≠ g := fun e => HM7.out.c.qv (by rw [e]; rfl)
     have blk8 := HM7.out.c.blk.keep hk8 hqg
     have e2 := blk8.c2
     have df := blk8.f 2
     have hM8 := HM7.out.put (v' := .slice (some ⟨g, 0, none⟩) nb c1) (xs' := jkept lst') hg8 (by rw [HNB.out]; exact hr8) (.inl rfl)
     have b1 := hM8.c.blk.c1
     have f1 := hM8.c.blk.f 1
     have HM8 := Lib.hid hM8
     clear hr8 hg8 hk8 hqg blk8 hM8 HD7 HM7 d2
     go_wp2_with fail
     have hM9 := HM8.out.base ((lst.gone : Int) + (kk : Int))
     go_ret
     have e : (lst.gone : Int) + (kk : Int) = (lst'.gone : Int) := by have := HGN.out; omega
     rw [e] at hM9 ⊢
     refine ⟨rfl, F', jfoot q Fl' (.slice (some ⟨g, 0, none⟩) nb c1), s', lst'.gone, hM9.d, ⟨lq, Fl', _, lst', rfl, hM9.c, HJM.out⟩, HGG.out, ?_⟩
     rw [HN0.out]
     exact hM9.go HREST.out.1 HREST.out.2.1 HREST.out.2.2
end Go.Proofs.YticophaepapjoaaGreatDoor
