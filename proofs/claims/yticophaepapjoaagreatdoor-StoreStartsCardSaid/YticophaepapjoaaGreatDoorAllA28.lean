/-
  ItemCut, ItemTake, JnLib, JnSmall, JnAdd, JnMid, Open: texts of mine, joined.
-/
import Derived.Test.YticophaepapjoaaGreatDoorAllA06
import Derived.WalkSpells
import Derived.Lib.SmallJoins
import Derived.Deep.RegionWith
import Derived.Test.YticophaepapjoaaGreatDoorAllA27
import Derived.Test.YticophaepapjoaaGreatDoorAllA19
import Derived.Sort.Row
import Derived.Test.YticophaepapjoaaGreatDoorAllA18
import Derived.Test.YticophaepapjoaaGreatDoorAllA11
import Derived.Test.YticophaepapjoaaGreatDoorAllA05
import Derived.Deep.Fields
namespace Go.Proofs.YticophaepapjoaaGreatDoor
open Go Go.RowKit Go.Joins
theorem src_item (W : World) (x : It) : Src Tryz.prog 4 133 (.slice (some ⟨W.heap.size, 0, none⟩) 1 1) 1 x.cells (W.alloc (.cells #[.string x.key, .string x.val, .int .i64 x.till, .bool x.gone] 40)) :=
 Src.ofSlice _ Tryz.underlying133 ⟨W.heap.size, 0, none⟩ 1 1 x.cells rfl (fun j v hv => by
  rw [WideShapes.add_plain, Nat.zero_add]
  exact (cell_alloc_mark_at W _ _ _ W.heap.size j rfl).trans (by rw [← hv, ← Array.getElem?_toList]; rfl)) (fun v hv => by
  simp only [It.cells, List.mem_cons, List.not_mem_nil, or_false] at hv
  rcases hv with rfl | rfl | rfl | rfl <;> rfl)
end Go.Proofs.YticophaepapjoaaGreatDoor
namespace Go.Proofs.YticophaepapjoaaGreatDoor
open Go Go.RowKit Go.Joins Go.Sort
theorem row_putI {w : World} {base n c g k m : Nat} {e : TypeId} {xs : List Value} (F : Array Int) (h : w.ownsRow base e 1 (.slice (some ⟨g, 0, none⟩) n c) n xs) (hF : F.size = xs.length) (hmn : m ≤ n) :
  (putRow (Value.int .i64) (Go.Sort.ahead w k) g 0 F).ownsRow base e 1 (.slice (some ⟨g, 0, none⟩) m c) m ((F.toList.take m).map (Value.int .i64)) ∧ w.grownBy (putRow (Value.int .i64) (Go.Sort.ahead w k) g 0 F) (some g) := by
 refine ⟨?_, ⟨rfl, rfl, rfl, by simp [putRow, mapBlock, Go.Sort.ahead], fun j hj hne => by
  have : g ≠ j := fun e => hne (by rw [e])
  simp [putRow, mapBlock, Go.Sort.ahead, Array.getElem?_modify, this]⟩⟩
 rcases h.2 with ⟨e0, _⟩ | ⟨g', cap', cur, e0, hb, hg, hn, hm, hs, ht⟩
 ·cases e0
 ·injection e0 with e1 _ e3
  injection e1 with e1
  injection e1 with e1
  subst e1; subst e3
  have hxs : xs.length = n * 1 := h.1
  have hle : n * 1 ≤ cur.size := by rw [hs]; exact Nat.mul_le_mul_right _ hn
  refine ⟨by rw [List.length_map, List.length_take, Array.length_toList, hF, hxs]; omega, .inr ⟨g, c, putCells (Value.int .i64) 0 F cur, rfl, hb, ?_, Nat.le_trans hmn hn, hm, by simpa [putCells] using hs, ?_⟩⟩
  ·simp [putRow, mapBlock, Go.Sort.ahead, Array.getElem?_modify, hg, onCells]
  ·apply List.ext_getElem?
   intro j
   rw [List.getElem?_take, Array.getElem?_toList, List.getElem?_map, List.getElem?_take, Array.getElem?_toList]
   by_cases hj : j < m
   ·have hjc : j < cur.size := by omega
    have hjF : j < F.size := by omega
    rw [if_pos (by omega), if_pos hj]
    simp only [putCells, Array.getElem?_mapIdx, Array.getElem?_eq_getElem hjc, Option.map_some]
    rw [if_pos (by omega), Nat.sub_zero, Array.getElem?_eq_getElem hjF, getElem!_pos F j hjF]
    rfl
   ·rw [if_neg (by omega), if_neg hj]; rfl
def posZ (l : List Nat) : List Int := l.map fun x => ((x : Nat) : Int)
theorem posZ_len (l : List Nat) : (posZ l).length = l.length := by simp [posZ]
theorem posC_is (l : List Nat) : posC l = (posZ l).map (Value.int .i64) := by simp [posC, posZ]
theorem posZ_getD (l : List Nat) (j : Nat) (hj : j < l.length) : (posC l)[j]? = some (.int .i64 ((posZ l).getD j 0)) := by
 simp [posC, posZ, hj]
theorem jsearch_any (w : World) (g c n x k : Nat) (a b : List Nat) (hn : n = (a ++ b).length) (h : w.ownsRow 0 2 1 (.slice (some ⟨g, 0, none⟩) n c) n (posC (a ++ b))) (hs : (a ++ b).Pairwise (· < ·)) (hl : n ≤ 1000000) (ha : ∀ y ∈ a, y < x) (hb : ∀ y ∈ b, x ≤ y) (hk : k = a.length) :
  Calls Tryz.prog 88 #[.slice (some ⟨g, 0, none⟩) n c, .int .i64 (x : Int)] w fun e w' => (∃ t, e = .returned (.tuple #[.int .i64 (k : Int), .bool t])) ∧ ∃ z, w' = w.drewN z := by
 subst hk
 have hzl := posZ_len (a ++ b)
 have hc := AnyG.slices_BinarySearch_int Tryz.searchJ g 0 n c (posZ (a ++ b)) (x : Int) w (by omega) (by omega) (fun j hj => by
  have := h.cells (g := g) rfl j _ (posZ_getD _ _ (by omega))
  rwa [WideShapes.add_plain] at this) (by
  rw [List.take_of_length_le (by omega)]
  unfold posZ
  rw [List.pairwise_map]
  exact hs.imp fun h => by omega)
 have e1 : ((posZ (a ++ b)).take n).countP (· < (x : Int)) = a.length := by
  rw [List.take_of_length_le (by omega)]
  unfold posZ
  rw [List.map_append, List.countP_append, List.countP_map, List.countP_map]
  have h1 : a.countP ((fun y : Int => decide (y < (x : Int))) ∘ fun y : Nat => (y : Int)) = a.length := List.countP_eq_length.2 fun y hy => by
   have := ha y hy
   simp; omega
  have h2 : b.countP ((fun y : Int => decide (y < (x : Int))) ∘ fun y : Nat => (y : Int)) = 0 := List.countP_eq_zero.2 fun y hy => by
   have := hb y hy
   simp; omega
  rw [h1, h2, Nat.add_zero]
 rw [e1] at hc
 refine (show Calls Tryz.prog 88 _ w _ from hc).mono ?_
 rintro e w' ⟨rfl, z, rfl⟩
 exact ⟨⟨_, rfl⟩, z, rfl⟩
theorem jdelete_any (w : World) (g c n k m : Nat) (a b : List Nat) (hn : n = (a ++ b).length) (h : w.ownsRow 0 2 1 (.slice (some ⟨g, 0, none⟩) n c) n (posC (a ++ b))) (hk : k = a.length) (hm : m = b.length) :
  Calls Tryz.prog 89 #[.slice (some ⟨g, 0, none⟩) n c, .int .i64 0, .int .i64 (k : Int)] w fun e w' => e = .returned (.slice (some ⟨g, 0, none⟩) m c) ∧ w'.ownsRow 0 2 1 (.slice (some ⟨g, 0, none⟩) m c) m (posC b) ∧ w.grownBy w' (some g) := by
 subst hk
 have hzl := posZ_len (a ++ b)
 have hab : (a ++ b).length = a.length + b.length := List.length_append
 have hcap := own_room h
 have hH : Holds (Value.int .i64) w g 0 (posZ (a ++ b)).toArray := by
  intro j hj
  have hj2 : j < (a ++ b).length := by simpa [posZ] using hj
  have hc := h.cells (g := g) rfl j _ (posZ_getD _ _ hj2)
  rw [WideShapes.add_plain] at hc
  refine ⟨?_, h.frozenAt (0 + j)⟩
  rw [hc, getElem!_pos _ j hj]
  simp [List.getD_eq_getElem?_getD, show j < (posZ (a ++ b)).length by omega]
 have hr := AnyG.slices_Delete_int Tryz.deleteJ g 0 c 0 a.length (posZ (a ++ b)) w hH (by omega) (by have := hcap.2; unfold maxLen at this; omega) (Nat.zero_le _) (by omega)
 have e0 : (posZ (a ++ b)).drop a.length = posZ b := by unfold posZ; rw [← List.map_drop, List.drop_left]
 rw [List.take_zero, List.nil_append, e0, Nat.sub_zero, hzl, ← hn, show n - a.length = m by omega] at hr
 refine (show Calls Tryz.prog 89 _ w _ from hr).mono ?_
 rintro e w' ⟨rfl, z, rfl⟩
 have h2 := row_putI (k := z) (m := m) (posZ b ++ List.replicate a.length (0 : Int)).toArray h (by simp [posZ, posC]; omega) (by omega)
 rw [List.take_left' (by rw [posZ_len, hm]), ← posC_is] at h2
 exact ⟨rfl, h2.1, h2.2⟩
end Go.Proofs.YticophaepapjoaaGreatDoor
namespace Go.Proofs.YticophaepapjoaaGreatDoor
open Go Go.RowKit Go.Joins
theorem jdown (w : World) (q lq : Nat) (c0 : w.cell? ⟨q, 0, none⟩ = some (.pointer (some ⟨lq, 0, none⟩))) :
  Calls Tryz.prog 56 #[.pointer (some ⟨q, 0, none⟩)] w fun e w' => e = .returned (.bool false) ∧ w = w' := by
 go_enter Tryz.func56, Tryz.ntmps56
 go_wp2_with fail
 go_ret
 exact ⟨rfl, rfl⟩
set_option maxRecDepth 100000 in
theorem jseq (w : World) (q lq b n : Nat) (A : Option Addr) (c : Nat) (h : JBlk w q lq (b : Int) (.slice A n c)) (h1 : b + n ≤ 1000000) (m : Int) (hm : m = (b : Int) + (n : Int)) :
  Calls Tryz.prog 24 #[.pointer (some ⟨q, 0, none⟩)] w fun e w' => e = .returned (.int .i64 m) ∧ ∃ z, w' = w.drewN z := by
 subst hm
 have HDN := Lib.hid (jdown w q lq h.c0)
 have c1 := h.c1
 have c2 := h.c2
 clear h
 go_enter Tryz.func24, Tryz.ntmps24
 go_wp2_with fail
 refine (show Calls _ _ _ _ _ from HDN.out).mono ?_
 rintro e w1 ⟨rfl, rfl⟩
 go_wp2_with fail
 go_quiet (fail)
 go_wp2_with fail
 go_ret
 exact ⟨rfl, _, rfl⟩
theorem jbase (w : World) (q lq b : Nat) (v : Value) (h : JBlk w q lq (b : Int) v) :
  Calls Tryz.prog 31 #[.pointer (some ⟨q, 0, none⟩)] w fun e w' => e = .returned (.int .i64 (b : Int)) ∧ Kp w w' := by
 have HDN := Lib.hid (jdown w q lq h.c0)
 have c1 := h.c1
 clear h
 go_enter Tryz.func31, Tryz.ntmps31
 go_wp2_with fail
 refine (show Calls _ _ _ _ _ from HDN.out).mono ?_
 rintro e w1 ⟨rfl, rfl⟩
 go_wp2_with fail
 go_ret
 exact ⟨rfl, Keeps.refl _ _⟩
def JApp (S : Slog2) (w0 : World) (p lq : Nat) (F Fl : Foot) (s : SDev) (lst : LSt) (l : List UInt8) (x : Nat) (w1 : World) : Prop :=
 ∃ (F' Fl' : Foot) (s' : SDev) (g f n : Nat), DAt w1 p F' s' ∧ S.rep w1 lq Fl' ⟨p, lst.place, lst.segs, lst.hist ++ [⟨x, l, 0⟩], g, f, n⟩ s' ∧ lst.gone ≤ g ∧ n ≤ lst.next + 1048576 ∧
  s'.now.length = s.now.length ∧ (∀ i, ¬ lst.has i → s'.now.getD i [] = s.now.getD i []) ∧ s'.calls ≤ s.calls + 1000 ∧ Apart F' Fl' ∧ Keeps (fun b => ¬ F.M b ∧ ¬ Fl.M b) w0 w1 ∧
  (∀ b, F'.M b → F.M b ∨ w0.heap.size ≤ b) ∧ (∀ b, F'.I b → F.all b ∨ w0.heap.size ≤ b) ∧ (∀ b, Fl'.M b → Fl.M b ∨ w0.heap.size ≤ b) ∧ (∀ b, Fl'.I b → Fl.all b ∨ w0.heap.size ≤ b)
theorem JApp.keep {S : Slog2} {w0 w1 w2 : World} {p lq : Nat} {F Fl : Foot} {s : SDev} {lst : LSt} {l : List UInt8} {x : Nat} (h : JApp S w0 p lq F Fl s lst l x w1) (hk : Kp w1 w2) : JApp S w0 p lq F Fl s lst l x w2 := by
 obtain ⟨F', Fl', s', g, f, n, h1, h2, h3, h4, h5, h6, h7, h8, h9, h10, h11, h12, h13⟩ := h
 exact ⟨F', Fl', s', g, f, n, h1.keep (hk.mono fun _ _ _ => trivial), S.keep h2 (hk.mono fun _ _ _ => trivial), h3, h4, h5, h6, h7, h8, h9.trans (hk.mono fun _ _ _ => trivial), h10, h11, h12, h13⟩
theorem japp_call (S : Slog2) (W w wc : World) (hT : S.T W) (p lq : Nat) (F Fl : Foot) (s : SDev) (lst : LSt) (hd : DAt w p F s) (hl : S.rep w lq Fl lst s) (hon : lst.dev = p) (ha : Apart F Fl) (hk : Kp W w) (hF : ∀ b, F.all b → W.heap.size ≤ b) (hFl : ∀ b, Fl.all b → W.heap.size ≤ b)
  (hroom : lst.place + 8 * lst.segs ≤ s.now.length) (hcl : s.calls ≤ 540000000000) (hnx : lst.next ≤ 137438953472) (hkc : Kp w wc) (v : Value) (l : List UInt8) (ho : OwnB wc w.heap.size v l) (h1 : 1 ≤ l.length) (h2 : l.length ≤ 300) :
  Calls Tryz.prog 71 #[.pointer (some ⟨lq, 0, none⟩), v] wc fun e w' => (∃ x : Nat, e = .returned (.tuple #[.int .i64 (x : Int), .int .i64 0]) ∧ JApp S w p lq F Fl s lst l x w') ∧ Keeps (fun b => w.heap.size ≤ b) wc w' := by
 obtain ⟨A, c, rfl, -, hr⟩ := own_slice ho
 have hc := own_cap ho
 have hszc := hkc.size
 have hdl := hd.lt
 have hll := fun b hb => S.lt hl b hb
 refine (S.append W wc p lq F Fl s lst (hd.keep (hkc.mono fun _ _ _ => trivial)) (S.keep hl (hkc.mono fun _ _ _ => trivial)) hon ha hT (hk.trans hkc) hF hFl hroom (by omega) hnx A c (fun b => w.heap.size ≤ b ∧ b < wc.heap.size) l hr (fun b hb hf => by have := hdl b hf; omega) (fun b hb hf => by have := hll b hf; omega) hc.1 hc.2.1 h1 h2).mono ?_
 rintro e w' ⟨x, F', Fl', s', g, f, n, rfl, a1, a2, a3, a4, a5, a6, a7, a8, a9, a10, a11, a12, a13, a14⟩
 refine ⟨⟨x, rfl, F', Fl', s', g, f, n, a1, a2, a3, a5, a6, a7, a8, a9, (hkc.mono fun _ _ _ => trivial).trans a10, fun b hb => ?_, fun b hb => ?_, fun b hb => ?_, fun b hb => ?_⟩, a10.mono fun b _ hb => ⟨fun hm => by have := hdl b (.inl hm); omega, fun hm => by have := hll b (.inl hm); omega⟩⟩
 ·rcases a11 b hb with h | h
  ·exact .inl h
  ·exact .inr (by omega)
 ·rcases a12 b hb with h | h
  ·exact .inl h
  ·exact .inr (by omega)
 ·rcases a13 b hb with h | h
  ·exact .inl h
  ·exact .inr (by omega)
 ·rcases a14 b hb with h | h
  ·exact .inl h
  ·exact .inr (by omega)
section
variable {w : World} {o : Oper} {a : Act} {Q : Exit → Act → World → Prop} {x y : Operand}
theorem jn_enter {P : Program} {X : World → Value → Prop} {f : FuncId} {args : Array Value} {C : Ending → World → Prop} (e : (execOp a.eval o).run P w = .ok (.enter f args) w) (hc : Calls P f args w C)
  (hC : ∀ e w', C e w' → ∃ v, e = .returned v ∧ X w' v) : o.wp P a w (fun a' w' => ∃ v, a' = a.put o.dst v ∧ X w' v) Q := by
 unfold Oper.wp
 rw [e]
 refine hc.mono fun e w' h => ?_
 obtain ⟨v, rfl, hv⟩ := hC e w' h
 exact ⟨v, rfl, hv⟩
theorem kp_fJ0 {b : Nat} (ho : o.op = .fieldAddr 108 x 0) (hx : a.eval x = .pointer (some ⟨b, 0, none⟩)) : o.wp Tryz.prog a w (fun a' w' => ∃ v, a' = a.put o.dst v ∧ Kp w w' ∧ IsV (.pointer (some ⟨b, 0, none⟩)) w' v) Q := by
 refine kp_yield (v := .pointer (some ⟨b, 0, none⟩)) ?_ (Keeps.refl _ _) rfl
 generalize a.eval = ρ at hx
 unfold execOp
 go_simp
theorem kp_fJ2 {b : Nat} (ho : o.op = .fieldAddr 108 x 2) (hx : a.eval x = .pointer (some ⟨b, 0, none⟩)) : o.wp Tryz.prog a w (fun a' w' => ∃ v, a' = a.put o.dst v ∧ Kp w w' ∧ IsV (.pointer (some ⟨b, 2, none⟩)) w' v) Q := by
 refine kp_yield (v := .pointer (some ⟨b, 2, none⟩)) ?_ (Keeps.refl _ _) rfl
 generalize a.eval = ρ at hx
 unfold execOp
 go_simp
theorem kp_lPos {p : Addr} {A : Option Addr} {n c : Nat} (hc : w.cell? p = some (.slice A n c)) (ho : o.op = .load 106 x) (hx : a.eval x = .pointer (some p)) : o.wp Tryz.prog a w (fun a' w' => ∃ v, a' = a.put o.dst v ∧ Kp w w' ∧ IsV (.slice A n c) w' v) Q := by
 refine kp_yield (v := .slice A n c) ?_ (Keeps.refl _ _) rfl
 generalize a.eval = ρ at hx
 unfold execOp
 go_simp
theorem kp_succ {k : Nat} {z : Int} (h : k ≤ 1000000) (hz : z = (k : Int) + 1) (ho : o.op = .binOp .add 2 x y 2) (hx : a.eval x = .int .i64 (k : Int)) (hy : a.eval y = .int .i64 1) : o.wp Tryz.prog a w (fun a' w' => ∃ v, a' = a.put o.dst v ∧ Kp w w' ∧ IsV (.int .i64 z) w' v) Q := by
 have e : IntKind.i64.wrap ((k : Int) + 1) = (k : Int) + 1 := by rw [IntKind.wrap_i64]; omega
 subst hz
 refine kp_yield (v := .int .i64 ((k : Int) + 1)) ?_ (Keeps.refl _ _) rfl
 generalize a.eval = ρ at hx hy
 unfold execOp
 go_simp
theorem kp_bMark {n : Int} {k : ByteArray} (ho : o.op = .build 72 #[(0, x), (1, y)]) (hx : a.eval x = .int .i64 n) (hy : a.eval y = .string k) : o.wp Tryz.prog a w (fun a' w' => ∃ v, a' = a.put o.dst v ∧ Kp w w' ∧ IsV (.agg #[.int .i64 n, .string k]) w' v) Q := by
 refine kp_yield (v := .agg #[.int .i64 n, .string k]) ?_ (Keeps.refl _ _) rfl
 generalize a.eval = ρ at hx hy
 unfold execOp
 go_simp
theorem kp_ext0 {V : World → Value → Prop} {u v : Value} (ho : o.op = .extract x 0) (hx : a.eval x = .tuple #[u, v]) (hv : V w u) : o.wp Tryz.prog a w (fun a' w' => ∃ v, a' = a.put o.dst v ∧ Kp w w' ∧ V w' v) Q := by
 refine kp_yield (v := u) ?_ (Keeps.refl _ _) hv
 generalize a.eval = ρ at hx
 unfold execOp
 go_simp
theorem kp_ext1 {V : World → Value → Prop} {u v : Value} (ho : o.op = .extract x 1) (hx : a.eval x = .tuple #[u, v]) (hv : V w v) : o.wp Tryz.prog a w (fun a' w' => ∃ v, a' = a.put o.dst v ∧ Kp w w' ∧ V w' v) Q := by
 refine kp_yield (v := v) ?_ (Keeps.refl _ _) hv
 generalize a.eval = ρ at hx
 unfold execOp
 go_simp
end
def VA (S : Slog2) (w0 : World) (p q lq : Nat) (F Fl : Foot) (s : SDev) (lst : LSt) (k : ByteArray) (l : List UInt8) (m : Nat) : Nat → World → Value → Prop
 | 0 => IsV (.pointer (some ⟨q, 0, none⟩))
 | 1 => IsV (.pointer (some ⟨q, 0, none⟩))
 | 2 => IsV (.pointer (some ⟨q, 0, none⟩))
 | 3 => IsV (.pointer (some ⟨lq, 0, none⟩))
 | 4 => IsV (.pointer (some ⟨q, 0, none⟩))
 | 5 => IsV (.int .i64 (m : Int))
 | 6 => IsV (.int .i64 ((m : Int) + 1))
 | 7 => IsV (.string k)
 | 8 => IsV (.agg #[.int .i64 ((m : Int) + 1), .string k])
 | 9 => fun w v => OwnB w w0.heap.size v l
 | 10 => fun w v => ∃ x : Nat, v = .tuple #[.int .i64 (x : Int), .int .i64 0] ∧ JApp S w0 p lq F Fl s lst l x w
 | 11 => fun w v => ∃ x : Nat, v = .tuple #[.int .i64 (x : Int), .int .i64 0] ∧ JApp S w0 p lq F Fl s lst l x w
 | 12 => fun w v => ∃ x : Nat, v = .int .i64 (x : Int) ∧ JApp S w0 p lq F Fl s lst l x w
 | 13 => IsV (.int .i64 0)
 | 14 => fun w v => ∃ x : Nat, v = .int .i64 (x : Int) ∧ JApp S w0 p lq F Fl s lst l x w
 | 15 => IsV (.int .i64 0)
 | _ => fun _ _ => True
section
variable {S : Slog2} {w0 : World} {p q lq : Nat} {F Fl : Foot} {s : SDev} {lst : LSt} {k : ByteArray} {l : List UInt8} {m : Nat}
theorem VA_kp (i : Nat) (w w' : World) (v : Value) (h : Kp w w') (hv : VA S w0 p q lq F Fl s lst k l m i w v) : VA S w0 p q lq F Fl s lst k l m i w' v := by
 match i, hv with
 | 0, hv => exact hv
 | 1, hv => exact hv
 | 2, hv => exact hv
 | 3, hv => exact hv
 | 4, hv => exact hv
 | 5, hv => exact hv
 | 6, hv => exact hv
 | 7, hv => exact hv
 | 8, hv => exact hv
 | 9, hv => exact h.own hv fun _ _ => trivial
 | 10, ⟨x, e, hv⟩ => exact ⟨x, e, hv.keep h⟩
 | 11, ⟨x, e, hv⟩ => exact ⟨x, e, hv.keep h⟩
 | 12, ⟨x, e, hv⟩ => exact ⟨x, e, hv.keep h⟩
 | 13, hv => exact hv
 | 14, ⟨x, e, hv⟩ => exact ⟨x, e, hv.keep h⟩
 | 15, hv => exact hv
 | n + 16, _ => trivial
end
def StA (S : Slog2) (w0 : World) (p lq : Nat) (F Fl : Foot) (s : SDev) (lst : LSt) (l : List UInt8) : Bool → World → Prop
 | false => fun w => Kp w0 w
 | true => fun w => ∃ x, JApp S w0 p lq F Fl s lst l x w
theorem StA_kp {S : Slog2} {w0 : World} {p lq : Nat} {F Fl : Foot} {s : SDev} {lst : LSt} {l : List UInt8} (b : Bool) (w w' : World) (h : Kp w w') (hs : StA S w0 p lq F Fl s lst l b w) : StA S w0 p lq F Fl s lst l b w' := by
 cases b
 ·exact Keeps.trans hs h
 ·obtain ⟨x, hs⟩ := hs
  exact ⟨x, hs.keep h⟩
structure JMid (S : Slog2) (w w1 : World) (p q lq : Nat) (F Fl F' Fl' : Foot) (bs : Int) (v0 v : Value) (xs : List Nat) (lst' : LSt) (s' : SDev) : Prop where
 d : DAt w1 p F' s'
 c : JAt S w1 p q lq Fl' bs v xs lst' s'
 k : Keeps (fun b => ¬ F.M b ∧ ¬ (jfoot q Fl v0).M b) w w1
 f1 : ∀ b, F'.M b → F.M b ∨ w.heap.size ≤ b
 f2 : ∀ b, F'.I b → F.all b ∨ w.heap.size ≤ b
 f3 : ∀ b, Fl'.M b → Fl.M b ∨ w.heap.size ≤ b
 f4 : ∀ b, Fl'.I b → Fl.all b ∨ w.heap.size ≤ b
 ap : Apart F' Fl'
 vb : ∀ b, v.ownBlock = some b → v0.ownBlock = some b ∨ w.heap.size ≤ b
 qf : ¬ F'.all q
 vf : ∀ b, v.ownBlock = some b → ¬ F'.all b
 qw : q < w.heap.size
section
variable {S : Slog2} {w w1 w2 : World} {p q lq : Nat} {F Fl F' Fl' : Foot} {bs : Int} {v0 v v' : Value} {xs xs' : List Nat} {lst lst' : LSt} {s s' : SDev}
theorem JMid.of (hc : JAt S w p q lq Fl bs v0 xs lst s) (ha : Apart F (jfoot q Fl v0)) (hd' : DAt w1 p F' s') (hr : S.rep w1 lq Fl' lst' s') (hon : lst'.dev = p) (hap : Apart F' Fl') (hk : Keeps (fun b => ¬ F.M b ∧ ¬ Fl.M b) w w1)
  (f1 : ∀ b, F'.M b → F.M b ∨ w.heap.size ≤ b) (f2 : ∀ b, F'.I b → F.all b ∨ w.heap.size ≤ b) (f3 : ∀ b, Fl'.M b → Fl.M b ∨ w.heap.size ≤ b) (f4 : ∀ b, Fl'.I b → Fl.all b ∨ w.heap.size ≤ b) : JMid S w w1 p q lq F Fl F' Fl' bs v0 v0 xs lst' s' := by
 have hlt := hc.lt
 have hq : q < w.heap.size := hlt q (jfoot_all.2 (.inl rfl))
 have all' : ∀ b, Fl'.all b → Fl.all b ∨ w.heap.size ≤ b := fun b hb => by
  rcases hb with hb | hb
  ·rcases f3 b hb with h1 | h1
   ·exact .inl (.inl h1)
   ·exact .inr h1
  ·exact f4 b hb
 have allF : ∀ b, F'.all b → F.all b ∨ w.heap.size ≤ b := fun b hb => by
  rcases hb with hb | hb
  ·rcases f1 b hb with h1 | h1
   ·exact .inl (.inl h1)
   ·exact .inr h1
  ·exact f2 b hb
 have hqF : ¬ F.all q := ha.r q (.inl rfl)
 have hvF : ∀ b, v0.ownBlock = some b → ¬ F.all b := fun b hb => ha.r b (.inr (.inr hb))
 have hvw : ∀ b, v0.ownBlock = some b → b < w.heap.size := fun b hb => hlt b (jfoot_all.2 (.inr (.inr hb)))
 refine ⟨hd', ⟨hc.blk.keep hk ⟨fun hm => hqF (.inl hm), fun hm => hc.ql (.inl hm)⟩, hr, hon, hk.own hc.row (fun b hb => ⟨fun hm => hvF b hb (.inl hm), fun hm => hc.lv b hb (.inl hm)⟩), fun hf => ?_, hc.qv, fun b hb hf => ?_⟩,
  hk.mono fun b _ hb => ⟨hb.1, fun hm => hb.2 (.inr (.inl hm))⟩, f1, f2, f3, f4, hap, fun b hb => .inl hb, fun hf => ?_, fun b hb hf => ?_, hq⟩
 ·rcases all' q hf with h1 | h1
  ·exact hc.ql h1
  ·omega
 ·rcases all' b hf with h1 | h1
  ·exact hc.lv b hb h1
  ·have := hvw b hb; omega
 ·rcases allF q hf with h1 | h1
  ·exact hqF h1
  ·omega
 ·rcases allF b hf with h1 | h1
  ·exact hvF b hb h1
  ·have := hvw b hb; omega
theorem JMid.kp (h : JMid S w w1 p q lq F Fl F' Fl' bs v0 v xs lst' s') (hk : Kp w1 w2) : JMid S w w2 p q lq F Fl F' Fl' bs v0 v xs lst' s' :=
 { h with d := h.d.keep (hk.mono fun _ _ _ => trivial), c := h.c.kp hk, k := h.k.trans (hk.mono fun _ _ _ => trivial) }
theorem JMid.put (h : JMid S w w1 p q lq F Fl F' Fl' bs v0 v xs lst' s') (hg : w1.grownBy w2 v.ownBlock) (hr : w2.ownsRow 0 2 1 v' xs'.length (posC xs')) (hv : v'.ownBlock = v.ownBlock ∨ ∃ b, v'.ownBlock = some b ∧ w1.heap.size ≤ b) :
  JMid S w (w2.setCell ⟨q, 2, none⟩ v') p q lq F Fl F' Fl' bs v0 v' xs' lst' s' := by
 have hk12 : Keeps (fun b => v.ownBlock ≠ some b) w1 w2 := Keeps.of_grown hg fun b e _ hn => hn e
 have hk13 : Keeps (fun b => v.ownBlock ≠ some b ∧ b ≠ q) w1 (w2.setCell ⟨q, 2, none⟩ v') := (hk12.mono fun b _ hb => hb.1).setCell (.inr fun hn => hn.2 rfl) _
 have hqs : q < w1.heap.size := h.c.blk.lt
 have hll := fun b hb => S.lt h.c.l b hb
 have hsz := h.k.size
 have hqv' : v'.ownBlock ≠ some q := fun e => by
  rcases hv with h1 | ⟨b, h1, h2⟩
  ·exact h.c.qv (h1.symm.trans e)
  ·rw [e] at h1; injection h1 with h1; omega
 refine ⟨h.d.keep (hk13.mono fun b _ hb => ⟨fun e => h.vf b e hb, fun e => h.qf (e ▸ hb)⟩), ⟨(h.c.blk.keep hk12 h.c.qv).set2 v', S.keep h.c.l (hk13.mono fun b _ hb => ⟨fun e => h.c.lv b e hb, fun e => h.c.ql (e ▸ hb)⟩), h.c.on,
  (((Keeps.refl (fun b => b ≠ q) w2).setCell (.inr fun hn => hn rfl) _).own hr fun b hb e => hqv' (e ▸ hb)), h.c.ql, hqv', fun b hb hf => ?_⟩, ?_, h.f1, h.f2, h.f3, h.f4, h.ap, fun b hb => ?_, h.qf, fun b hb hf => ?_, h.qw⟩
 ·rcases hv with h1 | ⟨g, h1, h2⟩
  ·exact h.c.lv b (h1.symm.trans hb) hf
  ·rw [hb] at h1; injection h1 with h1; have := hll b hf; omega
 ·refine ⟨hk13.os.trans h.k.os, hk13.tape.trans h.k.tape, hk13.output.trans h.k.output, Nat.le_trans hsz hk13.size, fun b hb hlt => (hk13.block b ⟨fun e => ?_, fun e => hb.2 (.inl e)⟩ (Nat.lt_of_lt_of_le hlt hsz)).trans (h.k.block b hb hlt)⟩
  rcases h.vb b e with h1 | h1
  ·exact hb.2 (.inr (.inr h1))
  ·omega
 ·rcases hv with h1 | ⟨g, h1, h2⟩
  ·exact h.vb b (h1.symm.trans hb)
  ·rw [hb] at h1; injection h1 with h1; exact .inr (by omega)
 ·rcases hv with h1 | ⟨g, h1, h2⟩
  ·exact h.vf b (h1.symm.trans hb) hf
  ·rw [hb] at h1; injection h1 with h1; have := h.d.lt b hf; omega
theorem JMid.base (h : JMid S w w1 p q lq F Fl F' Fl' bs v0 v xs lst' s') (bs' : Int) : JMid S w (w1.setCell ⟨q, 1, none⟩ (.int .i64 bs')) p q lq F Fl F' Fl' bs' v0 v xs lst' s' := by
 have hk : Keeps (fun b => b ≠ q) w1 (w1.setCell ⟨q, 1, none⟩ (.int .i64 bs')) := (Keeps.refl _ w1).setCell (.inr fun hn => hn rfl) _
 have hsz := h.k.size
 exact { h with
  d := h.d.keep (hk.mono fun b _ hb e => h.qf (e ▸ hb))
  c := ⟨h.c.blk.set1 bs', S.keep h.c.l (hk.mono fun b _ hb e => h.c.ql (e ▸ hb)), h.c.on, hk.own h.c.row fun b hb e => h.c.qv (e ▸ hb), h.c.ql, h.c.qv, h.c.lv⟩
  k := ⟨hk.os.trans h.k.os, hk.tape.trans h.k.tape, hk.output.trans h.k.output, Nat.le_trans hsz hk.size, fun b hb hlt => (hk.block b (fun e => hb.2 (.inl e)) (Nat.lt_of_lt_of_le hlt hsz)).trans (h.k.block b hb hlt)⟩ }
theorem JMid.go (h : JMid S w w1 p q lq F Fl F' Fl' bs v0 v xs lst' s') {st : JSt} {n : Nat} (hlen : s'.now.length = s.now.length) (hout : ∀ i, ¬ st.has i → s'.now.getD i [] = s.now.getD i []) (hcalls : s'.calls ≤ s.calls + 1000 * n) :
  JGo w w1 F F' (jfoot q Fl v0) (jfoot q Fl' v) s s' st n := by
 refine ⟨⟨fun b hb hf => ?_, fun b hb hf => ?_⟩, h.k, h.f1, h.f2, fun b hb => ?_, fun b hb => ?_, hlen, hout, hcalls⟩
 ·rcases jfoot_all.1 hf with rfl | hf | hf
  ·exact h.qf (.inl hb)
  ·exact h.ap.l b hb hf
  ·exact h.vf b hf (.inl hb)
 ·rcases hb with rfl | hb | hb
  ·exact h.qf hf
  ·exact h.ap.r b hb hf
  ·exact h.vf b hb hf
 ·rcases hb with rfl | hb | hb
  ·exact .inl (.inl rfl)
  ·rcases h.f3 b hb with h1 | h1
   ·exact .inl (.inr (.inl h1))
   ·exact .inr h1
  ·rcases h.vb b hb with h1 | h1
   ·exact .inl (.inr (.inr h1))
   ·exact .inr h1
 ·rcases h.f4 b hb with h1 | h1
  ·exact .inl (jfoot_all.2 (.inr (.inl h1)))
  ·exact .inr h1
end
theorem jkept_cut {S : Slog2} {w : World} {lq : Nat} {Fl : Foot} {lst : LSt} {s : SDev} (hr : S.rep w lq Fl lst s) {gone : Nat} (hg : gone ≤ lst.gone) : ∃ a, (lst.hist.drop gone).map (·.pos) = a ++ jkept lst ∧ a.length = lst.gone - gone ∧ (a ++ jkept lst).Pairwise (· < ·) ∧ (∀ y ∈ a, y < lst.first) ∧ ∀ y ∈ jkept lst, lst.first ≤ y := by
 have hok := S.wf hr
 have hpast := (S.past hr).2
 have hgl := hok.gone
 have e : (lst.hist.drop gone).map (·.pos) = ((lst.hist.drop gone).take (lst.gone - gone)).map (·.pos) ++ jkept lst := by
  unfold jkept
  rw [← List.map_append]
  congr 1
  have h1 : lst.hist.drop lst.gone = (lst.hist.drop gone).drop (lst.gone - gone) := by rw [List.drop_drop]; congr 1; omega
  rw [h1, List.take_append_drop]
 refine ⟨((lst.hist.drop gone).take (lst.gone - gone)).map (·.pos), e, ?_, ?_, fun y hy => ?_, fun y hy => ?_⟩
 ·rw [List.length_map, List.length_take, List.length_drop]; omega
 ·rw [← e, List.pairwise_map]
  exact hok.rise.sublist (List.drop_sublist _ _)
 ·obtain ⟨r, hr, rfl⟩ := List.mem_map.1 hy
  rw [← List.drop_take] at hr
  exact hpast r (List.mem_of_mem_drop hr)
 ·obtain ⟨r, hr, rfl⟩ := List.mem_map.1 hy
  exact hok.first r hr
theorem j64_elem : Elem Tryz.prog 106 2 (.int .i64 0) 1 8 := ⟨Tryz.underlying106, by kernel_rfl, rfl, by decide⟩
theorem posC_snoc (l : List Nat) (x : Nat) : posC l ++ [.int .i64 ((x : Nat) : Int)] = posC (l ++ [x]) := by simp [posC]
def VS (q lq : Nat) (v : Value) (x k : Nat) : Nat → World → Value → Prop
 | 0 => IsV (.pointer (some ⟨q, 0, none⟩))
 | 1 => IsV (.pointer (some ⟨q, 0, none⟩))
 | 2 => IsV (.pointer (some ⟨q, 2, none⟩))
 | 3 => IsV v
 | 4 => IsV (.pointer (some ⟨q, 0, none⟩))
 | 5 => IsV (.pointer (some ⟨q, 0, none⟩))
 | 6 => IsV (.pointer (some ⟨q, 0, none⟩))
 | 7 => IsV (.pointer (some ⟨lq, 0, none⟩))
 | 8 => IsV (.int .i64 (x : Int))
 | 9 => fun _ u => ∃ t, u = .tuple #[.int .i64 (k : Int), .bool t]
 | 10 => fun _ u => ∃ t, u = .tuple #[.int .i64 (k : Int), .bool t]
 | 11 => IsV (.int .i64 (k : Int))
 | 12 => fun _ u => ∃ t, u = .bool t
 | 13 => IsV (.int .i64 (k : Int))
 | 14 => fun _ u => ∃ t, u = .bool t
 | _ => fun _ _ => True
theorem VS_any {q lq : Nat} {v : Value} {x k : Nat} (i : Nat) (w w' : World) (u : Value) (h : VS q lq v x k i w u) : VS q lq v x k i w' u := by
 match i, h with
 | 0, h => exact h
 | 1, h => exact h
 | 2, h => exact h
 | 3, h => exact h
 | 4, h => exact h
 | 5, h => exact h
 | 6, h => exact h
 | 7, h => exact h
 | 8, h => exact h
 | 9, h => exact h
 | 10, h => exact h
 | 11, h => exact h
 | 12, h => exact h
 | 13, h => exact h
 | 14, h => exact h
 | n + 15, _ => trivial
end Go.Proofs.YticophaepapjoaaGreatDoor
namespace Go.Proofs.YticophaepapjoaaGreatDoor
open Go Go.ChangeShapes Go.WideShapes Go.ChangeAt Go.RowKit Go.Deep
section
variable {H : Type} {enc : TypeId × Value → H} {P : Program} {W : World}
theorem open_list {α : Type} [Inhabited α] (val : α → Value) (good : α → Prop) {t e : TypeId} {fuel : Nat} {cs : List Value} {x : DataW H × List MemPlace} (ht : P.underlying t = some (.slice e)) (ce : P.cellsOf e = 1)
  (hel : ∀ n v y, DataW.trod enc P W 0 (fun _ => true) true n e [v] = some y → ∃ a, v = val a ∧ good a) (hf : DataW.trod enc P W 0 (fun _ => true) true fuel t cs = some x) :
  ∃ (A : Option Addr) (cap : Nat) (l : List α), cs = [.slice A l.length cap] ∧ l.length ≤ cap ∧ cap ≤ maxLen ∧ (A = none → cap = 0) ∧ Row W A (fun b => b < W.heap.size) (l.map val) ∧ ∀ a ∈ l, good a := by
 rcases open_slice1 ht ce hf with ⟨hcs, _⟩ | ⟨ad, len, cap, m, fu, V, D, Pl, hcs, _, hl, hm, hmm, _, hcell⟩
 ·exact ⟨none, 0, [], hcs, Nat.le_refl _, Nat.zero_le _, (fun _ => rfl), Row.nil _ _ _, by simp⟩
 ·simp only [if_true] at hmm
  subst hmm
  obtain ⟨f, hpf⟩ := choose_lt (n := len) (p := fun i a => V i = val a ∧ good a) fun i hi => hel fu (V i) _ (hcell i (by omega)).2
  refine ⟨some ad, m, (List.range len).map f, by simpa using hcs, by simpa using hl, hm, (fun h => by cases h), (fun hne => ?_), fun a ha => ?_⟩
  ·have hpos : 0 < len := by
    rcases Nat.eq_zero_or_pos len with h0 | h0
    ·subst h0; simp at hne
    ·exact h0
   obtain ⟨b, off, spot⟩ := ad
   have hspot : spot = none := by simpa [Addr.add] using World.cell?_spot (hcell 0 (by omega)).1
   subst hspot
   have h0 := (hcell 0 (by omega)).1
   rw [add_plain] at h0
   refine ⟨b, off, rfl, World.block_lt_of_cell? W _ h0, fun i v hv => ?_⟩
   have hi : i < len := by
    have := (List.getElem?_eq_some_iff.1 hv).1
    simpa using this
   rw [List.getElem?_map, List.getElem?_map, List.getElem?_range hi] at hv
   simp only [Option.map_some, Option.some.injEq] at hv
   have hc := (hcell i (by omega)).1
   rw [add_plain, (hpf i hi).1] at hc
   rw [hc, hv]
  ·obtain ⟨j, hj, rfl⟩ := List.mem_map.1 ha
   exact (hpf j (List.mem_range.1 hj)).2
theorem open_bools {t e : TypeId} {fuel : Nat} {cs : List Value} {x : DataW H × List MemPlace} (ht : P.underlying t = some (.slice e)) (he : P.underlying e = some .bool) (ce : P.cellsOf e = 1) (hf : DataW.trod enc P W 0 (fun _ => true) true fuel t cs = some x) :
  ∃ (A : Option Addr) (cap : Nat) (l : List Bool), cs = [.slice A l.length cap] ∧ l.length ≤ cap ∧ cap ≤ maxLen ∧ (A = none → cap = 0) ∧ Row W A (fun b => b < W.heap.size) (l.map Value.bool) := by
 obtain ⟨A, cap, l, h1, h2, h3, h4, h5, _⟩ := open_list (α := Bool) Value.bool (fun _ => True) ht ce (fun n v y h => by
  obtain ⟨b, hb, _⟩ := DataW.trod_bool he h
  exact ⟨b, (List.cons.inj hb).1, trivial⟩) hf
 exact ⟨A, cap, l, h1, h2, h3, h4, h5⟩
theorem open_bools_whole {t e : TypeId} {v : Value} {d : DataW H} {ps : List MemPlace} {base : Nat} (ht : P.underlying t = some (.slice e)) (he : P.underlying e = some .bool) (ce : P.cellsOf e = 1)
  (hok : Value.okWide P W .any base t v) (h : DataW.Trod enc P W 0 (fun _ => true) true t v d ps) :
  ∃ (A : Option Addr) (cap : Nat) (l : List Bool), v = .slice A l.length cap ∧ l.length ≤ cap ∧ cap ≤ maxLen ∧ (A = none → cap = 0) ∧ Row W A (fun b => b < W.heap.size) (l.map Value.bool) := by
 obtain ⟨a, len, cap, rfl⟩ := okWide_slice ht hok
 obtain ⟨fuel, hf⟩ := h
 obtain ⟨A, c, l, hcs, h1, h2, h3, h4⟩ := open_bools ht he ce hf
 simp [Value.cells] at hcs
 obtain ⟨rfl, rfl, rfl⟩ := hcs
 exact ⟨_, _, l, rfl, h1, h2, h3, h4⟩
end
end Go.Proofs.YticophaepapjoaaGreatDoor
