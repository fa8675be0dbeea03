/-
  FlashIf, MtIf, MtLocs, SlogIf, Slog2, SlgChunk, InvOneIn: texts of mine, joined.
-/
import Derived.Test.YticophaepapjoaaGreatDoorAllB12
import Derived.Test.YticophaepapjoaaGreatDoorAllB03
import Derived.Test.YticophaepapjoaaGreatDoorAllB10
import Derived.Test.YticophaepapjoaaGreatDoorAllB02
import Derived.Test.YticophaepapjoaaGreatDoorProg
import Derived.WalkSpells
import Derived.Lib.Hide
import Derived.Lib.SmallJoins
import Derived.Test.YticophaepapjoaaGreatDoorAllB04
import Derived.Test.YticophaepapjoaaGreatDoorAllB06
import Derived.RangeFuncBox
import Derived.RangeFuncLeaves
import Derived.RangeFuncNested
import Derived.RangeFuncBound
import Derived.RangeFuncCalls
import Derived.Shelf.Abstract
import Derived.Shelf.RegionOpen
import Derived.OwnWalkIn
import Derived.TacticsInMore
import Derived.LoopNIn
import Derived.LoopIn
import Derived.Lib.MinMax
import Derived.Test.YticophaepapjoaaGreatDoorAllB07
import Derived.Test.YticophaepapjoaaGreatDoorAllB08
import Derived.OrdersIn
import Derived.TacticsIn
open Go.Lib renaming hid → Hd
set_option maxRecDepth 100000
set_option maxHeartbeats 8000000
namespace Go.Proofs.YticophaepapjoaaGreatDoor
open Go Go.RowKit Go.Joins
def getE (st : FSt) (k : ByteArray) (now : Int) : Ending :=
 match st.at_ k with
 | some x => if x.live now then .returned (.tuple #[.agg #[.string x.key, .string x.val, .int .i64 x.till, .bool x.gone], .bool true]) else .returned (.tuple #[.agg #[.string ⟨#[]⟩, .string ⟨#[]⟩, .int .i64 0, .bool false], .bool false])
 | none => .returned (.tuple #[.agg #[.string ⟨#[]⟩, .string ⟨#[]⟩, .int .i64 0, .bool false], .bool false])
def TextsAt (w : World) (A : Option Addr) (G : Nat → Prop) (l : List ByteArray) : Prop := Row w A G (l.map Value.string)
structure FGo (w w' : World) (F F' Fs Fs' : Foot) (s s' : SDev) (st : FSt) (n : Nat) : Prop where
 ap : Apart F' Fs'
 k : Keeps (fun b => ¬ F.M b ∧ ¬ Fs.M b) w w'
 f1 : ∀ b, F'.M b → F.M b ∨ w.heap.size ≤ b
 f2 : ∀ b, F'.I b → F.all b ∨ w.heap.size ≤ b
 f3 : ∀ b, Fs'.M b → Fs.M b ∨ w.heap.size ≤ b
 f4 : ∀ b, Fs'.I b → Fs.all b ∨ w.heap.size ≤ b
 len : s'.now.length = s.now.length
 out : ∀ i, ¬ st.has i → s'.now.getD i [] = s.now.getD i []
 calls : s'.calls ≤ s.calls + 1000 * n
structure FlashOK where
 T : World → Prop
 tk : ∀ {w w' : World}, T w → Keeps (fun _ => True) w w' → T w'
 rep : World → Nat → Nat → Foot → FSt → SDev → Prop
 disk : FSt → List (List UInt8) → Prop
 wf : ∀ {w p q F st s}, rep w p q F st s → st.Ok
 lt : ∀ {w p q F st s}, rep w p q F st s → ∀ b, F.all b → b < w.heap.size
 keep : ∀ {w w' p q F st s}, rep w p q F st s → Keeps F.all w w' → rep w' p q F st s
 other : ∀ {w p q F st s s'}, rep w p q F st s → s'.now.length = s.now.length → (∀ i, st.has i → s'.now.getD i [] = s.now.getD i []) → rep w p q F st s'
 openNew : ∀ (w : World) (p : Nat) (F : Foot) (s : SDev), DAt w p F s → T w → ∀ (i n : Nat), 3 ≤ n → n ≤ 200 → i + 8 * n ≤ s.now.length → (∀ j, i ≤ j → j < i + 8 * n → s.now.getD j [] = blank) →
  Calls Tryz.prog 67 #[.pointer (some ⟨p, 0, none⟩), .int .i64 i, .int .i64 n] w fun e w' => ∃ (q : Nat) (Fs : Foot), e = .returned (.tuple #[.pointer (some ⟨q, 0, none⟩), .int .i64 0]) ∧
   rep w' p q Fs ⟨i, n, [], 0, 1⟩ s ∧ (∀ b, Fs.all b → w.heap.size ≤ b) ∧ Keeps (fun _ => True) w w'
 openOld : ∀ (w : World) (p : Nat) (F : Foot) (s : SDev) (st : FSt), DAt w p F s → T w → disk st s.now → st.place + 8 * st.segs ≤ s.now.length → st.age ≤ 20000 →
  Calls Tryz.prog 67 #[.pointer (some ⟨p, 0, none⟩), .int .i64 st.place, .int .i64 st.segs] w fun e w' => ∃ (q : Nat) (Fs : Foot), e = .returned (.tuple #[.pointer (some ⟨q, 0, none⟩), .int .i64 0]) ∧
   rep w' p q Fs ⟨st.place, st.segs, fopened st.ents, st.gone, st.age + 1⟩ s ∧ (∀ b, Fs.all b → w.heap.size ≤ b) ∧ Keeps (fun _ => True) w w'
 put : ∀ (W w : World) (p q : Nat) (F Fs : Foot) (s : SDev) (st : FSt), DAt w p F s → rep w p q Fs st s → Apart F Fs → T W → Keeps (fun _ => True) W w → (∀ b, F.all b → W.heap.size ≤ b) → (∀ b, Fs.all b → W.heap.size ≤ b) → st.place + 8 * st.segs ≤ s.now.length → st.age ≤ 20000 → s.calls ≤ 500000000000 →
  ∀ x : It, x.may = true → x.gone = false →
  Calls Tryz.prog 14 #[.pointer (some ⟨q, 0, none⟩), .agg #[.string x.key, .string x.val, .int .i64 x.till, .bool x.gone]] w fun e w' => e = .returned (.int .i64 0) ∧ ∃ (F' Fs' : Foot) (s' : SDev) (g : Nat), DAt w' p F' s' ∧ rep w' p q Fs' ⟨st.place, st.segs, st.ents ++ [fput x], g, st.age + 1⟩ s' ∧ st.gone ≤ g ∧ FGo w w' F F' Fs Fs' s s' st 2
 putNo : ∀ (w : World) (p q : Nat) (F Fs : Foot) (s : SDev) (st : FSt), DAt w p F s → rep w p q Fs st s → Apart F Fs → T w → st.place + 8 * st.segs ≤ s.now.length → ∀ x : It, x.fits → x.may = false ∨ x.gone = true →
  Calls Tryz.prog 14 #[.pointer (some ⟨q, 0, none⟩), .agg #[.string x.key, .string x.val, .int .i64 x.till, .bool x.gone]] w fun e w' => e = .returned (.int .i64 1) ∧ Keeps (fun _ => True) w w'
 get : ∀ (w : World) (p q : Nat) (F Fs : Foot) (s : SDev) (st : FSt), DAt w p F s → rep w p q Fs st s → Apart F Fs → T w → st.place + 8 * st.segs ≤ s.now.length → ∀ (k : ByteArray) (now : Int), k.size ≤ 1000000 → -9223372036854775808 ≤ now → now < 9223372036854775808 →
  Calls Tryz.prog 25 #[.pointer (some ⟨q, 0, none⟩), .string k, .int .i64 now] w fun e w' => e = getE st k now ∧ Keeps (fun _ => True) w w'
 drop : ∀ (W w : World) (p q : Nat) (F Fs : Foot) (s : SDev) (st : FSt), DAt w p F s → rep w p q Fs st s → Apart F Fs → T W → Keeps (fun _ => True) W w → (∀ b, F.all b → W.heap.size ≤ b) → (∀ b, Fs.all b → W.heap.size ≤ b) → st.place + 8 * st.segs ≤ s.now.length → st.age ≤ 20000 → s.calls ≤ 500000000000 →
  ∀ (A : Option Addr) (c : Nat) (ks : List ByteArray), Row w A (fun b => ¬ F.all b ∧ ¬ Fs.all b) (ks.map Value.string) → ks.length ≤ c → c ≤ maxLen → ks.length ≤ 1000 → (∀ k ∈ ks, keyOk k) →
  Calls Tryz.prog 47 #[.pointer (some ⟨q, 0, none⟩), .slice A ks.length c] w fun e w' => e = .returned (.int .i64 0) ∧ ∃ (F' Fs' : Foot) (rows : List (List UInt8)) (k g : Nat), DAt w' p F' (SDev.still rows k) ∧ rep w' p q Fs' ⟨st.place, st.segs, st.ents ++ ks.map grave, g, st.age + ks.length + 1⟩ (SDev.still rows k) ∧ disk ⟨st.place, st.segs, st.ents ++ ks.map grave, g, st.age + ks.length + 1⟩ rows ∧ st.gone ≤ g ∧ FGo w w' F F' Fs Fs' s (SDev.still rows k) st (ks.length + 1)
 keys : ∀ (w : World) (p q : Nat) (F Fs : Foot) (s : SDev) (st : FSt), DAt w p F s → rep w p q Fs st s → Apart F Fs → T w → st.place + 8 * st.segs ≤ s.now.length →
  Calls Tryz.prog 30 #[.pointer (some ⟨q, 0, none⟩)] w fun e w' => ∃ (A : Option Addr) (c : Nat) (ks : List ByteArray), e = .returned (.slice A ks.length c) ∧ Rising ks ∧ (∀ k, k ∈ ks ↔ (st.at_ k).isSome = true) ∧ ks.length ≤ c ∧ c ≤ maxLen ∧ TextsAt w' A (fun b => w.heap.size ≤ b ∧ b < w'.heap.size) ks ∧ Keeps (fun _ => True) w w'
def Blank (W w : World) (p n : Nat) (X : Nat → Prop) : Prop := ∃ F, Dv W w p F (SDev.still (List.replicate n blank) 0) ∧ ∀ b, X b → ¬ F.all b ∧ b < w.heap.size
section
variable {S : FlashOK} {W w w' : World} {p q : Nat} {st : FSt} {dk : Bool} {X Y : Nat → Prop}
theorem fo_dev (hk : Kp W w) (hX : ∀ b, X b → b < w.heap.size) (n : Nat) (h1 : 1 ≤ n) (h2 : n ≤ 2048) (z : Int) (hz : z = (n : Int)) :
  Calls Tryz.prog 10 #[.int .i64 z] w fun e w' => ∃ p, e = .returned (.pointer (some ⟨p, 0, none⟩)) ∧ Blank W w' p n X ∧ Kp w w' := by
 refine (dv_new hk n h1 h2 z hz).mono ?_
 rintro e w' ⟨p, F, rfl, hd, hF, hk'⟩
 exact ⟨p, rfl, ⟨F, hd, fun b hb => ⟨fun hf => by have := hF b hf; have := hX b hb; omega, Nat.lt_of_lt_of_le (hX b hb) hk'.size⟩⟩, hk'⟩
end
structure M4 where
 boot : Int
 epoch : Int
 ready : Int
 frozen : Bool
def magg (m : M4) : Value := .agg #[.int .i64 m.boot, .int .i64 m.epoch, .int .i64 m.ready, .bool m.frozen]
def mcells (m : M4) : Array Value := #[.int .i64 m.boot, .int .i64 m.epoch, .int .i64 m.ready, .bool m.frozen]
def m0 : M4 := ⟨0, 0, 0, false⟩
def small12 (m : M4) : Bool := decide (0 ≤ m.boot) && (decide (m.boot ≤ 1099511627776) && (decide (0 ≤ m.epoch) && (decide (m.epoch ≤ 1099511627776) && (decide (0 ≤ m.ready) && decide (m.ready ≤ 1099511627776)))))
def mayB (m : M4) : Bool := small12 m && (((m.ready == 0) && !m.frozen) || decide (m.epoch < m.ready))
def overB (n m : M4) : Bool := decide (n.boot ≤ m.boot) && decide (n.epoch ≤ m.epoch)
structure M4.Fits (m : M4) : Prop where
 b1 : -9223372036854775808 ≤ m.boot
 b2 : m.boot < 9223372036854775808
 e1 : -9223372036854775808 ≤ m.epoch
 e2 : m.epoch < 9223372036854775808
 r1 : -9223372036854775808 ≤ m.ready
 r2 : m.ready < 9223372036854775808
def Four (w : World) (g : Nat) (m : M4) : Prop := w.cell? ⟨g, 0, none⟩ = some (.int .i64 m.boot) ∧ w.cell? ⟨g, 1, none⟩ = some (.int .i64 m.epoch) ∧ w.cell? ⟨g, 2, none⟩ = some (.int .i64 m.ready) ∧ w.cell? ⟨g, 3, none⟩ = some (.bool m.frozen)
def MBlk (w : World) (g : Nat) (m : M4) : Prop := w.heap[g]? = some (.cells (mcells m) 32 (0, 0))
section
variable {w w' : World} {g : Nat} {m : M4} {F : Nat → Prop}
theorem MBlk.lt (h : MBlk w g m) : g < w.heap.size := (Array.getElem?_eq_some_iff.1 h).1
theorem MBlk.keep (h : MBlk w g m) (hk : Keeps F w w') (hq : F g) : MBlk w' g m := (hk.block g hq h.lt).trans h
theorem MBlk.fz (h : MBlk w g m) (i : Nat) : w.frozen? ⟨g, i, none⟩ = false := unfrozen_of_block h i
theorem MBlk.four (h : MBlk w g m) : Four w g m := ⟨cell_of_block h 0, cell_of_block h 1, cell_of_block h 2, cell_of_block h 3⟩
theorem MBlk.new (w : World) (m : M4) (g : Nat) (hg : g = w.heap.size) : MBlk (w.alloc (.cells (mcells m) 32)) g m := by subst hg; exact heap_alloc_new w _
theorem MBlk.set4 (h : MBlk w g m) (x : M4) : MBlk ((((w.setCell ⟨g, 0, none⟩ (.int .i64 x.boot)).setCell ⟨g, 1, none⟩ (.int .i64 x.epoch)).setCell ⟨g, 2, none⟩ (.int .i64 x.ready)).setCell ⟨g, 3, none⟩ (.bool x.frozen)) g x :=
 (block_setCell (block_setCell (block_setCell (block_setCell h _) _) _) _).trans rfl
end
section
variable {o : Oper} {a : Act} {w : World} {Q : Exit → Act → World → Prop} {x y z : Operand}
theorem kp_ldM {g : Nat} {m : M4} (h : Four w g m) (ho : o.op = .load 32 x) (hx : a.eval x = .pointer (some ⟨g, 0, none⟩)) : o.wp Tryz.prog a w (fun a' w' => ∃ v, a' = a.put o.dst v ∧ Kp w w' ∧ IsV (magg m) w' v) Q := by
 obtain ⟨c0, c1, c2, c3⟩ := h
 refine kp_yield (v := magg m) (w' := w) ?_ (Keeps.refl _ _) rfl
 generalize a.eval = ρ at hx ⊢
 unfold execOp magg
 rw [ho]
 go_simp
theorem kp_call12 {F : FuncId} {args : Array Value} {v : Value} (e : (execOp a.eval o).run Tryz.prog w = .ok (.enter F args) w) (hc : Calls Tryz.prog F args w fun e w' => e = .returned v ∧ Kp w w') :
  o.wp Tryz.prog a w (fun a' w' => ∃ v', a' = a.put o.dst v' ∧ Kp w w' ∧ IsV v w' v') Q := by
 refine kp_enter e hc ?_
 rintro e w' ⟨rfl, hk⟩
 exact ⟨_, rfl, hk, rfl⟩
theorem kp_eqB12 {m n b : Bool} (hb : (m == n) = b) (ho : o.op = .binOp .eql 4 x y 4) (hx : a.eval x = .bool m) (hy : a.eval y = .bool n) : o.wp Tryz.prog a w (fun a' w' => ∃ v, a' = a.put o.dst v ∧ Kp w w' ∧ IsV (.bool b) w' v) Q := by
 subst hb
 refine kp_yield (v := .bool (m == n)) (w' := w) ?_ (Keeps.refl _ _) rfl
 generalize a.eval = ρ at hx hy ⊢
 unfold execOp
 rw [ho]
 go_simp
theorem kp_not12 {b c : Bool} (hc : (!b) = c) (ho : o.op = .unOp .not 4 x) (hx : a.eval x = .bool b) : o.wp Tryz.prog a w (fun a' w' => ∃ v, a' = a.put o.dst v ∧ Kp w w' ∧ IsV (.bool c) w' v) Q := by
 subst hc
 refine kp_yield (v := .bool (!b)) (w' := w) ?_ (Keeps.refl _ _) rfl
 generalize a.eval = ρ at hx ⊢
 unfold execOp
 rw [ho]
 go_simp
theorem one_enter12 {P : Program} {X : World → Value → Prop} {f : FuncId} {args : Array Value} {C : Ending → World → Prop} (e : (execOp a.eval o).run P w = .ok (.enter f args) w) (hc : Calls P f args w C)
  (hC : ∀ e w', C e w' → ∃ v, e = .returned v ∧ X w' v) : o.wp P a w (fun a' w' => ∃ v, a' = a.put o.dst v ∧ X w' v) Q := by
 unfold Oper.wp
 rw [e]
 refine hc.mono fun e w' h => ?_
 obtain ⟨v, rfl, hv⟩ := hC e w' h
 exact ⟨v, rfl, hv⟩
end
def RecsAt (w : World) (A : Option Addr) (G : Nat → Prop) (l : List (Nat × List UInt8)) : Prop :=
 l ≠ [] → ∃ b o, A = some ⟨b, o, none⟩ ∧ G b ∧ ∀ i (hi : i < l.length), w.cell? ⟨b, o + i * 2, none⟩ = some (.int .i64 ((l[i].1 : Nat) : Int)) ∧
  ∃ B c, w.cell? ⟨b, o + i * 2 + 1, none⟩ = some (.slice B l[i].2.length c) ∧ Row w B G (bcells l[i].2)
structure SlogOK where
 T : World → Prop
 tk : ∀ {w w' : World}, T w → Keeps (fun _ => True) w w' → T w'
 rep : World → Nat → Foot → LSt → SDev → Prop
 disk : LSt → List (List UInt8) → Prop
 wf : ∀ {w q F st s}, rep w q F st s → st.Ok
 lt : ∀ {w q F st s}, rep w q F st s → ∀ b, F.all b → b < w.heap.size
 keep : ∀ {w w' q F st s}, rep w q F st s → Keeps F.all w w' → rep w' q F st s
 other : ∀ {w q F st s s'}, rep w q F st s → s'.now.length = s.now.length → (∀ i, st.has i → s'.now.getD i [] = s.now.getD i []) → rep w q F st s'
 diskKeep : ∀ {st rows rows'}, disk st rows → rows'.length = rows.length → (∀ i, st.has i → rows'.getD i [] = rows.getD i []) → disk st rows'
 openNew : ∀ (w : World) (p : Nat) (F : Foot) (s : SDev), DAt w p F s → T w → ∀ (i n : Nat), 3 ≤ n → n ≤ 200 → i + 8 * n ≤ s.now.length → (∀ j, i ≤ j → j < i + 8 * n → s.now.getD j [] = blank) →
  Calls Tryz.prog 96 #[.pointer (some ⟨p, 0, none⟩), .int .i64 i, .int .i64 n] w fun e w' => ∃ (q : Nat) (Fs : Foot) (f x : Nat), e = .returned (.tuple #[.pointer (some ⟨q, 0, none⟩), .int .i64 0]) ∧
   rep w' q Fs ⟨p, i, n, [], 0, f, x⟩ s ∧ x ≤ 1048576 ∧ (∀ b, Fs.all b → w.heap.size ≤ b) ∧ Keeps (fun _ => True) w w'
 openOld : ∀ (w : World) (p : Nat) (F : Foot) (s : SDev) (st : LSt), DAt w p F s → T w → disk st s.now → st.place + 8 * st.segs ≤ s.now.length → st.next ≤ 137438953472 →
  Calls Tryz.prog 96 #[.pointer (some ⟨p, 0, none⟩), .int .i64 st.place, .int .i64 st.segs] w fun e w' => ∃ (q : Nat) (Fs : Foot) (f x : Nat), e = .returned (.tuple #[.pointer (some ⟨q, 0, none⟩), .int .i64 0]) ∧
   rep w' q Fs ⟨p, st.place, st.segs, opened st.hist, st.gone, f, x⟩ s ∧ x ≤ st.next + 1048576 ∧ (∀ b, Fs.all b → w.heap.size ≤ b) ∧ Keeps (fun _ => True) w w'
 append : ∀ (W w : World) (p q : Nat) (F Fs : Foot) (s : SDev) (st : LSt), DAt w p F s → rep w q Fs st s → st.dev = p → Apart F Fs → T W → Keeps (fun _ => True) W w → (∀ b, F.all b → W.heap.size ≤ b) → (∀ b, Fs.all b → W.heap.size ≤ b) → st.place + 8 * st.segs ≤ s.now.length → s.calls ≤ 549755813888 → st.next ≤ 137438953472 →
  ∀ (A : Option Addr) (c : Nat) (G : Nat → Prop) (l : List UInt8), Row w A G (bcells l) → (∀ b, G b → ¬ F.all b) → (∀ b, G b → ¬ Fs.all b) → l.length ≤ c → c ≤ maxLen → 1 ≤ l.length → l.length ≤ 300 →
  Calls Tryz.prog 71 #[.pointer (some ⟨q, 0, none⟩), .slice A l.length c] w fun e w' => ∃ (x : Nat) (F' Fs' : Foot) (s' : SDev) (g f n : Nat), e = .returned (.tuple #[.int .i64 (x : Int), .int .i64 0]) ∧ DAt w' p F' s' ∧ rep w' q Fs' ⟨p, st.place, st.segs, st.hist ++ [⟨x, l, 0⟩], g, f, n⟩ s' ∧ st.gone ≤ g ∧ st.next ≤ x ∧ n ≤ st.next + 1048576 ∧
   s'.now.length = s.now.length ∧ (∀ i, ¬ st.has i → s'.now.getD i [] = s.now.getD i []) ∧ s'.calls ≤ s.calls + 1000 ∧
   Apart F' Fs' ∧ Keeps (fun b => ¬ F.M b ∧ ¬ Fs.M b) w w' ∧ (∀ b, F'.M b → F.M b ∨ w.heap.size ≤ b) ∧ (∀ b, F'.I b → F.all b ∨ w.heap.size ≤ b) ∧ (∀ b, Fs'.M b → Fs.M b ∨ w.heap.size ≤ b) ∧ (∀ b, Fs'.I b → Fs.all b ∨ w.heap.size ≤ b)
 flush : ∀ (W w : World) (p q : Nat) (F Fs : Foot) (s : SDev) (st : LSt), DAt w p F s → rep w q Fs st s → st.dev = p → Apart F Fs → T W → Keeps (fun _ => True) W w → (∀ b, F.all b → W.heap.size ≤ b) → (∀ b, Fs.all b → W.heap.size ≤ b) → st.place + 8 * st.segs ≤ s.now.length → s.calls ≤ 549755813888 →
  Calls Tryz.prog 46 #[.pointer (some ⟨q, 0, none⟩)] w fun e w' => e = .returned (.int .i64 0) ∧ ∃ (F' Fs' : Foot) (rows : List (List UInt8)) (k : Nat), DAt w' p F' (SDev.still rows k) ∧ rep w' q Fs' st (SDev.still rows k) ∧ disk st rows ∧
   rows.length = s.now.length ∧ (∀ i, ¬ st.has i → rows.getD i [] = s.now.getD i []) ∧ k ≤ s.calls + 1000 ∧
   Apart F' Fs' ∧ Keeps (fun b => ¬ F.M b ∧ ¬ Fs.M b) w w' ∧ (∀ b, F'.M b → F.M b ∨ w.heap.size ≤ b) ∧ (∀ b, F'.I b → F.all b ∨ w.heap.size ≤ b) ∧ (∀ b, Fs'.M b → Fs.M b ∨ w.heap.size ≤ b) ∧ (∀ b, Fs'.I b → Fs.all b ∨ w.heap.size ≤ b)
 read : ∀ (w : World) (p q : Nat) (F Fs : Foot) (s : SDev) (st : LSt), DAt w p F s → rep w q Fs st s → st.dev = p → Apart F Fs → T w → st.place + 8 * st.segs ≤ s.now.length → ∀ (x : Nat) (l : List UInt8), (x, l) ∈ st.recs →
  Calls Tryz.prog 85 #[.pointer (some ⟨q, 0, none⟩), .int .i64 (x : Int)] w fun e w' => ∃ A c, e = .returned (.tuple #[.slice A l.length c, .int .i64 0]) ∧ l.length ≤ c ∧ c ≤ maxLen ∧ Row w' A (fun b => w.heap.size ≤ b ∧ b < w'.heap.size) (bcells l) ∧ Mine w' .u8 A l.length ∧ Keeps (fun _ => True) w w'
theorem costs_append (a b : List LRec) : costs (a ++ b) = costs a + costs b := by simp [costs]
def RecsC (w : World) (A : Option Addr) (G : Nat → Prop) (l : List (Nat × List UInt8)) : Prop :=
 l ≠ [] → ∃ b o, A = some ⟨b, o, none⟩ ∧ G b ∧ ∀ i (hi : i < l.length), w.cell? ⟨b, o + i * 2, none⟩ = some (.int .i64 ((l[i].1 : Nat) : Int)) ∧
  ∃ B c, w.cell? ⟨b, o + i * 2 + 1, none⟩ = some (.slice B l[i].2.length c) ∧ l[i].2.length ≤ c ∧ c ≤ maxLen ∧ Row w B G (bcells l[i].2)
structure Slog2 extends SlogOK where
 past : ∀ {w : World} {q : Nat} {F : Foot} {st : LSt} {s : SDev}, rep w q F st s → st.first ≤ st.next ∧ ∀ r ∈ st.hist.take st.gone, r.pos < st.first
 first2 : ∀ (w : World) (q : Nat) (F : Foot) (s : SDev) (st : LSt), rep w q F st s → Calls Tryz.prog 70 #[.pointer (some ⟨q, 0, none⟩)] w fun e w' => e = .returned (.int .i64 (st.first : Int)) ∧ w' = w
 all2 : ∀ (w : World) (p q : Nat) (F Fs : Foot) (s : SDev) (st : LSt), DAt w p F s → rep w q Fs st s → st.dev = p → T w → st.place + 8 * st.segs ≤ s.now.length →
  Calls Tryz.prog 97 #[.pointer (some ⟨q, 0, none⟩)] w fun e w' => ∃ A c, e = .returned (.slice A st.recs.length c) ∧ st.recs.length ≤ c ∧ c ≤ maxLen ∧ RecsC w' A (fun b => w.heap.size ≤ b ∧ b < w'.heap.size) st.recs ∧ Keeps (fun _ => True) w w'
 next2 : ∀ (w : World) (q : Nat) (F : Foot) (s : SDev) (st : LSt), rep w q F st s → Calls Tryz.prog 52 #[.pointer (some ⟨q, 0, none⟩)] w fun e w' => e = .returned (.int .i64 (st.next : Int)) ∧ w' = w
end Go.Proofs.YticophaepapjoaaGreatDoor
namespace Go.Proofs.YticophaepapjoaaGreatDoor
open Go Go.RowKit Go.Joins Go.Shelf
attribute [local go_sem] Oper.semAt_some
def chunks (len : Nat) : Nat := (len + 52) / 53
def chLen (len k : Nat) : Nat := min 53 (len - 53 * k)
def encCh (g o len k : Nat) : Array Value := #[.slice (some ⟨g, o + 53 * k, none⟩) (chLen len k) (chLen len k)]
def KpB (Bs Bn : Nat) (W W' : World) : Prop := Keeps (fun b => b = Bs ∨ b = Bn) W W'
theorem chunk1_in (F : Fence) (n : Nat) (hfn : F.fn 172) (hro : F.round = none) (hn : 1 ≤ n) (l Bs Bn g o len cap : Nat) (hlc : len ≤ cap) (hlm : len ≤ 1000000000000) (J Jx : List Nat → World → Prop) (hJd : ∀ s W, J s W → J s W.drew)
  (hY : ∀ pre x W, J pre W → pre.length < chunks len → YieldAt F (n - 1) Tryz.prog l (encCh g o len x) W fun e W' =>
   (e = .returned (.bool true) ∧ J (pre ++ [x]) W' ∧ KpB Bs Bn W W') ∨ (e = .returned (.bool false) ∧ Jx (pre ++ [x]) W'))
  (W : World) (hBs : W.cell? ⟨Bs, 0, none⟩ = some (.slice (some ⟨g, o, none⟩) len cap)) (hBn : W.cell? ⟨Bn, 0, none⟩ = some (.int .i64 53)) (h0 : J [] W) :
  CallsIn F n Tryz.prog 172 #[.func (.yield l) #[] #[], .pointer (some ⟨Bs, 0, none⟩), .pointer (some ⟨Bn, 0, none⟩)] W fun e W' => (∃ v, e = .returned v) ∧
   ((∃ ys, ys = List.range (chunks len) ∧ J ys W') ∨ (∃ pre, (∃ k, k ≤ chunks len ∧ pre = List.range k) ∧ Jx pre W')) := by
 refine callsIn_of_wp Tryz.func172 rfl hfn ?_ hro
 simp only [Tryz.ntmps172, List.size_toArray, List.length_cons, List.length_nil, Nat.reduceAdd, Nat.reduceSub, Array.replicate_succ, Array.replicate_zero, List.push_toArray, List.append_toArray, List.nil_append, List.cons_append]
 have HY := Hd hY
 have HBs := Hd hBs
 have HBn := Hd hBn
 clear hY hBs hBn
 gi_wp2
 gi_loopw [4] (fun vi wr => ∃ k i : Nat, RowKit.Hid (i = 53 * k) ∧ k ≤ chunks len ∧ vi = .int .i64 i ∧ J (List.range k) wr ∧ KpB Bs Bn W wr)
  (fun vi _ => len + 53 - (intOf vi).toNat)
 case atStart => exact ⟨0, 0, Hd rfl, Nat.zero_le _, rfl, h0, Keeps.refl _ _⟩
 case round =>
  obtain ⟨k, i, hi, hk, rfl, hJs, hkp⟩ := hrel
  have cs := hkp.cell HBs.out (.inl rfl)
  have cn := hkp.cell HBn.out (.inr rfl)
  by_cases hlt : k < chunks len
  ·have hil : i < len := by have := hi.out; unfold chunks at hlt; omega
   obtain ⟨e, he⟩ : ∃ e, chLen len k = e := ⟨_, rfl⟩
   obtain ⟨fn, tmps, assign, body, hy, hR⟩ := HY.out _ k wr.drew (hJd _ _ hJs) (by rw [List.length_range]; exact hlt)
   have hee : e = min 53 (len - i) := by rw [← he, hi.out]; rfl
   have hHI := Hd hi.out
   have hy' : (Instr.yield l #[.slice (some ⟨g, o + i, none⟩) e e]).run Tryz.prog wr.drew = .ok (.round l fn tmps assign body) wr.drew := by
    have h := hy
    unfold encCh at h
    rw [he, ← hi.out] at h
    exact h
   have hmin : min (53 : Int) ((len - i : Nat) : Int) = (e : Int) := by omega
   have hne : ¬ cap = i := by omega
   have h1 : i ≤ len := by omega
   have h2 : i ≤ cap := by omega
   have h3 : i + e ≤ cap := by omega
   have h4 : i ≤ i + e := by omega
   have HEE := Hd hee
   have HK := Hd hkp
   clear hy he hee hi hkp
   gi_wp2
   gi_region
   all_goals gi_wp2
   all_goals refine hR.mono ?_
   all_goals rintro e' W3 (⟨rfl, hJ3, hk3⟩ | ⟨rfl, hJx3⟩)
   all_goals first
    | (have cs := hk3.cell cs (.inl rfl)
       have cn := hk3.cell cn (.inr rfl)
       gi_wp2
       go_roundw
       case rel => exact ⟨k + 1, i + 53, Hd (by have := hHI.out; omega), by omega, by go_num, by rw [List.range_succ]; exact hJ3, HK.out.drew.trans hk3⟩
       case measure => simp [intOf]; omega)
    | (gi_wp2
       refine bodyPost_ret (results_none rfl _ _ _) rfl ?_
       exact ⟨⟨_, rfl⟩, .inr ⟨_, ⟨k + 1, by omega, (List.range_succ).symm⟩, hJx3⟩⟩)
  ·obtain rfl : k = chunks len := by omega
   have hil : ¬ (i : Int) < (len : Int) := by have := hi.out; unfold chunks at this; omega
   gi_wp2
   go_end0
   exact ⟨⟨_, rfl⟩, .inl hJs⟩
end Go.Proofs.YticophaepapjoaaGreatDoor
namespace Go.Proofs.YticophaepapjoaaGreatDoor
open Go Go.RowKit
section
variable {P : Program} {ops : Array Oper} {Q : Exit → Act → World → Prop} {V : Nat → World → Value → Prop} {a0 : Act} {w0 : World} {G : Nat → Option Bool} {St : Bool → World → Prop} {Rk : World → World → Prop} {k : Nat}
theorem rowsIn_wide' {n : Nat} {row : String} {args : Array Value} {w : World} {R : Value → World → Prop} (h : Rows P row args w R) : RowsIn Fence.wide n P row args w R := fun c cs _ =>
 let ⟨v, w', r, s⟩ := h c cs
 ⟨v, w', r, stepsIn_wide.2 s⟩
theorem wpIn_round_of_wp {n l : Nat} {o : Oper} {a : Act} {w : World} {K : Act → World → Prop} (hd : ∀ c, o.op ≠ .defer c) (hh : o.wp P a w K Q) : o.wpIn (Fence.wide.inRound l) n P a w K Q := by
 refine ⟨fun _ _ => trivial, ?_⟩
 show o.uponIn (Fence.wide.inRound l) n P a K Q ((o.semAt (some l) a.eval).run P w)
 rw [Oper.semAt_some l a.eval o hd]
 unfold Oper.wp at hh
 have hdep : ((Fence.wide.inRound l).depth.isSome = true → 1 ≤ n) := fun h => by cases h
 generalize (execOp a.eval o).run P w = r at hh ⊢
 cases r with
 | ok x w' =>
  cases x with
  | value v => exact hh
  | skip => exact hh
  | «defer» d => exact hh
  | enter f args => exact ⟨hdep, CallsIn.inRound l (callsIn_wide.2 hh)⟩
  | row row args => exact ⟨hdep, rowsIn_wide' hh⟩
  | _ => exact hh.elim
 | halt x w' => cases x <;> exact hh
theorem wpIn_region_one {n lp id : Nat} {w : World} (k : Nat) (St : Bool → World → Prop) (Rk : World → World → Prop) (G : Nat → Option Bool) (hm : P.follows .mixedOrders = true) (hnd : ∀ o ∈ ops, ∀ c, o.op ≠ .defer c)
  (hV : ∀ i w w' v, Kp w w' → V i w v → V i w' v) (hS : ∀ b w w', Kp w w' → St b w → St b w') (hVk : ∀ i, i ≠ k → ∀ w w' v, Rk w w' → V i w v → V i w' v)
  (hfit : fitsG G ops a0.tmps.size = true) (hk : k < ops.size) (hG : ∀ g c, G g = some c → ∀ w v, V g w v → v = .bool c) (hU : ∀ (i : Nat) (o : Oper), ops[i]? = some o → wantsG G o = false → i ≠ k ∧ V i = IsV undef) (hw : St false w.drew)
  (loc : ∀ (i : Nat) (o : Oper), ops[i]? = some o → wantsG G o = true → ∀ a w, Leans (fun _ _ => True) V ops a0 w0 i a w →
   if i = k then (St false w → o.wp P a w (fun a' w' => ∃ v, a' = a.put o.dst v ∧ Rk w w' ∧ St true w' ∧ V i w' v) Q)
   else (∀ b, St b w → (∀ js, chained ops k i js = true → b = true) → o.wp P a w (fun a' w' => ∃ v, a' = a.put o.dst v ∧ Kp w w' ∧ V i w' v) Q))
  (done : ∀ vs w, St true w → vs.length = ops.size → (∀ i d, dstOf ops i = some d → V i w (vs.getD i undef)) → Q .normal (putAll a0 (ops.toList.map (·.dst)) vs) w) :
  (Code.region id ops true).wpIn (Fence.wide.inRound lp) n P Q a0 w := by
 have look : ∀ (i : Nat) (o : Oper), ops[i]? = some o → (∀ g b, o.guard = some (g, b) → waits ops i g = true ∧ (dstOf ops g).isSome = true ∧ ((G g).isSome = true ∨ ∃ o', ops[g]? = some o' ∧ wantsG G o' = false)) ∧ (∀ e ∈ o.after, Region.binds .any e = true → e.on < i) ∧ (∀ d, o.dst = some d → d < a0.tmps.size) ∧ (∀ j, i ≠ j → ∀ d, o.dst = some d → dstOf ops j ≠ some d) := by
  intro i o ho
  have hi : i < ops.size := (Array.getElem?_eq_some_iff.1 ho).1
  have h := List.all_eq_true.1 hfit i (List.mem_range.2 hi)
  simp only [ho, Option.all_some, Bool.and_eq_true] at h
  obtain ⟨⟨⟨h1, h2⟩, h3⟩, h4⟩ := h
  refine ⟨fun g b hgb => ?_, fun e he hb => ?_, fun d hd => ?_, fun j hj d hd hx => ?_⟩
  ·rw [hgb] at h1
   simp only [Bool.and_eq_true, Bool.or_eq_true] at h1
   refine ⟨h1.1.1, h1.1.2, h1.2.imp (fun hx => hx) fun hx => ?_⟩
   cases ho' : ops[g]? with
   | none => rw [ho'] at hx; cases hx
   | some o' =>
    rw [ho'] at hx
    exact ⟨o', rfl, by simpa using hx⟩
  ·have := Array.all_eq_true_iff_forall_mem.1 h2 e he
   simpa [hb] using this
  ·rw [hd] at h3; simpa using h3
  ·have hjs : j < ops.size := by
    rcases Nat.lt_or_ge j ops.size with h' | h'
    ·exact h'
    ·simp [dstOf, Array.getElem?_eq_none h'] at hx
   have := List.all_eq_true.1 h4 j (List.mem_range.2 hjs)
   rw [hd, hx] at this
   simp [hj] at this
 have some_of : ∀ i d, dstOf ops i = some d → ∃ o, ops[i]? = some o ∧ o.dst = some d := fun i d h => by
  unfold dstOf at h
  cases ho : ops[i]? with
  | none => simp [ho] at h
  | some o => exact ⟨o, rfl, by simpa [ho] using h⟩
 have hd : ∀ i j d, dstOf ops i = some d → dstOf ops j = some d → i = j := by
  intro i j d hi hj
  obtain ⟨o, ho, hd⟩ := some_of i d hi
  exact Classical.byContradiction fun hne => (look i o ho).2.2.2 j hne d hd hj
 have hb : ∀ i d, dstOf ops i = some d → d < a0.tmps.size := by
  intro i d hi
  obtain ⟨o, ho, hd⟩ := some_of i d hi
  exact (look i o ho).2.2.1 d hd
 have hac : ∀ i j, waits ops i j = true → j < i := by
  intro i j h
  obtain ⟨o, ho, e, he, hb, rfl⟩ := (waits_iff i j).1 h
  exact (look i o ho).2.1 e he hb
 have fin : ∀ (l : Array Bool) (a : Act) (w' : World), (∀ i, i < ops.size → l.getD i false = true) → StandsAt (fun _ _ => True) V ops a0 w0 l a w' → St (l.getD k false) w' → Q .normal a w' := by
  intro l a w' hall h hs
  rw [hall k hk] at hs
  have hlen : ((ops.toList.map (·.dst)).map (slotOf a)).length = ops.size := by simp
  have hq := done ((ops.toList.map (·.dst)).map (slotOf a)) w' hs hlen (fun i d hid => by
   obtain ⟨o, ho, hd⟩ := some_of i d hid
   have hi : i < ops.size := (Array.getElem?_eq_some_iff.1 ho).1
   have hv := h.val i d (hall i hi) hid
   have e : ((ops.toList.map (·.dst)).map (slotOf a)).getD i undef = a.tmps.getD d undef := by
    rw [List.getD_eq_getElem?_getD, List.getElem?_map, List.getElem?_map, Array.getElem?_toList, ho]
    simp [hd, slotOf]
   rw [e]; exact hv)
  rw [← putAll_of a _ a0 h.defers h.tmps ?_ ?_] at hq
  ·exact hq
  ·intro d hd
   obtain ⟨o, ho, hod⟩ := List.mem_map.1 hd
   obtain ⟨i, hi, rfl⟩ := List.getElem_of_mem ho
   exact (look i ops[i] (by simp at hi; simp [hi])).2.2.1 d (by simpa using hod)
  ·intro t ht
   refine h.old t fun i _ hid => ht ?_
   obtain ⟨o, ho, hd⟩ := some_of i t hid
   refine List.mem_map.2 ⟨o, ?_, hd⟩
   rw [← Array.mem_def]
   exact Array.mem_of_getElem? ho
 have go : ∀ (fuel : Nat) (l : Array Bool) (a : Act) (w : World), (leftOver ops.size l).length ≤ fuel → StandsAt (fun _ _ => True) V ops a0 w0 l a w → St (l.getD k false) w → wpAnyIn (Fence.wide.inRound lp) n P .any ops Q fuel l a w := by
  intro fuel
  induction fuel with
  | zero =>
   intro l a w hf h hs
   have hn : leftOver ops.size l = [] := List.eq_nil_of_length_eq_zero (by omega)
   have hnot : ∀ i, i < ops.size → l.getD i false = true := fun i hi => by
    have hm : i ∉ leftOver ops.size l := by rw [hn]; simp
    have hl' : i < l.size := by rw [h.size]; exact hi
    unfold leftOver at hm
    simp only [List.mem_filter, List.mem_range, hi, true_and, Array.getD, hl'] at hm ⊢
    simpa using hm
   refine ⟨?_, fin l a w hnot h hs⟩
   refine List.eq_nil_iff_forall_not_mem.2 fun i hi => ?_
   have hm := (mem_ready.1 hi).1
   have hx := getD_false_of hm
   rw [hnot i (by rw [← h.size]; exact hx.2)] at hx
   exact absurd hx.1 (by simp)
  | succ fuel ih =>
   intro l a w hf h hs
   refine ⟨fun hr => fin l a w (all_listed hac h.size hr) h hs, fun i hi => ?_⟩
   obtain ⟨hl, o, ho, hall⟩ := mem_ready.1 hi
   have hwt : ∀ j, waits ops i j = true → l.getD j false = true := fun j hj => by
    obtain ⟨o', ho', e, he, hb', rfl⟩ := (waits_iff i j).1 hj
    rw [ho] at ho'; cases ho'
    exact hall e he hb'
   have hdst : o.dst = dstOf ops i := by simp [dstOf, ho]
   have hleft : (leftOver ops.size (l.setIfInBounds i true)).length ≤ fuel := by
    have := leftOver_set ops.size l i (by rw [← h.size]; exact (getD_false_of hl).2) hl
    omega
   have hwant := wanted_is (h.leans hl hwt) (fun j d hj => by rw [h.tmps]; exact hb j d hj) (look i o ho).1 hG (fun i o ho hw => (hU i o ho hw).2)
   have hset : ∀ (hne : i ≠ k), (l.setIfInBounds i true).getD k false = l.getD k false := fun hne => getD_set_ne false hne
   have hloc := loc i o ho
   unfold wpOpIn
   cases hwo : wantsG G o
   ·rw [hwo] at hwant
    obtain ⟨hne, hu⟩ := hU i o ho hwo
    simp only [ho, hwant, Bool.false_eq_true, if_false]
    rw [hdst]
    exact ⟨fun _ _ => trivial, ih _ _ _ hleft (h.step' trivial (fun _ => trivial) hd hb hl (fun _ _ _ hh => hh) hwt (by rw [hu]; rfl)) (by rw [hset hne]; exact hs)⟩
   ·rw [hwo] at hwant
    simp only [ho, hwant, if_true]
    have hlc := hloc hwo a w (h.leans hl hwt)
    by_cases hik : i = k
    ·subst hik
     rw [if_pos rfl] at hlc
     have hlf := (getD_false_of hl).1
     rw [hlf] at hs
     refine wpIn_round_of_wp (hnd o (Array.mem_of_getElem? ho)) (Oper.wp_mono (fun a' w' hk' => ?_) (hlc hs))
     obtain ⟨v, rfl, hr, hst, hv⟩ := hk'
     rw [hdst]
     refine ih _ _ _ hleft (h.step' trivial (fun _ => trivial) hd hb hl (fun j u hj hu => ?_) hwt hv) (by
      have : (l.setIfInBounds i true).getD i false = true := by simp [(getD_false_of hl).2]
      rw [this]; exact hst)
     exact hVk j (fun e => by subst e; rw [hj] at hlf; cases hlf) w w' u hr hu
    ·rw [if_neg hik] at hlc
     refine wpIn_round_of_wp (hnd o (Array.mem_of_getElem? ho)) (Oper.wp_mono (fun a' w' hk' => ?_) (hlc _ hs (fun js hbh => chained_listed h js i hwt hbh)))
     obtain ⟨v, rfl, hr, hv⟩ := hk'
     rw [hdst]
     exact ih _ _ _ hleft (h.step' trivial (fun _ => trivial) hd hb hl (fun j u _ hu => hV j w w' u hr hu) hwt hv) (by rw [hset hik]; exact hS _ _ _ hr hs)
 refine wpIn_region_any hm ?_
 refine go ops.size _ a0 _ ?_ ?_ ?_
 ·refine Nat.le_trans (List.length_filter_le _ _) ?_
  simp
 ·refine ⟨by simp, trivial, rfl, rfl, fun _ _ => rfl, ?_, ?_⟩
  ·intro i d h; exact absurd h (by simp [Array.getD])
  ·intro i j h; exact absurd h (by simp [Array.getD])
 ·have : (Array.replicate ops.size false).getD k false = false := by simp [Array.getD]
  rw [this]; exact hw
end
end Go.Proofs.YticophaepapjoaaGreatDoor
