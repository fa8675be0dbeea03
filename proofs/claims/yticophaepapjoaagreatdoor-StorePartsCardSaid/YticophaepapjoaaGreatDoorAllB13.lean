/-
  JrIf, ItemLive, ItemEnc: texts of mine, joined.
-/
import Derived.Test.YticophaepapjoaaGreatDoorAllB12
import Derived.Test.YticophaepapjoaaGreatDoorAllB10
import Derived.Test.YticophaepapjoaaGreatDoorAllB02
import Derived.Test.YticophaepapjoaaGreatDoorAllB03
open Go.Lib renaming hid → Hd
set_option maxRecDepth 100000
set_option maxHeartbeats 8000000
namespace Go.Proofs.YticophaepapjoaaGreatDoor
open Go Go.RowKit Go.Joins
structure JSt where
 place : Nat
 segs : Nat
 keys : List ByteArray
 base : Nat
 kept : Nat
 age : Nat
def JSt.has (st : JSt) (i : Nat) : Prop := st.place ≤ i ∧ i < st.place + 8 * st.segs
structure JSt.Ok (st : JSt) : Prop where
 segs : 20 ≤ st.segs ∧ st.segs ≤ 200
 one : ∀ k ∈ st.keys, keyOk k
 base : st.base ≤ st.keys.length - st.kept
def MarksAt (w : World) (A : Option Addr) (G : Nat → Prop) (sq : Nat) (l : List ByteArray) : Prop := ∀ i (h : i < l.length), ∃ b o, A = some ⟨b, o, none⟩ ∧ G b ∧ w.cell? ⟨b, o + i * 2, none⟩ = some (.int .i64 ((sq + i + 1 : Nat) : Int)) ∧ w.cell? ⟨b, o + i * 2 + 1, none⟩ = some (.string l[i])
structure JGo (w w' : World) (F F' Fs Fs' : Foot) (s s' : SDev) (st : JSt) (n : Nat) : Prop where
 ap : Apart F' Fs'
 k : Keeps (fun b => ¬ F.M b ∧ ¬ Fs.M b) w w'
 f1 : ∀ b, F'.M b → F.M b ∨ w.heap.size ≤ b
 f2 : ∀ b, F'.I b → F.all b ∨ w.heap.size ≤ b
 f3 : ∀ b, Fs'.M b → Fs.M b ∨ w.heap.size ≤ b
 f4 : ∀ b, Fs'.I b → Fs.all b ∨ w.heap.size ≤ b
 len : s'.now.length = s.now.length
 out : ∀ i, ¬ st.has i → s'.now.getD i [] = s.now.getD i []
 calls : s'.calls ≤ s.calls + 1000 * n
def jadd (st : JSt) (ks : List ByteArray) (b : Nat) : JSt := ⟨st.place, st.segs, st.keys ++ ks, b, st.kept, st.age + ks.length + 1⟩
structure JournalOK where
 T : World → Prop
 tk : ∀ {w w' : World}, T w → Keeps (fun _ => True) w w' → T w'
 rep : World → Nat → Nat → Foot → JSt → SDev → Prop
 disk : JSt → List (List UInt8) → Prop
 wf : ∀ {w p q F st s}, rep w p q F st s → st.Ok
 lt : ∀ {w p q F st s}, rep w p q F st s → ∀ b, F.all b → b < w.heap.size
 keep : ∀ {w w' p q F st s}, rep w p q F st s → Keeps F.all w w' → rep w' p q F st s
 other : ∀ {w p q F st s s'}, rep w p q F st s → s'.now.length = s.now.length → (∀ i, st.has i → s'.now.getD i [] = s.now.getD i []) → rep w p q F st s'
 diskKeep : ∀ {st rows rows'}, disk st rows → rows'.length = rows.length → (∀ i, st.has i → rows'.getD i [] = rows.getD i []) → disk st rows'
 openNew : ∀ (w : World) (p : Nat) (F : Foot) (s : SDev), DAt w p F s → T w → ∀ (i n : Nat), 20 ≤ n → n ≤ 200 → i + 8 * n ≤ s.now.length → (∀ j, i ≤ j → j < i + 8 * n → s.now.getD j [] = blank) →
  Calls Tryz.prog 66 #[.pointer (some ⟨p, 0, none⟩), .int .i64 i, .int .i64 n] w fun e w' => ∃ (q : Nat) (Fs : Foot), e = .returned (.tuple #[.pointer (some ⟨q, 0, none⟩), .int .i64 0]) ∧
   rep w' p q Fs ⟨i, n, [], 0, 32, 1⟩ s ∧ (∀ b, Fs.all b → w.heap.size ≤ b) ∧ Keeps (fun _ => True) w w'
 openOld : ∀ (w : World) (p : Nat) (F : Foot) (s : SDev) (st : JSt), DAt w p F s → T w → disk st s.now → st.place + 8 * st.segs ≤ s.now.length → st.age ≤ 20000 →
  Calls Tryz.prog 66 #[.pointer (some ⟨p, 0, none⟩), .int .i64 st.place, .int .i64 st.segs] w fun e w' => ∃ (q : Nat) (Fs : Foot) (b : Nat), e = .returned (.tuple #[.pointer (some ⟨q, 0, none⟩), .int .i64 0]) ∧
   rep w' p q Fs ⟨st.place, st.segs, st.keys, b, st.kept - 4, st.age + 1⟩ s ∧ (∀ b, Fs.all b → w.heap.size ≤ b) ∧ Keeps (fun _ => True) w w'
 add : ∀ (W w : World) (p q : Nat) (F Fs : Foot) (s : SDev) (st : JSt), DAt w p F s → rep w p q Fs st s → Apart F Fs → T W → Keeps (fun _ => True) W w → (∀ b, F.all b → W.heap.size ≤ b) → (∀ b, Fs.all b → W.heap.size ≤ b) → st.place + 8 * st.segs ≤ s.now.length → st.age ≤ 20000 → s.calls ≤ 500000000000 →
  ∀ (A : Option Addr) (c : Nat) (ks : List ByteArray), Row w A (fun b => ¬ F.all b ∧ ¬ Fs.all b) (ks.map Value.string) → ks.length ≤ c → c ≤ maxLen → ks.length ≤ 1000 → (∀ k ∈ ks, keyOk k) →
  Calls Tryz.prog 26 #[.pointer (some ⟨q, 0, none⟩), .slice A ks.length c] w fun e w' => e = .returned (.tuple #[.int .i64 ((st.keys.length + ks.length : Nat) : Int), .int .i64 0]) ∧ ∃ (F' Fs' : Foot) (rows : List (List UInt8)) (k b : Nat), DAt w' p F' (SDev.still rows k) ∧ rep w' p q Fs' (jadd st ks b) (SDev.still rows k) ∧ disk (jadd st ks b) rows ∧ st.base ≤ b ∧ JGo w w' F F' Fs Fs' s (SDev.still rows k) st (ks.length + 1)
 addNo : ∀ (w : World) (p q : Nat) (F Fs : Foot) (s : SDev) (st : JSt), DAt w p F s → rep w p q Fs st s → Apart F Fs → T w → st.place + 8 * st.segs ≤ s.now.length → ∀ (A : Option Addr) (c : Nat) (ks : List ByteArray), Row w A (fun _ => True) (ks.map Value.string) → ks.length ≤ c → c ≤ maxLen → ks.length ≤ 1000 → (∀ k ∈ ks, k.size ≤ 1000000) → (∃ k ∈ ks, ¬ keyOk k) →
  Calls Tryz.prog 26 #[.pointer (some ⟨q, 0, none⟩), .slice A ks.length c] w fun e w' => e = .returned (.tuple #[.int .i64 0, .int .i64 1]) ∧ Keeps (fun _ => True) w w'
 seqIs : ∀ (w : World) (p q : Nat) (Fs : Foot) (s : SDev) (st : JSt), rep w p q Fs st s → T w → Calls Tryz.prog 24 #[.pointer (some ⟨q, 0, none⟩)] w fun e w' => e = .returned (.int .i64 (st.keys.length : Int)) ∧ Keeps (fun _ => True) w w'
 baseIs : ∀ (w : World) (p q : Nat) (Fs : Foot) (s : SDev) (st : JSt), rep w p q Fs st s → T w → Calls Tryz.prog 31 #[.pointer (some ⟨q, 0, none⟩)] w fun e w' => e = .returned (.int .i64 (st.base : Int)) ∧ Keeps (fun _ => True) w w'
theorem imay (w : World) (x : It) (hx : x.fits) :
  Calls Tryz.prog 42 #[.agg #[.string x.key, .string x.val, .int .i64 x.till, .bool x.gone]] w fun e w' => e = .returned (.bool x.may) ∧ Keeps (fun _ => True) w w' := by
 obtain ⟨hk, hv, ht1, ht2⟩ := hx
 have cases_ : (decide ((x.key.size : Int) < 1) = true ∧ x.may = false) ∨
   (decide ((x.key.size : Int) < 1) = false ∧ decide ((40 : Int) < (x.key.size : Int)) = true ∧ x.may = false) ∨
   (decide ((x.key.size : Int) < 1) = false ∧ decide ((40 : Int) < (x.key.size : Int)) = false ∧ x.gone = true ∧ (x.val.toList == []) = false ∧ x.may = false) ∨
   (decide ((x.key.size : Int) < 1) = false ∧ decide ((40 : Int) < (x.key.size : Int)) = false ∧ x.gone = true ∧ (x.val.toList == []) = true ∧ (x.till == 0) = false ∧ x.may = false) ∨
   (decide ((x.key.size : Int) < 1) = false ∧ decide ((40 : Int) < (x.key.size : Int)) = false ∧ x.gone = true ∧ (x.val.toList == []) = true ∧ (x.till == 0) = true ∧ x.may = true) ∨
   (decide ((x.key.size : Int) < 1) = false ∧ decide ((40 : Int) < (x.key.size : Int)) = false ∧ x.gone = false ∧ decide ((x.val.size : Int) ≤ 200) = false ∧ x.may = false) ∨
   (decide ((x.key.size : Int) < 1) = false ∧ decide ((40 : Int) < (x.key.size : Int)) = false ∧ x.gone = false ∧ decide ((x.val.size : Int) ≤ 200) = true ∧ decide ((0 : Int) ≤ x.till) = false ∧ x.may = false) ∨
   (decide ((x.key.size : Int) < 1) = false ∧ decide ((40 : Int) < (x.key.size : Int)) = false ∧ x.gone = false ∧ decide ((x.val.size : Int) ≤ 200) = true ∧ decide ((0 : Int) ≤ x.till) = true ∧ decide (x.till ≤ 1099511627776) = false ∧ x.may = false) ∨
   (decide ((x.key.size : Int) < 1) = false ∧ decide ((40 : Int) < (x.key.size : Int)) = false ∧ x.gone = false ∧ decide ((x.val.size : Int) ≤ 200) = true ∧ decide ((0 : Int) ≤ x.till) = true ∧ decide (x.till ≤ 1099511627776) = true ∧ x.may = true) := by
  have e1 : decide ((x.val.size : Int) ≤ 200) = decide (x.val.size ≤ 200) := decide_eq_decide.2 (by omega)
  have e2 : (x.val.toList == []) = decide (x.val.size = 0) := by
   have h := str_same x.val ⟨#[]⟩
   rw [show ByteArray.toList ⟨#[]⟩ = [] from by rw [Lib.toList_data]] at h
   exact h.trans (decide_eq_decide.2 size_zero)
  have e3 : (x.till == 0) = decide (x.till = 0) := rfl
  have e4 : decide ((x.key.size : Int) < 1) = !decide (1 ≤ x.key.size) := by
   by_cases h : 1 ≤ x.key.size
   ·simp [h]; omega
   ·simp [h]; omega
  have e5 : decide ((40 : Int) < (x.key.size : Int)) = !decide (x.key.size ≤ 40) := by
   by_cases h : x.key.size ≤ 40
   ·simp [h]; omega
   ·simp [h]; omega
  have h6 : decide (x.val.size = 0) = true → decide (x.val.size ≤ 200) = true := by simp only [decide_eq_true_eq]; omega
  have h7 : decide (x.till = 0) = true → decide ((0 : Int) ≤ x.till) = true ∧ decide (x.till ≤ 1099511627776) = true := by simp only [decide_eq_true_eq]; omega
  rw [e1, e2, e3, e4, e5]
  unfold It.may
  generalize decide (1 ≤ x.key.size) = b0 at *
  generalize decide (x.key.size ≤ 40) = b1 at *
  generalize decide (x.val.size ≤ 200) = b2 at *
  generalize decide ((0 : Int) ≤ x.till) = b3 at *
  generalize decide (x.till ≤ 1099511627776) = b4 at *
  generalize decide (x.val.size = 0) = b5 at *
  generalize decide (x.till = 0) = b6 at *
  generalize x.gone = b7
  clear e1 e2 e3 e4 e5 hk hv ht1 ht2
  revert b0 b1 b2 b3 b4 b5 b6 b7
  decide
 obtain ⟨key, val, till, gone⟩ := x
 simp only at *
 have HM := Hd (show (⟨key, val, till, gone⟩ : It).may = (⟨key, val, till, gone⟩ : It).may from rfl)
 generalize (⟨key, val, till, gone⟩ : It).may = m at *
 clear HM
 rcases cases_ with ⟨t1, rfl⟩ | ⟨t1, t2, rfl⟩ | ⟨t1, t2, rfl, t3, rfl⟩ | ⟨t1, t2, rfl, t3, t4, rfl⟩ | ⟨t1, t2, rfl, t3, t4, rfl⟩ | ⟨t1, t2, rfl, t3, rfl⟩ | ⟨t1, t2, rfl, t3, t4, rfl⟩ | ⟨t1, t2, rfl, t3, t4, t5, rfl⟩ | ⟨t1, t2, rfl, t3, t4, t5, rfl⟩
 all_goals
  go_enter Tryz.func42, Tryz.ntmps42
  go_wp2_with fail
  go_ret
  exact ⟨by first | rfl | (rw [← t5]; rfl) | (rw [← t4]; rfl), (Keeps.refl _ _).alloc _⟩
theorem ilive (w : World) (x : It) (hx : x.fits) (now : Int) (_hn1 : -9223372036854775808 ≤ now) (_hn2 : now < 9223372036854775808) :
  Calls Tryz.prog 58 #[.agg #[.string x.key, .string x.val, .int .i64 x.till, .bool x.gone], .int .i64 now] w fun e w' => e = .returned (.bool (x.live now)) ∧ Keeps (fun _ => True) w w' := by
 have RM := fun w => imay w x hx
 obtain ⟨hk, hv, ht1, ht2⟩ := hx
 have hc : (x.may = false ∧ x.live now = false) ∨ (x.may = true ∧ x.gone = true ∧ x.live now = false) ∨ (x.may = true ∧ x.gone = false ∧ (x.till == 0) = true ∧ x.live now = true) ∨
   (x.may = true ∧ x.gone = false ∧ (x.till == 0) = false ∧ decide (now < x.till) = true ∧ x.live now = true) ∨ (x.may = true ∧ x.gone = false ∧ (x.till == 0) = false ∧ decide (now < x.till) = false ∧ x.live now = false) := by
  have e3 : (x.till == 0) = decide (x.till = 0) := rfl
  rw [e3]
  unfold It.live
  generalize x.may = b1
  generalize x.gone = b2
  generalize decide (x.till = 0) = b3
  generalize decide (now < x.till) = b4
  revert b1 b2 b3 b4
  decide
 obtain ⟨key, val, till, gone⟩ := x
 simp only at *
 generalize (⟨key, val, till, gone⟩ : It).live now = m at *
 generalize (⟨key, val, till, gone⟩ : It).may = q at *
 rcases hc with ⟨rfl, rfl⟩ | ⟨rfl, rfl, rfl⟩ | ⟨rfl, rfl, t1, rfl⟩ | ⟨rfl, rfl, t1, t2, rfl⟩ | ⟨rfl, rfl, t1, t2, rfl⟩
 all_goals
  go_enter Tryz.func58, Tryz.ntmps58
  go_wp2_with fail
  refine (RM _).mono ?_
  rintro e w1 ⟨rfl, hk1⟩
  have hc2 := hk1.cell (p := ⟨w.heap.size, 2, none⟩) (v := .int .i64 till) ((cell_of_block (heap_alloc_new w _) 2).trans rfl) trivial
  have hc3 := hk1.cell (p := ⟨w.heap.size, 3, none⟩) (v := .bool _) ((cell_of_block (heap_alloc_new w _) 3).trans rfl) trivial
  have HK := Hd (((Keeps.refl (fun _ => True) w).alloc _).trans hk1)
  clear hk1
  go_wp2_with fail
  go_ret
  exact ⟨by first | rfl | (rw [← t2]; rfl), HK.out⟩
section
variable {w : World} {o : Oper} {a : Act} {Q : Exit → Act → World → Prop} {x y : Operand}
theorem kp_fI (i : Nat) (hi : i < 4) {b : Nat} (ho : o.op = .fieldAddr 40 x i) (hx : a.eval x = .pointer (some ⟨b, 0, none⟩)) : o.wp Tryz.prog a w (fun a' w' => ∃ v, a' = a.put o.dst v ∧ Kp w w' ∧ IsV (.pointer (some ⟨b, i, none⟩)) w' v) Q := by
 refine kp_yield (v := .pointer (some ⟨b, i, none⟩)) ?_ (Keeps.refl _ _) rfl
 generalize a.eval = ρ at hx
 unfold execOp
 rw [ho]
 match i, hi with
 | 0, _ => go_simp
 | 1, _ => go_simp
 | 2, _ => go_simp
 | 3, _ => go_simp
theorem kp_lS {p : Addr} {s : ByteArray} (hc : w.cell? p = some (.string s)) (ho : o.op = .load 9 x) (hx : a.eval x = .pointer (some p)) : o.wp Tryz.prog a w (fun a' w' => ∃ v, a' = a.put o.dst v ∧ Kp w w' ∧ IsV (.string s) w' v) Q := by
 refine kp_yield (v := .string s) ?_ (Keeps.refl _ _) rfl
 generalize a.eval = ρ at hx
 unfold execOp
 go_simp
theorem kp_lN {p : Addr} {n : Int} (hc : w.cell? p = some (.int .i64 n)) (ho : o.op = .load 2 x) (hx : a.eval x = .pointer (some p)) : o.wp Tryz.prog a w (fun a' w' => ∃ v, a' = a.put o.dst v ∧ Kp w w' ∧ IsV (.int .i64 n) w' v) Q := by
 refine kp_yield (v := .int .i64 n) ?_ (Keeps.refl _ _) rfl
 generalize a.eval = ρ at hx
 unfold execOp
 go_simp
theorem kp_asO {V : World → Value → Prop} (ho : o.op = .assign x) (hx : V w (a.eval x)) : o.wp Tryz.prog a w (fun a' w' => ∃ v', a' = a.put o.dst v' ∧ Kp w w' ∧ V w' v') Q := by
 refine kp_yield (v := a.eval x) ?_ (Keeps.refl _ _) hx
 unfold execOp; rw [ho]; rfl
def PairV (v1 v2 : Value) : World → Value → Prop := fun w v => ∃ B, v = .slice (some ⟨B, 0, none⟩) 2 2 ∧ Row w (some ⟨B, 0, none⟩) (fun _ => True) [v1, v2]
theorem PairV.keep {v1 v2 v : Value} {w w' : World} (h : Kp w w') (hv : PairV v1 v2 w v) : PairV v1 v2 w' v := by
 obtain ⟨B, e, hr⟩ := hv
 exact ⟨B, e, hr.keep h⟩
theorem kp_twoS {s t : ByteArray} (ho : o.op = .buildSlice 30 2 #[(0, x), (1, y)]) (hx : a.eval x = .string s) (hy : a.eval y = .string t) : o.wp Tryz.prog a w (fun a' w' => ∃ v, a' = a.put o.dst v ∧ Kp w w' ∧ PairV (.string s) (.string t) w' v) Q := by
 refine kp_yield (v := .slice (some ⟨w.heap.size, 0, none⟩) 2 2) (w' := w.alloc (.cells #[.string s, .string t] 9)) ?_ ((Keeps.refl _ w).alloc _) ⟨_, rfl, Row.fresh w #[.string s, .string t] 9 (0, 0) _ rfl trivial _ rfl⟩
 generalize a.eval = ρ at hx hy
 unfold execOp
 go_simp
theorem kp_twoI {s t : Int} (ho : o.op = .buildSlice 106 2 #[(0, x), (1, y)]) (hx : a.eval x = .int .i64 s) (hy : a.eval y = .int .i64 t) : o.wp Tryz.prog a w (fun a' w' => ∃ v, a' = a.put o.dst v ∧ Kp w w' ∧ PairV (.int .i64 s) (.int .i64 t) w' v) Q := by
 refine kp_yield (v := .slice (some ⟨w.heap.size, 0, none⟩) 2 2) (w' := w.alloc (.cells #[.int .i64 s, .int .i64 t] 2)) ?_ ((Keeps.refl _ w).alloc _) ⟨_, rfl, Row.fresh w #[.int .i64 s, .int .i64 t] 2 (0, 0) _ rfl trivial _ rfl⟩
 generalize a.eval = ρ at hx hy
 unfold execOp
 go_simp
end
def MadeB (l : List UInt8) : World → Value → Prop := fun w v => ∃ A c, v = .slice A l.length c ∧ Row w A (fun _ => True) (bcells l)
theorem MadeB.keep {l : List UInt8} {v : Value} {w w' : World} (h : Kp w w') (hv : MadeB l w v) : MadeB l w' v := by
 obtain ⟨A, c, e, hr⟩ := hv
 exact ⟨A, c, e, hr.keep h⟩
def GN : Nat → Option Bool := fun _ => none
theorem GN_is {V : Nat → World → Value → Prop} (g : Nat) (c : Bool) (h : GN g = some c) (w : World) (x : Value) (_ : V g w x) : x = .bool c := by cases h
def VI (base : Nat) (b : Nat) (x : It) (l1 l2 : List UInt8) : Nat → World → Value → Prop
 | 0 => IsV (.pointer (some ⟨b, 0, none⟩))
 | 1 => IsV (.string x.key)
 | 2 => IsV (.pointer (some ⟨b, 1, none⟩))
 | 3 => IsV (.string x.val)
 | 4 => PairV (.string x.key) (.string x.val)
 | 5 => MadeB l1
 | 6 => IsV (.pointer (some ⟨b, 2, none⟩))
 | 7 => IsV (.int .i64 x.till)
 | 8 => IsV (.int .i64 x.flag)
 | 9 => PairV (.int .i64 x.till) (.int .i64 x.flag)
 | 10 => fun w v => OwnB w base v l2
 | 11 => fun w v => OwnB w base v l2
 | _ => fun _ _ => True
theorem VI_keep {base b : Nat} {x : It} {l1 l2 : List UInt8} (i : Nat) (w w' : World) (v : Value) (h : Kp w w') (hv : VI base b x l1 l2 i w v) : VI base b x l1 l2 i w' v := by
 match i, hv with
 | 0, hv => exact hv
 | 1, hv => exact hv
 | 2, hv => exact hv
 | 3, hv => exact hv
 | 4, hv => exact PairV.keep h hv
 | 5, hv => exact MadeB.keep h hv
 | 6, hv => exact hv
 | 7, hv => exact hv
 | 8, hv => exact hv
 | 9, hv => exact PairV.keep h hv
 | 10, hv => exact h.own hv fun _ _ => trivial
 | 11, hv => exact h.own hv fun _ _ => trivial
 | n + 12, _ => trivial
theorem iencode1 (w : World) (x : It) (hx : x.may = true) :
  Calls Tryz.prog 74 #[.agg #[.string x.key, .string x.val, .int .i64 x.till, .bool x.gone]] w fun e w' => ∃ v, e = .returned v ∧ OwnB w' w.heap.size v x.bytes ∧ Keeps (fun _ => True) w w' := by
 have hm := It.may_is hx
 have hfl := x.flag_bd
 have hgo : (x.gone = false ∧ x.flag = 0) ∨ (x.gone = true ∧ x.flag = 1) := by unfold It.flag; cases x.gone <;> simp
 have hk0 : Kp w (w.alloc (.cells #[.string x.key, .string x.val, .int .i64 x.till, .bool x.gone] 40)) := (Keeps.refl _ w).alloc _
 have b0 := heap_alloc_new w (.cells #[.string x.key, .string x.val, .int .i64 x.till, .bool x.gone] 40)
 have hlt : w.heap.size < (w.alloc (.cells #[.string x.key, .string x.val, .int .i64 x.till, .bool x.gone] 40)).heap.size := by simp
 have HPT := Hd (show ∀ (w3 : World) (B : Nat), Kp w w3 → Row w3 (some ⟨B, 0, none⟩) (fun _ => True) [.string x.key, .string x.val] → Calls Tryz.prog 104 #[.slice none 0 0, .slice (some ⟨B, 0, none⟩) 2 2] w3 fun e w' => ∃ v, e = .returned v ∧ Kp w3 w' ∧ MadeB (putT x.key.data.toList ++ putT x.val.data.toList) w' v from fun w3 B _ hr => by
  refine (show Calls _ _ _ _ _ from put_text none (some ⟨B, 0, none⟩) 0 2 (fun _ => True) (fun _ => True) [] [x.key, x.val] w3 (Row.nil _ _ _) hr (by unfold total; simp; omega) (by simp) (by simp)).mono ?_
  rintro e w' ⟨v, rfl, ho, hk⟩
  have e : ([] : List UInt8) ++ putsT (strs [x.key, x.val]) = putT x.key.data.toList ++ putT x.val.data.toList := by simp [putsT, strs]
  rw [e] at ho
  obtain ⟨A, c, rfl, -, hr⟩ := own_slice ho
  exact ⟨_, rfl, hk, A, c, rfl, hr.mono fun _ _ _ => trivial⟩)
 have hl1 : (putT x.key.data.toList ++ putT x.val.data.toList).length ≤ 1000 := by
  have := It.bytes_len hx
  unfold It.bytes at this
  simp only [List.length_append] at this ⊢
  omega
 have HPN := Hd (show ∀ (w3 : World) (A : Option Addr) (c B : Nat), Kp w w3 → Row w3 A (fun _ => True) (bcells (putT x.key.data.toList ++ putT x.val.data.toList)) → Row w3 (some ⟨B, 0, none⟩) (fun _ => True) [.int .i64 x.till, .int .i64 x.flag] →
   Calls Tryz.prog 79 #[.slice A (putT x.key.data.toList ++ putT x.val.data.toList).length c, .slice (some ⟨B, 0, none⟩) 2 2] w3 fun e w' => ∃ v, e = .returned v ∧ Kp w3 w' ∧ OwnB w' w.heap.size v x.bytes from fun w3 A c B hk hr hr2 => by
  refine (show Calls _ _ _ _ _ from put_any A (some ⟨B, 0, none⟩) c 2 (fun _ => True) (fun _ => True) (putT x.key.data.toList ++ putT x.val.data.toList) [x.till, x.flag] w3 hr hr2 (fun n hn => by
   simp only [List.mem_cons, List.not_mem_nil, or_false] at hn
   rcases hn with rfl | rfl <;> omega) (by omega) (by simp)).mono ?_
  rintro e w' ⟨v, rfl, ho, hk'⟩
  have e : putT x.key.data.toList ++ putT x.val.data.toList ++ putsZ [x.till, x.flag] = x.bytes := by simp [putsZ, It.bytes]
  rw [e] at ho
  exact ⟨v, rfl, hk', ownsRow_le ho hk.size⟩)
 generalize hL1 : putT x.key.data.toList ++ putT x.val.data.toList = l1 at HPT HPN hl1
 generalize hL2 : x.bytes = l2 at HPN ⊢
 clear hL1 hL2
 obtain ⟨w0, hw0⟩ : ∃ w0, w.alloc (.cells #[.string x.key, .string x.val, .int .i64 x.till, .bool x.gone] 40) = w0 := ⟨_, rfl⟩
 rw [hw0] at hk0 b0 hlt
 have HW0 := Hd hw0
 have HK0 := Hd hk0
 have HB0 := Hd b0
 have HFL := Hd hfl
 have c3 := (cell_of_block b0 3).trans rfl
 have HM := Hd hm
 clear hm hw0 hk0 hfl b0
 rcases hgo with ⟨hg, hf⟩ | ⟨hg, hf⟩
 all_goals
  rw [hg] at c3
  have HG := Hd hg
  have HF := Hd hf
  clear hg hf
  go_enter Tryz.func74, Tryz.ntmps74
  go_wp2_with (rw [HW0.out])
  try rw [HW0.out]
  refine wp_region_guard (R := Kp) (V := VI w.heap.size w.heap.size x l1 l2) (w0 := w0) GN (by kernel_rfl) (fun w => Keeps.refl _ w) (fun _ _ _ h k => h.trans k) (fun i w w' v h hv => VI_keep i w w' v h hv) (by kernel_rfl) GN_is (fun i o ho hw => (all_wanted (by kernel_rfl) ho hw).elim) ((Keeps.refl _ w0).drew) (each_of ?_) ?_
  ·refine ⟨?_, ?_, ?_, ?_, ?_, ?_, ?_, ?_, ?_, ?_, ?_, ?_, trivial⟩ <;> intro hw a1 w3 L
   ·exact kp_fI 0 (by decide) rfl (L.o 1)
   ·have hb := (L.rel.block w.heap.size trivial hlt).trans HB0.out
    exact kp_lS ((cell_of_block hb 0).trans rfl) rfl (L.v 0 6)
   ·exact kp_fI 1 (by decide) rfl (L.o 1)
   ·have hb := (L.rel.block w.heap.size trivial hlt).trans HB0.out
    exact kp_lS ((cell_of_block hb 1).trans rfl) rfl (L.v 2 8)
   ·exact kp_twoS rfl (L.v 1 7) (L.v 3 9)
   ·obtain ⟨B, e0, hr⟩ := (show PairV (.string x.key) (.string x.val) w3 (a1.eval (.tmp 10)) from L.v 4 10)
    have hf : a1.eval (.func 104) = .func (.func 104) #[] #[] := rfl
    have hn : a1.eval (.const (.slice none 0 0)) = .slice none 0 0 := rfl
    refine kp_enter (f := 104) (args := #[.slice none 0 0, .slice (some ⟨B, 0, none⟩) 2 2]) ?_ (HPT.out w3 B (HK0.out.trans L.rel) hr) ?_
    ·clear L
     generalize a1.eval = ρ at e0 hf hn ⊢
     unfold execOp
     go_simp
    ·rintro e w' ⟨v, rfl, hk, hv⟩
     exact ⟨v, rfl, hk, hv⟩
   ·exact kp_fI 2 (by decide) rfl (L.o 1)
   ·have hb := (L.rel.block w.heap.size trivial hlt).trans HB0.out
    exact kp_lN ((cell_of_block hb 2).trans rfl) rfl (L.v 6 12)
   ·exact kp_move (v := .int .i64 x.flag) rfl (by rw [HF.out]; exact L.o 3)
   ·exact kp_twoI rfl (L.v 7 13) (L.v 8 14)
   ·obtain ⟨A, c, e0, hr⟩ := (show MadeB l1 w3 (a1.eval (.tmp 11)) from L.v 5 11)
    obtain ⟨B, e1, hr2⟩ := (show PairV (.int .i64 x.till) (.int .i64 x.flag) w3 (a1.eval (.tmp 15)) from L.v 9 15)
    have hf : a1.eval (.func 79) = .func (.func 79) #[] #[] := rfl
    refine kp_enter (f := 79) (args := #[.slice A l1.length c, .slice (some ⟨B, 0, none⟩) 2 2]) ?_ (HPN.out w3 A c B (HK0.out.trans L.rel) hr hr2) ?_
    ·clear L
     generalize a1.eval = ρ at e0 e1 hf ⊢
     unfold execOp
     go_simp
    ·rintro e w' ⟨v, rfl, hk, hv⟩
     exact ⟨v, rfl, hk, hv⟩
   ·have h10 : OwnB w3 w.heap.size (a1.eval (.tmp 16)) l2 := L.v 10 16
    exact kp_asO rfl h10
  ·intro vs w4 hk4 hlen4 hv
   match vs, hlen4 with
   | [v0, v1, v2, v3, v4, v5, v6, v7, v8, v9, v10, v11], _ =>
    have hv4 : OwnB w4 w.heap.size v11 l2 := hv 11 2 (by kernel_rfl)
    have HV := Hd hv4
    have HK4 := Hd (HK0.out.trans hk4)
    clear hv hv4 hk4
    simp only [putAll, List.map, Act.put, List.setIfInBounds_toArray, List.set_cons_succ, List.set_cons_zero, Exit.then]
    go_wp2_with fail
    go_ret
    exact ⟨_, rfl, HV.out, HK4.out⟩
end Go.Proofs.YticophaepapjoaaGreatDoor
