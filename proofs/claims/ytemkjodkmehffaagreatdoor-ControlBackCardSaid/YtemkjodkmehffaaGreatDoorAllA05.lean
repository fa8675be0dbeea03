/-
  RowZ, ItemMath, ItemIf, Clone, Unfr, Make0, CrcMath, ItemRef, ItemLive: texts of mine, joined.
-/
import Derived.Test.YtemkjodkmehffaaGreatDoorWords
import Derived.Laws.OwnMore
import Derived.Lib.SmallJoins
import Derived.Test.YtemkjodkmehffaaGreatDoorAllA04
import Derived.Test.YtemkjodkmehffaaGreatDoorAllA00
import Derived.Lib.Hide
import Derived.WalkSpells
import Derived.Laws.Rows
namespace Go.Proofs.YtemkjodkmehffaaGreatDoor
open Go Go.RowKit Go.Joins
section
variable {W W' : World} {base : Nat} {e : TypeId} {k : IntKind} {v : Value} {n c g : Nat} {F : Nat → Prop}
theorem own_cap {A : Option Addr} {xs : List Value} (h : W.ownsRow base e 1 (.slice A n c) n xs) : n ≤ c ∧ c ≤ maxLen ∧ (A = none → c = 0) := by
 rcases h.2 with ⟨h', h0⟩ | ⟨g', cap', cur, h', _, _, h1, h2, _⟩
 ·injection h' with a1 a2 a3
  subst a2 a3
  exact ⟨Nat.le_refl _, Nat.zero_le _, fun _ => rfl⟩
 ·injection h' with a1 a2 a3
  subst a1 a3
  exact ⟨h1, h2, fun h => by cases h⟩
end
def Mine (w : World) (k : IntKind) (A : Option Addr) (n : Nat) : Prop := 0 < n → ∃ (g o : Nat) (cur : Array Value) (t : TypeId) (fr : Nat × Nat), A = some ⟨g, o, none⟩ ∧ w.heap[g]? = some (.cells cur t fr) ∧ ∀ i, i < n → (∃ z : Int, cur[o + i]? = some (.int k z)) ∧ w.frozen? ⟨g, o + i, none⟩ = false
end Go.Proofs.YtemkjodkmehffaaGreatDoor
namespace Go.Proofs.YtemkjodkmehffaaGreatDoor
structure It where
 key : ByteArray
 val : ByteArray
 till : Int
 gone : Bool
deriving DecidableEq
def It.may (x : It) : Bool :=
 decide (1 ≤ x.key.size) && decide (x.key.size ≤ 40) && decide (x.val.size ≤ 200) && decide (0 ≤ x.till) && decide (x.till ≤ 1099511627776) && (!x.gone || (decide (x.val.size = 0) && decide (x.till = 0)))
theorem data_inj {a b : ByteArray} (h : a.data.toList = b.data.toList) : a = b := by
 cases a; cases b; simp only [Array.toList_inj] at h; rw [h]
end Go.Proofs.YtemkjodkmehffaaGreatDoor
namespace Go.Proofs.YtemkjodkmehffaaGreatDoor
open Go Go.RowKit
def It.fits (x : It) : Prop := x.key.size ≤ 1000000 ∧ x.val.size ≤ 1000000 ∧ -9223372036854775808 ≤ x.till ∧ x.till < 9223372036854775808
def ItsAt (w : World) (A : Option Addr) (F : Nat → Prop) (l : List It) : Prop := ∀ k (h : k < l.length), ∃ b o, A = some ⟨b, o, none⟩ ∧ F b ∧ w.cell? ⟨b, o + k * 4, none⟩ = some (.string l[k].key) ∧
 w.cell? ⟨b, o + k * 4 + 1, none⟩ = some (.string l[k].val) ∧ w.cell? ⟨b, o + k * 4 + 2, none⟩ = some (.int .i64 l[k].till) ∧ w.cell? ⟨b, o + k * 4 + 3, none⟩ = some (.bool l[k].gone)
section
variable {w w' : World} {A : Option Addr} {F G : Nat → Prop} {l : List It}
theorem ItsAt.keep (h : ItsAt w A F l) (hk : Keeps F w w') : ItsAt w' A F l := fun k hl => by
 obtain ⟨b, o, e, hF, c0, c1, c2, c3⟩ := h k hl
 exact ⟨b, o, e, hF, hk.cell c0 hF, hk.cell c1 hF, hk.cell c2 hF, hk.cell c3 hF⟩
theorem ItsAt.mono (h : ItsAt w A F l) (hF : ∀ b, b < w.heap.size → F b → G b) : ItsAt w A G l := fun k hl => by
 obtain ⟨b, o, e, hFb, c0, c1, c2, c3⟩ := h k hl
 exact ⟨b, o, e, hF b (World.block_lt_of_cell? w _ c0) hFb, c0, c1, c2, c3⟩
theorem ItsAt.nil (w : World) (A : Option Addr) (F : Nat → Prop) : ItsAt w A F [] := fun k hl => absurd hl (by simp)
end
theorem clone_nil (c : Nat) (w : World) :
  Calls Tryz.prog 87 #[.slice none 0 c] w fun e w' => ∃ v', e = .returned v' ∧ OwnB w' w.heap.size v' [] ∧ Keeps (fun _ => True) w w' := by
 have hn := fun w : World => Lib.run_eql_slice_nil (P := Tryz.prog) w 71 5 none 0 c 0 0 Tryz.underlying71
 have H := Lib.hid (show ∃ v', Ending.returned (.slice none 0 0) = .returned v' ∧ OwnB w w.heap.size v' [] ∧ Keeps (fun _ => True) w w from ⟨_, rfl, World.ownsRow_nil _ _ _ _, Keeps.refl _ _⟩)
 go_enter Tryz.func87, Tryz.ntmps87
 go_wp2
 go_ret
 exact H.out
theorem clone_some (ad : Addr) (c : Nat) (F : Nat → Prop) (l : List UInt8) (w : World) (h : Row w (some ad) F (bcells l)) (hl : l.length ≤ 1099511627776) :
  Calls Tryz.prog 87 #[.slice (some ad) l.length c] w fun e w' => ∃ v', e = .returned v' ∧ OwnB w' w.heap.size v' l ∧ Keeps (fun _ => True) w w' := by
 have hn := fun w : World => Lib.run_eql_slice_nil (P := Tryz.prog) w 71 5 (some ad) l.length c 0 0 Tryz.underlying71
 have h0 : (w.alloc (.cells #[] 5)).ownsRow w.heap.size 5 1 (.slice (some ⟨w.heap.size, 0, none⟩) 0 0) 0 [] := World.ownsRow_made w #[] 0 (Nat.le_refl _) (by decide) rfl
 have hsrc : Src Tryz.prog 1 71 (.slice (some ad) l.length c) l.length (bcells l) (w.alloc (.cells #[] 5)) := by
  have := (h.keep ((Keeps.refl F w).alloc (.cells #[] 5))).src (c := c) Tryz.underlying71 (bcells_one l)
  rwa [bcells_len] at this
 have H0 := Lib.hid h0
 have HS := Lib.hid hsrc
 clear h h0 hsrc
 go_enter Tryz.func87, Tryz.ntmps87
 go_wp2_with (at_builtin; refine byte_elem.list_append rfl (.tmp 5) (.tmp 6) _ rfl rfl H0.out rfl HS.out ?c3 ?c4 ?c5 ?_)
 case c3 => unfold maxLen; omega
 case c4 => omega
 case c5 => simp
 intro v' w1 hown' hg hb
 have hk : Keeps (fun _ => True) w w1 := by
  exact ((Onto.refl _ _).grown hg (by simpa using hb)).keeps ((Keeps.refl _ w).alloc _) (by simp [Value.ownBlock])
 have ho : OwnB w1 w.heap.size v' l := by unfold OwnB; simpa using hown'
 have H1 := Lib.hid ho
 have H2 := Lib.hid hk
 clear ho hk hown' hg hb
 go_wp2
 go_ret
 exact ⟨_, rfl, H1.out, H2.out⟩
theorem clone_any (A : Option Addr) (c : Nat) (F : Nat → Prop) (l : List UInt8) (w : World) (h : Row w A F (bcells l)) (hl : l.length ≤ 1099511627776) :
  Calls Tryz.prog 87 #[.slice A l.length c] w fun e w' => ∃ v', e = .returned v' ∧ OwnB w' w.heap.size v' l ∧ Keeps (fun _ => True) w w' := by
 rcases A with _ | ad
 ·have hx : l = [] := Classical.byContradiction fun hx => by
   obtain ⟨b, o, e, _⟩ := h (by simpa [bcells] using hx)
   cases e
  subst hx
  exact clone_nil c w
 ·exact clone_some ad c F l w h hl
theorem list_empty {P : Program} {w : World} {ops : Array Oper} {rest : List Oper} {o : Oper} {a : Act} {Q : Exit → Act → World → Prop} (hg : o.guard = none) (l c : Operand) (t : TypeId) (hop : o.op = Op.makeSlice t l c)
  {e : TypeId} {z : Value} {size bytes : Nat} (E : Elem P t e z size bytes) (kl kc : IntKind) (n : Nat) (hl : a.eval l = .int kl 0) (hc : a.eval c = .int kc (n : Int)) (b2 : bytes * n ≤ 281474976710656) (b3 : n ≤ maxLen)
  (hK : ∀ w', w'.ownsRow w.heap.size e size (.slice (some ⟨w.heap.size, 0, none⟩) 0 n) 0 [] → w.grownBy w' none → wpList P ops Q rest (a.put o.dst (.slice (some ⟨w.heap.size, 0, none⟩) 0 n)) w') : wpList P ops Q (o :: rest) a w := by
 obtain ⟨i, hi, hz0, hz1, hz2⟩ := info_parts E.info
 subst hz2
 exact wpList_make_own w hg l c t hop w.heap.size e i z size E.und hi hz0 hz1 kl kc _ n hl hc rfl b2 b3 (Nat.le_refl _) hK
theorem own_base {w : World} {base base' : Nat} {e : TypeId} {size n : Nat} {v : Value} {xs : List Value} (h : w.ownsRow base e size v n xs) (hb : base' ≤ base) : w.ownsRow base' e size v n xs := by
 refine ⟨h.1, ?_⟩
 rcases h.2 with hn | ⟨g, cap, cur, r1, r2, r3⟩
 ·exact .inl hn
 ·exact .inr ⟨g, cap, cur, r1, Nat.le_trans hb r2, r3⟩
end Go.Proofs.YtemkjodkmehffaaGreatDoor
namespace Go.Proofs.YtemkjodkmehffaaGreatDoor
def tbit (c : Nat) : Nat := if c % 2 = 1 then c / 2 ^^^ 3988292384 else c / 2
def tbits : Nat → Nat → Nat
 | 0, c => c
 | n + 1, c => tbits n (tbit c)
def t8 (c : Nat) : Nat := tbits 8 c
def crcF (c : Nat) (l : List UInt8) : Nat := l.foldl (fun c b => t8 (c ^^^ b.toNat)) c
def crcN (l : List UInt8) : Nat := 4294967295 - crcF 4294967295 l
theorem tbit_lt (c : Nat) (h : c < 4294967296) : tbit c < 4294967296 := by
 unfold tbit; split
 ·exact Nat.xor_lt_two_pow (n := 32) (by omega) (by decide)
 ·omega
theorem tbits_lt (n c : Nat) (h : c < 4294967296) : tbits n c < 4294967296 := by
 induction n generalizing c with
 | zero => exact h
 | succ n ih => exact ih _ (tbit_lt c h)
theorem t8_lt (c : Nat) (h : c < 4294967296) : t8 c < 4294967296 := tbits_lt 8 c h
theorem xor_lt32 {a b : Nat} (ha : a < 4294967296) (hb : b < 4294967296) : a ^^^ b < 4294967296 := Nat.xor_lt_two_pow (n := 32) ha hb
theorem byte_lt32 (b : UInt8) : b.toNat < 4294967296 := Nat.lt_trans b.toNat_lt (by decide)
theorem crcF_lt (l : List UInt8) (c : Nat) (h : c < 4294967296) : crcF c l < 4294967296 := by
 induction l generalizing c with
 | nil => exact h
 | cons b l ih => exact ih _ (t8_lt _ (xor_lt32 h (byte_lt32 b)))
theorem crcF_append (c : Nat) (l r : List UInt8) : crcF c (l ++ r) = crcF (crcF c l) r := by unfold crcF; rw [List.foldl_append]
theorem crcF_snoc (c : Nat) (l : List UInt8) (b : UInt8) : crcF c (l ++ [b]) = t8 (crcF c l ^^^ b.toNat) := by rw [crcF_append]; rfl
theorem tbit_bit (c i : Nat) : (tbit c).testBit i = (c.testBit (i + 1) ^^ (c.testBit 0 && (3988292384 : Nat).testBit i)) := by
 have e0 : c.testBit 0 = decide (c % 2 = 1) := Nat.testBit_zero c
 have e1 : c.testBit (i + 1) = (c / 2).testBit i := Nat.testBit_succ c i
 unfold tbit
 split
 ·rename_i h; rw [Nat.testBit_xor, e0, e1]; simp [h]
 ·rename_i h; rw [e0, e1]; simp [h]
theorem tbit_xor (a b : Nat) : tbit (a ^^^ b) = tbit a ^^^ tbit b := by
 apply Nat.eq_of_testBit_eq
 intro i
 rw [Nat.testBit_xor, tbit_bit, tbit_bit, tbit_bit, Nat.testBit_xor, Nat.testBit_xor]
 cases a.testBit (i + 1) <;> cases b.testBit (i + 1) <;> cases a.testBit 0 <;> cases b.testBit 0 <;> cases (3988292384 : Nat).testBit i <;> rfl
theorem tbits_xor (n a b : Nat) : tbits n (a ^^^ b) = tbits n a ^^^ tbits n b := by
 induction n generalizing a b with
 | zero => rfl
 | succ n ih => simp only [tbits]; rw [tbit_xor, ih]
theorem tbits_shift (n w : Nat) : tbits n (2 ^ n * w) = w := by
 induction n with
 | zero => simp [tbits]
 | succ n ih =>
  have e : 2 ^ (n + 1) * w = 2 * (2 ^ n * w) := by rw [Nat.pow_succ, Nat.mul_comm (2 ^ n) 2, Nat.mul_assoc]
  have t : tbit (2 ^ (n + 1) * w) = 2 ^ n * w := by
   unfold tbit; rw [if_neg (by rw [e]; omega), e]; omega
  simp only [tbits]; rw [t, ih]
theorem tbits_table (n c : Nat) : tbits n c = tbits n (c % 2 ^ n) ^^^ c / 2 ^ n := by
 have e : c = c % 2 ^ n ^^^ 2 ^ n * (c / 2 ^ n) := by
  apply Nat.eq_of_testBit_eq
  intro i
  rw [Nat.testBit_xor, Nat.testBit_mod_two_pow, Nat.testBit_two_pow_mul, Nat.testBit_div_two_pow]
  by_cases h : i < n
  ·have h2 : ¬ n ≤ i := by omega
   simp [h, h2]
  ·have h2 : n ≤ i := by omega
   simp [h, h2]
 conv => lhs; rw [e]
 rw [tbits_xor, tbits_shift]
theorem tbits_add (m n c : Nat) : tbits (m + n) c = tbits n (tbits m c) := by
 induction m generalizing c with
 | zero => rw [Nat.zero_add]; rfl
 | succ m ih => rw [Nat.succ_add]; simp only [tbits]; exact ih _
theorem not_xor (c : Nat) (h : c < 4294967296) : 4294967295 - c = c ^^^ 4294967295 := by
 apply Nat.eq_of_testBit_eq
 intro i
 have e : 4294967295 - c = 2 ^ 32 - (c + 1) := by omega
 rw [e, Nat.testBit_two_pow_sub_succ (by omega), Nat.testBit_xor]
 have e2 : (4294967295 : Nat).testBit i = decide (i < 32) := by
  rw [show (4294967295 : Nat) = 2 ^ 32 - 1 from by decide, Nat.testBit_two_pow_sub_one]
 rw [e2]
 by_cases hi : i < 32
 ·simp [hi]
 ·have := Nat.testBit_lt_two_pow (Nat.lt_of_lt_of_le (show c < 2 ^ 32 from h) (Nat.pow_le_pow_right (by decide) (show 32 ≤ i by omega)))
  simp [hi, this]
theorem crcN_lt (l : List UInt8) : crcN l < 4294967296 := by unfold crcN; omega
end Go.Proofs.YtemkjodkmehffaaGreatDoor
namespace Go.Proofs.YtemkjodkmehffaaGreatDoor
open Go Go.RowKit Go.Joins
theorem str_same (a b : ByteArray) : (a.toList == b.toList) = decide (a = b) := by
 by_cases h : a = b
 ·subst h; simp
 ·have : a.toList ≠ b.toList := fun e => h (by
   rw [Lib.toList_data, Lib.toList_data] at e
   exact data_inj e)
  simp [h, this]
theorem size_zero {s : ByteArray} : s = ⟨#[]⟩ ↔ s.size = 0 := by
 constructor
 ·rintro rfl; rfl
 ·intro h
  obtain ⟨d⟩ := s
  have : d.size = 0 := h
  rw [Array.size_eq_zero_iff] at this
  rw [this]
set_option maxHeartbeats 1000000 in
theorem imay (w : World) (x : It) (hx : x.fits) :
  Calls Tryz.prog 62 #[.agg #[.string x.key, .string x.val, .int .i64 x.till, .bool x.gone]] w fun e w' => e = .returned (.bool x.may) ∧ Keeps (fun _ => True) w w' := by
 obtain ⟨hk, hv, ht1, ht2⟩ := hx
 have cases_ : (decide ((x.key.size : Int) < 1) = true ∧ x.may = false) ∨
   (decide ((x.key.size : Int) < 1) = false ∧ decide ((40 : Int) < (x.key.size : Int)) = true ∧ x.may = false) ∨
   (decide ((x.key.size : Int) < 1) = false ∧ decide ((40 : Int) < (x.key.size : Int)) = false ∧ x.gone = true ∧ (x.val.toList == []) = false ∧ x.may = false) ∨
   (decide ((x.key.size : Int) < 1) = false ∧ decide ((40 : Int) < (x.key.size : Int)) = false ∧ x.gone = true ∧ (x.val.toList == []) = true ∧ (x.till == 0) = false ∧ x.may = false) ∨
   (decide ((x.key.size : Int) < 1) = false ∧ decide ((40 : Int) < (x.key.size : Int)) = false ∧ x.gone = true ∧ (x.val.toList == []) = true ∧ (x.till == 0) = true ∧ x.may = true) ∨
   (decide ((x.key.size : Int) < 1) = false ∧ decide ((40 : Int) < (x.key.size : Int)) = false ∧ x.gone = false ∧ decide ((x.val.size : Int) ≤ 200) = false ∧ x.may = false) ∨
   (decide ((x.key.size : Int) < 1) = false ∧ decide ((40 : Int) < (x.key.size : Int)) = false ∧ x.gone = false ∧ decide ((x.val.size : Int) ≤ 200) = true ∧ decide ((0 : Int) ≤ x.till) = false ∧ x.may = false) ∨
   (decide ((x.key.size : Int) < 1) = false ∧ decide ((40 : Int) < (x.key.size : Int)) = false ∧ x.gone = false ∧ decide ((x.val.size : Int) ≤ 200) = true ∧ decide ((0 : Int) ≤ x.till) = true ∧ decide (x.till ≤ 1099511627776) = false ∧ x.may = false) ∨
   (decide ((x.key.size : Int) < 1) = false ∧ decide ((40 : Int) < (x.key.size : Int)) = false ∧ x.gone = false ∧ decide ((x.val.size : Int) ≤ 200) = true ∧ decide ((0 : Int) ≤ x.till) = true ∧ decide (x.till ≤ 1099511627776) = true ∧ x.may = true) := by
  have e1 : decide ((x.val.size : Int) ≤ 200) = decide (x.val.size ≤ 200) := decide_eq_decide.2 (by omega)
  have e2 : (x.val.toList == []) = decide (x.val.size = 0) := by
   have h := str_same x.val ⟨#[]⟩
   rw [show ByteArray.toList ⟨#[]⟩ = [] from by rw [Lib.toList_data]] at h
   exact h.trans (decide_eq_decide.2 size_zero)
  have e3 : (x.till == 0) = decide (x.till = 0) := rfl
  have e4 : decide ((x.key.size : Int) < 1) = !decide (1 ≤ x.key.size) := by
   by_cases h : 1 ≤ x.key.size
   ·simp [h]; omega
   ·simp [h]; omega
  have e5 : decide ((40 : Int) < (x.key.size : Int)) = !decide (x.key.size ≤ 40) := by
   by_cases h : x.key.size ≤ 40
   ·simp [h]; omega
   ·simp [h]; omega
  have h6 : decide (x.val.size = 0) = true → decide (x.val.size ≤ 200) = true := by simp only [decide_eq_true_eq]; omega
  have h7 : decide (x.till = 0) = true → decide ((0 : Int) ≤ x.till) = true ∧ decide (x.till ≤ 1099511627776) = true := by simp only [decide_eq_true_eq]; omega
  rw [e1, e2, e3, e4, e5]
  unfold It.may
  generalize decide (1 ≤ x.key.size) = b0 at *
  generalize decide (x.key.size ≤ 40) = b1 at *
  generalize decide (x.val.size ≤ 200) = b2 at *
  generalize decide ((0 : Int) ≤ x.till) = b3 at *
  generalize decide (x.till ≤ 1099511627776) = b4 at *
  generalize decide (x.val.size = 0) = b5 at *
  generalize decide (x.till = 0) = b6 at *
  generalize x.gone = b7
  clear e1 e2 e3 e4 e5 hk hv ht1 ht2
  revert b0 b1 b2 b3 b4 b5 b6 b7
  decide
 obtain ⟨key, val, till, gone⟩ := x
 simp only at *
 have HM := Lib.hid (show (⟨key, val, till, gone⟩ : It).may = (⟨key, val, till, gone⟩ : It).may from rfl)
 generalize (⟨key, val, till, gone⟩ : It).may = m at *
 clear HM
 rcases cases_ with ⟨t1, rfl⟩ | ⟨t1, t2, rfl⟩ | ⟨t1, t2, rfl, t3, rfl⟩ | ⟨t1, t2, rfl, t3, t4, rfl⟩ | ⟨t1, t2, rfl, t3, t4, rfl⟩ | ⟨t1, t2, rfl, t3, rfl⟩ | ⟨t1, t2, rfl, t3, t4, rfl⟩ | ⟨t1, t2, rfl, t3, t4, t5, rfl⟩ | ⟨t1, t2, rfl, t3, t4, t5, rfl⟩
 all_goals
  go_enter Tryz.func62, Tryz.ntmps62
  go_wp2_with fail
  go_ret
  exact ⟨by first | rfl | (rw [← t5]; rfl) | (rw [← t4]; rfl), (Keeps.refl _ _).alloc _⟩
end Go.Proofs.YtemkjodkmehffaaGreatDoor
