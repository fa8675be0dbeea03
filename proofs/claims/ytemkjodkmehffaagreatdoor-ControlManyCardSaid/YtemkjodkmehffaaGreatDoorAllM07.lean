/-
  Clone, CrcMath: texts of mine, joined.
-/
import Derived.Test.YtemkjodkmehffaaGreatDoorAllM00
import Derived.WalkSpells
import Derived.Lib.Hide
import Derived.Lib.SmallJoins
namespace Go.Proofs.YtemkjodkmehffaaGreatDoor
open Go Go.RowKit
theorem clone_nil (c : Nat) (w : World) :
  Calls Tryz.prog 87 #[.slice none 0 c] w fun e w' => ∃ v', e = .returned v' ∧ OwnB w' w.heap.size v' [] ∧ Keeps (fun _ => True) w w' := by
 have hn := fun w : World => Lib.run_eql_slice_nil (P := Tryz.prog) w 71 5 none 0 c 0 0 Tryz.underlying71
 have H := Lib.hid (show ∃ v', Ending.returned (.slice none 0 0) = .returned v' ∧ OwnB w w.heap.size v' [] ∧ Keeps (fun _ => True) w w from ⟨_, rfl, World.ownsRow_nil _ _ _ _, Keeps.refl _ _⟩)
 go_enter Tryz.func87, Tryz.ntmps87
 go_wp2
 go_ret
 exact H.out
theorem clone_some (ad : Addr) (c : Nat) (F : Nat → Prop) (l : List UInt8) (w : World) (h : Row w (some ad) F (bcells l)) (hl : l.length ≤ 1099511627776) :
  Calls Tryz.prog 87 #[.slice (some ad) l.length c] w fun e w' => ∃ v', e = .returned v' ∧ OwnB w' w.heap.size v' l ∧ Keeps (fun _ => True) w w' := by
 have hn := fun w : World => Lib.run_eql_slice_nil (P := Tryz.prog) w 71 5 (some ad) l.length c 0 0 Tryz.underlying71
 have h0 : (w.alloc (.cells #[] 5)).ownsRow w.heap.size 5 1 (.slice (some ⟨w.heap.size, 0, none⟩) 0 0) 0 [] := World.ownsRow_made w #[] 0 (Nat.le_refl _) (by decide) rfl
 have hsrc : Src Tryz.prog 1 71 (.slice (some ad) l.length c) l.length (bcells l) (w.alloc (.cells #[] 5)) := by
  have := (h.keep ((Keeps.refl F w).alloc (.cells #[] 5))).src (c := c) Tryz.underlying71 (bcells_one l)
  rwa [bcells_len] at this
 have H0 := Lib.hid h0
 have HS := Lib.hid hsrc
 clear h h0 hsrc
 go_enter Tryz.func87, Tryz.ntmps87
 go_wp2_with (at_builtin; refine byte_elem.list_append rfl (.tmp 5) (.tmp 6) _ rfl rfl H0.out rfl HS.out ?c3 ?c4 ?c5 ?_)
 case c3 => unfold maxLen; omega
 case c4 => omega
 case c5 => simp
 intro v' w1 hown' hg hb
 have hk : Keeps (fun _ => True) w w1 := by
  exact ((Onto.refl _ _).grown hg (by simpa using hb)).keeps ((Keeps.refl _ w).alloc _) (by simp [Value.ownBlock])
 have ho : OwnB w1 w.heap.size v' l := by unfold OwnB; simpa using hown'
 have H1 := Lib.hid ho
 have H2 := Lib.hid hk
 clear ho hk hown' hg hb
 go_wp2
 go_ret
 exact ⟨_, rfl, H1.out, H2.out⟩
theorem clone_any (A : Option Addr) (c : Nat) (F : Nat → Prop) (l : List UInt8) (w : World) (h : Row w A F (bcells l)) (hl : l.length ≤ 1099511627776) :
  Calls Tryz.prog 87 #[.slice A l.length c] w fun e w' => ∃ v', e = .returned v' ∧ OwnB w' w.heap.size v' l ∧ Keeps (fun _ => True) w w' := by
 rcases A with _ | ad
 ·have hx : l = [] := Classical.byContradiction fun hx => by
   obtain ⟨b, o, e, _⟩ := h (by simpa [bcells] using hx)
   cases e
  subst hx
  exact clone_nil c w
 ·exact clone_some ad c F l w h hl
end Go.Proofs.YtemkjodkmehffaaGreatDoor
namespace Go.Proofs.YtemkjodkmehffaaGreatDoor
def tbit (c : Nat) : Nat := if c % 2 = 1 then c / 2 ^^^ 3988292384 else c / 2
def tbits : Nat → Nat → Nat
 | 0, c => c
 | n + 1, c => tbits n (tbit c)
def t8 (c : Nat) : Nat := tbits 8 c
def crcF (c : Nat) (l : List UInt8) : Nat := l.foldl (fun c b => t8 (c ^^^ b.toNat)) c
def crcN (l : List UInt8) : Nat := 4294967295 - crcF 4294967295 l
theorem tbit_lt (c : Nat) (h : c < 4294967296) : tbit c < 4294967296 := by
 unfold tbit; split
 ·exact Nat.xor_lt_two_pow (n := 32) (by omega) (by decide)
 ·omega
theorem tbits_lt (n c : Nat) (h : c < 4294967296) : tbits n c < 4294967296 := by
 induction n generalizing c with
 | zero => exact h
 | succ n ih => exact ih _ (tbit_lt c h)
theorem t8_lt (c : Nat) (h : c < 4294967296) : t8 c < 4294967296 := tbits_lt 8 c h
theorem xor_lt32 {a b : Nat} (ha : a < 4294967296) (hb : b < 4294967296) : a ^^^ b < 4294967296 := Nat.xor_lt_two_pow (n := 32) ha hb
theorem byte_lt32 (b : UInt8) : b.toNat < 4294967296 := Nat.lt_trans b.toNat_lt (by decide)
theorem crcF_lt (l : List UInt8) (c : Nat) (h : c < 4294967296) : crcF c l < 4294967296 := by
 induction l generalizing c with
 | nil => exact h
 | cons b l ih => exact ih _ (t8_lt _ (xor_lt32 h (byte_lt32 b)))
theorem crcF_append (c : Nat) (l r : List UInt8) : crcF c (l ++ r) = crcF (crcF c l) r := by unfold crcF; rw [List.foldl_append]
theorem crcF_snoc (c : Nat) (l : List UInt8) (b : UInt8) : crcF c (l ++ [b]) = t8 (crcF c l ^^^ b.toNat) := by rw [crcF_append]; rfl
theorem tbit_bit (c i : Nat) : (tbit c).testBit i = (c.testBit (i + 1) ^^ (c.testBit 0 && (3988292384 : Nat).testBit i)) := by
 have e0 : c.testBit 0 = decide (c % 2 = 1) := Nat.testBit_zero c
 have e1 : c.testBit (i + 1) = (c / 2).testBit i := Nat.testBit_succ c i
 unfold tbit
 split
 ·rename_i h; rw [Nat.testBit_xor, e0, e1]; simp [h]
 ·rename_i h; rw [e0, e1]; simp [h]
theorem tbit_xor (a b : Nat) : tbit (a ^^^ b) = tbit a ^^^ tbit b := by
 apply Nat.eq_of_testBit_eq
 intro i
 rw [Nat.testBit_xor, tbit_bit, tbit_bit, tbit_bit, Nat.testBit_xor, Nat.testBit_xor]
 cases a.testBit (i + 1) <;> cases b.testBit (i + 1) <;> cases a.testBit 0 <;> cases b.testBit 0 <;> cases (3988292384 : Nat).testBit i <;> rfl
theorem tbits_xor (n a b : Nat) : tbits n (a ^^^ b) = tbits n a ^^^ tbits n b := by
 induction n generalizing a b with
 | zero => rfl
 | succ n ih => simp only [tbits]; rw [tbit_xor, ih]
theorem tbits_shift (n w : Nat) : tbits n (2 ^ n * w) = w := by
 induction n with
 | zero => simp [tbits]
 | succ n ih =>
  have e : 2 ^ (n + 1) * w = 2 * (2 ^ n * w) := by rw [Nat.pow_succ, Nat.mul_comm (2 ^ n) 2, Nat.mul_assoc]
  have t : tbit (2 ^ (n + 1) * w) = 2 ^ n * w := by
   unfold tbit; rw [if_neg (by rw [e]; omega), e]; omega
  simp only [tbits]; rw [t, ih]
theorem tbits_table (n c : Nat) : tbits n c = tbits n (c % 2 ^ n) ^^^ c / 2 ^ n := by
 have e : c = c % 2 ^ n ^^^ 2 ^ n * (c / 2 ^ n) := by
  apply Nat.eq_of_testBit_eq
  intro i
  rw [Nat.testBit_xor, Nat.testBit_mod_two_pow, Nat.testBit_two_pow_mul, Nat.testBit_div_two_pow]
  by_cases h : i < n
  ·have h2 : ¬ n ≤ i := by omega
   simp [h, h2]
  ·have h2 : n ≤ i := by omega
   simp [h, h2]
 conv => lhs; rw [e]
 rw [tbits_xor, tbits_shift]
theorem tbits_add (m n c : Nat) : tbits (m + n) c = tbits n (tbits m c) := by
 induction m generalizing c with
 | zero => rw [Nat.zero_add]; rfl
 | succ m ih => rw [Nat.succ_add]; simp only [tbits]; exact ih _
theorem not_xor (c : Nat) (h : c < 4294967296) : 4294967295 - c = c ^^^ 4294967295 := by
 apply Nat.eq_of_testBit_eq
 intro i
 have e : 4294967295 - c = 2 ^ 32 - (c + 1) := by omega
 rw [e, Nat.testBit_two_pow_sub_succ (by omega), Nat.testBit_xor]
 have e2 : (4294967295 : Nat).testBit i = decide (i < 32) := by
  rw [show (4294967295 : Nat) = 2 ^ 32 - 1 from by decide, Nat.testBit_two_pow_sub_one]
 rw [e2]
 by_cases hi : i < 32
 ·simp [hi]
 ·have := Nat.testBit_lt_two_pow (Nat.lt_of_lt_of_le (show c < 2 ^ 32 from h) (Nat.pow_le_pow_right (by decide) (show 32 ≤ i by omega)))
  simp [hi, this]
theorem crcN_lt (l : List UInt8) : crcN l < 4294967296 := by unfold crcN; omega
end Go.Proofs.YtemkjodkmehffaaGreatDoor
