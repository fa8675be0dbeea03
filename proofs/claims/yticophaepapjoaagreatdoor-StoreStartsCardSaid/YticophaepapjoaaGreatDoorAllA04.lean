/-
  CrcMath, SecMath, Equal, Crc, SecWalk, InvCopy, SecEnc: texts of mine, joined.
-/
import Derived.Test.YticophaepapjoaaGreatDoorAllA01
import Derived.Test.YticophaepapjoaaGreatDoorAllA00
import Derived.Test.YticophaepapjoaaGreatDoorWords
import Derived.Test.YticophaepapjoaaGreatDoorProg
import Derived.WalkKit
import Derived.Lib.Hide
import Derived.Laws.BitsAllLaws
import Derived.Test.YticophaepapjoaaGreatDoorAllA03
import Derived.Test.YticophaepapjoaaGreatDoorAllA02
import Derived.Outline
namespace Go.Proofs.YticophaepapjoaaGreatDoor
def tbit (c : Nat) : Nat := if c % 2 = 1 then c / 2 ^^^ 3988292384 else c / 2
def tbits : Nat → Nat → Nat
 | 0, c => c
 | n + 1, c => tbits n (tbit c)
def t8 (c : Nat) : Nat := tbits 8 c
def crcF (c : Nat) (l : List UInt8) : Nat := l.foldl (fun c b => t8 (c ^^^ b.toNat)) c
def crcN (l : List UInt8) : Nat := 4294967295 - crcF 4294967295 l
theorem tbit_lt (c : Nat) (h : c < 4294967296) : tbit c < 4294967296 := by
 unfold tbit; split
 ·exact Nat.xor_lt_two_pow (n := 32) (by omega) (by decide)
 ·omega
theorem tbits_lt (n c : Nat) (h : c < 4294967296) : tbits n c < 4294967296 := by
 induction n generalizing c with
 | zero => exact h
 | succ n ih => exact ih _ (tbit_lt c h)
theorem t8_lt (c : Nat) (h : c < 4294967296) : t8 c < 4294967296 := tbits_lt 8 c h
theorem xor_lt32 {a b : Nat} (ha : a < 4294967296) (hb : b < 4294967296) : a ^^^ b < 4294967296 := Nat.xor_lt_two_pow (n := 32) ha hb
theorem byte_lt32 (b : UInt8) : b.toNat < 4294967296 := Nat.lt_trans b.toNat_lt (by decide)
theorem crcF_lt (l : List UInt8) (c : Nat) (h : c < 4294967296) : crcF c l < 4294967296 := by
 induction l generalizing c with
 | nil => exact h
 | cons b l ih => exact ih _ (t8_lt _ (xor_lt32 h (byte_lt32 b)))
theorem crcF_cons (c : Nat) (b : UInt8) (l : List UInt8) : crcF c (b :: l) = crcF (t8 (c ^^^ b.toNat)) l := rfl
theorem crcF_append (c : Nat) (l r : List UInt8) : crcF c (l ++ r) = crcF (crcF c l) r := by unfold crcF; rw [List.foldl_append]
theorem crcF_snoc (c : Nat) (l : List UInt8) (b : UInt8) : crcF c (l ++ [b]) = t8 (crcF c l ^^^ b.toNat) := by rw [crcF_append]; rfl
theorem tbit_bit (c i : Nat) : (tbit c).testBit i = (c.testBit (i + 1) ^^ (c.testBit 0 && (3988292384 : Nat).testBit i)) := by
 have e0 : c.testBit 0 = decide (c % 2 = 1) := Nat.testBit_zero c
 have e1 : c.testBit (i + 1) = (c / 2).testBit i := Nat.testBit_succ c i
 unfold tbit
 split
 ·rename_i h; rw [Nat.testBit_xor, e0, e1]; simp [h]
 ·rename_i h; rw [e0, e1]; simp [h]
theorem tbit_xor (a b : Nat) : tbit (a ^^^ b) = tbit a ^^^ tbit b := by
 apply Nat.eq_of_testBit_eq
 intro i
 rw [Nat.testBit_xor, tbit_bit, tbit_bit, tbit_bit, Nat.testBit_xor, Nat.testBit_xor]
 cases a.testBit (i + 1) <;> cases b.testBit (i + 1) <;> cases a.testBit 0 <;> cases b.testBit 0 <;> cases (3988292384 : Nat).testBit i <;> rfl
theorem tbits_xor (n a b : Nat) : tbits n (a ^^^ b) = tbits n a ^^^ tbits n b := by
 induction n generalizing a b with
 | zero => rfl
 | succ n ih => simp only [tbits]; rw [tbit_xor, ih]
theorem t8_xor (a b : Nat) : t8 (a ^^^ b) = t8 a ^^^ t8 b := tbits_xor 8 a b
theorem tbits_shift (n w : Nat) : tbits n (2 ^ n * w) = w := by
 induction n with
 | zero => simp [tbits]
 | succ n ih =>
  have e : 2 ^ (n + 1) * w = 2 * (2 ^ n * w) := by rw [Nat.pow_succ, Nat.mul_comm (2 ^ n) 2, Nat.mul_assoc]
  have t : tbit (2 ^ (n + 1) * w) = 2 ^ n * w := by
   unfold tbit; rw [if_neg (by rw [e]; omega), e]; omega
  simp only [tbits]; rw [t, ih]
theorem t8_shift (w : Nat) : t8 (256 * w) = w := tbits_shift 8 w
theorem t8_zero : t8 0 = 0 := by decide
theorem tbits_table (n c : Nat) : tbits n c = tbits n (c % 2 ^ n) ^^^ c / 2 ^ n := by
 have e : c = c % 2 ^ n ^^^ 2 ^ n * (c / 2 ^ n) := by
  apply Nat.eq_of_testBit_eq
  intro i
  rw [Nat.testBit_xor, Nat.testBit_mod_two_pow, Nat.testBit_two_pow_mul, Nat.testBit_div_two_pow]
  by_cases h : i < n
  ·have h2 : ¬ n ≤ i := by omega
   simp [h, h2]
  ·have h2 : n ≤ i := by omega
   simp [h, h2]
 conv => lhs; rw [e]
 rw [tbits_xor, tbits_shift]
theorem tbits_add (m n c : Nat) : tbits (m + n) c = tbits n (tbits m c) := by
 induction m generalizing c with
 | zero => rw [Nat.zero_add]; rfl
 | succ m ih => rw [Nat.succ_add]; simp only [tbits]; exact ih _
theorem xor_self_iff (a b : Nat) (h : a ^^^ b = 0) : a = b := by
 apply Nat.eq_of_testBit_eq
 intro i
 have e : (a ^^^ b).testBit i = false := by rw [h]; exact Nat.zero_testBit i
 rw [Nat.testBit_xor] at e
 cases ha : a.testBit i <;> cases hb : b.testBit i <;> simp_all
theorem tbit_ne (c : Nat) (h : c < 4294967296) (hz : tbit c = 0) : c = 0 := by
 unfold tbit at hz
 split at hz
 ·have := xor_self_iff _ _ hz; omega
 ·omega
theorem tbits_ne (n c : Nat) (h : c < 4294967296) (hz : tbits n c = 0) : c = 0 := by
 induction n generalizing c with
 | zero => exact hz
 | succ n ih => exact tbit_ne c h (ih _ (tbit_lt c h) hz)
theorem t8_ne (c : Nat) (h : c < 4294967296) (hz : t8 c = 0) : c = 0 := tbits_ne 8 c h hz
def xorL (l r : List UInt8) : List UInt8 := List.zipWith (· ^^^ ·) l r
theorem xorL_toNat (a b : UInt8) : (a ^^^ b).toNat = a.toNat ^^^ b.toNat := UInt8.toNat_xor a b
theorem crcF_xor (l r : List UInt8) (c d : Nat) (h : l.length = r.length) : crcF (c ^^^ d) (xorL l r) = crcF c l ^^^ crcF d r := by
 induction l generalizing r c d with
 | nil => cases r with
  | nil => rfl
  | cons b r => simp at h
 | cons a l ih =>
  cases r with
  | nil => simp at h
  | cons b r =>
   have e : c ^^^ d ^^^ (a.toNat ^^^ b.toNat) = (c ^^^ a.toNat) ^^^ (d ^^^ b.toNat) := by
    rw [Nat.xor_assoc, Nat.xor_assoc, ← Nat.xor_assoc d, Nat.xor_comm d, Nat.xor_assoc a.toNat d]
   show crcF (t8 (c ^^^ d ^^^ (a ^^^ b).toNat)) (xorL l r) = _
   rw [xorL_toNat, e, t8_xor, ih r _ _ (by simpa using h)]
   rfl
theorem not_xor (c : Nat) (h : c < 4294967296) : 4294967295 - c = c ^^^ 4294967295 := by
 apply Nat.eq_of_testBit_eq
 intro i
 have e : 4294967295 - c = 2 ^ 32 - (c + 1) := by omega
 rw [e, Nat.testBit_two_pow_sub_succ (by omega), Nat.testBit_xor]
 have e2 : (4294967295 : Nat).testBit i = decide (i < 32) := by
  rw [show (4294967295 : Nat) = 2 ^ 32 - 1 from by decide, Nat.testBit_two_pow_sub_one]
 rw [e2]
 by_cases hi : i < 32
 ·simp [hi]
 ·have := Nat.testBit_lt_two_pow (Nat.lt_of_lt_of_le (show c < 2 ^ 32 from h) (Nat.pow_le_pow_right (by decide) (show 32 ≤ i by omega)))
  simp [hi, this]
theorem crcN_lt (l : List UInt8) : crcN l < 4294967296 := by unfold crcN; omega
def word : List UInt8 → Nat
 | [] => 0
 | b :: l => b.toNat ^^^ 256 * word l
theorem crcF_word (l : List UInt8) (c : Nat) : crcF c l = tbits (8 * l.length) (c ^^^ word l) := by
 induction l generalizing c with
 | nil => simp [crcF, word, tbits]
 | cons b l ih =>
  rw [crcF_cons, ih]
  have e : t8 (c ^^^ b.toNat) ^^^ word l = t8 (c ^^^ word (b :: l)) := by
   rw [word, ← Nat.xor_assoc, t8_xor (c ^^^ b.toNat), t8_shift]
  rw [e, List.length_cons, show 8 * (l.length + 1) = 8 + 8 * l.length by omega, tbits_add]
  rfl
theorem word_lt (l : List UInt8) : word l < 256 ^ l.length := by
 induction l with
 | nil => simp [word]
 | cons b l ih =>
  rw [word, List.length_cons]
  have h1 : b.toNat < 256 ^ (l.length + 1) := by
   have := Nat.pow_le_pow_right (show 0 < 256 by decide) (show 1 ≤ l.length + 1 by omega)
   have := b.toNat_lt
   omega
  have h2 : 256 * word l < 256 ^ (l.length + 1) := by rw [Nat.pow_succ, Nat.mul_comm]; omega
  have e : (256 : Nat) ^ (l.length + 1) = 2 ^ (8 * (l.length + 1)) := by rw [Nat.pow_mul]
  rw [e] at h1 h2 ⊢
  exact Nat.xor_lt_two_pow h1 h2
theorem word_zero (l : List UInt8) (h : word l = 0) : ∀ b ∈ l, b = 0 := by
 induction l with
 | nil => simp
 | cons b l ih =>
  rw [word] at h
  have e := xor_self_iff _ _ h
  have hb := b.toNat_lt
  have h0 : b.toNat = 0 := by omega
  intro x hx
  rcases List.mem_cons.1 hx with rfl | hx
  ·exact UInt8.toNat_inj.1 (by simpa using h0)
  ·exact ih (by omega) x hx
theorem crcF_zeros (n : Nat) : crcF 0 (List.replicate n 0) = 0 := by
 induction n with
 | zero => rfl
 | succ n ih => rw [List.replicate_succ, crcF_cons]; simpa [t8_zero] using ih
theorem crcF_zeros_ne (n c : Nat) (h : c < 4294967296) (hz : crcF c (List.replicate n 0) = 0) : c = 0 := by
 induction n generalizing c with
 | zero => exact hz
 | succ n ih =>
  rw [List.replicate_succ, crcF_cons] at hz
  have h0 : c ^^^ (0 : UInt8).toNat = c := by simp
  rw [h0] at hz
  exact t8_ne c h (ih _ (t8_lt c h) hz)
theorem crcN_burst (l r x : List UInt8) (m n : Nat) (hx : x.length ≤ 4) (hne : ∃ b ∈ x, b ≠ 0) (hlen : l.length = r.length)
  (h : xorL l r = List.replicate m 0 ++ x ++ List.replicate n 0) : crcN l ≠ crcN r := by
 intro he
 have hI : (4294967295 : Nat) < 4294967296 := by decide
 have l1 := crcF_lt l _ hI
 have l2 := crcF_lt r _ hI
 have e1 : crcF 4294967295 l = crcF 4294967295 r := by unfold crcN at he; omega
 have e2 := crcF_xor l r 4294967295 4294967295 hlen
 rw [e1, Nat.xor_self, Nat.xor_self, h, crcF_append, crcF_append, crcF_zeros] at e2
 have hlt : crcF 0 x < 4294967296 := crcF_lt x 0 (by decide)
 have e3 := crcF_zeros_ne n _ hlt e2
 rw [crcF_word, Nat.zero_xor] at e3
 have hw : word x < 4294967296 := Nat.lt_of_lt_of_le (word_lt x) (Nat.le_trans (Nat.pow_le_pow_right (by decide) hx) (by decide))
 have e4 := tbits_ne _ _ hw e3
 obtain ⟨b, hb, hb0⟩ := hne
 exact hb0 (word_zero x e4 b hb)
end Go.Proofs.YticophaepapjoaaGreatDoor
namespace Go.Proofs.YticophaepapjoaaGreatDoor
def headS (t : Nat) (x : List UInt8) : List UInt8 := putZ (t : Int) ++ putT x
def bodyS (t : Nat) (x : List UInt8) : List UInt8 := headS t x ++ List.replicate (60 - (headS t x).length) 0
def sumL (c : Nat) : List UInt8 := [UInt8.ofNat (c % 256), UInt8.ofNat (c / 256 % 256), UInt8.ofNat (c / 65536 % 256), UInt8.ofNat (c / 16777216 % 256)]
def sumOf (q : UInt8) (l : List UInt8) : List UInt8 := sumL (crcN (q :: l.take 60))
def encF (q : UInt8) (t : Nat) (x : List UInt8) : List UInt8 := bodyS t x ++ sumL (crcN (q :: bodyS t x))
def readF (l : List UInt8) : Option (Int × List UInt8) :=
 if (getZ l).2.2 ≠ 0 then none
 else if (getT (l.drop (getZ l).2.1)).2.2 ≠ 0 then none
 else some ((getZ l).1, (getT (l.drop (getZ l).2.1)).1)
def decF (q : UInt8) (l : List UInt8) : Option (Int × List UInt8) := if l.drop 60 = sumOf q l then readF (l.take 60) else none
def encS (t : Nat) (x : List UInt8) : List UInt8 := encF 83 t x
def takeS : Option (Int × List UInt8) → Option (Nat × List UInt8)
 | none => none
 | some (t, x) => if t < 1 ∨ 1099511627776 < t ∨ 40 < x.length then none else some (t.toNat, x)
def decS (l : List UInt8) : Option (Nat × List UInt8) := takeS (decF 83 l)
theorem sumL_len (c : Nat) : (sumL c).length = 4 := rfl
theorem toNat_ofNat_mod (a : Nat) : (UInt8.ofNat (a % 256)).toNat = a % 256 := by
 rw [UInt8.toNat_ofNat']; omega
theorem sumL_inj (a b : Nat) (ha : a < 4294967296) (hb : b < 4294967296) (h : sumL a = sumL b) : a = b := by
 unfold sumL at h
 simp only [List.cons.injEq, and_true] at h
 obtain ⟨h0, h1, h2, h3⟩ := h
 have e0 := congrArg UInt8.toNat h0
 have e1 := congrArg UInt8.toNat h1
 have e2 := congrArg UInt8.toNat h2
 have e3 := congrArg UInt8.toNat h3
 rw [toNat_ofNat_mod, toNat_ofNat_mod] at e0 e1 e2 e3
 omega
theorem putZ_small (t : Nat) (ht : t < 2199023255552) : (putZ (t : Int)).length ≤ 6 := by
 unfold putZ
 refine vin_len 5 _ ?_
 have : zig (t : Int) = 2 * t := by unfold zig; rw [if_neg (by omega)]; omega
 rw [this]
 have e : (128 : Nat) ^ (5 + 1) = 4398046511104 := by decide
 omega
theorem putT_small (x : List UInt8) (hx : x.length ≤ 63) : (putT x).length = x.length + 1 := by
 unfold putT putZ
 have : zig (x.length : Int) = 2 * x.length := by unfold zig; rw [if_neg (by omega)]; omega
 rw [this, vin_small _ (by omega)]
 simp
theorem headS_len (t : Nat) (x : List UInt8) (hx : x.length ≤ 53) (ht : t < 2199023255552) : (headS t x).length ≤ 60 := by
 unfold headS
 have := putZ_small t ht
 have := putT_small x (by omega)
 rw [List.length_append]; omega
theorem bodyS_len (t : Nat) (x : List UInt8) (h : (headS t x).length ≤ 60) : (bodyS t x).length = 60 := by
 unfold bodyS; rw [List.length_append, List.length_replicate]; omega
theorem encF_len (q : UInt8) (t : Nat) (x : List UInt8) (h : (headS t x).length ≤ 60) : (encF q t x).length = 64 := by
 unfold encF; rw [List.length_append, bodyS_len t x h, sumL_len]
theorem encF_take (q : UInt8) (t : Nat) (x : List UInt8) (h : (headS t x).length ≤ 60) : (encF q t x).take 60 = bodyS t x := by
 unfold encF; rw [← bodyS_len t x h]; exact List.take_left
theorem encF_drop (q : UInt8) (t : Nat) (x : List UInt8) (h : (headS t x).length ≤ 60) : (encF q t x).drop 60 = sumL (crcN (q :: bodyS t x)) := by
 unfold encF; rw [← bodyS_len t x h]; exact List.drop_left
theorem decF_enc (q : UInt8) (t : Nat) (x : List UInt8) (h : (headS t x).length ≤ 60) (ht : t < 9223372036854775808) (hx : x.length ≤ 65536) : decF q (encF q t x) = some ((t : Int), x) := by
 have hz : getZ (bodyS t x) = ((t : Int), (putZ (t : Int)).length, 0) := by
  unfold bodyS headS
  rw [List.append_assoc]
  exact getZ_put _ _ (by omega) (by omega)
 have hd : (bodyS t x).drop (putZ (t : Int)).length = putT x ++ List.replicate (60 - (headS t x).length) 0 := by
  have e : bodyS t x = putZ (t : Int) ++ (putT x ++ List.replicate (60 - (headS t x).length) 0) := by
   conv => lhs; unfold bodyS; arg 1; unfold headS
   rw [List.append_assoc]
  rw [e]; exact List.drop_left
 have hg : getT ((bodyS t x).drop (putZ (t : Int)).length) = (x, (putT x).length, 0) := by rw [hd]; exact getT_put x _ hx
 unfold decF
 rw [if_pos (by rw [encF_drop q t x h]; unfold sumOf; rw [encF_take q t x h]), encF_take q t x h]
 unfold readF
 rw [hz]
 simp only
 rw [hg]
 simp only
 rw [if_neg (by omega), if_neg (by omega)]
theorem blank_take : blank.take 60 = List.replicate 60 0 := by unfold blank; rw [List.take_replicate]; rfl
theorem readF_blank : readF (blank.take 60) = some (0, []) := by
 have e0 : (putZ 0) = [0] := by unfold putZ; rw [show zig 0 = 0 from rfl, vin_small 0 (by decide)]; rfl
 have h : getZ (blank.take 60) = (0, 1, 0) := by
  have e : blank.take 60 = putZ 0 ++ List.replicate 59 0 := by rw [blank_take, e0]; rfl
  rw [e, getZ_put 0 _ (by omega) (by omega), e0]; rfl
 have h2 : getT ((blank.take 60).drop 1) = ([], 1, 0) := by
  have e : (blank.take 60).drop 1 = putT [] ++ List.replicate 58 0 := by
   rw [blank_take, List.drop_replicate]; unfold putT; simp only [List.length_nil, Int.ofNat_zero, List.append_nil]
   rw [e0]; rfl
  rw [e, getT_put [] _ (by decide)]
  unfold putT; simp only [List.length_nil, List.append_nil, Int.ofNat_zero]; rw [e0]; rfl
 unfold readF; rw [h]; simp only; rw [h2]; simp
theorem decF_blank (q : UInt8) : decF q blank = none ∨ decF q blank = some (0, []) := by
 unfold decF; split
 ·exact .inr readF_blank
 ·exact .inl rfl
theorem encS_len (t : Nat) (x : List UInt8) (hx : x.length ≤ 40) (ht : t ≤ 1099511627776) : (encS t x).length = 64 := encF_len _ t x (headS_len t x (by omega) (by omega))
theorem decS_enc (t : Nat) (x : List UInt8) (hx : x.length ≤ 40) (h1 : 1 ≤ t) (ht : t ≤ 1099511627776) : decS (encS t x) = some (t, x) := by
 unfold decS encS
 rw [decF_enc _ t x (headS_len t x (by omega) (by omega)) (by omega) (by omega)]
 unfold takeS
 simp only
 rw [if_neg (by omega), Int.toNat_natCast]
theorem decS_blank : decS blank = none := by
 unfold decS
 rcases decF_blank 83 with h | h <;> rw [h]
 ·rfl
 ·unfold takeS; simp
theorem set_ne (l : List UInt8) (i : Nat) (b : UInt8) (hi : i < l.length) (hb : b ≠ 0) : l.set i (l.getD i 0 ^^^ b) ≠ l := by
 intro h
 have e : (l.set i (l.getD i 0 ^^^ b))[i]? = l[i]? := by rw [h]
 rw [List.getElem?_set_self hi, List.getElem?_eq_getElem hi, List.getD_eq_getElem?_getD, List.getElem?_eq_getElem hi] at e
 simp only [Option.getD_some, Option.some.injEq] at e
 have e2 : (l[i] ^^^ b).toNat = l[i].toNat := by rw [e]
 rw [UInt8.toNat_xor] at e2
 have e3 : l[i].toNat ^^^ (l[i].toNat ^^^ b.toNat) = 0 := by rw [e2, Nat.xor_self]
 rw [← Nat.xor_assoc, Nat.xor_self, Nat.zero_xor] at e3
 exact hb (UInt8.toNat_inj.1 (by simpa using e3))
theorem xor_back (a b : UInt8) : a ^^^ (a ^^^ b) = b := by
 apply UInt8.toNat_inj.1
 rw [UInt8.toNat_xor, UInt8.toNat_xor, ← Nat.xor_assoc, Nat.xor_self, Nat.zero_xor]
theorem xorL_set (l : List UInt8) (i : Nat) (b : UInt8) (hi : i < l.length) : xorL l (l.set i (l.getD i 0 ^^^ b)) = List.replicate i 0 ++ [b] ++ List.replicate (l.length - 1 - i) 0 := by
 apply List.ext_getElem?
 intro j
 unfold xorL
 rw [List.getElem?_zipWith, List.getElem?_set]
 by_cases hj : j < l.length
 ·rw [List.getElem?_eq_getElem hj]
  by_cases hij : i = j
  ·subst hij
   simp [hj, List.getD_eq_getElem?_getD, xor_back]
  ·simp only [hij, if_false]
   have hx : ∀ a : UInt8, a ^^^ a = 0 := fun a => by
    apply UInt8.toNat_inj.1; rw [UInt8.toNat_xor, Nat.xor_self]; rfl
   simp only [hx]
   symm
   rcases Nat.lt_or_ge j i with h | h
   ·simp [List.getElem?_append, h]
   ·rw [List.getElem?_append_right (by simp; omega), List.getElem?_replicate]
    simp
    omega
 ·rw [List.getElem?_eq_none (by omega)]
  symm
  simp
  omega
theorem crcN_set (l : List UInt8) (i : Nat) (b : UInt8) (hi : i < l.length) (hb : b ≠ 0) : crcN l ≠ crcN (l.set i (l.getD i 0 ^^^ b)) :=
 crcN_burst l _ [b] i (l.length - 1 - i) (by simp) ⟨b, by simp, hb⟩ (by simp) (xorL_set l i b hi)
theorem decF_bad (q : UInt8) (t : Nat) (x : List UInt8) (i : Nat) (b : UInt8) (h0 : (headS t x).length ≤ 60) (hi : i < 64) (hb : b ≠ 0) : decF q ((encF q t x).set i ((encF q t x).getD i 0 ^^^ b)) = none := by
 have h1 := encF_take q t x h0
 have h2 := encF_drop q t x h0
 have hl := encF_len q t x h0
 unfold decF
 rw [if_neg]
 unfold sumOf
 rcases Nat.lt_or_ge i 60 with h | h
 ·rw [List.drop_set_of_lt h, h2, List.take_set]
  have e : (encF q t x).getD i 0 = (bodyS t x).getD i 0 := by
   rw [← h1, List.getD_eq_getElem?_getD, List.getD_eq_getElem?_getD, List.getElem?_take, if_pos h]
  rw [h1, e]
  intro hs
  have e3 := sumL_inj _ _ (crcN_lt _) (crcN_lt _) hs
  refine crcN_set (q :: bodyS t x) (i + 1) b (by rw [List.length_cons, bodyS_len t x h0]; omega) hb ?_
  rw [List.set_cons_succ]
  have e4 : (q :: bodyS t x).getD (i + 1) 0 = (bodyS t x).getD i 0 := by simp [List.getD_eq_getElem?_getD]
  rw [e4]
  exact e3
 ·rw [List.take_set_of_le h, h1]
  have e : (encF q t x).getD i 0 = ((encF q t x).drop 60).getD (i - 60) 0 := by
   rw [List.getD_eq_getElem?_getD, List.getD_eq_getElem?_getD, List.getElem?_drop]
   congr 3; omega
  have e2 : ((encF q t x).set i ((encF q t x).getD i 0 ^^^ b)).drop 60 = ((encF q t x).drop 60).set (i - 60) (((encF q t x).drop 60).getD (i - 60) 0 ^^^ b) := by
   rw [List.drop_set, if_neg (by omega), e]
  rw [e2, ← h2]
  exact set_ne _ _ _ (by rw [List.length_drop]; omega) hb
theorem decS_bad (t : Nat) (x : List UInt8) (i : Nat) (b : UInt8) (hx : x.length ≤ 40) (ht : t ≤ 1099511627776) (hi : i < 64) (hb : b ≠ 0) : decS ((encS t x).set i ((encS t x).getD i 0 ^^^ b)) = none := by
 unfold decS encS
 rw [decF_bad _ t x i b (headS_len t x (by omega) (by omega)) hi hb]; rfl
end Go.Proofs.YticophaepapjoaaGreatDoor
namespace Go.Proofs.YticophaepapjoaaGreatDoor
open Go Go.RowKit
theorem equal_any (A B : Option Addr) (c d n m : Nat) (F G : Nat → Prop) (l r : List UInt8) (w : World) (h1 : Row w A F (bcells l)) (h2 : Row w B G (bcells r)) (hn : n = l.length) (hm : m = r.length) (x : Bool) (hx : ((txt l).toList == (txt r).toList) = x) :
  Calls Tryz.prog 198 #[.slice A n c, .slice B m d] w fun e w' => e = .returned (.bool x) ∧ w = w' := by
 have c1 := h1.to_string (P := Tryz.prog) Tryz.underlying64 Tryz.underlying5 Tryz.underlying9 n c hn
 have c2 := h2.to_string (P := Tryz.prog) Tryz.underlying64 Tryz.underlying5 Tryz.underlying9 m d hm
 clear h1 h2 hn hm
 go_enter Tryz.func198, Tryz.ntmps198
 go_wp2
 go_ret
 exact ⟨rfl, rfl⟩
def Taken (w : World) : Prop := ∀ i, i < 16 → w.cell? ⟨0, i, none⟩ = some (.int .u32 ((tbits 4 i : Nat) : Int))
theorem Taken.keep {w w' : World} (h : Taken w) (hk : Keeps (fun _ => True) w w') : Taken w' := fun i hi => hk.cell (h i hi) trivial
theorem Taken.alloc {w : World} (h : Taken w) (o : Obj) : Taken (w.alloc o) := h.keep ((Keeps.refl _ w).alloc o)
theorem ret_u32 {a b : Int} (h : a = b) : Ending.returned (.int .u32 a) = .returned (.int .u32 b) := by rw [h]
def half (x : Nat) : Nat := x / 16 ^^^ tbits 4 (x % 16)
theorem half_tbits (x : Nat) : half x = tbits 4 x := by
 unfold half; rw [tbits_table 4 x, Nat.xor_comm]
theorem half_lt (x : Nat) (h : x < 4294967296) : half x < 4294967296 := by rw [half_tbits]; exact tbits_lt 4 x h
theorem half_half (x : Nat) : half (half x) = t8 x := by rw [half_tbits, half_tbits]; exact (tbits_add 4 4 x).symm
theorem half_z (x : Nat) (h : x < 4294967296) : bits .xor .u32 ((x : Int) / 16) ((tbits 4 (x % 16) : Nat) : Int) = ((half x : Nat) : Int) := by
 have e : (x : Int) / 16 = ((x / 16 : Nat) : Int) := rfl
 rw [e]
 exact u32_xor_nat _ _ (by omega) (tbits_lt 4 _ (by omega))
theorem in_z (c : Nat) (b : UInt8) (h : c < 4294967296) : bits .xor .u32 (c : Int) (b.toNat : Int) = ((c ^^^ b.toNat : Nat) : Int) := u32_xor_nat _ _ h (byte_lt32 b)
theorem crcF_next (c : Nat) (l : List UInt8) (k : Nat) (h : k < l.length) : crcF c (l.take (k + 1)) = half (half (crcF c (l.take k) ^^^ l[k].toNat)) := by
 rw [List.take_succ_eq_append_getElem h, crcF_snoc, half_half]
set_option maxHeartbeats 400000 in
theorem add_part (c : Nat) (hc : c < 4294967296) (A : Option Addr) (cap : Nat) (F : Nat → Prop) (l : List UInt8) (w : World) (h : Row w A F (bcells l)) (hl : l.length ≤ maxLen) (hT : Taken w) :
  Calls Tryz.prog 175 #[.int .u32 (c : Int), .slice A l.length cap] w fun e w' => e = .returned (.int .u32 ((crcF c l : Nat) : Int)) ∧ w = w' := by
 unfold maxLen at hl
 have HT := Lib.hid hT
 have HC := Lib.hid hc
 clear hT hc
 go_enter Tryz.func175, Tryz.ntmps175
 go_wp2
 go_loop [0, 9] (fun t i => ∃ k : Nat, k ≤ l.length ∧ i = .int .i64 k ∧ t = .int .u32 ((crcF c (l.take k) : Nat) : Int)) (fun _ i => l.length - (intOf i).toNat)
 case atStart => exact ⟨0, Nat.zero_le _, rfl, rfl⟩
 case round =>
  obtain ⟨k, hk, rfl, rfl⟩ := hrel
  by_cases hlt : k < l.length
  ·obtain ⟨b, o, rfl, _, hcell⟩ := h.at_ (k := k) (by simpa [bcells] using hlt)
   simp only [bcells, List.getElem_map, bcell] at hcell
   have H := Lib.hid (crcF_next c l k hlt)
   have hx := crcF_lt (l.take k) c HC.out
   have hb := byte_lt32 l[k]
   generalize crcF c (l.take k) = x at H hx
   have e1 := in_z x l[k] hx
   have hy : x ^^^ l[k].toNat < 4294967296 := xor_lt32 hx hb
   generalize x ^^^ l[k].toNat = y at H e1 hy
   have e2 := half_z y hy
   have hz := half_lt y hy
   have c1 := HT.out (y % 16) (Nat.mod_lt _ (by decide))
   generalize half y = z at H e2 hz
   have e3 := half_z z hz
   have c2 := HT.out (z % 16) (Nat.mod_lt _ (by decide))
   clear h
   go_wp2
   go_round
   case rel => exact ⟨k + 1, by omega, by go_num, by rw [H.out]⟩
   case measure => simp [intOf]; omega
  ·obtain rfl : k = l.length := by omega
   rw [List.take_length]
   go_wp2
   go_ret
   exact ⟨rfl, rfl⟩
def joined (ps : List Part) : List UInt8 := ps.flatMap (·.l)
theorem joined_next (c : Nat) (ps : List Part) (k : Nat) (h : k < ps.length) : crcF c (joined (ps.take (k + 1))) = crcF (crcF c (joined (ps.take k))) ps[k].l := by
 unfold joined
 rw [List.take_succ_eq_append_getElem h, List.flatMap_append, crcF_append]; simp
theorem u32_compl (x : Nat) (h : x < 4294967296) : bits .xor .u32 4294967295 (x : Int) = ((4294967295 - x : Nat) : Int) := by
 have e := u32_xor_nat 4294967295 x (by decide) h
 rw [not_xor x h, Nat.xor_comm, ← e]; rfl
set_option maxHeartbeats 400000 in
theorem sum_any (B : Option Addr) (d : Nat) (F G : Nat → Prop) (ps : List Part) (w : World) (hB : Row w B G (ps.map Part.val)) (hp : Parts w F ps) (hn : ps.length ≤ maxLen) (hT : Taken w) :
  Calls Tryz.prog 142 #[.slice B ps.length d] w fun e w' => e = .returned (.int .u32 ((crcN (joined ps) : Nat) : Int)) ∧ w = w' := by
 unfold maxLen at hn
 have HT := Lib.hid hT
 have HP := Lib.hid hp
 clear hT hp
 go_enter Tryz.func142, Tryz.ntmps142
 go_wp2
 go_loop [3, 8] (fun t i => ∃ k : Nat, k ≤ ps.length ∧ i = .int .i64 k ∧ t = .int .u32 ((crcF 4294967295 (joined (ps.take k)) : Nat) : Int)) (fun _ i => ps.length - (intOf i).toNat)
 case atStart => exact ⟨0, Nat.zero_le _, rfl, rfl⟩
 case round =>
  obtain ⟨k, hk, rfl, rfl⟩ := hrel
  have hx := crcF_lt (joined (ps.take k)) 4294967295 (by decide)
  by_cases hlt : k < ps.length
  ·obtain ⟨b, o, rfl, _, hcell⟩ := hB.at_ (k := k) (by simpa using hlt)
   simp only [List.getElem_map, Part.val] at hcell
   have H := Lib.hid (joined_next 4294967295 ps k hlt)
   have hpart := HP.out ps[k] (List.getElem_mem hlt)
   generalize crcF 4294967295 (joined (ps.take k)) = x at H hx
   generalize ps[k] = p at H hpart hcell
   have h1 := Lib.hid hpart.1
   have h2 := hpart.2
   clear hB hpart
   go_wp2_with (go_at_call 175; ((with_reducible refine (add_part x hx _ _ F p.l _ h1.out h2 HT.out).mono ?_); rintro e w' ⟨rfl, rfl⟩))
   go_round
   case rel => exact ⟨k + 1, by omega, by go_num, by rw [H.out]⟩
   case measure => simp [intOf]; omega
  ·obtain rfl : k = ps.length := by omega
   rw [List.take_length] at hx ⊢
   have e : bits .xor .u32 4294967295 ((crcF 4294967295 (joined ps) : Nat) : Int) = ((crcN (joined ps) : Nat) : Int) := u32_compl _ hx
   generalize crcF 4294967295 (joined ps) = x at e hx
   have H := Lib.hid e
   clear e
   go_wp2
   go_ret
   exact ⟨ret_u32 H.out, rfl⟩
end Go.Proofs.YticophaepapjoaaGreatDoor
namespace Go.Proofs.YticophaepapjoaaGreatDoor
open Go Go.RowKit Go.Joins
theorem sum_lit (q : UInt8) (z : Int) (hz : z = (q.toNat : Int)) (A : Option Addr) (cap : Nat) (l : List UInt8) (n : Nat) (hn : n = l.length) (F : Nat → Prop) (w : World) (h2 : Row w A F (bcells l)) (hl : l.length ≤ maxLen) (hT : Taken w) :
  Calls Tryz.prog 142 #[.slice (some ⟨w.heap.size + 1, 0, none⟩) 2 2] ((w.alloc (.cells #[.int .u8 z] 5)).alloc (.cells #[.slice (some ⟨w.heap.size, 0, none⟩) 1 1, .slice A n cap] 64)) fun e w' => e = .returned (.int .u32 ((crcN (q :: l) : Nat) : Int)) ∧ (w.alloc (.cells #[.int .u8 z] 5)).alloc (.cells #[.slice (some ⟨w.heap.size, 0, none⟩) 1 1, .slice A n cap] 64) = w' := by
 subst hn hz
 have r0 : Row (w.alloc (.cells #[.int .u8 (q.toNat : Int)] 5)) (some ⟨w.heap.size, 0, none⟩) (fun _ => True) (bcells [q]) := Row.fresh w #[.int .u8 (q.toNat : Int)] 5 (0, 0) _ rfl trivial _ rfl
 have h2' := h2.mono (G := fun _ => True) fun _ _ _ => trivial
 have h := sum_any (some ⟨w.heap.size + 1, 0, none⟩) 2 (fun _ => True) (fun _ => True) [⟨some ⟨w.heap.size, 0, none⟩, 1, [q]⟩, ⟨A, cap, l⟩] ((w.alloc (.cells #[.int .u8 (q.toNat : Int)] 5)).alloc (.cells #[.slice (some ⟨w.heap.size, 0, none⟩) 1 1, .slice A l.length cap] 64))
  (Row.fresh (w.alloc (.cells #[.int .u8 (q.toNat : Int)] 5)) #[.slice (some ⟨w.heap.size, 0, none⟩) 1 1, .slice A l.length cap] 64 (0, 0) _ (by simp) trivial _ rfl)
  (fun p hp => by
   simp only [List.mem_cons, List.not_mem_nil, or_false] at hp
   rcases hp with rfl | rfl
   ·exact ⟨r0.alloc _, by show 1 ≤ maxLen; decide⟩
   ·exact ⟨(h2'.alloc _).alloc _, hl⟩) (by show 2 ≤ maxLen; decide) ((hT.alloc _).alloc _)
 have e : joined [⟨some ⟨w.heap.size, 0, none⟩, 1, [q]⟩, ⟨A, cap, l⟩] = q :: l := by simp [joined]
 rw [e] at h
 exact h
set_option maxHeartbeats 400000 in
theorem fsum_any (q : UInt8) (z : Int) (hz : z = (q.toNat : Int)) (A : Option Addr) (c : Nat) (F : Nat → Prop) (l : List UInt8) (w : World) (h : Row w A F (bcells l)) (hl : l.length = 64) (hc : 64 ≤ c) (hcm : c ≤ maxLen) (hT : Taken w) :
  Calls Tryz.prog 110 #[.int .u8 z, .slice A 64 c] w fun e w' => ∃ v, e = .returned v ∧ OwnB w' w.heap.size v (sumOf q l) ∧ Keeps (fun _ => True) w w' := by
 unfold maxLen at hcm
 obtain ⟨b, o, rfl, -, -⟩ := h (by intro e; have := congrArg List.length e; rw [bcells_len, hl] at this; simp at this)
 have hs := sum_lit q z hz (some ⟨b, o, none⟩) c (l.take 60) 60 (by rw [List.length_take]; omega) F w (bcells_take h 60) (by rw [List.length_take]; unfold maxLen; omega) hT
 have hx := crcN_lt (q :: l.take 60)
 have HE := Lib.hid (show sumOf q l = sumL (crcN (q :: l.take 60)) from rfl)
 generalize crcN (q :: l.take 60) = x at hs hx HE
 have HS := Lib.hid hs
 obtain ⟨w2, hw2⟩ : ∃ w2, (w.alloc (.cells #[.int .u8 z] 5)).alloc (.cells #[.slice (some ⟨w.heap.size, 0, none⟩) 1 1, .slice (some ⟨b, o, none⟩) 60 c] 64) = w2 := ⟨_, rfl⟩
 have hk2 : Keeps (fun _ => True) w w2 := by rw [← hw2]; exact ((Keeps.refl _ w).alloc _).alloc _
 have hfin : ∀ g : Nat, g = w2.heap.size → ∃ v, Ending.returned (Value.slice (some ⟨g, 0, none⟩) 4 4) = .returned v ∧ OwnB (w2.alloc (.cells #[.int .u8 ((x : Int) % 256), .int .u8 ((x : Int) / 256 % 256), .int .u8 ((x : Int) / 65536 % 256), .int .u8 ((x : Int) / 16777216)] 5)) w.heap.size v (sumOf q l) ∧
   Keeps (fun _ => True) w (w2.alloc (.cells #[.int .u8 ((x : Int) % 256), .int .u8 ((x : Int) / 256 % 256), .int .u8 ((x : Int) / 65536 % 256), .int .u8 ((x : Int) / 16777216)] 5)) := by
  rintro g rfl
  have h1 := World.ownsRow_lit (base := w.heap.size) (size := 1) (e := 5) w2 #[.int .u8 ((x : Int) % 256), .int .u8 ((x : Int) / 256 % 256), .int .u8 ((x : Int) / 65536 % 256), .int .u8 ((x : Int) / 16777216)] 4 hk2.size (by decide) rfl
  refine ⟨_, rfl, ?_, hk2.alloc _⟩
  have e : bcells (sumOf q l) = [.int .u8 ((x : Int) % 256), .int .u8 ((x : Int) / 256 % 256), .int .u8 ((x : Int) / 65536 % 256), .int .u8 ((x : Int) / 16777216)] := by
   rw [HE.out]
   unfold sumL bcells bcell
   simp only [List.map_cons, List.map_nil, toNat_ofNat_mod]
   rw [Nat.mod_eq_of_lt (show x / 16777216 < 256 by omega)]
   simp
  have e4 : (sumOf q l).length = 4 := rfl
  unfold OwnB
  rw [e, e4]
  exact h1
 have HF := Lib.hid hfin
 have HW2 := Lib.hid hw2
 have HSZ := Lib.hid (show w.heap.size + 2 = w2.heap.size from by rw [← hw2]; simp)
 clear h hs hl hT hfin HE hw2 hk2 hz
 go_enter Tryz.func110, Tryz.ntmps110
 go_wp2_with fail
 refine HS.out.mono ?_
 rintro e w' ⟨rfl, rfl⟩
 rw [HW2.out]
 have HZ := HSZ.out
 go_wp2_with fail
 go_ret
 exact HF.out _ rfl
end Go.Proofs.YticophaepapjoaaGreatDoor
namespace Go.Proofs.YticophaepapjoaaGreatDoor
open Go Go.RowKit
def StRow (W : World) (base g : Nat) (e : TypeId) (n c : Nat) (xs ys : List Value) (b : Bool) (w : World) : Prop :=
 w.ownsRow base e 1 (.slice (some ⟨g, 0, none⟩) n c) n (if b then ys else xs) ∧ Keeps (fun b => b ≠ g) W w ∧ g < w.heap.size
section
variable {W w w' : World} {base g : Nat} {e : TypeId} {n c : Nat} {xs ys : List Value} {b : Bool}
theorem StRow.keep (h : Kp w w') (hs : StRow W base g e n c xs ys b w) : StRow W base g e n c xs ys b w' :=
 ⟨h.own hs.1 fun _ _ => trivial, hs.2.1.trans (h.mono fun _ _ _ => trivial), Nat.lt_of_lt_of_le hs.2.2 h.size⟩
theorem StRow.put (hs : StRow W base g e n c xs ys false w) (ho : w'.ownsRow base e 1 (.slice (some ⟨g, 0, none⟩) n c) n ys) (hg : w.grownBy w' (some g)) : StRow W base g e n c xs ys true w' :=
 ⟨ho, hs.2.1.trans (Keeps.of_grown hg fun _ e _ hn => by cases e; exact hn rfl), Nat.lt_of_lt_of_le hs.2.2 hg.size⟩
end
def TextG (g : Nat) (l : List UInt8) : World → Value → Prop := fun w v => ∃ A c, v = .slice A l.length c ∧ l.length ≤ c ∧ c ≤ maxLen ∧ Row w A (fun b => b ≠ g) (bcells l)
theorem TextG.keep {g : Nat} {l : List UInt8} {w w' : World} {v : Value} (h : Keeps (fun b => b ≠ g) w w') (hv : TextG g l w v) : TextG g l w' v := by
 obtain ⟨A, c, e, h1, h2, hr⟩ := hv
 exact ⟨A, c, e, h1, h2, hr.keep h⟩
theorem TextG.of_own {g m : Nat} {l : List UInt8} {w' : World} {v : Value} (h : OwnB w' m v l) (hg : g < m) : TextG g l w' v := by
 obtain ⟨A, c, e, hn, hr⟩ := own_slice h
 refine ⟨A, c, e, ?_, ?_, hr.mono fun b _ hb => by omega⟩
 all_goals
  rw [e] at h
  rcases h.2 with ⟨h', h0⟩ | ⟨g', cap', cur, h', _, _, h1, h2, _⟩
  ·injection h' with _ h3 h4; omega
  ·injection h' with _ h3 h4; omega
theorem keeps_grown {g : Nat} {w w' : World} (h : w.grownBy w' (some g)) : Keeps (fun b => b ≠ g) w w' := Keeps.of_grown h fun _ e _ hn => by cases e; exact hn rfl
section
variable {P : Program} {w : World} {o : Oper} {a : Act} {Q : Exit → Act → World → Prop}
theorem one_copy {W : World} {base g n c : Nat} {e : TypeId} {xs ys cs : List Value} (d s : Operand) (dT sT : TypeId) (ho : o.op = .call { callee := .builtin .copy, args := #[d, s], argTypes := #[dT, sT] }) (hu : P.underlying dT = some (.slice e)) (hsz : (P.info? e).map (·.size) = some 1)
  (hs : StRow W base g e n c xs ys false w) (off dLen dCap : Nat) (hd : a.eval d = .slice (some ⟨g, off, none⟩) dLen dCap) (A : Option Addr) (m sc : Nat) (hv : a.eval s = .slice A m sc) (hm : m = cs.length) (hle : cs.length ≤ dLen) (hne : cs ≠ [])
  {G : Nat → Prop} (hrow : Row w A G cs) (h1 : ∀ v ∈ cs, v.oneCell' = true) (hfit : off + cs.length ≤ xs.length) (hys : xs.take off ++ cs ++ xs.drop (off + cs.length) = ys) :
  o.wp P a w (fun a' w' => ∃ v, a' = a.put o.dst v ∧ w.grownBy w' (some g) ∧ StRow W base g e n c xs ys true w' ∧ IsV (goInt cs.length) w' v) Q := by
 subst hm
 obtain ⟨b, o', rfl, _, hc⟩ := hrow hne
 obtain ⟨cur, hg, hl, h2, h3⟩ := own_splice (show w.ownsRow base e 1 (.slice (some ⟨g, 0, none⟩) n c) n xs from hs.1) off cs hfit
 rw [hys] at h2
 have hrun := run_copy_row (P := P) w dT sT o.type e g off dLen dCap ⟨b, o', none⟩ cs.length sc cur e cs hu hsz hg (Nat.min_eq_left hle).symm (fun j v hv => by rw [WideShapes.add_plain]; exact hc j v hv) (by simpa using hl) h1
 clear hys
 generalize w.setRow g (cur.toList.take off ++ cs ++ cur.toList.drop (off + cs.length)).toArray = w2 at hrun h2 h3
 unfold Oper.wp
 simp [execOp, ho, resolve, invoke, builtin, hd, hv, hrun, Result.andThen]
 exact ⟨goInt cs.length, rfl, h3, hs.put h2 h3, rfl⟩
end
end Go.Proofs.YticophaepapjoaaGreatDoor
namespace Go.Proofs.YticophaepapjoaaGreatDoor
open Go Go.RowKit Go.Joins
def GE : Nat → Option Bool := fun _ => none
theorem GE_is {V : Nat → World → Value → Prop} (g : Nat) (c : Bool) (h : GE g = some c) (w : World) (x : Value) (_ : V g w x) : x = .bool c := by cases h
def VF (g : Nat) (z : Int) (s : List UInt8) : Nat → World → Value → Prop
 | 0 => IsV (.slice (some ⟨g, 0, none⟩) 64 64)
 | 1 => IsV (.slice (some ⟨g, 60, none⟩) 4 4)
 | 2 => IsV (.int .u8 z)
 | 3 => IsV (.slice (some ⟨g, 0, none⟩) 64 64)
 | 4 => TextG g s
 | _ => fun _ _ => True
theorem VF_keep {g : Nat} {z : Int} {s : List UInt8} (i : Nat) (w w' : World) (v : Value) (h : Keeps (fun b => b ≠ g) w w') (hv : VF g z s i w v) : VF g z s i w' v := by
 match i, hv with
 | 0, hv => exact hv
 | 1, hv => exact hv
 | 2, hv => exact hv
 | 3, hv => exact hv
 | 4, hv => exact TextG.keep h hv
 | n + 5, _ => trivial
def NewB (w w' : World) (v : Value) (l : List UInt8) : Prop := ∃ A c, v = .slice A l.length c ∧ l.length ≤ c ∧ c ≤ maxLen ∧ Row w' A (fun b => w.heap.size ≤ b ∧ b < w'.heap.size) (bcells l)
theorem NewB.of_own {w0 w w' : World} {v : Value} {l : List UInt8} (h : OwnB w' w.heap.size v l) (hs : w0.heap.size ≤ w.heap.size) : NewB w0 w' v l := by
 obtain ⟨A, c, e, hn, hr⟩ := own_slice h
 refine ⟨A, c, e, ?_, ?_, hr.mono fun b _ hb => ⟨Nat.le_trans hs hb.1, hb.2⟩⟩
 all_goals
  rw [e] at h
  rcases h.2 with ⟨h', h0⟩ | ⟨g', cap', cur, h', _, _, h1, h2, _⟩
  ·injection h' with _ h3 h4; omega
  ·injection h' with _ h3 h4; omega
theorem put_one (n : Int) (h1 : -9223372036854775808 ≤ n) (h2 : n < 9223372036854775808) (w : World) :
  Calls Tryz.prog 79 #[.slice none 0 0, .slice (some ⟨w.heap.size, 0, none⟩) 1 1] (w.alloc (.cells #[.int .i64 n] 2)) fun e w' => ∃ v, e = .returned v ∧ NewB w w' v (putZ n) ∧ Keeps (fun _ => True) w w' := by
 refine (show Calls _ _ _ _ _ from put_any none (some ⟨w.heap.size, 0, none⟩) 0 1 (fun _ => True) (fun _ => True) [] [n] (w.alloc (.cells #[.int .i64 n] 2)) (Row.nil _ _ _) (Row.fresh w #[.int .i64 n] 2 (0, 0) _ rfl trivial _ rfl) (fun m hm => by rw [List.mem_singleton.1 hm]; exact ⟨h1, h2⟩) (by simp) (by simp)).mono ?_
 rintro e w' ⟨v, rfl, ho, hk⟩
 have e : ([] : List UInt8) ++ putsZ [n] = putZ n := by simp [putsZ]
 rw [e] at ho
 exact ⟨v, rfl, NewB.of_own ho (by simp), ((Keeps.refl _ w).alloc _).trans hk⟩
theorem text_one (l x : List UInt8) (hl : l.length ≤ 1000) (hx : x.length ≤ 1000) (w : World) (A : Option Addr) (c : Nat) (F : Nat → Prop) (hA : Row w A F (bcells l)) :
  Calls Tryz.prog 104 #[.slice A l.length c, .slice (some ⟨w.heap.size, 0, none⟩) 1 1] (w.alloc (.cells #[.string (txt x)] 9)) fun e w' => ∃ v, e = .returned v ∧ NewB w w' v (l ++ putT x) ∧ Keeps (fun _ => True) w w' := by
 refine (show Calls _ _ _ _ _ from put_text A (some ⟨w.heap.size, 0, none⟩) c 1 _ (fun _ => True) l [txt x] (w.alloc (.cells #[.string (txt x)] 9)) (hA.alloc _) (Row.fresh w #[.string (txt x)] 9 (0, 0) _ rfl trivial _ rfl) (by unfold total; simp only [List.map_cons, List.map_nil, List.sum_cons, List.sum_nil, txt_size]; omega) (by omega) (by simp)).mono ?_
 rintro e w' ⟨v, rfl, ho, hk⟩
 have e : putsT (strs [txt x]) = putT x := by simp [putsT, strs, txt_list]
 rw [e] at ho
 exact ⟨v, rfl, NewB.of_own ho (by simp), ((Keeps.refl _ w).alloc _).trans hk⟩
theorem blank_cells : bcells blank = List.replicate 64 (bcell 0) := by unfold blank bcells; rw [List.map_replicate]
set_option maxRecDepth 100000 in
theorem made64 : (madeCells (Value.int .u8 0).cells (64 * 1)).toList = bcells blank := by kernel_rfl
def rowS (t : Nat) (x : List UInt8) : List UInt8 := headS t x ++ List.replicate (64 - (headS t x).length) 0
theorem rowS_len (t : Nat) (x : List UInt8) (h : (headS t x).length ≤ 60) : (rowS t x).length = 64 := by
 unfold rowS; rw [List.length_append, List.length_replicate]; omega
theorem rowS_take (t : Nat) (x : List UInt8) (h : (headS t x).length ≤ 60) : (rowS t x).take 60 = bodyS t x := by
 unfold rowS
 rw [List.take_append, List.take_of_length_le h, List.take_replicate]
 unfold bodyS
 congr 2
 omega
theorem head_row (t : Nat) (x : List UInt8) : (bcells blank).take 0 ++ bcells (headS t x) ++ (bcells blank).drop (0 + (bcells (headS t x)).length) = bcells (rowS t x) := by
 unfold rowS
 rw [blank_cells, List.take_zero, List.nil_append, List.drop_replicate, bcells_append, bcells_len, Nat.zero_add]
 congr 1
 unfold bcells
 rw [List.map_replicate]
theorem sumOf_row (q : UInt8) (t : Nat) (x : List UInt8) (h : (headS t x).length ≤ 60) : sumOf q (encF q t x) = sumOf q (rowS t x) := by
 unfold sumOf; rw [encF_take q t x h, rowS_take t x h]
theorem enc_row (q : UInt8) (t : Nat) (x : List UInt8) (h : (headS t x).length ≤ 60) :
  (bcells (rowS t x)).take 60 ++ bcells (sumOf q (rowS t x)) ++ (bcells (rowS t x)).drop (60 + (bcells (sumOf q (rowS t x))).length) = bcells (encF q t x) := by
 have e1 := rowS_take t x h
 have e2 : sumOf q (rowS t x) = sumL (crcN (q :: bodyS t x)) := by unfold sumOf; rw [e1]
 have hbl := rowS_len t x h
 have e3 : (bcells (sumOf q (rowS t x))).length = 4 := by rw [e2]; rfl
 rw [e3, List.drop_of_length_le (by rw [bcells_len]; omega), List.append_nil]
 unfold encF
 rw [← e2, ← e1]
 simp [bcells]
set_option maxRecDepth 100000 in
set_option maxHeartbeats 4000000 in
theorem fmake_any (w : World) (hT : Taken w) (q : UInt8) (z : Int) (hz : z = (q.toNat : Int)) (t : Nat) (x : List UInt8) (ht : t < 9223372036854775808) (hx : x.length ≤ 100) (hh : (headS t x).length ≤ 60) :
  Calls Tryz.prog 78 #[.int .u8 z, .int .i64 (t : Int), .string (txt x)] w fun e w' => ∃ v, e = .returned (.tuple #[v, .int .i64 0]) ∧ OwnB w' w.heap.size v (encF q t x) ∧ Keeps (fun _ => True) w w' := by
 have HT := Lib.hid hT
 have HZ := Lib.hid hz
 have HH := Lib.hid hh
 have HX := Lib.hid hx
 have HL1 := Lib.hid (show (putZ (t : Int)).length ≤ 1000 from by have := hh; unfold headS at this; rw [List.length_append] at this; omega)
 have HP := Lib.hid (fun w => put_one (t : Int) (by omega) (by omega) w)
 have HR := Lib.hid (show bcells (headS t x) ++ List.drop (bcells (headS t x)).length (bcells blank) = bcells (rowS t x) from by
  have h := head_row t x
  rwa [List.take_zero, List.nil_append, Nat.zero_add] at h)
 have HN := Lib.hid (rowS_len t x hh)
 have HE := Lib.hid (enc_row q t x hh)
 have HES := Lib.hid (sumOf_row q t x hh)
 have HEL := Lib.hid (encF_len q t x hh)
 clear hT hz hh hx ht
 go_enter Tryz.func78, Tryz.ntmps78
 go_wp2_with fail
 refine (HP.out w).mono ?_
 rintro e w1 ⟨v1, rfl, ⟨A1, c1, rfl, h1, h2, hr1⟩, hk1⟩
 have HTX := Lib.hid (text_one (putZ (t : Int)) x HL1.out (by have := HX.out; omega) w1 A1 c1 _ hr1)
 have HK1 := Lib.hid hk1
 clear h1 h2 hr1 hk1
 go_wp2_with fail
 refine HTX.out.mono ?_
 rintro e w2 ⟨v2, rfl, hn2, hk2⟩
 rw [show putZ (t : Int) ++ putT x = headS t x from rfl] at hn2
 obtain ⟨A2, c2, rfl, h1, h2, hr2⟩ := hn2
 have HK2 := Lib.hid (HK1.out.trans hk2)
 have HR2 := Lib.hid (hr2.mono (G := fun b => w.heap.size ≤ b ∧ b < w2.heap.size) fun b _ hb => ⟨Nat.le_trans HK1.out.size hb.1, hb.2⟩)
 have HT2 := Lib.hid (HT.out.keep (HK1.out.trans hk2))
 have HH2 := HH.out
 have hd : decide ((60 : Int) < ((headS t x).length : Int)) = false := by simp; omega
 clear h1 h2 hr2 hk2 HTX
 go_wp2_with (refine list_make rfl (.const (.int .i64 64)) (.const (.int .i64 64)) 64 rfl byte_elem .i64 .i64 64 rfl rfl (by decide) (by decide) (bcells blank) made64 ?_)
 intro w3 hown hg3
 have hk3 : Keeps (fun _ => True) w2 w3 := Keeps.of_grown hg3 (fun _ h => by cases h)
 have HR3 := Lib.hid (HR2.out.keep (hk3.mono fun _ _ _ => trivial))
 obtain ⟨g, hgg⟩ : ∃ g, g = w2.heap.size := ⟨_, rfl⟩
 rw [← hgg] at hown ⊢
 have HOWN := Lib.hid hown
 have HG := Lib.hid (show w.heap.size ≤ g ∧ g < w3.heap.size ∧ (∀ b, b < g → b ≠ g) from ⟨by have := HK2.out.size; omega, (hown.lt g rfl).2, fun b h => by omega⟩)
 have HK3 := Lib.hid (HK2.out.trans hk3)
 have HHC := Lib.hid (show (headS t x).length = (bcells (headS t x)).length from (bcells_len _).symm)
 have HGG := Lib.hid hgg
 have HG2 := Lib.hid (show g = w2.heap.size ∧ Keeps (fun _ => True) w2 w3 from ⟨hgg, hk3⟩)
 clear hown hg3 hk3 hgg
 go_wp2_with (refine list_copy_part rfl (.tmp 20) (.tmp 21) 64 64 rfl 5 Tryz.underlying64 (by kernel_rfl) HOWN.out 0 64 64 rfl A2 _ c2 rfl (bcells (headS t x)) HHC.out (by rw [bcells_len]; omega) HR3.out (bcells_one _) (by rw [bcells_len, bcells_len]; show 0 + (headS t x).length ≤ 64; omega) ?_)
 intro w4 hown hg4
 rw [HR.out] at hown
 have hk4 : Keeps (fun b => b ≠ g) w3 w4 := keeps_grown hg4
 have hk44 : Keeps (fun _ => True) w w4 := by
  have hk3 := HK3.out
  exact ⟨hk4.os.trans hk3.os, hk4.tape.trans hk3.tape, hk4.output.trans hk3.output, Nat.le_trans hk3.size hk4.size, fun i _ hi => (hk4.block i (by have := HG.out.1; show i ≠ g; omega) (Nat.lt_of_lt_of_le hi hk3.size)).trans (hk3.block i trivial hi)⟩
 have HW4 := Lib.hid (show StRow w4 g g 5 64 64 (bcells (rowS t x)) (bcells (encF q t x)) false w4.drew from ⟨(Keeps.refl (fun _ => True) w4).drew.own (by have := HG2.out.1; subst this; exact hown) fun _ _ => trivial, (Keeps.refl _ w4).drew, Nat.lt_of_lt_of_le HG.out.2.1 hk4.size⟩)
 have HT4 := Lib.hid (HT.out.keep hk44)
 have HK4 := Lib.hid hk44
 have HTG := Lib.hid (show ∀ i, i < 16 → (⟨0, i, none⟩ : Addr).block ≠ g from fun i hi => by
  have h1 := World.block_lt_of_cell? w _ (HT.out i hi)
  have := HG.out.1
  show 0 ≠ g
  simp only at h1
  omega)
 clear hown hg4 hk4 hk44 HOWN HR3 HR2 HT2
 go_wp2_with fail
 refine wp_region_one (V := VF g z (sumOf q (rowS t x))) (w0 := w4) 5 (StRow w4 g g 5 64 64 (bcells (rowS t x)) (bcells (encF q t x))) (fun w w' => w.grownBy w' (some g)) GE (by kernel_rfl) (fun i w w' v h hv => VF_keep i w w' v (h.mono fun _ _ _ => trivial) hv) (fun _ _ _ h hs => hs.keep h) (fun i _ w w' v h hv => VF_keep i w w' v (keeps_grown h) hv) (by kernel_rfl) (by decide) GE_is (fun i o ho hw => (all_wanted (by kernel_rfl) ho hw).elim) HW4.out (each_of ?_) ?_
 ·refine ⟨?_, ?_, ?_, ?_, ?_, ?_, trivial⟩ <;> intro hw a1 w3 L
  ·rw [if_neg (by decide)]
   intro b hs _
   exact kp_move rfl (L.old 9 (by kernel_rfl))
  ·rw [if_neg (by decide)]
   intro b hs _
   have e0 : a1.eval (.tmp 23) = .slice (some ⟨g, 0, none⟩) 64 64 := L.val 0 23 (by kernel_rfl) (by kernel_rfl)
   have hcn : a1.eval (.const (.int .i64 60)) = .int .i64 60 := rfl
   refine kp_yield (v := .slice (some ⟨g, 60, none⟩) 4 4) (w' := w3) ?_ (Keeps.refl _ _) rfl
   generalize a1.eval = ρ at e0 hcn ⊢
   unfold execOp
   go_simp
  ·rw [if_neg (by decide)]
   intro b hs _
   exact kp_move rfl (L.old 0 (by kernel_rfl))
  ·rw [if_neg (by decide)]
   intro b hs _
   exact kp_move rfl (L.old 9 (by kernel_rfl))
  ·rw [if_neg (by decide)]
   intro b hs _
   have e0 : a1.eval (.tmp 26) = .slice (some ⟨g, 0, none⟩) 64 64 := L.val 3 26 (by kernel_rfl) (by kernel_rfl)
   have e1 : a1.eval (.tmp 25) = .int .u8 z := L.val 2 25 (by kernel_rfl) (by kernel_rfl)
   have hf : a1.eval (.func 110) = .func (.func 110) #[] #[] := rfl
   have hT3 : Taken w3 := fun i hi => hs.2.1.cell (HT4.out i hi) (HTG.out i hi)
   obtain ⟨l, hl, hsl, hrw⟩ : ∃ l : List UInt8, l.length = 64 ∧ sumOf q l = sumOf q (rowS t x) ∧ Row w3 (some ⟨g, 0, none⟩) (fun b => b = g) (bcells l) := by
    cases b
    ·exact ⟨rowS t x, HN.out, rfl, own_row hs.1⟩
    ·exact ⟨encF q t x, HEL.out, HES.out, own_row hs.1⟩
   refine kp_enter (f := 110) (args := #[.int .u8 z, .slice (some ⟨g, 0, none⟩) 64 64]) ?_ (fsum_any q z HZ.out (some ⟨g, 0, none⟩) 64 _ l w3 hrw hl (Nat.le_refl _) (by decide) hT3) ?_
   ·clear hs hrw hT3
    generalize a1.eval = ρ at e0 e1 hf ⊢
    unfold execOp
    go_simp
   ·rintro e w' ⟨v, rfl, ho, hk⟩
    rw [hsl] at ho
    exact ⟨v, rfl, hk, TextG.of_own ho hs.2.2⟩
  ·rw [if_pos rfl]
   intro hs
   obtain ⟨A, c, e3, h1, h2, hr⟩ := L.val 4 27 (by kernel_rfl) (by kernel_rfl)
   have e0 : a1.eval (.tmp 24) = .slice (some ⟨g, 60, none⟩) 4 4 := L.val 1 24 (by kernel_rfl) (by kernel_rfl)
   refine Oper.wp_mono ?_ (one_copy (.tmp 24) (.tmp 27) 64 64 rfl Tryz.underlying64 (by kernel_rfl) hs 60 4 4 e0 A _ c e3 (bcells_len _).symm (by rw [bcells_len]; exact Nat.le_refl 4)
    (fun e => by have := congrArg List.length e; rw [bcells_len] at this; cases this) hr (bcells_one _) (by rw [bcells_len, bcells_len, HN.out]; exact Nat.le_refl 64) HE.out)
   rintro a' w' ⟨v, h1, h2, h3, h4⟩
   exact ⟨v, h1, h2, h3, trivial⟩
 ·intro vs w5 hs5 hlen5 hv5
  match vs, hlen5 with
  | [u0, u1, u2, u3, u4, u5], _ =>
   clear hv5
   simp only [putAll, List.map, Act.put, List.setIfInBounds_toArray, List.set_cons_succ, List.set_cons_zero, Exit.then]
   obtain ⟨ho5, hkp5, hg5⟩ := hs5
   have hk4 := HK4.out
   have hk55 : Keeps (fun _ => True) w w5 := ⟨hkp5.os.trans hk4.os, hkp5.tape.trans hk4.tape, hkp5.output.trans hk4.output, Nat.le_trans hk4.size hkp5.size, fun i _ hi => (hkp5.block i (by have := HG.out.1; show i ≠ g; omega) (Nat.lt_of_lt_of_le hi hk4.size)).trans (hk4.block i trivial hi)⟩
   have hown5 : OwnB w5 w.heap.size (.slice (some ⟨g, 0, none⟩) 64 64) (encF q t x) := by
    unfold OwnB
    rw [HEL.out]
    exact ownsRow_le ho5 HG.out.1
   have H1 := Lib.hid (show ∃ v, Ending.returned (.tuple #[.slice (some ⟨g, 0, none⟩) 64 64, .int .i64 0]) = .returned (.tuple #[v, .int .i64 0]) ∧ OwnB w5 w.heap.size v (encF q t x) ∧ Keeps (fun _ => True) w w5 from ⟨_, rfl, hown5, hk55⟩)
   clear ho5 hkp5 hg5 hk4 hk55 hown5 HW4 HT4
   go_wp2_with fail
   go_ret2
   exact H1.out
end Go.Proofs.YticophaepapjoaaGreatDoor
