/-
  CrcMath: texts of mine, joined.
-/
namespace Go.Proofs.YticophaepapjoaaGreatDoor
def tbit (c : Nat) : Nat := if c % 2 = 1 then c / 2 ^^^ 3988292384 else c / 2
def tbits : Nat → Nat → Nat
 | 0, c => c
 | n + 1, c => tbits n (tbit c)
def t8 (c : Nat) : Nat := tbits 8 c
def crcF (c : Nat) (l : List UInt8) : Nat := l.foldl (fun c b => t8 (c ^^^ b.toNat)) c
def crcN (l : List UInt8) : Nat := 4294967295 - crcF 4294967295 l
theorem tbit_lt (c : Nat) (h : c < 4294967296) : tbit c < 4294967296 := by
 unfold tbit; split
 ·exact Nat.xor_lt_two_pow (n := 32) (by omega) (by decide)
 ·omega
theorem tbits_lt (n c : Nat) (h : c < 4294967296) : tbits n c < 4294967296 := by
 induction n generalizing c with
 | zero => exact h
 | succ n ih => exact ih _ (tbit_lt c h)
theorem t8_lt (c : Nat) (h : c < 4294967296) : t8 c < 4294967296 := tbits_lt 8 c h
theorem xor_lt32 {a b : Nat} (ha : a < 4294967296) (hb : b < 4294967296) : a ^^^ b < 4294967296 := Nat.xor_lt_two_pow (n := 32) ha hb
theorem byte_lt32 (b : UInt8) : b.toNat < 4294967296 := Nat.lt_trans b.toNat_lt (by decide)
theorem crcF_lt (l : List UInt8) (c : Nat) (h : c < 4294967296) : crcF c l < 4294967296 := by
 induction l generalizing c with
 | nil => exact h
 | cons b l ih => exact ih _ (t8_lt _ (xor_lt32 h (byte_lt32 b)))
theorem crcF_cons (c : Nat) (b : UInt8) (l : List UInt8) : crcF c (b :: l) = crcF (t8 (c ^^^ b.toNat)) l := rfl
theorem crcF_append (c : Nat) (l r : List UInt8) : crcF c (l ++ r) = crcF (crcF c l) r := by unfold crcF; rw [List.foldl_append]
theorem crcF_snoc (c : Nat) (l : List UInt8) (b : UInt8) : crcF c (l ++ [b]) = t8 (crcF c l ^^^ b.toNat) := by rw [crcF_append]; rfl
theorem tbit_bit (c i : Nat) : (tbit c).testBit i = (c.testBit (i + 1) ^^ (c.testBit 0 && (3988292384 : Nat).testBit i)) := by
 have e0 : c.testBit 0 = decide (c % 2 = 1) := Nat.testBit_zero c
 have e1 : c.testBit (i + 1) = (c / 2).testBit i := Nat.testBit_succ c i
 unfold tbit
 split
 ·rename_i h; rw [Nat.testBit_xor, e0, e1]; simp [h]
 ·rename_i h; rw [e0, e1]; simp [h]
theorem tbit_xor (a b : Nat) : tbit (a ^^^ b) = tbit a ^^^ tbit b := by
 apply Nat.eq_of_testBit_eq
 intro i
 rw [Nat.testBit_xor, tbit_bit, tbit_bit, tbit_bit, Nat.testBit_xor, Nat.testBit_xor]
 cases a.testBit (i + 1) <;> cases b.testBit (i + 1) <;> cases a.testBit 0 <;> cases b.testBit 0 <;> cases (3988292384 : Nat).testBit i <;> rfl
theorem tbits_xor (n a b : Nat) : tbits n (a ^^^ b) = tbits n a ^^^ tbits n b := by
 induction n generalizing a b with
 | zero => rfl
 | succ n ih => simp only [tbits]; rw [tbit_xor, ih]
theorem t8_xor (a b : Nat) : t8 (a ^^^ b) = t8 a ^^^ t8 b := tbits_xor 8 a b
theorem tbits_shift (n w : Nat) : tbits n (2 ^ n * w) = w := by
 induction n with
 | zero => simp [tbits]
 | succ n ih =>
  have e : 2 ^ (n + 1) * w = 2 * (2 ^ n * w) := by rw [Nat.pow_succ, Nat.mul_comm (2 ^ n) 2, Nat.mul_assoc]
  have t : tbit (2 ^ (n + 1) * w) = 2 ^ n * w := by
   unfold tbit; rw [if_neg (by rw [e]; omega), e]; omega
  simp only [tbits]; rw [t, ih]
theorem t8_shift (w : Nat) : t8 (256 * w) = w := tbits_shift 8 w
theorem t8_zero : t8 0 = 0 := by decide
theorem tbits_table (n c : Nat) : tbits n c = tbits n (c % 2 ^ n) ^^^ c / 2 ^ n := by
 have e : c = c % 2 ^ n ^^^ 2 ^ n * (c / 2 ^ n) := by
  apply Nat.eq_of_testBit_eq
  intro i
  rw [Nat.testBit_xor, Nat.testBit_mod_two_pow, Nat.testBit_two_pow_mul, Nat.testBit_div_two_pow]
  by_cases h : i < n
  ·have h2 : ¬ n ≤ i := by omega
   simp [h, h2]
  ·have h2 : n ≤ i := by omega
   simp [h, h2]
 conv => lhs; rw [e]
 rw [tbits_xor, tbits_shift]
theorem tbits_add (m n c : Nat) : tbits (m + n) c = tbits n (tbits m c) := by
 induction m generalizing c with
 | zero => rw [Nat.zero_add]; rfl
 | succ m ih => rw [Nat.succ_add]; simp only [tbits]; exact ih _
theorem xor_self_iff (a b : Nat) (h : a ^^^ b = 0) : a = b := by
 apply Nat.eq_of_testBit_eq
 intro i
 have e : (a ^^^ b).testBit i = false := by rw [h]; exact Nat.zero_testBit i
 rw [Nat.testBit_xor] at e
 cases ha : a.testBit i <;> cases hb : b.testBit i <;> simp_all
theorem tbit_ne (c : Nat) (h : c < 4294967296) (hz : tbit c = 0) : c = 0 := by
 unfold tbit at hz
 split at hz
 ·have := xor_self_iff _ _ hz; omega
 ·omega
theorem tbits_ne (n c : Nat) (h : c < 4294967296) (hz : tbits n c = 0) : c = 0 := by
 induction n generalizing c with
 | zero => exact hz
 | succ n ih => exact tbit_ne c h (ih _ (tbit_lt c h) hz)
theorem t8_ne (c : Nat) (h : c < 4294967296) (hz : t8 c = 0) : c = 0 := tbits_ne 8 c h hz
def xorL (l r : List UInt8) : List UInt8 := List.zipWith (· ^^^ ·) l r
theorem xorL_toNat (a b : UInt8) : (a ^^^ b).toNat = a.toNat ^^^ b.toNat := UInt8.toNat_xor a b
theorem crcF_xor (l r : List UInt8) (c d : Nat) (h : l.length = r.length) : crcF (c ^^^ d) (xorL l r) = crcF c l ^^^ crcF d r := by
 induction l generalizing r c d with
 | nil => cases r with
  | nil => rfl
  | cons b r => simp at h
 | cons a l ih =>
  cases r with
  | nil => simp at h
  | cons b r =>
   have e : c ^^^ d ^^^ (a.toNat ^^^ b.toNat) = (c ^^^ a.toNat) ^^^ (d ^^^ b.toNat) := by
    rw [Nat.xor_assoc, Nat.xor_assoc, ← Nat.xor_assoc d, Nat.xor_comm d, Nat.xor_assoc a.toNat d]
   show crcF (t8 (c ^^^ d ^^^ (a ^^^ b).toNat)) (xorL l r) = _
   rw [xorL_toNat, e, t8_xor, ih r _ _ (by simpa using h)]
   rfl
theorem not_xor (c : Nat) (h : c < 4294967296) : 4294967295 - c = c ^^^ 4294967295 := by
 apply Nat.eq_of_testBit_eq
 intro i
 have e : 4294967295 - c = 2 ^ 32 - (c + 1) := by omega
 rw [e, Nat.testBit_two_pow_sub_succ (by omega), Nat.testBit_xor]
 have e2 : (4294967295 : Nat).testBit i = decide (i < 32) := by
  rw [show (4294967295 : Nat) = 2 ^ 32 - 1 from by decide, Nat.testBit_two_pow_sub_one]
 rw [e2]
 by_cases hi : i < 32
 ·simp [hi]
 ·have := Nat.testBit_lt_two_pow (Nat.lt_of_lt_of_le (show c < 2 ^ 32 from h) (Nat.pow_le_pow_right (by decide) (show 32 ≤ i by omega)))
  simp [hi, this]
theorem crcN_lt (l : List UInt8) : crcN l < 4294967296 := by unfold crcN; omega
def word : List UInt8 → Nat
 | [] => 0
 | b :: l => b.toNat ^^^ 256 * word l
theorem crcF_word (l : List UInt8) (c : Nat) : crcF c l = tbits (8 * l.length) (c ^^^ word l) := by
 induction l generalizing c with
 | nil => simp [crcF, word, tbits]
 | cons b l ih =>
  rw [crcF_cons, ih]
  have e : t8 (c ^^^ b.toNat) ^^^ word l = t8 (c ^^^ word (b :: l)) := by
   rw [word, ← Nat.xor_assoc, t8_xor (c ^^^ b.toNat), t8_shift]
  rw [e, List.length_cons, show 8 * (l.length + 1) = 8 + 8 * l.length by omega, tbits_add]
  rfl
theorem word_lt (l : List UInt8) : word l < 256 ^ l.length := by
 induction l with
 | nil => simp [word]
 | cons b l ih =>
  rw [word, List.length_cons]
  have h1 : b.toNat < 256 ^ (l.length + 1) := by
   have := Nat.pow_le_pow_right (show 0 < 256 by decide) (show 1 ≤ l.length + 1 by omega)
   have := b.toNat_lt
   omega
  have h2 : 256 * word l < 256 ^ (l.length + 1) := by rw [Nat.pow_succ, Nat.mul_comm]; omega
  have e : (256 : Nat) ^ (l.length + 1) = 2 ^ (8 * (l.length + 1)) := by rw [Nat.pow_mul]
  rw [e] at h1 h2 ⊢
  exact Nat.xor_lt_two_pow h1 h2
theorem word_zero (l : List UInt8) (h : word l = 0) : ∀ b ∈ l, b = 0 := by
 induction l with
 | nil => simp
 | cons b l ih =>
  rw [word] at h
  have e := xor_self_iff _ _ h
  have hb := b.toNat_lt
  have h0 : b.toNat = 0 := by omega
  intro x hx
  rcases List.mem_cons.1 hx with rfl | hx
  ·exact UInt8.toNat_inj.1 (by simpa using h0)
  ·exact ih (by omega) x hx
theorem crcF_zeros (n : Nat) : crcF 0 (List.replicate n 0) = 0 := by
 induction n with
 | zero => rfl
 | succ n ih => rw [List.replicate_succ, crcF_cons]; simpa [t8_zero] using ih
theorem crcF_zeros_ne (n c : Nat) (h : c < 4294967296) (hz : crcF c (List.replicate n 0) = 0) : c = 0 := by
 induction n generalizing c with
 | zero => exact hz
 | succ n ih =>
  rw [List.replicate_succ, crcF_cons] at hz
  have h0 : c ^^^ (0 : UInt8).toNat = c := by simp
  rw [h0] at hz
  exact t8_ne c h (ih _ (t8_lt c h) hz)
theorem crcN_burst (l r x : List UInt8) (m n : Nat) (hx : x.length ≤ 4) (hne : ∃ b ∈ x, b ≠ 0) (hlen : l.length = r.length)
  (h : xorL l r = List.replicate m 0 ++ x ++ List.replicate n 0) : crcN l ≠ crcN r := by
 intro he
 have hI : (4294967295 : Nat) < 4294967296 := by decide
 have l1 := crcF_lt l _ hI
 have l2 := crcF_lt r _ hI
 have e1 : crcF 4294967295 l = crcF 4294967295 r := by unfold crcN at he; omega
 have e2 := crcF_xor l r 4294967295 4294967295 hlen
 rw [e1, Nat.xor_self, Nat.xor_self, h, crcF_append, crcF_append, crcF_zeros] at e2
 have hlt : crcF 0 x < 4294967296 := crcF_lt x 0 (by decide)
 have e3 := crcF_zeros_ne n _ hlt e2
 rw [crcF_word, Nat.zero_xor] at e3
 have hw : word x < 4294967296 := Nat.lt_of_lt_of_le (word_lt x) (Nat.le_trans (Nat.pow_le_pow_right (by decide) hx) (by decide))
 have e4 := tbits_ne _ _ hw e3
 obtain ⟨b, hb, hb0⟩ := hne
 exact hb0 (word_zero x e4 b hb)
end Go.Proofs.YticophaepapjoaaGreatDoor
