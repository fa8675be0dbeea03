/-
  THE PLAIN MATHEMATICS OF LAYER 5 (super): what a sector of two slots says: turn, text, zeros, the sum of all of it; it is read back; a byte that was changed in it is told. It imports nothing of the program.
-/
import Derived.Test.YtpaadllbmhbnhaaDoorNumMath
import Derived.Test.YtpaadllbmhbnhaaDoorCrcMath
import Derived.Test.YtpaadllbmhbnhaaDoorDevMath
namespace Go.Proofs.YtpaadllbmhbnhaaDoor

/-- What stands ahead of the sum. -/
def headS (t : Nat) (x : List UInt8) : List UInt8 := putZ (t : Int) ++ putT x
def bodyS (t : Nat) (x : List UInt8) : List UInt8 := headS t x ++ List.replicate (60 - (headS t x).length) 0
/-- A sum's four bytes. -/
def sumL (c : Nat) : List UInt8 := [UInt8.ofNat (c % 256), UInt8.ofNat (c / 256 % 256), UInt8.ofNat (c / 65536 % 256), UInt8.ofNat (c / 16777216 % 256)]
def sumOf (l : List UInt8) : List UInt8 := sumL (crcN (l.take 60))
def encS (t : Nat) (x : List UInt8) : List UInt8 := bodyS t x ++ sumL (crcN (bodyS t x))
/-- What the bytes behind the sum's test say. -/
def readS (l : List UInt8) : Option (Nat × List UInt8) :=
  if (getZ l).2.2 ≠ 0 ∨ (getZ l).1 < 1 ∨ 1099511627776 < (getZ l).1 then none
  else if (getT (l.drop (getZ l).2.1)).2.2 ≠ 0 ∨ 40 < (getT (l.drop (getZ l).2.1)).1.length then none
  else some ((getZ l).1.toNat, (getT (l.drop (getZ l).2.1)).1)
def decS (l : List UInt8) : Option (Nat × List UInt8) := if l.drop 60 = sumOf l then readS l else none

theorem sumL_len (c : Nat) : (sumL c).length = 4 := rfl
theorem toNat_ofNat_mod (a : Nat) : (UInt8.ofNat (a % 256)).toNat = a % 256 := by
  rw [UInt8.toNat_ofNat']; omega
theorem sumL_inj (a b : Nat) (ha : a < 4294967296) (hb : b < 4294967296) (h : sumL a = sumL b) : a = b := by
  unfold sumL at h
  simp only [List.cons.injEq, and_true] at h
  obtain ⟨h0, h1, h2, h3⟩ := h
  have e0 := congrArg UInt8.toNat h0
  have e1 := congrArg UInt8.toNat h1
  have e2 := congrArg UInt8.toNat h2
  have e3 := congrArg UInt8.toNat h3
  rw [toNat_ofNat_mod, toNat_ofNat_mod] at e0 e1 e2 e3
  omega
theorem putZ_small (t : Nat) (ht : t ≤ 1099511627776) : (putZ (t : Int)).length ≤ 6 := by
  unfold putZ
  refine vin_len 5 _ ?_
  have : zig (t : Int) = 2 * t := by unfold zig; rw [if_neg (by omega)]; omega
  rw [this]
  have e : (128 : Nat) ^ (5 + 1) = 4398046511104 := by decide
  omega
theorem putT_small (x : List UInt8) (hx : x.length ≤ 40) : (putT x).length = x.length + 1 := by
  unfold putT putZ
  have : zig (x.length : Int) = 2 * x.length := by unfold zig; rw [if_neg (by omega)]; omega
  rw [this, vin_small _ (by omega)]
  simp
theorem headS_len (t : Nat) (x : List UInt8) (hx : x.length ≤ 40) (ht : t ≤ 1099511627776) : (headS t x).length ≤ 47 := by
  unfold headS
  have := putZ_small t ht
  have := putT_small x hx
  rw [List.length_append]; omega
theorem bodyS_len (t : Nat) (x : List UInt8) (hx : x.length ≤ 40) (ht : t ≤ 1099511627776) : (bodyS t x).length = 60 := by
  have := headS_len t x hx ht
  unfold bodyS; rw [List.length_append, List.length_replicate]; omega
theorem encS_len (t : Nat) (x : List UInt8) (hx : x.length ≤ 40) (ht : t ≤ 1099511627776) : (encS t x).length = 64 := by
  unfold encS; rw [List.length_append, bodyS_len t x hx ht, sumL_len]
theorem encS_take (t : Nat) (x : List UInt8) (hx : x.length ≤ 40) (ht : t ≤ 1099511627776) : (encS t x).take 60 = bodyS t x := by
  unfold encS; rw [← bodyS_len t x hx ht]; exact List.take_left
theorem encS_drop (t : Nat) (x : List UInt8) (hx : x.length ≤ 40) (ht : t ≤ 1099511627776) : (encS t x).drop 60 = sumL (crcN (bodyS t x)) := by
  unfold encS; rw [← bodyS_len t x hx ht]; exact List.drop_left
theorem decS_enc (t : Nat) (x : List UInt8) (hx : x.length ≤ 40) (h1 : 1 ≤ t) (ht : t ≤ 1099511627776) : decS (encS t x) = some (t, x) := by
  have hz : getZ (encS t x) = ((t : Int), (putZ (t : Int)).length, 0) := by
    unfold encS bodyS headS
    rw [List.append_assoc, List.append_assoc]
    exact getZ_put _ _ (by omega) (by omega)
  have hd : (encS t x).drop (putZ (t : Int)).length = putT x ++ (List.replicate (60 - (headS t x).length) 0 ++ sumL (crcN (bodyS t x))) := by
    have e : encS t x = putZ (t : Int) ++ (putT x ++ (List.replicate (60 - (headS t x).length) 0 ++ sumL (crcN (bodyS t x)))) := by
      unfold encS
      conv => lhs; arg 1; unfold bodyS headS
      simp only [List.append_assoc]
      rfl
    rw [e]; exact List.drop_left
  have hg : getT ((encS t x).drop (putZ (t : Int)).length) = (x, (putT x).length, 0) := by rw [hd]; exact getT_put x _ (by omega)
  unfold decS
  rw [if_pos (by rw [encS_drop t x hx ht]; unfold sumOf; rw [encS_take t x hx ht])]
  unfold readS
  rw [hz]
  simp only
  rw [hg]
  simp only
  rw [if_neg (by omega), if_neg (by omega), Int.toNat_natCast]
theorem blank_read : readS blank = none := by
  unfold readS
  have : getZ blank = (0, 1, 0) := by
    have e : blank = putZ 0 ++ List.replicate 63 0 := by
      unfold putZ; rw [show zig 0 = 0 from rfl, vin_small 0 (by decide)]; rfl
    rw [e, getZ_put 0 _ (by omega) (by omega)]
    unfold putZ; rw [show zig 0 = 0 from rfl, vin_small 0 (by decide)]; rfl
  rw [this, if_pos (.inr (.inl (by decide)))]
theorem decS_blank : decS blank = none := by
  unfold decS; rw [blank_read]; split <;> rfl
theorem set_ne (l : List UInt8) (i : Nat) (b : UInt8) (hi : i < l.length) (hb : b ≠ 0) : l.set i (l.getD i 0 ^^^ b) ≠ l := by
  intro h
  have e : (l.set i (l.getD i 0 ^^^ b))[i]? = l[i]? := by rw [h]
  rw [List.getElem?_set_self hi, List.getElem?_eq_getElem hi, List.getD_eq_getElem?_getD, List.getElem?_eq_getElem hi] at e
  simp only [Option.getD_some, Option.some.injEq] at e
  have e2 : (l[i] ^^^ b).toNat = l[i].toNat := by rw [e]
  rw [UInt8.toNat_xor] at e2
  have e3 : l[i].toNat ^^^ (l[i].toNat ^^^ b.toNat) = 0 := by rw [e2, Nat.xor_self]
  rw [← Nat.xor_assoc, Nat.xor_self, Nat.zero_xor] at e3
  exact hb (UInt8.toNat_inj.1 (by simpa using e3))
theorem xor_back (a b : UInt8) : a ^^^ (a ^^^ b) = b := by
  apply UInt8.toNat_inj.1
  rw [UInt8.toNat_xor, UInt8.toNat_xor, ← Nat.xor_assoc, Nat.xor_self, Nat.zero_xor]
theorem xorL_set (l : List UInt8) (i : Nat) (b : UInt8) (hi : i < l.length) : xorL l (l.set i (l.getD i 0 ^^^ b)) = List.replicate i 0 ++ [b] ++ List.replicate (l.length - 1 - i) 0 := by
  apply List.ext_getElem?
  intro j
  unfold xorL
  rw [List.getElem?_zipWith, List.getElem?_set]
  by_cases hj : j < l.length
  · rw [List.getElem?_eq_getElem hj]
    by_cases hij : i = j
    · subst hij
      simp [hj, List.getD_eq_getElem?_getD, xor_back]
    · simp only [hij, if_false]
      have hx : ∀ a : UInt8, a ^^^ a = 0 := fun a => by
        apply UInt8.toNat_inj.1; rw [UInt8.toNat_xor, Nat.xor_self]; rfl
      simp only [hx]
      symm
      rcases Nat.lt_or_ge j i with h | h
      · simp [List.getElem?_append, h]
      · rw [List.getElem?_append_right (by simp; omega), List.getElem?_replicate]
        simp
        omega
  · rw [List.getElem?_eq_none (by omega)]
    symm
    simp
    omega
theorem crcN_set (l : List UInt8) (i : Nat) (b : UInt8) (hi : i < l.length) (hb : b ≠ 0) : crcN l ≠ crcN (l.set i (l.getD i 0 ^^^ b)) :=
  crcN_burst l _ [b] i (l.length - 1 - i) (by simp) ⟨b, by simp, hb⟩ (by simp) (xorL_set l i b hi)
theorem decS_bad (t : Nat) (x : List UInt8) (i : Nat) (b : UInt8) (hx : x.length ≤ 40) (ht : t ≤ 1099511627776) (hi : i < 64) (hb : b ≠ 0) : decS ((encS t x).set i ((encS t x).getD i 0 ^^^ b)) = none := by
  have h1 := encS_take t x hx ht
  have h2 := encS_drop t x hx ht
  have hl := encS_len t x hx ht
  unfold decS
  rw [if_neg]
  unfold sumOf
  rcases Nat.lt_or_ge i 60 with h | h
  · rw [List.drop_set_of_lt h, h2, List.take_set]
    have e : (encS t x).getD i 0 = (bodyS t x).getD i 0 := by
      rw [← h1, List.getD_eq_getElem?_getD, List.getD_eq_getElem?_getD, List.getElem?_take, if_pos h]
    rw [h1, e]
    intro hs
    exact crcN_set (bodyS t x) i b (by rw [bodyS_len t x hx ht]; exact h) hb (sumL_inj _ _ (crcN_lt _) (crcN_lt _) hs)
  · rw [List.take_set_of_le h, h1]
    have e : (encS t x).getD i 0 = ((encS t x).drop 60).getD (i - 60) 0 := by
      rw [List.getD_eq_getElem?_getD, List.getD_eq_getElem?_getD, List.getElem?_drop]
      congr 3; omega
    have e2 : ((encS t x).set i ((encS t x).getD i 0 ^^^ b)).drop 60 = ((encS t x).drop 60).set (i - 60) (((encS t x).drop 60).getD (i - 60) 0 ^^^ b) := by
      rw [List.drop_set, if_neg (by omega), e]
    rw [e2, ← h2]
    exact set_ne _ _ _ (by rw [List.length_drop]; omega) hb

end Go.Proofs.YtpaadllbmhbnhaaDoor
