/-
  THE PLAIN MATHEMATICS OF A FRAMED SECTOR (package frame): a number, a text, zeros, the sum of a kind and all of it; it is read back; a byte that was changed in it is told; what super (kind 83) and slog (kind 76) take of it. It imports nothing of the program.
-/
import Derived.Test.YtajapklpdfikoaaDoorNumMath
import Derived.Test.YtajapklpdfikoaaDoorCrcMath
import Derived.Test.YtajapklpdfikoaaDoorDevMath
namespace Go.Proofs.YtajapklpdfikoaaDoor

/-- What stands ahead of the sum. -/
def headS (t : Nat) (x : List UInt8) : List UInt8 := putZ (t : Int) ++ putT x
def bodyS (t : Nat) (x : List UInt8) : List UInt8 := headS t x ++ List.replicate (60 - (headS t x).length) 0
/-- A sum's four bytes. -/
def sumL (c : Nat) : List UInt8 := [UInt8.ofNat (c % 256), UInt8.ofNat (c / 256 % 256), UInt8.ofNat (c / 65536 % 256), UInt8.ofNat (c / 16777216 % 256)]
def sumOf (q : UInt8) (l : List UInt8) : List UInt8 := sumL (crcN (q :: l.take 60))
def encF (q : UInt8) (t : Nat) (x : List UInt8) : List UInt8 := bodyS t x ++ sumL (crcN (q :: bodyS t x))
/-- What the bytes ahead of the sum say. -/
def readF (l : List UInt8) : Option (Int × List UInt8) :=
  if (getZ l).2.2 ≠ 0 then none
  else if (getT (l.drop (getZ l).2.1)).2.2 ≠ 0 then none
  else some ((getZ l).1, (getT (l.drop (getZ l).2.1)).1)
def decF (q : UInt8) (l : List UInt8) : Option (Int × List UInt8) := if l.drop 60 = sumOf q l then readF (l.take 60) else none
/-- super's. -/
def encS (t : Nat) (x : List UInt8) : List UInt8 := encF 83 t x
def takeS : Option (Int × List UInt8) → Option (Nat × List UInt8)
  | none => none
  | some (t, x) => if t < 1 ∨ 1099511627776 < t ∨ 40 < x.length then none else some (t.toNat, x)
def decS (l : List UInt8) : Option (Nat × List UInt8) := takeS (decF 83 l)

theorem sumL_len (c : Nat) : (sumL c).length = 4 := rfl
theorem toNat_ofNat_mod (a : Nat) : (UInt8.ofNat (a % 256)).toNat = a % 256 := by
  rw [UInt8.toNat_ofNat']; omega
theorem sumL_inj (a b : Nat) (ha : a < 4294967296) (hb : b < 4294967296) (h : sumL a = sumL b) : a = b := by
  unfold sumL at h
  simp only [List.cons.injEq, and_true] at h
  obtain ⟨h0, h1, h2, h3⟩ := h
  have e0 := congrArg UInt8.toNat h0
  have e1 := congrArg UInt8.toNat h1
  have e2 := congrArg UInt8.toNat h2
  have e3 := congrArg UInt8.toNat h3
  rw [toNat_ofNat_mod, toNat_ofNat_mod] at e0 e1 e2 e3
  omega
theorem putZ_small (t : Nat) (ht : t < 2199023255552) : (putZ (t : Int)).length ≤ 6 := by
  unfold putZ
  refine vin_len 5 _ ?_
  have : zig (t : Int) = 2 * t := by unfold zig; rw [if_neg (by omega)]; omega
  rw [this]
  have e : (128 : Nat) ^ (5 + 1) = 4398046511104 := by decide
  omega
theorem putT_small (x : List UInt8) (hx : x.length ≤ 63) : (putT x).length = x.length + 1 := by
  unfold putT putZ
  have : zig (x.length : Int) = 2 * x.length := by unfold zig; rw [if_neg (by omega)]; omega
  rw [this, vin_small _ (by omega)]
  simp
theorem headS_len (t : Nat) (x : List UInt8) (hx : x.length ≤ 53) (ht : t < 2199023255552) : (headS t x).length ≤ 60 := by
  unfold headS
  have := putZ_small t ht
  have := putT_small x (by omega)
  rw [List.length_append]; omega
theorem bodyS_len (t : Nat) (x : List UInt8) (h : (headS t x).length ≤ 60) : (bodyS t x).length = 60 := by
  unfold bodyS; rw [List.length_append, List.length_replicate]; omega
theorem encF_len (q : UInt8) (t : Nat) (x : List UInt8) (h : (headS t x).length ≤ 60) : (encF q t x).length = 64 := by
  unfold encF; rw [List.length_append, bodyS_len t x h, sumL_len]
theorem encF_take (q : UInt8) (t : Nat) (x : List UInt8) (h : (headS t x).length ≤ 60) : (encF q t x).take 60 = bodyS t x := by
  unfold encF; rw [← bodyS_len t x h]; exact List.take_left
theorem encF_drop (q : UInt8) (t : Nat) (x : List UInt8) (h : (headS t x).length ≤ 60) : (encF q t x).drop 60 = sumL (crcN (q :: bodyS t x)) := by
  unfold encF; rw [← bodyS_len t x h]; exact List.drop_left
theorem decF_enc (q : UInt8) (t : Nat) (x : List UInt8) (h : (headS t x).length ≤ 60) (ht : t < 9223372036854775808) (hx : x.length ≤ 65536) : decF q (encF q t x) = some ((t : Int), x) := by
  have hz : getZ (bodyS t x) = ((t : Int), (putZ (t : Int)).length, 0) := by
    unfold bodyS headS
    rw [List.append_assoc]
    exact getZ_put _ _ (by omega) (by omega)
  have hd : (bodyS t x).drop (putZ (t : Int)).length = putT x ++ List.replicate (60 - (headS t x).length) 0 := by
    have e : bodyS t x = putZ (t : Int) ++ (putT x ++ List.replicate (60 - (headS t x).length) 0) := by
      conv => lhs; unfold bodyS; arg 1; unfold headS
      rw [List.append_assoc]
    rw [e]; exact List.drop_left
  have hg : getT ((bodyS t x).drop (putZ (t : Int)).length) = (x, (putT x).length, 0) := by rw [hd]; exact getT_put x _ hx
  unfold decF
  rw [if_pos (by rw [encF_drop q t x h]; unfold sumOf; rw [encF_take q t x h]), encF_take q t x h]
  unfold readF
  rw [hz]
  simp only
  rw [hg]
  simp only
  rw [if_neg (by omega), if_neg (by omega)]
theorem blank_take : blank.take 60 = List.replicate 60 0 := by unfold blank; rw [List.take_replicate]; rfl
theorem readF_blank : readF (blank.take 60) = some (0, []) := by
  have e0 : (putZ 0) = [0] := by unfold putZ; rw [show zig 0 = 0 from rfl, vin_small 0 (by decide)]; rfl
  have h : getZ (blank.take 60) = (0, 1, 0) := by
    have e : blank.take 60 = putZ 0 ++ List.replicate 59 0 := by rw [blank_take, e0]; rfl
    rw [e, getZ_put 0 _ (by omega) (by omega), e0]; rfl
  have h2 : getT ((blank.take 60).drop 1) = ([], 1, 0) := by
    have e : (blank.take 60).drop 1 = putT [] ++ List.replicate 58 0 := by
      rw [blank_take, List.drop_replicate]; unfold putT; simp only [List.length_nil, Int.ofNat_zero, List.append_nil]
      rw [e0]; rfl
    rw [e, getT_put [] _ (by decide)]
    unfold putT; simp only [List.length_nil, List.append_nil, Int.ofNat_zero]; rw [e0]; rfl
  unfold readF; rw [h]; simp only; rw [h2]; simp
theorem decF_blank (q : UInt8) : decF q blank = none ∨ decF q blank = some (0, []) := by
  unfold decF; split
  · exact .inr readF_blank
  · exact .inl rfl
theorem encS_len (t : Nat) (x : List UInt8) (hx : x.length ≤ 40) (ht : t ≤ 1099511627776) : (encS t x).length = 64 := encF_len _ t x (headS_len t x (by omega) (by omega))
theorem decS_enc (t : Nat) (x : List UInt8) (hx : x.length ≤ 40) (h1 : 1 ≤ t) (ht : t ≤ 1099511627776) : decS (encS t x) = some (t, x) := by
  unfold decS encS
  rw [decF_enc _ t x (headS_len t x (by omega) (by omega)) (by omega) (by omega)]
  unfold takeS
  simp only
  rw [if_neg (by omega), Int.toNat_natCast]
theorem decS_blank : decS blank = none := by
  unfold decS
  rcases decF_blank 83 with h | h <;> rw [h]
  · rfl
  · unfold takeS; simp
theorem set_ne (l : List UInt8) (i : Nat) (b : UInt8) (hi : i < l.length) (hb : b ≠ 0) : l.set i (l.getD i 0 ^^^ b) ≠ l := by
  intro h
  have e : (l.set i (l.getD i 0 ^^^ b))[i]? = l[i]? := by rw [h]
  rw [List.getElem?_set_self hi, List.getElem?_eq_getElem hi, List.getD_eq_getElem?_getD, List.getElem?_eq_getElem hi] at e
  simp only [Option.getD_some, Option.some.injEq] at e
  have e2 : (l[i] ^^^ b).toNat = l[i].toNat := by rw [e]
  rw [UInt8.toNat_xor] at e2
  have e3 : l[i].toNat ^^^ (l[i].toNat ^^^ b.toNat) = 0 := by rw [e2, Nat.xor_self]
  rw [← Nat.xor_assoc, Nat.xor_self, Nat.zero_xor] at e3
  exact hb (UInt8.toNat_inj.1 (by simpa using e3))
theorem xor_back (a b : UInt8) : a ^^^ (a ^^^ b) = b := by
  apply UInt8.toNat_inj.1
  rw [UInt8.toNat_xor, UInt8.toNat_xor, ← Nat.xor_assoc, Nat.xor_self, Nat.zero_xor]
theorem xorL_set (l : List UInt8) (i : Nat) (b : UInt8) (hi : i < l.length) : xorL l (l.set i (l.getD i 0 ^^^ b)) = List.replicate i 0 ++ [b] ++ List.replicate (l.length - 1 - i) 0 := by
  apply List.ext_getElem?
  intro j
  unfold xorL
  rw [List.getElem?_zipWith, List.getElem?_set]
  by_cases hj : j < l.length
  · rw [List.getElem?_eq_getElem hj]
    by_cases hij : i = j
    · subst hij
      simp [hj, List.getD_eq_getElem?_getD, xor_back]
    · simp only [hij, if_false]
      have hx : ∀ a : UInt8, a ^^^ a = 0 := fun a => by
        apply UInt8.toNat_inj.1; rw [UInt8.toNat_xor, Nat.xor_self]; rfl
      simp only [hx]
      symm
      rcases Nat.lt_or_ge j i with h | h
      · simp [List.getElem?_append, h]
      · rw [List.getElem?_append_right (by simp; omega), List.getElem?_replicate]
        simp
        omega
  · rw [List.getElem?_eq_none (by omega)]
    symm
    simp
    omega
theorem crcN_set (l : List UInt8) (i : Nat) (b : UInt8) (hi : i < l.length) (hb : b ≠ 0) : crcN l ≠ crcN (l.set i (l.getD i 0 ^^^ b)) :=
  crcN_burst l _ [b] i (l.length - 1 - i) (by simp) ⟨b, by simp, hb⟩ (by simp) (xorL_set l i b hi)
theorem decF_bad (q : UInt8) (t : Nat) (x : List UInt8) (i : Nat) (b : UInt8) (h0 : (headS t x).length ≤ 60) (hi : i < 64) (hb : b ≠ 0) : decF q ((encF q t x).set i ((encF q t x).getD i 0 ^^^ b)) = none := by
  have h1 := encF_take q t x h0
  have h2 := encF_drop q t x h0
  have hl := encF_len q t x h0
  unfold decF
  rw [if_neg]
  unfold sumOf
  rcases Nat.lt_or_ge i 60 with h | h
  · rw [List.drop_set_of_lt h, h2, List.take_set]
    have e : (encF q t x).getD i 0 = (bodyS t x).getD i 0 := by
      rw [← h1, List.getD_eq_getElem?_getD, List.getD_eq_getElem?_getD, List.getElem?_take, if_pos h]
    rw [h1, e]
    intro hs
    have e3 := sumL_inj _ _ (crcN_lt _) (crcN_lt _) hs
    refine crcN_set (q :: bodyS t x) (i + 1) b (by rw [List.length_cons, bodyS_len t x h0]; omega) hb ?_
    rw [List.set_cons_succ]
    have e4 : (q :: bodyS t x).getD (i + 1) 0 = (bodyS t x).getD i 0 := by simp [List.getD_eq_getElem?_getD]
    rw [e4]
    exact e3
  · rw [List.take_set_of_le h, h1]
    have e : (encF q t x).getD i 0 = ((encF q t x).drop 60).getD (i - 60) 0 := by
      rw [List.getD_eq_getElem?_getD, List.getD_eq_getElem?_getD, List.getElem?_drop]
      congr 3; omega
    have e2 : ((encF q t x).set i ((encF q t x).getD i 0 ^^^ b)).drop 60 = ((encF q t x).drop 60).set (i - 60) (((encF q t x).drop 60).getD (i - 60) 0 ^^^ b) := by
      rw [List.drop_set, if_neg (by omega), e]
    rw [e2, ← h2]
    exact set_ne _ _ _ (by rw [List.length_drop]; omega) hb
theorem decS_bad (t : Nat) (x : List UInt8) (i : Nat) (b : UInt8) (hx : x.length ≤ 40) (ht : t ≤ 1099511627776) (hi : i < 64) (hb : b ≠ 0) : decS ((encS t x).set i ((encS t x).getD i 0 ^^^ b)) = none := by
  unfold decS encS
  rw [decF_bad _ t x i b (headS_len t x (by omega) (by omega)) hi hb]; rfl

end Go.Proofs.YtajapklpdfikoaaDoor
