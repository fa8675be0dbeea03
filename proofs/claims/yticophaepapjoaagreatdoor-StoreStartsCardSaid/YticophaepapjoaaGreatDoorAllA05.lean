/-
  DevLay, ItemMath, SecMath, Equal, Crc, RowZ, SlgLay, Frame: texts of mine, joined.
-/
import Derived.Shelf.SlIterI.Nil
import Derived.Shelf.SortM.Plain
import Derived.Shelf.SortM.SortNone
import Derived.Ground.GgzProg
import Derived.Ground.SlgmProg
import Derived.Shelf.LaySoft
import Derived.Shelf.Lay
import Derived.Test.YticophaepapjoaaGreatDoorProg
import Derived.Test.YticophaepapjoaaGreatDoorAllA03
import Derived.Test.YticophaepapjoaaGreatDoorAllA04
import Derived.Test.YticophaepapjoaaGreatDoorAllA00
import Derived.Test.YticophaepapjoaaGreatDoorWords
import Derived.WalkKit
import Derived.Lib.Hide
import Derived.Laws.BitsAllLaws
import Derived.Laws.OwnMore
import Derived.Lib.SmallJoins
import Derived.Shelf.SlicesQ.Reverse
import Derived.Ground.SlgnProg
import Derived.ProofKit
import Derived.OpenShut
import Derived.Below
import Derived.Carry
import Derived.LaidMore
import Derived.Stop.Joined
import Derived.Deep.Slices
namespace Go.Proofs
open Go.Shelf
shelf_try shelf_lay_g SlLaysZI.n7 Ggz 7 at Tryz 81 as Tryz.keysA
shelf_try shelf_lay_g SlLaysZI.n6 Ggz 6 at Tryz 80 as Tryz.sortedA
shelf_try shelf_lay_g SlLaysM.n5 Slgm 5 at Tryz 114 as Tryz.sortA
shelf_tried
end Go.Proofs
namespace Go.Proofs.YticophaepapjoaaGreatDoor
structure It where
 key : ByteArray
 val : ByteArray
 till : Int
 gone : Bool
deriving DecidableEq
def It.may (x : It) : Bool :=
 decide (1 ≤ x.key.size) && decide (x.key.size ≤ 40) && decide (x.val.size ≤ 200) && decide (0 ≤ x.till) && decide (x.till ≤ 1099511627776) && (!x.gone || (decide (x.val.size = 0) && decide (x.till = 0)))
def It.live (x : It) (now : Int) : Bool := x.may && !x.gone && (decide (x.till = 0) || decide (now < x.till))
def It.flag (x : It) : Int := if x.gone then 1 else 0
def It.bytes (x : It) : List UInt8 := putT x.key.data.toList ++ (putT x.val.data.toList ++ (putZ x.till ++ putZ x.flag))
def bytesOf (l : List It) : List UInt8 := l.flatMap It.bytes
def encs (l : List It) : List UInt8 := if l.all It.may then bytesOf l else []
theorem It.may_is {x : It} (h : x.may = true) : 1 ≤ x.key.size ∧ x.key.size ≤ 40 ∧ x.val.size ≤ 200 ∧ 0 ≤ x.till ∧ x.till ≤ 1099511627776 := by
 simp only [It.may, Bool.and_eq_true, decide_eq_true_eq] at h
 omega
theorem putT_inj {a b r s : List UInt8} (ha : a.length ≤ 65536) (hb : b.length ≤ 65536) (h : putT a ++ r = putT b ++ s) : a = b ∧ r = s := by
 have h1 := getT_put a r ha
 rw [h, getT_put b s hb] at h1
 injection h1 with h1 _
 subst h1
 exact ⟨rfl, List.append_cancel_left h⟩
theorem putZ_inj {a b : Int} {r s : List UInt8} (ha1 : -9223372036854775808 ≤ a) (ha2 : a < 9223372036854775808) (hb1 : -9223372036854775808 ≤ b) (hb2 : b < 9223372036854775808) (h : putZ a ++ r = putZ b ++ s) : a = b ∧ r = s := by
 have h1 := getZ_put a r ha1 ha2
 rw [h, getZ_put b s hb1 hb2] at h1
 injection h1 with h1 _
 subst h1
 exact ⟨rfl, List.append_cancel_left h⟩
theorem It.flag_bd (x : It) : 0 ≤ x.flag ∧ x.flag ≤ 1 := by unfold It.flag; split <;> omega
theorem It.flag_inj {x y : It} (h : x.flag = y.flag) : x.gone = y.gone := by
 unfold It.flag at h
 cases hx : x.gone <;> cases hy : y.gone <;> simp [hx, hy] at h <;> rfl
theorem data_inj {a b : ByteArray} (h : a.data.toList = b.data.toList) : a = b := by
 cases a; cases b; simp only [Array.toList_inj] at h; rw [h]
theorem It.bytes_inj {x y : It} {r s : List UInt8} (hx : x.may = true) (hy : y.may = true) (h : x.bytes ++ r = y.bytes ++ s) : x = y ∧ r = s := by
 have mx := It.may_is hx
 have my := It.may_is hy
 have fx := x.flag_bd
 have fy := y.flag_bd
 have kx : x.key.data.toList.length = x.key.size := by simp
 have ky : y.key.data.toList.length = y.key.size := by simp
 have vx : x.val.data.toList.length = x.val.size := by simp
 have vy : y.val.data.toList.length = y.val.size := by simp
 unfold It.bytes at h
 simp only [List.append_assoc] at h
 obtain ⟨e1, h⟩ := putT_inj (by omega) (by omega) h
 obtain ⟨e2, h⟩ := putT_inj (by omega) (by omega) h
 obtain ⟨e3, h⟩ := putZ_inj (by omega) (by omega) (by omega) (by omega) h
 obtain ⟨e4, h⟩ := putZ_inj (by omega) (by omega) (by omega) (by omega) h
 refine ⟨?_, h⟩
 obtain ⟨k1, v1, t1, g1⟩ := x
 obtain ⟨k2, v2, t2, g2⟩ := y
 have a1 := data_inj e1
 have a2 := data_inj e2
 have a4 := It.flag_inj e4
 simp only at a1 a2 e3 a4
 subst a1 a2 e3 a4
 rfl
theorem It.bytes_pos (x : It) : 0 < x.bytes.length := by
 have := vin_pos (zig (x.key.data.toList.length : Int))
 unfold It.bytes putT putZ
 simp only [List.length_append]
 omega
theorem bytesOf_cons (x : It) (l : List It) : bytesOf (x :: l) = x.bytes ++ bytesOf l := by simp [bytesOf]
theorem bytesOf_snoc (l : List It) (x : It) : bytesOf (l ++ [x]) = bytesOf l ++ x.bytes := by simp [bytesOf]
theorem bytesOf_pos {l : List It} (h : l ≠ []) : 0 < (bytesOf l).length := by
 cases l with
 | nil => exact absurd rfl h
 | cons x l =>
  rw [bytesOf_cons, List.length_append]
  have := x.bytes_pos
  omega
theorem bytesOf_inj {l m : List It} (hl : l.all It.may = true) (hm : m.all It.may = true) (h : bytesOf l = bytesOf m) : l = m := by
 induction l generalizing m with
 | nil =>
  cases m with
  | nil => rfl
  | cons y m =>
   have := bytesOf_pos (l := y :: m) (by simp)
   rw [← h] at this
   simp [bytesOf] at this
 | cons x l ih =>
  cases m with
  | nil =>
   have := bytesOf_pos (l := x :: l) (by simp)
   rw [h] at this
   simp [bytesOf] at this
  | cons y m =>
   rw [List.all_cons, Bool.and_eq_true] at hl hm
   rw [bytesOf_cons, bytesOf_cons] at h
   obtain ⟨rfl, e⟩ := It.bytes_inj hl.1 hm.1 h
   rw [ih hl.2 hm.2 e]
theorem encs_may {l : List It} (h : l.all It.may = true) : encs l = bytesOf l := by unfold encs; rw [if_pos h]
theorem It.bytes_len {x : It} (h : x.may = true) : x.bytes.length ≤ 280 := by
 have m := It.may_is h
 have f := x.flag_bd
 have kx : x.key.data.toList.length = x.key.size := by simp
 have vx : x.val.data.toList.length = x.val.size := by simp
 have h1 := putZ_len (x.key.data.toList.length : Int) (by omega) (by omega)
 have h2 := putZ_len (x.val.data.toList.length : Int) (by omega) (by omega)
 have h3 := putZ_len x.till (by omega) (by omega)
 have h4 := putZ_len x.flag (by omega) (by omega)
 unfold It.bytes putT
 simp only [List.length_append]
 omega
theorem bytesOf_len {l : List It} (h : l.all It.may = true) : (bytesOf l).length ≤ 280 * l.length := by
 induction l with
 | nil => simp [bytesOf]
 | cons x l ih =>
  rw [List.all_cons, Bool.and_eq_true] at h
  rw [bytesOf_cons, List.length_append, List.length_cons]
  have := x.bytes_len h.1
  have := ih h.2
  omega
theorem It.bytes_four (x : It) : 4 ≤ x.bytes.length := by
 have h1 := vin_pos (zig (x.key.data.toList.length : Int))
 have h2 := vin_pos (zig (x.val.data.toList.length : Int))
 have h3 := vin_pos (zig x.till)
 have h4 := vin_pos (zig x.flag)
 unfold It.bytes putT putZ
 simp only [List.length_append]
 omega
theorem bytesOf_four (l : List It) : 4 * l.length ≤ (bytesOf l).length := by
 induction l with
 | nil => simp
 | cons x l ih =>
  rw [bytesOf_cons, List.length_append, List.length_cons]
  have := x.bytes_four
  omega
end Go.Proofs.YticophaepapjoaaGreatDoor
namespace Go.Proofs.YticophaepapjoaaGreatDoor
def headS (t : Nat) (x : List UInt8) : List UInt8 := putZ (t : Int) ++ putT x
def bodyS (t : Nat) (x : List UInt8) : List UInt8 := headS t x ++ List.replicate (60 - (headS t x).length) 0
def sumL (c : Nat) : List UInt8 := [UInt8.ofNat (c % 256), UInt8.ofNat (c / 256 % 256), UInt8.ofNat (c / 65536 % 256), UInt8.ofNat (c / 16777216 % 256)]
def sumOf (q : UInt8) (l : List UInt8) : List UInt8 := sumL (crcN (q :: l.take 60))
def encF (q : UInt8) (t : Nat) (x : List UInt8) : List UInt8 := bodyS t x ++ sumL (crcN (q :: bodyS t x))
def readF (l : List UInt8) : Option (Int × List UInt8) :=
 if (getZ l).2.2 ≠ 0 then none
 else if (getT (l.drop (getZ l).2.1)).2.2 ≠ 0 then none
 else some ((getZ l).1, (getT (l.drop (getZ l).2.1)).1)
def decF (q : UInt8) (l : List UInt8) : Option (Int × List UInt8) := if l.drop 60 = sumOf q l then readF (l.take 60) else none
def encS (t : Nat) (x : List UInt8) : List UInt8 := encF 83 t x
def takeS : Option (Int × List UInt8) → Option (Nat × List UInt8)
 | none => none
 | some (t, x) => if t < 1 ∨ 1099511627776 < t ∨ 40 < x.length then none else some (t.toNat, x)
def decS (l : List UInt8) : Option (Nat × List UInt8) := takeS (decF 83 l)
theorem sumL_len (c : Nat) : (sumL c).length = 4 := rfl
theorem toNat_ofNat_mod (a : Nat) : (UInt8.ofNat (a % 256)).toNat = a % 256 := by
 rw [UInt8.toNat_ofNat']; omega
theorem sumL_inj (a b : Nat) (ha : a < 4294967296) (hb : b < 4294967296) (h : sumL a = sumL b) : a = b := by
 unfold sumL at h
 simp only [List.cons.injEq, and_true] at h
 obtain ⟨h0, h1, h2, h3⟩ := h
 have e0 := congrArg UInt8.toNat h0
 have e1 := congrArg UInt8.toNat h1
 have e2 := congrArg UInt8.toNat h2
 have e3 := congrArg UInt8.toNat h3
 rw [toNat_ofNat_mod, toNat_ofNat_mod] at e0 e1 e2 e3
 omega
theorem putZ_small (t : Nat) (ht : t < 2199023255552) : (putZ (t : Int)).length ≤ 6 := by
 unfold putZ
 refine vin_len 5 _ ?_
 have : zig (t : Int) = 2 * t := by unfold zig; rw [if_neg (by omega)]; omega
 rw [this]
 have e : (128 : Nat) ^ (5 + 1) = 4398046511104 := by decide
 omega
theorem putT_small (x : List UInt8) (hx : x.length ≤ 63) : (putT x).length = x.length + 1 := by
 unfold putT putZ
 have : zig (x.length : Int) = 2 * x.length := by unfold zig; rw [if_neg (by omega)]; omega
 rw [this, vin_small _ (by omega)]
 simp
theorem headS_len (t : Nat) (x : List UInt8) (hx : x.length ≤ 53) (ht : t < 2199023255552) : (headS t x).length ≤ 60 := by
 unfold headS
 have := putZ_small t ht
 have := putT_small x (by omega)
 rw [List.length_append]; omega
theorem bodyS_len (t : Nat) (x : List UInt8) (h : (headS t x).length ≤ 60) : (bodyS t x).length = 60 := by
 unfold bodyS; rw [List.length_append, List.length_replicate]; omega
theorem encF_len (q : UInt8) (t : Nat) (x : List UInt8) (h : (headS t x).length ≤ 60) : (encF q t x).length = 64 := by
 unfold encF; rw [List.length_append, bodyS_len t x h, sumL_len]
theorem encF_take (q : UInt8) (t : Nat) (x : List UInt8) (h : (headS t x).length ≤ 60) : (encF q t x).take 60 = bodyS t x := by
 unfold encF; rw [← bodyS_len t x h]; exact List.take_left
theorem encF_drop (q : UInt8) (t : Nat) (x : List UInt8) (h : (headS t x).length ≤ 60) : (encF q t x).drop 60 = sumL (crcN (q :: bodyS t x)) := by
 unfold encF; rw [← bodyS_len t x h]; exact List.drop_left
theorem decF_enc (q : UInt8) (t : Nat) (x : List UInt8) (h : (headS t x).length ≤ 60) (ht : t < 9223372036854775808) (hx : x.length ≤ 65536) : decF q (encF q t x) = some ((t : Int), x) := by
 have hz : getZ (bodyS t x) = ((t : Int), (putZ (t : Int)).length, 0) := by
  unfold bodyS headS
  rw [List.append_assoc]
  exact getZ_put _ _ (by omega) (by omega)
 have hd : (bodyS t x).drop (putZ (t : Int)).length = putT x ++ List.replicate (60 - (headS t x).length) 0 := by
  have e : bodyS t x = putZ (t : Int) ++ (putT x ++ List.replicate (60 - (headS t x).length) 0) := by
   conv => lhs; unfold bodyS; arg 1; unfold headS
   rw [List.append_assoc]
  rw [e]; exact List.drop_left
 have hg : getT ((bodyS t x).drop (putZ (t : Int)).length) = (x, (putT x).length, 0) := by rw [hd]; exact getT_put x _ hx
 unfold decF
 rw [if_pos (by rw [encF_drop q t x h]; unfold sumOf; rw [encF_take q t x h]), encF_take q t x h]
 unfold readF
 rw [hz]
 simp only
 rw [hg]
 simp only
 rw [if_neg (by omega), if_neg (by omega)]
theorem blank_take : blank.take 60 = List.replicate 60 0 := by unfold blank; rw [List.take_replicate]; rfl
theorem readF_blank : readF (blank.take 60) = some (0, []) := by
 have e0 : (putZ 0) = [0] := by unfold putZ; rw [show zig 0 = 0 from rfl, vin_small 0 (by decide)]; rfl
 have h : getZ (blank.take 60) = (0, 1, 0) := by
  have e : blank.take 60 = putZ 0 ++ List.replicate 59 0 := by rw [blank_take, e0]; rfl
  rw [e, getZ_put 0 _ (by omega) (by omega), e0]; rfl
 have h2 : getT ((blank.take 60).drop 1) = ([], 1, 0) := by
  have e : (blank.take 60).drop 1 = putT [] ++ List.replicate 58 0 := by
   rw [blank_take, List.drop_replicate]; unfold putT; simp only [List.length_nil, Int.ofNat_zero, List.append_nil]
   rw [e0]; rfl
  rw [e, getT_put [] _ (by decide)]
  unfold putT; simp only [List.length_nil, List.append_nil, Int.ofNat_zero]; rw [e0]; rfl
 unfold readF; rw [h]; simp only; rw [h2]; simp
theorem decF_blank (q : UInt8) : decF q blank = none ∨ decF q blank = some (0, []) := by
 unfold decF; split
 ·exact .inr readF_blank
 ·exact .inl rfl
theorem encS_len (t : Nat) (x : List UInt8) (hx : x.length ≤ 40) (ht : t ≤ 1099511627776) : (encS t x).length = 64 := encF_len _ t x (headS_len t x (by omega) (by omega))
theorem decS_enc (t : Nat) (x : List UInt8) (hx : x.length ≤ 40) (h1 : 1 ≤ t) (ht : t ≤ 1099511627776) : decS (encS t x) = some (t, x) := by
 unfold decS encS
 rw [decF_enc _ t x (headS_len t x (by omega) (by omega)) (by omega) (by omega)]
 unfold takeS
 simp only
 rw [if_neg (by omega), Int.toNat_natCast]
theorem decS_blank : decS blank = none := by
 unfold decS
 rcases decF_blank 83 with h | h <;> rw [h]
 ·rfl
 ·unfold takeS; simp
theorem set_ne (l : List UInt8) (i : Nat) (b : UInt8) (hi : i < l.length) (hb : b ≠ 0) : l.set i (l.getD i 0 ^^^ b) ≠ l := by
 intro h
 have e : (l.set i (l.getD i 0 ^^^ b))[i]? = l[i]? := by rw [h]
 rw [List.getElem?_set_self hi, List.getElem?_eq_getElem hi, List.getD_eq_getElem?_getD, List.getElem?_eq_getElem hi] at e
 simp only [Option.getD_some, Option.some.injEq] at e
 have e2 : (l[i] ^^^ b).toNat = l[i].toNat := by rw [e]
 rw [UInt8.toNat_xor] at e2
 have e3 : l[i].toNat ^^^ (l[i].toNat ^^^ b.toNat) = 0 := by rw [e2, Nat.xor_self]
 rw [← Nat.xor_assoc, Nat.xor_self, Nat.zero_xor] at e3
 exact hb (UInt8.toNat_inj.1 (by simpa using e3))
theorem xor_back (a b : UInt8) : a ^^^ (a ^^^ b) = b := by
 apply UInt8.toNat_inj.1
 rw [UInt8.toNat_xor, UInt8.toNat_xor, ← Nat.xor_assoc, Nat.xor_self, Nat.zero_xor]
theorem xorL_set (l : List UInt8) (i : Nat) (b : UInt8) (hi : i < l.length) : xorL l (l.set i (l.getD i 0 ^^^ b)) = List.replicate i 0 ++ [b] ++ List.replicate (l.length - 1 - i) 0 := by
 apply List.ext_getElem?
 intro j
 unfold xorL
 rw [List.getElem?_zipWith, List.getElem?_set]
 by_cases hj : j < l.length
 ·rw [List.getElem?_eq_getElem hj]
  by_cases hij : i = j
  ·subst hij
   simp [hj, List.getD_eq_getElem?_getD, xor_back]
  ·simp only [hij, if_false]
   have hx : ∀ a : UInt8, a ^^^ a = 0 := fun a => by
    apply UInt8.toNat_inj.1; rw [UInt8.toNat_xor, Nat.xor_self]; rfl
   simp only [hx]
   symm
   rcases Nat.lt_or_ge j i with h | h
   ·simp [List.getElem?_append, h]
   ·rw [List.getElem?_append_right (by simp; omega), List.getElem?_replicate]
    simp
    omega
 ·rw [List.getElem?_eq_none (by omega)]
  symm
  simp
  omega
theorem crcN_set (l : List UInt8) (i : Nat) (b : UInt8) (hi : i < l.length) (hb : b ≠ 0) : crcN l ≠ crcN (l.set i (l.getD i 0 ^^^ b)) :=
 crcN_burst l _ [b] i (l.length - 1 - i) (by simp) ⟨b, by simp, hb⟩ (by simp) (xorL_set l i b hi)
theorem decF_bad (q : UInt8) (t : Nat) (x : List UInt8) (i : Nat) (b : UInt8) (h0 : (headS t x).length ≤ 60) (hi : i < 64) (hb : b ≠ 0) : decF q ((encF q t x).set i ((encF q t x).getD i 0 ^^^ b)) = none := by
 have h1 := encF_take q t x h0
 have h2 := encF_drop q t x h0
 have hl := encF_len q t x h0
 unfold decF
 rw [if_neg]
 unfold sumOf
 rcases Nat.lt_or_ge i 60 with h | h
 ·rw [List.drop_set_of_lt h, h2, List.take_set]
  have e : (encF q t x).getD i 0 = (bodyS t x).getD i 0 := by
   rw [← h1, List.getD_eq_getElem?_getD, List.getD_eq_getElem?_getD, List.getElem?_take, if_pos h]
  rw [h1, e]
  intro hs
  have e3 := sumL_inj _ _ (crcN_lt _) (crcN_lt _) hs
  refine crcN_set (q :: bodyS t x) (i + 1) b (by rw [List.length_cons, bodyS_len t x h0]; omega) hb ?_
  rw [List.set_cons_succ]
  have e4 : (q :: bodyS t x).getD (i + 1) 0 = (bodyS t x).getD i 0 := by simp [List.getD_eq_getElem?_getD]
  rw [e4]
  exact e3
 ·rw [List.take_set_of_le h, h1]
  have e : (encF q t x).getD i 0 = ((encF q t x).drop 60).getD (i - 60) 0 := by
   rw [List.getD_eq_getElem?_getD, List.getD_eq_getElem?_getD, List.getElem?_drop]
   congr 3; omega
  have e2 : ((encF q t x).set i ((encF q t x).getD i 0 ^^^ b)).drop 60 = ((encF q t x).drop 60).set (i - 60) (((encF q t x).drop 60).getD (i - 60) 0 ^^^ b) := by
   rw [List.drop_set, if_neg (by omega), e]
  rw [e2, ← h2]
  exact set_ne _ _ _ (by rw [List.length_drop]; omega) hb
theorem decS_bad (t : Nat) (x : List UInt8) (i : Nat) (b : UInt8) (hx : x.length ≤ 40) (ht : t ≤ 1099511627776) (hi : i < 64) (hb : b ≠ 0) : decS ((encS t x).set i ((encS t x).getD i 0 ^^^ b)) = none := by
 unfold decS encS
 rw [decF_bad _ t x i b (headS_len t x (by omega) (by omega)) hi hb]; rfl
end Go.Proofs.YticophaepapjoaaGreatDoor
namespace Go.Proofs.YticophaepapjoaaGreatDoor
open Go Go.RowKit
theorem equal_any (A B : Option Addr) (c d n m : Nat) (F G : Nat → Prop) (l r : List UInt8) (w : World) (h1 : Row w A F (bcells l)) (h2 : Row w B G (bcells r)) (hn : n = l.length) (hm : m = r.length) (x : Bool) (hx : ((txt l).toList == (txt r).toList) = x) :
  Calls Tryz.prog 198 #[.slice A n c, .slice B m d] w fun e w' => e = .returned (.bool x) ∧ w = w' := by
 have c1 := h1.to_string (P := Tryz.prog) Tryz.underlying64 Tryz.underlying5 Tryz.underlying9 n c hn
 have c2 := h2.to_string (P := Tryz.prog) Tryz.underlying64 Tryz.underlying5 Tryz.underlying9 m d hm
 clear h1 h2 hn hm
 go_enter Tryz.func198, Tryz.ntmps198
 go_wp2
 go_ret
 exact ⟨rfl, rfl⟩
def Taken (w : World) : Prop := ∀ i, i < 16 → w.cell? ⟨0, i, none⟩ = some (.int .u32 ((tbits 4 i : Nat) : Int))
theorem Taken.keep {w w' : World} (h : Taken w) (hk : Keeps (fun _ => True) w w') : Taken w' := fun i hi => hk.cell (h i hi) trivial
theorem Taken.alloc {w : World} (h : Taken w) (o : Obj) : Taken (w.alloc o) := h.keep ((Keeps.refl _ w).alloc o)
theorem ret_u32 {a b : Int} (h : a = b) : Ending.returned (.int .u32 a) = .returned (.int .u32 b) := by rw [h]
def half (x : Nat) : Nat := x / 16 ^^^ tbits 4 (x % 16)
theorem half_tbits (x : Nat) : half x = tbits 4 x := by
 unfold half; rw [tbits_table 4 x, Nat.xor_comm]
theorem half_lt (x : Nat) (h : x < 4294967296) : half x < 4294967296 := by rw [half_tbits]; exact tbits_lt 4 x h
theorem half_half (x : Nat) : half (half x) = t8 x := by rw [half_tbits, half_tbits]; exact (tbits_add 4 4 x).symm
theorem half_z (x : Nat) (h : x < 4294967296) : bits .xor .u32 ((x : Int) / 16) ((tbits 4 (x % 16) : Nat) : Int) = ((half x : Nat) : Int) := by
 have e : (x : Int) / 16 = ((x / 16 : Nat) : Int) := rfl
 rw [e]
 exact u32_xor_nat _ _ (by omega) (tbits_lt 4 _ (by omega))
theorem in_z (c : Nat) (b : UInt8) (h : c < 4294967296) : bits .xor .u32 (c : Int) (b.toNat : Int) = ((c ^^^ b.toNat : Nat) : Int) := u32_xor_nat _ _ h (byte_lt32 b)
theorem crcF_next (c : Nat) (l : List UInt8) (k : Nat) (h : k < l.length) : crcF c (l.take (k + 1)) = half (half (crcF c (l.take k) ^^^ l[k].toNat)) := by
 rw [List.take_succ_eq_append_getElem h, crcF_snoc, half_half]
set_option maxHeartbeats 400000 in
theorem add_part (c : Nat) (hc : c < 4294967296) (A : Option Addr) (cap : Nat) (F : Nat → Prop) (l : List UInt8) (w : World) (h : Row w A F (bcells l)) (hl : l.length ≤ maxLen) (hT : Taken w) :
  Calls Tryz.prog 175 #[.int .u32 (c : Int), .slice A l.length cap] w fun e w' => e = .returned (.int .u32 ((crcF c l : Nat) : Int)) ∧ w = w' := by
 unfold maxLen at hl
 have HT := Lib.hid hT
 have HC := Lib.hid hc
 clear hT hc
 go_enter Tryz.func175, Tryz.ntmps175
 go_wp2
 go_loop [0, 9] (fun t i => ∃ k : Nat, k ≤ l.length ∧ i = .int .i64 k ∧ t = .int .u32 ((crcF c (l.take k) : Nat) : Int)) (fun _ i => l.length - (intOf i).toNat)
 case atStart => exact ⟨0, Nat.zero_le _, rfl, rfl⟩
 case round =>
  obtain ⟨k, hk, rfl, rfl⟩ := hrel
  by_cases hlt : k < l.length
  ·obtain ⟨b, o, rfl, _, hcell⟩ := h.at_ (k := k) (by simpa [bcells] using hlt)
   simp only [bcells, List.getElem_map, bcell] at hcell
   have H := Lib.hid (crcF_next c l k hlt)
   have hx := crcF_lt (l.take k) c HC.out
   have hb := byte_lt32 l[k]
   generalize crcF c (l.take k) = x at H hx
   have e1 := in_z x l[k] hx
   have hy : x ^^^ l[k].toNat < 4294967296 := xor_lt32 hx hb
   generalize x ^^^ l[k].toNat = y at H e1 hy
   have e2 := half_z y hy
   have hz := half_lt y hy
   have c1 := HT.out (y % 16) (Nat.mod_lt _ (by decide))
   generalize half y = z at H e2 hz
   have e3 := half_z z hz
   have c2 := HT.out (z % 16) (Nat.mod_lt _ (by decide))
   clear h
   go_wp2
   go_round
   case rel => exact ⟨k + 1, by omega, by go_num, by rw [H.out]⟩
   case measure => simp [intOf]; omega
  ·obtain rfl : k = l.length := by omega
   rw [List.take_length]
   go_wp2
   go_ret
   exact ⟨rfl, rfl⟩
def joined (ps : List Part) : List UInt8 := ps.flatMap (·.l)
theorem joined_next (c : Nat) (ps : List Part) (k : Nat) (h : k < ps.length) : crcF c (joined (ps.take (k + 1))) = crcF (crcF c (joined (ps.take k))) ps[k].l := by
 unfold joined
 rw [List.take_succ_eq_append_getElem h, List.flatMap_append, crcF_append]; simp
theorem u32_compl (x : Nat) (h : x < 4294967296) : bits .xor .u32 4294967295 (x : Int) = ((4294967295 - x : Nat) : Int) := by
 have e := u32_xor_nat 4294967295 x (by decide) h
 rw [not_xor x h, Nat.xor_comm, ← e]; rfl
set_option maxHeartbeats 400000 in
theorem sum_any (B : Option Addr) (d : Nat) (F G : Nat → Prop) (ps : List Part) (w : World) (hB : Row w B G (ps.map Part.val)) (hp : Parts w F ps) (hn : ps.length ≤ maxLen) (hT : Taken w) :
  Calls Tryz.prog 142 #[.slice B ps.length d] w fun e w' => e = .returned (.int .u32 ((crcN (joined ps) : Nat) : Int)) ∧ w = w' := by
 unfold maxLen at hn
 have HT := Lib.hid hT
 have HP := Lib.hid hp
 clear hT hp
 go_enter Tryz.func142, Tryz.ntmps142
 go_wp2
 go_loop [3, 8] (fun t i => ∃ k : Nat, k ≤ ps.length ∧ i = .int .i64 k ∧ t = .int .u32 ((crcF 4294967295 (joined (ps.take k)) : Nat) : Int)) (fun _ i => ps.length - (intOf i).toNat)
 case atStart => exact ⟨0, Nat.zero_le _, rfl, rfl⟩
 case round =>
  obtain ⟨k, hk, rfl, rfl⟩ := hrel
  have hx := crcF_lt (joined (ps.take k)) 4294967295 (by decide)
  by_cases hlt : k < ps.length
  ·obtain ⟨b, o, rfl, _, hcell⟩ := hB.at_ (k := k) (by simpa using hlt)
   simp only [List.getElem_map, Part.val] at hcell
   have H := Lib.hid (joined_next 4294967295 ps k hlt)
   have hpart := HP.out ps[k] (List.getElem_mem hlt)
   generalize crcF 4294967295 (joined (ps.take k)) = x at H hx
   generalize ps[k] = p at H hpart hcell
   have h1 := Lib.hid hpart.1
   have h2 := hpart.2
   clear hB hpart
   go_wp2_with (go_at_call 175; ((with_reducible refine (add_part x hx _ _ F p.l _ h1.out h2 HT.out).mono ?_); rintro e w' ⟨rfl, rfl⟩))
   go_round
   case rel => exact ⟨k + 1, by omega, by go_num, by rw [H.out]⟩
   case measure => simp [intOf]; omega
  ·obtain rfl : k = ps.length := by omega
   rw [List.take_length] at hx ⊢
   have e : bits .xor .u32 4294967295 ((crcF 4294967295 (joined ps) : Nat) : Int) = ((crcN (joined ps) : Nat) : Int) := u32_compl _ hx
   generalize crcF 4294967295 (joined ps) = x at e hx
   have H := Lib.hid e
   clear e
   go_wp2
   go_ret
   exact ⟨ret_u32 H.out, rfl⟩
end Go.Proofs.YticophaepapjoaaGreatDoor
namespace Go.Proofs.YticophaepapjoaaGreatDoor
open Go Go.RowKit Go.Joins
section
variable {W W' : World} {base : Nat} {e : TypeId} {k : IntKind} {v : Value} {n c g : Nat} {F : Nat → Prop}
theorem own_cap {A : Option Addr} {xs : List Value} (h : W.ownsRow base e 1 (.slice A n c) n xs) : n ≤ c ∧ c ≤ maxLen ∧ (A = none → c = 0) := by
 rcases h.2 with ⟨h', h0⟩ | ⟨g', cap', cur, h', _, _, h1, h2, _⟩
 ·injection h' with a1 a2 a3
  subst a2 a3
  exact ⟨Nat.le_refl _, Nat.zero_le _, fun _ => rfl⟩
 ·injection h' with a1 a2 a3
  subst a1 a3
  exact ⟨h1, h2, fun h => by cases h⟩
end
def Mine (w : World) (k : IntKind) (A : Option Addr) (n : Nat) : Prop := 0 < n → ∃ (g o : Nat) (cur : Array Value) (t : TypeId) (fr : Nat × Nat), A = some ⟨g, o, none⟩ ∧ w.heap[g]? = some (.cells cur t fr) ∧ ∀ i, i < n → (∃ z : Int, cur[o + i]? = some (.int k z)) ∧ w.frozen? ⟨g, o + i, none⟩ = false
end Go.Proofs.YticophaepapjoaaGreatDoor
namespace Go.Proofs
open Go.Shelf
def Tryz.reverseA_ren : Go.Shelf.Ren := ⟨fun | 35 => 193 | n => n, fun | 22 => 135 | 23 => 179 | 3 => 3 | 4 => 4 | 0 => 0 | n => n, fun | n => n⟩
theorem Tryz.reverseA : Go.Proofs.SlLaysE0.n35 Tryz.prog Tryz.reverseA_ren := {
 mixed := by kernel_rfl
 f35 := ⟨Tryz.f193.name, by decide, Tryz.func193.trans (congrArg some (by kernel_rfl))⟩
 t0 := Tryz.underlying0
 a0 := Tryz.isAgg0
 z0 := Tryz.sizeOf0
 v0 := Tryz.zeroValue0
 t3 := Tryz.underlying3
 a3 := Tryz.isAgg3
 z3 := Tryz.sizeOf3
 v3 := Tryz.zeroValue3
 t4 := Tryz.underlying4
 a4 := Tryz.isAgg4
 z4 := Tryz.sizeOf4
 v4 := Tryz.zeroValue4
 t22 := Tryz.underlying135
 a22 := Tryz.isAgg135
 z22 := Tryz.sizeOf135
 v22 := Tryz.zeroValue135 }
end Go.Proofs
namespace Go.Proofs.YticophaepapjoaaGreatDoor
open Go Go.ChangeShapes Go.WideShapes Go.ChangeAt Go.RowKit Go.Deep
section
variable {H : Type} {enc : TypeId × Value → H} {P : Program} {W W' : World}
theorem trodAll_len {base : Nat} {sp : Nat → Bool} {held : Bool} : ∀ {ts : List TypeId} {vs : List Value} {ds : List (DataW H)} {ps : List MemPlace}, DataW.TrodAll enc P W base sp held ts vs ds ps → ds.length = ts.length
 | [], [], [], _, _ => rfl
 | _ :: _, _ :: _, _ :: _, _, ⟨_, _, _, h, _⟩ => by simp [trodAll_len h]
theorem trodAll_below (hl : laidOutB P = true) (hb : Below W.heap.size W W') : ∀ {ts : List TypeId} {vs : List Value} {ds : List (DataW H)} {ps : List MemPlace}, (ts.all fun t => P.readableRec t && decide (t < P.types.size)) = true →
  DataW.TrodAll enc P W 0 (fun _ => true) true ts vs ds ps → DataW.TrodAll enc P W' 0 (fun b => decide (b < W.heap.size)) true ts vs ds ps
 | [], [], [], _, _, h => h
 | t :: ts, v :: vs, d :: ds, _, ht, ⟨p, q, h1, h2, e⟩ => by
  simp only [List.all_cons, Bool.and_eq_true, decide_eq_true_eq] at ht
  have hlt : ∀ x ∈ p, x.block < W.heap.size := by obtain ⟨m, hm⟩ := h1; exact DataW.trod_lt m _ _ _ hm
  exact ⟨p, q, Below.trod hl ht.1.1 ht.1.2 h1 hb hlt, trodAll_below hl hb ht.2 h2, e⟩
def LawWalk (H : Type) (enc : TypeId × Value → H) (P : Program) (f : FuncId) (fn : Func) (X : World → Prop) : Prop :=
 ∀ (W : World) (base : Nat) (args : Array Value) (ds : List (DataW H)) (p : List MemPlace), (∀ (j : Nat) t v, fn.params[j]? = some t → args[j]? = some v → Value.okWide P W .any base t v) →
  DataW.TrodAll enc P W 0 (fun _ => true) true fn.params.toList args.toList ds p → X W → Calls P f args W fun e W' => e = .returned (.bool true) ∧ Below W.heap.size W W'
theorem law_post {fn : Func} {s : ChangeSpec} {tb : TypeId} (hl : laidOutB P = true) (htys : (fn.params.toList.all fun t => P.readableRec t && decide (t < P.types.size)) = true)
  (hres : fn.resultTypes = #[tb]) (hb : P.underlying tb = some .bool) (hvars : s.vars = []) (hs : ∀ ds : List (DataW H), ds.length = fn.params.size → s.fn H ds = { results := [.lit (.bool true)], args := ds })
  {args : Array Value} {ds gs : List (DataW H)} {before : List MemPlace} (hW : DataW.Whole enc P fn.params.toList s.vars false W args.toList ds gs before) (bel : Below W.heap.size W W') :
  s.post enc P fn false true false false W args (.bool true) W' := by
 have hW' := hW
 obtain ⟨p, q, hA, hV, rfl, hfz, hnd⟩ := hW
 rw [hvars] at hV
 obtain ⟨rfl, rfl⟩ := trodVars_none hV
 have e1 := hs ds (by rw [trodAll_len hA]; simp)
 refine ⟨ds, [], p ++ [], [], p, [], hW', ?_, ?_, ?_, bel.frame _, fun h => by cases h⟩
 ·rw [List.append_nil, e1, hres]; exact trodAll_mk1 (shut_bool hb true)
 ·rw [List.append_nil, e1]; exact trodAll_below hl bel htys hA
 ·rw [List.append_nil, e1, hvars]; rfl
theorem law_laid {C : Checked} {os : Os} {f : FuncId} {fn : Func} {s : ChangeSpec} {tb : TypeId} {X : World → Prop} (hX : ∀ w w' : World, w.heap = w'.heap → X w → X w')
  (own : ownKnob C.prog.godebug = none) (started : os.Started) (noInit : C.prog.inits.idxOf? f = none) (hfn : C.prog.funcs[f]? = some fn)
  (witness : ∃ (w : World) (tape : Tape) (i : Input), w.os = os ∧ (w.forCall tape i).Shaped C.prog ∧ i.vars = [] ∧ Input.okWide C.prog (w.forCall tape i) .any w.heap.size f i ∧
   ((s.pre enc C.prog fn [] false (w.forCall tape i).memory i.args ∧ X (w.forCall tape i).memory) ∧ sizedMet enc C.prog fn (OpenSpec.ofChange s) false (w.forCall tape i).memory i.args) ∧ ({} : Assume).holds C.prog (lone (Frame.enter C.prog f i.args .normal) [] (w.forCall tape i)))
  (hl : laidOutB C.prog = true) (htys : (fn.params.toList.all fun t => C.prog.readableRec t && decide (t < C.prog.types.size)) = true)
  (hres : fn.resultTypes = #[tb]) (hb : C.prog.underlying tb = some .bool) (hvars : s.vars = []) (hs : ∀ ds : List (DataW H), ds.length = fn.params.size → s.fn H ds = { results := [.lit (.bool true)], args := ds })
  (walk : LawWalk H enc C.prog f fn X) :
  ReturnsInHanded {} C os f .any (fun w args => (s.pre enc C.prog fn [] false w args ∧ X w) ∧ sizedMet enc C.prog fn (OpenSpec.ofChange s) false w args) (s.post enc C.prog fn false true false false) := by
 refine returnsInHanded_of_change_and (X := fun w _ => X w) (fun w w' _ h hx => hX w w' h hx) own started noInit hfn witness ?_
 intro W base args ds gs before hval hW _ _ hL _
 have hA := hW
 obtain ⟨p, q, hA, _⟩ := hA
 refine (walk W base args ds p hval hA hL).mono fun e W' ⟨he, bel⟩ => ?_
 subst he
 exact ⟨_, rfl, law_post hl htys hres hb hvars hs hW bel⟩
end
end Go.Proofs.YticophaepapjoaaGreatDoor
