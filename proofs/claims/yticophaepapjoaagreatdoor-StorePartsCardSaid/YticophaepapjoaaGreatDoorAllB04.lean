/-
  DevLay, TextOrder, CrcMath, SecMath, Equal, Crc, RowZ, SlgLay, IdxLay, JnLay: texts of mine, joined.
-/
import Derived.Shelf.SlIterI.Nil
import Derived.Shelf.SortM.Plain
import Derived.Shelf.SortM.SortNone
import Derived.Ground.GgzProg
import Derived.Ground.SlgmProg
import Derived.Shelf.LaySoft
import Derived.Shelf.Lay
import Derived.Test.YticophaepapjoaaGreatDoorProg
import Derived.Sort.Walk0
import Derived.Test.YticophaepapjoaaGreatDoorAllB01
import Derived.Test.YticophaepapjoaaGreatDoorAllB00
import Derived.WalkKit
import Derived.Lib.Hide
import Derived.Laws.BitsAllLaws
import Derived.Laws.OwnMore
import Derived.Lib.SmallJoins
import Derived.Shelf.SlicesQ.Reverse
import Derived.Ground.SlgnProg
import Derived.Shelf.Strconv.Clone
import Derived.Shelf.Sort.Plain
import Derived.Shelf.Slices.In.SortNone
import Derived.Ground.NamesProg
import Derived.Shelf.SlicesG.Delete
import Derived.Shelf.SlicesG.SearchI
open Go.Lib renaming hid → Hd
set_option maxRecDepth 100000
set_option maxHeartbeats 8000000
namespace Go.Proofs
open Go.Shelf
shelf_try shelf_lay_g SlLaysZI.n7 Ggz 7 at Tryz 81 as Tryz.keysA
shelf_try shelf_lay_g SlLaysZI.n6 Ggz 6 at Tryz 80 as Tryz.sortedA
shelf_try shelf_lay_g SlLaysM.n5 Slgm 5 at Tryz 114 as Tryz.sortA
shelf_tried
end Go.Proofs
namespace Go.Proofs.YticophaepapjoaaGreatDoor
open Go Go.Sort
def Rising (l : List ByteArray) : Prop := l.Pairwise fun a b => Op.bytesLess a.data.toList b.data.toList = true
def lessB (a b : ByteArray) : Bool := Op.bytesLess a.data.toList b.data.toList
theorem lessB_iff {a b : ByteArray} : lessB a b = true ↔ a.data.toList < b.data.toList := by
 unfold lessB; rw [bytesLess_eq, decide_eq_true_eq]
theorem lessB_irrefl (a : ByteArray) : lessB a a = false := by
 cases h : lessB a a with
 | false => rfl
 | true => exact absurd (lessB_iff.1 h) (List.lt_irrefl _)
theorem rising_nodup {l : List ByteArray} (h : Rising l) : l.Nodup := h.imp fun {a b} hab e => by
 subst e
 have : lessB a a = true := hab
 rw [lessB_irrefl] at this
 cases this
theorem rising_single {l : List ByteArray} {k : ByteArray} (h : Rising l) (hm : ∀ x, x ∈ l ↔ x = k) : l = [k] := by
 have h1 : [k].Nodup := by simp
 exact List.perm_singleton.1 ((List.perm_ext_iff_of_nodup (rising_nodup h) h1).2 fun x => by rw [hm x, List.mem_singleton])
end Go.Proofs.YticophaepapjoaaGreatDoor
namespace Go.Proofs.YticophaepapjoaaGreatDoor
def tbit (c : Nat) : Nat := if c % 2 = 1 then c / 2 ^^^ 3988292384 else c / 2
def tbits : Nat → Nat → Nat
 | 0, c => c
 | n + 1, c => tbits n (tbit c)
def t8 (c : Nat) : Nat := tbits 8 c
def crcF (c : Nat) (l : List UInt8) : Nat := l.foldl (fun c b => t8 (c ^^^ b.toNat)) c
def crcN (l : List UInt8) : Nat := 4294967295 - crcF 4294967295 l
theorem tbit_lt (c : Nat) (h : c < 4294967296) : tbit c < 4294967296 := by
 unfold tbit; split
 ·exact Nat.xor_lt_two_pow (n := 32) (by omega) (by decide)
 ·omega
theorem tbits_lt (n c : Nat) (h : c < 4294967296) : tbits n c < 4294967296 := by
 induction n generalizing c with
 | zero => exact h
 | succ n ih => exact ih _ (tbit_lt c h)
theorem t8_lt (c : Nat) (h : c < 4294967296) : t8 c < 4294967296 := tbits_lt 8 c h
theorem xor_lt32 {a b : Nat} (ha : a < 4294967296) (hb : b < 4294967296) : a ^^^ b < 4294967296 := Nat.xor_lt_two_pow (n := 32) ha hb
theorem byte_lt32 (b : UInt8) : b.toNat < 4294967296 := Nat.lt_trans b.toNat_lt (by decide)
theorem crcF_lt (l : List UInt8) (c : Nat) (h : c < 4294967296) : crcF c l < 4294967296 := by
 induction l generalizing c with
 | nil => exact h
 | cons b l ih => exact ih _ (t8_lt _ (xor_lt32 h (byte_lt32 b)))
theorem crcF_append (c : Nat) (l r : List UInt8) : crcF c (l ++ r) = crcF (crcF c l) r := by unfold crcF; rw [List.foldl_append]
theorem crcF_snoc (c : Nat) (l : List UInt8) (b : UInt8) : crcF c (l ++ [b]) = t8 (crcF c l ^^^ b.toNat) := by rw [crcF_append]; rfl
theorem tbit_bit (c i : Nat) : (tbit c).testBit i = (c.testBit (i + 1) ^^ (c.testBit 0 && (3988292384 : Nat).testBit i)) := by
 have e0 : c.testBit 0 = decide (c % 2 = 1) := Nat.testBit_zero c
 have e1 : c.testBit (i + 1) = (c / 2).testBit i := Nat.testBit_succ c i
 unfold tbit
 split
 ·rename_i h; rw [Nat.testBit_xor, e0, e1]; simp [h]
 ·rename_i h; rw [e0, e1]; simp [h]
theorem tbit_xor (a b : Nat) : tbit (a ^^^ b) = tbit a ^^^ tbit b := by
 apply Nat.eq_of_testBit_eq
 intro i
 rw [Nat.testBit_xor, tbit_bit, tbit_bit, tbit_bit, Nat.testBit_xor, Nat.testBit_xor]
 cases a.testBit (i + 1) <;> cases b.testBit (i + 1) <;> cases a.testBit 0 <;> cases b.testBit 0 <;> cases (3988292384 : Nat).testBit i <;> rfl
theorem tbits_xor (n a b : Nat) : tbits n (a ^^^ b) = tbits n a ^^^ tbits n b := by
 induction n generalizing a b with
 | zero => rfl
 | succ n ih => simp only [tbits]; rw [tbit_xor, ih]
theorem tbits_shift (n w : Nat) : tbits n (2 ^ n * w) = w := by
 induction n with
 | zero => simp [tbits]
 | succ n ih =>
  have e : 2 ^ (n + 1) * w = 2 * (2 ^ n * w) := by rw [Nat.pow_succ, Nat.mul_comm (2 ^ n) 2, Nat.mul_assoc]
  have t : tbit (2 ^ (n + 1) * w) = 2 ^ n * w := by
   unfold tbit; rw [if_neg (by rw [e]; omega), e]; omega
  simp only [tbits]; rw [t, ih]
theorem tbits_table (n c : Nat) : tbits n c = tbits n (c % 2 ^ n) ^^^ c / 2 ^ n := by
 have e : c = c % 2 ^ n ^^^ 2 ^ n * (c / 2 ^ n) := by
  apply Nat.eq_of_testBit_eq
  intro i
  rw [Nat.testBit_xor, Nat.testBit_mod_two_pow, Nat.testBit_two_pow_mul, Nat.testBit_div_two_pow]
  by_cases h : i < n
  ·have h2 : ¬ n ≤ i := by omega
   simp [h, h2]
  ·have h2 : n ≤ i := by omega
   simp [h, h2]
 conv => lhs; rw [e]
 rw [tbits_xor, tbits_shift]
theorem tbits_add (m n c : Nat) : tbits (m + n) c = tbits n (tbits m c) := by
 induction m generalizing c with
 | zero => rw [Nat.zero_add]; rfl
 | succ m ih => rw [Nat.succ_add]; simp only [tbits]; exact ih _
theorem not_xor (c : Nat) (h : c < 4294967296) : 4294967295 - c = c ^^^ 4294967295 := by
 apply Nat.eq_of_testBit_eq
 intro i
 have e : 4294967295 - c = 2 ^ 32 - (c + 1) := by omega
 rw [e, Nat.testBit_two_pow_sub_succ (by omega), Nat.testBit_xor]
 have e2 : (4294967295 : Nat).testBit i = decide (i < 32) := by
  rw [show (4294967295 : Nat) = 2 ^ 32 - 1 from by decide, Nat.testBit_two_pow_sub_one]
 rw [e2]
 by_cases hi : i < 32
 ·simp [hi]
 ·have := Nat.testBit_lt_two_pow (Nat.lt_of_lt_of_le (show c < 2 ^ 32 from h) (Nat.pow_le_pow_right (by decide) (show 32 ≤ i by omega)))
  simp [hi, this]
theorem crcN_lt (l : List UInt8) : crcN l < 4294967296 := by unfold crcN; omega
end Go.Proofs.YticophaepapjoaaGreatDoor
namespace Go.Proofs.YticophaepapjoaaGreatDoor
def headS (t : Nat) (x : List UInt8) : List UInt8 := putZ (t : Int) ++ putT x
def bodyS (t : Nat) (x : List UInt8) : List UInt8 := headS t x ++ List.replicate (60 - (headS t x).length) 0
def sumL (c : Nat) : List UInt8 := [UInt8.ofNat (c % 256), UInt8.ofNat (c / 256 % 256), UInt8.ofNat (c / 65536 % 256), UInt8.ofNat (c / 16777216 % 256)]
def sumOf (q : UInt8) (l : List UInt8) : List UInt8 := sumL (crcN (q :: l.take 60))
def encF (q : UInt8) (t : Nat) (x : List UInt8) : List UInt8 := bodyS t x ++ sumL (crcN (q :: bodyS t x))
def readF (l : List UInt8) : Option (Int × List UInt8) :=
 if (getZ l).2.2 ≠ 0 then none
 else if (getT (l.drop (getZ l).2.1)).2.2 ≠ 0 then none
 else some ((getZ l).1, (getT (l.drop (getZ l).2.1)).1)
def decF (q : UInt8) (l : List UInt8) : Option (Int × List UInt8) := if l.drop 60 = sumOf q l then readF (l.take 60) else none
def encS (t : Nat) (x : List UInt8) : List UInt8 := encF 83 t x
def takeS : Option (Int × List UInt8) → Option (Nat × List UInt8)
 | none => none
 | some (t, x) => if t < 1 ∨ 1099511627776 < t ∨ 40 < x.length then none else some (t.toNat, x)
def decS (l : List UInt8) : Option (Nat × List UInt8) := takeS (decF 83 l)
theorem sumL_len (c : Nat) : (sumL c).length = 4 := rfl
theorem toNat_ofNat_mod (a : Nat) : (UInt8.ofNat (a % 256)).toNat = a % 256 := by
 rw [UInt8.toNat_ofNat']; omega
theorem putZ_small (t : Nat) (ht : t < 2199023255552) : (putZ (t : Int)).length ≤ 6 := by
 unfold putZ
 refine vin_len 5 _ ?_
 have : zig (t : Int) = 2 * t := by unfold zig; rw [if_neg (by omega)]; omega
 rw [this]
 have e : (128 : Nat) ^ (5 + 1) = 4398046511104 := by decide
 omega
theorem putT_small (x : List UInt8) (hx : x.length ≤ 63) : (putT x).length = x.length + 1 := by
 unfold putT putZ
 have : zig (x.length : Int) = 2 * x.length := by unfold zig; rw [if_neg (by omega)]; omega
 rw [this, vin_small _ (by omega)]
 simp
theorem headS_len (t : Nat) (x : List UInt8) (hx : x.length ≤ 53) (ht : t < 2199023255552) : (headS t x).length ≤ 60 := by
 unfold headS
 have := putZ_small t ht
 have := putT_small x (by omega)
 rw [List.length_append]; omega
theorem bodyS_len (t : Nat) (x : List UInt8) (h : (headS t x).length ≤ 60) : (bodyS t x).length = 60 := by
 unfold bodyS; rw [List.length_append, List.length_replicate]; omega
theorem encF_len (q : UInt8) (t : Nat) (x : List UInt8) (h : (headS t x).length ≤ 60) : (encF q t x).length = 64 := by
 unfold encF; rw [List.length_append, bodyS_len t x h, sumL_len]
theorem encF_take (q : UInt8) (t : Nat) (x : List UInt8) (h : (headS t x).length ≤ 60) : (encF q t x).take 60 = bodyS t x := by
 unfold encF; rw [← bodyS_len t x h]; exact List.take_left
theorem encF_drop (q : UInt8) (t : Nat) (x : List UInt8) (h : (headS t x).length ≤ 60) : (encF q t x).drop 60 = sumL (crcN (q :: bodyS t x)) := by
 unfold encF; rw [← bodyS_len t x h]; exact List.drop_left
theorem decF_enc (q : UInt8) (t : Nat) (x : List UInt8) (h : (headS t x).length ≤ 60) (ht : t < 9223372036854775808) (hx : x.length ≤ 65536) : decF q (encF q t x) = some ((t : Int), x) := by
 have hz : getZ (bodyS t x) = ((t : Int), (putZ (t : Int)).length, 0) := by
  unfold bodyS headS
  rw [List.append_assoc]
  exact getZ_put _ _ (by omega) (by omega)
 have hd : (bodyS t x).drop (putZ (t : Int)).length = putT x ++ List.replicate (60 - (headS t x).length) 0 := by
  have e : bodyS t x = putZ (t : Int) ++ (putT x ++ List.replicate (60 - (headS t x).length) 0) := by
   conv => lhs; unfold bodyS; arg 1; unfold headS
   rw [List.append_assoc]
  rw [e]; exact List.drop_left
 have hg : getT ((bodyS t x).drop (putZ (t : Int)).length) = (x, (putT x).length, 0) := by rw [hd]; exact getT_put x _ hx
 unfold decF
 rw [if_pos (by rw [encF_drop q t x h]; unfold sumOf; rw [encF_take q t x h]), encF_take q t x h]
 unfold readF
 rw [hz]
 simp only
 rw [hg]
 simp only
 rw [if_neg (by omega), if_neg (by omega)]
theorem blank_take : blank.take 60 = List.replicate 60 0 := by unfold blank; rw [List.take_replicate]; rfl
theorem readF_blank : readF (blank.take 60) = some (0, []) := by
 have e0 : (putZ 0) = [0] := by unfold putZ; rw [show zig 0 = 0 from rfl, vin_small 0 (by decide)]; rfl
 have h : getZ (blank.take 60) = (0, 1, 0) := by
  have e : blank.take 60 = putZ 0 ++ List.replicate 59 0 := by rw [blank_take, e0]; rfl
  rw [e, getZ_put 0 _ (by omega) (by omega), e0]; rfl
 have h2 : getT ((blank.take 60).drop 1) = ([], 1, 0) := by
  have e : (blank.take 60).drop 1 = putT [] ++ List.replicate 58 0 := by
   rw [blank_take, List.drop_replicate]; unfold putT; simp only [List.length_nil, Int.ofNat_zero, List.append_nil]
   rw [e0]; rfl
  rw [e, getT_put [] _ (by decide)]
  unfold putT; simp only [List.length_nil, List.append_nil, Int.ofNat_zero]; rw [e0]; rfl
 unfold readF; rw [h]; simp only; rw [h2]; simp
theorem decF_blank (q : UInt8) : decF q blank = none ∨ decF q blank = some (0, []) := by
 unfold decF; split
 ·exact .inr readF_blank
 ·exact .inl rfl
theorem encS_len (t : Nat) (x : List UInt8) (hx : x.length ≤ 40) (ht : t ≤ 1099511627776) : (encS t x).length = 64 := encF_len _ t x (headS_len t x (by omega) (by omega))
theorem decS_enc (t : Nat) (x : List UInt8) (hx : x.length ≤ 40) (h1 : 1 ≤ t) (ht : t ≤ 1099511627776) : decS (encS t x) = some (t, x) := by
 unfold decS encS
 rw [decF_enc _ t x (headS_len t x (by omega) (by omega)) (by omega) (by omega)]
 unfold takeS
 simp only
 rw [if_neg (by omega), Int.toNat_natCast]
theorem decS_blank : decS blank = none := by
 unfold decS
 rcases decF_blank 83 with h | h <;> rw [h]
 ·rfl
 ·unfold takeS; simp
end Go.Proofs.YticophaepapjoaaGreatDoor
namespace Go.Proofs.YticophaepapjoaaGreatDoor
open Go Go.RowKit
theorem equal_any (A B : Option Addr) (c d n m : Nat) (F G : Nat → Prop) (l r : List UInt8) (w : World) (h1 : Row w A F (bcells l)) (h2 : Row w B G (bcells r)) (hn : n = l.length) (hm : m = r.length) (x : Bool) (hx : ((txt l).toList == (txt r).toList) = x) :
  Calls Tryz.prog 198 #[.slice A n c, .slice B m d] w fun e w' => e = .returned (.bool x) ∧ w = w' := by
 have c1 := h1.to_string (P := Tryz.prog) Tryz.underlying64 Tryz.underlying5 Tryz.underlying9 n c hn
 have c2 := h2.to_string (P := Tryz.prog) Tryz.underlying64 Tryz.underlying5 Tryz.underlying9 m d hm
 clear h1 h2 hn hm
 go_enter Tryz.func198, Tryz.ntmps198
 go_wp2
 go_ret
 exact ⟨rfl, rfl⟩
def Taken (w : World) : Prop := ∀ i, i < 16 → w.cell? ⟨0, i, none⟩ = some (.int .u32 ((tbits 4 i : Nat) : Int))
theorem Taken.keep {w w' : World} (h : Taken w) (hk : Keeps (fun _ => True) w w') : Taken w' := fun i hi => hk.cell (h i hi) trivial
theorem Taken.alloc {w : World} (h : Taken w) (o : Obj) : Taken (w.alloc o) := h.keep ((Keeps.refl _ w).alloc o)
theorem ret_u32 {a b : Int} (h : a = b) : Ending.returned (.int .u32 a) = .returned (.int .u32 b) := by rw [h]
def half (x : Nat) : Nat := x / 16 ^^^ tbits 4 (x % 16)
theorem half_tbits (x : Nat) : half x = tbits 4 x := by
 unfold half; rw [tbits_table 4 x, Nat.xor_comm]
theorem half_lt (x : Nat) (h : x < 4294967296) : half x < 4294967296 := by rw [half_tbits]; exact tbits_lt 4 x h
theorem half_half (x : Nat) : half (half x) = t8 x := by rw [half_tbits, half_tbits]; exact (tbits_add 4 4 x).symm
theorem half_z (x : Nat) (h : x < 4294967296) : bits .xor .u32 ((x : Int) / 16) ((tbits 4 (x % 16) : Nat) : Int) = ((half x : Nat) : Int) := by
 have e : (x : Int) / 16 = ((x / 16 : Nat) : Int) := rfl
 rw [e]
 exact u32_xor_nat _ _ (by omega) (tbits_lt 4 _ (by omega))
theorem in_z (c : Nat) (b : UInt8) (h : c < 4294967296) : bits .xor .u32 (c : Int) (b.toNat : Int) = ((c ^^^ b.toNat : Nat) : Int) := u32_xor_nat _ _ h (byte_lt32 b)
theorem crcF_next (c : Nat) (l : List UInt8) (k : Nat) (h : k < l.length) : crcF c (l.take (k + 1)) = half (half (crcF c (l.take k) ^^^ l[k].toNat)) := by
 rw [List.take_succ_eq_append_getElem h, crcF_snoc, half_half]
theorem add_part (c : Nat) (hc : c < 4294967296) (A : Option Addr) (cap : Nat) (F : Nat → Prop) (l : List UInt8) (w : World) (h : Row w A F (bcells l)) (hl : l.length ≤ maxLen) (hT : Taken w) :
  Calls Tryz.prog 175 #[.int .u32 (c : Int), .slice A l.length cap] w fun e w' => e = .returned (.int .u32 ((crcF c l : Nat) : Int)) ∧ w = w' := by
 unfold maxLen at hl
 have HT := Hd hT
 have HC := Hd hc
 clear hT hc
 go_enter Tryz.func175, Tryz.ntmps175
 go_wp2
 go_loop [0, 9] (fun t i => ∃ k : Nat, k ≤ l.length ∧ i = .int .i64 k ∧ t = .int .u32 ((crcF c (l.take k) : Nat) : Int)) (fun _ i => l.length - (intOf i).toNat)
 case atStart => exact ⟨0, Nat.zero_le _, rfl, rfl⟩
 case round =>
  obtain ⟨k, hk, rfl, rfl⟩ := hrel
  by_cases hlt : k < l.length
  ·obtain ⟨b, o, rfl, _, hcell⟩ := h.at_ (k := k) (by simpa [bcells] using hlt)
   simp only [bcells, List.getElem_map, bcell] at hcell
   have H := Hd (crcF_next c l k hlt)
   have hx := crcF_lt (l.take k) c HC.out
   have hb := byte_lt32 l[k]
   generalize crcF c (l.take k) = x at H hx
   have e1 := in_z x l[k] hx
   have hy : x ^^^ l[k].toNat < 4294967296 := xor_lt32 hx hb
   generalize x ^^^ l[k].toNat = y at H e1 hy
   have e2 := half_z y hy
   have hz := half_lt y hy
   have c1 := HT.out (y % 16) (Nat.mod_lt _ (by decide))
   generalize half y = z at H e2 hz
   have e3 := half_z z hz
   have c2 := HT.out (z % 16) (Nat.mod_lt _ (by decide))
   clear h
   go_wp2
   go_round
   case rel => exact ⟨k + 1, by omega, by go_num, by rw [H.out]⟩
   case measure => simp [intOf]; omega
  ·obtain rfl : k = l.length := by omega
   rw [List.take_length]
   go_wp2
   go_ret
   exact ⟨rfl, rfl⟩
def joined (ps : List Part) : List UInt8 := ps.flatMap (·.l)
theorem joined_next (c : Nat) (ps : List Part) (k : Nat) (h : k < ps.length) : crcF c (joined (ps.take (k + 1))) = crcF (crcF c (joined (ps.take k))) ps[k].l := by
 unfold joined
 rw [List.take_succ_eq_append_getElem h, List.flatMap_append, crcF_append]; simp
theorem u32_compl (x : Nat) (h : x < 4294967296) : bits .xor .u32 4294967295 (x : Int) = ((4294967295 - x : Nat) : Int) := by
 have e := u32_xor_nat 4294967295 x (by decide) h
 rw [not_xor x h, Nat.xor_comm, ← e]; rfl
theorem sum_any (B : Option Addr) (d : Nat) (F G : Nat → Prop) (ps : List Part) (w : World) (hB : Row w B G (ps.map Part.val)) (hp : Parts w F ps) (hn : ps.length ≤ maxLen) (hT : Taken w) :
  Calls Tryz.prog 142 #[.slice B ps.length d] w fun e w' => e = .returned (.int .u32 ((crcN (joined ps) : Nat) : Int)) ∧ w = w' := by
 unfold maxLen at hn
 have HT := Hd hT
 have HP := Hd hp
 clear hT hp
 go_enter Tryz.func142, Tryz.ntmps142
 go_wp2
 go_loop [3, 8] (fun t i => ∃ k : Nat, k ≤ ps.length ∧ i = .int .i64 k ∧ t = .int .u32 ((crcF 4294967295 (joined (ps.take k)) : Nat) : Int)) (fun _ i => ps.length - (intOf i).toNat)
 case atStart => exact ⟨0, Nat.zero_le _, rfl, rfl⟩
 case round =>
  obtain ⟨k, hk, rfl, rfl⟩ := hrel
  have hx := crcF_lt (joined (ps.take k)) 4294967295 (by decide)
  by_cases hlt : k < ps.length
  ·obtain ⟨b, o, rfl, _, hcell⟩ := hB.at_ (k := k) (by simpa using hlt)
   simp only [List.getElem_map, Part.val] at hcell
   have H := Hd (joined_next 4294967295 ps k hlt)
   have hpart := HP.out ps[k] (List.getElem_mem hlt)
   generalize crcF 4294967295 (joined (ps.take k)) = x at H hx
   generalize ps[k] = p at H hpart hcell
   have h1 := Hd hpart.1
   have h2 := hpart.2
   clear hB hpart
   go_wp2_with (go_at_call 175; ((with_reducible refine (add_part x hx _ _ F p.l _ h1.out h2 HT.out).mono ?_); rintro e w' ⟨rfl, rfl⟩))
   go_round
   case rel => exact ⟨k + 1, by omega, by go_num, by rw [H.out]⟩
   case measure => simp [intOf]; omega
  ·obtain rfl : k = ps.length := by omega
   rw [List.take_length] at hx ⊢
   have e : bits .xor .u32 4294967295 ((crcF 4294967295 (joined ps) : Nat) : Int) = ((crcN (joined ps) : Nat) : Int) := u32_compl _ hx
   generalize crcF 4294967295 (joined ps) = x at e hx
   have H := Hd e
   clear e
   go_wp2
   go_ret
   exact ⟨ret_u32 H.out, rfl⟩
end Go.Proofs.YticophaepapjoaaGreatDoor
namespace Go.Proofs.YticophaepapjoaaGreatDoor
open Go Go.RowKit Go.Joins
section
variable {W W' : World} {base : Nat} {e : TypeId} {k : IntKind} {v : Value} {n c g : Nat} {F : Nat → Prop}
theorem own_cap {A : Option Addr} {xs : List Value} (h : W.ownsRow base e 1 (.slice A n c) n xs) : n ≤ c ∧ c ≤ maxLen ∧ (A = none → c = 0) := by
 rcases h.2 with ⟨h', h0⟩ | ⟨g', cap', cur, h', _, _, h1, h2, _⟩
 ·injection h' with a1 a2 a3
  subst a2 a3
  exact ⟨Nat.le_refl _, Nat.zero_le _, fun _ => rfl⟩
 ·injection h' with a1 a2 a3
  subst a1 a3
  exact ⟨h1, h2, fun h => by cases h⟩
end
def Mine (w : World) (k : IntKind) (A : Option Addr) (n : Nat) : Prop := 0 < n → ∃ (g o : Nat) (cur : Array Value) (t : TypeId) (fr : Nat × Nat), A = some ⟨g, o, none⟩ ∧ w.heap[g]? = some (.cells cur t fr) ∧ ∀ i, i < n → (∃ z : Int, cur[o + i]? = some (.int k z)) ∧ w.frozen? ⟨g, o + i, none⟩ = false
end Go.Proofs.YticophaepapjoaaGreatDoor
namespace Go.Proofs
open Go.Shelf
def Tryz.reverseA_ren : Go.Shelf.Ren := ⟨fun | 35 => 193 | n => n, fun | 22 => 135 | 23 => 179 | 3 => 3 | 4 => 4 | 0 => 0 | n => n, fun | n => n⟩
theorem Tryz.reverseA : Go.Proofs.SlLaysE0.n35 Tryz.prog Tryz.reverseA_ren := {
 mixed := by kernel_rfl
 f35 := ⟨Tryz.f193.name, by decide, Tryz.func193.trans (congrArg some (by kernel_rfl))⟩
 t0 := Tryz.underlying0
 a0 := Tryz.isAgg0
 z0 := Tryz.sizeOf0
 v0 := Tryz.zeroValue0
 t3 := Tryz.underlying3
 a3 := Tryz.isAgg3
 z3 := Tryz.sizeOf3
 v3 := Tryz.zeroValue3
 t4 := Tryz.underlying4
 a4 := Tryz.isAgg4
 z4 := Tryz.sizeOf4
 v4 := Tryz.zeroValue4
 t22 := Tryz.underlying135
 a22 := Tryz.isAgg135
 z22 := Tryz.sizeOf135
 v22 := Tryz.zeroValue135 }
def Tryz.cloneA_ren : Go.Shelf.Ren := ⟨fun | 316 => 174 | n => n, fun | 9 => 9 | 3 => 3 | 4 => 4 | 37 => 64 | 0 => 0 | 127 => 265 | 5 => 5 | n => n, fun | n => n⟩
theorem Tryz.cloneA : Go.Proofs.LaysM.n316 Tryz.prog Tryz.cloneA_ren := {
 mixed := by kernel_rfl
 f316 := Tryz.func174.trans (congrArg some (by kernel_rfl))
 t0 := Tryz.underlying0
 a0 := Tryz.isAgg0
 z0 := Tryz.sizeOf0
 v0 := Tryz.zeroValue0
 t3 := Tryz.underlying3
 a3 := Tryz.isAgg3
 z3 := Tryz.sizeOf3
 v3 := Tryz.zeroValue3
 t4 := Tryz.underlying4
 a4 := Tryz.isAgg4
 z4 := Tryz.sizeOf4
 v4 := Tryz.zeroValue4
 t9 := Tryz.underlying9
 a9 := Tryz.isAgg9
 z9 := Tryz.sizeOf9
 v9 := Tryz.zeroValue9
 t37 := Tryz.underlying64
 a37 := Tryz.isAgg64
 z37 := Tryz.sizeOf64
 v37 := Tryz.zeroValue64
 t127 := Tryz.underlying265
 a127 := Tryz.isAgg265
 z127 := Tryz.sizeOf265
 v127 := Tryz.zeroValue265
 t5 := Tryz.underlying5
 a5 := Tryz.isAgg5
 z5 := Tryz.sizeOf5
 v5 := Tryz.zeroValue5
 i0 := by kernel_rfl
 i3 := by kernel_rfl
 i4 := by kernel_rfl
 i5 := by kernel_rfl
 i9 := by kernel_rfl
 i37 := by kernel_rfl
 i127 := by kernel_rfl }
def Tryz.sortB_ren : Go.Shelf.Ren := ⟨fun | 190 => 91 | 125 => 124 | 258 => 123 | 128 => 163 | 129 => 164 | 302 => 154 | 303 => 155 | 304 => 156 | 305 => 157 | 306 => 158 | 307 => 159 | 308 => 160 | 309 => 161 | 310 => 162 | 333 => 186 | 329 => 187 | 330 => 188 | 334 => 189 | 335 => 190 | 336 => 191 | 344 => 199 | n => n, fun | 31 => 30 | 9 => 9 | 3 => 3 | 46 => 195 | 0 => 0 | 51 => 217 | 53 => 123 | 4 => 4 | 183 => 231 | 182 => 230 | 131 => 121 | 5 => 5 | 218 => 256 | 222 => 260 | 228 => 270 | 229 => 271 | n => n, fun | n => n⟩
theorem Tryz.sortB : Go.Proofs.Lays.n190 Tryz.prog Tryz.sortB_ren := {
 mixed := by kernel_rfl
 f125 := Tryz.func124.trans (congrArg some (by kernel_rfl))
 f128 := Tryz.func163.trans (congrArg some (by kernel_rfl))
 f129 := Tryz.func164.trans (congrArg some (by kernel_rfl))
 f190 := Tryz.func91.trans (congrArg some (by kernel_rfl))
 f258 := Tryz.func123.trans (congrArg some (by kernel_rfl))
 f302 := Tryz.func154.trans (congrArg some (by kernel_rfl))
 f303 := Tryz.func155.trans (congrArg some (by kernel_rfl))
 f304 := Tryz.func156.trans (congrArg some (by kernel_rfl))
 f305 := Tryz.func157.trans (congrArg some (by kernel_rfl))
 f306 := Tryz.func158.trans (congrArg some (by kernel_rfl))
 f307 := Tryz.func159.trans (congrArg some (by kernel_rfl))
 f308 := Tryz.func160.trans (congrArg some (by kernel_rfl))
 f309 := Tryz.func161.trans (congrArg some (by kernel_rfl))
 f310 := Tryz.func162.trans (congrArg some (by kernel_rfl))
 f329 := Tryz.func187.trans (congrArg some (by kernel_rfl))
 f330 := Tryz.func188.trans (congrArg some (by kernel_rfl))
 f333 := Tryz.func186.trans (congrArg some (by kernel_rfl))
 f334 := Tryz.func189.trans (congrArg some (by kernel_rfl))
 f335 := Tryz.func190.trans (congrArg some (by kernel_rfl))
 f336 := Tryz.func191.trans (congrArg some (by kernel_rfl))
 f344 := Tryz.func199.trans (congrArg some (by kernel_rfl))
 t0 := Tryz.underlying0
 a0 := Tryz.isAgg0
 z0 := Tryz.sizeOf0
 v0 := Tryz.zeroValue0
 t3 := Tryz.underlying3
 a3 := Tryz.isAgg3
 z3 := Tryz.sizeOf3
 v3 := Tryz.zeroValue3
 t4 := Tryz.underlying4
 a4 := Tryz.isAgg4
 z4 := Tryz.sizeOf4
 v4 := Tryz.zeroValue4
 t5 := Tryz.underlying5
 a5 := Tryz.isAgg5
 z5 := Tryz.sizeOf5
 v5 := Tryz.zeroValue5
 t9 := Tryz.underlying9
 a9 := Tryz.isAgg9
 z9 := Tryz.sizeOf9
 v9 := Tryz.zeroValue9
 t31 := Tryz.underlying30
 a31 := Tryz.isAgg30
 z31 := Tryz.sizeOf30
 v31 := Tryz.zeroValue30
 t46 := Tryz.underlying195
 a46 := Tryz.isAgg195
 z46 := Tryz.sizeOf195
 v46 := Tryz.zeroValue195
 t51 := Tryz.underlying217
 a51 := Tryz.isAgg217
 z51 := Tryz.sizeOf217
 v51 := Tryz.zeroValue217
 t53 := Tryz.underlying123
 a53 := Tryz.isAgg123
 z53 := Tryz.sizeOf123
 v53 := Tryz.zeroValue123
 t131 := Tryz.underlying121
 a131 := Tryz.isAgg121
 z131 := Tryz.sizeOf121
 v131 := Tryz.zeroValue121
 t182 := Tryz.underlying230
 a182 := Tryz.isAgg230
 z182 := Tryz.sizeOf230
 v182 := Tryz.zeroValue230
 t183 := Tryz.underlying231
 a183 := Tryz.isAgg231
 z183 := Tryz.sizeOf231
 v183 := Tryz.zeroValue231
 t218 := Tryz.underlying256
 a218 := Tryz.isAgg256
 z218 := Tryz.sizeOf256
 v218 := Tryz.zeroValue256
 t222 := Tryz.underlying260
 a222 := Tryz.isAgg260
 z222 := Tryz.sizeOf260
 v222 := Tryz.zeroValue260
 t228 := Tryz.underlying270
 a228 := Tryz.isAgg270
 z228 := Tryz.sizeOf270
 v228 := Tryz.zeroValue270
 t229 := Tryz.underlying271
 a229 := Tryz.isAgg271
 z229 := Tryz.sizeOf271
 v229 := Tryz.zeroValue271 }
def Tryz.deleteJ_ren : Go.Shelf.Ren := ⟨fun | 45 => 89 | n => n, fun | 22 => 106 | 23 => 2 | 3 => 3 | 4 => 4 | 0 => 0 | n => n, fun | n => n⟩
theorem Tryz.deleteJ : Go.Proofs.SlLaysN.n45 Tryz.prog Tryz.deleteJ_ren := {
 mixed := by kernel_rfl
 f45 := ⟨Tryz.f89.name, by decide, Tryz.func89.trans (congrArg some (by kernel_rfl))⟩
 t0 := Tryz.underlying0
 a0 := Tryz.isAgg0
 z0 := Tryz.sizeOf0
 v0 := Tryz.zeroValue0
 t3 := Tryz.underlying3
 a3 := Tryz.isAgg3
 z3 := Tryz.sizeOf3
 v3 := Tryz.zeroValue3
 t4 := Tryz.underlying4
 a4 := Tryz.isAgg4
 z4 := Tryz.sizeOf4
 v4 := Tryz.zeroValue4
 t22 := Tryz.underlying106
 a22 := Tryz.isAgg106
 z22 := Tryz.sizeOf106
 v22 := Tryz.zeroValue106
 t23 := Tryz.underlying2
 a23 := Tryz.isAgg2
 z23 := Tryz.sizeOf2
 v23 := Tryz.zeroValue2
 i23 := by kernel_rfl }
def Tryz.searchJ_ren : Go.Shelf.Ren := ⟨fun | 49 => 88 | 59 => 121 | 60 => 122 | 68 => 153 | n => n, fun | 22 => 106 | 23 => 2 | 3 => 3 | 4 => 4 | 51 => 195 | 0 => 0 | n => n, fun | n => n⟩
theorem Tryz.searchJ : Go.Proofs.SlLaysN.n49 Tryz.prog Tryz.searchJ_ren := {
 mixed := by kernel_rfl
 f49 := ⟨Tryz.f88.name, by decide, Tryz.func88.trans (congrArg some (by kernel_rfl))⟩
 f59 := ⟨Tryz.f121.name, by decide, Tryz.func121.trans (congrArg some (by kernel_rfl))⟩
 f60 := ⟨Tryz.f122.name, by decide, Tryz.func122.trans (congrArg some (by kernel_rfl))⟩
 f68 := ⟨Tryz.f153.name, by decide, Tryz.func153.trans (congrArg some (by kernel_rfl))⟩
 t0 := Tryz.underlying0
 a0 := Tryz.isAgg0
 z0 := Tryz.sizeOf0
 v0 := Tryz.zeroValue0
 t3 := Tryz.underlying3
 a3 := Tryz.isAgg3
 z3 := Tryz.sizeOf3
 v3 := Tryz.zeroValue3
 t4 := Tryz.underlying4
 a4 := Tryz.isAgg4
 z4 := Tryz.sizeOf4
 v4 := Tryz.zeroValue4
 t22 := Tryz.underlying106
 a22 := Tryz.isAgg106
 z22 := Tryz.sizeOf106
 v22 := Tryz.zeroValue106
 t23 := Tryz.underlying2
 a23 := Tryz.isAgg2
 z23 := Tryz.sizeOf2
 v23 := Tryz.zeroValue2
 t51 := Tryz.underlying195
 a51 := Tryz.isAgg195
 z51 := Tryz.sizeOf195
 v51 := Tryz.zeroValue195 }
end Go.Proofs
