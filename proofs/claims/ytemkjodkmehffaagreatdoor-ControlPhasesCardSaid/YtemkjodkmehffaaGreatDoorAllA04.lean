/-
  Math, Mix, Of, NumMath, CtLay, PtLay, Equal: texts of mine, joined.
-/
import Derived.Test.YtemkjodkmehffaaGreatDoorRows
import Derived.WalkKit
import Derived.Laws.Bits64
import Derived.Lib.Hide
import Derived.Shelf.SlicesE.DeleteFunc
import Derived.Ground.SlgfProg
import Derived.Test.YtemkjodkmehffaaGreatDoorProg
import Derived.Ground.SlsfProg
import Derived.Shelf.SlLaysF0
import Derived.Test.YtemkjodkmehffaaGreatDoorWords
namespace Go.Proofs.YtemkjodkmehffaaGreatDoor
def foN (k x : Nat) : Nat := x ^^^ x / 2 ^ k
def stN (x : Nat) : Nat :=
 foN 31 (foN 27 (foN 30 x * 13787848793156543929 % 18446744073709551616) * 10723151780598845931 % 18446744073709551616)
end Go.Proofs.YtemkjodkmehffaaGreatDoor
namespace Go.Proofs.YtemkjodkmehffaaGreatDoor
open Go.RowKit
theorem fo_shift (k n : Nat) (h : n < 18446744073709551616) : bits .xor .u64 (n : Int) ((n : Int) / ((2 ^ k : Nat) : Int)) = ((foN k n : Nat) : Int) :=
 xorShift_u64 n (2 ^ k) h
theorem fo_step (k n C : Nat) (h : n < 18446744073709551616) :
  IntKind.u64.wrap (bits .xor .u64 (n : Int) ((n : Int) / ((2 ^ k : Nat) : Int)) * (C : Int)) = ((foN k n * C % 18446744073709551616 : Nat) : Int) :=
 mixStep_u64 n (2 ^ k) C h
theorem st_shift (x : Nat) (h : x < 18446744073709551616) (A B : Int)
  (hA : A = IntKind.u64.wrap (bits .xor .u64 (x : Int) ((x : Int) / 1073741824) * 13787848793156543929))
  (hB : B = IntKind.u64.wrap (bits .xor .u64 A (A / 134217728) * 10723151780598845931)) :
  bits .xor .u64 B (B / 2147483648) = ((stN x : Nat) : Int) := by
 have e1 : A = ((foN 30 x * 13787848793156543929 % 18446744073709551616 : Nat) : Int) := hA.trans (fo_step 30 x 13787848793156543929 h)
 have e2 : B = ((foN 27 (foN 30 x * 13787848793156543929 % 18446744073709551616) * 10723151780598845931 % 18446744073709551616 : Nat) : Int) := by
  rw [hB, e1]; exact fo_step 27 _ 10723151780598845931 (Nat.mod_lt _ (by decide))
 rw [e2]
 exact fo_shift 31 _ (Nat.mod_lt _ (by decide))
theorem ret_u64 {a b : Int} (h : a = b) : Ending.returned (.int .u64 a) = .returned (.int .u64 b) := by rw [h]
theorem stir_nat (x : Nat) (hx : x < 18446744073709551616) (w : World) :
  Calls Tryz.prog 107 #[.int .u64 (x : Int)] w fun e w' => e = .returned (.int .u64 ((stN x : Nat) : Int)) ∧ w = w' := by
 go_enter Tryz.func107, Tryz.ntmps107
 go_wp2
 go_ret
 exact ⟨ret_u64 (st_shift x hx _ _ rfl rfl), rfl⟩
def stZ (x : Int) : Int := ((stN x.toNat : Nat) : Int)
theorem stir_any (x : Int) (hx : 0 ≤ x) (lx : x < 18446744073709551616) (w : World) :
  Calls Tryz.prog 107 #[.int .u64 x] w fun e w' => e = .returned (.int .u64 (stZ x)) ∧ w = w' := by
 have h := stir_nat x.toNat (by omega) w
 rw [Int.toNat_of_nonneg hx] at h
 exact h
theorem wrap_nonneg (a : Int) : 0 ≤ IntKind.u64.wrap a := by rw [IntKind.wrap_u64]; omega
theorem wrap_lt (a : Int) : IntKind.u64.wrap a < 18446744073709551616 := by rw [IntKind.wrap_u64]; omega
theorem point_any (n i : Int) (w : World) :
  Calls Tryz.prog 80 #[.int .i64 n, .int .i64 i] w fun e w' => e = .returned (.int .u64 (stZ (IntKind.u64.wrap (wrap64 (wrap64 (n * 1000003) + i))))) ∧ w = w' := by
 go_enter Tryz.func80, Tryz.ntmps80
 go_wp2_with (go_at_call 107; refine (stir_any _ (wrap_nonneg _) (wrap_lt _) _).mono ?_; rintro e w' ⟨rfl, rfl⟩)
 go_ret
 exact ⟨rfl, rfl⟩
end Go.Proofs.YtemkjodkmehffaaGreatDoor
namespace Go.Proofs.YtemkjodkmehffaaGreatDoor
def zig (n : Int) : Nat := if n < 0 then (-2 * n - 1).toNat else (2 * n).toNat
def zag (u : Nat) : Int := if u % 2 = 1 then -((u / 2 : Nat) : Int) - 1 else ((u / 2 : Nat) : Int)
theorem zag_zig (n : Int) : zag (zig n) = n := by
 unfold zag zig; split <;> split <;> omega
theorem zig_lt (n : Int) (h1 : -9223372036854775808 ≤ n) (h2 : n < 9223372036854775808) : zig n < 18446744073709551616 := by
 unfold zig; split <;> omega
theorem zag_bd (u : Nat) (h : u < 18446744073709551616) : -9223372036854775808 ≤ zag u ∧ zag u < 9223372036854775808 := by
 unfold zag; split <;> omega
def vin (n : Nat) : List UInt8 :=
 if n < 128 then [UInt8.ofNat n] else UInt8.ofNat (n % 128 + 128) :: vin (n / 128)
 termination_by n
 decreasing_by omega
theorem vin_small (n : Nat) (h : n < 128) : vin n = [UInt8.ofNat n] := by rw [vin, if_pos h]
theorem vin_big (n : Nat) (h : ¬ n < 128) : vin n = UInt8.ofNat (n % 128 + 128) :: vin (n / 128) := by rw [vin, if_neg h]
theorem vin_pos (n : Nat) : 0 < (vin n).length := by rw [vin]; split <;> simp
theorem vin_len (k n : Nat) (h : n < 128 ^ (k + 1)) : (vin n).length ≤ k + 1 := by
 induction k generalizing n with
 | zero => rw [vin_small n (by simpa using h)]; simp
 | succ k ih =>
  by_cases hs : n < 128
  ·rw [vin_small n hs]; simp
  ·rw [vin_big n hs, List.length_cons]
   have := ih (n / 128) (by rw [Nat.div_lt_iff_lt_mul (by decide)]; rw [Nat.pow_succ] at h; exact h)
   omega
theorem vin_len10 (n : Nat) (h : n < 18446744073709551616) : (vin n).length ≤ 10 := vin_len 9 n (Nat.lt_trans h (by decide))
inductive Got where
 | ok (u k : Nat)
 | form
 | more
 deriving DecidableEq
def vget : Nat → Nat → List UInt8 → Got
 | _, _, [] => .more
 | i, u, c :: l =>
  if i = 9 ∧ 1 < c.toNat then .form
  else if 128 ≤ c.toNat then vget (i + 1) (u + c.toNat % 128 * 128 ^ i) l
  else if c.toNat = 0 ∧ 0 < i then .form
  else .ok (u + c.toNat % 128 * 128 ^ i) (i + 1)
theorem vget_ok (i u : Nat) (l : List UInt8) (v k : Nat) (h : vget i u l = .ok v k) : i < k ∧ k ≤ i + l.length := by
 induction l generalizing i u with
 | nil => simp [vget] at h
 | cons c l ih =>
  rw [vget] at h
  split at h
  ·cases h
  ·split at h
   ·have := ih _ _ h; simp; omega
   ·split at h
    ·cases h
    ·injection h with h1 h2; simp; omega
theorem vget_bd (i u : Nat) (l : List UInt8) (v k : Nat) (hi : i ≤ 9) (hu : u < 128 ^ i) (h : vget i u l = .ok v k) : v < 18446744073709551616 ∧ k ≤ 10 := by
 induction l generalizing i u with
 | nil => simp [vget] at h
 | cons c l ih =>
  have hc := c.toNat_lt
  rw [vget] at h
  have hp : u + c.toNat % 128 * 128 ^ i < 128 ^ (i + 1) := by
   have h1 : c.toNat % 128 ≤ 127 := by omega
   have h2 := Nat.mul_le_mul_right (128 ^ i) h1
   rw [Nat.pow_succ]; omega
  by_cases h9 : i = 9
  ·subst h9
   split at h
   ·cases h
   ·split at h
    ·omega
    ·split at h
     ·cases h
     ·injection h with h1 h2
      simp at hu hp h1 ⊢
      omega
  ·have hlt : u + c.toNat % 128 * 128 ^ i < 18446744073709551616 :=
    Nat.lt_of_lt_of_le hp (Nat.le_trans (Nat.pow_le_pow_right (by decide) (show i + 1 ≤ 9 by omega)) (by decide))
   split at h
   ·cases h
   ·split at h
    ·exact ih _ _ (by omega) hp h
    ·split at h
     ·cases h
     ·injection h with h1 h2
      omega
theorem vget_vin_at (n : Nat) : ∀ (i u : Nat) (r : List UInt8), (n * 128 ^ i < 18446744073709551616) → (0 < i → 0 < n) → vget i u (vin n ++ r) = .ok (u + n * 128 ^ i) (i + (vin n).length) := by
 induction n using Nat.strongRecOn with
 | _ n ih =>
  intro i u r hb hn
  have h9 : i ≤ 9 ∨ n = 0 := by
   rcases Nat.lt_or_ge 9 i with h | h
   ·right
    have h1 : 128 ^ 10 ≤ 128 ^ i := Nat.pow_le_pow_right (by decide) h
    have h2 : (128 : Nat) ^ 10 = 1180591620717411303424 := by decide
    rcases Nat.eq_zero_or_pos n with h0 | h0
    ·exact h0
    ·have := Nat.mul_le_mul h0 h1; omega
   ·exact .inl h
  have hi9 : i = 9 → n ≤ 1 := by
   rintro rfl
   have h2 : (128 : Nat) ^ 9 = 9223372036854775808 := by decide
   rw [h2] at hb; omega
  by_cases hs : n < 128
  ·have hc : (UInt8.ofNat n).toNat = n := by rw [UInt8.toNat_ofNat']; omega
   rw [vin_small n hs]
   simp only [List.cons_append, List.nil_append, vget, hc, List.length_singleton]
   rw [if_neg (by omega), if_neg (by omega), if_neg (by omega), Nat.mod_eq_of_lt hs]
  ·have hc : (UInt8.ofNat (n % 128 + 128)).toNat = n % 128 + 128 := by rw [UInt8.toNat_ofNat']; omega
   have hq : n / 128 * 128 ^ (i + 1) ≤ n * 128 ^ i := by
    rw [Nat.pow_succ, Nat.mul_comm (128 ^ i) 128, ← Nat.mul_assoc]
    exact Nat.mul_le_mul_right _ (Nat.div_mul_le_self n 128)
   rw [vin_big n hs]
   simp only [List.cons_append, vget, hc, List.length_cons]
   rw [if_neg (by omega), if_pos (by omega), ih (n / 128) (by omega) (i + 1) _ r (by omega) (by omega)]
   have e : (n % 128 + 128) % 128 = n % 128 := by omega
   have e2 : n % 128 * 128 ^ i + n / 128 * 128 ^ (i + 1) = n * 128 ^ i := by
    rw [Nat.pow_succ, Nat.mul_comm (128 ^ i) 128, ← Nat.mul_assoc, ← Nat.add_mul]
    congr 1; omega
   rw [e, Nat.add_assoc, e2, Nat.add_assoc, Nat.add_comm 1]
theorem vget_vin (n : Nat) (r : List UInt8) (h : n < 18446744073709551616) : vget 0 0 (vin n ++ r) = .ok n (vin n).length := by
 have := vget_vin_at n 0 0 r (by simpa using h) (fun h => absurd h (by decide))
 simpa using this
def putZ (n : Int) : List UInt8 := vin (zig n)
def putT (s : List UInt8) : List UInt8 := putZ s.length ++ s
theorem putZ_len (n : Int) (h1 : -9223372036854775808 ≤ n) (h2 : n < 9223372036854775808) : (putZ n).length ≤ 10 := vin_len10 _ (zig_lt n h1 h2)
def getZ (l : List UInt8) : Int × Nat × Nat :=
 match vget 0 0 l with
 | .ok u k => (zag u, k, 0)
 | .form => (0, 0, 1)
 | .more => (0, 0, 2)
theorem getZ_put (n : Int) (r : List UInt8) (h1 : -9223372036854775808 ≤ n) (h2 : n < 9223372036854775808) : getZ (putZ n ++ r) = (n, (putZ n).length, 0) := by
 unfold getZ putZ; rw [vget_vin _ _ (zig_lt n h1 h2)]; simp only [zag_zig]
theorem getZ_cases (l : List UInt8) : (∃ n k, getZ l = (n, k, 0) ∧ 0 < k ∧ k ≤ 10 ∧ k ≤ l.length ∧ -9223372036854775808 ≤ n ∧ n < 9223372036854775808) ∨ getZ l = (0, 0, 1) ∨ getZ l = (0, 0, 2) := by
 unfold getZ
 split
 ·rename_i u k hv
  have h1 := vget_ok 0 0 l u k hv
  have h2 := vget_bd 0 0 l u k (by decide) (by decide) hv
  have h3 := zag_bd u h2.1
  exact .inl ⟨_, _, rfl, by omega, by omega, by omega, h3.1, h3.2⟩
 ·exact .inr (.inl rfl)
 ·exact .inr (.inr rfl)
def getT (l : List UInt8) : List UInt8 × Nat × Nat :=
 match getZ l with
 | (n, k, 0) => if n < 0 ∨ 65536 < n then ([], 0, 1) else if (l.length : Int) < k + n then ([], 0, 2) else ((l.drop k).take n.toNat, k + n.toNat, 0)
 | (_, _, e + 1) => ([], 0, e + 1)
theorem getT_put (s r : List UInt8) (h : s.length ≤ 65536) : getT (putT s ++ r) = (s, (putT s).length, 0) := by
 unfold getT putT
 rw [List.append_assoc, getZ_put _ _ (by omega) (by omega)]
 simp only
 rw [if_neg (by omega), if_neg (by simp; omega)]
 simp
end Go.Proofs.YtemkjodkmehffaaGreatDoor
namespace Go.Proofs
open Go.Shelf
def Tryz.delF_ren : Go.Shelf.Ren := ⟨fun | 10 => 74 | 6 => 93 | n => n, fun | 22 => 48 | 23 => 3 | 25 => 119 | 3 => 3 | 4 => 4 | 0 => 0 | n => n, fun | n => n⟩
theorem Tryz.delF : Go.Proofs.SlLaysH.n10 Tryz.prog Tryz.delF_ren := {
 mixed := by kernel_rfl
 f6 := ⟨Tryz.f93.name, by decide, Tryz.func93.trans (congrArg some (by kernel_rfl))⟩
 f10 := ⟨Tryz.f74.name, by decide, Tryz.func74.trans (congrArg some (by kernel_rfl))⟩
 t0 := Tryz.underlying0
 a0 := Tryz.isAgg0
 z0 := Tryz.sizeOf0
 v0 := Tryz.zeroValue0
 t3 := Tryz.underlying3
 a3 := Tryz.isAgg3
 z3 := Tryz.sizeOf3
 v3 := Tryz.zeroValue3
 t4 := Tryz.underlying4
 a4 := Tryz.isAgg4
 z4 := Tryz.sizeOf4
 v4 := Tryz.zeroValue4
 t22 := Tryz.underlying48
 a22 := Tryz.isAgg48
 z22 := Tryz.sizeOf48
 v22 := Tryz.zeroValue48
 a23 := Tryz.isAgg3
 z23 := Tryz.sizeOf3
 t25 := Tryz.underlying119
 a25 := Tryz.isAgg119
 z25 := Tryz.sizeOf119
 v25 := Tryz.zeroValue119 }
def Tryz.sortPt_ren : Go.Shelf.Ren := ⟨fun | 6 => 81 | 15 => 77 | 14 => 108 | 28 => 103 | 29 => 104 | 20 => 125 | 21 => 126 | 22 => 127 | 23 => 128 | 24 => 129 | 25 => 130 | 26 => 131 | 27 => 132 | 46 => 138 | 47 => 119 | 48 => 120 | 49 => 139 | 50 => 140 | 57 => 142 | n => n, fun | 22 => 95 | 24 => 134 | 25 => 136 | 3 => 3 | 39 => 126 | 0 => 0 | 53 => 163 | 55 => 131 | 4 => 4 | 46 => 155 | 45 => 154 | 50 => 160 | 5 => 5 | 9 => 9 | 66 => 178 | 70 => 182 | 76 => 196 | 77 => 197 | n => n, fun | n => n⟩
theorem Tryz.sortPt : Go.Proofs.SlLaysF0.n6 Tryz.prog Tryz.sortPt_ren := {
 mixed := by kernel_rfl
 f6 := ⟨Tryz.f81.name, by decide, Tryz.func81.trans (congrArg some (by kernel_rfl))⟩
 f14 := ⟨Tryz.f108.name, by decide, Tryz.func108.trans (congrArg some (by kernel_rfl))⟩
 f15 := Tryz.func77.trans (congrArg some (by kernel_rfl))
 f20 := ⟨Tryz.f125.name, by decide, Tryz.func125.trans (congrArg some (by kernel_rfl))⟩
 f21 := ⟨Tryz.f126.name, by decide, Tryz.func126.trans (congrArg some (by kernel_rfl))⟩
 f22 := ⟨Tryz.f127.name, by decide, Tryz.func127.trans (congrArg some (by kernel_rfl))⟩
 f23 := ⟨Tryz.f128.name, by decide, Tryz.func128.trans (congrArg some (by kernel_rfl))⟩
 f24 := ⟨Tryz.f129.name, by decide, Tryz.func129.trans (congrArg some (by kernel_rfl))⟩
 f25 := ⟨Tryz.f130.name, by decide, Tryz.func130.trans (congrArg some (by kernel_rfl))⟩
 f26 := ⟨Tryz.f131.name, by decide, Tryz.func131.trans (congrArg some (by kernel_rfl))⟩
 f27 := ⟨Tryz.f132.name, by decide, Tryz.func132.trans (congrArg some (by kernel_rfl))⟩
 f28 := Tryz.func103.trans (congrArg some (by kernel_rfl))
 f29 := Tryz.func104.trans (congrArg some (by kernel_rfl))
 f46 := ⟨Tryz.f138.name, by decide, Tryz.func138.trans (congrArg some (by kernel_rfl))⟩
 f47 := Tryz.func119.trans (congrArg some (by kernel_rfl))
 f48 := Tryz.func120.trans (congrArg some (by kernel_rfl))
 f49 := ⟨Tryz.f139.name, by decide, Tryz.func139.trans (congrArg some (by kernel_rfl))⟩
 f50 := ⟨Tryz.f140.name, by decide, Tryz.func140.trans (congrArg some (by kernel_rfl))⟩
 f57 := ⟨Tryz.f142.name, by decide, Tryz.func142.trans (congrArg some (by kernel_rfl))⟩
 t0 := Tryz.underlying0
 a0 := Tryz.isAgg0
 z0 := Tryz.sizeOf0
 v0 := Tryz.zeroValue0
 t3 := Tryz.underlying3
 a3 := Tryz.isAgg3
 z3 := Tryz.sizeOf3
 v3 := Tryz.zeroValue3
 t4 := Tryz.underlying4
 a4 := Tryz.isAgg4
 z4 := Tryz.sizeOf4
 v4 := Tryz.zeroValue4
 t5 := Tryz.underlying5
 a5 := Tryz.isAgg5
 z5 := Tryz.sizeOf5
 v5 := Tryz.zeroValue5
 t9 := Tryz.underlying9
 a9 := Tryz.isAgg9
 z9 := Tryz.sizeOf9
 v9 := Tryz.zeroValue9
 t22 := Tryz.underlying95
 a22 := Tryz.isAgg95
 z22 := Tryz.sizeOf95
 v22 := Tryz.zeroValue95
 t25 := Tryz.underlying136
 a25 := Tryz.isAgg136
 z25 := Tryz.sizeOf136
 v25 := Tryz.zeroValue136
 t39 := Tryz.underlying126
 a39 := Tryz.isAgg126
 z39 := Tryz.sizeOf126
 v39 := Tryz.zeroValue126
 t45 := Tryz.underlying154
 a45 := Tryz.isAgg154
 z45 := Tryz.sizeOf154
 v45 := Tryz.zeroValue154
 t46 := Tryz.underlying155
 a46 := Tryz.isAgg155
 z46 := Tryz.sizeOf155
 v46 := Tryz.zeroValue155
 t50 := Tryz.underlying160
 a50 := Tryz.isAgg160
 z50 := Tryz.sizeOf160
 v50 := Tryz.zeroValue160
 t53 := Tryz.underlying163
 a53 := Tryz.isAgg163
 z53 := Tryz.sizeOf163
 v53 := Tryz.zeroValue163
 t55 := Tryz.underlying131
 a55 := Tryz.isAgg131
 z55 := Tryz.sizeOf131
 v55 := Tryz.zeroValue131
 t66 := Tryz.underlying178
 a66 := Tryz.isAgg178
 z66 := Tryz.sizeOf178
 v66 := Tryz.zeroValue178
 t70 := Tryz.underlying182
 a70 := Tryz.isAgg182
 z70 := Tryz.sizeOf182
 v70 := Tryz.zeroValue182
 t76 := Tryz.underlying196
 a76 := Tryz.isAgg196
 z76 := Tryz.sizeOf196
 v76 := Tryz.zeroValue196
 t77 := Tryz.underlying197
 a77 := Tryz.isAgg197
 z77 := Tryz.sizeOf197
 v77 := Tryz.zeroValue197 }
end Go.Proofs
namespace Go.Proofs.YtemkjodkmehffaaGreatDoor
open Go Go.RowKit
theorem equal_any (A B : Option Addr) (c d n m : Nat) (F G : Nat → Prop) (l r : List UInt8) (w : World) (h1 : Row w A F (bcells l)) (h2 : Row w B G (bcells r)) (hn : n = l.length) (hm : m = r.length) (x : Bool) (hx : ((txt l).toList == (txt r).toList) = x) :
  Calls Tryz.prog 135 #[.slice A n c, .slice B m d] w fun e w' => e = .returned (.bool x) ∧ w = w' := by
 have c1 := h1.to_string (P := Tryz.prog) Tryz.underlying71 Tryz.underlying5 Tryz.underlying9 n c hn
 have c2 := h2.to_string (P := Tryz.prog) Tryz.underlying71 Tryz.underlying5 Tryz.underlying9 m d hm
 clear h1 h2 hn hm
 go_enter Tryz.func135, Tryz.ntmps135
 go_wp2
 go_ret
 exact ⟨rfl, rfl⟩
end Go.Proofs.YtemkjodkmehffaaGreatDoor
