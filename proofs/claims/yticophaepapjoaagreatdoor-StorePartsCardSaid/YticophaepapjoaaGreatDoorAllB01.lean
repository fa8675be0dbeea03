/-
  DevMath, NumMath, ItemMath, Inv: texts of mine, joined.
-/
import Derived.Orders
import Derived.Below
namespace Go.Proofs.YticophaepapjoaaGreatDoor
structure SDev where
 now : List (List UInt8)
 fast : List (List UInt8)
 dirty : List Bool
 calls : Nat
def clampN (n : Int) : Nat := (max 1 (min n 2048)).toNat
theorem clampN_bd (n : Int) : 1 ≤ clampN n ∧ clampN n ≤ 2048 := by unfold clampN; omega
def blank : List UInt8 := List.replicate 64 0
def SDev.new (k : Nat) : SDev := ⟨List.replicate k blank, List.replicate k blank, List.replicate k false, 0⟩
def over (l old : List UInt8) : List UInt8 := l ++ old.drop l.length
def SDev.write (s : SDev) (i : Nat) (l : List UInt8) : SDev := ⟨s.now.set i (over l (s.now.getD i [])), s.fast, s.dirty.set i true, s.calls + 1⟩
def SDev.flush (s : SDev) : SDev := ⟨s.now, s.now, List.replicate s.now.length false, s.calls + 1⟩
def trues (l : List Bool) : List Nat := (List.range l.length).filter fun i => l.getD i false
def SDev.loose (s : SDev) : List Nat := trues s.dirty
def keptN (s : SDev) (keep : List Bool) (j : Nat) : List (List UInt8) :=
 (List.range j).foldl (fun acc t => if keep.getD t false then acc.set (s.loose.getD t 0) (s.now.getD (s.loose.getD t 0) []) else acc) s.fast
def SDev.crash (s : SDev) (keep : List Bool) : SDev :=
 let x := keptN s keep (min s.loose.length keep.length)
 ⟨x, x, List.replicate s.now.length false, 0⟩
structure SDev.Ok (s : SDev) : Prop where
 fast : s.fast.length = s.now.length
 dirty : s.dirty.length = s.now.length
 pos : 1 ≤ s.now.length
 small : s.now.length ≤ 2048
 nrow : ∀ r ∈ s.now, r.length = 64
 frow : ∀ r ∈ s.fast, r.length = 64
theorem over_len (l old : List UInt8) (h : l.length ≤ old.length) : (over l old).length = old.length := by unfold over; simp; omega
theorem getD_mem {α : Type} (l : List α) (i : Nat) (d : α) (h : i < l.length) : l.getD i d = l[i] := by rw [List.getD_eq_getElem?_getD, List.getElem?_eq_getElem h]; rfl
theorem trues_lt (l : List Bool) (i : Nat) (h : i ∈ trues l) : i < l.length := by unfold trues at h; simp at h; exact h.1
theorem trues_len (l : List Bool) : (trues l).length ≤ l.length := by
 unfold trues
 have := List.length_filter_le (fun i => l.getD i false) (List.range l.length)
 simpa using this
theorem keptN_zero (s : SDev) (keep : List Bool) : keptN s keep 0 = s.fast := rfl
theorem keptN_next (s : SDev) (keep : List Bool) (j : Nat) : keptN s keep (j + 1) = if keep.getD j false then (keptN s keep j).set (s.loose.getD j 0) (s.now.getD (s.loose.getD j 0) []) else keptN s keep j := by
 unfold keptN; rw [List.range_succ, List.foldl_append]; rfl
theorem keptN_len (s : SDev) (keep : List Bool) (j : Nat) : (keptN s keep j).length = s.fast.length := by
 induction j with
 | zero => rfl
 | succ j ih => rw [keptN_next]; split <;> simp [ih]
theorem loose_getD (s : SDev) (h : s.Ok) (j : Nat) (hj : j < s.loose.length) : s.loose.getD j 0 < s.now.length := by
 rw [getD_mem _ _ _ hj]
 have := trues_lt s.dirty _ (List.getElem_mem hj)
 rw [h.dirty] at this; exact this
theorem keptN_row (s : SDev) (keep : List Bool) (h : s.Ok) (j : Nat) (hj : j ≤ s.loose.length) : ∀ r ∈ keptN s keep j, r.length = 64 := by
 induction j with
 | zero => exact h.frow
 | succ j ih =>
  have ih' := ih (by omega)
  rw [keptN_next]
  split
  ·intro r hr
   rcases List.mem_or_eq_of_mem_set hr with hr | hr
   ·exact ih' r hr
   ·have hl := loose_getD s h j (by omega)
    rw [hr, getD_mem _ _ _ hl]; exact h.nrow _ (List.getElem_mem hl)
  ·exact ih'
theorem new_ok (k : Nat) (h1 : 1 ≤ k) (h2 : k ≤ 2048) : (SDev.new k).Ok := by
 refine ⟨by simp [SDev.new], by simp [SDev.new], by simpa [SDev.new] using h1, by simpa [SDev.new] using h2, ?_, ?_⟩ <;>
  (intro r hr; simp [SDev.new] at hr; rw [hr.2]; simp [blank])
theorem write_ok (s : SDev) (h : s.Ok) (i : Nat) (l : List UInt8) (hi : i < s.now.length) (hl : l.length ≤ 64) : (s.write i l).Ok := by
 refine ⟨by simp [SDev.write, h.fast], by simp [SDev.write, h.dirty], by simpa [SDev.write] using h.pos, by simpa [SDev.write] using h.small, fun r hr => ?_, h.frow⟩
 rcases List.mem_or_eq_of_mem_set hr with hr | hr
 ·exact h.nrow r hr
 ·have := h.nrow _ (List.getElem_mem hi)
  rw [hr, getD_mem _ _ _ hi, over_len _ _ (by omega), this]
theorem flush_ok (s : SDev) (h : s.Ok) : s.flush.Ok := ⟨rfl, by simp [SDev.flush], h.pos, h.small, h.nrow, h.nrow⟩
theorem crash_ok (s : SDev) (h : s.Ok) (keep : List Bool) : (s.crash keep).Ok := by
 have e : (keptN s keep (min s.loose.length keep.length)).length = s.now.length := by rw [keptN_len, h.fast]
 have hr := keptN_row s keep h (min s.loose.length keep.length) (Nat.min_le_left _ _)
 exact ⟨rfl, by simp [SDev.crash, e], by simpa [SDev.crash, e] using h.pos, by simpa [SDev.crash, e] using h.small, hr, hr⟩
def SDev.readL (s : SDev) (i : Int) : List UInt8 := if i < 0 ∨ (s.now.length : Int) ≤ i then [] else s.now.getD i.toNat []
def SDev.readE (s : SDev) (i : Int) : Int := if i < 0 ∨ (s.now.length : Int) ≤ i then 4 else 0
theorem trues_sorted (l : List Bool) : (trues l).Pairwise (· < ·) := List.Pairwise.filter _ List.pairwise_lt_range
theorem mem_trues (l : List Bool) (i : Nat) : i ∈ trues l ↔ l.getD i false = true := by
 unfold trues
 rw [List.mem_filter, List.mem_range]
 constructor
 ·exact fun h => h.2
 ·intro h
  refine ⟨Classical.byContradiction fun hn => ?_, h⟩
  rw [List.getD_eq_getElem?_getD, List.getElem?_eq_none (by omega)] at h
  cases h
end Go.Proofs.YticophaepapjoaaGreatDoor
namespace Go.Proofs.YticophaepapjoaaGreatDoor
def zig (n : Int) : Nat := if n < 0 then (-2 * n - 1).toNat else (2 * n).toNat
def zag (u : Nat) : Int := if u % 2 = 1 then -((u / 2 : Nat) : Int) - 1 else ((u / 2 : Nat) : Int)
theorem zag_zig (n : Int) : zag (zig n) = n := by
 unfold zag zig; split <;> split <;> omega
theorem zig_zag (u : Nat) : zig (zag u) = u := by
 unfold zag zig; split <;> split <;> omega
theorem zig_lt (n : Int) (h1 : -9223372036854775808 ≤ n) (h2 : n < 9223372036854775808) : zig n < 18446744073709551616 := by
 unfold zig; split <;> omega
theorem zag_bd (u : Nat) (h : u < 18446744073709551616) : -9223372036854775808 ≤ zag u ∧ zag u < 9223372036854775808 := by
 unfold zag; split <;> omega
def vin (n : Nat) : List UInt8 :=
 if n < 128 then [UInt8.ofNat n] else UInt8.ofNat (n % 128 + 128) :: vin (n / 128)
 termination_by n
 decreasing_by omega
theorem vin_small (n : Nat) (h : n < 128) : vin n = [UInt8.ofNat n] := by rw [vin, if_pos h]
theorem vin_big (n : Nat) (h : ¬ n < 128) : vin n = UInt8.ofNat (n % 128 + 128) :: vin (n / 128) := by rw [vin, if_neg h]
theorem vin_pos (n : Nat) : 0 < (vin n).length := by rw [vin]; split <;> simp
theorem vin_len (k n : Nat) (h : n < 128 ^ (k + 1)) : (vin n).length ≤ k + 1 := by
 induction k generalizing n with
 | zero => rw [vin_small n (by simpa using h)]; simp
 | succ k ih =>
  by_cases hs : n < 128
  ·rw [vin_small n hs]; simp
  ·rw [vin_big n hs, List.length_cons]
   have := ih (n / 128) (by rw [Nat.div_lt_iff_lt_mul (by decide)]; rw [Nat.pow_succ] at h; exact h)
   omega
theorem vin_len10 (n : Nat) (h : n < 18446744073709551616) : (vin n).length ≤ 10 := vin_len 9 n (Nat.lt_trans h (by decide))
inductive Got where
 | ok (u k : Nat)
 | form
 | more
 deriving DecidableEq
def vget : Nat → Nat → List UInt8 → Got
 | _, _, [] => .more
 | i, u, c :: l =>
  if i = 9 ∧ 1 < c.toNat then .form
  else if 128 ≤ c.toNat then vget (i + 1) (u + c.toNat % 128 * 128 ^ i) l
  else if c.toNat = 0 ∧ 0 < i then .form
  else .ok (u + c.toNat % 128 * 128 ^ i) (i + 1)
theorem vget_ok (i u : Nat) (l : List UInt8) (v k : Nat) (h : vget i u l = .ok v k) : i < k ∧ k ≤ i + l.length := by
 induction l generalizing i u with
 | nil => simp [vget] at h
 | cons c l ih =>
  rw [vget] at h
  split at h
  ·cases h
  ·split at h
   ·have := ih _ _ h; simp; omega
   ·split at h
    ·cases h
    ·injection h with h1 h2; simp; omega
theorem vget_bd (i u : Nat) (l : List UInt8) (v k : Nat) (hi : i ≤ 9) (hu : u < 128 ^ i) (h : vget i u l = .ok v k) : v < 18446744073709551616 ∧ k ≤ 10 := by
 induction l generalizing i u with
 | nil => simp [vget] at h
 | cons c l ih =>
  have hc := c.toNat_lt
  rw [vget] at h
  have hp : u + c.toNat % 128 * 128 ^ i < 128 ^ (i + 1) := by
   have h1 : c.toNat % 128 ≤ 127 := by omega
   have h2 := Nat.mul_le_mul_right (128 ^ i) h1
   rw [Nat.pow_succ]; omega
  by_cases h9 : i = 9
  ·subst h9
   split at h
   ·cases h
   ·split at h
    ·omega
    ·split at h
     ·cases h
     ·injection h with h1 h2
      simp at hu hp h1 ⊢
      omega
  ·have hlt : u + c.toNat % 128 * 128 ^ i < 18446744073709551616 :=
    Nat.lt_of_lt_of_le hp (Nat.le_trans (Nat.pow_le_pow_right (by decide) (show i + 1 ≤ 9 by omega)) (by decide))
   split at h
   ·cases h
   ·split at h
    ·exact ih _ _ (by omega) hp h
    ·split at h
     ·cases h
     ·injection h with h1 h2
      omega
theorem vget_vin_at (n : Nat) : ∀ (i u : Nat) (r : List UInt8), (n * 128 ^ i < 18446744073709551616) → (0 < i → 0 < n) → vget i u (vin n ++ r) = .ok (u + n * 128 ^ i) (i + (vin n).length) := by
 induction n using Nat.strongRecOn with
 | _ n ih =>
  intro i u r hb hn
  have h9 : i ≤ 9 ∨ n = 0 := by
   rcases Nat.lt_or_ge 9 i with h | h
   ·right
    have h1 : 128 ^ 10 ≤ 128 ^ i := Nat.pow_le_pow_right (by decide) h
    have h2 : (128 : Nat) ^ 10 = 1180591620717411303424 := by decide
    rcases Nat.eq_zero_or_pos n with h0 | h0
    ·exact h0
    ·have := Nat.mul_le_mul h0 h1; omega
   ·exact .inl h
  have hi9 : i = 9 → n ≤ 1 := by
   rintro rfl
   have h2 : (128 : Nat) ^ 9 = 9223372036854775808 := by decide
   rw [h2] at hb; omega
  by_cases hs : n < 128
  ·have hc : (UInt8.ofNat n).toNat = n := by rw [UInt8.toNat_ofNat']; omega
   rw [vin_small n hs]
   simp only [List.cons_append, List.nil_append, vget, hc, List.length_singleton]
   rw [if_neg (by omega), if_neg (by omega), if_neg (by omega), Nat.mod_eq_of_lt hs]
  ·have hc : (UInt8.ofNat (n % 128 + 128)).toNat = n % 128 + 128 := by rw [UInt8.toNat_ofNat']; omega
   have hq : n / 128 * 128 ^ (i + 1) ≤ n * 128 ^ i := by
    rw [Nat.pow_succ, Nat.mul_comm (128 ^ i) 128, ← Nat.mul_assoc]
    exact Nat.mul_le_mul_right _ (Nat.div_mul_le_self n 128)
   rw [vin_big n hs]
   simp only [List.cons_append, vget, hc, List.length_cons]
   rw [if_neg (by omega), if_pos (by omega), ih (n / 128) (by omega) (i + 1) _ r (by omega) (by omega)]
   have e : (n % 128 + 128) % 128 = n % 128 := by omega
   have e2 : n % 128 * 128 ^ i + n / 128 * 128 ^ (i + 1) = n * 128 ^ i := by
    rw [Nat.pow_succ, Nat.mul_comm (128 ^ i) 128, ← Nat.mul_assoc, ← Nat.add_mul]
    congr 1; omega
   rw [e, Nat.add_assoc, e2, Nat.add_assoc, Nat.add_comm 1]
theorem vget_vin (n : Nat) (r : List UInt8) (h : n < 18446744073709551616) : vget 0 0 (vin n ++ r) = .ok n (vin n).length := by
 have := vget_vin_at n 0 0 r (by simpa using h) (fun h => absurd h (by decide))
 simpa using this
theorem vin_vget (l : List UInt8) : ∀ (i u v k : Nat), vget i u l = .ok v k → ∃ n r, v = u + n * 128 ^ i ∧ l = vin n ++ r ∧ k = i + (vin n).length ∧ (0 < i → 0 < n) := by
 induction l with
 | nil => intro i u v k h; simp [vget] at h
 | cons c l ih =>
  intro i u v k h
  have hcl := c.toNat_lt
  rw [vget] at h
  split at h
  ·cases h
  ·split at h
   ·rename_i _ hc
    obtain ⟨n, r, h1, h2, h3, h4⟩ := ih _ _ _ _ h
    have hn : 0 < n := h4 (by omega)
    have hbig : ¬ (c.toNat % 128 + n * 128) < 128 := by omega
    refine ⟨c.toNat % 128 + n * 128, r, ?_, ?_, ?_, fun _ => by omega⟩
    ·rw [h1, Nat.pow_succ, Nat.add_mul]
     rw [Nat.mul_comm (128 ^ i) 128, ← Nat.mul_assoc]; omega
    ·have e1 : (c.toNat % 128 + n * 128) % 128 = c.toNat % 128 := by omega
     have e2 : (c.toNat % 128 + n * 128) / 128 = n := by omega
     have e3 : UInt8.ofNat (c.toNat % 128 + 128) = c := by
      rw [show c.toNat % 128 + 128 = c.toNat by omega]; exact UInt8.ofNat_toNat
     rw [vin_big _ hbig, e1, e2, e3, h2]; rfl
    ·have e2 : (c.toNat % 128 + n * 128) / 128 = n := by omega
     rw [h3, vin_big _ hbig, e2, List.length_cons]; omega
   ·split at h
    ·cases h
    ·injection h with h1 h2
     have hs : c.toNat < 128 := by omega
     have e3 : UInt8.ofNat c.toNat = c := UInt8.ofNat_toNat
     refine ⟨c.toNat, l, ?_, ?_, ?_, by omega⟩
     ·rw [← h1, Nat.mod_eq_of_lt hs]
     ·rw [vin_small _ hs, e3]; rfl
     ·rw [vin_small _ hs, ← h2]; rfl
def putZ (n : Int) : List UInt8 := vin (zig n)
def putT (s : List UInt8) : List UInt8 := putZ s.length ++ s
theorem putZ_len (n : Int) (h1 : -9223372036854775808 ≤ n) (h2 : n < 9223372036854775808) : (putZ n).length ≤ 10 := vin_len10 _ (zig_lt n h1 h2)
def getZ (l : List UInt8) : Int × Nat × Nat :=
 match vget 0 0 l with
 | .ok u k => (zag u, k, 0)
 | .form => (0, 0, 1)
 | .more => (0, 0, 2)
theorem getZ_put (n : Int) (r : List UInt8) (h1 : -9223372036854775808 ≤ n) (h2 : n < 9223372036854775808) : getZ (putZ n ++ r) = (n, (putZ n).length, 0) := by
 unfold getZ putZ; rw [vget_vin _ _ (zig_lt n h1 h2)]; simp only [zag_zig]
theorem getZ_ok (l : List UInt8) (n : Int) (k : Nat) (h : getZ l = (n, k, 0)) : ∃ r, l = putZ n ++ r ∧ k = (putZ n).length ∧ -9223372036854775808 ≤ n ∧ n < 9223372036854775808 := by
 unfold getZ at h
 split at h
 ·rename_i u j hv
  obtain ⟨m, r, h1, h2, h3, _⟩ := vin_vget l 0 0 u j hv
  have hb := vget_bd 0 0 l u j (by decide) (by decide) hv
  simp at h1 h3
  subst h1
  have e1 : zag u = n := by simpa using congrArg (·.1) h
  have e2 : j = k := by simpa using congrArg (·.2.1) h
  have hz := zag_bd u hb.1
  refine ⟨r, ?_, ?_, ?_, ?_⟩
  ·unfold putZ; rw [← e1, zig_zag]; exact h2
  ·unfold putZ; rw [← e1, zig_zag, ← e2]; exact h3
  ·omega
  ·omega
 ·simp at h
 ·simp at h
theorem getZ_cases (l : List UInt8) : (∃ n k, getZ l = (n, k, 0) ∧ 0 < k ∧ k ≤ 10 ∧ k ≤ l.length ∧ -9223372036854775808 ≤ n ∧ n < 9223372036854775808) ∨ getZ l = (0, 0, 1) ∨ getZ l = (0, 0, 2) := by
 unfold getZ
 split
 ·rename_i u k hv
  have h1 := vget_ok 0 0 l u k hv
  have h2 := vget_bd 0 0 l u k (by decide) (by decide) hv
  have h3 := zag_bd u h2.1
  exact .inl ⟨_, _, rfl, by omega, by omega, by omega, h3.1, h3.2⟩
 ·exact .inr (.inl rfl)
 ·exact .inr (.inr rfl)
def getT (l : List UInt8) : List UInt8 × Nat × Nat :=
 match getZ l with
 | (n, k, 0) => if n < 0 ∨ 65536 < n then ([], 0, 1) else if (l.length : Int) < k + n then ([], 0, 2) else ((l.drop k).take n.toNat, k + n.toNat, 0)
 | (_, _, e + 1) => ([], 0, e + 1)
theorem getT_put (s r : List UInt8) (h : s.length ≤ 65536) : getT (putT s ++ r) = (s, (putT s).length, 0) := by
 unfold getT putT
 rw [List.append_assoc, getZ_put _ _ (by omega) (by omega)]
 simp only
 rw [if_neg (by omega), if_neg (by simp; omega)]
 simp
end Go.Proofs.YticophaepapjoaaGreatDoor
namespace Go.Proofs.YticophaepapjoaaGreatDoor
structure It where
 key : ByteArray
 val : ByteArray
 till : Int
 gone : Bool
deriving DecidableEq
def It.may (x : It) : Bool :=
 decide (1 ≤ x.key.size) && decide (x.key.size ≤ 40) && decide (x.val.size ≤ 200) && decide (0 ≤ x.till) && decide (x.till ≤ 1099511627776) && (!x.gone || (decide (x.val.size = 0) && decide (x.till = 0)))
def It.live (x : It) (now : Int) : Bool := x.may && !x.gone && (decide (x.till = 0) || decide (now < x.till))
def It.flag (x : It) : Int := if x.gone then 1 else 0
def It.bytes (x : It) : List UInt8 := putT x.key.data.toList ++ (putT x.val.data.toList ++ (putZ x.till ++ putZ x.flag))
def bytesOf (l : List It) : List UInt8 := l.flatMap It.bytes
def encs (l : List It) : List UInt8 := if l.all It.may then bytesOf l else []
theorem It.may_is {x : It} (h : x.may = true) : 1 ≤ x.key.size ∧ x.key.size ≤ 40 ∧ x.val.size ≤ 200 ∧ 0 ≤ x.till ∧ x.till ≤ 1099511627776 := by
 simp only [It.may, Bool.and_eq_true, decide_eq_true_eq] at h
 omega
theorem putT_inj {a b r s : List UInt8} (ha : a.length ≤ 65536) (hb : b.length ≤ 65536) (h : putT a ++ r = putT b ++ s) : a = b ∧ r = s := by
 have h1 := getT_put a r ha
 rw [h, getT_put b s hb] at h1
 injection h1 with h1 _
 subst h1
 exact ⟨rfl, List.append_cancel_left h⟩
theorem putZ_inj {a b : Int} {r s : List UInt8} (ha1 : -9223372036854775808 ≤ a) (ha2 : a < 9223372036854775808) (hb1 : -9223372036854775808 ≤ b) (hb2 : b < 9223372036854775808) (h : putZ a ++ r = putZ b ++ s) : a = b ∧ r = s := by
 have h1 := getZ_put a r ha1 ha2
 rw [h, getZ_put b s hb1 hb2] at h1
 injection h1 with h1 _
 subst h1
 exact ⟨rfl, List.append_cancel_left h⟩
theorem It.flag_bd (x : It) : 0 ≤ x.flag ∧ x.flag ≤ 1 := by unfold It.flag; split <;> omega
theorem It.flag_inj {x y : It} (h : x.flag = y.flag) : x.gone = y.gone := by
 unfold It.flag at h
 cases hx : x.gone <;> cases hy : y.gone <;> simp [hx, hy] at h <;> rfl
theorem data_inj {a b : ByteArray} (h : a.data.toList = b.data.toList) : a = b := by
 cases a; cases b; simp only [Array.toList_inj] at h; rw [h]
theorem It.bytes_inj {x y : It} {r s : List UInt8} (hx : x.may = true) (hy : y.may = true) (h : x.bytes ++ r = y.bytes ++ s) : x = y ∧ r = s := by
 have mx := It.may_is hx
 have my := It.may_is hy
 have fx := x.flag_bd
 have fy := y.flag_bd
 have kx : x.key.data.toList.length = x.key.size := by simp
 have ky : y.key.data.toList.length = y.key.size := by simp
 have vx : x.val.data.toList.length = x.val.size := by simp
 have vy : y.val.data.toList.length = y.val.size := by simp
 unfold It.bytes at h
 simp only [List.append_assoc] at h
 obtain ⟨e1, h⟩ := putT_inj (by omega) (by omega) h
 obtain ⟨e2, h⟩ := putT_inj (by omega) (by omega) h
 obtain ⟨e3, h⟩ := putZ_inj (by omega) (by omega) (by omega) (by omega) h
 obtain ⟨e4, h⟩ := putZ_inj (by omega) (by omega) (by omega) (by omega) h
 refine ⟨?_, h⟩
 obtain ⟨k1, v1, t1, g1⟩ := x
 obtain ⟨k2, v2, t2, g2⟩ := y
 have a1 := data_inj e1
 have a2 := data_inj e2
 have a4 := It.flag_inj e4
 simp only at a1 a2 e3 a4
 subst a1 a2 e3 a4
 rfl
theorem It.bytes_pos (x : It) : 0 < x.bytes.length := by
 have := vin_pos (zig (x.key.data.toList.length : Int))
 unfold It.bytes putT putZ
 simp only [List.length_append]
 omega
theorem bytesOf_cons (x : It) (l : List It) : bytesOf (x :: l) = x.bytes ++ bytesOf l := by simp [bytesOf]
theorem bytesOf_snoc (l : List It) (x : It) : bytesOf (l ++ [x]) = bytesOf l ++ x.bytes := by simp [bytesOf]
theorem bytesOf_pos {l : List It} (h : l ≠ []) : 0 < (bytesOf l).length := by
 cases l with
 | nil => exact absurd rfl h
 | cons x l =>
  rw [bytesOf_cons, List.length_append]
  have := x.bytes_pos
  omega
theorem bytesOf_inj {l m : List It} (hl : l.all It.may = true) (hm : m.all It.may = true) (h : bytesOf l = bytesOf m) : l = m := by
 induction l generalizing m with
 | nil =>
  cases m with
  | nil => rfl
  | cons y m =>
   have := bytesOf_pos (l := y :: m) (by simp)
   rw [← h] at this
   simp [bytesOf] at this
 | cons x l ih =>
  cases m with
  | nil =>
   have := bytesOf_pos (l := x :: l) (by simp)
   rw [h] at this
   simp [bytesOf] at this
  | cons y m =>
   rw [List.all_cons, Bool.and_eq_true] at hl hm
   rw [bytesOf_cons, bytesOf_cons] at h
   obtain ⟨rfl, e⟩ := It.bytes_inj hl.1 hm.1 h
   rw [ih hl.2 hm.2 e]
theorem encs_may {l : List It} (h : l.all It.may = true) : encs l = bytesOf l := by unfold encs; rw [if_pos h]
theorem It.bytes_len {x : It} (h : x.may = true) : x.bytes.length ≤ 280 := by
 have m := It.may_is h
 have f := x.flag_bd
 have kx : x.key.data.toList.length = x.key.size := by simp
 have vx : x.val.data.toList.length = x.val.size := by simp
 have h1 := putZ_len (x.key.data.toList.length : Int) (by omega) (by omega)
 have h2 := putZ_len (x.val.data.toList.length : Int) (by omega) (by omega)
 have h3 := putZ_len x.till (by omega) (by omega)
 have h4 := putZ_len x.flag (by omega) (by omega)
 unfold It.bytes putT
 simp only [List.length_append]
 omega
theorem bytesOf_len {l : List It} (h : l.all It.may = true) : (bytesOf l).length ≤ 280 * l.length := by
 induction l with
 | nil => simp [bytesOf]
 | cons x l ih =>
  rw [List.all_cons, Bool.and_eq_true] at h
  rw [bytesOf_cons, List.length_append, List.length_cons]
  have := x.bytes_len h.1
  have := ih h.2
  omega
theorem It.bytes_four (x : It) : 4 ≤ x.bytes.length := by
 have h1 := vin_pos (zig (x.key.data.toList.length : Int))
 have h2 := vin_pos (zig (x.val.data.toList.length : Int))
 have h3 := vin_pos (zig x.till)
 have h4 := vin_pos (zig x.flag)
 unfold It.bytes putT putZ
 simp only [List.length_append]
 omega
theorem bytesOf_four (l : List It) : 4 * l.length ≤ (bytesOf l).length := by
 induction l with
 | nil => simp
 | cons x l ih =>
  rw [bytesOf_cons, List.length_append, List.length_cons]
  have := x.bytes_four
  omega
end Go.Proofs.YticophaepapjoaaGreatDoor
namespace Go.Proofs.YticophaepapjoaaGreatDoor
open Go Go.RowKit
section
variable {P : Program} {ops : Array Oper} {Q : Exit → Act → World → Prop} {R : World → World → Prop} {V : Nat → World → Value → Prop} {a0 : Act} {w0 : World}
def dstOf (ops : Array Oper) (i : Nat) : Option Tmp := (ops[i]?).bind (·.dst)
def waits (ops : Array Oper) (i j : Nat) : Bool := ((ops[i]?).map fun o => o.after.any fun e => Region.binds .any e && e.on == j).getD false
theorem waits_iff (i j : Nat) : waits ops i j = true ↔ ∃ o, ops[i]? = some o ∧ ∃ e ∈ o.after, Region.binds .any e = true ∧ e.on = j := by
 unfold waits
 cases h : ops[i]? with
 | none => simp
 | some o =>
  simp only [Option.map_some, Option.getD_some, Option.some.injEq, exists_eq_left', Array.any_eq_true, Bool.and_eq_true, beq_iff_eq]
  constructor
  ·rintro ⟨k, hk, hb, he⟩; exact ⟨o.after[k], Array.getElem_mem hk, hb, he⟩
  ·rintro ⟨e, he, hb, hx⟩
   obtain ⟨k, hk, rfl⟩ := Array.mem_iff_getElem.1 he
   exact ⟨k, hk, hb, hx⟩
structure StandsAt (R : World → World → Prop) (V : Nat → World → Value → Prop) (ops : Array Oper) (a0 : Act) (w0 : World) (l : Array Bool) (a : Act) (w : World) : Prop where
 size : l.size = ops.size
 rel : R w0 w
 defers : a.defers = a0.defers
 tmps : a.tmps.size = a0.tmps.size
 old : ∀ t, (∀ i, l.getD i false = true → dstOf ops i ≠ some t) → a.tmps.getD t undef = a0.tmps.getD t undef
 val : ∀ i d, l.getD i false = true → dstOf ops i = some d → V i w (a.tmps.getD d undef)
 down : ∀ i j, l.getD i false = true → waits ops i j = true → l.getD j false = true
structure Leans (R : World → World → Prop) (V : Nat → World → Value → Prop) (ops : Array Oper) (a0 : Act) (w0 : World) (i : Nat) (a : Act) (w : World) : Prop where
 rel : R w0 w
 val : ∀ j d, waits ops i j = true → dstOf ops j = some d → V j w (a.eval (.tmp d))
 old : ∀ t, ((List.range ops.size).all fun k => dstOf ops k != some t || waits ops k i || k == i) = true → a.eval (.tmp t) = a0.eval (.tmp t)
section
variable {R : World → World → Prop} {V : Nat → World → Value → Prop} {ops : Array Oper} {a0 : Act} {w0 : World} {i : Nat} {a : Act} {w : World}
theorem Leans.v (h : Leans R V ops a0 w0 i a w) (j d : Nat) (h1 : waits ops i j = true := by kernel_rfl) (h2 : dstOf ops j = some d := by kernel_rfl) : V j w (a.eval (.tmp d)) := h.val j d h1 h2
theorem Leans.o (h : Leans R V ops a0 w0 i a w) (t : Nat) (h1 : ((List.range ops.size).all fun k => dstOf ops k != some t || waits ops k i || k == i) = true := by kernel_rfl) : a.eval (.tmp t) = a0.eval (.tmp t) := h.old t h1
end
theorem getD_true_set {l : Array Bool} {i j : Nat} (h : (l.setIfInBounds i true).getD j false = true) (hne : j ≠ i) : l.getD j false = true := by
 rw [getD_set_ne false (Ne.symm hne)] at h; exact h
theorem getD_false_of {l : Array Bool} {i : Nat} (h : l.getD i true = false) : l.getD i false = false ∧ i < l.size := by
 rcases Nat.lt_or_ge i l.size with hl | hl
 ·refine ⟨?_, hl⟩
  simp [Array.getD, hl] at h ⊢; exact h
 ·simp [Array.getD, Nat.not_lt.mpr hl] at h
theorem getD_put {a : Act} {d : Tmp} {v : Value} {t : Nat} (hd : d < a.tmps.size) : (a.put (some d) v).tmps.getD t undef = if t = d then v else a.tmps.getD t undef := by
 simp only [Act.put]
 by_cases h : t = d
 ·subst h; simp [hd]
 ·rw [if_neg h]; simp [Array.getElem?_setIfInBounds_ne (Ne.symm h)]
theorem StandsAt.leans {l : Array Bool} {a : Act} {w : World} {i : Nat} (h : StandsAt R V ops a0 w0 l a w) (hl : l.getD i true = false)
  (hw : ∀ j, waits ops i j = true → l.getD j false = true) : Leans R V ops a0 w0 i a w where
 rel := h.rel
 val j d hj hd := h.val j d (hw j hj) hd
 old t ht := h.old t fun k hk hd => by
  have hks : k < ops.size := by
   rcases Nat.lt_or_ge k ops.size with h' | h'
   ·exact h'
   ·simp [dstOf, Array.getElem?_eq_none h'] at hd
  have := List.all_eq_true.1 ht k (List.mem_range.2 hks)
  simp only [hd, bne_self_eq_false, Bool.false_or, Bool.or_eq_true, beq_iff_eq] at this
  have hf := (getD_false_of hl).1
  rcases this with h1 | h1
  ·rw [h.down k i hk h1] at hf; cases hf
  ·subst h1; rw [hk] at hf; cases hf
theorem StandsAt.step (hR : ∀ a b c, R a b → R b c → R a c) (hV : ∀ i w w' v, R w w' → V i w v → V i w' v)
  (hd : ∀ i j d, dstOf ops i = some d → dstOf ops j = some d → i = j) (hb : ∀ i d, dstOf ops i = some d → d < a0.tmps.size)
  {l : Array Bool} {a : Act} {w w' : World} {i : Nat} {v : Value} (h : StandsAt R V ops a0 w0 l a w) (hl : l.getD i true = false)
  (hw : ∀ j, waits ops i j = true → l.getD j false = true) (hr : R w w') (hv : V i w' v) :
  StandsAt R V ops a0 w0 (l.setIfInBounds i true) (a.put (dstOf ops i) v) w' := by
 have hi := (getD_false_of hl).2
 have hset : (l.setIfInBounds i true).getD i false = true := by simp [hi]
 refine ⟨by simp [h.size], hR _ _ _ h.rel hr, ?_, ?_, ?_, ?_, ?_⟩
 ·cases hx : dstOf ops i <;> simp [Act.put, h.defers]
 ·cases hx : dstOf ops i <;> simp [Act.put, h.tmps]
 ·intro t ht
  have old := h.old t fun k hk => ht k (getD_set_true hk)
  cases hx : dstOf ops i with
  | none => exact old
  | some d =>
   rw [getD_put (by rw [h.tmps]; exact hb i d hx), if_neg (fun e => ht i hset (by rw [hx, e]))]
   exact old
 ·intro k d hk hkd
  by_cases hki : k = i
  ·subst hki
   rw [hkd, getD_put (by rw [h.tmps]; exact hb k d hkd), if_pos rfl]
   exact hv
  ·have hval := hV k w w' _ hr (h.val k d (getD_true_set hk hki) hkd)
   cases hx : dstOf ops i with
   | none => exact hval
   | some d' =>
    rw [getD_put (by rw [h.tmps]; exact hb i d' hx), if_neg (fun e => hki (hd k i d hkd (by rw [hx, e])))]
    exact hval
 ·intro k j hk hkj
  by_cases hki : k = i
  ·subst hki; exact getD_set_true (hw j hkj)
  ·exact getD_set_true (h.down k j (getD_true_set hk hki) hkj)
def leftOver (n : Nat) (l : Array Bool) : List Nat := (List.range n).filter fun i => !l.getD i true
theorem leftOver_set (n : Nat) (l : Array Bool) (i : Nat) (hi : i < n) (hl : l.getD i true = false) : (leftOver n (l.setIfInBounds i true)).length < (leftOver n l).length := by
 have e : leftOver n (l.setIfInBounds i true) = (leftOver n l).filter fun j => j != i := by
  unfold leftOver
  rw [List.filter_filter]
  refine List.filter_congr fun j _ => ?_
  by_cases hji : j = i
  ·subst hji; simp [(getD_false_of hl).2]
  ·rw [getD_set_ne true (Ne.symm hji)]; simp [hji]
 rw [e]
 refine List.length_filter_lt_length_iff_exists.2 ⟨i, ?_, by simp⟩
 exact List.mem_filter.2 ⟨List.mem_range.2 hi, by rw [hl]; rfl⟩
theorem all_listed (hac : ∀ i j, waits ops i j = true → j < i) {l : Array Bool} (hs : l.size = ops.size) (hr : Region.ready .any ops l = []) : ∀ i, i < ops.size → l.getD i false = true := by
 intro i
 induction i using Nat.strongRecOn with
 | ind i ih =>
  intro hi
  by_cases hl : l.getD i true = false
  ·have hm : i ∈ Region.ready .any ops l := mem_ready.2 ⟨hl, ops[i], by simp [hi], fun e he hb =>
    have hw : waits ops i e.on = true := (waits_iff i e.on).2 ⟨ops[i], by simp [hi], e, he, hb, rfl⟩
    ih e.on (hac i e.on hw) (Nat.lt_trans (hac i e.on hw) hi)⟩
   rw [hr] at hm; cases hm
  ·have hl' : i < l.size := by omega
   simp [Array.getD, hl'] at hl ⊢; exact hl
def putAll : Act → List (Option Tmp) → List Value → Act
 | a, d :: ds, v :: vs => putAll (a.put d v) ds vs
 | a, _, _ => a
theorem act_ext {a b : Act} (h1 : a.defers = b.defers) (h2 : a.tmps.size = b.tmps.size) (h3 : ∀ t, a.tmps.getD t undef = b.tmps.getD t undef) : a = b := by
 cases a; cases b
 simp only [Act.mk.injEq] at *
 refine ⟨Array.ext h2 fun i hi hj => ?_, h1⟩
 have := h3 i
 simpa [Array.getD, hi, hj] using this
def slotOf (a : Act) : Option Tmp → Value
 | some d => a.tmps.getD d undef
 | none => undef
theorem putAll_of (a1 : Act) : ∀ (ds : List (Option Tmp)) (a : Act), a1.defers = a.defers → a1.tmps.size = a.tmps.size → (∀ d, some d ∈ ds → d < a.tmps.size) →
  (∀ t, some t ∉ ds → a1.tmps.getD t undef = a.tmps.getD t undef) → a1 = putAll a ds (ds.map (slotOf a1))
 | [], a, h1, h2, _, h4 => act_ext h1 h2 fun t => h4 t (by simp)
 | none :: ds, a, h1, h2, h3, h4 => putAll_of a1 ds a h1 h2 (fun d hd => h3 d (List.mem_cons_of_mem _ hd)) fun t ht => h4 t (by simp [ht])
 | some d :: ds, a, h1, h2, h3, h4 => by
  have hda := h3 d (by simp)
  refine putAll_of a1 ds (a.put (some d) (slotOf a1 (some d))) (by simpa [Act.put] using h1) (by simpa [Act.put] using h2) (fun x hx => by simpa [Act.put] using h3 x (List.mem_cons_of_mem _ hx)) fun t ht => ?_
  rw [getD_put hda]
  by_cases e : t = d
  ·subst e; rw [if_pos rfl]; rfl
  ·rw [if_neg e]; exact h4 t (by simp [e, ht])
def Each (p : Nat → Oper → Prop) : Nat → List Oper → Prop
 | _, [] => True
 | n, o :: l => p n o ∧ Each p (n + 1) l
theorem each_at {p : Nat → Oper → Prop} (l : List Oper) : ∀ (n : Nat), Each p n l → ∀ (i : Nat) (o : Oper), l[i]? = some o → p (n + i) o := by
 induction l with
 | nil => intro n h i o ho; simp at ho
 | cons o' l ih =>
  intro n h i o ho
  cases i with
  | zero =>
   have e : o' = o := by simpa using ho
   rw [← e]; exact h.1
  | succ i =>
   have h1 := ih (n + 1) h.2 i o (by simpa using ho)
   rw [show n + (i + 1) = n + 1 + i by omega]; exact h1
theorem each_of {p : Nat → Oper → Prop} {ops : Array Oper} (h : Each p 0 ops.toList) (i : Nat) (o : Oper) (ho : ops[i]? = some o) : p i o := by
 have := each_at ops.toList 0 h i o (by rw [Array.getElem?_toList]; exact ho)
 rwa [Nat.zero_add] at this
end
end Go.Proofs.YticophaepapjoaaGreatDoor
