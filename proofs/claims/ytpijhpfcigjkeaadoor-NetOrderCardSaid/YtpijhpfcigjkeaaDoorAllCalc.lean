/- Texts of one proof, behind one another: each says above its part what it proves and on which conditions. -/
import Derived.Test.YtpijhpfcigjkeaaDoorAllBase
/-
  THE PLAIN MATHEMATICS OF LAYER 2 (num): numbers as bytes on lists: 'vin' writes a natural number seven bits a byte, 'vget' reads one; 'zig', 'zag' fold integers into natural numbers and back. It imports nothing of the program.
-/
section
namespace Go.Proofs.YtpijhpfcigjkeaaDoor

/-- A number below 0 too as a natural one. -/
def zig (n : Int) : Nat := if n < 0 then (-2 * n - 1).toNat else (2 * n).toNat
def zag (u : Nat) : Int := if u % 2 = 1 then -((u / 2 : Nat) : Int) - 1 else ((u / 2 : Nat) : Int)
theorem zag_zig (n : Int) : zag (zig n) = n := by
  unfold zag zig; split <;> split <;> omega
theorem zig_zag (u : Nat) : zig (zag u) = u := by
  unfold zag zig; split <;> split <;> omega
theorem zig_lt (n : Int) (h1 : -9223372036854775808 ≤ n) (h2 : n < 9223372036854775808) : zig n < 18446744073709551616 := by
  unfold zig; split <;> omega
theorem zag_bd (u : Nat) (h : u < 18446744073709551616) : -9223372036854775808 ≤ zag u ∧ zag u < 9223372036854775808 := by
  unfold zag; split <;> omega

/-- Seven bits a byte, the lowest first. -/
def vin (n : Nat) : List UInt8 :=
  if n < 128 then [UInt8.ofNat n] else UInt8.ofNat (n % 128 + 128) :: vin (n / 128)
  termination_by n
  decreasing_by omega
theorem vin_small (n : Nat) (h : n < 128) : vin n = [UInt8.ofNat n] := by rw [vin, if_pos h]
theorem vin_big (n : Nat) (h : ¬ n < 128) : vin n = UInt8.ofNat (n % 128 + 128) :: vin (n / 128) := by rw [vin, if_neg h]
theorem vin_pos (n : Nat) : 0 < (vin n).length := by rw [vin]; split <;> simp
theorem vin_len (k n : Nat) (h : n < 128 ^ (k + 1)) : (vin n).length ≤ k + 1 := by
  induction k generalizing n with
  | zero => rw [vin_small n (by simpa using h)]; simp
  | succ k ih =>
    by_cases hs : n < 128
    · rw [vin_small n hs]; simp
    · rw [vin_big n hs, List.length_cons]
      have := ih (n / 128) (by rw [Nat.div_lt_iff_lt_mul (by decide)]; rw [Nat.pow_succ] at h; exact h)
      omega
theorem vin_len10 (n : Nat) (h : n < 18446744073709551616) : (vin n).length ≤ 10 := vin_len 9 n (Nat.lt_trans h (by decide))

/-- What a read answers. -/
inductive Got where
  | ok (u k : Nat)
  | form
  | more
  deriving DecidableEq
/-- The number at a list's beginning, i bytes and the number u being read already. -/
def vget : Nat → Nat → List UInt8 → Got
  | _, _, [] => .more
  | i, u, c :: l =>
    if i = 9 ∧ 1 < c.toNat then .form
    else if 128 ≤ c.toNat then vget (i + 1) (u + c.toNat % 128 * 128 ^ i) l
    else if c.toNat = 0 ∧ 0 < i then .form
    else .ok (u + c.toNat % 128 * 128 ^ i) (i + 1)

theorem vget_ok (i u : Nat) (l : List UInt8) (v k : Nat) (h : vget i u l = .ok v k) : i < k ∧ k ≤ i + l.length := by
  induction l generalizing i u with
  | nil => simp [vget] at h
  | cons c l ih =>
    rw [vget] at h
    split at h
    · cases h
    · split at h
      · have := ih _ _ h; simp; omega
      · split at h
        · cases h
        · injection h with h1 h2; simp; omega
theorem vget_bd (i u : Nat) (l : List UInt8) (v k : Nat) (hi : i ≤ 9) (hu : u < 128 ^ i) (h : vget i u l = .ok v k) : v < 18446744073709551616 ∧ k ≤ 10 := by
  induction l generalizing i u with
  | nil => simp [vget] at h
  | cons c l ih =>
    have hc := c.toNat_lt
    rw [vget] at h
    have hp : u + c.toNat % 128 * 128 ^ i < 128 ^ (i + 1) := by
      have h1 : c.toNat % 128 ≤ 127 := by omega
      have h2 := Nat.mul_le_mul_right (128 ^ i) h1
      rw [Nat.pow_succ]; omega
    by_cases h9 : i = 9
    · subst h9
      split at h
      · cases h
      · split at h
        · omega
        · split at h
          · cases h
          · injection h with h1 h2
            simp at hu hp h1 ⊢
            omega
    · have hlt : u + c.toNat % 128 * 128 ^ i < 18446744073709551616 :=
        Nat.lt_of_lt_of_le hp (Nat.le_trans (Nat.pow_le_pow_right (by decide) (show i + 1 ≤ 9 by omega)) (by decide))
      split at h
      · cases h
      · split at h
        · exact ih _ _ (by omega) hp h
        · split at h
          · cases h
          · injection h with h1 h2
            omega
/-- What is written is read, whatever stands behind. -/
theorem vget_vin_at (n : Nat) : ∀ (i u : Nat) (r : List UInt8), (n * 128 ^ i < 18446744073709551616) → (0 < i → 0 < n) → vget i u (vin n ++ r) = .ok (u + n * 128 ^ i) (i + (vin n).length) := by
  induction n using Nat.strongRecOn with
  | _ n ih =>
    intro i u r hb hn
    have h9 : i ≤ 9 ∨ n = 0 := by
      rcases Nat.lt_or_ge 9 i with h | h
      · right
        have h1 : 128 ^ 10 ≤ 128 ^ i := Nat.pow_le_pow_right (by decide) h
        have h2 : (128 : Nat) ^ 10 = 1180591620717411303424 := by decide
        rcases Nat.eq_zero_or_pos n with h0 | h0
        · exact h0
        · have := Nat.mul_le_mul h0 h1; omega
      · exact .inl h
    have hi9 : i = 9 → n ≤ 1 := by
      rintro rfl
      have h2 : (128 : Nat) ^ 9 = 9223372036854775808 := by decide
      rw [h2] at hb; omega
    by_cases hs : n < 128
    · have hc : (UInt8.ofNat n).toNat = n := by rw [UInt8.toNat_ofNat']; omega
      rw [vin_small n hs]
      simp only [List.cons_append, List.nil_append, vget, hc, List.length_singleton]
      rw [if_neg (by omega), if_neg (by omega), if_neg (by omega), Nat.mod_eq_of_lt hs]
    · have hc : (UInt8.ofNat (n % 128 + 128)).toNat = n % 128 + 128 := by rw [UInt8.toNat_ofNat']; omega
      have hq : n / 128 * 128 ^ (i + 1) ≤ n * 128 ^ i := by
        rw [Nat.pow_succ, Nat.mul_comm (128 ^ i) 128, ← Nat.mul_assoc]
        exact Nat.mul_le_mul_right _ (Nat.div_mul_le_self n 128)
      rw [vin_big n hs]
      simp only [List.cons_append, vget, hc, List.length_cons]
      rw [if_neg (by omega), if_pos (by omega), ih (n / 128) (by omega) (i + 1) _ r (by omega) (by omega)]
      have e : (n % 128 + 128) % 128 = n % 128 := by omega
      have e2 : n % 128 * 128 ^ i + n / 128 * 128 ^ (i + 1) = n * 128 ^ i := by
        rw [Nat.pow_succ, Nat.mul_comm (128 ^ i) 128, ← Nat.mul_assoc, ← Nat.add_mul]
        congr 1; omega
      rw [e, Nat.add_assoc, e2, Nat.add_assoc, Nat.add_comm 1]
theorem vget_vin (n : Nat) (r : List UInt8) (h : n < 18446744073709551616) : vget 0 0 (vin n ++ r) = .ok n (vin n).length := by
  have := vget_vin_at n 0 0 r (by simpa using h) (fun h => absurd h (by decide))
  simpa using this
/-- What is read was written so. -/
theorem vin_vget (l : List UInt8) : ∀ (i u v k : Nat), vget i u l = .ok v k → ∃ n r, v = u + n * 128 ^ i ∧ l = vin n ++ r ∧ k = i + (vin n).length ∧ (0 < i → 0 < n) := by
  induction l with
  | nil => intro i u v k h; simp [vget] at h
  | cons c l ih =>
    intro i u v k h
    have hcl := c.toNat_lt
    rw [vget] at h
    split at h
    · cases h
    · split at h
      · rename_i _ hc
        obtain ⟨n, r, h1, h2, h3, h4⟩ := ih _ _ _ _ h
        have hn : 0 < n := h4 (by omega)
        have hbig : ¬ (c.toNat % 128 + n * 128) < 128 := by omega
        refine ⟨c.toNat % 128 + n * 128, r, ?_, ?_, ?_, fun _ => by omega⟩
        · rw [h1, Nat.pow_succ, Nat.add_mul]
          rw [Nat.mul_comm (128 ^ i) 128, ← Nat.mul_assoc]; omega
        · have e1 : (c.toNat % 128 + n * 128) % 128 = c.toNat % 128 := by omega
          have e2 : (c.toNat % 128 + n * 128) / 128 = n := by omega
          have e3 : UInt8.ofNat (c.toNat % 128 + 128) = c := by
            rw [show c.toNat % 128 + 128 = c.toNat by omega]; exact UInt8.ofNat_toNat
          rw [vin_big _ hbig, e1, e2, e3, h2]; rfl
        · have e2 : (c.toNat % 128 + n * 128) / 128 = n := by omega
          rw [h3, vin_big _ hbig, e2, List.length_cons]; omega
      · split at h
        · cases h
        · injection h with h1 h2
          have hs : c.toNat < 128 := by omega
          have e3 : UInt8.ofNat c.toNat = c := UInt8.ofNat_toNat
          refine ⟨c.toNat, l, ?_, ?_, ?_, by omega⟩
          · rw [← h1, Nat.mod_eq_of_lt hs]
          · rw [vin_small _ hs, e3]; rfl
          · rw [vin_small _ hs, ← h2]; rfl

/-- A number, a text as bytes. -/
def putZ (n : Int) : List UInt8 := vin (zig n)
def putT (s : List UInt8) : List UInt8 := putZ s.length ++ s
theorem putZ_len (n : Int) (h1 : -9223372036854775808 ≤ n) (h2 : n < 9223372036854775808) : (putZ n).length ≤ 10 := vin_len10 _ (zig_lt n h1 h2)

/-- What Get answers: the number, how many bytes, the error. -/
def getZ (l : List UInt8) : Int × Nat × Nat :=
  match vget 0 0 l with
  | .ok u k => (zag u, k, 0)
  | .form => (0, 0, 1)
  | .more => (0, 0, 2)
theorem getZ_put (n : Int) (r : List UInt8) (h1 : -9223372036854775808 ≤ n) (h2 : n < 9223372036854775808) : getZ (putZ n ++ r) = (n, (putZ n).length, 0) := by
  unfold getZ putZ; rw [vget_vin _ _ (zig_lt n h1 h2)]; simp only [zag_zig]
theorem getZ_ok (l : List UInt8) (n : Int) (k : Nat) (h : getZ l = (n, k, 0)) : ∃ r, l = putZ n ++ r ∧ k = (putZ n).length ∧ -9223372036854775808 ≤ n ∧ n < 9223372036854775808 := by
  unfold getZ at h
  split at h
  · rename_i u j hv
    obtain ⟨m, r, h1, h2, h3, _⟩ := vin_vget l 0 0 u j hv
    have hb := vget_bd 0 0 l u j (by decide) (by decide) hv
    simp at h1 h3
    subst h1
    have e1 : zag u = n := by simpa using congrArg (·.1) h
    have e2 : j = k := by simpa using congrArg (·.2.1) h
    have hz := zag_bd u hb.1
    refine ⟨r, ?_, ?_, ?_, ?_⟩
    · unfold putZ; rw [← e1, zig_zag]; exact h2
    · unfold putZ; rw [← e1, zig_zag, ← e2]; exact h3
    · omega
    · omega
  · simp at h
  · simp at h
theorem getZ_cases (l : List UInt8) : (∃ n k, getZ l = (n, k, 0) ∧ 0 < k ∧ k ≤ 10 ∧ k ≤ l.length ∧ -9223372036854775808 ≤ n ∧ n < 9223372036854775808) ∨ getZ l = (0, 0, 1) ∨ getZ l = (0, 0, 2) := by
  unfold getZ
  split
  · rename_i u k hv
    have h1 := vget_ok 0 0 l u k hv
    have h2 := vget_bd 0 0 l u k (by decide) (by decide) hv
    have h3 := zag_bd u h2.1
    exact .inl ⟨_, _, rfl, by omega, by omega, by omega, h3.1, h3.2⟩
  · exact .inr (.inl rfl)
  · exact .inr (.inr rfl)

/-- What GetText answers. -/
def getT (l : List UInt8) : List UInt8 × Nat × Nat :=
  match getZ l with
  | (n, k, 0) => if n < 0 ∨ 65536 < n then ([], 0, 1) else if (l.length : Int) < k + n then ([], 0, 2) else ((l.drop k).take n.toNat, k + n.toNat, 0)
  | (_, _, e + 1) => ([], 0, e + 1)
theorem getT_put (s r : List UInt8) (h : s.length ≤ 65536) : getT (putT s ++ r) = (s, (putT s).length, 0) := by
  unfold getT putT
  rw [List.append_assoc, getZ_put _ _ (by omega) (by omega)]
  simp only
  rw [if_neg (by omega), if_neg (by simp; omega)]
  simp

end Go.Proofs.YtpijhpfcigjkeaaDoor
end

/-
  ENTRIES AND THEIR BYTES (no program): which may be, which are live, their bytes, and that the bytes tell the entries.
-/
section
namespace Go.Proofs.YtpijhpfcigjkeaaDoor

structure It where
  key : ByteArray
  val : ByteArray
  till : Int
  gone : Bool
deriving DecidableEq
instance : Inhabited It := ⟨⟨ByteArray.empty, ByteArray.empty, 0, false⟩⟩
def It.may (x : It) : Bool :=
  decide (1 ≤ x.key.size) && decide (x.key.size ≤ 40) && decide (x.val.size ≤ 200) && decide (0 ≤ x.till) && decide (x.till ≤ 1099511627776) && (!x.gone || (decide (x.val.size = 0) && decide (x.till = 0)))
def It.live (x : It) (now : Int) : Bool := x.may && !x.gone && (decide (x.till = 0) || decide (now < x.till))
def It.flag (x : It) : Int := if x.gone then 1 else 0
def It.bytes (x : It) : List UInt8 := putT x.key.data.toList ++ (putT x.val.data.toList ++ (putZ x.till ++ putZ x.flag))
def bytesOf (l : List It) : List UInt8 := l.flatMap It.bytes
/-- What Encode answers. -/
def encs (l : List It) : List UInt8 := if l.all It.may then bytesOf l else []
def It.size (x : It) : Nat := x.key.size + x.val.size
def sizes (l : List It) : Nat := (l.map It.size).sum

theorem It.may_is {x : It} (h : x.may = true) : 1 ≤ x.key.size ∧ x.key.size ≤ 40 ∧ x.val.size ≤ 200 ∧ 0 ≤ x.till ∧ x.till ≤ 1099511627776 := by
  simp only [It.may, Bool.and_eq_true, decide_eq_true_eq] at h
  omega
theorem putT_inj {a b r s : List UInt8} (ha : a.length ≤ 65536) (hb : b.length ≤ 65536) (h : putT a ++ r = putT b ++ s) : a = b ∧ r = s := by
  have h1 := getT_put a r ha
  rw [h, getT_put b s hb] at h1
  injection h1 with h1 _
  subst h1
  exact ⟨rfl, List.append_cancel_left h⟩
theorem putZ_inj {a b : Int} {r s : List UInt8} (ha1 : -9223372036854775808 ≤ a) (ha2 : a < 9223372036854775808) (hb1 : -9223372036854775808 ≤ b) (hb2 : b < 9223372036854775808) (h : putZ a ++ r = putZ b ++ s) : a = b ∧ r = s := by
  have h1 := getZ_put a r ha1 ha2
  rw [h, getZ_put b s hb1 hb2] at h1
  injection h1 with h1 _
  subst h1
  exact ⟨rfl, List.append_cancel_left h⟩
theorem It.flag_bd (x : It) : 0 ≤ x.flag ∧ x.flag ≤ 1 := by unfold It.flag; split <;> omega
theorem It.flag_inj {x y : It} (h : x.flag = y.flag) : x.gone = y.gone := by
  unfold It.flag at h
  cases hx : x.gone <;> cases hy : y.gone <;> simp [hx, hy] at h <;> rfl
theorem data_inj {a b : ByteArray} (h : a.data.toList = b.data.toList) : a = b := by
  cases a; cases b; simp only [Array.toList_inj] at h; rw [h]
theorem It.bytes_inj {x y : It} {r s : List UInt8} (hx : x.may = true) (hy : y.may = true) (h : x.bytes ++ r = y.bytes ++ s) : x = y ∧ r = s := by
  have mx := It.may_is hx
  have my := It.may_is hy
  have fx := x.flag_bd
  have fy := y.flag_bd
  have kx : x.key.data.toList.length = x.key.size := by simp
  have ky : y.key.data.toList.length = y.key.size := by simp
  have vx : x.val.data.toList.length = x.val.size := by simp
  have vy : y.val.data.toList.length = y.val.size := by simp
  unfold It.bytes at h
  simp only [List.append_assoc] at h
  obtain ⟨e1, h⟩ := putT_inj (by omega) (by omega) h
  obtain ⟨e2, h⟩ := putT_inj (by omega) (by omega) h
  obtain ⟨e3, h⟩ := putZ_inj (by omega) (by omega) (by omega) (by omega) h
  obtain ⟨e4, h⟩ := putZ_inj (by omega) (by omega) (by omega) (by omega) h
  refine ⟨?_, h⟩
  obtain ⟨k1, v1, t1, g1⟩ := x
  obtain ⟨k2, v2, t2, g2⟩ := y
  have a1 := data_inj e1
  have a2 := data_inj e2
  have a4 := It.flag_inj e4
  simp only at a1 a2 e3 a4
  subst a1 a2 e3 a4
  rfl
theorem It.bytes_pos (x : It) : 0 < x.bytes.length := by
  have := vin_pos (zig (x.key.data.toList.length : Int))
  unfold It.bytes putT putZ
  simp only [List.length_append]
  omega
theorem bytesOf_cons (x : It) (l : List It) : bytesOf (x :: l) = x.bytes ++ bytesOf l := by simp [bytesOf]
theorem bytesOf_snoc (l : List It) (x : It) : bytesOf (l ++ [x]) = bytesOf l ++ x.bytes := by simp [bytesOf]
theorem bytesOf_pos {l : List It} (h : l ≠ []) : 0 < (bytesOf l).length := by
  cases l with
  | nil => exact absurd rfl h
  | cons x l =>
    rw [bytesOf_cons, List.length_append]
    have := x.bytes_pos
    omega
theorem bytesOf_inj {l m : List It} (hl : l.all It.may = true) (hm : m.all It.may = true) (h : bytesOf l = bytesOf m) : l = m := by
  induction l generalizing m with
  | nil =>
    cases m with
    | nil => rfl
    | cons y m =>
      have := bytesOf_pos (l := y :: m) (by simp)
      rw [← h] at this
      simp [bytesOf] at this
  | cons x l ih =>
    cases m with
    | nil =>
      have := bytesOf_pos (l := x :: l) (by simp)
      rw [h] at this
      simp [bytesOf] at this
    | cons y m =>
      rw [List.all_cons, Bool.and_eq_true] at hl hm
      rw [bytesOf_cons, bytesOf_cons] at h
      obtain ⟨rfl, e⟩ := It.bytes_inj hl.1 hm.1 h
      rw [ih hl.2 hm.2 e]
theorem encs_inj {l m : List It} (hl : 0 < (encs l).length) (hm : 0 < (encs m).length) : encs l = encs m ↔ l = m := by
  refine ⟨fun h => ?_, fun h => by rw [h]⟩
  unfold encs at h hl hm
  by_cases a : l.all It.may = true
  · by_cases b : m.all It.may = true
    · rw [if_pos a, if_pos b] at h
      exact bytesOf_inj a b h
    · rw [if_neg b] at hm; simp at hm
  · rw [if_neg a] at hl; simp at hl
theorem encs_pos {l : List It} (h : 0 < (encs l).length) : l ≠ [] ∧ l.all It.may = true := by
  unfold encs at h
  by_cases a : l.all It.may = true
  · rw [if_pos a] at h
    refine ⟨fun e => ?_, a⟩
    subst e
    simp [bytesOf] at h
  · rw [if_neg a] at h; simp at h
theorem encs_may {l : List It} (h : l.all It.may = true) : encs l = bytesOf l := by unfold encs; rw [if_pos h]
theorem It.bytes_len {x : It} (h : x.may = true) : x.bytes.length ≤ 280 := by
  have m := It.may_is h
  have f := x.flag_bd
  have kx : x.key.data.toList.length = x.key.size := by simp
  have vx : x.val.data.toList.length = x.val.size := by simp
  have h1 := putZ_len (x.key.data.toList.length : Int) (by omega) (by omega)
  have h2 := putZ_len (x.val.data.toList.length : Int) (by omega) (by omega)
  have h3 := putZ_len x.till (by omega) (by omega)
  have h4 := putZ_len x.flag (by omega) (by omega)
  unfold It.bytes putT
  simp only [List.length_append]
  omega
theorem bytesOf_len {l : List It} (h : l.all It.may = true) : (bytesOf l).length ≤ 280 * l.length := by
  induction l with
  | nil => simp [bytesOf]
  | cons x l ih =>
    rw [List.all_cons, Bool.and_eq_true] at h
    rw [bytesOf_cons, List.length_append, List.length_cons]
    have := x.bytes_len h.1
    have := ih h.2
    omega
theorem encs_len (l : List It) : (encs l).length ≤ 280 * l.length := by
  unfold encs
  split
  · next h => exact bytesOf_len h
  · simp
theorem It.bytes_four (x : It) : 4 ≤ x.bytes.length := by
  have h1 := vin_pos (zig (x.key.data.toList.length : Int))
  have h2 := vin_pos (zig (x.val.data.toList.length : Int))
  have h3 := vin_pos (zig x.till)
  have h4 := vin_pos (zig x.flag)
  unfold It.bytes putT putZ
  simp only [List.length_append]
  omega
theorem bytesOf_four (l : List It) : 4 * l.length ≤ (bytesOf l).length := by
  induction l with
  | nil => simp
  | cons x l ih =>
    rw [bytesOf_cons, List.length_append, List.length_cons]
    have := x.bytes_four
    omega

end Go.Proofs.YtpijhpfcigjkeaaDoor
end

/-
  THE PLAIN MATHEMATICS OF LAYER 3 (crc): the sum on natural numbers below 2^32, bit by bit; it is linear over exclusive or; no change of up to four neighbouring bytes leaves it as it was. It imports nothing of the program.
-/
section
namespace Go.Proofs.YtpijhpfcigjkeaaDoor

/-- One bit's step. -/
def tbit (c : Nat) : Nat := if c % 2 = 1 then c / 2 ^^^ 3988292384 else c / 2
/-- n bits' steps. -/
def tbits : Nat → Nat → Nat
  | 0, c => c
  | n + 1, c => tbits n (tbit c)
/-- A byte's step, of a state that has the byte in it already. -/
def t8 (c : Nat) : Nat := tbits 8 c
/-- All bytes, from a state on. -/
def crcF (c : Nat) (l : List UInt8) : Nat := l.foldl (fun c b => t8 (c ^^^ b.toNat)) c
/-- The sum. -/
def crcN (l : List UInt8) : Nat := 4294967295 - crcF 4294967295 l

theorem tbit_lt (c : Nat) (h : c < 4294967296) : tbit c < 4294967296 := by
  unfold tbit; split
  · exact Nat.xor_lt_two_pow (n := 32) (by omega) (by decide)
  · omega
theorem tbits_lt (n c : Nat) (h : c < 4294967296) : tbits n c < 4294967296 := by
  induction n generalizing c with
  | zero => exact h
  | succ n ih => exact ih _ (tbit_lt c h)
theorem t8_lt (c : Nat) (h : c < 4294967296) : t8 c < 4294967296 := tbits_lt 8 c h
theorem xor_lt32 {a b : Nat} (ha : a < 4294967296) (hb : b < 4294967296) : a ^^^ b < 4294967296 := Nat.xor_lt_two_pow (n := 32) ha hb
theorem byte_lt32 (b : UInt8) : b.toNat < 4294967296 := Nat.lt_trans b.toNat_lt (by decide)
theorem crcF_lt (l : List UInt8) (c : Nat) (h : c < 4294967296) : crcF c l < 4294967296 := by
  induction l generalizing c with
  | nil => exact h
  | cons b l ih => exact ih _ (t8_lt _ (xor_lt32 h (byte_lt32 b)))
theorem crcF_cons (c : Nat) (b : UInt8) (l : List UInt8) : crcF c (b :: l) = crcF (t8 (c ^^^ b.toNat)) l := rfl
theorem crcF_nil (c : Nat) : crcF c [] = c := rfl
theorem crcF_append (c : Nat) (l r : List UInt8) : crcF c (l ++ r) = crcF (crcF c l) r := by unfold crcF; rw [List.foldl_append]
theorem crcF_snoc (c : Nat) (l : List UInt8) (b : UInt8) : crcF c (l ++ [b]) = t8 (crcF c l ^^^ b.toNat) := by rw [crcF_append]; rfl

theorem tbit_bit (c i : Nat) : (tbit c).testBit i = (c.testBit (i + 1) ^^ (c.testBit 0 && (3988292384 : Nat).testBit i)) := by
  have e0 : c.testBit 0 = decide (c % 2 = 1) := Nat.testBit_zero c
  have e1 : c.testBit (i + 1) = (c / 2).testBit i := Nat.testBit_succ c i
  unfold tbit
  split
  · rename_i h; rw [Nat.testBit_xor, e0, e1]; simp [h]
  · rename_i h; rw [e0, e1]; simp [h]
theorem tbit_xor (a b : Nat) : tbit (a ^^^ b) = tbit a ^^^ tbit b := by
  apply Nat.eq_of_testBit_eq
  intro i
  rw [Nat.testBit_xor, tbit_bit, tbit_bit, tbit_bit, Nat.testBit_xor, Nat.testBit_xor]
  cases a.testBit (i + 1) <;> cases b.testBit (i + 1) <;> cases a.testBit 0 <;> cases b.testBit 0 <;> cases (3988292384 : Nat).testBit i <;> rfl
theorem tbits_xor (n a b : Nat) : tbits n (a ^^^ b) = tbits n a ^^^ tbits n b := by
  induction n generalizing a b with
  | zero => rfl
  | succ n ih => simp only [tbits]; rw [tbit_xor, ih]
theorem t8_xor (a b : Nat) : t8 (a ^^^ b) = t8 a ^^^ t8 b := tbits_xor 8 a b
theorem tbits_shift (n w : Nat) : tbits n (2 ^ n * w) = w := by
  induction n with
  | zero => simp [tbits]
  | succ n ih =>
    have e : 2 ^ (n + 1) * w = 2 * (2 ^ n * w) := by rw [Nat.pow_succ, Nat.mul_comm (2 ^ n) 2, Nat.mul_assoc]
    have t : tbit (2 ^ (n + 1) * w) = 2 ^ n * w := by
      unfold tbit; rw [if_neg (by rw [e]; omega), e]; omega
    simp only [tbits]; rw [t, ih]
theorem t8_shift (w : Nat) : t8 (256 * w) = w := tbits_shift 8 w
theorem t8_zero : t8 0 = 0 := by decide
/-- By a table of n bits: the low ones looked up, the others shifted. -/
theorem tbits_table (n c : Nat) : tbits n c = tbits n (c % 2 ^ n) ^^^ c / 2 ^ n := by
  have e : c = c % 2 ^ n ^^^ 2 ^ n * (c / 2 ^ n) := by
    apply Nat.eq_of_testBit_eq
    intro i
    rw [Nat.testBit_xor, Nat.testBit_mod_two_pow, Nat.testBit_two_pow_mul, Nat.testBit_div_two_pow]
    by_cases h : i < n
    · have h2 : ¬ n ≤ i := by omega
      simp [h, h2]
    · have h2 : n ≤ i := by omega
      simp [h, h2]
  conv => lhs; rw [e]
  rw [tbits_xor, tbits_shift]
theorem tbits_add (m n c : Nat) : tbits (m + n) c = tbits n (tbits m c) := by
  induction m generalizing c with
  | zero => rw [Nat.zero_add]; rfl
  | succ m ih => rw [Nat.succ_add]; simp only [tbits]; exact ih _

theorem xor_self_iff (a b : Nat) (h : a ^^^ b = 0) : a = b := by
  apply Nat.eq_of_testBit_eq
  intro i
  have e : (a ^^^ b).testBit i = false := by rw [h]; exact Nat.zero_testBit i
  rw [Nat.testBit_xor] at e
  cases ha : a.testBit i <;> cases hb : b.testBit i <;> simp_all
theorem tbit_ne (c : Nat) (h : c < 4294967296) (hz : tbit c = 0) : c = 0 := by
  unfold tbit at hz
  split at hz
  · have := xor_self_iff _ _ hz; omega
  · omega
theorem tbits_ne (n c : Nat) (h : c < 4294967296) (hz : tbits n c = 0) : c = 0 := by
  induction n generalizing c with
  | zero => exact hz
  | succ n ih => exact tbit_ne c h (ih _ (tbit_lt c h) hz)
theorem t8_ne (c : Nat) (h : c < 4294967296) (hz : t8 c = 0) : c = 0 := tbits_ne 8 c h hz

/-- The exclusive or of two lists, byte by byte. -/
def xorL (l r : List UInt8) : List UInt8 := List.zipWith (· ^^^ ·) l r
theorem xorL_toNat (a b : UInt8) : (a ^^^ b).toNat = a.toNat ^^^ b.toNat := UInt8.toNat_xor a b
theorem crcF_xor (l r : List UInt8) (c d : Nat) (h : l.length = r.length) : crcF (c ^^^ d) (xorL l r) = crcF c l ^^^ crcF d r := by
  induction l generalizing r c d with
  | nil => cases r with
    | nil => rfl
    | cons b r => simp at h
  | cons a l ih =>
    cases r with
    | nil => simp at h
    | cons b r =>
      have e : c ^^^ d ^^^ (a.toNat ^^^ b.toNat) = (c ^^^ a.toNat) ^^^ (d ^^^ b.toNat) := by
        rw [Nat.xor_assoc, Nat.xor_assoc, ← Nat.xor_assoc d, Nat.xor_comm d, Nat.xor_assoc a.toNat d]
      show crcF (t8 (c ^^^ d ^^^ (a ^^^ b).toNat)) (xorL l r) = _
      rw [xorL_toNat, e, t8_xor, ih r _ _ (by simpa using h)]
      rfl
theorem xorL_len (l r : List UInt8) (h : l.length = r.length) : (xorL l r).length = l.length := by unfold xorL; simp [h]

theorem not_xor (c : Nat) (h : c < 4294967296) : 4294967295 - c = c ^^^ 4294967295 := by
  apply Nat.eq_of_testBit_eq
  intro i
  have e : 4294967295 - c = 2 ^ 32 - (c + 1) := by omega
  rw [e, Nat.testBit_two_pow_sub_succ (by omega), Nat.testBit_xor]
  have e2 : (4294967295 : Nat).testBit i = decide (i < 32) := by
    rw [show (4294967295 : Nat) = 2 ^ 32 - 1 from by decide, Nat.testBit_two_pow_sub_one]
  rw [e2]
  by_cases hi : i < 32
  · simp [hi]
  · have := Nat.testBit_lt_two_pow (Nat.lt_of_lt_of_le (show c < 2 ^ 32 from h) (Nat.pow_le_pow_right (by decide) (show 32 ≤ i by omega)))
    simp [hi, this]
theorem crcN_lt (l : List UInt8) : crcN l < 4294967296 := by unfold crcN; omega
theorem xor3 (x : Nat) : x ^^^ x ^^^ x = x := by rw [Nat.xor_self, Nat.zero_xor]
/-- Of three texts of one length. -/
theorem crcN_three (a b c : List UInt8) (h1 : a.length = b.length) (h2 : b.length = c.length) :
    crcN (xorL (xorL a b) c) = crcN a ^^^ crcN b ^^^ crcN c := by
  have hI : (4294967295 : Nat) < 4294967296 := by decide
  have e : crcF 4294967295 (xorL (xorL a b) c) = crcF 4294967295 a ^^^ crcF 4294967295 b ^^^ crcF 4294967295 c := by
    conv => lhs; rw [← xor3 4294967295]
    rw [crcF_xor _ _ _ _ (by rw [xorL_len a b h1]; omega), crcF_xor _ _ _ _ h1]
  have la := crcF_lt a _ hI
  have lb := crcF_lt b _ hI
  have lc := crcF_lt c _ hI
  unfold crcN
  rw [e, not_xor _ (xor_lt32 (xor_lt32 la lb) lc), not_xor _ la, not_xor _ lb, not_xor _ lc]
  generalize crcF 4294967295 a = x
  generalize crcF 4294967295 b = y
  generalize crcF 4294967295 c = z
  generalize (4294967295 : Nat) = k
  apply Nat.eq_of_testBit_eq
  intro i
  simp only [Nat.testBit_xor]
  cases x.testBit i <;> cases y.testBit i <;> cases z.testBit i <;> cases k.testBit i <;> rfl

/-- Bytes as one number, the first the lowest. -/
def word : List UInt8 → Nat
  | [] => 0
  | b :: l => b.toNat ^^^ 256 * word l
/-- Bytes that come in are as if they stood in the state at once. -/
theorem crcF_word (l : List UInt8) (c : Nat) : crcF c l = tbits (8 * l.length) (c ^^^ word l) := by
  induction l generalizing c with
  | nil => simp [crcF, word, tbits]
  | cons b l ih =>
    rw [crcF_cons, ih]
    have e : t8 (c ^^^ b.toNat) ^^^ word l = t8 (c ^^^ word (b :: l)) := by
      rw [word, ← Nat.xor_assoc, t8_xor (c ^^^ b.toNat), t8_shift]
    rw [e, List.length_cons, show 8 * (l.length + 1) = 8 + 8 * l.length by omega, tbits_add]
    rfl
theorem word_lt (l : List UInt8) : word l < 256 ^ l.length := by
  induction l with
  | nil => simp [word]
  | cons b l ih =>
    rw [word, List.length_cons]
    have h1 : b.toNat < 256 ^ (l.length + 1) := by
      have := Nat.pow_le_pow_right (show 0 < 256 by decide) (show 1 ≤ l.length + 1 by omega)
      have := b.toNat_lt
      omega
    have h2 : 256 * word l < 256 ^ (l.length + 1) := by rw [Nat.pow_succ, Nat.mul_comm]; omega
    have e : (256 : Nat) ^ (l.length + 1) = 2 ^ (8 * (l.length + 1)) := by rw [Nat.pow_mul]
    rw [e] at h1 h2 ⊢
    exact Nat.xor_lt_two_pow h1 h2
theorem word_zero (l : List UInt8) (h : word l = 0) : ∀ b ∈ l, b = 0 := by
  induction l with
  | nil => simp
  | cons b l ih =>
    rw [word] at h
    have e := xor_self_iff _ _ h
    have hb := b.toNat_lt
    have h0 : b.toNat = 0 := by omega
    intro x hx
    rcases List.mem_cons.1 hx with rfl | hx
    · exact UInt8.toNat_inj.1 (by simpa using h0)
    · exact ih (by omega) x hx
theorem crcF_zeros (n : Nat) : crcF 0 (List.replicate n 0) = 0 := by
  induction n with
  | zero => rfl
  | succ n ih => rw [List.replicate_succ, crcF_cons]; simpa [t8_zero] using ih
theorem crcF_zeros_ne (n c : Nat) (h : c < 4294967296) (hz : crcF c (List.replicate n 0) = 0) : c = 0 := by
  induction n generalizing c with
  | zero => exact hz
  | succ n ih =>
    rw [List.replicate_succ, crcF_cons] at hz
    have h0 : c ^^^ (0 : UInt8).toNat = c := by simp
    rw [h0] at hz
    exact t8_ne c h (ih _ (t8_lt c h) hz)
/-- Up to four bytes behind one another that are changed change the sum. -/
theorem crcN_burst (l r x : List UInt8) (m n : Nat) (hx : x.length ≤ 4) (hne : ∃ b ∈ x, b ≠ 0) (hlen : l.length = r.length)
    (h : xorL l r = List.replicate m 0 ++ x ++ List.replicate n 0) : crcN l ≠ crcN r := by
  intro he
  have hI : (4294967295 : Nat) < 4294967296 := by decide
  have l1 := crcF_lt l _ hI
  have l2 := crcF_lt r _ hI
  have e1 : crcF 4294967295 l = crcF 4294967295 r := by unfold crcN at he; omega
  have e2 := crcF_xor l r 4294967295 4294967295 hlen
  rw [e1, Nat.xor_self, Nat.xor_self, h, crcF_append, crcF_append, crcF_zeros] at e2
  have hlt : crcF 0 x < 4294967296 := crcF_lt x 0 (by decide)
  have e3 := crcF_zeros_ne n _ hlt e2
  rw [crcF_word, Nat.zero_xor] at e3
  have hw : word x < 4294967296 := Nat.lt_of_lt_of_le (word_lt x) (Nat.le_trans (Nat.pow_le_pow_right (by decide) hx) (by decide))
  have e4 := tbits_ne _ _ hw e3
  obtain ⟨b, hb, hb0⟩ := hne
  exact hb0 (word_zero x e4 b hb)

end Go.Proofs.YtpijhpfcigjkeaaDoor
end

/-
  THE PLAIN MATHEMATICS OF A FRAMED SECTOR (package frame): a number, a text, zeros, the sum of a kind and all of it; it is read back; a byte that was changed in it is told; what super (kind 83) and slog (kind 76) take of it. It imports nothing of the program.
-/
section
namespace Go.Proofs.YtpijhpfcigjkeaaDoor

/-- What stands ahead of the sum. -/
def headS (t : Nat) (x : List UInt8) : List UInt8 := putZ (t : Int) ++ putT x
def bodyS (t : Nat) (x : List UInt8) : List UInt8 := headS t x ++ List.replicate (60 - (headS t x).length) 0
/-- A sum's four bytes. -/
def sumL (c : Nat) : List UInt8 := [UInt8.ofNat (c % 256), UInt8.ofNat (c / 256 % 256), UInt8.ofNat (c / 65536 % 256), UInt8.ofNat (c / 16777216 % 256)]
def sumOf (q : UInt8) (l : List UInt8) : List UInt8 := sumL (crcN (q :: l.take 60))
def encF (q : UInt8) (t : Nat) (x : List UInt8) : List UInt8 := bodyS t x ++ sumL (crcN (q :: bodyS t x))
/-- What the bytes ahead of the sum say. -/
def readF (l : List UInt8) : Option (Int × List UInt8) :=
  if (getZ l).2.2 ≠ 0 then none
  else if (getT (l.drop (getZ l).2.1)).2.2 ≠ 0 then none
  else some ((getZ l).1, (getT (l.drop (getZ l).2.1)).1)
def decF (q : UInt8) (l : List UInt8) : Option (Int × List UInt8) := if l.drop 60 = sumOf q l then readF (l.take 60) else none
/-- super's. -/
def encS (t : Nat) (x : List UInt8) : List UInt8 := encF 83 t x
def takeS : Option (Int × List UInt8) → Option (Nat × List UInt8)
  | none => none
  | some (t, x) => if t < 1 ∨ 1099511627776 < t ∨ 40 < x.length then none else some (t.toNat, x)
def decS (l : List UInt8) : Option (Nat × List UInt8) := takeS (decF 83 l)

theorem sumL_len (c : Nat) : (sumL c).length = 4 := rfl
theorem toNat_ofNat_mod (a : Nat) : (UInt8.ofNat (a % 256)).toNat = a % 256 := by
  rw [UInt8.toNat_ofNat']; omega
theorem sumL_inj (a b : Nat) (ha : a < 4294967296) (hb : b < 4294967296) (h : sumL a = sumL b) : a = b := by
  unfold sumL at h
  simp only [List.cons.injEq, and_true] at h
  obtain ⟨h0, h1, h2, h3⟩ := h
  have e0 := congrArg UInt8.toNat h0
  have e1 := congrArg UInt8.toNat h1
  have e2 := congrArg UInt8.toNat h2
  have e3 := congrArg UInt8.toNat h3
  rw [toNat_ofNat_mod, toNat_ofNat_mod] at e0 e1 e2 e3
  omega
theorem putZ_small (t : Nat) (ht : t < 2199023255552) : (putZ (t : Int)).length ≤ 6 := by
  unfold putZ
  refine vin_len 5 _ ?_
  have : zig (t : Int) = 2 * t := by unfold zig; rw [if_neg (by omega)]; omega
  rw [this]
  have e : (128 : Nat) ^ (5 + 1) = 4398046511104 := by decide
  omega
theorem putT_small (x : List UInt8) (hx : x.length ≤ 63) : (putT x).length = x.length + 1 := by
  unfold putT putZ
  have : zig (x.length : Int) = 2 * x.length := by unfold zig; rw [if_neg (by omega)]; omega
  rw [this, vin_small _ (by omega)]
  simp
theorem headS_len (t : Nat) (x : List UInt8) (hx : x.length ≤ 53) (ht : t < 2199023255552) : (headS t x).length ≤ 60 := by
  unfold headS
  have := putZ_small t ht
  have := putT_small x (by omega)
  rw [List.length_append]; omega
theorem bodyS_len (t : Nat) (x : List UInt8) (h : (headS t x).length ≤ 60) : (bodyS t x).length = 60 := by
  unfold bodyS; rw [List.length_append, List.length_replicate]; omega
theorem encF_len (q : UInt8) (t : Nat) (x : List UInt8) (h : (headS t x).length ≤ 60) : (encF q t x).length = 64 := by
  unfold encF; rw [List.length_append, bodyS_len t x h, sumL_len]
theorem encF_take (q : UInt8) (t : Nat) (x : List UInt8) (h : (headS t x).length ≤ 60) : (encF q t x).take 60 = bodyS t x := by
  unfold encF; rw [← bodyS_len t x h]; exact List.take_left
theorem encF_drop (q : UInt8) (t : Nat) (x : List UInt8) (h : (headS t x).length ≤ 60) : (encF q t x).drop 60 = sumL (crcN (q :: bodyS t x)) := by
  unfold encF; rw [← bodyS_len t x h]; exact List.drop_left
theorem decF_enc (q : UInt8) (t : Nat) (x : List UInt8) (h : (headS t x).length ≤ 60) (ht : t < 9223372036854775808) (hx : x.length ≤ 65536) : decF q (encF q t x) = some ((t : Int), x) := by
  have hz : getZ (bodyS t x) = ((t : Int), (putZ (t : Int)).length, 0) := by
    unfold bodyS headS
    rw [List.append_assoc]
    exact getZ_put _ _ (by omega) (by omega)
  have hd : (bodyS t x).drop (putZ (t : Int)).length = putT x ++ List.replicate (60 - (headS t x).length) 0 := by
    have e : bodyS t x = putZ (t : Int) ++ (putT x ++ List.replicate (60 - (headS t x).length) 0) := by
      conv => lhs; unfold bodyS; arg 1; unfold headS
      rw [List.append_assoc]
    rw [e]; exact List.drop_left
  have hg : getT ((bodyS t x).drop (putZ (t : Int)).length) = (x, (putT x).length, 0) := by rw [hd]; exact getT_put x _ hx
  unfold decF
  rw [if_pos (by rw [encF_drop q t x h]; unfold sumOf; rw [encF_take q t x h]), encF_take q t x h]
  unfold readF
  rw [hz]
  simp only
  rw [hg]
  simp only
  rw [if_neg (by omega), if_neg (by omega)]
theorem blank_take : blank.take 60 = List.replicate 60 0 := by unfold blank; rw [List.take_replicate]; rfl
theorem readF_blank : readF (blank.take 60) = some (0, []) := by
  have e0 : (putZ 0) = [0] := by unfold putZ; rw [show zig 0 = 0 from rfl, vin_small 0 (by decide)]; rfl
  have h : getZ (blank.take 60) = (0, 1, 0) := by
    have e : blank.take 60 = putZ 0 ++ List.replicate 59 0 := by rw [blank_take, e0]; rfl
    rw [e, getZ_put 0 _ (by omega) (by omega), e0]; rfl
  have h2 : getT ((blank.take 60).drop 1) = ([], 1, 0) := by
    have e : (blank.take 60).drop 1 = putT [] ++ List.replicate 58 0 := by
      rw [blank_take, List.drop_replicate]; unfold putT; simp only [List.length_nil, Int.ofNat_zero, List.append_nil]
      rw [e0]; rfl
    rw [e, getT_put [] _ (by decide)]
    unfold putT; simp only [List.length_nil, List.append_nil, Int.ofNat_zero]; rw [e0]; rfl
  unfold readF; rw [h]; simp only; rw [h2]; simp
theorem decF_blank (q : UInt8) : decF q blank = none ∨ decF q blank = some (0, []) := by
  unfold decF; split
  · exact .inr readF_blank
  · exact .inl rfl
theorem encS_len (t : Nat) (x : List UInt8) (hx : x.length ≤ 40) (ht : t ≤ 1099511627776) : (encS t x).length = 64 := encF_len _ t x (headS_len t x (by omega) (by omega))
theorem decS_enc (t : Nat) (x : List UInt8) (hx : x.length ≤ 40) (h1 : 1 ≤ t) (ht : t ≤ 1099511627776) : decS (encS t x) = some (t, x) := by
  unfold decS encS
  rw [decF_enc _ t x (headS_len t x (by omega) (by omega)) (by omega) (by omega)]
  unfold takeS
  simp only
  rw [if_neg (by omega), Int.toNat_natCast]
theorem decS_blank : decS blank = none := by
  unfold decS
  rcases decF_blank 83 with h | h <;> rw [h]
  · rfl
  · unfold takeS; simp
theorem set_ne (l : List UInt8) (i : Nat) (b : UInt8) (hi : i < l.length) (hb : b ≠ 0) : l.set i (l.getD i 0 ^^^ b) ≠ l := by
  intro h
  have e : (l.set i (l.getD i 0 ^^^ b))[i]? = l[i]? := by rw [h]
  rw [List.getElem?_set_self hi, List.getElem?_eq_getElem hi, List.getD_eq_getElem?_getD, List.getElem?_eq_getElem hi] at e
  simp only [Option.getD_some, Option.some.injEq] at e
  have e2 : (l[i] ^^^ b).toNat = l[i].toNat := by rw [e]
  rw [UInt8.toNat_xor] at e2
  have e3 : l[i].toNat ^^^ (l[i].toNat ^^^ b.toNat) = 0 := by rw [e2, Nat.xor_self]
  rw [← Nat.xor_assoc, Nat.xor_self, Nat.zero_xor] at e3
  exact hb (UInt8.toNat_inj.1 (by simpa using e3))
theorem xor_back (a b : UInt8) : a ^^^ (a ^^^ b) = b := by
  apply UInt8.toNat_inj.1
  rw [UInt8.toNat_xor, UInt8.toNat_xor, ← Nat.xor_assoc, Nat.xor_self, Nat.zero_xor]
theorem xorL_set (l : List UInt8) (i : Nat) (b : UInt8) (hi : i < l.length) : xorL l (l.set i (l.getD i 0 ^^^ b)) = List.replicate i 0 ++ [b] ++ List.replicate (l.length - 1 - i) 0 := by
  apply List.ext_getElem?
  intro j
  unfold xorL
  rw [List.getElem?_zipWith, List.getElem?_set]
  by_cases hj : j < l.length
  · rw [List.getElem?_eq_getElem hj]
    by_cases hij : i = j
    · subst hij
      simp [hj, List.getD_eq_getElem?_getD, xor_back]
    · simp only [hij, if_false]
      have hx : ∀ a : UInt8, a ^^^ a = 0 := fun a => by
        apply UInt8.toNat_inj.1; rw [UInt8.toNat_xor, Nat.xor_self]; rfl
      simp only [hx]
      symm
      rcases Nat.lt_or_ge j i with h | h
      · simp [List.getElem?_append, h]
      · rw [List.getElem?_append_right (by simp; omega), List.getElem?_replicate]
        simp
        omega
  · rw [List.getElem?_eq_none (by omega)]
    symm
    simp
    omega
theorem crcN_set (l : List UInt8) (i : Nat) (b : UInt8) (hi : i < l.length) (hb : b ≠ 0) : crcN l ≠ crcN (l.set i (l.getD i 0 ^^^ b)) :=
  crcN_burst l _ [b] i (l.length - 1 - i) (by simp) ⟨b, by simp, hb⟩ (by simp) (xorL_set l i b hi)
theorem decF_bad (q : UInt8) (t : Nat) (x : List UInt8) (i : Nat) (b : UInt8) (h0 : (headS t x).length ≤ 60) (hi : i < 64) (hb : b ≠ 0) : decF q ((encF q t x).set i ((encF q t x).getD i 0 ^^^ b)) = none := by
  have h1 := encF_take q t x h0
  have h2 := encF_drop q t x h0
  have hl := encF_len q t x h0
  unfold decF
  rw [if_neg]
  unfold sumOf
  rcases Nat.lt_or_ge i 60 with h | h
  · rw [List.drop_set_of_lt h, h2, List.take_set]
    have e : (encF q t x).getD i 0 = (bodyS t x).getD i 0 := by
      rw [← h1, List.getD_eq_getElem?_getD, List.getD_eq_getElem?_getD, List.getElem?_take, if_pos h]
    rw [h1, e]
    intro hs
    have e3 := sumL_inj _ _ (crcN_lt _) (crcN_lt _) hs
    refine crcN_set (q :: bodyS t x) (i + 1) b (by rw [List.length_cons, bodyS_len t x h0]; omega) hb ?_
    rw [List.set_cons_succ]
    have e4 : (q :: bodyS t x).getD (i + 1) 0 = (bodyS t x).getD i 0 := by simp [List.getD_eq_getElem?_getD]
    rw [e4]
    exact e3
  · rw [List.take_set_of_le h, h1]
    have e : (encF q t x).getD i 0 = ((encF q t x).drop 60).getD (i - 60) 0 := by
      rw [List.getD_eq_getElem?_getD, List.getD_eq_getElem?_getD, List.getElem?_drop]
      congr 3; omega
    have e2 : ((encF q t x).set i ((encF q t x).getD i 0 ^^^ b)).drop 60 = ((encF q t x).drop 60).set (i - 60) (((encF q t x).drop 60).getD (i - 60) 0 ^^^ b) := by
      rw [List.drop_set, if_neg (by omega), e]
    rw [e2, ← h2]
    exact set_ne _ _ _ (by rw [List.length_drop]; omega) hb
theorem decS_bad (t : Nat) (x : List UInt8) (i : Nat) (b : UInt8) (hx : x.length ≤ 40) (ht : t ≤ 1099511627776) (hi : i < 64) (hb : b ≠ 0) : decS ((encS t x).set i ((encS t x).getD i 0 ^^^ b)) = none := by
  unfold decS encS
  rw [decF_bad _ t x i b (headS_len t x (by omega) (by omega)) hi hb]; rfl

end Go.Proofs.YtpijhpfcigjkeaaDoor
end

/-
  A list, one further (no program).
-/
section
namespace Go.Proofs.YtpijhpfcigjkeaaDoor

theorem take_next {α : Type} (l : List α) (k : Nat) (h : k < l.length) : l.take (k + 1) = l.take k ++ [l[k]] := by
  rw [List.take_add_one, List.getElem?_eq_getElem h]; rfl

end Go.Proofs.YtpijhpfcigjkeaaDoor
end
