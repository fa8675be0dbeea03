/-
  ENTRIES AND THEIR BYTES (no program): which may be, which are live, their bytes, and that the bytes tell the entries.
-/
import Derived.Test.YtgdbkmecfbkobaaNumMath
namespace Go.Proofs.Ytgdbkmecfbkobaa

structure It where
  key : ByteArray
  val : ByteArray
  till : Int
  gone : Bool
deriving DecidableEq
instance : Inhabited It := ⟨⟨ByteArray.empty, ByteArray.empty, 0, false⟩⟩
def It.may (x : It) : Bool :=
  decide (1 ≤ x.key.size) && decide (x.key.size ≤ 40) && decide (x.val.size ≤ 200) && decide (0 ≤ x.till) && decide (x.till ≤ 1099511627776) && (!x.gone || (decide (x.val.size = 0) && decide (x.till = 0)))
def It.live (x : It) (now : Int) : Bool := x.may && !x.gone && (decide (x.till = 0) || decide (now < x.till))
def It.flag (x : It) : Int := if x.gone then 1 else 0
def It.bytes (x : It) : List UInt8 := putT x.key.data.toList ++ (putT x.val.data.toList ++ (putZ x.till ++ putZ x.flag))
def bytesOf (l : List It) : List UInt8 := l.flatMap It.bytes
/-- What Encode answers. -/
def encs (l : List It) : List UInt8 := if l.all It.may then bytesOf l else []
def It.size (x : It) : Nat := x.key.size + x.val.size
def sizes (l : List It) : Nat := (l.map It.size).sum

theorem It.may_is {x : It} (h : x.may = true) : 1 ≤ x.key.size ∧ x.key.size ≤ 40 ∧ x.val.size ≤ 200 ∧ 0 ≤ x.till ∧ x.till ≤ 1099511627776 := by
  simp only [It.may, Bool.and_eq_true, decide_eq_true_eq] at h
  omega
theorem putT_inj {a b r s : List UInt8} (ha : a.length ≤ 65536) (hb : b.length ≤ 65536) (h : putT a ++ r = putT b ++ s) : a = b ∧ r = s := by
  have h1 := getT_put a r ha
  rw [h, getT_put b s hb] at h1
  injection h1 with h1 _
  subst h1
  exact ⟨rfl, List.append_cancel_left h⟩
theorem putZ_inj {a b : Int} {r s : List UInt8} (ha1 : -9223372036854775808 ≤ a) (ha2 : a < 9223372036854775808) (hb1 : -9223372036854775808 ≤ b) (hb2 : b < 9223372036854775808) (h : putZ a ++ r = putZ b ++ s) : a = b ∧ r = s := by
  have h1 := getZ_put a r ha1 ha2
  rw [h, getZ_put b s hb1 hb2] at h1
  injection h1 with h1 _
  subst h1
  exact ⟨rfl, List.append_cancel_left h⟩
theorem It.flag_bd (x : It) : 0 ≤ x.flag ∧ x.flag ≤ 1 := by unfold It.flag; split <;> omega
theorem It.flag_inj {x y : It} (h : x.flag = y.flag) : x.gone = y.gone := by
  unfold It.flag at h
  cases hx : x.gone <;> cases hy : y.gone <;> simp [hx, hy] at h <;> rfl
theorem data_inj {a b : ByteArray} (h : a.data.toList = b.data.toList) : a = b := by
  cases a; cases b; simp only [Array.toList_inj] at h; rw [h]
theorem It.bytes_inj {x y : It} {r s : List UInt8} (hx : x.may = true) (hy : y.may = true) (h : x.bytes ++ r = y.bytes ++ s) : x = y ∧ r = s := by
  have mx := It.may_is hx
  have my := It.may_is hy
  have fx := x.flag_bd
  have fy := y.flag_bd
  have kx : x.key.data.toList.length = x.key.size := by simp
  have ky : y.key.data.toList.length = y.key.size := by simp
  have vx : x.val.data.toList.length = x.val.size := by simp
  have vy : y.val.data.toList.length = y.val.size := by simp
  unfold It.bytes at h
  simp only [List.append_assoc] at h
  obtain ⟨e1, h⟩ := putT_inj (by omega) (by omega) h
  obtain ⟨e2, h⟩ := putT_inj (by omega) (by omega) h
  obtain ⟨e3, h⟩ := putZ_inj (by omega) (by omega) (by omega) (by omega) h
  obtain ⟨e4, h⟩ := putZ_inj (by omega) (by omega) (by omega) (by omega) h
  refine ⟨?_, h⟩
  obtain ⟨k1, v1, t1, g1⟩ := x
  obtain ⟨k2, v2, t2, g2⟩ := y
  have a1 := data_inj e1
  have a2 := data_inj e2
  have a4 := It.flag_inj e4
  simp only at a1 a2 e3 a4
  subst a1 a2 e3 a4
  rfl
theorem It.bytes_pos (x : It) : 0 < x.bytes.length := by
  have := vin_pos (zig (x.key.data.toList.length : Int))
  unfold It.bytes putT putZ
  simp only [List.length_append]
  omega
theorem bytesOf_cons (x : It) (l : List It) : bytesOf (x :: l) = x.bytes ++ bytesOf l := by simp [bytesOf]
theorem bytesOf_snoc (l : List It) (x : It) : bytesOf (l ++ [x]) = bytesOf l ++ x.bytes := by simp [bytesOf]
theorem bytesOf_pos {l : List It} (h : l ≠ []) : 0 < (bytesOf l).length := by
  cases l with
  | nil => exact absurd rfl h
  | cons x l =>
    rw [bytesOf_cons, List.length_append]
    have := x.bytes_pos
    omega
theorem bytesOf_inj {l m : List It} (hl : l.all It.may = true) (hm : m.all It.may = true) (h : bytesOf l = bytesOf m) : l = m := by
  induction l generalizing m with
  | nil =>
    cases m with
    | nil => rfl
    | cons y m =>
      have := bytesOf_pos (l := y :: m) (by simp)
      rw [← h] at this
      simp [bytesOf] at this
  | cons x l ih =>
    cases m with
    | nil =>
      have := bytesOf_pos (l := x :: l) (by simp)
      rw [h] at this
      simp [bytesOf] at this
    | cons y m =>
      rw [List.all_cons, Bool.and_eq_true] at hl hm
      rw [bytesOf_cons, bytesOf_cons] at h
      obtain ⟨rfl, e⟩ := It.bytes_inj hl.1 hm.1 h
      rw [ih hl.2 hm.2 e]
theorem encs_inj {l m : List It} (hl : 0 < (encs l).length) (hm : 0 < (encs m).length) : encs l = encs m ↔ l = m := by
  refine ⟨fun h => ?_, fun h => by rw [h]⟩
  unfold encs at h hl hm
  by_cases a : l.all It.may = true
  · by_cases b : m.all It.may = true
    · rw [if_pos a, if_pos b] at h
      exact bytesOf_inj a b h
    · rw [if_neg b] at hm; simp at hm
  · rw [if_neg a] at hl; simp at hl
theorem encs_pos {l : List It} (h : 0 < (encs l).length) : l ≠ [] ∧ l.all It.may = true := by
  unfold encs at h
  by_cases a : l.all It.may = true
  · rw [if_pos a] at h
    refine ⟨fun e => ?_, a⟩
    subst e
    simp [bytesOf] at h
  · rw [if_neg a] at h; simp at h
theorem encs_may {l : List It} (h : l.all It.may = true) : encs l = bytesOf l := by unfold encs; rw [if_pos h]
theorem It.bytes_len {x : It} (h : x.may = true) : x.bytes.length ≤ 280 := by
  have m := It.may_is h
  have f := x.flag_bd
  have kx : x.key.data.toList.length = x.key.size := by simp
  have vx : x.val.data.toList.length = x.val.size := by simp
  have h1 := putZ_len (x.key.data.toList.length : Int) (by omega) (by omega)
  have h2 := putZ_len (x.val.data.toList.length : Int) (by omega) (by omega)
  have h3 := putZ_len x.till (by omega) (by omega)
  have h4 := putZ_len x.flag (by omega) (by omega)
  unfold It.bytes putT
  simp only [List.length_append]
  omega
theorem bytesOf_len {l : List It} (h : l.all It.may = true) : (bytesOf l).length ≤ 280 * l.length := by
  induction l with
  | nil => simp [bytesOf]
  | cons x l ih =>
    rw [List.all_cons, Bool.and_eq_true] at h
    rw [bytesOf_cons, List.length_append, List.length_cons]
    have := x.bytes_len h.1
    have := ih h.2
    omega
theorem encs_len (l : List It) : (encs l).length ≤ 280 * l.length := by
  unfold encs
  split
  · next h => exact bytesOf_len h
  · simp
theorem It.bytes_four (x : It) : 4 ≤ x.bytes.length := by
  have h1 := vin_pos (zig (x.key.data.toList.length : Int))
  have h2 := vin_pos (zig (x.val.data.toList.length : Int))
  have h3 := vin_pos (zig x.till)
  have h4 := vin_pos (zig x.flag)
  unfold It.bytes putT putZ
  simp only [List.length_append]
  omega
theorem bytesOf_four (l : List It) : 4 * l.length ≤ (bytesOf l).length := by
  induction l with
  | nil => simp
  | cons x l ih =>
    rw [bytesOf_cons, List.length_append, List.length_cons]
    have := x.bytes_four
    omega

end Go.Proofs.Ytgdbkmecfbkobaa
