/-
  THE WALK OF DevSizes, whatever the program's device is made of.
-/
import Derived.Test.YtgmgojpkjchmcaaDevOps
import Derived.Outline
namespace Go.Proofs.Ytgmgojpkjchmcaa.devSizes
open Go Go.RowKit Go.Joins

theorem new_len (k : Nat) : (SDev.new k).now.length = k := by simp [SDev.new]
theorem new_loose (k : Nat) : (SDev.new k).loose = [] := by
  unfold SDev.loose SDev.new trues
  simp only [List.filter_eq_nil_iff, List.mem_range, List.length_replicate]
  intro i hi
  simp [List.getD_eq_getElem?_getD, hi]
theorem new_readL (k : Nat) (i : Int) (h0 : 0 ≤ i) (h : i < k) : (SDev.new k).readL i = blank := by
  unfold SDev.readL
  rw [new_len, if_neg (by omega)]
  have : i.toNat < k := by omega
  simp [SDev.new, List.getD_eq_getElem?_getD, this]
theorem new_readE (k : Nat) (i : Int) (h0 : 0 ≤ i) (h : i < k) : (SDev.new k).readE i = 0 := by
  unfold SDev.readE
  rw [new_len, if_neg (by omega)]
theorem new_readE4 (k : Nat) (i : Int) (h : (k : Int) ≤ i) : (SDev.new k).readE i = 4 := by
  unfold SDev.readE
  rw [new_len, if_pos (.inr h)]

theorem blank_at (j : Nat) (h : j < (bcells blank).length) : (bcells blank)[j] = .int .u8 0 := by
  have hj : j < (List.replicate 64 (0 : UInt8)).length := by simpa [bcells, blank] using h
  have e : (bcells (List.replicate 64 0))[j]'(by simpa [bcells] using hj) = .int .u8 0 := by
    unfold bcells
    rw [List.getElem_map, List.getElem_replicate]
    rfl
  exact e

set_option maxRecDepth 100000 in
set_option maxHeartbeats 2000000 in
theorem walk (D : DevOK) (w : World) (n : Int) (hn : (Lit.int .i64 n).wf = true) :
    Calls Try.prog 4 #[.int .i64 n] w fun e w' => e = .returned (.bool true) ∧ Below w.heap.size w w' := by
  have hb := bounds_i64 hn
  clear hn
  have e1 : (if (2048 : Int) < n then (2048 : Int) else n) = min n 2048 := by split <;> omega
  have e2 : (if (1 : Int) < min n 2048 then min n 2048 else 1) = ((clampN n : Nat) : Int) := by unfold clampN; split <;> omega
  have hk := clampN_bd n
  obtain ⟨k, hkc⟩ : ∃ k, clampN n = k := ⟨_, rfl⟩
  have HKC := Lib.hid hkc
  rw [hkc] at e2 hk
  clear hkc
  generalize min n 2048 = m at e1 e2
  go_enter Try.func4, Try.ntmps4
  go_wp2_with fail
  refine (begun_any D w).mono ?_
  rintro e w1 ⟨rfl, hk1⟩
  have HK1 := Lib.hid hk1
  clear hk1
  go_wp2_with fail
  refine (D.new _ n hb.1 (by omega)).mono ?_
  rintro e w2 ⟨p, F, rfl, hr, hge, hk2⟩
  rw [HKC.out] at hr
  have HR := Lib.hid hr
  have HG := Lib.hid hge
  have HK2 := Lib.hid (HK1.out.trans hk2)
  clear hr hge hk2
  go_wp2_with fail
  refine (D.len _ p F _ HR.out).mono ?_
  rintro e w' ⟨rfl, rfl⟩
  rw [new_len]
  go_wp2_with fail
  refine (D.loose _ p F _ HR.out).mono ?_
  rintro e w3 ⟨v, rfl, ho, hk3⟩
  rw [new_loose] at ho
  obtain ⟨A3, c3, rfl, -, -⟩ := own_slice ho
  have HR3 := Lib.hid (D.keep HR.out (hk3.mono fun _ _ _ => trivial))
  have HK3 := Lib.hid (HK2.out.trans hk3)
  clear ho hk3 HR HK2
  go_wp2_with fail
  refine (D.calls _ p F _ HR3.out).mono ?_
  rintro e w' ⟨rfl, rfl⟩
  rw [show (SDev.new k).calls = 0 from rfl]
  go_wp2_with fail
  refine (D.read _ p F _ HR3.out ((k : Int) - 1) (by omega) (by omega)).mono ?_
  rintro e w4 ⟨v, rfl, ho, hk4⟩
  rw [new_readL k _ (by omega) (by omega)] at ho
  rw [new_readE k _ (by omega) (by omega)]
  obtain ⟨A4, c4, rfl, -, r4⟩ := own_slice ho
  have hll : blank.length = 64 := by decide
  rw [hll]
  have HR4 := Lib.hid (D.keep HR3.out (hk4.mono fun _ _ _ => trivial))
  have HK4 := Lib.hid (HK3.out.trans hk4)
  have R4 := Lib.hid r4
  have HLL := Lib.hid hll
  clear ho hk4 HR3 HK3 r4 hll
  go_wp2_with fail
  refine (D.read _ p F _ HR4.out (k : Int) (by omega) (by omega)).mono ?_
  rintro e w5 ⟨v, rfl, ho, hk5⟩
  rw [new_readE4 k _ (Int.le_refl _)]
  obtain ⟨A5, c5, rfl, -, -⟩ := own_slice ho
  have HR5 := Lib.hid (D.keep HR4.out (hk5.mono fun _ _ _ => trivial))
  have HK5 := Lib.hid (HK4.out.trans hk5)
  have R5 := Lib.hid (R4.out.keep (hk5.mono fun _ _ _ => trivial))
  clear ho hk5 HR4 HK4 R4
  generalize (SDev.readL (SDev.new k) (k : Int)).length = l5
  go_wp2_with fail
  go_loopw [10] (fun i wr => ∃ j : Nat, j ≤ 64 ∧ i = .int .i64 j ∧ Keeps (fun _ => True) w5 wr) (fun i _ => 64 - (intOf i).toNat)
  case atStart => exact ⟨0, Nat.zero_le _, rfl, Keeps.refl _ _⟩
  case round =>
    obtain ⟨j, hj, rfl, hkp⟩ := hrel
    by_cases hl : j < 64
    · obtain ⟨b, o, e, -, hc⟩ := (R5.out.keep (hkp.mono fun _ _ _ => trivial)).at_ (k := j) (by simp [bcells, HLL.out, hl])
      cases e
      have hv := blank_at j (by simp [bcells, HLL.out, hl])
      rw [hv] at hc
      have hl' : (j : Int) < 64 := by omega
      have HKP := Lib.hid hkp
      clear hv hkp
      go_wp2_with fail
      go_roundw
      case rel => exact ⟨j + 1, by omega, by go_num, HKP.out⟩
      case measure => simp [intOf]; omega
    · obtain rfl : j = 64 := by omega
      have HR6 := Lib.hid (D.keep HR5.out (hkp.mono fun _ _ _ => trivial))
      have HK6 := Lib.hid (HK5.out.trans hkp)
      clear hkp
      go_wp2_with fail
      refine (show Calls _ _ _ _ _ from D.write wr p F _ HR6.out (-1) none 0 (fun _ => False) [] (by decide) (by decide) (Row.nil _ _ _) (fun _ h => h.elim) (by decide) (by decide) (fun _ => rfl) (Nat.zero_le _)).mono ?_
      rintro e w7 ⟨rfl, F', -, hs⟩
      have HK7 := Lib.hid (Step.old (a := w) hs (fun b hb => Nat.le_trans HK1.out.size (HG.out b (.inl hb))) HK6.out)
      clear hs
      rw [show ((SDev.new k).writeZ (-1) []).1 = 4 from by unfold SDev.writeZ; rw [if_pos (.inl (by decide))]]
      go_wp2_with fail
      go_ret
      exact ⟨rfl, HK7.out.below⟩
end Go.Proofs.Ytgmgojpkjchmcaa.devSizes
