/-
  NumGet: texts of mine, joined.
-/
import Derived.Test.YtemkjodkmehffaaGreatDoorAllM04
import Derived.WalkSpells
import Derived.BigQuiet
namespace Go.Proofs.YtemkjodkmehffaaGreatDoor
open Go Go.RowKit
theorem pow128 (k : Nat) : (128 : Nat) ^ k = 2 ^ (7 * k) := by rw [Nat.pow_mul]
theorem or_shift (k u q : Nat) (hk : k ≤ 9) (hu : u < 128 ^ k) (hq : q % 128 * 128 ^ k < 18446744073709551616) :
  bits .or .u64 (u : Int) (IntKind.u64.wrap ((q : Int) % 128 * 2 ^ (7 * k))) = ((u + q % 128 * 128 ^ k : Nat) : Int) := by
 have e1 : ((q : Int) % 128 * 2 ^ (7 * k)) = ((q % 128 * 128 ^ k : Nat) : Int) := by
  rw [pow128]; push_cast; rfl
 have hw : IntKind.u64.wrap (((q % 128 * 128 ^ k : Nat) : Int)) = ((q % 128 * 128 ^ k : Nat) : Int) := by
  rw [IntKind.wrap_u64]; omega
 have hul : u < 18446744073709551616 := Nat.lt_of_lt_of_le hu (Nat.le_trans (Nat.pow_le_pow_right (by decide) hk) (by decide))
 rw [e1, hw, u64_or_nat _ _ hul hq]
 congr 1
 rw [Nat.or_comm, nat_join (7 * k) _ _ (by rw [← pow128]; exact Nat.mul_mod_left _ _) (by rw [← pow128]; exact hu)]
 omega
theorem getZ_form {l : List UInt8} (h : vget 0 0 l = .form) : getZ l = (0, 0, 1) := by unfold getZ; rw [h]
theorem getZ_more {l : List UInt8} (h : vget 0 0 l = .more) : getZ l = (0, 0, 2) := by unfold getZ; rw [h]
theorem getZ_got {l : List UInt8} {u k : Nat} (h : vget 0 0 l = .ok u k) : getZ l = (zag u, k, 0) := by unfold getZ; rw [h]
set_option maxRecDepth 100000 in
set_option maxHeartbeats 1000000 in
theorem get_any (A : Option Addr) (c : Nat) (F : Nat → Prop) (l : List UInt8) (w : World) (h : Row w A F (bcells l)) (_hl : l.length ≤ 1099511627776) :
  Calls Tryz.prog 58 #[.slice A l.length c] w fun e w' => e = .returned (.tuple #[.int .i64 (getZ l).1, .int .i64 ((getZ l).2.1 : Nat), .int .i64 ((getZ l).2.2 : Nat)]) ∧ w = w' := by
 have HA := Lib.hid h
 clear h
 go_enter Tryz.func58, Tryz.ntmps58
 go_wp2
 go_loop [5, 10] (fun f i => ∃ (k u : Nat), k ≤ l.length ∧ k ≤ 9 ∧ u < 128 ^ k ∧ vget 0 0 l = vget k u (l.drop k) ∧ i = .int .i64 k ∧ f = .int .u64 (u : Nat)) (fun _ i => l.length - (intOf i).toNat)
 case atStart => exact ⟨0, 0, Nat.zero_le _, by omega, by decide, by simp, rfl, rfl⟩
 case round =>
  obtain ⟨k, u, hk, hk9, hu, hv, rfl, rfl⟩ := hrel
  by_cases hlt : k < l.length
  ·obtain ⟨b, o, rfl, _, hcell⟩ := HA.out.at_ (k := k) (by rw [bcells_len]; exact hlt)
   have hd : l.drop k = l[k] :: l.drop (k + 1) := List.drop_eq_getElem_cons hlt
   rw [hd, vget] at hv
   simp only [bcells, bcell, List.getElem_map] at hcell
   generalize l[k] = x at hcell hv
   have hx := x.toNat_lt
   generalize x.toNat = q at hcell hx hv
   by_cases h9 : k = 9 ∧ 1 < q
   ·rw [if_pos h9] at hv
    have HV := Lib.hid (getZ_form hv)
    have t9 : ((k : Int) == 9) = true := by simp; omega
    have t1 : decide ((1 : Int) < (q : Int)) = true := by simp; omega
    clear hv hu hd h9
    go_wp2_with fail
    go_ret3
    exact ⟨by rw [HV.out]; rfl, rfl⟩
   ·rw [if_neg h9] at hv
    have hq : q % 128 * 128 ^ k < 18446744073709551616 := by
     by_cases e9 : k = 9
     ·subst e9
      have e : (128 : Nat) ^ 9 = 9223372036854775808 := by decide
      rw [e]; omega
     ·have h1 : q % 128 * 128 ^ k ≤ 127 * 128 ^ 8 := Nat.mul_le_mul (by omega) (Nat.pow_le_pow_right (by decide) (by omega))
      exact Nat.lt_of_le_of_lt h1 (by decide)
    have hnu : u + q % 128 * 128 ^ k < 128 ^ (k + 1) := by
     have h1 : q % 128 ≤ 127 := by omega
     have h2 := Nat.mul_le_mul_right (128 ^ k) h1
     rw [Nat.pow_succ]; omega
    have hlt64 : u + q % 128 * 128 ^ k < 18446744073709551616 := by
     by_cases e9 : k = 9
     ·subst e9
      have e : (128 : Nat) ^ 9 = 9223372036854775808 := by decide
      rw [e] at hu ⊢; omega
     ·exact Nat.lt_of_lt_of_le hnu (Nat.le_trans (Nat.pow_le_pow_right (by decide) (show k + 1 ≤ 9 by omega)) (by decide))
    have E := or_shift k u q hk9 hu hq
    have HE := Lib.hid E
    have HN := Lib.hid hnu
    have H64 := Lib.hid hlt64
    clear E hq hu hd hnu hlt64
    have key : (((k : Int) == 9) = true ∧ decide ((1 : Int) < (q : Int)) = false ∧ q < 128) ∨ ((k : Int) == 9) = false := by
     by_cases e9 : k = 9
     ·left; refine ⟨by simp; omega, by simp; omega, by omega⟩
     ·right; simp; omega
    clear h9
    by_cases h128 : 128 ≤ q
    ·rw [if_pos h128] at hv
     have HV := Lib.hid hv
     have t9 : ((k : Int) == 9) = false := by rcases key with ⟨_, _, h⟩ | h; omega; exact h
     have t128 : decide ((128 : Int) ≤ (q : Int)) = true := by simp; omega
     have hk8 : k ≤ 8 := by simp at t9; omega
     clear hv key
     go_wp2_with fail
     go_round
     case rel => exact ⟨k + 1, u + q % 128 * 128 ^ k, by omega, by omega, HN.out, HV.out, by go_num, by rw [HE.out]⟩
     case measure => simp [intOf]; omega
    ·rw [if_neg h128] at hv
     by_cases h0 : q = 0 ∧ 0 < k
     ·rw [if_pos h0] at hv
      have HV := Lib.hid (getZ_form hv)
      obtain ⟨rfl, hk0⟩ := h0
      clear hv
      rcases key with ⟨t9, t1, _⟩ | t9
      all_goals
       go_wp2_with fail
       go_ret3
       exact ⟨by rw [HV.out]; rfl, rfl⟩
     ·rw [if_neg h0] at hv
      have HV := Lib.hid (getZ_got hv)
      clear hv
      have key0 : ((q : Int) == 0) = false ∨ (((q : Int) == 0) = true ∧ decide (0 < k) = false) := by
       by_cases e0 : q = 0
       ·right; exact ⟨by simp; omega, by simp; omega⟩
       ·left; simp; omega
      clear h0
      rcases key with ⟨t9, t1, _⟩ | t9 <;> rcases key0 with z0 | ⟨z0, z1⟩
      all_goals
       go_wp2_with (go_at_call 91; rw [HE.out]; ((with_reducible refine (unfold_any _ H64.out _).mono ?_); rintro e w' ⟨rfl, rfl⟩))
       go_ret3
       exact ⟨by rw [HV.out]; rfl, rfl⟩
  ·have hv2 : vget 0 0 l = .more := by rw [hv, List.drop_eq_nil_of_le (by omega)]; rfl
   have HV := Lib.hid (getZ_more hv2)
   clear hv hv2 hu
   go_wp2_with fail
   go_ret3
   exact ⟨by rw [HV.out]; rfl, rfl⟩
theorem getT_err {l : List UInt8} {n : Int} {k e : Nat} (h : getZ l = (n, k, e)) (he : e ≠ 0) : getT l = ([], 0, e) := by
 unfold getT; rw [h]
 cases e with
 | zero => exact absurd rfl he
 | succ e => rfl
theorem getT_form {l : List UInt8} {n : Int} {k : Nat} (h : getZ l = (n, k, 0)) (hn : n < 0 ∨ 65536 < n) : getT l = ([], 0, 1) := by
 unfold getT; rw [h]; simp only [if_pos hn]
theorem getT_more {l : List UInt8} {n : Int} {k : Nat} (h : getZ l = (n, k, 0)) (hn : ¬ (n < 0 ∨ 65536 < n)) (hl : (l.length : Int) < k + n) : getT l = ([], 0, 2) := by
 unfold getT; rw [h]; simp only [if_neg hn, if_pos hl]
theorem getT_got {l : List UInt8} {n : Int} {k : Nat} (h : getZ l = (n, k, 0)) (hn : ¬ (n < 0 ∨ 65536 < n)) (hl : ¬ (l.length : Int) < k + n) : getT l = ((l.drop k).take n.toNat, k + n.toNat, 0) := by
 unfold getT; rw [h]; simp only [if_neg hn, if_neg hl]
theorem get_is (A : Option Addr) (c : Nat) (F : Nat → Prop) (l : List UInt8) (w : World) (h : Row w A F (bcells l)) (hl : l.length ≤ 1099511627776) (n : Int) (k e : Nat) (hg : getZ l = (n, k, e)) :
  Calls Tryz.prog 58 #[.slice A l.length c] w fun e' w' => e' = .returned (.tuple #[.int .i64 n, .int .i64 (k : Nat), .int .i64 (e : Nat)]) ∧ w = w' := by
 have := get_any A c F l w h hl
 rw [hg] at this
 exact this
set_option maxRecDepth 100000 in
set_option maxHeartbeats 1000000 in
theorem get_text (A : Option Addr) (c : Nat) (F : Nat → Prop) (l : List UInt8) (w : World) (h : Row w A F (bcells l)) (hl : l.length ≤ 1099511627776) (hc : l.length ≤ c) (hcm : c ≤ maxLen) :
  Calls Tryz.prog 136 #[.slice A l.length c] w fun e w' => e = .returned (.tuple #[.string (txt (getT l).1), .int .i64 ((getT l).2.1 : Nat), .int .i64 ((getT l).2.2 : Nat)]) ∧ w = w' := by
 unfold maxLen at hcm
 have HA := Lib.hid h
 clear h
 have bad : ∀ e : Nat, e ≠ 0 → ∀ n k, getZ l = (n, k, e) → Calls Tryz.prog 136 #[.slice A l.length c] w fun e w' => e = .returned (.tuple #[.string (txt (getT l).1), .int .i64 ((getT l).2.1 : Nat), .int .i64 ((getT l).2.2 : Nat)]) ∧ w = w' := by
  intro e he n k hg
  have HV := Lib.hid (getT_err hg he)
  have HG := Lib.hid hg
  have t0 : ((e : Int) != 0) = true := by simp; omega
  clear hg he
  go_enter Tryz.func136, Tryz.ntmps136
  go_wp2_with (go_at_call 58; ((with_reducible refine (get_is _ _ _ l _ HA.out hl _ _ _ HG.out).mono ?_); rintro e w' ⟨rfl, rfl⟩))
  go_ret3
  exact ⟨by rw [HV.out]; rfl, rfl⟩
 rcases getZ_cases l with ⟨n, k, hg, hk0, hk10, hkl, hn1, hn2⟩ | hg | hg
 ·obtain ⟨b, o, rfl, _, _⟩ := HA.out.at_ (k := 0) (by rw [bcells_len]; omega)
  have HG := Lib.hid hg
  by_cases hneg : n < 0
  ·have HV := Lib.hid (getT_form hg (.inl hneg))
   clear hg bad
   go_enter Tryz.func136, Tryz.ntmps136
   go_wp2_with (go_at_call 58; ((with_reducible refine (get_is _ _ _ l _ HA.out hl _ _ _ HG.out).mono ?_); rintro e w' ⟨rfl, rfl⟩))
   go_ret3
   exact ⟨by rw [HV.out]; rfl, rfl⟩
  ·have tneg : decide (n < 0) = false := by simp; omega
   by_cases hbig : 65536 < n
   ·have HV := Lib.hid (getT_form hg (.inr hbig))
    clear hg bad
    go_enter Tryz.func136, Tryz.ntmps136
    go_wp2_with (go_at_call 58; ((with_reducible refine (get_is _ _ _ l _ HA.out hl _ _ _ HG.out).mono ?_); rintro e w' ⟨rfl, rfl⟩))
    go_ret3
    exact ⟨by rw [HV.out]; rfl, rfl⟩
   ·have tbig : decide (65536 < n) = false := by simp; omega
    have hn3 : ¬ (n < 0 ∨ 65536 < n) := by omega
    by_cases hmore : (l.length : Int) < k + n
    ·have HV := Lib.hid (getT_more hg hn3 hmore)
     clear hg bad hn3
     go_enter Tryz.func136, Tryz.ntmps136
     go_wp2_with (go_at_call 58; ((with_reducible refine (get_is _ _ _ l _ HA.out hl _ _ _ HG.out).mono ?_); rintro e w' ⟨rfl, rfl⟩))
     go_ret3
     exact ⟨by rw [HV.out]; rfl, rfl⟩
    ·have HV := Lib.hid (getT_got hg hn3 hmore)
     obtain ⟨m, rfl⟩ := Int.eq_ofNat_of_zero_le (show 0 ≤ n by omega)
     have hmz : k + m ≤ l.length := by omega
     clear hg bad hn3 hmore hn1 hn2
     by_cases hck : c = k
     ·subst hck
      obtain rfl : m = 0 := by omega
      have hr0 : Row w (some ⟨b, o, none⟩) F (bcells []) := Row.nil _ _ _
      have hcv := hr0.to_string (P := Tryz.prog) Tryz.underlying71 Tryz.underlying5 Tryz.underlying9 0 0 rfl
      clear hr0
      go_enter Tryz.func136, Tryz.ntmps136
      go_wp2_with (go_at_call 58; ((with_reducible refine (get_is _ _ _ l _ HA.out hl _ _ _ HG.out).mono ?_); rintro e w' ⟨rfl, rfl⟩))
      go_ret3
      exact ⟨by rw [HV.out]; rfl, rfl⟩
     ·have hr := (HA.out.cut (k := k) (cap := c) (by rw [bcells_len]; omega) (by rw [bcells_len]; exact hc)).take (k := m)
      rw [if_neg hck, bcells, ← List.map_drop, ← List.map_take] at hr
      have hcv := Row.to_string (P := Tryz.prog) hr Tryz.underlying71 Tryz.underlying5 Tryz.underlying9 m (c - k) (by rw [List.length_take, List.length_drop]; omega)
      simp only [Option.map_some, WideShapes.add_plain] at hcv
      generalize hT : txt (List.take m (List.drop k l)) = T at hcv
      have HT := Lib.hid hT
      clear hr hT
      go_enter Tryz.func136, Tryz.ntmps136
      go_wp2_with (go_at_call 58; ((with_reducible refine (get_is _ _ _ l _ HA.out hl _ _ _ HG.out).mono ?_); rintro e w' ⟨rfl, rfl⟩))
      go_ret3
      exact ⟨by rw [HV.out, ← HT.out]; rfl, rfl⟩
 ·exact bad 1 (by decide) 0 0 hg
 ·exact bad 2 (by decide) 0 0 hg
end Go.Proofs.YtemkjodkmehffaaGreatDoor
