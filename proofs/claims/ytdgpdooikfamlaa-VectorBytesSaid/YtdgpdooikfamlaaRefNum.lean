/-
  THE CONTRACTS OF THE REFERENCE OF LAYER 2: Put, PutText.
-/
import Derived.Test.YtdgpdooikfamlaaNum
import Derived.WalkSpells
namespace Go.Proofs.Ytdgpdooikfamlaa
open Go Go.RowKit

theorem u64_compl (x : Nat) (h : x < 18446744073709551616) : bits .xor .u64 18446744073709551615 (x : Int) = ((18446744073709551615 - x : Nat) : Int) := by
  have e := u64_xor_nat 18446744073709551615 x (by decide) h
  have e2 : (18446744073709551615 : Nat) ^^^ x = 18446744073709551615 - x := by
    apply Nat.eq_of_testBit_eq
    intro i
    rw [show (18446744073709551615 - x : Nat) = 2 ^ 64 - (x + 1) by omega, Nat.testBit_two_pow_sub_succ (by omega), Nat.testBit_xor,
      show (18446744073709551615 : Nat) = 2 ^ 64 - 1 from by decide, Nat.testBit_two_pow_sub_one]
    by_cases hi : i < 64
    · simp [hi]
    · have := Nat.testBit_lt_two_pow (Nat.lt_of_lt_of_le (show x < 2 ^ 64 from h) (Nat.pow_le_pow_right (by decide) (show 64 ≤ i by omega)))
      simp [hi, this]
  rw [← e2, ← e]; rfl

set_option maxHeartbeats 1000000 in
theorem rput_any (n : Int) (h1 : -9223372036854775808 ≤ n) (h2 : n < 9223372036854775808) (w : World) :
    Calls Try.prog 16 #[.int .i64 n] w fun e w' => ∃ v', e = .returned v' ∧ OwnB w' w.heap.size v' (putZ n) ∧ Keeps (fun _ => True) w w' := by
  have hz := zig_lt n h1 h2
  have hp := putZ_len n h1 h2
  have Hfin := Lib.hid (show ∀ v' w', OwnB w' w.heap.size v' (vin (zig n)) → Keeps (fun _ => True) w w' → ∃ v, Ending.returned v' = .returned v ∧ OwnB w' w.heap.size v (putZ n) ∧ Keeps (fun _ => True) w w' from
    fun v' w' ho hk => ⟨v', rfl, ho, hk⟩)
  unfold putZ at hp
  by_cases hn : n < 0
  · have tn : decide (n < 0) = true := by simpa using hn
    have E : bits .xor .u64 IntKind.u64.max (IntKind.u64.wrap (IntKind.u64.wrap n * 2)) = ((zig n : Nat) : Int) := by
      have e1 : IntKind.u64.wrap (IntKind.u64.wrap n * 2) = (((18446744073709551616 + 2 * n).toNat : Nat) : Int) := by
        simp only [IntKind.wrap_u64]; omega
      have em : IntKind.u64.max = 18446744073709551615 := by decide
      rw [em, e1, u64_compl _ (by omega)]
      unfold zig; rw [if_pos hn]; omega
    have H := Lib.hid E
    clear E
    go_enter Try.func16, Try.ntmps16
    go_wp2
    generalize zig n = z at hz hp H Hfin
    go_loopw [3, 4] (fun f u wr => ∃ (m : Nat) (p : List UInt8), m < 18446744073709551616 ∧ p ++ vin m = vin z ∧ f = .int .u64 (m : Nat) ∧ OwnB wr w.heap.size u p ∧ Onto w (.slice none 0 0) wr u) (fun f _ _ => (intOf f).toNat)
    case atStart => exact ⟨z, [], hz, rfl, by rw [H.out], World.ownsRow_nil _ _ _ _, Onto.refl _ _⟩
    case round =>
      obtain ⟨m, p, hm, hpz, rfl, ho, hto⟩ := hrel
      have hpl : p.length ≤ 10 := by
        have : (p ++ vin m).length = (vin z).length := by rw [hpz]
        rw [List.length_append] at this; omega
      have hws := hto.1.size
      have Hm := Lib.hid hm
      have Hz := Lib.hid hpz
      have Ho := Lib.hid ho
      have Ht := Lib.hid hto
      clear hm hpz ho hto hz hp h1 h2
      by_cases hs : m < 128
      · have ht : decide ((128 : Int) ≤ (m : Int)) = false := by simp; omega
        have E : bcells p ++ [Value.int .u8 (m : Int)] = bcells (p ++ vin m) := by
          rw [bcells_append p, vin_small m hs]
          simp only [bcells, bcell, List.map_cons, List.map_nil]
          rw [UInt8.toNat_ofNat', Nat.mod_eq_of_lt (by omega)]
        have HE := Lib.hid E
        clear E
        go_wp2_with (at_builtin; refine byte_elem.list_append rfl (.tmp 23) (.tmp 26) _ rfl rfl (Ho.out.alloc _) rfl (src_one Try.underlying33 _ _ _ ?c1 _ ?c2 _) ?c3 ?c4 ?c5 ?_)
        case c1 => rfl
        case c2 => rfl
        case c3 => unfold maxLen; omega
        case c4 => omega
        case c5 => simp; omega
        intro v' w1 hown' hg hb
        rw [HE.out] at hown'
        have hto' : Onto w (.slice none 0 0) w1 v' := (Ht.out.alloc _).grown hg (by simpa using hb)
        have hown2 : OwnB w1 w.heap.size v' (vin z) := by
          rw [← Hz.out]
          unfold OwnB
          have el : (p ++ vin m).length = p.length + 1 := by simp [vin_small m hs]
          rw [el]; exact hown'
        have hk' : Keeps (fun _ => True) w w1 := hto'.keeps (Keeps.refl _ _) (by simp [Value.ownBlock])
        have H1 := Lib.hid hk'
        have H2 := Lib.hid hown2
        clear hto' hk' hown2 hown' hg hb HE
        go_wp2
        go_ret
        exact Hfin.out _ _ H2.out H1.out
      · have ht : decide ((128 : Int) ≤ (m : Int)) = true := by simp; omega
        have E : bcells p ++ [Value.int .u8 ((m : Int) % 128 + 128)] = bcells (p ++ [UInt8.ofNat (m % 128 + 128)]) := by
          rw [bcells_append p]
          simp only [bcells, bcell, List.map_cons, List.map_nil]
          rw [UInt8.toNat_ofNat', Nat.mod_eq_of_lt (by omega)]; rfl
        have HE := Lib.hid E
        have HW := Lib.hid (show IntKind.u64.wrap ((m : Int) / 128) = ((m / 128 : Nat) : Int) by have := Hm.out; rw [IntKind.wrap_u64]; omega)
        clear E
        go_wp2_with (at_builtin; refine byte_elem.list_append rfl (.tmp 14) (.tmp 19) _ rfl rfl (Ho.out.alloc _) rfl (src_one Try.underlying33 _ _ _ ?c1 _ ?c2 _) ?c3 ?c4 ?c5 ?_)
        case c1 => rfl
        case c2 => rfl
        case c3 => unfold maxLen; omega
        case c4 => omega
        case c5 => simp; omega
        intro v' w1 hown' hg hb
        rw [HE.out] at hown'
        have hto' : Onto w (.slice none 0 0) w1 v' := (Ht.out.alloc _).grown hg (by simpa using hb)
        have hown2 : OwnB w1 w.heap.size v' (p ++ [UInt8.ofNat (m % 128 + 128)]) := by
          unfold OwnB
          have el : (p ++ [UInt8.ofNat (m % 128 + 128)]).length = p.length + 1 := by simp
          rw [el]; exact hown'
        have H1 := Lib.hid hto'
        have H2 := Lib.hid hown2
        clear hto' hown2 hown' hg hb HE
        go_wp2
        go_roundw
        case rel =>
          refine ⟨m / 128, _, ?_, ?_, ?_, H2.out, H1.out⟩
          · have := Hm.out; omega
          · rw [List.append_assoc, List.singleton_append, ← vin_big m hs]; exact Hz.out
          · rw [HW.out]
        case measure => rw [HW.out]; simp [intOf]; omega
  · have tn : decide (n < 0) = false := by simpa using hn
    have h0 : 0 ≤ n := by omega
    have E : n * 2 = ((zig n : Nat) : Int) := by unfold zig; rw [if_neg hn]; omega
    have H := Lib.hid E
    clear E
    go_enter Try.func16, Try.ntmps16
    go_wp2
    generalize zig n = z at hz hp H Hfin
    go_loopw [3, 4] (fun f u wr => ∃ (m : Nat) (p : List UInt8), m < 18446744073709551616 ∧ p ++ vin m = vin z ∧ f = .int .u64 (m : Nat) ∧ OwnB wr w.heap.size u p ∧ Onto w (.slice none 0 0) wr u) (fun f _ _ => (intOf f).toNat)
    case atStart => exact ⟨z, [], hz, rfl, by rw [H.out], World.ownsRow_nil _ _ _ _, Onto.refl _ _⟩
    case round =>
      obtain ⟨m, p, hm, hpz, rfl, ho, hto⟩ := hrel
      have hpl : p.length ≤ 10 := by
        have : (p ++ vin m).length = (vin z).length := by rw [hpz]
        rw [List.length_append] at this; omega
      have hws := hto.1.size
      have Hm := Lib.hid hm
      have Hz := Lib.hid hpz
      have Ho := Lib.hid ho
      have Ht := Lib.hid hto
      clear hm hpz ho hto hz hp h1 h2
      by_cases hs : m < 128
      · have ht : decide ((128 : Int) ≤ (m : Int)) = false := by simp; omega
        have E : bcells p ++ [Value.int .u8 (m : Int)] = bcells (p ++ vin m) := by
          rw [bcells_append p, vin_small m hs]
          simp only [bcells, bcell, List.map_cons, List.map_nil]
          rw [UInt8.toNat_ofNat', Nat.mod_eq_of_lt (by omega)]
        have HE := Lib.hid E
        clear E
        go_wp2_with (at_builtin; refine byte_elem.list_append rfl (.tmp 23) (.tmp 26) _ rfl rfl (Ho.out.alloc _) rfl (src_one Try.underlying33 _ _ _ ?c1 _ ?c2 _) ?c3 ?c4 ?c5 ?_)
        case c1 => rfl
        case c2 => rfl
        case c3 => unfold maxLen; omega
        case c4 => omega
        case c5 => simp; omega
        intro v' w1 hown' hg hb
        rw [HE.out] at hown'
        have hto' : Onto w (.slice none 0 0) w1 v' := (Ht.out.alloc _).grown hg (by simpa using hb)
        have hown2 : OwnB w1 w.heap.size v' (vin z) := by
          rw [← Hz.out]
          unfold OwnB
          have el : (p ++ vin m).length = p.length + 1 := by simp [vin_small m hs]
          rw [el]; exact hown'
        have hk' : Keeps (fun _ => True) w w1 := hto'.keeps (Keeps.refl _ _) (by simp [Value.ownBlock])
        have H1 := Lib.hid hk'
        have H2 := Lib.hid hown2
        clear hto' hk' hown2 hown' hg hb HE
        go_wp2
        go_ret
        exact Hfin.out _ _ H2.out H1.out
      · have ht : decide ((128 : Int) ≤ (m : Int)) = true := by simp; omega
        have E : bcells p ++ [Value.int .u8 ((m : Int) % 128 + 128)] = bcells (p ++ [UInt8.ofNat (m % 128 + 128)]) := by
          rw [bcells_append p]
          simp only [bcells, bcell, List.map_cons, List.map_nil]
          rw [UInt8.toNat_ofNat', Nat.mod_eq_of_lt (by omega)]; rfl
        have HE := Lib.hid E
        have HW := Lib.hid (show IntKind.u64.wrap ((m : Int) / 128) = ((m / 128 : Nat) : Int) by have := Hm.out; rw [IntKind.wrap_u64]; omega)
        clear E
        go_wp2_with (at_builtin; refine byte_elem.list_append rfl (.tmp 14) (.tmp 19) _ rfl rfl (Ho.out.alloc _) rfl (src_one Try.underlying33 _ _ _ ?c1 _ ?c2 _) ?c3 ?c4 ?c5 ?_)
        case c1 => rfl
        case c2 => rfl
        case c3 => unfold maxLen; omega
        case c4 => omega
        case c5 => simp; omega
        intro v' w1 hown' hg hb
        rw [HE.out] at hown'
        have hto' : Onto w (.slice none 0 0) w1 v' := (Ht.out.alloc _).grown hg (by simpa using hb)
        have hown2 : OwnB w1 w.heap.size v' (p ++ [UInt8.ofNat (m % 128 + 128)]) := by
          unfold OwnB
          have el : (p ++ [UInt8.ofNat (m % 128 + 128)]).length = p.length + 1 := by simp
          rw [el]; exact hown'
        have H1 := Lib.hid hto'
        have H2 := Lib.hid hown2
        clear hto' hown2 hown' hg hb HE
        go_wp2
        go_roundw
        case rel =>
          refine ⟨m / 128, _, ?_, ?_, ?_, H2.out, H1.out⟩
          · have := Hm.out; omega
          · rw [List.append_assoc, List.singleton_append, ← vin_big m hs]; exact Hz.out
          · rw [HW.out]
        case measure => rw [HW.out]; simp [intOf]; omega


end Go.Proofs.Ytdgpdooikfamlaa
