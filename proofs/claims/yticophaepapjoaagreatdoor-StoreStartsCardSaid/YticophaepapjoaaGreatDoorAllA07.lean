/-
  Num: texts of mine, joined.
-/
import Derived.Test.YticophaepapjoaaGreatDoorAllA03
import Derived.Test.YticophaepapjoaaGreatDoorWords
import Derived.Test.YticophaepapjoaaGreatDoorAllA00
import Derived.Test.YticophaepapjoaaGreatDoorProg
import Derived.WalkKit
import Derived.Lib.Hide
namespace Go.Proofs.YticophaepapjoaaGreatDoor
open Go Go.RowKit
theorem ret_int {k : IntKind} {a b : Int} (h : a = b) : Ending.returned (.int k a) = .returned (.int k b) := by rw [h]
theorem i64_compl (n : Int) (h1 : -9223372036854775808 ≤ n) (h2 : n < 9223372036854775808) : bits .xor .i64 (-1) n = -n - 1 := by
 show IntKind.i64.wrap ((BitVec.ofInt 64 (-1) ^^^ BitVec.ofInt 64 n).toNat : Int) = _
 have e1 : BitVec.ofInt 64 (-1) = BitVec.allOnes 64 := by decide
 rw [e1, BitVec.allOnes_xor, BitVec.toNat_not, BitVec.toNat_ofInt, IntKind.wrap_i64]
 omega
theorem fold_any (n : Int) (h1 : -9223372036854775808 ≤ n) (h2 : n < 9223372036854775808) (w : World) :
  Calls Tryz.prog 143 #[.int .i64 n] w fun e w' => e = .returned (.int .u64 (zig n : Nat)) ∧ w = w' := by
 by_cases hn : n < 0
 ·have E : IntKind.u64.wrap (IntKind.u64.wrap (IntKind.u64.wrap (bits .xor .i64 (-1) n) * 2) + 1) = ((zig n : Nat) : Int) := by
   rw [i64_compl n h1 h2]
   simp only [IntKind.wrap_u64, zig, if_pos hn]
   omega
  have H := Lib.hid E
  clear E
  go_enter Tryz.func143, Tryz.ntmps143
  go_wp2
  go_ret
  exact ⟨ret_int H.out, rfl⟩
 ·have E : n * 2 = ((zig n : Nat) : Int) := by unfold zig; rw [if_neg hn]; omega
  have H := Lib.hid E
  clear E
  have h0 : 0 ≤ n := by omega
  go_enter Tryz.func143, Tryz.ntmps143
  go_wp2
  go_ret
  exact ⟨ret_int H.out, rfl⟩
theorem unfold_any (u : Nat) (h : u < 18446744073709551616) (w : World) :
  Calls Tryz.prog 165 #[.int .u64 u] w fun e w' => e = .returned (.int .i64 (zag u)) ∧ w = w' := by
 by_cases h1 : u % 2 = 1
 ·have E : bits .xor .i64 (-1) ((u : Int) / 2) = zag u := by
   rw [i64_compl _ (by omega) (by omega)]
   unfold zag; rw [if_pos h1]; omega
  have H := Lib.hid E
  have ht : ((u : Int) % 2 == 1) = true := by simp; omega
  clear E h1
  go_enter Tryz.func165, Tryz.ntmps165
  go_wp2
  go_ret
  exact ⟨ret_int H.out, rfl⟩
 ·have E : ((u : Int) / 2) = zag u := by unfold zag; rw [if_neg h1]; omega
  have H := Lib.hid E
  have ht : ((u : Int) % 2 == 1) = false := by simp; omega
  clear E h1
  go_enter Tryz.func165, Tryz.ntmps165
  go_wp2
  go_ret
  exact ⟨ret_int H.out, rfl⟩
set_option maxHeartbeats 400000 in
theorem put_number (n : Int) (h1 : -9223372036854775808 ≤ n) (h2 : n < 9223372036854775808) (v : Value) (l : List UInt8) (base : Nat) (w : World) (hown : OwnB w base v l) (hbase : base ≤ w.heap.size)
  (hl : l.length ≤ 1099511627776) :
  Calls Tryz.prog 112 #[v, .int .i64 n] w fun e w' => ∃ v', e = .returned v' ∧ OwnB w' base v' (l ++ putZ n) ∧ Onto w v w' v' := by
 have hz := zig_lt n h1 h2
 have hp := putZ_len n h1 h2
 unfold putZ at hp ⊢
 go_enter Tryz.func112, Tryz.ntmps112
 go_wp2_with (go_at_call 143; ((with_reducible refine (fold_any n h1 h2 _).mono ?_); rintro e w' ⟨rfl, rfl⟩))
 generalize hzz : zig n = z at hz hp
 have HZ := Lib.hid hzz
 clear hzz
 go_loopw [0, 5] (fun u f wr => ∃ (m : Nat) (p : List UInt8), m < 18446744073709551616 ∧ p ++ vin m = vin z ∧ f = .int .u64 (m : Nat) ∧ OwnB wr base u (l ++ p) ∧ Onto w v wr u) (fun _ f _ => (intOf f).toNat)
 case atStart => exact ⟨z, [], hz, rfl, rfl, by simpa using hown, Onto.refl _ _⟩
 case round =>
  obtain ⟨m, p, hm, hpz, rfl, ho, hto⟩ := hrel
  have hpl : p.length ≤ 10 := by
   have : (p ++ vin m).length = (vin z).length := by rw [hpz]
   rw [List.length_append] at this; omega
  have hws := hto.1.size
  have Hm := Lib.hid hm
  have Hz := Lib.hid hpz
  have Ho := Lib.hid ho
  have Ht := Lib.hid hto
  clear hm hpz ho hto hown hz hp h1 h2
  by_cases hs : m < 128
  ·have ht : decide ((128 : Int) ≤ (m : Int)) = false := by simp; omega
   have E : bcells (l ++ p) ++ [Value.int .u8 (m : Int)] = bcells ((l ++ p) ++ vin m) := by
    rw [bcells_append (l ++ p), vin_small m hs]
    simp only [bcells, bcell, List.map_cons, List.map_nil]
    rw [UInt8.toNat_ofNat', Nat.mod_eq_of_lt (by omega)]
   have HE := Lib.hid E
   clear E
   go_wp2_with (at_builtin; refine byte_elem.list_append rfl (.tmp 19) (.tmp 22) _ rfl rfl (Ho.out.alloc _) rfl (src_one Tryz.underlying64 _ _ _ ?c1 _ ?c2 _) ?c3 ?c4 ?c5 ?_)
   case c1 => rfl
   case c2 => rfl
   case c3 => unfold maxLen; simp; omega
   case c4 => simp; omega
   case c5 => simp; omega
   intro v' w1 hown' hg hb
   rw [HE.out] at hown'
   have hto' : Onto w v w1 v' := (Ht.out.alloc _).grown hg (by simpa using hb)
   have hown2 : OwnB w1 base v' (l ++ vin z) := by
    rw [← Hz.out, ← List.append_assoc]
    unfold OwnB
    have el : ((l ++ p) ++ vin m).length = l.length + p.length + 1 := by simp [vin_small m hs]; omega
    rw [el]; exact hown'
   have H1 := Lib.hid hto'
   have H2 := Lib.hid hown2
   clear hto' hown2 hown' hg hb HE
   go_wp2
   go_ret
   exact ⟨_, rfl, by rw [HZ.out]; exact H2.out, H1.out⟩
  ·have ht : decide ((128 : Int) ≤ (m : Int)) = true := by simp; omega
   have E : bcells (l ++ p) ++ [Value.int .u8 ((m : Int) % 128 + 128)] = bcells (l ++ (p ++ [UInt8.ofNat (m % 128 + 128)])) := by
    rw [← List.append_assoc, bcells_append (l ++ p)]
    simp only [bcells, bcell, List.map_cons, List.map_nil]
    rw [UInt8.toNat_ofNat', Nat.mod_eq_of_lt (by omega)]; rfl
   have HE := Lib.hid E
   clear E
   go_wp2_with (at_builtin; refine byte_elem.list_append rfl (.tmp 10) (.tmp 15) _ rfl rfl (Ho.out.alloc _) rfl (src_one Tryz.underlying64 _ _ _ ?c1 _ ?c2 _) ?c3 ?c4 ?c5 ?_)
   case c1 => rfl
   case c2 => rfl
   case c3 => unfold maxLen; simp; omega
   case c4 => simp; omega
   case c5 => simp; omega
   intro v' w1 hown' hg hb
   rw [HE.out] at hown'
   have hto' : Onto w v w1 v' := (Ht.out.alloc _).grown hg (by simpa using hb)
   have hown2 : OwnB w1 base v' (l ++ (p ++ [UInt8.ofNat (m % 128 + 128)])) := by
    unfold OwnB
    have el : (l ++ (p ++ [UInt8.ofNat (m % 128 + 128)])).length = l.length + p.length + 1 := by simp; omega
    rw [el]; exact hown'
   have H1 := Lib.hid hto'
   have H2 := Lib.hid hown2
   clear hto' hown2 hown' hg hb HE
   go_wp2
   go_roundw
   case rel =>
    refine ⟨m / 128, _, ?_, ?_, ?_, H2.out, H1.out⟩
    ·have := Hm.out; omega
    ·rw [List.append_assoc, List.singleton_append, ← vin_big m hs]; exact Hz.out
    ·rfl
   case measure => simp [intOf]; omega
end Go.Proofs.YticophaepapjoaaGreatDoor
