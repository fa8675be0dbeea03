/-
  Num, DevLay: texts of mine, joined.
-/
import Derived.Test.YtemkjodkmehffaaGreatDoorAllA04
import Derived.Test.YtemkjodkmehffaaGreatDoorWords
import Derived.Test.YtemkjodkmehffaaGreatDoorAllA00
import Derived.Test.YtemkjodkmehffaaGreatDoorProg
import Derived.WalkKit
import Derived.Lib.Hide
import Derived.Shelf.SlIterI.Nil
import Derived.Shelf.SortM.Plain
import Derived.Shelf.SortM.SortNone
import Derived.Ground.GgzProg
import Derived.Ground.SlgmProg
namespace Go.Proofs.YtemkjodkmehffaaGreatDoor
open Go Go.RowKit
theorem ret_int {k : IntKind} {a b : Int} (h : a = b) : Ending.returned (.int k a) = .returned (.int k b) := by rw [h]
theorem i64_compl (n : Int) (h1 : -9223372036854775808 ≤ n) (h2 : n < 9223372036854775808) : bits .xor .i64 (-1) n = -n - 1 := by
 show IntKind.i64.wrap ((BitVec.ofInt 64 (-1) ^^^ BitVec.ofInt 64 n).toNat : Int) = _
 have e1 : BitVec.ofInt 64 (-1) = BitVec.allOnes 64 := by decide
 rw [e1, BitVec.allOnes_xor, BitVec.toNat_not, BitVec.toNat_ofInt, IntKind.wrap_i64]
 omega
theorem fold_any (n : Int) (h1 : -9223372036854775808 ≤ n) (h2 : n < 9223372036854775808) (w : World) :
  Calls Tryz.prog 115 #[.int .i64 n] w fun e w' => e = .returned (.int .u64 (zig n : Nat)) ∧ w = w' := by
 by_cases hn : n < 0
 ·have E : IntKind.u64.wrap (IntKind.u64.wrap (IntKind.u64.wrap (bits .xor .i64 (-1) n) * 2) + 1) = ((zig n : Nat) : Int) := by
   rw [i64_compl n h1 h2]
   simp only [IntKind.wrap_u64, zig, if_pos hn]
   omega
  have H := Lib.hid E
  clear E
  go_enter Tryz.func115, Tryz.ntmps115
  go_wp2
  go_ret
  exact ⟨ret_int H.out, rfl⟩
 ·have E : n * 2 = ((zig n : Nat) : Int) := by unfold zig; rw [if_neg hn]; omega
  have H := Lib.hid E
  clear E
  have h0 : 0 ≤ n := by omega
  go_enter Tryz.func115, Tryz.ntmps115
  go_wp2
  go_ret
  exact ⟨ret_int H.out, rfl⟩
theorem unfold_any (u : Nat) (h : u < 18446744073709551616) (w : World) :
  Calls Tryz.prog 91 #[.int .u64 u] w fun e w' => e = .returned (.int .i64 (zag u)) ∧ w = w' := by
 by_cases h1 : u % 2 = 1
 ·have E : bits .xor .i64 (-1) ((u : Int) / 2) = zag u := by
   rw [i64_compl _ (by omega) (by omega)]
   unfold zag; rw [if_pos h1]; omega
  have H := Lib.hid E
  have ht : ((u : Int) % 2 == 1) = true := by simp; omega
  clear E h1
  go_enter Tryz.func91, Tryz.ntmps91
  go_wp2
  go_ret
  exact ⟨ret_int H.out, rfl⟩
 ·have E : ((u : Int) / 2) = zag u := by unfold zag; rw [if_neg h1]; omega
  have H := Lib.hid E
  have ht : ((u : Int) % 2 == 1) = false := by simp; omega
  clear E h1
  go_enter Tryz.func91, Tryz.ntmps91
  go_wp2
  go_ret
  exact ⟨ret_int H.out, rfl⟩
set_option maxHeartbeats 400000 in
theorem put_number (n : Int) (h1 : -9223372036854775808 ≤ n) (h2 : n < 9223372036854775808) (v : Value) (l : List UInt8) (base : Nat) (w : World) (hown : OwnB w base v l) (hbase : base ≤ w.heap.size)
  (hl : l.length ≤ 1099511627776) :
  Calls Tryz.prog 88 #[v, .int .i64 n] w fun e w' => ∃ v', e = .returned v' ∧ OwnB w' base v' (l ++ putZ n) ∧ Onto w v w' v' := by
 have hz := zig_lt n h1 h2
 have hp := putZ_len n h1 h2
 unfold putZ at hp ⊢
 go_enter Tryz.func88, Tryz.ntmps88
 go_wp2_with (go_at_call 115; ((with_reducible refine (fold_any n h1 h2 _).mono ?_); rintro e w' ⟨rfl, rfl⟩))
 generalize hzz : zig n = z at hz hp
 have HZ := Lib.hid hzz
 clear hzz
 go_loopw [0, 5] (fun u f wr => ∃ (m : Nat) (p : List UInt8), m < 18446744073709551616 ∧ p ++ vin m = vin z ∧ f = .int .u64 (m : Nat) ∧ OwnB wr base u (l ++ p) ∧ Onto w v wr u) (fun _ f _ => (intOf f).toNat)
 case atStart => exact ⟨z, [], hz, rfl, rfl, by simpa using hown, Onto.refl _ _⟩
 case round =>
  obtain ⟨m, p, hm, hpz, rfl, ho, hto⟩ := hrel
  have hpl : p.length ≤ 10 := by
   have : (p ++ vin m).length = (vin z).length := by rw [hpz]
   rw [List.length_append] at this; omega
  have hws := hto.1.size
  have Hm := Lib.hid hm
  have Hz := Lib.hid hpz
  have Ho := Lib.hid ho
  have Ht := Lib.hid hto
  clear hm hpz ho hto hown hz hp h1 h2
  by_cases hs : m < 128
  ·have ht : decide ((128 : Int) ≤ (m : Int)) = false := by simp; omega
   have E : bcells (l ++ p) ++ [Value.int .u8 (m : Int)] = bcells ((l ++ p) ++ vin m) := by
    rw [bcells_append (l ++ p), vin_small m hs]
    simp only [bcells, bcell, List.map_cons, List.map_nil]
    rw [UInt8.toNat_ofNat', Nat.mod_eq_of_lt (by omega)]
   have HE := Lib.hid E
   clear E
   go_wp2_with (at_builtin; refine byte_elem.list_append rfl (.tmp 19) (.tmp 22) _ rfl rfl (Ho.out.alloc _) rfl (src_one Tryz.underlying71 _ _ _ ?c1 _ ?c2 _) ?c3 ?c4 ?c5 ?_)
   case c1 => rfl
   case c2 => rfl
   case c3 => unfold maxLen; simp; omega
   case c4 => simp; omega
   case c5 => simp; omega
   intro v' w1 hown' hg hb
   rw [HE.out] at hown'
   have hto' : Onto w v w1 v' := (Ht.out.alloc _).grown hg (by simpa using hb)
   have hown2 : OwnB w1 base v' (l ++ vin z) := by
    rw [← Hz.out, ← List.append_assoc]
    unfold OwnB
    have el : ((l ++ p) ++ vin m).length = l.length + p.length + 1 := by simp [vin_small m hs]; omega
    rw [el]; exact hown'
   have H1 := Lib.hid hto'
   have H2 := Lib.hid hown2
   clear hto' hown2 hown' hg hb HE
   go_wp2
   go_ret
   exact ⟨_, rfl, by rw [HZ.out]; exact H2.out, H1.out⟩
  ·have ht : decide ((128 : Int) ≤ (m : Int)) = true := by simp; omega
   have E : bcells (l ++ p) ++ [Value.int .u8 ((m : Int) % 128 + 128)] = bcells (l ++ (p ++ [UInt8.ofNat (m % 128 + 128)])) := by
    rw [← List.append_assoc, bcells_append (l ++ p)]
    simp only [bcells, bcell, List.map_cons, List.map_nil]
    rw [UInt8.toNat_ofNat', Nat.mod_eq_of_lt (by omega)]; rfl
   have HE := Lib.hid E
   clear E
   go_wp2_with (at_builtin; refine byte_elem.list_append rfl (.tmp 10) (.tmp 15) _ rfl rfl (Ho.out.alloc _) rfl (src_one Tryz.underlying71 _ _ _ ?c1 _ ?c2 _) ?c3 ?c4 ?c5 ?_)
   case c1 => rfl
   case c2 => rfl
   case c3 => unfold maxLen; simp; omega
   case c4 => simp; omega
   case c5 => simp; omega
   intro v' w1 hown' hg hb
   rw [HE.out] at hown'
   have hto' : Onto w v w1 v' := (Ht.out.alloc _).grown hg (by simpa using hb)
   have hown2 : OwnB w1 base v' (l ++ (p ++ [UInt8.ofNat (m % 128 + 128)])) := by
    unfold OwnB
    have el : (l ++ (p ++ [UInt8.ofNat (m % 128 + 128)])).length = l.length + p.length + 1 := by simp; omega
    rw [el]; exact hown'
   have H1 := Lib.hid hto'
   have H2 := Lib.hid hown2
   clear hto' hown2 hown' hg hb HE
   go_wp2
   go_roundw
   case rel =>
    refine ⟨m / 128, _, ?_, ?_, ?_, H2.out, H1.out⟩
    ·have := Hm.out; omega
    ·rw [List.append_assoc, List.singleton_append, ← vin_big m hs]; exact Hz.out
    ·rfl
   case measure => simp [intOf]; omega
end Go.Proofs.YtemkjodkmehffaaGreatDoor
namespace Go.Proofs
open Go.Shelf
def Tryz.keysA_ren : Go.Shelf.Ren := ⟨fun | 7 => 79 | 10 => 106 | n => n, fun | 23 => 90 | 26 => 3 | 3 => 89 | 28 => 129 | 0 => 0 | 27 => 128 | 33 => 119 | 4 => 4 | n => n, fun | n => n⟩
theorem Tryz.keysA : Go.Proofs.SlLaysZI.n7 Tryz.prog Tryz.keysA_ren := {
 mixed := by kernel_rfl
 f7 := ⟨Tryz.f79.name, by decide, Tryz.func79.trans (congrArg some (by kernel_rfl))⟩
 f10 := ⟨Tryz.f106.name, by decide, Tryz.func106.trans (congrArg some (by kernel_rfl))⟩
 t0 := Tryz.underlying0
 a0 := Tryz.isAgg0
 z0 := Tryz.sizeOf0
 v0 := Tryz.zeroValue0
 t4 := Tryz.underlying4
 a4 := Tryz.isAgg4
 z4 := Tryz.sizeOf4
 v4 := Tryz.zeroValue4
 t23 := Tryz.underlying90
 a23 := Tryz.isAgg90
 z23 := Tryz.sizeOf90
 v23 := Tryz.zeroValue90
 t26 := Tryz.underlying3
 a26 := Tryz.isAgg3
 z26 := Tryz.sizeOf3
 v26 := Tryz.zeroValue3
 t27 := Tryz.underlying128
 a27 := Tryz.isAgg128
 z27 := Tryz.sizeOf128
 v27 := Tryz.zeroValue128
 t28 := Tryz.underlying129
 a28 := Tryz.isAgg129
 z28 := Tryz.sizeOf129
 v28 := Tryz.zeroValue129
 t33 := Tryz.underlying119
 a33 := Tryz.isAgg119
 z33 := Tryz.sizeOf119
 v33 := Tryz.zeroValue119 }
def Tryz.sortedA_ren : Go.Shelf.Ren := ⟨fun | 6 => 78 | 8 => 105 | 9 => 44 | 11 => 124 | 13 => 77 | 12 => 76 | 23 => 103 | 24 => 104 | 14 => 94 | 15 => 95 | 16 => 96 | 17 => 97 | 18 => 98 | 19 => 99 | 20 => 100 | 21 => 101 | 22 => 102 | 25 => 118 | 26 => 119 | 27 => 120 | 28 => 121 | 29 => 122 | 30 => 123 | 31 => 137 | n => n, fun | 26 => 3 | 28 => 129 | 24 => 48 | 0 => 0 | 3 => 3 | 37 => 126 | 48 => 163 | 50 => 131 | 4 => 4 | 40 => 155 | 39 => 154 | 45 => 160 | 5 => 5 | 9 => 9 | 51 => 178 | 55 => 182 | 57 => 196 | 58 => 197 | 33 => 119 | n => n, fun | n => n⟩
theorem Tryz.sortedA : Go.Proofs.SlLaysZI.n6 Tryz.prog Tryz.sortedA_ren := {
 mixed := by kernel_rfl
 f6 := ⟨Tryz.f78.name, by decide, Tryz.func78.trans (congrArg some (by kernel_rfl))⟩
 f8 := ⟨Tryz.f105.name, by decide, Tryz.func105.trans (congrArg some (by kernel_rfl))⟩
 f11 := ⟨Tryz.f124.name, by decide, Tryz.func124.trans (congrArg some (by kernel_rfl))⟩
 t0 := Tryz.underlying0
 a0 := Tryz.isAgg0
 z0 := Tryz.sizeOf0
 v0 := Tryz.zeroValue0
 t24 := Tryz.underlying48
 a24 := Tryz.isAgg48
 z24 := Tryz.sizeOf48
 v24 := Tryz.zeroValue48
 t26 := Tryz.underlying3
 a26 := Tryz.isAgg3
 z26 := Tryz.sizeOf3
 v26 := Tryz.zeroValue3
 t28 := Tryz.underlying129
 a28 := Tryz.isAgg129
 z28 := Tryz.sizeOf129
 v28 := Tryz.zeroValue129
 i26 := by kernel_rfl }
def Tryz.sortA_ren : Go.Shelf.Ren := ⟨fun | 5 => 44 | 8 => 77 | 7 => 76 | 19 => 103 | 20 => 104 | 10 => 94 | 11 => 95 | 12 => 96 | 13 => 97 | 14 => 98 | 15 => 99 | 16 => 100 | 17 => 101 | 18 => 102 | 30 => 118 | 31 => 119 | 32 => 120 | 33 => 121 | 34 => 122 | 35 => 123 | 40 => 137 | n => n, fun | 23 => 48 | 25 => 3 | 3 => 3 | 32 => 126 | 22 => 48 | 0 => 0 | 44 => 163 | 46 => 131 | 4 => 4 | 36 => 155 | 35 => 154 | 41 => 160 | 5 => 5 | 9 => 9 | 53 => 178 | 57 => 182 | 63 => 196 | 64 => 197 | n => n, fun | n => n⟩
theorem Tryz.sortA : Go.Proofs.SlLaysM.n5 Tryz.prog Tryz.sortA_ren := {
 mixed := by kernel_rfl
 f5 := ⟨Tryz.f44.name, by decide, Tryz.func44.trans (congrArg some (by kernel_rfl))⟩
 f7 := ⟨Tryz.f76.name, by decide, Tryz.func76.trans (congrArg some (by kernel_rfl))⟩
 f8 := Tryz.func77.trans (congrArg some (by kernel_rfl))
 f10 := ⟨Tryz.f94.name, by decide, Tryz.func94.trans (congrArg some (by kernel_rfl))⟩
 f11 := ⟨Tryz.f95.name, by decide, Tryz.func95.trans (congrArg some (by kernel_rfl))⟩
 f12 := ⟨Tryz.f96.name, by decide, Tryz.func96.trans (congrArg some (by kernel_rfl))⟩
 f13 := ⟨Tryz.f97.name, by decide, Tryz.func97.trans (congrArg some (by kernel_rfl))⟩
 f14 := ⟨Tryz.f98.name, by decide, Tryz.func98.trans (congrArg some (by kernel_rfl))⟩
 f15 := ⟨Tryz.f99.name, by decide, Tryz.func99.trans (congrArg some (by kernel_rfl))⟩
 f16 := ⟨Tryz.f100.name, by decide, Tryz.func100.trans (congrArg some (by kernel_rfl))⟩
 f17 := ⟨Tryz.f101.name, by decide, Tryz.func101.trans (congrArg some (by kernel_rfl))⟩
 f18 := ⟨Tryz.f102.name, by decide, Tryz.func102.trans (congrArg some (by kernel_rfl))⟩
 f19 := Tryz.func103.trans (congrArg some (by kernel_rfl))
 f20 := Tryz.func104.trans (congrArg some (by kernel_rfl))
 f30 := ⟨Tryz.f118.name, by decide, Tryz.func118.trans (congrArg some (by kernel_rfl))⟩
 f31 := Tryz.func119.trans (congrArg some (by kernel_rfl))
 f32 := Tryz.func120.trans (congrArg some (by kernel_rfl))
 f33 := ⟨Tryz.f121.name, by decide, Tryz.func121.trans (congrArg some (by kernel_rfl))⟩
 f34 := ⟨Tryz.f122.name, by decide, Tryz.func122.trans (congrArg some (by kernel_rfl))⟩
 f35 := ⟨Tryz.f123.name, by decide, Tryz.func123.trans (congrArg some (by kernel_rfl))⟩
 f40 := ⟨Tryz.f137.name, by decide, Tryz.func137.trans (congrArg some (by kernel_rfl))⟩
 t0 := Tryz.underlying0
 a0 := Tryz.isAgg0
 z0 := Tryz.sizeOf0
 v0 := Tryz.zeroValue0
 t3 := Tryz.underlying3
 a3 := Tryz.isAgg3
 z3 := Tryz.sizeOf3
 v3 := Tryz.zeroValue3
 t4 := Tryz.underlying4
 a4 := Tryz.isAgg4
 z4 := Tryz.sizeOf4
 v4 := Tryz.zeroValue4
 t5 := Tryz.underlying5
 a5 := Tryz.isAgg5
 z5 := Tryz.sizeOf5
 v5 := Tryz.zeroValue5
 t9 := Tryz.underlying9
 a9 := Tryz.isAgg9
 z9 := Tryz.sizeOf9
 v9 := Tryz.zeroValue9
 t22 := Tryz.underlying48
 a22 := Tryz.isAgg48
 z22 := Tryz.sizeOf48
 v22 := Tryz.zeroValue48
 t23 := Tryz.underlying48
 a23 := Tryz.isAgg48
 z23 := Tryz.sizeOf48
 v23 := Tryz.zeroValue48
 t25 := Tryz.underlying3
 a25 := Tryz.isAgg3
 z25 := Tryz.sizeOf3
 v25 := Tryz.zeroValue3
 t32 := Tryz.underlying126
 a32 := Tryz.isAgg126
 z32 := Tryz.sizeOf126
 v32 := Tryz.zeroValue126
 t35 := Tryz.underlying154
 a35 := Tryz.isAgg154
 z35 := Tryz.sizeOf154
 v35 := Tryz.zeroValue154
 t36 := Tryz.underlying155
 a36 := Tryz.isAgg155
 z36 := Tryz.sizeOf155
 v36 := Tryz.zeroValue155
 t41 := Tryz.underlying160
 a41 := Tryz.isAgg160
 z41 := Tryz.sizeOf160
 v41 := Tryz.zeroValue160
 t44 := Tryz.underlying163
 a44 := Tryz.isAgg163
 z44 := Tryz.sizeOf163
 v44 := Tryz.zeroValue163
 t46 := Tryz.underlying131
 a46 := Tryz.isAgg131
 z46 := Tryz.sizeOf131
 v46 := Tryz.zeroValue131
 t53 := Tryz.underlying178
 a53 := Tryz.isAgg178
 z53 := Tryz.sizeOf178
 v53 := Tryz.zeroValue178
 t57 := Tryz.underlying182
 a57 := Tryz.isAgg182
 z57 := Tryz.sizeOf182
 v57 := Tryz.zeroValue182
 t63 := Tryz.underlying196
 a63 := Tryz.isAgg196
 z63 := Tryz.sizeOf196
 v63 := Tryz.zeroValue196
 t64 := Tryz.underlying197
 a64 := Tryz.isAgg197
 z64 := Tryz.sizeOf197
 v64 := Tryz.zeroValue197 }
end Go.Proofs
