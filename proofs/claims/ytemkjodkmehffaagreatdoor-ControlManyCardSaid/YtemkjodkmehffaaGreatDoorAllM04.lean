/-
  Math, Mix, Of, Num, CtLay, PtLay, Equal: texts of mine, joined.
-/
import Derived.Test.YtemkjodkmehffaaGreatDoorRows
import Derived.WalkKit
import Derived.Laws.Bits64
import Derived.Lib.Hide
import Derived.Test.YtemkjodkmehffaaGreatDoorAllM03
import Derived.Test.YtemkjodkmehffaaGreatDoorWords
import Derived.Test.YtemkjodkmehffaaGreatDoorAllM00
import Derived.Test.YtemkjodkmehffaaGreatDoorProg
import Derived.Shelf.SlicesE.DeleteFunc
import Derived.Ground.SlgfProg
import Derived.Ground.SlsfProg
import Derived.Shelf.SlLaysF0
namespace Go.Proofs.YtemkjodkmehffaaGreatDoor
def foN (k x : Nat) : Nat := x ^^^ x / 2 ^ k
def stN (x : Nat) : Nat :=
 foN 31 (foN 27 (foN 30 x * 13787848793156543929 % 18446744073709551616) * 10723151780598845931 % 18446744073709551616)
end Go.Proofs.YtemkjodkmehffaaGreatDoor
namespace Go.Proofs.YtemkjodkmehffaaGreatDoor
open Go.RowKit
theorem fo_shift (k n : Nat) (h : n < 18446744073709551616) : bits .xor .u64 (n : Int) ((n : Int) / ((2 ^ k : Nat) : Int)) = ((foN k n : Nat) : Int) :=
 xorShift_u64 n (2 ^ k) h
theorem fo_step (k n C : Nat) (h : n < 18446744073709551616) :
  IntKind.u64.wrap (bits .xor .u64 (n : Int) ((n : Int) / ((2 ^ k : Nat) : Int)) * (C : Int)) = ((foN k n * C % 18446744073709551616 : Nat) : Int) :=
 mixStep_u64 n (2 ^ k) C h
theorem st_shift (x : Nat) (h : x < 18446744073709551616) (A B : Int)
  (hA : A = IntKind.u64.wrap (bits .xor .u64 (x : Int) ((x : Int) / 1073741824) * 13787848793156543929))
  (hB : B = IntKind.u64.wrap (bits .xor .u64 A (A / 134217728) * 10723151780598845931)) :
  bits .xor .u64 B (B / 2147483648) = ((stN x : Nat) : Int) := by
 have e1 : A = ((foN 30 x * 13787848793156543929 % 18446744073709551616 : Nat) : Int) := hA.trans (fo_step 30 x 13787848793156543929 h)
 have e2 : B = ((foN 27 (foN 30 x * 13787848793156543929 % 18446744073709551616) * 10723151780598845931 % 18446744073709551616 : Nat) : Int) := by
  rw [hB, e1]; exact fo_step 27 _ 10723151780598845931 (Nat.mod_lt _ (by decide))
 rw [e2]
 exact fo_shift 31 _ (Nat.mod_lt _ (by decide))
theorem ret_u64 {a b : Int} (h : a = b) : Ending.returned (.int .u64 a) = .returned (.int .u64 b) := by rw [h]
theorem stir_nat (x : Nat) (hx : x < 18446744073709551616) (w : World) :
  Calls Tryz.prog 107 #[.int .u64 (x : Int)] w fun e w' => e = .returned (.int .u64 ((stN x : Nat) : Int)) ∧ w = w' := by
 go_enter Tryz.func107, Tryz.ntmps107
 go_wp2
 go_ret
 exact ⟨ret_u64 (st_shift x hx _ _ rfl rfl), rfl⟩
def stZ (x : Int) : Int := ((stN x.toNat : Nat) : Int)
theorem stir_any (x : Int) (hx : 0 ≤ x) (lx : x < 18446744073709551616) (w : World) :
  Calls Tryz.prog 107 #[.int .u64 x] w fun e w' => e = .returned (.int .u64 (stZ x)) ∧ w = w' := by
 have h := stir_nat x.toNat (by omega) w
 rw [Int.toNat_of_nonneg hx] at h
 exact h
theorem wrap_nonneg (a : Int) : 0 ≤ IntKind.u64.wrap a := by rw [IntKind.wrap_u64]; omega
theorem wrap_lt (a : Int) : IntKind.u64.wrap a < 18446744073709551616 := by rw [IntKind.wrap_u64]; omega
theorem point_any (n i : Int) (w : World) :
  Calls Tryz.prog 80 #[.int .i64 n, .int .i64 i] w fun e w' => e = .returned (.int .u64 (stZ (IntKind.u64.wrap (wrap64 (wrap64 (n * 1000003) + i))))) ∧ w = w' := by
 go_enter Tryz.func80, Tryz.ntmps80
 go_wp2_with (go_at_call 107; refine (stir_any _ (wrap_nonneg _) (wrap_lt _) _).mono ?_; rintro e w' ⟨rfl, rfl⟩)
 go_ret
 exact ⟨rfl, rfl⟩
end Go.Proofs.YtemkjodkmehffaaGreatDoor
namespace Go.Proofs.YtemkjodkmehffaaGreatDoor
open Go Go.RowKit
theorem ret_int {k : IntKind} {a b : Int} (h : a = b) : Ending.returned (.int k a) = .returned (.int k b) := by rw [h]
theorem i64_compl (n : Int) (h1 : -9223372036854775808 ≤ n) (h2 : n < 9223372036854775808) : bits .xor .i64 (-1) n = -n - 1 := by
 show IntKind.i64.wrap ((BitVec.ofInt 64 (-1) ^^^ BitVec.ofInt 64 n).toNat : Int) = _
 have e1 : BitVec.ofInt 64 (-1) = BitVec.allOnes 64 := by decide
 rw [e1, BitVec.allOnes_xor, BitVec.toNat_not, BitVec.toNat_ofInt, IntKind.wrap_i64]
 omega
theorem fold_any (n : Int) (h1 : -9223372036854775808 ≤ n) (h2 : n < 9223372036854775808) (w : World) :
  Calls Tryz.prog 115 #[.int .i64 n] w fun e w' => e = .returned (.int .u64 (zig n : Nat)) ∧ w = w' := by
 by_cases hn : n < 0
 ·have E : IntKind.u64.wrap (IntKind.u64.wrap (IntKind.u64.wrap (bits .xor .i64 (-1) n) * 2) + 1) = ((zig n : Nat) : Int) := by
   rw [i64_compl n h1 h2]
   simp only [IntKind.wrap_u64, zig, if_pos hn]
   omega
  have H := Lib.hid E
  clear E
  go_enter Tryz.func115, Tryz.ntmps115
  go_wp2
  go_ret
  exact ⟨ret_int H.out, rfl⟩
 ·have E : n * 2 = ((zig n : Nat) : Int) := by unfold zig; rw [if_neg hn]; omega
  have H := Lib.hid E
  clear E
  have h0 : 0 ≤ n := by omega
  go_enter Tryz.func115, Tryz.ntmps115
  go_wp2
  go_ret
  exact ⟨ret_int H.out, rfl⟩
theorem unfold_any (u : Nat) (h : u < 18446744073709551616) (w : World) :
  Calls Tryz.prog 91 #[.int .u64 u] w fun e w' => e = .returned (.int .i64 (zag u)) ∧ w = w' := by
 by_cases h1 : u % 2 = 1
 ·have E : bits .xor .i64 (-1) ((u : Int) / 2) = zag u := by
   rw [i64_compl _ (by omega) (by omega)]
   unfold zag; rw [if_pos h1]; omega
  have H := Lib.hid E
  have ht : ((u : Int) % 2 == 1) = true := by simp; omega
  clear E h1
  go_enter Tryz.func91, Tryz.ntmps91
  go_wp2
  go_ret
  exact ⟨ret_int H.out, rfl⟩
 ·have E : ((u : Int) / 2) = zag u := by unfold zag; rw [if_neg h1]; omega
  have H := Lib.hid E
  have ht : ((u : Int) % 2 == 1) = false := by simp; omega
  clear E h1
  go_enter Tryz.func91, Tryz.ntmps91
  go_wp2
  go_ret
  exact ⟨ret_int H.out, rfl⟩
set_option maxHeartbeats 400000 in
theorem put_number (n : Int) (h1 : -9223372036854775808 ≤ n) (h2 : n < 9223372036854775808) (v : Value) (l : List UInt8) (base : Nat) (w : World) (hown : OwnB w base v l) (hbase : base ≤ w.heap.size)
  (hl : l.length ≤ 1099511627776) :
  Calls Tryz.prog 88 #[v, .int .i64 n] w fun e w' => ∃ v', e = .returned v' ∧ OwnB w' base v' (l ++ putZ n) ∧ Onto w v w' v' := by
 have hz := zig_lt n h1 h2
 have hp := putZ_len n h1 h2
 unfold putZ at hp ⊢
 go_enter Tryz.func88, Tryz.ntmps88
 go_wp2_with (go_at_call 115; ((with_reducible refine (fold_any n h1 h2 _).mono ?_); rintro e w' ⟨rfl, rfl⟩))
 generalize hzz : zig n = z at hz hp
 have HZ := Lib.hid hzz
 clear hzz
 go_loopw [0, 5] (fun u f wr => ∃ (m : Nat) (p : List UInt8), m < 18446744073709551616 ∧ p ++ vin m = vin z ∧ f = .int .u64 (m : Nat) ∧ OwnB wr base u (l ++ p) ∧ Onto w v wr u) (fun _ f _ => (intOf f).toNat)
 case atStart => exact ⟨z, [], hz, rfl, rfl, by simpa using hown, Onto.refl _ _⟩
 case round =>
  obtain ⟨m, p, hm, hpz, rfl, ho, hto⟩ := hrel
  have hpl : p.length ≤ 10 := by
   have : (p ++ vin m).length = (vin z).length := by rw [hpz]
   rw [List.length_append] at this; omega
  have hws := hto.1.size
  have Hm := Lib.hid hm
  have Hz := Lib.hid hpz
  have Ho := Lib.hid ho
  have Ht := Lib.hid hto
  clear hm hpz ho hto hown hz hp h1 h2
  by_cases hs : m < 128
  ·have ht : decide ((128 : Int) ≤ (m : Int)) = false := by simp; omega
   have E : bcells (l ++ p) ++ [Value.int .u8 (m : Int)] = bcells ((l ++ p) ++ vin m) := by
    rw [bcells_append (l ++ p), vin_small m hs]
    simp only [bcells, bcell, List.map_cons, List.map_nil]
    rw [UInt8.toNat_ofNat', Nat.mod_eq_of_lt (by omega)]
   have HE := Lib.hid E
   clear E
   go_wp2_with (at_builtin; refine byte_elem.list_append rfl (.tmp 19) (.tmp 22) _ rfl rfl (Ho.out.alloc _) rfl (src_one Tryz.underlying71 _ _ _ ?c1 _ ?c2 _) ?c3 ?c4 ?c5 ?_)
   case c1 => rfl
   case c2 => rfl
   case c3 => unfold maxLen; simp; omega
   case c4 => simp; omega
   case c5 => simp; omega
   intro v' w1 hown' hg hb
   rw [HE.out] at hown'
   have hto' : Onto w v w1 v' := (Ht.out.alloc _).grown hg (by simpa using hb)
   have hown2 : OwnB w1 base v' (l ++ vin z) := by
    rw [← Hz.out, ← List.append_assoc]
    unfold OwnB
    have el : ((l ++ p) ++ vin m).length = l.length + p.length + 1 := by simp [vin_small m hs]; omega
    rw [el]; exact hown'
   have H1 := Lib.hid hto'
   have H2 := Lib.hid hown2
   clear hto' hown2 hown' hg hb HE
   go_wp2
   go_ret
   exact ⟨_, rfl, by rw [HZ.out]; exact H2.out, H1.out⟩
  ·have ht : decide ((128 : Int) ≤ (m : Int)) = true := by simp; omega
   have E : bcells (l ++ p) ++ [Value.int .u8 ((m : Int) % 128 + 128)] = bcells (l ++ (p ++ [UInt8.ofNat (m % 128 + 128)])) := by
    rw [← List.append_assoc, bcells_append (l ++ p)]
    simp only [bcells, bcell, List.map_cons, List.map_nil]
    rw [UInt8.toNat_ofNat', Nat.mod_eq_of_lt (by omega)]; rfl
   have HE := Lib.hid E
   clear E
   go_wp2_with (at_builtin; refine byte_elem.list_append rfl (.tmp 10) (.tmp 15) _ rfl rfl (Ho.out.alloc _) rfl (src_one Tryz.underlying71 _ _ _ ?c1 _ ?c2 _) ?c3 ?c4 ?c5 ?_)
   case c1 => rfl
   case c2 => rfl
   case c3 => unfold maxLen; simp; omega
   case c4 => simp; omega
   case c5 => simp; omega
   intro v' w1 hown' hg hb
   rw [HE.out] at hown'
   have hto' : Onto w v w1 v' := (Ht.out.alloc _).grown hg (by simpa using hb)
   have hown2 : OwnB w1 base v' (l ++ (p ++ [UInt8.ofNat (m % 128 + 128)])) := by
    unfold OwnB
    have el : (l ++ (p ++ [UInt8.ofNat (m % 128 + 128)])).length = l.length + p.length + 1 := by simp; omega
    rw [el]; exact hown'
   have H1 := Lib.hid hto'
   have H2 := Lib.hid hown2
   clear hto' hown2 hown' hg hb HE
   go_wp2
   go_roundw
   case rel =>
    refine ⟨m / 128, _, ?_, ?_, ?_, H2.out, H1.out⟩
    ·have := Hm.out; omega
    ·rw [List.append_assoc, List.singleton_append, ← vin_big m hs]; exact Hz.out
    ·rfl
   case measure => simp [intOf]; omega
end Go.Proofs.YtemkjodkmehffaaGreatDoor
namespace Go.Proofs
open Go.Shelf
def Tryz.delF_ren : Go.Shelf.Ren := ⟨fun | 10 => 74 | 6 => 93 | n => n, fun | 22 => 48 | 23 => 3 | 25 => 119 | 3 => 3 | 4 => 4 | 0 => 0 | n => n, fun | n => n⟩
theorem Tryz.delF : Go.Proofs.SlLaysH.n10 Tryz.prog Tryz.delF_ren := {
 mixed := by kernel_rfl
 f6 := ⟨Tryz.f93.name, by decide, Tryz.func93.trans (congrArg some (by kernel_rfl))⟩
 f10 := ⟨Tryz.f74.name, by decide, Tryz.func74.trans (congrArg some (by kernel_rfl))⟩
 t0 := Tryz.underlying0
 a0 := Tryz.isAgg0
 z0 := Tryz.sizeOf0
 v0 := Tryz.zeroValue0
 t3 := Tryz.underlying3
 a3 := Tryz.isAgg3
 z3 := Tryz.sizeOf3
 v3 := Tryz.zeroValue3
 t4 := Tryz.underlying4
 a4 := Tryz.isAgg4
 z4 := Tryz.sizeOf4
 v4 := Tryz.zeroValue4
 t22 := Tryz.underlying48
 a22 := Tryz.isAgg48
 z22 := Tryz.sizeOf48
 v22 := Tryz.zeroValue48
 a23 := Tryz.isAgg3
 z23 := Tryz.sizeOf3
 t25 := Tryz.underlying119
 a25 := Tryz.isAgg119
 z25 := Tryz.sizeOf119
 v25 := Tryz.zeroValue119 }
def Tryz.sortPt_ren : Go.Shelf.Ren := ⟨fun | 6 => 81 | 15 => 77 | 14 => 108 | 28 => 103 | 29 => 104 | 20 => 125 | 21 => 126 | 22 => 127 | 23 => 128 | 24 => 129 | 25 => 130 | 26 => 131 | 27 => 132 | 46 => 138 | 47 => 119 | 48 => 120 | 49 => 139 | 50 => 140 | 57 => 142 | n => n, fun | 22 => 95 | 24 => 134 | 25 => 136 | 3 => 3 | 39 => 126 | 0 => 0 | 53 => 163 | 55 => 131 | 4 => 4 | 46 => 155 | 45 => 154 | 50 => 160 | 5 => 5 | 9 => 9 | 66 => 178 | 70 => 182 | 76 => 196 | 77 => 197 | n => n, fun | n => n⟩
theorem Tryz.sortPt : Go.Proofs.SlLaysF0.n6 Tryz.prog Tryz.sortPt_ren := {
 mixed := by kernel_rfl
 f6 := ⟨Tryz.f81.name, by decide, Tryz.func81.trans (congrArg some (by kernel_rfl))⟩
 f14 := ⟨Tryz.f108.name, by decide, Tryz.func108.trans (congrArg some (by kernel_rfl))⟩
 f15 := Tryz.func77.trans (congrArg some (by kernel_rfl))
 f20 := ⟨Tryz.f125.name, by decide, Tryz.func125.trans (congrArg some (by kernel_rfl))⟩
 f21 := ⟨Tryz.f126.name, by decide, Tryz.func126.trans (congrArg some (by kernel_rfl))⟩
 f22 := ⟨Tryz.f127.name, by decide, Tryz.func127.trans (congrArg some (by kernel_rfl))⟩
 f23 := ⟨Tryz.f128.name, by decide, Tryz.func128.trans (congrArg some (by kernel_rfl))⟩
 f24 := ⟨Tryz.f129.name, by decide, Tryz.func129.trans (congrArg some (by kernel_rfl))⟩
 f25 := ⟨Tryz.f130.name, by decide, Tryz.func130.trans (congrArg some (by kernel_rfl))⟩
 f26 := ⟨Tryz.f131.name, by decide, Tryz.func131.trans (congrArg some (by kernel_rfl))⟩
 f27 := ⟨Tryz.f132.name, by decide, Tryz.func132.trans (congrArg some (by kernel_rfl))⟩
 f28 := Tryz.func103.trans (congrArg some (by kernel_rfl))
 f29 := Tryz.func104.trans (congrArg some (by kernel_rfl))
 f46 := ⟨Tryz.f138.name, by decide, Tryz.func138.trans (congrArg some (by kernel_rfl))⟩
 f47 := Tryz.func119.trans (congrArg some (by kernel_rfl))
 f48 := Tryz.func120.trans (congrArg some (by kernel_rfl))
 f49 := ⟨Tryz.f139.name, by decide, Tryz.func139.trans (congrArg some (by kernel_rfl))⟩
 f50 := ⟨Tryz.f140.name, by decide, Tryz.func140.trans (congrArg some (by kernel_rfl))⟩
 f57 := ⟨Tryz.f142.name, by decide, Tryz.func142.trans (congrArg some (by kernel_rfl))⟩
 t0 := Tryz.underlying0
 a0 := Tryz.isAgg0
 z0 := Tryz.sizeOf0
 v0 := Tryz.zeroValue0
 t3 := Tryz.underlying3
 a3 := Tryz.isAgg3
 z3 := Tryz.sizeOf3
 v3 := Tryz.zeroValue3
 t4 := Tryz.underlying4
 a4 := Tryz.isAgg4
 z4 := Tryz.sizeOf4
 v4 := Tryz.zeroValue4
 t5 := Tryz.underlying5
 a5 := Tryz.isAgg5
 z5 := Tryz.sizeOf5
 v5 := Tryz.zeroValue5
 t9 := Tryz.underlying9
 a9 := Tryz.isAgg9
 z9 := Tryz.sizeOf9
 v9 := Tryz.zeroValue9
 t22 := Tryz.underlying95
 a22 := Tryz.isAgg95
 z22 := Tryz.sizeOf95
 v22 := Tryz.zeroValue95
 t25 := Tryz.underlying136
 a25 := Tryz.isAgg136
 z25 := Tryz.sizeOf136
 v25 := Tryz.zeroValue136
 t39 := Tryz.underlying126
 a39 := Tryz.isAgg126
 z39 := Tryz.sizeOf126
 v39 := Tryz.zeroValue126
 t45 := Tryz.underlying154
 a45 := Tryz.isAgg154
 z45 := Tryz.sizeOf154
 v45 := Tryz.zeroValue154
 t46 := Tryz.underlying155
 a46 := Tryz.isAgg155
 z46 := Tryz.sizeOf155
 v46 := Tryz.zeroValue155
 t50 := Tryz.underlying160
 a50 := Tryz.isAgg160
 z50 := Tryz.sizeOf160
 v50 := Tryz.zeroValue160
 t53 := Tryz.underlying163
 a53 := Tryz.isAgg163
 z53 := Tryz.sizeOf163
 v53 := Tryz.zeroValue163
 t55 := Tryz.underlying131
 a55 := Tryz.isAgg131
 z55 := Tryz.sizeOf131
 v55 := Tryz.zeroValue131
 t66 := Tryz.underlying178
 a66 := Tryz.isAgg178
 z66 := Tryz.sizeOf178
 v66 := Tryz.zeroValue178
 t70 := Tryz.underlying182
 a70 := Tryz.isAgg182
 z70 := Tryz.sizeOf182
 v70 := Tryz.zeroValue182
 t76 := Tryz.underlying196
 a76 := Tryz.isAgg196
 z76 := Tryz.sizeOf196
 v76 := Tryz.zeroValue196
 t77 := Tryz.underlying197
 a77 := Tryz.isAgg197
 z77 := Tryz.sizeOf197
 v77 := Tryz.zeroValue197 }
end Go.Proofs
namespace Go.Proofs.YtemkjodkmehffaaGreatDoor
open Go Go.RowKit
theorem equal_any (A B : Option Addr) (c d n m : Nat) (F G : Nat → Prop) (l r : List UInt8) (w : World) (h1 : Row w A F (bcells l)) (h2 : Row w B G (bcells r)) (hn : n = l.length) (hm : m = r.length) (x : Bool) (hx : ((txt l).toList == (txt r).toList) = x) :
  Calls Tryz.prog 135 #[.slice A n c, .slice B m d] w fun e w' => e = .returned (.bool x) ∧ w = w' := by
 have c1 := h1.to_string (P := Tryz.prog) Tryz.underlying71 Tryz.underlying5 Tryz.underlying9 n c hn
 have c2 := h2.to_string (P := Tryz.prog) Tryz.underlying71 Tryz.underlying5 Tryz.underlying9 m d hm
 clear h1 h2 hn hm
 go_enter Tryz.func135, Tryz.ntmps135
 go_wp2
 go_ret
 exact ⟨rfl, rfl⟩
end Go.Proofs.YtemkjodkmehffaaGreatDoor
