/-
  SecMath, Crc: texts of mine, joined.
-/
import Derived.Test.YtemkjodkmehffaaGreatDoorAllA04
import Derived.Test.YtemkjodkmehffaaGreatDoorAllA05
import Derived.Test.YtemkjodkmehffaaGreatDoorAllA00
import Derived.Test.YtemkjodkmehffaaGreatDoorWords
import Derived.Test.YtemkjodkmehffaaGreatDoorProg
import Derived.WalkKit
import Derived.Lib.Hide
import Derived.Laws.BitsAllLaws
namespace Go.Proofs.YtemkjodkmehffaaGreatDoor
def headS (t : Nat) (x : List UInt8) : List UInt8 := putZ (t : Int) ++ putT x
def bodyS (t : Nat) (x : List UInt8) : List UInt8 := headS t x ++ List.replicate (60 - (headS t x).length) 0
def sumL (c : Nat) : List UInt8 := [UInt8.ofNat (c % 256), UInt8.ofNat (c / 256 % 256), UInt8.ofNat (c / 65536 % 256), UInt8.ofNat (c / 16777216 % 256)]
def sumOf (q : UInt8) (l : List UInt8) : List UInt8 := sumL (crcN (q :: l.take 60))
def encF (q : UInt8) (t : Nat) (x : List UInt8) : List UInt8 := bodyS t x ++ sumL (crcN (q :: bodyS t x))
def readF (l : List UInt8) : Option (Int × List UInt8) :=
 if (getZ l).2.2 ≠ 0 then none
 else if (getT (l.drop (getZ l).2.1)).2.2 ≠ 0 then none
 else some ((getZ l).1, (getT (l.drop (getZ l).2.1)).1)
def decF (q : UInt8) (l : List UInt8) : Option (Int × List UInt8) := if l.drop 60 = sumOf q l then readF (l.take 60) else none
def encS (t : Nat) (x : List UInt8) : List UInt8 := encF 83 t x
def takeS : Option (Int × List UInt8) → Option (Nat × List UInt8)
 | none => none
 | some (t, x) => if t < 1 ∨ 1099511627776 < t ∨ 40 < x.length then none else some (t.toNat, x)
def decS (l : List UInt8) : Option (Nat × List UInt8) := takeS (decF 83 l)
theorem sumL_len (c : Nat) : (sumL c).length = 4 := rfl
theorem toNat_ofNat_mod (a : Nat) : (UInt8.ofNat (a % 256)).toNat = a % 256 := by
 rw [UInt8.toNat_ofNat']; omega
theorem putZ_small (t : Nat) (ht : t < 2199023255552) : (putZ (t : Int)).length ≤ 6 := by
 unfold putZ
 refine vin_len 5 _ ?_
 have : zig (t : Int) = 2 * t := by unfold zig; rw [if_neg (by omega)]; omega
 rw [this]
 have e : (128 : Nat) ^ (5 + 1) = 4398046511104 := by decide
 omega
theorem putT_small (x : List UInt8) (hx : x.length ≤ 63) : (putT x).length = x.length + 1 := by
 unfold putT putZ
 have : zig (x.length : Int) = 2 * x.length := by unfold zig; rw [if_neg (by omega)]; omega
 rw [this, vin_small _ (by omega)]
 simp
theorem headS_len (t : Nat) (x : List UInt8) (hx : x.length ≤ 53) (ht : t < 2199023255552) : (headS t x).length ≤ 60 := by
 unfold headS
 have := putZ_small t ht
 have := putT_small x (by omega)
 rw [List.length_append]; omega
theorem bodyS_len (t : Nat) (x : List UInt8) (h : (headS t x).length ≤ 60) : (bodyS t x).length = 60 := by
 unfold bodyS; rw [List.length_append, List.length_replicate]; omega
theorem encF_len (q : UInt8) (t : Nat) (x : List UInt8) (h : (headS t x).length ≤ 60) : (encF q t x).length = 64 := by
 unfold encF; rw [List.length_append, bodyS_len t x h, sumL_len]
theorem encF_take (q : UInt8) (t : Nat) (x : List UInt8) (h : (headS t x).length ≤ 60) : (encF q t x).take 60 = bodyS t x := by
 unfold encF; rw [← bodyS_len t x h]; exact List.take_left
theorem encF_drop (q : UInt8) (t : Nat) (x : List UInt8) (h : (headS t x).length ≤ 60) : (encF q t x).drop 60 = sumL (crcN (q :: bodyS t x)) := by
 unfold encF; rw [← bodyS_len t x h]; exact List.drop_left
theorem decF_enc (q : UInt8) (t : Nat) (x : List UInt8) (h : (headS t x).length ≤ 60) (ht : t < 9223372036854775808) (hx : x.length ≤ 65536) : decF q (encF q t x) = some ((t : Int), x) := by
 have hz : getZ (bodyS t x) = ((t : Int), (putZ (t : Int)).length, 0) := by
  unfold bodyS headS
  rw [List.append_assoc]
  exact getZ_put _ _ (by omega) (by omega)
 have hd : (bodyS t x).drop (putZ (t : Int)).length = putT x ++ List.replicate (60 - (headS t x).length) 0 := by
  have e : bodyS t x = putZ (t : Int) ++ (putT x ++ List.replicate (60 - (headS t x).length) 0) := by
   conv => lhs; unfold bodyS; arg 1; unfold headS
   rw [List.append_assoc]
  rw [e]; exact List.drop_left
 have hg : getT ((bodyS t x).drop (putZ (t : Int)).length) = (x, (putT x).length, 0) := by rw [hd]; exact getT_put x _ hx
 unfold decF
 rw [if_pos (by rw [encF_drop q t x h]; unfold sumOf; rw [encF_take q t x h]), encF_take q t x h]
 unfold readF
 rw [hz]
 simp only
 rw [hg]
 simp only
 rw [if_neg (by omega), if_neg (by omega)]
theorem blank_take : blank.take 60 = List.replicate 60 0 := by unfold blank; rw [List.take_replicate]; rfl
theorem readF_blank : readF (blank.take 60) = some (0, []) := by
 have e0 : (putZ 0) = [0] := by unfold putZ; rw [show zig 0 = 0 from rfl, vin_small 0 (by decide)]; rfl
 have h : getZ (blank.take 60) = (0, 1, 0) := by
  have e : blank.take 60 = putZ 0 ++ List.replicate 59 0 := by rw [blank_take, e0]; rfl
  rw [e, getZ_put 0 _ (by omega) (by omega), e0]; rfl
 have h2 : getT ((blank.take 60).drop 1) = ([], 1, 0) := by
  have e : (blank.take 60).drop 1 = putT [] ++ List.replicate 58 0 := by
   rw [blank_take, List.drop_replicate]; unfold putT; simp only [List.length_nil, Int.ofNat_zero, List.append_nil]
   rw [e0]; rfl
  rw [e, getT_put [] _ (by decide)]
  unfold putT; simp only [List.length_nil, List.append_nil, Int.ofNat_zero]; rw [e0]; rfl
 unfold readF; rw [h]; simp only; rw [h2]; simp
theorem decF_blank (q : UInt8) : decF q blank = none ∨ decF q blank = some (0, []) := by
 unfold decF; split
 ·exact .inr readF_blank
 ·exact .inl rfl
theorem encS_len (t : Nat) (x : List UInt8) (hx : x.length ≤ 40) (ht : t ≤ 1099511627776) : (encS t x).length = 64 := encF_len _ t x (headS_len t x (by omega) (by omega))
theorem decS_enc (t : Nat) (x : List UInt8) (hx : x.length ≤ 40) (h1 : 1 ≤ t) (ht : t ≤ 1099511627776) : decS (encS t x) = some (t, x) := by
 unfold decS encS
 rw [decF_enc _ t x (headS_len t x (by omega) (by omega)) (by omega) (by omega)]
 unfold takeS
 simp only
 rw [if_neg (by omega), Int.toNat_natCast]
theorem decS_blank : decS blank = none := by
 unfold decS
 rcases decF_blank 83 with h | h <;> rw [h]
 ·rfl
 ·unfold takeS; simp
end Go.Proofs.YtemkjodkmehffaaGreatDoor
namespace Go.Proofs.YtemkjodkmehffaaGreatDoor
open Go Go.RowKit
def Taken (w : World) : Prop := ∀ i, i < 16 → w.cell? ⟨0, i, none⟩ = some (.int .u32 ((tbits 4 i : Nat) : Int))
theorem Taken.keep {w w' : World} (h : Taken w) (hk : Keeps (fun _ => True) w w') : Taken w' := fun i hi => hk.cell (h i hi) trivial
theorem Taken.alloc {w : World} (h : Taken w) (o : Obj) : Taken (w.alloc o) := h.keep ((Keeps.refl _ w).alloc o)
theorem ret_u32 {a b : Int} (h : a = b) : Ending.returned (.int .u32 a) = .returned (.int .u32 b) := by rw [h]
def half (x : Nat) : Nat := x / 16 ^^^ tbits 4 (x % 16)
theorem half_tbits (x : Nat) : half x = tbits 4 x := by
 unfold half; rw [tbits_table 4 x, Nat.xor_comm]
theorem half_lt (x : Nat) (h : x < 4294967296) : half x < 4294967296 := by rw [half_tbits]; exact tbits_lt 4 x h
theorem half_half (x : Nat) : half (half x) = t8 x := by rw [half_tbits, half_tbits]; exact (tbits_add 4 4 x).symm
theorem half_z (x : Nat) (h : x < 4294967296) : bits .xor .u32 ((x : Int) / 16) ((tbits 4 (x % 16) : Nat) : Int) = ((half x : Nat) : Int) := by
 have e : (x : Int) / 16 = ((x / 16 : Nat) : Int) := rfl
 rw [e]
 exact u32_xor_nat _ _ (by omega) (tbits_lt 4 _ (by omega))
theorem in_z (c : Nat) (b : UInt8) (h : c < 4294967296) : bits .xor .u32 (c : Int) (b.toNat : Int) = ((c ^^^ b.toNat : Nat) : Int) := u32_xor_nat _ _ h (byte_lt32 b)
theorem crcF_next (c : Nat) (l : List UInt8) (k : Nat) (h : k < l.length) : crcF c (l.take (k + 1)) = half (half (crcF c (l.take k) ^^^ l[k].toNat)) := by
 rw [List.take_succ_eq_append_getElem h, crcF_snoc, half_half]
set_option maxHeartbeats 400000 in
theorem add_part (c : Nat) (hc : c < 4294967296) (A : Option Addr) (cap : Nat) (F : Nat → Prop) (l : List UInt8) (w : World) (h : Row w A F (bcells l)) (hl : l.length ≤ maxLen) (hT : Taken w) :
  Calls Tryz.prog 141 #[.int .u32 (c : Int), .slice A l.length cap] w fun e w' => e = .returned (.int .u32 ((crcF c l : Nat) : Int)) ∧ w = w' := by
 unfold maxLen at hl
 have HT := Lib.hid hT
 have HC := Lib.hid hc
 clear hT hc
 go_enter Tryz.func141, Tryz.ntmps141
 go_wp2
 go_loop [0, 9] (fun t i => ∃ k : Nat, k ≤ l.length ∧ i = .int .i64 k ∧ t = .int .u32 ((crcF c (l.take k) : Nat) : Int)) (fun _ i => l.length - (intOf i).toNat)
 case atStart => exact ⟨0, Nat.zero_le _, rfl, rfl⟩
 case round =>
  obtain ⟨k, hk, rfl, rfl⟩ := hrel
  by_cases hlt : k < l.length
  ·obtain ⟨b, o, rfl, _, hcell⟩ := h.at_ (k := k) (by simpa [bcells] using hlt)
   simp only [bcells, List.getElem_map, bcell] at hcell
   have H := Lib.hid (crcF_next c l k hlt)
   have hx := crcF_lt (l.take k) c HC.out
   have hb := byte_lt32 l[k]
   generalize crcF c (l.take k) = x at H hx
   have e1 := in_z x l[k] hx
   have hy : x ^^^ l[k].toNat < 4294967296 := xor_lt32 hx hb
   generalize x ^^^ l[k].toNat = y at H e1 hy
   have e2 := half_z y hy
   have hz := half_lt y hy
   have c1 := HT.out (y % 16) (Nat.mod_lt _ (by decide))
   generalize half y = z at H e2 hz
   have e3 := half_z z hz
   have c2 := HT.out (z % 16) (Nat.mod_lt _ (by decide))
   clear h
   go_wp2
   go_round
   case rel => exact ⟨k + 1, by omega, by go_num, by rw [H.out]⟩
   case measure => simp [intOf]; omega
  ·obtain rfl : k = l.length := by omega
   rw [List.take_length]
   go_wp2
   go_ret
   exact ⟨rfl, rfl⟩
def joined (ps : List Part) : List UInt8 := ps.flatMap (·.l)
theorem joined_next (c : Nat) (ps : List Part) (k : Nat) (h : k < ps.length) : crcF c (joined (ps.take (k + 1))) = crcF (crcF c (joined (ps.take k))) ps[k].l := by
 unfold joined
 rw [List.take_succ_eq_append_getElem h, List.flatMap_append, crcF_append]; simp
theorem u32_compl (x : Nat) (h : x < 4294967296) : bits .xor .u32 4294967295 (x : Int) = ((4294967295 - x : Nat) : Int) := by
 have e := u32_xor_nat 4294967295 x (by decide) h
 rw [not_xor x h, Nat.xor_comm, ← e]; rfl
set_option maxHeartbeats 400000 in
theorem sum_any (B : Option Addr) (d : Nat) (F G : Nat → Prop) (ps : List Part) (w : World) (hB : Row w B G (ps.map Part.val)) (hp : Parts w F ps) (hn : ps.length ≤ maxLen) (hT : Taken w) :
  Calls Tryz.prog 134 #[.slice B ps.length d] w fun e w' => e = .returned (.int .u32 ((crcN (joined ps) : Nat) : Int)) ∧ w = w' := by
 unfold maxLen at hn
 have HT := Lib.hid hT
 have HP := Lib.hid hp
 clear hT hp
 go_enter Tryz.func134, Tryz.ntmps134
 go_wp2
 go_loop [3, 8] (fun t i => ∃ k : Nat, k ≤ ps.length ∧ i = .int .i64 k ∧ t = .int .u32 ((crcF 4294967295 (joined (ps.take k)) : Nat) : Int)) (fun _ i => ps.length - (intOf i).toNat)
 case atStart => exact ⟨0, Nat.zero_le _, rfl, rfl⟩
 case round =>
  obtain ⟨k, hk, rfl, rfl⟩ := hrel
  have hx := crcF_lt (joined (ps.take k)) 4294967295 (by decide)
  by_cases hlt : k < ps.length
  ·obtain ⟨b, o, rfl, _, hcell⟩ := hB.at_ (k := k) (by simpa using hlt)
   simp only [List.getElem_map, Part.val] at hcell
   have H := Lib.hid (joined_next 4294967295 ps k hlt)
   have hpart := HP.out ps[k] (List.getElem_mem hlt)
   generalize crcF 4294967295 (joined (ps.take k)) = x at H hx
   generalize ps[k] = p at H hpart hcell
   have h1 := Lib.hid hpart.1
   have h2 := hpart.2
   clear hB hpart
   go_wp2_with (go_at_call 141; ((with_reducible refine (add_part x hx _ _ F p.l _ h1.out h2 HT.out).mono ?_); rintro e w' ⟨rfl, rfl⟩))
   go_round
   case rel => exact ⟨k + 1, by omega, by go_num, by rw [H.out]⟩
   case measure => simp [intOf]; omega
  ·obtain rfl : k = ps.length := by omega
   rw [List.take_length] at hx ⊢
   have e : bits .xor .u32 4294967295 ((crcF 4294967295 (joined ps) : Nat) : Int) = ((crcN (joined ps) : Nat) : Int) := u32_compl _ hx
   generalize crcF 4294967295 (joined ps) = x at e hx
   have H := Lib.hid e
   clear e
   go_wp2
   go_ret
   exact ⟨ret_u32 H.out, rfl⟩
end Go.Proofs.YtemkjodkmehffaaGreatDoor
