/-
  SecMath, MadeLoose: texts of mine, joined.
-/
import Derived.Test.YtemkjodkmehffaaGreatDoorAllM03
import Derived.Test.YtemkjodkmehffaaGreatDoorAllM07
import Derived.Test.YtemkjodkmehffaaGreatDoorAllM00
import Derived.Test.YtemkjodkmehffaaGreatDoorAllM14
import Derived.Test.YtemkjodkmehffaaGreatDoorAllM05
namespace Go.Proofs.YtemkjodkmehffaaGreatDoor
def headS (t : Nat) (x : List UInt8) : List UInt8 := putZ (t : Int) ++ putT x
def bodyS (t : Nat) (x : List UInt8) : List UInt8 := headS t x ++ List.replicate (60 - (headS t x).length) 0
def sumL (c : Nat) : List UInt8 := [UInt8.ofNat (c % 256), UInt8.ofNat (c / 256 % 256), UInt8.ofNat (c / 65536 % 256), UInt8.ofNat (c / 16777216 % 256)]
def sumOf (q : UInt8) (l : List UInt8) : List UInt8 := sumL (crcN (q :: l.take 60))
def encF (q : UInt8) (t : Nat) (x : List UInt8) : List UInt8 := bodyS t x ++ sumL (crcN (q :: bodyS t x))
def readF (l : List UInt8) : Option (Int × List UInt8) :=
 if (getZ l).2.2 ≠ 0 then none
 else if (getT (l.drop (getZ l).2.1)).2.2 ≠ 0 then none
 else some ((getZ l).1, (getT (l.drop (getZ l).2.1)).1)
def decF (q : UInt8) (l : List UInt8) : Option (Int × List UInt8) := if l.drop 60 = sumOf q l then readF (l.take 60) else none
def encS (t : Nat) (x : List UInt8) : List UInt8 := encF 83 t x
def takeS : Option (Int × List UInt8) → Option (Nat × List UInt8)
 | none => none
 | some (t, x) => if t < 1 ∨ 1099511627776 < t ∨ 40 < x.length then none else some (t.toNat, x)
def decS (l : List UInt8) : Option (Nat × List UInt8) := takeS (decF 83 l)
theorem sumL_len (c : Nat) : (sumL c).length = 4 := rfl
theorem toNat_ofNat_mod (a : Nat) : (UInt8.ofNat (a % 256)).toNat = a % 256 := by
 rw [UInt8.toNat_ofNat']; omega
theorem putZ_small (t : Nat) (ht : t < 2199023255552) : (putZ (t : Int)).length ≤ 6 := by
 unfold putZ
 refine vin_len 5 _ ?_
 have : zig (t : Int) = 2 * t := by unfold zig; rw [if_neg (by omega)]; omega
 rw [this]
 have e : (128 : Nat) ^ (5 + 1) = 4398046511104 := by decide
 omega
theorem putT_small (x : List UInt8) (hx : x.length ≤ 63) : (putT x).length = x.length + 1 := by
 unfold putT putZ
 have : zig (x.length : Int) = 2 * x.length := by unfold zig; rw [if_neg (by omega)]; omega
 rw [this, vin_small _ (by omega)]
 simp
theorem headS_len (t : Nat) (x : List UInt8) (hx : x.length ≤ 53) (ht : t < 2199023255552) : (headS t x).length ≤ 60 := by
 unfold headS
 have := putZ_small t ht
 have := putT_small x (by omega)
 rw [List.length_append]; omega
theorem bodyS_len (t : Nat) (x : List UInt8) (h : (headS t x).length ≤ 60) : (bodyS t x).length = 60 := by
 unfold bodyS; rw [List.length_append, List.length_replicate]; omega
theorem encF_len (q : UInt8) (t : Nat) (x : List UInt8) (h : (headS t x).length ≤ 60) : (encF q t x).length = 64 := by
 unfold encF; rw [List.length_append, bodyS_len t x h, sumL_len]
theorem encF_take (q : UInt8) (t : Nat) (x : List UInt8) (h : (headS t x).length ≤ 60) : (encF q t x).take 60 = bodyS t x := by
 unfold encF; rw [← bodyS_len t x h]; exact List.take_left
theorem encF_drop (q : UInt8) (t : Nat) (x : List UInt8) (h : (headS t x).length ≤ 60) : (encF q t x).drop 60 = sumL (crcN (q :: bodyS t x)) := by
 unfold encF; rw [← bodyS_len t x h]; exact List.drop_left
theorem decF_enc (q : UInt8) (t : Nat) (x : List UInt8) (h : (headS t x).length ≤ 60) (ht : t < 9223372036854775808) (hx : x.length ≤ 65536) : decF q (encF q t x) = some ((t : Int), x) := by
 have hz : getZ (bodyS t x) = ((t : Int), (putZ (t : Int)).length, 0) := by
  unfold bodyS headS
  rw [List.append_assoc]
  exact getZ_put _ _ (by omega) (by omega)
 have hd : (bodyS t x).drop (putZ (t : Int)).length = putT x ++ List.replicate (60 - (headS t x).length) 0 := by
  have e : bodyS t x = putZ (t : Int) ++ (putT x ++ List.replicate (60 - (headS t x).length) 0) := by
   conv => lhs; unfold bodyS; arg 1; unfold headS
   rw [List.append_assoc]
  rw [e]; exact List.drop_left
 have hg : getT ((bodyS t x).drop (putZ (t : Int)).length) = (x, (putT x).length, 0) := by rw [hd]; exact getT_put x _ hx
 unfold decF
 rw [if_pos (by rw [encF_drop q t x h]; unfold sumOf; rw [encF_take q t x h]), encF_take q t x h]
 unfold readF
 rw [hz]
 simp only
 rw [hg]
 simp only
 rw [if_neg (by omega), if_neg (by omega)]
theorem blank_take : blank.take 60 = List.replicate 60 0 := by unfold blank; rw [List.take_replicate]; rfl
theorem readF_blank : readF (blank.take 60) = some (0, []) := by
 have e0 : (putZ 0) = [0] := by unfold putZ; rw [show zig 0 = 0 from rfl, vin_small 0 (by decide)]; rfl
 have h : getZ (blank.take 60) = (0, 1, 0) := by
  have e : blank.take 60 = putZ 0 ++ List.replicate 59 0 := by rw [blank_take, e0]; rfl
  rw [e, getZ_put 0 _ (by omega) (by omega), e0]; rfl
 have h2 : getT ((blank.take 60).drop 1) = ([], 1, 0) := by
  have e : (blank.take 60).drop 1 = putT [] ++ List.replicate 58 0 := by
   rw [blank_take, List.drop_replicate]; unfold putT; simp only [List.length_nil, Int.ofNat_zero, List.append_nil]
   rw [e0]; rfl
  rw [e, getT_put [] _ (by decide)]
  unfold putT; simp only [List.length_nil, List.append_nil, Int.ofNat_zero]; rw [e0]; rfl
 unfold readF; rw [h]; simp only; rw [h2]; simp
theorem decF_blank (q : UInt8) : decF q blank = none ∨ decF q blank = some (0, []) := by
 unfold decF; split
 ·exact .inr readF_blank
 ·exact .inl rfl
theorem encS_len (t : Nat) (x : List UInt8) (hx : x.length ≤ 40) (ht : t ≤ 1099511627776) : (encS t x).length = 64 := encF_len _ t x (headS_len t x (by omega) (by omega))
theorem decS_enc (t : Nat) (x : List UInt8) (hx : x.length ≤ 40) (h1 : 1 ≤ t) (ht : t ≤ 1099511627776) : decS (encS t x) = some (t, x) := by
 unfold decS encS
 rw [decF_enc _ t x (headS_len t x (by omega) (by omega)) (by omega) (by omega)]
 unfold takeS
 simp only
 rw [if_neg (by omega), Int.toNat_natCast]
theorem decS_blank : decS blank = none := by
 unfold decS
 rcases decF_blank 83 with h | h <;> rw [h]
 ·rfl
 ·unfold takeS; simp
end Go.Proofs.YtemkjodkmehffaaGreatDoor
namespace Go.Proofs.YtemkjodkmehffaaGreatDoor
open Go Go.RowKit Go.Joins Go.Maps Go.Sort Go.Shelf
def SDev.looseZ (s : SDev) : List Int := s.loose.map fun n : Nat => (n : Int)
theorem look_some (s : SDev) (x : Int) : (s.look (.int .i64 x)).isSome = true ↔ x ∈ s.looseZ := by
 unfold SDev.looseZ SDev.loose
 rw [look_at, List.mem_map]
 constructor
 ·intro h
  by_cases hc : 0 ≤ x ∧ s.dirty.getD x.toNat false = true
  ·exact ⟨x.toNat, (mem_trues _ _).2 hc.2, by omega⟩
  ·rw [if_neg hc] at h; cases h
 ·rintro ⟨n, hn, rfl⟩
  rw [if_pos ⟨by omega, by rw [Int.toNat_natCast]; exact (mem_trues _ _).1 hn⟩]; rfl
theorem look_int (s : SDev) (l : Lit) (h : (s.look l).isSome = true) : ∃ x, l = .int .i64 x := by
 unfold SDev.look at h
 split at h
 ·exact ⟨_, rfl⟩
 ·cases h
theorem looseZ_nodup (s : SDev) : s.looseZ.Nodup := List.pairwise_map.2 ((trues_sorted s.dirty).imp fun h => by omega)
theorem looseZ_sorted (s : SDev) : s.looseZ.mergeSort leI = s.looseZ := sorted_self _ (List.pairwise_map.2 ((trues_sorted s.dirty).imp fun h => by omega))
theorem sortsA (m : Nat) : AnyZI.SortsIn Tryz.prog Tryz.sortedA_ren Fence.wide m :=
 ⟨fun blk off cap ss W hH hblk hsz => callsIn_wide.2 (AnyM.slices_Sort_int Tryz.sortA blk off cap ss W hH hblk hsz),
  fun p cap W => callsIn_wide.2 (AnyM.slices_Sort_int_none Tryz.sortA p cap W)⟩
set_option maxHeartbeats 1000000 in
theorem dloose_any (w : World) (p : Nat) (F : Foot) (s : SDev) (h : DAt w p F s) :
  Calls Tryz.prog 48 #[.pointer (some ⟨p, 0, none⟩)] w fun e w' => ∃ v, e = .returned v ∧ OwnN w' w.heap.size v s.loose ∧ Keeps (fun _ => True) w w' := by
 obtain ⟨g, c, b, h1, h2, h3, h4, m1, m2, m3⟩ := h.ex
 have c1 : w.cell? ⟨p, 1, none⟩ = some (.map (some b)) := (cell_of_block h1 1).trans rfl
 obtain ⟨D0, hown, hperm⟩ := h3.perm (int_keyed Tryz.underlying3) (looseZ_nodup s) (fun x => (look_some s x).symm) (look_int s)
 have hsz : Maps.size D0 ≤ s.loose.length := hown.size_le
 have hll : s.loose.length ≤ s.now.length := by have := trues_len s.dirty; rw [h.ok.dirty] at this; exact this
 have hsm := h.ok.small
 have hfin := Lib.hid (show ∀ (v : Value) (ss : List Int) (w' : World), ss.Perm (intKeys D0) → w'.ownsRow w.heap.size 3 1 v ss.length ((ss.mergeSort (fun x y => decide (x ≤ y))).map encZ) → OwnN w' w.heap.size v s.loose from by
  intro v ss w' hp ho
  have e : ss.mergeSort leI = s.looseZ := (mergeSort_of_perm_i (hp.trans hperm.symm)).trans (looseZ_sorted s)
  have hl : ss.length = s.loose.length := by rw [(hp.trans hperm.symm).length_eq]; simp [SDev.looseZ]
  have e2 : (ss.mergeSort (fun x y => decide (x ≤ y))).map encZ = nats s.loose := by
   show (ss.mergeSort leI).map encZ = _
   rw [e]; simp [SDev.looseZ, nats]
  rw [e2, hl] at ho
  exact ho)
 have hmax : Maps.size D0 ≤ maxLen := by unfold maxLen; omega
 have hbytes : Maps.size D0 * 8 ≤ 140737488355328 := by omega
 clear h h1 h2 h3 h4 m1 m2 m3 hperm hsz hll hsm
 refine (callsIn_wide (n := 6)).1 ?_
 have hbl := hown.lt
 have hseq : SeqGives Fence.wide 2 Tryz.prog 106 #[.pointer (some ⟨w.heap.size, 0, none⟩)] encZ (fun ss => ss.Perm (intKeys D0)) (Maps.size D0) (w.alloc (.cells #[.map (some b)] 90)) :=
  AnyZI.keys_gives (ρ := Tryz.keysA_ren) { Tryz.keysA with } Fence.wide _ trivial rfl (by omega) w.heap.size b _ D0 _ (by simp) (by simp) (by
   obtain ⟨es, clock, hb, Ft, hs, hD⟩ := hown
   exact ⟨es, clock, (Below.heap_alloc _ _ b hbl).trans hb, Ft, hs, hD⟩)
 have cK : ∀ mb W, CallsIn Fence.wide 5 Tryz.prog 79 #[.map mb] W fun e w' => e = .returned (.func (.func 106) #[] #[.pointer (some ⟨W.heap.size, 0, none⟩)]) ∧ w' = W.alloc (.cells #[.map mb] 90) := fun mb W => AnyZI.keys_in Tryz.keysA Fence.wide 5 trivial rfl mb W
 have cS := AnyZI.sorted_in Tryz.sortedA Fence.wide 5 trivial trivial trivial trivial rfl (by omega) (sortsA _) (enters_of Tryz.func44 (by kernel_rfl) rfl) 106 #[.pointer (some ⟨w.heap.size, 0, none⟩)] trivial (enters_of Tryz.func106 (by kernel_rfl) rfl) _ _ hmax hbytes _ hseq
 change CallsIn _ _ Tryz.prog 78 _ _ _ at cS
 have hfK : Fence.wide.fn 79 := trivial
 have hfS : Fence.wide.fn 78 := trivial
 refine callsIn_of_wp Tryz.func48 rfl trivial ?_ rfl
 simp only [Tryz.ntmps48, List.size_toArray, List.length_cons, List.length_nil, Nat.reduceAdd, Nat.reduceSub, Array.replicate_succ, Array.replicate_zero, List.push_toArray, List.append_toArray, List.nil_append, List.cons_append]
 gi_wp2_with (first
  | (gi_at_call 79; refine (cK _ _).mono ?_; rintro e w' ⟨rfl, rfl⟩)
  | (gi_at_call 78; refine cS.mono ?_; rintro e w' ⟨v, ss, rfl, hS, hrow, hnil, hb⟩))
 go_ret
 exact ⟨v, rfl, hfin.out v ss _ hS (ownsRow_base_a hrow (by simp)), Keeps.of_below (((Below.refl _ w).alloc (Nat.le_refl _) _).trans (hb.mono (by simp))) _⟩
end Go.Proofs.YtemkjodkmehffaaGreatDoor
