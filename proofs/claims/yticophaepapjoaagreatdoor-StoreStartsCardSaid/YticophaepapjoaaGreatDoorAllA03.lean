/-
  Num, NumPut, NumGet, NumAll, MtCode: texts of mine, joined.
-/
import Derived.Test.YticophaepapjoaaGreatDoorAllA01
import Derived.Test.YticophaepapjoaaGreatDoorWords
import Derived.Test.YticophaepapjoaaGreatDoorAllA00
import Derived.Test.YticophaepapjoaaGreatDoorProg
import Derived.WalkKit
import Derived.Lib.Hide
import Derived.WalkSpells
import Derived.BigQuiet
import Derived.Test.YticophaepapjoaaGreatDoorAllA02
import Derived.Deep.CutRange
namespace Go.Proofs.YticophaepapjoaaGreatDoor
open Go Go.RowKit
theorem ret_int {k : IntKind} {a b : Int} (h : a = b) : Ending.returned (.int k a) = .returned (.int k b) := by rw [h]
theorem i64_compl (n : Int) (h1 : -9223372036854775808 ≤ n) (h2 : n < 9223372036854775808) : bits .xor .i64 (-1) n = -n - 1 := by
 show IntKind.i64.wrap ((BitVec.ofInt 64 (-1) ^^^ BitVec.ofInt 64 n).toNat : Int) = _
 have e1 : BitVec.ofInt 64 (-1) = BitVec.allOnes 64 := by decide
 rw [e1, BitVec.allOnes_xor, BitVec.toNat_not, BitVec.toNat_ofInt, IntKind.wrap_i64]
 omega
theorem fold_any (n : Int) (h1 : -9223372036854775808 ≤ n) (h2 : n < 9223372036854775808) (w : World) :
  Calls Tryz.prog 143 #[.int .i64 n] w fun e w' => e = .returned (.int .u64 (zig n : Nat)) ∧ w = w' := by
 by_cases hn : n < 0
 ·have E : IntKind.u64.wrap (IntKind.u64.wrap (IntKind.u64.wrap (bits .xor .i64 (-1) n) * 2) + 1) = ((zig n : Nat) : Int) := by
   rw [i64_compl n h1 h2]
   simp only [IntKind.wrap_u64, zig, if_pos hn]
   omega
  have H := Lib.hid E
  clear E
  go_enter Tryz.func143, Tryz.ntmps143
  go_wp2
  go_ret
  exact ⟨ret_int H.out, rfl⟩
 ·have E : n * 2 = ((zig n : Nat) : Int) := by unfold zig; rw [if_neg hn]; omega
  have H := Lib.hid E
  clear E
  have h0 : 0 ≤ n := by omega
  go_enter Tryz.func143, Tryz.ntmps143
  go_wp2
  go_ret
  exact ⟨ret_int H.out, rfl⟩
theorem unfold_any (u : Nat) (h : u < 18446744073709551616) (w : World) :
  Calls Tryz.prog 165 #[.int .u64 u] w fun e w' => e = .returned (.int .i64 (zag u)) ∧ w = w' := by
 by_cases h1 : u % 2 = 1
 ·have E : bits .xor .i64 (-1) ((u : Int) / 2) = zag u := by
   rw [i64_compl _ (by omega) (by omega)]
   unfold zag; rw [if_pos h1]; omega
  have H := Lib.hid E
  have ht : ((u : Int) % 2 == 1) = true := by simp; omega
  clear E h1
  go_enter Tryz.func165, Tryz.ntmps165
  go_wp2
  go_ret
  exact ⟨ret_int H.out, rfl⟩
 ·have E : ((u : Int) / 2) = zag u := by unfold zag; rw [if_neg h1]; omega
  have H := Lib.hid E
  have ht : ((u : Int) % 2 == 1) = false := by simp; omega
  clear E h1
  go_enter Tryz.func165, Tryz.ntmps165
  go_wp2
  go_ret
  exact ⟨ret_int H.out, rfl⟩
set_option maxHeartbeats 400000 in
theorem put_number (n : Int) (h1 : -9223372036854775808 ≤ n) (h2 : n < 9223372036854775808) (v : Value) (l : List UInt8) (base : Nat) (w : World) (hown : OwnB w base v l) (hbase : base ≤ w.heap.size)
  (hl : l.length ≤ 1099511627776) :
  Calls Tryz.prog 112 #[v, .int .i64 n] w fun e w' => ∃ v', e = .returned v' ∧ OwnB w' base v' (l ++ putZ n) ∧ Onto w v w' v' := by
 have hz := zig_lt n h1 h2
 have hp := putZ_len n h1 h2
 unfold putZ at hp ⊢
 go_enter Tryz.func112, Tryz.ntmps112
 go_wp2_with (go_at_call 143; ((with_reducible refine (fold_any n h1 h2 _).mono ?_); rintro e w' ⟨rfl, rfl⟩))
 generalize hzz : zig n = z at hz hp
 have HZ := Lib.hid hzz
 clear hzz
 go_loopw [0, 5] (fun u f wr => ∃ (m : Nat) (p : List UInt8), m < 18446744073709551616 ∧ p ++ vin m = vin z ∧ f = .int .u64 (m : Nat) ∧ OwnB wr base u (l ++ p) ∧ Onto w v wr u) (fun _ f _ => (intOf f).toNat)
 case atStart => exact ⟨z, [], hz, rfl, rfl, by simpa using hown, Onto.refl _ _⟩
 case round =>
  obtain ⟨m, p, hm, hpz, rfl, ho, hto⟩ := hrel
  have hpl : p.length ≤ 10 := by
   have : (p ++ vin m).length = (vin z).length := by rw [hpz]
   rw [List.length_append] at this; omega
  have hws := hto.1.size
  have Hm := Lib.hid hm
  have Hz := Lib.hid hpz
  have Ho := Lib.hid ho
  have Ht := Lib.hid hto
  clear hm hpz ho hto hown hz hp h1 h2
  by_cases hs : m < 128
  ·have ht : decide ((128 : Int) ≤ (m : Int)) = false := by simp; omega
   have E : bcells (l ++ p) ++ [Value.int .u8 (m : Int)] = bcells ((l ++ p) ++ vin m) := by
    rw [bcells_append (l ++ p), vin_small m hs]
    simp only [bcells, bcell, List.map_cons, List.map_nil]
    rw [UInt8.toNat_ofNat', Nat.mod_eq_of_lt (by omega)]
   have HE := Lib.hid E
   clear E
   go_wp2_with (at_builtin; refine byte_elem.list_append rfl (.tmp 19) (.tmp 22) _ rfl rfl (Ho.out.alloc _) rfl (src_one Tryz.underlying64 _ _ _ ?c1 _ ?c2 _) ?c3 ?c4 ?c5 ?_)
   case c1 => rfl
   case c2 => rfl
   case c3 => unfold maxLen; simp; omega
   case c4 => simp; omega
   case c5 => simp; omega
   intro v' w1 hown' hg hb
   rw [HE.out] at hown'
   have hto' : Onto w v w1 v' := (Ht.out.alloc _).grown hg (by simpa using hb)
   have hown2 : OwnB w1 base v' (l ++ vin z) := by
    rw [← Hz.out, ← List.append_assoc]
    unfold OwnB
    have el : ((l ++ p) ++ vin m).length = l.length + p.length + 1 := by simp [vin_small m hs]; omega
    rw [el]; exact hown'
   have H1 := Lib.hid hto'
   have H2 := Lib.hid hown2
   clear hto' hown2 hown' hg hb HE
   go_wp2
   go_ret
   exact ⟨_, rfl, by rw [HZ.out]; exact H2.out, H1.out⟩
  ·have ht : decide ((128 : Int) ≤ (m : Int)) = true := by simp; omega
   have E : bcells (l ++ p) ++ [Value.int .u8 ((m : Int) % 128 + 128)] = bcells (l ++ (p ++ [UInt8.ofNat (m % 128 + 128)])) := by
    rw [← List.append_assoc, bcells_append (l ++ p)]
    simp only [bcells, bcell, List.map_cons, List.map_nil]
    rw [UInt8.toNat_ofNat', Nat.mod_eq_of_lt (by omega)]; rfl
   have HE := Lib.hid E
   clear E
   go_wp2_with (at_builtin; refine byte_elem.list_append rfl (.tmp 10) (.tmp 15) _ rfl rfl (Ho.out.alloc _) rfl (src_one Tryz.underlying64 _ _ _ ?c1 _ ?c2 _) ?c3 ?c4 ?c5 ?_)
   case c1 => rfl
   case c2 => rfl
   case c3 => unfold maxLen; simp; omega
   case c4 => simp; omega
   case c5 => simp; omega
   intro v' w1 hown' hg hb
   rw [HE.out] at hown'
   have hto' : Onto w v w1 v' := (Ht.out.alloc _).grown hg (by simpa using hb)
   have hown2 : OwnB w1 base v' (l ++ (p ++ [UInt8.ofNat (m % 128 + 128)])) := by
    unfold OwnB
    have el : (l ++ (p ++ [UInt8.ofNat (m % 128 + 128)])).length = l.length + p.length + 1 := by simp; omega
    rw [el]; exact hown'
   have H1 := Lib.hid hto'
   have H2 := Lib.hid hown2
   clear hto' hown2 hown' hg hb HE
   go_wp2
   go_roundw
   case rel =>
    refine ⟨m / 128, _, ?_, ?_, ?_, H2.out, H1.out⟩
    ·have := Hm.out; omega
    ·rw [List.append_assoc, List.singleton_append, ← vin_big m hs]; exact Hz.out
    ·rfl
   case measure => simp [intOf]; omega
def putsZ (ns : List Int) : List UInt8 := ns.flatMap putZ
theorem putsZ_next (ns : List Int) (k : Nat) (h : k < ns.length) : putsZ (ns.take (k + 1)) = putsZ (ns.take k) ++ putZ ns[k] := by
 unfold putsZ; rw [List.take_succ_eq_append_getElem h, List.flatMap_append]; simp
theorem putsZ_len (ns : List Int) (h : ∀ n ∈ ns, -9223372036854775808 ≤ n ∧ n < 9223372036854775808) : (putsZ ns).length ≤ 10 * ns.length := by
 induction ns with
 | nil => simp [putsZ]
 | cons n ns ih =>
  have h1 := putZ_len n (h n (by simp)).1 (h n (by simp)).2
  have h2 := ih fun m hm => h m (by simp [hm])
  simp only [putsZ, List.flatMap_cons, List.length_append, List.length_cons] at h2 ⊢
  omega
def putsT (ts : List (List UInt8)) : List UInt8 := ts.flatMap putT
set_option maxHeartbeats 400000 in
theorem put_any (A B : Option Addr) (c d : Nat) (F G : Nat → Prop) (l : List UInt8) (ns : List Int) (w : World) (h : Row w A F (bcells l)) (hB : Row w B G (ns.map (Value.int .i64)))
  (hn : ∀ n ∈ ns, -9223372036854775808 ≤ n ∧ n < 9223372036854775808) (hl : l.length ≤ 549755813888) (hnl : ns.length ≤ 34359738368) :
  Calls Tryz.prog 79 #[.slice A l.length c, .slice B ns.length d] w fun e w' => ∃ v', e = .returned v' ∧ OwnB w' w.heap.size v' (l ++ putsZ ns) ∧ Keeps (fun _ => True) w w' := by
 have HB := Lib.hid hB
 have HA := Lib.hid h
 have HN := Lib.hid hn
 clear h hB hn
 go_enter Tryz.func79, Tryz.ntmps79
 go_wp2_with (go_at_call 111; ((with_reducible refine (clone_any _ _ _ l _ HA.out ?c1).mono ?_)))
 case c1 => omega
 rintro e w1 ⟨v1, rfl, ho, hk⟩
 have HO := Lib.hid ho
 have HK := Lib.hid hk
 clear ho hk
 go_wp2
 go_loopw [5, 12] (fun u i wr => ∃ k : Nat, k ≤ ns.length ∧ i = .int .i64 k ∧ OwnB wr w.heap.size u (l ++ putsZ (ns.take k)) ∧ Keeps (fun _ => True) w wr) (fun _ i _ => ns.length - (intOf i).toNat)
 case atStart => exact ⟨0, Nat.zero_le _, rfl, by simpa [putsZ] using HO.out, HK.out⟩
 case round =>
  obtain ⟨k, hk, rfl, ho, hkp⟩ := hrel
  by_cases hlt : k < ns.length
  ·obtain ⟨b, o, rfl, _, hcell⟩ := (HB.out.keep (hkp.mono fun _ _ _ => trivial)).at_ (k := k) (by simpa using hlt)
   simp only [List.getElem_map] at hcell
   have hb := HN.out ns[k] (List.getElem_mem hlt)
   have hln := putsZ_len (ns.take k) fun n hn => HN.out n (List.mem_of_mem_take hn)
   have hlt' : (l ++ putsZ (ns.take k)).length ≤ 1099511627776 := by
    rw [List.length_append]
    have : (ns.take k).length ≤ k := List.length_take_le _ _
    omega
   have H := Lib.hid (putsZ_next ns k hlt)
   have hsz := hkp.size
   have HO' := Lib.hid ho
   have HK' := Lib.hid hkp
   clear ho hkp hln
   go_wp2_with (go_at_call 112; ((with_reducible refine (put_number _ hb.1 hb.2 _ _ w.heap.size _ HO'.out ?c2 hlt').mono ?_)))
   case c2 => omega
   rintro e w2 ⟨v2, rfl, ho2, hto⟩
   have hown := HO'.out
   have hk2 : Keeps (fun _ => True) w w2 := hto.keeps HK'.out fun i hi => (hown.lt i hi).1
   rw [List.append_assoc, ← H.out] at ho2
   have H1 := Lib.hid ho2
   have H2 := Lib.hid hk2
   clear ho2 hk2 hto hown
   go_wp2
   go_roundw
   case rel => exact ⟨k + 1, by omega, by go_num, H1.out, H2.out⟩
   case measure => simp [intOf]; omega
  ·obtain rfl : k = ns.length := by omega
   rw [List.take_length] at ho
   have H1 := Lib.hid ho
   have H2 := Lib.hid hkp
   clear ho hkp
   go_wp2
   go_ret
   exact ⟨_, rfl, H1.out, H2.out⟩
def strs (ts : List ByteArray) : List (List UInt8) := ts.map (·.data.toList)
theorem strs_next (ts : List ByteArray) (k : Nat) (h : k < ts.length) : putsT (strs (ts.take (k + 1))) = putsT (strs (ts.take k)) ++ putT ts[k].data.toList := by
 unfold putsT strs; rw [List.take_succ_eq_append_getElem h, List.map_append, List.flatMap_append]; simp
def total (ts : List ByteArray) : Nat := (ts.map (·.size)).sum
theorem total_take (ts : List ByteArray) (k : Nat) : total (ts.take k) ≤ total ts := by
 unfold total
 conv => rhs; rw [← List.take_append_drop k ts]
 rw [List.map_append, List.sum_append]; omega
theorem total_mem (ts : List ByteArray) (s : ByteArray) (h : s ∈ ts) : s.size ≤ total ts := by
 unfold total
 induction ts with
 | nil => simp at h
 | cons t ts ih =>
  simp only [List.map_cons, List.sum_cons]
  rcases List.mem_cons.1 h with rfl | h
  ·omega
  ·have := ih h; omega
theorem putsT_len (ts : List ByteArray) (h : ∀ s ∈ ts, s.size < 9223372036854775808) : (putsT (strs ts)).length ≤ 10 * ts.length + total ts := by
 induction ts with
 | nil => simp [putsT, strs]
 | cons t ts ih =>
  have ht : t.data.toList.length = t.size := by simp
  have hsz := h t (by simp)
  have h1 := putZ_len (t.data.toList.length : Int) (by omega) (by omega)
  have h2 := ih fun m hm => h m (by simp [hm])
  simp only [putsT, strs, putT, total, List.flatMap_cons, List.map_cons, List.sum_cons, List.length_append, List.length_cons] at h1 h2 ⊢
  omega
set_option maxHeartbeats 400000 in
theorem put_text (A B : Option Addr) (c d : Nat) (F G : Nat → Prop) (l : List UInt8) (ts : List ByteArray) (w : World) (h : Row w A F (bcells l)) (hB : Row w B G (ts.map Value.string))
  (ht : total ts ≤ 137438953472) (hl : l.length ≤ 549755813888) (hnl : ts.length ≤ 34359738368) :
  Calls Tryz.prog 104 #[.slice A l.length c, .slice B ts.length d] w fun e w' => ∃ v', e = .returned v' ∧ OwnB w' w.heap.size v' (l ++ putsT (strs ts)) ∧ Keeps (fun _ => True) w w' := by
 have HB := Lib.hid hB
 have HA := Lib.hid h
 have HT := Lib.hid ht
 clear h hB ht
 go_enter Tryz.func104, Tryz.ntmps104
 go_wp2_with (go_at_call 111; ((with_reducible refine (clone_any _ _ _ l _ HA.out ?c1).mono ?_)))
 case c1 => omega
 rintro e w1 ⟨v1, rfl, ho, hk⟩
 have HO := Lib.hid ho
 have HK := Lib.hid hk
 clear ho hk
 go_wp2
 go_loopw [5, 12] (fun u i wr => ∃ k : Nat, k ≤ ts.length ∧ i = .int .i64 k ∧ OwnB wr w.heap.size u (l ++ putsT (strs (ts.take k))) ∧ Keeps (fun _ => True) w wr) (fun _ i _ => ts.length - (intOf i).toNat)
 case atStart => exact ⟨0, Nat.zero_le _, rfl, by simpa [putsT, strs] using HO.out, HK.out⟩
 case round =>
  obtain ⟨k, hk, rfl, ho, hkp⟩ := hrel
  by_cases hlt : k < ts.length
  ·obtain ⟨b, o, rfl, _, hcell⟩ := (HB.out.keep (hkp.mono fun _ _ _ => trivial)).at_ (k := k) (by simpa using hlt)
   simp only [List.getElem_map] at hcell
   have hsb : ts[k].size ≤ 137438953472 := Nat.le_trans (total_mem ts _ (List.getElem_mem hlt)) HT.out
   have hb1 : (-9223372036854775808 : Int) ≤ (ts[k].size : Int) := by omega
   have hb2 : (ts[k].size : Int) < 9223372036854775808 := by omega
   have hln := putsT_len (ts.take k) fun s hs => by
    have := total_mem ts s (List.mem_of_mem_take hs)
    have := HT.out
    omega
   have hlt' : (l ++ putsT (strs (ts.take k))).length ≤ 1099511627776 := by
    rw [List.length_append]
    have := total_take ts k
    have := HT.out
    have : (ts.take k).length ≤ k := List.length_take_le _ _
    omega
   have H := Lib.hid (strs_next ts k hlt)
   have hsz := hkp.size
   have HO' := Lib.hid ho
   have HK' := Lib.hid hkp
   have h10 := putZ_len (ts[k].size : Int) hb1 hb2
   clear ho hkp hln
   generalize hs : ts[k] = s at hcell hsb hb1 hb2 H h10
   clear hs
   go_wp2_with (go_at_call 112; ((with_reducible refine (put_number _ hb1 hb2 _ _ w.heap.size _ HO'.out ?c2 hlt').mono ?_)))
   case c2 => omega
   rintro e w2 ⟨v2, rfl, ho2, hto⟩
   have hown := HO'.out
   have hk2 : Keeps (fun _ => True) w w2 := hto.keeps HK'.out fun i hi => (hown.lt i hi).1
   have hsz2 := hk2.size
   have hl2 : (l ++ putsT (strs (ts.take k)) ++ putZ (s.size : Int)).length ≤ 1099511627786 := by rw [List.length_append]; omega
   have H1 := Lib.hid ho2
   have H2 := Lib.hid hk2
   clear ho2 hk2 hto hown h10 hb1 hb2 hlt'
   go_wp2_with (at_builtin; refine byte_elem.list_append rfl (.tmp 20) (.tmp 21) _ rfl rfl H1.out rfl (Src.ofString _ Tryz.underlying9 s) ?c3 ?c4 ?c5 ?_)
   case c3 => unfold maxLen; omega
   case c4 => omega
   case c5 => omega
   intro v3 w3 ho3 hg hb
   have hown := H1.out
   have hk3 : Keeps (fun _ => True) w w3 := ((Onto.refl _ _).grown hg hb).keeps H2.out fun i hi => (hown.lt i hi).1
   have ho4 : OwnB w3 w.heap.size v3 (l ++ putsT (strs (ts.take (k + 1)))) := by
    have es : s.data.toList.length = s.size := by simp
    have e4 : l ++ putsT (strs (ts.take (k + 1))) = (l ++ putsT (strs (ts.take k)) ++ putZ (s.size : Int)) ++ s.data.toList := by
     rw [H.out, putT, es]; simp only [List.append_assoc]
    rw [e4]
    refine OwnB.snoc ho3 ?_ (by rw [bcells_str]; simp only [List.append_assoc])
    simp only [List.append_assoc, List.length_append, es]; simp only [Nat.add_assoc]
   have H3 := Lib.hid ho4
   have H4 := Lib.hid hk3
   clear ho4 hk3 hg hb ho3 hown
   go_wp2
   go_roundw
   case rel => exact ⟨k + 1, by omega, by go_num, H3.out, H4.out⟩
   case measure => simp [intOf]; omega
  ·obtain rfl : k = ts.length := by omega
   rw [List.take_length] at ho
   have H1 := Lib.hid ho
   have H2 := Lib.hid hkp
   clear ho hkp
   go_wp2
   go_ret
   exact ⟨_, rfl, H1.out, H2.out⟩
theorem pow128 (k : Nat) : (128 : Nat) ^ k = 2 ^ (7 * k) := by rw [Nat.pow_mul]
theorem or_shift (k u q : Nat) (hk : k ≤ 9) (hu : u < 128 ^ k) (hq : q % 128 * 128 ^ k < 18446744073709551616) :
  bits .or .u64 (u : Int) (IntKind.u64.wrap ((q : Int) % 128 * 2 ^ (7 * k))) = ((u + q % 128 * 128 ^ k : Nat) : Int) := by
 have e1 : ((q : Int) % 128 * 2 ^ (7 * k)) = ((q % 128 * 128 ^ k : Nat) : Int) := by
  rw [pow128]; push_cast; rfl
 have hw : IntKind.u64.wrap (((q % 128 * 128 ^ k : Nat) : Int)) = ((q % 128 * 128 ^ k : Nat) : Int) := by
  rw [IntKind.wrap_u64]; omega
 have hul : u < 18446744073709551616 := Nat.lt_of_lt_of_le hu (Nat.le_trans (Nat.pow_le_pow_right (by decide) hk) (by decide))
 rw [e1, hw, u64_or_nat _ _ hul hq]
 congr 1
 rw [Nat.or_comm, nat_join (7 * k) _ _ (by rw [← pow128]; exact Nat.mul_mod_left _ _) (by rw [← pow128]; exact hu)]
 omega
theorem getZ_form {l : List UInt8} (h : vget 0 0 l = .form) : getZ l = (0, 0, 1) := by unfold getZ; rw [h]
theorem getZ_more {l : List UInt8} (h : vget 0 0 l = .more) : getZ l = (0, 0, 2) := by unfold getZ; rw [h]
theorem getZ_got {l : List UInt8} {u k : Nat} (h : vget 0 0 l = .ok u k) : getZ l = (zag u, k, 0) := by unfold getZ; rw [h]
set_option maxRecDepth 100000 in
set_option maxHeartbeats 1000000 in
theorem get_any (A : Option Addr) (c : Nat) (F : Nat → Prop) (l : List UInt8) (w : World) (h : Row w A F (bcells l)) (hl : l.length ≤ 1099511627776) :
  Calls Tryz.prog 125 #[.slice A l.length c] w fun e w' => e = .returned (.tuple #[.int .i64 (getZ l).1, .int .i64 ((getZ l).2.1 : Nat), .int .i64 ((getZ l).2.2 : Nat)]) ∧ w = w' := by
 have HA := Lib.hid h
 clear h
 go_enter Tryz.func125, Tryz.ntmps125
 go_wp2
 go_loop [5, 10] (fun f i => ∃ (k u : Nat), k ≤ l.length ∧ k ≤ 9 ∧ u < 128 ^ k ∧ vget 0 0 l = vget k u (l.drop k) ∧ i = .int .i64 k ∧ f = .int .u64 (u : Nat)) (fun _ i => l.length - (intOf i).toNat)
 case atStart => exact ⟨0, 0, Nat.zero_le _, by omega, by decide, by simp, rfl, rfl⟩
 case round =>
  obtain ⟨k, u, hk, hk9, hu, hv, rfl, rfl⟩ := hrel
  by_cases hlt : k < l.length
  ·obtain ⟨b, o, rfl, _, hcell⟩ := HA.out.at_ (k := k) (by rw [bcells_len]; exact hlt)
   have hd : l.drop k = l[k] :: l.drop (k + 1) := List.drop_eq_getElem_cons hlt
   rw [hd, vget] at hv
   simp only [bcells, bcell, List.getElem_map] at hcell
   generalize l[k] = x at hcell hv
   have hx := x.toNat_lt
   generalize x.toNat = q at hcell hx hv
   by_cases h9 : k = 9 ∧ 1 < q
   ·rw [if_pos h9] at hv
    have HV := Lib.hid (getZ_form hv)
    have t9 : ((k : Int) == 9) = true := by simp; omega
    have t1 : decide ((1 : Int) < (q : Int)) = true := by simp; omega
    clear hv hu hd h9
    go_wp2_with fail
    go_ret3
    exact ⟨by rw [HV.out]; rfl, rfl⟩
   ·rw [if_neg h9] at hv
    have hq : q % 128 * 128 ^ k < 18446744073709551616 := by
     by_cases e9 : k = 9
     ·subst e9
      have e : (128 : Nat) ^ 9 = 9223372036854775808 := by decide
      rw [e]; omega
     ·have h1 : q % 128 * 128 ^ k ≤ 127 * 128 ^ 8 := Nat.mul_le_mul (by omega) (Nat.pow_le_pow_right (by decide) (by omega))
      exact Nat.lt_of_le_of_lt h1 (by decide)
    have hnu : u + q % 128 * 128 ^ k < 128 ^ (k + 1) := by
     have h1 : q % 128 ≤ 127 := by omega
     have h2 := Nat.mul_le_mul_right (128 ^ k) h1
     rw [Nat.pow_succ]; omega
    have hlt64 : u + q % 128 * 128 ^ k < 18446744073709551616 := by
     by_cases e9 : k = 9
     ·subst e9
      have e : (128 : Nat) ^ 9 = 9223372036854775808 := by decide
      rw [e] at hu ⊢; omega
     ·exact Nat.lt_of_lt_of_le hnu (Nat.le_trans (Nat.pow_le_pow_right (by decide) (show k + 1 ≤ 9 by omega)) (by decide))
    have E := or_shift k u q hk9 hu hq
    have HE := Lib.hid E
    have HN := Lib.hid hnu
    have H64 := Lib.hid hlt64
    clear E hq hu hd hnu hlt64
    have key : (((k : Int) == 9) = true ∧ decide ((1 : Int) < (q : Int)) = false ∧ q < 128) ∨ ((k : Int) == 9) = false := by
     by_cases e9 : k = 9
     ·left; refine ⟨by simp; omega, by simp; omega, by omega⟩
     ·right; simp; omega
    clear h9
    by_cases h128 : 128 ≤ q
    ·rw [if_pos h128] at hv
     have HV := Lib.hid hv
     have t9 : ((k : Int) == 9) = false := by rcases key with ⟨_, _, h⟩ | h; omega; exact h
     have t128 : decide ((128 : Int) ≤ (q : Int)) = true := by simp; omega
     have hk8 : k ≤ 8 := by simp at t9; omega
     clear hv key
     go_wp2_with fail
     go_round
     case rel => exact ⟨k + 1, u + q % 128 * 128 ^ k, by omega, by omega, HN.out, HV.out, by go_num, by rw [HE.out]⟩
     case measure => simp [intOf]; omega
    ·rw [if_neg h128] at hv
     by_cases h0 : q = 0 ∧ 0 < k
     ·rw [if_pos h0] at hv
      have HV := Lib.hid (getZ_form hv)
      obtain ⟨rfl, hk0⟩ := h0
      clear hv
      rcases key with ⟨t9, t1, _⟩ | t9
      all_goals
       go_wp2_with fail
       go_ret3
       exact ⟨by rw [HV.out]; rfl, rfl⟩
     ·rw [if_neg h0] at hv
      have HV := Lib.hid (getZ_got hv)
      clear hv
      have key0 : ((q : Int) == 0) = false ∨ (((q : Int) == 0) = true ∧ decide (0 < k) = false) := by
       by_cases e0 : q = 0
       ·right; exact ⟨by simp; omega, by simp; omega⟩
       ·left; simp; omega
      clear h0
      rcases key with ⟨t9, t1, _⟩ | t9 <;> rcases key0 with z0 | ⟨z0, z1⟩
      all_goals
       go_wp2_with (go_at_call 165; rw [HE.out]; ((with_reducible refine (unfold_any _ H64.out _).mono ?_); rintro e w' ⟨rfl, rfl⟩))
       go_ret3
       exact ⟨by rw [HV.out]; rfl, rfl⟩
  ·have hv2 : vget 0 0 l = .more := by rw [hv, List.drop_eq_nil_of_le (by omega)]; rfl
   have HV := Lib.hid (getZ_more hv2)
   clear hv hv2 hu
   go_wp2_with fail
   go_ret3
   exact ⟨by rw [HV.out]; rfl, rfl⟩
theorem getT_err {l : List UInt8} {n : Int} {k e : Nat} (h : getZ l = (n, k, e)) (he : e ≠ 0) : getT l = ([], 0, e) := by
 unfold getT; rw [h]
 cases e with
 | zero => exact absurd rfl he
 | succ e => rfl
theorem getT_form {l : List UInt8} {n : Int} {k : Nat} (h : getZ l = (n, k, 0)) (hn : n < 0 ∨ 65536 < n) : getT l = ([], 0, 1) := by
 unfold getT; rw [h]; simp only [if_pos hn]
theorem getT_more {l : List UInt8} {n : Int} {k : Nat} (h : getZ l = (n, k, 0)) (hn : ¬ (n < 0 ∨ 65536 < n)) (hl : (l.length : Int) < k + n) : getT l = ([], 0, 2) := by
 unfold getT; rw [h]; simp only [if_neg hn, if_pos hl]
theorem getT_got {l : List UInt8} {n : Int} {k : Nat} (h : getZ l = (n, k, 0)) (hn : ¬ (n < 0 ∨ 65536 < n)) (hl : ¬ (l.length : Int) < k + n) : getT l = ((l.drop k).take n.toNat, k + n.toNat, 0) := by
 unfold getT; rw [h]; simp only [if_neg hn, if_neg hl]
theorem get_is (A : Option Addr) (c : Nat) (F : Nat → Prop) (l : List UInt8) (w : World) (h : Row w A F (bcells l)) (hl : l.length ≤ 1099511627776) (n : Int) (k e : Nat) (hg : getZ l = (n, k, e)) :
  Calls Tryz.prog 125 #[.slice A l.length c] w fun e' w' => e' = .returned (.tuple #[.int .i64 n, .int .i64 (k : Nat), .int .i64 (e : Nat)]) ∧ w = w' := by
 have := get_any A c F l w h hl
 rw [hg] at this
 exact this
set_option maxRecDepth 100000 in
set_option maxHeartbeats 1000000 in
theorem get_text (A : Option Addr) (c : Nat) (F : Nat → Prop) (l : List UInt8) (w : World) (h : Row w A F (bcells l)) (hl : l.length ≤ 1099511627776) (hc : l.length ≤ c) (hcm : c ≤ maxLen) :
  Calls Tryz.prog 126 #[.slice A l.length c] w fun e w' => e = .returned (.tuple #[.string (txt (getT l).1), .int .i64 ((getT l).2.1 : Nat), .int .i64 ((getT l).2.2 : Nat)]) ∧ w = w' := by
 unfold maxLen at hcm
 have HA := Lib.hid h
 clear h
 have bad : ∀ e : Nat, e ≠ 0 → ∀ n k, getZ l = (n, k, e) → Calls Tryz.prog 126 #[.slice A l.length c] w fun e w' => e = .returned (.tuple #[.string (txt (getT l).1), .int .i64 ((getT l).2.1 : Nat), .int .i64 ((getT l).2.2 : Nat)]) ∧ w = w' := by
  intro e he n k hg
  have HV := Lib.hid (getT_err hg he)
  have HG := Lib.hid hg
  have t0 : ((e : Int) != 0) = true := by simp; omega
  clear hg he
  go_enter Tryz.func126, Tryz.ntmps126
  go_wp2_with (go_at_call 125; ((with_reducible refine (get_is _ _ _ l _ HA.out hl _ _ _ HG.out).mono ?_); rintro e w' ⟨rfl, rfl⟩))
  go_ret3
  exact ⟨by rw [HV.out]; rfl, rfl⟩
 rcases getZ_cases l with ⟨n, k, hg, hk0, hk10, hkl, hn1, hn2⟩ | hg | hg
 ·obtain ⟨b, o, rfl, _, _⟩ := HA.out.at_ (k := 0) (by rw [bcells_len]; omega)
  have HG := Lib.hid hg
  by_cases hneg : n < 0
  ·have HV := Lib.hid (getT_form hg (.inl hneg))
   clear hg bad
   go_enter Tryz.func126, Tryz.ntmps126
   go_wp2_with (go_at_call 125; ((with_reducible refine (get_is _ _ _ l _ HA.out hl _ _ _ HG.out).mono ?_); rintro e w' ⟨rfl, rfl⟩))
   go_ret3
   exact ⟨by rw [HV.out]; rfl, rfl⟩
  ·have tneg : decide (n < 0) = false := by simp; omega
   by_cases hbig : 65536 < n
   ·have HV := Lib.hid (getT_form hg (.inr hbig))
    clear hg bad
    go_enter Tryz.func126, Tryz.ntmps126
    go_wp2_with (go_at_call 125; ((with_reducible refine (get_is _ _ _ l _ HA.out hl _ _ _ HG.out).mono ?_); rintro e w' ⟨rfl, rfl⟩))
    go_ret3
    exact ⟨by rw [HV.out]; rfl, rfl⟩
   ·have tbig : decide (65536 < n) = false := by simp; omega
    have hn3 : ¬ (n < 0 ∨ 65536 < n) := by omega
    by_cases hmore : (l.length : Int) < k + n
    ·have HV := Lib.hid (getT_more hg hn3 hmore)
     clear hg bad hn3
     go_enter Tryz.func126, Tryz.ntmps126
     go_wp2_with (go_at_call 125; ((with_reducible refine (get_is _ _ _ l _ HA.out hl _ _ _ HG.out).mono ?_); rintro e w' ⟨rfl, rfl⟩))
     go_ret3
     exact ⟨by rw [HV.out]; rfl, rfl⟩
    ·have HV := Lib.hid (getT_got hg hn3 hmore)
     obtain ⟨m, rfl⟩ := Int.eq_ofNat_of_zero_le (show 0 ≤ n by omega)
     have hmz : k + m ≤ l.length := by omega
     clear hg bad hn3 hmore hn1 hn2
     by_cases hck : c = k
     ·subst hck
      obtain rfl : m = 0 := by omega
      have hr0 : Row w (some ⟨b, o, none⟩) F (bcells []) := Row.nil _ _ _
      have hcv := hr0.to_string (P := Tryz.prog) Tryz.underlying64 Tryz.underlying5 Tryz.underlying9 0 0 rfl
      clear hr0
      go_enter Tryz.func126, Tryz.ntmps126
      go_wp2_with (go_at_call 125; ((with_reducible refine (get_is _ _ _ l _ HA.out hl _ _ _ HG.out).mono ?_); rintro e w' ⟨rfl, rfl⟩))
      go_ret3
      exact ⟨by rw [HV.out]; rfl, rfl⟩
     ·have hr := (HA.out.cut (k := k) (cap := c) (by rw [bcells_len]; omega) (by rw [bcells_len]; exact hc)).take (k := m)
      rw [if_neg hck, bcells, ← List.map_drop, ← List.map_take] at hr
      have hcv := Row.to_string (P := Tryz.prog) hr Tryz.underlying64 Tryz.underlying5 Tryz.underlying9 m (c - k) (by rw [List.length_take, List.length_drop]; omega)
      simp only [Option.map_some, WideShapes.add_plain] at hcv
      generalize hT : txt (List.take m (List.drop k l)) = T at hcv
      have HT := Lib.hid hT
      clear hr hT
      go_enter Tryz.func126, Tryz.ntmps126
      go_wp2_with (go_at_call 125; ((with_reducible refine (get_is _ _ _ l _ HA.out hl _ _ _ HG.out).mono ?_); rintro e w' ⟨rfl, rfl⟩))
      go_ret3
      exact ⟨by rw [HV.out, ← HT.out]; rfl, rfl⟩
 ·exact bad 1 (by decide) 0 0 hg
 ·exact bad 2 (by decide) 0 0 hg
def allZ : Nat → List UInt8 → List Int × Nat × Nat
 | 0, _ => ([], 0, 0)
 | n + 1, l =>
  match getZ l with
  | (x, k, 0) => (x :: (allZ n (l.drop k)).1, k + (allZ n (l.drop k)).2.1, (allZ n (l.drop k)).2.2)
  | (_, _, e + 1) => ([], 0, e + 1)
theorem allZ_ok {n : Nat} {l : List UInt8} {x : Int} {k : Nat} (h : getZ l = (x, k, 0)) :
  allZ (n + 1) l = (x :: (allZ n (l.drop k)).1, k + (allZ n (l.drop k)).2.1, (allZ n (l.drop k)).2.2) := by
 rw [allZ]; split
 ·rename_i x' k' h'; rw [h] at h'; obtain ⟨rfl, rfl, _⟩ := h'; rfl
 ·rename_i h'; rw [h] at h'; simp at h'
theorem allZ_err {n : Nat} {l : List UInt8} {x : Int} {k e : Nat} (h : getZ l = (x, k, e)) (he : e ≠ 0) : allZ (n + 1) l = ([], 0, e) := by
 rw [allZ]; split
 ·rename_i x' k' h'; rw [h] at h'; simp at h'; exact absurd h'.2.2 he
 ·rename_i h'; rw [h] at h'; simp at h'; rw [h'.2.2]
theorem allZ_puts (ns : List Int) (r : List UInt8) (h : ∀ n ∈ ns, -9223372036854775808 ≤ n ∧ n < 9223372036854775808) :
  allZ ns.length (ns.flatMap putZ ++ r) = (ns, (ns.flatMap putZ).length, 0) := by
 induction ns with
 | nil => rfl
 | cons n ns ih =>
  have hn := h n (by simp)
  have ih' := ih fun m hm => h m (by simp [hm])
  have e : (n :: ns).flatMap putZ ++ r = putZ n ++ (ns.flatMap putZ ++ r) := by simp
  rw [List.length_cons, e, allZ_ok (getZ_put n _ hn.1 hn.2)]
  simp [ih']
def stores : World → List (Option Addr) → List Int → World
 | w, some p :: ps, n :: ns => stores (w.setCell p (.int .i64 n)) ps ns
 | w, none :: ps, _ :: ns => stores w ps ns
 | w, _, _ => w
theorem stores_nil (w : World) (ps : List (Option Addr)) : stores w ps [] = w := by cases ps with
 | nil => rfl
 | cons p ps => cases p <;> rfl
theorem stores_snoc (ps : List (Option Addr)) (xs : List Int) (w : World) (p : Option Addr) (x : Int) (h : xs.length = ps.length) :
  stores w (ps ++ [p]) (xs ++ [x]) = match p with | some a => (stores w ps xs).setCell a (.int .i64 x) | none => stores w ps xs := by
 induction ps generalizing xs w with
 | nil =>
  obtain rfl : xs = [] := List.eq_nil_of_length_eq_zero (by simpa using h)
  cases p <;> rfl
 | cons q ps ih =>
  cases xs with
  | nil => simp at h
  | cons y xs =>
   cases q with
   | none => simp only [List.cons_append, stores]; exact ih xs w (by simpa using h)
   | some a => simp only [List.cons_append, stores]; exact ih xs _ (by simpa using h)
theorem stores_keeps (F : Nat → Prop) (ps : List (Option Addr)) (xs : List Int) (w0 w : World) (h : ∀ a, some a ∈ ps → ¬ F a.block) (hw : Keeps F w0 w) : Keeps F w0 (stores w ps xs) := by
 induction ps generalizing xs w with
 | nil => simpa [stores] using hw
 | cons q ps ih =>
  cases xs with
  | nil => rw [stores_nil]; exact hw
  | cons y xs =>
   cases q with
   | none => exact ih xs w (fun a ha => h a (by simp [ha])) hw
   | some a => exact ih xs _ (fun b hb => h b (by simp [hb])) (hw.setCell (.inr (h a (by simp))) _)
def Place (w : World) (a : Addr) : Prop := (∃ v, w.cell? a = some v) ∧ w.frozen? a = false
theorem Place.setCell {w : World} {a b : Addr} {v : Value} (h : Place w a) : Place (w.setCell b v) a := by
 obtain ⟨⟨u, hu⟩, hf⟩ := h
 refine ⟨?_, by rw [World.frozen?_setCell]; exact hf⟩
 by_cases e : b = a
 ·subst e; exact ⟨v, World.cell?_setCell_same w b v hu⟩
 ·exact ⟨u, (World.cell?_setCell_other w b a v e).trans hu⟩
theorem Place.stores {a : Addr} (ps : List (Option Addr)) (xs : List Int) (w : World) (h : Place w a) : Place (stores w ps xs) a := by
 induction ps generalizing xs w with
 | nil => simpa [Go.Proofs.YticophaepapjoaaGreatDoor.stores] using h
 | cons q ps ih =>
  cases xs with
  | nil => rw [stores_nil]; exact h
  | cons y xs =>
   cases q with
   | none => exact ih xs w h
   | some b => exact ih xs _ h.setCell
theorem stores_take (ps : List (Option Addr)) (xs : List Int) (w : World) : stores w ps xs = stores w (ps.take xs.length) xs := by
 induction ps generalizing xs w with
 | nil => simp
 | cons q ps ih =>
  cases xs with
  | nil => simp [stores]
  | cons y xs =>
   cases q with
   | none => simp only [List.length_cons, List.take_succ_cons, stores]; exact ih xs w
   | some b => simp only [List.length_cons, List.take_succ_cons, stores]; exact ih xs _
def AllPost (w : World) (ps : List (Option Addr)) (l : List UInt8) (e : Ending) (w' : World) : Prop :=
 e = .returned (.tuple #[.int .i64 ((if (allZ ps.length l).2.2 = 0 then (allZ ps.length l).2.1 else 0 : Nat) : Int), .int .i64 ((allZ ps.length l).2.2 : Nat)]) ∧ w' = stores w ps (allZ ps.length l).1
theorem AllPost.err {w : World} {ps : List (Option Addr)} {l : List UInt8} {xs : List Int} {at_ e : Nat} (he : e ≠ 0) (hz : allZ ps.length l = (xs, at_, e)) :
  AllPost w ps l (.returned (.tuple #[.int .i64 0, .int .i64 (e : Nat)])) (stores w (ps.take xs.length) xs) := by
 refine ⟨?_, ?_⟩
 ·rw [hz]; simp [he]
 ·rw [hz]; exact (stores_take ps xs w).symm
theorem AllPost.ok {w : World} {ps : List (Option Addr)} {l : List UInt8} {xs : List Int} {at_ : Nat} (hz : allZ ps.length l = (xs, at_, 0)) :
  AllPost w ps l (.returned (.tuple #[.int .i64 (at_ : Nat), .int .i64 0])) (stores w (ps.take xs.length) xs) := by
 refine ⟨?_, ?_⟩
 ·rw [hz]; simp
 ·rw [hz]; exact (stores_take ps xs w).symm
theorem get_n (A : Option Addr) (c n : Nat) (F : Nat → Prop) (l : List UInt8) (w : World) (h : Row w A F (bcells l)) (hl : l.length ≤ 1099511627776) (hn : n = l.length) (x : Int) (k e : Nat) (hg : getZ l = (x, k, e)) :
  Calls Tryz.prog 125 #[.slice A n c] w fun e' w' => e' = .returned (.tuple #[.int .i64 x, .int .i64 (k : Nat), .int .i64 (e : Nat)]) ∧ w = w' := by
 subst hn; exact get_is A c F l w h hl x k e hg
set_option maxRecDepth 100000 in
set_option maxHeartbeats 1000000 in
theorem all_any (A B : Option Addr) (c d : Nat) (F : Nat → Prop) (l : List UInt8) (ps : List (Option Addr)) (w : World) (h : Row w A F (bcells l)) (hB : Row w B F (ps.map Value.pointer))
  (hp : ∀ a, some a ∈ ps → Place w a ∧ ¬ F a.block) (hl : l.length ≤ 1099511627776) (hc : l.length ≤ c) (hps : ps.length ≤ 1099511627776) :
  Calls Tryz.prog 117 #[.slice A l.length c, .slice B ps.length d] w (AllPost w ps l) := by
 have HA := Lib.hid h
 have HB := Lib.hid hB
 have HP := Lib.hid hp
 clear h hB hp
 go_enter Tryz.func117, Tryz.ntmps117
 go_wp2
 go_loopw [6, 14] (fun s i wr => ∃ (j at_ : Nat) (xs : List Int), j ≤ ps.length ∧ at_ ≤ l.length ∧ xs.length = j ∧ i = .int .i64 j ∧ s = .int .i64 at_ ∧ wr = stores w (ps.take j) xs ∧
   allZ ps.length l = (xs ++ (allZ (ps.length - j) (l.drop at_)).1, at_ + (allZ (ps.length - j) (l.drop at_)).2.1, (allZ (ps.length - j) (l.drop at_)).2.2)) (fun _ i _ => ps.length - (intOf i).toNat)
 case atStart => exact ⟨0, 0, [], Nat.zero_le _, Nat.zero_le _, rfl, rfl, rfl, by simp [stores], by simp⟩
 case round =>
  obtain ⟨j, at_, xs, hj, hat, hxs, rfl, rfl, hwr, hz⟩ := hrel
  have hkp : Keeps F w wr := by rw [hwr]; exact stores_keeps F _ _ w w (fun a ha => (HP.out a (List.mem_of_mem_take ha)).2) (Keeps.refl _ _)
  have hpl : ∀ a, some a ∈ ps → Place wr a := fun a ha => by rw [hwr]; exact Place.stores _ _ _ (HP.out a ha).1
  have HW := Lib.hid hwr
  have HZ := Lib.hid hz
  have HX := Lib.hid hxs
  have HR := Lib.hid (HA.out.keep hkp)
  by_cases hlt : j < ps.length
  ·obtain ⟨b, o, rfl, _, hcell⟩ := (HB.out.keep hkp).at_ (k := j) (by simpa using hlt)
   simp only [List.getElem_map] at hcell
   have hcut := HR.out.cut (k := at_) (cap := c) (by rw [bcells_len]; exact hat) (by rw [bcells_len]; exact hc)
   rw [bcells, ← List.map_drop] at hcut
   have hdl : (l.drop at_).length ≤ 1099511627776 := by rw [List.length_drop]; omega
   have hj1 : ps.length - j = (ps.length - (j + 1)) + 1 := by omega
   have bad : ∀ (x : Int) (k e : Nat), e ≠ 0 → getZ (l.drop at_) = (x, k, e) → AllPost w ps l (.returned (.tuple #[.int .i64 0, .int .i64 (e : Nat)])) wr := by
    intro x k e he hg
    have h1 := HZ.out
    rw [hj1, allZ_err hg he, List.append_nil] at h1
    have h2 := AllPost.err (w := w) he h1
    rw [HX.out, ← HW.out] at h2
    exact h2
   have HBad := Lib.hid bad
   by_cases hca : c = at_
   ·subst hca
    have hR : Row wr A F (bcells (l.drop c)) := by rwa [if_pos rfl] at hcut
    have hnil : l.drop c = [] := List.drop_eq_nil_of_le hc
    rw [hnil] at hR
    have hbad := HBad.out 0 0 2 (by decide) (by rw [hnil]; rfl)
    have HRr := Lib.hid hR
    have HF := Lib.hid hbad
    clear hR hcut hwr hz hxs hkp hpl hbad bad hnil hj1
    go_wp2_with fail
    refine (get_n _ _ 0 _ [] _ HRr.out (by decide) rfl 0 0 2 rfl).mono ?_
    rintro e w' ⟨rfl, rfl⟩
    go_wp2
    go_ret2
    exact HF.out
   ·have hR : Row wr (A.map (·.add at_)) F (bcells (l.drop at_)) := by rwa [if_neg hca] at hcut
    have HRr := Lib.hid hR
    have hln : l.length - at_ = (l.drop at_).length := by rw [List.length_drop]
    have err : ∀ (x : Int) (k e : Nat), e ≠ 0 → getZ (l.drop at_) = (x, k, e) → True := fun _ _ _ _ _ => trivial
    rcases getZ_cases (l.drop at_) with ⟨x, k, hg, hk0, hk10, hkl, hx1, hx2⟩ | hg | hg
    ·have hz2 : allZ ps.length l = ((xs ++ [x]) ++ (allZ (ps.length - (j + 1)) (l.drop (at_ + k))).1, (at_ + k) + (allZ (ps.length - (j + 1)) (l.drop (at_ + k))).2.1, (allZ (ps.length - (j + 1)) (l.drop (at_ + k))).2.2) := by
      have h1 := HZ.out
      rw [hj1, allZ_ok hg, List.drop_drop] at h1
      rw [h1]
      simp [Nat.add_assoc]
     have hst : stores w (ps.take (j + 1)) (xs ++ [x]) = match ps[j] with | some a => wr.setCell a (.int .i64 x) | none => wr := by
      rw [List.take_succ_eq_append_getElem hlt, stores_snoc _ _ _ _ _ (by rw [HX.out, List.length_take]; omega), ← HW.out]
     have hplj : ∀ a, ps[j] = some a → Place wr a := fun a ha => hpl a (by rw [← ha]; exact List.getElem_mem hlt)
     rw [List.length_drop] at hkl
     have HG := Lib.hid hg
     have HZ2 := Lib.hid hz2
     have HST := Lib.hid hst
     have HPJ := Lib.hid hplj
     have HLN := Lib.hid hln
     clear hR hcut hwr hz hxs hkp hpl bad hg hz2 hst hplj hln err hx1 hx2 hj1
     generalize ps[j] = q at hcell HST HPJ
     rcases q with _ | a
     ·go_wp2_with fail
      refine (get_n _ _ _ _ _ _ HRr.out hdl HLN.out x k 0 HG.out).mono ?_
      rintro e w' ⟨rfl, rfl⟩
      go_wp2_with fail
      go_roundw
      case rel => exact ⟨j + 1, at_ + k, xs ++ [x], by omega, by omega, by rw [List.length_append, HX.out]; rfl, by go_num, by go_num, HST.out.symm, HZ2.out⟩
      case measure => simp [intOf]; omega
     ·obtain ⟨⟨v0, hv0⟩, hf0⟩ := HPJ.out a rfl
      go_wp2_with fail
      refine (get_n _ _ _ _ _ _ HRr.out hdl HLN.out x k 0 HG.out).mono ?_
      rintro e w' ⟨rfl, rfl⟩
      go_wp2_with fail
      go_roundw
      case rel => exact ⟨j + 1, at_ + k, xs ++ [x], by omega, by omega, by rw [List.length_append, HX.out]; rfl, by go_num, by go_num, HST.out.symm, HZ2.out⟩
      case measure => simp [intOf]; omega
    ·have HF := Lib.hid (HBad.out 0 0 1 (by decide) hg)
     have HG := Lib.hid hg
     have HLN := Lib.hid hln
     clear hR hcut hwr hz hxs hkp hpl bad hg err hj1 hln
     go_wp2_with fail
     refine (get_n _ _ _ _ _ _ HRr.out hdl HLN.out 0 0 1 HG.out).mono ?_
     rintro e w' ⟨rfl, rfl⟩
     go_wp2
     go_ret2
     exact HF.out
    ·have HF := Lib.hid (HBad.out 0 0 2 (by decide) hg)
     have HG := Lib.hid hg
     have HLN := Lib.hid hln
     clear hR hcut hwr hz hxs hkp hpl bad hg err hj1 hln
     go_wp2_with fail
     refine (get_n _ _ _ _ _ _ HRr.out hdl HLN.out 0 0 2 HG.out).mono ?_
     rintro e w' ⟨rfl, rfl⟩
     go_wp2
     go_ret2
     exact HF.out
  ·obtain rfl : j = ps.length := by omega
   have hz2 : allZ ps.length l = (xs, at_, 0) := by rw [hz]; simp [allZ]
   have hfin := AllPost.ok (w := w) hz2
   rw [hxs, ← hwr] at hfin
   have HF := Lib.hid hfin
   clear hfin hz2 hz hxs hwr hkp hpl
   go_wp2
   go_ret2
   exact HF.out
end Go.Proofs.YticophaepapjoaaGreatDoor
namespace Go.Proofs.YticophaepapjoaaGreatDoor
open Go Go.RowKit Go.Joins
def frzZ (b : Bool) : Int := if b then 1 else 0
def numsM (x : M4) : List Int := [x.boot, x.epoch, x.ready, frzZ x.frozen]
def encM (x : M4) : List UInt8 := putsZ (numsM x)
theorem numsM_fit {x : M4} (hx : x.Fits) : ∀ n ∈ numsM x, -9223372036854775808 ≤ n ∧ n < 9223372036854775808 := fun n hn => by
 have := hx.b1; have := hx.b2; have := hx.e1; have := hx.e2; have := hx.r1; have := hx.r2
 simp only [numsM, List.mem_cons, List.not_mem_nil, or_false] at hn
 rcases hn with rfl | rfl | rfl | rfl
 ·omega
 ·omega
 ·omega
 ·unfold frzZ; cases x.frozen <;> decide
theorem encM_len {x : M4} (hx : x.Fits) : (encM x).length ≤ 40 := putsZ_len (numsM x) (numsM_fit hx)
theorem may_fits {x : M4} (h : mayB x = true) : x.Fits := by
 unfold mayB small12 at h
 simp only [Bool.and_eq_true, decide_eq_true_eq] at h
 obtain ⟨⟨h1, h2, h3, h4, h5, h6⟩, -⟩ := h
 exact ⟨by omega, by omega, by omega, by omega, by omega, by omega⟩
theorem own_bytes {w : World} {B : Nat} {v : Value} {l : List UInt8} (h : OwnB w B v l) : ∃ A c, v = .slice A l.length c ∧ l.length ≤ c ∧ c ≤ maxLen ∧ (A = none → c = 0) ∧ Row w A (fun b => B ≤ b ∧ b < w.heap.size) (bcells l) := by
 unfold OwnB at h
 have key : ∃ A c, v = .slice A l.length c ∧ l.length ≤ c ∧ c ≤ maxLen ∧ (A = none → c = 0) := by
  rcases h.2 with ⟨h', h0⟩ | ⟨g', cap', cur, h', _, _, h1, h2, _⟩
  ·exact ⟨none, 0, by rw [h0]; exact h', by omega, Nat.zero_le _, fun _ => rfl⟩
  ·exact ⟨_, _, h', h1, h2, fun e => by cases e⟩
 obtain ⟨A, c, rfl, h1, h2, h3⟩ := key
 refine ⟨A, c, rfl, h1, h2, h3, ?_⟩
 have e : l.length = (bcells l).length := by rw [bcells_len]
 rw [e] at h
 exact Row.of_own h
def EncPost (w : World) (l : List UInt8) (e : Ending) (w' : World) : Prop := ∃ A c, e = .returned (.slice A l.length c) ∧ l.length ≤ c ∧ c ≤ maxLen ∧ (A = none → c = 0) ∧ Row w' A (fun b => w.heap.size ≤ b ∧ b < w'.heap.size) (bcells l) ∧ Kp w w'
set_option maxRecDepth 100000 in
set_option maxHeartbeats 1000000 in
theorem mencode_any (w : World) (x : M4) (hx : x.Fits) : Calls Tryz.prog 51 #[magg x] w (EncPost w (encM x)) := by
 have HN := Lib.hid (numsM_fit hx)
 clear hx
 have HP := Lib.hid (show ∀ (w2 : World) (q : Nat), Kp w w2 → Row w2 (some ⟨q, 0, none⟩) (fun _ => True) ((numsM x).map (Value.int .i64)) → Calls Tryz.prog 79 #[.slice none 0 0, .slice (some ⟨q, 0, none⟩) 4 4] w2 (EncPost w (encM x)) from fun w2 q hk hr => by
  refine (show Calls _ _ _ _ _ from put_any none (some ⟨q, 0, none⟩) 0 4 (fun _ => True) (fun _ => True) [] (numsM x) w2 (Row.nil _ _ _) hr HN.out (by simp) (by simp [numsM])).mono ?_
  rintro e w' ⟨v, rfl, ho, hk2⟩
  obtain ⟨A, c, rfl, h1, h2, h3, h4⟩ := own_bytes ho
  exact ⟨A, c, rfl, h1, h2, h3, h4.mono fun b _ hb => ⟨Nat.le_trans hk.size hb.1, hb.2⟩, hk.trans hk2⟩)
 have HE := Lib.hid (show numsM x = [x.boot, x.epoch, x.ready, frzZ x.frozen] from rfl)
 generalize encM x = l at HP ⊢
 obtain ⟨bo, ep, re, fr⟩ := x
 generalize numsM ⟨bo, ep, re, fr⟩ = ns at HP HE
 have HR := Lib.hid (show ∀ f : Int, frzZ fr = f → Row ((w.alloc (.cells #[.int .i64 bo, .int .i64 ep, .int .i64 re, .bool fr] 32)).alloc (.cells #[.int .i64 bo, .int .i64 ep, .int .i64 re, .int .i64 f] 2)) (some ⟨w.heap.size + 1, 0, none⟩) (fun _ => True) (ns.map (Value.int .i64)) from fun f hf =>
  Row.fresh _ #[.int .i64 bo, .int .i64 ep, .int .i64 re, .int .i64 f] 2 (0, 0) _ (by simp) trivial _ (by rw [HE.out, ← hf]; rfl))
 have HK := Lib.hid (show ∀ o o', Kp w ((w.alloc o).alloc o') from fun o o' => ((Keeps.refl _ w).alloc _).alloc _)
 unfold magg
 cases fr with
 | false =>
  go_enter Tryz.func51, Tryz.ntmps51
  go_wp2_with fail
  refine (show Calls _ _ _ _ _ from HP.out _ _ (HK.out _ _) (HR.out 0 rfl)).mono ?_
  rintro e w2 ⟨A, c, rfl, h1, h2, h3, h4, h5⟩
  have HQ := Lib.hid (show EncPost w l (.returned (.slice A l.length c)) w2 from ⟨A, c, rfl, h1, h2, h3, h4, h5⟩)
  clear h1 h2 h3 h4 h5 HP HR HK HE HN
  go_wp2_with fail
  go_ret
  exact HQ.out
 | true =>
  go_enter Tryz.func51, Tryz.ntmps51
  go_wp2_with fail
  refine (show Calls _ _ _ _ _ from HP.out _ _ (HK.out _ _) (HR.out 1 rfl)).mono ?_
  rintro e w2 ⟨A, c, rfl, h1, h2, h3, h4, h5⟩
  have HQ := Lib.hid (show EncPost w l (.returned (.slice A l.length c)) w2 from ⟨A, c, rfl, h1, h2, h3, h4, h5⟩)
  clear h1 h2 h3 h4 h5 HP HR HK HE HN
  go_wp2_with fail
  go_ret
  exact HQ.out
def placesM (q : Nat) : List (Option Addr) := [some ⟨q + 1, 0, none⟩, some ⟨q + 1, 1, none⟩, some ⟨q + 1, 2, none⟩, some ⟨q + 2, 0, none⟩]
theorem allZ_encM {x : M4} (hx : x.Fits) : allZ 4 (encM x) = (numsM x, (encM x).length, 0) := by
 have hz := allZ_puts (numsM x) [] (numsM_fit hx)
 rw [List.append_nil] at hz
 exact hz
def FBlk (w : World) (g : Nat) (z : Int) : Prop := w.heap[g]? = some (.cells #[.int .i64 z] 2 (0, 0))
theorem FBlk.keep {w w' : World} {g : Nat} {z : Int} {F : Nat → Prop} (h : FBlk w g z) (hk : Keeps F w w') (hq : F g) : FBlk w' g z := (hk.block g hq (Array.getElem?_eq_some_iff.1 h).1).trans h
set_option maxRecDepth 100000 in
set_option maxHeartbeats 2000000 in
theorem mdecode_yes (w : World) (A : Option Addr) (c : Nat) (x : M4) (hr0 : Row w A (fun _ => True) (bcells (encM x))) (hl : (encM x).length ≤ c) (hc : c ≤ maxLen) (hx : mayB x = true) :
  Calls Tryz.prog 83 #[.slice A (encM x).length c] w fun e w' => e = .returned (.tuple #[magg x, .bool true]) ∧ Kp w w' := by
 have hfit := may_fits hx
 have HR := Lib.hid (show Row w A (fun b => b < w.heap.size) (bcells (encM x)) from hr0.lt.mono fun b _ hb => hb.2)
 have hl40 := encM_len hfit
 have HM := Lib.hid (show ∀ w2, Calls Tryz.prog 49 #[magg x] w2 fun e w' => e = .returned (.bool true) ∧ Kp w2 w' from fun w2 => (mmay_any w2 x).mono fun e w' h => ⟨by rw [h.1, hx], h.2⟩)
 have HZ := Lib.hid (allZ_encM hfit)
 have HE := Lib.hid (show numsM x = [x.boot, x.epoch, x.ready, frzZ x.frozen] from rfl)
 clear hr0 hx hfit
 obtain ⟨N, hN⟩ : ∃ N, (encM x).length = N := ⟨_, rfl⟩
 have HALL := Lib.hid (show ∀ (w2 : World) (q : Nat), Kp w w2 → w.heap.size ≤ q → MBlk w2 (q + 1) m0 → FBlk w2 (q + 2) 0 → Row w2 (some ⟨q + 3, 0, none⟩) (fun b => b = q + 3) ((placesM q).map Value.pointer) →
   Calls Tryz.prog 117 #[.slice A N c, .slice (some ⟨q + 3, 0, none⟩) 4 4] w2 fun e w' => e = .returned (.tuple #[.int .i64 (N : Int), .int .i64 0]) ∧ Kp w w' ∧ MBlk w' (q + 1) ⟨x.boot, x.epoch, x.ready, false⟩ ∧ FBlk w' (q + 2) (frzZ x.frozen) ∧ Keeps (fun b => b ≠ q + 1 ∧ b ≠ q + 2) w2 w' from fun w2 q hk hq hm hf hp => by
  rw [← hN]
  refine (show Calls _ _ _ _ _ from all_any A (some ⟨q + 3, 0, none⟩) c 4 (fun b => b ≠ q + 1 ∧ b ≠ q + 2) (encM x) (placesM q) w2 (((HR.out.keep (hk.mono fun _ _ _ => trivial)).mono fun b _ (hb : b < w.heap.size) => by omega)) (hp.mono fun b _ (hb : b = q + 3) => by omega) (fun a ha => by
   simp only [placesM, List.mem_cons, Option.some.injEq, List.not_mem_nil, or_false] at ha
   rcases ha with rfl | rfl | rfl | rfl
   ·exact ⟨⟨⟨_, hm.four.1⟩, hm.fz 0⟩, fun h => h.1 rfl⟩
   ·exact ⟨⟨⟨_, hm.four.2.1⟩, hm.fz 1⟩, fun h => h.1 rfl⟩
   ·exact ⟨⟨⟨_, hm.four.2.2.1⟩, hm.fz 2⟩, fun h => h.1 rfl⟩
   ·exact ⟨⟨⟨_, cell_of_block hf 0⟩, unfrozen_of_block hf 0⟩, fun h => h.2 rfl⟩) (by omega) hl (by simp [placesM])).mono ?_
  rintro e w' ⟨h1, h2⟩
  have hl4 : (placesM q).length = 4 := rfl
  rw [hl4, HZ.out] at h1 h2
  have hks : Keeps (fun b => b ≠ q + 1 ∧ b ≠ q + 2) w2 w' := by
   rw [h2]
   exact stores_keeps _ (placesM q) _ w2 w2 (fun a ha => by
    simp only [placesM, List.mem_cons, Option.some.injEq, List.not_mem_nil, or_false] at ha
    rcases ha with rfl | rfl | rfl | rfl
    ·exact fun h => h.1 rfl
    ·exact fun h => h.1 rfl
    ·exact fun h => h.1 rfl
    ·exact fun h => h.2 rfl) (Keeps.refl _ _)
  refine ⟨by rw [h1]; rfl, ((hk.mono fun _ _ _ => trivial).trans hks).mono fun b hb _ => by omega, ?_, ?_, hks⟩
  ·rw [h2, HE.out]
   have a2 : MBlk (((w2.setCell ⟨q + 1, 0, none⟩ (.int .i64 x.boot)).setCell ⟨q + 1, 1, none⟩ (.int .i64 x.epoch)).setCell ⟨q + 1, 2, none⟩ (.int .i64 x.ready)) (q + 1) ⟨x.boot, x.epoch, x.ready, false⟩ := (block_setCell (block_setCell (block_setCell hm _) _) _).trans rfl
   exact a2.keep ((Keeps.refl (fun b => b ≠ q + 2) _).setCell (p := ⟨q + 2, 0, none⟩) (.inr (fun h => h rfl)) _) (by omega)
  ·rw [h2, HE.out]
   have k3 : Keeps (fun b => b ≠ q + 1) w2 (((w2.setCell ⟨q + 1, 0, none⟩ (.int .i64 x.boot)).setCell ⟨q + 1, 1, none⟩ (.int .i64 x.epoch)).setCell ⟨q + 1, 2, none⟩ (.int .i64 x.ready)) :=
    (((Keeps.refl (fun b => b ≠ q + 1) w2).setCell (p := ⟨q + 1, 0, none⟩) (.inr (fun h => h rfl)) _).setCell (p := ⟨q + 1, 1, none⟩) (.inr (fun h => h rfl)) _).setCell (p := ⟨q + 1, 2, none⟩) (.inr (fun h => h rfl)) _
   exact (block_setCell (hf.keep k3 (by omega)) _).trans rfl)
 have HA := Lib.hid (show ∀ w2, w2 = (((w.alloc (.cells #[.int .i64 0, .int .i64 0, .int .i64 0, .bool false] 32)).alloc (.cells #[.int .i64 0, .int .i64 0, .int .i64 0, .bool false] 32)).alloc (.cells #[.int .i64 0] 2)).alloc (.cells #[.pointer (some ⟨w.heap.size + 1, 0, none⟩), .pointer (some ⟨w.heap.size + 1, 1, none⟩), .pointer (some ⟨w.heap.size + 1, 2, none⟩), .pointer (some ⟨w.heap.size + 2, 0, none⟩)] 190) →
   MBlk w2 w.heap.size m0 ∧ MBlk w2 (w.heap.size + 1) m0 ∧ FBlk w2 (w.heap.size + 2) 0 ∧ Row w2 (some ⟨w.heap.size + 3, 0, none⟩) (fun b => b = w.heap.size + 3) ((placesM w.heap.size).map Value.pointer) ∧ Kp w w2 from by
  rintro w2 rfl
  have s1 : ∀ o, (w.alloc o).heap.size = w.heap.size + 1 := fun o => by simp
  have s2 : ∀ o o', ((w.alloc o).alloc o').heap.size = w.heap.size + 2 := fun o o' => by simp
  have s3 : ∀ o o' o'', (((w.alloc o).alloc o').alloc o'').heap.size = w.heap.size + 3 := fun o o' o'' => by simp
  have h1 : MBlk (w.alloc (.cells #[.int .i64 0, .int .i64 0, .int .i64 0, .bool false] 32)) w.heap.size m0 := heap_alloc_new w _
  have h2 := heap_alloc_new (w.alloc (.cells #[.int .i64 0, .int .i64 0, .int .i64 0, .bool false] 32)) (.cells #[.int .i64 0, .int .i64 0, .int .i64 0, .bool false] 32)
  rw [s1] at h2
  have h3 := heap_alloc_new ((w.alloc (.cells #[.int .i64 0, .int .i64 0, .int .i64 0, .bool false] 32)).alloc (.cells #[.int .i64 0, .int .i64 0, .int .i64 0, .bool false] 32)) (.cells #[.int .i64 0] 2)
  rw [s2] at h3
  have h2' : MBlk ((w.alloc (.cells #[.int .i64 0, .int .i64 0, .int .i64 0, .bool false] 32)).alloc (.cells #[.int .i64 0, .int .i64 0, .int .i64 0, .bool false] 32)) (w.heap.size + 1) m0 := h2
  have h3' : FBlk (((w.alloc (.cells #[.int .i64 0, .int .i64 0, .int .i64 0, .bool false] 32)).alloc (.cells #[.int .i64 0, .int .i64 0, .int .i64 0, .bool false] 32)).alloc (.cells #[.int .i64 0] 2)) (w.heap.size + 2) 0 := h3
  exact ⟨h1.keep (F := fun _ => True) ((((Keeps.refl _ _).alloc _).alloc _).alloc _) trivial, h2'.keep (F := fun _ => True) (((Keeps.refl _ _).alloc _).alloc _) trivial, h3'.keep (F := fun _ => True) ((Keeps.refl _ _).alloc _) trivial,
   Row.fresh (F := fun b => b = w.heap.size + 3) _ #[.pointer (some ⟨w.heap.size + 1, 0, none⟩), .pointer (some ⟨w.heap.size + 1, 1, none⟩), .pointer (some ⟨w.heap.size + 1, 2, none⟩), .pointer (some ⟨w.heap.size + 2, 0, none⟩)] 190 (0, 0) _ (s3 _ _ _).symm rfl ((placesM w.heap.size).map Value.pointer) rfl, ((((Keeps.refl _ _).alloc _).alloc _).alloc _).alloc _⟩)
 have HN := Lib.hid hN
 rw [hN]
 have hNm : N ≤ 40 := by omega
 clear hl hc hN hl40 HZ HE HR
 obtain ⟨bo, ep, re, fr⟩ := x
 go_enter Tryz.func83, Tryz.ntmps83
 go_wp2_with fail
 obtain ⟨a1, a2, a3, a4, a5⟩ := HA.out _ rfl
 obtain ⟨q, hq⟩ : ∃ q, w.heap.size = q := ⟨_, rfl⟩
 rw [hq] at a1 a2 a3 a4 a5 ⊢
 have HGQ := Lib.hid (Nat.le_of_eq hq)
 generalize World.alloc (World.alloc (World.alloc (World.alloc _ _) _) _) _ = w1 at a1 a2 a3 a4 a5 ⊢
 have HC := Lib.hid (HALL.out w1 q a5 HGQ.out a2 a3 a4)
 have H0 := Lib.hid a1
 clear hq HA a1 a2 a3 a4 a5 HALL
 refine (show Calls _ _ _ _ _ from HC.out).mono ?_
 rintro e w2 ⟨rfl, hk, hm, hf, hks⟩
 replace H0 := Lib.hid (H0.out.keep hks (by omega))
 have HK := Lib.hid hk
 have HMB := Lib.hid hm
 have HFB := Lib.hid hf
 clear hk hm hf hks HC
 have t2 : ((N : Int) != (N : Int)) = false := by simp
 cases fr with
 | false =>
  have f0 : w2.cell? ⟨q + 2, 0, none⟩ = some (.int .i64 0) := cell_of_block HFB.out 0
  have c3 := HMB.out.four.2.2.2
  have d3 := HMB.out.fz 3
  simp only at c3
  have HW3 := Lib.hid (show ∀ w3, w3 = w2.setCell ⟨q + 1, 3, none⟩ (.bool false) → MBlk w3 (q + 1) ⟨bo, ep, re, false⟩ ∧ FBlk w3 (q + 2) 0 ∧ MBlk w3 q m0 ∧ Kp w w3 from by
   rintro w3 rfl
   have kk : ∀ F : Nat → Prop, ¬ F (q + 1) → Keeps F w2 (w2.setCell ⟨q + 1, 3, none⟩ (.bool false)) := fun F hF => (Keeps.refl F w2).setCell (p := ⟨q + 1, 3, none⟩) (.inr hF) _
   exact ⟨(block_setCell HMB.out _).trans rfl, HFB.out.keep (kk (fun b => b ≠ q + 1) (fun h => h rfl)) (by omega), H0.out.keep (kk (fun b => b ≠ q + 1) (fun h => h rfl)) (by omega), HK.out.setCell (p := ⟨q + 1, 3, none⟩) (.inl (show w.heap.size ≤ q + 1 from by have := HGQ.out; omega)) _⟩)
  clear HMB HFB H0 HK
  go_upto_region 5 with fail
  obtain ⟨a1, a2, a3, a4⟩ := HW3.out _ rfl
  generalize World.setCell w2 _ _ = w3 at a1 a2 a3 a4 ⊢
  have HMB := Lib.hid a1
  have H0 := Lib.hid a3
  have HK := Lib.hid a4
  have g0 : w3.cell? ⟨q + 2, 0, none⟩ = some (.int .i64 0) := cell_of_block a2 0
  have c0 := a1.four.1
  have c1 := a1.four.2.1
  have c2 := a1.four.2.2.1
  have c3 := a1.four.2.2.2
  simp only at c0 c1 c2 c3
  clear a1 a2 a3 a4 f0 d3 HW3
  have HMM := Lib.hid (show ∀ w2, Calls Tryz.prog 49 #[.agg #[.int .i64 bo, .int .i64 ep, .int .i64 re, .bool false]] w2 fun e w' => e = .returned (.bool true) ∧ Kp w2 w' from HM.out)
  clear HM
  go_wp2_with fail
  refine (show Calls _ _ _ _ _ from HMM.out w3).mono ?_
  rintro e w4 ⟨rfl, hk4⟩
  replace HMB := Lib.hid (HMB.out.keep hk4 trivial)
  replace H0 := Lib.hid (H0.out.keep hk4 trivial)
  replace HK := Lib.hid (HK.out.trans hk4)
  clear hk4 HMM c0 c1 c2 c3 g0
  have c0 := HMB.out.four.1
  have c1 := HMB.out.four.2.1
  have c2 := HMB.out.four.2.2.1
  have c3 := HMB.out.four.2.2.2
  have b0 := H0.out.four.1
  have b1 := H0.out.four.2.1
  have b2 := H0.out.four.2.2.1
  have b3 := H0.out.four.2.2.2
  have d0 := H0.out.fz 0
  have d1 := H0.out.fz 1
  have d2 := H0.out.fz 2
  have d3 := H0.out.fz 3
  simp only at c0 c1 c2 c3
  simp only [m0] at b0 b1 b2 b3
  go_wp2_with fail
  have hb := H0.out.set4 ⟨bo, ep, re, false⟩
  have hk : Kp w ((((w4.setCell ⟨q, 0, none⟩ (.int .i64 bo)).setCell ⟨q, 1, none⟩ (.int .i64 ep)).setCell ⟨q, 2, none⟩ (.int .i64 re)).setCell ⟨q, 3, none⟩ (.bool false)) :=
   (((HK.out.setCell (p := ⟨q, 0, none⟩) (.inl HGQ.out) _).setCell (p := ⟨q, 1, none⟩) (.inl HGQ.out) _).setCell (p := ⟨q, 2, none⟩) (.inl HGQ.out) _).setCell (p := ⟨q, 3, none⟩) (.inl HGQ.out) _
  refine bodyPost_ret (v := .tuple #[.agg #[.int .i64 bo, .int .i64 ep, .int .i64 re, .bool false], .bool true]) ?_ rfl ⟨rfl, hk⟩
  generalize World.setCell (World.setCell (World.setCell (World.setCell w4 _ _) _ _) _ _) _ _ = W6 at hb ⊢
  have e0 := hb.four.1
  have e1 := hb.four.2.1
  have e2 := hb.four.2.2.1
  have e3 := hb.four.2.2.2
  simp only at e0 e1 e2 e3
  simp [results, Tryz.results83, go_sem, e0, e1, e2, e3]
 | true =>
  have f0 : w2.cell? ⟨q + 2, 0, none⟩ = some (.int .i64 1) := cell_of_block HFB.out 0
  have c3 := HMB.out.four.2.2.2
  have d3 := HMB.out.fz 3
  simp only at c3
  have HW3 := Lib.hid (show ∀ w3, w3 = w2.setCell ⟨q + 1, 3, none⟩ (.bool true) → MBlk w3 (q + 1) ⟨bo, ep, re, true⟩ ∧ FBlk w3 (q + 2) 1 ∧ MBlk w3 q m0 ∧ Kp w w3 from by
   rintro w3 rfl
   have kk : ∀ F : Nat → Prop, ¬ F (q + 1) → Keeps F w2 (w2.setCell ⟨q + 1, 3, none⟩ (.bool true)) := fun F hF => (Keeps.refl F w2).setCell (p := ⟨q + 1, 3, none⟩) (.inr hF) _
   exact ⟨(block_setCell HMB.out _).trans rfl, HFB.out.keep (kk (fun b => b ≠ q + 1) (fun h => h rfl)) (by omega), H0.out.keep (kk (fun b => b ≠ q + 1) (fun h => h rfl)) (by omega), HK.out.setCell (p := ⟨q + 1, 3, none⟩) (.inl (show w.heap.size ≤ q + 1 from by have := HGQ.out; omega)) _⟩)
  clear HMB HFB H0 HK
  go_upto_region 5 with fail
  obtain ⟨a1, a2, a3, a4⟩ := HW3.out _ rfl
  generalize World.setCell w2 _ _ = w3 at a1 a2 a3 a4 ⊢
  have HMB := Lib.hid a1
  have H0 := Lib.hid a3
  have HK := Lib.hid a4
  have g0 : w3.cell? ⟨q + 2, 0, none⟩ = some (.int .i64 1) := cell_of_block a2 0
  have c0 := a1.four.1
  have c1 := a1.four.2.1
  have c2 := a1.four.2.2.1
  have c3 := a1.four.2.2.2
  simp only at c0 c1 c2 c3
  clear a1 a2 a3 a4 f0 d3 HW3
  have HMM := Lib.hid (show ∀ w2, Calls Tryz.prog 49 #[.agg #[.int .i64 bo, .int .i64 ep, .int .i64 re, .bool true]] w2 fun e w' => e = .returned (.bool true) ∧ Kp w2 w' from HM.out)
  clear HM
  go_wp2_with fail
  refine (show Calls _ _ _ _ _ from HMM.out w3).mono ?_
  rintro e w4 ⟨rfl, hk4⟩
  replace HMB := Lib.hid (HMB.out.keep hk4 trivial)
  replace H0 := Lib.hid (H0.out.keep hk4 trivial)
  replace HK := Lib.hid (HK.out.trans hk4)
  clear hk4 HMM c0 c1 c2 c3 g0
  have c0 := HMB.out.four.1
  have c1 := HMB.out.four.2.1
  have c2 := HMB.out.four.2.2.1
  have c3 := HMB.out.four.2.2.2
  have b0 := H0.out.four.1
  have b1 := H0.out.four.2.1
  have b2 := H0.out.four.2.2.1
  have b3 := H0.out.four.2.2.2
  have d0 := H0.out.fz 0
  have d1 := H0.out.fz 1
  have d2 := H0.out.fz 2
  have d3 := H0.out.fz 3
  simp only at c0 c1 c2 c3
  simp only [m0] at b0 b1 b2 b3
  go_wp2_with fail
  have hb := H0.out.set4 ⟨bo, ep, re, true⟩
  have hk : Kp w ((((w4.setCell ⟨q, 0, none⟩ (.int .i64 bo)).setCell ⟨q, 1, none⟩ (.int .i64 ep)).setCell ⟨q, 2, none⟩ (.int .i64 re)).setCell ⟨q, 3, none⟩ (.bool true)) :=
   (((HK.out.setCell (p := ⟨q, 0, none⟩) (.inl HGQ.out) _).setCell (p := ⟨q, 1, none⟩) (.inl HGQ.out) _).setCell (p := ⟨q, 2, none⟩) (.inl HGQ.out) _).setCell (p := ⟨q, 3, none⟩) (.inl HGQ.out) _
  refine bodyPost_ret (v := .tuple #[.agg #[.int .i64 bo, .int .i64 ep, .int .i64 re, .bool true], .bool true]) ?_ rfl ⟨rfl, hk⟩
  generalize World.setCell (World.setCell (World.setCell (World.setCell w4 _ _) _ _) _ _) _ _ = W6 at hb ⊢
  have e0 := hb.four.1
  have e1 := hb.four.2.1
  have e2 := hb.four.2.2.1
  have e3 := hb.four.2.2.2
  simp only at e0 e1 e2 e3
  simp [results, Tryz.results83, go_sem, e0, e1, e2, e3]
end Go.Proofs.YticophaepapjoaaGreatDoor
