/-
  NumPut: texts of mine, joined.
-/
import Derived.Test.YtemkjodkmehffaaGreatDoorAllM04
import Derived.Test.YtemkjodkmehffaaGreatDoorAllM07
import Derived.WalkSpells
namespace Go.Proofs.YtemkjodkmehffaaGreatDoor
open Go Go.RowKit
def putsZ (ns : List Int) : List UInt8 := ns.flatMap putZ
theorem putsZ_next (ns : List Int) (k : Nat) (h : k < ns.length) : putsZ (ns.take (k + 1)) = putsZ (ns.take k) ++ putZ ns[k] := by
 unfold putsZ; rw [List.take_succ_eq_append_getElem h, List.flatMap_append]; simp
theorem putsZ_len (ns : List Int) (h : ∀ n ∈ ns, -9223372036854775808 ≤ n ∧ n < 9223372036854775808) : (putsZ ns).length ≤ 10 * ns.length := by
 induction ns with
 | nil => simp [putsZ]
 | cons n ns ih =>
  have h1 := putZ_len n (h n (by simp)).1 (h n (by simp)).2
  have h2 := ih fun m hm => h m (by simp [hm])
  simp only [putsZ, List.flatMap_cons, List.length_append, List.length_cons] at h2 ⊢
  omega
def putsT (ts : List (List UInt8)) : List UInt8 := ts.flatMap putT
set_option maxHeartbeats 400000 in
theorem put_any (A B : Option Addr) (c d : Nat) (F G : Nat → Prop) (l : List UInt8) (ns : List Int) (w : World) (h : Row w A F (bcells l)) (hB : Row w B G (ns.map (Value.int .i64)))
  (hn : ∀ n ∈ ns, -9223372036854775808 ≤ n ∧ n < 9223372036854775808) (hl : l.length ≤ 549755813888) (hnl : ns.length ≤ 34359738368) :
  Calls Tryz.prog 55 #[.slice A l.length c, .slice B ns.length d] w fun e w' => ∃ v', e = .returned v' ∧ OwnB w' w.heap.size v' (l ++ putsZ ns) ∧ Keeps (fun _ => True) w w' := by
 have HB := Lib.hid hB
 have HA := Lib.hid h
 have HN := Lib.hid hn
 clear h hB hn
 go_enter Tryz.func55, Tryz.ntmps55
 go_wp2_with (go_at_call 87; ((with_reducible refine (clone_any _ _ _ l _ HA.out ?c1).mono ?_)))
 case c1 => omega
 rintro e w1 ⟨v1, rfl, ho, hk⟩
 have HO := Lib.hid ho
 have HK := Lib.hid hk
 clear ho hk
 go_wp2
 go_loopw [5, 12] (fun u i wr => ∃ k : Nat, k ≤ ns.length ∧ i = .int .i64 k ∧ OwnB wr w.heap.size u (l ++ putsZ (ns.take k)) ∧ Keeps (fun _ => True) w wr) (fun _ i _ => ns.length - (intOf i).toNat)
 case atStart => exact ⟨0, Nat.zero_le _, rfl, by simpa [putsZ] using HO.out, HK.out⟩
 case round =>
  obtain ⟨k, hk, rfl, ho, hkp⟩ := hrel
  by_cases hlt : k < ns.length
  ·obtain ⟨b, o, rfl, _, hcell⟩ := (HB.out.keep (hkp.mono fun _ _ _ => trivial)).at_ (k := k) (by simpa using hlt)
   simp only [List.getElem_map] at hcell
   have hb := HN.out ns[k] (List.getElem_mem hlt)
   have hln := putsZ_len (ns.take k) fun n hn => HN.out n (List.mem_of_mem_take hn)
   have hlt' : (l ++ putsZ (ns.take k)).length ≤ 1099511627776 := by
    rw [List.length_append]
    have : (ns.take k).length ≤ k := List.length_take_le _ _
    omega
   have H := Lib.hid (putsZ_next ns k hlt)
   have hsz := hkp.size
   have HO' := Lib.hid ho
   have HK' := Lib.hid hkp
   clear ho hkp hln
   go_wp2_with (go_at_call 88; ((with_reducible refine (put_number _ hb.1 hb.2 _ _ w.heap.size _ HO'.out ?c2 hlt').mono ?_)))
   case c2 => omega
   rintro e w2 ⟨v2, rfl, ho2, hto⟩
   have hown := HO'.out
   have hk2 : Keeps (fun _ => True) w w2 := hto.keeps HK'.out fun i hi => (hown.lt i hi).1
   rw [List.append_assoc, ← H.out] at ho2
   have H1 := Lib.hid ho2
   have H2 := Lib.hid hk2
   clear ho2 hk2 hto hown
   go_wp2
   go_roundw
   case rel => exact ⟨k + 1, by omega, by go_num, H1.out, H2.out⟩
   case measure => simp [intOf]; omega
  ·obtain rfl : k = ns.length := by omega
   rw [List.take_length] at ho
   have H1 := Lib.hid ho
   have H2 := Lib.hid hkp
   clear ho hkp
   go_wp2
   go_ret
   exact ⟨_, rfl, H1.out, H2.out⟩
def strs (ts : List ByteArray) : List (List UInt8) := ts.map (·.data.toList)
theorem strs_next (ts : List ByteArray) (k : Nat) (h : k < ts.length) : putsT (strs (ts.take (k + 1))) = putsT (strs (ts.take k)) ++ putT ts[k].data.toList := by
 unfold putsT strs; rw [List.take_succ_eq_append_getElem h, List.map_append, List.flatMap_append]; simp
def total (ts : List ByteArray) : Nat := (ts.map (·.size)).sum
theorem total_take (ts : List ByteArray) (k : Nat) : total (ts.take k) ≤ total ts := by
 unfold total
 conv => rhs; rw [← List.take_append_drop k ts]
 rw [List.map_append, List.sum_append]; omega
theorem total_mem (ts : List ByteArray) (s : ByteArray) (h : s ∈ ts) : s.size ≤ total ts := by
 unfold total
 induction ts with
 | nil => simp at h
 | cons t ts ih =>
  simp only [List.map_cons, List.sum_cons]
  rcases List.mem_cons.1 h with rfl | h
  ·omega
  ·have := ih h; omega
theorem putsT_len (ts : List ByteArray) (h : ∀ s ∈ ts, s.size < 9223372036854775808) : (putsT (strs ts)).length ≤ 10 * ts.length + total ts := by
 induction ts with
 | nil => simp [putsT, strs]
 | cons t ts ih =>
  have ht : t.data.toList.length = t.size := by simp
  have hsz := h t (by simp)
  have h1 := putZ_len (t.data.toList.length : Int) (by omega) (by omega)
  have h2 := ih fun m hm => h m (by simp [hm])
  simp only [putsT, strs, putT, total, List.flatMap_cons, List.map_cons, List.sum_cons, List.length_append, List.length_cons] at h1 h2 ⊢
  omega
set_option maxHeartbeats 400000 in
theorem put_text (A B : Option Addr) (c d : Nat) (F G : Nat → Prop) (l : List UInt8) (ts : List ByteArray) (w : World) (h : Row w A F (bcells l)) (hB : Row w B G (ts.map Value.string))
  (ht : total ts ≤ 137438953472) (hl : l.length ≤ 549755813888) (hnl : ts.length ≤ 34359738368) :
  Calls Tryz.prog 113 #[.slice A l.length c, .slice B ts.length d] w fun e w' => ∃ v', e = .returned v' ∧ OwnB w' w.heap.size v' (l ++ putsT (strs ts)) ∧ Keeps (fun _ => True) w w' := by
 have HB := Lib.hid hB
 have HA := Lib.hid h
 have HT := Lib.hid ht
 clear h hB ht
 go_enter Tryz.func113, Tryz.ntmps113
 go_wp2_with (go_at_call 87; ((with_reducible refine (clone_any _ _ _ l _ HA.out ?c1).mono ?_)))
 case c1 => omega
 rintro e w1 ⟨v1, rfl, ho, hk⟩
 have HO := Lib.hid ho
 have HK := Lib.hid hk
 clear ho hk
 go_wp2
 go_loopw [5, 12] (fun u i wr => ∃ k : Nat, k ≤ ts.length ∧ i = .int .i64 k ∧ OwnB wr w.heap.size u (l ++ putsT (strs (ts.take k))) ∧ Keeps (fun _ => True) w wr) (fun _ i _ => ts.length - (intOf i).toNat)
 case atStart => exact ⟨0, Nat.zero_le _, rfl, by simpa [putsT, strs] using HO.out, HK.out⟩
 case round =>
  obtain ⟨k, hk, rfl, ho, hkp⟩ := hrel
  by_cases hlt : k < ts.length
  ·obtain ⟨b, o, rfl, _, hcell⟩ := (HB.out.keep (hkp.mono fun _ _ _ => trivial)).at_ (k := k) (by simpa using hlt)
   simp only [List.getElem_map] at hcell
   have hsb : ts[k].size ≤ 137438953472 := Nat.le_trans (total_mem ts _ (List.getElem_mem hlt)) HT.out
   have hb1 : (-9223372036854775808 : Int) ≤ (ts[k].size : Int) := by omega
   have hb2 : (ts[k].size : Int) < 9223372036854775808 := by omega
   have hln := putsT_len (ts.take k) fun s hs => by
    have := total_mem ts s (List.mem_of_mem_take hs)
    have := HT.out
    omega
   have hlt' : (l ++ putsT (strs (ts.take k))).length ≤ 1099511627776 := by
    rw [List.length_append]
    have := total_take ts k
    have := HT.out
    have : (ts.take k).length ≤ k := List.length_take_le _ _
    omega
   have H := Lib.hid (strs_next ts k hlt)
   have hsz := hkp.size
   have HO' := Lib.hid ho
   have HK' := Lib.hid hkp
   have h10 := putZ_len (ts[k].size : Int) hb1 hb2
   clear ho hkp hln
   generalize hs : ts[k] = s at hcell hsb hb1 hb2 H h10
   clear hs
   go_wp2_with (go_at_call 88; ((with_reducible refine (put_number _ hb1 hb2 _ _ w.heap.size _ HO'.out ?c2 hlt').mono ?_)))
   case c2 => omega
   rintro e w2 ⟨v2, rfl, ho2, hto⟩
   have hown := HO'.out
   have hk2 : Keeps (fun _ => True) w w2 := hto.keeps HK'.out fun i hi => (hown.lt i hi).1
   have hsz2 := hk2.size
   have hl2 : (l ++ putsT (strs (ts.take k)) ++ putZ (s.size : Int)).length ≤ 1099511627786 := by rw [List.length_append]; omega
   have H1 := Lib.hid ho2
   have H2 := Lib.hid hk2
   clear ho2 hk2 hto hown h10 hb1 hb2 hlt'
   go_wp2_with (at_builtin; refine byte_elem.list_append rfl (.tmp 20) (.tmp 21) _ rfl rfl H1.out rfl (Src.ofString _ Tryz.underlying9 s) ?c3 ?c4 ?c5 ?_)
   case c3 => unfold maxLen; omega
   case c4 => omega
   case c5 => omega
   intro v3 w3 ho3 hg hb
   have hown := H1.out
   have hk3 : Keeps (fun _ => True) w w3 := ((Onto.refl _ _).grown hg hb).keeps H2.out fun i hi => (hown.lt i hi).1
   have ho4 : OwnB w3 w.heap.size v3 (l ++ putsT (strs (ts.take (k + 1)))) := by
    have es : s.data.toList.length = s.size := by simp
    have e4 : l ++ putsT (strs (ts.take (k + 1))) = (l ++ putsT (strs (ts.take k)) ++ putZ (s.size : Int)) ++ s.data.toList := by
     rw [H.out, putT, es]; simp only [List.append_assoc]
    rw [e4]
    refine OwnB.snoc ho3 ?_ (by rw [bcells_str]; simp only [List.append_assoc])
    simp only [List.append_assoc, List.length_append, es]; simp only [Nat.add_assoc]
   have H3 := Lib.hid ho4
   have H4 := Lib.hid hk3
   clear ho4 hk3 hg hb ho3 hown
   go_wp2
   go_roundw
   case rel => exact ⟨k + 1, by omega, by go_num, H3.out, H4.out⟩
   case measure => simp [intOf]; omega
  ·obtain rfl : k = ts.length := by omega
   rw [List.take_length] at ho
   have H1 := Lib.hid ho
   have H2 := Lib.hid hkp
   clear ho hkp
   go_wp2
   go_ret
   exact ⟨_, rfl, H1.out, H2.out⟩
end Go.Proofs.YtemkjodkmehffaaGreatDoor
