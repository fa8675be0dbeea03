/-
  NumPut, SecWalk, InvCopy: texts of mine, joined.
-/
import Derived.Test.YticophaepapjoaaGreatDoorAllA07
import Derived.Test.YticophaepapjoaaGreatDoorAllA03
import Derived.WalkSpells
import Derived.Test.YticophaepapjoaaGreatDoorAllA01
import Derived.Test.YticophaepapjoaaGreatDoorAllA06
import Derived.Outline
import Derived.Test.YticophaepapjoaaGreatDoorAllA00
import Derived.WalkKit
namespace Go.Proofs.YticophaepapjoaaGreatDoor
open Go Go.RowKit
def putsZ (ns : List Int) : List UInt8 := ns.flatMap putZ
theorem putsZ_next (ns : List Int) (k : Nat) (h : k < ns.length) : putsZ (ns.take (k + 1)) = putsZ (ns.take k) ++ putZ ns[k] := by
 unfold putsZ; rw [List.take_succ_eq_append_getElem h, List.flatMap_append]; simp
theorem putsZ_len (ns : List Int) (h : ∀ n ∈ ns, -9223372036854775808 ≤ n ∧ n < 9223372036854775808) : (putsZ ns).length ≤ 10 * ns.length := by
 induction ns with
 | nil => simp [putsZ]
 | cons n ns ih =>
  have h1 := putZ_len n (h n (by simp)).1 (h n (by simp)).2
  have h2 := ih fun m hm => h m (by simp [hm])
  simp only [putsZ, List.flatMap_cons, List.length_append, List.length_cons] at h2 ⊢
  omega
def putsT (ts : List (List UInt8)) : List UInt8 := ts.flatMap putT
set_option maxHeartbeats 400000 in
theorem put_any (A B : Option Addr) (c d : Nat) (F G : Nat → Prop) (l : List UInt8) (ns : List Int) (w : World) (h : Row w A F (bcells l)) (hB : Row w B G (ns.map (Value.int .i64)))
  (hn : ∀ n ∈ ns, -9223372036854775808 ≤ n ∧ n < 9223372036854775808) (hl : l.length ≤ 549755813888) (hnl : ns.length ≤ 34359738368) :
  Calls Tryz.prog 79 #[.slice A l.length c, .slice B ns.length d] w fun e w' => ∃ v', e = .returned v' ∧ OwnB w' w.heap.size v' (l ++ putsZ ns) ∧ Keeps (fun _ => True) w w' := by
 have HB := Lib.hid hB
 have HA := Lib.hid h
 have HN := Lib.hid hn
 clear h hB hn
 go_enter Tryz.func79, Tryz.ntmps79
 go_wp2_with (go_at_call 111; ((with_reducible refine (clone_any _ _ _ l _ HA.out ?c1).mono ?_)))
 case c1 => omega
 rintro e w1 ⟨v1, rfl, ho, hk⟩
 have HO := Lib.hid ho
 have HK := Lib.hid hk
 clear ho hk
 go_wp2
 go_loopw [5, 12] (fun u i wr => ∃ k : Nat, k ≤ ns.length ∧ i = .int .i64 k ∧ OwnB wr w.heap.size u (l ++ putsZ (ns.take k)) ∧ Keeps (fun _ => True) w wr) (fun _ i _ => ns.length - (intOf i).toNat)
 case atStart => exact ⟨0, Nat.zero_le _, rfl, by simpa [putsZ] using HO.out, HK.out⟩
 case round =>
  obtain ⟨k, hk, rfl, ho, hkp⟩ := hrel
  by_cases hlt : k < ns.length
  ·obtain ⟨b, o, rfl, _, hcell⟩ := (HB.out.keep (hkp.mono fun _ _ _ => trivial)).at_ (k := k) (by simpa using hlt)
   simp only [List.getElem_map] at hcell
   have hb := HN.out ns[k] (List.getElem_mem hlt)
   have hln := putsZ_len (ns.take k) fun n hn => HN.out n (List.mem_of_mem_take hn)
   have hlt' : (l ++ putsZ (ns.take k)).length ≤ 1099511627776 := by
    rw [List.length_append]
    have : (ns.take k).length ≤ k := List.length_take_le _ _
    omega
   have H := Lib.hid (putsZ_next ns k hlt)
   have hsz := hkp.size
   have HO' := Lib.hid ho
   have HK' := Lib.hid hkp
   clear ho hkp hln
   go_wp2_with (go_at_call 112; ((with_reducible refine (put_number _ hb.1 hb.2 _ _ w.heap.size _ HO'.out ?c2 hlt').mono ?_)))
   case c2 => omega
   rintro e w2 ⟨v2, rfl, ho2, hto⟩
   have hown := HO'.out
   have hk2 : Keeps (fun _ => True) w w2 := hto.keeps HK'.out fun i hi => (hown.lt i hi).1
   rw [List.append_assoc, ← H.out] at ho2
   have H1 := Lib.hid ho2
   have H2 := Lib.hid hk2
   clear ho2 hk2 hto hown
   go_wp2
   go_roundw
   case rel => exact ⟨k + 1, by omega, by go_num, H1.out, H2.out⟩
   case measure => simp [intOf]; omega
  ·obtain rfl : k = ns.length := by omega
   rw [List.take_length] at ho
   have H1 := Lib.hid ho
   have H2 := Lib.hid hkp
   clear ho hkp
   go_wp2
   go_ret
   exact ⟨_, rfl, H1.out, H2.out⟩
def strs (ts : List ByteArray) : List (List UInt8) := ts.map (·.data.toList)
theorem strs_next (ts : List ByteArray) (k : Nat) (h : k < ts.length) : putsT (strs (ts.take (k + 1))) = putsT (strs (ts.take k)) ++ putT ts[k].data.toList := by
 unfold putsT strs; rw [List.take_succ_eq_append_getElem h, List.map_append, List.flatMap_append]; simp
def total (ts : List ByteArray) : Nat := (ts.map (·.size)).sum
theorem total_take (ts : List ByteArray) (k : Nat) : total (ts.take k) ≤ total ts := by
 unfold total
 conv => rhs; rw [← List.take_append_drop k ts]
 rw [List.map_append, List.sum_append]; omega
theorem total_mem (ts : List ByteArray) (s : ByteArray) (h : s ∈ ts) : s.size ≤ total ts := by
 unfold total
 induction ts with
 | nil => simp at h
 | cons t ts ih =>
  simp only [List.map_cons, List.sum_cons]
  rcases List.mem_cons.1 h with rfl | h
  ·omega
  ·have := ih h; omega
theorem putsT_len (ts : List ByteArray) (h : ∀ s ∈ ts, s.size < 9223372036854775808) : (putsT (strs ts)).length ≤ 10 * ts.length + total ts := by
 induction ts with
 | nil => simp [putsT, strs]
 | cons t ts ih =>
  have ht : t.data.toList.length = t.size := by simp
  have hsz := h t (by simp)
  have h1 := putZ_len (t.data.toList.length : Int) (by omega) (by omega)
  have h2 := ih fun m hm => h m (by simp [hm])
  simp only [putsT, strs, putT, total, List.flatMap_cons, List.map_cons, List.sum_cons, List.length_append, List.length_cons] at h1 h2 ⊢
  omega
set_option maxHeartbeats 400000 in
theorem put_text (A B : Option Addr) (c d : Nat) (F G : Nat → Prop) (l : List UInt8) (ts : List ByteArray) (w : World) (h : Row w A F (bcells l)) (hB : Row w B G (ts.map Value.string))
  (ht : total ts ≤ 137438953472) (hl : l.length ≤ 549755813888) (hnl : ts.length ≤ 34359738368) :
  Calls Tryz.prog 104 #[.slice A l.length c, .slice B ts.length d] w fun e w' => ∃ v', e = .returned v' ∧ OwnB w' w.heap.size v' (l ++ putsT (strs ts)) ∧ Keeps (fun _ => True) w w' := by
 have HB := Lib.hid hB
 have HA := Lib.hid h
 have HT := Lib.hid ht
 clear h hB ht
 go_enter Tryz.func104, Tryz.ntmps104
 go_wp2_with (go_at_call 111; ((with_reducible refine (clone_any _ _ _ l _ HA.out ?c1).mono ?_)))
 case c1 => omega
 rintro e w1 ⟨v1, rfl, ho, hk⟩
 have HO := Lib.hid ho
 have HK := Lib.hid hk
 clear ho hk
 go_wp2
 go_loopw [5, 12] (fun u i wr => ∃ k : Nat, k ≤ ts.length ∧ i = .int .i64 k ∧ OwnB wr w.heap.size u (l ++ putsT (strs (ts.take k))) ∧ Keeps (fun _ => True) w wr) (fun _ i _ => ts.length - (intOf i).toNat)
 case atStart => exact ⟨0, Nat.zero_le _, rfl, by simpa [putsT, strs] using HO.out, HK.out⟩
 case round =>
  obtain ⟨k, hk, rfl, ho, hkp⟩ := hrel
  by_cases hlt : k < ts.length
  ·obtain ⟨b, o, rfl, _, hcell⟩ := (HB.out.keep (hkp.mono fun _ _ _ => trivial)).at_ (k := k) (by simpa using hlt)
   simp only [List.getElem_map] at hcell
   have hsb : ts[k].size ≤ 137438953472 := Nat.le_trans (total_mem ts _ (List.getElem_mem hlt)) HT.out
   have hb1 : (-9223372036854775808 : Int) ≤ (ts[k].size : Int) := by omega
   have hb2 : (ts[k].size : Int) < 9223372036854775808 := by omega
   have hln := putsT_len (ts.take k) fun s hs => by
    have := total_mem ts s (List.mem_of_mem_take hs)
    have := HT.out
    omega
   have hlt' : (l ++ putsT (strs (ts.take k))).length ≤ 1099511627776 := by
    rw [List.length_append]
    have := total_take ts k
    have := HT.out
    have : (ts.take k).length ≤ k := List.length_take_le _ _
    omega
   have H := Lib.hid (strs_next ts k hlt)
   have hsz := hkp.size
   have HO' := Lib.hid ho
   have HK' := Lib.hid hkp
   have h10 := putZ_len (ts[k].size : Int) hb1 hb2
   clear ho hkp hln
   generalize hs : ts[k] = s at hcell hsb hb1 hb2 H h10
   clear hs
   go_wp2_with (go_at_call 112; ((with_reducible refine (put_number _ hb1 hb2 _ _ w.heap.size _ HO'.out ?c2 hlt').mono ?_)))
   case c2 => omega
   rintro e w2 ⟨v2, rfl, ho2, hto⟩
   have hown := HO'.out
   have hk2 : Keeps (fun _ => True) w w2 := hto.keeps HK'.out fun i hi => (hown.lt i hi).1
   have hsz2 := hk2.size
   have hl2 : (l ++ putsT (strs (ts.take k)) ++ putZ (s.size : Int)).length ≤ 1099511627786 := by rw [List.length_append]; omega
   have H1 := Lib.hid ho2
   have H2 := Lib.hid hk2
   clear ho2 hk2 hto hown h10 hb1 hb2 hlt'
   go_wp2_with (at_builtin; refine byte_elem.list_append rfl (.tmp 20) (.tmp 21) _ rfl rfl H1.out rfl (Src.ofString _ Tryz.underlying9 s) ?c3 ?c4 ?c5 ?_)
   case c3 => unfold maxLen; omega
   case c4 => omega
   case c5 => omega
   intro v3 w3 ho3 hg hb
   have hown := H1.out
   have hk3 : Keeps (fun _ => True) w w3 := ((Onto.refl _ _).grown hg hb).keeps H2.out fun i hi => (hown.lt i hi).1
   have ho4 : OwnB w3 w.heap.size v3 (l ++ putsT (strs (ts.take (k + 1)))) := by
    have es : s.data.toList.length = s.size := by simp
    have e4 : l ++ putsT (strs (ts.take (k + 1))) = (l ++ putsT (strs (ts.take k)) ++ putZ (s.size : Int)) ++ s.data.toList := by
     rw [H.out, putT, es]; simp only [List.append_assoc]
    rw [e4]
    refine OwnB.snoc ho3 ?_ (by rw [bcells_str]; simp only [List.append_assoc])
    simp only [List.append_assoc, List.length_append, es]; simp only [Nat.add_assoc]
   have H3 := Lib.hid ho4
   have H4 := Lib.hid hk3
   clear ho4 hk3 hg hb ho3 hown
   go_wp2
   go_roundw
   case rel => exact ⟨k + 1, by omega, by go_num, H3.out, H4.out⟩
   case measure => simp [intOf]; omega
  ·obtain rfl : k = ts.length := by omega
   rw [List.take_length] at ho
   have H1 := Lib.hid ho
   have H2 := Lib.hid hkp
   clear ho hkp
   go_wp2
   go_ret
   exact ⟨_, rfl, H1.out, H2.out⟩
end Go.Proofs.YticophaepapjoaaGreatDoor
namespace Go.Proofs.YticophaepapjoaaGreatDoor
open Go Go.RowKit Go.Joins
theorem sum_lit (q : UInt8) (z : Int) (hz : z = (q.toNat : Int)) (A : Option Addr) (cap : Nat) (l : List UInt8) (n : Nat) (hn : n = l.length) (F : Nat → Prop) (w : World) (h2 : Row w A F (bcells l)) (hl : l.length ≤ maxLen) (hT : Taken w) :
  Calls Tryz.prog 142 #[.slice (some ⟨w.heap.size + 1, 0, none⟩) 2 2] ((w.alloc (.cells #[.int .u8 z] 5)).alloc (.cells #[.slice (some ⟨w.heap.size, 0, none⟩) 1 1, .slice A n cap] 64)) fun e w' => e = .returned (.int .u32 ((crcN (q :: l) : Nat) : Int)) ∧ (w.alloc (.cells #[.int .u8 z] 5)).alloc (.cells #[.slice (some ⟨w.heap.size, 0, none⟩) 1 1, .slice A n cap] 64) = w' := by
 subst hn hz
 have r0 : Row (w.alloc (.cells #[.int .u8 (q.toNat : Int)] 5)) (some ⟨w.heap.size, 0, none⟩) (fun _ => True) (bcells [q]) := Row.fresh w #[.int .u8 (q.toNat : Int)] 5 (0, 0) _ rfl trivial _ rfl
 have h2' := h2.mono (G := fun _ => True) fun _ _ _ => trivial
 have h := sum_any (some ⟨w.heap.size + 1, 0, none⟩) 2 (fun _ => True) (fun _ => True) [⟨some ⟨w.heap.size, 0, none⟩, 1, [q]⟩, ⟨A, cap, l⟩] ((w.alloc (.cells #[.int .u8 (q.toNat : Int)] 5)).alloc (.cells #[.slice (some ⟨w.heap.size, 0, none⟩) 1 1, .slice A l.length cap] 64))
  (Row.fresh (w.alloc (.cells #[.int .u8 (q.toNat : Int)] 5)) #[.slice (some ⟨w.heap.size, 0, none⟩) 1 1, .slice A l.length cap] 64 (0, 0) _ (by simp) trivial _ rfl)
  (fun p hp => by
   simp only [List.mem_cons, List.not_mem_nil, or_false] at hp
   rcases hp with rfl | rfl
   ·exact ⟨r0.alloc _, by show 1 ≤ maxLen; decide⟩
   ·exact ⟨(h2'.alloc _).alloc _, hl⟩) (by show 2 ≤ maxLen; decide) ((hT.alloc _).alloc _)
 have e : joined [⟨some ⟨w.heap.size, 0, none⟩, 1, [q]⟩, ⟨A, cap, l⟩] = q :: l := by simp [joined]
 rw [e] at h
 exact h
set_option maxHeartbeats 400000 in
theorem fsum_any (q : UInt8) (z : Int) (hz : z = (q.toNat : Int)) (A : Option Addr) (c : Nat) (F : Nat → Prop) (l : List UInt8) (w : World) (h : Row w A F (bcells l)) (hl : l.length = 64) (hc : 64 ≤ c) (hcm : c ≤ maxLen) (hT : Taken w) :
  Calls Tryz.prog 110 #[.int .u8 z, .slice A 64 c] w fun e w' => ∃ v, e = .returned v ∧ OwnB w' w.heap.size v (sumOf q l) ∧ Keeps (fun _ => True) w w' := by
 unfold maxLen at hcm
 obtain ⟨b, o, rfl, -, -⟩ := h (by intro e; have := congrArg List.length e; rw [bcells_len, hl] at this; simp at this)
 have hs := sum_lit q z hz (some ⟨b, o, none⟩) c (l.take 60) 60 (by rw [List.length_take]; omega) F w (bcells_take h 60) (by rw [List.length_take]; unfold maxLen; omega) hT
 have hx := crcN_lt (q :: l.take 60)
 have HE := Lib.hid (show sumOf q l = sumL (crcN (q :: l.take 60)) from rfl)
 generalize crcN (q :: l.take 60) = x at hs hx HE
 have HS := Lib.hid hs
 obtain ⟨w2, hw2⟩ : ∃ w2, (w.alloc (.cells #[.int .u8 z] 5)).alloc (.cells #[.slice (some ⟨w.heap.size, 0, none⟩) 1 1, .slice (some ⟨b, o, none⟩) 60 c] 64) = w2 := ⟨_, rfl⟩
 have hk2 : Keeps (fun _ => True) w w2 := by rw [← hw2]; exact ((Keeps.refl _ w).alloc _).alloc _
 have hfin : ∀ g : Nat, g = w2.heap.size → ∃ v, Ending.returned (Value.slice (some ⟨g, 0, none⟩) 4 4) = .returned v ∧ OwnB (w2.alloc (.cells #[.int .u8 ((x : Int) % 256), .int .u8 ((x : Int) / 256 % 256), .int .u8 ((x : Int) / 65536 % 256), .int .u8 ((x : Int) / 16777216)] 5)) w.heap.size v (sumOf q l) ∧
   Keeps (fun _ => True) w (w2.alloc (.cells #[.int .u8 ((x : Int) % 256), .int .u8 ((x : Int) / 256 % 256), .int .u8 ((x : Int) / 65536 % 256), .int .u8 ((x : Int) / 16777216)] 5)) := by
  rintro g rfl
  have h1 := World.ownsRow_lit (base := w.heap.size) (size := 1) (e := 5) w2 #[.int .u8 ((x : Int) % 256), .int .u8 ((x : Int) / 256 % 256), .int .u8 ((x : Int) / 65536 % 256), .int .u8 ((x : Int) / 16777216)] 4 hk2.size (by decide) rfl
  refine ⟨_, rfl, ?_, hk2.alloc _⟩
  have e : bcells (sumOf q l) = [.int .u8 ((x : Int) % 256), .int .u8 ((x : Int) / 256 % 256), .int .u8 ((x : Int) / 65536 % 256), .int .u8 ((x : Int) / 16777216)] := by
   rw [HE.out]
   unfold sumL bcells bcell
   simp only [List.map_cons, List.map_nil, toNat_ofNat_mod]
   rw [Nat.mod_eq_of_lt (show x / 16777216 < 256 by omega)]
   simp
  have e4 : (sumOf q l).length = 4 := rfl
  unfold OwnB
  rw [e, e4]
  exact h1
 have HF := Lib.hid hfin
 have HW2 := Lib.hid hw2
 have HSZ := Lib.hid (show w.heap.size + 2 = w2.heap.size from by rw [← hw2]; simp)
 clear h hs hl hT hfin HE hw2 hk2 hz
 go_enter Tryz.func110, Tryz.ntmps110
 go_wp2_with fail
 refine HS.out.mono ?_
 rintro e w' ⟨rfl, rfl⟩
 rw [HW2.out]
 have HZ := HSZ.out
 go_wp2_with fail
 go_ret
 exact HF.out _ rfl
end Go.Proofs.YticophaepapjoaaGreatDoor
namespace Go.Proofs.YticophaepapjoaaGreatDoor
open Go Go.RowKit
def StRow (W : World) (base g : Nat) (e : TypeId) (n c : Nat) (xs ys : List Value) (b : Bool) (w : World) : Prop :=
 w.ownsRow base e 1 (.slice (some ⟨g, 0, none⟩) n c) n (if b then ys else xs) ∧ Keeps (fun b => b ≠ g) W w ∧ g < w.heap.size
section
variable {W w w' : World} {base g : Nat} {e : TypeId} {n c : Nat} {xs ys : List Value} {b : Bool}
theorem StRow.keep (h : Kp w w') (hs : StRow W base g e n c xs ys b w) : StRow W base g e n c xs ys b w' :=
 ⟨h.own hs.1 fun _ _ => trivial, hs.2.1.trans (h.mono fun _ _ _ => trivial), Nat.lt_of_lt_of_le hs.2.2 h.size⟩
theorem StRow.put (hs : StRow W base g e n c xs ys false w) (ho : w'.ownsRow base e 1 (.slice (some ⟨g, 0, none⟩) n c) n ys) (hg : w.grownBy w' (some g)) : StRow W base g e n c xs ys true w' :=
 ⟨ho, hs.2.1.trans (Keeps.of_grown hg fun _ e _ hn => by cases e; exact hn rfl), Nat.lt_of_lt_of_le hs.2.2 hg.size⟩
end
def TextG (g : Nat) (l : List UInt8) : World → Value → Prop := fun w v => ∃ A c, v = .slice A l.length c ∧ l.length ≤ c ∧ c ≤ maxLen ∧ Row w A (fun b => b ≠ g) (bcells l)
theorem TextG.keep {g : Nat} {l : List UInt8} {w w' : World} {v : Value} (h : Keeps (fun b => b ≠ g) w w') (hv : TextG g l w v) : TextG g l w' v := by
 obtain ⟨A, c, e, h1, h2, hr⟩ := hv
 exact ⟨A, c, e, h1, h2, hr.keep h⟩
theorem TextG.of_own {g m : Nat} {l : List UInt8} {w' : World} {v : Value} (h : OwnB w' m v l) (hg : g < m) : TextG g l w' v := by
 obtain ⟨A, c, e, hn, hr⟩ := own_slice h
 refine ⟨A, c, e, ?_, ?_, hr.mono fun b _ hb => by omega⟩
 all_goals
  rw [e] at h
  rcases h.2 with ⟨h', h0⟩ | ⟨g', cap', cur, h', _, _, h1, h2, _⟩
  ·injection h' with _ h3 h4; omega
  ·injection h' with _ h3 h4; omega
theorem keeps_grown {g : Nat} {w w' : World} (h : w.grownBy w' (some g)) : Keeps (fun b => b ≠ g) w w' := Keeps.of_grown h fun _ e _ hn => by cases e; exact hn rfl
section
variable {P : Program} {w : World} {o : Oper} {a : Act} {Q : Exit → Act → World → Prop}
theorem one_copy {W : World} {base g n c : Nat} {e : TypeId} {xs ys cs : List Value} (d s : Operand) (dT sT : TypeId) (ho : o.op = .call { callee := .builtin .copy, args := #[d, s], argTypes := #[dT, sT] }) (hu : P.underlying dT = some (.slice e)) (hsz : (P.info? e).map (·.size) = some 1)
  (hs : StRow W base g e n c xs ys false w) (off dLen dCap : Nat) (hd : a.eval d = .slice (some ⟨g, off, none⟩) dLen dCap) (A : Option Addr) (m sc : Nat) (hv : a.eval s = .slice A m sc) (hm : m = cs.length) (hle : cs.length ≤ dLen) (hne : cs ≠ [])
  {G : Nat → Prop} (hrow : Row w A G cs) (h1 : ∀ v ∈ cs, v.oneCell' = true) (hfit : off + cs.length ≤ xs.length) (hys : xs.take off ++ cs ++ xs.drop (off + cs.length) = ys) :
  o.wp P a w (fun a' w' => ∃ v, a' = a.put o.dst v ∧ w.grownBy w' (some g) ∧ StRow W base g e n c xs ys true w' ∧ IsV (goInt cs.length) w' v) Q := by
 subst hm
 obtain ⟨b, o', rfl, _, hc⟩ := hrow hne
 obtain ⟨cur, hg, hl, h2, h3⟩ := own_splice (show w.ownsRow base e 1 (.slice (some ⟨g, 0, none⟩) n c) n xs from hs.1) off cs hfit
 rw [hys] at h2
 have hrun := run_copy_row (P := P) w dT sT o.type e g off dLen dCap ⟨b, o', none⟩ cs.length sc cur e cs hu hsz hg (Nat.min_eq_left hle).symm (fun j v hv => by rw [WideShapes.add_plain]; exact hc j v hv) (by simpa using hl) h1
 clear hys
 generalize w.setRow g (cur.toList.take off ++ cs ++ cur.toList.drop (off + cs.length)).toArray = w2 at hrun h2 h3
 unfold Oper.wp
 simp [execOp, ho, resolve, invoke, builtin, hd, hv, hrun, Result.andThen]
 exact ⟨goInt cs.length, rfl, h3, hs.put h2 h3, rfl⟩
end
end Go.Proofs.YticophaepapjoaaGreatDoor
