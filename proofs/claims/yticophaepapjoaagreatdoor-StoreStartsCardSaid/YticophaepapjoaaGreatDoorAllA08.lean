/-
  Clone, NumPut, SlogHist, TakeNext, GrowLay, IdxLay: texts of mine, joined.
-/
import Derived.Test.YticophaepapjoaaGreatDoorAllA00
import Derived.WalkSpells
import Derived.Lib.Hide
import Derived.Lib.SmallJoins
import Derived.Test.YticophaepapjoaaGreatDoorAllA07
import Derived.Shelf.Spec.SlicesGrow
import Derived.Ground.Names8Prog
import Derived.Test.YticophaepapjoaaGreatDoorProg
import Derived.Shelf.Strconv.Clone
import Derived.Shelf.Sort.Plain
import Derived.Shelf.Slices.In.SortNone
import Derived.Ground.NamesProg
namespace Go.Proofs.YticophaepapjoaaGreatDoor
open Go Go.RowKit
theorem clone_nil (c : Nat) (w : World) :
  Calls Tryz.prog 111 #[.slice none 0 c] w fun e w' => ∃ v', e = .returned v' ∧ OwnB w' w.heap.size v' [] ∧ Keeps (fun _ => True) w w' := by
 have hn := fun w : World => Lib.run_eql_slice_nil (P := Tryz.prog) w 64 5 none 0 c 0 0 Tryz.underlying64
 have H := Lib.hid (show ∃ v', Ending.returned (.slice none 0 0) = .returned v' ∧ OwnB w w.heap.size v' [] ∧ Keeps (fun _ => True) w w from ⟨_, rfl, World.ownsRow_nil _ _ _ _, Keeps.refl _ _⟩)
 go_enter Tryz.func111, Tryz.ntmps111
 go_wp2
 go_ret
 exact H.out
theorem clone_some (ad : Addr) (c : Nat) (F : Nat → Prop) (l : List UInt8) (w : World) (h : Row w (some ad) F (bcells l)) (hl : l.length ≤ 1099511627776) :
  Calls Tryz.prog 111 #[.slice (some ad) l.length c] w fun e w' => ∃ v', e = .returned v' ∧ OwnB w' w.heap.size v' l ∧ Keeps (fun _ => True) w w' := by
 have hn := fun w : World => Lib.run_eql_slice_nil (P := Tryz.prog) w 64 5 (some ad) l.length c 0 0 Tryz.underlying64
 have h0 : (w.alloc (.cells #[] 5)).ownsRow w.heap.size 5 1 (.slice (some ⟨w.heap.size, 0, none⟩) 0 0) 0 [] := World.ownsRow_made w #[] 0 (Nat.le_refl _) (by decide) rfl
 have hsrc : Src Tryz.prog 1 64 (.slice (some ad) l.length c) l.length (bcells l) (w.alloc (.cells #[] 5)) := by
  have := (h.keep ((Keeps.refl F w).alloc (.cells #[] 5))).src (c := c) Tryz.underlying64 (bcells_one l)
  rwa [bcells_len] at this
 have H0 := Lib.hid h0
 have HS := Lib.hid hsrc
 clear h h0 hsrc
 go_enter Tryz.func111, Tryz.ntmps111
 go_wp2_with (at_builtin; refine byte_elem.list_append rfl (.tmp 5) (.tmp 6) _ rfl rfl H0.out rfl HS.out ?c3 ?c4 ?c5 ?_)
 case c3 => unfold maxLen; omega
 case c4 => omega
 case c5 => simp
 intro v' w1 hown' hg hb
 have hk : Keeps (fun _ => True) w w1 := by
  exact ((Onto.refl _ _).grown hg (by simpa using hb)).keeps ((Keeps.refl _ w).alloc _) (by simp [Value.ownBlock])
 have ho : OwnB w1 w.heap.size v' l := by unfold OwnB; simpa using hown'
 have H1 := Lib.hid ho
 have H2 := Lib.hid hk
 clear ho hk hown' hg hb
 go_wp2
 go_ret
 exact ⟨_, rfl, H1.out, H2.out⟩
theorem clone_any (A : Option Addr) (c : Nat) (F : Nat → Prop) (l : List UInt8) (w : World) (h : Row w A F (bcells l)) (hl : l.length ≤ 1099511627776) :
  Calls Tryz.prog 111 #[.slice A l.length c] w fun e w' => ∃ v', e = .returned v' ∧ OwnB w' w.heap.size v' l ∧ Keeps (fun _ => True) w w' := by
 rcases A with _ | ad
 ·have hx : l = [] := Classical.byContradiction fun hx => by
   obtain ⟨b, o, e, _⟩ := h (by simpa [bcells] using hx)
   cases e
  subst hx
  exact clone_nil c w
 ·exact clone_some ad c F l w h hl
def putsZ (ns : List Int) : List UInt8 := ns.flatMap putZ
theorem putsZ_next (ns : List Int) (k : Nat) (h : k < ns.length) : putsZ (ns.take (k + 1)) = putsZ (ns.take k) ++ putZ ns[k] := by
 unfold putsZ; rw [List.take_succ_eq_append_getElem h, List.flatMap_append]; simp
theorem putsZ_len (ns : List Int) (h : ∀ n ∈ ns, -9223372036854775808 ≤ n ∧ n < 9223372036854775808) : (putsZ ns).length ≤ 10 * ns.length := by
 induction ns with
 | nil => simp [putsZ]
 | cons n ns ih =>
  have h1 := putZ_len n (h n (by simp)).1 (h n (by simp)).2
  have h2 := ih fun m hm => h m (by simp [hm])
  simp only [putsZ, List.flatMap_cons, List.length_append, List.length_cons] at h2 ⊢
  omega
def putsT (ts : List (List UInt8)) : List UInt8 := ts.flatMap putT
set_option maxHeartbeats 400000 in
theorem put_any (A B : Option Addr) (c d : Nat) (F G : Nat → Prop) (l : List UInt8) (ns : List Int) (w : World) (h : Row w A F (bcells l)) (hB : Row w B G (ns.map (Value.int .i64)))
  (hn : ∀ n ∈ ns, -9223372036854775808 ≤ n ∧ n < 9223372036854775808) (hl : l.length ≤ 549755813888) (hnl : ns.length ≤ 34359738368) :
  Calls Tryz.prog 79 #[.slice A l.length c, .slice B ns.length d] w fun e w' => ∃ v', e = .returned v' ∧ OwnB w' w.heap.size v' (l ++ putsZ ns) ∧ Keeps (fun _ => True) w w' := by
 have HB := Lib.hid hB
 have HA := Lib.hid h
 have HN := Lib.hid hn
 clear h hB hn
 go_enter Tryz.func79, Tryz.ntmps79
 go_wp2_with (go_at_call 111; ((with_reducible refine (clone_any _ _ _ l _ HA.out ?c1).mono ?_)))
 case c1 => omega
 rintro e w1 ⟨v1, rfl, ho, hk⟩
 have HO := Lib.hid ho
 have HK := Lib.hid hk
 clear ho hk
 go_wp2
 go_loopw [5, 12] (fun u i wr => ∃ k : Nat, k ≤ ns.length ∧ i = .int .i64 k ∧ OwnB wr w.heap.size u (l ++ putsZ (ns.take k)) ∧ Keeps (fun _ => True) w wr) (fun _ i _ => ns.length - (intOf i).toNat)
 case atStart => exact ⟨0, Nat.zero_le _, rfl, by simpa [putsZ] using HO.out, HK.out⟩
 case round =>
  obtain ⟨k, hk, rfl, ho, hkp⟩ := hrel
  by_cases hlt : k < ns.length
  ·obtain ⟨b, o, rfl, _, hcell⟩ := (HB.out.keep (hkp.mono fun _ _ _ => trivial)).at_ (k := k) (by simpa using hlt)
   simp only [List.getElem_map] at hcell
   have hb := HN.out ns[k] (List.getElem_mem hlt)
   have hln := putsZ_len (ns.take k) fun n hn => HN.out n (List.mem_of_mem_take hn)
   have hlt' : (l ++ putsZ (ns.take k)).length ≤ 1099511627776 := by
    rw [List.length_append]
    have : (ns.take k).length ≤ k := List.length_take_le _ _
    omega
   have H := Lib.hid (putsZ_next ns k hlt)
   have hsz := hkp.size
   have HO' := Lib.hid ho
   have HK' := Lib.hid hkp
   clear ho hkp hln
   go_wp2_with (go_at_call 112; ((with_reducible refine (put_number _ hb.1 hb.2 _ _ w.heap.size _ HO'.out ?c2 hlt').mono ?_)))
   case c2 => omega
   rintro e w2 ⟨v2, rfl, ho2, hto⟩
   have hown := HO'.out
   have hk2 : Keeps (fun _ => True) w w2 := hto.keeps HK'.out fun i hi => (hown.lt i hi).1
   rw [List.append_assoc, ← H.out] at ho2
   have H1 := Lib.hid ho2
   have H2 := Lib.hid hk2
   clear ho2 hk2 hto hown
   go_wp2
   go_roundw
   case rel => exact ⟨k + 1, by omega, by go_num, H1.out, H2.out⟩
   case measure => simp [intOf]; omega
  ·obtain rfl : k = ns.length := by omega
   rw [List.take_length] at ho
   have H1 := Lib.hid ho
   have H2 := Lib.hid hkp
   clear ho hkp
   go_wp2
   go_ret
   exact ⟨_, rfl, H1.out, H2.out⟩
def strs (ts : List ByteArray) : List (List UInt8) := ts.map (·.data.toList)
theorem strs_next (ts : List ByteArray) (k : Nat) (h : k < ts.length) : putsT (strs (ts.take (k + 1))) = putsT (strs (ts.take k)) ++ putT ts[k].data.toList := by
 unfold putsT strs; rw [List.take_succ_eq_append_getElem h, List.map_append, List.flatMap_append]; simp
def total (ts : List ByteArray) : Nat := (ts.map (·.size)).sum
theorem total_take (ts : List ByteArray) (k : Nat) : total (ts.take k) ≤ total ts := by
 unfold total
 conv => rhs; rw [← List.take_append_drop k ts]
 rw [List.map_append, List.sum_append]; omega
theorem total_mem (ts : List ByteArray) (s : ByteArray) (h : s ∈ ts) : s.size ≤ total ts := by
 unfold total
 induction ts with
 | nil => simp at h
 | cons t ts ih =>
  simp only [List.map_cons, List.sum_cons]
  rcases List.mem_cons.1 h with rfl | h
  ·omega
  ·have := ih h; omega
theorem putsT_len (ts : List ByteArray) (h : ∀ s ∈ ts, s.size < 9223372036854775808) : (putsT (strs ts)).length ≤ 10 * ts.length + total ts := by
 induction ts with
 | nil => simp [putsT, strs]
 | cons t ts ih =>
  have ht : t.data.toList.length = t.size := by simp
  have hsz := h t (by simp)
  have h1 := putZ_len (t.data.toList.length : Int) (by omega) (by omega)
  have h2 := ih fun m hm => h m (by simp [hm])
  simp only [putsT, strs, putT, total, List.flatMap_cons, List.map_cons, List.sum_cons, List.length_append, List.length_cons] at h1 h2 ⊢
  omega
set_option maxHeartbeats 400000 in
theorem put_text (A B : Option Addr) (c d : Nat) (F G : Nat → Prop) (l : List UInt8) (ts : List ByteArray) (w : World) (h : Row w A F (bcells l)) (hB : Row w B G (ts.map Value.string))
  (ht : total ts ≤ 137438953472) (hl : l.length ≤ 549755813888) (hnl : ts.length ≤ 34359738368) :
  Calls Tryz.prog 104 #[.slice A l.length c, .slice B ts.length d] w fun e w' => ∃ v', e = .returned v' ∧ OwnB w' w.heap.size v' (l ++ putsT (strs ts)) ∧ Keeps (fun _ => True) w w' := by
 have HB := Lib.hid hB
 have HA := Lib.hid h
 have HT := Lib.hid ht
 clear h hB ht
 go_enter Tryz.func104, Tryz.ntmps104
 go_wp2_with (go_at_call 111; ((with_reducible refine (clone_any _ _ _ l _ HA.out ?c1).mono ?_)))
 case c1 => omega
 rintro e w1 ⟨v1, rfl, ho, hk⟩
 have HO := Lib.hid ho
 have HK := Lib.hid hk
 clear ho hk
 go_wp2
 go_loopw [5, 12] (fun u i wr => ∃ k : Nat, k ≤ ts.length ∧ i = .int .i64 k ∧ OwnB wr w.heap.size u (l ++ putsT (strs (ts.take k))) ∧ Keeps (fun _ => True) w wr) (fun _ i _ => ts.length - (intOf i).toNat)
 case atStart => exact ⟨0, Nat.zero_le _, rfl, by simpa [putsT, strs] using HO.out, HK.out⟩
 case round =>
  obtain ⟨k, hk, rfl, ho, hkp⟩ := hrel
  by_cases hlt : k < ts.length
  ·obtain ⟨b, o, rfl, _, hcell⟩ := (HB.out.keep (hkp.mono fun _ _ _ => trivial)).at_ (k := k) (by simpa using hlt)
   simp only [List.getElem_map] at hcell
   have hsb : ts[k].size ≤ 137438953472 := Nat.le_trans (total_mem ts _ (List.getElem_mem hlt)) HT.out
   have hb1 : (-9223372036854775808 : Int) ≤ (ts[k].size : Int) := by omega
   have hb2 : (ts[k].size : Int) < 9223372036854775808 := by omega
   have hln := putsT_len (ts.take k) fun s hs => by
    have := total_mem ts s (List.mem_of_mem_take hs)
    have := HT.out
    omega
   have hlt' : (l ++ putsT (strs (ts.take k))).length ≤ 1099511627776 := by
    rw [List.length_append]
    have := total_take ts k
    have := HT.out
    have : (ts.take k).length ≤ k := List.length_take_le _ _
    omega
   have H := Lib.hid (strs_next ts k hlt)
   have hsz := hkp.size
   have HO' := Lib.hid ho
   have HK' := Lib.hid hkp
   have h10 := putZ_len (ts[k].size : Int) hb1 hb2
   clear ho hkp hln
   generalize hs : ts[k] = s at hcell hsb hb1 hb2 H h10
   clear hs
   go_wp2_with (go_at_call 112; ((with_reducible refine (put_number _ hb1 hb2 _ _ w.heap.size _ HO'.out ?c2 hlt').mono ?_)))
   case c2 => omega
   rintro e w2 ⟨v2, rfl, ho2, hto⟩
   have hown := HO'.out
   have hk2 : Keeps (fun _ => True) w w2 := hto.keeps HK'.out fun i hi => (hown.lt i hi).1
   have hsz2 := hk2.size
   have hl2 : (l ++ putsT (strs (ts.take k)) ++ putZ (s.size : Int)).length ≤ 1099511627786 := by rw [List.length_append]; omega
   have H1 := Lib.hid ho2
   have H2 := Lib.hid hk2
   clear ho2 hk2 hto hown h10 hb1 hb2 hlt'
   go_wp2_with (at_builtin; refine byte_elem.list_append rfl (.tmp 20) (.tmp 21) _ rfl rfl H1.out rfl (Src.ofString _ Tryz.underlying9 s) ?c3 ?c4 ?c5 ?_)
   case c3 => unfold maxLen; omega
   case c4 => omega
   case c5 => omega
   intro v3 w3 ho3 hg hb
   have hown := H1.out
   have hk3 : Keeps (fun _ => True) w w3 := ((Onto.refl _ _).grown hg hb).keeps H2.out fun i hi => (hown.lt i hi).1
   have ho4 : OwnB w3 w.heap.size v3 (l ++ putsT (strs (ts.take (k + 1)))) := by
    have es : s.data.toList.length = s.size := by simp
    have e4 : l ++ putsT (strs (ts.take (k + 1))) = (l ++ putsT (strs (ts.take k)) ++ putZ (s.size : Int)) ++ s.data.toList := by
     rw [H.out, putT, es]; simp only [List.append_assoc]
    rw [e4]
    refine OwnB.snoc ho3 ?_ (by rw [bcells_str]; simp only [List.append_assoc])
    simp only [List.append_assoc, List.length_append, es]; simp only [Nat.add_assoc]
   have H3 := Lib.hid ho4
   have H4 := Lib.hid hk3
   clear ho4 hk3 hg hb ho3 hown
   go_wp2
   go_roundw
   case rel => exact ⟨k + 1, by omega, by go_num, H3.out, H4.out⟩
   case measure => simp [intOf]; omega
  ·obtain rfl : k = ts.length := by omega
   rw [List.take_length] at ho
   have H1 := Lib.hid ho
   have H2 := Lib.hid hkp
   clear ho hkp
   go_wp2
   go_ret
   exact ⟨_, rfl, H1.out, H2.out⟩
end Go.Proofs.YticophaepapjoaaGreatDoor
namespace Go.Proofs.YticophaepapjoaaGreatDoor
structure LRec where
 pos : Nat
 body : List UInt8
 opens : Nat
 deriving Inhabited
def LRec.key (r : LRec) : Nat × List UInt8 := (r.pos, r.body)
def LRec.cost (r : LRec) : Nat := r.body.length + 60 + 400 * r.opens
def costs (l : List LRec) : Nat := (l.map LRec.cost).sum
def opened : List LRec → List LRec
 | [] => []
 | [r] => [⟨r.pos, r.body, r.opens + 1⟩]
 | r :: l => r :: opened l
structure LSt where
 dev : Nat
 place : Nat
 segs : Nat
 hist : List LRec
 gone : Nat
 first : Nat
 next : Nat
def LSt.recs (st : LSt) : List (Nat × List UInt8) := (st.hist.drop st.gone).map LRec.key
def LSt.has (st : LSt) (i : Nat) : Prop := st.place ≤ i ∧ i < st.place + 8 * st.segs
structure LSt.Ok (st : LSt) : Prop where
 segs : 3 ≤ st.segs ∧ st.segs ≤ 200
 one : ∀ r ∈ st.hist, 1 ≤ r.pos ∧ 1 ≤ r.body.length ∧ r.body.length ≤ 300
 rise : st.hist.Pairwise (·.pos < ·.pos)
 gone : st.gone ≤ st.hist.length
 kept : ∀ i, i ≤ st.hist.length → costs (st.hist.drop i) ≤ 200 * (st.segs - 2) → st.gone ≤ i
 next : 1 ≤ st.next ∧ ∀ r ∈ st.hist, r.pos < st.next
 first : ∀ r ∈ st.hist.drop st.gone, st.first ≤ r.pos
 small : st.next ≤ 1099511627776
end Go.Proofs.YticophaepapjoaaGreatDoor
namespace Go.Proofs.YticophaepapjoaaGreatDoor
theorem take_next {α : Type} (l : List α) (k : Nat) (h : k < l.length) : l.take (k + 1) = l.take k ++ [l[k]] := by
 rw [List.take_add_one, List.getElem?_eq_getElem h]; rfl
end Go.Proofs.YticophaepapjoaaGreatDoor
namespace Go.Proofs
open Go.Shelf
def Tryz.growA_ren : Go.Shelf.Ren := ⟨fun | 4 => 171 | n => n, fun | 22 => 64 | 25 => 5 | 3 => 3 | 4 => 4 | 9 => 9 | 20 => 20 | 0 => 0 | n => n, fun | n => n⟩
theorem Tryz.growA : Go.Proofs.Lays8.n4 Tryz.prog Tryz.growA_ren := {
 mixed := by kernel_rfl
 f4 := ⟨Tryz.f171.name, by decide, Tryz.func171.trans (congrArg some (by kernel_rfl))⟩
 t0 := Tryz.underlying0
 a0 := Tryz.isAgg0
 z0 := Tryz.sizeOf0
 v0 := Tryz.zeroValue0
 t3 := Tryz.underlying3
 a3 := Tryz.isAgg3
 z3 := Tryz.sizeOf3
 v3 := Tryz.zeroValue3
 t4 := Tryz.underlying4
 a4 := Tryz.isAgg4
 z4 := Tryz.sizeOf4
 v4 := Tryz.zeroValue4
 t9 := Tryz.underlying9
 a9 := Tryz.isAgg9
 z9 := Tryz.sizeOf9
 v9 := Tryz.zeroValue9
 t20 := Tryz.underlying20
 a20 := Tryz.isAgg20
 z20 := Tryz.sizeOf20
 v20 := Tryz.zeroValue20
 t22 := Tryz.underlying64
 a22 := Tryz.isAgg64
 z22 := Tryz.sizeOf64
 v22 := Tryz.zeroValue64 }
def Tryz.cloneA_ren : Go.Shelf.Ren := ⟨fun | 316 => 174 | n => n, fun | 9 => 9 | 3 => 3 | 4 => 4 | 37 => 64 | 0 => 0 | 127 => 265 | 5 => 5 | n => n, fun | n => n⟩
theorem Tryz.cloneA : Go.Proofs.LaysM.n316 Tryz.prog Tryz.cloneA_ren := {
 mixed := by kernel_rfl
 f316 := Tryz.func174.trans (congrArg some (by kernel_rfl))
 t0 := Tryz.underlying0
 a0 := Tryz.isAgg0
 z0 := Tryz.sizeOf0
 v0 := Tryz.zeroValue0
 t3 := Tryz.underlying3
 a3 := Tryz.isAgg3
 z3 := Tryz.sizeOf3
 v3 := Tryz.zeroValue3
 t4 := Tryz.underlying4
 a4 := Tryz.isAgg4
 z4 := Tryz.sizeOf4
 v4 := Tryz.zeroValue4
 t9 := Tryz.underlying9
 a9 := Tryz.isAgg9
 z9 := Tryz.sizeOf9
 v9 := Tryz.zeroValue9
 t37 := Tryz.underlying64
 a37 := Tryz.isAgg64
 z37 := Tryz.sizeOf64
 v37 := Tryz.zeroValue64
 t127 := Tryz.underlying265
 a127 := Tryz.isAgg265
 z127 := Tryz.sizeOf265
 v127 := Tryz.zeroValue265
 t5 := Tryz.underlying5
 a5 := Tryz.isAgg5
 z5 := Tryz.sizeOf5
 v5 := Tryz.zeroValue5
 i0 := by kernel_rfl
 i3 := by kernel_rfl
 i4 := by kernel_rfl
 i5 := by kernel_rfl
 i9 := by kernel_rfl
 i37 := by kernel_rfl
 i127 := by kernel_rfl }
def Tryz.sortB_ren : Go.Shelf.Ren := ⟨fun | 190 => 91 | 125 => 124 | 258 => 123 | 128 => 163 | 129 => 164 | 302 => 154 | 303 => 155 | 304 => 156 | 305 => 157 | 306 => 158 | 307 => 159 | 308 => 160 | 309 => 161 | 310 => 162 | 333 => 186 | 329 => 187 | 330 => 188 | 334 => 189 | 335 => 190 | 336 => 191 | 344 => 199 | n => n, fun | 31 => 30 | 9 => 9 | 3 => 3 | 46 => 195 | 0 => 0 | 51 => 217 | 53 => 123 | 4 => 4 | 183 => 231 | 182 => 230 | 131 => 121 | 5 => 5 | 218 => 256 | 222 => 260 | 228 => 270 | 229 => 271 | n => n, fun | n => n⟩
theorem Tryz.sortB : Go.Proofs.Lays.n190 Tryz.prog Tryz.sortB_ren := {
 mixed := by kernel_rfl
 f125 := Tryz.func124.trans (congrArg some (by kernel_rfl))
 f128 := Tryz.func163.trans (congrArg some (by kernel_rfl))
 f129 := Tryz.func164.trans (congrArg some (by kernel_rfl))
 f190 := Tryz.func91.trans (congrArg some (by kernel_rfl))
 f258 := Tryz.func123.trans (congrArg some (by kernel_rfl))
 f302 := Tryz.func154.trans (congrArg some (by kernel_rfl))
 f303 := Tryz.func155.trans (congrArg some (by kernel_rfl))
 f304 := Tryz.func156.trans (congrArg some (by kernel_rfl))
 f305 := Tryz.func157.trans (congrArg some (by kernel_rfl))
 f306 := Tryz.func158.trans (congrArg some (by kernel_rfl))
 f307 := Tryz.func159.trans (congrArg some (by kernel_rfl))
 f308 := Tryz.func160.trans (congrArg some (by kernel_rfl))
 f309 := Tryz.func161.trans (congrArg some (by kernel_rfl))
 f310 := Tryz.func162.trans (congrArg some (by kernel_rfl))
 f329 := Tryz.func187.trans (congrArg some (by kernel_rfl))
 f330 := Tryz.func188.trans (congrArg some (by kernel_rfl))
 f333 := Tryz.func186.trans (congrArg some (by kernel_rfl))
 f334 := Tryz.func189.trans (congrArg some (by kernel_rfl))
 f335 := Tryz.func190.trans (congrArg some (by kernel_rfl))
 f336 := Tryz.func191.trans (congrArg some (by kernel_rfl))
 f344 := Tryz.func199.trans (congrArg some (by kernel_rfl))
 t0 := Tryz.underlying0
 a0 := Tryz.isAgg0
 z0 := Tryz.sizeOf0
 v0 := Tryz.zeroValue0
 t3 := Tryz.underlying3
 a3 := Tryz.isAgg3
 z3 := Tryz.sizeOf3
 v3 := Tryz.zeroValue3
 t4 := Tryz.underlying4
 a4 := Tryz.isAgg4
 z4 := Tryz.sizeOf4
 v4 := Tryz.zeroValue4
 t5 := Tryz.underlying5
 a5 := Tryz.isAgg5
 z5 := Tryz.sizeOf5
 v5 := Tryz.zeroValue5
 t9 := Tryz.underlying9
 a9 := Tryz.isAgg9
 z9 := Tryz.sizeOf9
 v9 := Tryz.zeroValue9
 t31 := Tryz.underlying30
 a31 := Tryz.isAgg30
 z31 := Tryz.sizeOf30
 v31 := Tryz.zeroValue30
 t46 := Tryz.underlying195
 a46 := Tryz.isAgg195
 z46 := Tryz.sizeOf195
 v46 := Tryz.zeroValue195
 t51 := Tryz.underlying217
 a51 := Tryz.isAgg217
 z51 := Tryz.sizeOf217
 v51 := Tryz.zeroValue217
 t53 := Tryz.underlying123
 a53 := Tryz.isAgg123
 z53 := Tryz.sizeOf123
 v53 := Tryz.zeroValue123
 t131 := Tryz.underlying121
 a131 := Tryz.isAgg121
 z131 := Tryz.sizeOf121
 v131 := Tryz.zeroValue121
 t182 := Tryz.underlying230
 a182 := Tryz.isAgg230
 z182 := Tryz.sizeOf230
 v182 := Tryz.zeroValue230
 t183 := Tryz.underlying231
 a183 := Tryz.isAgg231
 z183 := Tryz.sizeOf231
 v183 := Tryz.zeroValue231
 t218 := Tryz.underlying256
 a218 := Tryz.isAgg256
 z218 := Tryz.sizeOf256
 v218 := Tryz.zeroValue256
 t222 := Tryz.underlying260
 a222 := Tryz.isAgg260
 z222 := Tryz.sizeOf260
 v222 := Tryz.zeroValue260
 t228 := Tryz.underlying270
 a228 := Tryz.isAgg270
 z228 := Tryz.sizeOf270
 v228 := Tryz.zeroValue270
 t229 := Tryz.underlying271
 a229 := Tryz.isAgg271
 z229 := Tryz.sizeOf271
 v229 := Tryz.zeroValue271 }
end Go.Proofs
