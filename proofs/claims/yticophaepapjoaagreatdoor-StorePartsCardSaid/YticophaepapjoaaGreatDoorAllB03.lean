/-
  Clone, ItemIf, NumPut, NumGet: texts of mine, joined.
-/
import Derived.Test.YticophaepapjoaaGreatDoorAllB02
import Derived.WalkSpells
import Derived.Lib.Hide
import Derived.Lib.SmallJoins
import Derived.Test.YticophaepapjoaaGreatDoorAllB01
import Derived.BigQuiet
open Go.Lib renaming hid → Hd
set_option maxRecDepth 100000
set_option maxHeartbeats 8000000
namespace Go.Proofs.YticophaepapjoaaGreatDoor
open Go Go.RowKit
theorem clone_nil (c : Nat) (w : World) :
  Calls Tryz.prog 111 #[.slice none 0 c] w fun e w' => ∃ v', e = .returned v' ∧ OwnB w' w.heap.size v' [] ∧ Keeps (fun _ => True) w w' := by
 have hn := fun w : World => Lib.run_eql_slice_nil (P := Tryz.prog) w 64 5 none 0 c 0 0 Tryz.underlying64
 have H := Hd (show ∃ v', Ending.returned (.slice none 0 0) = .returned v' ∧ OwnB w w.heap.size v' [] ∧ Keeps (fun _ => True) w w from ⟨_, rfl, World.ownsRow_nil _ _ _ _, Keeps.refl _ _⟩)
 go_enter Tryz.func111, Tryz.ntmps111
 go_wp2
 go_ret
 exact H.out
theorem clone_some (ad : Addr) (c : Nat) (F : Nat → Prop) (l : List UInt8) (w : World) (h : Row w (some ad) F (bcells l)) (hl : l.length ≤ 1099511627776) :
  Calls Tryz.prog 111 #[.slice (some ad) l.length c] w fun e w' => ∃ v', e = .returned v' ∧ OwnB w' w.heap.size v' l ∧ Keeps (fun _ => True) w w' := by
 have hn := fun w : World => Lib.run_eql_slice_nil (P := Tryz.prog) w 64 5 (some ad) l.length c 0 0 Tryz.underlying64
 have h0 : (w.alloc (.cells #[] 5)).ownsRow w.heap.size 5 1 (.slice (some ⟨w.heap.size, 0, none⟩) 0 0) 0 [] := World.ownsRow_made w #[] 0 (Nat.le_refl _) (by decide) rfl
 have hsrc : Src Tryz.prog 1 64 (.slice (some ad) l.length c) l.length (bcells l) (w.alloc (.cells #[] 5)) := by
  have := (h.keep ((Keeps.refl F w).alloc (.cells #[] 5))).src (c := c) Tryz.underlying64 (bcells_one l)
  rwa [bcells_len] at this
 have H0 := Hd h0
 have HS := Hd hsrc
 clear h h0 hsrc
 go_enter Tryz.func111, Tryz.ntmps111
 go_wp2_with (at_builtin; refine byte_elem.list_append rfl (.tmp 5) (.tmp 6) _ rfl rfl H0.out rfl HS.out ?c3 ?c4 ?c5 ?_)
 case c3 => unfold maxLen; omega
 case c4 => omega
 case c5 => simp
 intro v' w1 hown' hg hb
 have hk : Keeps (fun _ => True) w w1 := by
  exact ((Onto.refl _ _).grown hg (by simpa using hb)).keeps ((Keeps.refl _ w).alloc _) (by simp [Value.ownBlock])
 have ho : OwnB w1 w.heap.size v' l := by unfold OwnB; simpa using hown'
 have H1 := Hd ho
 have H2 := Hd hk
 clear ho hk hown' hg hb
 go_wp2
 go_ret
 exact ⟨_, rfl, H1.out, H2.out⟩
theorem clone_any (A : Option Addr) (c : Nat) (F : Nat → Prop) (l : List UInt8) (w : World) (h : Row w A F (bcells l)) (hl : l.length ≤ 1099511627776) :
  Calls Tryz.prog 111 #[.slice A l.length c] w fun e w' => ∃ v', e = .returned v' ∧ OwnB w' w.heap.size v' l ∧ Keeps (fun _ => True) w w' := by
 rcases A with _ | ad
 ·have hx : l = [] := Classical.byContradiction fun hx => by
   obtain ⟨b, o, e, _⟩ := h (by simpa [bcells] using hx)
   cases e
  subst hx
  exact clone_nil c w
 ·exact clone_some ad c F l w h hl
def It.cells (x : It) : List Value := [.string x.key, .string x.val, .int .i64 x.till, .bool x.gone]
def itCells (l : List It) : List Value := l.flatMap It.cells
def It.fits (x : It) : Prop := x.key.size ≤ 1000000 ∧ x.val.size ≤ 1000000 ∧ -9223372036854775808 ≤ x.till ∧ x.till < 9223372036854775808
theorem It.may_fits {x : It} (h : x.may = true) : x.fits := by
 have := It.may_is h
 exact ⟨by omega, by omega, by omega, by omega⟩
theorem itCells_len (l : List It) : (itCells l).length = l.length * 4 := by
 induction l with
 | nil => rfl
 | cons r l ih =>
  have e : itCells (r :: l) = r.cells ++ itCells l := by simp [itCells]
  rw [e, List.length_append, ih, List.length_cons]
  show 4 + _ = _
  omega
theorem itCells_at (l : List It) (j i : Nat) (hj : j < l.length) (hi : i < 4) : (itCells l)[j * 4 + i]? = (l[j].cells)[i]? := by
 induction l generalizing j with
 | nil => simp at hj
 | cons r l ih =>
  have e : itCells (r :: l) = r.cells ++ itCells l := by simp [itCells]
  rw [e]
  cases j with
  | zero =>
   rw [Nat.zero_mul, Nat.zero_add, List.getElem?_append_left (by show i < 4; exact hi)]
   rfl
  | succ j =>
   rw [List.getElem?_append_right (by show 4 ≤ _; omega), show (j + 1) * 4 + i - r.cells.length = j * 4 + i by show (j + 1) * 4 + i - 4 = _; omega, ih j (by simpa using hj)]
   rfl
theorem itCells_snoc (l : List It) (r : It) : itCells (l ++ [r]) = itCells l ++ r.cells := by simp [itCells]
def ItsAt (w : World) (A : Option Addr) (F : Nat → Prop) (l : List It) : Prop := ∀ k (h : k < l.length), ∃ b o, A = some ⟨b, o, none⟩ ∧ F b ∧ w.cell? ⟨b, o + k * 4, none⟩ = some (.string l[k].key) ∧
 w.cell? ⟨b, o + k * 4 + 1, none⟩ = some (.string l[k].val) ∧ w.cell? ⟨b, o + k * 4 + 2, none⟩ = some (.int .i64 l[k].till) ∧ w.cell? ⟨b, o + k * 4 + 3, none⟩ = some (.bool l[k].gone)
section
variable {w w' : World} {A : Option Addr} {F G : Nat → Prop} {l : List It}
theorem ItsAt.of_row (h : Row w A F (itCells l)) : ItsAt w A F l := fun k hk => by
 obtain ⟨b, o, e, hF, hc⟩ := h (fun e => by have := itCells_len l; rw [e] at this; simp at this; omega)
 have cell : ∀ i v, i < 4 → (l[k].cells)[i]? = some v → w.cell? ⟨b, o + k * 4 + i, none⟩ = some v := fun i v hi hv => by
  rw [Nat.add_assoc]
  exact hc _ v (by rw [itCells_at l k i hk hi]; exact hv)
 exact ⟨b, o, e, hF, by simpa using cell 0 _ (by decide) rfl, cell 1 _ (by decide) rfl, cell 2 _ (by decide) rfl, cell 3 _ (by decide) rfl⟩
theorem ItsAt.of_own {base n c : Nat} {e : TypeId} (h : w.ownsRow base e 4 (.slice A n c) n (itCells l)) (hn : n = l.length) : ItsAt w A (fun b => base ≤ b ∧ b < w.heap.size) l := by
 rcases Nat.eq_zero_or_pos n with h0 | hp
 ·intro k hk; omega
 obtain ⟨g, cap, e, hb, -⟩ := h.form hp
 injection e with e1 e2 e3
 subst e1
 have hc := h.cells (g := g) rfl
 refine ItsAt.of_row fun _ => ⟨g, 0, rfl, h.lt g rfl, fun i v hv => ?_⟩
 have := hc i v hv
 rw [WideShapes.add_plain] at this
 exact this
theorem ItsAt.fresh (w : World) (C : Array Value) (t : TypeId) (fr : Nat × Nat) (b : Nat) (hb : b = w.heap.size) (hF : F b) (l : List It) (hx : C.toList = itCells l) : ItsAt (w.alloc (.cells C t fr)) (some ⟨b, 0, none⟩) F l :=
 ItsAt.of_row (Row.fresh w C t fr b hb hF _ hx)
end
theorem item_elem : Elem Tryz.prog 133 40 (.agg #[.string ⟨#[]⟩, .string ⟨#[]⟩, .int .i64 0, .bool false]) 4 48 := ⟨Tryz.underlying133, by kernel_rfl, rfl, by decide⟩
structure ItemOK where
 T : World → Prop
 tk : ∀ {w w' : World}, T w → Keeps (fun _ => True) w w' → T w'
 may : ∀ (w : World) (x : It), T w → x.fits →
  Calls Tryz.prog 42 #[.agg #[.string x.key, .string x.val, .int .i64 x.till, .bool x.gone]] w fun e w' => e = .returned (.bool x.may) ∧ Keeps (fun _ => True) w w'
 live : ∀ (w : World) (x : It) (now : Int), T w → x.fits → -9223372036854775808 ≤ now → now < 9223372036854775808 →
  Calls Tryz.prog 58 #[.agg #[.string x.key, .string x.val, .int .i64 x.till, .bool x.gone], .int .i64 now] w fun e w' => e = .returned (.bool (x.live now)) ∧ Keeps (fun _ => True) w w'
 encode : ∀ (w : World) (A : Option Addr) (c : Nat) (l : List It), T w → ItsAt w A (fun _ => True) l → l.length ≤ c → c ≤ maxLen → l.length ≤ 1000 → (∀ x ∈ l, x.fits) →
  Calls Tryz.prog 45 #[.slice A l.length c] w fun e w' => ∃ B k, e = .returned (.slice B (encs l).length k) ∧ (encs l).length ≤ k ∧ k ≤ maxLen ∧ Row w' B (fun b => w.heap.size ≤ b ∧ b < w'.heap.size) (bcells (encs l)) ∧ Keeps (fun _ => True) w w'
 decode : ∀ (w : World) (A : Option Addr) (c : Nat) (b : List UInt8), T w → Row w A (fun _ => True) (bcells b) → b.length ≤ c → c ≤ maxLen → b.length ≤ 1000000 →
  Calls Tryz.prog 120 #[.slice A b.length c] w fun e w' => Keeps (fun _ => True) w w' ∧
   ((∃ B k l, e = .returned (.tuple #[.slice B l.length k, .int .i64 0]) ∧ l ≠ [] ∧ l.all It.may = true ∧ bytesOf l = b ∧ l.length ≤ k ∧ k ≤ maxLen ∧ ItsAt w' B (fun b => w.heap.size ≤ b ∧ b < w'.heap.size) l) ∨
    ((∀ l : List It, l ≠ [] → l.all It.may = true → bytesOf l ≠ b) ∧ ∃ B k, e = .returned (.tuple #[.slice B 0 k, .int .i64 1])))
def putsZ (ns : List Int) : List UInt8 := ns.flatMap putZ
theorem putsZ_next (ns : List Int) (k : Nat) (h : k < ns.length) : putsZ (ns.take (k + 1)) = putsZ (ns.take k) ++ putZ ns[k] := by
 unfold putsZ; rw [List.take_succ_eq_append_getElem h, List.flatMap_append]; simp
theorem putsZ_len (ns : List Int) (h : ∀ n ∈ ns, -9223372036854775808 ≤ n ∧ n < 9223372036854775808) : (putsZ ns).length ≤ 10 * ns.length := by
 induction ns with
 | nil => simp [putsZ]
 | cons n ns ih =>
  have h1 := putZ_len n (h n (by simp)).1 (h n (by simp)).2
  have h2 := ih fun m hm => h m (by simp [hm])
  simp only [putsZ, List.flatMap_cons, List.length_append, List.length_cons] at h2 ⊢
  omega
def putsT (ts : List (List UInt8)) : List UInt8 := ts.flatMap putT
theorem put_any (A B : Option Addr) (c d : Nat) (F G : Nat → Prop) (l : List UInt8) (ns : List Int) (w : World) (h : Row w A F (bcells l)) (hB : Row w B G (ns.map (Value.int .i64)))
  (hn : ∀ n ∈ ns, -9223372036854775808 ≤ n ∧ n < 9223372036854775808) (hl : l.length ≤ 549755813888) (hnl : ns.length ≤ 34359738368) :
  Calls Tryz.prog 79 #[.slice A l.length c, .slice B ns.length d] w fun e w' => ∃ v', e = .returned v' ∧ OwnB w' w.heap.size v' (l ++ putsZ ns) ∧ Keeps (fun _ => True) w w' := by
 have HB := Hd hB
 have HA := Hd h
 have HN := Hd hn
 clear h hB hn
 go_enter Tryz.func79, Tryz.ntmps79
 go_wp2_with (go_at_call 111; ((with_reducible refine (clone_any _ _ _ l _ HA.out ?c1).mono ?_)))
 case c1 => omega
 rintro e w1 ⟨v1, rfl, ho, hk⟩
 have HO := Hd ho
 have HK := Hd hk
 clear ho hk
 go_wp2
 go_loopw [5, 12] (fun u i wr => ∃ k : Nat, k ≤ ns.length ∧ i = .int .i64 k ∧ OwnB wr w.heap.size u (l ++ putsZ (ns.take k)) ∧ Keeps (fun _ => True) w wr) (fun _ i _ => ns.length - (intOf i).toNat)
 case atStart => exact ⟨0, Nat.zero_le _, rfl, by simpa [putsZ] using HO.out, HK.out⟩
 case round =>
  obtain ⟨k, hk, rfl, ho, hkp⟩ := hrel
  by_cases hlt : k < ns.length
  ·obtain ⟨b, o, rfl, _, hcell⟩ := (HB.out.keep (hkp.mono fun _ _ _ => trivial)).at_ (k := k) (by simpa using hlt)
   simp only [List.getElem_map] at hcell
   have hb := HN.out ns[k] (List.getElem_mem hlt)
   have hln := putsZ_len (ns.take k) fun n hn => HN.out n (List.mem_of_mem_take hn)
   have hlt' : (l ++ putsZ (ns.take k)).length ≤ 1099511627776 := by
    rw [List.length_append]
    have : (ns.take k).length ≤ k := List.length_take_le _ _
    omega
   have H := Hd (putsZ_next ns k hlt)
   have hsz := hkp.size
   have HO' := Hd ho
   have HK' := Hd hkp
   clear ho hkp hln
   go_wp2_with (go_at_call 112; ((with_reducible refine (put_number _ hb.1 hb.2 _ _ w.heap.size _ HO'.out ?c2 hlt').mono ?_)))
   case c2 => omega
   rintro e w2 ⟨v2, rfl, ho2, hto⟩
   have hown := HO'.out
   have hk2 : Keeps (fun _ => True) w w2 := hto.keeps HK'.out fun i hi => (hown.lt i hi).1
   rw [List.append_assoc, ← H.out] at ho2
   have H1 := Hd ho2
   have H2 := Hd hk2
   clear ho2 hk2 hto hown
   go_wp2
   go_roundw
   case rel => exact ⟨k + 1, by omega, by go_num, H1.out, H2.out⟩
   case measure => simp [intOf]; omega
  ·obtain rfl : k = ns.length := by omega
   rw [List.take_length] at ho
   have H1 := Hd ho
   have H2 := Hd hkp
   clear ho hkp
   go_wp2
   go_ret
   exact ⟨_, rfl, H1.out, H2.out⟩
def strs (ts : List ByteArray) : List (List UInt8) := ts.map (·.data.toList)
theorem strs_next (ts : List ByteArray) (k : Nat) (h : k < ts.length) : putsT (strs (ts.take (k + 1))) = putsT (strs (ts.take k)) ++ putT ts[k].data.toList := by
 unfold putsT strs; rw [List.take_succ_eq_append_getElem h, List.map_append, List.flatMap_append]; simp
def total (ts : List ByteArray) : Nat := (ts.map (·.size)).sum
theorem total_take (ts : List ByteArray) (k : Nat) : total (ts.take k) ≤ total ts := by
 unfold total
 conv => rhs; rw [← List.take_append_drop k ts]
 rw [List.map_append, List.sum_append]; omega
theorem total_mem (ts : List ByteArray) (s : ByteArray) (h : s ∈ ts) : s.size ≤ total ts := by
 unfold total
 induction ts with
 | nil => simp at h
 | cons t ts ih =>
  simp only [List.map_cons, List.sum_cons]
  rcases List.mem_cons.1 h with rfl | h
  ·omega
  ·have := ih h; omega
theorem putsT_len (ts : List ByteArray) (h : ∀ s ∈ ts, s.size < 9223372036854775808) : (putsT (strs ts)).length ≤ 10 * ts.length + total ts := by
 induction ts with
 | nil => simp [putsT, strs]
 | cons t ts ih =>
  have ht : t.data.toList.length = t.size := by simp
  have hsz := h t (by simp)
  have h1 := putZ_len (t.data.toList.length : Int) (by omega) (by omega)
  have h2 := ih fun m hm => h m (by simp [hm])
  simp only [putsT, strs, putT, total, List.flatMap_cons, List.map_cons, List.sum_cons, List.length_append, List.length_cons] at h1 h2 ⊢
  omega
theorem put_text (A B : Option Addr) (c d : Nat) (F G : Nat → Prop) (l : List UInt8) (ts : List ByteArray) (w : World) (h : Row w A F (bcells l)) (hB : Row w B G (ts.map Value.string))
  (ht : total ts ≤ 137438953472) (hl : l.length ≤ 549755813888) (hnl : ts.length ≤ 34359738368) :
  Calls Tryz.prog 104 #[.slice A l.length c, .slice B ts.length d] w fun e w' => ∃ v', e = .returned v' ∧ OwnB w' w.heap.size v' (l ++ putsT (strs ts)) ∧ Keeps (fun _ => True) w w' := by
 have HB := Hd hB
 have HA := Hd h
 have HT := Hd ht
 clear h hB ht
 go_enter Tryz.func104, Tryz.ntmps104
 go_wp2_with (go_at_call 111; ((with_reducible refine (clone_any _ _ _ l _ HA.out ?c1).mono ?_)))
 case c1 => omega
 rintro e w1 ⟨v1, rfl, ho, hk⟩
 have HO := Hd ho
 have HK := Hd hk
 clear ho hk
 go_wp2
 go_loopw [5, 12] (fun u i wr => ∃ k : Nat, k ≤ ts.length ∧ i = .int .i64 k ∧ OwnB wr w.heap.size u (l ++ putsT (strs (ts.take k))) ∧ Keeps (fun _ => True) w wr) (fun _ i _ => ts.length - (intOf i).toNat)
 case atStart => exact ⟨0, Nat.zero_le _, rfl, by simpa [putsT, strs] using HO.out, HK.out⟩
 case round =>
  obtain ⟨k, hk, rfl, ho, hkp⟩ := hrel
  by_cases hlt : k < ts.length
  ·obtain ⟨b, o, rfl, _, hcell⟩ := (HB.out.keep (hkp.mono fun _ _ _ => trivial)).at_ (k := k) (by simpa using hlt)
   simp only [List.getElem_map] at hcell
   have hsb : ts[k].size ≤ 137438953472 := Nat.le_trans (total_mem ts _ (List.getElem_mem hlt)) HT.out
   have hb1 : (-9223372036854775808 : Int) ≤ (ts[k].size : Int) := by omega
   have hb2 : (ts[k].size : Int) < 9223372036854775808 := by omega
   have hln := putsT_len (ts.take k) fun s hs => by
    have := total_mem ts s (List.mem_of_mem_take hs)
    have := HT.out
    omega
   have hlt' : (l ++ putsT (strs (ts.take k))).length ≤ 1099511627776 := by
    rw [List.length_append]
    have := total_take ts k
    have := HT.out
    have : (ts.take k).length ≤ k := List.length_take_le _ _
    omega
   have H := Hd (strs_next ts k hlt)
   have hsz := hkp.size
   have HO' := Hd ho
   have HK' := Hd hkp
   have h10 := putZ_len (ts[k].size : Int) hb1 hb2
   clear ho hkp hln
   generalize hs : ts[k] = s at hcell hsb hb1 hb2 H h10
   clear hs
   go_wp2_with (go_at_call 112; ((with_reducible refine (put_number _ hb1 hb2 _ _ w.heap.size _ HO'.out ?c2 hlt').mono ?_)))
   case c2 => omega
   rintro e w2 ⟨v2, rfl, ho2, hto⟩
   have hown := HO'.out
   have hk2 : Keeps (fun _ => True) w w2 := hto.keeps HK'.out fun i hi => (hown.lt i hi).1
   have hsz2 := hk2.size
   have hl2 : (l ++ putsT (strs (ts.take k)) ++ putZ (s.size : Int)).length ≤ 1099511627786 := by rw [List.length_append]; omega
   have H1 := Hd ho2
   have H2 := Hd hk2
   clear ho2 hk2 hto hown h10 hb1 hb2 hlt'
   go_wp2_with (at_builtin; refine byte_elem.list_append rfl (.tmp 20) (.tmp 21) _ rfl rfl H1.out rfl (Src.ofString _ Tryz.underlying9 s) ?c3 ?c4 ?c5 ?_)
   case c3 => unfold maxLen; omega
   case c4 => omega
   case c5 => omega
   intro v3 w3 ho3 hg hb
   have hown := H1.out
   have hk3 : Keeps (fun _ => True) w w3 := ((Onto.refl _ _).grown hg hb).keeps H2.out fun i hi => (hown.lt i hi).1
   have ho4 : OwnB w3 w.heap.size v3 (l ++ putsT (strs (ts.take (k + 1)))) := by
    have es : s.data.toList.length = s.size := by simp
    have e4 : l ++ putsT (strs (ts.take (k + 1))) = (l ++ putsT (strs (ts.take k)) ++ putZ (s.size : Int)) ++ s.data.toList := by
     rw [H.out, putT, es]; simp only [List.append_assoc]
    rw [e4]
    refine OwnB.snoc ho3 ?_ (by rw [bcells_str]; simp only [List.append_assoc])
    simp only [List.append_assoc, List.length_append, es]; simp only [Nat.add_assoc]
   have H3 := Hd ho4
   have H4 := Hd hk3
   clear ho4 hk3 hg hb ho3 hown
   go_wp2
   go_roundw
   case rel => exact ⟨k + 1, by omega, by go_num, H3.out, H4.out⟩
   case measure => simp [intOf]; omega
  ·obtain rfl : k = ts.length := by omega
   rw [List.take_length] at ho
   have H1 := Hd ho
   have H2 := Hd hkp
   clear ho hkp
   go_wp2
   go_ret
   exact ⟨_, rfl, H1.out, H2.out⟩
theorem pow128 (k : Nat) : (128 : Nat) ^ k = 2 ^ (7 * k) := by rw [Nat.pow_mul]
theorem or_shift (k u q : Nat) (hk : k ≤ 9) (hu : u < 128 ^ k) (hq : q % 128 * 128 ^ k < 18446744073709551616) :
  bits .or .u64 (u : Int) (IntKind.u64.wrap ((q : Int) % 128 * 2 ^ (7 * k))) = ((u + q % 128 * 128 ^ k : Nat) : Int) := by
 have e1 : ((q : Int) % 128 * 2 ^ (7 * k)) = ((q % 128 * 128 ^ k : Nat) : Int) := by
  rw [pow128]; push_cast; rfl
 have hw : IntKind.u64.wrap (((q % 128 * 128 ^ k : Nat) : Int)) = ((q % 128 * 128 ^ k : Nat) : Int) := by
  rw [IntKind.wrap_u64]; omega
 have hul : u < 18446744073709551616 := Nat.lt_of_lt_of_le hu (Nat.le_trans (Nat.pow_le_pow_right (by decide) hk) (by decide))
 rw [e1, hw, u64_or_nat _ _ hul hq]
 congr 1
 rw [Nat.or_comm, nat_join (7 * k) _ _ (by rw [← pow128]; exact Nat.mul_mod_left _ _) (by rw [← pow128]; exact hu)]
 omega
theorem getZ_form {l : List UInt8} (h : vget 0 0 l = .form) : getZ l = (0, 0, 1) := by unfold getZ; rw [h]
theorem getZ_more {l : List UInt8} (h : vget 0 0 l = .more) : getZ l = (0, 0, 2) := by unfold getZ; rw [h]
theorem getZ_got {l : List UInt8} {u k : Nat} (h : vget 0 0 l = .ok u k) : getZ l = (zag u, k, 0) := by unfold getZ; rw [h]
theorem get_any (A : Option Addr) (c : Nat) (F : Nat → Prop) (l : List UInt8) (w : World) (h : Row w A F (bcells l)) (_hl : l.length ≤ 1099511627776) :
  Calls Tryz.prog 125 #[.slice A l.length c] w fun e w' => e = .returned (.tuple #[.int .i64 (getZ l).1, .int .i64 ((getZ l).2.1 : Nat), .int .i64 ((getZ l).2.2 : Nat)]) ∧ w = w' := by
 have HA := Hd h
 clear h
 go_enter Tryz.func125, Tryz.ntmps125
 go_wp2
 go_loop [5, 10] (fun f i => ∃ (k u : Nat), k ≤ l.length ∧ k ≤ 9 ∧ u < 128 ^ k ∧ vget 0 0 l = vget k u (l.drop k) ∧ i = .int .i64 k ∧ f = .int .u64 (u : Nat)) (fun _ i => l.length - (intOf i).toNat)
 case atStart => exact ⟨0, 0, Nat.zero_le _, by omega, by decide, by simp, rfl, rfl⟩
 case round =>
  obtain ⟨k, u, hk, hk9, hu, hv, rfl, rfl⟩ := hrel
  by_cases hlt : k < l.length
  ·obtain ⟨b, o, rfl, _, hcell⟩ := HA.out.at_ (k := k) (by rw [bcells_len]; exact hlt)
   have hd : l.drop k = l[k] :: l.drop (k + 1) := List.drop_eq_getElem_cons hlt
   rw [hd, vget] at hv
   simp only [bcells, bcell, List.getElem_map] at hcell
   generalize l[k] = x at hcell hv
   have hx := x.toNat_lt
   generalize x.toNat = q at hcell hx hv
   by_cases h9 : k = 9 ∧ 1 < q
   ·rw [if_pos h9] at hv
    have HV := Hd (getZ_form hv)
    have t9 : ((k : Int) == 9) = true := by simp; omega
    have t1 : decide ((1 : Int) < (q : Int)) = true := by simp; omega
    clear hv hu hd h9
    go_wp2_with fail
    go_ret3
    exact ⟨by rw [HV.out]; rfl, rfl⟩
   ·rw [if_neg h9] at hv
    have hq : q % 128 * 128 ^ k < 18446744073709551616 := by
     by_cases e9 : k = 9
     ·subst e9
      have e : (128 : Nat) ^ 9 = 9223372036854775808 := by decide
      rw [e]; omega
     ·have h1 : q % 128 * 128 ^ k ≤ 127 * 128 ^ 8 := Nat.mul_le_mul (by omega) (Nat.pow_le_pow_right (by decide) (by omega))
      exact Nat.lt_of_le_of_lt h1 (by decide)
    have hnu : u + q % 128 * 128 ^ k < 128 ^ (k + 1) := by
     have h1 : q % 128 ≤ 127 := by omega
     have h2 := Nat.mul_le_mul_right (128 ^ k) h1
     rw [Nat.pow_succ]; omega
    have hlt64 : u + q % 128 * 128 ^ k < 18446744073709551616 := by
     by_cases e9 : k = 9
     ·subst e9
      have e : (128 : Nat) ^ 9 = 9223372036854775808 := by decide
      rw [e] at hu ⊢; omega
     ·exact Nat.lt_of_lt_of_le hnu (Nat.le_trans (Nat.pow_le_pow_right (by decide) (show k + 1 ≤ 9 by omega)) (by decide))
    have E := or_shift k u q hk9 hu hq
    have HE := Hd E
    have HN := Hd hnu
    have H64 := Hd hlt64
    clear E hq hu hd hnu hlt64
    have key : (((k : Int) == 9) = true ∧ decide ((1 : Int) < (q : Int)) = false ∧ q < 128) ∨ ((k : Int) == 9) = false := by
     by_cases e9 : k = 9
     ·left; refine ⟨by simp; omega, by simp; omega, by omega⟩
     ·right; simp; omega
    clear h9
    by_cases h128 : 128 ≤ q
    ·rw [if_pos h128] at hv
     have HV := Hd hv
     have t9 : ((k : Int) == 9) = false := by rcases key with ⟨_, _, h⟩ | h; omega; exact h
     have t128 : decide ((128 : Int) ≤ (q : Int)) = true := by simp; omega
     have hk8 : k ≤ 8 := by simp at t9; omega
     clear hv key
     go_wp2_with fail
     go_round
     case rel => exact ⟨k + 1, u + q % 128 * 128 ^ k, by omega, by omega, HN.out, HV.out, by go_num, by rw [HE.out]⟩
     case measure => simp [intOf]; omega
    ·rw [if_neg h128] at hv
     by_cases h0 : q = 0 ∧ 0 < k
     ·rw [if_pos h0] at hv
      have HV := Hd (getZ_form hv)
      obtain ⟨rfl, hk0⟩ := h0
      clear hv
      rcases key with ⟨t9, t1, _⟩ | t9
      all_goals
       go_wp2_with fail
       go_ret3
       exact ⟨by rw [HV.out]; rfl, rfl⟩
     ·rw [if_neg h0] at hv
      have HV := Hd (getZ_got hv)
      clear hv
      have key0 : ((q : Int) == 0) = false ∨ (((q : Int) == 0) = true ∧ decide (0 < k) = false) := by
       by_cases e0 : q = 0
       ·right; exact ⟨by simp; omega, by simp; omega⟩
       ·left; simp; omega
      clear h0
      rcases key with ⟨t9, t1, _⟩ | t9 <;> rcases key0 with z0 | ⟨z0, z1⟩
      all_goals
       go_wp2_with (go_at_call 165; rw [HE.out]; ((with_reducible refine (unfold_any _ H64.out _).mono ?_); rintro e w' ⟨rfl, rfl⟩))
       go_ret3
       exact ⟨by rw [HV.out]; rfl, rfl⟩
  ·have hv2 : vget 0 0 l = .more := by rw [hv, List.drop_eq_nil_of_le (by omega)]; rfl
   have HV := Hd (getZ_more hv2)
   clear hv hv2 hu
   go_wp2_with fail
   go_ret3
   exact ⟨by rw [HV.out]; rfl, rfl⟩
theorem getT_err {l : List UInt8} {n : Int} {k e : Nat} (h : getZ l = (n, k, e)) (he : e ≠ 0) : getT l = ([], 0, e) := by
 unfold getT; rw [h]
 cases e with
 | zero => exact absurd rfl he
 | succ e => rfl
theorem getT_form {l : List UInt8} {n : Int} {k : Nat} (h : getZ l = (n, k, 0)) (hn : n < 0 ∨ 65536 < n) : getT l = ([], 0, 1) := by
 unfold getT; rw [h]; simp only [if_pos hn]
theorem getT_more {l : List UInt8} {n : Int} {k : Nat} (h : getZ l = (n, k, 0)) (hn : ¬ (n < 0 ∨ 65536 < n)) (hl : (l.length : Int) < k + n) : getT l = ([], 0, 2) := by
 unfold getT; rw [h]; simp only [if_neg hn, if_pos hl]
theorem getT_got {l : List UInt8} {n : Int} {k : Nat} (h : getZ l = (n, k, 0)) (hn : ¬ (n < 0 ∨ 65536 < n)) (hl : ¬ (l.length : Int) < k + n) : getT l = ((l.drop k).take n.toNat, k + n.toNat, 0) := by
 unfold getT; rw [h]; simp only [if_neg hn, if_neg hl]
theorem get_is (A : Option Addr) (c : Nat) (F : Nat → Prop) (l : List UInt8) (w : World) (h : Row w A F (bcells l)) (hl : l.length ≤ 1099511627776) (n : Int) (k e : Nat) (hg : getZ l = (n, k, e)) :
  Calls Tryz.prog 125 #[.slice A l.length c] w fun e' w' => e' = .returned (.tuple #[.int .i64 n, .int .i64 (k : Nat), .int .i64 (e : Nat)]) ∧ w = w' := by
 have := get_any A c F l w h hl
 rw [hg] at this
 exact this
theorem get_text (A : Option Addr) (c : Nat) (F : Nat → Prop) (l : List UInt8) (w : World) (h : Row w A F (bcells l)) (hl : l.length ≤ 1099511627776) (hc : l.length ≤ c) (hcm : c ≤ maxLen) :
  Calls Tryz.prog 126 #[.slice A l.length c] w fun e w' => e = .returned (.tuple #[.string (txt (getT l).1), .int .i64 ((getT l).2.1 : Nat), .int .i64 ((getT l).2.2 : Nat)]) ∧ w = w' := by
 unfold maxLen at hcm
 have HA := Hd h
 clear h
 have bad : ∀ e : Nat, e ≠ 0 → ∀ n k, getZ l = (n, k, e) → Calls Tryz.prog 126 #[.slice A l.length c] w fun e w' => e = .returned (.tuple #[.string (txt (getT l).1), .int .i64 ((getT l).2.1 : Nat), .int .i64 ((getT l).2.2 : Nat)]) ∧ w = w' := by
  intro e he n k hg
  have HV := Hd (getT_err hg he)
  have HG := Hd hg
  have t0 : ((e : Int) != 0) = true := by simp; omega
  clear hg he
  go_enter Tryz.func126, Tryz.ntmps126
  go_wp2_with (go_at_call 125; ((with_reducible refine (get_is _ _ _ l _ HA.out hl _ _ _ HG.out).mono ?_); rintro e w' ⟨rfl, rfl⟩))
  go_ret3
  exact ⟨by rw [HV.out]; rfl, rfl⟩
 rcases getZ_cases l with ⟨n, k, hg, hk0, hk10, hkl, hn1, hn2⟩ | hg | hg
 ·obtain ⟨b, o, rfl, _, _⟩ := HA.out.at_ (k := 0) (by rw [bcells_len]; omega)
  have HG := Hd hg
  by_cases hneg : n < 0
  ·have HV := Hd (getT_form hg (.inl hneg))
   clear hg bad
   go_enter Tryz.func126, Tryz.ntmps126
   go_wp2_with (go_at_call 125; ((with_reducible refine (get_is _ _ _ l _ HA.out hl _ _ _ HG.out).mono ?_); rintro e w' ⟨rfl, rfl⟩))
   go_ret3
   exact ⟨by rw [HV.out]; rfl, rfl⟩
  ·have tneg : decide (n < 0) = false := by simp; omega
   by_cases hbig : 65536 < n
   ·have HV := Hd (getT_form hg (.inr hbig))
    clear hg bad
    go_enter Tryz.func126, Tryz.ntmps126
    go_wp2_with (go_at_call 125; ((with_reducible refine (get_is _ _ _ l _ HA.out hl _ _ _ HG.out).mono ?_); rintro e w' ⟨rfl, rfl⟩))
    go_ret3
    exact ⟨by rw [HV.out]; rfl, rfl⟩
   ·have tbig : decide (65536 < n) = false := by simp; omega
    have hn3 : ¬ (n < 0 ∨ 65536 < n) := by omega
    by_cases hmore : (l.length : Int) < k + n
    ·have HV := Hd (getT_more hg hn3 hmore)
     clear hg bad hn3
     go_enter Tryz.func126, Tryz.ntmps126
     go_wp2_with (go_at_call 125; ((with_reducible refine (get_is _ _ _ l _ HA.out hl _ _ _ HG.out).mono ?_); rintro e w' ⟨rfl, rfl⟩))
     go_ret3
     exact ⟨by rw [HV.out]; rfl, rfl⟩
    ·have HV := Hd (getT_got hg hn3 hmore)
     obtain ⟨m, rfl⟩ := Int.eq_ofNat_of_zero_le (show 0 ≤ n by omega)
     have hmz : k + m ≤ l.length := by omega
     clear hg bad hn3 hmore hn1 hn2
     by_cases hck : c = k
     ·subst hck
      obtain rfl : m = 0 := by omega
      have hr0 : Row w (some ⟨b, o, none⟩) F (bcells []) := Row.nil _ _ _
      have hcv := hr0.to_string (P := Tryz.prog) Tryz.underlying64 Tryz.underlying5 Tryz.underlying9 0 0 rfl
      clear hr0
      go_enter Tryz.func126, Tryz.ntmps126
      go_wp2_with (go_at_call 125; ((with_reducible refine (get_is _ _ _ l _ HA.out hl _ _ _ HG.out).mono ?_); rintro e w' ⟨rfl, rfl⟩))
      go_ret3
      exact ⟨by rw [HV.out]; rfl, rfl⟩
     ·have hr := (HA.out.cut (k := k) (cap := c) (by rw [bcells_len]; omega) (by rw [bcells_len]; exact hc)).take (k := m)
      rw [if_neg hck, bcells, ← List.map_drop, ← List.map_take] at hr
      have hcv := Row.to_string (P := Tryz.prog) hr Tryz.underlying64 Tryz.underlying5 Tryz.underlying9 m (c - k) (by rw [List.length_take, List.length_drop]; omega)
      simp only [Option.map_some, WideShapes.add_plain] at hcv
      generalize hT : txt (List.take m (List.drop k l)) = T at hcv
      have HT := Hd hT
      clear hr hT
      go_enter Tryz.func126, Tryz.ntmps126
      go_wp2_with (go_at_call 125; ((with_reducible refine (get_is _ _ _ l _ HA.out hl _ _ _ HG.out).mono ?_); rintro e w' ⟨rfl, rfl⟩))
      go_ret3
      exact ⟨by rw [HV.out, ← HT.out]; rfl, rfl⟩
 ·exact bad 1 (by decide) 0 0 hg
 ·exact bad 2 (by decide) 0 0 hg
end Go.Proofs.YticophaepapjoaaGreatDoor
