/-
  RgInts, MadeNew: texts of mine, joined.
-/
import Derived.Test.YtemkjodkmehffaaGreatDoorAllA00
import Derived.Test.YtemkjodkmehffaaGreatDoorAllA05
import Derived.Test.YtemkjodkmehffaaGreatDoorAllA03
import Derived.Deep.AppendSrc
import Derived.Deep.AppendLies
import Derived.Test.YtemkjodkmehffaaGreatDoorAllA11
import Derived.WalkSpells
import Derived.Lib.MinMax
namespace Go.Proofs.YtemkjodkmehffaaGreatDoor
open Go Go.RowKit Go.Joins
theorem mine_own {w : World} {base n c : Nat} {e : TypeId} {k : IntKind} {A : Option Addr} {zs : List Int} (h : w.ownsRow base e 1 (.slice A n c) n (zs.map (Value.int k))) : Mine w k A n := by
 intro hn
 have hl : n = zs.length := by have := h.1; simp at this; omega
 obtain ⟨g, cap, hv, hb, hlt⟩ := h.form hn
 injection hv with hv
 subst hv
 rcases h.2 with ⟨h', _⟩ | ⟨g', cap', cur, h', _, hg, _⟩
 ·cases h'
 ·injection h' with h'
  injection h' with h'
  injection h' with h'
  subst h'
  refine ⟨g, 0, cur, e, _, rfl, hg, fun i hi => ⟨⟨zs[i]'(by omega), ?_⟩, ?_⟩⟩
  ·have h1 := h.cellAt i (by simp; omega)
   rw [cell_of_block hg, List.getElem?_map, List.getElem?_eq_getElem (show i < zs.length by omega)] at h1
   rw [Nat.zero_add]
   exact h1
  ·rw [Nat.zero_add]; exact h.frozenAt i
set_option maxRecDepth 100000 in
set_option maxHeartbeats 1000000 in
theorem iclone_nil (c : Nat) (w : World) :
  Calls Tryz.prog 50 #[.slice none 0 c] w fun e w' => e = .returned (.slice none 0 0) ∧ w = w' := by
 have hn := fun w : World => Lib.run_eql_slice_nil (P := Tryz.prog) w 48 3 none 0 c 0 0 Tryz.underlying48
 go_enter Tryz.func50, Tryz.ntmps50
 go_wp2_with fail
 go_ret
 exact ⟨rfl, rfl⟩
set_option maxRecDepth 100000 in
set_option maxHeartbeats 1000000 in
theorem iclone_some (ad : Addr) (c : Nat) (F : Nat → Prop) (l : List Int) (w : World) (h : Row w (some ad) F (l.map (Value.int .i64))) (hl : l.length ≤ 1099511627776) :
  Calls Tryz.prog 50 #[.slice (some ad) l.length c] w fun e w' => ∃ B cb, e = .returned (.slice B l.length cb) ∧ Row w' B (fun b => w.heap.size ≤ b) (l.map (Value.int .i64)) ∧ Mine w' .i64 B l.length ∧ l.length ≤ cb ∧ cb ≤ maxLen ∧ Kp w w' := by
 have hn := fun w : World => Lib.run_eql_slice_nil (P := Tryz.prog) w 48 3 (some ad) l.length c 0 0 Tryz.underlying48
 have h0 : (w.alloc (.cells #[] 3)).ownsRow w.heap.size 3 1 (.slice (some ⟨w.heap.size, 0, none⟩) 0 0) 0 [] := World.ownsRow_made w #[] 0 (Nat.le_refl _) (by decide) rfl
 have hsrc : Src Tryz.prog 1 48 (.slice (some ad) l.length c) l.length (l.map (Value.int .i64)) (w.alloc (.cells #[] 3)) := by
  have := (h.keep ((Keeps.refl F w).alloc (.cells #[] 3))).src (c := c) Tryz.underlying48 (fun u hu => by obtain ⟨x, _, rfl⟩ := List.mem_map.1 hu; rfl)
  rwa [List.length_map] at this
 have H0 := Lib.hid h0
 have HS := Lib.hid hsrc
 obtain ⟨m, hm⟩ : ∃ m, l.length = m := ⟨_, rfl⟩
 have HM := Lib.hid hm
 rw [hm] at hl HS hn ⊢
 clear h h0 hsrc hm
 go_enter Tryz.func50, Tryz.ntmps50
 go_wp2_with (at_builtin; refine int_elem.list_append rfl (.tmp 5) (.tmp 6) _ rfl rfl H0.out rfl HS.out ?c3 ?c4 ?c5 ?_)
 case c3 => unfold maxLen; omega
 case c4 => omega
 ·simp
 intro v' w1 hown' hg hb
 have hk : Kp w w1 := by
  exact ((Onto.refl _ _).grown hg (by simpa using hb)).keeps ((Keeps.refl _ w).alloc _) (by simp [Value.ownBlock])
 have ho : w1.ownsRow w.heap.size 3 1 v' m (l.map (Value.int .i64)) := by simpa using hown'
 have H1 := Lib.hid ho
 have H2 := Lib.hid hk
 clear ho hk hown' hg hb
 go_wp2_with fail
 go_ret
 obtain ⟨A, c', rfl, -, hrow⟩ := own_slice H1.out
 obtain ⟨h1, h2, -⟩ := own_cap H1.out
 exact ⟨A, c', rfl, hrow.mono fun b _ hb => hb.1, mine_own H1.out, h1, h2, H2.out⟩
theorem iclone_any (A : Option Addr) (c : Nat) (F : Nat → Prop) (l : List Int) (w : World) (h : Row w A F (l.map (Value.int .i64))) (hl : l.length ≤ 1099511627776) :
  Calls Tryz.prog 50 #[.slice A l.length c] w fun e w' => ∃ B cb, e = .returned (.slice B l.length cb) ∧ Row w' B (fun b => w.heap.size ≤ b) (l.map (Value.int .i64)) ∧ Mine w' .i64 B l.length ∧ l.length ≤ cb ∧ cb ≤ maxLen ∧ Kp w w' := by
 rcases A with _ | ad
 ·have hx : l = [] := Classical.byContradiction fun hx => by
   obtain ⟨b, o, e, _⟩ := h (by simpa using hx)
   cases e
  subst hx
  refine (iclone_nil c w).mono ?_
  rintro e w' ⟨rfl, rfl⟩
  exact ⟨none, 0, rfl, Row.nil _ _ _, fun h => absurd h (by simp), Nat.le_refl _, Nat.zero_le _, Keeps.refl _ _⟩
 ·exact iclone_some ad c F l w h hl
def IdxZ (l : List Int) (n : Int) (z : Int) : Prop := (hasN l n = true ∧ 0 ≤ z) ∨ (hasN l n = false ∧ z = -1)
theorem idx_yes {l : List Int} {n : Int} {k : Nat} (hk : k < l.length) (h : (n == l[k]) = true) : IdxZ l n (k : Int) := by
 refine .inl ⟨?_, by omega⟩
 unfold hasN
 rw [List.any_eq_true]
 exact ⟨l[k], List.getElem_mem hk, by simpa using (beq_iff_eq.1 h).symm⟩
theorem idx_no {l : List Int} {n : Int} (h : ∀ (j : Nat) (hj : j < l.length), (n == l[j]) = false) : IdxZ l n (-1) := by
 refine .inr ⟨?_, rfl⟩
 unfold hasN
 rw [List.any_eq_false]
 intro x hx
 obtain ⟨j, hj, rfl⟩ := List.mem_iff_getElem.1 hx
 have := h j hj
 simp at this ⊢
 exact fun e => this e.symm
set_option maxRecDepth 100000 in
set_option maxHeartbeats 1000000 in
theorem index_any (w : World) (A : Option Addr) (c : Nat) (F : Nat → Prop) (l : List Int) (n : Int) (hr : Row w A F (l.map (Value.int .i64))) (hl : l.length ≤ 1099511627776) :
  Calls Tryz.prog 117 #[.slice A l.length c, .int .i64 n] w fun e w' => ∃ z, e = .returned (.int .i64 z) ∧ IdxZ l n z ∧ w = w' := by
 have HR := Lib.hid hr
 clear hr
 go_enter Tryz.func117, Tryz.ntmps117
 go_wp2_with fail
 go_loopw [8] (fun i wr => ∃ k : Nat, k ≤ l.length ∧ i = .int .i64 (k : Int) ∧ Hid (∀ (j : Nat) (hj : j < l.length), j < k → (n == l[j]) = false) ∧ w = wr) (fun i _ => l.length - (intOf i).toNat)
 case atStart => exact ⟨0, Nat.zero_le _, rfl, Lib.hid (fun j _ hj => absurd hj (Nat.not_lt_zero _)), rfl⟩
 case round =>
  obtain ⟨k, hk, rfl, HJ, rfl⟩ := hrel
  by_cases hlt : k < l.length
  ·have hlt' : (k : Int) < (l.length : Int) := by omega
   obtain ⟨b, o, rfl, -, c0⟩ := HR.out.at_ (k := k) (by simpa using hlt)
   rw [List.getElem_map] at c0
   cases hb : (n == l[k]) with
   | true =>
    have HN := Lib.hid (idx_yes hlt hb)
    generalize l[k] = x at c0 hb
    go_wp2_with fail
    go_ret
    exact ⟨_, rfl, HN.out, rfl⟩
   | false =>
    have HN := Lib.hid (show ∀ (j : Nat) (hj : j < l.length), j < k + 1 → (n == l[j]) = false from fun j hj h => by
     rcases Nat.lt_or_ge j k with g | g
     ·exact HJ.out j hj g
     ·obtain rfl : j = k := by omega
      exact hb)
    generalize l[k] = x at c0 hb
    go_wp2_with fail
    go_roundw
    case rel => exact ⟨k + 1, by omega, by go_num, HN, by trivial⟩
    case measure => simp [intOf]; omega
  ·have HB := Lib.hid (idx_no (l := l) (n := n) fun j hj => HJ.out j hj (by omega))
   have hlt' : ¬ (k : Int) < (l.length : Int) := by omega
   go_wp2_with fail
   go_ret
   exact ⟨_, rfl, HB.out, rfl⟩
set_option maxRecDepth 100000 in
set_option maxHeartbeats 1000000 in
theorem contains_any (w : World) (A : Option Addr) (c : Nat) (F : Nat → Prop) (l : List Int) (n : Int) (hr : Row w A F (l.map (Value.int .i64))) (hl : l.length ≤ 1099511627776) :
  Calls Tryz.prog 92 #[.slice A l.length c, .int .i64 n] w fun e w' => e = .returned (.bool (hasN l n)) ∧ w = w' := by
 have HI := Lib.hid (index_any w A c F l n hr hl)
 clear hr
 go_enter Tryz.func92, Tryz.ntmps92
 go_wp2_with fail
 refine (show Calls _ _ _ _ _ from HI.out).mono ?_
 rintro e w1 ⟨z, rfl, hz, rfl⟩
 have hd : decide (0 ≤ z) = hasN l n := by
  rcases hz with ⟨h1, h2⟩ | ⟨h1, h2⟩
  ·rw [h1]; simpa using h2
  ·rw [h1, h2]; rfl
 clear HI hz
 have HD := Lib.hid hd
 clear hd
 go_wp2_with fail
 go_ret
 exact ⟨by rw [← HD.out]; rfl, rfl⟩
end Go.Proofs.YtemkjodkmehffaaGreatDoor
namespace Go.Proofs.YtemkjodkmehffaaGreatDoor
open Go Go.RowKit Go.Joins Go.Maps
theorem flat_blank (n : Nat) : flat (List.replicate n blank) = List.replicate (n * 64) (.int .u8 0) := by
 rw [List.eq_replicate_iff]
 refine ⟨by rw [flat_len _ fun r hr => by rw [(List.mem_replicate.1 hr).2]; rfl, List.length_replicate], fun v hv => ?_⟩
 obtain ⟨r, hr, hv⟩ := List.mem_flatMap.1 hv
 rw [(List.mem_replicate.1 hr).2] at hv
 obtain ⟨c, hc, rfl⟩ := List.mem_map.1 hv
 rw [(List.mem_replicate.1 hc).2]; rfl
theorem made_blank (n : Nat) : (madeCells secZ.cells (n * 64)).toList = flat (List.replicate n blank) := by
 rw [flat_blank, List.eq_replicate_iff]
 refine ⟨by rw [Array.length_toList, size_madeCells], fun v hv => ?_⟩
 unfold madeCells at hv
 rw [Array.toList_map] at hv
 obtain ⟨i, _, rfl⟩ := List.mem_map.1 hv
 have hz : secZ.cells = Array.replicate 64 (.int .u8 0) := rfl
 have hs : (Array.replicate 64 (Value.int .u8 0)).size = 64 := by simp
 have hi : i % 64 < 64 := Nat.mod_lt _ (by decide)
 rw [hz, hs, getElem!_pos _ _ (by rw [hs]; exact hi), Array.getElem_replicate]
theorem clear_look (s : SDev) (n : Nat) (h : s.dirty = List.replicate n false) : s.look = fun _ => none := by
 funext l
 unfold SDev.look
 split
 ·rename_i i
  have : s.dirty.getD i.toNat false = false := by
   rw [h]; simp only [List.getD_eq_getElem?_getD, List.getElem?_replicate]; split <;> rfl
  rw [if_neg (by rw [this]; simp)]
 ·rfl
theorem clear_loose (s : SDev) (n : Nat) (h : s.dirty = List.replicate n false) : s.loose = [] := by
 show (List.range s.dirty.length).filter _ = []
 rw [List.filter_eq_nil_iff]
 intro i _
 have : s.dirty.getD i false = false := by
  rw [h]; simp only [List.getD_eq_getElem?_getD, List.getElem?_replicate]; split <;> rfl
 rw [this]; simp
set_option maxHeartbeats 400000 in
theorem dlasting_any (w : World) (s : SDev) (hok : s.Ok) (hd : s.dirty = List.replicate s.now.length false) (hs : s.fast = s.now) (hc : s.calls = 0) (g c : Nat) (h : w.ownsRow 0 89 64 (.slice (some ⟨g, 0, none⟩) s.now.length c) s.now.length (flat s.now)) :
  Calls Tryz.prog 25 #[.slice (some ⟨g, 0, none⟩) s.now.length c] w fun e w' => ∃ q F, e = .returned (.pointer (some ⟨q, 0, none⟩)) ∧ DAt w' q F s ∧ (∀ b, F.M b → b = g ∨ w.heap.size ≤ b) ∧ (∀ b, ¬ F.I b) ∧ Keeps (fun _ => True) w w' := by
 have hg : g < w.heap.size := (h.lt g rfl).2
 have hfin : ∃ q F, Ending.returned (Value.pointer (some ⟨w.heap.size + 1, 0, none⟩)) = .returned (.pointer (some ⟨q, 0, none⟩)) ∧ DAt ((w.alloc (.map #[] 0)).alloc (.cells #[.slice (some ⟨g, 0, none⟩) s.now.length c, .map (some w.heap.size), .int .i64 0] 92)) q F s ∧ (∀ b, F.M b → b = g ∨ w.heap.size ≤ b) ∧ (∀ b, ¬ F.I b) ∧
   Keeps (fun _ => True) w ((w.alloc (.map #[] 0)).alloc (.cells #[.slice (some ⟨g, 0, none⟩) s.now.length c, .map (some w.heap.size), .int .i64 0] 92)) := by
  have hk1 : Keeps (fun _ => True) w ((w.alloc (.map #[] 0)).alloc (.cells #[.slice (some ⟨g, 0, none⟩) s.now.length c, .map (some w.heap.size), .int .i64 0] 92)) := ((Keeps.refl _ w).alloc _).alloc _
  have hb := heap_alloc_new (w.alloc (.map #[] 0)) (.cells #[.slice (some ⟨g, 0, none⟩) s.now.length c, .map (some w.heap.size), .int .i64 0] 92)
  have hz : (w.alloc (.map #[] 0)).heap.size = w.heap.size + 1 := by simp
  rw [hz] at hb
  have hm := (MapIs.made Tryz.prog 3 w).keep ((Keeps.refl (fun _ => True) _).alloc (.cells #[.slice (some ⟨g, 0, none⟩) s.now.length c, .map (some w.heap.size), .int .i64 0] 92)) trivial
  refine ⟨w.heap.size + 1, ⟨fun b => b = w.heap.size + 1 ∨ b = g ∨ b = w.heap.size, fun _ => False⟩, rfl, ⟨hok, fun b hb => ?_, fun b _ hi => hi, fun i _ => by rw [hs], g, c, w.heap.size, ?_, hk1.own h fun _ _ => trivial, ?_, ?_, .inl rfl, .inr (.inl rfl), .inr (.inr rfl)⟩, fun b hb => ?_, fun b hb => hb, hk1⟩
  ·have : ((w.alloc (.map #[] 0)).alloc (.cells #[.slice (some ⟨g, 0, none⟩) s.now.length c, .map (some w.heap.size), .int .i64 0] 92)).heap.size = w.heap.size + 2 := by simp
   rcases hb with (rfl | rfl | rfl) | hb <;> first | omega | exact hb.elim
  ·rw [hc]; exact hb
  ·rw [clear_look s _ hd, clear_loose s _ hd]; exact hm
  ·simp; omega
  ·rcases hb with rfl | rfl | rfl
   ·exact .inr (by omega)
   ·exact .inl rfl
   ·exact .inr (Nat.le_refl _)
 have HF := Lib.hid hfin
 have hmm := @run_makeMap Tryz.prog
 clear hfin h hd hs hc hok
 go_enter Tryz.func25, Tryz.ntmps25
 go_wp2
 go_ret
 exact HF.out
set_option maxHeartbeats 400000 in
theorem dnew_any (w : World) (n : Int) (h1 : -9223372036854775808 ≤ n) (h2 : n < 9223372036854775808) :
  Calls Tryz.prog 9 #[.int .i64 n] w fun e w' => ∃ p F, e = .returned (.pointer (some ⟨p, 0, none⟩)) ∧ DAt w' p F (SDev.new (clampN n)) ∧ (∀ b, F.all b → w.heap.size ≤ b) ∧ Keeps (fun _ => True) w w' := by
 have e2 : min (max n 1) 2048 = ((clampN n : Nat) : Int) := by unfold clampN; omega
 have hk := clampN_bd n
 generalize clampN n = k at e2 hk
 go_enter Tryz.func9, Tryz.ntmps9
 go_wp2_with (refine list_make rfl (.tmp 5) (.tmp 5) 67 rfl sec_elem .i64 .i64 k rfl rfl ?b2 ?b3 (flat (List.replicate k blank)) (made_blank k) ?_)
 case b2 => omega
 case b3 => unfold maxLen; omega
 intro w2 hown hg
 have hk2 : Keeps (fun _ => True) w w2 := Keeps.of_grown hg (fun _ h => by cases h)
 have hl := dlasting_any w2 (SDev.new k) (new_ok k hk.1 hk.2) (by simp [SDev.new]) rfl rfl w.heap.size k (by
  have e : (SDev.new k).now.length = k := by simp [SDev.new]
  rw [e]; exact ownsRow_le hown (Nat.zero_le _))
 have e : (SDev.new k).now.length = k := by simp [SDev.new]
 rw [e] at hl
 have HL := Lib.hid hl
 have HK := Lib.hid hk2
 clear hl hown hg hk2 e e2
 go_wp2_with fail
 refine HL.out.mono ?_
 rintro e w3 ⟨q, F, rfl, hD, hM, hI, hk3⟩
 have H1 := Lib.hid (show ∃ p F, Ending.returned (.pointer (some ⟨q, 0, none⟩)) = .returned (.pointer (some ⟨p, 0, none⟩)) ∧ DAt w3 p F (SDev.new k) ∧ (∀ b, F.all b → w.heap.size ≤ b) ∧ Keeps (fun _ => True) w w3 from ⟨q, F, rfl, hD, fun b hb => by
  rcases hb with hb | hb
  ·rcases hM b hb with rfl | h
   ·exact Nat.le_refl _
   ·exact Nat.le_trans HK.out.size h
  ·exact (hI b hb).elim, HK.out.trans hk3⟩)
 clear hD hM hI hk3
 go_wp2_with fail
 go_ret
 exact H1.out
set_option maxHeartbeats 400000 in
theorem clone_sectors (w : World) (g c n : Nat) (rows : List (List UInt8)) (h : w.ownsRow 0 89 64 (.slice (some ⟨g, 0, none⟩) n c) n (flat rows)) (h1 : 1 ≤ n) (hn : n ≤ 2048) :
  Calls Tryz.prog 47 #[.slice (some ⟨g, 0, none⟩) n c] w fun e w' => ∃ g' c', e = .returned (.slice (some ⟨g', 0, none⟩) n c') ∧ w'.ownsRow 0 89 64 (.slice (some ⟨g', 0, none⟩) n c') n (flat rows) ∧ w.heap.size ≤ g' ∧ Keeps (fun _ => True) w w' := by
 have hne := fun w : World => Lib.run_eql_slice_nil (P := Tryz.prog) w 67 89 (some ⟨g, 0, none⟩) n c 0 0 Tryz.underlying67
 have h0 : (w.alloc (.cells #[] 89)).ownsRow w.heap.size 89 64 (.slice (some ⟨w.heap.size, 0, none⟩) 0 0) 0 [] := World.ownsRow_made w #[] 0 (Nat.le_refl _) (by decide) rfl
 have hlen : (flat rows).length = n * 64 := h.1
 have hsrc : Src Tryz.prog 64 67 (.slice (some ⟨g, 0, none⟩) n c) n (flat rows) (w.alloc (.cells #[] 89)) :=
  Src.ofSlice _ Tryz.underlying67 ⟨g, 0, none⟩ n c (flat rows) hlen (fun j v hv => by
   have := (((Keeps.refl (fun _ => True) w).alloc (.cells #[] 89)).own h fun _ _ => trivial).cells (g := g) rfl j v hv
   exact this) (flat_one rows)
 have H0 := Lib.hid h0
 have HS := Lib.hid hsrc
 clear h h0 hsrc
 go_enter Tryz.func47, Tryz.ntmps47
 go_wp2_with (at_builtin; refine sec_elem.list_append rfl (.tmp 5) (.tmp 6) _ rfl rfl H0.out rfl HS.out ?c3 ?c4 ?c5 ?_)
 case c3 => unfold maxLen; omega
 case c4 => omega
 case c5 => simp
 intro v' w1 hown' hg hb
 have hk : Keeps (fun _ => True) w w1 := by
  exact ((Onto.refl _ _).grown hg (by simpa using hb)).keeps ((Keeps.refl _ w).alloc _) (by simp [Value.ownBlock])
 obtain ⟨g', c', rfl, hbase, hlt⟩ := hown'.form h1
 have H1 := Lib.hid (show ∃ g0 c0, Ending.returned (.slice (some ⟨g', 0, none⟩) n c') = .returned (.slice (some ⟨g0, 0, none⟩) n c0) ∧ w1.ownsRow 0 89 64 (.slice (some ⟨g0, 0, none⟩) n c0) n (flat rows) ∧ w.heap.size ≤ g0 ∧ Keeps (fun _ => True) w w1 from
  ⟨g', c', rfl, ownsRow_le hown' (Nat.zero_le _), hbase, hk⟩)
 clear hk hown' hg hb hbase hlt hlen
 go_wp2
 go_ret
 exact H1.out
end Go.Proofs.YtemkjodkmehffaaGreatDoor
