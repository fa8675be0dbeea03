/-
  RgInts: texts of mine, joined.
-/
import Derived.Test.YtemkjodkmehffaaGreatDoorAllM00
import Derived.Test.YtemkjodkmehffaaGreatDoorAllM05
import Derived.Test.YtemkjodkmehffaaGreatDoorAllM02
import Derived.Deep.AppendSrc
import Derived.Deep.AppendLies
namespace Go.Proofs.YtemkjodkmehffaaGreatDoor
open Go Go.RowKit Go.Joins
theorem mine_own {w : World} {base n c : Nat} {e : TypeId} {k : IntKind} {A : Option Addr} {zs : List Int} (h : w.ownsRow base e 1 (.slice A n c) n (zs.map (Value.int k))) : Mine w k A n := by
 intro hn
 have hl : n = zs.length := by have := h.1; simp at this; omega
 obtain ⟨g, cap, hv, hb, hlt⟩ := h.form hn
 injection hv with hv
 subst hv
 rcases h.2 with ⟨h', _⟩ | ⟨g', cap', cur, h', _, hg, _⟩
 ·cases h'
 ·injection h' with h'
  injection h' with h'
  injection h' with h'
  subst h'
  refine ⟨g, 0, cur, e, _, rfl, hg, fun i hi => ⟨⟨zs[i]'(by omega), ?_⟩, ?_⟩⟩
  ·have h1 := h.cellAt i (by simp; omega)
   rw [cell_of_block hg, List.getElem?_map, List.getElem?_eq_getElem (show i < zs.length by omega)] at h1
   rw [Nat.zero_add]
   exact h1
  ·rw [Nat.zero_add]; exact h.frozenAt i
set_option maxRecDepth 100000 in
set_option maxHeartbeats 1000000 in
theorem iclone_nil (c : Nat) (w : World) :
  Calls Tryz.prog 50 #[.slice none 0 c] w fun e w' => e = .returned (.slice none 0 0) ∧ w = w' := by
 have hn := fun w : World => Lib.run_eql_slice_nil (P := Tryz.prog) w 48 3 none 0 c 0 0 Tryz.underlying48
 go_enter Tryz.func50, Tryz.ntmps50
 go_wp2_with fail
 go_ret
 exact ⟨rfl, rfl⟩
set_option maxRecDepth 100000 in
set_option maxHeartbeats 1000000 in
theorem iclone_some (ad : Addr) (c : Nat) (F : Nat → Prop) (l : List Int) (w : World) (h : Row w (some ad) F (l.map (Value.int .i64))) (hl : l.length ≤ 1099511627776) :
  Calls Tryz.prog 50 #[.slice (some ad) l.length c] w fun e w' => ∃ B cb, e = .returned (.slice B l.length cb) ∧ Row w' B (fun b => w.heap.size ≤ b) (l.map (Value.int .i64)) ∧ Mine w' .i64 B l.length ∧ l.length ≤ cb ∧ cb ≤ maxLen ∧ Kp w w' := by
 have hn := fun w : World => Lib.run_eql_slice_nil (P := Tryz.prog) w 48 3 (some ad) l.length c 0 0 Tryz.underlying48
 have h0 : (w.alloc (.cells #[] 3)).ownsRow w.heap.size 3 1 (.slice (some ⟨w.heap.size, 0, none⟩) 0 0) 0 [] := World.ownsRow_made w #[] 0 (Nat.le_refl _) (by decide) rfl
 have hsrc : Src Tryz.prog 1 48 (.slice (some ad) l.length c) l.length (l.map (Value.int .i64)) (w.alloc (.cells #[] 3)) := by
  have := (h.keep ((Keeps.refl F w).alloc (.cells #[] 3))).src (c := c) Tryz.underlying48 (fun u hu => by obtain ⟨x, _, rfl⟩ := List.mem_map.1 hu; rfl)
  rwa [List.length_map] at this
 have H0 := Lib.hid h0
 have HS := Lib.hid hsrc
 obtain ⟨m, hm⟩ : ∃ m, l.length = m := ⟨_, rfl⟩
 have HM := Lib.hid hm
 rw [hm] at hl HS hn ⊢
 clear h h0 hsrc hm
 go_enter Tryz.func50, Tryz.ntmps50
 go_wp2_with (at_builtin; refine int_elem.list_append rfl (.tmp 5) (.tmp 6) _ rfl rfl H0.out rfl HS.out ?c3 ?c4 ?c5 ?_)
 case c3 => unfold maxLen; omega
 case c4 => omega
 ·simp
 intro v' w1 hown' hg hb
 have hk : Kp w w1 := by
  exact ((Onto.refl _ _).grown hg (by simpa using hb)).keeps ((Keeps.refl _ w).alloc _) (by simp [Value.ownBlock])
 have ho : w1.ownsRow w.heap.size 3 1 v' m (l.map (Value.int .i64)) := by simpa using hown'
 have H1 := Lib.hid ho
 have H2 := Lib.hid hk
 clear ho hk hown' hg hb
 go_wp2_with fail
 go_ret
 obtain ⟨A, c', rfl, -, hrow⟩ := own_slice H1.out
 obtain ⟨h1, h2, -⟩ := own_cap H1.out
 exact ⟨A, c', rfl, hrow.mono fun b _ hb => hb.1, mine_own H1.out, h1, h2, H2.out⟩
theorem iclone_any (A : Option Addr) (c : Nat) (F : Nat → Prop) (l : List Int) (w : World) (h : Row w A F (l.map (Value.int .i64))) (hl : l.length ≤ 1099511627776) :
  Calls Tryz.prog 50 #[.slice A l.length c] w fun e w' => ∃ B cb, e = .returned (.slice B l.length cb) ∧ Row w' B (fun b => w.heap.size ≤ b) (l.map (Value.int .i64)) ∧ Mine w' .i64 B l.length ∧ l.length ≤ cb ∧ cb ≤ maxLen ∧ Kp w w' := by
 rcases A with _ | ad
 ·have hx : l = [] := Classical.byContradiction fun hx => by
   obtain ⟨b, o, e, _⟩ := h (by simpa using hx)
   cases e
  subst hx
  refine (iclone_nil c w).mono ?_
  rintro e w' ⟨rfl, rfl⟩
  exact ⟨none, 0, rfl, Row.nil _ _ _, fun h => absurd h (by simp), Nat.le_refl _, Nat.zero_le _, Keeps.refl _ _⟩
 ·exact iclone_some ad c F l w h hl
def IdxZ (l : List Int) (n : Int) (z : Int) : Prop := (hasN l n = true ∧ 0 ≤ z) ∨ (hasN l n = false ∧ z = -1)
theorem idx_yes {l : List Int} {n : Int} {k : Nat} (hk : k < l.length) (h : (n == l[k]) = true) : IdxZ l n (k : Int) := by
 refine .inl ⟨?_, by omega⟩
 unfold hasN
 rw [List.any_eq_true]
 exact ⟨l[k], List.getElem_mem hk, by simpa using (beq_iff_eq.1 h).symm⟩
theorem idx_no {l : List Int} {n : Int} (h : ∀ (j : Nat) (hj : j < l.length), (n == l[j]) = false) : IdxZ l n (-1) := by
 refine .inr ⟨?_, rfl⟩
 unfold hasN
 rw [List.any_eq_false]
 intro x hx
 obtain ⟨j, hj, rfl⟩ := List.mem_iff_getElem.1 hx
 have := h j hj
 simp at this ⊢
 exact fun e => this e.symm
set_option maxRecDepth 100000 in
set_option maxHeartbeats 1000000 in
theorem index_any (w : World) (A : Option Addr) (c : Nat) (F : Nat → Prop) (l : List Int) (n : Int) (hr : Row w A F (l.map (Value.int .i64))) (hl : l.length ≤ 1099511627776) :
  Calls Tryz.prog 117 #[.slice A l.length c, .int .i64 n] w fun e w' => ∃ z, e = .returned (.int .i64 z) ∧ IdxZ l n z ∧ w = w' := by
 have HR := Lib.hid hr
 clear hr
 go_enter Tryz.func117, Tryz.ntmps117
 go_wp2_with fail
 go_loopw [8] (fun i wr => ∃ k : Nat, k ≤ l.length ∧ i = .int .i64 (k : Int) ∧ Hid (∀ (j : Nat) (hj : j < l.length), j < k → (n == l[j]) = false) ∧ w = wr) (fun i _ => l.length - (intOf i).toNat)
 case atStart => exact ⟨0, Nat.zero_le _, rfl, Lib.hid (fun j _ hj => absurd hj (Nat.not_lt_zero _)), rfl⟩
 case round =>
  obtain ⟨k, hk, rfl, HJ, rfl⟩ := hrel
  by_cases hlt : k < l.length
  ·have hlt' : (k : Int) < (l.length : Int) := by omega
   obtain ⟨b, o, rfl, -, c0⟩ := HR.out.at_ (k := k) (by simpa using hlt)
   rw [List.getElem_map] at c0
   cases hb : (n == l[k]) with
   | true =>
    have HN := Lib.hid (idx_yes hlt hb)
    generalize l[k] = x at c0 hb
    go_wp2_with fail
    go_ret
    exact ⟨_, rfl, HN.out, rfl⟩
   | false =>
    have HN := Lib.hid (show ∀ (j : Nat) (hj : j < l.length), j < k + 1 → (n == l[j]) = false from fun j hj h => by
     rcases Nat.lt_or_ge j k with g | g
     ·exact HJ.out j hj g
     ·obtain rfl : j = k := by omega
      exact hb)
    generalize l[k] = x at c0 hb
    go_wp2_with fail
    go_roundw
    case rel => exact ⟨k + 1, by omega, by go_num, HN, by trivial⟩
    case measure => simp [intOf]; omega
  ·have HB := Lib.hid (idx_no (l := l) (n := n) fun j hj => HJ.out j hj (by omega))
   have hlt' : ¬ (k : Int) < (l.length : Int) := by omega
   go_wp2_with fail
   go_ret
   exact ⟨_, rfl, HB.out, rfl⟩
set_option maxRecDepth 100000 in
set_option maxHeartbeats 1000000 in
theorem contains_any (w : World) (A : Option Addr) (c : Nat) (F : Nat → Prop) (l : List Int) (n : Int) (hr : Row w A F (l.map (Value.int .i64))) (hl : l.length ≤ 1099511627776) :
  Calls Tryz.prog 92 #[.slice A l.length c, .int .i64 n] w fun e w' => e = .returned (.bool (hasN l n)) ∧ w = w' := by
 have HI := Lib.hid (index_any w A c F l n hr hl)
 clear hr
 go_enter Tryz.func92, Tryz.ntmps92
 go_wp2_with fail
 refine (show Calls _ _ _ _ _ from HI.out).mono ?_
 rintro e w1 ⟨z, rfl, hz, rfl⟩
 have hd : decide (0 ≤ z) = hasN l n := by
  rcases hz with ⟨h1, h2⟩ | ⟨h1, h2⟩
  ·rw [h1]; simpa using h2
  ·rw [h1, h2]; rfl
 clear HI hz
 have HD := Lib.hid hd
 clear hd
 go_wp2_with fail
 go_ret
 exact ⟨by rw [← HD.out]; rfl, rfl⟩
end Go.Proofs.YtemkjodkmehffaaGreatDoor
