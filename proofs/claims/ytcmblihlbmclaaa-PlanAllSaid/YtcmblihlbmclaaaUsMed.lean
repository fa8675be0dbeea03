/-
  slices.order2Ordered, medianOrdered, medianAdjacentOrdered, choosePivotOrdered at uint64: which index comes of them is one of those that went in; only the count of swaps is written.
-/
import Derived.Test.YtcmblihlbmclaaaUsMem
import Derived.Deep.CutRange
import Derived.Lib.SmallJoins
import Derived.WalkSpells
namespace Go.Proofs.Ytcmblihlbmclaaa
open Go Go.RowKit Go.Sort Go.Joins

/-- The count of swaps, in a block of its own. -/
structure SwAt (v w : World) (g : Nat) : Prop where
  kp : Keeps (fun i => i ≠ g) v w
  cell : ∃ s, w.cell? ⟨g, 0, none⟩ = some (.int .i64 s)
  fr : w.frozen? ⟨g, 0, none⟩ = false
theorem sw_set {w : World} {g : Nat} {s : Int} (h : w.cell? ⟨g, 0, none⟩ = some (.int .i64 s)) (hf : w.frozen? ⟨g, 0, none⟩ = false) (t : Int) : (w.setCell ⟨g, 0, none⟩ (.int .i64 t)).cell? ⟨g, 0, none⟩ = some (.int .i64 t) := by
  have hH : Holds (Value.int .i64) w g 0 #[s] := fun j hj => by
    obtain rfl : j = 0 := by simpa using hj
    exact ⟨h, hf⟩
  have e := putRow_set (Value.int .i64) w g 0 #[s] 0 t (by simp)
  rw [putRow_self _ _ _ _ _ hH] at e
  have h2 := holds_putRow (Value.int .i64) w g 0 #[s] (#[s].setIfInBounds 0 t) hH (by simp)
  rw [← e] at h2
  exact (h2 0 (by simp)).1
theorem SwAt.trans {u v w : World} {g : Nat} (h : SwAt u v g) (k : SwAt v w g) : SwAt u w g := ⟨h.kp.trans k.kp, k.cell, k.fr⟩
theorem Holds.keep {v w : World} {g b o : Nat} {d : Array Int} (h : Holds (Value.int .u64) v b o d) (k : Keeps (fun i => i ≠ g) v w) (hb : b ≠ g) : Holds (Value.int .u64) w b o d := fun t ht =>
  ⟨k.cell (h t ht).1 hb, by rw [k.frozen (World.block_lt_of_cell? v _ (h t ht).1) hb]; exact (h t ht).2⟩

set_option maxHeartbeats 2000000 in
set_option maxRecDepth 100000 in
theorem uord_any (w : World) (b o cap n i j g : Nat) (d : Array Int) (hH : Holds (Value.int .u64) w b o d) (hn : d.size = n) (hi : i < n) (hj : j < n) (_hb : b ≠ g) (hg : SwAt w w g) :
    Calls Try.prog 76 #[.slice (some ⟨b, o, none⟩) n cap, .int .i64 i, .int .i64 j, .pointer (some ⟨g, 0, none⟩)] w fun e w' => (∃ p q : Nat, e = .returned (.tuple #[.int .i64 p, .int .i64 q]) ∧ ((p = i ∧ q = j) ∨ (p = j ∧ q = i))) ∧ SwAt w w' g := by
  obtain ⟨G, hG⟩ := fam_of d
  obtain ⟨hc, hf⟩ := (UAt.refl hH).fam hG hn
  have HS := Lib.hid hg
  obtain ⟨s, hs⟩ := hg.cell
  have hfr := hg.fr
  clear hG hH hg hn
  go_enter Try.func76, Try.ntmps76
  go_wp2_with fail
  go_quiet (first | (go_at_call 53; refine Calls.quiet_of_same (uless_any _ _ _)))
  go_wp2_with fail
  · go_ret2
    refine ⟨⟨j, i, rfl, .inr ⟨rfl, rfl⟩⟩, ?_, ⟨_, sw_set (w := w.drewN nq) hs hfr _⟩, ?_⟩
    · exact ((Keeps.refl _ w).drewN nq).setCell (.inr fun e => e rfl) _
    · simpa using hfr
  · go_ret2
    exact ⟨⟨i, j, rfl, .inl ⟨rfl, rfl⟩⟩, (Keeps.refl _ w).drewN nq, ⟨s, hs⟩, hfr⟩

set_option maxHeartbeats 2000000 in
set_option maxRecDepth 100000 in
theorem umed_any (w : World) (b o cap n i j k g : Nat) (d : Array Int) (hH : Holds (Value.int .u64) w b o d) (hn : d.size = n) (hi : i < n) (hj : j < n) (hk : k < n) (hb : b ≠ g) (hg : SwAt w w g) :
    Calls Try.prog 72 #[.slice (some ⟨b, o, none⟩) n cap, .int .i64 i, .int .i64 j, .int .i64 k, .pointer (some ⟨g, 0, none⟩)] w fun e w' => (∃ m : Nat, e = .returned (.int .i64 m) ∧ (m = i ∨ m = j ∨ m = k)) ∧ SwAt w w' g := by
  have OR := Lib.hid (show ∀ (w' : World) (i j : Nat), SwAt w w' g → i < n → j < n → Calls Try.prog 76 #[.slice (some ⟨b, o, none⟩) n cap, .int .i64 i, .int .i64 j, .pointer (some ⟨g, 0, none⟩)] w' fun e w2 => (∃ p q : Nat, e = .returned (.tuple #[.int .i64 p, .int .i64 q]) ∧ ((p = i ∧ q = j) ∨ (p = j ∧ q = i))) ∧ SwAt w w2 g from fun w' i j h h1 h2 =>
    (uord_any w' b o cap n i j g d (Holds.keep hH h.kp hb) hn h1 h2 hb ⟨Keeps.refl _ _, h.cell, h.fr⟩).mono fun e w2 ⟨h3, h4⟩ => ⟨h3, h.trans h4⟩)
  have H0 := Lib.hid hg
  clear hH hn hg
  go_enter Try.func72, Try.ntmps72
  go_wp2_with fail
  refine (show Calls _ _ _ _ _ from OR.out _ i j H0.out hi hj).mono ?_
  rintro e w1 ⟨⟨p, q, rfl, hpq⟩, h1⟩
  have H1 := Lib.hid h1
  have HP := Lib.hid hpq
  have hp : p < n := by omega
  have hq : q < n := by omega
  clear h1 H0 hpq
  go_wp2_with fail
  refine (show Calls _ _ _ _ _ from OR.out _ q k H1.out hq hk).mono ?_
  rintro e w2 ⟨⟨r, s, rfl, hrs⟩, h2⟩
  have H2 := Lib.hid h2
  have HR := Lib.hid hrs
  have hr : r < n := by omega
  have hs : s < n := by omega
  clear h2 H1 hrs
  go_wp2_with fail
  refine (show Calls _ _ _ _ _ from OR.out _ p r H2.out hp hr).mono ?_
  rintro e w3 ⟨⟨t, u, rfl, htu⟩, h3⟩
  have H3 := Lib.hid h3
  have HT := Lib.hid htu
  clear h3 H2 htu OR
  go_wp2_with fail
  go_ret
  have h4 := HP.out
  have h5 := HR.out
  have h6 := HT.out
  exact ⟨⟨u, rfl, by omega⟩, H3.out⟩

set_option maxHeartbeats 2000000 in
set_option maxRecDepth 100000 in
theorem umadj_any (w : World) (b o cap n i g : Nat) (d : Array Int) (hH : Holds (Value.int .u64) w b o d) (hn : d.size = n) (h0 : 1 ≤ i) (hi : i + 1 < n) (hsz : n < 1152921504606846976) (hb : b ≠ g) (hg : SwAt w w g) :
    Calls Try.prog 71 #[.slice (some ⟨b, o, none⟩) n cap, .int .i64 i, .pointer (some ⟨g, 0, none⟩)] w fun e w' => (∃ m : Nat, e = .returned (.int .i64 m) ∧ (m = i - 1 ∨ m = i ∨ m = i + 1)) ∧ SwAt w w' g := by
  have HM := Lib.hid (umed_any w b o cap n (i - 1) i (i + 1) g d hH hn (by omega) (by omega) hi hb hg)
  clear hH hn hg
  have e1 : (i : Int) - 1 = ((i - 1 : Nat) : Int) := by omega
  have e2 : (i : Int) + 1 = ((i + 1 : Nat) : Int) := by omega
  have E := Lib.hid (And.intro e1 e2)
  clear e1 e2
  go_enter Try.func71, Try.ntmps71
  go_wp2_with fail
  rw [E.out.1, E.out.2]
  refine (show Calls _ _ _ _ _ from HM.out).mono ?_
  rintro e w1 ⟨⟨m, rfl, hm⟩, h1⟩
  have H := Lib.hid (And.intro hm h1)
  clear hm h1 HM E
  go_wp2_with fail
  go_ret
  exact ⟨⟨m, rfl, H.out.1⟩, H.out.2⟩

set_option maxHeartbeats 4000000 in
set_option maxRecDepth 100000 in
theorem upivot_any (w : World) (b o cap x y : Nat) (d : Array Int) (hH : Holds (Value.int .u64) w b o d) (hblk : b < w.heap.size) (hxy : x + 12 < y) (hy : y ≤ d.size) (hsz : d.size < 1152921504606846976) :
    Calls Try.prog 50 #[.slice (some ⟨b, o, none⟩) d.size cap, .int .i64 x, .int .i64 y] w fun e w' => (∃ (m : Nat) (h : Int), e = .returned (.tuple #[.int .i64 m, .int .i64 h]) ∧ x ≤ m ∧ m < y ∧ (h = 0 ∨ h = 1 ∨ h = 2)) ∧ Keeps (fun _ => True) w w' := by
  obtain ⟨n, hn⟩ : ∃ n, d.size = n := ⟨_, rfl⟩
  obtain ⟨l, hl⟩ : ∃ l, y = x + l := ⟨y - x, by omega⟩
  obtain ⟨q, hq⟩ : ∃ q, l / 4 = q := ⟨_, rfl⟩
  have hne : b ≠ w.heap.size := by omega
  have H0 := Lib.hid (show SwAt w (w.alloc (.cells #[.int .i64 0] 3)) w.heap.size from ⟨(Keeps.refl _ w).alloc _, ⟨0, (cell_of_block (heap_alloc_new w _) 0).trans rfl⟩, by unfold World.frozen?; rw [heap_alloc_new]; rfl⟩)
  have MD := Lib.hid (show ∀ (w' : World) (i j k : Nat), SwAt w w' w.heap.size → i < n → j < n → k < n → Calls Try.prog 72 #[.slice (some ⟨b, o, none⟩) n cap, .int .i64 i, .int .i64 j, .int .i64 k, .pointer (some ⟨w.heap.size, 0, none⟩)] w' fun e w2 => (∃ m : Nat, e = .returned (.int .i64 m) ∧ (m = i ∨ m = j ∨ m = k)) ∧ SwAt w w2 w.heap.size from fun w' i j k h h1 h2 h3 =>
    (umed_any w' b o cap n i j k w.heap.size d (Holds.keep hH h.kp hne) hn h1 h2 h3 hne ⟨Keeps.refl _ _, h.cell, h.fr⟩).mono fun e w2 ⟨h4, h5⟩ => ⟨h4, h.trans h5⟩)
  have MA := Lib.hid (show ∀ (w' : World) (i : Nat), SwAt w w' w.heap.size → 1 ≤ i → i + 1 < n → Calls Try.prog 71 #[.slice (some ⟨b, o, none⟩) n cap, .int .i64 i, .pointer (some ⟨w.heap.size, 0, none⟩)] w' fun e w2 => (∃ m : Nat, e = .returned (.int .i64 m) ∧ (m = i - 1 ∨ m = i ∨ m = i + 1)) ∧ SwAt w w2 w.heap.size from fun w' i h h1 h2 =>
    (umadj_any w' b o cap n i w.heap.size d (Holds.keep hH h.kp hne) hn h1 h2 (by omega) hne ⟨Keeps.refl _ _, h.cell, h.fr⟩).mono fun e w2 ⟨h4, h5⟩ => ⟨h4, h.trans h5⟩)
  rw [hn] at hy hsz ⊢
  have EN := Lib.hid (show ∀ w', SwAt w w' w.heap.size → Keeps (fun _ => True) w w' from fun w' h => ⟨h.kp.os, h.kp.tape, h.kp.output, h.kp.size, fun i _ hi => h.kp.block i (by omega) hi⟩)
  clear hH hn
  have hyx : (y : Int) - (x : Int) = (l : Int) := by omega
  have hx1 : x + l ≤ n := by omega
  have hl13 : 12 < l := by omega
  have hq1 : (l : Int) / 4 = (q : Int) := by omega
  have e1 : (x : Int) + (q : Int) = ((x + q : Nat) : Int) := by omega
  have e2 : (x : Int) + (q : Int) * 2 = ((x + q * 2 : Nat) : Int) := by omega
  have e3 : (x : Int) + (q : Int) * 3 = ((x + q * 3 : Nat) : Int) := by omega
  have EE := Lib.hid (And.intro e1 (And.intro e2 e3))
  have hq4 : 4 * q ≤ l := by omega
  have hq5 : l < 4 * q + 4 := by omega
  have HY := Lib.hid hl
  clear e1 e2 e3 hq hl hxy
  by_cases h50 : 50 ≤ l
  · have h50' : (50 : Int) ≤ (l : Int) := by omega
    have h8' : (8 : Int) ≤ (l : Int) := by omega
    go_enter Try.func50, Try.ntmps50
    go_wp2_with fail
    rw [EE.out.1, EE.out.2.1, EE.out.2.2]
    refine (show Calls _ _ _ _ _ from MA.out _ (x + q) H0.out (by omega) (by omega)).mono ?_
    rintro e w1 ⟨⟨m1, rfl, hm1⟩, h1⟩
    have H1 := Lib.hid h1
    have ha1 : x ≤ m1 := by omega
    have hb1 : m1 < x + l := by omega
    clear h1 hm1 H0
    go_wp2_with fail
    refine (show Calls _ _ _ _ _ from MA.out _ (x + q * 2) H1.out (by omega) (by omega)).mono ?_
    rintro e w2 ⟨⟨m2, rfl, hm2⟩, h2⟩
    have H2 := Lib.hid h2
    have ha2 : x ≤ m2 := by omega
    have hb2 : m2 < x + l := by omega
    clear h2 hm2 H1
    go_wp2_with fail
    refine (show Calls _ _ _ _ _ from MA.out _ (x + q * 3) H2.out (by omega) (by omega)).mono ?_
    rintro e w3 ⟨⟨m3, rfl, hm3⟩, h3⟩
    have H3 := Lib.hid h3
    have ha3 : x ≤ m3 := by omega
    have hb3 : m3 < x + l := by omega
    clear h3 hm3 H2
    go_wp2_with fail
    clear hq4 hq5 MA EE
    refine (show Calls _ _ _ _ _ from MD.out _ m1 m2 m3 H3.out (by omega) (by omega) (by omega)).mono ?_
    rintro e w4 ⟨⟨m, rfl, hm⟩, h4⟩
    replace hm : x ≤ m ∧ m < x + l := by omega
    clear H3 MD
    have HM := Lib.hid hm
    clear hm
    obtain ⟨s, hs⟩ := h4.cell
    have H4 := Lib.hid h4
    clear h4
    go_wp2_with fail
    all_goals go_ret2
    all_goals exact ⟨⟨m, _, rfl, by have := HM.out; omega, by have := HM.out; have := HY.out; omega, by simp⟩, EN.out _ H4.out⟩
  · have h50' : decide ((50 : Int) ≤ (l : Int)) = false := decide_eq_false (by omega)
    have h8' : (8 : Int) ≤ (l : Int) := by omega
    go_enter Try.func50, Try.ntmps50
    go_wp2_with fail
    rw [EE.out.1, EE.out.2.1, EE.out.2.2]
    refine (show Calls _ _ _ _ _ from MD.out _ (x + q) (x + q * 2) (x + q * 3) H0.out (by omega) (by omega) (by omega)).mono ?_
    rintro e w4 ⟨⟨m, rfl, hm⟩, h4⟩
    replace hm : x ≤ m ∧ m < x + l := by omega
    clear H0 MD MA EE hq4 hq5
    have HM := Lib.hid hm
    clear hm
    obtain ⟨s, hs⟩ := h4.cell
    have H4 := Lib.hid h4
    clear h4
    go_wp2_with fail
    all_goals go_ret2
    all_goals exact ⟨⟨m, _, rfl, by have := HM.out; omega, by have := HM.out; have := HY.out; omega, by simp⟩, EN.out _ H4.out⟩

end Go.Proofs.Ytcmblihlbmclaaa
