/-
  CtInts: texts of mine, joined.
-/
import Derived.Test.YtemkjodkmehffaaGreatDoorAllA09
import Derived.Test.YtemkjodkmehffaaGreatDoorAllA12
import Derived.Test.YtemkjodkmehffaaGreatDoorMap
import Derived.Test.YtemkjodkmehffaaGreatDoorAllA07
import Derived.Test.YtemkjodkmehffaaGreatDoorAllA04
namespace Go.Proofs.YtemkjodkmehffaaGreatDoor
open Go Go.RowKit Go.Joins Go.Sort
set_option maxRecDepth 100000 in
set_option maxHeartbeats 1000000 in
theorem iown_some (ad : Addr) (c : Nat) (F : Nat → Prop) (l : List Int) (w : World) (h : Row w (some ad) F (l.map (Value.int .i64))) (hl : l.length ≤ 1099511627776) :
  Calls Tryz.prog 50 #[.slice (some ad) l.length c] w fun e w' => ∃ v, e = .returned v ∧ w'.ownsRow w.heap.size 3 1 v l.length (l.map (Value.int .i64)) ∧ Kp w w' := by
 have hn := fun w : World => Lib.run_eql_slice_nil (P := Tryz.prog) w 48 3 (some ad) l.length c 0 0 Tryz.underlying48
 have h0 : (w.alloc (.cells #[] 3)).ownsRow w.heap.size 3 1 (.slice (some ⟨w.heap.size, 0, none⟩) 0 0) 0 [] := World.ownsRow_made w #[] 0 (Nat.le_refl _) (by decide) rfl
 have hsrc : Src Tryz.prog 1 48 (.slice (some ad) l.length c) l.length (l.map (Value.int .i64)) (w.alloc (.cells #[] 3)) := by
  have := (h.keep ((Keeps.refl F w).alloc (.cells #[] 3))).src (c := c) Tryz.underlying48 (fun u hu => by obtain ⟨x, _, rfl⟩ := List.mem_map.1 hu; rfl)
  rwa [List.length_map] at this
 have H0 := Lib.hid h0
 have HS := Lib.hid hsrc
 obtain ⟨m, hm⟩ : ∃ m, l.length = m := ⟨_, rfl⟩
 have HM := Lib.hid hm
 rw [hm] at hl HS hn ⊢
 clear h h0 hsrc hm
 go_enter Tryz.func50, Tryz.ntmps50
 go_wp2_with (at_builtin; refine int_elem.list_append rfl (.tmp 5) (.tmp 6) _ rfl rfl H0.out rfl HS.out ?c3 ?c4 ?c5 ?_)
 case c3 => unfold maxLen; omega
 case c4 => omega
 ·simp
 intro v' w1 hown' hg hb
 have hk : Kp w w1 := by
  exact ((Onto.refl _ _).grown hg (by simpa using hb)).keeps ((Keeps.refl _ w).alloc _) (by simp [Value.ownBlock])
 have ho : w1.ownsRow w.heap.size 3 1 v' m (l.map (Value.int .i64)) := by simpa using hown'
 have H1 := Lib.hid ho
 have H2 := Lib.hid hk
 clear ho hk hown' hg hb
 go_wp2_with fail
 go_ret
 exact ⟨v', rfl, H1.out, H2.out⟩
theorem iown_any (A : Option Addr) (c : Nat) (F : Nat → Prop) (l : List Int) (w : World) (h : Row w A F (l.map (Value.int .i64))) (hl : l.length ≤ 1099511627776) (n : Nat) (hn : n = l.length) :
  Calls Tryz.prog 50 #[.slice A n c] w fun e w' => ∃ v, e = .returned v ∧ w'.ownsRow w.heap.size 3 1 v l.length (l.map (Value.int .i64)) ∧ Kp w w' := by
 subst hn
 rcases A with _ | ad
 ·have hx : l = [] := Classical.byContradiction fun hx => by
   obtain ⟨b, o, e, _⟩ := h (by simpa using hx)
   cases e
  subst hx
  refine (iclone_nil c w).mono ?_
  rintro e w' ⟨rfl, rfl⟩
  exact ⟨_, rfl, World.ownsRow_nil w w.heap.size 3 1, Keeps.refl _ _⟩
 ·exact iown_some ad c F l w h hl
theorem iholds_own {w : World} {base g c : Nat} {e : TypeId} {l : List Int} (h : w.ownsRow base e 1 (.slice (some ⟨g, 0, none⟩) l.length c) l.length (l.map (Value.int .i64))) : Holds (Value.int .i64) w g 0 l.toArray := by
 intro j hj
 have hj' : j < l.length := by simpa using hj
 refine ⟨?_, ?_⟩
 ·have h1 := h.cells (g := g) rfl j (.int .i64 l[j]) (by rw [List.getElem?_map, List.getElem?_eq_getElem hj']; rfl)
  rw [WideShapes.add_plain] at h1
  rw [h1, getElem!_pos l.toArray j (by simpa using hj')]
  simp
 ·have := h.frozenAt (0 + j)
  exact this
theorem row_holds {w : World} {g : Nat} {d : Array Int} {l : List Int} (h : Holds (Value.int .i64) w g 0 d) (hl : l.length ≤ d.size) (he : ∀ (j : Nat) (hj : j < l.length), d[j]! = l[j]) : Row w (some ⟨g, 0, none⟩) (fun b => b = g) (l.map (Value.int .i64)) := by
 intro _
 refine ⟨g, 0, rfl, rfl, fun j v hv => ?_⟩
 have hj : j < l.length := by
  have := (List.getElem?_eq_some_iff.1 hv).1
  simpa using this
 rw [List.getElem?_map, List.getElem?_eq_getElem hj] at hv
 injection hv with hv
 rw [← hv, (h j (by omega)).1, he j hj]
theorem put_keeps (w : World) (n g : Nat) (d : Array Int) (os : Array Obj) : Keeps (fun b => b ≠ g) w (grow (putRow (Value.int .i64) (Sort.ahead w n) g 0 d) os) := by
 have hs : (putRow (Value.int .i64) (Sort.ahead w n) g 0 d).heap.size = w.heap.size := Go.Sort.size_putRow _ _ _ _ _
 refine ⟨rfl, rfl, rfl, ?_, fun b hF hb => ?_⟩
 ·show w.heap.size ≤ ((putRow (Value.int .i64) (Sort.ahead w n) g 0 d).heap ++ os).size
  rw [Array.size_append]; omega
 ·rw [Go.Sort.heap_grow_old _ _ (by rw [hs]; exact hb)]
  unfold Go.Sort.putRow Go.Sort.mapBlock
  simp [Array.getElem?_modify, Ne.symm hF]
theorem put_keeps0 (w : World) (n g : Nat) (d : Array Int) : Keeps (fun b => b ≠ g) w (putRow (Value.int .i64) (Sort.ahead w n) g 0 d) := by
 have h := put_keeps w n g d #[]
 rwa [grow_empty] at h
theorem merge_sortI (l : List Int) : (l.mergeSort fun x y => decide (x ≤ y)) = sortI l := by
 have h1 : (l.mergeSort leI) = (sortI l).mergeSort leI := mergeSort_of_perm_i (sortI_perm l).symm
 have h2 : (sortI l).mergeSort leI = sortI l := sorted_self _ (sortI_sorted l)
 exact h1.trans h2
theorem isort_own (w : World) (base g c : Nat) (e : TypeId) (l : List Int) (ho : w.ownsRow base e 1 (.slice (some ⟨g, 0, none⟩) l.length c) l.length (l.map (Value.int .i64))) (hl : l.length ≤ 1000) :
  Calls Tryz.prog 44 #[.slice (some ⟨g, 0, none⟩) l.length c] w fun e w' => e = .returned (.tuple #[]) ∧ Row w' (some ⟨g, 0, none⟩) (fun b => b = g) ((sortI l).map (Value.int .i64)) ∧ Keeps (fun b => b ≠ g) w w' := by
 have hb : g < w.heap.size := (ho.lt g rfl).2
 have h := AnyM.slices_Sort_int Tryz.sortA g 0 c l w (iholds_own ho) hb (by omega)
 rw [merge_sortI] at h
 refine (show Calls Tryz.prog 44 _ w _ from h).mono ?_
 rintro e w' ⟨rfl, n, os, rfl⟩
 refine ⟨rfl, ?_, put_keeps w n g _ os⟩
 have hH : Holds (Value.int .i64) (putRow (Value.int .i64) (Sort.ahead w n) g 0 (sortI l).toArray) g 0 (sortI l).toArray :=
  holds_putRow _ _ g 0 l.toArray _ (holds_ahead _ w n g 0 _ (iholds_own ho)) (by simp [sortI_len])
 have hR : Row (putRow (Value.int .i64) (Sort.ahead w n) g 0 (sortI l).toArray) (some ⟨g, 0, none⟩) (fun b => b = g) ((sortI l).map (Value.int .i64)) :=
  row_holds hH (by simp) (fun j hj => by rw [getElem!_pos _ j (by simpa using hj)]; simp)
 have hs : (putRow (Value.int .i64) (Sort.ahead w n) g 0 (sortI l).toArray).heap.size = w.heap.size := Go.Sort.size_putRow _ _ _ _ _
 refine hR.keep (F := fun b => b = g) ⟨rfl, rfl, rfl, ?_, fun b hF hb2 => Go.Sort.heap_grow_old _ _ hb2⟩
 show (putRow (Value.int .i64) (Sort.ahead w n) g 0 (sortI l).toArray).heap.size ≤ ((putRow (Value.int .i64) (Sort.ahead w n) g 0 (sortI l).toArray).heap ++ os).size
 rw [Array.size_append]; omega
theorem without_is (n x : Int) (B : Nat) (W : World) (hc : W.cell? ⟨B, 0, none⟩ = some (.int .i64 n)) :
  FnGives Tryz.prog 75 #[.pointer (some ⟨B, 0, none⟩)] #[.int .i64 x] (.bool (x == n)) W := by
 show Calls Tryz.prog 75 #[.int .i64 x, .pointer (some ⟨B, 0, none⟩)] W _
 go_enter Tryz.func75, Tryz.ntmps75
 go_wp2_with fail
 go_ret
 exact ⟨rfl, 0, rfl⟩
theorem ifunc_empty (w : World) (A : Option Addr) (c : Nat) (v : Value) : Calls Tryz.prog 93 #[.slice A 0 c, v] w fun e w' => e = .returned (.int .i64 (-1)) ∧ w = w' := by
 go_enter Tryz.func93, Tryz.ntmps93
 go_wp2_with fail
 go_loopw [8] (fun i wr => i = .int .i64 0 ∧ w = wr) (fun _ _ => 0)
 case atStart => exact ⟨rfl, rfl⟩
 case round =>
  obtain ⟨rfl, rfl⟩ := hrel
  go_wp2_with fail
  go_ret
  exact ⟨rfl, rfl⟩
theorem dfunc_empty (w : World) (A : Option Addr) (c : Nat) (v : Value) : Calls Tryz.prog 74 #[.slice A 0 c, v] w fun e w' => e = .returned (.slice A 0 c) ∧ w = w' := by
 have HI := fun w => ifunc_empty w A c v
 go_enter Tryz.func74, Tryz.ntmps74
 go_wp2_with fail
 refine (HI _).mono ?_
 rintro e w1 ⟨rfl, rfl⟩
 go_wp2_with fail
 go_ret
 exact ⟨rfl, rfl⟩
theorem dfunc_own (w : World) (base g c B : Nat) (e : TypeId) (l : List Int) (n : Int) (ho : w.ownsRow base e 1 (.slice (some ⟨g, 0, none⟩) l.length c) l.length (l.map (Value.int .i64))) (hl : l.length ≤ 1000) (hB : B < w.heap.size) (hne : B ≠ g) (hc : w.cell? ⟨B, 0, none⟩ = some (.int .i64 n)) :
  Calls Tryz.prog 74 #[.slice (some ⟨g, 0, none⟩) l.length c, .func (.func 75) #[] #[.pointer (some ⟨B, 0, none⟩)]] w fun e w' => e = .returned (.slice (some ⟨g, 0, none⟩) (wo l n).length c) ∧ Row w' (some ⟨g, 0, none⟩) (fun b => b = g) ((wo l n).map (Value.int .i64)) ∧ Keeps (fun b => b ≠ g) w w' := by
 have hb : g < w.heap.size := (ho.lt g rfl).2
 have hH := iholds_own ho
 have hp : PredAt Tryz.prog 75 #[.pointer (some ⟨B, 0, none⟩)] (Value.int .i64) (fun x => x == n) w := fun W x hb => without_is n x B W ((hb.cell (p := ⟨B, 0, none⟩) hB).trans hc)
 have hpo : PredOver Tryz.prog 75 #[.pointer (some ⟨B, 0, none⟩)] (Value.int .i64) (fun x => x == n) g 0 l.toArray.size w := fun m os dk x _ => without_is n x B _ (by
  unfold sortWorld
  rw [cell?_grow _ _ _ (by show B < (putRow _ _ _ _ _).heap.size; rw [Go.Sort.size_putRow]; exact hB), cell?_putRow_other _ _ g 0 _ _ (Or.inl hne)]
  exact hc)
 have h := AnyE.slices_DeleteFunc Tryz.delF (Value.int .i64) (fun _ => rfl) (fun x => x == n) 75 #[.pointer (some ⟨B, 0, none⟩)] (enters_of Tryz.func75 (by kernel_rfl) rfl) 0 Tryz.zeroValue3 g 0 c l.toArray w hp hpo hH (by simp; omega) (by simpa using (own_room ho).1)
 refine (show Calls Tryz.prog 74 #[.slice (some ⟨g, 0, none⟩) l.length c, .func (.func 75) #[] #[.pointer (some ⟨B, 0, none⟩)]] w _ from by have h' := h; simp only [List.size_toArray] at h'; exact h').mono ?_
 rintro e w' ⟨rfl, q, rfl⟩
 have hwl : (wo l n).length ≤ l.length := wo_len l n
 refine ⟨rfl, ?_, put_keeps0 w q g _⟩
 refine row_holds (holds_putRow _ _ g 0 l.toArray _ (holds_ahead _ w q g 0 _ hH) ?_) ?_ ?_
 ·show (wo l n ++ List.replicate _ _).toArray.size = l.toArray.size
  simp [wo] at hwl ⊢
  omega
 ·show (wo l n).length ≤ (wo l n ++ List.replicate _ _).toArray.size
  simp
 ·intro j hj
  show (wo l n ++ List.replicate _ _).toArray[j]! = _
  rw [getElem!_pos _ j (by simp; omega)]
  simp [List.getElem_append_left hj]
set_option maxRecDepth 100000 in
set_option maxHeartbeats 1000000 in
theorem without_any (w : World) (A : Option Addr) (c : Nat) (F : Nat → Prop) (l : List Int) (n : Int) (hr : Row w A F (l.map (Value.int .i64))) (hl : l.length ≤ 1000) (m : Nat) (hm : m = l.length) :
  Calls Tryz.prog 39 #[.slice A m c, .int .i64 n] w fun e w' => ∃ B cb, e = .returned (.slice B (wo l n).length cb) ∧ Row w' B (fun b => w.heap.size ≤ b ∧ b < w'.heap.size) ((wo l n).map (Value.int .i64)) ∧ (wo l n).length ≤ cb ∧ cb ≤ maxLen ∧ Kp w w' := by
 have hk1 : Kp w (w.alloc (.cells #[.int .i64 n] 3)) := (Keeps.refl _ w).alloc _
 have hs1 : (w.alloc (.cells #[.int .i64 n] 3)).heap.size = w.heap.size + 1 := by simp
 have hc1 : (w.alloc (.cells #[.int .i64 n] 3)).cell? ⟨w.heap.size, 0, none⟩ = some (.int .i64 n) := cell_one_new w _ _ 0 _ rfl
 have HCL := Lib.hid (iown_any A c F l _ (hr.keep (hk1.mono fun _ _ _ => trivial)) (by omega) m hm)
 have HK1 := Lib.hid hk1
 have HS1 := Lib.hid hs1
 have HC1 := Lib.hid hc1
 have HD := Lib.hid (show ∀ (w1 : World) (v : Value), w1.ownsRow (w.heap.size + 1) 3 1 v l.length (l.map (Value.int .i64)) → w1.cell? ⟨w.heap.size, 0, none⟩ = some (.int .i64 n) → Kp w w1 →
   Calls Tryz.prog 74 #[v, .func (.func 75) #[] #[.pointer (some ⟨w.heap.size, 0, none⟩)]] w1 fun e w' => ∃ B cb, e = .returned (.slice B (wo l n).length cb) ∧ Row w' B (fun b => w.heap.size ≤ b ∧ b < w'.heap.size) ((wo l n).map (Value.int .i64)) ∧ (wo l n).length ≤ cb ∧ cb ≤ maxLen ∧ Kp w w' from by
  intro w1 v ho hc hk
  obtain ⟨B, cb, rfl, -, hrow⟩ := own_slice ho
  by_cases h0 : l.length = 0
  ·have hl0 : l = [] := List.eq_nil_of_length_eq_zero h0
   subst hl0
   refine (dfunc_empty w1 B cb _).mono ?_
   rintro e w' ⟨rfl, rfl⟩
   exact ⟨B, cb, rfl, Row.nil _ _ _, Nat.zero_le _, (own_cap ho).2.1, hk⟩
  ·obtain ⟨g, cap, e, hb, hlt⟩ := ho.form (by omega)
   injection e with e1 e2 e3
   subst e1
   have hcap := own_room ho
   refine (dfunc_own w1 _ g cb w.heap.size _ l n ho hl (World.block_lt_of_cell? w1 _ hc) (by omega) hc).mono ?_
   rintro e w' ⟨rfl, h1, h2⟩
   have hkw : Kp w w' := ((hk.mono fun _ _ _ => trivial : Keeps (fun b => b ≠ g) w w1).trans h2).mono fun b hb2 _ => by omega
   refine ⟨_, cb, rfl, h1.lt.mono fun b _ hb2 => ⟨by have := hb2.1; omega, hb2.2⟩, Nat.le_trans (wo_len l n) hcap.1, hcap.2, hkw⟩)
 clear hk1 hs1 hc1 hr hm
 go_enter Tryz.func39, Tryz.ntmps39
 go_wp2_with fail
 refine (show Calls _ _ _ _ _ from HCL.out).mono ?_
 rintro e w1 ⟨v, rfl, ho, hk⟩
 have HD1 := Lib.hid (HD.out w1 v (by rw [HS1.out] at ho; exact ho) (hk.cell HC1.out trivial) (HK1.out.trans hk))
 clear ho hk HD HCL HC1 HS1
 go_wp2_with fail
 refine (show Calls _ _ _ _ _ from HD1.out).mono ?_
 rintro e w2 ⟨B, cb, rfl, h1, h2, h3, h4⟩
 have H1 := Lib.hid h1
 have H2 := Lib.hid (And.intro h2 h3)
 have H4 := Lib.hid h4
 clear h1 h2 h3 h4 HD1
 go_wp2_with fail
 go_ret
 exact ⟨B, cb, rfl, H1.out, H2.out.1, H2.out.2, H4.out⟩
end Go.Proofs.YtemkjodkmehffaaGreatDoor
