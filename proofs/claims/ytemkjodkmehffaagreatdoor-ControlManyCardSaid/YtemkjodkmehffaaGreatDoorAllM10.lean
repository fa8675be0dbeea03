/-
  CtMath, CtInts: texts of mine, joined.
-/
import Derived.Test.YtemkjodkmehffaaGreatDoorAllM06
import Derived.Test.YtemkjodkmehffaaGreatDoorAllM08
import Derived.Test.YtemkjodkmehffaaGreatDoorAllM09
import Derived.Test.YtemkjodkmehffaaGreatDoorMap
import Derived.Test.YtemkjodkmehffaaGreatDoorAllM05
import Derived.Test.YtemkjodkmehffaaGreatDoorAllM04
namespace Go.Proofs.YtemkjodkmehffaaGreatDoor
open Go Go.RowKit Go.Joins
def wo (l : List Int) (n : Int) : List Int := l.filter fun x => !(x == n)
def insI (x : Int) : List Int → List Int
 | [] => [x]
 | y :: l => if x ≤ y then x :: y :: l else y :: insI x l
def sortI : List Int → List Int
 | [] => []
 | x :: l => insI x (sortI l)
theorem wo_len (l : List Int) (n : Int) : (wo l n).length ≤ l.length := List.length_filter_le _ _
theorem wo_mem {l : List Int} {n x : Int} : x ∈ wo l n ↔ x ∈ l ∧ x ≠ n := by simp [wo]
theorem insI_perm (x : Int) (l : List Int) : (insI x l).Perm (x :: l) := by
 induction l with
 | nil => exact List.Perm.refl _
 | cons y l ih =>
  unfold insI
  split
  ·exact List.Perm.refl _
  ·exact (ih.cons y).trans (List.Perm.swap x y l)
theorem sortI_perm (l : List Int) : (sortI l).Perm l := by
 induction l with
 | nil => exact List.Perm.refl _
 | cons x l ih => exact (insI_perm x (sortI l)).trans (ih.cons x)
theorem insI_sorted (x : Int) (l : List Int) (h : l.Pairwise (· ≤ ·)) : (insI x l).Pairwise (· ≤ ·) := by
 induction l with
 | nil => exact List.pairwise_singleton _ _
 | cons y l ih =>
  unfold insI
  split
  ·rename_i hxy
   refine List.pairwise_cons.2 ⟨fun z hz => ?_, h⟩
   rcases List.mem_cons.1 hz with rfl | hz
   ·exact hxy
   ·exact Int.le_trans hxy ((List.pairwise_cons.1 h).1 z hz)
  ·rename_i hxy
   refine List.pairwise_cons.2 ⟨fun z hz => ?_, ih (List.pairwise_cons.1 h).2⟩
   rcases List.mem_cons.1 ((insI_perm x l).mem_iff.1 hz) with rfl | hz
   ·omega
   ·exact (List.pairwise_cons.1 h).1 z hz
theorem sortI_sorted (l : List Int) : (sortI l).Pairwise (· ≤ ·) := by
 induction l with
 | nil => exact List.Pairwise.nil
 | cons x l ih => exact insI_sorted x _ ih
theorem sortI_len (l : List Int) : (sortI l).length = l.length := (sortI_perm l).length_eq
theorem nodes_each {l : List Int} (h : nodesB l = true) : ∀ x ∈ l, 1 ≤ x ∧ x ≤ 5 := fun x hx => by
 obtain ⟨j, hj, rfl⟩ := List.mem_iff_getElem.1 hx
 have := (nodesB_iff.1 h).2 j hj
 unfold nodeB at this
 rw [List.getD_eq_getElem?_getD, List.getElem?_eq_getElem hj] at this
 simp only [Option.getD_some, Bool.and_eq_true, decide_eq_true_eq] at this
 exact ⟨this.1, this.2.1⟩
theorem nodes_up {l : List Int} (h : nodesB l = true) : ∀ (j : Nat) (hj : j < l.length), (j : Int) < l[j] := by
 intro j
 induction j with
 | zero => intro hj; have := (nodes_each h) _ (List.getElem_mem hj); omega
 | succ j ih =>
  intro hj
  have h1 := ih (by omega)
  have := (nodesB_iff.1 h).2 (j + 1) hj
  unfold nodeB at this
  rw [List.getD_eq_getElem?_getD, List.getElem?_eq_getElem hj, List.getD_eq_getElem?_getD, List.getElem?_eq_getElem (show j + 1 - 1 < l.length by omega)] at this
  simp only [Option.getD_some, Bool.and_eq_true, decide_eq_true_eq, Bool.or_eq_true] at this
  obtain ⟨-, -, h2 | h2⟩ := this
  ·omega
  ·simp only [Nat.add_sub_cancel] at h2
   omega
theorem nodes_len {l : List Int} (h : nodesB l = true) : 0 < l.length ∧ l.length ≤ 5 := by
 have h0 := (nodesB_iff.1 h).1
 have h1 := nodes_up h (l.length - 1) (by omega)
 have h2 := (nodes_each h) _ (List.getElem_mem (show l.length - 1 < l.length by omega))
 exact ⟨h0, by omega⟩
theorem ringB_num {e : Int} {l : List Int} (h : ringB e l = true) : 1 ≤ e ∧ e ≤ 1099511627776 := by
 unfold ringB at h
 simp only [Bool.and_eq_true, decide_eq_true_eq] at h
 exact ⟨h.1, h.2.1⟩
structure ChS where
 num : Int
 to_ : List Int
 all : List Int
 lost : Int
 nodes : List Int
 phase : Int
 lacks : List Int
structure CtS where
 epoch : Int
 mem : List Int
 top : Int
 und : Option ChS
 over : Nat → Int
structure ChS.Ok (h : ChS) (e t : Int) : Prop where
 ring : ringB h.num h.to_ = true
 lo : e < h.num
 hi : h.num ≤ t
 al : nodesB h.all = true
 l0 : 0 ≤ h.lost
 l5 : h.lost ≤ 5
 nd : ∀ x ∈ h.nodes, x ∈ h.all
 nl : h.nodes.length ≤ 5
 ll : h.lacks.length ≤ 5
 p0 : 0 ≤ h.phase
 p2 : h.phase ≤ 2
structure CtS.Ok (S : CtS) : Prop where
 ring : ringB S.epoch S.mem = true
 lo : S.epoch ≤ S.top
 hi : S.top ≤ 1099511627776
 und : ∀ h, S.und = some h → h.Ok S.epoch S.top
def CtS.underZ (S : CtS) : Int := match S.und with
 | none => 0
 | some h => h.num
def setO (f : Nat → Int) (i : Nat) (v : Int) : Nat → Int := fun j => if j = i then v else f j
def encC (e t : Int) (l : List Int) : List UInt8 := putsZ (e :: t :: l)
theorem putZ_six (n : Int) (h0 : 0 ≤ n) (h : n ≤ 1099511627776) : (putZ n).length ≤ 6 := by
 unfold putZ
 refine vin_len 5 _ ?_
 unfold zig
 split <;> simp only [Nat.reducePow, Nat.reduceAdd] <;> omega
theorem putZ_one (n : Int) (h0 : 0 ≤ n) (h : n ≤ 60) : (putZ n).length ≤ 1 := by
 unfold putZ
 refine vin_len 0 _ ?_
 unfold zig
 split <;> simp only [Nat.reducePow, Nat.reduceAdd] <;> omega
theorem putsZ_ones (l : List Int) (h : ∀ x ∈ l, 1 ≤ x ∧ x ≤ 5) : (putsZ l).length ≤ l.length := by
 induction l with
 | nil => exact Nat.le_refl _
 | cons x l ih =>
  have h1 := putZ_one x (by have := h x (by simp); omega) (by have := h x (by simp); omega)
  have h2 := ih fun y hy => h y (by simp [hy])
  have e : putsZ (x :: l) = putZ x ++ putsZ l := rfl
  rw [e, List.length_append, List.length_cons]
  omega
theorem encC_len {e t : Int} {l : List Int} (he : 0 ≤ e ∧ e ≤ 1099511627776) (ht : 0 ≤ t ∧ t ≤ 1099511627776) (hl : nodesB l = true) : (encC e t l).length ≤ 40 := by
 have h1 := putZ_six e he.1 he.2
 have h2 := putZ_six t ht.1 ht.2
 have h3 := putsZ_ones l (nodes_each hl)
 have h4 := (nodes_len hl).2
 have e : encC e t l = putZ e ++ (putZ t ++ putsZ l) := rfl
 rw [e, List.length_append, List.length_append]
 omega
def abortM (n num : Int) : Ms := ⟨12, 0, n, num, 0, 0, 0, 0, 0, ⟨#[]⟩, 0, false, it0, [], [], [], 0, []⟩
def tellM (k n e t : Int) (l : List Int) : Ms := ⟨k, 0, n, e, t, 0, 0, 0, 0, ⟨#[]⟩, 0, false, it0, [], [], l, 0, []⟩
def askM (k n : Int) (h : ChS) (e : Int) (l : List Int) : Ms := ⟨k, 0, n, h.num, 0, 0, 0, 0, 0, ⟨#[]⟩, 0, false, it0, [], [], h.to_, e, l⟩
def CtS.asks (S : CtS) (k : Int) (h : ChS) : List Ms := h.nodes.map fun n => askM k n h S.epoch S.mem
def ChS.commits (h : ChS) : List Ms := h.all.map fun n => tellM 11 n h.num 0 h.to_
def CtS.commit (S : CtS) (h : ChS) : CtS := ⟨h.num, h.to_, S.top, none, S.over⟩
def beatC (S : CtS) (now : Int) : List Ms × CtS := match S.und with
 | none => ([], S)
 | some h => if h.phase = 0 then (S.asks 3 h, S) else if h.phase = 1 then (S.asks 7 h, S) else if now < S.over h.lost.toNat then ([], S) else (h.commits, S.commit h)
def hearsB (u : Option ChS) (m : Ms) : Bool := match u with
 | none => false
 | some h => (m.epoch == h.num) && (if h.phase = 0 then (m.kind == 4) && m.last else if h.phase = 1 then m.kind == 10 else false)
def ChS.done (h : ChS) (n : Int) : ChS × Bool :=
 if 0 < (wo h.lacks n).length then (⟨h.num, h.to_, h.all, h.lost, h.nodes, h.phase, wo h.lacks n⟩, false) else (⟨h.num, h.to_, h.all, h.lost, h.nodes, h.phase + 1, h.nodes⟩, true)
def noteC (S : CtS) (now : Int) (m : Ms) : List Ms × CtS := match S.und with
 | none => ([], S)
 | some h => if hearsB (some h) m then
   let S' : CtS := ⟨S.epoch, S.mem, S.top, some (h.done m.frm).1, S.over⟩
   if (h.done m.frm).2 then beatC S' now else ([], S')
  else ([], S)
def losesB (u : Option ChS) (n : Int) : Bool := match u with
 | none => false
 | some h => h.lost == n
def renewC (S : CtS) (now : Int) (m : Ms) : List Ms × CtS :=
 let ab := if S.epoch < m.seq ∧ m.seq ≠ S.underZ then [abortM m.frm m.seq] else []
 if hasN S.mem m.frm && !(losesB S.und m.frm) then (ab ++ [tellM 2 m.frm S.epoch m.tick S.mem], ⟨S.epoch, S.mem, S.top, S.und, setO S.over m.frm.toNat (now + 40)⟩)
 else if m.epoch < S.epoch then (ab ++ [tellM 11 m.frm S.epoch 0 S.mem], S) else (ab, S)
def stepC (S : CtS) (now : Int) (m : Ms) : List Ms × CtS :=
 if m.to_ = 0 ∧ mayM m = true then (if m.kind = 1 then renewC S now m else if m.kind = 4 ∨ m.kind = 10 then noteC S now m else ([], S)) else ([], S)
def begC (S : CtS) (all mem : List Int) (lost : Int) : CtS := ⟨S.epoch, S.mem, S.top + 1, some ⟨S.top + 1, mem, all, lost, wo all lost, 0, wo all lost⟩, S.over⟩
def begB (S : CtS) (mem : List Int) : Bool := ringB (S.top + 1) mem && !(decide (mem = S.mem))
theorem CtS.Ok.len {S : CtS} (h : S.Ok) : 0 < S.mem.length ∧ S.mem.length ≤ 5 := nodes_len (ring_nodes h.ring)
theorem CtS.Ok.enc {S : CtS} (h : S.Ok) : (encC S.epoch S.top S.mem).length ≤ 40 := by
 have := ringB_num h.ring
 have h1 := h.lo
 have h2 := h.hi
 exact encC_len ⟨by omega, by omega⟩ ⟨by omega, by omega⟩ (ring_nodes h.ring)
theorem done_ok {S : CtS} {h : ChS} {m : Ms} (hS : S.Ok) (hu : S.und = some h) (hh : hearsB (some h) m = true) : (⟨S.epoch, S.mem, S.top, some (h.done m.frm).1, S.over⟩ : CtS).Ok := by
 have ho := hS.und h hu
 refine ⟨hS.ring, hS.lo, hS.hi, fun g e => ?_⟩
 cases e
 unfold ChS.done
 split
 ·exact ⟨ho.ring, ho.lo, ho.hi, ho.al, ho.l0, ho.l5, ho.nd, ho.nl, Nat.le_trans (wo_len _ _) ho.ll, ho.p0, ho.p2⟩
 ·refine ⟨ho.ring, ho.lo, ho.hi, ho.al, ho.l0, ho.l5, ho.nd, ho.nl, ho.nl, by have := ho.p0; show 0 ≤ h.phase + 1; omega, ?_⟩
  show h.phase + 1 ≤ 2
  have h0 := ho.p0
  have h2 := ho.p2
  by_cases hp : h.phase = 2
  ·simp [hearsB, hp] at hh
  ·omega
theorem over_ok {S : CtS} (hS : S.Ok) (f : Nat → Int) : (⟨S.epoch, S.mem, S.top, S.und, f⟩ : CtS).Ok := ⟨hS.ring, hS.lo, hS.hi, hS.und⟩
theorem back_ok {S : CtS} (hS : S.Ok) : (⟨S.epoch, S.mem, S.top, none, S.over⟩ : CtS).Ok := ⟨hS.ring, hS.lo, hS.hi, fun _ e => by cases e⟩
theorem beg_ok {S : CtS} {all mem : List Int} {lost : Int} (hS : S.Ok) (hb : begB S mem = true) (ha : nodesB all = true) (h0 : 0 ≤ lost) (h5 : lost ≤ 5) : (begC S all mem lost).Ok := by
 unfold begB at hb
 rw [Bool.and_eq_true] at hb
 have hr := ringB_num hb.1
 have hl := (nodes_len ha).2
 have h1 := hS.lo
 refine ⟨hS.ring, by show S.epoch ≤ S.top + 1; omega, hr.2, fun g e => ?_⟩
 cases e
 exact ⟨hb.1, by show S.epoch < S.top + 1; omega, Int.le_refl _, ha, h0, h5, fun x hx => (wo_mem.1 hx).1, Nat.le_trans (wo_len _ _) hl, Nat.le_trans (wo_len _ _) hl, Int.le_refl _, by show (0 : Int) ≤ 2; decide⟩
end Go.Proofs.YtemkjodkmehffaaGreatDoor
namespace Go.Proofs.YtemkjodkmehffaaGreatDoor
open Go Go.RowKit Go.Joins Go.Sort
set_option maxRecDepth 100000 in
set_option maxHeartbeats 1000000 in
theorem iown_some (ad : Addr) (c : Nat) (F : Nat → Prop) (l : List Int) (w : World) (h : Row w (some ad) F (l.map (Value.int .i64))) (hl : l.length ≤ 1099511627776) :
  Calls Tryz.prog 50 #[.slice (some ad) l.length c] w fun e w' => ∃ v, e = .returned v ∧ w'.ownsRow w.heap.size 3 1 v l.length (l.map (Value.int .i64)) ∧ Kp w w' := by
 have hn := fun w : World => Lib.run_eql_slice_nil (P := Tryz.prog) w 48 3 (some ad) l.length c 0 0 Tryz.underlying48
 have h0 : (w.alloc (.cells #[] 3)).ownsRow w.heap.size 3 1 (.slice (some ⟨w.heap.size, 0, none⟩) 0 0) 0 [] := World.ownsRow_made w #[] 0 (Nat.le_refl _) (by decide) rfl
 have hsrc : Src Tryz.prog 1 48 (.slice (some ad) l.length c) l.length (l.map (Value.int .i64)) (w.alloc (.cells #[] 3)) := by
  have := (h.keep ((Keeps.refl F w).alloc (.cells #[] 3))).src (c := c) Tryz.underlying48 (fun u hu => by obtain ⟨x, _, rfl⟩ := List.mem_map.1 hu; rfl)
  rwa [List.length_map] at this
 have H0 := Lib.hid h0
 have HS := Lib.hid hsrc
 obtain ⟨m, hm⟩ : ∃ m, l.length = m := ⟨_, rfl⟩
 have HM := Lib.hid hm
 rw [hm] at hl HS hn ⊢
 clear h h0 hsrc hm
 go_enter Tryz.func50, Tryz.ntmps50
 go_wp2_with (at_builtin; refine int_elem.list_append rfl (.tmp 5) (.tmp 6) _ rfl rfl H0.out rfl HS.out ?c3 ?c4 ?c5 ?_)
 case c3 => unfold maxLen; omega
 case c4 => omega
 ·simp
 intro v' w1 hown' hg hb
 have hk : Kp w w1 := by
  exact ((Onto.refl _ _).grown hg (by simpa using hb)).keeps ((Keeps.refl _ w).alloc _) (by simp [Value.ownBlock])
 have ho : w1.ownsRow w.heap.size 3 1 v' m (l.map (Value.int .i64)) := by simpa using hown'
 have H1 := Lib.hid ho
 have H2 := Lib.hid hk
 clear ho hk hown' hg hb
 go_wp2_with fail
 go_ret
 exact ⟨v', rfl, H1.out, H2.out⟩
theorem iown_any (A : Option Addr) (c : Nat) (F : Nat → Prop) (l : List Int) (w : World) (h : Row w A F (l.map (Value.int .i64))) (hl : l.length ≤ 1099511627776) (n : Nat) (hn : n = l.length) :
  Calls Tryz.prog 50 #[.slice A n c] w fun e w' => ∃ v, e = .returned v ∧ w'.ownsRow w.heap.size 3 1 v l.length (l.map (Value.int .i64)) ∧ Kp w w' := by
 subst hn
 rcases A with _ | ad
 ·have hx : l = [] := Classical.byContradiction fun hx => by
   obtain ⟨b, o, e, _⟩ := h (by simpa using hx)
   cases e
  subst hx
  refine (iclone_nil c w).mono ?_
  rintro e w' ⟨rfl, rfl⟩
  exact ⟨_, rfl, World.ownsRow_nil w w.heap.size 3 1, Keeps.refl _ _⟩
 ·exact iown_some ad c F l w h hl
theorem iholds_own {w : World} {base g c : Nat} {e : TypeId} {l : List Int} (h : w.ownsRow base e 1 (.slice (some ⟨g, 0, none⟩) l.length c) l.length (l.map (Value.int .i64))) : Holds (Value.int .i64) w g 0 l.toArray := by
 intro j hj
 have hj' : j < l.length := by simpa using hj
 refine ⟨?_, ?_⟩
 ·have h1 := h.cells (g := g) rfl j (.int .i64 l[j]) (by rw [List.getElem?_map, List.getElem?_eq_getElem hj']; rfl)
  rw [WideShapes.add_plain] at h1
  rw [h1, getElem!_pos l.toArray j (by simpa using hj')]
  simp
 ·have := h.frozenAt (0 + j)
  exact this
theorem row_holds {w : World} {g : Nat} {d : Array Int} {l : List Int} (h : Holds (Value.int .i64) w g 0 d) (hl : l.length ≤ d.size) (he : ∀ (j : Nat) (hj : j < l.length), d[j]! = l[j]) : Row w (some ⟨g, 0, none⟩) (fun b => b = g) (l.map (Value.int .i64)) := by
 intro _
 refine ⟨g, 0, rfl, rfl, fun j v hv => ?_⟩
 have hj : j < l.length := by
  have := (List.getElem?_eq_some_iff.1 hv).1
  simpa using this
 rw [List.getElem?_map, List.getElem?_eq_getElem hj] at hv
 injection hv with hv
 rw [← hv, (h j (by omega)).1, he j hj]
theorem put_keeps (w : World) (n g : Nat) (d : Array Int) (os : Array Obj) : Keeps (fun b => b ≠ g) w (grow (putRow (Value.int .i64) (Sort.ahead w n) g 0 d) os) := by
 have hs : (putRow (Value.int .i64) (Sort.ahead w n) g 0 d).heap.size = w.heap.size := Go.Sort.size_putRow _ _ _ _ _
 refine ⟨rfl, rfl, rfl, ?_, fun b hF hb => ?_⟩
 ·show w.heap.size ≤ ((putRow (Value.int .i64) (Sort.ahead w n) g 0 d).heap ++ os).size
  rw [Array.size_append]; omega
 ·rw [Go.Sort.heap_grow_old _ _ (by rw [hs]; exact hb)]
  unfold Go.Sort.putRow Go.Sort.mapBlock
  simp [Array.getElem?_modify, Ne.symm hF]
theorem put_keeps0 (w : World) (n g : Nat) (d : Array Int) : Keeps (fun b => b ≠ g) w (putRow (Value.int .i64) (Sort.ahead w n) g 0 d) := by
 have h := put_keeps w n g d #[]
 rwa [grow_empty] at h
theorem merge_sortI (l : List Int) : (l.mergeSort fun x y => decide (x ≤ y)) = sortI l := by
 have h1 : (l.mergeSort leI) = (sortI l).mergeSort leI := mergeSort_of_perm_i (sortI_perm l).symm
 have h2 : (sortI l).mergeSort leI = sortI l := sorted_self _ (sortI_sorted l)
 exact h1.trans h2
theorem isort_own (w : World) (base g c : Nat) (e : TypeId) (l : List Int) (ho : w.ownsRow base e 1 (.slice (some ⟨g, 0, none⟩) l.length c) l.length (l.map (Value.int .i64))) (hl : l.length ≤ 1000) :
  Calls Tryz.prog 44 #[.slice (some ⟨g, 0, none⟩) l.length c] w fun e w' => e = .returned (.tuple #[]) ∧ Row w' (some ⟨g, 0, none⟩) (fun b => b = g) ((sortI l).map (Value.int .i64)) ∧ Keeps (fun b => b ≠ g) w w' := by
 have hb : g < w.heap.size := (ho.lt g rfl).2
 have h := AnyM.slices_Sort_int Tryz.sortA g 0 c l w (iholds_own ho) hb (by omega)
 rw [merge_sortI] at h
 refine (show Calls Tryz.prog 44 _ w _ from h).mono ?_
 rintro e w' ⟨rfl, n, os, rfl⟩
 refine ⟨rfl, ?_, put_keeps w n g _ os⟩
 have hH : Holds (Value.int .i64) (putRow (Value.int .i64) (Sort.ahead w n) g 0 (sortI l).toArray) g 0 (sortI l).toArray :=
  holds_putRow _ _ g 0 l.toArray _ (holds_ahead _ w n g 0 _ (iholds_own ho)) (by simp [sortI_len])
 have hR : Row (putRow (Value.int .i64) (Sort.ahead w n) g 0 (sortI l).toArray) (some ⟨g, 0, none⟩) (fun b => b = g) ((sortI l).map (Value.int .i64)) :=
  row_holds hH (by simp) (fun j hj => by rw [getElem!_pos _ j (by simpa using hj)]; simp)
 have hs : (putRow (Value.int .i64) (Sort.ahead w n) g 0 (sortI l).toArray).heap.size = w.heap.size := Go.Sort.size_putRow _ _ _ _ _
 refine hR.keep (F := fun b => b = g) ⟨rfl, rfl, rfl, ?_, fun b hF hb2 => Go.Sort.heap_grow_old _ _ hb2⟩
 show (putRow (Value.int .i64) (Sort.ahead w n) g 0 (sortI l).toArray).heap.size ≤ ((putRow (Value.int .i64) (Sort.ahead w n) g 0 (sortI l).toArray).heap ++ os).size
 rw [Array.size_append]; omega
theorem without_is (n x : Int) (B : Nat) (W : World) (hc : W.cell? ⟨B, 0, none⟩ = some (.int .i64 n)) :
  FnGives Tryz.prog 75 #[.pointer (some ⟨B, 0, none⟩)] #[.int .i64 x] (.bool (x == n)) W := by
 show Calls Tryz.prog 75 #[.int .i64 x, .pointer (some ⟨B, 0, none⟩)] W _
 go_enter Tryz.func75, Tryz.ntmps75
 go_wp2_with fail
 go_ret
 exact ⟨rfl, 0, rfl⟩
theorem ifunc_empty (w : World) (A : Option Addr) (c : Nat) (v : Value) : Calls Tryz.prog 93 #[.slice A 0 c, v] w fun e w' => e = .returned (.int .i64 (-1)) ∧ w = w' := by
 go_enter Tryz.func93, Tryz.ntmps93
 go_wp2_with fail
 go_loopw [8] (fun i wr => i = .int .i64 0 ∧ w = wr) (fun _ _ => 0)
 case atStart => exact ⟨rfl, rfl⟩
 case round =>
  obtain ⟨rfl, rfl⟩ := hrel
  go_wp2_with fail
  go_ret
  exact ⟨rfl, rfl⟩
theorem dfunc_empty (w : World) (A : Option Addr) (c : Nat) (v : Value) : Calls Tryz.prog 74 #[.slice A 0 c, v] w fun e w' => e = .returned (.slice A 0 c) ∧ w = w' := by
 have HI := fun w => ifunc_empty w A c v
 go_enter Tryz.func74, Tryz.ntmps74
 go_wp2_with fail
 refine (HI _).mono ?_
 rintro e w1 ⟨rfl, rfl⟩
 go_wp2_with fail
 go_ret
 exact ⟨rfl, rfl⟩
theorem dfunc_own (w : World) (base g c B : Nat) (e : TypeId) (l : List Int) (n : Int) (ho : w.ownsRow base e 1 (.slice (some ⟨g, 0, none⟩) l.length c) l.length (l.map (Value.int .i64))) (hl : l.length ≤ 1000) (hB : B < w.heap.size) (hne : B ≠ g) (hc : w.cell? ⟨B, 0, none⟩ = some (.int .i64 n)) :
  Calls Tryz.prog 74 #[.slice (some ⟨g, 0, none⟩) l.length c, .func (.func 75) #[] #[.pointer (some ⟨B, 0, none⟩)]] w fun e w' => e = .returned (.slice (some ⟨g, 0, none⟩) (wo l n).length c) ∧ Row w' (some ⟨g, 0, none⟩) (fun b => b = g) ((wo l n).map (Value.int .i64)) ∧ Keeps (fun b => b ≠ g) w w' := by
 have hb : g < w.heap.size := (ho.lt g rfl).2
 have hH := iholds_own ho
 have hp : PredAt Tryz.prog 75 #[.pointer (some ⟨B, 0, none⟩)] (Value.int .i64) (fun x => x == n) w := fun W x hb => without_is n x B W ((hb.cell (p := ⟨B, 0, none⟩) hB).trans hc)
 have hpo : PredOver Tryz.prog 75 #[.pointer (some ⟨B, 0, none⟩)] (Value.int .i64) (fun x => x == n) g 0 l.toArray.size w := fun m os dk x _ => without_is n x B _ (by
  unfold sortWorld
  rw [cell?_grow _ _ _ (by show B < (putRow _ _ _ _ _).heap.size; rw [Go.Sort.size_putRow]; exact hB), cell?_putRow_other _ _ g 0 _ _ (Or.inl hne)]
  exact hc)
 have h := AnyE.slices_DeleteFunc Tryz.delF (Value.int .i64) (fun _ => rfl) (fun x => x == n) 75 #[.pointer (some ⟨B, 0, none⟩)] (enters_of Tryz.func75 (by kernel_rfl) rfl) 0 Tryz.zeroValue3 g 0 c l.toArray w hp hpo hH (by simp; omega) (by simpa using (own_room ho).1)
 refine (show Calls Tryz.prog 74 #[.slice (some ⟨g, 0, none⟩) l.length c, .func (.func 75) #[] #[.pointer (some ⟨B, 0, none⟩)]] w _ from by have h' := h; simp only [List.size_toArray] at h'; exact h').mono ?_
 rintro e w' ⟨rfl, q, rfl⟩
 have hwl : (wo l n).length ≤ l.length := wo_len l n
 refine ⟨rfl, ?_, put_keeps0 w q g _⟩
 refine row_holds (holds_putRow _ _ g 0 l.toArray _ (holds_ahead _ w q g 0 _ hH) ?_) ?_ ?_
 ·show (wo l n ++ List.replicate _ _).toArray.size = l.toArray.size
  simp [wo] at hwl ⊢
  omega
 ·show (wo l n).length ≤ (wo l n ++ List.replicate _ _).toArray.size
  simp
 ·intro j hj
  show (wo l n ++ List.replicate _ _).toArray[j]! = _
  rw [getElem!_pos _ j (by simp; omega)]
  simp [List.getElem_append_left hj]
set_option maxRecDepth 100000 in
set_option maxHeartbeats 1000000 in
theorem without_any (w : World) (A : Option Addr) (c : Nat) (F : Nat → Prop) (l : List Int) (n : Int) (hr : Row w A F (l.map (Value.int .i64))) (hl : l.length ≤ 1000) (m : Nat) (hm : m = l.length) :
  Calls Tryz.prog 39 #[.slice A m c, .int .i64 n] w fun e w' => ∃ B cb, e = .returned (.slice B (wo l n).length cb) ∧ Row w' B (fun b => w.heap.size ≤ b ∧ b < w'.heap.size) ((wo l n).map (Value.int .i64)) ∧ (wo l n).length ≤ cb ∧ cb ≤ maxLen ∧ Kp w w' := by
 have hk1 : Kp w (w.alloc (.cells #[.int .i64 n] 3)) := (Keeps.refl _ w).alloc _
 have hs1 : (w.alloc (.cells #[.int .i64 n] 3)).heap.size = w.heap.size + 1 := by simp
 have hc1 : (w.alloc (.cells #[.int .i64 n] 3)).cell? ⟨w.heap.size, 0, none⟩ = some (.int .i64 n) := cell_one_new w _ _ 0 _ rfl
 have HCL := Lib.hid (iown_any A c F l _ (hr.keep (hk1.mono fun _ _ _ => trivial)) (by omega) m hm)
 have HK1 := Lib.hid hk1
 have HS1 := Lib.hid hs1
 have HC1 := Lib.hid hc1
 have HD := Lib.hid (show ∀ (w1 : World) (v : Value), w1.ownsRow (w.heap.size + 1) 3 1 v l.length (l.map (Value.int .i64)) → w1.cell? ⟨w.heap.size, 0, none⟩ = some (.int .i64 n) → Kp w w1 →
   Calls Tryz.prog 74 #[v, .func (.func 75) #[] #[.pointer (some ⟨w.heap.size, 0, none⟩)]] w1 fun e w' => ∃ B cb, e = .returned (.slice B (wo l n).length cb) ∧ Row w' B (fun b => w.heap.size ≤ b ∧ b < w'.heap.size) ((wo l n).map (Value.int .i64)) ∧ (wo l n).length ≤ cb ∧ cb ≤ maxLen ∧ Kp w w' from by
  intro w1 v ho hc hk
  obtain ⟨B, cb, rfl, -, hrow⟩ := own_slice ho
  by_cases h0 : l.length = 0
  ·have hl0 : l = [] := List.eq_nil_of_length_eq_zero h0
   subst hl0
   refine (dfunc_empty w1 B cb _).mono ?_
   rintro e w' ⟨rfl, rfl⟩
   exact ⟨B, cb, rfl, Row.nil _ _ _, Nat.zero_le _, (own_cap ho).2.1, hk⟩
  ·obtain ⟨g, cap, e, hb, hlt⟩ := ho.form (by omega)
   injection e with e1 e2 e3
   subst e1
   have hcap := own_room ho
   refine (dfunc_own w1 _ g cb w.heap.size _ l n ho hl (World.block_lt_of_cell? w1 _ hc) (by omega) hc).mono ?_
   rintro e w' ⟨rfl, h1, h2⟩
   have hkw : Kp w w' := ((hk.mono fun _ _ _ => trivial : Keeps (fun b => b ≠ g) w w1).trans h2).mono fun b hb2 _ => by omega
   refine ⟨_, cb, rfl, h1.lt.mono fun b _ hb2 => ⟨by have := hb2.1; omega, hb2.2⟩, Nat.le_trans (wo_len l n) hcap.1, hcap.2, hkw⟩)
 clear hk1 hs1 hc1 hr hm
 go_enter Tryz.func39, Tryz.ntmps39
 go_wp2_with fail
 refine (show Calls _ _ _ _ _ from HCL.out).mono ?_
 rintro e w1 ⟨v, rfl, ho, hk⟩
 have HD1 := Lib.hid (HD.out w1 v (by rw [HS1.out] at ho; exact ho) (hk.cell HC1.out trivial) (HK1.out.trans hk))
 clear ho hk HD HCL HC1 HS1
 go_wp2_with fail
 refine (show Calls _ _ _ _ _ from HD1.out).mono ?_
 rintro e w2 ⟨B, cb, rfl, h1, h2, h3, h4⟩
 have H1 := Lib.hid h1
 have H2 := Lib.hid (And.intro h2 h3)
 have H4 := Lib.hid h4
 clear h1 h2 h3 h4 HD1
 go_wp2_with fail
 go_ret
 exact ⟨B, cb, rfl, H1.out, H2.out.1, H2.out.2, H4.out⟩
end Go.Proofs.YtemkjodkmehffaaGreatDoor
