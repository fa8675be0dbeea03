/-
  CtMath: texts of mine, joined.
-/
import Derived.Test.YtemkjodkmehffaaGreatDoorAllA06
import Derived.Test.YtemkjodkmehffaaGreatDoorAllA08
namespace Go.Proofs.YtemkjodkmehffaaGreatDoor
open Go Go.RowKit Go.Joins
def wo (l : List Int) (n : Int) : List Int := l.filter fun x => !(x == n)
def insI (x : Int) : List Int → List Int
 | [] => [x]
 | y :: l => if x ≤ y then x :: y :: l else y :: insI x l
def sortI : List Int → List Int
 | [] => []
 | x :: l => insI x (sortI l)
theorem wo_len (l : List Int) (n : Int) : (wo l n).length ≤ l.length := List.length_filter_le _ _
theorem wo_mem {l : List Int} {n x : Int} : x ∈ wo l n ↔ x ∈ l ∧ x ≠ n := by simp [wo]
theorem insI_perm (x : Int) (l : List Int) : (insI x l).Perm (x :: l) := by
 induction l with
 | nil => exact List.Perm.refl _
 | cons y l ih =>
  unfold insI
  split
  ·exact List.Perm.refl _
  ·exact (ih.cons y).trans (List.Perm.swap x y l)
theorem sortI_perm (l : List Int) : (sortI l).Perm l := by
 induction l with
 | nil => exact List.Perm.refl _
 | cons x l ih => exact (insI_perm x (sortI l)).trans (ih.cons x)
theorem insI_sorted (x : Int) (l : List Int) (h : l.Pairwise (· ≤ ·)) : (insI x l).Pairwise (· ≤ ·) := by
 induction l with
 | nil => exact List.pairwise_singleton _ _
 | cons y l ih =>
  unfold insI
  split
  ·rename_i hxy
   refine List.pairwise_cons.2 ⟨fun z hz => ?_, h⟩
   rcases List.mem_cons.1 hz with rfl | hz
   ·exact hxy
   ·exact Int.le_trans hxy ((List.pairwise_cons.1 h).1 z hz)
  ·rename_i hxy
   refine List.pairwise_cons.2 ⟨fun z hz => ?_, ih (List.pairwise_cons.1 h).2⟩
   rcases List.mem_cons.1 ((insI_perm x l).mem_iff.1 hz) with rfl | hz
   ·omega
   ·exact (List.pairwise_cons.1 h).1 z hz
theorem sortI_sorted (l : List Int) : (sortI l).Pairwise (· ≤ ·) := by
 induction l with
 | nil => exact List.Pairwise.nil
 | cons x l ih => exact insI_sorted x _ ih
theorem sortI_len (l : List Int) : (sortI l).length = l.length := (sortI_perm l).length_eq
theorem nodes_each {l : List Int} (h : nodesB l = true) : ∀ x ∈ l, 1 ≤ x ∧ x ≤ 5 := fun x hx => by
 obtain ⟨j, hj, rfl⟩ := List.mem_iff_getElem.1 hx
 have := (nodesB_iff.1 h).2 j hj
 unfold nodeB at this
 rw [List.getD_eq_getElem?_getD, List.getElem?_eq_getElem hj] at this
 simp only [Option.getD_some, Bool.and_eq_true, decide_eq_true_eq] at this
 exact ⟨this.1, this.2.1⟩
theorem nodes_up {l : List Int} (h : nodesB l = true) : ∀ (j : Nat) (hj : j < l.length), (j : Int) < l[j] := by
 intro j
 induction j with
 | zero => intro hj; have := (nodes_each h) _ (List.getElem_mem hj); omega
 | succ j ih =>
  intro hj
  have h1 := ih (by omega)
  have := (nodesB_iff.1 h).2 (j + 1) hj
  unfold nodeB at this
  rw [List.getD_eq_getElem?_getD, List.getElem?_eq_getElem hj, List.getD_eq_getElem?_getD, List.getElem?_eq_getElem (show j + 1 - 1 < l.length by omega)] at this
  simp only [Option.getD_some, Bool.and_eq_true, decide_eq_true_eq, Bool.or_eq_true] at this
  obtain ⟨-, -, h2 | h2⟩ := this
  ·omega
  ·simp only [Nat.add_sub_cancel] at h2
   omega
theorem nodes_len {l : List Int} (h : nodesB l = true) : 0 < l.length ∧ l.length ≤ 5 := by
 have h0 := (nodesB_iff.1 h).1
 have h1 := nodes_up h (l.length - 1) (by omega)
 have h2 := (nodes_each h) _ (List.getElem_mem (show l.length - 1 < l.length by omega))
 exact ⟨h0, by omega⟩
theorem ringB_num {e : Int} {l : List Int} (h : ringB e l = true) : 1 ≤ e ∧ e ≤ 1099511627776 := by
 unfold ringB at h
 simp only [Bool.and_eq_true, decide_eq_true_eq] at h
 exact ⟨h.1, h.2.1⟩
structure ChS where
 num : Int
 to_ : List Int
 all : List Int
 lost : Int
 nodes : List Int
 phase : Int
 lacks : List Int
structure CtS where
 epoch : Int
 mem : List Int
 top : Int
 und : Option ChS
 over : Nat → Int
structure ChS.Ok (h : ChS) (e t : Int) : Prop where
 ring : ringB h.num h.to_ = true
 lo : e < h.num
 hi : h.num ≤ t
 al : nodesB h.all = true
 l0 : 0 ≤ h.lost
 l5 : h.lost ≤ 5
 nd : ∀ x ∈ h.nodes, x ∈ h.all
 nl : h.nodes.length ≤ 5
 ll : h.lacks.length ≤ 5
 p0 : 0 ≤ h.phase
 p2 : h.phase ≤ 2
structure CtS.Ok (S : CtS) : Prop where
 ring : ringB S.epoch S.mem = true
 lo : S.epoch ≤ S.top
 hi : S.top ≤ 1099511627776
 und : ∀ h, S.und = some h → h.Ok S.epoch S.top
def CtS.underZ (S : CtS) : Int := match S.und with
 | none => 0
 | some h => h.num
def setO (f : Nat → Int) (i : Nat) (v : Int) : Nat → Int := fun j => if j = i then v else f j
def encC (e t : Int) (l : List Int) : List UInt8 := putsZ (e :: t :: l)
theorem putZ_six (n : Int) (h0 : 0 ≤ n) (h : n ≤ 1099511627776) : (putZ n).length ≤ 6 := by
 unfold putZ
 refine vin_len 5 _ ?_
 unfold zig
 split <;> simp only [Nat.reducePow, Nat.reduceAdd] <;> omega
theorem putZ_one (n : Int) (h0 : 0 ≤ n) (h : n ≤ 60) : (putZ n).length ≤ 1 := by
 unfold putZ
 refine vin_len 0 _ ?_
 unfold zig
 split <;> simp only [Nat.reducePow, Nat.reduceAdd] <;> omega
theorem putsZ_ones (l : List Int) (h : ∀ x ∈ l, 1 ≤ x ∧ x ≤ 5) : (putsZ l).length ≤ l.length := by
 induction l with
 | nil => exact Nat.le_refl _
 | cons x l ih =>
  have h1 := putZ_one x (by have := h x (by simp); omega) (by have := h x (by simp); omega)
  have h2 := ih fun y hy => h y (by simp [hy])
  have e : putsZ (x :: l) = putZ x ++ putsZ l := rfl
  rw [e, List.length_append, List.length_cons]
  omega
theorem encC_len {e t : Int} {l : List Int} (he : 0 ≤ e ∧ e ≤ 1099511627776) (ht : 0 ≤ t ∧ t ≤ 1099511627776) (hl : nodesB l = true) : (encC e t l).length ≤ 40 := by
 have h1 := putZ_six e he.1 he.2
 have h2 := putZ_six t ht.1 ht.2
 have h3 := putsZ_ones l (nodes_each hl)
 have h4 := (nodes_len hl).2
 have e : encC e t l = putZ e ++ (putZ t ++ putsZ l) := rfl
 rw [e, List.length_append, List.length_append]
 omega
def abortM (n num : Int) : Ms := ⟨12, 0, n, num, 0, 0, 0, 0, 0, ⟨#[]⟩, 0, false, it0, [], [], [], 0, []⟩
def tellM (k n e t : Int) (l : List Int) : Ms := ⟨k, 0, n, e, t, 0, 0, 0, 0, ⟨#[]⟩, 0, false, it0, [], [], l, 0, []⟩
def askM (k n : Int) (h : ChS) (e : Int) (l : List Int) : Ms := ⟨k, 0, n, h.num, 0, 0, 0, 0, 0, ⟨#[]⟩, 0, false, it0, [], [], h.to_, e, l⟩
def CtS.asks (S : CtS) (k : Int) (h : ChS) : List Ms := h.nodes.map fun n => askM k n h S.epoch S.mem
def ChS.commits (h : ChS) : List Ms := h.all.map fun n => tellM 11 n h.num 0 h.to_
def ChS.aborts (h : ChS) : List Ms := h.nodes.map fun n => abortM n h.num
def CtS.commit (S : CtS) (h : ChS) : CtS := ⟨h.num, h.to_, S.top, none, S.over⟩
def beatC (S : CtS) (now : Int) : List Ms × CtS := match S.und with
 | none => ([], S)
 | some h => if h.phase = 0 then (S.asks 3 h, S) else if h.phase = 1 then (S.asks 7 h, S) else if now < S.over h.lost.toNat then ([], S) else (h.commits, S.commit h)
def hearsB (u : Option ChS) (m : Ms) : Bool := match u with
 | none => false
 | some h => (m.epoch == h.num) && (if h.phase = 0 then (m.kind == 4) && m.last else if h.phase = 1 then m.kind == 10 else false)
def ChS.done (h : ChS) (n : Int) : ChS × Bool :=
 if 0 < (wo h.lacks n).length then (⟨h.num, h.to_, h.all, h.lost, h.nodes, h.phase, wo h.lacks n⟩, false) else (⟨h.num, h.to_, h.all, h.lost, h.nodes, h.phase + 1, h.nodes⟩, true)
def noteC (S : CtS) (now : Int) (m : Ms) : List Ms × CtS := match S.und with
 | none => ([], S)
 | some h => if hearsB (some h) m then
   let S' : CtS := ⟨S.epoch, S.mem, S.top, some (h.done m.frm).1, S.over⟩
   if (h.done m.frm).2 then beatC S' now else ([], S')
  else ([], S)
def losesB (u : Option ChS) (n : Int) : Bool := match u with
 | none => false
 | some h => h.lost == n
def renewC (S : CtS) (now : Int) (m : Ms) : List Ms × CtS :=
 let ab := if S.epoch < m.seq ∧ m.seq ≠ S.underZ then [abortM m.frm m.seq] else []
 if hasN S.mem m.frm && !(losesB S.und m.frm) then (ab ++ [tellM 2 m.frm S.epoch m.tick S.mem], ⟨S.epoch, S.mem, S.top, S.und, setO S.over m.frm.toNat (now + 40)⟩)
 else if m.epoch < S.epoch then (ab ++ [tellM 11 m.frm S.epoch 0 S.mem], S) else (ab, S)
def stepC (S : CtS) (now : Int) (m : Ms) : List Ms × CtS :=
 if m.to_ = 0 ∧ mayM m = true then (if m.kind = 1 then renewC S now m else if m.kind = 4 ∨ m.kind = 10 then noteC S now m else ([], S)) else ([], S)
def begC (S : CtS) (all mem : List Int) (lost : Int) : CtS := ⟨S.epoch, S.mem, S.top + 1, some ⟨S.top + 1, mem, all, lost, wo all lost, 0, wo all lost⟩, S.over⟩
def begB (S : CtS) (mem : List Int) : Bool := ringB (S.top + 1) mem && !(decide (mem = S.mem))
theorem CtS.Ok.len {S : CtS} (h : S.Ok) : 0 < S.mem.length ∧ S.mem.length ≤ 5 := nodes_len (ring_nodes h.ring)
theorem CtS.Ok.enc {S : CtS} (h : S.Ok) : (encC S.epoch S.top S.mem).length ≤ 40 := by
 have := ringB_num h.ring
 have h1 := h.lo
 have h2 := h.hi
 exact encC_len ⟨by omega, by omega⟩ ⟨by omega, by omega⟩ (ring_nodes h.ring)
theorem done_ok {S : CtS} {h : ChS} {m : Ms} (hS : S.Ok) (hu : S.und = some h) (hh : hearsB (some h) m = true) : (⟨S.epoch, S.mem, S.top, some (h.done m.frm).1, S.over⟩ : CtS).Ok := by
 have ho := hS.und h hu
 refine ⟨hS.ring, hS.lo, hS.hi, fun g e => ?_⟩
 cases e
 unfold ChS.done
 split
 ·exact ⟨ho.ring, ho.lo, ho.hi, ho.al, ho.l0, ho.l5, ho.nd, ho.nl, Nat.le_trans (wo_len _ _) ho.ll, ho.p0, ho.p2⟩
 ·refine ⟨ho.ring, ho.lo, ho.hi, ho.al, ho.l0, ho.l5, ho.nd, ho.nl, ho.nl, by have := ho.p0; show 0 ≤ h.phase + 1; omega, ?_⟩
  show h.phase + 1 ≤ 2
  have h0 := ho.p0
  have h2 := ho.p2
  by_cases hp : h.phase = 2
  ·simp [hearsB, hp] at hh
  ·omega
theorem over_ok {S : CtS} (hS : S.Ok) (f : Nat → Int) : (⟨S.epoch, S.mem, S.top, S.und, f⟩ : CtS).Ok := ⟨hS.ring, hS.lo, hS.hi, hS.und⟩
theorem back_ok {S : CtS} (hS : S.Ok) : (⟨S.epoch, S.mem, S.top, none, S.over⟩ : CtS).Ok := ⟨hS.ring, hS.lo, hS.hi, fun _ e => by cases e⟩
theorem beg_ok {S : CtS} {all mem : List Int} {lost : Int} (hS : S.Ok) (hb : begB S mem = true) (ha : nodesB all = true) (h0 : 0 ≤ lost) (h5 : lost ≤ 5) : (begC S all mem lost).Ok := by
 unfold begB at hb
 rw [Bool.and_eq_true] at hb
 have hr := ringB_num hb.1
 have hl := (nodes_len ha).2
 have h1 := hS.lo
 refine ⟨hS.ring, by show S.epoch ≤ S.top + 1; omega, hr.2, fun g e => ?_⟩
 cases e
 exact ⟨hb.1, by show S.epoch < S.top + 1; omega, Int.le_refl _, ha, h0, h5, fun x hx => (wo_mem.1 hx).1, Nat.le_trans (wo_len _ _) hl, Nat.le_trans (wo_len _ _) hl, Int.le_refl _, by show (0 : Int) ≤ 2; decide⟩
end Go.Proofs.YtemkjodkmehffaaGreatDoor
