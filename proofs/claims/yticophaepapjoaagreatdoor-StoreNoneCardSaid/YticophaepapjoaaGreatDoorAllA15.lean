/-
  SlgAt, SlgSlices, SlgDelete, SlgReads, SlgBegin: texts of mine, joined.
-/
import Derived.Test.YticophaepapjoaaGreatDoorAllA14
import Derived.Sort.Row
import Derived.RegionTactic
import Derived.ChangeAlike
import Derived.BigRegion
namespace Go.Proofs.YticophaepapjoaaGreatDoor
open Go Go.RowKit Go.Joins
theorem seg_elem : Elem Tryz.prog 135 179 (.agg #[.int .i64 0, .int .i64 0, .slice none 0 0]) 3 40 := ⟨Tryz.underlying135, by kernel_rfl, rfl, by decide⟩
def Seg.cells (s : Seg) (E : Value) : List Value := [.int .i64 (s.slot : Int), .int .i64 (s.first : Int), E]
def segC : List Seg → List Value → List Value
 | s :: ks, E :: Es => s.cells E ++ segC ks Es
 | _, _ => []
theorem segC_append (ks : List Seg) (Es : List Value) (ls : List Seg) (Ls : List Value) (h : Es.length = ks.length) : segC (ks ++ ls) (Es ++ Ls) = segC ks Es ++ segC ls Ls := by
 induction ks generalizing Es with
 | nil => cases Es with
  | nil => rfl
  | cons v vs => cases h
 | cons p ps ih => cases Es with
  | nil => cases h
  | cons v vs => simp only [List.cons_append, segC]; rw [ih vs (by simpa using h)]; simp [Seg.cells]
theorem segC_len (ks : List Seg) (Es : List Value) (h : Es.length = ks.length) : (segC ks Es).length = ks.length * 3 := by
 induction ks generalizing Es with
 | nil => cases Es with
  | nil => rfl
  | cons v vs => cases h
 | cons p ps ih => cases Es with
  | nil => cases h
  | cons v vs => simp only [segC, List.length_append, List.length_cons, Seg.cells]; rw [ih vs (by simpa using h)]; simp; omega
theorem segC_at (ks : List Seg) (Es : List Value) (h : Es.length = ks.length) (j t : Nat) (hj : j < ks.length) (ht : t < 3) : (segC ks Es)[j * 3 + t]? = ((ks[j]).cells (Es[j]'(by omega)))[t]? := by
 induction ks generalizing Es j with
 | nil => simp at hj
 | cons p ps ih => cases Es with
  | nil => cases h
  | cons v vs => cases j with
   | zero => simp only [segC, Nat.zero_mul, Nat.zero_add, List.getElem_cons_zero]; rw [List.getElem?_append_left (by simp [Seg.cells]; omega)]
   | succ j =>
    have := ih vs (by simpa using h) j (by simpa using hj)
    simp only [segC, List.getElem_cons_succ]
    rw [List.getElem?_append_right (by simp [Seg.cells]; omega)]
    rw [← this]
    congr 1
    simp [Seg.cells]; omega
def SegsAt (w : World) (A : Option Addr) (G : Nat → Prop) (ks : List Seg) : Prop := ∀ k (h : k < ks.length), ∃ b o E, A = some ⟨b, o, none⟩ ∧ G b ∧ w.cell? ⟨b, o + k * 3, none⟩ = some (.int .i64 ((ks[k]).slot : Int)) ∧
 w.cell? ⟨b, o + k * 3 + 1, none⟩ = some (.int .i64 ((ks[k]).first : Int)) ∧ w.cell? ⟨b, o + k * 3 + 2, none⟩ = some E ∧ SegV w G ks[k] E
theorem SegsAt.keep {w w' : World} {A : Option Addr} {G : Nat → Prop} {ks : List Seg} (h : SegsAt w A G ks) (hk : Keeps G w w') : SegsAt w' A G ks := fun k hl => by
 obtain ⟨b, o, E, e, hG, c0, c1, c2, hE⟩ := h k hl
 exact ⟨b, o, E, e, hG, hk.cell c0 hG, hk.cell c1 hG, hk.cell c2 hG, hE.keep hk⟩
def LBlk (w : World) (q p i n : Nat) (K : Value) (sl left : Nat) (T : Value) (nx : Nat) : Prop :=
 w.heap[q]? = some (.cells #[.pointer (some ⟨p, 0, none⟩), .int .i64 (i : Int), .int .i64 (n : Int), K, .int .i64 (sl : Int), .int .i64 (left : Int), T, .int .i64 (nx : Int)] 137 (0, 0))
theorem LBlk.keep {w w' : World} {q p i n sl left nx : Nat} {K T : Value} {G : Nat → Prop} (h : LBlk w q p i n K sl left T nx) (hk : Keeps G w w') (hG : G q) : LBlk w' q p i n K sl left T nx := by
 have hlt : q < w.heap.size := (Array.getElem?_eq_some_iff.1 h).1
 exact (hk.block q hG hlt).trans h
theorem LBlk.head {w : World} {q p i n sl left nx : Nat} {K T : Value} (h : LBlk w q p i n K sl left T nx) : LHead w q p i n := ⟨(cell_of_block h 0).trans rfl, (cell_of_block h 1).trans rfl, (cell_of_block h 2).trans rfl⟩
structure EndsOwn (w : World) (X : Nat → Prop) (ks : List Seg) (Es : List Value) : Prop where
 len : Es.length = ks.length
 own : ∀ j (hj : j < ks.length), w.ownsRow 0 3 1 (Es[j]'(by omega)) (ks[j]).recs.length (endsC (ks[j]).recs)
 out : ∀ E ∈ Es, ∀ b, E.ownBlock = some b → ¬ X b
 two : Es.Pairwise ApartV
structure LogAt (w : World) (q : Nat) (F : Foot) (p i n : Nat) (ks : List Seg) (sl left nx : Nat) (tl : List UInt8) (K T : Value) (Es : List Value) : Prop where
 blk : LBlk w q p i n K sl left T nx
 row : w.ownsRow 0 179 3 K ks.length (segC ks Es)
 ends : EndsOwn w (fun b => b = q ∨ K.ownBlock = some b) ks Es
 kq : ∀ b, K.ownBlock = some b → b ≠ q
 tail : ∃ A c, T = .slice A tl.length c ∧ tl.length ≤ c ∧ c ≤ maxLen ∧ Row w A F.I (bcells tl)
 mq : F.M q
 mkk : ∀ b, K.ownBlock = some b → F.M b
 me : ∀ E ∈ Es, ∀ b, E.ownBlock = some b → F.M b
 lt : ∀ b, F.all b → b < w.heap.size
 apart : ∀ b, F.M b → ¬ F.I b
section
variable {w w' : World} {q p i n sl left nx : Nat} {F : Foot} {ks : List Seg} {tl : List UInt8} {K T : Value} {Es : List Value}
theorem EndsOwn.keep {X G : Nat → Prop} (h : EndsOwn w X ks Es) (hk : Keeps G w w') (hG : ∀ E ∈ Es, ∀ b, E.ownBlock = some b → G b) : EndsOwn w' X ks Es :=
 ⟨h.len, fun j hj => hk.own (h.own j hj) fun b hb => hG _ (List.getElem_mem (by have := h.len; omega)) b hb, h.out, h.two⟩
theorem LogAt.keep (h : LogAt w q F p i n ks sl left nx tl K T Es) (hk : Keeps F.all w w') : LogAt w' q F p i n ks sl left nx tl K T Es := by
 obtain ⟨A, c, e, h1, h2, hr⟩ := h.tail
 exact ⟨h.blk.keep hk (.inl h.mq), hk.own h.row fun b hb => .inl (h.mkk b hb), h.ends.keep hk fun E hE b hb => .inl (h.me E hE b hb), h.kq, ⟨A, c, e, h1, h2, hr.keep (hk.mono fun _ _ hb => .inr hb)⟩, h.mq, h.mkk, h.me, fun b hb => Nat.lt_of_lt_of_le (h.lt b hb) hk.size, h.apart⟩
theorem LogAt.head (h : LogAt w q F p i n ks sl left nx tl K T Es) : LHead w q p i n := h.blk.head
theorem LogAt.segs (h : LogAt w q F p i n ks sl left nx tl K T Es) : ∃ A c, K = .slice A ks.length c ∧ ks.length ≤ c ∧ c ≤ maxLen ∧ SegsAt w A F.M ks := by
 have hl := h.ends.len
 rcases Nat.eq_zero_or_pos ks.length with h0 | hp
 ·rcases h.row.2 with ⟨e, -⟩ | ⟨g, cap, cur, e, -, -, h1, h2, -⟩
  ·exact ⟨none, 0, by rw [e, h0], by omega, by decide, fun k hk => by omega⟩
  ·exact ⟨_, cap, e, h1, h2, fun k hk => by omega⟩
 ·obtain ⟨g, c, e, hb, hlt⟩ := h.row.form hp
  have hrow := h.row
  rw [e] at hrow
  have hroom := own_room hrow
  refine ⟨_, c, e, hroom.1, hroom.2, fun k hk => ?_⟩
  have hc : ∀ t, t < 3 → w.cell? ⟨g, 0 + k * 3 + t, none⟩ = ((ks[k]).cells (Es[k]'(by omega)))[t]? := fun t ht => by
   have h1 := segC_at ks Es hl k t hk ht
   have hv : ∃ v, ((ks[k]).cells (Es[k]'(by omega)))[t]? = some v := ⟨_, List.getElem?_eq_getElem (by simp [Seg.cells]; omega)⟩
   obtain ⟨v, hv⟩ := hv
   rw [hv] at h1 ⊢
   have := hrow.cells (g := g) rfl _ v h1
   rw [WideShapes.add_plain] at this
   rw [show 0 + k * 3 + t = 0 + (k * 3 + t) by omega]
   exact this
  refine ⟨g, 0, _, rfl, h.mkk g (by rw [e]; rfl), hc 0 (by omega), hc 1 (by omega), hc 2 (by omega), ?_⟩
  have ho := h.ends.own k hk
  obtain ⟨A2, c2, e2, -, hr2⟩ := own_slice ho
  refine ⟨A2, c2, e2, ?_⟩
  intro hne
  obtain ⟨b, o, e3, hb3, hc3⟩ := hr2 hne
  refine ⟨b, o, e3, h.me (Es[k]'(by omega)) (List.getElem_mem _) b ?_, hc3⟩
  have hp2 : 0 < (ks[k]).recs.length := by have := List.length_pos_iff.2 hne; rwa [endsC_len] at this
  obtain ⟨g3, c4, e4, -⟩ := ho.form hp2
  rw [e4] at e2 ⊢
  injection e2 with e5
  rw [e3] at e5
  injection e5 with e6
  injection e6 with e7
  rw [← e7]; rfl
end
theorem lfirst_any (w : World) (q : Nat) (F : Foot) (p i n : Nat) (ks : List Seg) (sl left nx : Nat) (tl : List UInt8) (K T : Value) (Es : List Value) (h : LogAt w q F p i n ks sl left nx tl K T Es) :
  Calls Tryz.prog 70 #[.pointer (some ⟨q, 0, none⟩)] w fun e w' => e = .returned (.int .i64 ((match ks with | [] => nx | s :: _ => s.first : Nat) : Int)) ∧ w = w' := by
 have HDN := Lib.hid (down_no w q p i n h.head)
 obtain ⟨A, c, rfl, hlc, hcm, hs⟩ := h.segs
 unfold maxLen at hcm
 have c3 := (cell_of_block h.blk 3).trans rfl
 have c7 := (cell_of_block h.blk 7).trans rfl
 cases ks with
 | nil =>
  simp only [List.length_nil] at c3 ⊢
  clear h hs
  go_enter Tryz.func70, Tryz.ntmps70
  go_wp2_with fail
  refine HDN.out.mono ?_
  rintro e w' ⟨rfl, rfl⟩
  go_wp2_with fail
  go_ret
  exact ⟨rfl, rfl⟩
 | cons s ks =>
  obtain ⟨b, o, E, rfl, -, -, c1, -, -⟩ := hs 0 (by simp)
  simp only [List.getElem_cons_zero, Nat.zero_mul, Nat.add_zero, List.length_cons] at c1 c3 hlc ⊢
  have hd : ((((ks.length + 1 : Nat) : Int)) == 0) = false := by simp; omega
  have hlt : (0 : Int) < ((ks.length + 1 : Nat) : Int) := by omega
  clear h hs
  generalize ks.length + 1 = m at c3 hd hlt hlc
  go_enter Tryz.func70, Tryz.ntmps70
  go_wp2_with fail
  refine HDN.out.mono ?_
  rintro e w' ⟨rfl, rfl⟩
  go_wp2_with fail
  go_ret
  exact ⟨rfl, rfl⟩
theorem lnext_any (w : World) (q : Nat) (F : Foot) (p i n : Nat) (ks : List Seg) (sl left nx : Nat) (tl : List UInt8) (K T : Value) (Es : List Value) (h : LogAt w q F p i n ks sl left nx tl K T Es) :
  Calls Tryz.prog 52 #[.pointer (some ⟨q, 0, none⟩)] w fun e w' => e = .returned (.int .i64 (nx : Int)) ∧ w = w' := by
 have HDN := Lib.hid (down_no w q p i n h.head)
 have c7 := (cell_of_block h.blk 7).trans rfl
 clear h
 go_enter Tryz.func52, Tryz.ntmps52
 go_wp2_with fail
 refine HDN.out.mono ?_
 rintro e w' ⟨rfl, rfl⟩
 go_wp2_with fail
 go_ret
 exact ⟨rfl, rfl⟩
theorem lflush_any (w : World) (q : Nat) (Fs : Foot) (p i n : Nat) (ks : List Seg) (sl left nx : Nat) (tl : List UInt8) (K T : Value) (Es : List Value) (h : LogAt w q Fs p i n ks sl left nx tl K T Es) (F : Foot) (s : SDev) (hd : DAt w p F s) (hcalls : s.calls ≤ 1099511627776) :
  Calls Tryz.prog 46 #[.pointer (some ⟨q, 0, none⟩)] w fun e w' => e = .returned (.int .i64 0) ∧ ∃ F', DAt w' p F' s.flush ∧ Step F F' w w' := by
 have HDN := Lib.hid (down_no w q p i n h.head)
 have c0 := h.head.d
 have HF := Lib.hid (dflush_any w p F s hd hcalls)
 clear h hd
 go_enter Tryz.func46, Tryz.ntmps46
 go_wp2_with fail
 refine HDN.out.mono ?_
 rintro e w' ⟨rfl, rfl⟩
 go_wp2_with fail
 refine HF.out.mono ?_
 rintro e w' ⟨rfl, hx⟩
 have HX := Lib.hid hx
 clear hx
 go_wp2_with fail
 go_ret
 exact ⟨rfl, HX.out⟩
end Go.Proofs.YticophaepapjoaaGreatDoor
namespace Go.Proofs.YticophaepapjoaaGreatDoor
open Go Go.RowKit Go.Joins Go.Sort
theorem row_put {w : World} {base n c g size k : Nat} {e : TypeId} {xs : List Value} (F : Array Value) (h : w.ownsRow base e size (.slice (some ⟨g, 0, none⟩) n c) n xs) (hF : F.size = xs.length) :
  (putRow id (Go.Sort.ahead w k) g 0 F).ownsRow base e size (.slice (some ⟨g, 0, none⟩) n c) n F.toList ∧ w.grownBy (putRow id (Go.Sort.ahead w k) g 0 F) (some g) := by
 refine ⟨?_, ⟨rfl, rfl, rfl, by simp [putRow, mapBlock, Go.Sort.ahead], fun j hj hne => by
  have : g ≠ j := fun e => hne (by rw [e])
  simp [putRow, mapBlock, Go.Sort.ahead, Array.getElem?_modify, this]⟩⟩
 rcases h.2 with ⟨e0, _⟩ | ⟨g', cap', cur, e0, hb, hg, hn, hm, hs, ht⟩
 ·cases e0
 ·injection e0 with e1 _ e3
  injection e1 with e1
  injection e1 with e1
  subst e1; subst e3
  have hxs : xs.length = n * size := h.1
  have hle : n * size ≤ cur.size := by rw [hs]; exact Nat.mul_le_mul_right _ hn
  refine ⟨by rw [Array.length_toList, hF, hxs], .inr ⟨g, c, putCells id 0 F cur, rfl, hb, ?_, hn, hm, by simpa [putCells] using hs, ?_⟩⟩
  ·simp [putRow, mapBlock, Go.Sort.ahead, Array.getElem?_modify, hg, onCells]
  ·apply List.ext_getElem?
   intro j
   rw [List.getElem?_take, Array.getElem?_toList, Array.getElem?_toList]
   by_cases hj : j < n * size
   ·have hjc : j < cur.size := by omega
    have hjF : j < F.size := by omega
    simp only [if_pos hj, putCells, Array.getElem?_mapIdx, Array.getElem?_eq_getElem hjc, Option.map_some]
    rw [if_pos (by omega), Nat.sub_zero, Array.getElem?_eq_getElem hjF, getElem!_pos F j hjF]
    rfl
   ·rw [if_neg hj, Array.getElem?_eq_none (by omega)]
abbrev SegP := Seg × (Option Addr × Nat)
instance : Inhabited SegP := ⟨(⟨0, 0, []⟩, (none, 0))⟩
def SegP.E (x : SegP) : Value := .slice x.2.1 x.1.recs.length x.2.2
def SegP.enc (x : SegP) : List Value := x.1.cells x.E
def encP (d : List SegP) : List Value := d.flatMap SegP.enc
theorem encP_len (d : List SegP) : (encP d).length = d.length * 3 := by
 induction d with
 | nil => rfl
 | cons x d ih =>
  have e : encP (x :: d) = x.enc ++ encP d := rfl
  rw [e, List.length_append, ih, List.length_cons]
  simp [SegP.enc, Seg.cells]; omega
theorem encP_at (d : List SegP) (j : Nat) (hj : j < d.length) (t : Nat) (ht : t < 3) : (encP d)[j * 3 + t]? = ((d[j]).enc)[t]? := by
 induction d generalizing j with
 | nil => simp at hj
 | cons x d ih =>
  have e : encP (x :: d) = x.enc ++ encP d := rfl
  have hx : x.enc.length = 3 := by simp [SegP.enc, Seg.cells]
  cases j with
  | zero => rw [e, Nat.zero_mul, Nat.zero_add, List.getElem?_append_left (by omega)]; rfl
  | succ j =>
   rw [e, List.getElem?_append_right (by omega), hx, show (j + 1) * 3 + t - 3 = j * 3 + t by omega, ih j (by simpa using hj)]
   rfl
theorem segC_encP (d : List SegP) : segC (d.map Prod.fst) (d.map SegP.E) = encP d := by
 induction d with
 | nil => rfl
 | cons x d ih => simp only [List.map_cons, segC, ih]; rfl
theorem flatK_encP (d : List SegP) : (flatK SegP.enc 3 d.toArray).toList = encP d := by
 apply List.ext_getElem?
 intro j
 have hs : (flatK SegP.enc 3 d.toArray).size = d.length * 3 := by simp [flatK]
 by_cases hj : j < d.length * 3
 ·have hd : j / 3 < d.length := by omega
  rw [Array.getElem?_toList, Array.getElem?_eq_getElem (by omega)]
  have h1 := encP_at d (j / 3) hd (j % 3) (Nat.mod_lt _ (by omega))
  rw [show j / 3 * 3 + j % 3 = j by omega] at h1
  rw [h1]
  have hl : (d[j / 3]).enc.length = 3 := by simp [SegP.enc, Seg.cells]
  rw [List.getElem?_eq_getElem (by rw [hl]; exact Nat.mod_lt _ (by omega))]
  congr 1
  have e := get_flatK SegP.enc 3 d.toArray j (by simpa using hj)
  rw [getElem!_pos _ j (by omega)] at e
  rw [e, getElem!_pos d.toArray (j / 3) (by simpa using hd)]
  have e2 : d.toArray[j / 3]'(by simpa using hd) = d[j / 3] := by simp
  rw [e2, getElem!_pos _ (j % 3) (by rw [hl]; exact Nat.mod_lt _ (by omega))]
 ·rw [Array.getElem?_toList, Array.getElem?_eq_none (by omega), List.getElem?_eq_none (by rw [encP_len]; omega)]
theorem reverse_any (w : World) (g c n : Nat) (d : List SegP) (hn : n = d.length) (h : w.ownsRow 0 179 3 (.slice (some ⟨g, 0, none⟩) n c) n (encP d)) (hsz : d.length ≤ 4096) :
  Calls Tryz.prog 193 #[.slice (some ⟨g, 0, none⟩) n c] w fun e w' => e = .returned (.tuple #[]) ∧ w'.ownsRow 0 179 3 (.slice (some ⟨g, 0, none⟩) n c) n (encP d.reverse) ∧ w.grownBy w' (some g) := by
 subst hn
 have hH : HoldsK SegP.enc 3 w g 0 d.toArray := by
  intro j hj
  have hs : (flatK SegP.enc 3 d.toArray).size = d.length * 3 := by simp [flatK]
  have e := flatK_encP d
  have hv : (encP d)[j]? = some ((flatK SegP.enc 3 d.toArray)[j]!) := by
   rw [← e, Array.getElem?_toList, Array.getElem?_eq_getElem hj, getElem!_pos _ j hj]
  have hc := h.cells (g := g) rfl j _ hv
  rw [WideShapes.add_plain] at hc
  exact ⟨hc, h.frozenAt (0 + j)⟩
 have hr := AnyQ.slices_Reverse Tryz.reverseA 3 Tryz.isAgg179 Tryz.sizeOf179 SegP.enc (fun _ => rfl) (fun x v hv => by
  simp only [SegP.enc, Seg.cells, SegP.E, List.mem_cons, List.not_mem_nil, or_false] at hv
  rcases hv with rfl | rfl | rfl <;> rfl) g 0 c d.toArray w hH (by simp; omega)
 rw [show d.toArray.size = d.length by simp] at hr
 refine (show Calls _ _ _ _ _ from hr).mono ?_
 rintro e w' ⟨rfl, k, rfl⟩
 have hF : (flatK SegP.enc 3 d.toArray.reverse).toList = encP d.reverse := by
  have := flatK_encP d.reverse
  simpa using this
 have := row_put (k := k) (flatK SegP.enc 3 d.toArray.reverse) h (by rw [encP_len]; simp [flatK])
 rw [hF] at this
 exact ⟨rfl, this.1, this.2⟩
end Go.Proofs.YticophaepapjoaaGreatDoor
namespace Go.Proofs.YticophaepapjoaaGreatDoor
open Go Go.RowKit Go.Joins
theorem same_any (w : World) (b3 a y f : Nat) (E : Value) (hE : E.oneCell' = true) (hc : w.cell? ⟨b3, 0, none⟩ = some (.int .i64 (y : Int))) (r : Bool) (hr : ((a : Int) == (y : Int)) = r) :
  Calls Tryz.prog 133 #[.agg #[.int .i64 (a : Int), .int .i64 (f : Int), E], .pointer (some ⟨b3, 0, none⟩)] w fun e w' => e = .returned (.bool r) ∧ Kp w w' := by
 have hlt := World.block_lt_of_cell? w _ hc
 simp only at hlt
 have hc2 : ∀ o, (w.alloc o).cell? ⟨b3, 0, none⟩ = some (.int .i64 (y : Int)) := fun o => ((Keeps.refl (fun _ => True) w).alloc o).cell hc trivial
 go_enter Tryz.func133, Tryz.ntmps133
 go_wp2
 go_ret
 exact ⟨rfl, (Keeps.refl _ _).alloc _⟩
section
variable (w : World) (A : Option Addr) (c b3 y : Nat) (G : Nat → Prop) (ks : List Seg)
set_option maxRecDepth 100000 in
set_option maxHeartbeats 1000000 in
theorem index_none (hs : SegsAt w A G ks) (hy : w.cell? ⟨b3, 0, none⟩ = some (.int .i64 (y : Int))) (hl : ks.length ≤ 4096) (hne : ∀ k (h : k < ks.length), (ks[k]).slot ≠ y) :
  Calls Tryz.prog 170 #[.slice A ks.length c, .func (.func 133) #[] #[.pointer (some ⟨b3, 0, none⟩)]] w fun e w' => e = .returned (.int .i64 (-1)) ∧ Kp w w' := by
 have HS := Lib.hid hs
 have HY := Lib.hid hy
 have HN := Lib.hid hne
 clear hs hy hne
 go_enter Tryz.func170, Tryz.ntmps170
 go_wp2_with fail
 go_loopw [8] (fun vk wr => ∃ k : Nat, k ≤ ks.length ∧ vk = .int .i64 k ∧ Kp w wr) (fun vk _ => ks.length - (intOf vk).toNat)
 case atStart => exact ⟨0, Nat.zero_le _, rfl, Keeps.refl _ _⟩
 case round =>
  obtain ⟨k, hk, rfl, hkp⟩ := hrel
  by_cases hlt : k < ks.length
  ·obtain ⟨b, o, E, rfl, hbM, d0, d1, d2, hE⟩ := (HS.out.keep (hkp.mono fun _ _ _ => trivial)) k hlt
   obtain ⟨AE, cE, rfl, -⟩ := hE.ex
   have hc := Lib.hid (same_any wr b3 (ks[k]).slot y (ks[k]).first (.slice AE (ks[k]).recs.length cE) rfl (hkp.cell HY.out trivial) false (by have := HN.out k hlt; simp; omega))
   have HK := Lib.hid hkp
   clear hE hkp
   generalize ks[k] = sg at d0 d1 d2 hc
   go_wp2_with fail
   refine hc.out.mono ?_
   rintro e w1 ⟨rfl, hk1⟩
   have HK1 := Lib.hid (HK.out.trans hk1)
   clear hk1
   go_wp2_with fail
   go_roundw
   case rel => exact ⟨k + 1, by omega, by go_num, HK1.out⟩
   case measure => simp [intOf]; omega
  ·obtain rfl : k = ks.length := by omega
   have HK := Lib.hid hkp
   clear hkp
   go_wp2_with fail
   go_ret
   exact ⟨rfl, HK.out⟩
set_option maxRecDepth 100000 in
set_option maxHeartbeats 1000000 in
theorem index_zero (hs : SegsAt w A G ks) (hy : w.cell? ⟨b3, 0, none⟩ = some (.int .i64 (y : Int))) (hl : ks.length ≤ 4096) (hp : 0 < ks.length) (he : (ks[0]).slot = y) :
  Calls Tryz.prog 170 #[.slice A ks.length c, .func (.func 133) #[] #[.pointer (some ⟨b3, 0, none⟩)]] w fun e w' => e = .returned (.int .i64 0) ∧ Kp w w' := by
 have HS := Lib.hid hs
 have HY := Lib.hid hy
 have HE := Lib.hid he
 clear hs hy he
 go_enter Tryz.func170, Tryz.ntmps170
 go_wp2_with fail
 go_loopw [8] (fun vk wr => vk = .int .i64 0 ∧ Kp w wr) (fun vk _ => 0)
 case atStart => exact ⟨rfl, Keeps.refl _ _⟩
 case round =>
  obtain ⟨rfl, hkp⟩ := hrel
  obtain ⟨b, o, E, rfl, hbM, d0, d1, d2, hE⟩ := (HS.out.keep (hkp.mono fun _ _ _ => trivial)) 0 hp
  obtain ⟨AE, cE, rfl, -⟩ := hE.ex
  have hc := Lib.hid (same_any wr b3 (ks[0]).slot y (ks[0]).first (.slice AE (ks[0]).recs.length cE) rfl (hkp.cell HY.out trivial) true (by rw [HE.out]; simp))
  have HK := Lib.hid hkp
  simp only [Nat.zero_mul, Nat.add_zero] at d0 d1 d2
  clear hE hkp HE
  generalize ks[0] = sg at d0 d1 d2 hc
  have hp' : (0 : Int) < (ks.length : Int) := by omega
  go_wp2_with fail
  refine hc.out.mono ?_
  rintro e w1 ⟨rfl, hk1⟩
  have HK1 := Lib.hid (HK.out.trans hk1)
  clear hk1
  go_wp2_with fail
  go_ret
  exact ⟨rfl, HK1.out⟩
set_option maxRecDepth 100000 in
set_option maxHeartbeats 1000000 in
theorem delete_none (hs : SegsAt w A G ks) (hy : w.cell? ⟨b3, 0, none⟩ = some (.int .i64 (y : Int))) (hl : ks.length ≤ 4096) (hne : ∀ k (h : k < ks.length), (ks[k]).slot ≠ y) :
  Calls Tryz.prog 132 #[.slice A ks.length c, .func (.func 133) #[] #[.pointer (some ⟨b3, 0, none⟩)]] w fun e w' => e = .returned (.slice A ks.length c) ∧ Kp w w' := by
 have HI := Lib.hid (index_none w A c b3 y G ks hs hy hl hne)
 clear hs hy hne
 go_enter Tryz.func132, Tryz.ntmps132
 go_wp2_with fail
 refine HI.out.mono ?_
 rintro e w1 ⟨rfl, hk1⟩
 have HK1 := Lib.hid hk1
 clear hk1
 go_wp2_with fail
 go_ret
 exact ⟨rfl, HK1.out⟩
end
theorem list_clear {P : Program} {w : World} {ops : Array Oper} {rest : List Oper} {o : Oper} {a : Act} {Q : Exit → Act → World → Prop} {base n c g size : Nat} {e : TypeId} {xs : List Value} (hgd : o.guard = none) (x : Operand) (t : TypeId) (ho : o.op = .call { callee := .builtin .clear, args := #[x], argTypes := #[t] }) (hu : P.underlying t = some (.slice e)) (z : Value) (hz : ∀ w, (zeroValue e).run P w = .ok z w)
  (hown : w.ownsRow base e size (.slice (some ⟨g, 0, none⟩) n c) n xs) (j cc : Nat) (hx : a.eval x = .slice (some ⟨g, j, none⟩) 1 cc) (cs : List Value) (hcs : (Builtin.zeroCells z.cells 1).toList = cs) (hfit : j + cs.length ≤ xs.length) (h1 : ∀ v ∈ cs, v.oneCell' = true)
  (hK : ∀ w', w'.ownsRow base e size (.slice (some ⟨g, 0, none⟩) n c) n (xs.take j ++ cs ++ xs.drop (j + cs.length)) → w.grownBy w' (some g) → wpList P ops Q rest (a.put o.dst (.tuple #[])) w') : wpList P ops Q (o :: rest) a w := by
 obtain ⟨cur, hg, hl, h2, h3⟩ := own_splice hown j cs hfit
 have hst := run_storeCells_at P g j e cs 0 cur w hg (by simpa using hl) h1
 simp only [Nat.add_zero] at hst
 generalize w.setRow g (cur.toList.take j ++ cs ++ cur.toList.drop (j + cs.length)).toArray = w2 at hst h2 h3
 refine wpList_plain hgd fun K hh => ?_
 unfold Oper.wp execOp
 simp [ho, resolve, invoke, builtin, hx, Builtin.clear_, run_underlying hu, hz, hcs, hst, Result.andThen]
 exact hh _ _ (hK _ h2 h3)
def midP (d : List SegP) (i : Nat) : List Value := (encP d.tail).take (i * 3) ++ (encP d).drop (i * 3)
theorem encP_tail (x : SegP) (d : List SegP) : encP (x :: d) = x.enc ++ encP d := rfl
theorem midP_len (d : List SegP) (i : Nat) (h : i + 1 ≤ d.length) : (midP d i).length = d.length * 3 := by
 unfold midP
 rw [List.length_append, List.length_take, List.length_drop, encP_len, encP_len, List.length_tail]
 omega
theorem midP_zero (d : List SegP) : midP d 0 = encP d := by simp [midP]
theorem midP_at (d : List SegP) (i t : Nat) (h : i + 1 < d.length) (ht : t < 3) : (midP d i)[(i + 1) * 3 + t]? = ((d[i + 1]).enc)[t]? := by
 unfold midP
 have hl : ((encP d.tail).take (i * 3)).length = i * 3 := by rw [List.length_take, encP_len, List.length_tail]; omega
 rw [List.getElem?_append_right (by omega), hl, List.getElem?_drop, show i * 3 + ((i + 1) * 3 + t - i * 3) = (i + 1) * 3 + t by omega]
 exact encP_at d (i + 1) h t ht
theorem encP_take (d : List SegP) (i : Nat) (h : i < d.length) : (encP d).take ((i + 1) * 3) = (encP d).take (i * 3) ++ (d[i]).enc := by
 have hl : (d[i]).enc.length = 3 := by simp [SegP.enc, Seg.cells]
 apply List.ext_getElem?
 intro j
 rw [List.getElem?_take]
 by_cases h1 : j < i * 3
 ·rw [if_pos (by omega), List.getElem?_append_left (by rw [List.length_take, encP_len]; omega), List.getElem?_take, if_pos h1]
 ·rw [List.getElem?_append_right (by rw [List.length_take, encP_len]; omega), List.length_take, encP_len, show min (i * 3) (d.length * 3) = i * 3 by omega]
  by_cases h2 : j < (i + 1) * 3
  ·rw [if_pos h2, ← encP_at d i h (j - i * 3) (by omega), show i * 3 + (j - i * 3) = j by omega]
  ·rw [if_neg h2, List.getElem?_eq_none (by omega)]
theorem midP_next (d : List SegP) (i : Nat) (h : i + 1 < d.length) : (midP d i).take (i * 3) ++ (d[i + 1]).enc ++ (midP d i).drop (i * 3 + (d[i + 1]).enc.length) = midP d (i + 1) := by
 have hl : ((encP d.tail).take (i * 3)).length = i * 3 := by rw [List.length_take, encP_len, List.length_tail]; omega
 have h3 : (d[i + 1]).enc.length = 3 := by simp [SegP.enc, Seg.cells]
 have ht : d.tail[i]'(by rw [List.length_tail]; omega) = d[i + 1] := by rw [List.getElem_tail]
 have e1 : (midP d i).take (i * 3) = (encP d.tail).take (i * 3) := by unfold midP; rw [List.take_append_of_le_length (by omega), List.take_of_length_le (by omega)]
 have e2 : (midP d i).drop (i * 3 + 3) = (encP d).drop ((i + 1) * 3) := by
  unfold midP
  rw [List.drop_append, List.drop_eq_nil_of_le (by omega), List.nil_append, hl, List.drop_drop]
  congr 1; omega
 rw [h3, e1, e2]
 unfold midP
 rw [encP_take d.tail i (by rw [List.length_tail]; omega), ht]
theorem midP_last (d : List SegP) (i : Nat) (h : i + 1 = d.length) (cs : List Value) (hcs : cs.length = 3) : ((midP d i).take (i * 3) ++ cs ++ (midP d i).drop (i * 3 + cs.length)).take (i * 3) = encP d.tail := by
 have hl : ((encP d.tail).take (i * 3)).length = i * 3 := by rw [List.length_take, encP_len, List.length_tail]; omega
 have e1 : (midP d i).take (i * 3) = (encP d.tail).take (i * 3) := by unfold midP; rw [List.take_append_of_le_length (by omega), List.take_of_length_le (by omega)]
 rw [e1, List.append_assoc, List.take_append_of_le_length (by omega), List.take_of_length_le (by omega), List.take_of_length_le (by rw [encP_len, List.length_tail]; omega)]
theorem own_shorter {w : World} {base n c g size m : Nat} {e : TypeId} {xs : List Value} (h : w.ownsRow base e size (.slice (some ⟨g, 0, none⟩) n c) n xs) (hm : m ≤ n) : w.ownsRow base e size (.slice (some ⟨g, 0, none⟩) m c) m (xs.take (m * size)) := by
 have hle : m * size ≤ n * size := Nat.mul_le_mul_right _ hm
 refine ⟨by rw [List.length_take, h.1]; omega, ?_⟩
 rcases h.2 with ⟨e0, _⟩ | ⟨g', cap', cur, e0, hb, hg, hn, hcm, hs, ht⟩
 ·cases e0
 ·injection e0 with e1 _ e3
  injection e1 with e1
  injection e1 with e1
  subst e1; subst e3
  exact .inr ⟨g, c, cur, rfl, hb, hg, by omega, hcm, hs, by rw [← ht, List.take_take, Nat.min_eq_left hle]⟩
set_option maxRecDepth 100000 in
set_option maxHeartbeats 400000 in
theorem delete_first (w : World) (g c b3 y m : Nat) (d : List SegP) (hm : m = d.length) (ho : w.ownsRow 0 179 3 (.slice (some ⟨g, 0, none⟩) m c) m (encP d)) (hs : SegsAt w (some ⟨g, 0, none⟩) (fun _ => True) (d.map Prod.fst)) (hy : w.cell? ⟨b3, 0, none⟩ = some (.int .i64 (y : Int))) (hb3 : b3 ≠ g) (hl : d.length ≤ 4096) (hp : 0 < d.length)
  (he : (d[0]).1.slot = y) (hne : ∀ k (h : k < d.length), 0 < k → (d[k]).1.slot ≠ y) :
  Calls Tryz.prog 132 #[.slice (some ⟨g, 0, none⟩) m c, .func (.func 133) #[] #[.pointer (some ⟨b3, 0, none⟩)]] w fun e w' => e = .returned (.slice (some ⟨g, 0, none⟩) (m - 1) c) ∧
   w'.ownsRow 0 179 3 (.slice (some ⟨g, 0, none⟩) (m - 1) c) (m - 1) (encP d.tail) ∧ Keeps (fun b => b ≠ g) w w' := by
 have hroom := own_room ho
 have hcm := hroom.2
 unfold maxLen at hcm
 have hml : (d.map Prod.fst).length = m := by rw [List.length_map]; exact hm.symm
 have HI := Lib.hid (show Calls Tryz.prog 170 #[.slice (some ⟨g, 0, none⟩) m c, .func (.func 133) #[] #[.pointer (some ⟨b3, 0, none⟩)]] w fun e w' => e = .returned (.int .i64 0) ∧ Kp w w' from by
  have h := index_zero w (some ⟨g, 0, none⟩) c b3 y _ _ hs hy (by rw [List.length_map]; exact hl) (by rw [List.length_map]; exact hp) (by rw [List.getElem_map]; exact he)
  rw [hml] at h
  exact h)
 have HO := Lib.hid ho
 have HY := Lib.hid hy
 have HN := Lib.hid hne
 have HM := Lib.hid hm
 have hgl := (ho.lt g rfl).2
 have hroom1 := hroom.1
 have hmd : m ≤ d.length ∧ d.length ≤ m := by omega
 clear ho hs hy he hne hroom hm hml
 go_enter Tryz.func132, Tryz.ntmps132
 go_wp2_with fail
 refine HI.out.mono ?_
 rintro e w1 ⟨rfl, hk1⟩
 have HK1 := Lib.hid hk1
 clear hk1 HI
 go_wp2_with fail
 go_loopw [5, 6] (fun vi vj wr => ∃ i j : Nat, RowKit.Hid (j = i + 1) ∧ j ≤ m ∧ vi = .int .i64 i ∧ vj = .int .i64 j ∧ wr.ownsRow 0 179 3 (.slice (some ⟨g, 0, none⟩) m c) m (midP d i) ∧ Keeps (fun b => b ≠ g) w wr) (fun _ vj _ => m - (intOf vj).toNat)
 case atStart => exact ⟨0, 1, Lib.hid rfl, by omega, rfl, rfl, by rw [midP_zero]; exact HK1.out.own HO.out fun _ _ => trivial, HK1.out.mono fun _ _ _ => trivial⟩
 case round =>
  obtain ⟨i, j, hji, hj, rfl, rfl, hom, hkp⟩ := hrel
  have hjo := hji.out
  by_cases hlt : j < m
  ·have hid : i + 1 < d.length := by omega
   obtain ⟨sg, hsg⟩ : ∃ sg, d[i + 1] = sg := ⟨_, rfl⟩
   have hcell : ∀ t, t < 3 → wr.cell? ⟨g, j * 3 + t, none⟩ = (sg.enc)[t]? := fun t ht => by
    have h1 := midP_at d i t hid ht
    rw [hsg] at h1
    have hv : ∃ v, (sg.enc)[t]? = some v := ⟨_, List.getElem?_eq_getElem (by simp [SegP.enc, Seg.cells]; omega)⟩
    obtain ⟨v, hv⟩ := hv
    rw [hv] at h1 ⊢
    have := hom.cells (g := g) rfl _ v h1
    rw [WideShapes.add_plain, Nat.zero_add] at this
    rw [hjo]
    exact this
   have d0 : wr.cell? ⟨g, j * 3, none⟩ = some (.int .i64 (sg.1.slot : Int)) := (hcell 0 (by omega)).trans rfl
   have d1 : wr.cell? ⟨g, j * 3 + 1, none⟩ = some (.int .i64 (sg.1.first : Int)) := (hcell 1 (by omega)).trans rfl
   have d2 : wr.cell? ⟨g, j * 3 + 2, none⟩ = some sg.E := (hcell 2 (by omega)).trans rfl
   have hns : ((sg.1.slot : Int) == (y : Int)) = false := by
    have := HN.out (i + 1) hid (by omega)
    rw [hsg] at this
    simp; omega
   have HNX := Lib.hid (show (midP d i).take (i * 3) ++ (.int .i64 (sg.1.slot : Int) :: .int .i64 (sg.1.first : Int) :: sg.E :: (midP d i).drop (i * 3 + 3)) = midP d j from by
    have h := midP_next d i hid
    rw [hsg, List.append_assoc] at h
    rw [hjo]; exact h)
   have HML := Lib.hid (midP_len d i (by omega))
   have hc := Lib.hid (fun w' (hk : Kp wr w') => same_any w' b3 sg.1.slot y sg.1.first sg.E rfl (hk.cell (hkp.cell HY.out hb3) trivial) false hns)
   have HOM := Lib.hid hom
   have HK := Lib.hid hkp
   have HJI := Lib.hid hjo
   have hsl3 : sg.enc.length = 3 := rfl
   have hij : i < m := by omega
   obtain ⟨s1, A1, c1⟩ := sg
   simp only [SegP.E] at d2 hc HNX
   clear hcell hom hkp hsg hji hns
   obtain ⟨w0, hw0⟩ : ∃ w0, wr.alloc (.cells #[.int .i64 (s1.slot : Int), .int .i64 (s1.first : Int), .slice A1 s1.recs.length c1] 179) = w0 := ⟨_, rfl⟩
   have hk0 : Kp wr w0 := by rw [← hw0]; exact (Keeps.refl _ wr).alloc _
   have HBX := Lib.hid (show SBox w0 wr.heap.size s1.slot s1.first (.slice A1 s1.recs.length c1) from by rw [← hw0]; exact SBox.new wr s1.slot s1.first _)
   have HW0 := Lib.hid hw0
   have HK0 := Lib.hid hk0
   have HOM0 := Lib.hid (hk0.own HOM.out fun _ _ => trivial)
   clear hw0 hk0 hjo
   go_wp2_with fail
   rw [HW0.out]
   refine (hc.out w0 HK0.out).mono ?_
   rintro e w2 ⟨rfl, hk2⟩
   have hbx := HBX.out.keep hk2 trivial
   have e0 := hbx.s
   have e1 := hbx.f
   have e2 := hbx.e
   have HOM2 := Lib.hid (hk2.own HOM0.out fun _ _ => trivial)
   have HK2 := Lib.hid (HK.out.trans ((HK0.out.trans hk2).mono fun _ _ _ => trivial))
   clear hbx hk2 HOM HOM0 HK HK0 HBX HW0 d0 d1 d2 hc
   go_wp2_with (refine list_store_own rfl 179 (.tmp 33) (.tmp 32) rfl HOM2.out (i * 3) rfl [.int .i64 (s1.slot : Int), .int .i64 (s1.first : Int), .slice A1 s1.recs.length c1] _ rfl rfl (by kernel_rfl) (by rw [HML.out]; simp only [List.length_cons, List.length_nil]; omega) (fun v hv => by
    simp only [List.mem_cons, List.not_mem_nil, or_false] at hv
    rcases hv with rfl | rfl | rfl <;> rfl) ?_)
   intro w3 ho3 hg3
   have H3 := Lib.hid (show w3.ownsRow 0 179 3 (.slice (some ⟨g, 0, none⟩) m c) m (midP d j) from by
    rw [← HNX.out]; exact ho3)
   have HK3 := Lib.hid (HK2.out.trans (keeps_grown hg3))
   clear ho3 hg3 HK2 HOM2 HNX e0 e1 e2
   go_wp2_with fail
   go_roundw
   case rel => exact ⟨i + 1, j + 1, Lib.hid (by have := HJI.out; omega), by omega, by go_num, by go_num, by have e := HJI.out; rw [← e]; exact H3.out, HK3.out⟩
   case measure => simp [intOf]; omega
  ·obtain rfl : j = m := by omega
   have hil : i + 1 = d.length := by omega
   have hji2 : j - i = 1 := by omega
   have hij : i ≤ j := by omega
   have hic : i ≤ c := by omega
   have hne : ¬ c = i := by omega
   have HML := Lib.hid (midP_len d i (by omega))
   have HLA := Lib.hid (show ((midP d i).take (i * 3) ++ (Value.int .i64 0 :: Value.int .i64 0 :: Value.slice none 0 0 :: (midP d i).drop (i * 3 + 3))).take (i * 3) = encP d.tail from by
    have h := midP_last d i hil [.int .i64 0, .int .i64 0, .slice none 0 0] rfl
    rw [List.append_assoc] at h
    exact h)
   have HJ := Lib.hid (show i = j - 1 by omega)
   have HOM := Lib.hid hom
   have HK := Lib.hid hkp
   clear hom hkp hji hjo
   go_wp2_with (refine list_clear rfl (.tmp 38) 135 rfl Tryz.underlying135 _ Tryz.zeroValue179 HOM.out (i * 3) (c - i) rfl [.int .i64 0, .int .i64 0, .slice none 0 0] (by kernel_rfl) (by rw [HML.out]; simp only [List.length_cons, List.length_nil]; omega) (fun v hv => by
    simp only [List.mem_cons, List.not_mem_nil, or_false] at hv
    rcases hv with rfl | rfl | rfl <;> rfl) ?_)
   intro w3 ho3 hg3
   have H3 := Lib.hid (show w3.ownsRow 0 179 3 (.slice (some ⟨g, 0, none⟩) i c) i (encP d.tail) from by
    have h := own_shorter ho3 hij
    rw [HLA.out] at h
    exact h)
   have HK3 := Lib.hid (HK.out.trans (keeps_grown hg3))
   clear ho3 hg3 HK HOM
   go_wp2_with fail
   go_ret
   have e := HJ.out
   exact ⟨by rw [← e]; rfl, by rw [← e]; exact H3.out, HK3.out⟩
structure Good (rows : List (List UInt8)) (i n : Nat) (s : Seg) : Prop where
 ok : s.Ok
 on : SegOn rows i s
 slot : s.slot < n
 full : s.recs ≠ []
 first : s.first ≤ 274877906943
def VN (b f n : Nat) (u E : Value) : Nat → World → Value → Prop
 | 0 => IsV (.pointer (some ⟨b, 1, none⟩))
 | 1 => IsV (.int .i64 (f : Int))
 | 2 => IsV (.agg #[u, .int .i64 (f : Int), E])
 | 3 => IsV (.int .i64 (n : Int))
 | 4 => IsV (.int .i64 ((f : Int) + (n : Int)))
 | 5 => IsV (.int .i64 ((f : Int) + (n : Int)))
 | _ => fun _ _ => True
theorem VN_any {b f n : Nat} {u E : Value} (i : Nat) (w w' : World) (x : Value) (hv : VN b f n u E i w x) : VN b f n u E i w' x := by
 match i, hv with
 | 0, hv => exact hv
 | 1, hv => exact hv
 | 2, hv => exact hv
 | 3, hv => exact hv
 | 4, hv => exact hv
 | 5, hv => exact hv
 | n + 6, _ => trivial
set_option maxRecDepth 100000 in
set_option maxHeartbeats 1000000 in
theorem snext_any (w : World) (sl f : Nat) (A : Option Addr) (n c : Nat) (hf : f ≤ 274877906944) (hn : n ≤ 4096) :
  Calls Tryz.prog 118 #[.agg #[.int .i64 (sl : Int), .int .i64 (f : Int), .slice A n c]] w fun e w' => e = .returned (.int .i64 ((f : Int) + (n : Int))) ∧ Kp w w' := by
 have HB0 := Lib.hid (SBox.new w sl f (.slice A n c))
 have HK0 := Lib.hid (show Kp w (w.alloc (.cells #[.int .i64 (sl : Int), .int .i64 (f : Int), .slice A n c] 179)) from (Keeps.refl _ w).alloc _)
 go_enter Tryz.func118, Tryz.ntmps118
 go_wp2_with fail
 obtain ⟨w0, hw0⟩ : ∃ w0, w.alloc (.cells #[.int .i64 (sl : Int), .int .i64 (f : Int), .slice A n c] 179) = w0 := ⟨_, rfl⟩
 rw [hw0]
 rw [hw0] at HK0 HB0
 clear hw0
 refine wp_region_guard (R := Kp) (V := VN w.heap.size f n (.int .i64 (sl : Int)) (.slice A n c)) (w0 := w0) GE (by kernel_rfl) (fun w => Keeps.refl _ w) (fun _ _ _ h k => h.trans k) (fun i w w' v _ hv => VN_any i w w' v hv) (by kernel_rfl) GE_is (fun i o ho hw => (all_wanted (by kernel_rfl) ho hw).elim) ((Keeps.refl _ w0).drew) (each_of ?_) ?_
 ·refine ⟨?_, ?_, ?_, ?_, ?_, ?_, trivial⟩ <;> intro hw a1 w3 L
  ·exact kp_fG1 rfl (L.old 1 (by kernel_rfl))
  ·exact kp_lI64 (HB0.out.keep L.rel trivial).f rfl (L.val 0 3 (by kernel_rfl) (by kernel_rfl))
  ·have hb := HB0.out.keep L.rel trivial
   exact kp_lG hb.s hb.f hb.e rfl (L.old 1 (by kernel_rfl))
  ·have e0 : a1.eval (.tmp 5) = .agg #[.int .i64 (sl : Int), .int .i64 (f : Int), .slice A n c] := L.val 2 5 (by kernel_rfl) (by kernel_rfl)
   have hf : a1.eval (.func 148) = .func (.func 148) #[] #[] := rfl
   refine kp_enter (f := 148) (args := #[.agg #[.int .i64 (sl : Int), .int .i64 (f : Int), .slice A n c]]) ?_ (count_any w3 _ _ A n c rfl rfl) ?_
   ·clear L
    generalize a1.eval = ρ at e0 hf ⊢
    unfold execOp
    go_simp
   ·rintro e w' ⟨rfl, hk⟩
    exact ⟨_, rfl, hk, rfl⟩
  ·have e0 : a1.eval (.tmp 4) = .int .i64 (f : Int) := L.val 1 4 (by kernel_rfl) (by kernel_rfl)
   have e1 : a1.eval (.tmp 6) = .int .i64 (n : Int) := L.val 3 6 (by kernel_rfl) (by kernel_rfl)
   have hw1 : IntKind.i64.wrap ((f : Int) + (n : Int)) = (f : Int) + (n : Int) := by rw [IntKind.wrap_i64]; omega
   refine kp_yield (v := .int .i64 ((f : Int) + (n : Int))) (w' := w3) ?_ (Keeps.refl _ _) rfl
   clear L
   generalize a1.eval = ρ at e0 e1 ⊢
   unfold execOp
   go_simp
  ·exact kp_assign rfl (L.val 4 7 (by kernel_rfl) (by kernel_rfl))
 ·intro vs w4 hk4 hlen4 hv
  match vs, hlen4 with
  | [v0, v1, v2, v3, v4, v5], _ =>
   have e5 : v5 = .int .i64 ((f : Int) + (n : Int)) := hv 5 2 (by kernel_rfl)
   clear hv
   subst e5
   simp only [putAll, List.map, Act.put, List.setIfInBounds_toArray, List.set_cons_succ, List.set_cons_zero, Exit.then]
   have HK4 := Lib.hid (HK0.out.trans hk4)
   clear hk4
   go_wp2_with fail
   go_ret
   exact ⟨rfl, HK4.out⟩
theorem src_recs (W : World) (base g c m : Nat) (ps : List (Nat × List UInt8)) (vs : List Value) (hm : m = ps.length) (h : vs.length = ps.length) (hv : ∀ v ∈ vs, v.oneCell' = true) (ho : W.ownsRow base 172 2 (.slice (some ⟨g, 0, none⟩) m c) m (recC ps vs)) :
  Src Tryz.prog 2 169 (.slice (some ⟨g, 0, none⟩) m c) m (recC ps vs) W :=
 Src.ofSlice _ Tryz.underlying169 ⟨g, 0, none⟩ m c (recC ps vs) (by rw [recC_len _ _ h, hm]) (fun j v hj => ho.cells (g := g) rfl j v hj) (recC_one _ _ hv)
theorem flat_take (ks : List Seg) (k : Nat) (h : k < ks.length) : ((ks.take (k + 1)).flatMap Seg.recs).map LRec.key = ((ks.take k).flatMap Seg.recs).map LRec.key ++ ((ks[k]).recs).map LRec.key := by
 rw [take_next _ _ h, List.flatMap_append, List.map_append, List.flatMap_cons, List.flatMap_nil, List.append_nil]
set_option maxRecDepth 100000 in
set_option maxHeartbeats 2000000 in
theorem lall_any (w : World) (hT : Taken w) (q : Nat) (Fs : Foot) (p i n : Nat) (ks : List Seg) (sl left nx : Nat) (tl : List UInt8) (K T : Value) (Es : List Value) (h : LogAt w q Fs p i n ks sl left nx tl K T Es) (F : Foot) (s : SDev) (hd : DAt w p F s)
  (hg : ∀ sg ∈ ks, Good s.now i n sg) (hn : n ≤ 200) (hin : i + 8 * n ≤ s.now.length) (hkn : ks.length ≤ n) :
  Calls Tryz.prog 97 #[.pointer (some ⟨q, 0, none⟩)] w fun e w' => ∃ v, e = .returned v ∧ RecRow w' w.heap.size v ((ks.flatMap Seg.recs).map LRec.key) ∧ Kp w w' := by
 have hsm := hd.ok.small
 have HDN := Lib.hid (down_no w q p i n h.head)
 have HBD := Lib.hid (fun (w' : World) (hk : Kp w w') (sg : Seg) (E : Value) (hm : sg ∈ ks) (hE : SegV w' Fs.M sg E) => bodies_any w' (hT.keep hk) q p i n (h.head.keep hk trivial) F s (hd.keep (hk.mono fun _ _ _ => trivial)) sg E Fs.M hE (hg sg hm).ok (hg sg hm).full (hg sg hm).on (by omega) (by have := (hg sg hm).slot; omega) (hg sg hm).first (by have := (hg sg hm).slot; omega))
 have HCN := Lib.hid (fun (k : Nat) (hk : k ≤ ks.length) => (show (((ks.take k).flatMap Seg.recs).map LRec.key).length ≤ 212 * k from by
  induction k with
  | zero => simp
  | succ k ih =>
   have e : ((ks[k]).recs.map LRec.key).length = (ks[k]).recs.length := List.length_map ..
   rw [flat_take ks k hk, List.length_append, e]
   have := ih (Nat.le_of_succ_le hk)
   have := (hg _ (List.getElem_mem hk)).ok.count
   omega))
 have HGC := Lib.hid (fun (k : Nat) (hk : k < ks.length) => (hg _ (List.getElem_mem hk)).ok.count)
 have HFU := Lib.hid (fun (k : Nat) (hk : k < ks.length) => (hg _ (List.getElem_mem hk)).full)
 obtain ⟨A, c, rfl, hlc, hcm, hs⟩ := h.segs
 unfold maxLen at hcm
 have c3 := (cell_of_block h.blk 3).trans rfl
 have HSG := Lib.hid hs
 have hkn2 : ks.length ≤ 200 := by omega
 clear h hs hT hd hg
 go_enter Tryz.func97, Tryz.ntmps97
 go_wp2_with fail
 refine HDN.out.mono ?_
 rintro e w' ⟨rfl, rfl⟩
 go_wp2_with fail
 go_loopw [3, 13] (fun vo vj wr => ∃ (k : Nat) (u : Value), k ≤ ks.length ∧ vj = .int .i64 k ∧ u = vo ∧ RecRow wr w.heap.size u (((ks.take k).flatMap Seg.recs).map LRec.key) ∧ Kp w wr) (fun _ vj _ => ks.length - (intOf vj).toNat)
 case atStart => exact ⟨0, _, Nat.zero_le _, rfl, rfl, by rw [List.take_zero]; exact RecRow.nil _ _, Keeps.refl _ _⟩
 case round =>
  obtain ⟨k, u, hk, rfl, hu, hrr, hkp⟩ := hrel
  subst hu
  by_cases hlt : k < ks.length
  ·obtain ⟨b, o, E, rfl, hbM, d0, d1, d2, hE⟩ := (HSG.out.keep (hkp.mono fun _ _ _ => trivial)) k hlt
   obtain ⟨AE, cE, rfl, -⟩ := hE.ex
   have HRR := Lib.hid hrr
   have HK := Lib.hid hkp
   have HE := Lib.hid hE
   have hk2 : Kp wr (wr.alloc (.cells #[.int .i64 ((ks[k]).slot : Int), .int .i64 ((ks[k]).first : Int), .slice AE (ks[k]).recs.length cE] 179)) := (Keeps.refl _ wr).alloc _
   have HK2 := Lib.hid hk2
   have HFL := Lib.hid (flat_take ks k hlt)
   have HMEM := Lib.hid (List.getElem_mem hlt)
   have hcn := HCN.out k hk
   have hgc := HGC.out k hlt
   have HFK := Lib.hid (HFU.out k hlt)
   generalize ks[k] = sg at d0 d1 d2 HE HK2 HFL HMEM hgc HFK
   obtain ⟨w0, hw0⟩ : ∃ w0, wr.alloc (.cells #[.int .i64 (sg.slot : Int), .int .i64 (sg.first : Int), .slice AE sg.recs.length cE] 179) = w0 := ⟨_, rfl⟩
   have HW0 := Lib.hid hw0
   rw [hw0] at HK2
   clear hrr hkp hE hk2 hw0
   go_wp2_with fail
   rw [HW0.out]
   refine (HBD.out w0 (HK.out.trans HK2.out) sg _ HMEM.out (HE.out.keep (HK2.out.mono fun _ _ _ => trivial))).mono ?_
   rintro e' w1 ⟨vb, rfl, hrb, hk1⟩
   obtain ⟨us, hu1, hu2, hu3⟩ := hrb.ex
   have hlen1 : (sg.recs.map LRec.key).length = sg.recs.length := List.length_map ..
   have hpos : 0 < (sg.recs.map LRec.key).length := by rw [hlen1]; exact List.length_pos_iff.2 HFK.out
   obtain ⟨ml, hml⟩ : ∃ ml, (sg.recs.map LRec.key).length = ml := ⟨_, rfl⟩
   rw [hml] at hu2 hpos hlen1
   have hml2 : ml ≤ 212 := by omega
   clear hlen1
   obtain ⟨g, cg, rfl, hbase, hglt⟩ := hu2.form hpos
   have hkk : Kp wr w1 := HK2.out.trans hk1
   have HRR1 := Lib.hid (HRR.out.keep hkk)
   obtain ⟨vs0, hv1, hv2, hv3⟩ := HRR1.out.ex
   have hown : ∀ b, u.ownBlock = some b → b < wr.heap.size := fun b hb => by
    obtain ⟨vs1, q1, q2, q3⟩ := HRR.out.ex
    exact (q2.lt b hb).2
   have HOB := Lib.hid hown
   have huone : ∀ v ∈ us, v.oneCell' = true := fun v hv => by
    obtain ⟨j, hj, e⟩ := List.getElem_of_mem hv
    obtain ⟨B, cc, e2, -⟩ := hu3 j (by rw [← hu1]; exact hj)
    rw [List.getElem?_eq_getElem hj, e] at e2
    injection e2 with e2
    rw [e2]; rfl
   have HSR := Lib.hid (src_recs w1 _ g cg ml (sg.recs.map LRec.key) us hml.symm hu1 huone hu2)
   have HK1 := Lib.hid (HK.out.trans hkk)
   have HV1 := Lib.hid hv1
   obtain ⟨vl, hvl⟩ : ∃ vl, (((ks.take k).flatMap Seg.recs).map LRec.key).length = vl := ⟨_, rfl⟩
   rw [hvl] at hv2 hcn
   have HV2 := Lib.hid hv2
   have HV3 := Lib.hid hv3
   have HVL := Lib.hid hvl
   have HML := Lib.hid hml
   have HU1 := Lib.hid hu1
   have HU3 := Lib.hid hu3
   have hz1 := HK1.out.size
   have hz2 := HK2.out.size
   have hz3 := HK.out.size
   clear hvl hml
   clear hv1 hv2 hv3 hu1 hu2 hu3 hk1 hrb hkk huone hown HRR HK2 HE HRR1
   go_wp2_with (at_builtin; refine rec_elem.list_append rfl (.tmp 17) (.tmp 20) _ rfl rfl HV2.out rfl HSR.out ?c3 ?c4 hz1 ?_)
   case c3 => unfold maxLen; omega
   case c4 => omega
   intro v5 w5 ho5 hg5 hb5
   have hown4 := HV2.out
   have HR5 := Lib.hid (show RecRow w5 w.heap.size v5 (((ks.take (k + 1)).flatMap Seg.recs).map LRec.key) from by
    rw [HFL.out]
    refine RecRow.put (w := w1) (v := u) (vs := vs0) (us := us) HV1.out (by rw [HVL.out]; exact HV2.out) HV3.out HU1.out (fun j hj => ?_) (by rw [HVL.out, HML.out]; exact ho5) hg5 hb5
    obtain ⟨B, cc, e, hr⟩ := HU3.out j hj
    exact ⟨B, cc, e, hr.mono fun b _ hb => ⟨by omega, fun e => by have := HOB.out b e; omega⟩⟩)
   have HK5 := Lib.hid (show Kp w w5 from HK1.out.grown hg5 fun b hb => (hown4.lt b hb).1)
   clear ho5 hg5 hb5 hown4 HV1 HV2 HV3 HSR HU1 HU3
   go_wp2_with fail
   go_roundw
   case rel => exact ⟨k + 1, _, by omega, by go_num, rfl, HR5.out, HK5.out⟩
   case measure => simp [intOf]; omega
  ·obtain rfl : k = ks.length := by omega
   rw [List.take_length] at hrr
   have H1 := Lib.hid hrr
   have H2 := Lib.hid hkp
   clear hrr hkp
   go_wp2_with fail
   go_ret
   exact ⟨_, rfl, H1.out, H2.out⟩
def goes (full : Bool) (ks : List Seg) : List Seg := if full then ks.tail else ks
def goesE (full : Bool) (Es : List Value) : List Value := if full then Es.tail else Es
def Turn (full : Bool) (ks : List Seg) (y : Nat) : Prop := if full then 0 < ks.length ∧ (∀ h : 0 < ks.length, (ks[0]).slot = y) ∧ ∀ k (h : k < ks.length), 0 < k → (ks[k]).slot ≠ y else ∀ k (h : k < ks.length), (ks[k]).slot ≠ y
theorem LogAt.pairs {w : World} {q p i n sl left nx : Nat} {F : Foot} {ks : List Seg} {tl : List UInt8} {K T : Value} {Es : List Value} (h : LogAt w q F p i n ks sl left nx tl K T Es) : ∃ d : List SegP, d.map Prod.fst = ks ∧ d.map SegP.E = Es := by
 have hl := h.ends.len
 have hform : ∀ j (hj : j < ks.length), ∃ A c, Es[j]'(by omega) = .slice A (ks[j]).recs.length c := fun j hj => by
  obtain ⟨A, c, e, -, -⟩ := own_slice (h.ends.own j hj)
  exact ⟨A, c, e⟩
 clear h
 induction ks generalizing Es with
 | nil => exact ⟨[], rfl, (List.eq_nil_of_length_eq_zero (by simpa using hl)).symm⟩
 | cons s ks ih =>
  cases Es with
  | nil => cases hl
  | cons E Es =>
   obtain ⟨A, c, e⟩ := hform 0 (by simp)
   obtain ⟨d, h1, h2⟩ := ih (Es := Es) (by simpa using hl) (fun j hj => by
    obtain ⟨A, c, e⟩ := hform (j + 1) (by simpa using hj)
    exact ⟨A, c, by simpa using e⟩)
   refine ⟨(s, (A, c)) :: d, by simp [h1], ?_⟩
   simp only [List.map_cons, h2]
   have : SegP.E (s, (A, c)) = E := by simpa [SegP.E] using e.symm
   rw [this]
theorem SegsAt.any {w : World} {A : Option Addr} {G H : Nat → Prop} {ks : List Seg} (h : SegsAt w A G ks) (hh : ∀ b, G b → H b) : SegsAt w A H ks := fun k hl => by
 obtain ⟨b, o, E, e, hG, c0, c1, c2, hE⟩ := h k hl
 exact ⟨b, o, E, e, hh b hG, c0, c1, c2, hE.mono hh⟩
theorem delete_any (w : World) (q : Nat) (F : Foot) (p i n : Nat) (ks : List Seg) (sl left nx : Nat) (tl : List UInt8) (K T : Value) (Es : List Value) (h : LogAt w q F p i n ks sl left nx tl K T Es) (hl : ks.length ≤ 4096) (b3 y : Nat) (hy : w.cell? ⟨b3, 0, none⟩ = some (.int .i64 (y : Int))) (hb3 : K.ownBlock ≠ some b3) (full : Bool) (hf : Turn full ks y) :
  Calls Tryz.prog 132 #[K, .func (.func 133) #[] #[.pointer (some ⟨b3, 0, none⟩)]] w fun e w' => ∃ K6, e = .returned K6 ∧ K6.ownBlock = K.ownBlock ∧
   w'.ownsRow 0 179 3 K6 (goes full ks).length (segC (goes full ks) (goesE full Es)) ∧ Keeps (fun b => K.ownBlock ≠ some b) w w' := by
 obtain ⟨A, c, e, hlc, hcm, hs⟩ := h.segs
 have hrow := h.row
 subst e
 cases full with
 | false =>
  refine (delete_none w A c b3 y F.M ks hs hy hl hf).mono ?_
  rintro e w' ⟨rfl, hk⟩
  exact ⟨_, rfl, rfl, hk.own hrow fun _ _ => trivial, hk.mono fun _ _ _ => trivial⟩
 | true =>
  obtain ⟨hp, hz, hne⟩ := hf
  obtain ⟨d, h1, h2⟩ := h.pairs
  have hdl : d.length = ks.length := by rw [← h1, List.length_map]
  obtain ⟨g, c', e, -, -⟩ := hrow.form hp
  injection e with e1 _ e3
  subst e1 e3
  rw [← h1, ← h2, segC_encP] at hrow
  have hs' := hs.any (H := fun _ => True) fun _ _ => trivial
  rw [← h1] at hs'
  have hd0 : ∀ k (hk : k < d.length), (d[k]).1 = ks[k]'(by omega) := fun k hk => by
   have : (d.map Prod.fst)[k]'(by simpa using hk) = ks[k]'(by omega) := by simp only [h1]
   rw [← this, List.getElem_map]
  have hm : (d.map Prod.fst).length = d.length := List.length_map ..
  rw [hm] at hrow
  rw [hdl] at hm
  refine (show Calls _ _ _ _ _ from delete_first w g c b3 y ks.length d hdl.symm (by rw [← hdl]; exact hrow) hs' hy (fun e => hb3 (by rw [e]; rfl)) (by omega) (by omega) (by rw [hd0 0 (by omega)]; exact hz (by omega)) (fun k hk h0 => by rw [hd0 k hk]; exact hne k (by omega) h0)).mono ?_
  rintro e w' ⟨rfl, ho, hk⟩
  refine ⟨_, rfl, rfl, ?_, hk.mono fun b _ hb e => hb (by rw [e]; rfl)⟩
  have e1 : goes true ks = d.tail.map Prod.fst := by show ks.tail = _; rw [← h1, List.map_tail]
  have e2 : goesE true Es = d.tail.map SegP.E := by show Es.tail = _; rw [← h2, List.map_tail]
  rw [e1, e2, segC_encP, List.length_map, List.length_tail, hdl]
  exact ho
structure LogMid (w : World) (q p i n : Nat) (ks : List Seg) (sl left nx : Nat) (K T : Value) (Es : List Value) : Prop where
 blk : LBlk w q p i n K sl left T nx
 row : w.ownsRow 0 179 3 K ks.length (segC ks Es)
 ends : EndsOwn w (fun b => b = q ∨ K.ownBlock = some b) ks Es
 kq : ∀ b, K.ownBlock = some b → b ≠ q
def hasB (q : Nat) (K : Value) (Es : List Value) (b : Nat) : Prop := b = q ∨ K.ownBlock = some b ∨ ∃ E ∈ Es, E.ownBlock = some b
section
variable {w w' : World} {q p i n sl left nx : Nat} {F : Foot} {ks : List Seg} {tl : List UInt8} {K T K' : Value} {Es : List Value}
theorem LogAt.mid (h : LogAt w q F p i n ks sl left nx tl K T Es) : LogMid w q p i n ks sl left nx K T Es := ⟨h.blk, h.row, h.ends, h.kq⟩
theorem LogMid.lt (h : LogMid w q p i n ks sl left nx K T Es) : ∀ b, hasB q K Es b → b < w.heap.size := fun b hb => by
 rcases hb with rfl | hb | ⟨E, hE, hb⟩
 ·exact (Array.getElem?_eq_some_iff.1 h.blk).1
 ·exact (h.row.lt b hb).2
 ·obtain ⟨j, hj, rfl⟩ := List.getElem_of_mem hE
  exact ((h.ends.own j (by have := h.ends.len; omega)).lt b hb).2
theorem goesE_mem {full : Bool} {E : Value} (hE : E ∈ goesE full Es) : E ∈ Es := by
 cases full
 ·exact hE
 ·exact List.mem_of_mem_tail hE
theorem EndsOwn.tail {X : Nat → Prop} (h : EndsOwn w X ks Es) : EndsOwn w X ks.tail Es.tail := by
 cases ks with
 | nil =>
  cases Es with
  | nil => exact h
  | cons E Es => exact absurd h.len (by simp)
 | cons s ks =>
  cases Es with
  | nil => exact absurd h.len (by simp)
  | cons E Es =>
   refine ⟨by simpa using h.len, fun j hj => ?_, fun F hF => h.out F (List.mem_cons_of_mem _ hF), (List.pairwise_cons.1 h.two).2⟩
   have h1 := h.own (j + 1) (by simpa using hj)
   simpa using h1
theorem EndsOwn.goes {X : Nat → Prop} (h : EndsOwn w X ks Es) (full : Bool) : EndsOwn w X (goes full ks) (goesE full Es) := by
 cases full
 ·exact h
 ·exact h.tail
theorem LogMid.cut (h : LogMid w q p i n ks sl left nx K T Es) (full : Bool) (he : K'.ownBlock = K.ownBlock) (hr : w'.ownsRow 0 179 3 K' (goes full ks).length (segC (goes full ks) (goesE full Es))) (hk : Keeps (fun b => K.ownBlock ≠ some b) w w') :
  LogMid (w'.setCell ⟨q, 3, none⟩ K') q p i n (goes full ks) sl left nx K' T (goesE full Es) := by
 have hb := h.blk.keep hk (fun e => h.kq q e rfl)
 have hs : Keeps (fun b => b ≠ q) w' (w'.setCell ⟨q, 3, none⟩ K') := (Keeps.refl _ w').setCell (.inr fun hn => hn rfl) _
 refine ⟨block_setCell hb (i := 3) K', hs.own hr fun b e => h.kq b (by rw [← he]; exact e), ?_, fun b e => h.kq b (by rw [← he]; exact e)⟩
 have h1 := (h.ends.goes full).keep (hk) fun E hE b e e2 => h.ends.out E (goesE_mem hE) b e (.inr e2)
 have h2 := h1.keep hs fun E hE b e e2 => h.ends.out E (goesE_mem hE) b e (.inl e2)
 exact ⟨h2.len, h2.own, fun E hE b e hx => h.ends.out E (goesE_mem hE) b e (hx.imp id fun e2 => by rw [← he]; exact e2), h2.two⟩
theorem LogMid.put (h : LogMid w q p i n ks sl left nx K T Es) (sg : Seg) (E : Value) (hsg : sg.recs = []) (hE : E = .slice none 0 0) (w0 : World) (h0 : Kp w w0) (hr : w'.ownsRow 0 179 3 K' (ks.length + 1) (segC ks Es ++ sg.cells E)) (hg : w0.grownBy w' K.ownBlock) (hb : K'.ownBlock = K.ownBlock ∨ K'.ownBlock = some w0.heap.size) :
  LogMid (w'.setCell ⟨q, 3, none⟩ K') q p i n (ks ++ [sg]) sl left nx K' T (Es ++ [E]) := by
 subst hE
 have hlt := h.lt
 have hk : Keeps (fun b => K.ownBlock ≠ some b) w w' := (h0.mono fun _ _ _ => trivial).trans (Keeps.of_grown hg fun b e _ hn => hn e)
 have hqs := hlt q (.inl rfl)
 have hz := h0.size
 have hbq : ∀ b, K'.ownBlock = some b → b ≠ q := fun b e => by
  rcases hb with e2 | e2
  ·exact h.kq b (by rw [← e2]; exact e)
  ·rw [e2] at e; injection e with e; omega
 have hbl := h.blk.keep hk (fun e => h.kq q e rfl)
 have hs : Keeps (fun b => b ≠ q) w' (w'.setCell ⟨q, 3, none⟩ K') := (Keeps.refl _ w').setCell (.inr fun hn => hn rfl) _
 have h1 := h.ends.keep hk fun E hE b e e2 => h.ends.out E hE b e (.inr e2)
 have h2 := h1.keep hs fun E hE b e e2 => h.ends.out E hE b e (.inl e2)
 have hc : segC (ks ++ [sg]) (Es ++ [.slice none 0 0]) = segC ks Es ++ sg.cells (.slice none 0 0) := by rw [segC_append _ _ _ _ h.ends.len]; simp [segC]
 refine ⟨block_setCell hbl (i := 3) K', by rw [List.length_append, hc]; exact hs.own hr hbq, ⟨by simp [h.ends.len], fun j hj => ?_, fun E hE b e hx => ?_, ?_⟩, hbq⟩
 ·by_cases hlt : j < ks.length
  ·rw [List.getElem_append_left hlt, List.getElem_append_left (by rw [h.ends.len]; exact hlt)]
   exact h2.own j hlt
  ·have hj' : j = ks.length := by simp at hj; omega
   subst hj'
   rw [List.getElem_concat_length rfl, List.getElem_concat_length h.ends.len.symm, hsg]
   exact World.ownsRow_nil _ _ _ _
 ·rcases List.mem_append.1 hE with hE | hE
  ·rcases hx with hx | hx
   ·exact h.ends.out E hE b e (.inl hx)
   ·rcases hb with e2 | e2
    ·exact h.ends.out E hE b e (.inr (by rw [← e2]; exact hx))
    ·rw [e2] at hx; injection hx with hx
     have := hlt b (.inr (.inr ⟨E, hE, e⟩))
     omega
  ·rw [List.mem_singleton.1 hE] at e; cases e
 ·refine List.pairwise_append.2 ⟨h.ends.two, by simp, fun a ha b hb => ?_⟩
  rw [List.mem_singleton.1 hb]
  intro x _ e; cases e
theorem LogMid.set (h : LogMid w q p i n ks sl left nx K T Es) {sl' left' nx' : Nat} {T' : Value} (hb : LBlk w' q p i n K sl' left' T' nx') (hk : Keeps (fun b => b ≠ q) w w') : LogMid w' q p i n ks sl' left' nx' K T' Es :=
 ⟨hb, hk.own h.row h.kq, h.ends.keep hk fun E hE b e e2 => h.ends.out E hE b e (.inl e2), h.kq⟩
theorem LogMid.at_ (h : LogMid w q p i n ks sl left nx K T Es) (I : Nat → Prop) (hI : ∀ b, I b → b < w.heap.size) (hd : ∀ b, hasB q K Es b → ¬ I b) (ht : ∃ A c, T = .slice A tl.length c ∧ tl.length ≤ c ∧ c ≤ maxLen ∧ Row w A I (bcells tl)) : LogAt w q ⟨hasB q K Es, I⟩ p i n ks sl left nx tl K T Es :=
 ⟨h.blk, h.row, h.ends, h.kq, ht, .inl rfl, fun b e => .inr (.inl e), fun E hE b e => .inr (.inr ⟨E, hE, e⟩), fun b hb => hb.elim (h.lt b) (hI b), hd⟩
end
end Go.Proofs.YticophaepapjoaaGreatDoor
