/-
  THE PROGRAM's LOG in memory: its block, its segments' row, their ends; First, Next, Flush; what a nil one answers.
-/
import Derived.Test.YtgdbkmecfbkobaaDoorSlgRecs
namespace Go.Proofs.YtgdbkmecfbkobaaDoor
open Go Go.RowKit Go.Joins

theorem seg_elem : Elem Tryd.prog 58 67 (.agg #[.int .i64 0, .int .i64 0, .slice none 0 0]) 3 40 := ⟨Tryd.underlying58, by kernel_rfl, rfl, by decide⟩
/-- A segment's cells. -/
def Seg.cells (s : Seg) (E : Value) : List Value := [.int .i64 (s.slot : Int), .int .i64 (s.first : Int), E]
def segC : List Seg → List Value → List Value
  | s :: ks, E :: Es => s.cells E ++ segC ks Es
  | _, _ => []
theorem segC_append (ks : List Seg) (Es : List Value) (ls : List Seg) (Ls : List Value) (h : Es.length = ks.length) : segC (ks ++ ls) (Es ++ Ls) = segC ks Es ++ segC ls Ls := by
  induction ks generalizing Es with
  | nil => cases Es with
    | nil => rfl
    | cons v vs => cases h
  | cons p ps ih => cases Es with
    | nil => cases h
    | cons v vs => simp only [List.cons_append, segC]; rw [ih vs (by simpa using h)]; simp [Seg.cells]
theorem segC_len (ks : List Seg) (Es : List Value) (h : Es.length = ks.length) : (segC ks Es).length = ks.length * 3 := by
  induction ks generalizing Es with
  | nil => cases Es with
    | nil => rfl
    | cons v vs => cases h
  | cons p ps ih => cases Es with
    | nil => cases h
    | cons v vs => simp only [segC, List.length_append, List.length_cons, Seg.cells]; rw [ih vs (by simpa using h)]; simp; omega
theorem segC_at (ks : List Seg) (Es : List Value) (h : Es.length = ks.length) (j t : Nat) (hj : j < ks.length) (ht : t < 3) : (segC ks Es)[j * 3 + t]? = ((ks[j]).cells (Es[j]'(by omega)))[t]? := by
  induction ks generalizing Es j with
  | nil => simp at hj
  | cons p ps ih => cases Es with
    | nil => cases h
    | cons v vs => cases j with
      | zero => simp only [segC, Nat.zero_mul, Nat.zero_add, List.getElem_cons_zero]; rw [List.getElem?_append_left (by simp [Seg.cells]; omega)]
      | succ j =>
        have := ih vs (by simpa using h) j (by simpa using hj)
        simp only [segC, List.getElem_cons_succ]
        rw [List.getElem?_append_right (by simp [Seg.cells]; omega)]
        rw [← this]
        congr 1
        simp [Seg.cells]; omega
/-- A row of segments, as a loop reads it. -/
def SegsAt (w : World) (A : Option Addr) (G : Nat → Prop) (ks : List Seg) : Prop := ∀ k (h : k < ks.length), ∃ b o E, A = some ⟨b, o, none⟩ ∧ G b ∧ w.cell? ⟨b, o + k * 3, none⟩ = some (.int .i64 ((ks[k]).slot : Int)) ∧
  w.cell? ⟨b, o + k * 3 + 1, none⟩ = some (.int .i64 ((ks[k]).first : Int)) ∧ w.cell? ⟨b, o + k * 3 + 2, none⟩ = some E ∧ SegV w G ks[k] E
theorem SegsAt.keep {w w' : World} {A : Option Addr} {G : Nat → Prop} {ks : List Seg} (h : SegsAt w A G ks) (hk : Keeps G w w') : SegsAt w' A G ks := fun k hl => by
  obtain ⟨b, o, E, e, hG, c0, c1, c2, hE⟩ := h k hl
  exact ⟨b, o, E, e, hG, hk.cell c0 hG, hk.cell c1 hG, hk.cell c2 hG, hE.keep hk⟩
/-- The log's block. -/
def LBlk (w : World) (q p i n : Nat) (K : Value) (sl left : Nat) (T : Value) (nx : Nat) : Prop :=
  w.heap[q]? = some (.cells #[.pointer (some ⟨p, 0, none⟩), .int .i64 (i : Int), .int .i64 (n : Int), K, .int .i64 (sl : Int), .int .i64 (left : Int), T, .int .i64 (nx : Int)] 60 (0, 0))
theorem LBlk.keep {w w' : World} {q p i n sl left nx : Nat} {K T : Value} {G : Nat → Prop} (h : LBlk w q p i n K sl left T nx) (hk : Keeps G w w') (hG : G q) : LBlk w' q p i n K sl left T nx := by
  have hlt : q < w.heap.size := (Array.getElem?_eq_some_iff.1 h).1
  exact (hk.block q hG hlt).trans h
theorem LBlk.head {w : World} {q p i n sl left nx : Nat} {K T : Value} (h : LBlk w q p i n K sl left T nx) : LHead w q p i n := ⟨(cell_of_block h 0).trans rfl, (cell_of_block h 1).trans rfl, (cell_of_block h 2).trans rfl⟩
/-- The rows of the ends: each its own, apart from one another and from what 'X' holds. -/
structure EndsOwn (w : World) (X : Nat → Prop) (ks : List Seg) (Es : List Value) : Prop where
  len : Es.length = ks.length
  own : ∀ j (hj : j < ks.length), w.ownsRow 0 3 1 (Es[j]'(by omega)) (ks[j]).recs.length (endsC (ks[j]).recs)
  out : ∀ E ∈ Es, ∀ b, E.ownBlock = some b → ¬ X b
  two : Es.Pairwise ApartV
/-- The program's log at block q. -/
structure LogAt (w : World) (q : Nat) (F : Foot) (p i n : Nat) (ks : List Seg) (sl left nx : Nat) (tl : List UInt8) (K T : Value) (Es : List Value) : Prop where
  blk : LBlk w q p i n K sl left T nx
  row : w.ownsRow 0 67 3 K ks.length (segC ks Es)
  ends : EndsOwn w (fun b => b = q ∨ K.ownBlock = some b) ks Es
  kq : ∀ b, K.ownBlock = some b → b ≠ q
  tail : ∃ A c, T = .slice A tl.length c ∧ tl.length ≤ c ∧ c ≤ maxLen ∧ Row w A F.I (bcells tl)
  mq : F.M q
  mkk : ∀ b, K.ownBlock = some b → F.M b
  me : ∀ E ∈ Es, ∀ b, E.ownBlock = some b → F.M b
  lt : ∀ b, F.all b → b < w.heap.size
  apart : ∀ b, F.M b → ¬ F.I b
section
variable {w w' : World} {q p i n sl left nx : Nat} {F : Foot} {ks : List Seg} {tl : List UInt8} {K T : Value} {Es : List Value}
theorem EndsOwn.keep {X G : Nat → Prop} (h : EndsOwn w X ks Es) (hk : Keeps G w w') (hG : ∀ E ∈ Es, ∀ b, E.ownBlock = some b → G b) : EndsOwn w' X ks Es :=
  ⟨h.len, fun j hj => hk.own (h.own j hj) fun b hb => hG _ (List.getElem_mem (by have := h.len; omega)) b hb, h.out, h.two⟩
theorem LogAt.keep (h : LogAt w q F p i n ks sl left nx tl K T Es) (hk : Keeps F.all w w') : LogAt w' q F p i n ks sl left nx tl K T Es := by
  obtain ⟨A, c, e, h1, h2, hr⟩ := h.tail
  exact ⟨h.blk.keep hk (.inl h.mq), hk.own h.row fun b hb => .inl (h.mkk b hb), h.ends.keep hk fun E hE b hb => .inl (h.me E hE b hb), h.kq, ⟨A, c, e, h1, h2, hr.keep (hk.mono fun _ _ hb => .inr hb)⟩, h.mq, h.mkk, h.me, fun b hb => Nat.lt_of_lt_of_le (h.lt b hb) hk.size, h.apart⟩
theorem LogAt.head (h : LogAt w q F p i n ks sl left nx tl K T Es) : LHead w q p i n := h.blk.head
/-- What a loop over its segments reads. -/
theorem LogAt.segs (h : LogAt w q F p i n ks sl left nx tl K T Es) : ∃ A c, K = .slice A ks.length c ∧ ks.length ≤ c ∧ c ≤ maxLen ∧ SegsAt w A F.M ks := by
  have hl := h.ends.len
  rcases Nat.eq_zero_or_pos ks.length with h0 | hp
  · rcases h.row.2 with ⟨e, -⟩ | ⟨g, cap, cur, e, -, -, h1, h2, -⟩
    · exact ⟨none, 0, by rw [e, h0], by omega, by decide, fun k hk => by omega⟩
    · exact ⟨_, cap, e, h1, h2, fun k hk => by omega⟩
  · obtain ⟨g, c, e, hb, hlt⟩ := h.row.form hp
    have hrow := h.row
    rw [e] at hrow
    have hroom := own_room hrow
    refine ⟨_, c, e, hroom.1, hroom.2, fun k hk => ?_⟩
    have hc : ∀ t, t < 3 → w.cell? ⟨g, 0 + k * 3 + t, none⟩ = ((ks[k]).cells (Es[k]'(by omega)))[t]? := fun t ht => by
      have h1 := segC_at ks Es hl k t hk ht
      have hv : ∃ v, ((ks[k]).cells (Es[k]'(by omega)))[t]? = some v := ⟨_, List.getElem?_eq_getElem (by simp [Seg.cells]; omega)⟩
      obtain ⟨v, hv⟩ := hv
      rw [hv] at h1 ⊢
      have := hrow.cells (g := g) rfl _ v h1
      rw [WideShapes.add_plain] at this
      rw [show 0 + k * 3 + t = 0 + (k * 3 + t) by omega]
      exact this
    refine ⟨g, 0, _, rfl, h.mkk g (by rw [e]; rfl), hc 0 (by omega), hc 1 (by omega), hc 2 (by omega), ?_⟩
    have ho := h.ends.own k hk
    obtain ⟨A2, c2, e2, -, hr2⟩ := own_slice ho
    refine ⟨A2, c2, e2, ?_⟩
    intro hne
    obtain ⟨b, o, e3, hb3, hc3⟩ := hr2 hne
    refine ⟨b, o, e3, h.me (Es[k]'(by omega)) (List.getElem_mem _) b ?_, hc3⟩
    have hp2 : 0 < (ks[k]).recs.length := by have := List.length_pos_iff.2 hne; rwa [endsC_len] at this
    obtain ⟨g3, c4, e4, -⟩ := ho.form hp2
    rw [e4] at e2 ⊢
    injection e2 with e5
    rw [e3] at e5
    injection e5 with e6
    injection e6 with e7
    rw [← e7]; rfl
end

theorem lfirst_any (w : World) (q : Nat) (F : Foot) (p i n : Nat) (ks : List Seg) (sl left nx : Nat) (tl : List UInt8) (K T : Value) (Es : List Value) (h : LogAt w q F p i n ks sl left nx tl K T Es) :
    Calls Tryd.prog 17 #[.pointer (some ⟨q, 0, none⟩)] w fun e w' => e = .returned (.int .i64 ((match ks with | [] => nx | s :: _ => s.first : Nat) : Int)) ∧ w = w' := by
  have HDN := Lib.hid (down_no w q p i n h.head)
  obtain ⟨A, c, rfl, hlc, hcm, hs⟩ := h.segs
  unfold maxLen at hcm
  have c3 := (cell_of_block h.blk 3).trans rfl
  have c7 := (cell_of_block h.blk 7).trans rfl
  cases ks with
  | nil =>
    simp only [List.length_nil] at c3 ⊢
    clear h hs
    go_enter Tryd.func17, Tryd.ntmps17
    go_wp2_with fail
    refine HDN.out.mono ?_
    rintro e w' ⟨rfl, rfl⟩
    go_wp2_with fail
    go_ret
    exact ⟨rfl, rfl⟩
  | cons s ks =>
    obtain ⟨b, o, E, rfl, -, -, c1, -, -⟩ := hs 0 (by simp)
    simp only [List.getElem_cons_zero, Nat.zero_mul, Nat.add_zero, List.length_cons] at c1 c3 hlc ⊢
    have hd : ((((ks.length + 1 : Nat) : Int)) == 0) = false := by simp; omega
    have hlt : (0 : Int) < ((ks.length + 1 : Nat) : Int) := by omega
    clear h hs
    generalize ks.length + 1 = m at c3 hd hlt hlc
    go_enter Tryd.func17, Tryd.ntmps17
    go_wp2_with fail
    refine HDN.out.mono ?_
    rintro e w' ⟨rfl, rfl⟩
    go_wp2_with fail
    go_ret
    exact ⟨rfl, rfl⟩
theorem lnext_any (w : World) (q : Nat) (F : Foot) (p i n : Nat) (ks : List Seg) (sl left nx : Nat) (tl : List UInt8) (K T : Value) (Es : List Value) (h : LogAt w q F p i n ks sl left nx tl K T Es) :
    Calls Tryd.prog 18 #[.pointer (some ⟨q, 0, none⟩)] w fun e w' => e = .returned (.int .i64 (nx : Int)) ∧ w = w' := by
  have HDN := Lib.hid (down_no w q p i n h.head)
  have c7 := (cell_of_block h.blk 7).trans rfl
  clear h
  go_enter Tryd.func18, Tryd.ntmps18
  go_wp2_with fail
  refine HDN.out.mono ?_
  rintro e w' ⟨rfl, rfl⟩
  go_wp2_with fail
  go_ret
  exact ⟨rfl, rfl⟩
theorem lflush_any (w : World) (q : Nat) (Fs : Foot) (p i n : Nat) (ks : List Seg) (sl left nx : Nat) (tl : List UInt8) (K T : Value) (Es : List Value) (h : LogAt w q Fs p i n ks sl left nx tl K T Es) (F : Foot) (s : SDev) (hd : DAt w p F s) (hcalls : s.calls ≤ 1099511627776) :
    Calls Tryd.prog 13 #[.pointer (some ⟨q, 0, none⟩)] w fun e w' => e = .returned (.int .i64 0) ∧ ∃ F', DAt w' p F' s.flush ∧ Step F F' w w' := by
  have HDN := Lib.hid (down_no w q p i n h.head)
  have c0 := h.head.d
  have HF := Lib.hid (dflush_any w p F s hd hcalls)
  clear h hd
  go_enter Tryd.func13, Tryd.ntmps13
  go_wp2_with fail
  refine HDN.out.mono ?_
  rintro e w' ⟨rfl, rfl⟩
  go_wp2_with fail
  refine HF.out.mono ?_
  rintro e w' ⟨rfl, hx⟩
  have HX := Lib.hid hx
  clear hx
  go_wp2_with fail
  go_ret
  exact ⟨rfl, HX.out⟩

/-! ### A nil log -/
theorem lappend_nil (w : World) (v : Value) : Calls Tryd.prog 12 #[.pointer none, v] w fun e w' => (∃ u, e = .returned (.tuple #[u, .int .i64 8])) ∧ Kp w w' := by
  have HDN := Lib.hid (down_yes w)
  go_enter Tryd.func12, Tryd.ntmps12
  go_wp2_with fail
  refine HDN.out.mono ?_
  rintro e w' ⟨rfl, rfl⟩
  go_wp2_with fail
  go_ret2
  exact ⟨⟨_, rfl⟩, Keeps.refl _ _⟩
theorem lread_nil (w : World) (v : Value) : Calls Tryd.prog 15 #[.pointer none, v] w fun e w' => (∃ u, e = .returned (.tuple #[u, .int .i64 8])) ∧ Kp w w' := by
  have HDN := Lib.hid (down_yes w)
  go_enter Tryd.func15, Tryd.ntmps15
  go_wp2_with fail
  refine HDN.out.mono ?_
  rintro e w' ⟨rfl, rfl⟩
  go_wp2_with fail
  go_ret2
  exact ⟨⟨_, rfl⟩, Keeps.refl _ _⟩
theorem lflush_nil (w : World) : Calls Tryd.prog 13 #[.pointer none] w fun e w' => e = .returned (.int .i64 8) ∧ Kp w w' := by
  have HDN := Lib.hid (down_yes w)
  go_enter Tryd.func13, Tryd.ntmps13
  go_wp2_with fail
  refine HDN.out.mono ?_
  rintro e w' ⟨rfl, rfl⟩
  go_wp2_with fail
  go_ret
  exact ⟨rfl, Keeps.refl _ _⟩
theorem lall_nil (w : World) : Calls Tryd.prog 16 #[.pointer none] w fun e w' => (∃ A c, e = .returned (.slice A 0 c)) ∧ Kp w w' := by
  have HDN := Lib.hid (down_yes w)
  go_enter Tryd.func16, Tryd.ntmps16
  go_wp2_with fail
  refine HDN.out.mono ?_
  rintro e w' ⟨rfl, rfl⟩
  go_wp2_with fail
  go_ret
  exact ⟨⟨_, _, rfl⟩, Keeps.refl _ _⟩
theorem lfirst_nil (w : World) : Calls Tryd.prog 17 #[.pointer none] w fun e w' => e = .returned (.int .i64 0) ∧ Kp w w' := by
  have HDN := Lib.hid (down_yes w)
  go_enter Tryd.func17, Tryd.ntmps17
  go_wp2_with fail
  refine HDN.out.mono ?_
  rintro e w' ⟨rfl, rfl⟩
  go_wp2_with fail
  go_ret
  exact ⟨rfl, Keeps.refl _ _⟩
theorem lnext_nil (w : World) : Calls Tryd.prog 18 #[.pointer none] w fun e w' => e = .returned (.int .i64 0) ∧ Kp w w' := by
  have HDN := Lib.hid (down_yes w)
  go_enter Tryd.func18, Tryd.ntmps18
  go_wp2_with fail
  refine HDN.out.mono ?_
  rintro e w' ⟨rfl, rfl⟩
  go_wp2_with fail
  go_ret
  exact ⟨rfl, Keeps.refl _ _⟩

end Go.Proofs.YtgdbkmecfbkobaaDoor
