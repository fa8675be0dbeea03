/-
  THE PROGRAM's LOG: begin: the next segment, in the place of the eldest one.
-/
import Derived.Test.YtgdbkmecfbkobaaDoorSlgDelete
import Derived.Test.YtgdbkmecfbkobaaDoorSlgReads
import Derived.RegionTactic
import Derived.ChangeAlike
import Derived.BigRegion
namespace Go.Proofs.YtgdbkmecfbkobaaDoor
open Go Go.RowKit Go.Joins

/-- What goes when the slot is used again. -/
def goes (full : Bool) (ks : List Seg) : List Seg := if full then ks.tail else ks
def goesE (full : Bool) (Es : List Value) : List Value := if full then Es.tail else Es
/-- Which segment lies in the slot: none; the first one. -/
def Turn (full : Bool) (ks : List Seg) (y : Nat) : Prop := if full then 0 < ks.length ∧ (∀ h : 0 < ks.length, (ks[0]).slot = y) ∧ ∀ k (h : k < ks.length), 0 < k → (ks[k]).slot ≠ y else ∀ k (h : k < ks.length), (ks[k]).slot ≠ y
theorem LogAt.pairs {w : World} {q p i n sl left nx : Nat} {F : Foot} {ks : List Seg} {tl : List UInt8} {K T : Value} {Es : List Value} (h : LogAt w q F p i n ks sl left nx tl K T Es) : ∃ d : List SegP, d.map Prod.fst = ks ∧ d.map SegP.E = Es := by
  have hl := h.ends.len
  have hform : ∀ j (hj : j < ks.length), ∃ A c, Es[j]'(by omega) = .slice A (ks[j]).recs.length c := fun j hj => by
    obtain ⟨A, c, e, -, -⟩ := own_slice (h.ends.own j hj)
    exact ⟨A, c, e⟩
  clear h
  induction ks generalizing Es with
  | nil => exact ⟨[], rfl, (List.eq_nil_of_length_eq_zero (by simpa using hl)).symm⟩
  | cons s ks ih =>
    cases Es with
    | nil => cases hl
    | cons E Es =>
      obtain ⟨A, c, e⟩ := hform 0 (by simp)
      obtain ⟨d, h1, h2⟩ := ih (Es := Es) (by simpa using hl) (fun j hj => by
        obtain ⟨A, c, e⟩ := hform (j + 1) (by simpa using hj)
        exact ⟨A, c, by simpa using e⟩)
      refine ⟨(s, (A, c)) :: d, by simp [h1], ?_⟩
      simp only [List.map_cons, h2]
      have : SegP.E (s, (A, c)) = E := by simpa [SegP.E] using e.symm
      rw [this]
theorem SegsAt.any {w : World} {A : Option Addr} {G H : Nat → Prop} {ks : List Seg} (h : SegsAt w A G ks) (hh : ∀ b, G b → H b) : SegsAt w A H ks := fun k hl => by
  obtain ⟨b, o, E, e, hG, c0, c1, c2, hE⟩ := h k hl
  exact ⟨b, o, E, e, hh b hG, c0, c1, c2, hE.mono hh⟩
theorem delete_any (w : World) (q : Nat) (F : Foot) (p i n : Nat) (ks : List Seg) (sl left nx : Nat) (tl : List UInt8) (K T : Value) (Es : List Value) (h : LogAt w q F p i n ks sl left nx tl K T Es) (hl : ks.length ≤ 4096) (b3 y : Nat) (hy : w.cell? ⟨b3, 0, none⟩ = some (.int .i64 (y : Int))) (hb3 : K.ownBlock ≠ some b3) (full : Bool) (hf : Turn full ks y) :
    Calls Tryd.prog 41 #[K, .func (.func 42) #[] #[.pointer (some ⟨b3, 0, none⟩)]] w fun e w' => ∃ K6, e = .returned K6 ∧ K6.ownBlock = K.ownBlock ∧
      w'.ownsRow 0 67 3 K6 (goes full ks).length (segC (goes full ks) (goesE full Es)) ∧ Keeps (fun b => K.ownBlock ≠ some b) w w' := by
  obtain ⟨A, c, e, hlc, hcm, hs⟩ := h.segs
  have hrow := h.row
  subst e
  cases full with
  | false =>
    refine (delete_none w A c b3 y F.M ks hs hy hl hf).mono ?_
    rintro e w' ⟨rfl, hk⟩
    exact ⟨_, rfl, rfl, hk.own hrow fun _ _ => trivial, hk.mono fun _ _ _ => trivial⟩
  | true =>
    obtain ⟨hp, hz, hne⟩ := hf
    obtain ⟨d, h1, h2⟩ := h.pairs
    have hdl : d.length = ks.length := by rw [← h1, List.length_map]
    obtain ⟨g, c', e, -, -⟩ := hrow.form hp
    injection e with e1 _ e3
    subst e1 e3
    rw [← h1, ← h2, segC_encP] at hrow
    have hs' := hs.any (H := fun _ => True) fun _ _ => trivial
    rw [← h1] at hs'
    have hd0 : ∀ k (hk : k < d.length), (d[k]).1 = ks[k]'(by omega) := fun k hk => by
      have : (d.map Prod.fst)[k]'(by simpa using hk) = ks[k]'(by omega) := by simp only [h1]
      rw [← this, List.getElem_map]
    have hm : (d.map Prod.fst).length = d.length := List.length_map ..
    rw [hm] at hrow
    rw [hdl] at hm
    refine (show Calls _ _ _ _ _ from delete_first w g c b3 y ks.length d hdl.symm (by rw [← hdl]; exact hrow) hs' hy (fun e => hb3 (by rw [e]; rfl)) (by omega) (by omega) (by rw [hd0 0 (by omega)]; exact hz (by omega)) (fun k hk h0 => by rw [hd0 k hk]; exact hne k (by omega) h0)).mono ?_
    rintro e w' ⟨rfl, ho, hk⟩
    refine ⟨_, rfl, rfl, ?_, hk.mono fun b _ hb e => hb (by rw [e]; rfl)⟩
    have e1 : goes true ks = d.tail.map Prod.fst := by show ks.tail = _; rw [← h1, List.map_tail]
    have e2 : goesE true Es = d.tail.map SegP.E := by show Es.tail = _; rw [← h2, List.map_tail]
    rw [e1, e2, segC_encP, List.length_map, List.length_tail, hdl]
    exact ho

/-- A log's block, row and ends, in the midst of a call. -/
structure LogMid (w : World) (q p i n : Nat) (ks : List Seg) (sl left nx : Nat) (K T : Value) (Es : List Value) : Prop where
  blk : LBlk w q p i n K sl left T nx
  row : w.ownsRow 0 67 3 K ks.length (segC ks Es)
  ends : EndsOwn w (fun b => b = q ∨ K.ownBlock = some b) ks Es
  kq : ∀ b, K.ownBlock = some b → b ≠ q
/-- Which blocks it has. -/
def hasB (q : Nat) (K : Value) (Es : List Value) (b : Nat) : Prop := b = q ∨ K.ownBlock = some b ∨ ∃ E ∈ Es, E.ownBlock = some b
section
variable {w w' : World} {q p i n sl left nx : Nat} {F : Foot} {ks : List Seg} {tl : List UInt8} {K T K' : Value} {Es : List Value}
theorem LogAt.mid (h : LogAt w q F p i n ks sl left nx tl K T Es) : LogMid w q p i n ks sl left nx K T Es := ⟨h.blk, h.row, h.ends, h.kq⟩
theorem LogAt.has (h : LogAt w q F p i n ks sl left nx tl K T Es) : ∀ b, hasB q K Es b → F.M b := fun b hb => by
  rcases hb with rfl | hb | ⟨E, hE, hb⟩
  · exact h.mq
  · exact h.mkk b hb
  · exact h.me E hE b hb
theorem LogMid.keep (h : LogMid w q p i n ks sl left nx K T Es) {G : Nat → Prop} (hk : Keeps G w w') (hG : ∀ b, hasB q K Es b → G b) : LogMid w' q p i n ks sl left nx K T Es :=
  ⟨h.blk.keep hk (hG q (.inl rfl)), hk.own h.row fun b hb => hG b (.inr (.inl hb)), h.ends.keep hk fun E hE b hb => hG b (.inr (.inr ⟨E, hE, hb⟩)), h.kq⟩
theorem LogMid.lt (h : LogMid w q p i n ks sl left nx K T Es) : ∀ b, hasB q K Es b → b < w.heap.size := fun b hb => by
  rcases hb with rfl | hb | ⟨E, hE, hb⟩
  · exact (Array.getElem?_eq_some_iff.1 h.blk).1
  · exact (h.row.lt b hb).2
  · obtain ⟨j, hj, rfl⟩ := List.getElem_of_mem hE
    exact ((h.ends.own j (by have := h.ends.len; omega)).lt b hb).2
theorem goesE_mem {full : Bool} {E : Value} (hE : E ∈ goesE full Es) : E ∈ Es := by
  cases full
  · exact hE
  · exact List.mem_of_mem_tail hE
theorem EndsOwn.tail {X : Nat → Prop} (h : EndsOwn w X ks Es) : EndsOwn w X ks.tail Es.tail := by
  cases ks with
  | nil =>
    cases Es with
    | nil => exact h
    | cons E Es => exact absurd h.len (by simp)
  | cons s ks =>
    cases Es with
    | nil => exact absurd h.len (by simp)
    | cons E Es =>
      refine ⟨by simpa using h.len, fun j hj => ?_, fun F hF => h.out F (List.mem_cons_of_mem _ hF), (List.pairwise_cons.1 h.two).2⟩
      have h1 := h.own (j + 1) (by simpa using hj)
      simpa using h1
theorem EndsOwn.goes {X : Nat → Prop} (h : EndsOwn w X ks Es) (full : Bool) : EndsOwn w X (goes full ks) (goesE full Es) := by
  cases full
  · exact h
  · exact h.tail
/-- Behind DeleteFunc, its answer stored. -/
theorem LogMid.cut (h : LogMid w q p i n ks sl left nx K T Es) (full : Bool) (he : K'.ownBlock = K.ownBlock) (hr : w'.ownsRow 0 67 3 K' (goes full ks).length (segC (goes full ks) (goesE full Es))) (hk : Keeps (fun b => K.ownBlock ≠ some b) w w') :
    LogMid (w'.setCell ⟨q, 3, none⟩ K') q p i n (goes full ks) sl left nx K' T (goesE full Es) := by
  have hb := h.blk.keep hk (fun e => h.kq q e rfl)
  have hs : Keeps (fun b => b ≠ q) w' (w'.setCell ⟨q, 3, none⟩ K') := (Keeps.refl _ w').setCell (.inr fun hn => hn rfl) _
  refine ⟨block_setCell hb (i := 3) K', hs.own hr fun b e => h.kq b (by rw [← he]; exact e), ?_, fun b e => h.kq b (by rw [← he]; exact e)⟩
  have h1 := (h.ends.goes full).keep (hk) fun E hE b e e2 => h.ends.out E (goesE_mem hE) b e (.inr e2)
  have h2 := h1.keep hs fun E hE b e e2 => h.ends.out E (goesE_mem hE) b e (.inl e2)
  exact ⟨h2.len, h2.own, fun E hE b e hx => h.ends.out E (goesE_mem hE) b e (hx.imp id fun e2 => by rw [← he]; exact e2), h2.two⟩
/-- Behind the append of a new segment, its answer stored. -/
theorem LogMid.put (h : LogMid w q p i n ks sl left nx K T Es) (sg : Seg) (E : Value) (hsg : sg.recs = []) (hE : E = .slice none 0 0) (w0 : World) (h0 : Kp w w0) (hr : w'.ownsRow 0 67 3 K' (ks.length + 1) (segC ks Es ++ sg.cells E)) (hg : w0.grownBy w' K.ownBlock) (hb : K'.ownBlock = K.ownBlock ∨ K'.ownBlock = some w0.heap.size) :
    LogMid (w'.setCell ⟨q, 3, none⟩ K') q p i n (ks ++ [sg]) sl left nx K' T (Es ++ [E]) := by
  subst hE
  have hlt := h.lt
  have hk : Keeps (fun b => K.ownBlock ≠ some b) w w' := (h0.mono fun _ _ _ => trivial).trans (Keeps.of_grown hg fun b e _ hn => hn e)
  have hqs := hlt q (.inl rfl)
  have hz := h0.size
  have hbq : ∀ b, K'.ownBlock = some b → b ≠ q := fun b e => by
    rcases hb with e2 | e2
    · exact h.kq b (by rw [← e2]; exact e)
    · rw [e2] at e; injection e with e; omega
  have hbl := h.blk.keep hk (fun e => h.kq q e rfl)
  have hs : Keeps (fun b => b ≠ q) w' (w'.setCell ⟨q, 3, none⟩ K') := (Keeps.refl _ w').setCell (.inr fun hn => hn rfl) _
  have h1 := h.ends.keep hk fun E hE b e e2 => h.ends.out E hE b e (.inr e2)
  have h2 := h1.keep hs fun E hE b e e2 => h.ends.out E hE b e (.inl e2)
  have hc : segC (ks ++ [sg]) (Es ++ [.slice none 0 0]) = segC ks Es ++ sg.cells (.slice none 0 0) := by rw [segC_append _ _ _ _ h.ends.len]; simp [segC]
  refine ⟨block_setCell hbl (i := 3) K', by rw [List.length_append, hc]; exact hs.own hr hbq, ⟨by simp [h.ends.len], fun j hj => ?_, fun E hE b e hx => ?_, ?_⟩, hbq⟩
  · by_cases hlt : j < ks.length
    · rw [List.getElem_append_left hlt, List.getElem_append_left (by rw [h.ends.len]; exact hlt)]
      exact h2.own j hlt
    · have hj' : j = ks.length := by simp at hj; omega
      subst hj'
      rw [List.getElem_concat_length rfl, List.getElem_concat_length h.ends.len.symm, hsg]
      exact World.ownsRow_nil _ _ _ _
  · rcases List.mem_append.1 hE with hE | hE
    · rcases hx with hx | hx
      · exact h.ends.out E hE b e (.inl hx)
      · rcases hb with e2 | e2
        · exact h.ends.out E hE b e (.inr (by rw [← e2]; exact hx))
        · rw [e2] at hx; injection hx with hx
          have := hlt b (.inr (.inr ⟨E, hE, e⟩))
          omega
    · rw [List.mem_singleton.1 hE] at e; cases e
  · refine List.pairwise_append.2 ⟨h.ends.two, by simp, fun a ha b hb => ?_⟩
    rw [List.mem_singleton.1 hb]
    intro x _ e; cases e
/-- Other cells of its block stored. -/
theorem LogMid.set (h : LogMid w q p i n ks sl left nx K T Es) {sl' left' nx' : Nat} {T' : Value} (hb : LBlk w' q p i n K sl' left' T' nx') (hk : Keeps (fun b => b ≠ q) w w') : LogMid w' q p i n ks sl' left' nx' K T' Es :=
  ⟨hb, hk.own h.row h.kq, h.ends.keep hk fun E hE b e e2 => h.ends.out E hE b e (.inl e2), h.kq⟩
/-- With its foot. -/
theorem LogMid.at_ (h : LogMid w q p i n ks sl left nx K T Es) (I : Nat → Prop) (hI : ∀ b, I b → b < w.heap.size) (hd : ∀ b, hasB q K Es b → ¬ I b) (ht : ∃ A c, T = .slice A tl.length c ∧ tl.length ≤ c ∧ c ≤ maxLen ∧ Row w A I (bcells tl)) : LogAt w q ⟨hasB q K Es, I⟩ p i n ks sl left nx tl K T Es :=
  ⟨h.blk, h.row, h.ends, h.kq, ht, .inl rfl, fun _b e => .inr (.inl e), fun E hE _b e => .inr (.inr ⟨E, hE, e⟩), fun b hb => hb.elim (h.lt b) (hI b), hd⟩
end

end Go.Proofs.YtgdbkmecfbkobaaDoor
