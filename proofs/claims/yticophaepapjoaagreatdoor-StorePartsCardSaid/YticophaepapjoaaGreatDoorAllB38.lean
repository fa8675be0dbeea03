/-
  SlgBegin, SlgBegins: texts of mine, joined.
-/
import Derived.Test.YticophaepapjoaaGreatDoorAllB33
import Derived.RegionTactic
import Derived.ChangeAlike
import Derived.BigRegion
open Go.Lib renaming hid → Hd
set_option maxRecDepth 100000
set_option maxHeartbeats 8000000
namespace Go.Proofs.YticophaepapjoaaGreatDoor
open Go Go.RowKit Go.Joins
def goes (full : Bool) (ks : List Seg) : List Seg := if full then ks.tail else ks
def goesE (full : Bool) (Es : List Value) : List Value := if full then Es.tail else Es
def Turn (full : Bool) (ks : List Seg) (y : Nat) : Prop := if full then 0 < ks.length ∧ (∀ h : 0 < ks.length, (ks[0]).slot = y) ∧ ∀ k (h : k < ks.length), 0 < k → (ks[k]).slot ≠ y else ∀ k (h : k < ks.length), (ks[k]).slot ≠ y
theorem LogAt.pairs {w : World} {q p i n sl left nx : Nat} {F : Foot} {ks : List Seg} {tl : List UInt8} {K T : Value} {Es : List Value} (h : LogAt w q F p i n ks sl left nx tl K T Es) : ∃ d : List SegP, d.map Prod.fst = ks ∧ d.map SegP.E = Es := by
 have hl := h.ends.len
 have hform : ∀ j (hj : j < ks.length), ∃ A c, Es[j]'(by omega) = .slice A (ks[j]).recs.length c := fun j hj => by
  obtain ⟨A, c, e, -, -⟩ := own_slice (h.ends.own j hj)
  exact ⟨A, c, e⟩
 clear h
 induction ks generalizing Es with
 | nil => exact ⟨[], rfl, (List.eq_nil_of_length_eq_zero (by simpa using hl)).symm⟩
 | cons s ks ih =>
  cases Es with
  | nil => cases hl
  | cons E Es =>
   obtain ⟨A, c, e⟩ := hform 0 (by simp)
   obtain ⟨d, h1, h2⟩ := ih (Es := Es) (by simpa using hl) (fun j hj => by
    obtain ⟨A, c, e⟩ := hform (j + 1) (by simpa using hj)
    exact ⟨A, c, by simpa using e⟩)
   refine ⟨(s, (A, c)) :: d, by simp [h1], ?_⟩
   simp only [List.map_cons, h2]
   have : SegP.E (s, (A, c)) = E := by simpa [SegP.E] using e.symm
   rw [this]
theorem SegsAt.any {w : World} {A : Option Addr} {G H : Nat → Prop} {ks : List Seg} (h : SegsAt w A G ks) (hh : ∀ b, G b → H b) : SegsAt w A H ks := fun k hl => by
 obtain ⟨b, o, E, e, hG, c0, c1, c2, hE⟩ := h k hl
 exact ⟨b, o, E, e, hh b hG, c0, c1, c2, hE.mono hh⟩
theorem delete_any (w : World) (q : Nat) (F : Foot) (p i n : Nat) (ks : List Seg) (sl left nx : Nat) (tl : List UInt8) (K T : Value) (Es : List Value) (h : LogAt w q F p i n ks sl left nx tl K T Es) (hl : ks.length ≤ 4096) (b3 y : Nat) (hy : w.cell? ⟨b3, 0, none⟩ = some (.int .i64 (y : Int))) (hb3 : K.ownBlock ≠ some b3) (full : Bool) (hf : Turn full ks y) :
  Calls Tryz.prog 132 #[K, .func (.func 133) #[] #[.pointer (some ⟨b3, 0, none⟩)]] w fun e w' => ∃ K6, e = .returned K6 ∧ K6.ownBlock = K.ownBlock ∧
   w'.ownsRow 0 179 3 K6 (goes full ks).length (segC (goes full ks) (goesE full Es)) ∧ Keeps (fun b => K.ownBlock ≠ some b) w w' := by
 obtain ⟨A, c, e, hlc, hcm, hs⟩ := h.segs
 have hrow := h.row
 subst e
 cases full with
 | false =>
  refine (delete_none w A c b3 y F.M ks hs hy hl hf).mono ?_
  rintro e w' ⟨rfl, hk⟩
  exact ⟨_, rfl, rfl, hk.own hrow fun _ _ => trivial, hk.mono fun _ _ _ => trivial⟩
 | true =>
  obtain ⟨hp, hz, hne⟩ := hf
  obtain ⟨d, h1, h2⟩ := h.pairs
  have hdl : d.length = ks.length := by rw [← h1, List.length_map]
  obtain ⟨g, c', e, -, -⟩ := hrow.form hp
  injection e with e1 _ e3
  subst e1 e3
  rw [← h1, ← h2, segC_encP] at hrow
  have hs' := hs.any (H := fun _ => True) fun _ _ => trivial
  rw [← h1] at hs'
  have hd0 : ∀ k (hk : k < d.length), (d[k]).1 = ks[k]'(by omega) := fun k hk => by
   have : (d.map Prod.fst)[k]'(by simpa using hk) = ks[k]'(by omega) := by simp only [h1]
   rw [← this, List.getElem_map]
  have hm : (d.map Prod.fst).length = d.length := List.length_map ..
  rw [hm] at hrow
  rw [hdl] at hm
  refine (show Calls _ _ _ _ _ from delete_first w g c b3 y ks.length d hdl.symm (by rw [← hdl]; exact hrow) hs' hy (fun e => hb3 (by rw [e]; rfl)) (by omega) (by omega) (by rw [hd0 0 (by omega)]; exact hz (by omega)) (fun k hk h0 => by rw [hd0 k hk]; exact hne k (by omega) h0)).mono ?_
  rintro e w' ⟨rfl, ho, hk⟩
  refine ⟨_, rfl, rfl, ?_, hk.mono fun b _ hb e => hb (by rw [e]; rfl)⟩
  have e1 : goes true ks = d.tail.map Prod.fst := by show ks.tail = _; rw [← h1, List.map_tail]
  have e2 : goesE true Es = d.tail.map SegP.E := by show Es.tail = _; rw [← h2, List.map_tail]
  rw [e1, e2, segC_encP, List.length_map, List.length_tail, hdl]
  exact ho
structure LogMid (w : World) (q p i n : Nat) (ks : List Seg) (sl left nx : Nat) (K T : Value) (Es : List Value) : Prop where
 blk : LBlk w q p i n K sl left T nx
 row : w.ownsRow 0 179 3 K ks.length (segC ks Es)
 ends : EndsOwn w (fun b => b = q ∨ K.ownBlock = some b) ks Es
 kq : ∀ b, K.ownBlock = some b → b ≠ q
def hasB (q : Nat) (K : Value) (Es : List Value) (b : Nat) : Prop := b = q ∨ K.ownBlock = some b ∨ ∃ E ∈ Es, E.ownBlock = some b
section
variable {w w' : World} {q p i n sl left nx : Nat} {F : Foot} {ks : List Seg} {tl : List UInt8} {K T K' : Value} {Es : List Value}
theorem LogAt.mid (h : LogAt w q F p i n ks sl left nx tl K T Es) : LogMid w q p i n ks sl left nx K T Es := ⟨h.blk, h.row, h.ends, h.kq⟩
theorem LogMid.lt (h : LogMid w q p i n ks sl left nx K T Es) : ∀ b, hasB q K Es b → b < w.heap.size := fun b hb => by
 rcases hb with rfl | hb | ⟨E, hE, hb⟩
 ·exact (Array.getElem?_eq_some_iff.1 h.blk).1
 ·exact (h.row.lt b hb).2
 ·obtain ⟨j, hj, rfl⟩ := List.getElem_of_mem hE
  exact ((h.ends.own j (by have := h.ends.len; omega)).lt b hb).2
theorem goesE_mem {full : Bool} {E : Value} (hE : E ∈ goesE full Es) : E ∈ Es := by
 cases full
 ·exact hE
 ·exact List.mem_of_mem_tail hE
theorem EndsOwn.tail {X : Nat → Prop} (h : EndsOwn w X ks Es) : EndsOwn w X ks.tail Es.tail := by
 cases ks with
 | nil =>
  cases Es with
  | nil => exact h
  | cons E Es => exact absurd h.len (by simp)
 | cons s ks =>
  cases Es with
  | nil => exact absurd h.len (by simp)
  | cons E Es =>
   refine ⟨by simpa using h.len, fun j hj => ?_, fun F hF => h.out F (List.mem_cons_of_mem _ hF), (List.pairwise_cons.1 h.two).2⟩
   have h1 := h.own (j + 1) (by simpa using hj)
   simpa using h1
theorem EndsOwn.goes {X : Nat → Prop} (h : EndsOwn w X ks Es) (full : Bool) : EndsOwn w X (goes full ks) (goesE full Es) := by
 cases full
 ·exact h
 ·exact h.tail
theorem LogMid.cut (h : LogMid w q p i n ks sl left nx K T Es) (full : Bool) (he : K'.ownBlock = K.ownBlock) (hr : w'.ownsRow 0 179 3 K' (goes full ks).length (segC (goes full ks) (goesE full Es))) (hk : Keeps (fun b => K.ownBlock ≠ some b) w w') :
  LogMid (w'.setCell ⟨q, 3, none⟩ K') q p i n (goes full ks) sl left nx K' T (goesE full Es) := by
 have hb := h.blk.keep hk (fun e => h.kq q e rfl)
 have hs : Keeps (fun b => b ≠ q) w' (w'.setCell ⟨q, 3, none⟩ K') := (Keeps.refl _ w').setCell (.inr fun hn => hn rfl) _
 refine ⟨block_setCell hb (i := 3) K', hs.own hr fun b e => h.kq b (by rw [← he]; exact e), ?_, fun b e => h.kq b (by rw [← he]; exact e)⟩
 have h1 := (h.ends.goes full).keep (hk) fun E hE b e e2 => h.ends.out E (goesE_mem hE) b e (.inr e2)
 have h2 := h1.keep hs fun E hE b e e2 => h.ends.out E (goesE_mem hE) b e (.inl e2)
 exact ⟨h2.len, h2.own, fun E hE b e hx => h.ends.out E (goesE_mem hE) b e (hx.imp id fun e2 => by rw [← he]; exact e2), h2.two⟩
theorem LogMid.put (h : LogMid w q p i n ks sl left nx K T Es) (sg : Seg) (E : Value) (hsg : sg.recs = []) (hE : E = .slice none 0 0) (w0 : World) (h0 : Kp w w0) (hr : w'.ownsRow 0 179 3 K' (ks.length + 1) (segC ks Es ++ sg.cells E)) (hg : w0.grownBy w' K.ownBlock) (hb : K'.ownBlock = K.ownBlock ∨ K'.ownBlock = some w0.heap.size) :
  LogMid (w'.setCell ⟨q, 3, none⟩ K') q p i n (ks ++ [sg]) sl left nx K' T (Es ++ [E]) := by
 subst hE
 have hlt := h.lt
 have hk : Keeps (fun b => K.ownBlock ≠ some b) w w' := (h0.mono fun _ _ _ => trivial).trans (Keeps.of_grown hg fun b e _ hn => hn e)
 have hqs := hlt q (.inl rfl)
 have hz := h0.size
 have hbq : ∀ b, K'.ownBlock = some b → b ≠ q := fun b e => by
  rcases hb with e2 | e2
  ·exact h.kq b (by rw [← e2]; exact e)
  ·rw [e2] at e; injection e with e; omega
 have hbl := h.blk.keep hk (fun e => h.kq q e rfl)
 have hs : Keeps (fun b => b ≠ q) w' (w'.setCell ⟨q, 3, none⟩ K') := (Keeps.refl _ w').setCell (.inr fun hn => hn rfl) _
 have h1 := h.ends.keep hk fun E hE b e e2 => h.ends.out E hE b e (.inr e2)
 have h2 := h1.keep hs fun E hE b e e2 => h.ends.out E hE b e (.inl e2)
 have hc : segC (ks ++ [sg]) (Es ++ [.slice none 0 0]) = segC ks Es ++ sg.cells (.slice none 0 0) := by rw [segC_append _ _ _ _ h.ends.len]; simp [segC]
 refine ⟨block_setCell hbl (i := 3) K', by rw [List.length_append, hc]; exact hs.own hr hbq, ⟨by simp [h.ends.len], fun j hj => ?_, fun E hE b e hx => ?_, ?_⟩, hbq⟩
 ·by_cases hlt : j < ks.length
  ·rw [List.getElem_append_left hlt, List.getElem_append_left (by rw [h.ends.len]; exact hlt)]
   exact h2.own j hlt
  ·have hj' : j = ks.length := by simp at hj; omega
   subst hj'
   rw [List.getElem_concat_length rfl, List.getElem_concat_length h.ends.len.symm, hsg]
   exact World.ownsRow_nil _ _ _ _
 ·rcases List.mem_append.1 hE with hE | hE
  ·rcases hx with hx | hx
   ·exact h.ends.out E hE b e (.inl hx)
   ·rcases hb with e2 | e2
    ·exact h.ends.out E hE b e (.inr (by rw [← e2]; exact hx))
    ·rw [e2] at hx; injection hx with hx
     have := hlt b (.inr (.inr ⟨E, hE, e⟩))
     omega
  ·rw [List.mem_singleton.1 hE] at e; cases e
 ·refine List.pairwise_append.2 ⟨h.ends.two, by simp, fun a ha b hb => ?_⟩
  rw [List.mem_singleton.1 hb]
  intro x _ e; cases e
theorem LogMid.set (h : LogMid w q p i n ks sl left nx K T Es) {sl' left' nx' : Nat} {T' : Value} (hb : LBlk w' q p i n K sl' left' T' nx') (hk : Keeps (fun b => b ≠ q) w w') : LogMid w' q p i n ks sl' left' nx' K T' Es :=
 ⟨hb, hk.own h.row h.kq, h.ends.keep hk fun E hE b e e2 => h.ends.out E hE b e (.inl e2), h.kq⟩
theorem LogMid.at_ (h : LogMid w q p i n ks sl left nx K T Es) (I : Nat → Prop) (hI : ∀ b, I b → b < w.heap.size) (hd : ∀ b, hasB q K Es b → ¬ I b) (ht : ∃ A c, T = .slice A tl.length c ∧ tl.length ≤ c ∧ c ≤ maxLen ∧ Row w A I (bcells tl)) : LogAt w q ⟨hasB q K Es, I⟩ p i n ks sl left nx tl K T Es :=
 ⟨h.blk, h.row, h.ends, h.kq, ht, .inl rfl, fun _b e => .inr (.inl e), fun E hE _b e => .inr (.inr ⟨E, hE, e⟩), fun b hb => hb.elim (h.lt b) (hI b), hd⟩
end
structure Went (w w' : World) (F F' Fs Fs' : Foot) : Prop where
 ap : Apart F' Fs'
 k : Keeps (fun b => ¬ F.M b ∧ ¬ Fs.M b) w w'
 f1 : ∀ b, F'.M b → F.M b ∨ w.heap.size ≤ b
 f2 : ∀ b, F'.I b → F.all b ∨ w.heap.size ≤ b
 f3 : ∀ b, Fs'.M b → Fs.M b ∨ w.heap.size ≤ b
 f4 : ∀ b, Fs'.I b → Fs.all b ∨ w.heap.size ≤ b
theorem hasB_nil {q : Nat} {K : Value} {Es : List Value} {b : Nat} (h : hasB q K (Es ++ [.slice none 0 0]) b) : hasB q K Es b := by
 rcases h with h | h | ⟨E, hE, h⟩
 ·exact .inl h
 ·exact .inr (.inl h)
 ·rcases List.mem_append.1 hE with hE | hE
  ·exact .inr (.inr ⟨E, hE, h⟩)
  ·rw [List.mem_singleton.1 hE] at h; cases h
theorem own_form {w : World} {base n size : Nat} {e : TypeId} {v : Value} {xs : List Value} (h : w.ownsRow base e size v n xs) : ∃ A c, v = .slice A n c := by
 rcases h.2 with ⟨rfl, h0⟩ | ⟨g, cap, cur, rfl, r⟩
 ·exact ⟨none, 0, by rw [h0]⟩
 ·exact ⟨_, _, rfl⟩
theorem src_seg (W : World) (sl nx : Nat) : Src Tryz.prog 3 135 (.slice (some ⟨W.heap.size, 0, none⟩) 1 1) 1 ((⟨sl, nx, []⟩ : Seg).cells (.slice none 0 0)) (W.alloc (.cells #[.int .i64 (sl : Int), .int .i64 (nx : Int), .slice none 0 0] 179)).drew :=
 Src.ofSlice _ Tryz.underlying135 ⟨W.heap.size, 0, none⟩ 1 1 _ rfl (fun j v hv => by
  rw [WideShapes.add_plain, Nat.zero_add]
  exact (cell_alloc_mark_at W _ _ _ W.heap.size j rfl).trans (by rw [← hv, ← Array.getElem?_toList]; rfl)) (fun v hv => by
  simp only [Seg.cells, List.mem_cons, List.not_mem_nil, or_false] at hv
  rcases hv with rfl | rfl | rfl <;> rfl)
theorem begin_any (w : World) (hT : Taken w) (q : Nat) (Fs : Foot) (p i n : Nat) (ks : List Seg) (sl left nx : Nat) (tl : List UInt8) (K T : Value) (Es : List Value) (h : LogAt w q Fs p i n ks sl left nx tl K T Es) (F : Foot) (s : SDev) (hd : DAt w p F s) (ha : Apart F Fs) (hTM : ¬ F.M 0)
  (full : Bool) (hf : Turn full ks sl) (hi : i ≤ 2048) (hn : n ≤ 200) (hsl : sl < n) (hin : i + 8 * n ≤ s.now.length) (hnx : 1 ≤ nx) (hnx2 : nx ≤ 274877906943) (hkl : ks.length ≤ 200) (hcalls : s.calls ≤ 549755813888 + 100) :
  Calls Tryz.prog 105 #[.pointer (some ⟨q, 0, none⟩)] w fun e w' => e = .returned (.int .i64 0) ∧ ∃ (F' Fs' : Foot) (K' : Value) (Es' : List Value), DAt w' p F' ((s.write (i + sl * 8) (encL (nx * 8) [])).flush) ∧
   LogAt w' q Fs' p i n (goes full ks ++ [⟨sl, nx, []⟩]) ((sl + 1) % n) 424 nx [] K' (.slice none 0 0) Es' ∧ Went w w' F F' Fs Fs' := by
 have hsm := hd.ok.small
 have hqlt : q < w.heap.size := h.lt q (.inl h.mq)
 have c4 := (cell_of_block h.blk 4).trans rfl
 have c7 := (cell_of_block h.blk 7).trans rfl
 have HA := Hd h
 have HD := Hd hd
 have HAP := Hd ha
 have HT := Hd hT
 have HTM := Hd hTM
 have HF := Hd hf
 have hin2 : i + sl * 8 < s.now.length := by omega
 have hk1 : Kp w (w.alloc (.cells #[.int .i64 (sl : Int), .int .i64 (nx : Int), .slice none 0 0] 179)).drew := ((Keeps.refl _ w).alloc _).drew
 have hb1 : (w.alloc (.cells #[.int .i64 (sl : Int), .int .i64 (nx : Int), .slice none 0 0] 179)).drew.heap[w.heap.size]? = some (.cells #[.int .i64 (sl : Int), .int .i64 (nx : Int), .slice none 0 0] 179 (0, 0)) := heap_alloc_new w _
 have hz1 : (w.alloc (.cells #[.int .i64 (sl : Int), .int .i64 (nx : Int), .slice none 0 0] 179)).drew.heap.size = w.heap.size + 1 := by simp
 have HK1 := Hd hk1
 have HB1 := Hd hb1
 have HZ1 := Hd hz1
 obtain ⟨r, hr⟩ : ∃ r, (sl + 1) % n = r := ⟨_, rfl⟩
 have HR := Hd hr
 rw [hr]
 clear h hd ha hT hTM hf hk1 hb1 hz1 hin hr
 go_enter Tryz.func105, Tryz.ntmps105
 go_wp2_with fail
 go_region
 generalize (w.alloc (.cells #[.int .i64 (sl : Int), .int .i64 (nx : Int), .slice none 0 0] 179)).drew = w1 at HK1 HB1 HZ1 ⊢
 have e0 : w1.cell? ⟨w.heap.size, 0, none⟩ = some (.int .i64 (sl : Int)) := (cell_of_block HB1.out 0).trans rfl
 have e1 : w1.cell? ⟨w.heap.size, 1, none⟩ = some (.int .i64 (nx : Int)) := (cell_of_block HB1.out 1).trans rfl
 have e2 : w1.cell? ⟨w.heap.size, 2, none⟩ = some (.slice none 0 0) := (cell_of_block HB1.out 2).trans rfl
 have HA1 := Hd (HA.out.keep (HK1.out.mono fun _ _ _ => trivial))
 have hlay := llay_any w1 (HT.out.keep HK1.out) q p i n HA1.out.head F s (HD.out.keep (HK1.out.mono fun _ _ _ => trivial)) (HAP.out.r q HA.out.mq) HTM.out sl nx 0 (.slice none 0 0) rfl [] (by simp) hi (by omega) (by omega) (by omega) hin2 (by omega)
 rw [show (txt ([] : List UInt8)) = ⟨#[]⟩ from rfl] at hlay
 simp only [Nat.add_zero] at hlay
 have HLAY := Hd hlay
 clear hlay c4 c7
 go_wp2_with fail
 refine HLAY.out.mono ?_
 rintro e w2 ⟨rfl, F2, hd2, hst2⟩
 have HST2 := Hd hst2
 have HD2 := Hd hd2
 have HG1 := Hd (show ∀ b, Fs.all b → b < w1.heap.size from fun b hb => Nat.lt_of_lt_of_le (HA.out.lt b hb) HK1.out.size)
 have HA2 := Hd (HA1.out.keep (hst2.other HAP.out))
 have c0 := HA2.out.head.d
 clear hst2 hd2 HLAY e0 e1 e2
 go_wp2_with fail
 refine (dflush_any w2 p F2 _ HD2.out (show s.calls + 1 ≤ _ by omega)).mono ?_
 rintro e w3 ⟨rfl, F3, hd3, hst3⟩
 have HST := Hd (HST2.out.trans hst3)
 have HD3 := Hd hd3
 have hap2 := HST2.out.apart HAP.out HG1.out
 have HA3 := Hd (HA2.out.keep (hst3.other hap2))
 have HAP3 := Hd (HST.out.apart HAP.out HG1.out)
 have HB3 := Hd ((HST.out.keeps.block w.heap.size (fun hm => by have := HD.out.lt w.heap.size (.inl hm); omega) (by rw [HZ1.out]; omega)).trans HB1.out)
 have e0 : w3.cell? ⟨w.heap.size, 0, none⟩ = some (.int .i64 (sl : Int)) := (cell_of_block HB3.out 0).trans rfl
 have c3 := (cell_of_block HA3.out.blk 3).trans rfl
 have hDEL := delete_any w3 q Fs p i n ks sl left nx tl K T Es HA3.out (by omega) w.heap.size sl e0 (fun e => by have := HA.out.lt w.heap.size (.inl (HA.out.mkk _ e)); omega) full HF.out
 have HDEL := Hd hDEL
 clear hst3 hd3 hap2 hDEL c0
 go_wp2_with fail
 refine HDEL.out.mono ?_
 rintro e w4 ⟨K6, rfl, hko, hr6, hk4⟩
 have HM5 := Hd (HA3.out.mid.cut full hko hr6 hk4)
 have hb4 := HA3.out.blk.keep hk4 (fun e => HA3.out.kq q e rfl)
 have c3 := (cell_of_block hb4 3).trans rfl
 have f3 := unfrozen_of_block hb4 3
 have HB4 := Hd ((hk4.block w.heap.size (fun e => by have := HA.out.lt w.heap.size (.inl (HA.out.mkk _ e)); omega) (World.block_lt_of_cell? w3 _ e0)).trans HB3.out)
 have HK4 := Hd hk4
 have HKO := Hd hko
 obtain ⟨A6, c6, rfl⟩ := own_form hr6
 clear hr6 hk4 hb4 HDEL hko
 go_wp2_with fail
 have hk5 : Keeps (fun b => b ≠ q) w4 (w4.setCell ⟨q, 3, none⟩ (.slice A6 (goes full ks).length c6)) := (Keeps.refl _ w4).setCell (.inr fun hn => hn rfl) _
 generalize w4.setCell ⟨q, 3, none⟩ (.slice A6 (goes full ks).length c6) = w5 at HM5 hk5 ⊢
 have HK5 := Hd hk5
 have hm6 : (goes full ks).length ≤ 200 := by
  cases full
  ·exact hkl
  ·show ks.tail.length ≤ 200; rw [List.length_tail]; omega
 have hb5 := (hk5.block w.heap.size (by show w.heap.size ≠ q; omega) (by rw [← Nat.not_le]; intro hle; have := (Array.getElem?_eq_some_iff.1 HB4.out).1; omega)).trans HB4.out
 have e0 : w5.cell? ⟨w.heap.size, 0, none⟩ = some (.int .i64 (sl : Int)) := (cell_of_block hb5 0).trans rfl
 have e1 : w5.cell? ⟨w.heap.size, 1, none⟩ = some (.int .i64 (nx : Int)) := (cell_of_block hb5 1).trans rfl
 have e2 : w5.cell? ⟨w.heap.size, 2, none⟩ = some (.slice none 0 0) := (cell_of_block hb5 2).trans rfl
 have c3 := (cell_of_block HM5.out.blk 3).trans rfl
 have hq5 : q < w5.heap.size := HM5.out.lt q (.inl rfl)
 have hw5 : w.heap.size < w5.heap.size := (Array.getElem?_eq_some_iff.1 hb5).1
 have h0 : Kp w5 (w5.alloc (.cells #[.int .i64 (sl : Int), .int .i64 (nx : Int), .slice none 0 0] 179)).drew := ((Keeps.refl _ w5).alloc _).drew
 have HOWN := Hd (h0.own HM5.out.row fun _ _ => trivial)
 have HSRC := Hd (src_seg w5 sl nx)
 have H63 := Hd (show (goes full ks).length + 1 ≤ maxLen from by unfold maxLen; omega)
 have hby : ((goes full ks).length + 1) * 40 ≤ 140737488355328 := by omega
 have hbase : 0 ≤ ((w5.alloc (.cells #[.int .i64 (sl : Int), .int .i64 (nx : Int), .slice none 0 0] 179)).drew).heap.size := Nat.zero_le _
 have HH0 := Hd h0
 have HBQ := Hd (show ∀ (w7 : World) (A7 : Option Addr) (c7 : Nat), w7.ownsRow 0 179 3 (.slice A7 ((goes full ks).length + 1) c7) ((goes full ks).length + 1) (segC (goes full ks) (goesE full Es) ++ (⟨sl, nx, []⟩ : Seg).cells (.slice none 0 0)) → (w5.alloc (.cells #[.int .i64 (sl : Int), .int .i64 (nx : Int), .slice none 0 0] 179)).drew.grownBy w7 (Value.slice A6 (goes full ks).length c6).ownBlock →
   w7.heap[q]? = w5.heap[q]? from fun w7 A7 c7 _ g => (g.block q (Nat.lt_of_lt_of_le hq5 HH0.out.size) (fun e => HM5.out.kq q e.symm rfl)).trans (HH0.out.block q trivial hq5))
 clear h0 hb5 hk5 f3
 have hk05 : Keeps (fun b => ¬ F.M b ∧ ¬ Fs.M b) w w5 := by
  have h1 : Keeps (fun b => ¬ F.M b ∧ ¬ Fs.M b) w w3 := (HK1.out.mono fun _ _ _ => trivial).trans (HST.out.keeps.mono fun b _ hb => hb.1)
  have h2 : Keeps (fun b => ¬ F.M b ∧ ¬ Fs.M b) w3 w4 := HK4.out.mono fun b _ hb e => hb.2 (HA.out.mkk b e)
  have h3 : Keeps (fun b => ¬ F.M b ∧ ¬ Fs.M b) w4 w5 := HK5.out.mono fun b _ hb e => hb.2 (by rw [show b = q from e]; exact HA.out.mq)
  exact (h1.trans h2).trans h3
 have HK05 := Hd hk05
 have HDF := Hd (show DAt w5 p F3 ((s.write (i + sl * 8) (encL (nx * 8) [])).flush) from (HD3.out.keep (HK4.out.mono fun b _ hb e => HAP3.out.r b (HA.out.mkk b e) hb)).keep (HK5.out.mono fun b _ hb e => HAP3.out.r q HA.out.mq (by rw [← show b = q from e]; exact hb)))
 have HSS := Hd (show w.heap.size ≤ w5.heap.size from hk05.size)
 clear hk05
 obtain ⟨gm, hgm⟩ : ∃ gm, (goes full ks).length = gm := ⟨_, rfl⟩
 have HGM := Hd hgm
 rw [hgm] at c3 HOWN H63 hby HBQ hm6
 have HM5' := Hd (show LogMid w5 q p i n (goes full ks) sl left nx (.slice A6 gm c6) T (goesE full Es) from by rw [← hgm]; exact HM5.out)
 have hbx : ∀ b, (Value.slice A6 gm c6).ownBlock = some b → Fs.M b := fun b e => HA.out.mkk b (by rw [← HKO.out, hgm]; exact e)
 have HBX := Hd hbx
 rw [hgm]
 clear hgm HM5 hbx
 go_wp2_with fail
 go_region_law (refine seg_elem.step_append rfl (.tmp 42) (.tmp 44) 135 rfl (by simp [Act.eval]) HOWN.out (by simp [Act.eval]) HSRC.out H63.out hby hbase ?_; intro v7 w7 o7 g7 b7; obtain ⟨A7, c7, hv⟩ := own_form o7; subst hv; have hl7 := (HBQ.out w7 A7 c7 o7 g7).trans HM5'.out.blk; have cc3 := (cell_of_block hl7 3).trans rfl; have ff3 := unfrozen_of_block hl7 3)
 all_goals
  have HM8 := Hd (HM5'.out.put ⟨sl, nx, []⟩ (.slice none 0 0) rfl rfl _ HH0.out (by rw [HGM.out]; exact o7) g7 b7)
  have hk8 : Keeps (fun b => b ≠ q ∧ (Value.slice A6 gm c6).ownBlock ≠ some b) w5 (w7.setCell ⟨q, 3, none⟩ (.slice A7 (gm + 1) c7)) :=
   ((HH0.out.mono fun _ _ _ => trivial).trans (Keeps.of_grown g7 fun b e _ hn => hn.2 e)).setCell (.inr fun hn => hn.1 rfl) _
  have HBB := Hd (show ∀ b, (Value.slice A7 (gm + 1) c7).ownBlock = some b → Fs.M b ∨ w5.heap.size ≤ b from fun b e => by
   rcases b7 with e2 | e2
   ·exact .inl (HBX.out b (by rw [← e2]; exact e))
   ·right
    rw [e2] at e; injection e with e
    have := HH0.out.size; omega)
  have HK8 := Hd hk8
  clear o7 g7 b7 hl7 cc3 ff3 hk8
  generalize w7.setCell ⟨q, 3, none⟩ (.slice A7 (gm + 1) c7) = w8 at HM8 HK8 ⊢
  have hbh := behind_any w8 q p i n HM8.out.blk.head sl (by omega) (by omega) (by omega)
  rw [HR.out] at hbh
  have HBH := Hd hbh
  have e08 := HK8.out.cell e0 ⟨by show w.heap.size ≠ q; omega, fun e => by have := HA.out.lt w.heap.size (.inl (HBX.out _ e)); omega⟩
  have c4 := (cell_of_block HM8.out.blk 4).trans rfl
  have f4 := unfrozen_of_block HM8.out.blk 4
  have c5 := (cell_of_block HM8.out.blk 5).trans rfl
  have f5 := unfrozen_of_block HM8.out.blk 5
  have c6' := (cell_of_block HM8.out.blk 6).trans rfl
  have f6 := unfrozen_of_block HM8.out.blk 6
  have hb11 := block_setCell (block_setCell (block_setCell HM8.out.blk (i := 4) (.int .i64 (r : Int))) (i := 5) (.int .i64 424)) (i := 6) (.slice none 0 0)
  have hk11 : Keeps (fun b => b ≠ q) w8 (((w8.setCell ⟨q, 4, none⟩ (.int .i64 (r : Int))).setCell ⟨q, 5, none⟩ (.int .i64 424)).setCell ⟨q, 6, none⟩ (.slice none 0 0)) := (((Keeps.refl _ w8).setCell (.inr fun hn => hn rfl) _).setCell (.inr fun hn => hn rfl) _).setCell (.inr fun hn => hn rfl) _
  have hM := HM8.out.set (sl' := r) (left' := 424) (nx' := nx) (T' := .slice none 0 0) hb11 hk11
  have HFIN := Hd (show ∃ (F' Fs' : Foot) (K' : Value) (Es' : List Value), DAt (((w8.setCell ⟨q, 4, none⟩ (.int .i64 (r : Int))).setCell ⟨q, 5, none⟩ (.int .i64 424)).setCell ⟨q, 6, none⟩ (.slice none 0 0)) p F' ((s.write (i + sl * 8) (encL (nx * 8) [])).flush) ∧
    LogAt (((w8.setCell ⟨q, 4, none⟩ (.int .i64 (r : Int))).setCell ⟨q, 5, none⟩ (.int .i64 424)).setCell ⟨q, 6, none⟩ (.slice none 0 0)) q Fs' p i n (goes full ks ++ [⟨sl, nx, []⟩]) r 424 nx [] K' (.slice none 0 0) Es' ∧ Went w (((w8.setCell ⟨q, 4, none⟩ (.int .i64 (r : Int))).setCell ⟨q, 5, none⟩ (.int .i64 424)).setCell ⟨q, 6, none⟩ (.slice none 0 0)) F F3 Fs ⟨hasB q (.slice A7 (gm + 1) c7) (goesE full Es ++ [.slice none 0 0]), fun _ => False⟩ ∧ F' = F3 ∧ Fs' = ⟨hasB q (.slice A7 (gm + 1) c7) (goesE full Es ++ [.slice none 0 0]), fun _ => False⟩ from by
   have hFM : ∀ b, hasB q (.slice A7 (gm + 1) c7) (goesE full Es ++ [.slice none 0 0]) b → Fs.M b ∨ w5.heap.size ≤ b := fun b hb => by
    rcases hasB_nil hb with rfl | hb | ⟨E, hE, hb⟩
    ·exact .inl HA.out.mq
    ·exact HBB.out b hb
    ·exact .inl (HA.out.me E (goesE_mem hE) b hb)
   have h35 : ∀ b, F3.all b → b < w5.heap.size := fun b hb => HDF.out.lt b hb
   have hap : Apart F3 ⟨hasB q (.slice A7 (gm + 1) c7) (goesE full Es ++ [.slice none 0 0]), fun _ => False⟩ := ⟨fun b hb hx => by
     rcases hx with hx | hx
     ·rcases hFM b hx with h1 | h1
      ·exact HAP3.out.l b hb (.inl h1)
      ·have := h35 b (.inl hb); omega
     ·exact hx, fun b hb hx => by
     rcases hFM b hb with h1 | h1
     ·exact HAP3.out.r b h1 hx
     ·have := h35 b hx; omega⟩
   have hkk : Keeps (fun b => b ≠ q ∧ (Value.slice A6 gm c6).ownBlock ≠ some b) w5 (((w8.setCell ⟨q, 4, none⟩ (.int .i64 (r : Int))).setCell ⟨q, 5, none⟩ (.int .i64 424)).setCell ⟨q, 6, none⟩ (.slice none 0 0)) := HK8.out.trans (hk11.mono fun b _ hb => hb.1)
   refine ⟨F3, _, _, _, HDF.out.keep (hkk.mono fun b _ hb => ⟨fun e => HAP3.out.r q HA.out.mq (by rw [← e]; exact hb), fun e => HAP3.out.r b (HBX.out b e) hb⟩), hM.at_ (fun _ => False) (fun _ h => h.elim) (fun _ _ h => h) ⟨none, 0, rfl, Nat.le_refl _, Nat.zero_le _, Row.nil _ _ _⟩, ⟨hap, ?_, ?_, ?_, ?_, fun b hb => hb.elim⟩, rfl, rfl⟩
   ·exact HK05.out.trans (hkk.mono fun b _ hb => ⟨fun e => hb.2 (by rw [e]; exact HA.out.mq), fun e => hb.2 (HBX.out b e)⟩)
   ·exact fun b hb => (HST.out.m b hb).imp id fun h1 => by have := HK1.out.size; omega
   ·exact fun b hb => (HST.out.i b hb).imp id fun h1 => by have := HK1.out.size; omega
   ·exact fun b hb => (hFM b hb).imp id fun h1 => by have := HSS.out; omega)
  clear hM hk11 hb11 hbh
  go_wp2_with fail
  refine HBH.out.mono ?_
  rintro e w' ⟨rfl, rfl⟩
  go_wp2_with fail
  go_ret
  obtain ⟨F', Fs', K', Es', h1, h2, h3, rfl, rfl⟩ := HFIN.out
  exact ⟨rfl, _, _, _, _, h1, h2, h3⟩
end Go.Proofs.YticophaepapjoaaGreatDoor
