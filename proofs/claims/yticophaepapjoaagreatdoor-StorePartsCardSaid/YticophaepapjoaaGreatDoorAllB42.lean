/-
  SlgAppend, SlgCollOps, SlgCollect: texts of mine, joined.
-/
import Derived.Test.YticophaepapjoaaGreatDoorAllB40
import Derived.Test.YticophaepapjoaaGreatDoorAllB41
open Go.Lib renaming hid → Hd
set_option maxRecDepth 100000
set_option maxHeartbeats 8000000
namespace Go.Proofs.YticophaepapjoaaGreatDoor
open Go Go.RowKit Go.Joins
theorem Went.trans {w w1 w2 : World} {F F1 F2 Fs Fs1 Fs2 : Foot} (h : Went w w1 F F1 Fs Fs1) (k : Went w1 w2 F1 F2 Fs1 Fs2) : Went w w2 F F2 Fs Fs2 := by
 have hz := h.k.size
 refine ⟨k.ap, keeps_on h.k k.k fun b hl hb => ⟨fun hm => ?_, fun hm => ?_⟩, fun b hb => ?_, fun b hb => ?_, fun b hb => ?_, fun b hb => ?_⟩
 ·rcases h.f1 b hm with h1 | h1
  ·exact hb.1 h1
  ·omega
 ·rcases h.f3 b hm with h1 | h1
  ·exact hb.2 h1
  ·omega
 ·rcases k.f1 b hb with h1 | h1
  ·exact h.f1 b h1
  ·exact .inr (by omega)
 ·rcases k.f2 b hb with (h1 | h1) | h1
  ·exact (h.f1 b h1).imp .inl id
  ·exact h.f2 b h1
  ·exact .inr (by omega)
 ·rcases k.f3 b hb with h1 | h1
  ·exact h.f3 b h1
  ·exact .inr (by omega)
 ·rcases k.f4 b hb with (h1 | h1) | h1
  ·exact (h.f3 b h1).imp .inl id
  ·exact h.f4 b h1
  ·exact .inr (by omega)
theorem Went.kp {w w1 w2 : World} {F F2 Fs Fs2 : Foot} (h : Kp w w1) (k : Went w1 w2 F F2 Fs Fs2) : Went w w2 F F2 Fs Fs2 := by
 have hz := h.size
 exact ⟨k.ap, keeps_on (h.mono fun _ _ _ => trivial) k.k fun _ _ hb => hb, fun b hb => (k.f1 b hb).imp id fun e => by omega, fun b hb => (k.f2 b hb).imp id fun e => by omega, fun b hb => (k.f3 b hb).imp id fun e => by omega, fun b hb => (k.f4 b hb).imp id fun e => by omega⟩
theorem LogAt.next_ {w : World} {q p i n sl left nx : Nat} {F : Foot} {ks : List Seg} {tl : List UInt8} {K T : Value} {Es : List Value} (h : LogAt w q F p i n ks sl left nx tl K T Es) (nx' : Nat) : LogAt (w.setCell ⟨q, 7, none⟩ (.int .i64 (nx' : Int))) q F p i n ks sl left nx' tl K T Es := by
 have hk : Keeps (fun b => b ≠ q) w (w.setCell ⟨q, 7, none⟩ (.int .i64 (nx' : Int))) := (Keeps.refl _ w).setCell (.inr fun hn => hn rfl) _
 obtain ⟨A, c, e, h1, h2, hr⟩ := h.tail
 exact ⟨block_setCell h.blk (i := 7) (.int .i64 (nx' : Int)), hk.own h.row h.kq, h.ends.keep hk fun E hE b e e2 => h.ends.out E hE b e (.inl e2), h.kq, ⟨A, c, e, h1, h2, hr.keep (hk.mono fun b _ hb e => h.apart q h.mq (by rw [← show b = q from e]; exact hb))⟩, h.mq, h.mkk, h.me, fun b hb => Nat.lt_of_lt_of_le (h.lt b hb) hk.size, h.apart⟩
def ExtPost (w : World) (q p i n : Nat) (F Fs : Foot) (s : SDev) (ks : List Seg) (sg : Seg) (sl left nx : Nat) (tl : List UInt8) (K : Value) (r : LRec) (w' : World) : Prop :=
 ∃ (F' Fs' : Foot) (T' : Value) (tl' : List UInt8) (Es' : List Value),
   DAt w' p F' (s.puts (i + sg.slot * 8 + endAt sg.recs sg.recs.length / 53) (sg.first * 8 + endAt sg.recs sg.recs.length / 53) (tl ++ putT r.body) (chunks (tl ++ putT r.body).length)) ∧
   tl' = (tl ++ putT r.body).drop ((tl ++ putT r.body).length / 53 * 53) ∧
   LogAt w' q Fs' p i n (ks ++ [⟨sg.slot, sg.first, sg.recs ++ [r]⟩]) sl (left - (putT r.body).length) nx tl' K T' Es' ∧ Went w w' F F' Fs Fs'
theorem lappend_fit (w : World) (hT : Taken w) (q : Nat) (Fs : Foot) (p i n : Nat) (ks : List Seg) (sg : Seg) (sl left nx : Nat) (tl : List UInt8) (K T : Value) (Es : List Value) (h : LogAt w q Fs p i n (ks ++ [sg]) sl left nx tl K T Es) (F : Foot) (s : SDev) (hd : DAt w p F s) (ha : Apart F Fs) (hTM : ¬ F.M 0)
  (A : Option Addr) (c : Nat) (G : Nat → Prop) (l : List UInt8) (hr : Row w A G (bcells l)) (h1 : 1 ≤ l.length) (h300 : l.length ≤ 300) (_hlc : l.length ≤ c) (_hcm : c ≤ maxLen)
  (hxl : (putT l).length ≤ left) (hle : left ≤ 424) (hsum : endAt sg.recs sg.recs.length + left = 424) (htl : tl.length = endAt sg.recs sg.recs.length % 53)
  (hrl : sg.recs.length ≤ 400) (hi : i ≤ 2048) (hsl : sg.slot < n) (hn : n ≤ 200) (hin : i + 8 * n ≤ s.now.length) (hf : sg.first ≤ 274877906943) (hkl : ks.length ≤ 200) (hcalls : s.calls ≤ 549755813888) (hnx : nx ≤ 274877906943) (r : LRec) (hrb : r.body = l) :
  Calls Tryz.prog 71 #[.pointer (some ⟨q, 0, none⟩), .slice A l.length c] w fun e w' => e = .returned (.tuple #[.int .i64 (nx : Int), .int .i64 0]) ∧
   ∃ w1, ExtPost w q p i n F Fs s ks sg sl left nx tl K r w1 ∧ w' = w1.setCell ⟨q, 7, none⟩ (.int .i64 ((nx + 1 : Nat) : Int)) := by
 have HDN := Hd (down_no w q p i n h.head)
 have hft := fits_any w l.length (by unfold maxLen; omega)
 rw [show decide (1 ≤ l.length ∧ l.length ≤ 300) = true by simp; omega] at hft
 have HFT := Hd hft
 have hcv := Row.to_string (P := Tryz.prog) hr Tryz.underlying64 Tryz.underlying5 Tryz.underlying9 l.length c rfl
 have HPT := Hd (text_one [] l (by simp) (by omega) w none 0 (fun _ => True) (Row.nil _ _ _))
 have HEXT := Hd (fun (W : World) (hk : Kp w W) (B : Option Addr) (d : Nat) (R : Nat → Prop) (hrB : Row W B R (bcells (putT r.body))) (hp : 1 ≤ (putT r.body).length) (hxl' : (putT r.body).length ≤ left) =>
  (extend_any W (hT.keep hk) q Fs p i n ks sg sl left nx tl K T Es (h.keep (hk.mono fun _ _ _ => trivial)) F s (hd.keep (hk.mono fun _ _ _ => trivial)) ha hTM r B d R hrB hp hxl' hle hsum htl hrl hi hsl hn hin hf hkl (by omega)).mono fun e w' hh => (⟨hh.1, by
   obtain ⟨F', Fs', T', tl', Es', a1, a2, a3, a4⟩ := hh.2
   exact ⟨F', Fs', T', tl', Es', a1, a2, a3, a4.kp hk⟩⟩ : e = .returned (.int .i64 0) ∧ ExtPost w q p i n F Fs s ks sg sl left nx tl K r w'))
 have c5 := (cell_of_block h.blk 5).trans rfl
 have hpos := putT_pos l
 have HQ := Hd (show ∀ W, ExtPost w q p i n F Fs s ks sg sl left nx tl K r W → W.cell? ⟨q, 7, none⟩ = some (.int .i64 (nx : Int)) ∧ W.frozen? ⟨q, 7, none⟩ = false from fun W ⟨_, _, _, _, _, _, _, hl, _⟩ => ⟨(cell_of_block hl.blk 7).trans rfl, unfrozen_of_block hl.blk 7⟩)
 have hlm : l.length ≤ 9223372036854775807 := by omega
 rw [hrb] at HEXT
 obtain ⟨pl, hpl⟩ : ∃ pl, (putT l).length = pl := ⟨_, rfl⟩
 have HPL := Hd hpl
 rw [hpl] at hxl hpos
 clear h hd ha hTM hr hft hT hsum htl hin hpl hrb
 unfold maxLen at _hcm
 go_enter Tryz.func71, Tryz.ntmps71
 go_wp2_with fail
 refine HDN.out.mono ?_
 rintro e w' ⟨rfl, rfl⟩
 go_wp2_with fail
 refine HFT.out.mono ?_
 rintro e w' ⟨rfl, rfl⟩
 go_wp2_with fail
 refine (show Calls _ _ _ _ _ from HPT.out).mono ?_
 rintro e w1 ⟨v, rfl, ⟨B, d, rfl, hd1, hd2, hrB⟩, hk1⟩
 rw [List.nil_append] at hrB hd1 ⊢
 have c5 := hk1.cell c5 trivial
 have HK1 := Hd hk1
 have HRB := Hd hrB
 rw [HPL.out] at hd1 ⊢
 have hgt : decide ((left : Int) < (pl : Int)) = false := by simp; omega
 unfold maxLen at hd2
 clear hk1 hrB HPT hcv
 go_wp2_with fail
 have hext := HEXT.out w1 HK1.out B d _ HRB.out (by rw [HPL.out]; omega) (by rw [HPL.out]; exact hxl)
 rw [HPL.out] at hext
 refine hext.mono ?_
 clear hext
 rintro e w2 ⟨rfl, hx2⟩
 obtain ⟨c7, f7⟩ := HQ.out w2 hx2
 have HX2 := Hd hx2
 clear hx2 HEXT c5
 go_wp2_with fail
 go_ret2
 refine ⟨rfl, w2, HX2.out, ?_⟩
 rw [show ((nx + 1 : Nat) : Int) = (nx : Int) + 1 by omega]
theorem lappend_new (w : World) (hT : Taken w) (q : Nat) (Fs : Foot) (p i n : Nat) (ks : List Seg) (sl left nx : Nat) (tl : List UInt8) (K T : Value) (Es : List Value) (h : LogAt w q Fs p i n ks sl left nx tl K T Es) (F : Foot) (s : SDev) (hd : DAt w p F s) (ha : Apart F Fs) (hTM : ¬ F.M 0)
  (full : Bool) (hfu : Turn full ks sl) (A : Option Addr) (c : Nat) (G : Nat → Prop) (l : List UInt8) (hr : Row w A G (bcells l)) (h1 : 1 ≤ l.length) (h300 : l.length ≤ 300) (_hlc : l.length ≤ c) (_hcm : c ≤ maxLen)
  (hTS : ¬ Fs.M 0) (hxl : left < (putT l).length) (hle : left ≤ 424) (hi : i ≤ 2048) (hsl : sl < n) (hn : n ≤ 200) (hin : i + 8 * n ≤ s.now.length) (hkl : ks.length ≤ 200) (hcalls : s.calls ≤ 549755813888) (hnx1 : 1 ≤ nx) (hnx : nx ≤ 274877906943) (r : LRec) (hrb : r.body = l) :
  Calls Tryz.prog 71 #[.pointer (some ⟨q, 0, none⟩), .slice A l.length c] w fun e w' => e = .returned (.tuple #[.int .i64 (nx : Int), .int .i64 0]) ∧
   ∃ (w1 : World) (F1 Fs1 : Foot) (K1 : Value), Went w w1 F F1 Fs Fs1 ∧ ∃ w2, ExtPost w1 q p i n F1 Fs1 ((s.write (i + sl * 8) (encL (nx * 8) [])).flush) (goes full ks) ⟨sl, nx, []⟩ ((sl + 1) % n) 424 nx [] K1 r w2 ∧ w' = w2.setCell ⟨q, 7, none⟩ (.int .i64 ((nx + 1 : Nat) : Int)) := by
 have HDN := Hd (down_no w q p i n h.head)
 have hft := fits_any w l.length (by unfold maxLen; omega)
 rw [show decide (1 ≤ l.length ∧ l.length ≤ 300) = true by simp; omega] at hft
 have HFT := Hd hft
 have hcv := Row.to_string (P := Tryz.prog) hr Tryz.underlying64 Tryz.underlying5 Tryz.underlying9 l.length c rfl
 have HPT := Hd (text_one [] l (by simp) (by omega) w none 0 (fun _ => True) (Row.nil _ _ _))
 have hpm := putT_most l h300
 have htw : 0 < w.heap.size := World.block_lt_of_cell? w _ (hT 0 (by decide))
 have hgl : (goes full ks).length ≤ 200 := by
  cases full
  ·exact hkl
  ·show ks.tail.length ≤ 200; rw [List.length_tail]; omega
 have HBEG := Hd (fun (W : World) (hk : Kp w W) => (begin_any W (hT.keep hk) q Fs p i n ks sl left nx tl K T Es (h.keep (hk.mono fun _ _ _ => trivial)) F s (hd.keep (hk.mono fun _ _ _ => trivial)) ha hTM full hfu hi hn hsl hin hnx1 hnx hkl (by omega)))
 have HEXT := Hd (fun (W : World) (F1 Fs1 : Foot) (K1 : Value) (Es1 : List Value) (hT1 : Taken W) (hl1 : LogAt W q Fs1 p i n (goes full ks ++ [⟨sl, nx, []⟩]) ((sl + 1) % n) 424 nx [] K1 (.slice none 0 0) Es1) (hd1 : DAt W p F1 ((s.write (i + sl * 8) (encL (nx * 8) [])).flush)) (hap1 : Apart F1 Fs1) (htm1 : ¬ F1.M 0) (B : Option Addr) (d : Nat) (R : Nat → Prop) (hrB : Row W B R (bcells (putT r.body))) (hp : 1 ≤ (putT r.body).length) (hxl' : (putT r.body).length ≤ 424) =>
  extend_any W hT1 q Fs1 p i n (goes full ks) ⟨sl, nx, []⟩ ((sl + 1) % n) 424 nx [] K1 (.slice none 0 0) Es1 hl1 F1 _ hd1 hap1 htm1 r B d R hrB hp hxl' (Nat.le_refl _) (by simp [endAt, strm]) (by simp [endAt, strm]) (by simp) hi hsl hn (by simp [SDev.flush, SDev.write]; omega) hnx hgl (by show s.calls + 1 + 1 ≤ _; omega))
 have c5 := (cell_of_block h.blk 5).trans rfl
 have hpos := putT_pos l
 have hlm : l.length ≤ 9223372036854775807 := by omega
 have HTT := Hd hT
 have HTMM := Hd hTM
 have HTS := Hd hTS
 have HDL := Hd hd.lt
 have HAL := Hd h.lt
 have HRBD := Hd hrb
 rw [hrb] at HEXT
 obtain ⟨pl, hpl⟩ : ∃ pl, (putT l).length = pl := ⟨_, rfl⟩
 have HPL := Hd hpl
 rw [hpl] at hxl hpos hpm
 clear h hd ha hTM hr hft hT hin hpl hrb hfu
 unfold maxLen at _hcm
 go_enter Tryz.func71, Tryz.ntmps71
 go_wp2_with fail
 refine HDN.out.mono ?_
 rintro e w' ⟨rfl, rfl⟩
 go_wp2_with fail
 refine HFT.out.mono ?_
 rintro e w' ⟨rfl, rfl⟩
 go_wp2_with fail
 refine (show Calls _ _ _ _ _ from HPT.out).mono ?_
 rintro e w1 ⟨v, rfl, ⟨B, d, rfl, hd1, hd2, hrB⟩, hk1⟩
 rw [List.nil_append] at hrB hd1 ⊢
 have c5 := hk1.cell c5 trivial
 have HK1 := Hd hk1
 have HRB := Hd hrB
 rw [HPL.out] at hd1 ⊢
 have hgt : decide ((left : Int) < (pl : Int)) = true := by simp; omega
 unfold maxLen at hd2
 clear hk1 hrB HPT hcv
 go_wp2_with fail
 refine (HBEG.out w1 HK1.out).mono ?_
 rintro e w2 ⟨rfl, F1, Fs1, K1, Es1, hd2', hl2, hwe⟩
 have HRB2 := Hd (HRB.out.keep (hwe.k.mono fun b _ hb => ⟨fun hm => by have := HDL.out b (.inl hm); omega, fun hm => by have := HAL.out b (.inl hm); omega⟩))
 have HWE := Hd (hwe.kp HK1.out)
 have HT2 := Hd (show Taken w2 from fun k hk => hwe.k.cell (HK1.out.cell (HTT.out k hk) trivial) ⟨HTMM.out, HTS.out⟩)
 have HTM2 := Hd (show ¬ F1.M 0 from fun hm => (hwe.f1 _ hm).elim HTMM.out fun h => by have := HK1.out.size; omega)
 have HL2 := Hd hl2
 have HD2 := Hd hd2'
 clear hwe hl2 hd2' c5
 go_wp2_with fail
 have hext := HEXT.out w2 F1 Fs1 K1 Es1 HT2.out HL2.out HD2.out HWE.out.ap HTM2.out B d _ HRB2.out (by rw [HPL.out]; omega) (by rw [HPL.out]; omega)
 rw [HPL.out] at hext
 refine hext.mono ?_
 clear hext
 rintro e w3 ⟨rfl, hx3⟩
 obtain ⟨c7, f7⟩ : w3.cell? ⟨q, 7, none⟩ = some (.int .i64 (nx : Int)) ∧ w3.frozen? ⟨q, 7, none⟩ = false := by
  obtain ⟨_, _, _, _, _, _, _, hl, _⟩ := hx3
  exact ⟨(cell_of_block hl.blk 7).trans rfl, unfrozen_of_block hl.blk 7⟩
 have HX3 := Hd hx3
 clear hx3 HEXT
 go_wp2_with fail
 go_ret2
 refine ⟨rfl, w2, F1, Fs1, K1, HWE.out, w3, by unfold ExtPost; rw [HRBD.out, HPL.out]; exact HX3.out, ?_⟩
 rw [show ((nx + 1 : Nat) : Int) = (nx : Int) + 1 by omega]
end Go.Proofs.YticophaepapjoaaGreatDoor
namespace Go.Proofs.YticophaepapjoaaGreatDoor
open Go Go.RowKit Go.Joins Go.Shelf
theorem enc_snoc (d : List SegP) (x : SegP) : encP (d ++ [x]) = encP d ++ x.1.cells x.E := by
 induction d with
 | nil => simp [encP, SegP.enc]
 | cons y d ih => rw [List.cons_append, encP_tail, ih, encP_tail, List.append_assoc]
structure Coll (w0 w : World) (q : Nat) (K : Value) (d : List SegP) : Prop where
 row : w.ownsRow 0 179 3 K d.length (encP d)
 kb : ∀ b, K.ownBlock = some b → w0.heap.size ≤ b
 own : ∀ x ∈ d, w.ownsRow 0 3 1 x.E x.1.recs.length (endsC x.1.recs)
 eb : ∀ x ∈ d, ∀ b, x.E.ownBlock = some b → w0.heap.size ≤ b ∧ K.ownBlock ≠ some b
 two : (d.map SegP.E).Pairwise ApartV
theorem Coll.keep {w0 w w' : World} {q : Nat} {K : Value} {d : List SegP} (h : Coll w0 w q K d) (hk : Keeps (fun b => w0.heap.size ≤ b) w w') : Coll w0 w' q K d :=
 ⟨hk.own h.row h.kb, h.kb, fun x hx => hk.own (h.own x hx) fun b e => (h.eb x hx b e).1, h.eb, h.two⟩
theorem Coll.put {w0 w w1 : World} {q : Nat} {K K' : Value} {d : List SegP} {x : SegP} (h : Coll w0 w q K d) (hx : w.ownsRow 0 3 1 x.E x.1.recs.length (endsC x.1.recs)) (hxb : ∀ b, x.E.ownBlock = some b → w0.heap.size ≤ b ∧ K.ownBlock ≠ some b) (hxd : ∀ y ∈ d, ApartV y.E x.E)
  (hr : w1.ownsRow 0 179 3 K' (d.length + 1) (encP (d ++ [x]))) (hk : Keeps (fun b => K.ownBlock ≠ some b) w w1) (hb : K'.ownBlock = K.ownBlock ∨ ∃ b, K'.ownBlock = some b ∧ w.heap.size ≤ b) (hz : w0.heap.size ≤ w.heap.size) : Coll w0 w1 q K' (d ++ [x]) := by
 have hall : ∀ y ∈ d ++ [x], w.ownsRow 0 3 1 y.E y.1.recs.length (endsC y.1.recs) ∧ ∀ b, y.E.ownBlock = some b → w0.heap.size ≤ b ∧ K.ownBlock ≠ some b := fun y hy => by
  rcases List.mem_append.1 hy with hy | hy
  ·exact ⟨h.own y hy, h.eb y hy⟩
  ·rw [List.mem_singleton.1 hy]; exact ⟨hx, hxb⟩
 refine ⟨by rw [List.length_append, List.length_singleton]; exact hr, fun b e => ?_, fun y hy => hk.own (hall y hy).1 fun b e => ((hall y hy).2 b e).2, fun y hy b e => ⟨((hall y hy).2 b e).1, fun e2 => ?_⟩, ?_⟩
 ·rcases hb with h2 | ⟨c, h2, h3⟩
  ·exact h.kb b (by rw [← h2]; exact e)
  ·rw [h2] at e; injection e with e; omega
 ·rcases hb with h2 | ⟨c, h2, h3⟩
  ·exact ((hall y hy).2 b e).2 (by rw [← h2]; exact e2)
  ·rw [h2] at e2; injection e2 with e2
   have := ((hall y hy).1.lt b e).2
   omega
 ·rw [List.map_append, List.map_cons, List.map_nil]
  refine List.pairwise_append.2 ⟨h.two, by simp, fun a ha b hb2 => ?_⟩
  rw [List.mem_singleton.1 hb2]
  obtain ⟨y, hy, rfl⟩ := List.mem_map.1 ha
  exact hxd y hy
def LitS (O : Option Nat) (q : Nat) (cs : List Value) : World → Value → Prop := fun w v => ∃ B, v = .slice (some ⟨B, 0, none⟩) 1 1 ∧ O ≠ some B ∧ B ≠ q ∧ w.heap[B]? = some (.cells cs.toArray 179 (0, 0))
def AppS (n0 q : Nat) (O : Option Nat) (m : Nat) (cs : List Value) : World → Value → Prop := fun w v => w.ownsRow 0 179 3 v m cs ∧ (v.ownBlock = O ∨ ∃ b, v.ownBlock = some b ∧ n0 ≤ b) ∧ v.ownBlock ≠ some q
def VC (n0 q : Nat) (K sv : Value) (cs : List Value) (m : Nat) (xs : List Value) : Nat → World → Value → Prop
 | 0 => IsV (.pointer (some ⟨q, 0, none⟩))
 | 1 => IsV (.pointer (some ⟨q, 0, none⟩))
 | 2 => IsV (.pointer (some ⟨q, 0, none⟩))
 | 3 => IsV (.pointer (some ⟨q, 3, none⟩))
 | 4 => IsV K
 | 5 => IsV sv
 | 6 => LitS K.ownBlock q cs
 | 7 => AppS n0 q K.ownBlock m xs
 | 8 => IsV (.pointer (some ⟨q, 0, none⟩))
 | 9 => IsV (.pointer (some ⟨q, 3, none⟩))
 | _ => fun _ _ => True
theorem VC_k {n0 q : Nat} {K sv : Value} {cs : List Value} {m : Nat} {xs : List Value} (G : Nat → Prop) (i : Nat) (hl : i = 6 → ∀ B, K.ownBlock ≠ some B → B ≠ q → G B) (ha : i = 7 → ∀ b, b ≠ q → G b) (w w' : World) (v : Value) (h : Keeps G w w') (hv : VC n0 q K sv cs m xs i w v) : VC n0 q K sv cs m xs i w' v := by
 match i, hv with
 | 0, hv => exact hv
 | 1, hv => exact hv
 | 2, hv => exact hv
 | 3, hv => exact hv
 | 4, hv => exact hv
 | 5, hv => exact hv
 | 6, hv =>
  obtain ⟨B, e, h1, h2, hb⟩ := hv
  exact ⟨B, e, h1, h2, (h.block B (hl rfl B h1 h2) (Array.getElem?_eq_some_iff.1 hb).1).trans hb⟩
 | 7, hv => exact ⟨h.own hv.1 fun b hb => ha rfl b fun e => hv.2.2 (by rw [hb, e]), hv.2⟩
 | 8, hv => exact hv
 | 9, hv => exact hv
 | n + 10, _ => trivial
def SC (wN : World) (q : Nat) (O : Option Nat) (m : Nat) (xs : List Value) : Bool → Bool → World → Prop
 | false, false, w => Kp wN w
 | true, false, w => Keeps (fun b => O ≠ some b) wN w
 | true, true, w => ∃ W1 v, Keeps (fun b => O ≠ some b) wN W1 ∧ AppS wN.heap.size q O m xs W1 v ∧ Kp (W1.setCell ⟨q, 3, none⟩ v) w
 | false, true, _ => False
theorem SC.keep {wN w w' : World} {q : Nat} {O : Option Nat} {m : Nat} {xs : List Value} {b c : Bool} (hs : SC wN q O m xs b c w) (h : Kp w w') : SC wN q O m xs b c w' := by
 cases b <;> cases c
 ·exact hs.trans h
 ·exact hs
 ·exact hs.trans (h.mono fun _ _ _ => trivial)
 ·obtain ⟨W1, v, h1, h2, h3⟩ := hs
  exact ⟨W1, v, h1, h2, h3.trans h⟩
theorem SC.kp0 {wN w : World} {q : Nat} {O : Option Nat} {m : Nat} {xs : List Value} {c : Bool} (hs : SC wN q O m xs false c w) : Kp wN w := by
 cases c
 ·exact hs
 ·exact hs.elim
theorem lits_src {w : World} {B : Nat} {cs : List Value} (hb : w.heap[B]? = some (.cells cs.toArray 179 (0, 0))) (hl : cs.length = 3) (h1 : ∀ v ∈ cs, v.oneCell' = true) : Src Tryz.prog 3 135 (.slice (some ⟨B, 0, none⟩) 1 1) 1 cs w :=
 Src.ofSlice _ Tryz.underlying135 ⟨B, 0, none⟩ 1 1 _ (by rw [hl]) (fun j v hv => by
  rw [WideShapes.add_plain, Nat.zero_add]
  exact (cell_of_block hb j).trans (by rw [← hv]; simp)) h1
theorem kp_oneS {w : World} {o : Oper} {a : Act} {Q : Exit → Act → World → Prop} {x : Operand} {v0 v1 v2 : Value} (_h0 : v0.oneCell' = true) (_h1 : v1.oneCell' = true) (_h2 : v2.oneCell' = true) (ho : o.op = .buildSlice 135 1 #[(0, x)]) (hx : a.eval x = .agg #[v0, v1, v2]) : o.wp Tryz.prog a w (fun a' w' => ∃ v, a' = a.put o.dst v ∧ Kp w w' ∧ (v = .slice (some ⟨w.heap.size, 0, none⟩) 1 1 ∧ w' = w.alloc (.cells #[v0, v1, v2] 179))) Q := by
 refine kp_yield (V := fun w' v => v = .slice (some ⟨w.heap.size, 0, none⟩) 1 1 ∧ w' = w.alloc (.cells #[v0, v1, v2] 179)) (v := .slice (some ⟨w.heap.size, 0, none⟩) 1 1) (w' := w.alloc (.cells #[v0, v1, v2] 179)) ?_ ((Keeps.refl _ w).alloc _) ⟨rfl, rfl⟩
 generalize a.eval = ρ at hx
 unfold execOp
 go_simp
theorem mod_back (x n : Nat) (hx : 1 ≤ x) (hn : 1 ≤ n) : (x % n + n - 1) % n = (x - 1) % n := by
 have e1 : x % n + n - 1 = x % n + (n - 1) := by omega
 have e2 : x + (n - 1) = (x - 1) + n := by omega
 rw [e1, Nat.mod_add_mod, e2, Nat.add_mod_right]
theorem rev_lt {n j : Nat} (h : j < n) : n - 1 - j < n := by omega
def slotBack (b0 n m j : Nat) : Nat := (b0 + n + m - 1 - j) % n
theorem slotBack_at {n b0 : Nat} {ks : List Seg} (h : Chain n b0 ks) (j : Nat) (hj : j < ks.length) : slotBack b0 n ks.length j = (ks[ks.length - 1 - j]'(rev_lt hj)).slot := by
 rw [h.slot]
 unfold slotBack
 rw [show b0 + n + ks.length - 1 - j = b0 + (ks.length - 1 - j) + n by omega, Nat.add_mod_right]
theorem slotBack_next {n b0 m j : Nat} (hn : 1 ≤ n) (_hm : 1 ≤ m) (hj : j < m) : (slotBack b0 n m j + n - 1) % n = slotBack b0 n m (j + 1) := by
 unfold slotBack
 rw [mod_back _ _ (by omega) hn, show b0 + n + m - 1 - j - 1 = b0 + n + m - 1 - (j + 1) by omega]
theorem Coll.rev {w0 w w' : World} {q g c : Nat} {d : List SegP} (h : Coll w0 w q (.slice (some ⟨g, 0, none⟩) d.length c) d) (hr : w'.ownsRow 0 179 3 (.slice (some ⟨g, 0, none⟩) d.length c) d.length (encP d.reverse)) (hg : w.grownBy w' (some g)) : Coll w0 w' q (.slice (some ⟨g, 0, none⟩) d.length c) d.reverse := by
 have hk : Keeps (fun b => b ≠ g) w w' := Keeps.of_grown hg fun b hb _ hn => hn (by injection hb with hb; exact hb.symm)
 refine ⟨by rw [List.length_reverse]; exact hr, h.kb, fun x hx => hk.own (h.own x (List.mem_reverse.1 hx)) fun b e e2 => (h.eb x (List.mem_reverse.1 hx) b e).2 (by rw [e2]; rfl), fun x hx => h.eb x (List.mem_reverse.1 hx), ?_⟩
 rw [List.map_reverse]
 exact List.pairwise_reverse.2 (h.two.imp fun h => h.symm)
theorem rev_exit (w wr : World) (q p i n g c cs nx : Nat) (d : List SegP) (ks : List Seg) (hdl : d.length ≤ 200) (hq : q < w.heap.size) (hcol : Coll w wr q (.slice (some ⟨g, 0, none⟩) d.length c) d) (hblk : LBlk wr q p i n (.slice (some ⟨g, 0, none⟩) d.length c) cs 0 (.slice none 0 0) nx) (hkw : Keeps (fun b => b ≠ q) w wr) (hdr : d.map Prod.fst = ks.reverse) :
  ∀ W, Kp wr W → Calls Tryz.prog 193 #[.slice (some ⟨g, 0, none⟩) d.length c] W fun e w' => e = .returned (.tuple #[]) ∧
   ∃ (K : Value) (d' : List SegP), d'.map Prod.fst = ks ∧ LBlk w' q p i n K cs 0 (.slice none 0 0) nx ∧ Coll w w' q K d' ∧ Keeps (fun b => b ≠ q) w w' := by
 intro W hW
 have hc := hcol.keep (hW.mono fun _ _ _ => trivial)
 refine (reverse_any W g c d.length d rfl hc.row (by omega)).mono ?_
 rintro e w' ⟨rfl, ho, hg⟩
 have hgw : w.heap.size ≤ g := hcol.kb g rfl
 have hk : Keeps (fun b => b ≠ g) W w' := Keeps.of_grown hg fun b hb _ hn => hn (by injection hb with hb; exact hb.symm)
 refine ⟨rfl, _, d.reverse, by rw [List.map_reverse, hdr, List.reverse_reverse], (hblk.keep hW trivial).keep hk (by show q ≠ g; omega), hc.rev ho hg, keeps_on (keeps_on hkw hW fun _ _ _ => trivial) hk fun b hl _ => by show b ≠ g; omega⟩
theorem Coll.nil (w w' : World) (q : Nat) : Coll w w' q (.slice none 0 0) [] where
 row := World.ownsRow_nil _ _ _ _
 kb := fun _b e => nomatch e
 own := fun _x hx => nomatch hx
 eb := fun _x hx => nomatch hx
 two := List.Pairwise.nil
theorem collect_any (w : World) (hT : Taken w) (q p i n : Nat) (nx : Nat) (sl0 : Nat) (hB : LBlk w q p i n (.slice none 0 0) sl0 0 (.slice none 0 0) nx) (F : Foot) (s : SDev) (hd : DAt w p F s) (hq : ¬ F.all q) (hqt : 0 ≠ q) (ks : List Seg) (b0 : Nat) (hch : Chain n b0 ks) (m : Nat) (hm : ks.length = m) (hm1 : 1 ≤ m) (hon : OnDisk s.now i n ks)
  (hi : i ≤ 2048) (hn : n ≤ 200) (hin : i + 8 * n ≤ s.now.length) (hf : ∀ sg ∈ ks, sg.first ≤ 274877906943) (hend : ∀ sg ∈ ks, sg.end_ ≤ nx) (hnx : nx ≤ 549755813888) (ls : Nat) (hls : ls = slotBack b0 n m 0) :
  Calls Tryz.prog 167 #[.pointer (some ⟨q, 0, none⟩), .int .i64 (ls : Int)] w fun e w' => (∃ v, e = .returned v) ∧
   ∃ (K : Value) (d : List SegP), d.map Prod.fst = ks ∧ LBlk w' q p i n K ((b0 + m) % n) 0 (.slice none 0 0) nx ∧ Coll w w' q K d ∧ Keeps (fun b => b ≠ q) w w' := by
 have hmn : m ≤ n := by rw [← hm]; exact hch.len
 have hqlt : q < w.heap.size := (Array.getElem?_eq_some_iff.1 hB).1
 have HKD := Hd (fun (W : World) (hk : Keeps (fun b => b ≠ q) w W) => hd.keep (hk.mono fun b _ hb e => hq (by rw [← e]; exact hb)))
 have HKT := Hd (show ∀ W, Keeps (fun b => b ≠ q) w W → Taken W from fun W hk k hk16 => hk.cell (hT k hk16) hqt)
 have HYES := Hd (fun (W : World) (hk : Keeps (fun b => b ≠ q) w W) (hL : LHead W q p i n) (j : Nat) (hj : j < ks.length) =>
  segm_yes W (HKT.out W hk) q p i n hL F s (HKD.out W hk) (ks[ks.length - 1 - j]'(rev_lt hj)) (hch.ok _ (List.getElem_mem _)) (hch.full _ (List.getElem_mem _)) (hon.on _ (List.getElem_mem _)) hi (by have := hch.slot_lt _ (List.getElem_mem (rev_lt hj)); omega) (hf _ (List.getElem_mem _)) (by have := hch.slot_lt _ (List.getElem_mem (rev_lt hj)); omega))
 have hnob : m < n → secAt s.now i (slotBack b0 n m m) 0 = none := fun hlt => by
  refine hon.none _ (Nat.mod_lt _ (by omega)) (fun sg hsg e => ?_) 0 (by decide)
  obtain ⟨t, ht, rfl⟩ := List.getElem_of_mem hsg
  rw [hch.slot t ht] at e
  have hb := hch.base
  have e : (b0 + t) % n = (b0 + n + m - 1 - m) % n := e
  rw [show b0 + n + m - 1 - m = b0 + (n - 1) by omega] at e
  have e1 : (b0 + t) % n = if b0 + t < n then b0 + t else b0 + t - n := by
   split
   ·exact Nat.mod_eq_of_lt (by assumption)
   ·rw [Nat.mod_eq_sub_mod (by omega), Nat.mod_eq_of_lt (by omega)]
  have e2 : (b0 + (n - 1)) % n = if b0 + (n - 1) < n then b0 + (n - 1) else b0 + (n - 1) - n := by
   split
   ·exact Nat.mod_eq_of_lt (by assumption)
   ·rw [Nat.mod_eq_sub_mod (by omega), Nat.mod_eq_of_lt (by omega)]
  rw [e1, e2] at e
  split at e <;> split at e <;> omega
 have HNO := Hd (fun (W : World) (hk : Keeps (fun b => b ≠ q) w W) (hL : LHead W q p i n) (hlt : m < n) => segm_no W (HKT.out W hk) q p i n hL F s (HKD.out W hk) (slotBack b0 n m m) hi (by have := Nat.mod_lt (b0 + n + m - 1 - m) (show 0 < n by omega); unfold slotBack; omega) (by have := Nat.mod_lt (b0 + n + m - 1 - m) (show 0 < n by omega); unfold slotBack; omega) (hnob hlt))
 have HSB := Hd (fun (j : Nat) (hj : j < ks.length) => slotBack_at hch j hj)
 have HSN := Hd (fun (j : Nat) (hj : j < m) => slotBack_next (b0 := b0) (n := n) (by omega) hm1 hj)
 have HSL := Hd (show ∀ j, slotBack b0 n m j < n from fun j => Nat.mod_lt _ (by omega))
 have HEND := Hd hend
 have HM := Hd hm
 have HB := Hd hB
 have HLS := Hd hls
 have HCNT := Hd (fun sg (h : sg ∈ ks) => (hch.ok sg h).count)
 have HFULL := Hd (fun sg (h : sg ∈ ks) => List.length_pos_iff.2 (hch.full sg h))
 have HRISE := Hd hch.rise
 have HF := Hd hf
 have HBM := Hd (show ((slotBack b0 n m 0) + 1) % n = (b0 + m) % n from by
  unfold slotBack
  rw [Nat.mod_add_mod, show b0 + n + m - 1 - 0 + 1 = b0 + m + n by omega, Nat.add_mod_right])
 have c2 := (cell_of_block hB 2).trans rfl
 have c4 := (cell_of_block hB 4).trans rfl
 have f4 := unfrozen_of_block hB 4
 have c7 := (cell_of_block hB 7).trans rfl
 have hb1 := block_setCell hB (i := 4) (.int .i64 (ls : Int))
 have hk1 : Keeps (fun b => b ≠ q) w (w.setCell ⟨q, 4, none⟩ (.int .i64 (ls : Int))) := (Keeps.refl _ w).setCell (.inr fun hn => hn rfl) _
 have HB1 := Hd (show LBlk (w.setCell ⟨q, 4, none⟩ (.int .i64 (ls : Int))) q p i n (.slice none 0 0) ls 0 (.slice none 0 0) nx from hb1)
 have HK1 := Hd hk1
 clear hT hB hd hq hqt hch hon hf hend hm hls hb1 hk1 hnob hin
 go_enter Tryz.func167, Tryz.ntmps167
 go_wp2_with fail
 go_loopw [1, 4, 20] (fun v1 v4 vi wr => ∃ (j f cs : Nat) (K : Value) (d : List SegP), j ≤ m ∧ vi = .int .i64 j ∧ v1 = .int .i64 ((slotBack b0 n m j : Nat) : Int) ∧ v4 = .int .i64 (f : Int) ∧ f ≤ 549755813888 ∧ RowKit.Hid (∀ t (ht : t < ks.length), t + j < m → (ks[t]).end_ ≤ f) ∧ RowKit.Hid (d.map Prod.fst = ks.reverse.take j) ∧
   RowKit.Hid (LBlk wr q p i n K cs 0 (.slice none 0 0) nx) ∧ RowKit.Hid ((j = 0 → cs = ls) ∧ (0 < j → cs = (b0 + m) % n)) ∧ RowKit.Hid (Coll w wr q K d) ∧ RowKit.Hid (Keeps (fun b => b ≠ q) w wr)) (fun _ _ vi _ => n - (intOf vi).toNat)
 case atStart => exact ⟨0, nx, ls, .slice none 0 0, [], Nat.zero_le _, rfl, by rw [HLS.out], rfl, hnx, Hd (fun t ht _ => HEND.out _ (List.getElem_mem _)), Hd rfl, HB1, Hd ⟨fun _ => rfl, fun h => absurd h (by decide)⟩, Hd (Coll.nil _ _ _), HK1⟩
 case round =>
  obtain ⟨j, f, cs, K, d, hj, rfl, rfl, rfl, hfb, hfs, hds, hblk, hcs, hcol, hkw⟩ := hrel
  have hbq : q < wr.heap.size := (Array.getElem?_eq_some_iff.1 hblk.out).1
  obtain ⟨AK, cK, rfl⟩ := own_form hcol.out.row
  have hdl : d.length = j := by
   have := congrArg List.length hds.out
   rw [List.length_map, List.length_take, List.length_reverse, HM.out] at this
   omega
  have hzw : w.heap.size ≤ wr.heap.size := hkw.out.size
  by_cases hjn : j < n
  ·have tjn : decide ((j : Int) < (n : Int)) = true := by simp; omega
   by_cases hjm : j < m
   ·have hjk : j < ks.length := by rw [HM.out]; exact hjm
    obtain ⟨sg, hsg⟩ : ∃ sg, ks[ks.length - 1 - j]'(rev_lt hjk) = sg := ⟨_, rfl⟩
    have hsl : slotBack b0 n m j = sg.slot := by rw [← hsg, ← HSB.out j hjk, HM.out]
    have hmem : sg ∈ ks := hsg ▸ List.getElem_mem _
    have hcall := HYES.out wr hkw.out hblk.out.head j hjk
    rw [hsg] at hcall
    have hefs := hfs.out _ (rev_lt hjk) (by rw [HM.out]; omega)
    rw [hsg] at hefs
    unfold Seg.end_ at hefs
    have hcnt := HCNT.out sg hmem
    have hpos := HFULL.out sg hmem
    have hfirst := HF.out sg hmem
    obtain ⟨rl, hrl⟩ : ∃ rl, sg.recs.length = rl := ⟨_, rfl⟩
    rw [hrl] at hcall hefs hcnt hpos
    have HCALL := Hd hcall
    have HSG := Hd hsg
    have HSLT := Hd hsl
    have HRL := Hd hrl
    have hslb : sg.slot < n := by rw [← hsl]; exact HSL.out j
    have HNX := Hd (HSN.out j hjm)
    have tgt : decide ((f : Int) < (sg.first : Int) + (rl : Int)) = false := by simp; omega
    have tpos : decide ((0 : Int) < (rl : Int)) = true := by simp; omega
    have tpos2 : decide (0 < rl) = true := by simp; omega
    rw [hsl]
    clear hcall hsg hsl hrl
    go_wp2_with fail
    refine HCALL.out.mono ?_
    rintro e w1 ⟨A, c, rfl, ho1, hk1⟩
    have HO1 := Hd ho1
    have HK1' := Hd hk1
    clear ho1 hk1
    go_wp2_with fail
    refine (snext_any _ sg.slot sg.first A rl c (by omega) (by omega)).mono ?_
    rintro e w3 ⟨rfl, hk3⟩
    have hbox := heap_alloc_new w1 (.cells #[.int .i64 (sg.slot : Int), .int .i64 (sg.first : Int), .slice A rl c] 179)
    have hw12 : Kp w1 (w1.alloc (.cells #[.int .i64 (sg.slot : Int), .int .i64 (sg.first : Int), .slice A rl c] 179)) := (Keeps.refl _ w1).alloc _
    have hb3 := (hk3.block w1.heap.size trivial (by simp)).trans hbox
    have x0 := (cell_of_block hb3 0).trans rfl
    have x1 := (cell_of_block hb3 1).trans rfl
    have x2 := (cell_of_block hb3 2).trans rfl
    have HB3 := Hd hb3
    have HK3 := Hd (show Kp wr w3 from HK1'.out.trans (hw12.trans hk3))
    have hz1 := HK1'.out.size
    have hz3 : w1.heap.size < w3.heap.size := (Array.getElem?_eq_some_iff.1 hb3).1
    have HO3 := Hd ((hw12.trans hk3).own HO1.out fun _ _ => trivial)
    clear hk3 hbox hw12 hb3
    go_wp2_with fail
    refine (count_any _ (.int .i64 (sg.slot : Int)) (.int .i64 (sg.first : Int)) A rl c rfl rfl).mono ?_
    rintro e w4 ⟨rfl, hk4⟩
    have hb4 := (hk4.block w1.heap.size trivial hz3).trans HB3.out
    have x0 := (cell_of_block hb4 0).trans rfl
    have x1 := (cell_of_block hb4 1).trans rfl
    have x2 := (cell_of_block hb4 2).trans rfl
    have HB4 := Hd hb4
    have HK4 := Hd (HK3.out.trans hk4)
    have HO4 := Hd (hk4.own HO3.out fun _ _ => trivial)
    have hz4 : w3.heap.size ≤ w4.heap.size := hk4.size
    have hblk4 := hblk.out.keep HK4.out trivial
    have HBLK4 := Hd hblk4
    have c3 := (cell_of_block hblk4 3).trans rfl
    clear hk4 hb4 hblk4
    go_wp2_with fail
    have hOlt : ∀ b, (Value.slice AK d.length cK).ownBlock = some b → w.heap.size ≤ b ∧ b < wr.heap.size := fun b e => ⟨hcol.out.kb b e, (hcol.out.row.lt b e).2⟩
    have HOLT := Hd hOlt
    have HROW4 := Hd (HK4.out.own hcol.out.row fun _ _ => trivial)
    have hz4r : wr.heap.size ≤ w4.heap.size := HK4.out.size
    have HC3 := Hd c3
    have HX0 := Hd x0
    have HX1 := Hd x1
    have HX2 := Hd x2
    refine wp_region_two (V := VC w4.heap.size q (.slice AK d.length cK) (.agg #[.int .i64 (sg.slot : Int), .int .i64 (sg.first : Int), .slice A rl c]) [.int .i64 (sg.slot : Int), .int .i64 (sg.first : Int), .slice A rl c] (d.length + 1) (encP d ++ [.int .i64 (sg.slot : Int), .int .i64 (sg.first : Int), .slice A rl c])) (w0 := w4) 7 10 (SC w4 q (Value.slice AK d.length cK).ownBlock (d.length + 1) (encP d ++ [.int .i64 (sg.slot : Int), .int .i64 (sg.first : Int), .slice A rl c])) (fun a b => Keeps (fun x => (Value.slice AK d.length cK).ownBlock ≠ some x) a b) (fun a b => Keeps (fun x => x ≠ q) a b) GE (by kernel_rfl) (fun i w w' v h hv => VC_k (fun _ => True) i (fun _ _ _ _ => trivial) (fun _ _ _ => trivial) w w' v h hv) (fun b c w w' h hs => hs.keep h)
     (fun i hi w w' v h hv => VC_k _ i (fun _ B h1 _ => h1) (fun e => absurd e hi) w w' v h hv) (fun i _ w w' v h hv => VC_k _ i (fun _ B _ h2 => h2) (fun _ b hb => hb) w w' v h hv) (by kernel_rfl) (by kernel_rfl) (by decide) (by decide) GE_is (fun i o ho hw => (all_wanted (by kernel_rfl) ho hw).elim) (Keeps.refl _ w4).drew (each_of ?_) ?_
    ·refine ⟨?_, ?_, ?_, ?_, ?_, ?_, ?_, ?_, ?_, ?_, ?_, trivial⟩ <;> intro hw a2 w7 Z
     ·rw [if_neg (by decide), if_neg (by decide)]
      intro b c hs _ _
      exact kp_move rfl (Z.o 0)
     ·rw [if_neg (by decide), if_neg (by decide)]
      intro b c hs _ _
      exact kp_move rfl (Z.o 0)
     ·rw [if_neg (by decide), if_neg (by decide)]
      intro b c hs _ _
      exact kp_nilL rfl (Z.v 1 43)
     ·rw [if_neg (by decide), if_neg (by decide)]
      intro b c hs _ _
      exact kp_fL3 rfl (Z.v 2 44)
     ·rw [if_neg (by decide), if_neg (by decide)]
      intro b c hs _ hb
      obtain rfl := hb [] (by kernel_rfl)
      exact kp_lK (hs.kp0.cell HC3.out trivial) rfl (Z.v 3 45)
     ·rw [if_neg (by decide), if_neg (by decide)]
      intro b c hs _ hb
      obtain rfl := hb [6] (by kernel_rfl)
      exact kp_lG (hs.kp0.cell HX0.out trivial) (hs.kp0.cell HX1.out trivial) (hs.kp0.cell HX2.out trivial) rfl (Z.o 6)
     ·rw [if_neg (by decide), if_neg (by decide)]
      intro b c hs _ hb
      obtain rfl := hb [] (by kernel_rfl)
      refine Oper.wp_mono (fun a' w' hk' => ?_) (kp_oneS rfl rfl rfl rfl (Z.v 5 47))
      obtain ⟨v, rfl, hk, rfl, rfl⟩ := hk'
      have h1 := hs.kp0.size
      exact ⟨_, rfl, hk, _, rfl, fun e => by have := (HOLT.out _ e).2; omega, by omega, heap_alloc_new w7 _⟩
     ·rw [if_pos rfl]
      intro hs
      have hs : Kp w4 w7 := hs
      have e4 : a2.eval (.tmp 46) = .slice AK d.length cK := Z.v 4 46
      obtain ⟨B, e6, h1, h2, hbB⟩ := (show LitS (Value.slice AK d.length cK).ownBlock q [.int .i64 (sg.slot : Int), .int .i64 (sg.first : Int), .slice A rl c] w7 (a2.eval (.tmp 48)) from Z.v 6 48)
      refine seg_elem.wp_append (.tmp 46) (.tmp 48) 135 rfl e4 (hs.own HROW4.out fun _ _ => trivial) e6 (lits_src hbB rfl (by simp [Value.oneCell'])) (by unfold maxLen; omega) (by omega) (Nat.zero_le _) ?_
      intro v' w' ho hg hb
      have hgr : Keeps (fun x => (Value.slice AK d.length cK).ownBlock ≠ some x) w7 w' := Keeps.of_grown hg fun x hx _ hn => hn hx
      refine ⟨v', rfl, hgr, (hs.mono fun _ _ _ => trivial).trans hgr, ho, ?_, ?_⟩
      ·exact hb.imp id fun e => ⟨_, e, hs.size⟩
      ·intro e
       rcases hb with h | h
       ·rw [h] at e; have := HOLT.out q e; omega
       ·rw [h] at e; injection e with e; have := hs.size; omega
     ·rw [if_neg (by decide), if_neg (by decide)]
      intro b c hs _ _
      exact kp_nilL rfl (Z.v 0 42)
     ·rw [if_neg (by decide), if_neg (by decide)]
      intro b c hs _ _
      exact kp_fL3 rfl (Z.v 8 50)
     ·rw [if_neg (by decide), if_pos rfl]
      intro hs
      have hs : Keeps (fun x => (Value.slice AK d.length cK).ownBlock ≠ some x) w4 w7 := hs
      have hap : AppS w4.heap.size q (Value.slice AK d.length cK).ownBlock (d.length + 1) (encP d ++ [.int .i64 (sg.slot : Int), .int .i64 (sg.first : Int), .slice A rl c]) w7 (a2.eval (.tmp 49)) := Z.v 7 49
      have hqO : (Value.slice AK d.length cK).ownBlock ≠ some q := fun e => by have := HOLT.out q e; omega
      have hb7 := HBLK4.out.keep hs hqO
      obtain ⟨A9, c9, e9⟩ := own_form hap.1
      refine Oper.wp_mono (fun a' w' hk' => ?_) (one_cell 135 rfl (by kernel_rfl) ⟨q, 3, none⟩ (a2.eval (.tmp 49)) _ (by rw [e9]; rfl) ((cell_of_block hb7 3).trans rfl) (unfrozen_of_block hb7 3) (Z.v 9 51) rfl)
      obtain ⟨v, rfl, rfl⟩ := hk'
      exact ⟨v, rfl, (Keeps.refl _ w7).setCell (.inr fun hn => hn rfl) _, ⟨w7, _, hs, hap, Keeps.refl _ _⟩, trivial⟩
    ·intro vs4 wE hsE hlenE hvE
     match vs4, hlenE with
     | [y0, y1, y2, y3, y4, y5, y6, y7, y8, y9, y10], _ =>
      clear hvE
      simp only [putAll, List.map, Act.put, List.setIfInBounds_toArray, List.set_cons_succ, List.set_cons_zero, Exit.then]
      obtain ⟨W1, v, hkW, hap, hkE⟩ := hsE
      have hqO : (Value.slice AK d.length cK).ownBlock ≠ some q := fun e => by have := HOLT.out q e; omega
      have hcE : Coll w wE q v (d ++ [(sg, (A, c))]) := by
       have hxE : (SegP.E (sg, (A, c))) = .slice A rl c := by show Value.slice A sg.recs.length c = _; rw [HRL.out]
       have hx4 : w4.ownsRow wr.heap.size 3 1 (SegP.E (sg, (A, c))) sg.recs.length (endsC sg.recs) := by rw [hxE, HRL.out]; exact HO4.out
       have hp : Coll w W1 q v (d ++ [(sg, (A, c))]) := (hcol.out.keep (HK4.out.mono fun _ _ _ => trivial)).put (ownsRow_le hx4 (Nat.zero_le _)) (fun b e => ⟨by have := (hx4.lt b e).1; omega, fun e2 => by have h1 := (hx4.lt b e).1; have h2 := (HOLT.out b e2).2; omega⟩)
        (fun y hy b e e2 => by have h1 := ((hcol.out.own y hy).lt b e).2; have h2 := (hx4.lt b e2).1; omega) (by rw [enc_snoc, hxE]; exact hap.1) hkW hap.2.1 (by omega)
       exact (hp.keep ((Keeps.refl _ W1).setCell (.inr fun hn => by have hn : w.heap.size ≤ q := hn; omega) _)).keep (hkE.mono fun _ _ _ => trivial)
      obtain ⟨Av, cv, rfl⟩ := own_form hap.1
      have hbE : LBlk wE q p i n (.slice Av (d.length + 1) cv) cs 0 (.slice none 0 0) nx := LBlk.keep (G := fun _ => True) (show LBlk (W1.setCell ⟨q, 3, none⟩ (.slice Av (d.length + 1) cv)) q p i n (.slice Av (d.length + 1) cv) cs 0 (.slice none 0 0) nx from block_setCell (HBLK4.out.keep hkW hqO) (i := 3) (.slice Av (d.length + 1) cv)) hkE trivial
      have hkg : Keeps (fun b => b ≠ q) W1 (W1.setCell ⟨q, 3, none⟩ (.slice Av (d.length + 1) cv)) := (Keeps.refl _ W1).setCell (.inr fun hn => hn rfl) _
      have hall : Keeps (fun b => b ≠ q ∧ (Value.slice AK d.length cK).ownBlock ≠ some b) w4 wE := keeps_on (keeps_on (hkW.mono fun _ _ hb => hb.2) hkg fun _ _ hb => hb.1) hkE fun _ _ _ => trivial
      have hkwE : Keeps (fun b => b ≠ q) w wE := keeps_on (keeps_on hkw.out HK4.out fun _ _ _ => trivial) hall fun b hl hb => ⟨hb, fun e => by have := (HOLT.out b e).1; omega⟩
      have hbx := (hall.block w1.heap.size ⟨by omega, fun e => by have := (HOLT.out _ e).2; omega⟩ (by omega)).trans HB4.out
      have x0 := (cell_of_block hbx 0).trans rfl
      have x1 := (cell_of_block hbx 1).trans rfl
      have x2 := (cell_of_block hbx 2).trans rfl
      have HCE := Hd hcE
      have HBE := Hd hbE
      have HKWE := Hd hkwE
      have hds' : (d ++ [(sg, (A, c))]).map Prod.fst = ks.reverse.take (j + 1) := by
       rw [List.map_append, hds.out, take_next ks.reverse j (by rw [List.length_reverse]; exact hjk), List.getElem_reverse]
       rw [HSG.out]
       rfl
      have HDS := Hd hds'
      have HFS := Hd (show ∀ t (ht : t < ks.length), t + (j + 1) < m → (ks[t]).end_ ≤ sg.first from fun t ht htj => by
       have hh := List.pairwise_iff_getElem.1 HRISE.out t (ks.length - 1 - j) ht (rev_lt hjk) (by rw [HM.out]; omega)
       rw [HSG.out] at hh
       exact hh)
      have hqE : q < wE.heap.size := (Array.getElem?_eq_some_iff.1 hbE).1
      have hw1E : w1.heap.size < wE.heap.size := (Array.getElem?_eq_some_iff.1 hbx).1
      clear hkW hap hkE hcE hbE hkg hall hkwE hbx hds' HROW4 HC3 HX0 HX1 HX2 HO4 HB4 HBLK4
      have qm : ((sg.slot : Int) + (n : Int) - 1).tmod (n : Int) = ((slotBack b0 n m (j + 1) : Nat) : Int) := by
       have h1 := HNX.out
       rw [HSLT.out] at h1
       rw [Int.tmod_eq_emod_of_nonneg (by omega), ← h1]
       have e : (sg.slot : Int) + (n : Int) - 1 = ((sg.slot + n - 1 : Nat) : Int) := by omega
       rw [e]; rfl
      have hsb1 : slotBack b0 n m (j + 1) < n := HSL.out (j + 1)
      obtain ⟨sb, hsb⟩ : ∃ sb, slotBack b0 n m (j + 1) = sb := ⟨_, rfl⟩
      have HSBX := Hd hsb
      rw [hsb] at qm hsb1
      clear hsb
      by_cases hj0 : j = 0
      ·have t10 : ((j : Int) == 0) = true := by simp [hj0]
       have HJ0 := Hd hj0
       clear hj0
       go_wp2_with fail
       refine (count_any _ (.int .i64 (sg.slot : Int)) (.int .i64 (sg.first : Int)) A rl c rfl rfl).mono ?_
       rintro e w5 ⟨rfl, hk5⟩
       have hb5 := HBE.out.keep hk5 trivial
       have hbh := behind_any w5 q p i n hb5.head sg.slot (by omega) (by omega) (by omega)
       have hrr : (sg.slot + 1) % n = (b0 + m) % n := by
        rw [← HBM.out, ← HSLT.out, HJ0.out]
       rw [hrr] at hbh
       obtain ⟨rr, hrr2⟩ : ∃ rr, (b0 + m) % n = rr := ⟨_, rfl⟩
       rw [hrr2] at hbh
       have HRR := Hd hrr2
       have HBH := Hd hbh
       have c4 := (cell_of_block hb5 4).trans rfl
       have f4 := unfrozen_of_block hb5 4
       have hb6 : LBlk (w5.setCell ⟨q, 4, none⟩ (.int .i64 (rr : Int))) q p i n (.slice Av (d.length + 1) cv) rr 0 (.slice none 0 0) nx := block_setCell hb5 (i := 4) (.int .i64 (rr : Int))
       have HB6 := Hd hb6
       have HC6 := Hd ((HCE.out.keep (hk5.mono fun _ _ _ => trivial)).keep ((Keeps.refl _ w5).setCell (p := ⟨q, 4, none⟩) (.inr fun hn => by have hn : w.heap.size ≤ q := hn; omega) (.int .i64 (rr : Int))))
       have HK6 := Hd (show Keeps (fun b => b ≠ q) w (w5.setCell ⟨q, 4, none⟩ (.int .i64 (rr : Int))) from (keeps_on HKWE.out hk5 fun _ _ _ => trivial).setCell (.inr fun hn => hn rfl) _)
       clear hk5 hb5 hbh hrr hrr2 hb6
       go_wp2_with fail
       refine HBH.out.mono ?_
       rintro e w9 ⟨rfl, rfl⟩
       go_wp2_with fail
       generalize w5.setCell ⟨q, 4, none⟩ (.int .i64 (rr : Int)) = wX at HB6 HC6 HK6 ⊢
       have c2 := (cell_of_block HB6.out 2).trans rfl
       go_region
       go_wp2_with fail
       go_roundw
       case rel => exact ⟨j + 1, sg.first, rr, _, d ++ [(sg, (A, c))], by omega, by go_num, by rw [HSBX.out], rfl, by omega, HFS, HDS, Hd (HB6.out.keep (Keeps.refl (fun _ => True) _).drew trivial), Hd ⟨fun h => by omega, fun _ => HRR.out.symm⟩, Hd (HC6.out.keep (Keeps.refl _ _).drew), Hd (keeps_on HK6.out (Keeps.refl (fun _ => True) _).drew fun _ _ _ => trivial)⟩
       case measure => simp [intOf]; omega
      ·have t10 : ((j : Int) == 0) = false := by simp [hj0]
       have HJ0 := Hd (show 0 < j by omega)
       have hcs2 := hcs.out.2 (by omega)
       have HCS2 := Hd hcs2
       clear hj0 hcs2
       have c2 := (cell_of_block HBE.out 2).trans rfl
       go_wp2_with fail
       go_region
       go_wp2_with fail
       go_roundw
       case rel => exact ⟨j + 1, sg.first, cs, _, d ++ [(sg, (A, c))], by omega, by go_num, by rw [HSBX.out], rfl, by omega, HFS, HDS, Hd (HBE.out.keep (Keeps.refl (fun _ => True) _).drew trivial), Hd ⟨fun h => by omega, fun _ => HCS2.out⟩, Hd (HCE.out.keep (Keeps.refl _ _).drew), Hd (keeps_on HKWE.out (Keeps.refl (fun _ => True) _).drew fun _ _ _ => trivial)⟩
       case measure => simp [intOf]; omega
   ·obtain rfl : j = m := by omega
    have hdr : d.map Prod.fst = ks.reverse := by rw [hds.out, List.take_of_length_le (by rw [List.length_reverse, HM.out]; omega)]
    obtain ⟨g, c', hform, -, -⟩ := hcol.out.row.form (by omega)
    injection hform with e1 _ e3
    subst e1 e3
    have hcsv : cs = (b0 + j) % n := hcs.out.2 (by omega)
    have HREV := Hd (rev_exit w wr q p i n g cK cs nx d ks (by omega) hqlt hcol.out hblk.out hkw.out hdr)
    have HCSV := Hd hcsv
    clear hcsv
    have hno := HNO.out wr hkw.out hblk.out.head hjn
    have HNOC := Hd hno
    have hdl200 : d.length ≤ 200 := by omega
    clear hdr hno hds hcs hcol hkw hdl
    generalize slotBack b0 n j j = sb at HNOC ⊢
    go_wp2_with fail
    refine HNOC.out.mono ?_
    rintro e w1 ⟨rfl, hk1⟩
    have hb1 := hblk.out.keep hk1 trivial
    have c3 := (cell_of_block hb1 3).trans rfl
    have hq1 : q < w1.heap.size := (Array.getElem?_eq_some_iff.1 hb1).1
    have HK1' := Hd (hk1.alloc (.cells #[.int .i64 0, .int .i64 0, .slice none 0 0] 179))
    clear hk1 hb1
    go_wp2_with fail
    with_reducible refine (HREV.out _ HK1'.out).mono ?_
    rintro e w2 ⟨rfl, hpost⟩
    have HP := Hd hpost
    clear hpost
    go_wp2_with fail
    go_end0
    exact ⟨⟨_, rfl⟩, by have h := HP.out; rw [HCSV.out] at h; exact h⟩
  ·obtain rfl : j = m := by omega
   have tjn : decide ((j : Int) < (n : Int)) = false := by simp; omega
   have hdr : d.map Prod.fst = ks.reverse := by rw [hds.out, List.take_of_length_le (by rw [List.length_reverse, HM.out]; omega)]
   obtain ⟨g, c', hform, -, -⟩ := hcol.out.row.form (by omega)
   injection hform with e1 _ e3
   subst e1 e3
   have hcsv : cs = (b0 + j) % n := hcs.out.2 (by omega)
   have HREV := Hd (rev_exit w wr q p i n g cK cs nx d ks (by omega) hqlt hcol.out hblk.out hkw.out hdr)
   have HCSV := Hd hcsv
   clear hcsv
   have c3 := (cell_of_block hblk.out 3).trans rfl
   clear hdr hds hcs hcol hkw hdl
   go_wp2_with fail
   with_reducible refine (HREV.out wr (Keeps.refl _ _)).mono ?_
   rintro e w2 ⟨rfl, hpost⟩
   have HP := Hd hpost
   clear hpost
   go_wp2_with fail
   go_end0
   exact ⟨⟨_, rfl⟩, by have h := HP.out; rw [HCSV.out] at h; exact h⟩
end Go.Proofs.YticophaepapjoaaGreatDoor
