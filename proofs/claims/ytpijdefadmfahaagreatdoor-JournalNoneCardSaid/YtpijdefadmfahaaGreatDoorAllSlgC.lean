/- Texts of one proof, behind one another: each says above its part what it proves and on which conditions. -/
import Derived.Test.YtpijdefadmfahaaGreatDoorSlgExtend
import Derived.Test.YtpijdefadmfahaaGreatDoorAllSlgA
/-
  THE PROGRAM's LOG: Append.
-/
section
namespace Go.Proofs.YtpijdefadmfahaaGreatDoor
open Go Go.RowKit Go.Joins
theorem Went.trans {w w1 w2 : World} {F F1 F2 Fs Fs1 Fs2 : Foot} (h : Went w w1 F F1 Fs Fs1) (k : Went w1 w2 F1 F2 Fs1 Fs2) : Went w w2 F F2 Fs Fs2 := by
  have hz := h.k.size
  refine ⟨k.ap, keeps_on h.k k.k fun b hl hb => ⟨fun hm => ?_, fun hm => ?_⟩, fun b hb => ?_, fun b hb => ?_, fun b hb => ?_, fun b hb => ?_⟩
  · rcases h.f1 b hm with h1 | h1
    · exact hb.1 h1
    · omega
  · rcases h.f3 b hm with h1 | h1
    · exact hb.2 h1
    · omega
  · rcases k.f1 b hb with h1 | h1
    · exact h.f1 b h1
    · exact .inr (by omega)
  · rcases k.f2 b hb with (h1 | h1) | h1
    · exact (h.f1 b h1).imp .inl id
    · exact h.f2 b h1
    · exact .inr (by omega)
  · rcases k.f3 b hb with h1 | h1
    · exact h.f3 b h1
    · exact .inr (by omega)
  · rcases k.f4 b hb with (h1 | h1) | h1
    · exact (h.f3 b h1).imp .inl id
    · exact h.f4 b h1
    · exact .inr (by omega)
theorem Went.kp {w w1 w2 : World} {F F2 Fs Fs2 : Foot} (h : Kp w w1) (k : Went w1 w2 F F2 Fs Fs2) : Went w w2 F F2 Fs Fs2 := by
  have hz := h.size
  exact ⟨k.ap, keeps_on (h.mono fun _ _ _ => trivial) k.k fun _ _ hb => hb, fun b hb => (k.f1 b hb).imp id fun e => by omega, fun b hb => (k.f2 b hb).imp id fun e => by omega, fun b hb => (k.f3 b hb).imp id fun e => by omega, fun b hb => (k.f4 b hb).imp id fun e => by omega⟩
theorem LogAt.next_ {w : World} {q p i n sl left nx : Nat} {F : Foot} {ks : List Seg} {tl : List UInt8} {K T : Value} {Es : List Value} (h : LogAt w q F p i n ks sl left nx tl K T Es) (nx' : Nat) : LogAt (w.setCell ⟨q, 7, none⟩ (.int .i64 (nx' : Int))) q F p i n ks sl left nx' tl K T Es := by
  have hk : Keeps (fun b => b ≠ q) w (w.setCell ⟨q, 7, none⟩ (.int .i64 (nx' : Int))) := (Keeps.refl _ w).setCell (.inr fun hn => hn rfl) _
  obtain ⟨A, c, e, h1, h2, hr⟩ := h.tail
  exact ⟨block_setCell h.blk (i := 7) (.int .i64 (nx' : Int)), hk.own h.row h.kq, h.ends.keep hk fun E hE b e e2 => h.ends.out E hE b e (.inl e2), h.kq, ⟨A, c, e, h1, h2, hr.keep (hk.mono fun b _ hb e => h.apart q h.mq (by rw [← show b = q from e]; exact hb))⟩, h.mq, h.mkk, h.me, fun b hb => Nat.lt_of_lt_of_le (h.lt b hb) hk.size, h.apart⟩
set_option maxRecDepth 100000 in
set_option maxHeartbeats 1000000 in
theorem lappend_no (w : World) (q p i n : Nat) (hL : LHead w q p i n) (A : Option Addr) (c m : Nat) (hm : m ≤ maxLen) (hno : m < 1 ∨ 300 < m) :
    Calls Tryz.prog 36 #[.pointer (some ⟨q, 0, none⟩), .slice A m c] w fun e w' => e = .returned (.tuple #[.int .i64 0, .int .i64 1]) ∧ Kp w w' := by
  have HDN := Lib.hid (down_no w q p i n hL)
  have hft := fits_any w m hm
  rw [show decide (1 ≤ m ∧ m ≤ 300) = false by simp; omega] at hft
  have HFT := Lib.hid hft
  clear hL hft hno
  go_enter Tryz.func36, Tryz.ntmps36
  go_wp2_with fail
  refine HDN.out.mono ?_
  rintro e w' ⟨rfl, rfl⟩
  go_wp2_with fail
  refine HFT.out.mono ?_
  rintro e w' ⟨rfl, rfl⟩
  go_wp2_with fail
  go_ret2
  exact ⟨rfl, Keeps.refl _ _⟩
def ExtPost (w : World) (q p i n : Nat) (F Fs : Foot) (s : SDev) (ks : List Seg) (sg : Seg) (sl left nx : Nat) (tl : List UInt8) (K : Value) (r : LRec) (w' : World) : Prop :=
  ∃ (F' Fs' : Foot) (T' : Value) (tl' : List UInt8) (Es' : List Value),
      DAt w' p F' (s.puts (i + sg.slot * 8 + endAt sg.recs sg.recs.length / 53) (sg.first * 8 + endAt sg.recs sg.recs.length / 53) (tl ++ putT r.body) (chunks (tl ++ putT r.body).length)) ∧
      tl' = (tl ++ putT r.body).drop ((tl ++ putT r.body).length / 53 * 53) ∧
      LogAt w' q Fs' p i n (ks ++ [⟨sg.slot, sg.first, sg.recs ++ [r]⟩]) sl (left - (putT r.body).length) nx tl' K T' Es' ∧ Went w w' F F' Fs Fs'
set_option maxRecDepth 100000 in
set_option maxHeartbeats 2000000 in
theorem lappend_fit (w : World) (hT : Taken w) (q : Nat) (Fs : Foot) (p i n : Nat) (ks : List Seg) (sg : Seg) (sl left nx : Nat) (tl : List UInt8) (K T : Value) (Es : List Value) (h : LogAt w q Fs p i n (ks ++ [sg]) sl left nx tl K T Es) (F : Foot) (s : SDev) (hd : DAt w p F s) (ha : Apart F Fs) (hTM : ¬ F.M 0)
    (A : Option Addr) (c : Nat) (G : Nat → Prop) (l : List UInt8) (hr : Row w A G (bcells l)) (h1 : 1 ≤ l.length) (h300 : l.length ≤ 300) (_hlc : l.length ≤ c) (_hcm : c ≤ maxLen)
    (hxl : (putT l).length ≤ left) (hle : left ≤ 424) (hsum : endAt sg.recs sg.recs.length + left = 424) (htl : tl.length = endAt sg.recs sg.recs.length % 53)
    (hrl : sg.recs.length ≤ 400) (hi : i ≤ 2048) (hsl : sg.slot < n) (hn : n ≤ 200) (hin : i + 8 * n ≤ s.now.length) (hf : sg.first ≤ 274877906943) (hkl : ks.length ≤ 200) (hcalls : s.calls ≤ 549755813888) (hnx : nx ≤ 274877906943) (r : LRec) (hrb : r.body = l) :
    Calls Tryz.prog 36 #[.pointer (some ⟨q, 0, none⟩), .slice A l.length c] w fun e w' => e = .returned (.tuple #[.int .i64 (nx : Int), .int .i64 0]) ∧
      ∃ w1, ExtPost w q p i n F Fs s ks sg sl left nx tl K r w1 ∧ w' = w1.setCell ⟨q, 7, none⟩ (.int .i64 ((nx + 1 : Nat) : Int)) := by
  have HDN := Lib.hid (down_no w q p i n h.head)
  have hft := fits_any w l.length (by unfold maxLen; omega)
  rw [show decide (1 ≤ l.length ∧ l.length ≤ 300) = true by simp; omega] at hft
  have HFT := Lib.hid hft
  have hcv := Row.to_string (P := Tryz.prog) hr Tryz.underlying30 Tryz.underlying5 Tryz.underlying9 l.length c rfl
  have HPT := Lib.hid (text_one [] l (by simp) (by omega) w none 0 (fun _ => True) (Row.nil _ _ _))
  have HEXT := Lib.hid (fun (W : World) (hk : Kp w W) (B : Option Addr) (d : Nat) (R : Nat → Prop) (hrB : Row W B R (bcells (putT r.body))) (hp : 1 ≤ (putT r.body).length) (hxl' : (putT r.body).length ≤ left) =>
    (extend_any W (hT.keep hk) q Fs p i n ks sg sl left nx tl K T Es (h.keep (hk.mono fun _ _ _ => trivial)) F s (hd.keep (hk.mono fun _ _ _ => trivial)) ha hTM r B d R hrB hp hxl' hle hsum htl hrl hi hsl hn hin hf hkl (by omega)).mono fun e w' hh => (⟨hh.1, by
      obtain ⟨F', Fs', T', tl', Es', a1, a2, a3, a4⟩ := hh.2
      exact ⟨F', Fs', T', tl', Es', a1, a2, a3, a4.kp hk⟩⟩ : e = .returned (.int .i64 0) ∧ ExtPost w q p i n F Fs s ks sg sl left nx tl K r w'))
  have c5 := (cell_of_block h.blk 5).trans rfl
  have hpos := putT_pos l
  have HQ := Lib.hid (show ∀ W, ExtPost w q p i n F Fs s ks sg sl left nx tl K r W → W.cell? ⟨q, 7, none⟩ = some (.int .i64 (nx : Int)) ∧ W.frozen? ⟨q, 7, none⟩ = false from fun W ⟨_, _, _, _, _, _, _, hl, _⟩ => ⟨(cell_of_block hl.blk 7).trans rfl, unfrozen_of_block hl.blk 7⟩)
  have hlm : l.length ≤ 9223372036854775807 := by omega
  rw [hrb] at HEXT
  obtain ⟨pl, hpl⟩ : ∃ pl, (putT l).length = pl := ⟨_, rfl⟩
  have HPL := Lib.hid hpl
  rw [hpl] at hxl hpos
  clear h hd ha hTM hr hft hT hsum htl hin hpl hrb
  unfold maxLen at _hcm
  go_enter Tryz.func36, Tryz.ntmps36
  go_wp2_with fail
  refine HDN.out.mono ?_
  rintro e w' ⟨rfl, rfl⟩
  go_wp2_with fail
  refine HFT.out.mono ?_
  rintro e w' ⟨rfl, rfl⟩
  go_wp2_with fail
  refine (show Calls _ _ _ _ _ from HPT.out).mono ?_
  rintro e w1 ⟨v, rfl, ⟨B, d, rfl, hd1, hd2, hrB⟩, hk1⟩
  rw [List.nil_append] at hrB hd1 ⊢
  have c5 := hk1.cell c5 trivial
  have HK1 := Lib.hid hk1
  have HRB := Lib.hid hrB
  rw [HPL.out] at hd1 ⊢
  have hgt : decide ((left : Int) < (pl : Int)) = false := by simp; omega
  unfold maxLen at hd2
  clear hk1 hrB HPT hcv
  go_wp2_with fail
  have hext := HEXT.out w1 HK1.out B d _ HRB.out (by rw [HPL.out]; omega) (by rw [HPL.out]; exact hxl)
  rw [HPL.out] at hext
  refine hext.mono ?_
  clear hext
  rintro e w2 ⟨rfl, hx2⟩
  obtain ⟨c7, f7⟩ := HQ.out w2 hx2
  have HX2 := Lib.hid hx2
  clear hx2 HEXT c5
  go_wp2_with fail
  go_ret2
  refine ⟨rfl, w2, HX2.out, ?_⟩
  rw [show ((nx + 1 : Nat) : Int) = (nx : Int) + 1 by omega]
set_option maxRecDepth 100000 in
set_option maxHeartbeats 2000000 in
theorem lappend_new (w : World) (hT : Taken w) (q : Nat) (Fs : Foot) (p i n : Nat) (ks : List Seg) (sl left nx : Nat) (tl : List UInt8) (K T : Value) (Es : List Value) (h : LogAt w q Fs p i n ks sl left nx tl K T Es) (F : Foot) (s : SDev) (hd : DAt w p F s) (ha : Apart F Fs) (hTM : ¬ F.M 0)
    (full : Bool) (hfu : Turn full ks sl) (A : Option Addr) (c : Nat) (G : Nat → Prop) (l : List UInt8) (hr : Row w A G (bcells l)) (h1 : 1 ≤ l.length) (h300 : l.length ≤ 300) (_hlc : l.length ≤ c) (_hcm : c ≤ maxLen)
    (hTS : ¬ Fs.M 0) (hxl : left < (putT l).length) (hle : left ≤ 424) (hi : i ≤ 2048) (hsl : sl < n) (hn : n ≤ 200) (hin : i + 8 * n ≤ s.now.length) (hkl : ks.length ≤ 200) (hcalls : s.calls ≤ 549755813888) (hnx1 : 1 ≤ nx) (hnx : nx ≤ 274877906943) (r : LRec) (hrb : r.body = l) :
    Calls Tryz.prog 36 #[.pointer (some ⟨q, 0, none⟩), .slice A l.length c] w fun e w' => e = .returned (.tuple #[.int .i64 (nx : Int), .int .i64 0]) ∧
      ∃ (w1 : World) (F1 Fs1 : Foot) (K1 : Value), Went w w1 F F1 Fs Fs1 ∧ ∃ w2, ExtPost w1 q p i n F1 Fs1 ((s.write (i + sl * 8) (encL (nx * 8) [])).flush) (goes full ks) ⟨sl, nx, []⟩ ((sl + 1) % n) 424 nx [] K1 r w2 ∧ w' = w2.setCell ⟨q, 7, none⟩ (.int .i64 ((nx + 1 : Nat) : Int)) := by
  have HDN := Lib.hid (down_no w q p i n h.head)
  have hft := fits_any w l.length (by unfold maxLen; omega)
  rw [show decide (1 ≤ l.length ∧ l.length ≤ 300) = true by simp; omega] at hft
  have HFT := Lib.hid hft
  have hcv := Row.to_string (P := Tryz.prog) hr Tryz.underlying30 Tryz.underlying5 Tryz.underlying9 l.length c rfl
  have HPT := Lib.hid (text_one [] l (by simp) (by omega) w none 0 (fun _ => True) (Row.nil _ _ _))
  have hpm := putT_most l h300
  have htw : 0 < w.heap.size := World.block_lt_of_cell? w _ (hT 0 (by decide))
  have hgl : (goes full ks).length ≤ 200 := by
    cases full
    · exact hkl
    · show ks.tail.length ≤ 200; rw [List.length_tail]; omega
  have HBEG := Lib.hid (fun (W : World) (hk : Kp w W) => (begin_any W (hT.keep hk) q Fs p i n ks sl left nx tl K T Es (h.keep (hk.mono fun _ _ _ => trivial)) F s (hd.keep (hk.mono fun _ _ _ => trivial)) ha hTM full hfu hi hn hsl hin hnx1 hnx hkl (by omega)))
  have HEXT := Lib.hid (fun (W : World) (F1 Fs1 : Foot) (K1 : Value) (Es1 : List Value) (hT1 : Taken W) (hl1 : LogAt W q Fs1 p i n (goes full ks ++ [⟨sl, nx, []⟩]) ((sl + 1) % n) 424 nx [] K1 (.slice none 0 0) Es1) (hd1 : DAt W p F1 ((s.write (i + sl * 8) (encL (nx * 8) [])).flush)) (hap1 : Apart F1 Fs1) (htm1 : ¬ F1.M 0) (B : Option Addr) (d : Nat) (R : Nat → Prop) (hrB : Row W B R (bcells (putT r.body))) (hp : 1 ≤ (putT r.body).length) (hxl' : (putT r.body).length ≤ 424) =>
    extend_any W hT1 q Fs1 p i n (goes full ks) ⟨sl, nx, []⟩ ((sl + 1) % n) 424 nx [] K1 (.slice none 0 0) Es1 hl1 F1 _ hd1 hap1 htm1 r B d R hrB hp hxl' (Nat.le_refl _) (by simp [endAt, strm]) (by simp [endAt, strm]) (by simp) hi hsl hn (by simp [SDev.flush, SDev.write]; omega) hnx hgl (by show s.calls + 1 + 1 ≤ _; omega))
  have c5 := (cell_of_block h.blk 5).trans rfl
  have hpos := putT_pos l
  have hlm : l.length ≤ 9223372036854775807 := by omega
  have HTT := Lib.hid hT
  have HTMM := Lib.hid hTM
  have HTS := Lib.hid hTS
  have HDL := Lib.hid hd.lt
  have HAL := Lib.hid h.lt
  have HRBD := Lib.hid hrb
  rw [hrb] at HEXT
  obtain ⟨pl, hpl⟩ : ∃ pl, (putT l).length = pl := ⟨_, rfl⟩
  have HPL := Lib.hid hpl
  rw [hpl] at hxl hpos hpm
  clear h hd ha hTM hr hft hT hin hpl hrb hfu
  unfold maxLen at _hcm
  go_enter Tryz.func36, Tryz.ntmps36
  go_wp2_with fail
  refine HDN.out.mono ?_
  rintro e w' ⟨rfl, rfl⟩
  go_wp2_with fail
  refine HFT.out.mono ?_
  rintro e w' ⟨rfl, rfl⟩
  go_wp2_with fail
  refine (show Calls _ _ _ _ _ from HPT.out).mono ?_
  rintro e w1 ⟨v, rfl, ⟨B, d, rfl, hd1, hd2, hrB⟩, hk1⟩
  rw [List.nil_append] at hrB hd1 ⊢
  have c5 := hk1.cell c5 trivial
  have HK1 := Lib.hid hk1
  have HRB := Lib.hid hrB
  rw [HPL.out] at hd1 ⊢
  have hgt : decide ((left : Int) < (pl : Int)) = true := by simp; omega
  unfold maxLen at hd2
  clear hk1 hrB HPT hcv
  go_wp2_with fail
  refine (HBEG.out w1 HK1.out).mono ?_
  rintro e w2 ⟨rfl, F1, Fs1, K1, Es1, hd2', hl2, hwe⟩
  have HRB2 := Lib.hid (HRB.out.keep (hwe.k.mono fun b _ hb => ⟨fun hm => by have := HDL.out b (.inl hm); omega, fun hm => by have := HAL.out b (.inl hm); omega⟩))
  have HWE := Lib.hid (hwe.kp HK1.out)
  have HT2 := Lib.hid (show Taken w2 from fun k hk => hwe.k.cell (HK1.out.cell (HTT.out k hk) trivial) ⟨HTMM.out, HTS.out⟩)
  have HTM2 := Lib.hid (show ¬ F1.M 0 from fun hm => (hwe.f1 _ hm).elim HTMM.out fun h => by have := HK1.out.size; omega)
  have HL2 := Lib.hid hl2
  have HD2 := Lib.hid hd2'
  clear hwe hl2 hd2' c5
  go_wp2_with fail
  have hext := HEXT.out w2 F1 Fs1 K1 Es1 HT2.out HL2.out HD2.out HWE.out.ap HTM2.out B d _ HRB2.out (by rw [HPL.out]; omega) (by rw [HPL.out]; omega)
  rw [HPL.out] at hext
  refine hext.mono ?_
  clear hext
  rintro e w3 ⟨rfl, hx3⟩
  obtain ⟨c7, f7⟩ : w3.cell? ⟨q, 7, none⟩ = some (.int .i64 (nx : Int)) ∧ w3.frozen? ⟨q, 7, none⟩ = false := by
    obtain ⟨_, _, _, _, _, _, _, hl, _⟩ := hx3
    exact ⟨(cell_of_block hl.blk 7).trans rfl, unfrozen_of_block hl.blk 7⟩
  have HX3 := Lib.hid hx3
  clear hx3 HEXT
  go_wp2_with fail
  go_ret2
  refine ⟨rfl, w2, F1, Fs1, K1, HWE.out, w3, by unfold ExtPost; rw [HRBD.out, HPL.out]; exact HX3.out, ?_⟩
  rw [show ((nx + 1 : Nat) : Int) = (nx : Int) + 1 by omega]
end Go.Proofs.YtpijdefadmfahaaGreatDoor
end
/-
  THE PROGRAM's LOG: segment: what lies in a slot.
-/
section
namespace Go.Proofs.YtpijdefadmfahaaGreatDoor
open Go Go.RowKit Go.Joins
def SegO (base sl f : Nat) (rs : List LRec) : World → Value → Prop := fun w v => ∃ A c, v = .agg #[.int .i64 (sl : Int), .int .i64 (f : Int), .slice A rs.length c] ∧ w.ownsRow base 3 1 (.slice A rs.length c) rs.length (endsC rs)
def SegR (text : List UInt8) : World → Value → Prop := fun w v => ∃ g c, v = .slice (some ⟨g, 0, none⟩) text.length c ∧ text.length ≤ c ∧ c ≤ maxLen ∧ Row w (some ⟨g, 0, none⟩) (fun _ => True) (bcells text)
def StZ (w1 : World) (b base sl f : Nat) (rs : List LRec) : Bool → World → Prop
  | false, w => w.heap[b]? = some (.cells #[.int .i64 0, .int .i64 0, .slice none 0 0] 78 (0, 0)) ∧ Kp w1 w
  | true, w => ∃ A c, w.heap[b]? = some (.cells #[.int .i64 (sl : Int), .int .i64 (f : Int), .slice A rs.length c] 78 (0, 0)) ∧ w.ownsRow base 3 1 (.slice A rs.length c) rs.length (endsC rs) ∧ Keeps (fun x => x ≠ b) w1 w
theorem StZ.keep {w1 w w' : World} {b base sl f : Nat} {rs : List LRec} {x : Bool} (h : Kp w w') (hs : StZ w1 b base sl f rs x w) : StZ w1 b base sl f rs x w' := by
  cases x
  · exact ⟨(h.block b trivial (Array.getElem?_eq_some_iff.1 hs.1).1).trans hs.1, hs.2.trans h⟩
  · obtain ⟨A, c, h1, h2, h3⟩ := hs
    exact ⟨A, c, (h.block b trivial (Array.getElem?_eq_some_iff.1 h1).1).trans h1, h.own h2 fun _ _ => trivial, h3.trans (h.mono fun _ _ _ => trivial)⟩
theorem StZ.kp {w1 w : World} {b base sl f : Nat} {rs : List LRec} (x : Bool) (hs : StZ w1 b base sl f rs x w) : Keeps (fun y => y ≠ b) w1 w := by
  cases x
  · exact hs.2.mono fun _ _ _ => trivial
  · obtain ⟨A, c, h1, h2, h3⟩ := hs
    exact h3
def VZ (q b9 base sl f : Nat) (rs : List LRec) (b4 : Nat) : Nat → World → Value → Prop
  | 0 => IsV (.int .i64 (sl : Int))
  | 1 => IsV (.pointer (some ⟨b9, 1, none⟩))
  | 2 => IsV (.int .i64 (f : Int))
  | 3 => IsV (.pointer (some ⟨q, 0, none⟩))
  | 4 => IsV (.agg #[.int .i64 (sl : Int), .int .i64 (f : Int), .slice none 0 0])
  | 5 => fun w v => SegR (strm rs) w v ∧ b4 < w.heap.size ∧ (∀ A n c, v = .slice A n c → ∀ a, A = some a → a.block ≠ b4)
  | 6 => fun w v => SegO base sl f rs w v ∧ b4 < base
  | 7 => fun _ _ => True
  | 8 => IsV (.bool true)
  | _ => fun _ _ => True
theorem VZ_mono {q b9 base sl f : Nat} {rs : List LRec} {b4 : Nat} (i : Nat) (w w' : World) (x : Value) (h : Keeps (fun y => y ≠ b4) w w') (hv : VZ q b9 base sl f rs b4 i w x) : VZ q b9 base sl f rs b4 i w' x := by
  match i, hv with
  | 0, hv => exact hv
  | 1, hv => exact hv
  | 2, hv => exact hv
  | 3, hv => exact hv
  | 4, hv => exact hv
  | 5, hv =>
    obtain ⟨⟨g, c, e, h1, h2, hr⟩, hlt, hn⟩ := hv
    refine ⟨⟨g, c, e, h1, h2, ?_⟩, Nat.lt_of_lt_of_le hlt h.size, hn⟩
    have hg : g ≠ b4 := hn _ _ _ e _ rfl
    intro hne
    obtain ⟨b, o, e2, -, hc⟩ := hr hne
    injection e2 with e2
    injection e2 with e3 e4
    subst e3 e4
    exact ⟨g, 0, rfl, trivial, fun i v hv => h.cell (hc i v hv) hg⟩
  | 6, hv =>
    obtain ⟨⟨A, c, e, ho⟩, hlt⟩ := hv
    exact ⟨⟨A, c, e, h.own ho fun b hb => by have := (ho.lt b hb).1; omega⟩, hlt⟩
  | 7, hv => exact hv
  | 8, hv => exact hv
  | n + 9, _ => trivial
set_option maxRecDepth 100000 in
set_option maxHeartbeats 2000000 in
theorem segm_no (w : World) (hT : Taken w) (q p i n : Nat) (hL : LHead w q p i n) (F : Foot) (s : SDev) (hd : DAt w p F s) (sl : Nat) (hi : i ≤ 2048) (hsl : sl ≤ 2048) (hin : i + sl * 8 + 8 ≤ s.now.length) (hno : secAt s.now i sl 0 = none) :
    Calls Tryz.prog 68 #[.pointer (some ⟨q, 0, none⟩), .int .i64 (sl : Int)] w fun e w' => e = .returned (.tuple #[.agg #[.int .i64 0, .int .i64 0, .slice none 0 0], .bool false]) ∧ Kp w w' := by
  have HLD := Lib.hid (fun (wr : World) (hk : Kp w wr) => lload_any wr (hT.keep hk) q p i n (hL.keep hk trivial) F s (hd.keep (hk.mono fun _ _ _ => trivial)) sl 0 hi hsl (by omega) (by omega))
  have hk0 : Kp w (w.alloc (.cells #[.int .i64 0, .int .i64 0, .slice none 0 0] 78)) := (Keeps.refl _ w).alloc _
  have hb0 := heap_alloc_new w (.cells #[.int .i64 0, .int .i64 0, .slice none 0 0] 78)
  obtain ⟨w0, hw0⟩ : ∃ w0, w.alloc (.cells #[.int .i64 0, .int .i64 0, .slice none 0 0] 78) = w0 := ⟨_, rfl⟩
  have HW0 := Lib.hid hw0
  rw [hw0] at hk0 hb0
  have HK0 := Lib.hid hk0
  have HB0 := Lib.hid hb0
  have HNO := Lib.hid hno
  clear hT hL hd hk0 hb0 hw0 hno hin
  go_enter Tryz.func68, Tryz.ntmps68
  go_wp2_with fail
  rw [HW0.out]
  have hld := HLD.out w0 HK0.out
  rw [HNO.out] at hld
  unfold ldV at hld
  refine (show Calls _ _ _ _ _ from hld).mono ?_
  clear hld
  rintro e w1 ⟨rfl, hk1⟩
  have hb1 := (hk1.block _ trivial (Array.getElem?_eq_some_iff.1 HB0.out).1).trans HB0.out
  have c0 := (cell_of_block hb1 0).trans rfl
  have c1 := (cell_of_block hb1 1).trans rfl
  have c2 := (cell_of_block hb1 2).trans rfl
  have f0 := unfrozen_of_block hb1 0
  have f1 := unfrozen_of_block hb1 1
  have f2 := unfrozen_of_block hb1 2
  have hk := HK0.out.trans hk1
  have HFIN := Lib.hid (show ∀ v0 v1 v2, Kp w (((w1.setCell ⟨w.heap.size, 0, none⟩ v0).setCell ⟨w.heap.size, 1, none⟩ v1).setCell ⟨w.heap.size, 2, none⟩ v2) from fun v0 v1 v2 => ((hk.setCell (.inl (Nat.le_refl _)) _).setCell (.inl (Nat.le_refl _)) _).setCell (.inl (Nat.le_refl _)) _)
  have HCELL := Lib.hid (show ∀ v0 v1 v2, (((w1.setCell ⟨w.heap.size, 0, none⟩ v0).setCell ⟨w.heap.size, 1, none⟩ v1).setCell ⟨w.heap.size, 2, none⟩ v2).cell? ⟨w.heap.size, 0, none⟩ = some v0 ∧ (((w1.setCell ⟨w.heap.size, 0, none⟩ v0).setCell ⟨w.heap.size, 1, none⟩ v1).setCell ⟨w.heap.size, 2, none⟩ v2).cell? ⟨w.heap.size, 1, none⟩ = some v1 ∧ (((w1.setCell ⟨w.heap.size, 0, none⟩ v0).setCell ⟨w.heap.size, 1, none⟩ v1).setCell ⟨w.heap.size, 2, none⟩ v2).cell? ⟨w.heap.size, 2, none⟩ = some v2 from fun v0 v1 v2 => by
    have h1 := block_setCell (block_setCell (block_setCell hb1 (i := 0) v0) (i := 1) v1) (i := 2) v2
    exact ⟨(cell_of_block h1 0).trans rfl, (cell_of_block h1 1).trans rfl, (cell_of_block h1 2).trans rfl⟩)
  clear hb1 hk hk1 HB0 HK0 HLD
  go_wp2_with fail
  exact bodyPost_ret (v := .tuple #[.agg #[.int .i64 0, .int .i64 0, .slice none 0 0], .bool false]) (by simp [results, Tryz.results68, go_sem, HCELL.out]) rfl ⟨rfl, HFIN.out _ _ _⟩
theorem one_store {P : Program} {w : World} {o : Oper} {a : Act} {Q : Exit → Act → World → Prop} (ty : TypeId) (x y : Operand) (ho : o.op = .store ty x y) (g j : Nat) (hx : a.eval x = .pointer (some ⟨g, j, none⟩)) (cs : List Value) (hy : a.eval y = .agg cs.toArray)
    (t : TypeId) (cur : Array Value) (hg : w.heap[g]? = some (.cells cur t (0, 0))) (hi : (P.info? ty).map (·.size) = some cs.length) (hfit : j + cs.length ≤ cur.size) (h1 : ∀ v ∈ cs, v.oneCell' = true) :
    o.wp P a w (fun a' w' => ∃ v, a' = a.put o.dst v ∧ w.grownBy w' (some g) ∧ w'.heap[g]? = some (.cells (cur.toList.take j ++ cs ++ cur.toList.drop (j + cs.length)).toArray t (0, 0))) Q := by
  unfold Oper.wp execOp
  simp only [ho, hx, hy, Instr.storeAt, Instr.sureAddr, Sem.run_bind, Sem.run_pure, Result.andThen_ok, run_store_part ty g j t cur cs hg hi hfit h1]
  exact ⟨_, rfl, ⟨rfl, rfl, rfl, by simp, fun k _ hk => setRow_other w g k _ (fun e => hk (by rw [e]))⟩, setRow_heap w g cur _ t _ hg⟩
set_option maxRecDepth 100000 in
set_option maxHeartbeats 4000000 in
theorem segm_yes (w : World) (hT : Taken w) (q p i n : Nat) (hL : LHead w q p i n) (F : Foot) (s : SDev) (hd : DAt w p F s) (sg : Seg) (hok : sg.Ok) (hfull : sg.recs ≠ []) (hon : SegOn s.now i sg) (hi : i ≤ 2048) (hsl : sg.slot ≤ 2048) (hf : sg.first ≤ 274877906943) (hin : i + sg.slot * 8 + 8 ≤ s.now.length) :
    Calls Tryz.prog 68 #[.pointer (some ⟨q, 0, none⟩), .int .i64 (sg.slot : Int)] w fun e w' => ∃ A c, e = .returned (.tuple #[.agg #[.int .i64 (sg.slot : Int), .int .i64 (sg.first : Int), .slice A sg.recs.length c], .bool true]) ∧ w'.ownsRow w.heap.size 3 1 (.slice A sg.recs.length c) sg.recs.length (endsC sg.recs) ∧ Kp w w' := by
  have hlen := hok.len
  have hpos : 0 < sg.recs.length := List.length_pos_iff.2 hfull
  have htl : 0 < sg.text.length := by
    have := strm_count sg.recs fun r h => (hok.one r h).1
    unfold Seg.text; omega
  have hsec : secAt s.now i sg.slot 0 = some (sg.first * 8, chunk sg.text 0) := hon.has 0 (by unfold nsec; omega)
  have HLD := Lib.hid (fun (wr : World) (hk : Kp w wr) => lload_any wr (hT.keep hk) q p i n (hL.keep hk trivial) F s (hd.keep (hk.mono fun _ _ _ => trivial)) sg.slot 0 hi hsl (by omega) (by omega))
  have HSM := Lib.hid (fun (w' : World) (hT' : Taken w') (hL' : LHead w' q p i n) (hd' : DAt w' p F s) => stream_any w' hT' q p i n hL' F s hd' sg.slot sg.first sg.text (.slice none 0 0) rfl hon.has hon.rest hlen hi hsl hf hin 0 8 (by omega) (by omega))
  have HPS := Lib.hid (fun (w' : World) (g c : Nat) (G : Nat → Prop) (hr : Row w' (some ⟨g, 0, none⟩) G (bcells (strm sg.recs))) (h1 : (strm sg.recs).length ≤ c) (h2 : c ≤ maxLen) => parse_seg w' sg.slot sg.first g 0 c G sg.recs hr h1 h2 hlen hok.one)
  have hk0 : Kp w (w.alloc (.cells #[.int .i64 0, .int .i64 0, .slice none 0 0] 78)) := (Keeps.refl _ w).alloc _
  have hb0 := heap_alloc_new w (.cells #[.int .i64 0, .int .i64 0, .slice none 0 0] 78)
  obtain ⟨w0, hw0⟩ : ∃ w0, w.alloc (.cells #[.int .i64 0, .int .i64 0, .slice none 0 0] 78) = w0 := ⟨_, rfl⟩
  have HW0 := Lib.hid hw0
  rw [hw0] at hk0 hb0
  have HK0 := Lib.hid hk0
  have HB0 := Lib.hid hb0
  have HSC := Lib.hid hsec
  have HT := Lib.hid hT
  have HL := Lib.hid hL
  have HD := Lib.hid hd
  have HRT := Lib.hid (show sg.text = strm sg.recs from rfl)
  have hz0 : w.heap.size < w0.heap.size := by rw [← hw0]; simp
  clear hT hL hd hk0 hb0 hw0 hin hsec hok hon hfull
  go_enter Tryz.func68, Tryz.ntmps68
  go_wp2_with fail
  rw [HW0.out]
  have hld := HLD.out w0 HK0.out
  rw [HSC.out] at hld
  unfold ldV at hld
  obtain ⟨N, hN⟩ : ∃ N, sg.first * 8 = N := ⟨_, rfl⟩
  rw [hN] at hld
  have q1 : (N : Int) / 8 = (sg.first : Int) := by omega
  have q1' : (N : Int).tdiv 8 = (sg.first : Int) := by rw [Int.tdiv_eq_ediv_of_nonneg (by omega)]; exact q1
  refine (show Calls _ _ _ _ _ from hld).mono ?_
  clear hld hN
  rintro e w1 ⟨rfl, hk1⟩
  have HB1 := Lib.hid ((hk1.block _ trivial (Array.getElem?_eq_some_iff.1 HB0.out).1).trans HB0.out)
  have HK1 := Lib.hid (HK0.out.trans hk1)
  have hz1 := hk1.size
  clear hk1 HB0 HK0 HLD
  go_wp2_with fail
  obtain ⟨w2, hw2⟩ : ∃ w2, w1.alloc (.cells #[.int .i64 (sg.slot : Int), .int .i64 (sg.first : Int), .slice none 0 0] 78) = w2 := ⟨_, rfl⟩
  have hk2 : Kp w1 w2 := by rw [← hw2]; exact (Keeps.refl _ w1).alloc _
  have HBX := Lib.hid (show SBox w2 w1.heap.size sg.slot sg.first (.slice none 0 0) from by rw [← hw2]; exact SBox.new w1 sg.slot sg.first (.slice none 0 0))
  rw [hw2]
  have HB2 := Lib.hid ((hk2.block _ trivial (Array.getElem?_eq_some_iff.1 HB1.out).1).trans HB1.out)
  have HK2 := Lib.hid (HK1.out.trans hk2)
  have hz2 : w1.heap.size < w2.heap.size := by rw [← hw2]; simp
  have hne : w1.heap.size ≠ w.heap.size := by omega
  have HQN := Lib.hid (show q ≠ w.heap.size from fun e => by have := World.block_lt_of_cell? w _ HL.out.d; simp only at this; omega)
  clear hk2 hw2 HB1 HK1
  have hL2 := HL.out.keep HK2.out trivial
  have hT2 := HT.out.keep HK2.out
  have hd2 := HD.out.keep (HK2.out.mono fun _ _ _ => trivial)
  have HL2 := Lib.hid hL2
  have HT2 := Lib.hid hT2
  have HD2 := Lib.hid hd2
  have HDN := Lib.hid (show ∀ b, F.all b → b ≠ w.heap.size from fun b hb e => by have := HD.out.lt b hb; omega)
  have HTN := Lib.hid (show ∀ k, k < 16 → (⟨0, k, none⟩ : Addr).block ≠ w.heap.size from fun k hk => by
    have h1 := World.block_lt_of_cell? w _ (HT.out k hk)
    show 0 ≠ w.heap.size
    simp only at h1
    omega)
  clear hL2 hT2 hd2
  refine wp_region_one (V := VZ q w1.heap.size w2.heap.size sg.slot sg.first sg.recs w.heap.size) (w0 := w2) 7 (StZ w2 w.heap.size w2.heap.size sg.slot sg.first sg.recs) (fun a b => Keeps (fun y => y ≠ w.heap.size) a b) GE (by kernel_rfl) (fun i a b v h hv => VZ_mono i a b v (h.mono fun _ _ _ => trivial) hv) (fun _ _ _ h hs => hs.keep h) (fun i _ a b v h hv => VZ_mono i a b v h hv) (by kernel_rfl) (by decide) GE_is (fun i o ho hw => (all_wanted (by kernel_rfl) ho hw).elim) ⟨HB2.out, (Keeps.refl _ w2).drew⟩ (each_of ?_) ?_
  · refine ⟨?_, ?_, ?_, ?_, ?_, ?_, ?_, ?_, ?_, trivial⟩ <;> intro hw a1 w3 L
    · rw [if_neg (by decide)]
      intro b hs _
      exact kp_move rfl (L.old 1 (by kernel_rfl))
    · rw [if_neg (by decide)]
      intro b hs _
      exact kp_fG1 rfl (L.old 9 (by kernel_rfl))
    · rw [if_neg (by decide)]
      intro b hs _
      exact kp_lI64 ((StZ.kp b hs).cell HBX.out.f hne) rfl (L.val 1 25 (by kernel_rfl) (by kernel_rfl))
    · rw [if_neg (by decide)]
      intro b hs _
      exact kp_move rfl (L.old 0 (by kernel_rfl))
    · rw [if_neg (by decide)]
      intro b hs _
      have hb := HBX.out.keep (StZ.kp b hs) hne
      exact kp_lG hb.s hb.f hb.e rfl (L.old 9 (by kernel_rfl))
    · rw [if_neg (by decide)]
      intro b hs _
      have hkk := StZ.kp b hs
      have e0 : a1.eval (.tmp 27) = .pointer (some ⟨q, 0, none⟩) := L.val 3 27 (by kernel_rfl) (by kernel_rfl)
      have e1 : a1.eval (.tmp 28) = .agg #[.int .i64 (sg.slot : Int), .int .i64 (sg.first : Int), .slice none 0 0] := L.val 4 28 (by kernel_rfl) (by kernel_rfl)
      have hf : a1.eval (.func 48) = .func (.func 48) #[] #[] := rfl
      have hcn : a1.eval (.const (.int .i64 0)) = .int .i64 0 := rfl
      have hcn2 : a1.eval (.const (.int .i64 8)) = .int .i64 8 := rfl
      have hst := HSM.out w3 (fun k hk => hkk.cell (HT2.out k hk) (HTN.out k hk)) (HL2.out.keep hkk HQN.out) (HD2.out.keep (hkk.mono fun b _ hb => HDN.out b hb))
      rw [show (53 * 0 : Nat) = 0 from rfl, List.drop_zero, List.take_of_length_le (show sg.text.length ≤ 53 * (8 - 0) by omega)] at hst
      refine kp_enter (f := 48) (args := #[.pointer (some ⟨q, 0, none⟩), .agg #[.int .i64 (sg.slot : Int), .int .i64 (sg.first : Int), .slice none 0 0], .int .i64 0, .int .i64 8]) ?_ hst ?_
      · clear L hs hkk hst
        generalize a1.eval = ρ at e0 e1 hf hcn hcn2 ⊢
        unfold execOp
        go_simp
      · rintro e w' ⟨v, rfl, ho, hk⟩
        obtain ⟨g, c, rfl, hbase, hglt⟩ := ho.form htl
        have hroom := own_room ho
        have hsz := hkk.size
        exact ⟨_, rfl, hk, ⟨g, c, by rw [← HRT.out], by rw [← HRT.out]; exact hroom.1, hroom.2, by rw [← HRT.out]; exact (own_row ho).mono fun _ _ _ => trivial⟩, by have := hk.size; omega, fun A n c e a ha => by
          injection e with e
          rw [ha] at e
          injection e with e
          rw [← e]
          show g ≠ w.heap.size
          omega⟩
    · rw [if_neg (by decide)]
      intro b hs _
      have hsz := (StZ.kp b hs).size
      have e0 : a1.eval (.tmp 24) = .int .i64 (sg.slot : Int) := L.val 0 24 (by kernel_rfl) (by kernel_rfl)
      have e1 : a1.eval (.tmp 26) = .int .i64 (sg.first : Int) := L.val 2 26 (by kernel_rfl) (by kernel_rfl)
      obtain ⟨⟨g, c, e2, h1, h2, hr⟩, -, -⟩ := L.val 5 29 (by kernel_rfl) (by kernel_rfl)
      have hf : a1.eval (.func 87) = .func (.func 87) #[] #[] := rfl
      refine kp_enter (f := 87) (args := #[.int .i64 (sg.slot : Int), .int .i64 (sg.first : Int), .slice (some ⟨g, 0, none⟩) (strm sg.recs).length c]) ?_ (HPS.out w3 g c _ hr h1 h2) ?_
      · clear L hs hr h1 h2
        generalize a1.eval = ρ at e0 e1 e2 hf ⊢
        unfold execOp
        go_simp
      · rintro e w' ⟨E, rfl, ho, hk⟩
        obtain ⟨A, cE, rfl, -, -⟩ := own_slice ho
        exact ⟨_, rfl, hk, ⟨A, cE, rfl, ownsRow_le ho (by omega)⟩, by omega⟩
    · rw [if_pos rfl]
      intro hs
      obtain ⟨⟨A, cE, e2, ho⟩, hlt⟩ := L.val 6 30 (by kernel_rfl) (by kernel_rfl)
      have e0 : a1.eval (.tmp 4) = .pointer (some ⟨w.heap.size, 0, none⟩) := L.old 4 (by kernel_rfl)
      refine Oper.wp_mono ?_ (one_store 78 (.tmp 4) (.tmp 30) rfl w.heap.size 0 e0 [.int .i64 (sg.slot : Int), .int .i64 (sg.first : Int), .slice A sg.recs.length cE] e2 78 _ hs.1 (by kernel_rfl) (Nat.le_refl 3) (fun v hv => by
        simp only [List.mem_cons, List.not_mem_nil, or_false] at hv
        rcases hv with rfl | rfl | rfl <;> rfl))
      rintro a' w' ⟨v, h1, hg, hb⟩
      have hkk := keeps_grown hg
      exact ⟨v, h1, hkk, ⟨A, cE, hb, hkk.own ho fun b hb => by have := (ho.lt b hb).1; omega, (hs.2.mono fun _ _ _ => trivial).trans hkk⟩, trivial⟩
    · rw [if_neg (by decide)]
      intro b hs _
      exact kp_assign rfl rfl
  · intro vs w4 hs4 hlen4 hv
    match vs, hlen4 with
    | [v0, v1, v2, v3, v4, v5, v6, v7, v8], _ =>
      have e8 : v8 = .bool true := hv 8 5 (by kernel_rfl)
      clear hv
      subst e8
      simp only [putAll, List.map, Act.put, List.setIfInBounds_toArray, List.set_cons_succ, List.set_cons_zero, Exit.then]
      obtain ⟨A, cE, hb4, ho4, hk4⟩ := hs4
      have c0 := (cell_of_block hb4 0).trans rfl
      have c1 := (cell_of_block hb4 1).trans rfl
      have c2 := (cell_of_block hb4 2).trans rfl
      have hkf : Kp w w4 := by
        have hk2 := HK2.out
        exact ⟨hk4.os.trans hk2.os, hk4.tape.trans hk2.tape, hk4.output.trans hk2.output, Nat.le_trans hk2.size hk4.size, fun b _ hb => (hk4.block b (by show b ≠ w.heap.size; omega) (Nat.lt_of_lt_of_le hb hk2.size)).trans (hk2.block b trivial hb)⟩
      have H1 := Lib.hid hkf
      have H2 := Lib.hid (ownsRow_le ho4 (show w.heap.size ≤ w2.heap.size by omega))
      clear hkf ho4 hk4 hb4
      go_wp2_with fail
      exact bodyPost_ret (v := .tuple #[.agg #[.int .i64 (sg.slot : Int), .int .i64 (sg.first : Int), .slice A sg.recs.length cE], .bool true]) (by simp [results, Tryz.results68, go_sem, c0, c1, c2]) rfl ⟨A, cE, rfl, H2.out, H1.out⟩
end Go.Proofs.YtpijdefadmfahaaGreatDoor
end
/-
  THE PROGRAM's LOG: find: what the sectors tell.
-/
section
namespace Go.Proofs.YtpijdefadmfahaaGreatDoor
open Go Go.RowKit Go.Joins
structure Fnd where
  slot : Nat
  head : Int
  top : Int
def Fnd.step (t : Fnd) (i k : Nat) : Option (Nat × List UInt8) → Fnd
  | none => t
  | some (n, _) => if k = 0 ∧ t.head < (n : Int) then ⟨i, (n : Int), max t.top (n : Int)⟩ else ⟨t.slot, t.head, max t.top (n : Int)⟩
def findIn (rows : List (List UInt8)) (p i : Nat) (t : Fnd) : Nat → Fnd
  | 0 => t
  | k + 1 => (findIn rows p i t k).step i k (secAt rows p i k)
def findTo (rows : List (List UInt8)) (p : Nat) : Nat → Fnd
  | 0 => ⟨0, -1, -1⟩
  | i + 1 => findIn rows p i (findTo rows p i) 8
structure Fnd.Ok (t : Fnd) (i : Nat) : Prop where
  s : t.slot ≤ i
  h0 : -1 ≤ t.head
  h1 : t.head ≤ 17592186044416
  t0 : -1 ≤ t.top
  t1 : t.top ≤ 17592186044416
theorem Fnd.Ok.step {t : Fnd} {i j : Nat} (h : t.Ok i) (hi : j ≤ i) (k : Nat) (o : Option (Nat × List UInt8)) (ho : ∀ n x, o = some (n, x) → n ≤ 17592186044416) : (t.step j k o).Ok i := by
  obtain ⟨h1, h2, h3, h4, h5⟩ := h
  cases o with
  | none => exact ⟨h1, h2, h3, h4, h5⟩
  | some nx =>
    have hn := ho nx.1 nx.2 rfl
    have hn' : ((nx.1 : Nat) : Int) ≤ 17592186044416 := by omega
    unfold Fnd.step
    simp only
    split
    · exact ⟨hi, by simp, hn', by simp; omega, by simp; omega⟩
    · exact ⟨h1, h2, h3, by simp; omega, by simp; omega⟩
set_option maxRecDepth 100000 in
set_option maxHeartbeats 1000000 in
theorem find_any (w : World) (hT : Taken w) (q p i n : Nat) (K T : Value) (sl left nx : Nat) (hB : LBlk w q p i n K sl left T nx) (F : Foot) (s : SDev) (hd : DAt w p F s) (hi : i ≤ 2048) (hn : n ≤ 200) (hin : i + 8 * n ≤ s.now.length)
    (hnum : ∀ j k m x, j < n → k < 8 → secAt s.now i j k = some (m, x) → m ≤ 17592186044416) (R : World → Prop) (t : Fnd) (ht : t = findTo s.now i n) (hcase : (t.top = -1 ∧ t.head = -1) ∨ (0 ≤ t.top ∧ 0 ≤ t.head))
    (hno : t.top = -1 → ∀ w1, Kp w w1 → R w1)
    (hyes : 0 ≤ t.top → ∀ w1, Kp w w1 → LBlk w1 q p i n K sl left T nx → Calls Tryz.prog 47 #[.pointer (some ⟨q, 0, none⟩), .int .i64 (t.slot : Int)] (w1.setCell ⟨q, 7, none⟩ (.int .i64 (t.top / 8 + 212))) fun e w' => (∃ v, e = .returned v) ∧ R w') :
    Calls Tryz.prog 31 #[.pointer (some ⟨q, 0, none⟩)] w fun e w' => (∃ v, e = .returned v) ∧ R w' := by
  have hL := hB.head
  have HLD := Lib.hid (fun (wr : World) (hk : Kp w wr) (j k : Nat) (hj : j < n) (hk8 : k < 8) => lload_any wr (hT.keep hk) q p i n (hL.keep hk trivial) F s (hd.keep (hk.mono fun _ _ _ => trivial)) j k hi (by omega) hk8 (by omega))
  have c2 := hL.n
  have HNUM := Lib.hid hnum
  have HB := Lib.hid hB
  have HT := Lib.hid ht
  have HNO := Lib.hid hno
  have HYES := Lib.hid hyes
  have hqlt : q < w.heap.size := (Array.getElem?_eq_some_iff.1 hB).1
  have HCASE := Lib.hid hcase
  clear hT hL hd hnum hin hB ht hno hyes hcase
  go_enter Tryz.func31, Tryz.ntmps31
  go_wp2_with fail
  go_loopw [2, 3, 4, 14] (fun v2 v3 v4 vj wr => ∃ (j ts : Nat) (th tt : Int), j ≤ n ∧ vj = .int .i64 j ∧ v2 = .int .i64 (ts : Int) ∧ v3 = .int .i64 th ∧ v4 = .int .i64 tt ∧ RowKit.Hid ((⟨ts, th, tt⟩ : Fnd) = findTo s.now i j) ∧ RowKit.Hid ((⟨ts, th, tt⟩ : Fnd).Ok n) ∧ Kp w wr) (fun _ _ _ vj _ => n - (intOf vj).toNat)
  case atStart => exact ⟨0, 0, -1, -1, Nat.zero_le _, rfl, rfl, rfl, rfl, Lib.hid rfl, Lib.hid ⟨Nat.zero_le _, by decide, by decide, by decide, by decide⟩, Keeps.refl _ _⟩
  case round =>
    obtain ⟨j, ts, th, tt, hjn, rfl, rfl, rfl, rfl, ht, hok, hkp⟩ := hrel
    by_cases hlt : j < n
    · have HK := Lib.hid hkp
      clear hkp
      go_wp2_with fail
      go_loopw [2, 3, 4, 17] (fun v2 v3 v4 vk wr => ∃ (k us : Nat) (uh ut : Int), k ≤ 8 ∧ vk = .int .i64 k ∧ v2 = .int .i64 (us : Int) ∧ v3 = .int .i64 uh ∧ v4 = .int .i64 ut ∧ RowKit.Hid ((⟨us, uh, ut⟩ : Fnd) = findIn s.now i j (findTo s.now i j) k) ∧ RowKit.Hid ((⟨us, uh, ut⟩ : Fnd).Ok n) ∧ Kp w wr) (fun _ _ _ vk _ => 8 - (intOf vk).toNat)
      case atStart => exact ⟨0, ts, th, tt, Nat.zero_le _, rfl, rfl, rfl, rfl, ht, hok, HK.out⟩
      case round =>
        obtain ⟨k, us, uh, ut, hk8, rfl, rfl, rfl, rfl, hu, hok2, hkp2⟩ := hrel
        by_cases hlt8 : k < 8
        · have HLC := Lib.hid (HLD.out wr hkp2 j k hlt hlt8)
          have HK2 := Lib.hid hkp2
          clear hkp2
          go_wp2_with fail
          refine HLC.out.mono ?_
          rintro e w2 ⟨rfl, hk2⟩
          have HK3 := Lib.hid (HK2.out.trans hk2)
          have hs1 : findIn s.now i j (findTo s.now i j) (k + 1) = (findIn s.now i j (findTo s.now i j) k).step j k (secAt s.now i j k) := rfl
          rw [← hu.out] at hs1
          have HS1 := Lib.hid hs1
          clear hk2 hs1 HLC
          rcases hsec : secAt s.now i j k with _ | ⟨m, x⟩
          · have HSEC := Lib.hid hsec
            clear hsec
            unfold ldV
            go_wp2_with fail
            go_roundw
            case rel => exact ⟨k + 1, us, uh, ut, by omega, by go_num, rfl, rfl, rfl, Lib.hid (by have := HS1.out; rw [HSEC.out] at this; exact this.symm), hok2, HK3.out⟩
            case measure => simp [intOf]; omega
          · have hm := HNUM.out j k m x hlt hlt8 hsec
            have HSEC := Lib.hid hsec
            clear hsec
            unfold ldV
            have hst : ∀ a b c, (⟨a, b, c⟩ : Fnd) = (⟨us, uh, ut⟩ : Fnd).step j k (some (m, x)) → RowKit.Hid ((⟨a, b, c⟩ : Fnd) = findIn s.now i j (findTo s.now i j) (k + 1)) ∧ RowKit.Hid ((⟨a, b, c⟩ : Fnd).Ok n) := fun a b c e => by
              have h1 := HS1.out
              rw [HSEC.out] at h1
              exact ⟨Lib.hid (by rw [h1, e]), Lib.hid (by rw [e]; exact hok2.out.step (Nat.le_of_lt hlt) k _ (fun n' x' e' => by cases e'; exact hm))⟩
            have HST := Lib.hid hst
            have hmx := hok2.out.t1
            have hmx0 := hok2.out.t0
            simp only at hmx hmx0
            clear hst
            by_cases hk0 : k = 0
            · have dk : ((k : Int) == 0) = true := by simp [hk0]
              by_cases hgt : uh < (m : Int)
              · have dh : decide (uh < (m : Int)) = true := by simp [hgt]
                have dh2 : decide ((m : Int) > uh) = true := by simp [hgt]
                have HS2 := Lib.hid (HST.out j (m : Int) (max ut (m : Int)) (by simp [Fnd.step, hk0, hgt]))
                have HGT := Lib.hid hgt
                clear hgt HST
                go_wp2_with fail
                go_roundw
                case rel => exact ⟨k + 1, j, _, max ut (m : Int), by omega, by go_num, rfl, rfl, rfl, HS2.out.1, HS2.out.2, HK3.out⟩
                case measure => simp [intOf]; omega
              · have dh : decide (uh < (m : Int)) = false := by simp; omega
                have HS2 := Lib.hid (HST.out us uh (max ut (m : Int)) (by simp [Fnd.step, hk0, hgt]))
                have HGT := Lib.hid hgt
                clear HST
                go_wp2_with fail
                go_roundw
                case rel => exact ⟨k + 1, us, _, max ut (m : Int), by omega, by go_num, rfl, rfl, rfl, HS2.out.1, HS2.out.2, HK3.out⟩
                case measure => simp [intOf]; omega
            · have dk : ((k : Int) == 0) = false := by simp; omega
              have HS2 := Lib.hid (HST.out us uh (max ut (m : Int)) (by simp [Fnd.step, hk0]))
              clear HST
              go_wp2_with fail
              go_roundw
              case rel => exact ⟨k + 1, us, _, max ut (m : Int), by omega, by go_num, rfl, rfl, rfl, HS2.out.1, HS2.out.2, HK3.out⟩
              case measure => simp [intOf]; omega
        · obtain rfl : k = 8 := by omega
          have HK2 := Lib.hid hkp2
          clear hkp2
          go_wp2_with fail
          go_roundw
          case rel => exact ⟨j + 1, us, uh, ut, by omega, by go_num, rfl, rfl, rfl, Lib.hid hu.out, hok2, HK2.out⟩
          case measure => simp [intOf]; omega
    · obtain rfl : j = n := by omega
      have HK := Lib.hid hkp
      obtain rfl : t = ⟨ts, th, tt⟩ := HT.out.trans ht.out.symm
      have hb := HB.out.keep hkp trivial
      have HB2 := Lib.hid hb
      have c7 := (cell_of_block hb 7).trans rfl
      have f7 := unfrozen_of_block hb 7
      have o1 := hok.out.t1
      have o2 := hok.out.h1
      simp only at o1 o2
      clear hkp hb
      rcases HCASE.out with ⟨e1, e2⟩ | ⟨e1, e2⟩
      · obtain rfl : tt = -1 := e1
        obtain rfl : th = -1 := e2
        go_wp2_with fail
        go_end0
        exact ⟨⟨_, rfl⟩, HNO.out trivial _ HK.out⟩
      · have e1 : 0 ≤ tt := e1
        have e2 : 0 ≤ th := e2
        have d1 : decide (0 ≤ tt) = true := by simp [e1]
        have d2 : decide (0 ≤ th) = true := by simp [e2]
        obtain ⟨t8, ht8⟩ : ∃ t8, tt / 8 = t8 := ⟨_, rfl⟩
        have q1 : tt.tdiv 8 = t8 := by rw [Int.tdiv_eq_ediv_of_nonneg (by omega)]; exact ht8
        have b1 : 0 ≤ t8 := by omega
        have b2 : t8 ≤ 2199023255552 := by omega
        have HY := Lib.hid (HYES.out e1 wr HK.out HB2.out)
        rw [show (⟨ts, th, tt⟩ : Fnd).top = tt from rfl, ht8] at HY
        clear e1 e2
        go_wp2_with fail
        refine HY.out.mono ?_
        rintro e w3 ⟨⟨v, rfl⟩, hr⟩
        go_wp2_with fail
        go_end0
        exact ⟨⟨_, rfl⟩, hr⟩
end Go.Proofs.YtpijdefadmfahaaGreatDoor
end
/-
  THE PROGRAM's LOG: what 'find' finds on a device that holds a chain of segments.
-/
section
namespace Go.Proofs.YtpijdefadmfahaaGreatDoor
structure Fnd.Tells (rows : List (List UInt8)) (p : Nat) (S : Nat → Nat → Prop) (t : Fnd) : Prop where
  topGe : ∀ i k m x, S i k → secAt rows p i k = some (m, x) → (m : Int) ≤ t.top
  topIs : t.top = -1 ∨ ∃ i k m x, S i k ∧ secAt rows p i k = some (m, x) ∧ t.top = (m : Int)
  headGe : ∀ i m x, S i 0 → secAt rows p i 0 = some (m, x) → (m : Int) ≤ t.head
  headIs : (t.head = -1 ∧ t.slot = 0) ∨ ∃ m x, S t.slot 0 ∧ secAt rows p t.slot 0 = some (m, x) ∧ t.head = (m : Int)
theorem Fnd.Tells.step {rows : List (List UInt8)} {p : Nat} {S S' : Nat → Nat → Prop} {t : Fnd} (h : t.Tells rows p S) (i k : Nat) (hS : ∀ a b, S' a b ↔ S a b ∨ (a = i ∧ b = k)) : (t.step i k (secAt rows p i k)).Tells rows p S' := by
  obtain ⟨h1, h2, h3, h4⟩ := h
  cases hs : secAt rows p i k with
  | none =>
    refine ⟨fun a b m x hab e => ?_, ?_, fun a m x hab e => ?_, ?_⟩
    · rcases (hS a b).1 hab with h | ⟨rfl, rfl⟩
      · exact h1 a b m x h e
      · rw [hs] at e; cases e
    · rcases h2 with h | ⟨a, b, m, x, hab, e, e2⟩
      · exact .inl h
      · exact .inr ⟨a, b, m, x, (hS a b).2 (.inl hab), e, e2⟩
    · rcases (hS a 0).1 hab with h | ⟨rfl, rfl⟩
      · exact h3 a m x h e
      · rw [hs] at e; cases e
    · rcases h4 with h | ⟨m, x, hab, e, e2⟩
      · exact .inl h
      · exact .inr ⟨m, x, (hS _ 0).2 (.inl hab), e, e2⟩
  | some nx =>
    obtain ⟨n, y⟩ := nx
    have hin : S' i k := (hS i k).2 (.inr ⟨rfl, rfl⟩)
    have htop : ∀ a b m x, S' a b → secAt rows p a b = some (m, x) → (m : Int) ≤ max t.top (n : Int) := fun a b m x hab e => by
      rcases (hS a b).1 hab with h | ⟨rfl, rfl⟩
      · have := h1 a b m x h e; omega
      · rw [hs] at e; cases e; omega
    have htopI : max t.top (n : Int) = -1 ∨ ∃ a b m x, S' a b ∧ secAt rows p a b = some (m, x) ∧ max t.top (n : Int) = (m : Int) := by
      by_cases hle : t.top ≤ (n : Int)
      · exact .inr ⟨i, k, n, y, hin, hs, by omega⟩
      · rcases h2 with h | ⟨a, b, m, x, hab, e, e2⟩
        · omega
        · exact .inr ⟨a, b, m, x, (hS a b).2 (.inl hab), e, by omega⟩
    unfold Fnd.step
    simp only
    split
    · rename_i hc
      obtain ⟨hk0, hlt⟩ := hc
      subst hk0
      refine ⟨htop, htopI, fun a m x hab e => ?_, .inr ⟨n, y, hin, hs, rfl⟩⟩
      show (m : Int) ≤ (n : Int)
      rcases (hS a 0).1 hab with h | ⟨rfl, -⟩
      · have := h3 a m x h e; omega
      · rw [hs] at e; cases e; omega
    · rename_i hc
      refine ⟨htop, htopI, fun a m x hab e => ?_, ?_⟩
      · show (m : Int) ≤ t.head
        rcases (hS a 0).1 hab with h | ⟨rfl, hk⟩
        · exact h3 a m x h e
        · subst hk
          rw [hs] at e; cases e
          have := not_and.1 hc rfl
          omega
      · rcases h4 with h | ⟨m, x, hab, e, e2⟩
        · exact .inl h
        · exact .inr ⟨m, x, (hS _ 0).2 (.inl hab), e, e2⟩
theorem Fnd.Tells.iff {rows : List (List UInt8)} {p : Nat} {S S' : Nat → Nat → Prop} {t : Fnd} (h : t.Tells rows p S) (hS : ∀ a b, b < 8 ∨ b = 0 → (S' a b ↔ S a b)) (hb : ∀ a b, S a b → b < 8) (hb' : ∀ a b, S' a b → b < 8) : t.Tells rows p S' := by
  obtain ⟨h1, h2, h3, h4⟩ := h
  refine ⟨fun a b m x hab e => h1 a b m x ((hS a b (.inl (hb' a b hab))).1 hab) e, ?_, fun a m x hab e => h3 a m x ((hS a 0 (.inr rfl)).1 hab) e, ?_⟩
  · rcases h2 with h | ⟨a, b, m, x, hab, e, e2⟩
    · exact .inl h
    · exact .inr ⟨a, b, m, x, (hS a b (.inl (hb a b hab))).2 hab, e, e2⟩
  · rcases h4 with h | ⟨m, x, hab, e, e2⟩
    · exact .inl h
    · exact .inr ⟨m, x, (hS _ 0 (.inr rfl)).2 hab, e, e2⟩
def ahead (i k : Nat) : Nat → Nat → Prop := fun a b => b < 8 ∧ (a < i ∨ (a = i ∧ b < k))
theorem findIn_tells (rows : List (List UInt8)) (p i : Nat) (t : Fnd) (h : t.Tells rows p (ahead i 0)) (k : Nat) (hk : k ≤ 8) : (findIn rows p i t k).Tells rows p (ahead i k) := by
  induction k with
  | zero => exact h
  | succ k ih =>
    exact (ih (by omega)).step i k (fun a b => by unfold ahead; constructor <;> intro h <;> omega)
theorem findTo_tells (rows : List (List UInt8)) (p : Nat) (j : Nat) : (findTo rows p j).Tells rows p (ahead j 0) := by
  induction j with
  | zero => exact ⟨fun a b m x hab => by unfold ahead at hab; omega, .inl rfl, fun a m x hab => by unfold ahead at hab; omega, .inl ⟨rfl, rfl⟩⟩
  | succ j ih =>
    exact (findIn_tells rows p j _ ih 8 (Nat.le_refl _)).iff (fun a b hb => by unfold ahead; constructor <;> intro h <;> omega) (fun a b h => h.1) (fun a b h => h.1)
theorem find_empty {rows : List (List UInt8)} {p segs : Nat} (h : OnDisk rows p segs []) : (findTo rows p segs).top = -1 ∧ (findTo rows p segs).head = -1 := by
  obtain ⟨-, h2, -, h4⟩ := findTo_tells rows p segs
  have hn : ∀ a b, ahead segs 0 a b → secAt rows p a b = none := fun a b hab => by
    unfold ahead at hab
    exact h.none a (by omega) (fun s hs => by cases hs) b hab.1
  constructor
  · rcases h2 with h | ⟨a, b, m, x, hab, e, -⟩
    · exact h
    · rw [hn a b hab] at e; cases e
  · rcases h4 with h | ⟨m, x, hab, e, -⟩
    · exact h.1
    · rw [hn _ _ hab] at e; cases e
theorem nsec_pos (n : Nat) : 0 < nsec n := by unfold nsec; omega
theorem find_last {rows : List (List UInt8)} {p segs b0 : Nat} {ks : List Seg} {l : Seg} (hc : Chain segs b0 (ks ++ [l])) (h : OnDisk rows p segs (ks ++ [l])) :
    (findTo rows p segs).slot = l.slot ∧ (findTo rows p segs).head = (l.first : Int) * 8 ∧ 0 ≤ (findTo rows p segs).top ∧ (findTo rows p segs).top / 8 = (l.first : Int) := by
  obtain ⟨h1, h2, h3, h4⟩ := findTo_tells rows p segs
  have hml : l ∈ ks ++ [l] := by simp
  have hls := hc.slot_lt l hml
  have hl0 := (h.on l hml).has 0 (nsec_pos _)
  have hbelow : ∀ s ∈ ks, s.first < l.first := fun s hs => by
    have h1 := (List.pairwise_append.1 hc.rise).2.2 s hs l (by simp)
    have h2 := List.length_pos_iff.2 (hc.full s (List.mem_append_left _ hs))
    unfold Seg.end_ at h1
    omega
  have hsec : ∀ a b m x, a < segs → b < 8 → secAt rows p a b = some (m, x) → m < l.first * 8 ∨ (a = l.slot ∧ m = l.first * 8 + b) := fun a b m x ha hb e => by
    by_cases hs : ∃ s ∈ ks ++ [l], s.slot = a
    · obtain ⟨s, hs, rfl⟩ := hs
      have hon := h.on s hs
      by_cases hn : b < nsec s.text.length
      · have := hon.has b hn
        rw [e] at this
        cases this
        rcases List.mem_append.1 hs with hs | hs
        · have := hbelow s hs; left; omega
        · rw [List.mem_singleton.1 hs]; exact .inr ⟨rfl, rfl⟩
      · have := hon.rest b (by omega) hb m x e
        rcases List.mem_append.1 hs with hs | hs
        · have := hbelow s hs; left; omega
        · rw [List.mem_singleton.1 hs] at this; exact .inl this
    · rw [h.none a ha (fun s hs' e' => hs ⟨s, hs', e'⟩) b hb] at e; cases e
  have hge : (l.first : Int) * 8 ≤ (findTo rows p segs).top := by
    have := h1 l.slot 0 _ _ (by unfold ahead; omega) hl0; omega
  have hhd : (l.first : Int) * 8 ≤ (findTo rows p segs).head := by
    have := h3 l.slot _ _ (by unfold ahead; omega) hl0; omega
  have hslot : (findTo rows p segs).slot = l.slot ∧ (findTo rows p segs).head = (l.first : Int) * 8 := by
    rcases h4 with ⟨e, -⟩ | ⟨m, x, hab, e, e2⟩
    · omega
    · rcases hsec _ 0 m x (by unfold ahead at hab; omega) (by omega) e with h | ⟨h, hm⟩
      · omega
      · exact ⟨h, by omega⟩
  refine ⟨hslot.1, hslot.2, by omega, ?_⟩
  rcases h2 with e | ⟨a, b, m, x, hab, e, e2⟩
  · omega
  · unfold ahead at hab
    rcases hsec a b m x (by omega) hab.1 e with h | ⟨-, hm⟩
    · omega
    · omega
end Go.Proofs.YtpijdefadmfahaaGreatDoor
end
/-
  THE PROGRAM's LOG: collect: its region 'l.kept = append(l.kept, s)'; the segments that were collected so far.
-/
section
namespace Go.Proofs.YtpijdefadmfahaaGreatDoor
open Go Go.RowKit Go.Joins Go.Shelf
/-! ### Segments backwards -/
theorem enc_snoc (d : List SegP) (x : SegP) : encP (d ++ [x]) = encP d ++ x.1.cells x.E := by
  induction d with
  | nil => simp [encP, SegP.enc]
  | cons y d ih => rw [List.cons_append, encP_tail, ih, encP_tail, List.append_assoc]
structure Coll (w0 w : World) (q : Nat) (K : Value) (d : List SegP) : Prop where
  row : w.ownsRow 0 78 3 K d.length (encP d)
  kb : ∀ b, K.ownBlock = some b → w0.heap.size ≤ b
  own : ∀ x ∈ d, w.ownsRow 0 3 1 x.E x.1.recs.length (endsC x.1.recs)
  eb : ∀ x ∈ d, ∀ b, x.E.ownBlock = some b → w0.heap.size ≤ b ∧ K.ownBlock ≠ some b
  two : (d.map SegP.E).Pairwise ApartV
theorem Coll.keep {w0 w w' : World} {q : Nat} {K : Value} {d : List SegP} (h : Coll w0 w q K d) (hk : Keeps (fun b => w0.heap.size ≤ b) w w') : Coll w0 w' q K d :=
  ⟨hk.own h.row h.kb, h.kb, fun x hx => hk.own (h.own x hx) fun b e => (h.eb x hx b e).1, h.eb, h.two⟩
theorem Coll.put {w0 w w1 : World} {q : Nat} {K K' : Value} {d : List SegP} {x : SegP} (h : Coll w0 w q K d) (hx : w.ownsRow 0 3 1 x.E x.1.recs.length (endsC x.1.recs)) (hxb : ∀ b, x.E.ownBlock = some b → w0.heap.size ≤ b ∧ K.ownBlock ≠ some b) (hxd : ∀ y ∈ d, ApartV y.E x.E)
    (hr : w1.ownsRow 0 78 3 K' (d.length + 1) (encP (d ++ [x]))) (hk : Keeps (fun b => K.ownBlock ≠ some b) w w1) (hb : K'.ownBlock = K.ownBlock ∨ ∃ b, K'.ownBlock = some b ∧ w.heap.size ≤ b) (hz : w0.heap.size ≤ w.heap.size) : Coll w0 w1 q K' (d ++ [x]) := by
  have hall : ∀ y ∈ d ++ [x], w.ownsRow 0 3 1 y.E y.1.recs.length (endsC y.1.recs) ∧ ∀ b, y.E.ownBlock = some b → w0.heap.size ≤ b ∧ K.ownBlock ≠ some b := fun y hy => by
    rcases List.mem_append.1 hy with hy | hy
    · exact ⟨h.own y hy, h.eb y hy⟩
    · rw [List.mem_singleton.1 hy]; exact ⟨hx, hxb⟩
  refine ⟨by rw [List.length_append, List.length_singleton]; exact hr, fun b e => ?_, fun y hy => hk.own (hall y hy).1 fun b e => ((hall y hy).2 b e).2, fun y hy b e => ⟨((hall y hy).2 b e).1, fun e2 => ?_⟩, ?_⟩
  · rcases hb with h2 | ⟨c, h2, h3⟩
    · exact h.kb b (by rw [← h2]; exact e)
    · rw [h2] at e; injection e with e; omega
  · rcases hb with h2 | ⟨c, h2, h3⟩
    · exact ((hall y hy).2 b e).2 (by rw [← h2]; exact e2)
    · rw [h2] at e2; injection e2 with e2
      have := ((hall y hy).1.lt b e).2
      omega
  · rw [List.map_append, List.map_cons, List.map_nil]
    refine List.pairwise_append.2 ⟨h.two, by simp, fun a ha b hb2 => ?_⟩
    rw [List.mem_singleton.1 hb2]
    obtain ⟨y, hy, rfl⟩ := List.mem_map.1 ha
    exact hxd y hy
/-! ### l.kept = append(l.kept, s) -/
def LitS (O : Option Nat) (q : Nat) (cs : List Value) : World → Value → Prop := fun w v => ∃ B, v = .slice (some ⟨B, 0, none⟩) 1 1 ∧ O ≠ some B ∧ B ≠ q ∧ w.heap[B]? = some (.cells cs.toArray 78 (0, 0))
def AppS (n0 q : Nat) (O : Option Nat) (m : Nat) (cs : List Value) : World → Value → Prop := fun w v => w.ownsRow 0 78 3 v m cs ∧ (v.ownBlock = O ∨ ∃ b, v.ownBlock = some b ∧ n0 ≤ b) ∧ v.ownBlock ≠ some q
def VC (n0 q : Nat) (K sv : Value) (cs : List Value) (m : Nat) (xs : List Value) : Nat → World → Value → Prop
  | 0 => IsV (.pointer (some ⟨q, 0, none⟩))
  | 1 => IsV (.pointer (some ⟨q, 0, none⟩))
  | 2 => IsV (.pointer (some ⟨q, 0, none⟩))
  | 3 => IsV (.pointer (some ⟨q, 3, none⟩))
  | 4 => IsV K
  | 5 => IsV sv
  | 6 => LitS K.ownBlock q cs
  | 7 => AppS n0 q K.ownBlock m xs
  | 8 => IsV (.pointer (some ⟨q, 0, none⟩))
  | 9 => IsV (.pointer (some ⟨q, 3, none⟩))
  | _ => fun _ _ => True
theorem VC_k {n0 q : Nat} {K sv : Value} {cs : List Value} {m : Nat} {xs : List Value} (G : Nat → Prop) (i : Nat) (hl : i = 6 → ∀ B, K.ownBlock ≠ some B → B ≠ q → G B) (ha : i = 7 → ∀ b, b ≠ q → G b) (w w' : World) (v : Value) (h : Keeps G w w') (hv : VC n0 q K sv cs m xs i w v) : VC n0 q K sv cs m xs i w' v := by
  match i, hv with
  | 0, hv => exact hv
  | 1, hv => exact hv
  | 2, hv => exact hv
  | 3, hv => exact hv
  | 4, hv => exact hv
  | 5, hv => exact hv
  | 6, hv =>
    obtain ⟨B, e, h1, h2, hb⟩ := hv
    exact ⟨B, e, h1, h2, (h.block B (hl rfl B h1 h2) (Array.getElem?_eq_some_iff.1 hb).1).trans hb⟩
  | 7, hv => exact ⟨h.own hv.1 fun b hb => ha rfl b fun e => hv.2.2 (by rw [hb, e]), hv.2⟩
  | 8, hv => exact hv
  | 9, hv => exact hv
  | n + 10, _ => trivial
def SC (wN : World) (q : Nat) (O : Option Nat) (m : Nat) (xs : List Value) : Bool → Bool → World → Prop
  | false, false, w => Kp wN w
  | true, false, w => Keeps (fun b => O ≠ some b) wN w
  | true, true, w => ∃ W1 v, Keeps (fun b => O ≠ some b) wN W1 ∧ AppS wN.heap.size q O m xs W1 v ∧ Kp (W1.setCell ⟨q, 3, none⟩ v) w
  | false, true, _ => False
theorem SC.keep {wN w w' : World} {q : Nat} {O : Option Nat} {m : Nat} {xs : List Value} {b c : Bool} (hs : SC wN q O m xs b c w) (h : Kp w w') : SC wN q O m xs b c w' := by
  cases b <;> cases c
  · exact hs.trans h
  · exact hs
  · exact hs.trans (h.mono fun _ _ _ => trivial)
  · obtain ⟨W1, v, h1, h2, h3⟩ := hs
    exact ⟨W1, v, h1, h2, h3.trans h⟩
theorem SC.kp0 {wN w : World} {q : Nat} {O : Option Nat} {m : Nat} {xs : List Value} {c : Bool} (hs : SC wN q O m xs false c w) : Kp wN w := by
  cases c
  · exact hs
  · exact hs.elim
theorem lits_src {w : World} {B : Nat} {cs : List Value} (hb : w.heap[B]? = some (.cells cs.toArray 78 (0, 0))) (hl : cs.length = 3) (h1 : ∀ v ∈ cs, v.oneCell' = true) : Src Tryz.prog 3 74 (.slice (some ⟨B, 0, none⟩) 1 1) 1 cs w :=
  Src.ofSlice _ Tryz.underlying74 ⟨B, 0, none⟩ 1 1 _ (by rw [hl]) (fun j v hv => by
    rw [WideShapes.add_plain, Nat.zero_add]
    exact (cell_of_block hb j).trans (by rw [← hv]; simp)) h1
theorem kp_oneS {w : World} {o : Oper} {a : Act} {Q : Exit → Act → World → Prop} {x : Operand} {v0 v1 v2 : Value} (_h0 : v0.oneCell' = true) (_h1 : v1.oneCell' = true) (_h2 : v2.oneCell' = true) (ho : o.op = .buildSlice 74 1 #[(0, x)]) (hx : a.eval x = .agg #[v0, v1, v2]) : o.wp Tryz.prog a w (fun a' w' => ∃ v, a' = a.put o.dst v ∧ Kp w w' ∧ (v = .slice (some ⟨w.heap.size, 0, none⟩) 1 1 ∧ w' = w.alloc (.cells #[v0, v1, v2] 78))) Q := by
  refine kp_yield (V := fun w' v => v = .slice (some ⟨w.heap.size, 0, none⟩) 1 1 ∧ w' = w.alloc (.cells #[v0, v1, v2] 78)) (v := .slice (some ⟨w.heap.size, 0, none⟩) 1 1) (w' := w.alloc (.cells #[v0, v1, v2] 78)) ?_ ((Keeps.refl _ w).alloc _) ⟨rfl, rfl⟩
  generalize a.eval = ρ at hx
  unfold execOp
  go_simp
end Go.Proofs.YtpijdefadmfahaaGreatDoor
end
/-
  THE PROGRAM's LOG: collect.
-/
section
namespace Go.Proofs.YtpijdefadmfahaaGreatDoor
open Go Go.RowKit Go.Joins Go.Shelf
theorem mod_back (x n : Nat) (hx : 1 ≤ x) (hn : 1 ≤ n) : (x % n + n - 1) % n = (x - 1) % n := by
  have e1 : x % n + n - 1 = x % n + (n - 1) := by omega
  have e2 : x + (n - 1) = (x - 1) + n := by omega
  rw [e1, Nat.mod_add_mod, e2, Nat.add_mod_right]
theorem rev_lt {n j : Nat} (h : j < n) : n - 1 - j < n := by omega
def slotBack (b0 n m j : Nat) : Nat := (b0 + n + m - 1 - j) % n
theorem slotBack_at {n b0 : Nat} {ks : List Seg} (h : Chain n b0 ks) (j : Nat) (hj : j < ks.length) : slotBack b0 n ks.length j = (ks[ks.length - 1 - j]'(rev_lt hj)).slot := by
  rw [h.slot]
  unfold slotBack
  rw [show b0 + n + ks.length - 1 - j = b0 + (ks.length - 1 - j) + n by omega, Nat.add_mod_right]
theorem slotBack_next {n b0 m j : Nat} (hn : 1 ≤ n) (_hm : 1 ≤ m) (hj : j < m) : (slotBack b0 n m j + n - 1) % n = slotBack b0 n m (j + 1) := by
  unfold slotBack
  rw [mod_back _ _ (by omega) hn, show b0 + n + m - 1 - j - 1 = b0 + n + m - 1 - (j + 1) by omega]
theorem Coll.rev {w0 w w' : World} {q g c : Nat} {d : List SegP} (h : Coll w0 w q (.slice (some ⟨g, 0, none⟩) d.length c) d) (hr : w'.ownsRow 0 78 3 (.slice (some ⟨g, 0, none⟩) d.length c) d.length (encP d.reverse)) (hg : w.grownBy w' (some g)) : Coll w0 w' q (.slice (some ⟨g, 0, none⟩) d.length c) d.reverse := by
  have hk : Keeps (fun b => b ≠ g) w w' := Keeps.of_grown hg fun b hb _ hn => hn (by injection hb with hb; exact hb.symm)
  refine ⟨by rw [List.length_reverse]; exact hr, h.kb, fun x hx => hk.own (h.own x (List.mem_reverse.1 hx)) fun b e e2 => (h.eb x (List.mem_reverse.1 hx) b e).2 (by rw [e2]; rfl), fun x hx => h.eb x (List.mem_reverse.1 hx), ?_⟩
  rw [List.map_reverse]
  exact List.pairwise_reverse.2 (h.two.imp fun h => h.symm)
theorem rev_exit (w wr : World) (q p i n g c cs nx : Nat) (d : List SegP) (ks : List Seg) (hdl : d.length ≤ 200) (hq : q < w.heap.size) (hcol : Coll w wr q (.slice (some ⟨g, 0, none⟩) d.length c) d) (hblk : LBlk wr q p i n (.slice (some ⟨g, 0, none⟩) d.length c) cs 0 (.slice none 0 0) nx) (hkw : Keeps (fun b => b ≠ q) w wr) (hdr : d.map Prod.fst = ks.reverse) :
    ∀ W, Kp wr W → Calls Tryz.prog 70 #[.slice (some ⟨g, 0, none⟩) d.length c] W fun e w' => e = .returned (.tuple #[]) ∧
      ∃ (K : Value) (d' : List SegP), d'.map Prod.fst = ks ∧ LBlk w' q p i n K cs 0 (.slice none 0 0) nx ∧ Coll w w' q K d' ∧ Keeps (fun b => b ≠ q) w w' := by
  intro W hW
  have hc := hcol.keep (hW.mono fun _ _ _ => trivial)
  refine (reverse_any W g c d.length d rfl hc.row (by omega)).mono ?_
  rintro e w' ⟨rfl, ho, hg⟩
  have hgw : w.heap.size ≤ g := hcol.kb g rfl
  have hk : Keeps (fun b => b ≠ g) W w' := Keeps.of_grown hg fun b hb _ hn => hn (by injection hb with hb; exact hb.symm)
  refine ⟨rfl, _, d.reverse, by rw [List.map_reverse, hdr, List.reverse_reverse], (hblk.keep hW trivial).keep hk (by show q ≠ g; omega), hc.rev ho hg, keeps_on (keeps_on hkw hW fun _ _ _ => trivial) hk fun b hl _ => by show b ≠ g; omega⟩
theorem Coll.nil (w w' : World) (q : Nat) : Coll w w' q (.slice none 0 0) [] where
  row := World.ownsRow_nil _ _ _ _
  kb := fun _b e => nomatch e
  own := fun _x hx => nomatch hx
  eb := fun _x hx => nomatch hx
  two := List.Pairwise.nil
set_option maxRecDepth 100000 in
set_option maxHeartbeats 2000000 in
theorem collect_any (w : World) (hT : Taken w) (q p i n : Nat) (nx : Nat) (sl0 : Nat) (hB : LBlk w q p i n (.slice none 0 0) sl0 0 (.slice none 0 0) nx) (F : Foot) (s : SDev) (hd : DAt w p F s) (hq : ¬ F.all q) (hqt : 0 ≠ q) (ks : List Seg) (b0 : Nat) (hch : Chain n b0 ks) (m : Nat) (hm : ks.length = m) (hm1 : 1 ≤ m) (hon : OnDisk s.now i n ks)
    (hi : i ≤ 2048) (hn : n ≤ 200) (hin : i + 8 * n ≤ s.now.length) (hf : ∀ sg ∈ ks, sg.first ≤ 274877906943) (hend : ∀ sg ∈ ks, sg.end_ ≤ nx) (hnx : nx ≤ 549755813888) (ls : Nat) (hls : ls = slotBack b0 n m 0) :
    Calls Tryz.prog 47 #[.pointer (some ⟨q, 0, none⟩), .int .i64 (ls : Int)] w fun e w' => (∃ v, e = .returned v) ∧
      ∃ (K : Value) (d : List SegP), d.map Prod.fst = ks ∧ LBlk w' q p i n K ((b0 + m) % n) 0 (.slice none 0 0) nx ∧ Coll w w' q K d ∧ Keeps (fun b => b ≠ q) w w' := by
  have hmn : m ≤ n := by rw [← hm]; exact hch.len
  have hqlt : q < w.heap.size := (Array.getElem?_eq_some_iff.1 hB).1
  have HKD := Lib.hid (fun (W : World) (hk : Keeps (fun b => b ≠ q) w W) => hd.keep (hk.mono fun b _ hb e => hq (by rw [← e]; exact hb)))
  have HKT := Lib.hid (show ∀ W, Keeps (fun b => b ≠ q) w W → Taken W from fun W hk k hk16 => hk.cell (hT k hk16) hqt)
  have HYES := Lib.hid (fun (W : World) (hk : Keeps (fun b => b ≠ q) w W) (hL : LHead W q p i n) (j : Nat) (hj : j < ks.length) =>
    segm_yes W (HKT.out W hk) q p i n hL F s (HKD.out W hk) (ks[ks.length - 1 - j]'(rev_lt hj)) (hch.ok _ (List.getElem_mem _)) (hch.full _ (List.getElem_mem _)) (hon.on _ (List.getElem_mem _)) hi (by have := hch.slot_lt _ (List.getElem_mem (rev_lt hj)); omega) (hf _ (List.getElem_mem _)) (by have := hch.slot_lt _ (List.getElem_mem (rev_lt hj)); omega))
  have hnob : m < n → secAt s.now i (slotBack b0 n m m) 0 = none := fun hlt => by
    refine hon.none _ (Nat.mod_lt _ (by omega)) (fun sg hsg e => ?_) 0 (by decide)
    obtain ⟨t, ht, rfl⟩ := List.getElem_of_mem hsg
    rw [hch.slot t ht] at e
    have hb := hch.base
    have e : (b0 + t) % n = (b0 + n + m - 1 - m) % n := e
    rw [show b0 + n + m - 1 - m = b0 + (n - 1) by omega] at e
    have e1 : (b0 + t) % n = if b0 + t < n then b0 + t else b0 + t - n := by
      split
      · exact Nat.mod_eq_of_lt (by assumption)
      · rw [Nat.mod_eq_sub_mod (by omega), Nat.mod_eq_of_lt (by omega)]
    have e2 : (b0 + (n - 1)) % n = if b0 + (n - 1) < n then b0 + (n - 1) else b0 + (n - 1) - n := by
      split
      · exact Nat.mod_eq_of_lt (by assumption)
      · rw [Nat.mod_eq_sub_mod (by omega), Nat.mod_eq_of_lt (by omega)]
    rw [e1, e2] at e
    split at e <;> split at e <;> omega
  have HNO := Lib.hid (fun (W : World) (hk : Keeps (fun b => b ≠ q) w W) (hL : LHead W q p i n) (hlt : m < n) => segm_no W (HKT.out W hk) q p i n hL F s (HKD.out W hk) (slotBack b0 n m m) hi (by have := Nat.mod_lt (b0 + n + m - 1 - m) (show 0 < n by omega); unfold slotBack; omega) (by have := Nat.mod_lt (b0 + n + m - 1 - m) (show 0 < n by omega); unfold slotBack; omega) (hnob hlt))
  have HSB := Lib.hid (fun (j : Nat) (hj : j < ks.length) => slotBack_at hch j hj)
  have HSN := Lib.hid (fun (j : Nat) (hj : j < m) => slotBack_next (b0 := b0) (n := n) (by omega) hm1 hj)
  have HSL := Lib.hid (show ∀ j, slotBack b0 n m j < n from fun j => Nat.mod_lt _ (by omega))
  have HEND := Lib.hid hend
  have HM := Lib.hid hm
  have HB := Lib.hid hB
  have HLS := Lib.hid hls
  have HCNT := Lib.hid (fun sg (h : sg ∈ ks) => (hch.ok sg h).count)
  have HFULL := Lib.hid (fun sg (h : sg ∈ ks) => List.length_pos_iff.2 (hch.full sg h))
  have HRISE := Lib.hid hch.rise
  have HF := Lib.hid hf
  have HBM := Lib.hid (show ((slotBack b0 n m 0) + 1) % n = (b0 + m) % n from by
    unfold slotBack
    rw [Nat.mod_add_mod, show b0 + n + m - 1 - 0 + 1 = b0 + m + n by omega, Nat.add_mod_right])
  have c2 := (cell_of_block hB 2).trans rfl
  have c4 := (cell_of_block hB 4).trans rfl
  have f4 := unfrozen_of_block hB 4
  have c7 := (cell_of_block hB 7).trans rfl
  have hb1 := block_setCell hB (i := 4) (.int .i64 (ls : Int))
  have hk1 : Keeps (fun b => b ≠ q) w (w.setCell ⟨q, 4, none⟩ (.int .i64 (ls : Int))) := (Keeps.refl _ w).setCell (.inr fun hn => hn rfl) _
  have HB1 := Lib.hid (show LBlk (w.setCell ⟨q, 4, none⟩ (.int .i64 (ls : Int))) q p i n (.slice none 0 0) ls 0 (.slice none 0 0) nx from hb1)
  have HK1 := Lib.hid hk1
  clear hT hB hd hq hqt hch hon hf hend hm hls hb1 hk1 hnob hin
  go_enter Tryz.func47, Tryz.ntmps47
  go_wp2_with fail
  go_loopw [1, 4, 20] (fun v1 v4 vi wr => ∃ (j f cs : Nat) (K : Value) (d : List SegP), j ≤ m ∧ vi = .int .i64 j ∧ v1 = .int .i64 ((slotBack b0 n m j : Nat) : Int) ∧ v4 = .int .i64 (f : Int) ∧ f ≤ 549755813888 ∧ RowKit.Hid (∀ t (ht : t < ks.length), t + j < m → (ks[t]).end_ ≤ f) ∧ RowKit.Hid (d.map Prod.fst = ks.reverse.take j) ∧
      RowKit.Hid (LBlk wr q p i n K cs 0 (.slice none 0 0) nx) ∧ RowKit.Hid ((j = 0 → cs = ls) ∧ (0 < j → cs = (b0 + m) % n)) ∧ RowKit.Hid (Coll w wr q K d) ∧ RowKit.Hid (Keeps (fun b => b ≠ q) w wr)) (fun _ _ vi _ => n - (intOf vi).toNat)
  case atStart => exact ⟨0, nx, ls, .slice none 0 0, [], Nat.zero_le _, rfl, by rw [HLS.out], rfl, hnx, Lib.hid (fun t ht _ => HEND.out _ (List.getElem_mem _)), Lib.hid rfl, HB1, Lib.hid ⟨fun _ => rfl, fun h => absurd h (by decide)⟩, Lib.hid (Coll.nil _ _ _), HK1⟩
  case round =>
    obtain ⟨j, f, cs, K, d, hj, rfl, rfl, rfl, hfb, hfs, hds, hblk, hcs, hcol, hkw⟩ := hrel
    have hbq : q < wr.heap.size := (Array.getElem?_eq_some_iff.1 hblk.out).1
    obtain ⟨AK, cK, rfl⟩ := own_form hcol.out.row
    have hdl : d.length = j := by
      have := congrArg List.length hds.out
      rw [List.length_map, List.length_take, List.length_reverse, HM.out] at this
      omega
    have hzw : w.heap.size ≤ wr.heap.size := hkw.out.size
    by_cases hjn : j < n
    · have tjn : decide ((j : Int) < (n : Int)) = true := by simp; omega
      by_cases hjm : j < m
      · have hjk : j < ks.length := by rw [HM.out]; exact hjm
        obtain ⟨sg, hsg⟩ : ∃ sg, ks[ks.length - 1 - j]'(rev_lt hjk) = sg := ⟨_, rfl⟩
        have hsl : slotBack b0 n m j = sg.slot := by rw [← hsg, ← HSB.out j hjk, HM.out]
        have hmem : sg ∈ ks := hsg ▸ List.getElem_mem _
        have hcall := HYES.out wr hkw.out hblk.out.head j hjk
        rw [hsg] at hcall
        have hefs := hfs.out _ (rev_lt hjk) (by rw [HM.out]; omega)
        rw [hsg] at hefs
        unfold Seg.end_ at hefs
        have hcnt := HCNT.out sg hmem
        have hpos := HFULL.out sg hmem
        have hfirst := HF.out sg hmem
        obtain ⟨rl, hrl⟩ : ∃ rl, sg.recs.length = rl := ⟨_, rfl⟩
        rw [hrl] at hcall hefs hcnt hpos
        have HCALL := Lib.hid hcall
        have HSG := Lib.hid hsg
        have HSLT := Lib.hid hsl
        have HRL := Lib.hid hrl
        have hslb : sg.slot < n := by rw [← hsl]; exact HSL.out j
        have HNX := Lib.hid (HSN.out j hjm)
        have tgt : decide ((f : Int) < (sg.first : Int) + (rl : Int)) = false := by simp; omega
        have tpos : decide ((0 : Int) < (rl : Int)) = true := by simp; omega
        have tpos2 : decide (0 < rl) = true := by simp; omega
        rw [hsl]
        clear hcall hsg hsl hrl
        go_wp2_with fail
        refine HCALL.out.mono ?_
        rintro e w1 ⟨A, c, rfl, ho1, hk1⟩
        have HO1 := Lib.hid ho1
        have HK1' := Lib.hid hk1
        clear ho1 hk1
        go_wp2_with fail
        refine (snext_any _ sg.slot sg.first A rl c (by omega) (by omega)).mono ?_
        rintro e w3 ⟨rfl, hk3⟩
        have hbox := heap_alloc_new w1 (.cells #[.int .i64 (sg.slot : Int), .int .i64 (sg.first : Int), .slice A rl c] 78)
        have hw12 : Kp w1 (w1.alloc (.cells #[.int .i64 (sg.slot : Int), .int .i64 (sg.first : Int), .slice A rl c] 78)) := (Keeps.refl _ w1).alloc _
        have hb3 := (hk3.block w1.heap.size trivial (by simp)).trans hbox
        have x0 := (cell_of_block hb3 0).trans rfl
        have x1 := (cell_of_block hb3 1).trans rfl
        have x2 := (cell_of_block hb3 2).trans rfl
        have HB3 := Lib.hid hb3
        have HK3 := Lib.hid (show Kp wr w3 from HK1'.out.trans (hw12.trans hk3))
        have hz1 := HK1'.out.size
        have hz3 : w1.heap.size < w3.heap.size := (Array.getElem?_eq_some_iff.1 hb3).1
        have HO3 := Lib.hid ((hw12.trans hk3).own HO1.out fun _ _ => trivial)
        clear hk3 hbox hw12 hb3
        go_wp2_with fail
        refine (count_any _ (.int .i64 (sg.slot : Int)) (.int .i64 (sg.first : Int)) A rl c rfl rfl).mono ?_
        rintro e w4 ⟨rfl, hk4⟩
        have hb4 := (hk4.block w1.heap.size trivial hz3).trans HB3.out
        have x0 := (cell_of_block hb4 0).trans rfl
        have x1 := (cell_of_block hb4 1).trans rfl
        have x2 := (cell_of_block hb4 2).trans rfl
        have HB4 := Lib.hid hb4
        have HK4 := Lib.hid (HK3.out.trans hk4)
        have HO4 := Lib.hid (hk4.own HO3.out fun _ _ => trivial)
        have hz4 : w3.heap.size ≤ w4.heap.size := hk4.size
        have hblk4 := hblk.out.keep HK4.out trivial
        have HBLK4 := Lib.hid hblk4
        have c3 := (cell_of_block hblk4 3).trans rfl
        clear hk4 hb4 hblk4
        go_wp2_with fail
        have hOlt : ∀ b, (Value.slice AK d.length cK).ownBlock = some b → w.heap.size ≤ b ∧ b < wr.heap.size := fun b e => ⟨hcol.out.kb b e, (hcol.out.row.lt b e).2⟩
        have HOLT := Lib.hid hOlt
        have HROW4 := Lib.hid (HK4.out.own hcol.out.row fun _ _ => trivial)
        have hz4r : wr.heap.size ≤ w4.heap.size := HK4.out.size
        have HC3 := Lib.hid c3
        have HX0 := Lib.hid x0
        have HX1 := Lib.hid x1
        have HX2 := Lib.hid x2
        refine wp_region_two (V := VC w4.heap.size q (.slice AK d.length cK) (.agg #[.int .i64 (sg.slot : Int), .int .i64 (sg.first : Int), .slice A rl c]) [.int .i64 (sg.slot : Int), .int .i64 (sg.first : Int), .slice A rl c] (d.length + 1) (encP d ++ [.int .i64 (sg.slot : Int), .int .i64 (sg.first : Int), .slice A rl c])) (w0 := w4) 7 10 (SC w4 q (Value.slice AK d.length cK).ownBlock (d.length + 1) (encP d ++ [.int .i64 (sg.slot : Int), .int .i64 (sg.first : Int), .slice A rl c])) (fun a b => Keeps (fun x => (Value.slice AK d.length cK).ownBlock ≠ some x) a b) (fun a b => Keeps (fun x => x ≠ q) a b) GE (by kernel_rfl) (fun i w w' v h hv => VC_k (fun _ => True) i (fun _ _ _ _ => trivial) (fun _ _ _ => trivial) w w' v h hv) (fun b c w w' h hs => hs.keep h)
          (fun i hi w w' v h hv => VC_k _ i (fun _ B h1 _ => h1) (fun e => absurd e hi) w w' v h hv) (fun i _ w w' v h hv => VC_k _ i (fun _ B _ h2 => h2) (fun _ b hb => hb) w w' v h hv) (by kernel_rfl) (by kernel_rfl) (by decide) (by decide) GE_is (fun i o ho hw => (all_wanted (by kernel_rfl) ho hw).elim) (Keeps.refl _ w4).drew (each_of ?_) ?_
        · refine ⟨?_, ?_, ?_, ?_, ?_, ?_, ?_, ?_, ?_, ?_, ?_, trivial⟩ <;> intro hw a2 w7 Z
          · rw [if_neg (by decide), if_neg (by decide)]
            intro b c hs _ _
            exact kp_move rfl (Z.old 0 (by kernel_rfl))
          · rw [if_neg (by decide), if_neg (by decide)]
            intro b c hs _ _
            exact kp_move rfl (Z.old 0 (by kernel_rfl))
          · rw [if_neg (by decide), if_neg (by decide)]
            intro b c hs _ _
            exact kp_nilL rfl (Z.val 1 43 (by kernel_rfl) (by kernel_rfl))
          · rw [if_neg (by decide), if_neg (by decide)]
            intro b c hs _ _
            exact kp_fL3 rfl (Z.val 2 44 (by kernel_rfl) (by kernel_rfl))
          · rw [if_neg (by decide), if_neg (by decide)]
            intro b c hs _ hb
            obtain rfl := hb [] (by kernel_rfl)
            exact kp_lK (hs.kp0.cell HC3.out trivial) rfl (Z.val 3 45 (by kernel_rfl) (by kernel_rfl))
          · rw [if_neg (by decide), if_neg (by decide)]
            intro b c hs _ hb
            obtain rfl := hb [6] (by kernel_rfl)
            exact kp_lG (hs.kp0.cell HX0.out trivial) (hs.kp0.cell HX1.out trivial) (hs.kp0.cell HX2.out trivial) rfl (Z.old 6 (by kernel_rfl))
          · rw [if_neg (by decide), if_neg (by decide)]
            intro b c hs _ hb
            obtain rfl := hb [] (by kernel_rfl)
            refine Oper.wp_mono (fun a' w' hk' => ?_) (kp_oneS rfl rfl rfl rfl (Z.val 5 47 (by kernel_rfl) (by kernel_rfl)))
            obtain ⟨v, rfl, hk, rfl, rfl⟩ := hk'
            have h1 := hs.kp0.size
            exact ⟨_, rfl, hk, _, rfl, fun e => by have := (HOLT.out _ e).2; omega, by omega, heap_alloc_new w7 _⟩
          · rw [if_pos rfl]
            intro hs
            have hs : Kp w4 w7 := hs
            have e4 : a2.eval (.tmp 46) = .slice AK d.length cK := Z.val 4 46 (by kernel_rfl) (by kernel_rfl)
            obtain ⟨B, e6, h1, h2, hbB⟩ := (show LitS (Value.slice AK d.length cK).ownBlock q [.int .i64 (sg.slot : Int), .int .i64 (sg.first : Int), .slice A rl c] w7 (a2.eval (.tmp 48)) from Z.val 6 48 (by kernel_rfl) (by kernel_rfl))
            refine seg_elem.wp_append (.tmp 46) (.tmp 48) 74 rfl e4 (hs.own HROW4.out fun _ _ => trivial) e6 (lits_src hbB rfl (by simp [Value.oneCell'])) (by unfold maxLen; omega) (by omega) (Nat.zero_le _) ?_
            intro v' w' ho hg hb
            have hgr : Keeps (fun x => (Value.slice AK d.length cK).ownBlock ≠ some x) w7 w' := Keeps.of_grown hg fun x hx _ hn => hn hx
            refine ⟨v', rfl, hgr, (hs.mono fun _ _ _ => trivial).trans hgr, ho, ?_, ?_⟩
            · exact hb.imp id fun e => ⟨_, e, hs.size⟩
            · intro e
              rcases hb with h | h
              · rw [h] at e; have := HOLT.out q e; omega
              · rw [h] at e; injection e with e; have := hs.size; omega
          · rw [if_neg (by decide), if_neg (by decide)]
            intro b c hs _ _
            exact kp_nilL rfl (Z.val 0 42 (by kernel_rfl) (by kernel_rfl))
          · rw [if_neg (by decide), if_neg (by decide)]
            intro b c hs _ _
            exact kp_fL3 rfl (Z.val 8 50 (by kernel_rfl) (by kernel_rfl))
          · rw [if_neg (by decide), if_pos rfl]
            intro hs
            have hs : Keeps (fun x => (Value.slice AK d.length cK).ownBlock ≠ some x) w4 w7 := hs
            have hap : AppS w4.heap.size q (Value.slice AK d.length cK).ownBlock (d.length + 1) (encP d ++ [.int .i64 (sg.slot : Int), .int .i64 (sg.first : Int), .slice A rl c]) w7 (a2.eval (.tmp 49)) := Z.val 7 49 (by kernel_rfl) (by kernel_rfl)
            have hqO : (Value.slice AK d.length cK).ownBlock ≠ some q := fun e => by have := HOLT.out q e; omega
            have hb7 := HBLK4.out.keep hs hqO
            obtain ⟨A9, c9, e9⟩ := own_form hap.1
            refine Oper.wp_mono (fun a' w' hk' => ?_) (one_cell 74 rfl (by kernel_rfl) ⟨q, 3, none⟩ (a2.eval (.tmp 49)) _ (by rw [e9]; rfl) ((cell_of_block hb7 3).trans rfl) (unfrozen_of_block hb7 3) (Z.val 9 51 (by kernel_rfl) (by kernel_rfl)) rfl)
            obtain ⟨v, rfl, rfl⟩ := hk'
            exact ⟨v, rfl, (Keeps.refl _ w7).setCell (.inr fun hn => hn rfl) _, ⟨w7, _, hs, hap, Keeps.refl _ _⟩, trivial⟩
        · intro vs4 wE hsE hlenE hvE
          match vs4, hlenE with
          | [y0, y1, y2, y3, y4, y5, y6, y7, y8, y9, y10], _ =>
            clear hvE
            simp only [putAll, List.map, Act.put, List.setIfInBounds_toArray, List.set_cons_succ, List.set_cons_zero, Exit.then]
            obtain ⟨W1, v, hkW, hap, hkE⟩ := hsE
            have hqO : (Value.slice AK d.length cK).ownBlock ≠ some q := fun e => by have := HOLT.out q e; omega
            have hcE : Coll w wE q v (d ++ [(sg, (A, c))]) := by
              have hxE : (SegP.E (sg, (A, c))) = .slice A rl c := by show Value.slice A sg.recs.length c = _; rw [HRL.out]
              have hx4 : w4.ownsRow wr.heap.size 3 1 (SegP.E (sg, (A, c))) sg.recs.length (endsC sg.recs) := by rw [hxE, HRL.out]; exact HO4.out
              have hp : Coll w W1 q v (d ++ [(sg, (A, c))]) := (hcol.out.keep (HK4.out.mono fun _ _ _ => trivial)).put (ownsRow_le hx4 (Nat.zero_le _)) (fun b e => ⟨by have := (hx4.lt b e).1; omega, fun e2 => by have h1 := (hx4.lt b e).1; have h2 := (HOLT.out b e2).2; omega⟩)
                (fun y hy b e e2 => by have h1 := ((hcol.out.own y hy).lt b e).2; have h2 := (hx4.lt b e2).1; omega) (by rw [enc_snoc, hxE]; exact hap.1) hkW hap.2.1 (by omega)
              exact (hp.keep ((Keeps.refl _ W1).setCell (.inr fun hn => by have hn : w.heap.size ≤ q := hn; omega) _)).keep (hkE.mono fun _ _ _ => trivial)
            obtain ⟨Av, cv, rfl⟩ := own_form hap.1
            have hbE : LBlk wE q p i n (.slice Av (d.length + 1) cv) cs 0 (.slice none 0 0) nx := LBlk.keep (G := fun _ => True) (show LBlk (W1.setCell ⟨q, 3, none⟩ (.slice Av (d.length + 1) cv)) q p i n (.slice Av (d.length + 1) cv) cs 0 (.slice none 0 0) nx from block_setCell (HBLK4.out.keep hkW hqO) (i := 3) (.slice Av (d.length + 1) cv)) hkE trivial
            have hkg : Keeps (fun b => b ≠ q) W1 (W1.setCell ⟨q, 3, none⟩ (.slice Av (d.length + 1) cv)) := (Keeps.refl _ W1).setCell (.inr fun hn => hn rfl) _
            have hall : Keeps (fun b => b ≠ q ∧ (Value.slice AK d.length cK).ownBlock ≠ some b) w4 wE := keeps_on (keeps_on (hkW.mono fun _ _ hb => hb.2) hkg fun _ _ hb => hb.1) hkE fun _ _ _ => trivial
            have hkwE : Keeps (fun b => b ≠ q) w wE := keeps_on (keeps_on hkw.out HK4.out fun _ _ _ => trivial) hall fun b hl hb => ⟨hb, fun e => by have := (HOLT.out b e).1; omega⟩
            have hbx := (hall.block w1.heap.size ⟨by omega, fun e => by have := (HOLT.out _ e).2; omega⟩ (by omega)).trans HB4.out
            have x0 := (cell_of_block hbx 0).trans rfl
            have x1 := (cell_of_block hbx 1).trans rfl
            have x2 := (cell_of_block hbx 2).trans rfl
            have HCE := Lib.hid hcE
            have HBE := Lib.hid hbE
            have HKWE := Lib.hid hkwE
            have hds' : (d ++ [(sg, (A, c))]).map Prod.fst = ks.reverse.take (j + 1) := by
              rw [List.map_append, hds.out, take_next ks.reverse j (by rw [List.length_reverse]; exact hjk), List.getElem_reverse]
              rw [HSG.out]
              rfl
            have HDS := Lib.hid hds'
            have HFS := Lib.hid (show ∀ t (ht : t < ks.length), t + (j + 1) < m → (ks[t]).end_ ≤ sg.first from fun t ht htj => by
              have hh := List.pairwise_iff_getElem.1 HRISE.out t (ks.length - 1 - j) ht (rev_lt hjk) (by rw [HM.out]; omega)
              rw [HSG.out] at hh
              exact hh)
            have hqE : q < wE.heap.size := (Array.getElem?_eq_some_iff.1 hbE).1
            have hw1E : w1.heap.size < wE.heap.size := (Array.getElem?_eq_some_iff.1 hbx).1
            clear hkW hap hkE hcE hbE hkg hall hkwE hbx hds' HROW4 HC3 HX0 HX1 HX2 HO4 HB4 HBLK4
            have qm : ((sg.slot : Int) + (n : Int) - 1).tmod (n : Int) = ((slotBack b0 n m (j + 1) : Nat) : Int) := by
              have h1 := HNX.out
              rw [HSLT.out] at h1
              rw [Int.tmod_eq_emod_of_nonneg (by omega), ← h1]
              have e : (sg.slot : Int) + (n : Int) - 1 = ((sg.slot + n - 1 : Nat) : Int) := by omega
              rw [e]; rfl
            have hsb1 : slotBack b0 n m (j + 1) < n := HSL.out (j + 1)
            obtain ⟨sb, hsb⟩ : ∃ sb, slotBack b0 n m (j + 1) = sb := ⟨_, rfl⟩
            have HSBX := Lib.hid hsb
            rw [hsb] at qm hsb1
            clear hsb
            by_cases hj0 : j = 0
            · have t10 : ((j : Int) == 0) = true := by simp [hj0]
              have HJ0 := Lib.hid hj0
              clear hj0
              go_wp2_with fail
              refine (count_any _ (.int .i64 (sg.slot : Int)) (.int .i64 (sg.first : Int)) A rl c rfl rfl).mono ?_
              rintro e w5 ⟨rfl, hk5⟩
              have hb5 := HBE.out.keep hk5 trivial
              have hbh := behind_any w5 q p i n hb5.head sg.slot (by omega) (by omega) (by omega)
              have hrr : (sg.slot + 1) % n = (b0 + m) % n := by
                rw [← HBM.out, ← HSLT.out, HJ0.out]
              rw [hrr] at hbh
              obtain ⟨rr, hrr2⟩ : ∃ rr, (b0 + m) % n = rr := ⟨_, rfl⟩
              rw [hrr2] at hbh
              have HRR := Lib.hid hrr2
              have HBH := Lib.hid hbh
              have c4 := (cell_of_block hb5 4).trans rfl
              have f4 := unfrozen_of_block hb5 4
              have hb6 : LBlk (w5.setCell ⟨q, 4, none⟩ (.int .i64 (rr : Int))) q p i n (.slice Av (d.length + 1) cv) rr 0 (.slice none 0 0) nx := block_setCell hb5 (i := 4) (.int .i64 (rr : Int))
              have HB6 := Lib.hid hb6
              have HC6 := Lib.hid ((HCE.out.keep (hk5.mono fun _ _ _ => trivial)).keep ((Keeps.refl _ w5).setCell (p := ⟨q, 4, none⟩) (.inr fun hn => by have hn : w.heap.size ≤ q := hn; omega) (.int .i64 (rr : Int))))
              have HK6 := Lib.hid (show Keeps (fun b => b ≠ q) w (w5.setCell ⟨q, 4, none⟩ (.int .i64 (rr : Int))) from (keeps_on HKWE.out hk5 fun _ _ _ => trivial).setCell (.inr fun hn => hn rfl) _)
              clear hk5 hb5 hbh hrr hrr2 hb6
              go_wp2_with fail
              refine HBH.out.mono ?_
              rintro e w9 ⟨rfl, rfl⟩
              go_wp2_with fail
              generalize w5.setCell ⟨q, 4, none⟩ (.int .i64 (rr : Int)) = wX at HB6 HC6 HK6 ⊢
              have c2 := (cell_of_block HB6.out 2).trans rfl
              go_region
              go_wp2_with fail
              go_roundw
              case rel => exact ⟨j + 1, sg.first, rr, _, d ++ [(sg, (A, c))], by omega, by go_num, by rw [HSBX.out], rfl, by omega, HFS, HDS, Lib.hid (HB6.out.keep (Keeps.refl (fun _ => True) _).drew trivial), Lib.hid ⟨fun h => by omega, fun _ => HRR.out.symm⟩, Lib.hid (HC6.out.keep (Keeps.refl _ _).drew), Lib.hid (keeps_on HK6.out (Keeps.refl (fun _ => True) _).drew fun _ _ _ => trivial)⟩
              case measure => simp [intOf]; omega
            · have t10 : ((j : Int) == 0) = false := by simp [hj0]
              have HJ0 := Lib.hid (show 0 < j by omega)
              have hcs2 := hcs.out.2 (by omega)
              have HCS2 := Lib.hid hcs2
              clear hj0 hcs2
              have c2 := (cell_of_block HBE.out 2).trans rfl
              go_wp2_with fail
              go_region
              go_wp2_with fail
              go_roundw
              case rel => exact ⟨j + 1, sg.first, cs, _, d ++ [(sg, (A, c))], by omega, by go_num, by rw [HSBX.out], rfl, by omega, HFS, HDS, Lib.hid (HBE.out.keep (Keeps.refl (fun _ => True) _).drew trivial), Lib.hid ⟨fun h => by omega, fun _ => HCS2.out⟩, Lib.hid (HCE.out.keep (Keeps.refl _ _).drew), Lib.hid (keeps_on HKWE.out (Keeps.refl (fun _ => True) _).drew fun _ _ _ => trivial)⟩
              case measure => simp [intOf]; omega
      · obtain rfl : j = m := by omega
        have hdr : d.map Prod.fst = ks.reverse := by rw [hds.out, List.take_of_length_le (by rw [List.length_reverse, HM.out]; omega)]
        obtain ⟨g, c', hform, -, -⟩ := hcol.out.row.form (by omega)
        injection hform with e1 _ e3
        subst e1 e3
        have hcsv : cs = (b0 + j) % n := hcs.out.2 (by omega)
        have HREV := Lib.hid (rev_exit w wr q p i n g cK cs nx d ks (by omega) hqlt hcol.out hblk.out hkw.out hdr)
        have HCSV := Lib.hid hcsv
        clear hcsv
        have hno := HNO.out wr hkw.out hblk.out.head hjn
        have HNOC := Lib.hid hno
        have hdl200 : d.length ≤ 200 := by omega
        clear hdr hno hds hcs hcol hkw hdl
        generalize slotBack b0 n j j = sb at HNOC ⊢
        go_wp2_with fail
        refine HNOC.out.mono ?_
        rintro e w1 ⟨rfl, hk1⟩
        have hb1 := hblk.out.keep hk1 trivial
        have c3 := (cell_of_block hb1 3).trans rfl
        have hq1 : q < w1.heap.size := (Array.getElem?_eq_some_iff.1 hb1).1
        have HK1' := Lib.hid (hk1.alloc (.cells #[.int .i64 0, .int .i64 0, .slice none 0 0] 78))
        clear hk1 hb1
        go_wp2_with fail
        with_reducible refine (HREV.out _ HK1'.out).mono ?_
        rintro e w2 ⟨rfl, hpost⟩
        have HP := Lib.hid hpost
        clear hpost
        go_wp2_with fail
        go_end0
        exact ⟨⟨_, rfl⟩, by have h := HP.out; rw [HCSV.out] at h; exact h⟩
    · obtain rfl : j = m := by omega
      have tjn : decide ((j : Int) < (n : Int)) = false := by simp; omega
      have hdr : d.map Prod.fst = ks.reverse := by rw [hds.out, List.take_of_length_le (by rw [List.length_reverse, HM.out]; omega)]
      obtain ⟨g, c', hform, -, -⟩ := hcol.out.row.form (by omega)
      injection hform with e1 _ e3
      subst e1 e3
      have hcsv : cs = (b0 + j) % n := hcs.out.2 (by omega)
      have HREV := Lib.hid (rev_exit w wr q p i n g cK cs nx d ks (by omega) hqlt hcol.out hblk.out hkw.out hdr)
      have HCSV := Lib.hid hcsv
      clear hcsv
      have c3 := (cell_of_block hblk.out 3).trans rfl
      clear hdr hds hcs hcol hkw hdl
      go_wp2_with fail
      with_reducible refine (HREV.out wr (Keeps.refl _ _)).mono ?_
      rintro e w2 ⟨rfl, hpost⟩
      have HP := Lib.hid hpost
      clear hpost
      go_wp2_with fail
      go_end0
      exact ⟨⟨_, rfl⟩, by have h := HP.out; rw [HCSV.out] at h; exact h⟩
end Go.Proofs.YtpijdefadmfahaaGreatDoor
end
/-
  THE PROGRAM's LOG: Open.
-/
section
namespace Go.Proofs.YtpijdefadmfahaaGreatDoor
open Go Go.RowKit Go.Joins Go.Shelf
theorem keeps_over {G : Nat → Prop} {w W w' : World} (h : Kp w W) (hk : Keeps G W w') (hG : ∀ b, b < w.heap.size → G b) : Kp w w' :=
  ⟨hk.os.trans h.os, hk.tape.trans h.tape, hk.output.trans h.output, Nat.le_trans h.size hk.size, fun b _ hb => (hk.block b (hG b hb) (Nat.lt_of_lt_of_le hb h.size)).trans (h.block b trivial hb)⟩
theorem Coll.mid {w0 w : World} {q p i n sl nx : Nat} {K : Value} {d : List SegP} (h : Coll w0 w q K d) (hq : q < w0.heap.size) (hb : LBlk w q p i n K sl 0 (.slice none 0 0) nx) : LogMid w q p i n (d.map Prod.fst) sl 0 nx K (.slice none 0 0) (d.map SegP.E) := by
  refine ⟨hb, by rw [List.length_map, segC_encP]; exact h.row, ⟨by simp, fun j hj => ?_, fun E hE b e hx => ?_, h.two⟩, fun b e e2 => by have := h.kb b e; omega⟩
  · simp only [List.getElem_map]
    exact h.own _ (List.getElem_mem _)
  · obtain ⟨x, hx', rfl⟩ := List.mem_map.1 hE
    have h1 := h.eb x hx' b e
    rcases hx with hx | hx
    · omega
    · exact h1.2 hx
theorem Coll.at_ {w0 w : World} {q p i n sl nx : Nat} {K : Value} {d : List SegP} (h : Coll w0 w q K d) (hq : q < w0.heap.size) (hb : LBlk w q p i n K sl 0 (.slice none 0 0) nx) : LogAt w q ⟨hasB q K (d.map SegP.E), fun _ => False⟩ p i n (d.map Prod.fst) sl 0 nx [] K (.slice none 0 0) (d.map SegP.E) :=
  (h.mid hq hb).at_ (fun _ => False) (fun _ h => h.elim) (fun _ _ h => h) ⟨none, 0, rfl, Nat.le_refl _, Nat.zero_le _, Row.nil _ _ _⟩
theorem Coll.new {w0 w : World} {q : Nat} {K : Value} {d : List SegP} (h : Coll w0 w q K d) : ∀ b, hasB q K (d.map SegP.E) b → b = q ∨ w0.heap.size ≤ b := fun b hb => by
  rcases hb with rfl | hb | ⟨E, hE, hb⟩
  · exact .inl rfl
  · exact .inr (h.kb b hb)
  · obtain ⟨x, hx, rfl⟩ := List.mem_map.1 hE
    exact .inr (h.eb x hx b hb).1
def OpenPost (w : World) (p i n : Nat) (ks : List Seg) (sl nx : Nat) (w' : World) : Prop :=
  ∃ (Fs : Foot) (K : Value) (Es : List Value), LogAt w' w.heap.size Fs p i n ks sl 0 nx [] K (.slice none 0 0) Es ∧ (∀ b, Fs.all b → w.heap.size ≤ b) ∧ Kp w w'
set_option maxRecDepth 100000 in
set_option maxHeartbeats 1000000 in
theorem lopen_any (w : World) (_hT : Taken w) (p : Nat) (F : Foot) (s : SDev) (hd : DAt w p F s) (i n : Nat) (h3 : 3 ≤ n) (hn : n ≤ 200) (_hi : i ≤ 2048) (hin : i + 8 * n ≤ s.now.length) (ks : List Seg) (sl nx : Nat)
    (hfind : ∀ W, Kp (w.alloc (.cells #[.pointer (some ⟨p, 0, none⟩), .int .i64 (i : Int), .int .i64 (n : Int), .slice none 0 0, .int .i64 0, .int .i64 0, .slice none 0 0, .int .i64 1] 76)) W → Calls Tryz.prog 31 #[.pointer (some ⟨w.heap.size, 0, none⟩)] W fun e w' => (∃ v, e = .returned v) ∧ OpenPost w p i n ks sl nx w') :
    Calls Tryz.prog 18 #[.pointer (some ⟨p, 0, none⟩), .int .i64 (i : Int), .int .i64 (n : Int)] w fun e w' => e = .returned (.tuple #[.pointer (some ⟨w.heap.size, 0, none⟩), .int .i64 0]) ∧ OpenPost w p i n ks sl nx w' := by
  have HTH := Lib.hid (sthere_yes w p F s hd i n h3 hn hin)
  have HFIND := Lib.hid (hfind _ (Keeps.refl _ _))
  clear _hT hd hfind
  go_enter Tryz.func18, Tryz.ntmps18
  go_wp2_with fail
  refine HTH.out.mono ?_
  rintro e w' ⟨rfl, rfl⟩
  go_wp2_with fail
  refine HFIND.out.mono ?_
  rintro e w1 ⟨⟨v, rfl⟩, hp⟩
  have HP := Lib.hid hp
  clear hp HFIND
  go_wp2_with fail
  go_ret2
  exact ⟨rfl, HP.out⟩
theorem lopen_no (w : World) (p : Nat) (F : Foot) (s : SDev) (hd : DAt w p F s) (i n : Int) (h1 : -9223372036854775808 ≤ i) (h2 : i < 9223372036854775808) (h3 : -9223372036854775808 ≤ n) (h4 : n < 9223372036854775808) (hno : i < 0 ∨ n < 3 ∨ 200 < n ∨ (s.now.length : Int) < i + 8 * n) :
    Calls Tryz.prog 18 #[.pointer (some ⟨p, 0, none⟩), .int .i64 i, .int .i64 n] w fun e w' => (∃ v, e = .returned (.tuple #[v, .int .i64 4])) ∧ Kp w w' := by
  have HTH := Lib.hid (sthere_no w p F s hd i n h1 h2 h3 h4 hno)
  clear hd hno
  go_enter Tryz.func18, Tryz.ntmps18
  go_wp2_with fail
  refine HTH.out.mono ?_
  rintro e w' ⟨rfl, rfl⟩
  go_wp2_with fail
  go_ret2
  exact ⟨⟨_, rfl⟩, Keeps.refl _ _⟩
theorem find_new (w : World) (hT : Taken w) (p : Nat) (F : Foot) (s : SDev) (hd : DAt w p F s) (i n : Nat) (hn : n ≤ 200) (hi : i ≤ 2048) (hin : i + 8 * n ≤ s.now.length) (hon : OnDisk s.now i n []) :
    ∀ W, Kp (w.alloc (.cells #[.pointer (some ⟨p, 0, none⟩), .int .i64 (i : Int), .int .i64 (n : Int), .slice none 0 0, .int .i64 0, .int .i64 0, .slice none 0 0, .int .i64 1] 76)) W → Calls Tryz.prog 31 #[.pointer (some ⟨w.heap.size, 0, none⟩)] W fun e w' => (∃ v, e = .returned v) ∧ OpenPost w p i n [] 0 1 w' := by
  intro W hW
  have hb0 := heap_alloc_new w (.cells #[.pointer (some ⟨p, 0, none⟩), .int .i64 (i : Int), .int .i64 (n : Int), .slice none 0 0, .int .i64 0, .int .i64 0, .slice none 0 0, .int .i64 1] 76)
  have hk0 : Kp w W := ((Keeps.refl _ w).alloc _).trans hW
  have hbW : LBlk W w.heap.size p i n (.slice none 0 0) 0 0 (.slice none 0 0) 1 := (hW.block w.heap.size trivial (by simp)).trans hb0
  have he := find_empty hon
  refine find_any W (hT.keep hk0) w.heap.size p i n _ _ 0 0 1 hbW F s (hd.keep (hk0.mono fun _ _ _ => trivial)) hi hn hin (fun j k m x _ _ e => by have := (decL_wf e).2.1; omega) (OpenPost w p i n [] 0 1) _ rfl (.inl he) (fun _ W1 hk1 => ?_) (fun h => by rw [he.1] at h; omega)
  have hb1 := hbW.keep hk1 trivial
  have hqz : w.heap.size < W1.heap.size := (Array.getElem?_eq_some_iff.1 hb1).1
  have hc : Coll W1 W1 w.heap.size (.slice none 0 0) [] := Coll.nil _ _ _
  exact ⟨_, _, _, hc.at_ hqz hb1, fun b hb => by
    rcases hb with hb | hb
    · rcases hc.new b hb with rfl | h <;> omega
    · exact hb.elim, hk0.trans hk1⟩
theorem find_old (w : World) (hT : Taken w) (p : Nat) (F : Foot) (s : SDev) (hd : DAt w p F s) (i n : Nat) (hn : n ≤ 200) (hi : i ≤ 2048) (hin : i + 8 * n ≤ s.now.length) (ks : List Seg) (l : Seg) (b0 : Nat) (hch : Chain n b0 (ks ++ [l])) (hon : OnDisk s.now i n (ks ++ [l])) (hf : ∀ sg ∈ ks ++ [l], sg.first ≤ 274877906943) :
    ∀ W, Kp (w.alloc (.cells #[.pointer (some ⟨p, 0, none⟩), .int .i64 (i : Int), .int .i64 (n : Int), .slice none 0 0, .int .i64 0, .int .i64 0, .slice none 0 0, .int .i64 1] 76)) W → Calls Tryz.prog 31 #[.pointer (some ⟨w.heap.size, 0, none⟩)] W fun e w' => (∃ v, e = .returned v) ∧ OpenPost w p i n (ks ++ [l]) ((b0 + (ks ++ [l]).length) % n) (l.first + 212) w' := by
  intro W hW
  have hb0 := heap_alloc_new w (.cells #[.pointer (some ⟨p, 0, none⟩), .int .i64 (i : Int), .int .i64 (n : Int), .slice none 0 0, .int .i64 0, .int .i64 0, .slice none 0 0, .int .i64 1] 76)
  have hk0 : Kp w W := ((Keeps.refl _ w).alloc _).trans hW
  have hbW : LBlk W w.heap.size p i n (.slice none 0 0) 0 0 (.slice none 0 0) 1 := (hW.block w.heap.size trivial (by simp)).trans hb0
  obtain ⟨e1, e2, e3, e4⟩ := find_last hch hon
  have hnq : ¬ F.all w.heap.size := fun h => by have := hd.lt _ h; omega
  have htq : 0 < w.heap.size := World.block_lt_of_cell? w _ (hT 0 (by decide))
  refine find_any W (hT.keep hk0) w.heap.size p i n _ _ 0 0 1 hbW F s (hd.keep (hk0.mono fun _ _ _ => trivial)) hi hn hin (fun j k m x _ _ e => by have := (decL_wf e).2.1; omega) (OpenPost w p i n (ks ++ [l]) ((b0 + (ks ++ [l]).length) % n) (l.first + 212)) _ rfl (.inr ⟨e3, by omega⟩) (fun h => by omega) (fun _ W1 hk1 hb1 => ?_)
  rw [e1, e4]
  have hkS : Keeps (fun b => b ≠ w.heap.size) W1 (W1.setCell ⟨w.heap.size, 7, none⟩ (.int .i64 ((l.first : Int) + 212))) := (Keeps.refl _ W1).setCell (.inr fun hn => hn rfl) _
  have hbS : LBlk (W1.setCell ⟨w.heap.size, 7, none⟩ (.int .i64 ((l.first : Int) + 212))) w.heap.size p i n (.slice none 0 0) 0 0 (.slice none 0 0) (l.first + 212) := by
    have := block_setCell hb1 (i := 7) (.int .i64 ((l.first + 212 : Nat) : Int))
    exact this
  have hqS : w.heap.size < (W1.setCell ⟨w.heap.size, 7, none⟩ (.int .i64 ((l.first : Int) + 212))).heap.size := (Array.getElem?_eq_some_iff.1 hbS).1
  have hk01 : Kp w W1 := hk0.trans hk1
  have hkw : Kp w (W1.setCell ⟨w.heap.size, 7, none⟩ (.int .i64 ((l.first : Int) + 212))) := keeps_over hk01 hkS fun b hb => by show b ≠ w.heap.size; omega
  have hsl : l.slot = slotBack b0 n (ks ++ [l]).length 0 := by
    rw [slotBack_at hch 0 (by simp)]
    have : (ks ++ [l])[(ks ++ [l]).length - 1 - 0]'(rev_lt (by simp)) = l := by simp
    rw [this]
  have hends : ∀ sg ∈ ks ++ [l], sg.end_ ≤ l.first + 212 := fun sg hsg => by
    rcases List.mem_append.1 hsg with h | h
    · have := (List.pairwise_append.1 hch.rise).2.2 sg h l (by simp); omega
    · rw [List.mem_singleton.1 h]
      have := (hch.ok l (by simp)).count
      unfold Seg.end_; omega
  refine (collect_any _ (hT.keep hkw) w.heap.size p i n (l.first + 212) 0 hbS F s (hd.keep (hkw.mono fun _ _ _ => trivial)) hnq (by omega) (ks ++ [l]) b0 hch _ rfl (by simp) hon hi hn hin hf hends (by have := hf l (by simp); omega) l.slot hsl).mono ?_
  rintro e w' ⟨hv, K, d, hds, hb, hc, hk⟩
  refine ⟨hv, ?_⟩
  have hat := hc.at_ hqS hb
  rw [hds] at hat
  exact ⟨_, _, _, hat, fun b hb => by
    rcases hb with hb | hb
    · rcases hc.new b hb with rfl | h <;> omega
    · exact hb.elim, keeps_over hkw hk fun b hb => by show b ≠ w.heap.size; omega⟩
end Go.Proofs.YtpijdefadmfahaaGreatDoor
end
