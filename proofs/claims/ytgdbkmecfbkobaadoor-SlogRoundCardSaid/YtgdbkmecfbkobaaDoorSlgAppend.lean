/-
  THE PROGRAM's LOG: Append.
-/
import Derived.Test.YtgdbkmecfbkobaaDoorSlgExtend
namespace Go.Proofs.YtgdbkmecfbkobaaDoor
open Go Go.RowKit Go.Joins

theorem Went.trans {w w1 w2 : World} {F F1 F2 Fs Fs1 Fs2 : Foot} (h : Went w w1 F F1 Fs Fs1) (k : Went w1 w2 F1 F2 Fs1 Fs2) : Went w w2 F F2 Fs Fs2 := by
  have hz := h.k.size
  refine ⟨k.ap, keeps_on h.k k.k fun b hl hb => ⟨fun hm => ?_, fun hm => ?_⟩, fun b hb => ?_, fun b hb => ?_, fun b hb => ?_, fun b hb => ?_⟩
  · rcases h.f1 b hm with h1 | h1
    · exact hb.1 h1
    · omega
  · rcases h.f3 b hm with h1 | h1
    · exact hb.2 h1
    · omega
  · rcases k.f1 b hb with h1 | h1
    · exact h.f1 b h1
    · exact .inr (by omega)
  · rcases k.f2 b hb with (h1 | h1) | h1
    · exact (h.f1 b h1).imp .inl id
    · exact h.f2 b h1
    · exact .inr (by omega)
  · rcases k.f3 b hb with h1 | h1
    · exact h.f3 b h1
    · exact .inr (by omega)
  · rcases k.f4 b hb with (h1 | h1) | h1
    · exact (h.f3 b h1).imp .inl id
    · exact h.f4 b h1
    · exact .inr (by omega)
theorem Went.kp {w w1 w2 : World} {F F2 Fs Fs2 : Foot} (h : Kp w w1) (k : Went w1 w2 F F2 Fs Fs2) : Went w w2 F F2 Fs Fs2 := by
  have hz := h.size
  exact ⟨k.ap, keeps_on (h.mono fun _ _ _ => trivial) k.k fun _ _ hb => hb, fun b hb => (k.f1 b hb).imp id fun e => by omega, fun b hb => (k.f2 b hb).imp id fun e => by omega, fun b hb => (k.f3 b hb).imp id fun e => by omega, fun b hb => (k.f4 b hb).imp id fun e => by omega⟩
theorem LogAt.next_ {w : World} {q p i n sl left nx : Nat} {F : Foot} {ks : List Seg} {tl : List UInt8} {K T : Value} {Es : List Value} (h : LogAt w q F p i n ks sl left nx tl K T Es) (nx' : Nat) : LogAt (w.setCell ⟨q, 7, none⟩ (.int .i64 (nx' : Int))) q F p i n ks sl left nx' tl K T Es := by
  have hk : Keeps (fun b => b ≠ q) w (w.setCell ⟨q, 7, none⟩ (.int .i64 (nx' : Int))) := (Keeps.refl _ w).setCell (.inr fun hn => hn rfl) _
  obtain ⟨A, c, e, h1, h2, hr⟩ := h.tail
  exact ⟨block_setCell h.blk (i := 7) (.int .i64 (nx' : Int)), hk.own h.row h.kq, h.ends.keep hk fun E hE b e e2 => h.ends.out E hE b e (.inl e2), h.kq, ⟨A, c, e, h1, h2, hr.keep (hk.mono fun b _ hb e => h.apart q h.mq (by rw [← show b = q from e]; exact hb))⟩, h.mq, h.mkk, h.me, fun b hb => Nat.lt_of_lt_of_le (h.lt b hb) hk.size, h.apart⟩

set_option maxRecDepth 100000 in
set_option maxHeartbeats 1000000 in
theorem lappend_no (w : World) (q p i n : Nat) (hL : LHead w q p i n) (A : Option Addr) (c m : Nat) (hm : m ≤ maxLen) (hno : m < 1 ∨ 300 < m) :
    Calls Tryd.prog 12 #[.pointer (some ⟨q, 0, none⟩), .slice A m c] w fun e w' => e = .returned (.tuple #[.int .i64 0, .int .i64 1]) ∧ Kp w w' := by
  have HDN := Lib.hid (down_no w q p i n hL)
  have hft := fits_any w m hm
  rw [show decide (1 ≤ m ∧ m ≤ 300) = false by simp; omega] at hft
  have HFT := Lib.hid hft
  clear hL hft hno
  go_enter Tryd.func12, Tryd.ntmps12
  go_wp2_with fail
  refine HDN.out.mono ?_
  rintro e w' ⟨rfl, rfl⟩
  go_wp2_with fail
  refine HFT.out.mono ?_
  rintro e w' ⟨rfl, rfl⟩
  go_wp2_with fail
  go_ret2
  exact ⟨rfl, Keeps.refl _ _⟩

/-- What stands before the extending call, and what it leaves. -/
def ExtPost (w : World) (q p i n : Nat) (F Fs : Foot) (s : SDev) (ks : List Seg) (sg : Seg) (sl left nx : Nat) (tl : List UInt8) (K : Value) (r : LRec) (w' : World) : Prop :=
  ∃ (F' Fs' : Foot) (T' : Value) (tl' : List UInt8) (Es' : List Value),
      DAt w' p F' (s.puts (i + sg.slot * 8 + endAt sg.recs sg.recs.length / 53) (sg.first * 8 + endAt sg.recs sg.recs.length / 53) (tl ++ putT r.body) (chunks (tl ++ putT r.body).length)) ∧
      tl' = (tl ++ putT r.body).drop ((tl ++ putT r.body).length / 53 * 53) ∧
      LogAt w' q Fs' p i n (ks ++ [⟨sg.slot, sg.first, sg.recs ++ [r]⟩]) sl (left - (putT r.body).length) nx tl' K T' Es' ∧ Went w w' F F' Fs Fs'

set_option maxRecDepth 100000 in
set_option maxHeartbeats 2000000 in
theorem lappend_fit (w : World) (hT : Taken w) (q : Nat) (Fs : Foot) (p i n : Nat) (ks : List Seg) (sg : Seg) (sl left nx : Nat) (tl : List UInt8) (K T : Value) (Es : List Value) (h : LogAt w q Fs p i n (ks ++ [sg]) sl left nx tl K T Es) (F : Foot) (s : SDev) (hd : DAt w p F s) (ha : Apart F Fs) (hTM : ¬ F.M 0)
    (A : Option Addr) (c : Nat) (G : Nat → Prop) (l : List UInt8) (hr : Row w A G (bcells l)) (h1 : 1 ≤ l.length) (h300 : l.length ≤ 300) (_hlc : l.length ≤ c) (_hcm : c ≤ maxLen)
    (hxl : (putT l).length ≤ left) (hle : left ≤ 424) (hsum : endAt sg.recs sg.recs.length + left = 424) (htl : tl.length = endAt sg.recs sg.recs.length % 53)
    (hrl : sg.recs.length ≤ 400) (hi : i ≤ 2048) (hsl : sg.slot < n) (hn : n ≤ 200) (hin : i + 8 * n ≤ s.now.length) (hf : sg.first ≤ 274877906943) (hkl : ks.length ≤ 200) (hcalls : s.calls ≤ 549755813888) (hnx : nx ≤ 274877906943) (r : LRec) (hrb : r.body = l) :
    Calls Tryd.prog 12 #[.pointer (some ⟨q, 0, none⟩), .slice A l.length c] w fun e w' => e = .returned (.tuple #[.int .i64 (nx : Int), .int .i64 0]) ∧
      ∃ w1, ExtPost w q p i n F Fs s ks sg sl left nx tl K r w1 ∧ w' = w1.setCell ⟨q, 7, none⟩ (.int .i64 ((nx + 1 : Nat) : Int)) := by
  have HDN := Lib.hid (down_no w q p i n h.head)
  have hft := fits_any w l.length (by unfold maxLen; omega)
  rw [show decide (1 ≤ l.length ∧ l.length ≤ 300) = true by simp; omega] at hft
  have HFT := Lib.hid hft
  have hcv := Row.to_string (P := Tryd.prog) hr Tryd.underlying31 Tryd.underlying5 Tryd.underlying9 l.length c rfl
  have HPT := Lib.hid (text_one [] l (by simp) (by omega) w none 0 (fun _ => True) (Row.nil _ _ _))
  have HEXT := Lib.hid (fun (W : World) (hk : Kp w W) (B : Option Addr) (d : Nat) (R : Nat → Prop) (hrB : Row W B R (bcells (putT r.body))) (hp : 1 ≤ (putT r.body).length) (hxl' : (putT r.body).length ≤ left) =>
    (extend_any W (hT.keep hk) q Fs p i n ks sg sl left nx tl K T Es (h.keep (hk.mono fun _ _ _ => trivial)) F s (hd.keep (hk.mono fun _ _ _ => trivial)) ha hTM r B d R hrB hp hxl' hle hsum htl hrl hi hsl hn hin hf hkl (by omega)).mono fun e w' hh => (⟨hh.1, by
      obtain ⟨F', Fs', T', tl', Es', a1, a2, a3, a4⟩ := hh.2
      exact ⟨F', Fs', T', tl', Es', a1, a2, a3, a4.kp hk⟩⟩ : e = .returned (.int .i64 0) ∧ ExtPost w q p i n F Fs s ks sg sl left nx tl K r w'))
  have c5 := (cell_of_block h.blk 5).trans rfl
  have hpos := putT_pos l
  have HQ := Lib.hid (show ∀ W, ExtPost w q p i n F Fs s ks sg sl left nx tl K r W → W.cell? ⟨q, 7, none⟩ = some (.int .i64 (nx : Int)) ∧ W.frozen? ⟨q, 7, none⟩ = false from fun W ⟨_, _, _, _, _, _, _, hl, _⟩ => ⟨(cell_of_block hl.blk 7).trans rfl, unfrozen_of_block hl.blk 7⟩)
  have hlm : l.length ≤ 9223372036854775807 := by omega
  rw [hrb] at HEXT
  obtain ⟨pl, hpl⟩ : ∃ pl, (putT l).length = pl := ⟨_, rfl⟩
  have HPL := Lib.hid hpl
  rw [hpl] at hxl hpos
  clear h hd ha hTM hr hft hT hsum htl hin hpl hrb
  unfold maxLen at _hcm
  go_enter Tryd.func12, Tryd.ntmps12
  go_wp2_with fail
  refine HDN.out.mono ?_
  rintro e w' ⟨rfl, rfl⟩
  go_wp2_with fail
  refine HFT.out.mono ?_
  rintro e w' ⟨rfl, rfl⟩
  go_wp2_with fail
  refine (show Calls _ _ _ _ _ from HPT.out).mono ?_
  rintro e w1 ⟨v, rfl, ⟨B, d, rfl, hd1, hd2, hrB⟩, hk1⟩
  rw [List.nil_append] at hrB hd1 ⊢
  have c5 := hk1.cell c5 trivial
  have HK1 := Lib.hid hk1
  have HRB := Lib.hid hrB
  rw [HPL.out] at hd1 ⊢
  have hgt : decide ((left : Int) < (pl : Int)) = false := by simp; omega
  unfold maxLen at hd2
  clear hk1 hrB HPT hcv
  go_wp2_with fail
  have hext := HEXT.out w1 HK1.out B d _ HRB.out (by rw [HPL.out]; omega) (by rw [HPL.out]; exact hxl)
  rw [HPL.out] at hext
  refine hext.mono ?_
  clear hext
  rintro e w2 ⟨rfl, hx2⟩
  obtain ⟨c7, f7⟩ := HQ.out w2 hx2
  have HX2 := Lib.hid hx2
  clear hx2 HEXT c5
  go_wp2_with fail
  go_ret2
  refine ⟨rfl, w2, HX2.out, ?_⟩
  rw [show ((nx + 1 : Nat) : Int) = (nx : Int) + 1 by omega]

set_option maxRecDepth 100000 in
set_option maxHeartbeats 2000000 in
theorem lappend_new (w : World) (hT : Taken w) (q : Nat) (Fs : Foot) (p i n : Nat) (ks : List Seg) (sl left nx : Nat) (tl : List UInt8) (K T : Value) (Es : List Value) (h : LogAt w q Fs p i n ks sl left nx tl K T Es) (F : Foot) (s : SDev) (hd : DAt w p F s) (ha : Apart F Fs) (hTM : ¬ F.M 0)
    (full : Bool) (hfu : Turn full ks sl) (A : Option Addr) (c : Nat) (G : Nat → Prop) (l : List UInt8) (hr : Row w A G (bcells l)) (h1 : 1 ≤ l.length) (h300 : l.length ≤ 300) (_hlc : l.length ≤ c) (_hcm : c ≤ maxLen)
    (hTS : ¬ Fs.M 0) (hxl : left < (putT l).length) (hle : left ≤ 424) (hi : i ≤ 2048) (hsl : sl < n) (hn : n ≤ 200) (hin : i + 8 * n ≤ s.now.length) (hkl : ks.length ≤ 200) (hcalls : s.calls ≤ 549755813888) (hnx1 : 1 ≤ nx) (hnx : nx ≤ 274877906943) (r : LRec) (hrb : r.body = l) :
    Calls Tryd.prog 12 #[.pointer (some ⟨q, 0, none⟩), .slice A l.length c] w fun e w' => e = .returned (.tuple #[.int .i64 (nx : Int), .int .i64 0]) ∧
      ∃ (w1 : World) (F1 Fs1 : Foot) (K1 : Value), Went w w1 F F1 Fs Fs1 ∧ ∃ w2, ExtPost w1 q p i n F1 Fs1 ((s.write (i + sl * 8) (encL (nx * 8) [])).flush) (goes full ks) ⟨sl, nx, []⟩ ((sl + 1) % n) 424 nx [] K1 r w2 ∧ w' = w2.setCell ⟨q, 7, none⟩ (.int .i64 ((nx + 1 : Nat) : Int)) := by
  have HDN := Lib.hid (down_no w q p i n h.head)
  have hft := fits_any w l.length (by unfold maxLen; omega)
  rw [show decide (1 ≤ l.length ∧ l.length ≤ 300) = true by simp; omega] at hft
  have HFT := Lib.hid hft
  have hcv := Row.to_string (P := Tryd.prog) hr Tryd.underlying31 Tryd.underlying5 Tryd.underlying9 l.length c rfl
  have HPT := Lib.hid (text_one [] l (by simp) (by omega) w none 0 (fun _ => True) (Row.nil _ _ _))
  have hpm := putT_most l h300
  have htw : 0 < w.heap.size := World.block_lt_of_cell? w _ (hT 0 (by decide))
  have hgl : (goes full ks).length ≤ 200 := by
    cases full
    · exact hkl
    · show ks.tail.length ≤ 200; rw [List.length_tail]; omega
  have HBEG := Lib.hid (fun (W : World) (hk : Kp w W) => (begin_any W (hT.keep hk) q Fs p i n ks sl left nx tl K T Es (h.keep (hk.mono fun _ _ _ => trivial)) F s (hd.keep (hk.mono fun _ _ _ => trivial)) ha hTM full hfu hi hn hsl hin hnx1 hnx hkl (by omega)))
  have HEXT := Lib.hid (fun (W : World) (F1 Fs1 : Foot) (K1 : Value) (Es1 : List Value) (hT1 : Taken W) (hl1 : LogAt W q Fs1 p i n (goes full ks ++ [⟨sl, nx, []⟩]) ((sl + 1) % n) 424 nx [] K1 (.slice none 0 0) Es1) (hd1 : DAt W p F1 ((s.write (i + sl * 8) (encL (nx * 8) [])).flush)) (hap1 : Apart F1 Fs1) (htm1 : ¬ F1.M 0) (B : Option Addr) (d : Nat) (R : Nat → Prop) (hrB : Row W B R (bcells (putT r.body))) (hp : 1 ≤ (putT r.body).length) (hxl' : (putT r.body).length ≤ 424) =>
    extend_any W hT1 q Fs1 p i n (goes full ks) ⟨sl, nx, []⟩ ((sl + 1) % n) 424 nx [] K1 (.slice none 0 0) Es1 hl1 F1 _ hd1 hap1 htm1 r B d R hrB hp hxl' (Nat.le_refl _) (by simp [endAt, strm]) (by simp [endAt, strm]) (by simp) hi hsl hn (by simp [SDev.flush, SDev.write]; omega) hnx hgl (by show s.calls + 1 + 1 ≤ _; omega))
  have c5 := (cell_of_block h.blk 5).trans rfl
  have hpos := putT_pos l
  have hlm : l.length ≤ 9223372036854775807 := by omega
  have HTT := Lib.hid hT
  have HTMM := Lib.hid hTM
  have HTS := Lib.hid hTS
  have HDL := Lib.hid hd.lt
  have HAL := Lib.hid h.lt
  have HRBD := Lib.hid hrb
  rw [hrb] at HEXT
  obtain ⟨pl, hpl⟩ : ∃ pl, (putT l).length = pl := ⟨_, rfl⟩
  have HPL := Lib.hid hpl
  rw [hpl] at hxl hpos hpm
  clear h hd ha hTM hr hft hT hin hpl hrb hfu
  unfold maxLen at _hcm
  go_enter Tryd.func12, Tryd.ntmps12
  go_wp2_with fail
  refine HDN.out.mono ?_
  rintro e w' ⟨rfl, rfl⟩
  go_wp2_with fail
  refine HFT.out.mono ?_
  rintro e w' ⟨rfl, rfl⟩
  go_wp2_with fail
  refine (show Calls _ _ _ _ _ from HPT.out).mono ?_
  rintro e w1 ⟨v, rfl, ⟨B, d, rfl, hd1, hd2, hrB⟩, hk1⟩
  rw [List.nil_append] at hrB hd1 ⊢
  have c5 := hk1.cell c5 trivial
  have HK1 := Lib.hid hk1
  have HRB := Lib.hid hrB
  rw [HPL.out] at hd1 ⊢
  have hgt : decide ((left : Int) < (pl : Int)) = true := by simp; omega
  unfold maxLen at hd2
  clear hk1 hrB HPT hcv
  go_wp2_with fail
  refine (HBEG.out w1 HK1.out).mono ?_
  rintro e w2 ⟨rfl, F1, Fs1, K1, Es1, hd2', hl2, hwe⟩
  have HRB2 := Lib.hid (HRB.out.keep (hwe.k.mono fun b _ hb => ⟨fun hm => by have := HDL.out b (.inl hm); omega, fun hm => by have := HAL.out b (.inl hm); omega⟩))
  have HWE := Lib.hid (hwe.kp HK1.out)
  have HT2 := Lib.hid (show Taken w2 from fun k hk => hwe.k.cell (HK1.out.cell (HTT.out k hk) trivial) ⟨HTMM.out, HTS.out⟩)
  have HTM2 := Lib.hid (show ¬ F1.M 0 from fun hm => (hwe.f1 _ hm).elim HTMM.out fun h => by have := HK1.out.size; omega)
  have HL2 := Lib.hid hl2
  have HD2 := Lib.hid hd2'
  clear hwe hl2 hd2' c5
  go_wp2_with fail
  have hext := HEXT.out w2 F1 Fs1 K1 Es1 HT2.out HL2.out HD2.out HWE.out.ap HTM2.out B d _ HRB2.out (by rw [HPL.out]; omega) (by rw [HPL.out]; omega)
  rw [HPL.out] at hext
  refine hext.mono ?_
  clear hext
  rintro e w3 ⟨rfl, hx3⟩
  obtain ⟨c7, f7⟩ : w3.cell? ⟨q, 7, none⟩ = some (.int .i64 (nx : Int)) ∧ w3.frozen? ⟨q, 7, none⟩ = false := by
    obtain ⟨_, _, _, _, _, _, _, hl, _⟩ := hx3
    exact ⟨(cell_of_block hl.blk 7).trans rfl, unfrozen_of_block hl.blk 7⟩
  have HX3 := Lib.hid hx3
  clear hx3 HEXT
  go_wp2_with fail
  go_ret2
  refine ⟨rfl, w2, F1, Fs1, K1, HWE.out, w3, by unfold ExtPost; rw [HRBD.out, HPL.out]; exact HX3.out, ?_⟩
  rw [show ((nx + 1 : Nat) : Int) = (nx : Int) + 1 by omega]

end Go.Proofs.YtgdbkmecfbkobaaDoor
