/-
  SuperMade, SuperSave: texts of mine, joined.
-/
import Derived.Test.YtemkjodkmehffaaGreatDoorAllM26
import Derived.Test.YtemkjodkmehffaaGreatDoorAllM29
namespace Go.Proofs.YtemkjodkmehffaaGreatDoor
open Go Go.RowKit Go.Joins
def SBlk (w : World) (q p lat sp t : Nat) (x : List UInt8) : Prop :=
 w.heap[q]? = some (.cells #[.int .i64 (t : Int), .string (txt x), .pointer (some ⟨p, 0, none⟩), .int .i64 (lat : Int), .int .i64 (sp : Int)] 104 (0, 0))
theorem SBlk.keep {w w' : World} {q p lat sp t : Nat} {x : List UInt8} {G : Nat → Prop} (h : SBlk w q p lat sp t x) (hk : Keeps G w w') (hG : G q) : SBlk w' q p lat sp t x := by
 have hlt : q < w.heap.size := (Array.getElem?_eq_some_iff.1 h).1
 exact (hk.block q hG hlt).trans h
structure SAt (w : World) (q : Nat) (F : Foot) (st : SSt) : Prop where
 blk : SBlk w q st.dev (st.place + st.which) (st.place + (1 - st.which)) st.turn st.text
 wf : st.which ≤ 1 ∧ 1 ≤ st.turn ∧ st.text.length ≤ 40
 is : ∀ b, F.all b ↔ b = q
 m : F.M q
theorem SAt.keep {w w' : World} {q : Nat} {F : Foot} {st : SSt} (h : SAt w q F st) (hk : Keeps F.all w w') : SAt w' q F st :=
 ⟨h.blk.keep hk (.inl h.m), h.wf, h.is, h.m⟩
theorem SAt.lt {w : World} {q : Nat} {F : Foot} {st : SSt} (h : SAt w q F st) : ∀ b, F.all b → b < w.heap.size := fun b hb => by
 rw [(h.is b).1 hb]
 exact (Array.getElem?_eq_some_iff.1 h.blk).1
theorem there_yes (w : World) (p : Nat) (F : Foot) (s : SDev) (h : DAt w p F s) (i : Nat) (hi : i + 2 ≤ s.now.length) :
  Calls Tryz.prog 52 #[.pointer (some ⟨p, 0, none⟩), .int .i64 (i : Int)] w fun e w' => e = .returned (.bool true) ∧ w = w' := by
 have hl := Lib.hid (dlen_any w p F s h)
 have hsm := h.ok.small
 have h1 : decide ((i : Int) < (s.now.length : Int) - 1) = true := by simp; omega
 have h2 : (1 : Int) ≤ (s.now.length : Int) := by omega
 clear h hi
 go_enter Tryz.func52, Tryz.ntmps52
 go_wp2_with fail
 refine hl.out.mono ?_
 rintro e w' ⟨rfl, rfl⟩
 go_wp2_with fail
 go_ret
 exact ⟨rfl, rfl⟩
set_option maxHeartbeats 400000 in
theorem load_any (w : World) (hT : Taken w) (p : Nat) (F : Foot) (s : SDev) (h : DAt w p F s) (i : Nat) (hi : i < s.now.length) :
  Calls Tryz.prog 56 #[.pointer (some ⟨p, 0, none⟩), .int .i64 (i : Int)] w fun e w' => e = .returned (recV (decS (s.now.getD i []))) ∧ Keeps (fun _ => True) w w' := by
 have hsm := h.ok.small
 have hre : s.readE (i : Int) = 0 := if_neg (by omega)
 have hrl : s.readL (i : Int) = s.now.getD i [] := (if_neg (by omega)).trans (by rw [Int.toNat_natCast])
 have hlen : (s.now.getD i []).length = 64 := by rw [getD_mem _ _ _ hi]; exact h.ok.nrow _ (List.getElem_mem hi)
 have hrd := fun w' (hk : Keeps (fun _ => True) w w') => dread_any w' p F s (h.keep (hk.mono fun _ _ _ => trivial)) (i : Int) (by omega) (by omega)
 rw [hre, hrl] at hrd
 generalize s.now.getD i [] = l at hrd hlen ⊢
 have HL := Lib.hid hlen
 have HRD := Lib.hid hrd
 have HT := Lib.hid hT
 clear hre hrl hlen hrd h hT hi hsm
 go_enter Tryz.func56, Tryz.ntmps56
 go_wp2_with fail
 have hk0 := (Keeps.refl (fun _ => True) w).alloc (.cells #[.int .i64 0, .string ⟨#[]⟩] 102)
 have hb0 := heap_alloc_new w (.cells #[.int .i64 0, .string ⟨#[]⟩] 102)
 have hr0 : w.heap.size < (w.alloc (.cells #[.int .i64 0, .string ⟨#[]⟩] 102)).heap.size := by simp
 generalize (w.alloc (.cells #[.int .i64 0, .string ⟨#[]⟩] 102)) = w0 at hk0 hb0 hr0 ⊢
 refine (HRD.out w0 hk0).mono ?_
 rintro e w1 ⟨v, rfl, ho, hk1⟩
 have hb1 := (hk1.block _ trivial hr0).trans hb0
 have hr1 := Nat.lt_of_lt_of_le hr0 hk1.size
 obtain ⟨g, c, rfl, hbase, hlt⟩ := ho.form (by rw [HL.out]; decide)
 have hroom := own_room ho
 have hrow := own_row ho
 have HP := Lib.hid (parse_any w1 (HT.out.keep (hk0.trans hk1)) g 0 c _ l hrow HL.out (by have := hroom.1; rw [HL.out] at this; exact this) hroom.2)
 have HK1 := Lib.hid (hk0.trans hk1)
 have HB1 := Lib.hid hb1
 have HR1 := Lib.hid hr1
 clear hk0 hb0 hr0 hb1 hr1 ho hk1 hbase hlt hroom hrow HRD
 go_wp2_with fail
 rw [HL.out]
 refine HP.out.mono ?_
 rintro e w4 ⟨rfl, hk4⟩
 have hb4 := (hk4.block _ trivial HR1.out).trans HB1.out
 have c0 := (cell_of_block hb4 0).trans rfl
 have c1 := (cell_of_block hb4 1).trans rfl
 have f0 := unfrozen_of_block hb4 0
 have f1 := unfrozen_of_block hb4 1
 have hk := HK1.out.trans hk4
 have HFIN := Lib.hid (show ∀ v0 v1, Keeps (fun _ => True) w ((w4.setCell ⟨w.heap.size, 0, none⟩ v0).setCell ⟨w.heap.size, 1, none⟩ v1) from fun v0 v1 => (hk.setCell (.inl (Nat.le_refl _)) v0).setCell (.inl (Nat.le_refl _)) v1)
 have HCELL := Lib.hid (show ∀ v0 v1, ((w4.setCell ⟨w.heap.size, 0, none⟩ v0).setCell ⟨w.heap.size, 1, none⟩ v1).cell? ⟨w.heap.size, 0, none⟩ = some v0 ∧ ((w4.setCell ⟨w.heap.size, 0, none⟩ v0).setCell ⟨w.heap.size, 1, none⟩ v1).cell? ⟨w.heap.size, 1, none⟩ = some v1 from fun v0 v1 => by
  have h1 := block_setCell (block_setCell hb4 (i := 0) v0) (i := 1) v1
  exact ⟨(cell_of_block h1 0).trans rfl, (cell_of_block h1 1).trans rfl⟩)
 obtain ⟨t, x, hx⟩ : ∃ (t : Int) (x : ByteArray), recV (decS l) = .agg #[.int .i64 t, .string x] := by
  cases decS l with
  | none => exact ⟨_, _, rfl⟩
  | some r => exact ⟨_, _, rfl⟩
 have HX := Lib.hid hx
 rw [hx]
 clear hb4 hk hk4 hx HB1 HR1 HK1 HP
 go_wp2_with fail
 exact bodyPost_ret (v := .agg #[.int .i64 t, .string x]) (by simp [results, Tryz.results56, go_sem, HCELL.out]) rfl ⟨by rw [HX.out], HFIN.out _ _⟩
theorem write64_now (s : SDev) (i : Nat) (l : List UInt8) (hl : l.length = 64) (hr : (s.now.getD i []).length = 64) : (s.write i l).now = s.now.set i l := by
 show s.now.set i (over l (s.now.getD i [])) = _
 unfold over
 rw [List.drop_of_length_le (by omega), List.append_nil]
theorem row64 {w : World} {p : Nat} {F : Foot} {s : SDev} (h : DAt w p F s) (i : Nat) (hi : i < s.now.length) : (s.now.getD i []).length = 64 := by
 rw [getD_mem _ _ _ hi]; exact h.ok.nrow _ (List.getElem_mem hi)
theorem flush_is (s : SDev) : s.flush = SDev.still s.now (s.calls + 1) := rfl
def blanked (rows : List (List UInt8)) (i : Nat) : Nat → List (List UInt8)
 | 0 => rows
 | 1 => rows.set i blank
 | _ => (rows.set i blank).set (i + 1) blank
theorem blanked_len (rows : List (List UInt8)) (i k : Nat) : (blanked rows i k).length = rows.length := by
 match k with
 | 0 => rfl
 | 1 => simp [blanked]
 | n + 2 => simp [blanked]
theorem blanked_next (rows : List (List UInt8)) (i k : Nat) (hk : k < 2) : (blanked rows i k).set (i + k) blank = blanked rows i (k + 1) := by
 match k, hk with
 | 0, _ => rfl
 | 1, _ => rfl
def Blk (w2 : World) (p : Nat) (F : Foot) (s : SDev) (i k : Nat) (w : World) : Prop := ∃ (F' : Foot) (s' : SDev), DAt w p F' s' ∧ s'.now = blanked s.now i k ∧ s'.calls = s.calls + k ∧ Step F F' w2 w
set_option maxHeartbeats 1000000 in
theorem blank_any (w : World) (p : Nat) (F : Foot) (s : SDev) (h : DAt w p F s) (i : Nat) (hi : i + 2 ≤ s.now.length) (hcalls : s.calls ≤ 549755813888) :
  Calls Tryz.prog 53 #[.pointer (some ⟨p, 0, none⟩), .int .i64 (i : Int)] w fun e w' => e = .returned (.int .i64 0) ∧ ∃ F', DAt w' p F' (SDev.still ((s.now.set i blank).set (i + 1) blank) (s.calls + 3)) ∧ Step F F' w w' := by
 have hsm := h.ok.small
 have HD := Lib.hid h
 have HI := Lib.hid hi
 have hi1 : i ≤ 2048 := by omega
 clear h hi
 go_enter Tryz.func53, Tryz.ntmps53
 go_wp2_with (refine list_make rfl (.const (.int .i64 64)) (.const (.int .i64 64)) 71 rfl byte_elem .i64 .i64 64 rfl rfl (by decide) (by decide) (bcells blank) made64 ?_)
 intro w2 hown hg2
 have hk2 : Keeps (fun _ => True) w w2 := Keeps.of_grown hg2 (fun _ h => by cases h)
 have HR := Lib.hid (own_row hown)
 have HD2 := Lib.hid (HD.out.keep (hk2.mono fun _ _ _ => trivial))
 have hgF : ∀ b, b = w.heap.size → ¬ F.all b := fun b e hf => by have := HD.out.lt b hf; omega
 have hlt2 := (hown.lt _ rfl).2
 have HG := Lib.hid hgF
 have HL2 := Lib.hid hlt2
 have HK := Lib.hid hk2
 clear hown hg2 hk2 hgF hlt2
 go_wp2_with fail
 go_loopw [9] (fun i9 wr => ∃ k : Nat, k ≤ 2 ∧ i9 = .int .i64 k ∧ Blk w2 p F s i k wr) (fun i9 _ => 2 - (intOf i9).toNat)
 case atStart => exact ⟨0, by omega, rfl, F, s, HD2.out, rfl, rfl, Step.refl _ _⟩
 case round =>
  obtain ⟨k, hk, rfl, F', s', hd, hn, hc, hst⟩ := hrel
  by_cases hlt : k < 2
  ·have hlt' : (k : Int) < 2 := by omega
   have hw := dwrite_yes wr p F' s' hd (i + k) (some ⟨w.heap.size, 0, none⟩) 64 (fun b => b = w.heap.size) blank (HR.out.keep (hst.keeps.mono fun b _ e hm => HG.out b e (.inl hm))) (fun b e hf => by
     rcases hst.all b hf with h1 | h1
     ·exact HG.out b e h1
     ·have := HL2.out; subst e; omega) (by rw [hn, blanked_len]; have := HI.out; omega) (Nat.le_refl _) (by omega)
   rw [show blank.length = 64 from rfl, show ((i + k : Nat) : Int) = (i : Int) + (k : Int) from by omega] at hw
   have HW := Lib.hid hw
   have hn2 : (s'.write (i + k) blank).now = blanked s.now i (k + 1) := by
    rw [write64_now s' (i + k) blank rfl (row64 hd _ (by rw [hn, blanked_len]; have := HI.out; omega)), hn, blanked_next _ _ _ hlt]
   have HN := Lib.hid hn2
   have HC := Lib.hid hc
   have HS := Lib.hid hst
   clear hd hn hc hst hw hn2
   go_wp2_with fail
   refine HW.out.mono ?_
   rintro e w3 ⟨rfl, F3, hd3, hst3⟩
   have H3 := Lib.hid (show Blk w2 p F s i (k + 1) w3 from ⟨F3, _, hd3, HN.out, by show s'.calls + 1 = _; rw [HC.out]; rfl, HS.out.trans hst3⟩)
   clear hd3 hst3 HW HN HC HS
   go_wp2_with fail
   go_roundw
   case rel => exact ⟨k + 1, by omega, by go_num, H3.out⟩
   case measure => simp [intOf]; omega
  ·obtain rfl : k = 2 := by omega
   have hf := dflush_any wr p F' s' hd (by omega)
   rw [flush_is, hn, hc] at hf
   have HF := Lib.hid hf
   have HS := Lib.hid hst
   clear hf hst hn hc hd
   go_wp2_with fail
   refine HF.out.mono ?_
   rintro e w3 ⟨rfl, F3, hd3, hst3⟩
   have H3 := Lib.hid (show ∃ F', DAt w3 p F' (SDev.still ((s.now.set i blank).set (i + 1) blank) (s.calls + 3)) ∧ Step F F' w w3 from ⟨F3, hd3, by
    have h := HS.out.trans hst3
    have hk2 := HK.out
    exact ⟨(hk2.mono fun _ _ _ => trivial).trans h.keeps, fun b hb => (h.m b hb).imp id fun h1 => Nat.le_trans hk2.size h1, fun b hb => (h.i b hb).imp id fun h1 => Nat.le_trans hk2.size h1⟩⟩)
   clear hd3 hst3 HF HS
   go_wp2_with fail
   go_ret
   exact ⟨rfl, H3.out⟩
end Go.Proofs.YtemkjodkmehffaaGreatDoor
