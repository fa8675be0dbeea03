/-
  THE PROGRAM's TWO SLOTS: blank, Save.
-/
import Derived.Test.YtmnjdlnjhomhnaaDoorSuperMade
namespace Go.Proofs.YtmnjdlnjhomhnaaDoor
open Go Go.RowKit Go.Joins
theorem write64_now (s : SDev) (i : Nat) (l : List UInt8) (hl : l.length = 64) (hr : (s.now.getD i []).length = 64) : (s.write i l).now = s.now.set i l := by
  show s.now.set i (over l (s.now.getD i [])) = _
  unfold over
  rw [List.drop_of_length_le (by omega), List.append_nil]
theorem row64 {w : World} {p : Nat} {F : Foot} {s : SDev} (h : DAt w p F s) (i : Nat) (hi : i < s.now.length) : (s.now.getD i []).length = 64 := by
  rw [getD_mem _ _ _ hi]; exact h.ok.nrow _ (List.getElem_mem hi)
theorem flush_is (s : SDev) : s.flush = SDev.still s.now (s.calls + 1) := rfl
def blanked (rows : List (List UInt8)) (i : Nat) : Nat → List (List UInt8)
  | 0 => rows
  | 1 => rows.set i blank
  | _ => (rows.set i blank).set (i + 1) blank
theorem blanked_len (rows : List (List UInt8)) (i k : Nat) : (blanked rows i k).length = rows.length := by
  match k with
  | 0 => rfl
  | 1 => simp [blanked]
  | n + 2 => simp [blanked]
theorem blanked_next (rows : List (List UInt8)) (i k : Nat) (hk : k < 2) : (blanked rows i k).set (i + k) blank = blanked rows i (k + 1) := by
  match k, hk with
  | 0, _ => rfl
  | 1, _ => rfl
def Blk (w2 : World) (p : Nat) (F : Foot) (s : SDev) (i k : Nat) (w : World) : Prop := ∃ (F' : Foot) (s' : SDev), DAt w p F' s' ∧ s'.now = blanked s.now i k ∧ s'.calls = s.calls + k ∧ Step F F' w2 w
set_option maxHeartbeats 1000000 in
theorem blank_any (w : World) (p : Nat) (F : Foot) (s : SDev) (h : DAt w p F s) (i : Nat) (hi : i + 2 ≤ s.now.length) (hcalls : s.calls ≤ 549755813888) :
    Calls Tryd.prog 29 #[.pointer (some ⟨p, 0, none⟩), .int .i64 (i : Int)] w fun e w' => e = .returned (.int .i64 0) ∧ ∃ F', DAt w' p F' (SDev.still ((s.now.set i blank).set (i + 1) blank) (s.calls + 3)) ∧ Step F F' w w' := by
  have hsm := h.ok.small
  have HD := Lib.hid h
  have HI := Lib.hid hi
  have hi1 : i ≤ 2048 := by omega
  clear h hi
  go_enter Tryd.func29, Tryd.ntmps29
  go_wp2_with (refine list_make rfl (.const (.int .i64 64)) (.const (.int .i64 64)) 45 rfl byte_elem .i64 .i64 64 rfl rfl (by decide) (by decide) (bcells blank) made64 ?_)
  intro w2 hown hg2
  have hk2 : Keeps (fun _ => True) w w2 := Keeps.of_grown hg2 (fun _ h => by cases h)
  have HR := Lib.hid (own_row hown)
  have HD2 := Lib.hid (HD.out.keep (hk2.mono fun _ _ _ => trivial))
  have hgF : ∀ b, b = w.heap.size → ¬ F.all b := fun b e hf => by have := HD.out.lt b hf; omega
  have hlt2 := (hown.lt _ rfl).2
  have HG := Lib.hid hgF
  have HL2 := Lib.hid hlt2
  have HK := Lib.hid hk2
  clear hown hg2 hk2 hgF hlt2
  go_wp2_with fail
  go_loopw [9] (fun i9 wr => ∃ k : Nat, k ≤ 2 ∧ i9 = .int .i64 k ∧ Blk w2 p F s i k wr) (fun i9 _ => 2 - (intOf i9).toNat)
  case atStart => exact ⟨0, by omega, rfl, F, s, HD2.out, rfl, rfl, Step.refl _ _⟩
  case round =>
    obtain ⟨k, hk, rfl, F', s', hd, hn, hc, hst⟩ := hrel
    by_cases hlt : k < 2
    · have hlt' : (k : Int) < 2 := by omega
      have hw := dwrite_yes wr p F' s' hd (i + k) (some ⟨w.heap.size, 0, none⟩) 64 (fun b => b = w.heap.size) blank (HR.out.keep (hst.keeps.mono fun b _ e hm => HG.out b e (.inl hm))) (fun b e hf => by
          rcases hst.all b hf with h1 | h1
          · exact HG.out b e h1
          · have := HL2.out; subst e; omega) (by rw [hn, blanked_len]; have := HI.out; omega) (Nat.le_refl _) (by omega)
      rw [show blank.length = 64 from rfl, show ((i + k : Nat) : Int) = (i : Int) + (k : Int) from by omega] at hw
      have HW := Lib.hid hw
      have hn2 : (s'.write (i + k) blank).now = blanked s.now i (k + 1) := by
        rw [write64_now s' (i + k) blank rfl (row64 hd _ (by rw [hn, blanked_len]; have := HI.out; omega)), hn, blanked_next _ _ _ hlt]
      have HN := Lib.hid hn2
      have HC := Lib.hid hc
      have HS := Lib.hid hst
      clear hd hn hc hst hw hn2
      go_wp2_with fail
      refine HW.out.mono ?_
      rintro e w3 ⟨rfl, F3, hd3, hst3⟩
      have H3 := Lib.hid (show Blk w2 p F s i (k + 1) w3 from ⟨F3, _, hd3, HN.out, by show s'.calls + 1 = _; rw [HC.out]; rfl, HS.out.trans hst3⟩)
      clear hd3 hst3 HW HN HC HS
      go_wp2_with fail
      go_roundw
      case rel => exact ⟨k + 1, by omega, by go_num, H3.out⟩
      case measure => simp [intOf]; omega
    · obtain rfl : k = 2 := by omega
      have hf := dflush_any wr p F' s' hd (by omega)
      rw [flush_is, hn, hc] at hf
      have HF := Lib.hid hf
      have HS := Lib.hid hst
      clear hf hst hn hc hd
      go_wp2_with fail
      refine HF.out.mono ?_
      rintro e w3 ⟨rfl, F3, hd3, hst3⟩
      have H3 := Lib.hid (show ∃ F', DAt w3 p F' (SDev.still ((s.now.set i blank).set (i + 1) blank) (s.calls + 3)) ∧ Step F F' w w3 from ⟨F3, hd3, by
        have h := HS.out.trans hst3
        have hk2 := HK.out
        exact ⟨(hk2.mono fun _ _ _ => trivial).trans h.keeps, fun b hb => (h.m b hb).imp id fun h1 => Nat.le_trans hk2.size h1, fun b hb => (h.i b hb).imp id fun h1 => Nat.le_trans hk2.size h1⟩⟩)
      clear hd3 hst3 HF HS
      go_wp2_with fail
      go_ret
      exact ⟨rfl, H3.out⟩
end Go.Proofs.YtmnjdlnjhomhnaaDoor
