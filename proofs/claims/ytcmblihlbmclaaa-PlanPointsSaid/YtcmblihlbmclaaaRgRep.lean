/-
  THE PROGRAM's RINGS (layer 14): New, Epoch, Nodes, Has.
-/
import Derived.Test.YtcmblihlbmclaaaAllRgA
import Derived.Test.YtcmblihlbmclaaaRgInts
import Derived.Test.YtcmblihlbmclaaaPtOf
namespace Go.Proofs.Ytcmblihlbmclaaa
open Go Go.RowKit Go.Joins

/-- Why a ring may not be. -/
theorem ringB_why {e : Int} {l : List Int} (h : ringB e l = false) : decide (e < 1) = true ∨ decide (e < 1) = false ∧ decide (1099511627776 < e) = true ∨ decide (e < 1) = false ∧ decide (1099511627776 < e) = false ∧ nodesB l = false := by
  unfold ringB at h
  simp only [Bool.and_eq_false_iff, decide_eq_false_iff_not] at h
  rcases h with h | h | h
  · exact .inl (by simp; omega)
  · by_cases h1 : e < 1
    · exact .inl (by simpa using h1)
    · exact .inr (.inl ⟨by simpa using h1, by simp; omega⟩)
  · by_cases h1 : e < 1
    · exact .inl (by simpa using h1)
    · by_cases h2 : 1099511627776 < e
      · exact .inr (.inl ⟨by simpa using h1, by simpa using h2⟩)
      · exact .inr (.inr ⟨by simpa using h1, by simpa using h2, h⟩)
theorem ringB_is {e : Int} {l : List Int} (h : ringB e l = true) : decide (e < 1) = false ∧ decide (1099511627776 < e) = false ∧ nodesB l = true := by
  unfold ringB at h
  simp only [Bool.and_eq_true, decide_eq_true_eq] at h
  exact ⟨by simp; omega, by simp; omega, h.2.2⟩

set_option maxRecDepth 100000 in
set_option maxHeartbeats 1000000 in
theorem rnew_no (w : World) (A : Option Addr) (c : Nat) (l : List Int) (e : Int) (hr : Row w A (fun _ => True) (l.map (Value.int .i64))) (hl : l.length ≤ c) (hc : c ≤ maxLen) (hn : ringB e l = false) :
    Calls Try.prog 12 #[.int .i64 e, .slice A l.length c] w fun x w' => x = .returned (.pointer none) ∧ Kp w w' := by
  have HM := Lib.hid (may_any w A c l hr hl hc)
  have HK := Lib.hid (Keeps.refl (fun _ => True) w)
  rcases ringB_why hn with t1 | ⟨t1, t2⟩ | ⟨t1, t2, t3⟩
  · clear hr hn
    go_enter Try.func12, Try.ntmps12
    go_wp2_with fail
    go_ret
    exact ⟨rfl, HK.out⟩
  · clear hr hn
    go_enter Try.func12, Try.ntmps12
    go_wp2_with fail
    go_ret
    exact ⟨rfl, HK.out⟩
  · rw [t3] at HM
    clear hr hn t3
    go_enter Try.func12, Try.ntmps12
    go_wp2_with fail
    refine (show Calls _ _ _ _ _ from HM.out).mono ?_
    rintro x w1 ⟨rfl, hk⟩
    have HK1 := Lib.hid hk
    clear hk HM HK
    go_wp2_with fail
    go_ret
    exact ⟨rfl, HK1.out⟩

set_option maxRecDepth 100000 in
set_option maxHeartbeats 1000000 in
theorem rnew_yes (w : World) (A : Option Addr) (c : Nat) (l : List Int) (e : Int) (hr : Row w A (fun _ => True) (l.map (Value.int .i64))) (hl : l.length ≤ c) (hc : c ≤ maxLen) (hn : ringB e l = true) :
    Calls Try.prog 12 #[.int .i64 e, .slice A l.length c] w fun x w' => ∃ r B cb D cd, x = .returned (.pointer (some ⟨r, 0, none⟩)) ∧ RgC w' r (fun b => w.heap.size ≤ b ∧ b < w'.heap.size) e l B cb D cd ∧ w.heap.size ≤ r ∧ r < w'.heap.size ∧ Kp w w' := by
  obtain ⟨t1, t2, t3⟩ := ringB_is hn
  have h5 := nodes_five t3
  have HM := Lib.hid (may_any w A c l hr hl hc)
  rw [t3] at HM
  have HC := fun (w1 : World) (hk : Kp w w1) => Lib.hid (iclone_any A c (fun _ => True) l w1 (hr.keep hk) (by omega))
  have HO := fun (w1 : World) (hk : Kp w w1) => Lib.hid (pof_yes w1 A c l (hr.keep hk) hl hc t3)
  have HR := Lib.hid hr
  have HC2 := Lib.hid (And.intro hl hc)
  unfold maxLen at hc
  clear hr hn t3
  go_enter Try.func12, Try.ntmps12
  go_wp2_with fail
  refine (show Calls _ _ _ _ _ from HM.out).mono ?_
  rintro x w1 ⟨rfl, hk1⟩
  have HK1 := Lib.hid hk1
  clear hk1 HM
  go_wp2_with fail
  refine (show Calls _ _ _ _ _ from (HC w1 HK1.out).out).mono ?_
  rintro x w2 ⟨B, cb, rfl, hB, -, hcb1, hcb2, hk2⟩
  have HK2 := Lib.hid (HK1.out.trans hk2)
  have HB := Lib.hid hB
  have HCB := Lib.hid (And.intro hcb1 hcb2)
  have HS := Lib.hid (HK1.out.size)
  clear hk2 hB hcb1 hcb2 HC HK1
  go_wp2_with fail
  refine (show Calls _ _ _ _ _ from (HO w2 HK2.out).out).mono ?_
  rintro x w3 ⟨D, cd, rfl, hD, hcd1, hcd2, hk3⟩
  have HK3 := Lib.hid (HK2.out.trans hk3)
  have HB3 := Lib.hid (show Row w3 B (fun b => w.heap.size ≤ b ∧ b < w3.heap.size) (l.map (Value.int .i64)) from
    (HB.out.keep (hk3.mono fun _ _ _ => trivial)).lt.mono fun b _ hb => ⟨Nat.le_trans HS.out hb.1, hb.2⟩)
  have HD3 := Lib.hid (show PRow w3 D (fun b => w.heap.size ≤ b ∧ b < w3.heap.size) (pts l) from
    (Row.lt hD).mono fun b _ hb => ⟨Nat.le_trans HK2.out.size hb.1, hb.2⟩)
  have HCD := Lib.hid (And.intro hcd1 hcd2)
  clear hk3 hD hcd1 hcd2 HO HB HK2 HS
  go_wp2_with fail
  go_ret
  have hs := HK3.out.size
  have hb := heap_alloc_new w3 (.cells #[.int .i64 e, .slice B l.length cb, .slice D (8 * l.length) cd] 52)
  refine ⟨w3.heap.size, B, cb, D, cd, rfl, ⟨(cell_of_block hb 0).trans rfl, (cell_of_block hb 1).trans rfl, (cell_of_block hb 2).trans rfl, ?_, ?_, HCB.out.1, HCB.out.2, HCD.out.1, HCD.out.2⟩, hs, by simp, HK3.out.alloc _⟩
  · exact (HB3.out.alloc _).mono fun b _ hb => ⟨hb.1, by simp; omega⟩
  · exact (Row.alloc HD3.out _).mono fun b _ hb => ⟨hb.1, by simp; omega⟩

set_option maxRecDepth 100000 in
theorem rnodes_nil (w : World) : Calls Try.prog 31 #[.pointer none] w fun x w' => x = .returned (.slice none 0 0) ∧ w = w' := by
  go_enter Try.func31, Try.ntmps31
  go_wp2_with fail
  go_ret
  exact ⟨rfl, rfl⟩
set_option maxRecDepth 100000 in
theorem rnodes_any (w : World) (r : Nat) (F : Nat → Prop) (e : Int) (l : List Int) (A : Option Addr) (c : Nat) (B : Option Addr) (cb : Nat) (h : RgC w r F e l A c B cb) (hl : l.length ≤ 5) :
    Calls Try.prog 31 #[.pointer (some ⟨r, 0, none⟩)] w fun x w' => ∃ B cb, x = .returned (.slice B l.length cb) ∧ Row w' B (fun b => w.heap.size ≤ b) (l.map (Value.int .i64)) ∧ Mine w' .i64 B l.length ∧ l.length ≤ cb ∧ cb ≤ maxLen ∧ Kp w w' := by
  have HC := Lib.hid (iclone_any A c F l w h.row (by omega))
  have e1 := h.e1
  clear h
  go_enter Try.func31, Try.ntmps31
  go_wp2_with fail
  refine (show Calls _ _ _ _ _ from HC.out).mono ?_
  rintro x w2 ⟨B, cb, rfl, h1, h2, h3, h4, h5⟩
  have H := Lib.hid (And.intro h1 (And.intro h2 (And.intro h3 (And.intro h4 h5))))
  clear h1 h2 h3 h4 h5 HC
  go_wp2_with fail
  go_ret
  exact ⟨B, cb, rfl, H.out⟩

end Go.Proofs.Ytcmblihlbmclaaa
