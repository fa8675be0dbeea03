/-
  THE PROGRAM's TWO SLOTS: Open.
-/
import Derived.Test.YtmnjdlnjhomhnaaDoorSuperMade
namespace Go.Proofs.YtmnjdlnjhomhnaaDoor
open Go Go.RowKit Go.Joins
def recT : Option (Nat × List UInt8) → Nat × List UInt8
  | none => (0, [])
  | some r => r
theorem recV_is (o : Option (Nat × List UInt8)) : recV o = .agg #[.int .i64 ((recT o).1 : Int), .string (txt (recT o).2)] := by
  cases o <;> rfl
theorem decS_wf {l : List UInt8} {t : Nat} {x : List UInt8} (h : decS l = some (t, x)) : 1 ≤ t ∧ t ≤ 1099511627776 ∧ x.length ≤ 40 := by
  unfold decS at h
  cases hf : decF 83 l with
  | none => rw [hf] at h; cases h
  | some r =>
    rw [hf] at h
    obtain ⟨t', x'⟩ := r
    unfold takeS at h
    simp only at h
    split at h
    · cases h
    · injection h with h
      injection h with h3 h4
      subst h3; subst h4
      omega
theorem recT_le (l : List UInt8) : (recT (decS l)).1 ≤ 1099511627776 := by
  cases h : decS l with
  | none => exact Nat.zero_le _
  | some r => exact (decS_wf (t := r.1) (x := r.2) h).2.1
theorem blk_new (w : World) (n q p lat sp t : Nat) (x : List UInt8) (z : Int) (hz : z = (lat : Int)) (z2 : Int) (hz2 : z2 = (sp : Int)) (z3 : Int) (hz3 : z3 = (t : Int)) (hn : n = w.heap.size) (hq : q = n) : SBlk (w.alloc (.cells #[.int .i64 z3, .string (txt x), .pointer (some ⟨p, 0, none⟩), .int .i64 z, .int .i64 z2] 68)) q p lat sp t x := by
  subst hz hz2 hz3 hn hq
  exact heap_alloc_new w _
def OpenPost (w : World) (p i t1 t2 : Nat) (x1 x2 : List UInt8) (e : Ending) (w' : World) : Prop :=
  (t2 ≤ t1 ∧ 1 ≤ t1 ∧ ∃ q, e = .returned (.tuple #[.pointer (some ⟨q, 0, none⟩), .int .i64 0]) ∧ SBlk w' q p i (i + 1) t1 x1 ∧ w.heap.size ≤ q ∧ Keeps (fun _ => True) w w') ∨
  (t1 < t2 ∧ ∃ q, e = .returned (.tuple #[.pointer (some ⟨q, 0, none⟩), .int .i64 0]) ∧ SBlk w' q p (i + 1) i t2 x2 ∧ w.heap.size ≤ q ∧ Keeps (fun _ => True) w w') ∨
  (t1 = 0 ∧ t2 = 0 ∧ e = .returned (.tuple #[.pointer none, .int .i64 3]) ∧ Keeps (fun _ => True) w w')
set_option maxRecDepth 100000 in
set_option maxHeartbeats 2000000 in
theorem sopen_any (w : World) (hT : Taken w) (p : Nat) (F : Foot) (s : SDev) (h : DAt w p F s) (i : Nat) (hi : i + 2 ≤ s.now.length) :
    Calls Tryd.prog 25 #[.pointer (some ⟨p, 0, none⟩), .int .i64 (i : Int)] w (OpenPost w p i (recT (decS (s.now.getD i []))).1 (recT (decS (s.now.getD (i + 1) []))).1 (recT (decS (s.now.getD i []))).2 (recT (decS (s.now.getD (i + 1) []))).2) := by
  have hsm := h.ok.small
  have hi1 : i ≤ 2048 := by omega
  have HL1 := Lib.hid (load_any w hT p F s h i (by omega))
  have HL2 := Lib.hid (fun w' (hk : Keeps (fun _ => True) w w') => load_any w' (hT.keep hk) p F s (h.keep (hk.mono fun _ _ _ => trivial)) (i + 1) (by omega))
  have HTH := Lib.hid (there_yes w p F s h i hi)
  have ht1 := recT_le (s.now.getD i [])
  have ht2 := recT_le (s.now.getD (i + 1) [])
  simp only [recV_is] at HL1 HL2
  generalize (recT (decS (s.now.getD i []))) = r1 at *
  generalize (recT (decS (s.now.getD (i + 1) []))) = r2 at *
  obtain ⟨t1, x1⟩ := r1
  obtain ⟨t2, x2⟩ := r2
  simp only at *
  clear h hT hi hsm
  go_enter Tryd.func25, Tryd.ntmps25
  go_wp2_with fail
  refine HTH.out.mono ?_
  rintro e w' ⟨rfl, rfl⟩
  go_wp2_with fail
  refine HL1.out.mono ?_
  rintro e w1 ⟨rfl, hk1⟩
  have HK1 := Lib.hid hk1
  have HL2' := Lib.hid (HL2.out w1 hk1)
  clear hk1 HL2 HL1 HTH
  go_wp2_with fail
  refine (show Calls _ _ _ _ _ from HL2'.out).mono ?_
  rintro e w2 ⟨rfl, hk2⟩
  have HK2 := Lib.hid (HK1.out.trans hk2)
  clear hk2 HL2' HK1
  have hcs : (decide (t1 < t2) = false ∧ ((t1 : Int) == 0) = false ∧ t2 ≤ t1 ∧ 1 ≤ t1) ∨ (decide (t1 < t2) = true ∧ ((t2 : Int) == 0) = false ∧ t1 < t2) ∨ (decide (t1 < t2) = false ∧ ((t1 : Int) == 0) = true ∧ t1 = 0 ∧ t2 = 0) := by
    by_cases h : t1 < t2
    · right; left; exact ⟨by simpa using h, by simp; omega, h⟩
    · by_cases h0 : t1 = 0
      · right; right; exact ⟨by simpa using h, by simp; omega, h0, by omega⟩
      · left; exact ⟨by simpa using h, by simp; omega, by omega, by omega⟩
  have HFIN := Lib.hid (show ∀ C, Keeps (fun _ => True) w ((((w2.alloc (.cells #[.int .i64 (t1 : Int), .string (txt x1)] 66)).alloc (.cells #[.int .i64 (t2 : Int), .string (txt x2)] 66)).alloc C)) from fun C => ((HK2.out.alloc _).alloc _).alloc C)
  rcases hcs with ⟨b1, b2, b3⟩ | ⟨b1, b2, b3⟩ | ⟨b1, b2, b3⟩
  · have HC := Lib.hid b3
    clear b3
    go_wp2_with fail
    go_ret2
    exact .inl ⟨HC.out.1, HC.out.2, _, rfl, blk_new _ _ _ p i (i + 1) t1 x1 _ rfl _ (by omega) _ rfl rfl (by simp), by have := HK2.out.size; omega, HFIN.out _⟩
  · have HC := Lib.hid b3
    clear b3
    go_wp2_with fail
    go_ret2
    exact .inr (.inl ⟨HC.out, _, rfl, blk_new _ _ _ p (i + 1) i t2 x2 _ (by omega) _ rfl _ rfl rfl (by simp), by have := HK2.out.size; omega, (HFIN.out _).alloc _⟩)
  · have HC := Lib.hid b3
    clear b3
    go_wp2_with fail
    go_ret2
    exact .inr (.inr ⟨HC.out.1, HC.out.2, rfl, HFIN.out _⟩)
end Go.Proofs.YtmnjdlnjhomhnaaDoor
