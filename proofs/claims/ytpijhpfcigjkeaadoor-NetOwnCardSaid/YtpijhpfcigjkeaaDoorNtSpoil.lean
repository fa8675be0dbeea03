/-
  'spoil' OF LAYER 20: a message's lists are overwritten, and nothing else.
-/
import Derived.Test.YtpijhpfcigjkeaaDoorNtLocs
namespace Go.Proofs.YtpijhpfcigjkeaaDoor
open Go Go.RowKit Go.Joins

/-- What has been overwritten lies in blocks of kind G. -/
structure Spl (G : Nat → Prop) (w wr : World) : Prop where
  keep : Keeps (fun b => ¬ G b) w wr
  cell : ∀ p, (w.cell? p).isSome = true → (wr.cell? p).isSome = true
  frz : ∀ p : Addr, p.block < w.heap.size → wr.frozen? p = w.frozen? p
theorem Spl.refl (G : Nat → Prop) (w : World) : Spl G w w := ⟨Keeps.refl _ _, fun _ h => h, fun _ _ => rfl⟩
theorem Spl.set {G : Nat → Prop} {w wr : World} (h : Spl G w wr) {b o : Nat} (hb : G b) (v : Value) : Spl G w (wr.setCell ⟨b, o, none⟩ v) := by
  refine ⟨h.keep.setCell (p := ⟨b, o, none⟩) (.inr fun hn => hn hb) v, fun p hp => ?_, fun p hp => ?_⟩
  · obtain ⟨u, hu⟩ := Option.isSome_iff_exists.1 (h.cell p hp)
    by_cases e : (⟨b, o, none⟩ : Addr) = p
    · subst e
      rw [World.cell?_setCell_same _ _ _ hu]; rfl
    · rw [World.cell?_setCell_other _ _ _ _ e, hu]; rfl
  · rw [World.frozen?_setCell]; exact h.frz p hp
/-- A cell that was there, of a block that may be written. -/
theorem Spl.at_ {G : Nat → Prop} {w wr : World} (h : Spl G w wr) {b o : Nat} {v : Value} (hc : w.cell? ⟨b, o, none⟩ = some v) (hf : w.frozen? ⟨b, o, none⟩ = false) : ∃ u, wr.cell? ⟨b, o, none⟩ = some u ∧ wr.frozen? ⟨b, o, none⟩ = false := by
  obtain ⟨u, hu⟩ := Option.isSome_iff_exists.1 (h.cell ⟨b, o, none⟩ (by rw [hc]; rfl))
  exact ⟨u, hu, by rw [h.frz _ (World.block_lt_of_cell? w _ hc)]; exact hf⟩

set_option maxRecDepth 100000 in
set_option maxHeartbeats 4000000 in
theorem spoil_any (w : World) (m : Ms) (a : MsA) (G : Nat → Prop) (hG : ∀ b, G b → b < w.heap.size) (h1 : ItsAt w a.ia G m.items) (h2 : MksAt w a.ma G m.marks) (h3 : Row w a.ba G (m.mem.map (Value.int .i64))) (hf : MsFree w m a)
    (l1 : m.items.length ≤ 1000 ∧ m.items.length ≤ a.ic) (l2 : m.marks.length ≤ 1000 ∧ m.marks.length ≤ a.mc) (l3 : m.mem.length ≤ 1000 ∧ m.mem.length ≤ a.bc) :
    Calls Tryd.prog 19 #[msV m a] w fun e w' => e = .returned (.tuple #[]) ∧ Keeps (fun b => ¬ G b) w w' := by
  have HGL := Lib.hid hG
  have H1 := Lib.hid h1
  have H2 := Lib.hid h2
  have H3 := Lib.hid h3
  have HFR := Lib.hid hf
  obtain ⟨vM, hvM⟩ : ∃ v, msV m a = v := ⟨_, rfl⟩
  have HVM := Lib.hid hvM
  rw [hvM]
  obtain ⟨n1, hn1⟩ : ∃ n, m.items.length = n := ⟨_, rfl⟩
  obtain ⟨n2, hn2⟩ : ∃ n, m.marks.length = n := ⟨_, rfl⟩
  obtain ⟨n3, hn3⟩ : ∃ n, m.mem.length = n := ⟨_, rfl⟩
  rw [hn1] at l1
  rw [hn2] at l2
  rw [hn3] at l3
  obtain ⟨l1a, l1b⟩ := l1
  obtain ⟨l2a, l2b⟩ := l2
  obtain ⟨l3a, l3b⟩ := l3
  have HN := Lib.hid (And.intro hn1 (And.intro hn2 hn3))
  clear hG h1 h2 h3 hf hvM hn1 hn2 hn3
  go_enter Tryd.func19, Tryd.ntmps19
  go_upto_region 1 with (refine list_boxM rfl (.tmp 0) rfl m a HVM.out.symm ?_; intro w1 hb1 hk1 hs1)
  obtain ⟨g, hg⟩ : ∃ g, w.heap.size = g := ⟨_, rfl⟩
  have hng : ¬ G g := fun h => by have := HGL.out g h; omega
  rw [hg] at hb1 ⊢
  have HB := Lib.hid hb1
  have HK := Lib.hid hk1
  have HG := Lib.hid hng
  have HW := Lib.hid (show ∀ wr, Spl G w1 wr → MB wr g m a from fun wr h => HB.out.keep h.keep HG.out)
  have HFR1 := Lib.hid (show ∀ (A : Option Addr) (n : Nat), Unfr w A n → 0 < n → ∀ b o, A = some ⟨b, o, none⟩ → b < w.heap.size → ∀ i, w1.frozen? ⟨b, i, none⟩ = false from fun A n h hn b o e hb i => by
    rw [HK.out.frozen (p := ⟨b, i, none⟩) hb trivial]; exact h b o hn e i)
  clear hb1 hk1 hs1 hng
  go_wp2_with fail
  go_loopw [2] (fun i wr => ∃ j : Nat, j ≤ n1 ∧ i = .int .i64 (j : Int) ∧ Hid (Spl G w1 wr)) (fun i _ => n1 - (intOf i).toNat)
  case atStart => exact ⟨0, Nat.zero_le _, rfl, Lib.hid (Spl.refl G w1)⟩
  case round =>
    obtain ⟨j, hj, rfl, HS⟩ := hrel
    have c16 := (HW.out wr HS.out).cell 16 (.slice a.ia m.items.length a.ic) rfl
    rw [HN.out.1] at c16
    by_cases hlt : j < n1
    · have p1 : (j : Int) < (n1 : Int) := by omega
      obtain ⟨b, o, e, hGb, d0, -, -, -⟩ := H1.out j (by rw [HN.out.1]; exact hlt)
      rw [e] at c16
      obtain ⟨u, cu, fu⟩ := HS.out.at_ (HK.out.cell d0 trivial) (HFR1.out _ _ HFR.out.its (by rw [HN.out.1]; omega) b o e (World.block_lt_of_cell? w _ d0) _)
      have HS2 := Lib.hid (HS.out.set (o := o + j * 4) hGb (.string ⟨#[115, 112, 111, 105, 108, 116]⟩))
      generalize (m.items[j]'(by rw [HN.out.1]; exact hlt)) = it at d0
      clear d0 HS e
      go_wp2_with fail
      go_roundw
      case rel => exact ⟨j + 1, hlt, by go_num, HS2⟩
      case measure => simp [intOf]; omega
    · obtain rfl : j = n1 := by omega
      have p1 : ¬ (j : Int) < (j : Int) := by omega
      clear hlt hj
      go_wp2_with fail
      go_loopw [3] (fun i wr => ∃ j : Nat, j ≤ n2 ∧ i = .int .i64 (j : Int) ∧ Hid (Spl G w1 wr)) (fun i _ => n2 - (intOf i).toNat)
      case atStart => exact ⟨0, Nat.zero_le _, rfl, HS⟩
      case round =>
        clear HS c16
        obtain ⟨j2, hj, rfl, HS⟩ := hrel
        have c17 := (HW.out wr HS.out).cell 17 (.slice a.ma m.marks.length a.mc) rfl
        rw [HN.out.2.1] at c17
        by_cases hlt : j2 < n2
        · have p1 : (j2 : Int) < (n2 : Int) := by omega
          obtain ⟨b, o, e, hGb, d0, -⟩ := H2.out j2 (by rw [HN.out.2.1]; exact hlt)
          rw [e] at c17
          obtain ⟨u, cu, fu⟩ := HS.out.at_ (HK.out.cell d0 trivial) (HFR1.out _ _ HFR.out.mks (by rw [HN.out.2.1]; omega) b o e (World.block_lt_of_cell? w _ d0) _)
          have HS2 := Lib.hid (HS.out.set (o := o + j2 * 2) hGb (.int .i64 (-5)))
          generalize (m.marks[j2]'(by rw [HN.out.2.1]; exact hlt)) = mk at d0
          clear d0 HS e
          go_wp2_with fail
          go_roundw
          case rel => exact ⟨j2 + 1, hlt, by go_num, HS2⟩
          case measure => simp [intOf]; omega
        · obtain rfl : j2 = n2 := by omega
          have p1 : ¬ (j2 : Int) < (j2 : Int) := by omega
          clear hlt hj
          go_wp2_with fail
          go_loopw [4] (fun i wr => ∃ j : Nat, j ≤ n3 ∧ i = .int .i64 (j : Int) ∧ Hid (Spl G w1 wr)) (fun i _ => n3 - (intOf i).toNat)
          case atStart => exact ⟨0, Nat.zero_le _, rfl, HS⟩
          case round =>
            clear HS c17
            obtain ⟨j3, hj, rfl, HS⟩ := hrel
            have c18 := (HW.out wr HS.out).cell 18 (.slice a.ba m.mem.length a.bc) rfl
            rw [HN.out.2.2] at c18
            by_cases hlt : j3 < n3
            · have p1 : (j3 : Int) < (n3 : Int) := by omega
              obtain ⟨b, o, e, hGb, d0⟩ := H3.out.at_ (k := j3) (by rw [List.length_map, HN.out.2.2]; exact hlt)
              rw [e] at c18
              obtain ⟨u, cu, fu⟩ := HS.out.at_ (HK.out.cell d0 trivial) (HFR1.out _ _ HFR.out.mem (by rw [HN.out.2.2]; omega) b o e (World.block_lt_of_cell? w _ d0) _)
              have HS2 := Lib.hid (HS.out.set (o := o + j3) hGb (.int .i64 77))
              generalize ((m.mem.map (Value.int .i64))[j3]'(by rw [List.length_map, HN.out.2.2]; exact hlt)) = z at d0
              clear d0 HS e
              go_wp2_with fail
              go_roundw
              case rel => exact ⟨j3 + 1, hlt, by go_num, HS2⟩
              case measure => simp [intOf]; omega
            · obtain rfl : j3 = n3 := by omega
              have p1 : ¬ (j3 : Int) < (j3 : Int) := by omega
              clear hlt hj
              go_wp2_with fail
              go_end0
              exact ⟨rfl, (HK.out.mono fun _ _ _ => trivial : Keeps (fun b => ¬ G b) w w1).trans HS.out.keep⟩

end Go.Proofs.YtpijhpfcigjkeaaDoor
