/-
  THE REFERENCE's EqItems (layer 7).
-/
import Derived.Test.YtpijhpfcigjkeaaDoorItemRef
import Derived.Deep.RegionWith
import Derived.Deep.RegionLaw
import Derived.WalkSpells
import Derived.Lib.SmallJoins
import Derived.BigQuiet
namespace Go.Proofs.YtpijhpfcigjkeaaDoor
open Go Go.RowKit Go.Joins

theorem take_eq {l m : List It} {k : Nat} (h : l.take k = m.take k) (hl : k < l.length) (hm : k < m.length) (e : l[k] = m[k]) : l.take (k + 1) = m.take (k + 1) := by
  rw [List.take_succ_eq_append_getElem hl, List.take_succ_eq_append_getElem hm, h, e]
set_option maxRecDepth 100000 in
set_option maxHeartbeats 1000000 in
theorem reqItems (w : World) (A B : Option Addr) (c d : Nat) (l m : List It) (hA : ItsAt w A (fun b => b < w.heap.size) l) (hB : ItsAt w B (fun b => b < w.heap.size) m) (hl : l.length ≤ c) (_hm : m.length ≤ d) (hc : c ≤ maxLen) (_hd : d ≤ maxLen) (hf : ∀ x ∈ l, x.fits) (hg : ∀ x ∈ m, x.fits) (r : Bool) (hr : decide (l = m) = r) :
    Calls Tryd.prog 31 #[.slice A l.length c, .slice B m.length d] w fun e w' => e = .returned (.bool r) ∧ Keeps (fun _ => True) w w' := by
  unfold maxLen at hc _hd
  have HA := Lib.hid hA
  have HB := Lib.hid hB
  have HF := Lib.hid hf
  have HG := Lib.hid hg
  clear hA hB hf hg
  by_cases hlen : l.length = m.length
  · have HR := Lib.hid hr
    have HL := Lib.hid hlen
    rw [← hlen] at _hm ⊢
    clear hr hlen
    go_enter Tryd.func31, Tryd.ntmps31
    go_wp2_with fail
    go_loopw [5] (fun i wr => ∃ k : Nat, k ≤ l.length ∧ i = .int .i64 k ∧ l.take k = m.take k ∧ Keeps (fun _ => True) w wr) (fun i _ => l.length - (intOf i).toNat)
    case atStart => exact ⟨0, Nat.zero_le _, rfl, rfl, Keeps.refl _ _⟩
    case round =>
      obtain ⟨k, hk, rfl, htk, hkp⟩ := hrel
      have HK := Lib.hid hkp
      have HT := Lib.hid htk
      clear hkp htk
      by_cases hlt : k < l.length
      · have t1 : decide ((k : Int) < (l.length : Int)) = true := by simp; omega
        have hlm : k < m.length := by have := HL.out; omega
        obtain ⟨b, o, rfl, -, c0, c1, c2, c3⟩ := (HA.out.keep (HK.out.mono fun _ _ _ => trivial)) k hlt
        obtain ⟨b', o', rfl, -, d0, d1, d2, d3⟩ := (HB.out.keep (HK.out.mono fun _ _ _ => trivial)) k hlm
        have fx := HF.out _ (List.getElem_mem hlt)
        have fy := HG.out _ (List.getElem_mem hlm)
        have HN := Lib.hid (take_eq HT.out hlt hlm)
        have HNE := Lib.hid (show l[k] ≠ m[k] → r = false from fun hne => by
          rw [← HR.out]
          simp only [decide_eq_false_iff_not]
          intro e; subst e; exact hne rfl)
        generalize l[k] = x at c0 c1 c2 c3 fx HN HNE
        generalize m[k] = y at d0 d1 d2 d3 fy HN HNE
        by_cases hxy : x = y
        · have RE := fun w => reqItem w x y fx fy true (by simpa using hxy)
          have HN' := Lib.hid (HN.out hxy)
          clear fx fy HN HNE hxy
          go_wp2_with fail
          go_region_with (go_at_call 24; ((with_reducible refine (RE _).mono ?_); rintro e w' ⟨rfl, hk1⟩))
          all_goals
            have HK1 := Lib.hid ((HK.out.drew).trans hk1)
            clear hk1 c0 c1 c2 c3 d0 d1 d2 d3 RE
            go_wp2_with fail
            go_roundw
            case rel => exact ⟨k + 1, by omega, by go_num, HN'.out, HK1.out⟩
            case measure => simp [intOf]; omega
        · have RE := fun w => reqItem w x y fx fy false (by simpa using hxy)
          have HNE' := Lib.hid (HNE.out hxy)
          clear fx fy HN HNE hxy
          go_wp2_with fail
          go_region_with (go_at_call 24; ((with_reducible refine (RE _).mono ?_); rintro e w' ⟨rfl, hk1⟩))
          all_goals
            have HK1 := Lib.hid ((HK.out.drew).trans hk1)
            clear hk1 c0 c1 c2 c3 d0 d1 d2 d3 RE
            go_wp2_with fail
            go_ret
            exact ⟨by rw [HNE'.out]; rfl, HK1.out⟩
      · have t1 : decide ((k : Int) < (l.length : Int)) = false := by simp; omega
        obtain rfl : k = l.length := by omega
        have he : r = true := by
          have h1 := HT.out
          rw [List.take_of_length_le (Nat.le_refl _), List.take_of_length_le (by have := HL.out; omega)] at h1
          rw [← HR.out, h1]; simp
        have HE := Lib.hid he
        clear he
        go_wp2_with fail
        go_ret
        exact ⟨by rw [HE.out]; rfl, HK.out⟩
  · have t0 : ((l.length : Int) != (m.length : Int)) = true := by simp; omega
    have he : r = false := by
      rw [← hr]
      simp only [decide_eq_false_iff_not]
      intro e; exact hlen (by rw [e])
    subst he
    clear hr
    go_enter Tryd.func31, Tryd.ntmps31
    go_wp2_with fail
    go_ret
    exact ⟨rfl, Keeps.refl _ _⟩

end Go.Proofs.YtpijhpfcigjkeaaDoor
