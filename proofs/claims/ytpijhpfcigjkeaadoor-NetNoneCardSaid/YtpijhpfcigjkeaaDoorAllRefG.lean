/- Texts of one proof, behind one another: each says above its part what it proves and on which conditions. -/
import Derived.Test.YtpijhpfcigjkeaaDoorMsLocs
import Derived.Test.YtpijhpfcigjkeaaDoorItemRef
import Derived.BigQuiet
import Derived.Test.YtpijhpfcigjkeaaDoorMsHead
import Derived.Test.YtpijhpfcigjkeaaDoorNodesRef
import Derived.Test.YtpijhpfcigjkeaaDoorAllCutG
import Derived.Test.YtpijhpfcigjkeaaDoorItemEq
/-
  THE REFERENCE's num, EqInts, EqMarks (layer 19).
-/
section
namespace Go.Proofs.YtpijhpfcigjkeaaDoor
open Go Go.RowKit Go.Joins

theorem rnum_any (w : World) (z : Int) : Calls Tryd.prog 23 #[.int .i64 z] w fun e w' => e = .returned (.bool (numB z)) ∧ w = w' := by
  have hcase : (decide (0 ≤ z) = true ∧ decide (z ≤ 1099511627776) = true) ∨ (decide (0 ≤ z) = true ∧ decide (z ≤ 1099511627776) = false) ∨ decide (0 ≤ z) = false := by
    cases h1 : decide (0 ≤ z) <;> cases h2 : decide (z ≤ 1099511627776) <;> simp
  have HM := Lib.hid (show numB z = (decide (0 ≤ z) && decide (z ≤ 1099511627776)) from rfl)
  generalize numB z = b at HM ⊢
  rcases hcase with ⟨t1, t2⟩ | ⟨t1, t2⟩ | t1
  all_goals (
    go_enter Tryd.func23, Tryd.ntmps23
    go_wp2_with fail
    go_ret
    exact ⟨by simp [HM.out, *], rfl⟩)

theorem take_same {α : Type} {l m : List α} {k : Nat} (h : l.take k = m.take k) (hl : k < l.length) (hm : k < m.length) (e : l[k] = m[k]) : l.take (k + 1) = m.take (k + 1) := by
  rw [List.take_succ_eq_append_getElem hl, List.take_succ_eq_append_getElem hm, h, e]
set_option maxRecDepth 100000 in
set_option maxHeartbeats 1000000 in
theorem reqInts (w : World) (A B : Option Addr) (c d : Nat) (l m : List Int) (hA : Row w A (fun _ => True) (l.map (Value.int .i64))) (hB : Row w B (fun _ => True) (m.map (Value.int .i64))) (hl : l.length ≤ 1000) (hm : m.length ≤ 1000) (r : Bool) (hr : decide (l = m) = r) :
    Calls Tryd.prog 33 #[.slice A l.length c, .slice B m.length d] w fun e w' => e = .returned (.bool r) ∧ Kp w w' := by
  have HA := Lib.hid hA
  have HB := Lib.hid hB
  clear hA hB
  by_cases hlen : l.length = m.length
  · have HR := Lib.hid hr
    have HL := Lib.hid hlen
    rw [← hlen] at hm ⊢
    obtain ⟨N, hN⟩ : ∃ N, l.length = N := ⟨_, rfl⟩
    have HN := Lib.hid hN
    rw [hN] at hm hl ⊢
    have t0 : ((N : Int) != (N : Int)) = false := by simp
    clear hr hlen hN
    go_enter Tryd.func33, Tryd.ntmps33
    go_wp2_with fail
    go_loopw [5] (fun i wr => ∃ k : Nat, k ≤ N ∧ i = .int .i64 (k : Int) ∧ Hid (l.take k = m.take k) ∧ Hid (Kp w wr)) (fun i _ => N - (intOf i).toNat)
    case atStart => exact ⟨0, Nat.zero_le _, rfl, Lib.hid rfl, Lib.hid (Keeps.refl _ _)⟩
    case round =>
      obtain ⟨k, hk, rfl, HT, HK⟩ := hrel
      by_cases hkN : k < N
      · have hkI : (k : Int) < (N : Int) := by omega
        have hkl : k < l.length := by rw [HN.out]; exact hkN
        have hkm : k < m.length := by rw [← HL.out]; exact hkl
        obtain ⟨b, o, rfl, -, c0⟩ := (HA.out.keep HK.out).at_ (k := k) (by rw [List.length_map]; exact hkl)
        obtain ⟨b2, o2, rfl, -, c1⟩ := (HB.out.keep HK.out).at_ (k := k) (by rw [List.length_map]; exact hkm)
        rw [List.getElem_map] at c0 c1
        have HS := Lib.hid (take_same HT.out hkl hkm)
        have HNE := Lib.hid (show l[k] ≠ m[k] → r = false from fun hne => by
          rw [← HR.out]
          simp only [decide_eq_false_iff_not]
          intro e; subst e; exact hne rfl)
        have HK2 := Lib.hid HK.out.drew
        generalize l[k] = x at c0 HS HNE
        generalize m[k] = y at c1 HS HNE
        clear hkl hkm
        by_cases hxy : x = y
        · subst hxy
          have t1 : (x != x) = false := by simp
          have HS2 := Lib.hid (HS.out rfl)
          clear HS HNE
          go_wp2_with fail
          go_region
          all_goals (
            go_wp2_with fail
            go_roundw
            case rel => exact ⟨k + 1, by omega, by go_num, HS2, HK2⟩
            case measure => simp [intOf]; omega)
        · have t1 : (x != y) = true := by simpa using hxy
          have HE := Lib.hid (HNE.out hxy)
          clear HS HNE hxy
          go_wp2_with fail
          go_region
          all_goals (
            go_wp2_with fail
            go_ret
            exact ⟨by rw [HE.out]; rfl, HK2.out⟩)
      · obtain rfl : k = N := by omega
        have HE := Lib.hid (show r = true from by
          have h1 := HT.out
          rw [List.take_of_length_le (by rw [HN.out]; exact Nat.le_refl _), List.take_of_length_le (by rw [← HL.out, HN.out]; exact Nat.le_refl _)] at h1
          rw [← HR.out, h1]; simp)
        clear hkN
        go_wp2_with fail
        go_ret
        exact ⟨by rw [HE.out]; rfl, HK.out⟩
  · have t0 : ((l.length : Int) != (m.length : Int)) = true := by simp; omega
    have he : r = false := by
      rw [← hr]
      simp only [decide_eq_false_iff_not]
      intro e; exact hlen (by rw [e])
    subst he
    clear hr
    go_enter Tryd.func33, Tryd.ntmps33
    go_wp2_with fail
    go_ret
    exact ⟨rfl, Keeps.refl _ _⟩

set_option maxRecDepth 100000 in
set_option maxHeartbeats 1000000 in
theorem reqMarks (w : World) (A B : Option Addr) (c d : Nat) (l m : List Mk) (hA : MksAt w A (fun _ => True) l) (hB : MksAt w B (fun _ => True) m) (hl : l.length ≤ 1000) (hm : m.length ≤ 1000) (r : Bool) (hr : decide (l = m) = r) :
    Calls Tryd.prog 32 #[.slice A l.length c, .slice B m.length d] w fun e w' => e = .returned (.bool r) ∧ Kp w w' := by
  have HA := Lib.hid hA
  have HB := Lib.hid hB
  clear hA hB
  by_cases hlen : l.length = m.length
  · have HR := Lib.hid hr
    have HL := Lib.hid hlen
    rw [← hlen] at hm ⊢
    obtain ⟨N, hN⟩ : ∃ N, l.length = N := ⟨_, rfl⟩
    have HN := Lib.hid hN
    rw [hN] at hm hl ⊢
    have t0 : ((N : Int) != (N : Int)) = false := by simp
    clear hr hlen hN
    go_enter Tryd.func32, Tryd.ntmps32
    go_wp2_with fail
    go_loopw [5] (fun i wr => ∃ k : Nat, k ≤ N ∧ i = .int .i64 (k : Int) ∧ Hid (l.take k = m.take k) ∧ Hid (Kp w wr)) (fun i _ => N - (intOf i).toNat)
    case atStart => exact ⟨0, Nat.zero_le _, rfl, Lib.hid rfl, Lib.hid (Keeps.refl _ _)⟩
    case round =>
      obtain ⟨k, hk, rfl, HT, HK⟩ := hrel
      by_cases hkN : k < N
      · have hkI : (k : Int) < (N : Int) := by omega
        have hkl : k < l.length := by rw [HN.out]; exact hkN
        have hkm : k < m.length := by rw [← HL.out]; exact hkl
        obtain ⟨b, o, rfl, -, c0, c1⟩ := (HA.out.keep HK.out) k hkl
        obtain ⟨b2, o2, rfl, -, d0, d1⟩ := (HB.out.keep HK.out) k hkm
        have HS := Lib.hid (take_same HT.out hkl hkm)
        have HNE := Lib.hid (show l[k] ≠ m[k] → r = false from fun hne => by
          rw [← HR.out]
          simp only [decide_eq_false_iff_not]
          intro e; subst e; exact hne rfl)
        have HK2 := Lib.hid HK.out.drew
        generalize l[k] = x at c0 c1 HS HNE
        generalize m[k] = y at d0 d1 HS HNE
        obtain ⟨xq, xk⟩ := x
        obtain ⟨yq, yk⟩ := y
        simp only at c0 c1 d0 d1
        clear hkl hkm
        have hcs : ((xq != yq) = true ∧ r = false) ∨ ((xq != yq) = false ∧ (xk.toList == yk.toList) = false ∧ r = false) ∨ ((xq != yq) = false ∧ (xk.toList == yk.toList) = true ∧ l.take (k + 1) = m.take (k + 1)) := by
          by_cases h1 : xq = yq
          · right
            have e1 : (xq != yq) = false := by simpa using h1
            by_cases h2 : xk = yk
            · right; exact ⟨e1, by rw [h2]; simp, HS.out (by rw [h1, h2])⟩
            · left
              have e2 : (xk.toList == yk.toList) = false := by
                rw [str_same xk yk]
                exact decide_eq_false h2
              exact ⟨e1, e2, HNE.out (fun e => h2 (by injection e))⟩
          · left; exact ⟨by simpa using h1, HNE.out (fun e => h1 (by injection e))⟩
        clear HS HNE
        rcases hcs with ⟨t1, t2⟩ | ⟨t1, t2, t3⟩ | ⟨t1, t2, t3⟩
        · have HE := Lib.hid t2
          clear t2
          go_wp2_with fail
          go_region
          all_goals (
            go_wp2_with fail
            go_ret
            exact ⟨by rw [HE.out]; rfl, HK2.out⟩)
        · have HE := Lib.hid t3
          clear t3
          go_wp2_with fail
          go_region
          all_goals (
            go_wp2_with fail
            go_ret
            exact ⟨by rw [HE.out]; rfl, HK2.out⟩)
        · have HS2 := Lib.hid t3
          clear t3
          go_wp2_with fail
          go_region
          all_goals (
            go_wp2_with fail
            go_roundw
            case rel => exact ⟨k + 1, by omega, by go_num, HS2, HK2⟩
            case measure => simp [intOf]; omega)
      · obtain rfl : k = N := by omega
        have HE := Lib.hid (show r = true from by
          have h1 := HT.out
          rw [List.take_of_length_le (by rw [HN.out]; exact Nat.le_refl _), List.take_of_length_le (by rw [← HL.out, HN.out]; exact Nat.le_refl _)] at h1
          rw [← HR.out, h1]; simp)
        clear hkN
        go_wp2_with fail
        go_ret
        exact ⟨by rw [HE.out]; rfl, HK.out⟩
  · have t0 : ((l.length : Int) != (m.length : Int)) = true := by simp; omega
    have he : r = false := by
      rw [← hr]
      simp only [decide_eq_false_iff_not]
      intro e; exact hlen (by rw [e])
    subst he
    clear hr
    go_enter Tryd.func32, Tryd.ntmps32
    go_wp2_with fail
    go_ret
    exact ⟨rfl, Keeps.refl _ _⟩

end Go.Proofs.YtpijhpfcigjkeaaDoor
end

/-
  THE REFERENCE's Msg (layer 19). WRITTEN by wip/gen19m.py.
-/
section
namespace Go.Proofs.YtpijhpfcigjkeaaDoor
open Go Go.RowKit Go.Joins

def may1V (g : Nat) (m : Ms) (p3 p7 p12 p17 p22 p27 p34 p40 p46 p52 p58 p64 p69 p74 p79 p84 p90 p95 p100 : Bool) : List Value :=
  [.pointer (some ⟨g, 0, none⟩), .int .i64 m.kind, .bool (decide (m.kind < (1 : Int))), .bool p3, cond p3 undef (.pointer (some ⟨g, 0, none⟩)), cond p3 undef (.int .i64 m.kind), cond p3 undef (.bool (decide ((14 : Int) < m.kind))), .bool p7, .bool p7, cond p7 undef (.pointer (some ⟨g, 1, none⟩)), cond p7 undef (.int .i64 m.frm), cond p7 undef (.bool (decide (m.frm < (0 : Int)))), .bool p12, .bool p12, cond p12 undef (.pointer (some ⟨g, 1, none⟩)), cond p12 undef (.int .i64 m.frm), cond p12 undef (.bool (decide ((5 : Int) < m.frm))), .bool p17, .bool p17, cond p17 undef (.pointer (some ⟨g, 2, none⟩)), cond p17 undef (.int .i64 m.to_), cond p17 undef (.bool (decide (m.to_ < (0 : Int)))), .bool p22, .bool p22, cond p22 undef (.pointer (some ⟨g, 2, none⟩)), cond p22 undef (.int .i64 m.to_), cond p22 undef (.bool (decide ((5 : Int) < m.to_))), .bool p27, .bool p27, cond p27 undef (.pointer (some ⟨g, 1, none⟩)), cond p27 undef (.int .i64 m.frm), cond p27 undef (.pointer (some ⟨g, 2, none⟩)), cond p27 undef (.int .i64 m.to_), cond p27 undef (.bool (m.frm == m.to_)), .bool p34, .bool p34, cond p34 undef (.pointer (some ⟨g, 3, none⟩)), cond p34 undef (.int .i64 m.epoch), cond p34 undef (.bool (numB m.epoch)), cond p34 undef (.bool (!(numB m.epoch))), .bool p40, .bool p40, cond p40 undef (.pointer (some ⟨g, 4, none⟩)), cond p40 undef (.int .i64 m.tick), cond p40 undef (.bool (numB m.tick)), cond p40 undef (.bool (!(numB m.tick))), .bool p46, .bool p46, cond p46 undef (.pointer (some ⟨g, 5, none⟩)), cond p46 undef (.int .i64 m.seq), cond p46 undef (.bool (numB m.seq)), cond p46 undef (.bool (!(numB m.seq))), .bool p52, .bool p52, cond p52 undef (.pointer (some ⟨g, 7, none⟩)), cond p52 undef (.int .i64 m.id), cond p52 undef (.bool (numB m.id)), cond p52 undef (.bool (!(numB m.id))), .bool p58, .bool p58, cond p58 undef (.pointer (some ⟨g, 19, none⟩)), cond p58 undef (.int .i64 m.base), cond p58 undef (.bool (numB m.base)), cond p58 undef (.bool (!(numB m.base))), .bool p64, .bool p64, cond p64 undef (.pointer (some ⟨g, 6, none⟩)), cond p64 undef (.int .i64 m.n), cond p64 undef (.bool (decide (m.n < (0 : Int)))), .bool p69, .bool p69, cond p69 undef (.pointer (some ⟨g, 6, none⟩)), cond p69 undef (.int .i64 m.n), cond p69 undef (.bool (decide ((1073741824 : Int) < m.n))), .bool p74, .bool p74, cond p74 undef (.pointer (some ⟨g, 8, none⟩)), cond p74 undef (.int .i64 m.op), cond p74 undef (.bool (decide (m.op < (0 : Int)))), .bool p79, .bool p79, cond p79 undef (.pointer (some ⟨g, 8, none⟩)), cond p79 undef (.int .i64 m.op), cond p79 undef (.bool (decide ((2 : Int) < m.op))), .bool p84, .bool p84, cond p84 undef (.pointer (some ⟨g, 9, none⟩)), cond p84 undef (.string m.key), cond p84 undef (.int .i64 ((m.key.size : Nat) : Int)), cond p84 undef (.bool (decide ((40 : Int) < ((m.key.size : Nat) : Int)))), .bool p90, .bool p90, cond p90 undef (.pointer (some ⟨g, 10, none⟩)), cond p90 undef (.int .i64 m.err), cond p90 undef (.bool (decide (m.err < (0 : Int)))), .bool p95, .bool p95, cond p95 undef (.pointer (some ⟨g, 10, none⟩)), cond p95 undef (.int .i64 m.err), cond p95 undef (.bool (decide ((10 : Int) < m.err))), .bool p100]
def may1G (p3 p7 p12 p17 p22 p27 p34 p40 p46 p52 p58 p64 p69 p74 p79 p84 p90 p95 _p100 : Bool) : List (Nat × Option Bool) := [(3, some p3), (8, some p7), (13, some p12), (18, some p17), (23, some p22), (28, some p27), (35, some p34), (41, some p40), (47, some p46), (53, some p52), (59, some p58), (65, some p64), (70, some p69), (75, some p74), (80, some p79), (85, some p84), (91, some p90), (96, some p95)]
def may3V (g : Nat) (m : Ms) (a : MsA) (e0 q5 q10 q16 q22 q28 q33 q34 q40 q45 q46 : Bool) : List Value :=
  [.pointer (some ⟨g, 12, none⟩), .agg #[.string m.item.key, .string m.item.val, .int .i64 m.item.till, .bool m.item.gone], .agg #[.string ⟨#[]⟩, .string ⟨#[]⟩, .int .i64 0, .bool false], .bool e0, .bool (!e0), .bool q5, cond q5 (.pointer (some ⟨g, 12, none⟩)) undef, cond q5 (.agg #[.string m.item.key, .string m.item.val, .int .i64 m.item.till, .bool m.item.gone]) undef, cond q5 (.bool m.item.may) undef, cond q5 (.bool (!(m.item.may))) undef, .bool q10, .bool q10, cond q10 undef (.pointer (some ⟨g, 16, none⟩)), cond q10 undef (.slice a.ia m.items.length a.ic), cond q10 undef (.int .i64 ((m.items.length : Nat) : Int)), cond q10 undef (.bool (decide ((4 : Int) < ((m.items.length : Nat) : Int)))), .bool q16, .bool q16, cond q16 undef (.pointer (some ⟨g, 17, none⟩)), cond q16 undef (.slice a.ma m.marks.length a.mc), cond q16 undef (.int .i64 ((m.marks.length : Nat) : Int)), cond q16 undef (.bool (decide ((4 : Int) < ((m.marks.length : Nat) : Int)))), .bool q22, .bool q22, cond q22 undef (.pointer (some ⟨g, 18, none⟩)), cond q22 undef (.slice a.ba m.mem.length a.bc), cond q22 undef (.int .i64 ((m.mem.length : Nat) : Int)), cond q22 undef (.bool (decide ((0 : Int) < ((m.mem.length : Nat) : Int)))), cond q22 undef (.bool q28), cond q22 undef (cond q28 (.pointer (some ⟨g, 18, none⟩)) undef), cond q22 undef (cond q28 (.slice a.ba m.mem.length a.bc) undef), cond q22 undef (cond q28 (.bool (nodesB m.mem)) undef), cond q22 undef (cond q28 (.bool (!(nodesB m.mem))) undef), cond q22 undef (.bool q33), .bool q34, .bool q34, cond q34 undef (.pointer (some ⟨g, 20, none⟩)), cond q34 undef (.slice a.oa m.old.length a.oc), cond q34 undef (.int .i64 ((m.old.length : Nat) : Int)), cond q34 undef (.bool (decide ((0 : Int) < ((m.old.length : Nat) : Int)))), cond q34 undef (.bool q40), cond q34 undef (cond q40 (.pointer (some ⟨g, 20, none⟩)) undef), cond q34 undef (cond q40 (.slice a.oa m.old.length a.oc) undef), cond q34 undef (cond q40 (.bool (nodesB m.old)) undef), cond q34 undef (cond q40 (.bool (!(nodesB m.old))) undef), cond q34 undef (.bool q45), .bool q46]
def may3G (_e0 q5 q10 q16 q22 q28 _q33 q34 q40 _q45 _q46 : Bool) : List (Nat × Option Bool) := [(5, some q5), (11, some q10), (17, some q16), (23, some q22), (28, cond q22 none (some q28)), (35, some q34), (40, cond q34 none (some q40))]
def may14V (g G b o n c k : Nat) (x y : Int) (s : ByteArray) (s3 s7 kB s13 s17 s28 s29 : Bool) : List Value :=
  [.pointer (some ⟨G, 0, none⟩), .int .i64 x, .bool (decide (x < (1 : Int))), .bool s3, cond s3 undef (.pointer (some ⟨G, 0, none⟩)), cond s3 undef (.int .i64 x), cond s3 undef (.bool (decide ((1099511627776 : Int) < x))), .bool s7, .bool s7, cond s7 undef (.pointer (some ⟨G, 1, none⟩)), cond s7 undef (.string s), cond s7 undef (.bool kB), cond s7 undef (.bool (!kB)), .bool s13, .bool s13, cond s13 undef (.int .i64 (k : Int)), cond s13 undef (.bool (decide ((0 : Int) < (k : Int)))), cond s13 undef (.bool s17), cond s13 undef (cond s17 (.pointer (some ⟨G, 0, none⟩)) undef), cond s13 undef (cond s17 (.int .i64 x) undef), cond s13 undef (cond s17 (.pointer (some ⟨g, 17, none⟩)) undef), cond s13 undef (cond s17 (.slice (some ⟨b, o, none⟩) n c) undef), cond s13 undef (cond s17 (.int .i64 (k : Int)) undef), cond s13 undef (cond s17 (.int .i64 ((k - 1 : Nat) : Int)) undef), cond s13 undef (cond s17 (.pointer (some ⟨b, o + (k - 1) * 2, none⟩)) undef), cond s13 undef (cond s17 (.pointer (some ⟨b, o + (k - 1) * 2, none⟩)) undef), cond s13 undef (cond s17 (.int .i64 y) undef), cond s13 undef (cond s17 (.bool (decide (x ≤ y))) undef), cond s13 undef (.bool s28), .bool s29]
def may14G (s3 s7 _kB s13 s17 _s28 _s29 : Bool) : List (Nat × Option Bool) := [(3, some s3), (8, some s7), (14, some s13), (17, cond s13 none (some s17))]

theorem it0_fits : it0.fits := by
  refine ⟨?_, ?_, ?_, ?_⟩ <;> decide
theorem not_lt19 (a b : Int) : decide (a ≤ b) = !decide (b < a) := by
  by_cases h : a ≤ b
  · have h2 : ¬ b < a := by omega
    simp [h, h2]
  · have h2 : b < a := by omega
    simp [h, h2]
def markE (x : Int) (s : ByteArray) (k : Nat) (y : Int) : Bool := decide (1 ≤ x) && (decide (x ≤ 1099511627776) && ((decide (1 ≤ s.size) && decide (s.size ≤ 40)) && (decide (k = 0) || decide (y < x))))
theorem may_head (m : Ms) (p3 p7 p12 p17 p22 p27 p34 p40 p46 p52 p58 p64 p69 p74 p79 p84 p90 p95 p100 : Bool) (hp3 : (decide (m.kind < (1 : Int))) = p3) (hp7 : (p3 || (decide ((14 : Int) < m.kind))) = p7) (hp12 : (p7 || (decide (m.frm < (0 : Int)))) = p12) (hp17 : (p12 || (decide ((5 : Int) < m.frm))) = p17) (hp22 : (p17 || (decide (m.to_ < (0 : Int)))) = p22) (hp27 : (p22 || (decide ((5 : Int) < m.to_))) = p27) (hp34 : (p27 || (m.frm == m.to_)) = p34) (hp40 : (p34 || (!(numB m.epoch))) = p40) (hp46 : (p40 || (!(numB m.tick))) = p46) (hp52 : (p46 || (!(numB m.seq))) = p52) (hp58 : (p52 || (!(numB m.id))) = p58) (hp64 : (p58 || (!(numB m.base))) = p64) (hp69 : (p64 || (decide (m.n < (0 : Int)))) = p69) (hp74 : (p69 || (decide ((1073741824 : Int) < m.n))) = p74) (hp79 : (p74 || (decide (m.op < (0 : Int)))) = p79) (hp84 : (p79 || (decide ((2 : Int) < m.op))) = p84) (hp90 : (p84 || (decide ((40 : Int) < ((m.key.size : Nat) : Int)))) = p90) (hp95 : (p90 || (decide (m.err < (0 : Int)))) = p95) (hp100 : (p95 || (decide ((10 : Int) < m.err))) = p100) : headB m = !p100 := by
  subst hp3 hp7 hp12 hp17 hp22 hp27 hp34 hp40 hp46 hp52 hp58 hp64 hp69 hp74 hp79 hp84 hp90 hp95 hp100
  have e1 : decide (m.key.size ≤ 40) = !decide ((40 : Int) < ((m.key.size : Nat) : Int)) := by
    rw [← not_lt19]; exact decide_eq_decide.2 (by omega)
  unfold headB
  rw [e1]
  simp only [not_lt19, Bool.not_or, Bool.not_not, Bool.and_assoc]
theorem may_list (m : Ms) (e0 q5 q10 q16 q22 q28 q33 q34 q40 q45 q46 : Bool) (he0 : (decide (m.item = it0)) = e0) (hq5 : (!e0) = q5) (hq10 : (q5 && (!(m.item.may))) = q10) (hq16 : (q10 || (decide ((4 : Int) < ((m.items.length : Nat) : Int)))) = q16) (hq22 : (q16 || (decide ((4 : Int) < ((m.marks.length : Nat) : Int)))) = q22) (hq28 : (decide ((0 : Int) < ((m.mem.length : Nat) : Int))) = q28) (hq33 : (q28 && (!(nodesB m.mem))) = q33) (hq34 : (q22 || q33) = q34) (hq40 : (decide ((0 : Int) < ((m.old.length : Nat) : Int))) = q40) (hq45 : (q40 && (!(nodesB m.old))) = q45) (hq46 : (q34 || q45) = q46) : listB m = !q46 := by
  subst he0 hq5 hq10 hq16 hq22 hq28 hq33 hq34 hq40 hq45 hq46
  have q : ∀ (n k : Nat), decide (n ≤ k) = !decide ((k : Int) < (n : Int)) := fun n k => by
    rw [← not_lt19]; exact decide_eq_decide.2 (by omega)
  have z : ∀ n : Nat, decide (n = 0) = !decide ((0 : Int) < (n : Int)) := fun n => by
    rw [← not_lt19]; exact decide_eq_decide.2 (by omega)
  unfold listB
  rw [q, q, z, z]
  simp only [Bool.not_or, Bool.not_and, Bool.not_not, Bool.and_assoc]
  rfl
theorem may_mark (x y : Int) (s : ByteArray) (k : Nat) (s3 s7 kB s13 s17 s28 s29 : Bool) (hs3 : (decide (x < (1 : Int))) = s3) (hs7 : (s3 || (decide ((1099511627776 : Int) < x))) = s7) (hkB : (decide (1 ≤ s.size) && decide (s.size ≤ 40)) = kB) (hs13 : (s7 || (!kB)) = s13) (hs17 : (decide ((0 : Int) < (k : Int))) = s17) (hs28 : (s17 && (decide (x ≤ y))) = s28) (hs29 : (s13 || s28) = s29) : markE x s k y = !s29 := by
  subst hs3 hs7 hkB hs13 hs17 hs28 hs29
  have z : decide (k = 0) = !decide ((0 : Int) < (k : Int)) := by
    rw [← not_lt19]; exact decide_eq_decide.2 (by omega)
  unfold markE
  rw [z]
  simp only [not_lt19, Bool.not_or, Bool.not_and, Bool.not_not, Bool.and_assoc]
theorem pos19 {k : Nat} (h : decide ((0 : Int) < (k : Int)) = true) : 1 ≤ k := by
  have := of_decide_eq_true h; omega
theorem kp_pred19 {o : Oper} {a : Act} {w : World} {Q : Exit → Act → World → Prop} {x y : Operand} {k : Nat} (h1 : 1 ≤ k) (h2 : k ≤ 1000) (ho : o.op = .binOp .sub 3 x y 3) (hx : a.eval x = .int .i64 (k : Int)) (hy : a.eval y = .int .i64 1) : o.wp Tryd.prog a w (fun a' w' => ∃ v, a' = a.put o.dst v ∧ Kp w w' ∧ IsV (.int .i64 ((k - 1 : Nat) : Int)) w' v) Q := by
  refine kp_yield (v := .int .i64 ((k - 1 : Nat) : Int)) (w' := w) ?_ (Keeps.refl _ _) rfl
  generalize a.eval = ρ at hx hy ⊢
  unfold execOp
  rw [ho]
  go_simp
  rw [IntKind.wrap_i64]
  all_goals omega

set_option maxRecDepth 100000 in
set_option maxHeartbeats 8000000 in
theorem rmsg (w : World) (m : Ms) (a : MsA) (hm : MsAt w m a) (fm : m.Fits) :
    Calls Tryd.prog 11 #[msV m a] w fun e w' => e = .returned (.bool (mayM m)) ∧ Kp w w' := by
  have HM := Lib.hid hm
  have FM := Lib.hid fm
  have HR := Lib.hid (show mayM m = (headB m && (listB m && (m.items.all It.may && marksB m.marks))) from rfl)
  generalize mayM m = r at HR ⊢
  obtain ⟨vM, hvM⟩ : ∃ v, msV m a = v := ⟨_, rfl⟩
  have HVM := Lib.hid hvM
  rw [hvM]
  clear hm fm hvM
  go_enter Tryd.func11, Tryd.ntmps11
  go_upto_region 1 with (refine list_boxM rfl (.tmp 0) rfl m a HVM.out.symm ?_; intro w1 hb1 hk1 hs1)
  obtain ⟨g, hg⟩ : ∃ g, w.heap.size = g := ⟨_, rfl⟩
  rw [hg] at hb1 hs1 ⊢
  have HB1 := Lib.hid hb1
  have HK := Lib.hid hk1
  have cellsM : ∀ {w5 : World}, Kp w1 w5 → ∀ (i : Nat) (v : Value), (msC m a)[i]? = some v → w5.cell? ⟨g, i, none⟩ = some v := fun h i v hv => (HB1.out.kp h).cell i v hv
  clear hb1 hk1 hs1 hg
  obtain ⟨p3, hp3⟩ : ∃ p, (decide (m.kind < (1 : Int))) = p := ⟨_, rfl⟩
  obtain ⟨p7, hp7⟩ : ∃ p, (p3 || (decide ((14 : Int) < m.kind))) = p := ⟨_, rfl⟩
  obtain ⟨p12, hp12⟩ : ∃ p, (p7 || (decide (m.frm < (0 : Int)))) = p := ⟨_, rfl⟩
  obtain ⟨p17, hp17⟩ : ∃ p, (p12 || (decide ((5 : Int) < m.frm))) = p := ⟨_, rfl⟩
  obtain ⟨p22, hp22⟩ : ∃ p, (p17 || (decide (m.to_ < (0 : Int)))) = p := ⟨_, rfl⟩
  obtain ⟨p27, hp27⟩ : ∃ p, (p22 || (decide ((5 : Int) < m.to_))) = p := ⟨_, rfl⟩
  obtain ⟨p34, hp34⟩ : ∃ p, (p27 || (m.frm == m.to_)) = p := ⟨_, rfl⟩
  obtain ⟨p40, hp40⟩ : ∃ p, (p34 || (!(numB m.epoch))) = p := ⟨_, rfl⟩
  obtain ⟨p46, hp46⟩ : ∃ p, (p40 || (!(numB m.tick))) = p := ⟨_, rfl⟩
  obtain ⟨p52, hp52⟩ : ∃ p, (p46 || (!(numB m.seq))) = p := ⟨_, rfl⟩
  obtain ⟨p58, hp58⟩ : ∃ p, (p52 || (!(numB m.id))) = p := ⟨_, rfl⟩
  obtain ⟨p64, hp64⟩ : ∃ p, (p58 || (!(numB m.base))) = p := ⟨_, rfl⟩
  obtain ⟨p69, hp69⟩ : ∃ p, (p64 || (decide (m.n < (0 : Int)))) = p := ⟨_, rfl⟩
  obtain ⟨p74, hp74⟩ : ∃ p, (p69 || (decide ((1073741824 : Int) < m.n))) = p := ⟨_, rfl⟩
  obtain ⟨p79, hp79⟩ : ∃ p, (p74 || (decide (m.op < (0 : Int)))) = p := ⟨_, rfl⟩
  obtain ⟨p84, hp84⟩ : ∃ p, (p79 || (decide ((2 : Int) < m.op))) = p := ⟨_, rfl⟩
  obtain ⟨p90, hp90⟩ : ∃ p, (p84 || (decide ((40 : Int) < ((m.key.size : Nat) : Int)))) = p := ⟨_, rfl⟩
  obtain ⟨p95, hp95⟩ : ∃ p, (p90 || (decide (m.err < (0 : Int)))) = p := ⟨_, rfl⟩
  obtain ⟨p100, hp100⟩ : ∃ p, (p95 || (decide ((10 : Int) < m.err))) = p := ⟨_, rfl⟩
  obtain ⟨f1, hf1⟩ : ∃ f : Nat → Value, (fun i => (may1V g m p3 p7 p12 p17 p22 p27 p34 p40 p46 p52 p58 p64 p69 p74 p79 p84 p90 p95 p100).getD i undef) = f := ⟨_, rfl⟩
  refine wp_region_valsO (may1V g m p3 p7 p12 p17 p22 p27 p34 p40 p46 p52 p58 p64 p69 p74 p79 p84 p90 p95 p100) (may1G p3 p7 p12 p17 p22 p27 p34 p40 p46 p52 p58 p64 p69 p74 p79 p84 p90 p95 p100) ⟨#[vM, .pointer (some ⟨g, 0, none⟩), .bool false, undef, undef, undef, f1 0, f1 1, f1 2, f1 3, f1 4, f1 5, f1 6, f1 7, f1 8, f1 9, f1 10, f1 11, f1 12, f1 13, f1 14, f1 15, f1 16, f1 17, f1 18, f1 19, f1 20, f1 21, f1 22, f1 23, f1 24, f1 25, f1 26, f1 27, f1 28, f1 29, f1 30, f1 31, f1 32, f1 33, f1 34, f1 35, f1 36, f1 37, f1 38, f1 39, f1 40, f1 41, f1 42, f1 43, f1 44, f1 45, f1 46, f1 47, f1 48, f1 49, f1 50, f1 51, f1 52, f1 53, f1 54, f1 55, f1 56, f1 57, f1 58, f1 59, f1 60, f1 61, f1 62, f1 63, f1 64, f1 65, f1 66, f1 67, f1 68, f1 69, f1 70, f1 71, f1 72, f1 73, f1 74, f1 75, f1 76, f1 77, f1 78, f1 79, f1 80, f1 81, f1 82, f1 83, f1 84, f1 85, f1 86, f1 87, f1 88, f1 89, f1 90, f1 91, f1 92, f1 93, f1 94, f1 95, f1 96, f1 97, f1 98, f1 99, .bool p100, undef, undef, undef, undef, undef, undef, undef, undef, undef, undef, undef, undef, undef, undef, undef, undef, undef, undef, undef, undef, undef, undef, undef, undef, undef, undef, undef, undef, undef, undef, undef, undef, undef, undef, undef, undef, undef, undef, undef, undef, undef, undef, undef, undef, undef, undef, undef, undef, undef, undef, undef, undef, undef, undef, undef, undef, undef, undef, undef, undef, undef, undef, undef, undef, undef, undef, undef, undef, undef, undef, undef, undef, undef, undef, undef, undef, undef, undef, undef, undef, undef, undef, undef, undef, undef, undef, undef, undef, undef, undef, undef, undef, undef, undef, undef, undef, undef, undef, undef, undef, undef, undef, undef], []⟩ rfl (by kernel_rfl) (by subst hf1; kernel_rfl) (by kernel_rfl) ?_ (each_of ?_) (each_of ?_) ?_
  · intro p hp; simp only [may1G, List.mem_cons, List.not_mem_nil, or_false] at hp
    rcases hp with rfl | rfl | rfl | rfl | rfl | rfl | rfl | rfl | rfl | rfl | rfl | rfl | rfl | rfl | rfl | rfl | rfl | rfl <;> intro c hc
    · cases hc; rfl
    · cases hc; rfl
    · cases hc; rfl
    · cases hc; rfl
    · cases hc; rfl
    · cases hc; rfl
    · cases hc; rfl
    · cases hc; rfl
    · cases hc; rfl
    · cases hc; rfl
    · cases hc; rfl
    · cases hc; rfl
    · cases hc; rfl
    · cases hc; rfl
    · cases hc; rfl
    · cases hc; rfl
    · cases hc; rfl
    · cases hc; rfl
  · refine ⟨?_, ?_, ?_, ?_, ?_, ?_, ?_, ?_, ?_, ?_, ?_, ?_, ?_, ?_, ?_, ?_, ?_, ?_, ?_, ?_, ?_, ?_, ?_, ?_, ?_, ?_, ?_, ?_, ?_, ?_, ?_, ?_, ?_, ?_, ?_, ?_, ?_, ?_, ?_, ?_, ?_, ?_, ?_, ?_, ?_, ?_, ?_, ?_, ?_, ?_, ?_, ?_, ?_, ?_, ?_, ?_, ?_, ?_, ?_, ?_, ?_, ?_, ?_, ?_, ?_, ?_, ?_, ?_, ?_, ?_, ?_, ?_, ?_, ?_, ?_, ?_, ?_, ?_, ?_, ?_, ?_, ?_, ?_, ?_, ?_, ?_, ?_, ?_, ?_, ?_, ?_, ?_, ?_, ?_, ?_, ?_, ?_, ?_, ?_, ?_, ?_, trivial⟩ <;> intro hw
    · exact nomatch (show true = false from hw)
    · exact nomatch (show true = false from hw)
    · exact nomatch (show true = false from hw)
    · exact nomatch (show true = false from hw)
    · cases p3 with | true => rfl | false => exact nomatch (show true = false from hw)
    · cases p3 with | true => rfl | false => exact nomatch (show true = false from hw)
    · cases p3 with | true => rfl | false => exact nomatch (show true = false from hw)
    · exact nomatch (show true = false from hw)
    · exact nomatch (show true = false from hw)
    · cases p7 with | true => rfl | false => exact nomatch (show true = false from hw)
    · cases p7 with | true => rfl | false => exact nomatch (show true = false from hw)
    · cases p7 with | true => rfl | false => exact nomatch (show true = false from hw)
    · exact nomatch (show true = false from hw)
    · exact nomatch (show true = false from hw)
    · cases p12 with | true => rfl | false => exact nomatch (show true = false from hw)
    · cases p12 with | true => rfl | false => exact nomatch (show true = false from hw)
    · cases p12 with | true => rfl | false => exact nomatch (show true = false from hw)
    · exact nomatch (show true = false from hw)
    · exact nomatch (show true = false from hw)
    · cases p17 with | true => rfl | false => exact nomatch (show true = false from hw)
    · cases p17 with | true => rfl | false => exact nomatch (show true = false from hw)
    · cases p17 with | true => rfl | false => exact nomatch (show true = false from hw)
    · exact nomatch (show true = false from hw)
    · exact nomatch (show true = false from hw)
    · cases p22 with | true => rfl | false => exact nomatch (show true = false from hw)
    · cases p22 with | true => rfl | false => exact nomatch (show true = false from hw)
    · cases p22 with | true => rfl | false => exact nomatch (show true = false from hw)
    · exact nomatch (show true = false from hw)
    · exact nomatch (show true = false from hw)
    · cases p27 with | true => rfl | false => exact nomatch (show true = false from hw)
    · cases p27 with | true => rfl | false => exact nomatch (show true = false from hw)
    · cases p27 with | true => rfl | false => exact nomatch (show true = false from hw)
    · cases p27 with | true => rfl | false => exact nomatch (show true = false from hw)
    · cases p27 with | true => rfl | false => exact nomatch (show true = false from hw)
    · exact nomatch (show true = false from hw)
    · exact nomatch (show true = false from hw)
    · cases p34 with | true => rfl | false => exact nomatch (show true = false from hw)
    · cases p34 with | true => rfl | false => exact nomatch (show true = false from hw)
    · cases p34 with | true => rfl | false => exact nomatch (show true = false from hw)
    · cases p34 with | true => rfl | false => exact nomatch (show true = false from hw)
    · exact nomatch (show true = false from hw)
    · exact nomatch (show true = false from hw)
    · cases p40 with | true => rfl | false => exact nomatch (show true = false from hw)
    · cases p40 with | true => rfl | false => exact nomatch (show true = false from hw)
    · cases p40 with | true => rfl | false => exact nomatch (show true = false from hw)
    · cases p40 with | true => rfl | false => exact nomatch (show true = false from hw)
    · exact nomatch (show true = false from hw)
    · exact nomatch (show true = false from hw)
    · cases p46 with | true => rfl | false => exact nomatch (show true = false from hw)
    · cases p46 with | true => rfl | false => exact nomatch (show true = false from hw)
    · cases p46 with | true => rfl | false => exact nomatch (show true = false from hw)
    · cases p46 with | true => rfl | false => exact nomatch (show true = false from hw)
    · exact nomatch (show true = false from hw)
    · exact nomatch (show true = false from hw)
    · cases p52 with | true => rfl | false => exact nomatch (show true = false from hw)
    · cases p52 with | true => rfl | false => exact nomatch (show true = false from hw)
    · cases p52 with | true => rfl | false => exact nomatch (show true = false from hw)
    · cases p52 with | true => rfl | false => exact nomatch (show true = false from hw)
    · exact nomatch (show true = false from hw)
    · exact nomatch (show true = false from hw)
    · cases p58 with | true => rfl | false => exact nomatch (show true = false from hw)
    · cases p58 with | true => rfl | false => exact nomatch (show true = false from hw)
    · cases p58 with | true => rfl | false => exact nomatch (show true = false from hw)
    · cases p58 with | true => rfl | false => exact nomatch (show true = false from hw)
    · exact nomatch (show true = false from hw)
    · exact nomatch (show true = false from hw)
    · cases p64 with | true => rfl | false => exact nomatch (show true = false from hw)
    · cases p64 with | true => rfl | false => exact nomatch (show true = false from hw)
    · cases p64 with | true => rfl | false => exact nomatch (show true = false from hw)
    · exact nomatch (show true = false from hw)
    · exact nomatch (show true = false from hw)
    · cases p69 with | true => rfl | false => exact nomatch (show true = false from hw)
    · cases p69 with | true => rfl | false => exact nomatch (show true = false from hw)
    · cases p69 with | true => rfl | false => exact nomatch (show true = false from hw)
    · exact nomatch (show true = false from hw)
    · exact nomatch (show true = false from hw)
    · cases p74 with | true => rfl | false => exact nomatch (show true = false from hw)
    · cases p74 with | true => rfl | false => exact nomatch (show true = false from hw)
    · cases p74 with | true => rfl | false => exact nomatch (show true = false from hw)
    · exact nomatch (show true = false from hw)
    · exact nomatch (show true = false from hw)
    · cases p79 with | true => rfl | false => exact nomatch (show true = false from hw)
    · cases p79 with | true => rfl | false => exact nomatch (show true = false from hw)
    · cases p79 with | true => rfl | false => exact nomatch (show true = false from hw)
    · exact nomatch (show true = false from hw)
    · exact nomatch (show true = false from hw)
    · cases p84 with | true => rfl | false => exact nomatch (show true = false from hw)
    · cases p84 with | true => rfl | false => exact nomatch (show true = false from hw)
    · cases p84 with | true => rfl | false => exact nomatch (show true = false from hw)
    · cases p84 with | true => rfl | false => exact nomatch (show true = false from hw)
    · exact nomatch (show true = false from hw)
    · exact nomatch (show true = false from hw)
    · cases p90 with | true => rfl | false => exact nomatch (show true = false from hw)
    · cases p90 with | true => rfl | false => exact nomatch (show true = false from hw)
    · cases p90 with | true => rfl | false => exact nomatch (show true = false from hw)
    · exact nomatch (show true = false from hw)
    · exact nomatch (show true = false from hw)
    · cases p95 with | true => rfl | false => exact nomatch (show true = false from hw)
    · cases p95 with | true => rfl | false => exact nomatch (show true = false from hw)
    · cases p95 with | true => rfl | false => exact nomatch (show true = false from hw)
    · exact nomatch (show true = false from hw)
  · refine ⟨?_, ?_, ?_, ?_, ?_, ?_, ?_, ?_, ?_, ?_, ?_, ?_, ?_, ?_, ?_, ?_, ?_, ?_, ?_, ?_, ?_, ?_, ?_, ?_, ?_, ?_, ?_, ?_, ?_, ?_, ?_, ?_, ?_, ?_, ?_, ?_, ?_, ?_, ?_, ?_, ?_, ?_, ?_, ?_, ?_, ?_, ?_, ?_, ?_, ?_, ?_, ?_, ?_, ?_, ?_, ?_, ?_, ?_, ?_, ?_, ?_, ?_, ?_, ?_, ?_, ?_, ?_, ?_, ?_, ?_, ?_, ?_, ?_, ?_, ?_, ?_, ?_, ?_, ?_, ?_, ?_, ?_, ?_, ?_, ?_, ?_, ?_, ?_, ?_, ?_, ?_, ?_, ?_, ?_, ?_, ?_, ?_, ?_, ?_, ?_, ?_, trivial⟩ <;> intro hw a1 w3 L
    · exact kp_f19_0 rfl (L.old 1 (by kernel_rfl))
    · exact kp_ld19I (cellsM L.rel 0 (.int .i64 m.kind) rfl) rfl (L.val 0 6 (by kernel_rfl) (by kernel_rfl))
    · exact kp_lt19I rfl (L.val 1 7 (by kernel_rfl) (by kernel_rfl)) rfl
    · exact kp_move rfl ((show _ = _ from (L.val 2 8 (by kernel_rfl) (by kernel_rfl))).trans (congrArg Value.bool hp3))
    · cases p3 with | true => exact nomatch (show false = true from hw) | false => exact kp_f19_0 rfl (L.old 1 (by kernel_rfl))
    · cases p3 with | true => exact nomatch (show false = true from hw) | false => exact kp_ld19I (cellsM L.rel 0 (.int .i64 m.kind) rfl) rfl (L.val 4 10 (by kernel_rfl) (by kernel_rfl))
    · cases p3 with | true => exact nomatch (show false = true from hw) | false => exact kp_gt19I rfl (L.val 5 11 (by kernel_rfl) (by kernel_rfl)) rfl
    · exact kp_pick rfl (L.val 3 9 (by kernel_rfl) (by kernel_rfl)) (pick_or hp7 rfl (L.val 6 12 (by kernel_rfl) (by kernel_rfl)))
    · exact kp_move rfl (L.val 7 13 (by kernel_rfl) (by kernel_rfl))
    · cases p7 with | true => exact nomatch (show false = true from hw) | false => exact kp_f19_1 rfl (L.old 1 (by kernel_rfl))
    · cases p7 with | true => exact nomatch (show false = true from hw) | false => exact kp_ld19I (cellsM L.rel 1 (.int .i64 m.frm) rfl) rfl (L.val 9 15 (by kernel_rfl) (by kernel_rfl))
    · cases p7 with | true => exact nomatch (show false = true from hw) | false => exact kp_lt19I rfl (L.val 10 16 (by kernel_rfl) (by kernel_rfl)) rfl
    · exact kp_pick rfl (L.val 8 14 (by kernel_rfl) (by kernel_rfl)) (pick_or hp12 rfl (L.val 11 17 (by kernel_rfl) (by kernel_rfl)))
    · exact kp_move rfl (L.val 12 18 (by kernel_rfl) (by kernel_rfl))
    · cases p12 with | true => exact nomatch (show false = true from hw) | false => exact kp_f19_1 rfl (L.old 1 (by kernel_rfl))
    · cases p12 with | true => exact nomatch (show false = true from hw) | false => exact kp_ld19I (cellsM L.rel 1 (.int .i64 m.frm) rfl) rfl (L.val 14 20 (by kernel_rfl) (by kernel_rfl))
    · cases p12 with | true => exact nomatch (show false = true from hw) | false => exact kp_gt19I rfl (L.val 15 21 (by kernel_rfl) (by kernel_rfl)) rfl
    · exact kp_pick rfl (L.val 13 19 (by kernel_rfl) (by kernel_rfl)) (pick_or hp17 rfl (L.val 16 22 (by kernel_rfl) (by kernel_rfl)))
    · exact kp_move rfl (L.val 17 23 (by kernel_rfl) (by kernel_rfl))
    · cases p17 with | true => exact nomatch (show false = true from hw) | false => exact kp_f19_2 rfl (L.old 1 (by kernel_rfl))
    · cases p17 with | true => exact nomatch (show false = true from hw) | false => exact kp_ld19I (cellsM L.rel 2 (.int .i64 m.to_) rfl) rfl (L.val 19 25 (by kernel_rfl) (by kernel_rfl))
    · cases p17 with | true => exact nomatch (show false = true from hw) | false => exact kp_lt19I rfl (L.val 20 26 (by kernel_rfl) (by kernel_rfl)) rfl
    · exact kp_pick rfl (L.val 18 24 (by kernel_rfl) (by kernel_rfl)) (pick_or hp22 rfl (L.val 21 27 (by kernel_rfl) (by kernel_rfl)))
    · exact kp_move rfl (L.val 22 28 (by kernel_rfl) (by kernel_rfl))
    · cases p22 with | true => exact nomatch (show false = true from hw) | false => exact kp_f19_2 rfl (L.old 1 (by kernel_rfl))
    · cases p22 with | true => exact nomatch (show false = true from hw) | false => exact kp_ld19I (cellsM L.rel 2 (.int .i64 m.to_) rfl) rfl (L.val 24 30 (by kernel_rfl) (by kernel_rfl))
    · cases p22 with | true => exact nomatch (show false = true from hw) | false => exact kp_gt19I rfl (L.val 25 31 (by kernel_rfl) (by kernel_rfl)) rfl
    · exact kp_pick rfl (L.val 23 29 (by kernel_rfl) (by kernel_rfl)) (pick_or hp27 rfl (L.val 26 32 (by kernel_rfl) (by kernel_rfl)))
    · exact kp_move rfl (L.val 27 33 (by kernel_rfl) (by kernel_rfl))
    · cases p27 with | true => exact nomatch (show false = true from hw) | false => exact kp_f19_1 rfl (L.old 1 (by kernel_rfl))
    · cases p27 with | true => exact nomatch (show false = true from hw) | false => exact kp_ld19I (cellsM L.rel 1 (.int .i64 m.frm) rfl) rfl (L.val 29 35 (by kernel_rfl) (by kernel_rfl))
    · cases p27 with | true => exact nomatch (show false = true from hw) | false => exact kp_f19_2 rfl (L.old 1 (by kernel_rfl))
    · cases p27 with | true => exact nomatch (show false = true from hw) | false => exact kp_ld19I (cellsM L.rel 2 (.int .i64 m.to_) rfl) rfl (L.val 31 37 (by kernel_rfl) (by kernel_rfl))
    · cases p27 with | true => exact nomatch (show false = true from hw) | false => exact kp_eq19I rfl (L.val 30 36 (by kernel_rfl) (by kernel_rfl)) (L.val 32 38 (by kernel_rfl) (by kernel_rfl))
    · exact kp_pick rfl (L.val 28 34 (by kernel_rfl) (by kernel_rfl)) (pick_or hp34 rfl (L.val 33 39 (by kernel_rfl) (by kernel_rfl)))
    · exact kp_move rfl (L.val 34 40 (by kernel_rfl) (by kernel_rfl))
    · cases p34 with | true => exact nomatch (show false = true from hw) | false => exact kp_f19_3 rfl (L.old 1 (by kernel_rfl))
    · cases p34 with | true => exact nomatch (show false = true from hw) | false => exact kp_ld19L (cellsM L.rel 3 (.int .i64 m.epoch) rfl) rfl (L.val 36 42 (by kernel_rfl) (by kernel_rfl))
    · cases p34 with | true => exact nomatch (show false = true from hw) | false => exact kp_c19 (cf_num _ _) ((rnum_any _ m.epoch).mono fun e w4 h => ⟨h.1, by rw [h.2]; exact Keeps.refl _ _⟩) rfl (L.val 37 43 (by kernel_rfl) (by kernel_rfl))
    · cases p34 with | true => exact nomatch (show false = true from hw) | false => exact kp_not19 rfl (L.val 38 44 (by kernel_rfl) (by kernel_rfl))
    · exact kp_pick rfl (L.val 35 41 (by kernel_rfl) (by kernel_rfl)) (pick_or hp40 rfl (L.val 39 45 (by kernel_rfl) (by kernel_rfl)))
    · exact kp_move rfl (L.val 40 46 (by kernel_rfl) (by kernel_rfl))
    · cases p40 with | true => exact nomatch (show false = true from hw) | false => exact kp_f19_4 rfl (L.old 1 (by kernel_rfl))
    · cases p40 with | true => exact nomatch (show false = true from hw) | false => exact kp_ld19L (cellsM L.rel 4 (.int .i64 m.tick) rfl) rfl (L.val 42 48 (by kernel_rfl) (by kernel_rfl))
    · cases p40 with | true => exact nomatch (show false = true from hw) | false => exact kp_c19 (cf_num _ _) ((rnum_any _ m.tick).mono fun e w4 h => ⟨h.1, by rw [h.2]; exact Keeps.refl _ _⟩) rfl (L.val 43 49 (by kernel_rfl) (by kernel_rfl))
    · cases p40 with | true => exact nomatch (show false = true from hw) | false => exact kp_not19 rfl (L.val 44 50 (by kernel_rfl) (by kernel_rfl))
    · exact kp_pick rfl (L.val 41 47 (by kernel_rfl) (by kernel_rfl)) (pick_or hp46 rfl (L.val 45 51 (by kernel_rfl) (by kernel_rfl)))
    · exact kp_move rfl (L.val 46 52 (by kernel_rfl) (by kernel_rfl))
    · cases p46 with | true => exact nomatch (show false = true from hw) | false => exact kp_f19_5 rfl (L.old 1 (by kernel_rfl))
    · cases p46 with | true => exact nomatch (show false = true from hw) | false => exact kp_ld19L (cellsM L.rel 5 (.int .i64 m.seq) rfl) rfl (L.val 48 54 (by kernel_rfl) (by kernel_rfl))
    · cases p46 with | true => exact nomatch (show false = true from hw) | false => exact kp_c19 (cf_num _ _) ((rnum_any _ m.seq).mono fun e w4 h => ⟨h.1, by rw [h.2]; exact Keeps.refl _ _⟩) rfl (L.val 49 55 (by kernel_rfl) (by kernel_rfl))
    · cases p46 with | true => exact nomatch (show false = true from hw) | false => exact kp_not19 rfl (L.val 50 56 (by kernel_rfl) (by kernel_rfl))
    · exact kp_pick rfl (L.val 47 53 (by kernel_rfl) (by kernel_rfl)) (pick_or hp52 rfl (L.val 51 57 (by kernel_rfl) (by kernel_rfl)))
    · exact kp_move rfl (L.val 52 58 (by kernel_rfl) (by kernel_rfl))
    · cases p52 with | true => exact nomatch (show false = true from hw) | false => exact kp_f19_7 rfl (L.old 1 (by kernel_rfl))
    · cases p52 with | true => exact nomatch (show false = true from hw) | false => exact kp_ld19L (cellsM L.rel 7 (.int .i64 m.id) rfl) rfl (L.val 54 60 (by kernel_rfl) (by kernel_rfl))
    · cases p52 with | true => exact nomatch (show false = true from hw) | false => exact kp_c19 (cf_num _ _) ((rnum_any _ m.id).mono fun e w4 h => ⟨h.1, by rw [h.2]; exact Keeps.refl _ _⟩) rfl (L.val 55 61 (by kernel_rfl) (by kernel_rfl))
    · cases p52 with | true => exact nomatch (show false = true from hw) | false => exact kp_not19 rfl (L.val 56 62 (by kernel_rfl) (by kernel_rfl))
    · exact kp_pick rfl (L.val 53 59 (by kernel_rfl) (by kernel_rfl)) (pick_or hp58 rfl (L.val 57 63 (by kernel_rfl) (by kernel_rfl)))
    · exact kp_move rfl (L.val 58 64 (by kernel_rfl) (by kernel_rfl))
    · cases p58 with | true => exact nomatch (show false = true from hw) | false => exact kp_f19_16 rfl (L.old 1 (by kernel_rfl))
    · cases p58 with | true => exact nomatch (show false = true from hw) | false => exact kp_ld19L (cellsM L.rel 19 (.int .i64 m.base) rfl) rfl (L.val 60 66 (by kernel_rfl) (by kernel_rfl))
    · cases p58 with | true => exact nomatch (show false = true from hw) | false => exact kp_c19 (cf_num _ _) ((rnum_any _ m.base).mono fun e w4 h => ⟨h.1, by rw [h.2]; exact Keeps.refl _ _⟩) rfl (L.val 61 67 (by kernel_rfl) (by kernel_rfl))
    · cases p58 with | true => exact nomatch (show false = true from hw) | false => exact kp_not19 rfl (L.val 62 68 (by kernel_rfl) (by kernel_rfl))
    · exact kp_pick rfl (L.val 59 65 (by kernel_rfl) (by kernel_rfl)) (pick_or hp64 rfl (L.val 63 69 (by kernel_rfl) (by kernel_rfl)))
    · exact kp_move rfl (L.val 64 70 (by kernel_rfl) (by kernel_rfl))
    · cases p64 with | true => exact nomatch (show false = true from hw) | false => exact kp_f19_6 rfl (L.old 1 (by kernel_rfl))
    · cases p64 with | true => exact nomatch (show false = true from hw) | false => exact kp_ld19I (cellsM L.rel 6 (.int .i64 m.n) rfl) rfl (L.val 66 72 (by kernel_rfl) (by kernel_rfl))
    · cases p64 with | true => exact nomatch (show false = true from hw) | false => exact kp_lt19I rfl (L.val 67 73 (by kernel_rfl) (by kernel_rfl)) rfl
    · exact kp_pick rfl (L.val 65 71 (by kernel_rfl) (by kernel_rfl)) (pick_or hp69 rfl (L.val 68 74 (by kernel_rfl) (by kernel_rfl)))
    · exact kp_move rfl (L.val 69 75 (by kernel_rfl) (by kernel_rfl))
    · cases p69 with | true => exact nomatch (show false = true from hw) | false => exact kp_f19_6 rfl (L.old 1 (by kernel_rfl))
    · cases p69 with | true => exact nomatch (show false = true from hw) | false => exact kp_ld19I (cellsM L.rel 6 (.int .i64 m.n) rfl) rfl (L.val 71 77 (by kernel_rfl) (by kernel_rfl))
    · cases p69 with | true => exact nomatch (show false = true from hw) | false => exact kp_gt19I rfl (L.val 72 78 (by kernel_rfl) (by kernel_rfl)) rfl
    · exact kp_pick rfl (L.val 70 76 (by kernel_rfl) (by kernel_rfl)) (pick_or hp74 rfl (L.val 73 79 (by kernel_rfl) (by kernel_rfl)))
    · exact kp_move rfl (L.val 74 80 (by kernel_rfl) (by kernel_rfl))
    · cases p74 with | true => exact nomatch (show false = true from hw) | false => exact kp_f19_8 rfl (L.old 1 (by kernel_rfl))
    · cases p74 with | true => exact nomatch (show false = true from hw) | false => exact kp_ld19I (cellsM L.rel 8 (.int .i64 m.op) rfl) rfl (L.val 76 82 (by kernel_rfl) (by kernel_rfl))
    · cases p74 with | true => exact nomatch (show false = true from hw) | false => exact kp_lt19I rfl (L.val 77 83 (by kernel_rfl) (by kernel_rfl)) rfl
    · exact kp_pick rfl (L.val 75 81 (by kernel_rfl) (by kernel_rfl)) (pick_or hp79 rfl (L.val 78 84 (by kernel_rfl) (by kernel_rfl)))
    · exact kp_move rfl (L.val 79 85 (by kernel_rfl) (by kernel_rfl))
    · cases p79 with | true => exact nomatch (show false = true from hw) | false => exact kp_f19_8 rfl (L.old 1 (by kernel_rfl))
    · cases p79 with | true => exact nomatch (show false = true from hw) | false => exact kp_ld19I (cellsM L.rel 8 (.int .i64 m.op) rfl) rfl (L.val 81 87 (by kernel_rfl) (by kernel_rfl))
    · cases p79 with | true => exact nomatch (show false = true from hw) | false => exact kp_gt19I rfl (L.val 82 88 (by kernel_rfl) (by kernel_rfl)) rfl
    · exact kp_pick rfl (L.val 80 86 (by kernel_rfl) (by kernel_rfl)) (pick_or hp84 rfl (L.val 83 89 (by kernel_rfl) (by kernel_rfl)))
    · exact kp_move rfl (L.val 84 90 (by kernel_rfl) (by kernel_rfl))
    · cases p84 with | true => exact nomatch (show false = true from hw) | false => exact kp_f19_9 rfl (L.old 1 (by kernel_rfl))
    · cases p84 with | true => exact nomatch (show false = true from hw) | false => exact kp_ld19T (cellsM L.rel 9 (.string m.key) rfl) rfl (L.val 86 92 (by kernel_rfl) (by kernel_rfl))
    · cases p84 with | true => exact nomatch (show false = true from hw) | false => exact kp_len19T rfl (L.val 87 93 (by kernel_rfl) (by kernel_rfl))
    · cases p84 with | true => exact nomatch (show false = true from hw) | false => exact kp_gt19I rfl (L.val 88 94 (by kernel_rfl) (by kernel_rfl)) rfl
    · exact kp_pick rfl (L.val 85 91 (by kernel_rfl) (by kernel_rfl)) (pick_or hp90 rfl (L.val 89 95 (by kernel_rfl) (by kernel_rfl)))
    · exact kp_move rfl (L.val 90 96 (by kernel_rfl) (by kernel_rfl))
    · cases p90 with | true => exact nomatch (show false = true from hw) | false => exact kp_f19_10 rfl (L.old 1 (by kernel_rfl))
    · cases p90 with | true => exact nomatch (show false = true from hw) | false => exact kp_ld19E (cellsM L.rel 10 (.int .i64 m.err) rfl) rfl (L.val 92 98 (by kernel_rfl) (by kernel_rfl))
    · cases p90 with | true => exact nomatch (show false = true from hw) | false => exact kp_lt19E rfl (L.val 93 99 (by kernel_rfl) (by kernel_rfl)) rfl
    · exact kp_pick rfl (L.val 91 97 (by kernel_rfl) (by kernel_rfl)) (pick_or hp95 rfl (L.val 94 100 (by kernel_rfl) (by kernel_rfl)))
    · exact kp_move rfl (L.val 95 101 (by kernel_rfl) (by kernel_rfl))
    · cases p95 with | true => exact nomatch (show false = true from hw) | false => exact kp_f19_10 rfl (L.old 1 (by kernel_rfl))
    · cases p95 with | true => exact nomatch (show false = true from hw) | false => exact kp_ld19E (cellsM L.rel 10 (.int .i64 m.err) rfl) rfl (L.val 97 103 (by kernel_rfl) (by kernel_rfl))
    · cases p95 with | true => exact nomatch (show false = true from hw) | false => exact kp_gt19E rfl (L.val 98 104 (by kernel_rfl) (by kernel_rfl)) rfl
    · exact kp_pick rfl (L.val 96 102 (by kernel_rfl) (by kernel_rfl)) (pick_or hp100 rfl (L.val 99 105 (by kernel_rfl) (by kernel_rfl)))
  intro w3 hk3
  clear hf1
  have HH := Lib.hid (may_head m p3 p7 p12 p17 p22 p27 p34 p40 p46 p52 p58 p64 p69 p74 p79 p84 p90 p95 p100 hp3 hp7 hp12 hp17 hp22 hp27 hp34 hp40 hp46 hp52 hp58 hp64 hp69 hp74 hp79 hp84 hp90 hp95 hp100)
  clear hp100 hp95 hp90 hp84 hp79 hp74 hp69 hp64 hp58 hp52 hp46 hp40 hp34 hp27 hp22 hp17 hp12 hp7 hp3 cellsM
  replace HK := Lib.hid (HK.out.trans hk3)
  replace HB1 := Lib.hid (HB1.out.kp hk3)
  clear hk3
  cases p100 with
  | true =>
    have HE := Lib.hid (show r = false from by rw [HR.out, HH.out]; rfl)
    clear HH HR
    simp only [Exit.then]
    go_wp2_with fail
    go_ret
    exact ⟨by rw [HE.out]; rfl, HK.out⟩
  | false =>
  have HR2 := Lib.hid (show r = (listB m && (m.items.all It.may && marksB m.marks)) from by rw [HR.out, HH.out]; rfl)
  clear HH HR
  simp only [Exit.then]
  go_upto_region 3 with fail
  have cellsM : ∀ {w5 : World}, Kp w3 w5 → ∀ (i : Nat) (v : Value), (msC m a)[i]? = some v → w5.cell? ⟨g, i, none⟩ = some v := fun h i v hv => (HB1.out.kp h).cell i v hv
  obtain ⟨e0, he0⟩ : ∃ p, (decide (m.item = it0)) = p := ⟨_, rfl⟩
  obtain ⟨q5, hq5⟩ : ∃ p, (!e0) = p := ⟨_, rfl⟩
  obtain ⟨q10, hq10⟩ : ∃ p, (q5 && (!(m.item.may))) = p := ⟨_, rfl⟩
  obtain ⟨q16, hq16⟩ : ∃ p, (q10 || (decide ((4 : Int) < ((m.items.length : Nat) : Int)))) = p := ⟨_, rfl⟩
  obtain ⟨q22, hq22⟩ : ∃ p, (q16 || (decide ((4 : Int) < ((m.marks.length : Nat) : Int)))) = p := ⟨_, rfl⟩
  obtain ⟨q28, hq28⟩ : ∃ p, (decide ((0 : Int) < ((m.mem.length : Nat) : Int))) = p := ⟨_, rfl⟩
  obtain ⟨q33, hq33⟩ : ∃ p, (q28 && (!(nodesB m.mem))) = p := ⟨_, rfl⟩
  obtain ⟨q34, hq34⟩ : ∃ p, (q22 || q33) = p := ⟨_, rfl⟩
  obtain ⟨q40, hq40⟩ : ∃ p, (decide ((0 : Int) < ((m.old.length : Nat) : Int))) = p := ⟨_, rfl⟩
  obtain ⟨q45, hq45⟩ : ∃ p, (q40 && (!(nodesB m.old))) = p := ⟨_, rfl⟩
  obtain ⟨q46, hq46⟩ : ∃ p, (q34 || q45) = p := ⟨_, rfl⟩
  obtain ⟨f3, hf3⟩ : ∃ f : Nat → Value, (fun i => (may3V g m a e0 q5 q10 q16 q22 q28 q33 q34 q40 q45 q46).getD i undef) = f := ⟨_, rfl⟩
  refine wp_region_valsO (may3V g m a e0 q5 q10 q16 q22 q28 q33 q34 q40 q45 q46) (may3G e0 q5 q10 q16 q22 q28 q33 q34 q40 q45 q46) ⟨#[vM, .pointer (some ⟨g, 0, none⟩), .bool false, undef, undef, undef, f1 0, f1 1, f1 2, f1 3, f1 4, f1 5, f1 6, f1 7, f1 8, f1 9, f1 10, f1 11, f1 12, f1 13, f1 14, f1 15, f1 16, f1 17, f1 18, f1 19, f1 20, f1 21, f1 22, f1 23, f1 24, f1 25, f1 26, f1 27, f1 28, f1 29, f1 30, f1 31, f1 32, f1 33, f1 34, f1 35, f1 36, f1 37, f1 38, f1 39, f1 40, f1 41, f1 42, f1 43, f1 44, f1 45, f1 46, f1 47, f1 48, f1 49, f1 50, f1 51, f1 52, f1 53, f1 54, f1 55, f1 56, f1 57, f1 58, f1 59, f1 60, f1 61, f1 62, f1 63, f1 64, f1 65, f1 66, f1 67, f1 68, f1 69, f1 70, f1 71, f1 72, f1 73, f1 74, f1 75, f1 76, f1 77, f1 78, f1 79, f1 80, f1 81, f1 82, f1 83, f1 84, f1 85, f1 86, f1 87, f1 88, f1 89, f1 90, f1 91, f1 92, f1 93, f1 94, f1 95, f1 96, f1 97, f1 98, f1 99, .bool false, f3 0, f3 1, f3 2, f3 3, f3 4, f3 5, f3 6, f3 7, f3 8, f3 9, f3 10, f3 11, f3 12, f3 13, f3 14, f3 15, f3 16, f3 17, f3 18, f3 19, f3 20, f3 21, f3 22, f3 23, f3 24, f3 25, f3 26, f3 27, f3 28, f3 29, f3 30, f3 31, f3 32, f3 33, f3 34, f3 35, f3 36, f3 37, f3 38, f3 39, f3 40, f3 41, f3 42, f3 43, f3 44, f3 45, .bool q46, undef, undef, undef, undef, undef, undef, undef, undef, undef, undef, undef, undef, undef, undef, undef, undef, undef, undef, undef, undef, undef, undef, undef, undef, undef, undef, undef, undef, undef, undef, undef, undef, undef, undef, undef, undef, undef, undef, undef, undef, undef, undef, undef, undef, undef, undef, undef, undef, undef, undef, undef, undef, undef, undef, undef, undef], []⟩ rfl (by kernel_rfl) (by subst hf3; kernel_rfl) (by cases q22 <;> cases q34 <;> kernel_rfl) ?_ (each_of ?_) (each_of ?_) ?_
  · intro p hp; simp only [may3G, List.mem_cons, List.not_mem_nil, or_false] at hp
    rcases hp with rfl | rfl | rfl | rfl | rfl | rfl | rfl <;> intro c hc
    · cases hc; rfl
    · cases hc; rfl
    · cases hc; rfl
    · cases hc; rfl
    · cases q22 with | true => (cases hc) | false => (cases hc; rfl)
    · cases hc; rfl
    · cases q34 with | true => (cases hc) | false => (cases hc; rfl)
  · refine ⟨?_, ?_, ?_, ?_, ?_, ?_, ?_, ?_, ?_, ?_, ?_, ?_, ?_, ?_, ?_, ?_, ?_, ?_, ?_, ?_, ?_, ?_, ?_, ?_, ?_, ?_, ?_, ?_, ?_, ?_, ?_, ?_, ?_, ?_, ?_, ?_, ?_, ?_, ?_, ?_, ?_, ?_, ?_, ?_, ?_, ?_, ?_, trivial⟩ <;> intro hw
    · exact nomatch (show true = false from hw)
    · exact nomatch (show true = false from hw)
    · exact nomatch (show true = false from hw)
    · exact nomatch (show true = false from hw)
    · exact nomatch (show true = false from hw)
    · exact nomatch (show true = false from hw)
    · cases q5 with | false => rfl | true => exact nomatch (show true = false from hw)
    · cases q5 with | false => rfl | true => exact nomatch (show true = false from hw)
    · cases q5 with | false => rfl | true => exact nomatch (show true = false from hw)
    · cases q5 with | false => rfl | true => exact nomatch (show true = false from hw)
    · exact nomatch (show true = false from hw)
    · exact nomatch (show true = false from hw)
    · cases q10 with | true => rfl | false => exact nomatch (show true = false from hw)
    · cases q10 with | true => rfl | false => exact nomatch (show true = false from hw)
    · cases q10 with | true => rfl | false => exact nomatch (show true = false from hw)
    · cases q10 with | true => rfl | false => exact nomatch (show true = false from hw)
    · exact nomatch (show true = false from hw)
    · exact nomatch (show true = false from hw)
    · cases q16 with | true => rfl | false => exact nomatch (show true = false from hw)
    · cases q16 with | true => rfl | false => exact nomatch (show true = false from hw)
    · cases q16 with | true => rfl | false => exact nomatch (show true = false from hw)
    · cases q16 with | true => rfl | false => exact nomatch (show true = false from hw)
    · exact nomatch (show true = false from hw)
    · exact nomatch (show true = false from hw)
    · cases q22 with | true => rfl | false => exact nomatch (show true = false from hw)
    · cases q22 with | true => rfl | false => exact nomatch (show true = false from hw)
    · cases q22 with | true => rfl | false => exact nomatch (show true = false from hw)
    · cases q22 with | true => rfl | false => exact nomatch (show true = false from hw)
    · cases q22 with | true => rfl | false => exact nomatch (show true = false from hw)
    · cases q22 with | true => rfl | false => cases q28 with | false => rfl | true => exact nomatch (show true = false from hw)
    · cases q22 with | true => rfl | false => cases q28 with | false => rfl | true => exact nomatch (show true = false from hw)
    · cases q22 with | true => rfl | false => cases q28 with | false => rfl | true => exact nomatch (show true = false from hw)
    · cases q22 with | true => rfl | false => cases q28 with | false => rfl | true => exact nomatch (show true = false from hw)
    · cases q22 with | true => rfl | false => exact nomatch (show true = false from hw)
    · exact nomatch (show true = false from hw)
    · exact nomatch (show true = false from hw)
    · cases q34 with | true => rfl | false => exact nomatch (show true = false from hw)
    · cases q34 with | true => rfl | false => exact nomatch (show true = false from hw)
    · cases q34 with | true => rfl | false => exact nomatch (show true = false from hw)
    · cases q34 with | true => rfl | false => exact nomatch (show true = false from hw)
    · cases q34 with | true => rfl | false => exact nomatch (show true = false from hw)
    · cases q34 with | true => rfl | false => cases q40 with | false => rfl | true => exact nomatch (show true = false from hw)
    · cases q34 with | true => rfl | false => cases q40 with | false => rfl | true => exact nomatch (show true = false from hw)
    · cases q34 with | true => rfl | false => cases q40 with | false => rfl | true => exact nomatch (show true = false from hw)
    · cases q34 with | true => rfl | false => cases q40 with | false => rfl | true => exact nomatch (show true = false from hw)
    · cases q34 with | true => rfl | false => exact nomatch (show true = false from hw)
    · exact nomatch (show true = false from hw)
  · refine ⟨?_, ?_, ?_, ?_, ?_, ?_, ?_, ?_, ?_, ?_, ?_, ?_, ?_, ?_, ?_, ?_, ?_, ?_, ?_, ?_, ?_, ?_, ?_, ?_, ?_, ?_, ?_, ?_, ?_, ?_, ?_, ?_, ?_, ?_, ?_, ?_, ?_, ?_, ?_, ?_, ?_, ?_, ?_, ?_, ?_, ?_, ?_, trivial⟩ <;> intro hw a1 w3 L
    · exact kp_f19_12 rfl (L.old 1 (by kernel_rfl))
    · exact kp_ld19Y (cellsM L.rel 12 (.string m.item.key) rfl) (cellsM L.rel 13 (.string m.item.val) rfl) (cellsM L.rel 14 (.int .i64 m.item.till) rfl) (cellsM L.rel 15 (.bool m.item.gone) rfl) rfl (L.val 0 107 (by kernel_rfl) (by kernel_rfl))
    · exact kp_bd19Y rfl
    · exact kp_c19b (cf_eqi _ _ _) (reqItem _ m.item it0 FM.out.item it0_fits e0 he0) rfl (L.val 1 108 (by kernel_rfl) (by kernel_rfl)) (L.val 2 109 (by kernel_rfl) (by kernel_rfl))
    · exact kp_not19 rfl (L.val 3 110 (by kernel_rfl) (by kernel_rfl))
    · exact kp_move rfl ((show _ = _ from (L.val 4 111 (by kernel_rfl) (by kernel_rfl))).trans (congrArg Value.bool hq5))
    · cases q5 with | false => exact nomatch (show false = true from hw) | true => exact kp_f19_12 rfl (L.old 1 (by kernel_rfl))
    · cases q5 with | false => exact nomatch (show false = true from hw) | true => exact kp_ld19Y (cellsM L.rel 12 (.string m.item.key) rfl) (cellsM L.rel 13 (.string m.item.val) rfl) (cellsM L.rel 14 (.int .i64 m.item.till) rfl) (cellsM L.rel 15 (.bool m.item.gone) rfl) rfl (L.val 6 113 (by kernel_rfl) (by kernel_rfl))
    · cases q5 with | false => exact nomatch (show false = true from hw) | true => exact kp_c19 (cf_imay _ _) (rmay _ m.item FM.out.item) rfl (L.val 7 114 (by kernel_rfl) (by kernel_rfl))
    · cases q5 with | false => exact nomatch (show false = true from hw) | true => exact kp_not19 rfl (L.val 8 115 (by kernel_rfl) (by kernel_rfl))
    · exact kp_pick rfl (L.val 5 112 (by kernel_rfl) (by kernel_rfl)) (pick_and hq10 (L.val 9 116 (by kernel_rfl) (by kernel_rfl)) rfl)
    · exact kp_move rfl (L.val 10 117 (by kernel_rfl) (by kernel_rfl))
    · cases q10 with | true => exact nomatch (show false = true from hw) | false => exact kp_f19_13 rfl (L.old 1 (by kernel_rfl))
    · cases q10 with | true => exact nomatch (show false = true from hw) | false => exact kp_ld19S (cellsM L.rel 16 (.slice a.ia m.items.length a.ic) rfl) rfl (L.val 12 119 (by kernel_rfl) (by kernel_rfl))
    · cases q10 with | true => exact nomatch (show false = true from hw) | false => exact kp_len19S rfl (L.val 13 120 (by kernel_rfl) (by kernel_rfl))
    · cases q10 with | true => exact nomatch (show false = true from hw) | false => exact kp_gt19I rfl (L.val 14 121 (by kernel_rfl) (by kernel_rfl)) rfl
    · exact kp_pick rfl (L.val 11 118 (by kernel_rfl) (by kernel_rfl)) (pick_or hq16 rfl (L.val 15 122 (by kernel_rfl) (by kernel_rfl)))
    · exact kp_move rfl (L.val 16 123 (by kernel_rfl) (by kernel_rfl))
    · cases q16 with | true => exact nomatch (show false = true from hw) | false => exact kp_f19_14 rfl (L.old 1 (by kernel_rfl))
    · cases q16 with | true => exact nomatch (show false = true from hw) | false => exact kp_ld19K (cellsM L.rel 17 (.slice a.ma m.marks.length a.mc) rfl) rfl (L.val 18 125 (by kernel_rfl) (by kernel_rfl))
    · cases q16 with | true => exact nomatch (show false = true from hw) | false => exact kp_len19K rfl (L.val 19 126 (by kernel_rfl) (by kernel_rfl))
    · cases q16 with | true => exact nomatch (show false = true from hw) | false => exact kp_gt19I rfl (L.val 20 127 (by kernel_rfl) (by kernel_rfl)) rfl
    · exact kp_pick rfl (L.val 17 124 (by kernel_rfl) (by kernel_rfl)) (pick_or hq22 rfl (L.val 21 128 (by kernel_rfl) (by kernel_rfl)))
    · exact kp_move rfl (L.val 22 129 (by kernel_rfl) (by kernel_rfl))
    · cases q22 with | true => exact nomatch (show false = true from hw) | false => exact kp_f19_15 rfl (L.old 1 (by kernel_rfl))
    · cases q22 with | true => exact nomatch (show false = true from hw) | false => exact kp_ld19N (cellsM L.rel 18 (.slice a.ba m.mem.length a.bc) rfl) rfl (L.val 24 131 (by kernel_rfl) (by kernel_rfl))
    · cases q22 with | true => exact nomatch (show false = true from hw) | false => exact kp_len19N rfl (L.val 25 132 (by kernel_rfl) (by kernel_rfl))
    · cases q22 with | true => exact nomatch (show false = true from hw) | false => exact kp_gt19I rfl (L.val 26 133 (by kernel_rfl) (by kernel_rfl)) rfl
    · cases q22 with | true => exact nomatch (show false = true from hw) | false => exact kp_move rfl ((show _ = _ from (L.val 27 134 (by kernel_rfl) (by kernel_rfl))).trans (congrArg Value.bool hq28))
    · cases q22 with | true => exact nomatch (show false = true from hw) | false => cases q28 with | false => exact nomatch (show false = true from hw) | true => exact kp_f19_15 rfl (L.old 1 (by kernel_rfl))
    · cases q22 with | true => exact nomatch (show false = true from hw) | false => cases q28 with | false => exact nomatch (show false = true from hw) | true => exact kp_ld19N (cellsM L.rel 18 (.slice a.ba m.mem.length a.bc) rfl) rfl (L.val 29 136 (by kernel_rfl) (by kernel_rfl))
    · cases q22 with | true => exact nomatch (show false = true from hw) | false => cases q28 with | false => exact nomatch (show false = true from hw) | true => exact kp_c19 (cf_nodes _ _) (nodes_any _ a.ba a.bc m.mem ((HM.out.mem).keep (HK.out.trans L.rel)) HM.out.bl.1 HM.out.bl.2.1) rfl (L.val 30 137 (by kernel_rfl) (by kernel_rfl))
    · cases q22 with | true => exact nomatch (show false = true from hw) | false => cases q28 with | false => exact nomatch (show false = true from hw) | true => exact kp_not19 rfl (L.val 31 138 (by kernel_rfl) (by kernel_rfl))
    · cases q22 with | true => exact nomatch (show false = true from hw) | false => exact kp_pick rfl (L.val 28 135 (by kernel_rfl) (by kernel_rfl)) (pick_and hq33 (L.val 32 139 (by kernel_rfl) (by kernel_rfl)) rfl)
    · exact kp_pick rfl (L.val 23 130 (by kernel_rfl) (by kernel_rfl)) (pick_or hq34 rfl (L.val 33 140 (by kernel_rfl) (by kernel_rfl)))
    · exact kp_move rfl (L.val 34 141 (by kernel_rfl) (by kernel_rfl))
    · cases q34 with | true => exact nomatch (show false = true from hw) | false => exact kp_f19_17 rfl (L.old 1 (by kernel_rfl))
    · cases q34 with | true => exact nomatch (show false = true from hw) | false => exact kp_ld19N (cellsM L.rel 20 (.slice a.oa m.old.length a.oc) rfl) rfl (L.val 36 143 (by kernel_rfl) (by kernel_rfl))
    · cases q34 with | true => exact nomatch (show false = true from hw) | false => exact kp_len19N rfl (L.val 37 144 (by kernel_rfl) (by kernel_rfl))
    · cases q34 with | true => exact nomatch (show false = true from hw) | false => exact kp_gt19I rfl (L.val 38 145 (by kernel_rfl) (by kernel_rfl)) rfl
    · cases q34 with | true => exact nomatch (show false = true from hw) | false => exact kp_move rfl ((show _ = _ from (L.val 39 146 (by kernel_rfl) (by kernel_rfl))).trans (congrArg Value.bool hq40))
    · cases q34 with | true => exact nomatch (show false = true from hw) | false => cases q40 with | false => exact nomatch (show false = true from hw) | true => exact kp_f19_17 rfl (L.old 1 (by kernel_rfl))
    · cases q34 with | true => exact nomatch (show false = true from hw) | false => cases q40 with | false => exact nomatch (show false = true from hw) | true => exact kp_ld19N (cellsM L.rel 20 (.slice a.oa m.old.length a.oc) rfl) rfl (L.val 41 148 (by kernel_rfl) (by kernel_rfl))
    · cases q34 with | true => exact nomatch (show false = true from hw) | false => cases q40 with | false => exact nomatch (show false = true from hw) | true => exact kp_c19 (cf_nodes _ _) (nodes_any _ a.oa a.oc m.old ((HM.out.old).keep (HK.out.trans L.rel)) HM.out.ol.1 HM.out.ol.2.1) rfl (L.val 42 149 (by kernel_rfl) (by kernel_rfl))
    · cases q34 with | true => exact nomatch (show false = true from hw) | false => cases q40 with | false => exact nomatch (show false = true from hw) | true => exact kp_not19 rfl (L.val 43 150 (by kernel_rfl) (by kernel_rfl))
    · cases q34 with | true => exact nomatch (show false = true from hw) | false => exact kp_pick rfl (L.val 40 147 (by kernel_rfl) (by kernel_rfl)) (pick_and hq45 (L.val 44 151 (by kernel_rfl) (by kernel_rfl)) rfl)
    · exact kp_pick rfl (L.val 35 142 (by kernel_rfl) (by kernel_rfl)) (pick_or hq46 rfl (L.val 45 152 (by kernel_rfl) (by kernel_rfl)))
  intro w4 hk4
  clear hf3
  have HH := Lib.hid (may_list m e0 q5 q10 q16 q22 q28 q33 q34 q40 q45 q46 he0 hq5 hq10 hq16 hq22 hq28 hq33 hq34 hq40 hq45 hq46)
  clear hq46 hq45 hq40 hq34 hq33 hq28 hq22 hq16 hq10 hq5 he0 cellsM
  replace HK := Lib.hid (HK.out.trans hk4)
  replace HB1 := Lib.hid (HB1.out.kp hk4)
  clear hk4
  cases q46 with
  | true =>
    have HE := Lib.hid (show r = false from by rw [HR2.out, HH.out]; rfl)
    clear HH HR2
    simp only [Exit.then]
    go_wp2_with fail
    go_ret
    exact ⟨by rw [HE.out]; rfl, HK.out⟩
  | false =>
  have HR3 := Lib.hid (show r = (m.items.all It.may && marksB m.marks) from by rw [HR2.out, HH.out]; rfl)
  clear HH HR2
  simp only [Exit.then]
  have hil : m.items.length ≤ 100 := FM.out.il
  have hml : m.marks.length ≤ 100 := FM.out.ml
  go_wp2_with fail
  go_loopw [3] (fun i wr => ∃ k : Nat, k ≤ m.items.length ∧ i = .int .i64 (k : Int) ∧ Hid (∀ j (h : j < m.items.length), j < k → m.items[j].may = true) ∧ Hid (Kp w4 wr)) (fun i _ => m.items.length - (intOf i).toNat)
  case atStart => exact ⟨0, Nat.zero_le _, rfl, Lib.hid (fun j _ hj => absurd hj (Nat.not_lt_zero _)), Lib.hid (Keeps.refl _ _)⟩
  case round =>
    obtain ⟨k, hk, rfl, HJ, HW⟩ := hrel
    by_cases hlt : k < m.items.length
    · have hlt' : (k : Int) < (m.items.length : Int) := by omega
      obtain ⟨b, o, ea, -, c0, c1, c2, c3⟩ := HM.out.its k hlt
      have hkk := HK.out.trans HW.out
      replace c0 := hkk.cell c0 trivial
      replace c1 := hkk.cell c1 trivial
      replace c2 := hkk.cell c2 trivial
      replace c3 := hkk.cell c3 trivial
      have c16 := (HB1.out.kp HW.out).cell 16 (.slice (some ⟨b, o, none⟩) m.items.length a.ic) (by rw [← ea]; rfl)
      clear ea hkk
      obtain ⟨mb, hmb⟩ : ∃ b, m.items[k].may = b := ⟨_, rfl⟩
      have HX := Lib.hid (fun w5 => hmb ▸ rmay w5 m.items[k] (FM.out.its _ (List.getElem_mem hlt)))
      have HNO := Lib.hid (show mb = false → r = false from fun h => by
        rw [HR3.out, (List.all_eq_false.2 ⟨_, List.getElem_mem hlt, by rw [hmb, h]; decide⟩ : m.items.all It.may = false)]; rfl)
      have HYES := Lib.hid (show mb = true → ∀ j (h : j < m.items.length), j < k + 1 → m.items[j].may = true from fun h j hj hjk => by
        rcases Nat.lt_or_ge j k with h1 | h1
        · exact HJ.out j hj h1
        · obtain rfl : j = k := by omega
          rw [hmb, h])
      clear hmb HJ
      generalize m.items[k] = x at c0 c1 c2 c3 HX
      obtain ⟨x1, x2, x3, x4⟩ := x
      simp only at c0 c1 c2 c3
      go_wp2_with fail
      refine (show Calls _ _ _ _ _ from HX.out _).mono ?_
      rintro e w5 ⟨rfl, hk5⟩
      have HK5 := Lib.hid (HW.out.trans hk5)
      clear hk5
      cases mb with
      | false =>
        have HE := Lib.hid (HNO.out rfl)
        go_wp2_with fail
        go_ret
        exact ⟨by rw [HE.out]; rfl, HK.out.trans HK5.out⟩
      | true =>
        have HJ2 := Lib.hid (HYES.out rfl)
        clear HNO HYES
        go_wp2_with fail
        go_roundw
        case rel => exact ⟨k + 1, by omega, by go_num, HJ2, HK5⟩
        case measure => simp [intOf]; omega
    · obtain rfl : k = m.items.length := by omega
      have HR4 := Lib.hid (show r = marksB m.marks from by
        rw [HR3.out, (List.all_eq_true.2 (fun x hx => by
          obtain ⟨j, hj, rfl⟩ := List.getElem_of_mem hx
          exact HJ.out j hj hj) : m.items.all It.may = true)]; rfl)
      have c16 := (HB1.out.kp HW.out).cell 16 (.slice a.ia m.items.length a.ic) rfl
      have HB4 := Lib.hid (HB1.out.kp HW.out)
      have HK4 := Lib.hid (HK.out.trans HW.out)
      clear hk hlt HR3 HJ HW HK HB1
      go_wp2_with fail
      go_loopw [4] (fun i wq => ∃ k : Nat, k ≤ m.marks.length ∧ i = .int .i64 (k : Int) ∧ Hid (∀ j, j < k → markB m.marks j = true) ∧ Hid (Kp wr wq)) (fun i _ => m.marks.length - (intOf i).toNat)
      case atStart => exact ⟨0, Nat.zero_le _, rfl, Lib.hid (fun j hj => absurd hj (Nat.not_lt_zero _)), Lib.hid (Keeps.refl _ _)⟩
      case round =>
        obtain ⟨k, hk, rfl, HJ, HW⟩ := hrel
        by_cases hlt : k < m.marks.length
        · have hlt' : (k : Int) < (m.marks.length : Int) := by omega
          obtain ⟨b, o, ea, -, c0, c1⟩ := HM.out.mks k hlt
          obtain ⟨b2, o2, ea2, -, d0, -⟩ := HM.out.mks (k - 1) (by omega)
          rw [ea] at ea2
          injection ea2 with ea2
          injection ea2 with e1 e2 _
          subst e1 e2
          have hkk := HK4.out.trans HW.out
          replace c0 := hkk.cell c0 trivial
          replace c1 := hkk.cell c1 trivial
          have HD := Lib.hid (hkk.cell d0 trivial)
          have HCC := Lib.hid (show (msC m a)[17]? = some (.slice (some ⟨b, o, none⟩) m.marks.length a.mc) from by rw [← ea]; rfl)
          have c17 := (HB4.out.kp HW.out).cell 17 _ HCC.out
          have HMB := Lib.hid (show markB m.marks k = markE m.marks[k].seq m.marks[k].key k (m.marks[k - 1]'(by omega)).seq from by
            unfold markB markE
            have q1 : m.marks.getD k default = m.marks[k] := by rw [List.getD_eq_getElem?_getD, List.getElem?_eq_getElem hlt]; rfl
            have q2 : m.marks.getD (k - 1) default = m.marks[k - 1]'(by omega) := by rw [List.getD_eq_getElem?_getD, List.getElem?_eq_getElem (by omega)]; rfl
            rw [q1, q2])
          have HKS := Lib.hid (FM.out.mks _ (List.getElem_mem hlt)).1
          clear ea d0 hkk
          generalize m.marks[k].seq = x at c0 HMB
          generalize m.marks[k].key = s at c1 HMB HKS
          generalize (m.marks[k - 1]'(by omega)).seq = y at HD HMB
          go_upto_region 14 with fail
          obtain ⟨w6, h6⟩ : ∃ w6, wr.alloc (Obj.cells #[Value.int IntKind.i64 x, Value.string s] 57) = w6 := ⟨_, rfl⟩
          have hnew : w6.heap[wr.heap.size]? = some (.cells #[.int .i64 x, .string s] 57 (0, 0)) := by rw [← h6]; exact heap_alloc_new wr _
          have hk6 : Kp wr w6 := by rw [← h6]; exact (Keeps.refl _ wr).alloc _
          obtain ⟨G, hG⟩ : ∃ G, wr.heap.size = G := ⟨_, rfl⟩
          rw [h6]
          rw [hG] at hnew ⊢
          have HC0 := Lib.hid (show w6.cell? ⟨G, 0, none⟩ = some (.int .i64 x) from (cell_of_block hnew 0).trans rfl)
          have HC1 := Lib.hid (show w6.cell? ⟨G, 1, none⟩ = some (.string s) from (cell_of_block hnew 1).trans rfl)
          have HDD := Lib.hid (hk6.cell HD.out trivial)
          have HB6 := Lib.hid ((HB4.out.kp HW.out).kp hk6)
          have HW6 := Lib.hid (HW.out.trans hk6)
          have HCM := Lib.hid (HCC.out)
          clear h6 hnew hk6 hG HD c0 c1 c17 HW
          obtain ⟨s3, hs3⟩ : ∃ p, (decide (x < (1 : Int))) = p := ⟨_, rfl⟩
          obtain ⟨s7, hs7⟩ : ∃ p, (s3 || (decide ((1099511627776 : Int) < x))) = p := ⟨_, rfl⟩
          obtain ⟨kB, hkB⟩ : ∃ p, (decide (1 ≤ s.size) && decide (s.size ≤ 40)) = p := ⟨_, rfl⟩
          obtain ⟨s13, hs13⟩ : ∃ p, (s7 || (!kB)) = p := ⟨_, rfl⟩
          obtain ⟨s17, hs17⟩ : ∃ p, (decide ((0 : Int) < (k : Int))) = p := ⟨_, rfl⟩
          obtain ⟨s28, hs28⟩ : ∃ p, (s17 && (decide (x ≤ y))) = p := ⟨_, rfl⟩
          obtain ⟨s29, hs29⟩ : ∃ p, (s13 || s28) = p := ⟨_, rfl⟩
          obtain ⟨f5, hf5⟩ : ∃ f : Nat → Value, (fun i => (may14V g G b o m.marks.length a.mc k x y s s3 s7 kB s13 s17 s28 s29).getD i undef) = f := ⟨_, rfl⟩
          refine wp_region_valsD (may14V g G b o m.marks.length a.mc k x y s s3 s7 kB s13 s17 s28 s29) (may14G s3 s7 kB s13 s17 s28 s29) ⟨#[vM, .pointer (some ⟨g, 0, none⟩), u2, .int .i64 (m.items.length : Int), .int .i64 (k : Int), .pointer (some ⟨G, 0, none⟩), f1 0, f1 1, f1 2, f1 3, f1 4, f1 5, f1 6, f1 7, f1 8, f1 9, f1 10, f1 11, f1 12, f1 13, f1 14, f1 15, f1 16, f1 17, f1 18, f1 19, f1 20, f1 21, f1 22, f1 23, f1 24, f1 25, f1 26, f1 27, f1 28, f1 29, f1 30, f1 31, f1 32, f1 33, f1 34, f1 35, f1 36, f1 37, f1 38, f1 39, f1 40, f1 41, f1 42, f1 43, f1 44, f1 45, f1 46, f1 47, f1 48, f1 49, f1 50, f1 51, f1 52, f1 53, f1 54, f1 55, f1 56, f1 57, f1 58, f1 59, f1 60, f1 61, f1 62, f1 63, f1 64, f1 65, f1 66, f1 67, f1 68, f1 69, f1 70, f1 71, f1 72, f1 73, f1 74, f1 75, f1 76, f1 77, f1 78, f1 79, f1 80, f1 81, f1 82, f1 83, f1 84, f1 85, f1 86, f1 87, f1 88, f1 89, f1 90, f1 91, f1 92, f1 93, f1 94, f1 95, f1 96, f1 97, f1 98, f1 99, .bool false, f3 0, f3 1, f3 2, f3 3, f3 4, f3 5, f3 6, f3 7, f3 8, f3 9, f3 10, f3 11, f3 12, f3 13, f3 14, f3 15, f3 16, f3 17, f3 18, f3 19, f3 20, f3 21, f3 22, f3 23, f3 24, f3 25, f3 26, f3 27, f3 28, f3 29, f3 30, f3 31, f3 32, f3 33, f3 34, f3 35, f3 36, f3 37, f3 38, f3 39, f3 40, f3 41, f3 42, f3 43, f3 44, f3 45, .bool false, .int .i64 (m.items.length : Int), .pointer (some ⟨g, 16, none⟩), .slice a.ia m.items.length a.ic, .int .i64 (m.items.length : Int), .bool false, u159, u160, u161, u162, u163, u164, u165, u166, u167, .int .i64 (k : Int), .pointer (some ⟨g, 17, none⟩), .slice (some ⟨b, o, none⟩) m.marks.length a.mc, .int .i64 (m.marks.length : Int), .bool true, u173, u174, .pointer (some ⟨g, 17, none⟩), .slice (some ⟨b, o, none⟩) m.marks.length a.mc, .int .i64 (k : Int), .pointer (some ⟨b, o + k * 2, none⟩), .agg #[.int .i64 x, .string s], f5 0, f5 1, f5 2, f5 3, f5 4, f5 5, f5 6, f5 7, f5 8, f5 9, f5 10, f5 11, f5 12, f5 13, f5 14, f5 15, f5 16, f5 17, f5 18, f5 19, f5 20, f5 21, f5 22, f5 23, f5 24, f5 25, f5 26, f5 27, f5 28, .bool s29], []⟩ rfl (by kernel_rfl) (by subst hf5; kernel_rfl) (by cases s13 <;> kernel_rfl) ?_ (each_of ?_) (each_of ?_) ?_ (by kernel_rfl)
          · intro p hp; simp only [may14G, List.mem_cons, List.not_mem_nil, or_false] at hp
            rcases hp with rfl | rfl | rfl | rfl <;> intro c hc
            · cases hc; rfl
            · cases hc; rfl
            · cases hc; rfl
            · cases s13 with | true => (cases hc) | false => (cases hc; rfl)
          · refine ⟨?_, ?_, ?_, ?_, ?_, ?_, ?_, ?_, ?_, ?_, ?_, ?_, ?_, ?_, ?_, ?_, ?_, ?_, ?_, ?_, ?_, ?_, ?_, ?_, ?_, ?_, ?_, ?_, ?_, ?_, trivial⟩ <;> intro hw
            · exact nomatch (show true = false from hw)
            · exact nomatch (show true = false from hw)
            · exact nomatch (show true = false from hw)
            · exact nomatch (show true = false from hw)
            · cases s3 with | true => rfl | false => exact nomatch (show true = false from hw)
            · cases s3 with | true => rfl | false => exact nomatch (show true = false from hw)
            · cases s3 with | true => rfl | false => exact nomatch (show true = false from hw)
            · exact nomatch (show true = false from hw)
            · exact nomatch (show true = false from hw)
            · cases s7 with | true => rfl | false => exact nomatch (show true = false from hw)
            · cases s7 with | true => rfl | false => exact nomatch (show true = false from hw)
            · cases s7 with | true => rfl | false => exact nomatch (show true = false from hw)
            · cases s7 with | true => rfl | false => exact nomatch (show true = false from hw)
            · exact nomatch (show true = false from hw)
            · exact nomatch (show true = false from hw)
            · cases s13 with | true => rfl | false => exact nomatch (show true = false from hw)
            · cases s13 with | true => rfl | false => exact nomatch (show true = false from hw)
            · cases s13 with | true => rfl | false => exact nomatch (show true = false from hw)
            · cases s13 with | true => rfl | false => cases s17 with | false => rfl | true => exact nomatch (show true = false from hw)
            · cases s13 with | true => rfl | false => cases s17 with | false => rfl | true => exact nomatch (show true = false from hw)
            · cases s13 with | true => rfl | false => cases s17 with | false => rfl | true => exact nomatch (show true = false from hw)
            · cases s13 with | true => rfl | false => cases s17 with | false => rfl | true => exact nomatch (show true = false from hw)
            · cases s13 with | true => rfl | false => cases s17 with | false => rfl | true => exact nomatch (show true = false from hw)
            · cases s13 with | true => rfl | false => cases s17 with | false => rfl | true => exact nomatch (show true = false from hw)
            · cases s13 with | true => rfl | false => cases s17 with | false => rfl | true => exact nomatch (show true = false from hw)
            · cases s13 with | true => rfl | false => cases s17 with | false => rfl | true => exact nomatch (show true = false from hw)
            · cases s13 with | true => rfl | false => cases s17 with | false => rfl | true => exact nomatch (show true = false from hw)
            · cases s13 with | true => rfl | false => cases s17 with | false => rfl | true => exact nomatch (show true = false from hw)
            · cases s13 with | true => rfl | false => exact nomatch (show true = false from hw)
            · exact nomatch (show true = false from hw)
          · refine ⟨?_, ?_, ?_, ?_, ?_, ?_, ?_, ?_, ?_, ?_, ?_, ?_, ?_, ?_, ?_, ?_, ?_, ?_, ?_, ?_, ?_, ?_, ?_, ?_, ?_, ?_, ?_, ?_, ?_, ?_, trivial⟩ <;> intro hw a1 w3 L
            · exact kp_fMk0 rfl (L.old 5 (by kernel_rfl))
            · exact kp_ld19L (L.rel.cell HC0.out trivial) rfl (L.val 0 180 (by kernel_rfl) (by kernel_rfl))
            · exact kp_lt19L rfl (L.val 1 181 (by kernel_rfl) (by kernel_rfl)) rfl
            · exact kp_move rfl ((show _ = _ from (L.val 2 182 (by kernel_rfl) (by kernel_rfl))).trans (congrArg Value.bool hs3))
            · cases s3 with | true => exact nomatch (show false = true from hw) | false => exact kp_fMk0 rfl (L.old 5 (by kernel_rfl))
            · cases s3 with | true => exact nomatch (show false = true from hw) | false => exact kp_ld19L (L.rel.cell HC0.out trivial) rfl (L.val 4 184 (by kernel_rfl) (by kernel_rfl))
            · cases s3 with | true => exact nomatch (show false = true from hw) | false => exact kp_gt19L rfl (L.val 5 185 (by kernel_rfl) (by kernel_rfl)) rfl
            · exact kp_pick rfl (L.val 3 183 (by kernel_rfl) (by kernel_rfl)) (pick_or hs7 rfl (L.val 6 186 (by kernel_rfl) (by kernel_rfl)))
            · exact kp_move rfl (L.val 7 187 (by kernel_rfl) (by kernel_rfl))
            · cases s7 with | true => exact nomatch (show false = true from hw) | false => exact kp_fMk1 rfl (L.old 5 (by kernel_rfl))
            · cases s7 with | true => exact nomatch (show false = true from hw) | false => exact kp_ld19T (L.rel.cell HC1.out trivial) rfl (L.val 9 189 (by kernel_rfl) (by kernel_rfl))
            · cases s7 with | true => exact nomatch (show false = true from hw) | false => exact kp_c19 (cf_key _ _) ((rkey s (Nat.le_trans HKS.out (by decide)) _ kB hkB).mono fun e w4 h => ⟨h.1, by rw [h.2]; exact Keeps.refl _ _⟩) rfl (L.val 10 190 (by kernel_rfl) (by kernel_rfl))
            · cases s7 with | true => exact nomatch (show false = true from hw) | false => exact kp_not19 rfl (L.val 11 191 (by kernel_rfl) (by kernel_rfl))
            · exact kp_pick rfl (L.val 8 188 (by kernel_rfl) (by kernel_rfl)) (pick_or hs13 rfl (L.val 12 192 (by kernel_rfl) (by kernel_rfl)))
            · exact kp_move rfl (L.val 13 193 (by kernel_rfl) (by kernel_rfl))
            · cases s13 with | true => exact nomatch (show false = true from hw) | false => exact kp_move rfl (L.old 4 (by kernel_rfl))
            · cases s13 with | true => exact nomatch (show false = true from hw) | false => exact kp_gt19I rfl (L.val 15 195 (by kernel_rfl) (by kernel_rfl)) rfl
            · cases s13 with | true => exact nomatch (show false = true from hw) | false => exact kp_move rfl ((show _ = _ from (L.val 16 196 (by kernel_rfl) (by kernel_rfl))).trans (congrArg Value.bool hs17))
            · cases s13 with | true => exact nomatch (show false = true from hw) | false => cases s17 with | false => exact nomatch (show false = true from hw) | true => exact kp_fMk0 rfl (L.old 5 (by kernel_rfl))
            · cases s13 with | true => exact nomatch (show false = true from hw) | false => cases s17 with | false => exact nomatch (show false = true from hw) | true => exact kp_ld19L (L.rel.cell HC0.out trivial) rfl (L.val 18 198 (by kernel_rfl) (by kernel_rfl))
            · cases s13 with | true => exact nomatch (show false = true from hw) | false => cases s17 with | false => exact nomatch (show false = true from hw) | true => exact kp_f19_14 rfl (L.old 1 (by kernel_rfl))
            · cases s13 with | true => exact nomatch (show false = true from hw) | false => cases s17 with | false => exact nomatch (show false = true from hw) | true => exact kp_ld19K ((HB6.out.kp L.rel).cell 17 _ HCM.out) rfl (L.val 20 200 (by kernel_rfl) (by kernel_rfl))
            · cases s13 with | true => exact nomatch (show false = true from hw) | false => cases s17 with | false => exact nomatch (show false = true from hw) | true => exact kp_move rfl (L.old 4 (by kernel_rfl))
            · cases s13 with | true => exact nomatch (show false = true from hw) | false => cases s17 with | false => exact nomatch (show false = true from hw) | true => exact kp_pred19 (pos19 hs17) (by omega) rfl (L.val 22 202 (by kernel_rfl) (by kernel_rfl)) rfl
            · cases s13 with | true => exact nomatch (show false = true from hw) | false => cases s17 with | false => exact nomatch (show false = true from hw) | true => exact kp_ixMk (by omega) rfl (L.val 21 201 (by kernel_rfl) (by kernel_rfl)) (L.val 23 203 (by kernel_rfl) (by kernel_rfl))
            · cases s13 with | true => exact nomatch (show false = true from hw) | false => cases s17 with | false => exact nomatch (show false = true from hw) | true => exact kp_fMk0 rfl (L.val 24 204 (by kernel_rfl) (by kernel_rfl))
            · cases s13 with | true => exact nomatch (show false = true from hw) | false => cases s17 with | false => exact nomatch (show false = true from hw) | true => exact kp_ld19L (L.rel.cell HDD.out trivial) rfl (L.val 25 205 (by kernel_rfl) (by kernel_rfl))
            · cases s13 with | true => exact nomatch (show false = true from hw) | false => cases s17 with | false => exact nomatch (show false = true from hw) | true => exact kp_le19L rfl (L.val 19 199 (by kernel_rfl) (by kernel_rfl)) (L.val 26 206 (by kernel_rfl) (by kernel_rfl))
            · cases s13 with | true => exact nomatch (show false = true from hw) | false => exact kp_pick rfl (L.val 17 197 (by kernel_rfl) (by kernel_rfl)) (pick_and hs28 (L.val 27 207 (by kernel_rfl) (by kernel_rfl)) rfl)
            · exact kp_pick rfl (L.val 14 194 (by kernel_rfl) (by kernel_rfl)) (pick_or hs29 rfl (L.val 28 208 (by kernel_rfl) (by kernel_rfl)))
          intro w7 hk7
          clear hf5
          have HME := Lib.hid (may_mark x y s k s3 s7 kB s13 s17 s28 s29 hs3 hs7 hkB hs13 hs17 hs28 hs29)
          clear hs29 hs28 hs17 hs13 hkB hs7 hs3
          have HK7 := Lib.hid (HW6.out.trans hk7)
          clear hk7 HC0 HC1 HDD HB6 HW6
          cases s29 with
          | true =>
            have HE := Lib.hid (show r = false from by
              rw [HR4.out]
              unfold marksB
              rw [List.all_eq_false]
              exact ⟨k, List.mem_range.2 hlt, by rw [HMB.out, HME.out]; decide⟩)
            simp only [Exit.then]
            go_wp2_with fail
            go_ret
            exact ⟨by rw [HE.out]; rfl, HK4.out.trans HK7.out⟩
          | false =>
            have HJ2 := Lib.hid (show ∀ j, j < k + 1 → markB m.marks j = true from fun j hj => by
              rcases Nat.lt_or_ge j k with h1 | h1
              · exact HJ.out j h1
              · obtain rfl : j = k := by omega
                rw [HMB.out, HME.out]; rfl)
            clear HMB HME HJ
            simp only [Exit.then]
            go_wp2_with fail
            go_roundw
            case rel => exact ⟨k + 1, by omega, by go_num, HJ2, HK7⟩
            case measure => simp [intOf]; omega
        · obtain rfl : k = m.marks.length := by omega
          have HE := Lib.hid (show r = true from by
            rw [HR4.out]
            unfold marksB
            rw [List.all_eq_true]
            intro j hj
            exact HJ.out j (List.mem_range.1 hj))
          have c17 := (HB4.out.kp HW.out).cell 17 (.slice a.ma m.marks.length a.mc) rfl
          have HK5 := Lib.hid (HK4.out.trans HW.out)
          clear hk hlt HJ HW HR4
          go_wp2_with fail
          go_ret
          exact ⟨by rw [HE.out]; rfl, HK5.out⟩

end Go.Proofs.YtpijhpfcigjkeaaDoor
end

/-
  THE REFERENCE's EqMsg (layer 19). WRITTEN by wip/gen19e.py.
-/
section
namespace Go.Proofs.YtpijhpfcigjkeaaDoor
open Go Go.RowKit Go.Joins


def eqmV (g : Nat) (m n : Ms) (p0 p1 p2 p3 p4 p5 p6 p7 p8 p9 p10 p11 p12 : Bool) : List Value :=
  [.pointer (some ⟨g, 0, none⟩), .int .i64 m.kind, .pointer (some ⟨(g + 1), 0, none⟩), .int .i64 n.kind, .bool (m.kind != n.kind), .bool p0, cond p0 undef (.pointer (some ⟨g, 1, none⟩)), cond p0 undef (.int .i64 m.frm), cond p0 undef (.pointer (some ⟨(g + 1), 1, none⟩)), cond p0 undef (.int .i64 n.frm), cond p0 undef (.bool (m.frm != n.frm)), .bool p1, .bool p1, cond p1 undef (.pointer (some ⟨g, 2, none⟩)), cond p1 undef (.int .i64 m.to_), cond p1 undef (.pointer (some ⟨(g + 1), 2, none⟩)), cond p1 undef (.int .i64 n.to_), cond p1 undef (.bool (m.to_ != n.to_)), .bool p2, .bool p2, cond p2 undef (.pointer (some ⟨g, 3, none⟩)), cond p2 undef (.int .i64 m.epoch), cond p2 undef (.pointer (some ⟨(g + 1), 3, none⟩)), cond p2 undef (.int .i64 n.epoch), cond p2 undef (.bool (m.epoch != n.epoch)), .bool p3, .bool p3, cond p3 undef (.pointer (some ⟨g, 4, none⟩)), cond p3 undef (.int .i64 m.tick), cond p3 undef (.pointer (some ⟨(g + 1), 4, none⟩)), cond p3 undef (.int .i64 n.tick), cond p3 undef (.bool (m.tick != n.tick)), .bool p4, .bool p4, cond p4 undef (.pointer (some ⟨g, 5, none⟩)), cond p4 undef (.int .i64 m.seq), cond p4 undef (.pointer (some ⟨(g + 1), 5, none⟩)), cond p4 undef (.int .i64 n.seq), cond p4 undef (.bool (m.seq != n.seq)), .bool p5, .bool p5, cond p5 undef (.pointer (some ⟨g, 6, none⟩)), cond p5 undef (.int .i64 m.n), cond p5 undef (.pointer (some ⟨(g + 1), 6, none⟩)), cond p5 undef (.int .i64 n.n), cond p5 undef (.bool (m.n != n.n)), .bool p6, .bool p6, cond p6 undef (.pointer (some ⟨g, 7, none⟩)), cond p6 undef (.int .i64 m.id), cond p6 undef (.pointer (some ⟨(g + 1), 7, none⟩)), cond p6 undef (.int .i64 n.id), cond p6 undef (.bool (m.id != n.id)), .bool p7, .bool p7, cond p7 undef (.pointer (some ⟨g, 8, none⟩)), cond p7 undef (.int .i64 m.op), cond p7 undef (.pointer (some ⟨(g + 1), 8, none⟩)), cond p7 undef (.int .i64 n.op), cond p7 undef (.bool (m.op != n.op)), .bool p8, .bool p8, cond p8 undef (.pointer (some ⟨g, 9, none⟩)), cond p8 undef (.string m.key), cond p8 undef (.pointer (some ⟨(g + 1), 9, none⟩)), cond p8 undef (.string n.key), cond p8 undef (.bool (!(m.key.toList == n.key.toList))), .bool p9, .bool p9, cond p9 undef (.pointer (some ⟨g, 10, none⟩)), cond p9 undef (.int .i64 m.err), cond p9 undef (.pointer (some ⟨(g + 1), 10, none⟩)), cond p9 undef (.int .i64 n.err), cond p9 undef (.bool (m.err != n.err)), .bool p10, .bool p10, cond p10 undef (.pointer (some ⟨g, 11, none⟩)), cond p10 undef (.bool m.last), cond p10 undef (.pointer (some ⟨(g + 1), 11, none⟩)), cond p10 undef (.bool n.last), cond p10 undef (.bool (m.last != n.last)), .bool p11, .bool p11, cond p11 undef (.pointer (some ⟨g, 19, none⟩)), cond p11 undef (.int .i64 m.base), cond p11 undef (.pointer (some ⟨(g + 1), 19, none⟩)), cond p11 undef (.int .i64 n.base), cond p11 undef (.bool (m.base != n.base)), .bool p12]
def eqmG (p0 p1 p2 p3 p4 p5 p6 p7 p8 p9 p10 p11 _p12 : Bool) : List (Nat × Bool) := [(5, p0), (12, p1), (19, p2), (26, p3), (33, p4), (40, p5), (47, p6), (54, p7), (61, p8), (68, p9), (75, p10), (82, p11)]

theorem eqm_or (m n : Ms) (p0 p1 p2 p3 p4 p5 p6 p7 p8 p9 p10 p11 p12 : Bool) (h0 : (m.kind != n.kind) = p0) (h1 : (p0 || (m.frm != n.frm)) = p1) (h2 : (p1 || (m.to_ != n.to_)) = p2) (h3 : (p2 || (m.epoch != n.epoch)) = p3) (h4 : (p3 || (m.tick != n.tick)) = p4) (h5 : (p4 || (m.seq != n.seq)) = p5) (h6 : (p5 || (m.n != n.n)) = p6) (h7 : (p6 || (m.id != n.id)) = p7) (h8 : (p7 || (m.op != n.op)) = p8) (h9 : (p8 || (!(m.key.toList == n.key.toList))) = p9) (h10 : (p9 || (m.err != n.err)) = p10) (h11 : (p10 || (m.last != n.last)) = p11) (h12 : (p11 || (m.base != n.base)) = p12) : p12 = true ∧ m ≠ n ∨ p12 = false ∧ m = { n with item := m.item, items := m.items, marks := m.marks, mem := m.mem, old := m.old } := by
  cases hp : p12
  · refine .inr ⟨rfl, ?_⟩
    subst h0 h1 h2 h3 h4 h5 h6 h7 h8 h9 h10 h11
    rw [hp] at h12
    simp only [Bool.or_eq_false_iff] at h12
    rw [str_same] at h12
    simp only [bne_eq_false_iff_eq, Bool.not_eq_false', decide_eq_true_eq] at h12
    obtain ⟨⟩ := m; obtain ⟨⟩ := n
    simp only at *
    simp [*]
  · refine .inl ⟨rfl, ?_⟩
    rintro rfl
    subst h0 h1 h2 h3 h4 h5 h6 h7 h8 h9 h10 h11
    simp [hp] at h12

set_option maxRecDepth 100000 in
set_option maxHeartbeats 4000000 in
theorem reqMsg (w : World) (m n : Ms) (a b : MsA) (hm : MsAt w m a) (hn : MsAt w n b) (fm : m.Fits) (fn : n.Fits) (r : Bool) (hr : decide (m = n) = r) :
    Calls Tryd.prog 15 #[msV m a, msV n b] w fun e w' => e = .returned (.bool r) ∧ Kp w w' := by
  have HR := Lib.hid hr
  have HM := Lib.hid hm
  have HN := Lib.hid hn
  have FM := Lib.hid fm
  have FN := Lib.hid fn
  obtain ⟨vM, hvM⟩ : ∃ v, msV m a = v := ⟨_, rfl⟩
  obtain ⟨vN, hvN⟩ : ∃ v, msV n b = v := ⟨_, rfl⟩
  have HVM := Lib.hid hvM
  have HVN := Lib.hid hvN
  rw [hvM, hvN]
  clear hm hn fm fn hvM hvN hr
  go_enter Tryd.func15, Tryd.ntmps15
  go_upto_region 1 with (first
    | (refine list_boxM rfl (.tmp 0) rfl m a HVM.out.symm ?_; intro w1 hb1 hk1 hs1)
    | (refine list_boxM rfl (.tmp 1) rfl n b HVN.out.symm ?_; intro w2 hb2 hk2 hs2))
  obtain ⟨g, hg⟩ : ∃ g, w.heap.size = g := ⟨_, rfl⟩
  rw [hg] at hb1 hs1 ⊢
  rw [hs1] at hb2 hs2
  replace hb1 := hb1.kp hk2
  have HB1 := Lib.hid hb1
  have HB2 := Lib.hid hb2
  have HK := Lib.hid (hk1.trans hk2)
  clear hb1 hb2 hk1 hk2 hs1 hs2 hg
  obtain ⟨p0, h0⟩ : ∃ p, (m.kind != n.kind) = p := ⟨_, rfl⟩
  obtain ⟨p1, h1⟩ : ∃ p, (p0 || (m.frm != n.frm)) = p := ⟨_, rfl⟩
  obtain ⟨p2, h2⟩ : ∃ p, (p1 || (m.to_ != n.to_)) = p := ⟨_, rfl⟩
  obtain ⟨p3, h3⟩ : ∃ p, (p2 || (m.epoch != n.epoch)) = p := ⟨_, rfl⟩
  obtain ⟨p4, h4⟩ : ∃ p, (p3 || (m.tick != n.tick)) = p := ⟨_, rfl⟩
  obtain ⟨p5, h5⟩ : ∃ p, (p4 || (m.seq != n.seq)) = p := ⟨_, rfl⟩
  obtain ⟨p6, h6⟩ : ∃ p, (p5 || (m.n != n.n)) = p := ⟨_, rfl⟩
  obtain ⟨p7, h7⟩ : ∃ p, (p6 || (m.id != n.id)) = p := ⟨_, rfl⟩
  obtain ⟨p8, h8⟩ : ∃ p, (p7 || (m.op != n.op)) = p := ⟨_, rfl⟩
  obtain ⟨p9, h9⟩ : ∃ p, (p8 || (!(m.key.toList == n.key.toList))) = p := ⟨_, rfl⟩
  obtain ⟨p10, h10⟩ : ∃ p, (p9 || (m.err != n.err)) = p := ⟨_, rfl⟩
  obtain ⟨p11, h11⟩ : ∃ p, (p10 || (m.last != n.last)) = p := ⟨_, rfl⟩
  obtain ⟨p12, h12⟩ : ∃ p, (p11 || (m.base != n.base)) = p := ⟨_, rfl⟩
  have HC := Lib.hid (eqm_or m n p0 p1 p2 p3 p4 p5 p6 p7 p8 p9 p10 p11 p12 h0 h1 h2 h3 h4 h5 h6 h7 h8 h9 h10 h11 h12)
  refine wp_region_vals (eqmV g m n p0 p1 p2 p3 p4 p5 p6 p7 p8 p9 p10 p11 p12) (eqmG p0 p1 p2 p3 p4 p5 p6 p7 p8 p9 p10 p11 p12) ⟨#[vM, vN, .pointer (some ⟨g, 0, none⟩), .pointer (some ⟨g + 1, 0, none⟩), .bool false, .pointer (some ⟨g, 0, none⟩), .int .i64 m.kind, .pointer (some ⟨(g + 1), 0, none⟩), .int .i64 n.kind, .bool (m.kind != n.kind), .bool p0, cond p0 undef (.pointer (some ⟨g, 1, none⟩)), cond p0 undef (.int .i64 m.frm), cond p0 undef (.pointer (some ⟨(g + 1), 1, none⟩)), cond p0 undef (.int .i64 n.frm), cond p0 undef (.bool (m.frm != n.frm)), .bool p1, .bool p1, cond p1 undef (.pointer (some ⟨g, 2, none⟩)), cond p1 undef (.int .i64 m.to_), cond p1 undef (.pointer (some ⟨(g + 1), 2, none⟩)), cond p1 undef (.int .i64 n.to_), cond p1 undef (.bool (m.to_ != n.to_)), .bool p2, .bool p2, cond p2 undef (.pointer (some ⟨g, 3, none⟩)), cond p2 undef (.int .i64 m.epoch), cond p2 undef (.pointer (some ⟨(g + 1), 3, none⟩)), cond p2 undef (.int .i64 n.epoch), cond p2 undef (.bool (m.epoch != n.epoch)), .bool p3, .bool p3, cond p3 undef (.pointer (some ⟨g, 4, none⟩)), cond p3 undef (.int .i64 m.tick), cond p3 undef (.pointer (some ⟨(g + 1), 4, none⟩)), cond p3 undef (.int .i64 n.tick), cond p3 undef (.bool (m.tick != n.tick)), .bool p4, .bool p4, cond p4 undef (.pointer (some ⟨g, 5, none⟩)), cond p4 undef (.int .i64 m.seq), cond p4 undef (.pointer (some ⟨(g + 1), 5, none⟩)), cond p4 undef (.int .i64 n.seq), cond p4 undef (.bool (m.seq != n.seq)), .bool p5, .bool p5, cond p5 undef (.pointer (some ⟨g, 6, none⟩)), cond p5 undef (.int .i64 m.n), cond p5 undef (.pointer (some ⟨(g + 1), 6, none⟩)), cond p5 undef (.int .i64 n.n), cond p5 undef (.bool (m.n != n.n)), .bool p6, .bool p6, cond p6 undef (.pointer (some ⟨g, 7, none⟩)), cond p6 undef (.int .i64 m.id), cond p6 undef (.pointer (some ⟨(g + 1), 7, none⟩)), cond p6 undef (.int .i64 n.id), cond p6 undef (.bool (m.id != n.id)), .bool p7, .bool p7, cond p7 undef (.pointer (some ⟨g, 8, none⟩)), cond p7 undef (.int .i64 m.op), cond p7 undef (.pointer (some ⟨(g + 1), 8, none⟩)), cond p7 undef (.int .i64 n.op), cond p7 undef (.bool (m.op != n.op)), .bool p8, .bool p8, cond p8 undef (.pointer (some ⟨g, 9, none⟩)), cond p8 undef (.string m.key), cond p8 undef (.pointer (some ⟨(g + 1), 9, none⟩)), cond p8 undef (.string n.key), cond p8 undef (.bool (!(m.key.toList == n.key.toList))), .bool p9, .bool p9, cond p9 undef (.pointer (some ⟨g, 10, none⟩)), cond p9 undef (.int .i64 m.err), cond p9 undef (.pointer (some ⟨(g + 1), 10, none⟩)), cond p9 undef (.int .i64 n.err), cond p9 undef (.bool (m.err != n.err)), .bool p10, .bool p10, cond p10 undef (.pointer (some ⟨g, 11, none⟩)), cond p10 undef (.bool m.last), cond p10 undef (.pointer (some ⟨(g + 1), 11, none⟩)), cond p10 undef (.bool n.last), cond p10 undef (.bool (m.last != n.last)), .bool p11, .bool p11, cond p11 undef (.pointer (some ⟨g, 19, none⟩)), cond p11 undef (.int .i64 m.base), cond p11 undef (.pointer (some ⟨(g + 1), 19, none⟩)), cond p11 undef (.int .i64 n.base), cond p11 undef (.bool (m.base != n.base)), .bool p12, undef, undef, undef, undef, undef, undef, undef, undef, undef, undef, undef, undef, undef, undef, undef, undef, undef, undef, undef, undef, undef, undef, undef, undef, undef, undef, undef, undef, undef, undef, undef, undef, undef], []⟩ rfl (by kernel_rfl) (by kernel_rfl) (by kernel_rfl) ?_ (each_of ?_) (each_of ?_) ?_
  · intro p hp; simp only [eqmG, List.mem_cons, List.not_mem_nil, or_false] at hp; rcases hp with rfl | rfl | rfl | rfl | rfl | rfl | rfl | rfl | rfl | rfl | rfl | rfl <;> rfl
  · refine ⟨?_, ?_, ?_, ?_, ?_, ?_, ?_, ?_, ?_, ?_, ?_, ?_, ?_, ?_, ?_, ?_, ?_, ?_, ?_, ?_, ?_, ?_, ?_, ?_, ?_, ?_, ?_, ?_, ?_, ?_, ?_, ?_, ?_, ?_, ?_, ?_, ?_, ?_, ?_, ?_, ?_, ?_, ?_, ?_, ?_, ?_, ?_, ?_, ?_, ?_, ?_, ?_, ?_, ?_, ?_, ?_, ?_, ?_, ?_, ?_, ?_, ?_, ?_, ?_, ?_, ?_, ?_, ?_, ?_, ?_, ?_, ?_, ?_, ?_, ?_, ?_, ?_, ?_, ?_, ?_, ?_, ?_, ?_, ?_, ?_, ?_, ?_, ?_, ?_, trivial⟩ <;> intro hw
    · exact nomatch (show true = false from hw)
    · exact nomatch (show true = false from hw)
    · exact nomatch (show true = false from hw)
    · exact nomatch (show true = false from hw)
    · exact nomatch (show true = false from hw)
    · exact nomatch (show true = false from hw)
    · cases p0 with | true => rfl | false => exact nomatch (show true = false from hw)
    · cases p0 with | true => rfl | false => exact nomatch (show true = false from hw)
    · cases p0 with | true => rfl | false => exact nomatch (show true = false from hw)
    · cases p0 with | true => rfl | false => exact nomatch (show true = false from hw)
    · cases p0 with | true => rfl | false => exact nomatch (show true = false from hw)
    · exact nomatch (show true = false from hw)
    · exact nomatch (show true = false from hw)
    · cases p1 with | true => rfl | false => exact nomatch (show true = false from hw)
    · cases p1 with | true => rfl | false => exact nomatch (show true = false from hw)
    · cases p1 with | true => rfl | false => exact nomatch (show true = false from hw)
    · cases p1 with | true => rfl | false => exact nomatch (show true = false from hw)
    · cases p1 with | true => rfl | false => exact nomatch (show true = false from hw)
    · exact nomatch (show true = false from hw)
    · exact nomatch (show true = false from hw)
    · cases p2 with | true => rfl | false => exact nomatch (show true = false from hw)
    · cases p2 with | true => rfl | false => exact nomatch (show true = false from hw)
    · cases p2 with | true => rfl | false => exact nomatch (show true = false from hw)
    · cases p2 with | true => rfl | false => exact nomatch (show true = false from hw)
    · cases p2 with | true => rfl | false => exact nomatch (show true = false from hw)
    · exact nomatch (show true = false from hw)
    · exact nomatch (show true = false from hw)
    · cases p3 with | true => rfl | false => exact nomatch (show true = false from hw)
    · cases p3 with | true => rfl | false => exact nomatch (show true = false from hw)
    · cases p3 with | true => rfl | false => exact nomatch (show true = false from hw)
    · cases p3 with | true => rfl | false => exact nomatch (show true = false from hw)
    · cases p3 with | true => rfl | false => exact nomatch (show true = false from hw)
    · exact nomatch (show true = false from hw)
    · exact nomatch (show true = false from hw)
    · cases p4 with | true => rfl | false => exact nomatch (show true = false from hw)
    · cases p4 with | true => rfl | false => exact nomatch (show true = false from hw)
    · cases p4 with | true => rfl | false => exact nomatch (show true = false from hw)
    · cases p4 with | true => rfl | false => exact nomatch (show true = false from hw)
    · cases p4 with | true => rfl | false => exact nomatch (show true = false from hw)
    · exact nomatch (show true = false from hw)
    · exact nomatch (show true = false from hw)
    · cases p5 with | true => rfl | false => exact nomatch (show true = false from hw)
    · cases p5 with | true => rfl | false => exact nomatch (show true = false from hw)
    · cases p5 with | true => rfl | false => exact nomatch (show true = false from hw)
    · cases p5 with | true => rfl | false => exact nomatch (show true = false from hw)
    · cases p5 with | true => rfl | false => exact nomatch (show true = false from hw)
    · exact nomatch (show true = false from hw)
    · exact nomatch (show true = false from hw)
    · cases p6 with | true => rfl | false => exact nomatch (show true = false from hw)
    · cases p6 with | true => rfl | false => exact nomatch (show true = false from hw)
    · cases p6 with | true => rfl | false => exact nomatch (show true = false from hw)
    · cases p6 with | true => rfl | false => exact nomatch (show true = false from hw)
    · cases p6 with | true => rfl | false => exact nomatch (show true = false from hw)
    · exact nomatch (show true = false from hw)
    · exact nomatch (show true = false from hw)
    · cases p7 with | true => rfl | false => exact nomatch (show true = false from hw)
    · cases p7 with | true => rfl | false => exact nomatch (show true = false from hw)
    · cases p7 with | true => rfl | false => exact nomatch (show true = false from hw)
    · cases p7 with | true => rfl | false => exact nomatch (show true = false from hw)
    · cases p7 with | true => rfl | false => exact nomatch (show true = false from hw)
    · exact nomatch (show true = false from hw)
    · exact nomatch (show true = false from hw)
    · cases p8 with | true => rfl | false => exact nomatch (show true = false from hw)
    · cases p8 with | true => rfl | false => exact nomatch (show true = false from hw)
    · cases p8 with | true => rfl | false => exact nomatch (show true = false from hw)
    · cases p8 with | true => rfl | false => exact nomatch (show true = false from hw)
    · cases p8 with | true => rfl | false => exact nomatch (show true = false from hw)
    · exact nomatch (show true = false from hw)
    · exact nomatch (show true = false from hw)
    · cases p9 with | true => rfl | false => exact nomatch (show true = false from hw)
    · cases p9 with | true => rfl | false => exact nomatch (show true = false from hw)
    · cases p9 with | true => rfl | false => exact nomatch (show true = false from hw)
    · cases p9 with | true => rfl | false => exact nomatch (show true = false from hw)
    · cases p9 with | true => rfl | false => exact nomatch (show true = false from hw)
    · exact nomatch (show true = false from hw)
    · exact nomatch (show true = false from hw)
    · cases p10 with | true => rfl | false => exact nomatch (show true = false from hw)
    · cases p10 with | true => rfl | false => exact nomatch (show true = false from hw)
    · cases p10 with | true => rfl | false => exact nomatch (show true = false from hw)
    · cases p10 with | true => rfl | false => exact nomatch (show true = false from hw)
    · cases p10 with | true => rfl | false => exact nomatch (show true = false from hw)
    · exact nomatch (show true = false from hw)
    · exact nomatch (show true = false from hw)
    · cases p11 with | true => rfl | false => exact nomatch (show true = false from hw)
    · cases p11 with | true => rfl | false => exact nomatch (show true = false from hw)
    · cases p11 with | true => rfl | false => exact nomatch (show true = false from hw)
    · cases p11 with | true => rfl | false => exact nomatch (show true = false from hw)
    · cases p11 with | true => rfl | false => exact nomatch (show true = false from hw)
    · exact nomatch (show true = false from hw)
  · refine ⟨?_, ?_, ?_, ?_, ?_, ?_, ?_, ?_, ?_, ?_, ?_, ?_, ?_, ?_, ?_, ?_, ?_, ?_, ?_, ?_, ?_, ?_, ?_, ?_, ?_, ?_, ?_, ?_, ?_, ?_, ?_, ?_, ?_, ?_, ?_, ?_, ?_, ?_, ?_, ?_, ?_, ?_, ?_, ?_, ?_, ?_, ?_, ?_, ?_, ?_, ?_, ?_, ?_, ?_, ?_, ?_, ?_, ?_, ?_, ?_, ?_, ?_, ?_, ?_, ?_, ?_, ?_, ?_, ?_, ?_, ?_, ?_, ?_, ?_, ?_, ?_, ?_, ?_, ?_, ?_, ?_, ?_, ?_, ?_, ?_, ?_, ?_, ?_, ?_, trivial⟩ <;> intro hw a1 w3 L
    · exact kp_f19_0 rfl (L.old 2 (by kernel_rfl))
    · exact kp_ld19I ((HB1.out.kp L.rel).cell 0 (.int .i64 m.kind) rfl) rfl (L.val 0 5 (by kernel_rfl) (by kernel_rfl))
    · exact kp_f19_0 rfl (L.old 3 (by kernel_rfl))
    · exact kp_ld19I ((HB2.out.kp L.rel).cell 0 (.int .i64 n.kind) rfl) rfl (L.val 2 7 (by kernel_rfl) (by kernel_rfl))
    · exact kp_ne19I rfl (L.val 1 6 (by kernel_rfl) (by kernel_rfl)) (L.val 3 8 (by kernel_rfl) (by kernel_rfl))
    · exact kp_move rfl ((show _ = _ from L.val 4 9 (by kernel_rfl) (by kernel_rfl)).trans (congrArg Value.bool h0))
    · cases p0 with | true => exact nomatch (show false = true from hw) | false => exact kp_f19_1 rfl (L.old 2 (by kernel_rfl))
    · cases p0 with | true => exact nomatch (show false = true from hw) | false => exact kp_ld19I ((HB1.out.kp L.rel).cell 1 (.int .i64 m.frm) rfl) rfl (L.val 6 11 (by kernel_rfl) (by kernel_rfl))
    · cases p0 with | true => exact nomatch (show false = true from hw) | false => exact kp_f19_1 rfl (L.old 3 (by kernel_rfl))
    · cases p0 with | true => exact nomatch (show false = true from hw) | false => exact kp_ld19I ((HB2.out.kp L.rel).cell 1 (.int .i64 n.frm) rfl) rfl (L.val 8 13 (by kernel_rfl) (by kernel_rfl))
    · cases p0 with | true => exact nomatch (show false = true from hw) | false => exact kp_ne19I rfl (L.val 7 12 (by kernel_rfl) (by kernel_rfl)) (L.val 9 14 (by kernel_rfl) (by kernel_rfl))
    · exact kp_pick rfl (L.val 5 10 (by kernel_rfl) (by kernel_rfl)) (pick_or h1 rfl (L.val 10 15 (by kernel_rfl) (by kernel_rfl)))
    · exact kp_move rfl (L.val 11 16 (by kernel_rfl) (by kernel_rfl))
    · cases p1 with | true => exact nomatch (show false = true from hw) | false => exact kp_f19_2 rfl (L.old 2 (by kernel_rfl))
    · cases p1 with | true => exact nomatch (show false = true from hw) | false => exact kp_ld19I ((HB1.out.kp L.rel).cell 2 (.int .i64 m.to_) rfl) rfl (L.val 13 18 (by kernel_rfl) (by kernel_rfl))
    · cases p1 with | true => exact nomatch (show false = true from hw) | false => exact kp_f19_2 rfl (L.old 3 (by kernel_rfl))
    · cases p1 with | true => exact nomatch (show false = true from hw) | false => exact kp_ld19I ((HB2.out.kp L.rel).cell 2 (.int .i64 n.to_) rfl) rfl (L.val 15 20 (by kernel_rfl) (by kernel_rfl))
    · cases p1 with | true => exact nomatch (show false = true from hw) | false => exact kp_ne19I rfl (L.val 14 19 (by kernel_rfl) (by kernel_rfl)) (L.val 16 21 (by kernel_rfl) (by kernel_rfl))
    · exact kp_pick rfl (L.val 12 17 (by kernel_rfl) (by kernel_rfl)) (pick_or h2 rfl (L.val 17 22 (by kernel_rfl) (by kernel_rfl)))
    · exact kp_move rfl (L.val 18 23 (by kernel_rfl) (by kernel_rfl))
    · cases p2 with | true => exact nomatch (show false = true from hw) | false => exact kp_f19_3 rfl (L.old 2 (by kernel_rfl))
    · cases p2 with | true => exact nomatch (show false = true from hw) | false => exact kp_ld19L ((HB1.out.kp L.rel).cell 3 (.int .i64 m.epoch) rfl) rfl (L.val 20 25 (by kernel_rfl) (by kernel_rfl))
    · cases p2 with | true => exact nomatch (show false = true from hw) | false => exact kp_f19_3 rfl (L.old 3 (by kernel_rfl))
    · cases p2 with | true => exact nomatch (show false = true from hw) | false => exact kp_ld19L ((HB2.out.kp L.rel).cell 3 (.int .i64 n.epoch) rfl) rfl (L.val 22 27 (by kernel_rfl) (by kernel_rfl))
    · cases p2 with | true => exact nomatch (show false = true from hw) | false => exact kp_ne19L rfl (L.val 21 26 (by kernel_rfl) (by kernel_rfl)) (L.val 23 28 (by kernel_rfl) (by kernel_rfl))
    · exact kp_pick rfl (L.val 19 24 (by kernel_rfl) (by kernel_rfl)) (pick_or h3 rfl (L.val 24 29 (by kernel_rfl) (by kernel_rfl)))
    · exact kp_move rfl (L.val 25 30 (by kernel_rfl) (by kernel_rfl))
    · cases p3 with | true => exact nomatch (show false = true from hw) | false => exact kp_f19_4 rfl (L.old 2 (by kernel_rfl))
    · cases p3 with | true => exact nomatch (show false = true from hw) | false => exact kp_ld19L ((HB1.out.kp L.rel).cell 4 (.int .i64 m.tick) rfl) rfl (L.val 27 32 (by kernel_rfl) (by kernel_rfl))
    · cases p3 with | true => exact nomatch (show false = true from hw) | false => exact kp_f19_4 rfl (L.old 3 (by kernel_rfl))
    · cases p3 with | true => exact nomatch (show false = true from hw) | false => exact kp_ld19L ((HB2.out.kp L.rel).cell 4 (.int .i64 n.tick) rfl) rfl (L.val 29 34 (by kernel_rfl) (by kernel_rfl))
    · cases p3 with | true => exact nomatch (show false = true from hw) | false => exact kp_ne19L rfl (L.val 28 33 (by kernel_rfl) (by kernel_rfl)) (L.val 30 35 (by kernel_rfl) (by kernel_rfl))
    · exact kp_pick rfl (L.val 26 31 (by kernel_rfl) (by kernel_rfl)) (pick_or h4 rfl (L.val 31 36 (by kernel_rfl) (by kernel_rfl)))
    · exact kp_move rfl (L.val 32 37 (by kernel_rfl) (by kernel_rfl))
    · cases p4 with | true => exact nomatch (show false = true from hw) | false => exact kp_f19_5 rfl (L.old 2 (by kernel_rfl))
    · cases p4 with | true => exact nomatch (show false = true from hw) | false => exact kp_ld19L ((HB1.out.kp L.rel).cell 5 (.int .i64 m.seq) rfl) rfl (L.val 34 39 (by kernel_rfl) (by kernel_rfl))
    · cases p4 with | true => exact nomatch (show false = true from hw) | false => exact kp_f19_5 rfl (L.old 3 (by kernel_rfl))
    · cases p4 with | true => exact nomatch (show false = true from hw) | false => exact kp_ld19L ((HB2.out.kp L.rel).cell 5 (.int .i64 n.seq) rfl) rfl (L.val 36 41 (by kernel_rfl) (by kernel_rfl))
    · cases p4 with | true => exact nomatch (show false = true from hw) | false => exact kp_ne19L rfl (L.val 35 40 (by kernel_rfl) (by kernel_rfl)) (L.val 37 42 (by kernel_rfl) (by kernel_rfl))
    · exact kp_pick rfl (L.val 33 38 (by kernel_rfl) (by kernel_rfl)) (pick_or h5 rfl (L.val 38 43 (by kernel_rfl) (by kernel_rfl)))
    · exact kp_move rfl (L.val 39 44 (by kernel_rfl) (by kernel_rfl))
    · cases p5 with | true => exact nomatch (show false = true from hw) | false => exact kp_f19_6 rfl (L.old 2 (by kernel_rfl))
    · cases p5 with | true => exact nomatch (show false = true from hw) | false => exact kp_ld19I ((HB1.out.kp L.rel).cell 6 (.int .i64 m.n) rfl) rfl (L.val 41 46 (by kernel_rfl) (by kernel_rfl))
    · cases p5 with | true => exact nomatch (show false = true from hw) | false => exact kp_f19_6 rfl (L.old 3 (by kernel_rfl))
    · cases p5 with | true => exact nomatch (show false = true from hw) | false => exact kp_ld19I ((HB2.out.kp L.rel).cell 6 (.int .i64 n.n) rfl) rfl (L.val 43 48 (by kernel_rfl) (by kernel_rfl))
    · cases p5 with | true => exact nomatch (show false = true from hw) | false => exact kp_ne19I rfl (L.val 42 47 (by kernel_rfl) (by kernel_rfl)) (L.val 44 49 (by kernel_rfl) (by kernel_rfl))
    · exact kp_pick rfl (L.val 40 45 (by kernel_rfl) (by kernel_rfl)) (pick_or h6 rfl (L.val 45 50 (by kernel_rfl) (by kernel_rfl)))
    · exact kp_move rfl (L.val 46 51 (by kernel_rfl) (by kernel_rfl))
    · cases p6 with | true => exact nomatch (show false = true from hw) | false => exact kp_f19_7 rfl (L.old 2 (by kernel_rfl))
    · cases p6 with | true => exact nomatch (show false = true from hw) | false => exact kp_ld19L ((HB1.out.kp L.rel).cell 7 (.int .i64 m.id) rfl) rfl (L.val 48 53 (by kernel_rfl) (by kernel_rfl))
    · cases p6 with | true => exact nomatch (show false = true from hw) | false => exact kp_f19_7 rfl (L.old 3 (by kernel_rfl))
    · cases p6 with | true => exact nomatch (show false = true from hw) | false => exact kp_ld19L ((HB2.out.kp L.rel).cell 7 (.int .i64 n.id) rfl) rfl (L.val 50 55 (by kernel_rfl) (by kernel_rfl))
    · cases p6 with | true => exact nomatch (show false = true from hw) | false => exact kp_ne19L rfl (L.val 49 54 (by kernel_rfl) (by kernel_rfl)) (L.val 51 56 (by kernel_rfl) (by kernel_rfl))
    · exact kp_pick rfl (L.val 47 52 (by kernel_rfl) (by kernel_rfl)) (pick_or h7 rfl (L.val 52 57 (by kernel_rfl) (by kernel_rfl)))
    · exact kp_move rfl (L.val 53 58 (by kernel_rfl) (by kernel_rfl))
    · cases p7 with | true => exact nomatch (show false = true from hw) | false => exact kp_f19_8 rfl (L.old 2 (by kernel_rfl))
    · cases p7 with | true => exact nomatch (show false = true from hw) | false => exact kp_ld19I ((HB1.out.kp L.rel).cell 8 (.int .i64 m.op) rfl) rfl (L.val 55 60 (by kernel_rfl) (by kernel_rfl))
    · cases p7 with | true => exact nomatch (show false = true from hw) | false => exact kp_f19_8 rfl (L.old 3 (by kernel_rfl))
    · cases p7 with | true => exact nomatch (show false = true from hw) | false => exact kp_ld19I ((HB2.out.kp L.rel).cell 8 (.int .i64 n.op) rfl) rfl (L.val 57 62 (by kernel_rfl) (by kernel_rfl))
    · cases p7 with | true => exact nomatch (show false = true from hw) | false => exact kp_ne19I rfl (L.val 56 61 (by kernel_rfl) (by kernel_rfl)) (L.val 58 63 (by kernel_rfl) (by kernel_rfl))
    · exact kp_pick rfl (L.val 54 59 (by kernel_rfl) (by kernel_rfl)) (pick_or h8 rfl (L.val 59 64 (by kernel_rfl) (by kernel_rfl)))
    · exact kp_move rfl (L.val 60 65 (by kernel_rfl) (by kernel_rfl))
    · cases p8 with | true => exact nomatch (show false = true from hw) | false => exact kp_f19_9 rfl (L.old 2 (by kernel_rfl))
    · cases p8 with | true => exact nomatch (show false = true from hw) | false => exact kp_ld19T ((HB1.out.kp L.rel).cell 9 (.string m.key) rfl) rfl (L.val 62 67 (by kernel_rfl) (by kernel_rfl))
    · cases p8 with | true => exact nomatch (show false = true from hw) | false => exact kp_f19_9 rfl (L.old 3 (by kernel_rfl))
    · cases p8 with | true => exact nomatch (show false = true from hw) | false => exact kp_ld19T ((HB2.out.kp L.rel).cell 9 (.string n.key) rfl) rfl (L.val 64 69 (by kernel_rfl) (by kernel_rfl))
    · cases p8 with | true => exact nomatch (show false = true from hw) | false => exact kp_ne19T rfl (L.val 63 68 (by kernel_rfl) (by kernel_rfl)) (L.val 65 70 (by kernel_rfl) (by kernel_rfl))
    · exact kp_pick rfl (L.val 61 66 (by kernel_rfl) (by kernel_rfl)) (pick_or h9 rfl (L.val 66 71 (by kernel_rfl) (by kernel_rfl)))
    · exact kp_move rfl (L.val 67 72 (by kernel_rfl) (by kernel_rfl))
    · cases p9 with | true => exact nomatch (show false = true from hw) | false => exact kp_f19_10 rfl (L.old 2 (by kernel_rfl))
    · cases p9 with | true => exact nomatch (show false = true from hw) | false => exact kp_ld19E ((HB1.out.kp L.rel).cell 10 (.int .i64 m.err) rfl) rfl (L.val 69 74 (by kernel_rfl) (by kernel_rfl))
    · cases p9 with | true => exact nomatch (show false = true from hw) | false => exact kp_f19_10 rfl (L.old 3 (by kernel_rfl))
    · cases p9 with | true => exact nomatch (show false = true from hw) | false => exact kp_ld19E ((HB2.out.kp L.rel).cell 10 (.int .i64 n.err) rfl) rfl (L.val 71 76 (by kernel_rfl) (by kernel_rfl))
    · cases p9 with | true => exact nomatch (show false = true from hw) | false => exact kp_ne19E rfl (L.val 70 75 (by kernel_rfl) (by kernel_rfl)) (L.val 72 77 (by kernel_rfl) (by kernel_rfl))
    · exact kp_pick rfl (L.val 68 73 (by kernel_rfl) (by kernel_rfl)) (pick_or h10 rfl (L.val 73 78 (by kernel_rfl) (by kernel_rfl)))
    · exact kp_move rfl (L.val 74 79 (by kernel_rfl) (by kernel_rfl))
    · cases p10 with | true => exact nomatch (show false = true from hw) | false => exact kp_f19_11 rfl (L.old 2 (by kernel_rfl))
    · cases p10 with | true => exact nomatch (show false = true from hw) | false => exact kp_ld19B ((HB1.out.kp L.rel).cell 11 (.bool m.last) rfl) rfl (L.val 76 81 (by kernel_rfl) (by kernel_rfl))
    · cases p10 with | true => exact nomatch (show false = true from hw) | false => exact kp_f19_11 rfl (L.old 3 (by kernel_rfl))
    · cases p10 with | true => exact nomatch (show false = true from hw) | false => exact kp_ld19B ((HB2.out.kp L.rel).cell 11 (.bool n.last) rfl) rfl (L.val 78 83 (by kernel_rfl) (by kernel_rfl))
    · cases p10 with | true => exact nomatch (show false = true from hw) | false => exact kp_ne19B rfl (L.val 77 82 (by kernel_rfl) (by kernel_rfl)) (L.val 79 84 (by kernel_rfl) (by kernel_rfl))
    · exact kp_pick rfl (L.val 75 80 (by kernel_rfl) (by kernel_rfl)) (pick_or h11 rfl (L.val 80 85 (by kernel_rfl) (by kernel_rfl)))
    · exact kp_move rfl (L.val 81 86 (by kernel_rfl) (by kernel_rfl))
    · cases p11 with | true => exact nomatch (show false = true from hw) | false => exact kp_f19_16 rfl (L.old 2 (by kernel_rfl))
    · cases p11 with | true => exact nomatch (show false = true from hw) | false => exact kp_ld19L ((HB1.out.kp L.rel).cell 19 (.int .i64 m.base) rfl) rfl (L.val 83 88 (by kernel_rfl) (by kernel_rfl))
    · cases p11 with | true => exact nomatch (show false = true from hw) | false => exact kp_f19_16 rfl (L.old 3 (by kernel_rfl))
    · cases p11 with | true => exact nomatch (show false = true from hw) | false => exact kp_ld19L ((HB2.out.kp L.rel).cell 19 (.int .i64 n.base) rfl) rfl (L.val 85 90 (by kernel_rfl) (by kernel_rfl))
    · cases p11 with | true => exact nomatch (show false = true from hw) | false => exact kp_ne19L rfl (L.val 84 89 (by kernel_rfl) (by kernel_rfl)) (L.val 86 91 (by kernel_rfl) (by kernel_rfl))
    · exact kp_pick rfl (L.val 82 87 (by kernel_rfl) (by kernel_rfl)) (pick_or h12 rfl (L.val 87 92 (by kernel_rfl) (by kernel_rfl)))
  intro w3 hk3
  clear h12 h11 h10 h9 h8 h7 h6 h5 h4 h3 h2 h1 h0
  replace HK := Lib.hid (HK.out.trans hk3)
  replace HB1 := Lib.hid (HB1.out.kp hk3)
  replace HB2 := Lib.hid (HB2.out.kp hk3)
  clear hk3
  rcases HC.out with ⟨rfl, hne⟩ | ⟨rfl, hne⟩
  · have HE := Lib.hid (show r = false from by rw [← HR.out]; simpa using hne)
    clear hne HC
    simp only [Exit.then]
    go_wp2_with fail
    go_ret
    exact ⟨by rw [HE.out]; rfl, HK.out⟩
  have HNE := Lib.hid hne
  clear hne HC
  simp only [Exit.then]
  · -- the rest
    have HIR := Lib.hid (show ∀ p q s t u : Bool, decide (m.item = n.item) = p → decide (m.items = n.items) = q → decide (m.marks = n.marks) = s → decide (m.mem = n.mem) = t → decide (m.old = n.old) = u → r = (p && (q && (s && (t && u)))) from by
      rintro _ _ _ _ _ rfl rfl rfl rfl rfl
      rw [← HR.out, Bool.eq_iff_iff]
      simp only [Bool.and_eq_true, decide_eq_true_eq]
      have h := HNE.out
      constructor
      · rintro rfl; exact ⟨rfl, rfl, rfl, rfl, rfl⟩
      · rintro ⟨h1, h2, h3, h4, h5⟩
        rw [h, h1, h2, h3, h4, h5])
    obtain ⟨p0, hp0⟩ : ∃ b, decide (m.item = n.item) = b := ⟨_, rfl⟩
    obtain ⟨p1, hp1⟩ : ∃ b, decide (m.items = n.items) = b := ⟨_, rfl⟩
    obtain ⟨p2, hp2⟩ : ∃ b, decide (m.marks = n.marks) = b := ⟨_, rfl⟩
    obtain ⟨p3, hp3⟩ : ∃ b, decide (m.mem = n.mem) = b := ⟨_, rfl⟩
    obtain ⟨p4, hp4⟩ : ∃ b, decide (m.old = n.old) = b := ⟨_, rfl⟩
    have HE := Lib.hid (HIR.out _ _ _ _ _ hp0 hp1 hp2 hp3 hp4)
    have HP0 := Lib.hid hp0
    have HP1 := Lib.hid hp1
    have HP2 := Lib.hid hp2
    have HP3 := Lib.hid hp3
    have HP4 := Lib.hid hp4
    clear hp0 hp1 hp2 hp3 hp4 HIR HNE
    have c12 := HB1.out.cell 12 (.string m.item.key) rfl
    have c13 := HB1.out.cell 13 (.string m.item.val) rfl
    have c14 := HB1.out.cell 14 (.int .i64 m.item.till) rfl
    have c15 := HB1.out.cell 15 (.bool m.item.gone) rfl
    have d12 := HB2.out.cell 12 (.string n.item.key) rfl
    have d13 := HB2.out.cell 13 (.string n.item.val) rfl
    have d14 := HB2.out.cell 14 (.int .i64 n.item.till) rfl
    have d15 := HB2.out.cell 15 (.bool n.item.gone) rfl
    go_wp2_with fail
    refine (show Calls _ _ _ _ _ from reqItem _ m.item n.item FM.out.item FN.out.item p0 HP0.out).mono ?_
    rintro e w3 ⟨rfl, hk3⟩
    have hka := HK.out.trans hk3
    replace HK := Lib.hid hka
    replace HB1 := Lib.hid (HB1.out.kp hk3)
    replace HB2 := Lib.hid (HB2.out.kp hk3)
    clear hk3 hka
    cases p0
    case false =>
      go_wp2_with fail
      go_ret
      exact ⟨by rw [HE.out]; rfl, HK.out⟩
    have c16 := HB1.out.cell 16 (.slice a.ia m.items.length a.ic) rfl
    have d16 := HB2.out.cell 16 (.slice b.ia n.items.length b.ic) rfl
    go_wp2_with fail
    refine (show Calls _ _ _ _ _ from reqItems _ a.ia b.ia a.ic b.ic m.items n.items ((HM.out.its.keep HK.out).mono fun _ h _ => h) ((HN.out.its.keep HK.out).mono fun _ h _ => h) HM.out.il.1 HN.out.il.1 HM.out.il.2 HN.out.il.2 FM.out.its FN.out.its p1 HP1.out).mono ?_
    rintro e w4 ⟨rfl, hk4⟩
    have hka := HK.out.trans hk4
    replace HK := Lib.hid hka
    replace HB1 := Lib.hid (HB1.out.kp hk4)
    replace HB2 := Lib.hid (HB2.out.kp hk4)
    clear hk4 hka
    cases p1
    case false =>
      go_wp2_with fail
      go_ret
      exact ⟨by rw [HE.out]; rfl, HK.out⟩
    have c17 := HB1.out.cell 17 (.slice a.ma m.marks.length a.mc) rfl
    have d17 := HB2.out.cell 17 (.slice b.ma n.marks.length b.mc) rfl
    go_wp2_with fail
    refine (show Calls _ _ _ _ _ from reqMarks _ a.ma b.ma a.mc b.mc m.marks n.marks (HM.out.mks.keep HK.out) (HN.out.mks.keep HK.out) (Nat.le_trans FM.out.ml (by decide)) (Nat.le_trans FN.out.ml (by decide)) p2 HP2.out).mono ?_
    rintro e w5 ⟨rfl, hk5⟩
    have hka := HK.out.trans hk5
    replace HK := Lib.hid hka
    replace HB1 := Lib.hid (HB1.out.kp hk5)
    replace HB2 := Lib.hid (HB2.out.kp hk5)
    clear hk5 hka
    cases p2
    case false =>
      go_wp2_with fail
      go_ret
      exact ⟨by rw [HE.out]; rfl, HK.out⟩
    have c18 := HB1.out.cell 18 (.slice a.ba m.mem.length a.bc) rfl
    have d18 := HB2.out.cell 18 (.slice b.ba n.mem.length b.bc) rfl
    go_wp2_with fail
    refine (show Calls _ _ _ _ _ from reqInts _ a.ba b.ba a.bc b.bc m.mem n.mem (HM.out.mem.keep HK.out) (HN.out.mem.keep HK.out) (Nat.le_trans FM.out.bl (by decide)) (Nat.le_trans FN.out.bl (by decide)) p3 HP3.out).mono ?_
    rintro e w6 ⟨rfl, hk6⟩
    have hka := HK.out.trans hk6
    replace HK := Lib.hid hka
    replace HB1 := Lib.hid (HB1.out.kp hk6)
    replace HB2 := Lib.hid (HB2.out.kp hk6)
    clear hk6 hka
    cases p3
    case false =>
      go_wp2_with fail
      go_ret
      exact ⟨by rw [HE.out]; rfl, HK.out⟩
    have c20 := HB1.out.cell 20 (.slice a.oa m.old.length a.oc) rfl
    have d20 := HB2.out.cell 20 (.slice b.oa n.old.length b.oc) rfl
    go_wp2_with fail
    refine (show Calls _ _ _ _ _ from reqInts _ a.oa b.oa a.oc b.oc m.old n.old (HM.out.old.keep HK.out) (HN.out.old.keep HK.out) (Nat.le_trans FM.out.ol (by decide)) (Nat.le_trans FN.out.ol (by decide)) p4 HP4.out).mono ?_
    rintro e w7 ⟨rfl, hk7⟩
    have hka := HK.out.trans hk7
    replace HK := Lib.hid hka
    clear hk7 hka
    go_wp2_with fail
    go_ret
    exact ⟨by rw [HE.out]; simp, HK.out⟩

end Go.Proofs.YtpijhpfcigjkeaaDoor
end
