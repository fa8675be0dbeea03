/- Texts of one proof, behind one another: each says above its part what it proves and on which conditions. -/
import Derived.Test.YtcmblihlbmclaaaPnJoin
import Derived.Test.YtcmblihlbmclaaaPnIf
/-
  THE PROGRAM's PARTS OF ONE NODE (layer 15): From.
-/
section
namespace Go.Proofs.Ytcmblihlbmclaaa
open Go Go.RowKit Go.Joins

set_option maxRecDepth 100000 in
set_option maxHeartbeats 1000000 in
/-- The closure. -/
theorem closFrom_any (w : World) (m : Mv) (g : Nat) (n : Int) (hc : w.cell? ⟨g, 0, none⟩ = some (.int .i64 n)) :
    Calls Try.prog 29 (#[mvagg m] ++ #[.pointer (some ⟨g, 0, none⟩)]) w fun e w' => e = .returned (.bool (m.src == n)) ∧ Kp w w' := by
  obtain ⟨mf, mt, ms, md⟩ := m
  have hcc := ((Keeps.refl (fun _ => True) w).alloc (.cells #[.int .u64 mf, .int .u64 mt, .int .i64 ms, .int .i64 md] 32)).cell hc trivial
  have HK := Lib.hid ((Keeps.refl (fun _ => True) w).alloc (.cells #[.int .u64 mf, .int .u64 mt, .int .i64 ms, .int .i64 md] 32))
  unfold mvagg mvcells
  simp only
  clear hc
  go_enter Try.func29, Try.ntmps29
  go_wp2_with fail
  go_ret
  exact ⟨rfl, HK.out⟩
theorem partFrom_next {n : Int} {L : List Mv} {k : Nat} (hk : k < L.length) : (L.take (k + 1)).filter (fun x => x.src == n) = (L.take k).filter (fun x => x.src == n) ++ (if (L[k].src == n) = true then [L[k]] else []) := by
  rw [List.take_succ_eq_append_getElem hk, List.filter_append]
  simp [List.filter_cons]
set_option maxRecDepth 100000 in
set_option maxHeartbeats 4000000 in
theorem thoseFrom_any (w : World) (A : Option Addr) (c : Nat) (L : List Mv) (g : Nat) (n : Int) (hr : MVRow w A (fun _ => True) L) (_hl : L.length ≤ c) (_hc : c ≤ maxLen) (h6 : L.length ≤ 1000000) (hg : w.cell? ⟨g, 0, none⟩ = some (.int .i64 n)) :
    Calls Try.prog 28 #[.slice A L.length c, .func (.func 29) #[] #[.pointer (some ⟨g, 0, none⟩)]] w fun e w' => ∃ B cb, e = .returned (.slice B (L.filter fun m => m.src == n).length cb) ∧ MVRow w' B (fun _ => True) (L.filter fun m => m.src == n) ∧ (L.filter fun m => m.src == n).length ≤ cb ∧ cb ≤ maxLen ∧ Kp w w' := by
  have HR := Lib.hid (show ∀ w', Kp w w' → MVRow w' A (fun _ => True) L from fun w' hk => Row.keep hr hk)
  have HG := Lib.hid hg
  unfold maxLen at _hc
  clear hr hg
  go_enter Try.func28, Try.ntmps28
  go_wp2_with fail
  go_loopw [5, 10] (fun v i wr => ∃ (k q : Nat), k ≤ L.length ∧ i = .int .i64 (k : Int) ∧ q ≤ k ∧ Hid (q = ((L.take k).filter (fun x => x.src == n)).length) ∧ Hid (wr.ownsRow w.heap.size 32 4 v q (mvrow ((L.take k).filter (fun x => x.src == n)))) ∧ Hid (Kp w wr)) (fun _ i _ => L.length - (intOf i).toNat)
  case atStart => exact ⟨0, 0, Nat.zero_le _, rfl, Nat.le_refl _, Lib.hid rfl, Lib.hid (World.ownsRow_nil _ _ _ _), Lib.hid (Keeps.refl _ _)⟩
  case round =>
    obtain ⟨k, q, hk, rfl, hqk, hq, hown, hkp⟩ := hrel
    obtain ⟨A2, c2, rfl, hc2, hcm2, hA2⟩ := own_form4 hown.out
    unfold maxLen at hcm2
    by_cases hkm : k < L.length
    · have hkm' : (k : Int) < (L.length : Int) := by omega
      obtain ⟨b, o, rfl, -, c4⟩ := (HR.out wr hkp.out).at_ hkm
      have HNX := Lib.hid (partFrom_next (n := n) hkm)
      obtain ⟨x, hx⟩ : ∃ x, L[k] = x := ⟨_, rfl⟩
      rw [hx] at c4 HNX
      clear hx
      have c0 := c4.c0
      have c1 := c4.c1
      have c2' := c4.c2
      have c3' := c4.c3
      obtain ⟨xf, xt, xs, xd⟩ := x
      simp only at c0 c1 c2' c3'
      have hbx : MvBlk (wr.alloc (.cells #[.int .u64 xf, .int .u64 xt, .int .i64 xs, .int .i64 xd] 32)) wr.heap.size ⟨xf, xt, xs, xd⟩ := MvBlk.new wr ⟨xf, xt, xs, xd⟩ _ rfl
      have HX := Lib.hid (show ∀ w', Kp (wr.alloc (.cells #[.int .u64 xf, .int .u64 xt, .int .i64 xs, .int .i64 xd] 32)) w' → w'.cell? ⟨wr.heap.size, 0, none⟩ = some (.int .u64 xf) ∧ w'.cell? ⟨wr.heap.size, 1, none⟩ = some (.int .u64 xt) ∧ w'.cell? ⟨wr.heap.size, 2, none⟩ = some (.int .i64 xs) ∧ w'.cell? ⟨wr.heap.size, 3, none⟩ = some (.int .i64 xd) from fun w' hk =>
        ⟨hk.cell hbx.c0 trivial, hk.cell hbx.c1 trivial, hk.cell hbx.c2 trivial, hk.cell hbx.c3 trivial⟩)
      have hkA : Kp w (wr.alloc (.cells #[.int .u64 xf, .int .u64 xt, .int .i64 xs, .int .i64 xd] 32)) := hkp.out.alloc _
      have HCL := Lib.hid (closFrom_any (wr.alloc (.cells #[.int .u64 xf, .int .u64 xt, .int .i64 xs, .int .i64 xd] 32)) ⟨xf, xt, xs, xd⟩ g n (hkA.cell HG.out trivial))
      unfold mvagg mvcells at HCL
      have HOA := Lib.hid (show (wr.alloc (.cells #[.int .u64 xf, .int .u64 xt, .int .i64 xs, .int .i64 xd] 32)).ownsRow w.heap.size 32 4 (.slice A2 q c2) q (mvrow ((L.take k).filter (fun x => x.src == n))) from hown.out.alloc _)
      have HKA := Lib.hid hkA
      clear hbx hkA c4 hown hkp hA2
      simp only at HNX HCL
      obtain ⟨t, ht⟩ : ∃ t, (xs == n) = t := ⟨_, rfl⟩
      rw [ht] at HNX HCL
      clear ht
      go_wp2_with fail
      refine (show Calls _ _ _ _ _ from HCL.out).mono ?_
      rintro e w2 ⟨rfl, hk2⟩
      have HK2 := Lib.hid (HKA.out.trans hk2)
      have HO2 := Lib.hid (hk2.own HOA.out fun _ _ => trivial)
      obtain ⟨b0, b1, b2, b3⟩ := HX.out w2 hk2
      clear hk2 HOA HKA HCL HX
      cases t with
      | false =>
        have HE := Lib.hid (show (L.take (k + 1)).filter (fun x => x.src == n) = (L.take k).filter (fun x => x.src == n) from by rw [HNX.out]; simp)
        clear HNX
        go_wp2_with fail
        go_roundw
        case rel => exact ⟨k + 1, q, by omega, by go_num, by omega, Lib.hid (by rw [HE.out]; exact hq.out), Lib.hid (by rw [HE.out]; exact HO2.out), HK2⟩
        case measure => simp [intOf]; omega
      | true =>
        have HE := Lib.hid (show (L.take (k + 1)).filter (fun x => x.src == n) = (L.take k).filter (fun x => x.src == n) ++ [⟨xf, xt, xs, xd⟩] from by rw [HNX.out]; simp)
        have hsrc := src_mv w2 ⟨xf, xt, xs, xd⟩ _ rfl 1 32
        unfold mvcells at hsrc
        have HSRC := Lib.hid hsrc
        have hb : w.heap.size ≤ (w2.alloc (.cells #[.int .u64 xf, .int .u64 xt, .int .i64 xs, .int .i64 xd] 32)).heap.size := by have := HK2.out.size; simp; omega
        clear hsrc HNX
        go_wp2_with (at_builtin; refine mv_elem.list_append rfl (.tmp 17) (.tmp 19) _ rfl rfl (HO2.out.alloc _) rfl HSRC.out ?c3 ?c4 hb ?_)
        case c3 => unfold maxLen; omega
        case c4 => omega
        intro v3 w3 ho3 hg3 hb3
        have HK3 := Lib.hid (show Kp w w3 from (HK2.out.alloc _).grown hg3 fun j hj => (HO2.out.lt j hj).1)
        have HO3 := Lib.hid (show w3.ownsRow w.heap.size 32 4 v3 (q + 1) (mvrow ((L.take (k + 1)).filter (fun x => x.src == n))) from by rw [HE.out, mvrow_snoc]; exact ho3)
        have HQ := Lib.hid (show q + 1 = ((L.take (k + 1)).filter (fun x => x.src == n)).length from by rw [HE.out, List.length_append, ← hq.out]; rfl)
        clear ho3 hg3 hb3 HSRC HE HO2 hb
        go_wp2_with fail
        go_roundw
        case rel => exact ⟨k + 1, q + 1, by omega, by go_num, by omega, HQ, HO3, HK3⟩
        case measure => simp [intOf]; omega
    · obtain rfl : k = L.length := by omega
      have hkm' : ¬ ((L.length : Int) < (L.length : Int)) := by omega
      have ho := hown.out
      have hq2 := hq.out
      rw [List.take_length] at ho hq2
      subst hq2
      have HO := Lib.hid ho
      clear hown hq ho
      go_wp2_with fail
      go_ret
      refine ⟨A2, c2, rfl, ?_, hc2, hcm2, hkp.out⟩
      intro hne
      have hlen := mvrow_len (L.filter fun m => m.src == n)
      have h0 : 0 < (L.filter fun m => m.src == n).length := by
        rcases Nat.eq_zero_or_pos (L.filter fun m => m.src == n).length with h | h
        · exact absurd (List.eq_nil_of_length_eq_zero (by rw [hlen, h])) hne
        · exact h
      obtain ⟨g2, rfl, -, -⟩ := hA2 h0
      refine ⟨g2, 0, rfl, trivial, fun i v hv => ?_⟩
      have h1 := HO.out.cells (g := g2) rfl i v hv
      rwa [WideShapes.add_plain] at h1

set_option maxRecDepth 100000 in
theorem planFrom_any (w : World) (A : Option Addr) (c : Nat) (L : List Mv) (n : Int) (hr : MVRow w A (fun _ => True) L) (hl : L.length ≤ c) (hc : c ≤ maxLen) (h6 : L.length ≤ 1000000) :
    Calls Try.prog 16 #[.slice A L.length c, .int .i64 n] w fun e w' => ∃ B cb, e = .returned (.slice B (L.filter fun m => m.src == n).length cb) ∧ MVRow w' B (fun _ => True) (L.filter fun m => m.src == n) ∧ (L.filter fun m => m.src == n).length ≤ cb ∧ cb ≤ maxLen ∧ Kp w w' := by
  have hk : Kp w (w.alloc (.cells #[.int .i64 n] 3)) := (Keeps.refl _ w).alloc _
  have HT := Lib.hid (thoseFrom_any (w.alloc (.cells #[.int .i64 n] 3)) A c L w.heap.size n (Row.keep hr hk) hl hc h6 ((cell_of_block (heap_alloc_new w _) 0).trans rfl))
  have HK := Lib.hid hk
  clear hk hr
  go_enter Try.func16, Try.ntmps16
  go_wp2_with fail
  refine (show Calls _ _ _ _ _ from HT.out).mono ?_
  rintro e w1 ⟨B, cb, rfl, h1, h2, h3, h4⟩
  have H := Lib.hid (And.intro h1 (And.intro h2 (And.intro h3 (HK.out.trans h4))))
  clear h1 h2 h3 h4 HT HK
  go_wp2_with fail
  go_ret
  exact ⟨B, cb, rfl, H.out⟩

end Go.Proofs.Ytcmblihlbmclaaa
end

/-
  THE PROGRAM's PARTS OF ONE NODE (layer 15): To.
-/
section
namespace Go.Proofs.Ytcmblihlbmclaaa
open Go Go.RowKit Go.Joins

set_option maxRecDepth 100000 in
set_option maxHeartbeats 1000000 in
/-- The closure. -/
theorem closTo_any (w : World) (m : Mv) (g : Nat) (n : Int) (hc : w.cell? ⟨g, 0, none⟩ = some (.int .i64 n)) :
    Calls Try.prog 30 (#[mvagg m] ++ #[.pointer (some ⟨g, 0, none⟩)]) w fun e w' => e = .returned (.bool (m.dst == n)) ∧ Kp w w' := by
  obtain ⟨mf, mt, ms, md⟩ := m
  have hcc := ((Keeps.refl (fun _ => True) w).alloc (.cells #[.int .u64 mf, .int .u64 mt, .int .i64 ms, .int .i64 md] 32)).cell hc trivial
  have HK := Lib.hid ((Keeps.refl (fun _ => True) w).alloc (.cells #[.int .u64 mf, .int .u64 mt, .int .i64 ms, .int .i64 md] 32))
  unfold mvagg mvcells
  simp only
  clear hc
  go_enter Try.func30, Try.ntmps30
  go_wp2_with fail
  go_ret
  exact ⟨rfl, HK.out⟩
theorem partTo_next {n : Int} {L : List Mv} {k : Nat} (hk : k < L.length) : (L.take (k + 1)).filter (fun x => x.dst == n) = (L.take k).filter (fun x => x.dst == n) ++ (if (L[k].dst == n) = true then [L[k]] else []) := by
  rw [List.take_succ_eq_append_getElem hk, List.filter_append]
  simp [List.filter_cons]
set_option maxRecDepth 100000 in
set_option maxHeartbeats 4000000 in
theorem thoseTo_any (w : World) (A : Option Addr) (c : Nat) (L : List Mv) (g : Nat) (n : Int) (hr : MVRow w A (fun _ => True) L) (_hl : L.length ≤ c) (_hc : c ≤ maxLen) (h6 : L.length ≤ 1000000) (hg : w.cell? ⟨g, 0, none⟩ = some (.int .i64 n)) :
    Calls Try.prog 28 #[.slice A L.length c, .func (.func 30) #[] #[.pointer (some ⟨g, 0, none⟩)]] w fun e w' => ∃ B cb, e = .returned (.slice B (L.filter fun m => m.dst == n).length cb) ∧ MVRow w' B (fun _ => True) (L.filter fun m => m.dst == n) ∧ (L.filter fun m => m.dst == n).length ≤ cb ∧ cb ≤ maxLen ∧ Kp w w' := by
  have HR := Lib.hid (show ∀ w', Kp w w' → MVRow w' A (fun _ => True) L from fun w' hk => Row.keep hr hk)
  have HG := Lib.hid hg
  unfold maxLen at _hc
  clear hr hg
  go_enter Try.func28, Try.ntmps28
  go_wp2_with fail
  go_loopw [5, 10] (fun v i wr => ∃ (k q : Nat), k ≤ L.length ∧ i = .int .i64 (k : Int) ∧ q ≤ k ∧ Hid (q = ((L.take k).filter (fun x => x.dst == n)).length) ∧ Hid (wr.ownsRow w.heap.size 32 4 v q (mvrow ((L.take k).filter (fun x => x.dst == n)))) ∧ Hid (Kp w wr)) (fun _ i _ => L.length - (intOf i).toNat)
  case atStart => exact ⟨0, 0, Nat.zero_le _, rfl, Nat.le_refl _, Lib.hid rfl, Lib.hid (World.ownsRow_nil _ _ _ _), Lib.hid (Keeps.refl _ _)⟩
  case round =>
    obtain ⟨k, q, hk, rfl, hqk, hq, hown, hkp⟩ := hrel
    obtain ⟨A2, c2, rfl, hc2, hcm2, hA2⟩ := own_form4 hown.out
    unfold maxLen at hcm2
    by_cases hkm : k < L.length
    · have hkm' : (k : Int) < (L.length : Int) := by omega
      obtain ⟨b, o, rfl, -, c4⟩ := (HR.out wr hkp.out).at_ hkm
      have HNX := Lib.hid (partTo_next (n := n) hkm)
      obtain ⟨x, hx⟩ : ∃ x, L[k] = x := ⟨_, rfl⟩
      rw [hx] at c4 HNX
      clear hx
      have c0 := c4.c0
      have c1 := c4.c1
      have c2' := c4.c2
      have c3' := c4.c3
      obtain ⟨xf, xt, xs, xd⟩ := x
      simp only at c0 c1 c2' c3'
      have hbx : MvBlk (wr.alloc (.cells #[.int .u64 xf, .int .u64 xt, .int .i64 xs, .int .i64 xd] 32)) wr.heap.size ⟨xf, xt, xs, xd⟩ := MvBlk.new wr ⟨xf, xt, xs, xd⟩ _ rfl
      have HX := Lib.hid (show ∀ w', Kp (wr.alloc (.cells #[.int .u64 xf, .int .u64 xt, .int .i64 xs, .int .i64 xd] 32)) w' → w'.cell? ⟨wr.heap.size, 0, none⟩ = some (.int .u64 xf) ∧ w'.cell? ⟨wr.heap.size, 1, none⟩ = some (.int .u64 xt) ∧ w'.cell? ⟨wr.heap.size, 2, none⟩ = some (.int .i64 xs) ∧ w'.cell? ⟨wr.heap.size, 3, none⟩ = some (.int .i64 xd) from fun w' hk =>
        ⟨hk.cell hbx.c0 trivial, hk.cell hbx.c1 trivial, hk.cell hbx.c2 trivial, hk.cell hbx.c3 trivial⟩)
      have hkA : Kp w (wr.alloc (.cells #[.int .u64 xf, .int .u64 xt, .int .i64 xs, .int .i64 xd] 32)) := hkp.out.alloc _
      have HCL := Lib.hid (closTo_any (wr.alloc (.cells #[.int .u64 xf, .int .u64 xt, .int .i64 xs, .int .i64 xd] 32)) ⟨xf, xt, xs, xd⟩ g n (hkA.cell HG.out trivial))
      unfold mvagg mvcells at HCL
      have HOA := Lib.hid (show (wr.alloc (.cells #[.int .u64 xf, .int .u64 xt, .int .i64 xs, .int .i64 xd] 32)).ownsRow w.heap.size 32 4 (.slice A2 q c2) q (mvrow ((L.take k).filter (fun x => x.dst == n))) from hown.out.alloc _)
      have HKA := Lib.hid hkA
      clear hbx hkA c4 hown hkp hA2
      simp only at HNX HCL
      obtain ⟨t, ht⟩ : ∃ t, (xd == n) = t := ⟨_, rfl⟩
      rw [ht] at HNX HCL
      clear ht
      go_wp2_with fail
      refine (show Calls _ _ _ _ _ from HCL.out).mono ?_
      rintro e w2 ⟨rfl, hk2⟩
      have HK2 := Lib.hid (HKA.out.trans hk2)
      have HO2 := Lib.hid (hk2.own HOA.out fun _ _ => trivial)
      obtain ⟨b0, b1, b2, b3⟩ := HX.out w2 hk2
      clear hk2 HOA HKA HCL HX
      cases t with
      | false =>
        have HE := Lib.hid (show (L.take (k + 1)).filter (fun x => x.dst == n) = (L.take k).filter (fun x => x.dst == n) from by rw [HNX.out]; simp)
        clear HNX
        go_wp2_with fail
        go_roundw
        case rel => exact ⟨k + 1, q, by omega, by go_num, by omega, Lib.hid (by rw [HE.out]; exact hq.out), Lib.hid (by rw [HE.out]; exact HO2.out), HK2⟩
        case measure => simp [intOf]; omega
      | true =>
        have HE := Lib.hid (show (L.take (k + 1)).filter (fun x => x.dst == n) = (L.take k).filter (fun x => x.dst == n) ++ [⟨xf, xt, xs, xd⟩] from by rw [HNX.out]; simp)
        have hsrc := src_mv w2 ⟨xf, xt, xs, xd⟩ _ rfl 1 32
        unfold mvcells at hsrc
        have HSRC := Lib.hid hsrc
        have hb : w.heap.size ≤ (w2.alloc (.cells #[.int .u64 xf, .int .u64 xt, .int .i64 xs, .int .i64 xd] 32)).heap.size := by have := HK2.out.size; simp; omega
        clear hsrc HNX
        go_wp2_with (at_builtin; refine mv_elem.list_append rfl (.tmp 17) (.tmp 19) _ rfl rfl (HO2.out.alloc _) rfl HSRC.out ?c3 ?c4 hb ?_)
        case c3 => unfold maxLen; omega
        case c4 => omega
        intro v3 w3 ho3 hg3 hb3
        have HK3 := Lib.hid (show Kp w w3 from (HK2.out.alloc _).grown hg3 fun j hj => (HO2.out.lt j hj).1)
        have HO3 := Lib.hid (show w3.ownsRow w.heap.size 32 4 v3 (q + 1) (mvrow ((L.take (k + 1)).filter (fun x => x.dst == n))) from by rw [HE.out, mvrow_snoc]; exact ho3)
        have HQ := Lib.hid (show q + 1 = ((L.take (k + 1)).filter (fun x => x.dst == n)).length from by rw [HE.out, List.length_append, ← hq.out]; rfl)
        clear ho3 hg3 hb3 HSRC HE HO2 hb
        go_wp2_with fail
        go_roundw
        case rel => exact ⟨k + 1, q + 1, by omega, by go_num, by omega, HQ, HO3, HK3⟩
        case measure => simp [intOf]; omega
    · obtain rfl : k = L.length := by omega
      have hkm' : ¬ ((L.length : Int) < (L.length : Int)) := by omega
      have ho := hown.out
      have hq2 := hq.out
      rw [List.take_length] at ho hq2
      subst hq2
      have HO := Lib.hid ho
      clear hown hq ho
      go_wp2_with fail
      go_ret
      refine ⟨A2, c2, rfl, ?_, hc2, hcm2, hkp.out⟩
      intro hne
      have hlen := mvrow_len (L.filter fun m => m.dst == n)
      have h0 : 0 < (L.filter fun m => m.dst == n).length := by
        rcases Nat.eq_zero_or_pos (L.filter fun m => m.dst == n).length with h | h
        · exact absurd (List.eq_nil_of_length_eq_zero (by rw [hlen, h])) hne
        · exact h
      obtain ⟨g2, rfl, -, -⟩ := hA2 h0
      refine ⟨g2, 0, rfl, trivial, fun i v hv => ?_⟩
      have h1 := HO.out.cells (g := g2) rfl i v hv
      rwa [WideShapes.add_plain] at h1

set_option maxRecDepth 100000 in
theorem planTo_any (w : World) (A : Option Addr) (c : Nat) (L : List Mv) (n : Int) (hr : MVRow w A (fun _ => True) L) (hl : L.length ≤ c) (hc : c ≤ maxLen) (h6 : L.length ≤ 1000000) :
    Calls Try.prog 17 #[.slice A L.length c, .int .i64 n] w fun e w' => ∃ B cb, e = .returned (.slice B (L.filter fun m => m.dst == n).length cb) ∧ MVRow w' B (fun _ => True) (L.filter fun m => m.dst == n) ∧ (L.filter fun m => m.dst == n).length ≤ cb ∧ cb ≤ maxLen ∧ Kp w w' := by
  have hk : Kp w (w.alloc (.cells #[.int .i64 n] 3)) := (Keeps.refl _ w).alloc _
  have HT := Lib.hid (thoseTo_any (w.alloc (.cells #[.int .i64 n] 3)) A c L w.heap.size n (Row.keep hr hk) hl hc h6 ((cell_of_block (heap_alloc_new w _) 0).trans rfl))
  have HK := Lib.hid hk
  clear hk hr
  go_enter Try.func17, Try.ntmps17
  go_wp2_with fail
  refine (show Calls _ _ _ _ _ from HT.out).mono ?_
  rintro e w1 ⟨B, cb, rfl, h1, h2, h3, h4⟩
  have H := Lib.hid (And.intro h1 (And.intro h2 (And.intro h3 (HK.out.trans h4))))
  clear h1 h2 h3 h4 HT HK
  go_wp2_with fail
  go_ret
  exact ⟨B, cb, rfl, H.out⟩

end Go.Proofs.Ytcmblihlbmclaaa
end

/-
  THE PROGRAM's Covers (layer 15): the first part that has the hash.
-/
section
namespace Go.Proofs.Ytcmblihlbmclaaa
open Go Go.RowKit Go.Joins

theorem cov_at {L : List Mv} {h : Int} {k : Nat} (hk : k < L.length) (hno : ∀ (j : Nat) (hj : j < L.length), j < k → inM h L[j] = false) (hy : inM h L[k] = true) : covM L h = L[k] ∧ covB L h = true := by
  have e : L.find? (inM h) = some L[k] := by
    rw [List.find?_eq_some_iff_append]
    refine ⟨hy, L.take k, L.drop (k + 1), ?_, fun a ha => ?_⟩
    · rw [← List.drop_eq_getElem_cons hk, List.take_append_drop]
    · obtain ⟨j, hj, rfl⟩ := List.mem_iff_getElem.1 ha
      have hj' : j < k := by simpa using (List.length_take ▸ hj : j < min k L.length) |> fun h => Nat.lt_of_lt_of_le h (Nat.min_le_left _ _)
      rw [List.getElem_take, hno j (by omega) hj']
      rfl
  unfold covM covB covO
  rw [e]
  exact ⟨rfl, rfl⟩
theorem cov_no {L : List Mv} {h : Int} (hno : ∀ (j : Nat) (hj : j < L.length), inM h L[j] = false) : covM L h = ⟨0, 0, 0, 0⟩ ∧ covB L h = false := by
  have e : L.find? (inM h) = none := by
    rw [List.find?_eq_none]
    intro a ha
    obtain ⟨j, hj, rfl⟩ := List.mem_iff_getElem.1 ha
    rw [hno j hj]
    simp
  unfold covM covB covO
  rw [e]
  exact ⟨rfl, rfl⟩
/-- A part is stored into a block. -/
theorem blk_set4 {w : World} {g : Nat} {m : Mv} (h : MvBlk w g m) (x : Mv) : MvBlk ((((w.setCell ⟨g, 0, none⟩ (.int .u64 x.frm)).setCell ⟨g, 1, none⟩ (.int .u64 x.til)).setCell ⟨g, 2, none⟩ (.int .i64 x.src)).setCell ⟨g, 3, none⟩ (.int .i64 x.dst)) g x := by
  unfold MvBlk at *
  simp only [Sort.setCell_eq, Sort.mapBlock, Array.getElem?_modify, if_true, h, Option.map_some, Sort.onCells]
  rfl
set_option maxRecDepth 100000 in
set_option maxHeartbeats 4000000 in
theorem covers_any (w : World) (A : Option Addr) (c : Nat) (L : List Mv) (h : Int) (hr : MVRow w A (fun _ => True) L) (_hl : L.length ≤ c) (_hc : c ≤ maxLen) (h6 : L.length ≤ 1000000) :
    Calls Try.prog 14 #[.slice A L.length c, .int .u64 h] w fun e w' => e = .returned (.tuple #[mvagg (covM L h), .bool (covB L h)]) ∧ Kp w w' := by
  obtain ⟨g, hg⟩ : ∃ g, w.heap.size = g := ⟨_, rfl⟩
  obtain ⟨w0, hw0⟩ : ∃ w0, w0 = w.alloc (.cells #[.int .u64 0, .int .u64 0, .int .i64 0, .int .i64 0] 32) := ⟨_, rfl⟩
  have hk0 : Kp w w0 := by rw [hw0]; exact (Keeps.refl _ w).alloc _
  have HB := Lib.hid (show MvBlk w0 g ⟨0, 0, 0, 0⟩ from by rw [hw0, ← hg]; exact MvBlk.new w ⟨0, 0, 0, 0⟩ _ rfl)
  have HR := Lib.hid (show ∀ w', Kp w0 w' → MVRow w' A (fun _ => True) L from fun w' hk => Row.keep hr (hk0.trans hk))
  have HK := Lib.hid (show ∀ w', Kp w0 w' → Kp w w' from fun w' hk => hk0.trans hk)
  have HS := Lib.hid (show ∀ (wr : World) (i : Nat) (v : Value), Kp w wr → Kp w (wr.setCell ⟨g, i, none⟩ v) from fun wr i v hk => hk.setCell (.inl (by rw [hg]; exact Nat.le_refl _)) v)
  have HW := Lib.hid hw0
  unfold maxLen at _hc
  clear hr hk0 hw0
  have HGG := Lib.hid hg
  go_enter Try.func14, Try.ntmps14
  go_wp2_with fail
  rw [← HW.out]
  clear hg
  go_loopw [10] (fun i wr => ∃ k : Nat, k ≤ L.length ∧ i = .int .i64 (k : Int) ∧ Hid (∀ (j : Nat) (hj : j < L.length), j < k → inM h L[j] = false) ∧ Hid (Kp w0 wr)) (fun i _ => L.length - (intOf i).toNat)
  case atStart => exact ⟨0, Nat.zero_le _, rfl, Lib.hid (fun j _ hj => absurd hj (Nat.not_lt_zero _)), Lib.hid (Keeps.refl _ _)⟩
  case round =>
    obtain ⟨k, hk, rfl, HJ, HKW⟩ := hrel
    by_cases hkm : k < L.length
    · have hkm' : (k : Int) < (L.length : Int) := by omega
      obtain ⟨b, o, rfl, -, c4⟩ := (HR.out wr HKW.out).at_ hkm
      have HYES := Lib.hid (fun hy => cov_at hkm (fun j hj hjk => HJ.out j hj hjk) hy)
      have HNO := Lib.hid (show inM h L[k] = false → ∀ (j : Nat) (hj : j < L.length), j < k + 1 → inM h L[j] = false from fun hn j hj hjk => by
        rcases Nat.lt_or_ge j k with q | q
        · exact HJ.out j hj q
        · obtain rfl : j = k := by omega
          exact hn)
      obtain ⟨x, hx⟩ : ∃ x, L[k] = x := ⟨_, rfl⟩
      rw [hx] at c4 HYES HNO
      clear hx HJ
      have c0 := c4.c0
      have c1 := c4.c1
      have c2' := c4.c2
      have c3' := c4.c3
      obtain ⟨xf, xt, xs, xd⟩ := x
      have HIN := Lib.hid (show inM h ⟨xf, xt, xs, xd⟩ = (decide (xf ≤ h) && decide (h ≤ xt)) from rfl)
      generalize inM h ⟨xf, xt, xs, xd⟩ = t at HIN HYES HNO
      simp only at c0 c1 c2' c3'
      have hb1 := (HB.out.keep HKW.out trivial)
      have b0 := hb1.c0
      have b1 := hb1.c1
      have b2 := hb1.c2
      have b3 := hb1.c3
      have HBK := Lib.hid hb1
      have hgs : g < wr.heap.size := (Array.getElem?_eq_some_iff.1 hb1).1
      have hf0 : wr.frozen? ⟨g, 0, none⟩ = false := by unfold World.frozen?; rw [hb1]; rfl
      have hf1 : wr.frozen? ⟨g, 1, none⟩ = false := by unfold World.frozen?; rw [hb1]; rfl
      have hf2 : wr.frozen? ⟨g, 2, none⟩ = false := by unfold World.frozen?; rw [hb1]; rfl
      have hf3 : wr.frozen? ⟨g, 3, none⟩ = false := by unfold World.frozen?; rw [hb1]; rfl
      clear c4 hb1
      cases q1 : decide (xf ≤ h) <;> cases q2 : decide (h ≤ xt) <;> rw [q1, q2] at HIN
      · have HN := Lib.hid (HNO.out (by rw [HIN.out]; rfl))
        clear HNO HYES
        go_wp2_with fail
        go_roundw
        case rel => exact ⟨k + 1, by omega, by go_num, HN, Lib.hid (HKW.out.alloc _)⟩
        case measure => simp [intOf]; omega
      · have HN := Lib.hid (HNO.out (by rw [HIN.out]; rfl))
        clear HNO HYES
        go_wp2_with fail
        go_roundw
        case rel => exact ⟨k + 1, by omega, by go_num, HN, Lib.hid (HKW.out.alloc _)⟩
        case measure => simp [intOf]; omega
      · have HN := Lib.hid (HNO.out (by rw [HIN.out]; rfl))
        clear HNO HYES
        go_wp2_with fail
        go_roundw
        case rel => exact ⟨k + 1, by omega, by go_num, HN, Lib.hid (HKW.out.alloc _)⟩
        case measure => simp [intOf]; omega
      · have HY := Lib.hid (HYES.out (by rw [HIN.out]; rfl))
        clear HNO HYES
        go_wp2_with fail
        have hfin : MvBlk (((((wr.setCell ⟨g, 0, none⟩ (.int .u64 xf)).setCell ⟨g, 1, none⟩ (.int .u64 xt)).setCell ⟨g, 2, none⟩ (.int .i64 xs)).setCell ⟨g, 3, none⟩ (.int .i64 xd)).alloc (.cells #[.int .u64 xf, .int .u64 xt, .int .i64 xs, .int .i64 xd] 32)) g ⟨xf, xt, xs, xd⟩ := (blk_set4 HBK.out ⟨xf, xt, xs, xd⟩).keep (G := fun _ => True) ((Keeps.refl _ _).alloc _) trivial
        have hkf : Kp w (((((wr.setCell ⟨g, 0, none⟩ (.int .u64 xf)).setCell ⟨g, 1, none⟩ (.int .u64 xt)).setCell ⟨g, 2, none⟩ (.int .i64 xs)).setCell ⟨g, 3, none⟩ (.int .i64 xd)).alloc (.cells #[.int .u64 xf, .int .u64 xt, .int .i64 xs, .int .i64 xd] 32)) := (HS.out _ 3 _ (HS.out _ 2 _ (HS.out _ 1 _ (HS.out _ 0 _ (HK.out _ HKW.out))))).alloc _
        generalize (((((wr.setCell ⟨g, 0, none⟩ (.int .u64 xf)).setCell ⟨g, 1, none⟩ (.int .u64 xt)).setCell ⟨g, 2, none⟩ (.int .i64 xs)).setCell ⟨g, 3, none⟩ (.int .i64 xd)).alloc (.cells #[.int .u64 xf, .int .u64 xt, .int .i64 xs, .int .i64 xd] 32)) = W5 at hfin hkf ⊢
        have x0 := hfin.c0
        have x1 := hfin.c1
        have x2 := hfin.c2
        have x3 := hfin.c3
        simp only at x0 x1 x2 x3
        refine bodyPost_ret (v := .tuple #[.agg #[.int .u64 xf, .int .u64 xt, .int .i64 xs, .int .i64 xd], .bool true]) (by simp [results, Try.results14, go_sem, x0, x1, x2, x3]) rfl ⟨?_, hkf⟩
        rw [HY.out.1, HY.out.2]
        rfl
    · obtain rfl : k = L.length := by omega
      have hkm' : ¬ ((L.length : Int) < (L.length : Int)) := by omega
      have HN := Lib.hid (cov_no fun j hj => HJ.out j hj hj)
      have hb1 := (HB.out.keep HKW.out trivial)
      have b0 := hb1.c0
      have b1 := hb1.c1
      have b2 := hb1.c2
      have b3 := hb1.c3
      have HBK := Lib.hid hb1
      have hgs : g < wr.heap.size := (Array.getElem?_eq_some_iff.1 hb1).1
      have hf0 : wr.frozen? ⟨g, 0, none⟩ = false := by unfold World.frozen?; rw [hb1]; rfl
      have hf1 : wr.frozen? ⟨g, 1, none⟩ = false := by unfold World.frozen?; rw [hb1]; rfl
      have hf2 : wr.frozen? ⟨g, 2, none⟩ = false := by unfold World.frozen?; rw [hb1]; rfl
      have hf3 : wr.frozen? ⟨g, 3, none⟩ = false := by unfold World.frozen?; rw [hb1]; rfl
      clear hb1 HJ
      go_wp2_with fail
      have hfin := blk_set4 HBK.out ⟨0, 0, 0, 0⟩
      have hkf := HS.out _ 3 (.int .i64 0) (HS.out _ 2 (.int .i64 0) (HS.out _ 1 (.int .u64 0) (HS.out _ 0 (.int .u64 0) (HK.out _ HKW.out))))
      simp only at hfin
      generalize ((((wr.setCell ⟨g, 0, none⟩ (.int .u64 0)).setCell ⟨g, 1, none⟩ (.int .u64 0)).setCell ⟨g, 2, none⟩ (.int .i64 0)).setCell ⟨g, 3, none⟩ (.int .i64 0)) = W5 at hfin hkf ⊢
      have x0 := hfin.c0
      have x1 := hfin.c1
      have x2 := hfin.c2
      have x3 := hfin.c3
      simp only at x0 x1 x2 x3
      refine bodyPost_ret (v := .tuple #[.agg #[.int .u64 0, .int .u64 0, .int .i64 0, .int .i64 0], .bool false]) (by simp [results, Try.results14, go_sem, x0, x1, x2, x3]) rfl ⟨?_, hkf⟩
      rw [HN.out.1, HN.out.2]
      rfl

end Go.Proofs.Ytcmblihlbmclaaa
end
