/-
  THE WALK OF PlanCovers, however the program finds the part.
-/
import Derived.Test.YtcmblihlbmclaaaPnBegun
import Derived.BigQuiet
import Derived.Deep.CutRange
namespace Go.Proofs.Ytcmblihlbmclaaa.planCovers
open Go Go.RowKit Go.Joins

theorem mv_elem : Elem Try.prog 26 32 (.agg #[.int .u64 0, .int .u64 0, .int .i64 0, .int .i64 0]) 4 32 := ⟨Try.underlying26, by kernel_rfl, rfl, by decide⟩
theorem src_mv (w : World) (x : Mv) (b : Nat) (hb : b = w.heap.size) (c : Nat) (t : TypeId) : Src Try.prog 4 26 (.slice (some ⟨b, 0, none⟩) 1 c) 1 (mvcells x).toList (w.alloc (.cells (mvcells x) t)) := by
  subst hb
  refine Src.ofSlice _ Try.underlying26 _ 1 c _ rfl (fun j u hu => ?_) (fun u hu => ?_)
  · have hb := heap_alloc_new w (.cells (mvcells x) t)
    rw [WideShapes.add_plain, Nat.zero_add]
    rw [Array.getElem?_toList] at hu
    exact (cell_of_block hb j).trans hu
  · simp [mvcells] at hu
    rcases hu with rfl | rfl | rfl | rfl <;> rfl
theorem own_form4 {w : World} {base n : Nat} {e : TypeId} {v : Value} {xs : List Value} (h : w.ownsRow base e 4 v n xs) : ∃ A c, v = .slice A n c ∧ n ≤ c ∧ c ≤ maxLen ∧ (0 < n → ∃ g, A = some ⟨g, 0, none⟩) := by
  rcases h.2 with ⟨rfl, h0⟩ | ⟨g, cap, cur, rfl, hb, hg, h1, h2, r⟩
  · exact ⟨none, 0, by rw [h0], by omega, Nat.zero_le _, fun h => by omega⟩
  · exact ⟨_, _, rfl, h1, h2, fun _ => ⟨g, rfl⟩⟩
theorem mv_of_own {w : World} {base n c : Nat} {A : Option Addr} {e : TypeId} {l : List Mv} (h : w.ownsRow base e 4 (.slice A n c) n (mvrow l)) (hn : n = l.length) : MVRow w A (fun _ => True) l := by
  intro hne
  have hp : 0 < n := by
    rcases Nat.eq_zero_or_pos n with h0 | h0
    · exfalso
      have hl := mvrow_len l
      rw [← hn, h0, Nat.zero_mul] at hl
      exact hne (List.eq_nil_of_length_eq_zero hl)
    · exact h0
  obtain ⟨g, cap, e, hb, -⟩ := h.form hp
  injection e with e1 e2 e3
  subst e1
  refine ⟨g, 0, rfl, trivial, fun i v hv => ?_⟩
  have := h.cells (g := g) rfl i v hv
  rwa [WideShapes.add_plain] at this
/-- What the parts so far are. -/
structure Inv (L : List Mv) (last : Int) : Prop where
  ap : Apart15 L
  le : ∀ m ∈ L, m.til ≤ last
  src : ∀ m ∈ L, 1 ≤ m.src
theorem Inv.nil : Inv [] 0 := ⟨⟨fun m hm => (by cases hm), List.Pairwise.nil⟩, fun m hm => (by cases hm), fun m hm => (by cases hm)⟩
theorem Inv.snoc {L : List Mv} {last : Int} (h : Inv L last) {a b s : Int} (hl : L = [] ∨ last < a) (h0 : 0 ≤ a) (hab : a ≤ b) (hb : b < 18446744073709551616) (hs : 1 ≤ s) : Inv (L ++ [⟨a, b, s, 5⟩]) b := by
  have hlt : ∀ m ∈ L, m.til < a := fun m hm => by
    rcases hl with rfl | hl
    · cases hm
    · have := h.le m hm; omega
  refine ⟨⟨fun m hm => ?_, List.pairwise_append.2 ⟨h.ap.asc, List.pairwise_singleton _ _, fun x hx y hy => ?_⟩⟩, fun m hm => ?_, fun m hm => ?_⟩
  · rcases List.mem_append.1 hm with hm | hm
    · exact h.ap.rng m hm
    · rw [List.mem_singleton.1 hm]; exact ⟨h0, hab, hb⟩
  · rw [List.mem_singleton.1 hy]; exact hlt x hx
  · rcases List.mem_append.1 hm with hm | hm
    · have := hlt m hm; omega
    · rw [List.mem_singleton.1 hm]; exact Int.le_refl _
  · rcases List.mem_append.1 hm with hm | hm
    · exact h.src m hm
    · rw [List.mem_singleton.1 hm]; exact hs
set_option maxRecDepth 100000 in
set_option maxHeartbeats 8000000 in
theorem walk {S : RingOK} (O : PlanOK S) (w : World) (hT : S.T w) (A : Option Addr) (c : Nat) (l : List Int) (h1 : l.length ≤ c) (h2 : c ≤ maxLen) (hr : Row w A (fun b => b < w.heap.size) (l.map (Value.int .u64))) (hu : ∀ z ∈ l, 0 ≤ z ∧ z < 18446744073709551616) (h : Int) (hh1 : 0 ≤ h) (hh2 : h < 18446744073709551616) :
    Calls Try.prog 8 #[.slice A l.length c, .int .u64 h] w fun e w' => e = .returned (.bool true) ∧ Below w.heap.size w w' := by
  have HT := Lib.hid hT
  have HH := Lib.hid (And.intro hh1 hh2)
  have HR := Lib.hid hr
  have HU := Lib.hid hu
  obtain ⟨N, hN⟩ : ∃ N, l.length = N := ⟨_, rfl⟩
  have HN := Lib.hid hN
  have hNm : N ≤ 9223372036854775807 := by unfold maxLen at h2; omega
  rw [hN]
  clear hT hh1 hh2 hr hu h1 h2 hN
  go_enter Try.func8, Try.ntmps8
  go_wp2_with fail
  refine (begun15 O w HT.out).mono ?_
  rintro e w1 ⟨rfl, hk⟩
  have HK1 := Lib.hid hk
  clear hk
  go_wp2_with fail
  go_loopw [6, 7, 8, 9] (fun s6 s7 s8 i wr => ∃ (k : Nat) (L : List Mv) (last : Int), k ≤ N ∧ k ≤ 12 ∧ i = .int .i64 (k : Int) ∧ s7 = .int .u64 last ∧ s8 = .bool L.isEmpty ∧ L.length ≤ k ∧ wr.ownsRow w1.heap.size 32 4 s6 L.length (mvrow L) ∧ Hid (Inv L last) ∧ Hid (Kp w1 wr)) (fun _ _ _ i _ => 12 - (intOf i).toNat)
  case atStart => exact ⟨0, [], 0, Nat.zero_le _, by omega, rfl, rfl, rfl, Nat.le_refl _, ⟨rfl, .inl ⟨rfl, rfl⟩⟩, Lib.hid Inv.nil, Lib.hid (Keeps.refl _ _)⟩
  case round =>
    obtain ⟨k, L, last, hk, hk12, rfl, rfl, rfl, hLk, ho, HI, HK⟩ := hrel
    have HO := Lib.hid ho
    clear ho
    by_cases hkN : k < N ∧ k < 12
    · obtain ⟨hkN1, hkN2⟩ := hkN
      have u1 : decide ((k : Int) < (N : Int)) = true := by simp; omega
      have u2 : decide ((k : Int) < 12) = true := by simp; omega
      have hkl : k < l.length := by rw [HN.out]; exact hkN1
      obtain ⟨b, o, rfl, -, c0⟩ := (HR.out.keep (HK1.out.mono fun _ _ _ => trivial)).at_ (k := k) (by rw [List.length_map]; exact hkl)
      rw [List.getElem_map] at c0
      replace c0 := HK.out.cell c0 trivial
      have ha := HU.out l[k] (List.getElem_mem hkl)
      generalize l[k] = a at c0 ha
      clear hkl
      have hcs : (L.isEmpty = false ∧ decide (a ≤ last) = true) ∨ (L.isEmpty = false ∧ decide (a ≤ last) = false ∧ decide ((9223372036854775808 : Int) < a) = true) ∨ (L.isEmpty = false ∧ decide (a ≤ last) = false ∧ decide ((9223372036854775808 : Int) < a) = false) ∨ (L.isEmpty = true ∧ decide ((9223372036854775808 : Int) < a) = true) ∨ (L.isEmpty = true ∧ decide ((9223372036854775808 : Int) < a) = false) := by
        cases L.isEmpty <;> cases decide (a ≤ last) <;> cases decide ((9223372036854775808 : Int) < a) <;> simp
      rcases hcs with ⟨t0, t1⟩ | ⟨t0, t1, t2⟩ | ⟨t0, t1, t2⟩ | ⟨t0, t2⟩ | ⟨t0, t2⟩
      · rw [t0]
        go_wp2_with fail
        go_roundw
        case rel => exact ⟨k + 1, L, last, by omega, by omega, by go_num, rfl, by rw [t0], by omega, HO.out, HI, HK⟩
        case measure => simp [intOf]; omega
      · rw [t0]
        go_wp2_with fail
        go_roundw
        case rel => exact ⟨k + 1, L, last, by omega, by omega, by go_num, rfl, by rw [t0], by omega, HO.out, HI, HK⟩
        case measure => simp [intOf]; omega
      · have t1' : ¬ a ≤ last := by simpa using t1
        have hwr : IntKind.u64.wrap (a + (k : Int)) = a + (k : Int) := by rw [IntKind.wrap_u64]; simp at t2; omega
        have HIN := Lib.hid (show Inv (L ++ [⟨a, IntKind.u64.wrap (a + (k : Int)), 1 + (k : Int) % 4, 5⟩]) (IntKind.u64.wrap (a + (k : Int))) from by
          rw [hwr]
          exact HI.out.snoc (.inr (by omega)) ha.1 (by omega) (by simp at t2; omega) (by omega))
        have HSRC := Lib.hid (src_mv wr ⟨a, IntKind.u64.wrap (a + (k : Int)), 1 + (k : Int) % 4, 5⟩ wr.heap.size rfl 1 32)
        have hsz1 : w1.heap.size ≤ (wr.alloc (.cells (mvcells ⟨a, IntKind.u64.wrap (a + (k : Int)), 1 + (k : Int) % 4, 5⟩) 32)).heap.size := by have := HK.out.size; simp; omega
        unfold mvcells at HSRC hsz1
        clear hwr HI
        rw [t0]
        clear t1'
        go_wp2_with (at_builtin; refine mv_elem.list_append rfl (.tmp 42) (.tmp 52) _ rfl rfl (HO.out.alloc _) rfl HSRC.out ?c3 ?c4 hsz1 ?_)
        case c3 => unfold maxLen; omega
        case c4 => omega
        intro v3 w3 ho3 hg3 hb3
        have hown := HO.out
        have hg3' := grown_of_alloc hg3
        have HK3 := Lib.hid (show Kp w1 w3 from HK.out.grown hg3' fun b hb => (hown.lt b hb).1)
        have HO3 := Lib.hid (show w3.ownsRow w1.heap.size 32 4 v3 (L ++ [(⟨a, IntKind.u64.wrap (a + (k : Int)), 1 + (k : Int) % 4, 5⟩ : Mv)]).length (mvrow (L ++ [⟨a, IntKind.u64.wrap (a + (k : Int)), 1 + (k : Int) % 4, 5⟩])) from by
          rw [mvrow_snoc, List.length_append]
          exact ho3)
        clear ho3 hg3 hb3 hg3' hown hsz1 HO HK HSRC
        go_wp2_with fail
        go_roundw
        case rel => exact ⟨k + 1, L ++ [⟨a, IntKind.u64.wrap (a + (k : Int)), 1 + (k : Int) % 4, 5⟩], IntKind.u64.wrap (a + (k : Int)), by omega, by omega, by go_num, rfl, by simp, by rw [List.length_append]; simp; omega, HO3.out, HIN, HK3⟩
        case measure => simp [intOf]; omega
      · rw [t0]
        go_wp2_with fail
        go_roundw
        case rel => exact ⟨k + 1, L, last, by omega, by omega, by go_num, rfl, by rw [t0], by omega, HO.out, HI, HK⟩
        case measure => simp [intOf]; omega
      · have hnil : L = [] := List.isEmpty_iff.1 t0
        have hwr : IntKind.u64.wrap (a + (k : Int)) = a + (k : Int) := by rw [IntKind.wrap_u64]; simp at t2; omega
        have HIN := Lib.hid (show Inv (L ++ [⟨a, IntKind.u64.wrap (a + (k : Int)), 1 + (k : Int) % 4, 5⟩]) (IntKind.u64.wrap (a + (k : Int))) from by
          rw [hwr]
          exact HI.out.snoc (.inl hnil) ha.1 (by omega) (by simp at t2; omega) (by omega))
        have HSRC := Lib.hid (src_mv wr ⟨a, IntKind.u64.wrap (a + (k : Int)), 1 + (k : Int) % 4, 5⟩ wr.heap.size rfl 1 32)
        have hsz1 : w1.heap.size ≤ (wr.alloc (.cells (mvcells ⟨a, IntKind.u64.wrap (a + (k : Int)), 1 + (k : Int) % 4, 5⟩) 32)).heap.size := by have := HK.out.size; simp; omega
        unfold mvcells at HSRC hsz1
        clear hwr HI
        rw [t0]
        clear hnil
        go_wp2_with (at_builtin; refine mv_elem.list_append rfl (.tmp 42) (.tmp 52) _ rfl rfl (HO.out.alloc _) rfl HSRC.out ?c3 ?c4 hsz1 ?_)
        case c3 => unfold maxLen; omega
        case c4 => omega
        intro v3 w3 ho3 hg3 hb3
        have hown := HO.out
        have hg3' := grown_of_alloc hg3
        have HK3 := Lib.hid (show Kp w1 w3 from HK.out.grown hg3' fun b hb => (hown.lt b hb).1)
        have HO3 := Lib.hid (show w3.ownsRow w1.heap.size 32 4 v3 (L ++ [(⟨a, IntKind.u64.wrap (a + (k : Int)), 1 + (k : Int) % 4, 5⟩ : Mv)]).length (mvrow (L ++ [⟨a, IntKind.u64.wrap (a + (k : Int)), 1 + (k : Int) % 4, 5⟩])) from by
          rw [mvrow_snoc, List.length_append]
          exact ho3)
        clear ho3 hg3 hb3 hg3' hown hsz1 HO HK HSRC
        go_wp2_with fail
        go_roundw
        case rel => exact ⟨k + 1, L ++ [⟨a, IntKind.u64.wrap (a + (k : Int)), 1 + (k : Int) % 4, 5⟩], IntKind.u64.wrap (a + (k : Int)), by omega, by omega, by go_num, rfl, by simp, by rw [List.length_append]; simp; omega, HO3.out, HIN, HK3⟩
        case measure => simp [intOf]; omega
    · have hst : k = N ∨ (k = 12 ∧ (12 : Int) < (N : Int)) := by
        by_cases hk1 : k < N
        · exact .inr ⟨by omega, by omega⟩
        · exact .inl (by omega)
      obtain ⟨D, cd, rfl, hd1, hd2, -⟩ := own_form4 HO.out
      have HRP := Lib.hid (show ∀ w', Kp wr w' → MVRow w' D (fun _ => True) L from fun w' hk => Row.keep (mv_of_own HO.out rfl) hk)
      have HCV := Lib.hid (O.covers wr D cd L h (HRP.out wr (Keeps.refl _ _)) hd1 hd2 (by omega) HI.out.ap HH.out.1 HH.out.2)
      have hcd : cd ≤ 9223372036854775807 := by unfold maxLen at hd2; omega
      obtain ⟨m, hm⟩ : ∃ m, covM L h = m := ⟨_, rfl⟩
      obtain ⟨f, hf⟩ : ∃ f, covB L h = f := ⟨_, rfl⟩
      rw [hm, hf] at HCV
      have HM := Lib.hid hm
      have HF := Lib.hid hf
      obtain ⟨m1, m2, m3, m4⟩ := m
      unfold mvagg mvcells at HCV
      clear hm hf HO hd2 hkN
      rcases hst with rfl | ⟨rfl, u1⟩
      all_goals (
        have u2 : decide (((12 : Nat) : Int) < 12) = false := by decide
        go_wp2_with fail
        refine (show Calls _ _ _ _ _ from HCV.out).mono ?_
        rintro e w7 ⟨rfl, hk7⟩
        have HK7 := Lib.hid hk7
        clear hk7 HCV
        go_upto_region 14 with fail
        obtain ⟨g, hg⟩ : ∃ g, w7.heap.size = g := ⟨_, rfl⟩
        have hb := MvBlk.new w7 ⟨m1, m2, m3, m4⟩ g hg
        have HK8 := Lib.hid (HK7.out.alloc (.cells (mvcells ⟨m1, m2, m3, m4⟩) 32))
        unfold mvcells at hb HK8
        rw [hg]
        generalize w7.alloc (.cells #[.int .u64 m1, .int .u64 m2, .int .i64 m3, .int .i64 m4] 32) = w8 at hb HK8 ⊢
        have HB := Lib.hid hb
        have HRP8 := Lib.hid (show ∀ w', Kp w8 w' → MVRow w' D (fun _ => True) L from fun w' hk => HRP.out w' (HK8.out.trans hk))
        have HK18 := Lib.hid (HK1.out.trans (HK.out.trans HK8.out))
        clear hb hg HK7 HK8 HRP HK
        go_wp2_with fail
        go_loopw [13] (fun i wi => ∃ q : Nat, q ≤ L.length ∧ i = .int .i64 (q : Int) ∧ Hid (∀ (j : Nat) (hj : j < L.length), j < q → inM h L[j] = false) ∧ Hid (Kp w8 wi)) (fun i _ => L.length - (intOf i).toNat)
        case atStart => exact ⟨0, by omega, rfl, Lib.hid (fun j _ hj => absurd hj (Nat.not_lt_zero _)), Lib.hid (Keeps.refl _ _)⟩
        case round =>
          obtain ⟨q, hq, rfl, HNO, HKb⟩ := hrel
          by_cases hq1 : q < L.length
          · have hqI : (q : Int) < (L.length : Int) := by omega
            obtain ⟨b, o, rfl, -, h4⟩ := (HRP8.out wr HKb.out).at_ hq1
            have hin : inM h L[q] = (decide (L[q].frm ≤ h) && decide (h ≤ L[q].til)) := rfl
            have HYES := Lib.hid (show inM h L[q] = true → covO L h = some L[q] from fun hy => by
              unfold covO
              rw [List.find?_eq_some_iff_getElem]
              exact ⟨hy, q, hq1, rfl, fun j hj => by rw [HNO.out j (by omega) hj]; rfl⟩)
            have HNXT := Lib.hid (show inM h L[q] = false → ∀ (j : Nat) (hj : j < L.length), j < q + 1 → inM h L[j] = false from fun hn j hj hjq => by
              rcases Nat.lt_or_ge j q with h' | h'
              · exact HNO.out j hj h'
              · obtain rfl : j = q := by omega
                exact hn)
            have HIN := Lib.hid hin
            generalize L[q] = x at h4 HIN HYES HNXT
            obtain ⟨x1, x2, x3, x4⟩ := x
            have c0 := h4.c0
            have c1 := h4.c1
            have c2 := h4.c2
            have d0 := (HB.out.keep HKb.out trivial).c0
            have d2 := (HB.out.keep HKb.out trivial).c2
            simp only at c0 c1 c2 d0 d2
            have hcs : (decide (x1 ≤ h) = true ∧ decide (h ≤ x2) = true) ∨ (decide (x1 ≤ h) = true ∧ decide (h ≤ x2) = false) ∨ decide (x1 ≤ h) = false := by
              cases decide (x1 ≤ h) <;> cases decide (h ≤ x2) <;> simp
            clear h4 hin HNO
            rcases hcs with ⟨s1, s2⟩ | ⟨s1, s2⟩ | s1
            · have hcov := HYES.out (by rw [HIN.out, s1, s2]; rfl)
              have e1 : (⟨x1, x2, x3, x4⟩ : Mv) = ⟨m1, m2, m3, m4⟩ := by rw [← HM.out]; unfold covM; rw [hcov]; rfl
              have e2 : true = f := by rw [← HF.out]; unfold covB; rw [hcov]; rfl
              injection e1 with a1 a2 a3 a4
              subst a1 a2 a3 a4 e2
              have v1 : (x1 == x1) = true := by simp
              have v2 : (x3 == x3) = true := by simp
              clear hcov HYES HNXT HIN HM HF
              go_wp2_with fail
              go_quiet (fail)
              go_wp2_with fail
              go_ret
              exact ⟨rfl, ((HK18.out.trans HKb.out).drewN _).below⟩
            all_goals (
              have HNX := Lib.hid (HNXT.out (by rw [HIN.out, s1]; (try rw [s2]); rfl))
              clear HYES HNXT HIN HM HF HB d0 d2
              go_wp2_with fail
              go_roundw
              case rel => exact ⟨q + 1, by omega, by go_num, HNX, HKb⟩
              case measure => simp [intOf]; omega)
          · obtain rfl : q = L.length := by omega
            have hcov : covO L h = none := by
              unfold covO
              rw [List.find?_eq_none]
              intro x hx
              obtain ⟨j, hj, rfl⟩ := List.mem_iff_getElem.1 hx
              rw [HNO.out j hj hj]; simp
            have e1 : (⟨0, 0, 0, 0⟩ : Mv) = ⟨m1, m2, m3, m4⟩ := by rw [← HM.out]; unfold covM; rw [hcov]; rfl
            have e2 : false = f := by rw [← HF.out]; unfold covB; rw [hcov]; rfl
            injection e1 with a1 a2 a3 a4
            subst a1 a2 a3 a4 e2
            have d2 := (HB.out.keep HKb.out trivial).c2
            clear hcov hq1 HM HF
            go_wp2_with fail
            go_ret
            exact ⟨rfl, (HK18.out.trans HKb.out).below⟩)

end Go.Proofs.Ytcmblihlbmclaaa.planCovers
