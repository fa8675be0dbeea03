/-
  FlashBetween, walked: entries are put into a cache; those of a range of hashes are told by their keys, so many, behind a key; each once.
-/
import Derived.Test.YtoepgbpmcjnbmaaGreatDoorFlashBegun
import Derived.Test.YtoepgbpmcjnbmaaGreatDoorFlashBetRow
import Derived.Test.YtoepgbpmcjnbmaaGreatDoorAllItemB
import Derived.Test.YtoepgbpmcjnbmaaGreatDoorAllItemA
import Derived.BigQuiet
namespace Go.Proofs.YtoepgbpmcjnbmaaGreatDoor.flashBetween
open Go Go.RowKit Go.Joins Go.Proofs.YtoepgbpmcjnbmaaGreatDoor
def tooFar (n : Int) : Bool := decide (n < 1) || decide (10 < n)
set_option maxRecDepth 100000 in
set_option maxHeartbeats 4000000 in
theorem walk (S : FlashOK) (w : World) (hT : S.T w) (A : Option Addr) (c : Nat) (l : List It) (ha : l.length ≤ c) (hb : c ≤ maxLen) (hA : ItsAt w A (fun b => b < w.heap.size) l) (hc : ∀ x ∈ l, x.key.size ≤ maxLen ∧ x.val.size ≤ maxLen ∧ -9223372036854775808 ≤ x.till ∧ x.till < 9223372036854775808)
    (lo hi : Nat) (hlo : lo < 18446744073709551616) (hhi : hi < 18446744073709551616) (n : Int) (hn1 : -9223372036854775808 ≤ n) (hn2 : n < 9223372036854775808) :
    Calls Tryz.prog 4 #[.slice A l.length c, .int .u64 lo, .int .u64 hi, .int .i64 n] w fun e w' => e = .returned (.bool true) ∧ Below w.heap.size w w' := by
  have HT := Lib.hid hT
  have HIT := Lib.hid (show ∀ w1, Kp w w1 → _ from fun w1 (hk : Kp w w1) => law_items w1 A c l 8 ((hA.keep (hk.mono fun _ _ _ => trivial)).mono fun b _ hb => Nat.lt_of_lt_of_le hb hk.size) ha hb (fun x hx => ⟨(hc x hx).1, (hc x hx).2.1⟩) (Nat.le_refl _))
  have HFITS := Lib.hid (show ∀ x ∈ cutL l 8, x.fits from cutL_fits (fun x hx => (hc x hx).2.2) 8)
  have HCLEN := Lib.hid (show (cutL l 8).length ≤ 8 from by rw [cutL_len]; omega)
  generalize cutL l 8 = its at HIT HFITS HCLEN
  obtain ⟨ll, hll⟩ : ∃ ll, l.length = ll := ⟨_, rfl⟩
  rw [hll] at HIT ha ⊢
  clear hT hA hc hll
  unfold maxLen at hb
  go_enter Tryz.func4, Tryz.ntmps4
  go_wp2_with fail
  refine (show Calls _ _ _ _ _ from begun9 S w HT.out).mono ?_
  rintro e w1 ⟨rfl, hk⟩
  have K1 := Lib.hid hk
  clear hk
  go_wp2_with fail
  refine (show Calls _ _ _ _ _ from HIT.out w1 K1.out).mono ?_
  rintro e w2 ⟨IA, ic, rfl, hic, hicm, hits, hk⟩
  have K2 := Lib.hid (K1.out.trans hk)
  have HI2 := Lib.hid hits
  have HZ1 := Lib.hid (show w.heap.size ≤ w1.heap.size ∧ w1.heap.size ≤ w2.heap.size from ⟨K1.out.size, hk.size⟩)
  obtain ⟨m, hm⟩ : ∃ m, its.length = m := ⟨_, rfl⟩
  have HM := Lib.hid hm
  rw [hm] at hic HCLEN ⊢
  have hm8 := HCLEN.out
  unfold maxLen at hicm
  clear hk hits K1 HIT hm HCLEN
  go_wp2_with fail
  refine (show Calls _ _ _ _ _ from fo_dev (X := fun b => w1.heap.size ≤ b ∧ b < w2.heap.size) K2.out (fun _ h => h.2) 320 (by decide) (by decide) 320 rfl).mono ?_
  rintro e w3 ⟨p, rfl, hB, hk3⟩
  have HB := Lib.hid hB
  have HI3 := Lib.hid (HI2.out.keep (hk3.mono fun _ _ _ => trivial))
  have HZ3 := Lib.hid hk3.size
  clear hB HI2 hk3
  go_wp2_with fail
  refine (show Calls _ _ _ _ _ from fo_open HT.out HB.out 0 40 0 40 rfl rfl (by decide) (by decide) (by decide)).mono ?_
  rintro e w4 ⟨q, rfl, hF, hk4⟩
  have HW := Lib.hid (show Wnt S w w4 p q ⟨0, 40, [], 0, 1⟩ w1.heap.size w2.heap.size IA its none 0 [] from
    ⟨hF.less (fun b hb => by
      rcases hb with hb | hb
      · exact hb
      · cases hb), World.ownsRow_nil _ _ _ _, HI3.out.keep (hk4.mono fun _ _ _ => trivial), HZ1.out.1, HZ1.out.2, by have := HZ3.out; have := hk4.size; omega⟩)
  have HBEL := Lib.hid K2.out
  clear hF hk4 HB HI3 K2 HZ3
  generalize w1.heap.size = g0 at HW HZ1
  generalize w2.heap.size = g1 at HW HZ1
  have hcs : (decide (n < 1) = true) ∨ (decide (n < 1) = false ∧ decide (10 < n) = true) ∨ (decide (n < 1) = false ∧ decide (10 < n) = false) := by
    cases decide (n < 1) <;> cases decide (10 < n) <;> simp
  rcases hcs with t1 | ⟨t1, t2⟩ | ⟨t1, t2⟩
  · go_wp2_with fail
    go_ret
    exact ⟨rfl, HW.out.fo.kp.below⟩
  · go_wp2_with fail
    go_ret
    exact ⟨rfl, HW.out.fo.kp.below⟩
  · obtain ⟨n', rfl⟩ : ∃ n' : Nat, n = n' := ⟨n.toNat, by have := of_decide_eq_false t1; omega⟩
    have hnn : 1 ≤ n' ∧ n' ≤ 10 := by have := of_decide_eq_false t1; have := of_decide_eq_false t2; omega
    go_wp2_with fail
    clear t1 t2
    have hnn1 := hnn.1
    have hnn2 := hnn.2
    go_loopw [12, 13] (fun sw i wr => ∃ (j a cw t : Nat) (AW : Option Addr) (want : List It) (E : List FEnt), j ≤ m ∧ i = .int .i64 (j : Int) ∧ sw = .slice AW t cw ∧ Hid (want.length = t) ∧ a ≤ j + 1 ∧ Hid (Wnt S w wr p q ⟨0, 40, E, 0, a⟩ g0 g1 IA its AW cw want) ∧ Hid (WOk S lo hi E want j)) (fun _ i _ => m - (intOf i).toNat)
    case atStart => exact ⟨0, 1, 0, 0, none, [], [], Nat.zero_le _, rfl, rfl, Lib.hid rfl, Nat.le_refl _, HW, Lib.hid WOk.nil⟩
    case round =>
      clear HW
      obtain ⟨j, a, cw, t, AW, want, E, hj, rfl, rfl, HTL, haj, HW, HOK⟩ := hrel
      have htj : t ≤ j := by have := HOK.out.len; rw [HTL.out] at this; exact this
      by_cases hjm : j < m
      · have t1 : decide ((j : Int) < (m : Int)) = true := by simp; omega
        have t1' : decide (j < m) = true := by simp; omega
        have hji : j < its.length := by rw [HM.out]; exact hjm
        obtain ⟨b, f, rfl, -, c0, c1, c2, c3⟩ := HW.out.its j hji
        have HFY := Lib.hid (HFITS.out _ (List.getElem_mem hji))
        have HCELL := Lib.hid (show ∀ wx, ItsAt wx (some ⟨b, f, none⟩) (fun b => g0 ≤ b ∧ b < g1) its → wx.cell? ⟨b, f + j * 4, none⟩ = some (.string its[j].key) ∧ wx.cell? ⟨b, f + j * 4 + 1, none⟩ = some (.string its[j].val) ∧ wx.cell? ⟨b, f + j * 4 + 2, none⟩ = some (.int .i64 its[j].till) ∧ wx.cell? ⟨b, f + j * 4 + 3, none⟩ = some (.bool its[j].gone) from fun wx hx => by
          obtain ⟨b', f', e, -, x0, x1, x2, x3⟩ := hx j hji
          injection e with e
          injection e with e1 e2
          subst e1 e2
          exact ⟨x0, x1, x2, x3⟩)
        generalize its[j] = y at c0 c1 c2 c3 HFY HCELL
        have hcm : (y.may = false ∨ y.gone = true) ∨ (y.may = true ∧ y.gone = false) := by
          cases y.may <;> cases y.gone <;> simp
        rcases hcm with hno | ⟨hym, hyg⟩
        · have HPN := Lib.hid (fo_putNo HT.out HW.out.fo y HFY.out hno)
          clear hno
          go_wp2_with fail
          refine (show Calls _ _ _ _ _ from HPN.out).mono ?_
          rintro e w5 ⟨rfl, hk5, -⟩
          have HW5 := Lib.hid (HW.out.keep hk5)
          have HP5 := Lib.hid HOK.out.pass
          clear hk5 HPN HW c0 c1 c2 c3
          go_wp2_with fail
          go_roundw
          case rel => exact ⟨j + 1, a, cw, t, AW, want, E, by omega, by go_num, rfl, HTL, by omega, HW5, HP5⟩
          case measure => simp [intOf]; omega
        · have HYM := Lib.hid hym
          have HYG := Lib.hid hyg
          have HPT := Lib.hid (wnt_put HT.out HW.out HOK.out (by omega) (by omega) y hym hyg)
          have hksz : y.key.size ≤ 1000000 := by have := It.may_is hym; omega
          clear hym hyg
          go_wp2_with fail
          refine (show Calls _ _ _ _ _ from HPT.out).mono ?_
          rintro e w5 ⟨rfl, hW5⟩
          have HW5 := Lib.hid hW5
          obtain ⟨d0, d1, d2, d3⟩ := HCELL.out w5 hW5.its
          clear hW5 HPT HW c0 c1 c2 c3
          have HOF := Lib.hid (S.rof (w5.alloc (.cells #[.string y.key] 9)) w5.heap.size y.key hksz ((cell_of_block (heap_alloc_new w5 _) 0).trans rfl))
          have hhl := S.hashLt y.key
          go_wp2_with fail
          refine (show Calls _ _ _ _ _ from HOF.out).mono ?_
          rintro e w6 ⟨rfl, hk6⟩
          have hk56 : Kp w5 w6 := ((Keeps.refl _ w5).alloc _).trans hk6
          have HW6 := Lib.hid (HW5.out.keep hk56)
          have HINX := Lib.hid (show InR S lo hi y.key ↔ lo ≤ S.hash y.key ∧ S.hash y.key ≤ hi from Iff.rfl)
          replace d0 := hk56.cell d0 trivial
          replace d1 := hk56.cell d1 trivial
          replace d2 := hk56.cell d2 trivial
          replace d3 := hk56.cell d3 trivial
          clear hk6 hk56 HW5 HOF
          generalize S.hash y.key = hv at HINX hhl ⊢
          have hcr : (hv < lo) ∨ (¬ hv < lo ∧ hi < hv) ∨ (¬ hv < lo ∧ ¬ hi < hv) := by omega
          rcases hcr with r1 | ⟨r1, r2⟩ | ⟨r1, r2⟩
          · have HS := Lib.hid (HOK.out.skip HYM.out HYG.out (fun h => by have := HINX.out.1 h; omega))
            have e1 : decide ((hv : Int) < (lo : Int)) = true := by simp; omega
            have e1' : decide (hv < lo) = true := by simp; omega
            go_wp2_with fail
            go_roundw
            case rel => exact ⟨j + 1, a + 1, cw, t, AW, want, _, by omega, by go_num, rfl, HTL, by omega, HW6, HS⟩
            case measure => simp [intOf]; omega
          · have HS := Lib.hid (HOK.out.skip HYM.out HYG.out (fun h => by have := HINX.out.1 h; omega))
            have e1 : decide ((hv : Int) < (lo : Int)) = false := by simp; omega
            have e1' : decide (hv < lo) = false := by simp; omega
            have e2 : decide ((hi : Int) < (hv : Int)) = true := by simp; omega
            have e2' : decide (hi < hv) = true := by simp; omega
            go_wp2_with fail
            go_roundw
            case rel => exact ⟨j + 1, a + 1, cw, t, AW, want, _, by omega, by go_num, rfl, HTL, by omega, HW6, HS⟩
            case measure => simp [intOf]; omega
          · have HINR := Lib.hid (HINX.out.2 ⟨by omega, by omega⟩)
            have e1 : decide ((hv : Int) < (lo : Int)) = false := by simp; omega
            have e1' : decide (hv < lo) = false := by simp; omega
            have e2 : decide ((hi : Int) < (hv : Int)) = false := by simp; omega
            have e2' : decide (hi < hv) = false := by simp; omega
            go_wp2_with fail
            clear HINX r1 r2 e1 e1' e2 e2' hhl
            obtain ⟨W6, hW6⟩ : ∃ W, W = w6 := ⟨w6, rfl⟩
            have HK6 := Lib.hid (show Kp W6 w6 from by rw [hW6]; exact Keeps.refl _ _)
            have HW6' := Lib.hid (show Wnt S w W6 p q ⟨0, 40, E ++ [fput y], 0, a + 1⟩ g0 g1 (some ⟨b, f, none⟩) its AW cw want from by rw [hW6]; exact HW6.out)
            have HD := Lib.hid (show W6.cell? ⟨b, f + j * 4, none⟩ = some (.string y.key) ∧ W6.cell? ⟨b, f + j * 4 + 1, none⟩ = some (.string y.val) ∧ W6.cell? ⟨b, f + j * 4 + 2, none⟩ = some (.int .i64 y.till) ∧ W6.cell? ⟨b, f + j * 4 + 3, none⟩ = some (.bool y.gone) from by rw [hW6]; exact ⟨d0, d1, d2, d3⟩)
            clear hW6 d0 d1 d2 d3 HW6 HCELL
            go_loopw [15] (fun i wr => ∃ k : Nat, k ≤ t ∧ i = .int .i64 (k : Int) ∧ Hid (∀ u (hu : u < want.length), u < k → lessB want[u].key y.key = true) ∧ Hid (Kp W6 wr)) (fun i _ => t - (intOf i).toNat)
            case atStart => exact ⟨0, Nat.zero_le _, rfl, Lib.hid (fun u _ h => absurd h (by omega)), HK6⟩
            case round =>
              clear HK6
              obtain ⟨k, hk, rfl, HB, HK⟩ := hrel
              have HWr := Lib.hid (HW6'.out.keep HK.out)
              have d0 := HK.out.cell HD.out.1 trivial
              have d1 := HK.out.cell HD.out.2.1 trivial
              have d2 := HK.out.cell HD.out.2.2.1 trivial
              have d3 := HK.out.cell HD.out.2.2.2 trivial
              by_cases hkt : k < t
              · have hkt' : (k : Int) < (t : Int) := by omega
                have hd1 : decide (k < t) = true := by simpa using hkt
                have hd1' : decide ((k : Int) < (t : Int)) = true := by simpa using hkt'
                have hkl : k < want.length := by rw [HTL.out]; exact hkt
                obtain ⟨g, cap, hAe, -, -⟩ := HWr.out.own.form (by omega)
                injection hAe with hAe hA2 hA3
                subst hAe hA3
                obtain ⟨b9, o9, h9, -, x0, x1, x2, x3⟩ := (ItsAt.of_own HWr.out.own rfl) k hkl
                injection h9 with h9
                injection h9 with h9 h10
                subst h9 h10
                rw [Nat.zero_add] at x0 x1 x2 x3
                have HFZ := Lib.hid (show ∀ r, wr.frozen? ⟨g, r, none⟩ = false from fun r => HWr.out.own.frozenAt r)
                have HB2 := Lib.hid (show ∀ _ : lessB want[k].key y.key = true, ∀ u (hu : u < want.length), u < k + 1 → lessB want[u].key y.key = true from fun h u hu huk => by
                  rcases Nat.lt_or_ge u k with h1 | h1
                  · exact HB.out u hu h1
                  · obtain rfl : u = k := by omega
                    exact h)
                have HSET := Lib.hid (show ∀ _ : want[k].key = y.key, WOk S lo hi (E ++ [fput y]) (want.set k y) (j + 1) from fun h => HOK.out.set HYM.out HYG.out HINR.out hkl HB.out h)
                have HINS0 := Lib.hid (show ∀ (_ : lessB want[k].key y.key = false) (_ : want[k].key ≠ y.key), WOk S lo hi (E ++ [fput y]) (want.take k ++ y :: want.drop k) (j + 1) from fun h h2 => HOK.out.ins HYM.out HYG.out HINR.out (Nat.le_of_lt hkl) HB.out (fun _ => h) (fun _ => h2))
                generalize want[k] = u at x0 x1 x2 x3 HB2 HSET HINS0
                cases hless : lessB u.key y.key with
                | true =>
                  have hb : Op.bytesLess u.key.toList y.key.toList = true := by rw [ByteArray.toList_eq, ByteArray.toList_eq]; exact hless
                  have HB3 := Lib.hid (HB2.out hless)
                  clear hless HB2 HSET HINS0
                  go_wp2_with fail
                  go_quiet (fail)
                  go_wp2_with fail
                  go_roundw
                  case rel => exact ⟨k + 1, by omega, by go_num, HB3, Lib.hid (HK.out.drewN _)⟩
                  case measure => simp [intOf]; omega
                | false =>
                  have hb : Op.bytesLess u.key.toList y.key.toList = false := by rw [ByteArray.toList_eq, ByteArray.toList_eq]; exact hless
                  by_cases hue : u.key = y.key
                  · have hne : (u.key.toList == y.key.toList) = true := by rw [hue]; simp
                    have HS8 := Lib.hid (HSET.out hue)
                    clear hless HB2 HSET HINS0 hue
                    go_wp2_with fail
                    go_quiet (fail)
                    go_wp2_with fail
                    have k1 : Kp wr (wr.drewN nq) := (Keeps.refl _ wr).drewN nq
                    have HW3 := Lib.hid (HWr.out.keep k1)
                    replace d0 := k1.cell d0 trivial
                    replace d1 := k1.cell d1 trivial
                    replace d2 := k1.cell d2 trivial
                    replace d3 := k1.cell d3 trivial
                    replace x0 := k1.cell x0 trivial
                    replace x1 := k1.cell x1 trivial
                    replace x2 := k1.cell x2 trivial
                    replace x3 := k1.cell x3 trivial
                    replace HFZ := Lib.hid (show ∀ r, (wr.drewN nq).frozen? ⟨g, r, none⟩ = false from fun r => (HW3.out.own).frozenAt r)
                    clear HWr HK k1
                    generalize wr.drewN nq = w1 at *
                    go_quiet (fail)
                    have k2 : Kp w1 (w1.drewN nq) := (Keeps.refl _ w1).drewN nq
                    have HW4 := Lib.hid (HW3.out.keep k2)
                    replace d0 := k2.cell d0 trivial
                    replace d1 := k2.cell d1 trivial
                    replace d2 := k2.cell d2 trivial
                    replace d3 := k2.cell d3 trivial
                    replace x0 := k2.cell x0 trivial
                    replace x1 := k2.cell x1 trivial
                    replace x2 := k2.cell x2 trivial
                    replace x3 := k2.cell x3 trivial
                    have f0 := HW4.out.own.frozenAt (k * 4)
                    have f1 := HW4.out.own.frozenAt (k * 4 + 1)
                    have f2 := HW4.out.own.frozenAt (k * 4 + 2)
                    have f3 := HW4.out.own.frozenAt (k * 4 + 3)
                    clear HW3 k2 HFZ
                    generalize w1.drewN nq = w2 at *
                    go_wp2_with fail
                    exact ⟨⟨j + 1, a + 1, cw, t, some ⟨g, 0, none⟩, want.set k y, _, by omega, by go_num, rfl, Lib.hid (by rw [List.length_set]; exact HTL.out), by omega, Lib.hid (HW4.out.store (by rw [HTL.out]; exact hkt) y), HS8⟩, by simp [intOf]; omega⟩
                  · have hne : (u.key.toList == y.key.toList) = false := by rw [str_same]; exact decide_eq_false hue
                    have HINS := Lib.hid (HINS0.out hless hue)
                    clear hless HB2 HSET HINS0 hue HFZ
                    go_wp2_with fail
                    go_quiet (fail)
                    go_wp2_with fail
                    have k1 : Kp wr (wr.drewN nq) := (Keeps.refl _ wr).drewN nq
                    have HW3 := Lib.hid (HWr.out.keep k1)
                    replace d0 := k1.cell d0 trivial
                    replace d1 := k1.cell d1 trivial
                    replace d2 := k1.cell d2 trivial
                    replace d3 := k1.cell d3 trivial
                    replace x0 := k1.cell x0 trivial
                    replace x1 := k1.cell x1 trivial
                    replace x2 := k1.cell x2 trivial
                    replace x3 := k1.cell x3 trivial
                    clear HWr HK k1
                    generalize wr.drewN nq = w1 at *
                    go_quiet (fail)
                    go_wp2_with fail
                    have k2 : Kp w1 (w1.drewN nq) := (Keeps.refl _ w1).drewN nq
                    have HW4 := Lib.hid (HW3.out.keep k2)
                    have HC0 := Lib.hid (k2.cell d0 trivial)
                    have HC1 := Lib.hid (k2.cell d1 trivial)
                    have HC2 := Lib.hid (k2.cell d2 trivial)
                    have HC3 := Lib.hid (k2.cell d3 trivial)
                    replace x0 := k2.cell x0 trivial
                    replace x1 := k2.cell x1 trivial
                    replace x2 := k2.cell x2 trivial
                    replace x3 := k2.cell x3 trivial
                    clear HW3 k2 d0 d1 d2 d3
                    generalize w1.drewN nq = w2 at *
                    clear x0 x1 x2 x3
                    have hn4 := HW4.out.own
                    rw [HTL.out] at hn4
                    have HN4 := Lib.hid hn4
                    clear hn4
                    have hcap := own_any4 HN4.out
                    have HCAP := Lib.hid hcap
                    clear hcap
                    refine wp_region_guard (R := Kp) (V := VB g1 w2.heap.size t cw k j (some ⟨g, 0, none⟩) (some ⟨b, f, none⟩) m ic b f want y) (w0 := w2) (fun _ => none) (by kernel_rfl) (fun w => Keeps.refl _ w) (fun _ _ _ h k => h.trans k) (fun i w w' v h hv => VB_keep i w w' v h hv) (by kernel_rfl) (fun g c h => by cases h) (fun i o ho hw => (all_wanted (by kernel_rfl) ho hw).elim) ((Keeps.refl _ w2).drew) (each_of ?_) ?_
                    · refine ⟨?_, ?_, ?_, ?_, ?_, ?_, ?_, ?_, ?_, ?_, ?_, ?_, ?_, ?_, ?_, trivial⟩ <;> intro hw a1 w3 L
                      · exact kp_move rfl (L.old 12 (by kernel_rfl))
                      · exact kp_move rfl (L.old 15 (by kernel_rfl))
                      · exact kp_move rfl (L.old 15 (by kernel_rfl))
                      · exact kp_firstI (n := t) (c := cw) (k := k) (by omega) HCAP.out.1 HCAP.out.2.1 HCAP.out.2.2 rfl (L.val 0 112 (by kernel_rfl) (by kernel_rfl)) (L.val 1 113 (by kernel_rfl) (by kernel_rfl)) (L.val 2 114 (by kernel_rfl) (by kernel_rfl))
                      · exact kp_move rfl (L.old 0 (by kernel_rfl))
                      · exact kp_move rfl (L.old 13 (by kernel_rfl))
                      · exact kp_atI (n := m) (c := ic) (i := j) hjm rfl (L.val 4 116 (by kernel_rfl) (by kernel_rfl)) (L.val 5 117 (by kernel_rfl) (by kernel_rfl))
                      · exact kp_loadI (L.rel.cell HC0.out trivial) (L.rel.cell HC1.out trivial) (L.rel.cell HC2.out trivial) (L.rel.cell HC3.out trivial) rfl (L.val 6 118 (by kernel_rfl) (by kernel_rfl))
                      · exact kp_oneI (Nat.le_trans HW4.out.hi L.rel.size) rfl (L.val 7 119 (by kernel_rfl) (by kernel_rfl))
                      · exact kp_move rfl (L.old 12 (by kernel_rfl))
                      · exact kp_move rfl (L.old 15 (by kernel_rfl))
                      · exact kp_restI (n := t) (c := cw) (k := k) (by omega) HCAP.out.1 HCAP.out.2.1 HCAP.out.2.2 rfl (L.val 9 121 (by kernel_rfl) (by kernel_rfl)) (L.val 10 122 (by kernel_rfl) (by kernel_rfl))
                      · have hr : Row w2 (cutI (some ⟨g, 0, none⟩) k cw) (fun _ => True) (itCells (want.drop k)) := (row_cut4 (own_rowany HN4.out HTL.out.symm) (by rw [HTL.out]; omega) (by rw [HTL.out]; exact HCAP.out.1)).mono fun _ _ _ => trivial
                        exact kp_app_inI (Nat.le_trans HW4.out.hi L.rel.size) (m := t - k) (by rw [List.length_drop, HTL.out]) (by omega) rfl (L.val 8 120 (by kernel_rfl) (by kernel_rfl)) (L.val 11 123 (by kernel_rfl) (by kernel_rfl)) (hr.keep L.rel)
                      · have ho : OwnLe w2 g1 35 4 (.slice (some ⟨g, 0, none⟩) k k) k (itCells (want.take k)) := own_first4 HN4.out HTL.out.symm (by omega)
                        exact kp_app_outI (W := w2.heap.size) L.rel.size (m := 1 + (t - k)) (by rw [List.length_cons, List.length_drop, HTL.out]; omega) (by omega) (by omega) (k := k) (by rw [List.length_take, HTL.out]; omega) (by omega) rfl (L.val 3 115 (by kernel_rfl) (by kernel_rfl)) (ho.keep L.rel fun _ _ => trivial) (L.val 12 124 (by kernel_rfl) (by kernel_rfl))
                      · exact kp_passI (V := fun w4 v => w4.ownsRow w2.heap.size 35 4 v (k + (1 + (t - k))) (itCells (want.take k ++ y :: want.drop k))) rfl (L.val 13 125 (by kernel_rfl) (by kernel_rfl))
                    · intro vs w8 hk8 hlen hv
                      have hv14 := hv 14 12 (by kernel_rfl)
                      match vs, hlen with
                      | [v0, v1, v2, v3, v4, v5, v6, v7, v8, v9, v10, v11, v12, v13, v14], _ =>
                        have h14 : w8.ownsRow w2.heap.size 35 4 v14 (k + (1 + (t - k))) (itCells (want.take k ++ y :: want.drop k)) := hv14
                        have hwl : (want.take k ++ y :: want.drop k).length = k + (1 + (t - k)) := by simp only [List.length_append, List.length_take, List.length_cons, List.length_drop, HTL.out]; omega
                        rw [show k + (1 + (t - k)) = t + 1 by omega] at h14 hwl
                        obtain ⟨A8, c8, rfl⟩ := own_form9 h14
                        have HW8 := Lib.hid (Wnt.fresh (want' := want.take k ++ y :: want.drop k) (A' := A8) (c' := c8) HW4.out hk8 (by rw [hwl]; exact h14))
                        have HL8 := Lib.hid hwl
                        clear hv hv14 h14 hk8 hwl HC0 HC1 HC2 HC3 HCAP HN4
                        simp only [putAll, List.map, Act.put, List.setIfInBounds_toArray, List.set_cons_succ, List.set_cons_zero, Exit.then]
                        go_wp2_with fail
                        go_roundw
                        case rel => exact ⟨j + 1, a + 1, c8, t + 1, A8, _, _, by omega, by go_num, rfl, HL8, by omega, HW8, HINS⟩
                        case measure => simp [intOf]; omega
              · obtain rfl : t = k := by omega
                have hkt' : ¬ (t : Int) < (t : Int) := by omega
                have HINS := Lib.hid (HOK.out.ins HYM.out HYG.out HINR.out (k := t) (by rw [HTL.out]; exact Nat.le_refl _) HB.out (fun h => absurd h (by rw [HTL.out]; omega)) (fun h => absurd h (by rw [HTL.out]; omega)))
                go_wp2_with fail
                go_quiet (fail)
                go_wp2_with fail
                have k1 : Kp wr (wr.drewN nq) := (Keeps.refl _ wr).drewN nq
                have HW3 := Lib.hid (HWr.out.keep k1)
                replace d0 := k1.cell d0 trivial
                replace d1 := k1.cell d1 trivial
                replace d2 := k1.cell d2 trivial
                replace d3 := k1.cell d3 trivial
                clear HWr HK k1
                generalize wr.drewN nq = w1 at *
                go_quiet (fail)
                go_wp2_with fail
                have k2 : Kp w1 (w1.drewN nq) := (Keeps.refl _ w1).drewN nq
                have HW4 := Lib.hid (HW3.out.keep k2)
                have HC0 := Lib.hid (k2.cell d0 trivial)
                have HC1 := Lib.hid (k2.cell d1 trivial)
                have HC2 := Lib.hid (k2.cell d2 trivial)
                have HC3 := Lib.hid (k2.cell d3 trivial)
                clear HW3 k2 d0 d1 d2 d3
                generalize w1.drewN nq = w2 at *
                have hn4 := HW4.out.own
                rw [HTL.out] at hn4
                have HN4 := Lib.hid hn4
                clear hn4
                have hcap := own_any4 HN4.out
                have HCAP := Lib.hid hcap
                clear hcap
                refine wp_region_guard (R := Kp) (V := VB g1 w2.heap.size t cw t j AW (some ⟨b, f, none⟩) m ic b f want y) (w0 := w2) (fun _ => none) (by kernel_rfl) (fun w => Keeps.refl _ w) (fun _ _ _ h t => h.trans t) (fun i w w' v h hv => VB_keep i w w' v h hv) (by kernel_rfl) (fun g c h => by cases h) (fun i o ho hw => (all_wanted (by kernel_rfl) ho hw).elim) ((Keeps.refl _ w2).drew) (each_of ?_) ?_
                · refine ⟨?_, ?_, ?_, ?_, ?_, ?_, ?_, ?_, ?_, ?_, ?_, ?_, ?_, ?_, ?_, trivial⟩ <;> intro hw a1 w3 L
                  · exact kp_move rfl (L.old 12 (by kernel_rfl))
                  · exact kp_move rfl (L.old 15 (by kernel_rfl))
                  · exact kp_move rfl (L.old 15 (by kernel_rfl))
                  · exact kp_firstI (n := t) (c := cw) (k := t) (by omega) HCAP.out.1 HCAP.out.2.1 HCAP.out.2.2 rfl (L.val 0 112 (by kernel_rfl) (by kernel_rfl)) (L.val 1 113 (by kernel_rfl) (by kernel_rfl)) (L.val 2 114 (by kernel_rfl) (by kernel_rfl))
                  · exact kp_move rfl (L.old 0 (by kernel_rfl))
                  · exact kp_move rfl (L.old 13 (by kernel_rfl))
                  · exact kp_atI (n := m) (c := ic) (i := j) hjm rfl (L.val 4 116 (by kernel_rfl) (by kernel_rfl)) (L.val 5 117 (by kernel_rfl) (by kernel_rfl))
                  · exact kp_loadI (L.rel.cell HC0.out trivial) (L.rel.cell HC1.out trivial) (L.rel.cell HC2.out trivial) (L.rel.cell HC3.out trivial) rfl (L.val 6 118 (by kernel_rfl) (by kernel_rfl))
                  · exact kp_oneI (Nat.le_trans HW4.out.hi L.rel.size) rfl (L.val 7 119 (by kernel_rfl) (by kernel_rfl))
                  · exact kp_move rfl (L.old 12 (by kernel_rfl))
                  · exact kp_move rfl (L.old 15 (by kernel_rfl))
                  · exact kp_restI (n := t) (c := cw) (k := t) (by omega) HCAP.out.1 HCAP.out.2.1 HCAP.out.2.2 rfl (L.val 9 121 (by kernel_rfl) (by kernel_rfl)) (L.val 10 122 (by kernel_rfl) (by kernel_rfl))
                  · have hr : Row w2 (cutI AW t cw) (fun _ => True) (itCells (want.drop t)) := (row_cut4 (own_rowany HN4.out HTL.out.symm) (by rw [HTL.out]; omega) (by rw [HTL.out]; exact HCAP.out.1)).mono fun _ _ _ => trivial
                    exact kp_app_inI (Nat.le_trans HW4.out.hi L.rel.size) (m := t - t) (by rw [List.length_drop, HTL.out]) (by omega) rfl (L.val 8 120 (by kernel_rfl) (by kernel_rfl)) (L.val 11 123 (by kernel_rfl) (by kernel_rfl)) (hr.keep L.rel)
                  · have ho : OwnLe w2 g1 35 4 (.slice AW t t) t (itCells (want.take t)) := own_first4 HN4.out HTL.out.symm (by omega)
                    exact kp_app_outI (W := w2.heap.size) L.rel.size (m := 1 + (t - t)) (by rw [List.length_cons, List.length_drop, HTL.out]; omega) (by omega) (by omega) (k := t) (by rw [List.length_take, HTL.out]; omega) (by omega) rfl (L.val 3 115 (by kernel_rfl) (by kernel_rfl)) (ho.keep L.rel fun _ _ => trivial) (L.val 12 124 (by kernel_rfl) (by kernel_rfl))
                  · exact kp_passI (V := fun w4 v => w4.ownsRow w2.heap.size 35 4 v (t + (1 + (t - t))) (itCells (want.take t ++ y :: want.drop t))) rfl (L.val 13 125 (by kernel_rfl) (by kernel_rfl))
                · intro vs w8 hk8 hlen hv
                  have hv14 := hv 14 12 (by kernel_rfl)
                  match vs, hlen with
                  | [v0, v1, v2, v3, v4, v5, v6, v7, v8, v9, v10, v11, v12, v13, v14], _ =>
                    have h14 : w8.ownsRow w2.heap.size 35 4 v14 (t + (1 + (t - t))) (itCells (want.take t ++ y :: want.drop t)) := hv14
                    have hwl : (want.take t ++ y :: want.drop t).length = t + (1 + (t - t)) := by simp only [List.length_append, List.length_take, List.length_cons, List.length_drop, HTL.out]; omega
                    rw [show t + (1 + (t - t)) = t + 1 by omega] at h14 hwl
                    obtain ⟨A8, c8, rfl⟩ := own_form9 h14
                    have HW8 := Lib.hid (Wnt.fresh (want' := want.take t ++ y :: want.drop t) (A' := A8) (c' := c8) HW4.out hk8 (by rw [hwl]; exact h14))
                    have HL8 := Lib.hid hwl
                    clear hv hv14 h14 hk8 hwl HC0 HC1 HC2 HC3 HCAP HN4
                    simp only [putAll, List.map, Act.put, List.setIfInBounds_toArray, List.set_cons_succ, List.set_cons_zero, Exit.then]
                    go_wp2_with fail
                    go_roundw
                    case rel => exact ⟨j + 1, a + 1, c8, t + 1, A8, _, _, by omega, by go_num, rfl, HL8, by omega, HW8, HINS⟩
                    case measure => simp [intOf]; omega
      · have t1 : decide ((j : Int) < (m : Int)) = false := by simp; omega
        have t1' : decide (j < m) = false := by simp; omega
        have HFIN := Lib.hid (show ∀ x ∈ want, x.fits ∧ x.key.size ≤ 40 ∧ x.key ≠ ⟨#[]⟩ from fun x hx => by
          have h := look_may HOK.out hx
          have h2 := It.may_is h
          exact ⟨It.may_fits h, by omega, fun e => by rw [e] at h2; exact absurd h2.1 (by decide)⟩)
        have HWN := Lib.hid HOK.out.is
        have HRS := Lib.hid HOK.out.rise
        have ht8 : t ≤ 8 := by omega
        have HW7 := Lib.hid HW.out
        clear hjm HOK HW HFITS HM htj haj
        go_wp2_with fail
        clear t1 t1'
        obtain ⟨w7, hw7⟩ : ∃ w7, w7 = wr := ⟨wr, rfl⟩
        have HK7 := Lib.hid (show Kp w7 wr from by rw [hw7]; exact Keeps.refl _ _)
        have HW8 := Lib.hid (show Wnt S w w7 p q ⟨0, 40, E, 0, a⟩ g0 g1 IA its AW cw want from by rw [hw7]; exact HW7.out)
        clear hw7 HW7
        go_loopw [16, 17] (fun sg af wx => ∃ (got rest : List It) (cg tg : Nat) (AG : Option Addr) (after : ByteArray), sg = .slice AG tg cg ∧ af = .string after ∧ Hid (got.length = tg) ∧ tg ≤ 8 ∧ Hid (want = got ++ rest) ∧ Hid (wx.ownsRow w7.heap.size 35 4 (.slice AG tg cg) tg (itCells got)) ∧ Hid (Kp w7 wx) ∧ Hid ((got = [] ∧ after = ⟨#[]⟩ ∧ ∀ x ∈ want, x.key ≠ ⟨#[]⟩) ∨ ∃ y, got.getLast? = some y ∧ after = y.key) ∧ after.size ≤ 1000000) (fun sg _ _ => match sg with | .slice _ n _ => 9 - n | _ => 0)
        case atStart => exact ⟨[], want, 0, 0, none, ⟨#[]⟩, rfl, rfl, Lib.hid rfl, Nat.zero_le _, Lib.hid rfl, Lib.hid (World.ownsRow_nil _ _ _ _), HK7, Lib.hid (.inl ⟨rfl, rfl, fun x hx => (HFIN.out x hx).2.2⟩), by show 0 ≤ 1000000; decide⟩
        case round =>
          clear HK7
          obtain ⟨got, rest, cg, tg, AG, after, rfl, rfl, HTG, htg, HGR, HOG, HKX, HAF, haz⟩ := hrel
          have HWX := Lib.hid (HW8.out.keep HKX.out)
          have HBT := Lib.hid (fo_between HT.out HWX.out.fo lo hi after n' (n' : Int) rfl hlo hhi haz (by omega))
          go_wp2_with fail
          refine (show Calls _ _ _ _ _ from HBT.out).mono ?_
          rintro e w9 ⟨B, k, l9, all, rfl, hl9, hris, hmem, hlk, hkm, hits, hk9, -⟩
          have hall : all = rest := rest_is HGR.out HRS.out (riseK_iff.1 hris) (fun x => by
            rw [hmem x, HWN.out x]
            constructor
            · rintro ⟨h1, h2, h3, h4⟩
              exact ⟨⟨h1, h2, h3⟩, h4⟩
            · rintro ⟨⟨h1, h2, h3⟩, h4⟩
              exact ⟨h1, h2, h3, h4⟩) HAF.out
          subst hall
          have hrl : tg + all.length ≤ 8 := by
            have h1 := congrArg List.length HGR.out
            rw [List.length_append, HTG.out, HTL.out] at h1
            omega
          have HK9 := Lib.hid (HKX.out.trans hk9)
          have HOG9 := Lib.hid (hk9.own HOG.out fun _ _ => trivial)
          have HOB := Lib.hid (show ∀ b, (Value.slice AG tg cg).ownBlock = some b → b < wr.heap.size from fun b hb => (HOG.out.lt b hb).2)
          have hl9l : l9.length = min n' all.length := by rw [hl9, List.length_take]
          have HL9 := Lib.hid hl9
          have HI9 := Lib.hid hits
          have HLS := Lib.hid hk9.size
          have HWK := Lib.hid (HWX.out.keep hk9)
          obtain ⟨z, hz⟩ : ∃ z, l9.length = z := ⟨_, rfl⟩
          have HZ := Lib.hid hz
          rw [hz] at hl9l hlk ⊢
          have u1 : decide ((n' : Int) < (z : Int)) = false := by simp; omega
          have u1' : decide (n' < z) = false := by simp; omega
          have u2 : decide ((20 : Int) < (tg : Int)) = false := by simp; omega
          have hkm2 : k ≤ 9223372036854775807 := by unfold maxLen at hkm; omega
          clear hl9 hris hmem hits hk9 hz HBT HWX HOG HKX hkm
          by_cases hzz : z = 0
          · have hrest : all = [] := by
              refine List.eq_nil_of_length_eq_zero ?_
              omega
            have HEQ := Lib.hid (show got = want from by rw [HGR.out, hrest, List.append_nil])
            have u3 : ((z : Int) == 0) = true := by simp; omega
            have HRQ := Lib.hid (show Calls Tryz.prog 26 #[.slice AG tg cg, .slice AW t cw] w9 fun e w' => e = .returned (.bool true) ∧ Keeps (fun _ => True) w9 w' from by
              have h1 := HOG9.out
              have h2 := HWK.out.own
              rw [HTL.out] at h2
              have c1 := own_any4 h1
              have c2 := own_any4 h2
              have h := reqItems w9 AG AW cg cw got want ((ItsAt.of_own h1 HTG.out.symm).mono fun b _ hb => hb.2) ((ItsAt.of_own h2 HTL.out.symm).mono fun b _ hb => hb.2) (by rw [HTG.out]; exact c1.1) (by rw [HTL.out]; exact c2.1) (by unfold maxLen; omega) (by unfold maxLen; omega) (fun x hx => (HFIN.out x (by rw [← HEQ.out]; exact hx)).1) (fun x hx => (HFIN.out x hx).1) true (by rw [HEQ.out]; simp)
              rw [HTG.out, HTL.out] at h
              exact h)
            have HBB := Lib.hid (HW8.out.fo.kp.trans HK9.out)
            clear hrest hzz hl9l
            go_wp2_with fail
            refine (show Calls _ _ _ _ _ from HRQ.out).mono ?_
            rintro e w10 ⟨rfl, hk10⟩
            have HE := Lib.hid (HBB.out.trans hk10)
            clear hk10
            go_wp2_with fail
            go_ret
            exact ⟨rfl, HE.out.below⟩
          · have u3 : ((z : Int) == 0) = false := by simp; omega
            obtain ⟨z1, rfl⟩ : ∃ z1, z = z1 + 1 := ⟨z - 1, by omega⟩
            have hzl : z1 < l9.length := by rw [HZ.out]; exact Nat.lt_succ_self _
            obtain ⟨b9, o9, rfl, hbg, x0, -⟩ := HI9.out z1 hzl
            have hsrc := row_src4 (its_row HI9.out) (by rw [HZ.out]; exact Nat.succ_pos _) (c := k)
            rw [HZ.out] at hsrc
            have HSRC := Lib.hid hsrc
            have hgz := HK9.out.size
            have HLAST := Lib.hid (show l9.getLast? = some l9[z1] from by
              rw [List.getLast?_eq_getElem?, HZ.out, Nat.add_sub_cancel, List.getElem?_eq_getElem hzl])
            have HMEML := Lib.hid (show l9[z1].key.size ≤ 40 from by
              have h1 : ∀ x ∈ l9, x ∈ want := fun x hx => by
                rw [HGR.out]
                refine List.mem_append_right _ ?_
                rw [HL9.out] at hx
                exact List.mem_of_mem_take hx
              exact (HFIN.out _ (h1 _ (List.getElem_mem hzl))).2.1)
            generalize l9[z1] = yl at x0 HLAST HMEML
            have v1 : decide ((n' : Int) < (z1 : Int) + 1) = false := by simp; omega
            have v2 : decide (n' < z1 + 1) = false := by simp; omega
            have v3 : ((z1 : Int) + 1 == 0) = false := by simp; omega
            have hzn : z1 + 1 ≤ 8 := by omega
            clear hsrc hzl u1 u1' u3 hzz hl9l
            go_wp2_with (at_builtin; refine item_elem.list_append rfl (.tmp 144) (.tmp 145) _ rfl rfl HOG9.out rfl HSRC.out ?c3 ?c4 ?c5 ?_)
            case c3 => unfold maxLen; omega
            case c4 => omega
            case c5 => omega
            intro v3 w10 ho hg hb10
            have hkg : Keeps (fun b => (Value.slice AG tg cg).ownBlock ≠ some b) w9 w10 := Keeps.of_grown hg fun b e _ hn => hn e
            have y0 := hkg.cell x0 (fun e => by have := HOB.out b9 e; omega)
            have HK10 := Lib.hid (show Kp w7 w10 from HK9.out.grown hg fun j hj => (HOG9.out.lt j hj).1)
            obtain ⟨A3, c3, rfl⟩ := own_form9 ho
            have HO10 := Lib.hid (show w10.ownsRow w7.heap.size 35 4 (.slice A3 (tg + (z1 + 1)) c3) (tg + (z1 + 1)) (itCells (got ++ l9)) from by rw [itC_app]; exact ho)
            have HLG := Lib.hid (show (got ++ l9).length = tg + (z1 + 1) from by rw [List.length_append, HTG.out, HZ.out])
            have HWG := Lib.hid (show want = (got ++ l9) ++ all.drop n' from by rw [List.append_assoc, HL9.out, List.take_append_drop]; exact HGR.out)
            have HLL := Lib.hid (show (got ++ l9).getLast? = some yl from by rw [List.getLast?_append, HLAST.out]; rfl)
            have HYZ := Lib.hid (show yl.key.size ≤ 1000000 from by have := HMEML.out; omega)
            have htz : tg + (z1 + 1) ≤ 8 := by
              have h1 := congrArg List.length HWG.out
              rw [List.length_append, HLG.out, HTL.out] at h1
              omega
            clear hkg x0 ho hg hb10 HSRC HOG9 HK9 HOB HLAST HMEML v1 v2 v3
            go_wp2_with fail
            go_roundw
            case rel => exact ⟨got ++ l9, all.drop n', c3, tg + (z1 + 1), A3, yl.key, rfl, rfl, HLG, htz, HWG, HO10, HK10, Lib.hid (.inr ⟨yl, HLL.out, rfl⟩), HYZ.out⟩
            case measure => show 9 - (tg + (z1 + 1)) < 9 - tg; omega
end Go.Proofs.YtoepgbpmcjnbmaaGreatDoor.flashBetween
