/-
  THE WALK OF TokenKeys, however rights are kept.
-/
import Derived.Test.YtoegdfiehjabjaaTkBegun
import Derived.Test.YtoegdfiehjabjaaTkKeys
import Derived.Deep.CutRange
namespace Go.Proofs.Ytoegdfiehjabjaa.tokenKeys
open Go Go.RowKit Go.Joins

set_option maxRecDepth 100000 in
set_option maxHeartbeats 4000000 in
theorem walk (S : TokensOK) (w : World) (hT : S.T w) (nz : Int) (A : Option Addr) (c : Nat) (l : List Int) (_h1 : l.length ≤ c) (_h2 : c ≤ maxLen) (hr : Row w A (fun b => b < w.heap.size) (l.map (Value.int .i64))) : Calls Try.prog 6 #[.int .i64 nz, .slice A l.length c] w fun e w' => e = .returned (.bool true) ∧ Below w.heap.size w w' := by
  have HT := Lib.hid hT
  have HR := Lib.hid hr
  unfold maxLen at _h2
  clear hT hr
  go_enter Try.func6, Try.ntmps6
  go_wp2_with fail
  refine (begun18 S w HT.out).mono ?_
  rintro e w1 ⟨rfl, hk⟩
  have HK1 := Lib.hid hk
  clear hk
  have hcs : decide (nz < 0) = true ∨ decide (nz < 0) = false ∧ (decide ((20 : Int) < nz) = true ∨ decide ((20 : Int) < nz) = false) := by
    cases decide (nz < 0) <;> cases decide ((20 : Int) < nz) <;> simp
  rcases hcs with t0 | ⟨t0, t1 | t1⟩
  rotate_right 1
  · obtain ⟨n, rfl⟩ : ∃ n : Nat, nz = (n : Int) := ⟨nz.toNat, by simp at t0; omega⟩
    have hn : n ≤ 20 := by simp at t1; omega
    go_wp2_with fail
    refine (show Calls _ _ _ _ _ from S.new w w1 HT.out HK1.out).mono ?_
    rintro e w2 ⟨t, F, rfl, h, -, -⟩
    have HA := Lib.hid h
    clear h HK1
    go_wp2_with fail
    go_loopw [7] (fun v7 wr => ∃ (i : Nat) (F : Nat → Prop), i ≤ n ∧ v7 = .int .i64 (i : Int) ∧ Hid (S.At w wr t F (mkT i (keysF noneD 0)))) (fun v _ => n - (intOf v).toNat)
    case atStart => exact ⟨0, F, Nat.zero_le _, rfl, HA⟩
    case round =>
      clear HA
      obtain ⟨i, F, hi, rfl, HA⟩ := hrel
      by_cases hl : i < n
      · have hl' : (i : Int) < (n : Int) := by omega
        obtain ⟨r, hr⟩ : ∃ r, i % 5 = r := ⟨_, rfl⟩
        have hr5 : r < 5 := by omega
        have e1 : (i : Int).tmod 5 = (r : Int) := by rw [Int.tmod_eq_emod_of_nonneg (by omega)]; omega
        have e2 : (i : Int) % 5 = (r : Int) := by omega
        have hwr : IntKind.u8.wrap (97 + (r : Int)) = 97 + (r : Int) := by rw [IntKind.wrap_u8]; omega
        have HCV := Lib.hid (fun (W : World) (g : Nat) (hg : g = W.heap.size) => keyT_conv W g hg r hr5 (97 + (r : Int)) rfl)
        have HG := Lib.hid (S.give w _ t F _ (keyT r) HT.out (S.atK HA.out ((Keeps.refl (fun _ => True) wr).alloc (.cells #[.int .u8 (97 + (r : Int))] 5))) (by rw [mkT_len]; omega) (keyT_size r))
        have HE := Lib.hid (keys_give i)
        rw [hr] at HE
        rw [mkT_len] at HG
        clear HA hr
        go_wp2_with (rw [HCV.out _ _ rfl])
        refine (show Calls _ _ _ _ _ from HG.out).mono ?_
        rintro e w4 ⟨rfl, F4, h, -, -⟩
        have HA4 := Lib.hid (show S.At w w4 t F4 (mkT (i + 1) (keysF noneD 0)) from by rw [← HE.out]; exact h)
        clear h HG HE HCV e1 e2 hwr
        go_wp2_with fail
        go_roundw
        case rel => exact ⟨i + 1, F4, by omega, by go_num, HA4⟩
        case measure => simp [intOf]; omega
      · obtain rfl : i = n := by omega
        go_upto_region 12 with fail
        have HB := Lib.hid (show BBlk (wr.alloc (.cells #[.bool false, .bool false, .bool false, .bool false, .bool false] 45)) wr.heap.size (deadR []) from heap_alloc_new wr _)
        have HA2 := Lib.hid (S.atK HA.out ((Keeps.refl (fun _ => True) wr).alloc (.cells #[.bool false, .bool false, .bool false, .bool false, .bool false] 45)))
        have HFt := Lib.hid (show ∀ b, F b → b < wr.heap.size from fun b hb => ((S.atIn HA.out).2 b hb).2)
        have HWr := Lib.hid (show w.heap.size ≤ wr.heap.size from (S.atIn HA.out).1.size)
        have hB2 : (wr.alloc (.cells #[.bool false, .bool false, .bool false, .bool false, .bool false] 45)).heap.size = wr.heap.size + 1 := by simp
        obtain ⟨g, hg⟩ : ∃ g, wr.heap.size = g := ⟨_, rfl⟩
        rw [hg] at HB HFt hB2 HWr ⊢
        generalize World.alloc wr _ = w5 at HB HA2 hB2 ⊢
        have HB2 := Lib.hid hB2
        clear HA hg hB2
        go_wp2_with fail
        go_loopw [9, 10] (fun v9 v10 wr => ∃ (k : Nat) (rs : List Nat), k ≤ l.length ∧ k ≤ 5 ∧ v10 = .int .i64 (k : Int) ∧ rs.length = k ∧ (∃ A c, v9 = .slice A k c) ∧ Hid (wr.ownsRow (g + 1) 9 1 v9 k ((rs.map keyT).map Value.string)) ∧ Hid (∀ r ∈ rs, r < 5) ∧ Hid (BBlk wr g (deadR rs)) ∧ Hid (S.At w wr t F (mkT i (keysF noneD 0))) ∧ Hid (g + 1 ≤ wr.heap.size)) (fun _ v _ => 5 - (intOf v).toNat)
        case atStart => exact ⟨0, [], Nat.zero_le _, Nat.zero_le _, rfl, rfl, ⟨none, 0, rfl⟩, Lib.hid (World.ownsRow_nil _ _ _ _), Lib.hid (by simp), HB, HA2, Lib.hid (by have := HB2.out; omega)⟩
        case round =>
          clear HB HA2 HB2
          obtain ⟨k, rs, hk, hk5, rfl, hrs, ⟨A9, c9, rfl⟩, HO, HRS, HB, HA, HGW⟩ := hrel
          have hc2 : (k < l.length ∧ k < 5) ∨ (k < l.length ∧ ¬ k < 5) ∨ ¬ k < l.length := by omega
          rcases hc2 with ⟨t1, t2⟩ | ⟨t1, t2⟩ | t1
          case inl =>
            have t1' : (k : Int) < (l.length : Int) := by omega
            have t2' : (k : Int) < 5 := by omega
            have HKW := Lib.hid (S.atIn HA.out).1
            obtain ⟨b, o, rfl, -, hcell⟩ := (HR.out.keep (HKW.out.mono fun _ _ _ => trivial)).at_ (k := k) (by rw [List.length_map]; exact t1)
            rw [List.getElem_map] at hcell
            generalize l[k] = x at hcell
            obtain ⟨y, r, e1, y1, y2, e2, hr5⟩ := turn5 x
            have hwr : IntKind.u8.wrap (97 + (r : Int)) = 97 + (r : Int) := by rw [IntKind.wrap_u8]; omega
            have b0 := HB.out.at_ r hr5
            have f0 := HB.out.fz r
            have hset := HB.out.set r hr5 (deadR (rs ++ [r])) (fun s => deadR_snoc rs r s)
            have kk1 : Keeps (fun b => b ≠ g) wr (wr.setCell ⟨g, r, none⟩ (.bool true)) := (Keeps.refl (fun b => b ≠ g) wr).setCell (p := ⟨g, r, none⟩) (.inr fun h => h rfl) _
            have HGS := Lib.hid (show (wr.setCell ⟨g, r, none⟩ (.bool true)).heap.size = wr.heap.size from by simp [World.setCell])
            have HCV := Lib.hid (fun (W : World) (g : Nat) (hg : g = W.heap.size) => keyT_conv W g hg r hr5 (97 + (r : Int)) rfl)
            have kk2 : Keeps (fun b => b ≠ g) wr (((wr.setCell ⟨g, r, none⟩ (.bool true)).alloc (.cells #[.int .u8 (97 + (r : Int))] 5)).alloc (.cells #[.string (keyT r)] 9)) := (kk1.alloc _).alloc _
            have HROW := Lib.hid (kk2.own HO.out fun b hb => by have := (HO.out.lt b hb).1; omega)
            have HSRC := Lib.hid (tksrc ((wr.setCell ⟨g, r, none⟩ (.bool true)).alloc (.cells #[.int .u8 (97 + (r : Int))] 5)) (wr.heap.size + 1) (by simp [HGS.out]) (keyT r))
            have HBH := Lib.hid (show g + 1 ≤ (((wr.setCell ⟨g, r, none⟩ (.bool true)).alloc (.cells #[.int .u8 (97 + (r : Int))] 5)).alloc (.cells #[.string (keyT r)] 9)).heap.size from Nat.le_trans HGW.out kk2.size)
            have HBS := Lib.hid (hset.keep (G := fun _ => True) (((Keeps.refl _ _).alloc (.cells #[.int .u8 (97 + (r : Int))] 5)).alloc (.cells #[.string (keyT r)] 9)) trivial)
            have HK2 := Lib.hid kk2
            have HRS2 := Lib.hid (show ∀ s ∈ rs ++ [r], s < 5 from fun s hs => by
              rcases List.mem_append.1 hs with h | h
              · exact HRS.out s h
              · rw [List.mem_singleton.1 h]; exact hr5)
            clear HO HB hset kk1 kk2 HGW
            go_wp2_with (first | rw [HCV.out _ _ (by simp)] | (at_builtin; go_loud (refine tkstr_elem.list_append rfl (.tmp 59) (.tmp 65) _ rfl rfl HROW.out rfl HSRC.out ?c3 ?c4 HBH.out ?_)))
            case c3 => unfold maxLen; omega
            case c4 => omega
            intro v7 w7 ho7 hg7 hb7
            have hkB : Keeps (fun b => b < g + 1) (((wr.setCell ⟨g, r, none⟩ (.bool true)).alloc (.cells #[.int .u8 (97 + (r : Int))] 5)).alloc (.cells #[.string (keyT r)] 9)) w7 := Keeps.of_grown hg7 fun b hb _ hlt => by
              have _h1 := (HROW.out.lt b hb).1
              omega
            have hkF : Keeps F wr w7 := (HK2.out.mono fun b _ hb => by have := HFt.out b hb; omega).trans (hkB.mono fun b _ hb => by have := HFt.out b hb; omega)
            have hkW : Kp w w7 := ⟨hkF.os.trans HKW.out.os, hkF.tape.trans HKW.out.tape, hkF.output.trans HKW.out.output, Nat.le_trans HKW.out.size hkF.size, fun b _ hb =>
              (((HK2.out.mono (G := fun b => b < w.heap.size) fun b _ hb => by have := HWr.out; omega).trans (hkB.mono fun b _ hb => by have := HWr.out; omega)).block b hb (Nat.lt_of_lt_of_le hb HKW.out.size)).trans (HKW.out.block b trivial hb)⟩
            have HA7 := Lib.hid (S.atKeep HA.out hkF hkW)
            have HB7 := Lib.hid (HBS.out.keep hkB (show g < g + 1 by omega))
            obtain ⟨A7, c7, rfl⟩ := tk_form ho7
            have HO7 := Lib.hid (show w7.ownsRow (g + 1) 9 1 (.slice A7 (k + 1) c7) (k + 1) (((rs ++ [r]).map keyT).map Value.string) from by
              simpa [List.map_append] using ho7)
            have HG7 := Lib.hid (Nat.le_trans HBH.out hkB.size)
            clear ho7 hg7 hb7 hkB hkF hkW HROW HSRC HBH HBS HK2 HKW HCV HGS HA hwr e1 e2 b0 f0 hcell y1 y2
            go_wp2_with fail
            go_roundw
            case rel => exact ⟨k + 1, rs ++ [r], by omega, by omega, by go_num, by rw [List.length_append, hrs]; rfl, ⟨A7, c7, rfl⟩, HO7, HRS2, HB7, HA7, HG7⟩
            case measure => simp [intOf]; omega
          all_goals (try have t1' : (k : Int) < (l.length : Int) := by omega)
          all_goals (try have t2' : ¬ (k : Int) < 5 := by omega)
          all_goals (try have t1' : ¬ (k : Int) < (l.length : Int) := by omega)
          all_goals (
            obtain ⟨hrow, hc1, hc3⟩ := tk_row (ks := rs.map keyT) (by rw [List.length_map, hrs]) HO.out
            have HRW := Lib.hid hrow
            have HKR := Lib.hid (show ∀ x ∈ rs.map keyT, x.size ≤ 1000000 from fun x hx => by obtain ⟨s, -, rfl⟩ := List.mem_map.1 hx; exact keyT_size s)
            have HKC := Lib.hid (keys_kill HRS.out i)
            have HKC2 := Lib.hid (keys_again HRS.out i)
            have HKL := Lib.hid (show k = (rs.map keyT).length from by rw [List.length_map, hrs])
            clear hrow HO HRS hrs
            generalize rs.map keyT = ks at HRW HKR HKC HKC2 HKL
            generalize deadR rs = D at HB HKC HKC2
            go_wp2_with fail
            go_loopw [12, 13] (fun v12 v13 w3 => ∃ j : Nat, j ≤ i ∧ v13 = .int .i64 (j : Int) ∧ v12 = .int .i64 (deadN D j : Int) ∧ w3 = wr) (fun _ v _ => i - (intOf v).toNat)
            case atStart => exact ⟨0, Nat.zero_le _, rfl, rfl, rfl⟩
            case round =>
              obtain ⟨j, hj, rfl, rfl, rfl⟩ := hrel
              have HD := Lib.hid (deadN_step D j)
              have hdl := deadN_le D j
              obtain ⟨dn, hdn⟩ : ∃ dn, deadN D j = dn := ⟨_, rfl⟩
              have HDN0 := Lib.hid hdn
              rw [hdn] at HD hdl ⊢
              clear hdn
              by_cases hl2 : j < i
              · have hl' : (j : Int) < (i : Int) := by omega
                obtain ⟨r, hr⟩ : ∃ r, j % 5 = r := ⟨_, rfl⟩
                have hr5 : r < 5 := by omega
                have e1 : (j : Int).tmod 5 = (r : Int) := by rw [Int.tmod_eq_emod_of_nonneg (by omega)]; omega
                have e2 : (j : Int) % 5 = (r : Int) := by omega
                have b0 := HB.out.at_ r hr5
                rw [hr] at HD
                clear hr
                cases hD : D r with
                | false =>
                  rw [hD] at b0
                  have HD2 := Lib.hid (show deadN D (j + 1) = dn from by rw [HD.out, hD]; rfl)
                  clear HD hD
                  go_wp2_with fail
                  go_roundw
                  case rel => exact ⟨j + 1, by omega, by go_num, by rw [HD2.out], by first | rfl | trivial⟩
                  case measure => simp [intOf]; omega
                | true =>
                  rw [hD] at b0
                  have HD2 := Lib.hid (show deadN D (j + 1) = dn + 1 from by rw [HD.out, hD]; rfl)
                  clear HD hD
                  go_wp2_with fail
                  go_roundw
                  case rel => exact ⟨j + 1, by omega, by go_num, by rw [HD2.out]; go_num, by first | rfl | trivial⟩
                  case measure => simp [intOf]; omega
              · obtain rfl : j = i := by omega
                have HX := Lib.hid (S.kill w wr t F _ A9 c9 k _ ks HT.out HA.out (by rw [mkT_len]; omega) HKL.out HRW.out (fun b hb hf => by have := HFt.out b hf; omega) hc1 hc3 (by omega) HKR.out)
                rw [HKC.out.1, HKC.out.2] at HX
                have HDN := Lib.hid (show deadN D j = dn from HDN0.out)
                rw [HDN.out] at HX
                have e0 : ((dn : Int) != (dn : Int)) = false := by simp
                go_wp2_with fail
                refine (show Calls _ _ _ _ _ from HX.out).mono ?_
                rintro e w4 ⟨rfl, F4, h4, hF4, hk4⟩
                have HX2 := Lib.hid (S.kill w w4 t F4 _ A9 c9 k _ ks HT.out h4 (by rw [mkT_len]; omega) HKL.out ((HRW.out.keep (hk4.mono fun b _ hb hf => by have := HFt.out b hf; omega))) (fun b hb hf => by
                  rcases hF4 b hf with h | h
                  · have := HFt.out b h; omega
                  · omega) hc1 hc3 (by omega) HKR.out)
                rw [HKC2.out.1, HKC2.out.2] at HX2
                replace HB := Lib.hid (HB.out.keep hk4 (fun hf => by have := HFt.out g hf; omega))
                have HN4 := Lib.hid (show ¬ F4 g from fun hf => by
                  rcases hF4 g hf with h | h
                  · have := HFt.out g h; omega
                  · have := HGW.out; omega)
                clear h4 hF4 hk4 HX HRW HKR HKC HKC2 HA HFt
                go_wp2_with fail
                refine (show Calls _ _ _ _ _ from HX2.out).mono ?_
                rintro e w5 ⟨rfl, F5, h5, hF5, hk5⟩
                have HLN := Lib.hid (S.len w w5 t F5 _ HT.out h5 (by rw [mkT_len]; omega))
                rw [keys_len] at HLN
                have HN5 := Lib.hid (show ¬ F5 g from fun hf => by
                  rcases hF5 g hf with h | h
                  · exact HN4.out h
                  · have := HB.out.lt; omega)
                replace HB := Lib.hid (HB.out.keep hk5 HN4.out)
                have HA5 := Lib.hid h5
                have e1 : ((j : Int) != (j : Int)) = false := by simp
                clear h5 hF5 hk5 HX2 HN4
                go_wp2_with fail
                refine (show Calls _ _ _ _ _ from HLN.out).mono ?_
                rintro e w6 ⟨rfl, hk6⟩
                have HA := Lib.hid (S.atK HA5.out hk6)
                replace HB := Lib.hid (HB.out.keep hk6 trivial)
                clear hk6 HLN HA5
                go_wp2_with fail
                go_loopw [14] (fun v14 wr => ∃ (m : Nat) (F : Nat → Prop), m ≤ j ∧ v14 = .int .i64 (m : Int) ∧ Hid (S.At w wr t F (mkT j (keysF D m))) ∧ Hid (BBlk wr g D) ∧ Hid (¬ F g)) (fun v _ => j - (intOf v).toNat)
                case atStart => exact ⟨0, F5, Nat.zero_le _, rfl, HA, HB, HN5⟩
                case round =>
                  clear HA HB HN5
                  obtain ⟨m, F, hm, rfl, HA, HB, HN⟩ := hrel
                  by_cases hl3 : m < j
                  · have hl' : (m : Int) < (j : Int) := by omega
                    have HU := Lib.hid (S.use w _ t F _ ((m : Int) + 1) HT.out HA.out (by rw [mkT_len]; omega) (by omega) (by omega))
                    rw [(keys_use hl3 _ rfl).1, (keys_use hl3 _ rfl).2] at HU
                    obtain ⟨r, hr⟩ : ∃ r, m % 5 = r := ⟨_, rfl⟩
                    have hr5 : r < 5 := by omega
                    have e1 : (m : Int).tmod 5 = (r : Int) := by rw [Int.tmod_eq_emod_of_nonneg (by omega)]; omega
                    have e2 : (m : Int) % 5 = (r : Int) := by omega
                    have hwr : IntKind.u8.wrap (97 + (r : Int)) = 97 + (r : Int) := by rw [IntKind.wrap_u8]; omega
                    have HCV := Lib.hid (fun (W : World) (g : Nat) (hg : g = W.heap.size) => keyT_conv W g hg r hr5 (97 + (r : Int)) rfl)
                    rw [hr] at HU
                    clear hr HA
                    go_wp2_with fail
                    refine (show Calls _ _ _ _ _ from HU.out).mono ?_
                    rintro e w7 ⟨rfl, F7, h7, hF7, hk7⟩
                    have HA7 := Lib.hid (S.atK h7 ((Keeps.refl (fun _ => True) w7).alloc (.cells #[.int .u8 (97 + (r : Int))] 5)))
                    have HN7 := Lib.hid (show ¬ F7 g from fun hf => by
                      rcases hF7 g hf with h | h
                      · exact HN.out h
                      · have := HB.out.lt; omega)
                    have HB7 := Lib.hid ((HB.out.keep hk7 HN.out).keep ((Keeps.refl (fun _ => True) w7).alloc (.cells #[.int .u8 (97 + (r : Int))] 5)) trivial)
                    have b0 := HB7.out.at_ r hr5
                    have s0 : ((keyT r).toList != (keyT r).toList) = false := by simp
                    clear h7 hF7 hk7 HU HB HN
                    generalize keyT r = K at s0 HCV
                    cases hD : D r with
                    | false =>
                      rw [hD] at b0
                      clear hD
                      go_wp2_with (rw [HCV.out _ _ rfl])
                      go_roundw
                      case rel => exact ⟨m + 1, F7, by omega, by go_num, HA7, HB7, HN7⟩
                      case measure => simp [intOf]; omega
                    | true =>
                      rw [hD] at b0
                      clear hD
                      go_wp2_with (rw [HCV.out _ _ rfl])
                      go_roundw
                      case rel => exact ⟨m + 1, F7, by omega, by go_num, HA7, HB7, HN7⟩
                      case measure => simp [intOf]; omega
                  · obtain rfl : m = j := by omega
                    have HK := Lib.hid (S.atIn HA.out).1
                    clear HA HB HN
                    go_wp2_with fail
                    go_ret
                    exact ⟨rfl, HK.out.below⟩)
  all_goals (
    go_wp2_with fail
    go_ret
    exact ⟨rfl, HK1.out.below⟩)

end Go.Proofs.Ytoegdfiehjabjaa.tokenKeys
