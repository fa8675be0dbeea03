/-
  ControlManyWalk: texts of mine, joined.
-/
import Derived.Test.YtemkjodkmehffaaGreatDoorAllM46
namespace Go.Proofs.YtemkjodkmehffaaGreatDoor.controlMany
open Go Go.RowKit Go.Joins
set_option maxRecDepth 100000 in
set_option maxHeartbeats 8000000 in
theorem walk (w : World) (hT : theSup.T w) (D : Option Addr) (dc : Nat) (drop : List Int) (da : drop.length ≤ dc) (db : dc ≤ maxLen) (dg : Row w D (fun b => b < w.heap.size) (drop.map (Value.int .i64))) (df : ∀ z ∈ drop, -9223372036854775808 ≤ z ∧ z < 9223372036854775808) (K : Option Addr) (kc : Nat) (keep : List Bool) (ka : keep.length ≤ kc) (kb : kc ≤ maxLen) (kg : Row w K (fun b => b < w.heap.size) (keep.map Value.bool)) :
  Calls Tryz.prog 5 #[.slice D drop.length dc, .slice K keep.length kc] w fun e w' => e = .returned (.bool true) ∧ Below w.heap.size w w' := by
 have HT := Lib.hid hT
 have HD := Lib.hid (show Row w D (fun _ => True) (drop.map (Value.int .i64)) from dg.mono fun _ _ _ => trivial)
 have HK := Lib.hid (show Row w K (fun _ => True) (keep.map Value.bool) from kg.mono fun _ _ _ => trivial)
 have HDF := Lib.hid df
 obtain ⟨L, hL⟩ : ∃ L, drop.length = L := ⟨_, rfl⟩
 obtain ⟨M, hM⟩ : ∃ M, keep.length = M := ⟨_, rfl⟩
 have hLm : L ≤ 9223372036854775807 := by unfold maxLen at db; omega
 have hMm : M ≤ 9223372036854775807 := by unfold maxLen at kb; omega
 have HL := Lib.hid hL
 have HMM := Lib.hid hM
 rw [hL, hM]
 clear hT dg kg df da db ka kb hL hM
 go_enter Tryz.func5, Tryz.ntmps5
 go_wp2_with fail
 refine (show Calls _ _ _ _ _ from begun23 w HT.out).mono ?_
 rintro e w1 ⟨rfl, hk⟩
 have K1 := Lib.hid hk
 clear hk
 go_wp2_with fail
 refine (show Calls _ _ _ _ _ from dv_new K1.out 2 (by decide) (by decide) 2 rfl).mono ?_
 rintro e w2 ⟨p, Fd, rfl, hd, -, -⟩
 have HM := Lib.hid (makeW HT.out hd [3] #[.int .i64 3] rfl (by decide) 1 rfl)
 clear hd K1
 go_wp2_with fail
 refine (show Calls _ _ _ _ _ from HM.out).mono ?_
 rintro e w3 ⟨c, kc2, rfl, ha⟩
 have HA := Lib.hid ha
 clear ha HM
 go_upto_region 9 with fail
 have hka : Kp w3 (w3.alloc (.cells #[.bool false, .bool false, .bool false, .bool true, .bool false, .bool false] 59)) := (Keeps.refl _ w3).alloc _
 have hba := heap_alloc_new w3 (.cells #[.bool false, .bool false, .bool false, .bool true, .bool false, .bool false] 59)
 generalize w3.alloc (.cells #[.bool false, .bool false, .bool false, .bool true, .bool false, .bool false] 59) = w4 at hka hba ⊢
 obtain ⟨gg, hgg⟩ : ∃ gg, w3.heap.size = gg := ⟨_, rfl⟩
 rw [hgg] at hba ⊢
 have HX := Lib.hid (show CtX gg (mnV fun i => decide (i = 2)) w w4 p c (some kc2) 0 (12 * 0) (mnS 1 (fun i => decide (i = 2)) fun _ => 0) from HA.out.x hka hba (Nat.le_of_eq hgg))
 clear hka hba hgg HA
 go_wp2_with fail
 go_loopw [6, 7, 10, 11] (fun d s ep i wr => ∃ (j p c : Nat) (ck : Option Nat) (e : Int) (q : Nat → Bool) (f : Nat → Int), j ≤ L ∧ d = .pointer (some ⟨p, 0, none⟩) ∧ s = .pointer (some ⟨c, 0, none⟩) ∧ ep = .int .i64 e ∧ i = .int .i64 (j : Int) ∧ Hid (1 ≤ e ∧ e ≤ (j : Int) + 1 ∧ j ≤ 25 ∧ f 0 = 0) ∧ Hid (CtX gg (mnV q) w wr p c ck 0 (12 * j) (mnS e q f))) (fun _ _ _ i _ => L - (intOf i).toNat)
 case atStart => exact ⟨0, p, c, some kc2, 1, (fun i => decide (i = 2)), (fun _ => 0), Nat.zero_le _, rfl, rfl, rfl, rfl, Lib.hid ⟨by decide, by decide, by decide, rfl⟩, HX⟩
 case round =>
  clear HX
  obtain ⟨j, p, c, ck, e, q, f, hjL, rfl, rfl, rfl, rfl, HIV, HX⟩ := hrel
  obtain ⟨wo', rfl⟩ : ∃ wo' : World, wo' = wr := ⟨_, rfl⟩
  by_cases hl : j < L
  ·have hl' : (j : Int) < (L : Int) := by omega
   by_cases h25 : j < 25
   ·have h25' : (j : Int) < 25 := by omega
    have he1 : 1 ≤ e := HIV.out.1
    have he2 : e ≤ 100 := by have := HIV.out.2.1; omega
    obtain ⟨b, o, rfl, -, d0⟩ := (HD.out.keep (HX.out.own.kpW.mono fun _ _ _ => trivial)).at_ (k := j) (by rw [List.length_map, HL.out]; exact hl)
    rw [List.getElem_map] at d0
    obtain ⟨z, hz⟩ : ∃ z, drop[j]'(by rw [HL.out]; exact hl) = z := ⟨_, rfl⟩
    rw [hz] at d0
    have hzb := HDF.out z (by rw [← hz]; exact List.getElem_mem _)
    have hz1 := hzb.1
    have hz2 := hzb.2
    clear hz hzb
    obtain ⟨t, k0, ht, hr1, hr2, hrk, hk0⟩ := turn23 z 5 (by decide) (by decide)
    have HR1 := Lib.hid (show z.tmod 5 = t from ht)
    have HR2 := Lib.hid (show (t + 5).tmod 5 = (k0 : Int) from hrk)
    have HK2 := Lib.hid (show (-12 : Int) ≤ (k0 : Int) ∧ (k0 : Int) ≤ 12 by omega)
    have hkI : (k0 : Int) < 5 := by omega
    clear ht hrk
    go_wp2_with (first | refine list_rem23 rfl (.tmp 47) (.const (.int .i64 5)) z 5 t rfl rfl rfl (by decide) (by decide) HR1.out hr1 hr2 ?_ | refine list_rem23 rfl (.tmp 49) (.const (.int .i64 5)) (t + 5) 5 (k0 : Int) rfl rfl rfl (by decide) (by decide) HR2.out HK2.out.1 HK2.out.2 ?_)
    rw [show (1 : Int) + (k0 : Int) = ((k0 + 1 : Nat) : Int) by omega]
    clear HR1 HR2 HK2 hr1 hr2 hz1 hz2 d0
    go_loopw [13, 14] (fun cn i wr => ∃ y : Nat, y ≤ 5 ∧ cn = .int .i64 ((nodes5 q y).length : Int) ∧ i = .int .i64 ((y + 1 : Nat) : Int) ∧ Hid (Kp wo' wr)) (fun _ i _ => 6 - (intOf i).toNat)
    case atStart => exact ⟨0, by decide, rfl, rfl, Lib.hid (Keeps.refl _ _)⟩
    case round =>
     obtain ⟨y, y5, rfl, rfl, HKy⟩ := hrel
     by_cases hlt : y < 5
     ·have hlt' : ((y + 1 : Nat) : Int) ≤ 5 := by omega
      have hlt2 : (y : Int) + 1 ≤ 5 := by omega
      have hin := mnV_cell (HX.out.kp HKy.out).blk y hlt
      have hln := nodes5_len q y
      have hnx := nodes5_next q y
      cases hqy : q y with
      | false =>
       rw [hqy] at hin hnx
       have HNX := Lib.hid (show nodes5 q (y + 1) = nodes5 q y from by rw [hnx]; simp)
       clear hnx hqy
       go_wp2_with fail
       go_roundw
       case rel => exact ⟨y + 1, by omega, by rw [HNX.out], by go_num, HKy⟩
       case measure => simp [intOf]; omega
      | true =>
       rw [hqy] at hin hnx
       have HNX := Lib.hid (show (nodes5 q (y + 1)).length = (nodes5 q y).length + 1 from by rw [hnx]; simp)
       clear hnx hqy
       generalize (nodes5 q y).length = ln at hln HNX
       go_wp2_with fail
       go_roundw
       case rel => exact ⟨y + 1, by omega, by rw [HNX.out]; go_num, by go_num, HKy⟩
       case measure => simp [intOf]; omega
     ·obtain rfl : y = 5 := by omega
      have hlt' : ¬ ((5 + 1 : Nat) : Int) ≤ 5 := by decide
      have hx4 := HX.out.kp HKy.out
      have c4 := mnV_cell hx4.blk k0 hk0
      have HX4 := Lib.hid hx4
      clear hx4 HX HKy hlt
      cases hq : q k0 with
      | true =>
       rw [hq] at c4
       cases hc : (((nodes5 q 5).length : Int) == 1) with
       | true =>
        have hc' : (nodes5 q 5).length = 1 := by have : ((nodes5 q 5).length : Int) = 1 := by simpa using hc
                                                 omega
        have HLV := Lib.hid (HX4.out.leave_no HT.out ((k0 + 1 : Nat) : Int) (by omega) rfl (mn_not (many_last q k0 hk0 hq hc')))
        clear hc'
        go_wp2_with fail
        refine (show Calls _ _ _ _ _ from HLV.out).mono ?_
        rintro x w5 ⟨v5, rfl, hx⟩
        have HX5 := Lib.hid (hx.more (12 * (j + 1)) (by omega) (by omega))
        clear hx HLV HX4
        go_wp2_with fail
        go_roundw
        case rel => exact ⟨j + 1, p, c, ck, e, q, f, by omega, rfl, rfl, rfl, by go_num, Lib.hid ⟨HIV.out.1, by have := HIV.out.2.1; omega, by omega, HIV.out.2.2.2⟩, HX5⟩
        case measure => simp [intOf]; omega
       | false =>
        have hc' : (nodes5 q 5).length ≠ 1 := by
         intro h
         rw [h] at hc
         cases hc
        obtain ⟨g1, g2, g3⟩ := many_leave q k0 hk0 hq hc'
        have HOK := Lib.hid HX4.out.own.ok
        have HLV := Lib.hid (HX4.out.leave HT.out ((k0 + 1 : Nat) : Int) (by omega) rfl _ g1 (mn_beg g2 g3 ⟨he1, he2⟩))
        have HG2 := Lib.hid g2
        clear g1 g2 g3 hc'
        go_wp2_with fail
        refine (show Calls _ _ _ _ _ from HLV.out).mono ?_
        rintro x w5 ⟨v5, rfl, hx⟩
        clear HX4 c4 hc
        have HX5 := Lib.hid (show CtX gg (mnV q) w w5 p c ck 0 (12 * j + 2) ((mnG e q f (nodes5 q 5) (nodes5 (flipQ q k0) 5)).at_ 0 (mnG e q f (nodes5 q 5) (nodes5 (flipQ q k0) 5)).L) from hx)
        have HGO := Lib.hid (goes_any HT.out _ (mnG_ok (ring_nodes HOK.out.ring) HIV.out.2.2.2 ⟨he1, he2⟩) HX5.out (by omega))
        clear hx HLV
        go_wp2_with fail
        refine (show Calls _ _ _ _ _ from HX5.out.own.under).mono ?_
        rintro x wu ⟨rfl, rfl⟩
        rw [show ((mnG e q f (nodes5 q 5) (nodes5 (flipQ q k0) 5)).at_ 0 (mnG e q f (nodes5 q 5) (nodes5 (flipQ q k0) 5)).L).underZ = e + 1 from rfl]
        go_wp2_with fail
        refine (show Calls _ _ _ _ _ from HGO.out).mono ?_
        rintro x w6 ⟨rfl, hx⟩
        have HSET := Lib.hid (show ∀ w7, w7 = w6.setCell ⟨gg, k0 + 1, none⟩ (.bool false) → CtX gg (mnV (flipQ q k0)) w w7 p c ck 0 (12 * j + 12) (mnS (e + 1) (flipQ q k0) f) from by
         rintro w7 rfl
         have hs := mnV_set hx.blk k0 hk0
         rw [hq] at hs
         exact hx.set ((Keeps.refl _ w6).setCell (p := ⟨gg, k0 + 1, none⟩) (.inr (fun h => h rfl)) _) hs)
        have c6 := mnV_cell hx.blk k0 hk0
        rw [hq] at c6
        have f6 : w6.frozen? ⟨gg, k0 + 1, none⟩ = false := unfrozen_of_block hx.blk _
        clear hx HX5 HGO
        go_wp2_with fail
        have hx7 := HSET.out _ rfl
        generalize World.setCell w6 _ _ = w7 at hx7 ⊢
        have HX7 := Lib.hid hx7
        clear hx7 HSET c6 f6
        generalize flipQ q k0 = Q at HX7
        refine (show Calls _ _ _ _ _ from HX7.out.own.epoch).mono ?_
        rintro x wu ⟨rfl, rfl⟩
        rw [show (mnS (e + 1) Q f).epoch = e + 1 from rfl]
        go_wp2_with fail
        refine (show Calls _ _ _ _ _ from HX7.out.own.under).mono ?_
        rintro x wu ⟨rfl, rfl⟩
        rw [show (mnS (e + 1) Q f).underZ = 0 from rfl]
        by_cases hjm : j < M
        ·have hjm' : (j : Int) < (M : Int) := by omega
         obtain ⟨b2, o2, rfl, -, k7⟩ := (HK.out.keep (HX7.out.own.kpW.mono fun _ _ _ => trivial)).at_ (k := j) (by rw [List.length_map, HMM.out]; exact hjm)
         rw [List.getElem_map] at k7
         generalize keep[j]'(by rw [HMM.out]; exact hjm) = kj at k7
         cases kj with
         | true =>
          go_wp2_with fail
          refine (show Calls _ _ _ _ _ from HX7.out.held.crash).mono ?_
          rintro x w8 ⟨p8, rfl, hh⟩
          have HH := Lib.hid hh
          clear hh HX7
          go_wp2_with fail
          refine (show Calls _ _ _ _ _ from HH.out.openN HT.out).mono ?_
          rintro x w9 ⟨c9, rfl, hx⟩
          have HX9 := Lib.hid (show CtX gg (mnV Q) w w9 p8 c9 none 0 (12 * j + 12) (mnS (e + 1) Q (openO 0 5)) from hx)
          clear hx HH
          go_wp2_with fail
          refine (show Calls _ _ _ _ _ from HX9.out.own.epoch).mono ?_
          rintro x w10 ⟨rfl, rfl⟩
          rw [show (mnS (e + 1) Q (openO 0 5)).epoch = e + 1 from rfl]
          go_wp2_with fail
          go_loopw [19, 20] (fun v i wr => ∃ y : Nat, y ≤ 5 ∧ i = .int .i64 ((y + 1 : Nat) : Int) ∧ wr.ownsRow w9.heap.size 3 1 v (nodes5 Q y).length ((nodes5 Q y).map (Value.int .i64)) ∧ Hid (Kp w9 wr)) (fun _ i _ => 6 - (intOf i).toNat)
          case atStart => exact ⟨0, by decide, rfl, ⟨by rfl, .inl ⟨rfl, rfl⟩⟩, Lib.hid (Keeps.refl _ _)⟩
          case round =>
           obtain ⟨y, y5, rfl, ho, HKy⟩ := hrel
           by_cases hlt : y < 5
           ·have hlt' : ((y + 1 : Nat) : Int) ≤ 5 := by omega
            have hlt2 : (y : Int) + 1 ≤ 5 := by omega
            have hin := mnV_cell (HX9.out.kp HKy.out).blk y hlt
            have HO := Lib.hid ho
            have HLT := Lib.hid ho.lt
            have hln := nodes5_len Q y
            have hnx := nodes5_next Q y
            have hsz := HKy.out.size
            clear ho
            cases hqy : Q y with
            | false =>
             rw [hqy] at hin hnx
             have HNX := Lib.hid (show nodes5 Q (y + 1) = nodes5 Q y from by rw [hnx]; simp)
             clear hnx hln hqy hsz
             go_wp2_with fail
             go_roundw
             case rel => exact ⟨y + 1, by omega, by go_num, by rw [HNX.out]; exact HO.out, HKy⟩
             case measure => simp [intOf]; omega
            | true =>
             rw [hqy] at hin hnx
             have HNX := Lib.hid (show nodes5 Q (y + 1) = nodes5 Q y ++ [((y + 1 : Nat) : Int)] from by rw [hnx]; simp)
             clear hnx hqy
             have HX9 := Lib.hid HX9
             generalize nodes5 Q y = LL at HO HNX hln
             have kal : Kp wr (wr.alloc (.cells #[.int .i64 ((y : Int) + 1)] 3)) := (Keeps.refl _ wr).alloc _
             have hsz1 : w9.heap.size ≤ (wr.alloc (.cells #[.int .i64 ((y : Int) + 1)] 3)).heap.size := by simp; omega
             go_wp2_with (at_builtin; refine int_elem.list_append rfl (.tmp 150) (.tmp 152) _ rfl rfl (kal.own HO.out fun _ _ => trivial) rfl (src_one Tryz.underlying48 wr (.int .i64 ((y : Int) + 1)) 3 rfl _ rfl 1) ?c3 ?c4 hsz1 ?_)
             case c3 => unfold maxLen; omega
             case c4 => omega
             intro v3 w3' ho3 hg3 hb3
             have HK3 := Lib.hid ((HKy.out.trans kal).grown hg3 fun b hb => (HLT.out b hb).1)
             have HO3 := Lib.hid (show w3'.ownsRow w9.heap.size 3 1 v3 (nodes5 Q (y + 1)).length ((nodes5 Q (y + 1)).map (Value.int .i64)) from by
              rw [HNX.out, List.length_append, List.map_append]
              exact ho3)
             clear ho3 hg3 hb3 hsz hsz1 hln HO HKy kal hin HLT HX9
             go_wp2_with fail
             go_roundw
             case rel => exact ⟨y + 1, by omega, by go_num, HO3.out, HK3⟩
             case measure => simp [intOf]; omega
           ·obtain rfl : y = 5 := by omega
            have hlt' : ¬ ((5 + 1 : Nat) : Int) ≤ 5 := by decide
            have HXF := Lib.hid (HX9.out.kp HKy.out)
            obtain ⟨B, cB, e1, -, -, -⟩ := own_formC ho
            have hbrow : Row wr B (fun _ => True) ((nodes5 Q 5).map (Value.int .i64)) := by
             have h := ho
             have el : (nodes5 Q 5).length = ((nodes5 Q 5).map (Value.int .i64)).length := by rw [List.length_map]
             rw [e1, el] at h
             exact (Row.of_own h).mono fun _ _ _ => trivial
            subst e1
            have HB := Lib.hid hbrow
            have hnl := nodes5_len Q 5
            have HNL := Lib.hid hnl
            clear ho hbrow hnl HKy hlt HX9
            go_wp2_with fail
            refine (show Calls _ _ _ _ _ from HXF.out.own.mem).mono ?_
            rintro x wm ⟨A, cA, rfl, hr, hkm⟩
            rw [show (mnS (e + 1) Q (openO 0 5)).mem = nodes5 Q 5 from rfl] at hr ⊢
            have HEQ := Lib.hid (eqints_same wm A B cA cB (nodes5 Q 5) hr (HB.out.keep hkm) (by have := HNL.out; omega))
            have HXM := Lib.hid (HXF.out.kp hkm)
            clear hr hkm HB HXF
            go_wp2_with fail
            refine (show Calls _ _ _ _ _ from HEQ.out).mono ?_
            rintro x wn ⟨rfl, hkn⟩
            have HXN := Lib.hid ((HXM.out.kp hkn).more (12 * (j + 1)) (by omega) (by have := HIV.out; omega))
            clear hkn HXM HEQ
            go_wp2_with fail
            go_roundw
            case rel => exact ⟨j + 1, p8, c9, none, e + 1, Q, (openO 0 5), by omega, rfl, rfl, rfl, by go_num, Lib.hid ⟨by have := HIV.out; omega, by have := HIV.out; omega, by omega, rfl⟩, HXN⟩
            case measure => simp [intOf]; omega
         | false =>
          go_wp2_with fail
          go_loopw [19, 20] (fun v i wr => ∃ y : Nat, y ≤ 5 ∧ i = .int .i64 ((y + 1 : Nat) : Int) ∧ wr.ownsRow w7.heap.size 3 1 v (nodes5 Q y).length ((nodes5 Q y).map (Value.int .i64)) ∧ Hid (Kp w7 wr)) (fun _ i _ => 6 - (intOf i).toNat)
          case atStart => exact ⟨0, by decide, rfl, ⟨by rfl, .inl ⟨rfl, rfl⟩⟩, Lib.hid (Keeps.refl _ _)⟩
          case round =>
           obtain ⟨y, y5, rfl, ho, HKy⟩ := hrel
           by_cases hlt : y < 5
           ·have hlt' : ((y + 1 : Nat) : Int) ≤ 5 := by omega
            have hlt2 : (y : Int) + 1 ≤ 5 := by omega
            have hin := mnV_cell (HX7.out.kp HKy.out).blk y hlt
            have HO := Lib.hid ho
            have HLT := Lib.hid ho.lt
            have hln := nodes5_len Q y
            have hnx := nodes5_next Q y
            have hsz := HKy.out.size
            clear ho
            cases hqy : Q y with
            | false =>
             rw [hqy] at hin hnx
             have HNX := Lib.hid (show nodes5 Q (y + 1) = nodes5 Q y from by rw [hnx]; simp)
             clear hnx hln hqy hsz
             go_wp2_with fail
             go_roundw
             case rel => exact ⟨y + 1, by omega, by go_num, by rw [HNX.out]; exact HO.out, HKy⟩
             case measure => simp [intOf]; omega
            | true =>
             rw [hqy] at hin hnx
             have HNX := Lib.hid (show nodes5 Q (y + 1) = nodes5 Q y ++ [((y + 1 : Nat) : Int)] from by rw [hnx]; simp)
             clear hnx hqy
             have HX9 := Lib.hid HX7
             generalize nodes5 Q y = LL at HO HNX hln
             have kal : Kp wr (wr.alloc (.cells #[.int .i64 ((y : Int) + 1)] 3)) := (Keeps.refl _ wr).alloc _
             have hsz1 : w7.heap.size ≤ (wr.alloc (.cells #[.int .i64 ((y : Int) + 1)] 3)).heap.size := by simp; omega
             go_wp2_with (at_builtin; refine int_elem.list_append rfl (.tmp 150) (.tmp 152) _ rfl rfl (kal.own HO.out fun _ _ => trivial) rfl (src_one Tryz.underlying48 wr (.int .i64 ((y : Int) + 1)) 3 rfl _ rfl 1) ?c3 ?c4 hsz1 ?_)
             case c3 => unfold maxLen; omega
             case c4 => omega
             intro v3 w3' ho3 hg3 hb3
             have HK3 := Lib.hid ((HKy.out.trans kal).grown hg3 fun b hb => (HLT.out b hb).1)
             have HO3 := Lib.hid (show w3'.ownsRow w7.heap.size 3 1 v3 (nodes5 Q (y + 1)).length ((nodes5 Q (y + 1)).map (Value.int .i64)) from by
              rw [HNX.out, List.length_append, List.map_append]
              exact ho3)
             clear ho3 hg3 hb3 hsz hsz1 hln HO HKy kal hin HLT HX9
             go_wp2_with fail
             go_roundw
             case rel => exact ⟨y + 1, by omega, by go_num, HO3.out, HK3⟩
             case measure => simp [intOf]; omega
           ·obtain rfl : y = 5 := by omega
            have hlt' : ¬ ((5 + 1 : Nat) : Int) ≤ 5 := by decide
            have HXF := Lib.hid (HX7.out.kp HKy.out)
            obtain ⟨B, cB, e1, -, -, -⟩ := own_formC ho
            have hbrow : Row wr B (fun _ => True) ((nodes5 Q 5).map (Value.int .i64)) := by
             have h := ho
             have el : (nodes5 Q 5).length = ((nodes5 Q 5).map (Value.int .i64)).length := by rw [List.length_map]
             rw [e1, el] at h
             exact (Row.of_own h).mono fun _ _ _ => trivial
            subst e1
            have HB := Lib.hid hbrow
            have hnl := nodes5_len Q 5
            have HNL := Lib.hid hnl
            clear ho hbrow hnl HKy hlt HX7
            go_wp2_with fail
            refine (show Calls _ _ _ _ _ from HXF.out.own.mem).mono ?_
            rintro x wm ⟨A, cA, rfl, hr, hkm⟩
            rw [show (mnS (e + 1) Q f).mem = nodes5 Q 5 from rfl] at hr ⊢
            have HEQ := Lib.hid (eqints_same wm A B cA cB (nodes5 Q 5) hr (HB.out.keep hkm) (by have := HNL.out; omega))
            have HXM := Lib.hid (HXF.out.kp hkm)
            clear hr hkm HB HXF
            go_wp2_with fail
            refine (show Calls _ _ _ _ _ from HEQ.out).mono ?_
            rintro x wn ⟨rfl, hkn⟩
            have HXN := Lib.hid ((HXM.out.kp hkn).more (12 * (j + 1)) (by omega) (by have := HIV.out; omega))
            clear hkn HXM HEQ
            go_wp2_with fail
            go_roundw
            case rel => exact ⟨j + 1, p, c, ck, e + 1, Q, f, by omega, rfl, rfl, rfl, by go_num, Lib.hid ⟨by have := HIV.out; omega, by have := HIV.out; omega, by omega, HIV.out.2.2.2⟩, HXN⟩
            case measure => simp [intOf]; omega
        ·have hjm' : ¬ (j : Int) < (M : Int) := by omega
         go_wp2_with fail
         go_loopw [19, 20] (fun v i wr => ∃ y : Nat, y ≤ 5 ∧ i = .int .i64 ((y + 1 : Nat) : Int) ∧ wr.ownsRow w7.heap.size 3 1 v (nodes5 Q y).length ((nodes5 Q y).map (Value.int .i64)) ∧ Hid (Kp w7 wr)) (fun _ i _ => 6 - (intOf i).toNat)
         case atStart => exact ⟨0, by decide, rfl, ⟨by rfl, .inl ⟨rfl, rfl⟩⟩, Lib.hid (Keeps.refl _ _)⟩
         case round =>
          obtain ⟨y, y5, rfl, ho, HKy⟩ := hrel
          by_cases hlt : y < 5
          ·have hlt' : ((y + 1 : Nat) : Int) ≤ 5 := by omega
           have hlt2 : (y : Int) + 1 ≤ 5 := by omega
           have hin := mnV_cell (HX7.out.kp HKy.out).blk y hlt
           have HO := Lib.hid ho
           have HLT := Lib.hid ho.lt
           have hln := nodes5_len Q y
           have hnx := nodes5_next Q y
           have hsz := HKy.out.size
           clear ho
           cases hqy : Q y with
           | false =>
            rw [hqy] at hin hnx
            have HNX := Lib.hid (show nodes5 Q (y + 1) = nodes5 Q y from by rw [hnx]; simp)
            clear hnx hln hqy hsz
            go_wp2_with fail
            go_roundw
            case rel => exact ⟨y + 1, by omega, by go_num, by rw [HNX.out]; exact HO.out, HKy⟩
            case measure => simp [intOf]; omega
           | true =>
            rw [hqy] at hin hnx
            have HNX := Lib.hid (show nodes5 Q (y + 1) = nodes5 Q y ++ [((y + 1 : Nat) : Int)] from by rw [hnx]; simp)
            clear hnx hqy
            have HX9 := Lib.hid HX7
            generalize nodes5 Q y = LL at HO HNX hln
            have kal : Kp wr (wr.alloc (.cells #[.int .i64 ((y : Int) + 1)] 3)) := (Keeps.refl _ wr).alloc _
            have hsz1 : w7.heap.size ≤ (wr.alloc (.cells #[.int .i64 ((y : Int) + 1)] 3)).heap.size := by simp; omega
            go_wp2_with (at_builtin; refine int_elem.list_append rfl (.tmp 150) (.tmp 152) _ rfl rfl (kal.own HO.out fun _ _ => trivial) rfl (src_one Tryz.underlying48 wr (.int .i64 ((y : Int) + 1)) 3 rfl _ rfl 1) ?c3 ?c4 hsz1 ?_)
            case c3 => unfold maxLen; omega
            case c4 => omega
            intro v3 w3' ho3 hg3 hb3
            have HK3 := Lib.hid ((HKy.out.trans kal).grown hg3 fun b hb => (HLT.out b hb).1)
            have HO3 := Lib.hid (show w3'.ownsRow w7.heap.size 3 1 v3 (nodes5 Q (y + 1)).length ((nodes5 Q (y + 1)).map (Value.int .i64)) from by
             rw [HNX.out, List.length_append, List.map_append]
             exact ho3)
            clear ho3 hg3 hb3 hsz hsz1 hln HO HKy kal hin HLT HX9
            go_wp2_with fail
            go_roundw
            case rel => exact ⟨y + 1, by omega, by go_num, HO3.out, HK3⟩
            case measure => simp [intOf]; omega
          ·obtain rfl : y = 5 := by omega
           have hlt' : ¬ ((5 + 1 : Nat) : Int) ≤ 5 := by decide
           have HXF := Lib.hid (HX7.out.kp HKy.out)
           obtain ⟨B, cB, e1, -, -, -⟩ := own_formC ho
           have hbrow : Row wr B (fun _ => True) ((nodes5 Q 5).map (Value.int .i64)) := by
            have h := ho
            have el : (nodes5 Q 5).length = ((nodes5 Q 5).map (Value.int .i64)).length := by rw [List.length_map]
            rw [e1, el] at h
            exact (Row.of_own h).mono fun _ _ _ => trivial
           subst e1
           have HB := Lib.hid hbrow
           have hnl := nodes5_len Q 5
           have HNL := Lib.hid hnl
           clear ho hbrow hnl HKy hlt HX7
           go_wp2_with fail
           refine (show Calls _ _ _ _ _ from HXF.out.own.mem).mono ?_
           rintro x wm ⟨A, cA, rfl, hr, hkm⟩
           rw [show (mnS (e + 1) Q f).mem = nodes5 Q 5 from rfl] at hr ⊢
           have HEQ := Lib.hid (eqints_same wm A B cA cB (nodes5 Q 5) hr (HB.out.keep hkm) (by have := HNL.out; omega))
           have HXM := Lib.hid (HXF.out.kp hkm)
           clear hr hkm HB HXF
           go_wp2_with fail
           refine (show Calls _ _ _ _ _ from HEQ.out).mono ?_
           rintro x wn ⟨rfl, hkn⟩
           have HXN := Lib.hid ((HXM.out.kp hkn).more (12 * (j + 1)) (by omega) (by have := HIV.out; omega))
           clear hkn HXM HEQ
           go_wp2_with fail
           go_roundw
           case rel => exact ⟨j + 1, p, c, ck, e + 1, Q, f, by omega, rfl, rfl, rfl, by go_num, Lib.hid ⟨by have := HIV.out; omega, by have := HIV.out; omega, by omega, HIV.out.2.2.2⟩, HXN⟩
           case measure => simp [intOf]; omega
      | false =>
       rw [hq] at c4
       obtain ⟨g1, g2, g3⟩ := many_join q k0 hk0 hq
       have HLV := Lib.hid (HX4.out.join HT.out ((k0 + 1 : Nat) : Int) (by omega) rfl _ g1 (mn_beg g2 g3 ⟨he1, he2⟩))
       have HG2 := Lib.hid g2
       clear g1 g2 g3
       go_wp2_with fail
       refine (show Calls _ _ _ _ _ from HLV.out).mono ?_
       rintro x w5 ⟨v5, rfl, hx⟩
       clear HX4 c4
       have HX5 := Lib.hid (show CtX gg (mnV q) w w5 p c ck 0 (12 * j + 2) ((mnG e q f (nodes5 (flipQ q k0) 5) (nodes5 (flipQ q k0) 5)).at_ 0 (mnG e q f (nodes5 (flipQ q k0) 5) (nodes5 (flipQ q k0) 5)).L) from hx)
       have HGO := Lib.hid (goes_any HT.out _ (mnG_ok (nodes5_yes HG2.out) HIV.out.2.2.2 ⟨he1, he2⟩) HX5.out (by omega))
       clear hx HLV
       go_wp2_with fail
       refine (show Calls _ _ _ _ _ from HX5.out.own.under).mono ?_
       rintro x wu ⟨rfl, rfl⟩
       rw [show ((mnG e q f (nodes5 (flipQ q k0) 5) (nodes5 (flipQ q k0) 5)).at_ 0 (mnG e q f (nodes5 (flipQ q k0) 5) (nodes5 (flipQ q k0) 5)).L).underZ = e + 1 from rfl]
       go_wp2_with fail
       refine (show Calls _ _ _ _ _ from HGO.out).mono ?_
       rintro x w6 ⟨rfl, hx⟩
       have HSET := Lib.hid (show ∀ w7, w7 = w6.setCell ⟨gg, k0 + 1, none⟩ (.bool true) → CtX gg (mnV (flipQ q k0)) w w7 p c ck 0 (12 * j + 12) (mnS (e + 1) (flipQ q k0) f) from by
        rintro w7 rfl
        have hs := mnV_set hx.blk k0 hk0
        rw [hq] at hs
        exact hx.set ((Keeps.refl _ w6).setCell (p := ⟨gg, k0 + 1, none⟩) (.inr (fun h => h rfl)) _) hs)
       have c6 := mnV_cell hx.blk k0 hk0
       rw [hq] at c6
       have f6 : w6.frozen? ⟨gg, k0 + 1, none⟩ = false := unfrozen_of_block hx.blk _
       clear hx HX5 HGO
       go_wp2_with fail
       have hx7 := HSET.out _ rfl
       generalize World.setCell w6 _ _ = w7 at hx7 ⊢
       have HX7 := Lib.hid hx7
       clear hx7 HSET c6 f6
       generalize flipQ q k0 = Q at HX7
       refine (show Calls _ _ _ _ _ from HX7.out.own.epoch).mono ?_
       rintro x wu ⟨rfl, rfl⟩
       rw [show (mnS (e + 1) Q f).epoch = e + 1 from rfl]
       go_wp2_with fail
       refine (show Calls _ _ _ _ _ from HX7.out.own.under).mono ?_
       rintro x wu ⟨rfl, rfl⟩
       rw [show (mnS (e + 1) Q f).underZ = 0 from rfl]
       by_cases hjm : j < M
       ·have hjm' : (j : Int) < (M : Int) := by omega
        obtain ⟨b2, o2, rfl, -, k7⟩ := (HK.out.keep (HX7.out.own.kpW.mono fun _ _ _ => trivial)).at_ (k := j) (by rw [List.length_map, HMM.out]; exact hjm)
        rw [List.getElem_map] at k7
        generalize keep[j]'(by rw [HMM.out]; exact hjm) = kj at k7
        cases kj with
        | true =>
         go_wp2_with fail
         refine (show Calls _ _ _ _ _ from HX7.out.held.crash).mono ?_
         rintro x w8 ⟨p8, rfl, hh⟩
         have HH := Lib.hid hh
         clear hh HX7
         go_wp2_with fail
         refine (show Calls _ _ _ _ _ from HH.out.openN HT.out).mono ?_
         rintro x w9 ⟨c9, rfl, hx⟩
         have HX9 := Lib.hid (show CtX gg (mnV Q) w w9 p8 c9 none 0 (12 * j + 12) (mnS (e + 1) Q (openO 0 5)) from hx)
         clear hx HH
         go_wp2_with fail
         refine (show Calls _ _ _ _ _ from HX9.out.own.epoch).mono ?_
         rintro x w10 ⟨rfl, rfl⟩
         rw [show (mnS (e + 1) Q (openO 0 5)).epoch = e + 1 from rfl]
         go_wp2_with fail
         go_loopw [19, 20] (fun v i wr => ∃ y : Nat, y ≤ 5 ∧ i = .int .i64 ((y + 1 : Nat) : Int) ∧ wr.ownsRow w9.heap.size 3 1 v (nodes5 Q y).length ((nodes5 Q y).map (Value.int .i64)) ∧ Hid (Kp w9 wr)) (fun _ i _ => 6 - (intOf i).toNat)
         case atStart => exact ⟨0, by decide, rfl, ⟨by rfl, .inl ⟨rfl, rfl⟩⟩, Lib.hid (Keeps.refl _ _)⟩
         case round =>
          obtain ⟨y, y5, rfl, ho, HKy⟩ := hrel
          by_cases hlt : y < 5
          ·have hlt' : ((y + 1 : Nat) : Int) ≤ 5 := by omega
           have hlt2 : (y : Int) + 1 ≤ 5 := by omega
           have hin := mnV_cell (HX9.out.kp HKy.out).blk y hlt
           have HO := Lib.hid ho
           have HLT := Lib.hid ho.lt
           have hln := nodes5_len Q y
           have hnx := nodes5_next Q y
           have hsz := HKy.out.size
           clear ho
           cases hqy : Q y with
           | false =>
            rw [hqy] at hin hnx
            have HNX := Lib.hid (show nodes5 Q (y + 1) = nodes5 Q y from by rw [hnx]; simp)
            clear hnx hln hqy hsz
            go_wp2_with fail
            go_roundw
            case rel => exact ⟨y + 1, by omega, by go_num, by rw [HNX.out]; exact HO.out, HKy⟩
            case measure => simp [intOf]; omega
           | true =>
            rw [hqy] at hin hnx
            have HNX := Lib.hid (show nodes5 Q (y + 1) = nodes5 Q y ++ [((y + 1 : Nat) : Int)] from by rw [hnx]; simp)
            clear hnx hqy
            have HX9 := Lib.hid HX9
            generalize nodes5 Q y = LL at HO HNX hln
            have kal : Kp wr (wr.alloc (.cells #[.int .i64 ((y : Int) + 1)] 3)) := (Keeps.refl _ wr).alloc _
            have hsz1 : w9.heap.size ≤ (wr.alloc (.cells #[.int .i64 ((y : Int) + 1)] 3)).heap.size := by simp; omega
            go_wp2_with (at_builtin; refine int_elem.list_append rfl (.tmp 150) (.tmp 152) _ rfl rfl (kal.own HO.out fun _ _ => trivial) rfl (src_one Tryz.underlying48 wr (.int .i64 ((y : Int) + 1)) 3 rfl _ rfl 1) ?c3 ?c4 hsz1 ?_)
            case c3 => unfold maxLen; omega
            case c4 => omega
            intro v3 w3' ho3 hg3 hb3
            have HK3 := Lib.hid ((HKy.out.trans kal).grown hg3 fun b hb => (HLT.out b hb).1)
            have HO3 := Lib.hid (show w3'.ownsRow w9.heap.size 3 1 v3 (nodes5 Q (y + 1)).length ((nodes5 Q (y + 1)).map (Value.int .i64)) from by
             rw [HNX.out, List.length_append, List.map_append]
             exact ho3)
            clear ho3 hg3 hb3 hsz hsz1 hln HO HKy kal hin HLT HX9
            go_wp2_with fail
            go_roundw
            case rel => exact ⟨y + 1, by omega, by go_num, HO3.out, HK3⟩
            case measure => simp [intOf]; omega
          ·obtain rfl : y = 5 := by omega
           have hlt' : ¬ ((5 + 1 : Nat) : Int) ≤ 5 := by decide
           have HXF := Lib.hid (HX9.out.kp HKy.out)
           obtain ⟨B, cB, e1, -, -, -⟩ := own_formC ho
           have hbrow : Row wr B (fun _ => True) ((nodes5 Q 5).map (Value.int .i64)) := by
            have h := ho
            have el : (nodes5 Q 5).length = ((nodes5 Q 5).map (Value.int .i64)).length := by rw [List.length_map]
            rw [e1, el] at h
            exact (Row.of_own h).mono fun _ _ _ => trivial
           subst e1
           have HB := Lib.hid hbrow
           have hnl := nodes5_len Q 5
           have HNL := Lib.hid hnl
           clear ho hbrow hnl HKy hlt HX9
           go_wp2_with fail
           refine (show Calls _ _ _ _ _ from HXF.out.own.mem).mono ?_
           rintro x wm ⟨A, cA, rfl, hr, hkm⟩
           rw [show (mnS (e + 1) Q (openO 0 5)).mem = nodes5 Q 5 from rfl] at hr ⊢
           have HEQ := Lib.hid (eqints_same wm A B cA cB (nodes5 Q 5) hr (HB.out.keep hkm) (by have := HNL.out; omega))
           have HXM := Lib.hid (HXF.out.kp hkm)
           clear hr hkm HB HXF
           go_wp2_with fail
           refine (show Calls _ _ _ _ _ from HEQ.out).mono ?_
           rintro x wn ⟨rfl, hkn⟩
           have HXN := Lib.hid ((HXM.out.kp hkn).more (12 * (j + 1)) (by omega) (by have := HIV.out; omega))
           clear hkn HXM HEQ
           go_wp2_with fail
           go_roundw
           case rel => exact ⟨j + 1, p8, c9, none, e + 1, Q, (openO 0 5), by omega, rfl, rfl, rfl, by go_num, Lib.hid ⟨by have := HIV.out; omega, by have := HIV.out; omega, by omega, rfl⟩, HXN⟩
           case measure => simp [intOf]; omega
        | false =>
         go_wp2_with fail
         go_loopw [19, 20] (fun v i wr => ∃ y : Nat, y ≤ 5 ∧ i = .int .i64 ((y + 1 : Nat) : Int) ∧ wr.ownsRow w7.heap.size 3 1 v (nodes5 Q y).length ((nodes5 Q y).map (Value.int .i64)) ∧ Hid (Kp w7 wr)) (fun _ i _ => 6 - (intOf i).toNat)
         case atStart => exact ⟨0, by decide, rfl, ⟨by rfl, .inl ⟨rfl, rfl⟩⟩, Lib.hid (Keeps.refl _ _)⟩
         case round =>
          obtain ⟨y, y5, rfl, ho, HKy⟩ := hrel
          by_cases hlt : y < 5
          ·have hlt' : ((y + 1 : Nat) : Int) ≤ 5 := by omega
           have hlt2 : (y : Int) + 1 ≤ 5 := by omega
           have hin := mnV_cell (HX7.out.kp HKy.out).blk y hlt
           have HO := Lib.hid ho
           have HLT := Lib.hid ho.lt
           have hln := nodes5_len Q y
           have hnx := nodes5_next Q y
           have hsz := HKy.out.size
           clear ho
           cases hqy : Q y with
           | false =>
            rw [hqy] at hin hnx
            have HNX := Lib.hid (show nodes5 Q (y + 1) = nodes5 Q y from by rw [hnx]; simp)
            clear hnx hln hqy hsz
            go_wp2_with fail
            go_roundw
            case rel => exact ⟨y + 1, by omega, by go_num, by rw [HNX.out]; exact HO.out, HKy⟩
            case measure => simp [intOf]; omega
           | true =>
            rw [hqy] at hin hnx
            have HNX := Lib.hid (show nodes5 Q (y + 1) = nodes5 Q y ++ [((y + 1 : Nat) : Int)] from by rw [hnx]; simp)
            clear hnx hqy
            have HX9 := Lib.hid HX7
            generalize nodes5 Q y = LL at HO HNX hln
            have kal : Kp wr (wr.alloc (.cells #[.int .i64 ((y : Int) + 1)] 3)) := (Keeps.refl _ wr).alloc _
            have hsz1 : w7.heap.size ≤ (wr.alloc (.cells #[.int .i64 ((y : Int) + 1)] 3)).heap.size := by simp; omega
            go_wp2_with (at_builtin; refine int_elem.list_append rfl (.tmp 150) (.tmp 152) _ rfl rfl (kal.own HO.out fun _ _ => trivial) rfl (src_one Tryz.underlying48 wr (.int .i64 ((y : Int) + 1)) 3 rfl _ rfl 1) ?c3 ?c4 hsz1 ?_)
            case c3 => unfold maxLen; omega
            case c4 => omega
            intro v3 w3' ho3 hg3 hb3
            have HK3 := Lib.hid ((HKy.out.trans kal).grown hg3 fun b hb => (HLT.out b hb).1)
            have HO3 := Lib.hid (show w3'.ownsRow w7.heap.size 3 1 v3 (nodes5 Q (y + 1)).length ((nodes5 Q (y + 1)).map (Value.int .i64)) from by
             rw [HNX.out, List.length_append, List.map_append]
             exact ho3)
            clear ho3 hg3 hb3 hsz hsz1 hln HO HKy kal hin HLT HX9
            go_wp2_with fail
            go_roundw
            case rel => exact ⟨y + 1, by omega, by go_num, HO3.out, HK3⟩
            case measure => simp [intOf]; omega
          ·obtain rfl : y = 5 := by omega
           have hlt' : ¬ ((5 + 1 : Nat) : Int) ≤ 5 := by decide
           have HXF := Lib.hid (HX7.out.kp HKy.out)
           obtain ⟨B, cB, e1, -, -, -⟩ := own_formC ho
           have hbrow : Row wr B (fun _ => True) ((nodes5 Q 5).map (Value.int .i64)) := by
            have h := ho
            have el : (nodes5 Q 5).length = ((nodes5 Q 5).map (Value.int .i64)).length := by rw [List.length_map]
            rw [e1, el] at h
            exact (Row.of_own h).mono fun _ _ _ => trivial
           subst e1
           have HB := Lib.hid hbrow
           have hnl := nodes5_len Q 5
           have HNL := Lib.hid hnl
           clear ho hbrow hnl HKy hlt HX7
           go_wp2_with fail
           refine (show Calls _ _ _ _ _ from HXF.out.own.mem).mono ?_
           rintro x wm ⟨A, cA, rfl, hr, hkm⟩
           rw [show (mnS (e + 1) Q f).mem = nodes5 Q 5 from rfl] at hr ⊢
           have HEQ := Lib.hid (eqints_same wm A B cA cB (nodes5 Q 5) hr (HB.out.keep hkm) (by have := HNL.out; omega))
           have HXM := Lib.hid (HXF.out.kp hkm)
           clear hr hkm HB HXF
           go_wp2_with fail
           refine (show Calls _ _ _ _ _ from HEQ.out).mono ?_
           rintro x wn ⟨rfl, hkn⟩
           have HXN := Lib.hid ((HXM.out.kp hkn).more (12 * (j + 1)) (by omega) (by have := HIV.out; omega))
           clear hkn HXM HEQ
           go_wp2_with fail
           go_roundw
           case rel => exact ⟨j + 1, p, c, ck, e + 1, Q, f, by omega, rfl, rfl, rfl, by go_num, Lib.hid ⟨by have := HIV.out; omega, by have := HIV.out; omega, by omega, HIV.out.2.2.2⟩, HXN⟩
           case measure => simp [intOf]; omega
       ·have hjm' : ¬ (j : Int) < (M : Int) := by omega
        go_wp2_with fail
        go_loopw [19, 20] (fun v i wr => ∃ y : Nat, y ≤ 5 ∧ i = .int .i64 ((y + 1 : Nat) : Int) ∧ wr.ownsRow w7.heap.size 3 1 v (nodes5 Q y).length ((nodes5 Q y).map (Value.int .i64)) ∧ Hid (Kp w7 wr)) (fun _ i _ => 6 - (intOf i).toNat)
        case atStart => exact ⟨0, by decide, rfl, ⟨by rfl, .inl ⟨rfl, rfl⟩⟩, Lib.hid (Keeps.refl _ _)⟩
        case round =>
         obtain ⟨y, y5, rfl, ho, HKy⟩ := hrel
         by_cases hlt : y < 5
         ·have hlt' : ((y + 1 : Nat) : Int) ≤ 5 := by omega
          have hlt2 : (y : Int) + 1 ≤ 5 := by omega
          have hin := mnV_cell (HX7.out.kp HKy.out).blk y hlt
          have HO := Lib.hid ho
          have HLT := Lib.hid ho.lt
          have hln := nodes5_len Q y
          have hnx := nodes5_next Q y
          have hsz := HKy.out.size
          clear ho
          cases hqy : Q y with
          | false =>
           rw [hqy] at hin hnx
           have HNX := Lib.hid (show nodes5 Q (y + 1) = nodes5 Q y from by rw [hnx]; simp)
           clear hnx hln hqy hsz
           go_wp2_with fail
           go_roundw
           case rel => exact ⟨y + 1, by omega, by go_num, by rw [HNX.out]; exact HO.out, HKy⟩
           case measure => simp [intOf]; omega
          | true =>
           rw [hqy] at hin hnx
           have HNX := Lib.hid (show nodes5 Q (y + 1) = nodes5 Q y ++ [((y + 1 : Nat) : Int)] from by rw [hnx]; simp)
           clear hnx hqy
           have HX9 := Lib.hid HX7
           generalize nodes5 Q y = LL at HO HNX hln
           have kal : Kp wr (wr.alloc (.cells #[.int .i64 ((y : Int) + 1)] 3)) := (Keeps.refl _ wr).alloc _
           have hsz1 : w7.heap.size ≤ (wr.alloc (.cells #[.int .i64 ((y : Int) + 1)] 3)).heap.size := by simp; omega
           go_wp2_with (at_builtin; refine int_elem.list_append rfl (.tmp 150) (.tmp 152) _ rfl rfl (kal.own HO.out fun _ _ => trivial) rfl (src_one Tryz.underlying48 wr (.int .i64 ((y : Int) + 1)) 3 rfl _ rfl 1) ?c3 ?c4 hsz1 ?_)
           case c3 => unfold maxLen; omega
           case c4 => omega
           intro v3 w3' ho3 hg3 hb3
           have HK3 := Lib.hid ((HKy.out.trans kal).grown hg3 fun b hb => (HLT.out b hb).1)
           have HO3 := Lib.hid (show w3'.ownsRow w7.heap.size 3 1 v3 (nodes5 Q (y + 1)).length ((nodes5 Q (y + 1)).map (Value.int .i64)) from by
            rw [HNX.out, List.length_append, List.map_append]
            exact ho3)
           clear ho3 hg3 hb3 hsz hsz1 hln HO HKy kal hin HLT HX9
           go_wp2_with fail
           go_roundw
           case rel => exact ⟨y + 1, by omega, by go_num, HO3.out, HK3⟩
           case measure => simp [intOf]; omega
         ·obtain rfl : y = 5 := by omega
          have hlt' : ¬ ((5 + 1 : Nat) : Int) ≤ 5 := by decide
          have HXF := Lib.hid (HX7.out.kp HKy.out)
          obtain ⟨B, cB, e1, -, -, -⟩ := own_formC ho
          have hbrow : Row wr B (fun _ => True) ((nodes5 Q 5).map (Value.int .i64)) := by
           have h := ho
           have el : (nodes5 Q 5).length = ((nodes5 Q 5).map (Value.int .i64)).length := by rw [List.length_map]
           rw [e1, el] at h
           exact (Row.of_own h).mono fun _ _ _ => trivial
          subst e1
          have HB := Lib.hid hbrow
          have hnl := nodes5_len Q 5
          have HNL := Lib.hid hnl
          clear ho hbrow hnl HKy hlt HX7
          go_wp2_with fail
          refine (show Calls _ _ _ _ _ from HXF.out.own.mem).mono ?_
          rintro x wm ⟨A, cA, rfl, hr, hkm⟩
          rw [show (mnS (e + 1) Q f).mem = nodes5 Q 5 from rfl] at hr ⊢
          have HEQ := Lib.hid (eqints_same wm A B cA cB (nodes5 Q 5) hr (HB.out.keep hkm) (by have := HNL.out; omega))
          have HXM := Lib.hid (HXF.out.kp hkm)
          clear hr hkm HB HXF
          go_wp2_with fail
          refine (show Calls _ _ _ _ _ from HEQ.out).mono ?_
          rintro x wn ⟨rfl, hkn⟩
          have HXN := Lib.hid ((HXM.out.kp hkn).more (12 * (j + 1)) (by omega) (by have := HIV.out; omega))
          clear hkn HXM HEQ
          go_wp2_with fail
          go_roundw
          case rel => exact ⟨j + 1, p, c, ck, e + 1, Q, f, by omega, rfl, rfl, rfl, by go_num, Lib.hid ⟨by have := HIV.out; omega, by have := HIV.out; omega, by omega, HIV.out.2.2.2⟩, HXN⟩
          case measure => simp [intOf]; omega
   ·have h25' : ¬ (j : Int) < 25 := by omega
    have HE := Lib.hid HX.out.own.kpW
    clear HX
    go_wp2_with fail
    go_ret
    exact ⟨rfl, HE.out.below⟩
  ·obtain rfl : j = L := by omega
   have hl' : ¬ (j : Int) < (j : Int) := by omega
   have HE := Lib.hid HX.out.own.kpW
   clear HX
   go_wp2_with fail
   go_ret
   exact ⟨rfl, HE.out.below⟩
end Go.Proofs.YtemkjodkmehffaaGreatDoor.controlMany
