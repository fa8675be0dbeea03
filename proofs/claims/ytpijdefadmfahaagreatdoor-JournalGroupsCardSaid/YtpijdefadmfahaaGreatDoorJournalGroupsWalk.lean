/-
  JournalGroups, walked: keys that are added at once, and one by one.
-/
import Derived.Test.YtpijdefadmfahaaGreatDoorJrDuo
namespace Go.Proofs.YtpijdefadmfahaaGreatDoor.journalGroups
open Go Go.RowKit Go.Joins Go.Proofs.YtpijdefadmfahaaGreatDoor
def jG (ks : List ByteArray) (b a : Nat) : JSt := ⟨0, 20, ks, b, 32, a⟩
theorem jG_base {S : JournalOK} {W w : World} {p q : Nat} {ks : List ByteArray} {b a : Nat} {d : Bool} {X : Nat → Prop} (h : Jo S W w p q (jG ks b a) d X) (hl : ks.length ≤ 32) : b = 0 := by
  have h := h.wf.base
  have h2 : b ≤ ks.length - 32 := h
  omega
theorem jG_add (ks l : List ByteArray) (b a b2 : Nat) : jadd (jG ks b a) l b2 = jG (ks ++ l) b2 (a + l.length + 1) := rfl
section
variable {o : Oper} {a : Act} {w : World} {Q : Exit → Act → World → Prop} {x y : Operand}
theorem kp_atT {b f n c i : Nat} (hi : i < n) (ho : o.op = .indexAddr 29 x y) (hx : a.eval x = .slice (some ⟨b, f, none⟩) n c) (hy : a.eval y = .int .i64 (i : Int)) :
    o.wp Tryz.prog a w (fun a' w' => ∃ v, a' = a.put o.dst v ∧ Kp w w' ∧ IsV (.pointer (some ⟨b, f + i, none⟩)) w' v) Q := by
  refine kp_yield (v := .pointer (some ⟨b, f + i, none⟩)) (w' := w) ?_ (Keeps.refl _ _) rfl
  generalize a.eval = ρ at hx hy ⊢
  unfold execOp
  go_simp
end
def VS (b1 f1 c1 b2 f2 c2 b0 f0 c0 z k : Nat) (s : ByteArray) : Nat → World → Value → Prop :=
  Vl [.slice (some ⟨b1, f1, none⟩) z c1, .int .i64 (k : Int), .pointer (some ⟨b1, f1 + k * 2, none⟩), .pointer (some ⟨b1, f1 + k * 2, none⟩), .int .i64 ((k + 1 : Nat) : Int),
    .slice (some ⟨b2, f2, none⟩) z c2, .int .i64 (k : Int), .pointer (some ⟨b2, f2 + k * 2, none⟩), .pointer (some ⟨b2, f2 + k * 2, none⟩), .int .i64 ((k + 1 : Nat) : Int), .bool false, .bool false,
    .slice (some ⟨b1, f1, none⟩) z c1, .int .i64 (k : Int), .pointer (some ⟨b1, f1 + k * 2, none⟩), .pointer (some ⟨b1, f1 + k * 2 + 1, none⟩), .string s,
    .slice (some ⟨b2, f2, none⟩) z c2, .int .i64 (k : Int), .pointer (some ⟨b2, f2 + k * 2, none⟩), .pointer (some ⟨b2, f2 + k * 2 + 1, none⟩), .string s, .bool false, .bool false, .bool false,
    .slice (some ⟨b1, f1, none⟩) z c1, .int .i64 (k : Int), .pointer (some ⟨b1, f1 + k * 2, none⟩), .pointer (some ⟨b1, f1 + k * 2 + 1, none⟩), .string s,
    .slice (some ⟨b0, f0, none⟩) z c0, .int .i64 (k : Int), .pointer (some ⟨b0, f0 + k, none⟩), .string s, .bool false, .bool false]
def GS : Nat → Option Bool
  | 11 => some false
  | 24 => some false
  | _ => none
theorem GS_is {b1 f1 c1 b2 f2 c2 b0 f0 c0 z k : Nat} {s : ByteArray} (g : Nat) (x : Bool) (h : GS g = some x) (w : World) (v : Value) (hv : VS b1 f1 c1 b2 f2 c2 b0 f0 c0 z k s g w v) : v = .bool x := by
  unfold GS at h
  split at h
  · cases h; exact hv
  · cases h; exact hv
  · cases h
theorem all_snoc (ks : List ByteArray) (k : Nat) (h : k < ks.length) : (ks.take (k + 1)).all okB = ((ks.take k).all okB && okB ks[k]) := by
  rw [List.take_succ_eq_append_getElem h, List.all_append]; simp
set_option maxRecDepth 100000 in
set_option maxHeartbeats 2000000 in
theorem walk (S : JournalOK) (w : World) (hT : S.T w) (L : Option Addr) (lc : Nat) (l : List ByteArray) (hll : l.length ≤ lc) (hlc : lc ≤ maxLen) (hL : Row w L (fun b => b < w.heap.size) (l.map Value.string)) (hLs : ∀ s ∈ l, s.size ≤ maxLen) (bad : Int) : Calls Tryz.prog 5 #[.slice L l.length lc, .int .i64 bad] w fun e w' => e = .returned (.bool true) ∧ Below w.heap.size w w' := by
  have HT := Lib.hid hT
  have HL := Lib.hid hL
  have HLS := Lib.hid hLs
  have HLC := Lib.hid (And.intro hll hlc)
  obtain ⟨ll, hl0⟩ : ∃ ll, l.length = ll := ⟨_, rfl⟩
  have HLL := Lib.hid hl0
  rw [hl0]
  clear hT hL hLs hll hlc hl0
  go_enter Tryz.func5, Tryz.ntmps5
  go_wp2_with fail
  refine (show Calls _ _ _ _ _ from begun10 S w HT.out).mono ?_
  rintro e w1 ⟨rfl, hk⟩
  have K1 := Lib.hid hk
  clear hk
  go_wp2_with fail
  rw [← HLL.out]
  refine (show Calls _ _ _ _ _ from jtexts w1 L lc l HLC.out.1 HLC.out.2 ((HL.out.keep (K1.out.mono fun _ _ _ => trivial)).mono fun b _ hb => Nat.lt_of_lt_of_le hb K1.out.size) HLS.out).mono ?_
  rintro e w2 ⟨A0, c0, rfl, hc1, hc2, hrow, hk⟩
  have hz6 : (cuts l).length ≤ 6 := by rw [cuts_len]; omega
  have HKS := Lib.hid (cuts_size l)
  generalize cuts l = ks at hc1 hrow hz6 HKS
  obtain ⟨z, hz⟩ : ∃ z, ks.length = z := ⟨_, rfl⟩
  have HZ := Lib.hid hz
  rw [hz] at hc1 hz6 ⊢
  have HC0 := Lib.hid (And.intro hc1 hc2)
  have K2 := Lib.hid (K1.out.trans hk)
  obtain ⟨D, hD⟩ : ∃ D, w2.heap.size = D := ⟨_, rfl⟩
  have HR := Lib.hid (show Row w2 A0 (fun b => b < D) (ks.map Value.string) from hrow.mono fun b _ hb => by rw [← hD]; exact hb.2)
  have HD := Lib.hid hD
  clear hk K1 hc1 hc2 hrow hz hD HL HLS HLC HLL
  go_wp2_with fail
  refine (show Calls _ _ _ _ _ from jo_dev (X := fun b => b < D) K2.out (fun b hb => by rw [HD.out]; exact hb) 170 (by decide) (by decide) 170 rfl).mono ?_
  rintro e w3 ⟨pa, rfl, hB, hk⟩
  have HB := Lib.hid hB
  have HR3 := Lib.hid (HR.out.keep (hk.mono fun _ _ _ => trivial))
  have HDW := Lib.hid (show w.heap.size ≤ D from by rw [← HD.out]; exact K2.out.size)
  clear hB hk HR K2
  go_wp2_with fail
  refine (show Calls _ _ _ _ _ from jo_open HT.out HB.out 0 20 0 20 rfl rfl (by decide) (by decide) (by decide)).mono ?_
  rintro e w4 ⟨qa, rfl, hF, hk⟩
  have HA := Lib.hid (show Jo S w w4 pa qa (jG [] 0 1) false (fun b => b < D) from hF)
  have HR4 := Lib.hid (HR3.out.keep (hk.mono fun _ _ _ => trivial))
  clear hF hk HB HR3 HD
  go_wp2_with fail
  refine (show Calls _ _ _ _ _ from jo_dev (X := fun b => b < w4.heap.size) HA.out.kp (fun b hb => hb) 170 (by decide) (by decide) 170 rfl).mono ?_
  rintro e w5 ⟨pb, rfl, hB, hk5⟩
  have HB := Lib.hid hB
  have K5 := Lib.hid hk5
  clear hB hk5
  go_wp2_with fail
  refine (show Calls _ _ _ _ _ from jo_open HT.out HB.out 0 20 0 20 rfl rfl (by decide) (by decide) (by decide)).mono ?_
  rintro e w6 ⟨qb, rfl, hF, hk⟩
  have HJ := Lib.hid (show Jo2 S w w6 pa qa (jG [] 0 1) false pb qb (jG [] 0 1) false (fun b => b < D) from jo2_new (fun b hb => by
    obtain ⟨F, Fs, s, a1, a2, a3, a4, a5, a6, a7⟩ := HA.out
    exact (a7 b hb).2.2) (fun b hb => Nat.lt_of_lt_of_le hb HDW.out) HA.out (K5.out.trans hk) hF)
  have HR6 := Lib.hid (HR4.out.keep ((K5.out.trans hk).mono fun _ _ _ => trivial))
  clear hF hk HB K5 HA HR4
  go_wp2_with fail
  obtain ⟨W6, hW6⟩ : ∃ W, W = w6 := ⟨w6, rfl⟩
  rw [← hW6] at HJ HR6
  have HW := Lib.hid hW6
  clear hW6
  go_loopw [10, 11] (fun g i wr => ∃ (k : Nat) (x : Bool), k ≤ z ∧ i = .int .i64 (k : Int) ∧ g = .bool x ∧ Hid (x = (ks.take k).all okB) ∧ Hid (W6 = wr)) (fun _ i _ => z - (intOf i).toNat)
  case atStart => exact ⟨0, true, Nat.zero_le _, rfl, rfl, Lib.hid rfl, HW⟩
  case round =>
    clear HW
    obtain ⟨k, x, hk, rfl, rfl, HX, HW⟩ := hrel
    by_cases hkz : k < z
    · have t1 : decide ((k : Int) < (z : Int)) = true := by simp; omega
      have t1' : decide (k < z) = true := by simp; omega
      have hkl : k < ks.length := by rw [HZ.out]; exact hkz
      have HS := Lib.hid (all_snoc ks k hkl)
      cases x
      · go_wp2_with fail
        go_roundw
        case rel => exact ⟨k + 1, false, by omega, by go_num, rfl, Lib.hid (by rw [HS.out, ← HX.out]; rfl), HW⟩
        case measure => simp [intOf]; omega
      · obtain ⟨b, f, rfl, -, hcell⟩ := HR6.out.at_ (k := k) (by rw [List.length_map]; exact hkl)
        rw [List.getElem_map, HW.out] at hcell
        have hsz : ks[k].size ≤ 1000000 := Nat.le_trans (HKS.out _ (List.getElem_mem hkl)) (by decide)
        have HKY := Lib.hid (jkey ks[k] hsz)
        generalize ks[k] = s at hcell HKY HS
        clear hsz hkl
        go_wp2_with (go_at_call 16; ((with_reducible refine (HKY.out _).mono ?_); rintro e w' ⟨rfl, rfl⟩))
        go_roundw
        case rel => exact ⟨k + 1, okB s, by omega, by go_num, rfl, Lib.hid (by rw [HS.out, ← HX.out]; rfl), HW⟩
        case measure => simp [intOf]; omega
    · have t1 : decide ((k : Int) < (z : Int)) = false := by simp; omega
      have t1' : decide (k < z) = false := by simp; omega
      have hkz2 : k = z := by omega
      have hx : x = ks.all okB := by rw [HX.out, hkz2, ← HZ.out, List.take_length]
      have HX2 := Lib.hid hx
      rw [HW.out] at HJ HR6
      clear hx HX HW hkz hk hkz2
      go_wp2_with fail
      clear t1 t1'
      cases x
      · have hno : ∃ k ∈ ks, ¬ keyOk k := by
          have h : ¬ ∀ k ∈ ks, okB k = true := fun h => by
            have := List.all_eq_true.2 h
            rw [← HX2.out] at this
            cases this
          refine Classical.byContradiction fun hn => h fun k hk => (okB_iff k).2 (Classical.byContradiction fun h2 => hn ⟨k, hk, h2⟩)
        refine (show Calls _ _ _ _ _ from jo_addNo HT.out HJ.out.a A0 ks (HR6.out.mono fun _ _ _ => trivial) c0 z HZ.out.symm HC0.out.1 HC0.out.2 (by omega) (fun k hk => Nat.le_trans (HKS.out k hk) (by decide)) hno).mono ?_
        rintro e w7 ⟨rfl, -, hF⟩
        have HF7 := Lib.hid hF
        clear hF HJ hno HR6
        go_wp2_with fail
        refine (show Calls _ _ _ _ _ from jo_seq HT.out HF7.out 0 rfl).mono ?_
        rintro e w8 ⟨rfl, -, hF⟩
        have HF8 := Lib.hid hF
        clear hF HF7
        go_wp2_with fail
        go_ret
        exact ⟨rfl, HF8.out.kp.below⟩
      · have HOK := Lib.hid (show ∀ k ∈ ks, keyOk k from fun k hk => (okB_iff k).1 (List.all_eq_true.1 HX2.out.symm k hk))
        refine (show Calls _ _ _ _ _ from jo2_addA HT.out HJ.out (by show 1 ≤ 20000; decide) A0 ks HR6.out c0 z HZ.out.symm HC0.out.1 HC0.out.2 (by omega) HOK.out (z : Int) (by show (z : Int) = (([] : List ByteArray).length + ks.length : Nat); rw [HZ.out]; simp)).mono ?_
        rintro e w7 ⟨rfl, b7, -, hF, hk⟩
        rw [jG_add, List.nil_append] at hF
        obtain rfl := jG_base hF.a (by rw [HZ.out]; omega)
        generalize 1 + ks.length + 1 = aa at hF
        have HJ7 := Lib.hid hF.loose
        have HR7 := Lib.hid (HR6.out.keep (hk.mono fun b _ hb => hb))
        clear hF hk HJ HR6 HX2 HKS
        go_wp2_with fail
        go_loopw [13] (fun i wr => ∃ k : Nat, k ≤ z ∧ i = .int .i64 (k : Int) ∧ Hid (Jo2 S w wr pa qa (jG ks 0 aa) false pb qb (jG (ks.take k) 0 (1 + 2 * k)) false (fun b => b < D)) ∧ Hid (Row wr A0 (fun b => b < D) (ks.map Value.string))) (fun i _ => z - (intOf i).toNat)
        case atStart => exact ⟨0, Nat.zero_le _, rfl, HJ7, HR7⟩
        case round =>
          clear HJ7 HR7
          obtain ⟨k, hk, rfl, HJ, HR⟩ := hrel
          by_cases hkz : k < z
          · have t1 : decide ((k : Int) < (z : Int)) = true := by simp; omega
            have t1' : decide (k < z) = true := by simp; omega
            have hkl : k < ks.length := by rw [HZ.out]; exact hkz
            obtain ⟨b, f, rfl, -, hcell⟩ := HR.out.at_ (k := k) (by rw [List.length_map]; exact hkl)
            rw [List.getElem_map] at hcell
            have HS := Lib.hid (show ks.take k ++ [ks[k]] = ks.take (k + 1) from (List.take_succ_eq_append_getElem hkl).symm)
            have HKK := Lib.hid (HOK.out _ (List.getElem_mem hkl))
            generalize ks[k] = s at hcell HS HKK
            go_wp2_with fail
            clear t1 t1' hcell
            refine (show Calls _ _ _ _ _ from jo2_addB HT.out HJ.out (by show 1 + 2 * k ≤ 20000; omega) s HKK.out ((k : Int) + 1) (by show (k : Int) + 1 = (((ks.take k).length + 1 : Nat) : Int); rw [List.length_take, HZ.out, Nat.min_eq_left hk]; rfl)).mono ?_
            rintro e w8 ⟨rfl, b8, -, hF, hk8⟩
            rw [jG_add, HS.out] at hF
            obtain rfl := jG_base hF.b (by rw [List.length_take]; omega)
            have HJ8 := Lib.hid (show Jo2 S w w8 pa qa (jG ks 0 aa) false pb qb (jG (ks.take (k + 1)) 0 (1 + 2 * (k + 1))) false (fun b => b < D) from hF.loose)
            have HR8 := Lib.hid (HR.out.keep (hk8.mono fun b _ hb => hb))
            clear hF hk8 HJ HR HS HKK hkl
            go_wp2_with fail
            go_roundw
            case rel => exact ⟨k + 1, by omega, by go_num, HJ8, HR8⟩
            case measure => simp [intOf]; omega
          · have t1 : decide ((k : Int) < (z : Int)) = false := by simp; omega
            have t1' : decide (k < z) = false := by simp; omega
            obtain rfl : z = k := by omega
            have hks : ks.take z = ks := by rw [← HZ.out, List.take_length]
            rw [hks] at HJ
            clear hks hk hkz
            go_wp2_with fail
            clear t1 t1'
            have HSA := Lib.hid (show ks = ((jG ks 0 aa).keys.drop 0).take 10 from by
              rw [List.drop_zero]
              exact (List.take_of_length_le (by show ks.length ≤ 10; rw [HZ.out]; omega)).symm)
            refine (show Calls _ _ _ _ _ from jo_since HT.out HJ.out.a 0 10 0 10 rfl rfl (Nat.le_refl _) (Nat.zero_le _) (by decide) ks HSA.out).mono ?_
            rintro e w8 ⟨A1, c1, rfl, hc1, hc2, hm, hk8, -⟩
            rw [HZ.out] at hc1 ⊢
            have HM8 := Lib.hid (show MarksAt w8 A1 (fun _ => True) 0 ks from fun i hi => by
              obtain ⟨b, o, e, -, c0, c1⟩ := hm i hi
              exact ⟨b, o, e, trivial, c0, c1⟩)
            have HJ8 := Lib.hid (HJ.out.keep hk8)
            have HR8 := Lib.hid (HR.out.keep (hk8.mono fun _ _ _ => trivial))
            unfold maxLen at hc2
            clear hm hk8 HJ HR
            go_wp2_with fail
            refine (show Calls _ _ _ _ _ from jo_since HT.out HJ8.out.b 0 10 0 10 rfl rfl (Nat.le_refl _) (Nat.zero_le _) (by decide) ks HSA.out).mono ?_
            rintro e w9 ⟨A2, c2, rfl, hd1, hd2, hm, hk9, -⟩
            rw [HZ.out] at hd1 ⊢
            have HM2 := Lib.hid (show MarksAt w9 A2 (fun _ => True) 0 ks from fun i hi => by
              obtain ⟨b, o, e, -, c0, c1⟩ := hm i hi
              exact ⟨b, o, e, trivial, c0, c1⟩)
            have HM1 := Lib.hid (HM8.out.keep (hk9.mono fun _ _ _ => trivial))
            have HR9 := Lib.hid (HR8.out.keep (hk9.mono fun _ _ _ => trivial))
            have HKE := Lib.hid (HJ8.out.kp.trans hk9)
            unfold maxLen at hd2
            clear hm hk9 HJ8 HM8 HR8 HSA
            go_wp2_with fail
            obtain ⟨W9, hW9⟩ : ∃ W, W = w9 := ⟨w9, rfl⟩
            rw [← hW9] at HM1 HM2 HR9 HKE
            have HK9 := Lib.hid (show Kp W9 w9 from by rw [hW9]; exact Keeps.refl _ _)
            clear hW9
            go_loopw [20] (fun i wr => ∃ k : Nat, k ≤ z ∧ i = .int .i64 (k : Int) ∧ Hid (Kp W9 wr)) (fun i _ => z - (intOf i).toNat)
            case atStart => exact ⟨0, Nat.zero_le _, rfl, HK9⟩
            case round =>
              clear HK9
              obtain ⟨k, hk, rfl, HK⟩ := hrel
              by_cases hkz : k < z
              · have t1 : decide ((k : Int) < (z : Int)) = true := by simp; omega
                have t1' : decide (k < z) = true := by simp; omega
                have hkl : k < ks.length := by rw [HZ.out]; exact hkz
                obtain ⟨b1, f1, rfl, -, a0, a1⟩ := HM1.out k hkl
                obtain ⟨b2, f2, rfl, -, d0, d1⟩ := HM2.out k hkl
                obtain ⟨b0, f0, rfl, -, r0⟩ := HR9.out.at_ (k := k) (by rw [List.length_map]; exact hkl)
                rw [List.getElem_map] at r0
                rw [Nat.zero_add] at a0 d0
                generalize ks[k] = s at a1 d1 r0
                have HA0 := Lib.hid (HK.out.cell a0 trivial)
                have HA1 := Lib.hid (HK.out.cell a1 trivial)
                have HD0 := Lib.hid (HK.out.cell d0 trivial)
                have HD1 := Lib.hid (HK.out.cell d1 trivial)
                have HE := Lib.hid (HK.out.cell r0 trivial)
                clear a0 a1 d0 d1 r0 hkl
                go_wp2_with fail
                clear t1 t1'
                refine wp_region_guard (R := Kp) (V := VS b1 f1 c1 b2 f2 c2 b0 f0 c0 z k s) (w0 := wr) GS (by kernel_rfl) (fun w => Keeps.refl _ w) (fun _ _ _ h k => h.trans k) (fun i w w' v h hv => hv) (by kernel_rfl) GS_is (fun i o ho hw => (all_wanted (by kernel_rfl) ho hw).elim) ((Keeps.refl _ wr).drew) (each_of ?_) ?_
                · refine ⟨?_, ?_, ?_, ?_, ?_, ?_, ?_, ?_, ?_, ?_, ?_, ?_, ?_, ?_, ?_, ?_, ?_, ?_, ?_, ?_, ?_, ?_, ?_, ?_, ?_, ?_, ?_, ?_, ?_, ?_, ?_, ?_, ?_, ?_, ?_, ?_, trivial⟩ <;> intro hw a1 w3 L
                  · exact kp_move rfl (L.old 16 (by kernel_rfl))
                  · exact kp_move rfl (L.old 20 (by kernel_rfl))
                  · exact kp_atM (n := z) (c := c1) (i := k) hkz rfl (L.val 0 138 (by kernel_rfl) (by kernel_rfl)) (L.val 1 139 (by kernel_rfl) (by kernel_rfl))
                  · exact kp_fM0 rfl (L.val 2 140 (by kernel_rfl) (by kernel_rfl))
                  · exact kp_ldI (L.rel.cell HA0.out trivial) rfl (L.val 3 141 (by kernel_rfl) (by kernel_rfl))
                  · exact kp_move rfl (L.old 18 (by kernel_rfl))
                  · exact kp_move rfl (L.old 20 (by kernel_rfl))
                  · exact kp_atM (n := z) (c := c2) (i := k) hkz rfl (L.val 5 143 (by kernel_rfl) (by kernel_rfl)) (L.val 6 144 (by kernel_rfl) (by kernel_rfl))
                  · exact kp_fM0 rfl (L.val 7 145 (by kernel_rfl) (by kernel_rfl))
                  · exact kp_ldI (L.rel.cell HD0.out trivial) rfl (L.val 8 146 (by kernel_rfl) (by kernel_rfl))
                  · exact kp_neqI (by simp) rfl (L.val 4 142 (by kernel_rfl) (by kernel_rfl)) (L.val 9 147 (by kernel_rfl) (by kernel_rfl))
                  · exact kp_move rfl (L.val 10 148 (by kernel_rfl) (by kernel_rfl))
                  · exact kp_move rfl (L.old 16 (by kernel_rfl))
                  · exact kp_move rfl (L.old 20 (by kernel_rfl))
                  · exact kp_atM (n := z) (c := c1) (i := k) hkz rfl (L.val 12 150 (by kernel_rfl) (by kernel_rfl)) (L.val 13 151 (by kernel_rfl) (by kernel_rfl))
                  · exact kp_fM1 rfl (L.val 14 152 (by kernel_rfl) (by kernel_rfl))
                  · exact kp_ldT (L.rel.cell HA1.out trivial) rfl (L.val 15 153 (by kernel_rfl) (by kernel_rfl))
                  · exact kp_move rfl (L.old 18 (by kernel_rfl))
                  · exact kp_move rfl (L.old 20 (by kernel_rfl))
                  · exact kp_atM (n := z) (c := c2) (i := k) hkz rfl (L.val 17 155 (by kernel_rfl) (by kernel_rfl)) (L.val 18 156 (by kernel_rfl) (by kernel_rfl))
                  · exact kp_fM1 rfl (L.val 19 157 (by kernel_rfl) (by kernel_rfl))
                  · exact kp_ldT (L.rel.cell HD1.out trivial) rfl (L.val 20 158 (by kernel_rfl) (by kernel_rfl))
                  · exact kp_neqT rfl (L.val 16 154 (by kernel_rfl) (by kernel_rfl)) (L.val 21 159 (by kernel_rfl) (by kernel_rfl))
                  · exact kp_pick rfl (L.val 11 149 (by kernel_rfl) (by kernel_rfl)) (L.val 22 160 (by kernel_rfl) (by kernel_rfl))
                  · exact kp_move rfl (L.val 23 161 (by kernel_rfl) (by kernel_rfl))
                  · exact kp_move rfl (L.old 16 (by kernel_rfl))
                  · exact kp_move rfl (L.old 20 (by kernel_rfl))
                  · exact kp_atM (n := z) (c := c1) (i := k) hkz rfl (L.val 25 163 (by kernel_rfl) (by kernel_rfl)) (L.val 26 164 (by kernel_rfl) (by kernel_rfl))
                  · exact kp_fM1 rfl (L.val 27 165 (by kernel_rfl) (by kernel_rfl))
                  · exact kp_ldT (L.rel.cell HA1.out trivial) rfl (L.val 28 166 (by kernel_rfl) (by kernel_rfl))
                  · exact kp_move rfl (L.old 0 (by kernel_rfl))
                  · exact kp_move rfl (L.old 20 (by kernel_rfl))
                  · exact kp_atT (n := z) (c := c0) (i := k) hkz rfl (L.val 30 168 (by kernel_rfl) (by kernel_rfl)) (L.val 31 169 (by kernel_rfl) (by kernel_rfl))
                  · exact kp_ldT (L.rel.cell HE.out trivial) rfl (L.val 32 170 (by kernel_rfl) (by kernel_rfl))
                  · exact kp_neqT rfl (L.val 29 167 (by kernel_rfl) (by kernel_rfl)) (L.val 33 171 (by kernel_rfl) (by kernel_rfl))
                  · exact kp_pick rfl (L.val 24 162 (by kernel_rfl) (by kernel_rfl)) (L.val 34 172 (by kernel_rfl) (by kernel_rfl))
                · intro vs w8 hw8 hlen hv
                  match vs, hlen with
                  | v0 :: v1 :: v2 :: v3 :: v4 :: v5 :: v6 :: v7 :: v8 :: v9 :: v10 :: v11 :: v12 :: v13 :: v14 :: v15 :: v16 :: v17 :: v18 :: v19 :: v20 :: v21 :: v22 :: v23 :: v24 :: v25 :: v26 :: v27 :: v28 :: v29 :: v30 :: v31 :: v32 :: v33 :: v34 :: v35 :: [], _ =>
                    have e35 : v35 = .bool false := hv 35 173 (by kernel_rfl)
                    clear hv
                    subst e35
                    have HK8 := Lib.hid (HK.out.trans hw8)
                    clear hw8 HA0 HA1 HD0 HD1 HE
                    simp only [putAll, List.map, Act.put, List.setIfInBounds_toArray, List.set_cons_succ, List.set_cons_zero, Exit.then]
                    go_wp2_with fail
                    go_roundw
                    case rel => exact ⟨k + 1, by omega, by go_num, HK8⟩
                    case measure => simp [intOf]; omega
              · have t1 : decide ((k : Int) < (z : Int)) = false := by simp; omega
                have t1' : decide (k < z) = false := by simp; omega
                have HE := Lib.hid (HKE.out.trans HK.out)
                clear HKE HK HM1 HM2 HR9
                go_wp2_with fail
                go_ret
                exact ⟨rfl, HE.out.below⟩
end Go.Proofs.YtpijdefadmfahaaGreatDoor.journalGroups
