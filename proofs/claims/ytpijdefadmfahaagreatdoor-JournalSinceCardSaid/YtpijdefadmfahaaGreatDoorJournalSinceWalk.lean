/-
  JournalSince, walked: what was told up to some number, and from there on, is all.
-/
import Derived.Test.YtpijdefadmfahaaGreatDoorAllJrA
namespace Go.Proofs.YtpijdefadmfahaaGreatDoor.journalSince
open Go Go.RowKit Go.Joins Go.Proofs.YtpijdefadmfahaaGreatDoor
def kn (i : Nat) : ByteArray := key2 107 (97 + i)
def kns (k : Nat) : List ByteArray := (List.range k).map kn
theorem kns_len (k : Nat) : (kns k).length = k := by simp [kns]
theorem kns_succ (k : Nat) : kns (k + 1) = kns k ++ [kn k] := by simp [kns, List.range_succ]
theorem kns_at (k i : Nat) (h : i < (kns k).length) : (kns k)[i] = kn i := by simp [kns]
def jS (k : Nat) : JSt := ⟨3, 20, kns k, 0, 32, 1 + 2 * k⟩
def VS (b f z i t : Nat) (c : Nat) (j : Nat) : World → Value → Prop :=
  if j = 17 then Two 107 (97 + t)
  else Vl [.slice (some ⟨b, f, none⟩) z c, .int .i64 (i : Int), .pointer (some ⟨b, f + i * 2, none⟩), .pointer (some ⟨b, f + i * 2, none⟩), .int .i64 ((t + 1 : Nat) : Int), .int .i64 ((t + 1 : Nat) : Int), .bool false, .bool false,
      .slice (some ⟨b, f, none⟩) z c, .int .i64 (i : Int), .pointer (some ⟨b, f + i * 2, none⟩), .pointer (some ⟨b, f + i * 2 + 1, none⟩), .string (kn t), .int .i64 ((t + 1 : Nat) : Int), .int .i64 ((97 + (t + 1) : Nat) : Int), .int .i64 ((97 + t : Nat) : Int), .int .u8 ((97 + t : Nat) : Int), undef, .string (kn t), .bool false, .bool false] j
theorem VS_keep {b f z i t c : Nat} (j : Nat) (w w' : World) (v : Value) (h : Kp w w') (hv : VS b f z i t c j w v) : VS b f z i t c j w' v := by
  unfold VS at hv ⊢
  by_cases hj : j = 17
  · rw [if_pos hj] at hv ⊢; exact hv.keep h
  · rw [if_neg hj] at hv ⊢; exact hv
def GS : Nat → Option Bool
  | 7 => some false
  | _ => none
theorem GS_is {b f z i t c : Nat} (g : Nat) (x : Bool) (h : GS g = some x) (w : World) (v : Value) (hv : VS b f z i t c g w v) : v = .bool x := by
  unfold GS at h
  split at h
  · cases h; exact hv
  · cases h
set_option maxRecDepth 100000 in
set_option maxHeartbeats 2000000 in
theorem walk (S : JournalOK) (w : World) (hT : S.T w) (n per : Int) : Calls Tryz.prog 6 #[.int .i64 n, .int .i64 per] w fun e w' => e = .returned (.bool true) ∧ Below w.heap.size w w' := by
  have HT := Lib.hid hT
  clear hT
  have hcs : (decide (n < 0) = true) ∨ (decide (n < 0) = false ∧ decide (28 < n) = true) ∨ (decide (n < 0) = false ∧ decide (28 < n) = false ∧ decide (per < 1) = true) ∨ (decide (n < 0) = false ∧ decide (28 < n) = false ∧ decide (per < 1) = false ∧ decide (10 < per) = true) ∨ (decide (n < 0) = false ∧ decide (28 < n) = false ∧ decide (per < 1) = false ∧ decide (10 < per) = false) := by
    cases decide (n < 0) <;> cases decide (28 < n) <;> cases decide (per < 1) <;> cases decide (10 < per) <;> simp
  go_enter Tryz.func6, Tryz.ntmps6
  go_wp2_with fail
  refine (show Calls _ _ _ _ _ from begun10 S w HT.out).mono ?_
  rintro e w1 ⟨rfl, hk⟩
  have K1 := Lib.hid hk
  clear hk
  rcases hcs with t1 | ⟨t1, t2⟩ | ⟨t1, t2, t3⟩ | ⟨t1, t2, t3, t4⟩ | ⟨t1, t2, t3, t4⟩
  · go_wp2_with fail
    go_ret
    exact ⟨rfl, K1.out.below⟩
  · go_wp2_with fail
    go_ret
    exact ⟨rfl, K1.out.below⟩
  · go_wp2_with fail
    go_ret
    exact ⟨rfl, K1.out.below⟩
  · go_wp2_with fail
    go_ret
    exact ⟨rfl, K1.out.below⟩
  · obtain ⟨N, rfl⟩ : ∃ N : Nat, n = N := ⟨n.toNat, by have := of_decide_eq_false t1; omega⟩
    obtain ⟨P, rfl⟩ : ∃ P : Nat, per = P := ⟨per.toNat, by have := of_decide_eq_false t3; omega⟩
    have hN : N ≤ 28 := by have := of_decide_eq_false t2; omega
    have hP1 : 1 ≤ P := by have := of_decide_eq_false t3; omega
    have hP2 : P ≤ 10 := by have := of_decide_eq_false t4; omega
    go_wp2_with fail
    clear t1 t2 t3 t4
    refine (show Calls _ _ _ _ _ from jo_dev (X := fun _ => False) K1.out (fun _ h => h.elim) 170 (by decide) (by decide) 170 rfl).mono ?_
    rintro e w2 ⟨p, rfl, hB, -⟩
    have HB := Lib.hid hB
    clear hB K1
    go_wp2_with fail
    refine (show Calls _ _ _ _ _ from jo_open HT.out HB.out 3 20 3 20 rfl rfl (by decide) (by decide) (by decide)).mono ?_
    rintro e w3 ⟨q, rfl, hF, -⟩
    have HF := Lib.hid (show Jo S w w3 p q (jS 0) false (fun _ => False) from hF)
    clear hF HB
    go_wp2_with fail
    go_loopw [8] (fun i wr => ∃ k : Nat, k ≤ N ∧ i = .int .i64 (k : Int) ∧ Hid (Jo S w wr p q (jS k) false (fun _ => False))) (fun i _ => N - (intOf i).toNat)
    case atStart => exact ⟨0, Nat.zero_le _, rfl, HF⟩
    case round =>
      clear HF
      obtain ⟨k, hk, rfl, HF⟩ := hrel
      by_cases hkn : k < N
      · have t1 : decide ((k : Int) < (N : Int)) = true := by simp; omega
        have t1' : decide (k < N) = true := by simp; omega
        have HCV := Lib.hid (fun (W : World) => key2_conv W 107 (97 + k) (by decide) (by omega) 107 (97 + (k : Int)) rfl (by omega))
        have hwr : IntKind.u8.wrap (97 + (k : Int)) = 97 + (k : Int) := by
          rw [IntKind.wrap_u8]; omega
        go_wp2_with (rw [HCV.out])
        have hk2 : Kp wr ((wr.alloc (.cells #[.int .u8 107, .int .u8 (97 + (k : Int))] 5)).alloc (.cells #[.string (key2 107 (97 + k))] 9)) := ((Keeps.refl _ wr).alloc _).alloc _
        have HF2 := Lib.hid (HF.out.more (Y := fun b => b = wr.heap.size + 1) hk2 fun b hb => .inr (by rw [hb]; simp))
        have HR2 := Lib.hid (Row.fresh (wr.alloc (.cells #[.int .u8 107, .int .u8 (97 + (k : Int))] 5)) #[.string (key2 107 (97 + k))] 9 (0, 0) (wr.heap.size + 1) (by simp) (F := fun b => b = wr.heap.size + 1) rfl ([kn k].map Value.string) rfl)
        clear hk2 HF HCV hwr t1 t1'
        refine (show Calls _ _ _ _ _ from jo_add HT.out HF2.out (by show 1 + 2 * k ≤ 20000; omega) (some ⟨wr.heap.size + 1, 0, none⟩) [kn k] HR2.out 1 1 rfl (Nat.le_refl _) (by unfold maxLen; decide) (by decide) (fun x hx => by rw [List.mem_singleton.1 hx]; exact key2_ok _ _) _ rfl).mono ?_
        rintro e w5 ⟨rfl, b, -, hF, -⟩
        have hb0 : b = 0 := by
          have h := hF.wf.base
          have h2 : (jadd (jS k) [kn k] b).keys.length = k + 1 := by show (kns k ++ [kn k]).length = k + 1; simp [kns_len]
          rw [h2] at h
          have h3 : b ≤ k + 1 - 32 := h
          omega
        subst hb0
        have e1 : jadd (jS k) [kn k] 0 = jS (k + 1) := by
          unfold jadd jS
          rw [kns_succ]
          simp only [JSt.mk.injEq, List.length_cons, List.length_nil, true_and]
          omega
        rw [e1] at hF
        have HF5 := Lib.hid (hF.less (Y := fun _ => False) (fun _ h => h.elim)).loose
        clear hF HF2 HR2 e1
        go_wp2_with fail
        go_roundw
        case rel => exact ⟨k + 1, by omega, by go_num, HF5⟩
        case measure => simp [intOf]; omega
      · have t1 : decide ((k : Int) < (N : Int)) = false := by simp; omega
        have t1' : decide (k < N) = false := by simp; omega
        obtain rfl : N = k := by omega
        go_wp2_with fail
        clear t1 t1'
        go_loopw [9] (fun i wr => ∃ a : Nat, a ≤ N ∧ i = .int .i64 (a : Int) ∧ Hid (Jo S w wr p q (jS N) false (fun _ => False))) (fun i _ => N - (intOf i).toNat)
        case atStart => exact ⟨0, Nat.zero_le _, rfl, HF⟩
        case round =>
          clear HF
          obtain ⟨a, ha, rfl, HF⟩ := hrel
          by_cases han : a < N
          · have t1 : decide ((a : Int) < (N : Int)) = true := by simp; omega
            have t1' : decide (a < N) = true := by simp; omega
            have HSN := Lib.hid (jo_since HT.out HF.out a P (a : Int) (P : Int) rfl rfl (Nat.zero_le _) (by show a ≤ (kns N).length; rw [kns_len]; exact ha) (by omega) _ rfl)
            go_wp2_with fail
            refine (show Calls _ _ _ _ _ from HSN.out).mono ?_
            rintro e w5 ⟨A, c, rfl, hlc, hcm, hmk, hk5, hF5⟩
            have HF5 := Lib.hid hF5
            obtain ⟨l, hl⟩ : ∃ l, ((jS N).keys.drop a).take P = l := ⟨_, rfl⟩
            rw [hl] at hlc hmk ⊢
            have hll : l.length = min P (N - a) := by
              rw [← hl, List.length_take, List.length_drop]
              show min P ((kns N).length - a) = _
              rw [kns_len]
            have HLA := Lib.hid (show ∀ i (hi : i < l.length), l[i] = kn (a + i) from fun i hi => by
              have h1 : (((jS N).keys.drop a).take P)[i]? = some (kn (a + i)) := by
                have h2 : i < P := by omega
                rw [List.getElem?_take, if_pos h2, List.getElem?_drop]
                show (kns N)[a + i]? = _
                rw [List.getElem?_eq_getElem (by rw [kns_len]; omega), kns_at]
              rw [hl, List.getElem?_eq_getElem hi] at h1
              exact Option.some.inj h1)
            have HMK := Lib.hid hmk
            obtain ⟨z, hz⟩ : ∃ z, l.length = z := ⟨_, rfl⟩
            have HZ := Lib.hid hz
            rw [hz] at hlc hll ⊢
            have u1 : ((z : Int) == 0) = false := by simp; omega
            have u2 : decide ((P : Int) < (z : Int)) = false := by simp; omega
            have u2' : decide (P < z) = false := by simp; omega
            unfold maxLen at hcm
            have hz1 : 1 ≤ z := by omega
            have hz2 : z ≤ P := by omega
            have hz3 : a + z ≤ N := by omega
            clear hl hmk hk5 hF5 HSN HF hz t1 t1' hll
            go_wp2_with fail
            clear u1 u2 u2'
            obtain ⟨W5, hW5⟩ : ∃ W, W = w5 := ⟨w5, rfl⟩
            have HK5 := Lib.hid (show Kp W5 w5 from by rw [hW5]; exact Keeps.refl _ _)
            have HM5 := Lib.hid (show MarksAt W5 A (fun _ => True) a l from by
              rw [hW5]
              intro i hi
              obtain ⟨b, o, e, -, c0, c1⟩ := HMK.out i hi
              exact ⟨b, o, e, trivial, c0, c1⟩)
            have HF6 := Lib.hid (show Jo S w W5 p q (jS N) false (fun _ => False) from by rw [hW5]; exact HF5.out)
            clear hW5 HF5 HMK
            go_loopw [9, 12] (fun t i wr => ∃ k : Nat, k ≤ z ∧ i = .int .i64 (k : Int) ∧ t = .int .i64 ((a + k : Nat) : Int) ∧ Hid (Kp W5 wr)) (fun _ i _ => z - (intOf i).toNat)
            case atStart => exact ⟨0, Nat.zero_le _, rfl, rfl, HK5⟩
            case round =>
              clear HK5
              obtain ⟨k, hk, rfl, rfl, HK⟩ := hrel
              by_cases hkz : k < z
              · have t1 : decide ((k : Int) < (z : Int)) = true := by simp; omega
                have t1' : decide (k < z) = true := by simp; omega
                have hkl : k < l.length := by rw [HZ.out]; exact hkz
                obtain ⟨b, f, rfl, -, c0, c1⟩ := HM5.out k hkl
                rw [HLA.out k hkl] at c1
                have HC0 := Lib.hid (HK.out.cell c0 trivial)
                have HC1 := Lib.hid (HK.out.cell c1 trivial)
                clear c0 c1
                have hwr : IntKind.i64.wrap ((a : Int) + (k : Int) + 1) = (a : Int) + (k : Int) + 1 := by rw [IntKind.wrap_i64]; omega
                obtain ⟨t, ht⟩ : ∃ t, a + k = t := ⟨_, rfl⟩
                have HTT := Lib.hid ht
                have htb : t ≤ 28 := by omega
                rw [ht] at HC0 HC1 ⊢
                clear ht hwr
                go_wp2_with fail
                refine wp_region_guard (R := Kp) (V := VS b f z k t c) (w0 := wr) GS (by kernel_rfl) (fun w => Keeps.refl _ w) (fun _ _ _ h k => h.trans k) (fun i w w' v h hv => VS_keep i w w' v h hv) (by kernel_rfl) GS_is (fun i o ho hw => (all_wanted (by kernel_rfl) ho hw).elim) ((Keeps.refl _ wr).drew) (each_of ?_) ?_
                · refine ⟨?_, ?_, ?_, ?_, ?_, ?_, ?_, ?_, ?_, ?_, ?_, ?_, ?_, ?_, ?_, ?_, ?_, ?_, ?_, ?_, ?_, trivial⟩ <;> intro hw a1 w3 L
                  · exact kp_move rfl (L.old 10 (by kernel_rfl))
                  · exact kp_move rfl (L.old 12 (by kernel_rfl))
                  · exact kp_atM (n := z) (c := c) (i := k) hkz rfl (L.val 0 85 (by kernel_rfl) (by kernel_rfl)) (L.val 1 86 (by kernel_rfl) (by kernel_rfl))
                  · exact kp_fM0 rfl (L.val 2 87 (by kernel_rfl) (by kernel_rfl))
                  · exact kp_ldI (L.rel.cell HC0.out trivial) rfl (L.val 3 88 (by kernel_rfl) (by kernel_rfl))
                  · exact kp_move rfl (L.old 9 (by kernel_rfl))
                  · exact kp_neqI (by simp) rfl (L.val 4 89 (by kernel_rfl) (by kernel_rfl)) (L.val 5 90 (by kernel_rfl) (by kernel_rfl))
                  · exact kp_move rfl (L.val 6 91 (by kernel_rfl) (by kernel_rfl))
                  · exact kp_move rfl (L.old 10 (by kernel_rfl))
                  · exact kp_move rfl (L.old 12 (by kernel_rfl))
                  · exact kp_atM (n := z) (c := c) (i := k) hkz rfl (L.val 8 93 (by kernel_rfl) (by kernel_rfl)) (L.val 9 94 (by kernel_rfl) (by kernel_rfl))
                  · exact kp_fM1 rfl (L.val 10 95 (by kernel_rfl) (by kernel_rfl))
                  · exact kp_ldT (L.rel.cell HC1.out trivial) rfl (L.val 11 96 (by kernel_rfl) (by kernel_rfl))
                  · exact kp_move rfl (L.old 9 (by kernel_rfl))
                  · exact kp_addI (k := 97) (m := t + 1) (by have := HTT.out; omega) (by decide) rfl rfl (L.val 13 98 (by kernel_rfl) (by kernel_rfl))
                  · exact kp_subI (m := 97 + t) (by have := HTT.out; omega) rfl (L.val 14 99 (by kernel_rfl) (by kernel_rfl)) rfl
                  · exact kp_byte (n := 97 + t) (by have := HTT.out; omega) rfl (L.val 15 100 (by kernel_rfl) (by kernel_rfl))
                  · exact kp_two (p := 107) (q := 97 + t) (by decide) (by have := HTT.out; omega) rfl rfl (L.val 16 101 (by kernel_rfl) (by kernel_rfl))
                  · exact kp_key2 (p := 107) (q := 97 + t) rfl (L.val 17 102 (by kernel_rfl) (by kernel_rfl))
                  · exact kp_neqT rfl (L.val 12 97 (by kernel_rfl) (by kernel_rfl)) (L.val 18 103 (by kernel_rfl) (by kernel_rfl))
                  · exact kp_pick rfl (L.val 7 92 (by kernel_rfl) (by kernel_rfl)) (L.val 19 104 (by kernel_rfl) (by kernel_rfl))
                · intro vs w8 hw8 hlen hv
                  match vs, hlen with
                  | [v0, v1, v2, v3, v4, v5, v6, v7, v8, v9, v10, v11, v12, v13, v14, v15, v16, v17, v18, v19, v20], _ =>
                    have e20 : v20 = .bool false := hv 20 105 (by kernel_rfl)
                    clear hv
                    subst e20
                    have HK8 := Lib.hid (HK.out.trans hw8)
                    clear hw8 HC0 HC1 t1 t1'
                    simp only [putAll, List.map, Act.put, List.setIfInBounds_toArray, List.set_cons_succ, List.set_cons_zero, Exit.then]
                    go_wp2_with fail
                    go_roundw
                    case rel => exact ⟨k + 1, by omega, by go_num, by rw [← HTT.out]; congr 1, HK8⟩
                    case measure => simp [intOf]; omega
              · have t1 : decide ((k : Int) < (z : Int)) = false := by simp; omega
                have t1' : decide (k < z) = false := by simp; omega
                have HF8 := Lib.hid (HF6.out.keep HK.out)
                go_wp2_with fail
                go_roundw
                case rel => exact ⟨a + k, by omega, by go_num, HF8⟩
                case measure => simp [intOf]; omega
          · have t1 : decide ((a : Int) < (N : Int)) = false := by simp; omega
            have t1' : decide (a < N) = false := by simp; omega
            obtain rfl : a = N := by omega
            go_wp2_with fail
            clear t1 t1'
            have HS1 := Lib.hid (jo_since HT.out HF.out a P (a : Int) (P : Int) rfl rfl (Nat.zero_le _) (by show a ≤ (kns a).length; rw [kns_len]; exact Nat.le_refl _) (by omega) [] (by
              have : (jS a).keys.drop a = [] := List.drop_eq_nil_of_le (by show (kns a).length ≤ a; rw [kns_len]; exact Nat.le_refl _)
              rw [this, List.take_nil]))
            refine (show Calls _ _ _ _ _ from HS1.out).mono ?_
            rintro e w5 ⟨A, c, rfl, -, -, -, -, hF5⟩
            have HF5 := Lib.hid hF5
            have HS2 := Lib.hid (jo_sinceNo HT.out HF5.out ((a : Int) + 1) (P : Int) (by omega) (by omega) (.inr (by show ((kns a).length : Int) < _; rw [kns_len]; omega)))
            have hln : ([] : List ByteArray).length = 0 := rfl
            rw [hln]
            clear hF5 HF HS1 hln
            go_wp2_with fail
            refine (show Calls _ _ _ _ _ from HS2.out).mono ?_
            rintro e w6 ⟨⟨A2, c2, rfl⟩, -, hF6⟩
            have HF6 := Lib.hid hF6
            clear hF6 HF5 HS2
            go_wp2_with fail
            go_ret
            exact ⟨rfl, HF6.out.kp.below⟩
end Go.Proofs.YtpijdefadmfahaaGreatDoor.journalSince
