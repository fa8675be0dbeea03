/-
  JournalLong, walked: many marks, and what is kept of them.
-/
import Derived.Test.YtpijdefadmfahaaGreatDoorJrSit
import Derived.Lib.MinMax
namespace Go.Proofs.YtpijdefadmfahaaGreatDoor.journalLong
open Go Go.RowKit Go.Joins Go.Proofs.YtpijdefadmfahaaGreatDoor
def jL (k b a kp : Nat) : JSt := ⟨0, 20, kls 0 k, b, kp, a⟩
def VS (b f z i t : Nat) (c : Nat) (j : Nat) : World → Value → Prop :=
  if j = 22 then Two (97 + t % 26) (97 + t / 26)
  else Vl [.slice (some ⟨b, f, none⟩) z c, .int .i64 (i : Int), .pointer (some ⟨b, f + i * 2, none⟩), .pointer (some ⟨b, f + i * 2, none⟩), .int .i64 ((t + 1 : Nat) : Int), .int .i64 (t : Int), .int .i64 ((t + 1 : Nat) : Int), .bool false, .bool false,
      .slice (some ⟨b, f, none⟩) z c, .int .i64 (i : Int), .pointer (some ⟨b, f + i * 2, none⟩), .pointer (some ⟨b, f + i * 2 + 1, none⟩), .string (kl t),
      .int .i64 (t : Int), .int .i64 ((t % 26 : Nat) : Int), .int .i64 ((97 + t % 26 : Nat) : Int), .int .u8 ((97 + t % 26 : Nat) : Int), .int .i64 (t : Int), .int .i64 ((t / 26 : Nat) : Int), .int .i64 ((97 + t / 26 : Nat) : Int), .int .u8 ((97 + t / 26 : Nat) : Int), undef, .string (kl t), .bool false, .bool false] j
theorem VS_keep {b f z i t c : Nat} (j : Nat) (w w' : World) (v : Value) (h : Kp w w') (hv : VS b f z i t c j w v) : VS b f z i t c j w' v := by
  unfold VS at hv ⊢
  by_cases hj : j = 22
  · rw [if_pos hj] at hv ⊢; exact hv.keep h
  · rw [if_neg hj] at hv ⊢; exact hv
def GS : Nat → Option Bool
  | 8 => some false
  | _ => none
theorem GS_is {b f z i t c : Nat} (g : Nat) (x : Bool) (h : GS g = some x) (w : World) (v : Value) (hv : VS b f z i t c g w v) : v = .bool x := by
  unfold GS at h
  split at h
  · cases h; exact hv
  · cases h
set_option maxRecDepth 100000 in
set_option maxHeartbeats 2000000 in
theorem walk (S : JournalOK) (w : World) (hT : S.T w) (n per : Int) (op : Bool) : Calls Tryz.prog 3 #[.int .i64 n, .int .i64 per, .bool op] w fun e w' => e = .returned (.bool true) ∧ Below w.heap.size w w' := by
  have HT := Lib.hid hT
  clear hT
  have hcs : (decide (n < 1) = true) ∨ (decide (n < 1) = false ∧ decide (150 < n) = true) ∨ (decide (n < 1) = false ∧ decide (150 < n) = false ∧ decide (per < 1) = true) ∨ (decide (n < 1) = false ∧ decide (150 < n) = false ∧ decide (per < 1) = false ∧ decide (8 < per) = true) ∨ (decide (n < 1) = false ∧ decide (150 < n) = false ∧ decide (per < 1) = false ∧ decide (8 < per) = false) := by
    cases decide (n < 1) <;> cases decide (150 < n) <;> cases decide (per < 1) <;> cases decide (8 < per) <;> simp
  go_enter Tryz.func3, Tryz.ntmps3
  go_wp2_with fail
  refine (show Calls _ _ _ _ _ from begun10 S w HT.out).mono ?_
  rintro e w1 ⟨rfl, hk⟩
  have K1 := Lib.hid hk
  clear hk
  rcases hcs with t1 | ⟨t1, t2⟩ | ⟨t1, t2, t3⟩ | ⟨t1, t2, t3, t4⟩ | ⟨t1, t2, t3, t4⟩
  · go_wp2_with fail
    go_ret
    exact ⟨rfl, K1.out.below⟩
  · go_wp2_with fail
    go_ret
    exact ⟨rfl, K1.out.below⟩
  · go_wp2_with fail
    go_ret
    exact ⟨rfl, K1.out.below⟩
  · go_wp2_with fail
    go_ret
    exact ⟨rfl, K1.out.below⟩
  · obtain ⟨N, rfl⟩ : ∃ N : Nat, n = N := ⟨n.toNat, by have := of_decide_eq_false t1; omega⟩
    obtain ⟨P, rfl⟩ : ∃ P : Nat, per = P := ⟨per.toNat, by have := of_decide_eq_false t3; omega⟩
    have hN1 : 1 ≤ N := by have := of_decide_eq_false t1; omega
    have hN : N ≤ 150 := by have := of_decide_eq_false t2; omega
    have hP1 : 1 ≤ P := by have := of_decide_eq_false t3; omega
    have hP2 : P ≤ 8 := by have := of_decide_eq_false t4; omega
    go_wp2_with fail
    clear t1 t2 t3 t4
    refine (show Calls _ _ _ _ _ from jo_dev (X := fun _ => False) K1.out (fun _ h => h.elim) 160 (by decide) (by decide) 160 rfl).mono ?_
    rintro e w2 ⟨p, rfl, hB, -⟩
    have HB := Lib.hid hB
    clear hB K1
    go_wp2_with fail
    refine (show Calls _ _ _ _ _ from jo_open HT.out HB.out 0 20 0 20 rfl rfl (by decide) (by decide) (by decide)).mono ?_
    rintro e w3 ⟨q, rfl, hF, -⟩
    have HF := Lib.hid (show Jo S w w3 p q (jL 0 0 1 32) false (fun _ => False) from hF)
    clear hF HB
    go_wp2_with fail
    go_loopw [11] (fun i wr => ∃ k b a : Nat, k ≤ N + 7 ∧ a ≤ 1 + 2 * k ∧ i = .int .i64 (k : Int) ∧ Hid (Jo S w wr p q (jL (min k N) b a 32) (decide (0 < k)) (fun _ => False))) (fun i _ => N + P - (intOf i).toNat)
    case atStart => exact ⟨0, 0, 1, Nat.zero_le _, Nat.le_refl _, rfl, Lib.hid (by rw [Nat.zero_min]; exact HF.out)⟩
    case round =>
      clear HF
      obtain ⟨k, b, a, hk, ha, rfl, HF⟩ := hrel
      by_cases hkn : k < N
      · have t1 : decide ((k : Int) < (N : Int)) = true := by simp; omega
        have t1' : decide (k < N) = true := by simp; omega
        rw [Nat.min_eq_left (Nat.le_of_lt hkn)] at HF
        have HS := Lib.hid HF.out.loose.sit
        clear HF
        obtain ⟨B, hB⟩ : ∃ B, wr.heap.size = B := ⟨_, rfl⟩
        rw [hB] at HS
        clear hB
        go_wp2_with fail
        clear t1 t1'
        go_loopw [12, 13] (fun l j wr => ∃ (m v : Nat) (A : Option Addr) (c : Nat), m ≤ P ∧ Hid (v = k + m) ∧ v ≤ N ∧ j = .int .i64 (v : Int) ∧ l = .slice A m c ∧ Hid (JSit S w wr p q (jL k b a 32) false B (kls k m) m A c)) (fun _ j _ => N - (intOf j).toNat)
        case atStart => exact ⟨0, k, none, 0, Nat.zero_le _, Lib.hid rfl, by omega, rfl, rfl, HS⟩
        case round =>
          clear HS
          obtain ⟨m, v, A, c, hm, HV, hvN, rfl, rfl, HS⟩ := hrel
          have hc2 : (v < N ∧ v < k + P) ∨ (v < N ∧ ¬ v < k + P) ∨ ¬ v < N := by omega
          rcases hc2 with ⟨t1, t2⟩ | ⟨t1, t2⟩ | t1
          case inl =>
            have t1' : (v : Int) < (N : Int) := by omega
            have t2' : (v : Int) < (k : Int) + (P : Int) := by omega
            obtain ⟨r, hr⟩ : ∃ r, v % 26 = r := ⟨_, rfl⟩
            obtain ⟨u, hu⟩ : ∃ u, v / 26 = u := ⟨_, rfl⟩
            have hr2 : r < 26 := by omega
            have hu2 : u < 6 := by omega
            have HKL := Lib.hid (show key2 (97 + r) (97 + u) = kl v from by unfold kl; rw [hr, hu])
            have e1 : (v : Int).tmod 26 = (r : Int) := by rw [Int.tmod_eq_emod_of_nonneg (by omega)]; omega
            have e2 : (v : Int) % 26 = (r : Int) := by omega
            have e3 : (v : Int).tdiv 26 = (u : Int) := by rw [Int.tdiv_eq_ediv_of_nonneg (by omega)]; omega
            have e4 : (v : Int) / 26 = (u : Int) := by omega
            have HCV := Lib.hid (fun (W : World) => key2_conv W (97 + r) (97 + u) (by omega) (by omega) (97 + (r : Int)) (97 + (u : Int)) (by omega) (by omega))
            have hwr : IntKind.u8.wrap (97 + (r : Int)) = 97 + (r : Int) := by rw [IntKind.wrap_u8]; omega
            have hwu : IntKind.u8.wrap (97 + (u : Int)) = 97 + (u : Int) := by rw [IntKind.wrap_u8]; omega
            have HS6 := Lib.hid (HS.out.keep ((Keeps.refl _ wr).alloc (.cells #[.int .u8 (97 + (r : Int)), .int .u8 (97 + (u : Int))] 5)))
            have HA6 := Lib.hid (HS6.out.keep ((Keeps.refl _ _).alloc (.cells #[.string (key2 (97 + r) (97 + u))] 9)))
            have HROW := Lib.hid HA6.out.l
            have HSRC := Lib.hid (jsrc (wr.alloc (.cells #[.int .u8 (97 + (r : Int)), .int .u8 (97 + (u : Int))] 5)) (wr.heap.size + 1) (by simp) (key2 (97 + r) (97 + u)))
            have HBH := Lib.hid HA6.out.hi
            clear HS HS6 hr hu
            go_wp2_with (first | rw [HCV.out] | (at_builtin; go_loud (refine jstr_elem.list_append rfl (.tmp 66) (.tmp 77) _ rfl rfl HROW.out rfl HSRC.out ?c3 ?c4 HBH.out ?_)))
            case c3 => unfold maxLen; omega
            case c4 => omega
            intro v7 w7 ho7 hg7 hb7
            obtain ⟨A7, c7, rfl, hs7⟩ := HA6.out.app ho7 hg7
            rw [HKL.out, HV.out, ← kls_succ] at hs7
            have HS7 := Lib.hid hs7
            clear ho7 hg7 hb7 hs7 HROW HSRC HBH HA6 HCV HKL e1 e2 e3 e4 hwr hwu
            go_wp2_with fail
            go_roundw
            case rel => exact ⟨m + 1, v + 1, A7, c7, by have := HV.out; omega, Lib.hid (by have := HV.out; omega), by omega, by go_num, rfl, HS7⟩
            case measure => simp [intOf]; omega
          all_goals (try have t1' : (v : Int) < (N : Int) := by omega)
          all_goals (try have t2' : ¬ (v : Int) < (k : Int) + (P : Int) := by omega)
          all_goals (try have t1' : ¬ (v : Int) < (N : Int) := by omega)
          all_goals (
            obtain ⟨hrow, hc1, hc2⟩ := HS.out.row
            have HRW := Lib.hid hrow
            have HC := Lib.hid (And.intro hc1 hc2)
            have HJ := Lib.hid HS.out.jo
            have hmin : min (N : Int) ((k : Int) + (P : Int)) = (v : Int) := by have := HV.out; omega
            have hv2 : min (k + P) N = v := by have := HV.out; omega
            clear hrow hc1 hc2 HS
            go_wp2_with fail
            refine (show Calls _ _ _ _ _ from jo_add HT.out HJ.out (by show a ≤ 20000; omega) A (kls k m) HRW.out c m (kls_len k m).symm HC.out.1 HC.out.2 (by omega) (fun x hx => by
              obtain ⟨i, -, rfl⟩ := List.mem_map.1 hx
              exact key2_ok _ _) (v : Int) (by show (v : Int) = (((kls 0 k).length + (kls k m).length : Nat) : Int); rw [kls_len, kls_len, HV.out])).mono ?_
            rintro e w5 ⟨rfl, b5, -, hF, -⟩
            have e1 : jadd (jL k b a 32) (kls k m) b5 = jL v b5 (a + m + 1) 32 := by
              unfold jadd jL
              have h := kls_add 0 k m
              rw [Nat.zero_add] at h
              simp only [h, kls_len, ← HV.out]
            rw [e1] at hF
            have HF5 := Lib.hid (hF.less (Y := fun _ => False) (fun _ h => h.elim))
            clear hF HJ HRW HC e1
            go_wp2_with fail
            clear hmin
            go_roundw
            case rel => exact ⟨k + P, b5, a + m + 1, by omega, by clear hv2; omega, by go_num, Lib.hid (by rw [hv2, decide_eq_true (show 0 < k + P by omega)]; exact HF5.out)⟩
            case measure => simp [intOf]; omega)
      · have t1 : decide ((k : Int) < (N : Int)) = false := by simp; omega
        have t1' : decide (k < N) = false := by simp; omega
        have ha2 : a ≤ 400 := by omega
        rw [Nat.min_eq_right (by omega), decide_eq_true (show 0 < k by omega)] at HF
        clear hk ha hkn
        obtain ⟨s, hs⟩ : ∃ s, N - 28 = s := ⟨_, rfl⟩
        obtain ⟨z, hz⟩ : ∃ z, min N 28 = z := ⟨_, rfl⟩
        have e5 : max (0 : Int) ((N : Int) - 28) = (s : Int) := by omega
        have e6 : min (N : Int) 28 = (z : Int) := by omega
        have HSZ := Lib.hid (show s + z = N ∧ z ≤ 28 ∧ min (min N 28) 50 = z from by omega)
        have HS := Lib.hid hs
        clear hs hz
        cases op
        case true =>
          go_wp2_with fail
          refine (show Calls _ _ _ _ _ from jo_crash HF.out none 0 (fun _ => True) [] 0 rfl (Row.nil _ _ _) (by decide)).mono ?_
          rintro e w4 ⟨r, rfl, hD, -, -⟩
          have HD := Lib.hid hD
          clear hD HF
          go_wp2_with fail
          refine (show Calls _ _ _ _ _ from jo_again HT.out HD.out (by show a ≤ 20000; omega) 0 20 rfl rfl).mono ?_
          rintro e w5 ⟨q2, b2, rfl, hG, -⟩
          have HF := Lib.hid (show Jo S w w5 r q2 (jL N b2 (a + 1) 28) false (fun _ => False) from hG)
          clear hG HD
          have HB := Lib.hid (show b2 ≤ s from by
            have h := HF.out.wf.base
            have h2 : b2 ≤ (kls 0 N).length - 28 := h
            rw [kls_len] at h2
            have := HS.out
            omega)
          have ha2 : a + 1 ≤ 500 := by omega
          generalize a + 1 = a at HF ha2
          generalize 28 = kp at HF
          clear ha2
          go_wp2_with fail
          clear t1 t1'
          refine (show Calls _ _ _ _ _ from jo_since HT.out HF.out s 50 (s : Int) 50 rfl rfl HB.out (by show s ≤ (kls 0 N).length; rw [kls_len]; have := HS.out; omega) (by decide) (kls s z) (by show _ = ((kls 0 N).drop s).take 50; rw [← HS.out, kls_drop, HSZ.out.2.2])).mono ?_
          rintro e w6 ⟨A, c, rfl, hlc, hcm, hmk, -, hF⟩
          rw [kls_len] at hlc
          rw [kls_len]
          unfold maxLen at hcm
          have HF6 := Lib.hid hF
          have HM6 := Lib.hid (show MarksAt w6 A (fun _ => True) s (kls s z) from by
            intro i hi
            obtain ⟨b, o, e, -, c0, c1⟩ := hmk i hi
            exact ⟨b, o, e, trivial, c0, c1⟩)
          clear hF hmk HF e5
          have hz2 : z ≤ 28 := HSZ.out.2.1
          go_wp2_with fail
          clear e6
          refine (show Calls _ _ _ _ _ from jo_seq HT.out HF6.out (N : Int) (by show (N : Int) = ((kls 0 N).length : Int); rw [kls_len])).mono ?_
          rintro e W5 ⟨rfl, hk7, hF⟩
          have HF7 := Lib.hid hF
          have HM5 := Lib.hid (show MarksAt W5 A (fun _ => True) s (kls s z) from HM6.out.keep (hk7.mono fun _ _ _ => trivial))
          clear hF hk7 HF6 HM6
          go_wp2_with fail
          have HK5 := Lib.hid (show Kp W5 W5 from Keeps.refl _ _)
          go_loopw [18] (fun i wr => ∃ k : Nat, k ≤ z ∧ i = .int .i64 (k : Int) ∧ Hid (Kp W5 wr)) (fun i _ => z - (intOf i).toNat)
          case atStart => exact ⟨0, Nat.zero_le _, rfl, HK5⟩
          case round =>
            clear HK5
            obtain ⟨k, hk, rfl, HK⟩ := hrel
            by_cases hkz : k < z
            · have t1 : decide ((k : Int) < (z : Int)) = true := by simp; omega
              have t1' : decide (k < z) = true := by simp; omega
              obtain ⟨b, f, rfl, -, c0, c1⟩ := HM5.out k (by rw [kls_len]; exact hkz)
              rw [kls_at] at c1
              have HC0 := Lib.hid (HK.out.cell c0 trivial)
              have HC1 := Lib.hid (HK.out.cell c1 trivial)
              clear c0 c1
              obtain ⟨t, ht⟩ : ∃ t, s + k = t := ⟨_, rfl⟩
              have htb : t < 150 := by have := HSZ.out.1; omega
              have e7 : (N : Int) - (z : Int) + (k : Int) = (t : Int) := by have := HSZ.out.1; omega
              have HTB := Lib.hid htb
              rw [ht] at HC0 HC1
              clear ht
              go_wp2_with fail
              clear e7 t1 t1'
              refine wp_region_guard (R := Kp) (V := VS b f z k t c) (w0 := wr) GS (by kernel_rfl) (fun w => Keeps.refl _ w) (fun _ _ _ h k => h.trans k) (fun i w w' v h hv => VS_keep i w w' v h hv) (by kernel_rfl) GS_is (fun i o ho hw => (all_wanted (by kernel_rfl) ho hw).elim) ((Keeps.refl _ wr).drew) (each_of ?_) ?_
              · refine ⟨?_, ?_, ?_, ?_, ?_, ?_, ?_, ?_, ?_, ?_, ?_, ?_, ?_, ?_, ?_, ?_, ?_, ?_, ?_, ?_, ?_, ?_, ?_, ?_, ?_, ?_, trivial⟩ <;> intro hw a1 w3 L
                · exact kp_move rfl (L.old 16 (by kernel_rfl))
                · exact kp_move rfl (L.old 18 (by kernel_rfl))
                · exact kp_atM (n := z) (c := c) (i := k) hkz rfl (L.val 0 140 (by kernel_rfl) (by kernel_rfl)) (L.val 1 141 (by kernel_rfl) (by kernel_rfl))
                · exact kp_fM0 rfl (L.val 2 142 (by kernel_rfl) (by kernel_rfl))
                · exact kp_ldI (L.rel.cell HC0.out trivial) rfl (L.val 3 143 (by kernel_rfl) (by kernel_rfl))
                · exact kp_move rfl (L.old 19 (by kernel_rfl))
                · exact kp_addJ (k := t) (m := 1) (by decide) (by have := HTB.out; omega) rfl (L.val 5 145 (by kernel_rfl) (by kernel_rfl)) rfl
                · exact kp_neqI (by simp) rfl (L.val 4 144 (by kernel_rfl) (by kernel_rfl)) (L.val 6 146 (by kernel_rfl) (by kernel_rfl))
                · exact kp_move rfl (L.val 7 147 (by kernel_rfl) (by kernel_rfl))
                · exact kp_move rfl (L.old 16 (by kernel_rfl))
                · exact kp_move rfl (L.old 18 (by kernel_rfl))
                · exact kp_atM (n := z) (c := c) (i := k) hkz rfl (L.val 9 149 (by kernel_rfl) (by kernel_rfl)) (L.val 10 150 (by kernel_rfl) (by kernel_rfl))
                · exact kp_fM1 rfl (L.val 11 151 (by kernel_rfl) (by kernel_rfl))
                · exact kp_ldT (L.rel.cell HC1.out trivial) rfl (L.val 12 152 (by kernel_rfl) (by kernel_rfl))
                · exact kp_move rfl (L.old 19 (by kernel_rfl))
                · exact kp_rem26 (n := t) rfl (L.val 14 154 (by kernel_rfl) (by kernel_rfl))
                · exact kp_addJ (k := 97) (m := t % 26) (by omega) (by decide) rfl rfl (L.val 15 155 (by kernel_rfl) (by kernel_rfl))
                · exact kp_byteN (n := 97 + t % 26) (by omega) rfl (L.val 16 156 (by kernel_rfl) (by kernel_rfl))
                · exact kp_move rfl (L.old 19 (by kernel_rfl))
                · exact kp_quo26 (n := t) (by have := HTB.out; omega) rfl (L.val 18 158 (by kernel_rfl) (by kernel_rfl))
                · exact kp_addJ (k := 97) (m := t / 26) (by have := HTB.out; omega) (by decide) rfl rfl (L.val 19 159 (by kernel_rfl) (by kernel_rfl))
                · exact kp_byteN (n := 97 + t / 26) (by have := HTB.out; omega) rfl (L.val 20 160 (by kernel_rfl) (by kernel_rfl))
                · exact kp_two (p := 97 + t % 26) (q := 97 + t / 26) (by omega) (by have := HTB.out; omega) rfl (L.val 17 157 (by kernel_rfl) (by kernel_rfl)) (L.val 21 161 (by kernel_rfl) (by kernel_rfl))
                · exact kp_key2 (p := 97 + t % 26) (q := 97 + t / 26) rfl (L.val 22 162 (by kernel_rfl) (by kernel_rfl))
                · exact kp_neqT rfl (L.val 13 153 (by kernel_rfl) (by kernel_rfl)) (L.val 23 163 (by kernel_rfl) (by kernel_rfl))
                · exact kp_pick rfl (L.val 8 148 (by kernel_rfl) (by kernel_rfl)) (L.val 24 164 (by kernel_rfl) (by kernel_rfl))
              · intro vs w8 hw8 hlen hv
                match vs, hlen with
                | [v0, v1, v2, v3, v4, v5, v6, v7, v8, v9, v10, v11, v12, v13, v14, v15, v16, v17, v18, v19, v20, v21, v22, v23, v24, v25], _ =>
                  have e25 : v25 = .bool false := hv 25 165 (by kernel_rfl)
                  clear hv
                  subst e25
                  have HK8 := Lib.hid (HK.out.trans hw8)
                  clear hw8 HC0 HC1
                  simp only [putAll, List.map, Act.put, List.setIfInBounds_toArray, List.set_cons_succ, List.set_cons_zero, Exit.then]
                  go_wp2_with fail
                  go_roundw
                  case rel => exact ⟨k + 1, by omega, by go_num, HK8⟩
                  case measure => simp [intOf]; omega
            · have t1 : decide ((k : Int) < (z : Int)) = false := by simp; omega
              have t1' : decide (k < z) = false := by simp; omega
              have HF8 := Lib.hid (HF7.out.keep HK.out)
              have hb2 : b2 ≤ 150 := by have := HB.out; have := HS.out; omega
              clear HF7 HK HM5
              go_wp2_with fail
              refine (show Calls _ _ _ _ _ from jo_base HT.out HF8.out (b2 : Int) rfl).mono ?_
              rintro e w9 ⟨rfl, -, hF⟩
              have HF9 := Lib.hid hF
              clear hF HF8
              have HSN := Lib.hid (jo_sinceNo HT.out HF9.out ((b2 : Int) - 1) 1 (by omega) (by omega) (.inl (by show (b2 : Int) - 1 < (b2 : Int); omega)))
              go_wp2_with fail
              refine (show Calls _ _ _ _ _ from HSN.out).mono ?_
              rintro e w10 ⟨⟨A2, c2, rfl⟩, -, hF⟩
              have HF10 := Lib.hid hF
              clear hF HF9 HSN
              go_wp2_with fail
              go_ret
              exact ⟨rfl, HF10.out.kp.below⟩
        case false =>
          replace HF := Lib.hid HF.out.loose
          obtain ⟨r, hr⟩ : ∃ r, p = r := ⟨_, rfl⟩
          rw [hr] at HF
          rw [hr]
          clear hr
          have HB := Lib.hid (show b ≤ s from by
            have h := HF.out.wf.base
            have h2 : b ≤ (kls 0 N).length - 32 := h
            rw [kls_len] at h2
            have := HS.out
            omega)
          obtain ⟨b2, hb2⟩ : ∃ b2, b = b2 := ⟨_, rfl⟩
          rw [hb2] at HF HB
          clear hb2 ha2
          obtain ⟨q2, hq2⟩ : ∃ q2, q = q2 := ⟨_, rfl⟩
          rw [hq2] at HF
          rw [hq2]
          clear hq2
          generalize 32 = kp at HF
          go_wp2_with fail
          clear t1 t1'
          refine (show Calls _ _ _ _ _ from jo_since HT.out HF.out s 50 (s : Int) 50 rfl rfl HB.out (by show s ≤ (kls 0 N).length; rw [kls_len]; have := HS.out; omega) (by decide) (kls s z) (by show _ = ((kls 0 N).drop s).take 50; rw [← HS.out, kls_drop, HSZ.out.2.2])).mono ?_
          rintro e w6 ⟨A, c, rfl, hlc, hcm, hmk, -, hF⟩
          rw [kls_len] at hlc
          rw [kls_len]
          unfold maxLen at hcm
          have HF6 := Lib.hid hF
          have HM6 := Lib.hid (show MarksAt w6 A (fun _ => True) s (kls s z) from by
            intro i hi
            obtain ⟨b, o, e, -, c0, c1⟩ := hmk i hi
            exact ⟨b, o, e, trivial, c0, c1⟩)
          clear hF hmk HF e5
          have hz2 : z ≤ 28 := HSZ.out.2.1
          go_wp2_with fail
          clear e6
          refine (show Calls _ _ _ _ _ from jo_seq HT.out HF6.out (N : Int) (by show (N : Int) = ((kls 0 N).length : Int); rw [kls_len])).mono ?_
          rintro e W5 ⟨rfl, hk7, hF⟩
          have HF7 := Lib.hid hF
          have HM5 := Lib.hid (show MarksAt W5 A (fun _ => True) s (kls s z) from HM6.out.keep (hk7.mono fun _ _ _ => trivial))
          clear hF hk7 HF6 HM6
          go_wp2_with fail
          have HK5 := Lib.hid (show Kp W5 W5 from Keeps.refl _ _)
          go_loopw [18] (fun i wr => ∃ k : Nat, k ≤ z ∧ i = .int .i64 (k : Int) ∧ Hid (Kp W5 wr)) (fun i _ => z - (intOf i).toNat)
          case atStart => exact ⟨0, Nat.zero_le _, rfl, HK5⟩
          case round =>
            clear HK5
            obtain ⟨k, hk, rfl, HK⟩ := hrel
            by_cases hkz : k < z
            · have t1 : decide ((k : Int) < (z : Int)) = true := by simp; omega
              have t1' : decide (k < z) = true := by simp; omega
              obtain ⟨b, f, rfl, -, c0, c1⟩ := HM5.out k (by rw [kls_len]; exact hkz)
              rw [kls_at] at c1
              have HC0 := Lib.hid (HK.out.cell c0 trivial)
              have HC1 := Lib.hid (HK.out.cell c1 trivial)
              clear c0 c1
              obtain ⟨t, ht⟩ : ∃ t, s + k = t := ⟨_, rfl⟩
              have htb : t < 150 := by have := HSZ.out.1; omega
              have e7 : (N : Int) - (z : Int) + (k : Int) = (t : Int) := by have := HSZ.out.1; omega
              have HTB := Lib.hid htb
              rw [ht] at HC0 HC1
              clear ht
              go_wp2_with fail
              clear e7 t1 t1'
              refine wp_region_guard (R := Kp) (V := VS b f z k t c) (w0 := wr) GS (by kernel_rfl) (fun w => Keeps.refl _ w) (fun _ _ _ h k => h.trans k) (fun i w w' v h hv => VS_keep i w w' v h hv) (by kernel_rfl) GS_is (fun i o ho hw => (all_wanted (by kernel_rfl) ho hw).elim) ((Keeps.refl _ wr).drew) (each_of ?_) ?_
              · refine ⟨?_, ?_, ?_, ?_, ?_, ?_, ?_, ?_, ?_, ?_, ?_, ?_, ?_, ?_, ?_, ?_, ?_, ?_, ?_, ?_, ?_, ?_, ?_, ?_, ?_, ?_, trivial⟩ <;> intro hw a1 w3 L
                · exact kp_move rfl (L.old 16 (by kernel_rfl))
                · exact kp_move rfl (L.old 18 (by kernel_rfl))
                · exact kp_atM (n := z) (c := c) (i := k) hkz rfl (L.val 0 140 (by kernel_rfl) (by kernel_rfl)) (L.val 1 141 (by kernel_rfl) (by kernel_rfl))
                · exact kp_fM0 rfl (L.val 2 142 (by kernel_rfl) (by kernel_rfl))
                · exact kp_ldI (L.rel.cell HC0.out trivial) rfl (L.val 3 143 (by kernel_rfl) (by kernel_rfl))
                · exact kp_move rfl (L.old 19 (by kernel_rfl))
                · exact kp_addJ (k := t) (m := 1) (by decide) (by have := HTB.out; omega) rfl (L.val 5 145 (by kernel_rfl) (by kernel_rfl)) rfl
                · exact kp_neqI (by simp) rfl (L.val 4 144 (by kernel_rfl) (by kernel_rfl)) (L.val 6 146 (by kernel_rfl) (by kernel_rfl))
                · exact kp_move rfl (L.val 7 147 (by kernel_rfl) (by kernel_rfl))
                · exact kp_move rfl (L.old 16 (by kernel_rfl))
                · exact kp_move rfl (L.old 18 (by kernel_rfl))
                · exact kp_atM (n := z) (c := c) (i := k) hkz rfl (L.val 9 149 (by kernel_rfl) (by kernel_rfl)) (L.val 10 150 (by kernel_rfl) (by kernel_rfl))
                · exact kp_fM1 rfl (L.val 11 151 (by kernel_rfl) (by kernel_rfl))
                · exact kp_ldT (L.rel.cell HC1.out trivial) rfl (L.val 12 152 (by kernel_rfl) (by kernel_rfl))
                · exact kp_move rfl (L.old 19 (by kernel_rfl))
                · exact kp_rem26 (n := t) rfl (L.val 14 154 (by kernel_rfl) (by kernel_rfl))
                · exact kp_addJ (k := 97) (m := t % 26) (by omega) (by decide) rfl rfl (L.val 15 155 (by kernel_rfl) (by kernel_rfl))
                · exact kp_byteN (n := 97 + t % 26) (by omega) rfl (L.val 16 156 (by kernel_rfl) (by kernel_rfl))
                · exact kp_move rfl (L.old 19 (by kernel_rfl))
                · exact kp_quo26 (n := t) (by have := HTB.out; omega) rfl (L.val 18 158 (by kernel_rfl) (by kernel_rfl))
                · exact kp_addJ (k := 97) (m := t / 26) (by have := HTB.out; omega) (by decide) rfl rfl (L.val 19 159 (by kernel_rfl) (by kernel_rfl))
                · exact kp_byteN (n := 97 + t / 26) (by have := HTB.out; omega) rfl (L.val 20 160 (by kernel_rfl) (by kernel_rfl))
                · exact kp_two (p := 97 + t % 26) (q := 97 + t / 26) (by omega) (by have := HTB.out; omega) rfl (L.val 17 157 (by kernel_rfl) (by kernel_rfl)) (L.val 21 161 (by kernel_rfl) (by kernel_rfl))
                · exact kp_key2 (p := 97 + t % 26) (q := 97 + t / 26) rfl (L.val 22 162 (by kernel_rfl) (by kernel_rfl))
                · exact kp_neqT rfl (L.val 13 153 (by kernel_rfl) (by kernel_rfl)) (L.val 23 163 (by kernel_rfl) (by kernel_rfl))
                · exact kp_pick rfl (L.val 8 148 (by kernel_rfl) (by kernel_rfl)) (L.val 24 164 (by kernel_rfl) (by kernel_rfl))
              · intro vs w8 hw8 hlen hv
                match vs, hlen with
                | [v0, v1, v2, v3, v4, v5, v6, v7, v8, v9, v10, v11, v12, v13, v14, v15, v16, v17, v18, v19, v20, v21, v22, v23, v24, v25], _ =>
                  have e25 : v25 = .bool false := hv 25 165 (by kernel_rfl)
                  clear hv
                  subst e25
                  have HK8 := Lib.hid (HK.out.trans hw8)
                  clear hw8 HC0 HC1
                  simp only [putAll, List.map, Act.put, List.setIfInBounds_toArray, List.set_cons_succ, List.set_cons_zero, Exit.then]
                  go_wp2_with fail
                  go_roundw
                  case rel => exact ⟨k + 1, by omega, by go_num, HK8⟩
                  case measure => simp [intOf]; omega
            · have t1 : decide ((k : Int) < (z : Int)) = false := by simp; omega
              have t1' : decide (k < z) = false := by simp; omega
              have HF8 := Lib.hid (HF7.out.keep HK.out)
              have hb2 : b2 ≤ 150 := by have := HB.out; have := HS.out; omega
              clear HF7 HK HM5
              go_wp2_with fail
              refine (show Calls _ _ _ _ _ from jo_base HT.out HF8.out (b2 : Int) rfl).mono ?_
              rintro e w9 ⟨rfl, -, hF⟩
              have HF9 := Lib.hid hF
              clear hF HF8
              have HSN := Lib.hid (jo_sinceNo HT.out HF9.out ((b2 : Int) - 1) 1 (by omega) (by omega) (.inl (by show (b2 : Int) - 1 < (b2 : Int); omega)))
              go_wp2_with fail
              refine (show Calls _ _ _ _ _ from HSN.out).mono ?_
              rintro e w10 ⟨⟨A2, c2, rfl⟩, -, hF⟩
              have HF10 := Lib.hid hF
              clear hF HF9 HSN
              go_wp2_with fail
              go_ret
              exact ⟨rfl, HF10.out.kp.below⟩
end Go.Proofs.YtpijdefadmfahaaGreatDoor.journalLong
