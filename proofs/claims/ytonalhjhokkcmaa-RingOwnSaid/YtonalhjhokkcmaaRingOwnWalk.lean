/-
  THE WALK OF RingOwn, however the program's rings find an owner.
-/
import Derived.Test.YtonalhjhokkcmaaRgLocs
namespace Go.Proofs.Ytonalhjhokkcmaa.ringOwn
open Go Go.RowKit Go.Joins

/-- What the last region's operations leave. -/
def V (r : Nat) (h y : Int) (A : Option Addr) (c N : Nat) (n : Int) (l : List Int) : Nat → World → Value → Prop
  | 0 => IsV (.pointer (some ⟨r, 0, none⟩))
  | 1 => IsV (.int .u64 h)
  | 2 => IsV (.int .i64 y)
  | 3 => IsV (.int .i64 y)
  | 4 => IsV (.bool true)
  | 5 => IsV (.bool true)
  | 6 => IsV (.pointer (some ⟨r, 0, none⟩))
  | 7 => ISl (n :: l)
  | 8 => IsV (.int .i64 (N : Int))
  | 9 => IsV (.slice A N c)
  | 10 => IsV (.int .i64 (N : Int))
  | 11 => IsV (.bool true)
  | 12 => IsV (.bool true)
  | 13 => IsV (.bool true)
  | 14 => IsV (.pointer (some ⟨r, 0, none⟩))
  | 15 => ISl (n :: l)
  | 16 => IPt n
  | 17 => IsV (.int .i64 n)
  | 18 => IsV (.slice A N c)
  | 19 => IPt n
  | 20 => IsV (.int .i64 n)
  | 21 => IsV (.bool true)
  | 22 => IsV (.bool true)
  | 23 => IsV (.bool true)
  | _ => IsV undef
theorem V_keep (r : Nat) (h y : Int) (A : Option Addr) (c N : Nat) (n : Int) (l : List Int) (i : Nat) (w w' : World) (v : Value) (hk : Kp w w') (hv : V r h y A c N n l i w v) : V r h y A c N n l i w' v := by
  unfold V at hv ⊢
  split at hv
  all_goals first | exact hv | exact ISl.keep hv hk | exact IPt.keep hv hk
/-- All guards hold. -/
def G : Nat → Option Bool
  | 5 => some true
  | 13 => some true
  | _ => none
theorem G_is (r : Nat) (h y : Int) (A : Option Addr) (c N : Nat) (n : Int) (l : List Int) (g : Nat) (b : Bool) (hg : G g = some b) (w : World) (x : Value) (hv : V r h y A c N n l g w x) : x = .bool b := by
  unfold G at hg
  split at hg
  · cases hg; exact hv
  · cases hg; exact hv
  · cases hg
set_option maxRecDepth 100000 in
set_option maxHeartbeats 4000000 in
theorem walk (S : RingOK) (w : World) (hT : S.T w) (z h : Int) (hh1 : 0 ≤ h) (hh2 : h < 18446744073709551616) :
    Calls Try.prog 9 #[.int .i64 z, .int .u64 h] w fun e w' => e = .returned (.bool true) ∧ Below w.heap.size w w' := by
  have HT := Lib.hid hT
  have HH := Lib.hid (And.intro hh1 hh2)
  clear hT hh1 hh2
  go_enter Try.func9, Try.ntmps9
  go_wp2_with fail
  refine (begun14 S w HT.out).mono ?_
  rintro e w1 ⟨rfl, hk⟩
  have HK1 := Lib.hid hk
  clear hk
  go_wp2_with fail
  refine (rgnodes_any w1 z).mono ?_
  rintro e w2 ⟨A, c, rfl, hr, hc1, hc2, hk⟩
  have HK2 := Lib.hid (HK1.out.trans hk)
  obtain ⟨g2, hg2⟩ : ∃ g2, w2.heap.size = g2 := ⟨_, rfl⟩
  have HR := Lib.hid (show ∀ w', Keeps (fun b => b < g2) w2 w' → Row w' A (fun b => b < g2) ((nodes5 (bitB z) 5).map (Value.int .i64)) from fun w' hk => (hr.mono fun b _ hb => by rw [← hg2]; exact hb.2).keep hk)
  have HMAY := Lib.hid (nodes5_may (bitB z))
  have hl5 := nodes5_len (bitB z) 5
  generalize nodes5 (bitB z) 5 = l at HR HMAY hc1 hl5 ⊢
  clear hk hr HK1
  have hcs : ((l.length : Int) == 0) = true ∨ ((l.length : Int) == 0) = false := by cases ((l.length : Int) == 0) <;> simp
  rcases hcs with t0 | t0
  · go_wp2_with fail
    go_ret
    exact ⟨rfl, HK2.out.below⟩
  · obtain ⟨n, l', rfl⟩ : ∃ n l', l = n :: l' := by
      cases l with
      | nil => simp at t0
      | cons x l => exact ⟨x, l, rfl⟩
    have hm : nodesB (n :: l') = true := by rw [HMAY.out]; rfl
    have HRB := Lib.hid (ringB_of (e := 1) (by decide) (by decide) hm)
    clear hm HMAY
    obtain ⟨N, hN⟩ : ∃ N, (n :: l').length = N := ⟨_, rfl⟩
    have HNL := Lib.hid hN
    have HSRC := Lib.hid (Row.src (P := Try.prog) (c := c) (HR.out w2 (Keeps.refl _ _)) Try.underlying24 (fun u hu => by obtain ⟨x, -, rfl⟩ := List.mem_map.1 hu; rfl))
    rw [List.length_map] at HSRC
    rw [hN] at HSRC t0 hl5 hc1 ⊢
    have hN0 : 0 < N := by rw [← hN]; simp
    clear hN
    go_wp2_with (at_builtin; refine node_elem.list_append rfl (.const (.slice none 0 0)) (.tmp 21) _ rfl rfl (World.ownsRow_nil _ w2.heap.size _ _) rfl HSRC.out ?c3 ?c4 ?c5 ?_)
    case c3 => unfold maxLen; omega
    case c4 => omega
    case c5 => omega
    intro v w3 ho hg3 hb3
    have ho' : w3.ownsRow g2 3 1 v N ((n :: l').map (Value.int .i64)) := ho
    obtain ⟨Ao, co, rfl, -, hro⟩ := own_slice ho'
    obtain ⟨g, rfl⟩ := RowZ.form (⟨n :: l', ho'⟩ : RowZ w3 g2 3 .i64 (.slice Ao N co) N) hN0
    obtain ⟨hco1, hco2, -⟩ := own_cap ho'
    have hgl := ho'.lt g rfl
    have hk3 : Keeps (fun _ => True) w2 w3 := (Keeps.refl _ w2).grown hg3 fun b hb => by cases hb
    have HZ3 := Lib.hid (⟨n :: l', ho'⟩ : RowZ w3 g2 3 .i64 (.slice (some ⟨g, 0, none⟩) N co) N)
    have HK3 := Lib.hid (HK2.out.trans hk3)
    have HK23 := Lib.hid (hk3.mono fun _ _ _ => trivial : Keeps (fun b => b < g2) w2 w3)
    have HNEW := Lib.hid (show Calls Try.prog 13 #[.int .i64 1, .slice (some ⟨g, 0, none⟩) N co] w3 fun x w' => ∃ r F, x = .returned (.pointer (some ⟨r, 0, none⟩)) ∧ S.At w w' r F 1 (n :: l') ∧ (∀ b, F b → w3.heap.size ≤ b) ∧ Kp w3 w' from by
      rw [← HNL.out]
      exact S.new w w3 _ co (n :: l') 1 HT.out HK3.out (hro.mono fun _ _ _ => trivial) (by rw [HNL.out]; exact hco1) hco2 HRB.out)
    have HGL := Lib.hid hgl
    have hcoN : co ≤ 9223372036854775807 := by unfold maxLen at hco2; omega
    clear ho ho' hg3 hb3 hro hgl hk3 HRB hco2
    go_wp2_with fail
    refine (show Calls _ _ _ _ _ from HNEW.out).mono ?_
    rintro e w4 ⟨r, F, rfl, hat, hF, hk⟩
    have HFG := Lib.hid (show ¬ F g from fun hf => by have := hF g hf; have := HGL.out.2; omega)
    have HAT := Lib.hid hat
    have HK4 := Lib.hid (HK3.out.trans hk)
    have HK24 := Lib.hid (HK23.out.trans (hk.mono fun _ _ _ => trivial))
    have HZ4 := Lib.hid (RowZ.keep HZ3.out hk fun _ _ => trivial)
    clear hat hF hk HNEW HK3 HK23 HZ3
    go_wp2_with fail
    refine (S.owner w w4 r F 1 (n :: l') h HT.out HAT.out HH.out.1 HH.out.2).mono ?_
    rintro e w5 ⟨rfl, hk⟩
    obtain ⟨y, hy⟩ : ∃ y, ownerL (n :: l') h = y := ⟨_, rfl⟩
    rw [hy]
    have HY := Lib.hid hy
    have HAT5 := Lib.hid (S.atK HAT.out hk)
    have HK5 := Lib.hid (HK4.out.trans hk)
    have HK25 := Lib.hid (HK24.out.trans (hk.mono fun _ _ _ => trivial))
    have HZ5 := Lib.hid (RowZ.keep HZ4.out hk fun _ _ => trivial)
    clear hk hy HAT HK4 HK24 HZ4
    go_wp2_with fail
    go_loopw [10] (fun i wr => ∃ j : Nat, j ≤ N ∧ i = .int .i64 (j : Int) ∧ Hid (RowZ wr g2 3 .i64 (.slice (some ⟨g, 0, none⟩) N co) N) ∧ Hid (S.At w wr r F 1 (n :: l')) ∧ Hid (Kp w wr) ∧ Hid (Keeps (fun b => b < g2) w2 wr)) (fun i _ => N - (intOf i).toNat)
    case atStart => exact ⟨0, Nat.zero_le _, rfl, HZ5, HAT5, HK5, HK25⟩
    case round =>
      clear HZ5 HAT5 HK5 HK25
      obtain ⟨j, hj, rfl, HZ, HAT, HK, HK2r⟩ := hrel
      by_cases hjN : j < N
      · have hjI : (j : Int) < (N : Int) := by omega
        obtain ⟨x, c0⟩ := RowZ.at_ HZ.out hjN
        have f0 := RowZ.frozen HZ.out j
        have hgw : w.heap.size ≤ g := by have := HGL.out.1; have := HK2.out.size; omega
        have hgg : ¬ g < g2 := by have := HGL.out.1; omega
        have hset := (Keeps.refl F wr).setCell (p := ⟨g, j, none⟩) (.inr HFG.out) (.int .i64 9)
        have HZ6 := Lib.hid (RowZ.store HZ.out j 9)
        have HK6 := Lib.hid (HK.out.setCell (p := ⟨g, j, none⟩) (.inl hgw) (.int .i64 9))
        have HAT6 := Lib.hid (S.atKeep HAT.out hset HK6.out)
        have HK26 := Lib.hid (HK2r.out.setCell (p := ⟨g, j, none⟩) (.inr hgg) (.int .i64 9))
        clear hgw hgg hset HZ HAT HK HK2r
        go_wp2_with fail
        go_roundw
        case rel => exact ⟨j + 1, by omega, by go_num, HZ6, HAT6, HK6, HK26⟩
        case measure => simp [intOf]; omega
      · obtain rfl : j = N := by omega
        clear hjN HZ
        go_wp2_with fail
        refine (S.nodes w wr r F 1 (n :: l') HT.out HAT.out).mono ?_
        rintro e w6 ⟨B, cb, rfl, hb, hmi, hcb1, hcb2, hk⟩
        have hlen := HNL.out
        rw [hlen] at hmi hcb1 ⊢
        obtain ⟨gm, om, rfl, hgm⟩ := hmi.form hN0
        have hgm1 : wr.heap.size ≤ gm := by
          obtain ⟨b, o, e, hb1, -⟩ := hb.at_ (k := 0) (by simp)
          injection e with e
          injection e with e1 e2
          rw [e1]; exact hb1
        have HGM := Lib.hid (And.intro hgm1 (show ¬ F gm from fun hf => by have := ((S.atIn HAT.out).2 gm hf).2; omega))
        have hsz2 := HK2r.out.size
        have HG2 := Lib.hid (show ¬ gm < g2 from by omega)
        have HM6 := Lib.hid hmi
        have HAT6 := Lib.hid (S.atK HAT.out hk)
        have HK6 := Lib.hid (HK.out.trans hk)
        have HK26 := Lib.hid (HK2r.out.trans (hk.mono fun _ _ _ => trivial))
        have hwm : w.heap.size ≤ gm := Nat.le_trans HK.out.size hgm1
        have HWM := Lib.hid hwm
        have hcbN : cb ≤ 9223372036854775807 := by unfold maxLen at hcb2; omega
        clear hb hmi hk hgm hgm1 hsz2 hwm hlen HAT HK HK2r hcb2
        go_wp2_with fail
        go_loopw [12] (fun i wi => ∃ q : Nat, q ≤ j ∧ i = .int .i64 (q : Int) ∧ Hid (Mine wi .i64 (some ⟨gm, om, none⟩) j) ∧ Hid (S.At w wi r F 1 (n :: l')) ∧ Hid (Kp w wi) ∧ Hid (Keeps (fun b => b < g2) w2 wi)) (fun i _ => j - (intOf i).toNat)
        case atStart => exact ⟨0, Nat.zero_le _, rfl, HM6, HAT6, HK6, HK26⟩
        case round =>
          clear HM6 HAT6 HK6 HK26
          obtain ⟨q, hq, rfl, HM, HAT, HK, HK2r⟩ := hrel
          by_cases hqN : q < j
          · have hqI : (q : Int) < (j : Int) := by omega
            obtain ⟨⟨x, c0⟩, f0⟩ := HM.out.at_ hqN
            have hset := (Keeps.refl F wr).setCell (p := ⟨gm, om + q, none⟩) (.inr HGM.out.2) (.int .i64 8)
            have HM7 := Lib.hid (HM.out.store q 8)
            have HK7 := Lib.hid (HK.out.setCell (p := ⟨gm, om + q, none⟩) (.inl HWM.out) (.int .i64 8))
            have HAT7 := Lib.hid (S.atKeep HAT.out hset HK7.out)
            have HK27 := Lib.hid (HK2r.out.setCell (p := ⟨gm, om + q, none⟩) (.inr HG2.out) (.int .i64 8))
            clear hset HM HAT HK HK2r
            go_wp2_with fail
            go_roundw
            case rel => exact ⟨q + 1, by omega, by go_num, HM7, HAT7, HK7, HK27⟩
            case measure => simp [intOf]; omega
          · obtain rfl : q = j := by omega
            have HRA := Lib.hid (show ∀ w', Kp wr w' → Row w' A (fun _ => True) ((n :: l').map (Value.int .i64)) from fun w' hk => (HR.out w' (HK2r.out.trans (hk.mono fun _ _ _ => trivial))).mono fun _ _ _ => trivial)
            clear hqN HM
            go_wp2_with fail
            refine wp_region_guard (R := Kp) (V := V r h y A c q n l') (w0 := wr) G (by kernel_rfl) (fun w => Keeps.refl _ w) (fun _ _ _ h k => h.trans k) (V_keep r h y A c q n l') (by kernel_rfl) (G_is r h y A c q n l') (fun i o ho hw => (all_wanted (by kernel_rfl) ho hw).elim) ((Keeps.refl _ wr).drew) (each_of ?_) ?_
            · refine ⟨?_, ?_, ?_, ?_, ?_, ?_, ?_, ?_, ?_, ?_, ?_, ?_, ?_, ?_, ?_, ?_, ?_, ?_, ?_, ?_, ?_, ?_, ?_, ?_, trivial⟩ <;> intro hw a1 w3 L
              · exact kp_move rfl (L.old 8 (by kernel_rfl))
              · exact kp_move rfl (L.old 1 (by kernel_rfl))
              · exact kp_owner S HT.out (S.atK HAT.out L.rel) HH.out.1 HH.out.2 HY.out rfl (L.val 0 48 (by kernel_rfl) (by kernel_rfl)) (L.val 1 49 (by kernel_rfl) (by kernel_rfl))
              · exact kp_move rfl (L.old 9 (by kernel_rfl))
              · exact kp_eqZ14 (by simp) rfl (L.val 2 50 (by kernel_rfl) (by kernel_rfl)) (L.val 3 51 (by kernel_rfl) (by kernel_rfl))
              · exact kp_move rfl (L.val 4 52 (by kernel_rfl) (by kernel_rfl))
              · exact kp_move rfl (L.old 8 (by kernel_rfl))
              · exact kp_nodes S HT.out (S.atK HAT.out L.rel) rfl (L.val 6 54 (by kernel_rfl) (by kernel_rfl))
              · exact kp_lenI HNL.out rfl (L.val 7 55 (by kernel_rfl) (by kernel_rfl))
              · exact kp_move rfl (L.old 6 (by kernel_rfl))
              · exact kp_lenI HNL.out rfl (⟨A, c, by rw [HNL.out]; exact L.val 9 57 (by kernel_rfl) (by kernel_rfl), HRA.out _ L.rel⟩ : ISl (n :: l') _ _)
              · exact kp_eqZ14 (by simp) rfl (L.val 8 56 (by kernel_rfl) (by kernel_rfl)) (L.val 10 58 (by kernel_rfl) (by kernel_rfl))
              · exact kp_pick rfl (L.val 5 53 (by kernel_rfl) (by kernel_rfl)) (L.val 11 59 (by kernel_rfl) (by kernel_rfl))
              · exact kp_move rfl (L.val 12 60 (by kernel_rfl) (by kernel_rfl))
              · exact kp_move rfl (L.old 8 (by kernel_rfl))
              · exact kp_nodes S HT.out (S.atK HAT.out L.rel) rfl (L.val 14 62 (by kernel_rfl) (by kernel_rfl))
              · exact kp_ix0 rfl (L.val 15 63 (by kernel_rfl) (by kernel_rfl)) rfl
              · exact kp_ldI rfl (L.val 16 64 (by kernel_rfl) (by kernel_rfl))
              · exact kp_move rfl (L.old 6 (by kernel_rfl))
              · exact kp_ix0 rfl (⟨A, c, by rw [HNL.out]; exact L.val 18 66 (by kernel_rfl) (by kernel_rfl), HRA.out _ L.rel⟩ : ISl (n :: l') _ _) rfl
              · exact kp_ldI rfl (L.val 19 67 (by kernel_rfl) (by kernel_rfl))
              · exact kp_eqZ14 (by simp) rfl (L.val 17 65 (by kernel_rfl) (by kernel_rfl)) (L.val 20 68 (by kernel_rfl) (by kernel_rfl))
              · exact kp_pick rfl (L.val 13 61 (by kernel_rfl) (by kernel_rfl)) (L.val 21 69 (by kernel_rfl) (by kernel_rfl))
              · exact kp_assign rfl (L.val 22 70 (by kernel_rfl) (by kernel_rfl))
            · intro vs w7 hk7 hlen7 hv
              match vs, hlen7 with
              | [u0, u1, u2, u3, u4, u5, u6, u7, u8, u9, u10, u11, u12, u13, u14, u15, u16, u17, u18, u19, u20, u21, u22, u23], _ =>
                have hx23 : u23 = .bool true := hv 23 4 (by kernel_rfl)
                subst hx23
                have HK8 := Lib.hid (HK.out.trans hk7)
                clear hv hk7
                simp only [putAll, List.map, Act.put, List.setIfInBounds_toArray, List.set_cons_succ, List.set_cons_zero, Exit.then]
                go_wp2_with fail
                go_ret
                exact ⟨rfl, HK8.out.below⟩

end Go.Proofs.Ytonalhjhokkcmaa.ringOwn
