/-
  FlashAll, walked over what a cache keeps.
-/
import Derived.Test.YtoepgbpmcjnbmaaGreatDoorFlashAllRegion
import Derived.Test.YtoepgbpmcjnbmaaGreatDoorFlashDropMath
import Derived.Test.YtoepgbpmcjnbmaaGreatDoorAllItemA
import Derived.Deep.CutRange
import Derived.Deep.CutBlock
import Derived.Deep.LoopGhost
import Derived.Outline
namespace Go.Proofs.YtoepgbpmcjnbmaaGreatDoor.flashAll
open Go Go.RowKit Go.Joins
structure OpF where
  kind : Int
  x : It
  now : Int
  KA : Option Addr
  kn : Nat
  kc : Nat
instance : Inhabited OpF := ⟨⟨0, default, 0, none, 0, 0⟩⟩
structure OpF.came (o : OpF) : Prop where
  k : o.x.key.size ≤ maxLen
  v : o.x.val.size ≤ maxLen
  t1 : -9223372036854775808 ≤ o.x.till
  t2 : o.x.till < 9223372036854775808
  n1 : -9223372036854775808 ≤ o.now
  n2 : o.now < 9223372036854775808
def OpFsAt (W : World) (A : Option Addr) (F : Nat → Prop) (l : List OpF) : Prop := ∀ k (h : k < l.length), (∃ b o, A = some ⟨b, o, none⟩ ∧ F b ∧ W.cell? ⟨b, o + k * 7, none⟩ = some (.int .i64 l[k].kind) ∧
  W.cell? ⟨b, o + k * 7 + 1, none⟩ = some (.string l[k].x.key) ∧ W.cell? ⟨b, o + k * 7 + 2, none⟩ = some (.string l[k].x.val) ∧ W.cell? ⟨b, o + k * 7 + 3, none⟩ = some (.int .i64 l[k].x.till) ∧ W.cell? ⟨b, o + k * 7 + 4, none⟩ = some (.bool l[k].x.gone) ∧
  W.cell? ⟨b, o + k * 7 + 5, none⟩ = some (.int .i64 l[k].now) ∧ W.cell? ⟨b, o + k * 7 + 6, none⟩ = some (.slice l[k].KA l[k].kn l[k].kc)) ∧ l[k].came
theorem OpFsAt.keep {W W' : World} {A : Option Addr} {F : Nat → Prop} {l : List OpF} (h : OpFsAt W A F l) (hk : Keeps F W W') : OpFsAt W' A F l := fun k hl => by
  obtain ⟨⟨b, o, e, hF, c0, c1, c2, c3, c4, c5, c6⟩, h1⟩ := h k hl
  exact ⟨⟨b, o, e, hF, hk.cell c0 hF, hk.cell c1 hF, hk.cell c2 hF, hk.cell c3 hF, hk.cell c4 hF, hk.cell c5 hF, hk.cell c6 hF⟩, h1⟩
theorem turn12 (z : Int) : ∃ (t : Int) (k : Nat), z.tmod 12 = t ∧ -12 ≤ t ∧ t ≤ 12 ∧ (t + 12).tmod 12 = (k : Int) ∧ k ≤ 11 := by
  have a1 := Int.tmod_lt_of_pos z (show (0 : Int) < 12 by decide)
  have a2 := Int.tmod_lt_of_pos (-z) (show (0 : Int) < 12 by decide)
  rw [Int.neg_tmod] at a2
  have a3 := Int.emod_nonneg (z.tmod 12 + 12) (show (12 : Int) ≠ 0 by decide)
  have a4 := Int.emod_lt_of_pos (z.tmod 12 + 12) (show (0 : Int) < 12 by decide)
  exact ⟨z.tmod 12, ((z.tmod 12 + 12) % 12).toNat, rfl, by omega, by omega, by rw [Int.tmod_eq_emod_of_nonneg (by omega)]; omega, by omega⟩
theorem may_not {y : It} (h : (y.may && !y.gone) = false) : y.may = false ∨ y.gone = true := by
  cases h1 : y.may <;> cases h2 : y.gone <;> simp_all
theorem may_yes {y : It} (h : (y.may && !y.gone) = true) : y.may = true ∧ y.gone = false := by
  cases h1 : y.may <;> cases h2 : y.gone <;> simp_all
theorem key_yes {k : ByteArray} (h : (decide (1 ≤ k.size) && decide (k.size ≤ 40)) = true) : keyOk k := by
  simp at h
  exact h
theorem key_no {k : ByteArray} (h : (decide (1 ≤ k.size) && decide (k.size ≤ 40)) = false) : ¬ keyOk k := fun hk => by
  have h1 : (decide (1 ≤ k.size) && decide (k.size ≤ 40)) = true := by simp; exact hk
  rw [h] at h1
  cases h1
theorem keys_nil {segs a : Nat} {ks : List ByteArray} (hm : ∀ k, k ∈ ks ↔ ((stL segs [] 0 a).at_ k).isSome = true) : ks = [] := by
  rw [List.eq_nil_iff_forall_not_mem]
  intro k hk
  have h1 := (hm k).1 hk
  exact absurd h1 (by simp [FSt.at_, fLast, stL])
set_option maxRecDepth 100000 in
set_option maxHeartbeats 2000000 in
theorem walk (S : FlashOK) (w : World) (hT : S.T w) (z : Int) (_ : -9223372036854775808 ≤ z) (_ : z < 9223372036854775808) (A : Option Addr) (c : Nat) (l : List OpF) (ha : l.length ≤ c) (hb : c ≤ maxLen) (hO : OpFsAt w A (fun b => b < w.heap.size) l) :
    Calls Tryz.prog 3 #[.int .i64 z, .slice A l.length c] w fun e w' => e = .returned (.bool true) ∧ Below w.heap.size w w' := by
  have HT := Lib.hid hT
  have HO := Lib.hid hO
  obtain ⟨dl, hdl⟩ : ∃ dl, l.length = dl := ⟨_, rfl⟩
  have HDL := Lib.hid hdl
  unfold maxLen at hb
  have hdm : dl ≤ 9223372036854775807 := by omega
  rw [hdl]
  clear hT hO hdl ha hb
  obtain ⟨t, k0, ht, hr1, hr2, hrk, hk0⟩ := turn12 z
  have HR1 := Lib.hid ht
  have HR2 := Lib.hid hrk
  have HK2 := Lib.hid (show (-12 : Int) ≤ (k0 : Int) ∧ (k0 : Int) ≤ 12 by omega)
  clear ht hrk
  go_enter Tryz.func3, Tryz.ntmps3
  go_wp2_with fail
  refine (show Calls _ _ _ _ _ from begun9 S w HT.out).mono ?_
  rintro e w1 ⟨rfl, hk⟩
  have K1 := Lib.hid hk
  clear hk
  go_wp2_with (first | refine flashDrop.list_rem rfl (.tmp 16) (.const (.int .i64 12)) z 12 t rfl rfl rfl (by decide) (by decide) HR1.out hr1 hr2 ?_ | refine flashDrop.list_rem rfl (.tmp 18) (.const (.int .i64 12)) (t + 12) 12 (k0 : Int) rfl rfl rfl (by decide) (by decide) HR2.out HK2.out.1 HK2.out.2 ?_)
  obtain ⟨G, hG⟩ : ∃ G : Nat, 4 + k0 = G := ⟨_, rfl⟩
  have hGe : (4 : Int) + (k0 : Int) = (G : Int) := by omega
  have g1 : 4 ≤ G := by omega
  have g2' : G ≤ 15 := by omega
  have HGE := Lib.hid hGe
  clear hG hGe hk0 HK2 HR1 HR2 hr1 hr2
  rw [HGE.out]
  clear HGE
  refine (show Calls _ _ _ _ _ from fo_dev (X := fun _ => False) K1.out (fun _ h => h.elim) (G * 8) (by omega) (by omega) ((G : Int) * 8) (by omega)).mono ?_
  rintro e w2 ⟨p, rfl, hB, -⟩
  have HB := Lib.hid hB
  clear hB K1
  go_wp2_with fail
  refine (show Calls _ _ _ _ _ from fo_open HT.out HB.out 0 G 0 (G : Int) rfl rfl (by omega) (by omega) (by omega)).mono ?_
  rintro e w3 ⟨q, rfl, hF, -⟩
  have HF := Lib.hid (show Fo S w w3 p q (stL G [] 0 1) false (fun _ => False) from hF)
  clear hF HB
  go_wp2_with fail
  obtain ⟨w4, hw4⟩ : ∃ w4, w3.alloc (.cells #[.slice none 0 0, .int .i64 0] 33) = w4 := ⟨_, rfl⟩
  have hb4 := heap_alloc_new w3 (.cells #[.slice none 0 0, .int .i64 0] 33)
  have hk4 : Kp w3 (w3.alloc (.cells #[.slice none 0 0, .int .i64 0] 33)) := (Keeps.refl _ w3).alloc _
  have hs4 : (w3.alloc (.cells #[.slice none 0 0, .int .i64 0] 33)).heap.size = w3.heap.size + 1 := by simp
  rw [hw4] at hb4 hk4 hs4
  have HA := Lib.hid (show All S w w4 p q G [] 0 1 [] w3.heap.size none 0 (fun _ => False) from
    ⟨HF.out.more hk4 (fun b hb => by
      rcases hb with rfl | hb | hb
      · exact .inr ⟨Nat.le_refl _, by omega⟩
      · cases hb
      · exact hb.elim), hb4, World.ownsRow_nil _ _ _ _, (by intro e; cases e), HF.out.kp.size, (fun b e => by cases e), (fun _ f => f.elim)⟩)
  have HW4 := Lib.hid hw4
  clear hw4 hb4 hk4 hs4 HF
  rw [HW4.out]
  clear HW4
  generalize w3.heap.size = sp at HA ⊢
  go_loopg [9] 60 (fun gh i wr => ∃ (k g a c2 : Nat) (L : List It) (A2 : Option Addr), gh = 60 - k ∧ k ≤ dl ∧ k ≤ 60 ∧ i = .int .i64 (k : Int) ∧ Hid (L.length ≤ k ∧ a ≤ 2 * k + 1) ∧ Hid (All S w wr p q G L g a L sp A2 c2 (fun _ => False)))
  case atStart => exact ⟨0, 0, 1, 0, [], none, rfl, Nat.zero_le _, by omega, rfl, Lib.hid ⟨Nat.le_refl _, by omega⟩, HA⟩
  case round =>
    clear HA
    obtain ⟨k, g, a, c2, L, A2, rfl, hk1, hk2, rfl, HB, HA⟩ := hrel
    have hc2 : (k < dl ∧ k < 60) ∨ (k < dl ∧ ¬ k < 60) ∨ ¬ k < dl := by omega
    rcases hc2 with ⟨t1, t2⟩ | ⟨t1, t2⟩ | t1
    case inl =>
      have t1' : (k : Int) < (dl : Int) := by omega
      have t2' : (k : Int) < 60 := by omega
      have hkd : k < l.length := by rw [HDL.out]; exact t1
      obtain ⟨⟨b, o, rfl, -, c0, c1, c2', c3, c4, c5, c6⟩, hcame⟩ := (HO.out.keep (HA.out.kp.mono fun _ _ _ => trivial)) k hkd
      generalize l[k] = op at c0 c1 c2' c3 c4 c5 c6 hcame
      obtain ⟨kd, x, now, KA, kn, kc⟩ := op
      simp only at c0 c1 c2' c3 c4 c5 c6
      have HCM := Lib.hid hcame
      clear hcame hkd
      go_wp2_with fail
      obtain ⟨w4, hw4⟩ : ∃ w4, wr.alloc (.cells #[.int .i64 kd, .string x.key, .string x.val, .int .i64 x.till, .bool x.gone, .int .i64 now, .slice KA kn kc] 38) = w4 := ⟨_, rfl⟩
      have hb4 := heap_alloc_new wr (.cells #[.int .i64 kd, .string x.key, .string x.val, .int .i64 x.till, .bool x.gone, .int .i64 now, .slice KA kn kc] 38)
      have hk4 : Kp wr (wr.alloc (.cells #[.int .i64 kd, .string x.key, .string x.val, .int .i64 x.till, .bool x.gone, .int .i64 now, .slice KA kn kc] 38)) := (Keeps.refl _ wr).alloc _
      have hs4 : (wr.alloc (.cells #[.int .i64 kd, .string x.key, .string x.val, .int .i64 x.till, .bool x.gone, .int .i64 now, .slice KA kn kc] 38)).heap.size = wr.heap.size + 1 := by simp
      rw [hw4] at hb4 hk4 hs4
      have HA4 := Lib.hid (HA.out.watch hk4 (ob := wr.heap.size) (Nat.le_refl _) (by omega))
      have HO4 := Lib.hid (show OB w4 wr.heap.size kd x now (.slice KA kn kc) from hb4)
      have HW4 := Lib.hid hw4
      clear hw4 hb4 hk4 hs4 HA c0 c1 c2' c3 c4 c5 c6
      rw [HW4.out]
      clear HW4
      generalize wr.heap.size = ob at *
      refine (show Calls _ _ _ _ _ from law_cut w4 x HCM.out.k HCM.out.v).mono ?_
      rintro e w5 ⟨rfl, hk5⟩
      have HA5 := Lib.hid (HA4.out.keep hk5)
      have HO5 := Lib.hid (HO4.out.keep hk5 trivial)
      have HFY := Lib.hid (x.cut_fits HCM.out.t1 HCM.out.t2)
      have HSZ := Lib.hid (show x.cut.key.size ≤ 50 ∧ x.cut.val.size ≤ 210 from ⟨cutTo_size x.key 50, cutTo_size x.val 210⟩)
      have HN1 := Lib.hid HCM.out.n1
      have HN2 := Lib.hid HCM.out.n2
      clear hk5 HA4 HO4
      have d1 := HO5.out.c1
      have d2 := HO5.out.c2
      have d3 := HO5.out.c3
      have d4 := HO5.out.c4
      have f1 := HO5.out.f 1
      have f2 := HO5.out.f 2
      have f3 := HO5.out.f 3
      have f4 := HO5.out.f 4
      generalize x.cut = y at HFY HSZ ⊢
      clear HCM
      go_upto_region 14 with fail
      have hk6 : Keeps (fun b => b ≠ ob) w5 ((((w5.setCell ⟨ob, 1, none⟩ (.string y.key)).setCell ⟨ob, 2, none⟩ (.string y.val)).setCell ⟨ob, 3, none⟩ (.int .i64 y.till)).setCell ⟨ob, 4, none⟩ (.bool y.gone)) :=
        ((((Keeps.refl (fun b => b ≠ ob) w5).setCell (p := ⟨ob, 1, none⟩) (.inr fun e => e rfl) _).setCell (p := ⟨ob, 2, none⟩) (.inr fun e => e rfl) _).setCell (p := ⟨ob, 3, none⟩) (.inr fun e => e rfl) _).setCell (p := ⟨ob, 4, none⟩) (.inr fun e => e rfl) _
      have HA6 := Lib.hid (HA5.out.mine hk6)
      have HO6 := Lib.hid (HO5.out.set y)
      clear d1 d2 d3 d4 f1 f2 f3 f4 hk6 HA5 HO5
      generalize (((w5.setCell ⟨ob, 1, none⟩ (.string y.key)).setCell ⟨ob, 2, none⟩ (.string y.val)).setCell ⟨ob, 3, none⟩ (.int .i64 y.till)).setCell ⟨ob, 4, none⟩ (.bool y.gone) = w6 at HA6 HO6 ⊢
      have hcm : (y.may = false) ∨ (y.may = true ∧ y.gone = true) ∨ (y.may = true ∧ y.gone = false) := by
        cases y.may <;> cases y.gone <;> simp
      go_cut [11] from 33 to 158 (fun s11 wx => ∃ mb : Bool, s11 = .bool mb ∧ Hid ((y.may && !y.gone) = mb) ∧ Hid (All S w wx p q G L g a L sp A2 c2 (fun b => b = ob)) ∧ Hid (OB wx ob kd y now (.slice KA kn kc)))
      case first =>
        have d1 := HO6.out.c1
        have d2 := HO6.out.c2
        have d3 := HO6.out.c3
        have d4 := HO6.out.c4
        go_wp2_with fail
        refine (show Calls _ _ _ _ _ from rmay w6 y HFY.out).mono ?_
        rintro e w7 ⟨rfl, hk7⟩
        have HA7 := Lib.hid (HA6.out.keep hk7)
        have HO7 := Lib.hid (HO6.out.keep hk7 trivial)
        have e4 := HO7.out.c4
        clear hk7 HA6 HO6 d1 d2 d3 d4
        rcases hcm with m1 | ⟨m1, m2⟩ | ⟨m1, m2⟩
        · rw [m1]
          go_wp2_with fail
          go_meet
          exact ⟨false, rfl, Lib.hid (by rw [m1]; rfl), HA7, HO7⟩
        · rw [m1]
          rw [m2] at e4
          go_wp2_with fail
          go_meet
          exact ⟨false, rfl, Lib.hid (by rw [m1, m2]; rfl), HA7, HO7⟩
        · rw [m1]
          rw [m2] at e4
          go_wp2_with fail
          go_meet
          exact ⟨true, rfl, Lib.hid (by rw [m1, m2]; rfl), HA7, HO7⟩
      case rest =>
        clear HA6 HO6 hcm
        obtain ⟨mb, rfl, HMB, HA7, HO7⟩ := hcut
        have HAGE := Lib.hid (show a ≤ 20000 by have := HB.out; omega)
        have HLL := Lib.hid (show L.length ≤ 59 by have := HB.out; omega)
        have d0 := HO7.out.c0
        go_upto_block 2 with fail
        go_cut [12] from 33 to 158 (fun s12 wx => ∃ (g2 a2 c3 : Nat) (L2 : List It) (A3 : Option Addr), Hid (L2.length ≤ k + 1 ∧ a2 ≤ 2 * (k + 1) + 1) ∧ Hid (All S w wx p q G L2 g2 a2 L2 sp A3 c3 (fun b => b = ob)) ∧ Hid (OB wx ob kd y now (.slice KA kn kc)))
        case first =>
          have d1 := HO7.out.c1
          have d2 := HO7.out.c2
          have d3 := HO7.out.c3
          have d4 := HO7.out.c4
          have hcs : ((kd == 0) = true) ∨ ((kd == 0) = false ∧ (kd == 1) = true) ∨ ((kd == 0) = false ∧ (kd == 1) = false ∧ (kd == 2) = true) ∨ ((kd == 0) = false ∧ (kd == 1) = false ∧ (kd == 2) = false ∧ (kd == 3) = true) ∨ ((kd == 0) = false ∧ (kd == 1) = false ∧ (kd == 2) = false ∧ (kd == 3) = false) := by
            cases (kd == 0) <;> cases (kd == 1) <;> cases (kd == 2) <;> cases (kd == 3) <;> simp
          rcases hcs with e0 | ⟨e0, e1⟩ | ⟨e0, e1, e2⟩ | ⟨e0, e1, e2, e3⟩ | ⟨e0, e1, e2, e3⟩
          · cases mb with
            | false =>
              go_wp2_with fail
              refine (show Calls _ _ _ _ _ from all_putNo HT.out HA7.out y HFY.out (may_not HMB.out)).mono ?_
              rintro e w8 ⟨rfl, h8, hk8⟩
              have HA8 := Lib.hid h8
              have HO8 := Lib.hid (HO7.out.keep hk8 trivial)
              clear h8 hk8 HA7 HO7 d0 d1 d2 d3 d4
              go_wp2_with fail
              go_meet
              exact ⟨g, a, c2, L, A2, Lib.hid (by have := HB.out; omega), HA8, HO8⟩
            | true =>
              go_wp2_with fail
              refine (show Calls _ _ _ _ _ from all_put HT.out HA7.out HAGE.out y (may_yes HMB.out).1 (may_yes HMB.out).2).mono ?_
              rintro e w8 ⟨rfl, ⟨g8, h8⟩, hk8⟩
              have HA8 := Lib.hid h8
              have HO8 := Lib.hid (HO7.out.keep hk8 (.inr (.inr rfl)))
              have d1 := HO8.out.c1
              have d2 := HO8.out.c2
              have d3 := HO8.out.c3
              have d4 := HO8.out.c4
              clear h8 hk8 HA7 HO7 d0
              go_wp2_with fail
              refine (show Calls _ _ _ _ _ from add_any w8 sp A2 c2 L y L.length rfl HA8.out.blk HA8.out.own HA8.out.ne (by have := HLL.out; omega) (by have := HSZ.out; omega) (by have := HSZ.out; omega)).mono ?_
              rintro e w9 ⟨rfl, A9, c9, n1, n2, n3, n4, n5⟩
              have HA9 := Lib.hid (HA8.out.added n1 n2 n3 n4 n5)
              have HO9 := Lib.hid (HO8.out.keep n5 (by have h := HA8.out.y ob rfl; exact ⟨h.2.1, h.1⟩))
              clear n1 n2 n3 n4 n5 HA8 HO8 d1 d2 d3 d4
              go_wp2_with fail
              go_meet
              exact ⟨g8, a + 1, c9, L ++ [y], A9, Lib.hid (by have h := HB.out; rw [List.length_append]; exact ⟨by simp; omega, by omega⟩), HA9, HO9⟩
          · obtain ⟨kb, hkb⟩ : ∃ kb, (decide (1 ≤ y.key.size) && decide (y.key.size ≤ 40)) = kb := ⟨_, rfl⟩
            have HKB := Lib.hid hkb
            go_wp2_with fail
            refine (show Calls _ _ _ _ _ from rkey y.key (by have := HSZ.out; omega) wc kb hkb).mono ?_
            rintro e w8 ⟨rfl, hw8⟩
            subst hw8
            clear hkb
            cases kb with
            | false =>
              go_wp2_with fail
              refine (show Calls _ _ _ _ _ from all_dropNo HT.out HA7.out (k := y.key) (by have := HSZ.out; omega) (key_no HKB.out)).mono ?_
              rintro e w8 ⟨rfl, h8, hk8⟩
              have HA8 := Lib.hid h8
              have HO8 := Lib.hid (HO7.out.keep hk8 trivial)
              clear h8 hk8 HA7 HO7 d0 d1 d2 d3 d4
              go_wp2_with fail
              go_meet
              exact ⟨g, a, c2, L, A2, Lib.hid (by have := HB.out; omega), HA8, HO8⟩
            | true =>
              go_wp2_with fail
              refine (show Calls _ _ _ _ _ from all_drop HT.out HA7.out HAGE.out (k := y.key) (key_yes HKB.out)).mono ?_
              rintro e w8 ⟨rfl, ⟨g8, h8⟩, hk8⟩
              have HA8 := Lib.hid h8
              have HO8 := Lib.hid (HO7.out.keep hk8 (.inr (.inr rfl)))
              have d1 := HO8.out.c1
              clear h8 hk8 HA7 HO7 d0 d2 d3 d4
              go_wp2_with fail
              refine (show Calls _ _ _ _ _ from add_any w8 sp A2 c2 L (goneIt y.key) L.length rfl HA8.out.blk HA8.out.own HA8.out.ne (by have := HLL.out; omega) (by show y.key.size ≤ _; have := HSZ.out; omega) (by show (0 : Nat) ≤ _; omega)).mono ?_
              rintro e w9 ⟨rfl, A9, c9, n1, n2, n3, n4, n5⟩
              have HA9 := Lib.hid (HA8.out.added n1 n2 n3 n4 n5)
              have HO9 := Lib.hid (HO8.out.keep n5 (by have h := HA8.out.y ob rfl; exact ⟨h.2.1, h.1⟩))
              clear n1 n2 n3 n4 n5 HA8 HO8 d1
              go_wp2_with fail
              go_meet
              exact ⟨g8, a + 2, c9, L ++ [goneIt y.key], A9, Lib.hid (by have h := HB.out; rw [List.length_append]; exact ⟨by simp; omega, by omega⟩), HA9, HO9⟩
          · go_wp2_with fail
            refine (show Calls _ _ _ _ _ from all_flush HT.out HA7.out HAGE.out).mono ?_
            rintro e w8 ⟨rfl, h8, hk8⟩
            have HA8 := Lib.hid h8
            have HO8 := Lib.hid (HO7.out.keep hk8 (.inr (.inr rfl)))
            clear h8 hk8 HA7 HO7 d0 d1 d2 d3 d4
            go_wp2_with fail
            go_meet
            exact ⟨g, a + 1, c2, L, A2, Lib.hid (by have := HB.out; omega), HA8, HO8⟩
          · go_wp2_with fail
            refine (show Calls _ _ _ _ _ from all_wipe HT.out HA7.out HAGE.out).mono ?_
            rintro e w8 ⟨rfl, h8, hk8⟩
            have HA8 := Lib.hid h8
            have HO8 := Lib.hid (HO7.out.keep hk8 (.inr (.inr rfl)))
            clear h8 hk8 HA7 HO7 d0 d1 d2 d3 d4
            go_wp2_with fail
            refine (show Calls _ _ _ _ _ from fo_keys HT.out HA8.out.fo).mono ?_
            rintro e w9 ⟨A9, c9, ks, rfl, -, hm, -, hk9, -⟩
            have hks := keys_nil hm
            subst hks
            have HA9 := Lib.hid (HA8.out.keep hk9)
            have HO9 := Lib.hid (HO8.out.keep hk9 trivial)
            have s0 := HA9.out.blk.c0
            have s1 := HA9.out.blk.f0 0
            clear hm hk9 HA8 HO8
            go_wp2_with fail
            have HA10 := Lib.hid HA9.out.emptied
            have HO10 := Lib.hid (HO9.out.keep ((Keeps.refl (fun b => b ≠ sp) w9).setCell (p := ⟨sp, 0, none⟩) (.inr fun e => e rfl) (.slice none 0 0)) (HA9.out.y ob rfl).1)
            go_meet
            exact ⟨0, a + 1, 0, [], none, Lib.hid (by have h := HB.out; exact ⟨Nat.zero_le _, by omega⟩), HA10, HO10⟩
          · go_wp2_with fail
            go_meet
            exact ⟨g, a, c2, L, A2, Lib.hid (by have := HB.out; omega), HA7, HO7⟩
        case rest =>
          clear HA7 HO7 HMB HAGE HLL d0 HB
          obtain ⟨g2, a2, c3, L2, A3, HB2, HA8, HO8⟩ := hcut
          have HL60 := Lib.hid (show L2.length ≤ 60 by have := HB2.out; omega)
          have HRT := Lib.hid (show ∀ W3 : World, Kp wc W3 → ∀ k : ByteArray, k.size ≤ 1000000 → Calls Tryz.prog 22 #[.pointer (some ⟨sp, 0, none⟩), .pointer (some ⟨q, 0, none⟩), .string k, .int .i64 now, .int .i64 (G : Int)] W3 fun e w' => e = .returned (.bool true) ∧ Kp W3 w' from
            fun W3 hk3 k hks => right_any S HT.out W3 p q sp G g2 a2 A3 c3 L2 false _ (HA8.out.fo.keep hk3) (HA8.out.rows.keep hk3) HL60.out g1 g2' k hks now HN1.out HN2.out)
          have HYS := Lib.hid (show y.key.size ≤ 1000000 by have := HSZ.out; omega)
          have HMAY := Lib.hid (show ∀ u ∈ L2, u.may = true from fun u hu => HA8.out.fo.wf.one (fput u) (List.mem_map.2 ⟨u, hu, rfl⟩))
          go_wp2_with fail
          rcases Nat.eq_zero_or_pos L2.length with h0 | hpos
          · have HPOS := Lib.hid (show decide (0 < 0) = false from rfl)
            have hV : Value.slice A3 L2.length c3 = .slice A3 0 c3 := by rw [h0]
            have HV := Lib.hid (show SBlk wc sp (.slice A3 0 c3) from by rw [← hV]; exact HA8.out.blk)
            clear hV h0
            refine wp_region_guard (R := Kp) (V := Vs (V0 sp q ob y.key now (G : Int) (.slice A3 0 c3))) (w0 := wc) (GR false) (by kernel_rfl) (fun w => Keeps.refl _ w) (fun _ _ _ h k => h.trans k) (Vs_keep _) (by kernel_rfl) GR_0 (unwanted_of [18, 19, 20, 21, 22, 23, 24, 25, 26, 27, 28, 29, 30, 31, 32, 33, 34, 35, 36, 37, 38, 39] (by kernel_rfl) (by intro i hi; simp only [List.mem_cons, List.not_mem_nil, or_false] at hi; rcases hi with rfl | rfl | rfl | rfl | rfl | rfl | rfl | rfl | rfl | rfl | rfl | rfl | rfl | rfl | rfl | rfl | rfl | rfl | rfl | rfl | rfl | rfl <;> rfl)) ((Keeps.refl _ wc).drew) (each_of ?_) ?_
            · refine ⟨?_, ?_, ?_, ?_, ?_, ?_, ?_, ?_, ?_, ?_, ?_, ?_, ?_, ?_, ?_, ?_, ?_, ?_, ?_, ?_, ?_, ?_, ?_, ?_, ?_, ?_, ?_, ?_, ?_, ?_, ?_, ?_, ?_, ?_, ?_, ?_, ?_, ?_, ?_, ?_, ?_, ?_, trivial⟩ <;> intro hw a1 w3 L
              · exact kp_move rfl (L.old 8 (by kernel_rfl))
              · exact kp_move rfl (L.old 6 (by kernel_rfl))
              · exact kp_fO1 rfl (L.old 10 (by kernel_rfl))
              · exact kp_fI0 rfl (L.val 2 119 (by kernel_rfl) (by kernel_rfl))
              · exact kp_loadT (L.rel.cell HO8.out.c1 trivial) rfl (L.val 3 120 (by kernel_rfl) (by kernel_rfl))
              · exact kp_fO2 rfl (L.old 10 (by kernel_rfl))
              · exact kp_loadN (L.rel.cell HO8.out.c5 trivial) rfl (L.val 5 122 (by kernel_rfl) (by kernel_rfl))
              · exact kp_move rfl (L.old 0 (by kernel_rfl))
              · exact kp_right (HRT.out w3 L.rel y.key HYS.out) rfl (L.val 0 117 (by kernel_rfl) (by kernel_rfl)) (L.val 1 118 (by kernel_rfl) (by kernel_rfl)) (L.val 4 121 (by kernel_rfl) (by kernel_rfl)) (L.val 6 123 (by kernel_rfl) (by kernel_rfl)) (L.val 7 124 (by kernel_rfl) (by kernel_rfl))
              · exact kp_notB rfl (L.val 8 125 (by kernel_rfl) (by kernel_rfl))
              · exact kp_move rfl (L.val 9 126 (by kernel_rfl) (by kernel_rfl))
              · exact kp_move rfl (L.old 8 (by kernel_rfl))
              · exact kp_nilP rfl (L.val 11 128 (by kernel_rfl) (by kernel_rfl))
              · exact kp_fS rfl (L.val 12 129 (by kernel_rfl) (by kernel_rfl))
              · exact kp_lE (L.rel.cell HV.out.c0 trivial) rfl (L.val 13 130 (by kernel_rfl) (by kernel_rfl))
              · exact kp_lenE rfl (L.val 14 131 (by kernel_rfl) (by kernel_rfl))
              · exact kp_gtr0 HPOS.out rfl (L.val 15 132 (by kernel_rfl) (by kernel_rfl)) rfl
              · exact kp_move rfl (L.val 16 133 (by kernel_rfl) (by kernel_rfl))
              · exact absurd hw (by decide)
              · exact absurd hw (by decide)
              · exact absurd hw (by decide)
              · exact absurd hw (by decide)
              · exact absurd hw (by decide)
              · exact absurd hw (by decide)
              · exact absurd hw (by decide)
              · exact absurd hw (by decide)
              · exact absurd hw (by decide)
              · exact absurd hw (by decide)
              · exact absurd hw (by decide)
              · exact absurd hw (by decide)
              · exact absurd hw (by decide)
              · exact absurd hw (by decide)
              · exact absurd hw (by decide)
              · exact absurd hw (by decide)
              · exact absurd hw (by decide)
              · exact absurd hw (by decide)
              · exact absurd hw (by decide)
              · exact absurd hw (by decide)
              · exact absurd hw (by decide)
              · exact absurd hw (by decide)
              · exact kp_pick rfl (L.val 17 134 (by kernel_rfl) (by kernel_rfl)) rfl
              · exact kp_pick rfl (L.val 10 127 (by kernel_rfl) (by kernel_rfl)) (L.val 40 157 (by kernel_rfl) (by kernel_rfl))
            · intro vs w9 hw9 hlen hv
              match vs, hlen with
              | v0 :: v1 :: v2 :: v3 :: v4 :: v5 :: v6 :: v7 :: v8 :: v9 :: v10 :: v11 :: v12 :: v13 :: v14 :: v15 :: v16 :: v17 :: v18 :: v19 :: v20 :: vt, hlen =>
                match vt, hlen with
                | [t0, t1, t2, t3, t4, t5, t6, t7, t8, t9, t10, t11, t12, t13, t14, t15, t16, t17, t18, t19, t20], _ =>
                  have e41 : t20 = .bool false := hv 41 158 (by kernel_rfl)
                  clear hv
                  subst e41
                  have HA9 := Lib.hid (HA8.out.keep hw9).unwatch
                  clear hw9 HA8 HO8 HRT
                  simp only [putAll, List.map, Act.put, List.setIfInBounds_toArray, List.set_cons_succ, List.set_cons_zero, Exit.then]
                  go_wp2_with fail
                  go_roundg (60 - (k + 1))
                  case measure => omega
                  case rel => exact ⟨k + 1, g2, a2, c3, L2, A3, rfl, by omega, by omega, by go_num, HB2, HA9⟩
          · obtain ⟨b2, o2, e, hk0, -⟩ := HA8.out.rows.2 (k % L2.length) (Nat.mod_lt _ hpos)
            have HLT := Lib.hid (Nat.mod_lt k hpos)
            have HK8 := Lib.hid hk0
            have HKS := Lib.hid (show L2[k % L2.length].key.size ≤ 1000000 by have := It.may_is (HMAY.out _ (List.getElem_mem (Nat.mod_lt k hpos))); omega)
            have HPOS := Lib.hid (show decide (0 < L2.length) = true from decide_eq_true hpos)
            subst e
            clear hk0
            refine wp_region_guard (R := Kp) (V := Vs (V1 sp q ob b2 o2 (k % L2.length) y.key (L2[k % L2.length]'(Nat.mod_lt _ hpos)).key now (G : Int) (.slice (some ⟨b2, o2, none⟩) L2.length c3) L2.length k)) (w0 := wc) (GR true) (by kernel_rfl) (fun w => Keeps.refl _ w) (fun _ _ _ h k => h.trans k) (Vs_keep _) (by kernel_rfl) GR_1 (unwanted_of [] (by kernel_rfl) (fun _ h => by cases h)) ((Keeps.refl _ wc).drew) (each_of ?_) ?_
            · refine ⟨?_, ?_, ?_, ?_, ?_, ?_, ?_, ?_, ?_, ?_, ?_, ?_, ?_, ?_, ?_, ?_, ?_, ?_, ?_, ?_, ?_, ?_, ?_, ?_, ?_, ?_, ?_, ?_, ?_, ?_, ?_, ?_, ?_, ?_, ?_, ?_, ?_, ?_, ?_, ?_, ?_, ?_, trivial⟩ <;> intro hw a1 w3 L
              · exact kp_move rfl (L.old 8 (by kernel_rfl))
              · exact kp_move rfl (L.old 6 (by kernel_rfl))
              · exact kp_fO1 rfl (L.old 10 (by kernel_rfl))
              · exact kp_fI0 rfl (L.val 2 119 (by kernel_rfl) (by kernel_rfl))
              · exact kp_loadT (L.rel.cell HO8.out.c1 trivial) rfl (L.val 3 120 (by kernel_rfl) (by kernel_rfl))
              · exact kp_fO2 rfl (L.old 10 (by kernel_rfl))
              · exact kp_loadN (L.rel.cell HO8.out.c5 trivial) rfl (L.val 5 122 (by kernel_rfl) (by kernel_rfl))
              · exact kp_move rfl (L.old 0 (by kernel_rfl))
              · exact kp_right (HRT.out w3 L.rel y.key HYS.out) rfl (L.val 0 117 (by kernel_rfl) (by kernel_rfl)) (L.val 1 118 (by kernel_rfl) (by kernel_rfl)) (L.val 4 121 (by kernel_rfl) (by kernel_rfl)) (L.val 6 123 (by kernel_rfl) (by kernel_rfl)) (L.val 7 124 (by kernel_rfl) (by kernel_rfl))
              · exact kp_notB rfl (L.val 8 125 (by kernel_rfl) (by kernel_rfl))
              · exact kp_move rfl (L.val 9 126 (by kernel_rfl) (by kernel_rfl))
              · exact kp_move rfl (L.old 8 (by kernel_rfl))
              · exact kp_nilP rfl (L.val 11 128 (by kernel_rfl) (by kernel_rfl))
              · exact kp_fS rfl (L.val 12 129 (by kernel_rfl) (by kernel_rfl))
              · exact kp_lE (L.rel.cell HA8.out.blk.c0 trivial) rfl (L.val 13 130 (by kernel_rfl) (by kernel_rfl))
              · exact kp_lenE rfl (L.val 14 131 (by kernel_rfl) (by kernel_rfl))
              · exact kp_gtr0 HPOS.out rfl (L.val 15 132 (by kernel_rfl) (by kernel_rfl)) rfl
              · exact kp_move rfl (L.val 16 133 (by kernel_rfl) (by kernel_rfl))
              · exact kp_move rfl (L.old 8 (by kernel_rfl))
              · exact kp_move rfl (L.old 6 (by kernel_rfl))
              · exact kp_move rfl (L.old 8 (by kernel_rfl))
              · exact kp_nilP rfl (L.val 20 137 (by kernel_rfl) (by kernel_rfl))
              · exact kp_fS rfl (L.val 21 138 (by kernel_rfl) (by kernel_rfl))
              · exact kp_lE (L.rel.cell HA8.out.blk.c0 trivial) rfl (L.val 22 139 (by kernel_rfl) (by kernel_rfl))
              · exact kp_move rfl (L.old 9 (by kernel_rfl))
              · exact kp_move rfl (L.old 8 (by kernel_rfl))
              · exact kp_nilP rfl (L.val 25 142 (by kernel_rfl) (by kernel_rfl))
              · exact kp_fS rfl (L.val 26 143 (by kernel_rfl) (by kernel_rfl))
              · exact kp_lE (L.rel.cell HA8.out.blk.c0 trivial) rfl (L.val 27 144 (by kernel_rfl) (by kernel_rfl))
              · exact kp_lenE rfl (L.val 28 145 (by kernel_rfl) (by kernel_rfl))
              · exact kp_remN hpos (by omega) rfl (L.val 24 141 (by kernel_rfl) (by kernel_rfl)) (L.val 29 146 (by kernel_rfl) (by kernel_rfl))
              · exact kp_atE HLT.out rfl (L.val 23 140 (by kernel_rfl) (by kernel_rfl)) (L.val 30 147 (by kernel_rfl) (by kernel_rfl))
              · exact kp_fE0 rfl (L.val 31 148 (by kernel_rfl) (by kernel_rfl))
              · exact kp_fI0 rfl (L.val 32 149 (by kernel_rfl) (by kernel_rfl))
              · exact kp_loadT (L.rel.cell HK8.out trivial) rfl (L.val 33 150 (by kernel_rfl) (by kernel_rfl))
              · exact kp_fO2 rfl (L.old 10 (by kernel_rfl))
              · exact kp_loadN (L.rel.cell HO8.out.c5 trivial) rfl (L.val 35 152 (by kernel_rfl) (by kernel_rfl))
              · exact kp_move rfl (L.old 0 (by kernel_rfl))
              · exact kp_right (HRT.out w3 L.rel _ HKS.out) rfl (L.val 18 135 (by kernel_rfl) (by kernel_rfl)) (L.val 19 136 (by kernel_rfl) (by kernel_rfl)) (L.val 34 151 (by kernel_rfl) (by kernel_rfl)) (L.val 36 153 (by kernel_rfl) (by kernel_rfl)) (L.val 37 154 (by kernel_rfl) (by kernel_rfl))
              · exact kp_notB rfl (L.val 38 155 (by kernel_rfl) (by kernel_rfl))
              · exact kp_pick rfl (L.val 17 134 (by kernel_rfl) (by kernel_rfl)) (L.val 39 156 (by kernel_rfl) (by kernel_rfl))
              · exact kp_pick rfl (L.val 10 127 (by kernel_rfl) (by kernel_rfl)) (L.val 40 157 (by kernel_rfl) (by kernel_rfl))
            · intro vs w9 hw9 hlen hv
              match vs, hlen with
              | v0 :: v1 :: v2 :: v3 :: v4 :: v5 :: v6 :: v7 :: v8 :: v9 :: v10 :: v11 :: v12 :: v13 :: v14 :: v15 :: v16 :: v17 :: v18 :: v19 :: v20 :: vt, hlen =>
                match vt, hlen with
                | [t0, t1, t2, t3, t4, t5, t6, t7, t8, t9, t10, t11, t12, t13, t14, t15, t16, t17, t18, t19, t20], _ =>
                  have e41 : t20 = .bool false := hv 41 158 (by kernel_rfl)
                  clear hv
                  subst e41
                  have HA9 := Lib.hid (HA8.out.keep hw9).unwatch
                  clear hw9 HA8 HO8 HRT
                  simp only [putAll, List.map, Act.put, List.setIfInBounds_toArray, List.set_cons_succ, List.set_cons_zero, Exit.then]
                  go_wp2_with fail
                  go_roundg (60 - (k + 1))
                  case measure => omega
                  case rel => exact ⟨k + 1, g2, a2, c3, L2, some ⟨b2, o2, none⟩, rfl, by omega, by omega, by go_num, HB2, HA9⟩
    all_goals (try have t1' : (k : Int) < (dl : Int) := by omega)
    all_goals (try have t2' : ¬ (k : Int) < 60 := by omega)
    all_goals (try have t1' : ¬ (k : Int) < (dl : Int) := by omega)
    all_goals (
      have HE := Lib.hid HA.out.kp
      clear HA
      go_wp2_with fail
      go_ret
      exact ⟨rfl, HE.out.below⟩)
end Go.Proofs.YtoepgbpmcjnbmaaGreatDoor.flashAll
