/-
  THE WALK OF MetaAll, whatever lies on a keeper's sectors.
-/
import Derived.Test.YtmnjdlnjhomhnaaDoorMtBegun
import Derived.Test.YtmnjdlnjhomhnaaDoorMtLocs
namespace Go.Proofs.YtmnjdlnjhomhnaaDoor.metaAll
open Go Go.RowKit Go.Joins
def MsAt (w : World) (A : Option Addr) (F : Nat → Prop) (l : List M4) : Prop := ∀ k (h : k < l.length), ∃ b o, A = some ⟨b, o, none⟩ ∧ F b ∧ w.cell? ⟨b, o + k * 4, none⟩ = some (.int .i64 l[k].boot) ∧
  w.cell? ⟨b, o + k * 4 + 1, none⟩ = some (.int .i64 l[k].epoch) ∧ w.cell? ⟨b, o + k * 4 + 2, none⟩ = some (.int .i64 l[k].ready) ∧ w.cell? ⟨b, o + k * 4 + 3, none⟩ = some (.bool l[k].frozen)
def St12 (S : MetaOK) (W : World) (p q g h n : Nat) (x m m' : M4) (b : Bool) (w : World) : Prop :=
  Four w g x ∧ MBlk w h m' ∧ ∃ F n', ¬ F g ∧ ¬ F h ∧ n' ≤ n + (if b then 1 else 0) ∧ S.At W w p q F n' (if b then m' else m)
theorem St12.keep {S : MetaOK} {W w w' : World} {p q g h n : Nat} {x m m' : M4} {b : Bool} (hs : St12 S W p q g h n x m m' b w) (hk : Kp w w') : St12 S W p q g h n x m m' b w' := by
  obtain ⟨h1, h2, F, n', h3, h4, h5, h6⟩ := hs
  exact ⟨h1.keep hk trivial, h2.keep hk trivial, F, n', h3, h4, h5, S.atK h6 hk⟩
theorem four_lt {w : World} {g : Nat} {m : M4} (h : Four w g m) : g < w.heap.size := World.block_lt_of_cell? w _ h.1
section
variable {o : Oper} {a : Act} {w : World} {Q : Exit → Act → World → Prop} {y z : Operand}
theorem one_save (S : MetaOK) {W : World} {p q g h n : Nat} {x m m' : M4} {ok : Bool} {wv : Int} (hT : S.T W) (hx : x.Fits) (hok : (mayB x && overB m x) = ok) (hm : m' = if ok then x else m) (hw : wv = if ok then 0 else 1) (hn : n ≤ 1000) (hs : St12 S W p q g h n x m m' false w)
    (ho : o.op = .call { callee := .value (.func 12), args := #[y, z], argTypes := #[27, 32] }) (hy : a.eval y = .pointer (some ⟨q, 0, none⟩)) (hz : a.eval z = magg x) :
    o.wp Tryd.prog a w (fun a' w' => ∃ v, a' = a.put o.dst v ∧ True ∧ St12 S W p q g h n x m m' true w' ∧ IsV (.int .i64 wv) w' v) Q := by
  obtain ⟨h1, h2, F, n', h3, h4, h5, h6⟩ := hs
  simp only [Bool.false_eq_true, if_false] at h5 h6
  have hg : a.eval (.func 12) = .func (.func 12) #[] #[] := rfl
  cases ok with
  | true =>
    simp only [if_true] at hm hw
    subst hm hw
    refine one_enter12 (f := 12) (args := #[.pointer (some ⟨q, 0, none⟩), magg m']) ?_ (S.save W w p q F n' m m' hT h6 (by omega) hx hok) ?_
    · clear h1 h2 h3 h4 h5 h6 hx hok
      generalize a.eval = ρ at hy hz hg ⊢
      unfold execOp
      rw [ho]
      go_simp
    · rintro e w' ⟨rfl, F', hA, hF, hk⟩
      refine ⟨_, rfl, trivial, ⟨h1.keep hk h3, h2.keep hk h4, F', n' + 1, fun hf => ?_, fun hf => ?_, by simp only [if_true]; omega, hA⟩, rfl⟩
      · rcases hF _ hf with hf | hf
        · exact h3 hf
        · have := four_lt h1; omega
      · rcases hF _ hf with hf | hf
        · exact h4 hf
        · have := h2.lt; omega
  | false =>
    simp only [Bool.false_eq_true, if_false] at hm hw
    subst hm hw
    refine one_enter12 (f := 12) (args := #[.pointer (some ⟨q, 0, none⟩), magg x]) ?_ (S.saveNo W w p q F n' m' x hT h6 hx hok) ?_
    · clear h1 h2 h3 h4 h5 h6 hx hok
      generalize a.eval = ρ at hy hz hg ⊢
      unfold execOp
      rw [ho]
      go_simp
    · rintro e w' ⟨rfl, hk⟩
      exact ⟨_, rfl, trivial, ⟨h1.keep hk trivial, h2.keep hk trivial, F, n', h3, h4, by simp only [if_true]; omega, by simpa using S.atK h6 hk⟩, rfl⟩
end
def G17 : Nat → Option Bool
  | 5 => some false
  | _ => none
def L17 (q : Nat) (x : M4) (wv : Int) : List Value := [magg x, .bool (mayB x), magg x, .bool (mayB x), .bool false, .bool false, .pointer (some ⟨q, 0, none⟩), magg x, .int .i64 wv, .int .i64 wv, .bool false, .bool false]
def V17 (q : Nat) (x : M4) (wv : Int) : Nat → World → Value → Prop := fun i => IsV ((L17 q x wv).getD i undef)
theorem G17_is (q : Nat) (x : M4) (wv : Int) (g : Nat) (c : Bool) (h : G17 g = some c) (w : World) (v : Value) (hv : V17 q x wv g w v) : v = .bool c := by
  match g, h with
  | 5, h => cases h; exact hv
def G24 : Nat → Option Bool := fun _ => none
def L24 (q : Nat) (m : M4) : List Value := [.pointer (some ⟨q, 0, none⟩), magg m, magg m, .bool true, .bool false]
def V24 (q : Nat) (m : M4) : Nat → World → Value → Prop := fun i => IsV ((L24 q m).getD i undef)
set_option maxRecDepth 100000 in
set_option maxHeartbeats 8000000 in
theorem walk (S : MetaOK) (w : World) (hT : S.T w) (B : Option Addr) (cap : Nat) (l : List M4) (_h1 : l.length ≤ cap) (_h2 : cap ≤ maxLen) (hB : MsAt w B (fun b => b < w.heap.size) l) (hp : ∀ x ∈ l, x.Fits)
    (K : Option Addr) (kc : Nat) (kl : List Bool) (_a1 : kl.length ≤ kc) (_a2 : kc ≤ maxLen) (hK : Row w K (fun b => b < w.heap.size) (kl.map Value.bool)) :
    Calls Tryd.prog 3 #[.slice B l.length cap, .slice K kl.length kc] w fun e w' => e = .returned (.bool true) ∧ Below w.heap.size w w' := by
  have HT := Lib.hid hT
  have HB := Lib.hid hB
  have HP := Lib.hid hp
  have HK := Lib.hid hK
  unfold maxLen at _h2 _a2
  clear hT hB hp hK
  go_enter Tryd.func3, Tryd.ntmps3
  go_wp2_with fail
  refine (begun12 S w HT.out).mono ?_
  rintro e w1 ⟨rfl, hk1⟩
  have HK1 := Lib.hid hk1
  clear hk1
  go_wp2_with fail
  refine (show Calls _ _ _ _ _ from S.new w w1 2 HT.out HK1.out (by decide) (by decide)).mono ?_
  rintro e w2 ⟨p, F, rfl, hd, -, -⟩
  have HD := Lib.hid hd
  clear hd HK1
  go_wp2_with fail
  refine (S.make w w2 p F 2 HT.out HD.out (by decide)).mono ?_
  rintro e w3 ⟨q, F3, rfl, ha, -, -⟩
  have HA := Lib.hid (S.atK ha ((Keeps.refl (fun _ => True) w3).alloc (.cells (mcells m0) 32)))
  obtain ⟨h, hh⟩ : ∃ h, w3.heap.size = h := ⟨_, rfl⟩
  have HN := Lib.hid (MBlk.new w3 m0 h hh.symm)
  have HH := Lib.hid (show w.heap.size ≤ h from by have := (S.atIn ha).1.size; omega)
  have HF := Lib.hid (show ¬ F3 h from fun hf => by have := (S.atIn ha).2 _ hf; omega)
  clear ha HD
  go_wp2_with fail
  go_loopw [6, 7, 10] (fun v6 v7 v10 wr => ∃ (k p q : Nat) (F : Nat → Prop) (n : Nat) (m : M4), k ≤ l.length ∧ k ≤ 20 ∧ v6 = .pointer (some ⟨p, 0, none⟩) ∧ v7 = .pointer (some ⟨q, 0, none⟩) ∧ v10 = .int .i64 k ∧ n ≤ k ∧ ¬ F h ∧ MBlk wr h m ∧ S.At w wr p q F n m) (fun _ _ i _ => 20 - (intOf i).toNat)
  case atStart => exact ⟨0, p, q, F3, 0, m0, Nat.zero_le _, Nat.zero_le _, rfl, rfl, rfl, Nat.le_refl _, HF.out, HN.out, HA.out⟩
  case round =>
    clear HA HN HF hh
    obtain ⟨k, p, q, F, n, m, hkl, hk20, rfl, rfl, rfl, hnk, hFh, hfour, hat⟩ := hrel
    have HA := Lib.hid hat
    have HN := Lib.hid hfour
    have HF := Lib.hid hFh
    have HW := Lib.hid (S.atIn hat).1
    clear hat hfour hFh
    have hex : (k < l.length ∧ k < 20) ∨ (k < l.length ∧ ¬ (k : Int) < 20) ∨ ¬ (k : Int) < (l.length : Int) := by omega
    have hop : (decide (k < kl.length) = false) ∨ (∃ kb ko, K = some ⟨kb, ko, none⟩ ∧ decide (k < kl.length) = true ∧ w.cell? ⟨kb, ko + k, none⟩ = some (.bool false)) ∨ (∃ kb ko, K = some ⟨kb, ko, none⟩ ∧ decide (k < kl.length) = true ∧ w.cell? ⟨kb, ko + k, none⟩ = some (.bool true)) := by
      by_cases hk : k < kl.length
      · right
        obtain ⟨kb, ko, e, -, hc⟩ := HK.out.at_ (k := k) (by simpa using hk)
        rw [List.getElem_map] at hc
        cases hv : kl[k]
        · left; exact ⟨kb, ko, e, by simpa using hk, by rw [hv] at hc; exact hc⟩
        · right; exact ⟨kb, ko, e, by simpa using hk, by rw [hv] at hc; exact hc⟩
      · left; simpa using hk
    rcases hex with ⟨hl, h20⟩ | ⟨hl, h20⟩ | hl
    · have h20' : (k : Int) < 20 := by omega
      obtain ⟨b, o, hBe, -, c0, c1, c2, c3⟩ := HB.out k hl
      cases hBe
      have HX := Lib.hid (HP.out l[k] (List.getElem_mem hl))
      replace c0 := HW.out.cell c0 trivial
      replace c1 := HW.out.cell c1 trivial
      replace c2 := HW.out.cell c2 trivial
      replace c3 := HW.out.cell c3 trivial
      generalize l[k] = x at c0 c1 c2 c3 HX
      have HXN := Lib.hid (Four.new wr x 32 wr.heap.size rfl)
      have HMN := Lib.hid (HN.out.keep ((Keeps.refl (fun _ => True) wr).alloc (.cells (mcells x) 32)) trivial)
      have HA1 := Lib.hid (S.atK HA.out ((Keeps.refl (fun _ => True) wr).alloc (.cells (mcells x) 32)))
      have HGH := Lib.hid (show h < wr.heap.size from HN.out.lt)
      have HFg := Lib.hid (show ¬ F wr.heap.size from fun hf => by have := (S.atIn HA.out).2 _ hf; omega)
      obtain ⟨xb, xe, xr, xf⟩ := x
      obtain ⟨mb, me, mr, mf⟩ := m
      simp only at c0 c1 c2 c3
      have hcs : mayB ⟨xb, xe, xr, xf⟩ = false ∨ mayB ⟨xb, xe, xr, xf⟩ = true ∧ (decide (mb ≤ xb) = false ∨ decide (mb ≤ xb) = true ∧ (decide (me ≤ xe) = false ∨ decide (me ≤ xe) = true)) := by
        cases mayB ⟨xb, xe, xr, xf⟩ <;> cases decide (mb ≤ xb) <;> cases decide (me ≤ xe) <;> simp
      clear HN HA HW
      go_wp2_with fail
      refine (show Calls _ _ _ _ _ from may_any _ ⟨xb, xe, xr, xf⟩).mono ?_
      rintro e w4 ⟨rfl, hk⟩
      have HX4 := Lib.hid (HXN.out.keep hk trivial)
      have HM4 := Lib.hid (HMN.out.keep hk trivial)
      have HA4 := Lib.hid (S.atK HA1.out hk)
      clear hk HXN HMN HA1 c0 c1 c2 c3
      obtain ⟨d0, d1, d2, d3⟩ := HX4.out
      obtain ⟨e0, e1, e2, e3⟩ := HM4.out.four
      have f0 := HM4.out.fz 0
      have f1 := HM4.out.fz 1
      have f2 := HM4.out.fz 2
      have f3 := HM4.out.fz 3
      simp only at d0 d1 d2 d3 e0 e1 e2 e3
      rcases hcs with t | ⟨t, t1 | ⟨t1, t2 | t2⟩⟩
      all_goals (rw [t]; have HTY := Lib.hid t; clear t)
      all_goals (go_wp2_with fail)
      · obtain ⟨M', hM⟩ : ∃ M' : M4, M' = ⟨mb, me, mr, mf⟩ := ⟨_, rfl⟩
        obtain ⟨ok, hk⟩ : ∃ b, b = false := ⟨_, rfl⟩
        obtain ⟨wv, hv⟩ : ∃ v : Int, v = 1 := ⟨_, rfl⟩
        have HS := Lib.hid (show St12 S w p q wr.heap.size h n ⟨xb, xe, xr, xf⟩ ⟨mb, me, mr, mf⟩ M' false w4 from ⟨HX4.out, by rw [hM]; exact HM4.out, F, n, HFg.out, HF.out, by simp, by simpa using HA4.out⟩)
        have HOK := Lib.hid (show (mayB ⟨xb, xe, xr, xf⟩ && overB ⟨mb, me, mr, mf⟩ ⟨xb, xe, xr, xf⟩) = ok from by rw [hk]; rw [HTY.out]; rfl)
        have HMM := Lib.hid (show M' = if ok then ⟨xb, xe, xr, xf⟩ else ⟨mb, me, mr, mf⟩ from by rw [hM, hk]; rfl)
        have HWV := Lib.hid (show wv = if ok then 0 else 1 from by rw [hv, hk]; rfl)
        have HWI := Lib.hid (show Value.int .i64 1 = .int .i64 wv from by rw [hv])
        clear hM hk hv HX4 HM4 HA4 d0 d1 d2 d3 e0 e1 e2 e3 f0 f1 f2 f3
        refine wp_region_one (V := V17 q ⟨xb, xe, xr, xf⟩ wv) (w0 := w4) 8 (St12 S w p q wr.heap.size h n ⟨xb, xe, xr, xf⟩ ⟨mb, me, mr, mf⟩ M') (fun _ _ => True) G17 (by kernel_rfl) (fun _ _ _ _ _ hv => hv) (fun _ _ _ hk hs => hs.keep hk) (fun _ _ _ _ _ _ hv => hv) (by kernel_rfl) (by decide) (G17_is q _ wv) (fun i o ho hw => (all_wanted (by kernel_rfl) ho hw).elim) (HS.out.keep (Keeps.refl _ w4).drew) (each_of ?_) ?_
        · refine ⟨?_, ?_, ?_, ?_, ?_, ?_, ?_, ?_, ?_, ?_, ?_, ?_, trivial⟩ <;> intro hw _a1 w5 L
          · rw [if_neg (by decide)]; intro b hs _; exact kp_ldM hs.1 rfl (L.old 11 (by kernel_rfl))
          · rw [if_neg (by decide)]; intro b hs _; exact kp_mayP S HX.out rfl rfl (L.val 0 55 (by kernel_rfl) (by kernel_rfl))
          · rw [if_neg (by decide)]; intro b hs _; exact kp_ldM hs.1 rfl (L.old 11 (by kernel_rfl))
          · rw [if_neg (by decide)]; intro b hs _; exact kp_mayL rfl rfl (L.val 2 57 (by kernel_rfl) (by kernel_rfl))
          · rw [if_neg (by decide)]; intro b hs _; exact kp_neB12 (bne_self_eq_false _) rfl (L.val 1 56 (by kernel_rfl) (by kernel_rfl)) (L.val 3 58 (by kernel_rfl) (by kernel_rfl))
          · rw [if_neg (by decide)]; intro b hs _; exact kp_move rfl (L.val 4 59 (by kernel_rfl) (by kernel_rfl))
          · rw [if_neg (by decide)]; intro b hs _; exact kp_move rfl (L.old 7 (by kernel_rfl))
          · rw [if_neg (by decide)]; intro b hs _; exact kp_ldM hs.1 rfl (L.old 11 (by kernel_rfl))
          · rw [if_pos rfl]; intro hs; exact one_save S HT.out HX.out HOK.out HMM.out HWV.out (by omega) hs rfl (L.val 6 61 (by kernel_rfl) (by kernel_rfl)) (L.val 7 62 (by kernel_rfl) (by kernel_rfl))
          · rw [if_neg (by decide)]; intro b hs _; exact kp_move rfl ((L.old 12 (by kernel_rfl)).trans HWI.out)
          · rw [if_neg (by decide)]; intro b hs _; exact kp_neE12 (bne_self_eq_false _) rfl (L.val 8 63 (by kernel_rfl) (by kernel_rfl)) (L.val 9 64 (by kernel_rfl) (by kernel_rfl))
          · rw [if_neg (by decide)]; intro b hs _; exact kp_pick rfl (L.val 5 60 (by kernel_rfl) (by kernel_rfl)) ((if_neg (by decide)).trans (L.val 10 65 (by kernel_rfl) (by kernel_rfl)))
        · intro vs w8 hs8 hlen hv
          match vs, hlen with
          | [v0, v1, v2, v3, v4, v5, v6, v7, v8, v9, v10, v11], _ =>
            have e11 : v11 = .bool false := hv 11 66 (by kernel_rfl)
            clear hv
            subst e11
            obtain ⟨g1, g2, F8, n8, g3, g4, g5, g6⟩ := hs8
            simp only [if_true] at g5 g6
            have HN8 := Lib.hid g2
            have HA8 := Lib.hid g6
            have HF8 := Lib.hid g4
            have HW8 := Lib.hid (S.atIn g6).1
            clear HS g1 g2 g3 g4 g6 HOK HMM HWV HWI HX HF HFg
            simp only [putAll, List.map, Act.put, List.setIfInBounds_toArray, List.set_cons_succ, List.set_cons_zero, Exit.then]
            rcases hop with d1 | ⟨kb, ko, rfl, d1, hc⟩ | ⟨kb, ko, rfl, d1, hc⟩
            · have HN9 := HN8
              have HA9 := HA8
              have HF9 := HF8
              clear HN8 HA8 HW8 HF8
              go_wp2_with fail
              refine wp_region_guard (R := Kp) (V := V24 q M') (w0 := w8) G24 (by kernel_rfl) (fun w => Keeps.refl _ w) (fun _ _ _ h k => h.trans k) (fun _ _ _ _ _ h => h) (by kernel_rfl) (fun _ _ h => by cases h) (unwanted_of [] (by kernel_rfl) (fun _ h => by cases h)) ((Keeps.refl _ w8).drew) (each_of ?_) ?_
              · refine ⟨?_, ?_, ?_, ?_, ?_, trivial⟩ <;> intro hw _a1 wx L
                · exact kp_move rfl (L.old 7 (by kernel_rfl))
                · exact kp_getM S HT.out (S.atK HA9.out L.rel) rfl (L.val 0 86 (by kernel_rfl) (by kernel_rfl))
                · exact kp_ldM (HN9.out.keep L.rel trivial).four rfl (L.old 9 (by kernel_rfl))
                · exact kp_eqM (eqM_refl _) rfl (L.val 1 87 (by kernel_rfl) (by kernel_rfl)) (L.val 2 88 (by kernel_rfl) (by kernel_rfl))
                · exact kp_not12 rfl rfl (L.val 3 89 (by kernel_rfl) (by kernel_rfl))
              · intro vs wz hwz hlen hv
                match vs, hlen with
                | [v0, v1, v2, v3, v4], _ =>
                  have e4 : v4 = .bool false := hv 4 90 (by kernel_rfl)
                  clear hv
                  subst e4
                  have HAz := Lib.hid (S.atK HA9.out hwz)
                  have HNz := Lib.hid (HN9.out.keep hwz trivial)
                  clear hwz HA9 HN9
                  simp only [putAll, List.map, Act.put, List.setIfInBounds_toArray, List.set_cons_succ, List.set_cons_zero, Exit.then]
                  go_wp2_with fail
                  go_roundw
                  case rel => exact ⟨k + 1, p, q, F8, n8, M', by omega, by omega, rfl, rfl, by go_num, by omega, HF9.out, HNz.out, HAz.out⟩
                  case measure => simp [intOf]; omega
            · have hc8 := HW8.out.cell hc trivial
              have hk2 : k < kl.length := of_decide_eq_true d1
              have HN9 := HN8
              have HA9 := HA8
              have HF9 := HF8
              clear HN8 HA8 HW8 HF8 hc
              go_wp2_with fail
              refine wp_region_guard (R := Kp) (V := V24 q M') (w0 := w8) G24 (by kernel_rfl) (fun w => Keeps.refl _ w) (fun _ _ _ h k => h.trans k) (fun _ _ _ _ _ h => h) (by kernel_rfl) (fun _ _ h => by cases h) (unwanted_of [] (by kernel_rfl) (fun _ h => by cases h)) ((Keeps.refl _ w8).drew) (each_of ?_) ?_
              · refine ⟨?_, ?_, ?_, ?_, ?_, trivial⟩ <;> intro hw _a1 wx L
                · exact kp_move rfl (L.old 7 (by kernel_rfl))
                · exact kp_getM S HT.out (S.atK HA9.out L.rel) rfl (L.val 0 86 (by kernel_rfl) (by kernel_rfl))
                · exact kp_ldM (HN9.out.keep L.rel trivial).four rfl (L.old 9 (by kernel_rfl))
                · exact kp_eqM (eqM_refl _) rfl (L.val 1 87 (by kernel_rfl) (by kernel_rfl)) (L.val 2 88 (by kernel_rfl) (by kernel_rfl))
                · exact kp_not12 rfl rfl (L.val 3 89 (by kernel_rfl) (by kernel_rfl))
              · intro vs wz hwz hlen hv
                match vs, hlen with
                | [v0, v1, v2, v3, v4], _ =>
                  have e4 : v4 = .bool false := hv 4 90 (by kernel_rfl)
                  clear hv
                  subst e4
                  have HAz := Lib.hid (S.atK HA9.out hwz)
                  have HNz := Lib.hid (HN9.out.keep hwz trivial)
                  clear hwz HA9 HN9
                  simp only [putAll, List.map, Act.put, List.setIfInBounds_toArray, List.set_cons_succ, List.set_cons_zero, Exit.then]
                  go_wp2_with fail
                  go_roundw
                  case rel => exact ⟨k + 1, p, q, F8, n8, M', by omega, by omega, rfl, rfl, by go_num, by omega, HF9.out, HNz.out, HAz.out⟩
                  case measure => simp [intOf]; omega
            · have hc8 := HW8.out.cell hc trivial
              have hk2 : k < kl.length := of_decide_eq_true d1
              clear hc HW8
              go_wp2_with fail
              refine (S.crash w w8 p q F8 n8 M' HT.out HA8.out).mono ?_
              rintro e wc ⟨pc, Fc, rfl, hh, hfc, hkc⟩
              have HC := Lib.hid hh
              have HNc := Lib.hid (HN8.out.keep hkc trivial)
              have HFc := Lib.hid (show ¬ Fc h from fun hf => by
                rcases hfc _ hf with hf | hf
                · exact HF8.out hf
                · have := HN8.out.lt; omega)
              clear hh hfc hkc HN8 HA8 HF8 hc8
              go_wp2_with fail
              refine (S.open_ w wc pc Fc n8 M' HT.out HC.out).mono ?_
              rintro e wo ⟨qo, Fo, rfl, ha, hfo, hko⟩
              have HA9 := Lib.hid ha
              have HN9 := Lib.hid (HNc.out.keep hko HFc.out)
              have HF9 := Lib.hid (show ¬ Fo h from fun hf => by
                rcases hfo _ hf with hf | hf
                · exact HFc.out hf
                · have := HNc.out.lt; omega)
              clear ha hfo hko HC HNc HFc
              go_wp2_with fail
              refine wp_region_guard (R := Kp) (V := V24 qo M') (w0 := wo) G24 (by kernel_rfl) (fun w => Keeps.refl _ w) (fun _ _ _ h k => h.trans k) (fun _ _ _ _ _ h => h) (by kernel_rfl) (fun _ _ h => by cases h) (unwanted_of [] (by kernel_rfl) (fun _ h => by cases h)) ((Keeps.refl _ wo).drew) (each_of ?_) ?_
              · refine ⟨?_, ?_, ?_, ?_, ?_, trivial⟩ <;> intro hw _a1 wx L
                · exact kp_move rfl (L.old 7 (by kernel_rfl))
                · exact kp_getM S HT.out (S.atK HA9.out L.rel) rfl (L.val 0 86 (by kernel_rfl) (by kernel_rfl))
                · exact kp_ldM (HN9.out.keep L.rel trivial).four rfl (L.old 9 (by kernel_rfl))
                · exact kp_eqM (eqM_refl _) rfl (L.val 1 87 (by kernel_rfl) (by kernel_rfl)) (L.val 2 88 (by kernel_rfl) (by kernel_rfl))
                · exact kp_not12 rfl rfl (L.val 3 89 (by kernel_rfl) (by kernel_rfl))
              · intro vs wz hwz hlen hv
                match vs, hlen with
                | [v0, v1, v2, v3, v4], _ =>
                  have e4 : v4 = .bool false := hv 4 90 (by kernel_rfl)
                  clear hv
                  subst e4
                  have HAz := Lib.hid (S.atK HA9.out hwz)
                  have HNz := Lib.hid (HN9.out.keep hwz trivial)
                  clear hwz HA9 HN9
                  simp only [putAll, List.map, Act.put, List.setIfInBounds_toArray, List.set_cons_succ, List.set_cons_zero, Exit.then]
                  go_wp2_with fail
                  go_roundw
                  case rel => exact ⟨k + 1, pc, qo, Fo, n8, M', by omega, by omega, rfl, rfl, by go_num, by omega, HF9.out, HNz.out, HAz.out⟩
                  case measure => simp [intOf]; omega
      · obtain ⟨M', hM⟩ : ∃ M' : M4, M' = ⟨mb, me, mr, mf⟩ := ⟨_, rfl⟩
        obtain ⟨ok, hk⟩ : ∃ b, b = false := ⟨_, rfl⟩
        obtain ⟨wv, hv⟩ : ∃ v : Int, v = 1 := ⟨_, rfl⟩
        have HS := Lib.hid (show St12 S w p q wr.heap.size h n ⟨xb, xe, xr, xf⟩ ⟨mb, me, mr, mf⟩ M' false w4 from ⟨HX4.out, by rw [hM]; exact HM4.out, F, n, HFg.out, HF.out, by simp, by simpa using HA4.out⟩)
        have HOK := Lib.hid (show (mayB ⟨xb, xe, xr, xf⟩ && overB ⟨mb, me, mr, mf⟩ ⟨xb, xe, xr, xf⟩) = ok from by rw [hk]; rw [HTY.out]; show (true && (decide (mb ≤ xb) && decide (me ≤ xe))) = false; rw [t1]; rfl)
        have HMM := Lib.hid (show M' = if ok then ⟨xb, xe, xr, xf⟩ else ⟨mb, me, mr, mf⟩ from by rw [hM, hk]; rfl)
        have HWV := Lib.hid (show wv = if ok then 0 else 1 from by rw [hv, hk]; rfl)
        have HWI := Lib.hid (show Value.int .i64 1 = .int .i64 wv from by rw [hv])
        clear hM hk hv HX4 HM4 HA4 d0 d1 d2 d3 e0 e1 e2 e3 f0 f1 f2 f3
        refine wp_region_one (V := V17 q ⟨xb, xe, xr, xf⟩ wv) (w0 := w4) 8 (St12 S w p q wr.heap.size h n ⟨xb, xe, xr, xf⟩ ⟨mb, me, mr, mf⟩ M') (fun _ _ => True) G17 (by kernel_rfl) (fun _ _ _ _ _ hv => hv) (fun _ _ _ hk hs => hs.keep hk) (fun _ _ _ _ _ _ hv => hv) (by kernel_rfl) (by decide) (G17_is q _ wv) (fun i o ho hw => (all_wanted (by kernel_rfl) ho hw).elim) (HS.out.keep (Keeps.refl _ w4).drew) (each_of ?_) ?_
        · refine ⟨?_, ?_, ?_, ?_, ?_, ?_, ?_, ?_, ?_, ?_, ?_, ?_, trivial⟩ <;> intro hw _a1 w5 L
          · rw [if_neg (by decide)]; intro b hs _; exact kp_ldM hs.1 rfl (L.old 11 (by kernel_rfl))
          · rw [if_neg (by decide)]; intro b hs _; exact kp_mayP S HX.out rfl rfl (L.val 0 55 (by kernel_rfl) (by kernel_rfl))
          · rw [if_neg (by decide)]; intro b hs _; exact kp_ldM hs.1 rfl (L.old 11 (by kernel_rfl))
          · rw [if_neg (by decide)]; intro b hs _; exact kp_mayL rfl rfl (L.val 2 57 (by kernel_rfl) (by kernel_rfl))
          · rw [if_neg (by decide)]; intro b hs _; exact kp_neB12 (bne_self_eq_false _) rfl (L.val 1 56 (by kernel_rfl) (by kernel_rfl)) (L.val 3 58 (by kernel_rfl) (by kernel_rfl))
          · rw [if_neg (by decide)]; intro b hs _; exact kp_move rfl (L.val 4 59 (by kernel_rfl) (by kernel_rfl))
          · rw [if_neg (by decide)]; intro b hs _; exact kp_move rfl (L.old 7 (by kernel_rfl))
          · rw [if_neg (by decide)]; intro b hs _; exact kp_ldM hs.1 rfl (L.old 11 (by kernel_rfl))
          · rw [if_pos rfl]; intro hs; exact one_save S HT.out HX.out HOK.out HMM.out HWV.out (by omega) hs rfl (L.val 6 61 (by kernel_rfl) (by kernel_rfl)) (L.val 7 62 (by kernel_rfl) (by kernel_rfl))
          · rw [if_neg (by decide)]; intro b hs _; exact kp_move rfl ((L.old 12 (by kernel_rfl)).trans HWI.out)
          · rw [if_neg (by decide)]; intro b hs _; exact kp_neE12 (bne_self_eq_false _) rfl (L.val 8 63 (by kernel_rfl) (by kernel_rfl)) (L.val 9 64 (by kernel_rfl) (by kernel_rfl))
          · rw [if_neg (by decide)]; intro b hs _; exact kp_pick rfl (L.val 5 60 (by kernel_rfl) (by kernel_rfl)) ((if_neg (by decide)).trans (L.val 10 65 (by kernel_rfl) (by kernel_rfl)))
        · intro vs w8 hs8 hlen hv
          match vs, hlen with
          | [v0, v1, v2, v3, v4, v5, v6, v7, v8, v9, v10, v11], _ =>
            have e11 : v11 = .bool false := hv 11 66 (by kernel_rfl)
            clear hv
            subst e11
            obtain ⟨g1, g2, F8, n8, g3, g4, g5, g6⟩ := hs8
            simp only [if_true] at g5 g6
            have HN8 := Lib.hid g2
            have HA8 := Lib.hid g6
            have HF8 := Lib.hid g4
            have HW8 := Lib.hid (S.atIn g6).1
            clear HS g1 g2 g3 g4 g6 HOK HMM HWV HWI HX HF HFg
            simp only [putAll, List.map, Act.put, List.setIfInBounds_toArray, List.set_cons_succ, List.set_cons_zero, Exit.then]
            rcases hop with d1 | ⟨kb, ko, rfl, d1, hc⟩ | ⟨kb, ko, rfl, d1, hc⟩
            · have HN9 := HN8
              have HA9 := HA8
              have HF9 := HF8
              clear HN8 HA8 HW8 HF8
              go_wp2_with fail
              refine wp_region_guard (R := Kp) (V := V24 q M') (w0 := w8) G24 (by kernel_rfl) (fun w => Keeps.refl _ w) (fun _ _ _ h k => h.trans k) (fun _ _ _ _ _ h => h) (by kernel_rfl) (fun _ _ h => by cases h) (unwanted_of [] (by kernel_rfl) (fun _ h => by cases h)) ((Keeps.refl _ w8).drew) (each_of ?_) ?_
              · refine ⟨?_, ?_, ?_, ?_, ?_, trivial⟩ <;> intro hw _a1 wx L
                · exact kp_move rfl (L.old 7 (by kernel_rfl))
                · exact kp_getM S HT.out (S.atK HA9.out L.rel) rfl (L.val 0 86 (by kernel_rfl) (by kernel_rfl))
                · exact kp_ldM (HN9.out.keep L.rel trivial).four rfl (L.old 9 (by kernel_rfl))
                · exact kp_eqM (eqM_refl _) rfl (L.val 1 87 (by kernel_rfl) (by kernel_rfl)) (L.val 2 88 (by kernel_rfl) (by kernel_rfl))
                · exact kp_not12 rfl rfl (L.val 3 89 (by kernel_rfl) (by kernel_rfl))
              · intro vs wz hwz hlen hv
                match vs, hlen with
                | [v0, v1, v2, v3, v4], _ =>
                  have e4 : v4 = .bool false := hv 4 90 (by kernel_rfl)
                  clear hv
                  subst e4
                  have HAz := Lib.hid (S.atK HA9.out hwz)
                  have HNz := Lib.hid (HN9.out.keep hwz trivial)
                  clear hwz HA9 HN9
                  simp only [putAll, List.map, Act.put, List.setIfInBounds_toArray, List.set_cons_succ, List.set_cons_zero, Exit.then]
                  go_wp2_with fail
                  go_roundw
                  case rel => exact ⟨k + 1, p, q, F8, n8, M', by omega, by omega, rfl, rfl, by go_num, by omega, HF9.out, HNz.out, HAz.out⟩
                  case measure => simp [intOf]; omega
            · have hc8 := HW8.out.cell hc trivial
              have hk2 : k < kl.length := of_decide_eq_true d1
              have HN9 := HN8
              have HA9 := HA8
              have HF9 := HF8
              clear HN8 HA8 HW8 HF8 hc
              go_wp2_with fail
              refine wp_region_guard (R := Kp) (V := V24 q M') (w0 := w8) G24 (by kernel_rfl) (fun w => Keeps.refl _ w) (fun _ _ _ h k => h.trans k) (fun _ _ _ _ _ h => h) (by kernel_rfl) (fun _ _ h => by cases h) (unwanted_of [] (by kernel_rfl) (fun _ h => by cases h)) ((Keeps.refl _ w8).drew) (each_of ?_) ?_
              · refine ⟨?_, ?_, ?_, ?_, ?_, trivial⟩ <;> intro hw _a1 wx L
                · exact kp_move rfl (L.old 7 (by kernel_rfl))
                · exact kp_getM S HT.out (S.atK HA9.out L.rel) rfl (L.val 0 86 (by kernel_rfl) (by kernel_rfl))
                · exact kp_ldM (HN9.out.keep L.rel trivial).four rfl (L.old 9 (by kernel_rfl))
                · exact kp_eqM (eqM_refl _) rfl (L.val 1 87 (by kernel_rfl) (by kernel_rfl)) (L.val 2 88 (by kernel_rfl) (by kernel_rfl))
                · exact kp_not12 rfl rfl (L.val 3 89 (by kernel_rfl) (by kernel_rfl))
              · intro vs wz hwz hlen hv
                match vs, hlen with
                | [v0, v1, v2, v3, v4], _ =>
                  have e4 : v4 = .bool false := hv 4 90 (by kernel_rfl)
                  clear hv
                  subst e4
                  have HAz := Lib.hid (S.atK HA9.out hwz)
                  have HNz := Lib.hid (HN9.out.keep hwz trivial)
                  clear hwz HA9 HN9
                  simp only [putAll, List.map, Act.put, List.setIfInBounds_toArray, List.set_cons_succ, List.set_cons_zero, Exit.then]
                  go_wp2_with fail
                  go_roundw
                  case rel => exact ⟨k + 1, p, q, F8, n8, M', by omega, by omega, rfl, rfl, by go_num, by omega, HF9.out, HNz.out, HAz.out⟩
                  case measure => simp [intOf]; omega
            · have hc8 := HW8.out.cell hc trivial
              have hk2 : k < kl.length := of_decide_eq_true d1
              clear hc HW8
              go_wp2_with fail
              refine (S.crash w w8 p q F8 n8 M' HT.out HA8.out).mono ?_
              rintro e wc ⟨pc, Fc, rfl, hh, hfc, hkc⟩
              have HC := Lib.hid hh
              have HNc := Lib.hid (HN8.out.keep hkc trivial)
              have HFc := Lib.hid (show ¬ Fc h from fun hf => by
                rcases hfc _ hf with hf | hf
                · exact HF8.out hf
                · have := HN8.out.lt; omega)
              clear hh hfc hkc HN8 HA8 HF8 hc8
              go_wp2_with fail
              refine (S.open_ w wc pc Fc n8 M' HT.out HC.out).mono ?_
              rintro e wo ⟨qo, Fo, rfl, ha, hfo, hko⟩
              have HA9 := Lib.hid ha
              have HN9 := Lib.hid (HNc.out.keep hko HFc.out)
              have HF9 := Lib.hid (show ¬ Fo h from fun hf => by
                rcases hfo _ hf with hf | hf
                · exact HFc.out hf
                · have := HNc.out.lt; omega)
              clear ha hfo hko HC HNc HFc
              go_wp2_with fail
              refine wp_region_guard (R := Kp) (V := V24 qo M') (w0 := wo) G24 (by kernel_rfl) (fun w => Keeps.refl _ w) (fun _ _ _ h k => h.trans k) (fun _ _ _ _ _ h => h) (by kernel_rfl) (fun _ _ h => by cases h) (unwanted_of [] (by kernel_rfl) (fun _ h => by cases h)) ((Keeps.refl _ wo).drew) (each_of ?_) ?_
              · refine ⟨?_, ?_, ?_, ?_, ?_, trivial⟩ <;> intro hw _a1 wx L
                · exact kp_move rfl (L.old 7 (by kernel_rfl))
                · exact kp_getM S HT.out (S.atK HA9.out L.rel) rfl (L.val 0 86 (by kernel_rfl) (by kernel_rfl))
                · exact kp_ldM (HN9.out.keep L.rel trivial).four rfl (L.old 9 (by kernel_rfl))
                · exact kp_eqM (eqM_refl _) rfl (L.val 1 87 (by kernel_rfl) (by kernel_rfl)) (L.val 2 88 (by kernel_rfl) (by kernel_rfl))
                · exact kp_not12 rfl rfl (L.val 3 89 (by kernel_rfl) (by kernel_rfl))
              · intro vs wz hwz hlen hv
                match vs, hlen with
                | [v0, v1, v2, v3, v4], _ =>
                  have e4 : v4 = .bool false := hv 4 90 (by kernel_rfl)
                  clear hv
                  subst e4
                  have HAz := Lib.hid (S.atK HA9.out hwz)
                  have HNz := Lib.hid (HN9.out.keep hwz trivial)
                  clear hwz HA9 HN9
                  simp only [putAll, List.map, Act.put, List.setIfInBounds_toArray, List.set_cons_succ, List.set_cons_zero, Exit.then]
                  go_wp2_with fail
                  go_roundw
                  case rel => exact ⟨k + 1, pc, qo, Fo, n8, M', by omega, by omega, rfl, rfl, by go_num, by omega, HF9.out, HNz.out, HAz.out⟩
                  case measure => simp [intOf]; omega
      · obtain ⟨M', hM⟩ : ∃ M' : M4, M' = ⟨mb, me, mr, mf⟩ := ⟨_, rfl⟩
        obtain ⟨ok, hk⟩ : ∃ b, b = false := ⟨_, rfl⟩
        obtain ⟨wv, hv⟩ : ∃ v : Int, v = 1 := ⟨_, rfl⟩
        have HS := Lib.hid (show St12 S w p q wr.heap.size h n ⟨xb, xe, xr, xf⟩ ⟨mb, me, mr, mf⟩ M' false w4 from ⟨HX4.out, by rw [hM]; exact HM4.out, F, n, HFg.out, HF.out, by simp, by simpa using HA4.out⟩)
        have HOK := Lib.hid (show (mayB ⟨xb, xe, xr, xf⟩ && overB ⟨mb, me, mr, mf⟩ ⟨xb, xe, xr, xf⟩) = ok from by rw [hk]; rw [HTY.out]; show (true && (decide (mb ≤ xb) && decide (me ≤ xe))) = false; rw [t1, t2]; rfl)
        have HMM := Lib.hid (show M' = if ok then ⟨xb, xe, xr, xf⟩ else ⟨mb, me, mr, mf⟩ from by rw [hM, hk]; rfl)
        have HWV := Lib.hid (show wv = if ok then 0 else 1 from by rw [hv, hk]; rfl)
        have HWI := Lib.hid (show Value.int .i64 1 = .int .i64 wv from by rw [hv])
        clear hM hk hv HX4 HM4 HA4 d0 d1 d2 d3 e0 e1 e2 e3 f0 f1 f2 f3
        refine wp_region_one (V := V17 q ⟨xb, xe, xr, xf⟩ wv) (w0 := w4) 8 (St12 S w p q wr.heap.size h n ⟨xb, xe, xr, xf⟩ ⟨mb, me, mr, mf⟩ M') (fun _ _ => True) G17 (by kernel_rfl) (fun _ _ _ _ _ hv => hv) (fun _ _ _ hk hs => hs.keep hk) (fun _ _ _ _ _ _ hv => hv) (by kernel_rfl) (by decide) (G17_is q _ wv) (fun i o ho hw => (all_wanted (by kernel_rfl) ho hw).elim) (HS.out.keep (Keeps.refl _ w4).drew) (each_of ?_) ?_
        · refine ⟨?_, ?_, ?_, ?_, ?_, ?_, ?_, ?_, ?_, ?_, ?_, ?_, trivial⟩ <;> intro hw _a1 w5 L
          · rw [if_neg (by decide)]; intro b hs _; exact kp_ldM hs.1 rfl (L.old 11 (by kernel_rfl))
          · rw [if_neg (by decide)]; intro b hs _; exact kp_mayP S HX.out rfl rfl (L.val 0 55 (by kernel_rfl) (by kernel_rfl))
          · rw [if_neg (by decide)]; intro b hs _; exact kp_ldM hs.1 rfl (L.old 11 (by kernel_rfl))
          · rw [if_neg (by decide)]; intro b hs _; exact kp_mayL rfl rfl (L.val 2 57 (by kernel_rfl) (by kernel_rfl))
          · rw [if_neg (by decide)]; intro b hs _; exact kp_neB12 (bne_self_eq_false _) rfl (L.val 1 56 (by kernel_rfl) (by kernel_rfl)) (L.val 3 58 (by kernel_rfl) (by kernel_rfl))
          · rw [if_neg (by decide)]; intro b hs _; exact kp_move rfl (L.val 4 59 (by kernel_rfl) (by kernel_rfl))
          · rw [if_neg (by decide)]; intro b hs _; exact kp_move rfl (L.old 7 (by kernel_rfl))
          · rw [if_neg (by decide)]; intro b hs _; exact kp_ldM hs.1 rfl (L.old 11 (by kernel_rfl))
          · rw [if_pos rfl]; intro hs; exact one_save S HT.out HX.out HOK.out HMM.out HWV.out (by omega) hs rfl (L.val 6 61 (by kernel_rfl) (by kernel_rfl)) (L.val 7 62 (by kernel_rfl) (by kernel_rfl))
          · rw [if_neg (by decide)]; intro b hs _; exact kp_move rfl ((L.old 12 (by kernel_rfl)).trans HWI.out)
          · rw [if_neg (by decide)]; intro b hs _; exact kp_neE12 (bne_self_eq_false _) rfl (L.val 8 63 (by kernel_rfl) (by kernel_rfl)) (L.val 9 64 (by kernel_rfl) (by kernel_rfl))
          · rw [if_neg (by decide)]; intro b hs _; exact kp_pick rfl (L.val 5 60 (by kernel_rfl) (by kernel_rfl)) ((if_neg (by decide)).trans (L.val 10 65 (by kernel_rfl) (by kernel_rfl)))
        · intro vs w8 hs8 hlen hv
          match vs, hlen with
          | [v0, v1, v2, v3, v4, v5, v6, v7, v8, v9, v10, v11], _ =>
            have e11 : v11 = .bool false := hv 11 66 (by kernel_rfl)
            clear hv
            subst e11
            obtain ⟨g1, g2, F8, n8, g3, g4, g5, g6⟩ := hs8
            simp only [if_true] at g5 g6
            have HN8 := Lib.hid g2
            have HA8 := Lib.hid g6
            have HF8 := Lib.hid g4
            have HW8 := Lib.hid (S.atIn g6).1
            clear HS g1 g2 g3 g4 g6 HOK HMM HWV HWI HX HF HFg
            simp only [putAll, List.map, Act.put, List.setIfInBounds_toArray, List.set_cons_succ, List.set_cons_zero, Exit.then]
            rcases hop with d1 | ⟨kb, ko, rfl, d1, hc⟩ | ⟨kb, ko, rfl, d1, hc⟩
            · have HN9 := HN8
              have HA9 := HA8
              have HF9 := HF8
              clear HN8 HA8 HW8 HF8
              go_wp2_with fail
              refine wp_region_guard (R := Kp) (V := V24 q M') (w0 := w8) G24 (by kernel_rfl) (fun w => Keeps.refl _ w) (fun _ _ _ h k => h.trans k) (fun _ _ _ _ _ h => h) (by kernel_rfl) (fun _ _ h => by cases h) (unwanted_of [] (by kernel_rfl) (fun _ h => by cases h)) ((Keeps.refl _ w8).drew) (each_of ?_) ?_
              · refine ⟨?_, ?_, ?_, ?_, ?_, trivial⟩ <;> intro hw _a1 wx L
                · exact kp_move rfl (L.old 7 (by kernel_rfl))
                · exact kp_getM S HT.out (S.atK HA9.out L.rel) rfl (L.val 0 86 (by kernel_rfl) (by kernel_rfl))
                · exact kp_ldM (HN9.out.keep L.rel trivial).four rfl (L.old 9 (by kernel_rfl))
                · exact kp_eqM (eqM_refl _) rfl (L.val 1 87 (by kernel_rfl) (by kernel_rfl)) (L.val 2 88 (by kernel_rfl) (by kernel_rfl))
                · exact kp_not12 rfl rfl (L.val 3 89 (by kernel_rfl) (by kernel_rfl))
              · intro vs wz hwz hlen hv
                match vs, hlen with
                | [v0, v1, v2, v3, v4], _ =>
                  have e4 : v4 = .bool false := hv 4 90 (by kernel_rfl)
                  clear hv
                  subst e4
                  have HAz := Lib.hid (S.atK HA9.out hwz)
                  have HNz := Lib.hid (HN9.out.keep hwz trivial)
                  clear hwz HA9 HN9
                  simp only [putAll, List.map, Act.put, List.setIfInBounds_toArray, List.set_cons_succ, List.set_cons_zero, Exit.then]
                  go_wp2_with fail
                  go_roundw
                  case rel => exact ⟨k + 1, p, q, F8, n8, M', by omega, by omega, rfl, rfl, by go_num, by omega, HF9.out, HNz.out, HAz.out⟩
                  case measure => simp [intOf]; omega
            · have hc8 := HW8.out.cell hc trivial
              have hk2 : k < kl.length := of_decide_eq_true d1
              have HN9 := HN8
              have HA9 := HA8
              have HF9 := HF8
              clear HN8 HA8 HW8 HF8 hc
              go_wp2_with fail
              refine wp_region_guard (R := Kp) (V := V24 q M') (w0 := w8) G24 (by kernel_rfl) (fun w => Keeps.refl _ w) (fun _ _ _ h k => h.trans k) (fun _ _ _ _ _ h => h) (by kernel_rfl) (fun _ _ h => by cases h) (unwanted_of [] (by kernel_rfl) (fun _ h => by cases h)) ((Keeps.refl _ w8).drew) (each_of ?_) ?_
              · refine ⟨?_, ?_, ?_, ?_, ?_, trivial⟩ <;> intro hw _a1 wx L
                · exact kp_move rfl (L.old 7 (by kernel_rfl))
                · exact kp_getM S HT.out (S.atK HA9.out L.rel) rfl (L.val 0 86 (by kernel_rfl) (by kernel_rfl))
                · exact kp_ldM (HN9.out.keep L.rel trivial).four rfl (L.old 9 (by kernel_rfl))
                · exact kp_eqM (eqM_refl _) rfl (L.val 1 87 (by kernel_rfl) (by kernel_rfl)) (L.val 2 88 (by kernel_rfl) (by kernel_rfl))
                · exact kp_not12 rfl rfl (L.val 3 89 (by kernel_rfl) (by kernel_rfl))
              · intro vs wz hwz hlen hv
                match vs, hlen with
                | [v0, v1, v2, v3, v4], _ =>
                  have e4 : v4 = .bool false := hv 4 90 (by kernel_rfl)
                  clear hv
                  subst e4
                  have HAz := Lib.hid (S.atK HA9.out hwz)
                  have HNz := Lib.hid (HN9.out.keep hwz trivial)
                  clear hwz HA9 HN9
                  simp only [putAll, List.map, Act.put, List.setIfInBounds_toArray, List.set_cons_succ, List.set_cons_zero, Exit.then]
                  go_wp2_with fail
                  go_roundw
                  case rel => exact ⟨k + 1, p, q, F8, n8, M', by omega, by omega, rfl, rfl, by go_num, by omega, HF9.out, HNz.out, HAz.out⟩
                  case measure => simp [intOf]; omega
            · have hc8 := HW8.out.cell hc trivial
              have hk2 : k < kl.length := of_decide_eq_true d1
              clear hc HW8
              go_wp2_with fail
              refine (S.crash w w8 p q F8 n8 M' HT.out HA8.out).mono ?_
              rintro e wc ⟨pc, Fc, rfl, hh, hfc, hkc⟩
              have HC := Lib.hid hh
              have HNc := Lib.hid (HN8.out.keep hkc trivial)
              have HFc := Lib.hid (show ¬ Fc h from fun hf => by
                rcases hfc _ hf with hf | hf
                · exact HF8.out hf
                · have := HN8.out.lt; omega)
              clear hh hfc hkc HN8 HA8 HF8 hc8
              go_wp2_with fail
              refine (S.open_ w wc pc Fc n8 M' HT.out HC.out).mono ?_
              rintro e wo ⟨qo, Fo, rfl, ha, hfo, hko⟩
              have HA9 := Lib.hid ha
              have HN9 := Lib.hid (HNc.out.keep hko HFc.out)
              have HF9 := Lib.hid (show ¬ Fo h from fun hf => by
                rcases hfo _ hf with hf | hf
                · exact HFc.out hf
                · have := HNc.out.lt; omega)
              clear ha hfo hko HC HNc HFc
              go_wp2_with fail
              refine wp_region_guard (R := Kp) (V := V24 qo M') (w0 := wo) G24 (by kernel_rfl) (fun w => Keeps.refl _ w) (fun _ _ _ h k => h.trans k) (fun _ _ _ _ _ h => h) (by kernel_rfl) (fun _ _ h => by cases h) (unwanted_of [] (by kernel_rfl) (fun _ h => by cases h)) ((Keeps.refl _ wo).drew) (each_of ?_) ?_
              · refine ⟨?_, ?_, ?_, ?_, ?_, trivial⟩ <;> intro hw _a1 wx L
                · exact kp_move rfl (L.old 7 (by kernel_rfl))
                · exact kp_getM S HT.out (S.atK HA9.out L.rel) rfl (L.val 0 86 (by kernel_rfl) (by kernel_rfl))
                · exact kp_ldM (HN9.out.keep L.rel trivial).four rfl (L.old 9 (by kernel_rfl))
                · exact kp_eqM (eqM_refl _) rfl (L.val 1 87 (by kernel_rfl) (by kernel_rfl)) (L.val 2 88 (by kernel_rfl) (by kernel_rfl))
                · exact kp_not12 rfl rfl (L.val 3 89 (by kernel_rfl) (by kernel_rfl))
              · intro vs wz hwz hlen hv
                match vs, hlen with
                | [v0, v1, v2, v3, v4], _ =>
                  have e4 : v4 = .bool false := hv 4 90 (by kernel_rfl)
                  clear hv
                  subst e4
                  have HAz := Lib.hid (S.atK HA9.out hwz)
                  have HNz := Lib.hid (HN9.out.keep hwz trivial)
                  clear hwz HA9 HN9
                  simp only [putAll, List.map, Act.put, List.setIfInBounds_toArray, List.set_cons_succ, List.set_cons_zero, Exit.then]
                  go_wp2_with fail
                  go_roundw
                  case rel => exact ⟨k + 1, pc, qo, Fo, n8, M', by omega, by omega, rfl, rfl, by go_num, by omega, HF9.out, HNz.out, HAz.out⟩
                  case measure => simp [intOf]; omega
      · obtain ⟨M', hM⟩ : ∃ M' : M4, M' = ⟨xb, xe, xr, xf⟩ := ⟨_, rfl⟩
        obtain ⟨ok, hk⟩ : ∃ b, b = true := ⟨_, rfl⟩
        obtain ⟨wv, hv⟩ : ∃ v : Int, v = 0 := ⟨_, rfl⟩
        have hb := HM4.out.set4 ⟨xb, xe, xr, xf⟩
        have hkb := ((((Keeps.refl (fun b => b ≠ h) w4).setCell (p := ⟨h, 0, none⟩) (.inr fun e => e rfl) (.int .i64 xb)).setCell (p := ⟨h, 1, none⟩) (.inr fun e => e rfl) (.int .i64 xe)).setCell (p := ⟨h, 2, none⟩) (.inr fun e => e rfl) (.int .i64 xr)).setCell (p := ⟨h, 3, none⟩) (.inr fun e => e rfl) (.bool xf)
        have hkw := (((((S.atIn HA4.out).1).setCell (p := ⟨h, 0, none⟩) (.inl HH.out) (.int .i64 xb)).setCell (p := ⟨h, 1, none⟩) (.inl HH.out) (.int .i64 xe)).setCell (p := ⟨h, 2, none⟩) (.inl HH.out) (.int .i64 xr)).setCell (p := ⟨h, 3, none⟩) (.inl HH.out) (.bool xf)
        have hgh : wr.heap.size ≠ h := fun e => by have := HGH.out; omega
        simp only at hb
        generalize World.setCell (World.setCell (World.setCell (World.setCell w4 _ _) _ _) _ _) _ _ = w4x at hb hkb hkw ⊢
        have HS := Lib.hid (show St12 S w p q wr.heap.size h n ⟨xb, xe, xr, xf⟩ ⟨mb, me, mr, mf⟩ M' false w4x from ⟨HX4.out.keep hkb hgh, by rw [hM]; exact hb, F, n, HFg.out, HF.out, by simp, by simpa using S.atKeep HA4.out (hkb.mono fun b _ hb e => HF.out (by rw [← e]; exact hb)) hkw⟩)
        have HOK := Lib.hid (show (mayB ⟨xb, xe, xr, xf⟩ && overB ⟨mb, me, mr, mf⟩ ⟨xb, xe, xr, xf⟩) = ok from by rw [hk, HTY.out]; show (true && (decide (mb ≤ xb) && decide (me ≤ xe))) = true; rw [t1, t2]; rfl)
        have HMM := Lib.hid (show M' = if ok then ⟨xb, xe, xr, xf⟩ else ⟨mb, me, mr, mf⟩ from by rw [hM, hk]; rfl)
        have HWV := Lib.hid (show wv = if ok then 0 else 1 from by rw [hv, hk]; rfl)
        have HWI := Lib.hid (show Value.int .i64 0 = .int .i64 wv from by rw [hv])
        clear hM hk hv HX4 HM4 HA4 d0 d1 d2 d3 e0 e1 e2 e3 f0 f1 f2 f3 hb hkb hkw hgh
        refine wp_region_one (V := V17 q ⟨xb, xe, xr, xf⟩ wv) (w0 := w4x) 8 (St12 S w p q wr.heap.size h n ⟨xb, xe, xr, xf⟩ ⟨mb, me, mr, mf⟩ M') (fun _ _ => True) G17 (by kernel_rfl) (fun _ _ _ _ _ hv => hv) (fun _ _ _ hk hs => hs.keep hk) (fun _ _ _ _ _ _ hv => hv) (by kernel_rfl) (by decide) (G17_is q _ wv) (fun i o ho hw => (all_wanted (by kernel_rfl) ho hw).elim) (HS.out.keep (Keeps.refl _ w4x).drew) (each_of ?_) ?_
        · refine ⟨?_, ?_, ?_, ?_, ?_, ?_, ?_, ?_, ?_, ?_, ?_, ?_, trivial⟩ <;> intro hw _a1 w5 L
          · rw [if_neg (by decide)]; intro b hs _; exact kp_ldM hs.1 rfl (L.old 11 (by kernel_rfl))
          · rw [if_neg (by decide)]; intro b hs _; exact kp_mayP S HX.out rfl rfl (L.val 0 55 (by kernel_rfl) (by kernel_rfl))
          · rw [if_neg (by decide)]; intro b hs _; exact kp_ldM hs.1 rfl (L.old 11 (by kernel_rfl))
          · rw [if_neg (by decide)]; intro b hs _; exact kp_mayL rfl rfl (L.val 2 57 (by kernel_rfl) (by kernel_rfl))
          · rw [if_neg (by decide)]; intro b hs _; exact kp_neB12 (bne_self_eq_false _) rfl (L.val 1 56 (by kernel_rfl) (by kernel_rfl)) (L.val 3 58 (by kernel_rfl) (by kernel_rfl))
          · rw [if_neg (by decide)]; intro b hs _; exact kp_move rfl (L.val 4 59 (by kernel_rfl) (by kernel_rfl))
          · rw [if_neg (by decide)]; intro b hs _; exact kp_move rfl (L.old 7 (by kernel_rfl))
          · rw [if_neg (by decide)]; intro b hs _; exact kp_ldM hs.1 rfl (L.old 11 (by kernel_rfl))
          · rw [if_pos rfl]; intro hs; exact one_save S HT.out HX.out HOK.out HMM.out HWV.out (by omega) hs rfl (L.val 6 61 (by kernel_rfl) (by kernel_rfl)) (L.val 7 62 (by kernel_rfl) (by kernel_rfl))
          · rw [if_neg (by decide)]; intro b hs _; exact kp_move rfl ((L.old 12 (by kernel_rfl)).trans HWI.out)
          · rw [if_neg (by decide)]; intro b hs _; exact kp_neE12 (bne_self_eq_false _) rfl (L.val 8 63 (by kernel_rfl) (by kernel_rfl)) (L.val 9 64 (by kernel_rfl) (by kernel_rfl))
          · rw [if_neg (by decide)]; intro b hs _; exact kp_pick rfl (L.val 5 60 (by kernel_rfl) (by kernel_rfl)) ((if_neg (by decide)).trans (L.val 10 65 (by kernel_rfl) (by kernel_rfl)))
        · intro vs w8 hs8 hlen hv
          match vs, hlen with
          | [v0, v1, v2, v3, v4, v5, v6, v7, v8, v9, v10, v11], _ =>
            have e11 : v11 = .bool false := hv 11 66 (by kernel_rfl)
            clear hv
            subst e11
            obtain ⟨g1, g2, F8, n8, g3, g4, g5, g6⟩ := hs8
            simp only [if_true] at g5 g6
            have HN8 := Lib.hid g2
            have HA8 := Lib.hid g6
            have HF8 := Lib.hid g4
            have HW8 := Lib.hid (S.atIn g6).1
            clear HS g1 g2 g3 g4 g6 HOK HMM HWV HWI HX HF HFg
            simp only [putAll, List.map, Act.put, List.setIfInBounds_toArray, List.set_cons_succ, List.set_cons_zero, Exit.then]
            rcases hop with d1 | ⟨kb, ko, rfl, d1, hc⟩ | ⟨kb, ko, rfl, d1, hc⟩
            · have HN9 := HN8
              have HA9 := HA8
              have HF9 := HF8
              clear HN8 HA8 HW8 HF8
              go_wp2_with fail
              refine wp_region_guard (R := Kp) (V := V24 q M') (w0 := w8) G24 (by kernel_rfl) (fun w => Keeps.refl _ w) (fun _ _ _ h k => h.trans k) (fun _ _ _ _ _ h => h) (by kernel_rfl) (fun _ _ h => by cases h) (unwanted_of [] (by kernel_rfl) (fun _ h => by cases h)) ((Keeps.refl _ w8).drew) (each_of ?_) ?_
              · refine ⟨?_, ?_, ?_, ?_, ?_, trivial⟩ <;> intro hw _a1 wx L
                · exact kp_move rfl (L.old 7 (by kernel_rfl))
                · exact kp_getM S HT.out (S.atK HA9.out L.rel) rfl (L.val 0 86 (by kernel_rfl) (by kernel_rfl))
                · exact kp_ldM (HN9.out.keep L.rel trivial).four rfl (L.old 9 (by kernel_rfl))
                · exact kp_eqM (eqM_refl _) rfl (L.val 1 87 (by kernel_rfl) (by kernel_rfl)) (L.val 2 88 (by kernel_rfl) (by kernel_rfl))
                · exact kp_not12 rfl rfl (L.val 3 89 (by kernel_rfl) (by kernel_rfl))
              · intro vs wz hwz hlen hv
                match vs, hlen with
                | [v0, v1, v2, v3, v4], _ =>
                  have e4 : v4 = .bool false := hv 4 90 (by kernel_rfl)
                  clear hv
                  subst e4
                  have HAz := Lib.hid (S.atK HA9.out hwz)
                  have HNz := Lib.hid (HN9.out.keep hwz trivial)
                  clear hwz HA9 HN9
                  simp only [putAll, List.map, Act.put, List.setIfInBounds_toArray, List.set_cons_succ, List.set_cons_zero, Exit.then]
                  go_wp2_with fail
                  go_roundw
                  case rel => exact ⟨k + 1, p, q, F8, n8, M', by omega, by omega, rfl, rfl, by go_num, by omega, HF9.out, HNz.out, HAz.out⟩
                  case measure => simp [intOf]; omega
            · have hc8 := HW8.out.cell hc trivial
              have hk2 : k < kl.length := of_decide_eq_true d1
              have HN9 := HN8
              have HA9 := HA8
              have HF9 := HF8
              clear HN8 HA8 HW8 HF8 hc
              go_wp2_with fail
              refine wp_region_guard (R := Kp) (V := V24 q M') (w0 := w8) G24 (by kernel_rfl) (fun w => Keeps.refl _ w) (fun _ _ _ h k => h.trans k) (fun _ _ _ _ _ h => h) (by kernel_rfl) (fun _ _ h => by cases h) (unwanted_of [] (by kernel_rfl) (fun _ h => by cases h)) ((Keeps.refl _ w8).drew) (each_of ?_) ?_
              · refine ⟨?_, ?_, ?_, ?_, ?_, trivial⟩ <;> intro hw _a1 wx L
                · exact kp_move rfl (L.old 7 (by kernel_rfl))
                · exact kp_getM S HT.out (S.atK HA9.out L.rel) rfl (L.val 0 86 (by kernel_rfl) (by kernel_rfl))
                · exact kp_ldM (HN9.out.keep L.rel trivial).four rfl (L.old 9 (by kernel_rfl))
                · exact kp_eqM (eqM_refl _) rfl (L.val 1 87 (by kernel_rfl) (by kernel_rfl)) (L.val 2 88 (by kernel_rfl) (by kernel_rfl))
                · exact kp_not12 rfl rfl (L.val 3 89 (by kernel_rfl) (by kernel_rfl))
              · intro vs wz hwz hlen hv
                match vs, hlen with
                | [v0, v1, v2, v3, v4], _ =>
                  have e4 : v4 = .bool false := hv 4 90 (by kernel_rfl)
                  clear hv
                  subst e4
                  have HAz := Lib.hid (S.atK HA9.out hwz)
                  have HNz := Lib.hid (HN9.out.keep hwz trivial)
                  clear hwz HA9 HN9
                  simp only [putAll, List.map, Act.put, List.setIfInBounds_toArray, List.set_cons_succ, List.set_cons_zero, Exit.then]
                  go_wp2_with fail
                  go_roundw
                  case rel => exact ⟨k + 1, p, q, F8, n8, M', by omega, by omega, rfl, rfl, by go_num, by omega, HF9.out, HNz.out, HAz.out⟩
                  case measure => simp [intOf]; omega
            · have hc8 := HW8.out.cell hc trivial
              have hk2 : k < kl.length := of_decide_eq_true d1
              clear hc HW8
              go_wp2_with fail
              refine (S.crash w w8 p q F8 n8 M' HT.out HA8.out).mono ?_
              rintro e wc ⟨pc, Fc, rfl, hh, hfc, hkc⟩
              have HC := Lib.hid hh
              have HNc := Lib.hid (HN8.out.keep hkc trivial)
              have HFc := Lib.hid (show ¬ Fc h from fun hf => by
                rcases hfc _ hf with hf | hf
                · exact HF8.out hf
                · have := HN8.out.lt; omega)
              clear hh hfc hkc HN8 HA8 HF8 hc8
              go_wp2_with fail
              refine (S.open_ w wc pc Fc n8 M' HT.out HC.out).mono ?_
              rintro e wo ⟨qo, Fo, rfl, ha, hfo, hko⟩
              have HA9 := Lib.hid ha
              have HN9 := Lib.hid (HNc.out.keep hko HFc.out)
              have HF9 := Lib.hid (show ¬ Fo h from fun hf => by
                rcases hfo _ hf with hf | hf
                · exact HFc.out hf
                · have := HNc.out.lt; omega)
              clear ha hfo hko HC HNc HFc
              go_wp2_with fail
              refine wp_region_guard (R := Kp) (V := V24 qo M') (w0 := wo) G24 (by kernel_rfl) (fun w => Keeps.refl _ w) (fun _ _ _ h k => h.trans k) (fun _ _ _ _ _ h => h) (by kernel_rfl) (fun _ _ h => by cases h) (unwanted_of [] (by kernel_rfl) (fun _ h => by cases h)) ((Keeps.refl _ wo).drew) (each_of ?_) ?_
              · refine ⟨?_, ?_, ?_, ?_, ?_, trivial⟩ <;> intro hw _a1 wx L
                · exact kp_move rfl (L.old 7 (by kernel_rfl))
                · exact kp_getM S HT.out (S.atK HA9.out L.rel) rfl (L.val 0 86 (by kernel_rfl) (by kernel_rfl))
                · exact kp_ldM (HN9.out.keep L.rel trivial).four rfl (L.old 9 (by kernel_rfl))
                · exact kp_eqM (eqM_refl _) rfl (L.val 1 87 (by kernel_rfl) (by kernel_rfl)) (L.val 2 88 (by kernel_rfl) (by kernel_rfl))
                · exact kp_not12 rfl rfl (L.val 3 89 (by kernel_rfl) (by kernel_rfl))
              · intro vs wz hwz hlen hv
                match vs, hlen with
                | [v0, v1, v2, v3, v4], _ =>
                  have e4 : v4 = .bool false := hv 4 90 (by kernel_rfl)
                  clear hv
                  subst e4
                  have HAz := Lib.hid (S.atK HA9.out hwz)
                  have HNz := Lib.hid (HN9.out.keep hwz trivial)
                  clear hwz HA9 HN9
                  simp only [putAll, List.map, Act.put, List.setIfInBounds_toArray, List.set_cons_succ, List.set_cons_zero, Exit.then]
                  go_wp2_with fail
                  go_roundw
                  case rel => exact ⟨k + 1, pc, qo, Fo, n8, M', by omega, by omega, rfl, rfl, by go_num, by omega, HF9.out, HNz.out, HAz.out⟩
                  case measure => simp [intOf]; omega
    · have HE := Lib.hid HW.out
      clear HA HN HF HW hop
      go_wp2_with fail
      go_ret
      exact ⟨rfl, HE.out.below⟩
    · have HE := Lib.hid HW.out
      clear HA HN HF HW hop
      go_wp2_with fail
      go_ret
      exact ⟨rfl, HE.out.below⟩
end Go.Proofs.YtmnjdlnjhomhnaaDoor.metaAll
