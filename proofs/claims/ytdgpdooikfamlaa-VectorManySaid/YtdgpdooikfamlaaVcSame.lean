/-
  'same' OF LAYER 11: are a vector's numbers just those?
-/
import Derived.Test.YtdgpdooikfamlaaVcIf
namespace Go.Proofs.Ytdgpdooikfamlaa
open Go Go.RowKit Go.Joins

/-- What a region's operations leave, by a list. -/
def Vv (l : List Value) : Nat → World → Value → Prop := fun i => IsV (l.getD i undef)
theorem Vv_keep (l : List Value) (i : Nat) (w w' : World) (v : Value) (_ : Kp w w') (h : Vv l i w v) : Vv l i w' v := h
section
variable {o : Oper} {a : Act} {w : World} {Q : Exit → Act → World → Prop} {x y z : Operand}
theorem kp_ixW {b k : Nat} (hk : k < 6) (ho : o.op = .indexAddr 24 x y) (hx : a.eval x = .pointer (some ⟨b, 0, none⟩)) (hy : a.eval y = .int .i64 (k : Int)) :
    o.wp Try.prog a w (fun a' w' => ∃ v, a' = a.put o.dst v ∧ Kp w w' ∧ IsV (.pointer (some ⟨b, k, none⟩)) w' v) Q := by
  refine kp_yield (v := .pointer (some ⟨b, k, none⟩)) (w' := w) ?_ (Keeps.refl _ _) rfl
  generalize a.eval = ρ at hx hy ⊢
  unfold execOp
  rw [ho]
  go_simp
  intro h
  omega
theorem kp_ixV {b k : Nat} (hk : k < 6) (ho : o.op = .indexAddr 26 x y) (hx : a.eval x = .pointer (some ⟨b, 0, none⟩)) (hy : a.eval y = .int .i64 (k : Int)) :
    o.wp Try.prog a w (fun a' w' => ∃ v, a' = a.put o.dst v ∧ Kp w w' ∧ IsV (.pointer (some ⟨b, k, none⟩)) w' v) Q := by
  refine kp_yield (v := .pointer (some ⟨b, k, none⟩)) (w' := w) ?_ (Keeps.refl _ _) rfl
  generalize a.eval = ρ at hx hy ⊢
  unfold execOp
  rw [ho]
  go_simp
  intro h
  omega
theorem kp_ldN {p : Addr} {n : Int} (hc : w.cell? p = some (.int .i64 n)) (ho : o.op = .load 2 x) (hx : a.eval x = .pointer (some p)) : o.wp Try.prog a w (fun a' w' => ∃ v, a' = a.put o.dst v ∧ Kp w w' ∧ IsV (.int .i64 n) w' v) Q := by
  refine kp_yield (v := .int .i64 n) (w' := w) ?_ (Keeps.refl _ _) rfl
  generalize a.eval = ρ at hx ⊢
  unfold execOp
  rw [ho]
  go_simp
theorem kp_neN {m n : Int} {b : Bool} (hb : (m != n) = b) (ho : o.op = .binOp .neq 2 x y 2) (hx : a.eval x = .int .i64 m) (hy : a.eval y = .int .i64 n) : o.wp Try.prog a w (fun a' w' => ∃ v, a' = a.put o.dst v ∧ Kp w w' ∧ IsV (.bool b) w' v) Q := by
  subst hb
  refine kp_yield (v := .bool (m != n)) (w' := w) ?_ (Keeps.refl _ _) rfl
  generalize a.eval = ρ at hx hy ⊢
  unfold execOp
  rw [ho]
  go_simp
/-- A call of a function that only makes memory. -/
theorem kp_callV {F : FuncId} {args : Array Value} {v : Value} (e : (execOp a.eval o).run Try.prog w = .ok (.enter F args) w) (hc : Calls Try.prog F args w fun e w' => e = .returned v ∧ Kp w w') :
    o.wp Try.prog a w (fun a' w' => ∃ v', a' = a.put o.dst v' ∧ Kp w w' ∧ IsV v w' v') Q := by
  refine kp_enter e hc ?_
  rintro e w' ⟨rfl, hk⟩
  exact ⟨_, rfl, hk, rfl⟩
theorem kp_get (S : VectorOK) {f : Nat → Int} {n : Int} {m : Int} (hT : S.T w) (hf : VOk f) (hm : getF f n = m) (ho : o.op = .call { callee := .value (.func 21), args := #[x, y], argTypes := #[26, 3] }) (hx : a.eval x = vagg f) (hy : a.eval y = .int .i64 n) :
    o.wp Try.prog a w (fun a' w' => ∃ v', a' = a.put o.dst v' ∧ Kp w w' ∧ IsV (.int .i64 m) w' v') Q := by
  subst hm
  have hg : a.eval (.func 21) = .func (.func 21) #[] #[] := rfl
  refine kp_callV (F := 21) (args := #[vagg f, .int .i64 n]) ?_ (S.get w f n hT hf)
  generalize a.eval = ρ at hx hy hg ⊢
  unfold execOp
  rw [ho]
  go_simp
end
theorem getF_at {f : Nat → Int} (hf : VOk f) {k : Nat} (hk : k < 6) : getF f (k : Int) = f k := by
  unfold getF isNode
  rcases Nat.eq_zero_or_pos k with h | h
  · subst h; rw [hf.zero]; rfl
  · rw [if_pos (by simp; omega)]; rfl
def GE (b : Bool) : Nat → Option Bool
  | 7 => some b
  | _ => none
/-- What region 4's operations leave. -/
def LE (f g : Nat → Int) (q k : Nat) : List Value := [vagg f, .int .i64 (k : Int), .int .i64 (f k), .int .i64 (k : Int), .pointer (some ⟨q + 1, k, none⟩), .int .i64 (g k), .bool false, .bool false, .int .i64 (k : Int), .pointer (some ⟨q, k, none⟩), .int .i64 (f k), .int .i64 (k : Int), .pointer (some ⟨q + 1, k, none⟩), .int .i64 (g k), .bool false, .bool false]
def LN (f g : Nat → Int) (q k : Nat) : List Value := [vagg f, .int .i64 (k : Int), .int .i64 (f k), .int .i64 (k : Int), .pointer (some ⟨q + 1, k, none⟩), .int .i64 (g k), .bool true, .bool true, undef, undef, undef, undef, undef, undef, undef, .bool true]
theorem GE_is {l : List Value} {b : Bool} (hl : l.getD 7 undef = .bool b) (g : Nat) (x : Bool) (h : GE b g = some x) (w : World) (v : Value) (hv : Vv l g w v) : v = .bool x := by
  unfold GE at h
  split at h
  · cases h
    have h2 : v = l.getD 7 undef := hv
    rw [h2, hl]
  · cases h
set_option maxRecDepth 100000 in
set_option maxHeartbeats 1000000 in
theorem same_any (S : VectorOK) (w : World) (hT : S.T w) (f g : Nat → Int) (hf : VOk f) :
    Calls Try.prog 11 #[vagg f, vagg g] w fun e w' => e = .returned (.bool (eqB f g)) ∧ Kp w w' := by
  have HF := Lib.hid hf
  have HTT := Lib.hid hT
  have HW := Lib.hid (show ∀ w2, w2 = (w.alloc (.cells (vcells f) 26)).alloc (.cells (vcells g) 24) → VBlk w2 w.heap.size 26 f ∧ VBlk w2 (w.heap.size + 1) 24 g ∧ Kp w w2 from by
    rintro w2 rfl
    have h1 : VBlk (w.alloc (.cells (vcells f) 26)) w.heap.size 26 f := heap_alloc_new w _
    have h2 := heap_alloc_new (w.alloc (.cells (vcells f) 26)) (.cells (vcells g) 24)
    refine ⟨h1.keep (G := fun _ => True) ((Keeps.refl _ _).alloc _) trivial, ?_, ((Keeps.refl _ _).alloc _).alloc _⟩
    have hs : (w.alloc (.cells (vcells f) 26)).heap.size = w.heap.size + 1 := by simp
    rw [hs] at h2
    exact h2)
  unfold vagg
  unfold vcells at HW
  unfold vcells
  go_enter Try.func11, Try.ntmps11
  go_wp2_with fail
  obtain ⟨a1, a2, a3⟩ := HW.out _ rfl
  have H0 := Lib.hid a1
  have H1 := Lib.hid a2
  have HK := Lib.hid a3
  clear a1 a2 a3 HW hT hf
  obtain ⟨q, hq⟩ : ∃ q, w.heap.size = q := ⟨_, rfl⟩
  rw [hq] at H0 H1 ⊢
  clear hq
  go_loopw [5] (fun i wr => ∃ k : Nat, k ≤ 6 ∧ i = .int .i64 (k : Int) ∧ Hid (∀ j, j < k → f j = g j) ∧ Hid (VBlk wr q 26 f) ∧ Hid (VBlk wr (q + 1) 24 g) ∧ Hid (Kp w wr)) (fun i _ => 6 - (intOf i).toNat)
  case atStart => exact ⟨0, by omega, rfl, Lib.hid (fun j hj => absurd hj (Nat.not_lt_zero _)), H0, H1, HK⟩
  case round =>
    clear H0 H1 HK
    obtain ⟨k, hk, rfl, HALL, H0, H1, HK⟩ := hrel
    by_cases hk6 : k < 6
    · have t1 : decide ((k : Int) < 6) = true := by simp; omega
      go_wp2_with fail
      have HG := Lib.hid (getF_at HF.out hk6)
      have HTR := Lib.hid (S.tk HTT.out HK.out)
      by_cases he : f k = g k
      · have hne : (f k != g k) = false := by simp [he]
        refine wp_region_guard (R := Kp) (V := Vv (LE f g q k)) (w0 := wr) (GE false) (by kernel_rfl) (fun w => Keeps.refl _ w) (fun _ _ _ h k => h.trans k) (Vv_keep _) (by kernel_rfl) (GE_is rfl) (fun i o ho hw => (all_wanted (by kernel_rfl) ho hw).elim) ((Keeps.refl _ wr).drew) (each_of ?_) ?_
        · refine ⟨?_, ?_, ?_, ?_, ?_, ?_, ?_, ?_, ?_, ?_, ?_, ?_, ?_, ?_, ?_, ?_, trivial⟩ <;> intro hw a1 w3 L
          · exact kp_ldV (H0.out.keep L.rel trivial) rfl (L.old 2 (by kernel_rfl))
          · exact kp_move rfl (L.old 5 (by kernel_rfl))
          · exact kp_get S (S.tk HTR.out L.rel) HF.out HG.out rfl (L.val 0 10 (by kernel_rfl) (by kernel_rfl)) (L.val 1 11 (by kernel_rfl) (by kernel_rfl))
          · exact kp_move rfl (L.old 5 (by kernel_rfl))
          · exact kp_ixW hk6 rfl (L.old 3 (by kernel_rfl)) (L.val 3 13 (by kernel_rfl) (by kernel_rfl))
          · exact kp_ldN ((H1.out.keep L.rel trivial).at_ k hk6) rfl (L.val 4 14 (by kernel_rfl) (by kernel_rfl))
          · exact kp_neN hne rfl (L.val 2 12 (by kernel_rfl) (by kernel_rfl)) (L.val 5 15 (by kernel_rfl) (by kernel_rfl))
          · exact kp_move rfl (L.val 6 16 (by kernel_rfl) (by kernel_rfl))
          · exact kp_move rfl (L.old 5 (by kernel_rfl))
          · exact kp_ixV hk6 rfl (L.old 2 (by kernel_rfl)) (L.val 8 18 (by kernel_rfl) (by kernel_rfl))
          · exact kp_ldN ((H0.out.keep L.rel trivial).at_ k hk6) rfl (L.val 9 19 (by kernel_rfl) (by kernel_rfl))
          · exact kp_move rfl (L.old 5 (by kernel_rfl))
          · exact kp_ixW hk6 rfl (L.old 3 (by kernel_rfl)) (L.val 11 21 (by kernel_rfl) (by kernel_rfl))
          · exact kp_ldN ((H1.out.keep L.rel trivial).at_ k hk6) rfl (L.val 12 22 (by kernel_rfl) (by kernel_rfl))
          · exact kp_neN hne rfl (L.val 10 20 (by kernel_rfl) (by kernel_rfl)) (L.val 13 23 (by kernel_rfl) (by kernel_rfl))
          · exact kp_pick rfl (L.val 7 17 (by kernel_rfl) (by kernel_rfl)) (L.val 14 24 (by kernel_rfl) (by kernel_rfl))
        · intro vs w7 hk7 hlen7 hv
          match vs, hlen7 with
          | [u0, u1, u2, u3, u4, u5, u6, u7, u8, u9, u10, u11, u12, u13, u14, u15], _ =>
            have hx15 : u15 = .bool false := hv 15 25 (by kernel_rfl)
            subst hx15
            have H02 := Lib.hid (H0.out.keep hk7 trivial)
            have H12 := Lib.hid (H1.out.keep hk7 trivial)
            have HK2 := Lib.hid (HK.out.trans hk7)
            have HAL2 := Lib.hid (show ∀ j, j < k + 1 → f j = g j from fun j hj => by
              rcases Nat.lt_or_ge j k with h | h
              · exact HALL.out j h
              · obtain rfl : j = k := by omega
                exact he)
            clear hv hk7 he hne
            simp only [putAll, List.map, Act.put, List.setIfInBounds_toArray, List.set_cons_succ, List.set_cons_zero, Exit.then]
            go_wp2_with fail
            go_roundw
            case rel => exact ⟨k + 1, by omega, by go_num, HAL2, H02, H12, HK2⟩
            case measure => simp [intOf]; omega
      · have hne : (f k != g k) = true := by simp [he]
        have HE := Lib.hid (show eqB f g = false from Bool.eq_false_iff.2 fun h => he (eqB_iff.1 h k hk6))
        refine wp_region_guard (R := Kp) (V := Vv (LN f g q k)) (w0 := wr) (GE true) (by kernel_rfl) (fun w => Keeps.refl _ w) (fun _ _ _ h k => h.trans k) (Vv_keep _) (by kernel_rfl) (GE_is rfl) (unwanted_of [8, 9, 10, 11, 12, 13, 14] (by kernel_rfl) (by intro i hi; simp only [List.mem_cons, List.not_mem_nil, or_false] at hi; rcases hi with rfl | rfl | rfl | rfl | rfl | rfl | rfl <;> rfl)) ((Keeps.refl _ wr).drew) (each_of ?_) ?_
        · refine ⟨?_, ?_, ?_, ?_, ?_, ?_, ?_, ?_, ?_, ?_, ?_, ?_, ?_, ?_, ?_, ?_, trivial⟩ <;> intro hw a1 w3 L
          · exact kp_ldV (H0.out.keep L.rel trivial) rfl (L.old 2 (by kernel_rfl))
          · exact kp_move rfl (L.old 5 (by kernel_rfl))
          · exact kp_get S (S.tk HTR.out L.rel) HF.out HG.out rfl (L.val 0 10 (by kernel_rfl) (by kernel_rfl)) (L.val 1 11 (by kernel_rfl) (by kernel_rfl))
          · exact kp_move rfl (L.old 5 (by kernel_rfl))
          · exact kp_ixW hk6 rfl (L.old 3 (by kernel_rfl)) (L.val 3 13 (by kernel_rfl) (by kernel_rfl))
          · exact kp_ldN ((H1.out.keep L.rel trivial).at_ k hk6) rfl (L.val 4 14 (by kernel_rfl) (by kernel_rfl))
          · exact kp_neN hne rfl (L.val 2 12 (by kernel_rfl) (by kernel_rfl)) (L.val 5 15 (by kernel_rfl) (by kernel_rfl))
          · exact kp_move rfl (L.val 6 16 (by kernel_rfl) (by kernel_rfl))
          · cases hw
          · cases hw
          · cases hw
          · cases hw
          · cases hw
          · cases hw
          · cases hw
          · exact kp_pick rfl (L.val 7 17 (by kernel_rfl) (by kernel_rfl)) rfl
        · intro vs w7 hk7 hlen7 hv
          match vs, hlen7 with
          | [u0, u1, u2, u3, u4, u5, u6, u7, u8, u9, u10, u11, u12, u13, u14, u15], _ =>
            have hx15 : u15 = .bool true := hv 15 25 (by kernel_rfl)
            subst hx15
            have HK2 := Lib.hid (HK.out.trans hk7)
            clear hv hk7 he hne
            simp only [putAll, List.map, Act.put, List.setIfInBounds_toArray, List.set_cons_succ, List.set_cons_zero, Exit.then]
            go_wp2_with fail
            go_ret
            exact ⟨by rw [HE.out]; rfl, HK2.out⟩
    · have t1 : decide ((k : Int) < 6) = false := by simp; omega
      obtain rfl : k = 6 := by omega
      have HE := Lib.hid (show eqB f g = true from eqB_iff.2 HALL.out)
      have c0 := H0.out.at_ 0 (by decide)
      have c1 := H0.out.at_ 1 (by decide)
      have c2 := H0.out.at_ 2 (by decide)
      have c3 := H0.out.at_ 3 (by decide)
      have c4 := H0.out.at_ 4 (by decide)
      have c5 := H0.out.at_ 5 (by decide)
      have HG1 := Lib.hid (show ∀ w', Kp wr w' → Calls Try.prog 21 #[vagg f, .int .i64 (-1)] w' fun e w2 => e = .returned (.int .i64 0) ∧ Kp w' w2 from fun w' hk => S.get w' f (-1) (S.tk HTT.out (HK.out.trans hk)) HF.out)
      have HG2 := Lib.hid (show ∀ w', Kp wr w' → Calls Try.prog 21 #[vagg f, .int .i64 6] w' fun e w2 => e = .returned (.int .i64 0) ∧ Kp w' w2 from fun w' hk => S.get w' f 6 (S.tk HTT.out (HK.out.trans hk)) HF.out)
      unfold vagg vcells at HG1 HG2
      clear hk6
      go_wp2_with fail
      refine (show Calls _ _ _ _ _ from HG1.out _ (Keeps.refl _ _)).mono ?_
      rintro e w3 ⟨rfl, hk3⟩
      replace c0 := hk3.cell c0 trivial
      replace c1 := hk3.cell c1 trivial
      replace c2 := hk3.cell c2 trivial
      replace c3 := hk3.cell c3 trivial
      replace c4 := hk3.cell c4 trivial
      replace c5 := hk3.cell c5 trivial
      have HK3 := Lib.hid hk3
      clear hk3
      go_wp2_with fail
      refine (show Calls _ _ _ _ _ from HG2.out _ HK3.out).mono ?_
      rintro e w4 ⟨rfl, hk4⟩
      have HK4 := Lib.hid (HK.out.trans (HK3.out.trans hk4))
      clear hk4
      go_wp2_with fail
      go_ret
      exact ⟨by rw [HE.out]; rfl, HK4.out⟩

end Go.Proofs.Ytdgpdooikfamlaa
