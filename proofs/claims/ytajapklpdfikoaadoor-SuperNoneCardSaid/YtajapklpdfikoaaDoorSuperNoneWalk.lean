/-
  THE WALK OF SuperNone, whatever the program's slots are made of.
-/
import Derived.Test.YtajapklpdfikoaaDoorSuperBegun
import Derived.Test.YtajapklpdfikoaaDoorSuperLocs
import Derived.Outline
namespace Go.Proofs.YtajapklpdfikoaaDoor.superNone
open Go Go.RowKit Go.Joins

def z41 : Array Value := Array.replicate 41 (.int .u8 0)
def z41L : List UInt8 := List.replicate 41 0
theorem z41_is : z41.toList = bcells z41L := by simp [z41, z41L, bcells, bcell]
theorem make41 (W : World) : (Instr.makeSlice 31 (.int .i64 41) (.int .i64 41)).run Tryd.prog W = .ok (.slice (some ⟨W.heap.size, 0, none⟩) 41 41) (W.alloc (.cells z41 5)) := by kernel_rfl
def two : SDev := SDev.still (List.replicate 2 blank) 0

def VN : Nat → World → Value → Prop
  | 0 => fun w v => ∃ p F, v = .pointer (some ⟨p, 0, none⟩) ∧ DAt w p F two
  | 1 => fun w v => ∃ b, v = .slice (some ⟨b, 0, none⟩) 41 41 ∧ Row w (some ⟨b, 0, none⟩) (fun _ => True) (bcells z41L)
  | 2 => fun _ v => ∃ x, v = .tuple #[x, .int .i64 1]
  | 3 => fun _ v => ∃ x, v = .tuple #[x, .int .i64 1]
  | 5 => IsV (.int .i64 1)
  | 7 => IsV (.int .i64 1)
  | _ => fun _ _ => True
theorem VN_mono (i : Nat) (w w' : World) (v : Value) (h : Kp w w') (hv : VN i w v) : VN i w' v := by
  match i, hv with
  | 0, hv => obtain ⟨p, F, e, hd⟩ := hv; exact ⟨p, F, e, hd.keep (h.mono fun _ _ _ => trivial)⟩
  | 1, hv => obtain ⟨b, e, hr⟩ := hv; exact ⟨b, e, hr.keep h⟩
  | 2, hv => exact hv
  | 3, hv => exact hv
  | 4, _ => trivial
  | 5, hv => exact hv
  | 6, _ => trivial
  | 7, hv => exact hv
  | n + 8, _ => trivial
def GN : Nat → Option Bool := fun _ => none

set_option maxRecDepth 100000 in
set_option maxHeartbeats 4000000 in
theorem walk (S : SupOK) (w : World) (hT : S.T w) : Calls Tryd.prog 6 #[] w fun e w' => e = .returned (.bool true) ∧ Below w.heap.size w w' := by
  have HT := Lib.hid hT
  clear hT
  go_enter Tryd.func6, Tryd.ntmps6
  go_wp2_with fail
  refine (dv_new (Keeps.refl _ w) 2 (by decide) (by decide) 2 rfl).mono ?_
  rintro e w1 ⟨p, F, rfl, hd, -, -⟩
  have HD := Lib.hid hd
  clear hd
  go_wp2_with fail
  refine (S.makeNo w1 p F _ HD.out.d (S.tk HT.out HD.out.kp) 1 none 0 (fun _ => True) [] 4 (Row.nil _ _ _) (by decide) (by decide) (fun _ => rfl) (by decide) (by decide) (.inl ⟨.inr (by decide), by decide, rfl⟩)).mono ?_
  rintro e w2 ⟨⟨v2, rfl⟩, hk2⟩
  have HK2 := Lib.hid (HD.out.kp.trans hk2)
  clear hk2 HD
  go_wp2_with fail
  refine (dv_new HK2.out 2 (by decide) (by decide) 2 rfl).mono ?_
  rintro e w3 ⟨p3, F3, rfl, hd, -, -⟩
  have HD := Lib.hid hd
  clear hd HK2
  go_wp2_with fail
  refine (S.openBad w3 p3 F3 _ HD.out.d (S.tk HT.out HD.out.kp) 0 (by decide) S.decBlank S.decBlank).mono ?_
  rintro e w4 ⟨rfl, hk4⟩
  have HK4 := Lib.hid (HD.out.kp.trans hk4)
  clear hk4 HD
  go_wp2_with fail
  refine (dv_new HK4.out 2 (by decide) (by decide) 2 rfl).mono ?_
  rintro e w5 ⟨p5, F5, rfl, hd, -, -⟩
  have HD := Lib.hid hd
  clear hd HK4
  go_wp2_with fail
  refine (S.openNo w5 p5 F5 _ HD.out.d (S.tk HT.out HD.out.kp) (-1) (by decide) (by decide) (.inl (by decide))).mono ?_
  rintro e w6 ⟨⟨v6, rfl⟩, hk6⟩
  have HK6 := Lib.hid (HD.out.kp.trans hk6)
  clear hk6 HD
  go_wp2_with fail
  refine wp_region_guard (R := Kp) (V := VN) (w0 := w6) GN (by kernel_rfl) (fun w => Keeps.refl _ w) (fun _ _ _ h k => h.trans k) VN_mono (by kernel_rfl) (fun _ _ h => by cases h) (unwanted_of [] (by kernel_rfl) (fun _ h => by cases h)) ((Keeps.refl _ w6).drew) (each_of ?_) ?_
  · refine ⟨?_, ?_, ?_, ?_, ?_, ?_, ?_, ?_, trivial⟩ <;> intro hw a1 wx L
    · have hf : a1.eval (.func 15) = .func (.func 15) #[] #[] := rfl
      refine kp_enter (f := 15) (args := #[.int .i64 2]) ?_ (dv_new (Keeps.refl _ wx) 2 (by decide) (by decide) 2 rfl) ?_
      · have h2 : a1.eval (.const (.int .i64 2)) = .int .i64 2 := rfl
        generalize a1.eval = ρ at hf h2 ⊢
        unfold execOp
        go_simp
      · rintro e w' ⟨p, F, rfl, hd, -, hk⟩
        exact ⟨_, rfl, hk, p, F, rfl, hd.d⟩
    · refine kp_yield (v := .slice (some ⟨wx.heap.size, 0, none⟩) 41 41) (w' := wx.alloc (.cells z41 5)) ?_ ((Keeps.refl _ _).alloc _) ⟨_, rfl, Row.fresh wx z41 5 (0, 0) _ rfl trivial _ z41_is⟩
      have h2 : a1.eval (.const (.int .i64 41)) = .int .i64 41 := rfl
      generalize a1.eval = ρ at h2 ⊢
      unfold execOp
      simp [h2, make41, Result.andThen]
    · obtain ⟨p, F, e0, hd⟩ := L.val 0 26 (by kernel_rfl) (by kernel_rfl)
      obtain ⟨b, e1, hr⟩ := L.val 1 27 (by kernel_rfl) (by kernel_rfl)
      have hf : a1.eval (.func 16) = .func (.func 16) #[] #[] := rfl
      have h0 : a1.eval (.const (.int .i64 0)) = .int .i64 0 := rfl
      refine kp_enter (f := 16) (args := #[.pointer (some ⟨p, 0, none⟩), .int .i64 0, .slice (some ⟨b, 0, none⟩) 41 41]) ?_ (S.makeNo wx p F two hd (S.tk HT.out (HK6.out.trans L.rel)) 0 (some ⟨b, 0, none⟩) 41 (fun _ => True) z41L 1 hr (by decide) (by decide) (fun h => by cases h) (by decide) (by decide) (.inr ⟨by decide, by decide, rfl⟩)) ?_
      · clear hd hr
        generalize a1.eval = ρ at hf h0 e0 e1 ⊢
        unfold execOp
        go_simp
      · rintro e w' ⟨⟨v, rfl⟩, hk⟩
        exact ⟨_, rfl, hk, v, rfl⟩
    · exact ⟨a1.eval (.tmp 28), rfl, Keeps.refl _ _, L.val 2 28 (by kernel_rfl) (by kernel_rfl)⟩
    · obtain ⟨x, e⟩ := L.val 3 25 (by kernel_rfl) (by kernel_rfl)
      refine kp_yield (v := x) (w' := wx) ?_ (Keeps.refl _ _) trivial
      generalize a1.eval = ρ at e ⊢
      unfold execOp
      go_simp
    · obtain ⟨x, e⟩ := L.val 3 25 (by kernel_rfl) (by kernel_rfl)
      refine kp_yield (v := .int .i64 1) (w' := wx) ?_ (Keeps.refl _ _) rfl
      generalize a1.eval = ρ at e ⊢
      unfold execOp
      go_simp
    · exact ⟨a1.eval (.tmp 29), rfl, Keeps.refl _ _, trivial⟩
    · exact kp_assign rfl (L.val 5 30 (by kernel_rfl) (by kernel_rfl))
  · intro vs w8 hw8 hlen hv
    match vs, hlen with
    | [v0, v1, v2, v3, v4, v5, v6, v7], _ =>
      have e7 : v7 = .int .i64 1 := hv 7 9 (by kernel_rfl)
      clear hv
      subst e7
      have HK8 := Lib.hid (HK6.out.trans hw8)
      clear hw8
      simp only [putAll, List.map, Act.put, List.setIfInBounds_toArray, List.set_cons_succ, List.set_cons_zero, Exit.then]
      go_wp2_with fail
      refine (begun5 S w8 (S.tk HT.out HK8.out)).mono ?_
      rintro e w9 ⟨rfl, hk9⟩
      have HK9 := Lib.hid (HK8.out.trans hk9)
      clear hk9 HK8
      go_wp2_with fail
      refine (S.saveNil w9).mono ?_
      rintro e w10 ⟨rfl, hk10⟩
      have HK10 := Lib.hid (HK9.out.trans hk10)
      clear hk10 HK9
      go_wp2_with fail
      refine (S.textNil w10).mono ?_
      rintro e w11 ⟨A, c, rfl, hk11⟩
      have HK11 := Lib.hid (HK10.out.trans hk11)
      clear hk11 HK10
      go_wp2_with fail
      refine (S.turnNil w11).mono ?_
      rintro e w' ⟨rfl, rfl⟩
      go_wp2_with fail
      go_ret
      exact ⟨rfl, HK11.out.below⟩
end Go.Proofs.YtajapklpdfikoaaDoor.superNone
