/-
  MtSave, StIf: texts of mine, joined.
-/
import Derived.Test.YticophaepapjoaaGreatDoorAllA21
import Derived.Test.YticophaepapjoaaGreatDoorAllA19
import Derived.Test.YticophaepapjoaaGreatDoorAllA18
namespace Go.Proofs.YticophaepapjoaaGreatDoor
open Go Go.RowKit Go.Joins
section
variable {o : Oper} {a : Act} {w : World} {Q : Exit → Act → World → Prop} {x y : Operand}
theorem kp_mayC {v : Value} {b : Bool} (hm : ∀ w2, Calls Tryz.prog 49 #[v] w2 fun e w' => e = .returned (.bool b) ∧ Kp w2 w') (ho : o.op = .call { callee := .value (.func 49), args := #[x], argTypes := #[32] }) (hx : a.eval x = v) : o.wp Tryz.prog a w (fun a' w' => ∃ v, a' = a.put o.dst v ∧ Kp w w' ∧ IsV (.bool b) w' v) Q := by
 have hg : a.eval (.func 49) = .func (.func 49) #[] #[] := rfl
 refine kp_call12 (F := 49) (args := #[v]) ?_ (hm w)
 clear hm
 generalize a.eval = ρ at hx hg ⊢
 unfold execOp
 rw [ho]
 go_simp
theorem kp_fMm0 {b j : Nat} (ho : o.op = .fieldAddr 32 x 0) (hx : a.eval x = .pointer (some ⟨b, j, none⟩)) : o.wp Tryz.prog a w (fun a' w' => ∃ v, a' = a.put o.dst v ∧ Kp w w' ∧ IsV (.pointer (some ⟨b, j, none⟩)) w' v) Q := by
 refine kp_yield (v := .pointer (some ⟨b, j, none⟩)) (w' := w) ?_ (Keeps.refl _ _) rfl
 generalize a.eval = ρ at hx ⊢
 unfold execOp
 rw [ho]
 go_simp
theorem kp_fMm1 {b j : Nat} (ho : o.op = .fieldAddr 32 x 1) (hx : a.eval x = .pointer (some ⟨b, j, none⟩)) : o.wp Tryz.prog a w (fun a' w' => ∃ v, a' = a.put o.dst v ∧ Kp w w' ∧ IsV (.pointer (some ⟨b, j + 1, none⟩)) w' v) Q := by
 refine kp_yield (v := .pointer (some ⟨b, j + 1, none⟩)) (w' := w) ?_ (Keeps.refl _ _) rfl
 generalize a.eval = ρ at hx ⊢
 unfold execOp
 rw [ho]
 go_simp
theorem kp_fK1 {b : Nat} (ho : o.op = .fieldAddr 86 x 1) (hx : a.eval x = .pointer (some ⟨b, 0, none⟩)) : o.wp Tryz.prog a w (fun a' w' => ∃ v, a' = a.put o.dst v ∧ Kp w w' ∧ IsV (.pointer (some ⟨b, 1, none⟩)) w' v) Q := by
 refine kp_yield (v := .pointer (some ⟨b, 1, none⟩)) (w' := w) ?_ (Keeps.refl _ _) rfl
 generalize a.eval = ρ at hx ⊢
 unfold execOp
 rw [ho]
 go_simp
theorem kp_nilM {p : Addr} (ho : o.op = .nilCheck x) (hx : a.eval x = .pointer (some p)) : o.wp Tryz.prog a w (fun a' w' => ∃ v, a' = a.put o.dst v ∧ Kp w w' ∧ IsV (.pointer (some p)) w' v) Q := by
 refine kp_yield (v := .pointer (some p)) (w' := w) ?_ (Keeps.refl _ _) rfl
 generalize a.eval = ρ at hx ⊢
 unfold execOp
 rw [ho]
 go_simp
theorem kp_ldN12 {p : Addr} {n : Int} (hc : w.cell? p = some (.int .i64 n)) (ho : o.op = .load 2 x) (hx : a.eval x = .pointer (some p)) : o.wp Tryz.prog a w (fun a' w' => ∃ v, a' = a.put o.dst v ∧ Kp w w' ∧ IsV (.int .i64 n) w' v) Q := by
 refine kp_yield (v := .int .i64 n) (w' := w) ?_ (Keeps.refl _ _) rfl
 generalize a.eval = ρ at hx ⊢
 unfold execOp
 rw [ho]
 go_simp
theorem kp_lssM {m n : Int} {b : Bool} (hb : decide (m < n) = b) (ho : o.op = .binOp .lss 2 x y 2) (hx : a.eval x = .int .i64 m) (hy : a.eval y = .int .i64 n) : o.wp Tryz.prog a w (fun a' w' => ∃ v, a' = a.put o.dst v ∧ Kp w w' ∧ IsV (.bool b) w' v) Q := by
 subst hb
 refine kp_yield (v := .bool (decide (m < n))) (w' := w) ?_ (Keeps.refl _ _) rfl
 generalize a.eval = ρ at hx hy ⊢
 unfold execOp
 rw [ho]
 go_simp
end
theorem g_two {V : Nat → World → Value → Prop} {x y : Bool} (i j : Nat) (hi : ∀ w v, V i w v → v = .bool x) (hj : ∀ w v, V j w v → v = .bool y) (g : Nat) (c : Bool) (h : (if g = i then some x else if g = j then some y else none) = some c) (w : World) (v : Value) (hv : V g w v) : v = .bool c := by
 by_cases e : g = i
 ·subst e; rw [if_pos rfl] at h; cases h; exact hi _ _ hv
 ·rw [if_neg e] at h
  by_cases e2 : g = j
  ·subst e2; rw [if_pos rfl] at h; cases h; exact hj _ _ hv
  ·rw [if_neg e2] at h; cases h
def EncV (n0 : Nat) (L : List UInt8) : World → Value → Prop := fun w v => ∃ A c, v = .slice A L.length c ∧ L.length ≤ c ∧ c ≤ maxLen ∧ (A = none → c = 0) ∧ Row w A (fun b => n0 ≤ b) (bcells L)
def SPost (W w0 : World) (p q : Nat) (F Fs : Foot) (s : SDev) (st : SSt) (L : List UInt8) (w : World) : Prop :=
 ∃ (F' Fs' : Foot) (n : Nat), Duo theSup W w p q F' Fs' (SDev.still (s.now.set (st.place + (1 - st.which)) (theSup.enc (st.turn + 1) L)) n) ⟨p, st.place, 1 - st.which, st.turn + 1, L⟩ ∧ n ≤ s.calls + 100 ∧
  Keeps (fun b => ¬ F.M b ∧ ¬ Fs.M b) w0 w ∧ (∀ b, F'.M b → F.M b ∨ w0.heap.size ≤ b) ∧ (∀ b, F'.I b → F.all b ∨ w0.heap.size ≤ b) ∧ (∀ b, Fs'.M b → Fs.M b ∨ w0.heap.size ≤ b) ∧ (∀ b, Fs'.I b → Fs.all b ∨ w0.heap.size ≤ b)
theorem SPost.keep {W w0 w w' : World} {p q : Nat} {F Fs : Foot} {s : SDev} {st : SSt} {L : List UInt8} (h : SPost W w0 p q F Fs s st L w) (hk : Kp w w') : SPost W w0 p q F Fs s st L w' := by
 obtain ⟨F', Fs', n, h1, h2, h3, h4, h5, h6, h7⟩ := h
 exact ⟨F', Fs', n, h1.keep hk, h2, h3.trans (hk.mono fun _ _ _ => trivial), h4, h5, h6, h7⟩
def Sv (W w0 : World) (p q k g : Nat) (F Fs : Foot) (s : SDev) (st : SSt) (L : List UInt8) (m x : M4) (b : Bool) (w : World) : Prop :=
 MBlk w g x ∧ KBlk w k q m ∧ cond b (SPost W w0 p q F Fs s st L w) (Kp w0 w)
theorem Sv.keep {W w0 w w' : World} {p q k g : Nat} {F Fs : Foot} {s : SDev} {st : SSt} {L : List UInt8} {m x : M4} {b : Bool} (h : Sv W w0 p q k g F Fs s st L m x b w) (hk : Kp w w') : Sv W w0 p q k g F Fs s st L m x b w' := by
 obtain ⟨h1, h2, h3⟩ := h
 refine ⟨h1.keep hk trivial, h2.keep hk trivial, ?_⟩
 cases b with
 | true => exact SPost.keep h3 hk
 | false => exact Keeps.trans h3 hk
def VSm (q k : Nat) (x : M4) (n0 : Nat) (L : List UInt8) : Nat → World → Value → Prop
 | 0 => IsV (.pointer (some ⟨k, 0, none⟩))
 | 1 => IsV (.pointer (some ⟨k, 0, none⟩))
 | 2 => IsV (.pointer (some ⟨k, 0, none⟩))
 | 3 => IsV (.pointer (some ⟨q, 0, none⟩))
 | 4 => IsV (magg x)
 | 5 => EncV n0 L
 | 6 => IsV (.int .i64 0)
 | 7 => IsV (.int .i64 0)
 | _ => fun _ _ => True
theorem EncV.keep {n0 : Nat} {L : List UInt8} {w w' : World} {v : Value} (h : EncV n0 L w v) (hk : Keeps (fun b => n0 ≤ b) w w') : EncV n0 L w' v := by
 obtain ⟨A, c, e, h1, h2, h3, h4⟩ := h
 exact ⟨A, c, e, h1, h2, h3, h4.keep hk⟩
theorem VS_keep {q k : Nat} {x : M4} {n0 : Nat} {L : List UInt8} (i : Nat) (w w' : World) (v : Value) (hk : Keeps (fun b => n0 ≤ b) w w') (h : VSm q k x n0 L i w v) : VSm q k x n0 L i w' v := by
 match i, h with
 | 0, h => exact h
 | 1, h => exact h
 | 2, h => exact h
 | 3, h => exact h
 | 4, h => exact h
 | 5, h => exact EncV.keep h hk
 | 6, h => exact h
 | 7, h => exact h
 | n + 8, _ => trivial
def GS0 : Nat → Option Bool := fun _ => none
section
variable {o : Oper} {a : Act} {w : World} {Q : Exit → Act → World → Prop} {x y : Operand}
theorem kp_fK0 {b : Nat} (ho : o.op = .fieldAddr 86 x 0) (hx : a.eval x = .pointer (some ⟨b, 0, none⟩)) : o.wp Tryz.prog a w (fun a' w' => ∃ v, a' = a.put o.dst v ∧ Kp w w' ∧ IsV (.pointer (some ⟨b, 0, none⟩)) w' v) Q := by
 refine kp_yield (v := .pointer (some ⟨b, 0, none⟩)) (w' := w) ?_ (Keeps.refl _ _) rfl
 generalize a.eval = ρ at hx ⊢
 unfold execOp
 rw [ho]
 go_simp
theorem kp_ldSp {p u : Addr} (hc : w.cell? p = some (.pointer (some u))) (ho : o.op = .load 84 x) (hx : a.eval x = .pointer (some p)) : o.wp Tryz.prog a w (fun a' w' => ∃ v, a' = a.put o.dst v ∧ Kp w w' ∧ IsV (.pointer (some u)) w' v) Q := by
 refine kp_yield (v := .pointer (some u)) (w' := w) ?_ (Keeps.refl _ _) rfl
 generalize a.eval = ρ at hx ⊢
 unfold execOp
 rw [ho]
 go_simp
theorem kp_enc {m : M4} {n0 : Nat} (hm : m.Fits) (hn : n0 ≤ w.heap.size) (ho : o.op = .call { callee := .value (.func 51), args := #[x], argTypes := #[32] }) (hx : a.eval x = magg m) : o.wp Tryz.prog a w (fun a' w' => ∃ v, a' = a.put o.dst v ∧ Kp w w' ∧ EncV n0 (encM m) w' v) Q := by
 have hg : a.eval (.func 51) = .func (.func 51) #[] #[] := rfl
 refine kp_enter (f := 51) (args := #[magg m]) ?_ (mencode_any w m hm) ?_
 ·clear hm
  generalize a.eval = ρ at hx hg ⊢
  unfold execOp
  rw [ho]
  go_simp
 ·rintro e w' ⟨A, c, rfl, h1, h2, h3, h4, h5⟩
  exact ⟨_, rfl, h5, A, c, rfl, h1, h2, h3, h4.mono fun b _ hb => Nat.le_trans hn hb.1⟩
end
set_option maxRecDepth 100000 in
set_option maxHeartbeats 2000000 in
theorem ksave_yes (W w : World) (hT : theSup.T W) (p q k : Nat) (F Fs : Foot) (s : SDev) (st : SSt) (m x : M4) (h : Kep W w p q k F Fs s st m) (hcalls : s.calls ≤ 549755813888) (ht : st.turn ≤ 549755813888) (hx : (mayB x && overB m x) = true) :
  Calls Tryz.prog 19 #[.pointer (some ⟨k, 0, none⟩), magg x] w fun e w' => e = .returned (.int .i64 0) ∧ ∃ (F' Fs' : Foot) (n : Nat), Kep W w' p q k F' Fs' (SDev.still (s.now.set (st.place + (1 - st.which)) (theSup.enc (st.turn + 1) (encM x))) n) ⟨p, st.place, 1 - st.which, st.turn + 1, encM x⟩ x ∧ n ≤ s.calls + 100 ∧
   Keeps (fun b => ¬ F.M b ∧ ¬ Fs.M b ∧ b ≠ k) w w' ∧ (∀ b, F'.M b → F.M b ∨ w.heap.size ≤ b) ∧ (∀ b, F'.I b → F.all b ∨ w.heap.size ≤ b) ∧ (∀ b, Fs'.M b → Fs.M b ∨ w.heap.size ≤ b) ∧ (∀ b, Fs'.I b → Fs.all b ∨ w.heap.size ≤ b) := by
 rw [Bool.and_eq_true] at hx
 obtain ⟨hmay, hov⟩ := hx
 have hfit := may_fits hmay
 have hl := encM_len hfit
 have HSV := Lib.hid (show ∀ w5 A c, Kp w w5 → Row w5 A (fun b => w.heap.size ≤ b) (bcells (encM x)) → (encM x).length ≤ c → c ≤ maxLen → (A = none → c = 0) → _ from fun w5 A c hk hr h1 h2 h3 =>
  duo_save hT (h.du.keep hk) A c (encM x) (encM x).length rfl (hr.mono fun b _ hb => ⟨fun hf => by have := h.du.dv.d.lt b hf; omega, fun hf => by have := theSup.lt h.du.su b hf; omega⟩) h1 h2 h3 hl hcalls ht)
 have HM := Lib.hid (show ∀ w2, Calls Tryz.prog 49 #[magg x] w2 fun e w' => e = .returned (.bool true) ∧ Kp w2 w' from fun w2 => (mmay_any w2 x).mono fun e w' h => ⟨by rw [h.1, hmay], h.2⟩)
 have HBW := Lib.hid h.kb
 have HFM := Lib.hid hfit
 have HMAY := Lib.hid hmay
 have HH := Lib.hid h
 have HLF := Lib.hid (show ∀ b, F.all b → b < w.heap.size from h.du.dv.d.lt)
 have HLS := Lib.hid (show ∀ b, Fs.all b → b < w.heap.size from fun b hb => theSup.lt h.du.su b hb)
 have HNF := Lib.hid h.nf
 have HNS := Lib.hid h.ns
 have HGK := Lib.hid h.gk
 have hkl := h.kb.lt
 clear h hmay hfit hl hT hcalls ht
 obtain ⟨bo, ep, re, fr⟩ := x
 obtain ⟨b0, e0, r0, f0⟩ := m
 have hov2 : (decide (b0 ≤ bo) && decide (e0 ≤ ep)) = true := hov
 simp only [Bool.and_eq_true, decide_eq_true_eq] at hov2
 have h2 : decide (bo < b0) = false := by simp; omega
 have h3 : decide (ep < e0) = false := by simp; omega
 clear hov hov2
 unfold magg at HM ⊢
 have HMM := Lib.hid (show ∀ w2, Calls Tryz.prog 49 #[.agg #[.int .i64 bo, .int .i64 ep, .int .i64 re, .bool fr]] w2 fun e w' => e = .returned (.bool true) ∧ Kp w2 w' from HM.out)
 have HM := HMM
 clear HMM
 show Calls _ _ #[.pointer (some ⟨k, 0, none⟩), .agg #[.int .i64 bo, .int .i64 ep, .int .i64 re, .bool fr]] _ _
 obtain ⟨g, hg⟩ : ∃ g, w.heap.size = g := ⟨_, rfl⟩
 have HW := Lib.hid (show ∀ w2, w2 = w.alloc (.cells #[.int .i64 bo, .int .i64 ep, .int .i64 re, .bool fr] 32) → MBlk w2 g ⟨bo, ep, re, fr⟩ ∧ KBlk w2 k q ⟨b0, e0, r0, f0⟩ ∧ Kp w w2 from by
  rintro w2 rfl
  exact ⟨MBlk.new w ⟨bo, ep, re, fr⟩ g hg.symm, HBW.out.keep ((Keeps.refl (fun _ => True) w).alloc _) trivial, (Keeps.refl _ w).alloc _⟩)
 clear HBW
 have HGG := Lib.hid hg
 go_enter Tryz.func19, Tryz.ntmps19
 go_upto_region 1 with fail
 obtain ⟨a1, a2, a3⟩ := HW.out _ rfl
 generalize World.alloc w _ = w1 at a1 a2 a3 ⊢
 have HX := Lib.hid a1
 have HB := Lib.hid a2
 have HK := Lib.hid a3
 clear a1 a2 a3 HW hg
 go_wp2_with fail
 refine (show Calls _ _ _ _ _ from mdown_no w1 k q _ HB.out).mono ?_
 rintro e w2 ⟨rfl, rfl⟩
 go_wp2_with fail
 refine wp_region_guard (R := Kp) (V := fun i => IsV (([.agg #[.int .i64 bo, .int .i64 ep, .int .i64 re, .bool fr], .bool true, .bool false, .bool false, .pointer (some ⟨g, 0, none⟩), .int .i64 bo, .pointer (some ⟨k, 0, none⟩), .pointer (some ⟨k, 0, none⟩), .pointer (some ⟨k, 1, none⟩), .pointer (some ⟨k, 1, none⟩), .int .i64 b0, .bool false, .bool false, .bool false, .pointer (some ⟨g, 1, none⟩), .int .i64 ep, .pointer (some ⟨k, 0, none⟩), .pointer (some ⟨k, 0, none⟩), .pointer (some ⟨k, 1, none⟩), .pointer (some ⟨k, 2, none⟩), .int .i64 e0, .bool false, .bool false] : List Value).getD i undef)) (w0 := w1) (fun i => if i = 3 then some false else if i = 13 then some false else none) (by kernel_rfl) (fun w => Keeps.refl _ w) (fun _ _ _ h k => h.trans k) (fun _ _ _ _ _ h => h) (by kernel_rfl) (g_two 3 13 (fun _ _ h => h) (fun _ _ h => h)) (fun i o ho hw => (all_wanted (by kernel_rfl) ho hw).elim) ((Keeps.refl _ w1).drew) (each_of ?_) ?_
 ·refine ⟨?_, ?_, ?_, ?_, ?_, ?_, ?_, ?_, ?_, ?_, ?_, ?_, ?_, ?_, ?_, ?_, ?_, ?_, ?_, ?_, ?_, ?_, ?_, trivial⟩ <;> intro hw a1 w3 L
  ·exact kp_ldM (HX.out.keep L.rel trivial).four rfl (L.old 3 (by kernel_rfl))
  ·exact kp_mayC HM.out rfl (L.val 0 8 (by kernel_rfl) (by kernel_rfl))
  ·exact kp_not12 rfl rfl (L.val 1 9 (by kernel_rfl) (by kernel_rfl))
  ·exact kp_move rfl (L.val 2 10 (by kernel_rfl) (by kernel_rfl))
  ·exact kp_fMm0 rfl (L.old 3 (by kernel_rfl))
  ·exact kp_ldN12 (HX.out.keep L.rel trivial).four.1 rfl (L.val 4 12 (by kernel_rfl) (by kernel_rfl))
  ·exact kp_move rfl (L.old 0 (by kernel_rfl))
  ·exact kp_nilM rfl (L.val 6 14 (by kernel_rfl) (by kernel_rfl))
  ·exact kp_fK1 rfl (L.val 7 15 (by kernel_rfl) (by kernel_rfl))
  ·exact kp_fMm0 rfl (L.val 8 16 (by kernel_rfl) (by kernel_rfl))
  ·exact kp_ldN12 (HB.out.keep L.rel trivial).c1 rfl (L.val 9 17 (by kernel_rfl) (by kernel_rfl))
  ·exact kp_lssM h2 rfl (L.val 5 13 (by kernel_rfl) (by kernel_rfl)) (L.val 10 18 (by kernel_rfl) (by kernel_rfl))
  ·exact kp_pick rfl (L.val 3 11 (by kernel_rfl) (by kernel_rfl)) (L.val 11 19 (by kernel_rfl) (by kernel_rfl))
  ·exact kp_move rfl (L.val 12 20 (by kernel_rfl) (by kernel_rfl))
  ·exact kp_fMm1 rfl (L.old 3 (by kernel_rfl))
  ·exact kp_ldN12 (HX.out.keep L.rel trivial).four.2.1 rfl (L.val 14 22 (by kernel_rfl) (by kernel_rfl))
  ·exact kp_move rfl (L.old 0 (by kernel_rfl))
  ·exact kp_nilM rfl (L.val 16 24 (by kernel_rfl) (by kernel_rfl))
  ·exact kp_fK1 rfl (L.val 17 25 (by kernel_rfl) (by kernel_rfl))
  ·exact kp_fMm1 rfl (L.val 18 26 (by kernel_rfl) (by kernel_rfl))
  ·exact kp_ldN12 (HB.out.keep L.rel trivial).c2 rfl (L.val 19 27 (by kernel_rfl) (by kernel_rfl))
  ·exact kp_lssM h3 rfl (L.val 15 23 (by kernel_rfl) (by kernel_rfl)) (L.val 20 28 (by kernel_rfl) (by kernel_rfl))
  ·exact kp_pick rfl (L.val 13 21 (by kernel_rfl) (by kernel_rfl)) (L.val 21 29 (by kernel_rfl) (by kernel_rfl))
 ·intro vs w3 hk3 hlen3 hv
  match vs, hlen3 with
  | u0 :: u1 :: u2 :: u3 :: u4 :: u5 :: u6 :: u7 :: u8 :: u9 :: u10 :: u11 :: u12 :: u13 :: u14 :: u15 :: u16 :: u17 :: u18 :: u19 :: u20 :: u21 :: u22 :: [], _ =>
   have e22 : u22 = .bool false := hv 22 30 (by kernel_rfl)
   clear hv
   subst e22
   have HK3 := Lib.hid (HK.out.trans hk3)
   have HB3 := Lib.hid (HB.out.keep hk3 trivial)
   have HX3 := Lib.hid (HX.out.keep hk3 trivial)
   have HD3 := Lib.hid hk3
   clear hk3
   simp only [putAll, List.map, Act.put, List.setIfInBounds_toArray, List.set_cons_succ, List.set_cons_zero, Exit.then]
   clear HX HB HK HM HD3
   go_wp2_with fail
   refine wp_region_one (V := VSm q k ⟨bo, ep, re, fr⟩ w3.heap.size (encM ⟨bo, ep, re, fr⟩)) (w0 := w3) 6 (Sv W w3 p q k g F Fs s st (encM ⟨bo, ep, re, fr⟩) ⟨b0, e0, r0, f0⟩ ⟨bo, ep, re, fr⟩) (fun w w' => Keeps (fun b => w3.heap.size ≤ b) w w') GS0 (by kernel_rfl) (fun i w w' v h hv => VS_keep i w w' v (h.mono fun _ _ _ => trivial) hv) (fun _ _ _ h hs => hs.keep h) (fun i _ w w' v h hv => VS_keep i w w' v h hv) (by kernel_rfl) (by decide) (fun g c h => by cases h) (fun i o ho hw => (all_wanted (by kernel_rfl) ho hw).elim) ⟨HX3.out.keep (Keeps.refl (fun _ => True) w3).drew trivial, HB3.out.keep (Keeps.refl (fun _ => True) w3).drew trivial, (Keeps.refl _ w3).drew⟩ (each_of ?_) ?_
   ·refine ⟨?_, ?_, ?_, ?_, ?_, ?_, ?_, ?_, trivial⟩ <;> intro hw a1 w5 L
    ·rw [if_neg (by decide)]; intro b hs _; exact kp_move rfl (L.old 0 (by kernel_rfl))
    ·rw [if_neg (by decide)]; intro b hs _; exact kp_nilM rfl (L.val 0 31 (by kernel_rfl) (by kernel_rfl))
    ·rw [if_neg (by decide)]; intro b hs _; exact kp_fK0 rfl (L.val 1 32 (by kernel_rfl) (by kernel_rfl))
    ·rw [if_neg (by decide)]; intro b hs _; exact kp_ldSp hs.2.1.c0 rfl (L.val 2 33 (by kernel_rfl) (by kernel_rfl))
    ·rw [if_neg (by decide)]; intro b hs _; exact kp_ldM hs.1.four rfl (L.old 3 (by kernel_rfl))
    ·rw [if_neg (by decide)]; intro b hs _
     refine kp_enc HFM.out ?_ rfl (L.val 4 35 (by kernel_rfl) (by kernel_rfl))
     cases b with
     | true => obtain ⟨_, _, _, _, _, h, _⟩ := hs.2.2; exact h.size
     | false => exact Keeps.size hs.2.2
    ·rw [if_pos rfl]
     rintro ⟨s1, s2, s3⟩
     have s3' : Kp w3 w5 := s3
     obtain ⟨A, c, e3, h4, h5, h6, hr⟩ := L.val 5 36 (by kernel_rfl) (by kernel_rfl)
     have hf : a1.eval (.func 50) = .func (.func 50) #[] #[] := rfl
     have e0 : a1.eval (.tmp 34) = .pointer (some ⟨q, 0, none⟩) := L.val 3 34 (by kernel_rfl) (by kernel_rfl)
     have e3' : a1.eval (.tmp 36) = .slice A (encM ⟨bo, ep, re, fr⟩).length c := e3
     refine one_enter12 (f := 50) (args := #[.pointer (some ⟨q, 0, none⟩), .slice A (encM ⟨bo, ep, re, fr⟩).length c]) ?_ (HSV.out w5 A c (HK3.out.trans s3') (hr.mono fun b _ hb => Nat.le_trans HK3.out.size hb) h4 h5 h6) ?_
     ·clear s1 s2 s3 s3'
      generalize a1.eval = ρ at e0 e3' hf ⊢
      unfold execOp
      go_simp
     ·rintro e w6 ⟨rfl, F', Fs', n, hd, hn, hkp, f1, f2, f3, f4⟩
      have hsz := s3'.size
      have hsz3 := HK3.out.size
      refine ⟨_, rfl, hkp.mono fun b _ hb => ⟨fun hf => by have := HLF.out b (.inl hf); omega, fun hf => by have := HLS.out b (.inl hf); omega⟩, ⟨s1.keep hkp ⟨fun hf => by have := HLF.out _ (.inl hf); have := HGG.out; omega, fun hf => by have := HLS.out _ (.inl hf); have := HGG.out; omega⟩, s2.keep hkp ⟨fun hf => HNF.out (.inl hf), fun hf => HNS.out (.inl hf)⟩,
       ⟨F', Fs', n, hd, hn, (s3'.mono fun _ _ _ => trivial).trans hkp, fun b hb => ?_, fun b hb => ?_, fun b hb => ?_, fun b hb => ?_⟩⟩, rfl⟩
      ·rcases f1 b hb with h | h
       ·exact .inl h
       ·exact .inr (by omega)
      ·rcases f2 b hb with h | h
       ·exact .inl h
       ·exact .inr (by omega)
      ·rcases f3 b hb with h | h
       ·exact .inl h
       ·exact .inr (by omega)
      ·rcases f4 b hb with h | h
       ·exact .inl h
       ·exact .inr (by omega)
    ·rw [if_neg (by decide)]; intro b hs _; exact kp_assign rfl (L.val 6 37 (by kernel_rfl) (by kernel_rfl))
   ·intro vs w6 hs6 hlen6 hv
    match vs, hlen6 with
    | [u0, u1, u2, u3, u4, u5, u6, u7], _ =>
     have e7 : u7 = .int .i64 0 := hv 7 5 (by kernel_rfl)
     clear hv
     subst e7
     obtain ⟨s1, s2, F', Fs', n, hd, hn, hkp, f1, f2, f3, f4⟩ := hs6
     have k1 := s2.c1
     have k2 := s2.c2
     have k3 := s2.c3
     have k4 := s2.c4
     have z1 := s2.fz 1
     have z2 := s2.fz 2
     have z3 := s2.fz 3
     have z4 := s2.fz 4
     have x0 := s1.four.1
     have x1 := s1.four.2.1
     have x2 := s1.four.2.2.1
     have x3 := s1.four.2.2.2
     simp only at k1 k2 k3 k4 x0 x1 x2 x3
     have kk : Keeps (fun b => b ≠ k) w6 ((((w6.setCell ⟨k, 1, none⟩ (.int .i64 bo)).setCell ⟨k, 2, none⟩ (.int .i64 ep)).setCell ⟨k, 3, none⟩ (.int .i64 re)).setCell ⟨k, 4, none⟩ (.bool fr)) :=
      ((((Keeps.refl (fun b => b ≠ k) w6).setCell (p := ⟨k, 1, none⟩) (.inr (fun h => h rfl)) _).setCell (p := ⟨k, 2, none⟩) (.inr (fun h => h rfl)) _).setCell (p := ⟨k, 3, none⟩) (.inr (fun h => h rfl)) _).setCell (p := ⟨k, 4, none⟩) (.inr (fun h => h rfl)) _
     have hb6 := s2.set4 ⟨bo, ep, re, fr⟩
     have hgk := HGK.out
     have hkW : ∀ {w' : World}, Keeps (fun b => b ≠ k) w6 w' → Kp W w' := fun {w'} hk6 => ⟨hk6.os.trans hd.dv.kp.os, hk6.tape.trans hd.dv.kp.tape, hk6.output.trans hd.dv.kp.output, Nat.le_trans hd.dv.kp.size hk6.size, fun b _ hb => (hk6.block b (by omega) (Nat.lt_of_lt_of_le hb hd.dv.kp.size)).trans (hd.dv.kp.block b trivial hb)⟩
     have hsz3 := HK3.out.size
     have nF : ¬ F'.all k := fun hf => by
      rcases hf with hf | hf
      ·rcases f1 k hf with h | h
       ·exact HNF.out (.inl h)
       ·omega
      ·rcases f2 k hf with h | h
       ·exact HNF.out h
       ·omega
     have nS : ¬ Fs'.all k := fun hf => by
      rcases hf with hf | hf
      ·rcases f3 k hf with h | h
       ·exact HNS.out (.inl h)
       ·omega
      ·rcases f4 k hf with h | h
       ·exact HNS.out h
       ·omega
     have HQ := Lib.hid (show ∀ w', w' = ((((w6.setCell ⟨k, 1, none⟩ (.int .i64 bo)).setCell ⟨k, 2, none⟩ (.int .i64 ep)).setCell ⟨k, 3, none⟩ (.int .i64 re)).setCell ⟨k, 4, none⟩ (.bool fr)) → ∃ (F' Fs' : Foot) (n : Nat), Kep W w' p q k F' Fs' (SDev.still (s.now.set (st.place + (1 - st.which)) (theSup.enc (st.turn + 1) (encM ⟨bo, ep, re, fr⟩))) n) ⟨p, st.place, 1 - st.which, st.turn + 1, encM ⟨bo, ep, re, fr⟩⟩ ⟨bo, ep, re, fr⟩ ∧ n ≤ s.calls + 100 ∧
       Keeps (fun b => ¬ F.M b ∧ ¬ Fs.M b ∧ b ≠ k) w w' ∧ (∀ b, F'.M b → F.M b ∨ w.heap.size ≤ b) ∧ (∀ b, F'.I b → F.all b ∨ w.heap.size ≤ b) ∧ (∀ b, Fs'.M b → Fs.M b ∨ w.heap.size ≤ b) ∧ (∀ b, Fs'.I b → Fs.all b ∨ w.heap.size ≤ b) from by
      rintro w' rfl
      refine ⟨F', Fs', n, ⟨⟨⟨hd.dv.d.keep (kk.mono fun b _ hb e => nF (by rw [← e]; exact hb)), hd.dv.gd, hkW kk⟩, theSup.keep hd.su (kk.mono fun b _ hb e => nS (by rw [← e]; exact hb)), hd.ap, hd.gs, hd.on, hd.room, hd.sec⟩, hb6, HMAY.out, rfl, nF, nS, hgk⟩, hn,
       ((HK3.out.mono fun _ _ _ => trivial).trans (hkp.mono fun b _ hb => ⟨hb.1, hb.2.1⟩)).trans (kk.mono fun b _ hb => hb.2.2), fun b hb => ?_, fun b hb => ?_, fun b hb => ?_, fun b hb => ?_⟩
      ·rcases f1 b hb with h | h
       ·exact .inl h
       ·exact .inr (by omega)
      ·rcases f2 b hb with h | h
       ·exact .inl h
       ·exact .inr (by omega)
      ·rcases f3 b hb with h | h
       ·exact .inl h
       ·exact .inr (by omega)
      ·rcases f4 b hb with h | h
       ·exact .inl h
       ·exact .inr (by omega))
     clear s1 s2 hd hn hkp f1 f2 f3 f4 nF nS hkW kk hb6 HSV HH HLF HLS HNF HNS HGK HB3 HX3
     simp only [putAll, List.map, Act.put, List.setIfInBounds_toArray, List.set_cons_succ, List.set_cons_zero, Exit.then]
     go_wp2_with fail
     go_ret
     exact ⟨rfl, HQ.out _ rfl⟩
structure StGo (w w' : World) (F F' A A' : Foot) : Prop where
 ap : Apart F' A'
 k : Keeps (fun b => ¬ F.M b ∧ ¬ A.M b) w w'
 f1 : ∀ b, F'.M b → F.M b ∨ w.heap.size ≤ b
 f2 : ∀ b, F'.I b → F.all b ∨ w.heap.size ≤ b
 f3 : ∀ b, A'.M b → A.M b ∨ w.heap.size ≤ b
 f4 : ∀ b, A'.I b → A.all b ∨ w.heap.size ≤ b
section
variable {W w w' : World} {F F' A A' R : Foot} {p q : Nat} {s s' : SDev}
theorem FGo.st {st : FSt} {n : Nat} (h : FGo w w' F F' A A' s s' st n) : StGo w w' F F' A A' := ⟨h.ap, h.k, h.f1, h.f2, h.f3, h.f4⟩
theorem JGo.st {st : JSt} {n : Nat} (h : JGo w w' F F' A A' s s' st n) : StGo w w' F F' A A' := ⟨h.ap, h.k, h.f1, h.f2, h.f3, h.f4⟩
theorem StGo.all1 (h : StGo w w' F F' A A') : ∀ b, F'.all b → F.all b ∨ w.heap.size ≤ b := fun b hb => by
 rcases hb with hb | hb
 ·exact (h.f1 b hb).imp .inl id
 ·exact h.f2 b hb
theorem StGo.all2 (h : StGo w w' F F' A A') : ∀ b, A'.all b → A.all b ∨ w.heap.size ≤ b := fun b hb => by
 rcases hb with hb | hb
 ·exact (h.f3 b hb).imp .inl id
 ·exact h.f4 b hb
theorem StGo.rest (h : StGo w w' F F' A A') (hF : Apart F R) (hA : Apart A R) (hR : ∀ b, R.all b → b < w.heap.size) : Apart F' R ∧ Apart A' R ∧ Keeps R.all w w' := by
 refine ⟨⟨fun b hb hr => ?_, fun b hb hf => ?_⟩, ⟨fun b hb hr => ?_, fun b hb hf => ?_⟩, h.k.mono fun b _ hb => ⟨fun hm => hF.l b hm hb, fun hm => hA.l b hm hb⟩⟩
 ·rcases h.f1 b hb with h1 | h1
  ·exact hF.l b h1 hr
  ·have := hR b hr; omega
 ·rcases h.all1 b hf with h1 | h1
  ·exact hF.r b hb h1
  ·have := hR b (.inl hb); omega
 ·rcases h.f3 b hb with h1 | h1
  ·exact hA.l b h1 hr
  ·have := hR b hr; omega
 ·rcases h.all2 b hf with h1 | h1
  ·exact hA.r b hb h1
  ·have := hR b (.inl hb); omega
theorem StGo.dv (h : StGo w w' F F' A A') (hd : Dv W w p F s) (hA : ∀ b, A.all b → W.heap.size ≤ b) (hd' : DAt w' p F' s') : Dv W w' p F' s' ∧ ∀ b, A'.all b → W.heap.size ≤ b := by
 have hsz := hd.kp.size
 refine ⟨⟨hd', fun b hb => ?_, ?_⟩, fun b hb => ?_⟩
 ·rcases h.all1 b hb with h1 | h1
  ·exact hd.gd b h1
  ·omega
 ·have hk := h.k
  exact ⟨hk.os.trans hd.kp.os, hk.tape.trans hd.kp.tape, hk.output.trans hd.kp.output, Nat.le_trans hsz hk.size, fun b _ hb =>
   (hk.block b ⟨fun hm => by have := hd.gd b (.inl hm); omega, fun hm => by have := hA b (.inl hm); omega⟩ (by omega)).trans (hd.kp.block b trivial hb)⟩
 ·rcases h.all2 b hb with h1 | h1
  ·exact hA b h1
  ·omega
end
def kfoot (k : Nat) (Fs : Foot) : Foot := ⟨fun b => Fs.M b ∨ b = k, Fs.I⟩
def efoot (b : Nat) (X : Nat → Prop) : Foot := ⟨fun c => c = b ∨ X c, fun _ => False⟩
structure Sto where
 f : FSt
 j : JSt
 t : Nat
 m : M4
 boot : Int
 c : Nat
def segsOf (n : Nat) : Nat := min ((n - 162) / 8) 200
structure StIn (S : FlashOK) (J : JournalOK) (W w : World) (p q1 q2 q3 k wh : Nat) (F Fc Fj Fs : Foot) (s : SDev) (z : Sto) (n : Nat) (E : Foot) : Prop where
 fc : S.rep w p q1 Fc z.f s
 jr : J.rep w p q2 Fj z.j s
 kp : Kep W w p q3 k F Fs s ⟨p, 0, wh, z.t, encM z.m⟩ z.m
 a1 : Apart F Fc
 a2 : Apart F Fj
 a3 : Apart F (kfoot k Fs)
 a4 : Apart Fc Fj
 a5 : Apart Fc (kfoot k Fs)
 a6 : Apart Fj (kfoot k Fs)
 e1 : Apart F E
 e2 : Apart Fc E
 e3 : Apart Fj E
 e4 : Apart (kfoot k Fs) E
 elt : ∀ b, E.all b → b < w.heap.size
 g1 : ∀ b, Fc.all b → W.heap.size ≤ b
 g2 : ∀ b, Fj.all b → W.heap.size ≤ b
 ln : s.now.length = n
 n1 : 192 ≤ n
 fp : z.f.place = 162
 fs : z.f.segs = segsOf n
 jp : z.j.place = 2
 js : z.j.segs = 20
 oth : Oth theSup s.now ⟨p, 0, wh, z.t, encM z.m⟩
 c : s.calls ≤ z.c
def StBlk (w : World) (b q1 q2 k : Nat) (boot : Int) : Prop :=
 w.heap[b]? = some (.cells #[.pointer (some ⟨q1, 0, none⟩), .pointer (some ⟨q2, 0, none⟩), .pointer (some ⟨k, 0, none⟩), .int .i64 boot] 38 (0, 0))
def StOnD (S : FlashOK) (J : JournalOK) (d : Nat) (z : Sto) (n : Nat) (rows : List (List UInt8)) : Prop :=
 (d = 1 ∧ z.f = ⟨162, segsOf n, [], 0, 1⟩ ∧ z.j = ⟨2, 20, [], 0, 32, 1⟩ ∧ ∀ i, 2 ≤ i → i < 162 + 8 * segsOf n → rows.getD i [] = blank) ∨ (d = 2 ∧ S.disk z.f rows ∧ J.disk z.j rows) ∨ (d = 3 ∧ J.disk z.j rows)
def StAt (S : FlashOK) (J : JournalOK) (W w : World) (p b q1 q2 k : Nat) (z : Sto) (n d : Nat) (X : Nat → Prop) : Prop :=
 ∃ (q3 wh : Nat) (F Fc Fj Fs : Foot) (s : SDev), StIn S J W w p q1 q2 q3 k wh F Fc Fj Fs s z n (efoot b X) ∧ StBlk w b q1 q2 k z.boot ∧ W.heap.size ≤ b ∧ ¬ X b ∧ (0 < d → ∃ rows c, s = SDev.still rows c ∧ StOnD S J d z n rows)
def StDev (W w : World) (p n c : Nat) (X : Nat → Prop) : Prop := ∃ (F : Foot) (s : SDev), Dv W w p F s ∧ s.now.length = n ∧ s.calls ≤ c ∧ ∀ b, X b → ¬ F.all b ∧ b < w.heap.size
def StDisk (S : FlashOK) (J : JournalOK) (W w : World) (p : Nat) (z : Sto) (n d : Nat) (X : Nat → Prop) : Prop :=
 ∃ (F : Foot) (rows : List (List UInt8)) (wh : Nat), Dv W w p F (SDev.still rows 0) ∧ rows.length = n ∧ 192 ≤ n ∧ z.f.place = 162 ∧ z.f.segs = segsOf n ∧ z.j.place = 2 ∧ z.j.segs = 20 ∧ wh ≤ 1 ∧ 1 ≤ z.t ∧ mayB z.m = true ∧ rows.getD wh [] = theSup.enc z.t (encM z.m) ∧
  Oth theSup rows ⟨p, 0, wh, z.t, encM z.m⟩ ∧ StOnD S J d z n rows ∧ ∀ b, X b → ¬ F.all b ∧ b < w.heap.size
section
variable {S : FlashOK} {J : JournalOK} {W w w' : World} {p b q1 q2 q3 k wh n d : Nat} {F F' Fc Fc' Fj Fj' Fs Fs' E : Foot} {s s' : SDev} {z : Sto} {X Y : Nat → Prop}
theorem segs_room (h : 192 ≤ n) : 162 + 8 * segsOf n ≤ n := by unfold segsOf; omega
theorem kfoot_all {c : Nat} : (kfoot k Fs).all c ↔ Fs.all c ∨ c = k := by
 unfold Foot.all kfoot
 constructor
 ·rintro ((h | h) | h)
  ·exact .inl (.inl h)
  ·exact .inr h
  ·exact .inl (.inr h)
 ·rintro ((h | h) | h)
  ·exact .inl (.inl h)
  ·exact .inr h
  ·exact .inl (.inr h)
theorem efoot_all {c : Nat} : (efoot b X).all c ↔ c = b ∨ X c := ⟨fun h => h.elim id fun h => h.elim, .inl⟩
theorem StIn.dv (h : StIn S J W w p q1 q2 q3 k wh F Fc Fj Fs s z n E) : Dv W w p F s := h.kp.du.dv
theorem StIn.roomF (h : StIn S J W w p q1 q2 q3 k wh F Fc Fj Fs s z n E) : z.f.place + 8 * z.f.segs ≤ s.now.length := by
 rw [h.fp, h.fs, h.ln]; exact segs_room h.n1
theorem StIn.roomJ (h : StIn S J W w p q1 q2 q3 k wh F Fc Fj Fs s z n E) : z.j.place + 8 * z.j.segs ≤ s.now.length := by
 rw [h.jp, h.js, h.ln]; have := h.n1; omega
theorem StIn.wh1 (h : StIn S J W w p q1 q2 q3 k wh F Fc Fj Fs s z n E) : wh ≤ 1 := (theSup.wf h.kp.du.su).1
theorem StIn.klt (h : StIn S J W w p q1 q2 q3 k wh F Fc Fj Fs s z n E) : ∀ c, (kfoot k Fs).all c → c < w.heap.size := fun c hc => by
 rcases kfoot_all.1 hc with hc | rfl
 ·exact theSup.lt h.kp.du.su c hc
 ·exact h.kp.kb.lt
theorem StIn.keep (h : StIn S J W w p q1 q2 q3 k wh F Fc Fj Fs s z n E) (hk : Kp w w') : StIn S J W w' p q1 q2 q3 k wh F Fc Fj Fs s z n E :=
 { h with fc := S.keep h.fc (hk.mono fun _ _ _ => trivial), jr := J.keep h.jr (hk.mono fun _ _ _ => trivial), kp := h.kp.keep hk, elt := fun b hb => Nat.lt_of_lt_of_le (h.elt b hb) hk.size }
theorem Kep.over {st : SSt} {m : M4} (h : Kep W w p q3 k F Fs s st m) (hp : st.place = 0) (hd' : Dv W w' p F' s') (ha : Apart F' (kfoot k Fs)) (hk : Keeps (kfoot k Fs).all w w') (hlen : s'.now.length = s.now.length) (hsec : ∀ i, i < 2 → s'.now.getD i [] = s.now.getD i []) : Kep W w' p q3 k F' Fs s' st m := by
 have hw := (theSup.wf h.du.su).1
 refine ⟨⟨hd', theSup.keep h.du.su (hk.mono fun b _ hb => kfoot_all.2 (.inl hb)), ⟨fun b hb hf => ha.l b hb (kfoot_all.2 (.inl hf)), fun b hb hf => ha.r b (.inl hb) hf⟩, h.du.gs, h.du.on, by rw [hlen]; exact h.du.room, ?_⟩, h.kb.keep hk (kfoot_all.2 (.inr rfl)), h.may, h.txt, fun hf => ha.r k (.inr rfl) hf, h.ns, h.gk⟩
 rw [hp, Nat.zero_add, hsec _ (by omega)]
 have := h.du.sec
 rwa [hp, Nat.zero_add] at this
theorem Oth.over {rows rows' : List (List UInt8)} {st : SSt} (h : Oth theSup rows st) (hp : st.place = 0) (hsec : ∀ i, i < 2 → rows'.getD i [] = rows.getD i []) : Oth theSup rows' st := fun t' x' hd => by
 refine h t' x' ?_
 rw [hp, Nat.zero_add] at hd ⊢
 rw [← hsec _ (by omega)]
 exact hd
theorem StIn.moveC (h : StIn S J W w p q1 q2 q3 k wh F Fc Fj Fs s z n E) {f : FSt} {m : Nat} (hd' : DAt w' p F' s') (hr' : S.rep w' p q1 Fc' f s') (hpl : f.place = z.f.place) (hsg : f.segs = z.f.segs) (hgo : FGo w w' F F' Fc Fc' s s' z.f m) :
  StIn S J W w' p q1 q2 q3 k wh F' Fc' Fj Fs s' ⟨f, z.j, z.t, z.m, z.boot, z.c + 1000 * m⟩ n E ∧ Keeps E.all w w' := by
 have hg := hgo.st
 have hout : ∀ i, i < 162 → s'.now.getD i [] = s.now.getD i [] := fun i hi => hgo.out i fun hh => by
  have := hh.1; rw [h.fp] at this; omega
 obtain ⟨hd2, hg1⟩ := hg.dv h.dv h.g1 hd'
 obtain ⟨a2, a4, k2⟩ := hg.rest h.a2 h.a4 (J.lt h.jr)
 obtain ⟨a3, a5, k3⟩ := hg.rest h.a3 h.a5 h.klt
 obtain ⟨e1, e2, ke⟩ := hg.rest h.e1 h.e2 h.elt
 refine ⟨⟨hr', J.other (J.keep h.jr k2) hgo.len fun i hi => hout i ?_, h.kp.over rfl hd2 a3 k3 hgo.len fun i hi => hout i (by omega), hgo.ap, a2, a3, a4, a5, h.a6, e1, e2, h.e3, h.e4, fun b hb => Nat.lt_of_lt_of_le (h.elt b hb) hg.k.size, hg1, h.g2, hgo.len.trans h.ln, h.n1, hpl.trans h.fp, hsg.trans h.fs, h.jp, h.js, h.oth.over rfl fun i hi => hout i (by omega), ?_⟩, ke⟩
 ·have := hi.2; rw [h.jp, h.js] at this; omega
 ·have := hgo.calls; have := h.c; show s'.calls ≤ z.c + 1000 * m; omega
theorem StIn.moveJ (h : StIn S J W w p q1 q2 q3 k wh F Fc Fj Fs s z n E) {f : JSt} {m : Nat} (hd' : DAt w' p F' s') (hr' : J.rep w' p q2 Fj' f s') (hpl : f.place = z.j.place) (hsg : f.segs = z.j.segs) (hgo : JGo w w' F F' Fj Fj' s s' z.j m) :
  StIn S J W w' p q1 q2 q3 k wh F' Fc Fj' Fs s' ⟨z.f, f, z.t, z.m, z.boot, z.c + 1000 * m⟩ n E ∧ Keeps E.all w w' := by
 have hg := hgo.st
 have hout : ∀ i, (i < 2 ∨ 162 ≤ i) → s'.now.getD i [] = s.now.getD i [] := fun i hi => hgo.out i fun hh => by
  have h1 := hh.1; have h2 := hh.2; rw [h.jp] at h1 h2; rw [h.js] at h2; omega
 obtain ⟨hd2, hg2⟩ := hg.dv h.dv h.g2 hd'
 obtain ⟨a1, a4, k1⟩ := hg.rest h.a1 h.a4.symm (S.lt h.fc)
 obtain ⟨a3, a6, k3⟩ := hg.rest h.a3 h.a6 h.klt
 obtain ⟨e1, e3, ke⟩ := hg.rest h.e1 h.e3 h.elt
 refine ⟨⟨S.other (S.keep h.fc k1) hgo.len fun i hi => hout i (.inr ?_), hr', h.kp.over rfl hd2 a3 k3 hgo.len fun i hi => hout i (.inl (by omega)), a1, hgo.ap, a3, a4.symm, h.a5, a6, e1, h.e2, e3, h.e4, fun b hb => Nat.lt_of_lt_of_le (h.elt b hb) hg.k.size, h.g1, hg2, hgo.len.trans h.ln, h.n1, h.fp, h.fs, hpl.trans h.jp, hsg.trans h.js, h.oth.over rfl fun i hi => hout i (.inl (by omega)), ?_⟩, ke⟩
 ·have := hi.1; rw [h.fp] at this; omega
 ·have := hgo.calls; have := h.c; show s'.calls ≤ z.c + 1000 * m; omega
end
end Go.Proofs.YticophaepapjoaaGreatDoor
