/-
  THE PROGRAM's KEEPER OF METAS: encode, decode (layer 12).
-/
import Derived.Test.YtmnjdlnjhomhnaaDoorMtSmall
import Derived.Test.YtmnjdlnjhomhnaaDoorAllNums
import Derived.Deep.CutRange
namespace Go.Proofs.YtmnjdlnjhomhnaaDoor
open Go Go.RowKit Go.Joins
def frzZ (b : Bool) : Int := if b then 1 else 0
def numsM (x : M4) : List Int := [x.boot, x.epoch, x.ready, frzZ x.frozen]
def encM (x : M4) : List UInt8 := putsZ (numsM x)
theorem numsM_fit {x : M4} (hx : x.Fits) : ∀ n ∈ numsM x, -9223372036854775808 ≤ n ∧ n < 9223372036854775808 := fun n hn => by
  have := hx.b1; have := hx.b2; have := hx.e1; have := hx.e2; have := hx.r1; have := hx.r2
  simp only [numsM, List.mem_cons, List.not_mem_nil, or_false] at hn
  rcases hn with rfl | rfl | rfl | rfl
  · omega
  · omega
  · omega
  · unfold frzZ; cases x.frozen <;> decide
theorem encM_len {x : M4} (hx : x.Fits) : (encM x).length ≤ 40 := putsZ_len (numsM x) (numsM_fit hx)
theorem may_fits {x : M4} (h : mayB x = true) : x.Fits := by
  unfold mayB small12 at h
  simp only [Bool.and_eq_true, decide_eq_true_eq] at h
  obtain ⟨⟨h1, h2, h3, h4, h5, h6⟩, -⟩ := h
  exact ⟨by omega, by omega, by omega, by omega, by omega, by omega⟩
theorem own_bytes {w : World} {B : Nat} {v : Value} {l : List UInt8} (h : OwnB w B v l) : ∃ A c, v = .slice A l.length c ∧ l.length ≤ c ∧ c ≤ maxLen ∧ (A = none → c = 0) ∧ Row w A (fun b => B ≤ b ∧ b < w.heap.size) (bcells l) := by
  unfold OwnB at h
  have key : ∃ A c, v = .slice A l.length c ∧ l.length ≤ c ∧ c ≤ maxLen ∧ (A = none → c = 0) := by
    rcases h.2 with ⟨h', h0⟩ | ⟨g', cap', cur, h', _, _, h1, h2, _⟩
    · exact ⟨none, 0, by rw [h0]; exact h', by omega, Nat.zero_le _, fun _ => rfl⟩
    · exact ⟨_, _, h', h1, h2, fun e => by cases e⟩
  obtain ⟨A, c, rfl, h1, h2, h3⟩ := key
  refine ⟨A, c, rfl, h1, h2, h3, ?_⟩
  have e : l.length = (bcells l).length := by rw [bcells_len]
  rw [e] at h
  exact Row.of_own h
def EncPost (w : World) (l : List UInt8) (e : Ending) (w' : World) : Prop := ∃ A c, e = .returned (.slice A l.length c) ∧ l.length ≤ c ∧ c ≤ maxLen ∧ (A = none → c = 0) ∧ Row w' A (fun b => w.heap.size ≤ b ∧ b < w'.heap.size) (bcells l) ∧ Kp w w'
set_option maxRecDepth 100000 in
set_option maxHeartbeats 1000000 in
theorem mencode_any (w : World) (x : M4) (hx : x.Fits) : Calls Tryd.prog 19 #[magg x] w (EncPost w (encM x)) := by
  have HN := Lib.hid (numsM_fit hx)
  clear hx
  have HP := Lib.hid (show ∀ (w2 : World) (q : Nat), Kp w w2 → Row w2 (some ⟨q, 0, none⟩) (fun _ => True) ((numsM x).map (Value.int .i64)) → Calls Tryd.prog 30 #[.slice none 0 0, .slice (some ⟨q, 0, none⟩) 4 4] w2 (EncPost w (encM x)) from fun w2 q hk hr => by
    refine (show Calls _ _ _ _ _ from put_any none (some ⟨q, 0, none⟩) 0 4 (fun _ => True) (fun _ => True) [] (numsM x) w2 (Row.nil _ _ _) hr HN.out (by simp) (by simp [numsM])).mono ?_
    rintro e w' ⟨v, rfl, ho, hk2⟩
    obtain ⟨A, c, rfl, h1, h2, h3, h4⟩ := own_bytes ho
    exact ⟨A, c, rfl, h1, h2, h3, h4.mono fun b _ hb => ⟨Nat.le_trans hk.size hb.1, hb.2⟩, hk.trans hk2⟩)
  have HE := Lib.hid (show numsM x = [x.boot, x.epoch, x.ready, frzZ x.frozen] from rfl)
  generalize encM x = l at HP ⊢
  obtain ⟨bo, ep, re, fr⟩ := x
  generalize numsM ⟨bo, ep, re, fr⟩ = ns at HP HE
  have HR := Lib.hid (show ∀ f : Int, frzZ fr = f → Row ((w.alloc (.cells #[.int .i64 bo, .int .i64 ep, .int .i64 re, .bool fr] 32)).alloc (.cells #[.int .i64 bo, .int .i64 ep, .int .i64 re, .int .i64 f] 2)) (some ⟨w.heap.size + 1, 0, none⟩) (fun _ => True) (ns.map (Value.int .i64)) from fun f hf =>
    Row.fresh _ #[.int .i64 bo, .int .i64 ep, .int .i64 re, .int .i64 f] 2 (0, 0) _ (by simp) trivial _ (by rw [HE.out, ← hf]; rfl))
  have HK := Lib.hid (show ∀ o o', Kp w ((w.alloc o).alloc o') from fun o o' => ((Keeps.refl _ w).alloc _).alloc _)
  unfold magg
  cases fr with
  | false =>
    go_enter Tryd.func19, Tryd.ntmps19
    go_wp2_with fail
    refine (show Calls _ _ _ _ _ from HP.out _ _ (HK.out _ _) (HR.out 0 rfl)).mono ?_
    rintro e w2 ⟨A, c, rfl, h1, h2, h3, h4, h5⟩
    have HQ := Lib.hid (show EncPost w l (.returned (.slice A l.length c)) w2 from ⟨A, c, rfl, h1, h2, h3, h4, h5⟩)
    clear h1 h2 h3 h4 h5 HP HR HK HE HN
    go_wp2_with fail
    go_ret
    exact HQ.out
  | true =>
    go_enter Tryd.func19, Tryd.ntmps19
    go_wp2_with fail
    refine (show Calls _ _ _ _ _ from HP.out _ _ (HK.out _ _) (HR.out 1 rfl)).mono ?_
    rintro e w2 ⟨A, c, rfl, h1, h2, h3, h4, h5⟩
    have HQ := Lib.hid (show EncPost w l (.returned (.slice A l.length c)) w2 from ⟨A, c, rfl, h1, h2, h3, h4, h5⟩)
    clear h1 h2 h3 h4 h5 HP HR HK HE HN
    go_wp2_with fail
    go_ret
    exact HQ.out
/-! ### decode -/
def placesM (q : Nat) : List (Option Addr) := [some ⟨q + 1, 0, none⟩, some ⟨q + 1, 1, none⟩, some ⟨q + 1, 2, none⟩, some ⟨q + 2, 0, none⟩]
theorem allZ_encM {x : M4} (hx : x.Fits) : allZ 4 (encM x) = (numsM x, (encM x).length, 0) := by
  have hz := allZ_puts (numsM x) [] (numsM_fit hx)
  rw [List.append_nil] at hz
  exact hz
def FBlk (w : World) (g : Nat) (z : Int) : Prop := w.heap[g]? = some (.cells #[.int .i64 z] 2 (0, 0))
theorem FBlk.keep {w w' : World} {g : Nat} {z : Int} {F : Nat → Prop} (h : FBlk w g z) (hk : Keeps F w w') (hq : F g) : FBlk w' g z := (hk.block g hq (Array.getElem?_eq_some_iff.1 h).1).trans h
set_option maxRecDepth 100000 in
set_option maxHeartbeats 2000000 in
theorem mdecode_yes (w : World) (A : Option Addr) (c : Nat) (x : M4) (hr0 : Row w A (fun _ => True) (bcells (encM x))) (hl : (encM x).length ≤ c) (_hc : c ≤ maxLen) (hx : mayB x = true) :
    Calls Tryd.prog 26 #[.slice A (encM x).length c] w fun e w' => e = .returned (.tuple #[magg x, .bool true]) ∧ Kp w w' := by
  have hfit := may_fits hx
  have HR := Lib.hid (show Row w A (fun b => b < w.heap.size) (bcells (encM x)) from hr0.lt.mono fun b _ hb => hb.2)
  have hl40 := encM_len hfit
  have HM := Lib.hid (show ∀ w2, Calls Tryd.prog 11 #[magg x] w2 fun e w' => e = .returned (.bool true) ∧ Kp w2 w' from fun w2 => (mmay_any w2 x).mono fun e w' h => ⟨by rw [h.1, hx], h.2⟩)
  have HZ := Lib.hid (allZ_encM hfit)
  have HE := Lib.hid (show numsM x = [x.boot, x.epoch, x.ready, frzZ x.frozen] from rfl)
  clear hr0 hx hfit
  obtain ⟨N, hN⟩ : ∃ N, (encM x).length = N := ⟨_, rfl⟩
  have HALL := Lib.hid (show ∀ (w2 : World) (q : Nat), Kp w w2 → w.heap.size ≤ q → MBlk w2 (q + 1) m0 → FBlk w2 (q + 2) 0 → Row w2 (some ⟨q + 3, 0, none⟩) (fun b => b = q + 3) ((placesM q).map Value.pointer) →
      Calls Tryd.prog 37 #[.slice A N c, .slice (some ⟨q + 3, 0, none⟩) 4 4] w2 fun e w' => e = .returned (.tuple #[.int .i64 (N : Int), .int .i64 0]) ∧ Kp w w' ∧ MBlk w' (q + 1) ⟨x.boot, x.epoch, x.ready, false⟩ ∧ FBlk w' (q + 2) (frzZ x.frozen) ∧ Keeps (fun b => b ≠ q + 1 ∧ b ≠ q + 2) w2 w' from fun w2 q hk hq hm hf hp => by
    rw [← hN]
    refine (show Calls _ _ _ _ _ from all_any A (some ⟨q + 3, 0, none⟩) c 4 (fun b => b ≠ q + 1 ∧ b ≠ q + 2) (encM x) (placesM q) w2 (((HR.out.keep (hk.mono fun _ _ _ => trivial)).mono fun b _ (hb : b < w.heap.size) => by omega)) (hp.mono fun b _ (hb : b = q + 3) => by omega) (fun a ha => by
      simp only [placesM, List.mem_cons, Option.some.injEq, List.not_mem_nil, or_false] at ha
      rcases ha with rfl | rfl | rfl | rfl
      · exact ⟨⟨⟨_, hm.four.1⟩, hm.fz 0⟩, fun h => h.1 rfl⟩
      · exact ⟨⟨⟨_, hm.four.2.1⟩, hm.fz 1⟩, fun h => h.1 rfl⟩
      · exact ⟨⟨⟨_, hm.four.2.2.1⟩, hm.fz 2⟩, fun h => h.1 rfl⟩
      · exact ⟨⟨⟨_, cell_of_block hf 0⟩, unfrozen_of_block hf 0⟩, fun h => h.2 rfl⟩) (by omega) hl (by simp [placesM])).mono ?_
    rintro e w' ⟨h1, h2⟩
    have hl4 : (placesM q).length = 4 := rfl
    rw [hl4, HZ.out] at h1 h2
    have hks : Keeps (fun b => b ≠ q + 1 ∧ b ≠ q + 2) w2 w' := by
      rw [h2]
      exact stores_keeps _ (placesM q) _ w2 w2 (fun a ha => by
        simp only [placesM, List.mem_cons, Option.some.injEq, List.not_mem_nil, or_false] at ha
        rcases ha with rfl | rfl | rfl | rfl
        · exact fun h => h.1 rfl
        · exact fun h => h.1 rfl
        · exact fun h => h.1 rfl
        · exact fun h => h.2 rfl) (Keeps.refl _ _)
    refine ⟨by rw [h1]; rfl, ((hk.mono fun _ _ _ => trivial).trans hks).mono fun b hb _ => by omega, ?_, ?_, hks⟩
    · rw [h2, HE.out]
      have a2 : MBlk (((w2.setCell ⟨q + 1, 0, none⟩ (.int .i64 x.boot)).setCell ⟨q + 1, 1, none⟩ (.int .i64 x.epoch)).setCell ⟨q + 1, 2, none⟩ (.int .i64 x.ready)) (q + 1) ⟨x.boot, x.epoch, x.ready, false⟩ := (block_setCell (block_setCell (block_setCell hm _) _) _).trans rfl
      exact a2.keep ((Keeps.refl (fun b => b ≠ q + 2) _).setCell (p := ⟨q + 2, 0, none⟩) (.inr (fun h => h rfl)) _) (by omega)
    · rw [h2, HE.out]
      have k3 : Keeps (fun b => b ≠ q + 1) w2 (((w2.setCell ⟨q + 1, 0, none⟩ (.int .i64 x.boot)).setCell ⟨q + 1, 1, none⟩ (.int .i64 x.epoch)).setCell ⟨q + 1, 2, none⟩ (.int .i64 x.ready)) :=
        (((Keeps.refl (fun b => b ≠ q + 1) w2).setCell (p := ⟨q + 1, 0, none⟩) (.inr (fun h => h rfl)) _).setCell (p := ⟨q + 1, 1, none⟩) (.inr (fun h => h rfl)) _).setCell (p := ⟨q + 1, 2, none⟩) (.inr (fun h => h rfl)) _
      exact (block_setCell (hf.keep k3 (by omega)) _).trans rfl)
  have HA := Lib.hid (show ∀ w2, w2 = (((w.alloc (.cells #[.int .i64 0, .int .i64 0, .int .i64 0, .bool false] 32)).alloc (.cells #[.int .i64 0, .int .i64 0, .int .i64 0, .bool false] 32)).alloc (.cells #[.int .i64 0] 2)).alloc (.cells #[.pointer (some ⟨w.heap.size + 1, 0, none⟩), .pointer (some ⟨w.heap.size + 1, 1, none⟩), .pointer (some ⟨w.heap.size + 1, 2, none⟩), .pointer (some ⟨w.heap.size + 2, 0, none⟩)] 81) →
      MBlk w2 w.heap.size m0 ∧ MBlk w2 (w.heap.size + 1) m0 ∧ FBlk w2 (w.heap.size + 2) 0 ∧ Row w2 (some ⟨w.heap.size + 3, 0, none⟩) (fun b => b = w.heap.size + 3) ((placesM w.heap.size).map Value.pointer) ∧ Kp w w2 from by
    rintro w2 rfl
    have s1 : ∀ o, (w.alloc o).heap.size = w.heap.size + 1 := fun o => by simp
    have s2 : ∀ o o', ((w.alloc o).alloc o').heap.size = w.heap.size + 2 := fun o o' => by simp
    have s3 : ∀ o o' o'', (((w.alloc o).alloc o').alloc o'').heap.size = w.heap.size + 3 := fun o o' o'' => by simp
    have h1 : MBlk (w.alloc (.cells #[.int .i64 0, .int .i64 0, .int .i64 0, .bool false] 32)) w.heap.size m0 := heap_alloc_new w _
    have h2 := heap_alloc_new (w.alloc (.cells #[.int .i64 0, .int .i64 0, .int .i64 0, .bool false] 32)) (.cells #[.int .i64 0, .int .i64 0, .int .i64 0, .bool false] 32)
    rw [s1] at h2
    have h3 := heap_alloc_new ((w.alloc (.cells #[.int .i64 0, .int .i64 0, .int .i64 0, .bool false] 32)).alloc (.cells #[.int .i64 0, .int .i64 0, .int .i64 0, .bool false] 32)) (.cells #[.int .i64 0] 2)
    rw [s2] at h3
    have h2' : MBlk ((w.alloc (.cells #[.int .i64 0, .int .i64 0, .int .i64 0, .bool false] 32)).alloc (.cells #[.int .i64 0, .int .i64 0, .int .i64 0, .bool false] 32)) (w.heap.size + 1) m0 := h2
    have h3' : FBlk (((w.alloc (.cells #[.int .i64 0, .int .i64 0, .int .i64 0, .bool false] 32)).alloc (.cells #[.int .i64 0, .int .i64 0, .int .i64 0, .bool false] 32)).alloc (.cells #[.int .i64 0] 2)) (w.heap.size + 2) 0 := h3
    exact ⟨h1.keep (F := fun _ => True) ((((Keeps.refl _ _).alloc _).alloc _).alloc _) trivial, h2'.keep (F := fun _ => True) (((Keeps.refl _ _).alloc _).alloc _) trivial, h3'.keep (F := fun _ => True) ((Keeps.refl _ _).alloc _) trivial,
      Row.fresh (F := fun b => b = w.heap.size + 3) _ #[.pointer (some ⟨w.heap.size + 1, 0, none⟩), .pointer (some ⟨w.heap.size + 1, 1, none⟩), .pointer (some ⟨w.heap.size + 1, 2, none⟩), .pointer (some ⟨w.heap.size + 2, 0, none⟩)] 81 (0, 0) _ (s3 _ _ _).symm rfl ((placesM w.heap.size).map Value.pointer) rfl, ((((Keeps.refl _ _).alloc _).alloc _).alloc _).alloc _⟩)
  have HN := Lib.hid hN
  rw [hN]
  have hNm : N ≤ 40 := by omega
  clear hl _hc hN hl40 HZ HE HR
  obtain ⟨bo, ep, re, fr⟩ := x
  go_enter Tryd.func26, Tryd.ntmps26
  go_wp2_with fail
  obtain ⟨a1, a2, a3, a4, a5⟩ := HA.out _ rfl
  obtain ⟨q, hq⟩ : ∃ q, w.heap.size = q := ⟨_, rfl⟩
  rw [hq] at a1 a2 a3 a4 a5 ⊢
  have HGQ := Lib.hid (Nat.le_of_eq hq)
  generalize World.alloc (World.alloc (World.alloc (World.alloc _ _) _) _) _ = w1 at a1 a2 a3 a4 a5 ⊢
  have HC := Lib.hid (HALL.out w1 q a5 HGQ.out a2 a3 a4)
  have H0 := Lib.hid a1
  clear hq HA a1 a2 a3 a4 a5 HALL
  refine (show Calls _ _ _ _ _ from HC.out).mono ?_
  rintro e w2 ⟨rfl, hk, hm, hf, hks⟩
  replace H0 := Lib.hid (H0.out.keep hks (by omega))
  have HK := Lib.hid hk
  have HMB := Lib.hid hm
  have HFB := Lib.hid hf
  clear hk hm hf hks HC
  have t2 : ((N : Int) != (N : Int)) = false := by simp
  cases fr with
  | false =>
    have f0 : w2.cell? ⟨q + 2, 0, none⟩ = some (.int .i64 0) := cell_of_block HFB.out 0
    have c3 := HMB.out.four.2.2.2
    have d3 := HMB.out.fz 3
    simp only at c3
    have HW3 := Lib.hid (show ∀ w3, w3 = w2.setCell ⟨q + 1, 3, none⟩ (.bool false) → MBlk w3 (q + 1) ⟨bo, ep, re, false⟩ ∧ FBlk w3 (q + 2) 0 ∧ MBlk w3 q m0 ∧ Kp w w3 from by
      rintro w3 rfl
      have kk : ∀ F : Nat → Prop, ¬ F (q + 1) → Keeps F w2 (w2.setCell ⟨q + 1, 3, none⟩ (.bool false)) := fun F hF => (Keeps.refl F w2).setCell (p := ⟨q + 1, 3, none⟩) (.inr hF) _
      exact ⟨(block_setCell HMB.out _).trans rfl, HFB.out.keep (kk (fun b => b ≠ q + 1) (fun h => h rfl)) (by omega), H0.out.keep (kk (fun b => b ≠ q + 1) (fun h => h rfl)) (by omega), HK.out.setCell (p := ⟨q + 1, 3, none⟩) (.inl (show w.heap.size ≤ q + 1 from by have := HGQ.out; omega)) _⟩)
    clear HMB HFB H0 HK
    go_upto_region 5 with fail
    obtain ⟨a1, a2, a3, a4⟩ := HW3.out _ rfl
    generalize World.setCell w2 _ _ = w3 at a1 a2 a3 a4 ⊢
    have HMB := Lib.hid a1
    have H0 := Lib.hid a3
    have HK := Lib.hid a4
    have g0 : w3.cell? ⟨q + 2, 0, none⟩ = some (.int .i64 0) := cell_of_block a2 0
    have c0 := a1.four.1
    have c1 := a1.four.2.1
    have c2 := a1.four.2.2.1
    have c3 := a1.four.2.2.2
    simp only at c0 c1 c2 c3
    clear a1 a2 a3 a4 f0 d3 HW3
    have HMM := Lib.hid (show ∀ w2, Calls Tryd.prog 11 #[.agg #[.int .i64 bo, .int .i64 ep, .int .i64 re, .bool false]] w2 fun e w' => e = .returned (.bool true) ∧ Kp w2 w' from HM.out)
    clear HM
    go_wp2_with fail
    refine (show Calls _ _ _ _ _ from HMM.out w3).mono ?_
    rintro e w4 ⟨rfl, hk4⟩
    replace HMB := Lib.hid (HMB.out.keep hk4 trivial)
    replace H0 := Lib.hid (H0.out.keep hk4 trivial)
    replace HK := Lib.hid (HK.out.trans hk4)
    clear hk4 HMM c0 c1 c2 c3 g0
    have c0 := HMB.out.four.1
    have c1 := HMB.out.four.2.1
    have c2 := HMB.out.four.2.2.1
    have c3 := HMB.out.four.2.2.2
    have b0 := H0.out.four.1
    have b1 := H0.out.four.2.1
    have b2 := H0.out.four.2.2.1
    have b3 := H0.out.four.2.2.2
    have d0 := H0.out.fz 0
    have d1 := H0.out.fz 1
    have d2 := H0.out.fz 2
    have d3 := H0.out.fz 3
    simp only at c0 c1 c2 c3
    simp only [m0] at b0 b1 b2 b3
    go_wp2_with fail
    have hb := H0.out.set4 ⟨bo, ep, re, false⟩
    have hk : Kp w ((((w4.setCell ⟨q, 0, none⟩ (.int .i64 bo)).setCell ⟨q, 1, none⟩ (.int .i64 ep)).setCell ⟨q, 2, none⟩ (.int .i64 re)).setCell ⟨q, 3, none⟩ (.bool false)) :=
      (((HK.out.setCell (p := ⟨q, 0, none⟩) (.inl HGQ.out) _).setCell (p := ⟨q, 1, none⟩) (.inl HGQ.out) _).setCell (p := ⟨q, 2, none⟩) (.inl HGQ.out) _).setCell (p := ⟨q, 3, none⟩) (.inl HGQ.out) _
    refine bodyPost_ret (v := .tuple #[.agg #[.int .i64 bo, .int .i64 ep, .int .i64 re, .bool false], .bool true]) ?_ rfl ⟨rfl, hk⟩
    generalize World.setCell (World.setCell (World.setCell (World.setCell w4 _ _) _ _) _ _) _ _ = W6 at hb ⊢
    have e0 := hb.four.1
    have e1 := hb.four.2.1
    have e2 := hb.four.2.2.1
    have e3 := hb.four.2.2.2
    simp only at e0 e1 e2 e3
    simp [results, Tryd.results26, go_sem, e0, e1, e2, e3]
  | true =>
    have f0 : w2.cell? ⟨q + 2, 0, none⟩ = some (.int .i64 1) := cell_of_block HFB.out 0
    have c3 := HMB.out.four.2.2.2
    have d3 := HMB.out.fz 3
    simp only at c3
    have HW3 := Lib.hid (show ∀ w3, w3 = w2.setCell ⟨q + 1, 3, none⟩ (.bool true) → MBlk w3 (q + 1) ⟨bo, ep, re, true⟩ ∧ FBlk w3 (q + 2) 1 ∧ MBlk w3 q m0 ∧ Kp w w3 from by
      rintro w3 rfl
      have kk : ∀ F : Nat → Prop, ¬ F (q + 1) → Keeps F w2 (w2.setCell ⟨q + 1, 3, none⟩ (.bool true)) := fun F hF => (Keeps.refl F w2).setCell (p := ⟨q + 1, 3, none⟩) (.inr hF) _
      exact ⟨(block_setCell HMB.out _).trans rfl, HFB.out.keep (kk (fun b => b ≠ q + 1) (fun h => h rfl)) (by omega), H0.out.keep (kk (fun b => b ≠ q + 1) (fun h => h rfl)) (by omega), HK.out.setCell (p := ⟨q + 1, 3, none⟩) (.inl (show w.heap.size ≤ q + 1 from by have := HGQ.out; omega)) _⟩)
    clear HMB HFB H0 HK
    go_upto_region 5 with fail
    obtain ⟨a1, a2, a3, a4⟩ := HW3.out _ rfl
    generalize World.setCell w2 _ _ = w3 at a1 a2 a3 a4 ⊢
    have HMB := Lib.hid a1
    have H0 := Lib.hid a3
    have HK := Lib.hid a4
    have g0 : w3.cell? ⟨q + 2, 0, none⟩ = some (.int .i64 1) := cell_of_block a2 0
    have c0 := a1.four.1
    have c1 := a1.four.2.1
    have c2 := a1.four.2.2.1
    have c3 := a1.four.2.2.2
    simp only at c0 c1 c2 c3
    clear a1 a2 a3 a4 f0 d3 HW3
    have HMM := Lib.hid (show ∀ w2, Calls Tryd.prog 11 #[.agg #[.int .i64 bo, .int .i64 ep, .int .i64 re, .bool true]] w2 fun e w' => e = .returned (.bool true) ∧ Kp w2 w' from HM.out)
    clear HM
    go_wp2_with fail
    refine (show Calls _ _ _ _ _ from HMM.out w3).mono ?_
    rintro e w4 ⟨rfl, hk4⟩
    replace HMB := Lib.hid (HMB.out.keep hk4 trivial)
    replace H0 := Lib.hid (H0.out.keep hk4 trivial)
    replace HK := Lib.hid (HK.out.trans hk4)
    clear hk4 HMM c0 c1 c2 c3 g0
    have c0 := HMB.out.four.1
    have c1 := HMB.out.four.2.1
    have c2 := HMB.out.four.2.2.1
    have c3 := HMB.out.four.2.2.2
    have b0 := H0.out.four.1
    have b1 := H0.out.four.2.1
    have b2 := H0.out.four.2.2.1
    have b3 := H0.out.four.2.2.2
    have d0 := H0.out.fz 0
    have d1 := H0.out.fz 1
    have d2 := H0.out.fz 2
    have d3 := H0.out.fz 3
    simp only at c0 c1 c2 c3
    simp only [m0] at b0 b1 b2 b3
    go_wp2_with fail
    have hb := H0.out.set4 ⟨bo, ep, re, true⟩
    have hk : Kp w ((((w4.setCell ⟨q, 0, none⟩ (.int .i64 bo)).setCell ⟨q, 1, none⟩ (.int .i64 ep)).setCell ⟨q, 2, none⟩ (.int .i64 re)).setCell ⟨q, 3, none⟩ (.bool true)) :=
      (((HK.out.setCell (p := ⟨q, 0, none⟩) (.inl HGQ.out) _).setCell (p := ⟨q, 1, none⟩) (.inl HGQ.out) _).setCell (p := ⟨q, 2, none⟩) (.inl HGQ.out) _).setCell (p := ⟨q, 3, none⟩) (.inl HGQ.out) _
    refine bodyPost_ret (v := .tuple #[.agg #[.int .i64 bo, .int .i64 ep, .int .i64 re, .bool true], .bool true]) ?_ rfl ⟨rfl, hk⟩
    generalize World.setCell (World.setCell (World.setCell (World.setCell w4 _ _) _ _) _ _) _ _ = W6 at hb ⊢
    have e0 := hb.four.1
    have e1 := hb.four.2.1
    have e2 := hb.four.2.2.1
    have e3 := hb.four.2.2.2
    simp only at e0 e1 e2 e3
    simp [results, Tryd.results26, go_sem, e0, e1, e2, e3]
end Go.Proofs.YtmnjdlnjhomhnaaDoor
