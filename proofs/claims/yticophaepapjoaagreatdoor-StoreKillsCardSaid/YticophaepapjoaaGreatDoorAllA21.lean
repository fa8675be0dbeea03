/-
  MtCode, SuperSaves, SuperMake, MtKeep: texts of mine, joined.
-/
import Derived.Test.YticophaepapjoaaGreatDoorAllA18
import Derived.Test.YticophaepapjoaaGreatDoorAllA08
import Derived.Test.YticophaepapjoaaGreatDoorAllA20
import Derived.Deep.CutRange
import Derived.Test.YticophaepapjoaaGreatDoorAllA13
import Derived.Test.YticophaepapjoaaGreatDoorAllA15
import Derived.RegionTactic
import Derived.ChangeAlike
import Derived.BigRegion
import Derived.StillTailTactics
import Derived.Test.YticophaepapjoaaGreatDoorAllA14
import Derived.Deep.RegionWith
namespace Go.Proofs.YticophaepapjoaaGreatDoor
open Go Go.RowKit Go.Joins
def frzZ (b : Bool) : Int := if b then 1 else 0
def numsM (x : M4) : List Int := [x.boot, x.epoch, x.ready, frzZ x.frozen]
def encM (x : M4) : List UInt8 := putsZ (numsM x)
theorem numsM_fit {x : M4} (hx : x.Fits) : ∀ n ∈ numsM x, -9223372036854775808 ≤ n ∧ n < 9223372036854775808 := fun n hn => by
 have := hx.b1; have := hx.b2; have := hx.e1; have := hx.e2; have := hx.r1; have := hx.r2
 simp only [numsM, List.mem_cons, List.not_mem_nil, or_false] at hn
 rcases hn with rfl | rfl | rfl | rfl
 ·omega
 ·omega
 ·omega
 ·unfold frzZ; cases x.frozen <;> decide
theorem encM_len {x : M4} (hx : x.Fits) : (encM x).length ≤ 40 := putsZ_len (numsM x) (numsM_fit hx)
theorem may_fits {x : M4} (h : mayB x = true) : x.Fits := by
 unfold mayB small12 at h
 simp only [Bool.and_eq_true, decide_eq_true_eq] at h
 obtain ⟨⟨h1, h2, h3, h4, h5, h6⟩, -⟩ := h
 exact ⟨by omega, by omega, by omega, by omega, by omega, by omega⟩
theorem own_bytes {w : World} {B : Nat} {v : Value} {l : List UInt8} (h : OwnB w B v l) : ∃ A c, v = .slice A l.length c ∧ l.length ≤ c ∧ c ≤ maxLen ∧ (A = none → c = 0) ∧ Row w A (fun b => B ≤ b ∧ b < w.heap.size) (bcells l) := by
 unfold OwnB at h
 have key : ∃ A c, v = .slice A l.length c ∧ l.length ≤ c ∧ c ≤ maxLen ∧ (A = none → c = 0) := by
  rcases h.2 with ⟨h', h0⟩ | ⟨g', cap', cur, h', _, _, h1, h2, _⟩
  ·exact ⟨none, 0, by rw [h0]; exact h', by omega, Nat.zero_le _, fun _ => rfl⟩
  ·exact ⟨_, _, h', h1, h2, fun e => by cases e⟩
 obtain ⟨A, c, rfl, h1, h2, h3⟩ := key
 refine ⟨A, c, rfl, h1, h2, h3, ?_⟩
 have e : l.length = (bcells l).length := by rw [bcells_len]
 rw [e] at h
 exact Row.of_own h
def EncPost (w : World) (l : List UInt8) (e : Ending) (w' : World) : Prop := ∃ A c, e = .returned (.slice A l.length c) ∧ l.length ≤ c ∧ c ≤ maxLen ∧ (A = none → c = 0) ∧ Row w' A (fun b => w.heap.size ≤ b ∧ b < w'.heap.size) (bcells l) ∧ Kp w w'
set_option maxRecDepth 100000 in
set_option maxHeartbeats 1000000 in
theorem mencode_any (w : World) (x : M4) (hx : x.Fits) : Calls Tryz.prog 51 #[magg x] w (EncPost w (encM x)) := by
 have HN := Lib.hid (numsM_fit hx)
 clear hx
 have HP := Lib.hid (show ∀ (w2 : World) (q : Nat), Kp w w2 → Row w2 (some ⟨q, 0, none⟩) (fun _ => True) ((numsM x).map (Value.int .i64)) → Calls Tryz.prog 79 #[.slice none 0 0, .slice (some ⟨q, 0, none⟩) 4 4] w2 (EncPost w (encM x)) from fun w2 q hk hr => by
  refine (show Calls _ _ _ _ _ from put_any none (some ⟨q, 0, none⟩) 0 4 (fun _ => True) (fun _ => True) [] (numsM x) w2 (Row.nil _ _ _) hr HN.out (by simp) (by simp [numsM])).mono ?_
  rintro e w' ⟨v, rfl, ho, hk2⟩
  obtain ⟨A, c, rfl, h1, h2, h3, h4⟩ := own_bytes ho
  exact ⟨A, c, rfl, h1, h2, h3, h4.mono fun b _ hb => ⟨Nat.le_trans hk.size hb.1, hb.2⟩, hk.trans hk2⟩)
 have HE := Lib.hid (show numsM x = [x.boot, x.epoch, x.ready, frzZ x.frozen] from rfl)
 generalize encM x = l at HP ⊢
 obtain ⟨bo, ep, re, fr⟩ := x
 generalize numsM ⟨bo, ep, re, fr⟩ = ns at HP HE
 have HR := Lib.hid (show ∀ f : Int, frzZ fr = f → Row ((w.alloc (.cells #[.int .i64 bo, .int .i64 ep, .int .i64 re, .bool fr] 32)).alloc (.cells #[.int .i64 bo, .int .i64 ep, .int .i64 re, .int .i64 f] 2)) (some ⟨w.heap.size + 1, 0, none⟩) (fun _ => True) (ns.map (Value.int .i64)) from fun f hf =>
  Row.fresh _ #[.int .i64 bo, .int .i64 ep, .int .i64 re, .int .i64 f] 2 (0, 0) _ (by simp) trivial _ (by rw [HE.out, ← hf]; rfl))
 have HK := Lib.hid (show ∀ o o', Kp w ((w.alloc o).alloc o') from fun o o' => ((Keeps.refl _ w).alloc _).alloc _)
 unfold magg
 cases fr with
 | false =>
  go_enter Tryz.func51, Tryz.ntmps51
  go_wp2_with fail
  refine (show Calls _ _ _ _ _ from HP.out _ _ (HK.out _ _) (HR.out 0 rfl)).mono ?_
  rintro e w2 ⟨A, c, rfl, h1, h2, h3, h4, h5⟩
  have HQ := Lib.hid (show EncPost w l (.returned (.slice A l.length c)) w2 from ⟨A, c, rfl, h1, h2, h3, h4, h5⟩)
  clear h1 h2 h3 h4 h5 HP HR HK HE HN
  go_wp2_with fail
  go_ret
  exact HQ.out
 | true =>
  go_enter Tryz.func51, Tryz.ntmps51
  go_wp2_with fail
  refine (show Calls _ _ _ _ _ from HP.out _ _ (HK.out _ _) (HR.out 1 rfl)).mono ?_
  rintro e w2 ⟨A, c, rfl, h1, h2, h3, h4, h5⟩
  have HQ := Lib.hid (show EncPost w l (.returned (.slice A l.length c)) w2 from ⟨A, c, rfl, h1, h2, h3, h4, h5⟩)
  clear h1 h2 h3 h4 h5 HP HR HK HE HN
  go_wp2_with fail
  go_ret
  exact HQ.out
def placesM (q : Nat) : List (Option Addr) := [some ⟨q + 1, 0, none⟩, some ⟨q + 1, 1, none⟩, some ⟨q + 1, 2, none⟩, some ⟨q + 2, 0, none⟩]
theorem allZ_encM {x : M4} (hx : x.Fits) : allZ 4 (encM x) = (numsM x, (encM x).length, 0) := by
 have hz := allZ_puts (numsM x) [] (numsM_fit hx)
 rw [List.append_nil] at hz
 exact hz
def FBlk (w : World) (g : Nat) (z : Int) : Prop := w.heap[g]? = some (.cells #[.int .i64 z] 2 (0, 0))
theorem FBlk.keep {w w' : World} {g : Nat} {z : Int} {F : Nat → Prop} (h : FBlk w g z) (hk : Keeps F w w') (hq : F g) : FBlk w' g z := (hk.block g hq (Array.getElem?_eq_some_iff.1 h).1).trans h
set_option maxRecDepth 100000 in
set_option maxHeartbeats 2000000 in
theorem mdecode_yes (w : World) (A : Option Addr) (c : Nat) (x : M4) (hr0 : Row w A (fun _ => True) (bcells (encM x))) (hl : (encM x).length ≤ c) (_hc : c ≤ maxLen) (hx : mayB x = true) :
  Calls Tryz.prog 83 #[.slice A (encM x).length c] w fun e w' => e = .returned (.tuple #[magg x, .bool true]) ∧ Kp w w' := by
 have hfit := may_fits hx
 have HR := Lib.hid (show Row w A (fun b => b < w.heap.size) (bcells (encM x)) from hr0.lt.mono fun b _ hb => hb.2)
 have hl40 := encM_len hfit
 have HM := Lib.hid (show ∀ w2, Calls Tryz.prog 49 #[magg x] w2 fun e w' => e = .returned (.bool true) ∧ Kp w2 w' from fun w2 => (mmay_any w2 x).mono fun e w' h => ⟨by rw [h.1, hx], h.2⟩)
 have HZ := Lib.hid (allZ_encM hfit)
 have HE := Lib.hid (show numsM x = [x.boot, x.epoch, x.ready, frzZ x.frozen] from rfl)
 clear hr0 hx hfit
 obtain ⟨N, hN⟩ : ∃ N, (encM x).length = N := ⟨_, rfl⟩
 have HALL := Lib.hid (show ∀ (w2 : World) (q : Nat), Kp w w2 → w.heap.size ≤ q → MBlk w2 (q + 1) m0 → FBlk w2 (q + 2) 0 → Row w2 (some ⟨q + 3, 0, none⟩) (fun b => b = q + 3) ((placesM q).map Value.pointer) →
   Calls Tryz.prog 117 #[.slice A N c, .slice (some ⟨q + 3, 0, none⟩) 4 4] w2 fun e w' => e = .returned (.tuple #[.int .i64 (N : Int), .int .i64 0]) ∧ Kp w w' ∧ MBlk w' (q + 1) ⟨x.boot, x.epoch, x.ready, false⟩ ∧ FBlk w' (q + 2) (frzZ x.frozen) ∧ Keeps (fun b => b ≠ q + 1 ∧ b ≠ q + 2) w2 w' from fun w2 q hk hq hm hf hp => by
  rw [← hN]
  refine (show Calls _ _ _ _ _ from all_any A (some ⟨q + 3, 0, none⟩) c 4 (fun b => b ≠ q + 1 ∧ b ≠ q + 2) (encM x) (placesM q) w2 (((HR.out.keep (hk.mono fun _ _ _ => trivial)).mono fun b _ (hb : b < w.heap.size) => by omega)) (hp.mono fun b _ (hb : b = q + 3) => by omega) (fun a ha => by
   simp only [placesM, List.mem_cons, Option.some.injEq, List.not_mem_nil, or_false] at ha
   rcases ha with rfl | rfl | rfl | rfl
   ·exact ⟨⟨⟨_, hm.four.1⟩, hm.fz 0⟩, fun h => h.1 rfl⟩
   ·exact ⟨⟨⟨_, hm.four.2.1⟩, hm.fz 1⟩, fun h => h.1 rfl⟩
   ·exact ⟨⟨⟨_, hm.four.2.2.1⟩, hm.fz 2⟩, fun h => h.1 rfl⟩
   ·exact ⟨⟨⟨_, cell_of_block hf 0⟩, unfrozen_of_block hf 0⟩, fun h => h.2 rfl⟩) (by omega) hl (by simp [placesM])).mono ?_
  rintro e w' ⟨h1, h2⟩
  have hl4 : (placesM q).length = 4 := rfl
  rw [hl4, HZ.out] at h1 h2
  have hks : Keeps (fun b => b ≠ q + 1 ∧ b ≠ q + 2) w2 w' := by
   rw [h2]
   exact stores_keeps _ (placesM q) _ w2 w2 (fun a ha => by
    simp only [placesM, List.mem_cons, Option.some.injEq, List.not_mem_nil, or_false] at ha
    rcases ha with rfl | rfl | rfl | rfl
    ·exact fun h => h.1 rfl
    ·exact fun h => h.1 rfl
    ·exact fun h => h.1 rfl
    ·exact fun h => h.2 rfl) (Keeps.refl _ _)
  refine ⟨by rw [h1]; rfl, ((hk.mono fun _ _ _ => trivial).trans hks).mono fun b hb _ => by omega, ?_, ?_, hks⟩
  ·rw [h2, HE.out]
   have a2 : MBlk (((w2.setCell ⟨q + 1, 0, none⟩ (.int .i64 x.boot)).setCell ⟨q + 1, 1, none⟩ (.int .i64 x.epoch)).setCell ⟨q + 1, 2, none⟩ (.int .i64 x.ready)) (q + 1) ⟨x.boot, x.epoch, x.ready, false⟩ := (block_setCell (block_setCell (block_setCell hm _) _) _).trans rfl
   exact a2.keep ((Keeps.refl (fun b => b ≠ q + 2) _).setCell (p := ⟨q + 2, 0, none⟩) (.inr (fun h => h rfl)) _) (by omega)
  ·rw [h2, HE.out]
   have k3 : Keeps (fun b => b ≠ q + 1) w2 (((w2.setCell ⟨q + 1, 0, none⟩ (.int .i64 x.boot)).setCell ⟨q + 1, 1, none⟩ (.int .i64 x.epoch)).setCell ⟨q + 1, 2, none⟩ (.int .i64 x.ready)) :=
    (((Keeps.refl (fun b => b ≠ q + 1) w2).setCell (p := ⟨q + 1, 0, none⟩) (.inr (fun h => h rfl)) _).setCell (p := ⟨q + 1, 1, none⟩) (.inr (fun h => h rfl)) _).setCell (p := ⟨q + 1, 2, none⟩) (.inr (fun h => h rfl)) _
   exact (block_setCell (hf.keep k3 (by omega)) _).trans rfl)
 have HA := Lib.hid (show ∀ w2, w2 = (((w.alloc (.cells #[.int .i64 0, .int .i64 0, .int .i64 0, .bool false] 32)).alloc (.cells #[.int .i64 0, .int .i64 0, .int .i64 0, .bool false] 32)).alloc (.cells #[.int .i64 0] 2)).alloc (.cells #[.pointer (some ⟨w.heap.size + 1, 0, none⟩), .pointer (some ⟨w.heap.size + 1, 1, none⟩), .pointer (some ⟨w.heap.size + 1, 2, none⟩), .pointer (some ⟨w.heap.size + 2, 0, none⟩)] 190) →
   MBlk w2 w.heap.size m0 ∧ MBlk w2 (w.heap.size + 1) m0 ∧ FBlk w2 (w.heap.size + 2) 0 ∧ Row w2 (some ⟨w.heap.size + 3, 0, none⟩) (fun b => b = w.heap.size + 3) ((placesM w.heap.size).map Value.pointer) ∧ Kp w w2 from by
  rintro w2 rfl
  have s1 : ∀ o, (w.alloc o).heap.size = w.heap.size + 1 := fun o => by simp
  have s2 : ∀ o o', ((w.alloc o).alloc o').heap.size = w.heap.size + 2 := fun o o' => by simp
  have s3 : ∀ o o' o'', (((w.alloc o).alloc o').alloc o'').heap.size = w.heap.size + 3 := fun o o' o'' => by simp
  have h1 : MBlk (w.alloc (.cells #[.int .i64 0, .int .i64 0, .int .i64 0, .bool false] 32)) w.heap.size m0 := heap_alloc_new w _
  have h2 := heap_alloc_new (w.alloc (.cells #[.int .i64 0, .int .i64 0, .int .i64 0, .bool false] 32)) (.cells #[.int .i64 0, .int .i64 0, .int .i64 0, .bool false] 32)
  rw [s1] at h2
  have h3 := heap_alloc_new ((w.alloc (.cells #[.int .i64 0, .int .i64 0, .int .i64 0, .bool false] 32)).alloc (.cells #[.int .i64 0, .int .i64 0, .int .i64 0, .bool false] 32)) (.cells #[.int .i64 0] 2)
  rw [s2] at h3
  have h2' : MBlk ((w.alloc (.cells #[.int .i64 0, .int .i64 0, .int .i64 0, .bool false] 32)).alloc (.cells #[.int .i64 0, .int .i64 0, .int .i64 0, .bool false] 32)) (w.heap.size + 1) m0 := h2
  have h3' : FBlk (((w.alloc (.cells #[.int .i64 0, .int .i64 0, .int .i64 0, .bool false] 32)).alloc (.cells #[.int .i64 0, .int .i64 0, .int .i64 0, .bool false] 32)).alloc (.cells #[.int .i64 0] 2)) (w.heap.size + 2) 0 := h3
  exact ⟨h1.keep (F := fun _ => True) ((((Keeps.refl _ _).alloc _).alloc _).alloc _) trivial, h2'.keep (F := fun _ => True) (((Keeps.refl _ _).alloc _).alloc _) trivial, h3'.keep (F := fun _ => True) ((Keeps.refl _ _).alloc _) trivial,
   Row.fresh (F := fun b => b = w.heap.size + 3) _ #[.pointer (some ⟨w.heap.size + 1, 0, none⟩), .pointer (some ⟨w.heap.size + 1, 1, none⟩), .pointer (some ⟨w.heap.size + 1, 2, none⟩), .pointer (some ⟨w.heap.size + 2, 0, none⟩)] 190 (0, 0) _ (s3 _ _ _).symm rfl ((placesM w.heap.size).map Value.pointer) rfl, ((((Keeps.refl _ _).alloc _).alloc _).alloc _).alloc _⟩)
 have HN := Lib.hid hN
 rw [hN]
 have hNm : N ≤ 40 := by omega
 clear hl _hc hN hl40 HZ HE HR
 obtain ⟨bo, ep, re, fr⟩ := x
 go_enter Tryz.func83, Tryz.ntmps83
 go_wp2_with fail
 obtain ⟨a1, a2, a3, a4, a5⟩ := HA.out _ rfl
 obtain ⟨q, hq⟩ : ∃ q, w.heap.size = q := ⟨_, rfl⟩
 rw [hq] at a1 a2 a3 a4 a5 ⊢
 have HGQ := Lib.hid (Nat.le_of_eq hq)
 generalize World.alloc (World.alloc (World.alloc (World.alloc _ _) _) _) _ = w1 at a1 a2 a3 a4 a5 ⊢
 have HC := Lib.hid (HALL.out w1 q a5 HGQ.out a2 a3 a4)
 have H0 := Lib.hid a1
 clear hq HA a1 a2 a3 a4 a5 HALL
 refine (show Calls _ _ _ _ _ from HC.out).mono ?_
 rintro e w2 ⟨rfl, hk, hm, hf, hks⟩
 replace H0 := Lib.hid (H0.out.keep hks (by omega))
 have HK := Lib.hid hk
 have HMB := Lib.hid hm
 have HFB := Lib.hid hf
 clear hk hm hf hks HC
 have t2 : ((N : Int) != (N : Int)) = false := by simp
 cases fr with
 | false =>
  have f0 : w2.cell? ⟨q + 2, 0, none⟩ = some (.int .i64 0) := cell_of_block HFB.out 0
  have c3 := HMB.out.four.2.2.2
  have d3 := HMB.out.fz 3
  simp only at c3
  have HW3 := Lib.hid (show ∀ w3, w3 = w2.setCell ⟨q + 1, 3, none⟩ (.bool false) → MBlk w3 (q + 1) ⟨bo, ep, re, false⟩ ∧ FBlk w3 (q + 2) 0 ∧ MBlk w3 q m0 ∧ Kp w w3 from by
   rintro w3 rfl
   have kk : ∀ F : Nat → Prop, ¬ F (q + 1) → Keeps F w2 (w2.setCell ⟨q + 1, 3, none⟩ (.bool false)) := fun F hF => (Keeps.refl F w2).setCell (p := ⟨q + 1, 3, none⟩) (.inr hF) _
   exact ⟨(block_setCell HMB.out _).trans rfl, HFB.out.keep (kk (fun b => b ≠ q + 1) (fun h => h rfl)) (by omega), H0.out.keep (kk (fun b => b ≠ q + 1) (fun h => h rfl)) (by omega), HK.out.setCell (p := ⟨q + 1, 3, none⟩) (.inl (show w.heap.size ≤ q + 1 from by have := HGQ.out; omega)) _⟩)
  clear HMB HFB H0 HK
  go_upto_region 5 with fail
  obtain ⟨a1, a2, a3, a4⟩ := HW3.out _ rfl
  generalize World.setCell w2 _ _ = w3 at a1 a2 a3 a4 ⊢
  have HMB := Lib.hid a1
  have H0 := Lib.hid a3
  have HK := Lib.hid a4
  have g0 : w3.cell? ⟨q + 2, 0, none⟩ = some (.int .i64 0) := cell_of_block a2 0
  have c0 := a1.four.1
  have c1 := a1.four.2.1
  have c2 := a1.four.2.2.1
  have c3 := a1.four.2.2.2
  simp only at c0 c1 c2 c3
  clear a1 a2 a3 a4 f0 d3 HW3
  have HMM := Lib.hid (show ∀ w2, Calls Tryz.prog 49 #[.agg #[.int .i64 bo, .int .i64 ep, .int .i64 re, .bool false]] w2 fun e w' => e = .returned (.bool true) ∧ Kp w2 w' from HM.out)
  clear HM
  go_wp2_with fail
  refine (show Calls _ _ _ _ _ from HMM.out w3).mono ?_
  rintro e w4 ⟨rfl, hk4⟩
  replace HMB := Lib.hid (HMB.out.keep hk4 trivial)
  replace H0 := Lib.hid (H0.out.keep hk4 trivial)
  replace HK := Lib.hid (HK.out.trans hk4)
  clear hk4 HMM c0 c1 c2 c3 g0
  have c0 := HMB.out.four.1
  have c1 := HMB.out.four.2.1
  have c2 := HMB.out.four.2.2.1
  have c3 := HMB.out.four.2.2.2
  have b0 := H0.out.four.1
  have b1 := H0.out.four.2.1
  have b2 := H0.out.four.2.2.1
  have b3 := H0.out.four.2.2.2
  have d0 := H0.out.fz 0
  have d1 := H0.out.fz 1
  have d2 := H0.out.fz 2
  have d3 := H0.out.fz 3
  simp only at c0 c1 c2 c3
  simp only [m0] at b0 b1 b2 b3
  go_wp2_with fail
  have hb := H0.out.set4 ⟨bo, ep, re, false⟩
  have hk : Kp w ((((w4.setCell ⟨q, 0, none⟩ (.int .i64 bo)).setCell ⟨q, 1, none⟩ (.int .i64 ep)).setCell ⟨q, 2, none⟩ (.int .i64 re)).setCell ⟨q, 3, none⟩ (.bool false)) :=
   (((HK.out.setCell (p := ⟨q, 0, none⟩) (.inl HGQ.out) _).setCell (p := ⟨q, 1, none⟩) (.inl HGQ.out) _).setCell (p := ⟨q, 2, none⟩) (.inl HGQ.out) _).setCell (p := ⟨q, 3, none⟩) (.inl HGQ.out) _
  refine bodyPost_ret (v := .tuple #[.agg #[.int .i64 bo, .int .i64 ep, .int .i64 re, .bool false], .bool true]) ?_ rfl ⟨rfl, hk⟩
  generalize World.setCell (World.setCell (World.setCell (World.setCell w4 _ _) _ _) _ _) _ _ = W6 at hb ⊢
  have e0 := hb.four.1
  have e1 := hb.four.2.1
  have e2 := hb.four.2.2.1
  have e3 := hb.four.2.2.2
  simp only at e0 e1 e2 e3
  simp [results, Tryz.results83, go_sem, e0, e1, e2, e3]
 | true =>
  have f0 : w2.cell? ⟨q + 2, 0, none⟩ = some (.int .i64 1) := cell_of_block HFB.out 0
  have c3 := HMB.out.four.2.2.2
  have d3 := HMB.out.fz 3
  simp only at c3
  have HW3 := Lib.hid (show ∀ w3, w3 = w2.setCell ⟨q + 1, 3, none⟩ (.bool true) → MBlk w3 (q + 1) ⟨bo, ep, re, true⟩ ∧ FBlk w3 (q + 2) 1 ∧ MBlk w3 q m0 ∧ Kp w w3 from by
   rintro w3 rfl
   have kk : ∀ F : Nat → Prop, ¬ F (q + 1) → Keeps F w2 (w2.setCell ⟨q + 1, 3, none⟩ (.bool true)) := fun F hF => (Keeps.refl F w2).setCell (p := ⟨q + 1, 3, none⟩) (.inr hF) _
   exact ⟨(block_setCell HMB.out _).trans rfl, HFB.out.keep (kk (fun b => b ≠ q + 1) (fun h => h rfl)) (by omega), H0.out.keep (kk (fun b => b ≠ q + 1) (fun h => h rfl)) (by omega), HK.out.setCell (p := ⟨q + 1, 3, none⟩) (.inl (show w.heap.size ≤ q + 1 from by have := HGQ.out; omega)) _⟩)
  clear HMB HFB H0 HK
  go_upto_region 5 with fail
  obtain ⟨a1, a2, a3, a4⟩ := HW3.out _ rfl
  generalize World.setCell w2 _ _ = w3 at a1 a2 a3 a4 ⊢
  have HMB := Lib.hid a1
  have H0 := Lib.hid a3
  have HK := Lib.hid a4
  have g0 : w3.cell? ⟨q + 2, 0, none⟩ = some (.int .i64 1) := cell_of_block a2 0
  have c0 := a1.four.1
  have c1 := a1.four.2.1
  have c2 := a1.four.2.2.1
  have c3 := a1.four.2.2.2
  simp only at c0 c1 c2 c3
  clear a1 a2 a3 a4 f0 d3 HW3
  have HMM := Lib.hid (show ∀ w2, Calls Tryz.prog 49 #[.agg #[.int .i64 bo, .int .i64 ep, .int .i64 re, .bool true]] w2 fun e w' => e = .returned (.bool true) ∧ Kp w2 w' from HM.out)
  clear HM
  go_wp2_with fail
  refine (show Calls _ _ _ _ _ from HMM.out w3).mono ?_
  rintro e w4 ⟨rfl, hk4⟩
  replace HMB := Lib.hid (HMB.out.keep hk4 trivial)
  replace H0 := Lib.hid (H0.out.keep hk4 trivial)
  replace HK := Lib.hid (HK.out.trans hk4)
  clear hk4 HMM c0 c1 c2 c3 g0
  have c0 := HMB.out.four.1
  have c1 := HMB.out.four.2.1
  have c2 := HMB.out.four.2.2.1
  have c3 := HMB.out.four.2.2.2
  have b0 := H0.out.four.1
  have b1 := H0.out.four.2.1
  have b2 := H0.out.four.2.2.1
  have b3 := H0.out.four.2.2.2
  have d0 := H0.out.fz 0
  have d1 := H0.out.fz 1
  have d2 := H0.out.fz 2
  have d3 := H0.out.fz 3
  simp only at c0 c1 c2 c3
  simp only [m0] at b0 b1 b2 b3
  go_wp2_with fail
  have hb := H0.out.set4 ⟨bo, ep, re, true⟩
  have hk : Kp w ((((w4.setCell ⟨q, 0, none⟩ (.int .i64 bo)).setCell ⟨q, 1, none⟩ (.int .i64 ep)).setCell ⟨q, 2, none⟩ (.int .i64 re)).setCell ⟨q, 3, none⟩ (.bool true)) :=
   (((HK.out.setCell (p := ⟨q, 0, none⟩) (.inl HGQ.out) _).setCell (p := ⟨q, 1, none⟩) (.inl HGQ.out) _).setCell (p := ⟨q, 2, none⟩) (.inl HGQ.out) _).setCell (p := ⟨q, 3, none⟩) (.inl HGQ.out) _
  refine bodyPost_ret (v := .tuple #[.agg #[.int .i64 bo, .int .i64 ep, .int .i64 re, .bool true], .bool true]) ?_ rfl ⟨rfl, hk⟩
  generalize World.setCell (World.setCell (World.setCell (World.setCell w4 _ _) _ _) _ _) _ _ = W6 at hb ⊢
  have e0 := hb.four.1
  have e1 := hb.four.2.1
  have e2 := hb.four.2.2.1
  have e3 := hb.four.2.2.2
  simp only at e0 e1 e2 e3
  simp [results, Tryz.results83, go_sem, e0, e1, e2, e3]
set_option maxRecDepth 100000 in
set_option maxHeartbeats 4000000 in
theorem ssave_yes (w : World) (hT : Taken w) (q p lat sp t : Nat) (x : List UInt8) (hb : SBlk w q p lat sp t x) (F : Foot) (s : SDev) (hd : DAt w p F s) (hq : ¬ F.all q) (HTM : ¬ F.M 0) (hsp : sp < s.now.length) (_hlat : lat ≤ 4096) (ht : t ≤ 549755813888) (hcalls : s.calls ≤ 549755813888 + 100)
  (A : Option Addr) (c : Nat) (G : Nat → Prop) (l : List UInt8) (hr : Row w A G (bcells l)) (_hG : ∀ b, G b → ¬ F.all b) (_hGq : ∀ b, G b → b ≠ q) (_hlc : l.length ≤ c) (_hc : c ≤ maxLen) (hl : l.length ≤ 40) :
  Calls Tryz.prog 50 #[.pointer (some ⟨q, 0, none⟩), .slice A l.length c] w fun e w' => e = .returned (.int .i64 0) ∧ ∃ F', DAt w' p F' (SDev.still (s.now.set sp (encS (t + 1) l)) (s.calls + 2)) ∧ SBlk w' q p sp lat (t + 1) l ∧
   Keeps (fun b => ¬ F.M b ∧ b ≠ q) w w' ∧ (∀ b, F'.M b → F.M b ∨ w.heap.size ≤ b) ∧ (∀ b, F'.I b → F.all b ∨ w.heap.size ≤ b) := by
 have hsm := hd.ok.small
 have c0 : w.cell? ⟨q, 0, none⟩ = some (.int .i64 (t : Int)) := (cell_of_block hb 0).trans rfl
 have c2 : w.cell? ⟨q, 2, none⟩ = some (.pointer (some ⟨p, 0, none⟩)) := (cell_of_block hb 2).trans rfl
 have c3 : w.cell? ⟨q, 3, none⟩ = some (.int .i64 (lat : Int)) := (cell_of_block hb 3).trans rfl
 have c4 : w.cell? ⟨q, 4, none⟩ = some (.int .i64 (sp : Int)) := (cell_of_block hb 4).trans rfl
 have hcv : (convert 64 9 (.slice A l.length c)).run Tryz.prog w.drew = .ok (.string (txt l)) w.drew := (hr.keep (Keeps.refl G w).drew).to_string (P := Tryz.prog) Tryz.underlying64 Tryz.underlying5 Tryz.underlying9 l.length c rfl
 have hcv2 : ∀ o, (convert 64 9 (.slice A l.length c)).run Tryz.prog (w.alloc o).drew = .ok (.string (txt l)) (w.alloc o).drew := fun o => (hr.keep ((Keeps.refl G w).alloc o).drew).to_string (P := Tryz.prog) Tryz.underlying64 Tryz.underlying5 Tryz.underlying9 l.length c rfl
 have hqlt : q < w.heap.size := (Array.getElem?_eq_some_iff.1 hb).1
 have HD := Lib.hid hd
 have HB := Lib.hid hb
 have HT := Lib.hid hT
 unfold maxLen at _hc
 have HR := Lib.hid hr
 clear hb hd hT hr
 go_enter Tryz.func50, Tryz.ntmps50
 go_wp2_with fail
 go_region
 have hk1 : Keeps (fun _ => True) w (w.alloc (.cells #[.int .i64 ((t : Int) + 1), .string (txt l)] 141)).drew := ((Keeps.refl _ w).alloc _).drew
 have hr1 : (w.alloc (.cells #[.int .i64 ((t : Int) + 1), .string (txt l)] 141)).drew.heap[w.heap.size]? = some (.cells #[.int .i64 ((t + 1 : Nat) : Int), .string (txt l)] 141 (0, 0)) := heap_alloc_new w _
 have hz1 : (w.alloc (.cells #[.int .i64 ((t : Int) + 1), .string (txt l)] 141)).drew.heap.size = w.heap.size + 1 := by simp
 generalize (w.alloc (.cells #[.int .i64 ((t : Int) + 1), .string (txt l)] 141)).drew = w1 at hk1 hr1 hz1 ⊢
 have HD1 := Lib.hid (HD.out.keep (hk1.mono fun _ _ _ => trivial))
 have HB1 := Lib.hid (HB.out.keep hk1 trivial)
 have HT1 := Lib.hid (HT.out.keep hk1)
 have HR1 := Lib.hid hr1
 have HK1 := Lib.hid hk1
 have HZ1 := Lib.hid hz1
 have HQ := Lib.hid (show ¬ F.M q from fun h => hq (.inl h))
 have HRF := Lib.hid (show ∀ b, F.all b → b < w.heap.size from HD.out.lt)
 have HTF := Lib.hid (show ¬ F.M 0 from HTM)
 clear hk1 hr1 hz1 c0 c2 c3 c4 hcv hcv2 HD HB HT HR
 have c0 : w1.cell? ⟨w.heap.size, 0, none⟩ = some (.int .i64 ((t : Int) + 1)) := (cell_of_block HR1.out 0).trans rfl
 have c1 : w1.cell? ⟨w.heap.size, 1, none⟩ = some (.string (txt l)) := (cell_of_block HR1.out 1).trans rfl
 go_wp2_with fail
 have hfm := fmake_any w1 HT1.out 83 83 rfl (t + 1) l (by omega) (by omega) (headS_len (t + 1) l (by omega) (by omega))
 rw [show ((t + 1 : Nat) : Int) = (t : Int) + 1 from by omega] at hfm
 refine hfm.mono ?_
 clear hfm
 rintro e w2 ⟨v, rfl, ho, hk2⟩
 rw [show encF 83 (t + 1) l = encS (t + 1) l from rfl] at ho
 have hel := encS_len (t + 1) l hl (by omega)
 obtain ⟨g, cg, rfl, hbase, hglt⟩ := ho.form (by rw [hel]; decide)
 have hroom := own_room ho
 have hrow := own_row ho
 rw [hel] at hroom ⊢
 have HB2 := Lib.hid (HB1.out.keep hk2 trivial)
 have HD2 := Lib.hid (HD1.out.keep (hk2.mono fun _ _ _ => trivial))
 have HR2 := Lib.hid ((hk2.block w.heap.size trivial (by rw [HZ1.out]; omega)).trans HR1.out)
 have HK2 := Lib.hid (HK1.out.trans hk2)
 have HRW := Lib.hid hrow
 have HGF := Lib.hid (show ∀ b, b = g → ¬ F.all b from fun b e hf => by have := HRF.out b hf; have := HZ1.out; omega)
 have HEL := Lib.hid hel
 have HZ2 := Lib.hid (show w.heap.size + 1 ≤ w2.heap.size from by have := hk2.size; have := HZ1.out; omega)
 clear ho hk2 hrow hel HB1 HD1 HT1 HR1 c0 c1 hroom hbase hglt
 have c2 : w2.cell? ⟨q, 2, none⟩ = some (.pointer (some ⟨p, 0, none⟩)) := (cell_of_block HB2.out 2).trans rfl
 have c4 : w2.cell? ⟨q, 4, none⟩ = some (.int .i64 (sp : Int)) := (cell_of_block HB2.out 4).trans rfl
 go_wp2_with fail
 go_still_tail 9, (by kernel_rfl)
 change wpList _ _ _ _ _ w2.drew
 have hdr := (Keeps.refl (fun _ => True) w2).drew
 have HB3 := Lib.hid (HB2.out.keep hdr trivial)
 have HD3 := Lib.hid (HD2.out.keep (hdr.mono fun _ _ _ => trivial))
 have HR3 := Lib.hid ((hdr.block w.heap.size trivial (by have := HZ2.out; omega)).trans HR2.out)
 have HK3 := Lib.hid (HK2.out.trans hdr)
 have HRW3 := Lib.hid (HRW.out.keep (hdr.mono fun _ _ _ => trivial))
 have HZ3 := Lib.hid (show w.heap.size + 1 ≤ w2.drew.heap.size from Nat.le_trans HZ2.out hdr.size)
 clear hdr c2 c4 HB2 HD2 HR2 HK2 HRW HZ2
 generalize w2.drew = w3 at HB3 HD3 HR3 HK3 HRW3 HZ3 ⊢
 have HWR := Lib.hid (show Calls Tryz.prog 63 #[.pointer (some ⟨p, 0, none⟩), .int .i64 (sp : Int), .slice (some ⟨g, 0, none⟩) 64 cg] w3 fun e w' => e = .returned (.int .i64 0) ∧ ∃ F', DAt w' p F' (s.write sp (encS (t + 1) l)) ∧ Step F F' w3 w' from by
  have h := dwrite_yes w3 p F s HD3.out sp (some ⟨g, 0, none⟩) cg _ (encS (t + 1) l) HRW3.out (fun b hb => HGF.out b hb) hsp (by rw [HEL.out]; decide) (by omega)
  rw [HEL.out] at h
  exact h)
 clear HRW3
 go_wp2_with fail
 refine HWR.out.mono ?_
 rintro e w8 ⟨rfl, F8, hd8, hst8⟩
 have hb8 := HB3.out.keep hst8.keeps HQ.out
 have HRD := Lib.hid (row64 HD3.out sp hsp)
 have c2 : w8.cell? ⟨q, 2, none⟩ = some (.pointer (some ⟨p, 0, none⟩)) := (cell_of_block hb8 2).trans rfl
 have hf := dflush_any w8 p F8 _ hd8 (show s.calls + 1 ≤ _ by omega)
 rw [flush_is, write64_now s sp (encS (t + 1) l) HEL.out HRD.out] at hf
 have HF := Lib.hid hf
 have HS8 := Lib.hid hst8
 clear hf hst8 hb8 hd8 HWR
 go_wp2_with fail
 refine HF.out.mono ?_
 rintro e w9 ⟨rfl, F9, hd9, hst9⟩
 have hst := HS8.out.trans hst9
 have hb9 : w9.heap[q]? = _ := HB3.out.keep hst.keeps HQ.out
 have hrc := (hst.keeps.block w.heap.size (fun hm => by have := HRF.out _ (.inl hm); omega) (by have := HZ3.out; omega)).trans HR3.out
 have r0 : w9.cell? ⟨w.heap.size, 0, none⟩ = some (.int .i64 ((t + 1 : Nat) : Int)) := (cell_of_block hrc 0).trans rfl
 have r1 : w9.cell? ⟨w.heap.size, 1, none⟩ = some (.string (txt l)) := (cell_of_block hrc 1).trans rfl
 have c0 : w9.cell? ⟨q, 0, none⟩ = some (.int .i64 (t : Int)) := (cell_of_block hb9 0).trans rfl
 have c1 : w9.cell? ⟨q, 1, none⟩ = some (.string (txt x)) := (cell_of_block hb9 1).trans rfl
 have f0 := unfrozen_of_block hb9 0
 have f1 := unfrozen_of_block hb9 1
 have hz9 := hst.keeps.size
 have hb10 := block_setCell (block_setCell hb9 (i := 0) (.int .i64 ((t : Int) + 1))) (i := 1) (.string (txt l))
 have hk10 : Keeps (fun b => b ≠ q) w9 ((w9.setCell ⟨q, 0, none⟩ (.int .i64 ((t : Int) + 1))).setCell ⟨q, 1, none⟩ (.string (txt l))) := ((Keeps.refl _ w9).setCell (.inr fun hn => hn rfl) _).setCell (.inr fun hn => hn rfl) _
 have HB10 := Lib.hid hb10
 have HK10 := Lib.hid hk10
 have HST := Lib.hid hst
 have HD9 := Lib.hid hd9
 clear hst hb9 hrc hz9 hb10 hk10 hd9 hst9 c2 HS8 HF HR3 HB3
 go_wp2_with fail
 have hb10 := HB10.out
 have hk10 := HK10.out
 clear HB10 HK10 c0 c1 f0 f1 r0 r1
 generalize ((w9.setCell ⟨q, 0, none⟩ (.int .i64 ((t : Int) + 1))).setCell ⟨q, 1, none⟩ (.string (txt l))) = w10 at hb10 hk10 ⊢
 have c3 : w10.cell? ⟨q, 3, none⟩ = some (.int .i64 (lat : Int)) := (cell_of_block hb10 3).trans rfl
 have c4 : w10.cell? ⟨q, 4, none⟩ = some (.int .i64 (sp : Int)) := (cell_of_block hb10 4).trans rfl
 have f3 := unfrozen_of_block hb10 3
 have f4 := unfrozen_of_block hb10 4
 have hfin : ∀ w11 : World, w11.heap[q]? = some (.cells #[.int .i64 ((t : Int) + 1), .string (txt l), .pointer (some ⟨p, 0, none⟩), .int .i64 (sp : Int), .int .i64 (lat : Int)] 143 (0, 0)) → Keeps (fun b => b ≠ q) w10 w11 →
   ∃ F', DAt w11 p F' (SDev.still (s.now.set sp (encS (t + 1) l)) (s.calls + 2)) ∧ SBlk w11 q p sp lat (t + 1) l ∧ Keeps (fun b => ¬ F.M b ∧ b ≠ q) w w11 ∧ (∀ b, F'.M b → F.M b ∨ w.heap.size ≤ b) ∧ (∀ b, F'.I b → F.all b ∨ w.heap.size ≤ b) := by
  intro w11 hb11 hk11
  have hst := HST.out
  have hk1 := HK3.out
  have hk := hk10.trans hk11
  have hqF : ¬ F9.all q := fun hf => by
   rcases hst.all q hf with h1 | h1
   ·exact hq h1
   ·have := HZ3.out; omega
  refine ⟨F9, HD9.out.keep (hk.mono fun b _ hb e => hqF (by rw [← e]; exact hb)), hb11, ?_, fun b hb => (hst.m b hb).imp id fun h1 => Nat.le_trans hk1.size h1, fun b hb => (hst.i b hb).imp id fun h1 => Nat.le_trans hk1.size h1⟩
  exact ((hk1.mono fun _ _ _ => trivial).trans (hst.keeps.mono fun b _ hb => hb.1)).trans (hk.mono fun b _ hb => hb.2)
 have hb11 := block_setCell (block_setCell hb10 (i := 3) (.int .i64 (sp : Int))) (i := 4) (.int .i64 (lat : Int))
 have hk11 : Keeps (fun b => b ≠ q) w10 ((w10.setCell ⟨q, 3, none⟩ (.int .i64 (sp : Int))).setCell ⟨q, 4, none⟩ (.int .i64 (lat : Int))) := ((Keeps.refl _ w10).setCell (.inr fun hn => hn rfl) _).setCell (.inr fun hn => hn rfl) _
 have HFIN := Lib.hid (hfin ((w10.setCell ⟨q, 3, none⟩ (.int .i64 (sp : Int))).setCell ⟨q, 4, none⟩ (.int .i64 (lat : Int))).drew (hb11.trans rfl) hk11.drew)
 clear hfin hb11 hk11 hb10 hk10
 go_region
 go_wp2_with fail
 go_ret
 exact ⟨rfl, HFIN.out⟩
theorem set_three (rows : List (List UInt8)) (i : Nat) (a b c : List UInt8) : ((rows.set i a).set (i + 1) b).set i c = (rows.set i c).set (i + 1) b := by
 rw [List.set_comm _ _ (show i ≠ i + 1 by omega), List.set_set, List.set_comm _ _ (show i + 1 ≠ i by omega)]
set_option maxRecDepth 100000 in
set_option maxHeartbeats 2000000 in
theorem smake_any (w : World) (hT : Taken w) (p : Nat) (F : Foot) (s : SDev) (h : DAt w p F s) (HTM : ∀ b, F.M b → b ≠ 0) (i : Nat) (hi : i + 2 ≤ s.now.length) (hcalls : s.calls ≤ 549755813888)
  (A : Option Addr) (c : Nat) (G : Nat → Prop) (l : List UInt8) (hr : Row w A G (bcells l)) (hG : ∀ b, G b → ¬ F.all b) (hlc : l.length ≤ c) (hc : c ≤ maxLen) (hl : l.length ≤ 40) :
  Calls Tryz.prog 65 #[.pointer (some ⟨p, 0, none⟩), .int .i64 (i : Int), .slice A l.length c] w fun e w' => ∃ (q : Nat) (F' : Foot), e = .returned (.tuple #[.pointer (some ⟨q, 0, none⟩), .int .i64 0]) ∧
   DAt w' p F' (SDev.still ((s.now.set i (encS 1 l)).set (i + 1) blank) (s.calls + 5)) ∧ SBlk w' q p i (i + 1) 1 l ∧ w.heap.size ≤ q ∧ ¬ F'.all q ∧ Step F F' w w' := by
 have hsm := h.ok.small
 have hi1 : i ≤ 2048 := by omega
 have hlen : (l.length : Int) ≤ 40 := by omega
 have HTH := Lib.hid (there_yes w p F s h i hi)
 have HBL := Lib.hid (blank_any w p F s h i hi hcalls)
 have HD := Lib.hid h
 have HT := Lib.hid hT
 have HR := Lib.hid hr.lt
 have HG := Lib.hid hG
 have HM := Lib.hid HTM
 have HI := Lib.hid hi
 clear h hT hi hr hG HTM hsm
 go_enter Tryz.func65, Tryz.ntmps65
 go_wp2_with fail
 refine HTH.out.mono ?_
 rintro e w' ⟨rfl, rfl⟩
 go_wp2_with fail
 refine HBL.out.mono ?_
 rintro e w1 ⟨rfl, F1, hd1, hst1⟩
 have HD1 := Lib.hid hd1
 have HS1 := Lib.hid hst1
 clear hd1 hst1 HBL HTH
 go_wp2_with fail
 have hs1 := HS1.out
 have hk2 : Keeps (fun _ => True) w1 (w1.alloc (.cells #[.int .i64 0, .string ⟨#[]⟩, .pointer (some ⟨p, 0, none⟩), .int .i64 ((i : Int) + 1), .int .i64 (i : Int)] 143)) := (Keeps.refl _ w1).alloc _
 have hb2 := blk_new w1 _ w1.heap.size p (i + 1) i 0 [] ((i : Int) + 1) (by omega) (i : Int) rfl 0 rfl rfl rfl
 rw [show txt [] = (⟨#[]⟩ : ByteArray) from rfl] at hb2
 have hz2 : w1.heap.size < (w1.alloc (.cells #[.int .i64 0, .string ⟨#[]⟩, .pointer (some ⟨p, 0, none⟩), .int .i64 ((i : Int) + 1), .int .i64 (i : Int)] 143)).heap.size := by simp
 generalize (w1.alloc (.cells #[.int .i64 0, .string ⟨#[]⟩, .pointer (some ⟨p, 0, none⟩), .int .i64 ((i : Int) + 1), .int .i64 (i : Int)] 143)) = w2 at hk2 hb2 hz2 ⊢
 have hT2 : Taken w2 := fun j hj => hk2.cell (hs1.keeps.cell (HT.out j hj) (fun hm => HM.out _ hm rfl)) trivial
 have hlt1 := HD1.out.lt
 have hall := hs1.all
 have hsv := ssave_yes w2 hT2 w1.heap.size p (i + 1) i 0 [] hb2 F1 _ (HD1.out.keep (hk2.mono fun _ _ _ => trivial)) (fun hf => by have := hlt1 _ hf; omega) (fun hm => by
   rcases hs1.m _ hm with h1 | h1
   ·exact HM.out _ h1 rfl
   ·have := World.block_lt_of_cell? w _ (HT.out 0 (by decide)); simp only at this; omega) (by simp [SDev.still]; have := HI.out; omega) (by omega) (by omega) (show s.calls + 3 ≤ _ by omega) A c (fun b => G b ∧ b < w.heap.size) l
   (((HR.out.keep (hs1.keeps.mono fun b _ hb hm => HG.out b hb.1 (.inl hm)))).keep (hk2.mono fun _ _ _ => trivial)) (fun b hb hf => by
    rcases hall b hf with h1 | h1
    ·exact HG.out b hb.1 h1
    ·omega) (fun b hb e => by have := hs1.keeps.size; omega) hlc hc hl
 have HSV := Lib.hid hsv
 have HK2 := Lib.hid hk2
 have HLT := Lib.hid hlt1
 have HZ2 := Lib.hid hz2
 clear hsv hk2 hb2 hT2 hlt1 hall hs1 hz2
 go_wp2_with fail
 refine HSV.out.mono ?_
 rintro e w3 ⟨rfl, F3, hd3, hb3, hk3, hm3, hi3⟩
 have H3 := Lib.hid (show DAt w3 p F3 (SDev.still ((s.now.set i (encS 1 l)).set (i + 1) blank) (s.calls + 5)) ∧ SBlk w3 w1.heap.size p i (i + 1) 1 l ∧ w.heap.size ≤ w1.heap.size ∧ ¬ F3.all w1.heap.size ∧ Step F F3 w w3 from by
  have hs1 := HS1.out
  have hk2 := HK2.out
  have e : ((SDev.still ((s.now.set i blank).set (i + 1) blank) (s.calls + 3)).now.set i (encS (0 + 1) l)) = (s.now.set i (encS 1 l)).set (i + 1) blank := set_three s.now i blank blank (encS 1 l)
  rw [e] at hd3
  have hst : Step F1 F3 w1 w3 := ⟨⟨hk3.os.trans hk2.os, hk3.tape.trans hk2.tape, hk3.output.trans hk2.output, Nat.le_trans hk2.size hk3.size, fun b hb hlt => (hk3.block b ⟨hb, by omega⟩ (Nat.lt_of_lt_of_le hlt hk2.size)).trans (hk2.block b trivial hlt)⟩,
   fun b hb => (hm3 b hb).imp id fun h1 => Nat.le_trans hk2.size h1, fun b hb => (hi3 b hb).imp id fun h1 => Nat.le_trans hk2.size h1⟩
  refine ⟨hd3, hb3, hs1.keeps.size, ?_, hs1.trans hst⟩
  intro hf
  have hz := HZ2.out
  have hlt := HLT.out
  rcases hf with hf | hf
  ·rcases hm3 _ hf with h1 | h1
   ·have := hlt _ (.inl h1); omega
   ·omega
  ·rcases hi3 _ hf with h1 | h1
   ·have := hlt _ h1; omega
   ·omega)
 clear hd3 hb3 hk3 hm3 hi3
 go_wp2_with fail
 go_ret2
 exact ⟨_, F3, rfl, H3.out⟩
def theFoot (q : Nat) : Foot := ⟨fun b => b = q, fun _ => False⟩
theorem foot_all (q b : Nat) : (theFoot q).all b ↔ b = q := ⟨fun h => h.elim id False.elim, fun h => .inl h⟩
theorem taken_lt {w : World} (h : Taken w) : 0 < w.heap.size := World.block_lt_of_cell? w _ (h 0 (by decide))
theorem rec_some {o : Option (Nat × List UInt8)} {t : Nat} {x : List UInt8} (h : o = some (t, x)) : recT o = (t, x) := by rw [h]; rfl
def theSup : SupOK := {
 T := Taken
 tk := fun h hk => h.keep hk
 enc := encS
 dec := decS
 decEnc := fun t x hx h1 ht => decS_enc t x hx h1 ht
 decBlank := decS_blank
 rep := SAt
 wf := fun h => h.wf
 lt := fun h => h.lt
 keep := fun h hk => h.keep hk
 make := fun W w p F s hd hT hk hF i A c G l hi hr hG hlc hc hA hl hcalls => by
  have hT0 := taken_lt hT
  refine (smake_any w (hT.keep hk) p F s hd (fun b hb e => by have := hF b (.inl hb); omega) i hi hcalls A c G l hr hG hlc hc hl).mono ?_
  rintro e w' ⟨q, F', rfl, hd', hb', hq, hqF, hst⟩
  refine ⟨q, F', theFoot q, s.calls + 5, rfl, hd', by omega, ⟨hb', ⟨Nat.zero_le 1, Nat.le_refl 1, hl⟩, foot_all q, rfl⟩, hst, fun b hb => by rw [(foot_all q b).1 hb]; exact hq, ⟨fun b hb hf => ?_, fun b hb hf => ?_⟩⟩
  ·rw [(foot_all q b).1 hf] at hb; exact hqF (.inl hb)
  ·rw [show b = q from hb] at hf; exact hqF hf
 open_ := fun w p F s hd hT i k t x hi hk h1 h2 ht => by
  refine (sopen_any w hT p F s hd i hi).mono ?_
  intro e w' h
  obtain ⟨w1, w2, w3⟩ := decS_wf h1
  have hk01 : k = 0 ∨ k = 1 := by omega
  rcases hk01 with rfl | rfl
  ·have e1 := rec_some h1
   rw [Nat.add_zero] at e1
   unfold SuperOpenPost at h
   rw [e1] at h
   have hle : (recT (decS (s.now.getD (i + 1) []))).1 < t := by
    cases h3 : decS (s.now.getD (i + 1) []) with
    | none => exact w1
    | some r => exact h2 r.1 r.2 h3
   rcases h with ⟨_, _, q, rfl, hb, hq, hkp⟩ | ⟨h3, _⟩ | ⟨h3, _⟩
   ·exact ⟨q, theFoot q, rfl, ⟨hb, ⟨by omega, w1, w3⟩, foot_all q, rfl⟩, fun b hb => by rw [(foot_all q b).1 hb]; exact hq, hkp⟩
   ·simp only at h3; omega
   ·simp only at h3; omega
  ·have e1 := rec_some h1
   unfold SuperOpenPost at h
   rw [e1] at h
   have hle : (recT (decS (s.now.getD i []))).1 < t := by
    cases h3 : decS (s.now.getD i []) with
    | none => exact w1
    | some r => exact h2 r.1 r.2 h3
   rcases h with ⟨h3, _⟩ | ⟨_, q, rfl, hb, hq, hkp⟩ | ⟨_, h3, _⟩
   ·simp only at h3; omega
   ·exact ⟨q, theFoot q, rfl, ⟨hb, ⟨by omega, w1, w3⟩, foot_all q, rfl⟩, fun b hb => by rw [(foot_all q b).1 hb]; exact hq, hkp⟩
   ·simp only at h3; omega
 save := fun W w p q F Fs s st hd hs hp ha hT hk hF hroom hsec hcalls hturn A c G l hr hG hGs hlc hc hA hl => by
  subst hp
  have hT0 := taken_lt hT
  have hw := hs.wf
  have hsm := hd.ok.small
  refine (ssave_yes w (hT.keep hk) q st.dev (st.place + st.which) (st.place + (1 - st.which)) st.turn st.text hs.blk F s hd (ha.r q hs.m) (fun hm => by have := hF _ (.inl hm); omega) (by omega) (by omega) hturn (by omega) A c G l hr hG (fun b hb e => hGs b hb ((hs.is b).2 e)) hlc hc hl).mono ?_
  rintro e w' ⟨rfl, F', hd', hb', hkp, hm', hi'⟩
  have hqlt := hs.lt q (.inl hs.m)
  refine ⟨rfl, F', Fs, s.calls + 2, hd', by omega, ⟨?_, ⟨by show 1 - st.which ≤ 1; omega, by show 1 ≤ st.turn + 1; omega, hl⟩, hs.is, hs.m⟩, ⟨fun b hb hf => ?_, fun b hb hf => ?_⟩, hkp.mono fun b _ hb => ⟨hb.1, fun e => hb.2 (by rw [e]; exact hs.m)⟩, hm', hi', fun b hb => .inl hb, fun b hb => .inl (.inr hb)⟩
  ·show SBlk w' q st.dev (st.place + (1 - st.which)) (st.place + (1 - (1 - st.which))) (st.turn + 1) l
   rw [show 1 - (1 - st.which) = st.which by omega]
   exact hb'
  ·rw [(hs.is b).1 hf] at hb
   rcases hm' q hb with h1 | h1
   ·exact ha.l q h1 (.inl hs.m)
   ·omega
  ·rw [(hs.is b).1 (.inl hb)] at hf
   rcases hf with hf | hf
   ·rcases hm' q hf with h1 | h1
    ·exact ha.l q h1 (.inl hs.m)
    ·omega
   ·rcases hi' q hf with h1 | h1
    ·exact ha.r q hs.m h1
    ·omega
}
structure Kep (W w : World) (p q k : Nat) (F Fs : Foot) (s : SDev) (st : SSt) (m : M4) : Prop where
 du : Duo theSup W w p q F Fs s st
 kb : KBlk w k q m
 may : mayB m = true
 txt : st.text = encM m
 nf : ¬ F.all k
 ns : ¬ Fs.all k
 gk : W.heap.size ≤ k
section
variable {W w w' : World} {p q k : Nat} {F Fs : Foot} {s : SDev} {st : SSt} {m : M4}
theorem Kep.keep (h : Kep W w p q k F Fs s st m) (hk : Kp w w') : Kep W w' p q k F Fs s st m :=
 ⟨h.du.keep hk, h.kb.keep hk trivial, h.may, h.txt, h.nf, h.ns, h.gk⟩
end
theorem conv_room (w : World) (x : List UInt8) (hx : x.length ≤ 40) : ∃ (w1 : World) (cap : Nat), (convert 9 64 (.string (txt x))).run Tryz.prog w = .ok (.slice (some ⟨w.heap.size, 0, none⟩) x.length cap) w1 ∧
  Row w1 (some ⟨w.heap.size, 0, none⟩) (fun b => w.heap.size ≤ b ∧ b < w1.heap.size) (bcells x) ∧ x.length ≤ cap ∧ cap ≤ maxLen ∧ Keeps (fun _ => True) w w1 := by
 have h := run_bytes_of_string (P := Tryz.prog) w 9 64 5 (txt x) Tryz.underlying9 Tryz.underlying64 Tryz.underlying5
 rw [txt_size] at h
 refine ⟨_, _, h, ?_, grownCap_ge w _ _ _, grownCap_le_maxLen w _ _ _ (by unfold maxLen; omega), ((Keeps.refl _ w).drew).alloc _⟩
 intro _
 refine ⟨_, 0, rfl, ⟨Nat.le_refl _, by simp⟩, fun i v hv => ?_⟩
 have hi : i < x.length := by
  have := (List.getElem?_eq_some_iff.1 hv).1
  rwa [bcells_len] at this
 rw [Nat.zero_add]
 refine (cell_alloc_mark_at w.drew _ _ _ w.heap.size i rfl).trans ?_
 unfold bytesRow
 rw [Array.getElem?_append_left (by simpa [txt] using hi), ← hv]
 simp [bcells, txt]
 rfl
theorem text_room {W w : World} {p q : Nat} {F Fs : Foot} {s : SDev} {st : SSt} (h : Duo theSup W w p q F Fs s st) :
  Calls Tryz.prog 84 #[.pointer (some ⟨q, 0, none⟩)] w fun e w' => ∃ A c, e = .returned (.slice A st.text.length c) ∧ Row w' A (fun b => w.heap.size ≤ b ∧ b < w'.heap.size) (bcells st.text) ∧ st.text.length ≤ c ∧ c ≤ maxLen ∧ Kp w w' := by
 have hs : SAt w q Fs st := h.su
 have c1 : w.cell? ⟨q, 1, none⟩ = some (.string (txt st.text)) := (cell_of_block hs.blk 1).trans rfl
 obtain ⟨w1, cap, hcv, hr, h1, h2, hk⟩ := conv_room w st.text hs.wf.2.2
 have HR := Lib.hid hr
 have HK := Lib.hid hk
 have H1 := Lib.hid h1
 have H2 := Lib.hid h2
 clear h hr hk hs h1 h2
 generalize st.text = x at *
 go_enter Tryz.func84, Tryz.ntmps84
 go_wp2_with fail
 go_ret
 exact ⟨_, _, rfl, HR.out, H1.out, H2.out, HK.out⟩
set_option maxRecDepth 100000 in
set_option maxHeartbeats 2000000 in
theorem kmake_yes (W w : World) (hT : theSup.T W) (p : Nat) (F : Foot) (s : SDev) (h : Dv W w p F s) (i : Nat) (hi : i + 2 ≤ s.now.length) (hcalls : s.calls ≤ 549755813888) :
  Calls Tryz.prog 38 #[.pointer (some ⟨p, 0, none⟩), .int .i64 (i : Int)] w fun e w' => ∃ (q k : Nat) (F' Fs : Foot) (n : Nat), e = .returned (.tuple #[.pointer (some ⟨k, 0, none⟩), .int .i64 0]) ∧
   Kep W w' p q k F' Fs (SDev.still ((s.now.set i (theSup.enc 1 (encM m0))).set (i + 1) blank) n) ⟨p, i, 0, 1, encM m0⟩ m0 ∧ n ≤ s.calls + 100 ∧ Step F F' w w' ∧ (∀ b, Fs.all b → w.heap.size ≤ b) ∧ w.heap.size ≤ k := by
 have hm0 : m0.Fits := may_fits (x := m0) (by decide)
 have HENC := Lib.hid (show ∀ w2, Calls Tryz.prog 51 #[.agg #[.int .i64 0, .int .i64 0, .int .i64 0, .bool false]] w2 (EncPost w2 (encM m0)) from fun w2 => mencode_any w2 m0 hm0)
 have hl := encM_len hm0
 have HMK := Lib.hid (show ∀ (w1 w2 : World) (A : Option Addr) (c : Nat), Kp w w1 → (encM m0).length ≤ c → c ≤ maxLen → (A = none → c = 0) → Row w2 A (fun b => w.heap.size ≤ b ∧ b < w2.heap.size) (bcells (encM m0)) → Kp w w2 → _ from fun w1 w2 A c _ h1 h2 h3 h4 hk =>
  duo_make theSup hT (h.keep hk) i (i : Int) rfl A c (encM m0) (encM m0).length rfl hi (h4.mono fun b _ hb hf => by have := h.d.lt b hf; omega) h1 h2 h3 hl hcalls)
 have HST := Lib.hid (show ∀ (w2 w3 : World) (F' : Foot), Kp w w2 → Step F F' w2 w3 → Step F F' w w3 ∧ (∀ b, F'.all b → b < w.heap.size → F.all b) from fun w2 w3 F' hk hst => by
  refine ⟨(Step.of_keeps (hk.mono fun _ _ _ => trivial) F).trans hst, fun b hb hlt => ?_⟩
  rcases hst.all b hb with h1 | h1
  ·exact h1
  ·have := hk.size; omega)
 have HWK := Lib.hid h.kp
 have HLT := Lib.hid h.d.lt
 clear h hi hcalls hl hT hm0
 obtain ⟨z, hz⟩ : ∃ z : Int, (i : Int) = z := ⟨_, rfl⟩
 rw [hz] at HMK ⊢
 clear hz
 go_enter Tryz.func38, Tryz.ntmps38
 go_wp2_with fail
 refine (show Calls _ _ _ _ _ from HENC.out _).mono ?_
 rintro e w1 ⟨A, c, rfl, h1, h2, h3, h4, h5⟩
 have HC := Lib.hid (HMK.out w1 w1 A c h5 h1 h2 h3 h4 h5)
 have HK1 := Lib.hid h5
 clear h1 h2 h3 h4 h5 HMK HENC
 generalize hL : encM m0 = L at HC
 go_wp2_with fail
 refine (show Calls _ _ _ _ _ from HC.out).mono ?_
 rintro e w2 ⟨q, F', Fs, n, rfl, hd, hn, hst, hfs⟩
 have hb := KBlk.new w2 q m0 w2.heap.size rfl
 have hd2 := hd.keep ((Keeps.refl _ w2).alloc (.cells #[.pointer (some ⟨q, 0, none⟩), .int .i64 0, .int .i64 0, .int .i64 0, .bool false] 86))
 have hF : ¬ F'.all w2.heap.size := fun hf => by have := hd.dv.d.lt _ hf; omega
 have hFs : ¬ Fs.all w2.heap.size := fun hf => by have := theSup.lt hd.su _ hf; omega
 obtain ⟨hst1, -⟩ := HST.out w1 w2 F' HK1.out hst
 have hsz := hd.dv.kp.size
 have hst2 : Step F F' w (w2.alloc (.cells #[.pointer (some ⟨q, 0, none⟩), .int .i64 0, .int .i64 0, .int .i64 0, .bool false] 86)) := hst1.alloc _
 have hsz2 : w.heap.size ≤ w2.heap.size := hst1.keeps.size
 have HQ := Lib.hid (show ∃ (q' k : Nat) (F'' Fs' : Foot) (n' : Nat), Ending.returned (.tuple #[.pointer (some ⟨w2.heap.size, 0, none⟩), .int .i64 0]) = .returned (.tuple #[.pointer (some ⟨k, 0, none⟩), .int .i64 0]) ∧
   Kep W (w2.alloc (.cells #[.pointer (some ⟨q, 0, none⟩), .int .i64 0, .int .i64 0, .int .i64 0, .bool false] 86)) p q' k F'' Fs' (SDev.still ((s.now.set i (theSup.enc 1 L)).set (i + 1) blank) n') ⟨p, i, 0, 1, L⟩ m0 ∧ n' ≤ s.calls + 100 ∧ Step F F'' w (w2.alloc (.cells #[.pointer (some ⟨q, 0, none⟩), .int .i64 0, .int .i64 0, .int .i64 0, .bool false] 86)) ∧ (∀ b, Fs'.all b → w.heap.size ≤ b) ∧ w.heap.size ≤ k from
  ⟨q, w2.heap.size, F', Fs, n, rfl, ⟨hd2, hb, by decide, hL.symm, hF, hFs, hsz⟩, hn, hst2, fun b hb => Nat.le_trans HK1.out.size (hfs b hb), hsz2⟩)
 rw [← hL] at HQ
 clear hb hd2 hF hFs hst1 hsz hst2 hsz2 hd hn hst hfs hL HC HST HK1 HWK HLT
 go_wp2_with fail
 go_ret2
 exact HQ.out
set_option maxRecDepth 100000 in
set_option maxHeartbeats 2000000 in
theorem kopen_yes (W w : World) (hT : theSup.T W) (p : Nat) (F : Foot) (s : SDev) (h : Dv W w p F s) (i wh t : Nat) (m : M4) (hm : mayB m = true) (hi : i + 2 ≤ s.now.length) (hw : wh ≤ 1) (ht1 : 1 ≤ t) (h1 : s.now.getD (i + wh) [] = theSup.enc t (encM m)) (h2 : ∀ t' x', theSup.dec (s.now.getD (i + (1 - wh)) []) = some (t', x') → t' < t) (ht : t ≤ 549755813888) :
  Calls Tryz.prog 55 #[.pointer (some ⟨p, 0, none⟩), .int .i64 (i : Int)] w fun e w' => ∃ (q k : Nat) (Fs : Foot), e = .returned (.tuple #[.pointer (some ⟨k, 0, none⟩), .int .i64 0]) ∧ Kep W w' p q k F Fs s ⟨p, i, wh, t, encM m⟩ m ∧ (∀ b, Fs.all b → w.heap.size ≤ b) ∧ w.heap.size ≤ k ∧ Kp w w' := by
 have hl := encM_len (may_fits hm)
 have HC := Lib.hid (duo_open theSup hT h i wh t (encM m) (i : Int) rfl hi hw hl ht1 h1 h2 ht)
 have HTX := Lib.hid (show ∀ (w1 : World) (q : Nat) (Fs : Foot), Duo theSup W w1 p q F Fs s ⟨p, i, wh, t, encM m⟩ → Calls Tryz.prog 84 #[.pointer (some ⟨q, 0, none⟩)] w1 fun e w' => ∃ A c, e = .returned (.slice A (encM m).length c) ∧ Row w' A (fun b => w1.heap.size ≤ b ∧ b < w'.heap.size) (bcells (encM m)) ∧ (encM m).length ≤ c ∧ c ≤ maxLen ∧ Kp w1 w' from fun w1 q Fs hd => text_room hd)
 have HDE := Lib.hid (show ∀ (w1 : World) (A : Option Addr) (c : Nat), Row w1 A (fun _ => True) (bcells (encM m)) → (encM m).length ≤ c → c ≤ maxLen → _ from fun w1 A c hr h1 h2 => mdecode_yes w1 A c m hr h1 h2 hm)
 have HM := Lib.hid hm
 clear h h1 h2 hi hT hw ht1 ht hl hm
 obtain ⟨z, hz⟩ : ∃ z : Int, (i : Int) = z := ⟨_, rfl⟩
 rw [hz] at HC ⊢
 clear hz
 obtain ⟨bo, ep, re, fr⟩ := m
 generalize hL : encM ⟨bo, ep, re, fr⟩ = L at HC HTX HDE
 have HL := Lib.hid hL
 clear hL
 unfold magg at HDE
 go_enter Tryz.func55, Tryz.ntmps55
 go_wp2_with fail
 refine (show Calls _ _ _ _ _ from HC.out).mono ?_
 rintro e w1 ⟨q, Fs, rfl, hd, hf, hk⟩
 have HD := Lib.hid hd
 have HF := Lib.hid hf
 have HK := Lib.hid hk
 clear hd hf hk HC
 go_wp2_with fail
 refine (show Calls _ _ _ _ _ from HTX.out _ _ _ HD.out).mono ?_
 rintro e w2 ⟨A, c, rfl, hr, hlc, hc, hk2⟩
 have HDE2 := Lib.hid (HDE.out w2 A c (hr.mono fun _ _ _ => trivial) hlc hc)
 replace HD := Lib.hid (HD.out.keep hk2)
 replace HK := Lib.hid (HK.out.trans hk2)
 clear hr hlc hc hk2 HTX HDE
 go_wp2_with fail
 refine (show Calls _ _ _ _ _ from HDE2.out).mono ?_
 rintro e w3 ⟨rfl, hk3⟩
 replace HD := Lib.hid (HD.out.keep hk3)
 replace HK := Lib.hid (HK.out.trans hk3)
 clear hk3 HDE2
 go_wp2_with fail
 go_ret2
 have ka : Kp w3 ((w3.alloc (.cells #[.int .i64 bo, .int .i64 ep, .int .i64 re, .bool fr] 32)).alloc (.cells #[.pointer (some ⟨q, 0, none⟩), .int .i64 bo, .int .i64 ep, .int .i64 re, .bool fr] 86)) := ((Keeps.refl _ w3).alloc _).alloc _
 have hb := KBlk.new (w3.alloc (.cells #[.int .i64 bo, .int .i64 ep, .int .i64 re, .bool fr] 32)) q ⟨bo, ep, re, fr⟩ (w3.heap.size + 1) (by simp)
 have hlt : ∀ b, F.all b → b < w3.heap.size := HD.out.dv.d.lt
 have hlts : ∀ b, Fs.all b → b < w3.heap.size := fun b hb => theSup.lt HD.out.su b hb
 have hsz := HD.out.dv.kp.size
 have hsz2 := HK.out.size
 exact ⟨q, w3.heap.size + 1, Fs, rfl, ⟨HD.out.keep ka, hb, HM.out, HL.out.symm, fun hf => by have := hlt _ hf; omega, fun hf => by have := hlts _ hf; omega, by omega⟩, HF.out, by omega, HK.out.trans ka⟩
end Go.Proofs.YticophaepapjoaaGreatDoor
