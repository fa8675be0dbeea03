/-
  MtSmall, MtCode, MtKeep, SlgChunked: texts of mine, joined.
-/
import Derived.Test.YticophaepapjoaaGreatDoorAllB16
import Derived.Test.YticophaepapjoaaGreatDoorAllB03
import Derived.Test.YticophaepapjoaaGreatDoorAllB10
import Derived.Deep.CutRange
import Derived.Test.YticophaepapjoaaGreatDoorAllB19
import Derived.Deep.RegionWith
import Derived.Test.YticophaepapjoaaGreatDoorAllB20
open Go.Lib renaming hid → Hd
set_option maxRecDepth 100000
set_option maxHeartbeats 8000000
namespace Go.Proofs.YticophaepapjoaaGreatDoor
open Go Go.RowKit Go.Joins
def fitZ (z : Int) : Bool := decide (0 ≤ z) && decide (z ≤ 1099511627776)
theorem mfits_any (w : World) (z : Int) : Calls Tryz.prog 77 #[.int .i64 z] w fun e w' => e = .returned (.bool (fitZ z)) ∧ w = w' := by
 have hcase : (decide (0 ≤ z) = true ∧ decide (z ≤ 1099511627776) = true) ∨ (decide (0 ≤ z) = true ∧ decide (z ≤ 1099511627776) = false) ∨ decide (0 ≤ z) = false := by
  cases h1 : decide (0 ≤ z) <;> cases h2 : decide (z ≤ 1099511627776) <;> simp
 have HM := Hd (show fitZ z = (decide (0 ≤ z) && decide (z ≤ 1099511627776)) from rfl)
 generalize fitZ z = b at HM ⊢
 rcases hcase with ⟨t1, t2⟩ | ⟨t1, t2⟩ | t1
 all_goals (
  go_enter Tryz.func77, Tryz.ntmps77
  go_wp2_with fail
  go_ret
  exact ⟨by simp [HM.out, *], rfl⟩)
theorem mayB_fits (x : M4) : mayB x = (fitZ x.boot && (fitZ x.epoch && (fitZ x.ready && (if x.ready == 0 then !x.frozen else decide (x.epoch < x.ready))))) := by
 obtain ⟨bo, ep, re, fr⟩ := x
 unfold mayB small12 fitZ
 simp only
 by_cases h : re = 0
 ·subst h
  have e1 : ((0 : Int) == 0) = true := by decide
  have e2 : (decide (0 ≤ ep) && decide (ep < 0)) = false := by
   cases h1 : decide (0 ≤ ep) <;> simp_all
  rw [e1]
  cases decide (0 ≤ bo) <;> cases decide (bo ≤ 1099511627776) <;> cases h1 : decide (0 ≤ ep) <;> cases decide (ep ≤ 1099511627776) <;> cases fr <;> simp_all
 ·have e1 : (re == 0) = false := by simpa using h
  rw [e1]
  cases decide (0 ≤ bo) <;> cases decide (bo ≤ 1099511627776) <;> cases h1 : decide (0 ≤ ep) <;> cases decide (ep ≤ 1099511627776) <;> cases decide (0 ≤ re) <;> cases decide (re ≤ 1099511627776) <;> simp
theorem mmay_any (w : World) (x : M4) : Calls Tryz.prog 49 #[magg x] w fun e w' => e = .returned (.bool (mayB x)) ∧ Kp w w' := by
 have HM := Hd (mayB_fits x)
 generalize mayB x = b at HM ⊢
 obtain ⟨bo, ep, re, fr⟩ := x
 have HM2 := Hd (show b = (fitZ bo && (fitZ ep && (fitZ re && (if re == 0 then !fr else decide (ep < re))))) from HM.out)
 clear HM
 have HK := Hd ((Keeps.refl (fun _ => True) w).alloc (.cells #[.int .i64 bo, .int .i64 ep, .int .i64 re, .bool fr] 32))
 unfold magg
 go_enter Tryz.func49, Tryz.ntmps49
 go_wp2_with fail
 refine (mfits_any _ bo).mono ?_
 rintro e w1 ⟨rfl, rfl⟩
 cases h1 : fitZ bo with
 | false =>
  have HE := Hd h1
  clear h1
  go_wp2_with fail
  go_ret
  exact ⟨by simp [HM2.out, HE.out], HK.out⟩
 | true =>
  have HE1 := Hd h1
  clear h1
  go_wp2_with fail
  refine (mfits_any _ ep).mono ?_
  rintro e w1 ⟨rfl, rfl⟩
  cases h1 : fitZ ep with
  | false =>
   have HE := Hd h1
   clear h1
   go_wp2_with fail
   go_ret
   exact ⟨by simp [HM2.out, HE.out], HK.out⟩
  | true =>
   have HE2 := Hd h1
   clear h1
   go_wp2_with fail
   refine (mfits_any _ re).mono ?_
   rintro e w1 ⟨rfl, rfl⟩
   cases h1 : fitZ re with
   | false =>
    have HE := Hd h1
    clear h1
    go_wp2_with fail
    go_ret
    exact ⟨by simp [HM2.out, HE.out], HK.out⟩
   | true =>
    have HE3 := Hd h1
    clear h1
    have hc : (re == 0) = true ∨ (re == 0) = false := by cases (re == 0) <;> simp
    rcases hc with t | t
    ·have HF := Hd (show b = !fr from by rw [HM2.out, HE1.out, HE2.out, HE3.out, t]; rfl)
     go_wp2_with fail
     go_ret
     exact ⟨by rw [HF.out]; rfl, HK.out⟩
    ·have HF := Hd (show b = decide (ep < re) from by rw [HM2.out, HE1.out, HE2.out, HE3.out, t]; rfl)
     go_wp2_with fail
     go_ret
     exact ⟨by rw [HF.out]; rfl, HK.out⟩
def KBlk (w : World) (k q : Nat) (m : M4) : Prop :=
 w.heap[k]? = some (.cells #[.pointer (some ⟨q, 0, none⟩), .int .i64 m.boot, .int .i64 m.epoch, .int .i64 m.ready, .bool m.frozen] 86 (0, 0))
section
variable {w w' : World} {k q : Nat} {m : M4} {G : Nat → Prop}
theorem KBlk.lt (h : KBlk w k q m) : k < w.heap.size := (Array.getElem?_eq_some_iff.1 h).1
theorem KBlk.keep (h : KBlk w k q m) (hk : Keeps G w w') (hG : G k) : KBlk w' k q m := (hk.block k hG h.lt).trans h
theorem KBlk.c0 (h : KBlk w k q m) : w.cell? ⟨k, 0, none⟩ = some (.pointer (some ⟨q, 0, none⟩)) := cell_of_block h 0
theorem KBlk.c1 (h : KBlk w k q m) : w.cell? ⟨k, 1, none⟩ = some (.int .i64 m.boot) := cell_of_block h 1
theorem KBlk.c2 (h : KBlk w k q m) : w.cell? ⟨k, 2, none⟩ = some (.int .i64 m.epoch) := cell_of_block h 2
theorem KBlk.c3 (h : KBlk w k q m) : w.cell? ⟨k, 3, none⟩ = some (.int .i64 m.ready) := cell_of_block h 3
theorem KBlk.c4 (h : KBlk w k q m) : w.cell? ⟨k, 4, none⟩ = some (.bool m.frozen) := cell_of_block h 4
theorem KBlk.fz (h : KBlk w k q m) (i : Nat) : w.frozen? ⟨k, i, none⟩ = false := unfrozen_of_block h i
theorem KBlk.new (w : World) (q : Nat) (m : M4) (k : Nat) (hk : k = w.heap.size) : KBlk (w.alloc (.cells #[.pointer (some ⟨q, 0, none⟩), .int .i64 m.boot, .int .i64 m.epoch, .int .i64 m.ready, .bool m.frozen] 86)) k q m := by subst hk; exact heap_alloc_new w _
theorem KBlk.set4 (h : KBlk w k q m) (x : M4) : KBlk ((((w.setCell ⟨k, 1, none⟩ (.int .i64 x.boot)).setCell ⟨k, 2, none⟩ (.int .i64 x.epoch)).setCell ⟨k, 3, none⟩ (.int .i64 x.ready)).setCell ⟨k, 4, none⟩ (.bool x.frozen)) k q x :=
 (block_setCell (block_setCell (block_setCell (block_setCell h _) _) _) _).trans rfl
end
theorem mdown_no (w : World) (k q : Nat) (m : M4) (h : KBlk w k q m) : Calls Tryz.prog 48 #[.pointer (some ⟨k, 0, none⟩)] w fun e w' => e = .returned (.bool false) ∧ w = w' := by
 have c0 := h.c0
 clear h
 go_enter Tryz.func48, Tryz.ntmps48
 go_wp2_with fail
 go_ret
 exact ⟨rfl, rfl⟩
theorem kmeta_any (w : World) (k q : Nat) (m : M4) (h : KBlk w k q m) : Calls Tryz.prog 12 #[.pointer (some ⟨k, 0, none⟩)] w fun e w' => e = .returned (magg m) ∧ Kp w w' := by
 obtain ⟨bo, ep, re, fr⟩ := m
 have c1 := h.c1
 have c2 := h.c2
 have c3 := h.c3
 have c4 := h.c4
 have hlt := h.lt
 simp only at c1 c2 c3 c4
 clear h
 have HK := Hd ((Keeps.refl (fun _ => True) w).alloc (.cells #[.int .i64 bo, .int .i64 ep, .int .i64 re, .bool fr] 32))
 unfold magg
 go_enter Tryz.func12, Tryz.ntmps12
 go_wp2_with fail
 refine bodyPost_ret (v := .agg #[.int .i64 bo, .int .i64 ep, .int .i64 re, .bool fr]) ?_ rfl ⟨rfl, HK.out⟩
 simp [results, Tryz.results12, go_sem]
def frzZ (b : Bool) : Int := if b then 1 else 0
def numsM (x : M4) : List Int := [x.boot, x.epoch, x.ready, frzZ x.frozen]
def encM (x : M4) : List UInt8 := putsZ (numsM x)
theorem numsM_fit {x : M4} (hx : x.Fits) : ∀ n ∈ numsM x, -9223372036854775808 ≤ n ∧ n < 9223372036854775808 := fun n hn => by
 have := hx.b1; have := hx.b2; have := hx.e1; have := hx.e2; have := hx.r1; have := hx.r2
 simp only [numsM, List.mem_cons, List.not_mem_nil, or_false] at hn
 rcases hn with rfl | rfl | rfl | rfl
 ·omega
 ·omega
 ·omega
 ·unfold frzZ; cases x.frozen <;> decide
theorem encM_len {x : M4} (hx : x.Fits) : (encM x).length ≤ 40 := putsZ_len (numsM x) (numsM_fit hx)
theorem may_fits {x : M4} (h : mayB x = true) : x.Fits := by
 unfold mayB small12 at h
 simp only [Bool.and_eq_true, decide_eq_true_eq] at h
 obtain ⟨⟨h1, h2, h3, h4, h5, h6⟩, -⟩ := h
 exact ⟨by omega, by omega, by omega, by omega, by omega, by omega⟩
theorem own_bytes {w : World} {B : Nat} {v : Value} {l : List UInt8} (h : OwnB w B v l) : ∃ A c, v = .slice A l.length c ∧ l.length ≤ c ∧ c ≤ maxLen ∧ (A = none → c = 0) ∧ Row w A (fun b => B ≤ b ∧ b < w.heap.size) (bcells l) := by
 unfold OwnB at h
 have key : ∃ A c, v = .slice A l.length c ∧ l.length ≤ c ∧ c ≤ maxLen ∧ (A = none → c = 0) := by
  rcases h.2 with ⟨h', h0⟩ | ⟨g', cap', cur, h', _, _, h1, h2, _⟩
  ·exact ⟨none, 0, by rw [h0]; exact h', by omega, Nat.zero_le _, fun _ => rfl⟩
  ·exact ⟨_, _, h', h1, h2, fun e => by cases e⟩
 obtain ⟨A, c, rfl, h1, h2, h3⟩ := key
 refine ⟨A, c, rfl, h1, h2, h3, ?_⟩
 have e : l.length = (bcells l).length := by rw [bcells_len]
 rw [e] at h
 exact Row.of_own h
def EncPost (w : World) (l : List UInt8) (e : Ending) (w' : World) : Prop := ∃ A c, e = .returned (.slice A l.length c) ∧ l.length ≤ c ∧ c ≤ maxLen ∧ (A = none → c = 0) ∧ Row w' A (fun b => w.heap.size ≤ b ∧ b < w'.heap.size) (bcells l) ∧ Kp w w'
theorem mencode_any (w : World) (x : M4) (hx : x.Fits) : Calls Tryz.prog 51 #[magg x] w (EncPost w (encM x)) := by
 have HN := Hd (numsM_fit hx)
 clear hx
 have HP := Hd (show ∀ (w2 : World) (q : Nat), Kp w w2 → Row w2 (some ⟨q, 0, none⟩) (fun _ => True) ((numsM x).map (Value.int .i64)) → Calls Tryz.prog 79 #[.slice none 0 0, .slice (some ⟨q, 0, none⟩) 4 4] w2 (EncPost w (encM x)) from fun w2 q hk hr => by
  refine (show Calls _ _ _ _ _ from put_any none (some ⟨q, 0, none⟩) 0 4 (fun _ => True) (fun _ => True) [] (numsM x) w2 (Row.nil _ _ _) hr HN.out (by simp) (by simp [numsM])).mono ?_
  rintro e w' ⟨v, rfl, ho, hk2⟩
  obtain ⟨A, c, rfl, h1, h2, h3, h4⟩ := own_bytes ho
  exact ⟨A, c, rfl, h1, h2, h3, h4.mono fun b _ hb => ⟨Nat.le_trans hk.size hb.1, hb.2⟩, hk.trans hk2⟩)
 have HE := Hd (show numsM x = [x.boot, x.epoch, x.ready, frzZ x.frozen] from rfl)
 generalize encM x = l at HP ⊢
 obtain ⟨bo, ep, re, fr⟩ := x
 generalize numsM ⟨bo, ep, re, fr⟩ = ns at HP HE
 have HR := Hd (show ∀ f : Int, frzZ fr = f → Row ((w.alloc (.cells #[.int .i64 bo, .int .i64 ep, .int .i64 re, .bool fr] 32)).alloc (.cells #[.int .i64 bo, .int .i64 ep, .int .i64 re, .int .i64 f] 2)) (some ⟨w.heap.size + 1, 0, none⟩) (fun _ => True) (ns.map (Value.int .i64)) from fun f hf =>
  Row.fresh _ #[.int .i64 bo, .int .i64 ep, .int .i64 re, .int .i64 f] 2 (0, 0) _ (by simp) trivial _ (by rw [HE.out, ← hf]; rfl))
 have HK := Hd (show ∀ o o', Kp w ((w.alloc o).alloc o') from fun o o' => ((Keeps.refl _ w).alloc _).alloc _)
 unfold magg
 cases fr with
 | false =>
  go_enter Tryz.func51, Tryz.ntmps51
  go_wp2_with fail
  refine (show Calls _ _ _ _ _ from HP.out _ _ (HK.out _ _) (HR.out 0 rfl)).mono ?_
  rintro e w2 ⟨A, c, rfl, h1, h2, h3, h4, h5⟩
  have HQ := Hd (show EncPost w l (.returned (.slice A l.length c)) w2 from ⟨A, c, rfl, h1, h2, h3, h4, h5⟩)
  clear h1 h2 h3 h4 h5 HP HR HK HE HN
  go_wp2_with fail
  go_ret
  exact HQ.out
 | true =>
  go_enter Tryz.func51, Tryz.ntmps51
  go_wp2_with fail
  refine (show Calls _ _ _ _ _ from HP.out _ _ (HK.out _ _) (HR.out 1 rfl)).mono ?_
  rintro e w2 ⟨A, c, rfl, h1, h2, h3, h4, h5⟩
  have HQ := Hd (show EncPost w l (.returned (.slice A l.length c)) w2 from ⟨A, c, rfl, h1, h2, h3, h4, h5⟩)
  clear h1 h2 h3 h4 h5 HP HR HK HE HN
  go_wp2_with fail
  go_ret
  exact HQ.out
def placesM (q : Nat) : List (Option Addr) := [some ⟨q + 1, 0, none⟩, some ⟨q + 1, 1, none⟩, some ⟨q + 1, 2, none⟩, some ⟨q + 2, 0, none⟩]
theorem allZ_encM {x : M4} (hx : x.Fits) : allZ 4 (encM x) = (numsM x, (encM x).length, 0) := by
 have hz := allZ_puts (numsM x) [] (numsM_fit hx)
 rw [List.append_nil] at hz
 exact hz
def FBlk (w : World) (g : Nat) (z : Int) : Prop := w.heap[g]? = some (.cells #[.int .i64 z] 2 (0, 0))
theorem FBlk.keep {w w' : World} {g : Nat} {z : Int} {F : Nat → Prop} (h : FBlk w g z) (hk : Keeps F w w') (hq : F g) : FBlk w' g z := (hk.block g hq (Array.getElem?_eq_some_iff.1 h).1).trans h
theorem mdecode_yes (w : World) (A : Option Addr) (c : Nat) (x : M4) (hr0 : Row w A (fun _ => True) (bcells (encM x))) (hl : (encM x).length ≤ c) (_hc : c ≤ maxLen) (hx : mayB x = true) :
  Calls Tryz.prog 83 #[.slice A (encM x).length c] w fun e w' => e = .returned (.tuple #[magg x, .bool true]) ∧ Kp w w' := by
 have hfit := may_fits hx
 have HR := Hd (show Row w A (fun b => b < w.heap.size) (bcells (encM x)) from hr0.lt.mono fun b _ hb => hb.2)
 have hl40 := encM_len hfit
 have HM := Hd (show ∀ w2, Calls Tryz.prog 49 #[magg x] w2 fun e w' => e = .returned (.bool true) ∧ Kp w2 w' from fun w2 => (mmay_any w2 x).mono fun e w' h => ⟨by rw [h.1, hx], h.2⟩)
 have HZ := Hd (allZ_encM hfit)
 have HE := Hd (show numsM x = [x.boot, x.epoch, x.ready, frzZ x.frozen] from rfl)
 clear hr0 hx hfit
 obtain ⟨N, hN⟩ : ∃ N, (encM x).length = N := ⟨_, rfl⟩
 have HALL := Hd (show ∀ (w2 : World) (q : Nat), Kp w w2 → w.heap.size ≤ q → MBlk w2 (q + 1) m0 → FBlk w2 (q + 2) 0 → Row w2 (some ⟨q + 3, 0, none⟩) (fun b => b = q + 3) ((placesM q).map Value.pointer) →
   Calls Tryz.prog 117 #[.slice A N c, .slice (some ⟨q + 3, 0, none⟩) 4 4] w2 fun e w' => e = .returned (.tuple #[.int .i64 (N : Int), .int .i64 0]) ∧ Kp w w' ∧ MBlk w' (q + 1) ⟨x.boot, x.epoch, x.ready, false⟩ ∧ FBlk w' (q + 2) (frzZ x.frozen) ∧ Keeps (fun b => b ≠ q + 1 ∧ b ≠ q + 2) w2 w' from fun w2 q hk hq hm hf hp => by
  rw [← hN]
  refine (show Calls _ _ _ _ _ from all_any A (some ⟨q + 3, 0, none⟩) c 4 (fun b => b ≠ q + 1 ∧ b ≠ q + 2) (encM x) (placesM q) w2 (((HR.out.keep (hk.mono fun _ _ _ => trivial)).mono fun b _ (hb : b < w.heap.size) => by omega)) (hp.mono fun b _ (hb : b = q + 3) => by omega) (fun a ha => by
   simp only [placesM, List.mem_cons, Option.some.injEq, List.not_mem_nil, or_false] at ha
   rcases ha with rfl | rfl | rfl | rfl
   ·exact ⟨⟨⟨_, hm.four.1⟩, hm.fz 0⟩, fun h => h.1 rfl⟩
   ·exact ⟨⟨⟨_, hm.four.2.1⟩, hm.fz 1⟩, fun h => h.1 rfl⟩
   ·exact ⟨⟨⟨_, hm.four.2.2.1⟩, hm.fz 2⟩, fun h => h.1 rfl⟩
   ·exact ⟨⟨⟨_, cell_of_block hf 0⟩, unfrozen_of_block hf 0⟩, fun h => h.2 rfl⟩) (by omega) hl (by simp [placesM])).mono ?_
  rintro e w' ⟨h1, h2⟩
  have hl4 : (placesM q).length = 4 := rfl
  rw [hl4, HZ.out] at h1 h2
  have hks : Keeps (fun b => b ≠ q + 1 ∧ b ≠ q + 2) w2 w' := by
   rw [h2]
   exact stores_keeps _ (placesM q) _ w2 w2 (fun a ha => by
    simp only [placesM, List.mem_cons, Option.some.injEq, List.not_mem_nil, or_false] at ha
    rcases ha with rfl | rfl | rfl | rfl
    ·exact fun h => h.1 rfl
    ·exact fun h => h.1 rfl
    ·exact fun h => h.1 rfl
    ·exact fun h => h.2 rfl) (Keeps.refl _ _)
  refine ⟨by rw [h1]; rfl, ((hk.mono fun _ _ _ => trivial).trans hks).mono fun b hb _ => by omega, ?_, ?_, hks⟩
  ·rw [h2, HE.out]
   have a2 : MBlk (((w2.setCell ⟨q + 1, 0, none⟩ (.int .i64 x.boot)).setCell ⟨q + 1, 1, none⟩ (.int .i64 x.epoch)).setCell ⟨q + 1, 2, none⟩ (.int .i64 x.ready)) (q + 1) ⟨x.boot, x.epoch, x.ready, false⟩ := (block_setCell (block_setCell (block_setCell hm _) _) _).trans rfl
   exact a2.keep ((Keeps.refl (fun b => b ≠ q + 2) _).setCell (p := ⟨q + 2, 0, none⟩) (.inr (fun h => h rfl)) _) (by omega)
  ·rw [h2, HE.out]
   have k3 : Keeps (fun b => b ≠ q + 1) w2 (((w2.setCell ⟨q + 1, 0, none⟩ (.int .i64 x.boot)).setCell ⟨q + 1, 1, none⟩ (.int .i64 x.epoch)).setCell ⟨q + 1, 2, none⟩ (.int .i64 x.ready)) :=
    (((Keeps.refl (fun b => b ≠ q + 1) w2).setCell (p := ⟨q + 1, 0, none⟩) (.inr (fun h => h rfl)) _).setCell (p := ⟨q + 1, 1, none⟩) (.inr (fun h => h rfl)) _).setCell (p := ⟨q + 1, 2, none⟩) (.inr (fun h => h rfl)) _
   exact (block_setCell (hf.keep k3 (by omega)) _).trans rfl)
 have HA := Hd (show ∀ w2, w2 = (((w.alloc (.cells #[.int .i64 0, .int .i64 0, .int .i64 0, .bool false] 32)).alloc (.cells #[.int .i64 0, .int .i64 0, .int .i64 0, .bool false] 32)).alloc (.cells #[.int .i64 0] 2)).alloc (.cells #[.pointer (some ⟨w.heap.size + 1, 0, none⟩), .pointer (some ⟨w.heap.size + 1, 1, none⟩), .pointer (some ⟨w.heap.size + 1, 2, none⟩), .pointer (some ⟨w.heap.size + 2, 0, none⟩)] 190) →
   MBlk w2 w.heap.size m0 ∧ MBlk w2 (w.heap.size + 1) m0 ∧ FBlk w2 (w.heap.size + 2) 0 ∧ Row w2 (some ⟨w.heap.size + 3, 0, none⟩) (fun b => b = w.heap.size + 3) ((placesM w.heap.size).map Value.pointer) ∧ Kp w w2 from by
  rintro w2 rfl
  have s1 : ∀ o, (w.alloc o).heap.size = w.heap.size + 1 := fun o => by simp
  have s2 : ∀ o o', ((w.alloc o).alloc o').heap.size = w.heap.size + 2 := fun o o' => by simp
  have s3 : ∀ o o' o'', (((w.alloc o).alloc o').alloc o'').heap.size = w.heap.size + 3 := fun o o' o'' => by simp
  have h1 : MBlk (w.alloc (.cells #[.int .i64 0, .int .i64 0, .int .i64 0, .bool false] 32)) w.heap.size m0 := heap_alloc_new w _
  have h2 := heap_alloc_new (w.alloc (.cells #[.int .i64 0, .int .i64 0, .int .i64 0, .bool false] 32)) (.cells #[.int .i64 0, .int .i64 0, .int .i64 0, .bool false] 32)
  rw [s1] at h2
  have h3 := heap_alloc_new ((w.alloc (.cells #[.int .i64 0, .int .i64 0, .int .i64 0, .bool false] 32)).alloc (.cells #[.int .i64 0, .int .i64 0, .int .i64 0, .bool false] 32)) (.cells #[.int .i64 0] 2)
  rw [s2] at h3
  have h2' : MBlk ((w.alloc (.cells #[.int .i64 0, .int .i64 0, .int .i64 0, .bool false] 32)).alloc (.cells #[.int .i64 0, .int .i64 0, .int .i64 0, .bool false] 32)) (w.heap.size + 1) m0 := h2
  have h3' : FBlk (((w.alloc (.cells #[.int .i64 0, .int .i64 0, .int .i64 0, .bool false] 32)).alloc (.cells #[.int .i64 0, .int .i64 0, .int .i64 0, .bool false] 32)).alloc (.cells #[.int .i64 0] 2)) (w.heap.size + 2) 0 := h3
  exact ⟨h1.keep (F := fun _ => True) ((((Keeps.refl _ _).alloc _).alloc _).alloc _) trivial, h2'.keep (F := fun _ => True) (((Keeps.refl _ _).alloc _).alloc _) trivial, h3'.keep (F := fun _ => True) ((Keeps.refl _ _).alloc _) trivial,
   Row.fresh (F := fun b => b = w.heap.size + 3) _ #[.pointer (some ⟨w.heap.size + 1, 0, none⟩), .pointer (some ⟨w.heap.size + 1, 1, none⟩), .pointer (some ⟨w.heap.size + 1, 2, none⟩), .pointer (some ⟨w.heap.size + 2, 0, none⟩)] 190 (0, 0) _ (s3 _ _ _).symm rfl ((placesM w.heap.size).map Value.pointer) rfl, ((((Keeps.refl _ _).alloc _).alloc _).alloc _).alloc _⟩)
 have HN := Hd hN
 rw [hN]
 have hNm : N ≤ 40 := by omega
 clear hl _hc hN hl40 HZ HE HR
 obtain ⟨bo, ep, re, fr⟩ := x
 go_enter Tryz.func83, Tryz.ntmps83
 go_wp2_with fail
 obtain ⟨a1, a2, a3, a4, a5⟩ := HA.out _ rfl
 obtain ⟨q, hq⟩ : ∃ q, w.heap.size = q := ⟨_, rfl⟩
 rw [hq] at a1 a2 a3 a4 a5 ⊢
 have HGQ := Hd (Nat.le_of_eq hq)
 generalize World.alloc (World.alloc (World.alloc (World.alloc _ _) _) _) _ = w1 at a1 a2 a3 a4 a5 ⊢
 have HC := Hd (HALL.out w1 q a5 HGQ.out a2 a3 a4)
 have H0 := Hd a1
 clear hq HA a1 a2 a3 a4 a5 HALL
 refine (show Calls _ _ _ _ _ from HC.out).mono ?_
 rintro e w2 ⟨rfl, hk, hm, hf, hks⟩
 replace H0 := Hd (H0.out.keep hks (by omega))
 have HK := Hd hk
 have HMB := Hd hm
 have HFB := Hd hf
 clear hk hm hf hks HC
 have t2 : ((N : Int) != (N : Int)) = false := by simp
 cases fr with
 | false =>
  have f0 : w2.cell? ⟨q + 2, 0, none⟩ = some (.int .i64 0) := cell_of_block HFB.out 0
  have c3 := HMB.out.four.2.2.2
  have d3 := HMB.out.fz 3
  simp only at c3
  have HW3 := Hd (show ∀ w3, w3 = w2.setCell ⟨q + 1, 3, none⟩ (.bool false) → MBlk w3 (q + 1) ⟨bo, ep, re, false⟩ ∧ FBlk w3 (q + 2) 0 ∧ MBlk w3 q m0 ∧ Kp w w3 from by
   rintro w3 rfl
   have kk : ∀ F : Nat → Prop, ¬ F (q + 1) → Keeps F w2 (w2.setCell ⟨q + 1, 3, none⟩ (.bool false)) := fun F hF => (Keeps.refl F w2).setCell (p := ⟨q + 1, 3, none⟩) (.inr hF) _
   exact ⟨(block_setCell HMB.out _).trans rfl, HFB.out.keep (kk (fun b => b ≠ q + 1) (fun h => h rfl)) (by omega), H0.out.keep (kk (fun b => b ≠ q + 1) (fun h => h rfl)) (by omega), HK.out.setCell (p := ⟨q + 1, 3, none⟩) (.inl (show w.heap.size ≤ q + 1 from by have := HGQ.out; omega)) _⟩)
  clear HMB HFB H0 HK
  go_upto_region 5 with fail
  obtain ⟨a1, a2, a3, a4⟩ := HW3.out _ rfl
  generalize World.setCell w2 _ _ = w3 at a1 a2 a3 a4 ⊢
  have HMB := Hd a1
  have H0 := Hd a3
  have HK := Hd a4
  have g0 : w3.cell? ⟨q + 2, 0, none⟩ = some (.int .i64 0) := cell_of_block a2 0
  have c0 := a1.four.1
  have c1 := a1.four.2.1
  have c2 := a1.four.2.2.1
  have c3 := a1.four.2.2.2
  simp only at c0 c1 c2 c3
  clear a1 a2 a3 a4 f0 d3 HW3
  have HMM := Hd (show ∀ w2, Calls Tryz.prog 49 #[.agg #[.int .i64 bo, .int .i64 ep, .int .i64 re, .bool false]] w2 fun e w' => e = .returned (.bool true) ∧ Kp w2 w' from HM.out)
  clear HM
  go_wp2_with fail
  refine (show Calls _ _ _ _ _ from HMM.out w3).mono ?_
  rintro e w4 ⟨rfl, hk4⟩
  replace HMB := Hd (HMB.out.keep hk4 trivial)
  replace H0 := Hd (H0.out.keep hk4 trivial)
  replace HK := Hd (HK.out.trans hk4)
  clear hk4 HMM c0 c1 c2 c3 g0
  have c0 := HMB.out.four.1
  have c1 := HMB.out.four.2.1
  have c2 := HMB.out.four.2.2.1
  have c3 := HMB.out.four.2.2.2
  have b0 := H0.out.four.1
  have b1 := H0.out.four.2.1
  have b2 := H0.out.four.2.2.1
  have b3 := H0.out.four.2.2.2
  have d0 := H0.out.fz 0
  have d1 := H0.out.fz 1
  have d2 := H0.out.fz 2
  have d3 := H0.out.fz 3
  simp only at c0 c1 c2 c3
  simp only [m0] at b0 b1 b2 b3
  go_wp2_with fail
  have hb := H0.out.set4 ⟨bo, ep, re, false⟩
  have hk : Kp w ((((w4.setCell ⟨q, 0, none⟩ (.int .i64 bo)).setCell ⟨q, 1, none⟩ (.int .i64 ep)).setCell ⟨q, 2, none⟩ (.int .i64 re)).setCell ⟨q, 3, none⟩ (.bool false)) :=
   (((HK.out.setCell (p := ⟨q, 0, none⟩) (.inl HGQ.out) _).setCell (p := ⟨q, 1, none⟩) (.inl HGQ.out) _).setCell (p := ⟨q, 2, none⟩) (.inl HGQ.out) _).setCell (p := ⟨q, 3, none⟩) (.inl HGQ.out) _
  refine bodyPost_ret (v := .tuple #[.agg #[.int .i64 bo, .int .i64 ep, .int .i64 re, .bool false], .bool true]) ?_ rfl ⟨rfl, hk⟩
  generalize World.setCell (World.setCell (World.setCell (World.setCell w4 _ _) _ _) _ _) _ _ = W6 at hb ⊢
  have e0 := hb.four.1
  have e1 := hb.four.2.1
  have e2 := hb.four.2.2.1
  have e3 := hb.four.2.2.2
  simp only at e0 e1 e2 e3
  simp [results, Tryz.results83, go_sem, e0, e1, e2, e3]
 | true =>
  have f0 : w2.cell? ⟨q + 2, 0, none⟩ = some (.int .i64 1) := cell_of_block HFB.out 0
  have c3 := HMB.out.four.2.2.2
  have d3 := HMB.out.fz 3
  simp only at c3
  have HW3 := Hd (show ∀ w3, w3 = w2.setCell ⟨q + 1, 3, none⟩ (.bool true) → MBlk w3 (q + 1) ⟨bo, ep, re, true⟩ ∧ FBlk w3 (q + 2) 1 ∧ MBlk w3 q m0 ∧ Kp w w3 from by
   rintro w3 rfl
   have kk : ∀ F : Nat → Prop, ¬ F (q + 1) → Keeps F w2 (w2.setCell ⟨q + 1, 3, none⟩ (.bool true)) := fun F hF => (Keeps.refl F w2).setCell (p := ⟨q + 1, 3, none⟩) (.inr hF) _
   exact ⟨(block_setCell HMB.out _).trans rfl, HFB.out.keep (kk (fun b => b ≠ q + 1) (fun h => h rfl)) (by omega), H0.out.keep (kk (fun b => b ≠ q + 1) (fun h => h rfl)) (by omega), HK.out.setCell (p := ⟨q + 1, 3, none⟩) (.inl (show w.heap.size ≤ q + 1 from by have := HGQ.out; omega)) _⟩)
  clear HMB HFB H0 HK
  go_upto_region 5 with fail
  obtain ⟨a1, a2, a3, a4⟩ := HW3.out _ rfl
  generalize World.setCell w2 _ _ = w3 at a1 a2 a3 a4 ⊢
  have HMB := Hd a1
  have H0 := Hd a3
  have HK := Hd a4
  have g0 : w3.cell? ⟨q + 2, 0, none⟩ = some (.int .i64 1) := cell_of_block a2 0
  have c0 := a1.four.1
  have c1 := a1.four.2.1
  have c2 := a1.four.2.2.1
  have c3 := a1.four.2.2.2
  simp only at c0 c1 c2 c3
  clear a1 a2 a3 a4 f0 d3 HW3
  have HMM := Hd (show ∀ w2, Calls Tryz.prog 49 #[.agg #[.int .i64 bo, .int .i64 ep, .int .i64 re, .bool true]] w2 fun e w' => e = .returned (.bool true) ∧ Kp w2 w' from HM.out)
  clear HM
  go_wp2_with fail
  refine (show Calls _ _ _ _ _ from HMM.out w3).mono ?_
  rintro e w4 ⟨rfl, hk4⟩
  replace HMB := Hd (HMB.out.keep hk4 trivial)
  replace H0 := Hd (H0.out.keep hk4 trivial)
  replace HK := Hd (HK.out.trans hk4)
  clear hk4 HMM c0 c1 c2 c3 g0
  have c0 := HMB.out.four.1
  have c1 := HMB.out.four.2.1
  have c2 := HMB.out.four.2.2.1
  have c3 := HMB.out.four.2.2.2
  have b0 := H0.out.four.1
  have b1 := H0.out.four.2.1
  have b2 := H0.out.four.2.2.1
  have b3 := H0.out.four.2.2.2
  have d0 := H0.out.fz 0
  have d1 := H0.out.fz 1
  have d2 := H0.out.fz 2
  have d3 := H0.out.fz 3
  simp only at c0 c1 c2 c3
  simp only [m0] at b0 b1 b2 b3
  go_wp2_with fail
  have hb := H0.out.set4 ⟨bo, ep, re, true⟩
  have hk : Kp w ((((w4.setCell ⟨q, 0, none⟩ (.int .i64 bo)).setCell ⟨q, 1, none⟩ (.int .i64 ep)).setCell ⟨q, 2, none⟩ (.int .i64 re)).setCell ⟨q, 3, none⟩ (.bool true)) :=
   (((HK.out.setCell (p := ⟨q, 0, none⟩) (.inl HGQ.out) _).setCell (p := ⟨q, 1, none⟩) (.inl HGQ.out) _).setCell (p := ⟨q, 2, none⟩) (.inl HGQ.out) _).setCell (p := ⟨q, 3, none⟩) (.inl HGQ.out) _
  refine bodyPost_ret (v := .tuple #[.agg #[.int .i64 bo, .int .i64 ep, .int .i64 re, .bool true], .bool true]) ?_ rfl ⟨rfl, hk⟩
  generalize World.setCell (World.setCell (World.setCell (World.setCell w4 _ _) _ _) _ _) _ _ = W6 at hb ⊢
  have e0 := hb.four.1
  have e1 := hb.four.2.1
  have e2 := hb.four.2.2.1
  have e3 := hb.four.2.2.2
  simp only at e0 e1 e2 e3
  simp [results, Tryz.results83, go_sem, e0, e1, e2, e3]
structure Kep (W w : World) (p q k : Nat) (F Fs : Foot) (s : SDev) (st : SSt) (m : M4) : Prop where
 du : Duo theSup W w p q F Fs s st
 kb : KBlk w k q m
 may : mayB m = true
 txt : st.text = encM m
 nf : ¬ F.all k
 ns : ¬ Fs.all k
 gk : W.heap.size ≤ k
section
variable {W w w' : World} {p q k : Nat} {F Fs : Foot} {s : SDev} {st : SSt} {m : M4}
theorem Kep.keep (h : Kep W w p q k F Fs s st m) (hk : Kp w w') : Kep W w' p q k F Fs s st m :=
 ⟨h.du.keep hk, h.kb.keep hk trivial, h.may, h.txt, h.nf, h.ns, h.gk⟩
end
theorem conv_room (w : World) (x : List UInt8) (hx : x.length ≤ 40) : ∃ (w1 : World) (cap : Nat), (convert 9 64 (.string (txt x))).run Tryz.prog w = .ok (.slice (some ⟨w.heap.size, 0, none⟩) x.length cap) w1 ∧
  Row w1 (some ⟨w.heap.size, 0, none⟩) (fun b => w.heap.size ≤ b ∧ b < w1.heap.size) (bcells x) ∧ x.length ≤ cap ∧ cap ≤ maxLen ∧ Keeps (fun _ => True) w w1 := by
 have h := run_bytes_of_string (P := Tryz.prog) w 9 64 5 (txt x) Tryz.underlying9 Tryz.underlying64 Tryz.underlying5
 rw [txt_size] at h
 refine ⟨_, _, h, ?_, grownCap_ge w _ _ _, grownCap_le_maxLen w _ _ _ (by unfold maxLen; omega), ((Keeps.refl _ w).drew).alloc _⟩
 intro _
 refine ⟨_, 0, rfl, ⟨Nat.le_refl _, by simp⟩, fun i v hv => ?_⟩
 have hi : i < x.length := by
  have := (List.getElem?_eq_some_iff.1 hv).1
  rwa [bcells_len] at this
 rw [Nat.zero_add]
 refine (cell_alloc_mark_at w.drew _ _ _ w.heap.size i rfl).trans ?_
 unfold bytesRow
 rw [Array.getElem?_append_left (by simpa [txt] using hi), ← hv]
 simp [bcells, txt]
 rfl
theorem text_room {W w : World} {p q : Nat} {F Fs : Foot} {s : SDev} {st : SSt} (h : Duo theSup W w p q F Fs s st) :
  Calls Tryz.prog 84 #[.pointer (some ⟨q, 0, none⟩)] w fun e w' => ∃ A c, e = .returned (.slice A st.text.length c) ∧ Row w' A (fun b => w.heap.size ≤ b ∧ b < w'.heap.size) (bcells st.text) ∧ st.text.length ≤ c ∧ c ≤ maxLen ∧ Kp w w' := by
 have hs : SAt w q Fs st := h.su
 have c1 : w.cell? ⟨q, 1, none⟩ = some (.string (txt st.text)) := (cell_of_block hs.blk 1).trans rfl
 obtain ⟨w1, cap, hcv, hr, h1, h2, hk⟩ := conv_room w st.text hs.wf.2.2
 have HR := Hd hr
 have HK := Hd hk
 have H1 := Hd h1
 have H2 := Hd h2
 clear h hr hk hs h1 h2
 generalize st.text = x at *
 go_enter Tryz.func84, Tryz.ntmps84
 go_wp2_with fail
 go_ret
 exact ⟨_, _, rfl, HR.out, H1.out, H2.out, HK.out⟩
theorem kmake_yes (W w : World) (hT : theSup.T W) (p : Nat) (F : Foot) (s : SDev) (h : Dv W w p F s) (i : Nat) (hi : i + 2 ≤ s.now.length) (hcalls : s.calls ≤ 549755813888) :
  Calls Tryz.prog 38 #[.pointer (some ⟨p, 0, none⟩), .int .i64 (i : Int)] w fun e w' => ∃ (q k : Nat) (F' Fs : Foot) (n : Nat), e = .returned (.tuple #[.pointer (some ⟨k, 0, none⟩), .int .i64 0]) ∧
   Kep W w' p q k F' Fs (SDev.still ((s.now.set i (theSup.enc 1 (encM m0))).set (i + 1) blank) n) ⟨p, i, 0, 1, encM m0⟩ m0 ∧ n ≤ s.calls + 100 ∧ Step F F' w w' ∧ (∀ b, Fs.all b → w.heap.size ≤ b) ∧ w.heap.size ≤ k := by
 have hm0 : m0.Fits := may_fits (x := m0) (by decide)
 have HENC := Hd (show ∀ w2, Calls Tryz.prog 51 #[.agg #[.int .i64 0, .int .i64 0, .int .i64 0, .bool false]] w2 (EncPost w2 (encM m0)) from fun w2 => mencode_any w2 m0 hm0)
 have hl := encM_len hm0
 have HMK := Hd (show ∀ (w1 w2 : World) (A : Option Addr) (c : Nat), Kp w w1 → (encM m0).length ≤ c → c ≤ maxLen → (A = none → c = 0) → Row w2 A (fun b => w.heap.size ≤ b ∧ b < w2.heap.size) (bcells (encM m0)) → Kp w w2 → _ from fun w1 w2 A c _ h1 h2 h3 h4 hk =>
  duo_make theSup hT (h.keep hk) i (i : Int) rfl A c (encM m0) (encM m0).length rfl hi (h4.mono fun b _ hb hf => by have := h.d.lt b hf; omega) h1 h2 h3 hl hcalls)
 have HST := Hd (show ∀ (w2 w3 : World) (F' : Foot), Kp w w2 → Step F F' w2 w3 → Step F F' w w3 ∧ (∀ b, F'.all b → b < w.heap.size → F.all b) from fun w2 w3 F' hk hst => by
  refine ⟨(Step.of_keeps (hk.mono fun _ _ _ => trivial) F).trans hst, fun b hb hlt => ?_⟩
  rcases hst.all b hb with h1 | h1
  ·exact h1
  ·have := hk.size; omega)
 have HWK := Hd h.kp
 have HLT := Hd h.d.lt
 clear h hi hcalls hl hT hm0
 obtain ⟨z, hz⟩ : ∃ z : Int, (i : Int) = z := ⟨_, rfl⟩
 rw [hz] at HMK ⊢
 clear hz
 go_enter Tryz.func38, Tryz.ntmps38
 go_wp2_with fail
 refine (show Calls _ _ _ _ _ from HENC.out _).mono ?_
 rintro e w1 ⟨A, c, rfl, h1, h2, h3, h4, h5⟩
 have HC := Hd (HMK.out w1 w1 A c h5 h1 h2 h3 h4 h5)
 have HK1 := Hd h5
 clear h1 h2 h3 h4 h5 HMK HENC
 generalize hL : encM m0 = L at HC
 go_wp2_with fail
 refine (show Calls _ _ _ _ _ from HC.out).mono ?_
 rintro e w2 ⟨q, F', Fs, n, rfl, hd, hn, hst, hfs⟩
 have hb := KBlk.new w2 q m0 w2.heap.size rfl
 have hd2 := hd.keep ((Keeps.refl _ w2).alloc (.cells #[.pointer (some ⟨q, 0, none⟩), .int .i64 0, .int .i64 0, .int .i64 0, .bool false] 86))
 have hF : ¬ F'.all w2.heap.size := fun hf => by have := hd.dv.d.lt _ hf; omega
 have hFs : ¬ Fs.all w2.heap.size := fun hf => by have := theSup.lt hd.su _ hf; omega
 obtain ⟨hst1, -⟩ := HST.out w1 w2 F' HK1.out hst
 have hsz := hd.dv.kp.size
 have hst2 : Step F F' w (w2.alloc (.cells #[.pointer (some ⟨q, 0, none⟩), .int .i64 0, .int .i64 0, .int .i64 0, .bool false] 86)) := hst1.alloc _
 have hsz2 : w.heap.size ≤ w2.heap.size := hst1.keeps.size
 have HQ := Hd (show ∃ (q' k : Nat) (F'' Fs' : Foot) (n' : Nat), Ending.returned (.tuple #[.pointer (some ⟨w2.heap.size, 0, none⟩), .int .i64 0]) = .returned (.tuple #[.pointer (some ⟨k, 0, none⟩), .int .i64 0]) ∧
   Kep W (w2.alloc (.cells #[.pointer (some ⟨q, 0, none⟩), .int .i64 0, .int .i64 0, .int .i64 0, .bool false] 86)) p q' k F'' Fs' (SDev.still ((s.now.set i (theSup.enc 1 L)).set (i + 1) blank) n') ⟨p, i, 0, 1, L⟩ m0 ∧ n' ≤ s.calls + 100 ∧ Step F F'' w (w2.alloc (.cells #[.pointer (some ⟨q, 0, none⟩), .int .i64 0, .int .i64 0, .int .i64 0, .bool false] 86)) ∧ (∀ b, Fs'.all b → w.heap.size ≤ b) ∧ w.heap.size ≤ k from
  ⟨q, w2.heap.size, F', Fs, n, rfl, ⟨hd2, hb, by decide, hL.symm, hF, hFs, hsz⟩, hn, hst2, fun b hb => Nat.le_trans HK1.out.size (hfs b hb), hsz2⟩)
 rw [← hL] at HQ
 clear hb hd2 hF hFs hst1 hsz hst2 hsz2 hd hn hst hfs hL HC HST HK1 HWK HLT
 go_wp2_with fail
 go_ret2
 exact HQ.out
theorem kopen_yes (W w : World) (hT : theSup.T W) (p : Nat) (F : Foot) (s : SDev) (h : Dv W w p F s) (i wh t : Nat) (m : M4) (hm : mayB m = true) (hi : i + 2 ≤ s.now.length) (hw : wh ≤ 1) (ht1 : 1 ≤ t) (h1 : s.now.getD (i + wh) [] = theSup.enc t (encM m)) (h2 : ∀ t' x', theSup.dec (s.now.getD (i + (1 - wh)) []) = some (t', x') → t' < t) (ht : t ≤ 549755813888) :
  Calls Tryz.prog 55 #[.pointer (some ⟨p, 0, none⟩), .int .i64 (i : Int)] w fun e w' => ∃ (q k : Nat) (Fs : Foot), e = .returned (.tuple #[.pointer (some ⟨k, 0, none⟩), .int .i64 0]) ∧ Kep W w' p q k F Fs s ⟨p, i, wh, t, encM m⟩ m ∧ (∀ b, Fs.all b → w.heap.size ≤ b) ∧ w.heap.size ≤ k ∧ Kp w w' := by
 have hl := encM_len (may_fits hm)
 have HC := Hd (duo_open theSup hT h i wh t (encM m) (i : Int) rfl hi hw hl ht1 h1 h2 ht)
 have HTX := Hd (show ∀ (w1 : World) (q : Nat) (Fs : Foot), Duo theSup W w1 p q F Fs s ⟨p, i, wh, t, encM m⟩ → Calls Tryz.prog 84 #[.pointer (some ⟨q, 0, none⟩)] w1 fun e w' => ∃ A c, e = .returned (.slice A (encM m).length c) ∧ Row w' A (fun b => w1.heap.size ≤ b ∧ b < w'.heap.size) (bcells (encM m)) ∧ (encM m).length ≤ c ∧ c ≤ maxLen ∧ Kp w1 w' from fun w1 q Fs hd => text_room hd)
 have HDE := Hd (show ∀ (w1 : World) (A : Option Addr) (c : Nat), Row w1 A (fun _ => True) (bcells (encM m)) → (encM m).length ≤ c → c ≤ maxLen → _ from fun w1 A c hr h1 h2 => mdecode_yes w1 A c m hr h1 h2 hm)
 have HM := Hd hm
 clear h h1 h2 hi hT hw ht1 ht hl hm
 obtain ⟨z, hz⟩ : ∃ z : Int, (i : Int) = z := ⟨_, rfl⟩
 rw [hz] at HC ⊢
 clear hz
 obtain ⟨bo, ep, re, fr⟩ := m
 generalize hL : encM ⟨bo, ep, re, fr⟩ = L at HC HTX HDE
 have HL := Hd hL
 clear hL
 unfold magg at HDE
 go_enter Tryz.func55, Tryz.ntmps55
 go_wp2_with fail
 refine (show Calls _ _ _ _ _ from HC.out).mono ?_
 rintro e w1 ⟨q, Fs, rfl, hd, hf, hk⟩
 have HD := Hd hd
 have HF := Hd hf
 have HK := Hd hk
 clear hd hf hk HC
 go_wp2_with fail
 refine (show Calls _ _ _ _ _ from HTX.out _ _ _ HD.out).mono ?_
 rintro e w2 ⟨A, c, rfl, hr, hlc, hc, hk2⟩
 have HDE2 := Hd (HDE.out w2 A c (hr.mono fun _ _ _ => trivial) hlc hc)
 replace HD := Hd (HD.out.keep hk2)
 replace HK := Hd (HK.out.trans hk2)
 clear hr hlc hc hk2 HTX HDE
 go_wp2_with fail
 refine (show Calls _ _ _ _ _ from HDE2.out).mono ?_
 rintro e w3 ⟨rfl, hk3⟩
 replace HD := Hd (HD.out.keep hk3)
 replace HK := Hd (HK.out.trans hk3)
 clear hk3 HDE2
 go_wp2_with fail
 go_ret2
 have ka : Kp w3 ((w3.alloc (.cells #[.int .i64 bo, .int .i64 ep, .int .i64 re, .bool fr] 32)).alloc (.cells #[.pointer (some ⟨q, 0, none⟩), .int .i64 bo, .int .i64 ep, .int .i64 re, .bool fr] 86)) := ((Keeps.refl _ w3).alloc _).alloc _
 have hb := KBlk.new (w3.alloc (.cells #[.int .i64 bo, .int .i64 ep, .int .i64 re, .bool fr] 32)) q ⟨bo, ep, re, fr⟩ (w3.heap.size + 1) (by simp)
 have hlt : ∀ b, F.all b → b < w3.heap.size := HD.out.dv.d.lt
 have hlts : ∀ b, Fs.all b → b < w3.heap.size := fun b hb => theSup.lt HD.out.su b hb
 have hsz := HD.out.dv.kp.size
 have hsz2 := HK.out.size
 exact ⟨q, w3.heap.size + 1, Fs, rfl, ⟨HD.out.keep ka, hb, HM.out, HL.out.symm, fun hf => by have := hlt _ hf; omega, fun hf => by have := hlts _ hf; omega, by omega⟩, HF.out, by omega, HK.out.trans ka⟩
end Go.Proofs.YticophaepapjoaaGreatDoor
namespace Go.Proofs.YticophaepapjoaaGreatDoor
open Go Go.RowKit Go.Joins Go.Shelf
attribute [local go_sem] Oper.semAt_some
def VE (u v E : Value) (m z : Nat) : Nat → World → Value → Prop
 | 0 => IsV (.agg #[u, v, E])
 | 1 => IsV (.agg #[u, v, E])
 | 2 => IsV (.int .i64 (m : Int))
 | 3 => IsV (.int .i64 (z : Int))
 | 4 => IsV (.int .i64 (z : Int))
 | _ => fun _ _ => True
theorem VE_any {u v E : Value} {m z : Nat} (i : Nat) (w w' : World) (x : Value) (hv : VE u v E m z i w x) : VE u v E m z i w' x := by
 match i, hv with
 | 0, hv => exact hv
 | 1, hv => exact hv
 | 2, hv => exact hv
 | 3, hv => exact hv
 | 4, hv => exact hv
 | _ + 5, _ => trivial
theorem end_any (w : World) (u v : Value) (A : Option Addr) (c : Nat) (G : Nat → Prop) (rs : List LRec) (h1 : u.oneCell' = true) (h2 : v.oneCell' = true) (hr : Row w A G (endsC rs)) (hn : rs.length ≤ 4096) :
  Calls Tryz.prog 136 #[.agg #[u, v, .slice A rs.length c]] w fun e w' => e = .returned (.int .i64 (endAt rs rs.length : Int)) ∧ Kp w w' := by
 have HR := Hd hr
 clear hr
 obtain ⟨m, hm⟩ : ∃ m, rs.length = m := ⟨_, rfl⟩
 have HM := Hd hm
 rw [hm] at hn ⊢
 clear hm
 go_enter Tryz.func136, Tryz.ntmps136
 go_wp2_with fail
 have HK0 := Hd (show Kp w (w.alloc (.cells #[u, v, .slice A m c] 179)) from (Keeps.refl _ w).alloc _)
 have HB := Hd (show (w.alloc (.cells #[u, v, .slice A m c] 179)).heap[w.heap.size]? = some (.cells #[u, v, .slice A m c] 179 (0, 0)) from heap_alloc_new w _)
 have HZ := Hd (show w.heap.size < (w.alloc (.cells #[u, v, .slice A m c] 179)).heap.size from by simp)
 generalize w.alloc (.cells #[u, v, .slice A m c] 179) = w0 at HK0 HB HZ ⊢
 have HS := Hd (show ∀ w', Kp w w' → Calls Tryz.prog 149 #[.agg #[u, v, .slice A m c], .int .i64 (m : Int)] w' fun e w2 => e = .returned (.int .i64 (endAt rs m : Int)) ∧ Kp w' w2 from fun w' hk => by
  have := start_any w' u v A c G rs h1 h2 (HR.out.keep (hk.mono fun _ _ _ => trivial)) (by rw [HM.out]; exact hn) m (by rw [HM.out]; omega)
  rw [HM.out] at this
  exact this)
 refine wp_region_guard (R := Kp) (V := VE u v (.slice A m c) m (endAt rs m)) (w0 := w0) GE (by kernel_rfl) (fun w => Keeps.refl _ w) (fun _ _ _ h k => h.trans k) (fun i w w' v _ hv => VE_any i w w' v hv) (by kernel_rfl) GE_is (fun i o ho hw => (all_wanted (by kernel_rfl) ho hw).elim) ((Keeps.refl _ w0).drew) (each_of ?_) ?_
 ·refine ⟨?_, ?_, ?_, ?_, ?_, trivial⟩ <;> intro hw a1 w3 L
  ·have hb := (L.rel.block w.heap.size trivial HZ.out).trans HB.out
   exact kp_lG ((cell_of_block hb 0).trans rfl) ((cell_of_block hb 1).trans rfl) ((cell_of_block hb 2).trans rfl) rfl (L.o 1)
  ·have hb := (L.rel.block w.heap.size trivial HZ.out).trans HB.out
   exact kp_lG ((cell_of_block hb 0).trans rfl) ((cell_of_block hb 1).trans rfl) ((cell_of_block hb 2).trans rfl) rfl (L.o 1)
  ·have e0 : a1.eval (.tmp 4) = .agg #[u, v, .slice A m c] := L.v 1 4
   have hf : a1.eval (.func 148) = .func (.func 148) #[] #[] := rfl
   refine kp_enter (f := 148) (args := #[.agg #[u, v, .slice A m c]]) ?_ (count_any w3 u v A m c h1 h2) ?_
   ·clear L
    generalize a1.eval = ρ at e0 hf ⊢
    unfold execOp
    go_simp
   ·rintro e w' ⟨rfl, hk⟩
    exact ⟨_, rfl, hk, rfl⟩
  ·have e0 : a1.eval (.tmp 3) = .agg #[u, v, .slice A m c] := L.v 0 3
   have e1 : a1.eval (.tmp 5) = .int .i64 (m : Int) := L.v 2 5
   have hf : a1.eval (.func 149) = .func (.func 149) #[] #[] := rfl
   refine kp_enter (f := 149) (args := #[.agg #[u, v, .slice A m c], .int .i64 (m : Int)]) ?_ (HS.out w3 (HK0.out.trans L.rel)) ?_
   ·clear L
    generalize a1.eval = ρ at e0 e1 hf ⊢
    unfold execOp
    go_simp
   ·rintro e w' ⟨rfl, hk⟩
    exact ⟨_, rfl, hk, rfl⟩
  ·exact kp_assign rfl (L.v 3 6)
 ·intro vs w4 hk4 hlen4 hv
  match vs, hlen4 with
  | [v0, v1, v2, v3, v4], _ =>
   have e4 : v4 = .int .i64 (endAt rs m : Int) := hv 4 2 (by kernel_rfl)
   clear hv
   subst e4
   simp only [putAll, List.map, Act.put, List.setIfInBounds_toArray, List.set_cons_succ, List.set_cons_zero, Exit.then]
   go_wp2_with fail
   go_ret
   exact ⟨rfl, HK0.out.trans hk4⟩
theorem chunk_in (F : Fence) (n : Nat) (hfn : F.fn 137) (hro : F.round = none) (v : Value) (hv : v.oneCell' = true) (w : World) :
  CallsIn F n Tryz.prog 137 #[v, .int .i64 53] w fun e w' => ∃ Bs Bn, e = .returned (.func (.func 172) #[] #[.pointer (some ⟨Bs, 0, none⟩), .pointer (some ⟨Bn, 0, none⟩)]) ∧
   w'.cell? ⟨Bs, 0, none⟩ = some v ∧ w'.cell? ⟨Bn, 0, none⟩ = some (.int .i64 53) ∧ w.heap.size ≤ Bs ∧ w.heap.size ≤ Bn ∧ Kp w w' := by
 refine callsIn_of_wp Tryz.func137 rfl hfn ?_ hro
 simp only [Tryz.ntmps137, List.size_toArray, List.length_cons, List.length_nil, Nat.reduceAdd, Nat.reduceSub, Array.replicate_succ, Array.replicate_zero, List.push_toArray, List.append_toArray, List.nil_append, List.cons_append]
 gi_wp2
 go_ret
 refine ⟨_, _, rfl, ?_, ?_, Nat.le_refl _, Nat.le_succ _, ((Keeps.refl _ w).alloc _).alloc _⟩
 ·rw [World.cell?_alloc_lt _ _ _ (by simp), World.cell?_alloc_at _ _ _ _ rfl]; rfl
 ·rw [World.cell?_alloc_at _ _ _ _ (by simp)]; rfl
theorem chunk_stops (F : Fence) (n : Nat) (hfn : F.fn 172) (hro : F.round = none) (hn : 1 ≤ n) (Bs Bn g o len cap : Nat) (hlc : len ≤ cap) (hlm : len ≤ 1000000000000) (w : World)
  (hBs : w.cell? ⟨Bs, 0, none⟩ = some (.slice (some ⟨g, o, none⟩) len cap)) (hBn : w.cell? ⟨Bn, 0, none⟩ = some (.int .i64 53)) :
  SeqStopsK F n Tryz.prog 172 #[.pointer (some ⟨Bs, 0, none⟩), .pointer (some ⟨Bn, 0, none⟩)] (encCh g o len) (KpB Bs Bn) (fun ys => ys = List.range (chunks len)) (fun pre => ∃ k, k ≤ chunks len ∧ pre = List.range k) (chunks len) w := fun l J Jx W hW hJ _ hY h0 =>
 chunk1_in F n hfn hro hn l Bs Bn g o len cap hlc hlm J Jx (fun s W' h => hJ s W' W'.drew none h ⟨rfl, rfl, rfl, Nat.le_refl _, fun _ _ _ => rfl⟩ (fun r e => by cases e)) hY W
  ((hW.cell (p := ⟨Bs, 0, none⟩) (World.block_lt_of_cell? w _ hBs)).trans hBs) ((hW.cell (p := ⟨Bn, 0, none⟩) (World.block_lt_of_cell? w _ hBn)).trans hBn) h0
end Go.Proofs.YticophaepapjoaaGreatDoor
