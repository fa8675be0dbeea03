/-
  CtCode, CtParse: texts of mine, joined.
-/
import Derived.Test.YtemkjodkmehffaaGreatDoorAllM19
import Derived.Test.YtemkjodkmehffaaGreatDoorAllM12
import Derived.Test.YtemkjodkmehffaaGreatDoorAllM22
import Derived.Test.YtemkjodkmehffaaGreatDoorAllM08
import Derived.Test.YtemkjodkmehffaaGreatDoorAllM23
import Derived.StillTailTactics
namespace Go.Proofs.YtemkjodkmehffaaGreatDoor
open Go Go.RowKit Go.Joins
theorem putsZ_app (l r : List Int) : putsZ (l ++ r) = putsZ l ++ putsZ r := by simp [putsZ]
theorem encC_next (e t : Int) (l : List Int) (k : Nat) (h : k < l.length) : encC e t (l.take (k + 1)) = encC e t (l.take k) ++ putsZ [l[k]] := by
 unfold encC
 rw [List.take_succ_eq_append_getElem h, ← List.cons_append, ← List.cons_append, putsZ_app]
structure EncQ (w wr : World) (A : Option Addr) (m c : Nat) (L : List UInt8) : Prop where
 len : m = L.length
 mc : m ≤ c
 cm : c ≤ maxLen
 none : A = none → c = 0
 row : Row wr A (fun b => w.heap.size ≤ b ∧ b < wr.heap.size) (bcells L)
 kp : Kp w wr
theorem put_on {w wr : World} {A : Option Addr} {m c : Nat} {L : List UInt8} (h : EncQ w wr A m c L) (ns : List Int) (C : Array Value) (hC : C.toList = ns.map (Value.int .i64)) (hn : ∀ n ∈ ns, -9223372036854775808 ≤ n ∧ n < 9223372036854775808) (hl : L.length ≤ 549755813888) (k : Nat) (hk : k = ns.length) (hk2 : ns.length ≤ 100) :
  Calls Tryz.prog 55 #[.slice A m c, .slice (some ⟨wr.heap.size, 0, Option.none⟩) k k] (wr.alloc (.cells C 2)) fun e w' => ∃ A' m' c', e = .returned (.slice A' m' c') ∧ EncQ w w' A' m' c' (L ++ putsZ ns) ∧ Kp wr w' := by
 subst hk
 obtain ⟨rfl, h1, h2, h3, h4, h5⟩ := h
 have ka : Kp wr (wr.alloc (.cells C 2)) := (Keeps.refl _ wr).alloc _
 refine (put_any A (some ⟨wr.heap.size, 0, Option.none⟩) c ns.length (fun _ => True) (fun _ => True) L ns _ ((h4.alloc _).mono fun _ _ _ => trivial) (Row.fresh (F := fun _ => True) wr C 2 (0, 0) _ rfl trivial _ hC) hn hl (by omega)).mono ?_
 rintro e w' ⟨v, rfl, ho, hk2⟩
 obtain ⟨A', c', rfl, g1, g2, g3, g4⟩ := own_bytes ho
 exact ⟨A', _, c', rfl, ⟨rfl, g1, g2, g3, g4.mono fun b _ hb => ⟨Nat.le_trans (Nat.le_trans h5.size ka.size) hb.1, hb.2⟩, (h5.trans ka).trans hk2⟩, ka.trans hk2⟩
set_option maxRecDepth 100000 in
set_option maxHeartbeats 2000000 in
theorem text_any (w : World) (R : Nat → Prop) (r : Nat) (e t : Int) (l : List Int) (h : RgR w R r e l) (ht0 : 0 ≤ t) (ht1 : t ≤ 1099511627776) :
  Calls Tryz.prog 28 #[.agg #[.pointer (some ⟨r, 0, none⟩), .int .i64 t]] w fun x w' => ∃ A m c, x = .returned (.slice A m c) ∧ EncQ w w' A m c (encC e t l) := by
 obtain ⟨hr, -, A1, c1, A2, c2, hc⟩ := h
 have hnum := ringB_num hr
 have hl5 := (nodes_len (ring_nodes hr)).2
 have hlr := nodes_each (ring_nodes hr)
 have HLR := Lib.hid (show ∀ (k : Nat) (hk : k < l.length), -9223372036854775808 ≤ l[k] ∧ l[k] < 9223372036854775808 from fun k hk => by have := hlr _ (List.getElem_mem hk); omega)
 have HLEN := Lib.hid (show ∀ k, (encC e t (l.take k)).length ≤ 1000 from fun k => by
  have := putsZ_len (e :: t :: l.take k) (fun n hn => by
   simp only [List.mem_cons] at hn
   rcases hn with rfl | rfl | hn
   ·omega
   ·omega
   ·have := hlr n (List.mem_of_mem_take hn); omega)
  simp only [List.length_cons, List.length_take] at this
  unfold encC
  omega)
 have HE := Lib.hid (fun w1 (hk : Kp w w1) => repoch_any w1 r e (hk.cell hc.e0 trivial))
 have HN := Lib.hid (fun w1 (hk : Kp w w1) => rnodes_own w1 r (fun _ => True) e l A1 c1 A2 c2 ((hc.mono fun _ _ _ => trivial).keep trivial hk) hl5)
 have HP1 := Lib.hid (fun wr (hk : Kp w wr) => put_on (w := w) (wr := wr) (A := none) (m := 0) (c := 0) (L := []) ⟨rfl, Nat.le_refl _, Nat.zero_le _, fun _ => rfl, Row.nil _ _ _, hk⟩ [e, t] #[.int .i64 e, .int .i64 t] rfl (fun n hn => by
  simp only [List.mem_cons, List.not_mem_nil, or_false] at hn
  rcases hn with rfl | rfl <;> omega) (by simp) 2 rfl (by simp))
 have HNX := Lib.hid (fun k h => encC_next e t l k h)
 obtain ⟨N, hN⟩ : ∃ N, l.length = N := ⟨_, rfl⟩
 have HNN := Lib.hid hN
 rw [hN] at hl5
 have H0 := Lib.hid (show ([] : List UInt8) ++ putsZ [e, t] = encC e t (l.take 0) from rfl)
 clear hr hc hnum hlr hN ht0 ht1
 go_enter Tryz.func28, Tryz.ntmps28
 go_upto_region 1 with fail
 have hk1 : Kp w (w.alloc (.cells #[.pointer (some ⟨r, 0, none⟩), .int .i64 t] 37)) := (Keeps.refl _ w).alloc _
 have d0 : (w.alloc (.cells #[.pointer (some ⟨r, 0, none⟩), .int .i64 t] 37)).cell? ⟨w.heap.size, 0, none⟩ = some (.pointer (some ⟨r, 0, none⟩)) := (cell_of_block (heap_alloc_new w _) 0).trans rfl
 have d1 : (w.alloc (.cells #[.pointer (some ⟨r, 0, none⟩), .int .i64 t] 37)).cell? ⟨w.heap.size, 1, none⟩ = some (.int .i64 t) := (cell_of_block (heap_alloc_new w _) 1).trans rfl
 obtain ⟨gg, hg⟩ : ∃ gg, w.heap.size = gg := ⟨_, rfl⟩
 rw [hg] at d0 d1 ⊢
 generalize w.alloc (.cells #[.pointer (some ⟨r, 0, none⟩), .int .i64 t] 37) = w1 at hk1 d0 d1 ⊢
 have HK1 := Lib.hid hk1
 have HEW := Lib.hid (show Calls Tryz.prog 43 #[.pointer (some ⟨r, 0, none⟩)] w1.drew fun x w' => x = .returned (.int .i64 e) ∧ w' = w1.drew from (HE.out _ hk1.drew).mono fun _ _ h => ⟨h.1, h.2.symm⟩)
 clear hk1 hg HE
 go_still_tail 5, (by kernel_rfl)
 still_call HEW.out
 repeat still_step
 refine wpStill_nil ?_
 change wpList _ _ _ _ _ w1.drew
 have HKD := Lib.hid (show Kp w w1.drew from HK1.out.drew)
 have hd0 : w1.drew.cell? ⟨gg, 0, none⟩ = some (.pointer (some ⟨r, 0, none⟩)) := d0
 clear d0 d1 HK1 HEW
 generalize w1.drew = wd at HKD hd0 ⊢
 go_wp2_with fail
 refine (show Calls _ _ _ _ _ from HP1.out wd HKD.out).mono ?_
 rintro x w2 ⟨A, m, c, rfl, hq, hk2⟩
 rw [H0.out] at hq
 have hd2 := hk2.cell hd0 trivial
 have HQ := Lib.hid hq
 clear hq hk2 HP1 hd0
 go_wp2_with fail
 refine (show Calls _ _ _ _ _ from HN.out w2 HQ.out.kp).mono ?_
 rintro x w3 ⟨v, rfl, ho, hk3⟩
 obtain ⟨B, cB, rfl, -, hrow⟩ := own_slice ho
 have HR := Lib.hid (show Row w3 B (fun _ => True) (l.map (Value.int .i64)) from hrow.mono fun _ _ _ => trivial)
 have HQ3 := Lib.hid (show EncQ w w3 A m c (encC e t (l.take 0)) from ⟨HQ.out.len, HQ.out.mc, HQ.out.cm, HQ.out.none, (HQ.out.row.keep (hk3.mono fun _ _ _ => trivial)).mono fun b _ hb => ⟨hb.1, Nat.lt_of_lt_of_le hb.2 hk3.size⟩, HQ.out.kp.trans hk3⟩)
 have HK3 := Lib.hid (Keeps.refl (fun _ => True) w3)
 rw [HNN.out]
 clear ho hrow hk3 hd2 HQ HN HKD
 go_wp2_with fail
 go_loopw [3, 17] (fun v i wr => ∃ (k m : Nat) (A : Option Addr) (c : Nat), k ≤ N ∧ i = .int .i64 (k : Int) ∧ v = .slice A m c ∧ Hid (EncQ w wr A m c (encC e t (l.take k))) ∧ Hid (Kp w3 wr)) (fun _ i _ => N - (intOf i).toNat)
 case atStart => exact ⟨0, m, A, c, Nat.zero_le _, rfl, rfl, HQ3, HK3⟩
 case round =>
  clear HQ3 HK3
  obtain ⟨k, m, A, c, hk, rfl, rfl, HQ, HK⟩ := hrel
  by_cases hlt : k < N
  ·have hlt' : (k : Int) < (N : Int) := by omega
   have hkl : k < l.length := by rw [HNN.out]; exact hlt
   obtain ⟨b, o, rfl, -, hcell⟩ := (HR.out.keep HK.out).at_ (k := k) (by rw [List.length_map]; exact hkl)
   rw [List.getElem_map] at hcell
   have HX := Lib.hid (HNX.out k hkl)
   have HP := Lib.hid (put_on HQ.out [l[k]] #[.int .i64 l[k]] rfl (fun n hn => by rw [List.mem_singleton.1 hn]; exact HLR.out k hkl) (by have := HLEN.out k; omega) 1 rfl (by simp))
   generalize l[k] = x at hcell HX HP
   clear hkl
   go_wp2_with fail
   refine (show Calls _ _ _ _ _ from HP.out).mono ?_
   rintro y w4 ⟨A', m', c', rfl, hq, hk4⟩
   rw [← HX.out] at hq
   have HQ4 := Lib.hid hq
   have HK4 := Lib.hid (HK.out.trans hk4)
   clear hq hk4 HP HX hcell
   go_wp2_with fail
   go_roundw
   case rel => exact ⟨k + 1, m', A', c', hlt, by go_num, rfl, HQ4, HK4⟩
   case measure => simp [intOf]; omega
  ·obtain rfl : k = N := by omega
   have hlt' : ¬ ((k : Int) < (k : Int)) := by omega
   have HF := Lib.hid (show EncQ w wr A m c (encC e t l) from by
    have := HQ.out
    rwa [List.take_of_length_le (by rw [HNN.out]; exact Nat.le_refl _)] at this)
   clear hlt
   go_wp2_with fail
   go_ret
   exact ⟨A, m, c, rfl, HF.out⟩
theorem getZ_nodes (l : List Int) (k : Nat) (h : k < l.length) (hb : ∀ x ∈ l, 1 ≤ x ∧ x ≤ 5) : getZ (putsZ (l.drop k)) = (l[k], (putZ l[k]).length, 0) ∧ (putsZ (l.drop k)).drop (putZ l[k]).length = putsZ (l.drop (k + 1)) ∧ (putsZ (l.drop k)).length = (putZ l[k]).length + (putsZ (l.drop (k + 1))).length := by
 have hx := hb _ (List.getElem_mem h)
 have e : putsZ (l.drop k) = putZ l[k] ++ putsZ (l.drop (k + 1)) := by
  rw [List.drop_eq_getElem_cons h]; rfl
 rw [e]
 exact ⟨getZ_put _ _ (by omega) (by omega), List.drop_left, by rw [List.length_append]⟩
theorem putZ_some (n : Int) : 0 < (putZ n).length := vin_pos _
def IBlk (w : World) (g : Nat) (z : Int) : Prop := w.heap[g]? = some (.cells #[.int .i64 z] 2 (0, 0))
theorem IBlk.keep {w w' : World} {g : Nat} {z : Int} {F : Nat → Prop} (h : IBlk w g z) (hk : Keeps F w w') (hq : F g) : IBlk w' g z := (hk.block g hq (Array.getElem?_eq_some_iff.1 h).1).trans h
theorem IBlk.c0 {w : World} {g : Nat} {z : Int} (h : IBlk w g z) : w.cell? ⟨g, 0, none⟩ = some (.int .i64 z) := cell_of_block h 0
def SBl23 (w : World) (g : Nat) (p : Value) (z : Int) : Prop := w.heap[g]? = some (.cells #[p, .int .i64 z] 37 (0, 0))
theorem SBl23.keep {w w' : World} {g : Nat} {p : Value} {z : Int} {F : Nat → Prop} (h : SBl23 w g p z) (hk : Keeps F w w') (hq : F g) : SBl23 w' g p z := (hk.block g hq (Array.getElem?_eq_some_iff.1 h).1).trans h
structure Left (w wr : World) (A : Option Addr) (m c : Nat) (L : List UInt8) : Prop where
 len : m = L.length
 mc : m ≤ c
 cm : c ≤ maxLen
 row : Row wr A (fun b => b < w.heap.size) (bcells L)
set_option maxRecDepth 100000 in
set_option maxHeartbeats 4000000 in
theorem parse_yes (w : World) (A : Option Addr) (c : Nat) (e t : Int) (l : List Int) (hr : ringB e l = true) (het : e ≤ t) (ht : t ≤ 1099511627776) (hrow : Row w A (fun _ => True) (bcells (encC e t l))) (m : Nat) (hm : m = (encC e t l).length) (hmc : m ≤ c) (hcm : c ≤ maxLen) :
  Calls Tryz.prog 30 #[.slice A m c] w fun x w' => ∃ r, x = .returned (.tuple #[.agg #[.pointer (some ⟨r, 0, none⟩), .int .i64 t], .bool true]) ∧ RgR w' (fun b => w.heap.size ≤ b ∧ b < w'.heap.size) r e l ∧ Kp w w' := by
 have hnum := ringB_num hr
 have hno := ring_nodes hr
 have hl5 := (nodes_len hno).2
 have hlr := nodes_each hno
 have hlen : m ≤ 40 := by rw [hm]; exact encC_len ⟨by omega, by omega⟩ ⟨by omega, ht⟩ hno
 have HRW := Lib.hid (show Row w A (fun b => b < w.heap.size) (bcells (encC e t l)) from hrow.lt.mono fun b _ hb => hb.2)
 obtain ⟨n0, hn0⟩ : ∃ n0, (putsZ [e, t]).length = n0 := ⟨_, rfl⟩
 have henc : encC e t l = putsZ [e, t] ++ putsZ l := by show putsZ ([e, t] ++ l) = _; rw [putsZ_app]
 have HZ := Lib.hid (show allZ 2 (encC e t l) = ([e, t], n0, 0) from by
  have := allZ_puts [e, t] (putsZ l) (fun n hn => by
   simp only [List.mem_cons, List.not_mem_nil, or_false] at hn
   rcases hn with rfl | rfl <;> omega)
  rw [henc, ← hn0]
  exact this)
 have hn0m : n0 ≤ m := by rw [hm, henc, List.length_append]; omega
 have HDR := Lib.hid (show (encC e t l).drop n0 = putsZ (l.drop 0) from by rw [henc, ← hn0]; exact List.drop_left)
 have HGET := Lib.hid (fun k h => getZ_nodes l k h hlr)
 have HNEW := Lib.hid (fun w1 A1 c1 (hr1 : Row w1 A1 (fun _ => True) (l.map (Value.int .i64))) (h1 : l.length ≤ c1) (h2 : c1 ≤ maxLen) => rnew_yes w1 A1 c1 l e hr1 h1 h2 hr)
 have HRB := Lib.hid hr
 have HLR := Lib.hid hlr
 have HM := Lib.hid hm
 have HALL := Lib.hid (show ∀ (w2 : World) (q : Nat), Kp w w2 → w.heap.size ≤ q → IBlk w2 (q + 1) 0 → IBlk w2 (q + 2) 0 → Row w2 (some ⟨q + 3, 0, none⟩) (fun b => b = q + 3) [.pointer (some ⟨q + 1, 0, none⟩), .pointer (some ⟨q + 2, 0, none⟩)] →
   Calls Tryz.prog 57 #[.slice A m c, .slice (some ⟨q + 3, 0, none⟩) 2 2] w2 fun x w' => x = .returned (.tuple #[.int .i64 (n0 : Int), .int .i64 0]) ∧ Kp w w' ∧ IBlk w' (q + 1) e ∧ IBlk w' (q + 2) t ∧ Keeps (fun b => b ≠ q + 1 ∧ b ≠ q + 2) w2 w' from fun w2 q hk hq h1 h2 hp => by
  rw [hm]
  refine (show Calls _ _ _ _ _ from all_any A (some ⟨q + 3, 0, none⟩) c 2 (fun b => b ≠ q + 1 ∧ b ≠ q + 2) (encC e t l) [some ⟨q + 1, 0, none⟩, some ⟨q + 2, 0, none⟩] w2 ((HRW.out.keep (hk.mono fun _ _ _ => trivial)).mono fun b _ (hb : b < w.heap.size) => by omega) (hp.mono fun b _ (hb : b = q + 3) => by omega) (fun a ha => by
   simp only [List.mem_cons, Option.some.injEq, List.not_mem_nil, or_false] at ha
   rcases ha with rfl | rfl
   ·exact ⟨⟨⟨_, h1.c0⟩, unfrozen_of_block h1 0⟩, fun h => h.1 rfl⟩
   ·exact ⟨⟨⟨_, h2.c0⟩, unfrozen_of_block h2 0⟩, fun h => h.2 rfl⟩) (by omega) (by omega) (by simp)).mono ?_
  rintro x w' ⟨g1, g2⟩
  rw [show ([some (⟨q + 1, 0, none⟩ : Addr), some ⟨q + 2, 0, none⟩] : List (Option Addr)).length = 2 from rfl, HZ.out] at g1 g2
  have g2' : w' = (w2.setCell ⟨q + 1, 0, none⟩ (.int .i64 e)).setCell ⟨q + 2, 0, none⟩ (.int .i64 t) := g2
  have hks : Keeps (fun b => b ≠ q + 1 ∧ b ≠ q + 2) w2 w' := by
   rw [g2']
   exact ((Keeps.refl _ w2).setCell (p := ⟨q + 1, 0, none⟩) (.inr (fun h => h.1 rfl)) _).setCell (p := ⟨q + 2, 0, none⟩) (.inr (fun h => h.2 rfl)) _
  refine ⟨by rw [g1]; rfl, ((hk.mono fun _ _ _ => trivial).trans hks).mono fun b hb _ => by omega, ?_, ?_, hks⟩
  ·rw [g2']
   exact IBlk.keep (F := fun b => b ≠ q + 2) ((block_setCell h1 _).trans rfl) ((Keeps.refl _ _).setCell (p := ⟨q + 2, 0, none⟩) (.inr (fun h => h rfl)) _) (by omega)
  ·rw [g2']
   exact (block_setCell (IBlk.keep (F := fun b => b ≠ q + 1) h2 ((Keeps.refl _ _).setCell (p := ⟨q + 1, 0, none⟩) (.inr (fun h => h rfl)) _) (by omega)) _).trans rfl)
 have HA := Lib.hid (show ∀ w2, w2 = (((w.alloc (.cells #[.pointer none, .int .i64 0] 37)).alloc (.cells #[.int .i64 0] 2)).alloc (.cells #[.int .i64 0] 2)).alloc (.cells #[.pointer (some ⟨w.heap.size + 1, 0, none⟩), .pointer (some ⟨w.heap.size + 2, 0, none⟩)] 110) →
   SBl23 w2 w.heap.size (.pointer none) 0 ∧ IBlk w2 (w.heap.size + 1) 0 ∧ IBlk w2 (w.heap.size + 2) 0 ∧ Row w2 (some ⟨w.heap.size + 3, 0, none⟩) (fun b => b = w.heap.size + 3) [.pointer (some ⟨w.heap.size + 1, 0, none⟩), .pointer (some ⟨w.heap.size + 2, 0, none⟩)] ∧ Kp w w2 from by
  rintro w2 rfl
  have s1 : ∀ o, (w.alloc o).heap.size = w.heap.size + 1 := fun o => by simp
  have s2 : ∀ o o', ((w.alloc o).alloc o').heap.size = w.heap.size + 2 := fun o o' => by simp
  have s3 : ∀ o o' o'', (((w.alloc o).alloc o').alloc o'').heap.size = w.heap.size + 3 := fun o o' o'' => by simp
  have h1 : SBl23 (w.alloc (.cells #[.pointer none, .int .i64 0] 37)) w.heap.size (.pointer none) 0 := heap_alloc_new w _
  have h2 := heap_alloc_new (w.alloc (.cells #[.pointer none, .int .i64 0] 37)) (.cells #[.int .i64 0] 2)
  rw [s1] at h2
  have h3 := heap_alloc_new ((w.alloc (.cells #[.pointer none, .int .i64 0] 37)).alloc (.cells #[.int .i64 0] 2)) (.cells #[.int .i64 0] 2)
  rw [s2] at h3
  exact ⟨h1.keep (F := fun _ => True) ((((Keeps.refl _ _).alloc _).alloc _).alloc _) trivial, IBlk.keep (F := fun _ => True) h2 (((Keeps.refl _ _).alloc _).alloc _) trivial, IBlk.keep (F := fun _ => True) h3 ((Keeps.refl _ _).alloc _) trivial,
   Row.fresh (F := fun b => b = w.heap.size + 3) _ #[.pointer (some ⟨w.heap.size + 1, 0, none⟩), .pointer (some ⟨w.heap.size + 2, 0, none⟩)] 110 (0, 0) _ (s3 _ _ _).symm rfl _ rfl, ((((Keeps.refl _ _).alloc _).alloc _).alloc _).alloc _⟩)
 obtain ⟨N, hN⟩ : ∃ N, l.length = N := ⟨_, rfl⟩
 have HNN := Lib.hid hN
 rw [hN] at hl5
 have t1 : decide (t < e) = false := by simp; omega
 have t2 : decide (1099511627776 < t) = false := by simp; omega
 have HE0 := Lib.hid hnum
 unfold maxLen at hcm
 clear hr hrow hm hnum hno hlr hn0 henc hN het ht
 go_enter Tryz.func30, Tryz.ntmps30
 go_wp2_with fail
 obtain ⟨a1, a2, a3, a4, a5⟩ := HA.out _ rfl
 obtain ⟨q, hq⟩ : ∃ q, w.heap.size = q := ⟨_, rfl⟩
 rw [hq] at a1 a2 a3 a4 a5 ⊢
 have HGQ := Lib.hid hq
 generalize World.alloc (World.alloc (World.alloc (World.alloc _ _) _) _) _ = w1 at a1 a2 a3 a4 a5 ⊢
 have HC := Lib.hid (HALL.out w1 q a5 (Nat.le_of_eq hq) a2 a3 a4)
 have HS := Lib.hid a1
 clear hq HA a1 a2 a3 a4 a5 HALL
 refine (show Calls _ _ _ _ _ from HC.out).mono ?_
 rintro x w2 ⟨rfl, hk, h1, h2, hks⟩
 have HS2 := Lib.hid (HS.out.keep hks (by omega))
 have HB1 := Lib.hid h1
 have HB2 := Lib.hid h2
 have HK := Lib.hid hk
 have e1 := h1.c0
 have e2 := h2.c0
 clear hk h1 h2 hks HC HS
 have hN0 : 0 < N := by have := (nodes_len (ring_nodes HRB.out)).1; have := HNN.out; omega
 have hmn : m - n0 = (putsZ (l.drop 0)).length := by rw [HM.out, ← HDR.out, List.length_drop]
 have hpos : 0 < (putsZ (l.drop 0)).length := by
  have := (HGET.out 0 (by rw [HNN.out]; exact hN0)).2.2
  have := putZ_some (l[0]'(by rw [HNN.out]; exact hN0))
  omega
 have hca : ¬ c = n0 := by omega
 have HL0 := Lib.hid (show Left w w2 (A.map (·.add n0)) (m - n0) (c - n0) (putsZ (l.drop 0)) from ⟨hmn, by omega, by unfold maxLen; omega, by
  have hcut := HRW.out.cut (k := n0) (cap := c) (by rw [bcells_len, ← HM.out]; exact hn0m) (by rw [bcells_len, ← HM.out]; exact hmc)
  rw [if_neg hca, bcells, ← List.map_drop] at hcut
  have h2 := hcut.keep (HK.out.mono fun _ _ _ => trivial)
  rw [← HDR.out]
  exact h2⟩)
 have HKr := Lib.hid (Keeps.refl (fun _ => True) w2)
 clear hmn hpos
 go_wp2_with fail
 go_loopw [8, 9] (fun v8 v9 wr => ∃ (k : Nat) (A8 : Option Addr) (c8 : Nat) (A9 : Option Addr) (m9 c9 : Nat), k ≤ N ∧ m9 ≤ 40 ∧ v8 = .slice A8 k c8 ∧ v9 = .slice A9 m9 c9 ∧ Hid (wr.ownsRow w2.heap.size 3 1 (.slice A8 k c8) k ((l.take k).map (Value.int .i64))) ∧ Hid (Left w wr A9 m9 c9 (putsZ (l.drop k))) ∧ Hid (Kp w2 wr)) (fun _ v9 _ => match v9 with | .slice _ n _ => n | _ => 0)
 case atStart => exact ⟨0, none, 0, _, _, _, Nat.zero_le _, by omega, rfl, rfl, Lib.hid (World.ownsRow_nil _ _ _ _), HL0, HKr⟩
 case round =>
  clear HL0 HKr hca
  obtain ⟨k, A8, c8, A9, m9, c9, hk, hm40, rfl, rfl, HO, HL, HKR⟩ := hrel
  have hm9 := HL.out.len
  have hmc9 := HL.out.mc
  have hcm9 := HL.out.cm
  unfold maxLen at hcm9
  by_cases hlt : k < N
  ·have hkl : k < l.length := by rw [HNN.out]; exact hlt
   obtain ⟨g1, g2, g3⟩ := HGET.out k hkl
   have hps := putZ_some l[k]
   have hp10 := putZ_len l[k] (by have := HLR.out _ (List.getElem_mem hkl); omega) (by have := HLR.out _ (List.getElem_mem hkl); omega)
   have hm0 : (0 : Int) < (m9 : Int) := by omega
   have htk : (l.take (k + 1)).map (Value.int .i64) = (l.take k).map (Value.int .i64) ++ [.int .i64 l[k]] := by
    rw [List.take_succ_eq_append_getElem hkl, List.map_append]; rfl
   have HG := Lib.hid (get_n A9 c9 m9 (fun b => b < w.heap.size) (putsZ (l.drop k)) wr HL.out.row (by omega) hm9 l[k] (putZ l[k]).length 0 g1)
   generalize l[k] = y at g2 g3 hps hp10 htk HG
   obtain ⟨p, hp⟩ : ∃ p, (putZ y).length = p := ⟨_, rfl⟩
   rw [hp] at g2 g3 hps hp10 HG
   have hpm : p ≤ m9 := by omega
   have hpc : p ≤ c9 := by omega
   have HT := Lib.hid htk
   have HG2 := Lib.hid g2
   have hml : m9 - p = (putsZ (l.drop (k + 1))).length := by omega
   have HML := Lib.hid hml
   have HM9 := Lib.hid hm9
   have hlt8 := HO.out.lt
   have hsz := HKR.out.size
   clear g1 g2 g3 hp htk hml hm9 hkl hp10
   go_wp2_with fail
   refine (show Calls _ _ _ _ _ from HG.out).mono ?_
   rintro x w4 ⟨rfl, rfl⟩
   have kal : Kp wr (wr.alloc (.cells #[.int .i64 y] 3)) := (Keeps.refl _ wr).alloc _
   go_wp2_with (at_builtin; refine int_elem.list_append rfl (.tmp 47) (.tmp 49) _ rfl rfl (kal.own HO.out fun _ _ => trivial) rfl (src_one Tryz.underlying48 wr (.int .i64 y) 3 rfl _ rfl 1) ?c3 ?c4 ?c5 ?_)
   case c3 => unfold maxLen; omega
   case c4 => omega
   case c5 => simp; omega
   intro v8 w5 ho5 hg5 hb5
   have hk5 : Kp w2 w5 := (HKR.out.trans kal).grown hg5 fun b hb => (hlt8 b hb).1
   have hkr5 : Keeps (fun b => b < w.heap.size) wr w5 := ((kal.mono fun _ _ _ => trivial : Keeps (fun b => b < w.heap.size) wr _).trans (Keeps.of_grown hg5 fun b hb _ hh => by have := (hlt8 b hb).1; have := HK.out.size; omega))
   obtain ⟨A8', c8', e8, -⟩ := own_formC ho5
   subst e8
   have HO5 := Lib.hid (show w5.ownsRow w2.heap.size 3 1 (.slice A8' (k + 1) c8') (k + 1) ((l.take (k + 1)).map (Value.int .i64)) from by rw [HT.out, List.map_take]; exact ho5)
   have HK5 := Lib.hid hk5
   have HR5 := Lib.hid (HL.out.row.keep hkr5)
   clear ho5 hg5 hb5 hk5 hkr5 kal hlt8 HO HKR HG HT
   by_cases hcp : c9 = p
   ·have HL5 := Lib.hid (show Left w w5 A9 0 0 (putsZ (l.drop (k + 1))) from ⟨by have := HML.out; omega, Nat.le_refl _, Nat.zero_le _, by
     have hcut := HR5.out.cut (k := p) (cap := c9) (by rw [bcells_len, ← HM9.out]; exact hpm) (by rw [bcells_len, ← HM9.out]; exact hmc9)
     rw [if_pos hcp, bcells, ← List.map_drop, HG2.out] at hcut
     exact hcut⟩)
    clear HL HM9 HML HG2 HR5
    subst hcp
    go_wp2_with fail
    go_roundw
    case rel => exact ⟨k + 1, A8', c8', A9, _, _, hlt, Nat.zero_le _, by go_num, rfl, HO5, HL5, HK5⟩
    case measure => simp; omega
   ·have HL5 := Lib.hid (show Left w w5 (A9.map (·.add p)) (m9 - p) (c9 - p) (putsZ (l.drop (k + 1))) from ⟨HML.out, by omega, by unfold maxLen; omega, by
     have hcut := HR5.out.cut (k := p) (cap := c9) (by rw [bcells_len, ← HM9.out]; exact hpm) (by rw [bcells_len, ← HM9.out]; exact hmc9)
     rw [if_neg hcp, bcells, ← List.map_drop, HG2.out] at hcut
     exact hcut⟩)
    clear HL HM9 HML HG2 HR5
    go_wp2_with fail
    go_roundw
    case rel => exact ⟨k + 1, A8', c8', _, _, _, hlt, by omega, by go_num, rfl, HO5, HL5, HK5⟩
    case measure => simp; omega
  ·obtain rfl : k = N := by omega
   have hm0 : m9 = 0 := by
    rw [hm9, List.drop_eq_nil_of_le (by rw [HNN.out]; exact Nat.le_refl _)]; rfl
   subst hm0
   have hrow8 : Row wr A8 (fun _ => True) (l.map (Value.int .i64)) ∧ l.length ≤ c8 ∧ c8 ≤ maxLen := by
    have ho := HO.out
    rw [List.take_of_length_le (by rw [HNN.out]; exact Nat.le_refl _)] at ho
    obtain ⟨A', c', e', -, hr'⟩ := own_slice ho
    injection e' with x1 x2 x3
    subst x1 x3
    exact ⟨hr'.mono fun _ _ _ => trivial, by rw [HNN.out]; exact (own_cap ho).1, (own_cap ho).2.1⟩
   have HNW := Lib.hid (HNEW.out wr A8 c8 hrow8.1 hrow8.2.1 hrow8.2.2)
   rw [HNN.out] at HNW
   have e1' := (HB1.out.keep HKR.out trivial).c0
   have HB2r := Lib.hid (HB2.out.keep HKR.out trivial)
   have HSr := Lib.hid (HS2.out.keep HKR.out trivial)
   have HKr := Lib.hid (HK.out.trans HKR.out)
   clear hm9 hmc9 hcm9 hrow8 HO HL HKR HNEW e1 e2 hlt
   go_wp2_with fail
   refine (show Calls _ _ _ _ _ from HNW.out).mono ?_
   rintro x w5 ⟨r, B, cb, D, cd, rfl, hrg, hr1, hr2, hk5⟩
   have e2' := (HB2r.out.keep hk5 trivial).c0
   have hs5 := HSr.out.keep hk5 trivial
   have s0 : w5.cell? ⟨q, 0, none⟩ = some (.pointer none) := cell_of_block hs5 0
   have s1 : w5.cell? ⟨q, 1, none⟩ = some (.int .i64 0) := cell_of_block hs5 1
   have f0 : w5.frozen? ⟨q, 0, none⟩ = false := unfrozen_of_block hs5 0
   have f1 : w5.frozen? ⟨q, 1, none⟩ = false := unfrozen_of_block hs5 1
   have HF := Lib.hid (show ∀ w6, w6 = (w5.setCell ⟨q, 0, none⟩ (.pointer (some ⟨r, 0, none⟩))).setCell ⟨q, 1, none⟩ (.int .i64 t) → SBl23 w6 q (.pointer (some ⟨r, 0, none⟩)) t ∧ RgR w6 (fun b => w.heap.size ≤ b ∧ b < w6.heap.size) r e l ∧ Kp w w6 from by
    rintro w6 rfl
    have hsz : ((w5.setCell ⟨q, 0, none⟩ (.pointer (some ⟨r, 0, none⟩))).setCell ⟨q, 1, none⟩ (.int .i64 t)).heap.size = w5.heap.size := by simp [World.setCell]
    have kk : Keeps (fun b => b ≠ q) w5 ((w5.setCell ⟨q, 0, none⟩ (.pointer (some ⟨r, 0, none⟩))).setCell ⟨q, 1, none⟩ (.int .i64 t)) := ((Keeps.refl _ w5).setCell (p := ⟨q, 0, none⟩) (.inr (fun h => h rfl)) _).setCell (p := ⟨q, 1, none⟩) (.inr (fun h => h rfl)) _
    have hqr : q < wr.heap.size := (Array.getElem?_eq_some_iff.1 HSr.out).1
    refine ⟨(block_setCell (block_setCell hs5 _) _).trans rfl, ⟨HRB.out, ⟨Nat.le_trans HKr.out.size hr1, by rw [hsz]; exact hr2⟩, B, cb, D, cd, ?_⟩, ?_⟩
    ·exact ((hrg.keep (F := fun b => wr.heap.size ≤ b ∧ b < w5.heap.size) ⟨hr1, hr2⟩ (kk.mono fun b _ hb => by omega))).mono fun b _ hb => ⟨Nat.le_trans HKr.out.size hb.1, by rw [hsz]; exact hb.2⟩
    ·exact ((HKr.out.trans hk5).mono fun _ _ _ => trivial : Keeps (fun b => b ≠ q) w w5).trans kk |>.mono fun b hb _ => by have := HGQ.out; omega)
   clear hrg hr1 hr2 hk5 hs5 HSr HKr HB2r HNW
   go_wp2_with fail
   obtain ⟨a1, a2, a3⟩ := HF.out _ rfl
   refine bodyPost_ret (v := .tuple #[.agg #[.pointer (some ⟨r, 0, none⟩), .int .i64 t], .bool true]) ?_ rfl ⟨r, rfl, a2, a3⟩
   generalize World.setCell (World.setCell w5 _ _) _ _ = W6 at a1 ⊢
   have z0 : W6.cell? ⟨q, 0, none⟩ = some (.pointer (some ⟨r, 0, none⟩)) := cell_of_block a1 0
   have z1 : W6.cell? ⟨q, 1, none⟩ = some (.int .i64 t) := cell_of_block a1 1
   simp [results, Tryz.results30, go_sem, z0, z1]
end Go.Proofs.YtemkjodkmehffaaGreatDoor
