/-
  IxPut, IxDrop, IxKeys, JnLearn, JnOpen: texts of mine, joined.
-/
import Derived.Test.YticophaepapjoaaGreatDoorAllB35
import Derived.Test.YticophaepapjoaaGreatDoorAllB04
open Go.Lib renaming hid → Hd
set_option maxRecDepth 100000
set_option maxHeartbeats 8000000
namespace Go.Proofs.YticophaepapjoaaGreatDoor
open Go Go.RowKit Go.Joins
section
variable {w w' W : World} {q g n c i : Nat} {T : Tab} {st : IxSt} {k : ByteArray} {p : Int} {A : Option Addr}
theorem TabAt.place (h : TabAt w g n T) (hi : i < n) (hf : (T i).full = true) (p : Int) : TabAt (w.setCell ⟨g, i * 4 + 2, none⟩ (.int .i64 p)) g n (setT T i ⟨(T i).key, (T i).hash, p, true⟩) := by
 refine ⟨fun m hm => ?_, fun m => ?_, by simpa using h.lt⟩
 ·by_cases e : m = i * 4 + 2
  ·subst e
   rw [World.cell?_setCell_same _ _ _ (h.c2 hi), tabV, if_neg (by omega), if_neg (by omega), if_pos (by omega), show (i * 4 + 2) / 4 = i by omega, setT_at]
  ·rw [World.cell?_setCell_other _ _ _ _ (fun e2 => e (by injection e2 with _ e2; exact e2.symm)), h.cell m hm]
   unfold tabV
   by_cases e4 : m / 4 = i
   ·rw [e4, setT_at]
    by_cases e0 : m % 4 = 0
    ·rw [if_pos e0, if_pos e0]
    ·by_cases e1 : m % 4 = 1
     ·rw [if_neg e0, if_neg e0, if_pos e1, if_pos e1]
     ·have e2 : ¬ m % 4 = 2 := by omega
      rw [if_neg e0, if_neg e0, if_neg e1, if_neg e1, if_neg e2, if_neg e2, hf]
   ·rw [setT_ne _ _ e4]
 ·rw [World.frozen?_setCell]; exact h.ice m
theorem ixPut_len (st : IxSt) (k : ByteArray) (p : Int) (v : Int) (hv : ixGet st k = some v) : (ixPut st k p).length = st.length := by
 have hl := congrArg List.length (ixPut_keys st k p (by rw [hv]; rfl))
 rwa [List.length_map, List.length_map] at hl
theorem step_of {B : Option Addr} (hk : Keeps (fun b => ¬ (ixFoot q A).M b) w w') (hB : ∀ g, B = some ⟨g, 0, none⟩ → A = some ⟨g, 0, none⟩ ∨ w.heap.size ≤ g) : Step (ixFoot q A) (ixFoot q B) w w' := by
 refine ⟨hk, ?_, fun b hb => hb.elim⟩
 rintro b (rfl | hb)
 ·exact .inl (.inl rfl)
 ·rcases hB b hb with h | h
  ·exact .inl (.inr h)
  ·exact .inr h
end
theorem ixput_any (w : World) (q : Nat) (F : Foot) (st : IxSt) (hR : IxRep w q F st) (hl : st.length ≤ 32768) (k : ByteArray) (p : Int) (hk : k.size ≤ 1000000) (hp : i64 p) :
  Calls Tryz.prog 108 #[.pointer (some ⟨q, 0, none⟩), .string k, .int .i64 p] w fun e w' => e = .returned (.int .i64 ((ixGet st k).getD 0)) ∧ ∃ F' : Foot, IxRep w' q F' (ixPut st k p) ∧ Step F F' w w' := by
 obtain ⟨A, n, T, rfl, hR⟩ := hR
 have hn := hR.n
 have hn1 : n ≤ 1099511627776 := by omega
 obtain ⟨w1, hw1⟩ : ∃ w1, w.alloc (.cells #[.string k] 9) = w1 := ⟨_, rfl⟩
 have hk1 : Kp w w1 := by rw [← hw1]; exact (Keeps.refl _ w).alloc _
 have hR1 := hR.keep (hk1.mono fun _ _ _ => trivial)
 have hc : w1.cell? ⟨w.heap.size, 0, none⟩ = some (.string k) := by rw [← hw1]; exact (cell_of_block (heap_alloc_new w _) 0).trans rfl
 have HH := Hd (hash_any k w.heap.size w1 hk hc)
 have HF := Hd (find_s w1 q A n st.length T st hR1.s hR1.ok (fun h => (hR1.zero h).1) hn1 k)
 have HFIT := Hd (fit_any w1 q A n st.length T st hR1.s hR1.ok (fun h => (hR1.zero h).1) rfl hR1.i hn1 (by omega))
 have HR := Hd hR1
 have HW1 := Hd hw1
 have HK1 := Hd hk1
 have HADD := Hd (fun (w2 : World) (g n' : Nat) (T' : Tab) (hA : IxAt w2 q g n' st.length T') (hT : TabOk hashN T' n' st) (hno : ixGet st k = none) (h1 : st.length + 1 < n') (h2 : n' ≤ 8 * (st.length + 1)) => add_any w2 q g n' st.length T' st hA hT (by omega) (by omega) k p hno h1)
 have HP := Hd hp
 have hks : k.size ≤ 281474976710656 := by omega
 clear hR hw1 hk1 hR1 hc hn hp
 generalize hX : hashN k = X at HH HF HADD
 clear hX
 go_enter Tryz.func108, Tryz.ntmps108
 go_wp2_with fail
 rw [HW1.out]
 refine (show Calls _ _ _ _ _ from HH.out).mono ?_
 rintro e w2 ⟨rfl, hw2⟩
 have hw2 := hw2.symm
 subst hw2
 go_wp2_with fail
 refine (show Calls _ _ _ _ _ from HF.out).mono ?_
 rintro e w3 ⟨hw3, (⟨i, hi, hf, hkey, rfl⟩ | ⟨hno, rfl⟩)⟩
 ·have hw3 := hw3.symm
  subst hw3
  obtain ⟨g, rfl, hA⟩ := HR.out.g (by omega)
  have c0 := hA.blk.c0
  have c2 := hA.tab.c2 hi
  have tf := hA.tab.ice
  have hg := get_val HR.out hi hf hkey
  have HV := Hd hg
  have hst : IxRepAt (w1.setCell ⟨g, i * 4 + 2, none⟩ (.int .i64 p)) q (some ⟨g, 0, none⟩) n (setT T i ⟨(T i).key, (T i).hash, p, true⟩) (ixPut st k p) := by
   have hlen := ixPut_len st k p _ hg
   refine ⟨⟨?_, fun _ => ⟨g, rfl, hA.tab.place hi hf p, hA.ne⟩⟩, fun h0 => ?_, fun h0 => by omega, ixPut_i64 HR.out.i HP.out, by rw [hlen]; exact HR.out.n⟩
   ·rw [hlen]
    exact hA.blk.keep ((Keeps.refl (fun b => b ≠ g) w1).setCell (p := ⟨g, i * 4 + 2, none⟩) (.inr fun e => e rfl) _) (fun e => hA.ne e.symm)
   ·have := (HR.out.ok h0).again hi hf p
    rwa [hkey] at this ⊢
  have HS := Hd hst
  have HKK := Hd (show Keeps (fun b => ¬ (ixFoot q (some ⟨g, 0, none⟩)).M b) w (w1.setCell ⟨g, i * 4 + 2, none⟩ (.int .i64 p)) from (HK1.out.mono fun _ _ _ => trivial).setCell (p := ⟨g, i * 4 + 2, none⟩) (.inr fun e => e (.inr rfl)) _)
  clear hA hf hkey hst hg
  generalize (T i).pos = P at c2 HV
  go_wp2_with fail
  go_ret
  rw [HV.out]
  exact ⟨rfl, _, ⟨_, _, _, rfl, HS.out⟩, step_of HKK.out fun g' hg' => .inl hg'⟩
 ·have hw3 := hw3.symm
  subst hw3
  have HV := Hd hno
  clear hno
  go_wp2_with fail
  refine (show Calls _ _ _ _ _ from HFIT.out).mono ?_
  rintro e w2 ⟨rfl, g, n', T', hA, hT, h1, h2, h3, hk2⟩
  have HA := Hd hA
  have HT := Hd hT
  have H3 := Hd h3
  have HK2 := Hd hk2
  clear hA hT h3 hk2 HFIT HF
  go_wp2_with fail
  refine (show Calls _ _ _ _ _ from sclone_any k w2 hks).mono ?_
  rintro e w3 ⟨rfl, hk3⟩
  have HA3 := Hd (HA.out.keep hk3 trivial trivial)
  have HK3 := Hd hk3
  clear hk3
  go_wp2_with fail
  refine (show Calls _ _ _ _ _ from HADD.out w3 g n' T' HA3.out HT.out HV.out h1 h2).mono ?_
  rintro e w4 ⟨rfl, T4, hA4, hT4, hk4⟩
  have HS := Hd (show IxRepAt w4 q (some ⟨g, 0, none⟩) n' T4 (ixPut st k p) from by
   rw [ixPut_new HV.out]
   refine ⟨⟨?_, fun _ => ⟨g, rfl, hA4.tab, hA4.ne⟩⟩, fun _ => hT4, fun h0 => by omega, fun x hx => ?_, ?_⟩
   ·rw [List.length_append]; exact hA4.blk
   ·rcases List.mem_append.1 hx with h | h
    ·exact HR.out.i x h
    ·simp at h; subst h; exact HP.out
   ·rw [List.length_append, List.length_cons, List.length_nil]; omega)
  have HSTEP := Hd (show Step (ixFoot q A) (ixFoot q (some ⟨g, 0, none⟩)) w w4 from by
   refine step_of ?_ fun g' hg' => ?_
   ·have k12 : Keeps (fun b => b ≠ q) w w2 := (HK1.out.mono fun _ _ _ => trivial).trans HK2.out
    have k13 : Keeps (fun b => b ≠ q) w w3 := k12.trans (HK3.out.mono fun _ _ _ => trivial)
    refine ⟨hk4.os.trans k13.os, hk4.tape.trans k13.tape, hk4.output.trans k13.output, Nat.le_trans k13.size hk4.size, fun b hb hlt => ?_⟩
    have hbq : b ≠ q := fun e => hb (.inl e)
    refine (hk4.block b ⟨hbq, fun e => ?_⟩ (Nat.lt_of_lt_of_le hlt k13.size)).trans (k13.block b hbq hlt)
    rcases H3.out with h | h
    ·exact hb (.inr (by rw [e]; exact h))
    ·have := HK1.out.size; omega
   ·injection hg' with hg'
    injection hg' with hg'
    subst hg'
    rcases H3.out with h | h
    ·exact .inl h
    ·exact .inr (Nat.le_trans HK1.out.size h))
  clear hA4 hT4 hk4 HADD
  go_wp2_with fail
  go_ret
  rw [HV.out]
  exact ⟨rfl, _, ⟨_, _, _, rfl, HS.out⟩, HSTEP.out⟩
theorem ixDrop_len {st : IxSt} {k : ByteArray} {v : Int} (hnd : (st.map (·.1)).Nodup) (hg : ixGet st k = some v) : (ixDrop st k).length + 1 = st.length := by
 induction st with
 | nil => cases hg
 | cons a st ih =>
  by_cases h : a.1 = k
  ·obtain ⟨a1, a2⟩ := a
   have h : a1 = k := h
   subst h
   rw [ixDrop_cons hnd]; rfl
  ·have hg' : ixGet st k = some v := by
    unfold ixGet at hg ⊢
    rw [List.find?_cons, isK_not.2 h] at hg
    exact hg
   rw [List.map_cons, List.nodup_cons] at hnd
   have e : ixDrop (a :: st) k = a :: ixDrop st k := by
    unfold ixDrop
    rw [List.filter_cons, isK_not.2 h]
    rfl
   rw [e, List.length_cons, ih hnd.2 hg', List.length_cons]
theorem ixBelow_same {st : IxSt} {p : Int} (h : (ixBelow st p).length = st.length) : ixBelow st p = st := by
 unfold ixBelow at h ⊢
 exact List.Sublist.eq_of_length List.filter_sublist h
theorem ixBelow_le (st : IxSt) (p : Int) : (ixBelow st p).length ≤ st.length := List.length_filter_le _ _
theorem ixdrop_any (w : World) (q : Nat) (F : Foot) (st : IxSt) (hR : IxRep w q F st) (hl : st.length ≤ 32768) (k : ByteArray) (hk : k.size ≤ 1000000) :
  Calls Tryz.prog 107 #[.pointer (some ⟨q, 0, none⟩), .string k] w fun e w' => e = .returned (.bool (ixGet st k).isSome) ∧ ∃ F' : Foot, IxRep w' q F' (ixDrop st k) ∧ Step F F' w w' := by
 obtain ⟨A, n, T, rfl, hR⟩ := hR
 have hn := hR.n
 have hn1 : n ≤ 1099511627776 := by omega
 obtain ⟨w1, hw1⟩ : ∃ w1, w.alloc (.cells #[.string k] 9) = w1 := ⟨_, rfl⟩
 have hk1 : Kp w w1 := by rw [← hw1]; exact (Keeps.refl _ w).alloc _
 have hR1 := hR.keep (hk1.mono fun _ _ _ => trivial)
 have hc : w1.cell? ⟨w.heap.size, 0, none⟩ = some (.string k) := by rw [← hw1]; exact (cell_of_block (heap_alloc_new w _) 0).trans rfl
 have HH := Hd (hash_any k w.heap.size w1 hk hc)
 have HF := Hd (find_s w1 q A n st.length T st hR1.s hR1.ok (fun h => (hR1.zero h).1) hn1 k)
 have HR := Hd hR1
 have HW1 := Hd hw1
 have HK1 := Hd hk1
 clear hR hw1 hk1 hR1 hc
 generalize hX : hashN k = X at HH HF
 clear hX
 go_enter Tryz.func107, Tryz.ntmps107
 go_wp2_with fail
 rw [HW1.out]
 refine (show Calls _ _ _ _ _ from HH.out).mono ?_
 rintro e w2 ⟨rfl, hw2⟩
 have hw2 := hw2.symm
 subst hw2
 go_wp2_with fail
 refine (show Calls _ _ _ _ _ from HF.out).mono ?_
 rintro e w3 ⟨hw3, (⟨i, hi, hf, hkey, rfl⟩ | ⟨hno, rfl⟩)⟩
 ·have hw3 := hw3.symm
  subst hw3
  obtain ⟨g, rfl, hA⟩ := HR.out.g (by omega)
  have hg := get_val HR.out hi hf hkey
  have HV := Hd hg
  have hdl := ixDrop_len HR.out.nd hg
  obtain ⟨c, hc⟩ : ∃ c, (ixDrop st k).length = c := ⟨_, rfl⟩
  rw [hc] at hdl
  have HE := Hd (empty_any w1 q g n c T st (by rw [hdl]; exact hA) (HR.out.ok (by omega)) hn1 (by omega) i hi hf)
  rw [hkey] at HE
  have HC := Hd hc
  clear hA hf hkey hg hc
  go_wp2_with fail
  refine (show Calls _ _ _ _ _ from HE.out).mono ?_
  rintro e w4 ⟨rfl, T4, hA4, hT4, hk4⟩
  have HFIT := Hd (fit_any w4 q (some ⟨g, 0, none⟩) n c T4 (ixDrop st k) hA4.s (fun _ => hT4) (fun h => by omega) HC.out.symm (ixDrop_i64 HR.out.i) hn1 (by omega))
  have HK4 := Hd hk4
  clear hA4 hT4 hk4 HE
  go_wp2_with fail
  refine (show Calls _ _ _ _ _ from HFIT.out).mono ?_
  rintro e w5 ⟨rfl, g5, n5, T5, hA5, hT5, h1, h2, h3, hk5⟩
  have HS := Hd (show IxRepAt w5 q (some ⟨g5, 0, none⟩) n5 T5 (ixDrop st k) from
   ⟨⟨by rw [HC.out]; exact hA5.blk, fun _ => ⟨g5, rfl, hA5.tab, hA5.ne⟩⟩, fun _ => hT5, fun h0 => by omega, ixDrop_i64 HR.out.i, by rw [HC.out]; omega⟩)
  have HSTEP := Hd (show Step (ixFoot q (some ⟨g, 0, none⟩)) (ixFoot q (some ⟨g5, 0, none⟩)) w w5 from by
   refine step_of ?_ fun g' hg' => ?_
   ·have k14 : Keeps (Off q g) w w4 := (HK1.out.mono fun _ _ _ => trivial).trans HK4.out
    have k15 : Keeps (Off q g) w w5 := k14.trans (hk5.mono fun _ _ h => h.1)
    exact k15.mono fun b _ hb => ⟨fun e => hb (.inl e), fun e => hb (.inr (by rw [e]))⟩
   ·injection hg' with hg'
    injection hg' with hg'
    subst hg'
    rcases h3 with h | h
    ·exact .inl h
    ·exact .inr (Nat.le_trans (Nat.le_trans HK1.out.size HK4.out.size) h))
  clear hA5 hT5 h3 hk5 HFIT
  go_wp2_with fail
  go_ret
  rw [HV.out]
  exact ⟨rfl, _, ⟨_, _, _, rfl, HS.out⟩, HSTEP.out⟩
 ·have hw3 := hw3.symm
  subst hw3
  have HV := Hd hno
  clear hno
  go_wp2_with fail
  go_ret
  have e : ixDrop st k = st := by
   unfold ixDrop
   rw [List.filter_eq_self]
   intro x hx
   rw [isK_not.2 (ixGet_none.1 HV.out x hx)]
   rfl
  rw [HV.out, e]
  exact ⟨rfl, _, ⟨_, _, _, rfl, HR.out⟩, step_of (HK1.out.mono fun _ _ _ => trivial) fun g' hg' => .inl hg'⟩
theorem ixbelow_any (w : World) (q : Nat) (F : Foot) (st : IxSt) (hR : IxRep w q F st) (hl : st.length ≤ 32768) (p : Int) (_hp : i64 p) :
  Calls Tryz.prog 73 #[.pointer (some ⟨q, 0, none⟩), .int .i64 p] w fun e w' => e = .returned (.int .i64 ((st.length - (ixBelow st p).length : Nat) : Int)) ∧ ∃ F' : Foot, IxRep w' q F' (ixBelow st p) ∧ Step F F' w w' := by
 obtain ⟨A, n, T, rfl, hR⟩ := hR
 have hn := hR.n
 have hq := hR.s.blk.lt
 have HFR := Hd (from_any w q A n st.length T hR.s (by omega) p)
 have hall : (∀ s ∈ fromL T p n, s.full = true ∧ s.hash = (hashN s.key : Int)) ∧ (((fromL T p n).map kv).map (·.1)).Nodup ∧ ((fromL T p n).map kv).Perm (ixBelow st p) := by
  rcases Nat.eq_zero_or_pos n with h0 | h0
  ·subst h0
   rw [tab_nil, (hR.zero rfl).1]
   exact ⟨fun s hs => absurd hs (List.not_mem_nil), List.nodup_nil, List.Perm.refl _⟩
  ·exact from_ok (hR.ok h0) p
 have hlen : (fromL T p n).length = (ixBelow st p).length := by
  have := hall.2.2.length_eq
  rwa [List.length_map] at this
 have hle := ixBelow_le st p
 have HLAY := Hd (show ∀ (w1 : World) (B : Option Addr) (k : Nat), Kp w w1 → w1.ownsRow w.heap.size 126 4 (.slice B (fromL T p n).length k) (fromL T p n).length (slC (fromL T p n)) →
   Calls Tryz.prog 109 #[.pointer (some ⟨q, 0, none⟩), .slice B (fromL T p n).length k] w1 fun e w' => e = .returned (.tuple #[]) ∧ ∃ F' : Foot, IxRep w' q F' (ixBelow st p) ∧ Step (ixFoot q A) F' w w' from fun w1 B k hk ho => by
  refine (lay_any w1 q _ st.length (hR.s.blk.keep hk trivial) B k _ ((SlsAt.of_own ho rfl).mono fun b _ hb => ?_) (by omega) hall.1 hall.2.1).mono ?_
  ·have := hb.1; omega
  ·rintro e w' ⟨rfl, g', n', T', h1, h2, h3, h4, h5, h6⟩
   rw [hlen] at h1 h3 h4
   refine ⟨rfl, _, ⟨some ⟨g', 0, none⟩, n', T', rfl, ⟨⟨h1.blk, fun _ => ⟨g', rfl, h1.tab, h1.ne⟩⟩, fun _ => h2.of_perm hall.2.2, fun h0 => by omega, ixBelow_i64 hR.i, by omega⟩⟩, step_of ?_ fun g2 hg2 => ?_⟩
   ·exact ((hk.mono fun _ _ _ => trivial).trans h6).mono fun b _ hb e => hb (.inl e)
   ·injection hg2 with hg2
    injection hg2 with hg2
    subst hg2
    exact .inr (Nat.le_trans hk.size h5))
 have HSAME := Hd (show (ixBelow st p).length = st.length → ∀ w1, Kp w w1 → ∃ F' : Foot, IxRep w1 q F' (ixBelow st p) ∧ Step (ixFoot q A) F' w w1 from fun h w1 hk => by
  rw [ixBelow_same h]
  exact ⟨_, ⟨A, n, T, rfl, hR.keep (hk.mono fun _ _ _ => trivial)⟩, step_of (hk.mono fun _ _ _ => trivial) fun g' hg' => .inl hg'⟩)
 have HBLK := Hd hR.s.blk
 obtain ⟨m, hm⟩ : ∃ m, (ixBelow st p).length = m := ⟨_, rfl⟩
 obtain ⟨c, hc⟩ : ∃ c, st.length = c := ⟨_, rfl⟩
 rw [hlen] at HFR HLAY
 rw [hm] at HFR HLAY hle HSAME ⊢
 rw [hc] at hle hl HSAME HBLK ⊢
 have hcast : ((c - m : Nat) : Int) = (c : Int) - (m : Int) := by omega
 clear hR hall hlen hm hc hn
 go_enter Tryz.func73, Tryz.ntmps73
 go_wp2_with fail
 refine (show Calls _ _ _ _ _ from HFR.out).mono ?_
 rintro e w1 ⟨B, k, rfl, ho, hk⟩
 have c1 := (HBLK.out.keep hk trivial).c1
 have HK := Hd hk
 have HO := Hd ho
 clear hk ho
 by_cases hgt : m < c
 ·have hd : decide ((0 : Int) < (c : Int) - (m : Int)) = true := by rw [decide_eq_true_eq]; omega
  go_wp2_with fail
  refine (show Calls _ _ _ _ _ from HLAY.out w1 B k HK.out HO.out).mono ?_
  rintro e w2 ⟨rfl, hfin⟩
  have HFIN := Hd hfin
  clear hfin
  go_wp2_with fail
  go_ret
  rw [hcast]
  exact ⟨rfl, HFIN.out⟩
 ·obtain rfl : m = c := by omega
  have hd : decide ((0 : Int) < (m : Int) - (m : Int)) = false := by rw [decide_eq_false_iff_not]; omega
  go_wp2_with fail
  go_ret
  rw [hcast]
  refine ⟨?_, HSAME.out trivial w1 HK.out⟩
  simp
theorem string_elem : Elem Tryz.prog 30 9 (.string ⟨#[]⟩) 1 16 := ⟨Tryz.underlying30, by kernel_rfl, rfl, by decide⟩
theorem list_make0 {P : Program} {w : World} {ops : Array Oper} {rest : List Oper} {o : Oper} {a : Act} {Q : Exit → Act → World → Prop} (hg : o.guard = none) (l c : Operand) (t : TypeId) (hop : o.op = Op.makeSlice t l c)
  {e : TypeId} {z : Value} {size bytes : Nat} (E : Elem P t e z size bytes) (kl kc : IntKind) (n : Nat) (hl : a.eval l = .int kl 0) (hc : a.eval c = .int kc (n : Int)) (b2 : bytes * n ≤ 281474976710656) (b3 : n ≤ maxLen)
  (hK : ∀ w', w'.ownsRow w.heap.size e size (.slice (some ⟨w.heap.size, 0, none⟩) 0 n) 0 [] → w.grownBy w' none → wpList P ops Q rest (a.put o.dst (.slice (some ⟨w.heap.size, 0, none⟩) 0 n)) w') : wpList P ops Q (o :: rest) a w := by
 obtain ⟨i, hi, hz0, hz1, hz2⟩ := info_parts E.info
 subst hz2
 exact wpList_make_own w hg l c t hop w.heap.size e i z size E.und hi hz0 hz1 kl kc _ n hl hc rfl b2 b3 (Nat.le_refl _) hK
theorem src_text (W : World) (s : ByteArray) : Src Tryz.prog 1 30 (.slice (some ⟨W.heap.size, 0, none⟩) 1 1) 1 [.string s] (W.alloc (.cells #[.string s] 9)) :=
 src_one Tryz.underlying30 W (.string s) 9 rfl W.heap.size rfl 1
def keysC (L : List Sl) (j : Nat) : List Value := (L.take j).map fun s => Value.string s.key
theorem ixkeys_any (w : World) (q : Nat) (F : Foot) (st : IxSt) (hR : IxRep w q F st) (hl : st.length ≤ 32768) :
  Calls Tryz.prog 61 #[.pointer (some ⟨q, 0, none⟩)] w fun e w' => ∃ (A : Option Addr) (c : Nat) (ks : List ByteArray), e = .returned (.slice A st.length c) ∧ ks.Perm (st.map (·.1)) ∧ Rising ks ∧ st.length ≤ c ∧ c ≤ maxLen ∧
   Row w' A (fun b => w.heap.size ≤ b ∧ b < w'.heap.size) (ks.map Value.string) ∧ Keeps (fun _ => True) w w' := by
 obtain ⟨A, n, T, rfl, hR⟩ := hR
 have hn := hR.n
 have hall : ((fromL T (-9223372036854775808) n).map kv).Perm st := by
  rcases Nat.eq_zero_or_pos n with h0 | h0
  ·subst h0
   rw [tab_nil, (hR.zero rfl).1]
   exact List.Perm.refl _
  ·have h := (from_ok (hR.ok h0) (-9223372036854775808)).2.2
   rwa [below_all fun x hx => (hR.i x hx).1] at h
 have hlen : (fromL T (-9223372036854775808) n).length = st.length := by
  have := hall.length_eq
  rwa [List.length_map] at this
 have hnd := hR.nd
 have hperm : ((fromL T (-9223372036854775808) n).map Sl.key).Perm (st.map (·.1)) := by
  have := hall.map (·.1)
  rwa [List.map_map] at this
 have HFR := Hd (fun (w1 : World) (h : Kp w w1) => from_any w1 q A n st.length T (hR.s.keep h) (by omega) (-9223372036854775808))
 have c1 := hR.s.blk.c1
 generalize fromL T (-9223372036854775808) n = L at *
 have HP := Hd hperm
 have HL := Hd hlen
 have HND := Hd ((hperm.nodup_iff).2 hnd)
 obtain ⟨c, hc⟩ : ∃ c, st.length = c := ⟨_, rfl⟩
 rw [hc] at c1 hl HL ⊢
 rw [HL.out] at HFR
 clear hR hall hlen hnd hperm hc hn
 go_enter Tryz.func61, Tryz.ntmps61
 go_wp2_with (refine list_make0 rfl (.const (.int .i64 0)) (.tmp 11) 30 rfl string_elem .i64 .i64 c rfl rfl (by omega) (by unfold maxLen; omega) ?_)
 intro w1 hown hg
 have hk1 : Kp w w1 := Keeps.of_grown hg fun _ h => by cases h
 have HK1 := Hd hk1
 have hsz1 : w.heap.size < w1.heap.size := (hown.lt w.heap.size rfl).2
 have HO1 := Hd hown
 have HF1 := Hd (HFR.out w1 hk1)
 clear hown hg hk1 HFR
 go_wp2_with fail
 refine (show Calls _ _ _ _ _ from HF1.out).mono ?_
 rintro e w2 ⟨B, k, rfl, ho, hk2⟩
 have HS2 := Hd ((SlsAt.of_own ho HL.out.symm).mono (G := fun b => w1.heap.size ≤ b ∧ b < w2.heap.size) fun b _ h => h)
 have HO2 := Hd (hk2.own HO1.out fun _ _ => trivial)
 have HK2 := Hd (HK1.out.trans hk2)
 have hsz2 := hk2.size
 clear ho hk2 HO1 HK1 HF1
 go_wp2_with fail
 go_loopw [3, 16] (fun v i wr => ∃ (j : Nat) (A1 : Option Addr) (cc : Nat), j ≤ c ∧ i = .int .i64 (j : Int) ∧ v = .slice A1 j cc ∧ Hid (wr.ownsRow w.heap.size 9 1 v j (keysC L j)) ∧ Hid (∀ b, v.ownBlock = some b → b < w1.heap.size ∨ w2.heap.size ≤ b) ∧ Hid (Kp w wr) ∧ Hid (Keeps (fun b => w1.heap.size ≤ b ∧ b < w2.heap.size) w2 wr)) (fun _ i _ => c - (intOf i).toNat)
 case atStart => exact ⟨0, some ⟨w.heap.size, 0, none⟩, c, Nat.zero_le _, rfl, rfl, HO2, Hd (fun b hb => by
  have : b = w.heap.size := by simpa [Value.ownBlock] using hb.symm
  omega), HK2, Hd (Keeps.refl _ _)⟩
 case round =>
  clear HO2
  obtain ⟨j, A1, cc, hj, rfl, rfl, HO, HB, HK, HKW⟩ := hrel
  by_cases hjc : j < c
  ·have hjc' : (j : Int) < (c : Int) := by omega
   have hjl : j < L.length := by rw [HL.out]; exact hjc
   have HSr := Hd (HS2.out.keep HKW.out)
   obtain ⟨b, o, rfl, hbw, t0, t1, t2, t3⟩ := HSr.out j hjl
   have HT := Hd (show keysC L (j + 1) = keysC L j ++ [Value.string L[j].key] from by
    unfold keysC
    rw [List.take_succ_eq_append_getElem hjl, List.map_append]; rfl)
   generalize L[j].key = K at t0 HT
   generalize L[j].hash = Z at t1
   generalize L[j].pos = P at t2
   generalize L[j].full = U at t3
   have hblt : b < wr.heap.size := World.block_lt_of_cell? wr _ t0
   have hsrc := src_text (wr.alloc (.cells #[.string K, .int .u64 Z, .int .i64 P, .bool U] 126)) K
   rw [show (wr.alloc (.cells #[.string K, .int .u64 Z, .int .i64 P, .bool U] 126)).heap.size = wr.heap.size + 1 by simp] at hsrc
   have HSRC := Hd hsrc
   have hszr := HK.out.size
   have hszw := HKW.out.size
   clear hsrc HSr
   go_wp2_with (at_builtin; refine string_elem.list_append rfl (.tmp 20) (.tmp 23) _ rfl rfl ((HO.out.alloc _).alloc _) rfl HSRC.out ?c3 ?c4 ?c5 ?_)
   case c3 => unfold maxLen; omega
   case c4 => omega
   case c5 => simp; omega
   intro v3 w3 ho3 hg3 hb3
   have HK3 := Hd (show Kp w w3 from ((HK.out.alloc _).alloc _).grown hg3 fun j hj => (HO.out.lt j hj).1)
   have HKW3 := Hd (show Keeps (fun b => w1.heap.size ≤ b ∧ b < w2.heap.size) w2 w3 from by
    refine ((HKW.out.alloc _).alloc _).trans (Keeps.of_grown hg3 fun b hb _ hh => ?_)
    rcases HB.out b hb with h | h <;> omega)
   have HO3 := Hd (show w3.ownsRow w.heap.size 9 1 v3 (j + 1) (keysC L (j + 1)) from by rw [HT.out]; exact ho3)
   have HB3 := Hd (show ∀ b, v3.ownBlock = some b → b < w1.heap.size ∨ w2.heap.size ≤ b from fun b hb => by
    rcases hb3 with h | h
    ·exact HB.out b (by rw [← h]; exact hb)
    ·rw [h] at hb
     injection hb with hb
     (try simp at hb)
     omega)
   obtain ⟨g3, c3, rfl, -, -⟩ := ho3.form (by omega)
   clear ho3 hg3 hb3 HSRC HO HB HK HKW
   go_wp2_with fail
   go_roundw
   case rel => exact ⟨j + 1, some ⟨g3, 0, none⟩, c3, hjc, by go_num, rfl, HO3, HB3, HK3, HKW3⟩
   case measure => simp [intOf]; omega
  ·obtain rfl : c = j := by omega
   have hjc' : ¬ (c : Int) < (c : Int) := by omega
   have hLt : L.take c = L := by rw [← HL.out]; exact List.take_length
   have hm : keysC L c = (L.map Sl.key).map Value.string := by unfold keysC; rw [hLt, List.map_map]; rfl
   have hll : (L.map Sl.key).length = c := by rw [List.length_map]; exact HL.out
   have hSORT := sort_any wr w.heap.size A1 cc (L.map Sl.key) HND.out (by rw [hll, ← hm]; exact HO.out) (by omega)
   rw [hll] at hSORT
   have HSORT := Hd hSORT
   have hcap := own_cap HO.out
   have HCAP := Hd hcap
   clear hLt hm hll hSORT hcap
   go_wp2_with fail
   refine (show Calls _ _ _ _ _ from HSORT.out).mono ?_
   rintro e w4 ⟨rfl, ks, hks, hrise, ho4, hk4⟩
   have HFIN := Hd (show Kp w w4 from by
    refine ⟨hk4.os.trans HK.out.os, hk4.tape.trans HK.out.tape, hk4.output.trans HK.out.output, Nat.le_trans HK.out.size hk4.size, fun b _ hlt => ?_⟩
    refine (hk4.block b (fun o ho => ?_) (Nat.lt_of_lt_of_le hlt HK.out.size)).trans (HK.out.block b trivial hlt)
    rcases Nat.eq_zero_or_pos c with h0 | h0
    ·subst h0
     rcases HO.out.2 with ⟨h1, -⟩ | ⟨g, cap, cur, hv, hb, -⟩
     ·injection h1 with h1
      rw [h1] at ho; cases ho
     ·injection hv with hv
      rw [hv] at ho
      injection ho with ho
      injection ho with ho
      omega
    ·obtain ⟨g, cap, hv, hb, -⟩ := HO.out.form h0
     injection hv with hv
     rw [hv] at ho
     injection ho with ho
     injection ho with ho
     omega)
   have hkl : ks.length = c := by rw [hks.length_eq, List.length_map]; exact HL.out
   have HROW := Hd (show Row w4 A1 (fun b => w.heap.size ≤ b ∧ b < w4.heap.size) (ks.map Value.string) from by
    have h := ho4
    have e : (ks.map Value.string).length = c := by rw [List.length_map]; exact hkl
    rw [← e] at h
    exact Row.of_own h)
   have HKS := Hd (hks.trans HP.out)
   have HRI := Hd hrise
   clear hks hrise ho4 hk4 hkl HSORT
   go_wp2_with fail
   go_ret
   exact ⟨A1, cc, ks, rfl, HKS.out, HRI.out, HCAP.out.1, HCAP.out.2.1, HROW.out, HFIN.out⟩
def theIndex : IndexOK where
 T := fun _ => True
 tk := fun _ _ => trivial
 rep := IxRep
 lt := fun h => h.lt
 keep := fun h hk => h.keep hk
 new := fun w _ => ixnew_any w
 put := fun _ w q F st hR _ _ _ hl k p hk hp => ixput_any w q F st hR hl k p hk hp
 get := fun w q F st hR _ hl k hk => ixget_any w q F st hR hl k hk
 drop := fun _ w q F st hR _ _ _ hl k hk => ixdrop_any w q F st hR hl k hk
 below := fun _ w q F st hR _ _ _ hl p hp => ixbelow_any w q F st hR hl p hp
 keys := fun w q F st hR _ hl => ixkeys_any w q F st hR hl
section
variable {S : Slog2} {w w1 w2 : World} {p q lq : Nat} {Fl : Foot} {bs : Int} {v v' : Value} {xs xs' : List Nat} {lst : LSt} {s : SDev}
theorem JAt.put (h : JAt S w1 p q lq Fl bs v xs lst s) (hg : w1.grownBy w2 v.ownBlock) (hr : w2.ownsRow 0 2 1 v' xs'.length (posC xs')) (hv : v'.ownBlock = v.ownBlock ∨ ∃ b, v'.ownBlock = some b ∧ w1.heap.size ≤ b) :
  JAt S (w2.setCell ⟨q, 2, none⟩ v') p q lq Fl bs v' xs' lst s ∧ Keeps (fun b => v.ownBlock ≠ some b ∧ b ≠ q) w1 (w2.setCell ⟨q, 2, none⟩ v') := by
 have hk12 : Keeps (fun b => v.ownBlock ≠ some b) w1 w2 := Keeps.of_grown hg fun b e _ hn => hn e
 have hk13 : Keeps (fun b => v.ownBlock ≠ some b ∧ b ≠ q) w1 (w2.setCell ⟨q, 2, none⟩ v') := (hk12.mono fun b _ hb => hb.1).setCell (.inr fun hn => hn.2 rfl) _
 have hqs : q < w1.heap.size := h.blk.lt
 have hqv' : v'.ownBlock ≠ some q := fun e => by
  rcases hv with h1 | ⟨b, h1, h2⟩
  ·exact h.qv (h1.symm.trans e)
  ·rw [e] at h1; injection h1 with h1; omega
 refine ⟨⟨(h.blk.keep hk12 h.qv).set2 v', S.keep h.l (hk13.mono fun b _ hb => ⟨fun e => h.lv b e hb, fun e => h.ql (e ▸ hb)⟩), h.on,
  (((Keeps.refl (fun b => b ≠ q) w2).setCell (.inr fun hn => hn rfl) _).own hr fun b hb e => hqv' (e ▸ hb)), h.ql, hqv', fun b hb hf => ?_⟩, hk13⟩
 rcases hv with h1 | ⟨g, h1, h2⟩
 ·exact h.lv b (h1.symm.trans hb) hf
 ·rw [hb] at h1; injection h1 with h1; have := S.lt h.l b hf; omega
theorem JAt.base (h : JAt S w1 p q lq Fl bs v xs lst s) (bs' : Int) : JAt S (w1.setCell ⟨q, 1, none⟩ (.int .i64 bs')) p q lq Fl bs' v xs lst s ∧ Keeps (fun b => b ≠ q) w1 (w1.setCell ⟨q, 1, none⟩ (.int .i64 bs')) := by
 have hk : Keeps (fun b => b ≠ q) w1 (w1.setCell ⟨q, 1, none⟩ (.int .i64 bs')) := (Keeps.refl _ w1).setCell (.inr fun hn => hn rfl) _
 exact ⟨⟨h.blk.set1 bs', S.keep h.l (hk.mono fun b _ hb e => h.ql (e ▸ hb)), h.on, hk.own h.row fun b hb e => h.qv (e ▸ hb), h.ql, h.qv, h.lv⟩, hk⟩
end
def JLearnPost (S : Slog2) (w : World) (p q lq : Nat) (Fl : Foot) (bs : Int) (v : Value) (xs : List Nat) (lst : LSt) (s : SDev) (e : Ending) (w' : World) : Prop :=
 e = .returned (.tuple #[]) ∧ ∃ v', JAt S w' p q lq Fl bs v' xs lst s ∧ Keeps (fun b => v.ownBlock ≠ some b ∧ b ≠ q) w w' ∧ (v'.ownBlock = v.ownBlock ∨ ∃ b, v'.ownBlock = some b ∧ w.heap.size ≤ b)
theorem jlearn_next (S : Slog2) (w : World) (p q lq b m sq x : Nat) (Fl : Foot) (v : Value) (xs : List Nat) (lst : LSt) (s : SDev) (h : JAt S w p q lq Fl (b : Int) v xs lst s) (hb : m ≤ 40000) (hm : m = b + xs.length) (hsq : sq = m + 1) :
  Calls Tryz.prog 98 #[.pointer (some ⟨q, 0, none⟩), .int .i64 (x : Int), .int .i64 (sq : Int)] w (JLearnPost S w p q lq Fl (b : Int) v (xs ++ [x]) lst s) := by
 obtain ⟨A0, c0, rfl, hlc, hcm⟩ := h.form
 obtain ⟨n0, hn0⟩ : ∃ n0, xs.length = n0 := ⟨_, rfl⟩
 rw [hn0] at hlc h hm ⊢
 have t1 : decide (((m : Int) + 1) < (sq : Int)) = false := by simp; omega
 have t2 : ((sq : Int) != (m : Int) + 1) = false := by simp; omega
 have HSEQ := Hd (jseq w q lq b n0 A0 c0 h.blk (by omega) (m : Int) (by omega))
 have HC := Hd h
 have HN0 := Hd hn0
 have hn1 : n0 ≤ 40000 := by omega
 unfold maxLen at hcm
 clear h hsq hm hn0
 go_enter Tryz.func98, Tryz.ntmps98
 go_wp2_with fail
 refine (show Calls _ _ _ _ _ from HSEQ.out).mono ?_
 rintro e w1 ⟨rfl, z, rfl⟩
 have hk1 : Kp w (w.drewN z) := (Keeps.refl _ _).drewN z
 generalize w.drewN z = w1 at hk1 ⊢
 have HK1 := Hd hk1
 have HC1 := Hd (HC.out.kp hk1)
 have c2 : w1.cell? ⟨q, 2, none⟩ = some (.slice A0 n0 c0) := HC1.out.blk.c2
 have HROW := Hd (show w1.ownsRow 0 2 1 (.slice A0 n0 c0) n0 (posC xs) from by have := HC1.out.row; rwa [HN0.out] at this)
 clear hk1 HSEQ HC
 go_wp2_with (at_builtin; refine j64_elem.list_append rfl (.tmp 36) (.tmp 38) _ rfl rfl (HROW.out.alloc _) rfl (src_one Tryz.underlying106 _ _ _ ?c1 _ ?c2 _) ?c3 ?c4 ?c5 ?_)
 case c1 => rfl
 case c2 => rfl
 case c3 => unfold maxLen; omega
 case c4 => omega
 case c5 => exact Nat.zero_le _
 intro v' w5 hown hg hgb
 rw [posC_snoc] at hown
 have hg2 := grown_of_alloc hg
 have hk5 : Keeps (fun b => (Value.slice A0 n0 c0).ownBlock ≠ some b) w1 w5 := Keeps.of_grown hg2 fun b e _ hn => hn e
 have blk5 := HC1.out.blk.keep hk5 HC1.out.qv
 have d2 := blk5.c2
 have df := blk5.f 2
 have hvv : v'.ownBlock = (Value.slice A0 n0 c0).ownBlock ∨ ∃ b, v'.ownBlock = some b ∧ w1.heap.size ≤ b := by
  rcases hgb with hgb | hgb
  ·exact .inl hgb
  ·exact .inr ⟨_, hgb, by simp⟩
 have hput := HC1.out.put (v' := v') (xs' := xs ++ [x]) hg2 (by rw [List.length_append, HN0.out]; exact hown) hvv
 have HP := Hd (show JLearnPost S w p q lq Fl (b : Int) (.slice A0 n0 c0) (xs ++ [x]) lst s (.returned (.tuple #[])) (w5.setCell ⟨q, 2, none⟩ v') from
  ⟨rfl, v', hput.1, (HK1.out.mono fun _ _ _ => trivial).trans hput.2, hvv.imp id fun ⟨b, h1, h2⟩ => ⟨b, h1, Nat.le_trans HK1.out.size h2⟩⟩)
 clear hg hg2 hgb hk5 blk5 hput hvv HROW HC1 c2
 obtain ⟨g1, c1, rfl, -, -⟩ := hown.form (Nat.succ_pos _)
 clear hown
 go_wp2_with fail
 go_end0
 exact HP.out
theorem jlearn_first (S : Slog2) (w : World) (p q lq g sq x : Nat) (Fl : Foot) (lst : LSt) (s : SDev) (h : JAt S w p q lq Fl 0 (.slice none 0 0) [] lst s) (hg1 : 1 ≤ g) (hg2 : g ≤ 40000) (hsq : sq = g + 1) :
  Calls Tryz.prog 98 #[.pointer (some ⟨q, 0, none⟩), .int .i64 (x : Int), .int .i64 (sq : Int)] w (JLearnPost S w p q lq Fl (g : Int) (.slice none 0 0) [x] lst s) := by
 have t1 : decide ((1 : Int) < (sq : Int)) = true := by simp; omega
 have t2 : ((sq : Int) != (1 : Int)) = true := by simp; omega
 have t3 : decide (1 < sq) = true := by simp; omega
 have t4 : ((sq : Int) == (1 : Int)) = false := by simp; omega
 have t5 : (sq == 1) = false := by simp; omega
 have t6 : (sq != 1) = true := by simp; omega
 have HSEQ := Hd (jseq w q lq 0 0 none 0 h.blk (by omega) 0 (by omega))
 have HC := Hd h
 have HSQ := Hd (show (sq : Int) - 1 = (g : Int) from by omega)
 have hsb : sq ≤ 50000 := by omega
 clear h hsq hg1 hg2
 go_enter Tryz.func98, Tryz.ntmps98
 go_wp2_with fail
 refine (show Calls _ _ _ _ _ from HSEQ.out).mono ?_
 rintro e w1 ⟨rfl, z, rfl⟩
 have hk1 : Kp w (w.drewN z) := (Keeps.refl _ _).drewN z
 generalize w.drewN z = w1 at hk1 ⊢
 have HK1 := Hd hk1
 have HC1 := Hd (HC.out.kp hk1)
 have c2 : w1.cell? ⟨q, 2, none⟩ = some (.slice none 0 0) := HC1.out.blk.c2
 have b1 := HC1.out.blk.c1
 have f1 := HC1.out.blk.f 1
 have f2 := HC1.out.blk.f 2
 have hb1 := HC1.out.base ((sq : Int) - 1)
 have hb2 := hb1.1.put (v' := .slice none 0 0) (xs' := []) (World.grownBy.refl _ _) hb1.1.row (.inl rfl)
 rw [HSQ.out] at hb1 hb2
 have HB1 := Hd hb1.2
 have HB2 := Hd hb2
 clear hk1 HSEQ HC hb1 hb2
 have HNIL := Hd (show ∀ W : World, W.ownsRow 0 2 1 (.slice none 0 0) 0 ([] : List Value) from fun W => World.ownsRow_nil W 0 2 1)
 go_wp2_with (at_builtin; refine j64_elem.list_append rfl (.tmp 36) (.tmp 38) _ rfl rfl (HNIL.out _) rfl (src_one Tryz.underlying106 _ _ _ ?c1 _ ?c2 _) ?c3 ?c4 ?c5 ?_)
 case c1 => rfl
 case c2 => simp
 case c3 => unfold maxLen; omega
 case c4 => omega
 case c5 => exact Nat.zero_le _
 intro v' w5 hown hg hgb
 have hg2 := grown_of_alloc hg
 rw [HSQ.out] at hg2
 have hk5 : Keeps (fun _ => True) _ w5 := Keeps.of_grown hg2 fun b e _ _ => by cases e
 have blk5 := HB2.out.1.blk.keep hk5 trivial
 have d2 := blk5.c2
 have df := blk5.f 2
 have hvv : v'.ownBlock = (Value.slice none 0 0).ownBlock ∨ ∃ b, v'.ownBlock = some b ∧ ((w1.setCell ⟨q, 1, none⟩ (.int .i64 (g : Int))).setCell ⟨q, 2, none⟩ (.slice none 0 0)).heap.size ≤ b := by
  rcases hgb with hgb | hgb
  ·exact .inl hgb
  ·exact .inr ⟨_, hgb, by simp⟩
 have hput := HB2.out.1.put (v' := v') (xs' := [x]) hg2 hown hvv
 have HP := Hd (show JLearnPost S w p q lq Fl (g : Int) (.slice none 0 0) [x] lst s (.returned (.tuple #[])) (w5.setCell ⟨q, 2, none⟩ v') from
  ⟨rfl, v', hput.1, (HK1.out.mono fun _ _ _ => trivial).trans ((HB1.out.mono fun _ _ hb => hb.2).trans (HB2.out.2.trans hput.2)), hvv.imp id fun ⟨b, h1, h2⟩ => ⟨b, h1, Nat.le_trans HK1.out.size (Nat.le_trans HB1.out.size (Nat.le_trans HB2.out.2.size h2))⟩⟩)
 clear hg hg2 hgb hk5 blk5 hput hvv HC1 c2 b1 f1 f2
 obtain ⟨g1, c1, rfl, -, -⟩ := hown.form (Nat.succ_pos _)
 clear hown
 go_wp2_with fail
 go_end0
 exact HP.out
structure Jl (S : Slog2) (w wa wb wr : World) (p q lq : Nat) (Fl : Foot) (lst : LSt) (s : SDev) (L : List LRec) (j : Nat) : Prop where
 ex : ∃ (bs : Nat) (v : Value), JAt S wr p q lq Fl (bs : Int) v ((L.take j).map (·.pos)) lst s ∧ (j = 0 → bs = 0 ∧ v = .slice none 0 0) ∧ (0 < j → bs = lst.gone) ∧ ∀ b, v.ownBlock = some b → wb.heap.size ≤ b
 kp : Kp w wr
 sz : wb.heap.size ≤ wr.heap.size
section
variable {S : Slog2} {w wa wb wr w2 : World} {p q lq : Nat} {Fl : Foot} {lst : LSt} {s : SDev} {L : List LRec} {j : Nat}
theorem Jl.keep (h : Jl S w wa wb wr p q lq Fl lst s L j) (hk : Kp wr w2) : Jl S w wa wb w2 p q lq Fl lst s L j := by
 obtain ⟨bs, v, hc, h1, h2, h3⟩ := h.ex
 exact ⟨⟨bs, v, hc.kp hk, h1, h2, h3⟩, h.kp.trans hk, Nat.le_trans h.sz hk.size⟩
theorem Jl.step (hq : w.heap.size ≤ q) (hqa : q < wa.heap.size) (hab : wa.heap.size ≤ wb.heap.size) (h : Jl S w wa wb wr p q lq Fl lst s L j) (hj : j < L.length) (hgl : lst.gone + L.length ≤ 30000) :
  Calls Tryz.prog 98 #[.pointer (some ⟨q, 0, none⟩), .int .i64 (L[j].pos : Int), .int .i64 ((lst.gone + j + 1 : Nat) : Int)] wr fun e w' => e = .returned (.tuple #[]) ∧ Jl S w wa wb w' p q lq Fl lst s L (j + 1) ∧ Keeps (fun b => wa.heap.size ≤ b ∧ b < wb.heap.size) wr w' := by
 obtain ⟨bs, v, hc, h1, h2, h3⟩ := h.ex
 have hsz := h.sz
 have hsz2 := h.kp.size
 have htk : (L.take (j + 1)).map (·.pos) = (L.take j).map (·.pos) ++ [L[j].pos] := by
  rw [List.take_succ_eq_append_getElem hj, List.map_append]; rfl
 have htl : ((L.take j).map (·.pos)).length = j := by rw [List.length_map, List.length_take]; omega
 have fin : ∀ (v' : Value) (w' : World), JAt S w' p q lq Fl (lst.gone : Int) v' ((L.take j).map (·.pos) ++ [L[j].pos]) lst s → Keeps (fun b => v.ownBlock ≠ some b ∧ b ≠ q) wr w' → (v'.ownBlock = v.ownBlock ∨ ∃ b, v'.ownBlock = some b ∧ wr.heap.size ≤ b) →
   Jl S w wa wb w' p q lq Fl lst s L (j + 1) ∧ Keeps (fun b => wa.heap.size ≤ b ∧ b < wb.heap.size) wr w' := by
  intro v' w' hc' hk hv
  have hsz' := hk.size
  refine ⟨⟨⟨lst.gone, v', by rw [htk]; exact hc', fun h => absurd h (Nat.succ_ne_zero j), fun _ => rfl, fun b hb => ?_⟩, ⟨hk.os.trans h.kp.os, hk.tape.trans h.kp.tape, hk.output.trans h.kp.output, Nat.le_trans hsz2 hsz', fun b _ hb => ?_⟩, Nat.le_trans hsz hsz'⟩, hk.mono fun b _ hb => ⟨fun e => by have := h3 b e; omega, fun e => by omega⟩⟩
  ·rcases hv with hv | ⟨b', hv, hv2⟩
   ·exact h3 b (hv.symm.trans hb)
   ·rw [hb] at hv; injection hv with hv; omega
  ·refine (hk.block b ⟨fun e => ?_, fun e => by omega⟩ (Nat.lt_of_lt_of_le hb hsz2)).trans (h.kp.block b trivial hb)
   have := h3 b e
   have := hc.lt b (jfoot_all.2 (.inr (.inr e)))
   have := h.kp.size
   omega
 rcases Nat.eq_zero_or_pos j with hj0 | hj0
 ·subst hj0
  obtain ⟨rfl, rfl⟩ := h1 rfl
  rcases Nat.eq_zero_or_pos lst.gone with hg | hg
  ·refine (jlearn_next S wr p q lq 0 0 (lst.gone + 0 + 1) L[0].pos Fl (.slice none 0 0) _ lst s hc (Nat.zero_le _) (by simp) (by omega)).mono ?_
   rintro e w' ⟨rfl, v', hc', hk, hv⟩
   refine ⟨rfl, fin v' w' ?_ hk hv⟩
   rw [hg]; exact hc'
  ·refine (jlearn_first S wr p q lq lst.gone (lst.gone + 0 + 1) L[0].pos Fl lst s hc hg (by omega) rfl).mono ?_
   rintro e w' ⟨rfl, v', hc', hk, hv⟩
   exact ⟨rfl, fin v' w' hc' hk hv⟩
 ·obtain rfl := h2 hj0
  refine (jlearn_next S wr p q lq lst.gone (lst.gone + j) (lst.gone + j + 1) L[j].pos Fl v _ lst s hc (by omega) (by rw [htl]) rfl).mono ?_
  rintro e w' ⟨rfl, v', hc', hk, hv⟩
  exact ⟨rfl, fin v' w' hc' hk hv⟩
end
def JOpenPost (S : Slog2) (w : World) (p : Nat) (s : SDev) (st : JSt) (e : Ending) (w' : World) : Prop :=
 ∃ (q : Nat) (Fs : Foot), e = .returned (.tuple #[.pointer (some ⟨q, 0, none⟩), .int .i64 0]) ∧ jrep S w' p q Fs st s ∧ (∀ b, Fs.all b → w.heap.size ≤ b) ∧ Kp w w'
theorem jopen (S : Slog2) (w : World) (hT : S.T w) (p : Nat) (F : Foot) (s : SDev) (st : JSt) (hd : DAt w p F s) (i n : Nat) (hn : 20 ≤ n) (hnb : n ≤ 1000) (hroom : st.place + 8 * st.segs ≤ s.now.length)
  (hop : Calls Tryz.prog 96 #[.pointer (some ⟨p, 0, none⟩), .int .i64 i, .int .i64 n] w fun e w' => ∃ (lq : Nat) (Fl : Foot) (lst : LSt), e = .returned (.tuple #[.pointer (some ⟨lq, 0, none⟩), .int .i64 0]) ∧ S.rep w' lq Fl lst s ∧ lst.dev = p ∧ JM st lst ∧ (∀ b, Fl.all b → w.heap.size ≤ b) ∧ Kp w w') :
  Calls Tryz.prog 66 #[.pointer (some ⟨p, 0, none⟩), .int .i64 i, .int .i64 n] w (JOpenPost S w p s st) := by
 have HOP := Hd hop
 have HD := Hd hd
 have t0 : decide ((n : Int) < 20) = false := by simp; omega
 clear hop hd
 go_enter Tryz.func66, Tryz.ntmps66
 go_wp2_with fail
 refine (show Calls _ _ _ _ _ from HOP.out).mono ?_
 rintro e w1 ⟨lq, Fl, lst, rfl, hrep, hon, hm, hFl, hk1⟩
 have HREP := Hd hrep
 have HM := Hd hm
 have HFL := Hd hFl
 have HK1 := Hd hk1
 have HON := Hd hon
 clear hrep hm hFl hk1 hon
 go_wp2_with fail
 obtain ⟨wa, hwa⟩ : ∃ wa, w1.alloc (.cells #[.pointer (some ⟨lq, 0, none⟩), .int .i64 0, .slice none 0 0] 108) = wa := ⟨_, rfl⟩
 have hba : JBlk wa w1.heap.size lq 0 (.slice none 0 0) := by rw [← hwa]; exact heap_alloc_new w1 _
 have hka : Kp w1 wa := by rw [← hwa]; exact (Keeps.refl _ w1).alloc _
 have hza : wa.heap.size = w1.heap.size + 1 := by rw [← hwa]; simp
 have hz1 := HK1.out.size
 have HWA := Hd hwa
 have HALL := Hd (S.all2 wa p lq F Fl s lst (HD.out.keep ((HK1.out.trans hka).mono fun _ _ _ => trivial)) (S.keep HREP.out (hka.mono fun _ _ _ => trivial)) HON.out (S.tk hT (HK1.out.trans hka)) (by rw [HM.out.place, HM.out.segs]; exact hroom))
 have hL0 := S.lt HREP.out
 have HC0 := Hd (show JAt S wa p w1.heap.size lq Fl 0 (.slice none 0 0) [] lst s from
  ⟨hba, S.keep HREP.out (hka.mono fun _ _ _ => trivial), HON.out, ⟨rfl, .inl ⟨rfl, rfl⟩⟩, fun hf => by have := hL0 _ hf; omega, fun h => (by cases h), fun b h => (by cases h)⟩)
 have HQ := Hd (show w.heap.size ≤ w1.heap.size ∧ w1.heap.size < wa.heap.size from ⟨by omega, by omega⟩)
 have HKA := Hd (HK1.out.trans hka)
 obtain ⟨L, hL⟩ : ∃ L, lst.hist.drop lst.gone = L := ⟨_, rfl⟩
 have HL := Hd hL
 have HRC := Hd (show lst.recs = L.map LRec.key from by rw [← hL]; rfl)
 have hgl := (S.wf HREP.out).gone
 have HLM := Hd (show lst.gone + L.length ≤ 30000 from by
  have h1 := HM.out.age
  have h2 := HM.out.old
  rw [← hL, List.length_drop]
  omega)
 have HBODY := Hd (show ∀ (j : Nat) (hj : j < L.length), ∃ k, keyOk k ∧ L[j].body = markB (lst.gone + j + 1) k from fun j hj => by
  have hj2 : lst.gone + j < lst.hist.length := by rw [← hL, List.length_drop] at hj; omega
  have e : L[j] = lst.hist[lst.gone + j] := by subst hL; rw [List.getElem_drop]
  have hj3 : lst.gone + j < st.keys.length := by rw [← HM.out.len]; exact hj2
  refine ⟨st.keys.getD (lst.gone + j) default, ?_, by rw [e]; exact HM.out.body _ hj2⟩
  rw [List.getD_eq_getElem?_getD, List.getElem?_eq_getElem hj3]
  exact HM.out.one _ (List.getElem_mem hj3))
 have HPOS := Hd (show jkept lst = L.map (·.pos) from by rw [← hL]; rfl)
 have HNONE := Hd (show L.length = 0 → lst.gone = 0 from fun h => by
  have h1 := HM.out.some
  rw [← hL, List.length_drop] at h
  rcases Nat.eq_zero_or_pos lst.gone with h2 | h2
  ·exact h2
  ·have := h1 (fun e => by have h5 := HM.out.len; rw [e] at h5; have h6 : lst.hist.length = 0 := h5; omega)
   omega)
 clear hwa hba hka hza hz1 hL0 hL hgl HK1
 go_wp2_with (rw [HWA.out])
 try rw [HWA.out]
 refine (show Calls _ _ _ _ _ from HALL.out).mono ?_
 rintro e wb ⟨A, c, rfl, hmc, hcm, hrc, hkb⟩
 rw [HRC.out] at hrc
 obtain ⟨m, hlm⟩ : ∃ m, lst.recs.length = m := ⟨_, rfl⟩
 rw [hlm] at hmc ⊢
 have hLm : L.length = m := by rw [← hlm, HRC.out, List.length_map]
 have HLEN := Hd hLm
 have HKB := Hd hkb
 have HREC := Hd (show ∀ (j : Nat) (hj : j < L.length), ∃ b o, A = some ⟨b, o, none⟩ ∧ ∀ wr, Keeps (fun b => wa.heap.size ≤ b ∧ b < wb.heap.size) wb wr → wr.cell? ⟨b, o + j * 2, none⟩ = some (.int .i64 ((L[j].pos : Nat) : Int)) ∧ ∃ B mm c, wr.cell? ⟨b, o + j * 2 + 1, none⟩ = some (.slice B mm c) ∧ mm = L[j].body.length ∧ mm ≤ c ∧ c ≤ maxLen ∧ Row wr B (fun _ => True) (bcells L[j].body) from fun j hj => by
  have hne : L.map LRec.key ≠ [] := fun e => by have := congrArg List.length e; simp at this; rw [this] at hj; simp at hj
  obtain ⟨b, o, e, hG, hc⟩ := hrc hne
  refine ⟨b, o, e, fun wr hk => ?_⟩
  obtain ⟨c0, B, cc, c1, h1, h2, h3⟩ := hc j (by rw [List.length_map]; exact hj)
  rw [List.getElem_map] at c0 c1 h1 h3
  exact ⟨hk.cell c0 hG, B, _, cc, hk.cell c1 hG, rfl, h1, h2, (h3.keep hk).mono fun _ _ _ => trivial⟩)
 have hmage : m ≤ 30000 := by have := HLM.out; omega
 have HAB := Hd hkb.size
 unfold maxLen at hcm
 clear hlm hLm hrc hkb
 have HST := Hd (show Jl S w wa wb wb p w1.heap.size lq Fl lst s L 0 from
  ⟨⟨0, .slice none 0 0, HC0.out.kp HKB.out, fun _ => ⟨rfl, rfl⟩, fun h => absurd h (Nat.lt_irrefl 0), fun b h => (by cases h)⟩, HKA.out.trans HKB.out, Nat.le_refl _⟩)
 have HEND := Hd (show ∀ wr, Jl S w wa wb wr p w1.heap.size lq Fl lst s L m → JOpenPost S w p s st (.returned (.tuple #[.pointer (some ⟨w1.heap.size, 0, none⟩), .int .i64 0])) wr from fun wr h => by
  obtain ⟨bs, v, hc, h1, h2, h3⟩ := h.ex
  rw [List.take_of_length_le (by rw [HLEN.out]; exact Nat.le_refl _), ← HPOS.out] at hc
  have hbs : bs = lst.gone := by
   rcases Nat.eq_zero_or_pos m with hm0 | hm0
   ·rw [(h1 hm0).1, HNONE.out (by rw [HLEN.out]; exact hm0)]
   ·exact h2 hm0
  subst hbs
  refine ⟨w1.heap.size, jfoot w1.heap.size Fl v, rfl, ⟨lq, Fl, v, lst, rfl, hc, HM.out⟩, fun b hb => ?_, h.kp⟩
  rcases jfoot_all.1 hb with rfl | hb | hb
  ·exact HQ.out.1
  ·exact HFL.out b hb
  ·have := h3 b hb; have := HAB.out; have := HQ.out; omega)
 clear HALL HC0 HKA HRC HREP HFL HOP HPOS HNONE
 obtain ⟨q, hq⟩ : ∃ q, w1.heap.size = q := ⟨_, rfl⟩
 rw [hq] at HST HEND HQ ⊢
 clear hq
 go_wp2_with fail
 go_loopw [33] (fun i wr => ∃ j, j ≤ m ∧ i = .int .i64 j ∧ RowKit.Hid (Jl S w wa wb wr p q lq Fl lst s L j) ∧ RowKit.Hid (Keeps (fun b => wa.heap.size ≤ b ∧ b < wb.heap.size) wb wr)) (fun i _ => m - (intOf i).toNat)
 case atStart => exact ⟨0, Nat.zero_le _, rfl, HST, Hd (Keeps.refl _ _)⟩
 case round =>
  obtain ⟨j, hj, rfl, hlt, hkg⟩ := hrel
  by_cases hjm : j < m
  ·have t1 : decide ((j : Int) < (m : Int)) = true := by simp; omega
   have hjl : j < L.length := by rw [HLEN.out]; exact hjm
   obtain ⟨b, o, rfl, hrow⟩ := HREC.out j hjl
   obtain ⟨c0, B, mm, cc, c1, hmm, hmc2, hcc2, hr⟩ := hrow wr hkg.out
   obtain ⟨k, hk, hbody⟩ := HBODY.out j hjl
   rw [hbody] at hmm hr
   have HDEC := Hd (show ∀ w', Kp wr w' → _ from fun w' (hk' : Kp wr w') => jdecode w' B mm cc (lst.gone + j + 1) k (hr.keep hk') hmm hmc2 hcc2 (by omega) (by have := HLM.out; omega) hk)
   have HLN := Hd (show ∀ w', Kp wr w' → _ from fun w' (hk' : Kp wr w') => (hlt.out.keep hk').step HQ.out.1 HQ.out.2 HAB.out hjl HLM.out)
   clear hmm hmc2 hcc2 hr hrow hk hbody
   obtain ⟨sq, hsq⟩ : ∃ sq, lst.gone + j + 1 = sq := ⟨_, rfl⟩
   rw [hsq] at HDEC HLN
   generalize L[j].pos = po at c0 HLN
   clear hsq
   have HKW := Hd (show Kp wr (wr.alloc (.cells #[.int .i64 (po : Int), .slice B mm cc] 172)) from (Keeps.refl _ wr).alloc _)
   go_wp2_with fail
   refine (show Calls _ _ _ _ _ from HDEC.out _ HKW.out).mono ?_
   rintro e w3 ⟨rfl, hk3⟩
   have r0 : w3.cell? ⟨wr.heap.size, 0, none⟩ = some (.int .i64 (po : Int)) := hk3.cell ((cell_of_block (heap_alloc_new wr _) 0).trans rfl) trivial
   have hlt3 : wr.heap.size < w3.heap.size := by have := hk3.size; simp at this; omega
   have HK3 := Hd (show Kp wr (w3.alloc (.cells #[.int .i64 (sq : Int), .string k] 72)) from (HKW.out.trans hk3).alloc _)
   clear hk3 c0 c1 HDEC
   go_wp2_with fail
   refine (show Calls _ _ _ _ _ from HLN.out _ HK3.out).mono ?_
   rintro e w4 ⟨rfl, hl4, hk4⟩
   have HL4 := Hd hl4
   have HK4 := Hd (hkg.out.trans ((HK3.out.mono fun _ _ _ => trivial).trans hk4))
   clear hl4 hk4 HLN r0 hlt3
   go_wp2_with fail
   go_roundw
   case rel => exact ⟨j + 1, by omega, by go_num, HL4, HK4⟩
   case measure => simp [intOf]; omega
  ·have t1 : decide ((j : Int) < (m : Int)) = false := by simp; omega
   obtain rfl : j = m := by omega
   have HE := Hd (HEND.out wr hlt.out)
   clear hjm
   go_wp2_with fail
   go_ret2
   exact HE.out
end Go.Proofs.YticophaepapjoaaGreatDoor
