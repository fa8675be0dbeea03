/-
  IxPut, IxDrop, IxKeys, FlThe, JnMath, JnRep, JnLay, JnLib, JrBegun, JrName, JrLocs: texts of mine, joined.
-/
import Derived.Test.YticophaepapjoaaGreatDoorAllA22
import Derived.Test.YticophaepapjoaaGreatDoorAllA08
import Derived.Test.YticophaepapjoaaGreatDoorAllA11
import Derived.Test.YticophaepapjoaaGreatDoorAllA12
import Derived.Test.YticophaepapjoaaGreatDoorAllA02
import Derived.Test.YticophaepapjoaaGreatDoorAllA01
import Derived.Lib.SmallJoins
import Derived.Shelf.SlicesG.Delete
import Derived.Shelf.SlicesG.SearchI
import Derived.Ground.SlgnProg
import Derived.Test.YticophaepapjoaaGreatDoorProg
import Derived.Sort.Row
import Derived.Outline
namespace Go.Proofs.YticophaepapjoaaGreatDoor
open Go Go.RowKit Go.Joins
section
variable {w w' W : World} {q g n c i : Nat} {T : Tab} {st : IxSt} {k : ByteArray} {p : Int} {A : Option Addr}
theorem TabAt.place (h : TabAt w g n T) (hi : i < n) (hf : (T i).full = true) (p : Int) : TabAt (w.setCell ⟨g, i * 4 + 2, none⟩ (.int .i64 p)) g n (setT T i ⟨(T i).key, (T i).hash, p, true⟩) := by
 refine ⟨fun m hm => ?_, fun m => ?_, by simpa using h.lt⟩
 ·by_cases e : m = i * 4 + 2
  ·subst e
   rw [World.cell?_setCell_same _ _ _ (h.c2 hi), tabV, if_neg (by omega), if_neg (by omega), if_pos (by omega), show (i * 4 + 2) / 4 = i by omega, setT_at]
  ·rw [World.cell?_setCell_other _ _ _ _ (fun e2 => e (by injection e2 with _ e2; exact e2.symm)), h.cell m hm]
   unfold tabV
   by_cases e4 : m / 4 = i
   ·rw [e4, setT_at]
    by_cases e0 : m % 4 = 0
    ·rw [if_pos e0, if_pos e0]
    ·by_cases e1 : m % 4 = 1
     ·rw [if_neg e0, if_neg e0, if_pos e1, if_pos e1]
     ·have e2 : ¬ m % 4 = 2 := by omega
      rw [if_neg e0, if_neg e0, if_neg e1, if_neg e1, if_neg e2, if_neg e2, hf]
   ·rw [setT_ne _ _ e4]
 ·rw [World.frozen?_setCell]; exact h.ice m
theorem ixPut_len (st : IxSt) (k : ByteArray) (p : Int) (v : Int) (hv : ixGet st k = some v) : (ixPut st k p).length = st.length := by
 have hl := congrArg List.length (ixPut_keys st k p (by rw [hv]; rfl))
 rwa [List.length_map, List.length_map] at hl
theorem step_of {B : Option Addr} (hk : Keeps (fun b => ¬ (ixFoot q A).M b) w w') (hB : ∀ g, B = some ⟨g, 0, none⟩ → A = some ⟨g, 0, none⟩ ∨ w.heap.size ≤ g) : Step (ixFoot q A) (ixFoot q B) w w' := by
 refine ⟨hk, ?_, fun b hb => hb.elim⟩
 rintro b (rfl | hb)
 ·exact .inl (.inl rfl)
 ·rcases hB b hb with h | h
  ·exact .inl (.inr h)
  ·exact .inr h
end
set_option maxRecDepth 100000 in
set_option maxHeartbeats 1000000 in
theorem ixput_any (w : World) (q : Nat) (F : Foot) (st : IxSt) (hR : IxRep w q F st) (hl : st.length ≤ 32768) (k : ByteArray) (p : Int) (hk : k.size ≤ 1000000) (hp : i64 p) :
  Calls Tryz.prog 108 #[.pointer (some ⟨q, 0, none⟩), .string k, .int .i64 p] w fun e w' => e = .returned (.int .i64 ((ixGet st k).getD 0)) ∧ ∃ F' : Foot, IxRep w' q F' (ixPut st k p) ∧ Step F F' w w' := by
 obtain ⟨A, n, T, rfl, hR⟩ := hR
 have hn := hR.n
 have hn1 : n ≤ 1099511627776 := by omega
 obtain ⟨w1, hw1⟩ : ∃ w1, w.alloc (.cells #[.string k] 9) = w1 := ⟨_, rfl⟩
 have hk1 : Kp w w1 := by rw [← hw1]; exact (Keeps.refl _ w).alloc _
 have hR1 := hR.keep (hk1.mono fun _ _ _ => trivial)
 have hc : w1.cell? ⟨w.heap.size, 0, none⟩ = some (.string k) := by rw [← hw1]; exact (cell_of_block (heap_alloc_new w _) 0).trans rfl
 have HH := Lib.hid (hash_any k w.heap.size w1 hk hc)
 have HF := Lib.hid (find_s w1 q A n st.length T st hR1.s hR1.ok (fun h => (hR1.zero h).1) hn1 k)
 have HFIT := Lib.hid (fit_any w1 q A n st.length T st hR1.s hR1.ok (fun h => (hR1.zero h).1) rfl hR1.i hn1 (by omega))
 have HR := Lib.hid hR1
 have HW1 := Lib.hid hw1
 have HK1 := Lib.hid hk1
 have HADD := Lib.hid (fun (w2 : World) (g n' : Nat) (T' : Tab) (hA : IxAt w2 q g n' st.length T') (hT : TabOk hashN T' n' st) (hno : ixGet st k = none) (h1 : st.length + 1 < n') (h2 : n' ≤ 8 * (st.length + 1)) => add_any w2 q g n' st.length T' st hA hT (by omega) (by omega) k p hno h1)
 have HP := Lib.hid hp
 have hks : k.size ≤ 281474976710656 := by omega
 clear hR hw1 hk1 hR1 hc hn hp
 generalize hX : hashN k = X at HH HF HADD
 clear hX
 go_enter Tryz.func108, Tryz.ntmps108
 go_wp2_with fail
 rw [HW1.out]
 refine (show Calls _ _ _ _ _ from HH.out).mono ?_
 rintro e w2 ⟨rfl, hw2⟩
 have hw2 := hw2.symm
 subst hw2
 go_wp2_with fail
 refine (show Calls _ _ _ _ _ from HF.out).mono ?_
 rintro e w3 ⟨hw3, (⟨i, hi, hf, hkey, rfl⟩ | ⟨hno, rfl⟩)⟩
 ·have hw3 := hw3.symm
  subst hw3
  obtain ⟨g, rfl, hA⟩ := HR.out.g (by omega)
  have c0 := hA.blk.c0
  have c2 := hA.tab.c2 hi
  have tf := hA.tab.ice
  have hg := get_val HR.out hi hf hkey
  have HV := Lib.hid hg
  have hst : IxRepAt (w1.setCell ⟨g, i * 4 + 2, none⟩ (.int .i64 p)) q (some ⟨g, 0, none⟩) n (setT T i ⟨(T i).key, (T i).hash, p, true⟩) (ixPut st k p) := by
   have hlen := ixPut_len st k p _ hg
   refine ⟨⟨?_, fun _ => ⟨g, rfl, hA.tab.place hi hf p, hA.ne⟩⟩, fun h0 => ?_, fun h0 => by omega, ixPut_i64 HR.out.i HP.out, by rw [hlen]; exact HR.out.n⟩
   ·rw [hlen]
    exact hA.blk.keep ((Keeps.refl (fun b => b ≠ g) w1).setCell (p := ⟨g, i * 4 + 2, none⟩) (.inr fun e => e rfl) _) (fun e => hA.ne e.symm)
   ·have := (HR.out.ok h0).again hi hf p
    rwa [hkey] at this ⊢
  have HS := Lib.hid hst
  have HKK := Lib.hid (show Keeps (fun b => ¬ (ixFoot q (some ⟨g, 0, none⟩)).M b) w (w1.setCell ⟨g, i * 4 + 2, none⟩ (.int .i64 p)) from (HK1.out.mono fun _ _ _ => trivial).setCell (p := ⟨g, i * 4 + 2, none⟩) (.inr fun e => e (.inr rfl)) _)
  clear hA hf hkey hst hg
  generalize (T i).pos = P at c2 HV
  go_wp2_with fail
  go_ret
  rw [HV.out]
  exact ⟨rfl, _, ⟨_, _, _, rfl, HS.out⟩, step_of HKK.out fun g' hg' => .inl hg'⟩
 ·have hw3 := hw3.symm
  subst hw3
  have HV := Lib.hid hno
  clear hno
  go_wp2_with fail
  refine (show Calls _ _ _ _ _ from HFIT.out).mono ?_
  rintro e w2 ⟨rfl, g, n', T', hA, hT, h1, h2, h3, hk2⟩
  have HA := Lib.hid hA
  have HT := Lib.hid hT
  have H3 := Lib.hid h3
  have HK2 := Lib.hid hk2
  clear hA hT h3 hk2 HFIT HF
  go_wp2_with fail
  refine (show Calls _ _ _ _ _ from sclone_any k w2 hks).mono ?_
  rintro e w3 ⟨rfl, hk3⟩
  have HA3 := Lib.hid (HA.out.keep hk3 trivial trivial)
  have HK3 := Lib.hid hk3
  clear hk3
  go_wp2_with fail
  refine (show Calls _ _ _ _ _ from HADD.out w3 g n' T' HA3.out HT.out HV.out h1 h2).mono ?_
  rintro e w4 ⟨rfl, T4, hA4, hT4, hk4⟩
  have HS := Lib.hid (show IxRepAt w4 q (some ⟨g, 0, none⟩) n' T4 (ixPut st k p) from by
   rw [ixPut_new HV.out]
   refine ⟨⟨?_, fun _ => ⟨g, rfl, hA4.tab, hA4.ne⟩⟩, fun _ => hT4, fun h0 => by omega, fun x hx => ?_, ?_⟩
   ·rw [List.length_append]; exact hA4.blk
   ·rcases List.mem_append.1 hx with h | h
    ·exact HR.out.i x h
    ·simp at h; subst h; exact HP.out
   ·rw [List.length_append, List.length_cons, List.length_nil]; omega)
  have HSTEP := Lib.hid (show Step (ixFoot q A) (ixFoot q (some ⟨g, 0, none⟩)) w w4 from by
   refine step_of ?_ fun g' hg' => ?_
   ·have k12 : Keeps (fun b => b ≠ q) w w2 := (HK1.out.mono fun _ _ _ => trivial).trans HK2.out
    have k13 : Keeps (fun b => b ≠ q) w w3 := k12.trans (HK3.out.mono fun _ _ _ => trivial)
    refine ⟨hk4.os.trans k13.os, hk4.tape.trans k13.tape, hk4.output.trans k13.output, Nat.le_trans k13.size hk4.size, fun b hb hlt => ?_⟩
    have hbq : b ≠ q := fun e => hb (.inl e)
    refine (hk4.block b ⟨hbq, fun e => ?_⟩ (Nat.lt_of_lt_of_le hlt k13.size)).trans (k13.block b hbq hlt)
    rcases H3.out with h | h
    ·exact hb (.inr (by rw [e]; exact h))
    ·have := HK1.out.size; omega
   ·injection hg' with hg'
    injection hg' with hg'
    subst hg'
    rcases H3.out with h | h
    ·exact .inl h
    ·exact .inr (Nat.le_trans HK1.out.size h))
  clear hA4 hT4 hk4 HADD
  go_wp2_with fail
  go_ret
  rw [HV.out]
  exact ⟨rfl, _, ⟨_, _, _, rfl, HS.out⟩, HSTEP.out⟩
theorem ixDrop_len {st : IxSt} {k : ByteArray} {v : Int} (hnd : (st.map (·.1)).Nodup) (hg : ixGet st k = some v) : (ixDrop st k).length + 1 = st.length := by
 induction st with
 | nil => cases hg
 | cons a st ih =>
  by_cases h : a.1 = k
  ·obtain ⟨a1, a2⟩ := a
   have h : a1 = k := h
   subst h
   rw [ixDrop_cons hnd]; rfl
  ·have hg' : ixGet st k = some v := by
    unfold ixGet at hg ⊢
    rw [List.find?_cons, isK_not.2 h] at hg
    exact hg
   rw [List.map_cons, List.nodup_cons] at hnd
   have e : ixDrop (a :: st) k = a :: ixDrop st k := by
    unfold ixDrop
    rw [List.filter_cons, isK_not.2 h]
    rfl
   rw [e, List.length_cons, ih hnd.2 hg', List.length_cons]
theorem ixBelow_same {st : IxSt} {p : Int} (h : (ixBelow st p).length = st.length) : ixBelow st p = st := by
 unfold ixBelow at h ⊢
 exact List.Sublist.eq_of_length List.filter_sublist h
theorem ixBelow_le (st : IxSt) (p : Int) : (ixBelow st p).length ≤ st.length := List.length_filter_le _ _
set_option maxRecDepth 100000 in
set_option maxHeartbeats 1000000 in
theorem ixdrop_any (w : World) (q : Nat) (F : Foot) (st : IxSt) (hR : IxRep w q F st) (hl : st.length ≤ 32768) (k : ByteArray) (hk : k.size ≤ 1000000) :
  Calls Tryz.prog 107 #[.pointer (some ⟨q, 0, none⟩), .string k] w fun e w' => e = .returned (.bool (ixGet st k).isSome) ∧ ∃ F' : Foot, IxRep w' q F' (ixDrop st k) ∧ Step F F' w w' := by
 obtain ⟨A, n, T, rfl, hR⟩ := hR
 have hn := hR.n
 have hn1 : n ≤ 1099511627776 := by omega
 obtain ⟨w1, hw1⟩ : ∃ w1, w.alloc (.cells #[.string k] 9) = w1 := ⟨_, rfl⟩
 have hk1 : Kp w w1 := by rw [← hw1]; exact (Keeps.refl _ w).alloc _
 have hR1 := hR.keep (hk1.mono fun _ _ _ => trivial)
 have hc : w1.cell? ⟨w.heap.size, 0, none⟩ = some (.string k) := by rw [← hw1]; exact (cell_of_block (heap_alloc_new w _) 0).trans rfl
 have HH := Lib.hid (hash_any k w.heap.size w1 hk hc)
 have HF := Lib.hid (find_s w1 q A n st.length T st hR1.s hR1.ok (fun h => (hR1.zero h).1) hn1 k)
 have HR := Lib.hid hR1
 have HW1 := Lib.hid hw1
 have HK1 := Lib.hid hk1
 clear hR hw1 hk1 hR1 hc
 generalize hX : hashN k = X at HH HF
 clear hX
 go_enter Tryz.func107, Tryz.ntmps107
 go_wp2_with fail
 rw [HW1.out]
 refine (show Calls _ _ _ _ _ from HH.out).mono ?_
 rintro e w2 ⟨rfl, hw2⟩
 have hw2 := hw2.symm
 subst hw2
 go_wp2_with fail
 refine (show Calls _ _ _ _ _ from HF.out).mono ?_
 rintro e w3 ⟨hw3, (⟨i, hi, hf, hkey, rfl⟩ | ⟨hno, rfl⟩)⟩
 ·have hw3 := hw3.symm
  subst hw3
  obtain ⟨g, rfl, hA⟩ := HR.out.g (by omega)
  have hg := get_val HR.out hi hf hkey
  have HV := Lib.hid hg
  have hdl := ixDrop_len HR.out.nd hg
  obtain ⟨c, hc⟩ : ∃ c, (ixDrop st k).length = c := ⟨_, rfl⟩
  rw [hc] at hdl
  have HE := Lib.hid (empty_any w1 q g n c T st (by rw [hdl]; exact hA) (HR.out.ok (by omega)) hn1 (by omega) i hi hf)
  rw [hkey] at HE
  have HC := Lib.hid hc
  clear hA hf hkey hg hc
  go_wp2_with fail
  refine (show Calls _ _ _ _ _ from HE.out).mono ?_
  rintro e w4 ⟨rfl, T4, hA4, hT4, hk4⟩
  have HFIT := Lib.hid (fit_any w4 q (some ⟨g, 0, none⟩) n c T4 (ixDrop st k) hA4.s (fun _ => hT4) (fun h => by omega) HC.out.symm (ixDrop_i64 HR.out.i) hn1 (by omega))
  have HK4 := Lib.hid hk4
  clear hA4 hT4 hk4 HE
  go_wp2_with fail
  refine (show Calls _ _ _ _ _ from HFIT.out).mono ?_
  rintro e w5 ⟨rfl, g5, n5, T5, hA5, hT5, h1, h2, h3, hk5⟩
  have HS := Lib.hid (show IxRepAt w5 q (some ⟨g5, 0, none⟩) n5 T5 (ixDrop st k) from
   ⟨⟨by rw [HC.out]; exact hA5.blk, fun _ => ⟨g5, rfl, hA5.tab, hA5.ne⟩⟩, fun _ => hT5, fun h0 => by omega, ixDrop_i64 HR.out.i, by rw [HC.out]; omega⟩)
  have HSTEP := Lib.hid (show Step (ixFoot q (some ⟨g, 0, none⟩)) (ixFoot q (some ⟨g5, 0, none⟩)) w w5 from by
   refine step_of ?_ fun g' hg' => ?_
   ·have k14 : Keeps (Off q g) w w4 := (HK1.out.mono fun _ _ _ => trivial).trans HK4.out
    have k15 : Keeps (Off q g) w w5 := k14.trans (hk5.mono fun _ _ h => h.1)
    exact k15.mono fun b _ hb => ⟨fun e => hb (.inl e), fun e => hb (.inr (by rw [e]))⟩
   ·injection hg' with hg'
    injection hg' with hg'
    subst hg'
    rcases h3 with h | h
    ·exact .inl h
    ·exact .inr (Nat.le_trans (Nat.le_trans HK1.out.size HK4.out.size) h))
  clear hA5 hT5 h3 hk5 HFIT
  go_wp2_with fail
  go_ret
  rw [HV.out]
  exact ⟨rfl, _, ⟨_, _, _, rfl, HS.out⟩, HSTEP.out⟩
 ·have hw3 := hw3.symm
  subst hw3
  have HV := Lib.hid hno
  clear hno
  go_wp2_with fail
  go_ret
  have e : ixDrop st k = st := by
   unfold ixDrop
   rw [List.filter_eq_self]
   intro x hx
   rw [isK_not.2 (ixGet_none.1 HV.out x hx)]
   rfl
  rw [HV.out, e]
  exact ⟨rfl, _, ⟨_, _, _, rfl, HR.out⟩, step_of (HK1.out.mono fun _ _ _ => trivial) fun g' hg' => .inl hg'⟩
set_option maxRecDepth 100000 in
set_option maxHeartbeats 1000000 in
theorem ixbelow_any (w : World) (q : Nat) (F : Foot) (st : IxSt) (hR : IxRep w q F st) (hl : st.length ≤ 32768) (p : Int) (hp : i64 p) :
  Calls Tryz.prog 73 #[.pointer (some ⟨q, 0, none⟩), .int .i64 p] w fun e w' => e = .returned (.int .i64 ((st.length - (ixBelow st p).length : Nat) : Int)) ∧ ∃ F' : Foot, IxRep w' q F' (ixBelow st p) ∧ Step F F' w w' := by
 obtain ⟨A, n, T, rfl, hR⟩ := hR
 have hn := hR.n
 have hq := hR.s.blk.lt
 have HFR := Lib.hid (from_any w q A n st.length T hR.s (by omega) p)
 have hall : (∀ s ∈ fromL T p n, s.full = true ∧ s.hash = (hashN s.key : Int)) ∧ (((fromL T p n).map kv).map (·.1)).Nodup ∧ ((fromL T p n).map kv).Perm (ixBelow st p) := by
  rcases Nat.eq_zero_or_pos n with h0 | h0
  ·subst h0
   rw [tab_nil, (hR.zero rfl).1]
   exact ⟨fun s hs => absurd hs (List.not_mem_nil), List.nodup_nil, List.Perm.refl _⟩
  ·exact from_ok (hR.ok h0) p
 have hlen : (fromL T p n).length = (ixBelow st p).length := by
  have := hall.2.2.length_eq
  rwa [List.length_map] at this
 have hle := ixBelow_le st p
 have HLAY := Lib.hid (show ∀ (w1 : World) (B : Option Addr) (k : Nat), Kp w w1 → w1.ownsRow w.heap.size 126 4 (.slice B (fromL T p n).length k) (fromL T p n).length (slC (fromL T p n)) →
   Calls Tryz.prog 109 #[.pointer (some ⟨q, 0, none⟩), .slice B (fromL T p n).length k] w1 fun e w' => e = .returned (.tuple #[]) ∧ ∃ F' : Foot, IxRep w' q F' (ixBelow st p) ∧ Step (ixFoot q A) F' w w' from fun w1 B k hk ho => by
  refine (lay_any w1 q _ st.length (hR.s.blk.keep hk trivial) B k _ ((SlsAt.of_own ho rfl).mono fun b _ hb => ?_) (by omega) hall.1 hall.2.1).mono ?_
  ·have := hb.1; omega
  ·rintro e w' ⟨rfl, g', n', T', h1, h2, h3, h4, h5, h6⟩
   rw [hlen] at h1 h3 h4
   refine ⟨rfl, _, ⟨some ⟨g', 0, none⟩, n', T', rfl, ⟨⟨h1.blk, fun _ => ⟨g', rfl, h1.tab, h1.ne⟩⟩, fun _ => h2.of_perm hall.2.2, fun h0 => by omega, ixBelow_i64 hR.i, by omega⟩⟩, step_of ?_ fun g2 hg2 => ?_⟩
   ·exact ((hk.mono fun _ _ _ => trivial).trans h6).mono fun b _ hb e => hb (.inl e)
   ·injection hg2 with hg2
    injection hg2 with hg2
    subst hg2
    exact .inr (Nat.le_trans hk.size h5))
 have HSAME := Lib.hid (show (ixBelow st p).length = st.length → ∀ w1, Kp w w1 → ∃ F' : Foot, IxRep w1 q F' (ixBelow st p) ∧ Step (ixFoot q A) F' w w1 from fun h w1 hk => by
  rw [ixBelow_same h]
  exact ⟨_, ⟨A, n, T, rfl, hR.keep (hk.mono fun _ _ _ => trivial)⟩, step_of (hk.mono fun _ _ _ => trivial) fun g' hg' => .inl hg'⟩)
 have HBLK := Lib.hid hR.s.blk
 obtain ⟨m, hm⟩ : ∃ m, (ixBelow st p).length = m := ⟨_, rfl⟩
 obtain ⟨c, hc⟩ : ∃ c, st.length = c := ⟨_, rfl⟩
 rw [hlen] at HFR HLAY
 rw [hm] at HFR HLAY hle HSAME ⊢
 rw [hc] at hle hl HSAME HBLK ⊢
 have hcast : ((c - m : Nat) : Int) = (c : Int) - (m : Int) := by omega
 clear hR hall hlen hm hc hn
 go_enter Tryz.func73, Tryz.ntmps73
 go_wp2_with fail
 refine (show Calls _ _ _ _ _ from HFR.out).mono ?_
 rintro e w1 ⟨B, k, rfl, ho, hk⟩
 have c1 := (HBLK.out.keep hk trivial).c1
 have HK := Lib.hid hk
 have HO := Lib.hid ho
 clear hk ho
 by_cases hgt : m < c
 ·have hd : decide ((0 : Int) < (c : Int) - (m : Int)) = true := by rw [decide_eq_true_eq]; omega
  go_wp2_with fail
  refine (show Calls _ _ _ _ _ from HLAY.out w1 B k HK.out HO.out).mono ?_
  rintro e w2 ⟨rfl, hfin⟩
  have HFIN := Lib.hid hfin
  clear hfin
  go_wp2_with fail
  go_ret
  rw [hcast]
  exact ⟨rfl, HFIN.out⟩
 ·obtain rfl : m = c := by omega
  have hd : decide ((0 : Int) < (m : Int) - (m : Int)) = false := by rw [decide_eq_false_iff_not]; omega
  go_wp2_with fail
  go_ret
  rw [hcast]
  refine ⟨?_, HSAME.out trivial w1 HK.out⟩
  simp
theorem string_elem : Elem Tryz.prog 30 9 (.string ⟨#[]⟩) 1 16 := ⟨Tryz.underlying30, by kernel_rfl, rfl, by decide⟩
theorem list_make0 {P : Program} {w : World} {ops : Array Oper} {rest : List Oper} {o : Oper} {a : Act} {Q : Exit → Act → World → Prop} (hg : o.guard = none) (l c : Operand) (t : TypeId) (hop : o.op = Op.makeSlice t l c)
  {e : TypeId} {z : Value} {size bytes : Nat} (E : Elem P t e z size bytes) (kl kc : IntKind) (n : Nat) (hl : a.eval l = .int kl 0) (hc : a.eval c = .int kc (n : Int)) (b2 : bytes * n ≤ 281474976710656) (b3 : n ≤ maxLen)
  (hK : ∀ w', w'.ownsRow w.heap.size e size (.slice (some ⟨w.heap.size, 0, none⟩) 0 n) 0 [] → w.grownBy w' none → wpList P ops Q rest (a.put o.dst (.slice (some ⟨w.heap.size, 0, none⟩) 0 n)) w') : wpList P ops Q (o :: rest) a w := by
 obtain ⟨i, hi, hz0, hz1, hz2⟩ := info_parts E.info
 subst hz2
 exact wpList_make_own w hg l c t hop w.heap.size e i z size E.und hi hz0 hz1 kl kc _ n hl hc rfl b2 b3 (Nat.le_refl _) hK
theorem src_text (W : World) (s : ByteArray) : Src Tryz.prog 1 30 (.slice (some ⟨W.heap.size, 0, none⟩) 1 1) 1 [.string s] (W.alloc (.cells #[.string s] 9)) :=
 src_one Tryz.underlying30 W (.string s) 9 rfl W.heap.size rfl 1
def keysC (L : List Sl) (j : Nat) : List Value := (L.take j).map fun s => Value.string s.key
set_option maxRecDepth 100000 in
set_option maxHeartbeats 1000000 in
theorem ixkeys_any (w : World) (q : Nat) (F : Foot) (st : IxSt) (hR : IxRep w q F st) (hl : st.length ≤ 32768) :
  Calls Tryz.prog 61 #[.pointer (some ⟨q, 0, none⟩)] w fun e w' => ∃ (A : Option Addr) (c : Nat) (ks : List ByteArray), e = .returned (.slice A st.length c) ∧ ks.Perm (st.map (·.1)) ∧ Rising ks ∧ st.length ≤ c ∧ c ≤ maxLen ∧
   Row w' A (fun b => w.heap.size ≤ b ∧ b < w'.heap.size) (ks.map Value.string) ∧ Keeps (fun _ => True) w w' := by
 obtain ⟨A, n, T, rfl, hR⟩ := hR
 have hn := hR.n
 have hall : ((fromL T (-9223372036854775808) n).map kv).Perm st := by
  rcases Nat.eq_zero_or_pos n with h0 | h0
  ·subst h0
   rw [tab_nil, (hR.zero rfl).1]
   exact List.Perm.refl _
  ·have h := (from_ok (hR.ok h0) (-9223372036854775808)).2.2
   rwa [below_all fun x hx => (hR.i x hx).1] at h
 have hlen : (fromL T (-9223372036854775808) n).length = st.length := by
  have := hall.length_eq
  rwa [List.length_map] at this
 have hnd := hR.nd
 have hperm : ((fromL T (-9223372036854775808) n).map Sl.key).Perm (st.map (·.1)) := by
  have := hall.map (·.1)
  rwa [List.map_map] at this
 have HFR := Lib.hid (fun (w1 : World) (h : Kp w w1) => from_any w1 q A n st.length T (hR.s.keep h) (by omega) (-9223372036854775808))
 have c1 := hR.s.blk.c1
 generalize fromL T (-9223372036854775808) n = L at *
 have HP := Lib.hid hperm
 have HL := Lib.hid hlen
 have HND := Lib.hid ((hperm.nodup_iff).2 hnd)
 obtain ⟨c, hc⟩ : ∃ c, st.length = c := ⟨_, rfl⟩
 rw [hc] at c1 hl HL ⊢
 rw [HL.out] at HFR
 clear hR hall hlen hnd hperm hc hn
 go_enter Tryz.func61, Tryz.ntmps61
 go_wp2_with (refine list_make0 rfl (.const (.int .i64 0)) (.tmp 11) 30 rfl string_elem .i64 .i64 c rfl rfl (by omega) (by unfold maxLen; omega) ?_)
 intro w1 hown hg
 have hk1 : Kp w w1 := Keeps.of_grown hg fun _ h => by cases h
 have HK1 := Lib.hid hk1
 have hsz1 : w.heap.size < w1.heap.size := (hown.lt w.heap.size rfl).2
 have HO1 := Lib.hid hown
 have HF1 := Lib.hid (HFR.out w1 hk1)
 clear hown hg hk1 HFR
 go_wp2_with fail
 refine (show Calls _ _ _ _ _ from HF1.out).mono ?_
 rintro e w2 ⟨B, k, rfl, ho, hk2⟩
 have HS2 := Lib.hid ((SlsAt.of_own ho HL.out.symm).mono (G := fun b => w1.heap.size ≤ b ∧ b < w2.heap.size) fun b _ h => h)
 have HO2 := Lib.hid (hk2.own HO1.out fun _ _ => trivial)
 have HK2 := Lib.hid (HK1.out.trans hk2)
 have hsz2 := hk2.size
 clear ho hk2 HO1 HK1 HF1
 go_wp2_with fail
 go_loopw [3, 16] (fun v i wr => ∃ (j : Nat) (A1 : Option Addr) (cc : Nat), j ≤ c ∧ i = .int .i64 (j : Int) ∧ v = .slice A1 j cc ∧ Hid (wr.ownsRow w.heap.size 9 1 v j (keysC L j)) ∧ Hid (∀ b, v.ownBlock = some b → b < w1.heap.size ∨ w2.heap.size ≤ b) ∧ Hid (Kp w wr) ∧ Hid (Keeps (fun b => w1.heap.size ≤ b ∧ b < w2.heap.size) w2 wr)) (fun _ i _ => c - (intOf i).toNat)
 case atStart => exact ⟨0, some ⟨w.heap.size, 0, none⟩, c, Nat.zero_le _, rfl, rfl, HO2, Lib.hid (fun b hb => by
  have : b = w.heap.size := by simpa [Value.ownBlock] using hb.symm
  omega), HK2, Lib.hid (Keeps.refl _ _)⟩
 case round =>
  clear HO2
  obtain ⟨j, A1, cc, hj, rfl, rfl, HO, HB, HK, HKW⟩ := hrel
  by_cases hjc : j < c
  ·have hjc' : (j : Int) < (c : Int) := by omega
   have hjl : j < L.length := by rw [HL.out]; exact hjc
   have HSr := Lib.hid (HS2.out.keep HKW.out)
   obtain ⟨b, o, rfl, hbw, t0, t1, t2, t3⟩ := HSr.out j hjl
   have HT := Lib.hid (show keysC L (j + 1) = keysC L j ++ [Value.string L[j].key] from by
    unfold keysC
    rw [List.take_succ_eq_append_getElem hjl, List.map_append]; rfl)
   generalize L[j].key = K at t0 HT
   generalize L[j].hash = Z at t1
   generalize L[j].pos = P at t2
   generalize L[j].full = U at t3
   have hblt : b < wr.heap.size := World.block_lt_of_cell? wr _ t0
   have hsrc := src_text (wr.alloc (.cells #[.string K, .int .u64 Z, .int .i64 P, .bool U] 126)) K
   rw [show (wr.alloc (.cells #[.string K, .int .u64 Z, .int .i64 P, .bool U] 126)).heap.size = wr.heap.size + 1 by simp] at hsrc
   have HSRC := Lib.hid hsrc
   have hszr := HK.out.size
   have hszw := HKW.out.size
   clear hsrc HSr
   go_wp2_with (at_builtin; refine string_elem.list_append rfl (.tmp 20) (.tmp 23) _ rfl rfl ((HO.out.alloc _).alloc _) rfl HSRC.out ?c3 ?c4 ?c5 ?_)
   case c3 => unfold maxLen; omega
   case c4 => omega
   case c5 => simp; omega
   intro v3 w3 ho3 hg3 hb3
   have HK3 := Lib.hid (show Kp w w3 from ((HK.out.alloc _).alloc _).grown hg3 fun j hj => (HO.out.lt j hj).1)
   have HKW3 := Lib.hid (show Keeps (fun b => w1.heap.size ≤ b ∧ b < w2.heap.size) w2 w3 from by
    refine ((HKW.out.alloc _).alloc _).trans (Keeps.of_grown hg3 fun b hb _ hh => ?_)
    rcases HB.out b hb with h | h <;> omega)
   have HO3 := Lib.hid (show w3.ownsRow w.heap.size 9 1 v3 (j + 1) (keysC L (j + 1)) from by rw [HT.out]; exact ho3)
   have HB3 := Lib.hid (show ∀ b, v3.ownBlock = some b → b < w1.heap.size ∨ w2.heap.size ≤ b from fun b hb => by
    rcases hb3 with h | h
    ·exact HB.out b (by rw [← h]; exact hb)
    ·rw [h] at hb
     injection hb with hb
     (try simp at hb)
     omega)
   obtain ⟨g3, c3, rfl, -, -⟩ := ho3.form (by omega)
   clear ho3 hg3 hb3 HSRC HO HB HK HKW
   go_wp2_with fail
   go_roundw
   case rel => exact ⟨j + 1, some ⟨g3, 0, none⟩, c3, hjc, by go_num, rfl, HO3, HB3, HK3, HKW3⟩
   case measure => simp [intOf]; omega
  ·obtain rfl : c = j := by omega
   have hjc' : ¬ (c : Int) < (c : Int) := by omega
   have hLt : L.take c = L := by rw [← HL.out]; exact List.take_length
   have hm : keysC L c = (L.map Sl.key).map Value.string := by unfold keysC; rw [hLt, List.map_map]; rfl
   have hll : (L.map Sl.key).length = c := by rw [List.length_map]; exact HL.out
   have hSORT := sort_any wr w.heap.size A1 cc (L.map Sl.key) HND.out (by rw [hll, ← hm]; exact HO.out) (by omega)
   rw [hll] at hSORT
   have HSORT := Lib.hid hSORT
   have hcap := own_cap HO.out
   have HCAP := Lib.hid hcap
   clear hLt hm hll hSORT hcap
   go_wp2_with fail
   refine (show Calls _ _ _ _ _ from HSORT.out).mono ?_
   rintro e w4 ⟨rfl, ks, hks, hrise, ho4, hk4⟩
   have HFIN := Lib.hid (show Kp w w4 from by
    refine ⟨hk4.os.trans HK.out.os, hk4.tape.trans HK.out.tape, hk4.output.trans HK.out.output, Nat.le_trans HK.out.size hk4.size, fun b _ hlt => ?_⟩
    refine (hk4.block b (fun o ho => ?_) (Nat.lt_of_lt_of_le hlt HK.out.size)).trans (HK.out.block b trivial hlt)
    rcases Nat.eq_zero_or_pos c with h0 | h0
    ·subst h0
     rcases HO.out.2 with ⟨h1, -⟩ | ⟨g, cap, cur, hv, hb, -⟩
     ·injection h1 with h1
      rw [h1] at ho; cases ho
     ·injection hv with hv
      rw [hv] at ho
      injection ho with ho
      injection ho with ho
      omega
    ·obtain ⟨g, cap, hv, hb, -⟩ := HO.out.form h0
     injection hv with hv
     rw [hv] at ho
     injection ho with ho
     injection ho with ho
     omega)
   have hkl : ks.length = c := by rw [hks.length_eq, List.length_map]; exact HL.out
   have HROW := Lib.hid (show Row w4 A1 (fun b => w.heap.size ≤ b ∧ b < w4.heap.size) (ks.map Value.string) from by
    have h := ho4
    have e : (ks.map Value.string).length = c := by rw [List.length_map]; exact hkl
    rw [← e] at h
    exact Row.of_own h)
   have HKS := Lib.hid (hks.trans HP.out)
   have HRI := Lib.hid hrise
   clear hks hrise ho4 hk4 hkl HSORT
   go_wp2_with fail
   go_ret
   exact ⟨A1, cc, ks, rfl, HKS.out, HRI.out, HCAP.out.1, HCAP.out.2.1, HROW.out, HFIN.out⟩
def theIndex : IndexOK where
 T := fun _ => True
 tk := fun _ _ => trivial
 rep := IxRep
 lt := fun h => h.lt
 keep := fun h hk => h.keep hk
 new := fun w _ => ixnew_any w
 put := fun _ w q F st hR _ _ _ hl k p hk hp => ixput_any w q F st hR hl k p hk hp
 get := fun w q F st hR _ hl k hk => ixget_any w q F st hR hl k hk
 drop := fun _ w q F st hR _ _ _ hl k hk => ixdrop_any w q F st hR hl k hk
 below := fun _ w q F st hR _ _ _ hl p hp => ixbelow_any w q F st hR hl p hp
 keys := fun w q F st hR _ hl => ixkeys_any w q F st hR hl
theorem fm_start (p i n f x : Nat) (hx : x ≤ 1048576) : FM ⟨i, n, [], 0, 1⟩ ⟨p, i, n, [], 0, f, x⟩ [] :=
 ⟨rfl, fun p x hx => by simp at hx, ⟨[], [], rfl, .inl rfl, rfl, rfl, rfl⟩, rfl, rfl, Nat.zero_le _, by show x ≤ 1048576 * 1; omega, by show 1 ≤ 30000; decide⟩
theorem cb_of {S : Slog2} {I : IndexOK} {W w : World} {p q : Nat} {F Fs : Foot} {s : SDev} {st : FSt} (hd : DAt w p F s) (hr : flashRep S I w p q Fs st s) (ha : Apart F Fs) (hk : Keeps (fun _ => True) W w) (hF : ∀ b, F.all b → W.heap.size ≤ b) (hFs : ∀ b, Fs.all b → W.heap.size ≤ b) (hroom : st.place + 8 * st.segs ≤ s.now.length) : Cb S I W w p q F Fs s st :=
 ⟨hd, hr, ha, hk, hF, hFs, hroom⟩
def theFlash : FlashOK where
 T := fun w => theSlog2.T w ∧ theIndex.T w ∧ theItems.T w
 tk := fun h hk => ⟨theSlog2.tk h.1 hk, theIndex.tk h.2.1 hk, theItems.tk h.2.2 hk⟩
 hash := hashN
 hashLt := hashN_lt
 rep := fun w p q Fs st s => flashRep theSlog2 theIndex w p q Fs st s
 disk := fun st rows => flashDisk theSlog2 st rows
 wf := fun h => frep_wf h
 lt := fun h => frep_lt h
 keep := fun h hk => frep_keep h hk
 other := fun h h1 h2 => frep_other h h1 h2
 diskKeep := fun h h1 h2 => fdisk_keep h h1 h2
 openNew := fun w p F s hd hT i n h3 hn hin hb => by
  refine copen theSlog2 theIndex theItems w hT p F s ⟨i, n, [], 0, 1⟩ hd i n hin (by show 1 ≤ 30000; decide) ((theSlog.openNew w p F s hd hT.1 i n h3 hn hin hb).mono ?_)
  rintro e w' ⟨q, Fs, f, x, rfl, hr, hx, hF, hk⟩
  exact ⟨q, Fs, _, [], rfl, hr, rfl, fm_start p i n f x hx, hF, hk⟩
 openOld := fun w p F s st hd hT hdk hroom hage => by
  obtain ⟨lst, hs, hD, hm⟩ := hdk
  have e1 : (Value.int .i64 (st.place : Int)) = .int .i64 (lst.place : Int) := by rw [hm.place]
  have e2 : (Value.int .i64 (st.segs : Int)) = .int .i64 (lst.segs : Int) := by rw [hm.segs]
  refine copen theSlog2 theIndex theItems w hT p F s ⟨st.place, st.segs, fopened st.ents, st.gone, st.age + 1⟩ hd st.place st.segs hroom (by show st.age + 1 ≤ 30000; omega) ?_
  rw [e1, e2]
  refine (theSlog.openOld w p F s lst hd hT.1 hD (by rw [hm.place, hm.segs]; exact hroom) (by have := hm.next; omega)).mono ?_
  rintro e w' ⟨q, Fs, f, x, rfl, hr, hx, hF, hk⟩
  exact ⟨q, Fs, _, hs, rfl, hr, rfl, hm.opened hx (by omega), hF, hk⟩
 put := fun W w p q F Fs s st hd hr ha hT hk hF hFs hroom hage hcl x hm hg => cput theSlog2 theIndex theItems W w hT p q F Fs s st (cb_of hd hr ha hk hF hFs hroom) hage hcl x hm hg
 putNo := fun w p q F Fs s st hd hr ha hT hroom x hf hno => cputNo theSlog2 theIndex theItems w hT.2.2 p q Fs s st hr x hf hno
 get := fun w p q F Fs s st hd hr ha hT hroom k now hk h1 h2 => cget theSlog2 theIndex theItems w hT p q F Fs s st hd hr ha hroom (frep_age hr) k now hk h1 h2
 drop := fun W w p q F Fs s st hd hr ha hT hk hF hFs hroom hage hcl A c ks hrow hlc hcm hl hok => cdrop theSlog2 theIndex theItems W w hT p q F Fs s st (cb_of hd hr ha hk hF hFs hroom) hage hcl A c ks hrow hlc hcm hl hok
 flush := fun W w p q F Fs s st hd hr ha hT hk hF hFs hroom hage hcl => by
  refine (cflush theSlog2 theIndex W w hT.1 p q F Fs s st (cb_of hd hr ha hk hF hFs hroom) (by omega)).mono ?_
  rintro e w' ⟨rfl, F', Fs', rows, k, hd', hr', hgo⟩
  obtain ⟨h1, h2⟩ := hr' (st.age + 1) (Nat.le_succ _) (by omega)
  exact ⟨rfl, F', Fs', rows, k, hd', h1, h2, hgo⟩
 keys := fun w p q F Fs s st hd hr ha hT hroom => ckeys theSlog2 theIndex w hT.2.1 p q Fs s st hr (frep_age hr)
end Go.Proofs.YticophaepapjoaaGreatDoor
namespace Go.Proofs.YticophaepapjoaaGreatDoor
open Go
def markB (n : Nat) (k : ByteArray) : List UInt8 := putZ (n : Int) ++ putT k.data.toList
theorem markB_len {n : Nat} {k : ByteArray} (hn : n ≤ 40000) (hk : keyOk k) : 1 ≤ (markB n k).length ∧ (markB n k).length ≤ 44 := by
 have kx : k.data.toList.length = k.size := by simp
 have z : ∀ n : Int, 0 ≤ n → zig n = (2 * n).toNat := fun n hn => by unfold zig; rw [if_neg (by omega)]
 have h1 : (putZ (n : Int)).length ≤ 3 := vin_len 2 _ (by rw [z _ (by omega)]; omega)
 have h2 : (putZ (k.data.toList.length : Int)).length ≤ 1 := vin_len 0 _ (by rw [z _ (by omega)]; have := hk.2; omega)
 have h3 : 0 < (putZ (n : Int)).length := vin_pos _
 have h4 := hk.2
 unfold markB putT
 simp only [List.length_append]
 omega
theorem jsnoc_is {α : Type} (l : List α) (h : l ≠ []) : ∃ a b, l = a ++ [b] := ⟨l.dropLast, l.getLast h, (List.dropLast_concat_getLast h).symm⟩
theorem jopened_snoc (l : List LRec) (r : LRec) : opened (l ++ [r]) = l ++ [⟨r.pos, r.body, r.opens + 1⟩] := by
 induction l with
 | nil => rfl
 | cons a l ih =>
  cases l with
  | nil => rfl
  | cons b l => show a :: opened ((b :: l) ++ [r]) = _; rw [ih]; rfl
theorem jopened_key (l : List LRec) : (opened l).map LRec.key = l.map LRec.key := by
 by_cases hl : l = []
 ·subst hl; rfl
 ·obtain ⟨a, r, rfl⟩ := jsnoc_is l hl
  rw [jopened_snoc]; simp [LRec.key]
theorem jopened_len (l : List LRec) : (opened l).length = l.length := by
 have := congrArg List.length (jopened_key l)
 simpa using this
theorem jopened_sum (l : List LRec) : ((opened l).map (·.opens)).sum ≤ (l.map (·.opens)).sum + 1 := by
 by_cases hl : l = []
 ·subst hl; exact Nat.zero_le _
 ·obtain ⟨a, r, rfl⟩ := jsnoc_is l hl
  rw [jopened_snoc]
  simp only [List.map_append, List.sum_append, List.map_cons, List.map_nil, List.sum_cons, List.sum_nil]
  omega
theorem jopened_body (l : List LRec) (i : Nat) (h : i < (opened l).length) (h' : i < l.length) : ((opened l)[i]).body = (l[i]).body := by
 have e := congrArg (fun m => m[i]?) (jopened_key l)
 simp only [List.getElem?_map, List.getElem?_eq_getElem h, List.getElem?_eq_getElem h', Option.map_some, Option.some.injEq] at e
 exact congrArg Prod.snd e
theorem jcosts_le (l : List LRec) (h : ∀ r ∈ l, r.body.length ≤ 44) : costs l ≤ 104 * l.length + 400 * (l.map (·.opens)).sum := by
 induction l with
 | nil => exact Nat.zero_le _
 | cons r l ih =>
  have h1 := ih fun x hx => h x (List.mem_cons_of_mem _ hx)
  have h2 := h r List.mem_cons_self
  have e1 : costs (r :: l) = r.cost + costs l := by simp [costs]
  rw [e1]
  simp only [List.length_cons, List.map_cons, List.sum_cons]
  unfold LRec.cost
  omega
theorem jsum_drop (l : List LRec) (n : Nat) : ((l.drop n).map (·.opens)).sum ≤ (l.map (·.opens)).sum := by
 have e : (l.map (·.opens)).sum = ((l.take n).map (·.opens)).sum + ((l.drop n).map (·.opens)).sum := by
  rw [← List.sum_append, ← List.map_append, List.take_append_drop]
 omega
structure JM (st : JSt) (lst : LSt) : Prop where
 len : lst.hist.length = st.keys.length
 body : ∀ i (h : i < lst.hist.length), (lst.hist[i]).body = markB (i + 1) (st.keys.getD i default)
 one : ∀ k ∈ st.keys, keyOk k
 opens : ∃ o, (lst.hist.map (·.opens)).sum ≤ o ∧ (st.kept + 4 * o ≤ 32 ∨ st.kept = 0)
 place : lst.place = st.place
 segs : lst.segs = st.segs
 many : 20 ≤ st.segs ∧ st.segs ≤ 200
 base : st.base = lst.gone
 some : st.keys ≠ [] → lst.gone < lst.hist.length
 age : lst.hist.length ≤ st.age
 next : lst.next ≤ 1048576 * st.age
 old : st.age ≤ 30000
section
variable {st : JSt} {lst : LSt}
theorem JM.short (h : JM st lst) : ∀ r ∈ lst.hist, r.body.length ≤ 44 := fun r hr => by
 obtain ⟨i, hi, rfl⟩ := List.getElem_of_mem hr
 rw [h.body i hi]
 have hi2 : i < st.keys.length := by rw [← h.len]; exact hi
 refine (markB_len (by have := h.age; have := h.old; omega) ?_).2
 rw [List.getD_eq_getElem?_getD, List.getElem?_eq_getElem hi2]
 exact h.one _ (List.getElem_mem hi2)
theorem JM.ok (h : JM st lst) (ho : lst.Ok) : st.Ok := by
 refine ⟨h.many, h.one, ?_⟩
 obtain ⟨o, h1, h2⟩ := h.opens
 rw [h.base, ← h.len]
 refine ho.kept _ (Nat.sub_le _ _) ?_
 have h3 := jcosts_le (lst.hist.drop (lst.hist.length - st.kept)) fun r hr => h.short r (List.mem_of_mem_drop hr)
 have h4 := jsum_drop lst.hist (lst.hist.length - st.kept)
 rw [List.length_drop] at h3
 have h5 := h.many.1
 rw [h.segs]
 rcases h2 with h2 | h2
 ·omega
 ·rw [h2, Nat.sub_zero, List.drop_length] at h3 ⊢
  exact Nat.zero_le _
theorem JM.has (h : JM st lst) (i : Nat) : lst.has i ↔ st.has i := by
 unfold LSt.has JSt.has
 rw [h.place, h.segs]
theorem JM.older (h : JM st lst) {n : Nat} (h1 : st.age ≤ n) (h2 : n ≤ 30000) : JM ⟨st.place, st.segs, st.keys, st.base, st.kept, n⟩ lst :=
 { h with age := by have := h.age; show _ ≤ n; omega, next := by have := h.next; show _ ≤ 1048576 * n; omega, old := h2 }
theorem JM.start (p i n f x : Nat) (hn : 20 ≤ n ∧ n ≤ 200) (hx : x ≤ 1048576) : JM ⟨i, n, [], 0, 32, 1⟩ ⟨p, i, n, [], 0, f, x⟩ :=
 ⟨rfl, fun i h => absurd h (Nat.not_lt_zero _), fun k hk => by simp at hk, ⟨0, Nat.le_refl _, .inl (Nat.le_refl _)⟩, rfl, rfl, hn, rfl, fun h => absurd rfl h, Nat.zero_le _, by show x ≤ 1048576 * 1; omega, by show 1 ≤ 30000; decide⟩
theorem JM.opened (h : JM st lst) {p f x : Nat} (hx : x ≤ lst.next + 1048576) (hage : st.age + 1 ≤ 30000) : JM ⟨st.place, st.segs, st.keys, st.base, st.kept - 4, st.age + 1⟩ ⟨p, st.place, st.segs, Go.Proofs.YticophaepapjoaaGreatDoor.opened lst.hist, lst.gone, f, x⟩ := by
 obtain ⟨o, h1, h2⟩ := h.opens
 have hl := jopened_len lst.hist
 refine ⟨hl.trans h.len, fun i hi => ?_, h.one, ⟨o + 1, ?_, ?_⟩, rfl, rfl, h.many, h.base, fun hne => ?_, ?_, ?_, hage⟩
 ·have hi' : i < lst.hist.length := by rw [← hl]; exact hi
  exact (jopened_body lst.hist i hi hi').trans (h.body i hi')
 ·exact Nat.le_trans (jopened_sum _) (Nat.succ_le_succ h1)
 ·show st.kept - 4 + 4 * (o + 1) ≤ 32 ∨ st.kept - 4 = 0
  omega
 ·show lst.gone < (Go.Proofs.YticophaepapjoaaGreatDoor.opened lst.hist).length
  rw [hl]; exact h.some hne
 ·show (Go.Proofs.YticophaepapjoaaGreatDoor.opened lst.hist).length ≤ st.age + 1
  rw [hl]; have := h.age; omega
 ·show x ≤ 1048576 * (st.age + 1)
  have := h.next; omega
theorem JM.add (h : JM st lst) {k : ByteArray} (hk : keyOk k) {p pos g f y : Nat} (hy : y ≤ lst.next + 1048576) (hage : st.age + 1 ≤ 30000)
  (hok : (⟨p, lst.place, lst.segs, lst.hist ++ [⟨pos, markB (lst.hist.length + 1) k, 0⟩], g, f, y⟩ : LSt).Ok) :
  JM ⟨st.place, st.segs, st.keys ++ [k], g, st.kept, st.age + 1⟩ ⟨p, lst.place, lst.segs, lst.hist ++ [⟨pos, markB (lst.hist.length + 1) k, 0⟩], g, f, y⟩ := by
 obtain ⟨o, h1, h2⟩ := h.opens
 have hl := h.len
 have hb := markB_len (n := lst.hist.length + 1) (by have := h.age; omega) hk
 refine ⟨by simp [hl], fun i hi => ?_, fun x hx => ?_, ⟨o, by simpa using h1, h2⟩, h.place, h.segs, h.many, rfl, fun _ => ?_, ?_, ?_, hage⟩
 ·simp only [List.length_append, List.length_cons, List.length_nil] at hi
  rcases Nat.lt_or_ge i lst.hist.length with h3 | h3
  ·simp only [List.getElem_append_left h3, List.getD_eq_getElem?_getD, List.getElem?_append_left (show i < st.keys.length by omega)]
   rw [h.body i h3, List.getD_eq_getElem?_getD]
  ·obtain rfl : i = lst.hist.length := by omega
   simp [List.getD_eq_getElem?_getD, hl]
 ·rcases List.mem_append.1 hx with hx | hx
  ·exact h.one x hx
  ·rw [List.mem_singleton.1 hx]; exact hk
 ·have h3 := hok.kept lst.hist.length (by simp) (by
   have h5 := h.many.1
   have h6 := h.segs
   simp [costs, LRec.cost]
   omega)
  simp only [List.length_append, List.length_cons, List.length_nil] at h3 ⊢
  omega
 ·have := h.age; simp; omega
 ·have := h.next; simp only; omega
end
end Go.Proofs.YticophaepapjoaaGreatDoor
namespace Go.Proofs.YticophaepapjoaaGreatDoor
open Go Go.RowKit Go.Joins
theorem jown_lt {w : World} {base n size : Nat} {e : TypeId} {v : Value} {xs : List Value} (h : w.ownsRow base e size v n xs) : ∀ b, v.ownBlock = some b → b < w.heap.size := by
 intro b hb
 rcases h.2 with ⟨rfl, _⟩ | ⟨g, cap, cur, rfl, _, hg, _⟩
 ·cases hb
 ·injection hb with hb; subst hb; exact (Array.getElem?_eq_some_iff.1 hg).1
def posC (l : List Nat) : List Value := l.map fun x => .int .i64 ((x : Nat) : Int)
theorem posC_len (l : List Nat) : (posC l).length = l.length := by simp [posC]
def jfoot (q : Nat) (Fl : Foot) (v : Value) : Foot := ⟨fun b => b = q ∨ Fl.M b ∨ v.ownBlock = some b, Fl.I⟩
theorem jfoot_all {q : Nat} {Fl : Foot} {v : Value} {b : Nat} : (jfoot q Fl v).all b ↔ b = q ∨ Fl.all b ∨ v.ownBlock = some b := by
 unfold jfoot Foot.all
 constructor
 ·rintro ((h | h | h) | h)
  ·exact .inl h
  ·exact .inr (.inl (.inl h))
  ·exact .inr (.inr h)
  ·exact .inr (.inl (.inr h))
 ·rintro (h | (h | h) | h)
  ·exact .inl (.inl h)
  ·exact .inl (.inr (.inl h))
  ·exact .inr h
  ·exact .inl (.inr (.inr h))
def JBlk (w : World) (q lq : Nat) (bs : Int) (v : Value) : Prop := w.heap[q]? = some (.cells #[.pointer (some ⟨lq, 0, none⟩), .int .i64 bs, v] 108 (0, 0))
section
variable {w w' : World} {q lq : Nat} {bs : Int} {v : Value} {G : Nat → Prop}
theorem JBlk.keep (h : JBlk w q lq bs v) (hk : Keeps G w w') (hq : G q) : JBlk w' q lq bs v := (hk.block q hq (Array.getElem?_eq_some_iff.1 h).1).trans h
theorem JBlk.lt (h : JBlk w q lq bs v) : q < w.heap.size := (Array.getElem?_eq_some_iff.1 h).1
theorem JBlk.c0 (h : JBlk w q lq bs v) : w.cell? ⟨q, 0, none⟩ = some (.pointer (some ⟨lq, 0, none⟩)) := (cell_of_block h 0).trans rfl
theorem JBlk.c1 (h : JBlk w q lq bs v) : w.cell? ⟨q, 1, none⟩ = some (.int .i64 bs) := (cell_of_block h 1).trans rfl
theorem JBlk.c2 (h : JBlk w q lq bs v) : w.cell? ⟨q, 2, none⟩ = some v := (cell_of_block h 2).trans rfl
theorem JBlk.f (h : JBlk w q lq bs v) (i : Nat) : w.frozen? ⟨q, i, none⟩ = false := unfrozen_of_block h i
theorem JBlk.set1 (h : JBlk w q lq bs v) (x : Int) : JBlk (w.setCell ⟨q, 1, none⟩ (.int .i64 x)) q lq x v := (block_setCell h _).trans rfl
theorem JBlk.set2 (h : JBlk w q lq bs v) (v' : Value) : JBlk (w.setCell ⟨q, 2, none⟩ v') q lq bs v' := (block_setCell h _).trans rfl
end
structure JAt (S : Slog2) (w : World) (p q lq : Nat) (Fl : Foot) (bs : Int) (v : Value) (xs : List Nat) (lst : LSt) (s : SDev) : Prop where
 blk : JBlk w q lq bs v
 l : S.rep w lq Fl lst s
 on : lst.dev = p
 row : w.ownsRow 0 2 1 v xs.length (posC xs)
 ql : ¬ Fl.all q
 qv : v.ownBlock ≠ some q
 lv : ∀ b, v.ownBlock = some b → ¬ Fl.all b
section
variable {S : Slog2} {w w' : World} {p q lq : Nat} {Fl : Foot} {bs : Int} {v : Value} {xs : List Nat} {lst : LSt} {s : SDev}
theorem JAt.keep (h : JAt S w p q lq Fl bs v xs lst s) (hk : Keeps (jfoot q Fl v).all w w') : JAt S w' p q lq Fl bs v xs lst s :=
 ⟨h.blk.keep hk (jfoot_all.2 (.inl rfl)), S.keep h.l (hk.mono fun b _ hb => jfoot_all.2 (.inr (.inl hb))), h.on, hk.own h.row fun b hb => jfoot_all.2 (.inr (.inr hb)), h.ql, h.qv, h.lv⟩
theorem JAt.kp (h : JAt S w p q lq Fl bs v xs lst s) (hk : Kp w w') : JAt S w' p q lq Fl bs v xs lst s := h.keep (hk.mono fun _ _ _ => trivial)
theorem JAt.lt (h : JAt S w p q lq Fl bs v xs lst s) : ∀ b, (jfoot q Fl v).all b → b < w.heap.size := fun b hb => by
 rcases jfoot_all.1 hb with rfl | hb | hb
 ·exact h.blk.lt
 ·exact S.lt h.l b hb
 ·exact jown_lt h.row b hb
theorem JAt.form (h : JAt S w p q lq Fl bs v xs lst s) : ∃ A c, v = .slice A xs.length c ∧ xs.length ≤ c ∧ c ≤ maxLen := by
 obtain ⟨A, c, rfl, -, -⟩ := own_slice h.row
 have := own_cap h.row
 exact ⟨A, c, rfl, this.1, this.2.1⟩
end
def jkept (lst : LSt) : List Nat := (lst.hist.drop lst.gone).map (·.pos)
theorem jkept_len (lst : LSt) : (jkept lst).length = lst.hist.length - lst.gone := by simp [jkept]
def jrep (S : Slog2) (w : World) (p q : Nat) (Fs : Foot) (st : JSt) (s : SDev) : Prop :=
 ∃ (lq : Nat) (Fl : Foot) (v : Value) (lst : LSt), Fs = jfoot q Fl v ∧ JAt S w p q lq Fl (lst.gone : Int) v (jkept lst) lst s ∧ JM st lst
def jdisk (S : Slog2) (st : JSt) (rows : List (List UInt8)) : Prop := ∃ lst : LSt, S.disk lst rows ∧ JM st lst
section
variable {S : Slog2} {w w' : World} {p q : Nat} {Fs : Foot} {st : JSt} {s s' : SDev}
theorem jrep_wf (h : jrep S w p q Fs st s) : st.Ok := by
 obtain ⟨lq, Fl, v, lst, rfl, hc, hm⟩ := h
 exact hm.ok (S.wf hc.l)
theorem jrep_lt (h : jrep S w p q Fs st s) : ∀ b, Fs.all b → b < w.heap.size := by
 obtain ⟨lq, Fl, v, lst, rfl, hc, hm⟩ := h
 exact hc.lt
theorem jrep_keep (h : jrep S w p q Fs st s) (hk : Keeps Fs.all w w') : jrep S w' p q Fs st s := by
 obtain ⟨lq, Fl, v, lst, rfl, hc, hm⟩ := h
 exact ⟨lq, Fl, v, lst, rfl, hc.keep hk, hm⟩
theorem jrep_other (h : jrep S w p q Fs st s) (hl : s'.now.length = s.now.length) (ho : ∀ i, st.has i → s'.now.getD i [] = s.now.getD i []) : jrep S w p q Fs st s' := by
 obtain ⟨lq, Fl, v, lst, rfl, hc, hm⟩ := h
 exact ⟨lq, Fl, v, lst, rfl, { hc with l := S.other hc.l hl fun i hi => ho i ((hm.has i).1 hi) }, hm⟩
theorem jdisk_keep {rows rows' : List (List UInt8)} (h : jdisk S st rows) (hl : rows'.length = rows.length) (ho : ∀ i, st.has i → rows'.getD i [] = rows.getD i []) : jdisk S st rows' := by
 obtain ⟨lst, hd, hm⟩ := h
 exact ⟨lst, S.diskKeep hd hl fun i hi => ho i ((hm.has i).1 hi), hm⟩
theorem JGo.trans {w w1 w2 : World} {F F1 F2 Fs Fs1 Fs2 : Foot} {s s1 s2 : SDev} {st st1 : JSt} {n m : Nat} (h : JGo w w1 F F1 Fs Fs1 s s1 st n) (k : JGo w1 w2 F1 F2 Fs1 Fs2 s1 s2 st1 m) (hst : ∀ i, st1.has i ↔ st.has i) : JGo w w2 F F2 Fs Fs2 s s2 st (n + m) := by
 have hsz := h.k.size
 have all1 : ∀ b, F1.all b → F.all b ∨ w.heap.size ≤ b := fun b hb => by
  rcases hb with hb | hb
  ·rcases h.f1 b hb with h1 | h1
   ·exact .inl (.inl h1)
   ·exact .inr h1
  ·exact h.f2 b hb
 have all2 : ∀ b, Fs1.all b → Fs.all b ∨ w.heap.size ≤ b := fun b hb => by
  rcases hb with hb | hb
  ·rcases h.f3 b hb with h1 | h1
   ·exact .inl (.inl h1)
   ·exact .inr h1
  ·exact h.f4 b hb
 refine ⟨k.ap, ⟨k.k.os.trans h.k.os, k.k.tape.trans h.k.tape, k.k.output.trans h.k.output, Nat.le_trans hsz k.k.size, fun b hb hlt => ?_⟩, fun b hb => ?_, fun b hb => ?_, fun b hb => ?_, fun b hb => ?_, k.len.trans h.len, fun i hi => (k.out i fun hh => hi ((hst i).1 hh)).trans (h.out i hi), ?_⟩
 ·refine (k.k.block b ⟨fun hm => ?_, fun hm => ?_⟩ (Nat.lt_of_lt_of_le hlt hsz)).trans (h.k.block b hb hlt)
  ·rcases h.f1 b hm with h1 | h1
   ·exact hb.1 h1
   ·omega
  ·rcases h.f3 b hm with h1 | h1
   ·exact hb.2 h1
   ·omega
 ·rcases k.f1 b hb with h1 | h1
  ·exact h.f1 b h1
  ·exact .inr (Nat.le_trans hsz h1)
 ·rcases k.f2 b hb with h1 | h1
  ·exact all1 b h1
  ·exact .inr (Nat.le_trans hsz h1)
 ·rcases k.f3 b hb with h1 | h1
  ·exact h.f3 b h1
  ·exact .inr (Nat.le_trans hsz h1)
 ·rcases k.f4 b hb with h1 | h1
  ·exact all2 b h1
  ·exact .inr (Nat.le_trans hsz h1)
 ·have := h.calls; have := k.calls; omega
end
structure Jb (S : Slog2) (W w : World) (p q : Nat) (F Fs : Foot) (s : SDev) (st : JSt) : Prop where
 d : DAt w p F s
 r : jrep S w p q Fs st s
 ap : Apart F Fs
 kp : Kp W w
 gf : ∀ b, F.all b → W.heap.size ≤ b
 gs : ∀ b, Fs.all b → W.heap.size ≤ b
 room : st.place + 8 * st.segs ≤ s.now.length
section
variable {S : Slog2} {W w w' : World} {p q : Nat} {F F' Fs Fs' : Foot} {st st' : JSt} {s s' : SDev} {n : Nat}
theorem Jb.keep (h : Jb S W w p q F Fs s st) (hk : Kp w w') : Jb S W w' p q F Fs s st :=
 ⟨h.d.keep (hk.mono fun _ _ _ => trivial), jrep_keep h.r (hk.mono fun _ _ _ => trivial), h.ap, h.kp.trans hk, h.gf, h.gs, h.room⟩
theorem Jb.moved (h : Jb S W w p q F Fs s st) (hd : DAt w' p F' s') (hr : jrep S w' p q Fs' st' s') (hpl : st'.place = st.place) (hsg : st'.segs = st.segs) (hgo : JGo w w' F F' Fs Fs' s s' st n) : Jb S W w' p q F' Fs' s' st' := by
 have hsz := h.kp.size
 refine ⟨hd, hr, hgo.ap, ?_, fun b hb => ?_, fun b hb => ?_, by rw [hpl, hsg, hgo.len]; exact h.room⟩
 ·exact ⟨hgo.k.os.trans h.kp.os, hgo.k.tape.trans h.kp.tape, hgo.k.output.trans h.kp.output, Nat.le_trans hsz hgo.k.size, fun b _ hb =>
   (hgo.k.block b ⟨fun hm => by have := h.gf b (.inl hm); omega, fun hm => by have := h.gs b (.inl hm); omega⟩ (by omega)).trans (h.kp.block b trivial hb)⟩
 ·rcases hb with hb | hb
  ·rcases hgo.f1 b hb with h1 | h1
   ·exact h.gf b (.inl h1)
   ·omega
  ·rcases hgo.f2 b hb with h1 | h1
   ·exact h.gf b h1
   ·omega
 ·rcases hb with hb | hb
  ·rcases hgo.f3 b hb with h1 | h1
   ·exact h.gs b (.inl h1)
   ·omega
  ·rcases hgo.f4 b hb with h1 | h1
   ·exact h.gs b h1
   ·omega
theorem JGo.still (h : Jb S W w p q F Fs s st) (hk : Kp w w') : JGo w w' F F Fs Fs s s st 0 :=
 ⟨h.ap, hk.mono fun _ _ _ => trivial, fun _ hb => .inl hb, fun _ hb => .inl (.inr hb), fun _ hb => .inl hb, fun _ hb => .inl (.inr hb), rfl, fun _ _ => rfl, Nat.le_add_right _ _⟩
end
end Go.Proofs.YticophaepapjoaaGreatDoor
namespace Go.Proofs
open Go.Shelf
def Tryz.deleteJ_ren : Go.Shelf.Ren := ⟨fun | 45 => 89 | n => n, fun | 22 => 106 | 23 => 2 | 3 => 3 | 4 => 4 | 0 => 0 | n => n, fun | n => n⟩
theorem Tryz.deleteJ : Go.Proofs.SlLaysN.n45 Tryz.prog Tryz.deleteJ_ren := {
 mixed := by kernel_rfl
 f45 := ⟨Tryz.f89.name, by decide, Tryz.func89.trans (congrArg some (by kernel_rfl))⟩
 t0 := Tryz.underlying0
 a0 := Tryz.isAgg0
 z0 := Tryz.sizeOf0
 v0 := Tryz.zeroValue0
 t3 := Tryz.underlying3
 a3 := Tryz.isAgg3
 z3 := Tryz.sizeOf3
 v3 := Tryz.zeroValue3
 t4 := Tryz.underlying4
 a4 := Tryz.isAgg4
 z4 := Tryz.sizeOf4
 v4 := Tryz.zeroValue4
 t22 := Tryz.underlying106
 a22 := Tryz.isAgg106
 z22 := Tryz.sizeOf106
 v22 := Tryz.zeroValue106
 t23 := Tryz.underlying2
 a23 := Tryz.isAgg2
 z23 := Tryz.sizeOf2
 v23 := Tryz.zeroValue2
 i23 := by kernel_rfl }
def Tryz.searchJ_ren : Go.Shelf.Ren := ⟨fun | 49 => 88 | 59 => 121 | 60 => 122 | 68 => 153 | n => n, fun | 22 => 106 | 23 => 2 | 3 => 3 | 4 => 4 | 51 => 195 | 0 => 0 | n => n, fun | n => n⟩
theorem Tryz.searchJ : Go.Proofs.SlLaysN.n49 Tryz.prog Tryz.searchJ_ren := {
 mixed := by kernel_rfl
 f49 := ⟨Tryz.f88.name, by decide, Tryz.func88.trans (congrArg some (by kernel_rfl))⟩
 f59 := ⟨Tryz.f121.name, by decide, Tryz.func121.trans (congrArg some (by kernel_rfl))⟩
 f60 := ⟨Tryz.f122.name, by decide, Tryz.func122.trans (congrArg some (by kernel_rfl))⟩
 f68 := ⟨Tryz.f153.name, by decide, Tryz.func153.trans (congrArg some (by kernel_rfl))⟩
 t0 := Tryz.underlying0
 a0 := Tryz.isAgg0
 z0 := Tryz.sizeOf0
 v0 := Tryz.zeroValue0
 t3 := Tryz.underlying3
 a3 := Tryz.isAgg3
 z3 := Tryz.sizeOf3
 v3 := Tryz.zeroValue3
 t4 := Tryz.underlying4
 a4 := Tryz.isAgg4
 z4 := Tryz.sizeOf4
 v4 := Tryz.zeroValue4
 t22 := Tryz.underlying106
 a22 := Tryz.isAgg106
 z22 := Tryz.sizeOf106
 v22 := Tryz.zeroValue106
 t23 := Tryz.underlying2
 a23 := Tryz.isAgg2
 z23 := Tryz.sizeOf2
 v23 := Tryz.zeroValue2
 t51 := Tryz.underlying195
 a51 := Tryz.isAgg195
 z51 := Tryz.sizeOf195
 v51 := Tryz.zeroValue195 }
end Go.Proofs
namespace Go.Proofs.YticophaepapjoaaGreatDoor
open Go Go.RowKit Go.Joins Go.Sort
theorem row_putI {w : World} {base n c g k m : Nat} {e : TypeId} {xs : List Value} (F : Array Int) (h : w.ownsRow base e 1 (.slice (some ⟨g, 0, none⟩) n c) n xs) (hF : F.size = xs.length) (hmn : m ≤ n) :
  (putRow (Value.int .i64) (Go.Sort.ahead w k) g 0 F).ownsRow base e 1 (.slice (some ⟨g, 0, none⟩) m c) m ((F.toList.take m).map (Value.int .i64)) ∧ w.grownBy (putRow (Value.int .i64) (Go.Sort.ahead w k) g 0 F) (some g) := by
 refine ⟨?_, ⟨rfl, rfl, rfl, by simp [putRow, mapBlock, Go.Sort.ahead], fun j hj hne => by
  have : g ≠ j := fun e => hne (by rw [e])
  simp [putRow, mapBlock, Go.Sort.ahead, Array.getElem?_modify, this]⟩⟩
 rcases h.2 with ⟨e0, _⟩ | ⟨g', cap', cur, e0, hb, hg, hn, hm, hs, ht⟩
 ·cases e0
 ·injection e0 with e1 _ e3
  injection e1 with e1
  injection e1 with e1
  subst e1; subst e3
  have hxs : xs.length = n * 1 := h.1
  have hle : n * 1 ≤ cur.size := by rw [hs]; exact Nat.mul_le_mul_right _ hn
  refine ⟨by rw [List.length_map, List.length_take, Array.length_toList, hF, hxs]; omega, .inr ⟨g, c, putCells (Value.int .i64) 0 F cur, rfl, hb, ?_, Nat.le_trans hmn hn, hm, by simpa [putCells] using hs, ?_⟩⟩
  ·simp [putRow, mapBlock, Go.Sort.ahead, Array.getElem?_modify, hg, onCells]
  ·apply List.ext_getElem?
   intro j
   rw [List.getElem?_take, Array.getElem?_toList, List.getElem?_map, List.getElem?_take, Array.getElem?_toList]
   by_cases hj : j < m
   ·have hjc : j < cur.size := by omega
    have hjF : j < F.size := by omega
    rw [if_pos (by omega), if_pos hj]
    simp only [putCells, Array.getElem?_mapIdx, Array.getElem?_eq_getElem hjc, Option.map_some]
    rw [if_pos (by omega), Nat.sub_zero, Array.getElem?_eq_getElem hjF, getElem!_pos F j hjF]
    rfl
   ·rw [if_neg (by omega), if_neg hj]; rfl
def posZ (l : List Nat) : List Int := l.map fun x => ((x : Nat) : Int)
theorem posZ_len (l : List Nat) : (posZ l).length = l.length := by simp [posZ]
theorem posC_is (l : List Nat) : posC l = (posZ l).map (Value.int .i64) := by simp [posC, posZ]
theorem posZ_getD (l : List Nat) (j : Nat) (hj : j < l.length) : (posC l)[j]? = some (.int .i64 ((posZ l).getD j 0)) := by
 simp [posC, posZ, hj]
theorem jsearch_any (w : World) (g c n x k : Nat) (a b : List Nat) (hn : n = (a ++ b).length) (h : w.ownsRow 0 2 1 (.slice (some ⟨g, 0, none⟩) n c) n (posC (a ++ b))) (hs : (a ++ b).Pairwise (· < ·)) (hl : n ≤ 1000000) (ha : ∀ y ∈ a, y < x) (hb : ∀ y ∈ b, x ≤ y) (hk : k = a.length) :
  Calls Tryz.prog 88 #[.slice (some ⟨g, 0, none⟩) n c, .int .i64 (x : Int)] w fun e w' => (∃ t, e = .returned (.tuple #[.int .i64 (k : Int), .bool t])) ∧ ∃ z, w' = w.drewN z := by
 subst hk
 have hzl := posZ_len (a ++ b)
 have hc := AnyG.slices_BinarySearch_int Tryz.searchJ g 0 n c (posZ (a ++ b)) (x : Int) w (by omega) (by omega) (fun j hj => by
  have := h.cells (g := g) rfl j _ (posZ_getD _ _ (by omega))
  rwa [WideShapes.add_plain] at this) (by
  rw [List.take_of_length_le (by omega)]
  unfold posZ
  rw [List.pairwise_map]
  exact hs.imp fun h => by omega)
 have e1 : ((posZ (a ++ b)).take n).countP (· < (x : Int)) = a.length := by
  rw [List.take_of_length_le (by omega)]
  unfold posZ
  rw [List.map_append, List.countP_append, List.countP_map, List.countP_map]
  have h1 : a.countP ((fun y : Int => decide (y < (x : Int))) ∘ fun y : Nat => (y : Int)) = a.length := List.countP_eq_length.2 fun y hy => by
   have := ha y hy
   simp; omega
  have h2 : b.countP ((fun y : Int => decide (y < (x : Int))) ∘ fun y : Nat => (y : Int)) = 0 := List.countP_eq_zero.2 fun y hy => by
   have := hb y hy
   simp; omega
  rw [h1, h2, Nat.add_zero]
 rw [e1] at hc
 refine (show Calls Tryz.prog 88 _ w _ from hc).mono ?_
 rintro e w' ⟨rfl, z, rfl⟩
 exact ⟨⟨_, rfl⟩, z, rfl⟩
theorem jdelete_any (w : World) (g c n k m : Nat) (a b : List Nat) (hn : n = (a ++ b).length) (h : w.ownsRow 0 2 1 (.slice (some ⟨g, 0, none⟩) n c) n (posC (a ++ b))) (hk : k = a.length) (hm : m = b.length) :
  Calls Tryz.prog 89 #[.slice (some ⟨g, 0, none⟩) n c, .int .i64 0, .int .i64 (k : Int)] w fun e w' => e = .returned (.slice (some ⟨g, 0, none⟩) m c) ∧ w'.ownsRow 0 2 1 (.slice (some ⟨g, 0, none⟩) m c) m (posC b) ∧ w.grownBy w' (some g) := by
 subst hk
 have hzl := posZ_len (a ++ b)
 have hab : (a ++ b).length = a.length + b.length := List.length_append
 have hcap := own_room h
 have hH : Holds (Value.int .i64) w g 0 (posZ (a ++ b)).toArray := by
  intro j hj
  have hj2 : j < (a ++ b).length := by simpa [posZ] using hj
  have hc := h.cells (g := g) rfl j _ (posZ_getD _ _ hj2)
  rw [WideShapes.add_plain] at hc
  refine ⟨?_, h.frozenAt (0 + j)⟩
  rw [hc, getElem!_pos _ j hj]
  simp [List.getD_eq_getElem?_getD, show j < (posZ (a ++ b)).length by omega]
 have hr := AnyG.slices_Delete_int Tryz.deleteJ g 0 c 0 a.length (posZ (a ++ b)) w hH (by omega) (by have := hcap.2; unfold maxLen at this; omega) (Nat.zero_le _) (by omega)
 have e0 : (posZ (a ++ b)).drop a.length = posZ b := by unfold posZ; rw [← List.map_drop, List.drop_left]
 rw [List.take_zero, List.nil_append, e0, Nat.sub_zero, hzl, ← hn, show n - a.length = m by omega] at hr
 refine (show Calls Tryz.prog 89 _ w _ from hr).mono ?_
 rintro e w' ⟨rfl, z, rfl⟩
 have h2 := row_putI (k := z) (m := m) (posZ b ++ List.replicate a.length (0 : Int)).toArray h (by simp [posZ, posC]; omega) (by omega)
 rw [List.take_left' (by rw [posZ_len, hm]), ← posC_is] at h2
 exact ⟨rfl, h2.1, h2.2⟩
end Go.Proofs.YticophaepapjoaaGreatDoor
namespace Go.Proofs.YticophaepapjoaaGreatDoor
open Go Go.RowKit Go.Joins
section
variable {o : Oper} {a : Act} {w : World} {Q : Exit → Act → World → Prop} {x y z : Operand}
def Vl (l : List Value) : Nat → World → Value → Prop := fun i => IsV (l.getD i undef)
theorem kp_fM0 {b f : Nat} (ho : o.op = .fieldAddr 72 x 0) (hx : a.eval x = .pointer (some ⟨b, f, none⟩)) : o.wp Tryz.prog a w (fun a' w' => ∃ v, a' = a.put o.dst v ∧ Kp w w' ∧ IsV (.pointer (some ⟨b, f, none⟩)) w' v) Q := by
 refine kp_yield (v := .pointer (some ⟨b, f, none⟩)) (w' := w) ?_ (Keeps.refl _ _) rfl
 generalize a.eval = ρ at hx ⊢
 unfold execOp
 go_simp
theorem kp_fM1 {b f : Nat} (ho : o.op = .fieldAddr 72 x 1) (hx : a.eval x = .pointer (some ⟨b, f, none⟩)) : o.wp Tryz.prog a w (fun a' w' => ∃ v, a' = a.put o.dst v ∧ Kp w w' ∧ IsV (.pointer (some ⟨b, f + 1, none⟩)) w' v) Q := by
 refine kp_yield (v := .pointer (some ⟨b, f + 1, none⟩)) (w' := w) ?_ (Keeps.refl _ _) rfl
 generalize a.eval = ρ at hx ⊢
 unfold execOp
 go_simp
theorem kp_ldI {p : Addr} {n : Int} (hc : w.cell? p = some (.int .i64 n)) (ho : o.op = .load 2 x) (hx : a.eval x = .pointer (some p)) : o.wp Tryz.prog a w (fun a' w' => ∃ v, a' = a.put o.dst v ∧ Kp w w' ∧ IsV (.int .i64 n) w' v) Q := by
 refine kp_yield (v := .int .i64 n) (w' := w) ?_ (Keeps.refl _ _) rfl
 generalize a.eval = ρ at hx ⊢
 unfold execOp
 rw [ho]
 go_simp
theorem kp_ldT {p : Addr} {s : ByteArray} (hc : w.cell? p = some (.string s)) (ho : o.op = .load 9 x) (hx : a.eval x = .pointer (some p)) : o.wp Tryz.prog a w (fun a' w' => ∃ v, a' = a.put o.dst v ∧ Kp w w' ∧ IsV (.string s) w' v) Q := by
 refine kp_yield (v := .string s) (w' := w) ?_ (Keeps.refl _ _) rfl
 generalize a.eval = ρ at hx ⊢
 unfold execOp
 rw [ho]
 go_simp
end
end Go.Proofs.YticophaepapjoaaGreatDoor
