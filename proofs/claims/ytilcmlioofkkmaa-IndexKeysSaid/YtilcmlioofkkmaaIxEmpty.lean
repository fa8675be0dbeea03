/-
  THE PROGRAM's INDEX: empty.
-/
import Derived.Test.YtilcmlioofkkmaaIxAdd
namespace Go.Proofs.Ytilcmlioofkkmaa
open Go Go.RowKit Go.Joins

section
variable {w : World} {g n i : Nat} {T : Tab} {K : ByteArray} {Z P : Int} {b : Bool}
theorem TabAt.four (h : TabAt w g n T) (hi : i < n) (hs : T i = ⟨K, Z, P, b⟩) : w.cell? ⟨g, i * 4, none⟩ = some (.string K) ∧ w.cell? ⟨g, i * 4 + 1, none⟩ = some (.int .u64 Z) ∧ w.cell? ⟨g, i * 4 + 2, none⟩ = some (.int .i64 P) ∧ w.cell? ⟨g, i * 4 + 3, none⟩ = some (.bool b) := by
  have h0 := h.c0 hi
  have h1 := h.c1 hi
  have h2 := h.c2 hi
  have h3 := h.c3 hi
  rw [hs] at h0 h1 h2 h3
  exact ⟨h0, h1, h2, h3⟩
theorem sl_full (s : Sl) (h : s.full = true) : ∃ K Z P, s = ⟨K, Z, P, true⟩ := by
  cases s with
  | mk K Z P b => exact ⟨K, Z, P, by rw [show b = true from h]⟩
end

set_option maxRecDepth 100000 in
set_option maxHeartbeats 1000000 in
theorem empty_any (w : World) (q g n c : Nat) (T : Tab) (st : IxSt) (hI : IxAt w q g n (c + 1) T) (hT : TabOk hashN T n st) (hn : n ≤ 1099511627776) (hc : c ≤ 1099511627776) (i : Nat) (hi : i < n) (hf : (T i).full = true) :
    Calls Try.prog 26 #[.pointer (some ⟨q, 0, none⟩), .int .i64 (i : Int)] w fun e w' => e = .returned (.tuple #[]) ∧ ∃ T', IxAt w' q g n c T' ∧ TabOk hashN T' n (ixDrop st (T i).key) ∧ Keeps (Off q g) w w' := by
  obtain ⟨f, hf1, hf2⟩ := hT.free
  have h0 := hT.pos
  have HH := Lib.hid (Hole.start hT hi hf)
  have HI := Lib.hid hI
  have hB := Lib.hid (behind_any w q g n _ T hI i hi hn)
  have hj2 : nx n i 1 < n := nx_lt hi (by omega)
  have HK := Lib.hid (Keeps.refl (Off q g) w)
  generalize ixDrop st (T i).key = st' at HH ⊢
  generalize nx n i 1 = k0 at HH hB hj2
  clear hI hT hf
  have ec : ((c + 1 : Nat) : Int) = (c : Int) + 1 := by omega
  go_enter Try.func26, Try.ntmps26
  go_wp2_with fail
  refine (show Calls _ _ _ _ _ from hB.out).mono ?_
  rintro e w1 ⟨rfl, hw1⟩
  have hw1 := hw1.symm
  subst hw1
  clear hB
  go_wp2_with fail
  go_loopw [1, 4] (fun a b wr => ∃ (i k : Nat) (T : Tab), i < n ∧ k < n ∧ a = .int .i64 (i : Int) ∧ b = .int .i64 (k : Int) ∧ (T f).full = false ∧ Hid (IxAt wr q g n (c + 1) T) ∧ Hid (Hole hashN T n i k st') ∧ Hid (Keeps (Off q g) w wr)) (fun _ b _ => way n (intOf b).toNat f)
  case atStart => exact ⟨i, k0, T, hi, hj2, rfl, rfl, hf2, HI, HH, HK⟩
  case round =>
    clear HI HH HK hi hf2
    obtain ⟨i, k, T, hi, hk, rfl, rfl, hf2, HI, HH, HK⟩ := hrel
    have c0 := HI.out.blk.c0
    cases hful : (T k).full with
    | false =>
      have t3 := HI.out.tab.c3 hk
      rw [hful] at t3
      have HD := Lib.hid (HH.out.done hful)
      have s0 := HI.out.tab.c0 hi
      have s1 := HI.out.tab.c1 hi
      have s2 := HI.out.tab.c2 hi
      have s3 := HI.out.tab.c3 hi
      have c1 := HI.out.blk.c1
      have ff := fun i => HI.out.blk.f0 i
      have tf := HI.out.tab.ice
      rw [ec] at c1
      have hne := HI.out.ne
      clear hful hf2
      go_wp2_with fail
      have hfin : IxAt ((put4 wr g i Sl.zero).setCell ⟨q, 1, none⟩ (.int .i64 (c : Int))) q g n c (setT T i Sl.zero) := (HI.out.put4 hi _).count c
      have hkp : Keeps (Off q g) w ((put4 wr g i Sl.zero).setCell ⟨q, 1, none⟩ (.int .i64 (c : Int))) := ((put4_keeps wr g i _ HK.out (.inr fun e => e.2 rfl))).setCell (p := ⟨q, 1, none⟩) (.inr fun e => e.1 rfl) _
      go_end0
      exact ⟨rfl, _, hfin, HD.out, hkp⟩
    | true =>
      obtain ⟨K, Z, P, hs⟩ := sl_full _ hful
      obtain ⟨t0, t1, t2, t3⟩ := HI.out.tab.four hk hs
      have hz := HH.out.hash k hk hful
      rw [hs] at hz
      have hz : Z = (hashN K : Int) := hz
      subst hz
      have hHm := Lib.hid (home_any wr q g n _ T HI.out h0 hn (hashN K) (hashN_lt K))
      have hm := Nat.mod_lt (hashN K) h0
      have hST := fun h => Lib.hid (HH.out.stay hf1 hf2 hful h)
      have hMV := fun h => Lib.hid (HH.out.move hf1 hf2 hful h)
      rw [hs] at hST hMV
      have hb := Lib.hid (behind_any wr q g n _ T HI.out k hk hn)
      have hj2 : nx n k 1 < n := nx_lt hk (by omega)
      have hkf : k ≠ f := fun e => by rw [e, hf2] at hful; cases hful
      have HW := Lib.hid (show way n (nx n k 1) f < way n k f from by
        have := way_c n k f
        have := nx_c n k 1
        have := way_c n (nx n k 1) f
        omega)
      have hW1 := way_any wr q g n _ T HI.out (hashN K % n) k hm hk hn
      have hff2 : (setT T i ⟨K, (hashN K : Int), P, true⟩ f).full = false := by
        have : f ≠ i := fun e => by have := HH.out.stale; rw [← e, hf2] at this; cases this
        rw [setT_ne _ _ this]; exact hf2
      have HIK := Lib.hid (fun w' (h : Kp wr w') => HI.out.keep h trivial trivial)
      have HKK := Lib.hid (fun w' (h : Kp wr w') => HK.out.trans (h.mono fun _ _ _ => trivial))
      have HS := Lib.hid hs
      clear hful hs HH HK
      generalize hashN K % n = m at hHm hm hST hMV hW1
      have HW1 := Lib.hid hW1
      clear hW1
      go_wp2_with fail
      refine (show Calls _ _ _ _ _ from hHm.out).mono ?_
      rintro e w1 ⟨rfl, hw1⟩
      have hw1 := hw1.symm
      subst hw1
      clear hHm
      go_wp2_with fail
      refine (show Calls _ _ _ _ _ from HW1.out).mono ?_
      rintro e w2 ⟨rfl, hk2⟩
      have HI2 := Lib.hid (HIK.out w2 hk2)
      have HW2 := Lib.hid (way_any w2 q g n _ T HI2.out i k hi hk hn)
      have HK2 := Lib.hid hk2
      clear hk2 HW1 HI
      go_wp2_with fail
      refine (show Calls _ _ _ _ _ from HW2.out).mono ?_
      rintro e w3 ⟨rfl, hk3⟩
      have HI3 := Lib.hid (HIK.out w3 (HK2.out.trans hk3))
      have HK3 := Lib.hid (HKK.out w3 (HK2.out.trans hk3))
      have HB3 := Lib.hid (behind_any w3 q g n _ T HI3.out k hk hn)
      clear hk3 HK2 HI2 HW2 HIK HKK hb
      generalize hk2 : nx n k 1 = k2 at *
      have HKE := Lib.hid hk2
      clear hk2
      by_cases hyes : way n i k ≤ way n m k
      · have HM := Lib.hid (hMV hyes).out
        clear hST hMV
        have hd : decide ((way n i k : Int) ≤ (way n m k : Int)) = true := by rw [decide_eq_true_eq]; omega
        obtain ⟨s0, s1, s2, s3⟩ := (show _ ∧ _ ∧ _ ∧ _ from ⟨HI3.out.tab.c0 hi, HI3.out.tab.c1 hi, HI3.out.tab.c2 hi, HI3.out.tab.c3 hi⟩)
        obtain ⟨t0, t1, t2, t3⟩ := HI3.out.tab.four hk HS.out
        have cc0 := HI3.out.blk.c0
        have tf := HI3.out.tab.ice
        go_wp2_with fail
        go_region
        go_wp2_with fail
        have hfin : IxAt ((put4 w3 g i ⟨K, (hashN K : Int), P, true⟩).drew) q g n (c + 1) (setT T i ⟨K, (hashN K : Int), P, true⟩) := (HI3.out.put4 hi _).drew
        have hkp : Keeps (Off q g) w ((put4 w3 g i ⟨K, (hashN K : Int), P, true⟩).drew) := (put4_keeps w3 g i _ HK3.out (.inr fun e => e.2 rfl)).drew
        have hb4 := behind_any _ q g n _ _ hfin k hk hn
        rw [HKE.out] at hb4
        refine (show Calls _ _ _ _ _ from hb4).mono ?_
        clear hb4
        rintro e w4 ⟨rfl, hw4⟩
        have hw4 := hw4.symm
        subst hw4
        go_wp2_with fail
        go_roundw
        case rel => exact ⟨k, k2, _, hk, hj2, rfl, rfl, hff2, Lib.hid hfin, Lib.hid HM.out, Lib.hid hkp⟩
        case measure => simp only [intOf, Int.toNat_natCast]; exact HW.out
      · have HM := Lib.hid (hST (by omega)).out
        clear hST hMV
        have hd : decide ((way n i k : Int) ≤ (way n m k : Int)) = false := by rw [decide_eq_false_iff_not]; omega
        go_wp2_with fail
        refine (show Calls _ _ _ _ _ from HB3.out).mono ?_
        rintro e w4 ⟨rfl, hw4⟩
        have hw4 := hw4.symm
        subst hw4
        go_wp2_with fail
        go_roundw
        case rel => exact ⟨i, k2, T, hi, hj2, rfl, rfl, hf2, HI3, HM, HK3⟩
        case measure => simp only [intOf, Int.toNat_natCast]; exact HW.out

end Go.Proofs.Ytilcmlioofkkmaa
