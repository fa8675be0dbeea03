/-
  THE WALK OF ClockParts, however the program's clocks count.
-/
import Derived.Test.YtpiknekopmoepaaCkBegun
import Derived.Deep.CutRange
namespace Go.Proofs.Ytpiknekopmoepaa.clockParts
open Go Go.RowKit Go.Joins

set_option maxRecDepth 100000 in
set_option maxHeartbeats 4000000 in
theorem walk (S : ClockOK) (w : World) (A : Option Addr) (c : Nat) (l : List Int) (h1 : l.length ≤ c) (h2 : c ≤ maxLen) (hr : Row w A (fun b => b < w.heap.size) (l.map (Value.int .i64))) :
    Calls Try.prog 5 #[.slice A l.length c] w fun e w' => e = .returned (.bool true) ∧ Below w.heap.size w w' := by
  have HR := Lib.hid hr
  have HC := Lib.hid (And.intro h1 h2)
  obtain ⟨N, hN⟩ : ∃ N, l.length = N := ⟨_, rfl⟩
  have HN := Lib.hid hN
  have hNm : N ≤ 9223372036854775807 := by unfold maxLen at h2; omega
  rw [hN]
  clear h1 h2 hr hN
  go_enter Try.func5, Try.ntmps5
  go_wp2_with fail
  refine (begun16 S w).mono ?_
  rintro e w1 ⟨rfl, hk⟩
  have HK1 := Lib.hid hk
  clear hk
  have hcs : ((N : Int) == 0) = true ∨ ((N : Int) == 0) = false ∧ (decide ((20 : Int) < (N : Int)) = true ∨ decide ((20 : Int) < (N : Int)) = false) := by
    cases ((N : Int) == 0) <;> cases decide ((20 : Int) < (N : Int)) <;> simp
  rcases hcs with t0 | ⟨t0, t1 | t1⟩
  · go_wp2_with fail
    go_ret
    exact ⟨rfl, HK1.out.below⟩
  · go_wp2_with fail
    go_ret
    exact ⟨rfl, HK1.out.below⟩
  · have hN20 : N ≤ 20 := by simp at t1; omega
    have hne : l ≠ [] := by
      intro e
      have := HN.out
      rw [e] at this
      simp at this
      subst this
      simp at t0
    have hza := S.zero w w1 HK1.out
    have hzb := S.zero w (w1.alloc zClock) (HK1.out.alloc _)
    have hza2 := S.atK hza ((Keeps.refl (fun _ => True) (w1.alloc zClock)).alloc zClock)
    have hkz : Kp w ((w1.alloc zClock).alloc zClock) := (HK1.out.alloc _).alloc _
    have hsz : (w1.alloc zClock).heap.size = w1.heap.size + 1 := by simp
    rw [hsz] at hzb
    unfold zClock at hza2 hzb hkz
    clear hza hsz
    go_upto_region 7 with fail
    obtain ⟨q, hq⟩ : ∃ q, w1.heap.size = q := ⟨_, rfl⟩
    rw [hq] at hza2 hzb ⊢
    generalize World.alloc (World.alloc _ _) _ = w2 at hza2 hzb hkz ⊢
    clear hq
    have HT1 := Lib.hid (S.tick w w2 q _ 0 A c l hza2 (((HR.out.keep (hkz.mono fun _ _ _ => trivial)).mono fun b _ (hb : b < w.heap.size) hF => by have := ((S.atIn hza2).2.1 b hF).1; omega)) HC.out.1 HC.out.2)
    rw [HN.out] at HT1
    have HB2 := Lib.hid hzb
    have HA2 := Lib.hid hza2
    have hx : ticks 0 l = l.foldl tickZ 0 := by unfold ticks; rw [if_neg hne]
    rw [hx] at HT1
    clear hzb hza2 hkz hx hne
    go_wp2_with fail
    refine (show Calls _ _ _ _ _ from HT1.out).mono ?_
    rintro e w3 ⟨rfl, F1, ha3, hF3, hk3⟩
    have HA3 := Lib.hid ha3
    have HB3 := Lib.hid (show S.At w w3 (q + 1) (fun b => b = q + 1) 0 from S.atKeep HB2.out (hk3.mono fun b _ (hb : b = q + 1) hh => by subst hb; exact absurd (show q + 1 = q from hh) (by omega)) (S.past HA2.out hk3))
    have HD3 := Lib.hid (show ∀ b, F1 b → ¬ b = q + 1 from fun b hb hh => by
      subst hh
      rcases hF3 _ hb with h | h
      · exact absurd (show q + 1 = q from h) (by omega)
      · have := ((S.atIn HB2.out).2.1 (q + 1) rfl).2; omega)
    clear ha3 hF3 hk3 HT1 HA2 HB2
    go_wp2_with fail
    go_loopw [7] (fun i wr => ∃ (k : Nat) (F1 F2 : Nat → Prop), k ≤ N ∧ i = .int .i64 (k : Int) ∧ Hid (S.At w wr q F1 (l.foldl tickZ 0)) ∧ Hid (S.At w wr (q + 1) F2 ((l.take k).foldl tickZ 0)) ∧ Hid (∀ b, F1 b → ¬ F2 b)) (fun i _ => N - (intOf i).toNat)
    case atStart => exact ⟨0, F1, _, Nat.zero_le _, rfl, HA3, HB3, HD3⟩
    case round =>
      clear HA3 HB3 HD3
      obtain ⟨k, F1, F2, hk, rfl, HA, HB, HD⟩ := hrel
      by_cases hkN : k < N
      · have hkI : (k : Int) < (N : Int) := by omega
        have hkl : k < l.length := by rw [HN.out]; exact hkN
        obtain ⟨b, o, rfl, -, c0⟩ := (HR.out.keep ((S.atIn HB.out).1.mono fun _ _ _ => trivial)).at_ (k := k) (by rw [List.length_map]; exact hkl)
        rw [List.getElem_map] at c0
        have HNX := Lib.hid (fold_next l 0 k hkl)
        generalize l[k] = x at c0 HNX
        have HT := Lib.hid (tick_new S HB.out [x] #[.int .i64 x] rfl (Nat.le_add_left _ _))
        rw [ticks_one, ← HNX.out] at HT
        clear hkl
        go_wp2_with fail
        refine (show Calls _ _ _ _ _ from HT.out).mono ?_
        rintro e w5 ⟨rfl, F3, hb5, hk5, hF5, hk6⟩
        have HB5 := Lib.hid hb5
        have HA5 := Lib.hid (S.atKeep HA.out (hk6.mono fun b _ hb => HD.out b hb) hk5)
        have HD5 := Lib.hid (show ∀ b, F1 b → ¬ F3 b from fun b hb hh => by
          rcases hF5 b hh with h | h
          · exact HD.out b hb h
          · have := ((S.atIn HA.out).2.1 b hb).2; omega)
        clear hb5 hk5 hF5 hk6 HT HA HB HD HNX
        go_wp2_with fail
        go_roundw
        case rel => exact ⟨k + 1, F1, F3, by omega, by go_num, HA5, HB5, HD5⟩
        case measure => simp [intOf]; omega
      · obtain rfl : k = N := by omega
        rw [← HN.out, List.take_length] at HB
        obtain ⟨n, hn⟩ : ∃ n, l.foldl tickZ 0 = n := ⟨_, rfl⟩
        rw [hn] at HA HB ⊢
        have hn0 := (S.atIn HA.out).2.2.1
        have hs : sinceZ n 0 = n := by unfold sinceZ; rw [if_pos ⟨Int.le_refl _, hn0⟩]; omega
        have HS := Lib.hid hs
        have v1 : (n == n) = true := by simp
        clear hkN hn hs hn0 HD
        have HA1 := Lib.hid (show ∀ w', Kp wr w' → S.At w w' q F1 n from fun w' hk => S.atK HA.out hk)
        go_wp2_with fail
        refine (S.now w wr q F1 n HA.out).mono ?_
        rintro e w5 ⟨rfl, hk⟩
        have HK5 := Lib.hid hk
        clear hk
        go_wp2_with fail
        refine (S.now w w5 q F1 n (HA1.out w5 HK5.out)).mono ?_
        rintro e w6 ⟨rfl, hk⟩
        have HK6 := Lib.hid (HK5.out.trans hk)
        clear hk
        go_wp2_with fail
        refine (S.now w w6 (q + 1) F2 n (S.atK HB.out HK6.out)).mono ?_
        rintro e w7 ⟨rfl, hk⟩
        have HK7 := Lib.hid (HK6.out.trans hk)
        clear hk
        go_wp2_with fail
        refine (S.since w w7 q F1 n 0 (HA1.out w7 HK7.out)).mono ?_
        rw [HS.out]
        rintro e w8 ⟨rfl, hk⟩
        have HK8 := Lib.hid (HK7.out.trans hk)
        clear hk
        go_wp2_with fail
        refine (S.now w w8 q F1 n (HA1.out w8 HK8.out)).mono ?_
        rintro e w9 ⟨rfl, hk⟩
        have HK9 := Lib.hid ((S.atIn HA.out).1.trans (HK8.out.trans hk))
        clear hk
        go_wp2_with fail
        go_ret
        exact ⟨rfl, HK9.out.below⟩

end Go.Proofs.Ytpiknekopmoepaa.clockParts
