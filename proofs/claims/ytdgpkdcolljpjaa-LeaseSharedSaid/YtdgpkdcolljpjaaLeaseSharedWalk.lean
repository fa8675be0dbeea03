/-
  THE WALK OF LeaseShared, however the program's leases are kept.
-/
import Derived.Test.YtdgpkdcolljpjaaLsBegun
namespace Go.Proofs.Ytdgpkdcolljpjaa.leaseShared
open Go Go.RowKit Go.Joins

/-- Two leases on one clock. -/
structure Two {S : ClockOK} (L : LeaseOK S) (W w : World) (l m c : Nat) (n : Int) (s t : LsS) (F G Fc : Nat → Prop) : Prop where
  fst : Lz L W w l c n s F Fc
  snd : Lz L W w m c n t G Fc
  dj : ∀ b, F b → ¬ G b
section
variable {S : ClockOK} {L : LeaseOK S} {W w w' : World} {l m c : Nat} {n : Int} {s t : LsS} {F G Fc : Nat → Prop}
theorem Two.keep (h : Two L W w l m c n s t F G Fc) (hk : Kp w w') : Two L W w' l m c n s t F G Fc := ⟨h.fst.keep hk, h.snd.keep hk, h.dj⟩
theorem Two.swap (h : Two L W w l m c n s t F G Fc) : Two L W w m l c n t s G F Fc := ⟨h.snd, h.fst, fun b hb hh => h.dj b hh hb⟩
theorem two_take (h : Two L W w l m c n s t F G Fc) (sent ep : Int) : Calls Try.prog 13 #[.pointer (some ⟨l, 0, none⟩), .int .i64 sent, .int .i64 ep] w fun e w' => e = .returned (.bool (takeB n s sent ep)) ∧ ∃ F', Two L W w' l m c n (takeS n s sent ep) t F' G Fc :=
  (lz_take h.fst sent ep).mono fun _ _ ⟨h1, F', h2, h3, h4⟩ => ⟨h1, F', h2, ⟨L.atKeep h.snd.at_ (h4.mono fun b _ hb hh => h.dj b hh hb) h2.kp, h2.ck, h.snd.dj⟩, fun b hb hg => by
    rcases h3 b hb with hh | hh
    · exact h.dj b hh hg
    · have := ((L.atIn h.snd.at_).2.1 b hg).2; omega⟩
theorem two_tick (h : Two L W w l m c n s t F G Fc) (x : Int) : Calls Try.prog 12 #[.pointer (some ⟨c, 0, none⟩), .slice (some ⟨w.heap.size, 0, none⟩) 1 1] (w.alloc (.cells #[.int .i64 x] 2)) fun e w' => e = .returned (.int .i64 (tickZ n x)) ∧ ∃ Fc', Two L W w' l m c (tickZ n x) s t F G Fc' :=
  (lz_tick h.fst x).mono fun _ _ ⟨h1, Fc', h2, h3, h4⟩ => ⟨h1, Fc', h2, ⟨L.atKeep h.snd.at_ (h4.mono fun b _ hb hh => h.snd.dj b hb hh) h2.kp, h2.ck, fun b hb hc => by
    rcases h3 b hc with hh | hh
    · exact h.snd.dj b hb hh
    · have := ((L.atIn h.snd.at_).2.1 b hb).2; omega⟩, h.dj⟩
end
theorem take_a {a : Int} (h0 : 0 ≤ a) : takeB a ls0 a 2 = true ∧ takeS a ls0 a 2 = ⟨a + 20, 2, 2⟩ := by
  have e : takeB a ls0 a 2 = true := by
    unfold takeB ls0
    rw [decide_eq_true h0, decide_eq_true (Int.le_refl a), decide_eq_true (by omega : a < a + 20)]
    rfl
  exact ⟨e, by unfold takeS; rw [e]; rfl⟩
set_option maxRecDepth 100000 in
set_option maxHeartbeats 4000000 in
theorem walk {S : ClockOK} (L : LeaseOK S) (w : World) (a b : Int) : Calls Try.prog 5 #[.int .i64 a, .int .i64 b] w fun e w' => e = .returned (.bool true) ∧ Below w.heap.size w w' := by
  go_enter Try.func5, Try.ntmps5
  go_wp2_with fail
  refine (begun17 L w).mono ?_
  rintro e w1 ⟨rfl, hk⟩
  have HK1 := Lib.hid hk
  clear hk
  have hcs : decide (a < 0) = true ∨ decide (a < 0) = false ∧ (decide ((30 : Int) < a) = true ∨ decide ((30 : Int) < a) = false ∧ (decide (b < 0) = true ∨ decide (b < 0) = false ∧ (decide ((30 : Int) < b) = true ∨ decide ((30 : Int) < b) = false))) := by
    cases decide (a < 0) <;> cases decide ((30 : Int) < a) <;> cases decide (b < 0) <;> cases decide ((30 : Int) < b) <;> simp
  rcases hcs with t0 | ⟨t0, t1 | ⟨t1, t2 | ⟨t2, t3 | t3⟩⟩⟩
  rotate_right 1
  · have ha0 : 0 ≤ a := by simpa using t0
    have ha1 : a ≤ 30 := by simpa using t1
    have hb0 : 0 ≤ b := by simpa using t2
    have hb1 : b ≤ 30 := by simpa using t3
    have hz := S.zero w w1 HK1.out
    unfold zClock at hz
    go_upto_region 7 with fail
    obtain ⟨c, hc⟩ : ∃ c, w1.heap.size = c := ⟨_, rfl⟩
    rw [hc] at hz ⊢
    generalize World.alloc _ _ = w2 at hz ⊢
    have HN := Lib.hid (lz_new L hz)
    clear hc hz
    go_wp2_with fail
    refine (show Calls _ _ _ _ _ from HN.out).mono ?_
    rintro e w3 ⟨l, F, rfl, hl, -, -⟩
    have HL3 := Lib.hid hl
    have HN2 := Lib.hid (lz_new L hl.ck)
    clear hl HN
    go_wp2_with fail
    refine (show Calls _ _ _ _ _ from HN2.out).mono ?_
    rintro e w4 ⟨m, G, rfl, hm, hG, hk⟩
    have HT4 := Lib.hid (show Two L w w4 l m c 0 ls0 ls0 F G _ from ⟨HL3.out.keep hk, hm, fun b hb hg => by have := hG b hg; have := ((L.atIn HL3.out.at_).2.1 b hb).2; omega⟩)
    have HTK := Lib.hid (two_take HT4.out 0 1)
    rw [show takeB 0 ls0 0 1 = true from by decide, show takeS 0 ls0 0 1 = ⟨20, 1, 1⟩ from by decide] at HTK
    clear hm hG hk HL3 HN2 HT4
    go_wp2_with fail
    refine (show Calls _ _ _ _ _ from HTK.out).mono ?_
    rintro e w5 ⟨rfl, F5, h5⟩
    have HT := Lib.hid (two_tick h5 a)
    rw [tick_by ha0 (by omega), Int.zero_add] at HT
    have c5 := h5.fst.ptr
    clear h5 HTK
    go_wp2_with fail
    refine (show Calls _ _ _ _ _ from HT.out).mono ?_
    rintro e w6 ⟨rfl, Fc6, h6⟩
    have HTK := Lib.hid (two_take h6.swap a 2)
    rw [(take_a ha0).1, (take_a ha0).2] at HTK
    clear c5 h6 HT
    go_wp2_with fail
    refine (show Calls _ _ _ _ _ from HTK.out).mono ?_
    rintro e w7 ⟨rfl, G7, h7⟩
    have HT := Lib.hid (two_tick h7 b)
    rw [tick_by hb0 (by omega)] at HT
    have c7 := h7.fst.ptr
    clear h7 HTK
    go_wp2_with fail
    refine (show Calls _ _ _ _ _ from HT.out).mono ?_
    rintro e w8 ⟨rfl, Fc8, h8⟩
    have HT8 := Lib.hid (show ∀ w', Kp w8 w' → Two L w w' m l c (a + b) ⟨a + 20, 2, 2⟩ ⟨20, 1, 1⟩ G7 F5 Fc8 from fun w' hk => h8.keep hk)
    clear c7 h8 HT
    obtain ⟨g1, hg1⟩ : ∃ g, decide (a + b < 20) = g := ⟨_, rfl⟩
    obtain ⟨g2, hg2⟩ : ∃ g, decide (b < 20) = g := ⟨_, rfl⟩
    have HG1 := Lib.hid (show goodB (a + b) ⟨20, 1, 1⟩ 1 = g1 from hg1)
    have HG2 := Lib.hid (show goodB (a + b) ⟨a + 20, 2, 2⟩ 2 = g2 from by
      rw [← hg2]
      show decide (a + b < a + 20) = decide (b < 20)
      rw [decide_eq_decide]; omega)
    have v1 : (g1 == g1) = true := by simp
    have v2 : (g2 == g2) = true := by simp
    have v3 : (a + b == a + b) = true := by simp
    have v4 : (b == b) = true := by simp
    go_wp2_with fail
    refine (S.now w w8 c Fc8 (a + b) (HT8.out w8 (Keeps.refl _ _)).fst.ck).mono ?_
    rintro e w9 ⟨rfl, hk⟩
    have HK9 := Lib.hid hk
    have c9 := (HT8.out w9 hk).snd.ptr
    clear hk
    go_wp2_with fail
    refine (S.now w w9 c Fc8 (a + b) (HT8.out w9 HK9.out).fst.ck).mono ?_
    rintro e w10 ⟨rfl, hk⟩
    have HK10 := Lib.hid (HK9.out.trans hk)
    clear hk c9
    go_wp2_with fail
    refine (L.good w w10 l F5 c Fc8 (a + b) ⟨20, 1, 1⟩ 1 (HT8.out w10 HK10.out).snd.at_ (HT8.out w10 HK10.out).fst.ck).mono ?_
    rw [HG1.out]
    rintro e w11 ⟨rfl, hk⟩
    have HK11 := Lib.hid (HK10.out.trans hk)
    clear hk
    go_wp2_with fail
    refine (L.good w w11 m G7 c Fc8 (a + b) ⟨a + 20, 2, 2⟩ 2 (HT8.out w11 HK11.out).fst.at_ (HT8.out w11 HK11.out).fst.ck).mono ?_
    rw [HG2.out]
    rintro e w12 ⟨rfl, hk⟩
    have HK12 := Lib.hid (HK11.out.trans hk)
    clear hk
    go_wp2_with fail
    refine (L.good w w12 l F5 c Fc8 (a + b) ⟨20, 1, 1⟩ 2 (HT8.out w12 HK12.out).snd.at_ (HT8.out w12 HK12.out).fst.ck).mono ?_
    rw [show goodB (a + b) ⟨20, 1, 1⟩ 2 = false from rfl]
    rintro e w13 ⟨rfl, hk⟩
    have HK13 := Lib.hid (HK12.out.trans hk)
    have c13 := (HT8.out w13 HK13.out).snd.ptr
    clear hk
    go_wp2_with fail
    refine (S.since w w13 c Fc8 (a + b) a (HT8.out w13 HK13.out).fst.ck).mono ?_
    rw [show sinceZ (a + b) a = b from by unfold sinceZ; rw [if_pos ⟨ha0, by omega⟩]; omega]
    rintro e w14 ⟨rfl, hk⟩
    have HK14 := Lib.hid ((HT8.out w13 HK13.out).fst.kp.trans hk)
    clear hk
    go_wp2_with fail
    go_ret
    exact ⟨rfl, HK14.out.below⟩
  all_goals (
    go_wp2_with fail
    go_ret
    exact ⟨rfl, HK1.out.below⟩)

end Go.Proofs.Ytdgpkdcolljpjaa.leaseShared
