/-
  THE LANDED CLOCKS KEEP THE FACE of layer 16; what the frames of its laws ask of the program besides.
-/
import Derived.Test.YtdgpkdcolljpjaaCkTick
import Derived.OpenShut
namespace Go.Proofs.Ytdgpkdcolljpjaa
open Go Go.RowKit Go.Joins Go.ChangeShapes Go.WideShapes Go.ChangeAt

/-- A clock's block. -/
def CkBlk (w : World) (c : Nat) (n : Int) : Prop := w.heap[c]? = some (.cells #[.int .i64 n] 25 (0, 0))
section
variable {w w' : World} {c : Nat} {n : Int} {G : Nat → Prop}
theorem CkBlk.lt (h : CkBlk w c n) : c < w.heap.size := (Array.getElem?_eq_some_iff.1 h).1
theorem CkBlk.keep (h : CkBlk w c n) (hk : Keeps G w w') (hG : G c) : CkBlk w' c n := (hk.block c hG h.lt).trans h
theorem CkBlk.c0 (h : CkBlk w c n) : w.cell? ⟨c, 0, none⟩ = some (.int .i64 n) := cell_of_block h 0
theorem CkBlk.fz (h : CkBlk w c n) : w.frozen? ⟨c, 0, none⟩ = false := unfrozen_of_block h 0
theorem CkBlk.set (h : CkBlk w c n) (x : Int) : CkBlk (w.setCell ⟨c, 0, none⟩ (.int .i64 x)) c x := (block_setCell h _).trans rfl
end
/-- A clock, in one block of its own. -/
structure CkAt (W w : World) (c : Nat) (F : Nat → Prop) (n : Int) : Prop where
  kp : Kp W w
  own : F = fun b => b = c
  new : W.heap.size ≤ c
  blk : CkBlk w c n
  n0 : 0 ≤ n
  n1 : n ≤ 1099511627776
theorem goOn_any (w : World) (c : Nat) (n x : Int) (h : CkBlk w c n) (h0 : 0 ≤ n) (h1 : n ≤ 1099511627776) :
    Calls Try.prog 25 #[.pointer (some ⟨c, 0, none⟩), .int .i64 x] w fun e w' => e = .returned (.tuple #[]) ∧ CkBlk w' c (tickZ n x) ∧ Keeps (fun b => b ≠ c) w w' := by
  have c0 := h.c0
  have f0 := h.fz
  have HB := Lib.hid h
  have HS := Lib.hid (show ∀ v, Keeps (fun b => b ≠ c) w (w.setCell ⟨c, 0, none⟩ v) from fun v => (Keeps.refl _ _).setCell (.inr (fun h => h rfl)) v)
  clear h
  have hcs : (decide (0 ≤ x) = true ∧ decide (x ≤ 1099511627776 - n) = true) ∨ (decide (0 ≤ x) = true ∧ decide (x ≤ 1099511627776 - n) = false) ∨ decide (0 ≤ x) = false := by
    cases decide (0 ≤ x) <;> cases decide (x ≤ 1099511627776 - n) <;> simp
  rcases hcs with ⟨t1, t2⟩ | ⟨t1, t2⟩ | t1
  · have g1 : 0 ≤ x := by simpa using t1
    have g2 : x ≤ 1099511627776 - n := by simpa using t2
    have HE := Lib.hid (show tickZ n x = n + x from by unfold tickZ; rw [if_neg (by omega)])
    go_enter Try.func25, Try.ntmps25
    go_wp2_with fail
    go_end0
    exact ⟨rfl, by rw [HE.out]; exact HB.out.set _, HS.out _⟩
  · have g2 : ¬ x ≤ 1099511627776 - n := by simpa using t2
    have HE := Lib.hid (show tickZ n x = n from by unfold tickZ; rw [if_pos (by omega)])
    go_enter Try.func25, Try.ntmps25
    go_wp2_with fail
    go_end0
    exact ⟨rfl, by rw [HE.out]; exact HB.out, Keeps.refl _ _⟩
  · have g1 : ¬ 0 ≤ x := by simpa using t1
    have HE := Lib.hid (show tickZ n x = n from by unfold tickZ; rw [if_pos (by omega)])
    go_enter Try.func25, Try.ntmps25
    go_wp2_with fail
    go_end0
    exact ⟨rfl, by rw [HE.out]; exact HB.out, Keeps.refl _ _⟩
theorem cnow_any (w : World) (c : Nat) (n : Int) (h : CkBlk w c n) :
    Calls Try.prog 22 #[.pointer (some ⟨c, 0, none⟩)] w fun e w' => e = .returned (.int .i64 n) ∧ w = w' := by
  have c0 := h.c0
  clear h
  go_enter Try.func22, Try.ntmps22
  go_wp2_with fail
  go_ret
  exact ⟨rfl, rfl⟩
theorem cnow_nil (w : World) :
    Calls Try.prog 22 #[.pointer none] w fun e w' => e = .returned (.int .i64 0) ∧ w = w' := by
  go_enter Try.func22, Try.ntmps22
  go_wp2_with fail
  go_ret
  exact ⟨rfl, rfl⟩
theorem csince_of (w : World) (a : Value) (n t : Int) (h0 : 0 ≤ n) (h1 : n ≤ 1099511627776) (_ha : a.oneCell' = true)
    (hN : Calls Try.prog 22 #[a] w fun e w' => e = .returned (.int .i64 n) ∧ w = w') :
    Calls Try.prog 24 #[a, .int .i64 t] w fun e w' => e = .returned (.int .i64 (sinceZ n t)) ∧ w = w' := by
  have HN := Lib.hid hN
  clear hN
  have hcs : decide (t < 0) = true ∨ (decide (t < 0) = false ∧ decide (n < t) = true) ∨ (decide (t < 0) = false ∧ decide (n < t) = false) := by
    cases decide (t < 0) <;> cases decide (n < t) <;> simp
  rcases hcs with t1 | ⟨t1, t2⟩ | ⟨t1, t2⟩
  · have g1 : t < 0 := by simpa using t1
    have HE := Lib.hid (show sinceZ n t = 0 from by unfold sinceZ; rw [if_neg (by omega)])
    go_enter Try.func24, Try.ntmps24
    go_wp2_with fail
    refine (show Calls _ _ _ _ _ from HN.out).mono ?_
    rintro e w1 ⟨rfl, rfl⟩
    go_wp2_with fail
    go_ret
    exact ⟨by rw [HE.out]; rfl, rfl⟩
  · have g1 : n < t := by simpa using t2
    have HE := Lib.hid (show sinceZ n t = 0 from by unfold sinceZ; rw [if_neg (by omega)])
    go_enter Try.func24, Try.ntmps24
    go_wp2_with fail
    refine (show Calls _ _ _ _ _ from HN.out).mono ?_
    rintro e w1 ⟨rfl, rfl⟩
    go_wp2_with fail
    go_ret
    exact ⟨by rw [HE.out]; rfl, rfl⟩
  · have g1 : ¬ t < 0 := by simpa using t1
    have g2 : ¬ n < t := by simpa using t2
    have HE := Lib.hid (show sinceZ n t = n - t from by unfold sinceZ; rw [if_pos (by omega)])
    go_enter Try.func24, Try.ntmps24
    go_wp2_with fail
    refine (show Calls _ _ _ _ _ from HN.out).mono ?_
    rintro e w1 ⟨rfl, rfl⟩
    go_wp2_with fail
    go_ret
    exact ⟨by rw [HE.out]; rfl, rfl⟩
set_option maxHeartbeats 1000000 in
theorem ctick_any (w : World) (c : Nat) (n : Int) (A : Option Addr) (cap : Nat) (l : List Int) (h : CkBlk w c n) (h0 : 0 ≤ n) (h1 : n ≤ 1099511627776) (hr : Row w A (fun b => b ≠ c) (l.map (Value.int .i64))) (hl : l.length ≤ cap) (hc : cap ≤ maxLen) :
    Calls Try.prog 12 #[.pointer (some ⟨c, 0, none⟩), .slice A l.length cap] w fun e w' => e = .returned (.int .i64 (ticks n l)) ∧ CkBlk w' c (ticks n l) ∧ Keeps (fun b => b ≠ c) w w' := by
  obtain ⟨N, hN⟩ : ∃ N, l.length = N := ⟨_, rfl⟩
  have HN := Lib.hid hN
  have hNm : N ≤ 9223372036854775807 := by unfold maxLen at hc; omega
  have HR := Lib.hid hr
  have HB := Lib.hid h
  have H1 := Lib.hid (goOn_any w c n 1 h h0 h1)
  rw [hN]
  clear hr h hl hc
  cases hz : decide (N = 0) with
  | true =>
    have hN0 : N = 0 := by simpa using hz
    subst hN0
    have HE := Lib.hid (show ticks n l = tickZ n 1 from by rw [List.eq_nil_of_length_eq_zero hN]; rfl)
    clear hN hz HN
    go_enter Try.func12, Try.ntmps12
    go_wp2_with fail
    refine (show Calls _ _ _ _ _ from H1.out).mono ?_
    rintro e w1 ⟨rfl, hb1, hk1⟩
    have HB1 := Lib.hid hb1
    have HK1 := Lib.hid hk1
    clear hb1 hk1
    go_wp2_with fail
    go_loopw [16] (fun i wr => i = .int .i64 0 ∧ wr = w1) (fun _ _ => 0)
    case atStart => exact ⟨rfl, rfl⟩
    case round =>
      obtain ⟨rfl, rfl⟩ := hrel
      have c0 := HB1.out.c0
      go_wp2_with fail
      go_ret
      exact ⟨by rw [HE.out]; rfl, by rw [HE.out]; exact HB1.out, HK1.out⟩
  | false =>
    have hN0 : ¬ N = 0 := by simpa using hz
    have hNi : ((N : Int) == 0) = false := by simp; omega
    have HE := Lib.hid (show ticks n l = (l.take N).foldl tickZ n from by
      unfold ticks
      rw [if_neg (by rintro rfl; exact hN0 hN.symm), ← hN, List.take_length])
    clear hN hz
    go_enter Try.func12, Try.ntmps12
    go_wp2_with fail
    go_loopw [16] (fun i wr => ∃ k : Nat, k ≤ N ∧ i = .int .i64 (k : Int) ∧ Hid (CkBlk wr c ((l.take k).foldl tickZ n)) ∧ Hid (Keeps (fun b => b ≠ c) w wr)) (fun i _ => N - (intOf i).toNat)
    case atStart => exact ⟨0, Nat.zero_le _, rfl, Lib.hid HB.out, Lib.hid (Keeps.refl _ _)⟩
    case round =>
      clear H1
      obtain ⟨k, hk, rfl, HBk, HK⟩ := hrel
      by_cases hkN : k < N
      · have hkI : (k : Int) < (N : Int) := by omega
        have hkl : k < l.length := by rw [HN.out]; exact hkN
        obtain ⟨b, o, rfl, -, hcell⟩ := (HR.out.keep HK.out).at_ (k := k) (by rw [List.length_map]; exact hkl)
        rw [List.getElem_map] at hcell
        have hrg := fold_rng (l.take k) h0 h1
        have HX := Lib.hid (fold_next l n k hkl)
        have HG := Lib.hid (goOn_any wr c _ l[k] HBk.out hrg.1 hrg.2)
        generalize l[k] = x at hcell HX HG
        generalize (l.take k).foldl tickZ n = m at HX HG HBk
        clear hrg hkl
        go_wp2_with fail
        refine (show Calls _ _ _ _ _ from HG.out).mono ?_
        rintro e w1 ⟨rfl, hb1, hk1⟩
        have HB1 := Lib.hid hb1
        have HK1 := Lib.hid (HK.out.trans hk1)
        clear hb1 hk1
        go_wp2_with fail
        rw [← HX.out] at HB1
        go_roundw
        case rel => exact ⟨k + 1, by omega, by go_num, HB1, HK1⟩
        case measure => simp [intOf]; omega
      · obtain rfl : k = N := by omega
        have hkI : ¬ (k : Int) < (k : Int) := by omega
        have c0 := HBk.out.c0
        rw [← HE.out] at c0 HBk
        clear hk hkN
        go_wp2_with fail
        go_ret
        exact ⟨rfl, HBk.out, HK.out⟩
theorem ctick_nil (w : World) (A : Option Addr) (n cap : Nat) :
    Calls Try.prog 12 #[.pointer none, .slice A n cap] w fun e w' => e = .returned (.int .i64 0) ∧ w = w' := by
  go_enter Try.func12, Try.ntmps12
  go_wp2_with fail
  go_ret
  exact ⟨rfl, rfl⟩

def theClock : ClockOK where
  At := CkAt
  atIn := fun h => ⟨h.kp, fun b hb => by rw [h.own] at hb; subst hb; exact ⟨h.new, h.blk.lt⟩, h.n0, h.n1⟩
  atKeep := fun h hk hp => ⟨hp, h.own, h.new, h.blk.keep hk (by rw [h.own]), h.n0, h.n1⟩
  zero := fun W w hk => ⟨hk.alloc _, rfl, hk.size, heap_alloc_new w _, Int.le_refl _, by decide⟩
  now := fun W w c F n h => (cnow_any w c n h.blk).mono fun _ _ ⟨h1, h2⟩ => ⟨h1, h2 ▸ Keeps.refl _ _⟩
  tick := fun W w c F n A cap l h hr hl hc => (ctick_any w c n A cap l h.blk h.n0 h.n1 (hr.mono fun b _ hb => by rw [h.own] at hb; exact hb) hl hc).mono fun _ _ ⟨h1, h2, h3⟩ => by
    have hrg : 0 ≤ ticks n l ∧ ticks n l ≤ 1099511627776 := by
      unfold ticks
      split
      · exact tickZ_rng h.n0 h.n1 1
      · exact fold_rng l h.n0 h.n1
    have hkp : Kp W _ := (((h.kp.mono fun _ _ _ => trivial : Keeps (fun b => b ≠ c) W w).trans h3).mono fun b hb _ hF => by have := h.new; subst hF; omega)
    exact ⟨h1, F, ⟨hkp, h.own, h.new, h2, hrg.1, hrg.2⟩, fun b hb => .inl hb, by rw [h.own]; exact h3⟩
  since := fun W w c F n t h => (csince_of w _ n t h.n0 h.n1 rfl (cnow_any w c n h.blk)).mono fun _ _ ⟨h1, h2⟩ => ⟨h1, h2 ▸ Keeps.refl _ _⟩
  nowNil := fun w => (cnow_nil w).mono fun _ _ ⟨h1, h2⟩ => ⟨h1, h2 ▸ Keeps.refl _ _⟩
  tickNil := fun w A n cap => (ctick_nil w A n cap).mono fun _ _ ⟨h1, h2⟩ => ⟨h1, h2 ▸ Keeps.refl _ _⟩
  sinceNil := fun w t => (csince_of w _ 0 t (Int.le_refl _) (by decide) rfl (cnow_nil w)).mono fun _ _ ⟨h1, h2⟩ => ⟨h1.trans (by
    have : sinceZ 0 t = 0 := by unfold sinceZ; split <;> omega
    rw [this]), h2 ▸ Keeps.refl _ _⟩

set_option maxRecDepth 100000 in
theorem own : ownKnob Try.prog.godebug = none := by kernel_rfl
set_option maxRecDepth 100000 in
theorem laidOut : laidOutB Try.prog = true := by kernel_rfl

end Go.Proofs.Ytdgpkdcolljpjaa
