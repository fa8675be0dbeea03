/-
  THE LANDED LEASES KEEP THE FACE of layer 17.
-/
import Derived.Test.YtdgpkdcolljpjaaLsIf
import Derived.Test.YtdgpkdcolljpjaaCkMade
import Derived.BigQuiet
import Derived.BigCall
import Derived.Lib.MinMax
namespace Go.Proofs.Ytdgpkdcolljpjaa
open Go Go.RowKit Go.Joins Go.ChangeShapes Go.WideShapes Go.ChangeAt

/-- A lease's block: its clock, the greatest epoch, the end. -/
def LsBlk (w : World) (l c : Nat) (e d : Int) : Prop := w.heap[l]? = some (.cells #[.pointer (some ⟨c, 0, none⟩), .int .i64 e, .int .i64 d] 37 (0, 0))
section
variable {w w' : World} {l c : Nat} {e d : Int} {G : Nat → Prop}
theorem LsBlk.lt (h : LsBlk w l c e d) : l < w.heap.size := (Array.getElem?_eq_some_iff.1 h).1
theorem LsBlk.keep (h : LsBlk w l c e d) (hk : Keeps G w w') (hG : G l) : LsBlk w' l c e d := (hk.block l hG h.lt).trans h
theorem LsBlk.c0 (h : LsBlk w l c e d) : w.cell? ⟨l, 0, none⟩ = some (.pointer (some ⟨c, 0, none⟩)) := cell_of_block h 0
theorem LsBlk.c1 (h : LsBlk w l c e d) : w.cell? ⟨l, 1, none⟩ = some (.int .i64 e) := cell_of_block h 1
theorem LsBlk.c2 (h : LsBlk w l c e d) : w.cell? ⟨l, 2, none⟩ = some (.int .i64 d) := cell_of_block h 2
theorem LsBlk.f1 (h : LsBlk w l c e d) : w.frozen? ⟨l, 1, none⟩ = false := unfrozen_of_block h 1
theorem LsBlk.f2 (h : LsBlk w l c e d) : w.frozen? ⟨l, 2, none⟩ = false := unfrozen_of_block h 2
theorem LsBlk.set1 (h : LsBlk w l c e d) (x : Int) : LsBlk (w.setCell ⟨l, 1, none⟩ (.int .i64 x)) l c x d := (block_setCell h _).trans rfl
theorem LsBlk.set2 (h : LsBlk w l c e d) (x : Int) : LsBlk (w.setCell ⟨l, 2, none⟩ (.int .i64 x)) l c e x := (block_setCell h _).trans rfl
end
/-- A lease, in one block of its own. -/
structure LsAt (W w : World) (l : Nat) (F : Nat → Prop) (c : Nat) (s : LsS) : Prop where
  kp : Kp W w
  own : F = fun b => b = l
  new : W.heap.size ≤ l
  blk : LsBlk w l c s.ep s.fin
  ok : s.Ok
  top : s.top = s.ep
  ep : s.fin = 0 ∨ 1 ≤ s.ep

theorem lnew_any (w : World) (c : Nat) : Calls Try.prog 10 #[.pointer (some ⟨c, 0, none⟩)] w fun e w' =>
    e = .returned (.pointer (some ⟨w.heap.size, 0, none⟩)) ∧ w' = w.alloc (.cells #[.pointer (some ⟨c, 0, none⟩), .int .i64 0, .int .i64 0] 37) := by
  go_enter Try.func10, Try.ntmps10
  go_wp2_with fail
  go_ret
  exact ⟨rfl, rfl⟩
theorem lnew_nil (w : World) : Calls Try.prog 10 #[.pointer none] w fun e w' =>
    e = .returned (.pointer (some ⟨w.heap.size + 1, 0, none⟩)) ∧ w' = (w.alloc (.cells #[.int .i64 0] 25)).alloc (.cells #[.pointer (some ⟨w.heap.size, 0, none⟩), .int .i64 0, .int .i64 0] 37) := by
  go_enter Try.func10, Try.ntmps10
  go_wp2_with fail
  go_ret
  exact ⟨rfl, rfl⟩
theorem lask_any (w : World) (l c : Nat) (e d n : Int) (h : LsBlk w l c e d) (hc : CkBlk w c n) : Calls Try.prog 21 #[.pointer (some ⟨l, 0, none⟩)] w fun e w' => e = .returned (.int .i64 n) ∧ w = w' := by
  have c0 := h.c0
  have HN := Lib.hid (cnow_any w c n hc)
  clear h hc
  go_enter Try.func21, Try.ntmps21
  go_wp2_with fail
  refine (show Calls _ _ _ _ _ from HN.out).mono ?_
  rintro e w1 ⟨rfl, rfl⟩
  go_wp2_with fail
  go_ret
  exact ⟨rfl, rfl⟩
theorem lask_nil (w : World) : Calls Try.prog 21 #[.pointer none] w fun e w' => e = .returned (.int .i64 0) ∧ w = w' := by
  go_enter Try.func21, Try.ntmps21
  go_wp2_with fail
  go_ret
  exact ⟨rfl, rfl⟩
theorem lleft_any (w : World) (l c : Nat) (e d n : Int) (h : LsBlk w l c e d) (hc : CkBlk w c n) (n0 : 0 ≤ n) (n1 : n ≤ 1099511627776) (d0 : 0 ≤ d) (d1 : d ≤ 1099511627796) : Calls Try.prog 19 #[.pointer (some ⟨l, 0, none⟩)] w fun e w' => e = .returned (.int .i64 (max 0 (d - n))) ∧ Kp w w' := by
  have c0 := h.c0
  have c2 := h.c2
  have HN := Lib.hid (fun m => cnow_any (w.drewN m) c n (hc.keep (G := fun _ => True) ((Keeps.refl _ _).drewN m) trivial))
  clear h hc
  go_enter Try.func19, Try.ntmps19
  go_wp2_with fail
  go_quiet ((first | (go_at_call 22; exact Calls.quiet_of_same ((HN.out _).mono fun _ _ h => ⟨h.1, h.2.symm⟩))))
  go_wp2_with fail
  go_ret
  exact ⟨rfl, (Keeps.refl _ _).drewN _⟩
theorem lleft_nil (w : World) : Calls Try.prog 19 #[.pointer none] w fun e w' => e = .returned (.int .i64 0) ∧ w = w' := by
  go_enter Try.func19, Try.ntmps19
  go_wp2_with fail
  go_ret
  exact ⟨rfl, rfl⟩
theorem lgood_any (w : World) (l c : Nat) (e d n ep : Int) (h : LsBlk w l c e d) (hc : CkBlk w c n) (n0 : 0 ≤ n) (n1 : n ≤ 1099511627776) (d0 : 0 ≤ d) (d1 : d ≤ 1099511627796) : Calls Try.prog 17 #[.pointer (some ⟨l, 0, none⟩), .int .i64 ep] w fun x w' => x = .returned (.bool (decide (n < d) && (ep == e))) ∧ Kp w w' := by
  have HC1 := Lib.hid (fun w' (hk : Kp w w') => (LsBlk.keep (G := fun _ => True) h hk trivial).c1)
  have HN := Lib.hid (lleft_any w l c e d n h hc n0 n1 d0 d1)
  clear h hc
  cases hm : decide (n < d) with
  | true =>
    have g1 : n < d := by simpa using hm
    obtain ⟨m, hm⟩ : ∃ m, max 0 (d - n) = m := ⟨_, rfl⟩
    have m1 : 0 < m := by omega
    have m2 : decide (0 < m) = true := by simpa using m1
    rw [hm] at HN
    clear hm
    go_enter Try.func17, Try.ntmps17
    go_wp2_with fail
    refine (show Calls _ _ _ _ _ from HN.out).mono ?_
    rintro e w1 ⟨rfl, hk⟩
    have c1 := HC1.out w1 hk
    have HK := Lib.hid hk
    clear hk
    go_wp2_with fail
    go_ret
    exact ⟨rfl, HK.out⟩
  | false =>
    have g1 : ¬ n < d := by simpa using hm
    have hm : max 0 (d - n) = 0 := by omega
    rw [hm] at HN
    clear hm
    go_enter Try.func17, Try.ntmps17
    go_wp2_with fail
    refine (show Calls _ _ _ _ _ from HN.out).mono ?_
    rintro e w1 ⟨rfl, hk⟩
    have HK := Lib.hid hk
    clear hk
    go_wp2_with fail
    go_ret
    exact ⟨rfl, HK.out⟩
theorem lgood_nil (w : World) (ep : Int) : Calls Try.prog 17 #[.pointer none, .int .i64 ep] w fun e w' => e = .returned (.bool false) ∧ w = w' := by
  have HN := Lib.hid (lleft_nil w)
  go_enter Try.func17, Try.ntmps17
  go_wp2_with fail
  refine (show Calls _ _ _ _ _ from HN.out).mono ?_
  rintro e w1 ⟨rfl, rfl⟩
  go_wp2_with fail
  go_ret
  exact ⟨rfl, rfl⟩
def lessZ (e d ep fin : Int) : Bool := if ep = e then decide (d < fin) else decide (e < ep)
theorem lless_any (w : World) (l c : Nat) (e d ep fin : Int) (h : LsBlk w l c e d) : Calls Try.prog 26 #[.pointer (some ⟨l, 0, none⟩), .int .i64 ep, .int .i64 fin] w fun x w' => x = .returned (.bool (lessZ e d ep fin)) ∧ w = w' := by
  have c1 := h.c1
  have c2 := h.c2
  clear h
  cases he : (ep == e) with
  | true =>
    have he' : ep = e := by simpa using he
    have HE := Lib.hid (show lessZ e d ep fin = decide (d < fin) from by unfold lessZ; rw [if_pos he'])
    clear he'
    go_enter Try.func26, Try.ntmps26
    go_wp2_with fail
    go_ret
    exact ⟨by rw [HE.out]; rfl, rfl⟩
  | false =>
    have he' : ¬ ep = e := by simpa using he
    have HE := Lib.hid (show lessZ e d ep fin = decide (e < ep) from by unfold lessZ; rw [if_neg he'])
    clear he'
    go_enter Try.func26, Try.ntmps26
    go_wp2_with fail
    go_ret
    exact ⟨by rw [HE.out]; rfl, rfl⟩
/-- The order of Take's tests. -/
inductive TakeWay (n e d sent ep : Int) : Prop where
  | low (h : decide (ep < 1) = true)
  | neg (h : decide (ep < 1) = false) (h1 : decide (sent < 0) = true)
  | late (h : decide (ep < 1) = false) (h1 : decide (sent < 0) = false) (h2 : decide (n < sent) = true)
  | over (h : decide (ep < 1) = false) (h1 : decide (sent < 0) = false) (h2 : decide (n < sent) = false) (h3 : decide (sent + 20 ≤ n) = true)
  | less (h : decide (ep < 1) = false) (h1 : decide (sent < 0) = false) (h2 : decide (n < sent) = false) (h3 : decide (sent + 20 ≤ n) = false) (h4 : lessZ e d ep (sent + 20) = false)
  | yes (h : decide (ep < 1) = false) (h1 : decide (sent < 0) = false) (h2 : decide (n < sent) = false) (h3 : decide (sent + 20 ≤ n) = false) (h4 : lessZ e d ep (sent + 20) = true)
theorem takeWay (n e d sent ep : Int) : TakeWay n e d sent ep := by
  cases h : decide (ep < 1) with
  | true => exact .low h
  | false => cases h1 : decide (sent < 0) with
    | true => exact .neg h h1
    | false => cases h2 : decide (n < sent) with
      | true => exact .late h h1 h2
      | false => cases h3 : decide (sent + 20 ≤ n) with
        | true => exact .over h h1 h2 h3
        | false => cases h4 : lessZ e d ep (sent + 20) with
          | true => exact .yes h h1 h2 h3 h4
          | false => exact .less h h1 h2 h3 h4
theorem takeB_is (n : Int) (s : LsS) (sent ep : Int) (ht : s.top = s.ep) :
    takeB n s sent ep = (!decide (ep < 1) && (!decide (sent < 0) && (!decide (n < sent) && (!decide (sent + 20 ≤ n) && lessZ s.ep s.fin ep (sent + 20))))) := by
  rw [Bool.eq_iff_iff]
  unfold takeB lessZ
  rw [ht]
  split <;> rename_i hq <;> simp [hq] <;> omega
theorem ltake_any (w : World) (l c : Nat) (s : LsS) (n sent ep : Int) (h : LsBlk w l c s.ep s.fin) (hc : CkBlk w c n) (n0 : 0 ≤ n) (n1 : n ≤ 1099511627776) (ht : s.top = s.ep) :
    Calls Try.prog 13 #[.pointer (some ⟨l, 0, none⟩), .int .i64 sent, .int .i64 ep] w fun x w' => x = .returned (.bool (takeB n s sent ep)) ∧ LsBlk w' l c (takeS n s sent ep).ep (takeS n s sent ep).fin ∧ Keeps (fun b => b ≠ l) w w' := by
  have c0 := h.c0
  have f1 := h.f1
  have f2 := h.f2
  have HB := Lib.hid h
  have HN := Lib.hid (cnow_any w c n hc)
  have HL := Lib.hid (fun fin => lless_any w l c s.ep s.fin ep fin h)
  have HT := Lib.hid (takeB_is n s sent ep ht)
  have HS := Lib.hid (show ∀ v v', Keeps (fun b => b ≠ l) w ((w.setCell ⟨l, 1, none⟩ v).setCell ⟨l, 2, none⟩ v') from fun v v' => ((Keeps.refl _ _).setCell (.inr (fun h => h rfl)) v).setCell (.inr (fun h => h rfl)) v')
  have hway := takeWay n s.ep s.fin sent ep
  clear h hc ht
  have HNo := Lib.hid (show takeB n s sent ep = false → LsBlk w l c (takeS n s sent ep).ep (takeS n s sent ep).fin from fun hb => by
    have : takeS n s sent ep = s := by unfold takeS; rw [hb]; rfl
    rw [this]; exact HB.out)
  cases hway with
  | low h =>
    have HE := Lib.hid (show takeB n s sent ep = false from by rw [HT.out, h]; rfl)
    clear HT
    have g := of_decide_eq_true h
    go_enter Try.func13, Try.ntmps13
    go_wp2_with fail
    go_ret
    exact ⟨by rw [HE.out]; rfl, HNo.out HE.out, Keeps.refl _ _⟩
  | neg h h1 =>
    have HE := Lib.hid (show takeB n s sent ep = false from by rw [HT.out, h, h1]; rfl)
    clear HT
    have g := of_decide_eq_false h
    have g1 := of_decide_eq_true h1
    go_enter Try.func13, Try.ntmps13
    go_wp2_with fail
    go_ret
    exact ⟨by rw [HE.out]; rfl, HNo.out HE.out, Keeps.refl _ _⟩
  | late h h1 h2 =>
    have HE := Lib.hid (show takeB n s sent ep = false from by rw [HT.out, h, h1, h2]; rfl)
    clear HT
    have g := of_decide_eq_false h
    have g1 := of_decide_eq_false h1
    have g2 := of_decide_eq_true h2
    go_enter Try.func13, Try.ntmps13
    go_wp2_with fail
    refine (show Calls _ _ _ _ _ from HN.out).mono ?_
    rintro e w1 ⟨rfl, rfl⟩
    go_wp2_with fail
    go_ret
    exact ⟨by rw [HE.out]; rfl, HNo.out HE.out, Keeps.refl _ _⟩
  | over h h1 h2 h3 =>
    have HE := Lib.hid (show takeB n s sent ep = false from by rw [HT.out, h, h1, h2, h3]; rfl)
    clear HT
    have g := of_decide_eq_false h
    have g1 := of_decide_eq_false h1
    have g2 := of_decide_eq_false h2
    have g3 := of_decide_eq_true h3
    go_enter Try.func13, Try.ntmps13
    go_wp2_with fail
    refine (show Calls _ _ _ _ _ from HN.out).mono ?_
    rintro e w1 ⟨rfl, rfl⟩
    go_wp2_with fail
    refine (show Calls _ _ _ _ _ from HN.out).mono ?_
    rintro e w1 ⟨rfl, rfl⟩
    go_wp2_with fail
    go_ret
    exact ⟨by rw [HE.out]; rfl, HNo.out HE.out, Keeps.refl _ _⟩
  | less h h1 h2 h3 h4 =>
    have HE := Lib.hid (show takeB n s sent ep = false from by rw [HT.out, h, h1, h2, h3, h4]; rfl)
    have HL1 := Lib.hid (show Calls Try.prog 26 #[.pointer (some ⟨l, 0, none⟩), .int .i64 ep, .int .i64 (sent + 20)] w fun x w' => x = .returned (.bool false) ∧ w = w' from h4 ▸ HL.out (sent + 20))
    clear HT h4
    have g := of_decide_eq_false h
    have g1 := of_decide_eq_false h1
    have g2 := of_decide_eq_false h2
    have g3 := of_decide_eq_false h3
    go_enter Try.func13, Try.ntmps13
    go_wp2_with fail
    refine (show Calls _ _ _ _ _ from HN.out).mono ?_
    rintro e w1 ⟨rfl, rfl⟩
    go_wp2_with fail
    refine (show Calls _ _ _ _ _ from HN.out).mono ?_
    rintro e w1 ⟨rfl, rfl⟩
    go_wp2_with fail
    refine (show Calls _ _ _ _ _ from HL1.out).mono ?_
    rintro e w1 ⟨rfl, rfl⟩
    go_wp2_with fail
    go_ret
    exact ⟨by rw [HE.out]; rfl, HNo.out HE.out, Keeps.refl _ _⟩
  | yes h h1 h2 h3 h4 =>
    have HE := Lib.hid (show takeB n s sent ep = true from by rw [HT.out, h, h1, h2, h3, h4]; rfl)
    have HL1 := Lib.hid (show Calls Try.prog 26 #[.pointer (some ⟨l, 0, none⟩), .int .i64 ep, .int .i64 (sent + 20)] w fun x w' => x = .returned (.bool true) ∧ w = w' from h4 ▸ HL.out (sent + 20))
    have HZ := Lib.hid (show LsBlk ((w.setCell ⟨l, 1, none⟩ (.int .i64 ep)).setCell ⟨l, 2, none⟩ (.int .i64 (sent + 20))) l c (takeS n s sent ep).ep (takeS n s sent ep).fin from by
      have : takeS n s sent ep = ⟨sent + 20, ep, ep⟩ := by unfold takeS; rw [HE.out]; rfl
      rw [this]; exact (HB.out.set1 ep).set2 (sent + 20))
    have c1 := HB.out.c1
    have c2 := HB.out.c2
    clear HT h4 HNo
    have g := of_decide_eq_false h
    have g1 := of_decide_eq_false h1
    have g2 := of_decide_eq_false h2
    have g3 := of_decide_eq_false h3
    go_enter Try.func13, Try.ntmps13
    go_wp2_with fail
    refine (show Calls _ _ _ _ _ from HN.out).mono ?_
    rintro e w1 ⟨rfl, rfl⟩
    go_wp2_with fail
    refine (show Calls _ _ _ _ _ from HN.out).mono ?_
    rintro e w1 ⟨rfl, rfl⟩
    go_wp2_with fail
    refine (show Calls _ _ _ _ _ from HL1.out).mono ?_
    rintro e w1 ⟨rfl, rfl⟩
    go_wp2_with fail
    go_ret
    exact ⟨by rw [HE.out]; rfl, HZ.out, HS.out _ _⟩
theorem ltake_nil (w : World) (sent ep : Int) : Calls Try.prog 13 #[.pointer none, .int .i64 sent, .int .i64 ep] w fun e w' => e = .returned (.bool false) ∧ w = w' := by
  go_enter Try.func13, Try.ntmps13
  go_wp2_with fail
  go_ret
  exact ⟨rfl, rfl⟩
theorem ldrop_any (w : World) (l c : Nat) (e d : Int) (h : LsBlk w l c e d) : Calls Try.prog 15 #[.pointer (some ⟨l, 0, none⟩)] w fun x w' => x = .returned (.tuple #[]) ∧ LsBlk w' l c 0 0 ∧ Keeps (fun b => b ≠ l) w w' := by
  have f1 := h.f1
  have f2 := h.f2
  have HZ := Lib.hid ((h.set1 0).set2 0)
  have HS := Lib.hid (show ∀ v v', Keeps (fun b => b ≠ l) w ((w.setCell ⟨l, 1, none⟩ v).setCell ⟨l, 2, none⟩ v') from fun v v' => ((Keeps.refl _ _).setCell (.inr (fun h => h rfl)) v).setCell (.inr (fun h => h rfl)) v')
  have c1 := h.c1
  have c2 := h.c2
  clear h
  go_enter Try.func15, Try.ntmps15
  go_wp2_with fail
  go_end0
  exact ⟨rfl, HZ.out, HS.out _ _⟩
theorem ldrop_nil (w : World) : Calls Try.prog 15 #[.pointer none] w fun e w' => e = .returned (.tuple #[]) ∧ w = w' := by
  go_enter Try.func15, Try.ntmps15
  go_wp2_with fail
  go_end0
  exact ⟨rfl, rfl⟩

theorem LsAt.past {W w w' : World} {l c : Nat} {F : Nat → Prop} {s : LsS} (h : LsAt W w l F c s) (hk : Keeps (fun b => b ≠ l) w w') : Kp W w' :=
  ((h.kp.mono fun _ _ _ => trivial : Keeps (fun b => b ≠ l) W w).trans hk).mono fun b hb _ hF => by have := h.new; subst hF; omega
theorem LsAt.fin0 {W w : World} {l c : Nat} {F : Nat → Prop} {s : LsS} (h : LsAt W w l F c s) (ep n : Int) (n0 : 0 ≤ n) : (decide (n < s.fin) && (ep == s.ep)) = goodB n s ep := by
  rw [Bool.eq_iff_iff]
  unfold goodB
  have := h.ep
  simp only [Bool.and_eq_true, decide_eq_true_eq, beq_iff_eq]
  omega

def theLease : LeaseOK theClock where
  At := LsAt
  atIn := fun h => ⟨h.kp, fun b hb => by rw [h.own] at hb; subst hb; exact ⟨h.new, h.blk.lt⟩, h.ok⟩
  atKeep := fun h hk hp => ⟨hp, h.own, h.new, h.blk.keep hk (by rw [h.own]), h.ok, h.top, h.ep⟩
  ptr := fun h => h.blk.c0
  new := fun W w c Fc n h => (lnew_any w c).mono fun _ _ ⟨h1, h2⟩ => by
    subst h2
    exact ⟨_, fun b => b = w.heap.size, h1, ⟨h.kp.alloc _, rfl, h.kp.size, heap_alloc_new w _, LsS.Ok.zero, rfl, .inl rfl⟩, fun b hb => by subst hb; exact Nat.le_refl _, (Keeps.refl _ _).alloc _⟩
  newNil := fun W w hk => (lnew_nil w).mono fun _ _ ⟨h1, h2⟩ => by
    subst h2
    have hs : (w.alloc (.cells #[.int .i64 0] 25)).heap.size = w.heap.size + 1 := by simp
    have hkp := (hk.alloc (.cells #[.int .i64 0] 25))
    refine ⟨_, fun b => b = w.heap.size + 1, w.heap.size, fun b => b = w.heap.size, h1, ⟨hkp.alloc _, rfl, by have := hk.size; omega, ?_, LsS.Ok.zero, rfl, .inl rfl⟩, ⟨hkp.alloc _, rfl, hk.size, ?_, Int.le_refl _, by decide⟩, fun b hb hc => by omega, ((Keeps.refl _ _).alloc _).alloc _⟩
    · rw [← hs]; exact heap_alloc_new _ _
    · exact CkBlk.keep (G := fun _ => True) (heap_alloc_new w _) ((Keeps.refl _ _).alloc _) trivial
  ask := fun W w l F c Fc n s h hc => (lask_any w l c _ _ n h.blk hc.blk).mono fun _ _ ⟨h1, h2⟩ => ⟨h1, h2 ▸ Keeps.refl _ _⟩
  take := fun W w l F c Fc n s sent ep h hc hd => (ltake_any w l c s n sent ep h.blk hc.blk hc.n0 hc.n1 h.top).mono fun _ _ ⟨h1, h2, h3⟩ => by
    have hok := takeS_ok h.ok hc.n1 sent ep
    have htop : (takeS n s sent ep).top = (takeS n s sent ep).ep := by unfold takeS; split; rfl; exact h.top
    have hep : (takeS n s sent ep).fin = 0 ∨ 1 ≤ (takeS n s sent ep).ep := by
      unfold takeS
      cases ht : takeB n s sent ep with
      | false => exact h.ep
      | true =>
        unfold takeB at ht
        simp only [Bool.and_eq_true, decide_eq_true_eq] at ht
        exact .inr ht.2.2.2.2.1
    exact ⟨h1, F, ⟨h.past h3, h.own, h.new, h2, hok, htop, hep⟩, fun b hb => .inl hb, by rw [h.own]; exact h3⟩
  good := fun W w l F c Fc n s ep h hc => (lgood_any w l c _ _ n ep h.blk hc.blk hc.n0 hc.n1 h.ok.f0 h.ok.f1).mono fun _ _ ⟨h1, h2⟩ => ⟨by rw [h1, h.fin0 ep n hc.n0], h2⟩
  left := fun W w l F c Fc n s h hc => (lleft_any w l c _ _ n h.blk hc.blk hc.n0 hc.n1 h.ok.f0 h.ok.f1)
  drop := fun W w l F c s h => (ldrop_any w l c _ _ h.blk).mono fun _ _ ⟨h1, h2, h3⟩ => ⟨h1, F, ⟨h.past h3, h.own, h.new, h2, LsS.Ok.zero, rfl, .inl rfl⟩, fun b hb => .inl hb, by rw [h.own]; exact h3⟩
  askNil := fun w => (lask_nil w).mono fun _ _ ⟨h1, h2⟩ => ⟨h1, h2 ▸ Keeps.refl _ _⟩
  takeNil := fun w sent ep => (ltake_nil w sent ep).mono fun _ _ ⟨h1, h2⟩ => ⟨h1, h2 ▸ Keeps.refl _ _⟩
  goodNil := fun w ep => (lgood_nil w ep).mono fun _ _ ⟨h1, h2⟩ => ⟨h1, h2 ▸ Keeps.refl _ _⟩
  leftNil := fun w => (lleft_nil w).mono fun _ _ ⟨h1, h2⟩ => ⟨h1, h2 ▸ Keeps.refl _ _⟩
  dropNil := fun w => (ldrop_nil w).mono fun _ _ ⟨h1, h2⟩ => ⟨h1, h2 ▸ Keeps.refl _ _⟩

end Go.Proofs.Ytdgpkdcolljpjaa
