/-
  THE WALK OF ItemTwins, whatever way the program goes.
-/
import Derived.Test.YtgdbkmecfbkobaaItemBegun
import Derived.Test.YtgdbkmecfbkobaaItemItems
import Derived.Test.YtgdbkmecfbkobaaItemTake
namespace Go.Proofs.Ytgdbkmecfbkobaa.itemTwins
open Go Go.RowKit Go.Joins

theorem txts (l r : List UInt8) : ((txt l).toList == (txt r).toList) = decide (l = r) := by
  have e1 : (txt l).toList = l := by rw [Lib.toList_data]; rfl
  have e2 : (txt r).toList = r := by rw [Lib.toList_data]; rfl
  rw [e1, e2, Bool.eq_iff_iff]; simp
/-- What the law asks of the entries that came in. -/
def Came (l : List It) : Prop := ∀ x ∈ l, x.key.size ≤ maxLen ∧ x.val.size ≤ maxLen ∧ -9223372036854775808 ≤ x.till ∧ x.till < 9223372036854775808

set_option maxRecDepth 100000 in
set_option maxHeartbeats 4000000 in
theorem walk (S : ItemOK) (w : World) (hT : S.T w) (A B : Option Addr) (c d : Nat) (l m : List It) (hl : l.length ≤ c) (hc : c ≤ maxLen) (hA : ItsAt w A (fun b => b < w.heap.size) l) (cl : Came l)
    (hm : m.length ≤ d) (hd : d ≤ maxLen) (hB : ItsAt w B (fun b => b < w.heap.size) m) (cm : Came m) :
    Calls Try.prog 6 #[.slice A l.length c, .slice B m.length d] w fun e w' => e = .returned (.bool true) ∧ Below w.heap.size w w' := by
  have HT := Lib.hid hT
  have HLA := Lib.hid (fun w1 (h : Keeps (fun _ => True) w w1) => law_items w1 A c l 4 ((hA.keep (h.mono fun _ _ _ => trivial)).mono fun b _ hb => Nat.lt_of_lt_of_le hb h.size) hl hc (fun x hx => ⟨(cl x hx).1, (cl x hx).2.1⟩) (by decide))
  have HLB := Lib.hid (fun w1 (h : Keeps (fun _ => True) w w1) => law_items w1 B d m 4 ((hB.keep (h.mono fun _ _ _ => trivial)).mono fun b _ hb => Nat.lt_of_lt_of_le hb h.size) hm hd (fun x hx => ⟨(cm x hx).1, (cm x hx).2.1⟩) (by decide))
  have HFA := Lib.hid (cutL_fits (fun x hx => (cl x hx).2.2) 4)
  have HFB := Lib.hid (cutL_fits (fun x hx => (cm x hx).2.2) 4)
  have na : (cutL l 4).length ≤ 4 := by rw [cutL_len]; omega
  have nb : (cutL m 4).length ≤ 4 := by rw [cutL_len]; omega
  clear hT hA hB cl cm hc hd
  generalize cutL l 4 = a at HLA HFA na
  generalize cutL m 4 = b at HLB HFB nb
  go_enter Try.func6, Try.ntmps6
  go_wp2_with fail
  refine (begun7 S w HT.out).mono ?_
  rintro e w1 ⟨rfl, hk1⟩
  have HK1 := Lib.hid hk1
  clear hk1
  go_wp2_with fail
  refine (show Calls _ _ _ _ _ from HLA.out w1 HK1.out).mono ?_
  rintro e w2 ⟨A2, c2, rfl, p1, p2, hia, hk2⟩
  have HK2 := Lib.hid (HK1.out.trans hk2)
  have HIA := Lib.hid (show ∀ W, Keeps (fun _ => True) w2 W → ItsAt W A2 (fun b => b < W.heap.size) a from fun W h => ((hia.mono (G := fun g => g < w2.heap.size) fun _ _ q => q.2).keep (h.mono fun _ _ _ => trivial)).mono fun g _ q => Nat.lt_of_lt_of_le q h.size)
  clear hk2 hia
  go_wp2_with fail
  refine (show Calls _ _ _ _ _ from HLB.out w2 HK2.out).mono ?_
  rintro e w3 ⟨B2, d2, rfl, q1, q2, hib, hk3⟩
  have HK3 := Lib.hid (HK2.out.trans hk3)
  have HIB := Lib.hid (show ∀ W, Keeps (fun _ => True) w3 W → ItsAt W B2 (fun b => b < W.heap.size) b from fun W h => ((hib.mono (G := fun g => g < w3.heap.size) fun _ _ q => q.2).keep (h.mono fun _ _ _ => trivial)).mono fun g _ q => Nat.lt_of_lt_of_le q h.size)
  have HIA3 := Lib.hid (fun W (h : Keeps (fun _ => True) w3 W) => HIA.out W (hk3.trans h))
  have P2 := Lib.hid p2
  have Q2 := Lib.hid q2
  clear hk3 hib HIA p2 q2
  go_wp2_with fail
  refine (show Calls _ _ _ _ _ from S.encode w3 A2 c2 a (S.tk HT.out HK3.out) ((HIA3.out w3 (Keeps.refl _ _)).mono fun _ _ _ => trivial) p1 P2.out (by omega) HFA.out).mono ?_
  rintro e w4 ⟨X, cx, rfl, x1, x2, hx, hk4⟩
  have HK4 := Lib.hid hk4
  have HX := Lib.hid hx
  clear hk4 hx
  go_wp2_with fail
  refine (show Calls _ _ _ _ _ from S.encode w4 B2 d2 b (S.tk HT.out (HK3.out.trans HK4.out)) ((HIB.out w4 HK4.out).mono fun _ _ _ => trivial) q1 Q2.out (by omega) HFB.out).mono ?_
  rintro e w5 ⟨Y, cy, rfl, y1, y2, hy, hk5⟩
  have HK5 := Lib.hid (HK4.out.trans hk5)
  have KX := Lib.hid (show ∀ W, Keeps (fun _ => True) w5 W → (convert 30 9 (.slice X (encs a).length cx)).run Try.prog W = .ok (.string (txt (encs a))) W from fun W h => (HX.out.keep ((hk5.trans h).mono fun _ _ _ => trivial)).to_string Try.underlying30 Try.underlying5 Try.underlying9 _ _ rfl)
  have KY := Lib.hid (show ∀ W, Keeps (fun _ => True) w5 W → (convert 30 9 (.slice Y (encs b).length cy)).run Try.prog W = .ok (.string (txt (encs b))) W from fun W h => (hy.keep (h.mono fun _ _ _ => trivial)).to_string Try.underlying30 Try.underlying5 Try.underlying9 _ _ rfl)
  have HKW := Lib.hid (HK3.out.trans HK5.out)
  have la := encs_len a
  have lb := encs_len b
  have HEQ := Lib.hid (show 0 < (encs a).length → 0 < (encs b).length → decide (a = b) = decide (encs a = encs b) from fun h1 h2 => decide_eq_decide.2 (encs_inj h1 h2).symm)
  unfold maxLen at x2 y2
  clear hk5 hy
  have hcs : (((encs a).length : Int) == 0) = true ∨ ((((encs a).length : Int) == 0) = false ∧ (((encs b).length : Int) == 0) = true) ∨ ((((encs a).length : Int) == 0) = false ∧ (((encs b).length : Int) == 0) = false ∧ 0 < (encs a).length ∧ 0 < (encs b).length) := by
    simp only [beq_eq_false_iff_ne, beq_iff_eq]
    omega
  rcases hcs with t1 | ⟨t1, t2⟩ | ⟨t1, t2, t3, t4⟩
  · go_wp2_with fail
    go_ret
    exact ⟨rfl, HKW.out.below⟩
  · go_wp2_with fail
    go_ret
    exact ⟨rfl, HKW.out.below⟩
  · obtain ⟨r, hr⟩ : ∃ r, decide (a = b) = r := ⟨_, rfl⟩
    have teq : ((txt (encs a)).toList == (txt (encs b)).toList) = r := by rw [txts, ← HEQ.out t3 t4, hr]
    have HR := Lib.hid hr
    have trr : (r == r) = true := beq_self_eq_true _
    have RE := reqItems w5.drew A2 B2 c2 d2 a b (HIA3.out _ (HK5.out.drew)) (HIB.out _ (HK5.out.drew)) p1 q1 P2.out Q2.out HFA.out HFB.out r hr
    have kx := KX.out w5.drew (Keeps.refl _ w5).drew
    have ky := KY.out w5.drew (Keeps.refl _ w5).drew
    clear hr t3 t4
    go_wp2_with fail
    go_region_with (go_at_call 19; (with_reducible refine RE.mono ?_); rintro e w' ⟨rfl, hst⟩; have kx2 := KX.out w' (((Keeps.refl (fun _ => True) w5).drew).trans hst); have ky2 := KY.out w' (((Keeps.refl (fun _ => True) w5).drew).trans hst))
    all_goals
      have HK6 := Lib.hid ((HKW.out.drew).trans hst)
      clear hst RE
      go_wp2_with fail
      go_ret
      exact ⟨by first | rfl | (rw [teq, trr]; rfl) | simp [teq], HK6.out.below⟩

end Go.Proofs.Ytgdbkmecfbkobaa.itemTwins
