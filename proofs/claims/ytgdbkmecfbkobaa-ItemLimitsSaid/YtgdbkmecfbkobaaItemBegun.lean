/-
  'begun' OF LAYER 7 ANSWERS true, whatever way the program goes.
-/
import Derived.Test.YtgdbkmecfbkobaaItemIf
import Derived.WalkSpells
import Derived.Lib.SmallJoins
namespace Go.Proofs.Ytgdbkmecfbkobaa
open Go Go.RowKit Go.Joins

def xk : It := ⟨⟨#[107]⟩, ⟨#[118]⟩, 9, false⟩
theorem xk_may : xk.may = true := by decide
theorem xk_fits : xk.fits := ⟨by decide, by decide, by decide, by decide⟩
theorem xk_all : [xk, xk].all It.may = true := by decide
def xkV : Array Value := #[.string ⟨#[107]⟩, .string ⟨#[118]⟩, .int .i64 9, .bool false, .string ⟨#[107]⟩, .string ⟨#[118]⟩, .int .i64 9, .bool false]

set_option maxRecDepth 100000 in
set_option maxHeartbeats 2000000 in
theorem begun7 (S : ItemOK) (w : World) (hT : S.T w) : Calls Try.prog 8 #[] w fun e w' => e = .returned (.bool true) ∧ Keeps (fun _ => True) w w' := by
  have HT := Lib.hid hT
  clear hT
  go_enter Try.func8, Try.ntmps8
  go_wp2_with fail
  have hk0 : Keeps (fun _ => True) w ((w.alloc (.cells #[.string ⟨#[107]⟩, .string ⟨#[118]⟩, .int .i64 9, .bool false] 23)).alloc (.cells xkV 23)) := ((Keeps.refl _ w).alloc _).alloc _
  have he := S.encode _ (some ⟨w.heap.size + 1, 0, none⟩) 2 [xk, xk] (S.tk HT.out hk0) (ItsAt.fresh (w.alloc (.cells #[.string ⟨#[107]⟩, .string ⟨#[118]⟩, .int .i64 9, .bool false] 23)) xkV 23 (0, 0) (w.heap.size + 1) (by simp) trivial [xk, xk] rfl) (Nat.le_refl _) (by decide) (by decide)
    (fun x hx => by simp at hx; subst hx; exact xk_fits)
  refine (show Calls _ _ _ _ _ from he).mono ?_
  rintro e w1 ⟨B, k, rfl, hk1, hk2, hr, hkp⟩
  have HE := Lib.hid (encs_may xk_all)
  have hpos : 0 < (encs [xk, xk]).length := by rw [HE.out]; exact bytesOf_pos (by simp)
  have hlen := encs_len [xk, xk]
  have hsl : [xk, xk].length = 2 := rfl
  rw [hsl] at hlen
  have HK1 := Lib.hid (hk0.trans hkp)
  have hx : ∀ W, Keeps (fun _ => True) ((w.alloc (.cells #[.string ⟨#[107]⟩, .string ⟨#[118]⟩, .int .i64 9, .bool false] 23)).alloc (.cells xkV 23)) W →
      W.cell? ⟨w.heap.size, 0, none⟩ = some (.string ⟨#[107]⟩) ∧ W.cell? ⟨w.heap.size, 1, none⟩ = some (.string ⟨#[118]⟩) ∧ W.cell? ⟨w.heap.size, 2, none⟩ = some (.int .i64 9) ∧ W.cell? ⟨w.heap.size, 3, none⟩ = some (.bool false) := fun W h => by
    have b0 := heap_alloc_new w (.cells #[.string ⟨#[107]⟩, .string ⟨#[118]⟩, .int .i64 9, .bool false] 23)
    have h1 := (Keeps.refl (fun _ => True) (w.alloc (.cells #[.string ⟨#[107]⟩, .string ⟨#[118]⟩, .int .i64 9, .bool false] 23))).alloc (.cells xkV 23)
    exact ⟨h.cell (h1.cell ((cell_of_block b0 0).trans rfl) trivial) trivial, h.cell (h1.cell ((cell_of_block b0 1).trans rfl) trivial) trivial, h.cell (h1.cell ((cell_of_block b0 2).trans rfl) trivial) trivial, h.cell (h1.cell ((cell_of_block b0 3).trans rfl) trivial) trivial⟩
  have HX := Lib.hid (fun W (h : Keeps (fun _ => True) w1 W) => hx W (hkp.trans h))
  have HR := Lib.hid hr
  clear he hkp hr hx hk0
  generalize hn : (encs [xk, xk]).length = n at hpos hlen hk1
  have HN := Lib.hid hn
  clear hn
  go_wp2_with fail
  have hd := S.decode w1 B k (encs [xk, xk]) (S.tk HT.out HK1.out) (HR.out.mono fun _ _ _ => trivial) (by have := HN.out; omega) hk2 (by have := HN.out; omega)
  rw [HN.out] at hd
  refine (show Calls _ _ _ _ _ from hd).mono ?_
  rintro e w2 ⟨hkp2, hcase⟩
  clear hd
  have hcase' : ∃ B k, e = .returned (.tuple #[.slice B 2 k, .int .i64 0]) ∧ 2 ≤ k ∧ k ≤ maxLen ∧ ItsAt w2 B (fun b => w1.heap.size ≤ b ∧ b < w2.heap.size) [xk, xk] := by
    rcases hcase with ⟨B, k, l, rfl, hne, hall, hb, h1, h2, h3⟩ | ⟨hno, -⟩
    · rw [HE.out] at hb
      have := bytesOf_inj hall xk_all hb
      subst this
      exact ⟨B, k, rfl, h1, h2, h3⟩
    · exact absurd HE.out.symm (hno [xk, xk] (by simp) xk_all)
  obtain ⟨B2, k2, rfl, hk3, hk4, hit⟩ := hcase'
  obtain ⟨b, o, rfl, -, -, -, d2, -⟩ := hit 1 (by decide)
  have d2' : w2.cell? ⟨b, o + 4 + 2, none⟩ = some (.int .i64 9) := by
    have h : w2.cell? ⟨b, o + 1 * 4 + 2, none⟩ = some (.int .i64 9) := d2
    simpa using h
  have HC := Lib.hid (fun W (h : Keeps (fun _ => True) w2 W) => And.intro (h.cell d2' trivial) (HX.out W (hkp2.trans h)))
  have HK2 := Lib.hid (HK1.out.trans hkp2)
  unfold maxLen at hk4
  clear hcase hit d2 d2' hkp2 HX
  obtain ⟨c9, c0, c1, c2, c3⟩ := HC.out w2 (Keeps.refl _ _)
  go_wp2_with fail
  refine (show Calls _ _ _ _ _ from S.may w2 xk (S.tk HT.out HK2.out) xk_fits).mono ?_
  rintro e w3 ⟨rfl, hk5⟩
  rw [xk_may]
  have HK3 := Lib.hid hk5
  clear hk5 c9 c0 c1 c2 c3
  obtain ⟨c9, c0, c1, c2, c3⟩ := HC.out w3 HK3.out
  go_wp2_with fail
  refine (show Calls _ _ _ _ _ from S.live w3 xk 8 (S.tk HT.out (HK2.out.trans HK3.out)) xk_fits (by decide) (by decide)).mono ?_
  rintro e w4 ⟨rfl, hk5⟩
  rw [show xk.live 8 = true from by decide]
  have HK4 := Lib.hid (HK3.out.trans hk5)
  clear hk5 c9 c0 c1 c2 c3
  obtain ⟨c9, c0, c1, c2, c3⟩ := HC.out w4 HK4.out
  go_wp2_with fail
  refine (show Calls _ _ _ _ _ from S.live w4 xk 9 (S.tk HT.out (HK2.out.trans HK4.out)) xk_fits (by decide) (by decide)).mono ?_
  rintro e w5 ⟨rfl, hk5⟩
  rw [show xk.live 9 = false from by decide]
  have HK5 := Lib.hid (HK4.out.trans hk5)
  clear hk5 c9 c0 c1 c2 c3
  obtain ⟨c9, c0, c1, c2, c3⟩ := HC.out w5 HK5.out
  have t1 : decide ((0 : Int) < (n : Int)) = true := by simp; omega
  go_wp2_with fail
  have hz := S.size _ (some ⟨w5.heap.size, 0, none⟩) 2 [xk, xk] (S.tk HT.out ((HK2.out.trans HK5.out).alloc (.cells xkV 23))) (ItsAt.fresh w5 xkV 23 (0, 0) w5.heap.size rfl trivial [xk, xk] rfl) (Nat.le_refl _) (by decide) (by decide)
    (fun x hx => by simp at hx; subst hx; exact xk_fits)
  refine (show Calls _ _ _ _ _ from hz).mono ?_
  rintro e w6 ⟨rfl, hk6⟩
  have HK6 := Lib.hid (((HK2.out.trans HK5.out).alloc (.cells xkV 23)).trans hk6)
  rw [show ((sizes [xk, xk] : Nat) : Int) = 4 from by decide]
  clear hk6 hz c9 c0 c1 c2 c3
  go_wp2_with fail
  go_ret
  exact ⟨rfl, HK6.out⟩

end Go.Proofs.Ytgdbkmecfbkobaa
