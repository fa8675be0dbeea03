/-
  For every row of metas, opened anew or not behind each: what is saved is there, also behind a crash; what may not be, or falls, is refused: MetaAll answers true.
  Conditions: none (the table of half bytes is tied to the program's text by the card).
-/
import Derived.Test.YtmnjdlnjhomhnaaDoorMetaAllWalk
import Derived.Test.YtmnjdlnjhomhnaaDoorMtMade
import Derived.Test.YtmnjdlnjhomhnaaDoorAllLaid
import Derived.Test.YtmnjdlnjhomhnaaDoorMtOpen
import Derived.Test.YtmnjdlnjhomhnaaDoorCards
import Derived.SevenTiedAt
namespace Go.Proofs.YtmnjdlnjhomhnaaDoor.metaAll
open Go Go.ChangeShapes Go.WideShapes Go.ChangeAt Go.RowKit
theorem walked (W : World) (A : Option Addr) (c : Nat) (l : List M4) (a : l.length ≤ c) (b : c ≤ maxLen) (_ : A = none → c = 0) (g : metaAll.MsAt W A (fun b => b < W.heap.size) l) (f : ∀ x ∈ l, x.Fits) (K : Option Addr) (kc : Nat) (kl : List Bool) (ka : kl.length ≤ kc) (kb : kc ≤ maxLen) (_ : K = none → kc = 0) (hK : Row W K (fun b => b < W.heap.size) (kl.map Value.bool)) (hT : Taken W) :
    Calls Tryd.prog 3 #[.slice A l.length c, .slice K kl.length kc] W fun e W' => e = .returned (.bool true) ∧ Below W.heap.size W W' := by
  exact metaAll.walk theMeta W (mtaken hT) A c l a b g f K kc kl ka kb hK
set_option maxRecDepth 100000 in
theorem lawWalk (H : Type) (enc : TypeId × Value → H) : LawWalk H enc Tryd.prog 3 Tryd.f3 (laidMetH Tryd.prog listed) := by
  intro W base args ds p hval hA hL
  rw [Tryd.params3] at hA hval
  obtain ⟨v0, vs0, d0, ds0, p0, q0, hargs, rfl, rfl, h0, r0⟩ := trodAll_cons hA
  obtain ⟨v1, vs1, d1, ds1, p1, q1, rfl, rfl, rfl, h1, r1⟩ := trodAll_cons r0
  obtain ⟨rfl, rfl, rfl⟩ := trodAll_nil r1
  obtain rfl : args = #[v0, v1] := by cases args; simp_all
  obtain ⟨A0, c0, l0, rfl, a0, b0, e0, g0, f0⟩ := open_metas (hval 0 22 v0 rfl rfl) h0
  obtain ⟨A1, c1, l1, rfl, a1, b1, e1, g1⟩ := open_bools_whole Tryd.underlying23 Tryd.underlying4 (by kernel_rfl) (hval 1 23 v1 rfl rfl) h1
  exact walked W A0 c0 l0 a0 b0 e0 g0 f0 A1 c1 l1 a1 b1 e1 g1 (taken_of hL)
set_option maxRecDepth 100000 in
theorem lifted (os : Os) (started : os.Started) (H : Type) (enc : TypeId × Value → H) :
    ReturnsInHanded {} Tryd.checked os 3 .any (fun w args => (Rows.metaAllSpec.pre enc Tryd.prog Tryd.f3 [] false w args ∧ laidMetH Tryd.prog listed w) ∧ sizedMet enc Tryd.prog Tryd.f3 (OpenSpec.ofChange Rows.metaAllSpec) false w args)
      (Rows.metaAllSpec.post enc Tryd.prog Tryd.f3 false true false false) :=
  law_laid (C := Tryd.checked) (X := laidMetH Tryd.prog listed) (tb := 4) (fun _ _ hh h => h.of_heap hh) own started (by kernel_rfl) Tryd.func3
    (ChangeSpec.witness_shaped (enc := enc) (C := Tryd.checked) (os := os) (X := fun w _ => laidMetH Tryd.prog listed w) false (World.doorLaid Tryd.prog 400 os) #[.slice none 0 0, .slice none 0 0] 8 rfl (World.shaped_of_RefB (by kernel_rfl) (by kernel_rfl)) (by kernel_rfl) (by kernel_rfl) (by kernel_rfl) (door_met os _))
    laidOut (by kernel_rfl) (by kernel_rfl) Tryd.underlying4 rfl (fun ds h => by match ds, h with | [_, _], _ => rfl) (lawWalk H enc)
set_option maxRecDepth 100000 in
theorem over : Rows.metaAllRow.holds Tryd.pinned (OpenSpec.ofChange Rows.metaAllSpec) :=
  OpenClaim.holds_of_wide 3 Tryd.f3 rfl rfl rfl rfl rfl rfl rfl ⟨rfl, rfl, rfl, rfl, rfl⟩ rfl rfl rfl rfl rfl (by kernel_rfl) Tryd.func3 (by kernel_rfl)
    (of_decide_eq_true (by kernel_rfl)) (by unfold Func.isWrapper; first | (rw [if_pos (by decide +kernel)]; kernel_rfl) | (rw [if_neg (by decide +kernel)]; exact ⟨rfl, rfl⟩))
    (fun os started H enc _ => lifted os started H enc)
theorem proved : Rows.MetaAllCardSaid :=
  Claim7.holds_tied_plain_at .later [] Rows.metaAllCard.laidKinds true (true, Rows.metaAllCard.stood.harness.2) false
    over (fun _ h => by cases h) (by kernel_rfl) (fun _ h => by cases h) metaAll_row_tie rfl ⟨rfl, rfl⟩ (by kernel_rfl) rfl
    (fun f fn hf hfn => by
      obtain rfl : f = 3 := Option.some.inj ((show Tryd.prog.funcNamed "icehouse/icehouselaw12.MetaAll" = some 3 by kernel_rfl).symm.trans hf) |>.symm
      obtain rfl : fn = Tryd.f3 := (Option.some.inj (Tryd.func3.symm.trans hfn)).symm
      exact ⟨by kernel_rfl, fun j t ht => by
        rw [Tryd.params3] at ht
        have hm : t ∈ [22, 23] := by simpa using Array.mem_of_getElem? ht
        have hall : ([22, 23].all fun u => !Tryd.prog.wantsStandIn u) = true := by kernel_rfl
        exact (show Tryd.prog.wantsStandIn t = false by simpa using List.all_eq_true.1 hall t hm)⟩)
    (by kernel_rfl)
#print axioms proved
end Go.Proofs.YtmnjdlnjhomhnaaDoor.metaAll
