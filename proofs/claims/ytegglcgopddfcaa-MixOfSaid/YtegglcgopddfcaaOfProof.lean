/-
  For every slice of texts (nil, too; whatever lies behind its length): MixOf answers true (Of of its first six texts, each cut to 60 bytes, is what the document says).
  Conditions: none.
-/
import Derived.Test.YtegglcgopddfcaaTexts
import Derived.WalkKit
import Derived.ProofKit
import Derived.OpenShut
import Derived.SizedLaws
namespace Go.Proofs.Ytegglcgopddfcaa.mixOf
open Go.ChangeShapes Go.WideShapes Go.ChangeAt Go.RowKit

theorem own : ownKnob Try.prog.godebug = none := by kernel_rfl
theorem cells9 : Try.prog.cellsOf 9 = 1 := by kernel_rfl
theorem laidOut : laidOutB Try.prog = true := by kernel_rfl

theorem walk (p : Value) (w : World) (hT : ∀ w1, Adds w w1 → Calls Try.prog 8 #[p, .int .i64 6, .int .i64 60] w1 fun e w' => ∃ v ts, e = .returned v ∧ OwnTexts w' v ts ∧ Below w1.heap.size w1 w') :
    Calls Try.prog 3 #[p] w fun e w' => e = .returned (.bool true) ∧ Below w.heap.size w w' := by
  go_enter Try.func3, Try.ntmps3
  go_wp2_with (first
    | (go_at_call 7; ((with_reducible refine (begun_any _).mono ?_); rintro e w1 ⟨rfl, hw1⟩))
    | (go_at_call 8; ((with_reducible refine (hT _ hw1).mono ?_); rintro e w2 ⟨v, ts, rfl, hts, hw2⟩))
    | (go_at_call 9; ((with_reducible refine (of_own v ts _ hts).mono ?_); rintro e w' ⟨rfl, rfl⟩))
    | (go_at_call 10; ((with_reducible refine (rof_own v ts _ hts).mono ?_); rintro e w' ⟨rfl, rfl⟩)))
  go_ret
  exact ⟨rfl, hw1.2.trans (hw2.mono hw1.2.size)⟩

set_option maxRecDepth 100000 in
theorem lifted (os : Os) (started : os.Started) (H : Type) (enc : TypeId × Value → H) :
    ReturnsInHanded {} Try.checked os 3 .any (Rows.mixOfSpec.pre6 enc Try.prog Try.f3 Rows.mixOfRow.domain false) (Rows.mixOfSpec.post enc Try.prog Try.f3 false true false false) := by
  refine returnsInHanded_of_change (C := Try.checked) own started (by kernel_rfl) Try.func3
    (ChangeSpec.witness6 (enc := enc) (C := Try.checked) false ⟨#[], #[.slice none 0 0], []⟩ 8 (by kernel_rfl) (by kernel_rfl) (by kernel_rfl) (by kernel_rfl)) ?_
  intro W base args ds gs before hval0 hW hcnd _
  have hval : ∀ (j : Nat) t v, Try.f3.params[j]? = some t → args[j]? = some v → Value.okWide Try.prog W .any base t v := hval0
  have hW' := hW
  obtain ⟨p, q, hA0, hV, rfl, hfz, hnd⟩ := hW
  have hA : DataW.TrodAll enc Try.prog W 0 (fun _ => true) true Try.f3.params.toList args.toList ds p := hA0
  rw [Try.params3] at hA hval
  obtain ⟨v0, d0, rfl, rfl, h0⟩ := trodAll_one hA
  obtain ⟨rfl, rfl⟩ := trodVars_none hV
  obtain ⟨a0, len, cap, rfl⟩ := okWide_slice Try.underlying22 (hval 0 22 v0 rfl rfl)
  have h0k := h0
  obtain ⟨fuel, hf⟩ := h0
  clear hA0 hval0
  simp only [List.append_nil] at hW'
  have hlt : ∀ x ∈ p, x.block < W.heap.size := fun x hx => by simpa using hW'.lt x hx
  have fin : (∀ w1, Adds W w1 → Calls Try.prog 8 #[.slice a0 len cap, .int .i64 6, .int .i64 60] w1 fun e w' => ∃ v ts, e = .returned v ∧ OwnTexts w' v ts ∧ Below w1.heap.size w1 w') →
      Calls Try.checked.prog 3 #[.slice a0 len cap] W fun e W' => ∃ v, e = Ending.returned v ∧ Rows.mixOfSpec.post enc Try.checked.prog Try.f3 false true false false W #[.slice a0 len cap] v W' := by
    intro hT
    refine (walk (.slice a0 len cap) W hT).mono fun e W' ⟨he, hg⟩ => ?_
    subst he
    refine ⟨_, rfl, _, _, _, [] ++ [], p, [], hW', ?_, ?_, rfl, hg.frame _, fun h => by cases h⟩
    · exact trodAll_mk1 (shut_bool Try.underlying4 true)
    · exact trodAll_mk1 (Below.trod laidOut (by kernel_rfl) (of_decide_eq_true (by kernel_rfl)) h0k hg hlt)
  rcases open_strings Try.underlying22 Try.underlying9 cells9 hf with ⟨hcs, hx⟩ | ⟨a, len', cap', ss, hcs, _, hl, hm, hz, hx, hcell, hws⟩
  · simp [Value.cells] at hcs
    obtain ⟨rfl, rfl, rfl⟩ := hcs
    exact fin fun w1 _ => texts_none none 0 w1
  · simp [Value.cells] at hcs
    obtain ⟨rfl, rfl, rfl⟩ := hcs
    simp only [Prod.mk.injEq] at hx
    obtain ⟨rfl, rfl⟩ := hx
    simp only [if_true] at hz
    by_cases hl0 : len = 0
    · subst hl0
      exact fin fun w1 _ => texts_none _ _ w1
    · obtain ⟨b, off, spot⟩ := a
      have hspot : spot = none := by simpa [Addr.add] using World.cell?_spot (hcell 0 (by omega))
      subst hspot
      have hbW : b < W.heap.size := hlt (.cell b off) (MemPlace.mem_row.2 ⟨0, by omega, by simp⟩)
      have hlen : (ss.take len).length = len := by simp; omega
      refine fin fun w1 hw1 => ?_
      have ht := texts_own (ss.take len) b off cap w1 (by rw [hlen]; omega) (fun s hs => hws s (List.mem_of_mem_take hs)) (Nat.lt_of_lt_of_le hbW hw1.2.size) (fun i hi => by
        rw [hlen] at hi
        have hc := hcell i (by omega)
        rw [add_plain] at hc
        rw [getD_at _ i (by rw [hlen]; exact hi), List.getElem_take, ← getD_at ss i (by omega)]
        exact hw1.cell hc)
      rw [hlen] at ht
      exact ht

theorem over : Rows.mixOfRow.holds Try.pinned (OpenSpec.ofChange Rows.mixOfSpec) :=
  OpenClaim.holds_of_wide 3 Try.f3 rfl rfl rfl rfl rfl rfl rfl ⟨rfl, rfl, rfl, rfl, rfl⟩ rfl rfl rfl rfl rfl (by kernel_rfl) Try.func3 (by kernel_rfl)
    (of_decide_eq_true (by kernel_rfl)) (by unfold Func.isWrapper; first | (rw [if_pos (by decide +kernel)]; kernel_rfl) | (rw [if_neg (by decide +kernel)]; exact ⟨rfl, rfl⟩))
    (fun os started H enc _ => lifted os started H enc)

theorem proved : Rows.MixOfSaid := over
#print axioms proved
end Go.Proofs.Ytegglcgopddfcaa.mixOf
