/-
  StorePartsProof: texts of mine, joined.
-/
import Derived.Test.YticophaepapjoaaGreatDoorAllB37
import Derived.Test.YticophaepapjoaaGreatDoorAllB46
import Derived.Test.YticophaepapjoaaGreatDoorAllB31
import Derived.Test.YticophaepapjoaaGreatDoorAllB19
import Derived.Test.YticophaepapjoaaGreatDoorCards
import Derived.SevenTiedAt
namespace Go.Proofs.YticophaepapjoaaGreatDoor.storeParts
open Go Go.ChangeShapes Go.WideShapes Go.ChangeAt Go.RowKit
theorem walked (W : World) (x : It) (hx : x.came) (L : Option Addr) (lc : Nat) (l : List ByteArray) (a : l.length ≤ lc) (b : lc ≤ maxLen) (g : Row W L (fun b => b < W.heap.size) (l.map Value.string)) (f : ∀ s ∈ l, s.size ≤ maxLen) (hT : Taken W) :
  Calls Tryz.prog 4 #[.agg #[.string x.key, .string x.val, .int .i64 x.till, .bool x.gone], .slice L l.length lc] W fun e W' => e = .returned (.bool true) ∧ Below W.heap.size W W' := by
 exact walk theFlash theJournal W ⟨hT, trivial, trivial⟩ (jtaken hT) hT x hx L lc l a b g f
set_option maxRecDepth 100000 in
theorem lawWalk (H : Type) (enc : TypeId × Value → H) : LawWalk H enc Tryz.prog 4 Tryz.f4 (laidMetH Tryz.prog listed) := by
 intro W base args ds p hval hA hL
 rw [Tryz.params4] at hA hval
 obtain ⟨v0, vs0, d0, ds0, p0, q0, hargs, rfl, rfl, h0, r0⟩ := trodAll_cons hA
 obtain ⟨v1, vs1, d1, ds1, p1, q1, rfl, rfl, rfl, h1, r1⟩ := trodAll_cons r0
 obtain ⟨rfl, rfl, rfl⟩ := trodAll_nil r1
 obtain rfl : args = #[v0, v1] := by cases args; simp_all
 obtain ⟨x0, rfl, k0⟩ := open_item (hval 0 40 v0 rfl rfl) h0
 obtain ⟨A1, c1, l1, rfl, a1, b1, g1, f1⟩ := open_texts Tryz.underlying30 Tryz.underlying9 (by kernel_rfl) (hval 1 30 v1 rfl rfl) h1
 exact walked W x0 k0 A1 c1 l1 a1 b1 g1 f1 (taken_of hL)
set_option maxRecDepth 100000 in
theorem lifted (os : Os) (started : os.Started) (H : Type) (enc : TypeId × Value → H) :
  ReturnsInHanded {} Tryz.checked os 4 .any (fun w args => (Rows.storePartsSpec.pre enc Tryz.prog Tryz.f4 [] false w args ∧ laidMetH Tryz.prog listed w) ∧ sizedMet enc Tryz.prog Tryz.f4 (OpenSpec.ofChange Rows.storePartsSpec) false w args)
   (Rows.storePartsSpec.post enc Tryz.prog Tryz.f4 false true false false) :=
 law_laid (C := Tryz.checked) (X := laidMetH Tryz.prog listed) (tb := 4) (fun _ _ hh h => h.of_heap hh) own started (by kernel_rfl) Tryz.func4
  (ChangeSpec.witness_shaped (enc := enc) (C := Tryz.checked) (os := os) (X := fun w _ => laidMetH Tryz.prog listed w) false (World.doorLaid Tryz.prog 400 os) #[.agg #[.string ⟨#[]⟩, .string ⟨#[]⟩, .int .i64 0, .bool false], .slice none 0 0] 8 rfl (World.shaped_of_RefB (by kernel_rfl) (by kernel_rfl)) (by kernel_rfl) (by kernel_rfl) (by kernel_rfl) (door_met os _))
  laidOut (by kernel_rfl) (by kernel_rfl) Tryz.underlying4 rfl (fun ds h => by match ds, h with | [_, _], _ => rfl) (lawWalk H enc)
set_option maxRecDepth 100000 in
theorem over : Rows.storePartsRow.holds Tryz.pinned (OpenSpec.ofChange Rows.storePartsSpec) :=
 OpenClaim.holds_of_wide 4 Tryz.f4 rfl rfl rfl rfl rfl rfl rfl ⟨rfl, rfl, rfl, rfl, rfl⟩ rfl rfl rfl rfl rfl (by kernel_rfl) Tryz.func4 (by kernel_rfl)
  (of_decide_eq_true (by kernel_rfl)) (by unfold Func.isWrapper; first | (rw [if_pos (by decide +kernel)]; kernel_rfl) | (rw [if_neg (by decide +kernel)]; exact ⟨rfl, rfl⟩))
  (fun os started H enc _ => lifted os started H enc)
theorem proved : Rows.StorePartsCardSaid :=
 Claim7.holds_tied_plain_at .later [] Rows.storePartsCard.laidKinds true (true, Rows.storePartsCard.stood.harness.2) false
  over (fun _ h => by cases h) (by kernel_rfl) (fun _ h => by cases h) storeParts_row_tie rfl ⟨rfl, rfl⟩ (by kernel_rfl) rfl
  (fun f fn hf hfn => by
   obtain rfl : f = 4 := Option.some.inj ((show Tryz.prog.funcNamed "icehouse/icehouselaw21.StoreParts" = some 4 by kernel_rfl).symm.trans hf) |>.symm
   obtain rfl : fn = Tryz.f4 := (Option.some.inj (Tryz.func4.symm.trans hfn)).symm
   exact ⟨by kernel_rfl, fun j t ht => by
    rw [Tryz.params4] at ht
    have hm : t ∈ [40, 30] := by simpa using Array.mem_of_getElem? ht
    have hall : ([40, 30].all fun u => !Tryz.prog.wantsStandIn u) = true := by kernel_rfl
    exact (show Tryz.prog.wantsStandIn t = false by simpa using List.all_eq_true.1 hall t hm)⟩)
  (by kernel_rfl)
#print axioms proved
end Go.Proofs.YticophaepapjoaaGreatDoor.storeParts
