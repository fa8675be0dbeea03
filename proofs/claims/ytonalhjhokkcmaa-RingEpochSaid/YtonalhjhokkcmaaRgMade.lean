/-
  THE LANDED RINGS KEEP THE FACE of layer 14; what the frames of its laws ask of the program besides.
-/
import Derived.Test.YtonalhjhokkcmaaRgRep
import Derived.Test.YtonalhjhokkcmaaRgOwner
import Derived.OpenShut
namespace Go.Proofs.Ytonalhjhokkcmaa
open Go Go.RowKit Go.Joins Go.ChangeShapes Go.WideShapes Go.ChangeAt

theorem mof_one (w : World) (s : ByteArray) (hs : s.size ≤ maxLen) : Calls Try.prog 31 #[.slice (some ⟨w.heap.size, 0, none⟩) 1 1] (w.alloc (.cells #[.string s] 9)) fun e w' => e = .returned (.int .u64 (partsZ [s])) ∧ Kp w w' :=
  (of_any [s] w.heap.size 0 1 (w.alloc (.cells #[.string s] 9)) (show 1 ≤ maxLen by decide) (fun x hx => by rw [List.mem_singleton.1 hx]; exact hs) (fun i hi => by
    obtain rfl : i = 0 := by simpa using hi
    have h := cell_of_block (heap_alloc_new w (.cells #[.string s] 9)) 0
    exact h.trans rfl)).mono fun e w' ⟨h1, h2⟩ => ⟨h1, by rw [← h2]; exact (Keeps.refl _ w).alloc _⟩
set_option maxRecDepth 100000 in
set_option maxHeartbeats 1000000 in
/-- The key's hash first, then its owner, whatever that is of this ring. -/
theorem rof_by (w : World) (p : Value) (s : ByteArray) (hs : s.size ≤ maxLen) (z : Int) (h : ∀ w1, Kp w w1 → Calls Try.prog 19 #[p, .int .u64 (partsZ [s])] w1 fun x w' => x = .returned (.int .i64 z) ∧ Kp w1 w') :
    Calls Try.prog 21 #[p, .string s] w fun x w' => x = .returned (.int .i64 z) ∧ Kp w w' := by
  have HM := Lib.hid (mof_one w s hs)
  have HO := Lib.hid h
  clear h
  go_enter Try.func21, Try.ntmps21
  go_wp2_with fail
  refine (show Calls _ _ _ _ _ from HM.out).mono ?_
  rintro x w1 ⟨rfl, hk⟩
  have HK := Lib.hid hk
  clear hk HM
  go_wp2_with fail
  refine (show Calls _ _ _ _ _ from HO.out w1 HK.out).mono ?_
  rintro x w2 ⟨rfl, hk⟩
  have HK2 := Lib.hid (HK.out.trans hk)
  clear hk HO HK
  go_wp2_with fail
  go_ret
  exact ⟨rfl, HK2.out⟩

theorem kp_of_eq {w w' : World} (h : w = w') : Kp w w' := by rw [h]; exact Keeps.refl _ _
def theRing : RingOK where
  T := fun _ => True
  tk := fun _ _ => trivial
  At := RgAt
  atIn := fun h => ⟨h.2.1, h.2.2.1⟩
  atMay := fun h => h.1
  atKeep := fun h hk hW => rgAt_keep h hk hW
  new := fun W w A c l e _ hk hr hl hc hm => by
    refine (rnew_yes w A c l e hr hl hc hm).mono ?_
    rintro x w' ⟨r, B, cb, D, cd, rfl, h1, h2, h3, h4⟩
    exact ⟨r, _, rfl, ⟨hm, hk.trans h4, fun b hb => ⟨Nat.le_trans hk.size hb.1, hb.2⟩, ⟨h2, h3⟩, B, cb, D, cd, h1⟩, fun b hb => hb.1, h4⟩
  newNo := fun _ w A c l e _ _ hr hl hc hm => rnew_no w A c l e hr hl hc hm
  epoch := fun _ w r _ e _ _ h => by
    obtain ⟨-, -, -, -, A, c, B, cb, h5⟩ := h
    exact (repoch_any w r e h5.e0).mono fun _ _ ⟨h1, h2⟩ => ⟨h1, kp_of_eq h2⟩
  nodes := fun _ w r F e l _ h => by
    obtain ⟨h1, -, -, -, A, c, B, cb, h5⟩ := h
    exact rnodes_any w r F e l A c B cb h5 (nodes_five (ring_nodes h1))
  owner := fun _ w r F e l h _ hat _ _ => by
    obtain ⟨h1, -, -, -, A, c, B, cb, h5⟩ := hat
    exact mowner_any w r F e l A c B cb h h5 (ring_nodes h1)
  of := fun W w r F e l s _ hat hs => rof_by w _ s (Nat.le_trans hs (by decide)) _ fun w1 hk => by
    obtain ⟨h1, -, -, h4, A, c, B, cb, h5⟩ := hat
    exact mowner_any w1 r F e l A c B cb (partsZ [s]) (h5.keep h4 (hk.mono fun _ _ _ => trivial)) (ring_nodes h1)
  has := fun _ w r F e l n _ h => by
    obtain ⟨h1, -, -, -, A, c, B, cb, h5⟩ := h
    exact (rhas_any w r F e l A c B cb n h5 (nodes_five (ring_nodes h1))).mono fun _ _ ⟨h1, h2⟩ => ⟨h1, kp_of_eq h2⟩
  epochNil := fun w => (repoch_nil w).mono fun _ _ ⟨h1, h2⟩ => ⟨h1, kp_of_eq h2⟩
  nodesNil := fun w => (rnodes_nil w).mono fun _ _ ⟨h1, h2⟩ => ⟨⟨none, 0, h1⟩, kp_of_eq h2⟩
  ownerNil := fun w h => mowner_nil w h
  ofNil := fun w s hs => rof_by w _ s (Nat.le_trans hs (by decide)) 0 fun w1 _ => mowner_nil w1 _
  hasNil := fun w n => (rhas_nil w n).mono fun _ _ ⟨h1, h2⟩ => ⟨h1, kp_of_eq h2⟩
set_option maxRecDepth 100000 in
theorem own : ownKnob Try.prog.godebug = none := by kernel_rfl
set_option maxRecDepth 100000 in
theorem laidOut : laidOutB Try.prog = true := by kernel_rfl

end Go.Proofs.Ytonalhjhokkcmaa
