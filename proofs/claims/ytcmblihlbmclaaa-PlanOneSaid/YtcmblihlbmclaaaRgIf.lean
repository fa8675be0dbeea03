/-
  WHAT THE PROGRAM's RINGS ANSWER (the face of layer 14), however they find an owner.
-/
import Derived.Test.YtcmblihlbmclaaaRgMath
import Derived.Test.YtcmblihlbmclaaaRowZ
namespace Go.Proofs.Ytcmblihlbmclaaa
open Go Go.RowKit Go.Joins

/-- Which rings may be. -/
def ringB (e : Int) (l : List Int) : Bool := decide (1 ≤ e) && (decide (e ≤ 1099511627776) && nodesB l)
theorem ring_nodes {e : Int} {l : List Int} (h : ringB e l = true) : nodesB l = true := by
  unfold ringB at h
  simp only [Bool.and_eq_true] at h
  exact h.2.2
theorem ringB_of {e : Int} {l : List Int} (h1 : 1 ≤ e) (h2 : e ≤ 1099511627776) (h3 : nodesB l = true) : ringB e l = true := by
  unfold ringB; rw [decide_eq_true h1, decide_eq_true h2, h3]; rfl
structure RingOK where
  T : World → Prop
  tk : ∀ {w w' : World}, T w → Kp w w' → T w'
  At : World → World → Nat → (Nat → Prop) → Int → List Int → Prop
  atIn : ∀ {W w r F e l}, At W w r F e l → Kp W w ∧ ∀ b, F b → W.heap.size ≤ b ∧ b < w.heap.size
  atMay : ∀ {W w r F e l}, At W w r F e l → ringB e l = true
  atKeep : ∀ {W w w' r F e l}, At W w r F e l → Keeps F w w' → Kp W w' → At W w' r F e l
  new : ∀ (W w : World) (A : Option Addr) (c : Nat) (l : List Int) (e : Int), T W → Kp W w → Row w A (fun _ => True) (l.map (Value.int .i64)) → l.length ≤ c → c ≤ maxLen → ringB e l = true →
    Calls Try.prog 12 #[.int .i64 e, .slice A l.length c] w fun x w' => ∃ r F, x = .returned (.pointer (some ⟨r, 0, none⟩)) ∧ At W w' r F e l ∧ (∀ b, F b → w.heap.size ≤ b) ∧ Kp w w'
  newNo : ∀ (W w : World) (A : Option Addr) (c : Nat) (l : List Int) (e : Int), T W → Kp W w → Row w A (fun _ => True) (l.map (Value.int .i64)) → l.length ≤ c → c ≤ maxLen → ringB e l = false →
    Calls Try.prog 12 #[.int .i64 e, .slice A l.length c] w fun x w' => x = .returned (.pointer none) ∧ Kp w w'
  nodes : ∀ (W w : World) (r : Nat) (F : Nat → Prop) (e : Int) (l : List Int), T W → At W w r F e l →
    Calls Try.prog 31 #[.pointer (some ⟨r, 0, none⟩)] w fun x w' => ∃ B cb, x = .returned (.slice B l.length cb) ∧ Row w' B (fun b => w.heap.size ≤ b) (l.map (Value.int .i64)) ∧ Mine w' .i64 B l.length ∧ l.length ≤ cb ∧ cb ≤ maxLen ∧ Kp w w'
  owner : ∀ (W w : World) (r : Nat) (F : Nat → Prop) (e : Int) (l : List Int) (h : Int), T W → At W w r F e l → 0 ≤ h → h < 18446744073709551616 →
    Calls Try.prog 21 #[.pointer (some ⟨r, 0, none⟩), .int .u64 h] w fun x w' => x = .returned (.int .i64 (ownerL l h)) ∧ Kp w w'
  nodesNil : ∀ w : World, Calls Try.prog 31 #[.pointer none] w fun x w' => (∃ B cb, x = .returned (.slice B 0 cb)) ∧ Kp w w'
  ownerNil : ∀ (w : World) (h : Int), Calls Try.prog 21 #[.pointer none, .int .u64 h] w fun x w' => x = .returned (.int .i64 0) ∧ Kp w w'

section
variable {S : RingOK} {W w w' : World} {r : Nat} {F : Nat → Prop} {e : Int} {l : List Int}
theorem RingOK.atK (S : RingOK) (h : S.At W w r F e l) (hk : Kp w w') : S.At W w' r F e l := S.atKeep h (hk.mono fun _ _ _ => trivial) ((S.atIn h).1.trans hk)
end

/-! ### Owners -/
theorem find_mem {l : List Int} {h : Int} {x : P2} (hx : ownO l h = some x) : x ∈ pts l := by
  unfold ownO at hx
  cases hf : (pts l).find? fun x => decide (h ≤ x.place) with
  | none => rw [hf] at hx; exact List.mem_of_mem_head? (show x ∈ (pts l).head? from hx)
  | some y => rw [hf] at hx; cases hx; exact List.mem_of_find?_eq_some hf
theorem own_some {l : List Int} (hn : nodesB l = true) (h : Int) : ∃ x, ownO l h = some x := by
  have hl := pts_len l
  have h0 := (nodesB_iff.1 hn).1
  unfold ownO
  cases hf : (pts l).find? fun x => decide (h ≤ x.place) with
  | some y => exact ⟨y, rfl⟩
  | none =>
    cases hp : pts l with
    | nil => rw [hp] at hl; simp at hl; omega
    | cons y L => exact ⟨y, rfl⟩
theorem owner_mem {l : List Int} (hn : nodesB l = true) (h : Int) : ownerL l h ∈ l := by
  obtain ⟨x, hx⟩ := own_some hn h
  obtain ⟨n, h1, h2⟩ := pts_mem.1 (find_mem hx)
  unfold ownerL
  rw [hn, hx, if_pos rfl]
  show x.node ∈ l
  rw [ptsOf_node h2]
  exact h1
theorem owner_has {l : List Int} (hn : nodesB l = true) (h : Int) : hasN l (ownerL l h) = true := List.any_eq_true.2 ⟨_, owner_mem hn h, by simp⟩
theorem owner_one {n : Int} (hn : nodesB [n] = true) (h : Int) : ownerL [n] h = n := by simpa using owner_mem hn h
/-- One more node takes, and gives none from one of the others to another. -/
theorem owner_join {l m : List Int} {n : Int} (hl : nodesB l = true) (hm : nodesB m = true) (hsub : ∀ x, x ∈ m ↔ x ∈ l ∨ x = n) (h : Int) : ownerL m h = ownerL l h ∨ ownerL m h = n := by
  obtain ⟨x, hx⟩ := own_some hm h
  obtain ⟨k, h1, h2⟩ := pts_mem.1 (find_mem hx)
  by_cases hk : k = n
  · refine .inr ?_
    unfold ownerL
    rw [hm, hx, if_pos rfl]
    show x.node = n
    rw [ptsOf_node h2, hk]
  · refine .inl ?_
    have hkl : k ∈ l := ((hsub k).1 h1).resolve_right hk
    have hxl : x ∈ pts l := pts_mem.2 ⟨k, hkl, h2⟩
    have hup : ∀ y ∈ pts l, y ∈ pts m := fun y hy => by
      obtain ⟨j, h3, h4⟩ := pts_mem.1 hy
      exact pts_mem.2 ⟨j, (hsub j).2 (.inl h3), h4⟩
    have hax := sort_asc (l.flatMap ptsOf)
    have hle : ∀ y ∈ pts m, (decide (h ≤ x.place) = true → decide (h ≤ y.place) = true → lessB y x = false) ∧ (decide (h ≤ x.place) = false → lessB y x = false ∧ decide (h ≤ y.place) = false) := by
      intro y hy
      unfold ownO at hx
      have ham : Asc (pts m) := sort_asc _
      cases hf : (pts m).find? fun x => decide (h ≤ x.place) with
      | some z =>
        rw [hf] at hx
        cases hx
        obtain ⟨hz, ys, zs, hsp, has⟩ := List.find?_eq_some_iff_append.1 hf
        refine ⟨fun _ hyd => ?_, fun hd => by rw [hd] at hz; cases hz⟩
        rw [hsp] at hy ham
        rcases List.mem_append.1 hy with hya | hyb
        · have := has y hya
          simp [hyd] at this
        · rcases List.mem_cons.1 hyb with rfl | hyb
          · exact less_irr _
          · exact (List.pairwise_cons.1 (List.pairwise_append.1 ham).2.1).1 y hyb
      | none =>
        rw [hf] at hx
        have hno := List.find?_eq_none.1 hf
        have hmx : x ∈ pts m := List.mem_of_mem_head? (show x ∈ (pts m).head? from hx)
        refine ⟨fun hd => absurd hd (by simpa using hno x hmx), fun _ => ⟨?_, by simpa using hno y hy⟩⟩
        cases hp : pts m with
        | nil => rw [hp] at hx; cases hx
        | cons z L =>
          rw [hp] at hx hy ham
          cases hx
          rcases List.mem_cons.1 hy with rfl | hy
          · exact less_irr _
          · exact (List.pairwise_cons.1 ham).1 y hy
    have hown : ownO l h = some x := by
      obtain ⟨z, hz⟩ := own_some hl h
      have hzl := find_mem hz
      have hzx := hle z (hup z hzl)
      unfold ownO at hz ⊢
      have hal : Asc (pts l) := sort_asc _
      cases hf : (pts l).find? fun x => decide (h ≤ x.place) with
      | some y =>
        rw [hf] at hz
        cases hz
        obtain ⟨hyd, ys, zs, hsp, has⟩ := List.find?_eq_some_iff_append.1 hf
        cases hd : decide (h ≤ x.place) with
        | false => rw [(hzx.2 hd).2] at hyd; cases hyd
        | true =>
          have h3 := hzx.1 hd hyd
          have h4 : lessB x z = false := by
            rw [hsp] at hxl hal
            rcases List.mem_append.1 hxl with hxa | hxb
            · have := has x hxa
              simp [hd] at this
            · rcases List.mem_cons.1 hxb with e | hxb
              · rw [e]; exact less_irr _
              · exact (List.pairwise_cons.1 (List.pairwise_append.1 hal).2.1).1 x hxb
          rw [less_both h4 h3]
      | none =>
        rw [hf] at hz
        have hno := List.find?_eq_none.1 hf
        have hd : decide (h ≤ x.place) = false := by simpa using hno x hxl
        have h3 := (hzx.2 hd).1
        have h4 : lessB x z = false := by
          cases hp : pts l with
          | nil => rw [hp] at hz; cases hz
          | cons y L =>
            rw [hp] at hz hxl hal
            cases hz
            rcases List.mem_cons.1 hxl with e | hxl
            · rw [e]; exact less_irr _
            · exact (List.pairwise_cons.1 hal).1 x hxl
        rw [less_both h4 h3]
        exact hz
    unfold ownerL
    rw [hl, hm, hx, hown]

end Go.Proofs.Ytcmblihlbmclaaa
