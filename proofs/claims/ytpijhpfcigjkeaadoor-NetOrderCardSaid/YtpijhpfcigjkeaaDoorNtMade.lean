/-
  THE LANDED NET KEEPS THE FACE of layer 20.
-/
import Derived.Test.YtpijhpfcigjkeaaDoorAllNt
namespace Go.Proofs.YtpijhpfcigjkeaaDoor
open Go Go.RowKit Go.Joins

/-- The landed net, in blocks of its own. -/
structure NtAt (W w : World) (n : Nat) (F : Nat → Prop) (l : List Ms) : Prop where
  kp : Kp W w
  inF : ∀ b, F b → W.heap.size ≤ b ∧ b < w.heap.size
  len : l.length ≤ 300
  st : ∃ v L, NtSt w n F v L ∧ L.map (·.1) = l
section
variable {W w w' : World} {n : Nat} {F : Nat → Prop} {l : List Ms}
theorem NtAt.past (h : NtAt W w n F l) (hk : Keeps (fun b => ¬ F b) w w') : Kp W w' :=
  ((h.kp.mono fun _ _ _ => trivial : Keeps (fun b => ¬ F b) W w).trans hk).mono fun b hb _ hF => by have := (h.inF b hF).1; omega
theorem NtAt.keep (h : NtAt W w n F l) (hk : Keeps F w w') (hp : Kp W w') : NtAt W w' n F l :=
  ⟨hp, fun b hb => ⟨(h.inF b hb).1, Nat.lt_of_lt_of_le (h.inF b hb).2 hk.size⟩, h.len, by obtain ⟨v, L, h1, h2⟩ := h.st; exact ⟨v, L, h1.keep hk, h2⟩⟩
/-- What is not there. -/
theorem NtAt.no (h : NtAt W w n F l) (i : Int) (hi : i < 0 ∨ (l.length : Int) ≤ i) : ∀ w2, Kp w w2 → Calls Tryd.prog 29 #[.pointer (some ⟨n, 0, none⟩), .int .i64 i] w2 fun e w' => e = .returned (.bool false) ∧ w' = w2 := fun w2 hk => by
  obtain ⟨v, L, hs, hl⟩ := h.st
  obtain ⟨A, c, rfl⟩ := hs.form
  refine nhas w2 n A c L.length i (hs.blk.keep hk trivial).cell false ?_
  rw [← hl, List.length_map] at hi
  rcases hi with h1 | h1
  · rw [decide_eq_false (show ¬ 0 ≤ i by omega)]; rfl
  · rw [decide_eq_false (show ¬ i < (L.length : Int) by omega), Bool.and_false]
end
noncomputable def theNet : NetOK where
  T := Taken
  tk := fun h hk => h.keep hk
  At := NtAt
  atIn := fun h => ⟨h.kp, h.inF⟩
  atKeep := fun h hk hp => h.keep hk hp
  atLen := fun h => h.len
  new := fun W w _ hk => (nnew w).mono fun _ _ ⟨h1, h2⟩ => by
    subst h2
    refine ⟨_, fun b => b = w.heap.size, h1, ⟨hk.alloc _, fun b hb => by subst hb; exact ⟨hk.size, by simp⟩, Nat.zero_le _, _, [], ⟨heap_alloc_new w _, World.ownsRow_nil _ _ _ _, rfl, fun b e => (by cases e), fun p hp => (by cases hp), fun p hp => (by cases hp), fun p hp => (by cases hp)⟩, rfl⟩, fun b hb => by subst hb; exact Nat.le_refl _, (Keeps.refl _ _).alloc _⟩
  send := fun W w n F l A c k G ps hT h hk hps hG h1 h2 h3 hf => by
    obtain ⟨v, L, hs, hl⟩ := h.st
    subst hl
    refine (nsend w n F v L A c k G ps (fun W' hk => hT.keep (h.past hk)) hs (fun b hb => (h.inF b hb).2) (by have := h.len; rwa [List.length_map] at this) hk hps hG h1 h2 h3 hf).mono ?_
    rintro e w' ⟨he, v', L', hs'⟩
    refine ⟨he, fun b => (F b ∨ w.heap.size ≤ b) ∧ b < w'.heap.size, ⟨h.past hs'.kp, fun b hb => ⟨?_, hb.2⟩, sent_le _ _ h.len, v', L', hs'.st.mono fun b hlt hb => ⟨hb, hlt⟩, hs'.is⟩, fun b hb => hb.1, hs'.kp⟩
    rcases hb.1 with h1 | h1
    · exact (h.inF b h1).1
    · have := h.kp.size; omega
  sendNil := fun w A c k _ _ => (nsend_nil w _).mono fun _ _ ⟨h1, h2⟩ => ⟨h1, h2 ▸ Keeps.refl _ _⟩
  len := fun W w n F l _ h => by
    obtain ⟨v, L, hs, hl⟩ := h.st
    obtain ⟨A, c, rfl⟩ := hs.form
    rw [← hl, List.length_map]
    exact (nlen w n A c L.length hs.blk.cell).mono fun _ _ ⟨h1, h2⟩ => ⟨h1, h2 ▸ Keeps.refl _ _⟩
  lenNil := fun w => (nlen_nil w).mono fun _ _ ⟨h1, h2⟩ => ⟨h1, h2 ▸ Keeps.refl _ _⟩
  look := fun W w n F l i hi hT h => by
    obtain ⟨v, L, hs, hl⟩ := h.st
    subst hl
    rw [List.getElem_map]
    exact nlook w (hT.keep h.kp) n F v L i (by rwa [List.length_map] at hi) hs
  lookNo := fun W w n F l i _ h hi => (nlook_not w _ i (h.no i hi)).mono fun _ _ ⟨h1, h2⟩ => ⟨⟨ms0, msA0, h1, rfl⟩, h2⟩
  lookNil := fun w i => (nlook_not w _ i fun W _ => nhas_nil W i).mono fun _ _ ⟨h1, h2⟩ => ⟨⟨ms0, msA0, h1, rfl⟩, h2⟩
  take := fun W w n F l i hi hT h => by
    obtain ⟨v, L, hs, hl⟩ := h.st
    subst hl
    have hi2 := hi
    rw [List.length_map] at hi2
    rw [List.getElem_map]
    refine (ntake w (hT.keep h.kp) n F v L i hi2 hs (fun b hb => (h.inF b hb).2)).mono ?_
    rintro e w' ⟨⟨a, he, hin⟩, ⟨v', hs'⟩, hk⟩
    refine ⟨⟨a, F, he, ⟨h.past hk, fun b hb => ⟨(h.inF b hb).1, Nat.lt_of_lt_of_le (h.inF b hb).2 hk.size⟩, ?_, v', _, hs', ?_⟩, fun b hb => .inl hb, hin.mono fun b hlt hb => ⟨fun hF => ?_, .inr hb.1, hlt⟩⟩, hk⟩
    · rw [List.length_eraseIdx_of_lt hi]
      have := h.len
      omega
    · exact (map_erase _ _ _).symm
    · have := (h.inF b hF).2
      have := hb.1
      omega
  takeNo := fun W w n F l i _ h hi => (ntake_not w _ i (h.no i hi)).mono fun _ _ ⟨h1, h2⟩ => ⟨⟨ms0, msA0, h1, rfl⟩, h2⟩
  takeNil := fun w i => (ntake_not w _ i fun W _ => nhas_nil W i).mono fun _ _ ⟨h1, h2⟩ => ⟨⟨ms0, msA0, h1, rfl⟩, h2⟩
  drop := fun W w n F l i hi hT h => by
    obtain ⟨v, L, hs, hl⟩ := h.st
    subst hl
    have hi2 := hi
    rw [List.length_map] at hi2
    refine (ndrop w n F v L i hi2 hs).mono ?_
    rintro e w' ⟨he, ⟨v', hs'⟩, hk⟩
    refine ⟨he, F, ⟨h.past hk, fun b hb => ⟨(h.inF b hb).1, Nat.lt_of_lt_of_le (h.inF b hb).2 hk.size⟩, ?_, v', _, hs', (map_erase _ _ _).symm⟩, fun b hb => .inl hb, hk⟩
    rw [List.length_eraseIdx_of_lt hi]
    have := h.len
    omega
  dropNo := fun W w n F l i _ h hi => (ndrop_not w _ i (h.no i hi w (Keeps.refl _ _))).mono fun _ _ ⟨h1, h2⟩ => ⟨h1, h2 ▸ Keeps.refl _ _⟩
  dropNil := fun w i => (ndrop_not w _ i (nhas_nil w i)).mono fun _ _ ⟨h1, h2⟩ => ⟨h1, h2 ▸ Keeps.refl _ _⟩
theorem ntaken {W : World} (h : Taken W) : theNet.T W := h

end Go.Proofs.YtpijhpfcigjkeaaDoor
