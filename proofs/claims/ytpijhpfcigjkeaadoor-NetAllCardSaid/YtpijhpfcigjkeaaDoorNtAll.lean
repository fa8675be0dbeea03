/-
  NetAll's OWN MEMORY (layer 20): the net, the law's own list of what is on its way, the messages of one sending, the operation: each in blocks of its own.
-/
import Derived.Test.YtpijhpfcigjkeaaDoorNtLocs
import Derived.Test.YtpijhpfcigjkeaaDoorOwnLe
namespace Go.Proofs.YtpijhpfcigjkeaaDoor
open Go Go.RowKit Go.Joins

/-- A block that neither the net nor one of the two rows uses. -/
def Safe (F : Nat → Prop) (v5 v9 : Value) (b : Nat) : Prop := ¬ F b ∧ v5.ownBlock ≠ some b ∧ v9.ownBlock ≠ some b
/-- The net (holding N), the law's own list L, the row M of messages. -/
structure NI (S : NetOK) (W w : World) (q : Nat) (N : List Ms) (L : List MP) (v5 : Value) (M : List MP) (v9 : Value) (F : Nat → Prop) : Prop where
  at_ : S.At W w q F N
  row5 : OwnLe w W.heap.size 36 21 v5 L.length (msRow L)
  row9 : OwnLe w W.heap.size 36 21 v9 M.length (msRow M)
  ap5 : ∀ b, v5.ownBlock = some b → ¬ F b
  ap9 : ∀ b, v9.ownBlock = some b → ¬ F b
  ap : ∀ b, v5.ownBlock = some b → v9.ownBlock ≠ some b
  lists : ∀ p ∈ L ++ M, MsIn w p.1 p.2 (Safe F v5 v9)
  fits : ∀ p ∈ L ++ M, p.1.Fits
/-- What other blocks may rely on. -/
structure Gone (w : World) (F : Nat → Prop) (v5 v9 : Value) (w' : World) (F' : Nat → Prop) (v5' v9' : Value) : Prop where
  keep : Keeps (Safe F v5 v9) w w'
  safe : ∀ b, b < w.heap.size → Safe F v5 v9 b → Safe F' v5' v9' b
section
variable {S : NetOK} {W w w' : World} {q : Nat} {N : List Ms} {L M : List MP} {v5 v9 v : Value} {F : Nat → Prop} {x : MP}
theorem NI.kp (h : NI S W w q N L v5 M v9 F) : Kp W w := (S.atIn h.at_).1
theorem NI.keep (h : NI S W w q N L v5 M v9 F) (hk : Kp w w') : NI S W w' q N L v5 M v9 F :=
  ⟨S.atK h.at_ hk, h.row5.keep hk fun _ _ => trivial, h.row9.keep hk fun _ _ => trivial, h.ap5, h.ap9, h.ap, fun p hp => (h.lists p hp).keep (hk.mono fun _ _ _ => trivial), h.fits⟩
theorem Gone.kp (hk : Kp w w') : Gone w F v5 v9 w' F v5 v9 := ⟨hk.mono fun _ _ _ => trivial, fun _ _ h => h⟩
theorem NI.start (h : S.At W w q F []) : NI S W w q [] [] (.slice none 0 0) [] (.slice none 0 0) F :=
  ⟨h, OwnLe.nil _ _ _ _, OwnLe.nil _ _ _ _, fun b hb => (by cases hb), fun b hb => (by cases hb), fun b hb => (by cases hb), fun p hp => absurd hp (by simp), fun p hp => absurd hp (by simp)⟩
/-- A block that is older than all of it, or newer. -/
theorem NI.fresh (h : NI S W w q N L v5 M v9 F) {b : Nat} (hb : b < W.heap.size ∨ w.heap.size ≤ b) : Safe F v5 v9 b := by
  refine ⟨fun hf => ?_, fun e => ?_, fun e => ?_⟩
  · have := (S.atIn h.at_).2 b hf; omega
  · have := h.row5.lt b e; omega
  · have := h.row9.lt b e; omega
/-- A new, empty row of messages. -/
theorem NI.clear (h : NI S W w q N L v5 M v9 F) : NI S W w q N L v5 [] (.slice none 0 0) F :=
  ⟨h.at_, h.row5, OwnLe.nil _ _ _ _, h.ap5, fun b hb => (by cases hb), fun b hb hc => (by cases hc), fun p hp => by
    rw [List.append_nil] at hp
    exact (h.lists p (List.mem_append_left _ hp)).mono fun b _ hb => ⟨hb.1, hb.2.1, fun hc => by cases hc⟩, fun p hp => h.fits p (by rw [List.append_nil] at hp; exact List.mem_append_left _ hp)⟩
/-- A message more in the row. -/
theorem NI.app9 (h : NI S W w q N L v5 M v9 F) (ho : OwnLe w' W.heap.size 36 21 v (M.length + 1) (msRow (M ++ [x]))) (hg : w.grownBy w' v9.ownBlock) (hb : v.ownBlock = v9.ownBlock ∨ v.ownBlock = some w.heap.size)
    (hx : MsIn w x.1 x.2 (Safe F v5 v9)) (hf : x.1.Fits) : NI S W w' q N L v5 (M ++ [x]) v F ∧ Gone w F v5 v9 w' F v5 v := by
  have hlt := (S.atIn h.at_).2
  have h9 := h.row9.lt
  have h5 := h.row5.lt
  have hks : Keeps (Safe F v5 v9) w w' := Keeps.of_grown hg fun b hb _ hs => hs.2.2 hb
  have hsafe : ∀ b, b < w.heap.size → Safe F v5 v9 b → Safe F v5 v b := fun b hl hs => ⟨hs.1, hs.2.1, fun e => by
    rcases hb with hb | hb
    · exact hs.2.2 (by rw [← hb]; exact e)
    · rw [hb] at e; injection e with e; omega⟩
  have hkw : Kp W w' := h.kp.grown hg fun b hb => (h9 b hb).1
  refine ⟨⟨S.atKeep h.at_ (Keeps.of_grown hg fun b hb _ hf => h.ap9 b hb hf) hkw, h.row5.keep (Keeps.of_grown (F := fun b => v9.ownBlock ≠ some b) hg fun b hb _ hf => hf hb) fun b hb => h.ap b hb, by rw [List.length_append]; exact ho, h.ap5, fun b e hf => ?_, fun b e e2 => ?_, fun p hp => ?_, fun p hp => ?_⟩, hks, hsafe⟩
  · rcases hb with hb | hb
    · exact h.ap9 b (by rw [← hb]; exact e) hf
    · rw [hb] at e; injection e with e; have := (hlt b hf).2; omega
  · rcases hb with hb | hb
    · exact h.ap b e (by rw [← hb]; exact e2)
    · rw [hb] at e2; injection e2 with e2; have := (h5 b e).2; omega
  · rw [← List.append_assoc] at hp
    rcases List.mem_append.1 hp with hp | hp
    · exact ((h.lists p hp).mono (H := fun b => b < w.heap.size ∧ Safe F v5 v9 b) fun b hl hs => ⟨hl, hs⟩).keep (hks.mono fun b _ hs => hs.2) |>.mono fun b _ hs => hsafe b hs.1 hs.2
    · rw [List.mem_singleton.1 hp]
      exact (hx.mono (H := fun b => b < w.heap.size ∧ Safe F v5 v9 b) fun b hl hs => ⟨hl, hs⟩).keep (hks.mono fun b _ hs => hs.2) |>.mono fun b _ hs => hsafe b hs.1 hs.2
  · rw [← List.append_assoc] at hp
    rcases List.mem_append.1 hp with hp | hp
    · exact h.fits p hp
    · rw [List.mem_singleton.1 hp]; exact hf
/-- A message more in the law's list. -/
theorem NI.app5 (h : NI S W w q N L v5 M v9 F) (ho : OwnLe w' W.heap.size 36 21 v (L.length + 1) (msRow (L ++ [x]))) (hg : w.grownBy w' v5.ownBlock) (hb : v.ownBlock = v5.ownBlock ∨ v.ownBlock = some w.heap.size)
    (hx : MsIn w x.1 x.2 (Safe F v5 v9)) (hf : x.1.Fits) : NI S W w' q N (L ++ [x]) v M v9 F ∧ Gone w F v5 v9 w' F v v9 := by
  have hlt := (S.atIn h.at_).2
  have h9 := h.row9.lt
  have h5 := h.row5.lt
  have hks : Keeps (Safe F v5 v9) w w' := Keeps.of_grown hg fun b hb _ hs => hs.2.1 hb
  have hsafe : ∀ b, b < w.heap.size → Safe F v5 v9 b → Safe F v v9 b := fun b hl hs => ⟨hs.1, fun e => by
    rcases hb with hb | hb
    · exact hs.2.1 (by rw [← hb]; exact e)
    · rw [hb] at e; injection e with e; omega, hs.2.2⟩
  have hkw : Kp W w' := h.kp.grown hg fun b hb => (h5 b hb).1
  have hlist : ∀ p : MP, MsIn w p.1 p.2 (Safe F v5 v9) → MsIn w' p.1 p.2 (Safe F v v9) := fun p hp => (hp.mono (H := fun b => b < w.heap.size ∧ Safe F v5 v9 b) fun b hl hs => ⟨hl, hs⟩).keep (hks.mono fun b _ hs => hs.2) |>.mono fun b _ hs => hsafe b hs.1 hs.2
  refine ⟨⟨S.atKeep h.at_ (Keeps.of_grown hg fun b hb _ hf => h.ap5 b hb hf) hkw, by rw [List.length_append]; exact ho, h.row9.keep (Keeps.of_grown (F := fun b => v5.ownBlock ≠ some b) hg fun b hb _ hf => hf hb) fun b hb e => h.ap b e hb, fun b e hf => ?_, h.ap9, fun b e e2 => ?_, fun p hp => ?_, fun p hp => ?_⟩, hks, hsafe⟩
  · rcases hb with hb | hb
    · exact h.ap5 b (by rw [← hb]; exact e) hf
    · rw [hb] at e; injection e with e; have := (hlt b hf).2; omega
  · rcases hb with hb | hb
    · exact h.ap b (by rw [← hb]; exact e) e2
    · rw [hb] at e; injection e with e; have := (h9 b e2).2; omega
  · rcases List.mem_append.1 hp with hp | hp
    · rcases List.mem_append.1 hp with hp | hp
      · exact hlist p (h.lists p (List.mem_append_left _ hp))
      · rw [List.mem_singleton.1 hp]; exact hlist x hx
    · exact hlist p (h.lists p (List.mem_append_right _ hp))
  · rcases List.mem_append.1 hp with hp | hp
    · rcases List.mem_append.1 hp with hp | hp
      · exact h.fits p (List.mem_append_left _ hp)
      · rw [List.mem_singleton.1 hp]; exact hf
    · exact h.fits p (List.mem_append_right _ hp)
/-- The net goes on by itself. -/
theorem NI.next {N' : List Ms} {F' : Nat → Prop} (h : NI S W w q N L v5 M v9 F) (ha : S.At W w' q F' N') (hF : ∀ b, F' b → F b ∨ w.heap.size ≤ b) (hk : Keeps (fun b => ¬ F b) w w') : NI S W w' q N' L v5 M v9 F' ∧ Gone w F v5 v9 w' F' v5 v9 := by
  have h9 := h.row9.lt
  have h5 := h.row5.lt
  have hsafe : ∀ b, b < w.heap.size → Safe F v5 v9 b → Safe F' v5 v9 b := fun b hl hs => ⟨fun hf => by
    rcases hF b hf with h | h
    · exact hs.1 h
    · omega, hs.2⟩
  have hks : Keeps (Safe F v5 v9) w w' := hk.mono fun b _ hs => hs.1
  refine ⟨⟨ha, h.row5.keep hk h.ap5, h.row9.keep hk h.ap9, fun b hb hf => ?_, fun b hb hf => ?_, h.ap, fun p hp => ?_, h.fits⟩, hks, hsafe⟩
  · rcases hF b hf with h1 | h1
    · exact h.ap5 b hb h1
    · have := (h5 b hb).2; omega
  · rcases hF b hf with h1 | h1
    · exact h.ap9 b hb h1
    · have := (h9 b hb).2; omega
  · exact ((h.lists p hp).mono (H := fun b => b < w.heap.size ∧ Safe F v5 v9 b) fun b hl hs => ⟨hl, hs⟩).keep (hks.mono fun b _ hs => hs.2) |>.mono fun b _ hs => hsafe b hs.1 hs.2
/-- One of the law's list is taken out (the row of messages is over). -/
theorem NI.cut5 {L' : List MP} (h : NI S W w q N L v5 M v9 F) (hk : Kp w w') (ho : OwnLe w' W.heap.size 36 21 v L'.length (msRow L')) (hb : ∀ b, v.ownBlock = some b → v5.ownBlock = some b ∨ w.heap.size ≤ b) (hs : ∀ p ∈ L', p ∈ L) :
    NI S W w' q N L' v [] (.slice none 0 0) F := by
  have hlt := (S.atIn h.at_).2
  have hd := h.keep hk
  refine ⟨hd.at_, ho, OwnLe.nil _ _ _ _, fun b e hf => ?_, fun b hb => (by cases hb), fun b _ hc => (by cases hc), fun p hp => ?_, fun p hp => ?_⟩
  · rcases hb b e with h1 | h1
    · exact h.ap5 b h1 hf
    · have := (hlt b hf).2; omega
  · rw [List.append_nil] at hp
    exact (((h.lists p (List.mem_append_left _ (hs p hp))).mono (H := fun b => b < w.heap.size ∧ Safe F v5 v9 b) fun b hl hs => ⟨hl, hs⟩).keep (hk.mono fun _ _ _ => trivial)).mono fun b _ hs => ⟨hs.2.1, fun e => by
      rcases hb b e with h1 | h1
      · exact hs.2.2.1 h1
      · omega, fun hc => by cases hc⟩
  · rw [List.append_nil] at hp
    exact h.fits p (List.mem_append_left _ (hs p hp))
end
section
variable {S : NetOK} {W w w' : World} {q : Nat} {N : List Ms} {L : List MP} {v5 : Value} {F : Nat → Prop} {g : Nat} {m m' : Ms} {a a' : MsA}
theorem MB.le (h : MB w g m a) (base : Nat) (hb : base ≤ g) : OwnLe w base 36 21 (.slice (some ⟨g, 0, none⟩) 0 1) 0 (msRow []) :=
  ⟨rfl, .inr ⟨g, 1, msC m a, rfl, hb, h, Nat.zero_le _, by decide, Nat.le_refl 21, rfl⟩⟩
/-- A message's own block, new: nothing else uses it. -/
theorem NI.box (h : NI S W w q N L v5 [] (.slice none 0 0) F) (hk : Kp w w') (hb : MB w' g m a) (hg : w.heap.size = g) : NI S W w' q N L v5 [] (.slice (some ⟨g, 0, none⟩) 0 1) F := by
  have hlt := (S.atIn h.at_).2
  have h5 := h.row5.lt
  have hd := h.keep hk
  refine ⟨hd.at_, hd.row5, hb.le _ (by rw [← hg]; exact h.kp.size), hd.ap5, fun b e hf => ?_, fun b e e2 => ?_, fun p hp => ?_, hd.fits⟩
  · have e : g = b := Option.some.inj e
    have := (hlt b hf).2
    omega
  · have e2 : g = b := Option.some.inj e2
    have := (h5 b e).2
    omega
  · exact (((h.lists p hp).mono (H := fun b => b < w.heap.size ∧ Safe F v5 (.slice none 0 0) b) fun b hl hs => ⟨hl, hs⟩).keep (hk.mono fun _ _ _ => trivial)).mono fun b _ hs => ⟨hs.2.1, hs.2.2.1, fun e => by
      have e : g = b := Option.some.inj e
      have := hs.1
      omega⟩
/-- It is written. -/
theorem NI.boxset (h : NI S W w q N L v5 [] (.slice (some ⟨g, 0, none⟩) 0 1) F) (hk : Keeps (fun b => b ≠ g) w w') (hb : MB w' g m' a') : NI S W w' q N L v5 [] (.slice (some ⟨g, 0, none⟩) 0 1) F := by
  have hge : W.heap.size ≤ g := (h.row9.lt g rfl).1
  have hkw : Kp W w' := kp_behind h.kp hk hge
  exact ⟨S.atKeep h.at_ (hk.mono fun b _ hf e => h.ap9 b (by rw [e]; rfl) hf) hkw, h.row5.keep hk fun b e eg => h.ap b e (by rw [eg]; rfl), hb.le _ hge, h.ap5, h.ap9, h.ap, fun p hp => (h.lists p hp).keep (hk.mono fun b _ hs e => hs.2.2 (by rw [e]; rfl)), h.fits⟩
theorem NI.head {A5 : Option Addr} {n c5 : Nat} {M : List MP} {v9 : Value} (h : NI S W w q N L (.slice A5 n c5) M v9 F) (hn : n = L.length) (h0 : 0 < n) : ∃ g5, A5 = some ⟨g5, 0, none⟩ := by
  subst hn
  obtain ⟨_, _, e, -, -, hh⟩ := h.row5.form
  obtain ⟨g, rfl, -, -⟩ := hh h0
  injection e with e
  exact ⟨g, e⟩
theorem NI.cap {A5 : Option Addr} {n c5 : Nat} {M : List MP} {v9 : Value} (h : NI S W w q N L (.slice A5 n c5) M v9 F) (hn : n = L.length) : n ≤ c5 ∧ c5 ≤ maxLen := by
  obtain ⟨_, _, e, h1, h2, -⟩ := h.row5.form
  injection e with _ e1 e2
  rw [e2, hn]; exact ⟨h1, h2⟩
end
/-- What a sending takes on when there is room for all. -/
theorem sent_room (ms : List Ms) : ∀ l : List Ms, l.length + ms.length ≤ 300 → sent l ms = (l ++ ms.filter mayM, (ms.filter mayM).length) := by
  induction ms with
  | nil => intro l _; simp [sent]
  | cons m ms ih =>
    intro l hl
    rw [List.length_cons] at hl
    cases hm : mayM m with
    | true =>
      have e : sent l (m :: ms) = ((sent (l ++ [m]) ms).1, (sent (l ++ [m]) ms).2 + 1) := by
        have : l.length < 300 := by omega
        simp [sent, hm, this]
      rw [e, ih (l ++ [m]) (by rw [List.length_append]; show l.length + 1 + ms.length ≤ 300; omega), List.filter_cons_of_pos hm]
      simp
    | false =>
      have e : sent l (m :: ms) = sent l ms := by simp [sent, hm]
      rw [e, ih l (by omega), List.filter_cons_of_neg (by simp [hm])]

/-- What Cut made of a message that came in. -/
theorem cut_in {S : NetOK} {W w w' : World} {q : Nat} {N : List Ms} {L M : List MP} {v5 v9 : Value} {F : Nat → Prop} {m : Ms} {a a2 : MsA} (h : NI S W w q N L v5 M v9 F) (hm : MsIn w m a (fun b => b < W.heap.size)) (hk : Kp w w') (hat : MsAt w' (cutM m) a2) (eba : a2.ba = a.ba) (eoa : a2.oa = a.oa)
    (hit : ItsAt w' a2.ia (fun b => w.heap.size ≤ b) (cutM m).items) (hmk : MksAt w' a2.ma (fun b => w.heap.size ≤ b) (cutM m).marks) : MsIn w' (cutM m) a2 (fun b => Safe F v5 v9 b ∧ b < w'.heap.size) := by
  have hm' := hm.keep (hk.mono fun _ _ _ => trivial : Keeps (fun b => b < W.heap.size) w w')
  refine ⟨hit.mono fun b hb h1 => ⟨h.fresh (.inr h1), hb⟩, hmk.mono fun b hb h1 => ⟨h.fresh (.inr h1), hb⟩, ?_, ?_, hat.il, hat.ml, hat.bl, hat.ol⟩
  · rw [eba]
    show Row w' a.ba _ ((m.mem.take 7).map _)
    rw [List.map_take]
    exact hm'.mem.take.mono fun b hb h1 => ⟨h.fresh (.inl h1), hb⟩
  · rw [eoa]
    show Row w' a.oa _ ((m.old.take 7).map _)
    rw [List.map_take]
    exact hm'.old.take.mono fun b hb h1 => ⟨h.fresh (.inl h1), hb⟩

/-! ### append(l[:k:k], l[k+1:]...) -/
section
variable {o : Oper} {a : Act} {w : World} {Q : Exit → Act → World → Prop} {x y z : Operand} {g n c k : Nat}
theorem kp_firstN (hk : k ≤ n) (hn : n ≤ c) (_hc : c ≤ 9223372036854775807) (ho : o.op = .slice 26 x none (some y) (some z)) (hx : a.eval x = .slice (some ⟨g, 0, none⟩) n c) (hy : a.eval y = .int .i64 (k : Int)) (hz : a.eval z = .int .i64 (k : Int)) :
    o.wp Tryd.prog a w (fun a' w' => ∃ v, a' = a.put o.dst v ∧ Kp w w' ∧ IsV (.slice (some ⟨g, 0, none⟩) k k) w' v) Q := by
  refine kp_yield (v := .slice (some ⟨g, 0, none⟩) k k) (w' := w) ?_ (Keeps.refl _ _) rfl
  generalize a.eval = ρ at hx hy hz ⊢
  unfold execOp
  have hkc : k ≤ c := by omega
  go_simp
def restN (g k c : Nat) : Option Addr := if c = k then some ⟨g, 0, none⟩ else some ⟨g, k * 21, none⟩
theorem kp_restN (hk : k ≤ n) (hn : n ≤ c) (hc : c ≤ 9223372036854775807) (ho : o.op = .slice 26 x (some y) none none) (hx : a.eval x = .slice (some ⟨g, 0, none⟩) n c) (hy : a.eval y = .int .i64 (k : Int)) :
    o.wp Tryd.prog a w (fun a' w' => ∃ v, a' = a.put o.dst v ∧ Kp w w' ∧ IsV (.slice (restN g k c) (n - k) (c - k)) w' v) Q := by
  refine kp_yield (v := .slice (restN g k c) (n - k) (c - k)) (w' := w) ?_ (Keeps.refl _ _) rfl
  generalize a.eval = ρ at hx hy ⊢
  unfold execOp
  have hkc : k ≤ c := by omega
  by_cases hck : c = k
  · subst hck
    obtain rfl : n = c := by omega
    go_simp
    simp [restN]
  · go_simp
    simp [restN, hck]
theorem kp_incN (hk : k ≤ 1000000) (ho : o.op = .binOp .add 3 x (.const (.int .i64 1)) 3) (hx : a.eval x = .int .i64 (k : Int)) :
    o.wp Tryd.prog a w (fun a' w' => ∃ v, a' = a.put o.dst v ∧ Kp w w' ∧ IsV (.int .i64 ((k + 1 : Nat) : Int)) w' v) Q := by
  have hc : a.eval (.const (.int .i64 1)) = .int .i64 1 := rfl
  have e : IntKind.i64.wrap ((k : Int) + 1) = ((k + 1 : Nat) : Int) := by rw [IntKind.wrap_i64]; omega
  refine kp_yield (v := .int .i64 ((k + 1 : Nat) : Int)) (w' := w) ?_ (Keeps.refl _ _) rfl
  generalize a.eval = ρ at hx hc ⊢
  unfold execOp
  go_simp
theorem kp_faN {b j i : Nat} {t : TypeId} (_ho : o.op = .fieldAddr t x j) (hr : ∀ ρ : Operand → Value, ρ x = .pointer (some ⟨b, 0, none⟩) → (execOp ρ o).run Tryd.prog w = .ok (.value (.pointer (some ⟨b, i, none⟩))) w) (hx : a.eval x = .pointer (some ⟨b, 0, none⟩)) :
    o.wp Tryd.prog a w (fun a' w' => ∃ v, a' = a.put o.dst v ∧ Kp w w' ∧ IsV (.pointer (some ⟨b, i, none⟩)) w' v) Q :=
  kp_yield (v := .pointer (some ⟨b, i, none⟩)) (w' := w) (hr a.eval hx) (Keeps.refl _ _) rfl
theorem kp_ixN (hk : k < n) (ho : o.op = .indexAddr 26 x y) (hx : a.eval x = .slice (some ⟨g, 0, none⟩) n c) (hy : a.eval y = .int .i64 (k : Int)) :
    o.wp Tryd.prog a w (fun a' w' => ∃ v, a' = a.put o.dst v ∧ Kp w w' ∧ IsV (.pointer (some ⟨g, k * 21, none⟩)) w' v) Q := by
  refine kp_yield (v := .pointer (some ⟨g, k * 21, none⟩)) (w' := w) ?_ (Keeps.refl _ _) rfl
  generalize a.eval = ρ at hx hy ⊢
  unfold execOp
  rw [ho]
  go_simp
theorem kp_ldN {p : MP} {off : Nat} {u : Value} (hu : msV p.1 p.2 = u) (h : ∀ i v, (mcs p)[i]? = some v → w.cell? ⟨g, off + i, none⟩ = some v) (ho : o.op = .load 36 x) (hx : a.eval x = .pointer (some ⟨g, off, none⟩)) :
    o.wp Tryd.prog a w (fun a' w' => ∃ v, a' = a.put o.dst v ∧ Kp w w' ∧ IsV u w' v) Q := by
  subst hu
  have hr := run_load_part (P := Tryd.prog) (w := w) 36 g off (mcs p) Tryd.underlying36 rfl (by rw [mcs_len]; exact ms_info) h
  unfold mcs at hr
  rw [Array.toArray_toList] at hr
  refine kp_yield (v := msV p.1 p.2) (w' := w) ?_ (Keeps.refl _ _) rfl
  unfold execOp
  simp only [ho, hx, Instr.loadAt, Instr.sureAddr, Sem.run_bind, Sem.run_pure, Result.andThen_ok, hr]
  rfl
theorem kp_passN {V : World → Value → Prop} (ho : o.op = .assign x) (hx : V w (a.eval x)) : o.wp Tryd.prog a w (fun a' w' => ∃ v', a' = a.put o.dst v' ∧ Kp w w' ∧ V w' v') Q := by
  refine kp_yield (v := a.eval x) ?_ (Keeps.refl _ _) hx
  unfold execOp; rw [ho]; rfl
theorem kp_fa1 {b : Nat} (ho : o.op = .fieldAddr 28 x 1) (hx : a.eval x = .pointer (some ⟨b, 0, none⟩)) : o.wp Tryd.prog a w (fun a' w' => ∃ v, a' = a.put o.dst v ∧ Kp w w' ∧ IsV (.pointer (some ⟨b, 1, none⟩)) w' v) Q := by
  refine kp_yield (v := .pointer (some ⟨b, 1, none⟩)) (w' := w) ?_ (Keeps.refl _ _) rfl
  generalize a.eval = ρ at hx ⊢
  unfold execOp
  rw [ho]
  go_simp
theorem kp_fa0 {b : Nat} (ho : o.op = .fieldAddr 36 x 0) (hx : a.eval x = .pointer (some ⟨b, 0, none⟩)) : o.wp Tryd.prog a w (fun a' w' => ∃ v, a' = a.put o.dst v ∧ Kp w w' ∧ IsV (.pointer (some ⟨b, 0, none⟩)) w' v) Q := by
  refine kp_yield (v := .pointer (some ⟨b, 0, none⟩)) (w' := w) ?_ (Keeps.refl _ _) rfl
  generalize a.eval = ρ at hx ⊢
  unfold execOp
  rw [ho]
  go_simp
theorem kp_neI {m n : Int} {r : Bool} (hr : (m != n) = r) (ho : o.op = .binOp .neq 3 x y 3) (hx : a.eval x = .int .i64 m) (hy : a.eval y = .int .i64 n) : o.wp Tryd.prog a w (fun a' w' => ∃ v, a' = a.put o.dst v ∧ Kp w w' ∧ IsV (.bool r) w' v) Q := by
  subst hr
  refine kp_yield (v := .bool (m != n)) (w' := w) ?_ (Keeps.refl _ _) rfl
  generalize a.eval = ρ at hx hy ⊢
  unfold execOp
  rw [ho]
  go_simp
theorem kp_neBN {m n r : Bool} (hr : (m != n) = r) (ho : o.op = .binOp .neq 4 x y 4) (hx : a.eval x = .bool m) (hy : a.eval y = .bool n) : o.wp Tryd.prog a w (fun a' w' => ∃ v, a' = a.put o.dst v ∧ Kp w w' ∧ IsV (.bool r) w' v) Q := by
  subst hr
  refine kp_yield (v := .bool (m != n)) (w' := w) ?_ (Keeps.refl _ _) rfl
  generalize a.eval = ρ at hx hy ⊢
  unfold execOp
  rw [ho]
  go_simp
  cases m <;> cases n <;> rfl
/-- What it leaves. -/
def OutN (base w5 g : Nat) (l : List MP) (w : World) (v : Value) : Prop := OwnLe w base 36 21 v l.length (msRow l) ∧ ∀ b, v.ownBlock = some b → b = g ∨ w5 ≤ b
theorem msRow_take (l : List MP) (k : Nat) : (msRow l).take (k * 21) = msRow (l.take k) := by
  induction l generalizing k with
  | nil => simp [msRow]
  | cons r l ih =>
    have e : msRow (r :: l) = mcs r ++ msRow l := by simp [msRow]
    cases k with
    | zero => simp [msRow]
    | succ k =>
      rw [e, List.take_succ_cons, show msRow (r :: l.take k) = mcs r ++ msRow (l.take k) by simp [msRow], ← ih k, List.take_append, mcs_len, List.take_of_length_le (by rw [mcs_len]; omega)]
      congr 2
      omega
theorem msRow_drop (l : List MP) (k : Nat) : (msRow l).drop (k * 21) = msRow (l.drop k) := by
  induction l generalizing k with
  | nil => simp [msRow]
  | cons r l ih =>
    have e : msRow (r :: l) = mcs r ++ msRow l := by simp [msRow]
    cases k with
    | zero => simp [msRow]
    | succ k =>
      rw [e, List.drop_succ_cons, ← ih k, List.drop_append, mcs_len, List.drop_of_length_le (by rw [mcs_len]; omega), List.nil_append]
      congr 1
      omega
theorem wp_appN {P : Program} {V : World → Value → Prop} {t tx : TypeId} {s u : Operand} {v v' : Value} {y : Value} {w' : World} (ho : o.op = .call { callee := .builtin .append, args := #[s, u], argTypes := #[t, tx] }) (hs : a.eval s = v) (hx : a.eval u = y)
    (hr : (Builtin.append_ #[t, tx] o.type #[v, y]).run P w = .ok v' w') (hk : Kp w w') (hv : V w' v') : o.wp P a w (fun a' w' => ∃ v, a' = a.put o.dst v ∧ Kp w w' ∧ V w' v) Q := by
  unfold Oper.wp execOp
  simp only [ho, resolve, invoke, builtin, Sem.run_bind, Sem.run_pure, Result.andThen_ok, List.map_toArray, List.map_cons, List.map_nil, hs, hx, hr]
  exact ⟨_, rfl, hk, hv⟩
theorem kp_outN {base w5 : Nat} {l : List MP} (hb : base ≤ w.heap.size) (h5 : w5 ≤ w.heap.size) (hn : n = l.length) (hnl : n ≤ 1000) (hc : n ≤ c) (hk : k < n) (hrow : OwnLe w base 36 21 (.slice (some ⟨g, 0, none⟩) n c) n (msRow l))
    (ho : o.op = .call { callee := .builtin .append, args := #[x, y], argTypes := #[26, 26] }) (hx : a.eval x = .slice (some ⟨g, 0, none⟩) k k) (hy : a.eval y = .slice (restN g (k + 1) c) (n - (k + 1)) (c - (k + 1))) :
    o.wp Tryd.prog a w (fun a' w' => ∃ v, a' = a.put o.dst v ∧ Kp w w' ∧ OutN base w5 g (l.take k ++ l.drop (k + 1)) w' v) Q := by
  have hfirst := hrow.first (k := k) (by omega)
  rw [msRow_take] at hfirst
  have hll : (l.take k ++ l.drop (k + 1)).length = n - 1 := by rw [List.length_append, List.length_take, List.length_drop, ← hn]; omega
  rcases Nat.eq_zero_or_pos (n - (k + 1)) with h0 | h0
  · rw [h0] at hy
    have hd : l.drop (k + 1) = [] := List.drop_eq_nil_of_le (by omega)
    have hkn : n - 1 = k := by omega
    refine wp_appN (V := OutN base w5 g (l.take k ++ l.drop (k + 1))) ho hx hy (msg_elem.run_append_none 26 o.type Tryd.underlying26 _ _ k k _ (Nat.le_refl _) w) (Keeps.refl _ _) ⟨?_, fun b hb => ?_⟩
    · rw [hll, hd, List.append_nil, hkn]; exact hfirst
    · injection hb with hb
      exact .inl hb.symm
  · have hne : ¬ c = k + 1 := by omega
    have ha : restN g (k + 1) c = some ⟨g, (k + 1) * 21, none⟩ := by unfold restN; rw [if_neg hne]
    rw [ha] at hy
    have hsrc : Src Tryd.prog 21 26 (.slice (some ⟨g, (k + 1) * 21, none⟩) (n - (k + 1)) (c - (k + 1))) (n - (k + 1)) (msRow (l.drop (k + 1))) w :=
      Src.ofSlice _ Tryd.underlying26 ⟨g, (k + 1) * 21, none⟩ _ _ _ (by rw [msRow_len, List.length_drop, hn]) (fun j u hu => by
        rw [WideShapes.add_plain]
        rw [← msRow_drop, List.getElem?_drop] at hu
        exact hrow.cell hu) (msRow_one _)
    obtain ⟨c', w', hrun, ho2, hk2⟩ := msg_elem.run_append_tight 26 o.type hfirst hsrc h0 (by unfold maxLen; omega) (by omega) base hb
    refine wp_appN (V := OutN base w5 g (l.take k ++ l.drop (k + 1))) ho hx hy hrun hk2 ⟨?_, fun b hb => ?_⟩
    · rw [hll, msRow_append, show n - 1 = k + (n - (k + 1)) by omega]
      exact OwnLe.of_own ho2
    · injection hb with hb
      have hb : w.heap.size = b := hb
      exact .inr (by omega)
theorem OutN.keep {base w5 : Nat} {l : List MP} {w' : World} {v : Value} (h : OutN base w5 g l w v) (hk : Kp w w') : OutN base w5 g l w' v := ⟨h.1.keep hk fun _ _ => trivial, h.2⟩
/-- What the region's operations leave. -/
def VN (base w5 g n c k ob : Nat) (l : List MP) : Nat → World → Value → Prop
  | 0 => IsV (.slice (some ⟨g, 0, none⟩) n c)
  | 1 => IsV (.pointer (some ⟨ob, 1, none⟩))
  | 2 => IsV (.int .i64 (k : Int))
  | 3 => IsV (.pointer (some ⟨ob, 1, none⟩))
  | 4 => IsV (.int .i64 (k : Int))
  | 5 => IsV (.slice (some ⟨g, 0, none⟩) k k)
  | 6 => IsV (.slice (some ⟨g, 0, none⟩) n c)
  | 7 => IsV (.pointer (some ⟨ob, 1, none⟩))
  | 8 => IsV (.int .i64 (k : Int))
  | 9 => IsV (.int .i64 ((k + 1 : Nat) : Int))
  | 10 => IsV (.slice (restN g (k + 1) c) (n - (k + 1)) (c - (k + 1)))
  | _ => OutN base w5 g l
theorem VN_keep {base w5 g n c k ob : Nat} {l : List MP} (j : Nat) (w w' : World) (v : Value) (h : Kp w w') (hv : VN base w5 g n c k ob l j w v) : VN base w5 g n c k ob l j w' v := by
  match j, hv with
  | 0, hv => exact hv
  | 1, hv => exact hv
  | 2, hv => exact hv
  | 3, hv => exact hv
  | 4, hv => exact hv
  | 5, hv => exact hv
  | 6, hv => exact hv
  | 7, hv => exact hv
  | 8, hv => exact hv
  | 9, hv => exact hv
  | 10, hv => exact hv
  | _ + 11, hv => exact OutN.keep hv h
end
theorem erase_is (l : List MP) (k : Nat) : l.eraseIdx k = l.take k ++ l.drop (k + 1) := List.eraseIdx_eq_take_drop_succ l k
theorem erase_map (l : List MP) (k : Nat) : (l.map (·.1)).eraseIdx k = (l.take k ++ l.drop (k + 1)).map (·.1) := by
  rw [List.eraseIdx_eq_take_drop_succ, List.map_append, List.map_take, List.map_drop]

end Go.Proofs.YtpijhpfcigjkeaaDoor
