/-
  THE LANDED RIGHTS KEEP THE FACE of layer 18; what the frames of its laws ask of the program besides.
-/
import Derived.Test.YtoegdfiehjabjaaTkGive
import Derived.Test.YtoegdfiehjabjaaTkUse
import Derived.Test.YtoegdfiehjabjaaTkKill
import Derived.Test.YtoegdfiehjabjaaTkClear
namespace Go.Proofs.Ytoegdfiehjabjaa
open Go Go.RowKit Go.Joins Go.Maps Go.ChangeShapes Go.WideShapes Go.ChangeAt

theorem tuse_any (w : World) (t : Nat) (F : Nat → Prop) (L : List Tk) (id : Int) (h : TkSt w t F L) (hL : L.length ≤ 1000) (h1 : -9223372036854775808 ≤ id) (h2 : id < 9223372036854775808) :
    Calls Try.prog 13 #[.pointer (some ⟨t, 0, none⟩), .int .i64 id] w fun e w' => e = .returned (.tuple #[.string (tkUse L id).1, .bool (tkUse L id).2]) ∧ TkSt w' t F (tkUsed L id) ∧ Keeps (fun b => ¬ F b) w w' := by
  rcases h with ⟨rfl, hb, hF⟩ | ⟨mo, ml, no, nl, B, go, gl, h⟩
  · refine (tuse_zero w t _ id hb h1 h2).mono ?_
    rintro e w' ⟨rfl, rfl⟩
    rw [(tkUse_nil id).1, (tkUse_nil id).2]
    exact ⟨rfl, .inl ⟨rfl, hb, hF⟩, Keeps.refl _ _⟩
  · cases hg : go (.int .i64 id) with
    | none =>
      refine (tuse_none w t _ mo no ml go id h.blk h.hmo hg h1 h2).mono ?_
      rintro e w' ⟨rfl, rfl⟩
      rw [(h.tab.none hg).1, (h.tab.none hg).2]
      exact ⟨rfl, .inr ⟨mo, ml, no, nl, B, go, gl, h⟩, Keeps.refl _ _⟩
    | some v =>
      obtain ⟨i, x, hi, hu, e⟩ := h.tab.o2 _ _ hg
      have e : id = (i : Int) + 1 := by injection e
      subst e
      have hv := h.tab.o1 i x hi hu
      rw [hg] at hv
      have hv := Option.some.inj hv
      subst hv
      rw [tkUse_is hi hu, tkUsed_is hi]
      obtain ⟨n, hb, hn⟩ := h.bat.at_ i x hi hu
      have hlen : (L.set i (tkOff x)).length = L.length := List.length_set
      have hkeys : ∀ y ∈ L.set i (tkOff x), y.key.size ≤ 1000000 := fun y hy => by
        rcases List.mem_or_eq_of_mem_set hy with hy | rfl
        · exact h.keys y hy
        · exact h.keys x (List.mem_of_getElem? hi)
      have hfb : ∀ (j : Nat) (y : Tk), (L.set i (tkOff x))[j]? = some y → y.used = false → F (B j) := fun j y hj hju => h.fb j y (set_at hi hj hju).2 hju
      have hmo' : ∀ (j : Nat) (y : Tk), (L.set i (tkOff x))[j]? = some y → y.used = false → B j ≠ mo := fun j y hj hju => h.bat.ne_m h.hmo (set_at hi hj hju).2 hju
      have hml' : ∀ (j : Nat) (y : Tk), (L.set i (tkOff x))[j]? = some y → y.used = false → B j ≠ ml := fun j y hj hju => h.bat.ne_m h.hml (set_at hi hj hju).2 hju
      have hFi := h.fb i x hi hu
      cases hgd : x.good with
      | false =>
        rw [hgd] at hb
        refine (tuse_dead w t _ mo ml no nl (B i) go gl x.key n _ ⟨h.blk, h.hmo, h.hml, hb, h.ne⟩ hg h1 h2).mono ?_
        rintro e w' ⟨rfl, hm, hk⟩
        refine ⟨rfl, .inr ⟨mo, ml, no, nl, B, _, gl, ?_, hm, h.hml.keep hk (Ne.symm h.ne), by rw [hlen]; exact h.no, by rw [hlen]; exact h.nl, h.tab.useKeep hi (fun e => by rw [hgd] at e; cases e), (h.bat.useDead hi hgd).keep hk hmo', h.ft, h.fo, h.fl, hfb, h.ne, hkeys⟩, hk.mono fun b _ hb e => hb (e ▸ h.fo)⟩
        rw [hlen]
        exact h.blk.keep hk (h.hmo.not_cells h.blk)
      | true =>
        have hn := hn hgd
        rw [hgd] at hb
        have hcs := count_set hi (sameT x.key)
        rw [if_pos (hits_one.2 ⟨rfl, hgd, hu⟩), ← hn] at hcs
        have hbt := h.blk.ne hb
        have hbo := h.hmo.not_cells hb
        have hbl := h.hml.not_cells hb
        cases hq : tkCount (sameT x.key) (L.set i (tkOff x)) with
        | zero =>
          rw [hq] at hcs
          have hn1 : (n : Int) = 1 := by omega
          rw [hn1] at hb
          refine (tuse_last w t _ mo ml no nl (B i) go gl x.key _ ⟨h.blk, h.hmo, h.hml, hb, h.ne⟩ (h.keys x (List.mem_of_getElem? hi)) hg h1 h2).mono ?_
          rintro e w' ⟨rfl, w1, hm, hk, hm2, hk2⟩
          have k1 : Keeps (fun y => y ≠ B i) w1 (w1.setCell ⟨B i, 1, none⟩ (.int .i64 0)) := (Keeps.refl _ _).setCell (.inr fun h => h rfl) _
          have hbat := (h.bat.keep hk fun j y hj hju => h.bat.ne_m h.hmo hj hju).useGood hi hu hgd 0 (by rw [hq]; rfl)
          refine ⟨rfl, .inr ⟨mo, ml, no, nl, B, _, _, ?_, (hm.keep k1 (Ne.symm hbo)).keep hk2 h.ne, hm2, by rw [hlen]; exact h.no, by rw [hlen]; exact h.nl, h.tab.useLast hi hq, hbat.keep hk2 hml', h.ft, h.fo, h.fl, hfb, h.ne, hkeys⟩, ?_⟩
          · rw [hlen]
            exact ((h.blk.keep hk (h.hmo.not_cells h.blk)).keep k1 (Ne.symm hbt)).keep hk2 (h.hml.not_cells h.blk)
          · exact ((hk.mono fun b _ hb e => hb (e ▸ h.fo)).trans (k1.mono fun b _ hb e => hb (e ▸ hFi))).trans (hk2.mono fun b _ hb e => hb (e ▸ h.fl))
        | succ c =>
          rw [hq] at hcs
          have hn2 : (n : Int) = (c : Int) + 2 := by omega
          rw [hn2] at hb
          have hc : c ≤ 1000 := by have := tkCount_le (sameT x.key) L; omega
          refine (tuse_good w t _ mo ml no nl (B i) go gl x.key c _ ⟨h.blk, h.hmo, h.hml, hb, h.ne⟩ hc hg h1 h2).mono ?_
          rintro e w' ⟨rfl, w1, hm, hk, rfl⟩
          have k1 : Keeps (fun y => y ≠ B i) w1 (w1.setCell ⟨B i, 1, none⟩ (.int .i64 ((c : Int) + 1))) := (Keeps.refl _ _).setCell (.inr fun h => h rfl) _
          have hbat := (h.bat.keep hk fun j y hj hju => h.bat.ne_m h.hmo hj hju).useGood hi hu hgd ((c : Int) + 1) (by rw [hq]; omega)
          refine ⟨rfl, .inr ⟨mo, ml, no, nl, B, _, gl, ?_, hm.keep k1 (Ne.symm hbo), (h.hml.keep hk (Ne.symm h.ne)).keep k1 (Ne.symm hbl), by rw [hlen]; exact h.no, by rw [hlen]; exact h.nl, h.tab.useKeep hi (fun _ => by rw [hq]; omega), hbat, h.ft, h.fo, h.fl, hfb, h.ne, hkeys⟩, ?_⟩
          · rw [hlen]
            exact (h.blk.keep hk (h.hmo.not_cells h.blk)).keep k1 (Ne.symm hbt)
          · exact (hk.mono fun b _ hb e => hb (e ▸ h.fo)).trans (k1.mono fun b _ hb e => hb (e ▸ hFi))

/-- The landed rights, in blocks of their own. -/
structure TkAt (W w : World) (t : Nat) (F : Nat → Prop) (L : List Tk) : Prop where
  kp : Kp W w
  inF : ∀ b, F b → W.heap.size ≤ b ∧ b < w.heap.size
  st : TkSt w t F L
theorem TkAt.past {W w w' : World} {t : Nat} {F : Nat → Prop} {L : List Tk} (h : TkAt W w t F L) (hk : Keeps (fun b => ¬ F b) w w') : Kp W w' :=
  ((h.kp.mono fun _ _ _ => trivial : Keeps (fun b => ¬ F b) W w).trans hk).mono fun b hb _ hF => by have := (h.inF b hF).1; omega
/-- Behind a call that made new blocks of its own. -/
theorem TkAt.step {W w w' : World} {t : Nat} {F : Nat → Prop} {L L' : List Tk} (h : TkAt W w t F L) (hs : TkSt w' t (fun b => F b ∨ w.heap.size ≤ b) L') (hk : Keeps (fun b => ¬ F b) w w') :
    ∃ F', TkAt W w' t F' L' ∧ (∀ b, F' b → F b ∨ w.heap.size ≤ b) ∧ Keeps (fun b => ¬ F b) w w' := by
  refine ⟨fun b => (F b ∨ w.heap.size ≤ b) ∧ b < w'.heap.size, ⟨h.past hk, fun b hb => ⟨?_, hb.2⟩, hs.mono fun b hlt hb => ⟨hb, hlt⟩⟩, fun b hb => hb.1, hk⟩
  rcases hb.1 with h1 | h1
  · exact (h.inF b h1).1
  · have := h.kp.size; omega
theorem TkAt.stay {W w w' : World} {t : Nat} {F : Nat → Prop} {L L' : List Tk} (h : TkAt W w t F L) (hs : TkSt w' t F L') (hk : Keeps (fun b => ¬ F b) w w') :
    ∃ F', TkAt W w' t F' L' ∧ (∀ b, F' b → F b ∨ w.heap.size ≤ b) ∧ Keeps (fun b => ¬ F b) w w' :=
  ⟨F, ⟨h.past hk, fun b hb => ⟨(h.inF b hb).1, Nat.lt_of_lt_of_le (h.inF b hb).2 hk.size⟩, hs⟩, fun _ hb => .inl hb, hk⟩

def theTokens : TokensOK where
  T := fun _ => True
  tk := fun _ _ => trivial
  At := TkAt
  atIn := fun h => ⟨h.kp, h.inF⟩
  atKeep := fun h hk hp => ⟨hp, fun b hb => ⟨(h.inF b hb).1, Nat.lt_of_lt_of_le (h.inF b hb).2 hk.size⟩, h.st.keep hk⟩
  new := fun W w _ hk => (tnew_any w).mono fun _ _ ⟨h1, h2⟩ => by
    subst h2
    exact ⟨_, fun b => b = w.heap.size, h1, ⟨hk.alloc _, fun b hb => by subst hb; exact ⟨hk.size, by simp⟩, .inl ⟨rfl, heap_alloc_new w _, rfl⟩⟩, fun b hb => by subst hb; exact Nat.le_refl _, (Keeps.refl _ _).alloc _⟩
  give := fun W w t F L k _ h hL hk => (tgive_any w t F L k h.st (fun b hb => (h.inF b hb).2) hL hk).mono fun _ _ ⟨h1, h2, h3⟩ => ⟨h1, h.step h2 h3⟩
  giveNil := fun w k => (tgive_nil w k).mono fun _ _ ⟨h1, h2⟩ => ⟨h1, h2 ▸ Keeps.refl _ _⟩
  use := fun W w t F L id _ h hL h1 h2 => (tuse_any w t F L id h.st hL h1 h2).mono fun _ _ ⟨h1, h2, h3⟩ => ⟨h1, h.stay h2 h3⟩
  useNil := fun w id => (tuse_nil w id).mono fun _ _ ⟨h1, h2⟩ => ⟨h1, h2 ▸ Keeps.refl _ _⟩
  kill := fun W w t F L A c n G ks _ h hL hn hr hG hc1 hc2 _ hks => by
    subst hn
    rcases h.st with ⟨rfl, hb, hF⟩ | ⟨mo, ml, no, nl, B, go, gl, hM⟩
    · exact (tkill_zero w t _ A c G ks hb hr hc1 hc2 hks).mono fun _ _ ⟨h1, h2⟩ => by
        subst h2
        exact ⟨h1, h.stay (L' := tkKill (inKeys ks) []) (.inl ⟨rfl, hb, hF⟩) (Keeps.refl _ _)⟩
    · exact (tkill_some w t F L mo ml no nl B go gl A c G ks hM hL hr hG hc1 hc2 hks).mono fun _ _ ⟨h1, h2, h3⟩ => ⟨h1, h.stay h2 h3⟩
  killNil := fun w A c n _ _ => (tkill_nil w A n c).mono fun _ _ ⟨h1, h2⟩ => ⟨h1, h2 ▸ Keeps.refl _ _⟩
  clear_ := fun W w t F L _ h hL => by
    rcases h.st with ⟨rfl, hb, hF⟩ | ⟨mo, ml, no, nl, B, go, gl, hM⟩
    · exact (tclear_zero w t _ hb).mono fun _ _ ⟨h1, h2⟩ => by
        subst h2
        exact ⟨h1, h.stay (L' := tkKill allKeys []) (.inl ⟨rfl, hb, hF⟩) (Keeps.refl _ _)⟩
    · exact (tclear_some w t F L mo ml no nl B go gl hM hL).mono fun _ _ ⟨h1, h2, h3⟩ => ⟨h1, h.step h2 h3⟩
  clearNil := fun w => (tclear_nil w).mono fun _ _ ⟨h1, h2⟩ => ⟨h1, h2 ▸ Keeps.refl _ _⟩
  len := fun W w t F L _ h _ => (tlen_any w t F L h.st).mono fun _ _ ⟨h1, h2⟩ => ⟨h1, h2 ▸ Keeps.refl _ _⟩
  lenNil := fun w => (tlen_nil w).mono fun _ _ ⟨h1, h2⟩ => ⟨h1, h2 ▸ Keeps.refl _ _⟩

set_option maxRecDepth 100000 in
theorem own : ownKnob Try.prog.godebug = none := by kernel_rfl
set_option maxRecDepth 100000 in
theorem laidOut : laidOutB Try.prog = true := by kernel_rfl

end Go.Proofs.Ytoegdfiehjabjaa
