/-
  ALL THAT LAYER 12 ASKS OF THE PROGRAM's KEEPER OF METAS.
-/
import Derived.Test.YtmnjdlnjhomhnaaDoorMtSave
namespace Go.Proofs.YtmnjdlnjhomhnaaDoor
open Go Go.RowKit Go.Joins
theorem encM_le {m : M4} (h : mayB m = true) : (encM m).length ≤ 40 := encM_len (may_fits h)
def KAt (W w : World) (p k : Nat) (F : Nat → Prop) (n : Nat) (m : M4) : Prop :=
  ∃ (q : Nat) (Fd Fs : Foot) (rows : List (List UInt8)) (c wh : Nat), Kep W w p q k Fd Fs (SDev.still rows c) ⟨p, 0, wh, n + 1, encM m⟩ m ∧ Oth theSup rows ⟨p, 0, wh, n + 1, encM m⟩ ∧ c ≤ 1000 * (n + 1) ∧ n ≤ 1001 ∧ ∀ b, F b ↔ Fd.all b ∨ Fs.all b ∨ b = k
def KHeld (W w : World) (p : Nat) (F : Nat → Prop) (n : Nat) (m : M4) : Prop :=
  ∃ (Fd : Foot) (rows : List (List UInt8)) (wh : Nat), Dv W w p Fd (SDev.still rows 0) ∧ 2 ≤ rows.length ∧ wh ≤ 1 ∧ rows.getD wh [] = theSup.enc (n + 1) (encM m) ∧ Oth theSup rows ⟨p, 0, wh, n + 1, encM m⟩ ∧ mayB m = true ∧ n ≤ 1001 ∧ ∀ b, F b ↔ Fd.all b
def KNew (W w : World) (p : Nat) (F : Nat → Prop) (n : Nat) : Prop :=
  ∃ Fd : Foot, Dv W w p Fd (SDev.still (List.replicate n blank) 0) ∧ ∀ b, F b ↔ Fd.all b
theorem KAt.inn {W w : World} {p k : Nat} {F : Nat → Prop} {n : Nat} {m : M4} (h : KAt W w p k F n m) : Kp W w ∧ ∀ b, F b → W.heap.size ≤ b ∧ b < w.heap.size := by
  obtain ⟨q, Fd, Fs, rows, c, wh, h, _, _, _, hF⟩ := h
  refine ⟨h.du.dv.kp, fun b hb => ?_⟩
  rcases (hF b).1 hb with hb | hb | rfl
  · exact ⟨h.du.dv.gd b hb, h.du.dv.d.lt b hb⟩
  · exact ⟨h.du.gs b hb, theSup.lt h.du.su b hb⟩
  · exact ⟨h.gk, h.kb.lt⟩
theorem KHeld.inn {W w : World} {p : Nat} {F : Nat → Prop} {n : Nat} {m : M4} (h : KHeld W w p F n m) : Kp W w ∧ ∀ b, F b → W.heap.size ≤ b ∧ b < w.heap.size := by
  obtain ⟨Fd, rows, wh, h, _, _, _, _, _, _, hF⟩ := h
  exact ⟨h.kp, fun b hb => ⟨h.gd b ((hF b).1 hb), h.d.lt b ((hF b).1 hb)⟩⟩
theorem KNew.inn {W w : World} {p : Nat} {F : Nat → Prop} {n : Nat} (h : KNew W w p F n) : Kp W w ∧ ∀ b, F b → W.heap.size ≤ b ∧ b < w.heap.size := by
  obtain ⟨Fd, h, hF⟩ := h
  exact ⟨h.kp, fun b hb => ⟨h.gd b ((hF b).1 hb), h.d.lt b ((hF b).1 hb)⟩⟩
theorem KAt.kept {W w w' : World} {p k : Nat} {F : Nat → Prop} {n : Nat} {m : M4} (h : KAt W w p k F n m) (hk : Keeps F w w') (hW : Kp W w') : KAt W w' p k F n m := by
  obtain ⟨q, Fd, Fs, rows, c, wh, h, h1, h2, h3, hF⟩ := h
  refine ⟨q, Fd, Fs, rows, c, wh, ⟨⟨⟨h.du.dv.d.keep (hk.mono fun b _ hb => (hF b).2 (.inl hb)), h.du.dv.gd, hW⟩, theSup.keep h.du.su (hk.mono fun b _ hb => (hF b).2 (.inr (.inl hb))), h.du.ap, h.du.gs, h.du.on, h.du.room, h.du.sec⟩, h.kb.keep hk ((hF k).2 (.inr (.inr rfl))), h.may, h.txt, h.nf, h.ns, h.gk⟩, h1, h2, h3, hF⟩
theorem KHeld.kept {W w w' : World} {p : Nat} {F : Nat → Prop} {n : Nat} {m : M4} (h : KHeld W w p F n m) (hk : Keeps F w w') (hW : Kp W w') : KHeld W w' p F n m := by
  obtain ⟨Fd, rows, wh, h, h1, h2, h3, h4, h5, h6, hF⟩ := h
  exact ⟨Fd, rows, wh, ⟨h.d.keep (hk.mono fun b _ hb => (hF b).2 hb), h.gd, hW⟩, h1, h2, h3, h4, h5, h6, hF⟩
theorem KNew.kept {W w w' : World} {p : Nat} {F : Nat → Prop} {n : Nat} (h : KNew W w p F n) (hk : Keeps F w w') (hW : Kp W w') : KNew W w' p F n := by
  obtain ⟨Fd, h, hF⟩ := h
  exact ⟨Fd, ⟨h.d.keep (hk.mono fun b _ hb => (hF b).2 hb), h.gd, hW⟩, hF⟩
theorem rep_len (n : Nat) : (SDev.still (List.replicate n blank) 0).now.length = n := by simp [SDev.still]
theorem rep_at (n i : Nat) (h : i < n) : (SDev.still (List.replicate n blank) 0).now.getD i [] = blank := by
  simp [SDev.still, List.getD_eq_getElem?_getD, h]
set_option maxRecDepth 100000 in
def theMeta : MetaOK where
  T := theSup.T
  tk := fun h k => theSup.tk h k
  New := KNew
  At := KAt
  Held := KHeld
  newIn := KNew.inn
  atIn := KAt.inn
  heldIn := KHeld.inn
  newKeep := KNew.kept
  atKeep := KAt.kept
  heldKeep := KHeld.kept
  new := fun W w n _ hk h1 h2 => by
    refine (dv_new hk n h1 h2 (n : Int) rfl).mono ?_
    rintro e w' ⟨p, F, rfl, hd, hf, hk'⟩
    exact ⟨p, F.all, rfl, ⟨F, hd, fun b => Iff.rfl⟩, hf, hk'⟩
  make := fun W w p F n hT h hn => by
    obtain ⟨Fd, h, hF⟩ := h
    refine (kmake_yes W w hT p Fd _ h 0 (by rw [rep_len]; omega) (by simp [SDev.still])).mono ?_
    rintro e w' ⟨q, k, F', Fs, c, rfl, hK, hc, hst, hfs, hk⟩
    have hc' : c ≤ 100 := by simpa [SDev.still] using hc
    refine ⟨k, fun b => F'.all b ∨ Fs.all b ∨ b = k, rfl, ⟨q, F', Fs, _, c, 0, hK, oth_make p 0 _ _ (by rw [rep_len]; omega), by omega, by omega, fun b => Iff.rfl⟩, fun b hb => ?_, hst.keeps.mono fun b _ hb hm => hb ((hF b).2 (.inl hm))⟩
    rcases hb with hb | hb | rfl
    · exact (hst.all b hb).imp (fun h => (hF b).2 h) fun h => h
    · exact .inr (hfs b hb)
    · exact .inr hk
  makeNo := fun W w p F n i hT h hn hi => by
    obtain ⟨Fd, h, hF⟩ := h
    exact kmake_no W w (theSup.tk hT h.kp) p Fd _ h i (by rw [rep_len]; omega) (by omega)
  openNo := fun W w p F n hT h hn => by
    obtain ⟨Fd, h, hF⟩ := h
    exact kopen_bad w (theSup.tk hT h.kp) p Fd _ h.d 0 (by rw [rep_len]; omega) (by rw [rep_at n 0 (by omega)]; exact theSup.decBlank) (by rw [rep_at n (0 + 1) (by omega)]; exact theSup.decBlank)
  crash := fun W w p k F n m hT h => by
    obtain ⟨q, Fd, Fs, rows, c, wh, h, h1, h2, h3, hF⟩ := h
    refine (dcrash_any w p Fd _ h.du.dv.d none 0 (fun _ => True) [] (Row.nil _ _ _) (by simp)).mono ?_
    rintro e w' ⟨q', F', rfl, hD, hm, hi, hk⟩
    rw [still_crash] at hD
    have hr := h.du.room
    have hs := h.du.sec
    have hw := (theSup.wf h.du.su).1
    simp only [Nat.zero_add] at hr hs
    refine ⟨q', F'.all, rfl, ⟨F', rows, wh, ⟨hD, fun b hb => ?_, h.du.dv.kp.trans hk⟩, hr, hw, hs, h1, h.may, h3, fun b => Iff.rfl⟩, fun b hb => ?_, hk⟩
    · rcases hb with hb | hb
      · exact Nat.le_trans h.du.dv.kp.size (hm b hb)
      · rcases hi b hb with hb | hb
        · exact h.du.dv.gd b (.inr hb)
        · exact Nat.le_trans h.du.dv.kp.size hb
    · rcases hb with hb | hb
      · exact .inr (hm b hb)
      · exact (hi b hb).imp (fun h => (hF b).2 (.inl (.inr h))) fun h => h
  open_ := fun W w p F n m hT h => by
    obtain ⟨Fd, rows, wh, h, h1, h2, h3, h4, h5, h6, hF⟩ := h
    refine (kopen_yes W w hT p Fd _ h 0 wh (n + 1) m h5 (by simpa [SDev.still] using h1) h2 (by omega) (by simpa [SDev.still] using h3) h4 (by omega)).mono ?_
    rintro e w' ⟨q, k, Fs, rfl, hK, hfs, hk, hkp⟩
    refine ⟨k, fun b => Fd.all b ∨ Fs.all b ∨ b = k, rfl, ⟨q, Fd, Fs, rows, 0, wh, hK, h4, by omega, h6, fun b => Iff.rfl⟩, fun b hb => ?_, hkp.mono fun _ _ _ => trivial⟩
    rcases hb with hb | hb | rfl
    · exact .inl ((hF b).2 hb)
    · exact .inr (hfs b hb)
    · exact .inr hk
  save := fun W w p k F n m x hT h hn _ hx => by
    obtain ⟨q, Fd, Fs, rows, c, wh, h, h1, h2, h3, hF⟩ := h
    have hw := (theSup.wf h.du.su).1
    have hs := h.du.sec
    simp only [Nat.zero_add] at hs
    refine (ksave_yes W w hT p q k Fd Fs _ _ m x h (show c ≤ _ by omega) (show n + 1 ≤ _ by omega) hx).mono ?_
    rintro e w' ⟨rfl, F', Fs', c', hK, hc, hkp, f1, f2, f3, f4⟩
    have hc' : c' ≤ c + 100 := hc
    refine ⟨rfl, fun b => F'.all b ∨ Fs'.all b ∨ b = k, ⟨q, F', Fs', _, c', 1 - wh, hK, oth_save (rows := rows) (st := ⟨p, 0, wh, n + 1, encM m⟩) p _ _ hw (show 1 ≤ n + 1 by omega) (encM_le h.may) (show n + 1 ≤ _ by omega) (show rows.getD (0 + wh) [] = _ by rw [Nat.zero_add]; exact hs), by omega, by omega, fun b => Iff.rfl⟩, fun b hb => ?_, hkp.mono fun b _ hb => ⟨fun hm => hb ((hF b).2 (.inl (.inl hm))), fun hm => hb ((hF b).2 (.inr (.inl (.inl hm)))), fun e => hb ((hF b).2 (.inr (.inr e)))⟩⟩
    rcases hb with (hb | hb) | (hb | hb) | rfl
    · exact (f1 b hb).imp (fun h => (hF b).2 (.inl (.inl h))) fun h => h
    · exact (f2 b hb).imp (fun h => (hF b).2 (.inl h)) fun h => h
    · exact (f3 b hb).imp (fun h => (hF b).2 (.inr (.inl (.inl h)))) fun h => h
    · exact (f4 b hb).imp (fun h => (hF b).2 (.inr (.inl h))) fun h => h
    · exact .inl ((hF b).2 (.inr (.inr rfl)))
  saveNo := fun W w p k F n m x _ h _ hx => by
    obtain ⟨q, Fd, Fs, rows, c, wh, h, _⟩ := h
    exact ksave_no w k q m x h.kb hx
  saveNil := ksave_nil
  get := fun W w p k F n m _ h => by
    obtain ⟨q, Fd, Fs, rows, c, wh, h, _⟩ := h
    exact kmeta_any w k q m h.kb
  getNil := kmeta_nil
  may := fun w x _ => mmay_any w x
theorem mtaken {W : World} (h : Taken W) : theMeta.T W := h
end Go.Proofs.YtmnjdlnjhomhnaaDoor
