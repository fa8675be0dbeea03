/-
  A DEVICE OF THE PROGRAM IN NEW BLOCKS, as the laws of the layers above hold it: made, written, read, crashed.
-/
import Derived.Test.YtgdbkmecfbkobaaDoorAllMade
namespace Go.Proofs.YtgdbkmecfbkobaaDoor
open Go Go.RowKit Go.Joins

/-- A device that has nothing loose. -/
def SDev.still (rows : List (List UInt8)) (n : Nat) : SDev := ⟨rows, rows, List.replicate rows.length false, n⟩
theorem still_loose (rows : List (List UInt8)) (n : Nat) : (SDev.still rows n).loose = [] := clear_loose _ rows.length rfl
theorem still_crash (rows : List (List UInt8)) (n : Nat) (keep : List Bool) : (SDev.still rows n).crash keep = SDev.still rows 0 := by
  have h : keptN (SDev.still rows n) keep (min (SDev.still rows n).loose.length keep.length) = rows := by rw [still_loose]; simp [keptN_zero, SDev.still]
  unfold SDev.crash
  rw [h]; rfl
theorem new_still (k : Nat) : SDev.new k = SDev.still (List.replicate k blank) 0 := by simp [SDev.new, SDev.still]
theorem still_len (rows : List (List UInt8)) (n : Nat) : (SDev.still rows n).now.length = rows.length := rfl

/-- A device in blocks that are new since W. -/
structure Dv (W w : World) (p : Nat) (F : Foot) (s : SDev) : Prop where
  d : DAt w p F s
  gd : ∀ b, F.all b → W.heap.size ≤ b
  kp : Keeps (fun _ => True) W w
section
variable {W w w' : World} {p q : Nat} {F F' Fs Fs' : Foot} {s s' : SDev}
theorem Dv.keep (h : Dv W w p F s) (hk : Keeps (fun _ => True) w w') : Dv W w' p F s := ⟨h.d.keep (hk.mono fun _ _ _ => trivial), h.gd, h.kp.trans hk⟩
theorem Dv.step (h : Dv W w p F s) (hr : DAt w' p F' s') (hs : Step F F' w w') : Dv W w' p F' s' :=
  ⟨hr, fun b hb => by
    rcases hs.all b hb with h1 | h1
    · exact h.gd b h1
    · exact Nat.le_trans h.kp.size h1, hs.old (fun b hb => h.gd b (.inl hb)) h.kp⟩
/-- A device that was made. -/
theorem dv_new (hk : Keeps (fun _ => True) W w) (n : Nat) (h1 : 1 ≤ n) (h2 : n ≤ 2048) (z : Int) (hz : z = (n : Int)) :
    Calls Tryd.prog 9 #[.int .i64 z] w fun e w' => ∃ p F, e = .returned (.pointer (some ⟨p, 0, none⟩)) ∧ Dv W w' p F (SDev.still (List.replicate n blank) 0) ∧ (∀ b, F.all b → w.heap.size ≤ b) ∧ Keeps (fun _ => True) w w' := by
  subst hz
  refine (dnew_any w (n : Int) (by omega) (by omega)).mono ?_
  rintro e w' ⟨p, F, rfl, hD, hF, hk'⟩
  have e : clampN (n : Int) = n := by unfold clampN; omega
  rw [e, new_still] at hD
  exact ⟨p, F, rfl, ⟨hD, fun b hb => Nat.le_trans hk.size (hF b hb), hk.trans hk'⟩, hF, hk'⟩
theorem dv_crash (h : Dv W w p F s) (K : Option Addr) (kc : Nat) (G : Nat → Prop) (keep : List Bool) (m : Nat) (hm : m = keep.length) (hK : Row w K G (keep.map Value.bool)) (hkl : keep.length ≤ maxLen) :
    Calls Tryd.prog 19 #[.pointer (some ⟨p, 0, none⟩), .slice K m kc] w fun e w' => ∃ q F', e = .returned (.pointer (some ⟨q, 0, none⟩)) ∧ Dv W w' q F' (s.crash keep) ∧ Keeps (fun _ => True) w w' := by
  subst hm
  refine (dcrash_any w p F s h.d K kc G keep hK hkl).mono ?_
  rintro e w' ⟨q, F', rfl, hD, h1, h2, hk⟩
  exact ⟨q, F', rfl, ⟨hD, fun b hb => by
    rcases hb with hb | hb
    · exact Nat.le_trans h.kp.size (h1 b hb)
    · rcases h2 b hb with hb | hb
      · exact h.gd b (.inr hb)
      · exact Nat.le_trans h.kp.size hb, h.kp.trans hk⟩, hk⟩
/-- A whole sector is written. -/
theorem dv_write64 (h : Dv W w p F s) (i : Nat) (A : Option Addr) (c : Nat) (l : List UInt8) (n : Nat) (hn : n = l.length) (hl : l.length = 64) (hi : i < s.now.length) (hr : Row w A (fun b => ¬ F.all b) (bcells l)) (hcalls : s.calls ≤ 1099511627776) :
    Calls Tryd.prog 61 #[.pointer (some ⟨p, 0, none⟩), .int .i64 (i : Int), .slice A n c] w fun e w' => e = .returned (.int .i64 0) ∧ ∃ F', Dv W w' p F' (s.write i l) ∧ (s.write i l).now = s.now.set i l ∧ (s.write i l).calls = s.calls + 1 ∧ Step F F' w w' := by
  subst hn
  refine (dwrite_yes w p F s h.d i A c _ l hr (fun b hb => hb) hi (by omega) hcalls).mono ?_
  rintro e w' ⟨rfl, F', hD, hst⟩
  refine ⟨rfl, F', h.step hD hst, ?_, rfl, hst⟩
  show s.now.set i (over l (s.now.getD i [])) = _
  have hrow : (s.now.getD i []).length = 64 := by rw [getD_mem _ _ _ hi]; exact h.d.ok.nrow _ (List.getElem_mem hi)
  unfold over
  rw [List.drop_of_length_le (by omega), List.append_nil]
/-- The beginning of a sector is written. -/
theorem dv_write (h : Dv W w p F s) (i : Nat) (A : Option Addr) (c : Nat) (l : List UInt8) (n : Nat) (hn : n = l.length) (hl : l.length ≤ 64) (hi : i < s.now.length) (hr : Row w A (fun b => ¬ F.all b) (bcells l)) (hcalls : s.calls ≤ 1099511627776) :
    Calls Tryd.prog 61 #[.pointer (some ⟨p, 0, none⟩), .int .i64 (i : Int), .slice A n c] w fun e w' => e = .returned (.int .i64 0) ∧ ∃ F', Dv W w' p F' (s.write i l) ∧ Step F F' w w' := by
  subst hn
  refine (dwrite_yes w p F s h.d i A c _ l hr (fun b hb => hb) hi hl hcalls).mono ?_
  rintro e w' ⟨rfl, F', hD, hst⟩
  exact ⟨rfl, F', h.step hD hst, hst⟩
theorem d_read (h : DAt w p F s) (i : Nat) (hi : i < s.now.length) :
    Calls Tryd.prog 53 #[.pointer (some ⟨p, 0, none⟩), .int .i64 (i : Int)] w fun e w' => ∃ g c, e = .returned (.tuple #[.slice (some ⟨g, 0, none⟩) 64 c, .int .i64 0]) ∧ Row w' (some ⟨g, 0, none⟩) (fun b => w.heap.size ≤ b ∧ b < w'.heap.size) (bcells (s.now.getD i [])) ∧ c ≤ maxLen ∧ 64 ≤ c ∧ Keeps (fun _ => True) w w' := by
  have hsm := h.ok.small
  refine (dread_any w p F s h (i : Int) (by omega) (by omega)).mono ?_
  rintro e w' ⟨v, rfl, ho, hk⟩
  have e1 : s.readL (i : Int) = s.now.getD i [] := (if_neg (by omega)).trans (by rw [Int.toNat_natCast])
  have e2 : s.readE (i : Int) = 0 := if_neg (by omega)
  have hl : (s.now.getD i []).length = 64 := by rw [getD_mem _ _ _ hi]; exact h.ok.nrow _ (List.getElem_mem hi)
  rw [e1] at ho
  rw [e2]
  obtain ⟨g, c, rfl, hge, hlt⟩ := World.ownsRow.form ho (by omega)
  have hroom := own_room ho
  have hr : Row w' (some ⟨g, 0, none⟩) (fun b => w.heap.size ≤ b ∧ b < w'.heap.size) (bcells (s.now.getD i [])) := by
    have ho' := ho
    unfold OwnB at ho'
    rw [show (s.now.getD i []).length = (bcells (s.now.getD i [])).length by rw [bcells_len]] at ho'
    exact Row.of_own ho'
  rw [hl] at hroom
  exact ⟨g, c, by rw [hl], hr, hroom.2, hroom.1, hk⟩
theorem dv_read (h : Dv W w p F s) (i : Nat) (hi : i < s.now.length) :
    Calls Tryd.prog 53 #[.pointer (some ⟨p, 0, none⟩), .int .i64 (i : Int)] w fun e w' => ∃ g c, e = .returned (.tuple #[.slice (some ⟨g, 0, none⟩) 64 c, .int .i64 0]) ∧ Row w' (some ⟨g, 0, none⟩) (fun b => w.heap.size ≤ b ∧ b < w'.heap.size) (bcells (s.now.getD i [])) ∧ c ≤ maxLen ∧ 64 ≤ c ∧ Keeps (fun _ => True) w w' := d_read h.d i hi
/-- Bytes that came in, or are new, lie apart from what the program's objects have. -/
theorem row_new {A : Option Addr} {xs : List Value} (h : Row W A (fun b => b < W.heap.size) xs) (hk : Keeps (fun _ => True) W w) (hF : ∀ b, F.all b → W.heap.size ≤ b) (hFs : ∀ b, Fs.all b → W.heap.size ≤ b) : Row w A (fun b => ¬ F.all b ∧ ¬ Fs.all b) xs :=
  (h.keep (hk.mono fun _ _ _ => trivial)).mono fun b _ hb => ⟨fun hf => by have := hF b hf; omega, fun hf => by have := hFs b hf; omega⟩
end

end Go.Proofs.YtgdbkmecfbkobaaDoor
