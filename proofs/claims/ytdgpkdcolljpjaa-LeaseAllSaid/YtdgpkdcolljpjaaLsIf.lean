/-
  WHAT THE PROGRAM's LEASES ANSWER (the face of layer 17), however they are kept; a lease on a clock.
-/
import Derived.Test.YtdgpkdcolljpjaaCkTick
namespace Go.Proofs.Ytdgpkdcolljpjaa
open Go Go.RowKit Go.Joins

/-- What a lease has: its end, for which epoch, the greatest epoch that it had. -/
structure LsS where
  fin : Int
  ep : Int
  top : Int
deriving DecidableEq
def ls0 : LsS := ⟨0, 0, 0⟩
def takeB (n : Int) (s : LsS) (sent ep : Int) : Bool :=
  decide (0 ≤ sent) && (decide (sent ≤ n) && (decide (n < sent + 20) && (decide (s.top ≤ ep) && (decide (1 ≤ ep) && !(decide (ep = s.ep) && decide (sent + 20 ≤ s.fin))))))
def takeS (n : Int) (s : LsS) (sent ep : Int) : LsS := if takeB n s sent ep then ⟨sent + 20, ep, ep⟩ else s
def goodB (n : Int) (s : LsS) (ep : Int) : Bool := decide (0 < ep) && (decide (ep = s.ep) && decide (n < s.fin))
def leftZ (n : Int) (s : LsS) : Int := max 0 (s.fin - n)
/-- What may be: nothing beyond the clock's end and a lease. -/
structure LsS.Ok (s : LsS) : Prop where
  f0 : 0 ≤ s.fin
  f1 : s.fin ≤ 1099511627796
  t0 : 0 ≤ s.top
theorem LsS.Ok.zero : ls0.Ok := ⟨Int.le_refl _, by decide, Int.le_refl _⟩
theorem takeS_ok {n : Int} {s : LsS} (h : s.Ok) (h1 : n ≤ 1099511627776) (sent ep : Int) : (takeS n s sent ep).Ok := by
  unfold takeS
  cases ht : takeB n s sent ep with
  | false => exact h
  | true =>
    unfold takeB at ht
    simp only [Bool.and_eq_true, decide_eq_true_eq] at ht
    obtain ⟨a1, a2, a3, a4, a5, -⟩ := ht
    exact ⟨show (0 : Int) ≤ sent + 20 by omega, show sent + 20 ≤ (1099511627796 : Int) by omega, show (0 : Int) ≤ ep by omega⟩

structure LeaseOK (S : ClockOK) where
  At : World → World → Nat → (Nat → Prop) → Nat → LsS → Prop
  atIn : ∀ {W w l F c s}, At W w l F c s → Kp W w ∧ (∀ b, F b → W.heap.size ≤ b ∧ b < w.heap.size) ∧ s.Ok
  atKeep : ∀ {W w w' l F c s}, At W w l F c s → Keeps F w w' → Kp W w' → At W w' l F c s
  ptr : ∀ {W w l F c s}, At W w l F c s → w.cell? ⟨l, 0, none⟩ = some (.pointer (some ⟨c, 0, none⟩))
  new : ∀ (W w : World) (c : Nat) (Fc : Nat → Prop) (n : Int), S.At W w c Fc n →
    Calls Try.prog 10 #[.pointer (some ⟨c, 0, none⟩)] w fun e w' => ∃ l F, e = .returned (.pointer (some ⟨l, 0, none⟩)) ∧ At W w' l F c ls0 ∧ (∀ b, F b → w.heap.size ≤ b) ∧ Kp w w'
  newNil : ∀ (W w : World), Kp W w →
    Calls Try.prog 10 #[.pointer none] w fun e w' => ∃ l F c Fc, e = .returned (.pointer (some ⟨l, 0, none⟩)) ∧ At W w' l F c ls0 ∧ S.At W w' c Fc 0 ∧ (∀ b, F b → ¬ Fc b) ∧ Kp w w'
  ask : ∀ (W w : World) (l : Nat) (F : Nat → Prop) (c : Nat) (Fc : Nat → Prop) (n : Int) (s : LsS), At W w l F c s → S.At W w c Fc n →
    Calls Try.prog 21 #[.pointer (some ⟨l, 0, none⟩)] w fun e w' => e = .returned (.int .i64 n) ∧ Kp w w'
  take : ∀ (W w : World) (l : Nat) (F : Nat → Prop) (c : Nat) (Fc : Nat → Prop) (n : Int) (s : LsS) (sent ep : Int), At W w l F c s → S.At W w c Fc n → (∀ b, F b → ¬ Fc b) →
    Calls Try.prog 13 #[.pointer (some ⟨l, 0, none⟩), .int .i64 sent, .int .i64 ep] w fun e w' => e = .returned (.bool (takeB n s sent ep)) ∧ ∃ F', At W w' l F' c (takeS n s sent ep) ∧ (∀ b, F' b → F b ∨ w.heap.size ≤ b) ∧ Keeps (fun b => ¬ F b) w w'
  good : ∀ (W w : World) (l : Nat) (F : Nat → Prop) (c : Nat) (Fc : Nat → Prop) (n : Int) (s : LsS) (ep : Int), At W w l F c s → S.At W w c Fc n →
    Calls Try.prog 17 #[.pointer (some ⟨l, 0, none⟩), .int .i64 ep] w fun e w' => e = .returned (.bool (goodB n s ep)) ∧ Kp w w'
  left : ∀ (W w : World) (l : Nat) (F : Nat → Prop) (c : Nat) (Fc : Nat → Prop) (n : Int) (s : LsS), At W w l F c s → S.At W w c Fc n →
    Calls Try.prog 19 #[.pointer (some ⟨l, 0, none⟩)] w fun e w' => e = .returned (.int .i64 (leftZ n s)) ∧ Kp w w'
  drop : ∀ (W w : World) (l : Nat) (F : Nat → Prop) (c : Nat) (s : LsS), At W w l F c s →
    Calls Try.prog 15 #[.pointer (some ⟨l, 0, none⟩)] w fun e w' => e = .returned (.tuple #[]) ∧ ∃ F', At W w' l F' c ls0 ∧ (∀ b, F' b → F b ∨ w.heap.size ≤ b) ∧ Keeps (fun b => ¬ F b) w w'
  askNil : ∀ w : World, Calls Try.prog 21 #[.pointer none] w fun e w' => e = .returned (.int .i64 0) ∧ Kp w w'
  takeNil : ∀ (w : World) (sent ep : Int), Calls Try.prog 13 #[.pointer none, .int .i64 sent, .int .i64 ep] w fun e w' => e = .returned (.bool false) ∧ Kp w w'
  goodNil : ∀ (w : World) (ep : Int), Calls Try.prog 17 #[.pointer none, .int .i64 ep] w fun e w' => e = .returned (.bool false) ∧ Kp w w'
  leftNil : ∀ w : World, Calls Try.prog 19 #[.pointer none] w fun e w' => e = .returned (.int .i64 0) ∧ Kp w w'
  dropNil : ∀ w : World, Calls Try.prog 15 #[.pointer none] w fun e w' => e = .returned (.tuple #[]) ∧ Kp w w'

/-- A lease on its clock. -/
structure Lz {S : ClockOK} (L : LeaseOK S) (W w : World) (l c : Nat) (n : Int) (s : LsS) (F Fc : Nat → Prop) : Prop where
  at_ : L.At W w l F c s
  ck : S.At W w c Fc n
  dj : ∀ b, F b → ¬ Fc b
section
variable {S : ClockOK} {L : LeaseOK S} {W w w' : World} {l c : Nat} {n : Int} {s : LsS} {F Fc : Nat → Prop}
theorem LeaseOK.atK (L : LeaseOK S) (h : L.At W w l F c s) (hk : Kp w w') : L.At W w' l F c s := L.atKeep h (hk.mono fun _ _ _ => trivial) ((L.atIn h).1.trans hk)
theorem LeaseOK.past (L : LeaseOK S) (h : L.At W w l F c s) (hk : Keeps (fun b => ¬ F b) w w') : Kp W w' :=
  (((L.atIn h).1.mono fun _ _ _ => trivial : Keeps (fun b => ¬ F b) W w).trans hk).mono fun b hb _ hF => by have := ((L.atIn h).2.1 b hF).1; omega
theorem Lz.keep (h : Lz L W w l c n s F Fc) (hk : Kp w w') : Lz L W w' l c n s F Fc := ⟨L.atK h.at_ hk, S.atK h.ck hk, h.dj⟩
theorem Lz.kp (h : Lz L W w l c n s F Fc) : Kp W w := (S.atIn h.ck).1
theorem Lz.ptr (h : Lz L W w l c n s F Fc) : w.cell? ⟨l, 0, none⟩ = some (.pointer (some ⟨c, 0, none⟩)) := L.ptr h.at_
theorem lz_nil (L : LeaseOK S) (hk : Kp W w) : Calls Try.prog 10 #[.pointer none] w fun e w' => ∃ l c F Fc, e = .returned (.pointer (some ⟨l, 0, none⟩)) ∧ Lz L W w' l c 0 ls0 F Fc :=
  (L.newNil W w hk).mono fun _ _ ⟨l, F, c, Fc, h1, h2, h3, h4, _⟩ => ⟨l, c, F, Fc, h1, h2, h3, h4⟩
theorem lz_new (L : LeaseOK S) (h : S.At W w c Fc n) : Calls Try.prog 10 #[.pointer (some ⟨c, 0, none⟩)] w fun e w' => ∃ l F, e = .returned (.pointer (some ⟨l, 0, none⟩)) ∧ Lz L W w' l c n ls0 F Fc ∧ (∀ b, F b → w.heap.size ≤ b) ∧ Kp w w' :=
  (L.new W w c Fc n h).mono fun _ _ ⟨l, F, h1, h2, h3, h4⟩ => ⟨l, F, h1, ⟨h2, S.atK h h4, fun b hb hc => by have := h3 b hb; have := ((S.atIn h).2.1 b hc).2; omega⟩, h3, h4⟩
theorem lz_tick (h : Lz L W w l c n s F Fc) (x : Int) : Calls Try.prog 12 #[.pointer (some ⟨c, 0, none⟩), .slice (some ⟨w.heap.size, 0, none⟩) 1 1] (w.alloc (.cells #[.int .i64 x] 2)) fun e w' => e = .returned (.int .i64 (tickZ n x)) ∧ ∃ Fc', Lz L W w' l c (tickZ n x) s F Fc' ∧ (∀ b, Fc' b → Fc b ∨ w.heap.size ≤ b) ∧ Keeps (fun b => ¬ Fc b) w w' :=
  (tick_new S h.ck [x] #[.int .i64 x] rfl (Nat.le_add_left _ _)).mono fun _ _ ⟨h1, Fc', h2, h3, h4, h5⟩ => ⟨h1, Fc', ⟨L.atKeep h.at_ (h5.mono fun b _ hb => h.dj b hb) h3, h2, fun b hb hc => by
    rcases h4 b hc with hh | hh
    · exact h.dj b hb hh
    · have := ((L.atIn h.at_).2.1 b hb).2; omega⟩, h4, h5⟩
theorem lz_take (h : Lz L W w l c n s F Fc) (sent ep : Int) : Calls Try.prog 13 #[.pointer (some ⟨l, 0, none⟩), .int .i64 sent, .int .i64 ep] w fun e w' => e = .returned (.bool (takeB n s sent ep)) ∧ ∃ F', Lz L W w' l c n (takeS n s sent ep) F' Fc ∧ (∀ b, F' b → F b ∨ w.heap.size ≤ b) ∧ Keeps (fun b => ¬ F b) w w' :=
  (L.take W w l F c Fc n s sent ep h.at_ h.ck h.dj).mono fun _ _ ⟨h1, F', h2, h3, h4⟩ => ⟨h1, F', ⟨h2, S.atKeep h.ck (h4.mono fun b _ hb hh => h.dj b hh hb) (L.past h.at_ h4), fun b hb hc => by
    rcases h3 b hb with hh | hh
    · exact h.dj b hh hc
    · have := ((S.atIn h.ck).2.1 b hc).2; omega⟩, h3, h4⟩
theorem lz_drop (h : Lz L W w l c n s F Fc) : Calls Try.prog 15 #[.pointer (some ⟨l, 0, none⟩)] w fun e w' => e = .returned (.tuple #[]) ∧ ∃ F', Lz L W w' l c n ls0 F' Fc ∧ (∀ b, F' b → F b ∨ w.heap.size ≤ b) ∧ Keeps (fun b => ¬ F b) w w' :=
  (L.drop W w l F c s h.at_).mono fun _ _ ⟨h1, F', h2, h3, h4⟩ => ⟨h1, F', ⟨h2, S.atKeep h.ck (h4.mono fun b _ hb hh => h.dj b hh hb) (L.past h.at_ h4), fun b hb hc => by
    rcases h3 b hb with hh | hh
    · exact h.dj b hh hc
    · have := ((S.atIn h.ck).2.1 b hc).2; omega⟩, h3, h4⟩
end

end Go.Proofs.Ytdgpkdcolljpjaa
