/-
  WHAT THE PROGRAM's CLOCKS ANSWER (the face of layer 16), however they count; the reference's Tick.
-/
import Derived.Test.YtdgpkdcolljpjaaProg
import Derived.Test.YtdgpkdcolljpjaaObj
import Derived.Test.YtdgpkdcolljpjaaInvOne
import Derived.WalkSpells
import Derived.Lib.Hide
import Derived.Lib.SmallJoins
namespace Go.Proofs.Ytdgpkdcolljpjaa
open Go Go.RowKit Go.Joins

/-- One step. -/
def tickZ (now n : Int) : Int := if n < 0 ∨ 1099511627776 - now < n then now else now + n
/-- All of them, one after the other; of none one. -/
def ticks (now : Int) (l : List Int) : Int := if l = [] then tickZ now 1 else l.foldl tickZ now
def sinceZ (now t : Int) : Int := if 0 ≤ t ∧ t ≤ now then now - t else 0
theorem tickZ_rng {now : Int} (h0 : 0 ≤ now) (h1 : now ≤ 1099511627776) (n : Int) : 0 ≤ tickZ now n ∧ tickZ now n ≤ 1099511627776 := by
  unfold tickZ
  split <;> omega
theorem fold_rng (l : List Int) {now : Int} (h0 : 0 ≤ now) (h1 : now ≤ 1099511627776) : 0 ≤ l.foldl tickZ now ∧ l.foldl tickZ now ≤ 1099511627776 := by
  induction l generalizing now with
  | nil => exact ⟨h0, h1⟩
  | cons x l ih =>
    obtain ⟨h2, h3⟩ := tickZ_rng h0 h1 x
    exact ih h2 h3
theorem ticks_one (now n : Int) : ticks now [n] = tickZ now n := rfl
theorem fold_next (l : List Int) (now : Int) (k : Nat) (h : k < l.length) : (l.take (k + 1)).foldl tickZ now = tickZ ((l.take k).foldl tickZ now) l[k] := by
  rw [List.take_succ_eq_append_getElem h, List.foldl_append]; rfl
/-- A zero Clock, as the program lays it. -/
def zClock : Obj := .cells #[.int .i64 0] 25
structure ClockOK where
  At : World → World → Nat → (Nat → Prop) → Int → Prop
  atIn : ∀ {W w c F n}, At W w c F n → Kp W w ∧ (∀ b, F b → W.heap.size ≤ b ∧ b < w.heap.size) ∧ 0 ≤ n ∧ n ≤ 1099511627776
  atKeep : ∀ {W w w' c F n}, At W w c F n → Keeps F w w' → Kp W w' → At W w' c F n
  zero : ∀ (W w : World), Kp W w → At W (w.alloc zClock) w.heap.size (fun b => b = w.heap.size) 0
  now : ∀ (W w : World) (c : Nat) (F : Nat → Prop) (n : Int), At W w c F n →
    Calls Try.prog 22 #[.pointer (some ⟨c, 0, none⟩)] w fun e w' => e = .returned (.int .i64 n) ∧ Kp w w'
  tick : ∀ (W w : World) (c : Nat) (F : Nat → Prop) (n : Int) (A : Option Addr) (cap : Nat) (l : List Int), At W w c F n → Row w A (fun b => ¬ F b) (l.map (Value.int .i64)) → l.length ≤ cap → cap ≤ maxLen →
    Calls Try.prog 12 #[.pointer (some ⟨c, 0, none⟩), .slice A l.length cap] w fun e w' => e = .returned (.int .i64 (ticks n l)) ∧ ∃ F', At W w' c F' (ticks n l) ∧ (∀ b, F' b → F b ∨ w.heap.size ≤ b) ∧ Keeps (fun b => ¬ F b) w w'
  since : ∀ (W w : World) (c : Nat) (F : Nat → Prop) (n t : Int), At W w c F n →
    Calls Try.prog 24 #[.pointer (some ⟨c, 0, none⟩), .int .i64 t] w fun e w' => e = .returned (.int .i64 (sinceZ n t)) ∧ Kp w w'
  nowNil : ∀ w : World, Calls Try.prog 22 #[.pointer none] w fun e w' => e = .returned (.int .i64 0) ∧ Kp w w'
  tickNil : ∀ (w : World) (A : Option Addr) (n cap : Nat), Calls Try.prog 12 #[.pointer none, .slice A n cap] w fun e w' => e = .returned (.int .i64 0) ∧ Kp w w'
  sinceNil : ∀ (w : World) (t : Int), Calls Try.prog 24 #[.pointer none, .int .i64 t] w fun e w' => e = .returned (.int .i64 0) ∧ Kp w w'
section
variable {S : ClockOK} {W w w' : World} {c : Nat} {F : Nat → Prop} {n : Int}
theorem ClockOK.atK (S : ClockOK) (h : S.At W w c F n) (hk : Kp w w') : S.At W w' c F n := S.atKeep h (hk.mono fun _ _ _ => trivial) ((S.atIn h).1.trans hk)
/-- A call that writes in the clock's own blocks keeps those that were there. -/
theorem ClockOK.past (S : ClockOK) (h : S.At W w c F n) (hk : Keeps (fun b => ¬ F b) w w') : Kp W w' :=
  (((S.atIn h).1.mono fun _ _ _ => trivial : Keeps (fun b => ¬ F b) W w).trans hk).mono fun b hb _ hF => by have := ((S.atIn h).2.1 b hF).1; omega
end
theorem rtick_any (w : World) (now n : Int) (h0 : 0 ≤ now) (h1 : now ≤ 1099511627776) : Calls Try.prog 11 #[.int .i64 now, .int .i64 n] w fun e w' => e = .returned (.int .i64 (tickZ now n)) ∧ w = w' := by
  have hcs : decide (n < 0) = true ∨ decide (n < 0) = false ∧ (decide (1099511627776 - now < n) = true ∨ decide (1099511627776 - now < n) = false) := by
    cases decide (n < 0) <;> cases decide (1099511627776 - now < n) <;> simp
  rcases hcs with t1 | ⟨t1, t2 | t2⟩
  · have HE := Lib.hid (show tickZ now n = now from by unfold tickZ; rw [if_pos (.inl (by simpa using t1))])
    go_enter Try.func11, Try.ntmps11
    go_wp2_with fail
    go_ret
    exact ⟨by rw [HE.out]; rfl, rfl⟩
  · have HE := Lib.hid (show tickZ now n = now from by unfold tickZ; rw [if_pos (.inr (by simpa using t2))])
    go_enter Try.func11, Try.ntmps11
    go_wp2_with fail
    go_ret
    exact ⟨by rw [HE.out]; rfl, rfl⟩
  · have h2 : ¬ n < 0 := by simpa using t1
    have h3 : ¬ 1099511627776 - now < n := by simpa using t2
    have HE := Lib.hid (show tickZ now n = now + n from by unfold tickZ; rw [if_neg (by omega)])
    go_enter Try.func11, Try.ntmps11
    go_wp2_with fail
    go_ret
    exact ⟨by rw [HE.out]; rfl, rfl⟩

end Go.Proofs.Ytdgpkdcolljpjaa
