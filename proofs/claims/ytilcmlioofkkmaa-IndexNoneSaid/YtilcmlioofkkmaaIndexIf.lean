/-
  WHAT THE PROGRAM'S INDEX KEEPS (the face of layer 8), whatever its table is made of.
-/
import Derived.Test.YtilcmlioofkkmaaObj
import Derived.Test.YtilcmlioofkkmaaBytes
import Derived.Lib.Hide
namespace Go.Proofs.Ytilcmlioofkkmaa
open Go Go.RowKit

/-- Keys and where they lie, in the order in which they came. -/
abbrev IxSt := List (ByteArray × Int)
def isK (k : ByteArray) (x : ByteArray × Int) : Bool := x.1.data.toList == k.data.toList
def ixGet (st : IxSt) (k : ByteArray) : Option Int := (st.find? (isK k)).map (·.2)
def ixPut (st : IxSt) (k : ByteArray) (p : Int) : IxSt := if (ixGet st k).isSome then st.map (fun x => if isK k x then (x.1, p) else x) else st ++ [(k, p)]
def ixDrop (st : IxSt) (k : ByteArray) : IxSt := st.filter fun x => !isK k x
def ixBelow (st : IxSt) (p : Int) : IxSt := st.filter fun x => decide (p ≤ x.2)
/-- Texts that rise, in Go's order. -/
def Rising (l : List ByteArray) : Prop := l.Pairwise fun a b => Op.bytesLess a.data.toList b.data.toList = true
def i64 (p : Int) : Prop := -9223372036854775808 ≤ p ∧ p < 9223372036854775808
structure IndexOK where
  T : World → Prop
  tk : ∀ {w w' : World}, T w → Keeps (fun _ => True) w w' → T w'
  rep : World → Nat → Foot → IxSt → Prop
  lt : ∀ {w q F st}, rep w q F st → ∀ b, F.all b → b < w.heap.size
  keep : ∀ {w w' q F st}, rep w q F st → Keeps F.all w w' → rep w' q F st
  new : ∀ w : World, T w → Calls Try.prog 9 #[] w fun e w' => ∃ (q : Nat) (F : Foot), e = .returned (.pointer (some ⟨q, 0, none⟩)) ∧ rep w' q F [] ∧ (∀ b, F.all b → w.heap.size ≤ b) ∧ Keeps (fun _ => True) w w'
  put : ∀ (W w : World) (q : Nat) (F : Foot) (st : IxSt), rep w q F st → T W → Keeps (fun _ => True) W w → (∀ b, F.all b → W.heap.size ≤ b) → st.length ≤ 4096 → ∀ (k : ByteArray) (p : Int), k.size ≤ 4096 → i64 p →
    Calls Try.prog 12 #[.pointer (some ⟨q, 0, none⟩), .string k, .int .i64 p] w fun e w' => e = .returned (.int .i64 ((ixGet st k).getD 0)) ∧ ∃ F' : Foot, rep w' q F' (ixPut st k p) ∧ Step F F' w w'
  get : ∀ (w : World) (q : Nat) (F : Foot) (st : IxSt), rep w q F st → T w → st.length ≤ 4096 → ∀ k : ByteArray, k.size ≤ 4096 →
    Calls Try.prog 15 #[.pointer (some ⟨q, 0, none⟩), .string k] w fun e w' => e = .returned (.tuple #[.int .i64 ((ixGet st k).getD 0), .bool (ixGet st k).isSome]) ∧ Keeps (fun _ => True) w w'
  drop : ∀ (W w : World) (q : Nat) (F : Foot) (st : IxSt), rep w q F st → T W → Keeps (fun _ => True) W w → (∀ b, F.all b → W.heap.size ≤ b) → st.length ≤ 4096 → ∀ k : ByteArray, k.size ≤ 4096 →
    Calls Try.prog 13 #[.pointer (some ⟨q, 0, none⟩), .string k] w fun e w' => e = .returned (.bool (ixGet st k).isSome) ∧ ∃ F' : Foot, rep w' q F' (ixDrop st k) ∧ Step F F' w w'
  len : ∀ (w : World) (q : Nat) (F : Foot) (st : IxSt), rep w q F st → T w → st.length ≤ 4096 →
    Calls Try.prog 16 #[.pointer (some ⟨q, 0, none⟩)] w fun e w' => e = .returned (.int .i64 (st.length : Int)) ∧ Keeps (fun _ => True) w w'
  below : ∀ (W w : World) (q : Nat) (F : Foot) (st : IxSt), rep w q F st → T W → Keeps (fun _ => True) W w → (∀ b, F.all b → W.heap.size ≤ b) → st.length ≤ 4096 → ∀ p : Int, i64 p →
    Calls Try.prog 14 #[.pointer (some ⟨q, 0, none⟩), .int .i64 p] w fun e w' => e = .returned (.int .i64 ((st.length - (ixBelow st p).length : Nat) : Int)) ∧ ∃ F' : Foot, rep w' q F' (ixBelow st p) ∧ Step F F' w w'
  keys : ∀ (w : World) (q : Nat) (F : Foot) (st : IxSt), rep w q F st → T w → st.length ≤ 4096 →
    Calls Try.prog 18 #[.pointer (some ⟨q, 0, none⟩)] w fun e w' => ∃ (A : Option Addr) (c : Nat) (ks : List ByteArray), e = .returned (.slice A st.length c) ∧ ks.Perm (st.map (·.1)) ∧ Rising ks ∧ st.length ≤ c ∧ c ≤ maxLen ∧
      Row w' A (fun b => w.heap.size ≤ b ∧ b < w'.heap.size) (ks.map Value.string) ∧ Keeps (fun _ => True) w w'
  putNil : ∀ (w : World) (k : ByteArray) (p : Int), Calls Try.prog 12 #[.pointer none, .string k, .int .i64 p] w fun e w' => e = .returned (.int .i64 0) ∧ Keeps (fun _ => True) w w'
  getNil : ∀ (w : World) (k : ByteArray), Calls Try.prog 15 #[.pointer none, .string k] w fun e w' => e = .returned (.tuple #[.int .i64 0, .bool false]) ∧ Keeps (fun _ => True) w w'
  dropNil : ∀ (w : World) (k : ByteArray), Calls Try.prog 13 #[.pointer none, .string k] w fun e w' => e = .returned (.bool false) ∧ Keeps (fun _ => True) w w'
  lenNil : ∀ w : World, Calls Try.prog 16 #[.pointer none] w fun e w' => e = .returned (.int .i64 0) ∧ Keeps (fun _ => True) w w'
  belowNil : ∀ (w : World) (p : Int), Calls Try.prog 14 #[.pointer none, .int .i64 p] w fun e w' => e = .returned (.int .i64 0) ∧ Keeps (fun _ => True) w w'
  keysNil : ∀ w : World, Calls Try.prog 18 #[.pointer none] w fun e w' => ∃ (A : Option Addr) (c : Nat), e = .returned (.slice A 0 c) ∧ Keeps (fun _ => True) w w'

/-- An index in new blocks. -/
structure Ix (S : IndexOK) (W w : World) (q : Nat) (F : Foot) (st : IxSt) : Prop where
  r : S.rep w q F st
  gs : ∀ b, F.all b → W.heap.size ≤ b
  kp : Keeps (fun _ => True) W w

section
variable {S : IndexOK} {W w w' : World} {q : Nat} {F F' : Foot} {st st' : IxSt}
theorem Ix.keep (h : Ix S W w q F st) (hk : Keeps (fun _ => True) w w') : Ix S W w' q F st := ⟨S.keep h.r (hk.mono fun _ _ _ => trivial), h.gs, h.kp.trans hk⟩
theorem Ix.step (h : Ix S W w q F st) (hr : S.rep w' q F' st') (hs : Step F F' w w') : Ix S W w' q F' st' :=
  ⟨hr, fun b hb => by
    rcases hs.all b hb with h1 | h1
    · exact h.gs b h1
    · exact Nat.le_trans h.kp.size h1, hs.old (fun b hb => h.gs b (.inl hb)) h.kp⟩
theorem ix_new (S : IndexOK) (hT : S.T W) (hk : Keeps (fun _ => True) W w) :
    Calls Try.prog 9 #[] w fun e w' => ∃ (q : Nat) (F : Foot), e = .returned (.pointer (some ⟨q, 0, none⟩)) ∧ Ix S W w' q F [] := by
  refine (S.new w (S.tk hT hk)).mono ?_
  rintro e w' ⟨q, F, rfl, hr, hF, hk'⟩
  exact ⟨q, F, rfl, hr, fun b hb => Nat.le_trans hk.size (hF b hb), hk.trans hk'⟩
theorem ix_put (hT : S.T W) (h : Ix S W w q F st) (hl : st.length ≤ 4096) (k : ByteArray) (p : Int) (hk : k.size ≤ 4096) (hp : i64 p) (v : Int) (hv : v = (ixGet st k).getD 0) (st' : IxSt) (hst : st' = ixPut st k p) :
    Calls Try.prog 12 #[.pointer (some ⟨q, 0, none⟩), .string k, .int .i64 p] w fun e w' => e = .returned (.int .i64 v) ∧ ∃ F' : Foot, Ix S W w' q F' st' := by
  subst hv; subst hst
  refine (S.put W w q F st h.r hT h.kp h.gs hl k p hk hp).mono ?_
  rintro e w' ⟨rfl, F', hr, hs⟩
  exact ⟨rfl, F', h.step hr hs⟩
theorem ix_get (hT : S.T W) (h : Ix S W w q F st) (hl : st.length ≤ 4096) (k : ByteArray) (hk : k.size ≤ 4096) (v : Int) (b : Bool) (hv : v = (ixGet st k).getD 0) (hb : b = (ixGet st k).isSome) :
    Calls Try.prog 15 #[.pointer (some ⟨q, 0, none⟩), .string k] w fun e w' => e = .returned (.tuple #[.int .i64 v, .bool b]) ∧ Ix S W w' q F st := by
  subst hv; subst hb
  refine (S.get w q F st h.r (S.tk hT h.kp) hl k hk).mono ?_
  rintro e w' ⟨rfl, hk'⟩
  exact ⟨rfl, h.keep hk'⟩
theorem ix_drop (hT : S.T W) (h : Ix S W w q F st) (hl : st.length ≤ 4096) (k : ByteArray) (hk : k.size ≤ 4096) (b : Bool) (hb : b = (ixGet st k).isSome) (st' : IxSt) (hst : st' = ixDrop st k) :
    Calls Try.prog 13 #[.pointer (some ⟨q, 0, none⟩), .string k] w fun e w' => e = .returned (.bool b) ∧ ∃ F' : Foot, Ix S W w' q F' st' := by
  subst hb; subst hst
  refine (S.drop W w q F st h.r hT h.kp h.gs hl k hk).mono ?_
  rintro e w' ⟨rfl, F', hr, hs⟩
  exact ⟨rfl, F', h.step hr hs⟩
theorem ix_len (hT : S.T W) (h : Ix S W w q F st) (hl : st.length ≤ 4096) (v : Int) (hv : v = (st.length : Int)) :
    Calls Try.prog 16 #[.pointer (some ⟨q, 0, none⟩)] w fun e w' => e = .returned (.int .i64 v) ∧ Ix S W w' q F st := by
  subst hv
  refine (S.len w q F st h.r (S.tk hT h.kp) hl).mono ?_
  rintro e w' ⟨rfl, hk'⟩
  exact ⟨rfl, h.keep hk'⟩
theorem ix_below (hT : S.T W) (h : Ix S W w q F st) (hl : st.length ≤ 4096) (p : Int) (hp : i64 p) (v : Int) (hv : v = ((st.length - (ixBelow st p).length : Nat) : Int)) (st' : IxSt) (hst : st' = ixBelow st p) :
    Calls Try.prog 14 #[.pointer (some ⟨q, 0, none⟩), .int .i64 p] w fun e w' => e = .returned (.int .i64 v) ∧ ∃ F' : Foot, Ix S W w' q F' st' := by
  subst hv; subst hst
  refine (S.below W w q F st h.r hT h.kp h.gs hl p hp).mono ?_
  rintro e w' ⟨rfl, F', hr, hs⟩
  exact ⟨rfl, F', h.step hr hs⟩
end

end Go.Proofs.Ytilcmlioofkkmaa
