/-
  WHAT THE PROGRAM's RIGHTS TO FILL ANSWER (the face of layer 18), however they are kept.
-/
import Derived.Test.YtoegdfiehjabjaaProg
import Derived.Test.YtoegdfiehjabjaaObj
import Derived.Test.YtoegdfiehjabjaaInvOne
import Derived.WalkSpells
import Derived.Lib.Hide
import Derived.Lib.SmallJoins
namespace Go.Proofs.Ytoegdfiehjabjaa
open Go Go.RowKit Go.Joins

/-- A right that was given: its key, is it good, was it used. -/
structure Tk where
  key : ByteArray
  good : Bool
  used : Bool
instance instTkInhabited : Inhabited Tk := ⟨⟨⟨#[]⟩, false, false⟩⟩
def tkNew (k : ByteArray) : Tk := ⟨k, true, false⟩
/-- The right of this number. -/
def tkAt (L : List Tk) (id : Int) : Option Tk := if 1 ≤ id then L[(id - 1).toNat]? else none
def tkUse (L : List Tk) (id : Int) : ByteArray × Bool :=
  match tkAt L id with
  | some t => if t.used then (⟨#[]⟩, false) else (t.key, t.good)
  | none => (⟨#[]⟩, false)
def tkUsed (L : List Tk) (id : Int) : List Tk :=
  match tkAt L id with
  | some t => L.set (id - 1).toNat { t with used := true }
  | none => L
def hits (p : ByteArray → Bool) (t : Tk) : Bool := p t.key && (t.good && !t.used)
def tkDead (p : ByteArray → Bool) (t : Tk) : Tk := if hits p t then { t with good := false } else t
def tkKill (p : ByteArray → Bool) (L : List Tk) : List Tk := L.map (tkDead p)
def tkCount (p : ByteArray → Bool) (L : List Tk) : Nat := L.countP (hits p)
def tkLen (L : List Tk) : Nat := L.countP fun t => !t.used
def sameT (a b : ByteArray) : Bool := decide (a.data = b.data)
theorem str_sameT (a b : ByteArray) : (a.toList == b.toList) = sameT a b := by
  rw [ByteArray.toList_eq, ByteArray.toList_eq]
  unfold sameT
  by_cases h : a.data = b.data
  · rw [h]; simp
  · have h2 : ¬ a.data.toList = b.data.toList := fun e => h (Array.ext' e)
    rw [decide_eq_false h]
    simpa using h
theorem sameT_self (a : ByteArray) : sameT a a = true := decide_eq_true rfl
def inKeys (ks : List ByteArray) : ByteArray → Bool := fun k => ks.any fun x => sameT x k
def allKeys : ByteArray → Bool := fun _ => true
theorem tkKill_len (p : ByteArray → Bool) (L : List Tk) : (tkKill p L).length = L.length := by simp [tkKill]
theorem tkUsed_len (L : List Tk) (id : Int) : (tkUsed L id).length = L.length := by
  unfold tkUsed
  split <;> simp
theorem tkCount_le (p : ByteArray → Bool) (L : List Tk) : tkCount p L ≤ L.length := List.countP_le_length
theorem tkLen_le (L : List Tk) : tkLen L ≤ L.length := List.countP_le_length

/-- 'At W w t F L': the rights L were given, kept at t, in the blocks F, all new since W. -/
structure TokensOK where
  T : World → Prop
  tk : ∀ {w w' : World}, T w → Kp w w' → T w'
  At : World → World → Nat → (Nat → Prop) → List Tk → Prop
  atIn : ∀ {W w t F L}, At W w t F L → Kp W w ∧ ∀ b, F b → W.heap.size ≤ b ∧ b < w.heap.size
  atKeep : ∀ {W w w' t F L}, At W w t F L → Keeps F w w' → Kp W w' → At W w' t F L
  new : ∀ (W w : World), T W → Kp W w →
    Calls Try.prog 8 #[] w fun e w' => ∃ t F, e = .returned (.pointer (some ⟨t, 0, none⟩)) ∧ At W w' t F [] ∧ (∀ b, F b → w.heap.size ≤ b) ∧ Kp w w'
  give : ∀ (W w : World) (t : Nat) (F : Nat → Prop) (L : List Tk) (k : ByteArray), T W → At W w t F L → L.length ≤ 1000 → k.size ≤ 1000000 →
    Calls Try.prog 11 #[.pointer (some ⟨t, 0, none⟩), .string k] w fun e w' => e = .returned (.int .i64 ((L.length + 1 : Nat) : Int)) ∧ ∃ F', At W w' t F' (L ++ [tkNew k]) ∧ (∀ b, F' b → F b ∨ w.heap.size ≤ b) ∧ Keeps (fun b => ¬ F b) w w'
  giveNil : ∀ (w : World) (k : ByteArray), Calls Try.prog 11 #[.pointer none, .string k] w fun e w' => e = .returned (.int .i64 0) ∧ Kp w w'
  use : ∀ (W w : World) (t : Nat) (F : Nat → Prop) (L : List Tk) (id : Int), T W → At W w t F L → L.length ≤ 1000 → -9223372036854775808 ≤ id → id < 9223372036854775808 →
    Calls Try.prog 13 #[.pointer (some ⟨t, 0, none⟩), .int .i64 id] w fun e w' => e = .returned (.tuple #[.string (tkUse L id).1, .bool (tkUse L id).2]) ∧ ∃ F', At W w' t F' (tkUsed L id) ∧ (∀ b, F' b → F b ∨ w.heap.size ≤ b) ∧ Keeps (fun b => ¬ F b) w w'
  useNil : ∀ (w : World) (id : Int), Calls Try.prog 13 #[.pointer none, .int .i64 id] w fun e w' => e = .returned (.tuple #[.string ⟨#[]⟩, .bool false]) ∧ Kp w w'
  kill : ∀ (W w : World) (t : Nat) (F : Nat → Prop) (L : List Tk) (A : Option Addr) (c n : Nat) (G : Nat → Prop) (ks : List ByteArray), T W → At W w t F L → L.length ≤ 1000 → n = ks.length → Row w A G (ks.map Value.string) → (∀ b, G b → ¬ F b) → n ≤ c → c ≤ maxLen → n ≤ 1000 → (∀ k ∈ ks, k.size ≤ 1000000) →
    Calls Try.prog 15 #[.pointer (some ⟨t, 0, none⟩), .slice A n c] w fun e w' => e = .returned (.int .i64 (tkCount (inKeys ks) L : Int)) ∧ ∃ F', At W w' t F' (tkKill (inKeys ks) L) ∧ (∀ b, F' b → F b ∨ w.heap.size ≤ b) ∧ Keeps (fun b => ¬ F b) w w'
  killNil : ∀ (w : World) (A : Option Addr) (c n : Nat), n ≤ c → c ≤ maxLen → Calls Try.prog 15 #[.pointer none, .slice A n c] w fun e w' => e = .returned (.int .i64 0) ∧ Kp w w'
  clear_ : ∀ (W w : World) (t : Nat) (F : Nat → Prop) (L : List Tk), T W → At W w t F L → L.length ≤ 1000 →
    Calls Try.prog 17 #[.pointer (some ⟨t, 0, none⟩)] w fun e w' => e = .returned (.int .i64 (tkCount allKeys L : Int)) ∧ ∃ F', At W w' t F' (tkKill allKeys L) ∧ (∀ b, F' b → F b ∨ w.heap.size ≤ b) ∧ Keeps (fun b => ¬ F b) w w'
  clearNil : ∀ w : World, Calls Try.prog 17 #[.pointer none] w fun e w' => e = .returned (.int .i64 0) ∧ Kp w w'
  len : ∀ (W w : World) (t : Nat) (F : Nat → Prop) (L : List Tk), T W → At W w t F L → L.length ≤ 1000 →
    Calls Try.prog 18 #[.pointer (some ⟨t, 0, none⟩)] w fun e w' => e = .returned (.int .i64 (tkLen L : Int)) ∧ Kp w w'
  lenNil : ∀ w : World, Calls Try.prog 18 #[.pointer none] w fun e w' => e = .returned (.int .i64 0) ∧ Kp w w'

section
variable {W w w' : World} {t : Nat} {F : Nat → Prop} {L : List Tk}
theorem TokensOK.atK (S : TokensOK) (h : S.At W w t F L) (hk : Kp w w') : S.At W w' t F L := S.atKeep h (hk.mono fun _ _ _ => trivial) ((S.atIn h).1.trans hk)
theorem TokensOK.past (S : TokensOK) (h : S.At W w t F L) (hk : Keeps (fun b => ¬ F b) w w') : Kp W w' :=
  (((S.atIn h).1.mono fun _ _ _ => trivial : Keeps (fun b => ¬ F b) W w).trans hk).mono fun b hb _ hF => by have := ((S.atIn h).2 b hF).1; omega
end
/-- The key that the laws speak of most. -/
def kk : ByteArray := ⟨#[107]⟩

end Go.Proofs.Ytoegdfiehjabjaa
