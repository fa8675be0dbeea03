/-
  SUMS OF ONE PART, AS THEY STAND IN THE LAWS.
-/
import Derived.Test.YtfcbiaedhidibaaDoorCrcBegun
import Derived.Test.YtfcbiaedhidibaaDoorBytes
namespace Go.Proofs.YtfcbiaedhidibaaDoor
open Go Go.RowKit

theorem sum_one (A : Option Addr) (cap : Nat) (l : List UInt8) (b d : Nat) (F : Nat → Prop) (w : World) (h1 : Row w (some ⟨b, 0, none⟩) Any [.slice A l.length cap]) (h2 : Row w A F (bcells l)) (hl : l.length ≤ maxLen) (hT : Taken w) :
    Calls Tryd.prog 9 #[.slice (some ⟨b, 0, none⟩) 1 d] w fun e w' => e = .returned (.int .u32 ((crcN l : Nat) : Int)) ∧ w = w' := by
  have h := sum_any (some ⟨b, 0, none⟩) d F Any [⟨A, cap, l⟩] w h1 (fun p hp => by rw [List.mem_singleton.1 hp]; exact ⟨h2, hl⟩) (by show 1 ≤ maxLen; decide) hT
  have e : joined [⟨A, cap, l⟩] = l := by simp [joined]
  rw [e] at h
  exact h
/-- Just behind the slice literal. -/
theorem sum_new (A : Option Addr) (cap : Nat) (l : List UInt8) (n : Nat) (hn : n = l.length) (F : Nat → Prop) (w : World) (b : Nat) (hb : b = w.heap.size) (h2 : Row w A F (bcells l)) (hl : l.length ≤ maxLen) (hT : Taken w) :
    Calls Tryd.prog 9 #[.slice (some ⟨b, 0, none⟩) 1 1] (w.alloc (.cells #[.slice A n cap] 24)) fun e w' => e = .returned (.int .u32 ((crcN l : Nat) : Int)) ∧ w.alloc (.cells #[.slice A n cap] 24) = w' := by
  subst hn
  exact sum_one A cap l b 1 F _ (Row.fresh w #[.slice A l.length cap] 24 (0, 0) b hb trivial _ rfl) (h2.alloc _) hl (hT.alloc _)

/-- At a length that is spelled otherwise. -/
theorem sum_at (B : Option Addr) (n d : Nat) (F G : Nat → Prop) (ps : List Part) (w : World) (e : n = ps.length) (hB : Row w B G (ps.map Part.val)) (hp : Parts w F ps) (hn : n ≤ maxLen) (hT : Taken w) :
    Calls Tryd.prog 9 #[.slice B n d] w fun e w' => e = .returned (.int .u32 ((crcN (joined ps) : Nat) : Int)) ∧ w = w' := by
  subst e; exact sum_any B d F G ps w hB hp hn hT
theorem rsum_at (A : Option Addr) (n cap : Nat) (F : Nat → Prop) (l : List UInt8) (w : World) (e : n = l.length) (h : Row w A F (bcells l)) (hl : n ≤ maxLen) :
    Calls Tryd.prog 10 #[.slice A n cap] w fun e w' => e = .returned (.int .u32 ((crcN l : Nat) : Int)) ∧ w = w' := by
  subst e; exact rsum_any A cap F l w h hl

end Go.Proofs.YtfcbiaedhidibaaDoor
