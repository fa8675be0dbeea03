/-
  THE PROGRAM's SECTORS (super/record.go): bytes.Equal, sum.
-/
import Derived.Test.YtpaadllbmhbnhaaDoorSecMath
import Derived.Test.YtpaadllbmhbnhaaDoorNumPut
import Derived.Test.YtpaadllbmhbnhaaDoorNumGet
import Derived.Test.YtpaadllbmhbnhaaDoorCrc
import Derived.Test.YtpaadllbmhbnhaaDoorArr
import Derived.Test.YtpaadllbmhbnhaaDoorInvOne
import Derived.Outline
namespace Go.Proofs.YtpaadllbmhbnhaaDoor
open Go Go.RowKit Go.Joins

theorem equal_any (A B : Option Addr) (c d n m : Nat) (F G : Nat → Prop) (l r : List UInt8) (w : World) (h1 : Row w A F (bcells l)) (h2 : Row w B G (bcells r)) (hn : n = l.length) (hm : m = r.length) (x : Bool) (hx : ((txt l).toList == (txt r).toList) = x) :
    Calls Tryd.prog 43 #[.slice A n c, .slice B m d] w fun e w' => e = .returned (.bool x) ∧ w = w' := by
  have c1 := h1.to_string (P := Tryd.prog) Tryd.underlying31 Tryd.underlying5 Tryd.underlying9 n c hn
  have c2 := h2.to_string (P := Tryd.prog) Tryd.underlying31 Tryd.underlying5 Tryd.underlying9 m d hm
  clear h1 h2 hn hm
  go_enter Tryd.func43, Tryd.ntmps43
  go_wp2
  go_ret
  exact ⟨rfl, rfl⟩

/-- A sum of one part, just behind the slice literal. -/
theorem sum_lit (A : Option Addr) (cap : Nat) (l : List UInt8) (n : Nat) (hn : n = l.length) (F : Nat → Prop) (w : World) (h2 : Row w A F (bcells l)) (hl : l.length ≤ maxLen) (hT : Taken w) :
    Calls Tryd.prog 39 #[.slice (some ⟨w.heap.size, 0, none⟩) 1 1] (w.alloc (.cells #[.slice A n cap] 31)) fun e w' => e = .returned (.int .u32 ((crcN l : Nat) : Int)) ∧ w.alloc (.cells #[.slice A n cap] 31) = w' := by
  subst hn
  have h := sum_any (some ⟨w.heap.size, 0, none⟩) 1 F (fun _ => True) [⟨A, cap, l⟩] (w.alloc (.cells #[.slice A l.length cap] 31)) (Row.fresh w #[.slice A l.length cap] 31 (0, 0) _ rfl trivial _ rfl) (fun p hp => by rw [List.mem_singleton.1 hp]; exact ⟨h2.alloc _, hl⟩) (by show 1 ≤ maxLen; decide) (hT.alloc _)
  have e : joined [⟨A, cap, l⟩] = l := by simp [joined]
  rw [e] at h
  exact h

set_option maxHeartbeats 400000 in
theorem ssum_any (A : Option Addr) (c : Nat) (F : Nat → Prop) (l : List UInt8) (w : World) (h : Row w A F (bcells l)) (hl : l.length = 64) (hc : 64 ≤ c) (hcm : c ≤ maxLen) (hT : Taken w) :
    Calls Tryd.prog 34 #[.slice A 64 c] w fun e w' => ∃ v, e = .returned v ∧ OwnB w' w.heap.size v (sumOf l) ∧ Keeps (fun _ => True) w w' := by
  unfold maxLen at hcm
  obtain ⟨b, o, rfl, -, -⟩ := h (by intro e; have := congrArg List.length e; rw [bcells_len, hl] at this; simp at this)
  have hs := sum_lit (some ⟨b, o, none⟩) c (l.take 60) 60 (by rw [List.length_take]; omega) F w (bcells_take h 60) (by rw [List.length_take]; unfold maxLen; omega) hT
  have hx := crcN_lt (l.take 60)
  have HE := Lib.hid (show sumOf l = sumL (crcN (l.take 60)) from rfl)
  generalize crcN (l.take 60) = x at hs hx HE
  have HS := Lib.hid hs
  have hfin : ∃ v, Ending.returned (Value.slice (some ⟨w.heap.size + 1, 0, none⟩) 4 4) = .returned v ∧ OwnB ((w.alloc (.cells #[.slice (some ⟨b, o, none⟩) 60 c] 31)).alloc (.cells #[.int .u8 ((x : Int) % 256), .int .u8 ((x : Int) / 256 % 256), .int .u8 ((x : Int) / 65536 % 256), .int .u8 ((x : Int) / 16777216)] 5)) w.heap.size v (sumOf l) ∧
      Keeps (fun _ => True) w ((w.alloc (.cells #[.slice (some ⟨b, o, none⟩) 60 c] 31)).alloc (.cells #[.int .u8 ((x : Int) % 256), .int .u8 ((x : Int) / 256 % 256), .int .u8 ((x : Int) / 65536 % 256), .int .u8 ((x : Int) / 16777216)] 5)) := by
    have hz : (w.alloc (.cells #[.slice (some ⟨b, o, none⟩) 60 c] 31)).heap.size = w.heap.size + 1 := by simp
    have h1 := World.ownsRow_lit (base := w.heap.size) (size := 1) (e := 5) (w.alloc (.cells #[.slice (some ⟨b, o, none⟩) 60 c] 31)) #[.int .u8 ((x : Int) % 256), .int .u8 ((x : Int) / 256 % 256), .int .u8 ((x : Int) / 65536 % 256), .int .u8 ((x : Int) / 16777216)] 4 (by omega) (by decide) rfl
    rw [hz] at h1
    refine ⟨_, rfl, ?_, ((Keeps.refl _ w).alloc _).alloc _⟩
    have e : bcells (sumOf l) = [.int .u8 ((x : Int) % 256), .int .u8 ((x : Int) / 256 % 256), .int .u8 ((x : Int) / 65536 % 256), .int .u8 ((x : Int) / 16777216)] := by
      rw [HE.out]
      unfold sumL bcells bcell
      simp only [List.map_cons, List.map_nil, toNat_ofNat_mod]
      rw [Nat.mod_eq_of_lt (show x / 16777216 < 256 by omega)]
      simp
    have e4 : (sumOf l).length = 4 := rfl
    unfold OwnB
    rw [e, e4]
    exact h1
  have HF := Lib.hid hfin
  clear h hs hl hT hfin HE
  go_enter Tryd.func34, Tryd.ntmps34
  go_wp2_with fail
  refine HS.out.mono ?_
  rintro e w' ⟨rfl, rfl⟩
  go_wp2_with fail
  go_ret
  exact HF.out

end Go.Proofs.YtpaadllbmhbnhaaDoor
