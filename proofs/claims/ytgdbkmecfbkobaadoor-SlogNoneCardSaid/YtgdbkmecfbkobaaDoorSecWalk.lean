/-
  THE PROGRAM's FRAMES (package frame): bytes.Equal, sum.
-/
import Derived.Test.YtgdbkmecfbkobaaDoorAllCalc
import Derived.Test.YtgdbkmecfbkobaaDoorAllNums
import Derived.Test.YtgdbkmecfbkobaaDoorAllBase
import Derived.Test.YtgdbkmecfbkobaaDoorAllInvs
import Derived.Outline
namespace Go.Proofs.YtgdbkmecfbkobaaDoor
open Go Go.RowKit Go.Joins

theorem equal_any (A B : Option Addr) (c d n m : Nat) (F G : Nat → Prop) (l r : List UInt8) (w : World) (h1 : Row w A F (bcells l)) (h2 : Row w B G (bcells r)) (hn : n = l.length) (hm : m = r.length) (x : Bool) (hx : ((txt l).toList == (txt r).toList) = x) :
    Calls Tryd.prog 70 #[.slice A n c, .slice B m d] w fun e w' => e = .returned (.bool x) ∧ w = w' := by
  have c1 := h1.to_string (P := Tryd.prog) Tryd.underlying31 Tryd.underlying5 Tryd.underlying9 n c hn
  have c2 := h2.to_string (P := Tryd.prog) Tryd.underlying31 Tryd.underlying5 Tryd.underlying9 m d hm
  clear h1 h2 hn hm
  go_enter Tryd.func70, Tryd.ntmps70
  go_wp2
  go_ret
  exact ⟨rfl, rfl⟩

/-- A sum of a kind and one part, just behind the slice literals. -/
theorem sum_lit (q : UInt8) (z : Int) (hz : z = (q.toNat : Int)) (A : Option Addr) (cap : Nat) (l : List UInt8) (n : Nat) (hn : n = l.length) (F : Nat → Prop) (w : World) (h2 : Row w A F (bcells l)) (hl : l.length ≤ maxLen) (hT : Taken w) :
    Calls Tryd.prog 78 #[.slice (some ⟨w.heap.size + 1, 0, none⟩) 2 2] ((w.alloc (.cells #[.int .u8 z] 5)).alloc (.cells #[.slice (some ⟨w.heap.size, 0, none⟩) 1 1, .slice A n cap] 31)) fun e w' => e = .returned (.int .u32 ((crcN (q :: l) : Nat) : Int)) ∧ (w.alloc (.cells #[.int .u8 z] 5)).alloc (.cells #[.slice (some ⟨w.heap.size, 0, none⟩) 1 1, .slice A n cap] 31) = w' := by
  subst hn hz
  have r0 : Row (w.alloc (.cells #[.int .u8 (q.toNat : Int)] 5)) (some ⟨w.heap.size, 0, none⟩) (fun _ => True) (bcells [q]) := Row.fresh w #[.int .u8 (q.toNat : Int)] 5 (0, 0) _ rfl trivial _ rfl
  have h2' := h2.mono (G := fun _ => True) fun _ _ _ => trivial
  have h := sum_any (some ⟨w.heap.size + 1, 0, none⟩) 2 (fun _ => True) (fun _ => True) [⟨some ⟨w.heap.size, 0, none⟩, 1, [q]⟩, ⟨A, cap, l⟩] ((w.alloc (.cells #[.int .u8 (q.toNat : Int)] 5)).alloc (.cells #[.slice (some ⟨w.heap.size, 0, none⟩) 1 1, .slice A l.length cap] 31))
    (Row.fresh (w.alloc (.cells #[.int .u8 (q.toNat : Int)] 5)) #[.slice (some ⟨w.heap.size, 0, none⟩) 1 1, .slice A l.length cap] 31 (0, 0) _ (by simp) trivial _ rfl)
    (fun p hp => by
      simp only [List.mem_cons, List.not_mem_nil, or_false] at hp
      rcases hp with rfl | rfl
      · exact ⟨r0.alloc _, by show 1 ≤ maxLen; decide⟩
      · exact ⟨(h2'.alloc _).alloc _, hl⟩) (by show 2 ≤ maxLen; decide) ((hT.alloc _).alloc _)
  have e : joined [⟨some ⟨w.heap.size, 0, none⟩, 1, [q]⟩, ⟨A, cap, l⟩] = q :: l := by simp [joined]
  rw [e] at h
  exact h

set_option maxHeartbeats 400000 in
theorem fsum_any (q : UInt8) (z : Int) (hz : z = (q.toNat : Int)) (A : Option Addr) (c : Nat) (F : Nat → Prop) (l : List UInt8) (w : World) (h : Row w A F (bcells l)) (hl : l.length = 64) (hc : 64 ≤ c) (hcm : c ≤ maxLen) (hT : Taken w) :
    Calls Tryd.prog 71 #[.int .u8 z, .slice A 64 c] w fun e w' => ∃ v, e = .returned v ∧ OwnB w' w.heap.size v (sumOf q l) ∧ Keeps (fun _ => True) w w' := by
  unfold maxLen at hcm
  obtain ⟨b, o, rfl, -, -⟩ := h (by intro e; have := congrArg List.length e; rw [bcells_len, hl] at this; simp at this)
  have hs := sum_lit q z hz (some ⟨b, o, none⟩) c (l.take 60) 60 (by rw [List.length_take]; omega) F w (bcells_take h 60) (by rw [List.length_take]; unfold maxLen; omega) hT
  have hx := crcN_lt (q :: l.take 60)
  have HE := Lib.hid (show sumOf q l = sumL (crcN (q :: l.take 60)) from rfl)
  generalize crcN (q :: l.take 60) = x at hs hx HE
  have HS := Lib.hid hs
  obtain ⟨w2, hw2⟩ : ∃ w2, (w.alloc (.cells #[.int .u8 z] 5)).alloc (.cells #[.slice (some ⟨w.heap.size, 0, none⟩) 1 1, .slice (some ⟨b, o, none⟩) 60 c] 31) = w2 := ⟨_, rfl⟩
  have hk2 : Keeps (fun _ => True) w w2 := by rw [← hw2]; exact ((Keeps.refl _ w).alloc _).alloc _
  have hfin : ∀ g : Nat, g = w2.heap.size → ∃ v, Ending.returned (Value.slice (some ⟨g, 0, none⟩) 4 4) = .returned v ∧ OwnB (w2.alloc (.cells #[.int .u8 ((x : Int) % 256), .int .u8 ((x : Int) / 256 % 256), .int .u8 ((x : Int) / 65536 % 256), .int .u8 ((x : Int) / 16777216)] 5)) w.heap.size v (sumOf q l) ∧
      Keeps (fun _ => True) w (w2.alloc (.cells #[.int .u8 ((x : Int) % 256), .int .u8 ((x : Int) / 256 % 256), .int .u8 ((x : Int) / 65536 % 256), .int .u8 ((x : Int) / 16777216)] 5)) := by
    rintro g rfl
    have h1 := World.ownsRow_lit (base := w.heap.size) (size := 1) (e := 5) w2 #[.int .u8 ((x : Int) % 256), .int .u8 ((x : Int) / 256 % 256), .int .u8 ((x : Int) / 65536 % 256), .int .u8 ((x : Int) / 16777216)] 4 hk2.size (by decide) rfl
    refine ⟨_, rfl, ?_, hk2.alloc _⟩
    have e : bcells (sumOf q l) = [.int .u8 ((x : Int) % 256), .int .u8 ((x : Int) / 256 % 256), .int .u8 ((x : Int) / 65536 % 256), .int .u8 ((x : Int) / 16777216)] := by
      rw [HE.out]
      unfold sumL bcells bcell
      simp only [List.map_cons, List.map_nil, toNat_ofNat_mod]
      rw [Nat.mod_eq_of_lt (show x / 16777216 < 256 by omega)]
      simp
    have e4 : (sumOf q l).length = 4 := rfl
    unfold OwnB
    rw [e, e4]
    exact h1
  have HF := Lib.hid hfin
  have HW2 := Lib.hid hw2
  have HSZ := Lib.hid (show w.heap.size + 2 = w2.heap.size from by rw [← hw2]; simp)
  clear h hs hl hT hfin HE hw2 hk2 hz
  go_enter Tryd.func71, Tryd.ntmps71
  go_wp2_with fail
  refine HS.out.mono ?_
  rintro e w' ⟨rfl, rfl⟩
  rw [HW2.out]
  have HZ := HSZ.out
  go_wp2_with fail
  go_ret
  exact HF.out _ rfl

end Go.Proofs.YtgdbkmecfbkobaaDoor
