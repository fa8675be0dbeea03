/-
  SecWalk, InvCopy: texts of mine, joined.
-/
import Derived.Test.YticophaepapjoaaGreatDoorAllB04
import Derived.Test.YticophaepapjoaaGreatDoorAllB03
import Derived.Test.YticophaepapjoaaGreatDoorAllB06
import Derived.Test.YticophaepapjoaaGreatDoorAllB02
import Derived.Outline
import Derived.WalkKit
open Go.Lib renaming hid → Hd
set_option maxRecDepth 100000
set_option maxHeartbeats 8000000
namespace Go.Proofs.YticophaepapjoaaGreatDoor
open Go Go.RowKit Go.Joins
theorem sum_lit (q : UInt8) (z : Int) (hz : z = (q.toNat : Int)) (A : Option Addr) (cap : Nat) (l : List UInt8) (n : Nat) (hn : n = l.length) (F : Nat → Prop) (w : World) (h2 : Row w A F (bcells l)) (hl : l.length ≤ maxLen) (hT : Taken w) :
  Calls Tryz.prog 142 #[.slice (some ⟨w.heap.size + 1, 0, none⟩) 2 2] ((w.alloc (.cells #[.int .u8 z] 5)).alloc (.cells #[.slice (some ⟨w.heap.size, 0, none⟩) 1 1, .slice A n cap] 64)) fun e w' => e = .returned (.int .u32 ((crcN (q :: l) : Nat) : Int)) ∧ (w.alloc (.cells #[.int .u8 z] 5)).alloc (.cells #[.slice (some ⟨w.heap.size, 0, none⟩) 1 1, .slice A n cap] 64) = w' := by
 subst hn hz
 have r0 : Row (w.alloc (.cells #[.int .u8 (q.toNat : Int)] 5)) (some ⟨w.heap.size, 0, none⟩) (fun _ => True) (bcells [q]) := Row.fresh w #[.int .u8 (q.toNat : Int)] 5 (0, 0) _ rfl trivial _ rfl
 have h2' := h2.mono (G := fun _ => True) fun _ _ _ => trivial
 have h := sum_any (some ⟨w.heap.size + 1, 0, none⟩) 2 (fun _ => True) (fun _ => True) [⟨some ⟨w.heap.size, 0, none⟩, 1, [q]⟩, ⟨A, cap, l⟩] ((w.alloc (.cells #[.int .u8 (q.toNat : Int)] 5)).alloc (.cells #[.slice (some ⟨w.heap.size, 0, none⟩) 1 1, .slice A l.length cap] 64))
  (Row.fresh (w.alloc (.cells #[.int .u8 (q.toNat : Int)] 5)) #[.slice (some ⟨w.heap.size, 0, none⟩) 1 1, .slice A l.length cap] 64 (0, 0) _ (by simp) trivial _ rfl)
  (fun p hp => by
   simp only [List.mem_cons, List.not_mem_nil, or_false] at hp
   rcases hp with rfl | rfl
   ·exact ⟨r0.alloc _, by show 1 ≤ maxLen; decide⟩
   ·exact ⟨(h2'.alloc _).alloc _, hl⟩) (by show 2 ≤ maxLen; decide) ((hT.alloc _).alloc _)
 have e : joined [⟨some ⟨w.heap.size, 0, none⟩, 1, [q]⟩, ⟨A, cap, l⟩] = q :: l := by simp [joined]
 rw [e] at h
 exact h
theorem fsum_any (q : UInt8) (z : Int) (hz : z = (q.toNat : Int)) (A : Option Addr) (c : Nat) (F : Nat → Prop) (l : List UInt8) (w : World) (h : Row w A F (bcells l)) (hl : l.length = 64) (hc : 64 ≤ c) (hcm : c ≤ maxLen) (hT : Taken w) :
  Calls Tryz.prog 110 #[.int .u8 z, .slice A 64 c] w fun e w' => ∃ v, e = .returned v ∧ OwnB w' w.heap.size v (sumOf q l) ∧ Keeps (fun _ => True) w w' := by
 unfold maxLen at hcm
 obtain ⟨b, o, rfl, -, -⟩ := h (by intro e; have := congrArg List.length e; rw [bcells_len, hl] at this; simp at this)
 have hs := sum_lit q z hz (some ⟨b, o, none⟩) c (l.take 60) 60 (by rw [List.length_take]; omega) F w (bcells_take h 60) (by rw [List.length_take]; unfold maxLen; omega) hT
 have hx := crcN_lt (q :: l.take 60)
 have HE := Hd (show sumOf q l = sumL (crcN (q :: l.take 60)) from rfl)
 generalize crcN (q :: l.take 60) = x at hs hx HE
 have HS := Hd hs
 obtain ⟨w2, hw2⟩ : ∃ w2, (w.alloc (.cells #[.int .u8 z] 5)).alloc (.cells #[.slice (some ⟨w.heap.size, 0, none⟩) 1 1, .slice (some ⟨b, o, none⟩) 60 c] 64) = w2 := ⟨_, rfl⟩
 have hk2 : Keeps (fun _ => True) w w2 := by rw [← hw2]; exact ((Keeps.refl _ w).alloc _).alloc _
 have hfin : ∀ g : Nat, g = w2.heap.size → ∃ v, Ending.returned (Value.slice (some ⟨g, 0, none⟩) 4 4) = .returned v ∧ OwnB (w2.alloc (.cells #[.int .u8 ((x : Int) % 256), .int .u8 ((x : Int) / 256 % 256), .int .u8 ((x : Int) / 65536 % 256), .int .u8 ((x : Int) / 16777216)] 5)) w.heap.size v (sumOf q l) ∧
   Keeps (fun _ => True) w (w2.alloc (.cells #[.int .u8 ((x : Int) % 256), .int .u8 ((x : Int) / 256 % 256), .int .u8 ((x : Int) / 65536 % 256), .int .u8 ((x : Int) / 16777216)] 5)) := by
  rintro g rfl
  have h1 := World.ownsRow_lit (base := w.heap.size) (size := 1) (e := 5) w2 #[.int .u8 ((x : Int) % 256), .int .u8 ((x : Int) / 256 % 256), .int .u8 ((x : Int) / 65536 % 256), .int .u8 ((x : Int) / 16777216)] 4 hk2.size (by decide) rfl
  refine ⟨_, rfl, ?_, hk2.alloc _⟩
  have e : bcells (sumOf q l) = [.int .u8 ((x : Int) % 256), .int .u8 ((x : Int) / 256 % 256), .int .u8 ((x : Int) / 65536 % 256), .int .u8 ((x : Int) / 16777216)] := by
   rw [HE.out]
   unfold sumL bcells bcell
   simp only [List.map_cons, List.map_nil, toNat_ofNat_mod]
   rw [Nat.mod_eq_of_lt (show x / 16777216 < 256 by omega)]
   simp
  have e4 : (sumOf q l).length = 4 := rfl
  unfold OwnB
  rw [e, e4]
  exact h1
 have HF := Hd hfin
 have HW2 := Hd hw2
 have HSZ := Hd (show w.heap.size + 2 = w2.heap.size from by rw [← hw2]; simp)
 clear h hs hl hT hfin HE hw2 hk2 hz
 go_enter Tryz.func110, Tryz.ntmps110
 go_wp2_with fail
 refine HS.out.mono ?_
 rintro e w' ⟨rfl, rfl⟩
 rw [HW2.out]
 have HZ := HSZ.out
 go_wp2_with fail
 go_ret
 exact HF.out _ rfl
end Go.Proofs.YticophaepapjoaaGreatDoor
namespace Go.Proofs.YticophaepapjoaaGreatDoor
open Go Go.RowKit
def StRow (W : World) (base g : Nat) (e : TypeId) (n c : Nat) (xs ys : List Value) (b : Bool) (w : World) : Prop :=
 w.ownsRow base e 1 (.slice (some ⟨g, 0, none⟩) n c) n (if b then ys else xs) ∧ Keeps (fun b => b ≠ g) W w ∧ g < w.heap.size
section
variable {W w w' : World} {base g : Nat} {e : TypeId} {n c : Nat} {xs ys : List Value} {b : Bool}
theorem StRow.keep (h : Kp w w') (hs : StRow W base g e n c xs ys b w) : StRow W base g e n c xs ys b w' :=
 ⟨h.own hs.1 fun _ _ => trivial, hs.2.1.trans (h.mono fun _ _ _ => trivial), Nat.lt_of_lt_of_le hs.2.2 h.size⟩
theorem StRow.put (hs : StRow W base g e n c xs ys false w) (ho : w'.ownsRow base e 1 (.slice (some ⟨g, 0, none⟩) n c) n ys) (hg : w.grownBy w' (some g)) : StRow W base g e n c xs ys true w' :=
 ⟨ho, hs.2.1.trans (Keeps.of_grown hg fun _ e _ hn => by cases e; exact hn rfl), Nat.lt_of_lt_of_le hs.2.2 hg.size⟩
end
def TextG (g : Nat) (l : List UInt8) : World → Value → Prop := fun w v => ∃ A c, v = .slice A l.length c ∧ l.length ≤ c ∧ c ≤ maxLen ∧ Row w A (fun b => b ≠ g) (bcells l)
theorem TextG.keep {g : Nat} {l : List UInt8} {w w' : World} {v : Value} (h : Keeps (fun b => b ≠ g) w w') (hv : TextG g l w v) : TextG g l w' v := by
 obtain ⟨A, c, e, h1, h2, hr⟩ := hv
 exact ⟨A, c, e, h1, h2, hr.keep h⟩
theorem TextG.of_own {g m : Nat} {l : List UInt8} {w' : World} {v : Value} (h : OwnB w' m v l) (hg : g < m) : TextG g l w' v := by
 obtain ⟨A, c, e, hn, hr⟩ := own_slice h
 refine ⟨A, c, e, ?_, ?_, hr.mono fun b _ hb => by omega⟩
 all_goals
  rw [e] at h
  rcases h.2 with ⟨h', h0⟩ | ⟨g', cap', cur, h', _, _, h1, h2, _⟩
  ·injection h' with _ h3 h4; omega
  ·injection h' with _ h3 h4; omega
theorem keeps_grown {g : Nat} {w w' : World} (h : w.grownBy w' (some g)) : Keeps (fun b => b ≠ g) w w' := Keeps.of_grown h fun _ e _ hn => by cases e; exact hn rfl
section
variable {P : Program} {w : World} {o : Oper} {a : Act} {Q : Exit → Act → World → Prop}
theorem one_copy {W : World} {base g n c : Nat} {e : TypeId} {xs ys cs : List Value} (d s : Operand) (dT sT : TypeId) (ho : o.op = .call { callee := .builtin .copy, args := #[d, s], argTypes := #[dT, sT] }) (hu : P.underlying dT = some (.slice e)) (hsz : (P.info? e).map (·.size) = some 1)
  (hs : StRow W base g e n c xs ys false w) (off dLen dCap : Nat) (hd : a.eval d = .slice (some ⟨g, off, none⟩) dLen dCap) (A : Option Addr) (m sc : Nat) (hv : a.eval s = .slice A m sc) (hm : m = cs.length) (hle : cs.length ≤ dLen) (hne : cs ≠ [])
  {G : Nat → Prop} (hrow : Row w A G cs) (h1 : ∀ v ∈ cs, v.oneCell' = true) (hfit : off + cs.length ≤ xs.length) (hys : xs.take off ++ cs ++ xs.drop (off + cs.length) = ys) :
  o.wp P a w (fun a' w' => ∃ v, a' = a.put o.dst v ∧ w.grownBy w' (some g) ∧ StRow W base g e n c xs ys true w' ∧ IsV (goInt cs.length) w' v) Q := by
 subst hm
 obtain ⟨b, o', rfl, _, hc⟩ := hrow hne
 obtain ⟨cur, hg, hl, h2, h3⟩ := own_splice (show w.ownsRow base e 1 (.slice (some ⟨g, 0, none⟩) n c) n xs from hs.1) off cs hfit
 rw [hys] at h2
 have hrun := run_copy_row (P := P) w dT sT o.type e g off dLen dCap ⟨b, o', none⟩ cs.length sc cur e cs hu hsz hg (Nat.min_eq_left hle).symm (fun j v hv => by rw [WideShapes.add_plain]; exact hc j v hv) (by simpa using hl) h1
 clear hys
 generalize w.setRow g (cur.toList.take off ++ cs ++ cur.toList.drop (off + cs.length)).toArray = w2 at hrun h2 h3
 unfold Oper.wp
 simp [execOp, ho, resolve, invoke, builtin, hd, hv, hrun, Result.andThen]
 exact ⟨goInt cs.length, rfl, h3, hs.put h2 h3, rfl⟩
end
end Go.Proofs.YticophaepapjoaaGreatDoor
