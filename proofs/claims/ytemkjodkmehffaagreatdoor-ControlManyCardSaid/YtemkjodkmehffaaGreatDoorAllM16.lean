/-
  CkIf, CkTick, CkMade, SecWalk, InvCopy, ItemRef, ItemEq, TabLaid: texts of mine, joined.
-/
import Derived.Test.YtemkjodkmehffaaGreatDoorProg
import Derived.Test.YtemkjodkmehffaaGreatDoorAllM00
import Derived.Test.YtemkjodkmehffaaGreatDoorAllM02
import Derived.WalkSpells
import Derived.Lib.Hide
import Derived.Lib.SmallJoins
import Derived.OpenShut
import Derived.Test.YtemkjodkmehffaaGreatDoorAllM15
import Derived.Test.YtemkjodkmehffaaGreatDoorAllM04
import Derived.Test.YtemkjodkmehffaaGreatDoorAllM08
import Derived.Test.YtemkjodkmehffaaGreatDoorAllM13
import Derived.Test.YtemkjodkmehffaaGreatDoorAllM12
import Derived.Test.YtemkjodkmehffaaGreatDoorAllM11
import Derived.Outline
import Derived.WalkKit
import Derived.Test.YtemkjodkmehffaaGreatDoorAllM05
import Derived.Deep.RegionWith
import Derived.Deep.RegionLaw
import Derived.BigQuiet
import Derived.Test.YtemkjodkmehffaaGreatDoorRows
import Derived.Test.YtemkjodkmehffaaGreatDoorTie
namespace Go.Proofs.YtemkjodkmehffaaGreatDoor
open Go Go.RowKit Go.Joins
end Go.Proofs.YtemkjodkmehffaaGreatDoor
namespace Go.Proofs.YtemkjodkmehffaaGreatDoor
open Go Go.RowKit Go.Joins Go.ChangeShapes Go.WideShapes Go.ChangeAt
def CkBlk (w : World) (c : Nat) (n : Int) : Prop := w.heap[c]? = some (.cells #[.int .i64 n] 24 (0, 0))
section
variable {w w' : World} {c : Nat} {n : Int} {G : Nat → Prop}
theorem CkBlk.lt (h : CkBlk w c n) : c < w.heap.size := (Array.getElem?_eq_some_iff.1 h).1
theorem CkBlk.keep (h : CkBlk w c n) (hk : Keeps G w w') (hG : G c) : CkBlk w' c n := (hk.block c hG h.lt).trans h
theorem CkBlk.c0 (h : CkBlk w c n) : w.cell? ⟨c, 0, none⟩ = some (.int .i64 n) := cell_of_block h 0
end
theorem cnow_any (w : World) (c : Nat) (n : Int) (h : CkBlk w c n) :
  Calls Tryz.prog 41 #[.pointer (some ⟨c, 0, none⟩)] w fun e w' => e = .returned (.int .i64 n) ∧ w = w' := by
 have c0 := h.c0
 clear h
 go_enter Tryz.func41, Tryz.ntmps41
 go_wp2_with fail
 go_ret
 exact ⟨rfl, rfl⟩
theorem cnow_nil (w : World) :
  Calls Tryz.prog 41 #[.pointer none] w fun e w' => e = .returned (.int .i64 0) ∧ w = w' := by
 go_enter Tryz.func41, Tryz.ntmps41
 go_wp2_with fail
 go_ret
 exact ⟨rfl, rfl⟩
end Go.Proofs.YtemkjodkmehffaaGreatDoor
namespace Go.Proofs.YtemkjodkmehffaaGreatDoor
open Go Go.RowKit Go.Joins
theorem sum_lit (q : UInt8) (z : Int) (hz : z = (q.toNat : Int)) (A : Option Addr) (cap : Nat) (l : List UInt8) (n : Nat) (hn : n = l.length) (F : Nat → Prop) (w : World) (h2 : Row w A F (bcells l)) (hl : l.length ≤ maxLen) (hT : Taken w) :
  Calls Tryz.prog 134 #[.slice (some ⟨w.heap.size + 1, 0, none⟩) 2 2] ((w.alloc (.cells #[.int .u8 z] 5)).alloc (.cells #[.slice (some ⟨w.heap.size, 0, none⟩) 1 1, .slice A n cap] 71)) fun e w' => e = .returned (.int .u32 ((crcN (q :: l) : Nat) : Int)) ∧ (w.alloc (.cells #[.int .u8 z] 5)).alloc (.cells #[.slice (some ⟨w.heap.size, 0, none⟩) 1 1, .slice A n cap] 71) = w' := by
 subst hn hz
 have r0 : Row (w.alloc (.cells #[.int .u8 (q.toNat : Int)] 5)) (some ⟨w.heap.size, 0, none⟩) (fun _ => True) (bcells [q]) := Row.fresh w #[.int .u8 (q.toNat : Int)] 5 (0, 0) _ rfl trivial _ rfl
 have h2' := h2.mono (G := fun _ => True) fun _ _ _ => trivial
 have h := sum_any (some ⟨w.heap.size + 1, 0, none⟩) 2 (fun _ => True) (fun _ => True) [⟨some ⟨w.heap.size, 0, none⟩, 1, [q]⟩, ⟨A, cap, l⟩] ((w.alloc (.cells #[.int .u8 (q.toNat : Int)] 5)).alloc (.cells #[.slice (some ⟨w.heap.size, 0, none⟩) 1 1, .slice A l.length cap] 71))
  (Row.fresh (w.alloc (.cells #[.int .u8 (q.toNat : Int)] 5)) #[.slice (some ⟨w.heap.size, 0, none⟩) 1 1, .slice A l.length cap] 71 (0, 0) _ (by simp) trivial _ rfl)
  (fun p hp => by
   simp only [List.mem_cons, List.not_mem_nil, or_false] at hp
   rcases hp with rfl | rfl
   ·exact ⟨r0.alloc _, by show 1 ≤ maxLen; decide⟩
   ·exact ⟨(h2'.alloc _).alloc _, hl⟩) (by show 2 ≤ maxLen; decide) ((hT.alloc _).alloc _)
 have e : joined [⟨some ⟨w.heap.size, 0, none⟩, 1, [q]⟩, ⟨A, cap, l⟩] = q :: l := by simp [joined]
 rw [e] at h
 exact h
set_option maxHeartbeats 400000 in
theorem fsum_any (q : UInt8) (z : Int) (hz : z = (q.toNat : Int)) (A : Option Addr) (c : Nat) (F : Nat → Prop) (l : List UInt8) (w : World) (h : Row w A F (bcells l)) (hl : l.length = 64) (hc : 64 ≤ c) (hcm : c ≤ maxLen) (hT : Taken w) :
  Calls Tryz.prog 114 #[.int .u8 z, .slice A 64 c] w fun e w' => ∃ v, e = .returned v ∧ OwnB w' w.heap.size v (sumOf q l) ∧ Keeps (fun _ => True) w w' := by
 unfold maxLen at hcm
 obtain ⟨b, o, rfl, -, -⟩ := h (by intro e; have := congrArg List.length e; rw [bcells_len, hl] at this; simp at this)
 have hs := sum_lit q z hz (some ⟨b, o, none⟩) c (l.take 60) 60 (by rw [List.length_take]; omega) F w (bcells_take h 60) (by rw [List.length_take]; unfold maxLen; omega) hT
 have hx := crcN_lt (q :: l.take 60)
 have HE := Lib.hid (show sumOf q l = sumL (crcN (q :: l.take 60)) from rfl)
 generalize crcN (q :: l.take 60) = x at hs hx HE
 have HS := Lib.hid hs
 obtain ⟨w2, hw2⟩ : ∃ w2, (w.alloc (.cells #[.int .u8 z] 5)).alloc (.cells #[.slice (some ⟨w.heap.size, 0, none⟩) 1 1, .slice (some ⟨b, o, none⟩) 60 c] 71) = w2 := ⟨_, rfl⟩
 have hk2 : Keeps (fun _ => True) w w2 := by rw [← hw2]; exact ((Keeps.refl _ w).alloc _).alloc _
 have hfin : ∀ g : Nat, g = w2.heap.size → ∃ v, Ending.returned (Value.slice (some ⟨g, 0, none⟩) 4 4) = .returned v ∧ OwnB (w2.alloc (.cells #[.int .u8 ((x : Int) % 256), .int .u8 ((x : Int) / 256 % 256), .int .u8 ((x : Int) / 65536 % 256), .int .u8 ((x : Int) / 16777216)] 5)) w.heap.size v (sumOf q l) ∧
   Keeps (fun _ => True) w (w2.alloc (.cells #[.int .u8 ((x : Int) % 256), .int .u8 ((x : Int) / 256 % 256), .int .u8 ((x : Int) / 65536 % 256), .int .u8 ((x : Int) / 16777216)] 5)) := by
  rintro g rfl
  have h1 := World.ownsRow_lit (base := w.heap.size) (size := 1) (e := 5) w2 #[.int .u8 ((x : Int) % 256), .int .u8 ((x : Int) / 256 % 256), .int .u8 ((x : Int) / 65536 % 256), .int .u8 ((x : Int) / 16777216)] 4 hk2.size (by decide) rfl
  refine ⟨_, rfl, ?_, hk2.alloc _⟩
  have e : bcells (sumOf q l) = [.int .u8 ((x : Int) % 256), .int .u8 ((x : Int) / 256 % 256), .int .u8 ((x : Int) / 65536 % 256), .int .u8 ((x : Int) / 16777216)] := by
   rw [HE.out]
   unfold sumL bcells bcell
   simp only [List.map_cons, List.map_nil, toNat_ofNat_mod]
   rw [Nat.mod_eq_of_lt (show x / 16777216 < 256 by omega)]
   simp
  have e4 : (sumOf q l).length = 4 := rfl
  unfold OwnB
  rw [e, e4]
  exact h1
 have HF := Lib.hid hfin
 have HW2 := Lib.hid hw2
 have HSZ := Lib.hid (show w.heap.size + 2 = w2.heap.size from by rw [← hw2]; simp)
 clear h hs hl hT hfin HE hw2 hk2 hz
 go_enter Tryz.func114, Tryz.ntmps114
 go_wp2_with fail
 refine HS.out.mono ?_
 rintro e w' ⟨rfl, rfl⟩
 rw [HW2.out]
 have HZ := HSZ.out
 go_wp2_with fail
 go_ret
 exact HF.out _ rfl
end Go.Proofs.YtemkjodkmehffaaGreatDoor
namespace Go.Proofs.YtemkjodkmehffaaGreatDoor
open Go Go.RowKit
def StRow (W : World) (base g : Nat) (e : TypeId) (n c : Nat) (xs ys : List Value) (b : Bool) (w : World) : Prop :=
 w.ownsRow base e 1 (.slice (some ⟨g, 0, none⟩) n c) n (if b then ys else xs) ∧ Keeps (fun b => b ≠ g) W w ∧ g < w.heap.size
section
variable {W w w' : World} {base g : Nat} {e : TypeId} {n c : Nat} {xs ys : List Value} {b : Bool}
theorem StRow.keep (h : Kp w w') (hs : StRow W base g e n c xs ys b w) : StRow W base g e n c xs ys b w' :=
 ⟨h.own hs.1 fun _ _ => trivial, hs.2.1.trans (h.mono fun _ _ _ => trivial), Nat.lt_of_lt_of_le hs.2.2 h.size⟩
theorem StRow.put (hs : StRow W base g e n c xs ys false w) (ho : w'.ownsRow base e 1 (.slice (some ⟨g, 0, none⟩) n c) n ys) (hg : w.grownBy w' (some g)) : StRow W base g e n c xs ys true w' :=
 ⟨ho, hs.2.1.trans (Keeps.of_grown hg fun _ e _ hn => by cases e; exact hn rfl), Nat.lt_of_lt_of_le hs.2.2 hg.size⟩
end
def TextG (g : Nat) (l : List UInt8) : World → Value → Prop := fun w v => ∃ A c, v = .slice A l.length c ∧ l.length ≤ c ∧ c ≤ maxLen ∧ Row w A (fun b => b ≠ g) (bcells l)
theorem TextG.keep {g : Nat} {l : List UInt8} {w w' : World} {v : Value} (h : Keeps (fun b => b ≠ g) w w') (hv : TextG g l w v) : TextG g l w' v := by
 obtain ⟨A, c, e, h1, h2, hr⟩ := hv
 exact ⟨A, c, e, h1, h2, hr.keep h⟩
theorem TextG.of_own {g m : Nat} {l : List UInt8} {w' : World} {v : Value} (h : OwnB w' m v l) (hg : g < m) : TextG g l w' v := by
 obtain ⟨A, c, e, hn, hr⟩ := own_slice h
 refine ⟨A, c, e, ?_, ?_, hr.mono fun b _ hb => by omega⟩
 all_goals
  rw [e] at h
  rcases h.2 with ⟨h', h0⟩ | ⟨g', cap', cur, h', _, _, h1, h2, _⟩
  ·injection h' with _ h3 h4; omega
  ·injection h' with _ h3 h4; omega
theorem keeps_grown {g : Nat} {w w' : World} (h : w.grownBy w' (some g)) : Keeps (fun b => b ≠ g) w w' := Keeps.of_grown h fun _ e _ hn => by cases e; exact hn rfl
section
variable {P : Program} {w : World} {o : Oper} {a : Act} {Q : Exit → Act → World → Prop}
theorem one_copy {W : World} {base g n c : Nat} {e : TypeId} {xs ys cs : List Value} (d s : Operand) (dT sT : TypeId) (ho : o.op = .call { callee := .builtin .copy, args := #[d, s], argTypes := #[dT, sT] }) (hu : P.underlying dT = some (.slice e)) (hsz : (P.info? e).map (·.size) = some 1)
  (hs : StRow W base g e n c xs ys false w) (off dLen dCap : Nat) (hd : a.eval d = .slice (some ⟨g, off, none⟩) dLen dCap) (A : Option Addr) (m sc : Nat) (hv : a.eval s = .slice A m sc) (hm : m = cs.length) (hle : cs.length ≤ dLen) (hne : cs ≠ [])
  {G : Nat → Prop} (hrow : Row w A G cs) (h1 : ∀ v ∈ cs, v.oneCell' = true) (hfit : off + cs.length ≤ xs.length) (hys : xs.take off ++ cs ++ xs.drop (off + cs.length) = ys) :
  o.wp P a w (fun a' w' => ∃ v, a' = a.put o.dst v ∧ w.grownBy w' (some g) ∧ StRow W base g e n c xs ys true w' ∧ IsV (goInt cs.length) w' v) Q := by
 subst hm
 obtain ⟨b, o', rfl, _, hc⟩ := hrow hne
 obtain ⟨cur, hg, hl, h2, h3⟩ := own_splice (show w.ownsRow base e 1 (.slice (some ⟨g, 0, none⟩) n c) n xs from hs.1) off cs hfit
 rw [hys] at h2
 have hrun := run_copy_row (P := P) w dT sT o.type e g off dLen dCap ⟨b, o', none⟩ cs.length sc cur e cs hu hsz hg (Nat.min_eq_left hle).symm (fun j v hv => by rw [WideShapes.add_plain]; exact hc j v hv) (by simpa using hl) h1
 clear hys
 generalize w.setRow g (cur.toList.take off ++ cs ++ cur.toList.drop (off + cs.length)).toArray = w2 at hrun h2 h3
 unfold Oper.wp
 simp [execOp, ho, resolve, invoke, builtin, hd, hv, hrun, Result.andThen]
 exact ⟨goInt cs.length, rfl, h3, hs.put h2 h3, rfl⟩
end
end Go.Proofs.YtemkjodkmehffaaGreatDoor
namespace Go.Proofs.YtemkjodkmehffaaGreatDoor
open Go Go.RowKit Go.Joins
theorem str_same (a b : ByteArray) : (a.toList == b.toList) = decide (a = b) := by
 by_cases h : a = b
 ·subst h; simp
 ·have : a.toList ≠ b.toList := fun e => h (by
   rw [Lib.toList_data, Lib.toList_data] at e
   exact data_inj e)
  simp [h, this]
theorem size_zero {s : ByteArray} : s = ⟨#[]⟩ ↔ s.size = 0 := by
 constructor
 ·rintro rfl; rfl
 ·intro h
  obtain ⟨d⟩ := s
  have : d.size = 0 := h
  rw [Array.size_eq_zero_iff] at this
  rw [this]
end Go.Proofs.YtemkjodkmehffaaGreatDoor
namespace Go.Proofs.YtemkjodkmehffaaGreatDoor
open Go Go.ChangeShapes Go.WideShapes Go.ChangeAt Go.RowKit
theorem own : ownKnob Tryz.prog.godebug = none := by kernel_rfl
set_option maxRecDepth 100000 in
theorem laidOut : laidOutB Tryz.prog = true := by kernel_rfl
theorem gTaken : Tryz.prog.globalNamed "icehouse/crc.taken" = some 0 := by kernel_rfl
theorem tTaken : (Tryz.prog.globals[0]?).map (·.type) = some 204 := by kernel_rfl
abbrev listed : List (String × DataW Unit) := [("icehouse/crc.taken", Rows.laid_icehouse_crc_taken)]
set_option maxRecDepth 100000 in
theorem door_met (os : Os) (args : Array Value) : laidMetH Tryz.prog listed ((World.doorLaid Tryz.prog 400 os).forCall (fun _ _ => 0) ⟨#[], args, []⟩).memory :=
 laidMetH_of_parts3 (fuel := 8) (laidMet_of_run' 8 (by kernel_rfl) (by kernel_rfl)) (by kernel_rfl) (by kernel_rfl)
def tab : List (DataW Unit) := (List.range 16).map fun i => .lit (.int .u32 ((tbits 4 i : Nat) : Int))
theorem tab_is : (Rows.laid_icehouse_crc_taken : DataW Unit) = .agg tab := by kernel_rfl
set_option maxRecDepth 100000 in
theorem taken_of {W : World} (h : laidMetH Tryz.prog listed W) : Taken W := by
 rw [MakeChecks.laidMetH_plain _ _ _ (by kernel_rfl)] at h
 obtain ⟨ps, ⟨g0, t0, cs0, f0, p0, q0, hg0, ht0, hv0, hd0, _⟩, _⟩ := h
 obtain rfl := Option.some.inj (gTaken.symm.trans hg0)
 obtain rfl := Option.some.inj (tTaken.symm.trans ht0)
 rw [tab_is] at hd0
 obtain ⟨xs, m, rfl, hx, hlen, hn, hel⟩ := DataW.trod_array Tryz.underlying204 hd0
 have c1 : Tryz.prog.cellsOf 163 = 1 := by kernel_rfl
 simp only [Prod.mk.injEq, DataW.agg.injEq] at hx
 intro i hi
 have he := hel i hi
 rw [c1, Nat.mul_one] at he
 have hxi : i < xs.length := by omega
 rw [List.getElem?_eq_getElem hxi] at he
 obtain ⟨n, e1, e2, _⟩ := DataW.trod_int Tryz.underlying163 he
 have e3 : (xs.map (·.1))[i]? = some (.lit (.int .u32 n)) := by rw [List.getElem?_map, List.getElem?_eq_getElem hxi, e2]; rfl
 rw [← hx.1] at e3
 have e4 : tab[i]? = some (.lit (.int .u32 ((tbits 4 i : Nat) : Int))) := by unfold tab; simp [hi]
 rw [e4] at e3
 have hk : n = ((tbits 4 i : Nat) : Int) := by injection e3 with e; injection e with e; injection e with _ e; exact e.symm
 have hc := World.var?_cell hg0 hv0 i
 rw [hc]
 have e5 : cs0.toList[i]? = some (.int .u32 n) := by
  have := congrArg (·[0]?) e1
  simpa [List.getElem?_take, List.getElem?_drop] using this
 rw [← Array.getElem?_toList, e5, hk]
end Go.Proofs.YtemkjodkmehffaaGreatDoor
