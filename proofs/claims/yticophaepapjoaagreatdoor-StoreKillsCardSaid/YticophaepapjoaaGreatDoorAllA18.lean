/-
  FlashHist, JrIf, MtSmall, ItemText, ItemEq, ItemItems, IxMem, IxHash, SlgChunked: texts of mine, joined.
-/
import Derived.Test.YticophaepapjoaaGreatDoorAllA04
import Derived.Test.YticophaepapjoaaGreatDoorAllA03
import Derived.Test.YticophaepapjoaaGreatDoorAllA10
import Derived.Test.YticophaepapjoaaGreatDoorAllA06
import Derived.Test.YticophaepapjoaaGreatDoorAllA12
import Derived.Test.YticophaepapjoaaGreatDoorAllA15
import Derived.Deep.RegionWith
import Derived.Deep.RegionLaw
import Derived.WalkSpells
import Derived.Lib.SmallJoins
import Derived.BigQuiet
import Derived.Test.YticophaepapjoaaGreatDoorAllA14
import Derived.Test.YticophaepapjoaaGreatDoorAllA00
import Derived.Lib.Hide
import Derived.Test.YticophaepapjoaaGreatDoorAllA05
import Derived.Test.YticophaepapjoaaGreatDoorAllA17
namespace Go.Proofs.YticophaepapjoaaGreatDoor
open Go
structure FEnt where
 x : It
 opens : Nat
def FEnt.cost (e : FEnt) : Nat := e.x.key.size + e.x.val.size + 80 + 400 * e.opens
def fcosts (l : List FEnt) : Nat := (l.map FEnt.cost).sum
def fopened : List FEnt → List FEnt
 | [] => []
 | [e] => [⟨e.x, e.opens + 1⟩]
 | e :: l => e :: fopened l
structure FSt where
 place : Nat
 segs : Nat
 ents : List FEnt
 gone : Nat
 age : Nat
def FSt.has (st : FSt) (i : Nat) : Prop := st.place ≤ i ∧ i < st.place + 8 * st.segs
def isKF (k : ByteArray) (e : FEnt) : Bool := e.x.key.data.toList == k.data.toList
def fLast (l : List FEnt) (n : Nat) (k : ByteArray) : Option It := ((l.drop n).reverse.find? (isKF k)).map (·.x)
def FSt.at_ (st : FSt) (k : ByteArray) : Option It := (fLast st.ents st.gone k).bind fun x => if x.gone then none else some x
structure FSt.Ok (st : FSt) : Prop where
 segs : 3 ≤ st.segs ∧ st.segs ≤ 200
 one : ∀ e ∈ st.ents, e.x.may = true
 gone : st.gone ≤ st.ents.length
 kept : ∀ i, i ≤ st.ents.length → fcosts (st.ents.drop i) ≤ 200 * (st.segs - 2) → st.gone ≤ i
def grave (k : ByteArray) : FEnt := ⟨⟨k, ⟨#[]⟩, 0, true⟩, 0⟩
def fput (x : It) : FEnt := ⟨x, 0⟩
def keyOk (k : ByteArray) : Prop := 1 ≤ k.size ∧ k.size ≤ 40
theorem isKF_iff {k : ByteArray} {e : FEnt} : isKF k e = true ↔ e.x.key = k := by
 unfold isKF
 rw [beq_iff_eq]
 exact ⟨fun h => data_inj h, fun h => by rw [h]⟩
theorem fcosts_append (a b : List FEnt) : fcosts (a ++ b) = fcosts a + fcosts b := by simp [fcosts]
theorem FSt.Ok.whole {st : FSt} (h : st.Ok) (hc : fcosts st.ents ≤ 200 * (st.segs - 2)) : st.gone = 0 := by
 have := h.kept 0 (Nat.zero_le _) (by simpa using hc)
 omega
theorem fLast_app (l r : List FEnt) (k : ByteArray) : fLast (l ++ r) 0 k = (fLast r 0 k).or (fLast l 0 k) := by
 unfold fLast
 rw [List.drop_zero, List.drop_zero, List.drop_zero, List.reverse_append, List.find?_append]
 cases r.reverse.find? (isKF k) <;> rfl
theorem fLast_snoc (l : List FEnt) (e : FEnt) (k : ByteArray) : fLast (l ++ [e]) 0 k = if e.x.key = k then some e.x else fLast l 0 k := by
 rw [fLast_app]
 by_cases h : e.x.key = k
 ·rw [if_pos h]
  simp [fLast, isKF_iff.2 h]
 ·have : isKF k e = false := by
   cases hk : isKF k e with
   | false => rfl
   | true => exact absurd (isKF_iff.1 hk) h
  rw [if_neg h]
  simp [fLast, List.find?, this]
end Go.Proofs.YticophaepapjoaaGreatDoor
namespace Go.Proofs.YticophaepapjoaaGreatDoor
open Go Go.RowKit Go.Joins
structure JSt where
 place : Nat
 segs : Nat
 keys : List ByteArray
 base : Nat
 kept : Nat
 age : Nat
def JSt.has (st : JSt) (i : Nat) : Prop := st.place ≤ i ∧ i < st.place + 8 * st.segs
structure JSt.Ok (st : JSt) : Prop where
 segs : 20 ≤ st.segs ∧ st.segs ≤ 200
 one : ∀ k ∈ st.keys, keyOk k
 base : st.base ≤ st.keys.length - st.kept
def MarksAt (w : World) (A : Option Addr) (G : Nat → Prop) (sq : Nat) (l : List ByteArray) : Prop := ∀ i (h : i < l.length), ∃ b o, A = some ⟨b, o, none⟩ ∧ G b ∧ w.cell? ⟨b, o + i * 2, none⟩ = some (.int .i64 ((sq + i + 1 : Nat) : Int)) ∧ w.cell? ⟨b, o + i * 2 + 1, none⟩ = some (.string l[i])
structure JGo (w w' : World) (F F' Fs Fs' : Foot) (s s' : SDev) (st : JSt) (n : Nat) : Prop where
 ap : Apart F' Fs'
 k : Keeps (fun b => ¬ F.M b ∧ ¬ Fs.M b) w w'
 f1 : ∀ b, F'.M b → F.M b ∨ w.heap.size ≤ b
 f2 : ∀ b, F'.I b → F.all b ∨ w.heap.size ≤ b
 f3 : ∀ b, Fs'.M b → Fs.M b ∨ w.heap.size ≤ b
 f4 : ∀ b, Fs'.I b → Fs.all b ∨ w.heap.size ≤ b
 len : s'.now.length = s.now.length
 out : ∀ i, ¬ st.has i → s'.now.getD i [] = s.now.getD i []
 calls : s'.calls ≤ s.calls + 1000 * n
def jadd (st : JSt) (ks : List ByteArray) (b : Nat) : JSt := ⟨st.place, st.segs, st.keys ++ ks, b, st.kept, st.age + ks.length + 1⟩
structure JournalOK where
 T : World → Prop
 tk : ∀ {w w' : World}, T w → Keeps (fun _ => True) w w' → T w'
 rep : World → Nat → Nat → Foot → JSt → SDev → Prop
 disk : JSt → List (List UInt8) → Prop
 wf : ∀ {w p q F st s}, rep w p q F st s → st.Ok
 lt : ∀ {w p q F st s}, rep w p q F st s → ∀ b, F.all b → b < w.heap.size
 keep : ∀ {w w' p q F st s}, rep w p q F st s → Keeps F.all w w' → rep w' p q F st s
 other : ∀ {w p q F st s s'}, rep w p q F st s → s'.now.length = s.now.length → (∀ i, st.has i → s'.now.getD i [] = s.now.getD i []) → rep w p q F st s'
 diskKeep : ∀ {st rows rows'}, disk st rows → rows'.length = rows.length → (∀ i, st.has i → rows'.getD i [] = rows.getD i []) → disk st rows'
 openNew : ∀ (w : World) (p : Nat) (F : Foot) (s : SDev), DAt w p F s → T w → ∀ (i n : Nat), 20 ≤ n → n ≤ 200 → i + 8 * n ≤ s.now.length → (∀ j, i ≤ j → j < i + 8 * n → s.now.getD j [] = blank) →
  Calls Tryz.prog 66 #[.pointer (some ⟨p, 0, none⟩), .int .i64 i, .int .i64 n] w fun e w' => ∃ (q : Nat) (Fs : Foot), e = .returned (.tuple #[.pointer (some ⟨q, 0, none⟩), .int .i64 0]) ∧
   rep w' p q Fs ⟨i, n, [], 0, 32, 1⟩ s ∧ (∀ b, Fs.all b → w.heap.size ≤ b) ∧ Keeps (fun _ => True) w w'
 openOld : ∀ (w : World) (p : Nat) (F : Foot) (s : SDev) (st : JSt), DAt w p F s → T w → disk st s.now → st.place + 8 * st.segs ≤ s.now.length → st.age ≤ 20000 →
  Calls Tryz.prog 66 #[.pointer (some ⟨p, 0, none⟩), .int .i64 st.place, .int .i64 st.segs] w fun e w' => ∃ (q : Nat) (Fs : Foot) (b : Nat), e = .returned (.tuple #[.pointer (some ⟨q, 0, none⟩), .int .i64 0]) ∧
   rep w' p q Fs ⟨st.place, st.segs, st.keys, b, st.kept - 4, st.age + 1⟩ s ∧ (∀ b, Fs.all b → w.heap.size ≤ b) ∧ Keeps (fun _ => True) w w'
 add : ∀ (W w : World) (p q : Nat) (F Fs : Foot) (s : SDev) (st : JSt), DAt w p F s → rep w p q Fs st s → Apart F Fs → T W → Keeps (fun _ => True) W w → (∀ b, F.all b → W.heap.size ≤ b) → (∀ b, Fs.all b → W.heap.size ≤ b) → st.place + 8 * st.segs ≤ s.now.length → st.age ≤ 20000 → s.calls ≤ 500000000000 →
  ∀ (A : Option Addr) (c : Nat) (ks : List ByteArray), Row w A (fun b => ¬ F.all b ∧ ¬ Fs.all b) (ks.map Value.string) → ks.length ≤ c → c ≤ maxLen → ks.length ≤ 1000 → (∀ k ∈ ks, keyOk k) →
  Calls Tryz.prog 26 #[.pointer (some ⟨q, 0, none⟩), .slice A ks.length c] w fun e w' => e = .returned (.tuple #[.int .i64 ((st.keys.length + ks.length : Nat) : Int), .int .i64 0]) ∧ ∃ (F' Fs' : Foot) (rows : List (List UInt8)) (k b : Nat), DAt w' p F' (SDev.still rows k) ∧ rep w' p q Fs' (jadd st ks b) (SDev.still rows k) ∧ disk (jadd st ks b) rows ∧ st.base ≤ b ∧ JGo w w' F F' Fs Fs' s (SDev.still rows k) st (ks.length + 1)
 seqIs : ∀ (w : World) (p q : Nat) (Fs : Foot) (s : SDev) (st : JSt), rep w p q Fs st s → T w → Calls Tryz.prog 24 #[.pointer (some ⟨q, 0, none⟩)] w fun e w' => e = .returned (.int .i64 (st.keys.length : Int)) ∧ Keeps (fun _ => True) w w'
 since : ∀ (w : World) (p q : Nat) (F Fs : Foot) (s : SDev) (st : JSt), DAt w p F s → rep w p q Fs st s → Apart F Fs → T w → st.place + 8 * st.segs ≤ s.now.length → ∀ (sq n : Nat), st.base ≤ sq → sq ≤ st.keys.length → n ≤ 1000000 →
  Calls Tryz.prog 33 #[.pointer (some ⟨q, 0, none⟩), .int .i64 (sq : Int), .int .i64 (n : Int)] w fun e w' => ∃ (A : Option Addr) (c : Nat), e = .returned (.tuple #[.slice A ((st.keys.drop sq).take n).length c, .bool true]) ∧ ((st.keys.drop sq).take n).length ≤ c ∧ c ≤ maxLen ∧ MarksAt w' A (fun b => w.heap.size ≤ b ∧ b < w'.heap.size) sq ((st.keys.drop sq).take n) ∧ Keeps (fun _ => True) w w'
def fitZ (z : Int) : Bool := decide (0 ≤ z) && decide (z ≤ 1099511627776)
theorem mfits_any (w : World) (z : Int) : Calls Tryz.prog 77 #[.int .i64 z] w fun e w' => e = .returned (.bool (fitZ z)) ∧ w = w' := by
 have hcase : (decide (0 ≤ z) = true ∧ decide (z ≤ 1099511627776) = true) ∨ (decide (0 ≤ z) = true ∧ decide (z ≤ 1099511627776) = false) ∨ decide (0 ≤ z) = false := by
  cases h1 : decide (0 ≤ z) <;> cases h2 : decide (z ≤ 1099511627776) <;> simp
 have HM := Lib.hid (show fitZ z = (decide (0 ≤ z) && decide (z ≤ 1099511627776)) from rfl)
 generalize fitZ z = b at HM ⊢
 rcases hcase with ⟨t1, t2⟩ | ⟨t1, t2⟩ | t1
 all_goals (
  go_enter Tryz.func77, Tryz.ntmps77
  go_wp2_with fail
  go_ret
  exact ⟨by simp [HM.out, *], rfl⟩)
theorem mayB_fits (x : M4) : mayB x = (fitZ x.boot && (fitZ x.epoch && (fitZ x.ready && (if x.ready == 0 then !x.frozen else decide (x.epoch < x.ready))))) := by
 obtain ⟨bo, ep, re, fr⟩ := x
 unfold mayB small12 fitZ
 simp only
 by_cases h : re = 0
 ·subst h
  have e1 : ((0 : Int) == 0) = true := by decide
  have e2 : (decide (0 ≤ ep) && decide (ep < 0)) = false := by
   cases h1 : decide (0 ≤ ep) <;> simp_all
  rw [e1]
  cases decide (0 ≤ bo) <;> cases decide (bo ≤ 1099511627776) <;> cases h1 : decide (0 ≤ ep) <;> cases decide (ep ≤ 1099511627776) <;> cases fr <;> simp_all
 ·have e1 : (re == 0) = false := by simpa using h
  rw [e1]
  cases decide (0 ≤ bo) <;> cases decide (bo ≤ 1099511627776) <;> cases h1 : decide (0 ≤ ep) <;> cases decide (ep ≤ 1099511627776) <;> cases decide (0 ≤ re) <;> cases decide (re ≤ 1099511627776) <;> simp
set_option maxHeartbeats 1000000 in
theorem mmay_any (w : World) (x : M4) : Calls Tryz.prog 49 #[magg x] w fun e w' => e = .returned (.bool (mayB x)) ∧ Kp w w' := by
 have HM := Lib.hid (mayB_fits x)
 generalize mayB x = b at HM ⊢
 obtain ⟨bo, ep, re, fr⟩ := x
 have HM2 := Lib.hid (show b = (fitZ bo && (fitZ ep && (fitZ re && (if re == 0 then !fr else decide (ep < re))))) from HM.out)
 clear HM
 have HK := Lib.hid ((Keeps.refl (fun _ => True) w).alloc (.cells #[.int .i64 bo, .int .i64 ep, .int .i64 re, .bool fr] 32))
 unfold magg
 go_enter Tryz.func49, Tryz.ntmps49
 go_wp2_with fail
 refine (mfits_any _ bo).mono ?_
 rintro e w1 ⟨rfl, rfl⟩
 cases h1 : fitZ bo with
 | false =>
  have HE := Lib.hid h1
  clear h1
  go_wp2_with fail
  go_ret
  exact ⟨by simp [HM2.out, HE.out], HK.out⟩
 | true =>
  have HE1 := Lib.hid h1
  clear h1
  go_wp2_with fail
  refine (mfits_any _ ep).mono ?_
  rintro e w1 ⟨rfl, rfl⟩
  cases h1 : fitZ ep with
  | false =>
   have HE := Lib.hid h1
   clear h1
   go_wp2_with fail
   go_ret
   exact ⟨by simp [HM2.out, HE.out], HK.out⟩
  | true =>
   have HE2 := Lib.hid h1
   clear h1
   go_wp2_with fail
   refine (mfits_any _ re).mono ?_
   rintro e w1 ⟨rfl, rfl⟩
   cases h1 : fitZ re with
   | false =>
    have HE := Lib.hid h1
    clear h1
    go_wp2_with fail
    go_ret
    exact ⟨by simp [HM2.out, HE.out], HK.out⟩
   | true =>
    have HE3 := Lib.hid h1
    clear h1
    have hc : (re == 0) = true ∨ (re == 0) = false := by cases (re == 0) <;> simp
    rcases hc with t | t
    ·have HF := Lib.hid (show b = !fr from by rw [HM2.out, HE1.out, HE2.out, HE3.out, t]; rfl)
     go_wp2_with fail
     go_ret
     exact ⟨by rw [HF.out]; rfl, HK.out⟩
    ·have HF := Lib.hid (show b = decide (ep < re) from by rw [HM2.out, HE1.out, HE2.out, HE3.out, t]; rfl)
     go_wp2_with fail
     go_ret
     exact ⟨by rw [HF.out]; rfl, HK.out⟩
def KBlk (w : World) (k q : Nat) (m : M4) : Prop :=
 w.heap[k]? = some (.cells #[.pointer (some ⟨q, 0, none⟩), .int .i64 m.boot, .int .i64 m.epoch, .int .i64 m.ready, .bool m.frozen] 86 (0, 0))
section
variable {w w' : World} {k q : Nat} {m : M4} {G : Nat → Prop}
theorem KBlk.lt (h : KBlk w k q m) : k < w.heap.size := (Array.getElem?_eq_some_iff.1 h).1
theorem KBlk.keep (h : KBlk w k q m) (hk : Keeps G w w') (hG : G k) : KBlk w' k q m := (hk.block k hG h.lt).trans h
theorem KBlk.c0 (h : KBlk w k q m) : w.cell? ⟨k, 0, none⟩ = some (.pointer (some ⟨q, 0, none⟩)) := cell_of_block h 0
theorem KBlk.c1 (h : KBlk w k q m) : w.cell? ⟨k, 1, none⟩ = some (.int .i64 m.boot) := cell_of_block h 1
theorem KBlk.c2 (h : KBlk w k q m) : w.cell? ⟨k, 2, none⟩ = some (.int .i64 m.epoch) := cell_of_block h 2
theorem KBlk.c3 (h : KBlk w k q m) : w.cell? ⟨k, 3, none⟩ = some (.int .i64 m.ready) := cell_of_block h 3
theorem KBlk.c4 (h : KBlk w k q m) : w.cell? ⟨k, 4, none⟩ = some (.bool m.frozen) := cell_of_block h 4
theorem KBlk.fz (h : KBlk w k q m) (i : Nat) : w.frozen? ⟨k, i, none⟩ = false := unfrozen_of_block h i
theorem KBlk.new (w : World) (q : Nat) (m : M4) (k : Nat) (hk : k = w.heap.size) : KBlk (w.alloc (.cells #[.pointer (some ⟨q, 0, none⟩), .int .i64 m.boot, .int .i64 m.epoch, .int .i64 m.ready, .bool m.frozen] 86)) k q m := by subst hk; exact heap_alloc_new w _
theorem KBlk.set4 (h : KBlk w k q m) (x : M4) : KBlk ((((w.setCell ⟨k, 1, none⟩ (.int .i64 x.boot)).setCell ⟨k, 2, none⟩ (.int .i64 x.epoch)).setCell ⟨k, 3, none⟩ (.int .i64 x.ready)).setCell ⟨k, 4, none⟩ (.bool x.frozen)) k q x :=
 (block_setCell (block_setCell (block_setCell (block_setCell h _) _) _) _).trans rfl
end
theorem mdown_no (w : World) (k q : Nat) (m : M4) (h : KBlk w k q m) : Calls Tryz.prog 48 #[.pointer (some ⟨k, 0, none⟩)] w fun e w' => e = .returned (.bool false) ∧ w = w' := by
 have c0 := h.c0
 clear h
 go_enter Tryz.func48, Tryz.ntmps48
 go_wp2_with fail
 go_ret
 exact ⟨rfl, rfl⟩
set_option maxHeartbeats 1000000 in
theorem kmeta_any (w : World) (k q : Nat) (m : M4) (h : KBlk w k q m) : Calls Tryz.prog 12 #[.pointer (some ⟨k, 0, none⟩)] w fun e w' => e = .returned (magg m) ∧ Kp w w' := by
 obtain ⟨bo, ep, re, fr⟩ := m
 have c1 := h.c1
 have c2 := h.c2
 have c3 := h.c3
 have c4 := h.c4
 have hlt := h.lt
 simp only at c1 c2 c3 c4
 clear h
 have HK := Lib.hid ((Keeps.refl (fun _ => True) w).alloc (.cells #[.int .i64 bo, .int .i64 ep, .int .i64 re, .bool fr] 32))
 unfold magg
 go_enter Tryz.func12, Tryz.ntmps12
 go_wp2_with fail
 refine bodyPost_ret (v := .agg #[.int .i64 bo, .int .i64 ep, .int .i64 re, .bool fr]) ?_ rfl ⟨rfl, HK.out⟩
 simp [results, Tryz.results12, go_sem]
theorem src_own {w : World} {base : Nat} {v : Value} {l : List UInt8} (h : OwnB w base v l) : Src Tryz.prog 1 64 v l.length (bcells l) w := by
 obtain ⟨A, c, rfl, -, hr⟩ := own_slice h
 have := hr.src (P := Tryz.prog) (c := c) Tryz.underlying64 (bcells_one l)
 rwa [bcells_len] at this
theorem take_may (l : List It) (k : Nat) (h : k < l.length) : (l.take (k + 1)).all It.may = ((l.take k).all It.may && l[k].may) := by
 rw [List.take_succ_eq_append_getElem h, List.all_append]; simp
theorem take_bytes (l : List It) (k : Nat) (h : k < l.length) : bytesOf (l.take (k + 1)) = bytesOf (l.take k) ++ l[k].bytes := by
 rw [List.take_succ_eq_append_getElem h, bytesOf_snoc]
theorem not_may {l : List It} {k : Nat} (h : k < l.length) (hm : l[k].may = false) : encs l = [] := by
 unfold encs
 rw [if_neg]
 intro ha
 have := List.all_eq_true.1 ha l[k] (List.getElem_mem h)
 rw [hm] at this; cases this
def tabV (T : Tab) (m : Nat) : Value :=
 if m % 4 = 0 then .string (T (m / 4)).key else if m % 4 = 1 then .int .u64 (T (m / 4)).hash else if m % 4 = 2 then .int .i64 (T (m / 4)).pos else .bool (T (m / 4)).full
structure TabAt (w : World) (g n : Nat) (T : Tab) : Prop where
 cell : ∀ m, m < 4 * n → w.cell? ⟨g, m, none⟩ = some (tabV T m)
 ice : ∀ m, w.frozen? ⟨g, m, none⟩ = false
 lt : g < w.heap.size
section
variable {w w' : World} {g n i : Nat} {T : Tab} {G : Nat → Prop}
theorem TabAt.c0 (h : TabAt w g n T) (hi : i < n) : w.cell? ⟨g, i * 4, none⟩ = some (.string (T i).key) := by
 have := h.cell (i * 4) (by omega)
 rwa [tabV, if_pos (by omega), Nat.mul_div_cancel _ (by decide)] at this
theorem TabAt.c1 (h : TabAt w g n T) (hi : i < n) : w.cell? ⟨g, i * 4 + 1, none⟩ = some (.int .u64 (T i).hash) := by
 have := h.cell (i * 4 + 1) (by omega)
 rwa [tabV, if_neg (by omega), if_pos (by omega), show (i * 4 + 1) / 4 = i by omega] at this
theorem TabAt.c2 (h : TabAt w g n T) (hi : i < n) : w.cell? ⟨g, i * 4 + 2, none⟩ = some (.int .i64 (T i).pos) := by
 have := h.cell (i * 4 + 2) (by omega)
 rwa [tabV, if_neg (by omega), if_neg (by omega), if_pos (by omega), show (i * 4 + 2) / 4 = i by omega] at this
theorem TabAt.c3 (h : TabAt w g n T) (hi : i < n) : w.cell? ⟨g, i * 4 + 3, none⟩ = some (.bool (T i).full) := by
 have := h.cell (i * 4 + 3) (by omega)
 rwa [tabV, if_neg (by omega), if_neg (by omega), if_neg (by omega), show (i * 4 + 3) / 4 = i by omega] at this
theorem TabAt.keep (h : TabAt w g n T) (hk : Keeps G w w') (hg : G g) : TabAt w' g n T :=
 ⟨fun m hm => hk.cell (h.cell m hm) hg, fun m => by rw [hk.frozen (p := ⟨g, m, none⟩) h.lt hg]; exact h.ice m, Nat.lt_of_lt_of_le h.lt hk.size⟩
theorem TabAt.store (h : TabAt w g n T) (hi : i < n) (s : Sl) : TabAt ((((w.setCell ⟨g, i * 4, none⟩ (.string s.key)).setCell ⟨g, i * 4 + 1, none⟩ (.int .u64 s.hash)).setCell ⟨g, i * 4 + 2, none⟩ (.int .i64 s.pos)).setCell ⟨g, i * 4 + 3, none⟩ (.bool s.full)) g n (setT T i s) := by
 refine ⟨fun m hm => ?_, fun m => ?_, by simpa using h.lt⟩
 ·have oth : ∀ (W : World) (a b : Nat) (v : Value), a ≠ b → (W.setCell ⟨g, a, none⟩ v).cell? ⟨g, b, none⟩ = W.cell? ⟨g, b, none⟩ := fun W a b v hab => World.cell?_setCell_other _ _ _ _ (fun e => hab (by injection e))
  have h0 := h.c0 hi
  have h1 := h.c1 hi
  have h2 := h.c2 hi
  have h3 := h.c3 hi
  by_cases e : m / 4 = i
  ·have hT : setT T i s (m / 4) = s := by rw [e]; exact setT_at T i s
   unfold tabV
   rw [hT]
   by_cases e0 : m % 4 = 0
   ·obtain rfl : m = i * 4 := by omega
    rw [if_pos e0, oth _ (i * 4 + 3) _ _ (by omega), oth _ (i * 4 + 2) _ _ (by omega), oth _ (i * 4 + 1) _ _ (by omega)]
    exact World.cell?_setCell_same _ _ _ h0
   ·rw [if_neg e0]
    by_cases e1 : m % 4 = 1
    ·obtain rfl : m = i * 4 + 1 := by omega
     rw [if_pos e1, oth _ (i * 4 + 3) _ _ (by omega), oth _ (i * 4 + 2) _ _ (by omega)]
     refine World.cell?_setCell_same (u := .int .u64 (T i).hash) _ _ _ ?_
     rw [oth _ (i * 4) _ _ (by omega)]; exact h1
    ·rw [if_neg e1]
     by_cases e2 : m % 4 = 2
     ·obtain rfl : m = i * 4 + 2 := by omega
      rw [if_pos e2, oth _ (i * 4 + 3) _ _ (by omega)]
      refine World.cell?_setCell_same (u := .int .i64 (T i).pos) _ _ _ ?_
      rw [oth _ (i * 4 + 1) _ _ (by omega), oth _ (i * 4) _ _ (by omega)]; exact h2
     ·obtain rfl : m = i * 4 + 3 := by omega
      rw [if_neg e2]
      refine World.cell?_setCell_same (u := .bool (T i).full) _ _ _ ?_
      rw [oth _ (i * 4 + 2) _ _ (by omega), oth _ (i * 4 + 1) _ _ (by omega), oth _ (i * 4) _ _ (by omega)]; exact h3
  ·rw [oth _ (i * 4 + 3) _ _ (by omega), oth _ (i * 4 + 2) _ _ (by omega), oth _ (i * 4 + 1) _ _ (by omega), oth _ (i * 4) _ _ (by omega), h.cell m hm]
   unfold tabV
   rw [setT_ne _ _ e]
 ·rw [World.frozen?_setCell, World.frozen?_setCell, World.frozen?_setCell, World.frozen?_setCell]; exact h.ice m
end
def IxBlk (w : World) (q : Nat) (V : Value) (c : Nat) : Prop := w.heap[q]? = some (.cells #[V, .int .i64 (c : Int)] 129 (0, 0))
structure IxAt (w : World) (q g n c : Nat) (T : Tab) : Prop where
 blk : IxBlk w q (.slice (some ⟨g, 0, none⟩) n n) c
 tab : TabAt w g n T
 ne : g ≠ q
section
variable {w w' : World} {q g n c i : Nat} {T : Tab} {G : Nat → Prop} {V : Value}
theorem IxBlk.keep (h : IxBlk w q V c) (hk : Keeps G w w') (hq : G q) : IxBlk w' q V c := (hk.block q hq (Array.getElem?_eq_some_iff.1 h).1).trans h
theorem IxBlk.lt (h : IxBlk w q V c) : q < w.heap.size := (Array.getElem?_eq_some_iff.1 h).1
theorem IxBlk.c0 (h : IxBlk w q V c) : w.cell? ⟨q, 0, none⟩ = some V := (cell_of_block h 0).trans rfl
theorem IxBlk.c1 (h : IxBlk w q V c) : w.cell? ⟨q, 1, none⟩ = some (.int .i64 (c : Int)) := (cell_of_block h 1).trans rfl
theorem IxBlk.f0 (h : IxBlk w q V c) (i : Nat) : w.frozen? ⟨q, i, none⟩ = false := unfrozen_of_block h i
theorem IxBlk.set0 (h : IxBlk w q V c) (V' : Value) : IxBlk (w.setCell ⟨q, 0, none⟩ V') q V' c := (block_setCell h V').trans rfl
theorem IxBlk.set1 (h : IxBlk w q V c) (c' : Nat) : IxBlk (w.setCell ⟨q, 1, none⟩ (.int .i64 (c' : Int))) q V c' := (block_setCell h _).trans rfl
theorem IxAt.keep (h : IxAt w q g n c T) (hk : Keeps G w w') (hq : G q) (hg : G g) : IxAt w' q g n c T := ⟨h.blk.keep hk hq, h.tab.keep hk hg, h.ne⟩
end
theorem modN_cast (h n : Nat) : ((h : Int).tmod (n : Int)) = ((h % n : Nat) : Int) := by
 rw [Int.tmod_eq_emod_of_nonneg (by omega)]; rfl
set_option maxRecDepth 100000 in
set_option maxHeartbeats 1000000 in
theorem home_any (w : World) (q g n c : Nat) (T : Tab) (hI : IxAt w q g n c T) (h0 : 0 < n) (hn : n ≤ 1099511627776) (h : Nat) (_hh : h < 18446744073709551616) :
  Calls Tryz.prog 100 #[.pointer (some ⟨q, 0, none⟩), .int .u64 (h : Int)] w fun e w' => e = .returned (.int .i64 ((h % n : Nat) : Int)) ∧ w' = w := by
 have c0 := hI.blk.c0
 have hm := modN_cast h n
 have hl := Nat.mod_lt h h0
 obtain ⟨r, hr⟩ : ∃ r, h % n = r := ⟨_, rfl⟩
 rw [hr] at hm hl ⊢
 have e2 : ((h : Int) % (n : Int)) = (r : Int) := by rw [← hr]; rfl
 clear hI hr
 go_enter Tryz.func100, Tryz.ntmps100
 go_wp2_with fail
 go_ret
 exact ⟨rfl, rfl⟩
set_option maxRecDepth 100000 in
set_option maxHeartbeats 1000000 in
theorem ixbehind_any (w : World) (q g n c : Nat) (T : Tab) (hI : IxAt w q g n c T) (i : Nat) (hi : i < n) (hn : n ≤ 1099511627776) :
  Calls Tryz.prog 101 #[.pointer (some ⟨q, 0, none⟩), .int .i64 (i : Int)] w fun e w' => e = .returned (.int .i64 ((nx n i 1 : Nat) : Int)) ∧ w' = w := by
 have c0 := hI.blk.c0
 have hm : (((i : Int) + 1).tmod (n : Int)) = ((nx n i 1 : Nat) : Int) := by
  rw [show (i : Int) + 1 = ((i + 1 : Nat) : Int) by omega, modN_cast]
  congr 1
  rcases nx_c n i 1 with ⟨h1, h2⟩ | ⟨h1, h2⟩
  ·rw [h2, Nat.mod_eq_of_lt h1]
  ·rw [h2, show i + 1 = n by omega, Nat.mod_self]; omega
 have e2 : (((i : Int) + 1) % (n : Int)) = ((nx n i 1 : Nat) : Int) := by rw [← hm, Int.tmod_eq_emod_of_nonneg (by omega)]
 generalize nx n i 1 = r at *
 clear hI
 go_enter Tryz.func101, Tryz.ntmps101
 go_wp2_with fail
 go_ret
 exact ⟨rfl, rfl⟩
set_option maxRecDepth 100000 in
set_option maxHeartbeats 1000000 in
theorem way_any (w : World) (q g n c : Nat) (T : Tab) (hI : IxAt w q g n c T) (i k : Nat) (hi : i < n) (hk : k < n) (hn : n ≤ 1099511627776) :
  Calls Tryz.prog 173 #[.pointer (some ⟨q, 0, none⟩), .int .i64 (i : Int), .int .i64 (k : Int)] w fun e w' => e = .returned (.int .i64 ((way n i k : Nat) : Int)) ∧ Kp w w' := by
 have c0 := hI.blk.c0
 have hm : (((k : Int) - (i : Int) + (n : Int)).tmod (n : Int)) = ((way n i k : Nat) : Int) := by
  rw [show (k : Int) - (i : Int) + (n : Int) = ((k + n - i : Nat) : Int) by omega, modN_cast]
  congr 1
  rcases way_c n i k with ⟨h1, h2⟩ | ⟨h1, h2⟩
  ·rw [h2, show k + n - i = (k - i) + n by omega, Nat.add_mod_right, Nat.mod_eq_of_lt (by omega)]
  ·rw [h2, Nat.mod_eq_of_lt (by omega)]
 have e2 : (((k : Int) - (i : Int) + (n : Int)) % (n : Int)) = ((way n i k : Nat) : Int) := by rw [← hm, Int.tmod_eq_emod_of_nonneg (by omega)]
 generalize way n i k = r at *
 clear hI
 go_enter Tryz.func173, Tryz.ntmps173
 go_wp2_with fail
 go_region
 go_wp2_with fail
 go_ret
 exact ⟨rfl, (Keeps.refl _ _).drew⟩
def hashN (s : ByteArray) : Nat := (partsZ [s]).toNat
theorem hashZ_is (s : ByteArray) : 0 ≤ partsZ [s] ∧ partsZ [s] < 18446744073709551616 := by
 show 0 ≤ endZ _ _ ∧ endZ _ _ < _
 unfold endZ
 exact ⟨stZ_nonneg _, stZ_lt _⟩
theorem hashN_cast (s : ByteArray) : ((hashN s : Nat) : Int) = partsZ [s] := by
 have := hashZ_is s
 unfold hashN; omega
theorem hashN_lt (s : ByteArray) : hashN s < 18446744073709551616 := by
 have := hashZ_is s
 unfold hashN; omega
theorem hash_any (s : ByteArray) (b : Nat) (w : World) (hs : s.size ≤ 1000000) (hc : w.cell? ⟨b, 0, none⟩ = some (.string s)) :
  Calls Tryz.prog 69 #[.slice (some ⟨b, 0, none⟩) 1 1] w fun e w' => e = .returned (.int .u64 ((hashN s : Nat) : Int)) ∧ w' = w := by
 rw [hashN_cast]
 refine (of_any [s] b 0 1 w (show 1 ≤ maxLen by decide) (by intro x hx; simp at hx; rw [hx]; unfold maxLen; omega)
  (fun i hi => by have hi0 : i = 0 := by simpa using hi
                  subst hi0; exact hc)).mono ?_
 rintro e w' ⟨rfl, rfl⟩
 exact ⟨rfl, rfl⟩
end Go.Proofs.YticophaepapjoaaGreatDoor
namespace Go.Proofs.YticophaepapjoaaGreatDoor
open Go Go.RowKit Go.Joins Go.Shelf
attribute [local go_sem] Oper.semAt_some
def VE (u v E : Value) (m z : Nat) : Nat → World → Value → Prop
 | 0 => IsV (.agg #[u, v, E])
 | 1 => IsV (.agg #[u, v, E])
 | 2 => IsV (.int .i64 (m : Int))
 | 3 => IsV (.int .i64 (z : Int))
 | 4 => IsV (.int .i64 (z : Int))
 | _ => fun _ _ => True
theorem VE_any {u v E : Value} {m z : Nat} (i : Nat) (w w' : World) (x : Value) (hv : VE u v E m z i w x) : VE u v E m z i w' x := by
 match i, hv with
 | 0, hv => exact hv
 | 1, hv => exact hv
 | 2, hv => exact hv
 | 3, hv => exact hv
 | 4, hv => exact hv
 | _ + 5, _ => trivial
set_option maxRecDepth 100000 in
theorem end_any (w : World) (u v : Value) (A : Option Addr) (c : Nat) (G : Nat → Prop) (rs : List LRec) (h1 : u.oneCell' = true) (h2 : v.oneCell' = true) (hr : Row w A G (endsC rs)) (hn : rs.length ≤ 4096) :
  Calls Tryz.prog 136 #[.agg #[u, v, .slice A rs.length c]] w fun e w' => e = .returned (.int .i64 (endAt rs rs.length : Int)) ∧ Kp w w' := by
 have HR := Lib.hid hr
 clear hr
 obtain ⟨m, hm⟩ : ∃ m, rs.length = m := ⟨_, rfl⟩
 have HM := Lib.hid hm
 rw [hm] at hn ⊢
 clear hm
 go_enter Tryz.func136, Tryz.ntmps136
 go_wp2_with fail
 have HK0 := Lib.hid (show Kp w (w.alloc (.cells #[u, v, .slice A m c] 179)) from (Keeps.refl _ w).alloc _)
 have HB := Lib.hid (show (w.alloc (.cells #[u, v, .slice A m c] 179)).heap[w.heap.size]? = some (.cells #[u, v, .slice A m c] 179 (0, 0)) from heap_alloc_new w _)
 have HZ := Lib.hid (show w.heap.size < (w.alloc (.cells #[u, v, .slice A m c] 179)).heap.size from by simp)
 generalize w.alloc (.cells #[u, v, .slice A m c] 179) = w0 at HK0 HB HZ ⊢
 have HS := Lib.hid (show ∀ w', Kp w w' → Calls Tryz.prog 149 #[.agg #[u, v, .slice A m c], .int .i64 (m : Int)] w' fun e w2 => e = .returned (.int .i64 (endAt rs m : Int)) ∧ Kp w' w2 from fun w' hk => by
  have := start_any w' u v A c G rs h1 h2 (HR.out.keep (hk.mono fun _ _ _ => trivial)) (by rw [HM.out]; exact hn) m (by rw [HM.out]; omega)
  rw [HM.out] at this
  exact this)
 refine wp_region_guard (R := Kp) (V := VE u v (.slice A m c) m (endAt rs m)) (w0 := w0) GE (by kernel_rfl) (fun w => Keeps.refl _ w) (fun _ _ _ h k => h.trans k) (fun i w w' v _ hv => VE_any i w w' v hv) (by kernel_rfl) GE_is (fun i o ho hw => (all_wanted (by kernel_rfl) ho hw).elim) ((Keeps.refl _ w0).drew) (each_of ?_) ?_
 ·refine ⟨?_, ?_, ?_, ?_, ?_, trivial⟩ <;> intro hw a1 w3 L
  ·have hb := (L.rel.block w.heap.size trivial HZ.out).trans HB.out
   exact kp_lG ((cell_of_block hb 0).trans rfl) ((cell_of_block hb 1).trans rfl) ((cell_of_block hb 2).trans rfl) rfl (L.old 1 (by kernel_rfl))
  ·have hb := (L.rel.block w.heap.size trivial HZ.out).trans HB.out
   exact kp_lG ((cell_of_block hb 0).trans rfl) ((cell_of_block hb 1).trans rfl) ((cell_of_block hb 2).trans rfl) rfl (L.old 1 (by kernel_rfl))
  ·have e0 : a1.eval (.tmp 4) = .agg #[u, v, .slice A m c] := L.val 1 4 (by kernel_rfl) (by kernel_rfl)
   have hf : a1.eval (.func 148) = .func (.func 148) #[] #[] := rfl
   refine kp_enter (f := 148) (args := #[.agg #[u, v, .slice A m c]]) ?_ (count_any w3 u v A m c h1 h2) ?_
   ·clear L
    generalize a1.eval = ρ at e0 hf ⊢
    unfold execOp
    go_simp
   ·rintro e w' ⟨rfl, hk⟩
    exact ⟨_, rfl, hk, rfl⟩
  ·have e0 : a1.eval (.tmp 3) = .agg #[u, v, .slice A m c] := L.val 0 3 (by kernel_rfl) (by kernel_rfl)
   have e1 : a1.eval (.tmp 5) = .int .i64 (m : Int) := L.val 2 5 (by kernel_rfl) (by kernel_rfl)
   have hf : a1.eval (.func 149) = .func (.func 149) #[] #[] := rfl
   refine kp_enter (f := 149) (args := #[.agg #[u, v, .slice A m c], .int .i64 (m : Int)]) ?_ (HS.out w3 (HK0.out.trans L.rel)) ?_
   ·clear L
    generalize a1.eval = ρ at e0 e1 hf ⊢
    unfold execOp
    go_simp
   ·rintro e w' ⟨rfl, hk⟩
    exact ⟨_, rfl, hk, rfl⟩
  ·exact kp_assign rfl (L.val 3 6 (by kernel_rfl) (by kernel_rfl))
 ·intro vs w4 hk4 hlen4 hv
  match vs, hlen4 with
  | [v0, v1, v2, v3, v4], _ =>
   have e4 : v4 = .int .i64 (endAt rs m : Int) := hv 4 2 (by kernel_rfl)
   clear hv
   subst e4
   simp only [putAll, List.map, Act.put, List.setIfInBounds_toArray, List.set_cons_succ, List.set_cons_zero, Exit.then]
   go_wp2_with fail
   go_ret
   exact ⟨rfl, HK0.out.trans hk4⟩
set_option maxRecDepth 100000 in
theorem chunk_in (F : Fence) (n : Nat) (hfn : F.fn 137) (hro : F.round = none) (v : Value) (hv : v.oneCell' = true) (w : World) :
  CallsIn F n Tryz.prog 137 #[v, .int .i64 53] w fun e w' => ∃ Bs Bn, e = .returned (.func (.func 172) #[] #[.pointer (some ⟨Bs, 0, none⟩), .pointer (some ⟨Bn, 0, none⟩)]) ∧
   w'.cell? ⟨Bs, 0, none⟩ = some v ∧ w'.cell? ⟨Bn, 0, none⟩ = some (.int .i64 53) ∧ w.heap.size ≤ Bs ∧ w.heap.size ≤ Bn ∧ Kp w w' := by
 refine callsIn_of_wp Tryz.func137 rfl hfn ?_ hro
 simp only [Tryz.ntmps137, List.size_toArray, List.length_cons, List.length_nil, Nat.reduceAdd, Nat.reduceSub, Array.replicate_succ, Array.replicate_zero, List.push_toArray, List.append_toArray, List.nil_append, List.cons_append]
 gi_wp2
 go_ret
 refine ⟨_, _, rfl, ?_, ?_, Nat.le_refl _, Nat.le_succ _, ((Keeps.refl _ w).alloc _).alloc _⟩
 ·rw [World.cell?_alloc_lt _ _ _ (by simp), World.cell?_alloc_at _ _ _ _ rfl]; rfl
 ·rw [World.cell?_alloc_at _ _ _ _ (by simp)]; rfl
theorem chunk_stops (F : Fence) (n : Nat) (hfn : F.fn 172) (hro : F.round = none) (hn : 1 ≤ n) (Bs Bn g o len cap : Nat) (hlc : len ≤ cap) (hlm : len ≤ 1000000000000) (w : World)
  (hBs : w.cell? ⟨Bs, 0, none⟩ = some (.slice (some ⟨g, o, none⟩) len cap)) (hBn : w.cell? ⟨Bn, 0, none⟩ = some (.int .i64 53)) :
  SeqStopsK F n Tryz.prog 172 #[.pointer (some ⟨Bs, 0, none⟩), .pointer (some ⟨Bn, 0, none⟩)] (encCh g o len) (KpB Bs Bn) (fun ys => ys = List.range (chunks len)) (fun pre => ∃ k, k ≤ chunks len ∧ pre = List.range k) (chunks len) w := fun l J Jx W hW hJ _ hY h0 =>
 chunk1_in F n hfn hro hn l Bs Bn g o len cap hlc hlm J Jx (fun s W' h => hJ s W' W'.drew none h ⟨rfl, rfl, rfl, Nat.le_refl _, fun _ _ _ => rfl⟩ (fun r e => by cases e)) hY W
  ((hW.cell (p := ⟨Bs, 0, none⟩) (World.block_lt_of_cell? w _ hBs)).trans hBs) ((hW.cell (p := ⟨Bn, 0, none⟩) (World.block_lt_of_cell? w _ hBn)).trans hBn) h0
end Go.Proofs.YticophaepapjoaaGreatDoor
