/-
  FlashHist, NumAll, ItemRef, IndexIf, IxMath, SlgConcat: texts of mine, joined.
-/
import Derived.Test.YticophaepapjoaaGreatDoorAllB01
import Derived.Test.YticophaepapjoaaGreatDoorAllB04
import Derived.Test.YticophaepapjoaaGreatDoorAllB03
import Derived.WalkSpells
import Derived.Lib.SmallJoins
import Derived.Test.YticophaepapjoaaGreatDoorAllB02
import Derived.Lib.Hide
import Derived.Test.YticophaepapjoaaGreatDoorAllB08
import Derived.Test.YticophaepapjoaaGreatDoorAllB09
open Go.Lib renaming hid → Hd
set_option maxRecDepth 100000
set_option maxHeartbeats 8000000
namespace Go.Proofs.YticophaepapjoaaGreatDoor
open Go
structure FEnt where
 x : It
 opens : Nat
def FEnt.cost (e : FEnt) : Nat := e.x.key.size + e.x.val.size + 80 + 400 * e.opens
def fcosts (l : List FEnt) : Nat := (l.map FEnt.cost).sum
def fopened : List FEnt → List FEnt
 | [] => []
 | [e] => [⟨e.x, e.opens + 1⟩]
 | e :: l => e :: fopened l
structure FSt where
 place : Nat
 segs : Nat
 ents : List FEnt
 gone : Nat
 age : Nat
def FSt.has (st : FSt) (i : Nat) : Prop := st.place ≤ i ∧ i < st.place + 8 * st.segs
def isKF (k : ByteArray) (e : FEnt) : Bool := e.x.key.data.toList == k.data.toList
def fLast (l : List FEnt) (n : Nat) (k : ByteArray) : Option It := ((l.drop n).reverse.find? (isKF k)).map (·.x)
def FSt.at_ (st : FSt) (k : ByteArray) : Option It := (fLast st.ents st.gone k).bind fun x => if x.gone then none else some x
structure FSt.Ok (st : FSt) : Prop where
 segs : 3 ≤ st.segs ∧ st.segs ≤ 200
 one : ∀ e ∈ st.ents, e.x.may = true
 gone : st.gone ≤ st.ents.length
 kept : ∀ i, i ≤ st.ents.length → fcosts (st.ents.drop i) ≤ 200 * (st.segs - 2) → st.gone ≤ i
def grave (k : ByteArray) : FEnt := ⟨⟨k, ⟨#[]⟩, 0, true⟩, 0⟩
def fput (x : It) : FEnt := ⟨x, 0⟩
def keyOk (k : ByteArray) : Prop := 1 ≤ k.size ∧ k.size ≤ 40
theorem isKF_iff {k : ByteArray} {e : FEnt} : isKF k e = true ↔ e.x.key = k := by
 unfold isKF
 rw [beq_iff_eq]
 exact ⟨fun h => data_inj h, fun h => by rw [h]⟩
theorem FSt.Ok.whole {st : FSt} (h : st.Ok) (hc : fcosts st.ents ≤ 200 * (st.segs - 2)) : st.gone = 0 := by
 have := h.kept 0 (Nat.zero_le _) (by simpa using hc)
 omega
theorem fLast_app (l r : List FEnt) (k : ByteArray) : fLast (l ++ r) 0 k = (fLast r 0 k).or (fLast l 0 k) := by
 unfold fLast
 rw [List.drop_zero, List.drop_zero, List.drop_zero, List.reverse_append, List.find?_append]
 cases r.reverse.find? (isKF k) <;> rfl
theorem fLast_snoc (l : List FEnt) (e : FEnt) (k : ByteArray) : fLast (l ++ [e]) 0 k = if e.x.key = k then some e.x else fLast l 0 k := by
 rw [fLast_app]
 by_cases h : e.x.key = k
 ·rw [if_pos h]
  simp [fLast, isKF_iff.2 h]
 ·have : isKF k e = false := by
   cases hk : isKF k e with
   | false => rfl
   | true => exact absurd (isKF_iff.1 hk) h
  rw [if_neg h]
  simp [fLast, List.find?, this]
end Go.Proofs.YticophaepapjoaaGreatDoor
namespace Go.Proofs.YticophaepapjoaaGreatDoor
open Go Go.RowKit
def allZ : Nat → List UInt8 → List Int × Nat × Nat
 | 0, _ => ([], 0, 0)
 | n + 1, l =>
  match getZ l with
  | (x, k, 0) => (x :: (allZ n (l.drop k)).1, k + (allZ n (l.drop k)).2.1, (allZ n (l.drop k)).2.2)
  | (_, _, e + 1) => ([], 0, e + 1)
theorem allZ_ok {n : Nat} {l : List UInt8} {x : Int} {k : Nat} (h : getZ l = (x, k, 0)) :
  allZ (n + 1) l = (x :: (allZ n (l.drop k)).1, k + (allZ n (l.drop k)).2.1, (allZ n (l.drop k)).2.2) := by
 rw [allZ]; split
 ·rename_i x' k' h'; rw [h] at h'; obtain ⟨rfl, rfl, _⟩ := h'; rfl
 ·rename_i h'; rw [h] at h'; simp at h'
theorem allZ_err {n : Nat} {l : List UInt8} {x : Int} {k e : Nat} (h : getZ l = (x, k, e)) (he : e ≠ 0) : allZ (n + 1) l = ([], 0, e) := by
 rw [allZ]; split
 ·rename_i x' k' h'; rw [h] at h'; simp at h'; exact absurd h'.2.2 he
 ·rename_i h'; rw [h] at h'; simp at h'; rw [h'.2.2]
theorem allZ_puts (ns : List Int) (r : List UInt8) (h : ∀ n ∈ ns, -9223372036854775808 ≤ n ∧ n < 9223372036854775808) :
  allZ ns.length (ns.flatMap putZ ++ r) = (ns, (ns.flatMap putZ).length, 0) := by
 induction ns with
 | nil => rfl
 | cons n ns ih =>
  have hn := h n (by simp)
  have ih' := ih fun m hm => h m (by simp [hm])
  have e : (n :: ns).flatMap putZ ++ r = putZ n ++ (ns.flatMap putZ ++ r) := by simp
  rw [List.length_cons, e, allZ_ok (getZ_put n _ hn.1 hn.2)]
  simp [ih']
def stores : World → List (Option Addr) → List Int → World
 | w, some p :: ps, n :: ns => stores (w.setCell p (.int .i64 n)) ps ns
 | w, none :: ps, _ :: ns => stores w ps ns
 | w, _, _ => w
theorem stores_nil (w : World) (ps : List (Option Addr)) : stores w ps [] = w := by cases ps with
 | nil => rfl
 | cons p ps => cases p <;> rfl
theorem stores_snoc (ps : List (Option Addr)) (xs : List Int) (w : World) (p : Option Addr) (x : Int) (h : xs.length = ps.length) :
  stores w (ps ++ [p]) (xs ++ [x]) = match p with | some a => (stores w ps xs).setCell a (.int .i64 x) | none => stores w ps xs := by
 induction ps generalizing xs w with
 | nil =>
  obtain rfl : xs = [] := List.eq_nil_of_length_eq_zero (by simpa using h)
  cases p <;> rfl
 | cons q ps ih =>
  cases xs with
  | nil => simp at h
  | cons y xs =>
   cases q with
   | none => simp only [List.cons_append, stores]; exact ih xs w (by simpa using h)
   | some a => simp only [List.cons_append, stores]; exact ih xs _ (by simpa using h)
theorem stores_keeps (F : Nat → Prop) (ps : List (Option Addr)) (xs : List Int) (w0 w : World) (h : ∀ a, some a ∈ ps → ¬ F a.block) (hw : Keeps F w0 w) : Keeps F w0 (stores w ps xs) := by
 induction ps generalizing xs w with
 | nil => simpa [stores] using hw
 | cons q ps ih =>
  cases xs with
  | nil => rw [stores_nil]; exact hw
  | cons y xs =>
   cases q with
   | none => exact ih xs w (fun a ha => h a (by simp [ha])) hw
   | some a => exact ih xs _ (fun b hb => h b (by simp [hb])) (hw.setCell (.inr (h a (by simp))) _)
def Place (w : World) (a : Addr) : Prop := (∃ v, w.cell? a = some v) ∧ w.frozen? a = false
theorem Place.setCell {w : World} {a b : Addr} {v : Value} (h : Place w a) : Place (w.setCell b v) a := by
 obtain ⟨⟨u, hu⟩, hf⟩ := h
 refine ⟨?_, by rw [World.frozen?_setCell]; exact hf⟩
 by_cases e : b = a
 ·subst e; exact ⟨v, World.cell?_setCell_same w b v hu⟩
 ·exact ⟨u, (World.cell?_setCell_other w b a v e).trans hu⟩
theorem Place.stores {a : Addr} (ps : List (Option Addr)) (xs : List Int) (w : World) (h : Place w a) : Place (stores w ps xs) a := by
 induction ps generalizing xs w with
 | nil => simpa [Go.Proofs.YticophaepapjoaaGreatDoor.stores] using h
 | cons q ps ih =>
  cases xs with
  | nil => rw [stores_nil]; exact h
  | cons y xs =>
   cases q with
   | none => exact ih xs w h
   | some b => exact ih xs _ h.setCell
theorem stores_take (ps : List (Option Addr)) (xs : List Int) (w : World) : stores w ps xs = stores w (ps.take xs.length) xs := by
 induction ps generalizing xs w with
 | nil => simp
 | cons q ps ih =>
  cases xs with
  | nil => simp [stores]
  | cons y xs =>
   cases q with
   | none => simp only [List.length_cons, List.take_succ_cons, stores]; exact ih xs w
   | some b => simp only [List.length_cons, List.take_succ_cons, stores]; exact ih xs _
def AllPost (w : World) (ps : List (Option Addr)) (l : List UInt8) (e : Ending) (w' : World) : Prop :=
 e = .returned (.tuple #[.int .i64 ((if (allZ ps.length l).2.2 = 0 then (allZ ps.length l).2.1 else 0 : Nat) : Int), .int .i64 ((allZ ps.length l).2.2 : Nat)]) ∧ w' = stores w ps (allZ ps.length l).1
theorem AllPost.err {w : World} {ps : List (Option Addr)} {l : List UInt8} {xs : List Int} {at_ e : Nat} (he : e ≠ 0) (hz : allZ ps.length l = (xs, at_, e)) :
  AllPost w ps l (.returned (.tuple #[.int .i64 0, .int .i64 (e : Nat)])) (stores w (ps.take xs.length) xs) := by
 refine ⟨?_, ?_⟩
 ·rw [hz]; simp [he]
 ·rw [hz]; exact (stores_take ps xs w).symm
theorem AllPost.ok {w : World} {ps : List (Option Addr)} {l : List UInt8} {xs : List Int} {at_ : Nat} (hz : allZ ps.length l = (xs, at_, 0)) :
  AllPost w ps l (.returned (.tuple #[.int .i64 (at_ : Nat), .int .i64 0])) (stores w (ps.take xs.length) xs) := by
 refine ⟨?_, ?_⟩
 ·rw [hz]; simp
 ·rw [hz]; exact (stores_take ps xs w).symm
theorem get_n (A : Option Addr) (c n : Nat) (F : Nat → Prop) (l : List UInt8) (w : World) (h : Row w A F (bcells l)) (hl : l.length ≤ 1099511627776) (hn : n = l.length) (x : Int) (k e : Nat) (hg : getZ l = (x, k, e)) :
  Calls Tryz.prog 125 #[.slice A n c] w fun e' w' => e' = .returned (.tuple #[.int .i64 x, .int .i64 (k : Nat), .int .i64 (e : Nat)]) ∧ w = w' := by
 subst hn; exact get_is A c F l w h hl x k e hg
theorem all_any (A B : Option Addr) (c d : Nat) (F : Nat → Prop) (l : List UInt8) (ps : List (Option Addr)) (w : World) (h : Row w A F (bcells l)) (hB : Row w B F (ps.map Value.pointer))
  (hp : ∀ a, some a ∈ ps → Place w a ∧ ¬ F a.block) (hl : l.length ≤ 1099511627776) (hc : l.length ≤ c) (hps : ps.length ≤ 1099511627776) :
  Calls Tryz.prog 117 #[.slice A l.length c, .slice B ps.length d] w (AllPost w ps l) := by
 have HA := Hd h
 have HB := Hd hB
 have HP := Hd hp
 clear h hB hp
 go_enter Tryz.func117, Tryz.ntmps117
 go_wp2
 go_loopw [6, 14] (fun s i wr => ∃ (j at_ : Nat) (xs : List Int), j ≤ ps.length ∧ at_ ≤ l.length ∧ xs.length = j ∧ i = .int .i64 j ∧ s = .int .i64 at_ ∧ wr = stores w (ps.take j) xs ∧
   allZ ps.length l = (xs ++ (allZ (ps.length - j) (l.drop at_)).1, at_ + (allZ (ps.length - j) (l.drop at_)).2.1, (allZ (ps.length - j) (l.drop at_)).2.2)) (fun _ i _ => ps.length - (intOf i).toNat)
 case atStart => exact ⟨0, 0, [], Nat.zero_le _, Nat.zero_le _, rfl, rfl, rfl, by simp [stores], by simp⟩
 case round =>
  obtain ⟨j, at_, xs, hj, hat, hxs, rfl, rfl, hwr, hz⟩ := hrel
  have hkp : Keeps F w wr := by rw [hwr]; exact stores_keeps F _ _ w w (fun a ha => (HP.out a (List.mem_of_mem_take ha)).2) (Keeps.refl _ _)
  have hpl : ∀ a, some a ∈ ps → Place wr a := fun a ha => by rw [hwr]; exact Place.stores _ _ _ (HP.out a ha).1
  have HW := Hd hwr
  have HZ := Hd hz
  have HX := Hd hxs
  have HR := Hd (HA.out.keep hkp)
  by_cases hlt : j < ps.length
  ·obtain ⟨b, o, rfl, _, hcell⟩ := (HB.out.keep hkp).at_ (k := j) (by simpa using hlt)
   simp only [List.getElem_map] at hcell
   have hcut := HR.out.cut (k := at_) (cap := c) (by rw [bcells_len]; exact hat) (by rw [bcells_len]; exact hc)
   rw [bcells, ← List.map_drop] at hcut
   have hdl : (l.drop at_).length ≤ 1099511627776 := by rw [List.length_drop]; omega
   have hj1 : ps.length - j = (ps.length - (j + 1)) + 1 := by omega
   have bad : ∀ (x : Int) (k e : Nat), e ≠ 0 → getZ (l.drop at_) = (x, k, e) → AllPost w ps l (.returned (.tuple #[.int .i64 0, .int .i64 (e : Nat)])) wr := by
    intro x k e he hg
    have h1 := HZ.out
    rw [hj1, allZ_err hg he, List.append_nil] at h1
    have h2 := AllPost.err (w := w) he h1
    rw [HX.out, ← HW.out] at h2
    exact h2
   have HBad := Hd bad
   by_cases hca : c = at_
   ·subst hca
    have hR : Row wr A F (bcells (l.drop c)) := by rwa [if_pos rfl] at hcut
    have hnil : l.drop c = [] := List.drop_eq_nil_of_le hc
    rw [hnil] at hR
    have hbad := HBad.out 0 0 2 (by decide) (by rw [hnil]; rfl)
    have HRr := Hd hR
    have HF := Hd hbad
    clear hR hcut hwr hz hxs hkp hpl hbad bad hnil hj1
    go_wp2_with fail
    refine (get_n _ _ 0 _ [] _ HRr.out (by decide) rfl 0 0 2 rfl).mono ?_
    rintro e w' ⟨rfl, rfl⟩
    go_wp2
    go_ret2
    exact HF.out
   ·have hR : Row wr (A.map (·.add at_)) F (bcells (l.drop at_)) := by rwa [if_neg hca] at hcut
    have HRr := Hd hR
    have hln : l.length - at_ = (l.drop at_).length := by rw [List.length_drop]
    have err : ∀ (x : Int) (k e : Nat), e ≠ 0 → getZ (l.drop at_) = (x, k, e) → True := fun _ _ _ _ _ => trivial
    rcases getZ_cases (l.drop at_) with ⟨x, k, hg, hk0, hk10, hkl, hx1, hx2⟩ | hg | hg
    ·have hz2 : allZ ps.length l = ((xs ++ [x]) ++ (allZ (ps.length - (j + 1)) (l.drop (at_ + k))).1, (at_ + k) + (allZ (ps.length - (j + 1)) (l.drop (at_ + k))).2.1, (allZ (ps.length - (j + 1)) (l.drop (at_ + k))).2.2) := by
      have h1 := HZ.out
      rw [hj1, allZ_ok hg, List.drop_drop] at h1
      rw [h1]
      simp [Nat.add_assoc]
     have hst : stores w (ps.take (j + 1)) (xs ++ [x]) = match ps[j] with | some a => wr.setCell a (.int .i64 x) | none => wr := by
      rw [List.take_succ_eq_append_getElem hlt, stores_snoc _ _ _ _ _ (by rw [HX.out, List.length_take]; omega), ← HW.out]
     have hplj : ∀ a, ps[j] = some a → Place wr a := fun a ha => hpl a (by rw [← ha]; exact List.getElem_mem hlt)
     rw [List.length_drop] at hkl
     have HG := Hd hg
     have HZ2 := Hd hz2
     have HST := Hd hst
     have HPJ := Hd hplj
     have HLN := Hd hln
     clear hR hcut hwr hz hxs hkp hpl bad hg hz2 hst hplj hln err hx1 hx2 hj1
     generalize ps[j] = q at hcell HST HPJ
     rcases q with _ | a
     ·go_wp2_with fail
      refine (get_n _ _ _ _ _ _ HRr.out hdl HLN.out x k 0 HG.out).mono ?_
      rintro e w' ⟨rfl, rfl⟩
      go_wp2_with fail
      go_roundw
      case rel => exact ⟨j + 1, at_ + k, xs ++ [x], by omega, by omega, by rw [List.length_append, HX.out]; rfl, by go_num, by go_num, HST.out.symm, HZ2.out⟩
      case measure => simp [intOf]; omega
     ·obtain ⟨⟨v0, hv0⟩, hf0⟩ := HPJ.out a rfl
      go_wp2_with fail
      refine (get_n _ _ _ _ _ _ HRr.out hdl HLN.out x k 0 HG.out).mono ?_
      rintro e w' ⟨rfl, rfl⟩
      go_wp2_with fail
      go_roundw
      case rel => exact ⟨j + 1, at_ + k, xs ++ [x], by omega, by omega, by rw [List.length_append, HX.out]; rfl, by go_num, by go_num, HST.out.symm, HZ2.out⟩
      case measure => simp [intOf]; omega
    ·have HF := Hd (HBad.out 0 0 1 (by decide) hg)
     have HG := Hd hg
     have HLN := Hd hln
     clear hR hcut hwr hz hxs hkp hpl bad hg err hj1 hln
     go_wp2_with fail
     refine (get_n _ _ _ _ _ _ HRr.out hdl HLN.out 0 0 1 HG.out).mono ?_
     rintro e w' ⟨rfl, rfl⟩
     go_wp2
     go_ret2
     exact HF.out
    ·have HF := Hd (HBad.out 0 0 2 (by decide) hg)
     have HG := Hd hg
     have HLN := Hd hln
     clear hR hcut hwr hz hxs hkp hpl bad hg err hj1 hln
     go_wp2_with fail
     refine (get_n _ _ _ _ _ _ HRr.out hdl HLN.out 0 0 2 HG.out).mono ?_
     rintro e w' ⟨rfl, rfl⟩
     go_wp2
     go_ret2
     exact HF.out
  ·obtain rfl : j = ps.length := by omega
   have hz2 : allZ ps.length l = (xs, at_, 0) := by rw [hz]; simp [allZ]
   have hfin := AllPost.ok (w := w) hz2
   rw [hxs, ← hwr] at hfin
   have HF := Hd hfin
   clear hfin hz2 hz hxs hwr hkp hpl
   go_wp2
   go_ret2
   exact HF.out
end Go.Proofs.YticophaepapjoaaGreatDoor
namespace Go.Proofs.YticophaepapjoaaGreatDoor
open Go Go.RowKit Go.Joins
theorem rkey (s : ByteArray) (hs : s.size ≤ 1000000) (w : World) (kb : Bool) (hk : (decide (1 ≤ s.size) && decide (s.size ≤ 40)) = kb) :
  Calls Tryz.prog 17 #[.string s] w fun e w' => e = .returned (.bool kb) ∧ w = w' := by
 by_cases h1 : 1 ≤ s.size
 ·by_cases h2 : s.size ≤ 40
  ·have t1 : decide ((1 : Int) ≤ (s.size : Int)) = true := by simp; omega
   have t2 : decide ((s.size : Int) ≤ 40) = true := by simp; omega
   obtain rfl : true = kb := by rw [← hk]; simp [h1, h2]
   clear hk h1 h2
   go_enter Tryz.func17, Tryz.ntmps17
   go_wp2_with fail
   go_ret
   exact ⟨rfl, rfl⟩
  ·have t1 : decide ((1 : Int) ≤ (s.size : Int)) = true := by simp; omega
   have t2 : decide ((s.size : Int) ≤ 40) = false := by simp; omega
   obtain rfl : false = kb := by rw [← hk]; simp [h2]
   clear hk h1 h2
   go_enter Tryz.func17, Tryz.ntmps17
   go_wp2_with fail
   go_ret
   exact ⟨rfl, rfl⟩
 ·have t1 : decide ((1 : Int) ≤ (s.size : Int)) = false := by simp; omega
  obtain rfl : false = kb := by rw [← hk]; simp [h1]
  clear hk h1
  go_enter Tryz.func17, Tryz.ntmps17
  go_wp2_with fail
  go_ret
  exact ⟨rfl, rfl⟩
theorem str_same (a b : ByteArray) : (a.toList == b.toList) = decide (a = b) := by
 by_cases h : a = b
 ·subst h; simp
 ·have : a.toList ≠ b.toList := fun e => h (by
   rw [Lib.toList_data, Lib.toList_data] at e
   exact data_inj e)
  simp [h, this]
theorem size_zero {s : ByteArray} : s = ⟨#[]⟩ ↔ s.size = 0 := by
 constructor
 ·rintro rfl; rfl
 ·intro h
  obtain ⟨d⟩ := s
  have : d.size = 0 := h
  rw [Array.size_eq_zero_iff] at this
  rw [this]
theorem rmay (w : World) (x : It) (hx : x.fits) :
  Calls Tryz.prog 27 #[.agg #[.string x.key, .string x.val, .int .i64 x.till, .bool x.gone]] w fun e w' => e = .returned (.bool x.may) ∧ Keeps (fun _ => True) w w' := by
 obtain ⟨hk, hv, ht1, ht2⟩ := hx
 have cases_ : ∃ kb, (decide (1 ≤ x.key.size) && decide (x.key.size ≤ 40)) = kb ∧ (
   (kb = false ∧ x.may = false) ∨
   (kb = true ∧ decide ((x.val.size : Int) ≤ 200) = false ∧ x.may = false) ∨
   (kb = true ∧ decide ((x.val.size : Int) ≤ 200) = true ∧ decide ((0 : Int) ≤ x.till) = false ∧ x.may = false) ∨
   (kb = true ∧ decide ((x.val.size : Int) ≤ 200) = true ∧ decide ((0 : Int) ≤ x.till) = true ∧ decide (x.till ≤ 1099511627776) = false ∧ x.may = false) ∨
   (kb = true ∧ decide ((x.val.size : Int) ≤ 200) = true ∧ decide ((0 : Int) ≤ x.till) = true ∧ decide (x.till ≤ 1099511627776) = true ∧ x.gone = false ∧ x.may = true) ∨
   (kb = true ∧ decide ((x.val.size : Int) ≤ 200) = true ∧ decide ((0 : Int) ≤ x.till) = true ∧ decide (x.till ≤ 1099511627776) = true ∧ x.gone = true ∧ (x.val.toList == []) = false ∧ x.may = false) ∨
   (kb = true ∧ decide ((x.val.size : Int) ≤ 200) = true ∧ decide ((0 : Int) ≤ x.till) = true ∧ decide (x.till ≤ 1099511627776) = true ∧ x.gone = true ∧ (x.val.toList == []) = true ∧ (x.till == 0) = false ∧ x.may = false) ∨
   (kb = true ∧ decide ((x.val.size : Int) ≤ 200) = true ∧ decide ((0 : Int) ≤ x.till) = true ∧ decide (x.till ≤ 1099511627776) = true ∧ x.gone = true ∧ (x.val.toList == []) = true ∧ (x.till == 0) = true ∧ x.may = true)) := by
  refine ⟨_, rfl, ?_⟩
  have e1 : decide ((x.val.size : Int) ≤ 200) = decide (x.val.size ≤ 200) := decide_eq_decide.2 (by omega)
  have e2 : (x.val.toList == []) = decide (x.val.size = 0) := by
   have h := str_same x.val ⟨#[]⟩
   rw [show ByteArray.toList ⟨#[]⟩ = [] from by rw [Lib.toList_data]] at h
   exact h.trans (decide_eq_decide.2 size_zero)
  have e3 : (x.till == 0) = decide (x.till = 0) := rfl
  rw [e1, e2, e3]
  unfold It.may
  generalize (decide (1 ≤ x.key.size) && decide (x.key.size ≤ 40)) = b1
  generalize decide (x.val.size ≤ 200) = b2
  generalize decide ((0 : Int) ≤ x.till) = b3
  generalize decide (x.till ≤ 1099511627776) = b4
  generalize decide (x.val.size = 0) = b5
  generalize decide (x.till = 0) = b6
  generalize x.gone = b7
  revert b1 b2 b3 b4 b5 b6 b7
  decide
 obtain ⟨kb, hkb, hc⟩ := cases_
 obtain ⟨key, val, till, gone⟩ := x
 simp only at *
 have RK := fun w => rkey key hk w kb hkb
 have HM := Hd (show (⟨key, val, till, gone⟩ : It).may = (⟨key, val, till, gone⟩ : It).may from rfl)
 generalize (⟨key, val, till, gone⟩ : It).may = m at *
 clear hkb HM
 rcases hc with ⟨rfl, rfl⟩ | ⟨rfl, t1, rfl⟩ | ⟨rfl, t1, t2, rfl⟩ | ⟨rfl, t1, t2, t3, rfl⟩ | ⟨rfl, t1, t2, t3, rfl, rfl⟩ | ⟨rfl, t1, t2, t3, rfl, t4, rfl⟩ | ⟨rfl, t1, t2, t3, rfl, t4, t5, rfl⟩ | ⟨rfl, t1, t2, t3, rfl, t4, t5, rfl⟩
 all_goals
  go_enter Tryz.func27, Tryz.ntmps27
  go_wp2_with fail
  refine (RK _).mono ?_
  rintro e w1 ⟨rfl, rfl⟩
  go_wp2_with fail
  go_ret
  exact ⟨by first | rfl | (rw [← t5]; rfl), (Keeps.refl _ _).alloc _⟩
theorem reqItem (w : World) (x y : It) (hx : x.fits) (hy : y.fits) (r : Bool) (hr : decide (x = y) = r) :
  Calls Tryz.prog 28 #[.agg #[.string x.key, .string x.val, .int .i64 x.till, .bool x.gone], .agg #[.string y.key, .string y.val, .int .i64 y.till, .bool y.gone]] w fun e w' => e = .returned (.bool r) ∧ Keeps (fun _ => True) w w' := by
 obtain ⟨key, val, till, gone⟩ := x
 obtain ⟨key2, val2, till2, gone2⟩ := y
 obtain ⟨hk, hv, ht1, ht2⟩ := hx
 obtain ⟨gk, gv, gt1, gt2⟩ := hy
 simp only at *
 have hc : ((key.toList == key2.toList) = false ∧ r = false) ∨ ((key.toList == key2.toList) = true ∧ (val.toList == val2.toList) = false ∧ r = false) ∨ ((key.toList == key2.toList) = true ∧ (val.toList == val2.toList) = true ∧ (till == till2) = false ∧ r = false) ∨
   ((key.toList == key2.toList) = true ∧ (val.toList == val2.toList) = true ∧ (till == till2) = true ∧ (gone == gone2) = false ∧ r = false) ∨ ((key.toList == key2.toList) = true ∧ (val.toList == val2.toList) = true ∧ (till == till2) = true ∧ (gone == gone2) = true ∧ r = true) := by
  subst hr
  rw [str_same, str_same]
  by_cases h1 : key = key2
  ·by_cases h2 : val = val2
   ·by_cases h3 : till = till2
    ·by_cases h4 : gone = gone2 <;> simp [h1, h2, h3, h4]
    ·simp [h1, h2, h3]
   ·simp [h1, h2]
  ·simp [h1]
 clear hr
 rcases hc with ⟨t1, rfl⟩ | ⟨t1, t2, rfl⟩ | ⟨t1, t2, t3, rfl⟩ | ⟨t1, t2, t3, t4, rfl⟩ | ⟨t1, t2, t3, t4, rfl⟩
 all_goals
  go_enter Tryz.func28, Tryz.ntmps28
  go_wp2_with fail
  go_ret
  exact ⟨by first | rfl | (rw [← t4]; rfl), ((Keeps.refl _ _).alloc _).alloc _⟩
end Go.Proofs.YticophaepapjoaaGreatDoor
namespace Go.Proofs.YticophaepapjoaaGreatDoor
open Go Go.RowKit
abbrev IxSt := List (ByteArray × Int)
def isK (k : ByteArray) (x : ByteArray × Int) : Bool := x.1.data.toList == k.data.toList
def ixGet (st : IxSt) (k : ByteArray) : Option Int := (st.find? (isK k)).map (·.2)
def ixPut (st : IxSt) (k : ByteArray) (p : Int) : IxSt := if (ixGet st k).isSome then st.map (fun x => if isK k x then (x.1, p) else x) else st ++ [(k, p)]
def ixDrop (st : IxSt) (k : ByteArray) : IxSt := st.filter fun x => !isK k x
def ixBelow (st : IxSt) (p : Int) : IxSt := st.filter fun x => decide (p ≤ x.2)
def i64 (p : Int) : Prop := -9223372036854775808 ≤ p ∧ p < 9223372036854775808
structure IndexOK where
 T : World → Prop
 tk : ∀ {w w' : World}, T w → Keeps (fun _ => True) w w' → T w'
 rep : World → Nat → Foot → IxSt → Prop
 lt : ∀ {w q F st}, rep w q F st → ∀ b, F.all b → b < w.heap.size
 keep : ∀ {w w' q F st}, rep w q F st → Keeps F.all w w' → rep w' q F st
 new : ∀ w : World, T w → Calls Tryz.prog 99 #[] w fun e w' => ∃ (q : Nat) (F : Foot), e = .returned (.pointer (some ⟨q, 0, none⟩)) ∧ rep w' q F [] ∧ (∀ b, F.all b → w.heap.size ≤ b) ∧ Keeps (fun _ => True) w w'
 put : ∀ (W w : World) (q : Nat) (F : Foot) (st : IxSt), rep w q F st → T W → Keeps (fun _ => True) W w → (∀ b, F.all b → W.heap.size ≤ b) → st.length ≤ 32768 → ∀ (k : ByteArray) (p : Int), k.size ≤ 1000000 → i64 p →
  Calls Tryz.prog 108 #[.pointer (some ⟨q, 0, none⟩), .string k, .int .i64 p] w fun e w' => e = .returned (.int .i64 ((ixGet st k).getD 0)) ∧ ∃ F' : Foot, rep w' q F' (ixPut st k p) ∧ Step F F' w w'
 get : ∀ (w : World) (q : Nat) (F : Foot) (st : IxSt), rep w q F st → T w → st.length ≤ 32768 → ∀ k : ByteArray, k.size ≤ 1000000 →
  Calls Tryz.prog 43 #[.pointer (some ⟨q, 0, none⟩), .string k] w fun e w' => e = .returned (.tuple #[.int .i64 ((ixGet st k).getD 0), .bool (ixGet st k).isSome]) ∧ Keeps (fun _ => True) w w'
 drop : ∀ (W w : World) (q : Nat) (F : Foot) (st : IxSt), rep w q F st → T W → Keeps (fun _ => True) W w → (∀ b, F.all b → W.heap.size ≤ b) → st.length ≤ 32768 → ∀ k : ByteArray, k.size ≤ 1000000 →
  Calls Tryz.prog 107 #[.pointer (some ⟨q, 0, none⟩), .string k] w fun e w' => e = .returned (.bool (ixGet st k).isSome) ∧ ∃ F' : Foot, rep w' q F' (ixDrop st k) ∧ Step F F' w w'
 below : ∀ (W w : World) (q : Nat) (F : Foot) (st : IxSt), rep w q F st → T W → Keeps (fun _ => True) W w → (∀ b, F.all b → W.heap.size ≤ b) → st.length ≤ 32768 → ∀ p : Int, i64 p →
  Calls Tryz.prog 73 #[.pointer (some ⟨q, 0, none⟩), .int .i64 p] w fun e w' => e = .returned (.int .i64 ((st.length - (ixBelow st p).length : Nat) : Int)) ∧ ∃ F' : Foot, rep w' q F' (ixBelow st p) ∧ Step F F' w w'
 keys : ∀ (w : World) (q : Nat) (F : Foot) (st : IxSt), rep w q F st → T w → st.length ≤ 32768 →
  Calls Tryz.prog 61 #[.pointer (some ⟨q, 0, none⟩)] w fun e w' => ∃ (A : Option Addr) (c : Nat) (ks : List ByteArray), e = .returned (.slice A st.length c) ∧ ks.Perm (st.map (·.1)) ∧ Rising ks ∧ st.length ≤ c ∧ c ≤ maxLen ∧
   Row w' A (fun b => w.heap.size ≤ b ∧ b < w'.heap.size) (ks.map Value.string) ∧ Keeps (fun _ => True) w w'
structure Sl where
 key : ByteArray
 hash : Int
 pos : Int
 full : Bool
def Sl.zero : Sl := ⟨⟨#[]⟩, 0, 0, false⟩
abbrev Tab := Nat → Sl
def setT (T : Tab) (i : Nat) (s : Sl) : Tab := fun j => if j = i then s else T j
def ent (s : Sl) : IxSt := if s.full then [(s.key, s.pos)] else []
def ents (T : Tab) (n : Nat) : IxSt := (List.range n).flatMap fun i => ent (T i)
def nx (n i d : Nat) : Nat := if i + d < n then i + d else i + d - n
def way (n i k : Nat) : Nat := if i ≤ k then k - i else k + n - i
section
variable {n i j k d e f : Nat} {T T' : Tab} {s : Sl} {st : IxSt}
theorem nx_c (n i d : Nat) : (i + d < n ∧ nx n i d = i + d) ∨ (n ≤ i + d ∧ nx n i d = i + d - n) := by
 unfold nx; split <;> omega
theorem way_c (n i k : Nat) : (i ≤ k ∧ way n i k = k - i) ∨ (k < i ∧ way n i k = k + n - i) := by
 unfold way; split <;> omega
theorem nx_lt (hi : i < n) (hd : d ≤ n) : nx n i d < n := by have := nx_c n i d; omega
theorem way_lt (hi : i < n) (hk : k < n) : way n i k < n := by have := way_c n i k; omega
theorem nx_way (hi : i < n) (hk : k < n) : nx n i (way n i k) = k := by
 have := way_c n i k
 have := nx_c n i (way n i k)
 omega
theorem way_nx (hi : i < n) (hd : d < n) : way n i (nx n i d) = d := by
 have := nx_c n i d
 have := way_c n i (nx n i d)
 omega
theorem nx_one (hi : i < n) (hd : d + 1 < n) : nx n (nx n i d) 1 = nx n i (d + 1) := by
 have := nx_c n i d
 have := nx_c n (nx n i d) 1
 have := nx_c n i (d + 1)
 omega
theorem nx_zero (hi : i < n) : nx n i 0 = i := by have := nx_c n i 0; omega
theorem way_self (n i : Nat) : way n i i = 0 := by have := way_c n i i; omega
theorem setT_at (T : Tab) (i : Nat) (s : Sl) : setT T i s i = s := by simp [setT]
theorem setT_ne (T : Tab) (s : Sl) (h : j ≠ i) : setT T i s j = T j := by simp [setT, h]
theorem setT_two (T : Tab) (i : Nat) (s u : Sl) : setT (setT T i s) i u = setT T i u := by
 funext j; unfold setT; split <;> rfl
theorem ents_succ (T : Tab) (n : Nat) : ents T (n + 1) = ents T n ++ ent (T n) := by
 unfold ents; rw [List.range_succ, List.flatMap_append]; simp
theorem ents_congr (h : ∀ i, i < n → T i = T' i) : ents T n = ents T' n := by
 induction n with
 | zero => rfl
 | succ n ih => rw [ents_succ, ents_succ, ih fun i hi => h i (by omega), h n (by omega)]
theorem ents_take (hi : i < n) : (ents T n).Perm (ent (T i) ++ ents (setT T i Sl.zero) n) := by
 induction n with
 | zero => omega
 | succ n ih =>
  rw [ents_succ, ents_succ]
  by_cases h : i = n
  ·subst h
   rw [setT_at, ents_congr (T := setT T i Sl.zero) (T' := T) fun j hj => setT_ne _ _ (by omega)]
   have : ent Sl.zero = [] := rfl
   rw [this, List.append_nil]
   exact List.perm_append_comm
  ·rw [setT_ne _ _ (by omega), ← List.append_assoc]
   exact (ih (by omega)).append_right _
theorem ents_mem (hi : i < n) (hf : (T i).full = true) : ((T i).key, (T i).pos) ∈ ents T n := by
 refine (ents_take hi).symm.subset ?_
 simp [ent, hf]
theorem ents_of {x : ByteArray × Int} (h : x ∈ ents T n) : ∃ i, i < n ∧ (T i).full = true ∧ x = ((T i).key, (T i).pos) := by
 unfold ents at h
 rw [List.mem_flatMap] at h
 obtain ⟨i, hi, hx⟩ := h
 unfold ent at hx
 refine ⟨i, List.mem_range.1 hi, ?_⟩
 split at hx
 ·rename_i hf
  exact ⟨hf, by simpa using hx⟩
 ·cases hx
theorem ents_len (T : Tab) (n : Nat) : (ents T n).length ≤ n := by
 induction n with
 | zero => simp [ents]
 | succ n ih =>
  rw [ents_succ, List.length_append]
  have : (ent (T n)).length ≤ 1 := by unfold ent; split <;> simp
  omega
theorem ents_all (h : ∀ i, i < n → (T i).full = true) : (ents T n).length = n := by
 induction n with
 | zero => simp [ents]
 | succ n ih =>
  rw [ents_succ, List.length_append, ih fun i hi => h i (by omega)]
  simp [ent, h n (by omega)]
theorem free_slot (h : (ents T n).length < n) : ∃ f, f < n ∧ (T f).full = false := by
 refine Classical.byContradiction fun hn => ?_
 have : (ents T n).length = n := ents_all fun i hi => by
  cases hf : (T i).full with
  | true => rfl
  | false => exact absurd ⟨i, hi, hf⟩ hn
 omega
end
section
variable {st st' : IxSt} {k : ByteArray} {p : Int} {x : ByteArray × Int}
theorem isK_iff : isK k x = true ↔ x.1 = k := by
 unfold isK
 rw [beq_iff_eq]
 refine ⟨fun h => ByteArray.ext ?_, fun h => by rw [h]⟩
 exact Array.toList_inj.1 h
theorem isK_not : isK k x = false ↔ x.1 ≠ k := by
 cases h : isK k x with
 | true => simp [isK_iff.1 h]
 | false => simp; exact fun e => by rw [isK_iff.2 e] at h; cases h
theorem ixGet_mem (h : ixGet st k = some p) : (k, p) ∈ st := by
 unfold ixGet at h
 obtain ⟨x, hx, e⟩ := Option.map_eq_some_iff.1 h
 have e1 := isK_iff.1 (List.find?_some hx)
 have := List.mem_of_find?_eq_some hx
 rw [← e1, ← e]
 exact this
theorem ixGet_of (hnd : (st.map (·.1)).Nodup) (h : (k, p) ∈ st) : ixGet st k = some p := by
 unfold ixGet
 induction st with
 | nil => cases h
 | cons a st ih =>
  rw [List.map_cons, List.nodup_cons] at hnd
  rw [List.find?_cons]
  by_cases ha : a.1 = k
  ·rw [isK_iff.2 ha]
   rcases List.mem_cons.1 h with rfl | h
   ·rfl
   ·exact absurd (List.mem_map.2 ⟨_, h, ha.symm⟩) hnd.1
  ·rw [isK_not.2 ha]
   rcases List.mem_cons.1 h with rfl | h
   ·exact absurd rfl ha
   ·exact ih hnd.2 h
theorem ixGet_none : ixGet st k = none ↔ ∀ x ∈ st, x.1 ≠ k := by
 unfold ixGet
 rw [Option.map_eq_none_iff, List.find?_eq_none]
 exact ⟨fun h x hx e => h x hx (isK_iff.2 e), fun h x hx e => h x hx (isK_iff.1 e)⟩
theorem ixDrop_perm (hp : st.Perm st') : (ixDrop st k).Perm (ixDrop st' k) := hp.filter _
theorem ixBelow_perm (hp : st.Perm st') : (ixBelow st p).Perm (ixBelow st' p) := hp.filter _
theorem ixDrop_cons (hnd : (((k, p) :: st).map (·.1)).Nodup) : ixDrop ((k, p) :: st) k = st := by
 rw [List.map_cons, List.nodup_cons] at hnd
 unfold ixDrop
 rw [List.filter_cons, show isK k (k, p) = true from isK_iff.2 rfl]
 simp only [Bool.not_true, Bool.false_eq_true, if_false]
 rw [List.filter_eq_self]
 intro x hx
 rw [isK_not.2 fun e => hnd.1 (List.mem_map.2 ⟨x, hx, e⟩)]
 rfl
theorem ixPut_new (h : ixGet st k = none) : ixPut st k p = st ++ [(k, p)] := by simp [ixPut, h]
theorem ixPut_keys (st : IxSt) (k : ByteArray) (p : Int) (hs : (ixGet st k).isSome = true) : (ixPut st k p).map (·.1) = st.map (·.1) := by
 unfold ixPut
 rw [if_pos hs, List.map_map]
 refine List.map_congr_left fun x _ => ?_
 show (if isK k x then (x.1, p) else x).1 = x.1
 split <;> rfl
theorem ixPut_nodup (hnd : (st.map (·.1)).Nodup) : ((ixPut st k p).map (·.1)).Nodup := by
 cases hg : ixGet st k with
 | some v => rw [ixPut_keys st k p (by rw [hg]; rfl)]; exact hnd
 | none =>
  rw [ixPut_new hg, List.map_append, List.nodup_append]
  refine ⟨hnd, by simp, ?_⟩
  intro a ha b hb
  obtain ⟨x, hx, rfl⟩ := List.mem_map.1 ha
  simp at hb
  subst hb
  exact ixGet_none.1 hg x hx
theorem ixDrop_nodup (hnd : (st.map (·.1)).Nodup) : ((ixDrop st k).map (·.1)).Nodup := (List.Sublist.map _ List.filter_sublist).nodup hnd
theorem ixBelow_nodup (hnd : (st.map (·.1)).Nodup) : ((ixBelow st p).map (·.1)).Nodup := (List.Sublist.map _ List.filter_sublist).nodup hnd
theorem ixPut_again {q : Int} {rest : IxSt} (hp : st.Perm ((k, q) :: rest)) (hnd : (st.map (·.1)).Nodup) : (ixPut st k p).Perm ((k, p) :: rest) := by
 have hnd' := (hp.map (·.1)).nodup_iff.1 hnd
 have hg : ixGet st k = some q := ixGet_of hnd (hp.symm.subset List.mem_cons_self)
 unfold ixPut
 rw [hg, if_pos (show (some q).isSome = true from rfl)]
 refine (hp.map _).trans ?_
 rw [List.map_cons, show isK k (k, q) = true from isK_iff.2 rfl, if_pos rfl]
 rw [List.map_cons, List.nodup_cons] at hnd'
 have : rest.map (fun x => if isK k x then (x.1, p) else x) = rest := by
  refine (List.map_congr_left fun x hx => ?_).trans (List.map_id rest)
  rw [isK_not.2 fun e => hnd'.1 (List.mem_map.2 ⟨x, hx, e⟩)]
  rfl
 rw [this]
theorem ixPut_i64 (hs : ∀ x ∈ st, i64 x.2) (hp : i64 p) : ∀ x ∈ ixPut st k p, i64 x.2 := by
 intro x hx
 unfold ixPut at hx
 split at hx
 ·obtain ⟨y, hy, rfl⟩ := List.mem_map.1 hx
  split
  ·exact hp
  ·exact hs y hy
 ·rcases List.mem_append.1 hx with h | h
  ·exact hs x h
  ·simp at h; subst h; exact hp
end
theorem ixDrop_i64 {st : IxSt} {k : ByteArray} (hs : ∀ x ∈ st, i64 x.2) : ∀ x ∈ ixDrop st k, i64 x.2 := fun x hx => hs x (List.mem_filter.1 hx).1
theorem ixBelow_i64 {st : IxSt} {p : Int} (hs : ∀ x ∈ st, i64 x.2) : ∀ x ∈ ixBelow st p, i64 x.2 := fun x hx => hs x (List.mem_filter.1 hx).1
end Go.Proofs.YticophaepapjoaaGreatDoor
namespace Go.Proofs.YticophaepapjoaaGreatDoor
end Go.Proofs.YticophaepapjoaaGreatDoor
