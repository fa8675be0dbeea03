/-
  NumAll: texts of mine, joined.
-/
import Derived.Test.YtemkjodkmehffaaGreatDoorAllM13
namespace Go.Proofs.YtemkjodkmehffaaGreatDoor
open Go Go.RowKit
def allZ : Nat → List UInt8 → List Int × Nat × Nat
 | 0, _ => ([], 0, 0)
 | n + 1, l =>
  match getZ l with
  | (x, k, 0) => (x :: (allZ n (l.drop k)).1, k + (allZ n (l.drop k)).2.1, (allZ n (l.drop k)).2.2)
  | (_, _, e + 1) => ([], 0, e + 1)
theorem allZ_ok {n : Nat} {l : List UInt8} {x : Int} {k : Nat} (h : getZ l = (x, k, 0)) :
  allZ (n + 1) l = (x :: (allZ n (l.drop k)).1, k + (allZ n (l.drop k)).2.1, (allZ n (l.drop k)).2.2) := by
 rw [allZ]; split
 ·rename_i x' k' h'; rw [h] at h'; obtain ⟨rfl, rfl, _⟩ := h'; rfl
 ·rename_i h'; rw [h] at h'; simp at h'
theorem allZ_err {n : Nat} {l : List UInt8} {x : Int} {k e : Nat} (h : getZ l = (x, k, e)) (he : e ≠ 0) : allZ (n + 1) l = ([], 0, e) := by
 rw [allZ]; split
 ·rename_i x' k' h'; rw [h] at h'; simp at h'; exact absurd h'.2.2 he
 ·rename_i h'; rw [h] at h'; simp at h'; rw [h'.2.2]
theorem allZ_puts (ns : List Int) (r : List UInt8) (h : ∀ n ∈ ns, -9223372036854775808 ≤ n ∧ n < 9223372036854775808) :
  allZ ns.length (ns.flatMap putZ ++ r) = (ns, (ns.flatMap putZ).length, 0) := by
 induction ns with
 | nil => rfl
 | cons n ns ih =>
  have hn := h n (by simp)
  have ih' := ih fun m hm => h m (by simp [hm])
  have e : (n :: ns).flatMap putZ ++ r = putZ n ++ (ns.flatMap putZ ++ r) := by simp
  rw [List.length_cons, e, allZ_ok (getZ_put n _ hn.1 hn.2)]
  simp [ih']
def stores : World → List (Option Addr) → List Int → World
 | w, some p :: ps, n :: ns => stores (w.setCell p (.int .i64 n)) ps ns
 | w, none :: ps, _ :: ns => stores w ps ns
 | w, _, _ => w
theorem stores_nil (w : World) (ps : List (Option Addr)) : stores w ps [] = w := by cases ps with
 | nil => rfl
 | cons p ps => cases p <;> rfl
theorem stores_snoc (ps : List (Option Addr)) (xs : List Int) (w : World) (p : Option Addr) (x : Int) (h : xs.length = ps.length) :
  stores w (ps ++ [p]) (xs ++ [x]) = match p with | some a => (stores w ps xs).setCell a (.int .i64 x) | none => stores w ps xs := by
 induction ps generalizing xs w with
 | nil =>
  obtain rfl : xs = [] := List.eq_nil_of_length_eq_zero (by simpa using h)
  cases p <;> rfl
 | cons q ps ih =>
  cases xs with
  | nil => simp at h
  | cons y xs =>
   cases q with
   | none => simp only [List.cons_append, stores]; exact ih xs w (by simpa using h)
   | some a => simp only [List.cons_append, stores]; exact ih xs _ (by simpa using h)
theorem stores_keeps (F : Nat → Prop) (ps : List (Option Addr)) (xs : List Int) (w0 w : World) (h : ∀ a, some a ∈ ps → ¬ F a.block) (hw : Keeps F w0 w) : Keeps F w0 (stores w ps xs) := by
 induction ps generalizing xs w with
 | nil => simpa [stores] using hw
 | cons q ps ih =>
  cases xs with
  | nil => rw [stores_nil]; exact hw
  | cons y xs =>
   cases q with
   | none => exact ih xs w (fun a ha => h a (by simp [ha])) hw
   | some a => exact ih xs _ (fun b hb => h b (by simp [hb])) (hw.setCell (.inr (h a (by simp))) _)
def Place (w : World) (a : Addr) : Prop := (∃ v, w.cell? a = some v) ∧ w.frozen? a = false
theorem Place.setCell {w : World} {a b : Addr} {v : Value} (h : Place w a) : Place (w.setCell b v) a := by
 obtain ⟨⟨u, hu⟩, hf⟩ := h
 refine ⟨?_, by rw [World.frozen?_setCell]; exact hf⟩
 by_cases e : b = a
 ·subst e; exact ⟨v, World.cell?_setCell_same w b v hu⟩
 ·exact ⟨u, (World.cell?_setCell_other w b a v e).trans hu⟩
theorem Place.stores {a : Addr} (ps : List (Option Addr)) (xs : List Int) (w : World) (h : Place w a) : Place (stores w ps xs) a := by
 induction ps generalizing xs w with
 | nil => simpa [Go.Proofs.YtemkjodkmehffaaGreatDoor.stores] using h
 | cons q ps ih =>
  cases xs with
  | nil => rw [stores_nil]; exact h
  | cons y xs =>
   cases q with
   | none => exact ih xs w h
   | some b => exact ih xs _ h.setCell
theorem stores_take (ps : List (Option Addr)) (xs : List Int) (w : World) : stores w ps xs = stores w (ps.take xs.length) xs := by
 induction ps generalizing xs w with
 | nil => simp
 | cons q ps ih =>
  cases xs with
  | nil => simp [stores]
  | cons y xs =>
   cases q with
   | none => simp only [List.length_cons, List.take_succ_cons, stores]; exact ih xs w
   | some b => simp only [List.length_cons, List.take_succ_cons, stores]; exact ih xs _
def AllPost (w : World) (ps : List (Option Addr)) (l : List UInt8) (e : Ending) (w' : World) : Prop :=
 e = .returned (.tuple #[.int .i64 ((if (allZ ps.length l).2.2 = 0 then (allZ ps.length l).2.1 else 0 : Nat) : Int), .int .i64 ((allZ ps.length l).2.2 : Nat)]) ∧ w' = stores w ps (allZ ps.length l).1
theorem AllPost.err {w : World} {ps : List (Option Addr)} {l : List UInt8} {xs : List Int} {at_ e : Nat} (he : e ≠ 0) (hz : allZ ps.length l = (xs, at_, e)) :
  AllPost w ps l (.returned (.tuple #[.int .i64 0, .int .i64 (e : Nat)])) (stores w (ps.take xs.length) xs) := by
 refine ⟨?_, ?_⟩
 ·rw [hz]; simp [he]
 ·rw [hz]; exact (stores_take ps xs w).symm
theorem AllPost.ok {w : World} {ps : List (Option Addr)} {l : List UInt8} {xs : List Int} {at_ : Nat} (hz : allZ ps.length l = (xs, at_, 0)) :
  AllPost w ps l (.returned (.tuple #[.int .i64 (at_ : Nat), .int .i64 0])) (stores w (ps.take xs.length) xs) := by
 refine ⟨?_, ?_⟩
 ·rw [hz]; simp
 ·rw [hz]; exact (stores_take ps xs w).symm
theorem get_n (A : Option Addr) (c n : Nat) (F : Nat → Prop) (l : List UInt8) (w : World) (h : Row w A F (bcells l)) (hl : l.length ≤ 1099511627776) (hn : n = l.length) (x : Int) (k e : Nat) (hg : getZ l = (x, k, e)) :
  Calls Tryz.prog 58 #[.slice A n c] w fun e' w' => e' = .returned (.tuple #[.int .i64 x, .int .i64 (k : Nat), .int .i64 (e : Nat)]) ∧ w = w' := by
 subst hn; exact get_is A c F l w h hl x k e hg
set_option maxRecDepth 100000 in
set_option maxHeartbeats 1000000 in
theorem all_any (A B : Option Addr) (c d : Nat) (F : Nat → Prop) (l : List UInt8) (ps : List (Option Addr)) (w : World) (h : Row w A F (bcells l)) (hB : Row w B F (ps.map Value.pointer))
  (hp : ∀ a, some a ∈ ps → Place w a ∧ ¬ F a.block) (hl : l.length ≤ 1099511627776) (hc : l.length ≤ c) (hps : ps.length ≤ 1099511627776) :
  Calls Tryz.prog 57 #[.slice A l.length c, .slice B ps.length d] w (AllPost w ps l) := by
 have HA := Lib.hid h
 have HB := Lib.hid hB
 have HP := Lib.hid hp
 clear h hB hp
 go_enter Tryz.func57, Tryz.ntmps57
 go_wp2
 go_loopw [6, 14] (fun s i wr => ∃ (j at_ : Nat) (xs : List Int), j ≤ ps.length ∧ at_ ≤ l.length ∧ xs.length = j ∧ i = .int .i64 j ∧ s = .int .i64 at_ ∧ wr = stores w (ps.take j) xs ∧
   allZ ps.length l = (xs ++ (allZ (ps.length - j) (l.drop at_)).1, at_ + (allZ (ps.length - j) (l.drop at_)).2.1, (allZ (ps.length - j) (l.drop at_)).2.2)) (fun _ i _ => ps.length - (intOf i).toNat)
 case atStart => exact ⟨0, 0, [], Nat.zero_le _, Nat.zero_le _, rfl, rfl, rfl, by simp [stores], by simp⟩
 case round =>
  obtain ⟨j, at_, xs, hj, hat, hxs, rfl, rfl, hwr, hz⟩ := hrel
  have hkp : Keeps F w wr := by rw [hwr]; exact stores_keeps F _ _ w w (fun a ha => (HP.out a (List.mem_of_mem_take ha)).2) (Keeps.refl _ _)
  have hpl : ∀ a, some a ∈ ps → Place wr a := fun a ha => by rw [hwr]; exact Place.stores _ _ _ (HP.out a ha).1
  have HW := Lib.hid hwr
  have HZ := Lib.hid hz
  have HX := Lib.hid hxs
  have HR := Lib.hid (HA.out.keep hkp)
  by_cases hlt : j < ps.length
  ·obtain ⟨b, o, rfl, _, hcell⟩ := (HB.out.keep hkp).at_ (k := j) (by simpa using hlt)
   simp only [List.getElem_map] at hcell
   have hcut := HR.out.cut (k := at_) (cap := c) (by rw [bcells_len]; exact hat) (by rw [bcells_len]; exact hc)
   rw [bcells, ← List.map_drop] at hcut
   have hdl : (l.drop at_).length ≤ 1099511627776 := by rw [List.length_drop]; omega
   have hj1 : ps.length - j = (ps.length - (j + 1)) + 1 := by omega
   have bad : ∀ (x : Int) (k e : Nat), e ≠ 0 → getZ (l.drop at_) = (x, k, e) → AllPost w ps l (.returned (.tuple #[.int .i64 0, .int .i64 (e : Nat)])) wr := by
    intro x k e he hg
    have h1 := HZ.out
    rw [hj1, allZ_err hg he, List.append_nil] at h1
    have h2 := AllPost.err (w := w) he h1
    rw [HX.out, ← HW.out] at h2
    exact h2
   have HBad := Lib.hid bad
   by_cases hca : c = at_
   ·subst hca
    have hR : Row wr A F (bcells (l.drop c)) := by rwa [if_pos rfl] at hcut
    have hnil : l.drop c = [] := List.drop_eq_nil_of_le hc
    rw [hnil] at hR
    have hbad := HBad.out 0 0 2 (by decide) (by rw [hnil]; rfl)
    have HRr := Lib.hid hR
    have HF := Lib.hid hbad
    clear hR hcut hwr hz hxs hkp hpl hbad bad hnil hj1
    go_wp2_with fail
    refine (get_n _ _ 0 _ [] _ HRr.out (by decide) rfl 0 0 2 rfl).mono ?_
    rintro e w' ⟨rfl, rfl⟩
    go_wp2
    go_ret2
    exact HF.out
   ·have hR : Row wr (A.map (·.add at_)) F (bcells (l.drop at_)) := by rwa [if_neg hca] at hcut
    have HRr := Lib.hid hR
    have hln : l.length - at_ = (l.drop at_).length := by rw [List.length_drop]
    have err : ∀ (x : Int) (k e : Nat), e ≠ 0 → getZ (l.drop at_) = (x, k, e) → True := fun _ _ _ _ _ => trivial
    rcases getZ_cases (l.drop at_) with ⟨x, k, hg, hk0, hk10, hkl, hx1, hx2⟩ | hg | hg
    ·have hz2 : allZ ps.length l = ((xs ++ [x]) ++ (allZ (ps.length - (j + 1)) (l.drop (at_ + k))).1, (at_ + k) + (allZ (ps.length - (j + 1)) (l.drop (at_ + k))).2.1, (allZ (ps.length - (j + 1)) (l.drop (at_ + k))).2.2) := by
      have h1 := HZ.out
      rw [hj1, allZ_ok hg, List.drop_drop] at h1
      rw [h1]
      simp [Nat.add_assoc]
     have hst : stores w (ps.take (j + 1)) (xs ++ [x]) = match ps[j] with | some a => wr.setCell a (.int .i64 x) | none => wr := by
      rw [List.take_succ_eq_append_getElem hlt, stores_snoc _ _ _ _ _ (by rw [HX.out, List.length_take]; omega), ← HW.out]
     have hplj : ∀ a, ps[j] = some a → Place wr a := fun a ha => hpl a (by rw [← ha]; exact List.getElem_mem hlt)
     rw [List.length_drop] at hkl
     have HG := Lib.hid hg
     have HZ2 := Lib.hid hz2
     have HST := Lib.hid hst
     have HPJ := Lib.hid hplj
     have HLN := Lib.hid hln
     clear hR hcut hwr hz hxs hkp hpl bad hg hz2 hst hplj hln err hx1 hx2 hj1
     generalize ps[j] = q at hcell HST HPJ
     rcases q with _ | a
     ·go_wp2_with fail
      refine (get_n _ _ _ _ _ _ HRr.out hdl HLN.out x k 0 HG.out).mono ?_
      rintro e w' ⟨rfl, rfl⟩
      go_wp2_with fail
      go_roundw
      case rel => exact ⟨j + 1, at_ + k, xs ++ [x], by omega, by omega, by rw [List.length_append, HX.out]; rfl, by go_num, by go_num, HST.out.symm, HZ2.out⟩
      case measure => simp [intOf]; omega
     ·obtain ⟨⟨v0, hv0⟩, hf0⟩ := HPJ.out a rfl
      go_wp2_with fail
      refine (get_n _ _ _ _ _ _ HRr.out hdl HLN.out x k 0 HG.out).mono ?_
      rintro e w' ⟨rfl, rfl⟩
      go_wp2_with fail
      go_roundw
      case rel => exact ⟨j + 1, at_ + k, xs ++ [x], by omega, by omega, by rw [List.length_append, HX.out]; rfl, by go_num, by go_num, HST.out.symm, HZ2.out⟩
      case measure => simp [intOf]; omega
    ·have HF := Lib.hid (HBad.out 0 0 1 (by decide) hg)
     have HG := Lib.hid hg
     have HLN := Lib.hid hln
     clear hR hcut hwr hz hxs hkp hpl bad hg err hj1 hln
     go_wp2_with fail
     refine (get_n _ _ _ _ _ _ HRr.out hdl HLN.out 0 0 1 HG.out).mono ?_
     rintro e w' ⟨rfl, rfl⟩
     go_wp2
     go_ret2
     exact HF.out
    ·have HF := Lib.hid (HBad.out 0 0 2 (by decide) hg)
     have HG := Lib.hid hg
     have HLN := Lib.hid hln
     clear hR hcut hwr hz hxs hkp hpl bad hg err hj1 hln
     go_wp2_with fail
     refine (get_n _ _ _ _ _ _ HRr.out hdl HLN.out 0 0 2 HG.out).mono ?_
     rintro e w' ⟨rfl, rfl⟩
     go_wp2
     go_ret2
     exact HF.out
  ·obtain rfl : j = ps.length := by omega
   have hz2 : allZ ps.length l = (xs, at_, 0) := by rw [hz]; simp [allZ]
   have hfin := AllPost.ok (w := w) hz2
   rw [hxs, ← hwr] at hfin
   have HF := Lib.hid hfin
   clear hfin hz2 hz hxs hwr hkp hpl
   go_wp2
   go_ret2
   exact HF.out
end Go.Proofs.YtemkjodkmehffaaGreatDoor
