/-
  NumAll, SlgMath: texts of mine, joined.
-/
import Derived.Test.YticophaepapjoaaGreatDoorAllA12
import Derived.Test.YticophaepapjoaaGreatDoorAllA08
import Derived.Test.YticophaepapjoaaGreatDoorAllA05
namespace Go.Proofs.YticophaepapjoaaGreatDoor
open Go Go.RowKit
def allZ : Nat → List UInt8 → List Int × Nat × Nat
 | 0, _ => ([], 0, 0)
 | n + 1, l =>
  match getZ l with
  | (x, k, 0) => (x :: (allZ n (l.drop k)).1, k + (allZ n (l.drop k)).2.1, (allZ n (l.drop k)).2.2)
  | (_, _, e + 1) => ([], 0, e + 1)
theorem allZ_ok {n : Nat} {l : List UInt8} {x : Int} {k : Nat} (h : getZ l = (x, k, 0)) :
  allZ (n + 1) l = (x :: (allZ n (l.drop k)).1, k + (allZ n (l.drop k)).2.1, (allZ n (l.drop k)).2.2) := by
 rw [allZ]; split
 ·rename_i x' k' h'; rw [h] at h'; obtain ⟨rfl, rfl, _⟩ := h'; rfl
 ·rename_i h'; rw [h] at h'; simp at h'
theorem allZ_err {n : Nat} {l : List UInt8} {x : Int} {k e : Nat} (h : getZ l = (x, k, e)) (he : e ≠ 0) : allZ (n + 1) l = ([], 0, e) := by
 rw [allZ]; split
 ·rename_i x' k' h'; rw [h] at h'; simp at h'; exact absurd h'.2.2 he
 ·rename_i h'; rw [h] at h'; simp at h'; rw [h'.2.2]
theorem allZ_puts (ns : List Int) (r : List UInt8) (h : ∀ n ∈ ns, -9223372036854775808 ≤ n ∧ n < 9223372036854775808) :
  allZ ns.length (ns.flatMap putZ ++ r) = (ns, (ns.flatMap putZ).length, 0) := by
 induction ns with
 | nil => rfl
 | cons n ns ih =>
  have hn := h n (by simp)
  have ih' := ih fun m hm => h m (by simp [hm])
  have e : (n :: ns).flatMap putZ ++ r = putZ n ++ (ns.flatMap putZ ++ r) := by simp
  rw [List.length_cons, e, allZ_ok (getZ_put n _ hn.1 hn.2)]
  simp [ih']
def stores : World → List (Option Addr) → List Int → World
 | w, some p :: ps, n :: ns => stores (w.setCell p (.int .i64 n)) ps ns
 | w, none :: ps, _ :: ns => stores w ps ns
 | w, _, _ => w
theorem stores_nil (w : World) (ps : List (Option Addr)) : stores w ps [] = w := by cases ps with
 | nil => rfl
 | cons p ps => cases p <;> rfl
theorem stores_snoc (ps : List (Option Addr)) (xs : List Int) (w : World) (p : Option Addr) (x : Int) (h : xs.length = ps.length) :
  stores w (ps ++ [p]) (xs ++ [x]) = match p with | some a => (stores w ps xs).setCell a (.int .i64 x) | none => stores w ps xs := by
 induction ps generalizing xs w with
 | nil =>
  obtain rfl : xs = [] := List.eq_nil_of_length_eq_zero (by simpa using h)
  cases p <;> rfl
 | cons q ps ih =>
  cases xs with
  | nil => simp at h
  | cons y xs =>
   cases q with
   | none => simp only [List.cons_append, stores]; exact ih xs w (by simpa using h)
   | some a => simp only [List.cons_append, stores]; exact ih xs _ (by simpa using h)
theorem stores_keeps (F : Nat → Prop) (ps : List (Option Addr)) (xs : List Int) (w0 w : World) (h : ∀ a, some a ∈ ps → ¬ F a.block) (hw : Keeps F w0 w) : Keeps F w0 (stores w ps xs) := by
 induction ps generalizing xs w with
 | nil => simpa [stores] using hw
 | cons q ps ih =>
  cases xs with
  | nil => rw [stores_nil]; exact hw
  | cons y xs =>
   cases q with
   | none => exact ih xs w (fun a ha => h a (by simp [ha])) hw
   | some a => exact ih xs _ (fun b hb => h b (by simp [hb])) (hw.setCell (.inr (h a (by simp))) _)
def Place (w : World) (a : Addr) : Prop := (∃ v, w.cell? a = some v) ∧ w.frozen? a = false
theorem Place.setCell {w : World} {a b : Addr} {v : Value} (h : Place w a) : Place (w.setCell b v) a := by
 obtain ⟨⟨u, hu⟩, hf⟩ := h
 refine ⟨?_, by rw [World.frozen?_setCell]; exact hf⟩
 by_cases e : b = a
 ·subst e; exact ⟨v, World.cell?_setCell_same w b v hu⟩
 ·exact ⟨u, (World.cell?_setCell_other w b a v e).trans hu⟩
theorem Place.stores {a : Addr} (ps : List (Option Addr)) (xs : List Int) (w : World) (h : Place w a) : Place (stores w ps xs) a := by
 induction ps generalizing xs w with
 | nil => simpa [Go.Proofs.YticophaepapjoaaGreatDoor.stores] using h
 | cons q ps ih =>
  cases xs with
  | nil => rw [stores_nil]; exact h
  | cons y xs =>
   cases q with
   | none => exact ih xs w h
   | some b => exact ih xs _ h.setCell
theorem stores_take (ps : List (Option Addr)) (xs : List Int) (w : World) : stores w ps xs = stores w (ps.take xs.length) xs := by
 induction ps generalizing xs w with
 | nil => simp
 | cons q ps ih =>
  cases xs with
  | nil => simp [stores]
  | cons y xs =>
   cases q with
   | none => simp only [List.length_cons, List.take_succ_cons, stores]; exact ih xs w
   | some b => simp only [List.length_cons, List.take_succ_cons, stores]; exact ih xs _
def AllPost (w : World) (ps : List (Option Addr)) (l : List UInt8) (e : Ending) (w' : World) : Prop :=
 e = .returned (.tuple #[.int .i64 ((if (allZ ps.length l).2.2 = 0 then (allZ ps.length l).2.1 else 0 : Nat) : Int), .int .i64 ((allZ ps.length l).2.2 : Nat)]) ∧ w' = stores w ps (allZ ps.length l).1
theorem AllPost.err {w : World} {ps : List (Option Addr)} {l : List UInt8} {xs : List Int} {at_ e : Nat} (he : e ≠ 0) (hz : allZ ps.length l = (xs, at_, e)) :
  AllPost w ps l (.returned (.tuple #[.int .i64 0, .int .i64 (e : Nat)])) (stores w (ps.take xs.length) xs) := by
 refine ⟨?_, ?_⟩
 ·rw [hz]; simp [he]
 ·rw [hz]; exact (stores_take ps xs w).symm
theorem AllPost.ok {w : World} {ps : List (Option Addr)} {l : List UInt8} {xs : List Int} {at_ : Nat} (hz : allZ ps.length l = (xs, at_, 0)) :
  AllPost w ps l (.returned (.tuple #[.int .i64 (at_ : Nat), .int .i64 0])) (stores w (ps.take xs.length) xs) := by
 refine ⟨?_, ?_⟩
 ·rw [hz]; simp
 ·rw [hz]; exact (stores_take ps xs w).symm
theorem get_n (A : Option Addr) (c n : Nat) (F : Nat → Prop) (l : List UInt8) (w : World) (h : Row w A F (bcells l)) (hl : l.length ≤ 1099511627776) (hn : n = l.length) (x : Int) (k e : Nat) (hg : getZ l = (x, k, e)) :
  Calls Tryz.prog 125 #[.slice A n c] w fun e' w' => e' = .returned (.tuple #[.int .i64 x, .int .i64 (k : Nat), .int .i64 (e : Nat)]) ∧ w = w' := by
 subst hn; exact get_is A c F l w h hl x k e hg
set_option maxRecDepth 100000 in
set_option maxHeartbeats 1000000 in
theorem all_any (A B : Option Addr) (c d : Nat) (F : Nat → Prop) (l : List UInt8) (ps : List (Option Addr)) (w : World) (h : Row w A F (bcells l)) (hB : Row w B F (ps.map Value.pointer))
  (hp : ∀ a, some a ∈ ps → Place w a ∧ ¬ F a.block) (hl : l.length ≤ 1099511627776) (hc : l.length ≤ c) (hps : ps.length ≤ 1099511627776) :
  Calls Tryz.prog 117 #[.slice A l.length c, .slice B ps.length d] w (AllPost w ps l) := by
 have HA := Lib.hid h
 have HB := Lib.hid hB
 have HP := Lib.hid hp
 clear h hB hp
 go_enter Tryz.func117, Tryz.ntmps117
 go_wp2
 go_loopw [6, 14] (fun s i wr => ∃ (j at_ : Nat) (xs : List Int), j ≤ ps.length ∧ at_ ≤ l.length ∧ xs.length = j ∧ i = .int .i64 j ∧ s = .int .i64 at_ ∧ wr = stores w (ps.take j) xs ∧
   allZ ps.length l = (xs ++ (allZ (ps.length - j) (l.drop at_)).1, at_ + (allZ (ps.length - j) (l.drop at_)).2.1, (allZ (ps.length - j) (l.drop at_)).2.2)) (fun _ i _ => ps.length - (intOf i).toNat)
 case atStart => exact ⟨0, 0, [], Nat.zero_le _, Nat.zero_le _, rfl, rfl, rfl, by simp [stores], by simp⟩
 case round =>
  obtain ⟨j, at_, xs, hj, hat, hxs, rfl, rfl, hwr, hz⟩ := hrel
  have hkp : Keeps F w wr := by rw [hwr]; exact stores_keeps F _ _ w w (fun a ha => (HP.out a (List.mem_of_mem_take ha)).2) (Keeps.refl _ _)
  have hpl : ∀ a, some a ∈ ps → Place wr a := fun a ha => by rw [hwr]; exact Place.stores _ _ _ (HP.out a ha).1
  have HW := Lib.hid hwr
  have HZ := Lib.hid hz
  have HX := Lib.hid hxs
  have HR := Lib.hid (HA.out.keep hkp)
  by_cases hlt : j < ps.length
  ·obtain ⟨b, o, rfl, _, hcell⟩ := (HB.out.keep hkp).at_ (k := j) (by simpa using hlt)
   simp only [List.getElem_map] at hcell
   have hcut := HR.out.cut (k := at_) (cap := c) (by rw [bcells_len]; exact hat) (by rw [bcells_len]; exact hc)
   rw [bcells, ← List.map_drop] at hcut
   have hdl : (l.drop at_).length ≤ 1099511627776 := by rw [List.length_drop]; omega
   have hj1 : ps.length - j = (ps.length - (j + 1)) + 1 := by omega
   have bad : ∀ (x : Int) (k e : Nat), e ≠ 0 → getZ (l.drop at_) = (x, k, e) → AllPost w ps l (.returned (.tuple #[.int .i64 0, .int .i64 (e : Nat)])) wr := by
    intro x k e he hg
    have h1 := HZ.out
    rw [hj1, allZ_err hg he, List.append_nil] at h1
    have h2 := AllPost.err (w := w) he h1
    rw [HX.out, ← HW.out] at h2
    exact h2
   have HBad := Lib.hid bad
   by_cases hca : c = at_
   ·subst hca
    have hR : Row wr A F (bcells (l.drop c)) := by rwa [if_pos rfl] at hcut
    have hnil : l.drop c = [] := List.drop_eq_nil_of_le hc
    rw [hnil] at hR
    have hbad := HBad.out 0 0 2 (by decide) (by rw [hnil]; rfl)
    have HRr := Lib.hid hR
    have HF := Lib.hid hbad
    clear hR hcut hwr hz hxs hkp hpl hbad bad hnil hj1
    go_wp2_with fail
    refine (get_n _ _ 0 _ [] _ HRr.out (by decide) rfl 0 0 2 rfl).mono ?_
    rintro e w' ⟨rfl, rfl⟩
    go_wp2
    go_ret2
    exact HF.out
   ·have hR : Row wr (A.map (·.add at_)) F (bcells (l.drop at_)) := by rwa [if_neg hca] at hcut
    have HRr := Lib.hid hR
    have hln : l.length - at_ = (l.drop at_).length := by rw [List.length_drop]
    have err : ∀ (x : Int) (k e : Nat), e ≠ 0 → getZ (l.drop at_) = (x, k, e) → True := fun _ _ _ _ _ => trivial
    rcases getZ_cases (l.drop at_) with ⟨x, k, hg, hk0, hk10, hkl, hx1, hx2⟩ | hg | hg
    ·have hz2 : allZ ps.length l = ((xs ++ [x]) ++ (allZ (ps.length - (j + 1)) (l.drop (at_ + k))).1, (at_ + k) + (allZ (ps.length - (j + 1)) (l.drop (at_ + k))).2.1, (allZ (ps.length - (j + 1)) (l.drop (at_ + k))).2.2) := by
      have h1 := HZ.out
      rw [hj1, allZ_ok hg, List.drop_drop] at h1
      rw [h1]
      simp [Nat.add_assoc]
     have hst : stores w (ps.take (j + 1)) (xs ++ [x]) = match ps[j] with | some a => wr.setCell a (.int .i64 x) | none => wr := by
      rw [List.take_succ_eq_append_getElem hlt, stores_snoc _ _ _ _ _ (by rw [HX.out, List.length_take]; omega), ← HW.out]
     have hplj : ∀ a, ps[j] = some a → Place wr a := fun a ha => hpl a (by rw [← ha]; exact List.getElem_mem hlt)
     rw [List.length_drop] at hkl
     have HG := Lib.hid hg
     have HZ2 := Lib.hid hz2
     have HST := Lib.hid hst
     have HPJ := Lib.hid hplj
     have HLN := Lib.hid hln
     clear hR hcut hwr hz hxs hkp hpl bad hg hz2 hst hplj hln err hx1 hx2 hj1
     generalize ps[j] = q at hcell HST HPJ
     rcases q with _ | a
     ·go_wp2_with fail
      refine (get_n _ _ _ _ _ _ HRr.out hdl HLN.out x k 0 HG.out).mono ?_
      rintro e w' ⟨rfl, rfl⟩
      go_wp2_with fail
      go_roundw
      case rel => exact ⟨j + 1, at_ + k, xs ++ [x], by omega, by omega, by rw [List.length_append, HX.out]; rfl, by go_num, by go_num, HST.out.symm, HZ2.out⟩
      case measure => simp [intOf]; omega
     ·obtain ⟨⟨v0, hv0⟩, hf0⟩ := HPJ.out a rfl
      go_wp2_with fail
      refine (get_n _ _ _ _ _ _ HRr.out hdl HLN.out x k 0 HG.out).mono ?_
      rintro e w' ⟨rfl, rfl⟩
      go_wp2_with fail
      go_roundw
      case rel => exact ⟨j + 1, at_ + k, xs ++ [x], by omega, by omega, by rw [List.length_append, HX.out]; rfl, by go_num, by go_num, HST.out.symm, HZ2.out⟩
      case measure => simp [intOf]; omega
    ·have HF := Lib.hid (HBad.out 0 0 1 (by decide) hg)
     have HG := Lib.hid hg
     have HLN := Lib.hid hln
     clear hR hcut hwr hz hxs hkp hpl bad hg err hj1 hln
     go_wp2_with fail
     refine (get_n _ _ _ _ _ _ HRr.out hdl HLN.out 0 0 1 HG.out).mono ?_
     rintro e w' ⟨rfl, rfl⟩
     go_wp2
     go_ret2
     exact HF.out
    ·have HF := Lib.hid (HBad.out 0 0 2 (by decide) hg)
     have HG := Lib.hid hg
     have HLN := Lib.hid hln
     clear hR hcut hwr hz hxs hkp hpl bad hg err hj1 hln
     go_wp2_with fail
     refine (get_n _ _ _ _ _ _ HRr.out hdl HLN.out 0 0 2 HG.out).mono ?_
     rintro e w' ⟨rfl, rfl⟩
     go_wp2
     go_ret2
     exact HF.out
  ·obtain rfl : j = ps.length := by omega
   have hz2 : allZ ps.length l = (xs, at_, 0) := by rw [hz]; simp [allZ]
   have hfin := AllPost.ok (w := w) hz2
   rw [hxs, ← hwr] at hfin
   have HF := Lib.hid hfin
   clear hfin hz2 hz hxs hwr hkp hpl
   go_wp2
   go_ret2
   exact HF.out
end Go.Proofs.YticophaepapjoaaGreatDoor
namespace Go.Proofs.YticophaepapjoaaGreatDoor
def takeL (k : Nat) : Option (Int × List UInt8) → Option (Nat × List UInt8)
 | none => none
 | some (n, x) => if n < 8 ∨ 2199023255552 ≤ n ∨ n % 8 ≠ (k : Int) ∨ 53 < x.length then none else some (n.toNat, x)
def decL (k : Nat) (l : List UInt8) : Option (Nat × List UInt8) := takeL k (decF 76 l)
def encL (n : Nat) (x : List UInt8) : List UInt8 := encF 76 n x
theorem encL_len (n : Nat) (x : List UInt8) (hn : n < 2199023255552) (hx : x.length ≤ 53) : (encL n x).length = 64 := encF_len _ _ _ (headS_len n x hx hn)
theorem decL_enc (n : Nat) (x : List UInt8) (k : Nat) (h8 : 8 ≤ n) (hn : n < 2199023255552) (hk : n % 8 = k) (hx : x.length ≤ 53) : decL k (encL n x) = some (n, x) := by
 unfold decL encL
 rw [decF_enc _ n x (headS_len n x hx hn) (by omega) (by omega)]
 unfold takeL
 simp only
 rw [if_neg (by omega), Int.toNat_natCast]
theorem decL_blank (k : Nat) : decL k blank = none := by
 unfold decL
 rcases decF_blank 76 with h | h <;> rw [h]
 ·rfl
 ·unfold takeL; simp
theorem decL_wf {k : Nat} {l : List UInt8} {n : Nat} {x : List UInt8} (h : decL k l = some (n, x)) : 8 ≤ n ∧ n < 2199023255552 ∧ n % 8 = k ∧ x.length ≤ 53 := by
 unfold decL takeL at h
 split at h
 ·cases h
 ·split at h
  ·cases h
  ·rename_i n' x' _ hc
   injection h with h
   injection h with h1 h2
   subst h1 h2
   omega
def strm (rs : List LRec) : List UInt8 := rs.flatMap fun r => putT r.body
theorem strm_snoc (rs : List LRec) (r : LRec) : strm (rs ++ [r]) = strm rs ++ putT r.body := by simp [strm]
theorem strm_append (a b : List LRec) : strm (a ++ b) = strm a ++ strm b := by simp [strm]
def endAt (rs : List LRec) (i : Nat) : Nat := (strm (rs.take i)).length
theorem endAt_zero (rs : List LRec) : endAt rs 0 = 0 := by simp [endAt, strm]
theorem endAt_len (rs : List LRec) : endAt rs rs.length = (strm rs).length := by simp [endAt]
theorem endAt_next (rs : List LRec) (i : Nat) (h : i < rs.length) : endAt rs (i + 1) = endAt rs i + (putT rs[i].body).length := by
 unfold endAt; rw [take_next _ _ h, strm_snoc, List.length_append]
theorem strm_split (rs : List LRec) (i : Nat) : strm rs = strm (rs.take i) ++ strm (rs.drop i) := by
 rw [← strm_append, List.take_append_drop]
theorem strm_drop (rs : List LRec) (i : Nat) : (strm rs).drop (endAt rs i) = strm (rs.drop i) := by
 conv => lhs; arg 2; rw [strm_split rs i]
 exact List.drop_left
theorem endAt_le (rs : List LRec) (i : Nat) : endAt rs i ≤ (strm rs).length := by
 rw [strm_split rs i, List.length_append]; unfold endAt; omega
theorem strm_at (rs : List LRec) (i : Nat) (h : i < rs.length) : (strm rs).drop (endAt rs i) = putT rs[i].body ++ strm (rs.drop (i + 1)) := by
 rw [strm_drop, List.drop_eq_getElem_cons h]; rfl
theorem strm_rec (rs : List LRec) (i : Nat) (h : i < rs.length) : ((strm rs).drop (endAt rs i)).take (endAt rs (i + 1) - endAt rs i) = putT rs[i].body := by
 rw [strm_at rs i h, endAt_next rs i h, Nat.add_sub_cancel_left]; exact List.take_left
theorem putT_pos (x : List UInt8) : x.length + 1 ≤ (putT x).length := by
 unfold putT; rw [List.length_append]
 have := vin_pos (zig (x.length : Int))
 unfold putZ; omega
theorem putT_most (x : List UInt8) (h : x.length ≤ 300) : (putT x).length ≤ x.length + 2 := by
 unfold putT; rw [List.length_append]
 have : (putZ (x.length : Int)).length ≤ 2 := by
  unfold putZ
  refine vin_len 1 _ ?_
  have : zig (x.length : Int) = 2 * x.length := by unfold zig; rw [if_neg (by omega)]; omega
  rw [this]
  have e : (128 : Nat) ^ (1 + 1) = 16384 := by decide
  omega
 omega
theorem strm_count (rs : List LRec) (h : ∀ r ∈ rs, 1 ≤ r.body.length) : 2 * rs.length ≤ (strm rs).length := by
 induction rs with
 | nil => simp [strm]
 | cons r rs ih =>
  have h1 := h r (by simp)
  have h2 := ih fun r hr => h r (by simp [hr])
  have h3 := putT_pos r.body
  have e : strm (r :: rs) = putT r.body ++ strm rs := by simp [strm]
  rw [e, List.length_append, List.length_cons]; omega
theorem endAt_lt (rs : List LRec) (i : Nat) (h : i < rs.length) : endAt rs i < endAt rs (i + 1) := by
 rw [endAt_next rs i h]; have := putT_pos rs[i].body; omega
theorem strm_costs (rs : List LRec) (h : ∀ r ∈ rs, r.body.length ≤ 300) : (strm rs).length + 58 * rs.length ≤ costs rs := by
 induction rs with
 | nil => simp [strm, costs]
 | cons r rs ih =>
  have h2 := ih fun r hr => h r (by simp [hr])
  have h3 := putT_most r.body (h r (by simp))
  have e : strm (r :: rs) = putT r.body ++ strm rs := by simp [strm]
  have e2 : costs (r :: rs) = r.cost + costs rs := by simp [costs]
  rw [e, e2, List.length_append, List.length_cons]
  unfold LRec.cost; omega
def chunk (l : List UInt8) (k : Nat) : List UInt8 := (l.drop (53 * k)).take 53
def nsec (n : Nat) : Nat := max 1 ((n + 52) / 53)
theorem chunk_len (l : List UInt8) (k : Nat) : (chunk l k).length = min 53 (l.length - 53 * k) := by simp [chunk]
theorem chunk_next (l : List UInt8) (a m : Nat) : (l.drop (53 * a)).take (53 * (m + 1)) = (l.drop (53 * a)).take (53 * m) ++ chunk l (a + m) := by
 unfold chunk
 rw [show 53 * (m + 1) = 53 * m + 53 by omega, List.take_add, List.drop_drop]
 congr 3
 omega
theorem chunk_append (l r : List UInt8) (k : Nat) (h : k < l.length / 53) : chunk (l ++ r) k = chunk l k := by
 unfold chunk
 rw [List.drop_append_of_le_length (by omega), List.take_append_of_le_length (by rw [List.length_drop]; omega)]
theorem chunk_tail (l r : List UInt8) (j : Nat) : chunk (l ++ r) (l.length / 53 + j) = chunk (l.drop (53 * (l.length / 53)) ++ r) j := by
 unfold chunk
 rw [Nat.mul_add, ← List.drop_drop, List.drop_append_of_le_length (by omega)]
structure Seg where
 slot : Nat
 first : Nat
 recs : List LRec
 deriving Inhabited
def Seg.text (s : Seg) : List UInt8 := strm s.recs
def Seg.end_ (s : Seg) : Nat := s.first + s.recs.length
structure Seg.Ok (s : Seg) : Prop where
 len : s.text.length ≤ 424
 one : ∀ r ∈ s.recs, 1 ≤ r.body.length ∧ r.body.length ≤ 300
 pos : ∀ i (h : i < s.recs.length), (s.recs[i]).pos = s.first + i
 first : 1 ≤ s.first
theorem Seg.Ok.count {s : Seg} (h : s.Ok) : s.recs.length ≤ 212 := by
 have := strm_count s.recs fun r hr => (h.one r hr).1
 have := h.len
 unfold Seg.text at this
 omega
def secAt (rows : List (List UInt8)) (p i k : Nat) : Option (Nat × List UInt8) := decL k (rows.getD (p + i * 8 + k) [])
structure SegOn (rows : List (List UInt8)) (p : Nat) (s : Seg) : Prop where
 has : ∀ k, k < nsec s.text.length → secAt rows p s.slot k = some (s.first * 8 + k, chunk s.text k)
 rest : ∀ k, nsec s.text.length ≤ k → k < 8 → ∀ n x, secAt rows p s.slot k = some (n, x) → n < s.first * 8
structure Chain (segs b0 : Nat) (ks : List Seg) : Prop where
 base : b0 < segs
 len : ks.length ≤ segs
 slot : ∀ i (h : i < ks.length), (ks[i]).slot = (b0 + i) % segs
 ok : ∀ s ∈ ks, s.Ok
 rise : ks.Pairwise fun a b => a.end_ ≤ b.first
 full : ∀ s ∈ ks, s.recs ≠ []
 cost : ∀ i (h : i + 1 < ks.length), 461 ≤ costs (ks[i]).recs + costs (ks[i + 1]).recs
structure OnDisk (rows : List (List UInt8)) (p segs : Nat) (ks : List Seg) : Prop where
 on : ∀ s ∈ ks, SegOn rows p s
 none : ∀ i, i < segs → (∀ s ∈ ks, s.slot ≠ i) → ∀ k, k < 8 → secAt rows p i k = none
theorem secAt_same {rows rows' : List (List UInt8)} {p i k segs : Nat} (h : ∀ j, p ≤ j ∧ j < p + 8 * segs → rows'.getD j [] = rows.getD j []) (hi : i < segs) (hk : k < 8) : secAt rows' p i k = secAt rows p i k := by
 unfold secAt; rw [h _ (by omega)]
theorem nsec_le (n : Nat) (h : n ≤ 424) : nsec n ≤ 8 := by unfold nsec; omega
theorem OnDisk.same {rows rows' : List (List UInt8)} {p segs : Nat} {ks : List Seg} (h : OnDisk rows p segs ks) (hs : ∀ j, p ≤ j ∧ j < p + 8 * segs → rows'.getD j [] = rows.getD j []) (hk : ∀ s ∈ ks, s.slot < segs) (hl : ∀ s ∈ ks, s.text.length ≤ 424) : OnDisk rows' p segs ks :=
 ⟨fun s m => ⟨fun k h1 => by rw [secAt_same hs (hk s m) (Nat.lt_of_lt_of_le h1 (nsec_le _ (hl s m)))]; exact (h.on s m).has k h1, fun k h1 h2 n x => by rw [secAt_same hs (hk s m) h2]; exact (h.on s m).rest k h1 h2 n x⟩,
  fun i hi hn k hk' => by rw [secAt_same hs hi hk']; exact h.none i hi hn k hk'⟩
theorem Chain.slot_lt {segs b0 : Nat} {ks : List Seg} (h : Chain segs b0 ks) : ∀ s ∈ ks, s.slot < segs := fun s hs => by
 obtain ⟨i, hi, rfl⟩ := List.getElem_of_mem hs
 rw [h.slot i hi]
 exact Nat.mod_lt _ (by have := h.base; omega)
theorem Chain.slot_inj {segs b0 : Nat} {ks : List Seg} (h : Chain segs b0 ks) {i j : Nat} (hi : i < ks.length) (hj : j < ks.length) (e : (ks[i]).slot = (ks[j]).slot) : i = j := by
 rw [h.slot i hi, h.slot j hj] at e
 have h1 := h.base
 have h2 := h.len
 have e1 : (b0 + i) % segs = if b0 + i < segs then b0 + i else b0 + i - segs := by
  split
  ·exact Nat.mod_eq_of_lt (by assumption)
  ·rw [Nat.mod_eq_sub_mod (by omega), Nat.mod_eq_of_lt (by omega)]
 have e2 : (b0 + j) % segs = if b0 + j < segs then b0 + j else b0 + j - segs := by
  split
  ·exact Nat.mod_eq_of_lt (by assumption)
  ·rw [Nat.mod_eq_sub_mod (by omega), Nat.mod_eq_of_lt (by omega)]
 rw [e1, e2] at e
 split at e <;> split at e <;> omega
end Go.Proofs.YticophaepapjoaaGreatDoor
