/-
  NumAll, InvSlot, InvTwo: texts of mine, joined.
-/
import Derived.Test.YticophaepapjoaaGreatDoorAllA07
import Derived.Test.YticophaepapjoaaGreatDoorAllA06
namespace Go.Proofs.YticophaepapjoaaGreatDoor
open Go Go.RowKit
def allZ : Nat → List UInt8 → List Int × Nat × Nat
 | 0, _ => ([], 0, 0)
 | n + 1, l =>
  match getZ l with
  | (x, k, 0) => (x :: (allZ n (l.drop k)).1, k + (allZ n (l.drop k)).2.1, (allZ n (l.drop k)).2.2)
  | (_, _, e + 1) => ([], 0, e + 1)
theorem allZ_ok {n : Nat} {l : List UInt8} {x : Int} {k : Nat} (h : getZ l = (x, k, 0)) :
  allZ (n + 1) l = (x :: (allZ n (l.drop k)).1, k + (allZ n (l.drop k)).2.1, (allZ n (l.drop k)).2.2) := by
 rw [allZ]; split
 ·rename_i x' k' h'; rw [h] at h'; obtain ⟨rfl, rfl, _⟩ := h'; rfl
 ·rename_i h'; rw [h] at h'; simp at h'
theorem allZ_err {n : Nat} {l : List UInt8} {x : Int} {k e : Nat} (h : getZ l = (x, k, e)) (he : e ≠ 0) : allZ (n + 1) l = ([], 0, e) := by
 rw [allZ]; split
 ·rename_i x' k' h'; rw [h] at h'; simp at h'; exact absurd h'.2.2 he
 ·rename_i h'; rw [h] at h'; simp at h'; rw [h'.2.2]
theorem allZ_puts (ns : List Int) (r : List UInt8) (h : ∀ n ∈ ns, -9223372036854775808 ≤ n ∧ n < 9223372036854775808) :
  allZ ns.length (ns.flatMap putZ ++ r) = (ns, (ns.flatMap putZ).length, 0) := by
 induction ns with
 | nil => rfl
 | cons n ns ih =>
  have hn := h n (by simp)
  have ih' := ih fun m hm => h m (by simp [hm])
  have e : (n :: ns).flatMap putZ ++ r = putZ n ++ (ns.flatMap putZ ++ r) := by simp
  rw [List.length_cons, e, allZ_ok (getZ_put n _ hn.1 hn.2)]
  simp [ih']
def stores : World → List (Option Addr) → List Int → World
 | w, some p :: ps, n :: ns => stores (w.setCell p (.int .i64 n)) ps ns
 | w, none :: ps, _ :: ns => stores w ps ns
 | w, _, _ => w
theorem stores_nil (w : World) (ps : List (Option Addr)) : stores w ps [] = w := by cases ps with
 | nil => rfl
 | cons p ps => cases p <;> rfl
theorem stores_snoc (ps : List (Option Addr)) (xs : List Int) (w : World) (p : Option Addr) (x : Int) (h : xs.length = ps.length) :
  stores w (ps ++ [p]) (xs ++ [x]) = match p with | some a => (stores w ps xs).setCell a (.int .i64 x) | none => stores w ps xs := by
 induction ps generalizing xs w with
 | nil =>
  obtain rfl : xs = [] := List.eq_nil_of_length_eq_zero (by simpa using h)
  cases p <;> rfl
 | cons q ps ih =>
  cases xs with
  | nil => simp at h
  | cons y xs =>
   cases q with
   | none => simp only [List.cons_append, stores]; exact ih xs w (by simpa using h)
   | some a => simp only [List.cons_append, stores]; exact ih xs _ (by simpa using h)
theorem stores_keeps (F : Nat → Prop) (ps : List (Option Addr)) (xs : List Int) (w0 w : World) (h : ∀ a, some a ∈ ps → ¬ F a.block) (hw : Keeps F w0 w) : Keeps F w0 (stores w ps xs) := by
 induction ps generalizing xs w with
 | nil => simpa [stores] using hw
 | cons q ps ih =>
  cases xs with
  | nil => rw [stores_nil]; exact hw
  | cons y xs =>
   cases q with
   | none => exact ih xs w (fun a ha => h a (by simp [ha])) hw
   | some a => exact ih xs _ (fun b hb => h b (by simp [hb])) (hw.setCell (.inr (h a (by simp))) _)
def Place (w : World) (a : Addr) : Prop := (∃ v, w.cell? a = some v) ∧ w.frozen? a = false
theorem Place.setCell {w : World} {a b : Addr} {v : Value} (h : Place w a) : Place (w.setCell b v) a := by
 obtain ⟨⟨u, hu⟩, hf⟩ := h
 refine ⟨?_, by rw [World.frozen?_setCell]; exact hf⟩
 by_cases e : b = a
 ·subst e; exact ⟨v, World.cell?_setCell_same w b v hu⟩
 ·exact ⟨u, (World.cell?_setCell_other w b a v e).trans hu⟩
theorem Place.stores {a : Addr} (ps : List (Option Addr)) (xs : List Int) (w : World) (h : Place w a) : Place (stores w ps xs) a := by
 induction ps generalizing xs w with
 | nil => simpa [Go.Proofs.YticophaepapjoaaGreatDoor.stores] using h
 | cons q ps ih =>
  cases xs with
  | nil => rw [stores_nil]; exact h
  | cons y xs =>
   cases q with
   | none => exact ih xs w h
   | some b => exact ih xs _ h.setCell
theorem stores_take (ps : List (Option Addr)) (xs : List Int) (w : World) : stores w ps xs = stores w (ps.take xs.length) xs := by
 induction ps generalizing xs w with
 | nil => simp
 | cons q ps ih =>
  cases xs with
  | nil => simp [stores]
  | cons y xs =>
   cases q with
   | none => simp only [List.length_cons, List.take_succ_cons, stores]; exact ih xs w
   | some b => simp only [List.length_cons, List.take_succ_cons, stores]; exact ih xs _
def AllPost (w : World) (ps : List (Option Addr)) (l : List UInt8) (e : Ending) (w' : World) : Prop :=
 e = .returned (.tuple #[.int .i64 ((if (allZ ps.length l).2.2 = 0 then (allZ ps.length l).2.1 else 0 : Nat) : Int), .int .i64 ((allZ ps.length l).2.2 : Nat)]) ∧ w' = stores w ps (allZ ps.length l).1
theorem AllPost.err {w : World} {ps : List (Option Addr)} {l : List UInt8} {xs : List Int} {at_ e : Nat} (he : e ≠ 0) (hz : allZ ps.length l = (xs, at_, e)) :
  AllPost w ps l (.returned (.tuple #[.int .i64 0, .int .i64 (e : Nat)])) (stores w (ps.take xs.length) xs) := by
 refine ⟨?_, ?_⟩
 ·rw [hz]; simp [he]
 ·rw [hz]; exact (stores_take ps xs w).symm
theorem AllPost.ok {w : World} {ps : List (Option Addr)} {l : List UInt8} {xs : List Int} {at_ : Nat} (hz : allZ ps.length l = (xs, at_, 0)) :
  AllPost w ps l (.returned (.tuple #[.int .i64 (at_ : Nat), .int .i64 0])) (stores w (ps.take xs.length) xs) := by
 refine ⟨?_, ?_⟩
 ·rw [hz]; simp
 ·rw [hz]; exact (stores_take ps xs w).symm
theorem get_n (A : Option Addr) (c n : Nat) (F : Nat → Prop) (l : List UInt8) (w : World) (h : Row w A F (bcells l)) (hl : l.length ≤ 1099511627776) (hn : n = l.length) (x : Int) (k e : Nat) (hg : getZ l = (x, k, e)) :
  Calls Tryz.prog 125 #[.slice A n c] w fun e' w' => e' = .returned (.tuple #[.int .i64 x, .int .i64 (k : Nat), .int .i64 (e : Nat)]) ∧ w = w' := by
 subst hn; exact get_is A c F l w h hl x k e hg
set_option maxRecDepth 100000 in
set_option maxHeartbeats 1000000 in
theorem all_any (A B : Option Addr) (c d : Nat) (F : Nat → Prop) (l : List UInt8) (ps : List (Option Addr)) (w : World) (h : Row w A F (bcells l)) (hB : Row w B F (ps.map Value.pointer))
  (hp : ∀ a, some a ∈ ps → Place w a ∧ ¬ F a.block) (hl : l.length ≤ 1099511627776) (hc : l.length ≤ c) (hps : ps.length ≤ 1099511627776) :
  Calls Tryz.prog 117 #[.slice A l.length c, .slice B ps.length d] w (AllPost w ps l) := by
 have HA := Lib.hid h
 have HB := Lib.hid hB
 have HP := Lib.hid hp
 clear h hB hp
 go_enter Tryz.func117, Tryz.ntmps117
 go_wp2
 go_loopw [6, 14] (fun s i wr => ∃ (j at_ : Nat) (xs : List Int), j ≤ ps.length ∧ at_ ≤ l.length ∧ xs.length = j ∧ i = .int .i64 j ∧ s = .int .i64 at_ ∧ wr = stores w (ps.take j) xs ∧
   allZ ps.length l = (xs ++ (allZ (ps.length - j) (l.drop at_)).1, at_ + (allZ (ps.length - j) (l.drop at_)).2.1, (allZ (ps.length - j) (l.drop at_)).2.2)) (fun _ i _ => ps.length - (intOf i).toNat)
 case atStart => exact ⟨0, 0, [], Nat.zero_le _, Nat.zero_le _, rfl, rfl, rfl, by simp [stores], by simp⟩
 case round =>
  obtain ⟨j, at_, xs, hj, hat, hxs, rfl, rfl, hwr, hz⟩ := hrel
  have hkp : Keeps F w wr := by rw [hwr]; exact stores_keeps F _ _ w w (fun a ha => (HP.out a (List.mem_of_mem_take ha)).2) (Keeps.refl _ _)
  have hpl : ∀ a, some a ∈ ps → Place wr a := fun a ha => by rw [hwr]; exact Place.stores _ _ _ (HP.out a ha).1
  have HW := Lib.hid hwr
  have HZ := Lib.hid hz
  have HX := Lib.hid hxs
  have HR := Lib.hid (HA.out.keep hkp)
  by_cases hlt : j < ps.length
  ·obtain ⟨b, o, rfl, _, hcell⟩ := (HB.out.keep hkp).at_ (k := j) (by simpa using hlt)
   simp only [List.getElem_map] at hcell
   have hcut := HR.out.cut (k := at_) (cap := c) (by rw [bcells_len]; exact hat) (by rw [bcells_len]; exact hc)
   rw [bcells, ← List.map_drop] at hcut
   have hdl : (l.drop at_).length ≤ 1099511627776 := by rw [List.length_drop]; omega
   have hj1 : ps.length - j = (ps.length - (j + 1)) + 1 := by omega
   have bad : ∀ (x : Int) (k e : Nat), e ≠ 0 → getZ (l.drop at_) = (x, k, e) → AllPost w ps l (.returned (.tuple #[.int .i64 0, .int .i64 (e : Nat)])) wr := by
    intro x k e he hg
    have h1 := HZ.out
    rw [hj1, allZ_err hg he, List.append_nil] at h1
    have h2 := AllPost.err (w := w) he h1
    rw [HX.out, ← HW.out] at h2
    exact h2
   have HBad := Lib.hid bad
   by_cases hca : c = at_
   ·subst hca
    have hR : Row wr A F (bcells (l.drop c)) := by rwa [if_pos rfl] at hcut
    have hnil : l.drop c = [] := List.drop_eq_nil_of_le hc
    rw [hnil] at hR
    have hbad := HBad.out 0 0 2 (by decide) (by rw [hnil]; rfl)
    have HRr := Lib.hid hR
    have HF := Lib.hid hbad
    clear hR hcut hwr hz hxs hkp hpl hbad bad hnil hj1
    go_wp2_with fail
    refine (get_n _ _ 0 _ [] _ HRr.out (by decide) rfl 0 0 2 rfl).mono ?_
    rintro e w' ⟨rfl, rfl⟩
    go_wp2
    go_ret2
    exact HF.out
   ·have hR : Row wr (A.map (·.add at_)) F (bcells (l.drop at_)) := by rwa [if_neg hca] at hcut
    have HRr := Lib.hid hR
    have hln : l.length - at_ = (l.drop at_).length := by rw [List.length_drop]
    have err : ∀ (x : Int) (k e : Nat), e ≠ 0 → getZ (l.drop at_) = (x, k, e) → True := fun _ _ _ _ _ => trivial
    rcases getZ_cases (l.drop at_) with ⟨x, k, hg, hk0, hk10, hkl, hx1, hx2⟩ | hg | hg
    ·have hz2 : allZ ps.length l = ((xs ++ [x]) ++ (allZ (ps.length - (j + 1)) (l.drop (at_ + k))).1, (at_ + k) + (allZ (ps.length - (j + 1)) (l.drop (at_ + k))).2.1, (allZ (ps.length - (j + 1)) (l.drop (at_ + k))).2.2) := by
      have h1 := HZ.out
      rw [hj1, allZ_ok hg, List.drop_drop] at h1
      rw [h1]
      simp [Nat.add_assoc]
     have hst : stores w (ps.take (j + 1)) (xs ++ [x]) = match ps[j] with | some a => wr.setCell a (.int .i64 x) | none => wr := by
      rw [List.take_succ_eq_append_getElem hlt, stores_snoc _ _ _ _ _ (by rw [HX.out, List.length_take]; omega), ← HW.out]
     have hplj : ∀ a, ps[j] = some a → Place wr a := fun a ha => hpl a (by rw [← ha]; exact List.getElem_mem hlt)
     rw [List.length_drop] at hkl
     have HG := Lib.hid hg
     have HZ2 := Lib.hid hz2
     have HST := Lib.hid hst
     have HPJ := Lib.hid hplj
     have HLN := Lib.hid hln
     clear hR hcut hwr hz hxs hkp hpl bad hg hz2 hst hplj hln err hx1 hx2 hj1
     generalize ps[j] = q at hcell HST HPJ
     rcases q with _ | a
     ·go_wp2_with fail
      refine (get_n _ _ _ _ _ _ HRr.out hdl HLN.out x k 0 HG.out).mono ?_
      rintro e w' ⟨rfl, rfl⟩
      go_wp2_with fail
      go_roundw
      case rel => exact ⟨j + 1, at_ + k, xs ++ [x], by omega, by omega, by rw [List.length_append, HX.out]; rfl, by go_num, by go_num, HST.out.symm, HZ2.out⟩
      case measure => simp [intOf]; omega
     ·obtain ⟨⟨v0, hv0⟩, hf0⟩ := HPJ.out a rfl
      go_wp2_with fail
      refine (get_n _ _ _ _ _ _ HRr.out hdl HLN.out x k 0 HG.out).mono ?_
      rintro e w' ⟨rfl, rfl⟩
      go_wp2_with fail
      go_roundw
      case rel => exact ⟨j + 1, at_ + k, xs ++ [x], by omega, by omega, by rw [List.length_append, HX.out]; rfl, by go_num, by go_num, HST.out.symm, HZ2.out⟩
      case measure => simp [intOf]; omega
    ·have HF := Lib.hid (HBad.out 0 0 1 (by decide) hg)
     have HG := Lib.hid hg
     have HLN := Lib.hid hln
     clear hR hcut hwr hz hxs hkp hpl bad hg err hj1 hln
     go_wp2_with fail
     refine (get_n _ _ _ _ _ _ HRr.out hdl HLN.out 0 0 1 HG.out).mono ?_
     rintro e w' ⟨rfl, rfl⟩
     go_wp2
     go_ret2
     exact HF.out
    ·have HF := Lib.hid (HBad.out 0 0 2 (by decide) hg)
     have HG := Lib.hid hg
     have HLN := Lib.hid hln
     clear hR hcut hwr hz hxs hkp hpl bad hg err hj1 hln
     go_wp2_with fail
     refine (get_n _ _ _ _ _ _ HRr.out hdl HLN.out 0 0 2 HG.out).mono ?_
     rintro e w' ⟨rfl, rfl⟩
     go_wp2
     go_ret2
     exact HF.out
  ·obtain rfl : j = ps.length := by omega
   have hz2 : allZ ps.length l = (xs, at_, 0) := by rw [hz]; simp [allZ]
   have hfin := AllPost.ok (w := w) hz2
   rw [hxs, ← hwr] at hfin
   have HF := Lib.hid hfin
   clear hfin hz2 hz hxs hwr hkp hpl
   go_wp2
   go_ret2
   exact HF.out
section
variable {P : Program} {ops : Array Oper} {Q : Exit → Act → World → Prop} {V : Nat → World → Value → Prop} {a0 : Act} {w0 : World}
theorem slotOf_put {a : Act} {v : Value} (hd : ∀ i j d, dstOf ops i = some d → dstOf ops j = some d → i = j) (hb : ∀ i d, dstOf ops i = some d → d < a.tmps.size) {i A : Nat} (hA : ∃ d, dstOf ops A = some d) (hne : i ≠ A) :
  slotOf (a.put (dstOf ops i) v) (dstOf ops A) = slotOf a (dstOf ops A) := by
 obtain ⟨d, hd'⟩ := hA
 rw [hd']
 cases hx : dstOf ops i with
 | none => rfl
 | some d' =>
  show (a.put (some d') v).tmps.getD d undef = a.tmps.getD d undef
  rw [getD_put (hb i d' hx), if_neg (fun h => hne (hd i A d (by rw [hx, h]) hd'))]
theorem wp_region_slot {id : Nat} {w : World} (k A : Nat) (St : Bool → Value → World → Prop) (Rk : World → World → Prop) (G : Nat → Option Bool) (hm : P.follows .mixedOrders = true)
  (hV : ∀ i w w' v, Kp w w' → V i w v → V i w' v) (hS : ∀ b u w w', Kp w w' → St b u w → St b u w') (hF : ∀ u u' w, St false u w → St false u' w) (hA : ∃ d, dstOf ops A = some d) (hkA : waits ops k A = true) (hAk : A ≠ k) (hVk : ∀ i, i ≠ k → ∀ w w' v, Rk w w' → V i w v → V i w' v)
  (hfit : fitsG G ops a0.tmps.size = true) (hk : k < ops.size) (hG : ∀ g c, G g = some c → ∀ w v, V g w v → v = .bool c) (hU : ∀ (i : Nat) (o : Oper), ops[i]? = some o → wantsG G o = false → i ≠ k ∧ V i = IsV undef) (hw : ∀ u, St false u w.drew)
  (loc : ∀ (i : Nat) (o : Oper), ops[i]? = some o → wantsG G o = true → ∀ a w, Leans (fun _ _ => True) V ops a0 w0 i a w →
   if i = k then (St false (slotOf a (dstOf ops A)) w → o.wp P a w (fun a' w' => ∃ v, a' = a.put o.dst v ∧ Rk w w' ∧ St true (slotOf a (dstOf ops A)) w' ∧ V i w' v) Q)
   else (∀ b, St b (slotOf a (dstOf ops A)) w → (∀ js, chained ops k i js = true → b = true) → o.wp P a w (fun a' w' => ∃ v, a' = a.put o.dst v ∧ Kp w w' ∧ V i w' v) Q))
  (done : ∀ vs w, St true (vs.getD A undef) w → vs.length = ops.size → (∀ i d, dstOf ops i = some d → V i w (vs.getD i undef)) → Q .normal (putAll a0 (ops.toList.map (·.dst)) vs) w) :
  (Code.region id ops true).wp P Q a0 w := by
 have look : ∀ (i : Nat) (o : Oper), ops[i]? = some o → (∀ g b, o.guard = some (g, b) → waits ops i g = true ∧ (dstOf ops g).isSome = true ∧ ((G g).isSome = true ∨ ∃ o', ops[g]? = some o' ∧ wantsG G o' = false)) ∧ (∀ e ∈ o.after, Region.binds .any e = true → e.on < i) ∧ (∀ d, o.dst = some d → d < a0.tmps.size) ∧ (∀ j, i ≠ j → ∀ d, o.dst = some d → dstOf ops j ≠ some d) := by
  intro i o ho
  have hi : i < ops.size := (Array.getElem?_eq_some_iff.1 ho).1
  have h := List.all_eq_true.1 hfit i (List.mem_range.2 hi)
  simp only [ho, Option.all_some, Bool.and_eq_true] at h
  obtain ⟨⟨⟨h1, h2⟩, h3⟩, h4⟩ := h
  refine ⟨fun g b hgb => ?_, fun e he hb => ?_, fun d hd => ?_, fun j hj d hd hx => ?_⟩
  ·rw [hgb] at h1
   simp only [Bool.and_eq_true, Bool.or_eq_true] at h1
   refine ⟨h1.1.1, h1.1.2, h1.2.imp (fun hx => hx) fun hx => ?_⟩
   cases ho' : ops[g]? with
   | none => rw [ho'] at hx; cases hx
   | some o' =>
    rw [ho'] at hx
    exact ⟨o', rfl, by simpa using hx⟩
  ·have := Array.all_eq_true_iff_forall_mem.1 h2 e he
   simpa [hb] using this
  ·rw [hd] at h3; simpa using h3
  ·have hjs : j < ops.size := by
    rcases Nat.lt_or_ge j ops.size with h' | h'
    ·exact h'
    ·simp [dstOf, Array.getElem?_eq_none h'] at hx
   have := List.all_eq_true.1 h4 j (List.mem_range.2 hjs)
   rw [hd, hx] at this
   simp [hj] at this
 have some_of : ∀ i d, dstOf ops i = some d → ∃ o, ops[i]? = some o ∧ o.dst = some d := fun i d h => by
  unfold dstOf at h
  cases ho : ops[i]? with
  | none => simp [ho] at h
  | some o => exact ⟨o, rfl, by simpa [ho] using h⟩
 have hd : ∀ i j d, dstOf ops i = some d → dstOf ops j = some d → i = j := by
  intro i j d hi hj
  obtain ⟨o, ho, hd⟩ := some_of i d hi
  exact Classical.byContradiction fun hne => (look i o ho).2.2.2 j hne d hd hj
 have hb : ∀ i d, dstOf ops i = some d → d < a0.tmps.size := by
  intro i d hi
  obtain ⟨o, ho, hd⟩ := some_of i d hi
  exact (look i o ho).2.2.1 d hd
 have hac : ∀ i j, waits ops i j = true → j < i := by
  intro i j h
  obtain ⟨o, ho, e, he, hb, rfl⟩ := (waits_iff i j).1 h
  exact (look i o ho).2.1 e he hb
 have fin : ∀ (l : Array Bool) (a : Act) (w' : World), (∀ i, i < ops.size → l.getD i false = true) → StandsAt (fun _ _ => True) V ops a0 w0 l a w' → St (l.getD k false) (slotOf a (dstOf ops A)) w' → Q .normal a w' := by
  intro l a w' hall h hs
  rw [hall k hk] at hs
  have hlen : ((ops.toList.map (·.dst)).map (slotOf a)).length = ops.size := by simp
  have es : ((ops.toList.map (·.dst)).map (slotOf a)).getD A undef = slotOf a (dstOf ops A) := by
   obtain ⟨dA, hdA⟩ := hA
   obtain ⟨o, ho, hd⟩ := some_of A dA hdA
   rw [List.getD_eq_getElem?_getD, List.getElem?_map, List.getElem?_map, Array.getElem?_toList, ho]
   simp [hd, hdA, slotOf]
  rw [← es] at hs
  have hq := done ((ops.toList.map (·.dst)).map (slotOf a)) w' hs hlen (fun i d hid => by
   obtain ⟨o, ho, hd⟩ := some_of i d hid
   have hi : i < ops.size := (Array.getElem?_eq_some_iff.1 ho).1
   have hv := h.val i d (hall i hi) hid
   have e : ((ops.toList.map (·.dst)).map (slotOf a)).getD i undef = a.tmps.getD d undef := by
    rw [List.getD_eq_getElem?_getD, List.getElem?_map, List.getElem?_map, Array.getElem?_toList, ho]
    simp [hd, slotOf]
   rw [e]; exact hv)
  rw [← putAll_of a _ a0 h.defers h.tmps ?_ ?_] at hq
  ·exact hq
  ·intro d hd
   obtain ⟨o, ho, hod⟩ := List.mem_map.1 hd
   obtain ⟨i, hi, rfl⟩ := List.getElem_of_mem ho
   exact (look i ops[i] (by simp at hi; simp [hi])).2.2.1 d (by simpa using hod)
  ·intro t ht
   refine h.old t fun i _ hid => ht ?_
   obtain ⟨o, ho, hd⟩ := some_of i t hid
   refine List.mem_map.2 ⟨o, ?_, hd⟩
   rw [← Array.mem_def]
   exact Array.mem_of_getElem? ho
 have go : ∀ (fuel : Nat) (l : Array Bool) (a : Act) (w : World), (leftOver ops.size l).length ≤ fuel → StandsAt (fun _ _ => True) V ops a0 w0 l a w → St (l.getD k false) (slotOf a (dstOf ops A)) w → wpAny P .any ops Q fuel l a w := by
  intro fuel
  induction fuel with
  | zero =>
   intro l a w hf h hs
   have hn : leftOver ops.size l = [] := List.eq_nil_of_length_eq_zero (by omega)
   have hnot : ∀ i, i < ops.size → l.getD i false = true := fun i hi => by
    have hm : i ∉ leftOver ops.size l := by rw [hn]; simp
    have hl' : i < l.size := by rw [h.size]; exact hi
    unfold leftOver at hm
    simp only [List.mem_filter, List.mem_range, hi, true_and, Array.getD, hl'] at hm ⊢
    simpa using hm
   refine ⟨?_, fin l a w hnot h hs⟩
   refine List.eq_nil_iff_forall_not_mem.2 fun i hi => ?_
   have hm := (mem_ready.1 hi).1
   have hx := getD_false_of hm
   rw [hnot i (by rw [← h.size]; exact hx.2)] at hx
   exact absurd hx.1 (by simp)
  | succ fuel ih =>
   intro l a w hf h hs
   refine ⟨fun hr => fin l a w (all_listed hac h.size hr) h hs, fun i hi => ?_⟩
   obtain ⟨hl, o, ho, hall⟩ := mem_ready.1 hi
   have hwt : ∀ j, waits ops i j = true → l.getD j false = true := fun j hj => by
    obtain ⟨o', ho', e, he, hb', rfl⟩ := (waits_iff i j).1 hj
    rw [ho] at ho'; cases ho'
    exact hall e he hb'
   have hdst : o.dst = dstOf ops i := by simp [dstOf, ho]
   have hleft : (leftOver ops.size (l.setIfInBounds i true)).length ≤ fuel := by
    have := leftOver_set ops.size l i (by rw [← h.size]; exact (getD_false_of hl).2) hl
    omega
   have hwant := wanted_is (h.leans hl hwt) (fun j d hj => by rw [h.tmps]; exact hb j d hj) (look i o ho).1 hG (fun i o ho hw => (hU i o ho hw).2)
   have hset : ∀ (hne : i ≠ k), (l.setIfInBounds i true).getD k false = l.getD k false := fun hne => getD_set_ne false hne
   have hb' : ∀ i d, dstOf ops i = some d → d < a.tmps.size := fun i d h' => by rw [h.tmps]; exact hb i d h'
   have hslot : ∀ (v : Value) (W : World), i ≠ k → St (l.getD k false) (slotOf a (dstOf ops A)) W → St (l.getD k false) (slotOf (a.put (dstOf ops i) v) (dstOf ops A)) W := fun v W hne hs => by
    by_cases hiA : i = A
    ·have hlk : l.getD k false = false := by
      cases hx : l.getD k false with
      | false => rfl
      | true =>
       have := h.down k A hx hkA
       rw [← hiA, (getD_false_of hl).1] at this; cases this
     rw [hlk] at hs ⊢
     exact hF _ _ _ hs
    ·rw [slotOf_put hd hb' hA hiA]; exact hs
   have hloc := loc i o ho
   unfold wpOp
   cases hwo : wantsG G o
   ·rw [hwo] at hwant
    obtain ⟨hne, hu⟩ := hU i o ho hwo
    simp only [ho, hwant, Bool.false_eq_true, if_false]
    rw [hdst]
    exact ih _ _ _ hleft (h.step' trivial (fun _ => trivial) hd hb hl (fun _ _ _ hh => hh) hwt (by rw [hu]; rfl)) (by rw [hset hne]; exact hslot _ _ hne hs)
   ·rw [hwo] at hwant
    simp only [ho, hwant, if_true]
    have hlc := hloc hwo a w (h.leans hl hwt)
    by_cases hik : i = k
    ·subst hik
     rw [if_pos rfl] at hlc
     have hlf := (getD_false_of hl).1
     rw [hlf] at hs
     refine .inl (Oper.wp_mono (fun a' w' hk' => ?_) (hlc hs))
     obtain ⟨v, rfl, hr, hst, hv⟩ := hk'
     rw [hdst]
     refine ih _ _ _ hleft (h.step' trivial (fun _ => trivial) hd hb hl (fun j u hj hu => ?_) hwt hv) (by
      have : (l.setIfInBounds i true).getD i false = true := by simp [(getD_false_of hl).2]
      rw [this, slotOf_put hd hb' hA (Ne.symm hAk)]; exact hst)
     exact hVk j (fun e => by subst e; rw [hj] at hlf; cases hlf) w w' u hr hu
    ·rw [if_neg hik] at hlc
     refine .inl (Oper.wp_mono (fun a' w' hk' => ?_) (hlc _ hs (fun js hbh => chained_listed h js i hwt hbh)))
     obtain ⟨v, rfl, hr, hv⟩ := hk'
     rw [hdst]
     exact ih _ _ _ hleft (h.step' trivial (fun _ => trivial) hd hb hl (fun j u _ hu => hV j w w' u hr hu) hwt hv) (by rw [hset hik]; exact hslot _ _ hik (hS _ _ _ _ hr hs))
 refine wp_region_any hm ?_
 refine go ops.size _ a0 _ ?_ ?_ ?_
 ·refine Nat.le_trans (List.length_filter_le _ _) ?_
  simp
 ·refine ⟨by simp, trivial, rfl, rfl, fun _ _ => rfl, ?_, ?_⟩
  ·intro i d h; exact absurd h (by simp [Array.getD])
  ·intro i j h; exact absurd h (by simp [Array.getD])
 ·have : (Array.replicate ops.size false).getD k false = false := by simp [Array.getD]
  rw [this]; exact hw _
end
section
variable {P : Program} {ops : Array Oper} {Q : Exit → Act → World → Prop} {V : Nat → World → Value → Prop} {a0 : Act} {w0 : World}
theorem wp_region_two {id : Nat} {w : World} (k1 k2 : Nat) (St : Bool → Bool → World → Prop) (R1 R2 : World → World → Prop) (G : Nat → Option Bool) (hm : P.follows .mixedOrders = true)
  (hV : ∀ i w w' v, Kp w w' → V i w v → V i w' v) (hS : ∀ b c w w', Kp w w' → St b c w → St b c w') (hV1 : ∀ i, i ≠ k1 → ∀ w w' v, R1 w w' → V i w v → V i w' v) (hV2 : ∀ i, i ≠ k2 → ∀ w w' v, R2 w w' → V i w v → V i w' v) (h12 : waits ops k2 k1 = true)
  (hfit : fitsG G ops a0.tmps.size = true) (hk1 : k1 < ops.size) (hk2 : k2 < ops.size) (hG : ∀ g c, G g = some c → ∀ w v, V g w v → v = .bool c) (hU : ∀ (i : Nat) (o : Oper), ops[i]? = some o → wantsG G o = false → (i ≠ k1 ∧ i ≠ k2) ∧ V i = IsV undef) (hw : St false false w.drew)
  (loc : ∀ (i : Nat) (o : Oper), ops[i]? = some o → wantsG G o = true → ∀ a w, Leans (fun _ _ => True) V ops a0 w0 i a w →
   if i = k1 then (St false false w → o.wp P a w (fun a' w' => ∃ v, a' = a.put o.dst v ∧ R1 w w' ∧ St true false w' ∧ V i w' v) Q)
   else if i = k2 then (St true false w → o.wp P a w (fun a' w' => ∃ v, a' = a.put o.dst v ∧ R2 w w' ∧ St true true w' ∧ V i w' v) Q)
   else (∀ b c, St b c w → (∀ js, chained ops k1 i js = true → b = true) → (∀ js, chained ops i k1 js = true → b = false) → o.wp P a w (fun a' w' => ∃ v, a' = a.put o.dst v ∧ Kp w w' ∧ V i w' v) Q))
  (done : ∀ vs w, St true true w → vs.length = ops.size → (∀ i d, dstOf ops i = some d → V i w (vs.getD i undef)) → Q .normal (putAll a0 (ops.toList.map (·.dst)) vs) w) :
  (Code.region id ops true).wp P Q a0 w := by
 have look : ∀ (i : Nat) (o : Oper), ops[i]? = some o → (∀ g b, o.guard = some (g, b) → waits ops i g = true ∧ (dstOf ops g).isSome = true ∧ ((G g).isSome = true ∨ ∃ o', ops[g]? = some o' ∧ wantsG G o' = false)) ∧ (∀ e ∈ o.after, Region.binds .any e = true → e.on < i) ∧ (∀ d, o.dst = some d → d < a0.tmps.size) ∧ (∀ j, i ≠ j → ∀ d, o.dst = some d → dstOf ops j ≠ some d) := by
  intro i o ho
  have hi : i < ops.size := (Array.getElem?_eq_some_iff.1 ho).1
  have h := List.all_eq_true.1 hfit i (List.mem_range.2 hi)
  simp only [ho, Option.all_some, Bool.and_eq_true] at h
  obtain ⟨⟨⟨h1, h2⟩, h3⟩, h4⟩ := h
  refine ⟨fun g b hgb => ?_, fun e he hb => ?_, fun d hd => ?_, fun j hj d hd hx => ?_⟩
  ·rw [hgb] at h1
   simp only [Bool.and_eq_true, Bool.or_eq_true] at h1
   refine ⟨h1.1.1, h1.1.2, h1.2.imp (fun hx => hx) fun hx => ?_⟩
   cases ho' : ops[g]? with
   | none => rw [ho'] at hx; cases hx
   | some o' =>
    rw [ho'] at hx
    exact ⟨o', rfl, by simpa using hx⟩
  ·have := Array.all_eq_true_iff_forall_mem.1 h2 e he
   simpa [hb] using this
  ·rw [hd] at h3; simpa using h3
  ·have hjs : j < ops.size := by
    rcases Nat.lt_or_ge j ops.size with h' | h'
    ·exact h'
    ·simp [dstOf, Array.getElem?_eq_none h'] at hx
   have := List.all_eq_true.1 h4 j (List.mem_range.2 hjs)
   rw [hd, hx] at this
   simp [hj] at this
 have some_of : ∀ i d, dstOf ops i = some d → ∃ o, ops[i]? = some o ∧ o.dst = some d := fun i d h => by
  unfold dstOf at h
  cases ho : ops[i]? with
  | none => simp [ho] at h
  | some o => exact ⟨o, rfl, by simpa [ho] using h⟩
 have hd : ∀ i j d, dstOf ops i = some d → dstOf ops j = some d → i = j := by
  intro i j d hi hj
  obtain ⟨o, ho, hd⟩ := some_of i d hi
  exact Classical.byContradiction fun hne => (look i o ho).2.2.2 j hne d hd hj
 have hb : ∀ i d, dstOf ops i = some d → d < a0.tmps.size := by
  intro i d hi
  obtain ⟨o, ho, hd⟩ := some_of i d hi
  exact (look i o ho).2.2.1 d hd
 have hac : ∀ i j, waits ops i j = true → j < i := by
  intro i j h
  obtain ⟨o, ho, e, he, hb, rfl⟩ := (waits_iff i j).1 h
  exact (look i o ho).2.1 e he hb
 have fin : ∀ (l : Array Bool) (a : Act) (w' : World), (∀ i, i < ops.size → l.getD i false = true) → StandsAt (fun _ _ => True) V ops a0 w0 l a w' → St (l.getD k1 false) (l.getD k2 false) w' → Q .normal a w' := by
  intro l a w' hall h hs
  rw [hall k1 hk1, hall k2 hk2] at hs
  have hlen : ((ops.toList.map (·.dst)).map (slotOf a)).length = ops.size := by simp
  have hq := done ((ops.toList.map (·.dst)).map (slotOf a)) w' hs hlen (fun i d hid => by
   obtain ⟨o, ho, hd⟩ := some_of i d hid
   have hi : i < ops.size := (Array.getElem?_eq_some_iff.1 ho).1
   have hv := h.val i d (hall i hi) hid
   have e : ((ops.toList.map (·.dst)).map (slotOf a)).getD i undef = a.tmps.getD d undef := by
    rw [List.getD_eq_getElem?_getD, List.getElem?_map, List.getElem?_map, Array.getElem?_toList, ho]
    simp [hd, slotOf]
   rw [e]; exact hv)
  rw [← putAll_of a _ a0 h.defers h.tmps ?_ ?_] at hq
  ·exact hq
  ·intro d hd
   obtain ⟨o, ho, hod⟩ := List.mem_map.1 hd
   obtain ⟨i, hi, rfl⟩ := List.getElem_of_mem ho
   exact (look i ops[i] (by simp at hi; simp [hi])).2.2.1 d (by simpa using hod)
  ·intro t ht
   refine h.old t fun i _ hid => ht ?_
   obtain ⟨o, ho, hd⟩ := some_of i t hid
   refine List.mem_map.2 ⟨o, ?_, hd⟩
   rw [← Array.mem_def]
   exact Array.mem_of_getElem? ho
 have go : ∀ (fuel : Nat) (l : Array Bool) (a : Act) (w : World), (leftOver ops.size l).length ≤ fuel → StandsAt (fun _ _ => True) V ops a0 w0 l a w → St (l.getD k1 false) (l.getD k2 false) w → wpAny P .any ops Q fuel l a w := by
  intro fuel
  induction fuel with
  | zero =>
   intro l a w hf h hs
   have hn : leftOver ops.size l = [] := List.eq_nil_of_length_eq_zero (by omega)
   have hnot : ∀ i, i < ops.size → l.getD i false = true := fun i hi => by
    have hm : i ∉ leftOver ops.size l := by rw [hn]; simp
    have hl' : i < l.size := by rw [h.size]; exact hi
    unfold leftOver at hm
    simp only [List.mem_filter, List.mem_range, hi, true_and, Array.getD, hl'] at hm ⊢
    simpa using hm
   refine ⟨?_, fin l a w hnot h hs⟩
   refine List.eq_nil_iff_forall_not_mem.2 fun i hi => ?_
   have hm := (mem_ready.1 hi).1
   have hx := getD_false_of hm
   rw [hnot i (by rw [← h.size]; exact hx.2)] at hx
   exact absurd hx.1 (by simp)
  | succ fuel ih =>
   intro l a w hf h hs
   refine ⟨fun hr => fin l a w (all_listed hac h.size hr) h hs, fun i hi => ?_⟩
   obtain ⟨hl, o, ho, hall⟩ := mem_ready.1 hi
   have hwt : ∀ j, waits ops i j = true → l.getD j false = true := fun j hj => by
    obtain ⟨o', ho', e, he, hb', rfl⟩ := (waits_iff i j).1 hj
    rw [ho] at ho'; cases ho'
    exact hall e he hb'
   have hdst : o.dst = dstOf ops i := by simp [dstOf, ho]
   have hleft : (leftOver ops.size (l.setIfInBounds i true)).length ≤ fuel := by
    have := leftOver_set ops.size l i (by rw [← h.size]; exact (getD_false_of hl).2) hl
    omega
   have hwant := wanted_is (h.leans hl hwt) (fun j d hj => by rw [h.tmps]; exact hb j d hj) (look i o ho).1 hG (fun i o ho hw => (hU i o ho hw).2)
   have hset : ∀ k, i ≠ k → (l.setIfInBounds i true).getD k false = l.getD k false := fun k hne => getD_set_ne false hne
   have hself : (l.setIfInBounds i true).getD i false = true := by simp [(getD_false_of hl).2]
   have hloc := loc i o ho
   unfold wpOp
   cases hwo : wantsG G o
   ·rw [hwo] at hwant
    obtain ⟨hne, hu⟩ := hU i o ho hwo
    simp only [ho, hwant, Bool.false_eq_true, if_false]
    rw [hdst]
    exact ih _ _ _ hleft (h.step' trivial (fun _ => trivial) hd hb hl (fun _ _ _ hh => hh) hwt (by rw [hu]; rfl)) (by rw [hset _ hne.1, hset _ hne.2]; exact hs)
   ·rw [hwo] at hwant
    simp only [ho, hwant, if_true]
    have hlc := hloc hwo a w (h.leans hl hwt)
    by_cases hi1 : i = k1
    ·subst hi1
     rw [if_pos rfl] at hlc
     have hlf := (getD_false_of hl).1
     have hl2 : l.getD k2 false = false := by
      cases hx : l.getD k2 false with
      | false => rfl
      | true =>
       have := h.down k2 i hx h12
       rw [hlf] at this; cases this
     have hne : i ≠ k2 := fun e => by
      have h1 := hac k2 i h12
      omega
     rw [hlf, hl2] at hs
     refine .inl (Oper.wp_mono (fun a' w' hk' => ?_) (hlc hs))
     obtain ⟨v, rfl, hr, hst, hv⟩ := hk'
     rw [hdst]
     refine ih _ _ _ hleft (h.step' trivial (fun _ => trivial) hd hb hl (fun j u hj hu => ?_) hwt hv) (by
      rw [hself, hset _ hne, hl2]; exact hst)
     exact hV1 j (fun e => by subst e; rw [hj] at hlf; cases hlf) w w' u hr hu
    ·rw [if_neg hi1] at hlc
     by_cases hi2 : i = k2
     ·subst hi2
      rw [if_pos rfl] at hlc
      have hlf := (getD_false_of hl).1
      have hl1 := hwt k1 h12
      rw [hlf, hl1] at hs
      refine .inl (Oper.wp_mono (fun a' w' hk' => ?_) (hlc hs))
      obtain ⟨v, rfl, hr, hst, hv⟩ := hk'
      rw [hdst]
      refine ih _ _ _ hleft (h.step' trivial (fun _ => trivial) hd hb hl (fun j u hj hu => ?_) hwt hv) (by
       rw [hself, hset _ hi1, hl1]; exact hst)
      exact hV2 j (fun e => by subst e; rw [hj] at hlf; cases hlf) w w' u hr hu
     ·rw [if_neg hi2] at hlc
      refine .inl (Oper.wp_mono (fun a' w' hk' => ?_) (hlc _ _ hs (fun js hbh => chained_listed h js i hwt hbh) (fun js hbh => ?_)))
      ·obtain ⟨v, rfl, hr, hv⟩ := hk'
       rw [hdst]
       exact ih _ _ _ hleft (h.step' trivial (fun _ => trivial) hd hb hl (fun j u _ hu => hV j w w' u hr hu) hwt hv) (by rw [hset _ hi1, hset _ hi2]; exact hS _ _ _ _ hr hs)
      ·cases hx : l.getD k1 false with
       | false => rfl
       | true =>
        have := chained_listed h js k1 (fun j hj => h.down k1 j hx hj) hbh
        rw [(getD_false_of hl).1] at this; cases this
 refine wp_region_any hm ?_
 refine go ops.size _ a0 _ ?_ ?_ ?_
 ·refine Nat.le_trans (List.length_filter_le _ _) ?_
  simp
 ·refine ⟨by simp, trivial, rfl, rfl, fun _ _ => rfl, ?_, ?_⟩
  ·intro i d h; exact absurd h (by simp [Array.getD])
  ·intro i j h; exact absurd h (by simp [Array.getD])
 ·have : ∀ k, (Array.replicate ops.size false).getD k false = false := fun k => by simp [Array.getD]
  rw [this, this]; exact hw
end
end Go.Proofs.YticophaepapjoaaGreatDoor
