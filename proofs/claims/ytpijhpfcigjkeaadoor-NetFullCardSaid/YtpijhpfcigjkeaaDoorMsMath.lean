/-
  A MESSAGE's BYTES (layer 19), as the program writes them: twelve numbers, six texts, a length, a sum; no other message's bytes begin with them; a byte that was changed is told.
-/
import Derived.Test.YtpijhpfcigjkeaaDoorMsIf
import Derived.Test.YtpijhpfcigjkeaaDoorAllNums
import Derived.Test.YtpijhpfcigjkeaaDoorAllCalc
namespace Go.Proofs.YtpijhpfcigjkeaaDoor
open Go Go.RowKit

def lastZ (b : Bool) : Int := if b then 1 else 0
def headZ (m : Ms) : List Int := [m.kind, m.frm, m.to_, m.epoch, m.tick, m.seq, m.n, m.id, m.op, m.err, lastZ m.last, m.base]
def Mk.bytes (x : Mk) : List UInt8 := putZ x.seq ++ putT x.key.data.toList
def marksOf (l : List Mk) : List UInt8 := l.flatMap Mk.bytes
def itemL (x : It) : List It := if x.may then [x] else []
def textsM (m : Ms) : List (List UInt8) := [m.key.data.toList, bytesOf (itemL m.item), bytesOf m.items, marksOf m.marks, putsZ m.mem, putsZ m.old]
def bodyM (m : Ms) : List UInt8 := putsZ (headZ m) ++ putsT (textsM m)
def sealL (b : List UInt8) : List UInt8 := [UInt8.ofNat (b.length % 256), UInt8.ofNat (b.length / 256 % 256)] ++ sumL (crcN b)
def encM (m : Ms) : List UInt8 := bodyM m ++ sealL (bodyM m)
theorem sealL_len (b : List UInt8) : (sealL b).length = 6 := rfl
theorem encM_len (m : Ms) : (encM m).length = (bodyM m).length + 6 := by unfold encM; rw [List.length_append, sealL_len]

/-! ### What a message that may be has -/
theorem mayM_parts {m : Ms} (h : mayM m = true) : headB m = true ∧ listB m = true ∧ m.items.all It.may = true ∧ marksB m.marks = true := by
  unfold mayM at h
  simp only [Bool.and_eq_true] at h
  exact ⟨h.1, h.2.1, h.2.2.1, h.2.2.2⟩
theorem headB_is {m : Ms} (h : headB m = true) : 1 ≤ m.kind ∧ m.kind ≤ 14 ∧ 0 ≤ m.frm ∧ m.frm ≤ 5 ∧ 0 ≤ m.to_ ∧ m.to_ ≤ 5 ∧ (0 ≤ m.epoch ∧ m.epoch ≤ 1099511627776) ∧ (0 ≤ m.tick ∧ m.tick ≤ 1099511627776) ∧ (0 ≤ m.seq ∧ m.seq ≤ 1099511627776) ∧ (0 ≤ m.id ∧ m.id ≤ 1099511627776) ∧ (0 ≤ m.base ∧ m.base ≤ 1099511627776) ∧ 0 ≤ m.n ∧ m.n ≤ 1073741824 ∧ 0 ≤ m.op ∧ m.op ≤ 2 ∧ m.key.size ≤ 40 ∧ 0 ≤ m.err ∧ m.err ≤ 10 := by
  unfold headB numB at h
  simp only [Bool.and_eq_true, decide_eq_true_eq, Bool.not_eq_true', beq_eq_false_iff_ne] at h
  obtain ⟨h1, h2, h3, h4, h5, h6, -, h8, h9, h10, h11, h12, h13, h14, h15, h16, h17, h18, h19⟩ := h
  exact ⟨h1, h2, h3, h4, h5, h6, h8, h9, h10, h11, h12, h13, h14, h15, h16, h17, h18, h19⟩
theorem listB_is {m : Ms} (h : listB m = true) : (m.item = it0 ∨ m.item.may = true) ∧ m.items.length ≤ 4 ∧ m.marks.length ≤ 4 ∧ (m.mem.length = 0 ∨ nodesB m.mem = true) ∧ (m.old.length = 0 ∨ nodesB m.old = true) := by
  unfold listB at h
  simpa only [Bool.and_eq_true, Bool.or_eq_true, decide_eq_true_eq] using h
theorem mark_is {l : List Mk} (h : marksB l = true) : ∀ x ∈ l, 1 ≤ x.seq ∧ x.seq ≤ 1099511627776 ∧ x.key.size ≤ 40 := fun x hx => by
  obtain ⟨k, hk, rfl⟩ := List.getElem_of_mem hx
  have := List.all_eq_true.1 h k (List.mem_range.2 hk)
  unfold markB at this
  rw [List.getD_eq_getElem?_getD, List.getElem?_eq_getElem hk] at this
  simp only [Option.getD_some, Bool.and_eq_true, decide_eq_true_eq] at this
  exact ⟨this.1, this.2.1, this.2.2.1.2⟩
theorem nodes_is {l : List Int} (h : l.length = 0 ∨ nodesB l = true) : l.length ≤ 5 ∧ ∀ z ∈ l, 1 ≤ z ∧ z ≤ 5 := by
  rcases h with h | h
  · rw [List.eq_nil_of_length_eq_zero h]; simp
  · have hb := nodesB_iff.1 h
    have up : ∀ k, k < l.length → (k : Int) + 1 ≤ l.getD k 0 ∧ l.getD k 0 ≤ 5 := by
      intro k
      induction k with
      | zero =>
        intro hk
        have := hb.2 0 hk
        unfold nodeB at this
        simp only [Bool.and_eq_true, decide_eq_true_eq] at this
        omega
      | succ k ih =>
        intro hk
        have h1 := ih (by omega)
        have := hb.2 (k + 1) hk
        unfold nodeB at this
        simp only [Bool.and_eq_true, Bool.or_eq_true, decide_eq_true_eq] at this
        rw [show k + 1 - 1 = k from rfl] at this
        omega
    refine ⟨?_, fun z hz => ?_⟩
    · rcases Nat.lt_or_ge 5 l.length with h5 | h5
      · have := up 5 h5; omega
      · exact h5
    · obtain ⟨k, hk, rfl⟩ := List.getElem_of_mem hz
      have := up k hk
      rw [List.getD_eq_getElem?_getD, List.getElem?_eq_getElem hk] at this
      simp only [Option.getD_some] at this
      omega
def inZ (z : Int) : Prop := -9223372036854775808 ≤ z ∧ z < 9223372036854775808
theorem headZ_in {m : Ms} (h : headB m = true) : ∀ z ∈ headZ m, -9223372036854775808 ≤ z ∧ z < 9223372036854775808 := by
  have := headB_is h
  have hl : 0 ≤ lastZ m.last ∧ lastZ m.last ≤ 1 := by unfold lastZ; split <;> omega
  intro z hz
  simp only [headZ, List.mem_cons, List.not_mem_nil, or_false] at hz
  rcases hz with rfl | rfl | rfl | rfl | rfl | rfl | rfl | rfl | rfl | rfl | rfl | rfl <;> omega
theorem may_fits19 {m : Ms} (h : mayM m = true) : m.Fits := by
  obtain ⟨h1, h2, h3, h4⟩ := mayM_parts h
  have a := headB_is h1
  have b := listB_is h2
  have c := mark_is h4
  have d := nodes_is b.2.2.2.1
  have e := nodes_is b.2.2.2.2
  have z0 : it0.fits := ⟨by decide, by decide, by decide, by decide⟩
  unfold i64z at *
  constructor
  all_goals first
    | (unfold i64z; omega)
    | exact (b.1.elim (fun e => e ▸ z0) It.may_fits)
    | exact all_fits h3
    | exact fun x hx => ⟨by have := c x hx; omega, by have := c x hx; unfold i64z; omega⟩
    | exact fun z hz => by have := d.2 z hz; unfold i64z; omega
    | exact fun z hz => by have := e.2 z hz; unfold i64z; omega
    | omega

/-! ### How long they are -/
theorem marksOf_len (l : List Mk) (h : ∀ x ∈ l, 1 ≤ x.seq ∧ x.seq ≤ 1099511627776 ∧ x.key.size ≤ 40) : (marksOf l).length ≤ 60 * l.length := by
  induction l with
  | nil => simp [marksOf]
  | cons x l ih =>
    have hx := h x (by simp)
    have h1 := putZ_len x.seq (by omega) (by omega)
    have k : x.key.data.toList.length = x.key.size := by simp
    have h2 := putZ_len (x.key.data.toList.length : Int) (by omega) (by omega)
    have := ih fun y hy => h y (by simp [hy])
    simp only [marksOf, List.flatMap_cons, List.length_append, List.length_cons] at this ⊢
    have e : x.bytes.length ≤ 60 := by
      unfold Mk.bytes putT
      simp only [List.length_append]
      omega
    omega
theorem itemL_may (x : It) : (itemL x).all It.may = true := by unfold itemL; split <;> simp_all
theorem itemL_len (x : It) : (itemL x).length ≤ 1 := by unfold itemL; split <;> simp
theorem texts_len {m : Ms} (h : mayM m = true) : ∀ t ∈ textsM m, t.length ≤ 1200 := by
  obtain ⟨h1, h2, h3, h4⟩ := mayM_parts h
  have a := headB_is h1
  have b := listB_is h2
  have c := marksOf_len m.marks (mark_is h4)
  have d := nodes_is b.2.2.2.1
  have e := nodes_is b.2.2.2.2
  have k : m.key.data.toList.length = m.key.size := by simp
  have i1 := bytesOf_len (itemL_may m.item)
  have i2 := itemL_len m.item
  have i3 := bytesOf_len h3
  have p1 := putsZ_len m.mem fun z hz => by have := d.2 z hz; omega
  have p2 := putsZ_len m.old fun z hz => by have := e.2 z hz; omega
  intro t ht
  simp only [textsM, List.mem_cons, List.not_mem_nil, or_false] at ht
  rcases ht with rfl | rfl | rfl | rfl | rfl | rfl <;> omega
theorem putT_len {t : List UInt8} (h : t.length ≤ 1200) : (putT t).length ≤ 1210 := by
  have := putZ_len (t.length : Int) (by omega) (by omega)
  unfold putT
  rw [List.length_append]
  omega
theorem bodyM_len {m : Ms} (h : mayM m = true) : (bodyM m).length ≤ 8000 := by
  have h1 := putsZ_len (headZ m) (headZ_in (mayM_parts h).1)
  have h2 := texts_len h
  have e : (headZ m).length = 12 := rfl
  unfold bodyM
  rw [List.length_append]
  generalize headZ m = z at *
  have : (putsT (textsM m)).length ≤ 1210 * 6 := by
    have e6 : (textsM m).length = 6 := rfl
    generalize textsM m = ts at *
    rw [← e6]
    clear e6
    induction ts with
    | nil => simp [putsT]
    | cons t ts ih =>
      have := putT_len (h2 t (by simp))
      have := ih fun u hu => h2 u (by simp [hu])
      simp only [putsT, List.flatMap_cons, List.length_append, List.length_cons] at this ⊢
      omega
  omega

/-! ### They tell the message -/
theorem putsZ_inj {a b : List Int} {r s : List UInt8} (hl : a.length = b.length) (ha : ∀ z ∈ a, -9223372036854775808 ≤ z ∧ z < 9223372036854775808) (hb : ∀ z ∈ b, -9223372036854775808 ≤ z ∧ z < 9223372036854775808) (h : putsZ a ++ r = putsZ b ++ s) : a = b ∧ r = s := by
  induction a generalizing b with
  | nil =>
    cases b with
    | nil => exact ⟨rfl, by simpa [putsZ] using h⟩
    | cons y b => simp at hl
  | cons x a ih =>
    cases b with
    | nil => simp at hl
    | cons y b =>
      simp only [putsZ, List.flatMap_cons, List.append_assoc] at h
      have hx := ha x (by simp)
      have hy := hb y (by simp)
      obtain ⟨e1, h2⟩ := putZ_inj hx.1 hx.2 hy.1 hy.2 h
      obtain ⟨e2, h3⟩ := ih (by simpa using hl) (fun z hz => ha z (by simp [hz])) (fun z hz => hb z (by simp [hz])) h2
      exact ⟨by rw [e1, e2], h3⟩
theorem putsT_inj {a b : List (List UInt8)} {r s : List UInt8} (hl : a.length = b.length) (ha : ∀ t ∈ a, t.length ≤ 65536) (hb : ∀ t ∈ b, t.length ≤ 65536) (h : putsT a ++ r = putsT b ++ s) : a = b ∧ r = s := by
  induction a generalizing b with
  | nil =>
    cases b with
    | nil => exact ⟨rfl, by simpa [putsT] using h⟩
    | cons y b => simp at hl
  | cons x a ih =>
    cases b with
    | nil => simp at hl
    | cons y b =>
      simp only [putsT, List.flatMap_cons, List.append_assoc] at h
      obtain ⟨e1, h2⟩ := putT_inj (ha x (by simp)) (hb y (by simp)) h
      obtain ⟨e2, h3⟩ := ih (by simpa using hl) (fun z hz => ha z (by simp [hz])) (fun z hz => hb z (by simp [hz])) h2
      exact ⟨by rw [e1, e2], h3⟩
theorem putZ_ne (z : Int) : putZ z ≠ [] := fun e => by
  have := vin_pos (zig z)
  unfold putZ at e
  rw [e] at this
  simp at this
theorem nodesOf_inj {a b : List Int} (ha : ∀ z ∈ a, -9223372036854775808 ≤ z ∧ z < 9223372036854775808) (hb : ∀ z ∈ b, -9223372036854775808 ≤ z ∧ z < 9223372036854775808) (h : putsZ a = putsZ b) : a = b := by
  induction a generalizing b with
  | nil =>
    cases b with
    | nil => rfl
    | cons y b =>
      have h0 := List.length_pos_iff.2 (putZ_ne y)
      have := congrArg List.length h
      simp only [putsZ, List.flatMap_nil, List.flatMap_cons, List.length_append, List.length_nil] at this
      omega
  | cons x a ih =>
    cases b with
    | nil =>
      simp [putsZ] at h
      exact absurd h.1 (putZ_ne x)
    | cons y b =>
      simp only [putsZ, List.flatMap_cons] at h
      have hx := ha x (by simp)
      have hy := hb y (by simp)
      obtain ⟨e1, h2⟩ := putZ_inj hx.1 hx.2 hy.1 hy.2 h
      rw [e1, ih (fun z hz => ha z (by simp [hz])) (fun z hz => hb z (by simp [hz])) h2]
theorem Mk.bytes_ne (x : Mk) : x.bytes ≠ [] := fun e => by
  unfold Mk.bytes at e
  exact putZ_ne x.seq (List.append_eq_nil_iff.1 e).1
def Mk.ok (x : Mk) : Prop := (-9223372036854775808 ≤ x.seq ∧ x.seq < 9223372036854775808) ∧ x.key.size ≤ 65536
theorem Mk.bytes_inj {x y : Mk} {r s : List UInt8} (hx : x.ok) (hy : y.ok) (h : x.bytes ++ r = y.bytes ++ s) : x = y ∧ r = s := by
  have k1 : x.key.data.toList.length = x.key.size := by simp
  have k2 : y.key.data.toList.length = y.key.size := by simp
  unfold Mk.bytes at h
  simp only [List.append_assoc] at h
  obtain ⟨e1, h2⟩ := putZ_inj hx.1.1 hx.1.2 hy.1.1 hy.1.2 h
  obtain ⟨e2, h3⟩ := putT_inj (by have := hx.2; omega) (by have := hy.2; omega) h2
  refine ⟨?_, h3⟩
  obtain ⟨a, b⟩ := x
  obtain ⟨c, d⟩ := y
  have e3 := data_inj e2
  simp only at e1 e3
  rw [e1, e3]
theorem marksOf_cons (x : Mk) (l : List Mk) : marksOf (x :: l) = x.bytes ++ marksOf l := by simp [marksOf]
theorem marksOf_snoc (l : List Mk) (x : Mk) : marksOf (l ++ [x]) = marksOf l ++ x.bytes := by simp [marksOf]
theorem marksOf_inj {a b : List Mk} (ha : ∀ x ∈ a, x.ok) (hb : ∀ x ∈ b, x.ok) (h : marksOf a = marksOf b) : a = b := by
  induction a generalizing b with
  | nil =>
    cases b with
    | nil => rfl
    | cons y b =>
      rw [marksOf_cons] at h
      exact absurd (List.append_eq_nil_iff.1 h.symm).1 y.bytes_ne
  | cons x a ih =>
    cases b with
    | nil =>
      rw [marksOf_cons] at h
      exact absurd (List.append_eq_nil_iff.1 h).1 x.bytes_ne
    | cons y b =>
      rw [marksOf_cons, marksOf_cons] at h
      obtain ⟨e1, h2⟩ := Mk.bytes_inj (ha x (by simp)) (hb y (by simp)) h
      rw [e1, ih (fun z hz => ha z (by simp [hz])) (fun z hz => hb z (by simp [hz])) h2]
theorem mark_ok {l : List Mk} (h : marksB l = true) : ∀ x ∈ l, x.ok := fun x hx => by
  have := mark_is h x hx
  exact ⟨by omega, by omega⟩
theorem itemL_inj {x y : It} (hx : x = it0 ∨ x.may = true) (hy : y = it0 ∨ y.may = true) (h : bytesOf (itemL x) = bytesOf (itemL y)) : x = y := by
  have e := bytesOf_inj (itemL_may x) (itemL_may y) h
  have z : It.may it0 = false := by decide
  unfold itemL at e
  rcases hx with rfl | hx <;> rcases hy with rfl | hy <;> simp_all
theorem body_inj {m n : Ms} {r s : List UInt8} (hm : mayM m = true) (hn : mayM n = true) (h : bodyM m ++ r = bodyM n ++ s) : m = n ∧ r = s := by
  obtain ⟨m1, m2, m3, m4⟩ := mayM_parts hm
  obtain ⟨n1, n2, n3, n4⟩ := mayM_parts hn
  have b := listB_is m2
  have c := listB_is n2
  unfold bodyM at h
  simp only [List.append_assoc] at h
  obtain ⟨hz, h⟩ := putsZ_inj (show (headZ m).length = (headZ n).length from rfl) (headZ_in m1) (headZ_in n1) h
  obtain ⟨ht, h⟩ := putsT_inj (show (textsM m).length = (textsM n).length from rfl) (fun t ht => by have := texts_len hm t ht; omega) (fun t ht => by have := texts_len hn t ht; omega) h
  refine ⟨?_, h⟩
  simp only [textsM, List.cons.injEq, and_true] at ht
  obtain ⟨t1, t2, t3, t4, t5, t6⟩ := ht
  have e1 := data_inj t1
  have e2 := itemL_inj b.1 c.1 t2
  have e3 := bytesOf_inj m3 n3 t3
  have e4 := marksOf_inj (mark_ok m4) (mark_ok n4) t4
  have e5 := nodesOf_inj (fun z hz => by have := (nodes_is b.2.2.2.1).2 z hz; omega) (fun z hz => by have := (nodes_is c.2.2.2.1).2 z hz; omega) t5
  have e6 := nodesOf_inj (fun z hz => by have := (nodes_is b.2.2.2.2).2 z hz; omega) (fun z hz => by have := (nodes_is c.2.2.2.2).2 z hz; omega) t6
  simp only [headZ, List.cons.injEq, and_true] at hz
  obtain ⟨z1, z2, z3, z4, z5, z6, z7, z8, z9, z10, z11, z12⟩ := hz
  have e7 : m.last = n.last := by unfold lastZ at z11; cases h1 : m.last <;> cases h2 : n.last <;> simp [h1, h2] at z11 <;> rfl
  obtain ⟨⟩ := m
  obtain ⟨⟩ := n
  simp only at *
  simp [*]

/-! ### The face's mathematics -/
open Classical in
noncomputable def decM (l : List UInt8) : Option Ms := if h : ∃ m, mayM m = true ∧ encM m = l then some h.choose else none
theorem decM_enc {m : Ms} (h : mayM m = true) : decM (encM m) = some m := by
  have hx : ∃ m', mayM m' = true ∧ encM m' = encM m := ⟨m, h, rfl⟩
  unfold decM
  rw [dif_pos hx]
  have hc := hx.choose_spec
  exact congrArg some (body_inj hc.1 h hc.2).1
theorem decM_some {l : List UInt8} {m : Ms} (h : decM l = some m) : mayM m = true ∧ encM m = l := by
  unfold decM at h
  split at h
  · rename_i hx
    injection h with h
    subst h
    exact hx.choose_spec
  · cases h
theorem decM_none {l : List UInt8} (h : ∀ m, mayM m = true → encM m ≠ l) : decM l = none := by
  unfold decM
  rw [dif_neg]
  rintro ⟨m, h1, h2⟩
  exact h m h1 h2
theorem decM_more {m : Ms} (b : UInt8) (h : mayM m = true) : decM (encM m ++ [b]) = none := decM_none fun n hn e => by
  unfold encM at e
  rw [List.append_assoc] at e
  obtain ⟨rfl, e⟩ := body_inj hn h e
  have := congrArg List.length e
  simp only [List.length_append, sealL_len] at this
  simp at this
theorem decM_cut {m : Ms} (k : Nat) (h : mayM m = true) (hk : k < (encM m).length) : decM ((encM m).take k) = none := decM_none fun n hn e => by
  have e2 : bodyM n ++ (sealL (bodyM n) ++ (encM m).drop k) = bodyM m ++ sealL (bodyM m) := by
    rw [← List.append_assoc, show bodyM n ++ sealL (bodyM n) = encM n from rfl, e, List.take_append_drop]
    rfl
  obtain ⟨rfl, e3⟩ := body_inj hn h e2
  have := congrArg List.length e3
  simp only [List.length_append, sealL_len, List.length_drop] at this
  omega
theorem decM_turn {m : Ms} (i : Nat) (b : UInt8) (h : mayM m = true) (hi : i < (encM m).length) (hb : b ≠ 0) : decM ((encM m).set i ((encM m).getD i 0 ^^^ b)) = none := decM_none fun n hn e => by
  have hl := congrArg List.length e
  rw [List.length_set, encM_len, encM_len] at hl
  have hl2 : (bodyM n).length = (bodyM m).length := by omega
  rw [encM_len] at hi
  rcases Nat.lt_or_ge i (bodyM m).length with hlt | hge
  · have e1 : bodyM n = (bodyM m).set i ((bodyM m).getD i 0 ^^^ b) ∧ sealL (bodyM n) = sealL (bodyM m) := by
      unfold encM at e
      rw [List.set_append_left _ _ hlt, List.getD_eq_getElem?_getD, List.getElem?_append_left hlt, ← List.getD_eq_getElem?_getD] at e
      exact List.append_inj e (by rw [List.length_set]; exact hl2)
    obtain ⟨e1, e2⟩ := e1
    unfold sealL at e2
    have e3 := sumL_inj _ _ (crcN_lt _) (crcN_lt _) (List.append_inj_right e2 rfl)
    refine crcN_set (bodyM m) i b hlt hb ?_
    rw [← e1, e3]
  · have e1 : bodyM n = bodyM m := by
      unfold encM at e
      rw [List.set_append_right _ _ hge] at e
      exact (List.append_inj e hl2).1
    obtain ⟨rfl, -⟩ := body_inj (r := []) (s := []) hn h (by rw [e1])
    exact set_ne _ i b (by rw [encM_len]; exact hi) hb e.symm

end Go.Proofs.YtpijhpfcigjkeaaDoor
