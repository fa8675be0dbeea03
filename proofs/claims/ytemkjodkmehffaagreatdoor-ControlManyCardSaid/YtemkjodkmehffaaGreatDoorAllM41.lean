/-
  CtJoin: texts of mine, joined.
-/
import Derived.Test.YtemkjodkmehffaaGreatDoorAllM40
namespace Go.Proofs.YtemkjodkmehffaaGreatDoor
open Go Go.RowKit Go.Joins
def MemP (w : World) (l : List Int) (e : Ending) (w' : World) : Prop := ∃ v, e = .returned v ∧ w'.ownsRow w.heap.size 3 1 v l.length (l.map (Value.int .i64)) ∧ Kp w w'
def TwoP (P : Value → Int → World → Prop) (e : Ending) (w' : World) : Prop := ∃ v z, e = .returned (.tuple #[v, .int .i64 z]) ∧ P v z w'
set_option maxRecDepth 100000 in
set_option maxHeartbeats 2000000 in
theorem join_by (w : World) (o : Option Nat) (l : List Int) (hl : l.length ≤ 5) (node : Int) (P : Value → Int → World → Prop) (HM : Calls Tryz.prog 21 #[pOf o] w (MemP w l))
  (HB : ∀ (w1 : World) (A : Option Addr) (cA : Nat), Kp w w1 → LRow w1 (fun b => w.heap.size ≤ b) A cA (sortI (l ++ [node])) → Calls Tryz.prog 38 #[pOf o, .slice A (l.length + 1) cA, .slice A (l.length + 1) cA, .int .i64 0] w1 (TwoP P)) :
  Calls Tryz.prog 18 #[pOf o, .int .i64 node] w (TwoP P) := by
 obtain ⟨pv, hpv⟩ : ∃ pv, pOf o = pv := ⟨_, rfl⟩
 rw [hpv] at HM HB ⊢
 have HMM := Lib.hid HM
 have HBB := Lib.hid HB
 obtain ⟨N, hN⟩ : ∃ N, l.length = N := ⟨_, rfl⟩
 have HNN := Lib.hid hN
 rw [hN] at hl HBB
 clear hpv HM HB hN
 go_enter Tryz.func18, Tryz.ntmps18
 go_wp2_with fail
 refine (show Calls _ _ _ _ _ from HMM.out).mono ?_
 rintro e w1 ⟨v, rfl, ho, hk1⟩
 rw [HNN.out] at ho
 have HO := Lib.hid ho
 have HK1 := Lib.hid hk1
 have hlt := ho.lt
 have HLT := Lib.hid hlt
 have hsz := hk1.size
 have kal : Kp w1 (w1.alloc (.cells #[.int .i64 node] 3)) := (Keeps.refl _ w1).alloc _
 clear ho hk1 hlt HMM
 go_wp2_with (at_builtin; refine int_elem.list_append rfl (.tmp 8) (.tmp 10) _ rfl rfl (kal.own HO.out fun _ _ => trivial) rfl (src_one Tryz.underlying48 w1 (.int .i64 node) 3 rfl _ rfl 1) ?c3 ?c4 ?c5 ?_)
 case c3 => unfold maxLen; omega
 case c4 => omega
 case c5 => simp; omega
 intro v2 w2 ho2 hg2 hb2
 have hk2 : Kp w w2 := (HK1.out.trans kal).grown hg2 fun b hb => (HLT.out b hb).1
 obtain ⟨g, cap, e2, hbg, hgl⟩ := ho2.form (by omega)
 obtain ⟨hc1, hc2⟩ := own_cap (by rw [e2] at ho2; exact ho2)
 subst e2
 have hll : (l ++ [node]).length = N + 1 := by rw [List.length_append, HNN.out]; rfl
 have hsrt := isort_own w2 _ g cap _ (l ++ [node]) (by rw [hll, List.map_append]; exact ho2) (by rw [hll]; omega)
 rw [hll] at hsrt
 have HSR := Lib.hid hsrt
 have HK2 := Lib.hid hk2
 have HGE := Lib.hid hbg
 have HCP := Lib.hid (And.intro hc1 hc2.1)
 have HSL := Lib.hid (show (sortI (l ++ [node])).length = N + 1 from by rw [sortI_len, hll])
 clear ho2 hg2 hb2 hk2 hsrt kal HO HLT hll hbg hgl hc1 hc2
 go_wp2_with fail
 refine (show Calls _ _ _ _ _ from HSR.out).mono ?_
 rintro e w3 ⟨rfl, hr3, hk3⟩
 have hkw : Kp w w3 := ((HK2.out.mono fun _ _ _ => trivial : Keeps (fun b => b ≠ g) w w2).trans hk3).mono fun b hb _ => by have := HGE.out; omega
 have HB3 := Lib.hid (HBB.out w3 (some ⟨g, 0, none⟩) cap hkw ⟨hr3.mono fun b _ hb => by have := HGE.out; show w.heap.size ≤ b; omega, by rw [HSL.out]; exact HCP.out.1, HCP.out.2⟩)
 clear hr3 hk3 hkw HSR HBB
 go_wp2_with fail
 refine (show Calls _ _ _ _ _ from HB3.out).mono ?_
 rintro e w4 ⟨u, z, rfl, hp⟩
 have HP := Lib.hid hp
 clear hp HB3
 go_wp2_with fail
 go_ret2
 exact ⟨_, _, rfl, HP.out⟩
set_option maxRecDepth 100000 in
set_option maxHeartbeats 2000000 in
theorem leave_by (w : World) (o : Option Nat) (l : List Int) (hl : l.length ≤ 5) (node : Int) (P : Value → Int → World → Prop) (HM : ∀ w1, Kp w w1 → Calls Tryz.prog 21 #[pOf o] w1 (MemP w1 l))
  (HB : ∀ (w1 : World) (A : Option Addr) (cA : Nat) (B : Option Addr) (cB : Nat), Kp w w1 → LRow w1 (fun b => w.heap.size ≤ b) A cA l → LRow w1 (fun b => w.heap.size ≤ b) B cB (wo l node) → Calls Tryz.prog 38 #[pOf o, .slice A l.length cA, .slice B (wo l node).length cB, .int .i64 0] w1 (TwoP P)) :
  Calls Tryz.prog 19 #[pOf o, .int .i64 node] w (TwoP P) := by
 obtain ⟨pv, hpv⟩ : ∃ pv, pOf o = pv := ⟨_, rfl⟩
 rw [hpv] at HM HB ⊢
 have HMM := Lib.hid HM
 have HBB := Lib.hid HB
 have HL := Lib.hid hl
 clear hpv HM HB hl
 go_enter Tryz.func19, Tryz.ntmps19
 go_wp2_with fail
 refine (show Calls _ _ _ _ _ from HMM.out w (Keeps.refl _ _)).mono ?_
 rintro e w1 ⟨v, rfl, ho, hk1⟩
 obtain ⟨A, cA, rfl, -, hrow⟩ := own_slice ho
 obtain ⟨a1, a2, -⟩ := own_cap ho
 have HRA := Lib.hid (show LRow w1 (fun b => w.heap.size ≤ b) A cA l from ⟨hrow.mono fun b _ hb => hb.1, a1, a2⟩)
 have HK1 := Lib.hid hk1
 clear ho hrow a1 a2 hk1
 go_wp2_with fail
 refine (show Calls _ _ _ _ _ from HMM.out w1 HK1.out).mono ?_
 rintro e w2 ⟨v, rfl, ho, hk2⟩
 obtain ⟨A', cA', rfl, -, hrow⟩ := own_slice ho
 have HWO := Lib.hid (without_any w2 A' cA' _ l node hrow (by have := HL.out; omega) l.length rfl)
 have HK2 := Lib.hid (HK1.out.trans hk2)
 have HRA2 := Lib.hid (HRA.out.keep (hk2.mono fun _ _ _ => trivial))
 clear ho hrow hk2 HMM HRA HK1
 go_wp2_with fail
 refine (show Calls _ _ _ _ _ from HWO.out).mono ?_
 rintro e w3 ⟨B, cB, rfl, hr3, b1, b2, hk3⟩
 have HB3 := Lib.hid (HBB.out w3 A cA B cB (HK2.out.trans hk3) (HRA2.out.keep (hk3.mono fun _ _ _ => trivial)) ⟨hr3.mono fun b _ hb => Nat.le_trans HK2.out.size hb.1, b1, b2⟩)
 clear hr3 b1 b2 hk3 HWO HBB HRA2 HK2
 go_wp2_with fail
 refine (show Calls _ _ _ _ _ from HB3.out).mono ?_
 rintro e w4 ⟨u, z, rfl, hp⟩
 have HP := Lib.hid hp
 clear hp HB3
 go_wp2_with fail
 go_ret2
 exact ⟨_, _, rfl, HP.out⟩
def BegP (W w : World) (p c : Nat) (ck : Option Nat) (F : Nat → Prop) (n : Int) (k : Nat) (S : CtS) (all mem : List Int) (lost : Int) (v : Value) (z : Int) (w' : World) : Prop :=
 (S.und.isSome = true ∧ z = 6 ∧ v = .slice none 0 0 ∧ OutP W w p c ck F n (k + 2) S [] v w') ∨ (S.und = none ∧ begB S mem = false ∧ z = 1 ∧ v = .slice none 0 0 ∧ OutP W w p c ck F n (k + 2) S [] v w') ∨
  (S.und = none ∧ begB S mem = true ∧ z = 0 ∧ OutP W w p c ck F n (k + 2) (begC S all mem lost) (beatC (begC S all mem lost) n).1 v w')
section
variable {W w w' : World} {p c : Nat} {ck : Option Nat} {F : Nat → Prop} {n : Int} {k : Nat} {S : CtS}
theorem CtAt.mem (h : CtAt W w p c ck F n k S) : Calls Tryz.prog 21 #[.pointer (some ⟨c, 0, none⟩)] w (MemP w S.mem) := by
 obtain ⟨q, Fd, Fs, g, R, s, st, h1, -⟩ := h
 exact h1.bd.members
theorem begin_any (hT : theSup.T W) {w1 : World} (h : CtAt W w p c ck F n k S) (hk0 : Kp w w1) (A : Option Addr) (ca : Nat) (all : List Int) (ha : LRow w1 (fun b => w.heap.size ≤ b) A ca all) (B : Option Addr) (cb : Nat) (l : List Int) (hl : LRow w1 (fun b => w.heap.size ≤ b) B cb l) (lost : Int) (hb : S.und = none → begB S l = true → nodesB all = true ∧ 0 ≤ lost ∧ lost ≤ 5) (hk : k + 2 ≤ 1000000) (m m' : Nat) (hm : m = l.length) (hm' : m' = all.length) :
  Calls Tryz.prog 38 #[.pointer (some ⟨c, 0, none⟩), .slice A m' ca, .slice B m cb, .int .i64 lost] w1 (TwoP (BegP W w p c ck F n k S all l lost)) := by
 have hno : ∀ w', Kp w1 w' → OutP W w p c ck F n (k + 2) S [] (.slice none 0 0) w' := fun w' h1 => h.same (hk0.trans h1) (MOut.nil _ _) (by omega) hk
 cases hS : S.und with
 | some x => exact (begin_busy (h.kp hk0) x hS _ _ lost).mono fun e w' ⟨h1, h2⟩ => ⟨_, _, h1, .inl ⟨by rw [hS]; rfl, rfl, rfl, hno w' (h2 ▸ Keeps.refl _ _)⟩⟩
 | none =>
  cases hf : begB S l with
  | false => exact (begin_form (h.kp hk0) hS _ lost B cb l (hl.1.mono fun _ _ _ => trivial) hl.2.1 hl.2.2 hf m hm).mono fun e w' ⟨h1, h2⟩ => ⟨_, _, h1, .inr (.inl ⟨hS, hf, rfl, rfl, hno w' h2⟩)⟩
  | true =>
   obtain ⟨h1, h2, h3⟩ := hb hS hf
   exact (begin_yes hT h hk0 hS A ca all ha h1 B cb l (hl.1.mono fun _ _ _ => trivial) hl.2.1 hl.2.2 hf lost h2 h3 hk m m' hm hm').mono fun e w' ⟨v, e1, e2⟩ => ⟨_, _, e1, .inr (.inr ⟨hS, hf, rfl, e2⟩)⟩
theorem join_any (hT : theSup.T W) (h : CtAt W w p c ck F n k S) (hk : k + 2 ≤ 1000000) (node : Int) : Calls Tryz.prog 18 #[.pointer (some ⟨c, 0, none⟩), .int .i64 node] w (TwoP (BegP W w p c ck F n k S (sortI (S.mem ++ [node])) (sortI (S.mem ++ [node])) 0)) := by
 refine join_by w (some c) S.mem h.ok.len.2 node _ h.mem fun w1 A cA hk1 hr => ?_
 have hl : S.mem.length + 1 = (sortI (S.mem ++ [node])).length := by rw [sortI_len]; simp
 exact begin_any hT h hk1 A cA _ hr A cA _ hr 0 (fun _ hb => ⟨by
  unfold begB at hb
  rw [Bool.and_eq_true] at hb
  exact ring_nodes hb.1, by decide, by decide⟩) hk _ _ hl hl
theorem leave_any (hT : theSup.T W) (h : CtAt W w p c ck F n k S) (hk : k + 2 ≤ 1000000) (node : Int) : Calls Tryz.prog 19 #[.pointer (some ⟨c, 0, none⟩), .int .i64 node] w (TwoP (BegP W w p c ck F n k S S.mem (wo S.mem node) 0)) := by
 refine leave_by w (some c) S.mem h.ok.len.2 node _ (fun w1 hk1 => (h.kp hk1).mem) fun w1 A cA B cB hk1 hr hr2 => ?_
 exact begin_any hT h hk1 A cA _ hr B cB _ hr2 0 (fun _ _ => ⟨ring_nodes h.ok.ring, by decide, by decide⟩) hk _ _ rfl rfl
end
end Go.Proofs.YtemkjodkmehffaaGreatDoor
