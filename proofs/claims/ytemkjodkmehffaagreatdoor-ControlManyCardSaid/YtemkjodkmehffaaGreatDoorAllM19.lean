/-
  CtRep, CtRead: texts of mine, joined.
-/
import Derived.Test.YtemkjodkmehffaaGreatDoorAllM10
import Derived.Test.YtemkjodkmehffaaGreatDoorAllM17
import Derived.Test.YtemkjodkmehffaaGreatDoorAllM18
import Derived.Test.YtemkjodkmehffaaGreatDoorAllM16
import Derived.BigQuiet
import Derived.Deep.CutRange
namespace Go.Proofs.YtemkjodkmehffaaGreatDoor
open Go Go.RowKit Go.Joins
def pOf (o : Option Nat) : Value := .pointer (o.map fun k => ⟨k, 0, none⟩)
def CtBlk (w : World) (c q r : Nat) (ck g : Option Nat) (t : Int) (f : Nat → Int) : Prop :=
 w.heap[c]? = some (.cells #[pOf ck, .pointer (some ⟨q, 0, none⟩), .pointer (some ⟨r, 0, none⟩), .int .i64 t, pOf g, .int .i64 (f 0), .int .i64 (f 1), .int .i64 (f 2), .int .i64 (f 3), .int .i64 (f 4), .int .i64 (f 5)] 41 (0, 0))
section
variable {w w' : World} {c q r : Nat} {ck g : Option Nat} {t : Int} {f : Nat → Int} {G : Nat → Prop}
theorem CtBlk.lt (h : CtBlk w c q r ck g t f) : c < w.heap.size := (Array.getElem?_eq_some_iff.1 h).1
theorem CtBlk.keep (h : CtBlk w c q r ck g t f) (hk : Keeps G w w') (hG : G c) : CtBlk w' c q r ck g t f := (hk.block c hG h.lt).trans h
theorem CtBlk.c0 (h : CtBlk w c q r ck g t f) : w.cell? ⟨c, 0, none⟩ = some (pOf ck) := cell_of_block h 0
theorem CtBlk.c1 (h : CtBlk w c q r ck g t f) : w.cell? ⟨c, 1, none⟩ = some (.pointer (some ⟨q, 0, none⟩)) := cell_of_block h 1
theorem CtBlk.c2 (h : CtBlk w c q r ck g t f) : w.cell? ⟨c, 2, none⟩ = some (.pointer (some ⟨r, 0, none⟩)) := cell_of_block h 2
theorem CtBlk.c3 (h : CtBlk w c q r ck g t f) : w.cell? ⟨c, 3, none⟩ = some (.int .i64 t) := cell_of_block h 3
theorem CtBlk.c4 (h : CtBlk w c q r ck g t f) : w.cell? ⟨c, 4, none⟩ = some (pOf g) := cell_of_block h 4
theorem CtBlk.over (h : CtBlk w c q r ck g t f) (i : Nat) (hi : i ≤ 5) : w.cell? ⟨c, 5 + i, none⟩ = some (.int .i64 (f i)) := by
 have hh : i = 0 ∨ i = 1 ∨ i = 2 ∨ i = 3 ∨ i = 4 ∨ i = 5 := by omega
 rcases hh with rfl | rfl | rfl | rfl | rfl | rfl <;> exact cell_of_block h _
theorem CtBlk.fz (h : CtBlk w c q r ck g t f) (i : Nat) : w.frozen? ⟨c, i, none⟩ = false := unfrozen_of_block h i
theorem CtBlk.setU (h : CtBlk w c q r ck g t f) (g' : Option Nat) : CtBlk (w.setCell ⟨c, 4, none⟩ (pOf g')) c q r ck g' t f := (block_setCell h _).trans rfl
theorem CtBlk.setK (h : CtBlk w c q r ck g t f) (r' : Nat) (t' : Int) : CtBlk ((w.setCell ⟨c, 2, none⟩ (.pointer (some ⟨r', 0, none⟩))).setCell ⟨c, 3, none⟩ (.int .i64 t')) c q r' ck g t' f := (block_setCell (block_setCell h _) _).trans rfl
theorem CtBlk.setO (h : CtBlk w c q r ck g t f) (i : Nat) (hi : i ≤ 5) (v : Int) : CtBlk (w.setCell ⟨c, 5 + i, none⟩ (.int .i64 v)) c q r ck g t (setO f i v) := by
 have hh : i = 0 ∨ i = 1 ∨ i = 2 ∨ i = 3 ∨ i = 4 ∨ i = 5 := by omega
 rcases hh with rfl | rfl | rfl | rfl | rfl | rfl <;> exact (block_setCell h _).trans rfl
end
def ChBlk (w : World) (k rt : Nat) (A : Option Addr) (na ca : Nat) (lost : Int) (B : Option Addr) (nb cb : Nat) (ph : Int) (C : Option Addr) (nc cc : Nat) : Prop :=
 w.heap[k]? = some (.cells #[.pointer (some ⟨rt, 0, none⟩), .slice A na ca, .int .i64 lost, .slice B nb cb, .int .i64 ph, .slice C nc cc] 83 (0, 0))
section
variable {w w' : World} {k rt : Nat} {A : Option Addr} {na ca : Nat} {lost : Int} {B : Option Addr} {nb cb : Nat} {ph : Int} {C : Option Addr} {nc cc : Nat} {G : Nat → Prop}
theorem ChBlk.lt (h : ChBlk w k rt A na ca lost B nb cb ph C nc cc) : k < w.heap.size := (Array.getElem?_eq_some_iff.1 h).1
theorem ChBlk.keep (h : ChBlk w k rt A na ca lost B nb cb ph C nc cc) (hk : Keeps G w w') (hG : G k) : ChBlk w' k rt A na ca lost B nb cb ph C nc cc := (hk.block k hG h.lt).trans h
theorem ChBlk.c0 (h : ChBlk w k rt A na ca lost B nb cb ph C nc cc) : w.cell? ⟨k, 0, none⟩ = some (.pointer (some ⟨rt, 0, none⟩)) := cell_of_block h 0
theorem ChBlk.c1 (h : ChBlk w k rt A na ca lost B nb cb ph C nc cc) : w.cell? ⟨k, 1, none⟩ = some (.slice A na ca) := cell_of_block h 1
theorem ChBlk.c2 (h : ChBlk w k rt A na ca lost B nb cb ph C nc cc) : w.cell? ⟨k, 2, none⟩ = some (.int .i64 lost) := cell_of_block h 2
theorem ChBlk.c3 (h : ChBlk w k rt A na ca lost B nb cb ph C nc cc) : w.cell? ⟨k, 3, none⟩ = some (.slice B nb cb) := cell_of_block h 3
theorem ChBlk.c4 (h : ChBlk w k rt A na ca lost B nb cb ph C nc cc) : w.cell? ⟨k, 4, none⟩ = some (.int .i64 ph) := cell_of_block h 4
theorem ChBlk.c5 (h : ChBlk w k rt A na ca lost B nb cb ph C nc cc) : w.cell? ⟨k, 5, none⟩ = some (.slice C nc cc) := cell_of_block h 5
theorem ChBlk.fz (h : ChBlk w k rt A na ca lost B nb cb ph C nc cc) (i : Nat) : w.frozen? ⟨k, i, none⟩ = false := unfrozen_of_block h i
theorem ChBlk.setP (h : ChBlk w k rt A na ca lost B nb cb ph C nc cc) (p : Int) : ChBlk (w.setCell ⟨k, 4, none⟩ (.int .i64 p)) k rt A na ca lost B nb cb p C nc cc := (block_setCell h _).trans rfl
theorem ChBlk.setL (h : ChBlk w k rt A na ca lost B nb cb ph C nc cc) (D : Option Addr) (n c : Nat) : ChBlk (w.setCell ⟨k, 5, none⟩ (.slice D n c)) k rt A na ca lost B nb cb ph D n c := (block_setCell h _).trans rfl
end
def RgR (w : World) (R : Nat → Prop) (r : Nat) (e : Int) (l : List Int) : Prop := ringB e l = true ∧ R r ∧ ∃ A c B cb, RgC w r R e l A c B cb
def LRow (w : World) (R : Nat → Prop) (A : Option Addr) (c : Nat) (l : List Int) : Prop := Row w A R (l.map (Value.int .i64)) ∧ l.length ≤ c ∧ c ≤ maxLen
section
variable {w w' : World} {R R' : Nat → Prop} {r : Nat} {e : Int} {l : List Int} {A : Option Addr} {c : Nat}
theorem RgC.mono {B : Option Addr} {cb : Nat} (h : RgC w r R e l A c B cb) (hR : ∀ b, b < w.heap.size → R b → R' b) : RgC w r R' e l A c B cb :=
 ⟨h.e0, h.e1, h.e2, h.row.mono hR, Row.mono h.prow hR, h.c1, h.c2, h.c3, h.c4⟩
theorem RgR.keep (h : RgR w R r e l) (hk : Keeps R w w') : RgR w' R r e l := by
 obtain ⟨h1, h2, A, c, B, cb, h3⟩ := h
 exact ⟨h1, h2, A, c, B, cb, h3.keep h2 hk⟩
theorem RgR.mono (h : RgR w R r e l) (hR : ∀ b, R b → R' b) : RgR w R' r e l := by
 obtain ⟨h1, h2, A, c, B, cb, h3⟩ := h
 exact ⟨h1, hR _ h2, A, c, B, cb, h3.mono fun b _ hb => hR b hb⟩
theorem LRow.keep (h : LRow w R A c l) (hk : Keeps R w w') : LRow w' R A c l := ⟨h.1.keep hk, h.2⟩
theorem LRow.mono (h : LRow w R A c l) (hR : ∀ b, R b → R' b) : LRow w R' A c l := ⟨h.1.mono fun b _ hb => hR b hb, h.2⟩
end
def ChAt (w : World) (k : Nat) (R : Nat → Prop) (h : ChS) : Prop := ∃ (rt : Nat) (A : Option Addr) (ca : Nat) (B : Option Addr) (cb : Nat) (C : Option Addr) (cc : Nat),
 ChBlk w k rt A h.all.length ca h.lost B h.nodes.length cb h.phase C h.lacks.length cc ∧ RgR w R rt h.num h.to_ ∧ LRow w R A ca h.all ∧ LRow w R B cb h.nodes ∧ LRow w R C cc h.lacks
theorem ChAt.keep {w w' : World} {k : Nat} {R G : Nat → Prop} {h : ChS} (ha : ChAt w k R h) (hk : Keeps G w w') (hG : ∀ b, b = k ∨ R b → G b) : ChAt w' k R h := by
 obtain ⟨rt, A, ca, B, cb, C, cc, h1, h2, h3, h4, h5⟩ := ha
 have hR : Keeps R w w' := hk.mono fun b _ hb => hG b (.inr hb)
 exact ⟨rt, A, ca, B, cb, C, cc, h1.keep hk (hG k (.inl rfl)), h2.keep hR, h3.keep hR, h4.keep hR, h5.keep hR⟩
theorem ChAt.mono {w : World} {k : Nat} {R R' : Nat → Prop} {h : ChS} (ha : ChAt w k R h) (hR : ∀ b, R b → R' b) : ChAt w k R' h := by
 obtain ⟨rt, A, ca, B, cb, C, cc, h1, h2, h3, h4, h5⟩ := ha
 exact ⟨rt, A, ca, B, cb, C, cc, h1, h2.mono hR, h3.mono hR, h4.mono hR, h5.mono hR⟩
def UndAt (w : World) (g : Option Nat) (R : Nat → Prop) : Option ChS → Prop
 | none => g = none
 | some h => ∃ k, g = some k ∧ ChAt w k R h
structure CtB (w : World) (c q : Nat) (ck g : Option Nat) (R : Nat → Prop) (S : CtS) : Prop where
 ok : S.Ok
 ex : ∃ r, CtBlk w c q r ck g S.top S.over ∧ RgR w R r S.epoch S.mem
 und : UndAt w g R S.und
 lt : ∀ b, R b → b < w.heap.size
 cR : ¬ R c
 gR : ∀ k, g = some k → ¬ R k ∧ k ≠ c
def CtF (c : Nat) (g : Option Nat) (R : Nat → Prop) (b : Nat) : Prop := b = c ∨ g = some b ∨ R b
section
variable {w w' : World} {c q : Nat} {ck g : Option Nat} {R G : Nat → Prop} {S : CtS}
theorem UndAt.keep {u : Option ChS} (h : UndAt w g R u) (hk : Keeps G w w') (hG : ∀ b, g = some b ∨ R b → G b) : UndAt w' g R u := by
 cases u with
 | none => exact h
 | some x =>
  obtain ⟨k, rfl, h1⟩ := h
  exact ⟨k, rfl, h1.keep hk fun b hb => hG b (hb.imp (fun e => by rw [e]) fun h => h)⟩
theorem CtB.keep (h : CtB w c q ck g R S) (hk : Keeps G w w') (hG : ∀ b, CtF c g R b → G b) : CtB w' c q ck g R S := by
 obtain ⟨r, h1, h2⟩ := h.ex
 exact ⟨h.ok, ⟨r, h1.keep hk (hG c (.inl rfl)), h2.keep (hk.mono fun b _ hb => hG b (.inr (.inr hb)))⟩, h.und.keep hk fun b hb => hG b (.inr hb), fun b hb => Nat.lt_of_lt_of_le (h.lt b hb) hk.size, h.cR, h.gR⟩
theorem CtB.kp (h : CtB w c q ck g R S) (hk : Kp w w') : CtB w' c q ck g R S := h.keep hk fun _ _ => trivial
theorem CtB.flt (h : CtB w c q ck g R S) : ∀ b, CtF c g R b → b < w.heap.size := fun b hb => by
 obtain ⟨r, h1, -⟩ := h.ex
 rcases hb with rfl | hb | hb
 ·exact h1.lt
 ·have hu := h.und
  cases hS : S.und with
  | none => rw [hS] at hu; rw [show g = none from hu] at hb; cases hb
  | some x =>
   rw [hS] at hu
   obtain ⟨k, hk, rt, A, ca, B, cb, C, cc, h2, -⟩ := hu
   rw [hk] at hb
   cases hb
   exact h2.lt
 ·exact h.lt b hb
end
theorem own_formC {w : World} {base n size : Nat} {e : TypeId} {v : Value} {xs : List Value} (h : w.ownsRow base e size v n xs) : ∃ A c, v = .slice A n c ∧ n ≤ c ∧ c ≤ maxLen ∧ (A = none → c = 0) := by
 rcases h.2 with ⟨h', h0⟩ | ⟨g', cap', cur, h', _, _, h1, h2, _⟩
 ·exact ⟨none, 0, by rw [h', h0], by omega, Nat.zero_le _, fun _ => rfl⟩
 ·exact ⟨_, _, h', h1, h2, fun e => by cases e⟩
structure MOwn (B : Nat) (w : World) (v : Value) (ps : List MP) : Prop where
 own : w.ownsRow B 50 21 v ps.length (msRow ps)
 ls : ∀ p ∈ ps, MsIn w p.1 p.2 (fun b => B ≤ b ∧ b < w.heap.size ∧ v.ownBlock ≠ some b)
def MOut (B : Nat) (w : World) (v : Value) (out : List Ms) : Prop := ∃ (ps : List MP) (A : Option Addr) (c : Nat), ps.map (·.1) = out ∧ v = .slice A out.length c ∧ out.length ≤ c ∧ c ≤ maxLen ∧ MsgsAt w A (fun b => B ≤ b ∧ b < w.heap.size) (fun b => B ≤ b ∧ b < w.heap.size) ps
section
variable {B : Nat} {w w' : World} {v v' : Value} {ps : List MP} {m : Ms} {a : MsA}
theorem MOwn.nil (B : Nat) (w : World) : MOwn B w (.slice none 0 0) [] := ⟨World.ownsRow_nil w B _ 21, fun p hp => by cases hp⟩
theorem MOwn.keep (h : MOwn B w v ps) (hk : Kp w w') : MOwn B w' v ps :=
 ⟨hk.own h.own fun _ _ => trivial, fun p hp => ((h.ls p hp).keep (hk.mono fun _ _ _ => trivial)).mono fun _b _ hb => ⟨hb.1, Nat.lt_of_lt_of_le hb.2.1 hk.size, hb.2.2⟩⟩
theorem MOwn.app (h : MOwn B w v ps) (hm : MsIn w m a (fun b => B ≤ b ∧ b < w.heap.size ∧ v.ownBlock ≠ some b)) (ho : w'.ownsRow B 50 21 v' (ps.length + 1) (msRow ps ++ msRow [(m, a)])) (hg : w.grownBy w' v.ownBlock) (hb : v'.ownBlock = v.ownBlock ∨ v'.ownBlock = some w.heap.size) : MOwn B w' v' (ps ++ [(m, a)]) := by
 have hk : Keeps (fun b => B ≤ b ∧ b < w.heap.size ∧ v.ownBlock ≠ some b) w w' := Keeps.of_grown hg fun b hb _ hh => hh.2.2 hb
 have hup : ∀ b, b < w.heap.size → (B ≤ b ∧ b < w.heap.size ∧ v.ownBlock ≠ some b) → (B ≤ b ∧ b < w'.heap.size ∧ v'.ownBlock ≠ some b) := fun b _ hh => ⟨hh.1, Nat.lt_of_lt_of_le hh.2.1 hg.size, fun e => by
  rcases hb with h1 | h1
  ·exact hh.2.2 (by rw [← h1]; exact e)
  ·rw [h1] at e; injection e with e; omega⟩
 refine ⟨?_, fun p hp => ?_⟩
 ·rw [List.length_append, List.length_singleton, msRow_append]; exact ho
 ·have hmo : ∀ {m : Ms} {a : MsA}, MsIn w m a (fun b => B ≤ b ∧ b < w.heap.size ∧ v.ownBlock ≠ some b) → MsIn w' m a (fun b => B ≤ b ∧ b < w'.heap.size ∧ v'.ownBlock ≠ some b) := fun {m a} hh =>
   ((hh.mono fun b hlt hb => hb).keep hk).mono fun b _ hb => hup b hb.2.1 hb
  rcases List.mem_append.1 hp with hp | hp
  ·exact hmo (h.ls p hp)
  ·rw [List.mem_singleton.1 hp]; exact hmo hm
theorem MOwn.lt (h : MOwn B w v ps) : ∀ b, v.ownBlock = some b → B ≤ b ∧ b < w.heap.size := fun b hb => h.own.lt b hb
theorem MOwn.form (h : MOwn B w v ps) : ∃ A c, v = .slice A ps.length c := by
 obtain ⟨A, c, e, -⟩ := own_formC h.own
 exact ⟨A, c, e⟩
theorem MOwn.out (h : MOwn B w v ps) : MOut B w v (ps.map (·.1)) := by
 obtain ⟨A, c, rfl, h1, h2, -⟩ := own_formC h.own
 refine ⟨ps, A, c, rfl, by rw [List.length_map], by rw [List.length_map]; exact h1, h2, ⟨?_, fun p hp => (h.ls p hp).mono fun b _ hb => ⟨hb.1, hb.2.1⟩⟩⟩
 intro hne
 have hl := msRow_len ps
 have h0 : 0 < ps.length := by
  rcases Nat.eq_zero_or_pos ps.length with e | e
  ·have : msRow ps = [] := List.eq_nil_of_length_eq_zero (by omega)
   exact absurd this hne
  ·exact e
 obtain ⟨g, cap, e, hb, hlt⟩ := h.own.form h0
 injection e with e1 e2 e3
 subst e1
 refine ⟨g, 0, rfl, ⟨hb, hlt⟩, fun i v hv => ?_⟩
 have := h.own.cells (g := g) rfl i v hv
 rwa [WideShapes.add_plain] at this
theorem MOut.mono {B' : Nat} {out : List Ms} (h : MOut B w v out) (hb : B' ≤ B) : MOut B' w v out := by
 obtain ⟨ps, A, c, h1, h2, h3, h4, h5⟩ := h
 exact ⟨ps, A, c, h1, h2, h3, h4, ⟨h5.row.mono fun b _ hh => ⟨Nat.le_trans hb hh.1, hh.2⟩, fun p hp => (h5.lists p hp).mono fun b _ hh => ⟨Nat.le_trans hb hh.1, hh.2⟩⟩⟩
theorem MOut.nil (B : Nat) (w : World) : MOut B w (.slice none 0 0) [] := (MOwn.nil B w).out
end
theorem cdown_not (w : World) (c q : Nat) (c1 : w.cell? ⟨c, 1, none⟩ = some (.pointer (some ⟨q, 0, none⟩))) : Calls Tryz.prog 34 #[.pointer (some ⟨c, 0, none⟩)] w fun e w' => e = .returned (.bool false) ∧ w = w' := by
 go_enter Tryz.func34, Tryz.ntmps34
 go_wp2_with fail
 go_ret
 exact ⟨rfl, rfl⟩
section
variable {w : World} {c q : Nat} {ck g : Option Nat} {R : Nat → Prop} {S : CtS}
theorem CtB.down (h : CtB w c q ck g R S) : Calls Tryz.prog 34 #[.pointer (some ⟨c, 0, none⟩)] w fun e w' => e = .returned (.bool false) ∧ w = w' := by
 obtain ⟨r, h1, -⟩ := h.ex
 exact cdown_not w c q h1.c1
theorem CtB.epoch (h : CtB w c q ck g R S) : Calls Tryz.prog 16 #[.pointer (some ⟨c, 0, none⟩)] w fun e w' => e = .returned (.int .i64 S.epoch) ∧ w = w' := by
 have HD := Lib.hid h.down
 obtain ⟨r, h1, -, -, A, cA, B, cB, h2⟩ := h.ex
 have c2 := h1.c2
 have HE := Lib.hid (repoch_any w r S.epoch h2.e0)
 clear h h1 h2
 go_enter Tryz.func16, Tryz.ntmps16
 go_wp2_with fail
 refine (show Calls _ _ _ _ _ from HD.out).mono ?_
 rintro e w1 ⟨rfl, rfl⟩
 go_wp2_with fail
 refine (show Calls _ _ _ _ _ from HE.out).mono ?_
 rintro e w1 ⟨rfl, rfl⟩
 go_wp2_with fail
 go_ret
 exact ⟨rfl, rfl⟩
theorem rnodes_own (w : World) (r : Nat) (F : Nat → Prop) (e : Int) (l : List Int) (A : Option Addr) (c : Nat) (B : Option Addr) (cb : Nat) (h : RgC w r F e l A c B cb) (hl : l.length ≤ 5) :
  Calls Tryz.prog 46 #[.pointer (some ⟨r, 0, none⟩)] w fun x w' => ∃ v, x = .returned v ∧ w'.ownsRow w.heap.size 3 1 v l.length (l.map (Value.int .i64)) ∧ Kp w w' := by
 have HC := Lib.hid (iown_any A c F l w h.row (by omega) l.length rfl)
 have e1 := h.e1
 clear h
 go_enter Tryz.func46, Tryz.ntmps46
 go_wp2_with fail
 refine (show Calls _ _ _ _ _ from HC.out).mono ?_
 rintro x w2 ⟨v, rfl, h1, h2⟩
 have H := Lib.hid (And.intro h1 h2)
 clear h1 h2 HC
 go_wp2_with fail
 go_ret
 exact ⟨v, rfl, H.out⟩
theorem CtB.members (h : CtB w c q ck g R S) : Calls Tryz.prog 21 #[.pointer (some ⟨c, 0, none⟩)] w fun e w' => ∃ v, e = .returned v ∧ w'.ownsRow w.heap.size 3 1 v S.mem.length (S.mem.map (Value.int .i64)) ∧ Kp w w' := by
 have HD := Lib.hid h.down
 obtain ⟨r, h1, -, -, A, cA, B, cB, h2⟩ := h.ex
 have c2 := h1.c2
 have HE := Lib.hid (rnodes_own w r R S.epoch S.mem A cA B cB h2 h.ok.len.2)
 clear h h1 h2
 go_enter Tryz.func21, Tryz.ntmps21
 go_wp2_with fail
 refine (show Calls _ _ _ _ _ from HD.out).mono ?_
 rintro e w1 ⟨rfl, rfl⟩
 go_wp2_with fail
 refine (show Calls _ _ _ _ _ from HE.out).mono ?_
 rintro e w1 ⟨v, rfl, h1, h2⟩
 have H := Lib.hid (And.intro h1 h2)
 clear h1 h2 HE
 go_wp2_with fail
 go_ret
 exact ⟨v, rfl, H.out⟩
theorem CtB.under (h : CtB w c q ck g R S) : Calls Tryz.prog 17 #[.pointer (some ⟨c, 0, none⟩)] w fun e w' => e = .returned (.int .i64 S.underZ) ∧ w = w' := by
 have HD := Lib.hid h.down
 obtain ⟨r, h1, -⟩ := h.ex
 have c4 := h1.c4
 have hu := h.und
 unfold CtS.underZ
 cases hS : S.und with
 | none =>
  rw [hS] at hu
  rw [show g = none from hu] at c4
  have c4' : w.cell? ⟨c, 4, none⟩ = some (.pointer none) := c4
  clear h h1 hu c4
  go_enter Tryz.func17, Tryz.ntmps17
  go_wp2_with fail
  refine (show Calls _ _ _ _ _ from HD.out).mono ?_
  rintro e w1 ⟨rfl, rfl⟩
  go_wp2_with fail
  go_ret
  exact ⟨rfl, rfl⟩
 | some x =>
  rw [hS] at hu
  obtain ⟨k, rfl, rt, A, ca, B, cb, C, cc, h2, ⟨-, -, A1, c1, A2, c2, h3⟩, -⟩ := hu
  have c4' : w.cell? ⟨c, 4, none⟩ = some (.pointer (some ⟨k, 0, none⟩)) := c4
  have k0 := h2.c0
  have HE := Lib.hid (repoch_any w rt x.num h3.e0)
  clear h h1 c4 h2 h3
  go_enter Tryz.func17, Tryz.ntmps17
  go_wp2_with fail
  refine (show Calls _ _ _ _ _ from HD.out).mono ?_
  rintro e w1 ⟨rfl, rfl⟩
  go_wp2_with fail
  refine (show Calls _ _ _ _ _ from HE.out).mono ?_
  rintro e w1 ⟨rfl, rfl⟩
  go_wp2_with fail
  go_ret
  exact ⟨rfl, rfl⟩
set_option maxRecDepth 100000 in
set_option maxHeartbeats 1000000 in
theorem abort_any (w : World) (n num : Int) : Calls Tryz.prog 45 #[.int .i64 n, .int .i64 num] w fun e w' => e = .returned (msV (abortM n num) msA0) ∧ Kp w w' := by
 obtain ⟨vT, hvT⟩ : ∃ v, msV (abortM n num) msA0 = v := ⟨_, rfl⟩
 have HV := Lib.hid hvT
 rw [hvT]
 clear hvT
 go_enter Tryz.func45, Tryz.ntmps45
 go_wp2_with (first
  | (refine list_allocM rfl rfl ?_; intro w1 hb1 hk1 hs1)
  | (refine list_buildM rfl _ rfl vT (by rw [← HV.out]; kernel_rfl) ?_)
  | (refine list_storeM rfl (.tmp 4) (.tmp 7) rfl _ ms0 (abortM n num) msA0 msA0 hb1 rfl HV.out.symm ?_; intro w2 hb2 hk2 hs2))
 refine bodyPost_ret (v := vT) (results_cell rfl rfl (by rw [← HV.out]; exact run_loadM hb2)) rfl ?_
 exact ⟨rfl, kp_behind hk1 hk2 (Nat.le_refl _)⟩
theorem tell_in {B : Nat} {w : World} {v : Value} {k n e t : Int} {l : List Int} (h : w.ownsRow B 3 1 v l.length (l.map (Value.int .i64))) : ∃ a, v = .slice a.ba l.length a.bc ∧ a = ⟨none, 0, none, 0, a.ba, a.bc, none, 0⟩ ∧ MsIn w (tellM k n e t l) a (fun b => B ≤ b ∧ b < w.heap.size) := by
 obtain ⟨A, cA, rfl, -, hrow⟩ := own_slice h
 obtain ⟨h1, h2, h3⟩ := own_cap h
 refine ⟨⟨none, 0, none, 0, A, cA, none, 0⟩, rfl, rfl, ⟨ItsAt.nil _ _ _, MksAt.nil _ _ _, hrow, Row.nil _ _ _, ⟨Nat.le_refl _, Nat.zero_le _⟩, ⟨Nat.le_refl _, Nat.zero_le _⟩, ⟨h1, h2, h3⟩, ⟨Nat.le_refl _, Nat.zero_le _, fun _ => rfl⟩⟩⟩
set_option maxRecDepth 100000 in
set_option maxHeartbeats 1000000 in
theorem CtB.tell (h : CtB w c q ck g R S) (k n : Int) : Calls Tryz.prog 68 #[.pointer (some ⟨c, 0, none⟩), .int .i64 k, .int .i64 n] w fun e w' => ∃ a, e = .returned (msV (tellM k n S.epoch 0 S.mem) a) ∧ MsIn w' (tellM k n S.epoch 0 S.mem) a (fun b => w.heap.size ≤ b ∧ b < w'.heap.size) ∧ Kp w w' := by
 have HE := Lib.hid (fun w1 (hk : Kp w w1) => (h.kp hk).epoch)
 have HM := Lib.hid (fun w1 (hk : Kp w w1) => (h.kp hk).members)
 clear h
 go_enter Tryz.func68, Tryz.ntmps68
 go_upto_region 1 with (refine list_allocM rfl rfl ?_; intro w1 hb1 hk1 hs1)
 obtain ⟨gg, hg⟩ : ∃ gg, w.heap.size = gg := ⟨_, rfl⟩
 rw [hg] at hb1 hs1 ⊢
 have HB := Lib.hid hb1
 have HK := Lib.hid hk1
 have HG := Lib.hid hg
 clear hb1 hk1 hg
 go_wp2_with fail
 refine (show Calls _ _ _ _ _ from HE.out _ HK.out).mono ?_
 rintro e w2 ⟨rfl, rfl⟩
 go_wp2_with fail
 refine (show Calls _ _ _ _ _ from HM.out _ HK.out).mono ?_
 rintro e w2 ⟨v, rfl, ho, hk⟩
 obtain ⟨a, e1, e2, hin⟩ := tell_in (k := k) (n := n) (e := S.epoch) (t := 0) ho
 obtain ⟨vT, hvT⟩ : ∃ v, msV (tellM k n S.epoch 0 S.mem) a = v := ⟨_, rfl⟩
 have HV := Lib.hid hvT
 have HIN := Lib.hid hin
 have HB2 := Lib.hid (HB.out.kp hk)
 have HK2 := Lib.hid (HK.out.trans hk)
 have HE2 := Lib.hid e2
 subst e1
 have hsz := hk.size
 clear ho hk hin hvT HM HE HB HK e2
 go_wp2_with (first
  | (refine list_buildM rfl _ rfl vT (by rw [← HV.out, HE2.out]; kernel_rfl) ?_)
  | (refine list_storeM rfl (.tmp 6) (.tmp 13) rfl gg ms0 (tellM k n S.epoch 0 S.mem) msA0 a HB2.out rfl HV.out.symm ?_; intro w3 hb3 hk3 hs3))
 refine bodyPost_ret (v := vT) (results_cell rfl rfl (by rw [← HV.out]; exact run_loadM hb3)) rfl ?_
 refine ⟨a, by rw [HV.out], (HIN.out.keep (hk3.mono fun b _ hb => by omega)).mono fun b _ hb => ⟨by have := HG.out; omega, by omega⟩, kp_behind HK2.out hk3 (by rw [HG.out]; exact Nat.le_refl _)⟩
end
end Go.Proofs.YtemkjodkmehffaaGreatDoor
