/-
  StoreKillsWalk: texts of mine, joined.
-/
import Derived.Test.YticophaepapjoaaGreatDoorAllA35
import Derived.Test.YticophaepapjoaaGreatDoorAllA34
import Derived.Test.YticophaepapjoaaGreatDoorAllA24
import Derived.BigQuiet
import Derived.Deep.QuietTactic
namespace Go.Proofs.YticophaepapjoaaGreatDoor.storeKills
open Go Go.RowKit Go.Joins
theorem src_name (W : World) (s : ByteArray) : Src Tryz.prog 1 30 (.slice (some ⟨W.heap.size, 0, none⟩) 1 1) 1 [.string s] (W.alloc (.cells #[.string s] 9)) :=
 src_one Tryz.underlying30 W (.string s) 9 rfl W.heap.size rfl 1
theorem turn (z : Int) (N : Nat) (h1 : 1 ≤ N) (h2 : N ≤ 12) : ∃ (t : Int) (k : Nat), z.tmod (N : Int) = t ∧ -12 ≤ t ∧ t ≤ 12 ∧ (t + (N : Int)).tmod (N : Int) = (k : Int) ∧ k < N := by
 have a1 := Int.tmod_lt_of_pos z (show (0 : Int) < (N : Int) by omega)
 have a2 := Int.tmod_lt_of_pos (-z) (show (0 : Int) < (N : Int) by omega)
 rw [Int.neg_tmod] at a2
 have a3 := Int.emod_nonneg (z.tmod (N : Int) + (N : Int)) (show (N : Int) ≠ 0 by omega)
 have a4 := Int.emod_lt_of_pos (z.tmod (N : Int) + (N : Int)) (show (0 : Int) < (N : Int) by omega)
 exact ⟨z.tmod (N : Int), ((z.tmod (N : Int) + (N : Int)) % (N : Int)).toNat, rfl, by omega, by omega, by rw [Int.tmod_eq_emod_of_nonneg (by omega)]; omega, by omega⟩
set_option maxRecDepth 100000 in
set_option maxHeartbeats 1000000 in
theorem name_any (w : World) (i : Nat) (hi : i ≤ 100) (z : Int) (hz : z = (i : Int)) :
  Calls Tryz.prog 32 #[.int .i64 z] w fun e w' => e = .returned (.string (sname i)) ∧ Kp w w' := by
 subst hz
 have e97 : ((97 + i : Nat) : Int) = 97 + (i : Int) := by omega
 have kc : ∀ fr : Nat × Nat, (convert 64 9 (.slice (some ⟨w.heap.size, 0, none⟩) 2 2)).run Tryz.prog (w.alloc (.cells #[Value.int .u8 107, .int .u8 (97 + (i : Int))] 5 fr)) = .ok (.string (sname i)) (w.alloc (.cells #[Value.int .u8 107, .int .u8 (97 + (i : Int))] 5 fr)) := fun fr =>
  (Row.fresh (F := fun _ => True) w _ 5 fr _ rfl trivial (bcells (snameL i)) (by rw [← snameV_is i hi, e97])).to_string Tryz.underlying64 Tryz.underlying5 Tryz.underlying9 2 2 rfl
 clear e97
 go_enter Tryz.func32, Tryz.ntmps32
 go_wp2_with fail
 go_ret
 exact ⟨rfl, (Keeps.refl _ _).alloc _⟩
section
variable {o : Oper} {a : Act} {w : World} {Q : Exit → Act → World → Prop} {x y : Operand}
theorem kp_atT {b f n c i : Nat} (hi : i < n) (ho : o.op = .indexAddr 30 x y) (hx : a.eval x = .slice (some ⟨b, f, none⟩) n c) (hy : a.eval y = .int .i64 (i : Int)) :
  o.wp Tryz.prog a w (fun a' w' => ∃ v, a' = a.put o.dst v ∧ Kp w w' ∧ IsV (.pointer (some ⟨b, f + i, none⟩)) w' v) Q := by
 refine kp_yield (v := .pointer (some ⟨b, f + i, none⟩)) (w' := w) ?_ (Keeps.refl _ _) rfl
 generalize a.eval = ρ at hx hy ⊢
 unfold execOp
 go_simp
theorem kp_nameF {i : Nat} (hi : i ≤ 100) (ho : o.op = .call { callee := .value x, args := #[y], argTypes := #[3] }) (hx : a.eval x = .func (.func 32) #[] #[]) (hy : a.eval y = .int .i64 (i : Int)) :
  o.wp Tryz.prog a w (fun a' w' => ∃ v, a' = a.put o.dst v ∧ Kp w w' ∧ IsV (.string (sname i)) w' v) Q := by
 refine kp_enter (f := 32) (args := #[.int .i64 (i : Int)]) ?_ (name_any w i hi _ rfl) ?_
 ·generalize a.eval = ρ at hx hy ⊢
  unfold execOp
  rw [ho]
  go_simp
 ·rintro e w' ⟨rfl, hk⟩
  exact ⟨_, rfl, hk, rfl⟩
theorem kp_ext0 {u v : Value} (ho : o.op = .extract x 0) (hx : a.eval x = .tuple #[u, v]) : o.wp Tryz.prog a w (fun a' w' => ∃ v', a' = a.put o.dst v' ∧ Kp w w' ∧ IsV u w' v') Q := by
 refine kp_yield (v := u) (w' := w) ?_ (Keeps.refl _ _) rfl
 generalize a.eval = ρ at hx ⊢
 unfold execOp
 rw [ho]
 go_simp
theorem kp_ext1 {u v : Value} (ho : o.op = .extract x 1) (hx : a.eval x = .tuple #[u, v]) : o.wp Tryz.prog a w (fun a' w' => ∃ v', a' = a.put o.dst v' ∧ Kp w w' ∧ IsV v w' v') Q := by
 refine kp_yield (v := v) (w' := w) ?_ (Keeps.refl _ _) rfl
 generalize a.eval = ρ at hx ⊢
 unfold execOp
 rw [ho]
 go_simp
theorem kp_asg {v : Value} (ho : o.op = .assign x) (hx : a.eval x = v) : o.wp Tryz.prog a w (fun a' w' => ∃ v', a' = a.put o.dst v' ∧ Kp w w' ∧ IsV v w' v') Q := by
 refine kp_yield (v := v) (w' := w) ?_ (Keeps.refl _ _) rfl
 unfold execOp
 rw [ho]
 simp [hx]
end
section
variable {S : FlashOK} {J : JournalOK} {W w : World} {p b q1 q2 kk n d : Nat} {z : Sto} {X : Nat → Prop} {o : Oper} {a : Act} {Q : Exit → Act → World → Prop} {x y : Operand}
theorem kp_getC {key s1 s2 : ByteArray} {r : Bool} (hT : S.T W) (h : StAt S J W w p b q1 q2 kk z n d X) (hk : key.size ≤ 1000000) (he : Ending.returned (.tuple #[.agg #[.string s1, .string s2, .int .i64 0, .bool false], .bool r]) = getE z.f key 0)
  (ho : o.op = .call { callee := .value (.func 25), args := #[x, y, .const (.int .i64 0)], argTypes := #[34, 9, 2] }) (hx : a.eval x = .pointer (some ⟨q1, 0, none⟩)) (hy : a.eval y = .string key) :
  o.wp Tryz.prog a w (fun a' w' => ∃ v, a' = a.put o.dst v ∧ Kp w w' ∧ IsV (.tuple #[.agg #[.string s1, .string s2, .int .i64 0, .bool false], .bool r]) w' v) Q := by
 have hf : a.eval (.func 25) = .func (.func 25) #[] #[] := rfl
 have h0 : a.eval (.const (.int .i64 0)) = .int .i64 0 := rfl
 refine kp_enter (f := 25) (args := #[.pointer (some ⟨q1, 0, none⟩), .string key, .int .i64 0]) ?_ (so_get hT h key 0 hk (by decide) (by decide) _ he) ?_
 ·clear h he
  generalize a.eval = ρ at hx hy hf h0 ⊢
  unfold execOp
  rw [ho]
  go_simp
 ·rintro e w' ⟨rfl, hk2, -⟩
  exact ⟨_, rfl, hk2, rfl⟩
end
def VP (b q1 i : Nat) : Nat → World → Value → Prop
 | 3 => IsV (.pointer (some ⟨q1, 0, none⟩))
 | 4 => IsV (.func (.func 32) #[] #[])
 | 5 => IsV (.int .i64 (i : Int))
 | 6 => IsV (.string (sname i))
 | 7 => IsV (.agg #[.string (sname i), .string { data := #[118] }, .int .i64 0, .bool false])
 | 8 => IsV (.int .i64 0)
 | _ => IsV (.pointer (some ⟨b, 0, none⟩))
theorem VP_keep {b q1 i : Nat} (j : Nat) (w w' : World) (v : Value) (hv : VP b q1 i j w v) : VP b q1 i j w' v := by
 unfold VP at hv ⊢
 split at hv <;> exact hv
def LM (bm om cm bl ol cl j k : Nat) (sk : ByteArray) : List Value := [.slice (some ⟨bm, om, none⟩) j cm, .int .i64 (k : Int), .pointer (some ⟨bm, om + k * 2, none⟩), .pointer (some ⟨bm, om + k * 2 + 1, none⟩), .string sk, .slice (some ⟨bl, ol, none⟩) j cl, .int .i64 (k : Int), .pointer (some ⟨bl, ol + k, none⟩), .string sk, .bool false, .bool false,
 .slice (some ⟨bm, om, none⟩) j cm, .int .i64 (k : Int), .pointer (some ⟨bm, om + k * 2, none⟩), .pointer (some ⟨bm, om + k * 2, none⟩), .int .i64 ((k + 1 : Nat) : Int), .int .i64 (k : Int), .int .i64 ((k + 1 : Nat) : Int), .bool false, .bool false]
def GM : Nat → Option Bool
 | 10 => some false
 | _ => none
theorem GM_is (bm om cm bl ol cl j k : Nat) (sk : ByteArray) (g : Nat) (c : Bool) (h : GM g = some c) (w : World) (v : Value) (hv : IsV ((LM bm om cm bl ol cl j k sk).getD g undef) w v) : v = .bool c := by
 match g, h with
 | 10, h => cases h; exact hv
def VG (g b q1 i : Nat) (s1 s2 : ByteArray) (r : Bool) : Nat → World → Value → Prop
 | 3 => IsV (.pointer (some ⟨q1, 0, none⟩))
 | 4 => IsV (.func (.func 32) #[] #[])
 | 5 => IsV (.int .i64 (i : Int))
 | 6 => IsV (.string (sname i))
 | 7 => IsV (.tuple #[.agg #[.string s1, .string s2, .int .i64 0, .bool false], .bool r])
 | 8 => IsV (.tuple #[.agg #[.string s1, .string s2, .int .i64 0, .bool false], .bool r])
 | 9 => IsV (.agg #[.string s1, .string s2, .int .i64 0, .bool false])
 | 10 => IsV (.bool r)
 | 11 => NewIt g
 | 12 => fun _ _ => True
 | 13 => IsV (.bool r)
 | _ => IsV (.pointer (some ⟨b, 0, none⟩))
theorem VG_keep {g b q1 i : Nat} {s1 s2 : ByteArray} {r : Bool} (j : Nat) (w w' : World) (v : Value) (h : Rg g w w') (hv : VG g b q1 i s1 s2 r j w v) : VG g b q1 i s1 s2 r j w' v := by
 unfold VG at hv ⊢
 split at hv
 all_goals first | exact NewIt.keep h hv | exact hv
theorem told_S (pl sg a n : Nat) (js : List Nat) (i : Nat) (hn : n ≤ 100) (hi : i < n) (hj : ∀ j ∈ js, j < n) : ∃ (s1 s2 : ByteArray) (r : Bool), decide (i ∈ js) = !r ∧
  Ending.returned (.tuple #[.agg #[.string s1, .string s2, .int .i64 0, .bool false], .bool r]) = getE ⟨pl, sg, numS n ++ gravesS js, 0, a⟩ (sname i) 0 := by
 by_cases h : i ∈ js
 ·exact ⟨_, _, false, by simpa using h, by rw [getE_S pl sg a n js i hn hi hj, if_pos h]⟩
 ·exact ⟨_, _, true, by simpa using h, by rw [getE_S pl sg a n js i hn hi hj, if_neg h]⟩
def zP (i u c : Nat) : Sto := ⟨⟨162, segsOf 400, numS i, u, i + 1⟩, ⟨2, 20, [], 0, 32, 1⟩, 2, ⟨1, 0, 0, false⟩, 1, c⟩
def InP (S : FlashOK) (J : JournalOK) (W w : World) (p b q1 q2 k i : Nat) : Prop := ∃ (u c d : Nat), StAt S J W w p b q1 q2 k (zP i u c) 400 d (fun _ => False) ∧ c ≤ 10000 + 2000 * i
def GetSt (S : FlashOK) (J : JournalOK) (W : World) (p b q1 q2 k : Nat) (z : Sto) (g0 g n : Nat) (js : List Nat) (w : World) : Prop :=
 g0 ≤ w.heap.size ∧ W.heap.size ≤ g0 ∧ g < g0 ∧ GoneAt w g n js ∧ StAt S J W w p b q1 q2 k z 400 2 (fun x => x = g ∨ (g0 ≤ x ∧ x < w.heap.size))
theorem GetSt.keep {S : FlashOK} {J : JournalOK} {W w w' : World} {p b q1 q2 k g0 g n : Nat} {z : Sto} {js : List Nat} (hk : Kp w w') (h : GetSt S J W p b q1 q2 k z g0 g n js w) : GetSt S J W p b q1 q2 k z g0 g n js w' := by
 have hs := hk.size
 obtain ⟨h1, h2, h3, h4, h5⟩ := h
 refine ⟨by omega, h2, h3, h4.keep hk trivial, h5.more hk fun c hc => ?_⟩
 rcases hc with hc | hc
 ·exact .inl (.inl hc)
 ·by_cases h6 : c < w.heap.size
  ·exact .inl (.inr ⟨hc.1, h6⟩)
  ·exact .inr ⟨by omega, hc.2⟩
theorem GetSt.store {S : FlashOK} {J : JournalOK} {W w w' : World} {p b q1 q2 k g0 g n B : Nat} {z : Sto} {js : List Nat} (h : GetSt S J W p b q1 q2 k z g0 g n js w) (hk : Keeps (fun c => c ≠ B) w w') (hB : g0 ≤ B) (hs : w'.heap.size = w.heap.size) : GetSt S J W p b q1 q2 k z g0 g n js w' := by
 obtain ⟨h1, h2, h3, h4, h5⟩ := h
 refine ⟨by omega, h2, h3, h4.keep hk (by omega), ?_⟩
 rw [hs]
 refine h5.own hk fun c hc hn => ?_
 have : c = B := Classical.byContradiction hn
 subst this
 exact ⟨.inr ⟨hB, hc⟩, by omega⟩
set_option maxRecDepth 100000 in
set_option maxHeartbeats 4000000 in
theorem walk (S : FlashOK) (J : JournalOK) (w : World) (hS : S.T w) (hJ : J.T w) (hT : theSup.T w) (n : Int) (_ : -9223372036854775808 ≤ n) (_ : n < 9223372036854775808) (D : Option Addr) (dc : Nat) (drop : List Int) (hdl : drop.length ≤ dc) (hdc : dc ≤ maxLen) (hD : Row w D (fun b => b < w.heap.size) (drop.map (Value.int .i64))) (hDf : ∀ z ∈ drop, -9223372036854775808 ≤ z ∧ z ≤ 9223372036854775807) :
  Calls Tryz.prog 8 #[.int .i64 n, .slice D drop.length dc] w fun e w' => e = .returned (.bool true) ∧ Below w.heap.size w w' := by
 have HS := Lib.hid hS
 have HJ := Lib.hid hJ
 have HT := Lib.hid hT
 have HD := Lib.hid hD
 have HDF := Lib.hid hDf
 obtain ⟨dl, hl1⟩ : ∃ dl, drop.length = dl := ⟨_, rfl⟩
 have HDL := Lib.hid hl1
 have hdm : dl ≤ 9223372036854775807 := by unfold maxLen at hdc; omega
 rw [hl1] at hdl ⊢
 clear hS hJ hT hD hDf hl1 hdl hdc
 have hcs : (decide (n < 1) = true) ∨ (decide (n < 1) = false ∧ decide (10 < n) = true) ∨ (decide (n < 1) = false ∧ decide (10 < n) = false) := by
  cases decide (n < 1) <;> cases decide (10 < n) <;> simp
 go_enter Tryz.func8, Tryz.ntmps8
 go_wp2_with fail
 refine (show Calls _ _ _ _ _ from begun21 S J w HS.out HJ.out HT.out).mono ?_
 rintro e w1 ⟨rfl, hk⟩
 have K1 := Lib.hid hk
 clear hk
 rcases hcs with c1 | ⟨c1, c2⟩ | ⟨c1, c2⟩
 ·go_wp2_with fail
  go_ret
  exact ⟨rfl, K1.out.below⟩
 ·go_wp2_with fail
  go_ret
  exact ⟨rfl, K1.out.below⟩
 ·have n1 : 1 ≤ n := by have := of_decide_eq_false c1; omega
  have n2 : n ≤ 10 := by have := of_decide_eq_false c2; omega
  obtain ⟨N, rfl⟩ : ∃ N : Nat, n = (N : Int) := ⟨n.toNat, by omega⟩
  have n3 : N ≤ 10 := by omega
  have n4 : 1 ≤ N := by omega
  clear n1 n2
  go_wp2_with fail
  refine (show Calls _ _ _ _ _ from fo_dev (X := fun _ => False) K1.out (fun _ h => h.elim) 400 (by decide) (by decide) 400 rfl).mono ?_
  rintro e w2 ⟨p, rfl, hB, -⟩
  have HB := Lib.hid hB.dev
  clear hB K1 c1 c2
  go_wp2_with fail
  refine (show Calls _ _ _ _ _ from so_make HS.out HJ.out HT.out HB.out (by decide) (by decide)).mono ?_
  rintro e w3 ⟨b, q1, q2, kk, c, rfl, hat, hc, -⟩
  have HA := Lib.hid (show InP S J w w3 p b q1 q2 kk 0 from ⟨0, c, 1, hat, by omega⟩)
  clear hat hc HB
  go_wp2_with fail
  go_loopw [9] (fun i wr => ∃ j : Nat, j ≤ N ∧ i = .int .i64 (j : Int) ∧ Hid (InP S J w wr p b q1 q2 kk j)) (fun i _ => N - (intOf i).toNat)
  case atStart => exact ⟨0, Nat.zero_le _, rfl, HA⟩
  case round =>
   clear HA
   obtain ⟨j, hj, rfl, HA⟩ := hrel
   by_cases hl : j < N
   ·have hl' : (j : Int) < (N : Int) := by omega
    obtain ⟨u, c, d, hat, hc⟩ := HA.out
    have HC := Lib.hid hc
    have HST := Lib.hid (PutSt.start (x := sItem j) hat)
    clear hat hc HA
    go_wp2_with fail
    refine wp_region_one (V := VP b q1 j) (w0 := wr) 8 (PutSt S J w p b q1 q2 kk (zP j u c) 400 wr.heap.size (sItem j) (fun _ => False)) (fun _ _ => True) (fun _ => none) (by kernel_rfl) (fun i w w' v _ hv => VP_keep i w w' v hv) (fun _ _ _ h hs => hs.keep h) (fun i _ w w' v _ hv => VP_keep i w w' v hv) (by kernel_rfl) (by decide) (fun _ _ h => by cases h) (fun i o ho hw => (all_wanted (by kernel_rfl) ho hw).elim) HST.out (each_of ?_) ?_
    ·refine ⟨?_, ?_, ?_, ?_, ?_, ?_, ?_, ?_, ?_, trivial⟩ <;> intro hw a1 w2 L
     ·rw [if_neg (by decide)]
      intro t hs _
      exact kp_move rfl (L.old 6 (by kernel_rfl))
     ·rw [if_neg (by decide)]
      intro t hs _
      exact kp_nilM rfl (L.val 0 42 (by kernel_rfl) (by kernel_rfl))
     ·rw [if_neg (by decide)]
      intro t hs _
      exact kp_st0 rfl (L.val 1 43 (by kernel_rfl) (by kernel_rfl))
     ·rw [if_neg (by decide)]
      intro t hs _
      exact kp_ldC hs.c0 rfl (L.val 2 44 (by kernel_rfl) (by kernel_rfl))
     ·rw [if_neg (by decide)]
      intro t hs _
      exact kp_move rfl (L.old 8 (by kernel_rfl))
     ·rw [if_neg (by decide)]
      intro t hs _
      exact kp_move rfl (L.old 9 (by kernel_rfl))
     ·rw [if_neg (by decide)]
      intro t hs _
      exact kp_nameF (by omega) rfl (L.val 4 46 (by kernel_rfl) (by kernel_rfl)) (L.val 5 47 (by kernel_rfl) (by kernel_rfl))
     ·rw [if_neg (by decide)]
      intro t hs _
      exact kp_item rfl (L.val 6 48 (by kernel_rfl) (by kernel_rfl))
     ·rw [if_pos rfl]
      intro hs
      have hf : a1.eval (.func 14) = .func (.func 14) #[] #[] := rfl
      have e0 : a1.eval (.tmp 45) = .pointer (some ⟨q1, 0, none⟩) := L.val 3 45 (by kernel_rfl) (by kernel_rfl)
      have e1 : a1.eval (.tmp 49) = .agg #[.string (sname j), .string { data := #[118] }, .int .i64 0, .bool false] := L.val 7 49 (by kernel_rfl) (by kernel_rfl)
      obtain ⟨hgw, d, hat⟩ := hs
      refine one_enter (f := 14) (args := #[.pointer (some ⟨q1, 0, none⟩), .agg #[.string (sname j), .string { data := #[118] }, .int .i64 0, .bool false]]) ?_ (so_put HS.out hat (by show j + 1 ≤ 20000; omega) (by show c ≤ _; have := HC.out; omega) (sItem j) (sItem_may j) rfl) ?_
      ·clear hat
       generalize sname j = sj at e1 ⊢
       generalize a1.eval = ρ at e0 e1 hf ⊢
       unfold execOp
       go_simp
      ·rintro e w' ⟨rfl, u2, hu, hat', hk'⟩
       have hsz := hk'.size
       exact ⟨_, rfl, trivial, ⟨by omega, u2, hu, hat'.less fun c hc => hc.elim⟩, rfl⟩
    ·intro vs w8 hs8 hlen hv
     match vs, hlen with
     | [v0, v1, v2, v3, v4, v5, v6, v7, v8], _ =>
      clear hv
      obtain ⟨-, u2, -, hat⟩ := hs8
      have HA8 := Lib.hid (show InP S J w w8 p b q1 q2 kk (j + 1) from ⟨u2, c + 2000, 0, by unfold zP; rw [numS_succ]; exact hat, by have := HC.out; omega⟩)
      clear hat HST hlen HC
      simp only [putAll, List.map, Act.put, List.setIfInBounds_toArray, List.set_cons_succ, List.set_cons_zero]
      go_wp2_with fail
      go_roundw
      case rel => exact ⟨j + 1, by omega, by go_num, HA8⟩
      case measure => simp [intOf]; omega
   ·obtain rfl : N = j := by omega
    have hl' : ¬ (N : Int) < (N : Int) := by omega
    obtain ⟨u, c, d, hat, hc⟩ := HA.out
    have HC := Lib.hid hc
    have HF := Lib.hid hat
    clear hat hc HA
    go_wp2_with (refine list_make rfl (.tmp 51) (.tmp 51) 41 rfl bool_elem .i64 .i64 N rfl rfl (by omega) (by unfold maxLen; omega) (goneL N []) (made_gone N) ?_)
    intro w4 hown hg4
    have hk4 : Keeps (fun _ => True) wr w4 := Keeps.of_grown hg4 (fun _ h => by cases h)
    have hlt4 : wr.heap.size < w4.heap.size := by
     have := hown.lt
     exact (this wr.heap.size rfl).2
    have HSI := Lib.hid (show Sit S J w w4 p b q1 q2 kk (zP N u c) d w4.heap.size wr.heap.size N [] [] none 0 from
     ⟨so_apart (HF.out.more (Keeps.refl _ wr) fun b hb => .inr hb) (hk4.mono fun _ _ _ => trivial) HF.out.kp.size, hown, World.ownsRow_nil _ _ _ _, HF.out.kp.size, hlt4, Nat.le_refl _⟩)
    clear hown hg4 hk4 hlt4 HF
    generalize wr.heap.size = g at HSI ⊢
    obtain ⟨B, hB⟩ : ∃ B, w4.heap.size = B := ⟨_, rfl⟩
    rw [hB] at HSI
    clear hB
    go_wp2_with fail
    go_loopw [10, 12] (fun v i wr => ∃ (j : Nat) (js : List Nat) (A : Option Addr) (c2 : Nat), j ≤ dl ∧ j ≤ 5 ∧ i = .int .i64 (j : Int) ∧ v = .slice A j c2 ∧ Hid (js.length = j ∧ ∀ i ∈ js, i < N) ∧ Hid (Sit S J w wr p b q1 q2 kk (zP N u c) d B g N js js A c2)) (fun _ i _ => 5 - (intOf i).toNat)
    case atStart => exact ⟨0, [], none, 0, Nat.zero_le _, by decide, rfl, rfl, Lib.hid ⟨rfl, fun _ h => by cases h⟩, HSI⟩
    case round =>
     clear HSI
     obtain ⟨j, js, A, c2, hj1, hj2, rfl, rfl, HJS, HSI⟩ := hrel
     have hc2 : (j < dl ∧ j < 5) ∨ (j < dl ∧ ¬ j < 5) ∨ ¬ j < dl := by omega
     rcases hc2 with ⟨t1, t2⟩ | ⟨t1, t2⟩ | t1
     case inl =>
      have t1' : (j : Int) < (dl : Int) := by omega
      have t2' : (j : Int) < 5 := by omega
      have hjd : j < drop.length := by rw [HDL.out]; exact t1
      obtain ⟨bd, o, rfl, -, hc⟩ := (HD.out.keep (HSI.out.fo.kp.mono fun _ _ _ => trivial)).at_ (k := j) (by rw [List.length_map]; exact hjd)
      rw [List.getElem_map] at hc
      obtain ⟨z1, z2⟩ := HDF.out _ (List.getElem_mem hjd)
      generalize drop[j] = z at hc z1 z2
      obtain ⟨t, k, ht, hr1, hr2, hrk, hkN⟩ := turn z N n4 (by omega)
      have HR1 := Lib.hid ht
      have HR2 := Lib.hid hrk
      have HKN := Lib.hid hkN
      have HN1 := Lib.hid (show (1 : Int) ≤ (N : Int) by omega)
      have HN2 := Lib.hid (show (N : Int) ≤ 12 by omega)
      have HK2 := Lib.hid (show (-12 : Int) ≤ (k : Int) ∧ (k : Int) ≤ 12 by omega)
      clear z1 z2 hjd ht hrk
      have hkN' : k < N := HKN.out
      go_wp2_with (first | refine list_rem rfl (.tmp 66) (.tmp 67) z (N : Int) t rfl rfl rfl HN1.out HN2.out HR1.out hr1 hr2 ?_ | refine list_rem rfl (.tmp 70) (.tmp 71) (t + (N : Int)) (N : Int) (k : Int) rfl rfl rfl HN1.out HN2.out HR2.out HK2.out.1 HK2.out.2 ?_)
      refine (show Calls _ _ _ _ _ from name_any _ k (by omega) _ rfl).mono ?_
      rintro e w6 ⟨rfl, hk6⟩
      have HS6 := Lib.hid (HSI.out.keep hk6)
      clear HSI hc hk6
      have HJ6 := Lib.hid (show (js ++ [k]).length = j + 1 ∧ ∀ i ∈ js ++ [k], i < N from ⟨by rw [List.length_append, HJS.out.1]; rfl, fun i hi => by
       rcases List.mem_append.1 hi with h | h
       ·exact HJS.out.2 i h
       ·rw [List.mem_singleton.1 h]; exact HKN.out⟩)
      have HA6 := Lib.hid (HS6.out.keep ((Keeps.refl _ w6).alloc (.cells #[.string (sname k)] 9)))
      have HROW := Lib.hid (show (w6.alloc (.cells #[.string (sname k)] 9)).ownsRow B 9 1 (.slice A j c2) j (nameL js) from by have h := HA6.out.l; rw [HJS.out.1] at h; exact h)
      have HSRC := Lib.hid (src_name w6 (sname k))
      have HBH := Lib.hid (show B ≤ (w6.alloc (.cells #[.string (sname k)] 9)).heap.size from HA6.out.hi)
      go_wp2_with (at_builtin; refine str_elem.list_append rfl (.tmp 73) (.tmp 77) _ rfl rfl HROW.out rfl HSRC.out ?c3 ?c4 HBH.out ?_)
      case c3 => unfold maxLen; omega
      case c4 => omega
      intro v7 w7 ho7 hg7 hb7
      obtain ⟨A7, c7, rfl, hs7⟩ := HA6.out.app (k := k) (by rw [HJS.out.1]; exact ho7) (by rw [HJS.out.1]; exact hg7)
      rw [HJS.out.1]
      have hcg := hs7.at_ HKN.out
      have hfz := hs7.gone.frozenAt k
      have HS8 := Lib.hid (hs7.store k)
      clear ho7 hg7 hb7 hs7 HROW HSRC HBH HA6 HS6 HJS
      go_wp2_with fail
      go_roundw
      case rel => exact ⟨j + 1, js ++ [k], A7, c7, by omega, by omega, by go_num, rfl, HJ6, HS8⟩
      case measure => simp [intOf]; omega
     all_goals (try have t1' : (j : Int) < (dl : Int) := by omega)
     all_goals (try have t2' : ¬ (j : Int) < 5 := by omega)
     all_goals (try have t1' : ¬ (j : Int) < (dl : Int) := by omega)
     all_goals (
      have hjl : js.length = j := HJS.out.1
      have hln : (js.map sname).length = j := by rw [List.length_map, hjl]
      go_wp2_with fail
      obtain ⟨hrow, hc1, hc2⟩ := HSI.out.row
      refine (show Calls _ _ _ _ _ from so_kill HS.out HJ.out HSI.out.fo (by show N + 1 ≤ 20000; omega) (by show 1 ≤ 20000; decide) (by show c ≤ 300000000000; have := HC.out; omega) A (js.map sname) hrow c2 j hln.symm (by rw [← hjl]; exact hc1) hc2 (by omega) (names_ok js) (j : Int) (by show (j : Int) = ((0 + (js.map sname).length : Nat) : Int); rw [hln]; omega)).mono ?_
      rintro e w4 ⟨rfl, g5, u5, -, -, hat, hk4⟩
      have hg0 : g5 = 0 := hat.wf.1.whole (cost_S N js n3 (by omega))
      have hu0 : u5 = 0 := by
       have h : u5 ≤ ([] ++ js.map sname).length - 32 := hat.wf.2.1.base
       rw [List.nil_append, hln] at h
       omega
      subst hg0 hu0
      have hXg : g ≤ g ∧ g < wr.heap.size := ⟨Nat.le_refl _, by have h1 := HSI.out.mid; have h2 := HSI.out.hi; omega⟩
      have HGA := Lib.hid ((show GoneAt wr g N js from fun i hi => HSI.out.at_ hi).keep hk4 hXg)
      have HRW := Lib.hid ((hrow.keep hk4).mono fun _ _ _ => trivial)
      have HC12 := Lib.hid (And.intro hc1 hc2)
      obtain ⟨zk, hzk⟩ : ∃ zk, killed (zP N u c) (js.map sname) 0 0 = zk := ⟨_, rfl⟩
      rw [hzk] at hat
      have HZK := Lib.hid hzk
      have HF4 := Lib.hid (hat.less (Y := fun x => x = g) fun x hx => by subst hx; exact hXg)
      have HLG := Lib.hid (show w.heap.size ≤ g from HSI.out.lo)
      have c1 := hat.blk.c1
      clear hat hk4 hXg hrow hc1 hc2 HSI hzk
      go_wp2_with fail
      refine (show Calls _ _ _ _ _ from so_since HJ.out HF4.out 0 10 0 10 rfl rfl (by rw [← HZK.out]; exact Nat.le_refl 0) (Nat.zero_le _) (by decide) (js.map sname) (by rw [← HZK.out]; show js.map sname = ((([] : List ByteArray) ++ js.map sname).drop 0).take 10; rw [List.nil_append, List.drop_zero, List.take_of_length_le (by rw [hln]; omega)])).mono ?_
      rintro e w5 ⟨Am, cm, rfl, hm1, hm2, hmk, hk5, hat⟩
      rw [hln] at hm1 ⊢
      have HF5 := Lib.hid hat
      have HGA5 := Lib.hid (HGA.out.keep hk5 trivial)
      have HRW5 := Lib.hid (HRW.out.keep hk5)
      have HMK := Lib.hid hmk
      unfold maxLen at hm2
      clear hat hk5 hmk HF4 HGA HRW c1
      go_wp2_with fail
      obtain ⟨W5, hW5⟩ : ∃ W, W = w5 := ⟨w5, rfl⟩
      have HK5 := Lib.hid (show Kp W5 w5 from by rw [hW5]; exact Keeps.refl _ _)
      have HM5 := Lib.hid (show MarksAt W5 Am (fun _ => True) 0 (js.map sname) from by
       rw [hW5]
       intro i hi
       obtain ⟨b, o, e, -, c0, c1⟩ := HMK.out i hi
       exact ⟨b, o, e, trivial, c0, c1⟩)
      have HR5 := Lib.hid (show Row W5 A (fun _ => True) ((js.map sname).map Value.string) from by rw [hW5]; exact HRW5.out)
      have HG5 := Lib.hid (show GoneAt W5 g N js from by rw [hW5]; exact HGA5.out)
      have HF6 := Lib.hid (show StAt S J w W5 p b q1 q2 kk zk 400 2 (fun x => x = g) from by rw [hW5]; exact HF5.out)
      clear hW5 HF5 HMK HRW5 HGA5
      go_loopw [17] (fun i wr => ∃ k : Nat, k ≤ j ∧ i = .int .i64 (k : Int) ∧ Hid (Kp W5 wr)) (fun i _ => j - (intOf i).toNat)
      case atStart => exact ⟨0, Nat.zero_le _, rfl, HK5⟩
      case round =>
       clear HK5
       obtain ⟨k, hk, rfl, HK⟩ := hrel
       by_cases hkj : k < j
       ·have t1' : (k : Int) < (j : Int) := by omega
        have hkl : k < (js.map sname).length := by rw [hln]; exact hkj
        obtain ⟨bm, om, rfl, -, c0, c1⟩ := HM5.out k hkl
        obtain ⟨bl, ol, rfl, -, d0⟩ := HR5.out.at_ (k := k) (by rw [List.length_map]; exact hkl)
        rw [List.getElem_map] at d0
        rw [show 0 + k + 1 = k + 1 by omega] at c0
        generalize (js.map sname)[k] = sk at c1 d0
        have HC0 := Lib.hid (HK.out.cell c0 trivial)
        have HC1 := Lib.hid (HK.out.cell c1 trivial)
        have HD0 := Lib.hid (HK.out.cell d0 trivial)
        clear c0 c1 d0
        go_wp2_with fail
        refine wp_region_guard (R := Kp) (V := fun i => IsV ((LM bm om cm bl ol c2 j k sk).getD i undef)) (w0 := wr) GM (by kernel_rfl) (fun w => Keeps.refl _ w) (fun _ _ _ h k => h.trans k) (fun _ _ _ _ _ h => h) (by kernel_rfl) (GM_is bm om cm bl ol c2 j k sk) (fun i o ho hw => (all_wanted (by kernel_rfl) ho hw).elim) ((Keeps.refl _ wr).drew) (each_of ?_) ?_
        ·refine ⟨?_, ?_, ?_, ?_, ?_, ?_, ?_, ?_, ?_, ?_, ?_, ?_, ?_, ?_, ?_, ?_, ?_, ?_, ?_, ?_, trivial⟩ <;> intro hw a1 w3 L
         ·exact kp_move rfl (L.old 15 (by kernel_rfl))
         ·exact kp_move rfl (L.old 17 (by kernel_rfl))
         ·exact kp_atM (n := j) (c := cm) (i := k) hkj rfl (L.val 0 121 (by kernel_rfl) (by kernel_rfl)) (L.val 1 122 (by kernel_rfl) (by kernel_rfl))
         ·exact kp_fM1 rfl (L.val 2 123 (by kernel_rfl) (by kernel_rfl))
         ·exact kp_ldT (L.rel.cell HC1.out trivial) rfl (L.val 3 124 (by kernel_rfl) (by kernel_rfl))
         ·exact kp_move rfl (L.old 10 (by kernel_rfl))
         ·exact kp_move rfl (L.old 17 (by kernel_rfl))
         ·exact kp_atT (n := j) (c := c2) (i := k) hkj rfl (L.val 5 126 (by kernel_rfl) (by kernel_rfl)) (L.val 6 127 (by kernel_rfl) (by kernel_rfl))
         ·exact kp_ldT (L.rel.cell HD0.out trivial) rfl (L.val 7 128 (by kernel_rfl) (by kernel_rfl))
         ·exact kp_neqT rfl (L.val 4 125 (by kernel_rfl) (by kernel_rfl)) (L.val 8 129 (by kernel_rfl) (by kernel_rfl))
         ·exact kp_move rfl (L.val 9 130 (by kernel_rfl) (by kernel_rfl))
         ·exact kp_move rfl (L.old 15 (by kernel_rfl))
         ·exact kp_move rfl (L.old 17 (by kernel_rfl))
         ·exact kp_atM (n := j) (c := cm) (i := k) hkj rfl (L.val 11 132 (by kernel_rfl) (by kernel_rfl)) (L.val 12 133 (by kernel_rfl) (by kernel_rfl))
         ·exact kp_fM0 rfl (L.val 13 134 (by kernel_rfl) (by kernel_rfl))
         ·exact kp_ldI (L.rel.cell HC0.out trivial) rfl (L.val 14 135 (by kernel_rfl) (by kernel_rfl))
         ·exact kp_move rfl (L.old 17 (by kernel_rfl))
         ·exact kp_add (m := k) (n := 1) (by omega) rfl (L.val 16 137 (by kernel_rfl) (by kernel_rfl)) rfl
         ·exact kp_neqI (by simp) rfl (L.val 15 136 (by kernel_rfl) (by kernel_rfl)) (L.val 17 138 (by kernel_rfl) (by kernel_rfl))
         ·exact kp_pick rfl (L.val 10 131 (by kernel_rfl) (by kernel_rfl)) (L.val 18 139 (by kernel_rfl) (by kernel_rfl))
        ·intro vs w8 hw8 hlen hv
         match vs, hlen with
         | [v0, v1, v2, v3, v4, v5, v6, v7, v8, v9, v10, v11, v12, v13, v14, v15, v16, v17, v18, v19], _ =>
          have e19 : v19 = .bool false := hv 19 140 (by kernel_rfl)
          clear hv
          subst e19
          have HK8 := Lib.hid (HK.out.trans hw8)
          clear hw8 HC0 HC1 HD0 HK
          simp only [putAll, List.map, Act.put, List.setIfInBounds_toArray, List.set_cons_succ, List.set_cons_zero, Exit.then]
          go_wp2_with fail
          go_roundw
          case rel => exact ⟨k + 1, by omega, by go_num, HK8⟩
          case measure => simp [intOf]; omega
       ·obtain rfl : j = k := by omega
        have t1' : ¬ (j : Int) < (j : Int) := by omega
        have HF7 := Lib.hid (HF6.out.keep HK.out)
        have HG7 := Lib.hid (HG5.out.keep HK.out trivial)
        clear HF6 HG5 HK HR5 HM5
        go_wp2_with fail
        go_loopw [18] (fun i wr => ∃ i' : Nat, i' ≤ N ∧ i = .int .i64 (i' : Int) ∧ Hid (StAt S J w wr p b q1 q2 kk zk 400 2 (fun x => x = g)) ∧ Hid (GoneAt wr g N js)) (fun i _ => N - (intOf i).toNat)
        case atStart => exact ⟨0, Nat.zero_le _, rfl, HF7, HG7⟩
        case round =>
         clear HF7 HG7
         obtain ⟨i, hi, rfl, HF, HG⟩ := hrel
         by_cases hiN : i < N
         ·have t2' : (i : Int) < (N : Int) := by omega
          obtain ⟨s1, s2, r, hrg, hE⟩ := told_S 162 (segsOf 400) (N + 1 + (js.map sname).length + 1) N js i (by omega) hiN HJS.out.2
          have HEE := Lib.hid (show Ending.returned (.tuple #[.agg #[.string s1, .string s2, .int .i64 0, .bool false], .bool r]) = getE zk.f (sname i) 0 from by rw [← HZK.out]; exact hE)
          have hgl : g < wr.heap.size := World.block_lt_of_cell? wr _ (HG.out i hiN)
          have HST := Lib.hid (show GetSt S J w p b q1 q2 kk zk wr.heap.size g N js wr.drew from ⟨by simp, HF.out.kp.size, hgl, HG.out.keep (X := fun _ => True) ((Keeps.refl _ wr).drew) trivial, HF.out.more ((Keeps.refl _ wr).drew) fun c hc => by
           rcases hc with hc | hc
           ·exact .inl hc
           ·simp at hc; omega⟩)
          have HRG := Lib.hid hrg
          clear hrg hE HF HG hgl
          go_wp2_with fail
          refine wp_region_one (V := VG wr.heap.size b q1 i s1 s2 r) (w0 := wr) 12 (fun _ => GetSt S J w p b q1 q2 kk zk wr.heap.size g N js) (Rg wr.heap.size) (fun _ => none) (by kernel_rfl) (fun i w w' v h hv => VG_keep i w w' v (Rg.of_kp h) hv) (fun _ _ _ h hs => hs.keep h) (fun i _ w w' v h hv => VG_keep i w w' v h hv) (by kernel_rfl) (by decide) (fun _ _ h => by cases h) (fun i o ho hw => (all_wanted (by kernel_rfl) ho hw).elim) HST.out (each_of ?_) ?_
          ·refine ⟨?_, ?_, ?_, ?_, ?_, ?_, ?_, ?_, ?_, ?_, ?_, ?_, ?_, ?_, trivial⟩ <;> intro hw a1 w2 L
           ·rw [if_neg (by decide)]
            intro t hs _
            exact kp_move rfl (L.old 6 (by kernel_rfl))
           ·rw [if_neg (by decide)]
            intro t hs _
            exact kp_nilM rfl (L.val 0 147 (by kernel_rfl) (by kernel_rfl))
           ·rw [if_neg (by decide)]
            intro t hs _
            exact kp_st0 rfl (L.val 1 148 (by kernel_rfl) (by kernel_rfl))
           ·rw [if_neg (by decide)]
            intro t hs _
            exact kp_ldC hs.2.2.2.2.blk.c0 rfl (L.val 2 149 (by kernel_rfl) (by kernel_rfl))
           ·rw [if_neg (by decide)]
            intro t hs _
            exact kp_move rfl (L.old 8 (by kernel_rfl))
           ·rw [if_neg (by decide)]
            intro t hs _
            exact kp_move rfl (L.old 18 (by kernel_rfl))
           ·rw [if_neg (by decide)]
            intro t hs _
            exact kp_nameF (by omega) rfl (L.val 4 151 (by kernel_rfl) (by kernel_rfl)) (L.val 5 152 (by kernel_rfl) (by kernel_rfl))
           ·rw [if_neg (by decide)]
            intro t hs _
            exact kp_getC HS.out hs.2.2.2.2 (by rw [sname_size]; decide) HEE.out rfl (L.val 3 150 (by kernel_rfl) (by kernel_rfl)) (L.val 6 153 (by kernel_rfl) (by kernel_rfl))
           ·rw [if_neg (by decide)]
            intro t hs _
            exact kp_move rfl (L.val 7 154 (by kernel_rfl) (by kernel_rfl))
           ·rw [if_neg (by decide)]
            intro t hs _
            exact kp_ext0 rfl (L.val 8 146 (by kernel_rfl) (by kernel_rfl))
           ·rw [if_neg (by decide)]
            intro t hs _
            exact kp_ext1 rfl (L.val 8 146 (by kernel_rfl) (by kernel_rfl))
           ·rw [if_neg (by decide)]
            intro t hs _
            exact kp_allocI hs.1 rfl
           ·rw [if_pos rfl]
            intro hs
            obtain ⟨B2, eB, hB1, hB2⟩ := L.val 11 19 (by kernel_rfl) (by kernel_rfl)
            refine Oper.wp_mono ?_ (op_storeI (g := wr.heap.size) hB2 hB1 rfl eB (L.val 9 155 (by kernel_rfl) (by kernel_rfl)))
            rintro a' w' ⟨v, rfl, hr, hk, hsz⟩
            exact ⟨v, rfl, hr, hs.store hk hB1 hsz, trivial⟩
           ·rw [if_neg (by decide)]
            intro t hs _
            exact kp_asg rfl (L.val 10 156 (by kernel_rfl) (by kernel_rfl))
          ·intro vs w8 hs8 hlen hv
           match vs, hlen with
           | [v0, v1, v2, v3, v4, v5, v6, v7, v8, v9, v10, v11, v12, v13], _ =>
            have e13 : v13 = .bool r := hv 13 20 (by kernel_rfl)
            clear hv
            subst e13
            have HF8 := Lib.hid (hs8.2.2.2.2.less (Y := fun x => x = g) fun x hx => .inl hx)
            have HG8 := Lib.hid hs8.2.2.2.1
            have hcell := hs8.2.2.2.1 i hiN
            rw [HRG.out] at hcell
            clear hs8 HST hlen HEE HRG
            simp only [putAll, List.map, Act.put, List.setIfInBounds_toArray, List.set_cons_succ, List.set_cons_zero, Exit.then]
            cases r
            all_goals (
             have hcell := hcell
             go_wp2_with fail
             go_roundw
             case rel => exact ⟨i + 1, by omega, by go_num, HF8, HG8⟩
             case measure => simp [intOf]; omega)
         ·obtain rfl : N = i := by omega
          have t2' : ¬ (N : Int) < (N : Int) := by omega
          have HE := Lib.hid HF.out.kp
          clear HF HG
          go_wp2_with fail
          go_ret
          exact ⟨rfl, HE.out.below⟩)
end Go.Proofs.YticophaepapjoaaGreatDoor.storeKills
