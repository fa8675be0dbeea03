/-
  JnSince, JnNo, JnThe, Frame, TabLaid, Open: texts of mine, joined.
-/
import Derived.Test.YticophaepapjoaaGreatDoorAllA25
import Derived.Lib.MinMax
import Derived.Test.YticophaepapjoaaGreatDoorAllA22
import Derived.Test.YticophaepapjoaaGreatDoorWords
import Derived.WalkKit
import Derived.ProofKit
import Derived.OpenShut
import Derived.Below
import Derived.Carry
import Derived.LaidMore
import Derived.Stop.Joined
import Derived.Deep.Slices
import Derived.Test.YticophaepapjoaaGreatDoorAllA04
import Derived.Test.YticophaepapjoaaGreatDoorRows
import Derived.Test.YticophaepapjoaaGreatDoorTie
import Derived.Deep.Fields
namespace Go.Proofs.YticophaepapjoaaGreatDoor
open Go Go.RowKit Go.Joins
def cutJ (A : Option Addr) (k c : Nat) : Option Addr := if c = k then A else A.map (·.add k)
section
variable {o : Oper} {a : Act} {w : World} {Q : Exit → Act → World → Prop} {x y : Operand}
theorem kp_fJ1 {b : Nat} (ho : o.op = .fieldAddr 108 x 1) (hx : a.eval x = .pointer (some ⟨b, 0, none⟩)) : o.wp Tryz.prog a w (fun a' w' => ∃ v, a' = a.put o.dst v ∧ Kp w w' ∧ IsV (.pointer (some ⟨b, 1, none⟩)) w' v) Q := by
 refine kp_yield (v := .pointer (some ⟨b, 1, none⟩)) ?_ (Keeps.refl _ _) rfl
 generalize a.eval = ρ at hx
 unfold execOp
 go_simp
theorem kp_subJ {m n k : Nat} (h : (m : Int) - (n : Int) = (k : Int)) (hm : m ≤ 1000000) (ho : o.op = .binOp .sub 2 x y 2) (hx : a.eval x = .int .i64 (m : Int)) (hy : a.eval y = .int .i64 (n : Int)) : o.wp Tryz.prog a w (fun a' w' => ∃ v, a' = a.put o.dst v ∧ Kp w w' ∧ IsV (.int .i64 (k : Int)) w' v) Q := by
 have e : IntKind.i64.wrap ((m : Int) - (n : Int)) = (k : Int) := by rw [h, IntKind.wrap_i64]; omega
 clear h
 refine kp_yield (v := .int .i64 (k : Int)) ?_ (Keeps.refl _ _) rfl
 generalize a.eval = ρ at hx hy
 unfold execOp
 go_simp
theorem kp_restJ {A : Option Addr} {n c k : Nat} (hk : k ≤ n) (hn : n ≤ c) (hc : c ≤ 9223372036854775807) (hA : A = none → c = 0) (ho : o.op = .slice 106 x (some y) none none) (hx : a.eval x = .slice A n c) (hy : a.eval y = .int .i64 (k : Int)) :
  o.wp Tryz.prog a w (fun a' w' => ∃ v, a' = a.put o.dst v ∧ Kp w w' ∧ IsV (.slice (cutJ A k c) (n - k) (c - k)) w' v) Q := by
 refine kp_yield (v := .slice (cutJ A k c) (n - k) (c - k)) (w' := w) ?_ (Keeps.refl _ _) rfl
 generalize a.eval = ρ at hx hy ⊢
 unfold execOp
 have hkc : k ≤ c := by omega
 cases A with
 | none =>
  obtain rfl : c = 0 := hA rfl
  obtain rfl : k = 0 := by omega
  obtain rfl : n = 0 := by omega
  go_simp
  simp [cutJ]
 | some ad =>
  by_cases hck : c = k
  ·subst hck
   obtain rfl : n = c := by omega
   go_simp
   simp [cutJ]
  ·go_simp
   simp [cutJ, hck]
end
def JSincePost (w : World) (sq : Nat) (K : List ByteArray) (e : Ending) (w' : World) : Prop :=
 ∃ (A : Option Addr) (c : Nat), e = .returned (.tuple #[.slice A K.length c, .bool true]) ∧ K.length ≤ c ∧ c ≤ maxLen ∧ MarksAt w' A (fun b => w.heap.size ≤ b ∧ b < w'.heap.size) sq K ∧ Kp w w'
set_option maxRecDepth 100000 in
set_option maxHeartbeats 1000000 in
theorem jsince (S : Slog2) (w : World) (hT : S.T w) (p q : Nat) (F Fs : Foot) (s : SDev) (st : JSt) (hd : DAt w p F s) (hr : jrep S w p q Fs st s) (ha : Apart F Fs) (hroom : st.place + 8 * st.segs ≤ s.now.length) (sq n : Nat) (h8 : st.base ≤ sq) (h9 : sq ≤ st.keys.length) (hn : n ≤ 1000000) :
  Calls Tryz.prog 33 #[.pointer (some ⟨q, 0, none⟩), .int .i64 (sq : Int), .int .i64 (n : Int)] w (JSincePost w sq ((st.keys.drop sq).take n)) := by
 have HSQ := Lib.hid (show ∀ w', Kp w w' → _ from fun w' (hk' : Kp w w') => jseq_is S w' p q Fs s st (jrep_keep hr (hk'.mono fun _ _ _ => trivial)))
 obtain ⟨lq, Fl, v, lst, rfl, hc, hm⟩ := hr
 have hgone := (S.wf hc.l).gone
 have hage := hm.age
 have hold := hm.old
 have hml := hm.len
 have hjl := jkept_len lst
 have hal : Apart F Fl := ⟨fun b hb hf => ha.l b hb (jfoot_all.2 (.inr (.inl hf))), fun b hb hf => ha.r b (.inr (.inl hb)) hf⟩
 obtain ⟨A0, c0, rfl, hlc, hcm⟩ := hc.form
 have hbs : lst.gone = st.base := hm.base.symm
 obtain ⟨N, hN⟩ : ∃ N, st.keys.length = N := ⟨_, rfl⟩
 obtain ⟨n0, hn0⟩ : ∃ n0, (jkept lst).length = n0 := ⟨_, rfl⟩
 obtain ⟨B, hB⟩ : ∃ B, st.base = B := ⟨_, rfl⟩
 obtain ⟨k, hk⟩ : ∃ k, sq - B = k := ⟨_, rfl⟩
 obtain ⟨K, hK⟩ : ∃ K, (st.keys.drop sq).take n = K := ⟨_, rfl⟩
 have hKl : K.length = min n (n0 - k) := by rw [← hK, List.length_take, List.length_drop]; omega
 have HNA := Lib.hid (show A0 = none → c0 = 0 from fun e => by
  have h := hc.row.2
  rcases h with ⟨h1, -⟩ | ⟨g, cap, cur, h1, -⟩
  ·injection h1 with h2 h3 h4
  ·injection h1 with h2 h3 h4
   rw [e] at h2; cases h2)
 have HROW := Lib.hid (show Row w A0 (fun _ => True) (posC (jkept lst)) from by
  obtain ⟨A, c, e, -, hr⟩ := own_slice hc.row
  injection e with e1 e2 e3
  subst e1
  exact hr.mono fun _ _ _ => trivial)
 have HPOS := Lib.hid (show ∀ (j : Nat), j < K.length → ∃ x : Nat, (posC (jkept lst))[k + j]? = some (.int .i64 (x : Int)) ∧ ∀ wr, Kp w wr → Calls Tryz.prog 62 #[.pointer (some ⟨q, 0, none⟩), .int .i64 (x : Int)] wr fun e w' => e = .returned (.tuple #[.agg #[.int .i64 ((sq + j + 1 : Nat) : Int), .string (K.getD j default)], .bool true]) ∧ Kp wr w' from fun j hj => by
  have h1 : sq + j < lst.hist.length := by omega
  have h2 : sq + j < st.keys.length := by omega
  have e1 : (lst.hist.drop lst.gone)[k + j]? = some lst.hist[sq + j] := by
   rw [List.getElem?_drop, show lst.gone + (k + j) = sq + j by omega, List.getElem?_eq_getElem h1]
  have hb := hm.body (sq + j) h1
  have e2 : K.getD j default = st.keys.getD (sq + j) default := by
   rw [← hK, List.getD_eq_getElem?_getD, List.getD_eq_getElem?_getD, List.getElem?_take_of_lt (by omega), List.getElem?_drop]
  have hko : keyOk (st.keys.getD (sq + j) default) := by
   rw [List.getD_eq_getElem?_getD, List.getElem?_eq_getElem h2]
   exact hm.one _ (List.getElem_mem h2)
  have hrec : ((lst.hist[sq + j]).pos, markB (sq + j + 1) (st.keys.getD (sq + j) default)) ∈ lst.recs := by
   rw [← hb]
   exact List.mem_map.2 ⟨_, List.mem_of_getElem? e1, rfl⟩
  refine ⟨(lst.hist[sq + j]).pos, ?_, fun wr hkr => ?_⟩
  ·unfold posC jkept
   rw [List.getElem?_map, List.getElem?_map, e1]
   rfl
  ·rw [e2]
   exact jfind S wr (S.tk hT hkr) p q lq F Fl s lst (hd.keep (hkr.mono fun _ _ _ => trivial)) (S.keep hc.l (hkr.mono fun _ _ _ => trivial)) hc.on hal (by rw [hm.place, hm.segs]; exact hroom) (hkr.cell hc.blk.c0 trivial) _ _ _ hrec (by omega) (by omega) hko)
 have HDN := Lib.hid (jdown w q lq hc.blk.c0)
 have b1 := hc.blk.c1
 have b2 := hc.blk.c2
 rw [hn0] at b2 hlc
 rw [hbs] at b1
 rw [hN] at HSQ h9
 rw [hB] at h8 b1
 have hNb : N ≤ 30000 := by omega
 have hkn : k ≤ n0 := by omega
 have hn0b : n0 ≤ 30000 := by omega
 have t1 : decide (sq < B) = false := by simp; omega
 have t2 : decide (N < sq) = false := by simp; omega
 have HPL := Lib.hid (show (posC (jkept lst)).length = n0 from by rw [posC_len]; exact hn0)
 have HKK := Lib.hid (show (sq : Int) - (B : Int) = (k : Int) from by omega)
 have hBb : B ≤ 30000 := by omega
 have hsb : sq ≤ 30000 := by omega
 have HK := Lib.hid hK
 have HKL := Lib.hid hKl
 rw [hK]
 unfold maxLen at hcm
 clear hT hd ha hroom hc hm hgone hage hold hml hjl hal hbs hN hn0 hB hk hK hKl h8 h9
 go_enter Tryz.func33, Tryz.ntmps33
 go_wp2_with fail
 refine (show Calls _ _ _ _ _ from HDN.out).mono ?_
 rintro e w1 ⟨rfl, rfl⟩
 go_wp2_with fail
 refine (show Calls _ _ _ _ _ from HSQ.out w (Keeps.refl _ _)).mono ?_
 rintro e w1 ⟨rfl, hk1⟩
 have HK1 := Lib.hid hk1
 replace b1 := hk1.cell b1 trivial
 replace b2 := hk1.cell b2 trivial
 clear hk1 HSQ HDN
 go_wp2_with fail
 have HR1 := Lib.hid (show ∀ w', Kp w w' → Row w' (cutJ A0 k c0) (fun _ => True) ((posC (jkept lst)).drop k) from fun w' hk => by
  have h := (HROW.out.keep (hk.mono fun _ _ _ => trivial)).cut (k := k) (cap := c0) (by rw [HPL.out]; exact hkn) (by rw [HPL.out]; exact hlc)
  exact h)
 refine wp_region_guard (R := Kp) (V := Vl [.pointer (some ⟨q, 0, none⟩), .pointer (some ⟨q, 0, none⟩), .pointer (some ⟨q, 2, none⟩), .slice A0 n0 c0, .int .i64 (sq : Int), .pointer (some ⟨q, 0, none⟩), .pointer (some ⟨q, 0, none⟩), .pointer (some ⟨q, 1, none⟩), .int .i64 (B : Int), .int .i64 (k : Int), .slice (cutJ A0 k c0) (n0 - k) (c0 - k), .slice (cutJ A0 k c0) (n0 - k) (c0 - k)]) (w0 := w1) GM (by kernel_rfl) (fun w => Keeps.refl _ w) (fun _ _ _ h k => h.trans k) (fun i w w' v _ hv => hv) (by kernel_rfl) GM_is (fun i o ho hw => (all_wanted (by kernel_rfl) ho hw).elim) ((Keeps.refl _ w1).drew) (each_of ?_) ?_
 ·refine ⟨?_, ?_, ?_, ?_, ?_, ?_, ?_, ?_, ?_, ?_, ?_, ?_, trivial⟩ <;> intro hw a1 w7 L
  ·exact kp_move rfl (L.old 0 (by kernel_rfl))
  ·exact kp_nilL rfl (L.val 0 30 (by kernel_rfl) (by kernel_rfl))
  ·exact kp_fJ2 rfl (L.val 1 31 (by kernel_rfl) (by kernel_rfl))
  ·exact kp_lPos (L.rel.cell b2 trivial) rfl (L.val 2 32 (by kernel_rfl) (by kernel_rfl))
  ·exact kp_move rfl (L.old 1 (by kernel_rfl))
  ·exact kp_move rfl (L.old 0 (by kernel_rfl))
  ·exact kp_nilL rfl (L.val 5 35 (by kernel_rfl) (by kernel_rfl))
  ·exact kp_fJ1 rfl (L.val 6 36 (by kernel_rfl) (by kernel_rfl))
  ·exact kp_ldI (L.rel.cell b1 trivial) rfl (L.val 7 37 (by kernel_rfl) (by kernel_rfl))
  ·exact kp_subJ HKK.out (by omega) rfl (L.val 4 34 (by kernel_rfl) (by kernel_rfl)) (L.val 8 38 (by kernel_rfl) (by kernel_rfl))
  ·exact kp_restJ hkn hlc (by omega) HNA.out rfl (L.val 3 33 (by kernel_rfl) (by kernel_rfl)) (L.val 9 39 (by kernel_rfl) (by kernel_rfl))
  ·exact kp_assign rfl (L.val 10 40 (by kernel_rfl) (by kernel_rfl))
 ·intro vs w7 hk7 hlen7 hv
  match vs, hlen7 with
  | [u0, u1, u2, u3, u4, u5, u6, u7, u8, u9, u10, u11], _ =>
   have hx11 : u11 = .slice (cutJ A0 k c0) (n0 - k) (c0 - k) := hv 11 8 (by kernel_rfl)
   subst hx11
   have HK7 := Lib.hid (HK1.out.trans hk7)
   have HR7 := Lib.hid (HR1.out w7 HK7.out)
   have HN7 := Lib.hid (show cutJ A0 k c0 = none → c0 - k = 0 from fun e => by
    unfold cutJ at e
    by_cases hck : c0 = k
    ·omega
    ·rw [if_neg hck] at e
     have := HNA.out (by cases A0 with | none => rfl | some a => cases e)
     omega)
   clear hv hk7 b1 b2
   obtain ⟨A1, hA1⟩ : ∃ A1, cutJ A0 k c0 = A1 := ⟨_, rfl⟩
   obtain ⟨n1, hn1⟩ : ∃ n1, n0 - k = n1 := ⟨_, rfl⟩
   obtain ⟨c1, hc1⟩ : ∃ c1, c0 - k = c1 := ⟨_, rfl⟩
   obtain ⟨t, ht⟩ : ∃ t, K.length = t := ⟨_, rfl⟩
   have htm := HKL.out
   rw [hn1, ht] at htm
   rw [hA1] at HR7 HN7 ⊢
   rw [hc1] at HN7 ⊢
   rw [hn1]
   have hnc1 : n1 ≤ c1 := by omega
   have hc1m : c1 ≤ 9223372036854775807 := by omega
   have hn1b : n1 ≤ 30000 := by omega
   have hmm : min (n : Int) (n1 : Int) = (t : Int) := by omega
   have htn : t ≤ n1 := by omega
   have HT := Lib.hid ht
   clear hA1 hn1 hc1 ht htm HR1 HNA HROW HPL HKK HKL hkn hlc hcm hn0b hBb hsb hNb HK1 t1 t2
   have hAs : (A1 = none ∧ c1 = 0) ∨ ∃ ad, A1 = some ad := by
    cases A1 with
    | none => exact .inl ⟨rfl, HN7.out rfl⟩
    | some ad => exact .inr ⟨ad, rfl⟩
   rcases hAs with ⟨rfl, rfl⟩ | ⟨ad, rfl⟩
   ·obtain rfl : n1 = 0 := by omega
    obtain rfl : t = 0 := by omega
    obtain rfl : K = [] := List.eq_nil_of_length_eq_zero HT.out
    have HE := Lib.hid (show JSincePost w sq [] (.returned (.tuple #[.slice none 0 0, .bool true])) w7 from ⟨none, 0, rfl, Nat.le_refl _, Nat.zero_le _, fun i hi => absurd hi (Nat.not_lt_zero _), HK7.out⟩)
    simp only [putAll, List.map, Act.put, List.setIfInBounds_toArray, List.set_cons_succ, List.set_cons_zero, Exit.then]
    go_wp2_with fail
    go_loopw [9, 49] (fun v i wr => v = .slice none 0 0 ∧ i = .int .i64 0 ∧ wr = w7) (fun _ i _ => 0)
    case atStart => exact ⟨rfl, rfl, rfl⟩
    case round =>
     obtain ⟨rfl, rfl, rfl⟩ := hrel
     go_wp2_with fail
     go_ret2
     exact HE.out
   ·simp only [putAll, List.map, Act.put, List.setIfInBounds_toArray, List.set_cons_succ, List.set_cons_zero, Exit.then]
    have HPOS7 := Lib.hid (show ∀ (j : Nat), j < t → ∃ (x : Nat) (b o : Nat), ad = ⟨b, o, none⟩ ∧ (∀ wr, Kp w7 wr → wr.cell? ⟨b, o + j, none⟩ = some (.int .i64 (x : Int))) ∧ ∀ wr, Kp w wr → Calls Tryz.prog 62 #[.pointer (some ⟨q, 0, none⟩), .int .i64 (x : Int)] wr fun e w' => e = .returned (.tuple #[.agg #[.int .i64 ((sq + j + 1 : Nat) : Int), .string (K.getD j default)], .bool true]) ∧ Kp wr w' from fun j hj => by
     obtain ⟨x, hx, hf⟩ := HPOS.out j (by rw [HT.out]; exact hj)
     obtain ⟨b, o, e, -, hc⟩ := HR7.out (fun e => by
      have h1 : ((posC (jkept lst)).drop k)[j]? = some (.int .i64 (x : Int)) := by rw [List.getElem?_drop]; exact hx
      rw [e] at h1; cases h1)
     injection e with e
     exact ⟨x, b, o, e, fun wr hk => hk.cell (hc j _ (by rw [List.getElem?_drop]; exact hx)) trivial, hf⟩)
    have HEND := Lib.hid (show ∀ (v : Value) (wr : World), wr.ownsRow w7.heap.size 72 2 v t (mkC sq (K.take t)) → Kp w7 wr → JSincePost w sq K (.returned (.tuple #[v, .bool true])) wr from fun v wr ho hk => by
     rw [List.take_of_length_le (by rw [HT.out]; exact Nat.le_refl _)] at ho
     obtain ⟨A, c, rfl, h1, h2⟩ := own_form2 ho
     have hm := MarksAt.of_own ho HT.out.symm
     refine ⟨A, c, by rw [HT.out], by rw [HT.out]; exact h1, h2, fun i hi => ?_, HK7.out.trans hk⟩
     obtain ⟨b, o, e, hb, c0, c1⟩ := hm i hi
     exact ⟨b, o, e, ⟨Nat.le_trans HK7.out.size hb.1, hb.2⟩, c0, c1⟩)
    have HSN := Lib.hid (show ∀ j, j < t → mkC sq (K.take (j + 1)) = mkC sq (K.take j) ++ [.int .i64 ((sq + j + 1 : Nat) : Int), .string (K.getD j default)] from fun j hj => by
     have hj2 : j < K.length := by rw [HT.out]; exact hj
     rw [List.take_succ_eq_append_getElem hj2, mkC_snoc, List.length_take, Nat.min_eq_left (by omega), List.getD_eq_getElem?_getD, List.getElem?_eq_getElem hj2]
     rfl)
    have hw7 : w.heap.size ≤ w7.heap.size := HK7.out.size
    clear HPOS HR7 HN7
    go_wp2_with fail
    go_loopw [9, 49] (fun v i wr => ∃ j : Nat, j ≤ t ∧ i = .int .i64 (j : Int) ∧ RowKit.Hid (wr.ownsRow w7.heap.size 72 2 v j (mkC sq (K.take j))) ∧ RowKit.Hid (Kp w7 wr)) (fun _ i _ => t - (intOf i).toNat)
    case atStart => exact ⟨0, Nat.zero_le _, rfl, Lib.hid (World.ownsRow_nil _ _ _ _), Lib.hid (Keeps.refl _ _)⟩
    case round =>
     obtain ⟨j, hj, rfl, hown, hkp⟩ := hrel
     obtain ⟨A2, c2, rfl, hl2, hm2⟩ := own_form2 hown.out
     unfold maxLen at hm2
     by_cases hjt : j < t
     ·have t1 : decide ((j : Int) < (t : Int)) = true := by simp; omega
      have t1' : decide (j < t) = true := by simp; omega
      obtain ⟨x, b, o, rfl, hcell, hfind⟩ := HPOS7.out j hjt
      have hcell := hcell wr hkp.out
      have HF := Lib.hid (hfind wr (HK7.out.trans hkp.out))
      have HSJ := Lib.hid (HSN.out j hjt)
      clear hfind HSN
      obtain ⟨ky, hky⟩ : ∃ ky, K.getD j default = ky := ⟨_, rfl⟩
      obtain ⟨sn, hsn⟩ : ∃ sn, sq + j + 1 = sn := ⟨_, rfl⟩
      rw [hky, hsn] at HF HSJ
      clear hky hsn
      go_wp2_with fail
      refine (show Calls _ _ _ _ _ from HF.out).mono ?_
      rintro e w3 ⟨rfl, hk3⟩
      have HK3 := Lib.hid (hkp.out.trans hk3)
      have HOW := Lib.hid (hk3.own hown.out fun _ _ => trivial)
      have hsrc := src_mark (w3.alloc (.cells #[.int .i64 (sn : Int), .string ky] 72)) (sn : Int) ky _ rfl 1 72
      rw [show (w3.alloc (.cells #[.int .i64 (sn : Int), .string ky] 72)).heap.size = w3.heap.size + 1 by simp] at hsrc
      have HSRC := Lib.hid hsrc
      have hsz3 := HK3.out.size
      clear hk3 hsrc hcell HF hown hkp
      go_wp2_with (at_builtin; refine mark_elem.list_append rfl (.tmp 61) (.tmp 63) _ rfl rfl ((HOW.out.alloc _).alloc _) rfl HSRC.out ?c3 ?c4 ?c5 ?_)
      case c3 => unfold maxLen; omega
      case c4 => omega
      case c5 => simp; omega
      intro v3 w4 ho4 hg4 hb4
      have HK4 := Lib.hid (show Kp w7 w4 from ((HK3.out.alloc _).alloc _).grown hg4 fun j hj => (HOW.out.lt j hj).1)
      have HO4 := Lib.hid (show w4.ownsRow w7.heap.size 72 2 v3 (j + 1) (mkC sq (K.take (j + 1))) from by
       rw [HSJ.out]
       exact ho4)
      clear ho4 hg4 hb4 HSRC HOW HK3
      go_wp2_with fail
      go_roundw
      case rel => exact ⟨j + 1, by omega, by go_num, HO4, HK4⟩
      case measure => simp [intOf]; omega
     ·have t1 : decide ((j : Int) < (t : Int)) = false := by simp; omega
      have t1' : decide (j < t) = false := by simp; omega
      obtain rfl : j = t := by omega
      have HE := Lib.hid (HEND.out _ wr hown.out hkp.out)
      clear hjt
      go_wp2_with fail
      go_ret2
      exact HE.out
def theJournal : JournalOK where
 T := theSlog2.T
 tk := fun h hk => theSlog2.tk h hk
 rep := fun w p q Fs st s => jrep theSlog2 w p q Fs st s
 disk := fun st rows => jdisk theSlog2 st rows
 wf := fun h => jrep_wf h
 lt := fun h => jrep_lt h
 keep := fun h hk => jrep_keep h hk
 other := fun h h1 h2 => jrep_other h h1 h2
 diskKeep := fun h h1 h2 => jdisk_keep h h1 h2
 openNew := fun w p F s hd hT i n h3 hn hin hb => by
  refine jopen theSlog2 w hT p F s ⟨i, n, [], 0, 32, 1⟩ hd i n h3 (by omega) hin ((theSlog.openNew w p F s hd hT i n (by omega) hn hin hb).mono ?_)
  rintro e w' ⟨q, Fs, f, x, rfl, hr, hx, hF, hk⟩
  exact ⟨q, Fs, _, rfl, hr, rfl, JM.start p i n f x ⟨h3, hn⟩ hx, hF, hk⟩
 openOld := fun w p F s st hd hT hdk hroom hage => by
  obtain ⟨lst, hD, hm⟩ := hdk
  have e1 : (Value.int .i64 (st.place : Int)) = .int .i64 (lst.place : Int) := by rw [hm.place]
  have e2 : (Value.int .i64 (st.segs : Int)) = .int .i64 (lst.segs : Int) := by rw [hm.segs]
  refine (jopen theSlog2 w hT p F s ⟨st.place, st.segs, st.keys, st.base, st.kept - 4, st.age + 1⟩ hd st.place st.segs hm.many.1 (by have := hm.many.2; omega) hroom ?_).mono ?_
  ·rw [e1, e2]
   refine (theSlog.openOld w p F s lst hd hT hD (by rw [hm.place, hm.segs]; exact hroom) (by have := hm.next; omega)).mono ?_
   rintro e w' ⟨q, Fs, f, x, rfl, hr, hx, hF, hk⟩
   rw [hm.place, hm.segs] at hr
   exact ⟨q, Fs, _, rfl, hr, rfl, hm.opened hx (by omega), hF, hk⟩
  ·rintro e w' ⟨q, Fs, rfl, hr, hF, hk⟩
   exact ⟨q, Fs, st.base, rfl, hr, hF, hk⟩
 add := fun W w p q F Fs s st hd hr ha hT hk hF hFs hroom hage hcl A c ks hrow hlc hcm hl hok => jadds theSlog2 W w hT p q F Fs s st ⟨hd, hr, ha, hk, hF, hFs, hroom⟩ hage hcl A c ks.length ks rfl hrow hlc hcm hl hok
 addNo := fun w p q F Fs s st hd hr ha hT hroom A c ks hrow hlc hcm hl hsz hno => jadds_no theSlog2 w p q Fs s st hr A c ks.length ks rfl hrow hlc hcm hl hsz hno
 seqIs := fun w p q Fs s st hr _ => jseq_is theSlog2 w p q Fs s st hr
 baseIs := fun w p q Fs s st hr _ => jbase_is theSlog2 w p q Fs s st hr
 since := fun w p q F Fs s st hd hr ha hT hroom sq n h8 h9 hn => jsince theSlog2 w hT p q F Fs s st hd hr ha hroom sq n h8 h9 hn
theorem jtaken {W : World} (h : Taken W) : theJournal.T W := h
end Go.Proofs.YticophaepapjoaaGreatDoor
namespace Go.Proofs.YticophaepapjoaaGreatDoor
open Go Go.ChangeShapes Go.WideShapes Go.ChangeAt Go.RowKit Go.Deep
section
variable {H : Type} {enc : TypeId × Value → H} {P : Program} {W W' : World}
theorem trodAll_len {base : Nat} {sp : Nat → Bool} {held : Bool} : ∀ {ts : List TypeId} {vs : List Value} {ds : List (DataW H)} {ps : List MemPlace}, DataW.TrodAll enc P W base sp held ts vs ds ps → ds.length = ts.length
 | [], [], [], _, _ => rfl
 | _ :: _, _ :: _, _ :: _, _, ⟨_, _, _, h, _⟩ => by simp [trodAll_len h]
theorem trodAll_below (hl : laidOutB P = true) (hb : Below W.heap.size W W') : ∀ {ts : List TypeId} {vs : List Value} {ds : List (DataW H)} {ps : List MemPlace}, (ts.all fun t => P.readableRec t && decide (t < P.types.size)) = true →
  DataW.TrodAll enc P W 0 (fun _ => true) true ts vs ds ps → DataW.TrodAll enc P W' 0 (fun b => decide (b < W.heap.size)) true ts vs ds ps
 | [], [], [], _, _, h => h
 | t :: ts, v :: vs, d :: ds, _, ht, ⟨p, q, h1, h2, e⟩ => by
  simp only [List.all_cons, Bool.and_eq_true, decide_eq_true_eq] at ht
  have hlt : ∀ x ∈ p, x.block < W.heap.size := by obtain ⟨m, hm⟩ := h1; exact DataW.trod_lt m _ _ _ hm
  exact ⟨p, q, Below.trod hl ht.1.1 ht.1.2 h1 hb hlt, trodAll_below hl hb ht.2 h2, e⟩
def LawWalk (H : Type) (enc : TypeId × Value → H) (P : Program) (f : FuncId) (fn : Func) (X : World → Prop) : Prop :=
 ∀ (W : World) (base : Nat) (args : Array Value) (ds : List (DataW H)) (p : List MemPlace), (∀ (j : Nat) t v, fn.params[j]? = some t → args[j]? = some v → Value.okWide P W .any base t v) →
  DataW.TrodAll enc P W 0 (fun _ => true) true fn.params.toList args.toList ds p → X W → Calls P f args W fun e W' => e = .returned (.bool true) ∧ Below W.heap.size W W'
theorem law_post {fn : Func} {s : ChangeSpec} {tb : TypeId} (hl : laidOutB P = true) (htys : (fn.params.toList.all fun t => P.readableRec t && decide (t < P.types.size)) = true)
  (hres : fn.resultTypes = #[tb]) (hb : P.underlying tb = some .bool) (hvars : s.vars = []) (hs : ∀ ds : List (DataW H), ds.length = fn.params.size → s.fn H ds = { results := [.lit (.bool true)], args := ds })
  {args : Array Value} {ds gs : List (DataW H)} {before : List MemPlace} (hW : DataW.Whole enc P fn.params.toList s.vars false W args.toList ds gs before) (bel : Below W.heap.size W W') :
  s.post enc P fn false true false false W args (.bool true) W' := by
 have hW' := hW
 obtain ⟨p, q, hA, hV, rfl, hfz, hnd⟩ := hW
 rw [hvars] at hV
 obtain ⟨rfl, rfl⟩ := trodVars_none hV
 have e1 := hs ds (by rw [trodAll_len hA]; simp)
 refine ⟨ds, [], p ++ [], [], p, [], hW', ?_, ?_, ?_, bel.frame _, fun h => by cases h⟩
 ·rw [List.append_nil, e1, hres]; exact trodAll_mk1 (shut_bool hb true)
 ·rw [List.append_nil, e1]; exact trodAll_below hl bel htys hA
 ·rw [List.append_nil, e1, hvars]; rfl
theorem law_laid {C : Checked} {os : Os} {f : FuncId} {fn : Func} {s : ChangeSpec} {tb : TypeId} {X : World → Prop} (hX : ∀ w w' : World, w.heap = w'.heap → X w → X w')
  (own : ownKnob C.prog.godebug = none) (started : os.Started) (noInit : C.prog.inits.idxOf? f = none) (hfn : C.prog.funcs[f]? = some fn)
  (witness : ∃ (w : World) (tape : Tape) (i : Input), w.os = os ∧ (w.forCall tape i).Shaped C.prog ∧ i.vars = [] ∧ Input.okWide C.prog (w.forCall tape i) .any w.heap.size f i ∧
   ((s.pre enc C.prog fn [] false (w.forCall tape i).memory i.args ∧ X (w.forCall tape i).memory) ∧ sizedMet enc C.prog fn (OpenSpec.ofChange s) false (w.forCall tape i).memory i.args) ∧ ({} : Assume).holds C.prog (lone (Frame.enter C.prog f i.args .normal) [] (w.forCall tape i)))
  (hl : laidOutB C.prog = true) (htys : (fn.params.toList.all fun t => C.prog.readableRec t && decide (t < C.prog.types.size)) = true)
  (hres : fn.resultTypes = #[tb]) (hb : C.prog.underlying tb = some .bool) (hvars : s.vars = []) (hs : ∀ ds : List (DataW H), ds.length = fn.params.size → s.fn H ds = { results := [.lit (.bool true)], args := ds })
  (walk : LawWalk H enc C.prog f fn X) :
  ReturnsInHanded {} C os f .any (fun w args => (s.pre enc C.prog fn [] false w args ∧ X w) ∧ sizedMet enc C.prog fn (OpenSpec.ofChange s) false w args) (s.post enc C.prog fn false true false false) := by
 refine returnsInHanded_of_change_and (X := fun w _ => X w) (fun w w' _ h hx => hX w w' h hx) own started noInit hfn witness ?_
 intro W base args ds gs before hval hW _ _ hL _
 have hA := hW
 obtain ⟨p, q, hA, _⟩ := hA
 refine (walk W base args ds p hval hA hL).mono fun e W' ⟨he, bel⟩ => ?_
 subst he
 exact ⟨_, rfl, law_post hl htys hres hb hvars hs hW bel⟩
end
end Go.Proofs.YticophaepapjoaaGreatDoor
namespace Go.Proofs.YticophaepapjoaaGreatDoor
open Go Go.ChangeShapes Go.WideShapes Go.ChangeAt Go.RowKit
theorem own : ownKnob Tryz.prog.godebug = none := by kernel_rfl
set_option maxRecDepth 100000 in
theorem laidOut : laidOutB Tryz.prog = true := by kernel_rfl
theorem gTaken : Tryz.prog.globalNamed "icehouse/crc.taken" = some 0 := by kernel_rfl
theorem tTaken : (Tryz.prog.globals[0]?).map (·.type) = some 266 := by kernel_rfl
abbrev listed : List (String × DataW Unit) := [("icehouse/crc.taken", Rows.laid_icehouse_crc_taken)]
set_option maxRecDepth 100000 in
theorem door_met (os : Os) (args : Array Value) : laidMetH Tryz.prog listed ((World.doorLaid Tryz.prog 400 os).forCall (fun _ _ => 0) ⟨#[], args, []⟩).memory :=
 laidMetH_of_parts3 (fuel := 8) (laidMet_of_run' 8 (by kernel_rfl) (by kernel_rfl)) (by kernel_rfl) (by kernel_rfl)
def tab : List (DataW Unit) := (List.range 16).map fun i => .lit (.int .u32 ((tbits 4 i : Nat) : Int))
theorem tab_is : (Rows.laid_icehouse_crc_taken : DataW Unit) = .agg tab := by kernel_rfl
set_option maxRecDepth 100000 in
theorem taken_of {W : World} (h : laidMetH Tryz.prog listed W) : Taken W := by
 rw [MakeChecks.laidMetH_plain _ _ _ (by kernel_rfl)] at h
 obtain ⟨ps, ⟨g0, t0, cs0, f0, p0, q0, hg0, ht0, hv0, hd0, _⟩, _⟩ := h
 obtain rfl := Option.some.inj (gTaken.symm.trans hg0)
 obtain rfl := Option.some.inj (tTaken.symm.trans ht0)
 rw [tab_is] at hd0
 obtain ⟨xs, m, rfl, hx, hlen, hn, hel⟩ := DataW.trod_array Tryz.underlying266 hd0
 have c1 : Tryz.prog.cellsOf 217 = 1 := by kernel_rfl
 simp only [Prod.mk.injEq, DataW.agg.injEq] at hx
 intro i hi
 have he := hel i hi
 rw [c1, Nat.mul_one] at he
 have hxi : i < xs.length := by omega
 rw [List.getElem?_eq_getElem hxi] at he
 obtain ⟨n, e1, e2, _⟩ := DataW.trod_int Tryz.underlying217 he
 have e3 : (xs.map (·.1))[i]? = some (.lit (.int .u32 n)) := by rw [List.getElem?_map, List.getElem?_eq_getElem hxi, e2]; rfl
 rw [← hx.1] at e3
 have e4 : tab[i]? = some (.lit (.int .u32 ((tbits 4 i : Nat) : Int))) := by unfold tab; simp [hi]
 rw [e4] at e3
 have hk : n = ((tbits 4 i : Nat) : Int) := by injection e3 with e; injection e with e; injection e with _ e; exact e.symm
 have hc := World.var?_cell hg0 hv0 i
 rw [hc]
 have e5 : cs0.toList[i]? = some (.int .u32 n) := by
  have := congrArg (·[0]?) e1
  simpa [List.getElem?_take, List.getElem?_drop] using this
 rw [← Array.getElem?_toList, e5, hk]
end Go.Proofs.YticophaepapjoaaGreatDoor
namespace Go.Proofs.YticophaepapjoaaGreatDoor
open Go Go.ChangeShapes Go.WideShapes Go.ChangeAt Go.RowKit Go.Deep
section
variable {H : Type} {enc : TypeId × Value → H} {P : Program} {W : World}
theorem open_list {α : Type} [Inhabited α] (val : α → Value) (good : α → Prop) {t e : TypeId} {fuel : Nat} {cs : List Value} {x : DataW H × List MemPlace} (ht : P.underlying t = some (.slice e)) (ce : P.cellsOf e = 1)
  (hel : ∀ n v y, DataW.trod enc P W 0 (fun _ => true) true n e [v] = some y → ∃ a, v = val a ∧ good a) (hf : DataW.trod enc P W 0 (fun _ => true) true fuel t cs = some x) :
  ∃ (A : Option Addr) (cap : Nat) (l : List α), cs = [.slice A l.length cap] ∧ l.length ≤ cap ∧ cap ≤ maxLen ∧ (A = none → cap = 0) ∧ Row W A (fun b => b < W.heap.size) (l.map val) ∧ ∀ a ∈ l, good a := by
 rcases open_slice1 ht ce hf with ⟨hcs, _⟩ | ⟨ad, len, cap, m, fu, V, D, Pl, hcs, _, hl, hm, hmm, _, hcell⟩
 ·exact ⟨none, 0, [], hcs, Nat.le_refl _, Nat.zero_le _, (fun _ => rfl), Row.nil _ _ _, by simp⟩
 ·simp only [if_true] at hmm
  subst hmm
  obtain ⟨f, hpf⟩ := choose_lt (n := len) (p := fun i a => V i = val a ∧ good a) fun i hi => hel fu (V i) _ (hcell i (by omega)).2
  refine ⟨some ad, m, (List.range len).map f, by simpa using hcs, by simpa using hl, hm, (fun h => by cases h), (fun hne => ?_), fun a ha => ?_⟩
  ·have hpos : 0 < len := by
    rcases Nat.eq_zero_or_pos len with h0 | h0
    ·subst h0; simp at hne
    ·exact h0
   obtain ⟨b, off, spot⟩ := ad
   have hspot : spot = none := by simpa [Addr.add] using World.cell?_spot (hcell 0 (by omega)).1
   subst hspot
   have h0 := (hcell 0 (by omega)).1
   rw [add_plain] at h0
   refine ⟨b, off, rfl, World.block_lt_of_cell? W _ h0, fun i v hv => ?_⟩
   have hi : i < len := by
    have := (List.getElem?_eq_some_iff.1 hv).1
    simpa using this
   rw [List.getElem?_map, List.getElem?_map, List.getElem?_range hi] at hv
   simp only [Option.map_some, Option.some.injEq] at hv
   have hc := (hcell i (by omega)).1
   rw [add_plain, (hpf i hi).1] at hc
   rw [hc, hv]
  ·obtain ⟨j, hj, rfl⟩ := List.mem_map.1 ha
   exact (hpf j (List.mem_range.1 hj)).2
theorem open_bools {t e : TypeId} {fuel : Nat} {cs : List Value} {x : DataW H × List MemPlace} (ht : P.underlying t = some (.slice e)) (he : P.underlying e = some .bool) (ce : P.cellsOf e = 1) (hf : DataW.trod enc P W 0 (fun _ => true) true fuel t cs = some x) :
  ∃ (A : Option Addr) (cap : Nat) (l : List Bool), cs = [.slice A l.length cap] ∧ l.length ≤ cap ∧ cap ≤ maxLen ∧ (A = none → cap = 0) ∧ Row W A (fun b => b < W.heap.size) (l.map Value.bool) := by
 obtain ⟨A, cap, l, h1, h2, h3, h4, h5, _⟩ := open_list (α := Bool) Value.bool (fun _ => True) ht ce (fun n v y h => by
  obtain ⟨b, hb, _⟩ := DataW.trod_bool he h
  exact ⟨b, (List.cons.inj hb).1, trivial⟩) hf
 exact ⟨A, cap, l, h1, h2, h3, h4, h5⟩
theorem open_bools_whole {t e : TypeId} {v : Value} {d : DataW H} {ps : List MemPlace} {base : Nat} (ht : P.underlying t = some (.slice e)) (he : P.underlying e = some .bool) (ce : P.cellsOf e = 1)
  (hok : Value.okWide P W .any base t v) (h : DataW.Trod enc P W 0 (fun _ => true) true t v d ps) :
  ∃ (A : Option Addr) (cap : Nat) (l : List Bool), v = .slice A l.length cap ∧ l.length ≤ cap ∧ cap ≤ maxLen ∧ (A = none → cap = 0) ∧ Row W A (fun b => b < W.heap.size) (l.map Value.bool) := by
 obtain ⟨a, len, cap, rfl⟩ := okWide_slice ht hok
 obtain ⟨fuel, hf⟩ := h
 obtain ⟨A, c, l, hcs, h1, h2, h3, h4⟩ := open_bools ht he ce hf
 simp [Value.cells] at hcs
 obtain ⟨rfl, rfl, rfl⟩ := hcs
 exact ⟨_, _, l, rfl, h1, h2, h3, h4⟩
end
end Go.Proofs.YticophaepapjoaaGreatDoor
