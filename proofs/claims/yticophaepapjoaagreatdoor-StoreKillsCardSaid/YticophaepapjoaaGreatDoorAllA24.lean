/-
  JrBegun, JrName, JrLocs, IxFind, IxAdd, JnMath, JnRep, JnMark, JnSmall: texts of mine, joined.
-/
import Derived.Test.YticophaepapjoaaGreatDoorAllA18
import Derived.Outline
import Derived.Test.YticophaepapjoaaGreatDoorAllA03
import Derived.Test.YticophaepapjoaaGreatDoorAllA02
import Derived.Test.YticophaepapjoaaGreatDoorAllA14
import Derived.Lib.SmallJoins
import Derived.Test.YticophaepapjoaaGreatDoorAllA08
import Derived.Test.YticophaepapjoaaGreatDoorAllA07
import Derived.Test.YticophaepapjoaaGreatDoorAllA06
namespace Go.Proofs.YticophaepapjoaaGreatDoor
open Go Go.RowKit Go.Joins
section
variable {o : Oper} {a : Act} {w : World} {Q : Exit → Act → World → Prop} {x y z : Operand}
def Vl (l : List Value) : Nat → World → Value → Prop := fun i => IsV (l.getD i undef)
theorem kp_atM {b f n c i : Nat} (hi : i < n) (ho : o.op = .indexAddr 68 x y) (hx : a.eval x = .slice (some ⟨b, f, none⟩) n c) (hy : a.eval y = .int .i64 (i : Int)) :
  o.wp Tryz.prog a w (fun a' w' => ∃ v, a' = a.put o.dst v ∧ Kp w w' ∧ IsV (.pointer (some ⟨b, f + i * 2, none⟩)) w' v) Q := by
 refine kp_yield (v := .pointer (some ⟨b, f + i * 2, none⟩)) (w' := w) ?_ (Keeps.refl _ _) rfl
 generalize a.eval = ρ at hx hy ⊢
 unfold execOp
 go_simp
theorem kp_fM0 {b f : Nat} (ho : o.op = .fieldAddr 72 x 0) (hx : a.eval x = .pointer (some ⟨b, f, none⟩)) : o.wp Tryz.prog a w (fun a' w' => ∃ v, a' = a.put o.dst v ∧ Kp w w' ∧ IsV (.pointer (some ⟨b, f, none⟩)) w' v) Q := by
 refine kp_yield (v := .pointer (some ⟨b, f, none⟩)) (w' := w) ?_ (Keeps.refl _ _) rfl
 generalize a.eval = ρ at hx ⊢
 unfold execOp
 go_simp
theorem kp_fM1 {b f : Nat} (ho : o.op = .fieldAddr 72 x 1) (hx : a.eval x = .pointer (some ⟨b, f, none⟩)) : o.wp Tryz.prog a w (fun a' w' => ∃ v, a' = a.put o.dst v ∧ Kp w w' ∧ IsV (.pointer (some ⟨b, f + 1, none⟩)) w' v) Q := by
 refine kp_yield (v := .pointer (some ⟨b, f + 1, none⟩)) (w' := w) ?_ (Keeps.refl _ _) rfl
 generalize a.eval = ρ at hx ⊢
 unfold execOp
 go_simp
theorem kp_ldI {p : Addr} {n : Int} (hc : w.cell? p = some (.int .i64 n)) (ho : o.op = .load 2 x) (hx : a.eval x = .pointer (some p)) : o.wp Tryz.prog a w (fun a' w' => ∃ v, a' = a.put o.dst v ∧ Kp w w' ∧ IsV (.int .i64 n) w' v) Q := by
 refine kp_yield (v := .int .i64 n) (w' := w) ?_ (Keeps.refl _ _) rfl
 generalize a.eval = ρ at hx ⊢
 unfold execOp
 rw [ho]
 go_simp
theorem kp_ldT {p : Addr} {s : ByteArray} (hc : w.cell? p = some (.string s)) (ho : o.op = .load 9 x) (hx : a.eval x = .pointer (some p)) : o.wp Tryz.prog a w (fun a' w' => ∃ v, a' = a.put o.dst v ∧ Kp w w' ∧ IsV (.string s) w' v) Q := by
 refine kp_yield (v := .string s) (w' := w) ?_ (Keeps.refl _ _) rfl
 generalize a.eval = ρ at hx ⊢
 unfold execOp
 rw [ho]
 go_simp
theorem kp_neqI {m n : Int} {b : Bool} (hb : (m != n) = b) (ho : o.op = .binOp .neq 2 x y 2) (hx : a.eval x = .int .i64 m) (hy : a.eval y = .int .i64 n) : o.wp Tryz.prog a w (fun a' w' => ∃ v, a' = a.put o.dst v ∧ Kp w w' ∧ IsV (.bool b) w' v) Q := by
 subst hb
 refine kp_yield (v := .bool (m != n)) (w' := w) ?_ (Keeps.refl _ _) rfl
 generalize a.eval = ρ at hx hy ⊢
 unfold execOp
 rw [ho]
 go_simp
theorem kp_neqT {s : ByteArray} (ho : o.op = .binOp .neq 9 x y 9) (hx : a.eval x = .string s) (hy : a.eval y = .string s) : o.wp Tryz.prog a w (fun a' w' => ∃ v, a' = a.put o.dst v ∧ Kp w w' ∧ IsV (.bool false) w' v) Q := by
 refine kp_yield (v := .bool false) (w' := w) ?_ (Keeps.refl _ _) rfl
 generalize a.eval = ρ at hx hy ⊢
 unfold execOp
 rw [ho]
 go_simp
end
set_option maxRecDepth 100000 in
set_option maxHeartbeats 1000000 in
theorem ixfind_any (w : World) (q g n c : Nat) (T : Tab) (st : IxSt) (hI : IxAt w q g n c T) (hT : TabOk hashN T n st) (hn : n ≤ 1099511627776) (k : ByteArray) :
  Calls Tryz.prog 68 #[.pointer (some ⟨q, 0, none⟩), .string k, .int .u64 ((hashN k : Nat) : Int)] w fun e w' => w' = w ∧
   ((∃ i, i < n ∧ (T i).full = true ∧ (T i).key = k ∧ e = .returned (.tuple #[.int .i64 (i : Int), .bool true])) ∨ (ixGet st k = none ∧ e = .returned (.tuple #[.int .i64 0, .bool false]))) := by
 obtain ⟨f, hf1, hf2⟩ := hT.free
 have h0 := hT.pos
 have hh := hashN_lt k
 have HI := Lib.hid hI
 have HT := Lib.hid hT
 have c0 := hI.blk.c0
 have hne : ¬ ((n : Int) = 0) := by omega
 have hHome := Lib.hid (home_any w q g n c T hI h0 hn (hashN k) hh)
 have hS := Seen.start (h := hashN) (T := T) h0 k
 have HS := Lib.hid hS
 have hBeh := Lib.hid (fun i hi => ixbehind_any w q g n c T hI i hi hn)
 clear hI hT hS hh
 generalize hX : hashN k = X at hHome HS ⊢
 have HX := Lib.hid hX
 clear hX
 go_enter Tryz.func68, Tryz.ntmps68
 go_wp2_with fail
 refine (show Calls _ _ _ _ _ from hHome.out).mono ?_
 rintro e w1 ⟨rfl, rfl⟩
 clear hHome
 have HS : Hid (Seen hashN T n k 0 (X % n)) := by rw [← HX.out] at HS ⊢; exact HS
 generalize X % n = i0 at HS ⊢
 go_wp2_with fail
 go_loopw [8] (fun i wr => ∃ j d : Nat, j < n ∧ i = .int .i64 (j : Int) ∧ wr = w1 ∧ Hid (Seen hashN T n k d j)) (fun i _ => n - way n (hashN k % n) (intOf i).toNat)
 case atStart => exact ⟨i0, 0, HS.out.lt, rfl, rfl, HS⟩
 case round =>
  clear HS
  obtain ⟨j, d, hj, rfl, rfl, HS⟩ := hrel
  have t1 := HI.out.tab.c1 hj
  have t0 := HI.out.tab.c0 hj
  have t3 := HI.out.tab.c3 hj
  have hw := HS.out.way
  cases hful : (T j).full with
  | false =>
   rw [hful] at t3
   have HF := Lib.hid (HS.out.miss HT.out hful)
   clear hful hw t0 t1
   go_wp2_with fail
   go_ret2
   exact ⟨rfl, .inr ⟨HF.out, rfl⟩⟩
  | true =>
   rw [hful] at t3
   have hhash := HT.out.hash j hj hful
   generalize hK : (T j).key = K at t0 hhash
   by_cases hk : K = k
   ·subst hk
    have HF := Lib.hid (show ∃ i, i < n ∧ (T i).full = true ∧ (T i).key = K ∧ Ending.returned (.tuple #[.int .i64 (j : Int), .bool true]) = .returned (.tuple #[.int .i64 (i : Int), .bool true]) from ⟨j, hj, hful, hK, rfl⟩)
    have hX := HX.out
    rw [hX] at hhash
    rw [hhash] at t1
    clear hful hw hhash hX hK
    go_wp2_with fail
    go_ret2
    exact ⟨rfl, .inl HF.out⟩
   ·have hne2 : (K.toList == k.toList) = false := by
     rw [beq_eq_false_iff_ne]
     intro e
     rw [ByteArray.toList_eq, ByteArray.toList_eq] at e
     exact hk (ByteArray.ext (Array.toList_inj.1 e))
    have HN := Lib.hid (HS.out.next hf1 hf2 hful (by rw [hK]; exact hk))
    have hj2 := HN.out.lt
    have hw2 := HN.out.way
    have hd2 := HN.out.dn
    have HW := Lib.hid (show n - way n (hashN k % n) (nx n j 1) < n - way n (hashN k % n) j by omega)
    have hB := Lib.hid (hBeh.out j hj)
    clear hful hw hhash hK hk hw2 hd2 HS
    generalize nx n j 1 = j2 at HN hj2 HW hB
    generalize hZ : (T j).hash = Z at t1
    clear hZ
    by_cases hz : Z = (X : Int)
    ·subst hz
     go_wp2_with fail
     refine (show Calls _ _ _ _ _ from hB.out).mono ?_
     rintro e w2 ⟨rfl, rfl⟩
     go_wp2_with fail
     go_roundw
     case rel => exact ⟨j2, d + 1, hj2, rfl, trivial, HN⟩
     case measure => simp only [intOf, Int.toNat_natCast]; exact HW.out
    ·have hz' : (Z == (X : Int)) = false := by rw [beq_eq_false_iff_ne]; exact hz
     go_wp2_with fail
     refine (show Calls _ _ _ _ _ from hB.out).mono ?_
     rintro e w2 ⟨rfl, rfl⟩
     go_wp2_with fail
     go_roundw
     case rel => exact ⟨j2, d + 1, hj2, rfl, trivial, HN⟩
     case measure => simp only [intOf, Int.toNat_natCast]; exact HW.out
def Off (q g : Nat) : Nat → Prop := fun b => b ≠ q ∧ b ≠ g
def put4 (w : World) (g i : Nat) (s : Sl) : World := (((w.setCell ⟨g, i * 4, none⟩ (.string s.key)).setCell ⟨g, i * 4 + 1, none⟩ (.int .u64 s.hash)).setCell ⟨g, i * 4 + 2, none⟩ (.int .i64 s.pos)).setCell ⟨g, i * 4 + 3, none⟩ (.bool s.full)
section
variable {w w' W : World} {q g n c i : Nat} {T : Tab}
theorem put4_keeps (w : World) (g i : Nat) (s : Sl) {G : Nat → Prop} (hk : Keeps G W w) (hg : W.heap.size ≤ g ∨ ¬ G g) : Keeps G W (put4 w g i s) :=
 (((hk.setCell (p := ⟨g, i * 4, none⟩) hg _).setCell (p := ⟨g, i * 4 + 1, none⟩) hg _).setCell (p := ⟨g, i * 4 + 2, none⟩) hg _).setCell (p := ⟨g, i * 4 + 3, none⟩) hg _
theorem IxAt.put4 (h : IxAt w q g n c T) (hi : i < n) (s : Sl) : IxAt (put4 w g i s) q g n c (setT T i s) :=
 ⟨h.blk.keep (put4_keeps w g i s (Keeps.refl (fun b => b ≠ g) w) (.inr fun e => e rfl)) (fun e => h.ne e.symm), h.tab.store hi s, h.ne⟩
theorem IxAt.count (h : IxAt w q g n c T) (c' : Nat) : IxAt (w.setCell ⟨q, 1, none⟩ (.int .i64 (c' : Int))) q g n c' T :=
 ⟨h.blk.set1 c', h.tab.keep ((Keeps.refl (fun b => b ≠ q) w).setCell (p := ⟨q, 1, none⟩) (.inr fun e => e rfl) _) h.ne, h.ne⟩
theorem IxAt.drew (h : IxAt w q g n c T) : IxAt w.drew q g n c T := h.keep (G := fun _ => True) ((Keeps.refl _ w).drew) trivial trivial
end
set_option maxRecDepth 100000 in
set_option maxHeartbeats 1000000 in
theorem add_any (w : World) (q g n c : Nat) (T : Tab) (st : IxSt) (hI : IxAt w q g n c T) (hT : TabOk hashN T n st) (hn : n ≤ 1099511627776) (hc : c ≤ 1099511627776) (k : ByteArray) (p : Int) (hno : ixGet st k = none) (hroom : st.length + 1 < n) :
  Calls Tryz.prog 140 #[.pointer (some ⟨q, 0, none⟩), .agg #[.string k, .int .u64 ((hashN k : Nat) : Int), .int .i64 p, .bool true]] w fun e w' => e = .returned (.tuple #[]) ∧ ∃ T', IxAt w' q g n (c + 1) T' ∧ TabOk hashN T' n (st ++ [(k, p)]) ∧ Keeps (Off q g) w w' := by
 obtain ⟨f, hf1, hf2⟩ := hT.free
 have h0 := hT.pos
 have hh := hashN_lt k
 have hq := hI.blk.lt
 have hg := hI.tab.lt
 have hne := hI.ne
 obtain ⟨w1, hw1⟩ : ∃ w1, w.alloc (.cells #[.string k, .int .u64 ((hashN k : Nat) : Int), .int .i64 p, .bool true] 126) = w1 := ⟨_, rfl⟩
 have HK1 := Lib.hid (show Keeps (Off q g) w w1 by rw [← hw1]; exact (Keeps.refl _ w).alloc _)
 have hI1 : IxAt w1 q g n c T := by rw [← hw1]; exact hI.keep (G := fun _ => True) ((Keeps.refl _ w).alloc _) trivial trivial
 have hb1 : w1.heap[w.heap.size]? = some (.cells #[.string k, .int .u64 ((hashN k : Nat) : Int), .int .i64 p, .bool true] 126 (0, 0)) := by rw [← hw1]; exact heap_alloc_new w _
 have HW1 := Lib.hid hw1
 have HT := Lib.hid hT
 have HS := Lib.hid (Seen.start (h := hashN) (T := T) h0 k)
 have HNO := Lib.hid hno
 have HI := Lib.hid hI1
 have hHome := Lib.hid (home_any w1 q g n c T hI1 h0 hn (hashN k) hh)
 have hBeh := Lib.hid (fun i hi => ixbehind_any w1 q g n c T hI1 i hi hn)
 have bc0 : w1.cell? ⟨w.heap.size, 0, none⟩ = some (.string k) := (cell_of_block hb1 0).trans rfl
 have bc1 : w1.cell? ⟨w.heap.size, 1, none⟩ = some (.int .u64 ((hashN k : Nat) : Int)) := (cell_of_block hb1 1).trans rfl
 have bc2 : w1.cell? ⟨w.heap.size, 2, none⟩ = some (.int .i64 p) := (cell_of_block hb1 2).trans rfl
 have bc3 : w1.cell? ⟨w.heap.size, 3, none⟩ = some (.bool true) := (cell_of_block hb1 3).trans rfl
 have bne : w.heap.size ≠ q ∧ w.heap.size ≠ g := by omega
 clear hI hT hno hw1 hb1 hI1
 generalize hX : hashN k = X at *
 have HX := Lib.hid hX
 clear hX
 go_enter Tryz.func140, Tryz.ntmps140
 go_wp2_with fail
 rw [HW1.out]
 refine (show Calls _ _ _ _ _ from hHome.out).mono ?_
 rintro e w2 ⟨rfl, rfl⟩
 clear hHome HW1
 generalize w.heap.size = b at *
 generalize X % n = i0 at HS ⊢
 have c0 := HI.out.blk.c0
 go_wp2_with fail
 go_loopw [4] (fun i wr => ∃ j d : Nat, j < n ∧ i = .int .i64 (j : Int) ∧ wr = w2 ∧ d < n ∧ Hid (j = nx n (hashN k % n) d ∧ ∀ e, e < d → (T (nx n (hashN k % n) e)).full = true)) (fun i _ => n - way n (hashN k % n) (intOf i).toNat)
 case atStart => exact ⟨i0, 0, HS.out.lt, rfl, rfl, h0, Lib.hid ⟨HS.out.at_, HS.out.full⟩⟩
 case round =>
  clear HS
  obtain ⟨j, d, hj, rfl, rfl, hd, HS⟩ := hrel
  have t3 := HI.out.tab.c3 hj
  cases hful : (T j).full with
  | false =>
   rw [hful] at t3
   have HA := Lib.hid (HT.out.add HS.out.2 hd HS.out.1 hful HNO.out p hroom)
   clear hful HS
   have c1 := HI.out.blk.c1
   have ff := fun i => HI.out.blk.f0 i
   have tf := HI.out.tab.ice
   have t0 := HI.out.tab.c0 hj
   have t1 := HI.out.tab.c1 hj
   have t2 := HI.out.tab.c2 hj
   go_wp2_with fail
   go_region
   go_wp2_with fail
   have hfin : IxAt (((put4 wr g j ⟨k, (X : Int), p, true⟩).setCell ⟨q, 1, none⟩ (.int .i64 ((c + 1 : Nat) : Int))).drew) q g n (c + 1) (setT T j ⟨k, (X : Int), p, true⟩) := ((HI.out.put4 hj _).count (c + 1)).drew
   have hkp : Keeps (Off q g) w (((put4 wr g j ⟨k, (X : Int), p, true⟩).setCell ⟨q, 1, none⟩ (.int .i64 ((c + 1 : Nat) : Int))).drew) := (((put4_keeps wr g j _ HK1.out (.inr fun e => e.2 rfl))).setCell (p := ⟨q, 1, none⟩) (.inr fun e => e.1 rfl) _).drew
   have ec : ((c + 1 : Nat) : Int) = (c : Int) + 1 := by omega
   have hA := HA.out
   rw [HX.out] at hA
   rw [ec] at hfin hkp
   go_end0
   exact ⟨rfl, _, hfin, hA, hkp⟩
  | true =>
   rw [hful] at t3
   have hd2 : d + 1 < n := by
    refine Classical.byContradiction fun hh => ?_
    have hm := Nat.mod_lt (hashN k) h0
    have hw := way_lt hm hf1
    have hx := nx_way hm hf1
    rcases Nat.lt_or_ge (way n (hashN k % n) f) d with h1 | h1
    ·have := HS.out.2 _ h1
     rw [hx, hf2] at this; cases this
    ·have e : way n (hashN k % n) f = d := by omega
     rw [e, ← HS.out.1] at hx
     rw [hx, hf2] at hful; cases hful
   have hm := Nat.mod_lt (hashN k) h0
   have HN := Lib.hid (show nx n j 1 = nx n (hashN k % n) (d + 1) ∧ ∀ e, e < d + 1 → (T (nx n (hashN k % n) e)).full = true from by
    refine ⟨by rw [HS.out.1, nx_one hm hd2], fun e he => ?_⟩
    rcases Nat.lt_or_ge e d with h1 | h1
    ·exact HS.out.2 e h1
    ·have : e = d := by omega
     rw [this, ← HS.out.1]; exact hful)
   have HW := Lib.hid (show n - way n (hashN k % n) (nx n j 1) < n - way n (hashN k % n) j from by
    have w1 : way n (hashN k % n) j = d := by rw [HS.out.1]; exact way_nx hm hd
    have w2 : way n (hashN k % n) (nx n j 1) = d + 1 := by rw [HN.out.1]; exact way_nx hm hd2
    omega)
   have hj2 : nx n j 1 < n := nx_lt hj (by omega)
   have hB := Lib.hid (hBeh.out j hj)
   clear hful hm HS
   generalize nx n j 1 = j2 at HN hj2 HW hB
   go_wp2_with fail
   refine (show Calls _ _ _ _ _ from hB.out).mono ?_
   rintro e w2 ⟨rfl, rfl⟩
   go_wp2_with fail
   go_roundw
   case rel => exact ⟨j2, d + 1, hj2, rfl, trivial, hd2, HN⟩
   case measure => simp only [intOf, Int.toNat_natCast]; exact HW.out
end Go.Proofs.YticophaepapjoaaGreatDoor
namespace Go.Proofs.YticophaepapjoaaGreatDoor
open Go
def markB (n : Nat) (k : ByteArray) : List UInt8 := putZ (n : Int) ++ putT k.data.toList
theorem markB_len {n : Nat} {k : ByteArray} (hn : n ≤ 40000) (hk : keyOk k) : 1 ≤ (markB n k).length ∧ (markB n k).length ≤ 44 := by
 have kx : k.data.toList.length = k.size := by simp
 have z : ∀ n : Int, 0 ≤ n → zig n = (2 * n).toNat := fun n hn => by unfold zig; rw [if_neg (by omega)]
 have h1 : (putZ (n : Int)).length ≤ 3 := vin_len 2 _ (by rw [z _ (by omega)]; omega)
 have h2 : (putZ (k.data.toList.length : Int)).length ≤ 1 := vin_len 0 _ (by rw [z _ (by omega)]; have := hk.2; omega)
 have h3 : 0 < (putZ (n : Int)).length := vin_pos _
 have h4 := hk.2
 unfold markB putT
 simp only [List.length_append]
 omega
theorem jsnoc_is {α : Type} (l : List α) (h : l ≠ []) : ∃ a b, l = a ++ [b] := ⟨l.dropLast, l.getLast h, (List.dropLast_concat_getLast h).symm⟩
theorem jopened_snoc (l : List LRec) (r : LRec) : opened (l ++ [r]) = l ++ [⟨r.pos, r.body, r.opens + 1⟩] := by
 induction l with
 | nil => rfl
 | cons a l ih =>
  cases l with
  | nil => rfl
  | cons b l => show a :: opened ((b :: l) ++ [r]) = _; rw [ih]; rfl
theorem jopened_key (l : List LRec) : (opened l).map LRec.key = l.map LRec.key := by
 by_cases hl : l = []
 ·subst hl; rfl
 ·obtain ⟨a, r, rfl⟩ := jsnoc_is l hl
  rw [jopened_snoc]; simp [LRec.key]
theorem jopened_len (l : List LRec) : (opened l).length = l.length := by
 have := congrArg List.length (jopened_key l)
 simpa using this
theorem jopened_sum (l : List LRec) : ((opened l).map (·.opens)).sum ≤ (l.map (·.opens)).sum + 1 := by
 by_cases hl : l = []
 ·subst hl; exact Nat.zero_le _
 ·obtain ⟨a, r, rfl⟩ := jsnoc_is l hl
  rw [jopened_snoc]
  simp only [List.map_append, List.sum_append, List.map_cons, List.map_nil, List.sum_cons, List.sum_nil]
  omega
theorem jopened_body (l : List LRec) (i : Nat) (h : i < (opened l).length) (h' : i < l.length) : ((opened l)[i]).body = (l[i]).body := by
 have e := congrArg (fun m => m[i]?) (jopened_key l)
 simp only [List.getElem?_map, List.getElem?_eq_getElem h, List.getElem?_eq_getElem h', Option.map_some, Option.some.injEq] at e
 exact congrArg Prod.snd e
theorem jcosts_le (l : List LRec) (h : ∀ r ∈ l, r.body.length ≤ 44) : costs l ≤ 104 * l.length + 400 * (l.map (·.opens)).sum := by
 induction l with
 | nil => exact Nat.zero_le _
 | cons r l ih =>
  have h1 := ih fun x hx => h x (List.mem_cons_of_mem _ hx)
  have h2 := h r List.mem_cons_self
  have e1 : costs (r :: l) = r.cost + costs l := by simp [costs]
  rw [e1]
  simp only [List.length_cons, List.map_cons, List.sum_cons]
  unfold LRec.cost
  omega
theorem jsum_drop (l : List LRec) (n : Nat) : ((l.drop n).map (·.opens)).sum ≤ (l.map (·.opens)).sum := by
 have e : (l.map (·.opens)).sum = ((l.take n).map (·.opens)).sum + ((l.drop n).map (·.opens)).sum := by
  rw [← List.sum_append, ← List.map_append, List.take_append_drop]
 omega
structure JM (st : JSt) (lst : LSt) : Prop where
 len : lst.hist.length = st.keys.length
 body : ∀ i (h : i < lst.hist.length), (lst.hist[i]).body = markB (i + 1) (st.keys.getD i default)
 one : ∀ k ∈ st.keys, keyOk k
 opens : ∃ o, (lst.hist.map (·.opens)).sum ≤ o ∧ (st.kept + 4 * o ≤ 32 ∨ st.kept = 0)
 place : lst.place = st.place
 segs : lst.segs = st.segs
 many : 20 ≤ st.segs ∧ st.segs ≤ 200
 base : st.base = lst.gone
 some : st.keys ≠ [] → lst.gone < lst.hist.length
 age : lst.hist.length ≤ st.age
 next : lst.next ≤ 1048576 * st.age
 old : st.age ≤ 30000
section
variable {st : JSt} {lst : LSt}
theorem JM.short (h : JM st lst) : ∀ r ∈ lst.hist, r.body.length ≤ 44 := fun r hr => by
 obtain ⟨i, hi, rfl⟩ := List.getElem_of_mem hr
 rw [h.body i hi]
 have hi2 : i < st.keys.length := by rw [← h.len]; exact hi
 refine (markB_len (by have := h.age; have := h.old; omega) ?_).2
 rw [List.getD_eq_getElem?_getD, List.getElem?_eq_getElem hi2]
 exact h.one _ (List.getElem_mem hi2)
theorem JM.ok (h : JM st lst) (ho : lst.Ok) : st.Ok := by
 refine ⟨h.many, h.one, ?_⟩
 obtain ⟨o, h1, h2⟩ := h.opens
 rw [h.base, ← h.len]
 refine ho.kept _ (Nat.sub_le _ _) ?_
 have h3 := jcosts_le (lst.hist.drop (lst.hist.length - st.kept)) fun r hr => h.short r (List.mem_of_mem_drop hr)
 have h4 := jsum_drop lst.hist (lst.hist.length - st.kept)
 rw [List.length_drop] at h3
 have h5 := h.many.1
 rw [h.segs]
 rcases h2 with h2 | h2
 ·omega
 ·rw [h2, Nat.sub_zero, List.drop_length] at h3 ⊢
  exact Nat.zero_le _
theorem JM.has (h : JM st lst) (i : Nat) : lst.has i ↔ st.has i := by
 unfold LSt.has JSt.has
 rw [h.place, h.segs]
theorem JM.older (h : JM st lst) {n : Nat} (h1 : st.age ≤ n) (h2 : n ≤ 30000) : JM ⟨st.place, st.segs, st.keys, st.base, st.kept, n⟩ lst :=
 { h with age := by have := h.age; show _ ≤ n; omega, next := by have := h.next; show _ ≤ 1048576 * n; omega, old := h2 }
theorem JM.start (p i n f x : Nat) (hn : 20 ≤ n ∧ n ≤ 200) (hx : x ≤ 1048576) : JM ⟨i, n, [], 0, 32, 1⟩ ⟨p, i, n, [], 0, f, x⟩ :=
 ⟨rfl, fun i h => absurd h (Nat.not_lt_zero _), fun k hk => by simp at hk, ⟨0, Nat.le_refl _, .inl (Nat.le_refl _)⟩, rfl, rfl, hn, rfl, fun h => absurd rfl h, Nat.zero_le _, by show x ≤ 1048576 * 1; omega, by show 1 ≤ 30000; decide⟩
theorem JM.opened (h : JM st lst) {p f x : Nat} (hx : x ≤ lst.next + 1048576) (hage : st.age + 1 ≤ 30000) : JM ⟨st.place, st.segs, st.keys, st.base, st.kept - 4, st.age + 1⟩ ⟨p, st.place, st.segs, Go.Proofs.YticophaepapjoaaGreatDoor.opened lst.hist, lst.gone, f, x⟩ := by
 obtain ⟨o, h1, h2⟩ := h.opens
 have hl := jopened_len lst.hist
 refine ⟨hl.trans h.len, fun i hi => ?_, h.one, ⟨o + 1, ?_, ?_⟩, rfl, rfl, h.many, h.base, fun hne => ?_, ?_, ?_, hage⟩
 ·have hi' : i < lst.hist.length := by rw [← hl]; exact hi
  exact (jopened_body lst.hist i hi hi').trans (h.body i hi')
 ·exact Nat.le_trans (jopened_sum _) (Nat.succ_le_succ h1)
 ·show st.kept - 4 + 4 * (o + 1) ≤ 32 ∨ st.kept - 4 = 0
  omega
 ·show lst.gone < (Go.Proofs.YticophaepapjoaaGreatDoor.opened lst.hist).length
  rw [hl]; exact h.some hne
 ·show (Go.Proofs.YticophaepapjoaaGreatDoor.opened lst.hist).length ≤ st.age + 1
  rw [hl]; have := h.age; omega
 ·show x ≤ 1048576 * (st.age + 1)
  have := h.next; omega
theorem JM.add (h : JM st lst) {k : ByteArray} (hk : keyOk k) {p pos g f y : Nat} (hy : y ≤ lst.next + 1048576) (hage : st.age + 1 ≤ 30000)
  (hok : (⟨p, lst.place, lst.segs, lst.hist ++ [⟨pos, markB (lst.hist.length + 1) k, 0⟩], g, f, y⟩ : LSt).Ok) :
  JM ⟨st.place, st.segs, st.keys ++ [k], g, st.kept, st.age + 1⟩ ⟨p, lst.place, lst.segs, lst.hist ++ [⟨pos, markB (lst.hist.length + 1) k, 0⟩], g, f, y⟩ := by
 obtain ⟨o, h1, h2⟩ := h.opens
 have hl := h.len
 have hb := markB_len (n := lst.hist.length + 1) (by have := h.age; omega) hk
 refine ⟨by simp [hl], fun i hi => ?_, fun x hx => ?_, ⟨o, by simpa using h1, h2⟩, h.place, h.segs, h.many, rfl, fun _ => ?_, ?_, ?_, hage⟩
 ·simp only [List.length_append, List.length_cons, List.length_nil] at hi
  rcases Nat.lt_or_ge i lst.hist.length with h3 | h3
  ·simp only [List.getElem_append_left h3, List.getD_eq_getElem?_getD, List.getElem?_append_left (show i < st.keys.length by omega)]
   rw [h.body i h3, List.getD_eq_getElem?_getD]
  ·obtain rfl : i = lst.hist.length := by omega
   simp [List.getD_eq_getElem?_getD, hl]
 ·rcases List.mem_append.1 hx with hx | hx
  ·exact h.one x hx
  ·rw [List.mem_singleton.1 hx]; exact hk
 ·have h3 := hok.kept lst.hist.length (by simp) (by
   have h5 := h.many.1
   have h6 := h.segs
   simp [costs, LRec.cost]
   omega)
  simp only [List.length_append, List.length_cons, List.length_nil] at h3 ⊢
  omega
 ·have := h.age; simp; omega
 ·have := h.next; simp only; omega
end
end Go.Proofs.YticophaepapjoaaGreatDoor
namespace Go.Proofs.YticophaepapjoaaGreatDoor
open Go Go.RowKit Go.Joins
theorem jown_lt {w : World} {base n size : Nat} {e : TypeId} {v : Value} {xs : List Value} (h : w.ownsRow base e size v n xs) : ∀ b, v.ownBlock = some b → b < w.heap.size := by
 intro b hb
 rcases h.2 with ⟨rfl, _⟩ | ⟨g, cap, cur, rfl, _, hg, _⟩
 ·cases hb
 ·injection hb with hb; subst hb; exact (Array.getElem?_eq_some_iff.1 hg).1
def posC (l : List Nat) : List Value := l.map fun x => .int .i64 ((x : Nat) : Int)
theorem posC_len (l : List Nat) : (posC l).length = l.length := by simp [posC]
def jfoot (q : Nat) (Fl : Foot) (v : Value) : Foot := ⟨fun b => b = q ∨ Fl.M b ∨ v.ownBlock = some b, Fl.I⟩
theorem jfoot_all {q : Nat} {Fl : Foot} {v : Value} {b : Nat} : (jfoot q Fl v).all b ↔ b = q ∨ Fl.all b ∨ v.ownBlock = some b := by
 unfold jfoot Foot.all
 constructor
 ·rintro ((h | h | h) | h)
  ·exact .inl h
  ·exact .inr (.inl (.inl h))
  ·exact .inr (.inr h)
  ·exact .inr (.inl (.inr h))
 ·rintro (h | (h | h) | h)
  ·exact .inl (.inl h)
  ·exact .inl (.inr (.inl h))
  ·exact .inr h
  ·exact .inl (.inr (.inr h))
def JBlk (w : World) (q lq : Nat) (bs : Int) (v : Value) : Prop := w.heap[q]? = some (.cells #[.pointer (some ⟨lq, 0, none⟩), .int .i64 bs, v] 108 (0, 0))
section
variable {w w' : World} {q lq : Nat} {bs : Int} {v : Value} {G : Nat → Prop}
theorem JBlk.keep (h : JBlk w q lq bs v) (hk : Keeps G w w') (hq : G q) : JBlk w' q lq bs v := (hk.block q hq (Array.getElem?_eq_some_iff.1 h).1).trans h
theorem JBlk.lt (h : JBlk w q lq bs v) : q < w.heap.size := (Array.getElem?_eq_some_iff.1 h).1
theorem JBlk.c0 (h : JBlk w q lq bs v) : w.cell? ⟨q, 0, none⟩ = some (.pointer (some ⟨lq, 0, none⟩)) := (cell_of_block h 0).trans rfl
theorem JBlk.c1 (h : JBlk w q lq bs v) : w.cell? ⟨q, 1, none⟩ = some (.int .i64 bs) := (cell_of_block h 1).trans rfl
theorem JBlk.c2 (h : JBlk w q lq bs v) : w.cell? ⟨q, 2, none⟩ = some v := (cell_of_block h 2).trans rfl
theorem JBlk.f (h : JBlk w q lq bs v) (i : Nat) : w.frozen? ⟨q, i, none⟩ = false := unfrozen_of_block h i
theorem JBlk.set1 (h : JBlk w q lq bs v) (x : Int) : JBlk (w.setCell ⟨q, 1, none⟩ (.int .i64 x)) q lq x v := (block_setCell h _).trans rfl
theorem JBlk.set2 (h : JBlk w q lq bs v) (v' : Value) : JBlk (w.setCell ⟨q, 2, none⟩ v') q lq bs v' := (block_setCell h _).trans rfl
end
structure JAt (S : Slog2) (w : World) (p q lq : Nat) (Fl : Foot) (bs : Int) (v : Value) (xs : List Nat) (lst : LSt) (s : SDev) : Prop where
 blk : JBlk w q lq bs v
 l : S.rep w lq Fl lst s
 on : lst.dev = p
 row : w.ownsRow 0 2 1 v xs.length (posC xs)
 ql : ¬ Fl.all q
 qv : v.ownBlock ≠ some q
 lv : ∀ b, v.ownBlock = some b → ¬ Fl.all b
section
variable {S : Slog2} {w w' : World} {p q lq : Nat} {Fl : Foot} {bs : Int} {v : Value} {xs : List Nat} {lst : LSt} {s : SDev}
theorem JAt.keep (h : JAt S w p q lq Fl bs v xs lst s) (hk : Keeps (jfoot q Fl v).all w w') : JAt S w' p q lq Fl bs v xs lst s :=
 ⟨h.blk.keep hk (jfoot_all.2 (.inl rfl)), S.keep h.l (hk.mono fun _b _ hb => jfoot_all.2 (.inr (.inl hb))), h.on, hk.own h.row fun _b hb => jfoot_all.2 (.inr (.inr hb)), h.ql, h.qv, h.lv⟩
theorem JAt.kp (h : JAt S w p q lq Fl bs v xs lst s) (hk : Kp w w') : JAt S w' p q lq Fl bs v xs lst s := h.keep (hk.mono fun _ _ _ => trivial)
theorem JAt.lt (h : JAt S w p q lq Fl bs v xs lst s) : ∀ b, (jfoot q Fl v).all b → b < w.heap.size := fun b hb => by
 rcases jfoot_all.1 hb with rfl | hb | hb
 ·exact h.blk.lt
 ·exact S.lt h.l b hb
 ·exact jown_lt h.row b hb
theorem JAt.form (h : JAt S w p q lq Fl bs v xs lst s) : ∃ A c, v = .slice A xs.length c ∧ xs.length ≤ c ∧ c ≤ maxLen := by
 obtain ⟨A, c, rfl, -, -⟩ := own_slice h.row
 have := own_cap h.row
 exact ⟨A, c, rfl, this.1, this.2.1⟩
end
def jkept (lst : LSt) : List Nat := (lst.hist.drop lst.gone).map (·.pos)
theorem jkept_len (lst : LSt) : (jkept lst).length = lst.hist.length - lst.gone := by simp [jkept]
def jrep (S : Slog2) (w : World) (p q : Nat) (Fs : Foot) (st : JSt) (s : SDev) : Prop :=
 ∃ (lq : Nat) (Fl : Foot) (v : Value) (lst : LSt), Fs = jfoot q Fl v ∧ JAt S w p q lq Fl (lst.gone : Int) v (jkept lst) lst s ∧ JM st lst
def jdisk (S : Slog2) (st : JSt) (rows : List (List UInt8)) : Prop := ∃ lst : LSt, S.disk lst rows ∧ JM st lst
section
variable {S : Slog2} {w w' : World} {p q : Nat} {Fs : Foot} {st : JSt} {s s' : SDev}
theorem jrep_wf (h : jrep S w p q Fs st s) : st.Ok := by
 obtain ⟨lq, Fl, v, lst, rfl, hc, hm⟩ := h
 exact hm.ok (S.wf hc.l)
theorem jrep_lt (h : jrep S w p q Fs st s) : ∀ b, Fs.all b → b < w.heap.size := by
 obtain ⟨lq, Fl, v, lst, rfl, hc, hm⟩ := h
 exact hc.lt
theorem jrep_keep (h : jrep S w p q Fs st s) (hk : Keeps Fs.all w w') : jrep S w' p q Fs st s := by
 obtain ⟨lq, Fl, v, lst, rfl, hc, hm⟩ := h
 exact ⟨lq, Fl, v, lst, rfl, hc.keep hk, hm⟩
theorem jrep_other (h : jrep S w p q Fs st s) (hl : s'.now.length = s.now.length) (ho : ∀ i, st.has i → s'.now.getD i [] = s.now.getD i []) : jrep S w p q Fs st s' := by
 obtain ⟨lq, Fl, v, lst, rfl, hc, hm⟩ := h
 exact ⟨lq, Fl, v, lst, rfl, { hc with l := S.other hc.l hl fun i hi => ho i ((hm.has i).1 hi) }, hm⟩
theorem jdisk_keep {rows rows' : List (List UInt8)} (h : jdisk S st rows) (hl : rows'.length = rows.length) (ho : ∀ i, st.has i → rows'.getD i [] = rows.getD i []) : jdisk S st rows' := by
 obtain ⟨lst, hd, hm⟩ := h
 exact ⟨lst, S.diskKeep hd hl fun i hi => ho i ((hm.has i).1 hi), hm⟩
theorem JGo.trans {w w1 w2 : World} {F F1 F2 Fs Fs1 Fs2 : Foot} {s s1 s2 : SDev} {st st1 : JSt} {n m : Nat} (h : JGo w w1 F F1 Fs Fs1 s s1 st n) (k : JGo w1 w2 F1 F2 Fs1 Fs2 s1 s2 st1 m) (hst : ∀ i, st1.has i ↔ st.has i) : JGo w w2 F F2 Fs Fs2 s s2 st (n + m) := by
 have hsz := h.k.size
 have all1 : ∀ b, F1.all b → F.all b ∨ w.heap.size ≤ b := fun b hb => by
  rcases hb with hb | hb
  ·rcases h.f1 b hb with h1 | h1
   ·exact .inl (.inl h1)
   ·exact .inr h1
  ·exact h.f2 b hb
 have all2 : ∀ b, Fs1.all b → Fs.all b ∨ w.heap.size ≤ b := fun b hb => by
  rcases hb with hb | hb
  ·rcases h.f3 b hb with h1 | h1
   ·exact .inl (.inl h1)
   ·exact .inr h1
  ·exact h.f4 b hb
 refine ⟨k.ap, ⟨k.k.os.trans h.k.os, k.k.tape.trans h.k.tape, k.k.output.trans h.k.output, Nat.le_trans hsz k.k.size, fun b hb hlt => ?_⟩, fun b hb => ?_, fun b hb => ?_, fun b hb => ?_, fun b hb => ?_, k.len.trans h.len, fun i hi => (k.out i fun hh => hi ((hst i).1 hh)).trans (h.out i hi), ?_⟩
 ·refine (k.k.block b ⟨fun hm => ?_, fun hm => ?_⟩ (Nat.lt_of_lt_of_le hlt hsz)).trans (h.k.block b hb hlt)
  ·rcases h.f1 b hm with h1 | h1
   ·exact hb.1 h1
   ·omega
  ·rcases h.f3 b hm with h1 | h1
   ·exact hb.2 h1
   ·omega
 ·rcases k.f1 b hb with h1 | h1
  ·exact h.f1 b h1
  ·exact .inr (Nat.le_trans hsz h1)
 ·rcases k.f2 b hb with h1 | h1
  ·exact all1 b h1
  ·exact .inr (Nat.le_trans hsz h1)
 ·rcases k.f3 b hb with h1 | h1
  ·exact h.f3 b h1
  ·exact .inr (Nat.le_trans hsz h1)
 ·rcases k.f4 b hb with h1 | h1
  ·exact all2 b h1
  ·exact .inr (Nat.le_trans hsz h1)
 ·have := h.calls; have := k.calls; omega
end
structure Jb (S : Slog2) (W w : World) (p q : Nat) (F Fs : Foot) (s : SDev) (st : JSt) : Prop where
 d : DAt w p F s
 r : jrep S w p q Fs st s
 ap : Apart F Fs
 kp : Kp W w
 gf : ∀ b, F.all b → W.heap.size ≤ b
 gs : ∀ b, Fs.all b → W.heap.size ≤ b
 room : st.place + 8 * st.segs ≤ s.now.length
section
variable {S : Slog2} {W w w' : World} {p q : Nat} {F F' Fs Fs' : Foot} {st st' : JSt} {s s' : SDev} {n : Nat}
theorem Jb.keep (h : Jb S W w p q F Fs s st) (hk : Kp w w') : Jb S W w' p q F Fs s st :=
 ⟨h.d.keep (hk.mono fun _ _ _ => trivial), jrep_keep h.r (hk.mono fun _ _ _ => trivial), h.ap, h.kp.trans hk, h.gf, h.gs, h.room⟩
theorem Jb.moved (h : Jb S W w p q F Fs s st) (hd : DAt w' p F' s') (hr : jrep S w' p q Fs' st' s') (hpl : st'.place = st.place) (hsg : st'.segs = st.segs) (hgo : JGo w w' F F' Fs Fs' s s' st n) : Jb S W w' p q F' Fs' s' st' := by
 have hsz := h.kp.size
 refine ⟨hd, hr, hgo.ap, ?_, fun b hb => ?_, fun b hb => ?_, by rw [hpl, hsg, hgo.len]; exact h.room⟩
 ·exact ⟨hgo.k.os.trans h.kp.os, hgo.k.tape.trans h.kp.tape, hgo.k.output.trans h.kp.output, Nat.le_trans hsz hgo.k.size, fun b _ hb =>
   (hgo.k.block b ⟨fun hm => by have := h.gf b (.inl hm); omega, fun hm => by have := h.gs b (.inl hm); omega⟩ (by omega)).trans (h.kp.block b trivial hb)⟩
 ·rcases hb with hb | hb
  ·rcases hgo.f1 b hb with h1 | h1
   ·exact h.gf b (.inl h1)
   ·omega
  ·rcases hgo.f2 b hb with h1 | h1
   ·exact h.gf b h1
   ·omega
 ·rcases hb with hb | hb
  ·rcases hgo.f3 b hb with h1 | h1
   ·exact h.gs b (.inl h1)
   ·omega
  ·rcases hgo.f4 b hb with h1 | h1
   ·exact h.gs b h1
   ·omega
theorem JGo.still (h : Jb S W w p q F Fs s st) (hk : Kp w w') : JGo w w' F F Fs Fs s s st 0 :=
 ⟨h.ap, hk.mono fun _ _ _ => trivial, fun _ hb => .inl hb, fun _ hb => .inl (.inr hb), fun _ hb => .inl hb, fun _ hb => .inl (.inr hb), rfl, fun _ _ => rfl, Nat.le_add_right _ _⟩
end
theorem jmay_any (w : World) (k : ByteArray) (b : Bool) (hb : b = true ↔ keyOk k) (hs : k.size ≤ 1000000) :
  Calls Tryz.prog 59 #[.string k] w fun e w' => e = .returned (.bool b) ∧ w = w' := by
 by_cases h1 : 1 ≤ k.size
 ·have t1 : decide ((1 : Int) ≤ (k.size : Int)) = true := by simp; omega
  by_cases h2 : k.size ≤ 40
  ·have t2 : decide ((k.size : Int) ≤ 40) = true := by simp; omega
   obtain rfl : b = true := hb.2 ⟨h1, h2⟩
   clear hb h1 h2
   go_enter Tryz.func59, Tryz.ntmps59
   go_wp2_with fail
   go_ret
   exact ⟨rfl, rfl⟩
  ·have t2 : decide ((k.size : Int) ≤ 40) = false := by simp; omega
   obtain rfl : b = false := by
    cases b
    ·rfl
    ·exact absurd (hb.1 rfl).2 h2
   clear hb h1 h2
   go_enter Tryz.func59, Tryz.ntmps59
   go_wp2_with fail
   go_ret
   exact ⟨rfl, rfl⟩
 ·have t1 : decide ((1 : Int) ≤ (k.size : Int)) = false := by simp; omega
  obtain rfl : b = false := by
   cases b
   ·rfl
   ·exact absurd (hb.1 rfl).1 h1
  clear hb h1
  go_enter Tryz.func59, Tryz.ntmps59
  go_wp2_with fail
  go_ret
  exact ⟨rfl, rfl⟩
def OneC (x : Value) : World → Value → Prop := fun w v => ∃ B, v = .slice (some ⟨B, 0, none⟩) 1 1 ∧ Row w (some ⟨B, 0, none⟩) (fun _ => True) [x]
theorem OneC.keep {x v : Value} {w w' : World} (h : Kp w w') (hv : OneC x w v) : OneC x w' v := by
 obtain ⟨B, e, hr⟩ := hv
 exact ⟨B, e, hr.keep h⟩
section
variable {w : World} {o : Oper} {a : Act} {Q : Exit → Act → World → Prop} {x y : Operand}
theorem kp_oneN {t : Int} (ho : o.op = .buildSlice 106 1 #[(0, x)]) (hx : a.eval x = .int .i64 t) : o.wp Tryz.prog a w (fun a' w' => ∃ v, a' = a.put o.dst v ∧ Kp w w' ∧ OneC (.int .i64 t) w' v) Q := by
 refine kp_yield (v := .slice (some ⟨w.heap.size, 0, none⟩) 1 1) (w' := w.alloc (.cells #[.int .i64 t] 2)) ?_ ((Keeps.refl _ w).alloc _) ⟨_, rfl, Row.fresh w #[.int .i64 t] 2 (0, 0) _ rfl trivial _ rfl⟩
 generalize a.eval = ρ at hx
 unfold execOp
 go_simp
theorem kp_oneT {t : ByteArray} (ho : o.op = .buildSlice 30 1 #[(0, x)]) (hx : a.eval x = .string t) : o.wp Tryz.prog a w (fun a' w' => ∃ v, a' = a.put o.dst v ∧ Kp w w' ∧ OneC (.string t) w' v) Q := by
 refine kp_yield (v := .slice (some ⟨w.heap.size, 0, none⟩) 1 1) (w' := w.alloc (.cells #[.string t] 9)) ?_ ((Keeps.refl _ w).alloc _) ⟨_, rfl, Row.fresh w #[.string t] 9 (0, 0) _ rfl trivial _ rfl⟩
 generalize a.eval = ρ at hx
 unfold execOp
 go_simp
theorem kp_asJ {V : World → Value → Prop} (ho : o.op = .assign x) (hx : V w (a.eval x)) : o.wp Tryz.prog a w (fun a' w' => ∃ v', a' = a.put o.dst v' ∧ Kp w w' ∧ V w' v') Q := by
 refine kp_yield (v := a.eval x) ?_ (Keeps.refl _ _) hx
 unfold execOp; rw [ho]; rfl
end
def MadeC (l : List UInt8) : World → Value → Prop := fun w v => ∃ A c, v = .slice A l.length c ∧ Row w A (fun _ => True) (bcells l)
theorem MadeC.keep {l : List UInt8} {v : Value} {w w' : World} (h : Kp w w') (hv : MadeC l w v) : MadeC l w' v := by
 obtain ⟨A, c, e, hr⟩ := hv
 exact ⟨A, c, e, hr.keep h⟩
def GM : Nat → Option Bool := fun _ => none
theorem GM_is {V : Nat → World → Value → Prop} (g : Nat) (c : Bool) (h : GM g = some c) (w : World) (x : Value) (_ : V g w x) : x = .bool c := by cases h
def VM (base b : Nat) (n : Int) (k : ByteArray) (l1 l2 : List UInt8) : Nat → World → Value → Prop
 | 0 => IsV (.pointer (some ⟨b, 0, none⟩))
 | 1 => IsV (.int .i64 n)
 | 2 => OneC (.int .i64 n)
 | 3 => MadeC l1
 | 4 => IsV (.pointer (some ⟨b, 1, none⟩))
 | 5 => IsV (.string k)
 | 6 => OneC (.string k)
 | 7 => fun w v => OwnB w base v l2
 | 8 => fun w v => OwnB w base v l2
 | _ => fun _ _ => True
theorem VM_keep {base b : Nat} {n : Int} {k : ByteArray} {l1 l2 : List UInt8} (i : Nat) (w w' : World) (v : Value) (h : Kp w w') (hv : VM base b n k l1 l2 i w v) : VM base b n k l1 l2 i w' v := by
 match i, hv with
 | 0, hv => exact hv
 | 1, hv => exact hv
 | 2, hv => exact OneC.keep h hv
 | 3, hv => exact MadeC.keep h hv
 | 4, hv => exact hv
 | 5, hv => exact hv
 | 6, hv => exact OneC.keep h hv
 | 7, hv => exact h.own hv fun _ _ => trivial
 | 8, hv => exact h.own hv fun _ _ => trivial
 | n + 9, _ => trivial
set_option maxRecDepth 100000 in
set_option maxHeartbeats 1000000 in
theorem jencode (w : World) (n : Nat) (k : ByteArray) (hn : n ≤ 40000) (hk : keyOk k) (z : Int) (hz : z = (n : Int)) :
  Calls Tryz.prog 87 #[.agg #[.int .i64 z, .string k]] w fun e w' => ∃ v, e = .returned v ∧ OwnB w' w.heap.size v (markB n k) ∧ Kp w w' := by
 subst hz
 have hk0 : Kp w (w.alloc (.cells #[.int .i64 (n : Int), .string k] 72)) := (Keeps.refl _ w).alloc _
 have b0 := heap_alloc_new w (.cells #[.int .i64 (n : Int), .string k] 72)
 have hlt : w.heap.size < (w.alloc (.cells #[.int .i64 (n : Int), .string k] 72)).heap.size := by simp
 have HPN := Lib.hid (show ∀ (w3 : World) (B : Nat), Kp w w3 → Row w3 (some ⟨B, 0, none⟩) (fun _ => True) [.int .i64 (n : Int)] → Calls Tryz.prog 79 #[.slice none 0 0, .slice (some ⟨B, 0, none⟩) 1 1] w3 fun e w' => ∃ v, e = .returned v ∧ Kp w3 w' ∧ MadeC (putZ (n : Int)) w' v from fun w3 B _ hr => by
  refine (show Calls _ _ _ _ _ from put_any none (some ⟨B, 0, none⟩) 0 1 (fun _ => True) (fun _ => True) [] [(n : Int)] w3 (Row.nil _ _ _) hr (fun n hn => by rw [List.mem_singleton.1 hn]; omega) (by simp) (by simp)).mono ?_
  rintro e w' ⟨v, rfl, ho, hk⟩
  have e : ([] : List UInt8) ++ putsZ [(n : Int)] = putZ (n : Int) := by simp [putsZ]
  rw [e] at ho
  obtain ⟨A, c, rfl, -, hr⟩ := own_slice ho
  exact ⟨_, rfl, hk, A, c, rfl, hr.mono fun _ _ _ => trivial⟩)
 have hl1 : (putZ (n : Int)).length ≤ 1000 := by
  have := (markB_len hn hk).2
  unfold markB at this
  simp only [List.length_append] at this
  omega
 have HPT := Lib.hid (show ∀ (w3 : World) (A : Option Addr) (c B : Nat), Kp w w3 → Row w3 A (fun _ => True) (bcells (putZ (n : Int))) → Row w3 (some ⟨B, 0, none⟩) (fun _ => True) [.string k] →
   Calls Tryz.prog 104 #[.slice A (putZ (n : Int)).length c, .slice (some ⟨B, 0, none⟩) 1 1] w3 fun e w' => ∃ v, e = .returned v ∧ Kp w3 w' ∧ OwnB w' w.heap.size v (markB n k) from fun w3 A c B hkk hr hr2 => by
  refine (show Calls _ _ _ _ _ from put_text A (some ⟨B, 0, none⟩) c 1 (fun _ => True) (fun _ => True) (putZ (n : Int)) [k] w3 hr hr2 (by have := hk.2; unfold total; simp; omega) (by omega) (by simp)).mono ?_
  rintro e w' ⟨v, rfl, ho, hk'⟩
  have e : putZ (n : Int) ++ putsT (strs [k]) = markB n k := by simp [putsT, strs, markB]
  rw [e] at ho
  exact ⟨v, rfl, hk', ownsRow_le ho hkk.size⟩)
 generalize hL1 : putZ (n : Int) = l1 at HPT HPN hl1
 generalize hL2 : markB n k = l2 at HPT ⊢
 obtain ⟨z, hz⟩ : ∃ z : Int, (n : Int) = z := ⟨_, rfl⟩
 rw [hz] at hk0 b0 hlt HPN ⊢
 clear hL1 hL2 hn hk hz
 obtain ⟨w0, hw0⟩ : ∃ w0, w.alloc (.cells #[.int .i64 z, .string k] 72) = w0 := ⟨_, rfl⟩
 rw [hw0] at hk0 b0 hlt
 have HW0 := Lib.hid hw0
 have HK0 := Lib.hid hk0
 have HB0 := Lib.hid b0
 clear hw0 hk0 b0
 go_enter Tryz.func87, Tryz.ntmps87
 go_wp2_with (rw [HW0.out])
 try rw [HW0.out]
 refine wp_region_guard (R := Kp) (V := VM w.heap.size w.heap.size z k l1 l2) (w0 := w0) GM (by kernel_rfl) (fun w => Keeps.refl _ w) (fun _ _ _ h k => h.trans k) (fun i w w' v h hv => VM_keep i w w' v h hv) (by kernel_rfl) GM_is (fun i o ho hw => (all_wanted (by kernel_rfl) ho hw).elim) ((Keeps.refl _ w0).drew) (each_of ?_) ?_
 ·refine ⟨?_, ?_, ?_, ?_, ?_, ?_, ?_, ?_, ?_, trivial⟩ <;> intro hw a1 w3 L
  ·exact kp_fM0 rfl (L.old 1 (by kernel_rfl))
  ·have hb := (L.rel.block w.heap.size trivial hlt).trans HB0.out
   exact kp_ldI ((cell_of_block hb 0).trans rfl) rfl (L.val 0 3 (by kernel_rfl) (by kernel_rfl))
  ·exact kp_oneN rfl (L.val 1 4 (by kernel_rfl) (by kernel_rfl))
  ·obtain ⟨B, e0, hr⟩ := (show OneC (.int .i64 z) w3 (a1.eval (.tmp 5)) from L.val 2 5 (by kernel_rfl) (by kernel_rfl))
   have hf : a1.eval (.func 79) = .func (.func 79) #[] #[] := rfl
   have hn : a1.eval (.const (.slice none 0 0)) = .slice none 0 0 := rfl
   refine kp_enter (f := 79) (args := #[.slice none 0 0, .slice (some ⟨B, 0, none⟩) 1 1]) ?_ (HPN.out w3 B (HK0.out.trans L.rel) hr) ?_
   ·clear L
    generalize a1.eval = ρ at e0 hf hn ⊢
    unfold execOp
    go_simp
   ·rintro e w' ⟨v, rfl, hk, hv⟩
    exact ⟨v, rfl, hk, hv⟩
  ·exact kp_fM1 rfl (L.old 1 (by kernel_rfl))
  ·have hb := (L.rel.block w.heap.size trivial hlt).trans HB0.out
   exact kp_ldT ((cell_of_block hb 1).trans rfl) rfl (L.val 4 7 (by kernel_rfl) (by kernel_rfl))
  ·exact kp_oneT rfl (L.val 5 8 (by kernel_rfl) (by kernel_rfl))
  ·obtain ⟨A, c, e0, hr⟩ := (show MadeC l1 w3 (a1.eval (.tmp 6)) from L.val 3 6 (by kernel_rfl) (by kernel_rfl))
   obtain ⟨B, e1, hr2⟩ := (show OneC (.string k) w3 (a1.eval (.tmp 9)) from L.val 6 9 (by kernel_rfl) (by kernel_rfl))
   have hf : a1.eval (.func 104) = .func (.func 104) #[] #[] := rfl
   refine kp_enter (f := 104) (args := #[.slice A l1.length c, .slice (some ⟨B, 0, none⟩) 1 1]) ?_ (HPT.out w3 A c B (HK0.out.trans L.rel) hr hr2) ?_
   ·clear L
    generalize a1.eval = ρ at e0 e1 hf ⊢
    unfold execOp
    go_simp
   ·rintro e w' ⟨v, rfl, hk, hv⟩
    exact ⟨v, rfl, hk, hv⟩
  ·have h10 : OwnB w3 w.heap.size (a1.eval (.tmp 10)) l2 := L.val 7 10 (by kernel_rfl) (by kernel_rfl)
   exact kp_asJ rfl h10
 ·intro vs w4 hk4 hlen4 hv
  match vs, hlen4 with
  | [v0, v1, v2, v3, v4, v5, v6, v7, v8], _ =>
   have hv4 : OwnB w4 w.heap.size v8 l2 := hv 8 2 (by kernel_rfl)
   have HV := Lib.hid hv4
   have HK4 := Lib.hid (HK0.out.trans hk4)
   clear hv hv4 hk4
   simp only [putAll, List.map, Act.put, List.setIfInBounds_toArray, List.set_cons_succ, List.set_cons_zero, Exit.then]
   go_wp2_with fail
   go_ret
   exact ⟨_, rfl, HV.out, HK4.out⟩
theorem res2u (w W : World) (hb : W.heap[w.heap.size]? = some (.cells #[.int .i64 0, .string ⟨#[]⟩] 72 (0, 0))) : W.frozen? ⟨w.heap.size, 0, none⟩ = false ∧ W.frozen? ⟨w.heap.size, 1, none⟩ = false ∧
  W.cell? ⟨w.heap.size, 0, none⟩ = some (.int .i64 0) ∧ W.cell? ⟨w.heap.size, 1, none⟩ = some (.string ⟨#[]⟩) :=
 ⟨unfrozen_of_block hb 0, unfrozen_of_block hb 1, (cell_of_block hb 0).trans rfl, (cell_of_block hb 1).trans rfl⟩
theorem res2 (w W : World) (hb : W.heap[w.heap.size]? = some (.cells #[.int .i64 0, .string ⟨#[]⟩] 72 (0, 0))) (hk : Kp w W) : RowKit.Hid (∀ v0 v1,
  ((W.setCell ⟨w.heap.size, 0, none⟩ v0).setCell ⟨w.heap.size, 1, none⟩ v1).cell? ⟨w.heap.size, 0, none⟩ = some v0 ∧
  ((W.setCell ⟨w.heap.size, 0, none⟩ v0).setCell ⟨w.heap.size, 1, none⟩ v1).cell? ⟨w.heap.size, 1, none⟩ = some v1 ∧
  Kp w ((W.setCell ⟨w.heap.size, 0, none⟩ v0).setCell ⟨w.heap.size, 1, none⟩ v1)) := Lib.hid fun v0 v1 => by
 have h1 := block_setCell (block_setCell hb (i := 0) v0) (i := 1) v1
 exact ⟨(cell_of_block h1 0).trans rfl, (cell_of_block h1 1).trans rfl, (hk.setCell (.inl (Nat.le_refl _)) _).setCell (.inl (Nat.le_refl _)) _⟩
set_option maxRecDepth 100000 in
set_option maxHeartbeats 1000000 in
theorem jdecode (w : World) (A : Option Addr) (m c n : Nat) (k : ByteArray) (hr : Row w A (fun _ => True) (bcells (markB n k))) (hm : m = (markB n k).length) (hmc : m ≤ c) (hcm : c ≤ maxLen) (h1 : 1 ≤ n) (hn : n ≤ 40000) (hk : keyOk k) :
  Calls Tryz.prog 92 #[.slice A m c] w fun e w' => e = .returned (.tuple #[.agg #[.int .i64 (n : Int), .string k], .bool true]) ∧ Kp w w' := by
 have hln := markB_len hn hk
 have hkl : k.data.toList.length = k.size := by simp
 have hk1 := hk.1
 have hk2 := hk.2
 obtain ⟨b, o, rfl, -, -⟩ := hr.at_ (k := 0) (by rw [bcells_len]; omega)
 obtain ⟨w0, hw0⟩ : ∃ w0, w.alloc (.cells #[.int .i64 0, .string ⟨#[]⟩] 72) = w0 := ⟨_, rfl⟩
 have HW0 := Lib.hid hw0
 have hb0 : w0.heap[w.heap.size]? = some (.cells #[.int .i64 0, .string ⟨#[]⟩] 72 (0, 0)) := by rw [← hw0]; exact heap_alloc_new w _
 have hk0 : Kp w w0 := by rw [← hw0]; exact (Keeps.refl _ w).alloc _
 have hr0 := hr.keep hk0
 obtain ⟨i, hi⟩ : ∃ i, (putZ (n : Int)).length = i := ⟨_, rfl⟩
 have hi1 : 0 < i := by rw [← hi]; exact vin_pos _
 have hpt : (putT k.data.toList).length + i = m := by rw [hm, ← hi]; unfold markB; rw [List.length_append]; omega
 have hG := getZ_put (n : Int) (putT k.data.toList) (by omega) (by omega)
 rw [hi] at hG
 have hT := getT_put k.data.toList [] (by omega)
 rw [List.append_nil] at hT
 have hdr : (markB n k).drop i = putT k.data.toList := by unfold markB; rw [← hi, List.drop_left]
 have hpos : 0 < (putT k.data.toList).length := by unfold putT; rw [List.length_append]; have := vin_pos (zig (k.data.toList.length : Int)); unfold putZ; omega
 have HG := Lib.hid (show Calls Tryz.prog 125 #[.slice (some ⟨b, o, none⟩) m c] w0 fun e w' => e = .returned (.tuple #[.int .i64 (n : Int), .int .i64 (i : Int), .int .i64 0]) ∧ w0 = w' from by
  rw [hm]
  exact get_is _ c _ (markB n k) w0 hr0 (by omega) (n : Int) i 0 hG)
 obtain ⟨j, hmi⟩ : ∃ j, m - i = j := ⟨_, rfl⟩
 have HT := Lib.hid (show Calls Tryz.prog 126 #[.slice (some ⟨b, o + i, none⟩) (m - i) (c - i)] w0 fun e w' => e = .returned (.tuple #[.string k, .int .i64 ((j : Nat) : Int), .int .i64 0]) ∧ w0 = w' from by
  have hr1 := hr0.cut (k := i) (cap := c) (by rw [bcells_len]; omega) (by rw [bcells_len]; omega)
  rw [if_neg (by omega), bcells, ← List.map_drop, hdr] at hr1
  simp only [Option.map_some, WideShapes.add_plain] at hr1
  have h := get_text _ (c - i) _ (putT k.data.toList) w0 hr1 (by omega) (by omega) (by omega)
  rw [hT, show (putT k.data.toList).length = m - i by omega] at h
  simp only [txt_data, hmi] at h
  rw [← hmi] at h ⊢
  exact h)
 have HMY := Lib.hid (jmay_any w0 k true ⟨fun _ => hk, fun _ => rfl⟩ (by omega))
 have HRES := res2 w w0 hb0 hk0
 obtain ⟨f0, f1, r0, r1⟩ := res2u w w0 hb0
 obtain ⟨d0, d1, HK⟩ := HRES.out (.int .i64 (n : Int)) (.string k)
 have HKK := Lib.hid HK
 have t1 : decide ((n : Int) < 1) = false := by simp; omega
 have t2 : decide ((1099511627776 : Int) < (n : Int)) = false := by simp; omega
 have t3 : ((i : Int) + ((j : Nat) : Int) != (m : Int)) = false := by simp; omega
 have hile : i ≤ m := by omega
 have hic : ¬ c = i := by omega
 have hib : i ≤ 100 := by omega
 have hjb : j ≤ 100 := by omega
 clear hmi HK HRES hpos hdr hT hG hpt hi hr hr0 hm hw0 hb0 hk0 hkl hk1 hk2 hln hi1
 unfold maxLen at hcm
 go_enter Tryz.func92, Tryz.ntmps92
 go_wp2_with (rw [HW0.out])
 try rw [HW0.out]
 refine (show Calls _ _ _ _ _ from HG.out).mono ?_
 rintro e w1 ⟨rfl, rfl⟩
 go_wp2_with fail
 refine (show Calls _ _ _ _ _ from HT.out).mono ?_
 rintro e w1 ⟨rfl, rfl⟩
 go_wp2_with fail
 refine (show Calls _ _ _ _ _ from HMY.out).mono ?_
 rintro e w1 ⟨rfl, rfl⟩
 go_wp2_with fail
 exact bodyPost_ret (v := .tuple #[.agg #[.int .i64 (n : Int), .string k], .bool true]) (by simp [results, Tryz.results92, go_sem, d0, d1]) rfl ⟨rfl, HKK.out⟩
theorem jdown (w : World) (q lq : Nat) (c0 : w.cell? ⟨q, 0, none⟩ = some (.pointer (some ⟨lq, 0, none⟩))) :
  Calls Tryz.prog 56 #[.pointer (some ⟨q, 0, none⟩)] w fun e w' => e = .returned (.bool false) ∧ w = w' := by
 go_enter Tryz.func56, Tryz.ntmps56
 go_wp2_with fail
 go_ret
 exact ⟨rfl, rfl⟩
set_option maxRecDepth 100000 in
theorem jseq (w : World) (q lq b n : Nat) (A : Option Addr) (c : Nat) (h : JBlk w q lq (b : Int) (.slice A n c)) (h1 : b + n ≤ 1000000) (m : Int) (hm : m = (b : Int) + (n : Int)) :
  Calls Tryz.prog 24 #[.pointer (some ⟨q, 0, none⟩)] w fun e w' => e = .returned (.int .i64 m) ∧ ∃ z, w' = w.drewN z := by
 subst hm
 have HDN := Lib.hid (jdown w q lq h.c0)
 have c1 := h.c1
 have c2 := h.c2
 clear h
 go_enter Tryz.func24, Tryz.ntmps24
 go_wp2_with fail
 refine (show Calls _ _ _ _ _ from HDN.out).mono ?_
 rintro e w1 ⟨rfl, rfl⟩
 go_wp2_with fail
 go_quiet (fail)
 go_wp2_with fail
 go_ret
 exact ⟨rfl, _, rfl⟩
end Go.Proofs.YticophaepapjoaaGreatDoor
