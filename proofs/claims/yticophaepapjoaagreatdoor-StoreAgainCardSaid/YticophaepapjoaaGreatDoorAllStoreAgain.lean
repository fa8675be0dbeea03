/-
  StLocs, StoreAgainWalk, StoreAgainProof: texts of mine, joined.
-/
import Derived.Test.YticophaepapjoaaGreatDoorAllA38
import Derived.Test.YticophaepapjoaaGreatDoorAllA22
import Derived.Test.YticophaepapjoaaGreatDoorAllA47
import Derived.Test.YticophaepapjoaaGreatDoorAllA30
import Derived.Test.YticophaepapjoaaGreatDoorAllA28
import Derived.Test.YticophaepapjoaaGreatDoorCards
import Derived.SevenTiedAt
namespace Go.Proofs.YticophaepapjoaaGreatDoor
open Go Go.RowKit Go.Joins
def snameL (i : Nat) : List UInt8 := [107, UInt8.ofNat (97 + i)]
def sname (i : Nat) : ByteArray := txt (snameL i)
theorem sname_size (i : Nat) : (sname i).size = 2 := by unfold sname; rw [txt_size]; rfl
theorem snameL_inj {i j : Nat} (hi : i ≤ 100) (hj : j ≤ 100) (h : snameL i = snameL j) : i = j := by
 unfold snameL at h
 injection h with _ h
 injection h with h2 h
 have e2 := congrArg UInt8.toNat h2
 simp only [UInt8.toNat_ofNat'] at e2
 omega
theorem sname_inj {i j : Nat} (hi : i ≤ 100) (hj : j ≤ 100) (h : sname i = sname j) : i = j :=
 snameL_inj hi hj (by have := congrArg (fun b : ByteArray => b.data.toList) h; simpa [sname, txt_list] using this)
theorem snameV_is (i : Nat) (hi : i ≤ 100) : [Value.int .u8 107, .int .u8 ((97 + i : Nat) : Int)] = bcells (snameL i) := by
 have e : ∀ n : Nat, n < 256 → ((UInt8.ofNat n).toNat : Int) = (n : Int) := fun n h => by rw [UInt8.toNat_ofNat', Nat.mod_eq_of_lt h]
 unfold snameL bcells
 simp only [List.map, bcell]
 rw [e _ (by omega)]
 rfl
def sItem (i : Nat) : It := ⟨sname i, sV, 0, false⟩
theorem sItem_may (i : Nat) : (sItem i).may = true := by
 have h : sV.size = 1 := by decide
 simp [It.may, sItem, sname_size, h]
section
variable {o : Oper} {a : Act} {w : World} {Q : Exit → Act → World → Prop} {x y : Operand}
theorem kp_st0 {b : Nat} (ho : o.op = .fieldAddr 38 x 0) (hx : a.eval x = .pointer (some ⟨b, 0, none⟩)) : o.wp Tryz.prog a w (fun a' w' => ∃ v, a' = a.put o.dst v ∧ Kp w w' ∧ IsV (.pointer (some ⟨b, 0, none⟩)) w' v) Q := by
 refine kp_yield (v := .pointer (some ⟨b, 0, none⟩)) (w' := w) ?_ (Keeps.refl _ _) rfl
 generalize a.eval = ρ at hx ⊢
 unfold execOp
 rw [ho]
 go_simp
theorem kp_ldC {b q : Nat} (hc : w.cell? ⟨b, 0, none⟩ = some (.pointer (some ⟨q, 0, none⟩))) (ho : o.op = .load 34 x) (hx : a.eval x = .pointer (some ⟨b, 0, none⟩)) : o.wp Tryz.prog a w (fun a' w' => ∃ v, a' = a.put o.dst v ∧ Kp w w' ∧ IsV (.pointer (some ⟨q, 0, none⟩)) w' v) Q := by
 refine kp_yield (v := .pointer (some ⟨q, 0, none⟩)) (w' := w) ?_ (Keeps.refl _ _) rfl
 generalize a.eval = ρ at hx ⊢
 unfold execOp
 rw [ho]
 go_simp
theorem kp_add97 {n : Nat} (h : n ≤ 1000) (ho : o.op = .binOp .add 3 (.const (.int .i64 97)) x 3) (hx : a.eval x = .int .i64 (n : Int)) : o.wp Tryz.prog a w (fun a' w' => ∃ v, a' = a.put o.dst v ∧ Kp w w' ∧ IsV (.int .i64 ((97 + n : Nat) : Int)) w' v) Q :=
 kp_add (m := 97) (n := n) (by omega) ho rfl hx
theorem kp_stwo {i m : Nat} (h : i ≤ 100) (hm : m ≤ w.heap.size) (ho : o.op = .buildSlice 64 2 #[(0, .const (.int .u8 107)), (1, x)]) (hx : a.eval x = .int .u8 ((97 + i : Nat) : Int)) : o.wp Tryz.prog a w (fun a' w' => ∃ v, a' = a.put o.dst v ∧ Kp w w' ∧ TextM m (snameL i) w' v) Q := by
 have hc := snameV_is i h
 refine kp_yield (v := .slice (some ⟨w.heap.size, 0, none⟩) 2 2) (w' := w.alloc (.cells #[.int .u8 107, .int .u8 ((97 + i : Nat) : Int)] 5)) ?_ ((Keeps.refl _ _).alloc _) ⟨_, 2, rfl, Nat.le_refl _, by decide, (fun h => by cases h), ?_⟩
 ·clear hc
  have h0 : a.eval (.const (.int .u8 107)) = .int .u8 107 := rfl
  generalize ((97 + i : Nat) : Int) = z at hx ⊢
  generalize a.eval = ρ at hx h0 ⊢
  unfold execOp
  rw [ho]
  go_simp
 ·exact Row.fresh w _ 5 (0, 0) _ rfl hm _ (by rw [← hc])
theorem kp_item {i : Nat} (ho : o.op = .build 40 #[(0, x), (1, .const (.string { data := #[118] }))]) (hx : a.eval x = .string (sname i)) : o.wp Tryz.prog a w (fun a' w' => ∃ v, a' = a.put o.dst v ∧ Kp w w' ∧ IsV (.agg #[.string (sname i), .string { data := #[118] }, .int .i64 0, .bool false]) w' v) Q := by
 refine kp_yield (v := .agg #[.string (sname i), .string { data := #[118] }, .int .i64 0, .bool false]) (w' := w) ?_ (Keeps.refl _ _) rfl
 have h0 : a.eval (.const (.string { data := #[118] })) = .string { data := #[118] } := rfl
 generalize sname i = s at hx ⊢
 generalize a.eval = ρ at hx h0 ⊢
 unfold execOp
 rw [ho]
 go_simp
end
def PutSt (S : FlashOK) (J : JournalOK) (W : World) (p b q1 q2 k : Nat) (z : Sto) (n g : Nat) (x : It) (Y : Nat → Prop) : Bool → World → Prop
 | false, w => g ≤ w.heap.size ∧ ∃ d, StAt S J W w p b q1 q2 k z n d (fun c => Y c ∨ (g ≤ c ∧ c < w.heap.size))
 | true, w => g ≤ w.heap.size ∧ ∃ u, z.f.gone ≤ u ∧ StAt S J W w p b q1 q2 k ⟨⟨z.f.place, z.f.segs, z.f.ents ++ [fput x], u, z.f.age + 1⟩, z.j, z.t, z.m, z.boot, z.c + 2000⟩ n 0 Y
section
variable {S : FlashOK} {J : JournalOK} {W w w' : World} {p b q1 q2 k n g d : Nat} {z : Sto} {x : It} {Y : Nat → Prop} {t : Bool}
theorem PutSt.keep (hk : Kp w w') (h : PutSt S J W p b q1 q2 k z n g x Y t w) : PutSt S J W p b q1 q2 k z n g x Y t w' := by
 have hs := hk.size
 cases t
 ·obtain ⟨hg, d, h⟩ := h
  exact ⟨by omega, d, h.more hk fun c hc => by
   rcases hc with hc | hc
   ·exact .inl (.inl hc)
   ·by_cases h2 : c < w.heap.size
    ·exact .inl (.inr ⟨hc.1, h2⟩)
    ·exact .inr ⟨by omega, hc.2⟩⟩
 ·obtain ⟨hg, u, h1, h⟩ := h
  exact ⟨by omega, u, h1, h.keep hk⟩
theorem PutSt.size (h : PutSt S J W p b q1 q2 k z n g x Y t w) : g ≤ w.heap.size := by
 cases t
 ·exact h.1
 ·exact h.1
theorem PutSt.c0 (h : PutSt S J W p b q1 q2 k z n g x Y t w) : w.cell? ⟨b, 0, none⟩ = some (.pointer (some ⟨q1, 0, none⟩)) := by
 cases t
 ·obtain ⟨-, d, h⟩ := h
  exact h.blk.c0
 ·obtain ⟨-, u, -, h⟩ := h
  exact h.blk.c0
theorem PutSt.start (h : StAt S J W w p b q1 q2 k z n d Y) : PutSt S J W p b q1 q2 k z n w.heap.size x Y false w.drew :=
 ⟨by simp, d, h.more ((Keeps.refl _ w).drew) fun c hc => by
  rcases hc with hc | hc
  ·exact .inl hc
  ·simp at hc; omega⟩
end
theorem keeps_from {g : Nat} {Y : Nat → Prop} {w w' : World} (h : Keeps (fun x => Y x ∨ (g ≤ x ∧ x < w.heap.size)) w w') : Keeps (fun x => Y x ∨ g ≤ x) w w' :=
 ⟨h.os, h.tape, h.output, h.size, fun b hb hlt => h.block b (hb.imp id fun h => ⟨h, hlt⟩) hlt⟩
end Go.Proofs.YticophaepapjoaaGreatDoor
namespace Go.Proofs.YticophaepapjoaaGreatDoor.storeAgain
open Go Go.RowKit Go.Joins
def VA (g b q1 i : Nat) : Nat → World → Value → Prop
 | 0 => IsV (.pointer (some ⟨b, 0, none⟩))
 | 1 => IsV (.pointer (some ⟨b, 0, none⟩))
 | 2 => IsV (.pointer (some ⟨b, 0, none⟩))
 | 3 => IsV (.pointer (some ⟨q1, 0, none⟩))
 | 4 => IsV (.int .i64 (i : Int))
 | 5 => IsV (.int .i64 ((97 + i : Nat) : Int))
 | 6 => IsV (.int .u8 ((97 + i : Nat) : Int))
 | 7 => TextM g (snameL i)
 | 8 => IsV (.string (sname i))
 | 9 => IsV (.agg #[.string (sname i), .string { data := #[118] }, .int .i64 0, .bool false])
 | _ => IsV (.int .i64 0)
theorem VA_keep {g b q1 i : Nat} (j : Nat) (w w' : World) (v : Value) (h : Keeps (fun x => g ≤ x) w w') (hv : VA g b q1 i j w v) : VA g b q1 i j w' v := by
 match j, hv with
 | 0, hv => exact hv
 | 1, hv => exact hv
 | 2, hv => exact hv
 | 3, hv => exact hv
 | 4, hv => exact hv
 | 5, hv => exact hv
 | 6, hv => exact hv
 | 7, hv => exact TextM.keep h hv
 | 8, hv => exact hv
 | 9, hv => exact hv
 | n + 10, hv => exact hv
def sX : ByteArray := { data := #[120] }
theorem sX_ok : keyOk sX := by unfold keyOk; decide
def Mid (S : FlashOK) (J : JournalOK) (W w : World) (p b q1 q2 k i : Nat) : Prop := ∃ (z : Sto) (d : Nat), StAt S J W w p b q1 q2 k z 300 d (fun _ => False) ∧ z.f.age ≤ 10 * (i + 1) ∧ z.j.age ≤ 10 * (i + 1) ∧ z.c ≤ 100000 * (i + 1)
set_option maxRecDepth 100000 in
set_option maxHeartbeats 2000000 in
theorem walk (S : FlashOK) (J : JournalOK) (w : World) (hS : S.T w) (hJ : J.T w) (hT : theSup.T w) (n : Int) (_ : -9223372036854775808 ≤ n) (_ : n < 9223372036854775808) :
  Calls Tryz.prog 7 #[.int .i64 n] w fun e w' => e = .returned (.bool true) ∧ Below w.heap.size w w' := by
 have HS := Lib.hid hS
 have HJ := Lib.hid hJ
 have HT := Lib.hid hT
 clear hS hJ hT
 have hcs : (decide (n < 0) = true) ∨ (decide (n < 0) = false ∧ decide (10 < n) = true) ∨ (decide (n < 0) = false ∧ decide (10 < n) = false) := by
  cases decide (n < 0) <;> cases decide (10 < n) <;> simp
 go_enter Tryz.func7, Tryz.ntmps7
 go_wp2_with fail
 refine (show Calls _ _ _ _ _ from begun21 S J w HS.out HJ.out HT.out).mono ?_
 rintro e w1 ⟨rfl, hk⟩
 have K1 := Lib.hid hk
 clear hk
 rcases hcs with c1 | ⟨c1, c2⟩ | ⟨c1, c2⟩
 ·go_wp2_with fail
  go_ret
  exact ⟨rfl, K1.out.below⟩
 ·go_wp2_with fail
  go_ret
  exact ⟨rfl, K1.out.below⟩
 ·have n1 : 0 ≤ n := by have := of_decide_eq_false c1; omega
  have n2 : n ≤ 10 := by have := of_decide_eq_false c2; omega
  obtain ⟨N, rfl⟩ : ∃ N : Nat, n = (N : Int) := ⟨n.toNat, by omega⟩
  have n3 : N ≤ 10 := by omega
  clear n1 n2
  go_wp2_with fail
  refine (show Calls _ _ _ _ _ from fo_dev (X := fun _ => False) K1.out (fun _ h => h.elim) 300 (by decide) (by decide) 300 rfl).mono ?_
  rintro e w2 ⟨p, rfl, hB, -⟩
  have HB := Lib.hid hB.dev
  clear hB K1 c1 c2
  go_wp2_with fail
  refine (show Calls _ _ _ _ _ from so_make HS.out HJ.out HT.out HB.out (by decide) (by decide)).mono ?_
  rintro e w3 ⟨b, q1, q2, k, c, rfl, hat, hc, -⟩
  have HA := Lib.hid (show Mid S J w w3 p b q1 q2 k 0 from ⟨_, _, hat, by show 1 ≤ 10; decide, by show 1 ≤ 10; decide, by show c ≤ 100000; omega⟩)
  clear hat hc HB
  go_wp2_with fail
  go_loopw [7] (fun i wr => ∃ j : Nat, j ≤ N ∧ i = .int .i64 (j : Int) ∧ Hid (Mid S J w wr p b q1 q2 k j)) (fun i _ => N - (intOf i).toNat)
  case atStart => exact ⟨0, Nat.zero_le _, rfl, HA⟩
  case round =>
   clear HA
   obtain ⟨j, hj, rfl, HA⟩ := hrel
   by_cases hl : j < N
   ·have hl' : (j : Int) < (N : Int) := by omega
    obtain ⟨z, d, hat, ha1, ha2, ha3⟩ := HA.out
    have HZ := Lib.hid (And.intro ha1 (And.intro ha2 ha3))
    have HST := Lib.hid (PutSt.start (x := sItem j) hat)
    clear hat ha1 ha2 ha3 HA
    go_wp2_with fail
    refine wp_region_one (V := VA wr.heap.size b q1 j) (w0 := wr) 10 (PutSt S J w p b q1 q2 k z 300 wr.heap.size (sItem j) (fun _ => False)) (fun w w' => Keeps (fun x => wr.heap.size ≤ x) w w') (fun _ => none) (by kernel_rfl) (fun i w w' v h hv => VA_keep i w w' v (h.mono fun _ _ _ => trivial) hv) (fun _ _ _ h hs => hs.keep h) (fun i _ w w' v h hv => VA_keep i w w' v h hv) (by kernel_rfl) (by decide) (fun _ _ h => by cases h) (fun i o ho hw => (all_wanted (by kernel_rfl) ho hw).elim) HST.out (each_of ?_) ?_
    ·refine ⟨?_, ?_, ?_, ?_, ?_, ?_, ?_, ?_, ?_, ?_, ?_, trivial⟩ <;> intro hw a1 w2 L
     ·rw [if_neg (by decide)]
      intro t hs _
      exact kp_move rfl (L.old 5 (by kernel_rfl))
     ·rw [if_neg (by decide)]
      intro t hs _
      exact kp_nilM rfl (L.val 0 31 (by kernel_rfl) (by kernel_rfl))
     ·rw [if_neg (by decide)]
      intro t hs _
      exact kp_st0 rfl (L.val 1 32 (by kernel_rfl) (by kernel_rfl))
     ·rw [if_neg (by decide)]
      intro t hs _
      exact kp_ldC hs.c0 rfl (L.val 2 33 (by kernel_rfl) (by kernel_rfl))
     ·rw [if_neg (by decide)]
      intro t hs _
      exact kp_move rfl (L.old 7 (by kernel_rfl))
     ·rw [if_neg (by decide)]
      intro t hs _
      exact kp_add97 (by omega) rfl (L.val 4 35 (by kernel_rfl) (by kernel_rfl))
     ·rw [if_neg (by decide)]
      intro t hs _
      exact kp_u8 (by omega) rfl (L.val 5 36 (by kernel_rfl) (by kernel_rfl))
     ·rw [if_neg (by decide)]
      intro t hs _
      exact kp_stwo (by omega) hs.size rfl (L.val 6 37 (by kernel_rfl) (by kernel_rfl))
     ·rw [if_neg (by decide)]
      intro t hs _
      exact kp_string rfl Tryz.underlying64 Tryz.underlying5 Tryz.underlying9 (TextM.text (L.val 7 38 (by kernel_rfl) (by kernel_rfl)))
     ·rw [if_neg (by decide)]
      intro t hs _
      exact kp_item rfl (L.val 8 39 (by kernel_rfl) (by kernel_rfl))
     ·rw [if_pos rfl]
      intro hs
      have hf : a1.eval (.func 14) = .func (.func 14) #[] #[] := rfl
      have e0 : a1.eval (.tmp 34) = .pointer (some ⟨q1, 0, none⟩) := L.val 3 34 (by kernel_rfl) (by kernel_rfl)
      have e1 : a1.eval (.tmp 40) = .agg #[.string (sname j), .string { data := #[118] }, .int .i64 0, .bool false] := L.val 9 40 (by kernel_rfl) (by kernel_rfl)
      obtain ⟨hgw, d, hat⟩ := hs
      refine one_enter (f := 14) (args := #[.pointer (some ⟨q1, 0, none⟩), .agg #[.string (sname j), .string { data := #[118] }, .int .i64 0, .bool false]]) ?_ (so_put HS.out hat (by have := HZ.out.1; omega) (by have := HZ.out.2.2; omega) (sItem j) (sItem_may j) rfl) ?_
      ·clear hat
       generalize sname j = sj at e1 ⊢
       generalize a1.eval = ρ at e0 e1 hf ⊢
       unfold execOp
       go_simp
      ·rintro e w' ⟨rfl, u, hu, hat', hk'⟩
       have hsz := hk'.size
       exact ⟨_, rfl, (keeps_from hk').mono fun c _ hc => .inr hc, ⟨by omega, u, hu, hat'.less fun c hc => hc.elim⟩, rfl⟩
    ·intro vs w8 hs8 hlen hv
     match vs, hlen with
     | [v0, v1, v2, v3, v4, v5, v6, v7, v8, v9, v10], _ =>
      clear hv
      obtain ⟨-, u, -, hat⟩ := hs8
      have HA8 := Lib.hid hat
      clear hat HST hlen
      simp only [putAll, List.map, Act.put, List.setIfInBounds_toArray, List.set_cons_succ, List.set_cons_zero, Exit.then]
      go_wp2_with fail
      have hk9 : Kp w8 (w8.alloc (.cells #[.string { data := #[120] }] 9)) := (Keeps.refl _ w8).alloc _
      have hs9 : (w8.alloc (.cells #[.string { data := #[120] }] 9)).heap.size = w8.heap.size + 1 := by simp
      have hrow := Row.fresh (F := fun x => x = w8.heap.size) w8 #[.string { data := #[120] }] 9 (0, 0) w8.heap.size rfl rfl ([sX].map Value.string) rfl
      generalize w8.alloc (.cells #[.string { data := #[120] }] 9) = w9 at *
      have HA9 := Lib.hid (HA8.out.more (Y := fun x => x = w8.heap.size) hk9 fun x hx => .inr (by omega))
      have HR := Lib.hid hrow
      clear hk9 hs9 hrow HA8
      generalize w8.heap.size = g at *
      refine (show Calls _ _ _ _ _ from so_kill HS.out HJ.out HA9.out (by show z.f.age + 1 ≤ 20000; have := HZ.out.1; omega) (by show z.j.age ≤ 20000; have := HZ.out.2.1; omega) (by show z.c + 2000 ≤ 300000000000; have := HZ.out.2.2; omega) (some ⟨g, 0, none⟩) [sX] HR.out 1 1 rfl (by decide) (by decide) (by decide) (by intro k hk; rw [List.mem_singleton.1 hk]; exact sX_ok) _ rfl).mono ?_
      rintro e w10 ⟨rfl, g2, u2, -, -, hat, -⟩
      have HA10 := Lib.hid (show Mid S J w w10 p b q1 q2 k (j + 1) from ⟨_, _, hat.less fun x hx => hx.elim, by show z.f.age + 1 + 1 + 1 ≤ _; have := HZ.out.1; omega, by show z.j.age + 1 + 1 ≤ _; have := HZ.out.2.1; omega, by show z.c + 2000 + 2000 * (1 + 1) ≤ _; have := HZ.out.2.2; omega⟩)
      clear hat HA9 HR HZ
      go_wp2_with fail
      go_roundw
      case rel => exact ⟨j + 1, by omega, by go_num, HA10⟩
      case measure => simp [intOf]; omega
   ·obtain rfl : N = j := by omega
    have hl' : ¬ (N : Int) < (N : Int) := by omega
    obtain ⟨z, d, hat, ha1, ha2, ha3⟩ := HA.out
    have c0 := hat.blk.c0
    have HB := Lib.hid hat
    have HZ := Lib.hid (And.intro ha1 ha3)
    clear hat ha1 ha2 ha3 HA
    go_wp2_with fail
    refine (show Calls _ _ _ _ _ from so_flush HS.out HB.out (by have := HZ.out.1; omega) (by have := HZ.out.2; omega)).mono ?_
    rintro e w4 ⟨rfl, hat, -⟩
    have HD := Lib.hid hat.dev
    have HC := Lib.hid (show z.c + 1000 ≤ 200000000000 by have := HZ.out.2; omega)
    clear hat HB HZ c0
    go_wp2_with fail
    refine (show Calls _ _ _ _ _ from so_make HS.out HJ.out HT.out HD.out (by decide) HC.out).mono ?_
    rintro e w5 ⟨b2, p1, p2, k2, c, rfl, hat, -, -⟩
    have d0 := hat.blk.c0
    have d1 := hat.blk.c1
    have d2 := hat.blk.c2
    have HA5 := Lib.hid hat
    clear hat HD HC
    go_wp2_with fail
    refine (show Calls _ _ _ _ _ from so_seq HJ.out HA5.out 0 rfl).mono ?_
    rintro e w6 ⟨rfl, -, hat⟩
    have d0 := hat.blk.c0
    have d2 := hat.blk.c2
    have HA6 := Lib.hid hat
    clear hat HA5 d1
    go_wp2_with fail
    refine (show Calls _ _ _ _ _ from so_keys HS.out HA6.out).mono ?_
    rintro e w7 ⟨A, c7, ks, rfl, -, hm, -, -, -, -, hat⟩
    have hks : ks = [] := by
     rw [List.eq_nil_iff_forall_not_mem]
     intro x hx
     exact absurd ((hm x).1 hx) (by simp [FSt.at_, fLast])
    subst hks
    have d2 := hat.blk.c2
    have HA7 := Lib.hid hat
    clear hat hm HA6 d0
    go_wp2_with fail
    refine (show Calls _ _ _ _ _ from so_started HA7.out 1 rfl).mono ?_
    rintro e w8 ⟨rfl, rfl⟩
    go_wp2_with fail
    refine (show Calls _ _ _ _ _ from so_meta HA7.out).mono ?_
    rintro e w8 ⟨rfl, -, hat⟩
    have HE := Lib.hid hat.kp
    clear hat HA7 d2
    unfold magg
    go_wp2_with (rw [meta_field1])
    go_ret
    exact ⟨rfl, HE.out.below⟩
end Go.Proofs.YticophaepapjoaaGreatDoor.storeAgain
namespace Go.Proofs.YticophaepapjoaaGreatDoor.storeAgain
open Go Go.ChangeShapes Go.WideShapes Go.ChangeAt Go.RowKit
theorem walked (W : World) (n : Int) (wn : (Lit.int .i64 n).wf = true) (hT : Taken W) :
  Calls Tryz.prog 7 #[.int .i64 n] W fun e W' => e = .returned (.bool true) ∧ Below W.heap.size W W' := by
 exact walk theFlash theJournal W ⟨hT, trivial, trivial⟩ (jtaken hT) hT n (by have := bounds_i64 wn; omega) (by have := bounds_i64 wn; omega)
set_option maxRecDepth 100000 in
theorem lawWalk (H : Type) (enc : TypeId × Value → H) : LawWalk H enc Tryz.prog 7 Tryz.f7 (laidMetH Tryz.prog listed) := by
 intro W base args ds p hval hA hL
 rw [Tryz.params7] at hA hval
 obtain ⟨v0, vs0, d0, ds0, p0, q0, hargs, rfl, rfl, h0, r0⟩ := trodAll_cons hA
 obtain ⟨rfl, rfl, rfl⟩ := trodAll_nil r0
 obtain rfl : args = #[v0] := by cases args; simp_all
 obtain ⟨n0, rfl, _, _, w0⟩ := open_int Tryz.underlying3 (hval 0 3 v0 rfl rfl) h0
 exact walked W n0 w0 (taken_of hL)
set_option maxRecDepth 100000 in
theorem lifted (os : Os) (started : os.Started) (H : Type) (enc : TypeId × Value → H) :
  ReturnsInHanded {} Tryz.checked os 7 .any (fun w args => (Rows.storeAgainSpec.pre enc Tryz.prog Tryz.f7 [] false w args ∧ laidMetH Tryz.prog listed w) ∧ sizedMet enc Tryz.prog Tryz.f7 (OpenSpec.ofChange Rows.storeAgainSpec) false w args)
   (Rows.storeAgainSpec.post enc Tryz.prog Tryz.f7 false true false false) :=
 law_laid (C := Tryz.checked) (X := laidMetH Tryz.prog listed) (tb := 4) (fun _ _ hh h => h.of_heap hh) own started (by kernel_rfl) Tryz.func7
  (ChangeSpec.witness_shaped (enc := enc) (C := Tryz.checked) (os := os) (X := fun w _ => laidMetH Tryz.prog listed w) false (World.doorLaid Tryz.prog 400 os) #[.int .i64 0] 8 rfl (World.shaped_of_RefB (by kernel_rfl) (by kernel_rfl)) (by kernel_rfl) (by kernel_rfl) (by kernel_rfl) (door_met os _))
  laidOut (by kernel_rfl) (by kernel_rfl) Tryz.underlying4 rfl (fun ds h => by match ds, h with | [_], _ => rfl) (lawWalk H enc)
set_option maxRecDepth 100000 in
theorem over : Rows.storeAgainRow.holds Tryz.pinned (OpenSpec.ofChange Rows.storeAgainSpec) :=
 OpenClaim.holds_of_wide 7 Tryz.f7 rfl rfl rfl rfl rfl rfl rfl ⟨rfl, rfl, rfl, rfl, rfl⟩ rfl rfl rfl rfl rfl (by kernel_rfl) Tryz.func7 (by kernel_rfl)
  (of_decide_eq_true (by kernel_rfl)) (by unfold Func.isWrapper; first | (rw [if_pos (by decide +kernel)]; kernel_rfl) | (rw [if_neg (by decide +kernel)]; exact ⟨rfl, rfl⟩))
  (fun os started H enc _ => lifted os started H enc)
theorem proved : Rows.StoreAgainCardSaid :=
 Claim7.holds_tied_plain_at .later [] Rows.storeAgainCard.laidKinds true (true, Rows.storeAgainCard.stood.harness.2) false
  over (fun _ h => by cases h) (by kernel_rfl) (fun _ h => by cases h) storeAgain_row_tie rfl ⟨rfl, rfl⟩ (by kernel_rfl) rfl
  (fun f fn hf hfn => by
   obtain rfl : f = 7 := Option.some.inj ((show Tryz.prog.funcNamed "icehouse/icehouselaw21.StoreAgain" = some 7 by kernel_rfl).symm.trans hf) |>.symm
   obtain rfl : fn = Tryz.f7 := (Option.some.inj (Tryz.func7.symm.trans hfn)).symm
   exact ⟨by kernel_rfl, fun j t ht => by
    rw [Tryz.params7] at ht
    have hm : t ∈ [3] := by simpa using Array.mem_of_getElem? ht
    have hall : ([3].all fun u => !Tryz.prog.wantsStandIn u) = true := by kernel_rfl
    exact (show Tryz.prog.wantsStandIn t = false by simpa using List.all_eq_true.1 hall t hm)⟩)
  (by kernel_rfl)
#print axioms proved
end Go.Proofs.YticophaepapjoaaGreatDoor.storeAgain
