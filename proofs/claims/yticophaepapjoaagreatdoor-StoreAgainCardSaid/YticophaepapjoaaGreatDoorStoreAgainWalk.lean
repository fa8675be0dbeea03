/-
  StoreAgain, walked over what cache and journal keep.
-/
import Derived.Test.YticophaepapjoaaGreatDoorStLocs
namespace Go.Proofs.YticophaepapjoaaGreatDoor.storeAgain
open Go Go.RowKit Go.Joins

def VA (g b q1 i : Nat) : Nat → World → Value → Prop
  | 0 => IsV (.pointer (some ⟨b, 0, none⟩))
  | 1 => IsV (.pointer (some ⟨b, 0, none⟩))
  | 2 => IsV (.pointer (some ⟨b, 0, none⟩))
  | 3 => IsV (.pointer (some ⟨q1, 0, none⟩))
  | 4 => IsV (.int .i64 (i : Int))
  | 5 => IsV (.int .i64 ((97 + i : Nat) : Int))
  | 6 => IsV (.int .u8 ((97 + i : Nat) : Int))
  | 7 => TextM g (snameL i)
  | 8 => IsV (.string (sname i))
  | 9 => IsV (.agg #[.string (sname i), .string { data := #[118] }, .int .i64 0, .bool false])
  | _ => IsV (.int .i64 0)
theorem VA_keep {g b q1 i : Nat} (j : Nat) (w w' : World) (v : Value) (h : Keeps (fun x => g ≤ x) w w') (hv : VA g b q1 i j w v) : VA g b q1 i j w' v := by
  match j, hv with
  | 0, hv => exact hv
  | 1, hv => exact hv
  | 2, hv => exact hv
  | 3, hv => exact hv
  | 4, hv => exact hv
  | 5, hv => exact hv
  | 6, hv => exact hv
  | 7, hv => exact TextM.keep h hv
  | 8, hv => exact hv
  | 9, hv => exact hv
  | n + 10, hv => exact hv
def sX : ByteArray := { data := #[120] }
theorem sX_ok : keyOk sX := by unfold keyOk; decide
/-- The store in the midst: little was done. -/
def Mid (S : FlashOK) (J : JournalOK) (W w : World) (p b q1 q2 k i : Nat) : Prop := ∃ (z : Sto) (d : Nat), StAt S J W w p b q1 q2 k z 300 d (fun _ => False) ∧ z.f.age ≤ 10 * (i + 1) ∧ z.j.age ≤ 10 * (i + 1) ∧ z.c ≤ 100000 * (i + 1)
set_option maxRecDepth 100000 in
set_option maxHeartbeats 2000000 in
theorem walk (S : FlashOK) (J : JournalOK) (w : World) (hS : S.T w) (hJ : J.T w) (hT : theSup.T w) (n : Int) (_ : -9223372036854775808 ≤ n) (_ : n < 9223372036854775808) :
    Calls Tryz.prog 7 #[.int .i64 n] w fun e w' => e = .returned (.bool true) ∧ Below w.heap.size w w' := by
  have HS := Lib.hid hS
  have HJ := Lib.hid hJ
  have HT := Lib.hid hT
  clear hS hJ hT
  have hcs : (decide (n < 0) = true) ∨ (decide (n < 0) = false ∧ decide (10 < n) = true) ∨ (decide (n < 0) = false ∧ decide (10 < n) = false) := by
    cases decide (n < 0) <;> cases decide (10 < n) <;> simp
  go_enter Tryz.func7, Tryz.ntmps7
  go_wp2_with fail
  refine (show Calls _ _ _ _ _ from begun21 S J w HS.out HJ.out HT.out).mono ?_
  rintro e w1 ⟨rfl, hk⟩
  have K1 := Lib.hid hk
  clear hk
  rcases hcs with c1 | ⟨c1, c2⟩ | ⟨c1, c2⟩
  · go_wp2_with fail
    go_ret
    exact ⟨rfl, K1.out.below⟩
  · go_wp2_with fail
    go_ret
    exact ⟨rfl, K1.out.below⟩
  · have n1 : 0 ≤ n := by have := of_decide_eq_false c1; omega
    have n2 : n ≤ 10 := by have := of_decide_eq_false c2; omega
    obtain ⟨N, rfl⟩ : ∃ N : Nat, n = (N : Int) := ⟨n.toNat, by omega⟩
    have n3 : N ≤ 10 := by omega
    clear n1 n2
    go_wp2_with fail
    refine (show Calls _ _ _ _ _ from fo_dev (X := fun _ => False) K1.out (fun _ h => h.elim) 300 (by decide) (by decide) 300 rfl).mono ?_
    rintro e w2 ⟨p, rfl, hB, -⟩
    have HB := Lib.hid hB.dev
    clear hB K1 c1 c2
    go_wp2_with fail
    refine (show Calls _ _ _ _ _ from so_make HS.out HJ.out HT.out HB.out (by decide) (by decide)).mono ?_
    rintro e w3 ⟨b, q1, q2, k, c, rfl, hat, hc, -⟩
    have HA := Lib.hid (show Mid S J w w3 p b q1 q2 k 0 from ⟨_, _, hat, by show 1 ≤ 10; decide, by show 1 ≤ 10; decide, by show c ≤ 100000; omega⟩)
    clear hat hc HB
    go_wp2_with fail
    go_loopw [7] (fun i wr => ∃ j : Nat, j ≤ N ∧ i = .int .i64 (j : Int) ∧ Hid (Mid S J w wr p b q1 q2 k j)) (fun i _ => N - (intOf i).toNat)
    case atStart => exact ⟨0, Nat.zero_le _, rfl, HA⟩
    case round =>
      clear HA
      obtain ⟨j, hj, rfl, HA⟩ := hrel
      by_cases hl : j < N
      · have hl' : (j : Int) < (N : Int) := by omega
        obtain ⟨z, d, hat, ha1, ha2, ha3⟩ := HA.out
        have HZ := Lib.hid (And.intro ha1 (And.intro ha2 ha3))
        have HST := Lib.hid (PutSt.start (x := sItem j) hat)
        clear hat ha1 ha2 ha3 HA
        go_wp2_with fail
        refine wp_region_one (V := VA wr.heap.size b q1 j) (w0 := wr) 10 (PutSt S J w p b q1 q2 k z 300 wr.heap.size (sItem j) (fun _ => False)) (fun w w' => Keeps (fun x => wr.heap.size ≤ x) w w') (fun _ => none) (by kernel_rfl) (fun i w w' v h hv => VA_keep i w w' v (h.mono fun _ _ _ => trivial) hv) (fun _ _ _ h hs => hs.keep h) (fun i _ w w' v h hv => VA_keep i w w' v h hv) (by kernel_rfl) (by decide) (fun _ _ h => by cases h) (fun i o ho hw => (all_wanted (by kernel_rfl) ho hw).elim) HST.out (each_of ?_) ?_
        · refine ⟨?_, ?_, ?_, ?_, ?_, ?_, ?_, ?_, ?_, ?_, ?_, trivial⟩ <;> intro hw a1 w2 L
          · rw [if_neg (by decide)]
            intro t hs _
            exact kp_move rfl (L.old 5 (by kernel_rfl))
          · rw [if_neg (by decide)]
            intro t hs _
            exact kp_nilM rfl (L.val 0 31 (by kernel_rfl) (by kernel_rfl))
          · rw [if_neg (by decide)]
            intro t hs _
            exact kp_st0 rfl (L.val 1 32 (by kernel_rfl) (by kernel_rfl))
          · rw [if_neg (by decide)]
            intro t hs _
            exact kp_ldC hs.c0 rfl (L.val 2 33 (by kernel_rfl) (by kernel_rfl))
          · rw [if_neg (by decide)]
            intro t hs _
            exact kp_move rfl (L.old 7 (by kernel_rfl))
          · rw [if_neg (by decide)]
            intro t hs _
            exact kp_add97 (by omega) rfl (L.val 4 35 (by kernel_rfl) (by kernel_rfl))
          · rw [if_neg (by decide)]
            intro t hs _
            exact kp_u8 (by omega) rfl (L.val 5 36 (by kernel_rfl) (by kernel_rfl))
          · rw [if_neg (by decide)]
            intro t hs _
            exact kp_stwo (by omega) hs.size rfl (L.val 6 37 (by kernel_rfl) (by kernel_rfl))
          · rw [if_neg (by decide)]
            intro t hs _
            exact kp_string rfl Tryz.underlying64 Tryz.underlying5 Tryz.underlying9 (TextM.text (L.val 7 38 (by kernel_rfl) (by kernel_rfl)))
          · rw [if_neg (by decide)]
            intro t hs _
            exact kp_item rfl (L.val 8 39 (by kernel_rfl) (by kernel_rfl))
          · rw [if_pos rfl]
            intro hs
            have hf : a1.eval (.func 14) = .func (.func 14) #[] #[] := rfl
            have e0 : a1.eval (.tmp 34) = .pointer (some ⟨q1, 0, none⟩) := L.val 3 34 (by kernel_rfl) (by kernel_rfl)
            have e1 : a1.eval (.tmp 40) = .agg #[.string (sname j), .string { data := #[118] }, .int .i64 0, .bool false] := L.val 9 40 (by kernel_rfl) (by kernel_rfl)
            obtain ⟨hgw, d, hat⟩ := hs
            refine one_enter (f := 14) (args := #[.pointer (some ⟨q1, 0, none⟩), .agg #[.string (sname j), .string { data := #[118] }, .int .i64 0, .bool false]]) ?_ (so_put HS.out hat (by have := HZ.out.1; omega) (by have := HZ.out.2.2; omega) (sItem j) (sItem_may j) rfl) ?_
            · clear hat
              generalize sname j = sj at e1 ⊢
              generalize a1.eval = ρ at e0 e1 hf ⊢
              unfold execOp
              go_simp
            · rintro e w' ⟨rfl, u, hu, hat', hk'⟩
              have hsz := hk'.size
              exact ⟨_, rfl, (keeps_from hk').mono fun c _ hc => .inr hc, ⟨by omega, u, hu, hat'.less fun c hc => hc.elim⟩, rfl⟩
        · intro vs w8 hs8 hlen hv
          match vs, hlen with
          | [v0, v1, v2, v3, v4, v5, v6, v7, v8, v9, v10], _ =>
            clear hv
            obtain ⟨-, u, -, hat⟩ := hs8
            have HA8 := Lib.hid hat
            clear hat HST hlen
            simp only [putAll, List.map, Act.put, List.setIfInBounds_toArray, List.set_cons_succ, List.set_cons_zero, Exit.then]
            go_wp2_with fail
            have hk9 : Kp w8 (w8.alloc (.cells #[.string { data := #[120] }] 9)) := (Keeps.refl _ w8).alloc _
            have hs9 : (w8.alloc (.cells #[.string { data := #[120] }] 9)).heap.size = w8.heap.size + 1 := by simp
            have hrow := Row.fresh (F := fun x => x = w8.heap.size) w8 #[.string { data := #[120] }] 9 (0, 0) w8.heap.size rfl rfl ([sX].map Value.string) rfl
            generalize w8.alloc (.cells #[.string { data := #[120] }] 9) = w9 at *
            have HA9 := Lib.hid (HA8.out.more (Y := fun x => x = w8.heap.size) hk9 fun x hx => .inr (by omega))
            have HR := Lib.hid hrow
            clear hk9 hs9 hrow HA8
            generalize w8.heap.size = g at *
            refine (show Calls _ _ _ _ _ from so_kill HS.out HJ.out HA9.out (by show z.f.age + 1 ≤ 20000; have := HZ.out.1; omega) (by show z.j.age ≤ 20000; have := HZ.out.2.1; omega) (by show z.c + 2000 ≤ 300000000000; have := HZ.out.2.2; omega) (some ⟨g, 0, none⟩) [sX] HR.out 1 1 rfl (by decide) (by decide) (by decide) (by intro k hk; rw [List.mem_singleton.1 hk]; exact sX_ok) _ rfl).mono ?_
            rintro e w10 ⟨rfl, g2, u2, -, -, hat, -⟩
            have HA10 := Lib.hid (show Mid S J w w10 p b q1 q2 k (j + 1) from ⟨_, _, hat.less fun x hx => hx.elim, by show z.f.age + 1 + 1 + 1 ≤ _; have := HZ.out.1; omega, by show z.j.age + 1 + 1 ≤ _; have := HZ.out.2.1; omega, by show z.c + 2000 + 2000 * (1 + 1) ≤ _; have := HZ.out.2.2; omega⟩)
            clear hat HA9 HR HZ
            go_wp2_with fail
            go_roundw
            case rel => exact ⟨j + 1, by omega, by go_num, HA10⟩
            case measure => simp [intOf]; omega
      · obtain rfl : N = j := by omega
        have hl' : ¬ (N : Int) < (N : Int) := by omega
        obtain ⟨z, d, hat, ha1, ha2, ha3⟩ := HA.out
        have c0 := hat.blk.c0
        have HB := Lib.hid hat
        have HZ := Lib.hid (And.intro ha1 ha3)
        clear hat ha1 ha2 ha3 HA
        go_wp2_with fail
        refine (show Calls _ _ _ _ _ from so_flush HS.out HB.out (by have := HZ.out.1; omega) (by have := HZ.out.2; omega)).mono ?_
        rintro e w4 ⟨rfl, hat, -⟩
        have HD := Lib.hid hat.dev
        have HC := Lib.hid (show z.c + 1000 ≤ 200000000000 by have := HZ.out.2; omega)
        clear hat HB HZ c0
        go_wp2_with fail
        refine (show Calls _ _ _ _ _ from so_make HS.out HJ.out HT.out HD.out (by decide) HC.out).mono ?_
        rintro e w5 ⟨b2, p1, p2, k2, c, rfl, hat, -, -⟩
        have d0 := hat.blk.c0
        have d1 := hat.blk.c1
        have d2 := hat.blk.c2
        have HA5 := Lib.hid hat
        clear hat HD HC
        go_wp2_with fail
        refine (show Calls _ _ _ _ _ from so_seq HJ.out HA5.out 0 rfl).mono ?_
        rintro e w6 ⟨rfl, -, hat⟩
        have d0 := hat.blk.c0
        have d2 := hat.blk.c2
        have HA6 := Lib.hid hat
        clear hat HA5 d1
        go_wp2_with fail
        refine (show Calls _ _ _ _ _ from so_keys HS.out HA6.out).mono ?_
        rintro e w7 ⟨A, c7, ks, rfl, -, hm, -, -, -, -, hat⟩
        have hks : ks = [] := by
          rw [List.eq_nil_iff_forall_not_mem]
          intro x hx
          exact absurd ((hm x).1 hx) (by simp [FSt.at_, fLast])
        subst hks
        have d2 := hat.blk.c2
        have HA7 := Lib.hid hat
        clear hat hm HA6 d0
        go_wp2_with fail
        refine (show Calls _ _ _ _ _ from so_started HA7.out 1 rfl).mono ?_
        rintro e w8 ⟨rfl, rfl⟩
        go_wp2_with fail
        refine (show Calls _ _ _ _ _ from so_meta HA7.out).mono ?_
        rintro e w8 ⟨rfl, -, hat⟩
        have HE := Lib.hid hat.kp
        clear hat HA7 d2
        unfold magg
        go_wp2_with (rw [meta_field1])
        go_ret
        exact ⟨rfl, HE.out.below⟩

end Go.Proofs.YticophaepapjoaaGreatDoor.storeAgain
