/-
  NetOrder (layer 20), walked.
-/
import Derived.Test.YtpijhpfcigjkeaaDoorNtLocs
import Derived.Deep.CutBlock
namespace Go.Proofs.YtpijhpfcigjkeaaDoor.netOrder
open Go Go.RowKit Go.Joins

def msO (k : Nat) : Ms := ⟨9, 1, 2, 0, 0, (k : Int), 0, 0, 0, ⟨#[]⟩, 0, false, it0, [], [], [], 0, []⟩
theorem msO_may {k : Nat} (h : k < 1000) : mayM (msO k) = true := by
  have h1 : numB (k : Int) = true := by simp [numB]; omega
  have h0 : numB 0 = true := by decide
  have e1 : headB (msO k) = true := by
    unfold headB msO
    simp only [h1, h0]
    rfl
  have e2 : listB (msO k) = true := by
    unfold listB msO
    simp only
    rfl
  have e3 : ((msO k).items.all It.may && marksB (msO k).marks) = true := by
    unfold msO
    simp only
    rfl
  unfold mayM
  rw [e1, e2, e3]; rfl
theorem msO_fits {k : Nat} (h : k < 1000) : (msO k).Fits := may_fits (msO_may h)
theorem range_next (f : Nat → Ms) (k : Nat) : (List.range (k + 1)).map f = (List.range k).map f ++ [f k] := by
  rw [List.range_succ, List.map_append]; rfl
theorem map_erase (f : Nat → Ms) (ks : List Nat) (i : Nat) : (ks.map f).eraseIdx i = (ks.eraseIdx i).map f := by
  induction ks generalizing i with
  | nil => rfl
  | cons k ks ih =>
    cases i with
    | zero => rfl
    | succ i => simp [ih]
def lastZ (ks : List Nat) (i : Nat) : Int := if i = 0 then -1 else (ks.getD (i - 1) 0 : Nat)
theorem lastZ_lt {ks : List Nat} (h : ks.Pairwise (· < ·)) {i : Nat} (hi : i < ks.length) : lastZ ks i < (ks[i] : Int) := by
  unfold lastZ
  split
  · omega
  · have h1 := List.pairwise_iff_getElem.1 h (i - 1) i (by omega) hi (by omega)
    rw [List.getD_eq_getElem?_getD, List.getElem?_eq_getElem (by omega : i - 1 < ks.length)]
    simp only [Option.getD_some]
    omega
theorem lastZ_next {ks : List Nat} {i : Nat} (hi : i < ks.length) : lastZ ks (i + 1) = (ks[i] : Int) := by
  unfold lastZ
  rw [if_neg (by omega), Nat.add_sub_cancel, List.getD_eq_getElem?_getD, List.getElem?_eq_getElem hi]
  rfl
/-- The net, with the messages of these numbers. -/
structure Ord (S : NetOK) (w wr : World) (n : Nat) (ks : List Nat) : Prop where
  at_ : ∃ F, S.At w wr n F (ks.map msO)
  up : ks.Pairwise (· < ·)
  small : ks.length ≤ 60 ∧ ∀ k ∈ ks, k < 60
theorem Ord.erase {S : NetOK} {w wr w' : World} {n : Nat} {ks : List Nat} (h : Ord S w wr n ks) (i : Nat) {F : Nat → Prop} (ha : S.At w w' n F ((ks.map msO).eraseIdx i)) : Ord S w w' n (ks.eraseIdx i) :=
  ⟨⟨F, by rw [map_erase] at ha; exact ha⟩, h.up.sublist (List.eraseIdx_sublist _ _), Nat.le_trans (List.eraseIdx_sublist ks i).length_le h.small.1, fun k hk => h.small.2 k ((List.eraseIdx_sublist ks i).subset hk)⟩

set_option maxRecDepth 100000 in
set_option maxHeartbeats 4000000 in
theorem walk (S : NetOK) (w : World) (hT : S.T w) (n : Int) (A : Option Addr) (c : Nat) (l : List Int) (_f3 : l.length ≤ c) (_f4 : c ≤ maxLen) (hL : Row w A (fun b => b < w.heap.size) (l.map (Value.int .i64))) :
    Calls Tryd.prog 7 #[.int .i64 n, .slice A l.length c] w fun e w' => e = .returned (.bool true) ∧ Below w.heap.size w w' := by
  have HT := Lib.hid hT
  have HL := Lib.hid hL
  have HFIN := Lib.hid (show ∀ w', Kp w w' → Below w.heap.size w w' from fun w' h => h.below)
  unfold maxLen at _f4
  clear hT hL
  go_enter Tryd.func7, Tryd.ntmps7
  go_wp2_with fail
  refine (show Calls _ _ _ _ _ from begun20 S w HT.out).mono ?_
  rintro e w1 ⟨rfl, hk⟩
  have HK1 := Lib.hid hk
  clear hk
  have hcs : decide (n < 0) = true ∨ (decide (n < 0) = false ∧ decide (60 < n) = true) ∨ ∃ N : Nat, n = (N : Int) ∧ N ≤ 60 := by
    by_cases h : n < 0
    · exact .inl (decide_eq_true h)
    · by_cases h2 : 60 < n
      · exact .inr (.inl ⟨decide_eq_false h, decide_eq_true h2⟩)
      · exact .inr (.inr ⟨n.toNat, by omega, by omega⟩)
  rcases hcs with t1 | ⟨t1, t2⟩ | ⟨N, rfl, hN⟩
  · go_wp2_with fail
    go_ret
    exact ⟨rfl, HFIN.out _ HK1.out⟩
  · go_wp2_with fail
    go_ret
    exact ⟨rfl, HFIN.out _ HK1.out⟩
  · have t1 : decide ((N : Int) < 0) = false := by simp
    have t2 : decide (60 < (N : Int)) = false := by simp; omega
    have t3 : decide (60 < N) = false := by simp; omega
    go_wp2_with fail
    refine (show Calls _ _ _ _ _ from S.new w w1 HT.out HK1.out).mono ?_
    rintro e w2 ⟨q, F, rfl, h, -, -⟩
    have HA := Lib.hid h
    clear h t1 t2 t3
    go_wp2_with fail
    go_loopw [7] (fun i wr => ∃ (k : Nat) (F : Nat → Prop), k ≤ N ∧ i = .int .i64 (k : Int) ∧ Hid (S.At w wr q F ((List.range k).map msO))) (fun i _ => N - (intOf i).toNat)
    case atStart => exact ⟨0, F, Nat.zero_le _, rfl, HA⟩
    case round =>
      clear HA
      obtain ⟨k, F, hk, rfl, HA⟩ := hrel
      by_cases hlt : k < N
      · have hlt' : (k : Int) < (N : Int) := by omega
        obtain ⟨vO, hvO⟩ : ∃ v, msV (msO k) msA0 = v := ⟨_, rfl⟩
        have HVO := Lib.hid hvO
        clear hvO
        go_wp2_with (first
          | (refine list_buildM rfl _ rfl vO (by rw [← HVO.out]; kernel_rfl) ?_)
          | (refine list_slice1 rfl (.tmp 35) rfl _ _ HVO.out.symm ?_; intro w3 hb3 hk3 hs3))
        have hA3 := S.atK HA.out hk3
        have hlt3 := (S.atIn HA.out).2
        have HS := Lib.hid (S.send w w3 q F _ (some ⟨wr.heap.size, 0, none⟩) 1 1 (fun b => b = wr.heap.size) [(msO k, msA0)] HT.out hA3 rfl ⟨hb3.row, fun p hp => by
          rw [List.mem_singleton.1 hp]; exact MsIn.zero _ _ _ rfl rfl rfl rfl⟩ (fun b hb hf => by have := (hlt3 b hf).2; omega) (by decide) (by decide) (by decide) (fun p hp => by
          rw [List.mem_singleton.1 hp]; exact msO_fits (by omega)))
        rw [show [(msO k, msA0)].map (·.1) = [msO k] from rfl, sent_one (msO_may (by omega)) (by rw [List.length_map, List.length_range]; omega)] at HS
        clear hA3 hlt3 hb3 hk3 hs3
        refine (show Calls _ _ _ _ _ from HS.out).mono ?_
        rintro e w4 ⟨rfl, F4, hA4, -, -⟩
        have HA4 := Lib.hid (show S.At w w4 q F4 ((List.range (k + 1)).map msO) from by rw [range_next]; exact hA4)
        clear hA4 HS HA
        go_wp2_with fail
        go_roundw
        case rel => exact ⟨k + 1, F4, hlt, by go_num, HA4⟩
        case measure => simp [intOf]; omega
      · obtain rfl : k = N := by omega
        have hlt' : ¬ ((k : Int) < (k : Int)) := by omega
        have HO := Lib.hid (Ord.mk (S := S) (w := w) (wr := wr) (n := q) (ks := List.range k) ⟨F, HA.out⟩ List.pairwise_lt_range (by
          refine ⟨by rw [List.length_range]; exact hN, fun j hj => ?_⟩
          have := List.mem_range.1 hj
          omega))
        clear HA hlt hk
        go_upto_block 2 with fail
        go_cut [8, 9, 10, 11, 12, 13] from 38 to 84 (fun s8 s9 s10 s11 s12 s13 wx => ∃ ks : List Nat, Hid (Ord S w wx q ks))
        case first =>
          go_wp2_with fail
          go_loopw [8] (fun i wr => ∃ (j : Nat) (ks : List Nat), j ≤ l.length ∧ j ≤ 40 ∧ i = .int .i64 (j : Int) ∧ Hid (Ord S w wr q ks)) (fun i _ => 40 - (intOf i).toNat)
          case atStart => exact ⟨0, List.range k, Nat.zero_le _, by omega, rfl, HO⟩
          case round =>
            clear HO
            obtain ⟨j, ks, hj, hj40, rfl, HO⟩ := hrel
            have hcs : decide ((j : Int) < (l.length : Int)) = false ∨ (decide ((j : Int) < (l.length : Int)) = true ∧ decide ((j : Int) < 40) = false) ∨ (j < l.length ∧ j < 40) := by
              by_cases h : j < l.length
              · by_cases h2 : j < 40
                · exact .inr (.inr ⟨h, h2⟩)
                · exact .inr (.inl ⟨decide_eq_true (by omega), decide_eq_false (by omega)⟩)
              · exact .inl (decide_eq_false (by omega))
            rcases hcs with t1 | ⟨t1, t2⟩ | ⟨hjl, hj4⟩
            · have p1 : ¬ (j : Int) < (l.length : Int) := of_decide_eq_false t1
              have p3 : decide (j < l.length) = false := decide_eq_false (by omega)
              go_wp2_with fail
              go_meet
              exact ⟨ks, HO⟩
            · have p1 : (j : Int) < (l.length : Int) := of_decide_eq_true t1
              have p4 : decide (j < l.length) = true := decide_eq_true (by omega)
              have p2 : ¬ (j : Int) < 40 := of_decide_eq_false t2
              have p3 : decide (j < 40) = false := decide_eq_false (by omega)
              go_wp2_with fail
              go_meet
              exact ⟨ks, HO⟩
            · have p2 : (j : Int) < 40 := by omega
              have t1 : decide ((j : Int) < (l.length : Int)) = true := decide_eq_true (by omega)
              have t2 : decide ((j : Int) < 40) = true := decide_eq_true (by omega)
              have t3 : decide (j < l.length) = true := decide_eq_true hjl
              have t4 : decide (j < 40) = true := decide_eq_true hj4
              obtain ⟨F5, hA5⟩ := HO.out.at_
              have HN := Lib.hid (S.len w wr q F5 _ HT.out hA5)
              have HA5 := Lib.hid hA5
              rw [List.length_map] at HN
              clear hA5
              go_wp2_with fail
              refine (show Calls _ _ _ _ _ from HN.out).mono ?_
              rintro e w5 ⟨rfl, hk5⟩
              have HA6 := Lib.hid (S.atK HA5.out hk5)
              clear hk5 HN HA5 t1 t2 t3 t4
              obtain ⟨M, hM⟩ : ∃ M, ks.length = M := ⟨_, rfl⟩
              have HML := Lib.hid hM
              have hM60 : M ≤ 60 := by rw [← hM]; exact HO.out.small.1
              rw [hM]
              clear hM
              by_cases hM0 : M = 0
              · have t1 : ((M : Int) == 0) = true := by subst hM0; rfl
                clear hM0
                have HO2 := Lib.hid (Ord.mk ⟨F5, HA6.out⟩ HO.out.up HO.out.small : Ord S w w5 q ks)
                go_wp2_with fail
                go_meet
                exact ⟨ks, HO2⟩
              · have t1 : ((M : Int) == 0) = false := beq_eq_false_iff_ne.2 (by omega)
                obtain ⟨b, o, rfl, hbw, c0⟩ := HL.out.at_ (k := j) (by simpa using hjl)
                rw [List.getElem_map] at c0
                generalize l[j] = z at c0
                obtain ⟨t, i, hz, z1, z2, hz2, hi⟩ := turn_nt z M (by omega)
                have HZ := Lib.hid (And.intro hz hz2)
                have c5 := (S.atIn HA6.out).1.cell c0 trivial
                have HC := Lib.hid c5
                clear hz hz2 c0 c5
                go_wp2_with fail
                refine wp_region_guard (R := Kp) (V := Vv [.slice (some ⟨b, o, none⟩) l.length c, .int .i64 (j : Int), .pointer (some ⟨b, o + j, none⟩), .int .i64 z, .pointer (some ⟨q, 0, none⟩), .int .i64 (M : Int), .int .i64 t, .pointer (some ⟨q, 0, none⟩), .int .i64 (M : Int), .int .i64 (t + (M : Int)), .pointer (some ⟨q, 0, none⟩), .int .i64 (M : Int), .int .i64 (i : Int), .int .i64 (i : Int)]) (w0 := w5) (fun _ => none) (by kernel_rfl) (fun w => Keeps.refl _ w) (fun _ _ _ h k => h.trans k) (Vv_keep _) (by kernel_rfl) (fun _ _ h => by cases h) (fun i o ho hw => (all_wanted (by kernel_rfl) ho hw).elim) ((Keeps.refl _ w5).drew) (each_of ?_) ?_
                · refine ⟨?_, ?_, ?_, ?_, ?_, ?_, ?_, ?_, ?_, ?_, ?_, ?_, ?_, ?_, trivial⟩ <;> intro hw a1 wx La
                  · exact kp_move rfl (La.old 1 (by kernel_rfl))
                  · exact kp_move rfl (La.old 8 (by kernel_rfl))
                  · exact kp_ixI hjl rfl (La.val 0 51 (by kernel_rfl) (by kernel_rfl)) (La.val 1 52 (by kernel_rfl) (by kernel_rfl))
                  · exact kp_ldI (La.rel.cell HC.out trivial) rfl (La.val 2 53 (by kernel_rfl) (by kernel_rfl))
                  · exact kp_move rfl (La.old 6 (by kernel_rfl))
                  · exact kp_lenNt S (by rw [List.length_map]; exact HML.out) HT.out (S.atK HA6.out La.rel) rfl (La.val 4 55 (by kernel_rfl) (by kernel_rfl))
                  · exact kp_remI (by omega) HZ.out.1 (by omega) (by omega) rfl (La.val 3 54 (by kernel_rfl) (by kernel_rfl)) (La.val 5 56 (by kernel_rfl) (by kernel_rfl))
                  · exact kp_move rfl (La.old 6 (by kernel_rfl))
                  · exact kp_lenNt S (by rw [List.length_map]; exact HML.out) HT.out (S.atK HA6.out La.rel) rfl (La.val 7 58 (by kernel_rfl) (by kernel_rfl))
                  · exact kp_addI (by omega) (by omega) rfl (La.val 6 57 (by kernel_rfl) (by kernel_rfl)) (La.val 8 59 (by kernel_rfl) (by kernel_rfl))
                  · exact kp_move rfl (La.old 6 (by kernel_rfl))
                  · exact kp_lenNt S (by rw [List.length_map]; exact HML.out) HT.out (S.atK HA6.out La.rel) rfl (La.val 10 61 (by kernel_rfl) (by kernel_rfl))
                  · exact kp_remI (by omega) HZ.out.2 (by omega) (by omega) rfl (La.val 9 60 (by kernel_rfl) (by kernel_rfl)) (La.val 11 62 (by kernel_rfl) (by kernel_rfl))
                  · exact kp_assign rfl (La.val 12 63 (by kernel_rfl) (by kernel_rfl))
                intro vs w6 hw6 hlen hv
                match vs, hlen with
                | [v0, v1, v2, v3, v4, v5, v6, v7, v8, v9, v10, v11, v12, v13], _ =>
                  have e13 : v13 = .int .i64 (i : Int) := hv 13 9 (by kernel_rfl)
                  subst e13
                  have HA7 := Lib.hid (S.atK HA6.out hw6)
                  clear hv hw6 HA6 HZ HC
                  simp only [putAll, List.map, Act.put, List.setIfInBounds_toArray, List.set_cons_succ, List.set_cons_zero, Exit.then]
                  have hik : i < ks.length := by rw [HML.out]; exact hi
                  have him : i < (ks.map msO).length := by rw [List.length_map]; exact hik
                  have hel : (ks.map msO)[i] = msO ks[i] := List.getElem_map _
                  have HLK := Lib.hid (S.look w w6 q F5 (ks.map msO) i him HT.out HA7.out)
                  have HTK := Lib.hid (fun w8 (h : S.At w w8 q F5 (ks.map msO)) => S.take w w8 q F5 (ks.map msO) i him HT.out h)
                  rw [hel] at HLK HTK
                  have hjj : j + 1 ≤ 40 := hj4
                  have HER := Lib.hid (fun w' F' => HO.out.erase i (w' := w') (F := F'))
                  clear hel him
                  generalize ks[i] = y at HLK HTK
                  go_wp2_with fail
                  refine (show Calls _ _ _ _ _ from HLK.out).mono ?_
                  rintro e w7 ⟨⟨a7, rfl, -, -⟩, hk7⟩
                  have HA8 := Lib.hid (S.atK HA7.out hk7)
                  obtain ⟨v7, hv7⟩ : ∃ v, msV (msO y) a7 = v := ⟨_, rfl⟩
                  have HV7 := Lib.hid hv7
                  rw [hv7]
                  clear hk7 hv7 HLK HA7
                  go_upto_region 17 with (first
                    | (refine list_allocM rfl rfl ?_; intro w8 hb8 hk8 hs8)
                    | (refine list_storeM rfl (.tmp 10) (.tmp 68) rfl _ _ (msO y) _ a7 hb8 rfl HV7.out.symm ?_; intro w9 hb9 hk9 hs9))
                  have hk79 := kp_made hk8 hk9
                  have HA9 := Lib.hid (S.atK HA8.out hk79)
                  have hq : w7.heap.size < w9.heap.size := hb9.lt
                  obtain ⟨g9, hg9⟩ : ∃ g, w7.heap.size = g := ⟨_, rfl⟩
                  have HNF := Lib.hid (show ¬ F5 g9 from fun hf => by
                    have := ((S.atIn HA8.out).2 _ hf).2
                    omega)
                  rw [hg9] at hb9 ⊢
                  have HB9 := Lib.hid hb9
                  clear hb8 hk8 hs8 hb9 hk9 hs9 hk79 hg9 HA8 hq
                  go_wp2_with fail
                  refine (show Calls _ _ _ _ _ from HTK.out _ HA9.out).mono ?_
                  rintro e w10 ⟨⟨a10, F10, rfl, hA10, -, -⟩, hk10⟩
                  have HO10 := Lib.hid (HER.out _ _ hA10)
                  have HA10 := Lib.hid hA10
                  have HB10 := Lib.hid (HB9.out.keep hk10 HNF.out)
                  obtain ⟨v10, hv10⟩ : ∃ v, msV (msO y) a10 = v := ⟨_, rfl⟩
                  have HV10 := Lib.hid hv10
                  rw [hv10]
                  clear hA10 hk10 hv10 HTK HA9 HB9 HER HNF
                  go_upto_region 18 with (first
                    | (refine list_allocM rfl rfl ?_; intro w11 hb11 hk11 hs11)
                    | (refine list_storeM rfl (.tmp 12) (.tmp 74) rfl _ _ (msO y) _ a10 hb11 rfl HV10.out.symm ?_; intro w12 hb12 hk12 hs12))
                  have hk102 := kp_made hk11 hk12
                  have HO12 := Lib.hid (Ord.mk ⟨F10, by have h := S.atK HA10.out hk102; rw [map_erase] at h; exact h⟩ HO10.out.up HO10.out.small : Ord S w w12 q (ks.eraseIdx i))
                  have c10 := (HB10.out.kp hk102).cell 5 (.int .i64 (y : Int)) rfl
                  have c12 := hb12.cell 5 (.int .i64 (y : Int)) rfl
                  generalize w10.heap.size = g12 at *
                  clear hb11 hk11 hs11 hb12 hk12 hs12 hk102 HA10 HO10 HB10
                  go_wp2_with fail
                  go_roundw
                  case rel => exact ⟨j + 1, _, hjl, hjj, by go_num, HO12⟩
                  case measure => simp [intOf]; omega
        case rest =>
          clear HO
          obtain ⟨ks, HO⟩ := hcut
          go_wp2_with fail
          go_loopw [14, 15] (fun v i wr => ∃ (j : Nat) (z : Int), j ≤ ks.length ∧ v = .int .i64 z ∧ i = .int .i64 (j : Int) ∧ Hid (z = lastZ ks j) ∧ Hid (Ord S w wr q ks)) (fun _ i _ => ks.length - (intOf i).toNat)
          case atStart => exact ⟨0, -1, Nat.zero_le _, rfl, rfl, Lib.hid rfl, HO⟩
          case round =>
            clear HO
            obtain ⟨j, z, hj, rfl, rfl, HZ, HO⟩ := hrel
            obtain ⟨F5, hA5⟩ := HO.out.at_
            have HN := Lib.hid (S.len w wr q F5 _ HT.out hA5)
            have HA5 := Lib.hid hA5
            have h60 := HO.out.small.1
            rw [List.length_map] at HN
            clear hA5
            go_wp2_with fail
            refine (show Calls _ _ _ _ _ from HN.out).mono ?_
            rintro e w5 ⟨rfl, hk5⟩
            have HA6 := Lib.hid (S.atK HA5.out hk5)
            clear hk5 HN HA5
            by_cases hjl : j < ks.length
            · have p1 : (j : Int) < (ks.length : Int) := by omega
              have p4 : decide (j < ks.length) = true := decide_eq_true hjl
              have him : j < (ks.map msO).length := by rw [List.length_map]; exact hjl
              have hel : (ks.map msO)[j] = msO ks[j] := List.getElem_map _
              have HLK := Lib.hid (S.look w w5 q F5 (ks.map msO) j him HT.out HA6.out)
              rw [hel] at HLK
              have hup := lastZ_lt HO.out.up hjl
              rw [← HZ.out] at hup
              have HZ2 := Lib.hid (lastZ_next hjl)
              clear hel him
              generalize ks[j] = y at HLK hup HZ2
              go_wp2_with fail
              refine (show Calls _ _ _ _ _ from HLK.out).mono ?_
              rintro e w7 ⟨⟨a7, rfl, -, -⟩, hk7⟩
              have HA8 := Lib.hid (S.atK HA6.out hk7)
              obtain ⟨v7, hv7⟩ : ∃ v, msV (msO y) a7 = v := ⟨_, rfl⟩
              have HV7 := Lib.hid hv7
              rw [hv7]
              clear hk7 hv7 HLK HA6
              go_upto_region 25 with (first
                | (refine list_allocM rfl rfl ?_; intro w8 hb8 hk8 hs8)
                | (refine list_storeM rfl (.tmp 16) (.tmp 95) rfl _ _ (msO y) _ a7 hb8 rfl HV7.out.symm ?_; intro w9 hb9 hk9 hs9))
              have HO9 := Lib.hid (Ord.mk ⟨F5, S.atK HA8.out (kp_made hk8 hk9)⟩ HO.out.up HO.out.small : Ord S w w9 q ks)
              have c9 := hb9.cell 5 (.int .i64 (y : Int)) rfl
              generalize w7.heap.size = g9 at *
              have t1 : decide ((y : Int) ≤ z) = false := decide_eq_false (by omega)
              have HZ3 := Lib.hid (show (y : Int) = lastZ ks (j + 1) from HZ2.out.symm)
              clear hb8 hk8 hs8 hb9 hk9 hs9 HA8 HO HZ HZ2
              go_wp2_with fail
              go_roundw
              case rel => exact ⟨j + 1, (y : Int), hjl, rfl, by go_num, HZ3, HO9⟩
              case measure => simp [intOf]; omega
            · have p1 : ¬ (j : Int) < (ks.length : Int) := by omega
              have p4 : decide (j < ks.length) = false := decide_eq_false hjl
              have HK := Lib.hid (S.atIn HA6.out).1
              clear hjl hj
              go_wp2_with fail
              go_ret
              exact ⟨rfl, HFIN.out _ HK.out⟩

end Go.Proofs.YtpijhpfcigjkeaaDoor.netOrder
