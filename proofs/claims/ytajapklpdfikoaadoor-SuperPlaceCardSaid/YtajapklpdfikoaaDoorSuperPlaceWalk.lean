/-
  THE WALK OF SuperPlace, whatever the program's slots are made of.
-/
import Derived.Test.YtajapklpdfikoaaDoorSuperBegun
import Derived.Test.YtajapklpdfikoaaDoorSuperLocs
import Derived.Test.YtajapklpdfikoaaDoorShort
import Derived.Outline
namespace Go.Proofs.YtajapklpdfikoaaDoor.superPlace
open Go Go.RowKit Go.Joins

def VP (u v : Nat) (A : Option Addr) (ac : Nat) (a : List UInt8) (B : Option Addr) (bc : Nat) (b : List UInt8) : Nat → World → Value → Prop
  | 0 => IsV (.int .i64 0)
  | 1 => IsV (.bool true)
  | 2 => IsV (.bool true)
  | 3 => IsV (.int .i64 0)
  | 4 => IsV (.bool true)
  | 5 => IsV (.bool true)
  | 6 => IsV (.bool true)
  | 7 => IsV (.pointer (some ⟨u, 0, none⟩))
  | 8 => TextV b
  | 9 => IsV (.string (txt b))
  | 10 => IsV (.slice B b.length bc)
  | 11 => IsV (.string (txt b))
  | 12 => IsV (.bool true)
  | 13 => IsV (.bool true)
  | 14 => IsV (.bool true)
  | 15 => IsV (.pointer (some ⟨v, 0, none⟩))
  | 16 => TextV a
  | 17 => IsV (.string (txt a))
  | 18 => IsV (.slice A a.length ac)
  | 19 => IsV (.string (txt a))
  | 20 => IsV (.bool true)
  | 21 => IsV (.bool true)
  | 22 => IsV (.bool true)
  | _ => fun _ _ => True
def GP : Nat → Option Bool
  | 2 => some true
  | 6 => some true
  | 14 => some true
  | _ => none
theorem VP_mono {u v : Nat} {A : Option Addr} {ac : Nat} {a : List UInt8} {B : Option Addr} {bc : Nat} {b : List UInt8} (i : Nat) (w w' : World) (x : Value) (h : Kp w w') (hv : VP u v A ac a B bc b i w x) : VP u v A ac a B bc b i w' x := by
  match i, hv with
  | 0, hv => exact hv
  | 1, hv => exact hv
  | 2, hv => exact hv
  | 3, hv => exact hv
  | 4, hv => exact hv
  | 5, hv => exact hv
  | 6, hv => exact hv
  | 7, hv => exact hv
  | 8, hv => exact TextV.mono h hv
  | 9, hv => exact hv
  | 10, hv => exact hv
  | 11, hv => exact hv
  | 12, hv => exact hv
  | 13, hv => exact hv
  | 14, hv => exact hv
  | 15, hv => exact hv
  | 16, hv => exact TextV.mono h hv
  | 17, hv => exact hv
  | 18, hv => exact hv
  | 19, hv => exact hv
  | 20, hv => exact hv
  | 21, hv => exact hv
  | 22, hv => exact hv
  | n + 23, _ => trivial
theorem GP_is {u v : Nat} {A : Option Addr} {ac : Nat} {a : List UInt8} {B : Option Addr} {bc : Nat} {b : List UInt8} (g : Nat) (c : Bool) (h : GP g = some c) (w : World) (x : Value) (hv : VP u v A ac a B bc b g w x) : x = .bool c := by
  unfold GP at h
  split at h
  all_goals first | (cases h; exact hv) | cases h

theorem getD_setL (l : List (List UInt8)) (k : Nat) (v : List UInt8) (i : Nat) : (l.set k v).getD i [] = if k = i ∧ i < l.length then v else l.getD i [] := by
  rw [List.getD_eq_getElem?_getD, List.getD_eq_getElem?_getD, List.getElem?_set]
  by_cases h : k = i
  · subst h
    by_cases h2 : k < l.length
    · simp [h2]
    · simp [h2]
  · simp [h]
/-- What stands in a sector beside the slots. -/
def base (i : Nat) : List UInt8 := over [UInt8.ofNat i, 7] blank
def rowsP (j : Nat) : List (List UInt8) := (List.range 16).map fun i => if i < j then base i else blank
theorem rowsP_len (j : Nat) : (rowsP j).length = 16 := by simp [rowsP]
theorem rowsP_at (j i : Nat) (hi : i < 16) : (rowsP j).getD i [] = if i < j then base i else blank := by
  unfold rowsP
  rw [List.getD_eq_getElem?_getD, List.getElem?_map, List.getElem?_range hi]; rfl
theorem rowsP_next (j : Nat) (hj : j < 16) : (rowsP j).set j (over [UInt8.ofNat j, 7] ((rowsP j).getD j [])) = rowsP (j + 1) := by
  have e : (rowsP j).getD j [] = blank := by rw [rowsP_at j j hj, if_neg (Nat.lt_irrefl j)]
  rw [e]
  apply List.ext_getElem (by simp [rowsP_len])
  intro i h1 h2
  have hi : i < 16 := by rw [rowsP_len] at h2; exact h2
  rw [← getD_mem _ _ [] h1, ← getD_mem _ _ [] h2, getD_setL, rowsP_len, rowsP_at j i hi, rowsP_at (j + 1) i hi]
  by_cases hji : j = i
  · subst hji; rw [if_pos ⟨rfl, hj⟩, if_pos (Nat.lt_succ_self j)]; rfl
  · rw [if_neg fun e => hji e.1]
    by_cases hlt : i < j
    · rw [if_pos hlt, if_pos (by omega)]
    · rw [if_neg hlt, if_neg (by omega)]
/-- The sectors behind all. -/
structure End (S : SupOK) (at_ : Nat) (a b : List UInt8) (rows : List (List UInt8)) : Prop where
  len : rows.length = 16
  r0 : rows.getD at_ [] = S.enc 1 a
  r1 : rows.getD (at_ + 1) [] = S.enc 2 b
  r2 : rows.getD (at_ + 2) [] = S.enc 1 b
  r3 : rows.getD (at_ + 3) [] = S.enc 2 a
  beside : ∀ i, i < 16 → i < at_ ∨ at_ + 4 ≤ i → rows.getD i [] = base i
theorem end_of (S : SupOK) (at_ : Nat) (a b : List UInt8) (h : at_ ≤ 10) :
    End S at_ a b ((((((( rowsP 16).set at_ (S.enc 1 a)).set (at_ + 1) blank).set (at_ + 2) (S.enc 1 b)).set (at_ + 2 + 1) blank).set (at_ + 1) (S.enc 2 b)).set (at_ + 2 + 1) (S.enc 2 a)) := by
  have ne : ∀ (l : List (List UInt8)) (k : Nat) (v : List UInt8) (i : Nat), k ≠ i → (l.set k v).getD i [] = l.getD i [] := fun l k v i hk => by rw [getD_setL, if_neg fun e => hk e.1]
  have eq : ∀ (l : List (List UInt8)) (k : Nat) (v : List UInt8), k < l.length → (l.set k v).getD k [] = v := fun l k v hk => by rw [getD_setL, if_pos ⟨rfl, hk⟩]
  refine ⟨by simp [rowsP_len], ?_, ?_, ?_, ?_, fun i hi hc => ?_⟩
  · rw [ne _ _ _ _ (by omega), ne _ _ _ _ (by omega), ne _ _ _ _ (by omega), ne _ _ _ _ (by omega), ne _ _ _ _ (by omega), eq _ _ _ (by rw [rowsP_len]; omega)]
  · rw [ne _ _ _ _ (by omega), eq _ _ _ (by simp only [List.length_set, rowsP_len]; omega)]
  · rw [ne _ _ _ _ (by omega), ne _ _ _ _ (by omega), ne _ _ _ _ (by omega), eq _ _ _ (by simp only [List.length_set, rowsP_len]; omega)]
  · exact eq _ (at_ + 3) _ (by simp only [List.length_set, rowsP_len]; omega)
  · rw [ne _ _ _ _ (by omega), ne _ _ _ _ (by omega), ne _ _ _ _ (by omega), ne _ _ _ _ (by omega), ne _ _ _ _ (by omega), ne _ _ _ _ (by omega), rowsP_at 16 i hi, if_pos hi]

set_option maxRecDepth 100000 in
set_option maxHeartbeats 4000000 in
theorem walk (S : SupOK) (w : World) (hT : S.T w) (at_ : Int) (PA : Option Addr) (PAc : Nat) (la : List UInt8) (a1 : la.length ≤ PAc) (a2 : PAc ≤ maxLen) (a3 : PA = none → PAc = 0) (a4 : Row w PA (fun b => b < w.heap.size) (bcells la))
    (PB : Option Addr) (PBc : Nat) (lb : List UInt8) (b1 : lb.length ≤ PBc) (b2 : PBc ≤ maxLen) (b3 : PB = none → PBc = 0) (b4 : Row w PB (fun b => b < w.heap.size) (bcells lb)) :
    Calls Tryd.prog 7 #[.int .i64 at_, .slice PA la.length PAc, .slice PB lb.length PBc] w fun e w' => e = .returned (.bool true) ∧ Below w.heap.size w w' := by
  have HT := Lib.hid hT
  have f3 := Lib.hid a3
  have g3 := Lib.hid b3
  have f4 := Lib.hid (bcells_take a4 40)
  have g4 := Lib.hid (bcells_take b4 40)
  have ftl : (la.take 40).length = min la.length 40 := by rw [List.length_take]; omega
  have gtl : (lb.take 40).length = min lb.length 40 := by rw [List.length_take]; omega
  have hcs : (decide (at_ < 0) = true) ∨ (decide (at_ < 0) = false ∧ decide (10 < at_) = true) ∨ (decide (at_ < 0) = false ∧ decide (10 < at_) = false) := by
    cases decide (at_ < 0) <;> cases decide (10 < at_) <;> simp
  clear hT a3 b3 a4 b4
  go_enter Tryd.func7, Tryd.ntmps7
  go_wp2_with fail
  refine (begun5 S w HT.out).mono ?_
  rintro e w1 ⟨rfl, hk1⟩
  have HK1 := Lib.hid hk1
  clear hk1
  rcases hcs with c1 | ⟨c1, c2⟩ | ⟨c1, c2⟩
  · go_wp2_with fail
    go_ret
    exact ⟨rfl, HK1.out.below⟩
  · go_wp2_with fail
    go_ret
    exact ⟨rfl, HK1.out.below⟩
  · have n1 : 0 ≤ at_ := by have := of_decide_eq_false c1; omega
    have n2 : at_ ≤ 10 := by have := of_decide_eq_false c2; omega
    obtain ⟨N, rfl⟩ : ∃ N : Nat, at_ = (N : Int) := ⟨at_.toNat, by omega⟩
    have n3 : N ≤ 10 := by omega
    clear n1 n2
    go_wp2_with fail
    refine (short_at PA la.length PAc 40 40 (la.take 40).length rfl ftl _ a1 a2 f3.out (by decide)).mono ?_
    rintro e w' ⟨rfl, rfl⟩
    have f5 : (la.take 40).length ≤ PAc := by omega
    have f6 : (la.take 40).length ≤ 40 := by omega
    generalize la.take 40 = a at f4 f5 f6 ⊢
    clear ftl
    go_wp2_with fail
    refine (short_at PB lb.length PBc 40 40 (lb.take 40).length rfl gtl _ b1 b2 g3.out (by decide)).mono ?_
    rintro e w' ⟨rfl, rfl⟩
    have g5 : (lb.take 40).length ≤ PBc := by omega
    have g6 : (lb.take 40).length ≤ 40 := by omega
    unfold maxLen at a2 b2
    generalize lb.take 40 = b at g4 g5 g6 ⊢
    clear gtl a1 b1 c1 c2
    go_wp2_with fail
    refine (dv_new HK1.out 16 (by decide) (by decide) 16 rfl).mono ?_
    rintro e w2 ⟨p, F, rfl, hd, -, -⟩
    have HD := Lib.hid hd
    clear hd HK1
    go_wp2_with fail
    go_loopw [9] (fun i wr => ∃ (j : Nat) (F : Foot) (sd : SDev), j ≤ 16 ∧ i = .int .i64 j ∧ Dv w wr p F sd ∧ sd.now = rowsP j ∧ sd.calls ≤ j) (fun i _ => 16 - (intOf i).toNat)
    case atStart => exact ⟨0, F, _, Nat.zero_le _, rfl, HD.out, by decide, Nat.le_refl _⟩
    case round =>
      clear HD
      obtain ⟨j, F, sd, hj, rfl, hdv, hnow, hcalls⟩ := hrel
      have HD := Lib.hid hdv
      have HN := Lib.hid hnow
      clear hdv hnow
      by_cases hl : j < 16
      · have hl' : (j : Int) < 16 := by omega
        go_wp2_with fail
        have hbn : (UInt8.ofNat j).toNat = j := by simp; omega
        have hw := dv_write (HD.out.keep ((Keeps.refl _ wr).alloc (.cells #[.int .u8 (j : Int), .int .u8 7] 5))) j (some ⟨wr.heap.size, 0, none⟩) 2 [UInt8.ofNat j, 7] 2 rfl (by simp) (by rw [HN.out, rowsP_len]; exact hl)
          (Row.fresh (F := fun b => ¬ F.all b) wr #[.int .u8 (j : Int), .int .u8 7] 5 (0, 0) _ rfl (fun hf => by have := HD.out.d.lt _ hf; omega) (bcells [UInt8.ofNat j, 7]) (by simp [bcells, bcell, hbn])) (by omega)
        refine (show Calls _ _ _ _ _ from hw).mono ?_
        rintro e w3 ⟨rfl, F3, hd3, -⟩
        have HD3 := Lib.hid hd3
        have HN3 := Lib.hid (show (sd.write j [UInt8.ofNat j, 7]).now = rowsP (j + 1) by
          show sd.now.set j (over [UInt8.ofNat j, 7] (sd.now.getD j [])) = _
          rw [HN.out]; exact rowsP_next j hl)
        have hc3 : (sd.write j [UInt8.ofNat j, 7]).calls ≤ j + 1 := show sd.calls + 1 ≤ j + 1 by omega
        generalize sd.write j [UInt8.ofNat j, 7] = s3 at HD3 HN3 hc3
        clear hd3 hw HD HN hbn
        go_wp2_with fail
        go_roundw
        case rel => exact ⟨j + 1, F3, s3, by omega, by go_num, HD3.out, HN3.out, hc3⟩
        case measure => simp [intOf]; omega
      · obtain rfl : j = 16 := by omega
        have hlen : sd.now.length = 16 := by rw [HN.out, rowsP_len]
        go_wp2_with fail
        refine (duo_make S HT.out HD.out N (N : Int) rfl PA PAc a _ rfl (by omega) ((row_new (Fs := F) f4.out HD.out.kp HD.out.gd HD.out.gd).mono fun b _ hb => hb.1) f5 (by unfold maxLen; omega) f3.out f6 (by omega)).mono ?_
        rintro e w3 ⟨q1, F3, Fs1, n3', rfl, hd3, hn3, -, -⟩
        rw [HN.out] at hd3
        have HD3 := Lib.hid hd3
        clear hd3 HD
        go_wp2_with fail
        refine (duo_make S HT.out HD3.out.dv (N + 2) ((N : Int) + 2) (by omega) PB PBc b _ rfl (by simp [SDev.still, rowsP_len]; omega) ((row_new (Fs := F3) g4.out HD3.out.dv.kp HD3.out.dv.gd HD3.out.dv.gd).mono fun b _ hb => hb.1) g5 (by unfold maxLen; omega) g3.out g6 (show n3' ≤ _ by omega)).mono ?_
        rintro e w4 ⟨q2, F4, Fs2, n4, rfl, hd4, hn4, hst4, hfs4⟩
        have hn4' : n4 ≤ n3' + 100 := hn4
        have HD4 := Lib.hid hd4
        have HS4 := Lib.hid (HD3.out.other hd4.dv hst4 (by
          show ((_ : List (List UInt8)).set (N + 2 + 1) blank).getD (N + 0) [] = _
          simp only [getD_setL]
          rw [if_neg (by omega), if_neg (by omega)]) (by simp [SDev.still]))
        have HA4 := Lib.hid (show Apart Fs1 Fs2 from ⟨fun b hb h2 => by have := hfs4 b h2; have := S.lt HD3.out.su b (.inl hb); omega, fun b hb h1 => by have := hfs4 b (.inl hb); have := S.lt HD3.out.su b h1; omega⟩)
        clear hd4 hn4 hst4 hfs4 HD3
        go_wp2_with fail
        refine (duo_save HT.out HS4.out PB PBc b _ rfl (row_new g4.out HS4.out.dv.kp HS4.out.dv.gd HS4.out.gs) g5 (by unfold maxLen; omega) g3.out g6 (show n4 ≤ _ by omega) (show (1 : Nat) ≤ 549755813888 by decide)).mono ?_
        rintro e w5 ⟨rfl, F5, Fs5, n5, hd5, hn5, hk5, x1, x2, x3, x4⟩
        have hn5' : n5 ≤ n4 + 100 := hn5
        obtain ⟨ht5, -⟩ := HD4.out.saved HA4.out hd5.dv hk5 x1 x2 x3 x4 (by
          show ((_ : List (List UInt8)).set (N + (1 - 0)) _).getD (N + 2 + 0) [] = _
          rw [getD_setL, if_neg (by omega)]) (by simp [SDev.still])
        have HT5 := Lib.hid ht5
        clear hd5 hn5 hk5 x1 x2 x3 x4 ht5 HD4 HS4 HA4
        go_wp2_with fail
        refine (duo_save HT.out HT5.out PA PAc a _ rfl (row_new f4.out HT5.out.dv.kp HT5.out.dv.gd HT5.out.gs) f5 (by unfold maxLen; omega) f3.out f6 (show n5 ≤ _ by omega) (show (1 : Nat) ≤ 549755813888 by decide)).mono ?_
        rintro e w6 ⟨rfl, F6, Fs6, n6, hd6, -, -, -, -, -, -⟩
        have hend := end_of S N a b n3
        have HE := Lib.hid (show ∃ sd : SDev, Dv w w6 p F6 sd ∧ End S N a b sd.now from ⟨_, hd6.dv, hend⟩)
        clear hd6 HT5 hend HN hlen
        obtain ⟨sd6, hd6, he6⟩ := HE.out
        have HD6 := Lib.hid hd6
        have HE6 := Lib.hid he6
        clear hd6 he6 HE
        go_wp2_with fail
        go_loopw [14] (fun i wr => ∃ j : Nat, j ≤ 16 ∧ i = .int .i64 j ∧ Keeps (fun _ => True) w6 wr) (fun i _ => 16 - (intOf i).toNat)
        case atStart => exact ⟨0, Nat.zero_le _, rfl, Keeps.refl _ _⟩
        case round =>
          obtain ⟨j, hj, rfl, hkp⟩ := hrel
          have HKP := Lib.hid hkp
          clear hkp
          by_cases hl : j < 16
          · have hl' : (j : Int) < 16 := by omega
            have hdd : (decide (j < N) = true) ∨ (decide (j < N) = false ∧ decide ((N : Int) + 4 ≤ (j : Int)) = true) ∨ (decide (j < N) = false ∧ decide ((N : Int) + 4 ≤ (j : Int)) = false) := by
              cases decide (j < N) <;> cases decide ((N : Int) + 4 ≤ (j : Int)) <;> simp
            go_wp2_with fail
            refine (dv_read (HD6.out.keep HKP.out) j (by rw [HE6.out.len]; exact hl)).mono ?_
            rintro e w7 ⟨g, c, rfl, hr7, hc1, hc2, hk7⟩
            have HR7 := Lib.hid hr7
            have HK7 := Lib.hid (HKP.out.trans hk7)
            unfold maxLen at hc1
            clear hr7 hk7 HKP
            have cells : (j < N ∨ N + 4 ≤ j) → w7.cell? ⟨g, 0, none⟩ = some (.int .u8 (j : Int)) ∧ w7.cell? ⟨g, 1, none⟩ = some (.int .u8 7) := fun hc => by
              have hb := HE6.out.beside j hl hc
              have hr := HR7.out
              rw [hb] at hr
              have hbn : (UInt8.ofNat j).toNat = j := by simp; omega
              obtain ⟨b0, o0, e0, -, h0⟩ := hr.at_ (k := 0) (by simp [bcells, base, over, blank])
              obtain ⟨b9, o9, e9, -, h9⟩ := hr.at_ (k := 1) (by simp [bcells, base, over, blank])
              cases e0; cases e9
              refine ⟨h0.trans ?_, h9.trans ?_⟩
              · simp [bcells, base, over, bcell, hbn]
              · simp [bcells, base, over, bcell]
            have HC := Lib.hid cells
            clear cells
            rcases hdd with d1 | ⟨d1, d2⟩ | ⟨d1, d2⟩
            · obtain ⟨x0, x1⟩ := HC.out (.inl (of_decide_eq_true d1))
              clear HC
              go_wp2_with fail
              go_roundw
              case rel => exact ⟨j + 1, by omega, by go_num, HK7.out⟩
              case measure => simp [intOf]; omega
            · obtain ⟨x0, x1⟩ := HC.out (.inr (by have := of_decide_eq_true d2; omega))
              clear HC
              go_wp2_with fail
              go_roundw
              case rel => exact ⟨j + 1, by omega, by go_num, HK7.out⟩
              case measure => simp [intOf]; omega
            · clear HC
              go_wp2_with fail
              go_roundw
              case rel => exact ⟨j + 1, by omega, by go_num, HK7.out⟩
              case measure => simp [intOf]; omega
          · have hl' : ¬ (j : Int) < 16 := by omega
            go_wp2_with fail
            refine (duo_open S HT.out (HD6.out.keep HKP.out) N 1 2 b (N : Int) rfl (by rw [HE6.out.len]; omega) (by decide) g6 (by decide) HE6.out.r1 (fun t' x' hx => by
              have e : S.dec (sd6.now.getD N []) = some (t', x') := hx
              rw [HE6.out.r0, S.decEnc 1 a f6 (by decide) (by decide)] at e
              injection e with e
              injection e with e
              omega) (by decide)).mono ?_
            rintro e wy ⟨u, Fu, rfl, hu, -, hky⟩
            have HU0 := Lib.hid hu
            clear hu hky HKP
            go_wp2_with fail
            refine (duo_open S HT.out HU0.out.dv (N + 2) 1 2 a ((N : Int) + 2) (by omega) (by rw [HE6.out.len]; omega) (by decide) f6 (by decide) HE6.out.r3 (fun t' x' hx => by
              have e : S.dec (sd6.now.getD (N + 2) []) = some (t', x') := hx
              rw [HE6.out.r2, S.decEnc 1 b g6 (by decide) (by decide)] at e
              injection e with e
              injection e with e
              omega) (by decide)).mono ?_
            rintro e wz ⟨v, Fv, rfl, hv, -, hkz⟩
            have HU := Lib.hid (HU0.out.keep hkz)
            have HV := Lib.hid hv
            have HRA := Lib.hid (show Row wz PA (fun _ => True) (bcells a) from (f4.out.keep (hv.dv.kp.mono fun _ _ _ => trivial)).mono fun _ _ _ => trivial)
            have HRB := Lib.hid (show Row wz PB (fun _ => True) (bcells b) from (g4.out.keep (hv.dv.kp.mono fun _ _ _ => trivial)).mono fun _ _ _ => trivial)
            clear hv hkz HU0
            go_wp2_with fail
            refine wp_region_guard (R := Kp) (V := VP u v PA PAc a PB PBc b) (w0 := wz) GP (by kernel_rfl) (fun w => Keeps.refl _ w) (fun _ _ _ h k => h.trans k) VP_mono (by kernel_rfl) GP_is (unwanted_of [] (by kernel_rfl) (fun _ h => by cases h)) ((Keeps.refl _ wz).drew) (each_of ?_) ?_
            · refine ⟨?_, ?_, ?_, ?_, ?_, ?_, ?_, ?_, ?_, ?_, ?_, ?_, ?_, ?_, ?_, ?_, ?_, ?_, ?_, ?_, ?_, ?_, ?_, trivial⟩ <;> intro hw a1 w2 L
              · exact kp_move rfl (L.old 11 (by kernel_rfl))
              · exact kp_eqE rfl rfl (L.val 0 116 (by kernel_rfl) (by kernel_rfl)) rfl
              · exact kp_move rfl (L.val 1 117 (by kernel_rfl) (by kernel_rfl))
              · exact kp_move rfl (L.old 13 (by kernel_rfl))
              · exact kp_eqE rfl rfl (L.val 3 119 (by kernel_rfl) (by kernel_rfl)) rfl
              · exact kp_pick rfl (L.val 2 118 (by kernel_rfl) (by kernel_rfl)) (L.val 4 120 (by kernel_rfl) (by kernel_rfl))
              · exact kp_move rfl (L.val 5 121 (by kernel_rfl) (by kernel_rfl))
              · exact kp_move rfl (L.old 17 (by kernel_rfl))
              · exact kp_text HT.out (HU.out.keep L.rel) rfl (L.val 7 123 (by kernel_rfl) (by kernel_rfl))
              · exact kp_string rfl Tryd.underlying31 Tryd.underlying5 Tryd.underlying9 (L.val 8 124 (by kernel_rfl) (by kernel_rfl))
              · exact kp_move rfl (L.old 2 (by kernel_rfl))
              · exact kp_string rfl Tryd.underlying31 Tryd.underlying5 Tryd.underlying9 ⟨_, _, (L.val 10 126 (by kernel_rfl) (by kernel_rfl)), HRB.out.keep L.rel⟩
              · exact kp_eqS (txt_eq b) rfl (L.val 9 125 (by kernel_rfl) (by kernel_rfl)) (L.val 11 127 (by kernel_rfl) (by kernel_rfl))
              · exact kp_pick rfl (L.val 6 122 (by kernel_rfl) (by kernel_rfl)) (L.val 12 128 (by kernel_rfl) (by kernel_rfl))
              · exact kp_move rfl (L.val 13 129 (by kernel_rfl) (by kernel_rfl))
              · exact kp_move rfl (L.old 18 (by kernel_rfl))
              · exact kp_text HT.out (HV.out.keep L.rel) rfl (L.val 15 131 (by kernel_rfl) (by kernel_rfl))
              · exact kp_string rfl Tryd.underlying31 Tryd.underlying5 Tryd.underlying9 (L.val 16 132 (by kernel_rfl) (by kernel_rfl))
              · exact kp_move rfl (L.old 1 (by kernel_rfl))
              · exact kp_string rfl Tryd.underlying31 Tryd.underlying5 Tryd.underlying9 ⟨_, _, (L.val 18 134 (by kernel_rfl) (by kernel_rfl)), HRA.out.keep L.rel⟩
              · exact kp_eqS (txt_eq a) rfl (L.val 17 133 (by kernel_rfl) (by kernel_rfl)) (L.val 19 135 (by kernel_rfl) (by kernel_rfl))
              · exact kp_pick rfl (L.val 14 130 (by kernel_rfl) (by kernel_rfl)) (L.val 20 136 (by kernel_rfl) (by kernel_rfl))
              · exact kp_assign rfl (L.val 21 137 (by kernel_rfl) (by kernel_rfl))
            · intro vs w8 hw8 hlen hv
              match vs, hlen with
              | [v0, v1, v2, v3, v4, v5, v6, v7, v8, v9, v10, v11, v12, v13, v14, v15, v16, v17, v18, v19, v20, v21, v22], _ =>
                have e22 : v22 = .bool true := hv 22 6 (by kernel_rfl)
                clear hv
                subst e22
                have HE := Lib.hid (HU.out.dv.kp.trans hw8)
                simp only [putAll, List.map, Act.put, List.setIfInBounds_toArray, List.set_cons_succ, List.set_cons_zero, Exit.then]
                go_wp2
                go_ret
                exact ⟨rfl, HE.out.below⟩
end Go.Proofs.YtajapklpdfikoaaDoor.superPlace
