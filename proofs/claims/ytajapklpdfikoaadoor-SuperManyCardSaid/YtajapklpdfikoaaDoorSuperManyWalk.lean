/-
  THE WALK OF SuperMany, whatever the program's slots are made of.
-/
import Derived.Test.YtajapklpdfikoaaDoorSuperBegun
import Derived.Test.YtajapklpdfikoaaDoorSuperLocs
import Derived.Test.YtajapklpdfikoaaDoorInvOne
import Derived.Outline
namespace Go.Proofs.YtajapklpdfikoaaDoor.superMany
open Go Go.RowKit Go.Joins

def VM (m q k : Nat) : Nat → World → Value → Prop
  | 0 => IsV (.pointer (some ⟨q, 0, none⟩))
  | 1 => IsV (.int .i64 (k : Int))
  | 2 => IsV (.int .u8 (k : Int))
  | 3 => TextM m [UInt8.ofNat k]
  | 4 => IsV (.int .i64 0)
  | 5 => IsV (.bool false)
  | 6 => IsV (.bool false)
  | 7 => IsV (.pointer (some ⟨q, 0, none⟩))
  | 8 => IsV (.int .i64 ((k + 2 : Nat) : Int))
  | 9 => IsV (.int .i64 (k : Int))
  | 10 => IsV (.int .i64 ((k + 2 : Nat) : Int))
  | 11 => IsV (.bool false)
  | 12 => IsV (.bool false)
  | 13 => IsV (.bool false)
  | 14 => IsV (.pointer (some ⟨q, 0, none⟩))
  | 15 => TextN m [UInt8.ofNat k]
  | 16 => IsV (.string (txt [UInt8.ofNat k]))
  | 17 => IsV (.int .i64 (k : Int))
  | 18 => IsV (.int .u8 (k : Int))
  | 19 => TextM m [UInt8.ofNat k]
  | 20 => IsV (.string (txt [UInt8.ofNat k]))
  | 21 => IsV (.bool false)
  | 22 => IsV (.bool false)
  | _ => fun _ _ => True
def GM : Nat → Option Bool
  | 6 => some false
  | 13 => some false
  | _ => none
theorem VM_keep {m q k : Nat} (i : Nat) (w w' : World) (v : Value) (h : Keeps (fun b => m ≤ b) w w') (hv : VM m q k i w v) : VM m q k i w' v := by
  match i, hv with
  | 0, hv => exact hv
  | 1, hv => exact hv
  | 2, hv => exact hv
  | 3, hv => exact TextM.keep h hv
  | 4, hv => exact hv
  | 5, hv => exact hv
  | 6, hv => exact hv
  | 7, hv => exact hv
  | 8, hv => exact hv
  | 9, hv => exact hv
  | 10, hv => exact hv
  | 11, hv => exact hv
  | 12, hv => exact hv
  | 13, hv => exact hv
  | 14, hv => exact hv
  | 15, hv => exact TextN.keep h hv
  | 16, hv => exact hv
  | 17, hv => exact hv
  | 18, hv => exact hv
  | 19, hv => exact TextM.keep h hv
  | 20, hv => exact hv
  | 21, hv => exact hv
  | 22, hv => exact hv
  | n + 23, _ => trivial
theorem GM_is {m q k : Nat} (g : Nat) (c : Bool) (h : GM g = some c) (w : World) (v : Value) (hv : VM m q k g w v) : v = .bool c := by
  unfold GM at h
  split at h
  all_goals first | (cases h; exact hv) | cases h

/-- Ahead of the Save of a round, behind it. -/
def Stg (S : SupOK) (W : World) (p q k : Nat) (rows : List (List UInt8)) (n m : Nat) (F Fs : Foot) {wh : Nat} {tx : List UInt8} : Bool → World → Prop
  | false, w => Duo S W w p q F Fs (SDev.still rows n) ⟨p, 0, wh, k + 1, tx⟩ ∧ m ≤ w.heap.size
  | true, w => ∃ (F' Fs' : Foot) (n' : Nat), Duo S W w p q F' Fs' (SDev.still (rows.set (0 + (1 - wh)) (S.enc (k + 1 + 1) [UInt8.ofNat k])) n') ⟨p, 0, 1 - wh, k + 1 + 1, [UInt8.ofNat k]⟩ ∧ n' ≤ n + 100 ∧ m ≤ w.heap.size
theorem Stg.keep {S : SupOK} {W w w' : World} {p q k n m wh : Nat} {rows : List (List UInt8)} {F Fs : Foot} {tx : List UInt8} {b : Bool} (h : Kp w w') (hs : Stg S W p q k rows n m F Fs (wh := wh) (tx := tx) b w) : Stg S W p q k rows n m F Fs (wh := wh) (tx := tx) b w' := by
  cases b
  · exact ⟨hs.1.keep h, Nat.le_trans hs.2 h.size⟩
  · obtain ⟨F', Fs', n', h1, h2, h3⟩ := hs
    exact ⟨F', Fs', n', h1.keep h, h2, Nat.le_trans h3 h.size⟩
theorem Stg.m {S : SupOK} {W w : World} {p q k n m wh : Nat} {rows : List (List UInt8)} {F Fs : Foot} {tx : List UInt8} (b : Bool) (hs : Stg S W p q k rows n m F Fs (wh := wh) (tx := tx) b w) : m ≤ w.heap.size := by
  cases b
  · exact hs.2
  · obtain ⟨_, _, _, _, _, h⟩ := hs
    exact h

set_option maxRecDepth 100000 in
set_option maxHeartbeats 4000000 in
theorem walk (S : SupOK) (w : World) (hT : S.T w) (n : Int) : Calls Tryd.prog 8 #[.int .i64 n] w fun e w' => e = .returned (.bool true) ∧ Below w.heap.size w w' := by
  have HT := Lib.hid hT
  have hcs : (decide (n < 0) = true) ∨ (decide (n < 0) = false ∧ decide (60 < n) = true) ∨ (decide (n < 0) = false ∧ decide (60 < n) = false) := by
    cases decide (n < 0) <;> cases decide (60 < n) <;> simp
  clear hT
  go_enter Tryd.func8, Tryd.ntmps8
  go_wp2_with fail
  refine (begun5 S w HT.out).mono ?_
  rintro e w1 ⟨rfl, hk1⟩
  have HK1 := Lib.hid hk1
  clear hk1
  rcases hcs with c1 | ⟨c1, c2⟩ | ⟨c1, c2⟩
  · go_wp2_with fail
    go_ret
    exact ⟨rfl, HK1.out.below⟩
  · go_wp2_with fail
    go_ret
    exact ⟨rfl, HK1.out.below⟩
  · have n1 : 0 ≤ n := by have := of_decide_eq_false c1; omega
    have n2 : n ≤ 60 := by have := of_decide_eq_false c2; omega
    obtain ⟨N, rfl⟩ : ∃ N : Nat, n = (N : Int) := ⟨n.toNat, by omega⟩
    have n3 : N ≤ 60 := by omega
    clear n1 n2
    go_wp2_with fail
    refine (dv_new HK1.out 2 (by decide) (by decide) 2 rfl).mono ?_
    rintro e w2 ⟨p, F, rfl, hd, -, -⟩
    have HD := Lib.hid hd
    clear hd HK1 c1 c2
    go_wp2_with fail
    refine (duo_make S HT.out HD.out 0 0 rfl none 0 [] 0 rfl (by decide) (Row.nil _ _ _) (by decide) (by decide) (fun _ => rfl) (by decide) (by decide)).mono ?_
    rintro e w3 ⟨q, F3, Fs, n3', rfl, hd, hn3, -, -⟩
    have hn3' : n3' ≤ 100 := hn3
    have HD3 := Lib.hid hd
    have HO3 := Lib.hid (oth_make (S := S) (rows := (SDev.still (List.replicate 2 blank) 0).now) p 0 (S.enc 1 []) [] (by decide))
    clear hd hn3 HD
    go_wp2_with fail
    go_loopw [7] (fun i wr => ∃ (k : Nat) (F Fs : Foot) (rows : List (List UInt8)) (n wh : Nat) (tx : List UInt8), k ≤ N ∧ i = .int .i64 k ∧ n ≤ 100 * (k + 1) ∧ Oth S rows ⟨p, 0, wh, k + 1, tx⟩ ∧ Duo S w wr p q F Fs (SDev.still rows n) ⟨p, 0, wh, k + 1, tx⟩) (fun i _ => N - (intOf i).toNat)
    case atStart => exact ⟨0, F3, Fs, _, n3', _, [], Nat.zero_le _, rfl, by omega, HO3.out, HD3.out⟩
    case round =>
      clear HD3 HO3 hn3'
      obtain ⟨k, F, Fs, rows, n, wh, tx, hk, rfl, hn, ho, hd⟩ := hrel
      have HD := Lib.hid hd
      have HO := Lib.hid ho
      have HWF := Lib.hid (S.wf hd.su)
      have HFm := Lib.hid (show (∀ b, F.all b → b < wr.heap.size) ∧ (∀ b, Fs.all b → b < wr.heap.size) from ⟨hd.dv.d.lt, S.lt hd.su⟩)
      have HST := Lib.hid (fun (b : Bool) (w0 : World) (hs : Stg S w p q k rows n wr.heap.size F Fs (wh := wh) (tx := tx) b w0) => Stg.m b hs)
      clear hd ho
      by_cases hl : k < N
      · have hl' : (k : Int) < (N : Int) := by omega
        go_wp2_with fail
        refine wp_region_one (V := VM wr.heap.size q k) (w0 := wr) 4 (Stg S w p q k rows n wr.heap.size F Fs (wh := wh) (tx := tx)) (fun w w' => Keeps (fun b => wr.heap.size ≤ b) w w') GM (by kernel_rfl) (fun i w w' v h hv => VM_keep i w w' v (h.mono fun _ _ _ => trivial) hv) (fun _ _ _ h hs => hs.keep h) (fun i _ w w' v h hv => VM_keep i w w' v h hv) (by kernel_rfl) (by decide) GM_is (fun i o ho hw => (all_wanted (by kernel_rfl) ho hw).elim) ⟨HD.out.keep ((Keeps.refl _ wr).drew), Nat.le_refl _⟩ (each_of ?_) ?_
        · refine ⟨?_, ?_, ?_, ?_, ?_, ?_, ?_, ?_, ?_, ?_, ?_, ?_, ?_, ?_, ?_, ?_, ?_, ?_, ?_, ?_, ?_, ?_, ?_, trivial⟩ <;> intro hw a1 w2 L
          · rw [if_neg (by decide)]
            intro b hs _
            exact kp_move rfl (L.old 5 (by kernel_rfl))
          · rw [if_neg (by decide)]
            intro b hs _
            exact kp_move rfl (L.old 7 (by kernel_rfl))
          · rw [if_neg (by decide)]
            intro b hs _
            exact kp_u8 (by omega) rfl (L.val 1 32 (by kernel_rfl) (by kernel_rfl))
          · rw [if_neg (by decide)]
            intro b hs _
            exact kp_one (by omega) (HST.out _ _ hs) rfl (L.val 2 33 (by kernel_rfl) (by kernel_rfl))
          · rw [if_pos rfl]
            rintro ⟨hd, hmw⟩
            obtain ⟨A, c, e3, h1, h2, h3, hr⟩ := L.val 3 34 (by kernel_rfl) (by kernel_rfl)
            have hf : a1.eval (.func 18) = .func (.func 18) #[] #[] := rfl
            have e0 : a1.eval (.tmp 31) = .pointer (some ⟨q, 0, none⟩) := L.val 0 31 (by kernel_rfl) (by kernel_rfl)
            refine one_enter (f := 18) (args := #[.pointer (some ⟨q, 0, none⟩), .slice A 1 c]) ?_ (duo_save HT.out hd A c [UInt8.ofNat k] 1 rfl (hr.mono fun b _ hb => ⟨fun hf => by have := HFm.out.1 b hf; omega, fun hf => by have := HFm.out.2 b hf; omega⟩) h1 h2 h3 (by simp) (show n ≤ _ by omega) (show k + 1 ≤ _ by omega)) ?_
            · clear hd hmw
              generalize a1.eval = ρ at e0 e3 hf ⊢
              unfold execOp
              go_simp
            · rintro e w' ⟨rfl, F', Fs', k', hd', hk', hkp, -, -, -, -⟩
              refine ⟨_, rfl, hkp.mono fun b _ hb => ⟨fun hf => by have := HFm.out.1 b (.inl hf); omega, fun hf => by have := HFm.out.2 b (.inl hf); omega⟩, ⟨F', Fs', k', hd', ?_, Nat.le_trans hmw hkp.size⟩, rfl⟩
              have : k' ≤ n + 100 := hk'
              omega
          · rw [if_neg (by decide)]
            intro b hs _
            exact kp_neE rfl rfl (L.val 4 35 (by kernel_rfl) (by kernel_rfl)) rfl
          · rw [if_neg (by decide)]
            intro b hs _
            exact kp_move rfl (L.val 5 36 (by kernel_rfl) (by kernel_rfl))
          · rw [if_neg (by decide)]
            intro b hs _
            exact kp_move rfl (L.old 5 (by kernel_rfl))
          · rw [if_neg (by decide)]
            intro b hs hb
            obtain rfl := hb [6] (by kernel_rfl)
            obtain ⟨F', Fs', k', hd', -, -⟩ := hs
            exact kp_turn hd'.su rfl (L.val 7 38 (by kernel_rfl) (by kernel_rfl))
          · rw [if_neg (by decide)]
            intro b hs _
            exact kp_move rfl (L.old 7 (by kernel_rfl))
          · rw [if_neg (by decide)]
            intro b hs _
            exact kp_add (n := 2) (by omega) rfl (L.val 9 40 (by kernel_rfl) (by kernel_rfl)) rfl
          · rw [if_neg (by decide)]
            intro b hs _
            exact kp_neI (by simp) rfl (L.val 8 39 (by kernel_rfl) (by kernel_rfl)) (L.val 10 41 (by kernel_rfl) (by kernel_rfl))
          · rw [if_neg (by decide)]
            intro b hs _
            exact kp_pick rfl (L.val 6 37 (by kernel_rfl) (by kernel_rfl)) (L.val 11 42 (by kernel_rfl) (by kernel_rfl))
          · rw [if_neg (by decide)]
            intro b hs _
            exact kp_move rfl (L.val 12 43 (by kernel_rfl) (by kernel_rfl))
          · rw [if_neg (by decide)]
            intro b hs _
            exact kp_move rfl (L.old 5 (by kernel_rfl))
          · rw [if_neg (by decide)]
            intro b hs hb
            obtain rfl := hb [13, 8, 6] (by kernel_rfl)
            obtain ⟨F', Fs', k', hd', -, hmw⟩ := hs
            exact kp_textN HT.out hd' hmw rfl (L.val 14 45 (by kernel_rfl) (by kernel_rfl))
          · rw [if_neg (by decide)]
            intro b hs _
            exact kp_string rfl Tryd.underlying31 Tryd.underlying5 Tryd.underlying9 (TextN.text (L.val 15 46 (by kernel_rfl) (by kernel_rfl)))
          · rw [if_neg (by decide)]
            intro b hs _
            exact kp_move rfl (L.old 7 (by kernel_rfl))
          · rw [if_neg (by decide)]
            intro b hs _
            exact kp_u8 (by omega) rfl (L.val 17 48 (by kernel_rfl) (by kernel_rfl))
          · rw [if_neg (by decide)]
            intro b hs _
            exact kp_one (by omega) (HST.out _ _ hs) rfl (L.val 18 49 (by kernel_rfl) (by kernel_rfl))
          · rw [if_neg (by decide)]
            intro b hs _
            exact kp_string rfl Tryd.underlying31 Tryd.underlying5 Tryd.underlying9 (TextM.text (L.val 19 50 (by kernel_rfl) (by kernel_rfl)))
          · rw [if_neg (by decide)]
            intro b hs _
            exact kp_neS rfl (L.val 16 47 (by kernel_rfl) (by kernel_rfl)) (L.val 20 51 (by kernel_rfl) (by kernel_rfl))
          · rw [if_neg (by decide)]
            intro b hs _
            exact kp_pick rfl (L.val 13 44 (by kernel_rfl) (by kernel_rfl)) (L.val 21 52 (by kernel_rfl) (by kernel_rfl))
        · intro vs w8 hs8 hlen hv
          match vs, hlen with
          | [v0, v1, v2, v3, v4, v5, v6, v7, v8, v9, v10, v11, v12, v13, v14, v15, v16, v17, v18, v19, v20, v21, v22], _ =>
            obtain ⟨F8, Fs8, n8, hd8, hn8, -⟩ := hs8
            have e22 : v22 = .bool false := hv 22 53 (by kernel_rfl)
            clear hv
            subst e22
            have HD8 := Lib.hid hd8
            have HO8 := Lib.hid (oth_save (S := S) p (S.enc (k + 2) [UInt8.ofNat k]) [UInt8.ofNat k] HWF.out.1 HWF.out.2.1 HWF.out.2.2 (show k + 1 ≤ _ by omega) HD.out.sec)
            clear hd8
            simp only [putAll, List.map, Act.put, List.setIfInBounds_toArray, List.set_cons_succ, List.set_cons_zero, Exit.then]
            go_wp2
            go_roundw
            case rel => exact ⟨k + 1, F8, Fs8, _, n8, _, [UInt8.ofNat k], by omega, by go_num, by omega, HO8.out, HD8.out⟩
            case measure => simp [intOf]; omega
      · obtain rfl : k = N := by omega
        have hl' : ¬ (k : Int) < (k : Int) := by omega
        go_wp2_with fail
        refine (dv_crash HD.out.dv none 0 (fun _ => True) [] 0 rfl (Row.nil _ _ _) (by decide)).mono ?_
        rintro e w5 ⟨p5, F5, rfl, hd5, -⟩
        rw [still_crash] at hd5
        have HV := Lib.hid hd5
        clear hd5
        go_wp2_with fail
        refine (duo_open S HT.out HV.out 0 wh (k + 1) tx 0 rfl HD.out.room HWF.out.1 HWF.out.2.2 HWF.out.2.1 HD.out.sec HO.out (by omega)).mono ?_
        rintro e w6 ⟨q6, Fs6, rfl, hd6, -, -⟩
        have HD6 := Lib.hid hd6
        clear hd6 HV HD
        go_wp2_with fail
        refine (S.turn w6 q6 _ _ HD6.out.su).mono ?_
        rintro e w' ⟨rfl, rfl⟩
        have HE := Lib.hid HD6.out.dv.kp
        go_wp2_with fail
        go_ret
        exact ⟨rfl, HE.out.below⟩
end Go.Proofs.YtajapklpdfikoaaDoor.superMany
