/-
  THE WALK OF SuperAll, whatever the program's slots are made of.
-/
import Derived.Test.YtajapklpdfikoaaDoorSuperBegun
import Derived.Test.YtajapklpdfikoaaDoorShort
import Derived.Outline
namespace Go.Proofs.YtajapklpdfikoaaDoor.superAll
open Go Go.RowKit Go.Joins

set_option maxRecDepth 100000 in
set_option maxHeartbeats 4000000 in
theorem walk (S : SupOK) (w : World) (hT : S.T w) (B : Option Addr) (cap : Nat) (l : List Part) (h1 : l.length ≤ cap) (h2 : cap ≤ maxLen) (hB : Row w B (fun b => b < w.heap.size) (l.map Part.val)) (hp : ∀ p ∈ l, p.Fits w (fun b => b < w.heap.size))
    (K : Option Addr) (kc : Nat) (kl : List Bool) (a1 : kl.length ≤ kc) (a2 : kc ≤ maxLen) (hK : Row w K (fun b => b < w.heap.size) (kl.map Value.bool)) :
    Calls Tryd.prog 3 #[.slice B l.length cap, .slice K kl.length kc] w fun e w' => e = .returned (.bool true) ∧ Below w.heap.size w w' := by
  have HT := Lib.hid hT
  have HB := Lib.hid hB
  have HP := Lib.hid hp
  have HK := Lib.hid hK
  unfold maxLen at h2 a2
  clear hT hB hp hK
  go_enter Tryd.func3, Tryd.ntmps3
  go_wp2_with fail
  refine (begun5 S w HT.out).mono ?_
  rintro e w1 ⟨rfl, hk1⟩
  have HK1 := Lib.hid hk1
  clear hk1
  go_wp2_with fail
  refine (dv_new HK1.out 3 (by decide) (by decide) 3 rfl).mono ?_
  rintro e w2 ⟨p, F, rfl, hd, -, -⟩
  have HD := Lib.hid hd
  clear hd HK1
  go_wp2_with fail
  refine (duo_make S HT.out HD.out 0 0 rfl none 0 [] 0 rfl (by decide) (Row.nil _ _ _) (by decide) (by decide) (fun _ => rfl) (by decide) (by decide)).mono ?_
  rintro e w3 ⟨q, F2, Fs, n2, rfl, hd, hn2, -, -⟩
  have hn2' : n2 ≤ 100 := hn2
  have HD2 := Lib.hid hd
  have HO := Lib.hid (oth_make (S := S) (rows := (SDev.still (List.replicate 3 blank) 0).now) p 0 (S.enc 1 []) [] (by decide))
  clear hd hn2 HD
  go_wp2_with fail
  go_loopw [6, 7, 9, 10, 11] (fun v6 v7 v9 v10 v11 wr => ∃ (k p q : Nat) (F Fs : Foot) (rows : List (List UInt8)) (n : Nat) (st : SSt), k ≤ l.length ∧ k ≤ 20 ∧ v6 = .pointer (some ⟨p, 0, none⟩) ∧ v7 = .pointer (some ⟨q, 0, none⟩) ∧ v9 = .string (txt st.text) ∧ v10 = .int .i64 (st.turn : Int) ∧ v11 = .int .i64 k ∧
      st.turn ≤ k + 1 ∧ n ≤ 100 * (k + 1) ∧ st.place = 0 ∧ Oth S rows st ∧ Duo S w wr p q F Fs (SDev.still rows n) st) (fun _ _ _ _ i _ => 20 - (intOf i).toNat)
  case atStart => exact ⟨0, p, q, F2, Fs, _, n2, _, Nat.zero_le _, Nat.zero_le _, rfl, rfl, rfl, rfl, rfl, Nat.le_refl _, by omega, rfl, HO.out, HD2.out⟩
  case round =>
    clear HD2 HO hn2'
    obtain ⟨k, p, q, F, Fs, rows, n, ⟨dv, pl, wh, tn, tx⟩, hkl, hk20, rfl, rfl, rfl, rfl, rfl, htk, hnk, hpl, hoth, hd⟩ := hrel
    obtain rfl : dv = p := hd.on
    obtain rfl : pl = 0 := hpl
    simp only at htk
    have HD := Lib.hid hd
    have HO := Lib.hid hoth
    clear hd hoth
    have hex : (k < l.length ∧ k < 20) ∨ (k < l.length ∧ ¬ (k : Int) < 20) ∨ ¬ (k : Int) < (l.length : Int) := by omega
    have hop : (decide (k < kl.length) = false) ∨ (∃ kb ko, K = some ⟨kb, ko, none⟩ ∧ decide (k < kl.length) = true ∧ w.cell? ⟨kb, ko + k, none⟩ = some (.bool false)) ∨ (∃ kb ko, K = some ⟨kb, ko, none⟩ ∧ decide (k < kl.length) = true ∧ w.cell? ⟨kb, ko + k, none⟩ = some (.bool true)) := by
      by_cases hk : k < kl.length
      · right
        obtain ⟨kb, ko, e, -, hc⟩ := HK.out.at_ (k := k) (by simpa using hk)
        rw [List.getElem_map] at hc
        cases hv : kl[k]
        · left; exact ⟨kb, ko, e, by simpa using hk, by rw [hv] at hc; exact hc⟩
        · right; exact ⟨kb, ko, e, by simpa using hk, by rw [hv] at hc; exact hc⟩
      · left; simpa using hk
    rcases hex with ⟨hl, h20⟩ | ⟨hl, h20⟩ | hl
    · have h20' : (k : Int) < 20 := by omega
      obtain ⟨b, o, hBe, -, x0⟩ := HB.out.at_ (k := k) (by simpa using hl)
      cases hBe
      simp only [List.getElem_map] at x0
      replace x0 := HD.out.dv.kp.cell x0 trivial
      have hfit := HP.out l[k] (List.getElem_mem hl)
      generalize l[k] = pt at x0 hfit
      obtain ⟨PA, Pc, Pl⟩ := pt
      simp only [Part.val] at x0
      have f1 := hfit.len
      have f2 := hfit.cap
      have f3 := Lib.hid hfit.none
      have f4 := Lib.hid (bcells_take hfit.row 50)
      have ftl : (Pl.take 50).length = min Pl.length 50 := by rw [List.length_take]; omega
      simp only at f1 f2
      clear hfit
      go_wp2_with fail
      refine (short_at PA Pl.length Pc 50 50 (Pl.take 50).length rfl ftl _ f1 f2 f3.out (by decide)).mono ?_
      rintro e w' ⟨rfl, rfl⟩
      have f5 : (Pl.take 50).length ≤ Pc := by omega
      unfold maxLen at f2
      generalize Pl.take 50 = b at f4 f5 ⊢
      clear ftl f1 x0
      by_cases hb : b.length ≤ 40
      · rcases hop with d1 | ⟨kb, ko, rfl, d1, hc⟩ | ⟨kb, ko, rfl, d1, hc⟩
        · have hb' : decide (40 < b.length) = false := by simp; omega
          have hb2 : decide ((40 : Int) < (b.length : Int)) = false := by simp; omega
          go_wp2_with fail
          refine (duo_save HT.out HD.out PA Pc b _ rfl (row_new f4.out HD.out.dv.kp HD.out.dv.gd HD.out.gs) f5 (by unfold maxLen; omega) f3.out hb (show n ≤ _ by omega) (show tn ≤ _ by omega)).mono ?_
          rintro e w4 ⟨rfl, F4, Fs4, n4, hd4, hn4, -, -, -, -, -⟩
          have hwf := S.wf HD.out.su
          have HO4 := Lib.hid (oth_save (S := S) dv (S.enc (tn + 1) b) b hwf.1 hwf.2.1 hwf.2.2 (show tn ≤ _ by omega) HD.out.sec)
          have hcv : (convert 31 9 (.slice PA b.length Pc)).run Tryd.prog w4 = .ok (.string (txt b)) w4 :=
            (f4.out.keep (hd4.dv.kp.mono fun _ _ _ => trivial)).to_string Tryd.underlying31 Tryd.underlying5 Tryd.underlying9 _ _ rfl
          have hn4' : n4 ≤ n + 100 := hn4
          have HD4 := Lib.hid hd4
          clear hd4 hn4 HD HO hwf
          go_wp2_with fail
          refine (duo_text HT.out HD4.out).mono ?_
          rintro e w5 ⟨TA, tc, rfl, hr5, hk5⟩
          have hcv5 : (convert 31 9 (.slice TA (b).length tc)).run Tryd.prog w5 = .ok (.string (txt b)) w5 := hr5.to_string Tryd.underlying31 Tryd.underlying5 Tryd.underlying9 _ _ rfl
          have HD5 := Lib.hid (HD4.out.keep hk5)
          clear hr5 hk5 HD4
          go_wp2_with fail
          refine (S.turn w5 q _ _ HD5.out.su).mono ?_
          rintro e w' ⟨rfl, rfl⟩
          go_wp2_with fail
          go_roundw
          case rel => exact ⟨k + 1, dv, q, _, _, _, n4, ⟨dv, 0, 1 - wh, tn + 1, b⟩, by omega, by omega, rfl, rfl, rfl, by go_num, by go_num, (show tn + 1 ≤ k + 1 + 1 by omega), by omega, rfl, HO4.out, HD5.out⟩
          case measure => simp [intOf]; omega
        · have hb' : decide (40 < b.length) = false := by simp; omega
          have hb2 : decide ((40 : Int) < (b.length : Int)) = false := by simp; omega
          go_wp2_with fail
          refine (duo_save HT.out HD.out PA Pc b _ rfl (row_new f4.out HD.out.dv.kp HD.out.dv.gd HD.out.gs) f5 (by unfold maxLen; omega) f3.out hb (show n ≤ _ by omega) (show tn ≤ _ by omega)).mono ?_
          rintro e w4 ⟨rfl, F4, Fs4, n4, hd4, hn4, -, -, -, -, -⟩
          have hwf := S.wf HD.out.su
          have HO4 := Lib.hid (oth_save (S := S) dv (S.enc (tn + 1) b) b hwf.1 hwf.2.1 hwf.2.2 (show tn ≤ _ by omega) HD.out.sec)
          have hcv : (convert 31 9 (.slice PA b.length Pc)).run Tryd.prog w4 = .ok (.string (txt b)) w4 :=
            (f4.out.keep (hd4.dv.kp.mono fun _ _ _ => trivial)).to_string Tryd.underlying31 Tryd.underlying5 Tryd.underlying9 _ _ rfl
          have hn4' : n4 ≤ n + 100 := hn4
          have HD4 := Lib.hid hd4
          have hc4 := HD4.out.dv.kp.cell hc trivial
          have hk2 : k < kl.length := of_decide_eq_true d1
          clear hd4 hn4 HD HO hwf
          go_wp2_with fail
          refine (duo_text HT.out HD4.out).mono ?_
          rintro e w5 ⟨TA, tc, rfl, hr5, hk5⟩
          have hcv5 : (convert 31 9 (.slice TA (b).length tc)).run Tryd.prog w5 = .ok (.string (txt b)) w5 := hr5.to_string Tryd.underlying31 Tryd.underlying5 Tryd.underlying9 _ _ rfl
          have HD5 := Lib.hid (HD4.out.keep hk5)
          clear hr5 hk5 HD4
          go_wp2_with fail
          refine (S.turn w5 q _ _ HD5.out.su).mono ?_
          rintro e w' ⟨rfl, rfl⟩
          go_wp2_with fail
          go_roundw
          case rel => exact ⟨k + 1, dv, q, _, _, _, n4, ⟨dv, 0, 1 - wh, tn + 1, b⟩, by omega, by omega, rfl, rfl, rfl, by go_num, by go_num, (show tn + 1 ≤ k + 1 + 1 by omega), by omega, rfl, HO4.out, HD5.out⟩
          case measure => simp [intOf]; omega
        · have hb' : decide (40 < b.length) = false := by simp; omega
          have hb2 : decide ((40 : Int) < (b.length : Int)) = false := by simp; omega
          go_wp2_with fail
          refine (duo_save HT.out HD.out PA Pc b _ rfl (row_new f4.out HD.out.dv.kp HD.out.dv.gd HD.out.gs) f5 (by unfold maxLen; omega) f3.out hb (show n ≤ _ by omega) (show tn ≤ _ by omega)).mono ?_
          rintro e w4 ⟨rfl, F4, Fs4, n4, hd4, hn4, -, -, -, -, -⟩
          have hwf := S.wf HD.out.su
          have HO4 := Lib.hid (oth_save (S := S) dv (S.enc (tn + 1) b) b hwf.1 hwf.2.1 hwf.2.2 (show tn ≤ _ by omega) HD.out.sec)
          have hcv : (convert 31 9 (.slice PA b.length Pc)).run Tryd.prog w4 = .ok (.string (txt b)) w4 :=
            (f4.out.keep (hd4.dv.kp.mono fun _ _ _ => trivial)).to_string Tryd.underlying31 Tryd.underlying5 Tryd.underlying9 _ _ rfl
          have hn4' : n4 ≤ n + 100 := hn4
          have HD4 := Lib.hid hd4
          have hc4 := HD4.out.dv.kp.cell hc trivial
          have hk2 : k < kl.length := of_decide_eq_true d1
          clear hd4 hn4 HD HO hwf
          go_wp2_with fail
          refine (dv_crash HD4.out.dv none 0 (fun _ => True) [] 0 rfl (Row.nil _ _ _) (by decide)).mono ?_
          rintro e w5 ⟨p5, F5, rfl, hd5, -⟩
          rw [still_crash] at hd5
          have HV := Lib.hid hd5
          clear hd5
          go_wp2_with fail
          refine (duo_open S HT.out HV.out 0 (1 - wh) (tn + 1) b 0 rfl HD4.out.room (S.wf HD4.out.su).1 (S.wf HD4.out.su).2.2 (S.wf HD4.out.su).2.1 HD4.out.sec HO4.out (by omega)).mono ?_
          rintro e w6 ⟨q6, Fs6, rfl, hd6, -, -⟩
          have HD6 := Lib.hid hd6
          clear hd6 HV HD4
          go_wp2_with fail
          refine (duo_text HT.out HD6.out).mono ?_
          rintro e w7 ⟨TA, tc, rfl, hr5, hk5⟩
          have hcv5 : (convert 31 9 (.slice TA (b).length tc)).run Tryd.prog w7 = .ok (.string (txt b)) w7 := hr5.to_string Tryd.underlying31 Tryd.underlying5 Tryd.underlying9 _ _ rfl
          have HD5 := Lib.hid (HD6.out.keep hk5)
          clear hr5 hk5 HD6
          go_wp2_with fail
          refine (S.turn w7 q6 _ _ HD5.out.su).mono ?_
          rintro e w' ⟨rfl, rfl⟩
          go_wp2_with fail
          go_roundw
          case rel => exact ⟨k + 1, p5, q6, _, _, _, 0, ⟨p5, 0, 1 - wh, tn + 1, b⟩, by omega, by omega, rfl, rfl, rfl, by go_num, by go_num, (show tn + 1 ≤ k + 1 + 1 by omega), by omega, rfl, HO4.out, HD5.out⟩
          case measure => simp [intOf]; omega
      · rcases hop with d1 | ⟨kb, ko, rfl, d1, hc⟩ | ⟨kb, ko, rfl, d1, hc⟩
        · have hb' : decide (40 < b.length) = true := by simp; omega
          have hb2 : decide ((40 : Int) < (b.length : Int)) = true := by simp; omega
          go_wp2_with fail
          refine (S.saveNo _ dv q F Fs _ _ HD.out.dv.d HD.out.su rfl (S.tk HT.out HD.out.dv.kp) PA Pc (fun b => b < w.heap.size) b (f4.out.keep (HD.out.dv.kp.mono fun _ _ _ => trivial)) f5 (by unfold maxLen; omega) f3.out (by omega)).mono ?_
          rintro e w4 ⟨rfl, hk4⟩
          have HD4 := Lib.hid (HD.out.keep hk4)
          have HO4 := HO
          clear hk4 HD HO
          go_wp2_with fail
          refine (duo_text HT.out HD4.out).mono ?_
          rintro e w5 ⟨TA, tc, rfl, hr5, hk5⟩
          have hcv5 : (convert 31 9 (.slice TA (tx).length tc)).run Tryd.prog w5 = .ok (.string (txt tx)) w5 := hr5.to_string Tryd.underlying31 Tryd.underlying5 Tryd.underlying9 _ _ rfl
          have HD5 := Lib.hid (HD4.out.keep hk5)
          clear hr5 hk5 HD4
          go_wp2_with fail
          refine (S.turn w5 q _ _ HD5.out.su).mono ?_
          rintro e w' ⟨rfl, rfl⟩
          go_wp2_with fail
          go_roundw
          case rel => exact ⟨k + 1, dv, q, _, _, _, n, ⟨dv, 0, wh, tn, tx⟩, by omega, by omega, rfl, rfl, rfl, by go_num, by go_num, (show tn ≤ k + 1 + 1 by omega), by omega, rfl, HO4.out, HD5.out⟩
          case measure => simp [intOf]; omega
        · have hb' : decide (40 < b.length) = true := by simp; omega
          have hb2 : decide ((40 : Int) < (b.length : Int)) = true := by simp; omega
          go_wp2_with fail
          refine (S.saveNo _ dv q F Fs _ _ HD.out.dv.d HD.out.su rfl (S.tk HT.out HD.out.dv.kp) PA Pc (fun b => b < w.heap.size) b (f4.out.keep (HD.out.dv.kp.mono fun _ _ _ => trivial)) f5 (by unfold maxLen; omega) f3.out (by omega)).mono ?_
          rintro e w4 ⟨rfl, hk4⟩
          have HD4 := Lib.hid (HD.out.keep hk4)
          have HO4 := HO
          have hc4 := HD4.out.dv.kp.cell hc trivial
          have hk2 : k < kl.length := of_decide_eq_true d1
          clear hk4 HD HO
          go_wp2_with fail
          refine (duo_text HT.out HD4.out).mono ?_
          rintro e w5 ⟨TA, tc, rfl, hr5, hk5⟩
          have hcv5 : (convert 31 9 (.slice TA (tx).length tc)).run Tryd.prog w5 = .ok (.string (txt tx)) w5 := hr5.to_string Tryd.underlying31 Tryd.underlying5 Tryd.underlying9 _ _ rfl
          have HD5 := Lib.hid (HD4.out.keep hk5)
          clear hr5 hk5 HD4
          go_wp2_with fail
          refine (S.turn w5 q _ _ HD5.out.su).mono ?_
          rintro e w' ⟨rfl, rfl⟩
          go_wp2_with fail
          go_roundw
          case rel => exact ⟨k + 1, dv, q, _, _, _, n, ⟨dv, 0, wh, tn, tx⟩, by omega, by omega, rfl, rfl, rfl, by go_num, by go_num, (show tn ≤ k + 1 + 1 by omega), by omega, rfl, HO4.out, HD5.out⟩
          case measure => simp [intOf]; omega
        · have hb' : decide (40 < b.length) = true := by simp; omega
          have hb2 : decide ((40 : Int) < (b.length : Int)) = true := by simp; omega
          go_wp2_with fail
          refine (S.saveNo _ dv q F Fs _ _ HD.out.dv.d HD.out.su rfl (S.tk HT.out HD.out.dv.kp) PA Pc (fun b => b < w.heap.size) b (f4.out.keep (HD.out.dv.kp.mono fun _ _ _ => trivial)) f5 (by unfold maxLen; omega) f3.out (by omega)).mono ?_
          rintro e w4 ⟨rfl, hk4⟩
          have HD4 := Lib.hid (HD.out.keep hk4)
          have HO4 := HO
          have hc4 := HD4.out.dv.kp.cell hc trivial
          have hk2 : k < kl.length := of_decide_eq_true d1
          clear hk4 HD HO
          go_wp2_with fail
          refine (dv_crash HD4.out.dv none 0 (fun _ => True) [] 0 rfl (Row.nil _ _ _) (by decide)).mono ?_
          rintro e w5 ⟨p5, F5, rfl, hd5, -⟩
          rw [still_crash] at hd5
          have HV := Lib.hid hd5
          clear hd5
          go_wp2_with fail
          refine (duo_open S HT.out HV.out 0 (wh) (tn) tx 0 rfl HD4.out.room (S.wf HD4.out.su).1 (S.wf HD4.out.su).2.2 (S.wf HD4.out.su).2.1 HD4.out.sec HO4.out (by omega)).mono ?_
          rintro e w6 ⟨q6, Fs6, rfl, hd6, -, -⟩
          have HD6 := Lib.hid hd6
          clear hd6 HV HD4
          go_wp2_with fail
          refine (duo_text HT.out HD6.out).mono ?_
          rintro e w7 ⟨TA, tc, rfl, hr5, hk5⟩
          have hcv5 : (convert 31 9 (.slice TA (tx).length tc)).run Tryd.prog w7 = .ok (.string (txt tx)) w7 := hr5.to_string Tryd.underlying31 Tryd.underlying5 Tryd.underlying9 _ _ rfl
          have HD5 := Lib.hid (HD6.out.keep hk5)
          clear hr5 hk5 HD6
          go_wp2_with fail
          refine (S.turn w7 q6 _ _ HD5.out.su).mono ?_
          rintro e w' ⟨rfl, rfl⟩
          go_wp2_with fail
          go_roundw
          case rel => exact ⟨k + 1, p5, q6, _, _, _, 0, ⟨p5, 0, wh, tn, tx⟩, by omega, by omega, rfl, rfl, rfl, by go_num, by go_num, (show tn ≤ k + 1 + 1 by omega), by omega, rfl, HO4.out, HD5.out⟩
          case measure => simp [intOf]; omega
    · have HE := Lib.hid HD.out.dv.kp
      clear HD HO hop
      go_wp2_with fail
      go_ret
      exact ⟨rfl, HE.out.below⟩
    · have HE := Lib.hid HD.out.dv.kp
      clear HD HO hop
      go_wp2_with fail
      go_ret
      exact ⟨rfl, HE.out.below⟩
end Go.Proofs.YtajapklpdfikoaaDoor.superAll
