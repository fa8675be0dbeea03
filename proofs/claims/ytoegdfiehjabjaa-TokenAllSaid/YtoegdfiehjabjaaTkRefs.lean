/-
  THE REFERENCE's RIGHTS (layer 18): Use, Len, Kill.
-/
import Derived.Test.YtoegdfiehjabjaaTkRef
namespace Go.Proofs.Ytoegdfiehjabjaa
open Go Go.RowKit Go.Joins

theorem set_same {L : List Tk} {j : Nat} (hj : j < L.length) (h : L[j].used = true) : L.set j { L[j] with used := true } = L := by
  have e : ({ L[j] with used := true } : Tk) = L[j] := by
    rcases hx : L[j] with ⟨a, b, u⟩
    rw [hx] at h
    subst h; rfl
  rw [e]
  exact List.set_getElem_self hj
set_option maxRecDepth 100000 in
set_option maxHeartbeats 1000000 in
theorem ruse (W w : World) (r : Nat) (L : List Tk) (A : Option Addr) (c : Nat) (h : RTk W w r L A c) (hl : L.length ≤ 1000) (id : Int) (i1 : -9223372036854775808 ≤ id) (i2 : id < 9223372036854775808) :
    Calls Try.prog 14 #[.pointer (some ⟨r, 0, none⟩), .int .i64 id] w fun e w' => e = .returned (.tuple #[.string (tkUse L id).1, .bool (tkUse L id).2]) ∧ RTk W w' r (tkUsed L id) A c ∧ Keeps (fun b => ¬ RG r A b) w w' := by
  have c0 := h.blk.c0
  have HH := Lib.hid h
  obtain ⟨n, hn⟩ : ∃ n, L.length = n := ⟨_, rfl⟩
  have HN := Lib.hid hn
  rw [hn] at c0 hl
  have HID := Lib.hid (Keeps.refl (fun b => ¬ RG r A b) w)
  have hcs : decide (id < 1) = true ∨ decide (id < 1) = false ∧ decide ((n : Int) < id) = true ∨ ∃ j : Nat, j < n ∧ id = (j : Int) + 1 := by
    by_cases h1 : id < 1
    · left; simpa using h1
    · right
      by_cases h2 : (n : Int) < id
      · left; exact ⟨by simpa using h1, by simpa using h2⟩
      · right; exact ⟨(id - 1).toNat, by omega, by omega⟩
  rcases hcs with t1 | ⟨t1, t2⟩ | ⟨j, hj, rfl⟩
  · have hlt : id < 1 := of_decide_eq_true t1
    have ha : tkAt L id = none := by unfold tkAt; rw [if_neg (by omega)]
    have HU := Lib.hid (show tkUse L id = (⟨#[]⟩, false) ∧ tkUsed L id = L from by unfold tkUse tkUsed; rw [ha]; exact ⟨rfl, rfl⟩)
    clear h hn ha
    go_enter Try.func14, Try.ntmps14
    go_wp2_with fail
    go_ret2
    exact ⟨by rw [HU.out.1]; rfl, by rw [HU.out.2]; exact HH.out, HID.out⟩
  · have hlt : ¬ id < 1 := of_decide_eq_false t1
    have hgt : (n : Int) < id := of_decide_eq_true t2
    have ha : tkAt L id = none := by
      unfold tkAt
      rw [if_pos (by omega), List.getElem?_eq_none (by omega)]
    have HU := Lib.hid (show tkUse L id = (⟨#[]⟩, false) ∧ tkUsed L id = L from by unfold tkUse tkUsed; rw [ha]; exact ⟨rfl, rfl⟩)
    clear h hn ha
    go_enter Try.func14, Try.ntmps14
    go_wp2_with fail
    go_ret2
    exact ⟨by rw [HU.out.1]; rfl, by rw [HU.out.2]; exact HH.out, HID.out⟩
  · have hjl : j < L.length := by rw [hn]; exact hj
    obtain ⟨g, rfl, d0, d1, d2, df, hgr⟩ := h.atP hjl
    have ha : tkAt L ((j : Int) + 1) = some L[j] := by
      unfold tkAt
      rw [if_pos (by omega), show ((j : Int) + 1 - 1).toNat = j by omega]
      simp [hjl]
    have t1 : decide ((j : Int) + 1 < 1) = false := by simp; omega
    have t2 : decide ((n : Int) < (j : Int) + 1) = false := by simp; omega
    have hj' : (j : Int) < (n : Int) := by omega
    have e1 : IntKind.i64.wrap ((j : Int) + 1 - 1) = (j : Int) := by rw [IntKind.wrap_i64]; omega
    have f2 := df (j * 3 + 2)
    cases hu : L[j].used with
    | true =>
      have HU := Lib.hid (show tkUse L ((j : Int) + 1) = (⟨#[]⟩, false) ∧ tkUsed L ((j : Int) + 1) = L from by
        unfold tkUse tkUsed
        rw [ha]
        exact ⟨by simp [hu], by rw [show ((j : Int) + 1 - 1).toNat = j by omega]; exact set_same hjl hu⟩)
      rw [hu] at d2
      generalize L[j].key = x0 at d0
      generalize L[j].good = x1 at d1
      clear h hn ha hu
      go_enter Try.func14, Try.ntmps14
      go_wp2_with fail
      go_ret2
      exact ⟨by rw [HU.out.1]; rfl, by rw [HU.out.2]; exact HH.out, HID.out⟩
    | false =>
      have HU := Lib.hid (show tkUse L ((j : Int) + 1) = (L[j].key, L[j].good) ∧ tkUsed L ((j : Int) + 1) = L.set j { L[j] with used := true } from by
        unfold tkUse tkUsed
        rw [ha]
        exact ⟨by simp [hu], by rw [show ((j : Int) + 1 - 1).toNat = j by omega]⟩)
      rw [hu] at d2
      have HM := Lib.hid (h.mark hjl 2 (by omega) (.bool true) { L[j] with used := true } (by simp [tokC]))
      have o0 : (w.setCell ⟨g, j * 3 + 2, none⟩ (.bool true)).cell? ⟨g, j * 3, none⟩ = some (.string L[j].key) := by
        rw [World.cell?_setCell_other _ _ _ _ (by simp)]; exact d0
      have o1 : (w.setCell ⟨g, j * 3 + 2, none⟩ (.bool true)).cell? ⟨g, j * 3 + 1, none⟩ = some (.bool L[j].good) := by
        rw [World.cell?_setCell_other _ _ _ _ (by simp)]; exact d1
      generalize L.set j { L[j] with used := true } = L2 at HU HM
      generalize L[j].key = x0 at d0 HU o0
      generalize L[j].good = x1 at d1 HU o1
      clear h hn ha hu
      go_enter Try.func14, Try.ntmps14
      go_wp2_with fail
      go_region
      all_goals (
        go_wp2_with fail
        go_ret2
        exact ⟨by rw [HU.out.1]; rfl, by rw [HU.out.2]; exact HM.out.1.keep ((Keeps.refl _ _).drew) (HM.out.1.kp.trans (Keeps.refl _ _).drew), HM.out.2.trans (Keeps.refl _ _).drew⟩)

theorem tkLen_step (L : List Tk) (j : Nat) (hj : j < L.length) : tkLen (L.take (j + 1)) = tkLen (L.take j) + (if L[j].used then 0 else 1) := by
  unfold tkLen
  rw [List.take_succ_eq_append_getElem hj, List.countP_append]
  cases hc : L[j].used <;> simp [hc]
set_option maxRecDepth 100000 in
set_option maxHeartbeats 1000000 in
theorem rlen (W w : World) (r : Nat) (L : List Tk) (A : Option Addr) (c : Nat) (h : RTk W w r L A c) (hl : L.length ≤ 1000) :
    Calls Try.prog 19 #[.pointer (some ⟨r, 0, none⟩)] w fun e w' => e = .returned (.int .i64 (tkLen L : Int)) ∧ w = w' := by
  have c0 := h.blk.c0
  have HH := Lib.hid h
  obtain ⟨n, hn⟩ : ∃ n, L.length = n := ⟨_, rfl⟩
  have HN := Lib.hid hn
  rw [hn] at c0 hl
  clear h hn
  go_enter Try.func19, Try.ntmps19
  go_wp2_with fail
  go_loopw [3, 4] (fun v3 v4 wr => ∃ j : Nat, j ≤ n ∧ v4 = .int .i64 (j : Int) ∧ v3 = .int .i64 (tkLen (L.take j) : Int) ∧ wr = w) (fun _ v _ => n - (intOf v).toNat)
  case atStart => exact ⟨0, Nat.zero_le _, rfl, rfl, rfl⟩
  case round =>
    obtain ⟨j, hj, rfl, rfl, rfl⟩ := hrel
    have hb : tkLen (L.take j) ≤ j := Nat.le_trans (tkLen_le _) (List.length_take_le _ _)
    by_cases hl2 : j < n
    · have hl' : (j : Int) < (n : Int) := by omega
      have hjl : j < L.length := by rw [HN.out]; exact hl2
      obtain ⟨g, rfl, d0, d1, d2, -, -⟩ := HH.out.atP hjl
      have HS := Lib.hid (tkLen_step L j hjl)
      clear d0 d1
      obtain ⟨q, hq⟩ : ∃ q, tkLen (L.take j) = q := ⟨_, rfl⟩
      rw [hq] at HS hb ⊢
      clear hq
      cases hu : L[j].used with
      | true =>
        rw [hu] at d2
        have HS2 := Lib.hid (show tkLen (L.take (j + 1)) = q from by rw [HS.out, hu]; rfl)
        clear hu HS
        go_wp2_with fail
        go_roundw
        case rel => exact ⟨j + 1, by omega, by go_num, by rw [HS2.out], by first | rfl | trivial⟩
        case measure => simp [intOf]; omega
      | false =>
        rw [hu] at d2
        have HS2 := Lib.hid (show tkLen (L.take (j + 1)) = q + 1 from by rw [HS.out, hu]; rfl)
        clear hu HS
        go_wp2_with fail
        go_roundw
        case rel => exact ⟨j + 1, by omega, by go_num, by rw [HS2.out]; go_num, by first | rfl | trivial⟩
        case measure => simp [intOf]; omega
    · obtain rfl : j = n := by omega
      have HE := Lib.hid (show tkLen (L.take j) = tkLen L from by rw [← HN.out, List.take_length])
      generalize tkLen (L.take j) = q at HE hb ⊢
      go_wp2_with fail
      go_ret
      exact ⟨by rw [HE.out]; rfl, rfl⟩

/-! ### Kill -/
/-- The first i rights killed. -/
def killTo (p : ByteArray → Bool) (L : List Tk) (i : Nat) : List Tk := (L.take i).map (tkDead p) ++ L.drop i
theorem killTo_len (p : ByteArray → Bool) (L : List Tk) (i : Nat) (h : i ≤ L.length) : (killTo p L i).length = L.length := by
  unfold killTo
  rw [List.length_append, List.length_map, List.length_take, List.length_drop]
  omega
theorem killTo_at (p : ByteArray → Bool) (L : List Tk) (i : Nat) (h : i < L.length) (h2 : i < (killTo p L i).length) : (killTo p L i)[i] = L[i] := by
  have e : (killTo p L i)[i]? = L[i]? := by
    unfold killTo
    rw [List.getElem?_append_right (by rw [List.length_map, List.length_take]; omega), List.length_map, List.length_take, Nat.min_eq_left (Nat.le_of_lt h), Nat.sub_self, List.getElem?_drop, Nat.add_zero]
  rw [List.getElem?_eq_getElem h2, List.getElem?_eq_getElem h] at e
  exact Option.some.inj e
theorem killTo_next (p : ByteArray → Bool) (L : List Tk) (i : Nat) (h : i < L.length) : killTo p L (i + 1) = (killTo p L i).set i (tkDead p L[i]) := by
  unfold killTo
  rw [List.take_succ_eq_append_getElem h, List.map_append, List.set_append_right _ _ (by rw [List.length_map, List.length_take]; omega)]
  rw [List.length_map, List.length_take, Nat.min_eq_left (Nat.le_of_lt h), Nat.sub_self, List.drop_eq_getElem_cons h, List.set_cons_zero, List.append_assoc]
  rfl
theorem killTo_all (p : ByteArray → Bool) (L : List Tk) : killTo p L L.length = tkKill p L := by simp [killTo, tkKill]
theorem tkCount_step (p : ByteArray → Bool) (L : List Tk) (i : Nat) (h : i < L.length) : tkCount p (L.take (i + 1)) = tkCount p (L.take i) + (if hits p L[i] then 1 else 0) := by
  unfold tkCount
  rw [List.take_succ_eq_append_getElem h, List.countP_append]
  cases hc : hits p L[i] <;> simp [hc]
/-- Is it asked for by one of these keys, or by all? -/
def pAll (all : Bool) (ks : List ByteArray) : ByteArray → Bool := fun k => all || inKeys ks k
theorem pAll_false (ks : List ByteArray) : pAll false ks = inKeys ks := by funext k; rfl
theorem pAll_true (ks : List ByteArray) : pAll true ks = allKeys := by funext k; rfl
theorem pAll_step (all : Bool) (ks : List ByteArray) (j : Nat) (h : j < ks.length) (k : ByteArray) : pAll all (ks.take (j + 1)) k = (pAll all (ks.take j) k || sameT ks[j] k) := by
  unfold pAll inKeys
  rw [List.take_succ_eq_append_getElem h, List.any_append]
  cases all <;> simp
set_option maxRecDepth 100000 in
set_option maxHeartbeats 2000000 in
theorem rkill (W w : World) (r : Nat) (L : List Tk) (A : Option Addr) (c : Nat) (h : RTk W w r L A c) (hl : L.length ≤ 1000) (all : Bool) (K : Option Addr) (kc m : Nat) (F : Nat → Prop) (ks : List ByteArray) (hm : m = ks.length) (hK : Row w K F (ks.map Value.string)) (hF : ∀ b, F b → ¬ RG r A b) (hmc : m ≤ kc) (hkc : kc ≤ maxLen) :
    Calls Try.prog 16 #[.pointer (some ⟨r, 0, none⟩), .slice K m kc, .bool all] w fun e w' => e = .returned (.int .i64 (tkCount (pAll all ks) L : Int)) ∧ RTk W w' r (tkKill (pAll all ks) L) A c ∧ Keeps (fun b => ¬ RG r A b) w w' := by
  obtain ⟨n, hn⟩ : ∃ n, L.length = n := ⟨_, rfl⟩
  have HN := Lib.hid hn
  have HR := Lib.hid (show RTk W w r (killTo (pAll all ks) L 0) A c from by simpa [killTo] using h)
  have HROW := Lib.hid hK
  have HF := Lib.hid hF
  have HM := Lib.hid hm
  rw [hn] at hl
  unfold maxLen at hkc
  clear h hn hK hF hm
  have HID := Lib.hid (Keeps.refl (fun b => ¬ RG r A b) w)
  go_enter Try.func16, Try.ntmps16
  go_wp2_with fail
  go_loopw [7, 8] (fun v7 v8 wr => ∃ i : Nat, i ≤ n ∧ v8 = .int .i64 (i : Int) ∧ v7 = .int .i64 (tkCount (pAll all ks) (L.take i) : Int) ∧ Hid (RTk W wr r (killTo (pAll all ks) L i) A c) ∧ Hid (Keeps (fun b => ¬ RG r A b) w wr)) (fun _ v _ => n - (intOf v).toNat)
  case atStart => exact ⟨0, Nat.zero_le _, rfl, rfl, HR, HID⟩
  case round =>
    clear HR HID
    obtain ⟨i, hi, rfl, rfl, HR, HKP⟩ := hrel
    have hb : tkCount (pAll all ks) (L.take i) ≤ i := Nat.le_trans (tkCount_le _ _) (List.length_take_le _ _)
    have c0 := HR.out.blk.c0
    rw [killTo_len _ _ _ (by rw [HN.out]; exact hi), HN.out] at c0
    by_cases hl2 : i < n
    · have hl' : (i : Int) < (n : Int) := by omega
      have hil : i < L.length := by rw [HN.out]; exact hl2
      have hil2 : i < (killTo (pAll all ks) L i).length := by rw [killTo_len _ _ _ (Nat.le_of_lt hil)]; exact hil
      obtain ⟨g, rfl, d0, d1, d2, df, hgr⟩ := HR.out.atP hil2
      rw [killTo_at _ _ _ hil hil2] at d0 d1 d2
      have HCS := Lib.hid (tkCount_step (pAll all ks) L i hil)
      have HMK := Lib.hid (show ∀ w2, RTk W w2 r (killTo (pAll all ks) L i) (some ⟨g, 0, none⟩) c → hits (pAll all ks) L[i] = true → RTk W (w2.setCell ⟨g, i * 3 + 1, none⟩ (.bool false)) r (killTo (pAll all ks) L (i + 1)) (some ⟨g, 0, none⟩) c ∧ Keeps (fun b => ¬ RG r (some ⟨g, 0, none⟩) b) w2 (w2.setCell ⟨g, i * 3 + 1, none⟩ (.bool false)) from fun w2 h2 hh => by
        rw [killTo_next _ _ _ hil]
        refine h2.mark hil2 1 (by omega) (.bool false) (tkDead (pAll all ks) L[i]) ?_
        rw [killTo_at _ _ _ hil hil2]
        unfold tkDead
        rw [if_pos hh]
        simp [tokC])
      have HDF := Lib.hid (show ∀ w2, RTk W w2 r (killTo (pAll all ks) L i) (some ⟨g, 0, none⟩) c → w2.frozen? ⟨g, i * 3 + 1, none⟩ = false from fun w2 h2 => h2.own.frozenAt _)
      have HNO := Lib.hid (show hits (pAll all ks) L[i] = false → killTo (pAll all ks) L (i + 1) = killTo (pAll all ks) L i from fun hh => by
        have e : tkDead (pAll all ks) L[i] = (killTo (pAll all ks) L i)[i] := by
          rw [killTo_at _ _ _ hil hil2]
          unfold tkDead
          rw [if_neg (by rw [hh]; simp)]
        rw [killTo_next _ _ _ hil, e]
        exact List.set_getElem_self hil2)
      have HHT := Lib.hid (show hits (pAll all ks) L[i] = (pAll all ks L[i].key && (L[i].good && !L[i].used)) from rfl)
      have HPS := Lib.hid (fun j (hj : j < ks.length) => pAll_step all ks j hj L[i].key)
      have HP0 := Lib.hid (show pAll all (ks.take 0) L[i].key = all from by simp [pAll, inKeys])
      have HPM := Lib.hid (show pAll all (ks.take m) L[i].key = pAll all ks L[i].key from by rw [HM.out, List.take_length])
      have HROW2 := Lib.hid (HROW.out.keep (HKP.out.mono fun b _ hb => HF.out b hb))
      generalize L[i].key = x0 at d0 HHT HPS HP0 HPM
      generalize L[i].good = x1 at d1 HHT
      generalize L[i].used = x2 at d2 HHT
      generalize hits (pAll all ks) L[i] = ht at HCS HMK HNO HHT
      obtain ⟨q, hq⟩ : ∃ q, tkCount (pAll all ks) (L.take i) = q := ⟨_, rfl⟩
      rw [hq] at HCS hb ⊢
      clear hq hil hil2 df
      go_wp2_with fail
      have hW := Lib.hid (Keeps.refl (fun _ => True) wr)
      obtain ⟨w0, hw0⟩ : ∃ w0, wr = w0 := ⟨_, rfl⟩
      rw [hw0] at HR HKP HROW2 hW c0 d0 d1 d2 ⊢
      clear hw0
      go_loopw [9, 10] (fun v9 v10 w2 => ∃ j : Nat, j ≤ m ∧ v10 = .int .i64 (j : Int) ∧ v9 = .bool (pAll all (ks.take j) x0) ∧ Hid (Kp w0 w2)) (fun _ v _ => m - (intOf v).toNat)
      case atStart => exact ⟨0, Nat.zero_le _, rfl, by rw [HP0.out], hW⟩
      case round =>
        clear hW
        obtain ⟨j, hj, rfl, rfl, HW⟩ := hrel
        replace c0 := HW.out.cell c0 trivial
        replace d0 := HW.out.cell d0 trivial
        replace d1 := HW.out.cell d1 trivial
        replace d2 := HW.out.cell d2 trivial
        by_cases hl3 : j < m
        · have hl3' : (j : Int) < (m : Int) := by omega
          have hjl : j < ks.length := by rw [← HM.out]; exact hl3
          obtain ⟨kb, ko, rfl, -, hkc2⟩ := (HROW2.out.keep (HW.out.mono fun _ _ _ => trivial)).at_ (k := j) (by rw [List.length_map]; exact hjl)
          rw [List.getElem_map] at hkc2
          have HP := Lib.hid (HPS.out j hjl)
          have HST := Lib.hid (str_sameT ks[j] x0)
          generalize ks[j] = y at hkc2 HP HST
          cases hp : pAll all (ks.take j) x0 with
          | true =>
            have HP2 := Lib.hid (show pAll all (ks.take (j + 1)) x0 = true from by rw [HP.out, hp]; rfl)
            clear hp HP HST
            go_wp2_with fail
            go_region
            all_goals (
              have HW2 := Lib.hid (HW.out.trans (Keeps.refl _ _).drew)
              generalize wr.drew = w2 at HW2 ⊢
              go_wp2_with fail
              go_roundw
              case rel => exact ⟨j + 1, by omega, by go_num, by rw [HP2.out], HW2⟩
              case measure => simp [intOf]; omega)
          | false =>
            cases hs : sameT y x0 with
            | true =>
              have HP2 := Lib.hid (show pAll all (ks.take (j + 1)) x0 = true from by rw [HP.out, hp, hs]; rfl)
              have es : (y.toList == x0.toList) = true := by rw [HST.out, hs]
              clear hp hs HP HST
              go_wp2_with fail
              go_region
              all_goals (
                have HW2 := Lib.hid (HW.out.trans (Keeps.refl _ _).drew)
                generalize wr.drew = w2 at HW2 ⊢
                go_wp2_with fail
                go_roundw
                case rel => exact ⟨j + 1, by omega, by go_num, by rw [HP2.out], HW2⟩
                case measure => simp [intOf]; omega)
            | false =>
              have HP2 := Lib.hid (show pAll all (ks.take (j + 1)) x0 = false from by rw [HP.out, hp, hs]; rfl)
              have es : (y.toList == x0.toList) = false := by rw [HST.out, hs]
              clear hp hs HP HST
              go_wp2_with fail
              go_region
              all_goals (
                have HW2 := Lib.hid (HW.out.trans (Keeps.refl _ _).drew)
                generalize wr.drew = w2 at HW2 ⊢
                go_wp2_with fail
                go_roundw
                case rel => exact ⟨j + 1, by omega, by go_num, by rw [HP2.out], HW2⟩
                case measure => simp [intOf]; omega)
        · obtain rfl : j = m := by omega
          rw [HPM.out]
          have HR2 := Lib.hid (HR.out.keep (HW.out.mono fun _ _ _ => trivial) (HR.out.kp.trans HW.out))
          have HKP2 := Lib.hid (HKP.out.trans (HW.out.mono fun _ _ _ => trivial))
          have f1 := HDF.out wr HR2.out
          have HMK2 := Lib.hid (fun hh => HMK.out wr HR2.out hh)
          clear HMK HDF HR HKP HW HROW2 HPS HP0 HPM
          generalize pAll all ks x0 = p at HHT ⊢
          cases p with
          | false =>
            have HX := Lib.hid (show killTo (pAll all ks) L (i + 1) = killTo (pAll all ks) L i ∧ tkCount (pAll all ks) (L.take (i + 1)) = q from by
              have e : ht = false := by rw [HHT.out]; rfl
              exact ⟨HNO.out e, by rw [HCS.out, e]; rfl⟩)
            clear HMK2 HHT HNO HCS
            go_wp2_with fail
            go_roundw
            case rel => exact ⟨i + 1, by omega, by go_num, by rw [HX.out.2], by rw [HX.out.1]; exact HR2, HKP2⟩
            case measure => simp [intOf]; omega
          | true =>
            cases x1 with
            | false =>
              have HX := Lib.hid (show killTo (pAll all ks) L (i + 1) = killTo (pAll all ks) L i ∧ tkCount (pAll all ks) (L.take (i + 1)) = q from by
                have e : ht = false := by rw [HHT.out]; rfl
                exact ⟨HNO.out e, by rw [HCS.out, e]; rfl⟩)
              clear HMK2 HHT HNO HCS
              go_wp2_with fail
              go_roundw
              case rel => exact ⟨i + 1, by omega, by go_num, by rw [HX.out.2], by rw [HX.out.1]; exact HR2, HKP2⟩
              case measure => simp [intOf]; omega
            | true =>
              cases x2 with
              | true =>
                have HX := Lib.hid (show killTo (pAll all ks) L (i + 1) = killTo (pAll all ks) L i ∧ tkCount (pAll all ks) (L.take (i + 1)) = q from by
                  have e : ht = false := by rw [HHT.out]; rfl
                  exact ⟨HNO.out e, by rw [HCS.out, e]; rfl⟩)
                clear HMK2 HHT HNO HCS
                go_wp2_with fail
                go_roundw
                case rel => exact ⟨i + 1, by omega, by go_num, by rw [HX.out.2], by rw [HX.out.1]; exact HR2, HKP2⟩
                case measure => simp [intOf]; omega
              | false =>
                have he : ht = true := by rw [HHT.out]; rfl
                have HX := Lib.hid (show tkCount (pAll all ks) (L.take (i + 1)) = q + 1 from by rw [HCS.out, he]; rfl)
                have HMK3 := Lib.hid (HMK2.out he)
                clear HMK2 HHT HNO HCS he
                go_wp2_with fail
                go_roundw
                case rel => exact ⟨i + 1, by omega, by go_num, by rw [HX.out]; go_num, Lib.hid HMK3.out.1, Lib.hid (HKP2.out.trans HMK3.out.2)⟩
                case measure => simp [intOf]; omega
    · obtain rfl : i = n := by omega
      have HE := Lib.hid (show tkCount (pAll all ks) (L.take i) = tkCount (pAll all ks) L ∧ killTo (pAll all ks) L i = tkKill (pAll all ks) L from by rw [← HN.out, List.take_length, killTo_all]; exact ⟨rfl, rfl⟩)
      generalize tkCount (pAll all ks) (L.take i) = q at HE hb ⊢
      go_wp2_with fail
      go_ret
      exact ⟨by rw [← HE.out.1]; rfl, by rw [← HE.out.2]; exact HR.out, HKP.out⟩

end Go.Proofs.Ytoegdfiehjabjaa
