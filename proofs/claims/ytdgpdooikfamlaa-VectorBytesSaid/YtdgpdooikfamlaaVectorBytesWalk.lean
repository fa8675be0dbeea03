/-
  VectorBytes, walked: vectors go to bytes and back; other bytes are nobody's.
-/
import Derived.Test.YtdgpdooikfamlaaVcTells
import Derived.Test.YtdgpdooikfamlaaRefNum
import Derived.Test.YtdgpdooikfamlaaShort
import Derived.Laws.BitsAllLaws
import Derived.OwnWalk
import Derived.Outline
import Derived.Deep.CutRange
import Derived.Deep.CutBlock
namespace Go.Proofs.Ytdgpdooikfamlaa.vectorBytes
open Go Go.RowKit Go.Joins Go.Proofs.Ytdgpdooikfamlaa

/-- Bytes with one of them turned. -/
def turned (e : List UInt8) (m : Nat) (x : UInt8) : List UInt8 := e.set m (e.getD m 0 ^^^ x)
theorem turned_len (e : List UInt8) (m : Nat) (x : UInt8) : (turned e m x).length = e.length := by simp [turned]
theorem turned_cells (e : List UInt8) (m : Nat) (x : UInt8) (h : m < e.length) : (bcells e).set m (.int .u8 ((e[m].toNat ^^^ x.toNat : Nat) : Int)) = bcells (turned e m x) := by
  unfold bcells turned
  rw [List.map_set, show e.getD m 0 = e[m] from by simp [List.getD, h]]
  congr 1
/-- What the law has put of the first numbers, ahead of k. -/
def encTo (f : Nat → Int) (k : Nat) : List UInt8 := (List.range k).flatMap fun i => if i = 0 then [] else putZ (f i)
theorem encTo_next (f : Nat → Int) (k : Nat) (hk : 1 ≤ k) : encTo f k ++ putZ (f k) = encTo f (k + 1) := by
  unfold encTo
  rw [List.range_succ, List.flatMap_append]
  simp [show k ≠ 0 by omega]
theorem encTo_end (f : Nat → Int) : encTo f 6 = encV f := by
  have e : List.range 6 = [0, 1, 2, 3, 4, 5] := rfl
  unfold encTo encV
  rw [e]
  simp [List.flatMap_cons]
theorem encTo_one (f : Nat → Int) : encTo f 1 = [] := rfl
theorem encTo_len {f : Nat → Int} (hf : VOk f) (k : Nat) : (encTo f k).length ≤ 10 * k := by
  induction k with
  | zero => exact Nat.le_refl _
  | succ k ih =>
    rcases Nat.eq_zero_or_pos k with h | h
    · subst h; rw [encTo_one]; exact Nat.zero_le _
    · rw [← encTo_next f k h, List.length_append]
      have : (putZ (f k)).length ≤ 10 := putZ_len _ (by have := hf.low k; omega) (hf.high k)
      omega
def goodTo (f : Nat → Int) (k : Nat) : Bool := (List.range k).all fun i => i == 0 || decide (f i ≤ 1099511627776)
theorem goodTo_next (f : Nat → Int) (k : Nat) (hk : 1 ≤ k) : goodTo f (k + 1) = (goodTo f k && decide (f k ≤ 1099511627776)) := by
  unfold goodTo
  rw [List.range_succ, List.all_append]
  have : (k == 0) = false := by simp; omega
  simp [this]
theorem good_end {f : Nat → Int} (hf : VOk f) : goodTo f 6 = smallB f := by
  rw [Bool.eq_iff_iff, smallB_iff]
  unfold goodTo
  rw [List.all_eq_true]
  constructor
  · intro h i hi
    have := h i (List.mem_range.2 hi)
    simp only [Bool.or_eq_true, beq_iff_eq, decide_eq_true_eq] at this
    rcases this with rfl | this
    · rw [hf.zero]; decide
    · exact this
  · intro h i hi
    have := h i (List.mem_range.1 hi)
    simp [this]
set_option maxRecDepth 100000 in
set_option maxHeartbeats 4000000 in
theorem walk (S : VectorOK) (w : World) (hT : S.T w) (A : Option Addr) (ca : Nat) (a : List Int) (hla : a.length ≤ ca) (hca : ca ≤ maxLen) (hra : Row w A (fun b => b < w.heap.size) (a.map (Value.int .i64))) (hwa : ∀ x ∈ a, x < 9223372036854775808)
    (pos : Int) (hp1 : -9223372036854775808 ≤ pos) (hp2 : pos < 9223372036854775808) (x : UInt8)
    (BA : Option Addr) (Bc : Nat) (l : List UInt8) (f3 : l.length ≤ Bc) (f4 : Bc ≤ maxLen) (hf5 : BA = none → Bc = 0) (hB : Row w BA (fun b => b < w.heap.size) (bcells l)) :
    Calls Try.prog 4 #[.slice A a.length ca, .int .i64 pos, .int .u8 (x.toNat : Int), .slice BA l.length Bc] w fun e w' => e = .returned (.bool true) ∧ Below w.heap.size w w' := by
  have HT := Lib.hid hT
  have HRA := Lib.hid (show ∀ w', Kp w w' → Row w' A (fun _ => True) (a.map (Value.int .i64)) from fun w' hk => (hra.mono fun _ _ _ => trivial).keep hk)
  have HRB := Lib.hid (show ∀ w', Kp w w' → Row w' BA (fun _ => True) (bcells l) from fun w' hk => (hB.mono fun _ _ _ => trivial).keep hk)
  have HF3 := Lib.hid f3
  have HF4 := Lib.hid f4
  have HF5 := Lib.hid hf5
  obtain ⟨f, hf⟩ : ∃ f, ofF a (min a.length 5) = f := ⟨_, rfl⟩
  have HOF := Lib.hid (show VOk f from by rw [← hf]; exact VOk.of hwa _)
  have HA := Lib.hid (show ∀ w', Kp w w' → Calls Try.prog 10 #[.slice A a.length ca] w' fun e w2 => e = .returned (vagg f) ∧ Kp w' w2 from fun w' hk => by
    rw [← hf]; exact S.of w' A ca a (S.tk HT.out hk) (HRA.out w' hk) hla hca)
  have HA2 := Lib.hid (show ∀ w', Kp w w' → Calls Try.prog 9 #[.slice A a.length ca] w' fun e w2 => e = .returned (vagg f) ∧ Kp w' w2 from fun w' hk => by
    rw [← hf]; exact vof_any w' A ca a hla hca ((HRA.out w' hk).lt.mono fun b _ hb => hb.2))
  have HFI := Lib.hid (show ∀ i, -9223372036854775808 ≤ f i ∧ f i < 9223372036854775808 from fun i => ⟨by have := HOF.out.low i; omega, HOF.out.high i⟩)
  unfold vagg vcells at HA HA2
  have HP1 := Lib.hid hp1
  have HP2 := Lib.hid hp2
  clear hT hra hwa hla hca hf hB hf5 f4 f3 hp1 hp2
  go_enter Try.func4, Try.ntmps4
  go_wp2_with fail
  refine (show Calls _ _ _ _ _ from begun11 S w HT.out).mono ?_
  rintro e w1 ⟨rfl, hk⟩
  have HK1 := Lib.hid hk
  clear hk
  go_wp2_with fail
  refine (show Calls _ _ _ _ _ from HA.out w1 HK1.out).mono ?_
  rintro e w2 ⟨rfl, hk⟩
  have HK2 := Lib.hid (HK1.out.trans hk)
  clear hk HK1 HA
  obtain ⟨pv, hpv⟩ : ∃ pv, w2.heap.size = pv := ⟨_, rfl⟩
  have HN := Lib.hid (show ∀ wa, wa = w2.alloc (.cells (vcells f) 26) → VBlk wa pv 26 f ∧ Kp w wa from by
    rintro wa rfl
    exact ⟨VBlk.new w2 _ f pv hpv.symm, HK2.out.alloc _⟩)
  unfold vcells at HN
  go_wp2_with fail
  obtain ⟨h1, h2⟩ := HN.out _ rfl
  try rw [hpv]
  generalize w2.alloc (.cells #[.int .i64 (f 0), .int .i64 (f 1), .int .i64 (f 2), .int .i64 (f 3), .int .i64 (f 4), .int .i64 (f 5)] 26) = wa at h1 h2 ⊢
  have HV := Lib.hid h1
  have HKA := Lib.hid h2
  clear h1 h2 hpv HN HK2
  refine (show Calls _ _ _ _ _ from HA2.out wa HKA.out).mono ?_
  rintro e w3 ⟨rfl, hk⟩
  have HV3 := Lib.hid (HV.out.keep hk trivial)
  have HK3 := Lib.hid (HKA.out.trans hk)
  clear hk HA2 HV HKA
  obtain ⟨pw, hpw⟩ : ∃ pw, w3.heap.size = pw := ⟨_, rfl⟩
  have HN := Lib.hid (show ∀ wb, wb = w3.alloc (.cells (vcells f) 24) → VBlk wb pw 24 f ∧ VBlk wb pv 26 f ∧ Kp w wb from by
    rintro wb rfl
    exact ⟨VBlk.new w3 _ f pw hpw.symm, HV3.out.keep (G := fun _ => True) ((Keeps.refl _ _).alloc _) trivial, HK3.out.alloc _⟩)
  unfold vcells at HN
  go_wp2_with fail
  obtain ⟨h1, h2, h3⟩ := HN.out _ rfl
  try rw [hpw]
  generalize w3.alloc (.cells #[.int .i64 (f 0), .int .i64 (f 1), .int .i64 (f 2), .int .i64 (f 3), .int .i64 (f 4), .int .i64 (f 5)] 24) = wb at h1 h2 h3 ⊢
  have HW := Lib.hid h1
  have HV := Lib.hid h2
  have HKB := Lib.hid h3
  clear h1 h2 h3 hpw HN HV3 HK3
  go_loopw [12, 13, 14] (fun v gd i wr => ∃ (k : Nat) (A2 : Option Addr) (c2 : Nat), 1 ≤ k ∧ k ≤ 6 ∧ i = .int .i64 (k : Int) ∧ gd = .bool (goodTo f k) ∧ v = .slice A2 (encTo f k).length c2 ∧ Hid (OwnB wr wb.heap.size (.slice A2 (encTo f k).length c2) (encTo f k)) ∧ Hid (Kp wb wr)) (fun _ _ i _ => 6 - (intOf i).toNat)
  case atStart => exact ⟨1, none, 0, by omega, by omega, rfl, rfl, rfl, Lib.hid (World.ownsRow_nil _ _ _ _), Lib.hid (Keeps.refl _ _)⟩
  case round =>
    obtain ⟨k, A2, c2, hk1, hk6, rfl, rfl, rfl, hown, hkp⟩ := hrel
    by_cases hk : k < 6
    · have t1 : decide ((k : Int) < 6) = true := by simp; omega
      have t2 : (k : Int) < 6 := by omega
      have cw := (HW.out.keep hkp.out trivial).at_ k hk
      have HPT := Lib.hid (rput_any (f k) (HFI.out k).1 (HFI.out k).2 wr)
      have hpl : (putZ (f k)).length ≤ 10 := putZ_len _ (HFI.out k).1 (HFI.out k).2
      have hel := encTo_len HOF.out k
      have HNX := Lib.hid (encTo_next f k hk1)
      have HGX := Lib.hid (goodTo_next f k hk1)
      generalize putZ (f k) = pz at HPT hpl HNX
      obtain ⟨ne, hne⟩ : ∃ ne, (encTo f k).length = ne := ⟨_, rfl⟩
      have hown' := hown.out
      unfold OwnB at hown'
      rw [hne] at hown' hel ⊢
      have HOWN := Lib.hid hown'
      have HNE := Lib.hid hne
      clear hown hown' hne
      go_wp2_with fail
      refine (show Calls _ _ _ _ _ from HPT.out).mono ?_
      rintro e w5 ⟨v5, rfl, ho5, hk5⟩
      obtain ⟨A5, c5, rfl, -, hr5⟩ := own_slice ho5
      obtain ⟨np, hnp⟩ : ∃ np, pz.length = np := ⟨_, rfl⟩
      have hsrc := hr5.src (P := Try.prog) (c := c5) Try.underlying33 (bcells_one pz)
      rw [bcells_len, hnp] at hsrc
      rw [hnp] at hpl ⊢
      have HSRC := Lib.hid hsrc
      have HNP := Lib.hid hnp
      have HK5 := Lib.hid (hkp.out.trans hk5)
      have HO5 := Lib.hid (hk5.own HOWN.out fun _ _ => trivial)
      have hs5 := HK5.out.size
      have cw5 := (HW.out.keep HK5.out trivial).at_ k hk
      clear ho5 hr5 hnp hsrc hk5 cw HPT
      go_wp2_with (at_builtin; refine byte_elem.list_append rfl (.tmp 30) (.tmp 34) _ rfl rfl HO5.out rfl HSRC.out ?c3 ?c4 ?c5 ?_)
      case c3 => unfold maxLen; omega
      case c4 => omega
      case c5 => exact hs5
      intro v' w6 hown6 hg6 hb6
      have hk6' : Kp wb w6 := HK5.out.grown hg6 fun j hj => (HO5.out.lt j hj).1
      have HK6 := Lib.hid hk6'
      have ho6 : OwnB w6 wb.heap.size v' (encTo f (k + 1)) := by
        rw [← HNX.out]
        exact OwnB.snoc hown6 (by rw [List.length_append, HNE.out, HNP.out]) rfl
      have cw6 := (HW.out.keep hk6' trivial).at_ k hk
      obtain ⟨A6, c6, rfl, -, -⟩ := own_slice ho6
      have HO6 := Lib.hid ho6
      have HLE := Lib.hid (show ne + np = (encTo f (k + 1)).length from by rw [← HNX.out, List.length_append, HNE.out, HNP.out])
      clear hown6 hg6 hb6 hk6' ho6 cw5 HSRC HO5
      cases hgd : goodTo f k with
      | false =>
        rw [hgd] at HGX
        clear hgd
        go_wp2_with fail
        go_roundw
        case rel => exact ⟨k + 1, A6, c6, by omega, by omega, by go_num, by rw [HGX.out]; rfl, rfl, HO6, HK6⟩
        case measure => simp [intOf]; omega
      | true =>
        rw [hgd] at HGX
        clear hgd
        go_wp2_with fail
        go_roundw
        case rel => exact ⟨k + 1, A6, c6, by omega, by omega, by go_num, by rw [HGX.out]; rfl, rfl, HO6, HK6⟩
        case measure => simp [intOf]; omega
    · have t1 : decide ((k : Int) < 6) = false := by simp; omega
      obtain rfl : k = 6 := by omega
      have HGS := Lib.hid (good_end HOF.out)
      have hown' := hown.out
      unfold OwnB at hown'
      rw [encTo_end] at hown' ⊢
      obtain ⟨n, hn⟩ : ∃ n, (encV f).length = n := ⟨_, rfl⟩
      have HNN := Lib.hid hn
      have hn1 : 0 < n := by rw [← hn]; exact encV_pos f
      have hn2 : n ≤ 50 := by rw [← hn]; exact encV_len HOF.out
      rw [hn] at hown' ⊢
      have HWANT := Lib.hid (show Row wr A2 (fun _ => True) (bcells (encV f)) from by
        obtain ⟨A3, c3, e, -, hr⟩ := own_slice hown'
        injection e with e1 e2 e3
        subst e1
        exact hr.mono fun _ _ _ => trivial)
      have HKR := Lib.hid (HKB.out.trans hkp.out)
      have HWR := Lib.hid (HW.out.keep hkp.out trivial)
      obtain ⟨a0, a1, a2, a3, a4, a5⟩ := HV.out.six hkp.out
      clear hn hown hown' hkp hk hk1 hk6 HV HW HKB
      have hsv : ∃ sv, smallB f = sv := ⟨_, rfl⟩
      obtain ⟨sv, hsv⟩ := hsv
      have HSV := Lib.hid hsv
      rw [HGS.out, hsv]
      clear hsv
      cases sv with
      | false =>
        have HEN := Lib.hid (show Calls Try.prog 17 #[vagg f] wr fun e w' => (∃ A c, e = .returned (.slice A 0 c)) ∧ Kp wr w' from S.encodeNo wr f (S.tk HT.out HKR.out) HOF.out HSV.out)
        unfold vagg vcells at HEN
        go_wp2_with fail
        refine (show Calls _ _ _ _ _ from HEN.out).mono ?_
        rintro e w5 ⟨⟨X, cx, rfl⟩, hk5⟩
        have HK5 := Lib.hid (HKR.out.trans hk5)
        clear hk5
        go_wp2_with fail
        go_ret
        exact ⟨rfl, HK5.out.below⟩
      | true =>
        have HEN := Lib.hid (show Calls Try.prog 17 #[vagg f] wr fun e w' => ∃ X cx, e = .returned (.slice X n cx) ∧ n ≤ cx ∧ cx ≤ maxLen ∧ Row w' X (fun _ => True) (bcells (encV f)) ∧ Kp wr w' from by
          refine (S.encode wr f (S.tk HT.out HKR.out) HOF.out HSV.out).mono ?_
          rintro e w2 ⟨X, cx, rfl, g1, g2, hr2, hk2⟩
          exact ⟨X, cx, by rw [HNN.out], by rw [← HNN.out]; exact g1, g2, hr2.mono fun _ _ _ => trivial, hk2⟩)
        unfold vagg vcells at HEN
        go_wp2_with fail
        refine (show Calls _ _ _ _ _ from HEN.out).mono ?_
        rintro e w5 ⟨X, cx, rfl, x1, x2, hx, hk5⟩
        have HX := Lib.hid hx
        have HK5 := Lib.hid (HKR.out.trans hk5)
        have HWAN5 := Lib.hid (HWANT.out.keep hk5)
        have HW5 := Lib.hid (HWR.out.keep hk5 trivial)
        have HX2 := Lib.hid x2
        unfold maxLen at x2
        have HDE := Lib.hid (show Calls Try.prog 18 #[.slice X n cx] w5 fun e w' => e = .returned (.tuple #[vagg f, .int .i64 0]) ∧ Kp w5 w' from by
          rw [← HNN.out]; exact S.decode w5 f X cx (S.tk HT.out HK5.out) HOF.out HSV.out hx (by rw [HNN.out]; exact x1) HX2.out)
        unfold vagg vcells at HDE
        clear hx hk5 HEN a0 a1 a2 a3 a4 a5 HWANT HWR HKR
        go_wp2_with fail
        refine (show Calls _ _ _ _ _ from HDE.out).mono ?_
        rintro e w6 ⟨rfl, hk6⟩
        have HK6 := Lib.hid hk6
        clear hk6 HDE
        obtain ⟨pu, hpu⟩ : ∃ pu, w6.heap.size = pu := ⟨_, rfl⟩
        have HN := Lib.hid (show ∀ w7, w7 = w6.alloc (.cells (vcells f) 26) → VBlk w7 pu 26 f ∧ Kp w5 w7 from by
          rintro w7 rfl
          exact ⟨VBlk.new w6 _ f pu hpu.symm, HK6.out.alloc _⟩)
        unfold vcells at HN
        go_upto_region 17 with fail
        obtain ⟨h1, h2⟩ := HN.out _ rfl
        try rw [hpu]
        generalize w6.alloc (.cells #[.int .i64 (f 0), .int .i64 (f 1), .int .i64 (f 2), .int .i64 (f 3), .int .i64 (f 4), .int .i64 (f 5)] 26) = w7 at h1 h2 ⊢
        have kx : (convert 33 9 (.slice X n cx)).run Try.prog w7 = .ok (.string (txt (encV f))) w7 := (HX.out.keep h2).to_string Try.underlying33 Try.underlying5 Try.underlying9 _ _ HNN.out.symm
        have ky : (convert 33 9 (.slice A2 n c2)).run Try.prog w7 = .ok (.string (txt (encV f))) w7 := (HWAN5.out.keep h2).to_string Try.underlying33 Try.underlying5 Try.underlying9 _ _ HNN.out.symm
        obtain ⟨a0, a1, a2, a3, a4, a5⟩ := h1.six (Keeps.refl _ _)
        obtain ⟨b0, b1, b2, b3, b4, b5⟩ := HW5.out.six h2
        have HK7 := Lib.hid (HK5.out.trans h2)
        have HX7 := Lib.hid (HX.out.keep h2)
        have HSM := Lib.hid (show Calls Try.prog 11 #[vagg f, vagg f] w7 fun e w2 => e = .returned (.bool true) ∧ Kp w7 w2 from by
          rw [← eqB_refl f]; exact same_any S w7 (S.tk HT.out HK7.out) f f HOF.out)
        unfold vagg vcells at HSM
        clear h1 h2 hpu HN HK6 HK5 HX HWAN5 HW5
        go_wp2_with fail
        refine (show Calls _ _ _ _ _ from HSM.out).mono ?_
        rintro e w8 ⟨rfl, hk8⟩
        have HK8 := Lib.hid (HK7.out.trans hk8)
        have HX8 := Lib.hid (HX7.out.keep hk8)
        have HS := Lib.hid (show Src Try.prog 1 33 (.slice X n cx) n (bcells (encV f)) w8 from by
          have := (HX8.out).src (P := Try.prog) (c := cx) Try.underlying33 (bcells_one (encV f))
          rwa [bcells_len, HNN.out] at this)
        have hs8 := HK8.out.size
        clear hk8 HSM kx ky a0 a1 a2 a3 a4 a5 b0 b1 b2 b3 b4 b5 HK7 HX7
        go_wp2_with (at_builtin; refine byte_elem.list_append rfl (.const (.slice none 0 0)) (.tmp 70) _ rfl rfl (World.ownsRow_nil _ w.heap.size _ _) rfl HS.out ?c3 ?c4 ?c5 ?_)
        case c3 => unfold maxLen; omega
        case c4 => omega
        case c5 => exact hs8
        intro v' w9 hown' hg hb
        have hk9 : Kp w w9 := ((Onto.refl _ _).grown hg (by simpa using hb)).keeps HK8.out (by simp [Value.ownBlock])
        have ho : w9.ownsRow w.heap.size 5 1 v' n (bcells (encV f)) := by simpa using hown'
        obtain ⟨g, cg, rfl, hge, hglt⟩ := World.ownsRow.form ho hn1
        have hcap := own_room ho
        have HC2 := Lib.hid hcap.2
        have hc1 := hcap.1
        have hc2 := hcap.2
        unfold maxLen at hc2
        have HGE := Lib.hid hge
        have HK9 := Lib.hid hk9
        have HOW := Lib.hid ho
        -- what is left: the bytes as they came, and those of the other slice
        have HTL := Lib.hid (show ∀ (w' : World) (d : List UInt8), Kp w w' → w'.ownsRow w.heap.size 5 1 (.slice (some ⟨g, 0, none⟩) n cg) n (bcells d) → d.length = n → Calls Try.prog 19 #[.slice (some ⟨g, 0, none⟩) n cg] w' fun e w2 => e = .returned (.bool true) ∧ Kp w' w2 from fun w' d hk ho hd =>
          vtells_any S w' (S.tk HT.out hk) (some ⟨g, 0, none⟩) cg d ((own_row ho).mono fun _ _ _ => trivial) (by omega) HC2.out (by omega) n hd.symm)
        have HSH := Lib.hid (show ∀ w', Kp w w' → Calls Try.prog 20 #[.slice BA l.length Bc, .int .i64 30] w' fun e w2 => e = .returned (.slice BA (min l.length 30) Bc) ∧ w' = w2 from fun w' _ => short_at BA l.length Bc 30 30 (min l.length 30) rfl rfl w' HF3.out HF4.out HF5.out (by decide))
        have HTS := Lib.hid (show ∀ w', Kp w w' → Calls Try.prog 19 #[.slice BA (min l.length 30) Bc] w' fun e w2 => e = .returned (.bool true) ∧ Kp w' w2 from fun w' hk =>
          vtells_any S w' (S.tk HT.out hk) BA Bc (l.take 30) (bcells_take (HRB.out w' hk) 30) (by rw [List.length_take]; have := HF3.out; omega) HF4.out (by rw [List.length_take]; omega) (min l.length 30) (by rw [List.length_take, Nat.min_comm]))
        obtain ⟨sm, hsm⟩ : ∃ sm, min l.length 30 = sm := ⟨_, rfl⟩
        rw [hsm] at HSH HTS
        clear hown' hg hb ho hk9 hcap hge hglt HX8 HK8 HS hsm HRB HRA
        rcases Int.lt_or_le pos 0 with hneg | hpos
        · have t3 : decide (0 ≤ pos) = false := by simp; omega
          have HT1 := Lib.hid (HTL.out w9 (encV f) HK9.out HOW.out HNN.out)
          go_wp2_with fail
          refine (show Calls _ _ _ _ _ from HT1.out).mono ?_
          rintro e w10 ⟨rfl, hk10⟩
          have HK10 := Lib.hid (HK9.out.trans hk10)
          clear hk10
          go_wp2_with fail
          refine (show Calls _ _ _ _ _ from HSH.out w10 HK10.out).mono ?_
          rintro e w11 ⟨rfl, rfl⟩
          go_wp2_with fail
          refine (show Calls _ _ _ _ _ from HTS.out w10 HK10.out).mono ?_
          rintro e w12 ⟨rfl, hk12⟩
          have HK12 := Lib.hid (HK10.out.trans hk12)
          clear hk12
          go_wp2_with fail
          go_ret
          exact ⟨rfl, HK12.out.below⟩
        · obtain ⟨N, rfl⟩ : ∃ N : Nat, pos = (N : Int) := ⟨pos.toNat, by omega⟩
          have t3 : decide ((0 : Int) ≤ (N : Int)) = true := by simp
          have hNb : (N : Int) < 9223372036854775808 := HP2.out
          have ho := HOW.out
          have hm : N % n < n := Nat.mod_lt _ hn1
          have hNl : N % n < (encV f).length := by rw [HNN.out]; exact hm
          have hcell : w9.cell? ⟨g, N % n, none⟩ = some (.int .u8 (((encV f)[N % n]'hNl).toNat : Int)) := (ho.cellAt (N % n) (by omega)).trans (by simp [bcells, bcell, hNl])
          have hfz := ho.frozenAt (N % n)
          have hst := (ho.stored (N % n) (.int .u8 ((((encV f)[N % n]'hNl).toNat ^^^ x.toNat : Nat) : Int))).1
          rw [turned_cells (encV f) (N % n) x hNl] at hst
          have hxr : bits .xor .u8 (((((encV f)[N % n]'hNl).toNat : Nat)) : Int) ((x.toNat : Nat) : Int) = ((((encV f)[N % n]'hNl).toNat ^^^ x.toNat : Nat) : Int) := u8_xor_nat _ _ ((encV f)[N % n]'hNl).toNat_lt x.toNat_lt
          generalize ((encV f)[N % n]'hNl).toNat = ov at hcell hst hxr
          have hrm : ((N : Int).tmod (n : Int)) = ((N % n : Nat) : Int) := by rw [← Int.ofNat_tmod]
          have HST := Lib.hid hst
          generalize hq : N % n = q at hm hcell hfz hst hxr hrm HST
          have HK13 := Lib.hid (HK9.out.setCell (p := ⟨g, q, none⟩) (.inl HGE.out) (.int .u8 ((ov ^^^ x.toNat : Nat) : Int)))
          have HT1 := Lib.hid (HTL.out _ (turned (encV f) q x) HK13.out HST.out (by rw [turned_len, HNN.out]))
          clear ho hst hNl hq HST
          go_wp2_with fail
          refine (show Calls _ _ _ _ _ from HT1.out).mono ?_
          rintro e w10 ⟨rfl, hk10⟩
          have HK10 := Lib.hid (HK13.out.trans hk10)
          clear hk10
          go_wp2_with fail
          refine (show Calls _ _ _ _ _ from HSH.out w10 HK10.out).mono ?_
          rintro e w11 ⟨rfl, rfl⟩
          go_wp2_with fail
          refine (show Calls _ _ _ _ _ from HTS.out w10 HK10.out).mono ?_
          rintro e w12 ⟨rfl, hk12⟩
          have HK12 := Lib.hid (HK10.out.trans hk12)
          clear hk12
          go_wp2_with fail
          go_ret
          exact ⟨rfl, HK12.out.below⟩

end Go.Proofs.Ytdgpdooikfamlaa.vectorBytes
