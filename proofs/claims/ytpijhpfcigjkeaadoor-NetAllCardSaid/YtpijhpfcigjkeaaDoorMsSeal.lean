/-
  THE PROGRAM's MESSAGES (layer 19): sealOf, seal, unseal.
-/
import Derived.Test.YtpijhpfcigjkeaaDoorMsMath
import Derived.Test.YtpijhpfcigjkeaaDoorEqual
import Derived.Test.YtpijhpfcigjkeaaDoorConcat
import Derived.Test.YtpijhpfcigjkeaaDoorItemRef
import Derived.BigQuiet
import Derived.Outline
namespace Go.Proofs.YtpijhpfcigjkeaaDoor
open Go Go.RowKit Go.Joins

theorem txt_eq (l r : List UInt8) : ((txt l).toList == (txt r).toList) = decide (l = r) := by
  rw [str_same]
  refine decide_eq_decide.2 ⟨fun h => ?_, fun h => by rw [h]⟩
  have := congrArg (fun s : ByteArray => s.data.toList) h
  simpa [txt_list] using this

/-- A sum of one part, just behind the slice literal. -/
theorem sum_one (A : Option Addr) (cap : Nat) (l : List UInt8) (n : Nat) (hn : n = l.length) (w : World) (h2 : Row w A (fun _ => True) (bcells l)) (hl : l.length ≤ maxLen) (hT : Taken w) :
    Calls Tryd.prog 64 #[.slice (some ⟨w.heap.size, 0, none⟩) 1 1] (w.alloc (.cells #[.slice A n cap] 63)) fun e w' => e = .returned (.int .u32 ((crcN l : Nat) : Int)) ∧ w.alloc (.cells #[.slice A n cap] 63) = w' := by
  subst hn
  have h := sum_any (some ⟨w.heap.size, 0, none⟩) 1 (fun _ => True) (fun _ => True) [⟨A, cap, l⟩] (w.alloc (.cells #[.slice A l.length cap] 63))
    (Row.fresh w #[.slice A l.length cap] 63 (0, 0) _ rfl trivial _ rfl)
    (fun p hp => by
      simp only [List.mem_cons, List.not_mem_nil, or_false] at hp
      subst hp
      exact ⟨h2.alloc _, hl⟩) (by show 1 ≤ maxLen; decide) (hT.alloc _)
  have e : joined [⟨A, cap, l⟩] = l := by simp [joined]
  rw [e] at h
  exact h

set_option maxRecDepth 100000 in
set_option maxHeartbeats 1000000 in
theorem seal_of (w : World) (A : Option Addr) (c : Nat) (l : List UInt8) (h : Row w A (fun _ => True) (bcells l)) (_hlc : l.length ≤ c) (_hc : c ≤ maxLen) (hl : l.length ≤ 1000000) (hT : Taken w) :
    Calls Tryd.prog 48 #[.slice A l.length c] w fun e w' => ∃ v, e = .returned v ∧ OwnB w' w.heap.size v (sealL l) ∧ Kp w w' := by
  obtain ⟨n, hn⟩ : ∃ n, l.length = n := ⟨_, rfl⟩
  have hs := sum_one A c l n hn.symm w h (by unfold maxLen; omega) hT
  have hx := crcN_lt l
  have HE := Lib.hid (show sealL l = [UInt8.ofNat (n % 256), UInt8.ofNat (n / 256 % 256)] ++ sumL (crcN l) from by unfold sealL; rw [hn])
  generalize crcN l = x at hs hx HE
  have HS := Lib.hid hs
  obtain ⟨w2, hw2⟩ : ∃ w2, w.alloc (.cells #[.slice A n c] 63) = w2 := ⟨_, rfl⟩
  have hk2 : Kp w w2 := by rw [← hw2]; exact (Keeps.refl _ w).alloc _
  have hfin : ∀ g : Nat, g = w2.heap.size → ∃ v, Ending.returned (Value.slice (some ⟨g, 0, none⟩) 6 6) = .returned v ∧ OwnB (w2.alloc (.cells #[.int .u8 ((n : Int) % 256), .int .u8 ((n : Int) / 256 % 256), .int .u8 ((x : Int) % 256), .int .u8 ((x : Int) / 256 % 256), .int .u8 ((x : Int) / 65536 % 256), .int .u8 ((x : Int) / 16777216)] 5)) w.heap.size v (sealL l) ∧
      Kp w (w2.alloc (.cells #[.int .u8 ((n : Int) % 256), .int .u8 ((n : Int) / 256 % 256), .int .u8 ((x : Int) % 256), .int .u8 ((x : Int) / 256 % 256), .int .u8 ((x : Int) / 65536 % 256), .int .u8 ((x : Int) / 16777216)] 5)) := by
    rintro g rfl
    have h1 := World.ownsRow_lit (base := w.heap.size) (size := 1) (e := 5) w2 #[.int .u8 ((n : Int) % 256), .int .u8 ((n : Int) / 256 % 256), .int .u8 ((x : Int) % 256), .int .u8 ((x : Int) / 256 % 256), .int .u8 ((x : Int) / 65536 % 256), .int .u8 ((x : Int) / 16777216)] 6 hk2.size (by decide) rfl
    refine ⟨_, rfl, ?_, hk2.alloc _⟩
    have e : bcells (sealL l) = [.int .u8 ((n : Int) % 256), .int .u8 ((n : Int) / 256 % 256), .int .u8 ((x : Int) % 256), .int .u8 ((x : Int) / 256 % 256), .int .u8 ((x : Int) / 65536 % 256), .int .u8 ((x : Int) / 16777216)] := by
      rw [HE.out]
      unfold sumL bcells bcell
      simp only [List.cons_append, List.nil_append, List.map_cons, List.map_nil, toNat_ofNat_mod]
      rw [Nat.mod_eq_of_lt (show x / 16777216 < 256 by omega)]
      simp
    have e4 : (sealL l).length = 6 := rfl
    unfold OwnB
    rw [e, e4]
    exact h1
  have HF := Lib.hid hfin
  have HW2 := Lib.hid hw2
  have hnl : n ≤ 1000000 := by omega
  rw [hn]
  clear h hs hl hT hfin HE hw2 hk2 hn _hlc
  go_enter Tryd.func48, Tryd.ntmps48
  go_wp2_with fail
  refine HS.out.mono ?_
  rintro e w' ⟨rfl, rfl⟩
  rw [HW2.out]
  go_wp2_with fail
  go_ret
  exact HF.out _ rfl

set_option maxRecDepth 100000 in
set_option maxHeartbeats 1000000 in
theorem mseal (w : World) (A : Option Addr) (c : Nat) (l : List UInt8) (h : Row w A (fun _ => True) (bcells l)) (hlc : l.length ≤ c) (hc : c ≤ maxLen) (hl : l.length ≤ 90000) (hT : Taken w) :
    Calls Tryd.prog 36 #[.slice A l.length c] w fun e w' => ∃ v, e = .returned v ∧ OwnB w' w.heap.size v (l ++ sealL l) ∧ Kp w w' := by
  have HS := Lib.hid (seal_of w A c l h hlc hc (by omega) hT)
  have HR := Lib.hid h
  clear h hT
  go_enter Tryd.func36, Tryd.ntmps36
  go_wp2_with fail
  refine HS.out.mono ?_
  rintro e w1 ⟨v1, rfl, ho1, hk1⟩
  obtain ⟨g1, c1, rfl, -, -⟩ := ho1.form (by show 0 < 6; decide)
  have HC := Lib.hid (concat_any (w1.alloc (.cells #[.slice A l.length c, .slice (some ⟨g1, 0, none⟩) 6 c1] 63)) (some ⟨w1.heap.size, 0, none⟩) 2 [⟨A, c, l⟩, ⟨some ⟨g1, 0, none⟩, c1, sealL l⟩] (fun _ => True) (fun _ => True)
    (Row.fresh w1 #[.slice A l.length c, .slice (some ⟨g1, 0, none⟩) 6 c1] 63 (0, 0) _ rfl trivial _ rfl)
    (fun p hp => by
      simp only [List.mem_cons, List.not_mem_nil, or_false] at hp
      rcases hp with rfl | rfl
      · exact ⟨(HR.out.keep hk1).alloc _, by show l.length ≤ maxLen; unfold maxLen; omega⟩
      · exact ⟨((Row.of_own (xs := bcells (sealL l)) ho1).mono (G := fun _ => True) fun _ _ _ => trivial).alloc _, by show 6 ≤ maxLen; decide⟩) (by show 2 ≤ 100; decide)
    (by simp [joined, sealL_len]) (by simp [joined, sealL_len]; omega))
  have HJ := Lib.hid (show joined [⟨A, c, l⟩, ⟨some ⟨g1, 0, none⟩, c1, sealL l⟩] = l ++ sealL l from by simp [joined])
  have HK := Lib.hid (hk1.alloc (.cells #[.slice A l.length c, .slice (some ⟨g1, 0, none⟩) 6 c1] 63))
  clear ho1 hk1 HS HR
  go_wp2_with fail
  refine HC.out.mono ?_
  rintro e w2 ⟨v2, rfl, ho2, hk2⟩
  have H1 := Lib.hid (show OwnB w2 w.heap.size v2 (l ++ sealL l) from by rw [← HJ.out]; exact ownsRow_le ho2 HK.out.size)
  have H2 := Lib.hid (HK.out.trans hk2)
  clear ho2 hk2 HC
  go_wp2_with fail
  go_ret
  exact ⟨_, rfl, H1.out, H2.out⟩

/-- What unseal answers. -/
def UnsealPost (_W : World) (l : List UInt8) (e : Ending) (w' : World) : Prop :=
  (∃ body B k, l = body ++ sealL body ∧ e = .returned (.tuple #[.slice B body.length k, .bool true]) ∧ body.length ≤ k ∧ k ≤ maxLen ∧ Row w' B (fun _ => True) (bcells body)) ∨ ((∀ body, l ≠ body ++ sealL body) ∧ ∃ v, e = .returned (.tuple #[v, .bool false]))

set_option maxRecDepth 100000 in
set_option maxHeartbeats 1000000 in
theorem munseal (w : World) (A : Option Addr) (c : Nat) (l : List UInt8) (h : Row w A (fun _ => True) (bcells l)) (hlc : l.length ≤ c) (hc : c ≤ maxLen) (hl : l.length ≤ 1000000) (hT : Taken w) :
    Calls Tryd.prog 38 #[.slice A l.length c] w fun e w' => UnsealPost w l e w' ∧ Kp w w' := by
  obtain ⟨n, hn⟩ : ∃ n, l.length = n := ⟨_, rfl⟩
  rcases Bool.eq_false_or_eq_true (decide ((n : Int) < 6)) with t0 | t0
  · have t0p := of_decide_eq_true t0
    have HP := Lib.hid (show ∀ body, l ≠ body ++ sealL body from fun body e => by
      have := congrArg List.length e
      rw [List.length_append, sealL_len, hn] at this
      omega)
    rw [hn]
    clear h hn
    go_enter Tryd.func38, Tryd.ntmps38
    go_wp2_with fail
    go_ret2
    exact ⟨.inr ⟨HP.out, _, rfl⟩, Keeps.refl _ _⟩
  · have t0p := of_decide_eq_false t0
    obtain ⟨m, rfl⟩ : ∃ m, n = m + 6 := ⟨n - 6, by omega⟩
    obtain ⟨g, o, rfl, -, -⟩ := h.at_ (k := 0) (by rw [bcells_len]; omega)
    have hb1 : Row w (some ⟨g, o, none⟩) (fun _ => True) (bcells (l.take m)) := bcells_take h m
    have hb2 : Row w (some ⟨g, o + m, none⟩) (fun _ => True) (bcells (l.drop m)) := by
      have := h.cut (k := m) (cap := c) (by rw [bcells_len]; omega) (by rw [bcells_len]; exact hlc)
      rw [if_neg (by omega), Option.map_some, WideShapes.add_plain] at this
      rw [show (bcells l).drop m = bcells (l.drop m) from by simp [bcells]] at this
      exact this
    have l1 : (l.take m).length = m := by rw [List.length_take]; omega
    have l2 : (l.drop m).length = 6 := by rw [List.length_drop]; omega
    have HS := Lib.hid (fun w1 (hk : Kp w w1) => seal_of w1 (some ⟨g, o, none⟩) c (l.take m) (hb1.keep hk) (by omega) hc (by omega) (hT.keep hk))
    rw [l1] at HS
    have HB1 := Lib.hid hb1
    have HB2 := Lib.hid hb2
    have L1 := Lib.hid l1
    have L2 := Lib.hid l2
    have HN := Lib.hid hn
    have hcm : c ≤ 4611686018427387904 ∨ True := .inr trivial
    rw [hn] at hlc hl ⊢
    unfold maxLen at hc
    clear h hn hb1 hb2 l1 l2 hcm hT
    have hsub : ((m + 6 : Nat) : Int) - 6 = (m : Int) := by omega
    go_enter Tryd.func38, Tryd.ntmps38
    go_wp2_with fail
    go_quiet (fail)
    go_wp2_with fail
    refine (HS.out _ ((Keeps.refl _ w).drewN _)).mono ?_
    rintro e w1 ⟨v1, rfl, ho1, hk1⟩
    obtain ⟨g1, c1, rfl, -, -⟩ := ho1.form (by show 0 < 6; decide)
    have hr1 : Row w1 (some ⟨g1, 0, none⟩) (fun _ => True) (bcells (sealL (l.take m))) := (Row.of_own (xs := bcells (sealL (l.take m))) ho1).mono (G := fun _ => True) fun _ _ _ => trivial
    have hkw : Kp w w1 := ((Keeps.refl _ w).drewN _).trans hk1
    have HK := Lib.hid hkw
    have HQ := Lib.hid (equal_any (some ⟨g, o + m, none⟩) (some ⟨g1, 0, none⟩) (c - m) c1 6 6 _ _ (l.drop m) (sealL (l.take m)) w1 (HB2.out.keep hkw) hr1 L2.out.symm rfl _ (txt_eq _ _))
    have HB := Lib.hid (HB1.out.keep hkw)
    clear ho1 hk1 hr1 hkw HS HB1 HB2
    by_cases hy : l.drop m = sealL (l.take m)
    · have hd : decide (l.drop m = sealL (l.take m)) = true := by simpa using hy
      rw [hd] at HQ
      have HY := Lib.hid (show l = l.take m ++ sealL (l.take m) from by rw [← hy, List.take_append_drop])
      clear hy hd
      go_wp2_with fail
      refine HQ.out.mono ?_
      rintro e w2 ⟨rfl, rfl⟩
      go_wp2_with fail
      go_ret2
      refine ⟨.inl ⟨l.take m, some ⟨g, o, none⟩, c, HY.out, ?_, by rw [L1.out]; omega, by unfold maxLen; omega, HB.out⟩, HK.out⟩
      rw [L1.out]
      rfl
    · have hd : decide (l.drop m = sealL (l.take m)) = false := by simpa using hy
      rw [hd] at HQ
      have HY := Lib.hid (show ∀ body, l ≠ body ++ sealL body from fun body e => hy (by
        have hlb : body.length = m := by
          have := congrArg List.length e
          rw [List.length_append, sealL_len, HN.out] at this
          omega
        rw [e, ← hlb, List.take_left, List.drop_left]))
      clear hy hd
      go_wp2_with fail
      refine HQ.out.mono ?_
      rintro e w2 ⟨rfl, rfl⟩
      go_wp2_with fail
      go_ret2
      exact ⟨.inr ⟨HY.out, _, rfl⟩, HK.out⟩

end Go.Proofs.YtpijhpfcigjkeaaDoor
