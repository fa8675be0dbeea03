/-
  THE LANDED PLANS KEEP THE FACE of layer 15; what the frames of its laws ask of the program besides.
-/
import Derived.Test.YtcmblihlbmclaaaPnEnds
import Derived.Test.YtcmblihlbmclaaaPnJoin
import Derived.Test.YtcmblihlbmclaaaAllPnA
import Derived.OpenShut
namespace Go.Proofs.Ytcmblihlbmclaaa
open Go Go.RowKit Go.Joins Go.ChangeShapes Go.WideShapes Go.ChangeAt

/-- The first hash behind the first k ends. -/
def nxt (L : List Int) (k : Nat) : Int := if k = 0 then 0 else L[k - 1]! + 1
/-- The ends' facts, as the loop wants them. -/
structure Ends (x y L : List Int) : Prop where
  rng : ∀ (k : Nat) (hk : k < L.length), 0 ≤ L[k] ∧ L[k] < 18446744073709551616
  lo : ∀ (k : Nat) (hk : k < L.length), 0 ≤ nxt L k ∧ nxt L k ≤ L[k]
  piece : ∀ (k : Nat) (hk : k < L.length), ∀ z, nxt L k ≤ z → z ≤ L[k] → ownerL x z = ownerL x L[k] ∧ ownerL y z = ownerL y L[k]
  full : nxt L L.length = 18446744073709551616
theorem nxt_succ {L : List Int} {k : Nat} (hk : k < L.length) : nxt L (k + 1) = L[k] + 1 := by
  unfold nxt
  rw [if_neg (by omega), Nat.add_sub_cancel, getElem!_pos L k hk]
theorem ends_facts {x y L : List Int} (h : Rising (endsL x y 2) L) : Ends x y L := by
  have hpl : ∀ (l : List Int), ∀ p ∈ pts l, 0 ≤ p.place ∧ p.place < 18446744073709551616 := fun l p hp => by
    obtain ⟨n, -, h2⟩ := pts_mem.1 hp
    obtain ⟨i, hi, rfl⟩ := List.mem_iff_getElem.1 h2
    have hi8 : i < 8 := hi
    have : i = 0 ∨ i = 1 ∨ i = 2 ∨ i = 3 ∨ i = 4 ∨ i = 5 ∨ i = 6 ∨ i = 7 := by omega
    rcases this with rfl | rfl | rfl | rfl | rfl | rfl | rfl | rfl <;> exact place_u64 n _
  have hrng : ∀ z ∈ L, 0 ≤ z ∧ z < 18446744073709551616 := fun z hz => by
    have h1 := (h.mem z).1 hz
    unfold endsL at h1
    rw [if_pos (by decide), if_pos (by decide)] at h1
    rcases List.mem_cons.1 h1 with rfl | h1
    · omega
    · rcases List.mem_append.1 h1 with h1 | h1
      · obtain ⟨p, hp, rfl⟩ := List.mem_map.1 h1; exact hpl x p hp
      · obtain ⟨p, hp, rfl⟩ := List.mem_map.1 h1; exact hpl y p hp
  have hinx : ∀ p ∈ pts x, p.place ∈ L := fun p hp => (h.mem _).2 (List.mem_cons_of_mem _ (List.mem_append_left _ (by rw [if_pos (by decide)]; exact List.mem_map.2 ⟨p, hp, rfl⟩)))
  have hiny : ∀ p ∈ pts y, p.place ∈ L := fun p hp => (h.mem _).2 (List.mem_cons_of_mem _ (List.mem_append_right _ (by rw [if_pos (by decide)]; exact List.mem_map.2 ⟨p, hp, rfl⟩)))
  have hasc : ∀ (i j : Nat) (hi : i < L.length) (hj : j < L.length), i < j → L[i] < L[j] := fun i j hi hj hij => List.pairwise_iff_getElem.1 h.asc i j hi hj hij
  have hle : ∀ (i j : Nat) (hi : i < L.length) (hj : j < L.length), i ≤ j → L[i] ≤ L[j] := fun i j hi hj hij => by
    rcases Nat.eq_or_lt_of_le hij with rfl | hlt
    · exact Int.le_refl _
    · exact Int.le_of_lt (hasc i j hi hj hlt)
  have hgo : ∀ (k : Nat) (hk : k < L.length) (z q : Int), nxt L k ≤ z → q ∈ L → z ≤ q → L[k] ≤ q := fun k hk z q h1 h2 h3 => by
    obtain ⟨j, hj, rfl⟩ := List.mem_iff_getElem.1 h2
    rcases Nat.lt_or_ge j k with g | g
    · exfalso
      unfold nxt at h1
      rw [if_neg (by omega), getElem!_pos L (k - 1) (by omega)] at h1
      have := hle j (k - 1) hj (by omega) (by omega)
      omega
    · exact hle k j hk hj g
  refine ⟨fun k hk => hrng _ (List.getElem_mem hk), fun k hk => ?_, fun k hk z h1 h2 => ?_, ?_⟩
  · cases k with
    | zero => exact ⟨Int.le_refl _, (hrng _ (List.getElem_mem hk)).1⟩
    | succ k =>
      rw [nxt_succ (by omega)]
      have h1 := hrng _ (List.getElem_mem (show k < L.length by omega))
      have h2 := hasc k (k + 1) (by omega) hk (by omega)
      omega
  · exact ⟨own_piece h2 fun p hp hz => hgo k hk z _ h1 (hinx p hp) hz, own_piece h2 fun p hp hz => hgo k hk z _ h1 (hiny p hp) hz⟩
  · have hmax : (18446744073709551615 : Int) ∈ L := (h.mem _).2 List.mem_cons_self
    obtain ⟨j, hj, e⟩ := List.mem_iff_getElem.1 hmax
    unfold nxt
    rw [if_neg (by omega), getElem!_pos L (L.length - 1) (by omega)]
    have h1 := hle j (L.length - 1) hj (by omega) (by omega)
    have h2 := hrng _ (List.getElem_mem (show L.length - 1 < L.length by omega))
    omega

theorem kp_base {a b c : World} (h : Kp a b) (k : Keeps (fun i => i < a.heap.size) b c) : Kp a c :=
  ⟨k.os.trans h.os, k.tape.trans h.tape, k.output.trans h.output, Nat.le_trans h.size k.size, fun i _ hi => (k.block i hi (Nat.lt_of_lt_of_le hi h.size)).trans (h.block i trivial hi)⟩
set_option maxRecDepth 100000 in
theorem plof_nil (w : World) : Calls Try.prog 11 #[.pointer none, .pointer none] w fun e w' => (∃ B cb, e = .returned (.slice B 0 cb)) ∧ Kp w w' := by
  go_enter Try.func11, Try.ntmps11
  go_wp2_with fail
  go_ret
  exact ⟨⟨_, _, rfl⟩, Keeps.refl _ _⟩

set_option maxRecDepth 100000 in
set_option maxHeartbeats 4000000 in
theorem plof_any (W w : World) (r1 : Nat) (F1 : Nat → Prop) (e1 : Int) (x : List Int) (r2 : Nat) (F2 : Nat → Prop) (e2 : Int) (y : List Int) (hx : RgAt W w r1 F1 e1 x) (hy : RgAt W w r2 F2 e2 y) :
    Calls Try.prog 11 #[.pointer (some ⟨r1, 0, none⟩), .pointer (some ⟨r2, 0, none⟩)] w fun e w' => ∃ B cb P, e = .returned (.slice B P.length cb) ∧ MVRow w' B (fun _ => True) P ∧ PlanIs (ownerL x) (ownerL y) P ∧ P.length ≤ 1000 ∧ P.length ≤ cb ∧ cb ≤ maxLen ∧ Kp w w' := by
  have HE := Lib.hid (pends_any W w r1 F1 e1 x r2 F2 e2 y hx hy)
  have HX := Lib.hid (show ∀ w', Kp w w' → RgAt W w' r1 F1 e1 x from fun w' hk => theRing.atK hx hk)
  have HY := Lib.hid (show ∀ w', Kp w w' → RgAt W w' r2 F2 e2 y from fun w' hk => theRing.atK hy hk)
  clear hx hy
  go_enter Try.func11, Try.ntmps11
  go_wp2_with fail
  refine (show Calls _ _ _ _ _ from HE.out).mono ?_
  rintro e w1 ⟨B, L, cb, rfl, hrow, hri, h81, hb1, hb2, hk1⟩
  have HF := Lib.hid (ends_facts hri)
  have HK1 := Lib.hid hk1
  have HB := Lib.hid (show ∀ w', Kp w1 w' → Row w' B (fun _ => True) (L.map (Value.int .u64)) from fun w' hk => Row.keep hrow hk)
  unfold maxLen at hb2
  clear hrow hri hk1 HE
  go_wp2_with fail
  go_loopw [5, 6, 20] (fun v vf i wr => ∃ (k c : Nat) (A : Option Addr) (P : List Mv), k ≤ L.length ∧ P.length ≤ k ∧ v = .slice A P.length c ∧ vf = .int .u64 (IntKind.u64.wrap (nxt L k)) ∧ i = .int .i64 (k : Int) ∧ Hid (wr.ownsRow w1.heap.size 32 4 v P.length (mvrow P)) ∧ Hid (PlanTo (nxt L k) (ownerL x) (ownerL y) P) ∧ Hid (Kp w1 wr)) (fun _ _ i _ => L.length - (intOf i).toNat)
  case atStart => exact ⟨0, 0, none, [], Nat.zero_le _, Nat.le_refl _, rfl, rfl, rfl, Lib.hid (World.ownsRow_nil _ _ _ _), Lib.hid PlanTo.nil, Lib.hid (Keeps.refl _ _)⟩
  case round =>
    obtain ⟨k, c, A, P, hk, hP, rfl, rfl, rfl, HO, HP, HKW⟩ := hrel
    by_cases hkl : k < L.length
    · have hkl' : (k : Int) < (L.length : Int) := by omega
      obtain ⟨b, o, rfl, -, c0⟩ := (HB.out wr HKW.out).at_ (k := k) (by simpa using hkl)
      rw [List.getElem_map] at c0
      have hlo := HF.out.lo k hkl
      have hrg := HF.out.rng k hkl
      have HPC := Lib.hid (HF.out.piece k hkl)
      have HNX := Lib.hid (nxt_succ hkl)
      rw [show IntKind.u64.wrap (nxt L k) = nxt L k from by rw [IntKind.wrap_u64]; omega]
      obtain ⟨t, ht⟩ : ∃ t, L[k] = t := ⟨_, rfl⟩
      obtain ⟨f, hf⟩ : ∃ f, nxt L k = f := ⟨_, rfl⟩
      rw [ht] at c0 hlo hrg HPC HNX
      rw [hf] at hlo HPC HP ⊢
      clear ht hf
      have HLO := Lib.hid hlo
      have HRG := Lib.hid hrg
      obtain ⟨s, hs⟩ : ∃ s, ownerL x t = s := ⟨_, rfl⟩
      obtain ⟨d, hd⟩ : ∃ d, ownerL y t = d := ⟨_, rfl⟩
      have HOX := Lib.hid (show ∀ w', Kp w1 w' → Calls Try.prog 21 #[.pointer (some ⟨r1, 0, none⟩), .int .u64 t] w' fun e w2 => e = .returned (.int .i64 s) ∧ Kp w' w2 from fun w' hk => by
        rw [← hs]; exact theRing.owner W w' r1 F1 e1 x t trivial (HX.out w' (HK1.out.trans hk)) hrg.1 hrg.2)
      have HOY := Lib.hid (show ∀ w', Kp w1 w' → Calls Try.prog 21 #[.pointer (some ⟨r2, 0, none⟩), .int .u64 t] w' fun e w2 => e = .returned (.int .i64 d) ∧ Kp w' w2 from fun w' hk => by
        rw [← hd]; exact theRing.owner W w' r2 F2 e2 y t trivial (HY.out w' (HK1.out.trans hk)) hrg.1 hrg.2)
      have HPP := Lib.hid (show ∀ z, f ≤ z → z ≤ t → ownerL x z = s ∧ ownerL y z = d from fun z h1 h2 => by rw [← hs, ← hd]; exact HPC.out z h1 h2)
      clear hs hd HPC hlo hrg
      go_wp2_with fail
      refine (show Calls _ _ _ _ _ from HOX.out _ HKW.out).mono ?_
      rintro e w2 ⟨rfl, hk2⟩
      have HK2 := Lib.hid (HKW.out.trans hk2)
      replace HO := Lib.hid (hk2.own HO.out fun _ _ => trivial)
      clear hk2 HKW HOX
      go_wp2_with fail
      refine (show Calls _ _ _ _ _ from HOY.out _ HK2.out).mono ?_
      rintro e w3 ⟨rfl, hk3⟩
      have HK3 := Lib.hid (HK2.out.trans hk3)
      replace HO := Lib.hid (hk3.own HO.out fun _ _ => trivial)
      clear hk3 HK2 HOY
      by_cases hsd : s = d
      · have hn : (s != d) = false := by simpa using hsd
        have HP2 := Lib.hid (show PlanTo (nxt L (k + 1)) (ownerL x) (ownerL y) P from by rw [HNX.out]; exact HP.out.same HLO.out.2 HPP.out hsd)
        have HO2 := Lib.hid (HO.out.alloc (.cells #[.int .u64 f, .int .u64 t, .int .i64 s, .int .i64 d] 32))
        clear hsd HP
        go_wp2_with fail
        go_roundw
        case rel => exact ⟨k + 1, c, A, P, hkl, by omega, rfl, by rw [HNX.out], by go_num, HO2, HP2, Lib.hid (HK3.out.alloc _)⟩
        case measure => simp [intOf]; omega
      · have hn : (s != d) = true := by simpa using hsd
        have HP2 := Lib.hid (show PlanTo (nxt L (k + 1)) (ownerL x) (ownerL y) (joinL P ⟨f, t, s, d⟩) from by rw [HNX.out]; exact HP.out.join HLO.out.1 HLO.out.2 HPP.out hsd)
        have hjl := joinL_len P ⟨f, t, s, d⟩
        have hka : Kp w1 (w3.alloc (.cells #[.int .u64 f, .int .u64 t, .int .i64 s, .int .i64 d] 32)) := HK3.out.alloc _
        have HJ := Lib.hid (join_any (w3.alloc (.cells #[.int .u64 f, .int .u64 t, .int .i64 s, .int .i64 d] 32)) w1.heap.size A c P ⟨f, t, s, d⟩ (HO.out.alloc _) hka.size (by omega) (fun p hp => by
          have h1 := HP.out.rng p hp
          have h2 := HP.out.low p hp
          exact ⟨by omega, h1.2⟩) (show f < 18446744073709551616 by have := HLO.out; have := HRG.out; omega))
        unfold mvagg mvcells at HJ
        simp only at HJ
        have HKA := Lib.hid (show Kp w1 (w3.alloc (.cells #[.int .u64 f, .int .u64 t, .int .i64 s, .int .i64 d] 32)) from HK3.out.alloc _)
        clear hsd HP hka HO
        generalize joinL P ⟨f, t, s, d⟩ = P2 at *
        go_wp2_with fail
        refine (show Calls _ _ _ _ _ from HJ.out).mono ?_
        rintro e w5 ⟨A5, c5, rfl, ho5, hk5⟩
        have HO5 := Lib.hid ho5
        have HK5 := Lib.hid (kp_base HKA.out hk5)
        clear ho5 hk5 HJ HKA
        go_wp2_with fail
        go_roundw
        case rel => exact ⟨k + 1, c5, A5, P2, hkl, by omega, rfl, by rw [HNX.out], by go_num, HO5, HP2, HK5⟩
        case measure => simp [intOf]; omega
    · obtain rfl : k = L.length := by omega
      have hkl' : ¬ ((L.length : Int) < (L.length : Int)) := by omega
      obtain ⟨A2, c2, e, hc1, hc2, hA⟩ := own_form4 HO.out
      injection e with ea eb ec
      subst ea ec
      have HFIN := Lib.hid (show PlanIs (ownerL x) (ownerL y) P from by have h := HP.out; rw [HF.out.full] at h; exact h.full)
      have HROW := Lib.hid (show MVRow wr A (fun _ => True) P from by
        intro hne
        have hlen := mvrow_len P
        have h0 : 0 < P.length := by
          rcases Nat.eq_zero_or_pos P.length with h | h
          · exact absurd (List.eq_nil_of_length_eq_zero (by rw [hlen, h])) hne
          · exact h
        obtain ⟨g2, rfl, -, -⟩ := hA h0
        refine ⟨g2, 0, rfl, trivial, fun i v hv => ?_⟩
        have h1 := HO.out.cells (g := g2) rfl i v hv
        rwa [WideShapes.add_plain] at h1)
      clear hA HP HO eb
      go_wp2_with fail
      go_ret
      exact ⟨A, c, P, rfl, HROW.out, HFIN.out, by omega, hc1, hc2, HK1.out.trans HKW.out⟩

theorem thePlan : PlanOK theRing where
  of := fun W w r1 F1 e1 x r2 F2 e2 y _ h1 h2 => plof_any W w r1 F1 e1 x r2 F2 e2 y h1 h2
  ofNil := plof_nil
  from_ := fun w A c P n h1 h2 h3 h4 => planFrom_any w A c P n h1 h2 h3 h4
  to_ := fun w A c P n h1 h2 h3 h4 => planTo_any w A c P n h1 h2 h3 h4
  covers := fun w A c P h h1 h2 h3 h4 _ _ _ => covers_any w A c P h h1 h2 h3 h4

end Go.Proofs.Ytcmblihlbmclaaa
