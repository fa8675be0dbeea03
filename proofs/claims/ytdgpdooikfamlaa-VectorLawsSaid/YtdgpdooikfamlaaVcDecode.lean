/-
  THE PROGRAM's VECTORS: Decode (layer 11).
-/
import Derived.Test.YtdgpdooikfamlaaVcCode
namespace Go.Proofs.Ytdgpdooikfamlaa
open Go Go.RowKit Go.Joins

def decPost (l : List UInt8) : Ending := .returned (.tuple (match decV l with | some g => #[vagg g, .int .i64 0] | none => #[vagg (fun _ => 0), .int .i64 1]))
theorem decPost_none {l : List UInt8} (h : decV l = none) : decPost l = .returned (.tuple #[vagg (fun _ => 0), .int .i64 1]) := by unfold decPost; rw [h]
theorem decPost_some {l : List UInt8} {g : Nat → Int} (h : decV l = some g) : decPost l = .returned (.tuple #[vagg g, .int .i64 0]) := by unfold decPost; rw [h]
set_option maxRecDepth 100000 in
set_option maxHeartbeats 2000000 in
theorem vdecode_any (w : World) (A : Option Addr) (c : Nat) (l : List UInt8) (hr0 : Row w A (fun _ => True) (bcells l)) (hl : l.length ≤ c) (_hc : c ≤ maxLen) (hm : l.length ≤ 1099511627776) :
    Calls Try.prog 18 #[.slice A l.length c] w fun e w' => e = decPost l ∧ Kp w w' := by
  have HR := Lib.hid (show Row w A (fun b => b < w.heap.size) (bcells l) from hr0.lt.mono fun b _ hb => hb.2)
  clear hr0
  obtain ⟨N, hN⟩ : ∃ N, l.length = N := ⟨_, rfl⟩
  have HALL := Lib.hid (show ∀ (w2 : World) (q : Nat), Kp w w2 → w.heap.size ≤ q + 1 → VBlk w2 (q + 1) 26 (fun _ => 0) → PBlk w2 (q + 2) (placed (q + 1) 5) → Calls Try.prog 28 #[.slice A N c, .slice (some ⟨q + 2, 0, none⟩) 5 5] w2 (AllPost w2 (places (q + 1)) l) from fun w2 q hk hq hv hp => by
    rw [← hN]
    exact all_any A (some ⟨q + 2, 0, none⟩) c 5 (fun b => b ≠ q + 1) l (places (q + 1)) w2 (((HR.out.keep (hk.mono fun _ _ _ => trivial)).mono fun b _ (hb : b < w.heap.size) => by omega)) (hp.row _ (by omega)) (fun a ha => by
      have hx : ∃ i, i < 6 ∧ a = ⟨q + 1, i, none⟩ := by
        simp only [places, List.mem_cons, Option.some.injEq, List.not_mem_nil, or_false] at ha
        rcases ha with rfl | rfl | rfl | rfl | rfl
        · exact ⟨1, by omega, rfl⟩
        · exact ⟨2, by omega, rfl⟩
        · exact ⟨3, by omega, rfl⟩
        · exact ⟨4, by omega, rfl⟩
        · exact ⟨5, by omega, rfl⟩
      obtain ⟨i, hi, rfl⟩ := hx
      exact ⟨⟨⟨_, hv.at_ i hi⟩, hv.fz i⟩, fun h => h rfl⟩) hm hl (by simp [places]))
  have HKS := Lib.hid (show ∀ (w2 : World) (q : Nat) (xs : List Int), Kp w w2 → w.heap.size ≤ q + 1 → Kp w (stores w2 (places (q + 1)) xs) ∧ Keeps (fun b => b ≠ q + 1) w2 (stores w2 (places (q + 1)) xs) from fun w2 q xs hk hq => by
    have h1 := stores_keeps (fun b => b ≠ q + 1) (places (q + 1)) xs w2 w2 (fun a ha => by
      simp only [places, List.mem_cons, Option.some.injEq, List.not_mem_nil, or_false] at ha
      rcases ha with rfl | rfl | rfl | rfl | rfl <;> exact fun h => h rfl) (Keeps.refl _ _)
    exact ⟨keep_past hk h1 hq, h1⟩)
  have HN := Lib.hid hN
  rw [hN]
  have hNm : N ≤ 1099511627776 := by omega
  clear hl _hc hm hN
  have HW := Lib.hid (show ∀ w2, w2 = ((w.alloc (.cells (vcells fun _ => 0) 26)).alloc (.cells (vcells fun _ => 0) 26)).alloc (.cells (pcells fun _ => none) 54) → VBlk w2 w.heap.size 26 (fun _ => 0) ∧ VBlk w2 (w.heap.size + 1) 26 (fun _ => 0) ∧ PBlk w2 (w.heap.size + 2) (placed (w.heap.size + 1) 0) ∧ Kp w w2 from by
    rintro w2 rfl
    have h1 : VBlk (w.alloc (.cells (vcells fun _ => 0) 26)) w.heap.size 26 (fun _ => 0) := heap_alloc_new w _
    have h2 := heap_alloc_new (w.alloc (.cells (vcells fun _ => 0) 26)) (.cells (vcells fun _ => 0) 26)
    have h3 := heap_alloc_new ((w.alloc (.cells (vcells fun _ => 0) 26)).alloc (.cells (vcells fun _ => 0) 26)) (.cells (pcells fun _ => none) 54)
    have hs : (w.alloc (.cells (vcells fun _ => 0) 26)).heap.size = w.heap.size + 1 := by simp
    have hs2 : ((w.alloc (.cells (vcells fun _ => 0) 26)).alloc (.cells (vcells fun _ => 0) 26)).heap.size = w.heap.size + 2 := by simp
    rw [hs] at h2
    rw [hs2] at h3
    have h2' : VBlk ((w.alloc (.cells (vcells fun _ => 0) 26)).alloc (.cells (vcells fun _ => 0) 26)) (w.heap.size + 1) 26 (fun _ => 0) := h2
    have e : placed (w.heap.size + 1) 0 = fun _ => none := by
      funext i
      unfold placed
      rw [if_neg (by omega)]
    refine ⟨h1.keep (G := fun _ => True) (((Keeps.refl _ _).alloc _).alloc _) trivial, h2'.keep (G := fun _ => True) ((Keeps.refl _ _).alloc _) trivial, ?_, (((Keeps.refl _ _).alloc _).alloc _).alloc _⟩
    rw [e]
    exact h3)
  unfold vcells pcells at HW
  go_enter Try.func18, Try.ntmps18
  go_upto_region 3 with fail
  obtain ⟨a1, a2, a3, a4⟩ := HW.out _ rfl
  obtain ⟨q, hq⟩ : ∃ q, w.heap.size = q := ⟨_, rfl⟩
  rw [hq] at a1 a2 a3 ⊢
  have HGQ := Lib.hid (Nat.le_of_eq hq)
  generalize World.alloc (World.alloc (World.alloc _ _) _) _ = w1 at a1 a2 a3 a4 ⊢
  clear hq HW
  have H0 := Lib.hid a1
  have H1 := Lib.hid a2
  have HP := Lib.hid a3
  have HK := Lib.hid a4
  clear a1 a2 a3 a4
  go_wp2_with fail
  go_loopw [9] (fun i wr => ∃ k : Nat, k ≤ 5 ∧ i = .int .i64 (k : Int) ∧ Hid (VBlk wr q 26 (fun _ => 0)) ∧ Hid (VBlk wr (q + 1) 26 (fun _ => 0)) ∧ Hid (PBlk wr (q + 2) (placed (q + 1) k)) ∧ Hid (Kp w wr)) (fun i _ => 5 - (intOf i).toNat)
  case atStart => exact ⟨0, Nat.zero_le _, rfl, H0, H1, HP, HK⟩
  case round =>
    clear H0 H1 HP HK
    obtain ⟨k, hk, rfl, H0, H1, HP, HK⟩ := hrel
    by_cases hk5 : k < 5
    · have t1 : decide ((k : Int) < 5) = true := by simp; omega
      have HNX := Lib.hid (placed_next (q + 1) k)
      have c0 := HP.out.at_ k hk5
      have f0 := HP.out.fz k
      have HP2 := Lib.hid (HP.out.set k hk5 (some ⟨q + 1, 1 + k, none⟩))
      rw [HNX.out] at HP2
      have hq2 : w.heap.size ≤ q + 2 := by have := HGQ.out; omega
      have HK2 := Lib.hid (HK.out.setCell (p := ⟨q + 2, k, none⟩) (.inl hq2) (.pointer (some ⟨q + 1, 1 + k, none⟩)))
      have H02 := Lib.hid (H0.out.keep ((Keeps.refl (fun b => b ≠ q + 2) wr).setCell (p := ⟨q + 2, k, none⟩) (.inr (fun h => h rfl)) (.pointer (some ⟨q + 1, 1 + k, none⟩))) (by omega))
      have H12 := Lib.hid (H1.out.keep ((Keeps.refl (fun b => b ≠ q + 2) wr).setCell (p := ⟨q + 2, k, none⟩) (.inr (fun h => h rfl)) (.pointer (some ⟨q + 1, 1 + k, none⟩))) (by omega))
      generalize placed (q + 1) k = P at c0 HP HNX
      generalize P k = p at c0
      clear hq2 HP HNX
      go_wp2_with fail
      go_roundw
      case rel => exact ⟨k + 1, by omega, by go_num, H02, H12, HP2, HK2⟩
      case measure => simp [intOf]; omega
    · obtain rfl : k = 5 := by omega
      have t1 : decide (((5 : Nat) : Int) < 5) = false := by decide
      have hq2 : w.heap.size ≤ q + 1 := by have := HGQ.out; omega
      have HA := Lib.hid (HALL.out wr q HK.out hq2 H1.out HP.out)
      go_wp2_with fail
      have hq3 := HKS.out wr q (allZ 5 l).1 HK.out hq2
      rcases hz : allZ 5 l with ⟨xs, at_, z⟩
      rw [hz] at hq3
      have HPOST := Lib.hid (show ∀ e' w', AllPost wr (places (q + 1)) l e' w' → e' = .returned (.tuple #[.int .i64 ((if z = 0 then at_ else 0 : Nat) : Int), .int .i64 (z : Int)]) ∧ w' = stores wr (places (q + 1)) xs from fun e' w' h => by
        obtain ⟨h1, h2⟩ := h
        have hl5 : (places (q + 1)).length = 5 := rfl
        rw [hl5, hz] at h1 h2
        exact ⟨h1, h2⟩)
      have HD := Lib.hid (show decV l = if z = 0 ∧ at_ = N ∧ fitsB (ofL xs) = true then some (ofL xs) else none from by unfold decV; rw [hz, HN.out])
      have HV := Lib.hid (show z = 0 → VBlk (stores wr (places (q + 1)) xs) (q + 1) 26 (ofL xs) from fun h0 => by
        subst h0
        obtain ⟨h4, _⟩ := allZ_len 5 l xs at_ hz
        match xs, h4 with
        | [a, b, c, d, e], _ => exact H1.out.stored a b c d e)
      have H0S := Lib.hid (H0.out.keep hq3.2 (by omega))
      have HKW := Lib.hid hq3.1
      have HFT := Lib.hid (show ∀ w2, Calls Try.prog 26 #[vagg (ofL xs)] w2 fun e w' => e = .returned (.bool (fitsB (ofL xs))) ∧ Kp w2 w' from fun w2 => fits_any w2 _)
      clear hz hq3 hq2 H0 H1 HP HK hk5
      refine (show Calls _ _ _ _ _ from HA.out).mono ?_
      rintro e' w' hpost
      obtain ⟨rfl, rfl⟩ := HPOST.out e' w' hpost
      generalize stores wr (places (q + 1)) xs = ws at HV H0S HKW ⊢
      clear HA hpost HPOST
      by_cases hz0 : z = 0
      · subst hz0
        rw [if_pos rfl]
        by_cases hat : at_ = N
        · subst hat
          have t2 : ((at_ : Int) != (at_ : Int)) = false := by simp
          have hv := HV.out rfl
          have HV2 := Lib.hid hv
          obtain ⟨g, hg⟩ : ∃ g, ofL xs = g := ⟨_, rfl⟩
          rw [hg] at HV2 HFT HD hv
          have c0 := hv.at_ 0 (by omega)
          have c1 := hv.at_ 1 (by omega)
          have c2 := hv.at_ 2 (by omega)
          have c3 := hv.at_ 3 (by omega)
          have c4 := hv.at_ 4 (by omega)
          have c5 := hv.at_ 5 (by omega)
          unfold vagg vcells at HFT
          clear hg HV hv
          go_wp2_with fail
          refine (show Calls _ _ _ _ _ from HFT.out _).mono ?_
          rintro e w3 ⟨rfl, hk3⟩
          have HKW3 := Lib.hid (HKW.out.trans hk3)
          replace H0S := Lib.hid (H0S.out.keep hk3 trivial)
          replace HV2 := Lib.hid (HV2.out.keep hk3 trivial)
          clear hk3 HFT HKW c0 c1 c2 c3 c4 c5
          have HKW := HKW3
          clear HKW3
          cases hf : fitsB g with
          | false =>
            have HE := Lib.hid (decPost_none (show decV l = none from by rw [HD.out, hf, if_neg (by simp)]))
            clear hf HD HV2
            have b0 := H0S.out.at_ 0 (by omega)
            have b1 := H0S.out.at_ 1 (by omega)
            have b2 := H0S.out.at_ 2 (by omega)
            have b3 := H0S.out.at_ 3 (by omega)
            have b4 := H0S.out.at_ 4 (by omega)
            have b5 := H0S.out.at_ 5 (by omega)
            have d0 := H0S.out.fz 0
            have d1 := H0S.out.fz 1
            have d2 := H0S.out.fz 2
            have d3 := H0S.out.fz 3
            have d4 := H0S.out.fz 4
            have d5 := H0S.out.fz 5
            go_wp2_with fail
            have hb := H0S.out.all6 (fun _ => 0)
            have hk := all6_keeps (g := q) HKW.out (.inl HGQ.out) (fun _ => 0)
            refine bodyPost_ret (v := .tuple #[vagg (fun _ => 0), .int .i64 1]) ?_ rfl ⟨by rw [HE.out], hk⟩
            generalize World.setCell (World.setCell (World.setCell (World.setCell (World.setCell (World.setCell w3 _ _) _ _) _ _) _ _) _ _) _ _ = W6 at hb ⊢
            have e0 := hb.at_ 0 (by omega)
            have e1 := hb.at_ 1 (by omega)
            have e2 := hb.at_ 2 (by omega)
            have e3 := hb.at_ 3 (by omega)
            have e4 := hb.at_ 4 (by omega)
            have e5 := hb.at_ 5 (by omega)
            simp [results, Try.results18, go_sem, vagg, vcells, e0, e1, e2, e3, e4, e5]
          | true =>
            have HE := Lib.hid (decPost_some (show decV l = some g from by have h := HD.out; simpa [hf] using h))
            clear hf HD
            have c0 := HV2.out.at_ 0 (by omega)
            have c1 := HV2.out.at_ 1 (by omega)
            have c2 := HV2.out.at_ 2 (by omega)
            have c3 := HV2.out.at_ 3 (by omega)
            have c4 := HV2.out.at_ 4 (by omega)
            have c5 := HV2.out.at_ 5 (by omega)
            have b0 := H0S.out.at_ 0 (by omega)
            have b1 := H0S.out.at_ 1 (by omega)
            have b2 := H0S.out.at_ 2 (by omega)
            have b3 := H0S.out.at_ 3 (by omega)
            have b4 := H0S.out.at_ 4 (by omega)
            have b5 := H0S.out.at_ 5 (by omega)
            have d0 := H0S.out.fz 0
            have d1 := H0S.out.fz 1
            have d2 := H0S.out.fz 2
            have d3 := H0S.out.fz 3
            have d4 := H0S.out.fz 4
            have d5 := H0S.out.fz 5
            go_wp2_with fail
            have hb := H0S.out.all6 g
            have hk := all6_keeps (g := q) HKW.out (.inl HGQ.out) g
            refine bodyPost_ret (v := .tuple #[vagg g, .int .i64 0]) ?_ rfl ⟨by rw [HE.out], hk⟩
            generalize World.setCell (World.setCell (World.setCell (World.setCell (World.setCell (World.setCell w3 _ _) _ _) _ _) _ _) _ _) _ _ = W6 at hb ⊢
            have e0 := hb.at_ 0 (by omega)
            have e1 := hb.at_ 1 (by omega)
            have e2 := hb.at_ 2 (by omega)
            have e3 := hb.at_ 3 (by omega)
            have e4 := hb.at_ 4 (by omega)
            have e5 := hb.at_ 5 (by omega)
            simp [results, Try.results18, go_sem, vagg, vcells, e0, e1, e2, e3, e4, e5]
        · have t2 : ((at_ : Int) != (N : Int)) = true := by simp; omega
          have HE := Lib.hid (decPost_none (show decV l = none from by rw [HD.out, if_neg (fun h => hat h.2.1)]))
          clear HD hat HFT HV
          have b0 := H0S.out.at_ 0 (by omega)
          have b1 := H0S.out.at_ 1 (by omega)
          have b2 := H0S.out.at_ 2 (by omega)
          have b3 := H0S.out.at_ 3 (by omega)
          have b4 := H0S.out.at_ 4 (by omega)
          have b5 := H0S.out.at_ 5 (by omega)
          have d0 := H0S.out.fz 0
          have d1 := H0S.out.fz 1
          have d2 := H0S.out.fz 2
          have d3 := H0S.out.fz 3
          have d4 := H0S.out.fz 4
          have d5 := H0S.out.fz 5
          go_wp2_with fail
          have hb := H0S.out.all6 (fun _ => 0)
          have hk := all6_keeps (g := q) HKW.out (.inl HGQ.out) (fun _ => 0)
          refine bodyPost_ret (v := .tuple #[vagg (fun _ => 0), .int .i64 1]) ?_ rfl ⟨by rw [HE.out], hk⟩
          generalize World.setCell (World.setCell (World.setCell (World.setCell (World.setCell (World.setCell ws _ _) _ _) _ _) _ _) _ _) _ _ = W6 at hb ⊢
          have e0 := hb.at_ 0 (by omega)
          have e1 := hb.at_ 1 (by omega)
          have e2 := hb.at_ 2 (by omega)
          have e3 := hb.at_ 3 (by omega)
          have e4 := hb.at_ 4 (by omega)
          have e5 := hb.at_ 5 (by omega)
          simp [results, Try.results18, go_sem, vagg, vcells, e0, e1, e2, e3, e4, e5]
      · have t2 : ((z : Int) != 0) = true := by simp; omega
        have HE := Lib.hid (decPost_none (show decV l = none from by rw [HD.out, if_neg (fun h => hz0 h.1)]))
        rw [if_neg hz0]
        clear HD hz0 HFT HV
        have b0 := H0S.out.at_ 0 (by omega)
        have b1 := H0S.out.at_ 1 (by omega)
        have b2 := H0S.out.at_ 2 (by omega)
        have b3 := H0S.out.at_ 3 (by omega)
        have b4 := H0S.out.at_ 4 (by omega)
        have b5 := H0S.out.at_ 5 (by omega)
        have d0 := H0S.out.fz 0
        have d1 := H0S.out.fz 1
        have d2 := H0S.out.fz 2
        have d3 := H0S.out.fz 3
        have d4 := H0S.out.fz 4
        have d5 := H0S.out.fz 5
        go_wp2_with fail
        have hb := H0S.out.all6 (fun _ => 0)
        have hk := all6_keeps (g := q) HKW.out (.inl HGQ.out) (fun _ => 0)
        refine bodyPost_ret (v := .tuple #[vagg (fun _ => 0), .int .i64 1]) ?_ rfl ⟨by rw [HE.out], hk⟩
        generalize World.setCell (World.setCell (World.setCell (World.setCell (World.setCell (World.setCell ws _ _) _ _) _ _) _ _) _ _) _ _ = W6 at hb ⊢
        have e0 := hb.at_ 0 (by omega)
        have e1 := hb.at_ 1 (by omega)
        have e2 := hb.at_ 2 (by omega)
        have e3 := hb.at_ 3 (by omega)
        have e4 := hb.at_ 4 (by omega)
        have e5 := hb.at_ 5 (by omega)
        simp [results, Try.results18, go_sem, vagg, vcells, e0, e1, e2, e3, e4, e5]

end Go.Proofs.Ytdgpdooikfamlaa
