/-
  MsgAny (layer 19), walked.
-/
import Derived.Test.YtfhhobinpmbgmaaDoorAllLaw
import Derived.Test.YtfhhobinpmbgmaaDoorShort
namespace Go.Proofs.YtfhhobinpmbgmaaDoor.msgAny
open Go Go.RowKit Go.Joins

/-- What the last region's operations leave. -/
def V8 (vD : Value) (L : List UInt8) : Nat → World → Value → Prop := fun i => match i with
  | 0 => IsV vD | 1 => IsV (.bool true) | 2 => IsV (.bool true) | 3 => IsV vD | 4 => TextV L | 5 => IsV (.string (txt L)) | 6 => TextV L | 7 => IsV (.string (txt L)) | _ => IsV (.bool true)
def G8 : Nat → Option Bool := fun i => if i == 2 then some true else none
theorem V8_keep (vD : Value) (L : List UInt8) : ∀ i w w' v, Kp w w' → V8 vD L i w v → V8 vD L i w' v := fun i w w' v h hv => by
  rcases i with _ | _ | _ | _ | _ | _ | _ | _ | i
  any_goals exact hv
  all_goals exact TextV.mono h hv

set_option maxRecDepth 100000 in
set_option maxHeartbeats 4000000 in
theorem walk (S : MsgOK) (w : World) (hT : S.T w) (A : Option Addr) (c : Nat) (l : List UInt8) (f3 : l.length ≤ c) (f4 : c ≤ maxLen) (hf5 : A = none → c = 0) (hB : Row w A (fun b => b < w.heap.size) (bcells l)) :
    Calls Tryd.prog 5 #[.slice A l.length c] w fun e w' => e = .returned (.bool true) ∧ Below w.heap.size w w' := by
  have HT := Lib.hid hT
  have HB := Lib.hid hB
  have HF := Lib.hid hf5
  have H4 := Lib.hid f4
  have HFIN := Lib.hid (show ∀ w', Kp w w' → Below w.heap.size w w' from fun w' h => h.below)
  clear hT hB hf5 f4
  go_enter Tryd.func5, Tryd.ntmps5
  go_wp2_with fail
  refine (show Calls _ _ _ _ _ from begun19 S w HT.out).mono ?_
  rintro e w1 ⟨rfl, hk1⟩
  have HK1 := Lib.hid hk1
  clear hk1
  go_wp2_with fail
  refine (short_at A l.length c 150 150 (min l.length 150) rfl rfl w1 f3 H4.out HF.out (by decide)).mono ?_
  rintro e w' ⟨rfl, rfl⟩
  obtain ⟨L, hL⟩ : ∃ L, l.take 150 = L := ⟨_, rfl⟩
  have HLL := Lib.hid (show min l.length 150 = L.length from by rw [← hL, List.length_take]; omega)
  have HR := Lib.hid (show Row w1 A (fun _ => True) (bcells L) from by
    rw [← hL]
    exact ((bcells_take HB.out 150).keep (HK1.out.mono fun _ _ _ => trivial)).mono fun _ _ _ => trivial)
  rw [HLL.out]
  have HLC := Lib.hid (show L.length ≤ c from by rw [← HLL.out]; omega)
  have HLM := Lib.hid (show L.length ≤ 1000000 from by rw [← HLL.out]; omega)
  clear hL HLL HB f3
  have HD := Lib.hid (S.decode w1 A c L (S.tk HT.out HK1.out) HR.out HLC.out H4.out HLM.out)
  go_wp2_with fail
  refine (show Calls _ _ _ _ _ from HD.out).mono ?_
  rintro e w2 ⟨h1, h0, hk⟩
  have HK2 := Lib.hid (HK1.out.trans hk)
  have HR2 := Lib.hid (HR.out.keep hk)
  clear hk HD HK1 HR
  cases hd : S.dec L with
  | none =>
    obtain ⟨m, a, rfl, hkind, -⟩ := h0 hd
    obtain ⟨vD, hvD⟩ : ∃ v, msV m a = v := ⟨_, rfl⟩
    have HVD := Lib.hid hvD
    have HKD := Lib.hid hkind
    rw [hvD]
    clear h1 h0 hd hvD hkind
    go_upto_region 6 with (first
      | (refine list_allocM rfl rfl ?_; intro w7 hb7 hk7 hs7)
      | (refine list_storeM rfl (.tmp 4) (.tmp 14) rfl _ _ m _ a hb7 rfl HVD.out.symm ?_; intro w8 hb8 hk8 hs8))
    have HK8 := Lib.hid (HK2.out.trans (kp_made hk7 hk8))
    obtain ⟨g2, hg2⟩ : ∃ g, w2.heap.size = g := ⟨_, rfl⟩
    rw [hg2] at hb8 ⊢
    have c0 := hb8.cell 0 (.int .i64 0) (by rw [← HKD.out]; rfl)
    clear hb7 hk7 hs7 hb8 hk8 hs8 hg2 HK2
    go_wp2_with fail
    go_ret
    exact ⟨rfl, HFIN.out _ HK8.out⟩
  | some m =>
    obtain ⟨a, rfl, hat⟩ := h1 m hd
    obtain ⟨hmay, henc⟩ := S.decMay _ _ hd
    have HFT := Lib.hid (may_fits hmay)
    obtain ⟨vD, hvD⟩ : ∃ v, msV m a = v := ⟨_, rfl⟩
    have HVD := Lib.hid hvD
    have HAT := Lib.hid hat
    have HEN := Lib.hid (fun w5 (h : Kp w2 w5) => S.encode w5 m a (S.tk HT.out (HK2.out.trans h)) (hat.keep h) HFT.out)
    have HMS := Lib.hid (fun w5 (h : Kp w2 w5) => rmsg w5 m a (hat.keep h) HFT.out)
    have HMY := Lib.hid hmay
    rw [hvD, henc] at HEN
    rw [hvD, hmay] at HMS
    rw [hvD]
    clear h1 h0 hd hvD hmay henc hat
    go_upto_region 6 with (first
      | (refine list_allocM rfl rfl ?_; intro w7 hb7 hk7 hs7)
      | (refine list_storeM rfl (.tmp 4) (.tmp 14) rfl _ _ m _ a hb7 rfl HVD.out.symm ?_; intro w8 hb8 hk8 hs8))
    have hkm := kp_made hk7 hk8
    have HKM := Lib.hid hkm
    have HK8 := Lib.hid (HK2.out.trans hkm)
    have HR8 := Lib.hid (HR2.out.keep hkm)
    obtain ⟨g2, hg2⟩ : ∃ g, w2.heap.size = g := ⟨_, rfl⟩
    rw [hg2] at hb8 ⊢
    have HB8 := Lib.hid hb8
    clear hb7 hk7 hs7 hb8 hk8 hs8 hg2 HK2 hkm
    go_wp2_with fail
    refine wp_region_guard (R := Kp) (V := V8 vD L) (w0 := w8) G8 (by kernel_rfl) (fun w => Keeps.refl _ w) (fun _ _ _ h k => h.trans k) (V8_keep vD L) (by kernel_rfl) (fun i b hb w v hv => ?_) (fun i o ho hw => (all_wanted (by kernel_rfl) ho hw).elim) ((Keeps.refl _ w8).drew) (each_of ?_) ?_
    · unfold G8 at hb
      split at hb
      · rename_i hi
        obtain rfl : i = 2 := by simpa using hi
        cases hb
        exact hv
      · cases hb
    · refine ⟨?_, ?_, ?_, ?_, ?_, ?_, ?_, ?_, ?_, ?_, ?_, trivial⟩ <;> intro hw a1 wx La
      · exact kp_loadM HVD.out (HB8.out.kp La.rel) rfl (La.old 4 (by kernel_rfl))
      · exact kp_c19 (cf_rmsg _ _) (HMS.out _ (HKM.out.trans La.rel)) rfl (La.val 0 25 (by kernel_rfl) (by kernel_rfl))
      · exact kp_move rfl (La.val 1 26 (by kernel_rfl) (by kernel_rfl))
      · exact kp_loadM HVD.out (HB8.out.kp La.rel) rfl (La.old 4 (by kernel_rfl))
      · exact kp_c19V (cf_menc _ _) (HEN.out _ (HKM.out.trans La.rel)) (enc_text HMY.out) rfl (La.val 3 28 (by kernel_rfl) (by kernel_rfl))
      · exact kp_string rfl Tryd.underlying33 Tryd.underlying5 Tryd.underlying9 (La.val 4 29 (by kernel_rfl) (by kernel_rfl))
      · exact kp_mv19 rfl ((La.old 0 (by kernel_rfl)) ▸ ⟨A, c, rfl, HR8.out.keep La.rel⟩)
      · exact kp_string rfl Tryd.underlying33 Tryd.underlying5 Tryd.underlying9 (La.val 6 31 (by kernel_rfl) (by kernel_rfl))
      · exact kp_eq19T (beq_self_eq_true _) rfl (La.val 5 30 (by kernel_rfl) (by kernel_rfl)) (La.val 7 32 (by kernel_rfl) (by kernel_rfl))
      · exact kp_pick rfl (La.val 2 27 (by kernel_rfl) (by kernel_rfl)) (La.val 8 33 (by kernel_rfl) (by kernel_rfl))
      · exact kp_assign rfl (La.val 9 34 (by kernel_rfl) (by kernel_rfl))
    · intro vs w9 hw9 hlen hv
      match vs, hlen with
      | [v0, v1, v2, v3, v4, v5, v6, v7, v8, v9, v10], _ =>
        have e10 : v10 = .bool true := hv 10 2 (by kernel_rfl)
        clear hv
        subst e10
        have HK9 := Lib.hid (HK8.out.trans hw9)
        clear hw9
        simp only [putAll, List.map, Act.put, List.setIfInBounds_toArray, List.set_cons_succ, List.set_cons_zero, Exit.then]
        go_wp2_with fail
        go_ret
        exact ⟨rfl, HFIN.out _ HK9.out⟩
end Go.Proofs.YtfhhobinpmbgmaaDoor.msgAny
