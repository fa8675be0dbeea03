/-
  'begun' OF LAYER 11 ANSWERS true, however the program's vectors reckon.
-/
import Derived.Test.YtdgpdooikfamlaaVcSame
namespace Go.Proofs.Ytdgpdooikfamlaa
open Go Go.RowKit Go.Joins

theorem new_ints (w : World) (l : List Int) (C : Array Value) (hC : C.toList = l.map (Value.int .i64)) : Row (w.alloc (.cells C 2)) (some ⟨w.heap.size, 0, none⟩) (fun _ => True) (l.map (Value.int .i64)) :=
  Row.fresh w C 2 (0, 0) _ rfl trivial _ hC
theorem VBlk.new (w : World) (t : TypeId) (f : Nat → Int) (g : Nat) (hg : g = w.heap.size) : VBlk (w.alloc (.cells (vcells f) t)) g t f := by subst hg; exact heap_alloc_new w _
/-- A block's six cells. -/
def Six (w : World) (g : Nat) (f : Nat → Int) : Prop := w.cell? ⟨g, 0, none⟩ = some (.int .i64 (f 0)) ∧ w.cell? ⟨g, 1, none⟩ = some (.int .i64 (f 1)) ∧ w.cell? ⟨g, 2, none⟩ = some (.int .i64 (f 2)) ∧ w.cell? ⟨g, 3, none⟩ = some (.int .i64 (f 3)) ∧ w.cell? ⟨g, 4, none⟩ = some (.int .i64 (f 4)) ∧ w.cell? ⟨g, 5, none⟩ = some (.int .i64 (f 5))
theorem VBlk.six {w w' : World} {g : Nat} {t : TypeId} {f : Nat → Int} (h : VBlk w g t f) (hk : Kp w w') : Six w' g f := by
  have h2 := h.keep hk trivial
  exact ⟨h2.at_ 0 (by decide), h2.at_ 1 (by decide), h2.at_ 2 (by decide), h2.at_ 3 (by decide), h2.at_ 4 (by decide), h2.at_ 5 (by decide)⟩
theorem VNew.one (w : World) (f : Nat → Int) : VRow (w.alloc (.cells (vcells f) 26)) (some ⟨w.heap.size, 0, none⟩) (fun _ => True) [f] := Row.fresh w (vcells f) 26 (0, 0) _ rfl trivial _ (by simp [vrow])
def fA : Nat → Int := ofF [1, 5] 2
def fB : Nat → Int := ofF [2, 3, 4] 3
set_option maxRecDepth 100000 in
set_option maxHeartbeats 1000000 in
theorem begun11 (S : VectorOK) (w : World) (hT : S.T w) : Calls Try.prog 8 #[] w fun e w' => e = .returned (.bool true) ∧ Kp w w' := by
  have HT := Lib.hid hT
  clear hT
  have HOF1 := Lib.hid (show ∀ w1 : World, Kp w w1 → Calls Try.prog 10 #[.slice (some ⟨w1.heap.size, 0, none⟩) 2 2] (w1.alloc (.cells #[.int .i64 1, .int .i64 5] 2)) fun e w' => e = .returned (vagg fA) ∧ Kp (w1.alloc (.cells #[.int .i64 1, .int .i64 5] 2)) w' from fun w1 hk => S.of _ _ 2 [1, 5] (S.tk HT.out (hk.alloc _)) (new_ints w1 [1, 5] _ rfl) (by decide) (by decide))
  have HOF2 := Lib.hid (show ∀ w1 : World, Kp w w1 → Calls Try.prog 10 #[.slice (some ⟨w1.heap.size, 0, none⟩) 3 3] (w1.alloc (.cells #[.int .i64 2, .int .i64 3, .int .i64 4] 2)) fun e w' => e = .returned (vagg fB) ∧ Kp (w1.alloc (.cells #[.int .i64 2, .int .i64 3, .int .i64 4] 2)) w' from fun w1 hk => S.of _ _ 3 [2, 3, 4] (S.tk HT.out (hk.alloc _)) (new_ints w1 [2, 3, 4] _ rfl) (by decide) (by decide))
  unfold vagg vcells at HOF1 HOF2
  go_enter Try.func8, Try.ntmps8
  go_wp2_with fail
  refine (show Calls _ _ _ _ _ from HOF1.out w (Keeps.refl _ _)).mono ?_
  rintro e w1 ⟨rfl, hk1⟩
  have HK1 := Lib.hid (show Kp w w1 from ((Keeps.refl _ w).alloc _).trans hk1)
  clear hk1
  go_wp2_with fail
  refine (show Calls _ _ _ _ _ from HOF2.out w1 HK1.out).mono ?_
  rintro e w2 ⟨rfl, hk2⟩
  have HK2 := Lib.hid (show Kp w w2 from (HK1.out.alloc _).trans hk2)
  clear hk2 HK1
  go_wp2_with fail
  obtain ⟨pa, hpa⟩ : ∃ pa, w2.heap.size = pa := ⟨_, rfl⟩
  have HV := Lib.hid (show ∀ w3, w3 = ((w2.alloc (.cells (vcells fA) 26)).alloc (.cells (vcells fB) 26)) → VBlk w3 pa 26 fA ∧ VBlk w3 (pa + 1) 26 fB ∧ Kp w w3 ∧ w3.heap.size = pa + 1 + 1 from by
    rintro w3 rfl
    refine ⟨(VBlk.new w2 _ fA pa hpa.symm).keep (G := fun _ => True) ((Keeps.refl _ _).alloc _) trivial, VBlk.new _ _ fB (pa + 1) (by simp [hpa]), (HK2.out.alloc _).alloc _, by simp [hpa]⟩)
  unfold vcells at HV
  obtain ⟨h1, h2, h3, h4⟩ := HV.out _ rfl
  rw [hpa]
  generalize (w2.alloc (.cells #[.int .i64 (fA 0), .int .i64 (fA 1), .int .i64 (fA 2), .int .i64 (fA 3), .int .i64 (fA 4), .int .i64 (fA 5)] 26)).alloc (.cells #[.int .i64 (fB 0), .int .i64 (fB 1), .int .i64 (fB 2), .int .i64 (fB 3), .int .i64 (fB 4), .int .i64 (fB 5)] 26) = w3 at h1 h2 h3 h4 ⊢
  have HA := Lib.hid (show ∀ w', Kp w3 w' → Six w' pa fA from fun w' hk => h1.six hk)
  have HB := Lib.hid (show ∀ w', Kp w3 w' → Six w' (pa + 1) fB from fun w' hk => h2.six hk)
  have HK3 := Lib.hid h3
  have HZ3 := Lib.hid h4
  clear h1 h2 h3 h4 HV hpa HK2 HOF1 HOF2
  have okA : VOk fA := VOk.of (by intro x hx; simp at hx; omega) 2
  have okB : VOk fB := VOk.of (by intro x hx; simp at hx; omega) 3
  have hAB : ∀ g ∈ [fB], VOk g := fun g hg => by rw [List.mem_singleton.1 hg]; exact okB
  obtain ⟨fX, hX⟩ : ∃ fX, maxF fA [fB] = fX := ⟨_, rfl⟩
  have okX : VOk fX := by rw [← hX]; exact okA.max1 okB
  have HMX := Lib.hid (show ∀ w', Kp w3 w' → Calls Try.prog 12 #[vagg fA, .slice (some ⟨w'.heap.size, 0, none⟩) 1 1] (w'.alloc (.cells (vcells fB) 26)) fun e w2 => e = .returned (vagg fX) ∧ Kp (w'.alloc (.cells (vcells fB) 26)) w2 from fun w' hk => by
    rw [← hX]
    exact S.max_ _ fA _ 1 [fB] (S.tk HT.out ((HK3.out.trans hk).alloc _)) okA hAB (VNew.one w' fB) (by decide) (by decide))
  have HMN := Lib.hid (show ∀ w', Kp w3 w' → Calls Try.prog 13 #[vagg fA, .slice (some ⟨w'.heap.size, 0, none⟩) 1 1] (w'.alloc (.cells (vcells fB) 26)) fun e w2 => e = .returned (vagg (minF fA [fB])) ∧ Kp (w'.alloc (.cells (vcells fB) 26)) w2 from fun w' hk =>
    S.min_ _ fA _ 1 [fB] (S.tk HT.out ((HK3.out.trans hk).alloc _)) okA hAB (VNew.one w' fB) (by decide) (by decide))
  have HGT := Lib.hid (show ∀ (f : Nat → Int) (z m : Int), VOk f → getF f z = m → ∀ w', Kp w3 w' → Calls Try.prog 21 #[vagg f, .int .i64 z] w' fun e w2 => e = .returned (.int .i64 m) ∧ Kp w' w2 from fun f z m hf hm w' hk => by
    rw [← hm]
    exact S.get w' f z (S.tk HT.out (HK3.out.trans hk)) hf)
  have HHS := Lib.hid (show ∀ (f g : Nat → Int) (b : Bool), VOk f → VOk g → hasB f g = b → ∀ w', Kp w3 w' → Calls Try.prog 15 #[vagg f, vagg g] w' fun e w2 => e = .returned (.bool b) ∧ Kp w' w2 from fun f g b hf hg hb w' hk => by
    rw [← hb]
    exact S.has w' f g (S.tk HT.out (HK3.out.trans hk)) hf hg)
  have hsX : smallB fX = true := by rw [← hX]; decide
  have HEN := Lib.hid (show ∀ w', Kp w3 w' → Calls Try.prog 17 #[vagg fX] w' fun e w2 => ∃ A n c, e = .returned (.slice A n c) ∧ Kp w' w2 ∧ (Calls Try.prog 18 #[.slice A n c] w2 fun e w4 => e = .returned (.tuple #[vagg fX, .int .i64 0]) ∧ Kp w2 w4) from fun w' hk => by
    refine (S.encode w' fX (S.tk HT.out (HK3.out.trans hk)) okX hsX).mono ?_
    rintro e w2 ⟨A, c, rfl, h1, h2, h3, h4⟩
    exact ⟨A, _, c, rfl, h4, S.decode w2 fX A c (S.tk HT.out ((HK3.out.trans hk).trans h4)) okX hsX (h3.mono fun _ _ _ => trivial) h1 h2⟩)
  have G1 := Lib.hid (HGT.out fA 2 5 okA (by decide))
  have G2 := Lib.hid (HGT.out fA 3 0 okA (by decide))
  have G3 := Lib.hid (HGT.out fX 1 2 okX (by rw [← hX]; decide))
  have G4 := Lib.hid (HGT.out fX 2 5 okX (by rw [← hX]; decide))
  have G5 := Lib.hid (HGT.out (minF fA [fB]) 2 3 (okA.min1 okB) (by decide))
  have G6 := Lib.hid (HGT.out fX 3 4 okX (by rw [← hX]; decide))
  have S1 := Lib.hid (HHS.out fX fA true okX okA (by rw [← hX]; decide))
  have S2 := Lib.hid (HHS.out fA fB false okA okB (by decide))
  clear HGT HHS okA okB hAB okX hsX hX
  generalize minF fA [fB] = fN at HMN G5
  generalize fA = fa at HA HMX HMN G1 G2 S1 S2 ⊢
  generalize fB = fb at HA HB HMX HMN S2 ⊢
  unfold vagg vcells at HMX HMN HEN G1 G2 G3 G4 G5 G6 S1 S2
  have hm := HMX.out w3 (Keeps.refl _ _)
  rw [HZ3.out] at hm
  have HM := Lib.hid hm
  clear hm HMX
  refine (show Calls _ _ _ _ _ from HM.out).mono ?_
  rintro e w4 ⟨rfl, hk4⟩
  have HK4 := Lib.hid (show Kp w3 w4 from ((Keeps.refl _ w3).alloc _).trans hk4)
  clear hk4 HM
  obtain ⟨px, hpx⟩ : ∃ px, w4.heap.size = px := ⟨_, rfl⟩
  have HX5 := Lib.hid (show ∀ w5, w5 = w4.alloc (.cells (vcells fX) 26) → VBlk w5 px 26 fX ∧ Kp w3 w5 from by
    rintro w5 rfl
    exact ⟨VBlk.new w4 _ fX px hpx.symm, HK4.out.alloc _⟩)
  unfold vcells at HX5
  go_wp2_with fail
  obtain ⟨h1, h2⟩ := HX5.out _ rfl
  try rw [hpx]
  generalize w4.alloc (.cells #[.int .i64 (fX 0), .int .i64 (fX 1), .int .i64 (fX 2), .int .i64 (fX 3), .int .i64 (fX 4), .int .i64 (fX 5)] 26) = w5 at h1 h2 ⊢
  have HX := Lib.hid (show ∀ w', Kp w5 w' → Six w' px fX from fun w' hk => h1.six hk)
  have HK5 := Lib.hid h2
  clear h1 h2 hpx HX5 HK4
  refine (show Calls _ _ _ _ _ from HEN.out w5 HK5.out).mono ?_
  rintro e w6 ⟨A, n, c, rfl, hk6, hdec⟩
  have HK6 := Lib.hid hk6
  have HD := Lib.hid hdec
  clear hk6 hdec HEN
  go_wp2_with fail
  refine (show Calls _ _ _ _ _ from HD.out).mono ?_
  rintro e w7 ⟨rfl, hk7⟩
  have HK7 := Lib.hid (HK6.out.trans hk7)
  clear hk7 HD HK6
  obtain ⟨py, hpy⟩ : ∃ py, w7.heap.size = py := ⟨_, rfl⟩
  have HY8 := Lib.hid (show ∀ w8, w8 = w7.alloc (.cells (vcells fX) 26) → VBlk w8 py 26 fX ∧ Kp w5 w8 from by
    rintro w8 rfl
    exact ⟨VBlk.new w7 _ fX py hpy.symm, HK7.out.alloc _⟩)
  unfold vcells at HY8
  obtain ⟨a0, a1, a2, a3, a4, a5⟩ := HA.out w7 (HK5.out.trans HK7.out)
  have hlt : pa < py := by have := (HK5.out.trans HK7.out).size; have := HZ3.out; omega
  go_wp2_with fail
  obtain ⟨h1, h2⟩ := HY8.out _ rfl
  try rw [hpy]
  generalize w7.alloc (.cells #[.int .i64 (fX 0), .int .i64 (fX 1), .int .i64 (fX 2), .int .i64 (fX 3), .int .i64 (fX 4), .int .i64 (fX 5)] 26) = w8 at h1 h2 ⊢
  have HY := Lib.hid (show ∀ w', Kp w8 w' → Six w' py fX from fun w' hk => h1.six hk)
  have HK8 := Lib.hid h2
  clear h1 h2 hpy HY8 HK7 a0 a1 a2 a3 a4 a5 hlt
  have HK38 := Lib.hid (HK5.out.trans HK8.out)
  have HK0 := Lib.hid HK38.out
  have HK58 := Lib.hid HK8.out
  refine (show Calls _ _ _ _ _ from G1.out w8 HK38.out).mono ?_
  rintro e w9 ⟨rfl, hk⟩
  have K39 := Lib.hid (HK38.out.trans hk)
  have K59 := Lib.hid (HK8.out.trans hk)
  have K89 := Lib.hid (hk)
  clear hk
  obtain ⟨a0, a1, a2, a3, a4, a5⟩ := HA.out w9 K39.out
  go_wp2_with fail
  refine (show Calls _ _ _ _ _ from G2.out w9 K39.out).mono ?_
  rintro e w10 ⟨rfl, hk⟩
  have K310 := Lib.hid (K39.out.trans hk)
  have K510 := Lib.hid (K59.out.trans hk)
  have K810 := Lib.hid (K89.out.trans hk)
  clear hk a0 a1 a2 a3 a4 a5
  obtain ⟨x0, x1, x2, x3, x4, x5⟩ := HX.out w10 K510.out
  go_wp2_with fail
  refine (show Calls _ _ _ _ _ from G3.out w10 K310.out).mono ?_
  rintro e w11 ⟨rfl, hk⟩
  have K311 := Lib.hid (K310.out.trans hk)
  have K511 := Lib.hid (K510.out.trans hk)
  have K811 := Lib.hid (K810.out.trans hk)
  clear hk x0 x1 x2 x3 x4 x5
  obtain ⟨x0, x1, x2, x3, x4, x5⟩ := HX.out w11 K511.out
  go_wp2_with fail
  refine (show Calls _ _ _ _ _ from G4.out w11 K311.out).mono ?_
  rintro e w12 ⟨rfl, hk⟩
  have K312 := Lib.hid (K311.out.trans hk)
  have K512 := Lib.hid (K511.out.trans hk)
  have K812 := Lib.hid (K811.out.trans hk)
  clear hk x0 x1 x2 x3 x4 x5
  obtain ⟨a0, a1, a2, a3, a4, a5⟩ := HA.out w12 K312.out
  obtain ⟨b0, b1, b2, b3, b4, b5⟩ := HB.out w12 K312.out
  go_wp2_with fail
  refine (show Calls _ _ _ _ _ from HMN.out w12 K312.out).mono ?_
  rintro e w13 ⟨rfl, hk⟩
  replace hk := ((Keeps.refl (fun _ => True) w12).alloc _).trans hk
  have K313 := Lib.hid (K312.out.trans hk)
  have K513 := Lib.hid (K512.out.trans hk)
  have K813 := Lib.hid (K812.out.trans hk)
  clear hk a0 a1 a2 a3 a4 a5 b0 b1 b2 b3 b4 b5
  go_wp2_with fail
  refine (show Calls _ _ _ _ _ from G5.out w13 K313.out).mono ?_
  rintro e w14 ⟨rfl, hk⟩
  have K314 := Lib.hid (K313.out.trans hk)
  have K514 := Lib.hid (K513.out.trans hk)
  have K814 := Lib.hid (K813.out.trans hk)
  clear hk
  obtain ⟨x0, x1, x2, x3, x4, x5⟩ := HX.out w14 K514.out
  obtain ⟨a0, a1, a2, a3, a4, a5⟩ := HA.out w14 K314.out
  go_wp2_with fail
  refine (show Calls _ _ _ _ _ from S1.out w14 K314.out).mono ?_
  rintro e w15 ⟨rfl, hk⟩
  have K315 := Lib.hid (K314.out.trans hk)
  have K515 := Lib.hid (K514.out.trans hk)
  have K815 := Lib.hid (K814.out.trans hk)
  clear hk x0 x1 x2 x3 x4 x5 a0 a1 a2 a3 a4 a5
  obtain ⟨a0, a1, a2, a3, a4, a5⟩ := HA.out w15 K315.out
  obtain ⟨b0, b1, b2, b3, b4, b5⟩ := HB.out w15 K315.out
  go_wp2_with fail
  refine (show Calls _ _ _ _ _ from S2.out w15 K315.out).mono ?_
  rintro e w16 ⟨rfl, hk⟩
  have K316 := Lib.hid (K315.out.trans hk)
  have K516 := Lib.hid (K515.out.trans hk)
  have K816 := Lib.hid (K815.out.trans hk)
  clear hk a0 a1 a2 a3 a4 a5 b0 b1 b2 b3 b4 b5
  obtain ⟨y0, y1, y2, y3, y4, y5⟩ := HY.out w16 K816.out
  go_wp2_with fail
  refine (show Calls _ _ _ _ _ from G6.out w16 K316.out).mono ?_
  rintro e w17 ⟨rfl, hk⟩
  have K317 := Lib.hid (K316.out.trans hk)
  have K517 := Lib.hid (K516.out.trans hk)
  have K817 := Lib.hid (K816.out.trans hk)
  clear hk y0 y1 y2 y3 y4 y5
  go_wp2_with fail
  go_ret
  exact ⟨rfl, HK3.out.trans K317.out⟩

end Go.Proofs.Ytdgpdooikfamlaa
