/-
  NetOwn (layer 20), walked.
-/
import Derived.Test.YtpijhpfcigjkeaaDoorNtSpoil
import Derived.OwnWalk
namespace Go.Proofs.YtpijhpfcigjkeaaDoor.netOwn
open Go Go.RowKit Go.Joins

theorem int_elem : Elem Tryd.prog 34 3 (.int .i64 0) 1 8 := ⟨Tryd.underlying34, by kernel_rfl, rfl, by decide⟩
theorem ints_src {w : World} {A : Option Addr} {F : Nat → Prop} {l : List Int} {c : Nat} (h : Row w A F (l.map (Value.int .i64))) : Src Tryd.prog 1 34 (.slice A l.length c) l.length (l.map (Value.int .i64)) w := by
  have := h.src (P := Tryd.prog) (c := c) Tryd.underlying34 (fun u hu => by obtain ⟨z, -, rfl⟩ := List.mem_map.1 hu; rfl)
  rwa [List.length_map] at this
theorem kp_sp {a b c : World} {G : Nat → Prop} (h : Kp a b) (k : Keeps (fun i => ¬ G i) b c) (hg : ∀ i, G i → a.heap.size ≤ i) : Kp a c :=
  ⟨k.os.trans h.os, k.tape.trans h.tape, k.output.trans h.output, Nat.le_trans h.size k.size, fun i _ hi =>
    (k.block i (fun hh => by have := hg i hh; omega) (Nat.lt_of_lt_of_le hi h.size)).trans (h.block i trivial hi)⟩

set_option maxRecDepth 100000 in
set_option maxHeartbeats 4000000 in
theorem walk (S : NetOK) (w : World) (hT : S.T w) (m : Ms) (a : MsA) (hm : MsAt w m a) (hc : m.Came) :
    Calls Tryd.prog 5 #[msV m a] w fun e w' => e = .returned (.bool true) ∧ Below w.heap.size w w' := by
  have HT := Lib.hid hT
  have HM := Lib.hid hm
  have HF := Lib.hid (cutM_fits hc)
  have HC := Lib.hid (fun w2 h => ms_cut w2 m a h hc)
  have HIL := Lib.hid (show (cutM m).items.length ≤ 6 from by show (cutL m.items 6).length ≤ 6; rw [cutL_len]; omega)
  have HML := Lib.hid (show (cutM m).marks.length ≤ 6 from by show (cutMk m.marks 6).length ≤ 6; rw [cutMk_len]; omega)
  have HBL := Lib.hid (show (cutM m).mem.length ≤ 7 from by show (m.mem.take 7).length ≤ 7; rw [List.length_take]; omega)
  obtain ⟨vM, hvM⟩ : ∃ v, msV m a = v := ⟨_, rfl⟩
  have HVM := Lib.hid hvM
  rw [hvM] at HC ⊢
  clear hT hm hc hvM
  go_enter Tryd.func5, Tryd.ntmps5
  go_upto_region 1 with (refine list_boxM rfl (.tmp 0) rfl m a HVM.out.symm ?_; intro w1 hb1 hk1 hs1)
  obtain ⟨g, hg⟩ : ∃ g, w.heap.size = g := ⟨_, rfl⟩
  have HG := Lib.hid hg
  have HB1 := Lib.hid hb1
  have HK := Lib.hid hk1
  have HFIN := Lib.hid (show ∀ w', Kp w w' → Below w.heap.size w w' from fun w' h => h.below)
  rw [hg] at HB1 ⊢
  clear hb1 hk1 hs1 hg
  go_wp2_with fail
  refine (show Calls _ _ _ _ _ from begun20 S _ (S.tk HT.out HK.out)).mono ?_
  rintro e w2 ⟨rfl, hk2⟩
  replace HB1 := Lib.hid (HB1.out.kp hk2)
  replace HK := Lib.hid (HK.out.trans hk2)
  clear hk2
  go_upto_region 4 with fail
  go_upto_region 5 with (first
    | (refine list_loadM rfl (.tmp 1) rfl g m a HB1.out rfl vM HVM.out ?_)
    | (go_at_call 10; ((with_reducible refine (HC.out _ (HM.out.keep HK.out)).mono ?_); rintro e w3 ⟨a2, rfl, hat, eba, eoa, hit, hmk, hk3⟩))
    | (refine list_storeM rfl (.tmp 1) (.tmp 14) rfl g m (cutM m) a a2 (HB1.out.kp hk3) rfl rfl ?_; intro w4 hb4 hk4 hs4))
  have HK4 := Lib.hid (kp_behind (HK.out.trans hk3) hk4 (Nat.le_of_eq HG.out))
  have HB4 := Lib.hid hb4
  have HAT := Lib.hid ((HM.out.keep HK4.out).over hat eba eoa hit hmk hk4 HB1.out.lt)
  clear hb4 hk4 hs4 hat eba eoa hit hmk hk3 HC HB1 HK HM
  generalize cutM m = p at HAT HB4 HF HIL HML HBL
  obtain ⟨vC, hvC⟩ : ∃ v, msV p a2 = v := ⟨_, rfl⟩
  have HVC := Lib.hid hvC
  rw [hvC]
  have HMS := Lib.hid (rmsg w4 p a2 HAT.out HF.out)
  rw [hvC] at HMS
  clear hvC
  go_wp2_with (refine list_loadM rfl (.tmp 1) rfl g p a2 HB4.out rfl vC HVC.out ?_)
  refine (show Calls _ _ _ _ _ from HMS.out).mono ?_
  rintro e w5 ⟨rfl, hk⟩
  have HK5 := Lib.hid (HK4.out.trans hk)
  have HB5 := Lib.hid (HB4.out.kp hk)
  have HA5 := Lib.hid (HAT.out.keep hk)
  clear hk HMS HK4 HB4 HAT
  cases hmay : mayM p with
  | false =>
    clear hmay
    go_wp2_with fail
    go_ret
    exact ⟨rfl, HFIN.out _ HK5.out⟩
  | true =>
  have HMAY := Lib.hid hmay
  clear hmay
  go_upto_region 8 with (first
    | (refine list_loadM rfl (.tmp 1) rfl g p a2 HB5.out rfl vC HVC.out ?_)
    | (refine list_allocM rfl rfl ?_; intro w6 hb6 hk6 hs6)
    | (refine list_storeM rfl (.tmp 4) (.tmp 18) rfl _ _ p _ a2 hb6 rfl HVC.out.symm ?_; intro w7 hb7 hk7 hs7))
  have hk57 := kp_made hk6 hk7
  obtain ⟨g2, hg2⟩ : ∃ g, w5.heap.size = g := ⟨_, rfl⟩
  have HGG := Lib.hid (show g < g2 from by rw [← hg2]; exact HB5.out.lt)
  rw [hg2] at hb7 ⊢
  have HK7 := Lib.hid (HK5.out.trans hk57)
  have HB7 := Lib.hid (HB5.out.kp hk57)
  have HN7 := Lib.hid hb7
  have HI7 := Lib.hid ((HA5.out.inn.mono (H := fun b => b < g2) fun b _ hb => by rw [← hg2]; exact hb).keep (hk57.mono fun _ _ _ => trivial))
  obtain ⟨n0, hn0⟩ : ∃ n, w7.heap.size = n := ⟨_, rfl⟩
  have HN0 := Lib.hid hn0
  have HG2 := Lib.hid (show g2 < n0 from by rw [← hn0]; exact hb7.lt)
  have HWG := Lib.hid (show w.heap.size ≤ g2 from by rw [← hg2]; exact HK5.out.size)
  clear hb6 hk6 hs6 hb7 hk7 hs7 hk57 hg2 hn0 HK5 HB5 HA5
  -- x's entries
  have b16 := HB7.out.cell 16 (.slice a2.ia p.items.length a2.ic) rfl
  have n16 := HN7.out.cell 16 (.slice a2.ia p.items.length a2.ic) rfl
  have z16 := HN7.out.fz 16
  have hbd := HIL.out
  have HS := Lib.hid (its_all (c := a2.ic) HI7.out.its)
  have hle : n0 ≤ w7.heap.size := Nat.le_of_eq HN0.out.symm
  go_wp2_with (at_builtin; refine item_elem.list_append rfl (.const (.slice none 0 0)) (.tmp 20) _ rfl rfl (World.ownsRow_nil _ n0 _ _) rfl HS.out ?c3 ?c4 ?c5 ?_)
  case c3 => unfold maxLen; omega
  case c4 => omega
  case c5 => exact hle
  intro v8 w8 ho hg hb
  have hk8 : Kp w7 w8 := Keeps.of_grown hg fun _ h => by cases h
  have HO8 := Lib.hid (show w8.ownsRow n0 31 4 v8 p.items.length (itCells p.items) from by simpa using ho)
  obtain ⟨A8, c8, rfl, hc8, hc8m, -⟩ := own_formL HO8.out
  have e16 := (HN7.out.kp hk8).cell 16 (.slice a2.ia p.items.length a2.ic) rfl
  have y16 := (HN7.out.kp hk8).fz 16
  have HC8 := Lib.hid (And.intro hc8 hc8m)
  have HK8 := Lib.hid hk8
  clear ho hg hb hk8 HS hc8 hc8m b16 n16 z16 hle
  have hk9 : Keeps (fun b => b ≠ g2) w8 (w8.setCell ⟨g2, 16, none⟩ (.slice A8 p.items.length c8)) := (Keeps.refl _ w8).setCell (p := ⟨g2, 16, none⟩) (.inr fun hh => hh rfl) _
  have HX9 := Lib.hid (show ∀ w9, w9 = w8.setCell ⟨g2, 16, none⟩ (.slice A8 p.items.length c8) → Keeps (fun b => b ≠ g2) w7 w9 ∧ MB w9 g2 p { a2 with ia := A8, ic := c8 } ∧ w9.ownsRow n0 31 4 (.slice A8 p.items.length c8) p.items.length (itCells p.items) from by
    rintro w9 rfl
    refine ⟨(HK8.out.mono fun _ _ _ => trivial : Keeps (fun b => b ≠ g2) w7 w8).trans hk9, (HN7.out.kp HK8.out).setItems p.items A8 c8, hk9.own HO8.out fun b hb e => ?_⟩
    have h1 := (HO8.out.lt b hb).1
    have h2 := HG2.out
    omega)
  clear hk9
  go_upto_region 9 with fail
  obtain ⟨h91, h92, h93⟩ := HX9.out _ rfl
  generalize World.setCell w8 _ _ = w9 at h91 h92 h93 ⊢
  have HK9 := Lib.hid h91
  have HN9 := Lib.hid h92
  have HO9 := Lib.hid h93
  have HB9 := Lib.hid (HB7.out.keep h91 (Nat.ne_of_lt HGG.out))
  have HI9 := Lib.hid (HI7.out.keep (h91.mono fun b _ (hb : b < g2) => Nat.ne_of_lt hb))
  have hs9 := h91.size
  clear h91 h92 h93 HX9 HB7 HN7 HI7 HO8 HC8 HK8 e16 y16
  -- x's marks
  have b17 := HB9.out.cell 17 (.slice a2.ma p.marks.length a2.mc) rfl
  have n17 := HN9.out.cell 17 (.slice a2.ma p.marks.length a2.mc) rfl
  have z17 := HN9.out.fz 17
  have hbm := HML.out
  have HS := Lib.hid (mks_all (c := a2.mc) HI9.out.mks)
  have hle : n0 ≤ w9.heap.size := by rw [← HN0.out]; exact hs9
  go_wp2_with (at_builtin; refine mark_elem.list_append rfl (.const (.slice none 0 0)) (.tmp 24) _ rfl rfl (World.ownsRow_nil _ n0 _ _) rfl HS.out ?c3 ?c4 ?c5 ?_)
  case c3 => unfold maxLen; omega
  case c4 => omega
  case c5 => exact hle
  intro v10 w10 ho hg hb
  have hk10 : Kp w9 w10 := Keeps.of_grown hg fun _ h => by cases h
  have HO10 := Lib.hid (show w10.ownsRow n0 57 2 v10 p.marks.length (mkCells p.marks) from by simpa using ho)
  obtain ⟨A10, c10, rfl, hc10, hc10m, -⟩ := own_formL HO10.out
  have e17 := (HN9.out.kp hk10).cell 17 (.slice a2.ma p.marks.length a2.mc) rfl
  have y17 := (HN9.out.kp hk10).fz 17
  have HK10 := Lib.hid hk10
  clear ho hg hb hk10 HS hc10 hc10m b17 n17 z17 hle
  have hk11 : Keeps (fun b => b ≠ g2) w10 (w10.setCell ⟨g2, 17, none⟩ (.slice A10 p.marks.length c10)) := (Keeps.refl _ w10).setCell (p := ⟨g2, 17, none⟩) (.inr fun hh => hh rfl) _
  have HX11 := Lib.hid (show ∀ w11, w11 = w10.setCell ⟨g2, 17, none⟩ (.slice A10 p.marks.length c10) → Keeps (fun b => b ≠ g2) w9 w11 ∧ MB w11 g2 p { a2 with ia := A8, ic := c8, ma := A10, mc := c10 } ∧ w11.ownsRow n0 57 2 (.slice A10 p.marks.length c10) p.marks.length (mkCells p.marks) from by
    rintro w11 rfl
    refine ⟨(HK10.out.mono fun _ _ _ => trivial : Keeps (fun b => b ≠ g2) w9 w10).trans hk11, (HN9.out.kp HK10.out).setMarks p.marks A10 c10, hk11.own HO10.out fun b hb e => ?_⟩
    have h1 := (HO10.out.lt b hb).1
    have h2 := HG2.out
    omega)
  clear hk11
  go_upto_region 10 with fail
  obtain ⟨h91, h92, h93⟩ := HX11.out _ rfl
  generalize World.setCell w10 _ _ = w11 at h91 h92 h93 ⊢
  have HK11 := Lib.hid (HK9.out.trans h91)
  have HN11 := Lib.hid h92
  have HQ11 := Lib.hid h93
  have HO11 := Lib.hid (h91.own HO9.out fun b hb e => by
    have h1 := (HO9.out.lt b hb).1
    have h2 := HG2.out
    omega)
  have HB11 := Lib.hid (HB9.out.keep h91 (Nat.ne_of_lt HGG.out))
  have HI11 := Lib.hid (HI9.out.keep (h91.mono fun b _ (hb : b < g2) => Nat.ne_of_lt hb))
  have hs11 := Nat.le_trans hs9 h91.size
  clear h91 h92 h93 HX11 HB9 HN9 HI9 HO9 HO10 HK10 HK9 e17 y17 hs9
  -- x's members
  have b18 := HB11.out.cell 18 (.slice a2.ba p.mem.length a2.bc) rfl
  have n18 := HN11.out.cell 18 (.slice a2.ba p.mem.length a2.bc) rfl
  have z18 := HN11.out.fz 18
  have hbb := HBL.out
  have HS := Lib.hid (ints_src (c := a2.bc) HI11.out.mem)
  have hle : n0 ≤ w11.heap.size := by rw [← HN0.out]; exact hs11
  go_wp2_with (at_builtin; refine int_elem.list_append rfl (.const (.slice none 0 0)) (.tmp 28) _ rfl rfl (World.ownsRow_nil _ n0 _ _) rfl HS.out ?c3 ?c4 ?c5 ?_)
  case c3 => unfold maxLen; omega
  case c4 => omega
  case c5 => exact hle
  intro v12 w12 ho hg hb
  have hk12 : Kp w11 w12 := Keeps.of_grown hg fun _ h => by cases h
  have HO12 := Lib.hid (show w12.ownsRow n0 3 1 v12 p.mem.length (p.mem.map (Value.int .i64)) from by simpa using ho)
  obtain ⟨A12, c12, rfl, hc12, hc12m, -⟩ := own_formL HO12.out
  have e18 := (HN11.out.kp hk12).cell 18 (.slice a2.ba p.mem.length a2.bc) rfl
  have y18 := (HN11.out.kp hk12).fz 18
  have HK12 := Lib.hid hk12
  clear ho hg hb hk12 HS hc12 hc12m b18 n18 z18 hle
  have hk13 : Keeps (fun b => b ≠ g2) w12 (w12.setCell ⟨g2, 18, none⟩ (.slice A12 p.mem.length c12)) := (Keeps.refl _ w12).setCell (p := ⟨g2, 18, none⟩) (.inr fun hh => hh rfl) _
  have HX13 := Lib.hid (show ∀ w13, w13 = w12.setCell ⟨g2, 18, none⟩ (.slice A12 p.mem.length c12) → Keeps (fun b => b ≠ g2) w11 w13 ∧ MB w13 g2 p { a2 with ia := A8, ic := c8, ma := A10, mc := c10, ba := A12, bc := c12 } ∧ w13.ownsRow n0 3 1 (.slice A12 p.mem.length c12) p.mem.length (p.mem.map (Value.int .i64)) from by
    rintro w13 rfl
    refine ⟨(HK12.out.mono fun _ _ _ => trivial : Keeps (fun b => b ≠ g2) w11 w12).trans hk13, (HN11.out.kp HK12.out).setMem p.mem A12 c12, hk13.own HO12.out fun b hb e => ?_⟩
    have h1 := (HO12.out.lt b hb).1
    have h2 := HG2.out
    omega)
  clear hk13
  go_upto_region 11 with fail
  obtain ⟨h91, h92, h93⟩ := HX13.out _ rfl
  generalize World.setCell w12 _ _ = w13 at h91 h92 h93 ⊢
  have hk713 := HK11.out.trans h91
  have h13i := h91.own HO11.out fun b hb e => by
    have h1 := (HO11.out.lt b hb).1
    have h2 := HG2.out
    omega
  have h13m := h91.own HQ11.out fun b hb e => by
    have h1 := (HQ11.out.lt b hb).1
    have h2 := HG2.out
    omega
  have HK13 := Lib.hid (kp_behind HK7.out hk713 HWG.out)
  have HB13 := Lib.hid (HB11.out.keep h91 (Nat.ne_of_lt HGG.out))
  have hi13 := HI11.out.keep (h91.mono fun b _ (hb : b < g2) => Nat.ne_of_lt hb)
  have HI13 := Lib.hid hi13
  have HN13 := Lib.hid h92
  obtain ⟨a3, ha3⟩ : ∃ a3 : MsA, { a2 with ia := A8, ic := c8, ma := A10, mc := c10, ba := A12, bc := c12 } = a3 := ⟨_, rfl⟩
  have hn13 : n0 ≤ w13.heap.size := by rw [← HN0.out]; exact hk713.size
  have o8 := own_formL h13i
  have o10 := own_formL h13m
  have o12 := own_formL h93
  have b1 : p.items.length ≤ c8 ∧ c8 ≤ maxLen := by obtain ⟨_, _, e, h1, h2, -⟩ := o8; injection e with _ _ e; rw [e]; exact ⟨h1, h2⟩
  have b2 : p.marks.length ≤ c10 ∧ c10 ≤ maxLen := by obtain ⟨_, _, e, h1, h2, -⟩ := o10; injection e with _ _ e; rw [e]; exact ⟨h1, h2⟩
  have b3 : p.mem.length ≤ c12 ∧ c12 ≤ maxLen := by obtain ⟨_, _, e, h1, h2, -⟩ := o12; injection e with _ _ e; rw [e]; exact ⟨h1, h2⟩
  have b4 : A12 = none → c12 = 0 := fun h => by
    subst h
    rcases h93.2 with ⟨h', _⟩ | ⟨_, _, _, h', _⟩
    · injection h'
    · injection h' with h'; cases h'
  have i1 := ItsAt.of_own h13i rfl
  have i2 := MksAt.of_own h13m rfl
  have i3 : Row w13 A12 (fun b => n0 ≤ b ∧ b < w13.heap.size) (p.mem.map (Value.int .i64)) := Row.of_own (by rw [List.length_map]; exact h93)
  have HL13 := Lib.hid (show ItsAt w13 a3.ia (fun b => n0 ≤ b ∧ b < w13.heap.size) p.items ∧ MksAt w13 a3.ma (fun b => n0 ≤ b ∧ b < w13.heap.size) p.marks ∧ Row w13 a3.ba (fun b => n0 ≤ b ∧ b < w13.heap.size) (p.mem.map (Value.int .i64)) from by
    rw [← ha3]; exact ⟨i1, i2, i3⟩)
  have HU13 := Lib.hid (show MsFree w13 p a3 from by
    rw [← ha3]; exact ⟨Unfr.own h13i, Unfr.own h13m, Unfr.own h93⟩)
  have HP13 := Lib.hid (show MsAt w13 p a3 from by
    rw [← ha3]
    exact ⟨i1.mono fun _ _ _ => trivial, b1, i2.mono fun _ _ _ => trivial, b2, i3.mono fun _ _ _ => trivial, ⟨b3.1, b3.2, b4⟩, hi13.old.mono fun _ _ _ => trivial, hi13.ol⟩)
  have HC13 := Lib.hid (show (p.items.length ≤ 1000 ∧ p.items.length ≤ a3.ic) ∧ (p.marks.length ≤ 1000 ∧ p.marks.length ≤ a3.mc) ∧ (p.mem.length ≤ 1000 ∧ p.mem.length ≤ a3.bc) from by
    rw [← ha3]
    exact ⟨⟨by omega, b1.1⟩, ⟨by omega, b2.1⟩, ⟨by omega, b3.1⟩⟩)
  rw [ha3] at HN13
  have HG13 := Lib.hid (show g2 < w13.heap.size from Nat.lt_of_lt_of_le HG2.out hn13)
  have HNS := Lib.hid hn13
  clear h91 h92 h93 HX13 HB11 HN11 HI11 HO11 HQ11 HO12 HK12 HK11 e18 y18 hs11 hk713 h13i h13m hi13 ha3 hn13 o8 o10 o12 b1 b2 b3 b4 i1 i2 i3 hbd hbm hbb
  -- the net
  go_wp2_with fail
  refine (show Calls _ _ _ _ _ from S.new w w13 HT.out HK13.out).mono ?_
  rintro e w14 ⟨q, F, rfl, hA14, hF14, hk14⟩
  have HA14 := Lib.hid hA14
  have HF14 := Lib.hid hF14
  have HK14 := Lib.hid hk14
  obtain ⟨vX, hvX⟩ : ∃ v, msV p a3 = v := ⟨_, rfl⟩
  have HVX := Lib.hid hvX
  have HN14 := Lib.hid (HN13.out.kp hk14)
  clear hA14 hF14 hk14 hvX
  go_wp2_with (first
    | (refine list_loadM rfl (.tmp 4) rfl g2 p a3 HN14.out rfl vX HVX.out ?_)
    | (refine list_slice1 rfl (.tmp 33) rfl p a3 HVX.out.symm ?_; intro w15 hb15 hk15 hs15))
  have hA15 := S.atK HA14.out hk15
  have hlt15 := (S.atIn HA14.out).2
  have HSD := Lib.hid (S.send w w15 q F [] (some ⟨w14.heap.size, 0, none⟩) 1 1 (fun b => ¬ F b) [(p, a3)] HT.out hA15 rfl ⟨hb15.row.mono fun b _ (e : b = w14.heap.size) hf => by have := (hlt15 b hf).2; omega, fun x hx => by
      rw [List.mem_singleton.1 hx]
      exact ((HP13.out.inn.mono (H := fun b => ¬ F b) fun b _ hb hf => by have := HF14.out b hf; omega).keep (HK14.out.mono fun _ _ _ => trivial)).keep (hk15.mono fun _ _ _ => trivial)⟩ (fun b hb => hb) (by decide) (by decide) (by decide) (fun x hx => by
      rw [List.mem_singleton.1 hx]; exact HF.out))
  rw [show [(p, a3)].map (·.1) = [p] from rfl, sent_one HMAY.out (by decide)] at HSD
  have HK15 := Lib.hid (HK14.out.trans hk15)
  have HN15 := Lib.hid (HN14.out.kp hk15)
  have HA15 := Lib.hid hA15
  clear hA15 hlt15 hb15 hk15 hs15 HN14 HN13 HA14
  refine (show Calls _ _ _ _ _ from HSD.out).mono ?_
  rintro e w16 ⟨rfl, F16, hA16, hF16, hk16⟩
  have HA16 := Lib.hid (show S.At w w16 q F16 [p] from hA16)
  have HF16 := Lib.hid (show ∀ b, F16 b → w13.heap.size ≤ b from fun b hb => by
    rcases hF16 b hb with h | h
    · exact HF14.out b h
    · exact Nat.le_trans HK15.out.size h)
  have HK16 := Lib.hid (show Keeps (fun b => b < w13.heap.size) w13 w16 from (HK15.out.mono fun _ _ _ => trivial : Keeps (fun b => b < w13.heap.size) w13 w15).trans (hk16.mono fun b _ (hb : b < w13.heap.size) hf => by have := HF14.out b hf; omega))
  have HW16 := Lib.hid (S.past HA15.out hk16)
  have HN16 := Lib.hid (HN15.out.keep hk16 fun hf => by have h1 := HF14.out g2 hf; have h2 := HG13.out; omega)
  clear hA16 hF16 hk16 HSD HK15 HN15 HA15 HK14
  have HSP := Lib.hid (spoil_any w16 p a3 (fun b => n0 ≤ b ∧ b < w13.heap.size) (fun b hb => Nat.lt_of_lt_of_le hb.2 HK16.out.size) (HL13.out.1.keep (HK16.out.mono fun b _ hb => hb.2)) (HL13.out.2.1.keep (HK16.out.mono fun b _ hb => hb.2)) (HL13.out.2.2.keep (HK16.out.mono fun b _ hb => hb.2))
    (HU13.out.keep (HP13.out.inn.mono (H := fun b => b < w13.heap.size) fun _ _ h => h) HK16.out)
    HC13.out.1 HC13.out.2.1 HC13.out.2.2)
  rw [HVX.out] at HSP
  have HI16 := Lib.hid (show MsIn w16 p a2 (fun b => b < g2) from HI13.out.keep (HK16.out.mono fun b _ (hb : b < g2) => Nat.lt_trans hb HG13.out))
  have HB16 := Lib.hid (HB13.out.keep HK16.out (Nat.lt_trans HGG.out HG13.out))
  clear HI13 HB13
  go_wp2_with (refine list_loadM rfl (.tmp 4) rfl g2 p a3 HN16.out rfl vX HVX.out ?_)
  refine (show Calls _ _ _ _ _ from HSP.out).mono ?_
  rintro e w17 ⟨rfl, hk17⟩
  have HW17 := Lib.hid (kp_sp HW16.out hk17 fun b hb => by
    have h1 := HWG.out
    have h2 := HG2.out
    have h3 := hb.1
    omega)
  have HA17 := Lib.hid (S.atKeep HA16.out (hk17.mono fun b _ hf hb => by have := HF16.out b hf; omega) HW17.out)
  have HI17 := Lib.hid (HI16.out.keep (hk17.mono fun b _ (hb : b < g2) hh => by have := HG2.out; omega))
  have HB17 := Lib.hid (HB16.out.keep hk17 fun hh => by have h1 := HG2.out; have h2 := HGG.out; omega)
  have HS17 := Lib.hid (show w13.heap.size ≤ w17.heap.size from Nat.le_trans HK16.out.size hk17.size)
  clear hk17 HSP HI16 HB16 HN16 HA16 HW16 HK16 HL13 HU13 HP13 HC13
  -- what is there
  have HLK := Lib.hid (S.look w w17 q F16 [p] 0 (show 0 < [p].length from Nat.zero_lt_one) HT.out HA17.out)
  go_wp2_with fail
  refine (show Calls _ _ _ _ _ from HLK.out).mono ?_
  rintro e w18 ⟨⟨a18, rfl, hm18, hf18⟩, hk18⟩
  rw [show ([p][0]'(show 0 < [p].length from Nat.zero_lt_one)) = p from rfl] at hm18 ⊢
  obtain ⟨vY, hvY⟩ : ∃ v, msV p a18 = v := ⟨_, rfl⟩
  have HVY := Lib.hid hvY
  rw [hvY]
  have HM18 := Lib.hid hm18
  have HU18 := Lib.hid hf18
  have HK18 := Lib.hid hk18
  clear hm18 hf18 hk18 hvY HLK
  go_upto_region 15 with (first
    | (refine list_allocM rfl rfl ?_; intro w19 hb19 hk19 hs19)
    | (refine list_storeM rfl (.tmp 6) (.tmp 41) rfl _ _ p _ a18 hb19 rfl HVY.out.symm ?_; intro w20 hb20 hk20 hs20))
  have hk1820 := kp_made hk19 hk20
  obtain ⟨g6, hg6⟩ : ∃ g, w18.heap.size = g := ⟨_, rfl⟩
  rw [hg6] at hb20 ⊢
  have HG6 := Lib.hid hg6
  have HY20 := Lib.hid hb20
  have HK20 := Lib.hid (HK18.out.trans hk1820)
  have HB20 := Lib.hid (HB17.out.kp HK20.out)
  have HI20 := Lib.hid (HI17.out.keep (HK20.out.mono fun _ _ _ => trivial))
  have HM20 := Lib.hid (HM18.out.keep (hk1820.mono fun _ _ _ => trivial))
  have HU20 := Lib.hid (HU18.out.keep HM18.out (hk1820.mono fun _ _ _ => trivial))
  have HA20 := Lib.hid (S.atK HA17.out HK20.out)
  have HF20 := Lib.hid (show ∀ b, F16 b → b < w17.heap.size from fun b hb => ((S.atIn HA17.out).2 b hb).2)
  have HW20 := Lib.hid (HW17.out.trans HK20.out)
  have HZ20 := Lib.hid (show w18.heap.size ≤ w20.heap.size from hk1820.size)
  have HRE := Lib.hid (reqMsg w20 p p a18 a2 HM20.out.at_ HI20.out.at_ HF.out HF.out true (decide_eq_true rfl))
  rw [HVY.out, HVC.out] at HRE
  clear hb19 hk19 hs19 hb20 hk20 hs20 hk1820 hg6 HB17 HI17 HA17 HW17 HU18 HK18
  go_wp2_with (first
    | (refine list_loadM rfl (.tmp 6) rfl g6 p a18 HY20.out rfl vY HVY.out ?_)
    | (refine list_loadM rfl (.tmp 1) rfl g p a2 HB20.out rfl vC HVC.out ?_))
  refine (show Calls _ _ _ _ _ from HRE.out).mono ?_
  rintro e w21 ⟨rfl, hk21⟩
  have HY21 := Lib.hid (HY20.out.kp hk21)
  have HB21 := Lib.hid (HB20.out.kp hk21)
  have HI21 := Lib.hid (HI20.out.keep (hk21.mono fun _ _ _ => trivial))
  have HM21 := Lib.hid (HM20.out.keep (hk21.mono fun _ _ _ => trivial))
  have HU21 := Lib.hid (HU20.out.keep HM20.out (hk21.mono fun _ _ _ => trivial))
  have HA21 := Lib.hid (S.atK HA20.out hk21)
  have HW21 := Lib.hid (HW20.out.trans hk21)
  have HZ21 := Lib.hid (Nat.le_trans HZ20.out hk21.size)
  have hil := HIL.out
  have hml := HML.out
  have hbl := HBL.out
  have HSP := Lib.hid (spoil_any w21 p a18 (fun b => w17.heap.size ≤ b ∧ b < w18.heap.size) (fun b hb => Nat.lt_of_lt_of_le hb.2 HZ21.out) HM21.out.its HM21.out.mks HM21.out.mem HU21.out ⟨by omega, HM21.out.il.1⟩ ⟨by omega, HM21.out.ml.1⟩ ⟨by omega, HM21.out.bl.1⟩)
  rw [HVY.out] at HSP
  clear hk21 HRE HY20 HB20 HI20 HM20 HU20 HA20 HW20 hil hml hbl
  go_wp2_with (refine list_loadM rfl (.tmp 6) rfl g6 p a18 HY21.out rfl vY HVY.out ?_)
  refine (show Calls _ _ _ _ _ from HSP.out).mono ?_
  rintro e w22 ⟨rfl, hk22⟩
  have HW22 := Lib.hid (kp_sp HW21.out hk22 fun b hb => by
    have h1 := HWG.out
    have h2 := HG13.out
    have h3 := HS17.out
    have h4 := hb.1
    omega)
  have HA22 := Lib.hid (S.atKeep HA21.out (hk22.mono fun b _ hf hb => by have := HF20.out b hf; have := hb.1; omega) HW22.out)
  have HI22 := Lib.hid (HI21.out.keep (hk22.mono fun b _ (hb : b < g2) hh => by have h1 := HG13.out; have h2 := HS17.out; have h3 := hh.1; omega))
  have HB22 := Lib.hid (HB21.out.keep hk22 fun hh => by have h1 := HG13.out; have h2 := HS17.out; have h3 := hh.1; have h4 := HGG.out; omega)
  have HTK := Lib.hid (S.take w w22 q F16 [p] 0 (show 0 < [p].length from Nat.zero_lt_one) HT.out HA22.out)
  clear hk22 HSP HY21 HB21 HI21 HM21 HU21 HA21 HW21
  go_wp2_with fail
  refine (show Calls _ _ _ _ _ from HTK.out).mono ?_
  rintro e w23 ⟨⟨a23, F23, rfl, -, -, hm23⟩, hk23⟩
  rw [show ([p][0]'(show 0 < [p].length from Nat.zero_lt_one)) = p from rfl] at hm23 ⊢
  obtain ⟨vZ, hvZ⟩ : ∃ v, msV p a23 = v := ⟨_, rfl⟩
  have HVZ := Lib.hid hvZ
  rw [hvZ]
  have HM23 := Lib.hid hm23
  have HW23 := Lib.hid (S.past HA22.out hk23)
  have HI23 := Lib.hid (HI22.out.keep (hk23.mono fun b _ (hb : b < g2) hf => by have h1 := HF16.out b hf; have h2 := HG13.out; omega))
  have HB23 := Lib.hid (HB22.out.keep hk23 fun hf => by have h1 := HF16.out g hf; have h2 := HG13.out; have h3 := HGG.out; omega)
  clear hm23 hk23 hvZ HTK HI22 HB22 HA22 HW22
  go_upto_region 19 with (first
    | (refine list_allocM rfl rfl ?_; intro w24 hb24 hk24 hs24)
    | (refine list_storeM rfl (.tmp 8) (.tmp 52) rfl _ _ p _ a23 hb24 rfl HVZ.out.symm ?_; intro w25 hb25 hk25 hs25))
  have hk2325 := kp_made hk24 hk25
  obtain ⟨g8, hg8⟩ : ∃ g, w23.heap.size = g := ⟨_, rfl⟩
  rw [hg8] at hb25 ⊢
  have HZ25 := Lib.hid hb25
  have HB25 := Lib.hid (HB23.out.kp hk2325)
  have HW25 := Lib.hid (HW23.out.trans hk2325)
  have HRE := Lib.hid (reqMsg w25 p p a23 a2 (HM23.out.keep (hk2325.mono fun _ _ _ => trivial)).at_ (HI23.out.keep (hk2325.mono fun _ _ _ => trivial)).at_ HF.out HF.out true (decide_eq_true rfl))
  rw [HVZ.out, HVC.out] at HRE
  clear hb24 hk24 hs24 hb25 hk25 hs25 hk2325 hg8 HB23 HI23 HM23 HW23
  go_wp2_with (first
    | (refine list_loadM rfl (.tmp 8) rfl g8 p a23 HZ25.out rfl vZ HVZ.out ?_)
    | (refine list_loadM rfl (.tmp 1) rfl g p a2 HB25.out rfl vC HVC.out ?_))
  refine (show Calls _ _ _ _ _ from HRE.out).mono ?_
  rintro e w26 ⟨rfl, hk26⟩
  have HW26 := Lib.hid (HW25.out.trans hk26)
  clear hk26 HRE
  go_wp2_with fail
  go_ret
  exact ⟨rfl, HFIN.out _ HW26.out⟩

end Go.Proofs.YtpijhpfcigjkeaaDoor.netOwn
