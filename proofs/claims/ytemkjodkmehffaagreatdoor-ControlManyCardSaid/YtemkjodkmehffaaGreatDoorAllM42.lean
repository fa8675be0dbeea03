/-
  CtNote: texts of mine, joined.
-/
import Derived.Test.YtemkjodkmehffaaGreatDoorAllM41
import Derived.Test.YtemkjodkmehffaaGreatDoorAllM21
import Derived.Test.YtemkjodkmehffaaGreatDoorAllM36
namespace Go.Proofs.YtemkjodkmehffaaGreatDoor
open Go Go.RowKit Go.Joins
section
variable {o : Oper} {a : Act} {w : World} {Q : Exit → Act → World → Prop} {x y : Operand}
theorem k23_f4 {b : Nat} (ho : o.op = .fieldAddr 41 x 3) (hx : a.eval x = .pointer (some ⟨b, 0, none⟩)) : o.wp Tryz.prog a w (fun a' w' => ∃ v, a' = a.put o.dst v ∧ Kp w w' ∧ IsV (.pointer (some ⟨b, 4, none⟩)) w' v) Q := by
 refine kp_yield (v := .pointer (some ⟨b, 4, none⟩)) (w' := w) ?_ (Keeps.refl _ _) rfl
 generalize a.eval = ρ at hx ⊢
 unfold execOp
 rw [ho]
 go_simp
theorem k23_ldG {p : Addr} {g : Option Nat} (hc : w.cell? p = some (pOf g)) (ho : o.op = .load 38 x) (hx : a.eval x = .pointer (some p)) : o.wp Tryz.prog a w (fun a' w' => ∃ v, a' = a.put o.dst v ∧ Kp w w' ∧ IsV (pOf g) w' v) Q := by
 obtain ⟨pv, hpv⟩ : ∃ pv, pOf g = pv := ⟨_, rfl⟩
 have h1 : pv.oneCell' = true := by rw [← hpv]; rfl
 rw [hpv] at hc ⊢
 refine kp_yield (v := pv) (w' := w) ?_ (Keeps.refl _ _) rfl
 generalize a.eval = ρ at hx ⊢
 unfold execOp
 rw [ho]
 go_simp
theorem k23_hears {_u pv vM : Value} {hb : Bool} (hc : Calls Tryz.prog 69 #[pv, vM] w fun e w' => e = .returned (.bool hb) ∧ Kp w w') (ho : o.op = .call { callee := .value (.func 69), args := #[x, y], argTypes := #[38, 50] }) (hx : a.eval x = pv) (hy : a.eval y = vM) : o.wp Tryz.prog a w (fun a' w' => ∃ v, a' = a.put o.dst v ∧ Kp w w' ∧ IsV (.bool hb) w' v) Q := by
 have hg : a.eval (.func 69) = .func (.func 69) #[] #[] := rfl
 refine kp_enter (f := 69) (args := #[pv, vM]) ?_ hc (fun e w' h => ⟨_, h.1, h.2, rfl⟩)
 clear hc
 generalize a.eval = ρ at hx hy hg ⊢
 unfold execOp
 rw [ho]
 go_simp
end
def DoneP (w1 : World) (kk : Nat) (R : Nat → Prop) (y : ChS) (w : World) : Prop := ChAt w kk (fun b => R b ∨ (w1.heap.size ≤ b ∧ b < w.heap.size)) y ∧ Keeps (fun b => b ≠ kk) w1 w
theorem DoneP.keep {w1 w w' : World} {kk : Nat} {R : Nat → Prop} {y : ChS} (h : DoneP w1 kk R y w) (hk : Kp w w') : DoneP w1 kk R y w' :=
 ⟨(h.1.keep hk fun _ _ => trivial).mono fun _b hb => hb.imp id fun hb => ⟨hb.1, Nat.lt_of_lt_of_le hb.2 hk.size⟩, h.2.trans (hk.mono fun _ _ _ => trivial)⟩
def MN (w1 : World) (gg c q r kk : Nat) (ck : Option Nat) (t : Int) (f0 : Nat → Int) (R : Nat → Prop) (m : Ms) (a : MsA) (y : ChS) (f : Nat → Bool) (w : World) : Prop :=
 MB w gg m a ∧ CtBlk w c q r ck (some kk) t f0 ∧ cond (f 14) (DoneP w1 kk R y w) (Kp w1 w)
theorem MN.keep {w1 : World} {gg c q r kk : Nat} {ck : Option Nat} {t : Int} {f0 : Nat → Int} {R : Nat → Prop} {m : Ms} {a : MsA} {y : ChS} {f : Nat → Bool} {w w' : World} (h : MN w1 gg c q r kk ck t f0 R m a y f w) (hk : Kp w w') : MN w1 gg c q r kk ck t f0 R m a y f w' := by
 obtain ⟨h1, h2, h3⟩ := h
 refine ⟨h1.kp hk, h2.keep hk trivial, ?_⟩
 cases hf : f 14 with
 | true => rw [hf] at h3; exact DoneP.keep h3 hk
 | false => rw [hf] at h3; exact Keeps.trans h3 hk
def MN0 (w1 : World) (gg c q r : Nat) (ck g : Option Nat) (t : Int) (f0 : Nat → Int) (m : Ms) (a : MsA) (_ : Nat → Bool) (w : World) : Prop :=
 MB w gg m a ∧ CtBlk w c q r ck g t f0 ∧ Kp w1 w
def GN (b : Bool) (g : Nat) : Option Bool := if g = 7 then some b else none
def vals0 (c _gg : Nat) (pv vM : Value) : List Value := [.pointer (some ⟨c, 0, none⟩), .pointer (some ⟨c, 0, none⟩), .pointer (some ⟨c, 4, none⟩), pv, vM, .bool false, .bool true, .bool true, undef, undef, undef, undef, undef, undef, undef, undef, .bool true]
def vals1 (c gg : Nat) (pv vM : Value) (frm : Int) (d : Bool) : List Value := [.pointer (some ⟨c, 0, none⟩), .pointer (some ⟨c, 0, none⟩), .pointer (some ⟨c, 4, none⟩), pv, vM, .bool true, .bool false, .bool false, .pointer (some ⟨c, 0, none⟩), .pointer (some ⟨c, 0, none⟩), .pointer (some ⟨c, 4, none⟩), pv, .pointer (some ⟨gg, 1, none⟩), .int .i64 frm, .bool d, .bool (!d), .bool (!d)]
section
variable {W w w' : World} {p c : Nat} {ck : Option Nat} {F : Nat → Prop} {n : Int} {k : Nat} {S : CtS}
set_option maxRecDepth 100000 in
set_option maxHeartbeats 4000000 in
theorem note_no (h : CtAt W w p c ck F n k S) (m : Ms) (a : MsA) (hh : hearsB S.und m = false) :
  Calls Tryz.prog 37 #[.pointer (some ⟨c, 0, none⟩), msV m a] w fun e w' => e = .returned (.slice none 0 0) ∧ Kp w w' := by
 obtain ⟨vM, hvM⟩ : ∃ v, msV m a = v := ⟨_, rfl⟩
 have HVM := Lib.hid hvM
 obtain ⟨q, Fd, Fs, g, R, s, st, hin, -⟩ := h
 obtain ⟨r, hb, -⟩ := hin.bd.ex
 have HB := Lib.hid hb
 have HHR := Lib.hid (fun w1 (hk : Kp w w1) => (hin.bd.kp hk).und.hears m a)
 rw [hh, hvM] at HHR
 rw [hvM]
 clear hin hb hh hvM
 go_enter Tryz.func37, Tryz.ntmps37
 go_upto_region 1 with (refine list_boxM rfl (.tmp 1) rfl m a HVM.out.symm ?_; intro w1 hb1 hk1 hs1)
 obtain ⟨gg, hg⟩ : ∃ gg, w.heap.size = gg := ⟨_, rfl⟩
 rw [hg] at hb1 hs1 ⊢
 have HM := Lib.hid hb1
 have HK := Lib.hid hk1
 have HB1 := Lib.hid (HB.out.keep hk1 trivial)
 clear hb1 hk1 hs1 hg HB
 refine wp_region_mem (w0 := w1) (vals0 c gg (pOf g) vM) [] (MN0 w1 gg c q r ck g S.top S.over m a) (GN true) (by kernel_rfl) (by kernel_rfl) (fun f f' w _ h => h) (fun f w w' hk h => ⟨h.1.kp hk, h.2.1.keep hk trivial, h.2.2.trans hk⟩) (by kernel_rfl) (by kernel_rfl) (fun g c h => ?_) (each_of ?_) ⟨HM.out.kp (Keeps.refl _ w1).drew, HB1.out.keep (Keeps.refl (fun _ => True) w1).drew trivial, (Keeps.refl _ w1).drew⟩ (each_of ?_) ?_
 ·unfold GN at h
  split at h
  ·rename_i e; subst e; cases h; rfl
  ·cases h
 ·refine ⟨?_, ?_, ?_, ?_, ?_, ?_, ?_, ?_, ?_, ?_, ?_, ?_, ?_, ?_, ?_, ?_, ?_, trivial⟩ <;> intro hw <;> first | exact nomatch (show true = false from hw) | exact ⟨rfl, rfl⟩
 ·refine ⟨?_, ?_, ?_, ?_, ?_, ?_, ?_, ?_, ?_, ?_, ?_, ?_, ?_, ?_, ?_, ?_, ?_, trivial⟩ <;> intro hw a1 w5 L f hM _ _ _ <;> rw [if_neg (by decide)]
  ·exact kp_move rfl (L.old 0 (by kernel_rfl))
  ·exact k23_nil rfl (L.val 0 5 (by kernel_rfl) (by kernel_rfl))
  ·exact k23_f4 rfl (L.val 1 6 (by kernel_rfl) (by kernel_rfl))
  ·exact k23_ldG hM.2.1.c4 rfl (L.val 2 7 (by kernel_rfl) (by kernel_rfl))
  ·exact kp_loadM HVM.out hM.1 rfl (L.old 3 (by kernel_rfl))
  ·exact k23_hears (_u := undef) (HHR.out w5 (HK.out.trans hM.2.2)) rfl (L.val 3 8 (by kernel_rfl) (by kernel_rfl)) (L.val 4 9 (by kernel_rfl) (by kernel_rfl))
  ·exact kp_not19 (b := false) rfl (L.val 5 10 (by kernel_rfl) (by kernel_rfl))
  ·exact kp_move rfl (L.val 6 11 (by kernel_rfl) (by kernel_rfl))
  ·exact nomatch (show false = true from hw)
  ·exact nomatch (show false = true from hw)
  ·exact nomatch (show false = true from hw)
  ·exact nomatch (show false = true from hw)
  ·exact nomatch (show false = true from hw)
  ·exact nomatch (show false = true from hw)
  ·exact nomatch (show false = true from hw)
  ·exact nomatch (show false = true from hw)
  ·exact kp_pick rfl (L.val 7 12 (by kernel_rfl) (by kernel_rfl)) rfl
 ·intro w6 hM6
  have HK6 := Lib.hid (HK.out.trans hM6.2.2)
  clear hM6 HHR HM HB1 HK
  unfold vals0
  simp only [putAll, List.map, Act.put, List.setIfInBounds_toArray, List.set_cons_succ, List.set_cons_zero, Exit.then]
  go_wp2_with fail
  go_ret
  exact ⟨rfl, HK6.out⟩
set_option maxRecDepth 100000 in
set_option maxHeartbeats 4000000 in
theorem note_yes (hT : theSup.T W) (h : CtAt W w p c ck F n k S) (m : Ms) (a : MsA) (x : ChS) (hu : S.und = some x) (hh : hearsB (some x) m = true) (hk : k + 1 ≤ 1000000) :
  Calls Tryz.prog 37 #[.pointer (some ⟨c, 0, none⟩), msV m a] w fun e w' => ∃ v, e = .returned v ∧ OutP W w p c ck F n (k + 1) (noteC S n m).2 (noteC S n m).1 v w' := by
 obtain ⟨vM, hvM⟩ : ∃ v, msV m a = v := ⟨_, rfl⟩
 have HVM := Lib.hid hvM
 have HH := Lib.hid h
 obtain ⟨q, Fd, Fs, g, R, s, st, hin, hF, hFr⟩ := h
 have hok := hin.bd.ok.und x hu
 have hdok := done_ok (m := m) hin.bd.ok hu hh
 obtain ⟨r, hb, hrg⟩ := hin.bd.ex
 have hu' := hin.bd.und
 rw [hu] at hu'
 obtain ⟨kk, rfl, hch⟩ := hu'
 have hkk := hin.bd.gR kk rfl
 have hkl := hin.lt kk (.inr (.inr (.inr (.inr (.inl rfl)))))
 have HB := Lib.hid hb
 have HHR := Lib.hid (fun w1 (hk : Kp w w1) => (hin.bd.kp hk).und.hears m a)
 rw [hu, hh, hvM] at HHR
 have HDN := Lib.hid (fun w1 (hk1 : Kp w w1) => done_any w1 kk R x m.frm (hch.keep hk1 fun _ _ => trivial) hkk.1 hok.ll hok.nl hok.p0 hok.p2)
 have HIN := Lib.hid hin
 have HF := Lib.hid hF
 have HRG := Lib.hid hrg
 have HDOK := Lib.hid hdok
 have HKK := Lib.hid hkk
 have HKL := Lib.hid hkl
 obtain ⟨d, hd⟩ : ∃ d, (x.done m.frm).2 = d := ⟨_, rfl⟩
 obtain ⟨y, hy⟩ : ∃ y, (x.done m.frm).1 = y := ⟨_, rfl⟩
 have HE := Lib.hid (show noteC S n m = if d then beatC ⟨S.epoch, S.mem, S.top, some y, S.over⟩ n else ([], ⟨S.epoch, S.mem, S.top, some y, S.over⟩) from by
  unfold noteC
  rw [hu]
  simp only [hh, if_true, hd, hy])
 rw [hd, hy] at HDN
 rw [hy] at HDOK
 have HBT := Lib.hid (fun (w4 : World) (F4 : Nat → Prop) (h4 : CtAt W w4 p c ck F4 n k ⟨S.epoch, S.mem, S.top, some y, S.over⟩) => beat_any hT h4 hk)
 have HHK := Lib.hid hk
 rw [hvM]
 clear hin hb hh hvM hF hFr hok hdok hrg hch hkk hkl hd hy hu hT hk
 go_enter Tryz.func37, Tryz.ntmps37
 go_upto_region 1 with (refine list_boxM rfl (.tmp 1) rfl m a HVM.out.symm ?_; intro w1 hb1 hk1 hs1)
 obtain ⟨gg, hg⟩ : ∃ gg, w.heap.size = gg := ⟨_, rfl⟩
 rw [hg] at hb1 hs1 ⊢
 have HM := Lib.hid hb1
 have HK := Lib.hid hk1
 have HG := Lib.hid hg
 have HB1 := Lib.hid (HB.out.keep hk1 trivial)
 clear hb1 hk1 hs1 hg HB
 refine wp_region_mem (w0 := w1) (vals1 c gg (pOf (some kk)) vM m.frm d) [14] (MN w1 gg c q r kk ck S.top S.over R m a y) (GN false) (by kernel_rfl) (by kernel_rfl) (fun f f' w he hM => ⟨hM.1, hM.2.1, by rw [← he 14 (by decide)]; exact hM.2.2⟩) (fun f w w' hk hM => hM.keep hk) (by kernel_rfl) (by kernel_rfl) (fun g c hg => ?_) (fun i o ho hw => (all_wanted (by kernel_rfl) ho hw).elim) ⟨HM.out.kp (Keeps.refl _ w1).drew, HB1.out.keep (Keeps.refl (fun _ => True) w1).drew trivial, (Keeps.refl _ w1).drew⟩ (each_of ?_) ?_
 ·unfold GN at hg
  split at hg
  ·rename_i e; subst e; cases hg; rfl
  ·cases hg
 ·refine ⟨?_, ?_, ?_, ?_, ?_, ?_, ?_, ?_, ?_, ?_, ?_, ?_, ?_, ?_, ?_, ?_, ?_, trivial⟩ <;> intro hw a1 w5 L f hM hfi hup hdn
  ·rw [if_neg (by decide)]; exact kp_move rfl (L.old 0 (by kernel_rfl))
  ·rw [if_neg (by decide)]; exact k23_nil rfl (L.val 0 5 (by kernel_rfl) (by kernel_rfl))
  ·rw [if_neg (by decide)]; exact k23_f4 rfl (L.val 1 6 (by kernel_rfl) (by kernel_rfl))
  ·rw [if_neg (by decide)]; exact k23_ldG hM.2.1.c4 rfl (L.val 2 7 (by kernel_rfl) (by kernel_rfl))
  ·rw [if_neg (by decide)]; exact kp_loadM HVM.out hM.1 rfl (L.old 3 (by kernel_rfl))
  ·rw [if_neg (by decide)]
   have h14 : f 14 = false := hdn 14 [7, 6] (by kernel_rfl)
   have h3 := hM.2.2
   rw [h14] at h3
   exact k23_hears (_u := undef) (HHR.out w5 (HK.out.trans h3)) rfl (L.val 3 8 (by kernel_rfl) (by kernel_rfl)) (L.val 4 9 (by kernel_rfl) (by kernel_rfl))
  ·rw [if_neg (by decide)]; exact kp_not19 (b := true) rfl (L.val 5 10 (by kernel_rfl) (by kernel_rfl))
  ·rw [if_neg (by decide)]; exact kp_move rfl (L.val 6 11 (by kernel_rfl) (by kernel_rfl))
  ·rw [if_neg (by decide)]; exact kp_move rfl (L.old 0 (by kernel_rfl))
  ·rw [if_neg (by decide)]; exact k23_nil rfl (L.val 8 13 (by kernel_rfl) (by kernel_rfl))
  ·rw [if_neg (by decide)]; exact k23_f4 rfl (L.val 9 14 (by kernel_rfl) (by kernel_rfl))
  ·rw [if_neg (by decide)]; exact k23_ldG hM.2.1.c4 rfl (L.val 10 15 (by kernel_rfl) (by kernel_rfl))
  ·rw [if_neg (by decide)]; exact kp_f19_1 rfl (L.old 3 (by kernel_rfl))
  ·rw [if_neg (by decide)]; exact kp_ld19I (hM.1.cell 1 _ rfl) rfl (L.val 12 17 (by kernel_rfl) (by kernel_rfl))
  ·rw [if_pos (by decide)]
   have h3 := hM.2.2
   rw [hfi] at h3
   have h3' : Kp w1 w5 := h3
   have hf : a1.eval (.func 70) = .func (.func 70) #[] #[] := rfl
   have e0 : a1.eval (.tmp 16) = .pointer (some ⟨kk, 0, none⟩) := L.val 11 16 (by kernel_rfl) (by kernel_rfl)
   have e1 : a1.eval (.tmp 18) = .int .i64 m.frm := L.val 13 18 (by kernel_rfl) (by kernel_rfl)
   have hDN := HDN.out w5 (HK.out.trans h3')
   have hh1 := hM.1
   have hh2 := hM.2.1
   refine one_enter (f := 70) (args := #[.pointer (some ⟨kk, 0, none⟩), .int .i64 m.frm]) ?_ hDN ?_
   ·clear hDN hh1 hh2 hM h3 h3' hup hdn hfi
    generalize a1.eval = ρ at e0 e1 hf ⊢
    unfold execOp
    go_simp
   ·rintro e w6 ⟨rfl, hc6, hk6⟩
    have hgk : gg ≠ kk := by have := HG.out; have := HKL.out; omega
    have hck : c ≠ kk := fun e => HKK.out.2 e.symm
    refine ⟨_, rfl, ⟨hh1.keep hk6 hgk, hh2.keep hk6 hck, ?_⟩, rfl⟩
    show DoneP w1 kk R y w6
    exact ⟨hc6.mono fun b hb => hb.imp id fun hb => ⟨Nat.le_trans h3'.size hb.1, hb.2⟩, (h3'.mono fun _ _ _ => trivial).trans hk6⟩
  ·rw [if_neg (by decide)]; exact kp_not19 (b := d) rfl (L.val 14 19 (by kernel_rfl) (by kernel_rfl))
  ·rw [if_neg (by decide)]; exact kp_pick rfl (L.val 7 12 (by kernel_rfl) (by kernel_rfl)) (L.val 15 20 (by kernel_rfl) (by kernel_rfl))
 ·intro w6 hM6
  have hdp : DoneP w1 kk R y w6 := hM6.2.2
  have HAT := Lib.hid (show ∃ F6, CtAt W w6 p c ck F6 n k ⟨S.epoch, S.mem, S.top, some y, S.over⟩ ∧ (∀ b, F6 b → F b ∨ w.heap.size ≤ b) ∧ Keeps (fun b => ¬ F b) w w6 from by
   have hin := HIN.out
   have hs1 := HK.out.size
   have hs6 := hdp.2.size
   have hk16 : Keeps (fun b => b ≠ kk) w w6 := (HK.out.mono fun _ _ _ => trivial).trans hdp.2
   have hbd : CtB w6 c q ck (some kk) (fun b => R b ∨ (w1.heap.size ≤ b ∧ b < w6.heap.size)) ⟨S.epoch, S.mem, S.top, some y, S.over⟩ := by
    refine ⟨HDOK.out, ⟨r, hM6.2.1, (HRG.out.keep (hk16.mono fun b _ hb e => HKK.out.1 (e ▸ hb))).mono fun b hb => .inl hb⟩, ⟨kk, rfl, hdp.1⟩, fun b hb => ?_, fun hc => ?_, fun z hz => ?_⟩
    ·rcases hb with hb | hb
     ·have := hin.bd.lt b hb; have := hk16.size; omega
     ·exact hb.2
    ·rcases hc with hc | hc
     ·exact hin.bd.cR hc
     ·have := hin.bd.flt c (.inl rfl); omega
    ·cases hz
     refine ⟨fun hc => ?_, HKK.out.2⟩
     rcases hc with hc | hc
     ·exact HKK.out.1 hc
     ·have := HKL.out; omega
   have hi := hin.own (hk16.mono fun b _ hb e => hb (.inr (.inl (by rw [e])))) hbd (fun b hb => by
    rcases hb with hb | hb | hb | hb
    ·exact .inl (.inl hb)
    ·exact .inl (.inr (.inl hb))
    ·exact .inl (.inr (.inr hb))
    ·exact .inr (by omega)) hin.txt
   refine ⟨_, hi.at_, fun b hb => ?_, hk16.mono fun b _ hb e => hb (HF.out b (.inr (.inr (.inr (.inr (.inl (by rw [e])))))))⟩
   rcases hb with hb | hb | hb | hb | hb | hb | hb
   ·exact .inl (HF.out b (.inl hb))
   ·exact .inl (HF.out b (.inr (.inl hb)))
   ·exact .inl (HF.out b (.inr (.inr (.inl hb))))
   ·exact .inl (HF.out b (.inr (.inr (.inr (.inl hb)))))
   ·exact .inl (HF.out b (.inr (.inr (.inr (.inr (.inl hb))))))
   ·exact .inl (HF.out b (.inr (.inr (.inr (.inr (.inr hb))))))
   ·exact .inr (by omega))
  clear hM6 hdp HHR HM HB1 HDN HIN HF
  cases d with
  | false =>
   have HEE := Lib.hid (show noteC S n m = ([], ⟨S.epoch, S.mem, S.top, some y, S.over⟩) from HE.out)
   have HO := Lib.hid (show OutP W w p c ck F n (k + 1) ⟨S.epoch, S.mem, S.top, some y, S.over⟩ [] (.slice none 0 0) w6 from by
    obtain ⟨F6, h1, h2, h3⟩ := HAT.out
    exact (h1.same (Keeps.refl _ _) (MOut.nil _ _) (Nat.le_succ k) HHK.out).after h3 h2)
   clear HE HAT HBT
   unfold vals1
   simp only [putAll, List.map, Act.put, List.setIfInBounds_toArray, List.set_cons_succ, List.set_cons_zero, Exit.then, Bool.not_false]
   go_wp2_with fail
   go_ret
   exact ⟨_, rfl, by rw [HEE.out]; exact HO.out⟩
  | true =>
   have HEE := Lib.hid (show noteC S n m = beatC ⟨S.epoch, S.mem, S.top, some y, S.over⟩ n from HE.out)
   obtain ⟨F6, h1, h2, h3⟩ := HAT.out
   have HBC := Lib.hid (HBT.out w6 F6 h1)
   have HAF := Lib.hid (And.intro h2 h3)
   clear HE HAT HBT h1 h2 h3
   unfold vals1
   simp only [putAll, List.map, Act.put, List.setIfInBounds_toArray, List.set_cons_succ, List.set_cons_zero, Exit.then, Bool.not_true]
   go_wp2_with fail
   refine (show Calls _ _ _ _ _ from HBC.out).mono ?_
   rintro e w7 ⟨v, rfl, ho⟩
   have HO := Lib.hid (ho.after HAF.out.2 HAF.out.1)
   clear ho HBC
   go_wp2_with fail
   go_ret
   exact ⟨v, rfl, by rw [HEE.out]; exact HO.out⟩
theorem note_any (hT : theSup.T W) (h : CtAt W w p c ck F n k S) (m : Ms) (a : MsA) (hk : k + 1 ≤ 1000000) :
  Calls Tryz.prog 37 #[.pointer (some ⟨c, 0, none⟩), msV m a] w fun e w' => ∃ v, e = .returned v ∧ OutP W w p c ck F n (k + 1) (noteC S n m).2 (noteC S n m).1 v w' := by
 cases hh : hearsB S.und m with
 | false =>
  have e : noteC S n m = ([], S) := by
   unfold noteC
   cases hu : S.und with
   | none => rfl
   | some x => rw [hu] at hh; simp [hh]
  rw [e]
  exact (note_no h m a hh).mono fun x w' ⟨h1, h2⟩ => ⟨_, h1, h.same h2 (MOut.nil _ _) (Nat.le_succ k) hk⟩
 | true =>
  cases hu : S.und with
  | none => rw [hu] at hh; cases hh
  | some x => rw [hu] at hh; exact note_yes hT h m a x hu hh hk
end
end Go.Proofs.YtemkjodkmehffaaGreatDoor
