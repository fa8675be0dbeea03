/-
  THE LANDED RIGHTS: Give.
-/
import Derived.Test.YtoegdfiehjabjaaTkSt
namespace Go.Proofs.Ytoegdfiehjabjaa
open Go Go.RowKit Go.Joins Go.Maps Go.ChangeShapes Go.WideShapes Go.ChangeAt

theorem TkSt.last {w : World} {t : Nat} {F : Nat → Prop} {L : List Tk} (h : TkSt w t F L) : w.cell? ⟨t, 0, none⟩ = some (.int .i64 (L.length : Int)) := by
  rcases h with ⟨rfl, hb, -⟩ | ⟨mo, ml, no, nl, B, go, gl, h⟩
  · exact hb.c0
  · exact h.blk.c0
/-- What Give leaves. -/
theorem Mid.done {w w1 w2 w3 : World} {t : Nat} {F : Nat → Prop} {L : List Tk} {k : ByteArray} {b mo ml no nl : Nat} {B : Nat → Nat} {go gl gl0 : Lit → Option Value} (h : Mid w w1 t F L k b mo ml no nl B go gl gl0) (hk : k.size ≤ 1000000)
    (hw2 : (w1.setCell ⟨b, 1, none⟩ (.int .i64 (((tkCount (sameT k) L : Nat) : Int) + 1))).setCell ⟨t, 0, none⟩ (.int .i64 ((L.length : Int) + 1)) = w2) (_hFlt : ∀ b, F b → b < w.heap.size)
    (hm : MapIs Try.prog 2 w3 mo (no + 1) (mput go (.int .i64 ((L.length : Int) + 1)) (.pointer (some ⟨b, 0, none⟩)))) (hg : w2.grownBy w3 (some mo)) :
    TkSt w3 t (fun b => F b ∨ w.heap.size ≤ b) (L ++ [tkNew k]) ∧ Keeps (fun b => ¬ F b) w w3 := by
  have hsz := h.kp.size
  have hbt : b ≠ t := h.blk.ne h.hb
  have htm := h.hmo.not_cells h.blk
  have htl := h.hml.not_cells h.blk
  have hbm := h.hmo.not_cells h.hb
  have hbl := h.hml.not_cells h.hb
  have k2 : Keeps (fun x => x ≠ b ∧ x ≠ t) w1 w2 := by
    rw [← hw2]
    exact ((Keeps.refl _ _).setCell (.inr fun h => h.1 rfl) _).setCell (.inr fun h => h.2 rfl) _
  have k3 : Keeps (fun x => x ≠ mo) w2 w3 := Keeps.of_grown hg fun b e _ hn => by cases e; exact hn rfl
  have hT2 : TkBlk w2 t ((L.length : Int) + 1) (some mo) (some ml) := by
    rw [← hw2]
    exact (h.blk.keep (G := fun x => x ≠ b) ((Keeps.refl _ _).setCell (.inr fun h => h rfl) _) (Ne.symm hbt)).set0 _
  have hB2 : Bat w2 (L ++ [tkNew k]) (newB B L.length b) := by
    rw [← hw2]
    refine (h.bat.give h.hb h.same).cell2 (fun i x hi hu => ?_) _ _
    rcases app_at hi with ⟨hjy, hlt⟩ | ⟨rfl, rfl⟩
    · rw [newB_old B b hlt]
      exact h.bat.ne_t h.blk hjy hu
    · rw [newB_new]; exact hbt
  have hne3 : ∀ (i : Nat) (x : Tk), (L ++ [tkNew k])[i]? = some x → x.used = false → newB B L.length b i ≠ mo := fun i x hi hu => by
    rcases app_at hi with ⟨hjy, hlt⟩ | ⟨rfl, rfl⟩
    · rw [newB_old B b hlt]
      exact h.bat.ne_m h.hmo hjy hu
    · rw [newB_new]; exact hbm
  refine ⟨.inr ⟨mo, ml, no + 1, nl, newB B L.length b, _, gl, ?_, hm, ?_, ?_, ?_, h.tab.give h.g1 h.g2 h.same, hB2.keep k3 hne3, .inl h.ft, h.fo, h.fl, fun i x hi hu => ?_, h.ne, fun x hx => ?_⟩, ?_⟩
  · have e : ((L ++ [tkNew k]).length : Int) = (L.length : Int) + 1 := by simp
    rw [e]
    exact hT2.keep k3 htm
  · exact (h.hml.keep k2 ⟨Ne.symm hbl, Ne.symm htl⟩).keep k3 (Ne.symm h.ne)
  · have := h.no; simp; omega
  · have := h.nl; simp; omega
  · rcases app_at hi with ⟨hjy, hlt⟩ | ⟨rfl, rfl⟩
    · rw [newB_old B b hlt]
      exact .inl (h.fb i x hjy hu)
    · rw [newB_new]; exact h.fn
  · rcases List.mem_append.1 hx with hx | hx
    · exact h.keys x hx
    · rw [List.mem_singleton.1 hx]; exact hk
  · have h1 : Keeps (fun x => ¬ F x ∧ x ≠ b ∧ x ≠ t ∧ x ≠ mo) w w3 := ((h.kp.mono fun _ _ h => h.1).trans (k2.mono fun _ _ h => ⟨h.2.1, h.2.2.1⟩)).trans (k3.mono fun _ _ h => h.2.2.2)
    refine h1.mono fun x hx hF => ⟨hF, ?_, ?_, ?_⟩
    · rintro rfl
      rcases h.fn with h | h
      · exact hF h
      · omega
    · rintro rfl; exact hF h.ft
    · rintro rfl
      rcases h.fo with h | h
      · exact hF h
      · omega

set_option maxRecDepth 100000 in
set_option maxHeartbeats 1000000 in
theorem tgive_any (w : World) (t : Nat) (F : Nat → Prop) (L : List Tk) (k : ByteArray) (h : TkSt w t F L) (hFlt : ∀ b, F b → b < w.heap.size) (hL : L.length ≤ 1000) (hk : k.size ≤ 1000000) :
    Calls Try.prog 11 #[.pointer (some ⟨t, 0, none⟩), .string k] w fun e w' => e = .returned (.int .i64 ((L.length + 1 : Nat) : Int)) ∧ TkSt w' t (fun b => F b ∨ w.heap.size ≤ b) (L ++ [tkNew k]) ∧ Keeps (fun b => ¬ F b) w w' := by
  have c0 := h.last
  have HC := Lib.hid (batchOf_any w t F L k h hL hk)
  have HK := Lib.hid hk
  have HF := Lib.hid hFlt
  obtain ⟨n, hn⟩ : ∃ n, L.length = n := ⟨_, rfl⟩
  have HN := Lib.hid hn
  rw [hn] at c0
  have hnI : ¬ (1099511627776 : Int) ≤ (n : Int) := by omega
  have hnB : decide ((1099511627776 : Int) ≤ (n : Int)) = false := decide_eq_false hnI
  have hn2 : n ≤ 1000 := by omega
  clear h hk hFlt hn hL
  go_enter Try.func11, Try.ntmps11
  go_wp2_with fail
  refine (show Calls _ _ _ _ _ from HC.out).mono ?_
  rintro e w1 ⟨b, mo, ml, no, nl, B, go, gl, gl0, rfl, hM⟩
  have hcn : tkCount (sameT k) L ≤ 1000 := by have := tkCount_le (sameT k) L; have := HN.out; omega
  have c0 := hM.blk.c0
  have f0 := hM.blk.f0
  have c1 := hM.blk.c1
  have d1 := hM.hb.c1
  have g1 := hM.hb.f1
  have hbt : b ≠ t := hM.blk.ne hM.hb
  have hbt' : t ≠ b := Ne.symm hbt
  have HM := Lib.hid hM
  rw [HN.out] at c0
  have HD1 := Lib.hid (fun w2 w3 a c d => Mid.done (w2 := w2) (w3 := w3) hM HK.out a HF.out c d)
  have HM2 := Lib.hid (show ∀ w2, (w1.setCell ⟨b, 1, none⟩ (.int .i64 (((tkCount (sameT k) L : Nat) : Int) + 1))).setCell ⟨t, 0, none⟩ (.int .i64 ((L.length : Int) + 1)) = w2 → MapIs Try.prog 2 w2 mo no go ∧ TkBlk w2 t ((L.length : Int) + 1) (some mo) (some ml) from fun w2 hw2 => by
    rw [← hw2]
    exact ⟨(hM.hmo.keep (F := fun x => x ≠ b) ((Keeps.refl _ _).setCell (.inr fun h => h rfl) _) (Ne.symm (hM.hmo.not_cells hM.hb))).keep (F := fun x => x ≠ t) ((Keeps.refl _ _).setCell (.inr fun h => h rfl) _) (Ne.symm (hM.hmo.not_cells hM.blk)),
      (hM.blk.keep (G := fun x => x ≠ b) ((Keeps.refl _ _).setCell (.inr fun h => h rfl) _) hbt').set0 _⟩)
  have hno := hM.no
  rw [HN.out] at hno HD1 HM2
  have htm : t ≠ mo := hM.hmo.not_cells hM.blk
  clear hM HC HM
  generalize tkCount (sameT k) L = q at *
  go_wp2_with fail
  obtain ⟨w2, hw2⟩ : ∃ w2, (w1.setCell ⟨b, 1, none⟩ (.int .i64 ((q : Int) + 1))).setCell ⟨t, 0, none⟩ (.int .i64 ((n : Int) + 1)) = w2 := ⟨_, rfl⟩
  rw [hw2]
  obtain ⟨hm2, hb2⟩ := HM2.out w2 hw2
  have c0 := hb2.c0
  have c1 := hb2.c1
  have HM3 := Lib.hid hm2
  have HD2 := Lib.hid (fun w3 => HD1.out w2 w3 hw2)
  have HB2 := Lib.hid hb2
  clear hw2 hm2 hb2 HD1 HM2 d1 g1 f0
  go_still_tail 9, (by kernel_rfl)
  change wpList _ _ _ _ _ w2.drew
  go_wp2_with ((refine (HM3.out.keep ((Keeps.refl (fun _ => True) w2).drew) trivial).list_put rfl (.tmp 35) (.tmp 39) (.tmp 40) rfl num_keyed Try.underlying47 rfl ?h7 (.int .i64 ((n : Int) + 1)) (.pointer (some ⟨b, 0, none⟩)) (.int .i64 ((n : Int) + 1)) rfl rfl (num_key _ (by omega) (by omega)) trivial ?_))
  case h7 => unfold maxLen; omega
  intro w3 hm3 hg3
  have hg3' : w2.grownBy w3 (some mo) := ⟨hg3.os, hg3.tape, hg3.output, hg3.size, hg3.block⟩
  have HE := Lib.hid (HD2.out w3 hm3 hg3')
  have c0 := (HB2.out.keep (Keeps.of_grown (F := fun x => x ≠ mo) hg3' fun b e _ hn => by cases e; exact hn rfl) htm).c0
  clear hm3 hg3 hg3' HD2
  go_wp2_with fail
  go_ret
  exact ⟨by rw [HN.out]; rfl, HE.out⟩
theorem tgive_nil (w : World) (k : ByteArray) : Calls Try.prog 11 #[.pointer none, .string k] w fun e w' => e = .returned (.int .i64 0) ∧ w = w' := by
  go_enter Try.func11, Try.ntmps11
  go_wp2_with fail
  go_ret
  exact ⟨rfl, rfl⟩

end Go.Proofs.Ytoegdfiehjabjaa
