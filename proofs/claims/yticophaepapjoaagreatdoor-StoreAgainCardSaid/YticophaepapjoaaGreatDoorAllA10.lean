/-
  ItemDecs, FlEntry, FlSmall, FlLearn, FlAdd: texts of mine, joined.
-/
import Derived.Test.YticophaepapjoaaGreatDoorAllA09
import Derived.StillTailTactics
namespace Go.Proofs.YticophaepapjoaaGreatDoor
open Go Go.RowKit Go.Joins
def itZ : Array Value := #[.string ⟨#[]⟩, .string ⟨#[]⟩, .int .i64 0, .bool false]
def DecPost (b : List UInt8) (e : Ending) : Prop :=
 (∃ (x : It) (r : List UInt8), e = .returned (.tuple #[.agg #[.string x.key, .string x.val, .int .i64 x.till, .bool x.gone], .int .i64 (x.bytes.length : Int), .int .i64 0]) ∧ x.may = true ∧ b = x.bytes ++ r) ∨
 (∃ er : Nat, er ≠ 0 ∧ er ≤ 2 ∧ e = .returned (.tuple #[.agg #[.string ⟨#[]⟩, .string ⟨#[]⟩, .int .i64 0, .bool false], .int .i64 0, .int .i64 (er : Int)]) ∧ ∀ (x : It) (r : List UInt8), x.may = true → b ≠ x.bytes ++ r)
theorem getT_e {l s : List UInt8} {k er : Nat} (h : getT l = (s, k, er)) : er ≤ 2 := by
 rcases getZ_cases l with ⟨n, k', hg, -⟩ | hg | hg
 ·by_cases hf : n < 0 ∨ 65536 < n
  ·rw [getT_form hg hf] at h; cases h; decide
  ·by_cases hm : (l.length : Int) < k' + n
   ·rw [getT_more hg hf hm] at h; cases h; decide
   ·rw [getT_got hg hf hm] at h; cases h; decide
 ·rw [getT_err hg (by decide)] at h; cases h; decide
 ·rw [getT_err hg (by decide)] at h; cases h; decide
theorem getT_0 : getT [] = ([], 0, 2) := rfl
theorem res4 (w W : World) (hb : W.heap[w.heap.size]? = some (.cells itZ 40 (0, 0))) (hk : Kp w W) : RowKit.Hid (∀ v0 v1 v2 v3,
  ((((W.setCell ⟨w.heap.size, 0, none⟩ v0).setCell ⟨w.heap.size, 1, none⟩ v1).setCell ⟨w.heap.size, 2, none⟩ v2).setCell ⟨w.heap.size, 3, none⟩ v3).cell? ⟨w.heap.size, 0, none⟩ = some v0 ∧
  ((((W.setCell ⟨w.heap.size, 0, none⟩ v0).setCell ⟨w.heap.size, 1, none⟩ v1).setCell ⟨w.heap.size, 2, none⟩ v2).setCell ⟨w.heap.size, 3, none⟩ v3).cell? ⟨w.heap.size, 1, none⟩ = some v1 ∧
  ((((W.setCell ⟨w.heap.size, 0, none⟩ v0).setCell ⟨w.heap.size, 1, none⟩ v1).setCell ⟨w.heap.size, 2, none⟩ v2).setCell ⟨w.heap.size, 3, none⟩ v3).cell? ⟨w.heap.size, 2, none⟩ = some v2 ∧
  ((((W.setCell ⟨w.heap.size, 0, none⟩ v0).setCell ⟨w.heap.size, 1, none⟩ v1).setCell ⟨w.heap.size, 2, none⟩ v2).setCell ⟨w.heap.size, 3, none⟩ v3).cell? ⟨w.heap.size, 3, none⟩ = some v3 ∧
  Kp w ((((W.setCell ⟨w.heap.size, 0, none⟩ v0).setCell ⟨w.heap.size, 1, none⟩ v1).setCell ⟨w.heap.size, 2, none⟩ v2).setCell ⟨w.heap.size, 3, none⟩ v3)) := Lib.hid fun v0 v1 v2 v3 => by
 have h1 := block_setCell (block_setCell (block_setCell (block_setCell hb (i := 0) v0) (i := 1) v1) (i := 2) v2) (i := 3) v3
 exact ⟨(cell_of_block h1 0).trans rfl, (cell_of_block h1 1).trans rfl, (cell_of_block h1 2).trans rfl, (cell_of_block h1 3).trans rfl,
  (((hk.setCell (.inl (Nat.le_refl _)) _).setCell (.inl (Nat.le_refl _)) _).setCell (.inl (Nat.le_refl _)) _).setCell (.inl (Nat.le_refl _)) _⟩
theorem res4a (w W : World) (hb : W.heap[w.heap.size]? = some (.cells itZ 40 (0, 0))) (hk : Kp w W) (ob : Obj) : RowKit.Hid (∀ v0 v1 v2 v3,
  (((((W.setCell ⟨w.heap.size, 0, none⟩ v0).setCell ⟨w.heap.size, 1, none⟩ v1).setCell ⟨w.heap.size, 2, none⟩ v2).setCell ⟨w.heap.size, 3, none⟩ v3).alloc ob).cell? ⟨w.heap.size, 0, none⟩ = some v0 ∧
  (((((W.setCell ⟨w.heap.size, 0, none⟩ v0).setCell ⟨w.heap.size, 1, none⟩ v1).setCell ⟨w.heap.size, 2, none⟩ v2).setCell ⟨w.heap.size, 3, none⟩ v3).alloc ob).cell? ⟨w.heap.size, 1, none⟩ = some v1 ∧
  (((((W.setCell ⟨w.heap.size, 0, none⟩ v0).setCell ⟨w.heap.size, 1, none⟩ v1).setCell ⟨w.heap.size, 2, none⟩ v2).setCell ⟨w.heap.size, 3, none⟩ v3).alloc ob).cell? ⟨w.heap.size, 2, none⟩ = some v2 ∧
  (((((W.setCell ⟨w.heap.size, 0, none⟩ v0).setCell ⟨w.heap.size, 1, none⟩ v1).setCell ⟨w.heap.size, 2, none⟩ v2).setCell ⟨w.heap.size, 3, none⟩ v3).alloc ob).cell? ⟨w.heap.size, 3, none⟩ = some v3 ∧
  Kp w (((((W.setCell ⟨w.heap.size, 0, none⟩ v0).setCell ⟨w.heap.size, 1, none⟩ v1).setCell ⟨w.heap.size, 2, none⟩ v2).setCell ⟨w.heap.size, 3, none⟩ v3).alloc ob)) := Lib.hid fun v0 v1 v2 v3 => by
 obtain ⟨h0, h1, h2, h3, h4⟩ := (res4 w W hb hk).out v0 v1 v2 v3
 have hk2 : Kp ((((W.setCell ⟨w.heap.size, 0, none⟩ v0).setCell ⟨w.heap.size, 1, none⟩ v1).setCell ⟨w.heap.size, 2, none⟩ v2).setCell ⟨w.heap.size, 3, none⟩ v3) (((((W.setCell ⟨w.heap.size, 0, none⟩ v0).setCell ⟨w.heap.size, 1, none⟩ v1).setCell ⟨w.heap.size, 2, none⟩ v2).setCell ⟨w.heap.size, 3, none⟩ v3).alloc ob) := (Keeps.refl _ _).alloc _
 exact ⟨hk2.cell h0 trivial, hk2.cell h1 trivial, hk2.cell h2 trivial, hk2.cell h3 trivial, h4.trans hk2⟩
theorem res4u (w W : World) (hb : W.heap[w.heap.size]? = some (.cells itZ 40 (0, 0))) : W.frozen? ⟨w.heap.size, 0, none⟩ = false ∧ W.frozen? ⟨w.heap.size, 1, none⟩ = false ∧ W.frozen? ⟨w.heap.size, 2, none⟩ = false ∧ W.frozen? ⟨w.heap.size, 3, none⟩ = false ∧
  W.cell? ⟨w.heap.size, 0, none⟩ = some (.string ⟨#[]⟩) ∧ W.cell? ⟨w.heap.size, 1, none⟩ = some (.string ⟨#[]⟩) ∧ W.cell? ⟨w.heap.size, 2, none⟩ = some (.int .i64 0) ∧ W.cell? ⟨w.heap.size, 3, none⟩ = some (.bool false) :=
 ⟨unfrozen_of_block hb 0, unfrozen_of_block hb 1, unfrozen_of_block hb 2, unfrozen_of_block hb 3, (cell_of_block hb 0).trans rfl, (cell_of_block hb 1).trans rfl, (cell_of_block hb 2).trans rfl, (cell_of_block hb 3).trans rfl⟩
theorem cut_row {w : World} {g o k c n : Nat} {F : Nat → Prop} {l : List UInt8} (h : Row w (some ⟨g, o, none⟩) F (bcells l)) (hn : l.length = n) (hk : k ≤ n) (hc : n ≤ c) (hne : c ≠ k) : Row w (some ⟨g, o + k, none⟩) F (bcells (l.drop k)) := by
 have hr := h.cut (k := k) (cap := c) (by rw [bcells_len]; omega) (by rw [bcells_len]; omega)
 rw [if_neg hne, bcells, ← List.map_drop] at hr
 simp only [Option.map_some, WideShapes.add_plain] at hr
 exact hr
theorem place_new (W : World) (q : Nat) (n : Int) (h : W.heap[q]? = some (.cells #[.int .i64 n] 2 (0, 0))) : Place W ⟨q, 0, none⟩ := ⟨⟨_, (cell_of_block h 0).trans rfl⟩, unfrozen_of_block h 0⟩
theorem itkeeps_over {G : Nat → Prop} {w W w' : World} (h : Kp w W) (hk : Keeps G W w') (hG : ∀ b, b < w.heap.size → G b) : Kp w w' :=
 ⟨hk.os.trans h.os, hk.tape.trans h.tape, hk.output.trans h.output, Nat.le_trans h.size hk.size, fun b _ hb => (hk.block b (hG b hb) (Nat.lt_of_lt_of_le hb h.size)).trans (h.block b trivial hb)⟩
theorem it_of {x : It} {s1 s2 : List UInt8} {t g : Int} {gone : Bool} (h1 : x.key.data.toList = s1) (h2 : x.val.data.toList = s2) (h3 : x.till = t) (h4 : x.flag = g) (hg : gone = decide (g = 1)) : x = ⟨txt s1, txt s2, t, gone⟩ := by
 obtain ⟨k, v, tt, gg⟩ := x
 simp only at h1 h2 h3
 have e1 : k = txt s1 := data_inj (by rw [h1, txt_list])
 have e2 : v = txt s2 := data_inj (by rw [h2, txt_list])
 have e4 : gg = gone := by
  subst hg h4
  unfold It.flag
  cases gg <;> rfl
 rw [e1, e2, h3, e4]
theorem all_here (w0 : World) (A : Option Addr) (m c : Nat) (l : List UInt8) (hr : Row w0 A (fun _ => True) (bcells l)) (hm : m = l.length) (hl : l.length ≤ 1000000) (hc : l.length ≤ c) :
  Calls Tryz.prog 117 #[.slice A m c, .slice (some ⟨w0.heap.size + 1 + 1, 0, none⟩) 2 2] (((w0.alloc (.cells #[.int .i64 0] 2)).alloc (.cells #[.int .i64 0] 2)).alloc (.cells #[.pointer (some ⟨w0.heap.size, 0, none⟩), .pointer (some ⟨w0.heap.size + 1, 0, none⟩)] 190)) fun e w' =>
   Kp w0 w' ∧ w0.heap.size + 3 ≤ w'.heap.size ∧
   ((∃ (er : Nat) (xs : List Int) (k : Nat), er ≠ 0 ∧ er ≤ 2 ∧ allZ 2 l = (xs, k, er) ∧ e = .returned (.tuple #[.int .i64 0, .int .i64 (er : Int)])) ∨
    (∃ (t g : Int) (k : Nat), allZ 2 l = ([t, g], k, 0) ∧ e = .returned (.tuple #[.int .i64 (k : Int), .int .i64 0]) ∧ w'.cell? ⟨w0.heap.size, 0, none⟩ = some (.int .i64 t) ∧ w'.cell? ⟨w0.heap.size + 1, 0, none⟩ = some (.int .i64 g))) := by
 have hk : Kp w0 (((w0.alloc (.cells #[.int .i64 0] 2)).alloc (.cells #[.int .i64 0] 2)).alloc (.cells #[.pointer (some ⟨w0.heap.size, 0, none⟩), .pointer (some ⟨w0.heap.size + 1, 0, none⟩)] 190)) := (((Keeps.refl _ w0).alloc _).alloc _).alloc _
 have b1 := heap_alloc_new w0 (.cells #[.int .i64 0] 2)
 have b2 := heap_alloc_new (w0.alloc (.cells #[.int .i64 0] 2)) (.cells #[.int .i64 0] 2)
 have k2 : Kp (w0.alloc (.cells #[.int .i64 0] 2)) (((w0.alloc (.cells #[.int .i64 0] 2)).alloc (.cells #[.int .i64 0] 2)).alloc (.cells #[.pointer (some ⟨w0.heap.size, 0, none⟩), .pointer (some ⟨w0.heap.size + 1, 0, none⟩)] 190)) := ((Keeps.refl _ _).alloc _).alloc _
 have k3 : Kp ((w0.alloc (.cells #[.int .i64 0] 2)).alloc (.cells #[.int .i64 0] 2)) (((w0.alloc (.cells #[.int .i64 0] 2)).alloc (.cells #[.int .i64 0] 2)).alloc (.cells #[.pointer (some ⟨w0.heap.size, 0, none⟩), .pointer (some ⟨w0.heap.size + 1, 0, none⟩)] 190)) := (Keeps.refl _ _).alloc _
 have z1 : (w0.alloc (.cells #[.int .i64 0] 2)).heap.size = w0.heap.size + 1 := by simp
 have z2 : ((w0.alloc (.cells #[.int .i64 0] 2)).alloc (.cells #[.int .i64 0] 2)).heap.size = w0.heap.size + 2 := by simp
 have z3 : (((w0.alloc (.cells #[.int .i64 0] 2)).alloc (.cells #[.int .i64 0] 2)).alloc (.cells #[.pointer (some ⟨w0.heap.size, 0, none⟩), .pointer (some ⟨w0.heap.size + 1, 0, none⟩)] 190)).heap.size = w0.heap.size + 3 := by simp
 rw [z1] at b2
 have b1' := (k2.block w0.heap.size trivial (by omega)).trans b1
 have b2' := (k3.block (w0.heap.size + 1) trivial (by omega)).trans b2
 have hlit := Row.fresh ((w0.alloc (.cells #[.int .i64 0] 2)).alloc (.cells #[.int .i64 0] 2)) #[.pointer (some ⟨w0.heap.size, 0, none⟩), .pointer (some ⟨w0.heap.size + 1, 0, none⟩)] 190 (0, 0) (w0.heap.size + 2) z2.symm (F := fun b => b ≠ w0.heap.size ∧ b ≠ w0.heap.size + 1) ⟨by omega, by omega⟩ _ rfl
 have hr' : Row (((w0.alloc (.cells #[.int .i64 0] 2)).alloc (.cells #[.int .i64 0] 2)).alloc (.cells #[.pointer (some ⟨w0.heap.size, 0, none⟩), .pointer (some ⟨w0.heap.size + 1, 0, none⟩)] 190)) A (fun b => b ≠ w0.heap.size ∧ b ≠ w0.heap.size + 1) (bcells l) :=
  (hr.lt.keep (F := fun b => True ∧ b < w0.heap.size) (hk.mono fun _ _ _ => trivial)).mono fun b _ hb => ⟨by have := hb.2; omega, by have := hb.2; omega⟩
 refine (all_two _ A m c w0.heap.size (w0.heap.size + 2) l hr' hlit (place_new _ _ _ b1') (place_new _ _ _ b2') hm hl hc).mono ?_
 rintro e w' ⟨hk', hh⟩
 exact ⟨itkeeps_over hk hk' fun b hb => ⟨by omega, by omega⟩, by have := hk'.size; omega, hh⟩
set_option maxRecDepth 100000 in
set_option maxHeartbeats 1600000 in
theorem idecode1 (w : World) (A : Option Addr) (c : Nat) (b : List UInt8) (h : Row w A (fun _ => True) (bcells b)) (hlc : b.length ≤ c) (hcm : c ≤ maxLen) (hl : b.length ≤ 1000000) :
  Calls Tryz.prog 152 #[.slice A b.length c] w fun e w' => Kp w w' ∧ DecPost b e := by
 unfold maxLen at hcm
 obtain ⟨s1, k1, e1, h1⟩ : ∃ s k e, getT b = (s, k, e) := ⟨_, _, _, rfl⟩
 obtain ⟨w0, hw0⟩ : ∃ w0, w.alloc (.cells itZ 40) = w0 := ⟨_, rfl⟩
 have HW0 := Lib.hid (show w.alloc (.cells #[.string ⟨#[]⟩, .string ⟨#[]⟩, .int .i64 0, .bool false] 40) = w0 from hw0)
 have hb0 : w0.heap[w.heap.size]? = some (.cells itZ 40 (0, 0)) := by rw [← hw0]; exact heap_alloc_new w _
 have hk0 : Kp w w0 := by rw [← hw0]; exact (Keeps.refl _ w).alloc _
 have hz0 : w0.heap.size = w.heap.size + 1 := by rw [← hw0]; simp
 have HRES := res4 w w0 hb0 hk0
 have HZ0 := Lib.hid hz0
 clear hz0
 obtain ⟨f0, f1, f2, f3, r0, r1, r2, r3⟩ := res4u w w0 hb0
 have hg1 := get_text A c (fun _ => True) b w0 (h.keep hk0) (by omega) hlc (by unfold maxLen; omega)
 rw [h1] at hg1
 simp only at hg1
 have HG1 := Lib.hid hg1
 have HB0 := Lib.hid hb0
 have HK0 := Lib.hid hk0
 have HH := Lib.hid h
 have HH1 := Lib.hid h1
 clear hw0 hb0 hk0 hg1 h
 obtain ⟨n, hn⟩ : ∃ n, b.length = n := ⟨_, rfl⟩
 have HN := Lib.hid hn
 rw [hn] at HG1 hlc hl ⊢
 clear hn
 by_cases he1 : e1 = 0
 ·subst he1
  obtain ⟨eq1, l1, -, k1n, k1p⟩ := getT_ok h1
  have HH1 := Lib.hid h1
  rw [HN.out] at k1n
  clear eq1 h1 l1
  obtain ⟨g, o, rfl, -, -⟩ := HH.out.at_ (k := 0) (by rw [bcells_len, HN.out]; omega)
  go_enter Tryz.func152, Tryz.ntmps152
  go_wp2_with (rw [HW0.out])
  try rw [HW0.out]
  refine HG1.out.mono ?_
  rintro e w' ⟨rfl, rfl⟩
  rw [show ((0 : Nat) : Int) = 0 from rfl]
  have HGT0 := Lib.hid (fun (A : Option Addr) (cc : Nat) (h0 : cc ≤ maxLen) => (show Calls Tryz.prog 126 #[.slice A 0 cc] w0 fun e w' => e = .returned (.tuple #[.string (txt []), .int .i64 0, .int .i64 2]) ∧ w0 = w' from by
   have h := get_text A cc (fun _ => True) [] w0 (Row.nil _ _ _) (by simp) (by simp) h0
   rw [getT_0] at h
   exact h))
  have HROW := Lib.hid (HH.out.keep HK0.out)
  by_cases hn1 : n = k1
  ·subst hn1
   have HBAD := Lib.hid (show ∀ (x : It) (r : List UInt8), x.may = true → b ≠ x.bytes ++ r from fun x r hx hb => by
    have h3 := dec_of hx hb
    have h4 := h3.1
    rw [HH1.out] at h4
    injection h4 with _ h4
    injection h4 with h4 _
    have h5 := h3.2.1
    rw [← h4, List.drop_eq_nil_of_le (by rw [HN.out]; omega), getT_0] at h5
    have h7 := congrArg (fun t : List UInt8 × Nat × Nat => t.2.2) h5
    simp at h7)
   have hcs : c = n ∨ (¬ c = n ∧ ¬ c ≤ n) := by omega
   rcases hcs with rfl | ⟨hc1, hc2⟩
   all_goals
    go_wp2_with fail
    refine (HGT0.out _ _ ?hc).mono ?_
    case hc => unfold maxLen; omega
    rintro e' w' ⟨rfl, rfl⟩
    go_wp2_with fail
    exact bodyPost_ret (v := .tuple #[.agg #[.string ⟨#[]⟩, .string ⟨#[]⟩, .int .i64 0, .bool false], .int .i64 0, .int .i64 2]) (by simp [results, Tryz.results152, go_sem, HRES.out]) rfl ⟨(HRES.out _ _ _ _).2.2.2.2, .inr ⟨2, by decide, by decide, rfl, HBAD.out⟩⟩
  ·obtain ⟨s2, k2, e2, h2⟩ : ∃ s k e, getT (b.drop k1) = (s, k, e) := ⟨_, _, _, rfl⟩
   have hdl : (b.drop k1).length = n - k1 := by rw [List.length_drop, HN.out]
   have hck : ¬ c = k1 := by omega
   have hck2 : k1 ≤ c := by omega
   have hg2 := get_text (some ⟨g, o + k1, none⟩) (c - k1) _ (b.drop k1) w0 (cut_row HROW.out HN.out k1n hlc hck) (by rw [hdl]; omega) (by rw [hdl]; omega) (by unfold maxLen; omega)
   rw [h2, hdl] at hg2
   simp only at hg2
   have HG2 := Lib.hid hg2
   have HDL := Lib.hid hdl
   clear hg2 hdl
   by_cases he2 : e2 = 0
   ·subst he2
    obtain ⟨eq2, l2, -, k2n, k2p⟩ := getT_ok h2
    rw [HDL.out] at k2n
    have HH2 := Lib.hid h2
    clear eq2 h2 l2
    go_wp2_with fail
    refine HG2.out.mono ?_
    rintro e' w' ⟨rfl, rfl⟩
    rw [show ((0 : Nat) : Int) = 0 from rfl]
    have hsum : k1 + k2 ≤ n := by omega
    by_cases hn2 : n = k1 + k2
    ·have HAL0 := Lib.hid (fun (A3 : Option Addr) (cc : Nat) => all_here w0 A3 0 cc [] (Row.nil _ _ _) rfl (by simp) (by simp))
     have HAL := Lib.hid (fun (A3 : Option Addr) (cc : Nat) => all_here w0 A3 (n - (k1 + k2)) cc [] (Row.nil _ _ _) (by simp; omega) (by simp) (by simp))
     have HBAD := Lib.hid (show ∀ (x : It) (r : List UInt8), x.may = true → b ≠ x.bytes ++ r from fun x r hx hb => by
      obtain ⟨h4, h5, k, h6⟩ := dec_of hx hb
      rw [HH1.out] at h4
      injection h4 with _ h4
      injection h4 with h4 _
      rw [← h4, HH2.out] at h5
      injection h5 with _ h5
      injection h5 with h5 _
      rw [← h4, ← h5, List.drop_eq_nil_of_le (by rw [HN.out]; omega)] at h6
      have h7 := congrArg (fun t : List Int × Nat × Nat => t.2.2) h6
      have h8 : (allZ 2 ([] : List UInt8)).2.2 = 2 := rfl
      simp only [h8] at h7
      omega)
     have hcs : c = k1 + k2 ∨ (¬ c = k1 + k2 ∧ ¬ c ≤ k1 + k2) := by omega
     have HE := Lib.hid hn2
     clear hn2
     rcases hcs with rfl | ⟨hc1, hc2⟩
     all_goals
      go_wp2_with fail
      with_reducible first | refine (HAL0.out _ _).mono ?_ | refine (HAL.out _ _).mono ?_
      rintro e' w5 ⟨hk5, -, (⟨er, xs, k, he0, her, -, rfl⟩ | ⟨t, gg, k3, hz, -, -, -⟩)⟩
      ·have hb5 := (hk5.block w.heap.size trivial (by have := HZ0.out; omega)).trans HB0.out
       have HRES5 := res4 w w5 hb5 (HK0.out.trans hk5)
       obtain ⟨f0, f1, f2, f3, r0, r1, r2, r3⟩ := res4u w w5 hb5
       have t1 : ((er : Int) != 0) = true := by simp; omega
       clear hk5 hb5 HAL HAL0
       go_wp2_with fail
       exact bodyPost_ret (v := .tuple #[.agg #[.string ⟨#[]⟩, .string ⟨#[]⟩, .int .i64 0, .bool false], .int .i64 0, .int .i64 (er : Int)]) (by simp [results, Tryz.results152, go_sem, HRES5.out]) rfl ⟨(HRES5.out _ _ _ _).2.2.2.2, .inr ⟨er, he0, her, rfl, HBAD.out⟩⟩
      ·exfalso
       have h7 := congrArg (fun t : List Int × Nat × Nat => t.2.2) hz
       have h8 : (allZ 2 ([] : List UInt8)).2.2 = 2 := rfl
       simp only [h8] at h7
       omega
    ·have hnk : ¬ c = k1 + k2 := by omega
     have hnk2 : k1 + k2 ≤ c := by omega
     have hal := all_here w0 (some ⟨g, o + (k1 + k2), none⟩) (n - (k1 + k2)) (c - (k1 + k2)) (b.drop (k1 + k2)) (cut_row HROW.out HN.out hsum hlc hnk) (by rw [List.length_drop, HN.out]) (by rw [List.length_drop, HN.out]; omega) (by rw [List.length_drop, HN.out]; omega)
     have HAL := Lib.hid hal
     clear hal
     go_wp2_with fail
     with_reducible refine HAL.out.mono ?_
     rintro e' w5 ⟨hk5, hz5, (⟨er, xs, k, he0, her, hz, rfl⟩ | ⟨t, gg, k3, hz, rfl, c10, c11⟩)⟩
     ·have HBAD := Lib.hid (show ∀ (x : It) (r : List UInt8), x.may = true → b ≠ x.bytes ++ r from fun x r hx hb => by
       obtain ⟨h4, h5, k, h6⟩ := dec_of hx hb
       rw [HH1.out] at h4
       injection h4 with _ h4
       injection h4 with h4 _
       rw [← h4, HH2.out] at h5
       injection h5 with _ h5
       injection h5 with h5 _
       rw [← h4, ← h5, hz] at h6
       have h7 := congrArg (fun t : List Int × Nat × Nat => t.2.2) h6
       simp only at h7
       omega)
      have hb5 := (hk5.block w.heap.size trivial (by have := HZ0.out; omega)).trans HB0.out
      have HRES5 := res4 w w5 hb5 (HK0.out.trans hk5)
      obtain ⟨f0, f1, f2, f3, r0, r1, r2, r3⟩ := res4u w w5 hb5
      have t1 : ((er : Int) != 0) = true := by simp; omega
      clear hk5 hb5 HAL hz hz5
      go_wp2_with fail
      exact bodyPost_ret (v := .tuple #[.agg #[.string ⟨#[]⟩, .string ⟨#[]⟩, .int .i64 0, .bool false], .int .i64 0, .int .i64 (er : Int)]) (by simp [results, Tryz.results152, go_sem, HRES5.out]) rfl ⟨(HRES5.out _ _ _ _).2.2.2.2, .inr ⟨er, he0, her, rfl, HBAD.out⟩⟩
     ·obtain ⟨t', g', r, e5, -, hk3, ht1, ht2, hg1, hg2⟩ := allZ2_ok hz
      injection e5 with e5 e6
      injection e6 with e6 _
      subst e5 e6
      have hk3' : k3 ≤ 20 := by
       have := putZ_len t ht1 ht2
       have := putZ_len gg hg1 hg2
       omega
      clear hk3
      obtain ⟨hsl1, -⟩ : s1.length ≤ 65536 ∧ True := ⟨(getT_ok HH1.out).2.2.1, trivial⟩
      obtain ⟨hsl2, -⟩ : s2.length ≤ 65536 ∧ True := ⟨(getT_ok HH2.out).2.2.1, trivial⟩
      have HOF := Lib.hid (show ∀ (x : It) (r : List UInt8), x.may = true → b = x.bytes ++ r → x.key.data.toList = s1 ∧ x.val.data.toList = s2 ∧ x.till = t ∧ x.flag = gg from fun x r hx hb => by
       obtain ⟨h4, h5, k, h6⟩ := dec_of hx hb
       rw [HH1.out] at h4
       injection h4 with h41 h4
       injection h4 with h4 _
       rw [← h4, HH2.out] at h5
       injection h5 with h51 h5
       injection h5 with h5 _
       rw [← h4, ← h5, hz] at h6
       injection h6 with h61 _
       injection h61 with h61 h62
       injection h62 with h62 _
       exact ⟨h41.symm, h51.symm, h61.symm, h62.symm⟩)
      have hb5 := (hk5.block w.heap.size trivial (by have := HZ0.out; omega)).trans HB0.out
      have HK5 := Lib.hid (HK0.out.trans hk5)
      have HB5 := Lib.hid hb5
      have HRES5 := res4 w w5 hb5 (HK0.out.trans hk5)
      have hws : w.heap.size < w5.heap.size := by have := HZ0.out; omega
      have hq0 : w0.heap.size < w5.heap.size := by omega
      have hq1 : w0.heap.size + 1 < w5.heap.size := by omega
      have HIS := Lib.hid (fun (gone : Bool) (hgg : gg = 0 ∨ gg = 1) (hgo : gone = decide (gg = 1)) => dec_is HH1.out HH2.out hz hgg gone hgo)
      clear hk5 hb5 HAL hz hz5
      by_cases hgg : gg = 0 ∨ gg = 1
      ·have ht : ∃ gone : Bool, gone = decide (gg = 1) := ⟨_, rfl⟩
       obtain ⟨gone, hgone⟩ := ht
       have hcase : ∃ gone : Bool, gone = decide (gg = 1) ∧ ((gg != 0) = false ∧ (gg == 1) = false ∧ gone = false ∨ (gg != 0) = true ∧ (gg != 1) = false ∧ (gg == 1) = true ∧ gone = true) := by
        rcases hgg with rfl | rfl
        ·exact ⟨false, rfl, .inl ⟨rfl, rfl, rfl⟩⟩
        ·exact ⟨true, rfl, .inr ⟨rfl, rfl, rfl, rfl⟩⟩
       clear hgone gone
       obtain ⟨gone, hgone, hcase⟩ := hcase
       obtain ⟨r9, hbr, hbl⟩ := HIS.out gone hgg hgone
       have HX := Lib.hid (show ∀ (x : It) (r : List UInt8), x.may = true → b = x.bytes ++ r → x = ⟨txt s1, txt s2, t, gone⟩ from fun x r hx hb => by
        obtain ⟨a1, a2, a3, a4⟩ := HOF.out x r hx hb
        exact it_of a1 a2 a3 a4 hgone)
       have HBR := Lib.hid hbr
       have HBL := Lib.hid hbl
       have HMAY := Lib.hid (fun W => imay W ⟨txt s1, txt s2, t, gone⟩ ⟨by rw [txt_size]; omega, by rw [txt_size]; omega, ht1, ht2⟩)
       simp only at HMAY
       clear hbr hbl hgg hgone
       have hw5 : Kp w5 (w5.alloc (.cells #[.string (txt s1), .string (txt s2), .int .i64 t, .bool gone] 40)) := (Keeps.refl _ w5).alloc _
       have hx5 := heap_alloc_new w5 (.cells #[.string (txt s1), .string (txt s2), .int .i64 t, .bool gone] 40)
       have HX5 := Lib.hid hx5
       have HW5 := Lib.hid hw5
       clear hw5 hx5
       rcases hcase with ⟨g1, g2, rfl⟩ | ⟨g1, g2, g3, rfl⟩
       all_goals
        go_wp2_with fail
        refine (HMAY.out _).mono ?_
        rintro e' w6 ⟨rfl, hk6⟩
        have hb6 := ((HW5.out.trans hk6).block w.heap.size trivial hws).trans HB5.out
        have HRES6 := res4 w w6 hb6 (HK5.out.trans (HW5.out.trans hk6))
        obtain ⟨f0, f1, f2, f3, r0, r1, r2, r3⟩ := res4u w w6 hb6
        have hx6 := (hk6.block w5.heap.size trivial (by simp)).trans HX5.out
        have x0 := (cell_of_block hx6 0).trans rfl
        have x1 := (cell_of_block hx6 1).trans rfl
        have x2 := (cell_of_block hx6 2).trans rfl
        have x3 := (cell_of_block hx6 3).trans rfl
        clear hk6 hb6 hx6
        rcases hm : (⟨txt s1, txt s2, t, _⟩ : It).may with _ | _
        ·have HBAD := Lib.hid (show ∀ (x : It) (r : List UInt8), x.may = true → b ≠ x.bytes ++ r from fun x r hx hb => by
          have := HX.out x r hx hb
          subst this
          rw [hm] at hx
          cases hx)
         clear hm
         go_wp2_with fail
         exact bodyPost_ret (v := .tuple #[.agg #[.string ⟨#[]⟩, .string ⟨#[]⟩, .int .i64 0, .bool false], .int .i64 0, .int .i64 1]) (by simp [results, Tryz.results152, go_sem, HRES6.out]) rfl ⟨(HRES6.out _ _ _ _).2.2.2.2, .inr ⟨1, by decide, by decide, rfl, HBAD.out⟩⟩
        ·have HM := Lib.hid hm
         clear hm
         go_wp2_with fail
         refine bodyPost_ret (v := .tuple #[.agg #[.string (txt s1), .string (txt s2), .int .i64 t, .bool _], .int .i64 ((k1 : Int) + (k2 : Int) + (k3 : Int)), .int .i64 0]) (by simp [results, Tryz.results152, go_sem, HRES6.out]; rfl) rfl ⟨(HRES6.out _ _ _ _).2.2.2.2, .inl ⟨⟨txt s1, txt s2, t, _⟩, r9, ?_, HM.out, HBR.out⟩⟩
         rw [HBL.out]
         simp
      ·have HBAD := Lib.hid (show ∀ (x : It) (r : List UInt8), x.may = true → b ≠ x.bytes ++ r from fun x r hx hb => by
        have h4 := (HOF.out x r hx hb).2.2.2
        have := x.flag_bd
        omega)
       have hg0 : (gg != 0) = true := by simp; omega
       have hg1' : (gg != 1) = true := by simp; omega
       have hg2' : (gg == 1) = false := by simp; omega
       have HGG := Lib.hid hgg
       clear hgg
       have HRES7 := res4a w w5 HB5.out HK5.out (.cells #[.string (txt s1), .string (txt s2), .int .i64 t, .bool false] 40)
       obtain ⟨f0, f1, f2, f3, r0, r1, r2, r3⟩ := res4u w w5 HB5.out
       go_wp2_with fail
       exact bodyPost_ret (v := .tuple #[.agg #[.string ⟨#[]⟩, .string ⟨#[]⟩, .int .i64 0, .bool false], .int .i64 0, .int .i64 1]) (by simp [results, Tryz.results152, go_sem, HRES7.out]) rfl ⟨(HRES7.out _ _ _ _).2.2.2.2, .inr ⟨1, by decide, by decide, rfl, HBAD.out⟩⟩
   ·have HBAD := Lib.hid (show ∀ (x : It) (r : List UInt8), x.may = true → b ≠ x.bytes ++ r from fun x r hx hb => by
     have h3 := dec_of hx hb
     have h4 := h3.1
     rw [HH1.out] at h4
     injection h4 with _ h4
     injection h4 with h4 _
     have h5 := h3.2.1
     rw [← h4, h2] at h5
     cases h5
     exact he2 rfl)
    have HE2 := Lib.hid (getT_e h2)
    have t1 : ((e2 : Int) != 0) = true := by simp; omega
    clear h2
    go_wp2_with fail
    refine HG2.out.mono ?_
    rintro e' w' ⟨rfl, rfl⟩
    go_wp2_with fail
    exact bodyPost_ret (v := .tuple #[.agg #[.string ⟨#[]⟩, .string ⟨#[]⟩, .int .i64 0, .bool false], .int .i64 0, .int .i64 (e2 : Int)]) (by simp [results, Tryz.results152, go_sem, HRES.out]) rfl ⟨(HRES.out _ _ _ _).2.2.2.2, .inr ⟨e2, he2, HE2.out, rfl, HBAD.out⟩⟩
 ·have HBAD := Lib.hid (show ∀ (x : It) (r : List UInt8), x.may = true → b ≠ x.bytes ++ r from fun x r hx hb => by
   have := (dec_of hx hb).1
   rw [h1] at this
   cases this
   exact he1 rfl)
  have HE1 := Lib.hid (getT_e h1)
  have t1 : ((e1 : Int) != 0) = true := by simp; omega
  clear h1
  go_enter Tryz.func152, Tryz.ntmps152
  go_wp2_with (rw [HW0.out])
  try rw [HW0.out]
  refine HG1.out.mono ?_
  rintro e w' ⟨rfl, rfl⟩
  go_wp2_with fail
  exact bodyPost_ret (v := .tuple #[.agg #[.string ⟨#[]⟩, .string ⟨#[]⟩, .int .i64 0, .bool false], .int .i64 0, .int .i64 (e1 : Int)]) (by simp [results, Tryz.results152, go_sem, HRES.out]) rfl ⟨(HRES.out _ _ _ _).2.2.2.2, .inr ⟨e1, he1, HE1.out, rfl, HBAD.out⟩⟩
theorem dec_one (J : ItemOK) (w : World) (hT : J.T w) (A : Option Addr) (n c : Nat) (x : It) (hm : x.may = true) (hr : Row w A (fun _ => True) (bcells x.bytes)) (hn : n = x.bytes.length) (hc : n ≤ c) (hcm : c ≤ maxLen) :
  Calls Tryz.prog 120 #[.slice A n c] w fun e w' => Kp w w' ∧ ∃ (b o k : Nat), e = .returned (.tuple #[.slice (some ⟨b, o, none⟩) 1 k, .int .i64 0]) ∧ w'.cell? ⟨b, o, none⟩ = some (.string x.key) ∧ w'.cell? ⟨b, o + 1, none⟩ = some (.string x.val) ∧ w'.cell? ⟨b, o + 2, none⟩ = some (.int .i64 x.till) ∧ w'.cell? ⟨b, o + 3, none⟩ = some (.bool x.gone) := by
 subst hn
 have hl := It.bytes_len hm
 have e1 : bytesOf [x] = x.bytes := by simp [bytesOf]
 have ha : [x].all It.may = true := by simp [hm]
 refine (J.decode w A c x.bytes hT hr hc hcm (by omega)).mono ?_
 rintro e w' ⟨hk, ⟨B, k, l, rfl, hne, hall, hb, h1, h2, hi⟩ | ⟨hno, -⟩⟩
 ·obtain rfl : l = [x] := bytesOf_inj hall ha (by rw [hb, e1])
  obtain ⟨b, o, rfl, -, c0, c1, c2, c3⟩ := hi 0 (by simp)
  rw [show o + 0 * 4 = o by omega] at c0 c1 c2 c3
  exact ⟨hk, b, o, k, rfl, c0, c1, c2, c3⟩
 ·exact absurd e1 (hno [x] (by simp) ha)
set_option maxRecDepth 100000 in
set_option maxHeartbeats 1000000 in
theorem centry (J : ItemOK) (w : World) (hT : J.T w) (A : Option Addr) (n c : Nat) (x : It) (hm : x.may = true) (hr : Row w A (fun _ => True) (bcells x.bytes)) (hn : n = x.bytes.length) (hc : n ≤ c) (hcm : c ≤ maxLen) :
  Calls Tryz.prog 86 #[.slice A n c] w fun e w' => e = .returned (.tuple #[.agg #[.string x.key, .string x.val, .int .i64 x.till, .bool x.gone], .bool true]) ∧ Kp w w' := by
 obtain ⟨w0, hw0⟩ : ∃ w0, w.alloc (.cells itZ 40) = w0 := ⟨_, rfl⟩
 have HW0 := Lib.hid (show w.alloc (.cells #[.string ⟨#[]⟩, .string ⟨#[]⟩, .int .i64 0, .bool false] 40) = w0 from hw0)
 have hb0 : w0.heap[w.heap.size]? = some (.cells itZ 40 (0, 0)) := by rw [← hw0]; exact heap_alloc_new w _
 have hk0 : Kp w w0 := by rw [← hw0]; exact (Keeps.refl _ w).alloc _
 have hz0 : w.heap.size < w0.heap.size := by rw [← hw0]; simp
 have HD := Lib.hid (dec_one J w0 (J.tk hT hk0) A n c x hm (hr.keep hk0) hn hc hcm)
 have HK0 := Lib.hid hk0
 have HB0 := Lib.hid hb0
 have HZ0 := Lib.hid hz0
 clear hr hn hc hcm hm hw0 hb0 hk0 hz0
 go_enter Tryz.func86, Tryz.ntmps86
 go_wp2_with (rw [HW0.out])
 try rw [HW0.out]
 refine (show Calls _ _ _ _ _ from HD.out).mono ?_
 rintro e w1 ⟨hk, b, o, k, rfl, c0, c1, c2, c3⟩
 have hb1 := (hk.block w.heap.size trivial HZ0.out).trans HB0.out
 have HRES := res4 w w1 hb1 (HK0.out.trans hk)
 obtain ⟨f0, f1, f2, f3, r0, r1, r2, r3⟩ := res4u w w1 hb1
 clear hb1 hk
 obtain ⟨d0, d1, d2, d3, HK⟩ := HRES.out (.string x.key) (.string x.val) (.int .i64 x.till) (.bool x.gone)
 have HKK := Lib.hid HK
 clear HK
 go_wp2_with fail
 exact bodyPost_ret (v := .tuple #[.agg #[.string x.key, .string x.val, .int .i64 x.till, .bool x.gone], .bool true]) (by simp [results, Tryz.results86, go_sem, d0, d1, d2, d3]) rfl ⟨rfl, HKK.out⟩
theorem cdown (w : World) (q lq : Nat) (c0 : w.cell? ⟨q, 0, none⟩ = some (.pointer (some ⟨lq, 0, none⟩))) :
  Calls Tryz.prog 41 #[.pointer (some ⟨q, 0, none⟩)] w fun e w' => e = .returned (.bool false) ∧ w = w' := by
 go_enter Tryz.func41, Tryz.ntmps41
 go_wp2_with fail
 go_ret
 exact ⟨rfl, rfl⟩
theorem cgone (w : World) (k : ByteArray) :
  Calls Tryz.prog 76 #[.string k] w fun e w' => e = .returned (.agg #[.string k, .string ⟨#[]⟩, .int .i64 0, .bool true]) ∧ Kp w w' := by
 obtain ⟨w0, hw0⟩ : ∃ w0, w.alloc (.cells itZ 40) = w0 := ⟨_, rfl⟩
 have HW0 := Lib.hid (show w.alloc (.cells #[.string ⟨#[]⟩, .string ⟨#[]⟩, .int .i64 0, .bool false] 40) = w0 from hw0)
 have hb0 : w0.heap[w.heap.size]? = some (.cells itZ 40 (0, 0)) := by rw [← hw0]; exact heap_alloc_new w _
 have hk0 : Kp w w0 := by rw [← hw0]; exact (Keeps.refl _ w).alloc _
 have HRES := res4 w w0 hb0 hk0
 obtain ⟨f0, f1, f2, f3, r0, r1, r2, r3⟩ := res4u w w0 hb0
 clear hb0 hk0 hw0
 obtain ⟨d0, d1, d2, d3, HK⟩ := HRES.out (.string k) (.string ⟨#[]⟩) (.int .i64 0) (.bool true)
 have HKK := Lib.hid HK
 clear HK HRES
 go_enter Tryz.func76, Tryz.ntmps76
 go_wp2_with (rw [HW0.out])
 try rw [HW0.out]
 try go_wp2_with fail
 exact bodyPost_ret (v := .agg #[.string k, .string ⟨#[]⟩, .int .i64 0, .bool true]) (by simp [results, Tryz.results76, go_sem, d0, d1, d2, d3]) rfl ⟨rfl, HKK.out⟩
structure Lrn (w w' : World) (q : Nat) (Fi Fi' : Foot) : Prop where
 k : Keeps (fun b => b ≠ q ∧ ¬ Fi.M b) w w'
 m : ∀ b, Fi'.M b → Fi.M b ∨ w.heap.size ≤ b
 i : ∀ b, Fi'.I b → Fi.all b ∨ w.heap.size ≤ b
def LearnPost (S : Slog2) (I : IndexOK) (w : World) (p q lq : Nat) (Fl Fi : Foot) (lo : Int) (lst : LSt) (s : SDev) (l : List FRec) (n : Nat) (e : Ending) (w' : World) : Prop :=
 e = .returned (.tuple #[]) ∧ ∃ (iq' : Nat) (Fi' : Foot) (ix' : IxSt), CAt S I w' p q lq iq' Fl Fi' lo lst ix' s ∧ IxSays ix' l n ∧ Lrn w w' q Fi Fi'
section
variable {S : Slog2} {I : IndexOK} {w w1 w2 : World} {p q lq iq : Nat} {Fl Fi Fi' : Foot} {lo : Int} {lst : LSt} {ix ix' : IxSt} {s : SDev}
theorem CAt.learnt (h : CAt S I w1 p q lq iq Fl Fi lo lst ix s) (hk : Kp w w1) (hlt : ∀ b, (cfoot q Fl Fi).all b → b < w.heap.size) (hr : I.rep w2 iq Fi' ix') (hs : Step Fi Fi' w1 w2) : CAt S I w2 p q lq iq Fl Fi' lo lst ix' s ∧ Lrn w w2 q Fi Fi' := by
 have hq : q < w.heap.size := hlt q (cfoot_all.2 (.inl rfl))
 have hfl : ∀ b, Fl.all b → b < w.heap.size := fun b hb => hlt b (cfoot_all.2 (.inr (.inl hb)))
 have hsz := hk.size
 have all' := hs.all
 have hqi : ¬ Fi.M q := fun hm => h.qi (.inl hm)
 refine ⟨⟨h.blk.keep hs.keeps hqi, S.keep h.l (hs.keeps.mono fun b _ hb hm => h.ap.r b hm hb), hr, h.on, ⟨fun b hb hf => ?_, fun b hb hf => ?_⟩, h.ql, fun hf => ?_⟩, ⟨?_, fun b hb => ?_, fun b hb => ?_⟩⟩
 ·rcases all' b hf with h1 | h1
  ·exact h.ap.l b hb h1
  ·have := hfl b (.inl hb); omega
 ·rcases hs.m b hb with h1 | h1
  ·exact h.ap.r b h1 hf
  ·have := hfl b hf; omega
 ·rcases all' q hf with h1 | h1
  ·exact h.qi h1
  ·omega
 ·exact (hk.mono fun _ _ _ => trivial).trans (hs.keeps.mono fun b _ hb => hb.2)
 ·rcases hs.m b hb with h1 | h1
  ·exact .inl h1
  ·exact .inr (by omega)
 ·rcases hs.i b hb with h1 | h1
  ·exact .inl h1
  ·exact .inr (by omega)
end
set_option maxRecDepth 100000 in
set_option maxHeartbeats 1000000 in
theorem learn_put (S : Slog2) (I : IndexOK) (J : ItemOK) (W w : World) (hIT : I.T W) (hJT : J.T w) (p q lq iq : Nat) (Fl Fi : Foot) (lo : Int) (lst : LSt) (ix : IxSt) (s : SDev) (h : CAt S I w p q lq iq Fl Fi lo lst ix s) (hkp : Kp W w) (hgi : ∀ b, Fi.all b → W.heap.size ≤ b)
  (l : List FRec) (n : Nat) (hx : IxSays ix l n) (hn : n ≤ 32768) (x : It) (hm : x.may = true) (hg : x.gone = false) (po : Nat) (hpo : po < 9223372036854775808) (A : Option Addr) (m c : Nat) (hr : Row w A (fun _ => True) (bcells x.bytes)) (hml : m = x.bytes.length) (hmc : m ≤ c) (hcm : c ≤ maxLen) :
  Calls Tryz.prog 72 #[.pointer (some ⟨q, 0, none⟩), .int .i64 (po : Int), .slice A m c] w (LearnPost S I w p q lq Fl Fi lo lst s (l ++ [(po, some x)]) (n + 1)) := by
 have HCV := Lib.hid (hr.to_string (P := Tryz.prog) (src := 64) (dst := 9) Tryz.underlying64 Tryz.underlying5 Tryz.underlying9 m c hml)
 have hne : ((txt x.bytes).toList == [0]) = false := by
  have h4 := x.bytes_four
  refine Bool.eq_false_iff.2 fun e => ?_
  rw [Lib.toList_data, txt_list, beq_iff_eq] at e
  rw [e] at h4
  exact absurd h4 (by decide)
 have HEN := Lib.hid (centry J w hJT A m c x hm hr hml hmc hcm)
 have HLT := Lib.hid h.lt
 have HC := Lib.hid h
 have HPOST := Lib.hid (show ∀ (w1 : World) (hk : Kp w w1), Calls Tryz.prog 108 #[.pointer (some ⟨iq, 0, none⟩), .string x.key, .int .i64 (po : Int)] w1 fun e w2 => (∃ v, e = .returned (.int .i64 v)) ∧ LearnPost S I w p q lq Fl Fi lo lst s (l ++ [(po, some x)]) (n + 1) (.returned (.tuple #[])) w2 from fun w1 hk => by
  refine (I.put W w1 iq Fi ix (h.kp hk).i hIT (hkp.trans hk) hgi (Nat.le_trans hx.len hn) x.key (po : Int) (by have := It.may_is hm; omega) ⟨by omega, by omega⟩).mono ?_
  rintro e w2 ⟨rfl, Fi', hr2, hs2⟩
  have h2 := (h.kp hk).learnt hk h.lt hr2 hs2
  exact ⟨⟨_, rfl⟩, rfl, iq, Fi', _, h2.1, hx.put hg po, h2.2⟩)
 clear h hkp hgi hx hn hm hpo hr hml hmc hcm
 go_enter Tryz.func72, Tryz.ntmps72
 go_wp2_with (rw [HCV.out])
 refine (show Calls _ _ _ _ _ from HEN.out).mono ?_
 rintro e w1 ⟨rfl, hk1⟩
 have HK1 := Lib.hid hk1
 clear hk1
 go_wp2_with fail
 have hk2 : Kp w (w1.alloc (.cells #[.string x.key, .string x.val, .int .i64 x.till, .bool false] 40)) := HK1.out.alloc _
 have x0 : (w1.alloc (.cells #[.string x.key, .string x.val, .int .i64 x.till, .bool false] 40)).cell? ⟨w1.heap.size, 0, none⟩ = some (.string x.key) := (cell_of_block (heap_alloc_new w1 _) 0).trans rfl
 generalize w1.alloc (.cells #[.string x.key, .string x.val, .int .i64 x.till, .bool false] 40) = w2 at hk2 x0 ⊢
 have c1 := hk2.cell HC.out.blk.c1 trivial
 have HK2 := Lib.hid hk2
 clear hk2
 go_still_tail 7, (by kernel_rfl)
 change wpList _ _ _ _ _ w2.drew
 have HKD := Lib.hid (HK2.out.drew)
 replace x0 := ((Keeps.refl (fun _ => True) w2).drew).cell x0 trivial
 replace c1 := ((Keeps.refl (fun _ => True) w2).drew).cell c1 trivial
 generalize w2.drew = wd at HKD x0 c1 ⊢
 go_wp2_with fail
 refine (show Calls _ _ _ _ _ from HPOST.out wd HKD.out).mono ?_
 rintro e w3 ⟨⟨v, rfl⟩, hp⟩
 go_wp2_with fail
 go_end0
 exact hp
set_option maxRecDepth 100000 in
set_option maxHeartbeats 1000000 in
theorem learn_drop (S : Slog2) (I : IndexOK) (J : ItemOK) (W w : World) (hIT : I.T W) (hJT : J.T w) (p q lq iq : Nat) (Fl Fi : Foot) (lo : Int) (lst : LSt) (ix : IxSt) (s : SDev) (h : CAt S I w p q lq iq Fl Fi lo lst ix s) (hkp : Kp W w) (hgi : ∀ b, Fi.all b → W.heap.size ≤ b)
  (l : List FRec) (n : Nat) (hx : IxSays ix l n) (hn : n ≤ 32768) (x : It) (hm : x.may = true) (hg : x.gone = true) (po : Nat) (A : Option Addr) (m c : Nat) (hr : Row w A (fun _ => True) (bcells x.bytes)) (hml : m = x.bytes.length) (hmc : m ≤ c) (hcm : c ≤ maxLen) :
  Calls Tryz.prog 72 #[.pointer (some ⟨q, 0, none⟩), .int .i64 (po : Int), .slice A m c] w (LearnPost S I w p q lq Fl Fi lo lst s (l ++ [(po, some x)]) (n + 1)) := by
 have HCV := Lib.hid (hr.to_string (P := Tryz.prog) (src := 64) (dst := 9) Tryz.underlying64 Tryz.underlying5 Tryz.underlying9 m c hml)
 have hne : ((txt x.bytes).toList == [0]) = false := by
  have h4 := x.bytes_four
  refine Bool.eq_false_iff.2 fun e => ?_
  rw [Lib.toList_data, txt_list, beq_iff_eq] at e
  rw [e] at h4
  exact absurd h4 (by decide)
 have HEN := Lib.hid (centry J w hJT A m c x hm hr hml hmc hcm)
 have HLT := Lib.hid h.lt
 have HC := Lib.hid h
 have HPOST := Lib.hid (show ∀ (w1 : World) (hk : Kp w w1), Calls Tryz.prog 107 #[.pointer (some ⟨iq, 0, none⟩), .string x.key] w1 fun e w2 => (∃ v, e = .returned (.bool v)) ∧ LearnPost S I w p q lq Fl Fi lo lst s (l ++ [(po, some x)]) (n + 1) (.returned (.tuple #[])) w2 from fun w1 hk => by
  refine (I.drop W w1 iq Fi ix (h.kp hk).i hIT (hkp.trans hk) hgi (Nat.le_trans hx.len hn) x.key (by have := It.may_is hm; omega)).mono ?_
  rintro e w2 ⟨rfl, Fi', hr2, hs2⟩
  have h2 := (h.kp hk).learnt hk h.lt hr2 hs2
  exact ⟨⟨_, rfl⟩, rfl, iq, Fi', _, h2.1, hx.drop hg po, h2.2⟩)
 clear h hkp hgi hx hn hm hr hml hmc hcm
 go_enter Tryz.func72, Tryz.ntmps72
 go_wp2_with (rw [HCV.out])
 refine (show Calls _ _ _ _ _ from HEN.out).mono ?_
 rintro e w1 ⟨rfl, hk1⟩
 have HK1 := Lib.hid hk1
 clear hk1
 go_wp2_with fail
 have hk2 : Kp w (w1.alloc (.cells #[.string x.key, .string x.val, .int .i64 x.till, .bool true] 40)) := HK1.out.alloc _
 have x0 : (w1.alloc (.cells #[.string x.key, .string x.val, .int .i64 x.till, .bool true] 40)).cell? ⟨w1.heap.size, 0, none⟩ = some (.string x.key) := (cell_of_block (heap_alloc_new w1 _) 0).trans rfl
 generalize w1.alloc (.cells #[.string x.key, .string x.val, .int .i64 x.till, .bool true] 40) = w2 at hk2 x0 ⊢
 have c1 := hk2.cell HC.out.blk.c1 trivial
 have HK2 := Lib.hid hk2
 clear hk2
 go_still_tail 6, (by kernel_rfl)
 change wpList _ _ _ _ _ w2.drew
 have HKD := Lib.hid (HK2.out.drew)
 replace x0 := ((Keeps.refl (fun _ => True) w2).drew).cell x0 trivial
 replace c1 := ((Keeps.refl (fun _ => True) w2).drew).cell c1 trivial
 generalize w2.drew = wd at HKD x0 c1 ⊢
 go_wp2_with fail
 refine (show Calls _ _ _ _ _ from HPOST.out wd HKD.out).mono ?_
 rintro e w3 ⟨⟨v, rfl⟩, hp⟩
 go_wp2_with fail
 go_end0
 exact hp
set_option maxRecDepth 100000 in
set_option maxHeartbeats 1000000 in
theorem learn_wipe (S : Slog2) (I : IndexOK) (w : World) (hIT : I.T w) (p q lq iq : Nat) (Fl Fi : Foot) (lo : Int) (lst : LSt) (ix : IxSt) (s : SDev) (h : CAt S I w p q lq iq Fl Fi lo lst ix s)
  (l : List FRec) (n : Nat) (po : Nat) (A : Option Addr) (m c : Nat) (hr : Row w A (fun _ => True) (bcells [0])) (hml : m = 1) :
  Calls Tryz.prog 72 #[.pointer (some ⟨q, 0, none⟩), .int .i64 (po : Int), .slice A m c] w (LearnPost S I w p q lq Fl Fi lo lst s (l ++ [(po, none)]) (n + 1)) := by
 have HCV := Lib.hid (hr.to_string (P := Tryz.prog) (src := 64) (dst := 9) Tryz.underlying64 Tryz.underlying5 Tryz.underlying9 m c hml)
 have hne : ((txt [0]).toList == [0]) = true := by rw [Lib.toList_data, txt_list]; decide
 have HNEW := Lib.hid (I.new w hIT)
 have HC := Lib.hid h
 clear hr hml h
 go_enter Tryz.func72, Tryz.ntmps72
 go_wp2_with (rw [HCV.out])
 refine (show Calls _ _ _ _ _ from HNEW.out).mono ?_
 rintro e w1 ⟨iq', Fi', rfl, hi, hF, hk⟩
 have hc1 := HC.out.kp hk
 have c1 := hc1.blk.c1
 have f1 := hc1.blk.f 1
 have HFIN := Lib.hid (show LearnPost S I w p q lq Fl Fi lo lst s (l ++ [(po, none)]) (n + 1) (.returned (.tuple #[])) (w1.setCell ⟨q, 1, none⟩ (.pointer (some ⟨iq', 0, none⟩))) from by
  have hq := HC.out.blk.lt
  have hfl := fun b hb => S.lt HC.out.l b hb
  have hk1 : Keeps (fun b => b ≠ q) w1 (w1.setCell ⟨q, 1, none⟩ (.pointer (some ⟨iq', 0, none⟩))) := (Keeps.refl _ w1).setCell (.inr fun e => e rfl) _
  refine ⟨rfl, iq', Fi', [], ⟨hc1.blk.set1 iq', S.keep hc1.l (hk1.mono fun b _ hb e => HC.out.ql (e ▸ hb)), I.keep hi (hk1.mono fun b _ hb e => ?_), hc1.on, ⟨fun b hb hf => ?_, fun b hb hf => ?_⟩, hc1.ql, fun hf => ?_⟩, IxSays.wipe _ _ _, ⟨(hk.mono fun _ _ _ => trivial).trans (hk1.mono fun b _ hb => hb.1), fun b hb => .inr (hF b (.inl hb)), fun b hb => .inr (hF b (.inr hb))⟩⟩
  ·have := hF b hb; omega
  ·have := hF b hf; have := hfl b (.inl hb); omega
  ·have := hF b (.inl hb); have := hfl b hf; omega
  ·have := hF q hf; omega)
 clear hi hF hk hc1
 go_wp2_with fail
 go_end0
 exact HFIN.out
theorem clearn (S : Slog2) (I : IndexOK) (J : ItemOK) (W w : World) (hIT : I.T W) (hJT : J.T w) (p q lq iq : Nat) (Fl Fi : Foot) (lo : Int) (lst : LSt) (ix : IxSt) (s : SDev) (h : CAt S I w p q lq iq Fl Fi lo lst ix s) (hkp : Kp W w) (hgi : ∀ b, Fi.all b → W.heap.size ≤ b)
  (l : List FRec) (n : Nat) (hx : IxSays ix l n) (hn : n ≤ 32768) (a : FRec) (hm : ∀ x, a.2 = some x → x.may = true) (hpo : a.1 < 9223372036854775808) (A : Option Addr) (m c : Nat) (hr : Row w A (fun _ => True) (bcells (bodyO a.2))) (hml : m = (bodyO a.2).length) (hmc : m ≤ c) (hcm : c ≤ maxLen) :
  Calls Tryz.prog 72 #[.pointer (some ⟨q, 0, none⟩), .int .i64 (a.1 : Int), .slice A m c] w (LearnPost S I w p q lq Fl Fi lo lst s (l ++ [a]) (n + 1)) := by
 obtain ⟨po, y⟩ := a
 cases y with
 | none => exact learn_wipe S I w (I.tk hIT hkp) p q lq iq Fl Fi lo lst ix s h l n po A m c hr hml
 | some x =>
  cases hg : x.gone with
  | false => exact learn_put S I J W w hIT hJT p q lq iq Fl Fi lo lst ix s h hkp hgi l n hx hn x (hm x rfl) hg po hpo A m c hr hml hmc hcm
  | true => exact learn_drop S I J W w hIT hJT p q lq iq Fl Fi lo lst ix s h hkp hgi l n hx hn x (hm x rfl) hg po A m c hr hml hmc hcm
def nextF (st : FSt) (y : Option It) (g : Nat) : FSt :=
 match y with
 | some x => ⟨st.place, st.segs, st.ents ++ [⟨x, 0⟩], g, st.age + 1⟩
 | none => ⟨st.place, st.segs, [], 0, st.age + 1⟩
theorem fm_next (st : FSt) {lst : LSt} {hs : List FRec} (h : FM st lst hs) {y : Option It} (hm : ∀ x, y = some x → x.may = true) {p pos g f z : Nat} (hg : lst.gone ≤ g) (hg2 : g ≤ lst.hist.length + 1) (hz : z ≤ lst.next + 1048576) (hold : st.age + 1 ≤ 30000) :
  ∃ g', st.gone ≤ g' ∧ FM (nextF st y g') ⟨p, lst.place, lst.segs, lst.hist ++ [⟨pos, bodyO y, 0⟩], g, f, z⟩ (hs ++ [(pos, y)]) := by
 cases y with
 | none => exact ⟨st.gone, Nat.le_refl _, h.wiped hg2 hz hold⟩
 | some x => exact h.add (hm x rfl) hg hz hold
theorem bodyO_len {y : Option It} (hm : ∀ x, y = some x → x.may = true) : 1 ≤ (bodyO y).length ∧ (bodyO y).length ≤ 280 := by
 cases y with
 | none => exact ⟨Nat.le_refl _, by show 1 ≤ 280; decide⟩
 | some x => exact ⟨by have := x.bytes_four; show 1 ≤ x.bytes.length; omega, It.bytes_len (hm x rfl)⟩
theorem nextF_age (st : FSt) (y : Option It) (g : Nat) : (nextF st y g).age = st.age + 1 := by cases y <;> rfl
theorem nextF_has (st : FSt) (y : Option It) (g i : Nat) : (nextF st y g).has i ↔ st.has i := by cases y <;> rfl
structure Mid (S : Slog2) (I : IndexOK) (w w1 : World) (p q lq iq : Nat) (F Fl Fi F' Fl' : Foot) (lo : Int) (lst lst' : LSt) (ix : IxSt) (s s' : SDev) : Prop where
 d : DAt w1 p F' s'
 c : CAt S I w1 p q lq iq Fl' Fi lo lst' ix s'
 k : Keeps (fun b => ¬ F.M b ∧ ¬ Fl.M b) w w1
 f1 : ∀ b, F'.M b → F.M b ∨ w.heap.size ≤ b
 f2 : ∀ b, F'.I b → F.all b ∨ w.heap.size ≤ b
 f3 : ∀ b, Fl'.M b → Fl.M b ∨ w.heap.size ≤ b
 f4 : ∀ b, Fl'.I b → Fl.all b ∨ w.heap.size ≤ b
 ap : Apart F' Fl'
section
variable {S : Slog2} {I : IndexOK} {w w1 w2 : World} {p q lq iq iq' : Nat} {F Fl Fi F' Fl' Fi' : Foot} {lo : Int} {lst lst' : LSt} {ix ix' : IxSt} {s s' : SDev}
theorem apart_log (ha : Apart F (cfoot q Fl Fi)) : Apart F Fl :=
 ⟨fun b hb hf => ha.l b hb (cfoot_all.2 (.inr (.inl hf))), fun b hb hf => ha.r b (.inr (.inl hb)) hf⟩
theorem Mid.of (hc : CAt S I w p q lq iq Fl Fi lo lst ix s) (hd : DAt w p F s) (ha : Apart F (cfoot q Fl Fi)) (hd' : DAt w1 p F' s') (hr : S.rep w1 lq Fl' lst' s') (hon : lst'.dev = p) (hap : Apart F' Fl') (hk : Keeps (fun b => ¬ F.M b ∧ ¬ Fl.M b) w w1)
  (f1 : ∀ b, F'.M b → F.M b ∨ w.heap.size ≤ b) (f2 : ∀ b, F'.I b → F.all b ∨ w.heap.size ≤ b) (f3 : ∀ b, Fl'.M b → Fl.M b ∨ w.heap.size ≤ b) (f4 : ∀ b, Fl'.I b → Fl.all b ∨ w.heap.size ≤ b) : Mid S I w w1 p q lq iq F Fl Fi F' Fl' lo lst lst' ix s s' := by
 have hlt := hc.lt
 have hq : q < w.heap.size := hlt q (cfoot_all.2 (.inl rfl))
 have all' : ∀ b, Fl'.all b → Fl.all b ∨ w.heap.size ≤ b := fun b hb => by
  rcases hb with hb | hb
  ·rcases f3 b hb with h1 | h1
   ·exact .inl (.inl h1)
   ·exact .inr h1
  ·exact f4 b hb
 refine ⟨hd', ⟨hc.blk.keep hk ⟨fun hm => ha.l q hm (cfoot_all.2 (.inl rfl)), fun hm => hc.ql (.inl hm)⟩, hr, I.keep hc.i (hk.mono fun b _ hb => ⟨fun hm => ha.l b hm (cfoot_all.2 (.inr (.inr hb))), fun hm => hc.ap.l b hm hb⟩), hon, ⟨fun b hb hf => ?_, fun b hb hf => ?_⟩, fun hf => ?_, hc.qi⟩, hk, f1, f2, f3, f4, hap⟩
 ·rcases f3 b hb with h1 | h1
  ·exact hc.ap.l b h1 hf
  ·have := I.lt hc.i b hf; omega
 ·rcases all' b hf with h1 | h1
  ·exact hc.ap.r b hb h1
  ·have := I.lt hc.i b (.inl hb); omega
 ·rcases all' q hf with h1 | h1
  ·exact hc.ql h1
  ·omega
theorem Mid.go (hm : Mid S I w w1 p q lq iq F Fl Fi F' Fl' lo lst lst' ix s s') (hc : CAt S I w p q lq iq Fl Fi lo lst ix s) (hd : DAt w p F s) (ha : Apart F (cfoot q Fl Fi)) {lo' : Int} (_hc2 : CAt S I w2 p q lq iq' Fl' Fi' lo' lst' ix' s') (hl : Lrn w1 w2 q Fi Fi') {st : FSt} {n : Nat}
  (hlen : s'.now.length = s.now.length) (hout : ∀ i, ¬ st.has i → s'.now.getD i [] = s.now.getD i []) (hcalls : s'.calls ≤ s.calls + 1000 * n) :
  DAt w2 p F' s' ∧ FGo w w2 F F' (cfoot q Fl Fi) (cfoot q Fl' Fi') s s' st n := by
 have hlt := hc.lt
 have hq : q < w.heap.size := hlt q (cfoot_all.2 (.inl rfl))
 have hsz := hm.k.size
 have f2' : ∀ b, F'.all b → F.all b ∨ w.heap.size ≤ b := fun b hb => by
  rcases hb with hb | hb
  ·rcases hm.f1 b hb with h1 | h1
   ·exact .inl (.inl h1)
   ·exact .inr h1
  ·exact hm.f2 b hb
 have fi' : ∀ b, Fi'.all b → Fi.all b ∨ w1.heap.size ≤ b := fun b hb => by
  rcases hb with hb | hb
  ·rcases hl.m b hb with h1 | h1
   ·exact .inl (.inl h1)
   ·exact .inr h1
  ·exact hl.i b hb
 have hFq : ¬ F'.all q := fun hf => by
  rcases f2' q hf with h1 | h1
  ·exact ha.r q (.inl rfl) h1
  ·omega
 have hFi : ∀ b, Fi.M b → ¬ F'.all b := fun b hb hf => by
  rcases f2' b hf with h1 | h1
  ·exact ha.r b (.inr (.inr hb)) h1
  ·have := hlt b (cfoot_all.2 (.inr (.inr (.inl hb)))); omega
 have hFM : ∀ b, F'.M b → ¬ Fi.all b := fun b hb hf => by
  rcases hm.f1 b hb with h1 | h1
  ·exact ha.l b h1 (cfoot_all.2 (.inr (.inr hf)))
  ·have := hlt b (cfoot_all.2 (.inr (.inr hf))); omega
 refine ⟨hm.d.keep (hl.k.mono fun b _ hb => ⟨fun e => hFq (e ▸ hb), fun h => hFi b h hb⟩), ⟨⟨fun b hb hf => ?_, fun b hb hf => ?_⟩, ?_, hm.f1, hm.f2, fun b hb => ?_, fun b hb => ?_, hlen, hout, hcalls⟩⟩
 ·rcases cfoot_all.1 hf with rfl | hf | hf
  ·exact hFq (.inl hb)
  ·exact hm.ap.l b hb hf
  ·rcases fi' b hf with h1 | h1
   ·exact hFM b hb h1
   ·have := hm.d.lt b (.inl hb); omega
 ·rcases hb with rfl | hb | hb
  ·exact hFq hf
  ·exact hm.ap.r b hb hf
  ·rcases hl.m b hb with h1 | h1
   ·exact hFi b h1 hf
   ·have := hm.d.lt b hf; omega
 ·refine (hm.k.mono fun b _ hb => ⟨hb.1, fun h => hb.2 (.inr (.inl h))⟩).trans (hl.k.mono fun b _ hb => ⟨fun e => hb.2 (.inl e), fun h => hb.2 (.inr (.inr h))⟩)
 ·rcases hb with rfl | hb | hb
  ·exact .inl (.inl rfl)
  ·rcases hm.f3 b hb with h1 | h1
   ·exact .inl (.inr (.inl h1))
   ·exact .inr h1
  ·rcases hl.m b hb with h1 | h1
   ·exact .inl (.inr (.inr h1))
   ·exact .inr (by omega)
 ·rcases hb with hb | hb
  ·rcases hm.f4 b hb with h1 | h1
   ·exact .inl (cfoot_all.2 (.inr (.inl h1)))
   ·exact .inr h1
  ·rcases hl.i b hb with h1 | h1
   ·exact .inl (cfoot_all.2 (.inr (.inr h1)))
   ·exact .inr (by omega)
end
theorem kp_over {W w w1 : World} {F Fl : Foot} (kp : Kp W w) (hk : Keeps (fun b => ¬ F.M b ∧ ¬ Fl.M b) w w1) (gf : ∀ b, F.all b → W.heap.size ≤ b) (gs : ∀ b, Fl.all b → W.heap.size ≤ b) : Kp W w1 :=
 ⟨hk.os.trans kp.os, hk.tape.trans kp.tape, hk.output.trans kp.output, Nat.le_trans kp.size hk.size, fun b _ hb =>
  (hk.block b ⟨fun hm => by have := gf b (.inl hm); omega, fun hm => by have := gs b (.inl hm); omega⟩ (Nat.lt_of_lt_of_le hb kp.size)).trans (kp.block b trivial hb)⟩
theorem Lrn.trans {w1 w2 w3 : World} {q : Nat} {Fi Fi1 Fi2 : Foot} (h : Lrn w1 w2 q Fi Fi1) (k : Lrn w2 w3 q Fi1 Fi2) (hq : q < w1.heap.size) : Lrn w1 w3 q Fi Fi2 := by
 have hsz := h.k.size
 refine ⟨⟨k.k.os.trans h.k.os, k.k.tape.trans h.k.tape, k.k.output.trans h.k.output, Nat.le_trans hsz k.k.size, fun b hb hlt => ?_⟩, fun b hb => ?_, fun b hb => ?_⟩
 ·refine (k.k.block b ⟨hb.1, fun hm => ?_⟩ (Nat.lt_of_lt_of_le hlt hsz)).trans (h.k.block b hb hlt)
  rcases h.m b hm with h1 | h1
  ·exact hb.2 h1
  ·omega
 ·rcases k.m b hb with h1 | h1
  ·exact h.m b h1
  ·exact .inr (by omega)
 ·rcases k.i b hb with h1 | h1
  ·rcases h1 with h1 | h1
   ·rcases h.m b h1 with h2 | h2
    ·exact .inl (.inl h2)
    ·exact .inr h2
   ·exact h.i b h1
  ·exact .inr (by omega)
def AddPost (S : Slog2) (I : IndexOK) (w : World) (p q : Nat) (F Fs : Foot) (s : SDev) (st : FSt) (y : Option It) (e : Ending) (w' : World) : Prop :=
 e = .returned (.int .i64 0) ∧ ∃ (F' Fs' : Foot) (s' : SDev) (g : Nat), st.gone ≤ g ∧ DAt w' p F' s' ∧ flashRep S I w' p q Fs' (nextF st y g) s' ∧ FGo w w' F F' Fs Fs' s s' st 1
set_option maxRecDepth 100000 in
set_option maxHeartbeats 2000000 in
theorem cadd (S : Slog2) (I : IndexOK) (J : ItemOK) (W w : World) (hT : S.T W ∧ I.T W ∧ J.T W) (p q : Nat) (F Fs : Foot) (s : SDev) (st : FSt) (hb : Cb S I W w p q F Fs s st) (hage : st.age ≤ 25000) (hcl : s.calls ≤ 549755813888) (y : Option It) (hy : ∀ x, y = some x → x.may = true)
  (A : Option Addr) (n c : Nat) (hrow : Row w A (fun b => ¬ F.all b ∧ ¬ Fs.all b) (bcells (bodyO y))) (hn : n = (bodyO y).length) (hlc : n ≤ c) (hcm : c ≤ maxLen) :
  Calls Tryz.prog 44 #[.pointer (some ⟨q, 0, none⟩), .slice A n c] w (AddPost S I w p q F Fs s st y) := by
 obtain ⟨d, r, ap, kp, gf, gs, room⟩ := hb
 obtain ⟨lq, iq, Fl, Fi, lo, lst, ix, hs, rfl, hc, hm, hx⟩ := r
 have hl := bodyO_len hy
 have gl : ∀ b, Fl.all b → W.heap.size ≤ b := fun b hb => gs b (cfoot_all.2 (.inr (.inl hb)))
 have gi : ∀ b, Fi.all b → W.heap.size ≤ b := fun b hb => gs b (cfoot_all.2 (.inr (.inr hb)))
 have HF1 := Lib.hid (S.first2 w lq Fl s lst hc.l)
 have ha := S.append W w p lq F Fl s lst d hc.l hc.on (apart_log ap) hT.1 kp gf gl (by rw [hm.place, hm.segs]; exact room) hcl (by have := hm.next; omega) A c (fun b => ¬ F.all b ∧ ¬ (cfoot q Fl Fi).all b) (bodyO y) hrow (fun b hb => hb.1) (fun b hb h => hb.2 (cfoot_all.2 (.inr (.inl h)))) (by omega) hcm hl.1 (by omega)
 rw [← hn] at ha
 have HA := Lib.hid ha
 clear ha
 have c0 := hc.blk.c0
 have HL := Lib.hid (show ∀ (w1 : World) (x : Nat) (F' Fl' : Foot) (s' : SDev) (g f nx : Nat), DAt w1 p F' s' → S.rep w1 lq Fl' ⟨p, lst.place, lst.segs, lst.hist ++ [⟨x, bodyO y, 0⟩], g, f, nx⟩ s' → lst.gone ≤ g → lst.next ≤ x → nx ≤ lst.next + 1048576 → s'.now.length = s.now.length → (∀ i, ¬ lst.has i → s'.now.getD i [] = s.now.getD i []) → s'.calls ≤ s.calls + 1000 → Apart F' Fl' → Keeps (fun b => ¬ F.M b ∧ ¬ Fl.M b) w w1 →
   (∀ b, F'.M b → F.M b ∨ w.heap.size ≤ b) → (∀ b, F'.I b → F.all b ∨ w.heap.size ≤ b) → (∀ b, Fl'.M b → Fl.M b ∨ w.heap.size ≤ b) → (∀ b, Fl'.I b → Fl.all b ∨ w.heap.size ≤ b) →
   w1.cell? ⟨q, 0, none⟩ = some (.pointer (some ⟨lq, 0, none⟩)) ∧ Calls Tryz.prog 72 #[.pointer (some ⟨q, 0, none⟩), .int .i64 (x : Int), .slice A n c] w1 fun e w2 => e = .returned (.tuple #[]) ∧ ∃ (iq' : Nat) (Fi' : Foot) (ix' : IxSt), CBlk w2 q lq iq' lo ∧ S.rep w2 lq Fl' ⟨p, lst.place, lst.segs, lst.hist ++ [⟨x, bodyO y, 0⟩], g, f, nx⟩ s' ∧ f < 9223372036854775808 ∧ lst.first < 9223372036854775808 ∧ (f = lst.first → AddPost S I w p q F (cfoot q Fl Fi) s st y (.returned (.int .i64 0)) w2) ∧
    ∀ w3, Kp w2 w3 → Calls Tryz.prog 73 #[.pointer (some ⟨iq', 0, none⟩), .int .i64 (f : Int)] w3 fun e w4 => (∃ v, e = .returned (.int .i64 v)) ∧ AddPost S I w p q F (cfoot q Fl Fi) s st y (.returned (.int .i64 0)) w4 from by
  intro w1 x F' Fl' s' g f nx hd' hrep' hgg hxn hnn hlen hout hcalls hap' hk' f1 f2 f3 f4
  have hok := S.wf hc.l
  have hok' := S.wf hrep'
  have hp := S.past hc.l
  have hp' := S.past hrep'
  have hfx : f < 9223372036854775808 := by have h1 := hp'.1; have h2 := hok'.small; simp only at h1 h2; omega
  have hf0 : lst.first < 9223372036854775808 := by have h1 := hp.1; have h2 := hok.small; omega
  obtain ⟨g', hgg', hm'⟩ := fm_next st hm hy (p := p) (pos := x) (f := f) hgg (by have := hok'.gone; simpa using this) hnn (by omega)
  have hmid := Mid.of hc d ap hd' hrep' rfl hap' hk' f1 f2 f3 f4
  have kp1 := kp_over kp hk' gf gl
  have hq1 := hmid.c.blk.lt
  have hxs : x < 9223372036854775808 := by
   have h1 := hok'.next.2 ⟨x, bodyO y, 0⟩ (by simp)
   have h2 := hok'.small
   simp only at h1 h2
   omega
  have hfin : ∀ (w4 : World) (iq' : Nat) (Fi' : Foot) (ix' : IxSt), CAt S I w4 p q lq iq' Fl' Fi' lo ⟨p, lst.place, lst.segs, lst.hist ++ [⟨x, bodyO y, 0⟩], g, f, nx⟩ ix' s' → IxSays ix' ((hs ++ [(x, y)]).drop g) (st.age + 1) → Lrn w1 w4 q Fi Fi' → AddPost S I w p q F (cfoot q Fl Fi) s st y (.returned (.int .i64 0)) w4 := fun w4 iq' Fi' ix' hc4 hx4 hl4 => by
   obtain ⟨hD, hG⟩ := hmid.go hc d ap hc4 hl4 (st := st) (n := 1) hlen (fun i hi => hout i fun hh => hi ((hm.has i).1 hh)) (by omega)
   exact ⟨rfl, F', _, s', g', hgg', hD, ⟨lq, iq', Fl', Fi', lo, _, ix', hs ++ [(x, y)], rfl, hc4, hm', by rw [nextF_age]; exact hx4⟩, hG⟩
  refine ⟨hmid.c.blk.c0, (clearn S I J W w1 hT.2.1 (J.tk hT.2.2 kp1) p q lq iq Fl' Fi lo _ ix s' hmid.c kp1 gi (hs.drop lst.gone) st.age hx (by omega) (x, y) hy hxs A n c ((hrow.keep (hk'.mono fun b _ hb => ⟨fun h => hb.1 (.inl h), fun h => hb.2 (cfoot_all.2 (.inr (.inl (.inl h))))⟩)).mono fun _ _ _ => trivial) hn hlc hcm).mono ?_⟩
  rintro e w2 ⟨rfl, iq', Fi', ix', hc2, hx2, hl2⟩
  have hkept := ix_kept (g' := g) (f := lst.first) (f' := f) hx2 (by rw [← hm.len]; exact hok.gone) hgg (pos_ge (P := fun z => lst.first ≤ z) hm.pos _ hok.first) (Nat.le_trans hp.1 hxn) (pos_lt (P := fun z => z < f) hm'.pos g hp'.2) (pos_ge (P := fun z => f ≤ z) hm'.pos g hok'.first)
  refine ⟨rfl, iq', Fi', ix', hc2.blk, hc2.l, hfx, hf0, fun hf => hfin w2 iq' Fi' ix' hc2 (hkept.1 hf) hl2, fun w3 hk3 => ?_⟩
  have kp2 : Kp W w2 := ⟨hl2.k.os.trans kp1.os, hl2.k.tape.trans kp1.tape, hl2.k.output.trans kp1.output, Nat.le_trans kp1.size hl2.k.size, fun b _ hb =>
   (hl2.k.block b ⟨fun e => by have := gs q (cfoot_all.2 (.inl rfl)); omega, fun h => by have := gi b (.inl h); omega⟩ (Nat.lt_of_lt_of_le hb kp1.size)).trans (kp1.block b trivial hb)⟩
  have gi2 : ∀ b, Fi'.all b → W.heap.size ≤ b := fun b hb => by
   have hsz := kp1.size
   rcases hb with hb | hb
   ·rcases hl2.m b hb with h1 | h1
    ·exact gi b (.inl h1)
    ·omega
   ·rcases hl2.i b hb with h1 | h1
    ·exact gi b h1
    ·omega
  refine (I.below W w3 iq' Fi' ix' (hc2.kp hk3).i hT.2.1 (kp2.trans hk3) gi2 (Nat.le_trans hx2.len (by omega)) (f : Int) ⟨by omega, by omega⟩).mono ?_
  rintro e w4 ⟨rfl, Fi2, hr4, hs4⟩
  have h4 := (hc2.kp hk3).learnt hk3 hc2.lt hr4 hs4
  exact ⟨⟨_, rfl⟩, hfin w4 iq' Fi2 _ h4.1 hkept.2 (hl2.trans h4.2 hq1)⟩)
 clear hc hm hx hl gl gi room hrow hn hlc hcm hcl hage d ap kp gf gs
 generalize lst.first = f0 at HF1 HL
 go_enter Tryz.func44, Tryz.ntmps44
 go_wp2_with fail
 refine (show Calls _ _ _ _ _ from HF1.out).mono ?_
 rintro e w' ⟨rfl, rfl⟩
 go_wp2_with fail
 refine (show Calls _ _ _ _ _ from HA.out).mono ?_
 rintro e w1 ⟨x, F', Fl', s', g, f, nx, rfl, hd', hrep', hgg, hxn, hnn, hlen, hout, hcalls, hap', hk', f1, f2, f3, f4⟩
 obtain ⟨c1, hlearn⟩ := HL.out w1 x F' Fl' s' g f nx hd' hrep' hgg hxn hnn hlen hout hcalls hap' hk' f1 f2 f3 f4
 have HLN := Lib.hid hlearn
 clear hlearn hd' hrep' hgg hxn hnn hlen hout hcalls hap' hk' f1 f2 f3 f4 c0
 go_wp2_with fail
 refine (show Calls _ _ _ _ _ from HLN.out).mono ?_
 rintro e w2 ⟨rfl, iq', Fi', ix', hbk, hrep2, hfx, hf0, hsame, hbelow⟩
 have c2 := hbk.c0
 have c3 := hbk.c1
 have HF2 := Lib.hid (S.first2 _ _ _ _ _ hrep2)
 have HF3 := Lib.hid (S.first2 _ _ _ _ _ (S.keep hrep2 ((Keeps.refl _ w2).drew)))
 have HS := Lib.hid hsame
 have HB := Lib.hid (hbelow w2.drew ((Keeps.refl _ w2).drew))
 have HFX := Lib.hid hfx
 have HF0 := Lib.hid hf0
 clear hsame hbelow hbk hrep2 hfx hf0 c1
 go_wp2_with fail
 refine (show Calls _ _ _ _ _ from HF2.out).mono ?_
 rintro e w3 ⟨rfl, rfl⟩
 by_cases hf : f = f0
 ·have HP := Lib.hid (HS.out hf)
  subst hf
  go_wp2_with fail
  go_ret
  exact HP.out
 ·have t1 : ((f : Int) != (f0 : Int)) = true := bne_iff_ne.2 (by omega)
  clear hf
  go_wp2_with fail
  go_still_tail 9, (by kernel_rfl)
  still_call HF3.out
  refine wpStill_nil ?_
  change wpList _ _ _ _ _ w3.drew
  generalize w3.drew = wd at HB ⊢
  go_wp2_with fail
  refine (show Calls _ _ _ _ _ from HB.out).mono ?_
  rintro e w4 ⟨⟨v, rfl⟩, hp⟩
  go_wp2_with fail
  go_ret
  exact hp
end Go.Proofs.YticophaepapjoaaGreatDoor
