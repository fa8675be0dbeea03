/-
  THE PROGRAM's MESSAGES (layer 19): body, Encode. WRITTEN by wip/gen19b.py from wip/tpl/XMsBody.gen.
-/
import Derived.Test.YtpijhpfcigjkeaaDoorMsTexts
import Derived.Test.YtpijhpfcigjkeaaDoorAllMsMy
import Derived.Test.YtpijhpfcigjkeaaDoorMsSeal
namespace Go.Proofs.YtpijhpfcigjkeaaDoor
open Go Go.RowKit Go.Joins

def tsM (m : Ms) : List ByteArray := [m.key, txt (bytesOf (itemL m.item)), txt (encs m.items), txt (marksOf m.marks), txt (putsZ m.mem), txt (putsZ m.old)]
theorem tsM_strs {m : Ms} (h : m.items.all It.may = true) : strs (tsM m) = textsM m := by
  unfold strs tsM textsM
  simp [txt_list, encs_may h]
theorem tsM_total {m : Ms} (h : mayM m = true) : total (tsM m) ≤ 7200 := by
  have h2 := texts_len h
  rw [← tsM_strs (mayM_parts h).2.2.1] at h2
  have e : ∀ s ∈ tsM m, s.size ≤ 1200 := fun s hs => by
    have := h2 s.data.toList (List.mem_map.2 ⟨s, hs, rfl⟩)
    simpa using this
  have key : ∀ l : List ByteArray, (∀ s ∈ l, s.size ≤ 1200) → total l ≤ 1200 * l.length := by
    intro l
    induction l with
    | nil => intro _; simp [total]
    | cons s l ih =>
      intro hl
      have a := hl s (by simp)
      have b := ih fun u hu => hl u (by simp [hu])
      simp only [total, List.map_cons, List.sum_cons, List.length_cons] at b ⊢
      omega
  exact key _ e
section
variable {o : Oper} {a : Act} {w : World} {Q : Exit → Act → World → Prop} {x x1 x2 x3 x4 x5 x6 : Operand}
theorem kq_row6T {s1 s2 s3 s4 s5 s6 : ByteArray} (ho : o.op = .buildSlice 105 6 #[(0, x1), (1, x2), (2, x3), (3, x4), (4, x5), (5, x6)]) (h1 : a.eval x1 = .string s1) (h2 : a.eval x2 = .string s2) (h3 : a.eval x3 = .string s3) (h4 : a.eval x4 = .string s4) (h5 : a.eval x5 = .string s5) (h6 : a.eval x6 = .string s6) :
    o.wp Tryd.prog a w (fun a' w' => ∃ v, a' = a.put o.dst v ∧ Kp w w' ∧ (Kn.row [.string s1, .string s2, .string s3, .string s4, .string s5, .string s6]).V w' v) Q := by
  refine kp_yield (v := .slice (some ⟨w.heap.size, 0, none⟩) 6 6) (w' := w.alloc (.cells #[.string s1, .string s2, .string s3, .string s4, .string s5, .string s6] 9)) ?_ ((Keeps.refl _ w).alloc _) ⟨_, rfl, Row.fresh w #[.string s1, .string s2, .string s3, .string s4, .string s5, .string s6] 9 (0, 0) _ rfl trivial _ rfl⟩
  generalize a.eval = ρ at h1 h2 h3 h4 h5 h6
  unfold execOp
  go_simp
theorem kq_puttext {ts : List ByteArray} {base : Nat} {t1 t2 : TypeId} (hb : base ≤ w.heap.size) (h1 : total ts ≤ 137438953472) (h2 : ts.length ≤ 100) (ho : o.op = .call { callee := .value (.func 49), args := #[.const (.slice none 0 0), x], argTypes := #[t1, t2] }) (hx : (Kn.row (ts.map Value.string)).V w (a.eval x)) :
    o.wp Tryd.prog a w (fun a' w' => ∃ v, a' = a.put o.dst v ∧ Kp w w' ∧ (Kn.own base 5 (putsT (strs ts)).length (bcells (putsT (strs ts)))).V w' v) Q := by
  obtain ⟨B, e, hr⟩ := hx
  rw [List.length_map] at e
  have hc := put_text none (some ⟨B, 0, none⟩) 0 ts.length (fun _ => True) (fun _ => True) [] ts w (Row.nil _ _ _) hr h1 (by simp) (by omega)
  refine kp_enter (f := 49) (args := #[.slice none 0 0, .slice (some ⟨B, 0, none⟩) ts.length ts.length]) ?_ hc ?_
  · have hf : a.eval (.func 49) = .func (.func 49) #[] #[] := rfl
    have hn : a.eval (.const (.slice none 0 0)) = .slice none 0 0 := rfl
    generalize a.eval = ρ at e hf hn ⊢
    unfold execOp
    rw [ho]
    go_simp
  · rintro e w' ⟨v, rfl, ho, hk⟩
    exact ⟨v, rfl, hk, ownsRow_le ho hb⟩
end
theorem cg_itemText (v : Value) (w : World) : (callFunc 50 #[v]).run Tryd.prog w = .ok (.enter 50 #[v]) w := by go_simp
theorem cg_itemsText (v : Value) (w : World) : (callFunc 51 #[v]).run Tryd.prog w = .ok (.enter 51 #[v]) w := by go_simp
theorem cg_marksText (v : Value) (w : World) : (callFunc 52 #[v]).run Tryd.prog w = .ok (.enter 52 #[v]) w := by go_simp
theorem cg_nodesText (v : Value) (w : World) : (callFunc 53 #[v]).run Tryd.prog w = .ok (.enter 53 #[v]) w := by go_simp

def bodyKV (m : Ms) (a : MsA) (g W : Nat) : List Kn :=
  [.is (.pointer (some ⟨g, 9, none⟩)), .is (.string m.key), .is (.pointer (some ⟨g, 12, none⟩)), .is (.agg #[.string m.item.key, .string m.item.val, .int .i64 m.item.till, .bool m.item.gone]), .is (.string (txt (bytesOf (itemL m.item)))), .is (.pointer (some ⟨g, 16, none⟩)), .is (.slice a.ia m.items.length a.ic), .is (.string (txt (encs m.items))), .is (.pointer (some ⟨g, 17, none⟩)), .is (.slice a.ma m.marks.length a.mc), .is (.string (txt (marksOf m.marks))), .is (.pointer (some ⟨g, 18, none⟩)), .is (.slice a.ba m.mem.length a.bc), .is (.string (txt (putsZ m.mem))), .is (.pointer (some ⟨g, 20, none⟩)), .is (.slice a.oa m.old.length a.oc), .is (.string (txt (putsZ m.old))), .row ((tsM m).map Value.string), .own W 5 (putsT (strs (tsM m))).length (bcells (putsT (strs (tsM m)))), .own W 5 (putsT (strs (tsM m))).length (bcells (putsT (strs (tsM m))))]
def bodyKG : List (Nat × Option Bool) := []

set_option maxRecDepth 100000 in
set_option maxHeartbeats 4000000 in
theorem mbody (w : World) (m : Ms) (a : MsA) (hm : MsAt w m a) (h : mayM m = true) :
    Calls Tryd.prog 37 #[msV m a] w fun e w' => ∃ v, e = .returned v ∧ OwnB w' w.heap.size v (bodyM m) ∧ Kp w w' := by
  have HM := Lib.hid hm
  have FM := Lib.hid (may_fits19 h)
  have HB := Lib.hid (listB_is (mayM_parts h).2.1)
  have HMK := Lib.hid (mark_is (mayM_parts h).2.2.2)
  have HT := Lib.hid (tsM_total h)
  have HS := Lib.hid (tsM_strs (mayM_parts h).2.2.1)
  have HH := Lib.hid (mayM_parts h).1
  have HL := Lib.hid (bodyM_len h)
  obtain ⟨vM, hvM⟩ : ∃ v, msV m a = v := ⟨_, rfl⟩
  have HVM := Lib.hid hvM
  rw [hvM]
  clear hm h hvM
  go_enter Tryd.func37, Tryd.ntmps37
  go_upto_region 1 with (refine list_boxM rfl (.tmp 0) rfl m a HVM.out.symm ?_; intro w1 hb1 hk1 hs1)
  obtain ⟨g, hg⟩ : ∃ g, w.heap.size = g := ⟨_, rfl⟩
  have HG := Lib.hid hg
  rw [hg] at hb1 hs1 ⊢
  have HB1 := Lib.hid hb1
  have HK := Lib.hid hk1
  have cellsM : ∀ {w5 : World}, Kp w1 w5 → ∀ (i : Nat) (v : Value), (msC m a)[i]? = some v → w5.cell? ⟨g, i, none⟩ = some v := fun h i v hv => (HB1.out.kp h).cell i v hv
  clear hb1 hk1 hs1 hg
  refine wp_region_knD (bodyKV m a g w.heap.size) (bodyKG ) (by kernel_rfl) (by kernel_rfl) ?_ (each_of ?_) (each_of ?_) ?_
  · intro p hp; cases hp
  · refine ⟨?_, ?_, ?_, ?_, ?_, ?_, ?_, ?_, ?_, ?_, ?_, ?_, ?_, ?_, ?_, ?_, ?_, ?_, ?_, ?_, trivial⟩ <;> intro hw
    · exact nomatch (show true = false from hw)
    · exact nomatch (show true = false from hw)
    · exact nomatch (show true = false from hw)
    · exact nomatch (show true = false from hw)
    · exact nomatch (show true = false from hw)
    · exact nomatch (show true = false from hw)
    · exact nomatch (show true = false from hw)
    · exact nomatch (show true = false from hw)
    · exact nomatch (show true = false from hw)
    · exact nomatch (show true = false from hw)
    · exact nomatch (show true = false from hw)
    · exact nomatch (show true = false from hw)
    · exact nomatch (show true = false from hw)
    · exact nomatch (show true = false from hw)
    · exact nomatch (show true = false from hw)
    · exact nomatch (show true = false from hw)
    · exact nomatch (show true = false from hw)
    · exact nomatch (show true = false from hw)
    · exact nomatch (show true = false from hw)
    · exact nomatch (show true = false from hw)
  · refine ⟨?_, ?_, ?_, ?_, ?_, ?_, ?_, ?_, ?_, ?_, ?_, ?_, ?_, ?_, ?_, ?_, ?_, ?_, ?_, ?_, trivial⟩ <;> intro hw a1 w3 L
    · exact kp_f19_9 rfl (L.old 1 (by kernel_rfl))
    · exact kp_ld19T (cellsM L.rel 9 (.string m.key) rfl) rfl (L.val 0 4 (by kernel_rfl) (by kernel_rfl))
    · exact kp_f19_12 rfl (L.old 1 (by kernel_rfl))
    · exact kp_ld19Y (cellsM L.rel 12 (.string m.item.key) rfl) (cellsM L.rel 13 (.string m.item.val) rfl) (cellsM L.rel 14 (.int .i64 m.item.till) rfl) (cellsM L.rel 15 (.bool m.item.gone) rfl) rfl (L.val 2 6 (by kernel_rfl) (by kernel_rfl))
    · exact kp_c19 (cg_itemText _ _) (item_text _ m.item FM.out.item) rfl (L.val 3 7 (by kernel_rfl) (by kernel_rfl))
    · exact kp_f19_13 rfl (L.old 1 (by kernel_rfl))
    · exact kp_ld19S (cellsM L.rel 16 (.slice a.ia m.items.length a.ic) rfl) rfl (L.val 5 9 (by kernel_rfl) (by kernel_rfl))
    · exact kp_c19 (cg_itemsText _ _) (items_text _ _ _ _ (HM.out.its.keep (HK.out.trans L.rel)) HM.out.il.1 HM.out.il.2 FM.out.il FM.out.its) rfl (L.val 6 10 (by kernel_rfl) (by kernel_rfl))
    · exact kp_f19_14 rfl (L.old 1 (by kernel_rfl))
    · exact kp_ld19K (cellsM L.rel 17 (.slice a.ma m.marks.length a.mc) rfl) rfl (L.val 8 12 (by kernel_rfl) (by kernel_rfl))
    · exact kp_c19 (cg_marksText _ _) (marks_text _ _ _ _ (HM.out.mks.keep (HK.out.trans L.rel)) HM.out.ml.1 HM.out.ml.2 HB.out.2.2.1 HMK.out) rfl (L.val 9 13 (by kernel_rfl) (by kernel_rfl))
    · exact kp_f19_15 rfl (L.old 1 (by kernel_rfl))
    · exact kp_ld19N (cellsM L.rel 18 (.slice a.ba m.mem.length a.bc) rfl) rfl (L.val 11 15 (by kernel_rfl) (by kernel_rfl))
    · exact kp_c19 (cg_nodesText _ _) (nodes_text _ _ _ _ (HM.out.mem.keep (HK.out.trans L.rel)) HM.out.bl.1 HM.out.bl.2.1 FM.out.bl FM.out.mem) rfl (L.val 12 16 (by kernel_rfl) (by kernel_rfl))
    · exact kp_f19_17 rfl (L.old 1 (by kernel_rfl))
    · exact kp_ld19N (cellsM L.rel 20 (.slice a.oa m.old.length a.oc) rfl) rfl (L.val 14 18 (by kernel_rfl) (by kernel_rfl))
    · exact kp_c19 (cg_nodesText _ _) (nodes_text _ _ _ _ (HM.out.old.keep (HK.out.trans L.rel)) HM.out.ol.1 HM.out.ol.2.1 FM.out.ol FM.out.old) rfl (L.val 15 19 (by kernel_rfl) (by kernel_rfl))
    · exact kq_row6T rfl (L.val 1 5 (by kernel_rfl) (by kernel_rfl)) (L.val 4 8 (by kernel_rfl) (by kernel_rfl)) (L.val 7 11 (by kernel_rfl) (by kernel_rfl)) (L.val 10 14 (by kernel_rfl) (by kernel_rfl)) (L.val 13 17 (by kernel_rfl) (by kernel_rfl)) (L.val 16 20 (by kernel_rfl) (by kernel_rfl))
    · exact kq_puttext ((HK.out.trans L.rel).size) (Nat.le_trans HT.out (by decide)) (show 6 ≤ 100 by decide) rfl (L.val 17 21 (by kernel_rfl) (by kernel_rfl))
    · exact kq_setK rfl (L.val 18 22 (by kernel_rfl) (by kernel_rfl))
  intro us3 w3 hk3 hl3 hv3
  match us3, hl3 with
  | [v0, v1, v2, v3, v4, v5, v6, v7, v8, v9, v10, v11, v12, v13, v14, v15, v16, v17, v18, v19], _ =>
    have hv4 : w3.ownsRow w.heap.size 5 1 v19 (putsT (strs (tsM m))).length (bcells (putsT (strs (tsM m)))) := hv3 19 3 (by kernel_rfl)
    have HO := Lib.hid (show OwnB w3 w.heap.size v19 (putsT (textsM m)) from by rw [← HS.out]; exact hv4)
    have HK3 := Lib.hid (HK.out.trans hk3)
    have HB3 := Lib.hid (HB1.out.kp hk3)
    clear hv3 hv4 hk3 HB1 HK cellsM
    simp only [putAll, List.map, Act.put, List.setIfInBounds_toArray, List.set_cons_succ, List.set_cons_zero, Exit.then]
    go_wp2_with (refine list_loadM rfl (.tmp 1) rfl g m a HB3.out rfl vM HVM.out ?_)
    have HHD := Lib.hid (mhead w3 m a HH.out)
    rw [HVM.out] at HHD
    refine HHD.out.mono ?_
    rintro e w4 ⟨v20, rfl, ho4, hk4⟩
    have HW := Lib.hid (show OwnB w4 w.heap.size v20 (putsZ (headZ m)) from ownsRow_le ho4 HK3.out.size)
    have HSRC := Lib.hid (src_own (hk4.own HO.out fun _ _ => trivial))
    have HK4 := Lib.hid (HK3.out.trans hk4)
    have hsz := HK4.out.size
    have hbl := HL.out
    obtain ⟨p, hp⟩ : ∃ p, (putsZ (headZ m)).length = p := ⟨_, rfl⟩
    obtain ⟨q, hq⟩ : ∃ q, (putsT (textsM m)).length = q := ⟨_, rfl⟩
    unfold bodyM at hbl
    rw [List.length_append, hp, hq] at hbl
    have HP := Lib.hid hp
    have HQ := Lib.hid hq
    unfold OwnB at HW
    rw [hp] at HW
    rw [hq] at HSRC
    clear ho4 hk4 hp hq HHD HO HK3
    go_wp2_with (at_builtin; refine byte_elem.list_append rfl (.tmp 24) (.tmp 25) _ rfl rfl HW.out rfl HSRC.out ?c3 ?c4 hsz ?_)
    case c3 => unfold maxLen; omega
    case c4 => omega
    intro v5 w5 ho5 hg5 hb5
    have H1 := Lib.hid (show OwnB w5 w.heap.size v5 (bodyM m) from OwnB.snoc ho5 (by rw [List.length_append, HP.out, HQ.out]) rfl)
    have H2 := Lib.hid (HK4.out.grown hg5 fun j hj => (HW.out.lt j hj).1)
    clear ho5 hg5 hb5 HW HK4 HSRC
    go_wp2_with fail
    go_ret
    exact ⟨_, rfl, H1.out, H2.out⟩

/-- What an own row of bytes says. -/
theorem OwnB.says {w : World} {base : Nat} {v : Value} {l : List UInt8} (h : OwnB w base v l) (h0 : 0 < l.length) : ∃ A c, v = .slice A l.length c ∧ l.length ≤ c ∧ c ≤ maxLen ∧ Row w A (fun b => base ≤ b ∧ b < w.heap.size) (bcells l) := by
  obtain ⟨g, c, rfl, -, -⟩ := h.form h0
  refine ⟨_, _, rfl, (own_room h).1, (own_room h).2, Row.of_own (c := c) (e := 5) ?_⟩
  rw [bcells_len]
  exact h

set_option maxRecDepth 100000 in
set_option maxHeartbeats 4000000 in
theorem mencode (w : World) (m : Ms) (a : MsA) (hT : Taken w) (hm : MsAt w m a) (fm : m.Fits) :
    Calls Tryd.prog 28 #[msV m a] w fun e w' => (mayM m = true → ∃ A c, e = .returned (.slice A (encM m).length c) ∧ (encM m).length ≤ c ∧ c ≤ maxLen ∧ Row w' A (fun b => w.heap.size ≤ b ∧ b < w'.heap.size) (bcells (encM m))) ∧ (mayM m = false → e = .returned (.slice none 0 0)) ∧ Kp w w' := by
  have HM := Lib.hid hm
  have HTK := Lib.hid hT
  have HMAY := Lib.hid (fun w2 (hk : Kp w w2) => mmay w2 m a (hm.keep hk) fm.wide)
  have HBOD := Lib.hid (fun w2 (hk : Kp w w2) h => mbody w2 m a (hm.keep hk) h)
  obtain ⟨vM, hvM⟩ : ∃ v, msV m a = v := ⟨_, rfl⟩
  have HVM := Lib.hid hvM
  rw [hvM] at HMAY HBOD ⊢
  clear hm hvM fm hT
  have HL := Lib.hid (fun h : mayM m = true => bodyM_len h)
  have HE := Lib.hid (show encM m = bodyM m ++ sealL (bodyM m) from rfl)
  generalize hmm : mayM m = q at HMAY HBOD HL ⊢
  clear hmm
  go_enter Tryd.func28, Tryd.ntmps28
  go_upto_region 1 with (refine list_boxM rfl (.tmp 0) rfl m a HVM.out.symm ?_; intro w1 hb1 hk1 hs1)
  obtain ⟨g, hg⟩ : ∃ g, w.heap.size = g := ⟨_, rfl⟩
  rw [hg] at hb1 hs1 ⊢
  have HB1 := Lib.hid hb1
  have HK := Lib.hid hk1
  have HG := Lib.hid hg
  clear hb1 hk1 hs1 hg
  cases q with
  | false =>
    go_wp2_with (refine list_loadM rfl (.tmp 1) rfl g m a HB1.out rfl vM HVM.out ?_)
    refine (HMAY.out _ HK.out).mono ?_
    rintro e w2 ⟨rfl, hk2⟩
    have HK2 := Lib.hid (HK.out.trans hk2)
    clear hk2
    go_wp2_with fail
    go_ret
    exact ⟨rfl, HK2.out⟩
  | true =>
    go_wp2_with (refine list_loadM rfl (.tmp 1) rfl g m a HB1.out rfl vM HVM.out ?_)
    refine (HMAY.out _ HK.out).mono ?_
    rintro e w2 ⟨rfl, hk2⟩
    have HK2 := Lib.hid (HK.out.trans hk2)
    have HB2 := Lib.hid (HB1.out.kp hk2)
    clear hk2 HB1 HMAY
    go_wp2_with (refine list_loadM rfl (.tmp 1) rfl g m a HB2.out rfl vM HVM.out ?_)
    refine (HBOD.out _ HK2.out trivial).mono ?_
    rintro e w3 ⟨v3, rfl, ho3, hk3⟩
    have hbl := HL.out trivial
    have HK3 := Lib.hid (HK2.out.trans hk3)
    have hb0 : 0 < (bodyM m).length := by
      rcases Nat.eq_zero_or_pos (bodyM m).length with h0 | h0
      · have e1 := List.eq_nil_of_length_eq_zero h0
        unfold bodyM at e1
        have e2 := (List.append_eq_nil_iff.1 e1).1
        unfold headZ putsZ at e2
        simp only [List.flatMap_cons] at e2
        exact absurd (List.append_eq_nil_iff.1 e2).1 (putZ_ne _)
      · exact h0
    obtain ⟨A, c, rfl, h1, h2, hr⟩ := ho3.says hb0
    have HSL := Lib.hid (mseal w3 A c (bodyM m) (hr.mono fun _ _ _ => trivial) h1 h2 (by omega) (HTK.out.keep HK3.out))
    clear ho3 hk3 hr HBOD hb0
    go_wp2_with fail
    refine HSL.out.mono ?_
    rintro e w4 ⟨v4, rfl, ho4, hk4⟩
    obtain ⟨A2, c2, rfl, h3, h4, hr4⟩ := ho4.says (by rw [List.length_append, sealL_len]; omega)
    rw [← HE.out] at h3 hr4 ⊢
    have HR := Lib.hid (show Row w4 A2 (fun b => w.heap.size ≤ b ∧ b < w4.heap.size) (bcells (encM m)) from hr4.mono fun b _ hb => ⟨by have := HK3.out.size; omega, hb.2⟩)
    have HK4 := Lib.hid (HK3.out.trans hk4)
    have H3 := Lib.hid h3
    have H4 := Lib.hid h4
    clear ho4 hk4 hr4 HSL h3 h4
    go_wp2_with fail
    go_ret
    exact ⟨⟨_, _, rfl, H3.out, H4.out, HR.out⟩, HK4.out⟩

end Go.Proofs.YtpijhpfcigjkeaaDoor
