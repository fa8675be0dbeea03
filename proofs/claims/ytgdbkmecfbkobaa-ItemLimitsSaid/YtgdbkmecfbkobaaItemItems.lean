/-
  'Items' AND 'EqItems' OF THE REFERENCE.
-/
import Derived.Test.YtgdbkmecfbkobaaItemText
import Derived.Deep.RegionLaw
namespace Go.Proofs.Ytgdbkmecfbkobaa
open Go Go.RowKit Go.Joins

theorem src_own {w : World} {base : Nat} {v : Value} {l : List UInt8} (h : OwnB w base v l) : Src Try.prog 1 30 v l.length (bcells l) w := by
  obtain ⟨A, c, rfl, -, hr⟩ := own_slice h
  have := hr.src (P := Try.prog) (c := c) Try.underlying30 (bcells_one l)
  rwa [bcells_len] at this
theorem take_may (l : List It) (k : Nat) (h : k < l.length) : (l.take (k + 1)).all It.may = ((l.take k).all It.may && l[k].may) := by
  rw [List.take_succ_eq_append_getElem h, List.all_append]; simp
theorem take_bytes (l : List It) (k : Nat) (h : k < l.length) : bytesOf (l.take (k + 1)) = bytesOf (l.take k) ++ l[k].bytes := by
  rw [List.take_succ_eq_append_getElem h, bytesOf_snoc]
theorem not_may {l : List It} {k : Nat} (h : k < l.length) (hm : l[k].may = false) : encs l = [] := by
  unfold encs
  rw [if_neg]
  intro ha
  have := List.all_eq_true.1 ha l[k] (List.getElem_mem h)
  rw [hm] at this; cases this

set_option maxRecDepth 100000 in
set_option maxHeartbeats 4000000 in
theorem ritems (w : World) (A : Option Addr) (cap : Nat) (l : List It) (hA : ItsAt w A (fun b => b < w.heap.size) l) (hl : l.length ≤ cap) (hc : cap ≤ maxLen) (hn : l.length ≤ 1000) (hf : ∀ x ∈ l, x.fits) :
    Calls Try.prog 16 #[.slice A l.length cap] w fun e w' => ∃ B k, e = .returned (.slice B (encs l).length k) ∧ (encs l).length ≤ k ∧ k ≤ maxLen ∧
      Row w' B (fun b => w.heap.size ≤ b ∧ b < w'.heap.size) (bcells (encs l)) ∧ Keeps (fun _ => True) w w' := by
  have hc' := hc
  unfold maxLen at hc'
  have HFIN := Lib.hid (show ∀ (v : Value) (wr : World), OwnB wr w.heap.size v (encs l) → Keeps (fun _ => True) w wr →
      ∃ B k, Ending.returned v = .returned (.slice B (encs l).length k) ∧ (encs l).length ≤ k ∧ k ≤ maxLen ∧ Row wr B (fun b => w.heap.size ≤ b ∧ b < wr.heap.size) (bcells (encs l)) ∧ Keeps (fun _ => True) w wr from fun v wr ho hkp => by
    have h2 := ho.2
    obtain ⟨B, k, rfl, -, hr⟩ := own_slice ho
    refine ⟨B, k, rfl, ?_, ?_, hr, hkp⟩
    · rcases h2 with ⟨e, h0⟩ | ⟨g, c, cur, e, -, -, h1, h2, -⟩
      · omega
      · injection e with _ _ e; omega
    · rcases h2 with ⟨e, h0⟩ | ⟨g, c, cur, e, -, -, h1, h2, -⟩
      · injection e with _ _ e; subst e; decide
      · injection e with _ _ e; omega)
  have HA := Lib.hid hA
  have HF := Lib.hid hf
  clear hA hf hc
  go_enter Try.func16, Try.ntmps16
  go_wp2
  go_loopw [3, 4] (fun v i wr => ∃ k : Nat, k ≤ l.length ∧ i = .int .i64 k ∧ (l.take k).all It.may = true ∧ OwnB wr w.heap.size v (bytesOf (l.take k)) ∧ Keeps (fun _ => True) w wr) (fun _ i _ => l.length - (intOf i).toNat)
  case atStart => exact ⟨0, Nat.zero_le _, rfl, rfl, World.ownsRow_nil _ _ _ _, Keeps.refl _ _⟩
  case round =>
    obtain ⟨k, hk, rfl, hall, hown, hkp⟩ := hrel
    have hwz := hkp.size
    have hblen := bytesOf_len hall
    rw [List.length_take, Nat.min_eq_left hk] at hblen
    have HW := Lib.hid hown
    have HK := Lib.hid hkp
    have HALL := Lib.hid hall
    clear hown hkp hall
    by_cases hlt : k < l.length
    · have t1 : decide ((k : Int) < (l.length : Int)) = true := by simp; omega
      obtain ⟨b, o, rfl, hb, d0, d1, d2, d3⟩ := HA.out k hlt
      have hfx := HF.out _ (List.getElem_mem hlt)
      have HN := Lib.hid (take_bytes l k hlt)
      have HT := Lib.hid (take_may l k hlt)
      have HNO := Lib.hid (not_may hlt)
      generalize l[k] = x at d0 d1 d2 d3 hfx HN HT HNO
      have HC := Lib.hid (show ∀ W, Keeps (fun _ => True) w W → W.cell? ⟨b, o + k * 4, none⟩ = some (.string x.key) ∧ W.cell? ⟨b, o + k * 4 + 1, none⟩ = some (.string x.val) ∧ W.cell? ⟨b, o + k * 4 + 2, none⟩ = some (.int .i64 x.till) ∧ W.cell? ⟨b, o + k * 4 + 3, none⟩ = some (.bool x.gone) from
        fun W h => ⟨h.cell d0 trivial, h.cell d1 trivial, h.cell d2 trivial, h.cell d3 trivial⟩)
      clear d0 d1 d2 d3
      obtain ⟨c0, c1, c2, c3⟩ := HC.out wr HK.out
      have RM := rmay wr x hfx
      have fk : x.key.size ≤ 1000000 := hfx.1
      have fv : x.val.size ≤ 1000000 := hfx.2.1
      have FT1 := Lib.hid hfx.2.2.1
      have FT2 := Lib.hid hfx.2.2.2
      cases hm : x.may
      · rw [hm] at RM
        go_wp2_with fail
        refine RM.mono ?_
        rintro e w1 ⟨rfl, hk1⟩
        have HK1 := Lib.hid (HK.out.trans hk1)
        have HM := Lib.hid hm
        clear hk1 c0 c1 c2 c3 hm RM
        go_wp2_with fail
        go_ret
        exact HFIN.out _ _ (by rw [HNO.out HM.out]; exact World.ownsRow_nil _ _ _ _) HK1.out
      · rw [hm] at RM
        have hmb := It.bytes_len hm
        unfold It.bytes at hmb
        simp only [List.length_append] at hmb
        have HP1 := Lib.hid (show (bytesOf (l.take k)).length + (putT x.key.data.toList).length ≤ 4000000 by omega)
        have HP2 := Lib.hid (show (bytesOf (l.take k) ++ putT x.key.data.toList).length + (putT x.val.data.toList).length ≤ 4000000 by rw [List.length_append]; omega)
        have HP3 := Lib.hid (show (bytesOf (l.take k) ++ putT x.key.data.toList ++ putT x.val.data.toList).length + (putZ x.till).length ≤ 4000000 by simp only [List.length_append]; omega)
        have HP4 := Lib.hid (show (bytesOf (l.take k) ++ putT x.key.data.toList ++ putT x.val.data.toList ++ putZ x.till).length + (putZ x.flag).length ≤ 4000000 by simp only [List.length_append]; omega)
        have HNB := Lib.hid (show bytesOf (l.take k) ++ putT x.key.data.toList ++ putT x.val.data.toList ++ putZ x.till ++ putZ x.flag = bytesOf (l.take (k + 1)) by rw [HN.out]; unfold It.bytes; simp only [List.append_assoc])
        have HTB := Lib.hid (show (l.take (k + 1)).all It.may = true by rw [HT.out, HALL.out, hm]; rfl)
        clear hmb HN HT hm hfx HNO
        go_wp2_with fail
        refine RM.mono ?_
        rintro e w1 ⟨rfl, hk1⟩
        have hst : Amid w w1 x b (o + k * 4) u3 (bytesOf (l.take k)) undef undef := ⟨HK.out.trans hk1, hb, (HC.out w1 (HK.out.trans hk1)).1, (HC.out w1 (HK.out.trans hk1)).2.1, hk1.own HW.out fun _ _ => trivial, .inl rfl, .inl rfl⟩
        clear hk1 c0 c1 c2 c3 RM
        replace hst := hst.drew
        have c0 := hst.c0
        have c1 := hst.c1
        generalize bytesOf (l.take k) = p at *
        go_wp2_with fail
        go_region_law (first
          | (refine hst.text1 fk rfl (.tmp 23) rfl (by simp [Act.eval, Act.put]) ?_; intro B1 k1 w' hst'; replace hst := hst'; have c0 := hst.c0; have c1 := hst.c1)
          | (refine hst.text2 fv rfl (.tmp 30) rfl (by simp [Act.eval, Act.put]) ?_; intro B2 k2 w' hst'; replace hst := hst'; have c0 := hst.c0; have c1 := hst.c1)
          | (refine hst.app1 rfl HP1.out rfl (.tmp 18) (.tmp 24) rfl (by simp [Act.eval, Act.put]) (by simp [Act.eval, Act.put]) ?_; intro u' w' hst'; replace hst := hst'; have c0 := hst.c0; have c1 := hst.c1)
          | (refine hst.app2 rfl HP2.out rfl (.tmp 25) (.tmp 31) rfl (by simp [Act.eval, Act.put]) (by simp [Act.eval, Act.put]) ?_; intro u' w' hst'; replace hst := hst'; have c0 := hst.c0; have c1 := hst.c1))
        all_goals
          have HS := Lib.hid hst
          have e2 := (HC.out _ hst.kp).2.2.1
          clear hst c0 c1
          go_wp2_with fail
          refine (rput_any x.till FT1.out FT2.out _).mono ?_
          rintro e w4 ⟨v4, rfl, ho4, hk4⟩
          have HO4 := Lib.hid (hk4.own HS.out.own fun _ _ => trivial)
          have HSRC := Lib.hid (src_own ho4)
          have HK4 := Lib.hid (HS.out.kp.trans hk4)
          have hz4 := HK4.out.size
          have HP3' := HP3.out
          simp only [List.length_append] at HP3'
          clear hk4 ho4 e2
          go_wp2_with (at_builtin; refine byte_elem.list_append rfl (.tmp 33) (.tmp 39) _ rfl rfl HO4.out rfl HSRC.out ?c3 ?c4 ?c5 ?_)
          case c3 => simp only [List.length_append, maxLen]; omega
          case c4 => simp only [List.length_append]; omega
          case c5 => omega
          intro v5 w5 hown5 hg5 hb5
          have HO5 := Lib.hid (OwnB.snoc hown5 (by simp only [List.length_append]) rfl)
          have HK5 := Lib.hid (HK4.out.grown hg5 fun j hj => (HO4.out.lt j hj).1)
          have e3 := (HC.out w5 HK5.out).2.2.2
          clear hown5 hg5 hb5 HP3' HS
          cases hgo : x.gone
          · have hfl : x.flag = 0 := by unfold It.flag; rw [hgo]; rfl
            have HFL := Lib.hid hfl
            clear hfl
            rw [hgo] at e3
            clear hgo
            go_wp2_with fail
            refine (rput_any 0 (by decide) (by decide) _).mono ?_
            rintro e w6 ⟨v6, rfl, ho6, hk6⟩
            have HO6 := Lib.hid (hk6.own HO5.out fun _ _ => trivial)
            have HSRC6 := Lib.hid (src_own ho6)
            have HK6 := Lib.hid (HK5.out.trans hk6)
            have hz6 := HK6.out.size
            have HP6 := HP4.out
            rw [HFL.out] at HP6
            simp only [List.length_append] at HP6
            clear hk6 ho6 e3
            go_wp2_with (at_builtin; refine byte_elem.list_append rfl (.tmp 46) (.tmp 48) _ rfl rfl HO6.out rfl HSRC6.out ?c3 ?c4 ?c5 ?_)
            case c3 => simp only [List.length_append, maxLen]; omega
            case c4 => simp only [List.length_append]; omega
            case c5 => omega
            intro v7 w7 hown7 hg7 hb7
            have ho7 := OwnB.snoc hown7 (by simp only [List.length_append]) rfl
            have hnb := HNB.out
            rw [← HFL.out] at ho7
            simp only [List.append_assoc] at ho7 hnb
            rw [hnb] at ho7
            have HO7 := Lib.hid ho7
            have HK7 := Lib.hid (HK6.out.grown hg7 fun j hj => (HO6.out.lt j hj).1)
            clear hown7 hg7 hb7 ho7 HP6 hnb
            go_wp2
            go_roundw
            case rel => exact ⟨k + 1, by omega, by go_num, HTB.out, HO7.out, HK7.out⟩
            case measure => simp [intOf]; omega
          · have hfl : x.flag = 1 := by unfold It.flag; rw [hgo]; rfl
            have HFL := Lib.hid hfl
            clear hfl
            rw [hgo] at e3
            clear hgo
            go_wp2_with fail
            refine (rput_any 1 (by decide) (by decide) _).mono ?_
            rintro e w6 ⟨v6, rfl, ho6, hk6⟩
            have HO6 := Lib.hid (hk6.own HO5.out fun _ _ => trivial)
            have HSRC6 := Lib.hid (src_own ho6)
            have HK6 := Lib.hid (HK5.out.trans hk6)
            have hz6 := HK6.out.size
            have HP6 := HP4.out
            rw [HFL.out] at HP6
            simp only [List.length_append] at HP6
            clear hk6 ho6 e3
            go_wp2_with (at_builtin; refine byte_elem.list_append rfl (.tmp 46) (.tmp 48) _ rfl rfl HO6.out rfl HSRC6.out ?c3 ?c4 ?c5 ?_)
            case c3 => simp only [List.length_append, maxLen]; omega
            case c4 => simp only [List.length_append]; omega
            case c5 => omega
            intro v7 w7 hown7 hg7 hb7
            have ho7 := OwnB.snoc hown7 (by simp only [List.length_append]) rfl
            have hnb := HNB.out
            rw [← HFL.out] at ho7
            simp only [List.append_assoc] at ho7 hnb
            rw [hnb] at ho7
            have HO7 := Lib.hid ho7
            have HK7 := Lib.hid (HK6.out.grown hg7 fun j hj => (HO6.out.lt j hj).1)
            clear hown7 hg7 hb7 ho7 HP6 hnb
            go_wp2
            go_roundw
            case rel => exact ⟨k + 1, by omega, by go_num, HTB.out, HO7.out, HK7.out⟩
            case measure => simp [intOf]; omega
    · have t1 : decide ((k : Int) < (l.length : Int)) = false := by simp; omega
      obtain rfl : k = l.length := by omega
      have he : OwnB wr w.heap.size u3 (encs l) := by
        have h1 := HALL.out
        have h2 := HW.out
        rw [List.take_of_length_le (Nat.le_refl _)] at h1 h2
        rw [encs_may h1]; exact h2
      have HE := Lib.hid he
      clear he
      go_wp2_with fail
      go_ret
      exact HFIN.out _ _ HE.out HK.out

theorem take_eq {l m : List It} {k : Nat} (h : l.take k = m.take k) (hl : k < l.length) (hm : k < m.length) (e : l[k] = m[k]) : l.take (k + 1) = m.take (k + 1) := by
  rw [List.take_succ_eq_append_getElem hl, List.take_succ_eq_append_getElem hm, h, e]
set_option maxRecDepth 100000 in
set_option maxHeartbeats 1000000 in
theorem reqItems (w : World) (A B : Option Addr) (c d : Nat) (l m : List It) (hA : ItsAt w A (fun b => b < w.heap.size) l) (hB : ItsAt w B (fun b => b < w.heap.size) m) (hl : l.length ≤ c) (hm : m.length ≤ d) (hc : c ≤ maxLen) (hd : d ≤ maxLen) (hf : ∀ x ∈ l, x.fits) (hg : ∀ x ∈ m, x.fits) (r : Bool) (hr : decide (l = m) = r) :
    Calls Try.prog 19 #[.slice A l.length c, .slice B m.length d] w fun e w' => e = .returned (.bool r) ∧ Keeps (fun _ => True) w w' := by
  unfold maxLen at hc hd
  have HA := Lib.hid hA
  have HB := Lib.hid hB
  have HF := Lib.hid hf
  have HG := Lib.hid hg
  clear hA hB hf hg
  by_cases hlen : l.length = m.length
  · have HR := Lib.hid hr
    have HL := Lib.hid hlen
    rw [← hlen] at hm ⊢
    clear hr hlen
    go_enter Try.func19, Try.ntmps19
    go_wp2_with fail
    go_loopw [5] (fun i wr => ∃ k : Nat, k ≤ l.length ∧ i = .int .i64 k ∧ l.take k = m.take k ∧ Keeps (fun _ => True) w wr) (fun i _ => l.length - (intOf i).toNat)
    case atStart => exact ⟨0, Nat.zero_le _, rfl, rfl, Keeps.refl _ _⟩
    case round =>
      obtain ⟨k, hk, rfl, htk, hkp⟩ := hrel
      have HK := Lib.hid hkp
      have HT := Lib.hid htk
      clear hkp htk
      by_cases hlt : k < l.length
      · have t1 : decide ((k : Int) < (l.length : Int)) = true := by simp; omega
        have hlm : k < m.length := by have := HL.out; omega
        obtain ⟨b, o, rfl, -, c0, c1, c2, c3⟩ := (HA.out.keep (HK.out.mono fun _ _ _ => trivial)) k hlt
        obtain ⟨b', o', rfl, -, d0, d1, d2, d3⟩ := (HB.out.keep (HK.out.mono fun _ _ _ => trivial)) k hlm
        have fx := HF.out _ (List.getElem_mem hlt)
        have fy := HG.out _ (List.getElem_mem hlm)
        have HN := Lib.hid (take_eq HT.out hlt hlm)
        have HNE := Lib.hid (show l[k] ≠ m[k] → r = false from fun hne => by
          rw [← HR.out]
          simp only [decide_eq_false_iff_not]
          intro e; subst e; exact hne rfl)
        generalize l[k] = x at c0 c1 c2 c3 fx HN HNE
        generalize m[k] = y at d0 d1 d2 d3 fy HN HNE
        by_cases hxy : x = y
        · have RE := fun w => reqItem w x y fx fy true (by simpa using hxy)
          have HN' := Lib.hid (HN.out hxy)
          clear fx fy HN HNE hxy
          go_wp2_with fail
          go_region_with (go_at_call 28; ((with_reducible refine (RE _).mono ?_); rintro e w' ⟨rfl, hk1⟩))
          all_goals
            have HK1 := Lib.hid ((HK.out.drew).trans hk1)
            clear hk1 c0 c1 c2 c3 d0 d1 d2 d3 RE
            go_wp2_with fail
            go_roundw
            case rel => exact ⟨k + 1, by omega, by go_num, HN'.out, HK1.out⟩
            case measure => simp [intOf]; omega
        · have RE := fun w => reqItem w x y fx fy false (by simpa using hxy)
          have HNE' := Lib.hid (HNE.out hxy)
          clear fx fy HN HNE hxy
          go_wp2_with fail
          go_region_with (go_at_call 28; ((with_reducible refine (RE _).mono ?_); rintro e w' ⟨rfl, hk1⟩))
          all_goals
            have HK1 := Lib.hid ((HK.out.drew).trans hk1)
            clear hk1 c0 c1 c2 c3 d0 d1 d2 d3 RE
            go_wp2_with fail
            go_ret
            exact ⟨by rw [HNE'.out]; rfl, HK1.out⟩
      · have t1 : decide ((k : Int) < (l.length : Int)) = false := by simp; omega
        obtain rfl : k = l.length := by omega
        have he : r = true := by
          have h1 := HT.out
          rw [List.take_of_length_le (Nat.le_refl _), List.take_of_length_le (by have := HL.out; omega)] at h1
          rw [← HR.out, h1]; simp
        have HE := Lib.hid he
        clear he
        go_wp2_with fail
        go_ret
        exact ⟨by rw [HE.out]; rfl, HK.out⟩
  · have t0 : ((l.length : Int) != (m.length : Int)) = true := by simp; omega
    have he : r = false := by
      rw [← hr]
      simp only [decide_eq_false_iff_not]
      intro e; exact hlen (by rw [e])
    subst he
    clear hr
    go_enter Try.func19, Try.ntmps19
    go_wp2_with fail
    go_ret
    exact ⟨rfl, Keeps.refl _ _⟩

end Go.Proofs.Ytgdbkmecfbkobaa
