/-
  THE PROGRAM's MESSAGES (layer 19): itemText, itemsText, marksText, nodesText, head.
-/
import Derived.Test.YtpijhpfcigjkeaaDoorMsMath
import Derived.Test.YtpijhpfcigjkeaaDoorMsLocs
import Derived.Test.YtpijhpfcigjkeaaDoorAllItA
import Derived.Test.YtpijhpfcigjkeaaDoorItemRef
namespace Go.Proofs.YtpijhpfcigjkeaaDoor
open Go Go.RowKit Go.Joins

theorem own_form5 {w : World} {base n size : Nat} {e : TypeId} {v : Value} {xs : List Value} (h : w.ownsRow base e size v n xs) : ∃ A c, v = .slice A n c := by
  rcases h.2 with ⟨rfl, h0⟩ | ⟨g, cap, cur, rfl, r⟩
  · exact ⟨none, 0, by rw [h0]⟩
  · exact ⟨_, _, rfl⟩
/-- Bytes of the call's own, as a text. -/
theorem OwnB.text {w : World} {base : Nat} {v : Value} {l : List UInt8} (h : OwnB w base v l) : (convert 63 9 v).run Tryd.prog w = .ok (.string (txt l)) w := by
  obtain ⟨A, c, rfl⟩ := own_form5 h
  have hr : Row w A (fun b => base ≤ b ∧ b < w.heap.size) (bcells l) := by
    refine Row.of_own (c := c) (e := 5) ?_
    rw [bcells_len]
    exact h
  exact hr.to_string (P := Tryd.prog) Tryd.underlying63 Tryd.underlying5 Tryd.underlying9 l.length c rfl
theorem encs_one (x : It) : encs [x] = bytesOf (itemL x) := by
  unfold encs itemL
  by_cases h : x.may = true
  · rw [if_pos (by simp [h]), if_pos h]
  · rw [if_neg (by simp [h]), if_neg h]; rfl

set_option maxRecDepth 100000 in
set_option maxHeartbeats 1000000 in
theorem items_text (w : World) (A : Option Addr) (c : Nat) (l : List It) (hA : ItsAt w A (fun _ => True) l) (hl : l.length ≤ c) (hc : c ≤ maxLen) (hn : l.length ≤ 100) (hf : ∀ x ∈ l, x.fits) :
    Calls Tryd.prog 51 #[.slice A l.length c] w fun e w' => e = .returned (.string (txt (encs l))) ∧ Kp w w' := by
  have HC := Lib.hid (iencode w A c l hA hl hc (by omega) hf)
  unfold maxLen at hc
  clear hA hf
  go_enter Tryd.func51, Tryd.ntmps51
  go_wp2_with fail
  refine HC.out.mono ?_
  rintro e w1 ⟨B, k, rfl, h1, h2, hr, hk1⟩
  have hcv := hr.to_string (P := Tryd.prog) Tryd.underlying63 Tryd.underlying5 Tryd.underlying9 _ k rfl
  have HK := Lib.hid hk1
  clear h1 h2 hr hk1 HC
  go_wp2_with fail
  go_ret
  exact ⟨rfl, HK.out⟩

theorem iencode_one (w : World) (x : It) (hx : x.fits) (B : Nat) (hB : ItsAt w (some ⟨B, 0, none⟩) (fun _ => True) [x]) :
    Calls Tryd.prog 67 #[.slice (some ⟨B, 0, none⟩) 1 1] w fun e w' => ∃ A k, e = .returned (.slice A (encs [x]).length k) ∧ (encs [x]).length ≤ k ∧ k ≤ maxLen ∧
      Row w' A (fun b => w.heap.size ≤ b ∧ b < w'.heap.size) (bcells (encs [x])) ∧ Kp w w' :=
  iencode w (some ⟨B, 0, none⟩) 1 [x] hB (Nat.le_refl 1) (show 1 ≤ maxLen by decide) (show 1 ≤ 1000 by decide) (fun y hy => by rw [List.mem_singleton.1 hy]; exact hx)
theorem its_one (w : World) (x : It) (B : Nat) (hB : B = w.heap.size) : ItsAt (w.alloc (.cells #[.string x.key, .string x.val, .int .i64 x.till, .bool x.gone] 31)) (some ⟨B, 0, none⟩) (fun _ => True) [x] :=
  ItsAt.fresh w #[.string x.key, .string x.val, .int .i64 x.till, .bool x.gone] 31 (0, 0) B hB trivial [x] rfl
set_option maxRecDepth 100000 in
set_option maxHeartbeats 1000000 in
theorem item_text (w : World) (x : It) (hx : x.fits) :
    Calls Tryd.prog 50 #[.agg #[.string x.key, .string x.val, .int .i64 x.till, .bool x.gone]] w fun e w' => e = .returned (.string (txt (bytesOf (itemL x)))) ∧ Kp w w' := by
  have HE := Lib.hid (encs_one x)
  have HC := Lib.hid (fun (w1 : World) => iencode_one w1 x hx)
  clear hx
  go_enter Tryd.func50, Tryd.ntmps50
  go_wp2_with fail
  refine (HC.out _ _ (its_one _ x _ (by simp))).mono ?_
  rintro e w1 ⟨B, k, rfl, h1, h2, hr, hk1⟩
  rw [HE.out] at hr ⊢
  have hcv := hr.to_string (P := Tryd.prog) Tryd.underlying63 Tryd.underlying5 Tryd.underlying9 _ k rfl
  have HK := Lib.hid ((((Keeps.refl (fun _ => True) w).alloc _).alloc _).trans hk1)
  clear h1 h2 hr hk1 HC
  go_wp2_with fail
  go_ret
  exact ⟨rfl, HK.out⟩

/-- One number, one text, behind a slice literal. -/
theorem put_one (z : Int) (h1 : -9223372036854775808 ≤ z) (h2 : z < 9223372036854775808) (w : World) (B : Nat) (hB : Row w (some ⟨B, 0, none⟩) (fun _ => True) [.int .i64 z]) :
    Calls Tryd.prog 68 #[.slice none 0 0, .slice (some ⟨B, 0, none⟩) 1 1] w fun e w' => ∃ v', e = .returned v' ∧ OwnB w' w.heap.size v' (putZ z) ∧ Kp w w' := by
  have h := put_any none (some ⟨B, 0, none⟩) 0 1 (fun _ => True) (fun _ => True) [] [z] w (Row.nil _ _ _) hB (by simp; omega) (by simp) (by simp)
  refine h.mono ?_
  rintro e w' ⟨v, rfl, ho, hk⟩
  refine ⟨v, rfl, ?_, hk⟩
  have e : ([] : List UInt8) ++ putsZ [z] = putZ z := by simp [putsZ]
  rw [e] at ho
  exact ho
theorem puttext_one (s : ByteArray) (h : s.size ≤ 100000) (w : World) (B : Nat) (hB : Row w (some ⟨B, 0, none⟩) (fun _ => True) [.string s]) :
    Calls Tryd.prog 49 #[.slice none 0 0, .slice (some ⟨B, 0, none⟩) 1 1] w fun e w' => ∃ v', e = .returned v' ∧ OwnB w' w.heap.size v' (putT s.data.toList) ∧ Kp w w' := by
  have h := put_text none (some ⟨B, 0, none⟩) 0 1 (fun _ => True) (fun _ => True) [] [s] w (Row.nil _ _ _) hB (by simp [total]; omega) (by simp) (by simp)
  refine h.mono ?_
  rintro e w' ⟨v, rfl, ho, hk⟩
  refine ⟨v, rfl, ?_, hk⟩
  have e : ([] : List UInt8) ++ putsT (strs [s]) = putT s.data.toList := by simp [putsT, strs]
  rw [e] at ho
  exact ho

theorem nodes_next (l : List Int) (k : Nat) (h : k < l.length) : putsZ (l.take (k + 1)) = putsZ (l.take k) ++ putZ l[k] := putsZ_next l k h
set_option maxRecDepth 100000 in
set_option maxHeartbeats 1000000 in
theorem nodes_text (w : World) (A : Option Addr) (c : Nat) (l : List Int) (hr : Row w A (fun _ => True) (l.map (Value.int .i64))) (_hl : l.length ≤ c) (_hc : c ≤ maxLen) (hn : l.length ≤ 100) (hf : ∀ z ∈ l, -9223372036854775808 ≤ z ∧ z < 9223372036854775808) :
    Calls Tryd.prog 53 #[.slice A l.length c] w fun e w' => e = .returned (.string (txt (putsZ l))) ∧ Kp w w' := by
  have HR := Lib.hid hr
  have HF := Lib.hid hf
  have HT := Lib.hid (show putsZ (l.take l.length) = putsZ l from by rw [List.take_length])
  unfold maxLen at _hc
  clear hr hf
  go_enter Tryd.func53, Tryd.ntmps53
  go_wp2_with fail
  go_loopw [3, 8] (fun v i wr => ∃ k : Nat, k ≤ l.length ∧ i = .int .i64 (k : Int) ∧ Hid (OwnB wr w.heap.size v (putsZ (l.take k))) ∧ Hid (Kp w wr)) (fun _ i _ => l.length - (intOf i).toNat)
  case atStart => exact ⟨0, Nat.zero_le _, rfl, Lib.hid (World.ownsRow_nil _ _ _ _), Lib.hid (Keeps.refl _ _)⟩
  case round =>
    obtain ⟨k, hk, rfl, HO, HK⟩ := hrel
    by_cases hlt : k < l.length
    · have hlt' : (k : Int) < (l.length : Int) := by omega
      obtain ⟨b, o, rfl, -, c0⟩ := (HR.out.keep HK.out).at_ (k := k) (by simpa using hlt)
      rw [List.getElem_map] at c0
      have HN := Lib.hid (nodes_next l k hlt)
      have hz := HF.out _ (List.getElem_mem hlt)
      have hln := putsZ_len (l.take k) fun z hz => HF.out z (List.mem_of_mem_take hz)
      have htl : (l.take k).length ≤ k := List.length_take_le _ _
      obtain ⟨q, hq⟩ : ∃ q, (putsZ (l.take k)).length = q := ⟨_, rfl⟩
      have hq1 : q ≤ 1000 := by omega
      have HQ := Lib.hid hq
      generalize l[k] = z at c0 HN hz
      have hzl := putZ_len z hz.1 hz.2
      obtain ⟨p, hp⟩ : ∃ p, (putZ z).length = p := ⟨_, rfl⟩
      rw [hp] at hzl
      have HP := Lib.hid hp
      have HC := Lib.hid (put_one z hz.1 hz.2)
      have hsz := HK.out.size
      clear hln htl hq hz hp
      go_wp2_with fail
      refine (HC.out _ _ (Row.fresh _ _ _ (0, 0) _ (by simp) trivial _ rfl)).mono ?_
      rintro e w1 ⟨v1, rfl, ho1, hk1⟩
      replace hk1 := ((Keeps.refl (fun _ => True) wr).alloc _).trans hk1
      have HSRC := Lib.hid (src_own ho1)
      have HW := Lib.hid (hk1.own HO.out fun _ _ => trivial)
      have HK1 := Lib.hid (HK.out.trans hk1)
      have hsz1 := HK1.out.size
      clear ho1 hk1 HC
      unfold OwnB at HW
      rw [HQ.out] at HW
      rw [HP.out] at HSRC
      go_wp2_with (at_builtin; refine byte_elem.list_append rfl (.tmp 12) (.tmp 15) _ rfl rfl HW.out rfl HSRC.out ?c3 ?c4 hsz1 ?_)
      case c3 => unfold maxLen; omega
      case c4 => omega
      intro v3 w3 ho3 hg3 hb3
      have H1 := Lib.hid (show OwnB w3 w.heap.size v3 (putsZ (l.take (k + 1))) from by
        rw [HN.out]
        exact OwnB.snoc ho3 (by rw [List.length_append, HQ.out, HP.out]) rfl)
      have H2 := Lib.hid (HK1.out.grown hg3 fun j hj => (HW.out.lt j hj).1)
      clear ho3 hg3 hb3 HW HK1 HSRC HO HK
      go_wp2_with fail
      go_roundw
      case rel => exact ⟨k + 1, hlt, by go_num, H1, H2⟩
      case measure => simp [intOf]; omega
    · obtain rfl : k = l.length := by omega
      have hlt' : ¬ ((l.length : Int) < (l.length : Int)) := by omega
      have ho := HO.out
      rw [HT.out] at ho
      have hcv := ho.text
      clear hlt ho HO
      go_wp2_with fail
      go_ret
      exact ⟨rfl, HK.out⟩

theorem marks_next (l : List Mk) (k : Nat) (h : k < l.length) : marksOf (l.take (k + 1)) = (marksOf (l.take k) ++ putZ l[k].seq) ++ putT l[k].key.data.toList := by
  rw [List.take_succ_eq_append_getElem h, marksOf_snoc, Mk.bytes, List.append_assoc]
set_option maxRecDepth 100000 in
set_option maxHeartbeats 1000000 in
theorem marks_text (w : World) (A : Option Addr) (c : Nat) (l : List Mk) (hA : MksAt w A (fun _ => True) l) (_hl : l.length ≤ c) (_hc : c ≤ maxLen) (hn : l.length ≤ 4) (hf : ∀ x ∈ l, 1 ≤ x.seq ∧ x.seq ≤ 1099511627776 ∧ x.key.size ≤ 40) :
    Calls Tryd.prog 52 #[.slice A l.length c] w fun e w' => e = .returned (.string (txt (marksOf l))) ∧ Kp w w' := by
  have HA := Lib.hid hA
  have HF := Lib.hid hf
  have HT := Lib.hid (show marksOf (l.take l.length) = marksOf l from by rw [List.take_length])
  unfold maxLen at _hc
  clear hA hf
  go_enter Tryd.func52, Tryd.ntmps52
  go_wp2_with fail
  go_loopw [3, 8] (fun v i wr => ∃ k : Nat, k ≤ l.length ∧ i = .int .i64 (k : Int) ∧ Hid (OwnB wr w.heap.size v (marksOf (l.take k))) ∧ Hid (Kp w wr)) (fun _ i _ => l.length - (intOf i).toNat)
  case atStart => exact ⟨0, Nat.zero_le _, rfl, Lib.hid (World.ownsRow_nil _ _ _ _), Lib.hid (Keeps.refl _ _)⟩
  case round =>
    obtain ⟨k, hk, rfl, HO, HK⟩ := hrel
    by_cases hlt : k < l.length
    · have hlt' : (k : Int) < (l.length : Int) := by omega
      obtain ⟨b, o, rfl, -, c0, c1⟩ := (HA.out.keep HK.out) k hlt
      have HN := Lib.hid (marks_next l k hlt)
      have hz := HF.out _ (List.getElem_mem hlt)
      have hln := marksOf_len (l.take k) fun z hz => HF.out z (List.mem_of_mem_take hz)
      have htl : (l.take k).length ≤ k := List.length_take_le _ _
      obtain ⟨q, hq⟩ : ∃ q, (marksOf (l.take k)).length = q := ⟨_, rfl⟩
      have hq1 : q ≤ 1000 := by omega
      have HQ := Lib.hid hq
      generalize l[k] = x at c0 c1 HN hz
      obtain ⟨z, s⟩ := x
      simp only at c0 c1 HN hz
      have hzl := putZ_len z (by omega) (by omega)
      have hsl : (putT s.data.toList).length ≤ 1210 := by
        have k0 : s.data.toList.length = s.size := by simp
        exact putT_len (by omega)
      obtain ⟨p, hp⟩ : ∃ p, (putZ z).length = p := ⟨_, rfl⟩
      obtain ⟨p2, hp2⟩ : ∃ p, (putT s.data.toList).length = p := ⟨_, rfl⟩
      rw [hp] at hzl
      rw [hp2] at hsl
      have HP := Lib.hid hp
      have HP2 := Lib.hid hp2
      have HC := Lib.hid (put_one z (by omega) (by omega))
      have HD := Lib.hid (puttext_one s (by omega))
      have hsz := HK.out.size
      clear hln htl hq hz hp hp2
      go_wp2_with fail
      refine (HC.out _ _ (Row.fresh _ _ _ (0, 0) _ (by simp) trivial _ rfl)).mono ?_
      rintro e w1 ⟨v1, rfl, ho1, hk1⟩
      replace hk1 := ((Keeps.refl (fun _ => True) (wr.alloc (.cells #[.int .i64 z, .string s] 57))).alloc _).trans hk1
      have HSRC := Lib.hid (src_own ho1)
      have HW := Lib.hid (((Keeps.refl (fun _ => True) wr).alloc _ |>.trans hk1).own HO.out fun _ _ => trivial)
      have hbk := (hk1.block wr.heap.size trivial (by simp)).trans (heap_alloc_new wr (.cells #[.int .i64 z, .string s] 57))
      have HBK := Lib.hid hbk
      have HK1 := Lib.hid ((HK.out.alloc (.cells #[.int .i64 z, .string s] 57)).trans hk1)
      have hsz1 := HK1.out.size
      clear ho1 hk1 HC hbk
      unfold OwnB at HW
      rw [HQ.out] at HW
      rw [HP.out] at HSRC
      go_wp2_with (at_builtin; refine byte_elem.list_append rfl (.tmp 12) (.tmp 16) _ rfl rfl HW.out rfl HSRC.out ?c3 ?c4 hsz1 ?_)
      case c3 => unfold maxLen; omega
      case c4 => omega
      intro v3 w3 ho3 hg3 hb3
      have H1 := Lib.hid (show OwnB w3 w.heap.size v3 (marksOf (l.take k) ++ putZ z) from OwnB.snoc ho3 (by rw [List.length_append, HQ.out, HP.out]) rfl)
      have H2 := Lib.hid (HK1.out.grown hg3 fun j hj => (HW.out.lt j hj).1)
      have hne : ∀ j, u3.ownBlock = some j → j < wr.heap.size := fun j hj => (HO.out.lt j hj).2
      have hg4 := hg3.block wr.heap.size (by have := HK1.out.size; have := (World.block_lt_of_cell? w1 ⟨wr.heap.size, 0, none⟩ ((cell_of_block HBK.out 0).trans rfl)); exact this) (fun e => by have := hne _ e.symm; omega)
      have hb4 := hg4.trans HBK.out
      have e0 := (cell_of_block hb4 0).trans rfl
      have e1 := (cell_of_block hb4 1).trans rfl
      have hsz3 := H2.out.size
      clear ho3 hg3 hb3 HW HK1 HSRC HO HK hne hg4 hb4 c0 c1
      go_wp2_with fail
      refine (HD.out _ _ (Row.fresh _ _ _ (0, 0) _ (by simp) trivial _ rfl)).mono ?_
      rintro e w4 ⟨v4, rfl, ho4, hk4⟩
      replace hk4 := ((Keeps.refl (fun _ => True) w3).alloc _).trans hk4
      have HSRC := Lib.hid (src_own ho4)
      have HW := Lib.hid (hk4.own H1.out fun _ _ => trivial)
      have HK4 := Lib.hid (H2.out.trans hk4)
      have hsz4 := HK4.out.size
      clear ho4 hk4 HD H1 H2
      unfold OwnB at HW
      rw [List.length_append, HQ.out, HP.out] at HW
      rw [HP2.out] at HSRC
      go_wp2_with (at_builtin; refine byte_elem.list_append rfl (.tmp 18) (.tmp 22) _ rfl rfl HW.out rfl HSRC.out ?c3 ?c4 hsz4 ?_)
      case c3 => unfold maxLen; omega
      case c4 => omega
      intro v5 w5 ho5 hg5 hb5
      have H1 := Lib.hid (show OwnB w5 w.heap.size v5 (marksOf (l.take (k + 1))) from by
        rw [HN.out]
        exact OwnB.snoc ho5 (by rw [List.length_append, List.length_append, HQ.out, HP.out, HP2.out]) rfl)
      have H2 := Lib.hid (HK4.out.grown hg5 fun j hj => (HW.out.lt j hj).1)
      clear ho5 hg5 hb5 HW HK4 HSRC e0 e1
      go_wp2_with fail
      go_roundw
      case rel => exact ⟨k + 1, hlt, by go_num, H1, H2⟩
      case measure => simp [intOf]; omega
    · obtain rfl : k = l.length := by omega
      have hlt' : ¬ ((l.length : Int) < (l.length : Int)) := by omega
      have ho := HO.out
      rw [HT.out] at ho
      have hcv := ho.text
      clear hlt ho HO
      go_wp2_with fail
      go_ret
      exact ⟨rfl, HK.out⟩

set_option maxRecDepth 100000 in
set_option maxHeartbeats 2000000 in
theorem mhead (w : World) (m : Ms) (a : MsA) (h : headB m = true) :
    Calls Tryd.prog 54 #[msV m a] w fun e w' => ∃ v, e = .returned v ∧ OwnB w' w.heap.size v (putsZ (headZ m)) ∧ Kp w w' := by
  have HC := Lib.hid (fun (w1 : World) => put_any none (some ⟨w1.heap.size, 0, none⟩) 0 12 (fun _ => True) (fun _ => True) [] (headZ m) (w1.alloc (.cells #[.int .i64 m.kind, .int .i64 m.frm, .int .i64 m.to_, .int .i64 m.epoch, .int .i64 m.tick, .int .i64 m.seq, .int .i64 m.n, .int .i64 m.id, .int .i64 m.op, .int .i64 m.err, .int .i64 (lastZ m.last), .int .i64 m.base] 2)) (Row.nil _ _ _)
    (Row.fresh w1 _ 2 (0, 0) _ rfl trivial _ rfl) (headZ_in h) (by simp) (by show 12 ≤ 34359738368; decide))
  obtain ⟨vM, hvM⟩ : ∃ v, msV m a = v := ⟨_, rfl⟩
  have HVM := Lib.hid hvM
  rw [hvM]
  clear h hvM
  go_enter Tryd.func54, Tryd.ntmps54
  go_upto_region 1 with (refine list_boxM rfl (.tmp 0) rfl m a HVM.out.symm ?_; intro w1 hb1 hk1 hs1)
  obtain ⟨g, hg⟩ : ∃ g, w.heap.size = g := ⟨_, rfl⟩
  have HG := Lib.hid hg
  rw [hg] at hb1 hs1 ⊢
  have c0 := hb1.cell 0 (.int .i64 m.kind) rfl
  have c1 := hb1.cell 1 (.int .i64 m.frm) rfl
  have c2 := hb1.cell 2 (.int .i64 m.to_) rfl
  have c3 := hb1.cell 3 (.int .i64 m.epoch) rfl
  have c4 := hb1.cell 4 (.int .i64 m.tick) rfl
  have c5 := hb1.cell 5 (.int .i64 m.seq) rfl
  have c6 := hb1.cell 6 (.int .i64 m.n) rfl
  have c7 := hb1.cell 7 (.int .i64 m.id) rfl
  have c8 := hb1.cell 8 (.int .i64 m.op) rfl
  have c10 := hb1.cell 10 (.int .i64 m.err) rfl
  have c11 := hb1.cell 11 (.bool m.last) rfl
  have c19 := hb1.cell 19 (.int .i64 m.base) rfl
  have HK := Lib.hid hk1
  clear hb1 hk1 hs1 hg
  rcases hlast : m.last with _ | _
  all_goals
    rw [hlast] at c11 HC
    unfold lastZ at HC
    simp only [Bool.false_eq_true, if_false, if_true] at HC
    go_wp2_with fail
    refine (HC.out _).mono ?_
    rintro e w2 ⟨v2, rfl, ho2, hk2⟩
    have H1 := Lib.hid (show OwnB w2 w.heap.size v2 (putsZ (headZ m)) from ownsRow_le ho2 (by have := HK.out.size; simp; omega))
    have H2 := Lib.hid ((HK.out.alloc _).trans hk2)
    clear ho2 hk2 HC c0 c1 c2 c3 c4 c5 c6 c7 c8 c10 c11 c19
    go_wp2_with fail
    go_ret
    exact ⟨_, rfl, H1.out, H2.out⟩

end Go.Proofs.YtpijhpfcigjkeaaDoor
