/-
  SlgStream, SlgParse, SlgCut, SlgBody: texts of mine, joined.
-/
import Derived.Test.YticophaepapjoaaGreatDoorAllB12
import Derived.Test.YticophaepapjoaaGreatDoorAllB04
open Go.Lib renaming hid → Hd
set_option maxRecDepth 100000
set_option maxHeartbeats 8000000
namespace Go.Proofs.YticophaepapjoaaGreatDoor
open Go Go.RowKit Go.Joins
theorem nsec_big {n k : Nat} (h : nsec n ≤ k) : n ≤ 53 * k := by unfold nsec at h; omega
theorem take_all (l : List UInt8) (a m m' : Nat) (h : l.length ≤ 53 * (a + m)) (h' : m ≤ m') : (l.drop (53 * a)).take (53 * m) = (l.drop (53 * a)).take (53 * m') := by
 rw [List.take_of_length_le (by rw [List.length_drop]; omega), List.take_of_length_le (by rw [List.length_drop]; omega)]
structure SBox (w : World) (b sl f : Nat) (E : Value) : Prop where
 s : w.cell? ⟨b, 0, none⟩ = some (.int .i64 (sl : Int))
 f : w.cell? ⟨b, 1, none⟩ = some (.int .i64 (f : Int))
 e : w.cell? ⟨b, 2, none⟩ = some E
theorem SBox.keep {w w' : World} {b sl f : Nat} {E : Value} {F : Nat → Prop} (h : SBox w b sl f E) (hk : Keeps F w w') (hF : F b) : SBox w' b sl f E := ⟨hk.cell h.s hF, hk.cell h.f hF, hk.cell h.e hF⟩
theorem SBox.new (w : World) (sl f : Nat) (E : Value) : SBox (w.alloc (.cells #[.int .i64 (sl : Int), .int .i64 (f : Int), E] 179)) w.heap.size sl f E := by
 have h := heap_alloc_new w (.cells #[.int .i64 (sl : Int), .int .i64 (f : Int), E] 179)
 exact ⟨(cell_of_block h 0).trans rfl, (cell_of_block h 1).trans rfl, (cell_of_block h 2).trans rfl⟩
theorem stream_any (w : World) (hT : Taken w) (q p i n : Nat) (hL : LHead w q p i n) (F : Foot) (s : SDev) (hd : DAt w p F s) (sl f : Nat) (text : List UInt8) (E : Value) (hE : E.oneCell' = true)
  (hon : ∀ k, k < nsec text.length → secAt s.now i sl k = some (f * 8 + k, chunk text k)) (hrest : ∀ k, nsec text.length ≤ k → k < 8 → ∀ n x, secAt s.now i sl k = some (n, x) → n < f * 8) (hlen : text.length ≤ 424)
  (hi : i ≤ 2048) (hsl : sl ≤ 2048) (hf : f ≤ 274877906943) (hin : i + sl * 8 + 8 ≤ s.now.length) (a e : Nat) (hae : a ≤ e) (he : e ≤ 8) :
  Calls Tryz.prog 151 #[.pointer (some ⟨q, 0, none⟩), .agg #[.int .i64 (sl : Int), .int .i64 (f : Int), E], .int .i64 (a : Int), .int .i64 (e : Int)] w fun e' w' => ∃ v, e' = .returned v ∧ OwnB w' w.heap.size v ((text.drop (53 * a)).take (53 * (e - a))) ∧ Kp w w' := by
 have HT := Hd hT
 have HL := Hd hL
 have HD := Hd hd
 have HON := Hd hon
 have HRS := Hd hrest
 have HLD := Hd (fun (wr : World) (hk : Kp w wr) (k : Nat) (hk8 : k < 8) => lload_any wr (hT.keep hk) q p i n (hL.keep hk trivial) F s (hd.keep (hk.mono fun _ _ _ => trivial)) sl k hi hsl hk8 (by omega))
 have hk0 : Kp w (w.alloc (.cells #[.int .i64 (sl : Int), .int .i64 (f : Int), E] 179)) := (Keeps.refl _ w).alloc _
 have hb0 := SBox.new w sl f E
 have hz0 : (w.alloc (.cells #[.int .i64 (sl : Int), .int .i64 (f : Int), E] 179)).heap.size = w.heap.size + 1 := by simp
 have HK0 := Hd hk0
 have HB0 := Hd hb0
 have HZ0 := Hd hz0
 clear hT hL hd hon hrest hk0 hb0 hz0 hin
 go_enter Tryz.func151, Tryz.ntmps151
 go_wp2_with fail
 go_loopw [2, 9] (fun vk vo wr => ∃ (k : Nat) (u : Value), a ≤ k ∧ k ≤ e ∧ vk = .int .i64 k ∧ u = vo ∧ OwnB wr (w.heap.size + 1) u ((text.drop (53 * a)).take (53 * (k - a))) ∧ Kp w wr ∧ SBox wr w.heap.size sl f E ∧ w.heap.size < wr.heap.size) (fun vk _ _ => e - (intOf vk).toNat)
 case atStart =>
  refine ⟨a, _, Nat.le_refl _, hae, rfl, rfl, ?_, HK0.out, HB0.out, by rw [HZ0.out]; omega⟩
  rw [Nat.sub_self, Nat.mul_zero, List.take_zero]
  exact World.ownsRow_nil _ _ _ _
 case round =>
  obtain ⟨k, u, hak, hke, rfl, hu, ho, hkp, hbx, hzr⟩ := hrel
  subst hu
  by_cases hlt : k < e
  ·have hld := HLD.out wr hkp k (by omega)
   have HLC := Hd hld
   have HO := Hd ho
   have HK := Hd hkp
   have HBX := Hd hbx
   have c0 := hbx.s
   clear hld ho hkp hbx
   go_wp2_with fail
   refine HLC.out.mono ?_
   rintro e' w2 ⟨rfl, hk2⟩
   have hb2 := HBX.out.keep hk2 trivial
   have c0 := hb2.s
   have c1 := hb2.f
   have c2 := hb2.e
   have HK2 := Hd (HK.out.trans hk2)
   have HO2 := Hd (show OwnB w2 (w.heap.size + 1) u ((text.drop (53 * a)).take (53 * (k - a))) from hk2.own HO.out fun _ _ => trivial)
   have HB2 := Hd hb2
   have HZ2 := Hd (Nat.lt_of_lt_of_le hzr hk2.size)
   clear hk2 hb2 HLC HO HK HBX
   have hNN := Hd (number_any w2 (.int .i64 (sl : Int)) f k E rfl hE (by omega) (by omega))
   by_cases hns : k < nsec text.length
   ·rw [HON.out k hns]
    unfold ldV
    obtain ⟨N, hN⟩ : ∃ N, f * 8 + k = N := ⟨_, rfl⟩
    have hNN := hNN.out
    rw [hN] at hNN ⊢
    have HN := Hd hNN
    clear hNN hN
    have hcl := chunk_len text k
    have hcx := chunk_next text a (k - a)
    rw [show a + (k - a) = k by omega, show k - a + 1 = k + 1 - a by omega] at hcx
    generalize hcc : chunk text k = cx at hcl hcx ⊢
    have HCX := Hd hcx
    clear hcx hcc
    go_wp2_with fail
    refine HN.out.mono ?_
    rintro e' w3 ⟨rfl, hk3⟩
    have HK3 := Hd (HK2.out.trans hk3)
    have HO3 := Hd (show OwnB w3 (w.heap.size + 1) u ((text.drop (53 * a)).take (53 * (k - a))) from hk3.own HO2.out fun _ _ => trivial)
    have HB3 := Hd (HB2.out.keep hk3 trivial)
    have HZ3 := Hd (Nat.lt_of_lt_of_le HZ2.out hk3.size)
    have hle3 : w.heap.size + 1 ≤ w3.heap.size := HZ3.out
    have hl3 : ((text.drop (53 * a)).take (53 * (k - a))).length ≤ 424 := by rw [List.length_take, List.length_drop]; omega
    have hts := txt_size cx
    have hcx53 : cx.length ≤ 53 := by omega
    clear hk3 HN HK2 HO2 HB2 HZ2 c0 c1 c2
    go_wp2_with (at_builtin; refine byte_elem.list_append rfl (.tmp 36) (.tmp 37) _ rfl rfl HO3.out rfl (Src.ofString _ Tryz.underlying9 (txt cx)) ?c3 ?c4 ?c5 ?_)
    case c3 => unfold maxLen; omega
    case c4 => omega
    case c5 => omega
    intro v4 w4 ho4 hg4 hb4
    have hown3 := HO3.out
    have hk4 : Kp w w4 := HK3.out.grown hg4 fun b hb => by have := (hown3.lt b hb).1; omega
    have HB4 := Hd (HB3.out.keep (Keeps.of_grown (F := fun b => u.ownBlock ≠ some b) hg4 fun b hb _ hn => hn hb) (fun e => by have := (hown3.lt _ e).1; omega))
    have ho4' : OwnB w4 (w.heap.size + 1) v4 ((text.drop (53 * a)).take (53 * (k + 1 - a))) := by
     rw [HCX.out]
     refine OwnB.snoc ho4 ?_ (by rw [bcells_str]; rfl)
     rw [List.length_append, List.length_take, List.length_drop, hcl]
    have HO4 := Hd ho4'
    have HK4 := Hd hk4
    have HZ4 := Hd (Nat.lt_of_lt_of_le HZ3.out hg4.size)
    clear ho4 hg4 hb4 hown3 hk4 ho4' HO3 HK3 HB3 hl3 hle3
    have hcs : (decide (((txt cx).size : Int) < 53) = true ∧ cx.length < 53) ∨ decide (((txt cx).size : Int) < 53) = false := by
     by_cases h : cx.length < 53
     ·left; exact ⟨by rw [hts]; simp; omega, h⟩
     ·right; rw [hts]; simp; omega
    clear hts
    rcases hcs with ⟨t0, hb⟩ | t0
    ·have HFIN := Hd (show OwnB w4 w.heap.size v4 ((text.drop (53 * a)).take (53 * (e - a))) from by
      rw [← take_all text a (k + 1 - a) (e - a) (by omega) (by omega)]
      exact ownsRow_le HO4.out (by omega))
     go_wp2_with fail
     go_ret
     exact ⟨_, rfl, HFIN.out, HK4.out⟩
    ·go_wp2_with fail
     go_roundw
     case rel => exact ⟨k + 1, _, by omega, by omega, by go_num, rfl, HO4.out, HK4.out, HB4.out, HZ4.out⟩
     case measure => simp [intOf]; omega
   ·have hnb := nsec_big (Nat.le_of_not_lt hns)
    have HFIN := Hd (show ∀ w3, Kp w2 w3 → OwnB w3 w.heap.size u ((text.drop (53 * a)).take (53 * (e - a))) from fun w3 hk3 => by
     rw [← take_all text a (k - a) (e - a) (by omega) (by omega)]
     exact hk3.own (ownsRow_le HO2.out (by omega)) fun _ _ => trivial)
    obtain ⟨r, hr⟩ : ∃ r, secAt s.now i sl k = r := ⟨_, rfl⟩
    have hm := fun m x h => HRS.out k (Nat.le_of_not_lt hns) (by omega) m x (hr.trans h)
    rw [hr]
    clear hr
    rcases r with _ | ⟨m, x⟩
    ·unfold ldV
     clear hm
     go_wp2_with fail
     go_ret
     exact ⟨_, rfl, HFIN.out _ (Keeps.refl _ _), HK2.out⟩
    ·have hm2 := hm m x rfl
     unfold ldV
     obtain ⟨N, hN⟩ : ∃ N, f * 8 + k = N := ⟨_, rfl⟩
     have hNN := hNN.out
     rw [hN] at hNN
     have HN := Hd hNN
     have hne : (((m : Nat) : Int) != (N : Int)) = true := by simp; omega
     clear hNN hN hm hm2
     go_wp2_with fail
     refine HN.out.mono ?_
     rintro e' w3 ⟨rfl, hk3⟩
     have HK3 := Hd hk3
     clear hk3
     go_wp2_with fail
     go_ret
     exact ⟨_, rfl, HFIN.out _ HK3.out, HK2.out.trans HK3.out⟩
  ·obtain rfl : k = e := by omega
   have HFIN := Hd (show OwnB wr w.heap.size u ((text.drop (53 * a)).take (53 * (k - a))) from ownsRow_le ho (by omega))
   have HK := Hd hkp
   clear ho hkp hbx
   go_wp2_with fail
   go_ret
   exact ⟨_, rfl, HFIN.out, HK.out⟩
def endsT (rs : List LRec) (k : Nat) : List Value := (endsC rs).take k
theorem endsT_next (rs : List LRec) (k : Nat) (h : k < rs.length) : endsT rs (k + 1) = endsT rs k ++ [.int .i64 (endAt rs (k + 1) : Int)] := by
 unfold endsT
 rw [take_next _ _ (by rw [endsC_len]; exact h)]
 congr 1
 have := endsC_at rs k h
 rw [List.getElem?_eq_getElem (by rw [endsC_len]; exact h)] at this
 injection this with this
 rw [this]
theorem endsT_all (rs : List LRec) : endsT rs rs.length = endsC rs := by
 unfold endsT; rw [List.take_of_length_le (by rw [endsC_len]; exact Nat.le_refl _)]
theorem getT_nil : getT [] = ([], 0, 2) := by
 have h : getZ [] = (0, 0, 2) := by unfold getZ vget; rfl
 exact getT_err h (by decide)
theorem getT_rec (rs : List LRec) (i : Nat) (h : i < rs.length) (hb : rs[i].body.length ≤ 300) : getT ((strm rs).drop (endAt rs i)) = (rs[i].body, endAt rs (i + 1) - endAt rs i, 0) := by
 rw [strm_at rs i h, getT_put _ _ (by omega), endAt_next rs i h, Nat.add_sub_cancel_left]
theorem parse_seg (w : World) (sl f : Nat) (g o c : Nat) (G : Nat → Prop) (rs : List LRec) (hr : Row w (some ⟨g, o, none⟩) G (bcells (strm rs))) (hlc : (strm rs).length ≤ c) (hcm : c ≤ maxLen) (hlen : (strm rs).length ≤ 424) (hone : ∀ r ∈ rs, 1 ≤ r.body.length ∧ r.body.length ≤ 300) :
  Calls Tryz.prog 200 #[.int .i64 (sl : Int), .int .i64 (f : Int), .slice (some ⟨g, o, none⟩) (strm rs).length c] w fun e w' => ∃ E, e = .returned (.agg #[.int .i64 (sl : Int), .int .i64 (f : Int), E]) ∧ w'.ownsRow w.heap.size 3 1 E rs.length (endsC rs) ∧ Kp w w' := by
 have hcm' := hcm
 unfold maxLen at hcm'
 have hcnt := strm_count rs fun r h => (hone r h).1
 have HR := Hd hr
 have HONE := Hd hone
 have hk0 : Kp w ((w.alloc (.cells #[.int .i64 0, .int .i64 0, .slice none 0 0] 179)).alloc (.cells #[.int .i64 (sl : Int), .int .i64 (f : Int), .slice none 0 0] 179)) := ((Keeps.refl _ w).alloc _).alloc _
 have hb6 : ((w.alloc (.cells #[.int .i64 0, .int .i64 0, .slice none 0 0] 179)).alloc (.cells #[.int .i64 (sl : Int), .int .i64 (f : Int), .slice none 0 0] 179)).heap[w.heap.size]? = some (.cells #[.int .i64 0, .int .i64 0, .slice none 0 0] 179 (0, 0)) :=
  (Below.heap_alloc _ _ _ (by simp)).trans (heap_alloc_new w _)
 have hb7 : ((w.alloc (.cells #[.int .i64 0, .int .i64 0, .slice none 0 0] 179)).alloc (.cells #[.int .i64 (sl : Int), .int .i64 (f : Int), .slice none 0 0] 179)).heap[w.heap.size + 1]? = some (.cells #[.int .i64 (sl : Int), .int .i64 (f : Int), .slice none 0 0] 179 (0, 0)) := by
  have h := heap_alloc_new (w.alloc (.cells #[.int .i64 0, .int .i64 0, .slice none 0 0] 179)) (.cells #[.int .i64 (sl : Int), .int .i64 (f : Int), .slice none 0 0] 179)
  rwa [World.size_alloc] at h
 have hz0 : ((w.alloc (.cells #[.int .i64 0, .int .i64 0, .slice none 0 0] 179)).alloc (.cells #[.int .i64 (sl : Int), .int .i64 (f : Int), .slice none 0 0] 179)).heap.size = w.heap.size + 2 := by simp
 have HK0 := Hd hk0
 have HB6 := Hd hb6
 have HB7 := Hd hb7
 have HZ0 := Hd hz0
 clear hr hone hk0 hb6 hb7 hz0
 obtain ⟨N, hN⟩ : ∃ N, (strm rs).length = N := ⟨_, rfl⟩
 have HN := Hd hN
 rw [hN] at hlc hlen hcnt ⊢
 clear hN
 go_enter Tryz.func200, Tryz.ntmps200
 go_wp2_with fail
 go_loopw [8] (fun va wr => ∃ (k : Nat) (E : Value) (fr : Nat × Nat), k ≤ rs.length ∧ va = .int .i64 (endAt rs k : Int) ∧ wr.ownsRow (w.heap.size + 2) 3 1 E k (endsT rs k) ∧ wr.heap[w.heap.size + 1]? = some (.cells #[.int .i64 (sl : Int), .int .i64 (f : Int), E] 179 (0, 0)) ∧ wr.heap[w.heap.size]? = some (.cells #[.int .i64 0, .int .i64 0, .slice none 0 0] 179 (0, 0)) ∧ Kp w wr ∧ w.heap.size + 2 ≤ wr.heap.size) (fun va _ => N + 1 - (intOf va).toNat)
 case atStart =>
  refine ⟨0, .slice none 0 0, (0, 0), Nat.zero_le _, by rw [endAt_zero]; rfl, ?_, HB7.out, HB6.out, HK0.out, by rw [HZ0.out]; exact Nat.le_refl _⟩
  exact World.ownsRow_nil _ _ _ _
 case round =>
  obtain ⟨k, E, fr, hk, rfl, ho, hb7, hb6, hkp, hzr⟩ := hrel
  have hrow := HR.out.keep (hkp.mono fun _ _ _ => trivial)
  have hez := endAt_le rs k
  rw [HN.out] at hez
  by_cases hlt : k < rs.length
  ·have hez1 := endAt_lt rs k hlt
   have hez2 := endAt_le rs (k + 1)
   rw [HN.out] at hez2
   have hob := HONE.out _ (List.getElem_mem hlt)
   have hgt := get_text (some ⟨g, o + endAt rs k, none⟩) (c - endAt rs k) _ ((strm rs).drop (endAt rs k)) wr (cut_end (n := N) (k := endAt rs k) (c := c) hrow HN.out (by omega) (.inr ⟨by omega, hlc⟩)) (by rw [List.length_drop, HN.out]; omega) (by rw [List.length_drop, HN.out]; omega) (by omega)
   rw [getT_rec rs k hlt hob.2, List.length_drop, HN.out] at hgt
   simp only at hgt
   have hnx := endsT_next rs k hlt
   generalize hz : endAt rs k = z at hgt hez hez1 ⊢
   generalize hz1 : endAt rs (k + 1) = z1 at hgt hnx hez1 hez2
   obtain ⟨d, rfl⟩ : ∃ d, z1 = z + d := ⟨z1 - z, by omega⟩
   rw [Nat.add_sub_cancel_left] at hgt
   have HZ1 := Hd hz1
   generalize rs[k].body = y at hgt hob
   have hne : ¬ c = z := by omega
   have hle : z ≤ N := by omega
   have hle2 : z ≤ c := by omega
   have HGT := Hd hgt
   have HNX := Hd hnx
   have HO := Hd ho
   have HB7r := Hd hb7
   have HB6r := Hd hb6
   have HKr := Hd hkp
   have hfit := Hd (fits_any wr y.length (by unfold maxLen; omega))
   have hfd : decide (1 ≤ y.length ∧ y.length ≤ 300) = true := by simp; omega
   have hty := txt_size y
   have c2 := (cell_of_block hb7 2).trans rfl
   have hsz1 : w.heap.size + 2 ≤ (wr.alloc (.cells #[.int .i64 ((z : Int) + (d : Int))] 3)).heap.size := by simp; omega
   clear hgt hnx ho hb7 hb6 hkp hz hz1 hrow
   go_wp2_with fail
   refine HGT.out.mono ?_
   rintro e' w' ⟨rfl, rfl⟩
   rw [show ((0 : Nat) : Int) = 0 from rfl]
   go_wp2_with fail
   rw [hty] at *
   refine hfit.out.mono ?_
   rintro e' w' ⟨rfl, rfl⟩
   rw [hfd]
   go_wp2_with (at_builtin; refine int_elem.list_append rfl (.tmp 36) (.tmp 38) _ rfl rfl (HO.out.alloc _) rfl (src_one Tryz.underlying66 _ _ _ rfl _ rfl _) ?c3 ?c4 hsz1 ?_)
   case c3 => unfold maxLen; omega
   case c4 => omega
   intro v3 w3 ho3 hg3 hb3
   have hownE := HO.out
   have hg3' := grown_of_alloc hg3
   have hk3 : Kp w w3 := HKr.out.grown hg3' fun b hb => by have := (hownE.lt b hb).1; omega
   have hkE : Keeps (fun b => E.ownBlock ≠ some b) wr w3 := Keeps.of_grown hg3' fun b hb _ hn => hn hb
   have hb73 := (hkE.block _ (fun e => by have := (hownE.lt _ e).1; omega) (by omega)).trans HB7r.out
   have hb63 := (hkE.block _ (fun e => by have := (hownE.lt _ e).1; omega) (by omega)).trans HB6r.out
   have ho3' : w3.ownsRow (w.heap.size + 2) 3 1 v3 (k + 1) (endsT rs (k + 1)) := by
    rw [HNX.out]
    have e : (((z + d : Nat)) : Int) = (z : Int) + (d : Int) := by omega
    rw [e]
    exact ho3
   have c23 : w3.cell? ⟨w.heap.size + 1, 2, none⟩ = some E := (cell_of_block hb73 2).trans rfl
   have f23 := unfrozen_of_block hb73 2
   have hb74 := block_setCell hb73 (i := 2) v3
   have hb64 : (w3.setCell ⟨w.heap.size + 1, 2, none⟩ v3).heap[w.heap.size]? = _ := (Below.heap_setCell w3 ⟨w.heap.size + 1, 2, none⟩ v3 w.heap.size (by show w.heap.size ≠ w.heap.size + 1; omega)).trans hb63
   have hk4 : Kp w (w3.setCell ⟨w.heap.size + 1, 2, none⟩ v3) := hk3.setCell (.inl (by show w.heap.size ≤ w.heap.size + 1; omega)) _
   have hk34 : Keeps (fun b => b ≠ w.heap.size + 1) w3 (w3.setCell ⟨w.heap.size + 1, 2, none⟩ v3) := (Keeps.refl _ w3).setCell (.inr fun hn => hn rfl) _
   have HO4 := Hd (hk34.own ho3' fun b hb => by have := (ho3'.lt b hb).1; omega)
   have HB74 := Hd hb74
   have HB64 := Hd hb64
   have HK4 := Hd hk4
   have HS4 := Hd (show w.heap.size + 2 ≤ (w3.setCell ⟨w.heap.size + 1, 2, none⟩ v3).heap.size from Nat.le_trans hzr (Nat.le_trans hkE.size hk34.size))
   have HC := Hd (show v3.oneCell' = true from by
    obtain ⟨A3, c3, e3, -, -⟩ := own_slice ho3'
    rw [e3]; rfl)
   obtain ⟨A3, c3, rfl, -, -⟩ := own_slice ho3'
   clear ho3 hg3 hb3 hownE hg3' hk3 hkE hb73 hb63 ho3' hb74 hb64 hk4 hk34 c2 HO HB7r HB6r HKr
   go_wp2_with fail
   go_roundw
   case rel =>
    refine ⟨k + 1, _, (0, 0), by omega, ?_, HO4.out, HB74.out, HB64.out, HK4.out, HS4.out⟩
    rw [HZ1.out]; go_num
   case measure => simp [intOf]; omega
  ·obtain rfl : k = rs.length := by omega
   have hend : (strm rs).drop (endAt rs rs.length) = [] := by rw [endAt_len]; exact List.drop_eq_nil_of_le (Nat.le_refl _)
   have hz : endAt rs rs.length = N := by rw [endAt_len]; exact HN.out
   rw [endsT_all] at ho
   rw [hz]
   have HGT := Hd (fun (A : Option Addr) (cc : Nat) (h0 : cc ≤ maxLen) => (show Calls Tryz.prog 126 #[.slice A 0 cc] wr fun e w' => e = .returned (.tuple #[.string (txt []), .int .i64 0, .int .i64 2]) ∧ wr = w' from by
    have h := get_text A cc (fun _ => True) [] wr (Row.nil _ _ _) (by simp) (by simp) h0
    rw [getT_nil] at h
    exact h))
   have hcs : c = N ∨ (¬ c = N ∧ ¬ c ≤ N) := by omega
   have hle : N ≤ c := hlc
   have c70 := (cell_of_block hb7 0).trans rfl
   have c71 := (cell_of_block hb7 1).trans rfl
   have c72 := (cell_of_block hb7 2).trans rfl
   have c60 := (cell_of_block hb6 0).trans rfl
   have c61 := (cell_of_block hb6 1).trans rfl
   have c62 := (cell_of_block hb6 2).trans rfl
   have f60 := unfrozen_of_block hb6 0
   have f61 := unfrozen_of_block hb6 1
   have f62 := unfrozen_of_block hb6 2
   have HFIN := Hd (show ∀ v0 v1 v2, (((wr.setCell ⟨w.heap.size, 0, none⟩ v0).setCell ⟨w.heap.size, 1, none⟩ v1).setCell ⟨w.heap.size, 2, none⟩ v2).ownsRow w.heap.size 3 1 E rs.length (endsC rs) ∧ Kp w (((wr.setCell ⟨w.heap.size, 0, none⟩ v0).setCell ⟨w.heap.size, 1, none⟩ v1).setCell ⟨w.heap.size, 2, none⟩ v2) from fun v0 v1 v2 => by
    have hk : Keeps (fun b => b ≠ w.heap.size) wr (((wr.setCell ⟨w.heap.size, 0, none⟩ v0).setCell ⟨w.heap.size, 1, none⟩ v1).setCell ⟨w.heap.size, 2, none⟩ v2) := (((Keeps.refl _ wr).setCell (.inr fun hn => hn rfl) _).setCell (.inr fun hn => hn rfl) _).setCell (.inr fun hn => hn rfl) _
    refine ⟨ownsRow_le (hk.own ho fun b hb => by have := (ho.lt b hb).1; omega) (by omega), ((hkp.setCell (.inl (Nat.le_refl _)) _).setCell (.inl (Nat.le_refl _)) _).setCell (.inl (Nat.le_refl _)) _⟩)
   have HCELL := Hd (show ∀ v0 v1 v2, (((wr.setCell ⟨w.heap.size, 0, none⟩ v0).setCell ⟨w.heap.size, 1, none⟩ v1).setCell ⟨w.heap.size, 2, none⟩ v2).cell? ⟨w.heap.size, 0, none⟩ = some v0 ∧ (((wr.setCell ⟨w.heap.size, 0, none⟩ v0).setCell ⟨w.heap.size, 1, none⟩ v1).setCell ⟨w.heap.size, 2, none⟩ v2).cell? ⟨w.heap.size, 1, none⟩ = some v1 ∧ (((wr.setCell ⟨w.heap.size, 0, none⟩ v0).setCell ⟨w.heap.size, 1, none⟩ v1).setCell ⟨w.heap.size, 2, none⟩ v2).cell? ⟨w.heap.size, 2, none⟩ = some v2 from fun v0 v1 v2 => by
    have h1 := block_setCell (block_setCell (block_setCell hb6 (i := 0) v0) (i := 1) v1) (i := 2) v2
    exact ⟨(cell_of_block h1 0).trans rfl, (cell_of_block h1 1).trans rfl, (cell_of_block h1 2).trans rfl⟩)
   obtain ⟨AE, cE, rfl, -, -⟩ := own_slice ho
   clear ho hb7 hb6 hkp hrow hend
   rcases hcs with rfl | ⟨hc1, hc2⟩
   ·go_wp2_with fail
    refine (HGT.out _ _ ?hc).mono ?_
    case hc => omega
    rintro e' w' ⟨rfl, rfl⟩
    go_wp2_with fail
    exact bodyPost_ret (v := .agg #[.int .i64 (sl : Int), .int .i64 (f : Int), .slice AE rs.length cE]) (by simp [results, Tryz.results200, go_sem, HCELL.out]) rfl ⟨_, rfl, (HFIN.out _ _ _).1, (HFIN.out _ _ _).2⟩
   ·go_wp2_with fail
    refine (HGT.out _ _ ?hc).mono ?_
    case hc => omega
    rintro e' w' ⟨rfl, rfl⟩
    go_wp2_with fail
    exact bodyPost_ret (v := .agg #[.int .i64 (sl : Int), .int .i64 (f : Int), .slice AE rs.length cE]) (by simp [results, Tryz.results200, go_sem, HCELL.out]) rfl ⟨_, rfl, (HFIN.out _ _ _).1, (HFIN.out _ _ _).2⟩
def BodyV (w w' : World) (v : Value) (l : List UInt8) : Prop := ∃ A c, v = .slice A l.length c ∧ l.length ≤ c ∧ c ≤ maxLen ∧ Row w' A (fun b => w.heap.size ≤ b ∧ b < w'.heap.size) (bcells l) ∧ Mine w' .u8 A l.length
theorem BodyV.from {w0 w w' : World} {v : Value} {l : List UInt8} (h : BodyV w w' v l) (hs : w0.heap.size ≤ w.heap.size) : BodyV w0 w' v l := by
 obtain ⟨A, c, e, h1, h2, hr, hm⟩ := h
 exact ⟨A, c, e, h1, h2, hr.mono fun b _ hb => ⟨Nat.le_trans hs hb.1, hb.2⟩, hm⟩
theorem conv_body (w : World) (x : List UInt8) (hx : x.length ≤ 70000) : ∃ w1 v, (convert 9 64 (.string (txt x))).run Tryz.prog w = .ok v w1 ∧ BodyV w w1 v x ∧ Keeps (fun _ => True) w w1 := by
 have h := run_bytes_of_string (P := Tryz.prog) w 9 64 5 (txt x) Tryz.underlying9 Tryz.underlying64 Tryz.underlying5
 rw [txt_size] at h
 have hcell : ∀ i v, (bcells x)[i]? = some v → (bytesRow (txt x) (grownCap w x.length 0 5))[i]? = some v := fun i v hv => by
  have hi : i < x.length := by
   have := (List.getElem?_eq_some_iff.1 hv).1
   rwa [bcells_len] at this
  unfold bytesRow
  rw [Array.getElem?_append_left (by simpa [txt] using hi), ← hv]
  simp [bcells, txt]
  rfl
 have hsz : x.length ≤ (bytesRow (txt x) (grownCap w x.length 0 5)).size := by
  unfold bytesRow; simp [txt]
 refine ⟨_, _, h, ⟨_, _, rfl, grownCap_ge w _ _ _, grownCap_le_maxLen w _ _ _ (by unfold maxLen; omega), ?_, ?_⟩, ((Keeps.refl _ w).drew).alloc _⟩
 ·intro _
  refine ⟨_, 0, rfl, ⟨Nat.le_refl _, by simp⟩, fun i v hv => ?_⟩
  rw [Nat.zero_add]
  exact (cell_alloc_mark_at w.drew _ _ _ w.heap.size i rfl).trans (hcell i v hv)
 ·intro _
  refine ⟨w.heap.size, 0, _, _, _, rfl, heap_alloc_new w.drew _, fun i hi => ⟨?_, ?_⟩⟩
  ·rw [Nat.zero_add]
   have hv : (bcells x)[i]? = some (bcell x[i]) := by simp [bcells, hi]
   exact ⟨_, hcell i _ hv⟩
  ·rw [Nat.zero_add]
   refine (World.frozen?_alloc_mark w.drew _ _ _ _ i).trans ?_
   have : ¬ (bytesRow (txt x) (grownCap w x.length 0 5)).size ≤ i := by omega
   simp [this]
theorem cut_any (w : World) (g o c n u v : Nat) (G : Nat → Prop) (l y : List UInt8) (hr : Row w (some ⟨g, o, none⟩) G (bcells l)) (hn : l.length = n) (hnc : n ≤ c) (hcm : c ≤ maxLen) (huv : u < v) (hvn : v ≤ n) (hy : (l.drop u).take (v - u) = putT y) (hyl : y.length ≤ 300) :
  Calls Tryz.prog 150 #[.slice (some ⟨g, o, none⟩) n c, .int .i64 (u : Int), .int .i64 (v : Int)] w fun e w' => ∃ b, e = .returned (.tuple #[b, .bool true]) ∧ BodyV w w' b y ∧ Kp w w' := by
 have hcm' := hcm
 unfold maxLen at hcm'
 have hrow : Row w (some ⟨g, o + u, none⟩) G (bcells (putT y)) := by
  rw [← hy]
  exact bcells_take (cut_end (n := n) (k := u) (c := c) hr hn (by omega) (.inr ⟨by omega, hnc⟩)) _
 have hpl : (putT y).length = v - u := by rw [← hy, List.length_take, List.length_drop, hn]; omega
 have hpm := putT_most y hyl
 have hgt := get_text (some ⟨g, o + u, none⟩) (c - u) _ (putT y) w hrow (by omega) (by omega) (by omega)
 have hpt : getT (putT y) = (y, (putT y).length, 0) := by
  have h := getT_put y [] (by omega)
  rwa [List.append_nil] at h
 rw [hpt, hpl] at hgt
 simp only at hgt
 have HGT := Hd hgt
 have d1 : decide ((n : Int) < (v : Int)) = false := by simp; omega
 have hne : ¬ c = u := by omega
 have h1 : u ≤ v := by omega
 have h2 : v ≤ c := by omega
 obtain ⟨w1, bv, hcv, hb, hk⟩ := conv_body w y (by omega)
 have HB := Hd hb
 have HK := Hd hk
 clear hgt hpt hpl hrow hr hy hb hk hn
 go_enter Tryz.func150, Tryz.ntmps150
 go_wp2_with fail
 refine HGT.out.mono ?_
 rintro e' w' ⟨rfl, rfl⟩
 rw [show ((0 : Nat) : Int) = 0 from rfl]
 go_wp2_with fail
 go_ret2
 exact ⟨_, rfl, HB.out, HK.out⟩
theorem sub_take (l : List UInt8) (a m z z1 : Nat) (h1 : 53 * a ≤ z) (h2 : z < z1) (h3 : z1 ≤ 53 * (a + m)) : (((l.drop (53 * a)).take (53 * m)).drop (z - 53 * a)).take (z1 - 53 * a - (z - 53 * a)) = (l.drop z).take (z1 - z) := by
 rw [List.drop_take, List.take_take, List.drop_drop]
 rw [show 53 * a + (z - 53 * a) = z by omega, show min (z1 - 53 * a - (z - 53 * a)) (53 * m - (z - 53 * a)) = z1 - z by omega]
def VB (_b : Nat) (u v E : Value) (j z z1 : Nat) : Nat → World → Value → Prop
 | 0 => IsV (.agg #[u, v, E])
 | 1 => IsV (.int .i64 (j : Int))
 | 2 => IsV (.int .i64 (z : Int))
 | 3 => IsV (.agg #[u, v, E])
 | 4 => IsV (.int .i64 (j : Int))
 | 5 => IsV (.int .i64 ((j : Int) + 1))
 | 6 => IsV (.int .i64 (z1 : Int))
 | 7 => IsV (.int .i64 (z : Int))
 | 8 => IsV (.int .i64 (z1 : Int))
 | _ => fun _ _ => True
theorem VB_any {b : Nat} {u v E : Value} {j z z1 : Nat} (i : Nat) (w w' : World) (x : Value) (hv : VB b u v E j z z1 i w x) : VB b u v E j z z1 i w' x := by
 match i, hv with
 | 0, hv => exact hv
 | 1, hv => exact hv
 | 2, hv => exact hv
 | 3, hv => exact hv
 | 4, hv => exact hv
 | 5, hv => exact hv
 | 6, hv => exact hv
 | 7, hv => exact hv
 | 8, hv => exact hv
 | n + 9, _ => trivial
structure SegV (w : World) (G : Nat → Prop) (s : Seg) (E : Value) : Prop where
 ex : ∃ A c, E = .slice A s.recs.length c ∧ Row w A G (endsC s.recs)
theorem SegV.one {w : World} {G : Nat → Prop} {s : Seg} {E : Value} (h : SegV w G s E) : E.oneCell' = true := by
 obtain ⟨A, c, rfl, _⟩ := h.ex; rfl
theorem SegV.keep {w w' : World} {G : Nat → Prop} {s : Seg} {E : Value} (h : SegV w G s E) (hk : Keeps G w w') : SegV w' G s E := by
 obtain ⟨A, c, e, hr⟩ := h.ex; exact ⟨A, c, e, hr.keep hk⟩
theorem SegV.mono {w : World} {G H : Nat → Prop} {s : Seg} {E : Value} (h : SegV w G s E) (hh : ∀ b, G b → H b) : SegV w H s E := by
 obtain ⟨A, c, e, hr⟩ := h.ex; exact ⟨A, c, e, hr.mono fun b _ hb => hh b hb⟩
theorem seg_start (w : World) (G : Nat → Prop) (s : Seg) (E u v : Value) (h : SegV w G s E) (h1 : u.oneCell' = true) (h2 : v.oneCell' = true) (hn : s.recs.length ≤ 4096) (i : Nat) (hi : i ≤ s.recs.length) :
  Calls Tryz.prog 149 #[.agg #[u, v, E], .int .i64 (i : Int)] w fun e w' => e = .returned (.int .i64 (endAt s.recs i : Int)) ∧ Kp w w' := by
 obtain ⟨A, c, rfl, hr⟩ := h.ex
 exact start_any w u v A c G s.recs h1 h2 hr hn i hi
theorem seg_count (w : World) (G : Nat → Prop) (s : Seg) (E u v : Value) (h : SegV w G s E) (h1 : u.oneCell' = true) (h2 : v.oneCell' = true) :
  Calls Tryz.prog 148 #[.agg #[u, v, E]] w fun e w' => e = .returned (.int .i64 (s.recs.length : Int)) ∧ Kp w w' := by
 obtain ⟨A, c, rfl, hr⟩ := h.ex
 exact count_any w u v A _ c h1 h2
theorem body_any (w : World) (hT : Taken w) (q p i n : Nat) (hL : LHead w q p i n) (F : Foot) (s : SDev) (hd : DAt w p F s) (sg : Seg) (E : Value) (G : Nat → Prop) (hE : SegV w G sg E) (hok : sg.Ok) (hon : SegOn s.now i sg)
  (hi : i ≤ 2048) (hsl : sg.slot ≤ 2048) (hf : sg.first ≤ 274877906943) (hin : i + sg.slot * 8 + 8 ≤ s.now.length) (j : Nat) (hj : j < sg.recs.length) :
  Calls Tryz.prog 119 #[.pointer (some ⟨q, 0, none⟩), .agg #[.int .i64 (sg.slot : Int), .int .i64 (sg.first : Int), E], .int .i64 (j : Int)] w fun e w' => ∃ b, e = .returned (.tuple #[b, .bool true]) ∧ BodyV w w' b (sg.recs[j]).body ∧ Kp w w' := by
 have hcnt := hok.count
 have hlen := hok.len
 obtain ⟨z, hz⟩ : ∃ z, endAt sg.recs j = z := ⟨_, rfl⟩
 obtain ⟨z1, hz1⟩ : ∃ z1, endAt sg.recs (j + 1) = z1 := ⟨_, rfl⟩
 have hlt : z < z1 := by rw [← hz, ← hz1]; exact endAt_lt _ _ hj
 have hle : z1 ≤ sg.text.length := by rw [← hz1]; exact endAt_le _ _
 have hst : ∀ w', Kp w w' → ∀ k, k ≤ sg.recs.length → _ := fun w' hk k hkl => seg_start w' G sg E (.int .i64 (sg.slot : Int)) (.int .i64 (sg.first : Int)) (hE.keep (hk.mono fun _ _ _ => trivial)) rfl rfl (by omega) k hkl
 have HST := Hd hst
 have HSM := Hd (fun (w' : World) (hk : Kp w w') (a e : Nat) (hae : a ≤ e) (he : e ≤ 8) => stream_any w' (hT.keep hk) q p i n (hL.keep hk trivial) F s (hd.keep (hk.mono fun _ _ _ => trivial)) sg.slot sg.first sg.text E hE.one hon.has hon.rest hlen hi hsl hf hin a e hae he)
 have HREC := Hd (show (sg.text.drop z).take (z1 - z) = putT (sg.recs[j]).body by rw [← hz, ← hz1]; exact strm_rec sg.recs j hj)
 have HB3 := Hd (hok.one _ (List.getElem_mem hj)).2
 have hEone := hE.one
 have HZ := Hd hz
 have HZ1 := Hd hz1
 have HJ := Hd hj
 have hk0 : Kp w (w.alloc (.cells #[.int .i64 (sg.slot : Int), .int .i64 (sg.first : Int), E] 179)) := (Keeps.refl _ w).alloc _
 have HK0 := Hd hk0
 have HB0 := Hd (SBox.new w sg.slot sg.first E)
 have HZ0 := Hd (show w.heap.size < (w.alloc (.cells #[.int .i64 (sg.slot : Int), .int .i64 (sg.first : Int), E] 179)).heap.size from by simp)
 generalize (sg.recs[j]).body = y at HREC HB3 ⊢
 have hj300 : j ≤ 300 := by omega
 clear hT hL hd hE hok hon hst hz hz1 hj hk0 hin
 go_enter Tryz.func119, Tryz.ntmps119
 go_wp2_with fail
 obtain ⟨w0, hw0⟩ : ∃ w0, w.alloc (.cells #[.int .i64 (sg.slot : Int), .int .i64 (sg.first : Int), E] 179) = w0 := ⟨_, rfl⟩
 rw [hw0]
 rw [hw0] at HK0 HB0 HZ0
 clear hw0
 refine wp_region_guard (R := Kp) (V := VB w.heap.size (.int .i64 (sg.slot : Int)) (.int .i64 (sg.first : Int)) E j z z1) (w0 := w0) GE (by kernel_rfl) (fun w => Keeps.refl _ w) (fun _ _ _ h k => h.trans k) (fun i w w' v _ hv => VB_any i w w' v hv) (by kernel_rfl) GE_is (fun i o ho hw => (all_wanted (by kernel_rfl) ho hw).elim) ((Keeps.refl _ w0).drew) (each_of ?_) ?_
 ·refine ⟨?_, ?_, ?_, ?_, ?_, ?_, ?_, ?_, ?_, trivial⟩ <;> intro hw a1 w3 L
  ·have hb := HB0.out.keep L.rel trivial
   exact kp_lG hb.s hb.f hb.e rfl (L.o 4)
  ·exact kp_move rfl (L.o 2)
  ·have e0 : a1.eval (.tmp 11) = .agg #[.int .i64 (sg.slot : Int), .int .i64 (sg.first : Int), E] := L.v 0 11
   have e1 : a1.eval (.tmp 12) = .int .i64 (j : Int) := L.v 1 12
   have hf : a1.eval (.func 149) = .func (.func 149) #[] #[] := rfl
   refine kp_enter (f := 149) (args := #[.agg #[.int .i64 (sg.slot : Int), .int .i64 (sg.first : Int), E], .int .i64 (j : Int)]) ?_ (HST.out w3 (HK0.out.trans L.rel) j (Nat.le_of_lt HJ.out)) ?_
   ·clear L
    generalize a1.eval = ρ at e0 e1 hf ⊢
    unfold execOp
    go_simp
   ·rintro e w' ⟨rfl, hk⟩
    exact ⟨_, rfl, hk, by rw [HZ.out]; rfl⟩
  ·have hb := HB0.out.keep L.rel trivial
   exact kp_lG hb.s hb.f hb.e rfl (L.o 4)
  ·exact kp_move rfl (L.o 2)
  ·have e0 : a1.eval (.tmp 15) = .int .i64 (j : Int) := L.v 4 15
   have hcn : a1.eval (.const (.int .i64 1)) = .int .i64 1 := rfl
   have hw1 : IntKind.i64.wrap ((j : Int) + 1) = (j : Int) + 1 := by rw [IntKind.wrap_i64]; omega
   refine kp_yield (v := .int .i64 ((j : Int) + 1)) (w' := w3) ?_ (Keeps.refl _ _) rfl
   clear L
   generalize a1.eval = ρ at e0 hcn ⊢
   unfold execOp
   go_simp
  ·have e0 : a1.eval (.tmp 14) = .agg #[.int .i64 (sg.slot : Int), .int .i64 (sg.first : Int), E] := L.v 3 14
   have e1 : a1.eval (.tmp 16) = .int .i64 ((j : Int) + 1) := L.v 5 16
   have hf : a1.eval (.func 149) = .func (.func 149) #[] #[] := rfl
   have hc := HST.out w3 (HK0.out.trans L.rel) (j + 1) HJ.out
   rw [show ((j + 1 : Nat) : Int) = (j : Int) + 1 by omega] at hc
   refine kp_enter (f := 149) (args := #[.agg #[.int .i64 (sg.slot : Int), .int .i64 (sg.first : Int), E], .int .i64 ((j : Int) + 1)]) ?_ hc ?_
   ·clear L hc
    generalize a1.eval = ρ at e0 e1 hf ⊢
    unfold execOp
    go_simp
   ·rintro e w' ⟨rfl, hk⟩
    exact ⟨_, rfl, hk, by rw [HZ1.out]; rfl⟩
  ·exact kp_assign rfl (L.v 2 13)
  ·exact kp_assign rfl (L.v 6 17)
 ·intro vs w4 hk4 hlen4 hv
  match vs, hlen4 with
  | [v0, v1, v2, v3, v4, v5, v6, v7, v8], _ =>
   have e7 : v7 = .int .i64 (z : Int) := hv 7 8 (by kernel_rfl)
   have e8 : v8 = .int .i64 (z1 : Int) := hv 8 9 (by kernel_rfl)
   clear hv
   subst e7 e8
   simp only [putAll, List.map, Act.put, List.setIfInBounds_toArray, List.set_cons_succ, List.set_cons_zero, Exit.then]
   have hb4 := HB0.out.keep hk4 trivial
   have c0 := hb4.s
   have c1 := hb4.f
   have c2 := hb4.e
   have HK4 := Hd (HK0.out.trans hk4)
   clear hk4 hb4
   obtain ⟨a, ha⟩ : ∃ a, z / 53 = a := ⟨_, rfl⟩
   obtain ⟨r, hr⟩ : ∃ r, (z1 - 1) / 53 = r := ⟨_, rfl⟩
   obtain ⟨u, hu⟩ : ∃ u, z - 53 * a = u := ⟨_, rfl⟩
   obtain ⟨v, hv⟩ : ∃ v, z1 - 53 * a = v := ⟨_, rfl⟩
   have q1 : (z : Int) / 53 = (a : Int) := by omega
   have q1' : (z : Int).tdiv 53 = (a : Int) := by rw [Int.tdiv_eq_ediv_of_nonneg (by omega)]; exact q1
   have q2 : ((z1 : Int) - 1) / 53 = (r : Int) := by omega
   have q2' : ((z1 : Int) - 1).tdiv 53 = (r : Int) := by rw [Int.tdiv_eq_ediv_of_nonneg (by omega)]; exact q2
   have q4 : (z : Int) - (a : Int) * 53 = (u : Int) := by omega
   have q5 : (z1 : Int) - (a : Int) * 53 = (v : Int) := by omega
   have b1 : a ≤ 8 := by omega
   have b2 : r ≤ 7 := by omega
   have b3 : a ≤ r + 1 := by omega
   have hs := HSM.out w4 HK4.out a (r + 1) (by omega) (by omega)
   rw [show ((r + 1 : Nat) : Int) = (r : Int) + 1 by omega] at hs
   have HS := Hd hs
   have hsub := sub_take sg.text a (r + 1 - a) z z1 (by omega) hlt (by omega)
   rw [HREC.out, hu, hv] at hsub
   have hnl : ((sg.text.drop (53 * a)).take (53 * (r + 1 - a))).length = min (53 * (r + 1 - a)) (sg.text.length - 53 * a) := by rw [List.length_take, List.length_drop]
   generalize hl : (sg.text.drop (53 * a)).take (53 * (r + 1 - a)) = l at HS hsub hnl
   have hvl : v ≤ l.length := by omega
   have huv : u < v := by omega
   have hll : l.length ≤ 424 := by omega
   have HSUB := Hd hsub
   clear hs hsub hl hnl HSM HST
   go_wp2_with fail
   refine HS.out.mono ?_
   rintro e' w5 ⟨vo, rfl, ho, hk5⟩
   obtain ⟨g, c, rfl, hbase, hglt⟩ := ho.form (by omega)
   have hroom := own_room ho
   have HC := Hd (cut_any w5 g 0 c l.length u v _ l y (own_row ho) rfl hroom.1 hroom.2 huv hvl HSUB.out HB3.out)
   have HK5 := Hd (HK4.out.trans hk5)
   clear ho hk5 hroom HS HK4 c0 c1 c2
   go_wp2_with fail
   refine HC.out.mono ?_
   rintro e' w6 ⟨bv, rfl, hbv, hk6⟩
   have H1 := Hd (hbv.from (w0 := w) HK5.out.size)
   have H2 := Hd (HK5.out.trans hk6)
   clear hbv hk6 HK5 HC
   go_wp2_with fail
   go_ret2
   exact ⟨_, rfl, H1.out, H2.out⟩
end Go.Proofs.YticophaepapjoaaGreatDoor
