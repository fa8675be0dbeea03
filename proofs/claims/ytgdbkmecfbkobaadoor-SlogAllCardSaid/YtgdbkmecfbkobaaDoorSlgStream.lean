/-
  THE PROGRAM's LOG: stream: what a segment's sectors hold.
-/
import Derived.Test.YtgdbkmecfbkobaaDoorSlgLoad
namespace Go.Proofs.YtgdbkmecfbkobaaDoor
open Go Go.RowKit Go.Joins

theorem nsec_big {n k : Nat} (h : nsec n ≤ k) : n ≤ 53 * k := by unfold nsec at h; omega
theorem take_all (l : List UInt8) (a m m' : Nat) (h : l.length ≤ 53 * (a + m)) (h' : m ≤ m') : (l.drop (53 * a)).take (53 * m) = (l.drop (53 * a)).take (53 * m') := by
  rw [List.take_of_length_le (by rw [List.length_drop]; omega), List.take_of_length_le (by rw [List.length_drop]; omega)]
/-- A segment's box. -/
structure SBox (w : World) (b sl f : Nat) (E : Value) : Prop where
  s : w.cell? ⟨b, 0, none⟩ = some (.int .i64 (sl : Int))
  f : w.cell? ⟨b, 1, none⟩ = some (.int .i64 (f : Int))
  e : w.cell? ⟨b, 2, none⟩ = some E
theorem SBox.keep {w w' : World} {b sl f : Nat} {E : Value} {F : Nat → Prop} (h : SBox w b sl f E) (hk : Keeps F w w') (hF : F b) : SBox w' b sl f E := ⟨hk.cell h.s hF, hk.cell h.f hF, hk.cell h.e hF⟩
theorem SBox.new (w : World) (sl f : Nat) (E : Value) : SBox (w.alloc (.cells #[.int .i64 (sl : Int), .int .i64 (f : Int), E] 67)) w.heap.size sl f E := by
  have h := heap_alloc_new w (.cells #[.int .i64 (sl : Int), .int .i64 (f : Int), E] 67)
  exact ⟨(cell_of_block h 0).trans rfl, (cell_of_block h 1).trans rfl, (cell_of_block h 2).trans rfl⟩

set_option maxRecDepth 100000 in
set_option maxHeartbeats 2000000 in
theorem stream_any (w : World) (hT : Taken w) (q p i n : Nat) (hL : LHead w q p i n) (F : Foot) (s : SDev) (hd : DAt w p F s) (sl f : Nat) (text : List UInt8) (E : Value) (hE : E.oneCell' = true)
    (hon : ∀ k, k < nsec text.length → secAt s.now i sl k = some (f * 8 + k, chunk text k)) (hrest : ∀ k, nsec text.length ≤ k → k < 8 → ∀ n x, secAt s.now i sl k = some (n, x) → n < f * 8) (hlen : text.length ≤ 424)
    (hi : i ≤ 2048) (hsl : sl ≤ 2048) (hf : f ≤ 274877906943) (hin : i + sl * 8 + 8 ≤ s.now.length) (a e : Nat) (hae : a ≤ e) (he : e ≤ 8) :
    Calls Tryd.prog 50 #[.pointer (some ⟨q, 0, none⟩), .agg #[.int .i64 (sl : Int), .int .i64 (f : Int), E], .int .i64 (a : Int), .int .i64 (e : Int)] w fun e' w' => ∃ v, e' = .returned v ∧ OwnB w' w.heap.size v ((text.drop (53 * a)).take (53 * (e - a))) ∧ Kp w w' := by
  have HT := Lib.hid hT
  have HL := Lib.hid hL
  have HD := Lib.hid hd
  have HON := Lib.hid hon
  have HRS := Lib.hid hrest
  have HLD := Lib.hid (fun (wr : World) (hk : Kp w wr) (k : Nat) (hk8 : k < 8) => lload_any wr (hT.keep hk) q p i n (hL.keep hk trivial) F s (hd.keep (hk.mono fun _ _ _ => trivial)) sl k hi hsl hk8 (by omega))
  have hk0 : Kp w (w.alloc (.cells #[.int .i64 (sl : Int), .int .i64 (f : Int), E] 67)) := (Keeps.refl _ w).alloc _
  have hb0 := SBox.new w sl f E
  have hz0 : (w.alloc (.cells #[.int .i64 (sl : Int), .int .i64 (f : Int), E] 67)).heap.size = w.heap.size + 1 := by simp
  have HK0 := Lib.hid hk0
  have HB0 := Lib.hid hb0
  have HZ0 := Lib.hid hz0
  clear hT hL hd hon hrest hk0 hb0 hz0 hin
  go_enter Tryd.func50, Tryd.ntmps50
  go_wp2_with fail
  go_loopw [2, 9] (fun vk vo wr => ∃ (k : Nat) (u : Value), a ≤ k ∧ k ≤ e ∧ vk = .int .i64 k ∧ u = vo ∧ OwnB wr (w.heap.size + 1) u ((text.drop (53 * a)).take (53 * (k - a))) ∧ Kp w wr ∧ SBox wr w.heap.size sl f E ∧ w.heap.size < wr.heap.size) (fun vk _ _ => e - (intOf vk).toNat)
  case atStart =>
    refine ⟨a, _, Nat.le_refl _, hae, rfl, rfl, ?_, HK0.out, HB0.out, by rw [HZ0.out]; omega⟩
    rw [Nat.sub_self, Nat.mul_zero, List.take_zero]
    exact World.ownsRow_nil _ _ _ _
  case round =>
    obtain ⟨k, u, hak, hke, rfl, hu, ho, hkp, hbx, hzr⟩ := hrel
    subst hu
    by_cases hlt : k < e
    · have hld := HLD.out wr hkp k (by omega)
      have HLC := Lib.hid hld
      have HO := Lib.hid ho
      have HK := Lib.hid hkp
      have HBX := Lib.hid hbx
      have c0 := hbx.s
      clear hld ho hkp hbx
      go_wp2_with fail
      refine HLC.out.mono ?_
      rintro e' w2 ⟨rfl, hk2⟩
      have hb2 := HBX.out.keep hk2 trivial
      have c0 := hb2.s
      have c1 := hb2.f
      have c2 := hb2.e
      have HK2 := Lib.hid (HK.out.trans hk2)
      have HO2 := Lib.hid (show OwnB w2 (w.heap.size + 1) u ((text.drop (53 * a)).take (53 * (k - a))) from hk2.own HO.out fun _ _ => trivial)
      have HB2 := Lib.hid hb2
      have HZ2 := Lib.hid (Nat.lt_of_lt_of_le hzr hk2.size)
      clear hk2 hb2 HLC HO HK HBX
      have hNN := Lib.hid (number_any w2 (.int .i64 (sl : Int)) f k E rfl hE (by omega) (by omega))
      by_cases hns : k < nsec text.length
      · rw [HON.out k hns]
        unfold ldV
        obtain ⟨N, hN⟩ : ∃ N, f * 8 + k = N := ⟨_, rfl⟩
        have hNN := hNN.out
        rw [hN] at hNN ⊢
        have HN := Lib.hid hNN
        clear hNN hN
        have hcl := chunk_len text k
        have hcx := chunk_next text a (k - a)
        rw [show a + (k - a) = k by omega, show k - a + 1 = k + 1 - a by omega] at hcx
        generalize hcc : chunk text k = cx at hcl hcx ⊢
        have HCX := Lib.hid hcx
        clear hcx hcc
        go_wp2_with fail
        refine HN.out.mono ?_
        rintro e' w3 ⟨rfl, hk3⟩
        have HK3 := Lib.hid (HK2.out.trans hk3)
        have HO3 := Lib.hid (show OwnB w3 (w.heap.size + 1) u ((text.drop (53 * a)).take (53 * (k - a))) from hk3.own HO2.out fun _ _ => trivial)
        have HB3 := Lib.hid (HB2.out.keep hk3 trivial)
        have HZ3 := Lib.hid (Nat.lt_of_lt_of_le HZ2.out hk3.size)
        have hle3 : w.heap.size + 1 ≤ w3.heap.size := HZ3.out
        have hl3 : ((text.drop (53 * a)).take (53 * (k - a))).length ≤ 424 := by rw [List.length_take, List.length_drop]; omega
        have hts := txt_size cx
        have hcx53 : cx.length ≤ 53 := by omega
        clear hk3 HN HK2 HO2 HB2 HZ2 c0 c1 c2
        go_wp2_with (at_builtin; refine byte_elem.list_append rfl (.tmp 36) (.tmp 37) _ rfl rfl HO3.out rfl (Src.ofString _ Tryd.underlying9 (txt cx)) ?c3 ?c4 ?c5 ?_)
        case c3 => unfold maxLen; omega
        case c4 => omega
        case c5 => omega
        intro v4 w4 ho4 hg4 hb4
        have hown3 := HO3.out
        have hk4 : Kp w w4 := HK3.out.grown hg4 fun b hb => by have := (hown3.lt b hb).1; omega
        have HB4 := Lib.hid (HB3.out.keep (Keeps.of_grown (F := fun b => u.ownBlock ≠ some b) hg4 fun b hb _ hn => hn hb) (fun e => by have := (hown3.lt _ e).1; omega))
        have ho4' : OwnB w4 (w.heap.size + 1) v4 ((text.drop (53 * a)).take (53 * (k + 1 - a))) := by
          rw [HCX.out]
          refine OwnB.snoc ho4 ?_ (by rw [bcells_str]; rfl)
          rw [List.length_append, List.length_take, List.length_drop, hcl]
        have HO4 := Lib.hid ho4'
        have HK4 := Lib.hid hk4
        have HZ4 := Lib.hid (Nat.lt_of_lt_of_le HZ3.out hg4.size)
        clear ho4 hg4 hb4 hown3 hk4 ho4' HO3 HK3 HB3 hl3 hle3
        have hcs : (decide (((txt cx).size : Int) < 53) = true ∧ cx.length < 53) ∨ decide (((txt cx).size : Int) < 53) = false := by
          by_cases h : cx.length < 53
          · left; exact ⟨by rw [hts]; simp; omega, h⟩
          · right; rw [hts]; simp; omega
        clear hts
        rcases hcs with ⟨t0, hb⟩ | t0
        · have HFIN := Lib.hid (show OwnB w4 w.heap.size v4 ((text.drop (53 * a)).take (53 * (e - a))) from by
            rw [← take_all text a (k + 1 - a) (e - a) (by omega) (by omega)]
            exact ownsRow_le HO4.out (by omega))
          go_wp2_with fail
          go_ret
          exact ⟨_, rfl, HFIN.out, HK4.out⟩
        · go_wp2_with fail
          go_roundw
          case rel => exact ⟨k + 1, _, by omega, by omega, by go_num, rfl, HO4.out, HK4.out, HB4.out, HZ4.out⟩
          case measure => simp [intOf]; omega
      · have hnb := nsec_big (Nat.le_of_not_lt hns)
        have HFIN := Lib.hid (show ∀ w3, Kp w2 w3 → OwnB w3 w.heap.size u ((text.drop (53 * a)).take (53 * (e - a))) from fun w3 hk3 => by
          rw [← take_all text a (k - a) (e - a) (by omega) (by omega)]
          exact hk3.own (ownsRow_le HO2.out (by omega)) fun _ _ => trivial)
        obtain ⟨r, hr⟩ : ∃ r, secAt s.now i sl k = r := ⟨_, rfl⟩
        have hm := fun m x h => HRS.out k (Nat.le_of_not_lt hns) (by omega) m x (hr.trans h)
        rw [hr]
        clear hr
        rcases r with _ | ⟨m, x⟩
        · unfold ldV
          clear hm
          go_wp2_with fail
          go_ret
          exact ⟨_, rfl, HFIN.out _ (Keeps.refl _ _), HK2.out⟩
        · have hm2 := hm m x rfl
          unfold ldV
          obtain ⟨N, hN⟩ : ∃ N, f * 8 + k = N := ⟨_, rfl⟩
          have hNN := hNN.out
          rw [hN] at hNN
          have HN := Lib.hid hNN
          have hne : (((m : Nat) : Int) != (N : Int)) = true := by simp; omega
          clear hNN hN hm hm2
          go_wp2_with fail
          refine HN.out.mono ?_
          rintro e' w3 ⟨rfl, hk3⟩
          have HK3 := Lib.hid hk3
          clear hk3
          go_wp2_with fail
          go_ret
          exact ⟨_, rfl, HFIN.out _ HK3.out, HK2.out.trans HK3.out⟩
    · obtain rfl : k = e := by omega
      have HFIN := Lib.hid (show OwnB wr w.heap.size u ((text.drop (53 * a)).take (53 * (k - a))) from ownsRow_le ho (by omega))
      have HK := Lib.hid hkp
      clear ho hkp hbx
      go_wp2_with fail
      go_ret
      exact ⟨_, rfl, HFIN.out, HK.out⟩

end Go.Proofs.YtgdbkmecfbkobaaDoor
