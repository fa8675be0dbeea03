/-
  THE PROGRAM's LOG: body: one record of a segment.
-/
import Derived.Test.YtgdbkmecfbkobaaDoorSlgCut
namespace Go.Proofs.YtgdbkmecfbkobaaDoor
open Go Go.RowKit Go.Joins

theorem sub_take (l : List UInt8) (a m z z1 : Nat) (h1 : 53 * a ≤ z) (h2 : z < z1) (h3 : z1 ≤ 53 * (a + m)) : (((l.drop (53 * a)).take (53 * m)).drop (z - 53 * a)).take (z1 - 53 * a - (z - 53 * a)) = (l.drop z).take (z1 - z) := by
  rw [List.drop_take, List.take_take, List.drop_drop]
  rw [show 53 * a + (z - 53 * a) = z by omega, show min (z1 - 53 * a - (z - 53 * a)) (53 * m - (z - 53 * a)) = z1 - z by omega]
def VB (_b : Nat) (u v E : Value) (j z z1 : Nat) : Nat → World → Value → Prop
  | 0 => IsV (.agg #[u, v, E])
  | 1 => IsV (.int .i64 (j : Int))
  | 2 => IsV (.int .i64 (z : Int))
  | 3 => IsV (.agg #[u, v, E])
  | 4 => IsV (.int .i64 (j : Int))
  | 5 => IsV (.int .i64 ((j : Int) + 1))
  | 6 => IsV (.int .i64 (z1 : Int))
  | 7 => IsV (.int .i64 (z : Int))
  | 8 => IsV (.int .i64 (z1 : Int))
  | _ => fun _ _ => True
theorem VB_any {b : Nat} {u v E : Value} {j z z1 : Nat} (i : Nat) (w w' : World) (x : Value) (hv : VB b u v E j z z1 i w x) : VB b u v E j z z1 i w' x := by
  match i, hv with
  | 0, hv => exact hv
  | 1, hv => exact hv
  | 2, hv => exact hv
  | 3, hv => exact hv
  | 4, hv => exact hv
  | 5, hv => exact hv
  | 6, hv => exact hv
  | 7, hv => exact hv
  | 8, hv => exact hv
  | n + 9, _ => trivial
/-- A segment's value in a world: its ends. -/
structure SegV (w : World) (G : Nat → Prop) (s : Seg) (E : Value) : Prop where
  ex : ∃ A c, E = .slice A s.recs.length c ∧ Row w A G (endsC s.recs)
theorem SegV.one {w : World} {G : Nat → Prop} {s : Seg} {E : Value} (h : SegV w G s E) : E.oneCell' = true := by
  obtain ⟨A, c, rfl, _⟩ := h.ex; rfl
theorem SegV.keep {w w' : World} {G : Nat → Prop} {s : Seg} {E : Value} (h : SegV w G s E) (hk : Keeps G w w') : SegV w' G s E := by
  obtain ⟨A, c, e, hr⟩ := h.ex; exact ⟨A, c, e, hr.keep hk⟩
theorem SegV.mono {w : World} {G H : Nat → Prop} {s : Seg} {E : Value} (h : SegV w G s E) (hh : ∀ b, G b → H b) : SegV w H s E := by
  obtain ⟨A, c, e, hr⟩ := h.ex; exact ⟨A, c, e, hr.mono fun b _ hb => hh b hb⟩
theorem seg_start (w : World) (G : Nat → Prop) (s : Seg) (E u v : Value) (h : SegV w G s E) (h1 : u.oneCell' = true) (h2 : v.oneCell' = true) (hn : s.recs.length ≤ 4096) (i : Nat) (hi : i ≤ s.recs.length) :
    Calls Tryd.prog 48 #[.agg #[u, v, E], .int .i64 (i : Int)] w fun e w' => e = .returned (.int .i64 (endAt s.recs i : Int)) ∧ Kp w w' := by
  obtain ⟨A, c, rfl, hr⟩ := h.ex
  exact start_any w u v A c G s.recs h1 h2 hr hn i hi
theorem seg_count (w : World) (G : Nat → Prop) (s : Seg) (E u v : Value) (h : SegV w G s E) (h1 : u.oneCell' = true) (h2 : v.oneCell' = true) :
    Calls Tryd.prog 47 #[.agg #[u, v, E]] w fun e w' => e = .returned (.int .i64 (s.recs.length : Int)) ∧ Kp w w' := by
  obtain ⟨A, c, rfl, hr⟩ := h.ex
  exact count_any w u v A _ c h1 h2

set_option maxRecDepth 100000 in
set_option maxHeartbeats 4000000 in
theorem body_any (w : World) (hT : Taken w) (q p i n : Nat) (hL : LHead w q p i n) (F : Foot) (s : SDev) (hd : DAt w p F s) (sg : Seg) (E : Value) (G : Nat → Prop) (hE : SegV w G sg E) (hok : sg.Ok) (hon : SegOn s.now i sg)
    (hi : i ≤ 2048) (hsl : sg.slot ≤ 2048) (hf : sg.first ≤ 274877906943) (hin : i + sg.slot * 8 + 8 ≤ s.now.length) (j : Nat) (hj : j < sg.recs.length) :
    Calls Tryd.prog 31 #[.pointer (some ⟨q, 0, none⟩), .agg #[.int .i64 (sg.slot : Int), .int .i64 (sg.first : Int), E], .int .i64 (j : Int)] w fun e w' => ∃ b, e = .returned (.tuple #[b, .bool true]) ∧ BodyV w w' b (sg.recs[j]).body ∧ Kp w w' := by
  have hcnt := hok.count
  have hlen := hok.len
  obtain ⟨z, hz⟩ : ∃ z, endAt sg.recs j = z := ⟨_, rfl⟩
  obtain ⟨z1, hz1⟩ : ∃ z1, endAt sg.recs (j + 1) = z1 := ⟨_, rfl⟩
  have hlt : z < z1 := by rw [← hz, ← hz1]; exact endAt_lt _ _ hj
  have hle : z1 ≤ sg.text.length := by rw [← hz1]; exact endAt_le _ _
  have hst : ∀ w', Kp w w' → ∀ k, k ≤ sg.recs.length → _ := fun w' hk k hkl => seg_start w' G sg E (.int .i64 (sg.slot : Int)) (.int .i64 (sg.first : Int)) (hE.keep (hk.mono fun _ _ _ => trivial)) rfl rfl (by omega) k hkl
  have HST := Lib.hid hst
  have HSM := Lib.hid (fun (w' : World) (hk : Kp w w') (a e : Nat) (hae : a ≤ e) (he : e ≤ 8) => stream_any w' (hT.keep hk) q p i n (hL.keep hk trivial) F s (hd.keep (hk.mono fun _ _ _ => trivial)) sg.slot sg.first sg.text E hE.one hon.has hon.rest hlen hi hsl hf hin a e hae he)
  have HREC := Lib.hid (show (sg.text.drop z).take (z1 - z) = putT (sg.recs[j]).body by rw [← hz, ← hz1]; exact strm_rec sg.recs j hj)
  have HB3 := Lib.hid (hok.one _ (List.getElem_mem hj)).2
  have hEone := hE.one
  have HZ := Lib.hid hz
  have HZ1 := Lib.hid hz1
  have HJ := Lib.hid hj
  have hk0 : Kp w (w.alloc (.cells #[.int .i64 (sg.slot : Int), .int .i64 (sg.first : Int), E] 67)) := (Keeps.refl _ w).alloc _
  have HK0 := Lib.hid hk0
  have HB0 := Lib.hid (SBox.new w sg.slot sg.first E)
  have HZ0 := Lib.hid (show w.heap.size < (w.alloc (.cells #[.int .i64 (sg.slot : Int), .int .i64 (sg.first : Int), E] 67)).heap.size from by simp)
  generalize (sg.recs[j]).body = y at HREC HB3 ⊢
  have hj300 : j ≤ 300 := by omega
  clear hT hL hd hE hok hon hst hz hz1 hj hk0 hin
  go_enter Tryd.func31, Tryd.ntmps31
  go_wp2_with fail
  obtain ⟨w0, hw0⟩ : ∃ w0, w.alloc (.cells #[.int .i64 (sg.slot : Int), .int .i64 (sg.first : Int), E] 67) = w0 := ⟨_, rfl⟩
  rw [hw0]
  rw [hw0] at HK0 HB0 HZ0
  clear hw0
  refine wp_region_guard (R := Kp) (V := VB w.heap.size (.int .i64 (sg.slot : Int)) (.int .i64 (sg.first : Int)) E j z z1) (w0 := w0) GE (by kernel_rfl) (fun w => Keeps.refl _ w) (fun _ _ _ h k => h.trans k) (fun i w w' v _ hv => VB_any i w w' v hv) (by kernel_rfl) GE_is (fun i o ho hw => (all_wanted (by kernel_rfl) ho hw).elim) ((Keeps.refl _ w0).drew) (each_of ?_) ?_
  · refine ⟨?_, ?_, ?_, ?_, ?_, ?_, ?_, ?_, ?_, trivial⟩ <;> intro hw a1 w3 L
    · have hb := HB0.out.keep L.rel trivial
      exact kp_lG hb.s hb.f hb.e rfl (L.old 4 (by kernel_rfl))
    · exact kp_move rfl (L.old 2 (by kernel_rfl))
    · have e0 : a1.eval (.tmp 11) = .agg #[.int .i64 (sg.slot : Int), .int .i64 (sg.first : Int), E] := L.val 0 11 (by kernel_rfl) (by kernel_rfl)
      have e1 : a1.eval (.tmp 12) = .int .i64 (j : Int) := L.val 1 12 (by kernel_rfl) (by kernel_rfl)
      have hf : a1.eval (.func 48) = .func (.func 48) #[] #[] := rfl
      refine kp_enter (f := 48) (args := #[.agg #[.int .i64 (sg.slot : Int), .int .i64 (sg.first : Int), E], .int .i64 (j : Int)]) ?_ (HST.out w3 (HK0.out.trans L.rel) j (Nat.le_of_lt HJ.out)) ?_
      · clear L
        generalize a1.eval = ρ at e0 e1 hf ⊢
        unfold execOp
        go_simp
      · rintro e w' ⟨rfl, hk⟩
        exact ⟨_, rfl, hk, by rw [HZ.out]; rfl⟩
    · have hb := HB0.out.keep L.rel trivial
      exact kp_lG hb.s hb.f hb.e rfl (L.old 4 (by kernel_rfl))
    · exact kp_move rfl (L.old 2 (by kernel_rfl))
    · have e0 : a1.eval (.tmp 15) = .int .i64 (j : Int) := L.val 4 15 (by kernel_rfl) (by kernel_rfl)
      have hcn : a1.eval (.const (.int .i64 1)) = .int .i64 1 := rfl
      have hw1 : IntKind.i64.wrap ((j : Int) + 1) = (j : Int) + 1 := by rw [IntKind.wrap_i64]; omega
      refine kp_yield (v := .int .i64 ((j : Int) + 1)) (w' := w3) ?_ (Keeps.refl _ _) rfl
      clear L
      generalize a1.eval = ρ at e0 hcn ⊢
      unfold execOp
      go_simp
    · have e0 : a1.eval (.tmp 14) = .agg #[.int .i64 (sg.slot : Int), .int .i64 (sg.first : Int), E] := L.val 3 14 (by kernel_rfl) (by kernel_rfl)
      have e1 : a1.eval (.tmp 16) = .int .i64 ((j : Int) + 1) := L.val 5 16 (by kernel_rfl) (by kernel_rfl)
      have hf : a1.eval (.func 48) = .func (.func 48) #[] #[] := rfl
      have hc := HST.out w3 (HK0.out.trans L.rel) (j + 1) HJ.out
      rw [show ((j + 1 : Nat) : Int) = (j : Int) + 1 by omega] at hc
      refine kp_enter (f := 48) (args := #[.agg #[.int .i64 (sg.slot : Int), .int .i64 (sg.first : Int), E], .int .i64 ((j : Int) + 1)]) ?_ hc ?_
      · clear L hc
        generalize a1.eval = ρ at e0 e1 hf ⊢
        unfold execOp
        go_simp
      · rintro e w' ⟨rfl, hk⟩
        exact ⟨_, rfl, hk, by rw [HZ1.out]; rfl⟩
    · exact kp_assign rfl (L.val 2 13 (by kernel_rfl) (by kernel_rfl))
    · exact kp_assign rfl (L.val 6 17 (by kernel_rfl) (by kernel_rfl))
  · intro vs w4 hk4 hlen4 hv
    match vs, hlen4 with
    | [v0, v1, v2, v3, v4, v5, v6, v7, v8], _ =>
      have e7 : v7 = .int .i64 (z : Int) := hv 7 8 (by kernel_rfl)
      have e8 : v8 = .int .i64 (z1 : Int) := hv 8 9 (by kernel_rfl)
      clear hv
      subst e7 e8
      simp only [putAll, List.map, Act.put, List.setIfInBounds_toArray, List.set_cons_succ, List.set_cons_zero, Exit.then]
      have hb4 := HB0.out.keep hk4 trivial
      have c0 := hb4.s
      have c1 := hb4.f
      have c2 := hb4.e
      have HK4 := Lib.hid (HK0.out.trans hk4)
      clear hk4 hb4
      obtain ⟨a, ha⟩ : ∃ a, z / 53 = a := ⟨_, rfl⟩
      obtain ⟨r, hr⟩ : ∃ r, (z1 - 1) / 53 = r := ⟨_, rfl⟩
      obtain ⟨u, hu⟩ : ∃ u, z - 53 * a = u := ⟨_, rfl⟩
      obtain ⟨v, hv⟩ : ∃ v, z1 - 53 * a = v := ⟨_, rfl⟩
      have q1 : (z : Int) / 53 = (a : Int) := by omega
      have q1' : (z : Int).tdiv 53 = (a : Int) := by rw [Int.tdiv_eq_ediv_of_nonneg (by omega)]; exact q1
      have q2 : ((z1 : Int) - 1) / 53 = (r : Int) := by omega
      have q2' : ((z1 : Int) - 1).tdiv 53 = (r : Int) := by rw [Int.tdiv_eq_ediv_of_nonneg (by omega)]; exact q2
      have q4 : (z : Int) - (a : Int) * 53 = (u : Int) := by omega
      have q5 : (z1 : Int) - (a : Int) * 53 = (v : Int) := by omega
      have b1 : a ≤ 8 := by omega
      have b2 : r ≤ 7 := by omega
      have b3 : a ≤ r + 1 := by omega
      have hs := HSM.out w4 HK4.out a (r + 1) (by omega) (by omega)
      rw [show ((r + 1 : Nat) : Int) = (r : Int) + 1 by omega] at hs
      have HS := Lib.hid hs
      have hsub := sub_take sg.text a (r + 1 - a) z z1 (by omega) hlt (by omega)
      rw [HREC.out, hu, hv] at hsub
      have hnl : ((sg.text.drop (53 * a)).take (53 * (r + 1 - a))).length = min (53 * (r + 1 - a)) (sg.text.length - 53 * a) := by rw [List.length_take, List.length_drop]
      generalize hl : (sg.text.drop (53 * a)).take (53 * (r + 1 - a)) = l at HS hsub hnl
      have hvl : v ≤ l.length := by omega
      have huv : u < v := by omega
      have hll : l.length ≤ 424 := by omega
      have HSUB := Lib.hid hsub
      clear hs hsub hl hnl HSM HST
      go_wp2_with fail
      refine HS.out.mono ?_
      rintro e' w5 ⟨vo, rfl, ho, hk5⟩
      obtain ⟨g, c, rfl, hbase, hglt⟩ := ho.form (by omega)
      have hroom := own_room ho
      have HC := Lib.hid (cut_any w5 g 0 c l.length u v _ l y (own_row ho) rfl hroom.1 hroom.2 huv hvl HSUB.out HB3.out)
      have HK5 := Lib.hid (HK4.out.trans hk5)
      clear ho hk5 hroom HS HK4 c0 c1 c2
      go_wp2_with fail
      refine HC.out.mono ?_
      rintro e' w6 ⟨bv, rfl, hbv, hk6⟩
      have H1 := Lib.hid (hbv.from (w0 := w) HK5.out.size)
      have H2 := Lib.hid (HK5.out.trans hk6)
      clear hbv hk6 HK5 HC
      go_wp2_with fail
      go_ret2
      exact ⟨_, rfl, H1.out, H2.out⟩

end Go.Proofs.YtgdbkmecfbkobaaDoor
