/-
  THE PROGRAM's LOG: segment: what lies in a slot.
-/
import Derived.Test.YtgdbkmecfbkobaaDoorSlgReads
namespace Go.Proofs.YtgdbkmecfbkobaaDoor
open Go Go.RowKit Go.Joins

/-- A segment that a call has read: its ends' row is the call's own. -/
def SegO (base sl f : Nat) (rs : List LRec) : World → Value → Prop := fun w v => ∃ A c, v = .agg #[.int .i64 (sl : Int), .int .i64 (f : Int), .slice A rs.length c] ∧ w.ownsRow base 3 1 (.slice A rs.length c) rs.length (endsC rs)
def SegR (text : List UInt8) : World → Value → Prop := fun w v => ∃ g c, v = .slice (some ⟨g, 0, none⟩) text.length c ∧ text.length ≤ c ∧ c ≤ maxLen ∧ Row w (some ⟨g, 0, none⟩) (fun _ => True) (bcells text)
/-- Ahead of the storing, behind it. -/
def StZ (w1 : World) (b base sl f : Nat) (rs : List LRec) : Bool → World → Prop
  | false, w => w.heap[b]? = some (.cells #[.int .i64 0, .int .i64 0, .slice none 0 0] 67 (0, 0)) ∧ Kp w1 w
  | true, w => ∃ A c, w.heap[b]? = some (.cells #[.int .i64 (sl : Int), .int .i64 (f : Int), .slice A rs.length c] 67 (0, 0)) ∧ w.ownsRow base 3 1 (.slice A rs.length c) rs.length (endsC rs) ∧ Keeps (fun x => x ≠ b) w1 w
theorem StZ.keep {w1 w w' : World} {b base sl f : Nat} {rs : List LRec} {x : Bool} (h : Kp w w') (hs : StZ w1 b base sl f rs x w) : StZ w1 b base sl f rs x w' := by
  cases x
  · exact ⟨(h.block b trivial (Array.getElem?_eq_some_iff.1 hs.1).1).trans hs.1, hs.2.trans h⟩
  · obtain ⟨A, c, h1, h2, h3⟩ := hs
    exact ⟨A, c, (h.block b trivial (Array.getElem?_eq_some_iff.1 h1).1).trans h1, h.own h2 fun _ _ => trivial, h3.trans (h.mono fun _ _ _ => trivial)⟩
theorem StZ.kp {w1 w : World} {b base sl f : Nat} {rs : List LRec} (x : Bool) (hs : StZ w1 b base sl f rs x w) : Keeps (fun y => y ≠ b) w1 w := by
  cases x
  · exact hs.2.mono fun _ _ _ => trivial
  · obtain ⟨A, c, h1, h2, h3⟩ := hs
    exact h3
def VZ (q b9 base sl f : Nat) (rs : List LRec) (b4 : Nat) : Nat → World → Value → Prop
  | 0 => IsV (.int .i64 (sl : Int))
  | 1 => IsV (.pointer (some ⟨b9, 1, none⟩))
  | 2 => IsV (.int .i64 (f : Int))
  | 3 => IsV (.pointer (some ⟨q, 0, none⟩))
  | 4 => IsV (.agg #[.int .i64 (sl : Int), .int .i64 (f : Int), .slice none 0 0])
  | 5 => fun w v => SegR (strm rs) w v ∧ b4 < w.heap.size ∧ (∀ A n c, v = .slice A n c → ∀ a, A = some a → a.block ≠ b4)
  | 6 => fun w v => SegO base sl f rs w v ∧ b4 < base
  | 7 => fun _ _ => True
  | 8 => IsV (.bool true)
  | _ => fun _ _ => True
theorem VZ_mono {q b9 base sl f : Nat} {rs : List LRec} {b4 : Nat} (i : Nat) (w w' : World) (x : Value) (h : Keeps (fun y => y ≠ b4) w w') (hv : VZ q b9 base sl f rs b4 i w x) : VZ q b9 base sl f rs b4 i w' x := by
  match i, hv with
  | 0, hv => exact hv
  | 1, hv => exact hv
  | 2, hv => exact hv
  | 3, hv => exact hv
  | 4, hv => exact hv
  | 5, hv =>
    obtain ⟨⟨g, c, e, h1, h2, hr⟩, hlt, hn⟩ := hv
    refine ⟨⟨g, c, e, h1, h2, ?_⟩, Nat.lt_of_lt_of_le hlt h.size, hn⟩
    have hg : g ≠ b4 := hn _ _ _ e _ rfl
    intro hne
    obtain ⟨b, o, e2, -, hc⟩ := hr hne
    injection e2 with e2
    injection e2 with e3 e4
    subst e3 e4
    exact ⟨g, 0, rfl, trivial, fun i v hv => h.cell (hc i v hv) hg⟩
  | 6, hv =>
    obtain ⟨⟨A, c, e, ho⟩, hlt⟩ := hv
    exact ⟨⟨A, c, e, h.own ho fun b hb => by have := (ho.lt b hb).1; omega⟩, hlt⟩
  | 7, hv => exact hv
  | 8, hv => exact hv
  | n + 9, _ => trivial

set_option maxRecDepth 100000 in
set_option maxHeartbeats 2000000 in
theorem segm_no (w : World) (hT : Taken w) (q p i n : Nat) (hL : LHead w q p i n) (F : Foot) (s : SDev) (hd : DAt w p F s) (sl : Nat) (hi : i ≤ 2048) (hsl : sl ≤ 2048) (hin : i + sl * 8 + 8 ≤ s.now.length) (hno : secAt s.now i sl 0 = none) :
    Calls Tryd.prog 56 #[.pointer (some ⟨q, 0, none⟩), .int .i64 (sl : Int)] w fun e w' => e = .returned (.tuple #[.agg #[.int .i64 0, .int .i64 0, .slice none 0 0], .bool false]) ∧ Kp w w' := by
  have HLD := Lib.hid (fun (wr : World) (hk : Kp w wr) => lload_any wr (hT.keep hk) q p i n (hL.keep hk trivial) F s (hd.keep (hk.mono fun _ _ _ => trivial)) sl 0 hi hsl (by omega) (by omega))
  have hk0 : Kp w (w.alloc (.cells #[.int .i64 0, .int .i64 0, .slice none 0 0] 67)) := (Keeps.refl _ w).alloc _
  have hb0 := heap_alloc_new w (.cells #[.int .i64 0, .int .i64 0, .slice none 0 0] 67)
  obtain ⟨w0, hw0⟩ : ∃ w0, w.alloc (.cells #[.int .i64 0, .int .i64 0, .slice none 0 0] 67) = w0 := ⟨_, rfl⟩
  have HW0 := Lib.hid hw0
  rw [hw0] at hk0 hb0
  have HK0 := Lib.hid hk0
  have HB0 := Lib.hid hb0
  have HNO := Lib.hid hno
  clear hT hL hd hk0 hb0 hw0 hno hin
  go_enter Tryd.func56, Tryd.ntmps56
  go_wp2_with fail
  rw [HW0.out]
  have hld := HLD.out w0 HK0.out
  rw [HNO.out] at hld
  unfold ldV at hld
  refine (show Calls _ _ _ _ _ from hld).mono ?_
  clear hld
  rintro e w1 ⟨rfl, hk1⟩
  have hb1 := (hk1.block _ trivial (Array.getElem?_eq_some_iff.1 HB0.out).1).trans HB0.out
  have c0 := (cell_of_block hb1 0).trans rfl
  have c1 := (cell_of_block hb1 1).trans rfl
  have c2 := (cell_of_block hb1 2).trans rfl
  have f0 := unfrozen_of_block hb1 0
  have f1 := unfrozen_of_block hb1 1
  have f2 := unfrozen_of_block hb1 2
  have hk := HK0.out.trans hk1
  have HFIN := Lib.hid (show ∀ v0 v1 v2, Kp w (((w1.setCell ⟨w.heap.size, 0, none⟩ v0).setCell ⟨w.heap.size, 1, none⟩ v1).setCell ⟨w.heap.size, 2, none⟩ v2) from fun v0 v1 v2 => ((hk.setCell (.inl (Nat.le_refl _)) _).setCell (.inl (Nat.le_refl _)) _).setCell (.inl (Nat.le_refl _)) _)
  have HCELL := Lib.hid (show ∀ v0 v1 v2, (((w1.setCell ⟨w.heap.size, 0, none⟩ v0).setCell ⟨w.heap.size, 1, none⟩ v1).setCell ⟨w.heap.size, 2, none⟩ v2).cell? ⟨w.heap.size, 0, none⟩ = some v0 ∧ (((w1.setCell ⟨w.heap.size, 0, none⟩ v0).setCell ⟨w.heap.size, 1, none⟩ v1).setCell ⟨w.heap.size, 2, none⟩ v2).cell? ⟨w.heap.size, 1, none⟩ = some v1 ∧ (((w1.setCell ⟨w.heap.size, 0, none⟩ v0).setCell ⟨w.heap.size, 1, none⟩ v1).setCell ⟨w.heap.size, 2, none⟩ v2).cell? ⟨w.heap.size, 2, none⟩ = some v2 from fun v0 v1 v2 => by
    have h1 := block_setCell (block_setCell (block_setCell hb1 (i := 0) v0) (i := 1) v1) (i := 2) v2
    exact ⟨(cell_of_block h1 0).trans rfl, (cell_of_block h1 1).trans rfl, (cell_of_block h1 2).trans rfl⟩)
  clear hb1 hk hk1 HB0 HK0 HLD
  go_wp2_with fail
  exact bodyPost_ret (v := .tuple #[.agg #[.int .i64 0, .int .i64 0, .slice none 0 0], .bool false]) (by simp [results, Tryd.results56, go_sem, HCELL.out]) rfl ⟨rfl, HFIN.out _ _ _⟩

/-- A store of a struct, as one operation of a region. -/
theorem one_store {P : Program} {w : World} {o : Oper} {a : Act} {Q : Exit → Act → World → Prop} (ty : TypeId) (x y : Operand) (ho : o.op = .store ty x y) (g j : Nat) (hx : a.eval x = .pointer (some ⟨g, j, none⟩)) (cs : List Value) (hy : a.eval y = .agg cs.toArray)
    (t : TypeId) (cur : Array Value) (hg : w.heap[g]? = some (.cells cur t (0, 0))) (hi : (P.info? ty).map (·.size) = some cs.length) (hfit : j + cs.length ≤ cur.size) (h1 : ∀ v ∈ cs, v.oneCell' = true) :
    o.wp P a w (fun a' w' => ∃ v, a' = a.put o.dst v ∧ w.grownBy w' (some g) ∧ w'.heap[g]? = some (.cells (cur.toList.take j ++ cs ++ cur.toList.drop (j + cs.length)).toArray t (0, 0))) Q := by
  unfold Oper.wp execOp
  simp only [ho, hx, hy, Instr.storeAt, Instr.sureAddr, Sem.run_bind, Sem.run_pure, Result.andThen_ok, run_store_part ty g j t cur cs hg hi hfit h1]
  exact ⟨_, rfl, ⟨rfl, rfl, rfl, by simp, fun k _ hk => setRow_other w g k _ (fun e => hk (by rw [e]))⟩, setRow_heap w g cur _ t _ hg⟩

set_option maxRecDepth 100000 in
set_option maxHeartbeats 4000000 in
theorem segm_yes (w : World) (hT : Taken w) (q p i n : Nat) (hL : LHead w q p i n) (F : Foot) (s : SDev) (hd : DAt w p F s) (sg : Seg) (hok : sg.Ok) (hfull : sg.recs ≠ []) (hon : SegOn s.now i sg) (hi : i ≤ 2048) (hsl : sg.slot ≤ 2048) (hf : sg.first ≤ 274877906943) (hin : i + sg.slot * 8 + 8 ≤ s.now.length) :
    Calls Tryd.prog 56 #[.pointer (some ⟨q, 0, none⟩), .int .i64 (sg.slot : Int)] w fun e w' => ∃ A c, e = .returned (.tuple #[.agg #[.int .i64 (sg.slot : Int), .int .i64 (sg.first : Int), .slice A sg.recs.length c], .bool true]) ∧ w'.ownsRow w.heap.size 3 1 (.slice A sg.recs.length c) sg.recs.length (endsC sg.recs) ∧ Kp w w' := by
  have hlen := hok.len
  have hpos : 0 < sg.recs.length := List.length_pos_iff.2 hfull
  have htl : 0 < sg.text.length := by
    have := strm_count sg.recs fun r h => (hok.one r h).1
    unfold Seg.text; omega
  have hsec : secAt s.now i sg.slot 0 = some (sg.first * 8, chunk sg.text 0) := hon.has 0 (by unfold nsec; omega)
  have HLD := Lib.hid (fun (wr : World) (hk : Kp w wr) => lload_any wr (hT.keep hk) q p i n (hL.keep hk trivial) F s (hd.keep (hk.mono fun _ _ _ => trivial)) sg.slot 0 hi hsl (by omega) (by omega))
  have HSM := Lib.hid (fun (w' : World) (hT' : Taken w') (hL' : LHead w' q p i n) (hd' : DAt w' p F s) => stream_any w' hT' q p i n hL' F s hd' sg.slot sg.first sg.text (.slice none 0 0) rfl hon.has hon.rest hlen hi hsl hf hin 0 8 (by omega) (by omega))
  have HPS := Lib.hid (fun (w' : World) (g c : Nat) (G : Nat → Prop) (hr : Row w' (some ⟨g, 0, none⟩) G (bcells (strm sg.recs))) (h1 : (strm sg.recs).length ≤ c) (h2 : c ≤ maxLen) => parse_seg w' sg.slot sg.first g 0 c G sg.recs hr h1 h2 hlen hok.one)
  have hk0 : Kp w (w.alloc (.cells #[.int .i64 0, .int .i64 0, .slice none 0 0] 67)) := (Keeps.refl _ w).alloc _
  have hb0 := heap_alloc_new w (.cells #[.int .i64 0, .int .i64 0, .slice none 0 0] 67)
  obtain ⟨w0, hw0⟩ : ∃ w0, w.alloc (.cells #[.int .i64 0, .int .i64 0, .slice none 0 0] 67) = w0 := ⟨_, rfl⟩
  have HW0 := Lib.hid hw0
  rw [hw0] at hk0 hb0
  have HK0 := Lib.hid hk0
  have HB0 := Lib.hid hb0
  have HSC := Lib.hid hsec
  have HT := Lib.hid hT
  have HL := Lib.hid hL
  have HD := Lib.hid hd
  have HRT := Lib.hid (show sg.text = strm sg.recs from rfl)
  have hz0 : w.heap.size < w0.heap.size := by rw [← hw0]; simp
  clear hT hL hd hk0 hb0 hw0 hin hsec hok hon hfull
  go_enter Tryd.func56, Tryd.ntmps56
  go_wp2_with fail
  rw [HW0.out]
  have hld := HLD.out w0 HK0.out
  rw [HSC.out] at hld
  unfold ldV at hld
  obtain ⟨N, hN⟩ : ∃ N, sg.first * 8 = N := ⟨_, rfl⟩
  rw [hN] at hld
  have q1 : (N : Int) / 8 = (sg.first : Int) := by omega
  have q1' : (N : Int).tdiv 8 = (sg.first : Int) := by rw [Int.tdiv_eq_ediv_of_nonneg (by omega)]; exact q1
  refine (show Calls _ _ _ _ _ from hld).mono ?_
  clear hld hN
  rintro e w1 ⟨rfl, hk1⟩
  have HB1 := Lib.hid ((hk1.block _ trivial (Array.getElem?_eq_some_iff.1 HB0.out).1).trans HB0.out)
  have HK1 := Lib.hid (HK0.out.trans hk1)
  have hz1 := hk1.size
  clear hk1 HB0 HK0 HLD
  go_wp2_with fail
  obtain ⟨w2, hw2⟩ : ∃ w2, w1.alloc (.cells #[.int .i64 (sg.slot : Int), .int .i64 (sg.first : Int), .slice none 0 0] 67) = w2 := ⟨_, rfl⟩
  have hk2 : Kp w1 w2 := by rw [← hw2]; exact (Keeps.refl _ w1).alloc _
  have HBX := Lib.hid (show SBox w2 w1.heap.size sg.slot sg.first (.slice none 0 0) from by rw [← hw2]; exact SBox.new w1 sg.slot sg.first (.slice none 0 0))
  rw [hw2]
  have HB2 := Lib.hid ((hk2.block _ trivial (Array.getElem?_eq_some_iff.1 HB1.out).1).trans HB1.out)
  have HK2 := Lib.hid (HK1.out.trans hk2)
  have hz2 : w1.heap.size < w2.heap.size := by rw [← hw2]; simp
  have hne : w1.heap.size ≠ w.heap.size := by omega
  have HQN := Lib.hid (show q ≠ w.heap.size from fun e => by have := World.block_lt_of_cell? w _ HL.out.d; simp only at this; omega)
  clear hk2 hw2 HB1 HK1
  have hL2 := HL.out.keep HK2.out trivial
  have hT2 := HT.out.keep HK2.out
  have hd2 := HD.out.keep (HK2.out.mono fun _ _ _ => trivial)
  have HL2 := Lib.hid hL2
  have HT2 := Lib.hid hT2
  have HD2 := Lib.hid hd2
  have HDN := Lib.hid (show ∀ b, F.all b → b ≠ w.heap.size from fun b hb e => by have := HD.out.lt b hb; omega)
  have HTN := Lib.hid (show ∀ k, k < 16 → (⟨0, k, none⟩ : Addr).block ≠ w.heap.size from fun k hk => by
    have h1 := World.block_lt_of_cell? w _ (HT.out k hk)
    show 0 ≠ w.heap.size
    simp only at h1
    omega)
  clear hL2 hT2 hd2
  refine wp_region_one (V := VZ q w1.heap.size w2.heap.size sg.slot sg.first sg.recs w.heap.size) (w0 := w2) 7 (StZ w2 w.heap.size w2.heap.size sg.slot sg.first sg.recs) (fun a b => Keeps (fun y => y ≠ w.heap.size) a b) GE (by kernel_rfl) (fun i a b v h hv => VZ_mono i a b v (h.mono fun _ _ _ => trivial) hv) (fun _ _ _ h hs => hs.keep h) (fun i _ a b v h hv => VZ_mono i a b v h hv) (by kernel_rfl) (by decide) GE_is (fun i o ho hw => (all_wanted (by kernel_rfl) ho hw).elim) ⟨HB2.out, (Keeps.refl _ w2).drew⟩ (each_of ?_) ?_
  · refine ⟨?_, ?_, ?_, ?_, ?_, ?_, ?_, ?_, ?_, trivial⟩ <;> intro hw a1 w3 L
    · rw [if_neg (by decide)]
      intro b hs _
      exact kp_move rfl (L.old 1 (by kernel_rfl))
    · rw [if_neg (by decide)]
      intro b hs _
      exact kp_fG1 rfl (L.old 9 (by kernel_rfl))
    · rw [if_neg (by decide)]
      intro b hs _
      exact kp_lI64 ((StZ.kp b hs).cell HBX.out.f hne) rfl (L.val 1 25 (by kernel_rfl) (by kernel_rfl))
    · rw [if_neg (by decide)]
      intro b hs _
      exact kp_move rfl (L.old 0 (by kernel_rfl))
    · rw [if_neg (by decide)]
      intro b hs _
      have hb := HBX.out.keep (StZ.kp b hs) hne
      exact kp_lG hb.s hb.f hb.e rfl (L.old 9 (by kernel_rfl))
    · rw [if_neg (by decide)]
      intro b hs _
      have hkk := StZ.kp b hs
      have e0 : a1.eval (.tmp 27) = .pointer (some ⟨q, 0, none⟩) := L.val 3 27 (by kernel_rfl) (by kernel_rfl)
      have e1 : a1.eval (.tmp 28) = .agg #[.int .i64 (sg.slot : Int), .int .i64 (sg.first : Int), .slice none 0 0] := L.val 4 28 (by kernel_rfl) (by kernel_rfl)
      have hf : a1.eval (.func 50) = .func (.func 50) #[] #[] := rfl
      have hcn : a1.eval (.const (.int .i64 0)) = .int .i64 0 := rfl
      have hcn2 : a1.eval (.const (.int .i64 8)) = .int .i64 8 := rfl
      have hst := HSM.out w3 (fun k hk => hkk.cell (HT2.out k hk) (HTN.out k hk)) (HL2.out.keep hkk HQN.out) (HD2.out.keep (hkk.mono fun b _ hb => HDN.out b hb))
      rw [show (53 * 0 : Nat) = 0 from rfl, List.drop_zero, List.take_of_length_le (show sg.text.length ≤ 53 * (8 - 0) by omega)] at hst
      refine kp_enter (f := 50) (args := #[.pointer (some ⟨q, 0, none⟩), .agg #[.int .i64 (sg.slot : Int), .int .i64 (sg.first : Int), .slice none 0 0], .int .i64 0, .int .i64 8]) ?_ hst ?_
      · clear L hs hkk hst
        generalize a1.eval = ρ at e0 e1 hf hcn hcn2 ⊢
        unfold execOp
        go_simp
      · rintro e w' ⟨v, rfl, ho, hk⟩
        obtain ⟨g, c, rfl, hbase, hglt⟩ := ho.form htl
        have hroom := own_room ho
        have hsz := hkk.size
        exact ⟨_, rfl, hk, ⟨g, c, by rw [← HRT.out], by rw [← HRT.out]; exact hroom.1, hroom.2, by rw [← HRT.out]; exact (own_row ho).mono fun _ _ _ => trivial⟩, by have := hk.size; omega, fun A n c e a ha => by
          injection e with e
          rw [ha] at e
          injection e with e
          rw [← e]
          show g ≠ w.heap.size
          omega⟩
    · rw [if_neg (by decide)]
      intro b hs _
      have hsz := (StZ.kp b hs).size
      have e0 : a1.eval (.tmp 24) = .int .i64 (sg.slot : Int) := L.val 0 24 (by kernel_rfl) (by kernel_rfl)
      have e1 : a1.eval (.tmp 26) = .int .i64 (sg.first : Int) := L.val 2 26 (by kernel_rfl) (by kernel_rfl)
      obtain ⟨⟨g, c, e2, h1, h2, hr⟩, -, -⟩ := L.val 5 29 (by kernel_rfl) (by kernel_rfl)
      have hf : a1.eval (.func 73) = .func (.func 73) #[] #[] := rfl
      refine kp_enter (f := 73) (args := #[.int .i64 (sg.slot : Int), .int .i64 (sg.first : Int), .slice (some ⟨g, 0, none⟩) (strm sg.recs).length c]) ?_ (HPS.out w3 g c _ hr h1 h2) ?_
      · clear L hs hr h1 h2
        generalize a1.eval = ρ at e0 e1 e2 hf ⊢
        unfold execOp
        go_simp
      · rintro e w' ⟨E, rfl, ho, hk⟩
        obtain ⟨A, cE, rfl, -, -⟩ := own_slice ho
        exact ⟨_, rfl, hk, ⟨A, cE, rfl, ownsRow_le ho (by omega)⟩, by omega⟩
    · rw [if_pos rfl]
      intro hs
      obtain ⟨⟨A, cE, e2, ho⟩, hlt⟩ := L.val 6 30 (by kernel_rfl) (by kernel_rfl)
      have e0 : a1.eval (.tmp 4) = .pointer (some ⟨w.heap.size, 0, none⟩) := L.old 4 (by kernel_rfl)
      refine Oper.wp_mono ?_ (one_store 67 (.tmp 4) (.tmp 30) rfl w.heap.size 0 e0 [.int .i64 (sg.slot : Int), .int .i64 (sg.first : Int), .slice A sg.recs.length cE] e2 67 _ hs.1 (by kernel_rfl) (Nat.le_refl 3) (fun v hv => by
        simp only [List.mem_cons, List.not_mem_nil, or_false] at hv
        rcases hv with rfl | rfl | rfl <;> rfl))
      rintro a' w' ⟨v, h1, hg, hb⟩
      have hkk := keeps_grown hg
      exact ⟨v, h1, hkk, ⟨A, cE, hb, hkk.own ho fun b hb => by have := (ho.lt b hb).1; omega, (hs.2.mono fun _ _ _ => trivial).trans hkk⟩, trivial⟩
    · rw [if_neg (by decide)]
      intro b hs _
      exact kp_assign rfl rfl
  · intro vs w4 hs4 hlen4 hv
    match vs, hlen4 with
    | [v0, v1, v2, v3, v4, v5, v6, v7, v8], _ =>
      have e8 : v8 = .bool true := hv 8 5 (by kernel_rfl)
      clear hv
      subst e8
      simp only [putAll, List.map, Act.put, List.setIfInBounds_toArray, List.set_cons_succ, List.set_cons_zero, Exit.then]
      obtain ⟨A, cE, hb4, ho4, hk4⟩ := hs4
      have c0 := (cell_of_block hb4 0).trans rfl
      have c1 := (cell_of_block hb4 1).trans rfl
      have c2 := (cell_of_block hb4 2).trans rfl
      have hkf : Kp w w4 := by
        have hk2 := HK2.out
        exact ⟨hk4.os.trans hk2.os, hk4.tape.trans hk2.tape, hk4.output.trans hk2.output, Nat.le_trans hk2.size hk4.size, fun b _ hb => (hk4.block b (by show b ≠ w.heap.size; omega) (Nat.lt_of_lt_of_le hb hk2.size)).trans (hk2.block b trivial hb)⟩
      have H1 := Lib.hid hkf
      have H2 := Lib.hid (ownsRow_le ho4 (show w.heap.size ≤ w2.heap.size by omega))
      clear hkf ho4 hk4 hb4
      go_wp2_with fail
      exact bodyPost_ret (v := .tuple #[.agg #[.int .i64 (sg.slot : Int), .int .i64 (sg.first : Int), .slice A sg.recs.length cE], .bool true]) (by simp [results, Tryd.results56, go_sem, c0, c1, c2]) rfl ⟨A, cE, rfl, H2.out, H1.out⟩

end Go.Proofs.YtgdbkmecfbkobaaDoor
